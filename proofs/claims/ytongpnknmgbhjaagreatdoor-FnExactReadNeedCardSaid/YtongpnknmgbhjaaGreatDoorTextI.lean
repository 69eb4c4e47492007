/-
  impl.VersionText: the text of a version.
-/
import Derived.Test.YtongpnknmgbhjaaGreatDoorJoinI
import Derived.Test.YtongpnknmgbhjaaGreatDoorTextS
import Derived.Test.YtongpnknmgbhjaaGreatDoorVerI
import Derived.Test.YtongpnknmgbhjaaGreatDoorDecI
import Derived.Deep.RegionHeld3
namespace Go.Proofs.YtongpnknmgbhjaaGreatDoor
open Go.RowKit

/-- The table of powers lies as the library lays it. -/
abbrev Tab (w : World) : Prop := Lib.TabIs Tryz.prog w "internal/strconv.uint64pow10" .u64 Lib.pow10Tab
theorem tab_below {w w' : World} (h : Tab w) (hb : Below w.heap.size w w') : Tab w' := by
  unfold Tab Lib.TabIs World.var? at h ⊢
  have hg : Tryz.prog.globalNamed "internal/strconv.uint64pow10" = some 3 := by kernel_rfl
  simp only [hg, Option.bind_some] at h ⊢
  have hlt : 3 < w.heap.size := by
    rcases Nat.lt_or_ge 3 w.heap.size with h' | h'
    · exact h'
    · rw [Array.getElem?_eq_none h'] at h; simp at h
  rw [hb.block _ hlt]
  exact h
/-- Three cells and the table, in a later world. -/
theorem keepT {W V : World} {A : Nat} {v0 v1 v2 : Value} (hb : Below W.heap.size W V) (h : W.cell? ⟨A, 0, none⟩ = some v0 ∧ W.cell? ⟨A, 1, none⟩ = some v1 ∧ W.cell? ⟨A, 2, none⟩ = some v2 ∧ Tab W) : V.cell? ⟨A, 0, none⟩ = some v0 ∧ V.cell? ⟨A, 1, none⟩ = some v1 ∧ V.cell? ⟨A, 2, none⟩ = some v2 ∧ Tab V :=
  ⟨keepC hb h.1, keepC hb h.2.1, keepC hb h.2.2.1, tab_below h.2.2.2 hb⟩

set_option maxRecDepth 100000 in
set_option maxHeartbeats 4000000 in
theorem implVersionText_any (a b c : Int) (base : Nat) (v : Value) (ls : List (List UInt8)) (w : World) (hr : Strs w base v ls) (hs : Sm ls) (ht : Tab w) :
    Calls Tryz.prog 162 #[.agg #[.int .i64 a, .int .i64 b, .int .i64 c, v]] w fun e w' => e = .returned (.string ⟨(verText a b c ls).toArray⟩) ∧ Below w.heap.size w w' := by
  have HV := Lib.hid (fun (W : World) (h : Below w.heap.size w W) => implVersionOk_any a b c v ls W ((RdS.of_strs hr).below h) hs)
  have B1 : Below w.heap.size w (w.alloc (.cells #[.int .i64 a, .int .i64 b, .int .i64 c, v] 127)) := (Below.refl _ _).alloc (Nat.le_refl _) _
  have hA1 := heap_alloc_new w (.cells #[.int .i64 a, .int .i64 b, .int .i64 c, v] 127)
  have HSS := Lib.hid (fun (W : World) (h : Below w.heap.size w W) => hr.below h)
  have HTT := Lib.hid (fun (W : World) (h : Below w.heap.size w W) => tab_below ht h)
  obtain ⟨ok, HO⟩ : ∃ ok, Hid (verOk a b c ls = ok) := ⟨_, Lib.hid rfl⟩
  have hl := hs.1
  have hform := hr.form
  clear hr hs ht
  cases ok
  · have HT : Hid (verText a b c ls = []) := Lib.hid (by unfold verText; rw [HO.out]; rfl)
    go_enter Tryz.func162, Tryz.ntmps162
    go_wp2_with fail
    refine (HV.out _ B1).mono ?_
    rw [HO.out]
    rintro e w2 ⟨rfl, hb2⟩
    have B2 := B1.trans (hb2.mono B1.size)
    go_wp2_with fail
    go_ret
    exact ⟨ret_str HT.out.symm, B2⟩
  · obtain ⟨⟨a0, a1⟩, ⟨b0, b1⟩, ⟨c0, c1⟩, h5⟩ := verOk_num HO.out
    have HLE := Lib.hid (verOk_len HO.out)
    have la := dec_len a0 a1
    have lb := dec_len b0 b1
    have lc := dec_len c0 c1
    have HT : Hid (verText a b c ls = nums a b c ++ preText ls) := Lib.hid (by unfold verText; rw [HO.out]; rfl)
    go_enter Tryz.func162, Tryz.ntmps162
    go_wp2_with fail
    refine (HV.out _ B1).mono ?_
    rw [HO.out]
    rintro e w2 ⟨rfl, hb2⟩
    have B2 := B1.trans (hb2.mono B1.size)
    have hA2 := keepB hA1 hb2
    clear hA1 hb2 B1
    obtain ⟨p0, p1, p2, p3⟩ := cells4 hA2
    have tb : Tab w2.drew := HTT.out _ (B2.trans (below_drew _ _))
    obtain ⟨Da, HDa⟩ : ∃ D, Hid (dec a = D) := ⟨_, Lib.hid rfl⟩
    obtain ⟨Db, HDb⟩ : ∃ D, Hid (dec b = D) := ⟨_, Lib.hid rfl⟩
    obtain ⟨Dc, HDc⟩ : ∃ D, Hid (dec c = D) := ⟨_, Lib.hid rfl⟩
    rw [HDa.out] at la
    rw [HDb.out] at lb
    rw [HDc.out] at lc
    obtain ⟨N1, HN1⟩ : ∃ N, Hid (N = Da ++ [46]) := ⟨_, Lib.hid rfl⟩
    obtain ⟨N2, HN2⟩ : ∃ N, Hid (N = N1 ++ Db) := ⟨_, Lib.hid rfl⟩
    obtain ⟨N3, HN3⟩ : ∃ N, Hid (N = N2 ++ [46]) := ⟨_, Lib.hid rfl⟩
    obtain ⟨N4, HN4⟩ : ∃ N, Hid (N = N3 ++ Dc) := ⟨_, Lib.hid rfl⟩
    have l1 : N1.length ≤ 21 := by rw [HN1.out]; simp; omega
    have l2 : N2.length ≤ 41 := by rw [HN2.out]; simp; omega
    have l3 : N3.length ≤ 42 := by rw [HN3.out]; simp; omega
    have l4 : N4.length ≤ 62 := by rw [HN4.out]; simp; omega
    have HNN : Hid (nums a b c = N4) := Lib.hid (by rw [HN4.out, HN3.out, HN2.out, HN1.out]; unfold nums; rw [HDa.out, HDb.out, HDc.out])
    have s1 : ∀ W, (Op.stringOp .add ⟨Da.toArray⟩ ⟨#[46]⟩).run Tryz.prog W = .ok (.string ⟨N1.toArray⟩) W := fun W => by rw [HN1.out]; exact run_string_add_lists W Da [46] (by omega) (by simp)
    have s2 : ∀ W, (Op.stringOp .add ⟨N1.toArray⟩ ⟨Db.toArray⟩).run Tryz.prog W = .ok (.string ⟨N2.toArray⟩) W := fun W => by rw [HN2.out]; exact run_string_add_lists W N1 Db (by omega) (by omega)
    have s3 : ∀ W, (Op.stringOp .add ⟨N2.toArray⟩ ⟨#[46]⟩).run Tryz.prog W = .ok (.string ⟨N3.toArray⟩) W := fun W => by rw [HN3.out]; exact run_string_add_lists W N2 [46] (by omega) (by simp)
    have s4 : ∀ W, (Op.stringOp .add ⟨N3.toArray⟩ ⟨Dc.toArray⟩).run Tryz.prog W = .ok (.string ⟨N4.toArray⟩) W := fun W => by rw [HN4.out]; exact run_string_add_lists W N3 Dc (by omega) (by omega)
    have HDT1 := Lib.hid (fun (W : World) (ht : Tab W) => (show Calls Tryz.prog 202 #[.int .i64 a] W fun e w' => e = .returned (.string ⟨Da.toArray⟩) ∧ Below W.heap.size W w' from HDa.out ▸ implDecText_any a (by omega) (by omega) W ht))
    have HDT2 := Lib.hid (fun (W : World) (ht : Tab W) => (show Calls Tryz.prog 202 #[.int .i64 b] W fun e w' => e = .returned (.string ⟨Db.toArray⟩) ∧ Below W.heap.size W w' from HDb.out ▸ implDecText_any b (by omega) (by omega) W ht))
    have HDT3 := Lib.hid (fun (W : World) (ht : Tab W) => (show Calls Tryz.prog 202 #[.int .i64 c] W fun e w' => e = .returned (.string ⟨Dc.toArray⟩) ∧ Below W.heap.size W w' from HDc.out ▸ implDecText_any c (by omega) (by omega) W ht))
    go_wp2_with fail
    go_region_held3 (fun W' => W'.cell? ⟨w.heap.size, 0, none⟩ = some (.int .i64 a) ∧ W'.cell? ⟨w.heap.size, 1, none⟩ = some (.int .i64 b) ∧ W'.cell? ⟨w.heap.size, 2, none⟩ = some (.int .i64 c) ∧ Tab W') (first | exact ⟨p0, p1, p2, tb⟩ | assumption | exact keepT hb5 (by assumption) | exact keepT hb4 (by assumption) | exact keepT hb3 (by assumption)) ((first | (go_at_call 202; (with_reducible refine (HDT1.out _ (by exact tb)).mono ?_); rintro e w3 ⟨rfl, hb3⟩; have tb3 := tab_below tb hb3) | (go_at_call 202; (with_reducible refine (HDT2.out _ (by exact tb3)).mono ?_); rintro e w4 ⟨rfl, hb4⟩; have tb4 := tab_below tb3 hb4) | (go_at_call 202; (with_reducible refine (HDT3.out _ (by exact tb4)).mono ?_); rintro e w5 ⟨rfl, hb5⟩)))
    have hA5 := keepB (keepB (keepB (W := w2.drew) hA2 hb3) hb4) hb5
    have BD := B2.trans (below_drew w.heap.size w2)
    have B3 := BD.trans (hb3.mono BD.size)
    have B4 := B3.trans (hb4.mono B3.size)
    have B5 := B4.trans (hb5.mono B4.size)
    clear hA2 p0 p1 p2 p3 hb3 hb4 hb5 BD B3 B4 tb tb3 tb4 s1 s2 s3 s4 B2
    obtain ⟨p0, p1, p2, p3⟩ := cells4 hA5
    rcases hform with ⟨rfl, rfl⟩ | ⟨g, cap, rfl, hgb, hgl⟩
    · have HE : Hid (verText a b c [] = N4) := Lib.hid (by rw [HT.out, HNN.out]; simp [preText])
      go_wp2_with fail
      go_ret
      exact ⟨ret_str HE.out.symm, B5⟩
    · by_cases h0 : ls = []
      · have HE : Hid (verText a b c ls = N4) := Lib.hid (by rw [HT.out, HNN.out, h0]; simp [preText])
        have z0 : ¬ (0 : Int) < (ls.length : Int) := by rw [h0]; simp
        clear h0
        go_wp2_with fail
        go_ret
        exact ⟨ret_str HE.out.symm, B5⟩
      · have hpos : (0 : Int) < (ls.length : Int) := by have : 0 < ls.length := by cases ls <;> simp_all
                                                        omega
        have HE : Hid (verText a b c ls = N4 ++ (45 :: Lib.join ls [46])) := Lib.hid (by rw [HT.out, HNN.out, join_pre h0])
        have hjl := join_len HLE.out h5
        clear h0
        obtain ⟨J, HJ⟩ : ∃ J, Hid (Lib.join ls [46] = J) := ⟨_, Lib.hid rfl⟩
        rw [HJ.out] at hjl
        go_wp2_with fail
        refine (joinDot_any w5 base g cap ls (HSS.out _ B5) HLE.out h5).mono ?_
        rw [HJ.out]
        rintro e w6 ⟨rfl, hb6⟩
        have B6 := B5.trans (hb6.mono B5.size)
        go_wp2_with fail
        go_ret
        refine ⟨?_, B6⟩
        rw [HE.out, HJ.out]
        exact congrArg Ending.returned (congrArg Value.string (bytes_ext (by simp)))
end Go.Proofs.YtongpnknmgbhjaaGreatDoor
