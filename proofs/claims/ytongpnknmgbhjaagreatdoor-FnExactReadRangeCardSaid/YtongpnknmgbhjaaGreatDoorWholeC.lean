/-
  impl.readLimits: the bound of >= and <.
-/
import Derived.Test.YtongpnknmgbhjaaGreatDoorWholeB
import Derived.Test.YtongpnknmgbhjaaGreatDoorRrM
import Derived.Test.YtongpnknmgbhjaaGreatDoorCharN
import Derived.Test.YtongpnknmgbhjaaGreatDoorWholeA
import Derived.Test.YtongpnknmgbhjaaGreatDoorCut
import Derived.Test.YtongpnknmgbhjaaGreatDoorRdB
import Derived.Deep.RegionWith
import Derived.LoopN
import Derived.Test.YtongpnknmgbhjaaGreatDoorRows
import Derived.Test.YtongpnknmgbhjaaGreatDoorBase
import Derived.Laws.OwnMore
import Derived.Laws.IdiomStrings
import Derived.Maps.AppendAt
import Derived.Laws.BitsAllLaws
import Derived.Deep.RegionLaw
import Derived.Deep.AppendLies
import Derived.Laws.BitsLemmas
import Derived.Lib.AppendStr
import Derived.Test.YtongpnknmgbhjaaGreatDoorCutM
import Derived.Lib.IndexMore
import Derived.Test.YtongpnknmgbhjaaGreatDoorHeap
/-
  spec.l03Below at each part, l03From, l03Caret, l03Short: the bounds that begin with a version.
-/
namespace Go.Proofs.YtongpnknmgbhjaaGreatDoor
open Go.RowKit

set_option maxRecDepth 100000 in
set_option maxHeartbeats 4000000 in
theorem l03Below_part (a b c p : Int) (A : Option Addr) (n cap : Nat) (w : World) (hv : verOk a b c [] = true) (hp : inI p 0 2 = true) :
    Calls Tryz.prog 155 #[.agg #[.int .i64 a, .int .i64 b, .int .i64 c, .slice A n cap], .int .i64 p] w fun e w' => e = .returned (.tuple #[.string ⟨(rsd a b c p).toArray⟩, .bool (!(rsd a b c p).isEmpty)]) ∧ Below w.heap.size w w' := by
  obtain ⟨hY, hN, hL⟩ := next_step hv hp
  obtain ⟨x, y, z, hx⟩ : ∃ x y z, nxt a b c [] p = (x, y, z) := ⟨_, _, _, rfl⟩
  have HE := Lib.hid (rsd_empty a b c p)
  have HT0 : Hid (rsd a b c p = verText x y z [[48]]) := Lib.hid (by unfold rsd; rw [hx])
  rw [hx] at HE hY hN
  simp only at HE hY hN
  have hr0 : ∀ (W : World), RdS W (.slice (some ⟨w.heap.size + 1, 0, none⟩) 0 0) [] := fun W => ⟨_, _, rfl, fun h => by simp at h⟩
  have B0 : Below w.heap.size w ((w.alloc (.cells #[.int .i64 a, .int .i64 b, .int .i64 c, .slice (some ⟨w.heap.size + 1, 0, none⟩) 0 0] 127)).alloc (.cells #[] 9)) := ((Below.refl _ _).alloc (Nat.le_refl _) _).alloc (by simp) _
  have bx := keepA (heap_alloc_new w (.cells #[.int .i64 a, .int .i64 b, .int .i64 c, .slice (some ⟨w.heap.size + 1, 0, none⟩) 0 0] 127)) (.cells #[] 9)
  cases hok : verOk x y z [] with
  | true =>
    obtain ⟨hN2, hcp⟩ := hY hok
    have HX := Lib.hid (fun (v : Value) (W : World) (h : RdS W v []) => specNext_any a b c p v [] W h sm_nil x y z [] hN2 hL)
    have HC := Lib.hid (fun (va vb : Value) (W : World) (h1 : RdS W va []) (h2 : RdS W vb []) => specCompareVersion_any x y z a b c va vb [] [] W h1 h2 sm_nil sm_nil)
    obtain ⟨q, HZ⟩ : ∃ q, Hid (cmpVer x y z [] a b c [] = q) := ⟨_, Lib.hid rfl⟩
    simp only [HZ.out] at HC
    rw [HZ.out] at hcp
    have hz : (q == 0) = false := int_beq_false hcp
    have HT := Lib.hid (fun (v : Value) (W : World) (h : RdS W v [[48]]) => specVersionText_any x y z v [[48]] W h sm_z)
    have HB : Hid (Ending.returned (.tuple #[.string ⟨(verText x y z [[48]]).toArray⟩, .bool true]) = Ending.returned (.tuple #[.string ⟨(rsd a b c p).toArray⟩, .bool (!(rsd a b c p).isEmpty)])) := Lib.hid (by rw [HE.out, hok, HT0.out]; rfl)
    rw [← HB.out]
    obtain ⟨t, HTT⟩ : ∃ t, Hid (verText x y z [[48]] = t) := ⟨_, Lib.hid rfl⟩
    simp only [HTT.out] at HT
    rw [HTT.out]
    clear hN hY hN2 hL hv hcp hp hx HE HT0 HB hok
    go_enter Tryz.func155, Tryz.ntmps155
    go_wp2_with fail
    refine (HX.out _ _ (hr0 _)).mono ?_
    rintro e w1 ⟨u, rfl, hu, hb1⟩
    obtain ⟨U, uc, rfl⟩ := hu.slice
    have B1 := B0.trans (hb1.mono B0.size)
    have b1 := keepB bx hb1
    have hu1 : ∀ W, RdS W (.slice U 0 uc) [] := fun W => ⟨_, _, rfl, fun h => by simp at h⟩
    have hs1 : w.heap.size ≤ w1.heap.size := B1.size
    clear hb1 bx B0 hu
    have B2 : Below w.heap.size w (w1.alloc (.cells #[.int .i64 x, .int .i64 y, .int .i64 z, .slice U 0 uc] 127)) := B1.alloc B1.size _
    have b2 := keepA b1 (.cells #[.int .i64 x, .int .i64 y, .int .i64 z, .slice U 0 uc] 127)
    have n2 := heap_alloc_new w1 (.cells #[.int .i64 x, .int .i64 y, .int .i64 z, .slice U 0 uc] 127)
    obtain ⟨p0, p1, p2, p3⟩ := cells4 b2
    go_wp2_with fail
    refine (HC.out _ _ _ (hu1 _) (hr0 _)).mono ?_
    rintro e w3 ⟨rfl, hb3⟩
    have B3 := B2.trans (hb3.mono B2.size)
    have n3 := keepB n2 hb3
    clear hb3 B2 b2 n2 p0 p1 p2 p3 b1 B1
    obtain ⟨q0, q1, q2, q3⟩ := cells4 n3
    have f3 := frozen4 n3 3
    have hs4 : w1.heap.size < w3.heap.size := lt_of_heap n3
    go_wp2_with fail
    refine (HT.out _ _ (rdS_lit1 _ _ (by simp) [48] _)).mono ?_
    rintro e w5 ⟨rfl, hb5⟩
    have B4 := (B3.setCell (p := ⟨w1.heap.size, 3, none⟩) hs1 (.slice (some ⟨w3.heap.size, 0, none⟩) 1 1)).alloc (by simp; omega) (.cells #[.string ⟨#[48]⟩] 9)
    go_wp2_with fail
    go_ret2
    exact ⟨rfl, B4.trans (hb5.mono (by simp; omega))⟩
  | false =>
    have hN2 := hN hok
    have HX := Lib.hid (fun (v : Value) (W : World) (h : RdS W v []) => specNext_any a b c p v [] W h sm_nil a b c [] hN2 hL)
    have HC := Lib.hid (fun (va vb : Value) (W : World) (h1 : RdS W va []) (h2 : RdS W vb []) => specCompareVersion_any a b c a b c va vb [] [] W h1 h2 sm_nil sm_nil)
    simp only [cmp_self] at HC
    have HB : Hid (Ending.returned (.tuple #[.string ⟨#[]⟩, .bool false]) = Ending.returned (.tuple #[.string ⟨(rsd a b c p).toArray⟩, .bool (!(rsd a b c p).isEmpty)])) := Lib.hid (by
      have he : rsd a b c p = [] := List.isEmpty_iff.1 (by rw [HE.out, hok]; rfl)
      rw [he]; rfl)
    rw [← HB.out]
    clear hN hY hN2 hL hv hp hx HE HT0 HB hok
    go_enter Tryz.func155, Tryz.ntmps155
    go_wp2_with fail
    refine (HX.out _ _ (hr0 _)).mono ?_
    rintro e w1 ⟨u, rfl, hu, hb1⟩
    obtain ⟨U, uc, rfl⟩ := hu.slice
    have B1 := B0.trans (hb1.mono B0.size)
    have b1 := keepB bx hb1
    have hu1 : ∀ W, RdS W (.slice U 0 uc) [] := fun W => ⟨_, _, rfl, fun h => by simp at h⟩
    clear hb1 bx B0 hu
    have B2 : Below w.heap.size w (w1.alloc (.cells #[.int .i64 a, .int .i64 b, .int .i64 c, .slice U 0 uc] 127)) := B1.alloc B1.size _
    have b2 := keepA b1 (.cells #[.int .i64 a, .int .i64 b, .int .i64 c, .slice U 0 uc] 127)
    obtain ⟨p0, p1, p2, p3⟩ := cells4 b2
    go_wp2_with fail
    refine (HC.out _ _ _ (hu1 _) (hr0 _)).mono ?_
    rintro e w3 ⟨rfl, hb3⟩
    go_wp2_with fail
    go_ret2
    exact ⟨rfl, B2.trans (hb3.mono B2.size)⟩

/-- The two cells of a result of two texts and a Bool, read at the return. -/
theorem alt_ret {w w' : World} {ok : Bool} {b : Bd} {x y : ByteArray} (h : ok = true → x = ⟨b.1.toArray⟩ ∧ y = ⟨b.2.toArray⟩) (hb : Below w.heap.size w w') : AltIs w ok b (.returned (.tuple #[.agg #[.string x, .string y], .bool ok])) w' := ⟨x, y, rfl, h, hb⟩

set_option maxRecDepth 100000 in
set_option maxHeartbeats 4000000 in
theorem l03From_any (l : List UInt8) (a b c p : Int) (A : Option Addr) (n cap : Nat) (w : World) (hv : verOk a b c [] = true) (hp : inI p 0 2 = true) :
    Calls Tryz.prog 98 #[.string ⟨l.toArray⟩, .agg #[.int .i64 a, .int .i64 b, .int .i64 c, .slice A n cap], .int .i64 p] w (AltIs w (!(rsd a b c p).isEmpty) (l, rsd a b c p)) := by
  have HB := Lib.hid (fun W => l03Below_part a b c p A n cap W hv hp)
  obtain ⟨hi, HH⟩ : ∃ hi, Hid (rsd a b c p = hi) := ⟨_, Lib.hid rfl⟩
  simp only [HH.out] at HB
  rw [HH.out]
  clear hv hp
  have B0 : Below w.heap.size w ((w.alloc (.cells #[.int .i64 a, .int .i64 b, .int .i64 c, .slice A n cap] 127)).alloc (.cells #[.string ⟨#[]⟩, .string ⟨#[]⟩] 73)) := ((Below.refl _ _).alloc (Nat.le_refl _) _).alloc (by simp) _
  have r0 := heap_new (W := w.alloc (.cells #[.int .i64 a, .int .i64 b, .int .i64 c, .slice A n cap] 127)) (n := w.heap.size + 1) (by simp) (.cells #[.string ⟨#[]⟩, .string ⟨#[]⟩] 73)
  cases he : hi.isEmpty with
  | true =>
    rw [he] at HB
    clear he
    go_enter Tryz.func98, Tryz.ntmps98
    go_wp2_with fail
    refine (HB.out _).mono ?_
    rintro e w1 ⟨rfl, hb1⟩
    have B1 := B0.trans (hb1.mono B0.size)
    obtain ⟨c0, c1, f1⟩ := cellsD (keepB r0 hb1)
    go_wp2_with fail
    refine bodyPost_ret (v := .tuple #[.agg #[.string ⟨#[]⟩, .string ⟨#[]⟩], .bool false]) ?_ rfl ⟨_, _, rfl, fun h => (by cases h), ?_⟩
    · simp [results, Tryz.results98, go_sem, c0, c1]
    · exact (B1.setCell (p := ⟨w.heap.size + 1, 0, none⟩) (Nat.le_succ _) _).setCell (p := ⟨w.heap.size + 1, 1, none⟩) (Nat.le_succ _) _
  | false =>
    rw [he] at HB
    clear he
    go_enter Tryz.func98, Tryz.ntmps98
    go_wp2_with fail
    refine (HB.out _).mono ?_
    rintro e w1 ⟨rfl, hb1⟩
    have B1 := B0.trans (hb1.mono B0.size)
    obtain ⟨c0, c1, f1⟩ := cellsD (keepB r0 hb1)
    go_wp2_with fail
    refine bodyPost_ret (v := .tuple #[.agg #[.string ⟨l.toArray⟩, .string ⟨hi.toArray⟩], .bool true]) ?_ rfl ⟨_, _, rfl, fun _ => ⟨rfl, rfl⟩, ?_⟩
    · simp [results, Tryz.results98, go_sem, c0, c1]
    · exact (B1.setCell (p := ⟨w.heap.size + 1, 0, none⟩) (Nat.le_succ _) _).setCell (p := ⟨w.heap.size + 1, 1, none⟩) (Nat.le_succ _) _

set_option maxRecDepth 100000 in
set_option maxHeartbeats 1000000 in
theorem l03Caret_any (a b c : Int) (A : Option Addr) (n cap : Nat) (w : World) :
    Calls Tryz.prog 99 #[.agg #[.int .i64 a, .int .i64 b, .int .i64 c, .slice A n cap]] w fun e w' => e = .returned (.int .i64 (if 0 < a then 0 else if 0 < b then 1 else 2)) ∧ Below w.heap.size w w' := by
  have B0 : Below w.heap.size w (w.alloc (.cells #[.int .i64 a, .int .i64 b, .int .i64 c, .slice A n cap] 127)) := (Below.refl _ _).alloc (Nat.le_refl _) _
  by_cases h0 : 0 < a
  · rw [if_pos h0]
    go_enter Tryz.func99, Tryz.ntmps99
    go_wp2_with fail
    go_ret
    exact ⟨rfl, B0⟩
  · rw [if_neg h0]
    by_cases h1 : 0 < b
    · rw [if_pos h1]
      go_enter Tryz.func99, Tryz.ntmps99
      go_wp2_with fail
      go_ret
      exact ⟨rfl, B0⟩
    · rw [if_neg h1]
      go_enter Tryz.func99, Tryz.ntmps99
      go_wp2_with fail
      go_ret
      exact ⟨rfl, B0⟩

set_option maxRecDepth 100000 in
set_option maxHeartbeats 4000000 in
theorem l03Short_0 (l : List UInt8) (w : World) (hl : l.length ≤ 1048000) (hc : l.count 46 = 0) :
    Calls Tryz.prog 102 #[.string ⟨l.toArray⟩] w (AltIs w (fromOk (l ++ [46, 48, 46, 48]) 0) (fromB (l ++ [46, 48, 46, 48]) 0)) := by
  have hcut := cutL_count 46 l
  rw [hc] at hcut
  have HCUT := Lib.hid (fun W => l01Cut_any ⟨l.toArray⟩ 46 W (by rw [size_of]; omega))
  simp only [hcut] at HCUT
  have HPRE : Hid (readP (l ++ [46, 48, 46, 48]) = []) := Lib.hid (by have := few_pre (l := l) (by omega); rw [hc] at this; exact this)
  have s1 : ∀ W, (Op.stringOp .add ⟨l.toArray⟩ ⟨#[46, 48]⟩).run Tryz.prog W = .ok (.string ⟨(l ++ [46, 48]).toArray⟩) W := fun W => add_lists W l [46, 48] (by omega) (by simp)
  have s2 : ∀ W, (Op.stringOp .add ⟨l.toArray⟩ ⟨#[46, 48, 46, 48]⟩).run Tryz.prog W = .ok (.string ⟨(l ++ [46, 48, 46, 48]).toArray⟩) W := fun W => add_lists W l [46, 48, 46, 48] (by omega) (by simp)
  obtain ⟨L, HL⟩ : ∃ L, Hid (l ++ [46, 48, 46, 48] = L) := ⟨_, Lib.hid rfl⟩
  obtain ⟨M, HM⟩ : ∃ M, Hid (l ++ [46, 48] = M) := ⟨_, Lib.hid rfl⟩
  rw [HL.out] at HPRE ⊢
  simp only [HL.out, HM.out] at s1 s2
  have HV : Hid (∀ W, Calls Tryz.prog 97 #[.string ⟨L.toArray⟩] W (ReadIs W L)) := Lib.hid (fun W => specReadVersion_any ⟨L.toArray⟩ W (by rw [← HL.out, size_of]; simp; omega))
  have B0 : Below w.heap.size w (w.alloc (.cells #[.string ⟨#[]⟩, .string ⟨#[]⟩] 73)) := (Below.refl _ _).alloc (Nat.le_refl _) _
  have r0 := heap_alloc_new w (.cells #[.string ⟨#[]⟩, .string ⟨#[]⟩] 73)
  have HIN := Lib.hid (fun (W : World) => l01In_any 1 1 2 W)
  have hin : inI 1 1 2 = true := by decide
  simp only [hin] at HIN
  have hl2 := hl
  clear hl hc hcut
  cases hok : readOk L with
  | false =>
    have HO := Lib.hid hok
    rw [fromOk_bad hok]
    clear hok
    go_enter Tryz.func102, Tryz.ntmps102
    go_wp2_with fail
    refine (HCUT.out _).mono ?_
    rintro e w1 ⟨g, cap, rfl, hS, hb1⟩
    have B1 := B0.trans (hb1.mono B0.size)
    have r1 := keepB r0 hb1
    clear hb1 hS r0 B0
    go_wp2_with fail
    refine (HV.out _).mono ?_
    rintro e w2 ⟨u, rfl, hu, hb2⟩
    obtain ⟨U, uc, rfl⟩ := hu.slice
    rw [HO.out]
    have B2 := B1.trans (hb2.mono B1.size)
    have r2 := keepB r1 hb2
    obtain ⟨c0, c1, f1⟩ := cellsD r2
    have hlt := lt_of_heap r2
    have B3 := (below_res2 B2 (Nat.le_refl _) (.string ⟨#[]⟩) (.string ⟨#[]⟩)).alloc (by simpa using B2.size) (.cells #[.int .i64 (readA L 0), .int .i64 (readA L 1), .int .i64 (readA L 2), .slice U (readP L).length uc] 127)
    obtain ⟨y0, y1⟩ := two_cells (keepA (set2_heap r2 (.string ⟨#[]⟩) (.string ⟨#[]⟩)) (.cells #[.int .i64 (readA L 0), .int .i64 (readA L 1), .int .i64 (readA L 2), .slice U (readP L).length uc] 127))
    go_wp2_with fail
    refine bodyPost_ret (v := .tuple #[.agg #[.string ⟨#[]⟩, .string ⟨#[]⟩], .bool false]) ?_ rfl ⟨_, _, rfl, fun h => (by cases h), ?_⟩
    · simp [results, Tryz.results102, go_sem, y0, y1]
    · exact B3
  | true =>
    have HO := Lib.hid hok
    have HRN := read_num hok
    rw [fromOk_of hok]
    clear hok
    have HB := Lib.hid (fun (A : Option Addr) (n cap : Nat) W => l03Below_part (readA L 0) (readA L 1) (readA L 2) 0 A n cap W HRN (by decide))
    unfold fromB
    obtain ⟨hi, HH⟩ : ∃ hi, Hid (rsd (readA L 0) (readA L 1) (readA L 2) 0 = hi) := ⟨_, Lib.hid rfl⟩
    simp only [HH.out] at HB ⊢
    clear HRN
    cases he : hi.isEmpty with
    | true =>
      rw [he] at HB
      clear he
      go_enter Tryz.func102, Tryz.ntmps102
      go_wp2_with fail
      refine (HCUT.out _).mono ?_
      rintro e w1 ⟨g, cap, rfl, hS, hb1⟩
      have B1 := B0.trans (hb1.mono B0.size)
      have r1 := keepB r0 hb1
      clear hb1 hS r0 B0
      go_wp2_with fail
      refine (HV.out _).mono ?_
      rintro e w2 ⟨u, rfl, hu, hb2⟩
      obtain ⟨U, uc, rfl⟩ := hu.slice
      rw [HO.out, HPRE.out]
      have B2 := B1.trans (hb2.mono B1.size)
      have r2 := keepB r1 hb2
      have B3 := B2.alloc B2.size (.cells #[.int .i64 (readA L 0), .int .i64 (readA L 1), .int .i64 (readA L 2), .slice U 0 uc] 127)
      have r3 := keepA r2 (.cells #[.int .i64 (readA L 0), .int .i64 (readA L 1), .int .i64 (readA L 2), .slice U 0 uc] 127)
      have v3 := heap_alloc_new w2 (.cells #[.int .i64 (readA L 0), .int .i64 (readA L 1), .int .i64 (readA L 2), .slice U 0 uc] 127)
      clear hb2 B1 r1 hu
      go_wp2_with fail
      refine (HIN.out _).mono ?_
      rintro e w4 ⟨rfl, rfl⟩
      go_wp2_with fail
      refine (HB.out _ _ _ _).mono ?_
      rintro e w5 ⟨rfl, hb5⟩
      have B5 := B3.trans (hb5.mono B3.size)
      obtain ⟨c0, c1, f1⟩ := cellsD (keepB r3 hb5)
      go_wp2_with fail
      refine bodyPost_ret (v := .tuple #[.agg #[.string ⟨#[]⟩, .string ⟨#[]⟩], .bool false]) ?_ rfl ⟨_, _, rfl, fun h => (by cases h), ?_⟩
      · simp [results, Tryz.results102, go_sem, c0, c1]
      · exact (B5.setCell (p := ⟨w.heap.size, 0, none⟩) (Nat.le_refl _) _).setCell (p := ⟨w.heap.size, 1, none⟩) (Nat.le_refl _) _
    | false =>
      rw [he] at HB
      clear he
      go_enter Tryz.func102, Tryz.ntmps102
      go_wp2_with fail
      refine (HCUT.out _).mono ?_
      rintro e w1 ⟨g, cap, rfl, hS, hb1⟩
      have B1 := B0.trans (hb1.mono B0.size)
      have r1 := keepB r0 hb1
      clear hb1 hS r0 B0
      go_wp2_with fail
      refine (HV.out _).mono ?_
      rintro e w2 ⟨u, rfl, hu, hb2⟩
      obtain ⟨U, uc, rfl⟩ := hu.slice
      rw [HO.out, HPRE.out]
      have B2 := B1.trans (hb2.mono B1.size)
      have r2 := keepB r1 hb2
      have B3 := B2.alloc B2.size (.cells #[.int .i64 (readA L 0), .int .i64 (readA L 1), .int .i64 (readA L 2), .slice U 0 uc] 127)
      have r3 := keepA r2 (.cells #[.int .i64 (readA L 0), .int .i64 (readA L 1), .int .i64 (readA L 2), .slice U 0 uc] 127)
      have v3 := heap_alloc_new w2 (.cells #[.int .i64 (readA L 0), .int .i64 (readA L 1), .int .i64 (readA L 2), .slice U 0 uc] 127)
      clear hb2 B1 r1 hu
      go_wp2_with fail
      refine (HIN.out _).mono ?_
      rintro e w4 ⟨rfl, rfl⟩
      go_wp2_with fail
      refine (HB.out _ _ _ _).mono ?_
      rintro e w5 ⟨rfl, hb5⟩
      have B5 := B3.trans (hb5.mono B3.size)
      obtain ⟨c0, c1, f1⟩ := cellsD (keepB r3 hb5)
      go_wp2_with fail
      refine bodyPost_ret (v := .tuple #[.agg #[.string ⟨L.toArray⟩, .string ⟨hi.toArray⟩], .bool true]) ?_ rfl ⟨_, _, rfl, fun _ => ⟨rfl, rfl⟩, ?_⟩
      · simp [results, Tryz.results102, go_sem, c0, c1]
      · exact (B5.setCell (p := ⟨w.heap.size, 0, none⟩) (Nat.le_refl _) _).setCell (p := ⟨w.heap.size, 1, none⟩) (Nat.le_refl _) _

set_option maxRecDepth 100000 in
set_option maxHeartbeats 4000000 in
theorem l03Short_1 (l : List UInt8) (w : World) (hl : l.length ≤ 1048000) (hc : l.count 46 = 1) :
    Calls Tryz.prog 102 #[.string ⟨l.toArray⟩] w (AltIs w (fromOk (l ++ [46, 48]) 1) (fromB (l ++ [46, 48]) 1)) := by
  have hcut := cutL_count 46 l
  rw [hc] at hcut
  have HCUT := Lib.hid (fun W => l01Cut_any ⟨l.toArray⟩ 46 W (by rw [size_of]; omega))
  simp only [hcut] at HCUT
  have HPRE : Hid (readP (l ++ [46, 48]) = []) := Lib.hid (by have := few_pre (l := l) (by omega); rw [hc] at this; exact this)
  have s1 : ∀ W, (Op.stringOp .add ⟨l.toArray⟩ ⟨#[46, 48]⟩).run Tryz.prog W = .ok (.string ⟨(l ++ [46, 48]).toArray⟩) W := fun W => add_lists W l [46, 48] (by omega) (by simp)
  have s2 : ∀ W, (Op.stringOp .add ⟨l.toArray⟩ ⟨#[46, 48, 46, 48]⟩).run Tryz.prog W = .ok (.string ⟨(l ++ [46, 48, 46, 48]).toArray⟩) W := fun W => add_lists W l [46, 48, 46, 48] (by omega) (by simp)
  obtain ⟨L, HL⟩ : ∃ L, Hid (l ++ [46, 48] = L) := ⟨_, Lib.hid rfl⟩
  obtain ⟨M, HM⟩ : ∃ M, Hid (l ++ [46, 48, 46, 48] = M) := ⟨_, Lib.hid rfl⟩
  rw [HL.out] at HPRE ⊢
  simp only [HL.out, HM.out] at s1 s2
  have HV : Hid (∀ W, Calls Tryz.prog 97 #[.string ⟨L.toArray⟩] W (ReadIs W L)) := Lib.hid (fun W => specReadVersion_any ⟨L.toArray⟩ W (by rw [← HL.out, size_of]; simp; omega))
  have B0 : Below w.heap.size w (w.alloc (.cells #[.string ⟨#[]⟩, .string ⟨#[]⟩] 73)) := (Below.refl _ _).alloc (Nat.le_refl _) _
  have r0 := heap_alloc_new w (.cells #[.string ⟨#[]⟩, .string ⟨#[]⟩] 73)
  have HIN := Lib.hid (fun (W : World) => l01In_any 2 1 2 W)
  have hin : inI 2 1 2 = true := by decide
  simp only [hin] at HIN
  have hl2 := hl
  clear hl hc hcut
  cases hok : readOk L with
  | false =>
    have HO := Lib.hid hok
    rw [fromOk_bad hok]
    clear hok
    go_enter Tryz.func102, Tryz.ntmps102
    go_wp2_with fail
    refine (HCUT.out _).mono ?_
    rintro e w1 ⟨g, cap, rfl, hS, hb1⟩
    have B1 := B0.trans (hb1.mono B0.size)
    have r1 := keepB r0 hb1
    clear hb1 hS r0 B0
    go_wp2_with fail
    refine (HV.out _).mono ?_
    rintro e w2 ⟨u, rfl, hu, hb2⟩
    obtain ⟨U, uc, rfl⟩ := hu.slice
    rw [HO.out]
    have B2 := B1.trans (hb2.mono B1.size)
    have r2 := keepB r1 hb2
    obtain ⟨c0, c1, f1⟩ := cellsD r2
    have hlt := lt_of_heap r2
    have B3 := (below_res2 B2 (Nat.le_refl _) (.string ⟨#[]⟩) (.string ⟨#[]⟩)).alloc (by simpa using B2.size) (.cells #[.int .i64 (readA L 0), .int .i64 (readA L 1), .int .i64 (readA L 2), .slice U (readP L).length uc] 127)
    obtain ⟨y0, y1⟩ := two_cells (keepA (set2_heap r2 (.string ⟨#[]⟩) (.string ⟨#[]⟩)) (.cells #[.int .i64 (readA L 0), .int .i64 (readA L 1), .int .i64 (readA L 2), .slice U (readP L).length uc] 127))
    go_wp2_with fail
    refine bodyPost_ret (v := .tuple #[.agg #[.string ⟨#[]⟩, .string ⟨#[]⟩], .bool false]) ?_ rfl ⟨_, _, rfl, fun h => (by cases h), ?_⟩
    · simp [results, Tryz.results102, go_sem, y0, y1]
    · exact B3
  | true =>
    have HO := Lib.hid hok
    have HRN := read_num hok
    rw [fromOk_of hok]
    clear hok
    have HB := Lib.hid (fun (A : Option Addr) (n cap : Nat) W => l03Below_part (readA L 0) (readA L 1) (readA L 2) 1 A n cap W HRN (by decide))
    unfold fromB
    obtain ⟨hi, HH⟩ : ∃ hi, Hid (rsd (readA L 0) (readA L 1) (readA L 2) 1 = hi) := ⟨_, Lib.hid rfl⟩
    simp only [HH.out] at HB ⊢
    clear HRN
    cases he : hi.isEmpty with
    | true =>
      rw [he] at HB
      clear he
      go_enter Tryz.func102, Tryz.ntmps102
      go_wp2_with fail
      refine (HCUT.out _).mono ?_
      rintro e w1 ⟨g, cap, rfl, hS, hb1⟩
      have B1 := B0.trans (hb1.mono B0.size)
      have r1 := keepB r0 hb1
      clear hb1 hS r0 B0
      go_wp2_with fail
      refine (HV.out _).mono ?_
      rintro e w2 ⟨u, rfl, hu, hb2⟩
      obtain ⟨U, uc, rfl⟩ := hu.slice
      rw [HO.out, HPRE.out]
      have B2 := B1.trans (hb2.mono B1.size)
      have r2 := keepB r1 hb2
      have B3 := B2.alloc B2.size (.cells #[.int .i64 (readA L 0), .int .i64 (readA L 1), .int .i64 (readA L 2), .slice U 0 uc] 127)
      have r3 := keepA r2 (.cells #[.int .i64 (readA L 0), .int .i64 (readA L 1), .int .i64 (readA L 2), .slice U 0 uc] 127)
      have v3 := heap_alloc_new w2 (.cells #[.int .i64 (readA L 0), .int .i64 (readA L 1), .int .i64 (readA L 2), .slice U 0 uc] 127)
      clear hb2 B1 r1 hu
      go_wp2_with fail
      refine (HIN.out _).mono ?_
      rintro e w4 ⟨rfl, rfl⟩
      go_wp2_with fail
      refine (HB.out _ _ _ _).mono ?_
      rintro e w5 ⟨rfl, hb5⟩
      have B5 := B3.trans (hb5.mono B3.size)
      obtain ⟨c0, c1, f1⟩ := cellsD (keepB r3 hb5)
      go_wp2_with fail
      refine bodyPost_ret (v := .tuple #[.agg #[.string ⟨#[]⟩, .string ⟨#[]⟩], .bool false]) ?_ rfl ⟨_, _, rfl, fun h => (by cases h), ?_⟩
      · simp [results, Tryz.results102, go_sem, c0, c1]
      · exact (B5.setCell (p := ⟨w.heap.size, 0, none⟩) (Nat.le_refl _) _).setCell (p := ⟨w.heap.size, 1, none⟩) (Nat.le_refl _) _
    | false =>
      rw [he] at HB
      clear he
      go_enter Tryz.func102, Tryz.ntmps102
      go_wp2_with fail
      refine (HCUT.out _).mono ?_
      rintro e w1 ⟨g, cap, rfl, hS, hb1⟩
      have B1 := B0.trans (hb1.mono B0.size)
      have r1 := keepB r0 hb1
      clear hb1 hS r0 B0
      go_wp2_with fail
      refine (HV.out _).mono ?_
      rintro e w2 ⟨u, rfl, hu, hb2⟩
      obtain ⟨U, uc, rfl⟩ := hu.slice
      rw [HO.out, HPRE.out]
      have B2 := B1.trans (hb2.mono B1.size)
      have r2 := keepB r1 hb2
      have B3 := B2.alloc B2.size (.cells #[.int .i64 (readA L 0), .int .i64 (readA L 1), .int .i64 (readA L 2), .slice U 0 uc] 127)
      have r3 := keepA r2 (.cells #[.int .i64 (readA L 0), .int .i64 (readA L 1), .int .i64 (readA L 2), .slice U 0 uc] 127)
      have v3 := heap_alloc_new w2 (.cells #[.int .i64 (readA L 0), .int .i64 (readA L 1), .int .i64 (readA L 2), .slice U 0 uc] 127)
      clear hb2 B1 r1 hu
      go_wp2_with fail
      refine (HIN.out _).mono ?_
      rintro e w4 ⟨rfl, rfl⟩
      go_wp2_with fail
      refine (HB.out _ _ _ _).mono ?_
      rintro e w5 ⟨rfl, hb5⟩
      have B5 := B3.trans (hb5.mono B3.size)
      obtain ⟨c0, c1, f1⟩ := cellsD (keepB r3 hb5)
      go_wp2_with fail
      refine bodyPost_ret (v := .tuple #[.agg #[.string ⟨L.toArray⟩, .string ⟨hi.toArray⟩], .bool true]) ?_ rfl ⟨_, _, rfl, fun _ => ⟨rfl, rfl⟩, ?_⟩
      · simp [results, Tryz.results102, go_sem, c0, c1]
      · exact (B5.setCell (p := ⟨w.heap.size, 0, none⟩) (Nat.le_refl _) _).setCell (p := ⟨w.heap.size, 1, none⟩) (Nat.le_refl _) _

set_option maxRecDepth 100000 in
set_option maxHeartbeats 4000000 in
theorem l03Short_many (l : List UInt8) (w : World) (hl : l.length ≤ 1048000) (hc : 2 ≤ l.count 46) :
    Calls Tryz.prog 102 #[.string ⟨l.toArray⟩] w (AltIs w false ([], [])) := by
  have hcut := cutL_count 46 l
  have HCUT := Lib.hid (fun W => l01Cut_any ⟨l.toArray⟩ 46 W (by rw [size_of]; omega))
  have hcl : l.count 46 ≤ l.length := List.count_le_length
  obtain ⟨c, HC⟩ : ∃ c, c = l.count 46 + 1 := ⟨_, rfl⟩
  rw [← HC] at hcut
  simp only [hcut] at HCUT
  have s1 : ∀ W, (Op.stringOp .add ⟨l.toArray⟩ ⟨#[46, 48]⟩).run Tryz.prog W = .ok (.string ⟨(l ++ [46, 48]).toArray⟩) W := fun W => add_lists W l [46, 48] (by omega) (by simp)
  obtain ⟨L, HL⟩ : ∃ L, Hid (l ++ [46, 48] = L) := ⟨_, Lib.hid rfl⟩
  simp only [HL.out] at s1
  have HV : Hid (∀ W, Calls Tryz.prog 97 #[.string ⟨L.toArray⟩] W (ReadIs W L)) := Lib.hid (fun W => specReadVersion_any ⟨L.toArray⟩ W (by rw [← HL.out, size_of]; simp; omega))
  have B0 : Below w.heap.size w (w.alloc (.cells #[.string ⟨#[]⟩, .string ⟨#[]⟩] 73)) := (Below.refl _ _).alloc (Nat.le_refl _) _
  have r0 := heap_alloc_new w (.cells #[.string ⟨#[]⟩, .string ⟨#[]⟩] 73)
  have HIN := Lib.hid (fun (W : World) => l01In_any (c : Int) 1 2 W)
  have hin : inI (c : Int) 1 2 = false := by unfold inI; simp; omega
  simp only [hin] at HIN
  have n1 : ((c : Int) == 1) = false := int_beq_false (by omega)
  have hc3 : c ≤ 1048577 := by omega
  clear hl hc hcut hin hcl HC
  cases hok : readOk L
  all_goals
    have HO := Lib.hid hok
    clear hok
    go_enter Tryz.func102, Tryz.ntmps102
    go_wp2_with fail
    refine (HCUT.out _).mono ?_
    rintro e w1 ⟨g, cap, rfl, hS, hb1⟩
    have B1 := B0.trans (hb1.mono B0.size)
    have r1 := keepB r0 hb1
    clear hb1 hS r0 B0
    go_wp2_with fail
    refine (HV.out _).mono ?_
    rintro e w2 ⟨u, rfl, hu, hb2⟩
    obtain ⟨U, uc, rfl⟩ := hu.slice
    rw [HO.out]
    have B2 := B1.trans (hb2.mono B1.size)
    have r2 := keepB r1 hb2
    obtain ⟨c0, c1, f1⟩ := cellsD r2
    have hlt := lt_of_heap r2
    have B3 := (below_res2 B2 (Nat.le_refl _) (.string ⟨#[]⟩) (.string ⟨#[]⟩)).alloc (by simpa using B2.size) (.cells #[.int .i64 (readA L 0), .int .i64 (readA L 1), .int .i64 (readA L 2), .slice U (readP L).length uc] 127)
    obtain ⟨y0, y1⟩ := two_cells (keepA (set2_heap r2 (.string ⟨#[]⟩) (.string ⟨#[]⟩)) (.cells #[.int .i64 (readA L 0), .int .i64 (readA L 1), .int .i64 (readA L 2), .slice U (readP L).length uc] 127))
    go_wp2_with (first | (go_at_call 121; refine (HIN.out _).mono ?_; rintro e w4 ⟨rfl, rfl⟩))
    refine bodyPost_ret (v := .tuple #[.agg #[.string ⟨#[]⟩, .string ⟨#[]⟩], .bool false]) ?_ rfl ⟨_, _, rfl, fun h => (by cases h), ?_⟩
    · simp [results, Tryz.results102, go_sem, y0, y1]
    · exact B3
end Go.Proofs.YtongpnknmgbhjaaGreatDoor

/-
  spec.Words returns the parts between spaces.
-/
namespace Go.Proofs.YtongpnknmgbhjaaGreatDoor
open Go.RowKit

/-- How many parts there can be. -/
theorem cutL_le (m : UInt8) (l : List UInt8) : (cutL m l).length ≤ l.length + 1 := by
  induction l with
  | nil => simp [cutL]
  | cons c l ih =>
    unfold cutL
    split
    · simp; omega
    · cases h : cutL m l with
      | nil => simp [attach]
      | cons q qs => rw [h] at ih; simp [attach] at ih ⊢; omega

theorem specWords_any (s : ByteArray) (w : World) (hs : s.size ≤ 1048576) :
    Calls Tryz.prog 156 #[.string s] w fun e W' => ∃ g cap, e = .returned (.slice (some ⟨g, 0, none⟩) (cutL 32 s.data.toList).length cap) ∧ Strs W' w.heap.size (.slice (some ⟨g, 0, none⟩) (cutL 32 s.data.toList).length cap) (cutL 32 s.data.toList) ∧ Below w.heap.size w W' := by
  go_enter Tryz.func156, Tryz.ntmps156
  go_wp2_with fail
  refine (l01Cut_any s 32 w hs).mono ?_
  rintro e w1 ⟨g, cap, rfl, hS, hb⟩
  go_wp2_with fail
  go_ret
  exact ⟨g, cap, rfl, hS, hb⟩
end Go.Proofs.YtongpnknmgbhjaaGreatDoor

/-
  A row of bounds of the call's own.
-/
namespace Go.Proofs.YtongpnknmgbhjaaGreatDoor
open Go.RowKit

/-- v is the call's own row of these bounds. -/
def Bnds (w : World) (base : Nat) (v : Value) (bs : List Bd) : Prop := w.ownsRow base 73 2 v bs.length (flat2 bs)

theorem bndinfo : (Tryz.prog.info? 73).map (fun i => (i.zero, i.size, i.bytes)) = some (some (.agg #[.string ⟨#[]⟩, .string ⟨#[]⟩]), 2, 32) := by kernel_rfl

theorem Bnds.form {w : World} {base : Nat} {v : Value} {l : List Bd} (h : Bnds w base v l) : (v = .slice none 0 0 ∧ l = []) ∨ ∃ g cap, v = .slice (some ⟨g, 0, none⟩) l.length cap ∧ base ≤ g ∧ g < w.heap.size := by
  rcases h.2 with ⟨hv, hl⟩ | ⟨g, cap, cur, hv, hb, hh, _⟩
  · left
    refine ⟨hv, ?_⟩
    cases l with
    | nil => rfl
    | cons a t => simp at hl
  · right
    refine ⟨g, cap, hv, hb, ?_⟩
    rcases Nat.lt_or_ge g w.heap.size with hlt | hge
    · exact hlt
    · rw [Array.getElem?_eq_none hge] at hh; cases hh
theorem Bnds.alloc {w : World} {base : Nat} {v : Value} {l : List Bd} (h : Bnds w base v l) (o : Obj) : Bnds (w.alloc o) base v l := World.ownsRow.alloc h o
theorem Bnds.owned {w : World} {base : Nat} {v : Value} {l : List Bd} (h : Bnds w base v l) : ∀ g, v.ownBlock = some g → base ≤ g := by
  intro g hg
  rcases h.form with ⟨rfl, _⟩ | ⟨g', cap, rfl, hb, _⟩
  · simp [Value.ownBlock] at hg
  · simp [Value.ownBlock] at hg; omega
theorem Bnds.below {w w' : World} {base : Nat} {v : Value} {l : List Bd} (h : Bnds w base v l) (hb : Below w.heap.size w w') : Bnds w' base v l :=
  World.ownsRow.kept h (row := none) ⟨hb.os, hb.tape, hb.output, hb.size, fun i hi _ => hb.block i hi⟩ (by
    rcases h.form with ⟨rfl, _⟩ | ⟨g, cap, rfl, _, _⟩
    · left; rfl
    · right; simp [Value.ownBlock])
theorem Bnds.cell {w : World} {base : Nat} {l : List Bd} {g n cap : Nat} (h : Bnds w base (.slice (some ⟨g, 0, none⟩) n cap) l) (k : Nat) (hk : k < l.length) : w.cell? ⟨g, k * 2, none⟩ = some (sv l[k].1) ∧ w.cell? ⟨g, k * 2 + 1, none⟩ = some (sv l[k].2) := by
  have hadd : ∀ j, (⟨g, 0, none⟩ : Addr).add j = ⟨g, j, none⟩ := fun j => by unfold Addr.add; split <;> simp_all
  obtain ⟨e0, e1⟩ := flat2_get l k hk
  have h0 := World.ownsRow.cells (g := g) h rfl (k * 2) _ e0
  have h1 := World.ownsRow.cells (g := g) h rfl (k * 2 + 1) _ e1
  rw [hadd] at h0 h1
  exact ⟨h0, h1⟩
theorem RdB.of_bnds {w : World} {base : Nat} {v : Value} {bs : List Bd} (h : Bnds w base v bs) : RdB w v bs := by
  rcases h.form with ⟨rfl, rfl⟩ | ⟨g, cap, rfl, _, hg⟩
  · exact ⟨none, 0, rfl, fun h => absurd h (by simp)⟩
  · exact ⟨_, cap, rfl, fun _ => ⟨g, 0, rfl, hg, fun k hk => by rw [Nat.zero_add]; exact h.cell k hk⟩⟩
theorem Bnds.set {w : World} {base g cap : Nat} {l : List Bd} (h : Bnds w base (.slice (some ⟨g, 0, none⟩) l.length cap) l) (k : Nat) (x : Bd) :
    Bnds ((w.setCell ⟨g, k * 2, none⟩ (sv x.1)).setCell ⟨g, k * 2 + 1, none⟩ (sv x.2)) base (.slice (some ⟨g, 0, none⟩) (l.set k x).length cap) (l.set k x) := by
  unfold Bnds at h ⊢
  rw [List.length_set, ← flat2_set]
  exact (World.ownsRow.stored (World.ownsRow.stored h (k * 2) (sv x.1)).1 (k * 2 + 1) (sv x.2)).1
end Go.Proofs.YtongpnknmgbhjaaGreatDoor

/-
  Whether bounds are a range: spec.RangeOk.
-/
namespace Go.Proofs.YtongpnknmgbhjaaGreatDoor
open Go.RowKit

/-- A bound's text is a version's, or empty. -/
def limOk (l : List UInt8) : Bool := readOk l || l == []
def bndOk (b : Bd) : Bool := limOk b.1 && limOk b.2
/-- Whether bounds are a range. -/
def rngOk (bs : List Bd) : Bool := bs.all bndOk && inI bs.length 1 8
theorem smB_get {bs : List Bd} (h : SmB bs) (k : Nat) (hk : k < bs.length) : (⟨bs[k].1.toArray⟩ : ByteArray).size ≤ 1048576 ∧ (⟨bs[k].2.toArray⟩ : ByteArray).size ≤ 1048576 := by
  have := smB_mem bs[k] (List.getElem_mem hk)
  rw [size_of, size_of]
  unfold SmB at h
  omega

set_option maxRecDepth 100000 in
set_option maxHeartbeats 1000000 in
theorem l03Is_any (s : ByteArray) (w : World) (hs : s.size ≤ 1048576) :
    Calls Tryz.prog 196 #[.string s] w fun e w' => e = .returned (.bool (limOk s.data.toList)) ∧ Below w.heap.size w w' := by
  have HC := Lib.hid (specReadVersion_any s w hs)
  obtain ⟨ok, HO⟩ : ∃ ok, Hid (readOk s.data.toList = ok) := ⟨_, Lib.hid rfl⟩
  obtain ⟨r, HR⟩ : ∃ r, Hid (limOk s.data.toList = r) := ⟨_, Lib.hid rfl⟩
  obtain ⟨q, hq, HE⟩ : ∃ q, (s.toList == []) = q ∧ Hid (limOk s.data.toList = (ok || q)) := ⟨_, rfl, Lib.hid (by unfold limOk; rw [HO.out, ByteArray.toList_eq])⟩
  rw [HR.out]
  have HF : Hid (r = (ok || q)) := Lib.hid (HR.out.symm.trans HE.out)
  cases ok <;> cases q
  all_goals
    go_enter Tryz.func196, Tryz.ntmps196
    go_wp2_with fail
    refine HC.out.mono ?_
    rintro e w1 ⟨u, rfl, hu, hb1⟩
    obtain ⟨uA, uc, rfl⟩ := hu.slice
    rw [HO.out]
    go_wp2_with fail
    go_ret
    exact ⟨ret_bool HF.out.symm, by first | exact hb1 | exact hb1.alloc hb1.size _ | exact (hb1.alloc hb1.size _).setCell (p := ⟨w1.heap.size, 0, none⟩) hb1.size _⟩

set_option maxRecDepth 100000 in
set_option maxHeartbeats 2000000 in
theorem specRangeOk_any (v : Value) (bs : List Bd) (w : World) (hr : RdB w v bs) (hs : SmB bs) :
    Calls Tryz.prog 157 #[v] w fun e w' => e = .returned (.bool (rngOk bs)) ∧ Below w.heap.size w w' := by
  have HR := Lib.hid hr
  have HS := Lib.hid hs
  obtain ⟨A, ca, rfl, ha⟩ := hr
  have hn : bs.length ≤ 1048576 := by unfold SmB at hs; omega
  clear ha hs
  go_enter Tryz.func157, Tryz.ntmps157
  go_wp2_with fail
  go_loopw [3] (fun i wr => ∃ k : Nat, k ≤ bs.length ∧ i = .int .i64 k ∧ Hid ((bs.take k).all bndOk = true) ∧ Below w.heap.size w wr) (fun i _ => bs.length - (intOf i).toNat)
  case atStart => exact ⟨0, Nat.zero_le _, rfl, Lib.hid (by simp), Below.refl _ _⟩
  case round =>
    obtain ⟨k, hk, rfl, H, hb⟩ := hrel
    by_cases hlt : k < bs.length
    · have k0 : (0 : Int) ≤ (k : Int) := by omega
      have k1 : (k : Int) < (bs.length : Int) := by omega
      have HG := Lib.hid (smB_get HS.out k hlt)
      have HD := Lib.hid (fun (W : World) (h : Below w.heap.size w W) => (HR.out.below h))
      obtain ⟨A', ca', hv, ha⟩ := HR.out.below hb
      simp only [Value.slice.injEq] at hv
      obtain ⟨rfl, _, rfl⟩ := hv
      obtain ⟨g, off, rfl, hg, hca⟩ := ha (by omega)
      have d1 : wr.cell? ⟨g, off + k * 2, none⟩ = some (.string ⟨bs[k].1.toArray⟩) := (hca k hlt).1
      have HD2 : Hid (wr.cell? ⟨g, off + k * 2 + 1, none⟩ = some (.string ⟨bs[k].2.toArray⟩)) := Lib.hid (hca k hlt).2
      obtain ⟨x, HX⟩ : ∃ x, Hid (limOk (⟨bs[k].1.toArray⟩ : ByteArray).data.toList = x) := ⟨_, Lib.hid rfl⟩
      obtain ⟨y, HY⟩ : ∃ y, Hid (limOk (⟨bs[k].2.toArray⟩ : ByteArray).data.toList = y) := ⟨_, Lib.hid rfl⟩
      have HB : Hid (bndOk bs[k] = (x && y)) := Lib.hid (by unfold bndOk; rw [← HX.out, ← HY.out])
      clear ha hca
      cases x
      · have HF : Hid (rngOk bs = false) := Lib.hid (by unfold rngOk; rw [Bool.eq_false_iff.2 (all_not bs bndOk k hlt (by rw [HB.out]; rfl))]; rfl)
        go_wp2_with fail
        refine (l03Is_any _ _ HG.out.1).mono ?_
        rw [HX.out]
        rintro e w1 ⟨rfl, hb1⟩
        have B1 := hb.trans (hb1.mono hb.size)
        go_wp2_with fail
        go_ret
        exact ⟨ret_bool HF.out.symm, B1⟩
      · go_wp2_with fail
        refine (l03Is_any _ _ HG.out.1).mono ?_
        rw [HX.out]
        rintro e w1 ⟨rfl, hb1⟩
        have B1 := hb.trans (hb1.mono hb.size)
        have d2 := (hb1.cell (p := ⟨g, off + k * 2 + 1, none⟩) hg).trans HD2.out
        go_wp2_with fail
        refine (l03Is_any _ _ HG.out.2).mono ?_
        rw [HY.out]
        rintro e w2 ⟨rfl, hb2⟩
        have B2 := B1.trans (hb2.mono B1.size)
        cases y
        · have HF : Hid (rngOk bs = false) := Lib.hid (by unfold rngOk; rw [Bool.eq_false_iff.2 (all_not bs bndOk k hlt (by rw [HB.out]; rfl))]; rfl)
          go_wp2_with fail
          go_ret
          exact ⟨ret_bool HF.out.symm, B2⟩
        · have HN := Lib.hid (all_take bs bndOk k hlt H.out (by rw [HB.out]; rfl))
          go_wp2_with fail
          go_roundw
          case rel => exact ⟨k + 1, by omega, by go_num, HN, B2⟩
          case measure => simp [intOf]; omega
    · have HF : Hid (rngOk bs = inI bs.length 1 8) := Lib.hid (by
        have h := H.out
        rw [List.take_of_length_le (by omega)] at h
        unfold rngOk; rw [h]; rfl)
      go_wp2_with fail
      refine (l01In_any _ _ _ _).mono ?_
      rintro e w1 ⟨rfl, rfl⟩
      go_wp2_with fail
      go_ret
      exact ⟨ret_bool HF.out.symm, hb⟩
end Go.Proofs.YtongpnknmgbhjaaGreatDoor

/-
  spec.l03Signs: the bound of >= and <.
-/
namespace Go.Proofs.YtongpnknmgbhjaaGreatDoor
open Go.RowKit

def geA (x : List UInt8) : Bool := decide (2 < x.length) && geP x
def ltA (x : List UInt8) : Bool := decide (1 < x.length) && ltP x
theorem geA_form {x : List UInt8} (h : geA x = true) : ∃ y, y ≠ [] ∧ x = 62 :: 61 :: y := by
  unfold geA geP at h
  simp at h
  obtain ⟨h1, t, rfl⟩ := h
  exact ⟨t, fun e => by subst e; simp at h1, rfl⟩
theorem ltA_form {x : List UInt8} (h : ltA x = true) : ∃ y, y ≠ [] ∧ x = 60 :: y := by
  unfold ltA ltP at h
  simp at h
  obtain ⟨h1, t, rfl⟩ := h
  exact ⟨t, fun e => by subst e; simp at h1, rfl⟩
theorem cutL_none {m : UInt8} : ∀ {l : List UInt8}, m ∉ l → cutL m l = [l]
  | [], _ => rfl
  | c :: l, h => by
    have hc : ¬ c = m := fun e => h (by simp [e])
    rw [cutL_cons, if_neg hc, cutL_none (fun hm => h (by simp [hm]))]; rfl
theorem cutL_hit {m : UInt8} {l : List UInt8} (h : 0 ≤ Lib.indexByte l m) : cutL m l = cutA m l :: cutL m (cutB m l) ∧ m ∉ cutA m l := by
  induction l with
  | nil => simp [Lib.indexByte] at h
  | cons c l ih =>
    by_cases hc : c = m
    · subst hc
      rw [cutL_cons, if_pos rfl, cutA_hit, cutB_hit]
      exact ⟨rfl, by simp⟩
    · rw [cutL_cons, if_neg hc, cutA_miss l hc, cutB_miss l hc]
      rw [idx_miss l hc] at h
      by_cases h1 : Lib.indexByte l m = -1
      · rw [if_pos h1] at h; omega
      · have hg := idx_ge l m
        obtain ⟨i1, i2⟩ := ih (by omega)
        rw [i1]
        refine ⟨rfl, ?_⟩
        simp
        exact ⟨fun e => hc e.symm, i2⟩
theorem idx_none {m : UInt8} : ∀ {l : List UInt8}, ¬ 0 ≤ Lib.indexByte l m → m ∉ l
  | [], _ => by simp
  | c :: l, h => by
    by_cases hc : c = m
    · rw [idx_hit l hc] at h; omega
    · rw [idx_miss l hc] at h
      have hg := idx_ge l m
      have : ¬ 0 ≤ Lib.indexByte l m := by
        by_cases h1 : Lib.indexByte l m = -1
        · omega
        · rw [if_neg h1] at h; omega
      have := idx_none this
      simp
      exact ⟨fun e => hc e.symm, this⟩
theorem idx_some {m : UInt8} : ∀ {l : List UInt8}, m ∈ l → 0 ≤ Lib.indexByte l m := by
  intro l h
  by_cases h0 : 0 ≤ Lib.indexByte l m
  · exact h0
  · exact absurd h (idx_none h0)
-- the forms
theorem geA_P {x : List UInt8} (h : readOk (x.drop 2) = true) : geP x = geA x := by
  unfold geA
  have : 2 < x.length := by
    rcases Nat.lt_or_ge 2 x.length with h' | h'
    · exact h'
    · rw [List.drop_eq_nil_of_le h', readOk_nil] at h; cases h
  rw [decide_eq_true this, Bool.true_and]
theorem ltA_P {x : List UInt8} (h : readOk (x.drop 1) = true) : ltP x = ltA x := by
  unfold ltA
  have : 1 < x.length := by
    rcases Nat.lt_or_ge 1 x.length with h' | h'
    · exact h'
    · rw [List.drop_eq_nil_of_le h', readOk_nil] at h; cases h
  rw [decide_eq_true this, Bool.true_and]
theorem ge_and (x : List UInt8) : (geP x && readOk (x.drop 2)) = (geA x && readOk (x.drop 2)) := by
  cases h : readOk (x.drop 2) with
  | true => rw [geA_P h]
  | false => simp
theorem lt_and (x : List UInt8) : (ltP x && readOk (x.drop 1)) = (ltA x && readOk (x.drop 1)) := by
  cases h : readOk (x.drop 1) with
  | true => rw [ltA_P h]
  | false => simp
theorem ge_lt {x : List UInt8} (h : geA x = true) : ltA x = false := by
  obtain ⟨y, _, rfl⟩ := geA_form h
  simp [ltA, ltP, List.isPrefixOf]
theorem lm_one {l : List UInt8} (h : cutL 32 l = [l]) : lmOk l = (if geA l = true then readOk (l.drop 2) else ltA l && readOk (l.drop 1)) ∧ (lmOk l = true → lmB l = if geA l = true then (l.drop 2, []) else ([], l.drop 1)) := by
  have hi : ¬ 0 ≤ Lib.indexByte l 32 := fun h0 => by
    have := (cutL_hit h0).1; rw [h] at this
    have hne := cutL_ne 32 (cutB 32 l)
    simp at this
    exact hne this.2
  unfold lmOk lmB
  rw [if_neg hi, if_neg hi, ge_and, lt_and]
  cases hg : geA l with
  | true => rw [ge_lt hg]; cases hr : readOk (l.drop 2) <;> simp
  | false => simp
theorem cutL_one {l y : List UInt8} (h : cutL 32 l = [y]) : y = l := by
  have := join_cut 32 l; rw [h] at this; simpa [joinL] using this
theorem lm_two {l x y : List UInt8} (h : cutL 32 l = [x, y]) : lmOk l = (geA x && readOk (x.drop 2) && (ltA y && readOk (y.drop 1))) ∧ lmB l = (x.drop 2, y.drop 1) := by
  have hi : 0 ≤ Lib.indexByte l 32 := by
    by_cases h0 : 0 ≤ Lib.indexByte l 32
    · exact h0
    · have := cutL_none (idx_none h0); rw [h] at this; simp at this
  have e := (cutL_hit hi).1
  rw [h] at e
  simp only [List.cons.injEq] at e
  have e1 := e.1
  have e2 := cutL_one e.2.symm
  unfold lmOk lmB
  rw [if_pos hi, if_pos hi, ge_and, lt_and, ← e1, ← e2]
  exact ⟨rfl, rfl⟩
theorem lm_many {l x y z : List UInt8} {t : List (List UInt8)} (h : cutL 32 l = x :: y :: z :: t) : lmOk l = false := by
  have hi : 0 ≤ Lib.indexByte l 32 := by
    by_cases h0 : 0 ≤ Lib.indexByte l 32
    · exact h0
    · have := cutL_none (idx_none h0); rw [h] at this; simp at this
  have e := (cutL_hit hi).1
  rw [h] at e
  simp only [List.cons.injEq] at e
  have hm : (32 : UInt8) ∈ cutB 32 l := by
    by_cases h0 : (32 : UInt8) ∈ cutB 32 l
    · exact h0
    · have := cutL_none h0; rw [this] at e; simp at e
  unfold lmOk
  rw [if_pos hi]
  have : (ltP (cutB 32 l) && readOk ((cutB 32 l).drop 1)) = false := by
    rw [lt_and]
    cases hl : ltA (cutB 32 l) with
    | false => rfl
    | true =>
      obtain ⟨u, _, hu⟩ := ltA_form hl
      rw [hu] at hm ⊢
      have h2 : (32 : UInt8) ∈ u := by simpa using hm
      cases hr : readOk u with
      | false => simp [hr]
      | true => exact absurd h2 (readOk_none hr (by decide))
  rw [this, Bool.and_false]
theorem rng_one (a b : List UInt8) : rngOk [(a, b)] = (limOk a && limOk b) := by
  unfold rngOk bndOk inI; simp
theorem lim_nil : limOk [] = true := by unfold limOk; simp
theorem lim_ne {a : List UInt8} (h : a ≠ []) : limOk a = readOk a := by
  unfold limOk
  have : (a == []) = false := by simpa using h
  rw [this, Bool.or_false]
theorem rdB_lit (W : World) (n : Nat) (hn : W.heap.size = n) (a b : List UInt8) (T : TypeId) : RdB (W.alloc (.cells #[.string ⟨a.toArray⟩, .string ⟨b.toArray⟩] T)) (.slice (some ⟨n, 0, none⟩) 1 1) [(a, b)] := by
  subst hn
  refine ⟨_, 1, rfl, fun _ => ⟨W.heap.size, 0, rfl, by simp, fun k hk => ?_⟩⟩
  have hk0 : k = 0 := by simp at hk; omega
  subst hk0
  exact two_cells (heap_alloc_new W (.cells #[.string ⟨a.toArray⟩, .string ⟨b.toArray⟩] T))
theorem smB_one' {a b : List UInt8} (h : a.length + b.length ≤ 1048000) : SmB [(a, b)] := by unfold SmB; simp [smB]; omega
/-- Facts of a part: how its first bytes test. -/
theorem ge_yes {s : ByteArray} {x : List UInt8} (hs : s = ⟨x.toArray⟩) (h : geA x = true) : 2 < s.size ∧ (∀ w, (Instr.slice 9 (.string s) none (some (.int .i64 2)) none).run Tryz.prog w = .ok (.string ⟨#[62, 61]⟩) w) ∧ (∀ w, (Instr.slice 9 (.string s) (some (.int .i64 2)) none none).run Tryz.prog w = .ok (.string ⟨(x.drop 2).toArray⟩) w) ∧ x.drop 2 ≠ [] := by
  obtain ⟨y, hy, rfl⟩ := geA_form h
  subst hs
  have hl : 0 < y.length := List.length_pos_iff.2 hy
  refine ⟨by rw [size_of]; simp; omega, fun w => slice_to _ _ 2 2 rfl (by rw [size_of]; simp) (bytes_ext (by simp)) w, fun w => slice_from _ _ 2 2 rfl (by rw [size_of]; simp) (piece_end _ 2) w, by simpa using hy⟩
theorem ge_no {s : ByteArray} {x : List UInt8} (hs : s = ⟨x.toArray⟩) (h : geA x = false) : ¬ 2 < s.size ∨ 2 < s.size ∧ ∃ z : ByteArray, (∀ w, (Instr.slice 9 (.string s) none (some (.int .i64 2)) none).run Tryz.prog w = .ok (.string z) w) ∧ (z.toList == [62, 61]) = false := by
  subst hs
  rcases Nat.lt_or_ge 2 (⟨x.toArray⟩ : ByteArray).size with h2 | h2
  · right
    refine ⟨h2, (⟨x.toArray⟩ : ByteArray).extract 0 2, fun w => slice_to _ _ 2 2 rfl (by omega) rfl w, ?_⟩
    rw [size_of] at h2
    unfold geA geP at h
    rw [decide_eq_true h2, Bool.true_and] at h
    rw [ByteArray.toList_eq]
    match x, h2, h with
    | a :: b :: c :: t, _, h =>
      simp [List.isPrefixOf] at h ⊢
      exact fun e1 e2 => h e1.symm e2.symm
  · left; omega
theorem lt_yes {s : ByteArray} {x : List UInt8} (hs : s = ⟨x.toArray⟩) (h : ltA x = true) : ∃ h1 : 1 < s.size, (((s[0]'(by omega)).toNat : Int) == 60) = true ∧ (∀ w, (Instr.slice 9 (.string s) (some (.int .i64 1)) none none).run Tryz.prog w = .ok (.string ⟨(x.drop 1).toArray⟩) w) ∧ x.drop 1 ≠ [] := by
  obtain ⟨y, hy, rfl⟩ := ltA_form h
  subst hs
  have hl : 0 < y.length := List.length_pos_iff.2 hy
  refine ⟨by rw [size_of]; simp; omega, rfl, fun w => slice_from _ _ 1 1 rfl (by rw [size_of]; simp) (piece_end _ 1) w, by simpa using hy⟩
theorem lt_no {s : ByteArray} {x : List UInt8} (hs : s = ⟨x.toArray⟩) (h : ltA x = false) : ¬ 1 < s.size ∨ ∃ h1 : 1 < s.size, (((s[0]'(by omega)).toNat : Int) == 60) = false := by
  subst hs
  rcases Nat.lt_or_ge 1 (⟨x.toArray⟩ : ByteArray).size with h2 | h2
  · right
    refine ⟨h2, ?_⟩
    rw [size_of] at h2
    unfold ltA ltP at h
    rw [decide_eq_true h2, Bool.true_and] at h
    match x, h2, h with
    | a :: b :: t, _, h =>
      have ha : a ≠ 60 := fun e => by subst e; simp at h
      refine int_beq_false (fun e => ha (UInt8.toNat_inj.1 ?_))
      have : ((a.toNat : Int)) = 60 := e
      simpa using (by omega : a.toNat = 60)
  · left; omega

set_option maxRecDepth 100000 in
set_option maxHeartbeats 4000000 in
theorem sg_A (l : List UInt8) (w : World) (hl : l.length ≤ 1048000) (h1 : cutL 32 l = [l]) (hg : geA l = true) :
    Calls Tryz.prog 100 #[.string ⟨l.toArray⟩] w (AltIs w (lmOk l) (lmB l)) := by
  have HW := Lib.hid (fun W => specWords_any ⟨l.toArray⟩ W (by rw [size_of]; omega))
  have B0 : Below w.heap.size w (w.alloc (.cells #[.string ⟨#[]⟩, .string ⟨#[]⟩] 73)) := (Below.refl _ _).alloc (Nat.le_refl _) _
  have r0 := heap_alloc_new w (.cells #[.string ⟨#[]⟩, .string ⟨#[]⟩] 73)
  obtain ⟨s0, hs0⟩ : ∃ s0 : ByteArray, s0 = ⟨(l).toArray⟩ := ⟨_, rfl⟩
  have HS0 := Lib.hid hs0
  obtain ⟨q1, q2⟩ := lm_one h1
  rw [if_pos hg] at q1
  rw [if_pos hg] at q2
  obtain ⟨g1, g2, g3, g4⟩ := ge_yes hs0 hg
  have HRG := Lib.hid (fun (W : World) (v : Value) (h : RdB W v [(l.drop 2, [])]) => specRangeOk_any v [(l.drop 2, [])] W h (smB_one' (by simp; omega)))
  rw [rng_one, lim_nil, Bool.and_true, lim_ne g4, ← q1] at HRG
  simp only [h1, List.length_cons, List.length_nil] at HW
  generalize l.drop 2 = lo at g3 g4 HRG q2
  have HQ := Lib.hid q2
  clear q1 q2 h1 hg hl g4 hs0
  generalize lmOk l = q at HRG HQ ⊢
  go_enter Tryz.func100, Tryz.ntmps100
  go_wp2_with fail
  refine (HW.out _).mono ?_
  rintro e w1 ⟨g, cap, rfl, hS, hb1⟩
  have B1 := B0.trans (hb1.mono B0.size)
  have r1 := keepB r0 hb1
  have d0 : w1.cell? ⟨g, 0, none⟩ = some (.string s0) := by rw [HS0.out]; exact hS.cell 0 (by simp)
  have hg2 : g < w1.heap.size := cell_in d0
  clear hS
  have hgl : g ≤ w1.heap.size := by omega
  clear hb1 r0 B0
  go_wp2_with fail
  refine wp_loop_rounds 4 ?_
  rw [rounds_succ]
  go_wp2_with fail
  rw [rounds_succ]
  go_wp2_with fail
  refine (HRG.out _ _ (rdB_lit _ _ (by simp) _ _ _)).mono ?_
  rintro e w4 ⟨rfl, hb4⟩
  have BB := (((B1.alloc B1.size (.cells #[.string ⟨lo.toArray⟩, .string ⟨#[]⟩] 73)).alloc (by have := B1.size; simp; omega) (.cells #[.string ⟨lo.toArray⟩, .string ⟨#[]⟩] 73)).trans (hb4.mono (by have := B1.size; simp; omega)))
  obtain ⟨c0, c1, f1⟩ := cellsD (keepB (keepA (keepA r1 (.cells #[.string ⟨lo.toArray⟩, .string ⟨#[]⟩] 73)) (.cells #[.string ⟨lo.toArray⟩, .string ⟨#[]⟩] 73)) hb4)
  obtain ⟨x0, x1⟩ := two_cells (keepB (keepA (heap_alloc_new w1 (.cells #[.string ⟨lo.toArray⟩, .string ⟨#[]⟩] 73)) (.cells #[.string ⟨lo.toArray⟩, .string ⟨#[]⟩] 73)) hb4)
  clear hb4 B1 r1 HRG
  cases q
  · go_wp2_with fail
    refine bodyPost_ret (v := .tuple #[.agg #[.string ⟨#[]⟩, .string ⟨#[]⟩], .bool false]) ?_ rfl ⟨_, _, rfl, fun h => (by cases h), ?_⟩
    · simp [results, Tryz.results100, go_sem, c0, c1]
    · exact below_res2 BB (Nat.le_refl _) _ _
  · go_wp2_with fail
    refine bodyPost_ret (v := .tuple #[.agg #[.string ⟨lo.toArray⟩, .string ⟨#[]⟩], .bool true]) ?_ rfl ⟨_, _, rfl, fun _ => (by rw [HQ.out (by trivial)]; exact ⟨rfl, rfl⟩), ?_⟩
    · simp [results, Tryz.results100, go_sem, c0, c1]
    · exact below_res2 BB (Nat.le_refl _) _ _

set_option maxRecDepth 100000 in
set_option maxHeartbeats 4000000 in
theorem sg_B (l : List UInt8) (w : World) (hl : l.length ≤ 1048000) (h1 : cutL 32 l = [l]) (hg : geA l = false) (ht : ltA l = true) :
    Calls Tryz.prog 100 #[.string ⟨l.toArray⟩] w (AltIs w (lmOk l) (lmB l)) := by
  have HW := Lib.hid (fun W => specWords_any ⟨l.toArray⟩ W (by rw [size_of]; omega))
  have B0 : Below w.heap.size w (w.alloc (.cells #[.string ⟨#[]⟩, .string ⟨#[]⟩] 73)) := (Below.refl _ _).alloc (Nat.le_refl _) _
  have r0 := heap_alloc_new w (.cells #[.string ⟨#[]⟩, .string ⟨#[]⟩] 73)
  obtain ⟨s0, hs0⟩ : ∃ s0 : ByteArray, s0 = ⟨(l).toArray⟩ := ⟨_, rfl⟩
  have HS0 := Lib.hid hs0
  obtain ⟨q1, q2⟩ := lm_one h1
  rw [if_neg (by rw [hg]; simp), ht, Bool.true_and] at q1
  rw [if_neg (by rw [hg]; simp)] at q2
  obtain ⟨t1, t2, t3, t4⟩ := lt_yes hs0 ht
  have hgn := ge_no hs0 hg
  have HRG := Lib.hid (fun (W : World) (v : Value) (h : RdB W v [([], l.drop 1)]) => specRangeOk_any v [([], l.drop 1)] W h (smB_one' (by simp; omega)))
  rw [rng_one, lim_nil, Bool.true_and, lim_ne t4, ← q1] at HRG
  simp only [h1, List.length_cons, List.length_nil] at HW
  generalize l.drop 1 = hi at t3 t4 HRG q2
  have HQ := Lib.hid q2
  clear q1 q2 h1 hg hl t4 hs0 ht
  generalize lmOk l = q at HRG HQ ⊢
  rcases hgn with g1 | ⟨g1, z, g2, g3⟩
  all_goals
    go_enter Tryz.func100, Tryz.ntmps100
    go_wp2_with fail
    refine (HW.out _).mono ?_
    rintro e w1 ⟨g, cap, rfl, hS, hb1⟩
    have B1 := B0.trans (hb1.mono B0.size)
    have r1 := keepB r0 hb1
    have d0 : w1.cell? ⟨g, 0, none⟩ = some (.string s0) := by rw [HS0.out]; exact hS.cell 0 (by simp)
    have hg2 : g < w1.heap.size := cell_in d0
    clear hS
    have hgl : g ≤ w1.heap.size := by omega
    clear hb1 r0 B0
    go_wp2_with fail
    refine wp_loop_rounds 4 ?_
    rw [rounds_succ]
    go_wp2_with fail
    rw [rounds_succ]
    go_wp2_with fail
    refine (HRG.out _ _ (rdB_lit _ _ (by simp) _ _ _)).mono ?_
    rintro e w4 ⟨rfl, hb4⟩
    have BB := (((B1.alloc B1.size (.cells #[.string ⟨#[]⟩, .string ⟨hi.toArray⟩] 73)).alloc (by have := B1.size; simp; omega) (.cells #[.string ⟨#[]⟩, .string ⟨hi.toArray⟩] 73)).trans (hb4.mono (by have := B1.size; simp; omega)))
    obtain ⟨c0, c1, f1⟩ := cellsD (keepB (keepA (keepA r1 (.cells #[.string ⟨#[]⟩, .string ⟨hi.toArray⟩] 73)) (.cells #[.string ⟨#[]⟩, .string ⟨hi.toArray⟩] 73)) hb4)
    obtain ⟨x0, x1⟩ := two_cells (keepB (keepA (heap_alloc_new w1 (.cells #[.string ⟨#[]⟩, .string ⟨hi.toArray⟩] 73)) (.cells #[.string ⟨#[]⟩, .string ⟨hi.toArray⟩] 73)) hb4)
    clear hb4 B1 r1 HRG
    cases q
    · go_wp2_with fail
      refine bodyPost_ret (v := .tuple #[.agg #[.string ⟨#[]⟩, .string ⟨#[]⟩], .bool false]) ?_ rfl ⟨_, _, rfl, fun h => (by cases h), ?_⟩
      · simp [results, Tryz.results100, go_sem, c0, c1]
      · exact below_res2 BB (Nat.le_refl _) _ _
    · go_wp2_with fail
      refine bodyPost_ret (v := .tuple #[.agg #[.string ⟨#[]⟩, .string ⟨hi.toArray⟩], .bool true]) ?_ rfl ⟨_, _, rfl, fun _ => (by rw [HQ.out (by trivial)]; exact ⟨rfl, rfl⟩), ?_⟩
      · simp [results, Tryz.results100, go_sem, c0, c1]
      · exact below_res2 BB (Nat.le_refl _) _ _

set_option maxRecDepth 100000 in
set_option maxHeartbeats 4000000 in
theorem sg_C (l : List UInt8) (w : World) (hl : l.length ≤ 1048000) (h1 : cutL 32 l = [l]) (hg : geA l = false) (ht : ltA l = false) :
    Calls Tryz.prog 100 #[.string ⟨l.toArray⟩] w (AltIs w (lmOk l) (lmB l)) := by
  have HW := Lib.hid (fun W => specWords_any ⟨l.toArray⟩ W (by rw [size_of]; omega))
  have B0 : Below w.heap.size w (w.alloc (.cells #[.string ⟨#[]⟩, .string ⟨#[]⟩] 73)) := (Below.refl _ _).alloc (Nat.le_refl _) _
  have r0 := heap_alloc_new w (.cells #[.string ⟨#[]⟩, .string ⟨#[]⟩] 73)
  obtain ⟨s0, hs0⟩ : ∃ s0 : ByteArray, s0 = ⟨(l).toArray⟩ := ⟨_, rfl⟩
  have HS0 := Lib.hid hs0
  obtain ⟨q1, q2⟩ := lm_one h1
  rw [if_neg (by rw [hg]; simp), ht, Bool.false_and] at q1
  rw [q1]
  have htn := lt_no hs0 ht
  have hgn := ge_no hs0 hg
  simp only [h1, List.length_cons, List.length_nil] at HW
  clear q1 q2 h1 hg hl hs0 ht
  rcases hgn with g1 | ⟨g1, z, g2, g3⟩ <;> rcases htn with t1 | ⟨t1, t2⟩
  all_goals try (exfalso; omega)
  all_goals
    go_enter Tryz.func100, Tryz.ntmps100
    go_wp2_with fail
    refine (HW.out _).mono ?_
    rintro e w1 ⟨g, cap, rfl, hS, hb1⟩
    have B1 := B0.trans (hb1.mono B0.size)
    have r1 := keepB r0 hb1
    have d0 : w1.cell? ⟨g, 0, none⟩ = some (.string s0) := by rw [HS0.out]; exact hS.cell 0 (by simp)
    have hg2 : g < w1.heap.size := cell_in d0
    clear hS
    obtain ⟨c0, c1, f1⟩ := cellsD r1
    have hlt := lt_of_heap r1
    have B3 := (below_res2 B1 (Nat.le_refl _) (.string ⟨#[]⟩) (.string ⟨#[]⟩)).alloc (by simpa using B1.size) (.cells #[.string ⟨#[]⟩, .string ⟨#[]⟩] 73)
    obtain ⟨y0, y1⟩ := two_cells (keepA (set2_heap r1 (.string ⟨#[]⟩) (.string ⟨#[]⟩)) (.cells #[.string ⟨#[]⟩, .string ⟨#[]⟩] 73))
    clear B1 r1
    have hgl : g ≤ w1.heap.size := by omega
    clear hb1 r0 B0
    go_wp2_with fail
    refine wp_loop_rounds 4 ?_
    rw [rounds_succ]
    go_wp2_with fail
    refine bodyPost_ret (v := .tuple #[.agg #[.string ⟨#[]⟩, .string ⟨#[]⟩], .bool false]) ?_ rfl ⟨_, _, rfl, fun h => (by cases h), ?_⟩
    · simp [results, Tryz.results100, go_sem, y0, y1]
    · exact B3

set_option maxRecDepth 100000 in
set_option maxHeartbeats 4000000 in
theorem sg_D (l : List UInt8) (w : World) (hl : l.length ≤ 1048000) (x y : List UInt8) (h1 : cutL 32 l = [x, y]) (hg : geA x = true) (ht : ltA y = true) :
    Calls Tryz.prog 100 #[.string ⟨l.toArray⟩] w (AltIs w (lmOk l) (lmB l)) := by
  have HW := Lib.hid (fun W => specWords_any ⟨l.toArray⟩ W (by rw [size_of]; omega))
  have B0 : Below w.heap.size w (w.alloc (.cells #[.string ⟨#[]⟩, .string ⟨#[]⟩] 73)) := (Below.refl _ _).alloc (Nat.le_refl _) _
  have r0 := heap_alloc_new w (.cells #[.string ⟨#[]⟩, .string ⟨#[]⟩] 73)
  obtain ⟨s0, hs0⟩ : ∃ s0 : ByteArray, s0 = ⟨(x).toArray⟩ := ⟨_, rfl⟩
  have HS0 := Lib.hid hs0
  obtain ⟨s1, hs1⟩ : ∃ s1 : ByteArray, s1 = ⟨(y).toArray⟩ := ⟨_, rfl⟩
  have HS1 := Lib.hid hs1
  obtain ⟨q1, q2⟩ := lm_two h1
  rw [hg, ht, Bool.true_and, Bool.true_and] at q1
  obtain ⟨g1, g2, g3, g4⟩ := ge_yes hs0 hg
  obtain ⟨t1, t2, t3, t4⟩ := lt_yes hs1 ht
  have hxl : x.length + y.length ≤ l.length := by
    have := join_cut 32 l; rw [h1] at this; simp [joinL] at this; rw [← this]; simp
  have HRG := Lib.hid (fun (W : World) (v : Value) (h : RdB W v [(x.drop 2, y.drop 1)]) => specRangeOk_any v [(x.drop 2, y.drop 1)] W h (smB_one' (by simp; omega)))
  rw [rng_one, lim_ne g4, lim_ne t4, ← q1] at HRG
  simp only [h1, List.length_cons, List.length_nil] at HW
  have s1n := ge_no hs1 (by cases hh : geA y with | false => rfl | true => rw [ge_lt hh] at ht; cases ht)
  generalize x.drop 2 = lo at g3 g4 HRG q2
  generalize y.drop 1 = hi at t3 t4 HRG q2
  have HQ : Hid (lmOk l = true → lmB l = (lo, hi)) := Lib.hid (fun _ => q2)
  clear q1 q2 h1 hg hl t4 g4 hs0 hs1 ht hxl s1n
  generalize lmOk l = q at HRG HQ ⊢
  go_enter Tryz.func100, Tryz.ntmps100
  go_wp2_with fail
  refine (HW.out _).mono ?_
  rintro e w1 ⟨g, cap, rfl, hS, hb1⟩
  have B1 := B0.trans (hb1.mono B0.size)
  have r1 := keepB r0 hb1
  have d0 : w1.cell? ⟨g, 0, none⟩ = some (.string s0) := by rw [HS0.out]; exact hS.cell 0 (by simp)
  have d1 : w1.cell? ⟨g, 1, none⟩ = some (.string s1) := by rw [HS1.out]; exact hS.cell 1 (by simp)
  have hg2 : g < w1.heap.size := cell_in d0
  clear hS
  have hgl : g ≤ w1.heap.size := by omega
  clear hb1 r0 B0
  go_wp2_with fail
  refine wp_loop_rounds 4 ?_
  rw [rounds_succ]
  go_wp2_with fail
  rw [rounds_succ]
  go_wp2_with fail
  rw [rounds_succ]
  go_wp2_with fail
  refine (HRG.out _ _ (rdB_lit _ _ (by simp) _ _ _)).mono ?_
  rintro e w4 ⟨rfl, hb4⟩
  have BB := (((B1.alloc B1.size (.cells #[.string ⟨lo.toArray⟩, .string ⟨hi.toArray⟩] 73)).alloc (by have := B1.size; simp; omega) (.cells #[.string ⟨lo.toArray⟩, .string ⟨hi.toArray⟩] 73)).trans (hb4.mono (by have := B1.size; simp; omega)))
  obtain ⟨c0, c1, f1⟩ := cellsD (keepB (keepA (keepA r1 (.cells #[.string ⟨lo.toArray⟩, .string ⟨hi.toArray⟩] 73)) (.cells #[.string ⟨lo.toArray⟩, .string ⟨hi.toArray⟩] 73)) hb4)
  obtain ⟨x0, x1⟩ := two_cells (keepB (keepA (heap_alloc_new w1 (.cells #[.string ⟨lo.toArray⟩, .string ⟨hi.toArray⟩] 73)) (.cells #[.string ⟨lo.toArray⟩, .string ⟨hi.toArray⟩] 73)) hb4)
  clear hb4 B1 r1 HRG
  cases q
  · go_wp2_with fail
    refine bodyPost_ret (v := .tuple #[.agg #[.string ⟨#[]⟩, .string ⟨#[]⟩], .bool false]) ?_ rfl ⟨_, _, rfl, fun h => (by cases h), ?_⟩
    · simp [results, Tryz.results100, go_sem, c0, c1]
    · exact below_res2 BB (Nat.le_refl _) _ _
  · go_wp2_with fail
    refine bodyPost_ret (v := .tuple #[.agg #[.string ⟨lo.toArray⟩, .string ⟨hi.toArray⟩], .bool true]) ?_ rfl ⟨_, _, rfl, fun _ => (by rw [HQ.out (by trivial)]; exact ⟨rfl, rfl⟩), ?_⟩
    · simp [results, Tryz.results100, go_sem, c0, c1]
    · exact below_res2 BB (Nat.le_refl _) _ _

set_option maxRecDepth 100000 in
set_option maxHeartbeats 4000000 in
theorem sg_E (l : List UInt8) (w : World) (hl : l.length ≤ 1048000) (x y : List UInt8) (h1 : cutL 32 l = [x, y]) (hg : geA x = true) (ht : ltA y = false) :
    Calls Tryz.prog 100 #[.string ⟨l.toArray⟩] w (AltIs w (lmOk l) (lmB l)) := by
  have HW := Lib.hid (fun W => specWords_any ⟨l.toArray⟩ W (by rw [size_of]; omega))
  have B0 : Below w.heap.size w (w.alloc (.cells #[.string ⟨#[]⟩, .string ⟨#[]⟩] 73)) := (Below.refl _ _).alloc (Nat.le_refl _) _
  have r0 := heap_alloc_new w (.cells #[.string ⟨#[]⟩, .string ⟨#[]⟩] 73)
  obtain ⟨s0, hs0⟩ : ∃ s0 : ByteArray, s0 = ⟨(x).toArray⟩ := ⟨_, rfl⟩
  have HS0 := Lib.hid hs0
  obtain ⟨s1, hs1⟩ : ∃ s1 : ByteArray, s1 = ⟨(y).toArray⟩ := ⟨_, rfl⟩
  have HS1 := Lib.hid hs1
  obtain ⟨q1, q2⟩ := lm_two h1
  rw [ht, Bool.false_and, Bool.and_false] at q1
  rw [q1]
  obtain ⟨g1, g2, g3, g4⟩ := ge_yes hs0 hg
  have htn := lt_no hs1 ht
  simp only [h1, List.length_cons, List.length_nil] at HW
  generalize x.drop 2 = lo at g3 g4 q2
  clear q1 q2 h1 hg hl g4 hs0 hs1 ht
  rcases htn with t1 | ⟨t1, t2⟩
  all_goals
    go_enter Tryz.func100, Tryz.ntmps100
    go_wp2_with fail
    refine (HW.out _).mono ?_
    rintro e w1 ⟨g, cap, rfl, hS, hb1⟩
    have B1 := B0.trans (hb1.mono B0.size)
    have r1 := keepB r0 hb1
    have d0 : w1.cell? ⟨g, 0, none⟩ = some (.string s0) := by rw [HS0.out]; exact hS.cell 0 (by simp)
    have d1 : w1.cell? ⟨g, 1, none⟩ = some (.string s1) := by rw [HS1.out]; exact hS.cell 1 (by simp)
    have hg2 : g < w1.heap.size := cell_in d0
    clear hS
    obtain ⟨c0, c1, f1⟩ := cellsD r1
    have hlt := lt_of_heap r1
    have B3 := (below_res2 B1 (Nat.le_refl _) (.string ⟨#[]⟩) (.string ⟨#[]⟩)).alloc (by simpa using B1.size) (.cells #[.string ⟨lo.toArray⟩, .string ⟨#[]⟩] 73)
    obtain ⟨y0, y1⟩ := two_cells (keepA (set2_heap r1 (.string ⟨#[]⟩) (.string ⟨#[]⟩)) (.cells #[.string ⟨lo.toArray⟩, .string ⟨#[]⟩] 73))
    clear B1 r1
    have hgl : g ≤ w1.heap.size := by omega
    clear hb1 r0 B0
    go_wp2_with fail
    refine wp_loop_rounds 4 ?_
    rw [rounds_succ]
    go_wp2_with fail
    rw [rounds_succ]
    go_wp2_with fail
    refine bodyPost_ret (v := .tuple #[.agg #[.string ⟨#[]⟩, .string ⟨#[]⟩], .bool false]) ?_ rfl ⟨_, _, rfl, fun h => (by cases h), ?_⟩
    · simp [results, Tryz.results100, go_sem, y0, y1]
    · exact B3

set_option maxRecDepth 100000 in
set_option maxHeartbeats 4000000 in
theorem sg_F (l : List UInt8) (w : World) (hl : l.length ≤ 1048000) (x y : List UInt8) (t : List (List UInt8)) (h1 : cutL 32 l = x :: y :: t) (hg : geA x = false) :
    Calls Tryz.prog 100 #[.string ⟨l.toArray⟩] w (AltIs w (lmOk l) (lmB l)) := by
  have HW := Lib.hid (fun W => specWords_any ⟨l.toArray⟩ W (by rw [size_of]; omega))
  have B0 : Below w.heap.size w (w.alloc (.cells #[.string ⟨#[]⟩, .string ⟨#[]⟩] 73)) := (Below.refl _ _).alloc (Nat.le_refl _) _
  have r0 := heap_alloc_new w (.cells #[.string ⟨#[]⟩, .string ⟨#[]⟩] 73)
  obtain ⟨s0, hs0⟩ : ∃ s0 : ByteArray, s0 = ⟨(x).toArray⟩ := ⟨_, rfl⟩
  have HS0 := Lib.hid hs0
  have q1 : lmOk l = false := by
    cases t with
    | nil => rw [(lm_two h1).1, hg, Bool.false_and, Bool.false_and]
    | cons z t => exact lm_many h1
  rw [q1]
  have hgn := ge_no hs0 hg
  have hnl : (cutL 32 l).length ≤ l.length + 1 := cutL_le 32 l
  rw [h1] at hnl
  obtain ⟨N, HN⟩ : ∃ N, Hid ((x :: y :: t).length = N) := ⟨_, Lib.hid rfl⟩
  have hN : 2 ≤ N := by rw [← HN.out]; simp
  simp only [h1, HN.out] at HW
  rw [HN.out] at hnl
  have n1 : ((0 : Int) == (N : Int) - 1) = false := int_beq_false (by omega)
  clear q1 h1 hg hs0
  rcases hgn with g1 | ⟨g1, z, g2, g3⟩
  all_goals
    go_enter Tryz.func100, Tryz.ntmps100
    go_wp2_with fail
    refine (HW.out _).mono ?_
    rintro e w1 ⟨g, cap, rfl, hS, hb1⟩
    have B1 := B0.trans (hb1.mono B0.size)
    have r1 := keepB r0 hb1
    have d0 : w1.cell? ⟨g, 0, none⟩ = some (.string s0) := by rw [HS0.out]; exact hS.cell 0 (by simp)
    have hg2 : g < w1.heap.size := cell_in d0
    clear hS
    obtain ⟨c0, c1, f1⟩ := cellsD r1
    have hlt := lt_of_heap r1
    have B3 := (below_res2 B1 (Nat.le_refl _) (.string ⟨#[]⟩) (.string ⟨#[]⟩)).alloc (by simpa using B1.size) (.cells #[.string ⟨#[]⟩, .string ⟨#[]⟩] 73)
    obtain ⟨y0, y1⟩ := two_cells (keepA (set2_heap r1 (.string ⟨#[]⟩) (.string ⟨#[]⟩)) (.cells #[.string ⟨#[]⟩, .string ⟨#[]⟩] 73))
    clear B1 r1
    have hgl : g ≤ w1.heap.size := by omega
    clear hb1 r0 B0
    go_wp2_with fail
    refine wp_loop_rounds 4 ?_
    rw [rounds_succ]
    go_wp2_with fail
    refine bodyPost_ret (v := .tuple #[.agg #[.string ⟨#[]⟩, .string ⟨#[]⟩], .bool false]) ?_ rfl ⟨_, _, rfl, fun h => (by cases h), ?_⟩
    · simp [results, Tryz.results100, go_sem, y0, y1]
    · exact B3

set_option maxRecDepth 100000 in
set_option maxHeartbeats 4000000 in
theorem sg_G (l : List UInt8) (w : World) (hl : l.length ≤ 1048000) (x y z : List UInt8) (t : List (List UInt8)) (h1 : cutL 32 l = x :: y :: z :: t) (hg : geA x = true) :
    Calls Tryz.prog 100 #[.string ⟨l.toArray⟩] w (AltIs w (lmOk l) (lmB l)) := by
  have HW := Lib.hid (fun W => specWords_any ⟨l.toArray⟩ W (by rw [size_of]; omega))
  have B0 : Below w.heap.size w (w.alloc (.cells #[.string ⟨#[]⟩, .string ⟨#[]⟩] 73)) := (Below.refl _ _).alloc (Nat.le_refl _) _
  have r0 := heap_alloc_new w (.cells #[.string ⟨#[]⟩, .string ⟨#[]⟩] 73)
  obtain ⟨s0, hs0⟩ : ∃ s0 : ByteArray, s0 = ⟨(x).toArray⟩ := ⟨_, rfl⟩
  have HS0 := Lib.hid hs0
  rw [lm_many h1]
  obtain ⟨g1, g2, g3, g4⟩ := ge_yes hs0 hg
  have hnl : (cutL 32 l).length ≤ l.length + 1 := cutL_le 32 l
  rw [h1] at hnl
  obtain ⟨N, HN⟩ : ∃ N, Hid ((x :: y :: z :: t).length = N) := ⟨_, Lib.hid rfl⟩
  have hN : 3 ≤ N := by rw [← HN.out]; simp
  simp only [h1, HN.out] at HW
  rw [HN.out] at hnl
  have n1 : ((1 : Int) == (N : Int) - 1) = false := int_beq_false (by omega)
  generalize x.drop 2 = lo at g3 g4
  clear h1 hg hs0 g4
  go_enter Tryz.func100, Tryz.ntmps100
  go_wp2_with fail
  refine (HW.out _).mono ?_
  rintro e w1 ⟨g, cap, rfl, hS, hb1⟩
  have B1 := B0.trans (hb1.mono B0.size)
  have r1 := keepB r0 hb1
  have d0 : w1.cell? ⟨g, 0, none⟩ = some (.string s0) := by rw [HS0.out]; exact hS.cell 0 (by simp)
  have hg2 : g < w1.heap.size := cell_in d0
  clear hS
  obtain ⟨c0, c1, f1⟩ := cellsD r1
  have hlt := lt_of_heap r1
  have B3 := (below_res2 B1 (Nat.le_refl _) (.string ⟨#[]⟩) (.string ⟨#[]⟩)).alloc (by simpa using B1.size) (.cells #[.string ⟨lo.toArray⟩, .string ⟨#[]⟩] 73)
  obtain ⟨y0, y1⟩ := two_cells (keepA (set2_heap r1 (.string ⟨#[]⟩) (.string ⟨#[]⟩)) (.cells #[.string ⟨lo.toArray⟩, .string ⟨#[]⟩] 73))
  clear B1 r1
  have hgl : g ≤ w1.heap.size := by omega
  clear hb1 r0 B0
  go_wp2_with fail
  refine wp_loop_rounds 4 ?_
  rw [rounds_succ]
  go_wp2_with fail
  rw [rounds_succ]
  go_wp2_with fail
  refine bodyPost_ret (v := .tuple #[.agg #[.string ⟨#[]⟩, .string ⟨#[]⟩], .bool false]) ?_ rfl ⟨_, _, rfl, fun h => (by cases h), ?_⟩
  · simp [results, Tryz.results100, go_sem, y0, y1]
  · exact B3

theorem l03Signs_any (l : List UInt8) (w : World) (hl : l.length ≤ 1048000) : Calls Tryz.prog 100 #[.string ⟨l.toArray⟩] w (AltIs w (lmOk l) (lmB l)) := by
  match h : cutL 32 l with
  | [] => exact absurd h (cutL_ne 32 l)
  | [x] =>
    obtain rfl := cutL_one h
    cases hg : geA x with
    | true => exact sg_A x w hl h hg
    | false =>
      cases ht : ltA x with
      | true => exact sg_B x w hl h hg ht
      | false => exact sg_C x w hl h hg ht
  | [x, y] =>
    cases hg : geA x with
    | false => exact sg_F l w hl x y [] h hg
    | true =>
      cases ht : ltA y with
      | true => exact sg_D l w hl x y h hg ht
      | false => exact sg_E l w hl x y h hg ht
  | x :: y :: z :: t =>
    cases hg : geA x with
    | false => exact sg_F l w hl x y (z :: t) h hg
    | true => exact sg_G l w hl x y z t h hg
end Go.Proofs.YtongpnknmgbhjaaGreatDoor

/-
  A byte buffer of the call's own: what it owns as a list of bytes, and the string that it is turned into.
-/
namespace Go.Proofs.YtongpnknmgbhjaaGreatDoor
open Go.RowKit

/-- A byte as a value. -/
def bv (c : UInt8) : Value := .int .u8 (c.toNat : Int)
/-- The value v owns just the bytes l, in blocks from base on. -/
def Buf (w : World) (base : Nat) (v : Value) (l : List UInt8) : Prop := w.ownsRow base 5 1 v l.length (l.map bv)

theorem u8info : (Tryz.prog.info? 5).map (fun i => (i.zero, i.size, i.bytes)) = some (some (.int .u8 0), 1, 1) := by kernel_rfl

theorem Buf.form {w : World} {base : Nat} {v : Value} {l : List UInt8} (h : Buf w base v l) : (v = .slice none 0 0 ∧ l = []) ∨ ∃ g cap, v = .slice (some ⟨g, 0, none⟩) l.length cap ∧ base ≤ g ∧ g < w.heap.size := by
  rcases h.2 with ⟨hv, hl⟩ | ⟨g, cap, cur, hv, hb, hh, _⟩
  · left; exact ⟨hv, by simpa using hl⟩
  · right
    refine ⟨g, cap, hv, hb, ?_⟩
    rcases Nat.lt_or_ge g w.heap.size with hlt | hge
    · exact hlt
    · rw [Array.getElem?_eq_none hge] at hh; cases hh

theorem Buf.conv {w : World} {base : Nat} {v : Value} {l : List UInt8} (h : Buf w base v l) : (convert 138 9 v).run Tryz.prog w = .ok (.string ⟨l.toArray⟩) w := by
  rcases h.form with ⟨rfl, rfl⟩ | ⟨g, cap, rfl, _, _⟩
  · rw [run_convert_bytes_string w 138 9 5 none 0 0 Tryz.underlying138 Tryz.underlying5 Tryz.underlying9]
    rfl
  · refine run_convert_bytes_back w 138 9 5 ⟨g, 0, none⟩ cap l Tryz.underlying138 Tryz.underlying5 Tryz.underlying9 ?_
    intro j hj
    exact World.ownsRow.cells (g := g) h rfl j _ (by simp [bv, hj])

theorem Buf.alloc {w : World} {base : Nat} {v : Value} {l : List UInt8} (h : Buf w base v l) (o : Obj) : Buf (w.alloc o) base v l := World.ownsRow.alloc h o
theorem Buf.drew {w : World} {base : Nat} {v : Value} {l : List UInt8} (h : Buf w base v l) : Buf w.drew base v l := World.ownsRow.drew h
theorem Buf.owned {w : World} {base : Nat} {v : Value} {l : List UInt8} (h : Buf w base v l) : ∀ g, v.ownBlock = some g → base ≤ g := by
  intro g hg
  rcases h.form with ⟨rfl, _⟩ | ⟨g', cap, rfl, hb, _⟩
  · simp [Value.ownBlock] at hg
  · simp [Value.ownBlock] at hg; omega

theorem run_append_buf (w : World) (ty : TypeId) (base : Nat) (v : Value) (l : List UInt8) (hown : Buf w base v l) (ns : List UInt8) (B c : Nat) (cs : Array Value) (t : TypeId) (fr : Nat × Nat)
    (hblk : w.heap[B]? = some (.cells cs t fr)) (hcs : cs.toList = ns.map bv) (hm : 0 < ns.length) (hlen : l.length + ns.length ≤ 16777216) (hbase : base ≤ w.heap.size) :
    ∃ v' w', (Builtin.append_ #[138, 138] ty #[v, .slice (some ⟨B, 0, none⟩) ns.length c]).run Tryz.prog w = .ok v' w' ∧ Buf w' base v' (l ++ ns) ∧ Below base w w' := by
  obtain ⟨i0, hi, hz0, hz1, hz2⟩ := info_parts u8info
  obtain ⟨g, cap, w', hr, h2, h3, _, _⟩ := run_append_lies (P := Tryz.prog) w 138 ty base 5 i0 (.int .u8 0) 1 1 Tryz.underlying138 hi hz0 hz1 hz2 rfl (by decide) v l.length (l.map bv) hown
    ⟨B, 0, none⟩ ns.length c (ns.map bv) (by simp) (by rw [← hcs]; exact World.news_of_block hblk) (by intro u hu; obtain ⟨x, _, rfl⟩ := List.mem_map.1 hu; rfl) hm (by unfold maxLen; omega) (by omega) hbase _ rfl
  refine ⟨_, w', hr, ?_, (Below.refl base w).grown h3 hbase hown.owned⟩
  unfold Buf
  rw [List.length_append, List.map_append]
  exact h2

theorem wp_append_buf {w : World} {o : Oper} {a : Act} {K : Act → World → Prop} {Q : Exit → Act → World → Prop} (s x : Operand)
    (ho : o.op = .call { callee := .builtin .append, args := #[s, x], argTypes := #[138, 138] })
    (base : Nat) (v : Value) (l : List UInt8) (hs : a.eval s = v) (hown : Buf w base v l) (ns : List UInt8) (B m c : Nat) (cs : Array Value) (t : TypeId) (fr : Nat × Nat)
    (hx : a.eval x = .slice (some ⟨B, 0, none⟩) m c) (hmm : ns.length = m) (hblk : w.heap[B]? = some (.cells cs t fr)) (hcs : cs.toList = ns.map bv) (hm : 0 < ns.length) (hlen : l.length + ns.length ≤ 16777216) (hbase : base ≤ w.heap.size)
    (h : ∀ v' w', Buf w' base v' (l ++ ns) → Below base w w' → K (a.put o.dst v') w') : o.wp Tryz.prog a w K Q := by
  subst hmm
  obtain ⟨v', w', hr, h2, h3⟩ := run_append_buf w o.type base v l hown ns B c cs t fr hblk hcs hm hlen hbase
  unfold Oper.wp execOp
  simp only [ho, resolve, invoke, builtin, Sem.run_bind, Sem.run_pure, Result.andThen_ok, List.map_toArray, List.map_cons, List.map_nil, hs, hx, hr]
  exact h v' w' h2 h3

/-- append(out, bytes) at a plain region's list. -/
theorem wpList_append_buf {w : World} {ops : Array Oper} {rest : List Oper} {o : Oper} {a : Act} {Q : Exit → Act → World → Prop} (hgd : o.guard = none) (s x : Operand)
    (ho : o.op = .call { callee := .builtin .append, args := #[s, x], argTypes := #[138, 138] })
    (base : Nat) (v : Value) (l : List UInt8) (hs : a.eval s = v) (hown : Buf w base v l) (ns : List UInt8) (B m c : Nat) (cs : Array Value) (t : TypeId) (fr : Nat × Nat)
    (hx : a.eval x = .slice (some ⟨B, 0, none⟩) m c) (hmm : ns.length = m) (hblk : w.heap[B]? = some (.cells cs t fr)) (hcs : cs.toList = ns.map bv) (hm : 0 < ns.length) (hlen : l.length + ns.length ≤ 16777216) (hbase : base ≤ w.heap.size)
    (h : ∀ v' w', Buf w' base v' (l ++ ns) → Below base w w' → wpList Tryz.prog ops Q rest (a.put o.dst v') w') : wpList Tryz.prog ops Q (o :: rest) a w :=
  wpList_plain hgd fun _ hK => wp_append_buf s x ho base v l hs hown ns B m c cs t fr hx hmm hblk hcs hm hlen hbase fun v' w' h2 h3 => hK _ _ (h v' w' h2 h3)

/-- append(out, bytes) at a step of a region that draws its order. -/
theorem step_append_buf {w : World} {ops : Array Oper} {o : Oper} {a : Act} {K : Act → World → Prop} {Q : Exit → Act → World → Prop} {E : Prop} (hgd : o.guard = none) (s x : Operand)
    (ho : o.op = .call { callee := .builtin .append, args := #[s, x], argTypes := #[138, 138] })
    (base : Nat) (v : Value) (l : List UInt8) (hs : a.eval s = v) (hown : Buf w base v l) (ns : List UInt8) (B m c : Nat) (cs : Array Value) (t : TypeId) (fr : Nat × Nat)
    (hx : a.eval x = .slice (some ⟨B, 0, none⟩) m c) (hmm : ns.length = m) (hblk : w.heap[B]? = some (.cells cs t fr)) (hcs : cs.toList = ns.map bv) (hm : 0 < ns.length) (hlen : l.length + ns.length ≤ 16777216) (hbase : base ≤ w.heap.size)
    (h : ∀ v' w', Buf w' base v' (l ++ ns) → Below base w w' → K (a.put o.dst v') w') :
    if Region.wanted o (yielded ops a.tmps) = true then Oper.wp Tryz.prog o a w K Q else E := by
  have hw : Region.wanted o (yielded ops a.tmps) = true := by simp [Region.wanted, hgd]
  rw [if_pos hw]
  exact wp_append_buf s x ho base v l hs hown ns B m c cs t fr hx hmm hblk hcs hm hlen hbase h

def hexC (n : Nat) : UInt8 := ([48, 49, 50, 51, 52, 53, 54, 55, 56, 57, 97, 98, 99, 100, 101, 102] : List UInt8).getD n 0
def hexU (n : Nat) : UInt8 := ([48, 49, 50, 51, 52, 53, 54, 55, 56, 57, 65, 66, 67, 68, 69, 70] : List UInt8).getD n 0
theorem idx_lower (n : Nat) (hn : n < 16) (z : Int) (hz : z = (n : Int)) (w : World) : (Instr.index 9 (.string ⟨#[48, 49, 50, 51, 52, 53, 54, 55, 56, 57, 97, 98, 99, 100, 101, 102]⟩) (.int .u8 z)).run Tryz.prog w = .ok (.int .u8 ((hexC n).toNat : Int)) w := by
  subst hz
  obtain rfl | rfl | rfl | rfl | rfl | rfl | rfl | rfl | rfl | rfl | rfl | rfl | rfl | rfl | rfl | rfl : n = 0 ∨ n = 1 ∨ n = 2 ∨ n = 3 ∨ n = 4 ∨ n = 5 ∨ n = 6 ∨ n = 7 ∨ n = 8 ∨ n = 9 ∨ n = 10 ∨ n = 11 ∨ n = 12 ∨ n = 13 ∨ n = 14 ∨ n = 15 := by omega
  all_goals kernel_rfl
theorem idx_upper (n : Nat) (hn : n < 16) (z : Int) (hz : z = (n : Int)) (w : World) : (Instr.index 9 (.string ⟨#[48, 49, 50, 51, 52, 53, 54, 55, 56, 57, 65, 66, 67, 68, 69, 70]⟩) (.int .u8 z)).run Tryz.prog w = .ok (.int .u8 ((hexU n).toNat : Int)) w := by
  subst hz
  obtain rfl | rfl | rfl | rfl | rfl | rfl | rfl | rfl | rfl | rfl | rfl | rfl | rfl | rfl | rfl | rfl : n = 0 ∨ n = 1 ∨ n = 2 ∨ n = 3 ∨ n = 4 ∨ n = 5 ∨ n = 6 ∨ n = 7 ∨ n = 8 ∨ n = 9 ∨ n = 10 ∨ n = 11 ∨ n = 12 ∨ n = 13 ∨ n = 14 ∨ n = 15 := by omega
  all_goals kernel_rfl
theorem and15 (c : UInt8) : bits .and .u8 (c.toNat : Int) 15 = (c.toNat : Int) % 16 := by
  have h : ∀ n : Nat, n < 256 → bits .and .u8 (n : Int) 15 = (n : Int) % 16 := by decide +kernel
  exact h _ c.toNat_lt

theorem Buf.lit (w : World) (base : Nat) (l : List UInt8) (hb : base ≤ w.heap.size) (hl : l.length ≤ 16777216) : Buf (w.alloc (.cells (l.map bv).toArray 5)) base (.slice (some ⟨w.heap.size, 0, none⟩) l.length l.length) l := by
  have h := World.ownsRow_lit (base := base) (e := 5) (size := 1) w (l.map bv).toArray l.length hb (by unfold maxLen; omega) (by simp)
  simpa [Buf] using h
theorem Buf.empty (w : World) (base : Nat) (hb : base ≤ w.heap.size) : Buf (w.alloc (.cells #[] 5)) base (.slice (some ⟨w.heap.size, 0, none⟩) 0 0) [] := Buf.lit w base [] hb (by simp)

theorem wrap_div16 (c : UInt8) : IntKind.u8.wrap ((c.toNat : Int) / 16) = (c.toNat : Int) / 16 := by
  have h : ∀ n : Nat, n < 256 → IntKind.u8.wrap ((n : Int) / 16) = (n : Int) / 16 := by decide +kernel
  exact h _ c.toNat_lt

theorem tmod16 (c : UInt8) : (c.toNat : Int).tmod 16 = (c.toNat : Int) % 16 := Int.tmod_eq_emod_of_nonneg (by omega)

end Go.Proofs.YtongpnknmgbhjaaGreatDoor

/-
  A string appended to a byte buffer of the call's own.
-/
namespace Go.Proofs.YtongpnknmgbhjaaGreatDoor
open Go.RowKit

theorem wpList_append_buf_str {w : World} {ops : Array Oper} {rest : List Oper} {o : Oper} {a : Act} {Q : Exit → Act → World → Prop} (hgd : o.guard = none) (s x : Operand)
    (ho : o.op = .call { callee := .builtin .append, args := #[s, x], argTypes := #[138, 9] })
    (base : Nat) (v : Value) (l : List UInt8) (hs : a.eval s = v) (hown : Buf w base v l) (ns : List UInt8) (hx : a.eval x = .string ⟨ns.toArray⟩) (hlen : l.length + ns.length ≤ 16777216) (hbase : base ≤ w.heap.size)
    (h : ∀ v' w', Buf w' base v' (l ++ ns) → Below base w w' → wpList Tryz.prog ops Q rest (a.put o.dst v') w') : wpList Tryz.prog ops Q (o :: rest) a w := by
  obtain ⟨i0, hi, hz0, hz1, hz2⟩ := info_parts u8info
  have hsz : (⟨ns.toArray⟩ : ByteArray).size = ns.length := by show ns.toArray.size = _; simp
  refine Lib.wpList_append_own_string _ hgd s x 138 9 ho base 5 i0 Tryz.underlying138 Tryz.underlying9 hi hz0 hz1 hz2 v l.length (l.map bv) hs hown ⟨ns.toArray⟩ hx (by rw [hsz]; unfold maxLen; omega) (by rw [hsz]; omega) hbase ?_
  intro v' w' h2 h3 _
  refine h v' w' ?_ ((Below.refl base w).grown h3 hbase hown.owned)
  unfold Buf
  rw [hsz] at h2
  rw [List.length_append, List.map_append]
  exact h2

/-- A buffer is kept by whatever leaves all old blocks as they were. -/
theorem Buf.below {w w' : World} {base : Nat} {v : Value} {l : List UInt8} (h : Buf w base v l) (hb : Below w.heap.size w w') : Buf w' base v l :=
  World.ownsRow.kept h (row := none) ⟨hb.os, hb.tape, hb.output, hb.size, fun i hi _ => hb.block i hi⟩ (by
    rcases h.form with ⟨rfl, _⟩ | ⟨g, cap, rfl, _, _⟩
    · left; rfl
    · right; simp [Value.ownBlock])
end Go.Proofs.YtongpnknmgbhjaaGreatDoor

/-
  A cursor over a text in a cell: what it leaves.
-/
namespace Go.Proofs.YtongpnknmgbhjaaGreatDoor
open Go.RowKit

theorem index_one (m : UInt8) : ∀ l : List UInt8, Lib.index l [m] = Lib.indexByte l m
  | [] => rfl
  | c :: l => by
    have ih := index_one m l
    unfold Lib.index
    by_cases h : c = m
    · subst h; simp [Lib.indexByte]
    · rw [idx_miss l h, ih]
      have : ([m].isPrefixOf (c :: l)) = false := by simp [List.isPrefixOf]; exact fun e => h e.symm
      rw [if_neg (by rw [this]; simp)]
      simp
theorem cut_one (m : UInt8) (l : List UInt8) : (Lib.cut l [m]).1 = cutA m l ∧ (Lib.cut l [m]).2.1 = cutB m l := by
  unfold Lib.cut cutA cutB
  rw [index_one]
  split <;> simp

theorem cells1 {V : World} {B : Nat} {T : TypeId} {v0 : Value} (h : V.heap[B]? = some (.cells #[v0] T)) : V.cell? ⟨B, 0, none⟩ = some v0 := by simp [World.cell?, h]
theorem frozen1 {V : World} {B : Nat} {T : TypeId} {v0 : Value} (h : V.heap[B]? = some (.cells #[v0] T)) (o : Nat) : V.frozen? ⟨B, o, none⟩ = false := by simp [World.frozen?, h]
theorem heap_one {V : World} {B : Nat} {T : TypeId} {v0 : Value} (h : V.heap[B]? = some (.cells #[v0] T)) (x : Value) : (V.setCell ⟨B, 0, none⟩ x).heap[B]? = some (.cells #[x] T) := by
  rw [heap_setCell_same V B 0 #[v0] T x h]; rfl
/-- What upTo leaves: the rest in the cursor's cell, all else as it was. -/
def CurTo (q : Nat) (T : TypeId) (w : World) (r : List UInt8) (w' : World) : Prop := w'.heap[q]? = some (.cells #[.string ⟨r.toArray⟩] T) ∧ w.grownBy w' (some q) ∧ w'.heap.size = w.heap.size
theorem Buf.far {w w' : World} {base : Nat} {v : Value} {l : List UInt8} {q : Nat} (h : Buf w base v l) (hg : w.grownBy w' (some q)) (hq : q < base) : Buf w' base v l :=
  World.ownsRow.kept h hg (by
    rcases h.form with ⟨rfl, _⟩ | ⟨g, cap, rfl, hb, _⟩
    · left; rfl
    · right; simp [Value.ownBlock]; omega)

set_option maxRecDepth 100000 in
set_option maxHeartbeats 1000000 in
theorem done_any (q : Nat) (T : TypeId) (l : List UInt8) (w : World) (hq : w.heap[q]? = some (.cells #[.string ⟨l.toArray⟩] T)) :
    Calls Tryz.prog 180 #[.pointer (some ⟨q, 0, none⟩)] w fun e w' => e = .returned (.bool l.isEmpty) ∧ w = w' := by
  have c0 := cells1 hq
  clear hq
  go_enter Tryz.func180, Tryz.ntmps180
  go_wp2_with fail
  go_ret
  exact ⟨rfl, rfl⟩
end Go.Proofs.YtongpnknmgbhjaaGreatDoor

namespace Go.Proofs.YtongpnknmgbhjaaGreatDoor
open Go.RowKit

theorem lmT_ge (l : List UInt8) : (!(lmT [62, 61] l).isEmpty) = (geP l && readOk (l.drop 2)) ∧ ((lmT [62, 61] l) ≠ [] → lmT [62, 61] l = l.drop 2) := by
  unfold geP
  cases h1 : ([62, 61] : List UInt8).isPrefixOf l with
  | false => rw [lmT_no1 h1]; simp
  | true =>
    cases h2 : readOk (l.drop 2) with
    | false => rw [lmT_no2 (p := [62, 61]) h2]; simp
    | true =>
      rw [lmT_yes h1 h2]
      refine ⟨?_, fun _ => rfl⟩
      cases h3 : l.drop 2 with
      | nil => rw [h3, readOk_nil] at h2; cases h2
      | cons x y => simp
theorem lmT_lt (l : List UInt8) : (!(lmT [60] l).isEmpty) = (ltP l && readOk (l.drop 1)) ∧ ((lmT [60] l) ≠ [] → lmT [60] l = l.drop 1) := by
  unfold ltP
  cases h1 : ([60] : List UInt8).isPrefixOf l with
  | false => rw [lmT_no1 h1]; simp
  | true =>
    cases h2 : readOk (l.drop 1) with
    | false => rw [lmT_no2 (p := [60]) h2]; simp
    | true =>
      rw [lmT_yes h1 h2]
      refine ⟨?_, fun _ => rfl⟩
      cases h3 : l.drop 1 with
      | nil => rw [h3, readOk_nil] at h2; cases h2
      | cons x y => simp
theorem ge_lt_no {l : List UInt8} (h : lmT [62, 61] l ≠ []) : lmT [60] l = [] := by
  have h1 : ([62, 61] : List UInt8).isPrefixOf l = true := by
    cases h1 : ([62, 61] : List UInt8).isPrefixOf l with
    | true => rfl
    | false => exact absurd (lmT_no1 h1) h
  obtain ⟨t, rfl⟩ := List.isPrefixOf_iff_prefix.1 h1
  exact lmT_no1 (by simp [List.isPrefixOf])
theorem cut_both {l : List UInt8} (h : 0 ≤ Lib.indexByte l 32) : (Lib.cut l [32]).1 = cutA 32 l ∧ (Lib.cut l [32]).2.1 = cutB 32 l ∧ (Lib.cut l [32]).2.2 = true := by
  refine ⟨(cut_one 32 l).1, (cut_one 32 l).2, ?_⟩
  unfold Lib.cut; rw [index_one, if_pos h]
theorem cut_alone {l : List UInt8} (h : ¬ 0 ≤ Lib.indexByte l 32) : (Lib.cut l [32]).1 = l ∧ (Lib.cut l [32]).2.1 = [] ∧ (Lib.cut l [32]).2.2 = false := by
  unfold Lib.cut; rw [index_one, if_neg h]; exact ⟨rfl, rfl, rfl⟩
theorem cutA_le (m : UInt8) (l : List UInt8) : (cutA m l).length ≤ l.length := by have := cut_len m l; omega

theorem ne_empty {l : List UInt8} (h : l ≠ []) : l.isEmpty = false := by cases l with
  | nil => exact absurd rfl h
  | cons x y => rfl
set_option maxRecDepth 100000 in
set_option maxHeartbeats 4000000 in
theorem limits_both (l f g : List UInt8) (m : Int) (w : World) (hl : l.length ≤ 1048000) (hf : f.length ≤ 1048000) (hg : g.length ≤ 1048000) (ht : Tab w) (hm : w.cell? ⟨0, 0, none⟩ = some (.int .i64 m))
    (h1 : (Lib.cut l [32]).1 = f) (h2 : (Lib.cut l [32]).2.1 = g) (h3 : (Lib.cut l [32]).2.2 = true) (lo hi : List UInt8) (hlo : lmT [62, 61] f = lo) (hhi : lmT [60] g = hi) :
    Calls Tryz.prog 110 #[.string ⟨l.toArray⟩] w (AltIs w ((!lo.isEmpty) && (!hi.isEmpty)) (lo, hi)) := by
  have B0 : Below w.heap.size w (w.alloc (.cells #[.string ⟨#[]⟩, .string ⟨#[]⟩] 73)) := (Below.refl _ _).alloc (Nat.le_refl _) _
  have r0 := heap_alloc_new w (.cells #[.string ⟨#[]⟩, .string ⟨#[]⟩] 73)
  have HC := Lib.hid (fun (W : World) (h : Below w.heap.size w W) => cutSp_any l m W (by omega) (keepC h hm))
  rw [h1, h2, h3] at HC
  have HG := Lib.hid (fun (W : World) (h : Below w.heap.size w W) => readLimit_any f [62, 61] W hf (tab_below ht h))
  rw [hlo] at HG
  have HL := Lib.hid (fun (W : World) (h : Below w.heap.size w W) => readLimit_any g [60] W hg (tab_below ht h))
  rw [hhi] at HL
  clear h1 h2 h3 hlo hhi ht hm hl hf hg
  go_enter Tryz.func110, Tryz.ntmps110
  go_wp2_with fail
  refine (HC.out _ B0).mono ?_
  rintro e w1 ⟨rfl, n, hw1⟩
  have B1 : Below w.heap.size w w1 := by rw [hw1]; exact B0.trans (below_drewN _ _ n)
  have r1 : w1.heap[w.heap.size]? = some (.cells #[.string ⟨#[]⟩, .string ⟨#[]⟩] 73) := by rw [hw1]; exact r0
  clear hw1 r0 B0
  go_wp2_with fail
  refine (HG.out _ B1).mono ?_
  rintro e w2 ⟨rfl, hb2⟩
  have B2 := B1.trans (hb2.mono B1.size)
  have r2 := keepB r1 hb2
  have B3 := B2.alloc B2.size (.cells #[.string ⟨lo.toArray⟩, .string ⟨#[]⟩] 73)
  have r3 := keepA r2 (.cells #[.string ⟨lo.toArray⟩, .string ⟨#[]⟩] 73)
  have z3 := heap_alloc_new w2 (.cells #[.string ⟨lo.toArray⟩, .string ⟨#[]⟩] 73)
  have hs2 := lt_of_heap r2
  clear hb2 r1 B1 r2 B2
  go_wp2_with fail
  refine (HL.out _ B3).mono ?_
  rintro e w4 ⟨rfl, hb4⟩
  have B4 := B3.trans (hb4.mono B3.size)
  have r4 := keepB r3 hb4
  have z4 := keepB z3 hb4
  generalize w2.heap.size = Q at z4 hs2 ⊢
  have rr := heap_other (o := 1) r4 (.string ⟨hi.toArray⟩) (g := Q) (by omega)
  have zz := Lib.heap_setCell_same (i := 1) z4 (.string ⟨hi.toArray⟩)
  have BB := B4.setCell (p := ⟨Q, 1, none⟩) (Nat.le_of_lt hs2) (.string ⟨hi.toArray⟩)
  obtain ⟨v0, v1⟩ := two_cells z4
  have g1 := frozen2 z4 1
  clear hb4 r3 z3 B3 B4
  have hQR : Q ≠ w.heap.size := by omega
  have zz : (w4.setCell ⟨Q, 1, none⟩ (.string ⟨hi.toArray⟩)).heap[Q]? = some (.cells #[.string ⟨lo.toArray⟩, .string ⟨hi.toArray⟩] 73) := by simpa using zz
  obtain ⟨z0, z1⟩ := two_cells zz
  obtain ⟨y0, y1⟩ := two_cells rr
  have f0 := frozen2 rr 0
  have f1 := frozen2 rr 1
  clear r4 z4
  by_cases hl0 : lo = [] <;> by_cases hh0 : hi = []
  · subst hl0
    subst hh0
    have HE : Hid (((!([] : List UInt8).isEmpty) && (!([] : List UInt8).isEmpty)) = false) := Lib.hid (by rfl)
    go_wp2_with fail
    go_region
    all_goals go_wp2_with fail
    all_goals
      obtain ⟨x0, x1⟩ := two_cells (V := (((w4.setCell ⟨Q, 1, none⟩ (.string ⟨#[]⟩)).setCell ⟨w.heap.size, 0, none⟩ (.string ⟨#[]⟩)).setCell ⟨w.heap.size, 1, none⟩ (.string ⟨#[]⟩)).drew) (set2_heap rr (.string ⟨#[]⟩) (.string ⟨#[]⟩))
      refine bodyPost_ret (v := .tuple #[.agg #[.string ⟨#[]⟩, .string ⟨#[]⟩], .bool false]) ?_ rfl ⟨_, _, (by rw [HE.out]), fun _ => ⟨rfl, rfl⟩, (below_res2 BB (Nat.le_refl _) (.string ⟨#[]⟩) (.string ⟨#[]⟩)).trans (below_drewN _ _ 1)⟩
      simp [results, Tryz.results110, go_sem, x0, x1]
  · subst hl0
    have m1 : (hi == []) = false := by simpa using hh0
    have m2 : (hi != []) = true := by simpa using hh0
    have HE : Hid (((!([] : List UInt8).isEmpty) && (!(hi : List UInt8).isEmpty)) = false) := Lib.hid (by rw [ne_empty hh0]; rfl)
    clear hh0
    go_wp2_with fail
    go_region
    all_goals go_wp2_with fail
    all_goals
      obtain ⟨x0, x1⟩ := two_cells (V := (((w4.setCell ⟨Q, 1, none⟩ (.string ⟨hi.toArray⟩)).setCell ⟨w.heap.size, 0, none⟩ (.string ⟨#[]⟩)).setCell ⟨w.heap.size, 1, none⟩ (.string ⟨hi.toArray⟩)).drew) (set2_heap rr (.string ⟨#[]⟩) (.string ⟨hi.toArray⟩))
      refine bodyPost_ret (v := .tuple #[.agg #[.string ⟨#[]⟩, .string ⟨hi.toArray⟩], .bool false]) ?_ rfl ⟨_, _, (by rw [HE.out]), fun _ => ⟨rfl, rfl⟩, (below_res2 BB (Nat.le_refl _) (.string ⟨#[]⟩) (.string ⟨hi.toArray⟩)).trans (below_drewN _ _ 1)⟩
      simp [results, Tryz.results110, go_sem, x0, x1]
  · have n1 : (lo == []) = false := by simpa using hl0
    have n2 : (lo != []) = true := by simpa using hl0
    subst hh0
    have HE : Hid (((!(lo : List UInt8).isEmpty) && (!([] : List UInt8).isEmpty)) = false) := Lib.hid (by rw [ne_empty hl0]; rfl)
    clear hl0
    go_wp2_with fail
    go_region
    all_goals go_wp2_with fail
    all_goals
      obtain ⟨x0, x1⟩ := two_cells (V := (((w4.setCell ⟨Q, 1, none⟩ (.string ⟨#[]⟩)).setCell ⟨w.heap.size, 0, none⟩ (.string ⟨lo.toArray⟩)).setCell ⟨w.heap.size, 1, none⟩ (.string ⟨#[]⟩)).drew) (set2_heap rr (.string ⟨lo.toArray⟩) (.string ⟨#[]⟩))
      refine bodyPost_ret (v := .tuple #[.agg #[.string ⟨lo.toArray⟩, .string ⟨#[]⟩], .bool false]) ?_ rfl ⟨_, _, (by rw [HE.out]), fun _ => ⟨rfl, rfl⟩, (below_res2 BB (Nat.le_refl _) (.string ⟨lo.toArray⟩) (.string ⟨#[]⟩)).trans (below_drewN _ _ 1)⟩
      simp [results, Tryz.results110, go_sem, x0, x1]
  · have n1 : (lo == []) = false := by simpa using hl0
    have n2 : (lo != []) = true := by simpa using hl0
    have m1 : (hi == []) = false := by simpa using hh0
    have m2 : (hi != []) = true := by simpa using hh0
    have HE : Hid (((!(lo : List UInt8).isEmpty) && (!(hi : List UInt8).isEmpty)) = true) := Lib.hid (by rw [ne_empty hl0, ne_empty hh0]; rfl)
    clear hl0 hh0
    go_wp2_with fail
    go_region
    all_goals go_wp2_with fail
    all_goals
      obtain ⟨x0, x1⟩ := two_cells (V := (((w4.setCell ⟨Q, 1, none⟩ (.string ⟨hi.toArray⟩)).setCell ⟨w.heap.size, 0, none⟩ (.string ⟨lo.toArray⟩)).setCell ⟨w.heap.size, 1, none⟩ (.string ⟨hi.toArray⟩)).drew) (set2_heap rr (.string ⟨lo.toArray⟩) (.string ⟨hi.toArray⟩))
      refine bodyPost_ret (v := .tuple #[.agg #[.string ⟨lo.toArray⟩, .string ⟨hi.toArray⟩], .bool true]) ?_ rfl ⟨_, _, (by rw [HE.out]), fun _ => ⟨rfl, rfl⟩, (below_res2 BB (Nat.le_refl _) (.string ⟨lo.toArray⟩) (.string ⟨hi.toArray⟩)).trans (below_drewN _ _ 1)⟩
      simp [results, Tryz.results110, go_sem, x0, x1]

set_option maxRecDepth 100000 in
set_option maxHeartbeats 4000000 in
theorem limits_alone (l f g : List UInt8) (m : Int) (w : World) (hl : l.length ≤ 1048000) (hf : f.length ≤ 1048000) (_hg : g.length ≤ 1048000) (ht : Tab w) (hm : w.cell? ⟨0, 0, none⟩ = some (.int .i64 m))
    (h1 : (Lib.cut l [32]).1 = f) (h2 : (Lib.cut l [32]).2.1 = g) (h3 : (Lib.cut l [32]).2.2 = false) (lo hi : List UInt8) (hlo : lmT [62, 61] f = lo) (hhi : lmT [60] f = hi) :
    Calls Tryz.prog 110 #[.string ⟨l.toArray⟩] w (AltIs w ((!lo.isEmpty) || (!hi.isEmpty)) (lo, hi)) := by
  have B0 : Below w.heap.size w (w.alloc (.cells #[.string ⟨#[]⟩, .string ⟨#[]⟩] 73)) := (Below.refl _ _).alloc (Nat.le_refl _) _
  have r0 := heap_alloc_new w (.cells #[.string ⟨#[]⟩, .string ⟨#[]⟩] 73)
  have HC := Lib.hid (fun (W : World) (h : Below w.heap.size w W) => cutSp_any l m W (by omega) (keepC h hm))
  rw [h1, h2, h3] at HC
  have HG := Lib.hid (fun (W : World) (h : Below w.heap.size w W) => readLimit_any f [62, 61] W hf (tab_below ht h))
  rw [hlo] at HG
  have HL := Lib.hid (fun (W : World) (h : Below w.heap.size w W) => readLimit_any f [60] W hf (tab_below ht h))
  rw [hhi] at HL
  clear h1 h2 h3 hlo hhi ht hm hl hf _hg
  go_enter Tryz.func110, Tryz.ntmps110
  go_wp2_with fail
  refine (HC.out _ B0).mono ?_
  rintro e w1 ⟨rfl, n, hw1⟩
  have B1 : Below w.heap.size w w1 := by rw [hw1]; exact B0.trans (below_drewN _ _ n)
  have r1 : w1.heap[w.heap.size]? = some (.cells #[.string ⟨#[]⟩, .string ⟨#[]⟩] 73) := by rw [hw1]; exact r0
  clear hw1 r0 B0
  go_wp2_with fail
  refine (HG.out _ B1).mono ?_
  rintro e w2 ⟨rfl, hb2⟩
  have B2 := B1.trans (hb2.mono B1.size)
  have r2 := keepB r1 hb2
  have B3 := B2.alloc B2.size (.cells #[.string ⟨lo.toArray⟩, .string ⟨#[]⟩] 73)
  have r3 := keepA r2 (.cells #[.string ⟨lo.toArray⟩, .string ⟨#[]⟩] 73)
  have z3 := heap_alloc_new w2 (.cells #[.string ⟨lo.toArray⟩, .string ⟨#[]⟩] 73)
  have hs2 := lt_of_heap r2
  clear hb2 r1 B1 r2 B2
  go_wp2_with fail
  refine (HL.out _ B3).mono ?_
  rintro e w4 ⟨rfl, hb4⟩
  have B4 := B3.trans (hb4.mono B3.size)
  have r4 := keepB r3 hb4
  have z4 := keepB z3 hb4
  generalize w2.heap.size = Q at z4 hs2 ⊢
  have rr := heap_other (o := 1) r4 (.string ⟨hi.toArray⟩) (g := Q) (by omega)
  have zz := Lib.heap_setCell_same (i := 1) z4 (.string ⟨hi.toArray⟩)
  have BB := B4.setCell (p := ⟨Q, 1, none⟩) (Nat.le_of_lt hs2) (.string ⟨hi.toArray⟩)
  obtain ⟨v0, v1⟩ := two_cells z4
  have g1 := frozen2 z4 1
  clear hb4 r3 z3 B3 B4
  have hQR : Q ≠ w.heap.size := by omega
  have zz : (w4.setCell ⟨Q, 1, none⟩ (.string ⟨hi.toArray⟩)).heap[Q]? = some (.cells #[.string ⟨lo.toArray⟩, .string ⟨hi.toArray⟩] 73) := by simpa using zz
  obtain ⟨z0, z1⟩ := two_cells zz
  obtain ⟨y0, y1⟩ := two_cells rr
  have f0 := frozen2 rr 0
  have f1 := frozen2 rr 1
  clear r4 z4
  by_cases hl0 : lo = [] <;> by_cases hh0 : hi = []
  · subst hl0
    subst hh0
    have HE : Hid (((!([] : List UInt8).isEmpty) || (!([] : List UInt8).isEmpty)) = false) := Lib.hid (by rfl)
    go_wp2_with fail
    go_region
    all_goals go_wp2_with fail
    all_goals
      obtain ⟨x0, x1⟩ := two_cells (V := (((w4.setCell ⟨Q, 1, none⟩ (.string ⟨#[]⟩)).setCell ⟨w.heap.size, 0, none⟩ (.string ⟨#[]⟩)).setCell ⟨w.heap.size, 1, none⟩ (.string ⟨#[]⟩)).drew) (set2_heap rr (.string ⟨#[]⟩) (.string ⟨#[]⟩))
      refine bodyPost_ret (v := .tuple #[.agg #[.string ⟨#[]⟩, .string ⟨#[]⟩], .bool false]) ?_ rfl ⟨_, _, (by rw [HE.out]), fun _ => ⟨rfl, rfl⟩, (below_res2 BB (Nat.le_refl _) (.string ⟨#[]⟩) (.string ⟨#[]⟩)).trans (below_drewN _ _ 1)⟩
      simp [results, Tryz.results110, go_sem, x0, x1]
  · subst hl0
    have m1 : (hi == []) = false := by simpa using hh0
    have m2 : (hi != []) = true := by simpa using hh0
    have HE : Hid (((!([] : List UInt8).isEmpty) || (!(hi : List UInt8).isEmpty)) = true) := Lib.hid (by rw [ne_empty hh0]; rfl)
    clear hh0
    go_wp2_with fail
    go_region
    all_goals go_wp2_with fail
    all_goals
      obtain ⟨x0, x1⟩ := two_cells (V := (((w4.setCell ⟨Q, 1, none⟩ (.string ⟨hi.toArray⟩)).setCell ⟨w.heap.size, 0, none⟩ (.string ⟨#[]⟩)).setCell ⟨w.heap.size, 1, none⟩ (.string ⟨hi.toArray⟩)).drew) (set2_heap rr (.string ⟨#[]⟩) (.string ⟨hi.toArray⟩))
      refine bodyPost_ret (v := .tuple #[.agg #[.string ⟨#[]⟩, .string ⟨hi.toArray⟩], .bool true]) ?_ rfl ⟨_, _, (by rw [HE.out]), fun _ => ⟨rfl, rfl⟩, (below_res2 BB (Nat.le_refl _) (.string ⟨#[]⟩) (.string ⟨hi.toArray⟩)).trans (below_drewN _ _ 1)⟩
      simp [results, Tryz.results110, go_sem, x0, x1]
  · have n1 : (lo == []) = false := by simpa using hl0
    have n2 : (lo != []) = true := by simpa using hl0
    subst hh0
    have HE : Hid (((!(lo : List UInt8).isEmpty) || (!([] : List UInt8).isEmpty)) = true) := Lib.hid (by rw [ne_empty hl0]; rfl)
    clear hl0
    go_wp2_with fail
    go_region
    all_goals go_wp2_with fail
    all_goals
      obtain ⟨x0, x1⟩ := two_cells (V := (((w4.setCell ⟨Q, 1, none⟩ (.string ⟨#[]⟩)).setCell ⟨w.heap.size, 0, none⟩ (.string ⟨lo.toArray⟩)).setCell ⟨w.heap.size, 1, none⟩ (.string ⟨#[]⟩)).drew) (set2_heap rr (.string ⟨lo.toArray⟩) (.string ⟨#[]⟩))
      refine bodyPost_ret (v := .tuple #[.agg #[.string ⟨lo.toArray⟩, .string ⟨#[]⟩], .bool true]) ?_ rfl ⟨_, _, (by rw [HE.out]), fun _ => ⟨rfl, rfl⟩, (below_res2 BB (Nat.le_refl _) (.string ⟨lo.toArray⟩) (.string ⟨#[]⟩)).trans (below_drewN _ _ 1)⟩
      simp [results, Tryz.results110, go_sem, x0, x1]
  · have n1 : (lo == []) = false := by simpa using hl0
    have n2 : (lo != []) = true := by simpa using hl0
    have m1 : (hi == []) = false := by simpa using hh0
    have m2 : (hi != []) = true := by simpa using hh0
    have HE : Hid (((!(lo : List UInt8).isEmpty) || (!(hi : List UInt8).isEmpty)) = true) := Lib.hid (by rw [ne_empty hl0, ne_empty hh0]; rfl)
    clear hl0 hh0
    go_wp2_with fail
    go_region
    all_goals go_wp2_with fail
    all_goals
      obtain ⟨x0, x1⟩ := two_cells (V := (((w4.setCell ⟨Q, 1, none⟩ (.string ⟨hi.toArray⟩)).setCell ⟨w.heap.size, 0, none⟩ (.string ⟨lo.toArray⟩)).setCell ⟨w.heap.size, 1, none⟩ (.string ⟨hi.toArray⟩)).drew) (set2_heap rr (.string ⟨lo.toArray⟩) (.string ⟨hi.toArray⟩))
      refine bodyPost_ret (v := .tuple #[.agg #[.string ⟨lo.toArray⟩, .string ⟨hi.toArray⟩], .bool true]) ?_ rfl ⟨_, _, (by rw [HE.out]), fun _ => ⟨rfl, rfl⟩, (below_res2 BB (Nat.le_refl _) (.string ⟨lo.toArray⟩) (.string ⟨hi.toArray⟩)).trans (below_drewN _ _ 1)⟩
      simp [results, Tryz.results110, go_sem, x0, x1]


theorem readLimits_any (l : List UInt8) (m : Int) (w : World) (hl : l.length ≤ 1048000) (ht : Tab w) (hm : w.cell? ⟨0, 0, none⟩ = some (.int .i64 m)) :
    Calls Tryz.prog 110 #[.string ⟨l.toArray⟩] w (AltIs w (lmOk l) (lmB l)) := by
  by_cases hi : 0 ≤ Lib.indexByte l 32
  · obtain ⟨e1, e2, e3⟩ := cut_both hi
    refine (limits_both l (cutA 32 l) (cutB 32 l) m w hl (by have := cutA_le 32 l; omega) (by have := cutB_le 32 l; omega) ht hm e1 e2 e3 _ _ rfl rfl).mono fun e w' h => ?_
    obtain ⟨x, y, he, hxy, hb⟩ := h
    obtain ⟨a1, a2⟩ := lmT_ge (cutA 32 l)
    obtain ⟨b1, b2⟩ := lmT_lt (cutB 32 l)
    have hok : lmOk l = ((!(lmT [62, 61] (cutA 32 l)).isEmpty) && (!(lmT [60] (cutB 32 l)).isEmpty)) := by unfold lmOk; rw [if_pos hi, a1, b1]
    refine ⟨x, y, by rw [hok]; exact he, fun hk => ?_, hb⟩
    rw [hok] at hk
    have hh := hxy hk
    simp only [Bool.and_eq_true, Bool.not_eq_true', List.isEmpty_eq_false_iff] at hk
    unfold lmB; rw [if_pos hi]
    rw [a2 hk.1, b2 hk.2] at hh
    exact hh
  · obtain ⟨e1, e2, e3⟩ := cut_alone hi
    refine (limits_alone l l [] m w hl hl (by simp) ht hm e1 e2 e3 _ _ rfl rfl).mono fun e w' h => ?_
    obtain ⟨x, y, he, hxy, hb⟩ := h
    obtain ⟨a1, a2⟩ := lmT_ge l
    obtain ⟨b1, b2⟩ := lmT_lt l
    have hok : lmOk l = ((!(lmT [62, 61] l).isEmpty) || (!(lmT [60] l).isEmpty)) := by unfold lmOk; rw [if_neg hi, a1, b1]
    refine ⟨x, y, by rw [hok]; exact he, fun hk => ?_, hb⟩
    rw [hok] at hk
    have hh := hxy hk
    unfold lmB; rw [if_neg hi, ← a1]
    by_cases hz : lmT [62, 61] l = []
    · rw [hz] at hk hh ⊢
      simp at hk
      rw [b2 hk] at hh
      simpa using hh
    · rw [ge_lt_no hz, a2 hz] at hh
      rw [ne_empty hz]
      simpa using hh
end Go.Proofs.YtongpnknmgbhjaaGreatDoor
