/-
  impl.FromSpdxId returns the key whose identifier a text is, or the empty text.
-/
import Derived.Test.YtldfkdkppgammaaCur
import Derived.Test.YtldfkdkppgammaaGetHex
import Derived.Test.YtldfkdkppgammaaSpdI
namespace Go.Proofs.Ytldfkdkppgammaa
open Go.RowKit

/-- How much a cursor has still to read. -/
def restAt (w : World) (q : Nat) : Nat := match w.cell? ⟨q, 0, none⟩ with
  | some (.string b) => b.size
  | _ => 0
theorem restAt_of {w : World} {q : Nat} {T : TypeId} {l : List UInt8} (h : w.heap[q]? = some (.cells #[.string ⟨l.toArray⟩] T)) : restAt w q = l.length := by
  unfold restAt; rw [cells1 h]; show l.toArray.size = _; simp
theorem restAt_drew (w : World) (q n : Nat) : restAt (w.drewN n) q = restAt w q := rfl

/-- impl.GetHex, whatever it says of the text. -/
theorem getHex_text (l : List UInt8) (w : World) (hl : l.length ≤ 1048576) :
    Calls Try.prog 87 #[.string ⟨l.toArray⟩] w fun e w' => e = .returned (.tuple #[.string ⟨((pairsL lowerL l).getD []).toArray⟩, .bool (pairsL lowerL l).isSome]) ∧ Below w.heap.size w w' := by
  refine (implGetHex_any ⟨l.toArray⟩ w (by show l.toArray.size ≤ _; simp; omega)).mono ?_
  rintro e w' ⟨rfl, hb⟩
  refine ⟨?_, hb⟩
  show Ending.returned (optText (pairsL lowerL l)) = _
  cases pairsL lowerL l <;> rfl

/-- What a reader of identifiers knows with rest before it and out behind it. -/
def KeyAt (R rest out : List UInt8) : Prop := idK R.length R = out ++ idK rest.length rest ∧ out.length + rest.length ≤ R.length
theorem keyAt_start (R : List UInt8) : KeyAt R R [] := ⟨by simp, by simp⟩
theorem keyAt_end {R out : List UInt8} (h : KeyAt R [] out) : idK R.length R = out := by rw [h.1, idK_nil]; simp
theorem keyAt_step {R rest out : List UInt8} (h : KeyAt R rest out) (hn : rest ≠ []) : KeyAt R (cutB 45 (cutB 45 rest)) (out ++ cutA 45 rest ++ (pairsL lowerL (cutA 45 (cutB 45 rest))).getD []) := by
  have a := cut_len 45 rest
  have b := cut_len 45 (cutB 45 rest)
  have c := pairs_le lowerL _ (cutA 45 (cutB 45 rest)) (Nat.le_refl _)
  have d := cutB_lt 45 hn
  refine ⟨?_, by have := h.2; simp; omega⟩
  rw [h.1, idK_step hn (Nat.le_refl _), idK_more (rest.length - 1) (cutB 45 (cutB 45 rest)).length _ (by omega) (Nat.le_refl _)]
  simp

set_option maxRecDepth 100000 in
set_option maxHeartbeats 2000000 in
theorem key_any (q : Nat) (T : TypeId) (l : List UInt8) (m : Int) (w : World) (hl : l.length ≤ 1048576) (hq : w.heap[q]? = some (.cells #[.string ⟨l.toArray⟩] T)) (hm : w.cell? ⟨0, 0, none⟩ = some (.int .i64 m)) :
    Calls Try.prog 47 #[.pointer (some ⟨q, 0, none⟩)] w fun e w' => e = .returned (.string ⟨(idK (Lib.cut l idP).2.1.length (Lib.cut l idP).2.1).toArray⟩) ∧ w.grownBy w' (some q) := by
  have hqs := lt_of_heap hq
  have hG := cell_in hm
  have B0 : Below w.heap.size w (w.alloc (.cells #[] 5)) := (Below.refl _ _).alloc (Nat.le_refl _) _
  have hq0 := keepA hq (.cells #[] 5)
  have hm0 := keepC B0 hm
  have HU := Lib.hid (upTo_any q T l idP m _ hl hq0 hm0)
  have hRl := cut_le l idP
  obtain ⟨R, HR⟩ : ∃ R, Hid ((Lib.cut l idP).2.1 = R) := ⟨_, Lib.hid rfl⟩
  rw [HR.out] at hRl HU
  rw [HR.out]
  go_enter Try.func47, Try.ntmps47
  go_wp2_with fail
  refine HU.out.mono ?_
  rintro e w1 ⟨rfl, hu1⟩
  have hm1 := hu1.max hq0 hm0
  have hB1 : Buf w1 w.heap.size (.slice (some ⟨w.heap.size, 0, none⟩) 0 0) [] := (Buf.empty w w.heap.size (Nat.le_refl _)).far hu1.2.1 hqs
  have hg1 : w.grownBy w1 (some q) := gr_trans (gr_alloc w _ _) hu1.2.1
  have hq1 := hu1.1
  clear hu1 HU hq0 hm0 B0 hq hm
  go_wp2_with fail
  go_loopw [3, 4, 5] (fun v _ _ wr => ∃ out rest : List UInt8, Buf wr w.heap.size v out ∧ wr.heap[q]? = some (.cells #[.string ⟨rest.toArray⟩] T) ∧ w.grownBy wr (some q) ∧ wr.cell? ⟨0, 0, none⟩ = some (.int .i64 m) ∧ KeyAt R rest out) (fun _ _ _ wr => restAt wr q)
  case atStart => exact ⟨[], R, hB1, hq1, hg1, hm1, keyAt_start R⟩
  case round =>
    obtain ⟨out, rest, hB, hq, hg, hm, HK⟩ := hrel
    clear hB1 hq1 hg1 hm1
    have hrl : rest.length ≤ 1048576 := by have := HK.2; omega
    have hol : out.length + rest.length ≤ 1048576 := by have := HK.2; omega
    by_cases hn : rest = []
    · subst hn
      have HE := Lib.hid (keyAt_end HK)
      have hcv := hB.conv
      have HD := Lib.hid (done_any q T [] wr hq)
      clear HK
      go_wp2_with fail
      refine HD.out.mono ?_
      rintro e w2 ⟨rfl, rfl⟩
      go_wp2_with fail
      go_ret
      exact ⟨ret_str HE.out.symm, hg⟩
    · have HE := Lib.hid (keyAt_step HK hn)
      have HD := Lib.hid (done_any q T rest wr hq)
      have hne : rest.isEmpty = false := by cases rest <;> simp_all
      have hlt := cutB_lt 45 hn
      have hle := cutB_le 45 (cutB 45 rest)
      have a1 := cut_len 45 rest
      have a2 := cut_len 45 (cutB 45 rest)
      have a3 := pairs_le lowerL _ (cutA 45 (cutB 45 rest)) (Nat.le_refl _)
      have HU1 := Lib.hid (upTo_any q T rest [45] m wr hrl hq hm)
      rw [(cut_one 45 rest).1, (cut_one 45 rest).2] at HU1
      have HX := Lib.hid (restAt_of hq)
      have hws : w.heap.size ≤ wr.heap.size := hg.size
      clear HK hn
      go_wp2_with fail
      refine HD.out.mono ?_
      rintro e w2 ⟨rfl, rfl⟩
      go_wp2_with fail
      refine HU1.out.mono ?_
      rintro e w3 ⟨rfl, hu3⟩
      have hm3 := hu3.max hq hm
      have hB3 := hB.far hu3.2.1 hqs
      have hg3 := gr_trans hg hu3.2.1
      have hq3 := hu3.1
      have hs3 : w.heap.size ≤ w3.heap.size := hg3.size
      clear hu3 hB hg hm hq HU1 HD
      go_wp2_with (at_builtin; refine wpList_append_buf_str rfl _ _ rfl w.heap.size _ _ rfl hB3 (cutA 45 rest) rfl (by omega) hs3 ?_; intro v4 w4 hB4 hb4)
      have hq4 : w4.heap[q]? = some (.cells #[.string ⟨(cutB 45 rest).toArray⟩] T) := (hb4.block q hqs).trans hq3
      have hg4 : w.grownBy w4 (some q) := ⟨hb4.os.trans hg3.os, hb4.tape.trans hg3.tape, hb4.output.trans hg3.output, Nat.le_trans hg3.size hb4.size, fun k hk hn => (hb4.block k hk).trans (hg3.block k hk hn)⟩
      have hm4 := (hb4.cell (p := ⟨0, 0, none⟩) hG).trans hm3
      have HU2 := Lib.hid (upTo_any q T (cutB 45 rest) [45] m w4 (by omega) hq4 hm4)
      rw [(cut_one 45 (cutB 45 rest)).1, (cut_one 45 (cutB 45 rest)).2] at HU2
      clear hq3 hg3 hm3 hB3 hb4 hs3
      go_wp2_with fail
      refine HU2.out.mono ?_
      rintro e w5 ⟨rfl, hu5⟩
      have hm5 := hu5.max hq4 hm4
      have hB5 := hB4.far hu5.2.1 hqs
      have hg5 := gr_trans hg4 hu5.2.1
      have hq5 := hu5.1
      have HG := Lib.hid (getHex_text (cutA 45 (cutB 45 rest)) w5 (by omega))
      clear hu5 hB4 hg4 hm4 hq4 HU2
      go_wp2_with fail
      refine HG.out.mono ?_
      rintro e w6 ⟨rfl, hb6⟩
      have hB6 := hB5.below hb6
      have hq6 := keepB hq5 hb6
      have hm6 := keepC hb6 hm5
      have hg6 := gr_trans hg5 (gr_below hb6)
      have hs6 : w.heap.size ≤ w6.heap.size := hg6.size
      clear hB5 hq5 hm5 hg5 hb6 HG
      go_wp2_with (at_builtin; refine wpList_append_buf_str rfl _ _ rfl w.heap.size _ _ rfl hB6 ((pairsL lowerL (cutA 45 (cutB 45 rest))).getD []) rfl (by simp; omega) hs6 ?_; intro v7 w7 hB7 hb7)
      have hq7 := (hb7.block q hqs).trans hq6
      have hg7 : w.grownBy w7 (some q) := ⟨hb7.os.trans hg6.os, hb7.tape.trans hg6.tape, hb7.output.trans hg6.output, Nat.le_trans hg6.size hb7.size, fun k hk hn => (hb7.block k hk).trans (hg6.block k hk hn)⟩
      have hm7 := (hb7.cell (p := ⟨0, 0, none⟩) hG).trans hm6
      have HY := Lib.hid (restAt_of hq7)
      clear hq6 hg6 hm6 hB6 hb7 hs6
      go_wp2_with fail
      go_roundw
      case rel => exact ⟨_, _, hB7, hq7, hg7, hm7, HE.out⟩
      case measure => rw [HX.out, HY.out]; omega

set_option maxRecDepth 100000 in
set_option maxHeartbeats 2000000 in
theorem implFromSpdxId_any (l : List UInt8) (m : Int) (w : World) (hl : l.length ≤ 1048576) (hm : w.cell? ⟨0, 0, none⟩ = some (.int .i64 m)) :
    Calls Try.prog 16 #[.string ⟨l.toArray⟩] w fun e w' => e = .returned (.string ⟨(fromS l).toArray⟩) ∧ Below w.heap.size w w' := by
  have HF := Lib.hid (from_same l (Lib.cut l idP).2.1 (fun k hk => by rw [← hk]; exact cut_id k))
  have hRl := cut_le l idP
  have B0 : Below w.heap.size w (w.alloc (.cells #[.string ⟨l.toArray⟩] 65)) := (Below.refl _ _).alloc (Nat.le_refl _) _
  have HK := Lib.hid (key_any w.heap.size 65 l m _ hl (heap_alloc_new w (.cells #[.string ⟨l.toArray⟩] 65)) (keepC B0 hm))
  obtain ⟨R, HR⟩ : ∃ R, Hid ((Lib.cut l idP).2.1 = R) := ⟨_, Lib.hid rfl⟩
  rw [HR.out] at hRl HK HF
  have hkl := idK_len R.length R
  obtain ⟨k, HQ⟩ : ∃ k, Hid (idK R.length R = k) := ⟨_, Lib.hid rfl⟩
  rw [HQ.out] at HK hkl
  have HC := Lib.hid (fun W => implSpdxId_any ⟨k.toArray⟩ W (by show k.toArray.size ≤ _; simp; omega))
  obtain ⟨r, HX⟩ : ∃ r, Hid (fromS l = r) := ⟨_, Lib.hid rfl⟩
  rw [HX.out]
  clear hm
  by_cases hp : idT k = l
  · have HN : Hid (r = k) := Lib.hid (by rw [← HX.out, ← HF.out]; unfold fromI; rw [HQ.out, if_pos hp])
    have e2 : (idT k == l) = true := by simpa using hp
    clear hp
    go_enter Try.func16, Try.ntmps16
    go_wp2_with fail
    refine HK.out.mono ?_
    rintro e w1 ⟨rfl, hg1⟩
    have B1 := B0.grown hg1 (by simp) (fun j h => by cases h; exact Nat.le_refl _)
    go_wp2_with fail
    refine (HC.out _).mono ?_
    rintro e w2 ⟨rfl, hb2⟩
    go_wp2_with fail
    go_ret
    exact ⟨ret_str HN.out.symm, B1.trans (hb2.mono B1.size)⟩
  · have HN : Hid (r = []) := Lib.hid (by rw [← HX.out, ← HF.out]; unfold fromI; rw [HQ.out, if_neg hp])
    have e2 : (idT k == l) = false := by simpa using hp
    clear hp
    go_enter Try.func16, Try.ntmps16
    go_wp2_with fail
    refine HK.out.mono ?_
    rintro e w1 ⟨rfl, hg1⟩
    have B1 := B0.grown hg1 (by simp) (fun j h => by cases h; exact Nat.le_refl _)
    go_wp2_with fail
    refine (HC.out _).mono ?_
    rintro e w2 ⟨rfl, hb2⟩
    go_wp2_with fail
    go_ret
    exact ⟨ret_str HN.out.symm, B1.trans (hb2.mono B1.size)⟩
end Go.Proofs.Ytldfkdkppgammaa
