/-
  The laws' own helpers on tables: szTable, toTable, eqTable.
-/
import Derived.Test.YtongpnknmgbhjaaFdS
namespace Go.Proofs.Ytongpnknmgbhjaa
open Go.RowKit

set_option maxRecDepth 100000 in
set_option maxHeartbeats 2000000 in
theorem szTable_any (t : Tb) (a : Value) (left : Int) (w : World) (ha : RdFs w a t.fields) (h0 : 0 ≤ left) (h1 : left ≤ 1048576) (hf : TbFits t) :
    Calls Try.prog 8 #[tbV t a, .int .i64 left] w fun e w' => e = .returned (.int .i64 (szTb left t)) ∧ Below w.heap.size w w' := by
  obtain ⟨f1, f2, f3⟩ := hf
  have HB := Lib.hid (fun (W : World) (h : Below w.heap.size w W) (z : Int) (z0 : 0 ≤ z) (z1 : z ≤ 1048576) => szFieldS_any a t.fields z W (ha.below h) z0 z1 f2 f3)
  obtain ⟨A, ca, rfl⟩ := ha.slice
  unfold tbV
  obtain ⟨x, hx⟩ : ∃ x : ByteArray, x = ⟨t.name.toArray⟩ := ⟨_, rfl⟩
  have sx : x.size = t.name.length := by rw [hx]; exact size_of _
  have HW : Hid (wTb t = x.size + (t.fields.length + smF t.fields)) := Lib.hid (by rw [sx]; rfl)
  rw [← hx]
  have hx2 : x.size ≤ 9223372036854775807 := by unfold maxLen at f1; omega
  have B0 : Below w.heap.size w (w.alloc (.cells #[.string x, .slice A t.fields.length ca] 24)) := (Below.refl _ _).alloc (Nat.le_refl _) _
  clear ha f1 f2 f3 sx hx
  by_cases q1 : left - (x.size : Int) < 0
  · have HX : Hid (szTb left t = -1) := Lib.hid (szTb_no (by have := HW.out; omega))
    go_enter Try.func8, Try.ntmps8
    go_wp2_with fail
    go_ret
    exact ⟨ret_int HX.out.symm, B0⟩
  obtain ⟨u, HU⟩ : ∃ u, Hid (szFs (left - (x.size : Int)) t.fields = u) := ⟨_, Lib.hid rfl⟩
  have HX : Hid (szTb left t = u) := Lib.hid (by
    have h1 := HW.out; have h3 := HU.out
    unfold szFs at h3
    split at h3
    · rw [szTb_yes (by omega)]; omega
    · rw [szTb_no (by omega)]; omega)
  have hu : u = -1 ∨ 0 ≤ u := by have := HU.out; unfold szFs at this; split at this <;> omega
  rcases hu with rfl | hu
  all_goals
    go_enter Try.func8, Try.ntmps8
    go_wp2_with fail
    refine (HB.out _ B0 _ (by omega) (by omega)).mono ?_
    rw [HU.out]
    rintro e w1 ⟨rfl, hb1⟩
    have B1 := B0.trans (hb1.mono B0.size)
    go_wp2_with fail
    go_ret
    exact ⟨ret_int HX.out.symm, B1⟩

set_option maxRecDepth 100000 in
set_option maxHeartbeats 2000000 in
theorem toTable_any (t : Tb) (a : Value) (w : World) (ha : RdFs w a t.fields) (hs : SmTb t) :
    Calls Try.prog 11 #[tbV t a] w fun e w' => ∃ u, e = .returned (tbV t u) ∧ FdsOwn w' w.heap.size u t.fields ∧ Below w.heap.size w w' := by
  have HA := Lib.hid (fun (W : World) (h : Below w.heap.size w W) => toFieldS_any a t.fields W (ha.below h) hs.fields)
  obtain ⟨A, ca, rfl⟩ := ha.slice
  unfold tbV
  clear ha
  go_enter Try.func11, Try.ntmps11
  go_wp2_with fail
  refine (HA.out _ ?_).mono ?_
  · exact (((Below.refl _ _).alloc (Nat.le_refl _) _).alloc (by simp) _).alloc (by simp; omega) _
  rintro e w1 ⟨u, rfl, hP, hb1⟩
  have b1 := keepB (keepA (heap_new (n := w.heap.size + 1) (by simp) _) _) hb1
  have b2 := keepB (heap_new (n := w.heap.size + 1 + 1) (by simp) _) hb1
  have B1 : Below w.heap.size w w1 := ((((Below.refl _ w).alloc (Nat.le_refl _) _).alloc (by simp) _).alloc (by simp; omega) _).trans (hb1.mono (by simp; omega))
  have hz1 : w.heap.size + 3 ≤ w1.heap.size := by have := hb1.size; simp at this; omega
  have hP1 := hP.weaken (base' := w.heap.size + 1 + 1 + 1) (by simp)
  obtain ⟨G, c, rfl, hG, hl⟩ := hP1.slice
  clear hb1 hP
  have e1 := cellsG b1
  have e2 := cellsG b2
  have f1 := frozenG b1
  have f2 := frozenG b2
  go_wp2_with fail
  refine bodyPost_ret (v := .agg #[.string ⟨t.name.toArray⟩, .slice (some ⟨G, 0, none⟩) t.fields.length c]) ?_ rfl ⟨_, rfl, ?_, ?_⟩
  · simp [results, Try.results11, go_sem, e1]
  · exact (((hP1.other _ _ _ (by omega)).other _ _ _ (by omega)).other _ _ _ (by omega)).weaken (by omega)
  · exact ((B1.setCell (by simp; omega) _).setCell (by simp) _).setCell (by simp) _

set_option maxRecDepth 100000 in
set_option maxHeartbeats 2000000 in
theorem eqTable_same (t : Tb) (a a' : Value) (w : World) (ha : RdFs w a t.fields) (ha' : RdFs w a' t.fields) (hs : SmTb t) :
    Calls Try.prog 14 #[tbV t a, tbV t a'] w fun e w' => e = .returned (.bool true) ∧ Below w.heap.size w w' := by
  have HA := Lib.hid (fun (W : World) (h : Below w.heap.size w W) => eqFieldS_same a a' t.fields W (ha.below h) (ha'.below h) hs.fields)
  obtain ⟨A, ca, rfl⟩ := ha.slice
  obtain ⟨A', ca', rfl⟩ := ha'.slice
  unfold tbV
  clear ha ha'
  have B0 : Below w.heap.size w ((w.alloc (.cells #[.string ⟨t.name.toArray⟩, .slice A t.fields.length ca] 32)).alloc (.cells #[.string ⟨t.name.toArray⟩, .slice A' t.fields.length ca'] 32)) := ((Below.refl _ _).alloc (Nat.le_refl _) _).alloc (by simp) _
  go_enter Try.func14, Try.ntmps14
  go_wp2_with fail
  refine (HA.out _ B0).mono ?_
  rintro e w1 ⟨rfl, hb1⟩
  have B1 := B0.trans (hb1.mono B0.size)
  go_wp2_with fail
  go_ret
  exact ⟨rfl, B1⟩
end Go.Proofs.Ytongpnknmgbhjaa
