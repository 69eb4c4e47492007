/-
  The laws' own helpers on a field: szField counts it, toField copies it, eqField compares it with itself.
-/
import Derived.Test.YtongpnknmgbhjaaFdM
import Derived.Test.YtongpnknmgbhjaaEqS
namespace Go.Proofs.Ytongpnknmgbhjaa
open Go.RowKit

set_option maxRecDepth 100000 in
set_option maxHeartbeats 2000000 in
theorem szField_any (f : Fd) (a : Value) (left : Int) (w : World) (ha : RdS w a f.list) (h0 : 0 ≤ left) (h1 : left ≤ 1048576) (hf : FdFits f) :
    Calls Try.prog 9 #[fdV f a, .int .i64 left] w fun e w' => e = .returned (.int .i64 (szF left f)) ∧ Below w.heap.size w w' := by
  obtain ⟨f1, f2, f6, f7⟩ := hf
  have HB := Lib.hid (fun (W : World) (h : Below w.heap.size w W) (z : Int) (z0 : 0 ≤ z) (z1 : z ≤ 1048576) => szStringS_any a f.list z W (ha.below h) z0 z1 f6 f7)
  obtain ⟨A, ca, rfl⟩ := ha.slice
  unfold fdV
  obtain ⟨x, hx⟩ : ∃ x : ByteArray, x = ⟨f.key.toArray⟩ := ⟨_, rfl⟩
  obtain ⟨y, hy⟩ : ∃ y : ByteArray, y = ⟨f.text.toArray⟩ := ⟨_, rfl⟩
  have sx : x.size = f.key.length := by rw [hx]; exact size_of _
  have sy : y.size = f.text.length := by rw [hy]; exact size_of _
  have HW : Hid (wF f = x.size + y.size + (f.list.length + smL f.list)) := Lib.hid (by rw [sx, sy]; rfl)
  rw [← hx, ← hy]
  have hx2 : x.size ≤ 9223372036854775807 := by unfold maxLen at f1; omega
  have hy2 : y.size ≤ 9223372036854775807 := by unfold maxLen at f2; omega
  have B0 : Below w.heap.size w (w.alloc (.cells #[.string x, .string y, .slice A f.list.length ca, .bool f.isl] 27)) := (Below.refl _ _).alloc (Nat.le_refl _) _
  clear ha f1 f2 f6 f7 sx sy hx hy
  by_cases q1 : left - (x.size : Int) < 0
  · have HX : Hid (szF left f = -1) := Lib.hid (szF_no (by have := HW.out; omega))
    go_enter Try.func9, Try.ntmps9
    go_wp2_with fail
    go_ret
    exact ⟨ret_int HX.out.symm, B0⟩
  by_cases q2 : left - (x.size : Int) - (y.size : Int) < 0
  · have HX : Hid (szF left f = -1) := Lib.hid (szF_no (by have := HW.out; omega))
    go_enter Try.func9, Try.ntmps9
    go_wp2_with fail
    go_ret
    exact ⟨ret_int HX.out.symm, B0⟩
  obtain ⟨u, HU⟩ : ∃ u, Hid (szI (left - (x.size : Int) - (y.size : Int)) f.list = u) := ⟨_, Lib.hid rfl⟩
  have HX : Hid (szF left f = u) := Lib.hid (by
    have h1 := HW.out; have h3 := HU.out
    unfold szI at h3
    split at h3
    · rw [szF_yes (by omega)]; omega
    · rw [szF_no (by omega)]; omega)
  have hu : u = -1 ∨ 0 ≤ u := by have := HU.out; unfold szI at this; split at this <;> omega
  rcases hu with rfl | hu
  all_goals
    go_enter Try.func9, Try.ntmps9
    go_wp2_with fail
    refine (HB.out _ B0 _ (by omega) (by omega)).mono ?_
    rw [HU.out]
    rintro e w1 ⟨rfl, rfl⟩
    go_wp2_with fail
    go_ret
    exact ⟨ret_int HX.out.symm, B0⟩

set_option maxRecDepth 100000 in
set_option maxHeartbeats 2000000 in
theorem toField_any (f : Fd) (a : Value) (w : World) (ha : RdS w a f.list) (hs : SmFd f) :
    Calls Try.prog 12 #[fdV f a] w fun e w' => ∃ g c, e = .returned (fdV f (.slice (some ⟨g, 0, none⟩) f.list.length c)) ∧ Strs w' w.heap.size (.slice (some ⟨g, 0, none⟩) f.list.length c) f.list ∧ Below w.heap.size w w' := by
  have HA := Lib.hid (fun (W : World) (h : Below w.heap.size w W) => toStringS_any a f.list W (ha.below h) (by have := hs.list; omega))
  obtain ⟨A, ca, rfl⟩ := ha.slice
  unfold fdV
  clear ha
  go_enter Try.func12, Try.ntmps12
  go_wp2_with fail
  refine (HA.out _ ?_).mono ?_
  · exact (((Below.refl _ _).alloc (Nat.le_refl _) _).alloc (by simp) _).alloc (by simp; omega) _
  rintro e w1 ⟨g1, c1, rfl, hS1, hb1⟩
  have b0 := keepB (keepA (keepA (heap_alloc_new w _) _) _) hb1
  have b1 := keepB (keepA (heap_new (n := w.heap.size + 1) (by simp) _) _) hb1
  have b2 := keepB (heap_new (n := w.heap.size + 1 + 1) (by simp) _) hb1
  have B1 : Below w.heap.size w w1 := ((((Below.refl _ w).alloc (Nat.le_refl _) _).alloc (by simp) _).alloc (by simp; omega) _).trans (hb1.mono (by simp; omega))
  have hz1 : w.heap.size + 3 ≤ w1.heap.size := by have := hb1.size; simp at this; omega
  have hg1 : w.heap.size + 3 ≤ g1 := by have := hS1.lo; simp at this; omega
  have hS1' := hS1.weaken (base' := w.heap.size) (by simp; omega)
  clear hb1 hS1
  have e0 := cells4 b0
  have e1 := cells4 b1
  have e2 := cells4 b2
  have f1 := frozen4 b1
  have f2 := frozen4 b2
  go_wp2_with fail
  refine bodyPost_ret (v := .agg #[.string ⟨f.key.toArray⟩, .string ⟨f.text.toArray⟩, .slice (some ⟨g1, 0, none⟩) f.list.length c1, .bool f.isl]) ?_ rfl ⟨g1, c1, rfl, ?_, ?_⟩
  · simp [results, Try.results12, go_sem, e1]
  · exact (((((hS1'.other _ _ _ (by omega)).other _ _ _ (by omega)).other _ _ _ (by omega)).other _ _ _ (by omega)).other _ _ _ (by omega)).other _ _ _ (by omega)
  · exact (((((B1.setCell (by simp; omega) _).setCell (by simp; omega) _).setCell (by simp) _).setCell (by simp) _).setCell (by simp) _).setCell (by simp) _

set_option maxRecDepth 100000 in
set_option maxHeartbeats 2000000 in
theorem eqField_same (f : Fd) (a a' : Value) (w : World) (ha : RdS w a f.list) (ha' : RdS w a' f.list) (hs : SmFd f) :
    Calls Try.prog 15 #[fdV f a, fdV f a'] w fun e w' => e = .returned (.bool true) ∧ Below w.heap.size w w' := by
  have HA := Lib.hid (fun (W : World) (h : Below w.heap.size w W) => eqStringS_same a a' f.list W (ha.below h) (ha'.below h) (by have := hs.list; omega))
  obtain ⟨A, ca, rfl⟩ := ha.slice
  obtain ⟨A', ca', rfl⟩ := ha'.slice
  unfold fdV
  clear ha ha'
  obtain ⟨dv, hdv⟩ : ∃ dv, dv = f.isl := ⟨_, rfl⟩
  rw [← hdv]
  have q0 : (dv != dv) = false := by cases dv <;> rfl
  clear hdv
  have B0 : Below w.heap.size w ((w.alloc (.cells #[.string ⟨f.key.toArray⟩, .string ⟨f.text.toArray⟩, .slice A f.list.length ca, .bool dv] 35)).alloc (.cells #[.string ⟨f.key.toArray⟩, .string ⟨f.text.toArray⟩, .slice A' f.list.length ca', .bool dv] 35)) := ((Below.refl _ _).alloc (Nat.le_refl _) _).alloc (by simp) _
  have b0 := keepA (heap_alloc_new w (.cells #[.string ⟨f.key.toArray⟩, .string ⟨f.text.toArray⟩, .slice A f.list.length ca, .bool dv] 35)) (.cells #[.string ⟨f.key.toArray⟩, .string ⟨f.text.toArray⟩, .slice A' f.list.length ca', .bool dv] 35)
  have b1 := heap_new (W := w.alloc (.cells #[.string ⟨f.key.toArray⟩, .string ⟨f.text.toArray⟩, .slice A f.list.length ca, .bool dv] 35)) (n := w.heap.size + 1) (by simp) (.cells #[.string ⟨f.key.toArray⟩, .string ⟨f.text.toArray⟩, .slice A' f.list.length ca', .bool dv] 35)
  go_enter Try.func15, Try.ntmps15
  go_wp2_with fail
  refine (HA.out _ B0).mono ?_
  rintro e w1 ⟨rfl, n, rfl⟩
  have c0 := cells4 (keepB b0 (below_drewN _ _ n))
  have c1 := cells4 (keepB b1 (below_drewN _ _ n))
  go_wp2_with fail
  go_ret
  exact ⟨rfl, B0.trans (below_drewN _ _ n)⟩
end Go.Proofs.Ytongpnknmgbhjaa
