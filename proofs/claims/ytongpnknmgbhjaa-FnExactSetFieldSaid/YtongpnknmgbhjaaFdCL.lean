/-
  spec.l07Copy.
-/
import Derived.Test.YtongpnknmgbhjaaFdC
import Derived.Test.YtongpnknmgbhjaaApp
namespace Go.Proofs.Ytongpnknmgbhjaa
open Go.RowKit

set_option maxRecDepth 100000 in
set_option maxHeartbeats 4000000 in
theorem l07Copy_any (f : Fd) (a : Value) (w : World) (ha : RdS w a f.list) (hs : SmFd f) :
    Calls Try.prog 41 #[fdV f a] w fun e w' => ∃ u, e = .returned (fdV f u) ∧ Strs w' w.heap.size u f.list ∧ Below w.heap.size w w' := by
  have hl : f.list.length ≤ 1048576 := by have := hs.list; omega
  have HR0 := Lib.hid (fun (W : World) (h : Below w.heap.size w W) => ha.below h)
  obtain ⟨A, ca, rfl⟩ := ha.slice
  obtain ⟨ky, tx, ls, il⟩ := f
  unfold fdV
  simp only at HR0 hl ⊢
  clear ha hs
  have B0 : Below w.heap.size w ((w.alloc (.cells #[.string ⟨ky.toArray⟩, .string ⟨tx.toArray⟩, .slice A ls.length ca, .bool il] 35)).alloc (.cells #[.string ⟨#[]⟩, .string ⟨#[]⟩, .slice none 0 0, .bool false] 35)) := ((Below.refl _ _).alloc (Nat.le_refl _) _).alloc (by simp) _
  have b0 := keepA (heap_alloc_new w (.cells #[.string ⟨ky.toArray⟩, .string ⟨tx.toArray⟩, .slice A ls.length ca, .bool il] 35)) (.cells #[.string ⟨#[]⟩, .string ⟨#[]⟩, .slice none 0 0, .bool false] 35)
  have b1 := heap_new (W := w.alloc (.cells #[.string ⟨ky.toArray⟩, .string ⟨tx.toArray⟩, .slice A ls.length ca, .bool il] 35)) (n := w.heap.size + 1) (by simp) (.cells #[.string ⟨#[]⟩, .string ⟨#[]⟩, .slice none 0 0, .bool false] 35)
  have HZ0 : Hid (((w.alloc (.cells #[.string ⟨ky.toArray⟩, .string ⟨tx.toArray⟩, .slice A ls.length ca, .bool il] 35)).alloc (.cells #[.string ⟨#[]⟩, .string ⟨#[]⟩, .slice none 0 0, .bool false] 35)).heap.size = w.heap.size + 1 + 1) := Lib.hid (by simp)
  obtain ⟨W0, hW0⟩ : ∃ W0, W0 = (w.alloc (.cells #[.string ⟨ky.toArray⟩, .string ⟨tx.toArray⟩, .slice A ls.length ca, .bool il] 35)).alloc (.cells #[.string ⟨#[]⟩, .string ⟨#[]⟩, .slice none 0 0, .bool false] 35) := ⟨_, rfl⟩
  rw [← hW0] at B0 b0 b1 HZ0
  have BA : Below w.heap.size w (W0.alloc (.cells #[] 9)) := B0.alloc B0.size _
  have HRA := Lib.hid (HR0.out _ BA)
  have HSA : Hid (Strs (W0.alloc (.cells #[] 9)) (w.heap.size + 1 + 1) (.slice (some ⟨w.heap.size + 1 + 1, 0, none⟩) 0 0) []) := Lib.hid (Strs.emptyAt W0 (w.heap.size + 1 + 1) (w.heap.size + 1 + 1) HZ0.out (Nat.le_refl _))
  have HZ1 : Hid ((W0.alloc (.cells #[] 9)).heap.size = w.heap.size + 1 + 1 + 1) := Lib.hid (by simp [HZ0.out])
  have a0 := keepA b0 (.cells #[] 9)
  have a1 := keepA b1 (.cells #[] 9)
  rw [hW0] at BA HRA HSA HZ1 a0 a1
  clear hW0 B0 b0 b1 HZ0
  go_enter Try.func41, Try.ntmps41
  go_wp2_with (at_builtin; refine wpList_append_texts rfl _ _ rfl (w.heap.size + 1 + 1) _ [] rfl HSA.out _ ls rfl HRA.out (by simp; omega) (by rw [HZ1.out]; omega) ?_; intro u w1 hS hg; obtain ⟨U, uc, rfl⟩ := hS.slice; simp only [List.nil_append] at hS; have a5 := grown_heap (row := w.heap.size + 1 + 1) hg a0 (by omega); have r5 := grown_heap (row := w.heap.size + 1 + 1) hg a1 (by omega); have l5 := lt_of_heap a5; have l6 := lt_of_heap r5; obtain ⟨p0, p1, p2, p3⟩ := cells4 a5; obtain ⟨q0, q1, q2, q3⟩ := cells4 r5; have pf := frozen4 a5; have qf := frozen4 r5)
  have B5 := BA.grown hg (by rw [HZ1.out]; omega) (fun g h => by cases h; show _ ≤ w.heap.size + 1 + 1; omega)
  have hS6 := (hS.otherV w.heap.size 2 (.slice U ls.length uc) (by omega))
  refine bodyPost_ret (v := .agg #[.string ⟨ky.toArray⟩, .string ⟨tx.toArray⟩, .slice U ls.length uc, .bool il]) ?_ rfl ⟨_, rfl, ?_, ?_⟩
  · simp [results, Try.results41, go_sem, q0, q1, q2, q3]
  · exact ((((hS6.otherV _ _ _ (by omega)).otherV _ _ _ (by omega)).otherV _ _ _ (by omega)).otherV _ _ _ (by omega)).weaken (by omega)
  · exact ((((B5.setCell (Nat.le_refl _) _).setCell (Nat.le_succ _) _).setCell (Nat.le_succ _) _).setCell (Nat.le_succ _) _).setCell (Nat.le_succ _) _

end Go.Proofs.Ytongpnknmgbhjaa
