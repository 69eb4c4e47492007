/-
  spec.KindName, impl.KindName: the name of a kind.
-/
import Derived.Test.YtldfkdkppgammaaBase
import Derived.Test.YtldfkdkppgammaaRows
namespace Go.Proofs.Ytldfkdkppgammaa
open Go.RowKit

/-- The name of a kind. -/
def kindL (k : Int) : List UInt8 := if k = 0 then [110, 112, 109] else if k = 1 then [99, 97, 114, 103, 111] else if k = 2 then [103, 111, 108, 97, 110, 103] else if k = 3 then [112, 121, 112, 105] else []
theorem kindL_no {k : Int} (h : k < 0 ∨ 3 < k) : kindL k = [] := by
  unfold kindL; rw [if_neg (by omega), if_neg (by omega), if_neg (by omega), if_neg (by omega)]
theorem kindL_len (k : Int) : (kindL k).length ≤ 6 := by
  unfold kindL
  split
  · simp
  · split
    · simp
    · split
      · simp
      · split <;> simp

set_option maxRecDepth 100000 in
set_option maxHeartbeats 1000000 in
theorem specKindName_any (k : Int) (w : World) :
    Calls Try.prog 11 #[.int .i64 k] w fun e w' => e = .returned (.string ⟨(kindL k).toArray⟩) ∧ Below w.heap.size w w' := by
  rcases (show k < 0 ∨ 3 < k ∨ k = 0 ∨ k = 1 ∨ k = 2 ∨ k = 3 from by omega) with h | h | rfl | rfl | rfl | rfl
  · have H := Lib.hid (kindL_no (k := k) (by omega))
    rw [H.out]
    have d1 : decide (0 ≤ k) = false := by simp; omega
    go_enter Try.func11, Try.ntmps11
    go_wp2
    go_ret
    exact ⟨rfl, Below.refl _ _⟩
  · have H := Lib.hid (kindL_no (k := k) (by omega))
    rw [H.out]
    have d1 : decide (0 ≤ k) = true := by simp; omega
    have d2 : decide (k ≤ 3) = false := by simp; omega
    have h0 : 0 ≤ k := by omega
    go_enter Try.func11, Try.ntmps11
    go_wp2
    go_ret
    exact ⟨rfl, Below.refl _ _⟩
  all_goals
    go_enter Try.func11, Try.ntmps11
    go_wp2
    go_ret
    exact ⟨rfl, (Below.refl _ _).alloc (Nat.le_refl _) _⟩

set_option maxRecDepth 100000 in
set_option maxHeartbeats 1000000 in
theorem implKindName_any (k : Int) (w : World) :
    Calls Try.prog 12 #[.int .i64 k] w fun e w' => e = .returned (.string ⟨(kindL k).toArray⟩) ∧ w = w' := by
  rcases (show (k < 0 ∨ 3 < k) ∨ k = 0 ∨ k = 1 ∨ k = 2 ∨ k = 3 from by omega) with h | rfl | rfl | rfl | rfl
  · have H := Lib.hid (kindL_no h)
    rw [H.out]
    have d0 : (k == 0) = false := int_beq_false (by omega)
    have d1 : (k == 1) = false := int_beq_false (by omega)
    have d2 : (k == 2) = false := int_beq_false (by omega)
    have d3 : (k == 3) = false := int_beq_false (by omega)
    go_enter Try.func12, Try.ntmps12
    go_wp2
    go_ret
    exact ⟨rfl, rfl⟩
  all_goals
    go_enter Try.func12, Try.ntmps12
    go_wp2
    go_ret
    exact ⟨rfl, rfl⟩
end Go.Proofs.Ytldfkdkppgammaa
