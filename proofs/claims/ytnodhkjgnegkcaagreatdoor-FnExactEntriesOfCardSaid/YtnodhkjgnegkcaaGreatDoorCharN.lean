/-
  spec.l01In: whether a number is between two.
-/
import Derived.Test.YtnodhkjgnegkcaaGreatDoorBase
import Derived.Test.YtnodhkjgnegkcaaGreatDoorRows
namespace Go.Proofs.YtnodhkjgnegkcaaGreatDoor
open Go.RowKit

def inI (x a b : Int) : Bool := decide (a ≤ x) && decide (x ≤ b)
set_option maxRecDepth 100000 in
theorem l01In_any (x a b : Int) (w : World) : Calls Tryz.prog 93 #[.int .i64 x, .int .i64 a, .int .i64 b] w fun e w' => e = .returned (.bool (inI x a b)) ∧ w = w' := by
  by_cases h1 : a ≤ x
  · by_cases h2 : x ≤ b
    · have H : Hid (inI x a b = true) := Lib.hid (by unfold inI; simp; omega)
      go_enter Tryz.func93, Tryz.ntmps93
      go_wp2
      go_ret
      exact ⟨ret_bool H.out.symm, rfl⟩
    · have H : Hid (inI x a b = false) := Lib.hid (by unfold inI; simp; omega)
      have d1 : decide (x ≤ b) = false := by simpa using h2
      go_enter Tryz.func93, Tryz.ntmps93
      go_wp2
      go_ret
      exact ⟨ret_bool (by first | exact H.out.symm | (rw [H.out]; simp; omega)), rfl⟩
  · have H : Hid (inI x a b = false) := Lib.hid (by unfold inI; simp; omega)
    have d1 : decide (a ≤ x) = false := by simpa using h1
    go_enter Tryz.func93, Tryz.ntmps93
    go_wp2
    go_ret
    exact ⟨ret_bool (by first | exact H.out.symm | (rw [H.out]; simp; omega)), rfl⟩
end Go.Proofs.YtnodhkjgnegkcaaGreatDoor
