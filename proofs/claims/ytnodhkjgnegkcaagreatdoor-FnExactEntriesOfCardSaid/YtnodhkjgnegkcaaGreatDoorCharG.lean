/-
  spec.l01Great: whether a byte is a great letter; spec.l01In: whether a number lies between two.
-/
import Derived.Test.YtnodhkjgnegkcaaGreatDoorChar
import Derived.Test.YtnodhkjgnegkcaaGreatDoorCharN
namespace Go.Proofs.YtnodhkjgnegkcaaGreatDoor
open Go.RowKit

def greatI (z : Int) : Bool := decide (65 ≤ z ∧ z ≤ 90)
set_option maxRecDepth 100000 in
set_option maxHeartbeats 1000000 in
theorem l01Great_any (z : Int) (w : World) (h0 : 0 ≤ z) (h1 : z < 256) : Calls Tryz.prog 261 #[.int .u8 z] w fun e w' => e = .returned (.bool (greatI z)) ∧ w = w' := by
  rcases (show (65 ≤ z ∧ z ≤ 90) ∨ z < 65 ∨ 90 < z from by omega) with ⟨a, b⟩ | a | a
  case inl =>
    have H : Hid (greatI z = true) := Lib.hid (by unfold greatI; simp; omega)
    go_enter Tryz.func261, Tryz.ntmps261
    go_wp2
    go_ret
    exact ⟨ret_bool H.out.symm, rfl⟩
  all_goals
    have H : Hid (greatI z = false) := Lib.hid (by unfold greatI; simp; omega)
    go_enter Tryz.func261, Tryz.ntmps261
    go_wp2
    go_ret
    exact ⟨ret_bool (by first | exact H.out.symm | (rw [H.out]; simp; omega)), rfl⟩
end Go.Proofs.YtnodhkjgnegkcaaGreatDoor
