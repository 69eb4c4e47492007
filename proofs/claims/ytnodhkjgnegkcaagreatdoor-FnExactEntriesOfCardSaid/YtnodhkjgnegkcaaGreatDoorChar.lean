/-
  spec.l01Letter: whether a byte is a small letter or a digit.
-/
import Derived.Test.YtnodhkjgnegkcaaGreatDoorBase
import Derived.Test.YtnodhkjgnegkcaaGreatDoorRows
namespace Go.Proofs.YtnodhkjgnegkcaaGreatDoor
open Go.RowKit

def lettI (z : Int) : Bool := decide ((97 ≤ z ∧ z ≤ 122) ∨ (48 ≤ z ∧ z ≤ 57))
set_option maxRecDepth 100000 in
set_option maxHeartbeats 1000000 in
theorem l01Letter_any (z : Int) (w : World) (h0 : 0 ≤ z) (h1 : z < 256) : Calls Tryz.prog 186 #[.int .u8 z] w fun e w' => e = .returned (.bool (lettI z)) ∧ w = w' := by
  rcases (show (97 ≤ z ∧ z ≤ 122) ∨ (48 ≤ z ∧ z ≤ 57) ∨ z < 48 ∨ (57 < z ∧ z < 97) ∨ 122 < z from by omega) with ⟨a, b⟩ | ⟨a, b⟩ | a | ⟨a, b⟩ | a
  case inl | inr.inl =>
    have H : Hid (lettI z = true) := Lib.hid (by unfold lettI; simp; omega)
    go_enter Tryz.func186, Tryz.ntmps186
    go_wp2
    go_ret
    exact ⟨ret_bool H.out.symm, rfl⟩
  all_goals
    have H : Hid (lettI z = false) := Lib.hid (by unfold lettI; simp; omega)
    go_enter Tryz.func186, Tryz.ntmps186
    go_wp2
    go_ret
    exact ⟨ret_bool (by first | exact H.out.symm | (rw [H.out]; simp; omega)), rfl⟩
end Go.Proofs.YtnodhkjgnegkcaaGreatDoor
