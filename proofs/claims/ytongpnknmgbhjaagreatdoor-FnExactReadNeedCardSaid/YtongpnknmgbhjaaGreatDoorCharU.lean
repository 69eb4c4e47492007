/-
  impl.isUpper: whether a byte is a great letter.
-/
import Derived.Test.YtongpnknmgbhjaaGreatDoorCharI
namespace Go.Proofs.YtongpnknmgbhjaaGreatDoor
open Go.RowKit

def uppI (z : Int) : Bool := decide (65 ≤ z ∧ z ≤ 90)
set_option maxRecDepth 100000 in
theorem isUpper_any (z : Int) (w : World) (h0 : 0 ≤ z) (h1 : z < 256) : Calls Tryz.prog 301 #[.int .u8 z] w fun e w' => e = .returned (.bool (uppI z)) ∧ w = w' := by
  rcases (show (65 ≤ z ∧ z ≤ 90) ∨ z < 65 ∨ 90 < z from by omega) with ⟨a, b⟩ | a | a
  · have H : Hid (uppI z = true) := Lib.hid (by unfold uppI; simp; omega)
    go_enter Tryz.func301, Tryz.ntmps301
    go_wp2
    go_ret
    exact ⟨ret_bool H.out.symm, rfl⟩
  all_goals
    have H : Hid (uppI z = false) := Lib.hid (by unfold uppI; simp; omega)
    go_enter Tryz.func301, Tryz.ntmps301
    go_wp2
    go_ret
    exact ⟨ret_bool (by first | exact H.out.symm | (rw [H.out]; simp; omega)), rfl⟩
end Go.Proofs.YtongpnknmgbhjaaGreatDoor
