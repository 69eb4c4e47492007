/-
  impl.isLower, impl.isDigit: what kind a byte is.
-/
import Derived.Test.YtongpnknmgbhjaaGreatDoorBase
import Derived.Test.YtongpnknmgbhjaaGreatDoorRows
namespace Go.Proofs.YtongpnknmgbhjaaGreatDoor
open Go.RowKit

def lowI (z : Int) : Bool := decide (97 ≤ z ∧ z ≤ 122)
def digI (z : Int) : Bool := decide (48 ≤ z ∧ z ≤ 57)
set_option maxRecDepth 100000 in
theorem isLower_any (z : Int) (w : World) (h0 : 0 ≤ z) (h1 : z < 256) : Calls Tryz.prog 207 #[.int .u8 z] w fun e w' => e = .returned (.bool (lowI z)) ∧ w = w' := by
  rcases (show (97 ≤ z ∧ z ≤ 122) ∨ z < 97 ∨ 122 < z from by omega) with ⟨a, b⟩ | a | a
  · have H : Hid (lowI z = true) := Lib.hid (by unfold lowI; simp; omega)
    go_enter Tryz.func207, Tryz.ntmps207
    go_wp2
    go_ret
    exact ⟨ret_bool H.out.symm, rfl⟩
  all_goals
    have H : Hid (lowI z = false) := Lib.hid (by unfold lowI; simp; omega)
    go_enter Tryz.func207, Tryz.ntmps207
    go_wp2
    go_ret
    exact ⟨ret_bool (by first | exact H.out.symm | (rw [H.out]; simp; omega)), rfl⟩
set_option maxRecDepth 100000 in
theorem isDigit_any (z : Int) (w : World) (h0 : 0 ≤ z) (h1 : z < 256) : Calls Tryz.prog 208 #[.int .u8 z] w fun e w' => e = .returned (.bool (digI z)) ∧ w = w' := by
  rcases (show (48 ≤ z ∧ z ≤ 57) ∨ z < 48 ∨ 57 < z from by omega) with ⟨a, b⟩ | a | a
  · have H : Hid (digI z = true) := Lib.hid (by unfold digI; simp; omega)
    go_enter Tryz.func208, Tryz.ntmps208
    go_wp2
    go_ret
    exact ⟨ret_bool H.out.symm, rfl⟩
  all_goals
    have H : Hid (digI z = false) := Lib.hid (by unfold digI; simp; omega)
    go_enter Tryz.func208, Tryz.ntmps208
    go_wp2
    go_ret
    exact ⟨ret_bool (by first | exact H.out.symm | (rw [H.out]; simp; omega)), rfl⟩
end Go.Proofs.YtongpnknmgbhjaaGreatDoor
