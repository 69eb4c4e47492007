/-
  spec.l01Great: whether a byte is a great letter; spec.l01In: whether a number lies between two.
-/
import Derived.Test.YtcfkhfbhmjfhdaaGreatDoorChar
namespace Go.Proofs.YtcfkhfbhmjfhdaaGreatDoor
open Go.RowKit

def greatI (z : Int) : Bool := decide (65 ≤ z ∧ z ≤ 90)
set_option maxRecDepth 100000 in
set_option maxHeartbeats 1000000 in
theorem l01Great_any (z : Int) (w : World) (h0 : 0 ≤ z) (h1 : z < 256) : Calls Tryz.prog 132 #[.int .u8 z] w fun e w' => e = .returned (.bool (greatI z)) ∧ w = w' := by
  rcases (show (65 ≤ z ∧ z ≤ 90) ∨ z < 65 ∨ 90 < z from by omega) with ⟨a, b⟩ | a | a
  case inl =>
    have H : Hid (greatI z = true) := Lib.hid (by unfold greatI; simp; omega)
    go_enter Tryz.func132, Tryz.ntmps132
    go_wp2
    go_ret
    exact ⟨ret_bool H.out.symm, rfl⟩
  all_goals
    have H : Hid (greatI z = false) := Lib.hid (by unfold greatI; simp; omega)
    go_enter Tryz.func132, Tryz.ntmps132
    go_wp2
    go_ret
    exact ⟨ret_bool (by first | exact H.out.symm | (rw [H.out]; simp; omega)), rfl⟩
def inI (x a b : Int) : Bool := decide (a ≤ x) && decide (x ≤ b)
set_option maxRecDepth 100000 in
theorem l01In_any (x a b : Int) (w : World) : Calls Tryz.prog 62 #[.int .i64 x, .int .i64 a, .int .i64 b] w fun e w' => e = .returned (.bool (inI x a b)) ∧ w = w' := by
  by_cases h1 : a ≤ x
  · by_cases h2 : x ≤ b
    · have H : Hid (inI x a b = true) := Lib.hid (by unfold inI; simp; omega)
      go_enter Tryz.func62, Tryz.ntmps62
      go_wp2
      go_ret
      exact ⟨ret_bool H.out.symm, rfl⟩
    · have H : Hid (inI x a b = false) := Lib.hid (by unfold inI; simp; omega)
      have d1 : decide (x ≤ b) = false := by simpa using h2
      go_enter Tryz.func62, Tryz.ntmps62
      go_wp2
      go_ret
      exact ⟨ret_bool (by first | exact H.out.symm | (rw [H.out]; simp; omega)), rfl⟩
  · have H : Hid (inI x a b = false) := Lib.hid (by unfold inI; simp; omega)
    have d1 : decide (a ≤ x) = false := by simpa using h1
    go_enter Tryz.func62, Tryz.ntmps62
    go_wp2
    go_ret
    exact ⟨ret_bool (by first | exact H.out.symm | (rw [H.out]; simp; omega)), rfl⟩
end Go.Proofs.YtcfkhfbhmjfhdaaGreatDoor
