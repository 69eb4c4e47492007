/-
  The decimal digits of a number, one after another.
-/
import Derived.Test.YtnodhkjgnegkcaaGreatDoorRows
import Derived.Test.YtnodhkjgnegkcaaGreatDoorBase
import Derived.Test.YtnodhkjgnegkcaaGreatDoorStr
import Derived.Lib.ItoaLen
namespace Go.Proofs.YtnodhkjgnegkcaaGreatDoor
open Go.RowKit

/-- The digit d as a byte. -/
def digC (d : Nat) : UInt8 := UInt8.ofNat (48 + d)
/-- What is known when v is left of u and l is written. -/
def DecAt (u v : Nat) (l : List UInt8) : Prop := (v = 0 ∧ l = Lib.decDigits u) ∨ (0 < v ∧ Lib.decDigits u = Lib.decDigits v ++ l)
theorem decAt_start (u : Nat) (h : 0 < u) : DecAt u u [] := .inr ⟨h, by simp⟩
theorem decAt_len {u v : Nat} {l : List UInt8} (h : DecAt u v l) (hu : u < 18446744073709551616) : l.length ≤ 20 := by
  have := Lib.nDigits_le20 u hu
  rw [← Lib.decDigits_length] at this
  rcases h with ⟨_, rfl⟩ | ⟨_, h⟩
  · exact this
  · rw [h] at this; simp at this; omega
theorem decAt_step {u v : Nat} {l : List UInt8} (h : DecAt u v l) (hv : 0 < v) : DecAt u (v / 10) (digC (v % 10) :: l) := by
  rcases h with ⟨h0, _⟩ | ⟨_, h⟩
  · omega
  · by_cases h10 : v < 10
    · left
      refine ⟨by omega, ?_⟩
      rw [h, Lib.decDigits_one h10, Nat.mod_eq_of_lt h10]; rfl
    · right
      refine ⟨by omega, ?_⟩
      rw [h, Lib.decDigits, dif_neg h10, List.append_assoc]; rfl
theorem decAt_end {u : Nat} {l : List UInt8} (h : DecAt u 0 l) : l = Lib.decDigits u := by
  rcases h with ⟨_, h⟩ | ⟨h, _⟩
  · exact h
  · omega

theorem one_digit (d : Nat) (hd : d < 10) (z : Int) (hz : z = (d : Int)) (w : World) : (Instr.slice 9 (.string ⟨#[48, 49, 50, 51, 52, 53, 54, 55, 56, 57]⟩) (some (.int .i64 z)) (some (.int .i64 (z + 1))) none).run Tryz.prog w = .ok (.string ⟨#[digC d]⟩) w := by
  subst hz
  obtain rfl | rfl | rfl | rfl | rfl | rfl | rfl | rfl | rfl | rfl : d = 0 ∨ d = 1 ∨ d = 2 ∨ d = 3 ∨ d = 4 ∨ d = 5 ∨ d = 6 ∨ d = 7 ∨ d = 8 ∨ d = 9 := by omega
  all_goals kernel_rfl
end Go.Proofs.YtnodhkjgnegkcaaGreatDoor
