/-
  Versions in plain words: a right identifier, a right version, its text, the order of versions. Of no program.
-/
import Derived.Test.YtnodhkjgnegkcaaGreatDoorReadDec
import Derived.Test.YtnodhkjgnegkcaaGreatDoorSmD
namespace Go.Proofs.YtnodhkjgnegkcaaGreatDoor
open Go.RowKit

/-- A byte that may stand in an identifier. -/
def preI (z : Int) : Bool := decide ((97 ≤ z ∧ z ≤ 122) ∨ (48 ≤ z ∧ z ≤ 57) ∨ (65 ≤ z ∧ z ≤ 90) ∨ z = 45)
def preB (c : UInt8) : Bool := preI (c.toNat : Int)
/-- A right identifier. -/
def preOk (l : List UInt8) : Bool := l.all preB && (decide (1 ≤ l.length) && decide (l.length ≤ 20)) && (!(l.all isDig) || decide (0 ≤ readL l))
def numOk (n : Int) : Bool := decide (0 ≤ n) && decide (n ≤ 999999999)
/-- A right version. -/
def verOk (a b c : Int) (ls : List (List UInt8)) : Bool := ls.all preOk && (numOk a && numOk b && numOk c && decide (ls.length ≤ 5))

theorem readL_cases (l : List UInt8) : (readL l = -1) ∨ (0 ≤ readL l ∧ readL l ≤ 999999999 ∧ l ≠ [] ∧ l.length ≤ 9 ∧ l.all isDig = true ∧ Lib.decDigits (numL l) = l ∧ readL l = (numL l : Int)) := by
  unfold readL
  split
  · rename_i h
    right
    have h1 := numL_lt l.length l rfl h.2.2.1
    have h2 : 10 ^ l.length ≤ 10 ^ 9 := Nat.pow_le_pow_right (by decide) h.2.1
    exact ⟨by omega, by omega, h.1, h.2.1, h.2.2.1, h.2.2.2, rfl⟩
  · left; rfl
theorem dig_pre {c : UInt8} (h : isDig c = true) : preB c = true := by unfold isDig at h; unfold preB preI; simp at h ⊢; omega
theorem all_dig_pre {l : List UInt8} (h : l.all isDig = true) : l.all preB = true := by
  rw [List.all_eq_true] at h ⊢
  exact fun c hc => dig_pre (h c hc)
/-- A number is a right identifier. -/
theorem preOk_num {l : List UInt8} (h : 0 ≤ readL l) : preOk l = true := by
  rcases readL_cases l with h' | ⟨_, _, hne, h9, hd, _, _⟩
  · omega
  · unfold preOk
    have : 1 ≤ l.length := by
      cases l with
      | nil => exact absurd rfl hne
      | cons a t => simp
    rw [all_dig_pre hd, hd]
    simp
    omega
/-- What is no number is right by its bytes. -/
theorem preOk_text {l : List UInt8} (h : ¬ 0 ≤ readL l) : preOk l = (l.all preB && (decide (1 ≤ l.length) && decide (l.length ≤ 20)) && !(l.all isDig)) := by
  unfold preOk
  have : decide (0 ≤ readL l) = false := by simpa using h
  rw [this, Bool.or_false]
theorem preOk_bad {l : List UInt8} (h : ¬ l.all preB = true) : preOk l = false := by unfold preOk; rw [Bool.eq_false_iff.2 h]; rfl
theorem preOk_len {l : List UInt8} (h : ¬ (1 ≤ l.length ∧ l.length ≤ 20)) : preOk l = false := by unfold preOk; simp; omega
theorem preOk_fin {l : List UInt8} (h : l.all preB = true) (h1 : 1 ≤ l.length) (h2 : l.length ≤ 20) : preOk l = (!(l.all isDig) || decide (0 ≤ readL l)) := by
  unfold preOk; rw [h]; simp [h1, h2]
theorem verOk_bad {a b c : Int} {ls : List (List UInt8)} (h : ¬ ls.all preOk = true) : verOk a b c ls = false := by unfold verOk; rw [Bool.eq_false_iff.2 h]; rfl
theorem verOk_fin {a b c : Int} {ls : List (List UInt8)} (h : ls.all preOk = true) : verOk a b c ls = (numOk a && numOk b && numOk c && decide (ls.length ≤ 5)) := by unfold verOk; rw [h]; rfl

/-- The identifiers behind a version's numbers. -/
def preText : List (List UInt8) → List UInt8
  | [] => []
  | l :: ls => 45 :: l ++ ls.flatMap (fun x => 46 :: x)
def dec (n : Int) : List UInt8 := Lib.itoa n
def verTextOf (a b c : Int) (ls : List (List UInt8)) : List UInt8 := dec a ++ [46] ++ dec b ++ [46] ++ dec c ++ preText ls
def verText (a b c : Int) (ls : List (List UInt8)) : List UInt8 := if verOk a b c ls = true then verTextOf a b c ls else []
end Go.Proofs.YtnodhkjgnegkcaaGreatDoor
