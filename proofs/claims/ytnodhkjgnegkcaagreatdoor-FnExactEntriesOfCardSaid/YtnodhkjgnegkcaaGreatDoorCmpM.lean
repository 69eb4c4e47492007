/-
  The order of versions in plain words. Of no program.
-/
import Derived.Test.YtnodhkjgnegkcaaGreatDoorVerM
namespace Go.Proofs.YtnodhkjgnegkcaaGreatDoor
open Go.RowKit

def cmpI (a b : Int) : Int := if a < b then -1 else if b < a then 1 else 0
def cmpS (a b : List UInt8) : Int := if Op.bytesLess a b = true then -1 else if a = b then 0 else 1
/-- Two identifiers. -/
def cmpPart (a b : List UInt8) : Int :=
  if 0 ≤ readL a then (if 0 ≤ readL b then cmpI (readL a) (readL b) else -1) else (if 0 ≤ readL b then 1 else cmpS a b)
def orI (x y : Int) : Int := if x = 0 then y else x
def cmpL : List (List UInt8) → List (List UInt8) → Int
  | [], [] => 0
  | [], _ :: _ => -1
  | _ :: _, [] => 1
  | a :: x, b :: y => orI (cmpPart a b) (cmpL x y)
def cmpPre (x y : List (List UInt8)) : Int := if x = [] ∨ y = [] then cmpI y.length x.length else cmpL x y
def cmpVer (a b c : Int) (x : List (List UInt8)) (a' b' c' : Int) (y : List (List UInt8)) : Int := orI (cmpI a a') (orI (cmpI b b') (orI (cmpI c c') (cmpPre x y)))

theorem cmpI_bd (a b : Int) : -1 ≤ cmpI a b ∧ cmpI a b ≤ 1 := by unfold cmpI; split <;> (try split) <;> omega
theorem cmpI_same (a : Int) : cmpI a a = 0 := by unfold cmpI; simp
theorem cmpS_bd (a b : List UInt8) : -1 ≤ cmpS a b ∧ cmpS a b ≤ 1 := by unfold cmpS; split <;> (try split) <;> omega
theorem cmpPart_bd (a b : List UInt8) : -1 ≤ cmpPart a b ∧ cmpPart a b ≤ 1 := by
  unfold cmpPart
  have h1 := cmpI_bd (readL a) (readL b)
  have h2 := cmpS_bd a b
  split <;> split <;> omega
theorem orI_zero (y : Int) : orI 0 y = y := rfl
theorem orI_ne {x : Int} (y : Int) (h : x ≠ 0) : orI x y = x := if_neg h
theorem orI_bd {x y : Int} (hx : -1 ≤ x ∧ x ≤ 1) (hy : -1 ≤ y ∧ y ≤ 1) : -1 ≤ orI x y ∧ orI x y ≤ 1 := by unfold orI; split <;> omega
theorem cmpL_bd : ∀ (x y : List (List UInt8)), -1 ≤ cmpL x y ∧ cmpL x y ≤ 1
  | [], [] => by simp [cmpL]
  | [], _ :: _ => by simp [cmpL]
  | _ :: _, [] => by simp [cmpL]
  | a :: x, b :: y => orI_bd (cmpPart_bd a b) (cmpL_bd x y)
theorem cmpPre_bd (x y : List (List UInt8)) : -1 ≤ cmpPre x y ∧ cmpPre x y ≤ 1 := by
  unfold cmpPre
  split
  · exact cmpI_bd _ _
  · exact cmpL_bd _ _

theorem cmpL_step {x y : List (List UInt8)} {k : Nat} (h1 : k < x.length) (h2 : k < y.length) : cmpL (x.drop k) (y.drop k) = orI (cmpPart x[k] y[k]) (cmpL (x.drop (k + 1)) (y.drop (k + 1))) := by
  rw [List.drop_eq_getElem_cons h1, List.drop_eq_getElem_cons h2]; rfl
theorem cmpL_right {x y : List (List UInt8)} {k : Nat} (h1 : k < x.length) (h2 : ¬ k < y.length) : cmpL (x.drop k) (y.drop k) = 1 := by
  rw [List.drop_eq_getElem_cons h1, List.drop_of_length_le (by omega : y.length ≤ k)]; rfl
theorem cmpL_left {x y : List (List UInt8)} {k : Nat} (h1 : ¬ k < x.length) (h2 : k < y.length) : cmpL (x.drop k) (y.drop k) = -1 := by
  rw [List.drop_eq_getElem_cons h2, List.drop_of_length_le (by omega : x.length ≤ k)]; rfl
theorem cmpL_end {x y : List (List UInt8)} {k : Nat} (h1 : ¬ k < x.length) (h2 : ¬ k < y.length) : cmpL (x.drop k) (y.drop k) = 0 := by
  rw [List.drop_of_length_le (by omega : x.length ≤ k), List.drop_of_length_le (by omega : y.length ≤ k)]; rfl
/-- Where one list has ended at k, their lengths decide. -/
theorem cmpL_len {x y : List (List UInt8)} {k : Nat} (hx : k ≤ x.length) (hy : k ≤ y.length) (h : ¬ (k < x.length ∧ k < y.length)) : cmpL (x.drop k) (y.drop k) = cmpI x.length y.length := by
  by_cases h1 : k < x.length
  · rw [cmpL_right h1 (by omega)]; unfold cmpI; rw [if_neg (by omega), if_pos (by omega)]
  · by_cases h2 : k < y.length
    · rw [cmpL_left h1 h2]; unfold cmpI; rw [if_pos (by omega)]
    · rw [cmpL_end h1 h2]; unfold cmpI; rw [if_neg (by omega), if_neg (by omega)]
theorem cmpPre_empty {x y : List (List UInt8)} (h : x = [] ∨ y = []) : cmpPre x y = cmpI y.length x.length := if_pos h
theorem cmpPre_full {x y : List (List UInt8)} (h : ¬ (x = [] ∨ y = [])) : cmpPre x y = cmpL x y := if_neg h
end Go.Proofs.YtnodhkjgnegkcaaGreatDoor
