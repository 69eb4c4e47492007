/-
  The holes of a list in plain words: what a test refuses between what it takes. Of no program.
-/
import Derived.Test.YtjpclglklmlhlabGreatDoorSortM
namespace Go.Proofs.YtjpclglklmlhlabGreatDoor
open Go.RowKit

/-- What is refused, told once something taken follows. -/
def holesGo (f : List UInt8 → Bool) : Bool → List (List UInt8) → List (List UInt8) → List (List UInt8)
  | _, _, [] => []
  | b, wt, x :: xs => if f x = true then wt ++ holesGo f true [] xs else if b = true then holesGo f true (wt ++ [x]) xs else holesGo f false [] xs
def lastR (f : List UInt8 → Bool) : List (List UInt8) → Int
  | [] => -1
  | x :: r => if f x = true then (r.length : Int) else lastR f r
/-- The place of the last that is taken, -1 where there is none. -/
def lastV (f : List UInt8 → Bool) (X : List (List UInt8)) : Int := lastR f X.reverse
theorem lastV_snoc (f : List UInt8 → Bool) (X : List (List UInt8)) (x : List UInt8) : lastV f (X ++ [x]) = if f x = true then (X.length : Int) else lastV f X := by
  simp [lastV, lastR]
theorem lastR_ge (f : List UInt8 → Bool) : ∀ X, -1 ≤ lastR f X
  | [] => by simp [lastR]
  | x :: r => by have := lastR_ge f r; unfold lastR; split <;> omega
theorem lastR_lt (f : List UInt8 → Bool) : ∀ X, lastR f X < X.length
  | [] => by simp [lastR]
  | x :: r => by have := lastR_lt f r; unfold lastR; simp only [List.length_cons]; split <;> omega
theorem lastV_ge (f : List UInt8 → Bool) (X : List (List UInt8)) : -1 ≤ lastV f X := lastR_ge f _
theorem lastV_lt (f : List UInt8 → Bool) (X : List (List UInt8)) : lastV f X < X.length := by have := lastR_lt f X.reverse; simpa [lastV] using this
theorem lastR_app (f : List UInt8 → Bool) (y : List UInt8) : ∀ r, lastR f (r ++ [y]) = if 0 ≤ lastR f r then lastR f r + 1 else if f y = true then 0 else -1
  | [] => by simp [lastR]
  | x :: r => by
    simp only [List.cons_append, lastR, lastR_app f y r]
    by_cases hx : f x = true
    · simp [hx]
    · simp [hx]
theorem lastV_cons (f : List UInt8 → Bool) (y : List UInt8) (ys : List (List UInt8)) : lastV f (y :: ys) = if 0 ≤ lastV f ys then lastV f ys + 1 else if f y = true then 0 else -1 := by
  unfold lastV
  rw [List.reverse_cons, lastR_app]
theorem lastV_take {f : List UInt8 → Bool} {X : List (List UInt8)} {k : Nat} (h : k < X.length) : lastV f (X.take (k + 1)) = if f X[k] = true then (k : Int) else lastV f (X.take k) := by
  rw [List.take_succ_eq_append_getElem h, lastV_snoc, List.length_take, Nat.min_eq_left (by omega)]
def refd (f : List UInt8 → Bool) (X : List (List UInt8)) : List (List UInt8) := X.filter (fun x => !f x)
theorem refd_snoc (f : List UInt8 → Bool) (X : List (List UInt8)) (x : List UInt8) : refd f (X ++ [x]) = if f x = true then refd f X else refd f X ++ [x] := by
  unfold refd
  rw [List.filter_append]
  by_cases hx : f x = true <;> simp [hx]
theorem holesGo_true (f : List UInt8 → Bool) : ∀ (Y wt : List (List UInt8)), holesGo f true wt Y = if 0 ≤ lastV f Y then wt ++ refd f (Y.take (lastV f Y).toNat) else []
  | [], wt => by simp [holesGo, lastV, lastR]
  | y :: ys, wt => by
    have hl := lastV_cons f y ys
    by_cases hy : f y = true
    · rw [show holesGo f true wt (y :: ys) = wt ++ holesGo f true [] ys by simp [holesGo, hy], holesGo_true f ys []]
      by_cases h : 0 ≤ lastV f ys
      · rw [if_pos h] at hl ⊢
        rw [hl, if_pos (by omega), show (lastV f ys + 1).toNat = (lastV f ys).toNat + 1 by omega]
        simp [refd, hy]
      · rw [if_neg h, if_pos hy] at hl
        rw [if_neg h, hl]
        simp [refd]
    · rw [show holesGo f true wt (y :: ys) = holesGo f true (wt ++ [y]) ys by simp [holesGo, hy], holesGo_true f ys (wt ++ [y])]
      by_cases h : 0 ≤ lastV f ys
      · rw [if_pos h] at hl ⊢
        rw [hl, if_pos (by omega), show (lastV f ys + 1).toNat = (lastV f ys).toNat + 1 by omega]
        simp [refd, hy]
      · rw [if_neg h, if_neg hy] at hl
        rw [if_neg h, hl, if_neg (by omega)]
theorem holesGo_first (f : List UInt8 → Bool) : ∀ X : List (List UInt8), holesGo f false [] X = refd f ((X.take (lastV f X).toNat).drop (X.findIdx f))
  | [] => by simp [holesGo, refd]
  | x :: xs => by
    have hl := lastV_cons f x xs
    by_cases hx : f x = true
    · rw [show holesGo f false [] (x :: xs) = holesGo f true [] xs by simp [holesGo, hx], holesGo_true]
      have e : (x :: xs).findIdx f = 0 := by simp [List.findIdx_cons, hx]
      rw [e, List.drop_zero]
      by_cases h : 0 ≤ lastV f xs
      · rw [if_pos h] at hl ⊢
        rw [hl, show (lastV f xs + 1).toNat = (lastV f xs).toNat + 1 by omega]
        simp [refd, hx]
      · rw [if_neg h, if_pos hx] at hl
        rw [if_neg h, hl]
        simp [refd]
    · rw [show holesGo f false [] (x :: xs) = holesGo f false [] xs by simp [holesGo, hx], holesGo_first f xs]
      have e : (x :: xs).findIdx f = xs.findIdx f + 1 := by simp [List.findIdx_cons, hx]
      rw [e]
      by_cases h : 0 ≤ lastV f xs
      · rw [if_pos h] at hl
        rw [hl, show (lastV f xs + 1).toNat = (lastV f xs).toNat + 1 by omega]
        simp
      · rw [if_neg h, if_neg hx] at hl
        rw [hl, show (lastV f xs).toNat = 0 by omega]
        simp
/-- What stands in front of the k-th, counted from the first that is taken. -/
def firstI (f : List UInt8 → Bool) (X : List (List UInt8)) (k : Nat) : Nat := if X.findIdx f < k then X.findIdx f else X.length
theorem firstI_yes {f : List UInt8 → Bool} {X : List (List UInt8)} {k : Nat} (h : k < X.length) (hf : f X[k] = true) : firstI f X (k + 1) = if k < firstI f X k then k else firstI f X k := by
  have h1 : X.findIdx f ≤ k := by
    apply Nat.le_of_not_lt
    intro hlt
    have := List.not_of_lt_findIdx hlt
    simp [hf] at this
  unfold firstI
  rw [if_pos (by omega)]
  by_cases h2 : X.findIdx f < k
  · rw [if_pos h2, if_neg (by omega)]
  · rw [if_neg h2, if_pos h]; omega
theorem firstI_no {f : List UInt8 → Bool} {X : List (List UInt8)} {k : Nat} (h : k < X.length) (hf : f X[k] = false) : firstI f X (k + 1) = firstI f X k := by
  have h1 : X.findIdx f ≠ k := by
    intro e
    have := List.findIdx_getElem (w := show X.findIdx f < X.length by omega)
    simp only [e] at this
    rw [hf] at this
    cases this
  unfold firstI
  by_cases h2 : X.findIdx f < k
  · rw [if_pos h2, if_pos (by omega)]
  · rw [if_neg h2, if_neg (by omega)]
theorem firstI_end (f : List UInt8 → Bool) (X : List (List UInt8)) : firstI f X X.length = X.findIdx f := by
  have := List.findIdx_le_length (p := f) (xs := X)
  unfold firstI
  split <;> omega
theorem firstI_le (f : List UInt8 → Bool) (X : List (List UInt8)) (k : Nat) : firstI f X k ≤ X.length := by
  have := List.findIdx_le_length (p := f) (xs := X)
  unfold firstI
  split <;> omega
theorem drop_take_snoc {X : List (List UInt8)} {a k : Nat} (h : k < X.length) (ha : a ≤ k) : (X.take (k + 1)).drop a = (X.take k).drop a ++ [X[k]] := by
  rw [List.take_succ_eq_append_getElem h, List.drop_append_of_le_length (by simp; omega)]
def holesL (f : List UInt8 → Bool) (X : List (List UInt8)) : List (List UInt8) := holesGo f false [] X
theorem holes_end {f : List UInt8 → Bool} {X : List (List UInt8)} {i : Nat} (h1 : ¬ (i : Int) < lastV f X) (h2 : (i : Int) ≤ lastV f X ∨ i = X.findIdx f) : refd f ((X.take i).drop (X.findIdx f)) = holesL f X := by
  unfold holesL
  rw [holesGo_first]
  rcases h2 with h | h
  · rw [show (lastV f X).toNat = i by omega]
  · congr 1
    rw [← h, List.drop_of_length_le (by simp; omega), List.drop_of_length_le (by simp; omega)]
theorem holesL_len (f : List UInt8 → Bool) (X : List (List UInt8)) : (holesL f X).length ≤ X.length := by
  unfold holesL
  rw [holesGo_first]
  exact Nat.le_trans (List.length_filter_le _ _) (by simp; omega)
end Go.Proofs.YtjpclglklmlhlabGreatDoor
