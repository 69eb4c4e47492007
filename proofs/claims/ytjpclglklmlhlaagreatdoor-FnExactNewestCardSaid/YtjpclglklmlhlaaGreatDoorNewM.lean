/-
  The newest of sorted versions' texts in plain words: the last without a dash, else the last. Of no program.
-/
import Derived.Test.YtjpclglklmlhlaaGreatDoorSortM
import Derived.Test.YtjpclglklmlhlaaGreatDoorRdM
namespace Go.Proofs.YtjpclglklmlhlaaGreatDoor
open Go.RowKit

/-- A text without a dash. -/
def stb (l : List UInt8) : Bool := decide (dash l < 0)
def lastD (X : List (List UInt8)) : List UInt8 := X.getLast?.getD []
def lastSt (X : List (List UInt8)) : List UInt8 := lastD (X.filter stb)
def newestL (X : List (List UInt8)) : List UInt8 := if lastSt X = [] ∧ 0 < X.length then lastD X else lastSt X

theorem lastD_snoc (X : List (List UInt8)) (x : List UInt8) : lastD (X ++ [x]) = x := by simp [lastD]
theorem lastSt_take {X : List (List UInt8)} {k : Nat} (h : k < X.length) : lastSt (X.take (k + 1)) = if stb X[k] = true then X[k] else lastSt (X.take k) := by
  unfold lastSt
  rw [List.take_succ_eq_append_getElem h, List.filter_append]
  by_cases hs : stb X[k] = true
  · rw [if_pos hs]; simp [hs, lastD]
  · rw [if_neg hs]; simp [hs]
theorem lastSt_none {X : List (List UInt8)} (h : ∀ x ∈ X, stb x = false) : lastSt X = [] := by
  unfold lastSt
  rw [List.filter_eq_nil_iff.2 (fun x hx => by rw [h x hx]; simp)]
  rfl
theorem lastSt_at {X p t : List (List UInt8)} {x : List UInt8} (h : X.reverse = p ++ [x] ++ t) (hp : ∀ y ∈ p, stb y = false) (hx : stb x = true) : lastSt X = x := by
  have e : X = t.reverse ++ [x] ++ p.reverse := by
    have := congrArg List.reverse h
    simpa using this
  unfold lastSt
  have e2 : p.reverse.filter stb = [] := List.filter_eq_nil_iff.2 (fun y hy => by rw [hp y (by simpa using hy)]; simp)
  rw [e, List.filter_append, List.filter_append, e2]
  simp [hx, lastD]
theorem readOk_ne {l : List UInt8} (h : readOk l = true) : l ≠ [] := by
  rintro rfl
  revert h
  decide
theorem newest_some {X : List (List UInt8)} {x : List UInt8} (h : lastSt X = x) (hx : x ≠ []) : newestL X = x := by
  unfold newestL
  rw [h, if_neg (fun hh => hx hh.1)]
theorem newest_none {X : List (List UInt8)} (h : lastSt X = []) (hx : 0 < X.length) : newestL X = lastD X := by
  unfold newestL
  rw [h, if_pos ⟨rfl, hx⟩]
theorem lastD_get {X : List (List UInt8)} (h : 0 < X.length) : lastD X = X[X.length - 1]'(by omega) := by
  unfold lastD
  rw [List.getLast?_eq_getElem?, List.getElem?_eq_getElem (by omega)]
  rfl
end Go.Proofs.YtjpclglklmlhlaaGreatDoor
