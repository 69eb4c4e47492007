/-
  Right sums in plain words.
-/
import Derived.Test.YtnodhkjgnegkcaaGreatDoorAlgM
namespace Go.Proofs.YtnodhkjgnegkcaaGreatDoor
open Go.RowKit

/-- The k-th sum has the length of its Alg, and its Alg is greater than the one before it. -/
def sumAt (bs : List Bd) (k : Nat) : Bool := decide (longI (bs.getD k ([], [])).1 = ((bs.getD k ([], [])).2.length : Int)) && (decide (k = 0) || Op.bytesLess (bs.getD (k - 1) ([], [])).1 (bs.getD k ([], [])).1)
def sumsTo (bs : List Bd) : Nat → Bool
  | 0 => true
  | k + 1 => sumsTo bs k && sumAt bs k
/-- All sums are right. -/
def sumsOkL (bs : List Bd) : Bool := sumsTo bs bs.length
theorem sums_mono {bs : List Bd} {k : Nat} : ∀ {n : Nat}, k < n → sumAt bs k = false → sumsTo bs n = false
  | n + 1, h, hb => by
    unfold sumsTo
    by_cases hk : k = n
    · subst hk; rw [hb, Bool.and_false]
    · rw [sums_mono (by omega) hb, Bool.false_and]
theorem sums_bad {bs : List Bd} {k : Nat} (h : k < bs.length) (hb : sumAt bs k = false) : sumsOkL bs = false := sums_mono h hb
theorem sums_step {bs : List Bd} {k : Nat} (h : sumsTo bs k = true) (hb : sumAt bs k = true) : sumsTo bs (k + 1) = true := by unfold sumsTo; rw [h, hb]; rfl
theorem sums_end {bs : List Bd} {k : Nat} (h : sumsTo bs k = true) (hk : k = bs.length) : sumsOkL bs = true := by unfold sumsOkL; rw [← hk]; exact h
theorem getD_at {bs : List Bd} {k : Nat} (h : k < bs.length) : bs.getD k ([], []) = bs[k] := by rw [List.getD_eq_getElem?_getD, List.getElem?_eq_getElem h]; rfl
theorem sumAt_zero {bs : List Bd} (h : 0 < bs.length) : sumAt bs 0 = decide (longI bs[0].1 = (bs[0].2.length : Int)) := by unfold sumAt; rw [getD_at h]; simp
theorem sumAt_more {bs : List Bd} {k : Nat} (h : k + 1 < bs.length) : sumAt bs (k + 1) = (decide (longI bs[k + 1].1 = (bs[k + 1].2.length : Int)) && Op.bytesLess (bs[k]'(by omega)).1 bs[k + 1].1) := by
  unfold sumAt
  have e : k + 1 - 1 = k := by omega
  rw [getD_at h, e, getD_at (by omega : k < bs.length)]; simp
theorem longI_bd (a : List UInt8) : -1 ≤ longI a ∧ longI a ≤ 64 := by
  unfold longI
  split
  · omega
  · split
    · omega
    · split
      · omega
      · split <;> omega
theorem longI_not0 (a : List UInt8) : ¬ longI a = 0 := by
  unfold longI
  split
  · omega
  · split
    · omega
    · split
      · omega
      · split <;> omega
/-- The number of bytes that impl.sumSize tells. -/
def sizeI (a : List UInt8) : Int := if longI a < 0 then 0 else longI a
theorem size_bad {a : List UInt8} (h : sizeI a = 0) (n : Nat) : ¬ longI a = (n : Int) := by
  have := longI_not0 a
  unfold sizeI at h
  split at h
  · omega
  · omega
theorem size_good {a : List UInt8} (h : ¬ sizeI a = 0) : sizeI a = longI a := by
  unfold sizeI at h ⊢
  split
  · rename_i h'; rw [if_pos h'] at h; exact absurd rfl h
  · rfl
end Go.Proofs.YtnodhkjgnegkcaaGreatDoor
