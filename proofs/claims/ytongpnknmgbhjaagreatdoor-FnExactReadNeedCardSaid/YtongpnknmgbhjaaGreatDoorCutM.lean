/-
  What stands before the first mark of a text, and what behind it.
-/
import Derived.Test.YtongpnknmgbhjaaGreatDoorIndexA
namespace Go.Proofs.YtongpnknmgbhjaaGreatDoor

/-- What stands before the first m, and what behind it. -/
def cutA (m : UInt8) (l : List UInt8) : List UInt8 := if 0 ≤ Lib.indexByte l m then l.take (Lib.indexByte l m).toNat else l
def cutB (m : UInt8) (l : List UInt8) : List UInt8 := if 0 ≤ Lib.indexByte l m then l.drop ((Lib.indexByte l m).toNat + 1) else []
theorem cutA_nil (m : UInt8) : cutA m [] = [] := by unfold cutA; split <;> simp
theorem cutB_nil (m : UInt8) : cutB m [] = [] := by unfold cutB; split <;> simp
theorem cutA_hit (m : UInt8) (l : List UInt8) : cutA m (m :: l) = [] := by unfold cutA; rw [idx_hit l rfl]; simp
theorem cutB_hit (m : UInt8) (l : List UInt8) : cutB m (m :: l) = l := by unfold cutB; rw [idx_hit l rfl]; simp
theorem cutA_miss {m c : UInt8} (l : List UInt8) (h : ¬ c = m) : cutA m (c :: l) = c :: cutA m l := by
  have hg := idx_ge l m
  unfold cutA
  rw [idx_miss l h]
  by_cases h1 : Lib.indexByte l m = -1
  · rw [if_pos h1, if_neg (by omega), if_neg (by omega)]
  · rw [if_neg h1, if_pos (by omega), if_pos (by omega), show (Lib.indexByte l m + 1).toNat = (Lib.indexByte l m).toNat + 1 by omega]; rfl
theorem cutB_miss {m c : UInt8} (l : List UInt8) (h : ¬ c = m) : cutB m (c :: l) = cutB m l := by
  have hg := idx_ge l m
  unfold cutB
  rw [idx_miss l h]
  by_cases h1 : Lib.indexByte l m = -1
  · rw [if_pos h1, if_neg (by omega), if_neg (by omega)]
  · rw [if_neg h1, if_pos (by omega), if_pos (by omega), show (Lib.indexByte l m + 1).toNat + 1 = (Lib.indexByte l m).toNat + 1 + 1 by omega]; rfl
theorem cut_len (m : UInt8) : ∀ l : List UInt8, (cutA m l).length + (cutB m l).length ≤ l.length
  | [] => by rw [cutA_nil, cutB_nil]; simp
  | c :: l => by
    have ih := cut_len m l
    by_cases h : c = m
    · subst h; rw [cutA_hit, cutB_hit]; simp
    · rw [cutA_miss l h, cutB_miss l h]; simp; omega
theorem cutB_lt (m : UInt8) {l : List UInt8} (h : l ≠ []) : (cutB m l).length < l.length := by
  cases l with
  | nil => exact absurd rfl h
  | cons c l =>
    by_cases h : c = m
    · subst h; rw [cutB_hit]; simp
    · rw [cutB_miss l h]; have := cut_len m l; simp; omega
theorem cutB_le (m : UInt8) (l : List UInt8) : (cutB m l).length ≤ l.length := by have := cut_len m l; omega

end Go.Proofs.YtongpnknmgbhjaaGreatDoor
