/-
  Cells of blocks carried from world to world; the bounds of a right version.
-/
import Derived.Test.YtnodhkjgnegkcaaGreatDoorLawB
import Derived.Test.YtnodhkjgnegkcaaGreatDoorVerM
import Derived.Test.YtnodhkjgnegkcaaGreatDoorHeapC
import Derived.Test.YtnodhkjgnegkcaaGreatDoorSmD
namespace Go.Proofs.YtnodhkjgnegkcaaGreatDoor
open Go.RowKit

theorem verOk_bd {a b c : Int} {ls : List (List UInt8)} (h : verOk a b c ls = true) : (0 ≤ a ∧ a ≤ 999999999) ∧ (0 ≤ b ∧ b ≤ 999999999) ∧ (0 ≤ c ∧ c ≤ 999999999) ∧ ls.length ≤ 5 := by
  unfold verOk numOk at h; simp at h; omega

end Go.Proofs.YtnodhkjgnegkcaaGreatDoor
