/-
  Lists of texts that are few and short.
-/
import Derived.Test.YtnodhkjgnegkcaaGreatDoorRows
namespace Go.Proofs.YtnodhkjgnegkcaaGreatDoor

/-- The texts are few and short. -/
def Sm (ls : List (List UInt8)) : Prop := ls.length ≤ 1048576 ∧ ∀ l ∈ ls, l.length ≤ 1048576
theorem sm_nil : Sm [] := ⟨by simp, fun l h => by cases h⟩
end Go.Proofs.YtnodhkjgnegkcaaGreatDoor
