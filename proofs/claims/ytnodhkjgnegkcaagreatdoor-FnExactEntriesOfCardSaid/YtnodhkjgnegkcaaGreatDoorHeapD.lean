/-
  Cells of blocks: one stored, two read.
-/
import Derived.Test.YtnodhkjgnegkcaaGreatDoorHeapC
namespace Go.Proofs.YtnodhkjgnegkcaaGreatDoor
open Go.RowKit

theorem heap_setN {V : World} {B k : Nat} {T : TypeId} {cs : Array Value} (h : V.heap[B]? = some (.cells cs T)) (x : Value) : (V.setCell ⟨B, k, none⟩ x).heap[B]? = some (.cells (cs.setIfInBounds k x) T) := by
  rw [heap_setCell_same V B k cs T x h]
theorem cellsG {V : World} {B : Nat} {T : TypeId} {v0 v1 : Value} (h : V.heap[B]? = some (.cells #[v0, v1] T)) : V.cell? ⟨B, 0, none⟩ = some v0 ∧ V.cell? ⟨B, 1, none⟩ = some v1 := by
  simp [World.cell?, h]
theorem frozenG {V : World} {B : Nat} {T : TypeId} {v0 v1 : Value} (h : V.heap[B]? = some (.cells #[v0, v1] T)) : ∀ o, V.frozen? ⟨B, o, none⟩ = false := by
  intro o; simp [World.frozen?, h]
end Go.Proofs.YtnodhkjgnegkcaaGreatDoor
