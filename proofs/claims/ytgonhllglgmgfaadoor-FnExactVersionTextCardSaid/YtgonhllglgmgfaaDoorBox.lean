/-
  A struct of four cells in memory.
-/
import Derived.Test.YtgonhllglgmgfaaDoorLawV
namespace Go.Proofs.YtgonhllglgmgfaaDoor
open Go.RowKit

theorem szI_good {ls : List (List UInt8)} (h : szI 1048576 ls ≠ -1) : Sm ls := by
  unfold szI at h
  split at h
  · rename_i h'
    exact ⟨by omega, fun l hl => by have := smL_mem l hl; omega⟩
  · exact absurd rfl h
theorem szI_good2 {ls : List (List UInt8)} {z : Int} (hz : z ≤ 1048576) (h : szI z ls ≠ -1) : Sm ls := by
  unfold szI at h
  split at h
  · rename_i h'
    exact ⟨by omega, fun l hl => by have := smL_mem l hl; omega⟩
  · exact absurd rfl h
theorem cells4 {V : World} {B : Nat} {T : TypeId} {v0 v1 v2 v3 : Value} (h : V.heap[B]? = some (.cells #[v0, v1, v2, v3] T)) :
    V.cell? ⟨B, 0, none⟩ = some v0 ∧ V.cell? ⟨B, 1, none⟩ = some v1 ∧ V.cell? ⟨B, 2, none⟩ = some v2 ∧ V.cell? ⟨B, 3, none⟩ = some v3 := by
  simp [World.cell?, h]
theorem lt_of_heap {W : World} {B : Nat} {o : Obj} (h : W.heap[B]? = some o) : B < W.heap.size := (Array.getElem?_eq_some_iff.1 h).1
theorem keepB {W V : World} {B : Nat} {o : Obj} (h : W.heap[B]? = some o) (hb : Below W.heap.size W V) : V.heap[B]? = some o := (hb.block B (lt_of_heap h)).trans h
theorem keepA {W : World} {B : Nat} {o : Obj} (h : W.heap[B]? = some o) (o' : Obj) : (W.alloc o').heap[B]? = some o := (Below.heap_alloc _ _ _ (lt_of_heap h)).trans h
theorem cell_in {w : World} {g o : Nat} {v : Value} (h : w.cell? ⟨g, o, none⟩ = some v) : g < w.heap.size := by
  rcases Nat.lt_or_ge g w.heap.size with hlt | hge
  · exact hlt
  · unfold World.cell? at h
    simp only at h
    rw [Array.getElem?_eq_none hge] at h
    cases h
theorem keepC {W V : World} {A o : Nat} {v : Value} (hb : Below W.heap.size W V) (h : W.cell? ⟨A, o, none⟩ = some v) : V.cell? ⟨A, o, none⟩ = some v := (hb.cell (p := ⟨A, o, none⟩) (cell_in h)).trans h
theorem keep8 {W V : World} {A B : Nat} {v0 v1 v2 v3 u0 u1 u2 u3 : Value} (hb : Below W.heap.size W V) (h : W.cell? ⟨A, 0, none⟩ = some v0 ∧ W.cell? ⟨A, 1, none⟩ = some v1 ∧ W.cell? ⟨A, 2, none⟩ = some v2 ∧ W.cell? ⟨A, 3, none⟩ = some v3 ∧ W.cell? ⟨B, 0, none⟩ = some u0 ∧ W.cell? ⟨B, 1, none⟩ = some u1 ∧ W.cell? ⟨B, 2, none⟩ = some u2 ∧ W.cell? ⟨B, 3, none⟩ = some u3) :
    V.cell? ⟨A, 0, none⟩ = some v0 ∧ V.cell? ⟨A, 1, none⟩ = some v1 ∧ V.cell? ⟨A, 2, none⟩ = some v2 ∧ V.cell? ⟨A, 3, none⟩ = some v3 ∧ V.cell? ⟨B, 0, none⟩ = some u0 ∧ V.cell? ⟨B, 1, none⟩ = some u1 ∧ V.cell? ⟨B, 2, none⟩ = some u2 ∧ V.cell? ⟨B, 3, none⟩ = some u3 :=
  ⟨keepC hb h.1, keepC hb h.2.1, keepC hb h.2.2.1, keepC hb h.2.2.2.1, keepC hb h.2.2.2.2.1, keepC hb h.2.2.2.2.2.1, keepC hb h.2.2.2.2.2.2.1, keepC hb h.2.2.2.2.2.2.2⟩
theorem below_drew (n : Nat) (W : World) : Below n W W.drew := below_drewN n W 1
end Go.Proofs.YtgonhllglgmgfaaDoor
