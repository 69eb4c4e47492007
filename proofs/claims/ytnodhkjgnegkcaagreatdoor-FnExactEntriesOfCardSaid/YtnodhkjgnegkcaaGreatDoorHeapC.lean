/-
  Cells of blocks carried from world to world; lists of texts among them.
-/
import Derived.Test.YtnodhkjgnegkcaaGreatDoorLawB
namespace Go.Proofs.YtnodhkjgnegkcaaGreatDoor
open Go.RowKit

theorem cells4 {V : World} {B : Nat} {T : TypeId} {v0 v1 v2 v3 : Value} (h : V.heap[B]? = some (.cells #[v0, v1, v2, v3] T)) :
    V.cell? ⟨B, 0, none⟩ = some v0 ∧ V.cell? ⟨B, 1, none⟩ = some v1 ∧ V.cell? ⟨B, 2, none⟩ = some v2 ∧ V.cell? ⟨B, 3, none⟩ = some v3 := by
  simp [World.cell?, h]
theorem lt_of_heap {W : World} {B : Nat} {o : Obj} (h : W.heap[B]? = some o) : B < W.heap.size := (Array.getElem?_eq_some_iff.1 h).1
theorem keepB {W V : World} {B : Nat} {o : Obj} (h : W.heap[B]? = some o) (hb : Below W.heap.size W V) : V.heap[B]? = some o := (hb.block B (lt_of_heap h)).trans h
theorem keepA {W : World} {B : Nat} {o : Obj} (h : W.heap[B]? = some o) (o' : Obj) : (W.alloc o').heap[B]? = some o := (Below.heap_alloc _ _ _ (lt_of_heap h)).trans h
theorem cell_in {w : World} {g o : Nat} {v : Value} (h : w.cell? ⟨g, o, none⟩ = some v) : g < w.heap.size := by
  rcases Nat.lt_or_ge g w.heap.size with hlt | hge
  · exact hlt
  · unfold World.cell? at h
    simp only at h
    rw [Array.getElem?_eq_none hge] at h
    cases h
theorem keepC {W V : World} {A o : Nat} {v : Value} (hb : Below W.heap.size W V) (h : W.cell? ⟨A, o, none⟩ = some v) : V.cell? ⟨A, o, none⟩ = some v := (hb.cell (p := ⟨A, o, none⟩) (cell_in h)).trans h
theorem keep8 {W V : World} {A B : Nat} {v0 v1 v2 v3 u0 u1 u2 u3 : Value} (hb : Below W.heap.size W V) (h : W.cell? ⟨A, 0, none⟩ = some v0 ∧ W.cell? ⟨A, 1, none⟩ = some v1 ∧ W.cell? ⟨A, 2, none⟩ = some v2 ∧ W.cell? ⟨A, 3, none⟩ = some v3 ∧ W.cell? ⟨B, 0, none⟩ = some u0 ∧ W.cell? ⟨B, 1, none⟩ = some u1 ∧ W.cell? ⟨B, 2, none⟩ = some u2 ∧ W.cell? ⟨B, 3, none⟩ = some u3) :
    V.cell? ⟨A, 0, none⟩ = some v0 ∧ V.cell? ⟨A, 1, none⟩ = some v1 ∧ V.cell? ⟨A, 2, none⟩ = some v2 ∧ V.cell? ⟨A, 3, none⟩ = some v3 ∧ V.cell? ⟨B, 0, none⟩ = some u0 ∧ V.cell? ⟨B, 1, none⟩ = some u1 ∧ V.cell? ⟨B, 2, none⟩ = some u2 ∧ V.cell? ⟨B, 3, none⟩ = some u3 :=
  ⟨keepC hb h.1, keepC hb h.2.1, keepC hb h.2.2.1, keepC hb h.2.2.2.1, keepC hb h.2.2.2.2.1, keepC hb h.2.2.2.2.2.1, keepC hb h.2.2.2.2.2.2.1, keepC hb h.2.2.2.2.2.2.2⟩
theorem below_drew (n : Nat) (W : World) : Below n W W.drew := below_drewN n W 1
theorem Strs.slice {w : World} {base : Nat} {v : Value} {l : List (List UInt8)} (h : Strs w base v l) : ∃ A c, v = .slice A l.length c := by
  rcases h.form with ⟨rfl, rfl⟩ | ⟨g, cap, rfl, _, _⟩
  · exact ⟨_, _, rfl⟩
  · exact ⟨_, _, rfl⟩
theorem Strs.otherV {w : World} {base : Nat} {v : Value} {l : List (List UInt8)} (h : Strs w base v l) (b o : Nat) (x : Value) (hne : b < base) : Strs (w.setCell ⟨b, o, none⟩ x) base v l := by
  rcases h.form with ⟨rfl, rfl⟩ | ⟨g, cap, rfl, hg, _⟩
  · exact Strs.nil _ _
  · exact h.other b o x (by omega)
/-- A block of four cells, one of them stored. -/
theorem heap_set3 {V : World} {B : Nat} {T : TypeId} {v0 v1 v2 v3 : Value} (h : V.heap[B]? = some (.cells #[v0, v1, v2, v3] T)) (x : Value) : (V.setCell ⟨B, 3, none⟩ x).heap[B]? = some (.cells #[v0, v1, v2, x] T) := by
  rw [heap_setCell_same V B 3 #[v0, v1, v2, v3] T x h]; rfl
theorem heap_other {V : World} {B g o : Nat} {ob : Obj} (h : V.heap[B]? = some ob) (x : Value) (hne : g ≠ B) : (V.setCell ⟨g, o, none⟩ x).heap[B]? = some ob := (heap_setCell_other V ⟨g, o, none⟩ B x (fun e => hne e.symm)).trans h
theorem frozen4 {V : World} {B : Nat} {T : TypeId} {v0 v1 v2 v3 : Value} (h : V.heap[B]? = some (.cells #[v0, v1, v2, v3] T)) (o : Nat) : V.frozen? ⟨B, o, none⟩ = false := by
  simp [World.frozen?, h]
theorem set_same (ls : List (List UInt8)) (k : Nat) (h : k < ls.length) : ls.set k ls[k] = ls := by simp

theorem rdS_nil (w : World) : RdS w (.slice none 0 0) [] := ⟨none, 0, rfl, fun h => absurd h (by simp)⟩

theorem Strs.emptyAt (W : World) (base n : Nat) (hn : W.heap.size = n) (hb : base ≤ n) : Strs (W.alloc (.cells #[] 9)) base (.slice (some ⟨n, 0, none⟩) 0 0) [] := by
  subst hn; exact Strs.empty W base hb
theorem heap_new {W : World} {n : Nat} (hn : W.heap.size = n) (o : Obj) : (W.alloc o).heap[n]? = some o := by subst hn; exact heap_alloc_new W o
theorem Strs.block_lt {w : World} {base : Nat} {v : Value} {l : List (List UInt8)} (h : Strs w base v l) : ∀ g, v.ownBlock = some g → g < w.heap.size := by
  intro g hg
  rcases h.form with ⟨rfl, _⟩ | ⟨g', cap, rfl, _, hl⟩
  · simp [Value.ownBlock] at hg
  · simp [Value.ownBlock] at hg; omega
theorem Strs.setFar {w : World} {base : Nat} {v : Value} {l : List (List UInt8)} (h : Strs w base v l) (b o : Nat) (x : Value) (hne : ∀ g, v.ownBlock = some g → g ≠ b) : Strs (w.setCell ⟨b, o, none⟩ x) base v l := by
  rcases h.form with ⟨rfl, rfl⟩ | ⟨g, cap, rfl, hg, _⟩
  · exact Strs.nil _ _
  · exact h.other b o x (Ne.symm (hne g rfl))
/-- The end of a walk whose answer lies in a block of four cells. -/
theorem strs_result {V : World} {base R : Nat} {u : Value} {ls : List (List UInt8)} (h : Strs V base u ls) (hR : ∀ g, u.ownBlock = some g → g ≠ R) (x0 x1 x2 x3 : Value) : Strs ((((V.setCell ⟨R, 0, none⟩ x0).setCell ⟨R, 1, none⟩ x1).setCell ⟨R, 2, none⟩ x2).setCell ⟨R, 3, none⟩ x3) base u ls := by
  rcases h.form with ⟨rfl, rfl⟩ | ⟨g, cap, rfl, _, _⟩
  · exact Strs.nil _ _
  · have := hR g rfl
    exact (((h.other _ _ _ (Ne.symm this)).other _ _ _ (Ne.symm this)).other _ _ _ (Ne.symm this)).other _ _ _ (Ne.symm this)

theorem heap_set0 {V : World} {B : Nat} {T : TypeId} {v0 v1 v2 v3 : Value} (h : V.heap[B]? = some (.cells #[v0, v1, v2, v3] T)) (x : Value) : (V.setCell ⟨B, 0, none⟩ x).heap[B]? = some (.cells #[x, v1, v2, v3] T) := by
  rw [heap_setCell_same V B 0 #[v0, v1, v2, v3] T x h]; rfl
theorem heap_set1 {V : World} {B : Nat} {T : TypeId} {v0 v1 v2 v3 : Value} (h : V.heap[B]? = some (.cells #[v0, v1, v2, v3] T)) (x : Value) : (V.setCell ⟨B, 1, none⟩ x).heap[B]? = some (.cells #[v0, x, v2, v3] T) := by
  rw [heap_setCell_same V B 1 #[v0, v1, v2, v3] T x h]; rfl
theorem heap_set2 {V : World} {B : Nat} {T : TypeId} {v0 v1 v2 v3 : Value} (h : V.heap[B]? = some (.cells #[v0, v1, v2, v3] T)) (x : Value) : (V.setCell ⟨B, 2, none⟩ x).heap[B]? = some (.cells #[v0, v1, x, v3] T) := by
  rw [heap_setCell_same V B 2 #[v0, v1, v2, v3] T x h]; rfl
theorem below_result {n R : Nat} {W V : World} (h : Below n W V) (hR : n ≤ R) (x0 x1 x2 x3 : Value) : Below n W ((((V.setCell ⟨R, 0, none⟩ x0).setCell ⟨R, 1, none⟩ x1).setCell ⟨R, 2, none⟩ x2).setCell ⟨R, 3, none⟩ x3) := (((h.setCell (p := ⟨R, 0, none⟩) hR _).setCell (p := ⟨R, 1, none⟩) hR _).setCell (p := ⟨R, 2, none⟩) hR _).setCell (p := ⟨R, 3, none⟩) hR _
theorem grown_heap {W V : World} {row : Nat} {B : Nat} {o : Obj} (hg : W.grownBy V (some row)) (h : W.heap[B]? = some o) (hne : B ≠ row) : V.heap[B]? = some o := (hg.block B (lt_of_heap h) (fun e => hne (by cases e; rfl))).trans h
end Go.Proofs.YtnodhkjgnegkcaaGreatDoor
