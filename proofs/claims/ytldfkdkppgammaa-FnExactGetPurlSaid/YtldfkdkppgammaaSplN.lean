/-
  A list of texts that grows in a box while an iterator yields.
-/
import Derived.Test.YtldfkdkppgammaaSplit
namespace Go.Proofs.Ytldfkdkppgammaa
open Go.RowKit Go.Shelf
attribute [local go_sem] Oper.semAt_some

/-- The box behind block p has the texts so far. -/
def SpN (p : Nat) (ls : List (List UInt8)) (W : World) : Prop :=
  p + 4 ≤ W.heap.size ∧ ∃ v, Boxed W (p + 1) 33 v ∧ Strs W p v ls ∧ (∀ g, v.ownBlock = some g → g ≠ p + 1 ∧ g ≠ p + 2 ∧ g ≠ p + 3)
theorem spN_own (p B : Nat) (f : Part → List UInt8) : OwnFrom B (fun (pre : List Part) W => SpN p (pre.map f) W) := by
  rintro pre W W' row ⟨h4, v, hB, hS, hne⟩ hg hr
  refine ⟨Nat.le_trans h4 hg.size, v, hB.kept hg (fun e => ?_), World.ownsRow.kept hS hg ?_, hne⟩
  · obtain ⟨_, o, ho, hc⟩ := hr _ e.symm
    rw [show W.heap[_]? = _ from hB] at ho; cases ho; cases hc
  · rcases hS.2 with ⟨rfl, _⟩ | ⟨g, cap, cur, rfl, _, hh, _⟩
    · left; rfl
    · right
      intro e
      obtain ⟨_, o, ho, hc⟩ := hr g (by simpa [Value.ownBlock] using e.symm)
      rw [hh] at ho; cases ho; cases hc

theorem spN_end (p : Nat) (V W w1 w3 : World) (v : Value) (ls : List (List UInt8)) (x : List UInt8) (o : Obj) (g cap : Nat) (h4 : p + 4 ≤ W.heap.size) (hR : Boxed W (p + 1) 33 v) (hS : Strs W p v ls)
    (hne : ∀ g, v.ownBlock = some g → g ≠ p + 1 ∧ g ≠ p + 2 ∧ g ≠ p + 3) (hB : Below p V W) (hb1 : Below W.heap.size W w1) (hg3 : (w1.alloc o).grownBy w3 v.ownBlock)
    (hS3 : Strs w3 p (.slice (some ⟨g, 0, none⟩) (ls.length + 1) cap) (ls ++ [x])) (hg4 : v.ownBlock = some g ∨ g = (w1.alloc o).heap.size) :
    Boxed w3 (p + 1) 33 v ∧ KeepsOthers W (w3.setCell ⟨p + 1, 0, none⟩ (.slice (some ⟨g, 0, none⟩) (ls.length + 1) cap)) ∧ KpB (p + 1 + 1) (p + 1 + 1 + 1) W (w3.setCell ⟨p + 1, 0, none⟩ (.slice (some ⟨g, 0, none⟩) (ls.length + 1) cap)) ∧
      SpN p (ls ++ [x]) (w3.setCell ⟨p + 1, 0, none⟩ (.slice (some ⟨g, 0, none⟩) (ls.length + 1) cap)) ∧ Below p V (w3.setCell ⟨p + 1, 0, none⟩ (.slice (some ⟨g, 0, none⟩) (ls.length + 1) cap)) := by
  have hs1 : W.heap.size ≤ w1.heap.size := hb1.size
  have hs3 : w1.heap.size + 1 ≤ w3.heap.size := by have := hg3.size; simpa using this
  have hgne : g ≠ p + 1 ∧ g ≠ p + 2 ∧ g ≠ p + 3 := by
    rcases hg4 with h | h
    · exact hne g h
    · simp at h; omega
  have hG : W.grownBy w3 v.ownBlock := ⟨hg3.os.trans hb1.os, hg3.tape.trans hb1.tape, hg3.output.trans hb1.output, by omega, fun k hk hkn =>
    (hg3.block k (by simp; omega) hkn).trans ((Below.heap_alloc _ _ _ (by omega)).trans (hb1.block k hk))⟩
  have hR3 : Boxed w3 (p + 1) 33 v := hR.kept hG (fun e => (hne _ e.symm).1 rfl)
  have hK : KeepsOthers W w3 := KeepsOthers.of_grownBy hG (fun j o' ej hj => by
    rcases hS.2 with ⟨rfl, _⟩ | ⟨g', cap', cur, rfl, _, hh, _⟩
    · simp [Value.ownBlock] at ej
    · simp [Value.ownBlock] at ej
      subst ej
      rw [hh] at hj; cases hj; rfl)
  have hBel : Below p V w3 := hB.grown hG (by omega) hS.owned
  have k1 : w3.heap[p + 1 + 1]? = W.heap[p + 1 + 1]? := hG.block _ (by omega) (fun e => (hne _ e.symm).2.1 (by omega))
  have k2 : w3.heap[p + 1 + 1 + 1]? = W.heap[p + 1 + 1 + 1]? := hG.block _ (by omega) (fun e => (hne _ e.symm).2.2 (by omega))
  refine ⟨hR3, hK.trans (KeepsOthers.setCell _ _ _), ⟨(Below.heap_setCell _ _ _ _ (by simp)).trans k1, (Below.heap_setCell _ _ _ _ (by simp; omega)).trans k2⟩, ⟨by simp; omega, _, hR3.set _, ?_, ?_⟩, hBel.setCell (p := ⟨p + 1, 0, none⟩) (by simp) _⟩
  · exact World.ownsRow.kept hS3 (grownBy_setCell' w3 (p + 1) _) (by right; simp [Value.ownBlock]; omega)
  · intro g' hg'
    simp [Value.ownBlock] at hg'
    subst hg'
    exact hgne

theorem wpListIn_append_one {F : Fence} {n : Nat} {w : World} {ops : Array Oper} {rest : List Oper} {o : Oper} {a : Act} {Q : Exit → Act → World → Prop} (hgd : o.guard = none) (s x : Operand)
    (ho : o.op = .call { callee := .builtin .append, args := #[s, x], argTypes := #[33, 33] })
    (base : Nat) (v : Value) (l : List (List UInt8)) (hs : a.eval s = v) (hown : Strs w base v l) (y : List UInt8) (B c : Nat) (t : TypeId) (fr : Nat × Nat)
    (hx : a.eval x = .slice (some ⟨B, 0, none⟩) 1 c) (hblk : w.heap[B]? = some (.cells #[sv y] t fr)) (hlen : l.length + 1 ≤ 16777216) (hbase : base ≤ w.heap.size)
    (h : ∀ g cap w', Strs w' base (.slice (some ⟨g, 0, none⟩) (l.length + 1) cap) (l ++ [y]) → w.grownBy w' v.ownBlock → (v.ownBlock = some g ∨ g = w.heap.size) → wpListIn F n Try.prog ops Q rest (a.put o.dst (.slice (some ⟨g, 0, none⟩) (l.length + 1) cap)) w') :
    wpListIn F n Try.prog ops Q (o :: rest) a w := by
  refine wpListIn_plain hgd fun K hK' => ?_
  obtain ⟨g, cap, w', hr, h2, h3, h4⟩ := run_append_strs w o.type base v l hown y B c t fr hblk hlen hbase
  refine ⟨?_, ?_⟩
  · intro f hf
    simp [Oper.about, ho, resolve, Target.leads, go_sem] at hf
  · rw [Oper.semAt_eq _ _ _ (by intro c hc; rw [ho] at hc; cases hc)]
    unfold execOp
    simp only [ho, resolve, invoke, builtin, Sem.run_bind, Sem.run_pure, Result.andThen_ok, List.map_toArray, List.map_cons, List.map_nil, hs, hx, hr]
    exact hK' _ _ (h g cap w' h2 h3 h4)
end Go.Proofs.Ytldfkdkppgammaa
