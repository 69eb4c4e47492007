/-
  A step that appends texts in a region that draws its order; what spec.l06Copy hands back.
-/
import Derived.Test.YthlbpklllphhcaaTrN
import Derived.Test.YthlbpklllphhcaaTrL
import Derived.Test.YthlbpklllphhcaaIxT
import Derived.Test.YthlbpklllphhcaaApp
namespace Go.Proofs.Ythlbpklllphhcaa
open Go.RowKit

theorem step_append_textsT {w : World} {ops : Array Oper} {o : Oper} {a : Act} {K : Act → World → Prop} {Q : Exit → Act → World → Prop} {E : Prop} (hgd : o.guard = none) (s x : Operand)
    (ho : o.op = .call { callee := .builtin .append, args := #[s, x], argTypes := #[22, 22] })
    (base : Nat) (v : Value) (l : List (List UInt8)) (hs : a.eval s = v) (hown : Strs w base v l) (y : Value) (ls : List (List UInt8)) (hx : a.eval x = y) (hr : RdS w y ls)
    (hlen : l.length + ls.length ≤ 16777216) (hbase : base ≤ w.heap.size)
    (h : ∀ v' w', Strs w' base v' (l ++ ls) → w.grownBy w' v.ownBlock → K (a.put o.dst v') w') :
    if Region.wanted o (yielded ops a.tmps) = true then Oper.wp Try.prog o a w K Q else E := by
  have hw : Region.wanted o (yielded ops a.tmps) = true := by simp [Region.wanted, hgd]
  rw [if_pos hw]
  obtain ⟨v', w', hr, h2, h3⟩ := run_append_texts w o.type base v l hown y ls hr hlen hbase
  unfold Oper.wp execOp
  simp only [ho, resolve, invoke, builtin, Sem.run_bind, Sem.run_pure, Result.andThen_ok, List.map_toArray, List.map_cons, List.map_nil, hs, hx, hr]
  exact h v' w' h2 h3

theorem cell_far5 {V : World} {g B : Nat} (hq : B ≠ g) (o : Nat) (y0 y1 y2 y3 y4 : Value) : (((((V.setCell ⟨g, 0, none⟩ y0).setCell ⟨g, 1, none⟩ y1).setCell ⟨g, 2, none⟩ y2).setCell ⟨g, 3, none⟩ y3).setCell ⟨g, 4, none⟩ y4).cell? ⟨B, o, none⟩ = V.cell? ⟨B, o, none⟩ := by
  have e : (((((V.setCell ⟨g, 0, none⟩ y0).setCell ⟨g, 1, none⟩ y1).setCell ⟨g, 2, none⟩ y2).setCell ⟨g, 3, none⟩ y3).setCell ⟨g, 4, none⟩ y4).heap[B]? = V.heap[B]? :=
    (heap_setCell_other _ ⟨g, 4, none⟩ B y4 hq).trans ((heap_setCell_other _ ⟨g, 3, none⟩ B y3 hq).trans ((heap_setCell_other _ ⟨g, 2, none⟩ B y2 hq).trans ((heap_setCell_other _ ⟨g, 1, none⟩ B y1 hq).trans (heap_setCell_other _ ⟨g, 0, none⟩ B y0 hq))))
  unfold World.cell?
  simp only [e]
/-- What l06Copy hands back. -/
def CpIs (d : Nat) (w : World) (t : Tr) (e : Ending) (w' : World) : Prop := ∃ b kv, e = .returned (trV t b kv) ∧ RdSIn w' (fun x => w.heap.size ≤ x) b t.keys ∧ TsIn d w' (fun x => w.heap.size ≤ x) kv t.kids ∧ Below w.heap.size w w'
end Go.Proofs.Ythlbpklllphhcaa
