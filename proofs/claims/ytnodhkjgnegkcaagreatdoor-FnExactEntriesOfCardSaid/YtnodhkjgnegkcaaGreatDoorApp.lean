/-
  append(out, texts...) onto a row of the call's own; slices.Clone at []string.
-/
import Derived.Test.YtnodhkjgnegkcaaGreatDoorLawB
import Derived.Lib.SliceRun
namespace Go.Proofs.YtnodhkjgnegkcaaGreatDoor
open Go.RowKit

theorem run_append_none (w : World) (ty : TypeId) (base : Nat) (v : Value) (l : List (List UInt8)) (hown : Strs w base v l) (c : Nat) :
    (Builtin.append_ #[29, 29] ty #[v, .slice none 0 c]).run Tryz.prog w = .ok v w := by
  obtain ⟨i0, hi, _, _, _⟩ := info_parts strinfo
  have ht := Tryz.underlying29
  rcases hown.2 with ⟨rfl, h0⟩ | ⟨g, cap, cur, rfl, _, _, hnc, _⟩
  · simp [Builtin.append_, run_underlying ht, sizeOf, typeInfo, hi, Builtin.lenOf, Builtin.firstCells]
  · simp [Builtin.append_, run_underlying ht, sizeOf, typeInfo, hi, Builtin.lenOf, Builtin.firstCells, hnc, storeCells]

theorem run_append_texts (w : World) (ty : TypeId) (base : Nat) (v : Value) (l : List (List UInt8)) (hown : Strs w base v l) (x : Value) (ls : List (List UInt8)) (hr : RdS w x ls) (hlen : l.length + ls.length ≤ 16777216) (hbase : base ≤ w.heap.size) :
    ∃ v' w', (Builtin.append_ #[29, 29] ty #[v, x]).run Tryz.prog w = .ok v' w' ∧ Strs w' base v' (l ++ ls) ∧ w.grownBy w' v.ownBlock := by
  obtain ⟨i0, hi, hz0, hz1, hz2⟩ := info_parts strinfo
  obtain ⟨A, cap, rfl, hc⟩ := hr
  have fin : ∀ (a : Addr), (∀ j u, (ls.map sv)[j]? = some u → w.cell? (a.add j) = some u) → ∃ v' w', (Builtin.append_ #[29, 29] ty #[v, .slice (some a) ls.length cap]).run Tryz.prog w = .ok v' w' ∧ Strs w' base v' (l ++ ls) ∧ w.grownBy w' v.ownBlock := fun a hn => by
    obtain ⟨v', w', h1, h2, h3, _, _⟩ := run_append_own_at (P := Tryz.prog) w base 29 ty 9 i0 (.string ⟨#[]⟩) 1 16 Tryz.underlying29 hi hz0 hz1 hz2 rfl (by decide) v l.length (l.map sv) hown
      a ls.length cap (ls.map sv) (by simp) hn (by intro u hu; simp at hu; obtain ⟨_, _, rfl⟩ := hu; rfl) (by unfold maxLen; omega) (by omega) hbase
    refine ⟨v', w', h1, ?_, h3⟩
    unfold Strs
    rw [List.length_append, List.map_append]
    exact h2
  by_cases h0 : ls = []
  · subst h0
    cases A with
    | none => exact ⟨v, w, run_append_none w ty base v l hown cap, by simpa using hown, World.grownBy.refl w _⟩
    | some a => exact fin a (fun j u h => by simp at h)
  · obtain ⟨g, off, rfl, _, hk⟩ := hc (by cases ls <;> simp_all)
    refine fin _ (fun j u h => ?_)
    rw [List.getElem?_map] at h
    cases hj : ls[j]? with
    | none => rw [hj] at h; simp at h
    | some y =>
      rw [hj] at h
      simp at h
      subst h
      obtain ⟨hl, rfl⟩ := List.getElem?_eq_some_iff.1 hj
      rw [Go.WideShapes.add_plain]
      exact hk j hl

/-- append(out, texts...) at a plain region's list. -/
theorem wpList_append_texts {w : World} {ops : Array Oper} {rest : List Oper} {o : Oper} {a : Act} {Q : Exit → Act → World → Prop} (hgd : o.guard = none) (s x : Operand)
    (ho : o.op = .call { callee := .builtin .append, args := #[s, x], argTypes := #[29, 29] })
    (base : Nat) (v : Value) (l : List (List UInt8)) (hs : a.eval s = v) (hown : Strs w base v l) (y : Value) (ls : List (List UInt8)) (hx : a.eval x = y) (hr : RdS w y ls)
    (hlen : l.length + ls.length ≤ 16777216) (hbase : base ≤ w.heap.size)
    (h : ∀ v' w', Strs w' base v' (l ++ ls) → w.grownBy w' v.ownBlock → wpList Tryz.prog ops Q rest (a.put o.dst v') w') : wpList Tryz.prog ops Q (o :: rest) a w := by
  refine wpList_plain hgd fun _ hK => ?_
  obtain ⟨v', w', hr, h2, h3⟩ := run_append_texts w o.type base v l hown y ls hr hlen hbase
  unfold Oper.wp execOp
  simp only [ho, resolve, invoke, builtin, Sem.run_bind, Sem.run_pure, Result.andThen_ok, List.map_toArray, List.map_cons, List.map_nil, hs, hx, hr]
  exact hK _ _ (h v' w' h2 h3)

end Go.Proofs.YtnodhkjgnegkcaaGreatDoor
