/-
  append onto a row of the call's own, and where the row lies then.
-/
import Derived.Test.YtongpnknmgbhjaaApp
import Derived.Test.YtongpnknmgbhjaaGrw
namespace Go.Proofs.Ytongpnknmgbhjaa
open Go.RowKit

theorem run_append_texts2 (w : World) (ty : TypeId) (base : Nat) (v : Value) (l : List (List UInt8)) (hown : Strs w base v l) (x : Value) (ls : List (List UInt8)) (hr : RdS w x ls) (hlen : l.length + ls.length ≤ 16777216) (hbase : base ≤ w.heap.size) :
    ∃ v' w', (Builtin.append_ #[25, 25] ty #[v, x]).run Try.prog w = .ok v' w' ∧ Strs w' base v' (l ++ ls) ∧ w.grownBy w' v.ownBlock ∧ (v'.ownBlock = v.ownBlock ∨ v'.ownBlock = some w.heap.size) := by
  obtain ⟨i0, hi, hz0, hz1, hz2⟩ := info_parts strinfo
  obtain ⟨A, cap, rfl, hc⟩ := hr
  have fin : ∀ (a : Addr), (∀ j u, (ls.map sv)[j]? = some u → w.cell? (a.add j) = some u) → ∃ v' w', (Builtin.append_ #[25, 25] ty #[v, .slice (some a) ls.length cap]).run Try.prog w = .ok v' w' ∧ Strs w' base v' (l ++ ls) ∧ w.grownBy w' v.ownBlock ∧ (v'.ownBlock = v.ownBlock ∨ v'.ownBlock = some w.heap.size) := fun a hn => by
    obtain ⟨v', w', h1, h2, h3, _, h5⟩ := run_append_own_at (P := Try.prog) w base 25 ty 9 i0 (.string ⟨#[]⟩) 1 16 Try.underlying25 hi hz0 hz1 hz2 rfl (by decide) v l.length (l.map sv) hown
      a ls.length cap (ls.map sv) (by simp) hn (by intro u hu; simp at hu; obtain ⟨_, _, rfl⟩ := hu; rfl) (by unfold maxLen; omega) (by omega) hbase
    refine ⟨v', w', h1, ?_, h3, h5⟩
    unfold Strs
    rw [List.length_append, List.map_append]
    exact h2
  by_cases h0 : ls = []
  · subst h0
    cases A with
    | none => exact ⟨v, w, run_append_none w ty base v l hown cap, by simpa using hown, World.grownBy.refl w _, .inl rfl⟩
    | some a => exact fin a (fun j u h => by simp at h)
  · obtain ⟨g, off, rfl, _, hk⟩ := hc (by cases ls <;> simp_all)
    refine fin _ (fun j u h => ?_)
    rw [List.getElem?_map] at h
    cases hj : ls[j]? with
    | none => rw [hj] at h; simp at h
    | some y =>
      rw [hj] at h
      simp at h
      subst h
      obtain ⟨hl, rfl⟩ := List.getElem?_eq_some_iff.1 hj
      rw [Go.WideShapes.add_plain]
      exact hk j hl
/-- append(out, texts...) at a plain region's list, and where it lies. -/
theorem wpList_append_texts2 {w : World} {ops : Array Oper} {rest : List Oper} {o : Oper} {a : Act} {Q : Exit → Act → World → Prop} (hgd : o.guard = none) (s x : Operand)
    (ho : o.op = .call { callee := .builtin .append, args := #[s, x], argTypes := #[25, 25] })
    (base : Nat) (v : Value) (l : List (List UInt8)) (hs : a.eval s = v) (hown : Strs w base v l) (y : Value) (ls : List (List UInt8)) (hx : a.eval x = y) (hr : RdS w y ls)
    (hlen : l.length + ls.length ≤ 16777216) (hbase : base ≤ w.heap.size)
    (h : ∀ v' w', Strs w' base v' (l ++ ls) → w.grownBy w' v.ownBlock → (v'.ownBlock = v.ownBlock ∨ v'.ownBlock = some w.heap.size) → wpList Try.prog ops Q rest (a.put o.dst v') w') : wpList Try.prog ops Q (o :: rest) a w := by
  refine wpList_plain hgd fun _ hK => ?_
  obtain ⟨v', w', hr, h2, h3, h4⟩ := run_append_texts2 w o.type base v l hown y ls hr hlen hbase
  unfold Oper.wp execOp
  simp only [ho, resolve, invoke, builtin, Sem.run_bind, Sem.run_pure, Result.andThen_ok, List.map_toArray, List.map_cons, List.map_nil, hs, hx, hr]
  exact hK _ _ (h v' w' h2 h3 h4)
/-- append(out, text) at a plain region's list, and where it lies. -/
theorem wpList_append_strs2 {w : World} {ops : Array Oper} {rest : List Oper} {o : Oper} {a : Act} {Q : Exit → Act → World → Prop} (hgd : o.guard = none) (s x : Operand)
    (ho : o.op = .call { callee := .builtin .append, args := #[s, x], argTypes := #[25, 25] })
    (base : Nat) (v : Value) (l : List (List UInt8)) (hs : a.eval s = v) (hown : Strs w base v l) (y : List UInt8) (B c : Nat) (t : TypeId) (fr : Nat × Nat)
    (hx : a.eval x = .slice (some ⟨B, 0, none⟩) 1 c) (hblk : w.heap[B]? = some (.cells #[sv y] t fr)) (hlen : l.length + 1 ≤ 16777216) (hbase : base ≤ w.heap.size)
    (h : ∀ g cap w', Strs w' base (.slice (some ⟨g, 0, none⟩) (l.length + 1) cap) (l ++ [y]) → w.grownBy w' v.ownBlock → (v.ownBlock = some g ∨ g = w.heap.size) → wpList Try.prog ops Q rest (a.put o.dst (.slice (some ⟨g, 0, none⟩) (l.length + 1) cap)) w') : wpList Try.prog ops Q (o :: rest) a w := by
  refine wpList_plain hgd fun _ hK => ?_
  obtain ⟨g, cap, w', hr, h2, h3, h4⟩ := run_append_strs w o.type base v l hown y B c t fr hblk hlen hbase
  unfold Oper.wp execOp
  simp only [ho, resolve, invoke, builtin, Sem.run_bind, Sem.run_pure, Result.andThen_ok, List.map_toArray, List.map_cons, List.map_nil, hs, hx, hr]
  exact hK _ _ (h g cap w' h2 h3 h4)

end Go.Proofs.Ytongpnknmgbhjaa
