/-
  Rows of fields of the call's own that grow: append of a field, and what hangs on them.
-/
import Derived.Test.YtongpnknmgbhjaaFdO
import Derived.Test.YtongpnknmgbhjaaAppG
namespace Go.Proofs.Ytongpnknmgbhjaa
open Go.RowKit

theorem Fields.form {w : World} {base : Nat} {v : Value} {l : List FdV} (h : Fields w base v l) : (v = .slice none 0 0 ∧ l = []) ∨ ∃ g cap, v = .slice (some ⟨g, 0, none⟩) l.length cap ∧ base ≤ g ∧ g < w.heap.size := by
  rcases h.2 with ⟨hv, hl⟩ | ⟨g, cap, cur, hv, hb, hh, _⟩
  · left; exact ⟨hv, by simpa using hl⟩
  · right; exact ⟨g, cap, hv, hb, lt_of_heap hh⟩
theorem Fields.nilV (w : World) (base : Nat) : Fields w base (.slice none 0 0) [] := ⟨by simp [flatF], .inl ⟨rfl, rfl⟩⟩
theorem Fields.grown {w w' : World} {base : Nat} {v : Value} {l : List FdV} {row : Option Nat} (h : Fields w base v l) (hg : w.grownBy w' row) (hne : ∀ g, v.ownBlock = some g → some g ≠ row) : Fields w' base v l := by
  rcases h.form with ⟨rfl, rfl⟩ | ⟨g, cap, rfl, _, _⟩
  · exact Fields.nilV _ _
  · exact World.ownsRow.kept h hg (.inr (fun e => hne g rfl (by rw [← e]; rfl)))
theorem Fields.belowV {w w' : World} {base : Nat} {v : Value} {l : List FdV} (h : Fields w base v l) (hb : Below w.heap.size w w') : Fields w' base v l :=
  h.grown (row := none) (gr_below hb) (fun g _ => by simp)
theorem Fields.setFar {w : World} {base : Nat} {v : Value} {l : List FdV} (h : Fields w base v l) (b o : Nat) (x : Value) (hne : ∀ g, v.ownBlock = some g → g ≠ b) : Fields (w.setCell ⟨b, o, none⟩ x) base v l :=
  h.grown (gr_set w b o x) (fun g hg => by have := hne g hg; simpa using this)
theorem Fields.owned {w : World} {base : Nat} {v : Value} {l : List FdV} (h : Fields w base v l) : ∀ g, v.ownBlock = some g → base ≤ g := by
  intro g hg
  rcases h.form with ⟨rfl, rfl⟩ | ⟨g', cap, rfl, hb, _⟩
  · cases hg
  · cases hg; exact hb
theorem Fields.sliceV {w : World} {base : Nat} {v : Value} {l : List FdV} (h : Fields w base v l) : ∃ K c, v = .slice K l.length c := by
  rcases h.form with ⟨rfl, rfl⟩ | ⟨g, cap, rfl, _, _⟩
  · exact ⟨none, 0, rfl⟩
  · exact ⟨_, _, rfl⟩
theorem fdV_one (w : World) (lo : Nat) (u : Value) (ls : List (List UInt8)) (h : Strs w lo u ls) : u.oneCell' = true := by
  obtain ⟨A, c, rfl⟩ := h.slice
  rfl

set_option maxRecDepth 100000 in
theorem run_append_fields (w : World) (ty : TypeId) (base : Nat) (v : Value) (l : List FdV) (hown : Fields w base v l) (x : FdV) (h1 : x.2.oneCell' = true) (B c : Nat) (t : TypeId) (fr : Nat × Nat)
    (hblk : w.heap[B]? = some (.cells #[.string ⟨x.1.key.toArray⟩, .string ⟨x.1.text.toArray⟩, x.2, .bool x.1.isl] t fr)) (hlen : l.length + 1 ≤ 16777216) (hbase : base ≤ w.heap.size) :
    ∃ g cap w', (Builtin.append_ #[30, 30] ty #[v, .slice (some ⟨B, 0, none⟩) 1 c]).run Try.prog w = .ok (.slice (some ⟨g, 0, none⟩) (l.length + 1) cap) w' ∧ Fields w' base (.slice (some ⟨g, 0, none⟩) (l.length + 1) cap) (l ++ [x]) ∧ w.grownBy w' v.ownBlock ∧ (v.ownBlock = some g ∨ g = w.heap.size) := by
  obtain ⟨i0, hi, hz0, hz1, hz2⟩ := info_parts fdinfo
  obtain ⟨g, cap, w', hr, h2, h3, h4, _⟩ := run_append_lies (P := Try.prog) w 30 ty base 35 i0 (.agg #[.string ⟨#[]⟩, .string ⟨#[]⟩, .slice none 0 0, .bool false]) 4 64 Try.underlying30 hi hz0 hz1 hz2 rfl (by decide) v l.length (flatF l) hown
    ⟨B, 0, none⟩ 1 c [.string ⟨x.1.key.toArray⟩, .string ⟨x.1.text.toArray⟩, x.2, .bool x.1.isl] (by simp) (World.news_of_block hblk) (by intro u hu; simp at hu; rcases hu with rfl | rfl | rfl | rfl <;> first | rfl | assumption) (by omega) (by unfold maxLen; omega) (by omega) hbase _ rfl
  refine ⟨g, cap, w', hr, ?_, h3, h4⟩
  unfold Fields
  rw [List.length_append, flatF_app]
  exact h2
theorem step_append_field {w : World} {ops : Array Oper} {o : Oper} {a : Act} {K : Act → World → Prop} {Q : Exit → Act → World → Prop} {E : Prop} (hgd : o.guard = none) (s x : Operand)
    (ho : o.op = .call { callee := .builtin .append, args := #[s, x], argTypes := #[30, 30] })
    (base : Nat) (v : Value) (l : List FdV) (hs : a.eval s = v) (hown : Fields w base v l) (y : FdV) (h1 : y.2.oneCell' = true) (B c : Nat) (t : TypeId) (fr : Nat × Nat)
    (hx : a.eval x = .slice (some ⟨B, 0, none⟩) 1 c) (hblk : w.heap[B]? = some (.cells #[.string ⟨y.1.key.toArray⟩, .string ⟨y.1.text.toArray⟩, y.2, .bool y.1.isl] t fr)) (hlen : l.length + 1 ≤ 16777216) (hbase : base ≤ w.heap.size)
    (h : ∀ g cap w', Fields w' base (.slice (some ⟨g, 0, none⟩) (l.length + 1) cap) (l ++ [y]) → w.grownBy w' v.ownBlock → (v.ownBlock = some g ∨ g = w.heap.size) → K (a.put o.dst (.slice (some ⟨g, 0, none⟩) (l.length + 1) cap)) w') :
    if Region.wanted o (yielded ops a.tmps) = true then Oper.wp Try.prog o a w K Q else E := by
  have hw : Region.wanted o (yielded ops a.tmps) = true := by simp [Region.wanted, hgd]
  rw [if_pos hw]
  obtain ⟨g, cap, w', hr, h3, h4, h5⟩ := run_append_fields w o.type base v l hown y h1 B c t fr hblk hlen hbase
  unfold Oper.wp execOp
  simp only [ho, resolve, invoke, builtin, Sem.run_bind, Sem.run_pure, Result.andThen_ok, List.map_toArray, List.map_cons, List.map_nil, hs, hx, hr]
  exact h g cap w' h3 h4 h5

/-- A row of fields from base on whose lists lie from base on, in other blocks than its own. -/
def FsRow (w : World) (base : Nat) (v : Value) (fs : List Fd) : Prop := ∃ qs : List FdV, qs.map (·.1) = fs ∧ Fields w base v qs ∧ ∀ q ∈ qs, Strs w base q.2 q.1.list ∧ ∀ g, q.2.ownBlock = some g → v.ownBlock ≠ some g
theorem FsRow.nil (w : World) (base : Nat) : FsRow w base (.slice none 0 0) [] := ⟨[], rfl, Fields.nilV _ _, fun q h => by cases h⟩
theorem FsRow.below {w w' : World} {base : Nat} {v : Value} {fs : List Fd} (h : FsRow w base v fs) (hb : Below w.heap.size w w') : FsRow w' base v fs := by
  obtain ⟨qs, h1, h2, h3⟩ := h
  exact ⟨qs, h1, h2.belowV hb, fun q hq => ⟨(h3 q hq).1.below hb, (h3 q hq).2⟩⟩
theorem FsRow.far {w : World} {base : Nat} {v : Value} {fs : List Fd} (h : FsRow w base v fs) (b o : Nat) (x : Value) (hb : b < base) : FsRow (w.setCell ⟨b, o, none⟩ x) base v fs := by
  obtain ⟨qs, h1, h2, h3⟩ := h
  exact ⟨qs, h1, h2.setFar b o x (fun g hg => by have := h2.owned g hg; omega), fun q hq => ⟨(h3 q hq).1.otherV b o x hb, (h3 q hq).2⟩⟩
theorem FsRow.owned {w : World} {base : Nat} {v : Value} {fs : List Fd} (h : FsRow w base v fs) : ∀ g, v.ownBlock = some g → base ≤ g := by obtain ⟨qs, _, h2, _⟩ := h; exact h2.owned
theorem FsRow.slice {w : World} {base : Nat} {v : Value} {fs : List Fd} (h : FsRow w base v fs) : ∃ K c, v = .slice K fs.length c := by
  obtain ⟨qs, rfl, h2, _⟩ := h; simpa using h2.sliceV
theorem FsRow.rd {w : World} {base : Nat} {v : Value} {fs : List Fd} (h : FsRow w base v fs) : RdFs w v fs := by
  obtain ⟨qs, rfl, h4, h5⟩ := h
  rcases h4.form with ⟨rfl, rfl⟩ | ⟨g, cap, rfl, hg, hlt⟩
  · exact rdFs_nil _
  · refine ⟨some ⟨g, 0, none⟩, cap, by simp, fun _ => ⟨g, 0, rfl, hlt, fun k hk => ?_⟩⟩
    simp at hk
    obtain ⟨c0, c1, c2, c3⟩ := h4.cell k hk
    have ho := (h5 qs[k] (List.getElem_mem hk)).1
    rw [Nat.zero_add]
    simp only [List.getElem_map]
    exact ⟨qs[k].2, c0, c1, c2, c3, RdS.of_strs ho⟩
/-- append(row, f): the row with the field behind. -/
theorem step_append_fd {w : World} {ops : Array Oper} {o : Oper} {a : Act} {K : Act → World → Prop} {Q : Exit → Act → World → Prop} {E : Prop} (hgd : o.guard = none) (s x : Operand)
    (ho : o.op = .call { callee := .builtin .append, args := #[s, x], argTypes := #[30, 30] })
    (base : Nat) (v : Value) (fs : List Fd) (hs : a.eval s = v) (hown : FsRow w base v fs) (f : Fd) (u : Value) (hu : Strs w base u f.list) (hne : ∀ g, u.ownBlock = some g → v.ownBlock ≠ some g) (B c : Nat) (t : TypeId) (fr : Nat × Nat)
    (hx : a.eval x = .slice (some ⟨B, 0, none⟩) 1 c) (hblk : w.heap[B]? = some (.cells #[.string ⟨f.key.toArray⟩, .string ⟨f.text.toArray⟩, u, .bool f.isl] t fr)) (hlen : fs.length + 1 ≤ 16777216) (hbase : base ≤ w.heap.size)
    (h : ∀ g cap w', FsRow w' base (.slice (some ⟨g, 0, none⟩) (fs.length + 1) cap) (fs ++ [f]) → w.grownBy w' v.ownBlock → (v.ownBlock = some g ∨ g = w.heap.size) → K (a.put o.dst (.slice (some ⟨g, 0, none⟩) (fs.length + 1) cap)) w') :
    if Region.wanted o (yielded ops a.tmps) = true then Oper.wp Try.prog o a w K Q else E := by
  obtain ⟨qs, rfl, h4, h5⟩ := hown
  simp only [List.length_map] at hlen h
  refine step_append_field hgd s x ho base v qs hs h4 (f, u) (fdV_one w base u f.list hu) B c t fr hx hblk hlen hbase fun g cap w' k1 k2 k3 => h g cap w' ⟨qs ++ [(f, u)], by simp, k1, ?_⟩ k2 k3
  have lie : ∀ (y : Value) (ls : List (List UInt8)), Strs w base y ls → (∀ g', y.ownBlock = some g' → v.ownBlock ≠ some g') → Strs w' base y ls ∧ ∀ g', y.ownBlock = some g' → (Value.slice (some ⟨g, 0, none⟩) (qs.length + 1) cap).ownBlock ≠ some g' := fun y ls hy hd => by
    refine ⟨hy.grown k2 (fun g' hg e => hd g' hg e.symm), fun g' hg e => ?_⟩
    have eg : g = g' := by simpa [Value.ownBlock] using e
    subst eg
    rcases k3 with k3 | k3
    · exact hd g hg k3
    · rcases hy.form with ⟨rfl, _⟩ | ⟨g2, c2, rfl, _, hl2⟩
      · cases hg
      · have : g2 = g := by simpa [Value.ownBlock] using hg
        omega
  intro q hq
  rcases List.mem_append.1 hq with hq | hq
  · exact lie _ _ (h5 q hq).1 (h5 q hq).2
  · simp at hq; subst hq
    exact lie _ _ hu hne
end Go.Proofs.Ytongpnknmgbhjaa
