/-
  What reads as a tree, and in which blocks.
-/
import Derived.Test.YthlbpklllphhcaaTrO
namespace Go.Proofs.Ythlbpklllphhcaa
open Go.RowKit

/-- The value v reads as these texts, in blocks that P holds of. -/
def RdSIn (w : World) (P : Nat → Prop) (v : Value) (ls : List (List UInt8)) : Prop := ∃ A cap, v = .slice A ls.length cap ∧ (0 < ls.length → ∃ g off, A = some ⟨g, off, none⟩ ∧ g < w.heap.size ∧ P g ∧ ∀ k (h : k < ls.length), w.cell? ⟨g, off + k, none⟩ = some (sv ls[k]))
/-- The value v reads as these trees, in blocks that P holds of. -/
def TsIn : Nat → World → (Nat → Prop) → Value → List Tr → Prop
  | 0, _, _, v, ts => ts = [] ∧ ∃ A c, v = .slice A 0 c
  | d + 1, w, P, v, ts => ∃ A c, v = .slice A ts.length c ∧ ts.length ≤ maxLen ∧ (0 < ts.length → ∃ g off, A = some ⟨g, off, none⟩ ∧ g < w.heap.size ∧ P g ∧ ∀ k (h : k < ts.length), ∃ b kv, w.cell? ⟨g, off + k * 5, none⟩ = some (.int .i64 ts[k].kind) ∧ w.cell? ⟨g, off + k * 5 + 1, none⟩ = some (.int .i64 ts[k].n) ∧ w.cell? ⟨g, off + k * 5 + 2, none⟩ = some (.string ⟨ts[k].s.toArray⟩) ∧ w.cell? ⟨g, off + k * 5 + 3, none⟩ = some b ∧ w.cell? ⟨g, off + k * 5 + 4, none⟩ = some kv ∧ NdFits ts[k] ∧ RdSIn w P b ts[k].keys ∧ TsIn d w P kv ts[k].kids)
theorem cell_heap {w w' : World} {g o : Nat} {v : Value} (h : w.cell? ⟨g, o, none⟩ = some v) (e : w'.heap[g]? = w.heap[g]?) : w'.cell? ⟨g, o, none⟩ = some v := by
  unfold World.cell? at h ⊢
  simpa [e] using h
theorem RdSIn.rd {w : World} {P : Nat → Prop} {v : Value} {ls : List (List UInt8)} (h : RdSIn w P v ls) : RdS w v ls := by
  obtain ⟨A, c, hv, hc⟩ := h
  refine ⟨A, c, hv, fun h0 => ?_⟩
  obtain ⟨g, off, hA, hg, _, hk⟩ := hc h0
  exact ⟨g, off, hA, hg, hk⟩
theorem RdSIn.go {w w' : World} {P Q : Nat → Prop} {v : Value} {ls : List (List UInt8)} (h : RdSIn w P v ls) (hs : w.heap.size ≤ w'.heap.size) (hq : ∀ b, b < w.heap.size → P b → w'.heap[b]? = w.heap[b]? ∧ Q b) : RdSIn w' Q v ls := by
  obtain ⟨A, c, hv, hc⟩ := h
  refine ⟨A, c, hv, fun h0 => ?_⟩
  obtain ⟨g, off, hA, hg, hp, hk⟩ := hc h0
  obtain ⟨e, q⟩ := hq g hg hp
  exact ⟨g, off, hA, Nat.lt_of_lt_of_le hg hs, q, fun k h => cell_heap (hk k h) e⟩
theorem RdSIn.of_strs {w : World} {base : Nat} {v : Value} {ls : List (List UInt8)} (h : Strs w base v ls) : RdSIn w (fun b => base ≤ b ∧ v.ownBlock = some b) v ls := by
  rcases h.form with ⟨rfl, rfl⟩ | ⟨g, cap, rfl, hg, hl⟩
  · exact ⟨none, 0, rfl, fun h => absurd h (by simp)⟩
  · exact ⟨some ⟨g, 0, none⟩, cap, rfl, fun _ => ⟨g, 0, rfl, hl, ⟨hg, rfl⟩, fun k hk => by rw [Nat.zero_add]; exact h.cell k hk⟩⟩
theorem TsIn.slice {d : Nat} {w : World} {P : Nat → Prop} {v : Value} {ts : List Tr} (h : TsIn d w P v ts) : ∃ A c, v = .slice A ts.length c := by
  cases d with
  | zero => obtain ⟨rfl, A, c, rfl⟩ := h; exact ⟨A, c, rfl⟩
  | succ d => obtain ⟨A, c, rfl, _⟩ := h; exact ⟨A, c, rfl⟩
theorem TsIn.rd : ∀ {d : Nat} {w : World} {P : Nat → Prop} {v : Value} {ts : List Tr}, TsIn d w P v ts → RdTs d w v ts
  | 0, _, _, _, _, h => h
  | d + 1, _, _, _, _, h => by
    obtain ⟨A, c, hv, hl, hc⟩ := h
    refine ⟨A, c, hv, hl, fun h0 => ?_⟩
    obtain ⟨g, off, hA, hg, _, hk⟩ := hc h0
    refine ⟨g, off, hA, hg, fun k h => ?_⟩
    obtain ⟨b, kv, e0, e1, e2, e3, e4, hf, rb, rk⟩ := hk k h
    exact ⟨b, kv, e0, e1, e2, e3, e4, hf, rb.rd, TsIn.rd rk⟩
theorem TsIn.go : ∀ {d : Nat} {w w' : World} {P Q : Nat → Prop} {v : Value} {ts : List Tr}, TsIn d w P v ts → w.heap.size ≤ w'.heap.size → (∀ b, b < w.heap.size → P b → w'.heap[b]? = w.heap[b]? ∧ Q b) → TsIn d w' Q v ts
  | 0, _, _, _, _, _, _, h, _, _ => h
  | d + 1, _, _, _, _, _, _, h, hs, hq => by
    obtain ⟨A, c, hv, hl, hc⟩ := h
    refine ⟨A, c, hv, hl, fun h0 => ?_⟩
    obtain ⟨g, off, hA, hg, hp, hk⟩ := hc h0
    obtain ⟨e, q⟩ := hq g hg hp
    refine ⟨g, off, hA, Nat.lt_of_lt_of_le hg hs, q, fun k h => ?_⟩
    obtain ⟨b, kv, e0, e1, e2, e3, e4, hf, rb, rk⟩ := hk k h
    exact ⟨b, kv, cell_heap e0 e, cell_heap e1 e, cell_heap e2 e, cell_heap e3 e, cell_heap e4 e, hf, rb.go hs hq, TsIn.go rk hs hq⟩
theorem TsIn.nil (d : Nat) (w : World) (P : Nat → Prop) : TsIn d w P (.slice none 0 0) [] := by
  cases d with
  | zero => exact ⟨rfl, none, 0, rfl⟩
  | succ d => exact ⟨none, 0, rfl, by simp, fun h => absurd h (by simp)⟩
/-- A row of trees whose lists read, in other blocks than its own. -/
def TsRow (d : Nat) (w : World) (base : Nat) (v : Value) (ts : List Tr) : Prop := ∃ qs : List TrV, qs.map (·.1) = ts ∧ Trees w base v qs ∧ ∀ q ∈ qs, NdFits q.1 ∧ RdSIn w (fun b => base ≤ b ∧ v.ownBlock ≠ some b) q.2.1 q.1.keys ∧ TsIn d w (fun b => base ≤ b ∧ v.ownBlock ≠ some b) q.2.2 q.1.kids
theorem Trees.form {w : World} {base : Nat} {v : Value} {l : List TrV} (h : Trees w base v l) : (v = .slice none 0 0 ∧ l = []) ∨ ∃ g cap, v = .slice (some ⟨g, 0, none⟩) l.length cap ∧ base ≤ g ∧ g < w.heap.size := by
  rcases h.2 with ⟨hv, hl⟩ | ⟨g, cap, cur, hv, hb, hh, _⟩
  · left; exact ⟨hv, by simpa using hl⟩
  · right; exact ⟨g, cap, hv, hb, lt_of_heap hh⟩
theorem TsRow.nil (d : Nat) (w : World) (base : Nat) : TsRow d w base (.slice none 0 0) [] := ⟨[], rfl, ⟨by simp [flatT], .inl ⟨rfl, rfl⟩⟩, fun q h => by cases h⟩
theorem TsRow.inn {d : Nat} {w : World} {base : Nat} {v : Value} {ts : List Tr} (h : TsRow d w base v ts) (hl : ts.length ≤ maxLen) : TsIn (d + 1) w (fun b => base ≤ b) v ts := by
  obtain ⟨qs, rfl, h4, h5⟩ := h
  rcases h4.form with ⟨rfl, rfl⟩ | ⟨g, cap, rfl, hg, hlt⟩
  · exact TsIn.nil _ _ _
  · refine ⟨some ⟨g, 0, none⟩, cap, by simp, hl, fun _ => ⟨g, 0, rfl, hlt, hg, fun k hk => ?_⟩⟩
    simp at hk
    obtain ⟨c0, c1, c2, c3, c4⟩ := h4.cell k hk
    have ho := h5 qs[k] (List.getElem_mem hk)
    rw [Nat.zero_add]
    simp only [List.getElem_map]
    exact ⟨qs[k].2.1, qs[k].2.2, c0, c1, c2, c3, c4, ho.1, ho.2.1.go (Nat.le_refl _) (fun b _ hp => ⟨rfl, hp.1⟩), ho.2.2.go (Nat.le_refl _) (fun b _ hp => ⟨rfl, hp.1⟩)⟩

theorem flatT_app (l : List TrV) (x : TrV) : flatT (l ++ [x]) = flatT l ++ [.int .i64 x.1.kind, .int .i64 x.1.n, .string ⟨x.1.s.toArray⟩, x.2.1, x.2.2] := by
  induction l with
  | nil => rfl
  | cons a t ih => simp only [List.cons_append, flatT, ih]
set_option maxRecDepth 100000 in
theorem run_append_trees (w : World) (ty : TypeId) (base : Nat) (v : Value) (l : List TrV) (hown : Trees w base v l) (x : TrV) (h1 : x.2.1.oneCell' = true) (h2 : x.2.2.oneCell' = true) (B c : Nat) (t : TypeId) (fr : Nat × Nat)
    (hblk : w.heap[B]? = some (.cells #[.int .i64 x.1.kind, .int .i64 x.1.n, .string ⟨x.1.s.toArray⟩, x.2.1, x.2.2] t fr)) (hlen : l.length + 1 ≤ 16777216) (hbase : base ≤ w.heap.size) :
    ∃ g cap w', (Builtin.append_ #[28, 28] ty #[v, .slice (some ⟨B, 0, none⟩) 1 c]).run Try.prog w = .ok (.slice (some ⟨g, 0, none⟩) (l.length + 1) cap) w' ∧ Trees w' base (.slice (some ⟨g, 0, none⟩) (l.length + 1) cap) (l ++ [x]) ∧ w.grownBy w' v.ownBlock ∧ (v.ownBlock = some g ∨ g = w.heap.size) := by
  obtain ⟨i0, hi, hz0, hz1, hz2⟩ := info_parts trinfo
  obtain ⟨g, cap, w', hr, h2, h3, h4, _⟩ := run_append_lies (P := Try.prog) w 28 ty base 30 i0 (.agg #[.int .i64 0, .int .i64 0, .string ⟨#[]⟩, .slice none 0 0, .slice none 0 0]) 5 80 Try.underlying28 hi hz0 hz1 hz2 rfl (by decide) v l.length (flatT l) hown
    ⟨B, 0, none⟩ 1 c [.int .i64 x.1.kind, .int .i64 x.1.n, .string ⟨x.1.s.toArray⟩, x.2.1, x.2.2] (by simp) (World.news_of_block hblk) (by intro u hu; simp at hu; rcases hu with rfl | rfl | rfl | rfl | rfl <;> first | rfl | assumption) (by omega) (by unfold maxLen; omega) (by omega) hbase _ rfl
  refine ⟨g, cap, w', hr, ?_, h3, h4⟩
  unfold Trees
  rw [List.length_append, flatT_app]
  exact h2
theorem step_append_tree {w : World} {ops : Array Oper} {o : Oper} {a : Act} {K : Act → World → Prop} {Q : Exit → Act → World → Prop} {E : Prop} (hgd : o.guard = none) (s x : Operand)
    (ho : o.op = .call { callee := .builtin .append, args := #[s, x], argTypes := #[28, 28] })
    (base : Nat) (v : Value) (l : List TrV) (hs : a.eval s = v) (hown : Trees w base v l) (y : TrV) (h1 : y.2.1.oneCell' = true) (h2 : y.2.2.oneCell' = true) (B c : Nat) (t : TypeId) (fr : Nat × Nat)
    (hx : a.eval x = .slice (some ⟨B, 0, none⟩) 1 c) (hblk : w.heap[B]? = some (.cells #[.int .i64 y.1.kind, .int .i64 y.1.n, .string ⟨y.1.s.toArray⟩, y.2.1, y.2.2] t fr)) (hlen : l.length + 1 ≤ 16777216) (hbase : base ≤ w.heap.size)
    (h : ∀ g cap w', Trees w' base (.slice (some ⟨g, 0, none⟩) (l.length + 1) cap) (l ++ [y]) → w.grownBy w' v.ownBlock → (v.ownBlock = some g ∨ g = w.heap.size) → K (a.put o.dst (.slice (some ⟨g, 0, none⟩) (l.length + 1) cap)) w') :
    if Region.wanted o (yielded ops a.tmps) = true then Oper.wp Try.prog o a w K Q else E := by
  have hw : Region.wanted o (yielded ops a.tmps) = true := by simp [Region.wanted, hgd]
  rw [if_pos hw]
  obtain ⟨g, cap, w', hr, h3, h4, h5⟩ := run_append_trees w o.type base v l hown y h1 h2 B c t fr hblk hlen hbase
  unfold Oper.wp execOp
  simp only [ho, resolve, invoke, builtin, Sem.run_bind, Sem.run_pure, Result.andThen_ok, List.map_toArray, List.map_cons, List.map_nil, hs, hx, hr]
  exact h g cap w' h3 h4 h5
end Go.Proofs.Ythlbpklllphhcaa
