/-
  Arguments opened: trees.
-/
import Derived.Test.YthlbpklllphhcaaTrM
import Derived.Test.YthlbpklllphhcaaOpenL
import Derived.Deep.SlicePairs
namespace Go.Proofs.Ythlbpklllphhcaa
open Go.ChangeShapes Go.WideShapes Go.RowKit Go.Deep Go.Joins

theorem RdTs.more : ∀ {d : Nat} {w : World} {v : Value} {ts : List Tr}, RdTs d w v ts → RdTs (d + 1) w v ts
  | 0, _, _, _, h => by
    obtain ⟨rfl, A, c, rfl⟩ := h
    exact ⟨A, c, rfl, by simp, fun h0 => absurd h0 (by simp)⟩
  | d + 1, _, _, _, h => by
    obtain ⟨A, c, hv, hl, hc⟩ := h
    refine ⟨A, c, hv, hl, fun h0 => ?_⟩
    obtain ⟨g, off, hA, hg, hk⟩ := hc h0
    refine ⟨g, off, hA, hg, fun k h => ?_⟩
    obtain ⟨b, kv, e0, e1, e2, e3, e4, hf, rb, rk⟩ := hk k h
    exact ⟨b, kv, e0, e1, e2, e3, e4, hf, rb, RdTs.more rk⟩
theorem listOf5 {α : Type} {cs : List α} (h : cs.length = 5) : ∃ c0 c1 c2 c3 c4, cs = [c0, c1, c2, c3, c4] := by
  match cs, h with
  | [c0, c1, c2, c3, c4], _ => exact ⟨c0, c1, c2, c3, c4, rfl⟩
theorem some_at {α : Type} {xs : List α} {n : Nat} (h : xs.length = n) (i : Nat) (hi : i < n) : ∃ y, xs[i]? = some y := ⟨xs[i]'(by omega), by simp⟩

section
variable {H : Type} {enc : TypeId × Value → H} {W : World} {spare : Nat → Bool} {held : Bool}

/-- What is opened with so much fuel. -/
def OpTs (W : World) (enc : TypeId × Value → H) (spare : Nat → Bool) (held : Bool) (n : Nat) : Prop := ∀ (v : Value) (x : DataW H × List MemPlace), DataW.trod enc Try.prog W 0 spare held n 23 [v] = some x → ∃ ts, RdTs n W v ts
set_option maxRecDepth 100000 in
theorem open_treec {n : Nat} (ih : OpTs W enc spare held n) {cs : List Value} {x : DataW H × List MemPlace} (h : DataW.trod enc Try.prog W 0 spare held (n + 1) 25 cs = some x) :
    ∃ (t : Tr) (b kv : Value), cs = [.int .i64 t.kind, .int .i64 t.n, .string ⟨t.s.toArray⟩, b, kv] ∧ NdFits t ∧ RdS W b t.keys ∧ RdTs n W kv t.kids := by
  obtain ⟨xs, k, hk, _, hl, hxl, hf⟩ := DataW.trod_struct Try.underlying25 h
  obtain rfl : k = n := by omega
  have kI : Try.prog.cellsOf 3 = 1 := by kernel_rfl
  have kS : Try.prog.cellsOf 9 = 1 := by kernel_rfl
  have kL : Try.prog.cellsOf 22 = 1 := by kernel_rfl
  have kM : Try.prog.cellsOf 23 = 1 := by kernel_rfl
  have kP : Try.prog.cellsOf 25 = 5 := by kernel_rfl
  rw [kP] at hl
  have hx5 : xs.length = 5 := by simpa using hxl
  obtain ⟨c0, c1, c2, c3, c4, rfl⟩ := listOf5 hl
  obtain ⟨y0, e0⟩ := some_at hx5 0 (by omega)
  obtain ⟨y1, e1⟩ := some_at hx5 1 (by omega)
  obtain ⟨y2, e2⟩ := some_at hx5 2 (by omega)
  obtain ⟨y3, e3⟩ := some_at hx5 3 (by omega)
  obtain ⟨y4, e4⟩ := some_at hx5 4 (by omega)
  have g0 := hf 0 _ rfl
  have g1 := hf 1 _ rfl
  have g2 := hf 2 _ rfl
  have g3 := hf 3 _ rfl
  have g4 := hf 4 _ rfl
  clear hf h hxl hl
  rw [e0] at g0; rw [e1] at g1; rw [e2] at g2; rw [e3] at g3; rw [e4] at g4
  simp [kI, kS, kL, kM] at g0 g1 g2 g3 g4
  obtain ⟨a0, h0, _, _⟩ := DataW.trod_int Try.underlying3 g0
  obtain ⟨a1, h1, _, _⟩ := DataW.trod_int Try.underlying3 g1
  obtain ⟨s2, h2, _, z2⟩ := DataW.trod_string Try.underlying9 g2
  simp at h0 h1 h2
  subst h0 h1 h2
  obtain ⟨ls, r3, n3, m3⟩ := open_texts g3
  obtain ⟨ts, r4⟩ := ih _ _ g4
  exact ⟨.mk a0 a1 s2.data.toList ls ts, c3, c4, by simp [Tr.kind, Tr.n, Tr.s], ⟨by simpa [Tr.s] using z2, n3, m3⟩, r3, r4⟩

set_option maxRecDepth 100000 in
theorem open_trees_step {n : Nat} (ih : OpTs W enc spare held n) : OpTs W enc spare held (n + 2) := by
  intro v x h
  have kP : Try.prog.cellsOf 25 = 5 := by kernel_rfl
  rcases DataW.trod_slice Try.underlying23 h with ⟨hcs, _⟩ | ⟨a, len, cap, elems, rest, n1, hn, hcs, _, _, hl, hm, hlen, hel, _, _⟩
  · simp at hcs
    subst hcs
    exact ⟨[], none, 0, rfl, by simp, fun h => absurd h (by simp)⟩
  · simp at hcs
    subst hcs
    obtain rfl : n1 = n + 1 := by omega
    have each : ∀ i, i < len → ∃ q : Tr × Value × Value, W.cell? (a.add (i * 5)) = some (.int .i64 q.1.kind) ∧ W.cell? (a.add (i * 5 + 1)) = some (.int .i64 q.1.n) ∧ W.cell? (a.add (i * 5 + 2)) = some (.string ⟨q.1.s.toArray⟩) ∧ W.cell? (a.add (i * 5 + 3)) = some q.2.1 ∧ W.cell? (a.add (i * 5 + 4)) = some q.2.2 ∧ NdFits q.1 ∧ RdS W q.2.1 q.1.keys ∧ RdTs n W q.2.2 q.1.kids := fun i hi => by
      have key := hel i hi
      rw [List.getElem?_eq_getElem (by omega)] at key
      obtain ⟨cs', h1, h2⟩ := Option.bind_eq_some_iff.1 key
      rw [kP] at h1
      obtain ⟨_, hlen, hcell⟩ := World.cells?_some h1
      obtain ⟨t, vb, vk, rfl, r1, r2, r3⟩ := open_treec ih h2
      have e0 := hcell 0 (by omega)
      have e1 := hcell 1 (by omega)
      have e2 := hcell 2 (by omega)
      have e3 := hcell 3 (by omega)
      have e4 := hcell 4 (by omega)
      rw [add_add] at e0 e1 e2 e3 e4
      exact ⟨(t, vb, vk), by simpa using e0, by simpa using e1, by simpa using e2, by simpa using e3, by simpa using e4, r1, r2, r3⟩
    obtain ⟨Q, hQ⟩ := choose_lt each
    refine ⟨(List.range len).map (fun i => (Q i).1), some a, cap, by simp, by simp; omega, fun h0 => ?_⟩
    simp at h0
    obtain ⟨b, off, spot⟩ := a
    have hspot : spot = none := by simpa [Addr.add] using World.cell?_spot (hQ 0 (by omega)).1
    subst hspot
    have h1 : ∀ k, k < len → ∃ u kv, W.cell? ⟨b, off + k * 5, none⟩ = some (.int .i64 (Q k).1.kind) ∧ W.cell? ⟨b, off + k * 5 + 1, none⟩ = some (.int .i64 (Q k).1.n) ∧ W.cell? ⟨b, off + k * 5 + 2, none⟩ = some (.string ⟨(Q k).1.s.toArray⟩) ∧ W.cell? ⟨b, off + k * 5 + 3, none⟩ = some u ∧ W.cell? ⟨b, off + k * 5 + 4, none⟩ = some kv ∧ NdFits (Q k).1 ∧ RdS W u (Q k).1.keys ∧ RdTs (n + 1) W kv (Q k).1.kids := fun k hk => by
      obtain ⟨e0, e1, e2, e3, e4, r1, r2, r3⟩ := hQ k hk
      rw [Go.WideShapes.add_plain] at e0 e1 e2 e3 e4
      exact ⟨_, _, e0, by rw [Nat.add_assoc]; exact e1, by rw [Nat.add_assoc]; exact e2, by rw [Nat.add_assoc]; exact e3, by rw [Nat.add_assoc]; exact e4, r1, r2, r3.more⟩
    refine ⟨b, off, rfl, ?_, fun k hk => ?_⟩
    · obtain ⟨_, _, e0, _⟩ := h1 0 h0
      exact cell_lt e0
    · simp at hk
      simpa using h1 k hk
set_option maxRecDepth 100000 in
theorem open_trees_zero : OpTs W enc spare held 0 := by
  intro v x h
  simp [DataW.trod] at h
set_option maxRecDepth 100000 in
theorem open_trees_one : OpTs W enc spare held 1 := by
  intro v x h
  have kP : Try.prog.cellsOf 25 = 5 := by kernel_rfl
  rcases DataW.trod_slice Try.underlying23 h with ⟨hcs, _⟩ | ⟨a, len, cap, elems, rest, n1, hn, hcs, _, _, hl, hm, hlen, hel, _, _⟩
  · simp at hcs
    subst hcs
    exact ⟨[], none, 0, rfl, by simp, fun h => absurd h (by simp)⟩
  · simp at hcs
    subst hcs
    obtain rfl : n1 = 0 := by omega
    by_cases h0 : len = 0
    · subst h0
      exact ⟨[], some a, cap, rfl, by simp, fun h => absurd h (by simp)⟩
    · have key := hel 0 (by omega)
      rw [List.getElem?_eq_getElem (by omega)] at key
      obtain ⟨cs', h1, h2⟩ := Option.bind_eq_some_iff.1 key
      simp [DataW.trod] at h2
theorem open_trees : ∀ n, OpTs W enc spare held n
  | 0 => open_trees_zero
  | 1 => open_trees_one
  | n + 2 => open_trees_step (open_trees n)

set_option maxRecDepth 100000 in
theorem open_tree {r : Reach} {b0 : Nat} {v : Value} {y : DataW H} {p : List MemPlace} (hv : Value.okWide Try.prog W r b0 25 v) (h : DataW.Trod enc Try.prog W 0 spare held 25 v y p) :
    ∃ (d : Nat) (t : Tr) (b kv : Value), v = .agg #[.int .i64 t.kind, .int .i64 t.n, .string ⟨t.s.toArray⟩, b, kv] ∧ NdFits t ∧ RdS W b t.keys ∧ RdTs d W kv t.kids := by
  obtain ⟨cs, rfl, hsz⟩ := okWide_struct Try.underlying25 hv
  obtain ⟨fuel, hf⟩ := h
  cases fuel with
  | zero => simp [DataW.trod] at hf
  | succ n =>
    obtain ⟨t, a, b, hcs, r1, r2, r3⟩ := open_treec (open_trees n) (by simpa [Value.cells] using hf)
    exact ⟨n, t, a, b, by cases cs; simp at hcs; rw [hcs], r1, r2, r3⟩
end
end Go.Proofs.Ythlbpklllphhcaa
