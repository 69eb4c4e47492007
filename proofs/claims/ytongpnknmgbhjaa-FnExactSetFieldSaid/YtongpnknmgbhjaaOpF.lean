/-
  Arguments opened: a field, a list of fields, a table.
-/
import Derived.Test.YtongpnknmgbhjaaFdM
import Derived.Test.YtongpnknmgbhjaaOpenL
import Derived.Deep.SlicePairs
namespace Go.Proofs.Ytongpnknmgbhjaa
open Go.ChangeShapes Go.WideShapes Go.RowKit Go.Deep Go.Joins

theorem list4 {α : Type} {cs : List α} (h : cs.length = 4) : ∃ c0 c1 c2 c3, cs = [c0, c1, c2, c3] := by
  match cs, h with
  | [c0, c1, c2, c3], _ => exact ⟨c0, c1, c2, c3, rfl⟩
theorem some_of_len4 {α : Type} {xs : List α} {n : Nat} (h : xs.length = n) (i : Nat) (hi : i < n) : ∃ y, xs[i]? = some y := ⟨xs[i]'(by omega), by simp⟩

section
variable {H : Type} {enc : TypeId × Value → H} {W : World} {spare : Nat → Bool} {held : Bool}

set_option maxRecDepth 100000 in
theorem open_fieldc {fuel : Nat} {cs : List Value} {x : DataW H × List MemPlace} (h : DataW.trod enc Try.prog W 0 spare held fuel 27 cs = some x) :
    ∃ (f : Fd) (a : Value), cs = [.string ⟨f.key.toArray⟩, .string ⟨f.text.toArray⟩, a, .bool f.isl] ∧ RdS W a f.list ∧ FdFits f := by
  obtain ⟨xs, k, _, _, hl, hxl, hf⟩ := DataW.trod_struct Try.underlying27 h
  have kS : Try.prog.cellsOf 9 = 1 := by kernel_rfl
  have kB : Try.prog.cellsOf 4 = 1 := by kernel_rfl
  have kL : Try.prog.cellsOf 25 = 1 := by kernel_rfl
  have kP : Try.prog.cellsOf 27 = 4 := by kernel_rfl
  rw [kP] at hl
  have hx4 : xs.length = 4 := by simpa using hxl
  obtain ⟨c0, c1, c2, c3, rfl⟩ := list4 hl
  obtain ⟨y0, e0⟩ := some_of_len4 hx4 0 (by omega)
  obtain ⟨y1, e1⟩ := some_of_len4 hx4 1 (by omega)
  obtain ⟨y2, e2⟩ := some_of_len4 hx4 2 (by omega)
  obtain ⟨y3, e3⟩ := some_of_len4 hx4 3 (by omega)
  have g0 := hf 0 _ rfl
  have g1 := hf 1 _ rfl
  have g2 := hf 2 _ rfl
  have g3 := hf 3 _ rfl
  clear hf h hxl hl
  rw [e0] at g0; rw [e1] at g1; rw [e2] at g2; rw [e3] at g3
  simp [kS, kB, kL] at g0 g1 g2 g3
  obtain ⟨s0, h0, _, z0⟩ := DataW.trod_string Try.underlying9 g0
  obtain ⟨s1, h1, _, z1⟩ := DataW.trod_string Try.underlying9 g1
  obtain ⟨d, h3, _⟩ := DataW.trod_bool Try.underlying4 g3
  simp at h0 h1 h3
  subst h0 h1 h3
  obtain ⟨ls, r2, n2, m2⟩ := open_texts g2
  refine ⟨⟨s0.data.toList, s1.data.toList, ls, d⟩, c2, by simp, r2, ?_⟩
  exact ⟨by simpa using z0, by simpa using z1, n2, m2⟩

set_option maxRecDepth 100000 in
theorem open_fields {fuel : Nat} {v : Value} {x : DataW H × List MemPlace} (h : DataW.trod enc Try.prog W 0 spare held fuel 22 [v] = some x) :
    ∃ fs, RdFs W v fs ∧ fs.length ≤ maxLen ∧ ∀ f ∈ fs, FdFits f := by
  have kP : Try.prog.cellsOf 27 = 4 := by kernel_rfl
  rcases open_slice Try.underlying22 h with ⟨hcs, _⟩ | ⟨a, len, cap, m, n, D, Pl, hcs, _, hl, hm, hmm, _, hc⟩
  · simp at hcs
    subst hcs
    exact ⟨[], rdFs_nil W, by simp, fun l hl => by cases hl⟩
  · simp at hcs
    subst hcs
    have hlm : len ≤ m := by rw [hmm]; split <;> omega
    have each : ∀ i, i < m → ∃ q : Fd × Value, W.cell? (a.add (i * 4)) = some (.string ⟨q.1.key.toArray⟩) ∧ W.cell? (a.add (i * 4 + 1)) = some (.string ⟨q.1.text.toArray⟩) ∧ W.cell? (a.add (i * 4 + 2)) = some q.2 ∧ W.cell? (a.add (i * 4 + 3)) = some (.bool q.1.isl) ∧ RdS W q.2 q.1.list ∧ FdFits q.1 := fun i hi => by
      obtain ⟨cs', h1, h2⟩ := hc i hi
      rw [kP] at h1
      obtain ⟨_, hlen, hcell⟩ := World.cells?_some h1
      obtain ⟨f, va, rfl, r1, r3⟩ := open_fieldc h2
      have e0 := hcell 0 (by omega)
      have e1 := hcell 1 (by omega)
      have e2 := hcell 2 (by omega)
      have e3 := hcell 3 (by omega)
      rw [add_add] at e0 e1 e2 e3
      exact ⟨(f, va), by simpa using e0, by simpa using e1, by simpa using e2, by simpa using e3, r1, r3⟩
    obtain ⟨Q, hQ⟩ := choose_lt each
    refine ⟨(List.range len).map (fun i => (Q i).1), ⟨some a, cap, by simp, fun h0 => ?_⟩, by simp; omega, ?_⟩
    · simp at h0
      obtain ⟨b, off, spot⟩ := a
      have hspot : spot = none := by simpa [Addr.add] using World.cell?_spot (hQ 0 (by omega)).1
      subst hspot
      have h1 : ∀ k, k < len → FdAt W b (off + k * 4) (Q k).1 := fun k hk => by
        obtain ⟨e0, e1, e2, e3, r1, _⟩ := hQ k (by omega)
        rw [Go.WideShapes.add_plain] at e0 e1 e2 e3
        exact ⟨_, e0, by rw [Nat.add_assoc]; exact e1, by rw [Nat.add_assoc]; exact e2, by rw [Nat.add_assoc]; exact e3, r1⟩
      refine ⟨b, off, rfl, ?_, fun k hk => ?_⟩
      · obtain ⟨_, e0, _⟩ := h1 0 h0
        exact cell_in e0
      · simp at hk
        simpa using h1 k hk
    · intro l hl
      simp at hl
      obtain ⟨i, hi, rfl⟩ := hl
      exact (hQ i (by omega)).2.2.2.2.2

set_option maxRecDepth 100000 in
theorem open_field {r : Reach} {b0 : Nat} {v : Value} {d : DataW H} {p : List MemPlace} (hv : Value.okWide Try.prog W r b0 27 v) (h : DataW.Trod enc Try.prog W 0 spare held 27 v d p) :
    ∃ (f : Fd) (a : Value), v = fdV f a ∧ RdS W a f.list ∧ FdFits f := by
  obtain ⟨cs, rfl, hsz⟩ := okWide_struct Try.underlying27 hv
  obtain ⟨fuel, hf⟩ := h
  obtain ⟨f, a, hcs, r1, r3⟩ := open_fieldc (by simpa [Value.cells] using hf)
  exact ⟨f, a, by cases cs; simp at hcs; rw [hcs], r1, r3⟩

set_option maxRecDepth 100000 in
theorem open_table {r : Reach} {b0 : Nat} {v : Value} {d : DataW H} {p : List MemPlace} (hv : Value.okWide Try.prog W r b0 24 v) (h : DataW.Trod enc Try.prog W 0 spare held 24 v d p) :
    ∃ (t : Tb) (a : Value), v = tbV t a ∧ RdFs W a t.fields ∧ TbFits t := by
  obtain ⟨v0, v1, y0, y1, n, rfl, _, _, h0, h1⟩ := open_agg2 Try.underlying24 (by kernel_rfl) (by kernel_rfl) hv h
  obtain ⟨s0, e0, _, z0⟩ := DataW.trod_string Try.underlying9 h0
  simp at e0
  subst e0
  obtain ⟨fs, q1, q2, q3⟩ := open_fields h1
  exact ⟨⟨s0.data.toList, fs⟩, v1, by simp, q1, by simpa using z0, q2, q3⟩
end
end Go.Proofs.Ytongpnknmgbhjaa
