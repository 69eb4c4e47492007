/-
  Arguments opened: a list of tables.
-/
import Derived.Test.YthlbpklllphhcaaOpF
import Derived.Test.YthlbpklllphhcaaTsM
namespace Go.Proofs.Ythlbpklllphhcaa
open Go.ChangeShapes Go.WideShapes Go.RowKit Go.Deep Go.Joins

section
variable {H : Type} {enc : TypeId × Value → H} {W : World} {spare : Nat → Bool} {held : Bool}

set_option maxRecDepth 100000 in
theorem open_tablec {fuel : Nat} {cs : List Value} {x : DataW H × List MemPlace} (h : DataW.trod enc Try.prog W 0 spare held fuel 44 cs = some x) :
    ∃ (t : Tb) (a : Value), cs = [.string ⟨t.name.toArray⟩, a] ∧ RdFs W a t.fields ∧ TbFits t := by
  obtain ⟨xs, k, _, _, hl, hxl, hf⟩ := DataW.trod_struct Try.underlying44 h
  have kS : Try.prog.cellsOf 9 = 1 := by kernel_rfl
  have kL : Try.prog.cellsOf 42 = 1 := by kernel_rfl
  have kP : Try.prog.cellsOf 44 = 2 := by kernel_rfl
  rw [kP] at hl
  have hx2 : xs.length = 2 := by simpa using hxl
  obtain ⟨c0, c1, rfl⟩ : ∃ c0 c1, cs = [c0, c1] := by
    match cs, hl with
    | [c0, c1], _ => exact ⟨c0, c1, rfl⟩
  obtain ⟨y0, e0⟩ := some_of_len4 hx2 0 (by omega)
  obtain ⟨y1, e1⟩ := some_of_len4 hx2 1 (by omega)
  have g0 := hf 0 _ rfl
  have g1 := hf 1 _ rfl
  clear hf h hxl hl
  rw [e0] at g0; rw [e1] at g1
  simp [kS, kL] at g0 g1
  obtain ⟨s0, h0, _, z0⟩ := DataW.trod_string Try.underlying9 g0
  simp at h0
  subst h0
  obtain ⟨fs, r1, n1, m1⟩ := open_fields g1
  exact ⟨⟨s0.data.toList, fs⟩, c1, by simp, r1, by simpa using z0, n1, m1⟩

set_option maxRecDepth 100000 in
theorem open_tables {fuel : Nat} {v : Value} {x : DataW H × List MemPlace} (h : DataW.trod enc Try.prog W 0 spare held fuel 65 [v] = some x) :
    ∃ ts, RdXs W v ts ∧ ts.length ≤ maxLen ∧ ∀ t ∈ ts, TbFits t := by
  have kP : Try.prog.cellsOf 44 = 2 := by kernel_rfl
  rcases open_slice Try.underlying65 h with ⟨hcs, _⟩ | ⟨a, len, cap, m, n, D, Pl, hcs, _, hl, hm, hmm, _, hc⟩
  · simp at hcs
    subst hcs
    exact ⟨[], rdXs_nil W, by simp, fun l hl => by cases hl⟩
  · simp at hcs
    subst hcs
    have hlm : len ≤ m := by rw [hmm]; split <;> omega
    have each : ∀ i, i < m → ∃ q : Tb × Value, W.cell? (a.add (i * 2)) = some (.string ⟨q.1.name.toArray⟩) ∧ W.cell? (a.add (i * 2 + 1)) = some q.2 ∧ RdFs W q.2 q.1.fields ∧ TbFits q.1 := fun i hi => by
      obtain ⟨cs', h1, h2⟩ := hc i hi
      rw [kP] at h1
      obtain ⟨_, hlen, hcell⟩ := World.cells?_some h1
      obtain ⟨f, va, rfl, r1, r3⟩ := open_tablec h2
      have e0 := hcell 0 (by omega)
      have e1 := hcell 1 (by omega)
      rw [add_add] at e0 e1
      exact ⟨(f, va), by simpa using e0, by simpa using e1, r1, r3⟩
    obtain ⟨Q, hQ⟩ := choose_lt each
    refine ⟨(List.range len).map (fun i => (Q i).1), ⟨some a, cap, by simp, fun h0 => ?_⟩, by simp; omega, ?_⟩
    · simp at h0
      obtain ⟨b, off, spot⟩ := a
      have hspot : spot = none := by simpa [Addr.add] using World.cell?_spot (hQ 0 (by omega)).1
      subst hspot
      have h1 : ∀ k, k < len → TbAt W b (off + k * 2) (Q k).1 := fun k hk => by
        obtain ⟨e0, e1, r1, _⟩ := hQ k (by omega)
        rw [Go.WideShapes.add_plain] at e0 e1
        exact ⟨_, e0, by rw [Nat.add_assoc]; exact e1, r1⟩
      refine ⟨b, off, rfl, ?_, fun k hk => ?_⟩
      · obtain ⟨_, e0, _⟩ := h1 0 h0
        exact cell_in e0
      · simp at hk
        simpa using h1 k hk
    · intro l hl
      simp at hl
      obtain ⟨i, hi, rfl⟩ := hl
      exact (hQ i (by omega)).2.2.2
set_option maxRecDepth 100000 in
theorem open_tablesV {r : Reach} {b0 : Nat} {v : Value} {d : DataW H} {p : List MemPlace} (hv : Value.okWide Try.prog W r b0 65 v) (h : DataW.Trod enc Try.prog W 0 spare held 65 v d p) :
    ∃ ts, RdXs W v ts ∧ ts.length ≤ maxLen ∧ ∀ t ∈ ts, TbFits t := by
  obtain ⟨a, len, cap, rfl⟩ := okWide_slice Try.underlying65 hv
  obtain ⟨fuel, hf⟩ := h
  exact open_tables (by simpa [Value.cells] using hf)
end
end Go.Proofs.Ythlbpklllphhcaa
