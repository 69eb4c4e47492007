/-
  Arguments opened: packs, a graph.
-/
import Derived.Test.YtcfkhfbhmjfhdaaGreatDoorOpenPk
namespace Go.Proofs.YtcfkhfbhmjfhdaaGreatDoor
open Go.ChangeShapes Go.WideShapes Go.RowKit Go.Deep Go.Joins

section
variable {H : Type} {enc : TypeId × Value → H} {W : World} {spare : Nat → Bool} {held : Bool}

set_option maxRecDepth 100000 in
theorem open_packs {fuel : Nat} {v : Value} {x : DataW H × List MemPlace} (h : DataW.trod enc Tryz.prog W 0 spare held fuel 23 [v] = some x) :
    ∃ ps, RdPs W v ps ∧ ps.length ≤ maxLen ∧ ∀ p ∈ ps, PkFits p := by
  have kP : Tryz.prog.cellsOf 58 = 6 := by kernel_rfl
  rcases open_slice Tryz.underlying23 h with ⟨hcs, _⟩ | ⟨a, len, cap, m, n, D, Pl, hcs, _, hl, hm, hmm, _, hc⟩
  · simp at hcs
    subst hcs
    exact ⟨[], rdPs_nil W, by simp, fun l hl => by cases hl⟩
  · simp at hcs
    subst hcs
    have hlm : len ≤ m := by rw [hmm]; split <;> omega
    have each : ∀ i, i < m → ∃ q : Pk × Value × Value, W.cell? (a.add (i * 6)) = some (.string ⟨q.1.name.toArray⟩) ∧ W.cell? (a.add (i * 6 + 1)) = some (.string ⟨q.1.ver.toArray⟩) ∧ W.cell? (a.add (i * 6 + 2)) = some (.string ⟨q.1.src.toArray⟩) ∧ W.cell? (a.add (i * 6 + 3)) = some q.2.1 ∧ W.cell? (a.add (i * 6 + 4)) = some (.bool q.1.dev) ∧ W.cell? (a.add (i * 6 + 5)) = some q.2.2 ∧ RdB W q.2.1 q.1.sums ∧ RdS W q.2.2 q.1.needs ∧ PkFits q.1 := fun i hi => by
      obtain ⟨cs', h1, h2⟩ := hc i hi
      rw [kP] at h1
      obtain ⟨_, hlen, hcell⟩ := World.cells?_some h1
      obtain ⟨p, va, vb, rfl, r1, r2, r3⟩ := open_packc h2
      have e0 := hcell 0 (by omega)
      have e1 := hcell 1 (by omega)
      have e2 := hcell 2 (by omega)
      have e3 := hcell 3 (by omega)
      have e4 := hcell 4 (by omega)
      have e5 := hcell 5 (by omega)
      rw [add_add] at e0 e1 e2 e3 e4 e5
      exact ⟨(p, va, vb), by simpa using e0, by simpa using e1, by simpa using e2, by simpa using e3, by simpa using e4, by simpa using e5, r1, r2, r3⟩
    obtain ⟨Q, hQ⟩ := choose_lt each
    refine ⟨(List.range len).map (fun i => (Q i).1), ⟨some a, cap, by simp, fun h0 => ?_⟩, by simp; omega, ?_⟩
    · simp at h0
      obtain ⟨b, off, spot⟩ := a
      have hspot : spot = none := by simpa [Addr.add] using World.cell?_spot (hQ 0 (by omega)).1
      subst hspot
      have h1 : ∀ k, k < len → PkAt W b (off + k * 6) (Q k).1 := fun k hk => by
        obtain ⟨e0, e1, e2, e3, e4, e5, r1, r2, _⟩ := hQ k (by omega)
        rw [Go.WideShapes.add_plain] at e0 e1 e2 e3 e4 e5
        exact ⟨_, _, e0, by rw [Nat.add_assoc]; exact e1, by rw [Nat.add_assoc]; exact e2, by rw [Nat.add_assoc]; exact e3, by rw [Nat.add_assoc]; exact e4, by rw [Nat.add_assoc]; exact e5, r1, r2⟩
      refine ⟨b, off, rfl, ?_, fun k hk => ?_⟩
      · obtain ⟨_, _, e0, _⟩ := h1 0 h0
        exact cell_lt e0
      · simp at hk
        simpa using h1 k hk
    · intro l hl
      simp at hl
      obtain ⟨i, hi, rfl⟩ := hl
      exact (hQ i (by omega)).2.2.2.2.2.2.2.2

set_option maxRecDepth 100000 in
theorem open_graph {r : Reach} {b0 : Nat} {v : Value} {d : DataW H} {p : List MemPlace} (hv : Value.okWide Tryz.prog W r b0 25 v) (h : DataW.Trod enc Tryz.prog W 0 spare held 25 v d p) :
    ∃ (vt vp : Value) (ts : List (List UInt8)) (ps : List Pk), v = .agg #[vt, vp] ∧ RdS W vt ts ∧ RdPs W vp ps ∧ ts.length ≤ maxLen ∧ (∀ l ∈ ts, l.length ≤ maxLen) ∧ ps.length ≤ maxLen ∧ ∀ p ∈ ps, PkFits p := by
  obtain ⟨v0, v1, y0, y1, n, rfl, _, _, h0, h1⟩ := open_agg2 Tryz.underlying25 (by kernel_rfl) (by kernel_rfl) hv h
  obtain ⟨ts, r1, r2, r3⟩ := open_texts h0
  obtain ⟨ps, q1, q2, q3⟩ := open_packs h1
  exact ⟨v0, v1, ts, ps, rfl, r1, q1, r2, r3, q2, q3⟩
end
end Go.Proofs.YtcfkhfbhmjfhdaaGreatDoor
