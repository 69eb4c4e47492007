/-
  Arguments opened: a pack, a list of packs, a graph.
-/
import Derived.Test.YtldfkdkppgammaaPk
import Derived.Test.YtldfkdkppgammaaOpenL
import Derived.Deep.SlicePairs
namespace Go.Proofs.Ytldfkdkppgammaa
open Go.ChangeShapes Go.WideShapes Go.RowKit Go.Deep Go.Joins

theorem list6 {α : Type} {cs : List α} (h : cs.length = 6) : ∃ c0 c1 c2 c3 c4 c5, cs = [c0, c1, c2, c3, c4, c5] := by
  match cs, h with
  | [c0, c1, c2, c3, c4, c5], _ => exact ⟨c0, c1, c2, c3, c4, c5, rfl⟩
theorem some_of_len {α : Type} {xs : List α} {n : Nat} (h : xs.length = n) (i : Nat) (hi : i < n) : ∃ y, xs[i]? = some y := ⟨xs[i]'(by omega), by simp⟩

section
variable {H : Type} {enc : TypeId × Value → H} {W : World} {spare : Nat → Bool} {held : Bool}

set_option maxRecDepth 100000 in
theorem open_sums {fuel : Nat} {v : Value} {x : DataW H × List MemPlace} (h : DataW.trod enc Try.prog W 0 spare held fuel 26 [v] = some x) :
    ∃ bs, RdB W v bs ∧ bs.length ≤ maxLen ∧ ∀ b ∈ bs, b.1.length ≤ maxLen ∧ b.2.length ≤ maxLen := by
  rcases open_slice_pairs Try.underlying26 Try.underlying69 (by kernel_rfl) rfl rfl (by kernel_rfl) (by kernel_rfl) h with ⟨hcs, _⟩ | ⟨a, len, cap, m, n, V0, V1, D0, D1, P0, P1, hcs, _, hl, hm, hmm, _, hc⟩
  · simp at hcs
    subst hcs
    exact ⟨[], ⟨none, 0, rfl, fun h => absurd h (by simp)⟩, by simp, fun l hl => by cases hl⟩
  · simp at hcs
    subst hcs
    have hlm : len ≤ m := by rw [hmm]; split <;> omega
    have each : ∀ i, i < m → ∃ q : ByteArray × ByteArray, W.cell? (a.add (i * 2)) = some (.string q.1) ∧ W.cell? (a.add (i * 2 + 1)) = some (.string q.2) ∧ q.1.size ≤ maxLen ∧ q.2.size ≤ maxLen := fun i hi => by
      obtain ⟨e0, e1, t0, t1⟩ := hc i hi
      obtain ⟨s0, h1, _, h3⟩ := DataW.trod_string Try.underlying9 t0
      obtain ⟨s1, g1, _, g3⟩ := DataW.trod_string Try.underlying9 t1
      simp at h1 g1
      exact ⟨(s0, s1), by rw [e0, h1], by rw [e1, g1], h3, g3⟩
    obtain ⟨Q, hQ⟩ := choose_lt each
    refine ⟨(List.range len).map (fun i => ((Q i).1.data.toList, (Q i).2.data.toList)), ⟨some a, cap, by simp, fun h0 => ?_⟩, by simp; omega, ?_⟩
    · simp at h0
      obtain ⟨b, off, spot⟩ := a
      have hspot : spot = none := by simpa [Addr.add] using World.cell?_spot (hQ 0 (by omega)).1
      subst hspot
      have h1 : ∀ k, k < len → W.cell? ⟨b, off + k * 2, none⟩ = some (.string (Q k).1) ∧ W.cell? ⟨b, off + k * 2 + 1, none⟩ = some (.string (Q k).2) := fun k hk => by
        obtain ⟨e0, e1, _, _⟩ := hQ k (by omega)
        rw [Go.WideShapes.add_plain] at e0 e1
        exact ⟨e0, by rw [Nat.add_assoc]; exact e1⟩
      refine ⟨b, off, rfl, cell_in (h1 0 h0).1, fun k hk => ?_⟩
      simp at hk
      rw [(h1 k hk).1, (h1 k hk).2]
      simp [sv]
    · intro l hl
      simp at hl
      obtain ⟨i, hi, rfl⟩ := hl
      obtain ⟨_, _, s0, s1⟩ := hQ i (by omega)
      exact ⟨by simpa using s0, by simpa using s1⟩


set_option maxRecDepth 100000 in
theorem open_packc {fuel : Nat} {cs : List Value} {x : DataW H × List MemPlace} (h : DataW.trod enc Try.prog W 0 spare held fuel 117 cs = some x) :
    ∃ (p : Pk) (a b : Value), cs = [.string ⟨p.name.toArray⟩, .string ⟨p.ver.toArray⟩, .string ⟨p.src.toArray⟩, a, .bool p.dev, b] ∧ RdB W a p.sums ∧ RdS W b p.needs ∧ PkFits p := by
  obtain ⟨xs, k, _, _, hl, hxl, hf⟩ := DataW.trod_struct Try.underlying117 h
  have kS : Try.prog.cellsOf 9 = 1 := by kernel_rfl
  have kB : Try.prog.cellsOf 4 = 1 := by kernel_rfl
  have kL : Try.prog.cellsOf 33 = 1 := by kernel_rfl
  have kM : Try.prog.cellsOf 26 = 1 := by kernel_rfl
  have kP : Try.prog.cellsOf 117 = 6 := by kernel_rfl
  rw [kP] at hl
  have hx6 : xs.length = 6 := by simpa using hxl
  obtain ⟨c0, c1, c2, c3, c4, c5, rfl⟩ := list6 hl
  obtain ⟨y0, e0⟩ := some_of_len hx6 0 (by omega)
  obtain ⟨y1, e1⟩ := some_of_len hx6 1 (by omega)
  obtain ⟨y2, e2⟩ := some_of_len hx6 2 (by omega)
  obtain ⟨y3, e3⟩ := some_of_len hx6 3 (by omega)
  obtain ⟨y4, e4⟩ := some_of_len hx6 4 (by omega)
  obtain ⟨y5, e5⟩ := some_of_len hx6 5 (by omega)
  have g0 := hf 0 _ rfl
  have g1 := hf 1 _ rfl
  have g2 := hf 2 _ rfl
  have g3 := hf 3 _ rfl
  have g4 := hf 4 _ rfl
  have g5 := hf 5 _ rfl
  clear hf h hxl hl
  rw [e0] at g0; rw [e1] at g1; rw [e2] at g2; rw [e3] at g3; rw [e4] at g4; rw [e5] at g5
  simp [kS, kB, kL, kM] at g0 g1 g2 g3 g4 g5
  obtain ⟨s0, h0, _, z0⟩ := DataW.trod_string Try.underlying9 g0
  obtain ⟨s1, h1, _, z1⟩ := DataW.trod_string Try.underlying9 g1
  obtain ⟨s2, h2, _, z2⟩ := DataW.trod_string Try.underlying9 g2
  obtain ⟨d, h4, _⟩ := DataW.trod_bool Try.underlying4 g4
  simp at h0 h1 h2 h4
  subst h0 h1 h2 h4
  obtain ⟨bs, r3, n3, m3⟩ := open_sums g3
  obtain ⟨ls, r5, n5, m5⟩ := open_texts g5
  refine ⟨⟨s0.data.toList, s1.data.toList, s2.data.toList, bs, d, ls⟩, c3, c5, by simp, r3, r5, ?_⟩
  exact ⟨by simpa using z0, by simpa using z1, by simpa using z2, n3, m3, n5, m5⟩

set_option maxRecDepth 100000 in
theorem open_pack {r : Reach} {b0 : Nat} {v : Value} {d : DataW H} {p : List MemPlace} (hv : Value.okWide Try.prog W r b0 117 v) (h : DataW.Trod enc Try.prog W 0 spare held 117 v d p) :
    ∃ (p : Pk) (a b : Value), v = .agg #[.string ⟨p.name.toArray⟩, .string ⟨p.ver.toArray⟩, .string ⟨p.src.toArray⟩, a, .bool p.dev, b] ∧ RdB W a p.sums ∧ RdS W b p.needs ∧ PkFits p := by
  obtain ⟨cs, rfl, hsz⟩ := okWide_struct Try.underlying117 hv
  obtain ⟨fuel, hf⟩ := h
  obtain ⟨p, a, b, hcs, r1, r2, r3⟩ := open_packc (by simpa [Value.cells] using hf)
  exact ⟨p, a, b, by cases cs; simp at hcs; rw [hcs], r1, r2, r3⟩

set_option maxRecDepth 100000 in
theorem open_packs {fuel : Nat} {v : Value} {x : DataW H × List MemPlace} (h : DataW.trod enc Try.prog W 0 spare held fuel 34 [v] = some x) :
    ∃ ps, RdPs W v ps ∧ ps.length ≤ maxLen ∧ ∀ p ∈ ps, PkFits p := by
  have kP : Try.prog.cellsOf 117 = 6 := by kernel_rfl
  rcases open_slice Try.underlying34 h with ⟨hcs, _⟩ | ⟨a, len, cap, m, n, D, Pl, hcs, _, hl, hm, hmm, _, hc⟩
  · simp at hcs
    subst hcs
    exact ⟨[], rdPs_nil W, by simp, fun l hl => by cases hl⟩
  · simp at hcs
    subst hcs
    have hlm : len ≤ m := by rw [hmm]; split <;> omega
    have each : ∀ i, i < m → ∃ q : Pk × Value × Value, W.cell? (a.add (i * 6)) = some (.string ⟨q.1.name.toArray⟩) ∧ W.cell? (a.add (i * 6 + 1)) = some (.string ⟨q.1.ver.toArray⟩) ∧ W.cell? (a.add (i * 6 + 2)) = some (.string ⟨q.1.src.toArray⟩) ∧ W.cell? (a.add (i * 6 + 3)) = some q.2.1 ∧ W.cell? (a.add (i * 6 + 4)) = some (.bool q.1.dev) ∧ W.cell? (a.add (i * 6 + 5)) = some q.2.2 ∧ RdB W q.2.1 q.1.sums ∧ RdS W q.2.2 q.1.needs ∧ PkFits q.1 := fun i hi => by
      obtain ⟨cs', h1, h2⟩ := hc i hi
      rw [kP] at h1
      obtain ⟨_, hlen, hcell⟩ := World.cells?_some h1
      obtain ⟨p, va, vb, rfl, r1, r2, r3⟩ := open_packc h2
      have e0 := hcell 0 (by omega)
      have e1 := hcell 1 (by omega)
      have e2 := hcell 2 (by omega)
      have e3 := hcell 3 (by omega)
      have e4 := hcell 4 (by omega)
      have e5 := hcell 5 (by omega)
      rw [add_add] at e0 e1 e2 e3 e4 e5
      exact ⟨(p, va, vb), by simpa using e0, by simpa using e1, by simpa using e2, by simpa using e3, by simpa using e4, by simpa using e5, r1, r2, r3⟩
    obtain ⟨Q, hQ⟩ := choose_lt each
    refine ⟨(List.range len).map (fun i => (Q i).1), ⟨some a, cap, by simp, fun h0 => ?_⟩, by simp; omega, ?_⟩
    · simp at h0
      obtain ⟨b, off, spot⟩ := a
      have hspot : spot = none := by simpa [Addr.add] using World.cell?_spot (hQ 0 (by omega)).1
      subst hspot
      have h1 : ∀ k, k < len → PkAt W b (off + k * 6) (Q k).1 := fun k hk => by
        obtain ⟨e0, e1, e2, e3, e4, e5, r1, r2, _⟩ := hQ k (by omega)
        rw [Go.WideShapes.add_plain] at e0 e1 e2 e3 e4 e5
        exact ⟨_, _, e0, by rw [Nat.add_assoc]; exact e1, by rw [Nat.add_assoc]; exact e2, by rw [Nat.add_assoc]; exact e3, by rw [Nat.add_assoc]; exact e4, by rw [Nat.add_assoc]; exact e5, r1, r2⟩
      refine ⟨b, off, rfl, ?_, fun k hk => ?_⟩
      · obtain ⟨_, _, e0, _⟩ := h1 0 h0
        exact cell_lt e0
      · simp at hk
        simpa using h1 k hk
    · intro l hl
      simp at hl
      obtain ⟨i, hi, rfl⟩ := hl
      exact (hQ i (by omega)).2.2.2.2.2.2.2.2

set_option maxRecDepth 100000 in
theorem open_graph {r : Reach} {b0 : Nat} {v : Value} {d : DataW H} {p : List MemPlace} (hv : Value.okWide Try.prog W r b0 36 v) (h : DataW.Trod enc Try.prog W 0 spare held 36 v d p) :
    ∃ (vt vp : Value) (ts : List (List UInt8)) (ps : List Pk), v = .agg #[vt, vp] ∧ RdS W vt ts ∧ RdPs W vp ps ∧ ts.length ≤ maxLen ∧ (∀ l ∈ ts, l.length ≤ maxLen) ∧ ps.length ≤ maxLen ∧ ∀ p ∈ ps, PkFits p := by
  obtain ⟨v0, v1, y0, y1, n, rfl, _, _, h0, h1⟩ := open_agg2 Try.underlying36 (by kernel_rfl) (by kernel_rfl) hv h
  obtain ⟨ts, r1, r2, r3⟩ := open_texts h0
  obtain ⟨ps, q1, q2, q3⟩ := open_packs h1
  exact ⟨v0, v1, ts, ps, rfl, r1, q1, r2, r3, q2, q3⟩
end
end Go.Proofs.Ytldfkdkppgammaa
