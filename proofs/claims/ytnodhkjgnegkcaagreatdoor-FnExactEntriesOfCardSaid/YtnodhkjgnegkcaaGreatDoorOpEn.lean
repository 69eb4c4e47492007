/-
  Arguments opened: a list of entries.
-/
import Derived.Test.YtnodhkjgnegkcaaGreatDoorEnM
import Derived.Test.YtnodhkjgnegkcaaGreatDoorNdOpen
import Derived.Test.YtnodhkjgnegkcaaGreatDoorOpNd
namespace Go.Proofs.YtnodhkjgnegkcaaGreatDoor
open Go.ChangeShapes Go.WideShapes Go.RowKit Go.Deep Go.Joins

theorem list5 {α : Type} {cs : List α} (h : cs.length = 5) : ∃ c0 c1 c2 c3 c4, cs = [c0, c1, c2, c3, c4] := by
  match cs, h with
  | [c0, c1, c2, c3, c4], _ => exact ⟨c0, c1, c2, c3, c4, rfl⟩
theorem some_at {α : Type} {xs : List α} {n : Nat} (h : xs.length = n) (i : Nat) (hi : i < n) : ∃ y, xs[i]? = some y := ⟨xs[i]'(by omega), by simp⟩
section
variable {H : Type} {enc : TypeId × Value → H} {W : World} {spare : Nat → Bool} {held : Bool}

set_option maxRecDepth 100000 in
theorem open_entryc {fuel : Nat} {cs : List Value} {x : DataW H × List MemPlace} (h : DataW.trod enc Tryz.prog W 0 spare held fuel 58 cs = some x) :
    ∃ (e : En) (a0 a1 : Value), cs = [a0, .string ⟨e.ver.toArray⟩, .string ⟨e.res.toArray⟩, .string ⟨e.int.toArray⟩, a1] ∧ RdB W a0 e.heads ∧ RdB W a1 e.needs ∧ EnFits e := by
  obtain ⟨xs, k, _, _, hl, hxl, hf⟩ := DataW.trod_struct Tryz.underlying58 h
  have kS : Tryz.prog.cellsOf 9 = 1 := by kernel_rfl
  have kL : Tryz.prog.cellsOf 56 = 1 := by kernel_rfl
  have kP : Tryz.prog.cellsOf 58 = 5 := by kernel_rfl
  rw [kP] at hl
  have hx5 : xs.length = 5 := by simpa using hxl
  obtain ⟨c0, c1, c2, c3, c4, rfl⟩ := list5 hl
  obtain ⟨y0, e0⟩ := some_at hx5 0 (by omega)
  obtain ⟨y1, e1⟩ := some_at hx5 1 (by omega)
  obtain ⟨y2, e2⟩ := some_at hx5 2 (by omega)
  obtain ⟨y3, e3⟩ := some_at hx5 3 (by omega)
  obtain ⟨y4, e4⟩ := some_at hx5 4 (by omega)
  have g0 := hf 0 _ rfl
  have g1 := hf 1 _ rfl
  have g2 := hf 2 _ rfl
  have g3 := hf 3 _ rfl
  have g4 := hf 4 _ rfl
  clear hf h hxl hl
  rw [e0] at g0; rw [e1] at g1; rw [e2] at g2; rw [e3] at g3; rw [e4] at g4
  simp [kS, kL] at g0 g1 g2 g3 g4
  obtain ⟨s1, h1, _, z1⟩ := DataW.trod_string Tryz.underlying9 g1
  obtain ⟨s2, h2, _, z2⟩ := DataW.trod_string Tryz.underlying9 g2
  obtain ⟨s3, h3, _, z3⟩ := DataW.trod_string Tryz.underlying9 g3
  simp at h1 h2 h3
  subst h1 h2 h3
  obtain ⟨b0, r0, n0, m0⟩ := Ndk.open_needs g0
  obtain ⟨b4, r4, n4, m4⟩ := Ndk.open_needs g4
  refine ⟨⟨b0, s1.data.toList, s2.data.toList, s3.data.toList, b4⟩, c0, c4, by simp, r0, r4, ?_⟩
  exact ⟨⟨n0, m0⟩, by simpa using z1, by simpa using z2, by simpa using z3, ⟨n4, m4⟩⟩

set_option maxRecDepth 100000 in
theorem open_entries {fuel : Nat} {v : Value} {x : DataW H × List MemPlace} (h : DataW.trod enc Tryz.prog W 0 spare held fuel 22 [v] = some x) :
    ∃ es, RdEs W v es ∧ es.length ≤ maxLen ∧ ∀ e ∈ es, EnFits e := by
  have kP : Tryz.prog.cellsOf 58 = 5 := by kernel_rfl
  rcases open_slice Tryz.underlying22 h with ⟨hcs, _⟩ | ⟨a, len, cap, m, n, D, Pl, hcs, _, hl, hm, hmm, _, hc⟩
  · simp at hcs
    subst hcs
    exact ⟨[], rdEn_nil W, by simp, fun l hl => by cases hl⟩
  · simp at hcs
    subst hcs
    have hlm : len ≤ m := by rw [hmm]; split <;> omega
    have each : ∀ i, i < m → ∃ q : En × Value × Value, W.cell? (a.add (i * 5)) = some q.2.1 ∧ W.cell? (a.add (i * 5 + 1)) = some (.string ⟨q.1.ver.toArray⟩) ∧ W.cell? (a.add (i * 5 + 2)) = some (.string ⟨q.1.res.toArray⟩) ∧ W.cell? (a.add (i * 5 + 3)) = some (.string ⟨q.1.int.toArray⟩) ∧ W.cell? (a.add (i * 5 + 4)) = some q.2.2 ∧ RdB W q.2.1 q.1.heads ∧ RdB W q.2.2 q.1.needs ∧ EnFits q.1 := fun i hi => by
      obtain ⟨cs', h1, h2⟩ := hc i hi
      rw [kP] at h1
      obtain ⟨_, hlen, hcell⟩ := World.cells?_some h1
      obtain ⟨f, va, vb, rfl, r1, r2, r3⟩ := open_entryc h2
      have e0 := hcell 0 (by omega)
      have e1 := hcell 1 (by omega)
      have e2 := hcell 2 (by omega)
      have e3 := hcell 3 (by omega)
      have e4 := hcell 4 (by omega)
      rw [add_add] at e0 e1 e2 e3 e4
      exact ⟨(f, va, vb), by simpa using e0, by simpa using e1, by simpa using e2, by simpa using e3, by simpa using e4, r1, r2, r3⟩
    obtain ⟨Q, hQ⟩ := choose_lt each
    refine ⟨(List.range len).map (fun i => (Q i).1), ⟨some a, cap, by simp, fun h0 => ?_⟩, by simp; omega, ?_⟩
    · simp at h0
      obtain ⟨b, off, spot⟩ := a
      have hspot : spot = none := by simpa [Addr.add] using World.cell?_spot (hQ 0 (by omega)).1
      subst hspot
      have h1 : ∀ k, k < len → EnAt W b (off + k * 5) (Q k).1 := fun k hk => by
        obtain ⟨e0, e1, e2, e3, e4, r1, r2, _⟩ := hQ k (by omega)
        rw [Go.WideShapes.add_plain] at e0 e1 e2 e3 e4
        exact ⟨_, _, e0, by rw [Nat.add_assoc]; exact e1, by rw [Nat.add_assoc]; exact e2, by rw [Nat.add_assoc]; exact e3, by rw [Nat.add_assoc]; exact e4, r1, r2⟩
      refine ⟨b, off, rfl, ?_, fun k hk => ?_⟩
      · obtain ⟨_, _, e0, _⟩ := h1 0 h0
        exact cell_in e0
      · simp at hk
        simpa using h1 k hk
    · intro l hl
      simp at hl
      obtain ⟨i, hi, rfl⟩ := hl
      exact (hQ i (by omega)).2.2.2.2.2.2.2
set_option maxRecDepth 100000 in
theorem open_entriesV {r : Reach} {b0 : Nat} {v : Value} {d : DataW H} {p : List MemPlace} (hv : Value.okWide Tryz.prog W r b0 22 v) (h : DataW.Trod enc Tryz.prog W 0 spare held 22 v d p) :
    ∃ es, RdEs W v es ∧ es.length ≤ maxLen ∧ ∀ e ∈ es, EnFits e := by
  obtain ⟨a, len, cap, rfl⟩ := okWide_slice Tryz.underlying22 hv
  obtain ⟨fuel, hf⟩ := h
  exact open_entries (by simpa [Value.cells] using hf)
end
end Go.Proofs.YtnodhkjgnegkcaaGreatDoor
