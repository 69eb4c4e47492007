/-
  Arguments opened: a pack, a list of packs, a graph.
-/
import Derived.Test.YtcfkhfbhmjfhdaaGreatDoorPk
import Derived.Test.YtcfkhfbhmjfhdaaGreatDoorOpenL
import Derived.Deep.SlicePairs
namespace Go.Proofs.YtcfkhfbhmjfhdaaGreatDoor
open Go.ChangeShapes Go.WideShapes Go.RowKit Go.Deep Go.Joins

theorem list6 {α : Type} {cs : List α} (h : cs.length = 6) : ∃ c0 c1 c2 c3 c4 c5, cs = [c0, c1, c2, c3, c4, c5] := by
  match cs, h with
  | [c0, c1, c2, c3, c4, c5], _ => exact ⟨c0, c1, c2, c3, c4, c5, rfl⟩
theorem some_of_len {α : Type} {xs : List α} {n : Nat} (h : xs.length = n) (i : Nat) (hi : i < n) : ∃ y, xs[i]? = some y := ⟨xs[i]'(by omega), by simp⟩

section
variable {H : Type} {enc : TypeId × Value → H} {W : World} {spare : Nat → Bool} {held : Bool}

set_option maxRecDepth 100000 in
theorem open_sums {fuel : Nat} {v : Value} {x : DataW H × List MemPlace} (h : DataW.trod enc Tryz.prog W 0 spare held fuel 56 [v] = some x) :
    ∃ bs, RdB W v bs ∧ bs.length ≤ maxLen ∧ ∀ b ∈ bs, b.1.length ≤ maxLen ∧ b.2.length ≤ maxLen := by
  rcases open_slice_pairs Tryz.underlying56 Tryz.underlying109 (by kernel_rfl) rfl rfl (by kernel_rfl) (by kernel_rfl) h with ⟨hcs, _⟩ | ⟨a, len, cap, m, n, V0, V1, D0, D1, P0, P1, hcs, _, hl, hm, hmm, _, hc⟩
  · simp at hcs
    subst hcs
    exact ⟨[], ⟨none, 0, rfl, fun h => absurd h (by simp)⟩, by simp, fun l hl => by cases hl⟩
  · simp at hcs
    subst hcs
    have hlm : len ≤ m := by rw [hmm]; split <;> omega
    have each : ∀ i, i < m → ∃ q : ByteArray × ByteArray, W.cell? (a.add (i * 2)) = some (.string q.1) ∧ W.cell? (a.add (i * 2 + 1)) = some (.string q.2) ∧ q.1.size ≤ maxLen ∧ q.2.size ≤ maxLen := fun i hi => by
      obtain ⟨e0, e1, t0, t1⟩ := hc i hi
      obtain ⟨s0, h1, _, h3⟩ := DataW.trod_string Tryz.underlying9 t0
      obtain ⟨s1, g1, _, g3⟩ := DataW.trod_string Tryz.underlying9 t1
      simp at h1 g1
      exact ⟨(s0, s1), by rw [e0, h1], by rw [e1, g1], h3, g3⟩
    obtain ⟨Q, hQ⟩ := choose_lt each
    refine ⟨(List.range len).map (fun i => ((Q i).1.data.toList, (Q i).2.data.toList)), ⟨some a, cap, by simp, fun h0 => ?_⟩, by simp; omega, ?_⟩
    · simp at h0
      obtain ⟨b, off, spot⟩ := a
      have hspot : spot = none := by simpa [Addr.add] using World.cell?_spot (hQ 0 (by omega)).1
      subst hspot
      have h1 : ∀ k, k < len → W.cell? ⟨b, off + k * 2, none⟩ = some (.string (Q k).1) ∧ W.cell? ⟨b, off + k * 2 + 1, none⟩ = some (.string (Q k).2) := fun k hk => by
        obtain ⟨e0, e1, _, _⟩ := hQ k (by omega)
        rw [Go.WideShapes.add_plain] at e0 e1
        exact ⟨e0, by rw [Nat.add_assoc]; exact e1⟩
      refine ⟨b, off, rfl, cell_in (h1 0 h0).1, fun k hk => ?_⟩
      simp at hk
      rw [(h1 k hk).1, (h1 k hk).2]
      simp [sv]
    · intro l hl
      simp at hl
      obtain ⟨i, hi, rfl⟩ := hl
      obtain ⟨_, _, s0, s1⟩ := hQ i (by omega)
      exact ⟨by simpa using s0, by simpa using s1⟩


set_option maxRecDepth 100000 in
theorem open_packc {fuel : Nat} {cs : List Value} {x : DataW H × List MemPlace} (h : DataW.trod enc Tryz.prog W 0 spare held fuel 58 cs = some x) :
    ∃ (p : Pk) (a b : Value), cs = [.string ⟨p.name.toArray⟩, .string ⟨p.ver.toArray⟩, .string ⟨p.src.toArray⟩, a, .bool p.dev, b] ∧ RdB W a p.sums ∧ RdS W b p.needs ∧ PkFits p := by
  obtain ⟨xs, k, _, _, hl, hxl, hf⟩ := DataW.trod_struct Tryz.underlying58 h
  have kS : Tryz.prog.cellsOf 9 = 1 := by kernel_rfl
  have kB : Tryz.prog.cellsOf 4 = 1 := by kernel_rfl
  have kL : Tryz.prog.cellsOf 22 = 1 := by kernel_rfl
  have kM : Tryz.prog.cellsOf 56 = 1 := by kernel_rfl
  have kP : Tryz.prog.cellsOf 58 = 6 := by kernel_rfl
  rw [kP] at hl
  have hx6 : xs.length = 6 := by simpa using hxl
  obtain ⟨c0, c1, c2, c3, c4, c5, rfl⟩ := list6 hl
  obtain ⟨y0, e0⟩ := some_of_len hx6 0 (by omega)
  obtain ⟨y1, e1⟩ := some_of_len hx6 1 (by omega)
  obtain ⟨y2, e2⟩ := some_of_len hx6 2 (by omega)
  obtain ⟨y3, e3⟩ := some_of_len hx6 3 (by omega)
  obtain ⟨y4, e4⟩ := some_of_len hx6 4 (by omega)
  obtain ⟨y5, e5⟩ := some_of_len hx6 5 (by omega)
  have g0 := hf 0 _ rfl
  have g1 := hf 1 _ rfl
  have g2 := hf 2 _ rfl
  have g3 := hf 3 _ rfl
  have g4 := hf 4 _ rfl
  have g5 := hf 5 _ rfl
  clear hf h hxl hl
  rw [e0] at g0; rw [e1] at g1; rw [e2] at g2; rw [e3] at g3; rw [e4] at g4; rw [e5] at g5
  simp [kS, kB, kL, kM] at g0 g1 g2 g3 g4 g5
  obtain ⟨s0, h0, _, z0⟩ := DataW.trod_string Tryz.underlying9 g0
  obtain ⟨s1, h1, _, z1⟩ := DataW.trod_string Tryz.underlying9 g1
  obtain ⟨s2, h2, _, z2⟩ := DataW.trod_string Tryz.underlying9 g2
  obtain ⟨d, h4, _⟩ := DataW.trod_bool Tryz.underlying4 g4
  simp at h0 h1 h2 h4
  subst h0 h1 h2 h4
  obtain ⟨bs, r3, n3, m3⟩ := open_sums g3
  obtain ⟨ls, r5, n5, m5⟩ := open_texts g5
  refine ⟨⟨s0.data.toList, s1.data.toList, s2.data.toList, bs, d, ls⟩, c3, c5, by simp, r3, r5, ?_⟩
  exact ⟨by simpa using z0, by simpa using z1, by simpa using z2, n3, m3, n5, m5⟩

set_option maxRecDepth 100000 in
theorem open_pack {r : Reach} {b0 : Nat} {v : Value} {d : DataW H} {p : List MemPlace} (hv : Value.okWide Tryz.prog W r b0 58 v) (h : DataW.Trod enc Tryz.prog W 0 spare held 58 v d p) :
    ∃ (p : Pk) (a b : Value), v = .agg #[.string ⟨p.name.toArray⟩, .string ⟨p.ver.toArray⟩, .string ⟨p.src.toArray⟩, a, .bool p.dev, b] ∧ RdB W a p.sums ∧ RdS W b p.needs ∧ PkFits p := by
  obtain ⟨cs, rfl, hsz⟩ := okWide_struct Tryz.underlying58 hv
  obtain ⟨fuel, hf⟩ := h
  obtain ⟨p, a, b, hcs, r1, r2, r3⟩ := open_packc (by simpa [Value.cells] using hf)
  exact ⟨p, a, b, by cases cs; simp at hcs; rw [hcs], r1, r2, r3⟩
end
end Go.Proofs.YtcfkhfbhmjfhdaaGreatDoor
