/-
  Arguments opened: a list of needs.
-/
import Derived.Test.YtnodhkjgnegkcaaGreatDoorNdBnd
import Derived.Deep.SlicePairs
import Derived.Lib.SmallJoins
import Derived.OpenShut
namespace Go.Proofs.YtnodhkjgnegkcaaGreatDoor.Ndk
open Go.ChangeShapes Go.WideShapes Go.RowKit Go.Deep Go.Joins

section
variable {H : Type} {enc : TypeId × Value → H} {W : World} {spare : Nat → Bool} {held : Bool}

theorem open_needs {fuel : Nat} {v : Value} {x : DataW H × List MemPlace} (h : DataW.trod enc Tryz.prog W 0 spare held fuel 56 [v] = some x) :
    ∃ bs, RdB W v bs ∧ bs.length ≤ maxLen ∧ ∀ b ∈ bs, b.1.length ≤ maxLen ∧ b.2.length ≤ maxLen := by
  rcases open_slice_pairs Tryz.underlying56 Tryz.underlying163 (by kernel_rfl) rfl rfl (by kernel_rfl) (by kernel_rfl) h with ⟨hcs, _⟩ | ⟨a, len, cap, m, n, V0, V1, D0, D1, P0, P1, hcs, _, hl, hm, hmm, _, hc⟩
  · simp at hcs
    subst hcs
    exact ⟨[], ⟨none, 0, rfl, fun h => absurd h (by simp)⟩, by simp, fun l hl => by cases hl⟩
  · simp at hcs
    subst hcs
    have hlm : len ≤ m := by rw [hmm]; split <;> omega
    have each : ∀ i, i < m → ∃ q : ByteArray × ByteArray, W.cell? (a.add (i * 2)) = some (.string q.1) ∧ W.cell? (a.add (i * 2 + 1)) = some (.string q.2) ∧ q.1.size ≤ maxLen ∧ q.2.size ≤ maxLen := fun i hi => by
      obtain ⟨e0, e1, t0, t1⟩ := hc i hi
      obtain ⟨s0, h1, _, h3⟩ := DataW.trod_string Tryz.underlying9 t0
      obtain ⟨s1, g1, _, g3⟩ := DataW.trod_string Tryz.underlying9 t1
      simp at h1 g1
      exact ⟨(s0, s1), by rw [e0, h1], by rw [e1, g1], h3, g3⟩
    obtain ⟨Q, hQ⟩ := choose_lt each
    refine ⟨(List.range len).map (fun i => ((Q i).1.data.toList, (Q i).2.data.toList)), ⟨some a, cap, by simp, fun h0 => ?_⟩, by simp; omega, ?_⟩
    · simp at h0
      obtain ⟨b, off, spot⟩ := a
      have hspot : spot = none := by simpa [Addr.add] using World.cell?_spot (hQ 0 (by omega)).1
      subst hspot
      have h1 : ∀ k, k < len → W.cell? ⟨b, off + k * 2, none⟩ = some (.string (Q k).1) ∧ W.cell? ⟨b, off + k * 2 + 1, none⟩ = some (.string (Q k).2) := fun k hk => by
        obtain ⟨e0, e1, _, _⟩ := hQ k (by omega)
        rw [Go.WideShapes.add_plain] at e0 e1
        exact ⟨e0, by rw [Nat.add_assoc]; exact e1⟩
      refine ⟨b, off, rfl, cell_in (h1 0 h0).1, fun k hk => ?_⟩
      simp at hk
      rw [(h1 k hk).1, (h1 k hk).2]
      simp [sv]
    · intro l hl
      simp at hl
      obtain ⟨i, hi, rfl⟩ := hl
      obtain ⟨_, _, s0, s1⟩ := hQ i (by omega)
      exact ⟨by simpa using s0, by simpa using s1⟩

set_option maxRecDepth 100000 in
theorem open_needsV {r : Reach} {b0 : Nat} {v : Value} {d : DataW H} {p : List MemPlace} (hv : Value.okWide Tryz.prog W r b0 56 v) (h : DataW.Trod enc Tryz.prog W 0 spare held 56 v d p) :
    ∃ bs, RdB W v bs ∧ bs.length ≤ maxLen ∧ ∀ b ∈ bs, b.1.length ≤ maxLen ∧ b.2.length ≤ maxLen := by
  obtain ⟨a, len, cap, rfl⟩ := okWide_slice Tryz.underlying56 hv
  obtain ⟨fuel, hf⟩ := h
  exact open_needs (by simpa [Value.cells] using hf)
end
end Go.Proofs.YtnodhkjgnegkcaaGreatDoor.Ndk
