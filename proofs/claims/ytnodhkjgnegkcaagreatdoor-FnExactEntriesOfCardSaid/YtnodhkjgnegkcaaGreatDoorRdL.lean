/-
  A slice that reads as a list of texts.
-/
import Derived.Test.YtnodhkjgnegkcaaGreatDoorStrs
import Derived.Deep.QuietTactic
import Derived.BigQuiet
import Derived.Deep.RegionHeld3
namespace Go.Proofs.YtnodhkjgnegkcaaGreatDoor
open Go.RowKit

theorem below_drewN (n : Nat) (W : World) (k : Nat) : Below n W (W.drewN k) := ⟨rfl, rfl, rfl, Nat.le_refl _, fun _ _ => rfl⟩
theorem Strs.set {w : World} {base g cap : Nat} {l : List (List UInt8)} (h : Strs w base (.slice (some ⟨g, 0, none⟩) l.length cap) l) (k : Nat) (x : List UInt8) :
    Strs (w.setCell ⟨g, k, none⟩ (sv x)) base (.slice (some ⟨g, 0, none⟩) (l.set k x).length cap) (l.set k x) := by
  unfold Strs at h ⊢
  rw [List.length_set, List.map_set]
  exact (World.ownsRow.stored h k (sv x)).1

theorem keep_cell {W W' : World} {g k : Nat} {v : Value} (hb : Below W.heap.size W W') (hg : g < W.heap.size) (hc : W.cell? ⟨g, k, none⟩ = some v) : W'.cell? ⟨g, k, none⟩ = some v ∧ g < W'.heap.size :=
  ⟨(hb.cell (p := ⟨g, k, none⟩) hg).trans hc, Nat.lt_of_lt_of_le hg hb.size⟩

/-- The value v reads as the texts ls. -/
def RdS (w : World) (v : Value) (ls : List (List UInt8)) : Prop := ∃ A cap, v = .slice A ls.length cap ∧ (0 < ls.length → ∃ g off, A = some ⟨g, off, none⟩ ∧ g < w.heap.size ∧ ∀ k (h : k < ls.length), w.cell? ⟨g, off + k, none⟩ = some (sv ls[k]))
theorem RdS.of_strs {w : World} {base : Nat} {v : Value} {ls : List (List UInt8)} (h : Strs w base v ls) : RdS w v ls := by
  rcases h.form with ⟨rfl, rfl⟩ | ⟨g, cap, rfl, _, hg⟩
  · exact ⟨none, 0, rfl, fun h => absurd h (by simp)⟩
  · exact ⟨_, cap, rfl, fun _ => ⟨g, 0, rfl, hg, fun k hk => by rw [Nat.zero_add]; exact h.cell k hk⟩⟩
theorem RdS.below {w w' : World} {v : Value} {ls : List (List UInt8)} (h : RdS w v ls) (hb : Below w.heap.size w w') : RdS w' v ls := by
  obtain ⟨A, cap, hv, hc⟩ := h
  refine ⟨A, cap, hv, fun h0 => ?_⟩
  obtain ⟨g, off, hA, hg, hk⟩ := hc h0
  exact ⟨g, off, hA, Nat.lt_of_lt_of_le hg hb.size, fun k h => (hb.cell (p := ⟨g, off + k, none⟩) hg).trans (hk k h)⟩

end Go.Proofs.YtnodhkjgnegkcaaGreatDoor
