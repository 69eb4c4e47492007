/-
  A list of texts that reads: each of its cells.
-/
import Derived.Test.YtcfkhfbhmjfhdaaGreatDoorGrM
namespace Go.Proofs.YtcfkhfbhmjfhdaaGreatDoor
open Go.RowKit

theorem rdS_at {w : World} {A : Option Addr} {n cap : Nat} {ls : List (List UInt8)} (h : RdS w (.slice A n cap) ls) (k : Nat) (hk : k < ls.length) : ∃ g off, A = some ⟨g, off, none⟩ ∧ g < w.heap.size ∧ ∀ j (hj : j < ls.length), w.cell? ⟨g, off + j, none⟩ = some (.string ⟨ls[j].toArray⟩) := by
  obtain ⟨A', ca', hv, ha⟩ := h
  simp only [Value.slice.injEq] at hv
  obtain ⟨rfl, _, rfl⟩ := hv
  obtain ⟨g, off, hA, hg, hc⟩ := ha (by omega)
  exact ⟨g, off, hA, hg, fun j hj => hc j hj⟩
end Go.Proofs.YtcfkhfbhmjfhdaaGreatDoor
