/-
  Lists of texts: small laws on worlds.
-/
import Derived.Test.YtnodhkjgnegkcaaGreatDoorRdL
namespace Go.Proofs.YtnodhkjgnegkcaaGreatDoor
open Go.RowKit

theorem bcell {W w1 : World} (hb : Below W.heap.size W w1) : (∀ b o, b < W.heap.size → w1.cell? ⟨b, o, none⟩ = W.cell? ⟨b, o, none⟩) ∧ (∀ b o, b < W.heap.size → w1.frozen? ⟨b, o, none⟩ = W.frozen? ⟨b, o, none⟩) :=
  ⟨fun b o h => hb.cell (p := ⟨b, o, none⟩) h, fun b o h => hb.frozen (p := ⟨b, o, none⟩) h⟩
theorem Strs.weaken {w : World} {base base' : Nat} {v : Value} {l : List (List UInt8)} (h : Strs w base v l) (hb : base' ≤ base) : Strs w base' v l := by
  refine ⟨h.1, ?_⟩
  rcases h.2 with h | ⟨g, cap, cur, hv, hg, hh, hr⟩
  · exact .inl h
  · exact .inr ⟨g, cap, cur, hv, Nat.le_trans hb hg, hh, hr⟩
theorem Strs.other {w : World} {base g n cap : Nat} {l : List (List UInt8)} (h : Strs w base (.slice (some ⟨g, 0, none⟩) n cap) l) (b o : Nat) (x : Value) (hne : b ≠ g) : Strs (w.setCell ⟨b, o, none⟩ x) base (.slice (some ⟨g, 0, none⟩) n cap) l :=
  World.ownsRow.kept h (row := some b) ⟨rfl, rfl, rfl, by simp, fun k _ hk => heap_setCell_other w ⟨b, o, none⟩ k x (fun e => hk (by simp [e]))⟩ (by right; simp [Value.ownBlock]; omega)
theorem Strs.lo {w : World} {base g n cap : Nat} {l : List (List UInt8)} (h : Strs w base (.slice (some ⟨g, 0, none⟩) n cap) l) : base ≤ g := h.owned g rfl
theorem rdS_alloc {w : World} {v : Value} {ls : List (List UInt8)} (h : RdS w v ls) (o : Obj) : RdS (w.alloc o) v ls := h.below ((Below.refl _ _).alloc (Nat.le_refl _) _)

theorem size_of (l : List UInt8) : (⟨l.toArray⟩ : ByteArray).size = l.length := by show l.toArray.size = _; simp

theorem Strs.nil (w : World) (base : Nat) : Strs w base (.slice none 0 0) [] := ⟨by simp, .inl ⟨rfl, rfl⟩⟩
end Go.Proofs.YtnodhkjgnegkcaaGreatDoor
