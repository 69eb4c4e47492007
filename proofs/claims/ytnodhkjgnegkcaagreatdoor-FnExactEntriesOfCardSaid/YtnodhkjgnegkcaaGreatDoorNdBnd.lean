/-
  A row of needs of the call's own.
-/
import Derived.Test.YtnodhkjgnegkcaaGreatDoorRdB
namespace Go.Proofs.YtnodhkjgnegkcaaGreatDoor.Ndk
open Go.RowKit

/-- v is the call's own row of these needs. -/
def Nds (w : World) (base : Nat) (v : Value) (bs : List Bd) : Prop := w.ownsRow base 65 2 v bs.length (flat2 bs)

theorem bndinfo : (Tryz.prog.info? 65).map (fun i => (i.zero, i.size, i.bytes)) = some (some (.agg #[.string ⟨#[]⟩, .string ⟨#[]⟩]), 2, 32) := by kernel_rfl

theorem Nds.form {w : World} {base : Nat} {v : Value} {l : List Bd} (h : Nds w base v l) : (v = .slice none 0 0 ∧ l = []) ∨ ∃ g cap, v = .slice (some ⟨g, 0, none⟩) l.length cap ∧ base ≤ g ∧ g < w.heap.size := by
  rcases h.2 with ⟨hv, hl⟩ | ⟨g, cap, cur, hv, hb, hh, _⟩
  · left
    refine ⟨hv, ?_⟩
    cases l with
    | nil => rfl
    | cons a t => simp at hl
  · right
    refine ⟨g, cap, hv, hb, ?_⟩
    rcases Nat.lt_or_ge g w.heap.size with hlt | hge
    · exact hlt
    · rw [Array.getElem?_eq_none hge] at hh; cases hh
theorem Nds.alloc {w : World} {base : Nat} {v : Value} {l : List Bd} (h : Nds w base v l) (o : Obj) : Nds (w.alloc o) base v l := World.ownsRow.alloc h o
theorem Nds.owned {w : World} {base : Nat} {v : Value} {l : List Bd} (h : Nds w base v l) : ∀ g, v.ownBlock = some g → base ≤ g := by
  intro g hg
  rcases h.form with ⟨rfl, _⟩ | ⟨g', cap, rfl, hb, _⟩
  · simp [Value.ownBlock] at hg
  · simp [Value.ownBlock] at hg; omega
theorem Nds.below {w w' : World} {base : Nat} {v : Value} {l : List Bd} (h : Nds w base v l) (hb : Below w.heap.size w w') : Nds w' base v l :=
  World.ownsRow.kept h (row := none) ⟨hb.os, hb.tape, hb.output, hb.size, fun i hi _ => hb.block i hi⟩ (by
    rcases h.form with ⟨rfl, _⟩ | ⟨g, cap, rfl, _, _⟩
    · left; rfl
    · right; simp [Value.ownBlock])
theorem Nds.cell {w : World} {base : Nat} {l : List Bd} {g n cap : Nat} (h : Nds w base (.slice (some ⟨g, 0, none⟩) n cap) l) (k : Nat) (hk : k < l.length) : w.cell? ⟨g, k * 2, none⟩ = some (sv l[k].1) ∧ w.cell? ⟨g, k * 2 + 1, none⟩ = some (sv l[k].2) := by
  have hadd : ∀ j, (⟨g, 0, none⟩ : Addr).add j = ⟨g, j, none⟩ := fun j => by unfold Addr.add; split <;> simp_all
  obtain ⟨e0, e1⟩ := flat2_get l k hk
  have h0 := World.ownsRow.cells (g := g) h rfl (k * 2) _ e0
  have h1 := World.ownsRow.cells (g := g) h rfl (k * 2 + 1) _ e1
  rw [hadd] at h0 h1
  exact ⟨h0, h1⟩
theorem RdB.of_bnds {w : World} {base : Nat} {v : Value} {bs : List Bd} (h : Nds w base v bs) : RdB w v bs := by
  rcases h.form with ⟨rfl, rfl⟩ | ⟨g, cap, rfl, _, hg⟩
  · exact ⟨none, 0, rfl, fun h => absurd h (by simp)⟩
  · exact ⟨_, cap, rfl, fun _ => ⟨g, 0, rfl, hg, fun k hk => by rw [Nat.zero_add]; exact h.cell k hk⟩⟩
theorem Nds.set {w : World} {base g cap : Nat} {l : List Bd} (h : Nds w base (.slice (some ⟨g, 0, none⟩) l.length cap) l) (k : Nat) (x : Bd) :
    Nds ((w.setCell ⟨g, k * 2, none⟩ (sv x.1)).setCell ⟨g, k * 2 + 1, none⟩ (sv x.2)) base (.slice (some ⟨g, 0, none⟩) (l.set k x).length cap) (l.set k x) := by
  unfold Nds at h ⊢
  rw [List.length_set, ← flat2_set]
  exact (World.ownsRow.stored (World.ownsRow.stored h (k * 2) (sv x.1)).1 (k * 2 + 1) (sv x.2)).1
end Go.Proofs.YtnodhkjgnegkcaaGreatDoor.Ndk
