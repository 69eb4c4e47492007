/-
  A slice that reads as a list of bounds (two texts each), and a row of bounds of the call's own.
-/
import Derived.Test.YtjpclglklmlhlabGreatDoorHeap

namespace Go.Proofs.YtjpclglklmlhlabGreatDoor
open Go.RowKit

/-- A bound: its lower text, its upper text. -/
abbrev Bd := List UInt8 × List UInt8
/-- The value v reads as the bounds bs. -/
def RdB (w : World) (v : Value) (bs : List Bd) : Prop := ∃ A cap, v = .slice A bs.length cap ∧ (0 < bs.length → ∃ g off, A = some ⟨g, off, none⟩ ∧ g < w.heap.size ∧ ∀ k (h : k < bs.length), w.cell? ⟨g, off + k * 2, none⟩ = some (sv bs[k].1) ∧ w.cell? ⟨g, off + k * 2 + 1, none⟩ = some (sv bs[k].2))
theorem RdB.below {w w' : World} {v : Value} {bs : List Bd} (h : RdB w v bs) (hb : Below w.heap.size w w') : RdB w' v bs := by
  obtain ⟨A, cap, hv, hc⟩ := h
  refine ⟨A, cap, hv, fun h0 => ?_⟩
  obtain ⟨g, off, hA, hg, hk⟩ := hc h0
  exact ⟨g, off, hA, Nat.lt_of_lt_of_le hg hb.size, fun k h => ⟨(hb.cell (p := ⟨g, off + k * 2, none⟩) hg).trans (hk k h).1, (hb.cell (p := ⟨g, off + k * 2 + 1, none⟩) hg).trans (hk k h).2⟩⟩
theorem rdB_alloc {w : World} {v : Value} {bs : List Bd} (h : RdB w v bs) (o : Obj) : RdB (w.alloc o) v bs := h.below ((Below.refl _ _).alloc (Nat.le_refl _) _)

/-- A list of bounds as cells. -/
def flat2 : List Bd → List Value
  | [] => []
  | p :: t => sv p.1 :: sv p.2 :: flat2 t
theorem flat2_app (l m : List Bd) : flat2 (l ++ m) = flat2 l ++ flat2 m := by
  induction l with
  | nil => rfl
  | cons a t ih => simp [flat2, ih]
theorem flat2_len (l : List Bd) : (flat2 l).length = l.length * 2 := by
  induction l with
  | nil => rfl
  | cons a t ih => simp only [flat2, List.length_cons, ih]; omega
theorem flat2_get : ∀ (l : List Bd) (k : Nat) (h : k < l.length), (flat2 l)[k * 2]? = some (sv l[k].1) ∧ (flat2 l)[k * 2 + 1]? = some (sv l[k].2)
  | [], k, h => by simp at h
  | a :: t, 0, _ => by simp [flat2]
  | a :: t, k + 1, h => by
    have := flat2_get t k (by simpa using h)
    rw [show (k + 1) * 2 = k * 2 + 2 by omega, show k * 2 + 2 + 1 = (k * 2 + 1) + 2 by omega]
    simpa [flat2] using this
theorem flat2_set : ∀ (l : List Bd) (k : Nat) (x : Bd), ((flat2 l).set (k * 2) (sv x.1)).set (k * 2 + 1) (sv x.2) = flat2 (l.set k x)
  | [], k, x => by simp [flat2]
  | a :: t, 0, x => by simp [flat2]
  | a :: t, k + 1, x => by
    have := flat2_set t k x
    rw [show (k + 1) * 2 = k * 2 + 2 by omega, show k * 2 + 2 + 1 = (k * 2 + 1) + 2 by omega]
    simp [flat2, this]

/-- v is the call's own row of these bounds. -/
def Bnds (w : World) (base : Nat) (v : Value) (bs : List Bd) : Prop := w.ownsRow base 58 2 v bs.length (flat2 bs)

theorem bndinfo : (Tryz.prog.info? 58).map (fun i => (i.zero, i.size, i.bytes)) = some (some (.agg #[.string ⟨#[]⟩, .string ⟨#[]⟩]), 2, 32) := by kernel_rfl

theorem Bnds.form {w : World} {base : Nat} {v : Value} {l : List Bd} (h : Bnds w base v l) : (v = .slice none 0 0 ∧ l = []) ∨ ∃ g cap, v = .slice (some ⟨g, 0, none⟩) l.length cap ∧ base ≤ g ∧ g < w.heap.size := by
  rcases h.2 with ⟨hv, hl⟩ | ⟨g, cap, cur, hv, hb, hh, _⟩
  · left
    refine ⟨hv, ?_⟩
    cases l with
    | nil => rfl
    | cons a t => simp at hl
  · right
    refine ⟨g, cap, hv, hb, ?_⟩
    rcases Nat.lt_or_ge g w.heap.size with hlt | hge
    · exact hlt
    · rw [Array.getElem?_eq_none hge] at hh; cases hh
theorem Bnds.alloc {w : World} {base : Nat} {v : Value} {l : List Bd} (h : Bnds w base v l) (o : Obj) : Bnds (w.alloc o) base v l := World.ownsRow.alloc h o
theorem Bnds.owned {w : World} {base : Nat} {v : Value} {l : List Bd} (h : Bnds w base v l) : ∀ g, v.ownBlock = some g → base ≤ g := by
  intro g hg
  rcases h.form with ⟨rfl, _⟩ | ⟨g', cap, rfl, hb, _⟩
  · simp [Value.ownBlock] at hg
  · simp [Value.ownBlock] at hg; omega
theorem Bnds.below {w w' : World} {base : Nat} {v : Value} {l : List Bd} (h : Bnds w base v l) (hb : Below w.heap.size w w') : Bnds w' base v l :=
  World.ownsRow.kept h (row := none) ⟨hb.os, hb.tape, hb.output, hb.size, fun i hi _ => hb.block i hi⟩ (by
    rcases h.form with ⟨rfl, _⟩ | ⟨g, cap, rfl, _, _⟩
    · left; rfl
    · right; simp [Value.ownBlock])
theorem Bnds.cell {w : World} {base : Nat} {l : List Bd} {g n cap : Nat} (h : Bnds w base (.slice (some ⟨g, 0, none⟩) n cap) l) (k : Nat) (hk : k < l.length) : w.cell? ⟨g, k * 2, none⟩ = some (sv l[k].1) ∧ w.cell? ⟨g, k * 2 + 1, none⟩ = some (sv l[k].2) := by
  have hadd : ∀ j, (⟨g, 0, none⟩ : Addr).add j = ⟨g, j, none⟩ := fun j => by unfold Addr.add; split <;> simp_all
  obtain ⟨e0, e1⟩ := flat2_get l k hk
  have h0 := World.ownsRow.cells (g := g) h rfl (k * 2) _ e0
  have h1 := World.ownsRow.cells (g := g) h rfl (k * 2 + 1) _ e1
  rw [hadd] at h0 h1
  exact ⟨h0, h1⟩
theorem RdB.of_bnds {w : World} {base : Nat} {v : Value} {bs : List Bd} (h : Bnds w base v bs) : RdB w v bs := by
  rcases h.form with ⟨rfl, rfl⟩ | ⟨g, cap, rfl, _, hg⟩
  · exact ⟨none, 0, rfl, fun h => absurd h (by simp)⟩
  · exact ⟨_, cap, rfl, fun _ => ⟨g, 0, rfl, hg, fun k hk => by rw [Nat.zero_add]; exact h.cell k hk⟩⟩
theorem Bnds.set {w : World} {base g cap : Nat} {l : List Bd} (h : Bnds w base (.slice (some ⟨g, 0, none⟩) l.length cap) l) (k : Nat) (x : Bd) :
    Bnds ((w.setCell ⟨g, k * 2, none⟩ (sv x.1)).setCell ⟨g, k * 2 + 1, none⟩ (sv x.2)) base (.slice (some ⟨g, 0, none⟩) (l.set k x).length cap) (l.set k x) := by
  unfold Bnds at h ⊢
  rw [List.length_set, ← flat2_set]
  exact (World.ownsRow.stored (World.ownsRow.stored h (k * 2) (sv x.1)).1 (k * 2 + 1) (sv x.2)).1
end Go.Proofs.YtjpclglklmlhlabGreatDoor
