/-
  A slice that reads as a list of pairs of texts (bounds, sums); plain facts on such lists.
-/
import Derived.Test.YtnodhkjgnegkcaaGreatDoorHeapC
import Derived.Test.YtnodhkjgnegkcaaGreatDoorSmD

namespace Go.Proofs.YtnodhkjgnegkcaaGreatDoor
open Go.RowKit

/-- A bound: its lower text, its upper text. -/
abbrev Bd := List UInt8 × List UInt8
/-- The value v reads as the bounds bs. -/
def RdB (w : World) (v : Value) (bs : List Bd) : Prop := ∃ A cap, v = .slice A bs.length cap ∧ (0 < bs.length → ∃ g off, A = some ⟨g, off, none⟩ ∧ g < w.heap.size ∧ ∀ k (h : k < bs.length), w.cell? ⟨g, off + k * 2, none⟩ = some (sv bs[k].1) ∧ w.cell? ⟨g, off + k * 2 + 1, none⟩ = some (sv bs[k].2))
theorem RdB.below {w w' : World} {v : Value} {bs : List Bd} (h : RdB w v bs) (hb : Below w.heap.size w w') : RdB w' v bs := by
  obtain ⟨A, cap, hv, hc⟩ := h
  refine ⟨A, cap, hv, fun h0 => ?_⟩
  obtain ⟨g, off, hA, hg, hk⟩ := hc h0
  exact ⟨g, off, hA, Nat.lt_of_lt_of_le hg hb.size, fun k h => ⟨(hb.cell (p := ⟨g, off + k * 2, none⟩) hg).trans (hk k h).1, (hb.cell (p := ⟨g, off + k * 2 + 1, none⟩) hg).trans (hk k h).2⟩⟩
theorem rdB_alloc {w : World} {v : Value} {bs : List Bd} (h : RdB w v bs) (o : Obj) : RdB (w.alloc o) v bs := h.below ((Below.refl _ _).alloc (Nat.le_refl _) _)

/-- A list of bounds as cells. -/
def flat2 : List Bd → List Value
  | [] => []
  | p :: t => sv p.1 :: sv p.2 :: flat2 t
theorem flat2_app (l m : List Bd) : flat2 (l ++ m) = flat2 l ++ flat2 m := by
  induction l with
  | nil => rfl
  | cons a t ih => simp [flat2, ih]
theorem flat2_len (l : List Bd) : (flat2 l).length = l.length * 2 := by
  induction l with
  | nil => rfl
  | cons a t ih => simp only [flat2, List.length_cons, ih]; omega
theorem flat2_get : ∀ (l : List Bd) (k : Nat) (h : k < l.length), (flat2 l)[k * 2]? = some (sv l[k].1) ∧ (flat2 l)[k * 2 + 1]? = some (sv l[k].2)
  | [], k, h => by simp at h
  | a :: t, 0, _ => by simp [flat2]
  | a :: t, k + 1, h => by
    have := flat2_get t k (by simpa using h)
    rw [show (k + 1) * 2 = k * 2 + 2 by omega, show k * 2 + 2 + 1 = (k * 2 + 1) + 2 by omega]
    simpa [flat2] using this
theorem flat2_set : ∀ (l : List Bd) (k : Nat) (x : Bd), ((flat2 l).set (k * 2) (sv x.1)).set (k * 2 + 1) (sv x.2) = flat2 (l.set k x)
  | [], k, x => by simp [flat2]
  | a :: t, 0, x => by simp [flat2]
  | a :: t, k + 1, x => by
    have := flat2_set t k x
    rw [show (k + 1) * 2 = k * 2 + 2 by omega, show k * 2 + 2 + 1 = (k * 2 + 1) + 2 by omega]
    simp [flat2, this]

/-- How many letters there are in bounds. -/
def smB (bs : List Bd) : Nat := (bs.map fun p => p.1.length + p.2.length).sum
def szB (left : Int) (bs : List Bd) : Int := if (bs.length : Int) + (smB bs : Int) ≤ left then left - (bs.length : Int) - (smB bs : Int) else -1
theorem smB_snoc (bs : List Bd) (k : Nat) (h : k < bs.length) : smB (bs.take (k + 1)) = smB (bs.take k) + (bs[k].1.length + bs[k].2.length) := by
  unfold smB; rw [List.take_succ_eq_append_getElem h]; simp only [List.map_append, List.sum_append, List.map_cons, List.map_nil, List.sum_cons, List.sum_nil]; omega
theorem smB_le (bs : List Bd) (k : Nat) : smB (bs.take k) ≤ smB bs := by
  have : smB bs = smB (bs.take k) + smB (bs.drop k) := by unfold smB; rw [← List.sum_append, ← List.map_append, List.take_append_drop]
  omega
theorem smB_mem {bs : List Bd} : ∀ b ∈ bs, b.1.length + b.2.length ≤ smB bs := by
  induction bs with
  | nil => intro l h; cases h
  | cons a t ih =>
    intro l h
    have e : smB (a :: t) = a.1.length + a.2.length + smB t := by unfold smB; simp
    rcases List.mem_cons.1 h with rfl | h
    · omega
    · have := ih l h; omega
theorem szB_yes {left : Int} {bs : List Bd} (h : (bs.length : Int) + (smB bs : Int) ≤ left) : szB left bs = left - (bs.length : Int) - (smB bs : Int) := if_pos h
theorem szB_no {left : Int} {bs : List Bd} (h : ¬ (bs.length : Int) + (smB bs : Int) ≤ left) : szB left bs = -1 := if_neg h
/-- No more than so many bounds and letters. -/
def SmB (bs : List Bd) : Prop := bs.length + smB bs ≤ 1048576
theorem szB_good {bs : List Bd} {left : Int} (hl : left ≤ 1048576) (h : szB left bs ≠ -1) : SmB bs := by
  unfold szB at h
  split at h
  · unfold SmB; omega
  · exact absurd rfl h

/-- Two numbers taken off one after the other. -/
def off2 (left : Int) (x y : Nat) : Int := if left - x < 0 then -1 else if left - x - y < 0 then -1 else left - x - y

/-- The first k bounds, then empty ones. -/
def tkB (k : Nat) (bs : List Bd) : List Bd := bs.take k ++ List.replicate (bs.length - k) ([], [])
theorem tkB_len (k : Nat) (bs : List Bd) (h : k ≤ bs.length) : (tkB k bs).length = bs.length := by simp [tkB]; omega
theorem tkB_zero (bs : List Bd) : tkB 0 bs = List.replicate bs.length ([], []) := by simp [tkB]
theorem tkB_all (bs : List Bd) : tkB bs.length bs = bs := by simp [tkB]
theorem tkB_set (k : Nat) (bs : List Bd) (h : k < bs.length) : (tkB k bs).set k bs[k] = tkB (k + 1) bs := by
  unfold tkB
  rw [List.set_append_right _ _ (by simp; omega), List.take_succ_eq_append_getElem h, List.append_assoc]
  congr 1
  have e : bs.length - k = (bs.length - (k + 1)) + 1 := by omega
  have e2 : k - (List.take k bs).length = 0 := by simp; omega
  rw [e2, e, List.replicate_succ]
  rfl
theorem flat2_rep : ∀ n : Nat, flat2 (List.replicate n ([], [])) = (List.replicate (n * 2) (sv []))
  | 0 => rfl
  | n + 1 => by
    rw [List.replicate_succ, show (n + 1) * 2 = n * 2 + 1 + 1 by omega, List.replicate_succ, List.replicate_succ]
    simp [flat2, flat2_rep n]
end Go.Proofs.YtnodhkjgnegkcaaGreatDoor
