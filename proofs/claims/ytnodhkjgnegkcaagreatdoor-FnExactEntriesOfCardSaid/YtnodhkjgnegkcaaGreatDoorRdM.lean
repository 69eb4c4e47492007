/-
  Reading a version in plain words: both sides' tests agree.
-/
import Derived.Test.YtnodhkjgnegkcaaGreatDoorVerM
import Derived.Test.YtnodhkjgnegkcaaGreatDoorCut
import Derived.Test.YtnodhkjgnegkcaaGreatDoorIndexA
namespace Go.Proofs.YtnodhkjgnegkcaaGreatDoor
open Go.RowKit

def joinL (m : UInt8) : List (List UInt8) → List UInt8
  | [] => []
  | [x] => x
  | x :: y :: ys => x ++ m :: joinL m (y :: ys)
theorem joinL_cons (m : UInt8) (x : List UInt8) {X : List (List UInt8)} (h : X ≠ []) : joinL m (x :: X) = x ++ m :: joinL m X := by
  cases X with
  | nil => exact absurd rfl h
  | cons y ys => rfl
theorem joinL_attach (m c : UInt8) {X : List (List UInt8)} (h : X ≠ []) : joinL m (attach [c] X) = c :: joinL m X := by
  cases X with
  | nil => exact absurd rfl h
  | cons y ys =>
    cases ys with
    | nil => rfl
    | cons z zs => rfl
theorem join_cut (m : UInt8) : ∀ l : List UInt8, joinL m (cutL m l) = l
  | [] => rfl
  | c :: l => by
    unfold cutL
    split
    · rename_i h; rw [joinL_cons _ _ (cutL_ne m l), join_cut m l, h]; rfl
    · rw [joinL_attach _ _ (cutL_ne m l), join_cut m l]
theorem joinL_flat (m : UInt8) (x : List UInt8) : ∀ xs : List (List UInt8), joinL m (x :: xs) = x ++ xs.flatMap (fun y => m :: y)
  | [] => by simp [joinL]
  | y :: ys => by rw [joinL_cons _ _ (by simp), joinL_flat m y ys]; simp
theorem preText_join {xs : List (List UInt8)} (h : xs ≠ []) : preText xs = 45 :: joinL 46 xs := by
  cases xs with
  | nil => exact absurd rfl h
  | cons x xs => rw [joinL_flat]; rfl

/-- Where the identifiers begin. -/
def dash (l : List UInt8) : Int := Lib.indexByte l 45
def headL (l : List UInt8) : List UInt8 := if 0 ≤ dash l then l.take (dash l).toNat else l
def tailL (l : List UInt8) : List (List UInt8) := if 0 ≤ dash l then cutL 46 (l.drop ((dash l).toNat + 1)) else []
theorem idx_split (c : UInt8) : ∀ l : List UInt8, 0 ≤ Lib.indexByte l c → l = l.take (Lib.indexByte l c).toNat ++ c :: l.drop ((Lib.indexByte l c).toNat + 1)
  | [], h => by simp [Lib.indexByte] at h
  | b :: l, h => by
    by_cases hb : b = c
    · rw [idx_hit l hb]; simp [hb]
    · rw [idx_miss l hb] at h ⊢
      by_cases h1 : Lib.indexByte l c = -1
      · rw [if_pos h1] at h; omega
      · rw [if_neg h1] at h ⊢
        have hg := idx_ge l c
        have e : (Lib.indexByte l c + 1).toNat = (Lib.indexByte l c).toNat + 1 := by omega
        rw [e]
        have := idx_split c l (by omega)
        simp only [List.take_succ_cons, List.drop_succ_cons, List.cons_append]
        rw [← this]
theorem whole (l : List UInt8) : l = headL l ++ preText (tailL l) := by
  unfold headL tailL
  split
  · rename_i h
    rw [preText_join (cutL_ne _ _), join_cut]
    exact idx_split 45 l h
  · simp [preText]

theorem dec_read {l : List UInt8} (h : 0 ≤ readL l) : dec (readL l) = l := by
  rcases readL_cases l with h' | ⟨_, _, _, _, _, h1, h2⟩
  · omega
  · unfold dec Lib.itoa
    rw [h2, if_neg (by omega)]
    simpa using h1

/-- What is read, if the numbers are three. -/
def partsL (l : List UInt8) : List (List UInt8) := cutL 46 (headL l)
theorem read_text {l p0 p1 p2 : List UInt8} (h : partsL l = [p0, p1, p2]) (hv : verOk (readL p0) (readL p1) (readL p2) (tailL l) = true) : verText (readL p0) (readL p1) (readL p2) (tailL l) = l := by
  have hn : numOk (readL p0) = true ∧ numOk (readL p1) = true ∧ numOk (readL p2) = true := by unfold verOk at hv; simp at hv; exact ⟨hv.2.1.1.1, hv.2.1.1.2, hv.2.1.2⟩
  have h0 : 0 ≤ readL p0 := by have := hn.1; unfold numOk at this; simp at this; omega
  have h1 : 0 ≤ readL p1 := by have := hn.2.1; unfold numOk at this; simp at this; omega
  have h2 : 0 ≤ readL p2 := by have := hn.2.2; unfold numOk at this; simp at this; omega
  unfold verText
  rw [if_pos hv]
  unfold verTextOf
  rw [dec_read h0, dec_read h1, dec_read h2]
  have hj := join_cut 46 (headL l)
  unfold partsL at h
  rw [h] at hj
  conv => rhs; rw [whole l, ← hj]
  simp [joinL]
theorem cutL_nil_len (m : UInt8) : (cutL m []).length = 1 := rfl
theorem read_ok {l p0 p1 p2 : List UInt8} (h : partsL l = [p0, p1, p2]) (hv : ¬ verOk (readL p0) (readL p1) (readL p2) (tailL l) = true) : ¬ verText (readL p0) (readL p1) (readL p2) (tailL l) = l := by
  unfold verText
  rw [if_neg hv]
  intro e
  subst e
  have : (partsL []).length = 1 := rfl
  rw [h] at this
  simp at this
theorem len3 {α : Type} {l : List α} (h : l.length = 3) : ∃ a b c, l = [a, b, c] := by
  match l, h with
  | [a, b, c], _ => exact ⟨a, b, c, rfl⟩
theorem cutL_mem_le (m : UInt8) : ∀ (l : List UInt8), ∀ x ∈ cutL m l, x.length ≤ l.length
  | [], x, h => by simp [cutL] at h; simp [h]
  | c :: l, x, h => by
    unfold cutL at h
    split at h
    · rcases List.mem_cons.1 h with rfl | h
      · simp
      · have := cutL_mem_le m l x h; simp; omega
    · cases hc : cutL m l with
      | nil => exact absurd hc (cutL_ne m l)
      | cons q qs =>
        rw [hc] at h
        simp only [attach, List.mem_cons] at h
        rcases h with rfl | h
        · have := cutL_mem_le m l q (by rw [hc]; simp); simp; omega
        · have := cutL_mem_le m l x (by rw [hc]; simp [h]); simp; omega
theorem cutL_len_le (m : UInt8) : ∀ (l : List UInt8), (cutL m l).length ≤ l.length + 1
  | [] => by simp [cutL]
  | c :: l => by
    have ih := cutL_len_le m l
    unfold cutL
    split
    · simp; omega
    · cases h : cutL m l with
      | nil => simp [attach]
      | cons q qs => rw [h] at ih; simp [attach] at ih ⊢; omega

end Go.Proofs.YtnodhkjgnegkcaaGreatDoor
