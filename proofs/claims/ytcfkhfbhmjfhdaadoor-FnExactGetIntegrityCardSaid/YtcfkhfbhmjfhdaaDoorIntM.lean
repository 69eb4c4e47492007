/-
  The integrity text of sums in plain words.
-/
import Derived.Test.YtcfkhfbhmjfhdaaDoorB64
import Derived.Test.YtcfkhfbhmjfhdaaDoorRdB
import Derived.Lib.Join
import Derived.Test.YtcfkhfbhmjfhdaaDoorAlgM
namespace Go.Proofs.YtcfkhfbhmjfhdaaDoor
open Go.RowKit

def wordB (b : Bd) : List UInt8 := b.1 ++ 45 :: b64L b.2
def wordsB (bs : List Bd) : List (List UInt8) := (bs.filter fun b => algOk b.1).map wordB
def intT (bs : List Bd) : List UInt8 := Lib.join (wordsB bs) [32]
theorem wordsB_skip {bs : List Bd} {k : Nat} (h : k < bs.length) (ha : algOk bs[k].1 = false) : wordsB (bs.take (k + 1)) = wordsB (bs.take k) := by
  unfold wordsB; rw [List.take_succ_eq_append_getElem h, List.filter_append]; simp [ha]
theorem wordsB_more {bs : List Bd} {k : Nat} (h : k < bs.length) (ha : algOk bs[k].1 = true) : wordsB (bs.take (k + 1)) = wordsB (bs.take k) ++ [wordB bs[k]] := by
  unfold wordsB; rw [List.take_succ_eq_append_getElem h, List.filter_append]; simp [ha]
theorem join_one (x sep : List UInt8) : Lib.join [x] sep = x := by simp [Lib.join, List.intercalate]
theorem join_cons (x y sep : List UInt8) (l : List (List UInt8)) : Lib.join (x :: y :: l) sep = x ++ sep ++ Lib.join (y :: l) sep := by
  unfold Lib.join; simp [List.intercalate]
theorem join_snoc (sep z : List UInt8) : ∀ l : List (List UInt8), l ≠ [] → Lib.join (l ++ [z]) sep = Lib.join l sep ++ sep ++ z
  | [], h => absurd rfl h
  | [x], _ => by rw [List.cons_append, List.nil_append, join_cons, join_one, join_one]
  | x :: y :: l, _ => by
    have ih := join_snoc sep z (y :: l) (by simp)
    rw [List.cons_append, List.cons_append, join_cons, join_cons, ← List.cons_append, ih]
    simp
theorem wordB_ne (b : Bd) : wordB b ≠ [] := by unfold wordB; simp
theorem join_ne {l : List (List UInt8)} (sep : List UInt8) (h : ∀ x ∈ l, x ≠ []) : Lib.join l sep = [] ↔ l = [] := by
  cases l with
  | nil => simp [Lib.join, List.intercalate]
  | cons x l =>
    have hx := h x (by simp)
    cases l with
    | nil => rw [join_one]; simp [hx]
    | cons y l => rw [join_cons]; simp [hx]
theorem wordsB_ne (bs : List Bd) : ∀ x ∈ wordsB bs, x ≠ [] := by
  intro x hx
  unfold wordsB at hx
  obtain ⟨b, _, rfl⟩ := List.mem_map.1 hx
  exact wordB_ne b
theorem b64L_le (l : List UInt8) : (b64L l).length ≤ 2 * l.length + 4 := by unfold b64L; rw [b64G_len]; omega
theorem wordB_len (b : Bd) : (wordB b).length ≤ 2 * (b.1.length + b.2.length) + 5 := by
  have := b64L_le b.2
  unfold wordB; simp; omega
theorem join_len6 : ∀ l : List Bd, (Lib.join (l.map wordB) [32]).length ≤ 2 * smB l + 6 * l.length
  | [] => by simp [Lib.join, List.intercalate]
  | [b] => by
    have := wordB_len b
    have e : smB [b] = b.1.length + b.2.length := by unfold smB; simp
    rw [List.map_cons, List.map_nil, join_one, e]; simp; omega
  | b :: c :: l => by
    have ih := join_len6 (c :: l)
    have := wordB_len b
    have e : smB (b :: c :: l) = b.1.length + b.2.length + smB (c :: l) := by unfold smB; simp
    rw [List.map_cons, List.map_cons, join_cons, e, ← List.map_cons]
    simp at ih ⊢
    omega
theorem smB_filter (p : Bd → Bool) : ∀ l : List Bd, smB (l.filter p) ≤ smB l
  | [] => by simp
  | b :: l => by
    have ih := smB_filter p l
    have e : smB (b :: l) = b.1.length + b.2.length + smB l := by unfold smB; simp
    rw [List.filter_cons]
    split
    · have e2 : smB (b :: l.filter p) = b.1.length + b.2.length + smB (l.filter p) := by unfold smB; simp
      omega
    · omega
theorem intT_len (bs : List Bd) : (intT bs).length ≤ 2 * smB bs + 6 * bs.length := by
  have h := join_len6 (bs.filter fun b => algOk b.1)
  have h1 := smB_filter (fun b => algOk b.1) bs
  have h2 := List.length_filter_le (fun b : Bd => algOk b.1) bs
  show (Lib.join ((bs.filter fun b => algOk b.1).map wordB) [32]).length ≤ _
  omega
theorem intT_take {bs : List Bd} (h : SmB bs) (k : Nat) : (intT (bs.take k)).length ≤ 8388608 := by
  have h1 := intT_len (bs.take k)
  have h2 := smB_le bs k
  have h3 := List.length_take_le k bs
  have h4 : (bs.take k).length ≤ bs.length := by simp; omega
  unfold SmB at h
  omega
/-- The text so far, one more sum behind it. -/
theorem intT_first {bs : List Bd} {k : Nat} (h : k < bs.length) (ha : algOk bs[k].1 = true) (h0 : intT (bs.take k) = []) : intT (bs.take (k + 1)) = wordB bs[k] := by
  have := (join_ne [32] (wordsB_ne (bs.take k))).1 h0
  unfold intT; rw [wordsB_more h ha, this, List.nil_append, join_one]
theorem intT_next {bs : List Bd} {k : Nat} (h : k < bs.length) (ha : algOk bs[k].1 = true) (h0 : ¬ intT (bs.take k) = []) : intT (bs.take (k + 1)) = intT (bs.take k) ++ [32] ++ wordB bs[k] := by
  have : wordsB (bs.take k) ≠ [] := fun e => h0 ((join_ne [32] (wordsB_ne (bs.take k))).2 e)
  unfold intT; rw [wordsB_more h ha, join_snoc _ _ _ this]
theorem intT_skip {bs : List Bd} {k : Nat} (h : k < bs.length) (ha : algOk bs[k].1 = false) : intT (bs.take (k + 1)) = intT (bs.take k) := by unfold intT; rw [wordsB_skip h ha]
theorem intT_all (bs : List Bd) {k : Nat} (h : ¬ k < bs.length) : intT (bs.take k) = intT bs := by rw [List.take_of_length_le (by omega)]
/-- What spec's two tests say of an Alg. -/
theorem alg_ways (a : List UInt8) : (a = h1L ∧ algOk a = false) ∨ (¬ a = h1L ∧ longI a < 0 ∧ algOk a = false) ∨ (¬ a = h1L ∧ 0 ≤ longI a ∧ algOk a = true) := by
  by_cases h0 : a = h1L
  · subst h0; left; exact ⟨rfl, by decide⟩
  · by_cases h1 : a = sha1L
    · subst h1; right; right; exact ⟨by decide, by decide, by decide⟩
    · by_cases h2 : a = sha256L
      · subst h2; right; right; exact ⟨by decide, by decide, by decide⟩
      · by_cases h3 : a = sha512L
        · subst h3; right; right; exact ⟨by decide, by decide, by decide⟩
        · right; left
          refine ⟨h0, ?_, ?_⟩
          · unfold longI; rw [if_neg h1, if_neg h2, if_neg h0, if_neg h3]; omega
          · unfold algOk; simp [h1, h2, h3]
end Go.Proofs.YtcfkhfbhmjfhdaaDoor
