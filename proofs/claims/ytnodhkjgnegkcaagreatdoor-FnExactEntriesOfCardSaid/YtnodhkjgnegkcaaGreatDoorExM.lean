/-
  The range of one version alone in plain words.
-/
import Derived.Test.YtnodhkjgnegkcaaGreatDoorRdIs
import Derived.Test.YtnodhkjgnegkcaaGreatDoorTextS
import Derived.Test.YtnodhkjgnegkcaaGreatDoorRdB
namespace Go.Proofs.YtnodhkjgnegkcaaGreatDoor
open Go.RowKit

/-- The text below which a version is alone. -/
def exHigh (l : List UInt8) : List UInt8 := if readP l = [] then verText (readA l 0) (readA l 1) (readA l 2 + 1) [[48]] else verText (readA l 0) (readA l 1) (readA l 2) (readP l ++ [[48]])
def exOk (l : List UInt8) : Bool := readOk l && !(exHigh l).isEmpty
/-- The bounds that Exact hands back. -/
def exB (l : List UInt8) : List Bd := if exOk l = true then [(l, exHigh l)] else []
theorem exB_yes {l : List UInt8} (h : exOk l = true) : exB l = [(l, exHigh l)] := if_pos h
theorem exB_no {l : List UInt8} (h : exOk l = false) : exB l = [] := if_neg (by rw [h]; simp)

theorem readOk_form {l : List UInt8} (h : readOk l = true) : ∃ p0 p1 p2, partsL l = [p0, p1, p2] ∧ verOk (readL p0) (readL p1) (readL p2) (tailL l) = true ∧ readA l 0 = readL p0 ∧ readA l 1 = readL p1 ∧ readA l 2 = readL p2 ∧ readP l = tailL l := by
  have h' := h
  unfold readOk at h'
  split at h'
  · rename_i p0 p1 p2 e
    refine ⟨p0, p1, p2, e, h', ?_, ?_, ?_, ?_⟩
    · simp [readA, h, e]
    · simp [readA, h, e]
    · simp [readA, h, e]
    · simp [readP, h]
  · cases h'
theorem read_ver {l : List UInt8} (h : readOk l = true) : verOk (readA l 0) (readA l 1) (readA l 2) (readP l) = true := by
  obtain ⟨p0, p1, p2, _, hv, h0, h1, h2, h3⟩ := readOk_form h
  rw [h0, h1, h2, h3]; exact hv
theorem read_back {l : List UInt8} (h : readOk l = true) : verText (readA l 0) (readA l 1) (readA l 2) (readP l) = l := by
  obtain ⟨p0, p1, p2, hp, hv, h0, h1, h2, h3⟩ := readOk_form h
  rw [h0, h1, h2, h3]; exact read_text hp hv
theorem verTextOf_ne (a b c : Int) (ls : List (List UInt8)) : verTextOf a b c ls ≠ [] := by unfold verTextOf; simp
theorem verText_empty (a b c : Int) (ls : List (List UInt8)) : (verText a b c ls).isEmpty = !(verOk a b c ls) := by
  unfold verText
  cases h : verOk a b c ls with
  | true => rw [if_pos rfl]; cases hv : verTextOf a b c ls with
    | nil => exact absurd hv (verTextOf_ne a b c ls)
    | cons x y => rfl
  | false => rfl
theorem idx_app (c : UInt8) (r : List UInt8) : ∀ l : List UInt8, 0 ≤ Lib.indexByte l c → Lib.indexByte (l ++ r) c = Lib.indexByte l c
  | [], h => by simp [Lib.indexByte] at h
  | b :: l, h => by
    by_cases hb : b = c
    · rw [List.cons_append, idx_hit _ hb, idx_hit _ hb]
    · rw [idx_miss l hb] at h
      by_cases h1 : Lib.indexByte l c = -1
      · rw [if_pos h1] at h; omega
      · have hg := idx_ge l c
        rw [List.cons_append, idx_miss _ hb, idx_miss _ hb, idx_app c r l (by omega)]
theorem cutL_cons (m c : UInt8) (l : List UInt8) : cutL m (c :: l) = if c = m then [] :: cutL m l else attach [c] (cutL m l) := rfl
theorem cutL_app (m : UInt8) (r : List UInt8) : ∀ x : List UInt8, cutL m (x ++ m :: r) = cutL m x ++ cutL m r
  | [] => by rw [List.nil_append, cutL_cons, if_pos rfl]; rfl
  | c :: x => by
    have ih := cutL_app m r x
    rw [List.cons_append, cutL_cons, cutL_cons]
    by_cases h : c = m
    · rw [if_pos h, if_pos h, ih]; rfl
    · rw [if_neg h, if_neg h, ih]
      cases hx : cutL m x with
      | nil => exact absurd hx (cutL_ne m x)
      | cons y ys => rfl
theorem tail_dash {l : List UInt8} (h : tailL l ≠ []) : 0 ≤ dash l := by
  by_cases hd : 0 ≤ dash l
  · exact hd
  · exact absurd (tailL_no hd) h
theorem more_dash {l : List UInt8} (hd : 0 ≤ dash l) : dash (l ++ [46, 48]) = dash l := idx_app 45 [46, 48] l hd
theorem more_head {l : List UInt8} (hd : 0 ≤ dash l) : headL (l ++ [46, 48]) = headL l := by
  have hlt : dash l < l.length := idx_lt l 45
  rw [headL_yes (by rw [more_dash hd]; exact hd), headL_yes hd, more_dash hd, List.take_append_of_le_length (by omega)]
theorem more_tail {l : List UInt8} (hd : 0 ≤ dash l) : tailL (l ++ [46, 48]) = tailL l ++ [[48]] := by
  have hlt : dash l < l.length := idx_lt l 45
  rw [tailL_yes (by rw [more_dash hd]; exact hd), tailL_yes hd, more_dash hd, List.drop_append_of_le_length (by omega)]
  exact cutL_app 46 [48] _
/-- A version with identifiers: one more of them is read just where there is room. -/
theorem more_ok {l : List UInt8} (h : readOk l = true) (hp : readP l ≠ []) : readOk (l ++ [46, 48]) = !(exHigh l).isEmpty := by
  obtain ⟨p0, p1, p2, hpt, hv, h0, h1, h2, h3⟩ := readOk_form h
  have hd := tail_dash (by rw [← h3]; exact hp)
  have hpp : partsL (l ++ [46, 48]) = [p0, p1, p2] := by unfold partsL at hpt ⊢; rw [more_head hd]; exact hpt
  rw [readOk_of hpp, more_tail hd]
  unfold exHigh
  rw [if_neg hp, verText_empty, h0, h1, h2, h3, Bool.not_not]
theorem more_text {l : List UInt8} (h : readOk l = true) (hp : readP l ≠ []) (he : (exHigh l).isEmpty = false) : exHigh l = l ++ [46, 48] := by
  have hb := read_back h
  have hv := read_ver h
  have hx : verOk (readA l 0) (readA l 1) (readA l 2) (readP l ++ [[48]]) = true := by
    unfold exHigh at he; rw [if_neg hp, verText_empty] at he; simpa using he
  unfold exHigh
  rw [if_neg hp]
  unfold verText at hb ⊢
  rw [if_pos hx]
  rw [if_pos hv] at hb
  conv => rhs; rw [← hb]
  unfold verTextOf
  rw [preText_snoc]
  have : ¬ (readP l).length = 0 := fun e => hp (List.eq_nil_of_length_eq_zero e)
  rw [if_neg this]
  simp
theorem z48ok : preOk [48] = true := by decide +kernel
theorem plus_ok {a b c : Int} (h : verOk a b c [] = true) : verOk a b (c + 1) [[48]] = decide (c < 999999999) ∧ verOk a b (c + 1) [] = decide (c < 999999999) := by
  have hv := verOk_num h
  have e1 : verOk a b (c + 1) [[48]] = (numOk a && numOk b && numOk (c + 1) && decide (([[48]] : List (List UInt8)).length ≤ 5)) := verOk_fin (by rw [List.all_cons, z48ok]; rfl)
  have e2 : verOk a b (c + 1) [] = (numOk a && numOk b && numOk (c + 1) && decide (([] : List (List UInt8)).length ≤ 5)) := verOk_fin rfl
  rw [e1, e2]
  have na : numOk a = true := by unfold numOk; simp; omega
  have nb : numOk b = true := by unfold numOk; simp; omega
  rw [na, nb]
  by_cases hc : c < 999999999
  · have nc : numOk (c + 1) = true := by unfold numOk; simp; omega
    rw [nc, decide_eq_true hc]; exact ⟨rfl, rfl⟩
  · have nc : numOk (c + 1) = false := by unfold numOk; simp; omega
    rw [nc, decide_eq_false hc]; exact ⟨rfl, rfl⟩
theorem plain_high {l : List UInt8} (hp : readP l = []) : exHigh l = verText (readA l 0) (readA l 1) (readA l 2 + 1) [[48]] := if_pos hp
theorem plain_empty {l : List UInt8} (h : readOk l = true) (hp : readP l = []) : (exHigh l).isEmpty = !(decide (readA l 2 < 999999999)) := by
  have hv := read_ver h
  rw [hp] at hv
  rw [plain_high hp, verText_empty, (plus_ok hv).1]
theorem exOk_of {l : List UInt8} (h : readOk l = true) : exOk l = !(exHigh l).isEmpty := by unfold exOk; rw [h, Bool.true_and]
theorem exOk_bad {l : List UInt8} (h : readOk l = false) : exOk l = false := by unfold exOk; rw [h]; rfl
theorem verText_le {a b c : Int} {ls : List (List UInt8)} : (verText a b c ls).length ≤ 200 := by
  unfold verText
  split
  · rename_i h
    obtain ⟨ha, hb, hc, h5⟩ := verOk_num h
    have la := dec_len ha.1 ha.2
    have lb := dec_len hb.1 hb.2
    have lc := dec_len hc.1 hc.2
    have lp := preText_len (verOk_len h) ls.length (Nat.le_refl _)
    rw [List.take_length] at lp
    unfold verTextOf
    simp
    omega
  · simp
theorem exHigh_le (l : List UInt8) : (exHigh l).length ≤ 200 := by unfold exHigh; split <;> exact verText_le
end Go.Proofs.YtnodhkjgnegkcaaGreatDoor
