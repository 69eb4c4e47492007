/-
  The identifier of a key in plain words: how it is written, and how both sides read it.
-/
import Derived.Test.YtldfkdkppgammaaPairs
import Derived.Lib.IndexMore
namespace Go.Proofs.Ytldfkdkppgammaa
open Go.RowKit

/-- A byte that stands for itself in an identifier. -/
def idI (z : Int) : Bool := decide ((97 ≤ z ∧ z ≤ 122) ∨ (48 ≤ z ∧ z ≤ 57) ∨ (65 ≤ z ∧ z ≤ 90) ∨ z = 46)
def idB (c : UInt8) : List UInt8 := if idI (c.toNat : Int) = true then [c] else [45, hexC (c.toNat / 16), hexC (c.toNat % 16), 45]
def idL : List UInt8 → List UInt8
  | [] => []
  | c :: l => idB c ++ idL l
def idP : List UInt8 := [83, 80, 68, 88, 82, 101, 102, 45]
/-- The identifier of a key. -/
def idT (l : List UInt8) : List UInt8 := idP ++ idL l
theorem idL_app (a b : List UInt8) : idL (a ++ b) = idL a ++ idL b := by
  induction a with
  | nil => rfl
  | cons c l ih => simp [idL, ih]
theorem idB_len (c : UInt8) : (idB c).length ≤ 4 := by unfold idB; split <;> simp
theorem idL_len (l : List UInt8) : (idL l).length ≤ 4 * l.length := by
  induction l with
  | nil => simp [idL]
  | cons c l ih => have := idB_len c; simp [idL]; omega
theorem idB_safe {c : UInt8} (h : idI (c.toNat : Int) = true) : idB c = [c] := if_pos h
theorem idB_not {c : UInt8} (h : idI (c.toNat : Int) = false) : idB c = [45, hexC (c.toNat / 16), hexC (c.toNat % 16), 45] := if_neg (by rw [h]; simp)
theorem id_step (s : ByteArray) (k : Nat) (h : k < s.size) (x : List UInt8) (hx : idB s[k] = x) : idT (s.data.toList.take (k + 1)) = idT (s.data.toList.take k) ++ x := by
  unfold idT; rw [take_snoc s k h, idL_app]; simp [idL, hx]
theorem id_bound (s : ByteArray) (k : Nat) (hs : s.size ≤ 1048576) (hk : k ≤ s.size) : (idT (s.data.toList.take k)).length + 4 ≤ 16777216 := by
  have h := idL_len (s.data.toList.take k)
  have h2 : (s.data.toList.take k).length ≤ k := List.length_take_le _ _
  unfold idT idP; simp; omega
theorem idT_len (l : List UInt8) : (idT l).length ≤ 4 * l.length + 8 := by
  have h := idL_len l
  unfold idT idP; simp; omega
theorem id_ways (z : Int) : (97 ≤ z ∧ z ≤ 122) ∨ (48 ≤ z ∧ z ≤ 57) ∨ (65 ≤ z ∧ z ≤ 90) ∨ z = 46 ∨ idI z = false := by
  by_cases h : idI z = false
  · simp [h]
  · unfold idI at h; simp at h; omega
theorem id_yes {z : Int} (h : (97 ≤ z ∧ z ≤ 122) ∨ (48 ≤ z ∧ z ≤ 57) ∨ (65 ≤ z ∧ z ≤ 90) ∨ z = 46) : idI z = true := by unfold idI; simp; omega
theorem id_no {z : Int} (h : idI z = false) : ¬ (97 ≤ z ∧ z ≤ 122) ∧ ¬ (48 ≤ z ∧ z ≤ 57) ∧ ¬ (65 ≤ z ∧ z ≤ 90) ∧ ¬ z = 46 := by
  unfold idI at h; simp at h; omega

/-- The digits of a byte are read as that byte. -/
theorem pair_hex (c : UInt8) : pairV lowerL (hexC (c.toNat / 16)) (hexC (c.toNat % 16)) = some c := by
  have h : ∀ a : Nat, a < 16 → Lib.indexByte lowerL (hexC a) = (a : Int) := by decide +kernel
  have hc := c.toNat_lt
  unfold pairV
  rw [h (c.toNat / 16) (by omega), h (c.toNat % 16) (by omega), if_neg (by omega)]
  congr 1
  apply UInt8.toNat_inj.1
  simp
  omega
theorem hexC_dash (a : Nat) (h : a < 16) : ¬ hexC a = 45 := by
  have : ∀ a : Nat, a < 16 → ¬ hexC a = 45 := by decide +kernel
  exact this a h

/-- As spec reads what stands behind the beginning. -/
def idG : List UInt8 → Option (List UInt8)
  | [] => some []
  | c :: l => if c = 45 then
      match l with
      | a :: b :: _ :: r => match pairV lowerL a b with
        | some v => (idG r).map (v :: ·)
        | none => none
      | _ => none
    else (idG l).map (c :: ·)
theorem idG_cons (c : UInt8) (l : List UInt8) : idG (c :: l) = if c = 45 then
      match l with
      | a :: b :: _ :: r => match pairV lowerL a b with
        | some v => (idG r).map (v :: ·)
        | none => none
      | _ => none
    else (idG l).map (c :: ·) := by
  match l with
  | [] => rfl
  | [_] => rfl
  | [_, _] => rfl
  | _ :: _ :: _ :: _ => rfl
theorem idI45 : idI 45 = false := by decide
theorem safe_dash {c : UInt8} (h : idI (c.toNat : Int) = true) : ¬ c = 45 := by
  rintro rfl
  rw [show ((45 : UInt8).toNat : Int) = 45 from rfl, idI45] at h
  cases h
theorem idG_back : ∀ l : List UInt8, idG (idL l) = some l
  | [] => rfl
  | c :: l => by
    have ih := idG_back l
    by_cases h : idI (c.toNat : Int) = true
    · show idG (idB c ++ idL l) = _
      rw [idB_safe h, List.cons_append, List.nil_append, idG_cons, if_neg (safe_dash h), ih]; rfl
    · have h' : idI (c.toNat : Int) = false := by simpa using h
      show idG (idB c ++ idL l) = _
      rw [idB_not h']
      simp only [List.cons_append, List.nil_append]
      rw [idG_cons, if_pos rfl]
      simp only [pair_hex, ih]
      rfl
theorem idG_le : ∀ (n : Nat) (l : List UInt8), l.length ≤ n → ∀ o, idG l = some o → o.length ≤ l.length := by
  intro n
  induction n with
  | zero =>
    intro l h o ho
    have : l = [] := List.eq_nil_of_length_eq_zero (by omega)
    subst this
    simp [idG] at ho
    subst ho
    simp
  | succ n ih =>
    intro l hl o ho
    match l, hl with
    | [], _ => simp [idG] at ho; subst ho; simp
    | c :: l, hl =>
      simp at hl
      rw [idG_cons] at ho
      by_cases hc : c = 45
      · rw [if_pos hc] at ho
        match l, hl, ho with
        | [], _, ho => cases ho
        | [_], _, ho => cases ho
        | [_, _], _, ho => cases ho
        | a :: b :: x :: r, hl, ho =>
          simp only at ho
          cases hp : pairV lowerL a b with
          | none => rw [hp] at ho; cases ho
          | some v =>
            rw [hp] at ho
            simp only [Option.map_eq_some_iff] at ho
            obtain ⟨t, ht, rfl⟩ := ho
            simp at hl
            have := ih r (by omega) t ht
            simp; omega
      · rw [if_neg hc] at ho
        simp only [Option.map_eq_some_iff] at ho
        obtain ⟨t, ht, rfl⟩ := ho
        have := ih l (by omega) t ht
        simp; omega

/-- What stands before the first m, and what behind it. -/
def cutA (m : UInt8) (l : List UInt8) : List UInt8 := if 0 ≤ Lib.indexByte l m then l.take (Lib.indexByte l m).toNat else l
def cutB (m : UInt8) (l : List UInt8) : List UInt8 := if 0 ≤ Lib.indexByte l m then l.drop ((Lib.indexByte l m).toNat + 1) else []
theorem cutA_nil (m : UInt8) : cutA m [] = [] := by unfold cutA; split <;> simp
theorem cutB_nil (m : UInt8) : cutB m [] = [] := by unfold cutB; split <;> simp
theorem cutA_hit (m : UInt8) (l : List UInt8) : cutA m (m :: l) = [] := by unfold cutA; rw [idx_hit l rfl]; simp
theorem cutB_hit (m : UInt8) (l : List UInt8) : cutB m (m :: l) = l := by unfold cutB; rw [idx_hit l rfl]; simp
theorem cutA_miss {m c : UInt8} (l : List UInt8) (h : ¬ c = m) : cutA m (c :: l) = c :: cutA m l := by
  have hg := idx_ge l m
  unfold cutA
  rw [idx_miss l h]
  by_cases h1 : Lib.indexByte l m = -1
  · rw [if_pos h1, if_neg (by omega), if_neg (by omega)]
  · rw [if_neg h1, if_pos (by omega), if_pos (by omega), show (Lib.indexByte l m + 1).toNat = (Lib.indexByte l m).toNat + 1 by omega]; rfl
theorem cutB_miss {m c : UInt8} (l : List UInt8) (h : ¬ c = m) : cutB m (c :: l) = cutB m l := by
  have hg := idx_ge l m
  unfold cutB
  rw [idx_miss l h]
  by_cases h1 : Lib.indexByte l m = -1
  · rw [if_pos h1, if_neg (by omega), if_neg (by omega)]
  · rw [if_neg h1, if_pos (by omega), if_pos (by omega), show (Lib.indexByte l m + 1).toNat + 1 = (Lib.indexByte l m).toNat + 1 + 1 by omega]; rfl
theorem cut_len (m : UInt8) : ∀ l : List UInt8, (cutA m l).length + (cutB m l).length ≤ l.length
  | [] => by rw [cutA_nil, cutB_nil]; simp
  | c :: l => by
    have ih := cut_len m l
    by_cases h : c = m
    · subst h; rw [cutA_hit, cutB_hit]; simp
    · rw [cutA_miss l h, cutB_miss l h]; simp; omega
theorem cutB_lt (m : UInt8) {l : List UInt8} (h : l ≠ []) : (cutB m l).length < l.length := by
  cases l with
  | nil => exact absurd rfl h
  | cons c l =>
    by_cases h : c = m
    · subst h; rw [cutB_hit]; simp
    · rw [cutB_miss l h]; have := cut_len m l; simp; omega
theorem cutB_le (m : UInt8) (l : List UInt8) : (cutB m l).length ≤ l.length := by have := cut_len m l; omega

/-- What impl reads between the dashes, in turn plain and a code; n bounds the rounds. -/
def idK : Nat → List UInt8 → List UInt8
  | 0, _ => []
  | n + 1, l => if l = [] then [] else cutA 45 l ++ ((pairsL lowerL (cutA 45 (cutB 45 l))).getD [] ++ idK n (cutB 45 (cutB 45 l)))
theorem idK_nil (n : Nat) : idK n [] = [] := by cases n <;> simp [idK]
theorem idK_step {n : Nat} {l : List UInt8} (h : l ≠ []) (hn : l.length ≤ n) : idK n l = cutA 45 l ++ ((pairsL lowerL (cutA 45 (cutB 45 l))).getD [] ++ idK (n - 1) (cutB 45 (cutB 45 l))) := by
  cases n with
  | zero => have : l = [] := List.eq_nil_of_length_eq_zero (by omega); exact absurd this h
  | succ n => simp [idK, h]
theorem idK_more : ∀ (n m : Nat) (l : List UInt8), l.length ≤ n → l.length ≤ m → idK n l = idK m l := by
  intro n
  induction n with
  | zero => intro m l h _; have : l = [] := List.eq_nil_of_length_eq_zero (by omega); subst this; rw [idK_nil, idK_nil]
  | succ n ih =>
    intro m l h1 h2
    by_cases h : l = []
    · subst h; rw [idK_nil, idK_nil]
    · rw [idK_step h h1, idK_step h h2]
      have a := cutB_lt 45 h
      have b := cutB_le 45 (cutB 45 l)
      have e : n + 1 - 1 = n := by omega
      rw [e, ih (m - 1) _ (by omega) (by omega)]
theorem pairs_le (D : List UInt8) : ∀ (n : Nat) (l : List UInt8), l.length ≤ n → ((pairsL D l).getD []).length ≤ l.length := by
  intro n
  induction n with
  | zero => intro l h; have : l = [] := List.eq_nil_of_length_eq_zero (by omega); subst this; simp [pairsL]
  | succ n ih =>
    intro l h
    match l, h with
    | [], _ => simp [pairsL]
    | [_], _ => simp [pairsL]
    | a :: b :: r, h =>
      simp at h
      have := ih r (by omega)
      unfold pairsL
      cases pairV D a b with
      | none => simp
      | some c =>
        cases hp : pairsL D r with
        | none => simp
        | some t => rw [hp] at this; simp at this ⊢; omega
theorem idK_len : ∀ (n : Nat) (l : List UInt8), (idK n l).length ≤ l.length := by
  intro n
  induction n with
  | zero => intro l; simp [idK]
  | succ n ih =>
    intro l
    unfold idK
    split
    · simp
    · have a := cut_len 45 l
      have b := cut_len 45 (cutB 45 l)
      have c := pairs_le lowerL _ (cutA 45 (cutB 45 l)) (Nat.le_refl _)
      have d := ih (cutB 45 (cutB 45 l))
      simp; omega
theorem idK_plain {n : Nat} {c : UInt8} {l : List UInt8} (h : ¬ c = 45) (hn : l.length < n) : idK n (c :: l) = c :: idK n l := by
  rw [idK_step (by simp) (by simp; omega), cutA_miss l h, cutB_miss l h]
  by_cases he : l = []
  · subst he; rw [cutA_nil, cutB_nil, cutA_nil, cutB_nil, idK_nil, idK_nil]; simp [pairsL]
  · have a := cutB_lt 45 he
    have b := cutB_le 45 (cutB 45 l)
    rw [idK_step he (by omega)]
    rfl
theorem idK_code {n : Nat} {a b v : UInt8} {l : List UInt8} (ha : ¬ a = 45) (hb : ¬ b = 45) (hv : pairV lowerL a b = some v) (hn : l.length + 4 ≤ n) : idK n (45 :: a :: b :: 45 :: l) = v :: idK n l := by
  rw [idK_step (by simp) (by simp; omega), cutA_hit, cutB_hit, cutA_miss _ ha, cutA_miss _ hb, cutA_hit, cutB_miss _ ha, cutB_miss _ hb, cutB_hit, idK_more (n - 1) n l (by omega) (by omega)]
  simp [pairsL, hv]
theorem idK_back : ∀ (l : List UInt8) (n : Nat), (idL l).length ≤ n → idK n (idL l) = l
  | [], n, _ => idK_nil n
  | c :: l, n, hn => by
    have e : idL (c :: l) = idB c ++ idL l := rfl
    rw [e] at hn ⊢
    by_cases h : idI (c.toNat : Int) = true
    · rw [idB_safe h] at hn ⊢
      simp at hn
      rw [List.cons_append, List.nil_append, idK_plain (safe_dash h) (by omega), idK_back l n (by omega)]
    · have h' : idI (c.toNat : Int) = false := by simpa using h
      rw [idB_not h'] at hn ⊢
      simp at hn
      simp only [List.cons_append, List.nil_append]
      have hc := c.toNat_lt
      rw [idK_code (hexC_dash _ (by omega)) (hexC_dash _ (by omega)) (pair_hex c) (by omega), idK_back l n (by omega)]

/-- What spec hands back for a text. -/
def fromS (l : List UInt8) : List UInt8 := if l.take 8 = idP then match idG (l.drop 8) with
    | some k => if idT k = l then k else []
    | none => []
  else []
/-- What impl hands back, the rest behind the beginning given. -/
def fromI (l r : List UInt8) : List UInt8 := if idT (idK r.length r) = l then idK r.length r else []
theorem idT_take (k : List UInt8) : (idT k).take 8 = idP := rfl
theorem idT_drop (k : List UInt8) : (idT k).drop 8 = idL k := rfl
theorem fromS_yes {l k : List UInt8} (h : idT k = l) : fromS l = k := by
  subst h
  unfold fromS
  rw [if_pos (idT_take k), idT_drop, idG_back]
  simp
theorem fromS_no {l : List UInt8} (h : ∀ k, ¬ idT k = l) : fromS l = [] := by
  unfold fromS
  split
  · cases idG (l.drop 8) with
    | none => rfl
    | some k => simp [h k]
  · rfl
theorem from_same (l r : List UInt8) (hr : ∀ k, idT k = l → r = idL k) : fromI l r = fromS l := by
  by_cases h : ∃ k, idT k = l
  · obtain ⟨k, hk⟩ := h
    have := hr k hk
    subst this
    rw [fromS_yes hk]
    unfold fromI
    rw [idK_back k _ (Nat.le_refl _), if_pos hk]
  · have h' : ∀ k, ¬ idT k = l := fun k hk => h ⟨k, hk⟩
    rw [fromS_no h']
    unfold fromI
    rw [if_neg (h' _)]
theorem index_pre (p r : List UInt8) (hp : p ≠ []) : Lib.index (p ++ r) p = 0 := by
  cases p with
  | nil => exact absurd rfl hp
  | cons a t =>
    show Lib.index (a :: (t ++ r)) (a :: t) = 0
    unfold Lib.index
    have : (a :: t).isPrefixOf (a :: (t ++ r)) = true := by
      rw [List.isPrefixOf_iff_prefix]
      exact ⟨r, rfl⟩
    rw [if_pos this]
theorem cut_pre (p r : List UInt8) (hp : p ≠ []) : (Lib.cut (p ++ r) p).2.1 = r := by
  unfold Lib.cut
  rw [index_pre p r hp]
  simp
theorem cut_id (k : List UInt8) : (Lib.cut (idT k) idP).2.1 = idL k := cut_pre idP (idL k) (by simp [idP])
theorem cut_le (l p : List UInt8) : (Lib.cut l p).2.1.length ≤ l.length := by
  unfold Lib.cut; split <;> simp
end Go.Proofs.Ytldfkdkppgammaa
