/-
  Plain facts on quoted texts: reading strictly is reading leniently and looking back. (For the laws on Unquote.)
-/
import Derived.Test.YtebilgnaiamfpabPairs
import Derived.Test.YtebilgnaiamfpabQuote
namespace Go.Proofs.Ytebilgnaiamfpab
open Go.RowKit

theorem idx_get' (D : List UInt8) (c : UInt8) (h : 0 ≤ Lib.indexByte D c) : D.getD (Lib.indexByte D c).toNat 0 = c := by
  induction D with
  | nil => simp [Lib.indexByte] at h
  | cons b l ih =>
    by_cases hb : b = c
    · rw [idx_hit l hb]; simp [hb]
    · rw [idx_miss l hb] at h ⊢
      by_cases h1 : Lib.indexByte l c = -1
      · simp [h1] at h
      · rw [if_neg h1] at h ⊢
        have := idx_ge l c
        have e : (Lib.indexByte l c + 1).toNat = (Lib.indexByte l c).toNat + 1 := by omega
        rw [e, List.getD_cons_succ]
        exact ih (by omega)
theorem pair_invL {a b v : UInt8} (h : pairV lowerL a b = some v) : hexC (v.toNat / 16) = a ∧ hexC (v.toNat % 16) = b := by
  unfold pairV at h
  split at h
  · cases h
  · rename_i hn
    injection h with h
    have ha := idx_get' lowerL a (by omega)
    have hb := idx_get' lowerL b (by omega)
    have la := idx_lt lowerL a
    have lb := idx_lt lowerL b
    have l16 : lowerL.length = 16 := rfl
    rw [l16] at la lb
    have hv : v.toNat = 16 * (Lib.indexByte lowerL a).toNat + (Lib.indexByte lowerL b).toNat := by
      rw [← h]; simp; omega
    have e1 : v.toNat / 16 = (Lib.indexByte lowerL a).toNat := by omega
    have e2 : v.toNat % 16 = (Lib.indexByte lowerL b).toNat := by omega
    rw [e1, e2]
    exact ⟨ha, hb⟩

def qhexB (c : UInt8) : Bool := qhex (c.toNat : Int)
def pair2 (l : List UInt8) : Option UInt8 := match l with
  | a :: b :: _ => pairV lowerL a b
  | _ => none
/-- One byte read strictly: its value and how many bytes it takes. -/
def qAt : List UInt8 → Option (UInt8 × Nat)
  | [] => none
  | c :: r => if c = 92 then
      match r with
      | [] => none
      | d :: t => if d = 34 ∨ d = 92 then some (d, 2) else if d = 110 then some (10, 2) else if d = 120 then
          match pair2 t with
          | some v => if qhexB v = true then some (v, 4) else none
          | none => none
        else none
    else if c = 10 ∨ qhexB c = true then none else some (c, 1)
/-- One byte read leniently. -/
def lAt : List UInt8 → Option (UInt8 × Nat)
  | [] => none
  | c :: r => if c = 92 then
      match r with
      | [] => none
      | d :: t => if d = 34 ∨ d = 92 then some (d, 2) else if d = 110 then some (10, 2) else if d = 120 then
          match pair2 t with
          | some v => some (v, 4)
          | none => none
        else none
    else some (c, 1)

/-- All bytes to the closing quote, by a step; what they take, the quote counted. -/
def unqG (step : List UInt8 → Option (UInt8 × Nat)) (l : List UInt8) : Option (List UInt8 × Nat) :=
  match l with
  | [] => none
  | c :: r => if c = 34 then some ([], 1) else match step (c :: r) with
    | none => none
    | some (v, n) => (unqG step (r.drop (n - 1))).map fun p => (v :: p.1, p.2 + n)
termination_by l.length
decreasing_by simp; omega

theorem quoteB_esc' {c : UInt8} (h : c = 34 ∨ c = 92) : quoteB c = [92, c] := by
  rcases h with rfl | rfl <;> rfl
theorem quoteB_hex' {c : UInt8} (h : qhexB c = true) : quoteB c = [92, 120, hexC (c.toNat / 16), hexC (c.toNat % 16)] := by
  unfold qhexB qhex at h
  exact quoteB_hex (of_decide_eq_true h)
theorem quoteB_raw {c : UInt8} (h : ¬ qhexB c = true) (h0 : ¬ c = 10) (h1 : ¬ c = 34) (h2 : ¬ c = 92) : quoteB c = [c] := by
  have e0 : ¬ (c.toNat : Int) = 10 := fun h => h0 (UInt8.toNat_inj.1 (by show _ = (10 : Nat); omega))
  have e1 : ¬ (c.toNat : Int) = 34 := fun h => h1 (UInt8.toNat_inj.1 (by show _ = (34 : Nat); omega))
  have e2 : ¬ (c.toNat : Int) = 92 := fun h => h2 (UInt8.toNat_inj.1 (by show _ = (92 : Nat); omega))
  have : ¬ (((c.toNat : Int) < 32 ∧ ¬ (c.toNat : Int) = 10) ∨ 126 < (c.toNat : Int)) := fun h' => h (decide_eq_true h')
  exact quoteB_plain (by omega)
theorem qhex_not {c : UInt8} (h : c = 34 ∨ c = 92 ∨ c = 10) : ¬ qhexB c = true := by rcases h with rfl | rfl | rfl <;> decide

/-- Strict is: lenient, and the byte quoted again is what was read; otherwise the byte quoted again is no beginning of the text. -/
theorem qAt_iff (c : UInt8) (r : List UInt8) (h34 : ¬ c = 34) : (∃ v n, qAt (c :: r) = some (v, n) ∧ lAt (c :: r) = some (v, n) ∧ 1 ≤ n ∧ n ≤ (c :: r).length ∧ quoteB v = (c :: r).take n) ∨
    (qAt (c :: r) = none ∧ (lAt (c :: r) = none ∨ ∃ v n, lAt (c :: r) = some (v, n) ∧ 1 ≤ n ∧ ∀ X k, quoteB v ++ X ≠ (c :: r).take k)) := by
  have hpre : ∀ (a b : UInt8) (X Y : List UInt8) (k : Nat), a ≠ b → a :: X ≠ (b :: Y).take k := by
    intro a b X Y k hab h
    cases k with
    | zero => simp at h
    | succ k => simp at h; exact hab h.1
  have hpre2 : ∀ (a b : UInt8) (x : UInt8) (X Y : List UInt8) (k : Nat), a ≠ b → x :: a :: X ≠ (x :: b :: Y).take k := by
    intro a b x X Y k hab h
    match k with
    | 0 => simp at h
    | 1 => simp at h
    | k + 2 => simp at h; exact hab h.1
  by_cases h92 : c = 92
  · subst h92
    match r with
    | [] => right; exact ⟨rfl, .inl rfl⟩
    | d :: t =>
      by_cases hd : d = 34 ∨ d = 92
      · left
        refine ⟨d, 2, ?_, ?_, by omega, by simp, ?_⟩
        · simp [qAt, hd]
        · simp [lAt, hd]
        · rw [quoteB_esc' hd]; rfl
      · by_cases hn : d = 110
        · left
          subst hn
          exact ⟨10, 2, by simp [qAt], by simp [lAt], by omega, by simp, rfl⟩
        · by_cases hx : d = 120
          · subst hx
            match t with
            | [] => right; exact ⟨by simp [qAt, pair2], .inl (by simp [lAt, pair2])⟩
            | [_] => right; exact ⟨by simp [qAt, pair2], .inl (by simp [lAt, pair2])⟩
            | a :: b :: u =>
              cases hp : pairV lowerL a b with
              | none => right; exact ⟨by simp [qAt, pair2, hp], .inl (by simp [lAt, pair2, hp])⟩
              | some v =>
                obtain ⟨e1, e2⟩ := pair_invL hp
                by_cases hq : qhexB v = true
                · left
                  refine ⟨v, 4, by simp [qAt, pair2, hp, hq], by simp [lAt, pair2, hp], by omega, by simp, ?_⟩
                  rw [quoteB_hex' hq, e1, e2]; rfl
                · right
                  refine ⟨by simp [qAt, pair2, hp, hq], .inr ⟨v, 4, by simp [lAt, pair2, hp], by omega, ?_⟩⟩
                  intro X k
                  by_cases v10 : v = 10
                  · subst v10
                    exact hpre2 110 120 92 X _ k (by decide)
                  · by_cases v34 : v = 34 ∨ v = 92
                    · rw [quoteB_esc' v34]
                      refine hpre2 v 120 92 X _ k ?_
                      rcases v34 with rfl | rfl <;> decide
                    · rw [quoteB_raw hq v10 (fun h => v34 (.inl h)) (fun h => v34 (.inr h))]
                      exact hpre v 92 X _ k (fun h => v34 (.inr h))
          · right
            exact ⟨by simp [qAt, hd, hn, hx], .inl (by simp [lAt, hd, hn, hx])⟩
  · by_cases hb : c = 10 ∨ qhexB c = true
    · right
      refine ⟨by simp [qAt, h92, hb], .inr ⟨c, 1, by simp [lAt, h92], by omega, ?_⟩⟩
      intro X k
      rcases hb with rfl | hb
      · exact hpre 92 10 (110 :: X) _ k (by decide)
      · rw [quoteB_hex' hb]
        exact hpre 92 c _ _ k (fun h => h92 h.symm)
    · left
      have h10 : ¬ c = 10 := fun h => hb (.inl h)
      have hq : ¬ qhexB c = true := fun h => hb (.inr h)
      exact ⟨c, 1, by simp [qAt, h92, hb], by simp [lAt, h92], by omega, by simp, by rw [quoteB_raw hq h10 h34 h92]; rfl⟩

theorem unqG_cons (step : List UInt8 → Option (UInt8 × Nat)) (c : UInt8) (r : List UInt8) : unqG step (c :: r) = if c = 34 then some ([], 1) else match step (c :: r) with
    | none => none
    | some (v, n) => (unqG step (r.drop (n - 1))).map fun p => (v :: p.1, p.2 + n) := by rw [unqG]
theorem unqG_nil (step : List UInt8 → Option (UInt8 × Nat)) : unqG step [] = none := by rw [unqG]

theorem unq_same : ∀ (m : Nat) (l : List UInt8), l.length ≤ m → unqG qAt l = (unqG lAt l).bind fun p => if quoteL p.1 ++ [34] = l.take p.2 then some p else none := by
  intro m
  induction m with
  | zero => intro l h; have : l = [] := List.eq_nil_of_length_eq_zero (by omega); subst this; rw [unqG_nil, unqG_nil]; rfl
  | succ m ih =>
    intro l hl
    match l, hl with
    | [], _ => rw [unqG_nil, unqG_nil]; rfl
    | c :: r, hl =>
      simp at hl
      by_cases h34 : c = 34
      · subst h34
        rw [unqG_cons, unqG_cons, if_pos rfl, if_pos rfl]
        simp [quoteL]
      · rw [unqG_cons, unqG_cons, if_neg h34, if_neg h34]
        rcases qAt_iff c r h34 with ⟨v, n, h1, h2, hn, hle, hq⟩ | ⟨h1, h2 | ⟨v, n, h2, hn, hne⟩⟩
        · rw [h1, h2]
          simp only
          rw [ih (r.drop (n - 1)) (by simp; omega)]
          obtain ⟨n', rfl⟩ : ∃ n', n = n' + 1 := ⟨n - 1, by omega⟩
          simp only [Nat.add_sub_cancel]
          cases unqG lAt (r.drop n') with
          | none => rfl
          | some p =>
            simp only [Option.map_some, Option.bind_some]
            have hlen : (quoteB v).length = n' + 1 := by rw [hq, List.length_take]; omega
            have e : (c :: r).take (p.2 + (n' + 1)) = quoteB v ++ (r.drop n').take p.2 := by
              rw [hq, Nat.add_comm, List.take_add]; rfl
            by_cases hp : quoteL p.1 ++ [34] = (r.drop n').take p.2
            · rw [if_pos hp, if_pos (by rw [e, ← hp]; simp [quoteL])]; rfl
            · rw [if_neg hp, if_neg (by rw [e]; simp only [quoteL, List.append_assoc]; intro h; exact hp (List.append_cancel_left h))]; rfl
        · rw [h1, h2]; rfl
        · rw [h1, h2]
          simp only
          cases unqG lAt (r.drop (n - 1)) with
          | none => rfl
          | some p =>
            simp only [Option.map_some, Option.bind_some]
            rw [if_neg (by simp only [quoteL, List.append_assoc]; exact hne _ _)]
end Go.Proofs.Ytebilgnaiamfpab
