/-
  The order of versions is total, in plain words: cmpVer answers the other way round where its arguments change places, 0 just where they are the same (of right versions), and it is transitive. Of no program.
-/
import Derived.Test.YtcfkhfbhmjfhdaaGreatDoorCmpM
import Derived.Test.YtcfkhfbhmjfhdaaGreatDoorRdM
import Derived.Sort.Walk0
namespace Go.Proofs.YtcfkhfbhmjfhdaaGreatDoor
open Go.RowKit

theorem cmpI_neg (a b : Int) : cmpI b a = -cmpI a b := by unfold cmpI; split <;> split <;> (try split) <;> omega
theorem cmpI_zero {a b : Int} : cmpI a b = 0 ↔ a = b := by unfold cmpI; split <;> (try split) <;> omega
theorem cmpI_neg_iff {a b : Int} : cmpI a b < 0 ↔ a < b := by unfold cmpI; split <;> (try split) <;> omega
theorem cmpI_trans {a b c : Int} (h : cmpI a b ≤ 0) (h2 : cmpI b c ≤ 0) : cmpI a c ≤ 0 := by unfold cmpI at *; split at h <;> split at h2 <;> (try split at h) <;> (try split at h2) <;> split <;> (try split) <;> omega

theorem bl_irrefl (a : List UInt8) : Op.bytesLess a a = false := by
  induction a with
  | nil => rfl
  | cons x t ih => unfold Op.bytesLess; simp [ih]
theorem bl_asymm : ∀ (a b : List UInt8), Op.bytesLess a b = true → Op.bytesLess b a = false
  | _, [], h => by simp [Op.bytesLess] at h
  | [], _ :: _, _ => by simp [Op.bytesLess]
  | x :: a, y :: b, h => by
    unfold Op.bytesLess at h ⊢
    simp at h ⊢
    rcases h with h | ⟨h, h2⟩
    · refine ⟨by exact UInt8.le_of_lt h, fun e => ?_⟩
      subst e
      exact absurd h (by simp)
    · subst h
      exact ⟨by simp, fun _ => bl_asymm a b h2⟩
theorem bl_total : ∀ (a b : List UInt8), Op.bytesLess a b = true ∨ a = b ∨ Op.bytesLess b a = true
  | [], [] => by simp
  | [], _ :: _ => by simp [Op.bytesLess]
  | _ :: _, [] => by simp [Op.bytesLess]
  | x :: a, y :: b => by
    unfold Op.bytesLess
    simp
    rcases Nat.lt_trichotomy x.toNat y.toNat with h | h | h
    · exact .inl (.inl (UInt8.lt_iff_toNat_lt.2 h))
    · obtain rfl := UInt8.toNat_inj.1 h
      rcases bl_total a b with h | h | h
      · exact .inl (.inr ⟨rfl, h⟩)
      · exact .inr (.inl ⟨rfl, h⟩)
      · exact .inr (.inr (.inr ⟨rfl, h⟩))
    · exact .inr (.inr (.inl (UInt8.lt_iff_toNat_lt.2 h)))
theorem bl_trans : ∀ (a b c : List UInt8), Op.bytesLess a b = true → Op.bytesLess b c = true → Op.bytesLess a c = true
  | _, _, [], _, h2 => by simp [Op.bytesLess] at h2
  | _, [], _ :: _, h, _ => by simp [Op.bytesLess] at h
  | [], _ :: _, _ :: _, _, _ => by simp [Op.bytesLess]
  | x :: a, y :: b, z :: c, h, h2 => by
    unfold Op.bytesLess at h h2 ⊢
    simp at h h2 ⊢
    rcases h with h | ⟨rfl, h⟩
    · rcases h2 with h2 | ⟨rfl, h2⟩
      · exact .inl (UInt8.lt_trans h h2)
      · exact .inl h
    · rcases h2 with h2 | ⟨rfl, h2⟩
      · exact .inl h2
      · exact .inr ⟨rfl, bl_trans a b c h h2⟩

theorem cmpS_neg (a b : List UInt8) : cmpS b a = -cmpS a b := by
  unfold cmpS
  rcases bl_total a b with h | h | h
  · have h2 := bl_asymm a b h
    have h3 : ¬ b = a := fun e => by rw [e, bl_irrefl] at h; cases h
    simp [h, h2, h3]
  · subst h; simp [bl_irrefl]
  · have h2 := bl_asymm b a h
    have h3 : ¬ a = b := fun e => by rw [e, bl_irrefl] at h; cases h
    simp [h, h2, h3]
theorem cmpS_zero {a b : List UInt8} : cmpS a b = 0 ↔ a = b := by
  unfold cmpS
  constructor
  · intro h
    split at h
    · omega
    · split at h
      · assumption
      · omega
  · rintro rfl; simp [bl_irrefl]
theorem cmpS_trans {a b c : List UInt8} (h : cmpS a b ≤ 0) (h2 : cmpS b c ≤ 0) : cmpS a c ≤ 0 := by
  have f : ∀ x y, cmpS x y ≤ 0 → Op.bytesLess x y = true ∨ x = y := fun x y h => by
    unfold cmpS at h
    split at h
    · left; assumption
    · split at h
      · right; assumption
      · omega
  have g : ∀ x y, Op.bytesLess x y = true ∨ x = y → cmpS x y ≤ 0 := fun x y h => by
    unfold cmpS
    rcases h with h | h
    · rw [if_pos h]; omega
    · subst h; rw [bl_irrefl]; simp
  apply g
  rcases f _ _ h with h | rfl
  · rcases f _ _ h2 with h2 | rfl
    · exact .inl (bl_trans _ _ _ h h2)
    · exact .inl h
  · exact f _ _ h2

/-- f compares: the other way round it answers the other way round, and 'not greater' is transitive. -/
def Cmp {α : Type} (f : α → α → Int) : Prop := (∀ a b, f b a = -f a b) ∧ ∀ a b c, f a b ≤ 0 → f b c ≤ 0 → f a c ≤ 0
theorem cmp_I : Cmp cmpI := ⟨cmpI_neg, fun _ _ _ => cmpI_trans⟩
theorem cmp_S : Cmp cmpS := ⟨cmpS_neg, fun _ _ _ => cmpS_trans⟩
theorem Cmp.on {α β : Type} {f : β → β → Int} (h : Cmp f) (g : α → β) : Cmp (fun a b => f (g a) (g b)) := ⟨fun _ _ => h.1 _ _, fun _ _ _ => h.2 _ _ _⟩
theorem orI_neg (x y : Int) : orI (-x) (-y) = -orI x y := by unfold orI; split <;> split <;> omega
theorem orI_zero_iff {x y : Int} : orI x y = 0 ↔ x = 0 ∧ y = 0 := by unfold orI; split <;> omega
/-- One step of an order word by word. -/
theorem lex_trans {α : Type} {f : α → α → Int} (hf : Cmp f) (a b c : α) {p q r : Int} (hy : p ≤ 0 → q ≤ 0 → r ≤ 0) (h1 : orI (f a b) p ≤ 0) (h2 : orI (f b c) q ≤ 0) : orI (f a c) r ≤ 0 := by
  have n1 : f a b ≤ 0 := by unfold orI at h1; split at h1 <;> omega
  have n2 : f b c ≤ 0 := by unfold orI at h2; split at h2 <;> omega
  have n3 := hf.2 a b c n1 n2
  by_cases h0 : f a c = 0
  · have e1 : f c a ≤ 0 := by have := hf.1 a c; omega
    have e2 := hf.2 b c a n2 e1
    have e3 := hf.2 c a b e1 n1
    have m1 := hf.1 a b
    have m2 := hf.1 b c
    have z1 : f a b = 0 := by omega
    have z2 : f b c = 0 := by omega
    rw [z1, orI_zero] at h1
    rw [z2, orI_zero] at h2
    rw [h0, orI_zero]
    exact hy h1 h2
  · rw [orI_ne _ h0]; exact n3
theorem Cmp.lex {α : Type} {f g : α → α → Int} (hf : Cmp f) (hg : Cmp g) : Cmp (fun a b => orI (f a b) (g a b)) :=
  ⟨fun a b => by show orI (f b a) (g b a) = -orI (f a b) (g a b); rw [hf.1, hg.1, orI_neg], fun a b c h1 h2 => lex_trans hf a b c (hg.2 a b c) h1 h2⟩

def clsP (a : List UInt8) : Int := if 0 ≤ readL a then 0 else 1
def valP (a : List UInt8) : Int := if 0 ≤ readL a then readL a else 0
def txtP (a : List UInt8) : List UInt8 := if 0 ≤ readL a then [] else a
theorem cmpPart_eq (a b : List UInt8) : cmpPart a b = orI (cmpI (clsP a) (clsP b)) (orI (cmpI (valP a) (valP b)) (cmpS (txtP a) (txtP b))) := by
  unfold cmpPart clsP valP txtP
  have hs : cmpS [] [] = 0 := rfl
  by_cases ha : 0 ≤ readL a <;> by_cases hb : 0 ≤ readL b <;> simp only [ha, hb, if_true, if_false]
  · rw [cmpI_same, orI_zero, hs]; unfold orI; split <;> omega
  · rfl
  · rfl
  · rw [cmpI_same, orI_zero, cmpI_same, orI_zero]
theorem cmp_Part : Cmp cmpPart := by
  have h := (cmp_I.on clsP).lex ((cmp_I.on valP).lex (cmp_S.on txtP))
  have e : cmpPart = fun a b => orI (cmpI (clsP a) (clsP b)) (orI (cmpI (valP a) (valP b)) (cmpS (txtP a) (txtP b))) := funext fun a => funext fun b => cmpPart_eq a b
  rw [e]; exact h
theorem cmpPart_zero {a b : List UInt8} : cmpPart a b = 0 ↔ a = b := by
  constructor
  · intro h
    rw [cmpPart_eq, orI_zero_iff, orI_zero_iff, cmpI_zero, cmpI_zero, cmpS_zero] at h
    obtain ⟨h1, h2, h3⟩ := h
    unfold clsP at h1
    unfold valP at h2
    unfold txtP at h3
    by_cases ha : 0 ≤ readL a <;> by_cases hb : 0 ≤ readL b <;> simp only [ha, hb, if_true, if_false] at h1 h2 h3
    · rw [← dec_read ha, ← dec_read hb, h2]
    · omega
    · omega
    · exact h3
  · rintro rfl
    have := cmp_Part.1 a a
    omega
theorem cmpL_neg : ∀ x y : List (List UInt8), cmpL y x = -cmpL x y
  | [], [] => rfl
  | [], _ :: _ => rfl
  | _ :: _, [] => rfl
  | a :: x, b :: y => by show orI (cmpPart b a) (cmpL y x) = -orI (cmpPart a b) (cmpL x y); rw [cmp_Part.1, cmpL_neg x y, orI_neg]
theorem cmpL_trans : ∀ x y z : List (List UInt8), cmpL x y ≤ 0 → cmpL y z ≤ 0 → cmpL x z ≤ 0
  | [], [], z, _, h2 => h2
  | [], _ :: _, [], _, _ => by simp [cmpL]
  | [], _ :: _, _ :: _, _, _ => by simp [cmpL]
  | _ :: _, [], _, h, _ => by simp [cmpL] at h
  | _ :: _, _ :: _, [], _, h2 => by simp [cmpL] at h2
  | a :: x, b :: y, c :: z, h, h2 => lex_trans cmp_Part a b c (cmpL_trans x y z) h h2
theorem cmp_L : Cmp cmpL := ⟨cmpL_neg, cmpL_trans⟩
theorem cmpL_zero : ∀ {x y : List (List UInt8)}, cmpL x y = 0 ↔ x = y
  | [], [] => by simp [cmpL]
  | [], _ :: _ => by simp [cmpL]
  | _ :: _, [] => by simp [cmpL]
  | a :: x, b :: y => by
    show orI (cmpPart a b) (cmpL x y) = 0 ↔ _
    rw [orI_zero_iff, cmpPart_zero, cmpL_zero]; simp
def emp (x : List (List UInt8)) : Int := if x = [] then 1 else 0
theorem cmpPre_eq (x y : List (List UInt8)) : cmpPre x y = orI (cmpI (emp x) (emp y)) (cmpL x y) := by
  unfold cmpPre emp
  cases x with
  | nil =>
    cases y with
    | nil => rfl
    | cons b y => simp [cmpI, orI]; omega
  | cons a x =>
    cases y with
    | nil => simp [cmpI, orI]; try omega
    | cons b y => simp [cmpI, orI]
theorem cmp_Pre : Cmp cmpPre := by
  have h := (cmp_I.on emp).lex cmp_L
  have e : cmpPre = fun x y => orI (cmpI (emp x) (emp y)) (cmpL x y) := funext fun a => funext fun b => cmpPre_eq a b
  rw [e]; exact h
theorem cmpPre_zero {x y : List (List UInt8)} : cmpPre x y = 0 ↔ x = y := by
  rw [cmpPre_eq, orI_zero_iff, cmpI_zero, cmpL_zero]
  constructor
  · exact fun h => h.2
  · rintro rfl; exact ⟨rfl, rfl⟩
/-- A version as a tuple. -/
abbrev VT := Int × Int × Int × List (List UInt8)
def cmpV (p q : VT) : Int := cmpVer p.1 p.2.1 p.2.2.1 p.2.2.2 q.1 q.2.1 q.2.2.1 q.2.2.2
theorem cmp_V : Cmp cmpV := by
  have h := (cmp_I.on (fun p : VT => p.1)).lex ((cmp_I.on (fun p : VT => p.2.1)).lex ((cmp_I.on (fun p : VT => p.2.2.1)).lex (cmp_Pre.on (fun p : VT => p.2.2.2))))
  exact h
theorem cmpV_zero {p q : VT} : cmpV p q = 0 ↔ p = q := by
  obtain ⟨a, b, c, x⟩ := p
  obtain ⟨a', b', c', y⟩ := q
  show orI (cmpI a a') (orI (cmpI b b') (orI (cmpI c c') (cmpPre x y))) = 0 ↔ _
  rw [orI_zero_iff, orI_zero_iff, orI_zero_iff, cmpI_zero, cmpI_zero, cmpI_zero, cmpPre_zero]
  simp
end Go.Proofs.YtcfkhfbhmjfhdaaGreatDoor
