/-
  Sorted lists of versions' texts in plain words: a list that is strictly in order is known by its members; inserting keeps order; striking equal neighbours makes order strict. Of no program.
-/
import Derived.Test.YtcfkhfbhmjfhdaaGreatDoorOrdM
import Derived.Test.YtcfkhfbhmjfhdaaGreatDoorRdIs
namespace Go.Proofs.YtcfkhfbhmjfhdaaGreatDoor
open Go.RowKit

/-- The version that a text tells. -/
def vt (l : List UInt8) : VT := (readA l 0, readA l 1, readA l 2, readP l)
def cmpT (s t : List UInt8) : Int := cmpV (vt s) (vt t)
theorem cmp_T : Cmp cmpT := cmp_V.on vt
theorem vt_text {l : List UInt8} (h : readOk l = true) : verText (vt l).1 (vt l).2.1 (vt l).2.2.1 (vt l).2.2.2 = l := by
  unfold vt readA readP
  rw [h]
  simp only [if_true]
  have h' := h
  unfold readOk at h'
  split at h'
  · rename_i p0 p1 p2 e
    rw [e]
    exact read_text e h'
  · cases h'
theorem cmpT_zero {s t : List UInt8} (hs : readOk s = true) (ht : readOk t = true) : cmpT s t = 0 ↔ s = t := by
  constructor
  · intro h
    have e := cmpV_zero.1 h
    rw [← vt_text hs, ← vt_text ht, e]
  · rintro rfl
    have := cmp_T.1 s s
    omega
theorem cmpT_lt_trans {s t u : List UInt8} (h : cmpT s t < 0) (h2 : cmpT t u ≤ 0) : cmpT s u < 0 := by
  have h3 := cmp_T.2 s t u (by omega) h2
  rcases Int.lt_or_eq_of_le h3 with h4 | h4
  · exact h4
  · have e1 : cmpT u s ≤ 0 := by have := cmp_T.1 s u; omega
    have e2 := cmp_T.2 t u s h2 e1
    have := cmp_T.1 s t
    omega
theorem cmpT_le_trans {s t u : List UInt8} (h : cmpT s t ≤ 0) (h2 : cmpT t u < 0) : cmpT s u < 0 := by
  have h3 := cmp_T.2 s t u h (by omega)
  rcases Int.lt_or_eq_of_le h3 with h4 | h4
  · exact h4
  · have e1 : cmpT u s ≤ 0 := by have := cmp_T.1 s u; omega
    have e2 := cmp_T.2 u s t e1 h
    have := cmp_T.1 t u
    omega

def Up (l : List (List UInt8)) : Prop := l.Pairwise (fun s t => cmpT s t < 0)
theorem up_unique : ∀ {x y : List (List UInt8)}, Up x → Up y → (∀ t, t ∈ x ↔ t ∈ y) → x = y
  | [], [], _, _, _ => rfl
  | [], b :: y, _, _, h => by have := (h b).2 (by simp); cases this
  | a :: x, [], _, _, h => by have := (h a).1 (by simp); cases this
  | a :: x, b :: y, hx, hy, h => by
    unfold Up at hx hy
    rw [List.pairwise_cons] at hx hy
    have irr : ∀ t, ¬ cmpT t t < 0 := fun t => by have := cmp_T.1 t t; omega
    have hab : a = b := by
      rcases List.mem_cons.1 ((h a).1 (by simp)) with h1 | h1
      · exact h1
      · rcases List.mem_cons.1 ((h b).2 (by simp)) with h2 | h2
        · exact h2.symm
        · have := hx.1 b h2
          have := hy.1 a h1
          have := cmp_T.1 a b
          omega
    subst hab
    congr 1
    refine up_unique hx.2 hy.2 (fun t => ⟨fun ht => ?_, fun ht => ?_⟩)
    · rcases List.mem_cons.1 ((h t).1 (by simp [ht])) with h1 | h1
      · subst h1; exact absurd (hx.1 t ht) (irr t)
      · exact h1
    · rcases List.mem_cons.1 ((h t).2 (by simp [ht])) with h1 | h1
      · subst h1; exact absurd (hy.1 t ht) (irr t)
      · exact h1

/-- Inserting v at the first place k whose text is not less. -/
theorem up_insert {out : List (List UInt8)} {v : List UInt8} {k : Nat} (hu : Up out) (hok : ∀ t ∈ out, readOk t = true) (hv : readOk v = true) (hk : k ≤ out.length) (hlo : ∀ j (h : j < out.length), j < k → cmpT out[j] v < 0) (hhi : ∀ h : k < out.length, 0 ≤ cmpT out[k] v) (hne : ∀ h : k < out.length, out[k] ≠ v) :
    Up (out.take k ++ [v] ++ out.drop k) := by
  have hgt : ∀ j (h : j < out.length), k ≤ j → cmpT v out[j] < 0 := by
    intro j hj hkj
    have hkl : k < out.length := by omega
    have h0 : cmpT v out[k] < 0 := by
      have h1 := hhi hkl
      have h2 := cmp_T.1 out[k] v
      have h3 : cmpT out[k] v ≠ 0 := fun e => hne hkl ((cmpT_zero (hok _ (List.getElem_mem hkl)) hv).1 e)
      omega
    rcases Nat.lt_or_eq_of_le hkj with h | h
    · have := List.pairwise_iff_getElem.1 hu k j hkl hj h
      exact cmpT_lt_trans h0 (by omega)
    · subst h; exact h0
  unfold Up
  rw [List.append_assoc, List.pairwise_append]
  refine ⟨hu.sublist (List.take_sublist _ _), ?_, ?_⟩
  · rw [List.singleton_append, List.pairwise_cons]
    refine ⟨fun t ht => ?_, hu.sublist (List.drop_sublist _ _)⟩
    obtain ⟨i, hi, rfl⟩ := List.getElem_of_mem ht
    rw [List.getElem_drop]
    exact hgt _ _ (by omega)
  · intro a ha b hb
    obtain ⟨i, hi, rfl⟩ := List.getElem_of_mem ha
    simp at hi
    rw [List.getElem_take]
    have hal := hlo i (by omega) (by omega)
    rw [List.singleton_append] at hb
    rcases List.mem_cons.1 hb with rfl | hb
    · exact hal
    · obtain ⟨j, hj, rfl⟩ := List.getElem_of_mem hb
      rw [List.getElem_drop]
      simp at hj
      exact cmpT_lt_trans hal (by have := hgt (k + j) (by omega) (by omega); omega)
theorem mem_insert {out : List (List UInt8)} {v : List UInt8} {k : Nat} (t : List UInt8) : t ∈ out.take k ++ [v] ++ out.drop k ↔ t = v ∨ t ∈ out := by
  have e : t ∈ out ↔ t ∈ out.take k ∨ t ∈ out.drop k := by rw [← List.mem_append, List.take_append_drop]
  rw [e]
  simp
  constructor
  · rintro (h | h | h)
    · exact .inr (.inl h)
    · exact .inl h
    · exact .inr (.inr h)
  · rintro (h | h | h)
    · exact .inr (.inl h)
    · exact .inl h
    · exact .inr (.inr h)

/-- What both sides return for a list: strictly in order, its members just the right texts of the list. -/
def SortOf (ls out : List (List UInt8)) : Prop := Up out ∧ ∀ t, t ∈ out ↔ t ∈ ls ∧ readOk t = true
theorem sortOf_unique {ls x y : List (List UInt8)} (h1 : SortOf ls x) (h2 : SortOf ls y) : x = y := up_unique h1.1 h2.1 (fun t => (h1.2 t).trans (h2.2 t).symm)
theorem sortOf_nil : SortOf [] [] := ⟨List.Pairwise.nil, fun t => by simp⟩
theorem sortOf_skip {ls out : List (List UInt8)} {v : List UInt8} (h : SortOf ls out) (hv : readOk v = false) : SortOf (ls ++ [v]) out :=
  ⟨h.1, fun t => by
    rw [h.2]
    constructor
    · exact fun ⟨a, b⟩ => ⟨by simp [a], b⟩
    · rintro ⟨a, b⟩
      rcases List.mem_append.1 a with a | a
      · exact ⟨a, b⟩
      · simp at a; subst a; rw [hv] at b; cases b⟩
theorem sortOf_there {ls out : List (List UInt8)} {v : List UInt8} (h : SortOf ls out) (hm : v ∈ out) : SortOf (ls ++ [v]) out :=
  ⟨h.1, fun t => by
    constructor
    · intro ht
      have := (h.2 t).1 ht
      exact ⟨by simp [this.1], this.2⟩
    · rintro ⟨a, b⟩
      rcases List.mem_append.1 a with a | a
      · exact (h.2 t).2 ⟨a, b⟩
      · simp at a; subst a; exact hm⟩
theorem sortOf_put {ls out : List (List UInt8)} {v : List UInt8} {k : Nat} (h : SortOf ls out) (hv : readOk v = true) (hk : k ≤ out.length) (hlo : ∀ j (h : j < out.length), j < k → cmpT out[j] v < 0) (hhi : ∀ h : k < out.length, 0 ≤ cmpT out[k] v) (hne : ∀ h : k < out.length, out[k] ≠ v) :
    SortOf (ls ++ [v]) (out.take k ++ [v] ++ out.drop k) :=
  ⟨up_insert h.1 (fun t ht => ((h.2 t).1 ht).2) hv hk hlo hhi hne, fun t => by
    rw [mem_insert, h.2]
    constructor
    · rintro (rfl | ⟨a, b⟩)
      · exact ⟨by simp, hv⟩
      · exact ⟨by simp [a], b⟩
    · rintro ⟨a, b⟩
      rcases List.mem_append.1 a with a | a
      · exact .inr ⟨a, b⟩
      · simp at a; exact .inl a⟩
theorem nodup_len {α : Type} [BEq α] [LawfulBEq α] : ∀ {x y : List α}, x.Nodup → (∀ t ∈ x, t ∈ y) → x.length ≤ y.length
  | [], _, _, _ => by simp
  | a :: x, y, hn, h => by
    rw [List.nodup_cons] at hn
    have ha := h a (by simp)
    have hl := List.length_erase_of_mem ha
    have ih := nodup_len (y := y.erase a) hn.2 (fun t ht => (List.mem_erase_of_ne (fun e => hn.1 (by rw [← e]; exact ht))).2 (h t (by simp [ht])))
    have : 0 < y.length := by cases y <;> simp_all
    simp; omega
theorem sortOf_len {ls out : List (List UInt8)} (h : SortOf ls out) : out.length ≤ ls.length := by
  have hn : out.Nodup := h.1.imp (fun {a b} hab e => by subst e; have := cmp_T.1 a a; omega)
  exact nodup_len hn (fun t ht => ((h.2 t).1 ht).1)
end Go.Proofs.YtcfkhfbhmjfhdaaGreatDoor
