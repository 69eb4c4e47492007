/-
  Reading an integrity text in plain words: both readers hand back the one list of right sums whose text it is.
-/
import Derived.Test.YtcfkhfbhmjfhdaaDoorIntM
import Derived.Test.YtcfkhfbhmjfhdaaDoorSmsM
import Derived.Test.YtcfkhfbhmjfhdaaDoorPurC
import Derived.Test.YtcfkhfbhmjfhdaaDoorB64R
import Derived.Test.YtcfkhfbhmjfhdaaDoorLawS
namespace Go.Proofs.YtcfkhfbhmjfhdaaDoor

/-- What a word reads as. -/
def wordR (p : List UInt8) : Bd := (cutA 45 p, (getB (cutB 45 p)).1)
/-- What impl reads, word by word; n bounds the rounds. -/
def sumsR : Nat → List UInt8 → List Bd
  | 0, _ => []
  | n + 1, l => if l = [] then [] else wordR (cutA 32 l) :: sumsR n (cutB 32 l)
theorem sumsR_nil (n : Nat) : sumsR n [] = [] := by cases n <;> simp [sumsR]
theorem sumsR_step {n : Nat} {l : List UInt8} (h : l ≠ []) (hn : l.length ≤ n) : sumsR n l = wordR (cutA 32 l) :: sumsR (n - 1) (cutB 32 l) := by
  cases n with
  | zero => have : l = [] := List.eq_nil_of_length_eq_zero (by omega); exact absurd this h
  | succ n => simp [sumsR, h]
theorem sumsR_more : ∀ (n m : Nat) (l : List UInt8), l.length ≤ n → l.length ≤ m → sumsR n l = sumsR m l := by
  intro n
  induction n with
  | zero => intro m l h _; have : l = [] := List.eq_nil_of_length_eq_zero (by omega); subst this; rw [sumsR_nil, sumsR_nil]
  | succ n ih =>
    intro m l h1 h2
    by_cases h : l = []
    · subst h; rw [sumsR_nil, sumsR_nil]
    · rw [sumsR_step h h1, sumsR_step h h2]
      have a := cutB_lt 32 h
      have e : n + 1 - 1 = n := by omega
      rw [e, ih (m - 1) _ (by omega) (by omega)]
/-- All that impl reads. -/
def sumsI (l : List UInt8) : List Bd := sumsR l.length l
/-- What GetIntegrity hands back. -/
def getIntOk (l : List UInt8) : Bool := sumsOkL (sumsI l) && (intT (sumsI l) == l)

theorem ix_space : ix 32 < 0 := by decide +kernel
theorem ix_dash : ix 45 < 0 := by decide +kernel
theorem algs_are {a : List UInt8} (h : algOk a = true) : a = sha1L ∨ a = sha256L ∨ a = sha512L := by
  unfold algOk at h
  simp only [Bool.or_eq_true, beq_iff_eq] at h
  rcases h with (h | h) | h
  · exact .inl h
  · exact .inr (.inl h)
  · exact .inr (.inr h)
theorem alg_noM {a : List UInt8} (h : algOk a = true) : noM 45 a ∧ noM 32 a := by
  rcases algs_are h with rfl | rfl | rfl
  · exact ⟨by unfold noM sha1L; decide, by unfold noM sha1L; decide⟩
  · exact ⟨by unfold noM sha256L; decide, by unfold noM sha256L; decide⟩
  · exact ⟨by unfold noM sha512L; decide, by unfold noM sha512L; decide⟩
theorem alg_not_h1 {a : List UInt8} (h : algOk a = true) : ¬ a = h1L := by
  rcases algs_are h with rfl | rfl | rfl <;> decide
theorem wordB_noM {b : Bd} (h : algOk b.1 = true) : noM 32 (wordB b) := by
  unfold wordB
  refine noM_app (alg_noM h).2 (fun c hc => ?_)
  rcases List.mem_cons.1 hc with rfl | hc
  · decide
  · exact b64_not b.2 32 ix_space (by decide) c hc
theorem wordB_cut {b : Bd} (h : algOk b.1 = true) : cutA 45 (wordB b) = b.1 ∧ cutB 45 (wordB b) = b64L b.2 :=
  ⟨cutA_noM _ (alg_noM h).1, cutB_noM _ (alg_noM h).1⟩
theorem wordR_back {b : Bd} (h : algOk b.1 = true) : wordR (wordB b) = b := by
  unfold wordR
  rw [(wordB_cut h).1, (wordB_cut h).2, get_put64]
theorem cutA_all {m : UInt8} : ∀ {l : List UInt8}, noM m l → cutA m l = l ∧ cutB m l = []
  | [], _ => ⟨cutA_nil m, cutB_nil m⟩
  | c :: l, h => by
    obtain ⟨h1, h2⟩ := cutA_all (noM_tail h)
    rw [cutA_miss _ (h c (by simp)), cutB_miss _ (h c (by simp)), h1, h2]
    exact ⟨rfl, rfl⟩
theorem wordsB_all {L : List Bd} (h : ∀ b ∈ L, algOk b.1 = true) : wordsB L = L.map wordB := by
  unfold wordsB
  rw [List.filter_eq_self.2 (fun b hb => h b hb)]
/-- The text of right sums is read as they are. -/
theorem read_back_sums : ∀ (L : List Bd), (∀ b ∈ L, algOk b.1 = true) → ∀ n, (Lib.join (L.map wordB) [32]).length ≤ n → sumsR n (Lib.join (L.map wordB) [32]) = L
  | [], _, n, _ => sumsR_nil n
  | [b], h, n, hn => by
    rw [List.map_cons, List.map_nil, join_one] at hn ⊢
    rw [sumsR_step (wordB_ne b) hn]
    obtain ⟨e1, e2⟩ := cutA_all (wordB_noM (h b (by simp)))
    rw [e1, e2, sumsR_nil, wordR_back (h b (by simp))]
  | b :: c :: L, h, n, hn => by
    have hb := h b (by simp)
    rw [List.map_cons, List.map_cons, join_cons, List.append_assoc, List.cons_append, List.nil_append] at hn ⊢
    have hne : wordB b ++ 32 :: Lib.join (wordB c :: L.map wordB) [32] ≠ [] := by simp
    rw [sumsR_step hne hn, cutA_noM _ (wordB_noM hb), cutB_noM _ (wordB_noM hb), wordR_back hb]
    have := read_back_sums (c :: L) (fun x hx => h x (by simp [hx])) (n - 1) (by rw [List.map_cons]; simp at hn ⊢; omega)
    rw [List.map_cons] at this
    rw [this]
theorem sumsI_text {L : List Bd} (h : ∀ b ∈ L, algOk b.1 = true) : sumsI (intT L) = L := by
  unfold sumsI intT
  rw [wordsB_all h]
  exact read_back_sums L h _ (Nat.le_refl _)
/-- A text that impl reads and writes back bears right algorithms alone. -/
theorem sumsI_algs {l : List UInt8} (h : intT (sumsI l) = l) : ∀ b ∈ sumsI l, algOk b.1 = true := by
  have hf : intT ((sumsI l).filter fun b => algOk b.1) = intT (sumsI l) := by
    unfold intT wordsB
    rw [List.filter_filter]
    simp
  rw [h] at hf
  have hb := sumsI_text (L := (sumsI l).filter fun b => algOk b.1) (fun b hb => by simpa using (List.mem_filter.1 hb).2)
  rw [hf] at hb
  intro b hx
  rw [hb] at hx
  simpa using (List.mem_filter.1 hx).2

/-- What spec asks of a word. -/
def wordG (p : List UInt8) : Bool := decide (0 ≤ Lib.indexByte p 45) && (getB (cutB 45 p)).2
theorem idx_some {m : UInt8} : ∀ {l : List UInt8} (r : List UInt8), 0 ≤ Lib.indexByte (l ++ m :: r) m
  | [], r => by rw [List.nil_append, idx_hit r rfl]; omega
  | c :: l, r => by
    have ih := idx_some (m := m) (l := l) r
    by_cases hc : c = m
    · rw [List.cons_append, idx_hit _ hc]; omega
    · rw [List.cons_append, idx_miss _ hc]
      split <;> omega
theorem wordG_good {b : Bd} (h : algOk b.1 = true) : wordG (wordB b) = true := by
  unfold wordG
  rw [(wordB_cut h).2, get_put64]
  unfold wordB
  rw [decide_eq_true (idx_some _)]
  rfl
/-- A text with a word that spec refuses is none that impl writes back. -/
theorem bad_word {l p : List UInt8} (hl : l ≠ []) (hp : p ∈ cutL 32 l) (hg : wordG p = false) : getIntOk l = false := by
  unfold getIntOk
  cases ht : intT (sumsI l) == l with
  | false => simp
  | true =>
    have ht' : intT (sumsI l) = l := by simpa using ht
    have ha := sumsI_algs ht'
    have hne : (sumsI l).map wordB ≠ [] := by
      intro e
      have : sumsI l = [] := by simpa using e
      rw [this] at ht'
      exact hl (by rw [← ht']; rfl)
    have hw : cutL 32 l = (sumsI l).map wordB := by
      conv => lhs; rw [← ht']
      unfold intT
      rw [wordsB_all ha]
      refine cutL_join _ hne (fun x hx => ?_)
      obtain ⟨b, hb, rfl⟩ := List.mem_map.1 hx
      exact wordB_noM (ha b hb)
    rw [hw] at hp
    obtain ⟨b, hb, rfl⟩ := List.mem_map.1 hp
    rw [wordG_good (ha b hb)] at hg
    cases hg
theorem wordG_ne {p : List UInt8} (h : wordG p = true) : p ≠ [] := by
  intro e; subst e
  unfold wordG at h
  simp [Lib.indexByte] at h
theorem attach_one (c : UInt8) (x : List UInt8) (X : List (List UInt8)) : attach [c] (x :: X) = (c :: x) :: X := rfl
theorem cutL_step (m : UInt8) : ∀ l : List UInt8, (0 ≤ Lib.indexByte l m ∧ cutL m l = cutA m l :: cutL m (cutB m l)) ∨ (cutB m l = [] ∧ cutL m l = [cutA m l])
  | [] => .inr ⟨cutB_nil m, by rw [cutA_nil]; rfl⟩
  | c :: l => by
    have ih := cutL_step m l
    rw [show cutL m (c :: l) = if c = m then [] :: cutL m l else attach [c] (cutL m l) from rfl]
    by_cases h : c = m
    · subst h
      left
      rw [if_pos rfl, cutA_hit, cutB_hit, idx_hit l rfl]
      exact ⟨by omega, rfl⟩
    · rw [if_neg h, cutA_miss _ h, cutB_miss _ h, idx_miss l h]
      rcases ih with ⟨h0, e⟩ | ⟨h0, e⟩
      · left
        rw [e, if_neg (by omega)]
        exact ⟨by omega, rfl⟩
      · right
        rw [e]
        exact ⟨h0, rfl⟩
/-- Where spec takes every word, both read alike. -/
theorem good_words : ∀ (n : Nat) (l : List UInt8), l.length ≤ n → l ≠ [] → (∀ p ∈ cutL 32 l, wordG p = true) → sumsR n l = (cutL 32 l).map wordR
  | 0, l, hn, hl, _ => by have : l = [] := List.eq_nil_of_length_eq_zero (by omega); exact absurd this hl
  | n + 1, l, hn, hl, hg => by
    rw [sumsR_step hl hn, Nat.add_sub_cancel]
    rcases cutL_step 32 l with ⟨_, e⟩ | ⟨h0, e⟩
    · rw [e] at hg ⊢
      have hb := cutB_lt 32 hl
      have hne : cutB 32 l ≠ [] := by
        intro e0
        have := hg [] (by rw [e0]; simp [cutL])
        exact wordG_ne this rfl
      rw [List.map_cons, good_words n (cutB 32 l) (by omega) hne (fun p hp => hg p (by simp [hp]))]
    · rw [e, h0, sumsR_nil, List.map_cons, List.map_nil]
theorem sumsI_words {l : List UInt8} (hl : l ≠ []) (hg : ∀ p ∈ cutL 32 l, wordG p = true) : sumsI l = (cutL 32 l).map wordR := good_words _ l (Nat.le_refl _) hl hg
/-- spec's last test is impl's. -/
def noH1 (bs : List Bd) : Bool := bs.all fun b => !(b.1 == h1L)
theorem last_test (l : List UInt8) : (noH1 (sumsI l) && sumsOkL (sumsI l) && (intT (sumsI l) == l)) = getIntOk l := by
  unfold getIntOk
  cases ht : intT (sumsI l) == l with
  | false => simp
  | true =>
    have ha := sumsI_algs (by simpa using ht)
    have : noH1 (sumsI l) = true := by
      unfold noH1
      rw [List.all_eq_true]
      intro b hb
      have := alg_not_h1 (ha b hb)
      simpa using this
    rw [this, Bool.true_and]
theorem sumsI_nil : sumsI [] = [] := rfl
theorem getIntOk_nil : getIntOk [] = true := by decide +kernel

/-- The words that impl's cursor takes. -/
def curW : Nat → List UInt8 → List (List UInt8)
  | 0, _ => []
  | n + 1, l => if l = [] then [] else cutA 32 l :: curW n (cutB 32 l)
theorem sumsR_map : ∀ (n : Nat) (l : List UInt8), sumsR n l = (curW n l).map wordR
  | 0, _ => rfl
  | n + 1, l => by
    unfold sumsR curW
    split
    · rfl
    · rw [List.map_cons, sumsR_map n]
theorem smL_cons (x : List UInt8) (ls : List (List UInt8)) : smL (x :: ls) = x.length + smL ls := by simp [smL]
theorem smB_cons (b : Bd) (bs : List Bd) : smB (b :: bs) = b.1.length + b.2.length + smB bs := by simp [smB]
theorem curW_len : ∀ (n : Nat) (l : List UInt8), smL (curW n l) ≤ l.length ∧ (curW n l).length ≤ l.length
  | 0, _ => by simp [curW, smL]
  | n + 1, l => by
    unfold curW
    split
    · simp [smL]
    · rename_i h
      have a := cut_len 32 l
      have b := cutB_lt 32 h
      have ih := curW_len n (cutB 32 l)
      rw [smL_cons, List.length_cons]
      omega
theorem signs_le (l : List UInt8) : signs l ≤ l.length := by
  unfold signs
  induction l with
  | nil => simp
  | cons a l ih => rw [List.takeWhile_cons]; split <;> simp <;> omega
theorem getB_len (l : List UInt8) : (getB l).1.length ≤ l.length := by
  have a := dO_len l (signs l)
  have b := signs_le l
  unfold getB
  split
  · show (dO l (signs l)).length ≤ _; omega
  · simp
theorem getB_nil : getB [] = ([], true) := by decide +kernel
theorem word_wt {p : List UInt8} (h : 0 ≤ Lib.indexByte p 45 ∨ (wordR p).2 ≠ []) : 1 + (wordR p).1.length + (wordR p).2.length ≤ p.length := by
  have hg := getB_len (cutB 45 p)
  by_cases h0 : 0 ≤ Lib.indexByte p 45
  · have hlt := idx_lt p 45
    have ea : (cutA 45 p).length = (Lib.indexByte p 45).toNat := by unfold cutA; rw [if_pos h0, List.length_take]; omega
    have eb : (cutB 45 p).length = p.length - ((Lib.indexByte p 45).toNat + 1) := by unfold cutB; rw [if_pos h0, List.length_drop]
    show 1 + (cutA 45 p).length + (getB (cutB 45 p)).1.length ≤ _
    omega
  · have eb : cutB 45 p = [] := by unfold cutB; rw [if_neg h0]
    rcases h with h | h
    · exact absurd h h0
    · exact absurd (by show (getB (cutB 45 p)).1 = []; rw [eb, getB_nil]) h
theorem word_le (p : List UInt8) : (wordR p).2.length ≤ p.length := by
  have hg := getB_len (cutB 45 p)
  have := cutB_le 45 p
  show (getB (cutB 45 p)).1.length ≤ _
  omega
theorem map_wt : ∀ ws : List (List UInt8), (∀ p ∈ ws, 0 ≤ Lib.indexByte p 45 ∨ (wordR p).2 ≠ []) → (ws.map wordR).length + smB (ws.map wordR) ≤ smL ws
  | [], _ => by simp [smB, smL]
  | p :: ws, h => by
    have ih := map_wt ws (fun q hq => h q (by simp [hq]))
    have hp := word_wt (h p (by simp))
    rw [List.map_cons, smB_cons, smL_cons, List.length_cons]
    omega
theorem sums_all {bs : List Bd} : ∀ {n : Nat}, sumsTo bs n = true → ∀ k, k < n → sumAt bs k = true
  | 0, _, k, hk => by omega
  | n + 1, h, k, hk => by
    unfold sumsTo at h
    simp only [Bool.and_eq_true] at h
    by_cases e : k = n
    · subst e; exact h.2
    · exact sums_all h.1 k (by omega)
theorem sumsOk_ne {bs : List Bd} (h : sumsOkL bs = true) : ∀ b ∈ bs, b.2 ≠ [] := by
  intro b hb e
  obtain ⟨k, hk, rfl⟩ := List.mem_iff_getElem.1 hb
  have := sums_all h k hk
  unfold sumAt at this
  simp only [Bool.and_eq_true, decide_eq_true_eq] at this
  have h1 := this.1
  rw [getD_at hk, e] at h1
  exact longI_not0 _ h1
theorem sumsI_sm {l : List UInt8} (hl : l.length ≤ 1048576) (h : sumsOkL (sumsI l) = true) : SmB (sumsI l) := by
  have hn := sumsOk_ne h
  unfold SmB
  unfold sumsI at hn ⊢
  rw [sumsR_map] at hn ⊢
  have := map_wt (curW l.length l) (fun p hp => .inr (hn _ (List.mem_map.2 ⟨p, hp, rfl⟩)))
  have := (curW_len l.length l).1
  omega
theorem curW_words : ∀ (n : Nat) (l : List UInt8), l.length ≤ n → l ≠ [] → (∀ p ∈ cutL 32 l, wordG p = true) → curW n l = cutL 32 l
  | 0, l, hn, hl, _ => by have : l = [] := List.eq_nil_of_length_eq_zero (by omega); exact absurd this hl
  | n + 1, l, hn, hl, hg => by
    unfold curW
    rw [if_neg hl]
    rcases cutL_step 32 l with ⟨_, e⟩ | ⟨h0, e⟩
    · rw [e] at hg ⊢
      have hb := cutB_lt 32 hl
      have hne : cutB 32 l ≠ [] := by
        intro e0
        have := hg [] (by rw [e0]; simp [cutL])
        exact wordG_ne this rfl
      rw [curW_words n (cutB 32 l) (by omega) hne (fun p hp => hg p (by simp [hp]))]
    · rw [e, h0]
      cases n <;> simp [curW]
theorem wordG_dash {p : List UInt8} (h : wordG p = true) : 0 ≤ Lib.indexByte p 45 := by
  unfold wordG at h
  simp only [Bool.and_eq_true, decide_eq_true_eq] at h
  exact h.1
theorem words_sm {l : List UInt8} (hl : l.length ≤ 1048576) (hn : l ≠ []) (hg : ∀ p ∈ cutL 32 l, wordG p = true) : SmB ((cutL 32 l).map wordR) := by
  have hc := curW_words l.length l (Nat.le_refl _) hn hg
  have h1 := map_wt (cutL 32 l) (fun p hp => .inl (wordG_dash (hg p hp)))
  have h2 := (curW_len l.length l).1
  rw [hc] at h2
  unfold SmB
  omega
theorem sumsR_len (n : Nat) (l : List UInt8) : (sumsR n l).length ≤ l.length := by rw [sumsR_map, List.length_map]; exact (curW_len n l).2
end Go.Proofs.YtcfkhfbhmjfhdaaDoor
