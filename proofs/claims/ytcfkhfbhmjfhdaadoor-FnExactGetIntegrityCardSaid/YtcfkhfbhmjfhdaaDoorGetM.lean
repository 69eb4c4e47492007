/-
  The two decoders return the same.
-/
import Derived.Test.YtcfkhfbhmjfhdaaDoorGetB
import Derived.Lib.TrimByte
namespace Go.Proofs.YtcfkhfbhmjfhdaaDoor
open Go.RowKit

theorem dN_pre (d r : List UInt8) (k : Nat) (hk : k ≤ d.length) : dN (d ++ r) k = dN d k := by
  induction k with
  | zero => rfl
  | succ k ih =>
    have : (d ++ r).getD k 0 = d.getD k 0 := by simp only [List.getD]; rw [List.getElem?_append_left (by omega)]
    simp only [dN, ih (by omega), this]
theorem dO_pre (d r : List UInt8) (k : Nat) (hk : k ≤ d.length) : dO (d ++ r) k = dO d k := by
  induction k with
  | zero => rfl
  | succ k ih => simp only [dO, ih (by omega), dN_pre d r (k + 1) hk]

theorem mem_tw {p : UInt8 → Bool} {l : List UInt8} {c : UInt8} (h : c ∈ l.takeWhile p) : p c = true := by
  induction l with
  | nil => simp at h
  | cons a l ih =>
    rw [List.takeWhile_cons] at h
    split at h
    · rename_i ha
      rcases List.mem_cons.1 h with rfl | h
      · exact ha
      · exact ih h
    · simp at h
theorem tw_self {p : UInt8 → Bool} {l : List UInt8} (h : ∀ c ∈ l, p c = true) : l.takeWhile p = l := by
  induction l with
  | nil => rfl
  | cons a l ih => rw [List.takeWhile_cons, if_pos (h a (by simp)), ih (fun c hc => h c (by simp [hc]))]
def AllS (l : List UInt8) : Prop := ∀ c ∈ l, 0 ≤ ix c
theorem ix_pad : ix 61 = -1 := by decide +kernel
theorem ix_sg (n : Nat) (hn : n < 64) : 0 ≤ ix (sg n) := by
  have h : ∀ n : Fin 64, 0 ≤ ix (sg n.1) := by decide +kernel
  exact h ⟨n, hn⟩
theorem signs_all (l : List UInt8) (h : AllS l) : signs l = l.length := by
  unfold signs
  rw [tw_self (fun c hc => by simpa using h c hc)]
theorem all_signs (l : List UInt8) (h : signs l = l.length) : AllS l := by
  intro c hc
  have hp := List.takeWhile_prefix (fun c => decide (0 ≤ ix c)) (l := l)
  have he := hp.eq_of_length h
  rw [← he] at hc
  have := mem_tw hc
  simpa using this
theorem signs_pad (d : List UInt8) (m : Nat) (h : AllS d) : signs (d ++ List.replicate m 61) = d.length := by
  unfold signs
  rw [List.takeWhile_append_of_pos (fun c hc => by simpa using h c hc)]
  cases m with
  | zero => simp
  | succ m => rw [List.replicate_succ, List.takeWhile_cons, if_neg (by rw [ix_pad]; decide)]; simp
/-- A text without its padding, and the padding. -/
theorem trim_split (l : List UInt8) : ∃ m, l = Lib.trimRightB l 61 ++ List.replicate m 61 := by
  refine ⟨(l.reverse.takeWhile (· == 61)).length, ?_⟩
  have h := List.takeWhile_append_dropWhile (p := (· == (61 : UInt8))) (l := l.reverse)
  have hr : l.reverse.takeWhile (· == 61) = List.replicate (l.reverse.takeWhile (· == 61)).length 61 := List.eq_replicate_iff.2 ⟨rfl, fun b hb => by have := mem_tw hb; simpa using this⟩
  have h2 := congrArg List.reverse h
  rw [List.reverse_append, List.reverse_reverse] at h2
  rw [hr, List.reverse_replicate] at h2
  unfold Lib.trimRightB
  simpa using h2.symm
theorem trim_pad (d : List UInt8) (m : Nat) (h : AllS d) : Lib.trimRightB (d ++ List.replicate m 61) 61 = d := by
  unfold Lib.trimRightB
  rw [List.reverse_append, List.reverse_replicate, List.dropWhile_append_of_pos (by intro a ha; simp [List.eq_of_mem_replicate ha])]
  cases hd : d.reverse with
  | nil => have := congrArg List.reverse hd; simp at this; simp [this]
  | cons a t =>
    have hm : a ∈ d := by have : a ∈ d.reverse := by rw [hd]; simp
                          simpa using this
    have h0 := h a hm
    have hne : ¬ (a == 61) = true := by
      intro e
      have : a = 61 := by simpa using e
      rw [this, ix_pad] at h0; omega
    rw [List.dropWhile_cons, if_neg hne, ← hd]; simp
theorem grp_full (n : Nat) : AllS (grp n 3) := by
  intro c hc
  simp only [grp, ch, List.mem_cons, List.mem_nil_iff, or_false] at hc
  rcases hc with rfl | rfl | rfl | rfl
  all_goals (rw [if_neg (by omega)]; exact ix_sg _ (Nat.mod_lt _ (by decide)))
theorem b64G_full (l : List UInt8) (q : Nat) (h : 3 * q ≤ l.length) : AllS (b64G l q) := by
  induction q with
  | zero => intro c hc; simp [b64G] at hc
  | succ q ih =>
    intro c hc
    rw [b64G_succ, List.mem_append] at hc
    rcases hc with hc | hc
    · exact ih (by omega) c hc
    · rw [show min 3 (l.length - 3 * q) = 3 by omega] at hc
      exact grp_full _ c hc
theorem b64L_pad (l : List UInt8) : ∃ d m, b64L l = d ++ List.replicate m 61 ∧ AllS d := by
  by_cases h0 : l.length % 3 = 0
  · exact ⟨b64L l, 0, by simp, b64G_full l _ (by omega)⟩
  · obtain ⟨q, hq⟩ : ∃ q, (l.length + 2) / 3 = q + 1 := ⟨(l.length + 2) / 3 - 1, by omega⟩
    have hf := b64G_full l q (by omega)
    unfold b64L
    rw [hq, b64G_succ]
    have hs : ∀ (n m j : Nat), ¬ m < j → 0 ≤ ix (ch n m j) := fun n m j hj => by unfold ch; rw [if_neg hj]; exact ix_sg _ (Nat.mod_lt _ (by decide))
    obtain h1 | h2 : min 3 (l.length - 3 * q) = 1 ∨ min 3 (l.length - 3 * q) = 2 := by omega
    · rw [h1]
      refine ⟨b64G l q ++ [ch (pv l (3 * q) 3) 1 0, ch (pv l (3 * q) 3) 1 1], 2, ?_, ?_⟩
      · simp [grp, ch, List.replicate]
      · intro c hc
        simp only [List.mem_append, List.mem_cons, List.mem_nil_iff, or_false] at hc
        rcases hc with hc | rfl | rfl
        · exact hf c hc
        · exact hs _ _ _ (by omega)
        · exact hs _ _ _ (by omega)
    · rw [h2]
      refine ⟨b64G l q ++ [ch (pv l (3 * q) 3) 2 0, ch (pv l (3 * q) 3) 2 1, ch (pv l (3 * q) 3) 2 2], 1, ?_, ?_⟩
      · simp [grp, ch, List.replicate]
      · intro c hc
        simp only [List.mem_append, List.mem_cons, List.mem_nil_iff, or_false] at hc
        rcases hc with hc | rfl | rfl | rfl
        · exact hf c hc
        · exact hs _ _ _ (by omega)
        · exact hs _ _ _ (by omega)
        · exact hs _ _ _ (by omega)

theorem get_join (l d : List UInt8) (hd : d = Lib.trimRightB l 61) :
    (if signs d = d.length then (if b64L (dO d d.length) = l then (dO d d.length, true) else ([], false)) else ([], false)) = getB l := by
  obtain ⟨m, hm⟩ := trim_split l
  rw [← hd] at hm
  by_cases hs : signs d = d.length
  · have ha := all_signs d hs
    have hl : signs l = d.length := by rw [hm]; exact signs_pad d m ha
    have ho : dO l d.length = dO d d.length := by
      have := dO_pre d (List.replicate m 61) d.length (Nat.le_refl _)
      rw [← hm] at this
      exact this
    unfold getB
    rw [if_pos hs, hl, ho]
  · unfold getB
    rw [if_neg hs, if_neg]
    intro he
    obtain ⟨x, k, hx, hxa⟩ := b64L_pad (dO l (signs l))
    rw [he] at hx
    apply hs
    rw [hd, hx, trim_pad x k hxa]
    exact signs_all x hxa
end Go.Proofs.YtcfkhfbhmjfhdaaDoor
