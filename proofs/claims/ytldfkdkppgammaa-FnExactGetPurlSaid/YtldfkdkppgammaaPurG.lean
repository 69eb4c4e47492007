/-
  Reading a package URL in plain words: both readers hand back what was written, and nothing else.
-/
import Derived.Test.YtldfkdkppgammaaPurlM
import Derived.Test.YtldfkdkppgammaaSpdM
import Derived.Test.YtldfkdkppgammaaGetPctS
import Derived.Test.YtldfkdkppgammaaSpKM
import Derived.Test.YtldfkdkppgammaaIntM
namespace Go.Proofs.Ytldfkdkppgammaa
open Go.RowKit

/-- No m in l. -/
def noM (m : UInt8) (l : List UInt8) : Prop := ∀ c ∈ l, ¬ c = m
theorem noM_nil (m : UInt8) : noM m [] := fun c h => by cases h
theorem noM_app {m : UInt8} {a b : List UInt8} (h : noM m a) (k : noM m b) : noM m (a ++ b) := fun c hc => by
  rcases List.mem_append.1 hc with h1 | h1
  · exact h c h1
  · exact k c h1
theorem noM_tail {m c : UInt8} {l : List UInt8} (h : noM m (c :: l)) : noM m l := fun x hx => h x (by simp [hx])
theorem cutA_noM {m : UInt8} : ∀ {l : List UInt8} (r : List UInt8), noM m l → cutA m (l ++ m :: r) = l
  | [], r, _ => cutA_hit m r
  | c :: l, r, h => by rw [List.cons_append, cutA_miss _ (h c (by simp)), cutA_noM r (noM_tail h)]
theorem cutB_noM {m : UInt8} : ∀ {l : List UInt8} (r : List UInt8), noM m l → cutB m (l ++ m :: r) = r
  | [], r, _ => cutB_hit m r
  | c :: l, r, h => by rw [List.cons_append, cutB_miss _ (h c (by simp)), cutB_noM r (noM_tail h)]
theorem cutL_noM {m : UInt8} : ∀ {l : List UInt8}, noM m l → cutL m l = [l]
  | [], _ => rfl
  | c :: l, h => by unfold cutL; rw [if_neg (h c (by simp)), cutL_noM (noM_tail h)]; rfl
theorem cutL_head {m : UInt8} : ∀ {l : List UInt8} (r : List UInt8), noM m l → cutL m (l ++ m :: r) = l :: cutL m r
  | [], r, _ => by rw [List.nil_append]; conv => lhs; unfold cutL
                   rw [if_pos rfl]
  | c :: l, r, h => by
    rw [List.cons_append]
    conv => lhs; unfold cutL
    rw [if_neg (h c (by simp)), cutL_head r (noM_tail h)]
    rfl
theorem cutL_join {m : UInt8} : ∀ (ls : List (List UInt8)), ls ≠ [] → (∀ l ∈ ls, noM m l) → cutL m (Lib.join ls [m]) = ls
  | [], h, _ => absurd rfl h
  | [x], _, h => by rw [join_one, cutL_noM (h x (by simp))]
  | x :: y :: l, _, h => by
    rw [join_cons, List.append_assoc, List.cons_append, List.nil_append, cutL_head _ (h x (by simp)), cutL_join (y :: l) (by simp) (fun z hz => h z (by simp [hz]))]
theorem join_attach (m : UInt8) (p : List UInt8) {X : List (List UInt8)} (h : X ≠ []) : Lib.join (attach p X) [m] = p ++ Lib.join X [m] := by
  cases X with
  | nil => exact absurd rfl h
  | cons x X =>
    cases X with
    | nil => simp [attach, join_one]
    | cons y X => simp [attach, join_cons]
theorem join_cutL (m : UInt8) : ∀ l : List UInt8, Lib.join (cutL m l) [m] = l
  | [] => by simp [cutL, join_one]
  | c :: l => by
    have ih := join_cutL m l
    have hne := cutL_ne m l
    unfold cutL
    split
    · rename_i h
      subst h
      cases hx : cutL c l with
      | nil => exact absurd hx hne
      | cons y ys => rw [hx] at ih; rw [join_cons, ih]; simp
    · rw [join_attach m [c] hne, ih]; rfl
/-- How long texts are together, one more for each. -/
def jl (ls : List (List UInt8)) : Nat := (ls.map fun l => l.length + 1).sum
theorem join_jl (m : UInt8) : ∀ ls : List (List UInt8), (Lib.join ls [m]).length ≤ jl ls
  | [] => by simp [Lib.join, List.intercalate]
  | [x] => by rw [join_one]; simp [jl]
  | x :: y :: l => by
    have ih := join_jl m (y :: l)
    have e : jl (x :: y :: l) = x.length + 1 + jl (y :: l) := by simp [jl]
    rw [join_cons, e]; simp; omega
theorem jl_cons (x : List UInt8) (l : List (List UInt8)) : jl (x :: l) = x.length + 1 + jl l := by simp [jl]
theorem jl_attach (p : List UInt8) {X : List (List UInt8)} (h : X ≠ []) : jl (attach p X) = p.length + jl X := by
  cases X with
  | nil => exact absurd rfl h
  | cons x X => simp [attach, jl]; omega
theorem jl_cutL (m : UInt8) : ∀ l : List UInt8, jl (cutL m l) = l.length + 1
  | [] => by simp [cutL, jl]
  | c :: l => by
    have ih := jl_cutL m l
    unfold cutL
    split
    · rw [jl_cons, ih]; simp; omega
    · rw [jl_attach _ (cutL_ne m l), ih]; simp; omega
theorem jl_map (f : List UInt8 → List UInt8) (hf : ∀ x, (f x).length ≤ x.length) : ∀ ls : List (List UInt8), jl (ls.map f) ≤ jl ls
  | [] => by simp [jl]
  | x :: l => by have := jl_map f hf l; have := hf x; rw [List.map_cons, jl_cons, jl_cons]; omega
theorem jl_take (ls : List (List UInt8)) (k : Nat) : jl (ls.take k) ≤ jl ls := by
  have : jl ls = jl (ls.take k) + jl (ls.drop k) := by unfold jl; rw [← List.sum_append, ← List.map_append, List.take_append_drop]
  omega
theorem jl_mem {ls : List (List UInt8)} : ∀ x ∈ ls, x.length + 1 ≤ jl ls := by
  induction ls with
  | nil => intro x h; cases h
  | cons a t ih =>
    intro x h
    rw [jl_cons]
    rcases List.mem_cons.1 h with rfl | h
    · omega
    · have := ih x h; omega

/-! Percents. -/
theorem hexU_pair (c : UInt8) : pairV upperL (hexU (c.toNat / 16)) (hexU (c.toNat % 16)) = some c := by
  have h : ∀ a : Nat, a < 16 → Lib.indexByte upperL (hexU a) = (a : Int) := by decide +kernel
  have hc := c.toNat_lt
  unfold pairV
  rw [h (c.toNat / 16) (by omega), h (c.toNat % 16) (by omega), if_neg (by omega)]
  congr 1
  apply UInt8.toNat_inj.1
  simp
  omega
theorem lenG_back : ∀ l : List UInt8, lenG (pctL l) = some l
  | [] => rfl
  | c :: l => by
    have ih := lenG_back l
    by_cases h : safeB c = true
    · show lenG (pctB c ++ pctL l) = _
      have hc : c ≠ 37 := by rintro rfl; rw [safe37] at h; cases h
      rw [pctB_safe h, List.cons_append, List.nil_append, lenG_cons, if_neg hc, ih]; rfl
    · show lenG (pctB c ++ pctL l) = _
      rw [pctB_not h]
      simp only [List.cons_append, List.nil_append]
      rw [lenG_cons, if_pos rfl]
      simp only [hexU_pair, ih]
      rfl
theorem pctS_back (l : List UInt8) : pctS (pctL l) = some l := by unfold pctS; rw [lenG_back]; simp
theorem pct_both (l : List UInt8) : pctG l = pctS l := pct_same l.length l (Nat.le_refl _)
theorem pctS_le (l : List UInt8) : ((pctS l).getD []).length ≤ l.length := by
  cases h : pctS l with
  | none => simp
  | some o =>
    unfold pctS at h
    cases hl : lenG l with
    | none => rw [hl] at h; cases h
    | some q =>
      rw [hl] at h
      simp only [Option.bind_some] at h
      split at h
      · rename_i hq
        cases h
        rw [← hq]
        have : ∀ l : List UInt8, l.length ≤ (pctL l).length := by
          intro l
          induction l with
          | nil => simp [pctL]
          | cons c l ih =>
            have : 1 ≤ (pctB c).length := by unfold pctB; split <;> simp
            simp [pctL]; omega
        simpa using this o
      · cases h
theorem hexU_no (m : UInt8) (hm : m = 47 ∨ m = 64) (a : Nat) (h : a < 16) : ¬ hexU a = m := by
  have h1 : ∀ a : Nat, a < 16 → ¬ hexU a = 47 ∧ ¬ hexU a = 64 := by decide +kernel
  rcases hm with rfl | rfl
  · exact (h1 a h).1
  · exact (h1 a h).2
theorem pctL_noM (m : UInt8) (hm : m = 47 ∨ m = 64) : ∀ l : List UInt8, noM m (pctL l)
  | [] => noM_nil m
  | c :: l => by
    have ih := pctL_noM m hm l
    refine noM_app ?_ ih
    have hc := c.toNat_lt
    by_cases h : safeB c = true
    · rw [pctB_safe h]
      intro x hx
      simp at hx
      subst hx
      rintro rfl
      rcases hm with rfl | rfl
      · exact absurd h (by decide)
      · exact absurd h (by decide)
    · rw [pctB_not h]
      intro x hx
      simp at hx
      rcases hx with rfl | rfl | rfl
      · rcases hm with rfl | rfl <;> decide
      · exact hexU_no m hm _ (by omega)
      · exact hexU_no m hm _ (by omega)

/-! What is read. -/
def decP (p : List UInt8) : List UInt8 := (pctS p).getD []
/-- The parts of a name as they are read. -/
def nameP (ps : List (List UInt8)) : List UInt8 := Lib.join (ps.map decP) [47]
def pkgL : List UInt8 := [112, 107, 103, 58]
def kindOfI (l : List UInt8) : Int := if kindL 0 = l then 0 else if kindL 1 = l then 1 else if kindL 2 = l then 2 else if kindL 3 = l then 3 else -1
/-- The kind with which a name and a version are written so. -/
def kindAt (s a b : List UInt8) : Int := if purlL 0 a b = s then 0 else if purlL 1 a b = s then 1 else if purlL 2 a b = s then 2 else if purlL 3 a b = s then 3 else -1
abbrev Trp := Int × List UInt8 × List UInt8
def noTrp : Trp := (-1, [], [])
/-- What spec hands back: h stands before the last at, t behind it. -/
def getS (s h t : List UInt8) : Trp := if ((pctS t).isSome && (cutL 47 h).tail.all fun p => (pctS p).isSome) = true ∧ s ≠ [] then
    (if kindAt s (nameP (cutL 47 h).tail) (decP t) = -1 then noTrp else (kindAt s (nameP (cutL 47 h).tail) (decP t), nameP (cutL 47 h).tail, decP t)) else noTrp
/-- What impl hands back: r stands behind the beginning. -/
def getI (s r : List UInt8) : Trp :=
  if s = [] ∨ ¬ purlL (kindOfI (cutA 47 r)) (nameP (cutL 47 (cutA 64 (cutB 47 r)))) (decP (cutB 64 (cutB 47 r))) = s then noTrp
  else (kindOfI (cutA 47 r), nameP (cutL 47 (cutA 64 (cutB 47 r))), decP (cutB 64 (cutB 47 r)))
theorem kind_some {k : Int} (h : kindL k ≠ []) : k = 0 ∨ k = 1 ∨ k = 2 ∨ k = 3 := by
  by_cases hk : k < 0 ∨ 3 < k
  · exact absurd (kindL_no hk) h
  · omega
theorem kindOf_back {k : Int} (h : kindL k ≠ []) : kindOfI (kindL k) = k := by
  rcases kind_some h with rfl | rfl | rfl | rfl <;> decide
theorem kind_noM (k : Int) : noM 47 (kindL k) ∧ noM 64 (kindL k) := by
  by_cases h : kindL k = []
  · rw [h]; exact ⟨noM_nil _, noM_nil _⟩
  · rcases kind_some h with rfl | rfl | rfl | rfl
    all_goals exact ⟨by intro c hc; revert c; decide, by intro c hc; revert c; decide⟩
theorem purl_not_nil {k : Int} {a b : List UInt8} (h : purlL k a b ≠ []) : kindL k ≠ [] ∧ specN a = true ∧ readOk b = true := by
  refine ⟨fun e => h (purl_kind a b e), ?_, ?_⟩
  · cases e : specN a with
    | false => exact absurd (purl_name k b e) h
    | true => rfl
  · cases e : readOk b with
    | false => exact absurd (purl_ver k a e) h
    | true => rfl
theorem purlT_form (k : Int) (a b : List UInt8) : purlT k a b = (pkgL ++ kindL k ++ pctP (cutL 47 a)) ++ 64 :: pctL b := rfl
theorem purlT_rest (k : Int) (a b : List UInt8) : purlT k a b = pkgL ++ (kindL k ++ 47 :: (Lib.join ((cutL 47 a).map pctL) [47] ++ 64 :: pctL b)) := by
  rw [purlT_form, ← join_pct (cutL 47 a) (cutL_ne 47 a)]; simp
theorem parts_noM (m : UInt8) (hm : m = 47 ∨ m = 64) (a : List UInt8) : ∀ l ∈ (cutL 47 a).map pctL, noM m l := fun l hl => by
  obtain ⟨p, _, rfl⟩ := List.mem_map.1 hl
  exact pctL_noM m hm p
theorem join_noM {m : UInt8} {sep : List UInt8} (hs : noM m sep) : ∀ ls : List (List UInt8), (∀ l ∈ ls, noM m l) → noM m (Lib.join ls sep)
  | [], _ => by simp [Lib.join, List.intercalate]; exact noM_nil m
  | [x], h => by rw [join_one]; exact h x (by simp)
  | x :: y :: l, h => by
    rw [join_cons]
    exact noM_app (noM_app (h x (by simp)) hs) (join_noM hs (y :: l) (fun z hz => h z (by simp [hz])))
theorem decP_back (l : List UInt8) : decP (pctL l) = l := by unfold decP; rw [pctS_back]; rfl
theorem nameP_back (a : List UInt8) : nameP ((cutL 47 a).map pctL) = a := by
  unfold nameP
  rw [List.map_map]
  have : (decP ∘ pctL) = id := by funext l; exact decP_back l
  rw [this, List.map_id, join_cutL]
theorem head_cut (k : Int) (a : List UInt8) : cutL 47 (pkgL ++ kindL k ++ pctP (cutL 47 a)) = (pkgL ++ kindL k) :: (cutL 47 a).map pctL := by
  rw [← join_pct (cutL 47 a) (cutL_ne 47 a), cutL_head _ (noM_app (by intro c hc; revert c; decide) (kind_noM k).1), cutL_join _ (by simp; exact cutL_ne 47 a) (parts_noM 47 (.inl rfl) a)]
theorem kindAt_back {k : Int} {a b s : List UInt8} (hs : s ≠ []) (h : purlL k a b = s) : kindAt s a b = k := by
  obtain ⟨hk, ha, hb⟩ := purl_not_nil (by rw [h]; exact hs)
  have inj : ∀ j, purlL j a b = s → j = k := fun j hj => by
    obtain ⟨hj0, _, _⟩ := purl_not_nil (by rw [hj]; exact hs)
    rw [← h, purl_yes hj0 ha hb, purl_yes hk ha hb] at hj
    rw [purlT_rest, purlT_rest] at hj
    have e := congrArg (cutA 47) (List.append_cancel_left hj)
    rw [cutA_noM _ (kind_noM j).1, cutA_noM _ (kind_noM k).1] at e
    rw [← kindOf_back hj0, ← kindOf_back hk, e]
  unfold kindAt
  by_cases h0 : purlL 0 a b = s
  · rw [if_pos h0]; exact inj 0 h0
  · rw [if_neg h0]
    by_cases h1 : purlL 1 a b = s
    · rw [if_pos h1]; exact inj 1 h1
    · rw [if_neg h1]
      by_cases h2 : purlL 2 a b = s
      · rw [if_pos h2]; exact inj 2 h2
      · rw [if_neg h2]
        by_cases h3 : purlL 3 a b = s
        · rw [if_pos h3]; exact inj 3 h3
        · exfalso
          rcases kind_some hk with rfl | rfl | rfl | rfl
          · exact h0 h
          · exact h1 h
          · exact h2 h
          · exact h3 h
theorem kindAt_hit {s a b : List UInt8} (h : ¬ kindAt s a b = -1) : purlL (kindAt s a b) a b = s := by
  unfold kindAt at h ⊢
  split
  · assumption
  · rename_i h0
    rw [if_neg h0] at h
    split
    · assumption
    · rename_i h1
      rw [if_neg h1] at h
      split
      · assumption
      · rename_i h2
        rw [if_neg h2] at h
        split
        · assumption
        · rename_i h3; rw [if_neg h3] at h; exact absurd rfl h
theorem getS_yes {s h t a b : List UInt8} {k : Int} (hs : s ≠ []) (hp : purlL k a b = s) (hh : s = h ++ 64 :: t) (ht : noM 64 t) : getS s h t = (k, a, b) := by
  obtain ⟨hk, ha, hb⟩ := purl_not_nil (by rw [hp]; exact hs)
  have hf : purlT k a b = s := by rw [← purl_yes hk ha hb]; exact hp
  have hu : ∀ (x y u v : List UInt8), noM 64 u → noM 64 v → x ++ 64 :: u = y ++ 64 :: v → x = y ∧ u = v := by
    intro x y u v h1 h2 e
    have e' := congrArg List.reverse e
    simp only [List.reverse_append, List.reverse_cons, List.append_assoc, List.cons_append, List.nil_append] at e'
    have r1 : noM 64 u.reverse := fun c hc => h1 c (List.mem_reverse.1 hc)
    have r2 : noM 64 v.reverse := fun c hc => h2 c (List.mem_reverse.1 hc)
    have a1 := congrArg (cutA 64) e'
    have a2 := congrArg (cutB 64) e'
    rw [cutA_noM _ r1, cutA_noM _ r2] at a1
    rw [cutB_noM _ r1, cutB_noM _ r2] at a2
    exact ⟨List.reverse_inj.1 a2, List.reverse_inj.1 a1⟩
  have e : (pkgL ++ kindL k ++ pctP (cutL 47 a)) ++ 64 :: pctL b = h ++ 64 :: t := by rw [← purlT_form, hf, hh]
  obtain ⟨rfl, rfl⟩ := hu _ _ _ _ (pctL_noM 64 (.inr rfl) b) ht e
  unfold getS
  rw [head_cut, List.tail_cons, nameP_back, decP_back, kindAt_back hs hp, pctS_back]
  have hall : ((cutL 47 a).map pctL).all (fun p => (pctS p).isSome) = true := by
    rw [List.all_eq_true]
    intro p hpm
    obtain ⟨q, _, rfl⟩ := List.mem_map.1 hpm
    rw [pctS_back]; rfl
  rw [hall, if_pos ⟨rfl, hs⟩, if_neg (by rcases kind_some hk with rfl | rfl | rfl | rfl <;> decide)]
theorem getS_no {s h t : List UInt8} (hn : ∀ k a b, ¬ (s ≠ [] ∧ purlL k a b = s)) : getS s h t = noTrp := by
  unfold getS
  split
  · rename_i hc
    by_cases hk : kindAt s (nameP (cutL 47 h).tail) (decP t) = -1
    · rw [if_pos hk]
    · exact absurd ⟨hc.2, kindAt_hit hk⟩ (hn _ _ _)
  · rfl
theorem getI_yes {s r a b : List UInt8} {k : Int} (hs : s ≠ []) (hp : purlL k a b = s) (hr : r = (Lib.cut s pkgL).2.1) : getI s r = (k, a, b) := by
  obtain ⟨hk, ha, hb⟩ := purl_not_nil (by rw [hp]; exact hs)
  have hf : purlT k a b = s := by rw [← purl_yes hk ha hb]; exact hp
  have hr' : r = kindL k ++ 47 :: (Lib.join ((cutL 47 a).map pctL) [47] ++ 64 :: pctL b) := by
    rw [hr, ← hf, purlT_rest]; exact cut_pre pkgL _ (by simp [pkgL])
  have j64 : noM 64 (Lib.join ((cutL 47 a).map pctL) [47]) := join_noM (by intro c hc; revert c; decide) _ (parts_noM 64 (.inr rfl) a)
  unfold getI
  rw [hr', cutA_noM _ (kind_noM k).1, cutB_noM _ (kind_noM k).1, cutA_noM _ j64, cutB_noM _ j64, cutL_join _ (by simp; exact cutL_ne 47 a) (parts_noM 47 (.inl rfl) a), kindOf_back hk, nameP_back, decP_back]
  rw [if_neg (by intro h; rcases h with h | h; exact hs h; exact h hp)]
theorem getI_no {s r : List UInt8} (hn : ∀ k a b, ¬ (s ≠ [] ∧ purlL k a b = s)) : getI s r = noTrp := by
  unfold getI
  by_cases h : s = []
  · rw [if_pos (.inl h)]
  · rw [if_pos (.inr (fun e => hn _ _ _ ⟨h, e⟩))]
/-- The two readers agree, where s is parted at its last at or has none. -/
theorem get_same {s h t r : List UInt8} (hp : (s = h ++ 64 :: t ∧ noM 64 t) ∨ (noM 64 s ∧ h = [] ∧ t = [])) (hr : r = (Lib.cut s pkgL).2.1) : getI s r = getS s h t := by
  by_cases hx : ∃ k a b, s ≠ [] ∧ purlL k a b = s
  · obtain ⟨k, a, b, hs, he⟩ := hx
    rcases hp with ⟨h1, h2⟩ | ⟨h1, _, _⟩
    · rw [getI_yes hs he hr, getS_yes hs he h1 h2]
    · exfalso
      obtain ⟨hk, ha, hb⟩ := purl_not_nil (by rw [he]; exact hs)
      rw [← he, purl_yes hk ha hb, purlT_form] at h1
      exact h1 64 (by simp) rfl
  · have hn : ∀ k a b, ¬ (s ≠ [] ∧ purlL k a b = s) := fun k a b h => hx ⟨k, a, b, h.1, h.2⟩
    rw [getI_no hn, getS_no hn]
theorem nameP_len (ps : List (List UInt8)) (k : Nat) : (nameP (ps.take k)).length ≤ jl ps := by
  have h1 := join_jl 47 ((ps.take k).map decP)
  have h2 := jl_map decP pctS_le (ps.take k)
  have h3 := jl_take ps k
  unfold nameP; omega
theorem tail_jl (h : List UInt8) : jl (cutL 47 h).tail ≤ h.length := by
  have e := jl_cutL 47 h
  cases hc : cutL 47 h with
  | nil => exact absurd hc (cutL_ne 47 h)
  | cons x l => rw [hc, jl_cons] at e; simp; omega
end Go.Proofs.Ytldfkdkppgammaa
