/-
  Right trees in plain words: each node's own parts, how deep, how many nodes.
-/
import Derived.Test.YthlbpklllphhcaaNdM
namespace Go.Proofs.Ythlbpklllphhcaa
open Go.RowKit

/-- All of these trees, of no more than d levels, are right, where so many levels may still follow. -/
def okTs (f : Tr → Bool) : Nat → List Tr → Int → Bool
  | 0, _, _ => true
  | d + 1, ts, deep => ts.all fun t => okTs f d t.kids (deep - 1) && (decide (0 ≤ deep) && f t)
def okT (f : Tr → Bool) (d : Nat) (t : Tr) (deep : Int) : Bool := okTs f d t.kids (deep - 1) && (decide (0 ≤ deep) && f t)
/-- How many nodes they have. -/
def nTs : Nat → List Tr → Nat
  | 0, _ => 0
  | d + 1, ts => (ts.map fun t => 1 + nTs d t.kids).sum
def nT (d : Nat) (t : Tr) : Nat := 1 + nTs d t.kids
/-- How many the first k have. -/
def nPre : Nat → List Tr → Nat → Nat
  | 0, _, _ => 0
  | d + 1, ts, k => ((ts.take k).map (nT d)).sum
theorem nPre_zero (d : Nat) (ts : List Tr) : nPre d ts 0 = 0 := by cases d <;> simp [nPre]
theorem nPre_is (d : Nat) (ts : List Tr) (k : Nat) : nPre (d + 1) ts k = ((ts.take k).map (nT d)).sum := rfl
theorem nPre_step {d : Nat} {ts : List Tr} {k : Nat} (h : k < ts.length) : nPre (d + 1) ts (k + 1) = nPre (d + 1) ts k + nT d ts[k] := by
  rw [nPre_is, nPre_is, List.take_succ_eq_append_getElem h, List.map_append, List.sum_append]; simp
theorem nPre_all (d : Nat) (ts : List Tr) : nPre d ts ts.length = nTs d ts := by
  cases d with
  | zero => rfl
  | succ d => rw [nPre_is, List.take_length]; rfl
theorem sum_ge (ts : List Tr) (d : Nat) : ts.length ≤ (ts.map (nT d)).sum := by
  induction ts with
  | nil => simp
  | cons a l ih => simp only [List.map_cons, List.sum_cons, List.length_cons]; have : 1 ≤ nT d a := by unfold nT; omega
                   omega
theorem nPre_rest {d : Nat} {ts : List Tr} {k : Nat} (_h : k ≤ ts.length) : nPre (d + 1) ts k + (ts.length - k) ≤ nTs (d + 1) ts := by
  have e : nTs (d + 1) ts = (ts.map (nT d)).sum := rfl
  have h1 : (ts.map (nT d)).sum = ((ts.take k).map (nT d)).sum + ((ts.drop k).map (nT d)).sum := by rw [← List.sum_append, ← List.map_append, List.take_append_drop]
  have h2 := sum_ge (ts.drop k) d
  rw [List.length_drop] at h2
  have e2 : nPre (d + 1) ts k = ((ts.take k).map (nT d)).sum := rfl
  rw [e, h1, e2]
  omega
theorem nPre_ge {d : Nat} {ts : List Tr} {k : Nat} (h : k ≤ ts.length) : k ≤ nPre (d + 1) ts k := by
  have h2 := sum_ge (ts.take k) d
  rw [List.length_take] at h2
  have e2 : nPre (d + 1) ts k = ((ts.take k).map (nT d)).sum := rfl
  rw [e2]; omega
theorem nTs_w : ∀ (d : Nat) (ts : List Tr), nTs d ts ≤ wTs d ts
  | 0, _ => by simp [nTs]
  | d + 1, ts => by
    have e : nTs (d + 1) ts = (ts.map (nT d)).sum := rfl
    have h : ∀ l : List Tr, (l.map (nT d)).sum ≤ (l.map fun t => wT d t).sum + l.length := by
      intro l
      induction l with
      | nil => simp
      | cons a l ih =>
        simp only [List.map_cons, List.sum_cons, List.length_cons]
        have h1 := nTs_w d a.kids
        have h2 : wT d a = a.s.length + (a.keys.length + smL a.keys) + wTs d a.kids := rfl
        have h3 : nT d a = 1 + nTs d a.kids := rfl
        omega
    rw [e, wTs_is]
    have := h ts
    unfold wTo
    rw [List.take_length]
    exact this
theorem okT_bad {f : Tr → Bool} {e : Nat} {t : Tr} {deep : Int} {k : Nat} (h : k < t.kids.length) (hb : okT f e t.kids[k] (deep - 1) = false) : okT f (e + 1) t deep = false := by
  have : okTs f (e + 1) t.kids (deep - 1) = false := by
    unfold okTs
    rw [List.all_eq_false]
    exact ⟨_, List.getElem_mem h, fun hx => by
      have h2 : okT f e t.kids[k] (deep - 1) = true := hx
      rw [hb] at h2
      cases h2⟩
  unfold okT; rw [this]; rfl
/-- The first k kids are right. -/
def okTo (f : Tr → Bool) (d : Nat) (ts : List Tr) (deep : Int) (k : Nat) : Prop := ∀ j (h : j < ts.length), j < k → ∀ e, d = e + 1 → okT f e ts[j] deep = true
theorem okTo_zero (f : Tr → Bool) (d : Nat) (ts : List Tr) (deep : Int) : okTo f d ts deep 0 := fun j _ h => by omega
theorem okTo_step {f : Tr → Bool} {e : Nat} {ts : List Tr} {deep : Int} {k : Nat} (h : okTo f (e + 1) ts deep k) (hk : k < ts.length) (he : okT f e ts[k] deep = true) : okTo f (e + 1) ts deep (k + 1) := fun j hl hj e' he' => by
  by_cases x : j = k
  · subst x
    obtain rfl : e' = e := by omega
    exact he
  · exact h j hl (by omega) e' he'
theorem okT_end {f : Tr → Bool} {d : Nat} {t : Tr} {deep : Int} {k : Nat} (hk : ¬ k < t.kids.length) (h : okTo f d t.kids (deep - 1) k) : okT f d t deep = (decide (0 ≤ deep) && f t) := by
  have : okTs f d t.kids (deep - 1) = true := by
    cases d with
    | zero => rfl
    | succ e =>
      unfold okTs
      rw [List.all_eq_true]
      intro x hx
      obtain ⟨j, hj, rfl⟩ := List.mem_iff_getElem.1 hx
      exact h j hj (by omega) e rfl
  unfold okT; rw [this]; rfl
theorem okT_own {f : Tr → Bool} {d : Nat} {t : Tr} {deep : Int} (h : f t = false) : okT f d t deep = false := by unfold okT; rw [h]; simp
theorem okT_deep {f : Tr → Bool} {d : Nat} {t : Tr} {deep : Int} (h : deep < 0) : okT f d t deep = false := by unfold okT; rw [decide_eq_false (by omega)]; simp
/-- Where there are no more than 600 nodes the two tests of the keys agree. -/
theorem ownB_node {t : Tr} (h : t.kids.length ≤ 600) : ownB t = nodeB t := by
  unfold ownB nodeB ndB
  split
  · rfl
  · split
    · rfl
    · split
      · rfl
      · split
        · rfl
        · split
          · by_cases e : t.keys.length = t.kids.length
            · unfold kysOk; rw [decide_eq_true (by omega : t.keys.length ≤ 600), Bool.and_true]
            · rw [decide_eq_false e]; rfl
          · rfl
/-- These trees have no more than d levels. -/
def dpTs : Nat → List Tr → Prop
  | 0, ts => ts = []
  | d + 1, ts => ∀ t ∈ ts, dpTs d t.kids
theorem RdTs.dp : ∀ {d : Nat} {w : World} {v : Value} {ts : List Tr}, RdTs d w v ts → dpTs d ts
  | 0, _, _, _, h => h.1
  | d + 1, w, v, ts, h => by
    intro t ht
    obtain ⟨j, hj, rfl⟩ := List.mem_iff_getElem.1 ht
    obtain ⟨A, c, rfl, _⟩ := h.slice
    obtain ⟨e, g, off, b, kv, he, _, _, _, _, _, _, _, _, _, rk⟩ := h.at j hj
    obtain rfl : e = d := by omega
    exact RdTs.dp rk
theorem mem_nTs {d : Nat} {ts : List Tr} {t : Tr} (ht : t ∈ ts) : 1 + nTs d t.kids ≤ nTs (d + 1) ts := by
  have e : nTs (d + 1) ts = (ts.map (nT d)).sum := rfl
  rw [e]
  clear e
  induction ts with
  | nil => cases ht
  | cons a l ih =>
    simp only [List.map_cons, List.sum_cons]
    rcases List.mem_cons.1 ht with rfl | h
    · have : nT d t = 1 + nTs d t.kids := rfl
      omega
    · have := ih h; omega
theorem len_nTs {d : Nat} {ts : List Tr} (h : dpTs d ts) : ts.length ≤ nTs d ts := by
  cases d with
  | zero => obtain rfl : ts = [] := h; simp
  | succ d => exact sum_ge ts d
theorem okTs_same : ∀ (d : Nat) (ts : List Tr) (deep : Int), dpTs d ts → nTs d ts ≤ 600 → okTs ownB d ts deep = okTs nodeB d ts deep
  | 0, _, _, _, _ => rfl
  | d + 1, ts, deep, hd, h => by
    unfold okTs
    apply Bool.eq_iff_iff.2
    rw [List.all_eq_true, List.all_eq_true]
    have each : ∀ t ∈ ts, (okTs ownB d t.kids (deep - 1) && (decide (0 ≤ deep) && ownB t)) = (okTs nodeB d t.kids (deep - 1) && (decide (0 ≤ deep) && nodeB t)) := fun t ht => by
      have h1 := mem_nTs (d := d) ht
      have h2 := len_nTs (hd t ht)
      rw [okTs_same d t.kids (deep - 1) (hd t ht) (by omega), ownB_node (by omega)]
    exact ⟨fun x t ht => by rw [← each t ht]; exact x t ht, fun x t ht => by rw [each t ht]; exact x t ht⟩
/-- A right tree. -/
def treeB (d : Nat) (t : Tr) : Bool := okT ownB d t 8 && decide (nT d t ≤ 600)
/-- .. as the program tests it. -/
def brB (d : Nat) (t : Tr) (level left : Int) : Bool := okT nodeB d t (8 - level) && decide ((nTs d t.kids : Int) ≤ left)
theorem treeB_br {d : Nat} {t : Tr} (h : dpTs d t.kids) : treeB d t = brB d t 0 599 := by
  unfold treeB brB
  by_cases hn : nT d t ≤ 600
  · have hn2 : 1 + nTs d t.kids ≤ 600 := hn
    have h2 := len_nTs h
    rw [decide_eq_true hn, decide_eq_true (by omega : (nTs d t.kids : Int) ≤ 599)]
    unfold okT
    rw [okTs_same d t.kids (8 - 1) h (by omega), ownB_node (by omega)]
    rfl
  · have hn2 : ¬ 1 + nTs d t.kids ≤ 600 := hn
    rw [decide_eq_false hn, decide_eq_false (by omega : ¬ (nTs d t.kids : Int) ≤ 599)]
    simp
end Go.Proofs.Ythlbpklllphhcaa
