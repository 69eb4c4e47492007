/-
  Rows of trees of the call's own.
-/
import Derived.Test.YthlbpklllphhcaaTrM
import Derived.Test.YthlbpklllphhcaaLawB
namespace Go.Proofs.Ythlbpklllphhcaa
open Go.RowKit

/-- A tree with the values of its two lists. -/
abbrev TrV := Tr × Value × Value
/-- A list of trees as cells. -/
def flatT : List TrV → List Value
  | [] => []
  | q :: t => .int .i64 q.1.kind :: .int .i64 q.1.n :: .string ⟨q.1.s.toArray⟩ :: q.2.1 :: q.2.2 :: flatT t
theorem flatT_len (l : List TrV) : (flatT l).length = l.length * 5 := by
  induction l with
  | nil => rfl
  | cons a t ih => simp only [flatT, List.length_cons, ih]; omega
theorem flatT_get : ∀ (l : List TrV) (k : Nat) (h : k < l.length), (flatT l)[k * 5]? = some (.int .i64 l[k].1.kind) ∧ (flatT l)[k * 5 + 1]? = some (.int .i64 l[k].1.n) ∧ (flatT l)[k * 5 + 2]? = some (.string ⟨l[k].1.s.toArray⟩) ∧ (flatT l)[k * 5 + 3]? = some l[k].2.1 ∧ (flatT l)[k * 5 + 4]? = some l[k].2.2
  | [], k, h => by simp at h
  | a :: t, 0, _ => by simp [flatT]
  | a :: t, k + 1, h => by
    have := flatT_get t k (by simpa using h)
    rw [show (k + 1) * 5 = k * 5 + 5 by omega, show k * 5 + 5 + 1 = (k * 5 + 1) + 5 by omega, show k * 5 + 5 + 2 = (k * 5 + 2) + 5 by omega, show k * 5 + 5 + 3 = (k * 5 + 3) + 5 by omega, show k * 5 + 5 + 4 = (k * 5 + 4) + 5 by omega]
    simpa [flatT] using this
/-- Five cells stored. -/
def set5 (l : List Value) (o : Nat) (q : TrV) : List Value := ((((l.set o (.int .i64 q.1.kind)).set (o + 1) (.int .i64 q.1.n)).set (o + 2) (.string ⟨q.1.s.toArray⟩)).set (o + 3) q.2.1).set (o + 4) q.2.2
theorem flatT_set : ∀ (l : List TrV) (k : Nat) (x : TrV), set5 (flatT l) (k * 5) x = flatT (l.set k x)
  | [], k, x => by simp [flatT, set5]
  | a :: t, 0, x => by simp [flatT, set5]
  | a :: t, k + 1, x => by
    have := flatT_set t k x
    unfold set5 at this ⊢
    rw [show (k + 1) * 5 = k * 5 + 5 by omega, show k * 5 + 5 + 1 = (k * 5 + 1) + 5 by omega, show k * 5 + 5 + 2 = (k * 5 + 2) + 5 by omega, show k * 5 + 5 + 3 = (k * 5 + 3) + 5 by omega, show k * 5 + 5 + 4 = (k * 5 + 4) + 5 by omega]
    simp [flatT, this]

/-- v is the call's own row of these trees. -/
def Trees (w : World) (base : Nat) (v : Value) (qs : List TrV) : Prop := w.ownsRow base 30 5 v qs.length (flatT qs)
theorem trinfo : (Try.prog.info? 30).map (fun i => (i.zero, i.size, i.bytes)) = some (some (.agg #[.int .i64 0, .int .i64 0, .string ⟨#[]⟩, .slice none 0 0, .slice none 0 0]), 5, 80) := by kernel_rfl
theorem Trees.below {w w' : World} {base g n cap : Nat} {l : List TrV} (h : Trees w base (.slice (some ⟨g, 0, none⟩) n cap) l) (hb : Below w.heap.size w w') : Trees w' base (.slice (some ⟨g, 0, none⟩) n cap) l :=
  World.ownsRow.kept h (row := none) ⟨hb.os, hb.tape, hb.output, hb.size, fun i hi _ => hb.block i hi⟩ (by right; simp [Value.ownBlock])
theorem Trees.other {w : World} {base g n cap : Nat} {l : List TrV} (h : Trees w base (.slice (some ⟨g, 0, none⟩) n cap) l) (b o : Nat) (x : Value) (hne : b ≠ g) : Trees (w.setCell ⟨b, o, none⟩ x) base (.slice (some ⟨g, 0, none⟩) n cap) l :=
  World.ownsRow.kept h (row := some b) ⟨rfl, rfl, rfl, by simp, fun k _ hk => heap_setCell_other w ⟨b, o, none⟩ k x (fun e => hk (by simp [e]))⟩ (by right; simp [Value.ownBlock]; omega)
theorem Trees.weaken {w : World} {base base' : Nat} {v : Value} {l : List TrV} (h : Trees w base v l) (hb : base' ≤ base) : Trees w base' v l := by
  refine ⟨h.1, ?_⟩
  rcases h.2 with h | ⟨g, cap, cur, hv, hg, hh, hr⟩
  · exact .inl h
  · exact .inr ⟨g, cap, cur, hv, Nat.le_trans hb hg, hh, hr⟩
theorem Trees.cell {w : World} {base : Nat} {l : List TrV} {g n cap : Nat} (h : Trees w base (.slice (some ⟨g, 0, none⟩) n cap) l) (k : Nat) (hk : k < l.length) : w.cell? ⟨g, k * 5, none⟩ = some (.int .i64 l[k].1.kind) ∧ w.cell? ⟨g, k * 5 + 1, none⟩ = some (.int .i64 l[k].1.n) ∧ w.cell? ⟨g, k * 5 + 2, none⟩ = some (.string ⟨l[k].1.s.toArray⟩) ∧ w.cell? ⟨g, k * 5 + 3, none⟩ = some l[k].2.1 ∧ w.cell? ⟨g, k * 5 + 4, none⟩ = some l[k].2.2 := by
  have hadd : ∀ j, (⟨g, 0, none⟩ : Addr).add j = ⟨g, j, none⟩ := fun j => by unfold Addr.add; split <;> simp_all
  obtain ⟨e0, e1, e2, e3, e4⟩ := flatT_get l k hk
  have h0 := World.ownsRow.cells (g := g) h rfl (k * 5) _ e0
  have h1 := World.ownsRow.cells (g := g) h rfl (k * 5 + 1) _ e1
  have h2 := World.ownsRow.cells (g := g) h rfl (k * 5 + 2) _ e2
  have h3 := World.ownsRow.cells (g := g) h rfl (k * 5 + 3) _ e3
  have h4 := World.ownsRow.cells (g := g) h rfl (k * 5 + 4) _ e4
  rw [hadd] at h0 h1 h2 h3 h4
  exact ⟨h0, h1, h2, h3, h4⟩
/-- A tree stored at its place. -/
def put5 (w : World) (g o : Nat) (q : TrV) : World := ((((w.setCell ⟨g, o, none⟩ (.int .i64 q.1.kind)).setCell ⟨g, o + 1, none⟩ (.int .i64 q.1.n)).setCell ⟨g, o + 2, none⟩ (.string ⟨q.1.s.toArray⟩)).setCell ⟨g, o + 3, none⟩ q.2.1).setCell ⟨g, o + 4, none⟩ q.2.2
theorem Trees.set {w : World} {base g cap : Nat} {l : List TrV} (h : Trees w base (.slice (some ⟨g, 0, none⟩) l.length cap) l) (k : Nat) (x : TrV) :
    Trees (put5 w g (k * 5) x) base (.slice (some ⟨g, 0, none⟩) (l.set k x).length cap) (l.set k x) := by
  unfold Trees at h ⊢
  rw [List.length_set, ← flatT_set]
  exact (World.ownsRow.stored (World.ownsRow.stored (World.ownsRow.stored (World.ownsRow.stored (World.ownsRow.stored h (k * 5) _).1 (k * 5 + 1) _).1 (k * 5 + 2) _).1 (k * 5 + 3) _).1 (k * 5 + 4) _).1
theorem below_put5 {n : Nat} {W V : World} {g o : Nat} {q : TrV} (h : Below n W V) (hg : n ≤ g) : Below n W (put5 V g o q) :=
  ((((h.setCell (p := ⟨g, o, none⟩) hg _).setCell (p := ⟨g, o + 1, none⟩) hg _).setCell (p := ⟨g, o + 2, none⟩) hg _).setCell (p := ⟨g, o + 3, none⟩) hg _).setCell (p := ⟨g, o + 4, none⟩) hg _

/-- The call's own list of trees of no more than d levels, with all that hangs on it. -/
def TsOwn : Nat → World → Nat → Value → List Tr → Prop
  | 0, w, base, v, ts => ts = [] ∧ ∃ G cap, v = .slice (some ⟨G, 0, none⟩) 0 cap ∧ base ≤ G ∧ G < w.heap.size ∧ Trees w base (.slice (some ⟨G, 0, none⟩) 0 cap) []
  | d + 1, w, base, v, ts => ts.length ≤ maxLen ∧ ∃ G cap qs, v = .slice (some ⟨G, 0, none⟩) ts.length cap ∧ base ≤ G ∧ G < w.heap.size ∧ qs.map (·.1) = ts ∧ Trees w base (.slice (some ⟨G, 0, none⟩) ts.length cap) qs ∧ ∀ q ∈ qs, NdFits q.1 ∧ Strs w (G + 1) q.2.1 q.1.keys ∧ TsOwn d w (G + 1) q.2.2 q.1.kids
/-- The two lists of a tree are the call's own, in blocks from lo on. -/
def TrOwn (d : Nat) (w : World) (lo : Nat) (q : TrV) : Prop := NdFits q.1 ∧ Strs w lo q.2.1 q.1.keys ∧ TsOwn d w lo q.2.2 q.1.kids
theorem TsOwn.slice {d : Nat} {w : World} {base : Nat} {v : Value} {ts : List Tr} (h : TsOwn d w base v ts) : ∃ G cap, v = .slice (some ⟨G, 0, none⟩) ts.length cap ∧ base ≤ G ∧ G < w.heap.size := by
  cases d with
  | zero => obtain ⟨rfl, G, cap, hv, h1, h2, _⟩ := h; exact ⟨G, cap, hv, h1, h2⟩
  | succ d => obtain ⟨_, G, cap, qs, hv, h1, h2, _⟩ := h; exact ⟨G, cap, hv, h1, h2⟩
theorem TsOwn.below : ∀ {d : Nat} {w w' : World} {base : Nat} {v : Value} {ts : List Tr}, TsOwn d w base v ts → Below w.heap.size w w' → TsOwn d w' base v ts
  | 0, _, _, _, _, _, h, hb => by
    obtain ⟨h0, G, cap, hv, h1, h2, h3⟩ := h
    exact ⟨h0, G, cap, hv, h1, Nat.lt_of_lt_of_le h2 hb.size, h3.below hb⟩
  | d + 1, _, _, _, _, _, h, hb => by
    obtain ⟨h0, G, cap, qs, hv, h1, h2, h3, h4, h5⟩ := h
    exact ⟨h0, G, cap, qs, hv, h1, Nat.lt_of_lt_of_le h2 hb.size, h3, h4.below hb, fun q hq => ⟨(h5 q hq).1, (h5 q hq).2.1.below hb, TsOwn.below (h5 q hq).2.2 hb⟩⟩
theorem TsOwn.weaken {d : Nat} {w : World} {base base' : Nat} {v : Value} {ts : List Tr} (h : TsOwn d w base v ts) (hb : base' ≤ base) : TsOwn d w base' v ts := by
  cases d with
  | zero => obtain ⟨h0, G, cap, hv, h1, h2, h3⟩ := h; exact ⟨h0, G, cap, hv, Nat.le_trans hb h1, h2, h3.weaken hb⟩
  | succ d => obtain ⟨h0, G, cap, qs, hv, h1, h2, h3, h4, h5⟩ := h; exact ⟨h0, G, cap, qs, hv, Nat.le_trans hb h1, h2, h3, h4.weaken hb, h5⟩
theorem TsOwn.other : ∀ {d : Nat} {w : World} {base : Nat} {v : Value} {ts : List Tr}, TsOwn d w base v ts → ∀ (b o : Nat) (x : Value), b < base → TsOwn d (w.setCell ⟨b, o, none⟩ x) base v ts
  | 0, _, _, _, _, h, b, o, x, hne => by
    obtain ⟨h0, G, cap, hv, h1, h2, h3⟩ := h
    exact ⟨h0, G, cap, hv, h1, by simpa using h2, h3.other b o x (by omega)⟩
  | d + 1, _, _, _, _, h, b, o, x, hne => by
    obtain ⟨h0, G, cap, qs, hv, h1, h2, h3, h4, h5⟩ := h
    exact ⟨h0, G, cap, qs, hv, h1, by simpa using h2, h3, h4.other b o x (by omega), fun q hq => ⟨(h5 q hq).1, (h5 q hq).2.1.otherV b o x (by omega), TsOwn.other (h5 q hq).2.2 b o x (by omega)⟩⟩
theorem TrOwn.below {d : Nat} {w w' : World} {lo : Nat} {q : TrV} (h : TrOwn d w lo q) (hb : Below w.heap.size w w') : TrOwn d w' lo q := ⟨h.1, h.2.1.below hb, h.2.2.below hb⟩
theorem TrOwn.other {d : Nat} {w : World} {lo : Nat} {q : TrV} (h : TrOwn d w lo q) (b o : Nat) (x : Value) (hne : b < lo) : TrOwn d (w.setCell ⟨b, o, none⟩ x) lo q := ⟨h.1, h.2.1.otherV b o x hne, h.2.2.other b o x hne⟩
theorem TrOwn.weaken {d : Nat} {w : World} {lo lo' : Nat} {q : TrV} (h : TrOwn d w lo q) (hb : lo' ≤ lo) : TrOwn d w lo' q := ⟨h.1, h.2.1.weaken hb, h.2.2.weaken hb⟩
theorem TrOwn.put5 {d : Nat} {w : World} {lo : Nat} {q : TrV} (h : TrOwn d w lo q) (b o : Nat) (x : TrV) (hne : b < lo) : TrOwn d (put5 w b o x) lo q :=
  ((((h.other _ _ _ hne).other _ _ _ hne).other _ _ _ hne).other _ _ _ hne).other _ _ _ hne
theorem RdTs.of_own : ∀ {d : Nat} {w : World} {base : Nat} {v : Value} {ts : List Tr}, TsOwn d w base v ts → RdTs d w v ts
  | 0, _, _, _, _, h => by
    obtain ⟨h0, G, cap, hv, _⟩ := h
    exact ⟨h0, _, cap, hv⟩
  | d + 1, _, _, _, _, h => by
    obtain ⟨h0, G, cap, qs, rfl, h1, h2, rfl, h4, h5⟩ := h
    refine ⟨some ⟨G, 0, none⟩, cap, by simp, by simpa using h0, fun _ => ⟨G, 0, rfl, h2, fun k hk => ?_⟩⟩
    simp at hk
    obtain ⟨c0, c1, c2, c3, c4⟩ := h4.cell k hk
    have ho := h5 qs[k] (List.getElem_mem hk)
    rw [Nat.zero_add]
    simp only [List.getElem_map]
    exact ⟨qs[k].2.1, qs[k].2.2, c0, c1, c2, c3, c4, ho.1, RdS.of_strs ho.2.1, RdTs.of_own ho.2.2⟩

/-- The first k trees with their values, then empty ones. -/
def zt : TrV := (.mk 0 0 [] [] [], .slice none 0 0, .slice none 0 0)
def tkT (qs : List TrV) (n : Nat) : List TrV := qs ++ List.replicate (n - qs.length) zt
theorem tkT_len (qs : List TrV) (n : Nat) (h : qs.length ≤ n) : (tkT qs n).length = n := by simp [tkT]; omega
theorem tkT_set (qs : List TrV) (n : Nat) (h : qs.length < n) (q : TrV) : (tkT qs n).set qs.length q = tkT (qs ++ [q]) n := by
  unfold tkT
  rw [List.set_append_right _ _ (by simp)]
  have e : n - qs.length = (n - (qs ++ [q]).length) + 1 := by simp; omega
  rw [e, List.replicate_succ, List.append_assoc]
  simp
theorem trees_made {w : World} {base : Nat} {v : Value} {n : Nat} (h : w.ownsRow base 30 5 v n (madeCells (Value.agg #[.int .i64 0, .int .i64 0, .string ⟨#[]⟩, .slice none 0 0, .slice none 0 0]).cells (n * 5)).toList) : Trees w base v (List.replicate n zt) := by
  unfold Trees
  have e : (madeCells (Value.agg #[.int .i64 0, .int .i64 0, .string ⟨#[]⟩, .slice none 0 0, .slice none 0 0]).cells (n * 5)).toList = flatT (List.replicate n zt) := by
    apply List.ext_getElem?
    intro j
    by_cases hj : j < n * 5
    · obtain ⟨k, r, hr, rfl⟩ : ∃ k r, r < 5 ∧ j = k * 5 + r := ⟨j / 5, j % 5, by omega, by omega⟩
      have hk : k < (List.replicate n zt).length := by simp; omega
      obtain ⟨e0, e1, e2, e3, e4⟩ := flatT_get (List.replicate n zt) k hk
      simp only [List.getElem_replicate] at e0 e1 e2 e3 e4
      have hm : (k * 5 + r) % 5 = r := by omega
      match r, hr with
      | 0, _ => rw [Nat.add_zero] at *; rw [e0]; simp [madeCells, hj, Value.cells, zt, Tr.kind]
      | 1, _ => rw [e1]; simp [madeCells, hj, Value.cells, hm, zt, Tr.n]
      | 2, _ => rw [e2]; simp [madeCells, hj, Value.cells, hm, zt, Tr.s]
      | 3, _ => rw [e3]; simp [madeCells, hj, Value.cells, hm, zt]
      | 4, _ => rw [e4]; simp [madeCells, hj, Value.cells, hm, zt]
    · rw [List.getElem?_eq_none (by simp [madeCells]; omega), List.getElem?_eq_none (by rw [flatT_len]; simp; omega)]
  rw [← e]
  simpa using h
end Go.Proofs.Ythlbpklllphhcaa
