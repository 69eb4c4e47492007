/-
  A record of texts and lists of needs in plain words: an entry; what reads as entries in memory; rows of entries of the call's own.
-/
import Derived.Test.YtnodhkjgnegkcaaGreatDoorNdLaw
import Derived.Test.YtnodhkjgnegkcaaGreatDoorHeapD
import Derived.Test.YtnodhkjgnegkcaaGreatDoorGrw
namespace Go.Proofs.YtnodhkjgnegkcaaGreatDoor
open Go.RowKit

structure En where
  heads : List Bd
  ver : List UInt8
  res : List UInt8
  int : List UInt8
  needs : List Bd
instance : Inhabited En := ⟨⟨[], [], [], [], []⟩⟩
/-- An entry as a value, its lists given. -/
abbrev enV (e : En) (a0 a1 : Value) : Value := .agg #[a0, .string ⟨e.ver.toArray⟩, .string ⟨e.res.toArray⟩, .string ⟨e.int.toArray⟩, a1]
/-- The cells from o on in block g read as e. -/
def EnAt (w : World) (g o : Nat) (e : En) : Prop := ∃ a0 a1, w.cell? ⟨g, o, none⟩ = some (a0) ∧ w.cell? ⟨g, o + 1, none⟩ = some (.string ⟨e.ver.toArray⟩) ∧ w.cell? ⟨g, o + 2, none⟩ = some (.string ⟨e.res.toArray⟩) ∧ w.cell? ⟨g, o + 3, none⟩ = some (.string ⟨e.int.toArray⟩) ∧ w.cell? ⟨g, o + 4, none⟩ = some (a1) ∧ RdB w a0 e.heads ∧ RdB w a1 e.needs
/-- The value v reads as the entries es. -/
def RdEs (w : World) (v : Value) (es : List En) : Prop := ∃ A cap, v = .slice A es.length cap ∧ (0 < es.length → ∃ g off, A = some ⟨g, off, none⟩ ∧ g < w.heap.size ∧ ∀ k (h : k < es.length), EnAt w g (off + k * 5) es[k])
theorem EnAt.below {w w' : World} {g o : Nat} {e : En} (h : EnAt w g o e) (hb : Below w.heap.size w w') : EnAt w' g o e := by
  obtain ⟨a0, a1, h0, h1, h2, h3, h4, r0, r1⟩ := h
  exact ⟨a0, a1, keepC hb h0, keepC hb h1, keepC hb h2, keepC hb h3, keepC hb h4, r0.below hb, r1.below hb⟩
theorem RdEs.below {w w' : World} {v : Value} {es : List En} (h : RdEs w v es) (hb : Below w.heap.size w w') : RdEs w' v es := by
  obtain ⟨A, cap, hv, hc⟩ := h
  refine ⟨A, cap, hv, fun h0 => ?_⟩
  obtain ⟨g, off, hA, hg, hk⟩ := hc h0
  exact ⟨g, off, hA, Nat.lt_of_lt_of_le hg hb.size, fun k h => (hk k h).below hb⟩
theorem rdEn_nil (w : World) : RdEs w (.slice none 0 0) [] := ⟨none, 0, rfl, fun h => absurd h (by simp)⟩
theorem RdEs.at {w : World} {A : Option Addr} {n cap : Nat} {es : List En} (h : RdEs w (.slice A n cap) es) (k : Nat) (hk : k < es.length) : ∃ g off, A = some ⟨g, off, none⟩ ∧ g < w.heap.size ∧ EnAt w g (off + k * 5) es[k] := by
  obtain ⟨A', ca', hv, ha⟩ := h
  simp only [Value.slice.injEq] at hv
  obtain ⟨rfl, _, rfl⟩ := hv
  obtain ⟨g, off, hA, hg, hc⟩ := ha (by omega)
  exact ⟨g, off, hA, hg, hc k hk⟩
theorem RdEs.slice {w : World} {v : Value} {es : List En} (h : RdEs w v es) : ∃ A c, v = .slice A es.length c := by
  obtain ⟨A, c, rfl, _⟩ := h; exact ⟨A, c, rfl⟩
theorem rdB_slice {w : World} {v : Value} {bs : List Bd} (h : RdB w v bs) : ∃ A c, v = .slice A bs.length c := by
  obtain ⟨A, c, rfl, _⟩ := h; exact ⟨A, c, rfl⟩

/-! Weights. -/
def wEn (e : En) : Nat := (e.heads.length + smB e.heads) + e.ver.length + e.res.length + e.int.length + (e.needs.length + smB e.needs)
def szEn (left : Int) (e : En) : Int := if (wEn e : Int) ≤ left then left - (wEn e : Int) else -1
def smE (es : List En) : Nat := (es.map wEn).sum
def szEs (left : Int) (es : List En) : Int := if (es.length : Int) + (smE es : Int) ≤ left then left - (es.length : Int) - (smE es : Int) else -1
theorem smE_snoc (es : List En) (k : Nat) (h : k < es.length) : smE (es.take (k + 1)) = smE (es.take k) + wEn es[k] := by
  unfold smE; rw [List.take_succ_eq_append_getElem h]; simp only [List.map_append, List.sum_append, List.map_cons, List.map_nil, List.sum_cons, List.sum_nil]; omega
theorem smE_le (es : List En) (k : Nat) : smE (es.take k) ≤ smE es := by
  have : smE es = smE (es.take k) + smE (es.drop k) := by unfold smE; rw [← List.sum_append, ← List.map_append, List.take_append_drop]
  omega
theorem smE_mem {es : List En} : ∀ e ∈ es, wEn e ≤ smE es := by
  induction es with
  | nil => intro l h; cases h
  | cons a t ih =>
    intro l h
    have e : smE (a :: t) = wEn a + smE t := by unfold smE; simp
    rcases List.mem_cons.1 h with rfl | h
    · omega
    · have := ih l h; omega
theorem szEs_yes {left : Int} {es : List En} (h : (es.length : Int) + (smE es : Int) ≤ left) : szEs left es = left - (es.length : Int) - (smE es : Int) := if_pos h
theorem szEs_no {left : Int} {es : List En} (h : ¬ (es.length : Int) + (smE es : Int) ≤ left) : szEs left es = -1 := if_neg h
theorem szEn_yes {left : Int} {e : En} (h : (wEn e : Int) ≤ left) : szEn left e = left - (wEn e : Int) := if_pos h
theorem szEn_no {left : Int} {e : En} (h : ¬ (wEn e : Int) ≤ left) : szEn left e = -1 := if_neg h
def EnFits (e : En) : Prop := (e.heads.length ≤ maxLen ∧ ∀ b ∈ e.heads, b.1.length ≤ maxLen ∧ b.2.length ≤ maxLen) ∧ e.ver.length ≤ maxLen ∧ e.res.length ≤ maxLen ∧ e.int.length ≤ maxLen ∧ (e.needs.length ≤ maxLen ∧ ∀ b ∈ e.needs, b.1.length ≤ maxLen ∧ b.2.length ≤ maxLen)
def SmEn (e : En) : Prop := wEn e ≤ 1048576
def SmEs (es : List En) : Prop := es.length + smE es ≤ 1048576
theorem SmEs.get {es : List En} (h : SmEs es) (k : Nat) (hk : k < es.length) : SmEn es[k] := by
  have := smE_mem es[k] (List.getElem_mem hk)
  unfold SmEs at h; unfold SmEn; omega
theorem szEs_good {es : List En} {left : Int} (hl : left ≤ 1048576) (h0 : 0 ≤ left) (h : ¬ szEs left es < 0) : SmEs es ∧ 0 ≤ szEs left es ∧ szEs left es ≤ 1048576 := by
  unfold szEs at h ⊢
  split at h
  · rename_i h'; rw [if_pos h']; unfold SmEs; omega
  · omega
theorem SmEn.heads {e : En} (h : SmEn e) : e.heads.length + smB e.heads ≤ 1048576 := by unfold SmEn wEn at h; omega
theorem SmEn.ver {e : En} (h : SmEn e) : e.ver.length ≤ 1048576 := by unfold SmEn wEn at h; omega
theorem SmEn.res {e : En} (h : SmEn e) : e.res.length ≤ 1048576 := by unfold SmEn wEn at h; omega
theorem SmEn.int {e : En} (h : SmEn e) : e.int.length ≤ 1048576 := by unfold SmEn wEn at h; omega
theorem SmEn.needs {e : En} (h : SmEn e) : e.needs.length + smB e.needs ≤ 1048576 := by unfold SmEn wEn at h; omega

/-! Rows of the call's own. -/
abbrev EnV := En × Value × Value
def flatE : List EnV → List Value
  | [] => []
  | q :: t => q.2.1 :: .string ⟨q.1.ver.toArray⟩ :: .string ⟨q.1.res.toArray⟩ :: .string ⟨q.1.int.toArray⟩ :: q.2.2 :: flatE t
theorem flatE_len (l : List EnV) : (flatE l).length = l.length * 5 := by
  induction l with
  | nil => rfl
  | cons a t ih => simp only [flatE, List.length_cons, ih]; omega
theorem flatE_get : ∀ (l : List EnV) (k : Nat) (h : k < l.length), (flatE l)[k * 5]? = some (l[k].2.1) ∧ (flatE l)[k * 5 + 1]? = some (.string ⟨l[k].1.ver.toArray⟩) ∧ (flatE l)[k * 5 + 2]? = some (.string ⟨l[k].1.res.toArray⟩) ∧ (flatE l)[k * 5 + 3]? = some (.string ⟨l[k].1.int.toArray⟩) ∧ (flatE l)[k * 5 + 4]? = some (l[k].2.2)
  | [], k, h => by simp at h
  | a :: t, 0, _ => by simp [flatE]
  | a :: t, k + 1, h => by
    have := flatE_get t k (by simpa using h)
    rw [show (k + 1) * 5 = k * 5 + 5 by omega, show k * 5 + 5 + 1 = (k * 5 + 1) + 5 by omega, show k * 5 + 5 + 2 = (k * 5 + 2) + 5 by omega, show k * 5 + 5 + 3 = (k * 5 + 3) + 5 by omega, show k * 5 + 5 + 4 = (k * 5 + 4) + 5 by omega]
    simpa [flatE] using this
def setE (l : List Value) (o : Nat) (q : EnV) : List Value := (((((l.set (o) (q.2.1)).set (o + 1) (.string ⟨q.1.ver.toArray⟩)).set (o + 2) (.string ⟨q.1.res.toArray⟩)).set (o + 3) (.string ⟨q.1.int.toArray⟩)).set (o + 4) (q.2.2))
theorem flatE_set : ∀ (l : List EnV) (k : Nat) (x : EnV), setE (flatE l) (k * 5) x = flatE (l.set k x)
  | [], k, x => by simp [flatE, setE]
  | a :: t, 0, x => by simp [flatE, setE]
  | a :: t, k + 1, x => by
    have := flatE_set t k x
    unfold setE at this ⊢
    rw [show (k + 1) * 5 = k * 5 + 5 by omega, show k * 5 + 5 + 1 = (k * 5 + 1) + 5 by omega, show k * 5 + 5 + 2 = (k * 5 + 2) + 5 by omega, show k * 5 + 5 + 3 = (k * 5 + 3) + 5 by omega, show k * 5 + 5 + 4 = (k * 5 + 4) + 5 by omega]
    simp [flatE, this]
def Entries (w : World) (base : Nat) (v : Value) (qs : List EnV) : Prop := w.ownsRow base 62 5 v qs.length (flatE qs)
set_option maxRecDepth 100000 in
theorem eninfo : (Tryz.prog.info? 62).map (fun i => (i.zero, i.size, i.bytes)) = some (some (.agg #[.slice none 0 0, .string ⟨#[]⟩, .string ⟨#[]⟩, .string ⟨#[]⟩, .slice none 0 0]), 5, 96) := by kernel_rfl
theorem Entries.below {w w' : World} {base g n cap : Nat} {l : List EnV} (h : Entries w base (.slice (some ⟨g, 0, none⟩) n cap) l) (hb : Below w.heap.size w w') : Entries w' base (.slice (some ⟨g, 0, none⟩) n cap) l :=
  World.ownsRow.kept h (row := none) ⟨hb.os, hb.tape, hb.output, hb.size, fun i hi _ => hb.block i hi⟩ (by right; simp [Value.ownBlock])
theorem Entries.cell {w : World} {base : Nat} {l : List EnV} {g n cap : Nat} (h : Entries w base (.slice (some ⟨g, 0, none⟩) n cap) l) (k : Nat) (hk : k < l.length) : w.cell? ⟨g, k * 5, none⟩ = some (l[k].2.1) ∧ w.cell? ⟨g, k * 5 + 1, none⟩ = some (.string ⟨l[k].1.ver.toArray⟩) ∧ w.cell? ⟨g, k * 5 + 2, none⟩ = some (.string ⟨l[k].1.res.toArray⟩) ∧ w.cell? ⟨g, k * 5 + 3, none⟩ = some (.string ⟨l[k].1.int.toArray⟩) ∧ w.cell? ⟨g, k * 5 + 4, none⟩ = some (l[k].2.2) := by
  have hadd : ∀ j, (⟨g, 0, none⟩ : Addr).add j = ⟨g, j, none⟩ := fun j => by unfold Addr.add; split <;> simp_all
  obtain ⟨e0, e1, e2, e3, e4⟩ := flatE_get l k hk
  have h0 := World.ownsRow.cells (g := g) h rfl (k * 5) _ e0
  have h1 := World.ownsRow.cells (g := g) h rfl (k * 5 + 1) _ e1
  have h2 := World.ownsRow.cells (g := g) h rfl (k * 5 + 2) _ e2
  have h3 := World.ownsRow.cells (g := g) h rfl (k * 5 + 3) _ e3
  have h4 := World.ownsRow.cells (g := g) h rfl (k * 5 + 4) _ e4
  rw [hadd] at h0 h1 h2 h3 h4
  exact ⟨h0, h1, h2, h3, h4⟩
def putE (w : World) (g o : Nat) (q : EnV) : World := (((((w.setCell ⟨g, o, none⟩ (q.2.1)).setCell ⟨g, o + 1, none⟩ (.string ⟨q.1.ver.toArray⟩)).setCell ⟨g, o + 2, none⟩ (.string ⟨q.1.res.toArray⟩)).setCell ⟨g, o + 3, none⟩ (.string ⟨q.1.int.toArray⟩)).setCell ⟨g, o + 4, none⟩ (q.2.2))
theorem Entries.set {w : World} {base g cap : Nat} {l : List EnV} (h : Entries w base (.slice (some ⟨g, 0, none⟩) l.length cap) l) (k : Nat) (x : EnV) :
    Entries (putE w g (k * 5) x) base (.slice (some ⟨g, 0, none⟩) (l.set k x).length cap) (l.set k x) := by
  unfold Entries at h ⊢
  rw [List.length_set, ← flatE_set]
  exact (World.ownsRow.stored (World.ownsRow.stored (World.ownsRow.stored (World.ownsRow.stored (World.ownsRow.stored h (k * 5) _).1 (k * 5 + 1) _).1 (k * 5 + 2) _).1 (k * 5 + 3) _).1 (k * 5 + 4) _).1
/-- The lists of an entry are the call's own, in blocks from lo on. -/
def EnOwn (w : World) (lo : Nat) (q : EnV) : Prop := Ndk.Nds w lo q.2.1 q.1.heads ∧ Ndk.Nds w lo q.2.2 q.1.needs
theorem Ndk.Nds.weaken {w : World} {base base' : Nat} {v : Value} {l : List Bd} (h : Ndk.Nds w base v l) (hb : base' ≤ base) : Ndk.Nds w base' v l := by
  refine ⟨h.1, ?_⟩
  rcases h.2 with h | ⟨g, cap, cur, hv, hg, hh, hr⟩
  · exact .inl h
  · exact .inr ⟨g, cap, cur, hv, Nat.le_trans hb hg, hh, hr⟩
theorem Ndk.Nds.other {w : World} {base : Nat} {v : Value} {l : List Bd} (h : Ndk.Nds w base v l) (b o : Nat) (x : Value) (hne : b < base) : Ndk.Nds (w.setCell ⟨b, o, none⟩ x) base v l := by
  rcases h.form with ⟨rfl, rfl⟩ | ⟨g, cap, rfl, hg, _⟩
  · exact ⟨by simp [flat2], .inl ⟨rfl, rfl⟩⟩
  · exact World.ownsRow.kept h (row := some b) ⟨rfl, rfl, rfl, by simp, fun k _ hk => heap_setCell_other w ⟨b, o, none⟩ k x (fun e => hk (by simp [e]))⟩ (by right; simp [Value.ownBlock]; omega)
theorem Ndk.Nds.slice {w : World} {base : Nat} {v : Value} {l : List Bd} (h : Ndk.Nds w base v l) : ∃ A c, v = .slice A l.length c := by
  rcases h.form with ⟨rfl, rfl⟩ | ⟨g, cap, rfl, _, _⟩
  · exact ⟨_, _, rfl⟩
  · exact ⟨_, _, rfl⟩
theorem Ndk.Nds.grown {w w' : World} {base : Nat} {v : Value} {l : List Bd} {row : Option Nat} (h : Ndk.Nds w base v l) (hg : w.grownBy w' row) (hne : ∀ g, v.ownBlock = some g → some g ≠ row) : Ndk.Nds w' base v l := by
  rcases h.form with ⟨rfl, rfl⟩ | ⟨g, cap, rfl, _, _⟩
  · exact ⟨by simp [flat2], .inl ⟨rfl, rfl⟩⟩
  · exact World.ownsRow.kept h hg (.inr (fun e => hne g rfl (by rw [← e]; rfl)))
theorem EnOwn.below {w w' : World} {lo : Nat} {q : EnV} (h : EnOwn w lo q) (hb : Below w.heap.size w w') : EnOwn w' lo q := ⟨Ndk.Nds.below h.1 hb, Ndk.Nds.below h.2 hb⟩
theorem EnOwn.put {w : World} {lo : Nat} {q : EnV} (h : EnOwn w lo q) (b o : Nat) (x : EnV) (hne : b < lo) : EnOwn (putE w b o x) lo q := ⟨(Ndk.Nds.other (Ndk.Nds.other (Ndk.Nds.other (Ndk.Nds.other (Ndk.Nds.other h.1 _ _ _ hne) _ _ _ hne) _ _ _ hne) _ _ _ hne) _ _ _ hne), (Ndk.Nds.other (Ndk.Nds.other (Ndk.Nds.other (Ndk.Nds.other (Ndk.Nds.other h.2 _ _ _ hne) _ _ _ hne) _ _ _ hne) _ _ _ hne) _ _ _ hne)⟩
theorem below_putE {n : Nat} {W V : World} {g o : Nat} {q : EnV} (h : Below n W V) (hg : n ≤ g) : Below n W (putE V g o q) := (((((h.setCell (p := ⟨g, o, none⟩) hg _).setCell (p := ⟨g, o + 1, none⟩) hg _).setCell (p := ⟨g, o + 2, none⟩) hg _).setCell (p := ⟨g, o + 3, none⟩) hg _).setCell (p := ⟨g, o + 4, none⟩) hg _)
/-- The call's own list of entries, with all that hangs on it. -/
def EnsOwn (w : World) (base : Nat) (v : Value) (es : List En) : Prop := ∃ G cap qs, v = .slice (some ⟨G, 0, none⟩) es.length cap ∧ base ≤ G ∧ G < w.heap.size ∧ qs.map (·.1) = es ∧ Entries w base (.slice (some ⟨G, 0, none⟩) es.length cap) qs ∧ ∀ q ∈ qs, EnOwn w (G + 1) q
theorem EnsOwn.below {w w' : World} {base : Nat} {v : Value} {es : List En} (h : EnsOwn w base v es) (hb : Below w.heap.size w w') : EnsOwn w' base v es := by
  obtain ⟨G, cap, qs, hv, h1, h2, h3, h4, h5⟩ := h
  exact ⟨G, cap, qs, hv, h1, Nat.lt_of_lt_of_le h2 hb.size, h3, h4.below hb, fun q hq => (h5 q hq).below hb⟩
theorem RdEs.of_own {w : World} {base : Nat} {v : Value} {es : List En} (h : EnsOwn w base v es) : RdEs w v es := by
  obtain ⟨G, cap, qs, rfl, h1, h2, rfl, h4, h5⟩ := h
  refine ⟨some ⟨G, 0, none⟩, cap, by simp, fun _ => ⟨G, 0, rfl, h2, fun k hk => ?_⟩⟩
  simp at hk
  obtain ⟨c0, c1, c2, c3, c4⟩ := h4.cell k hk
  have ho := h5 qs[k] (List.getElem_mem hk)
  rw [Nat.zero_add]
  simp only [List.getElem_map]
  exact ⟨qs[k].2.1, qs[k].2.2, c0, c1, c2, c3, c4, Ndk.RdB.of_bnds ho.1, Ndk.RdB.of_bnds ho.2⟩
theorem EnsOwn.slice {w : World} {base : Nat} {v : Value} {es : List En} (h : EnsOwn w base v es) : ∃ G c, v = .slice (some ⟨G, 0, none⟩) es.length c := by
  obtain ⟨G, cap, qs, hv, _⟩ := h; exact ⟨G, cap, hv⟩
def ze : EnV := (⟨[], [], [], [], []⟩, .slice none 0 0, .slice none 0 0)
def tkE (qs : List EnV) (n : Nat) : List EnV := qs ++ List.replicate (n - qs.length) ze
theorem tkE_len (qs : List EnV) (n : Nat) (h : qs.length ≤ n) : (tkE qs n).length = n := by simp [tkE]; omega
theorem tkE_set (qs : List EnV) (n : Nat) (h : qs.length < n) (q : EnV) : (tkE qs n).set qs.length q = tkE (qs ++ [q]) n := by
  unfold tkE
  rw [List.set_append_right _ _ (by simp)]
  have e : n - qs.length = (n - (qs ++ [q]).length) + 1 := by simp; omega
  rw [e, List.replicate_succ, List.append_assoc]
  simp
theorem en_made {w : World} {base : Nat} {v : Value} {n : Nat} (h : w.ownsRow base 62 5 v n (madeCells (Value.agg #[.slice none 0 0, .string ⟨#[]⟩, .string ⟨#[]⟩, .string ⟨#[]⟩, .slice none 0 0]).cells (n * 5)).toList) : Entries w base v (List.replicate n ze) := by
  unfold Entries
  have e : (madeCells (Value.agg #[.slice none 0 0, .string ⟨#[]⟩, .string ⟨#[]⟩, .string ⟨#[]⟩, .slice none 0 0]).cells (n * 5)).toList = flatE (List.replicate n ze) := by
    apply List.ext_getElem?
    intro j
    by_cases hj : j < n * 5
    · obtain ⟨k, r, hr, rfl⟩ : ∃ k r, r < 5 ∧ j = k * 5 + r := ⟨j / 5, j % 5, by omega, by omega⟩
      have hk : k < (List.replicate n ze).length := by simp; omega
      obtain ⟨e0, e1, e2, e3, e4⟩ := flatE_get (List.replicate n ze) k hk
      simp only [List.getElem_replicate] at e0 e1 e2 e3 e4
      have hm : (k * 5 + r) % 5 = r := by omega
      match r, hr with
      | 0, _ => rw [Nat.add_zero] at *; rw [e0]; simp [madeCells, hj, Value.cells, ze]
      | 1, _ => rw [e1]; simp [madeCells, hj, Value.cells, hm, ze]
      | 2, _ => rw [e2]; simp [madeCells, hj, Value.cells, hm, ze]
      | 3, _ => rw [e3]; simp [madeCells, hj, Value.cells, hm, ze]
      | 4, _ => rw [e4]; simp [madeCells, hj, Value.cells, hm, ze]
    · rw [List.getElem?_eq_none (by simp [madeCells]; omega), List.getElem?_eq_none (by rw [flatE_len]; simp; omega)]
  rw [← e]
  simpa using h
theorem cells5 {V : World} {B : Nat} {T : TypeId} {v0 v1 v2 v3 v4 : Value} (h : V.heap[B]? = some (.cells #[v0, v1, v2, v3, v4] T)) : V.cell? ⟨B, 0, none⟩ = some v0 ∧ V.cell? ⟨B, 1, none⟩ = some v1 ∧ V.cell? ⟨B, 2, none⟩ = some v2 ∧ V.cell? ⟨B, 3, none⟩ = some v3 ∧ V.cell? ⟨B, 4, none⟩ = some v4 := by
  simp [World.cell?, h]
theorem frozen5 {V : World} {B : Nat} {T : TypeId} {v0 v1 v2 v3 v4 : Value} (h : V.heap[B]? = some (.cells #[v0, v1, v2, v3, v4] T)) (o : Nat) : V.frozen? ⟨B, o, none⟩ = false := by
  simp [World.frozen?, h]
end Go.Proofs.YtnodhkjgnegkcaaGreatDoor
