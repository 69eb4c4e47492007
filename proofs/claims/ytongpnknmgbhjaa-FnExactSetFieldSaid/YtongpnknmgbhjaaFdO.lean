/-
  Rows of fields of the call's own.
-/
import Derived.Test.YtongpnknmgbhjaaFdL
namespace Go.Proofs.Ytongpnknmgbhjaa
open Go.RowKit

/-- A field with the value of its list. -/
abbrev FdV := Fd × Value
/-- A list of fields as cells. -/
def flatF : List FdV → List Value
  | [] => []
  | q :: t => .string ⟨q.1.key.toArray⟩ :: .string ⟨q.1.text.toArray⟩ :: q.2 :: .bool q.1.isl :: flatF t
theorem flatF_len (l : List FdV) : (flatF l).length = l.length * 4 := by
  induction l with
  | nil => rfl
  | cons a t ih => simp only [flatF, List.length_cons, ih]; omega
theorem flatF_app (l : List FdV) (x : FdV) : flatF (l ++ [x]) = flatF l ++ [.string ⟨x.1.key.toArray⟩, .string ⟨x.1.text.toArray⟩, x.2, .bool x.1.isl] := by
  induction l with
  | nil => rfl
  | cons a t ih => simp only [List.cons_append, flatF, ih]
theorem flatF_get : ∀ (l : List FdV) (k : Nat) (h : k < l.length), (flatF l)[k * 4]? = some (.string ⟨l[k].1.key.toArray⟩) ∧ (flatF l)[k * 4 + 1]? = some (.string ⟨l[k].1.text.toArray⟩) ∧ (flatF l)[k * 4 + 2]? = some l[k].2 ∧ (flatF l)[k * 4 + 3]? = some (.bool l[k].1.isl)
  | [], k, h => by simp at h
  | a :: t, 0, _ => by simp [flatF]
  | a :: t, k + 1, h => by
    have := flatF_get t k (by simpa using h)
    rw [show (k + 1) * 4 = k * 4 + 4 by omega, show k * 4 + 4 + 1 = (k * 4 + 1) + 4 by omega, show k * 4 + 4 + 2 = (k * 4 + 2) + 4 by omega, show k * 4 + 4 + 3 = (k * 4 + 3) + 4 by omega]
    simpa [flatF] using this
/-- Four cells stored. -/
def set4 (l : List Value) (o : Nat) (q : FdV) : List Value := (((l.set o (.string ⟨q.1.key.toArray⟩)).set (o + 1) (.string ⟨q.1.text.toArray⟩)).set (o + 2) q.2).set (o + 3) (.bool q.1.isl)
theorem flatF_set : ∀ (l : List FdV) (k : Nat) (x : FdV), set4 (flatF l) (k * 4) x = flatF (l.set k x)
  | [], k, x => by simp [flatF, set4]
  | a :: t, 0, x => by simp [flatF, set4]
  | a :: t, k + 1, x => by
    have := flatF_set t k x
    unfold set4 at this ⊢
    rw [show (k + 1) * 4 = k * 4 + 4 by omega, show k * 4 + 4 + 1 = (k * 4 + 1) + 4 by omega, show k * 4 + 4 + 2 = (k * 4 + 2) + 4 by omega, show k * 4 + 4 + 3 = (k * 4 + 3) + 4 by omega]
    simp [flatF, this]

/-- v is the call's own row of these fields. -/
def Fields (w : World) (base : Nat) (v : Value) (qs : List FdV) : Prop := w.ownsRow base 35 4 v qs.length (flatF qs)
set_option maxRecDepth 100000 in
theorem fdinfo : (Try.prog.info? 35).map (fun i => (i.zero, i.size, i.bytes)) = some (some (.agg #[.string ⟨#[]⟩, .string ⟨#[]⟩, .slice none 0 0, .bool false]), 4, 64) := by kernel_rfl
theorem Fields.below {w w' : World} {base g n cap : Nat} {l : List FdV} (h : Fields w base (.slice (some ⟨g, 0, none⟩) n cap) l) (hb : Below w.heap.size w w') : Fields w' base (.slice (some ⟨g, 0, none⟩) n cap) l :=
  World.ownsRow.kept h (row := none) ⟨hb.os, hb.tape, hb.output, hb.size, fun i hi _ => hb.block i hi⟩ (by right; simp [Value.ownBlock])
theorem Fields.cell {w : World} {base : Nat} {l : List FdV} {g n cap : Nat} (h : Fields w base (.slice (some ⟨g, 0, none⟩) n cap) l) (k : Nat) (hk : k < l.length) : w.cell? ⟨g, k * 4, none⟩ = some (.string ⟨l[k].1.key.toArray⟩) ∧ w.cell? ⟨g, k * 4 + 1, none⟩ = some (.string ⟨l[k].1.text.toArray⟩) ∧ w.cell? ⟨g, k * 4 + 2, none⟩ = some l[k].2 ∧ w.cell? ⟨g, k * 4 + 3, none⟩ = some (.bool l[k].1.isl) := by
  have hadd : ∀ j, (⟨g, 0, none⟩ : Addr).add j = ⟨g, j, none⟩ := fun j => by unfold Addr.add; split <;> simp_all
  obtain ⟨e0, e1, e2, e3⟩ := flatF_get l k hk
  have h0 := World.ownsRow.cells (g := g) h rfl (k * 4) _ e0
  have h1 := World.ownsRow.cells (g := g) h rfl (k * 4 + 1) _ e1
  have h2 := World.ownsRow.cells (g := g) h rfl (k * 4 + 2) _ e2
  have h3 := World.ownsRow.cells (g := g) h rfl (k * 4 + 3) _ e3
  rw [hadd] at h0 h1 h2 h3
  exact ⟨h0, h1, h2, h3⟩
/-- A field stored at its place. -/
def put4 (w : World) (g o : Nat) (q : FdV) : World := (((w.setCell ⟨g, o, none⟩ (.string ⟨q.1.key.toArray⟩)).setCell ⟨g, o + 1, none⟩ (.string ⟨q.1.text.toArray⟩)).setCell ⟨g, o + 2, none⟩ q.2).setCell ⟨g, o + 3, none⟩ (.bool q.1.isl)
theorem Fields.set {w : World} {base g cap : Nat} {l : List FdV} (h : Fields w base (.slice (some ⟨g, 0, none⟩) l.length cap) l) (k : Nat) (x : FdV) :
    Fields (put4 w g (k * 4) x) base (.slice (some ⟨g, 0, none⟩) (l.set k x).length cap) (l.set k x) := by
  unfold Fields at h ⊢
  rw [List.length_set, ← flatF_set]
  exact (World.ownsRow.stored (World.ownsRow.stored (World.ownsRow.stored (World.ownsRow.stored h (k * 4) _).1 (k * 4 + 1) _).1 (k * 4 + 2) _).1 (k * 4 + 3) _).1
/-- The list of a field is the call's own, in a block from lo on. -/
def FdOwn (w : World) (lo : Nat) (q : FdV) : Prop := Strs w lo q.2 q.1.list
theorem FdOwn.below {w w' : World} {lo : Nat} {q : FdV} (h : FdOwn w lo q) (hb : Below w.heap.size w w') : FdOwn w' lo q := Strs.below h hb
theorem FdOwn.other {w : World} {lo : Nat} {q : FdV} (h : FdOwn w lo q) (b o : Nat) (x : Value) (hne : b < lo) : FdOwn (w.setCell ⟨b, o, none⟩ x) lo q := Strs.otherV h b o x hne
theorem FdOwn.put4 {w : World} {lo : Nat} {q : FdV} (h : FdOwn w lo q) (b o : Nat) (x : FdV) (hne : b < lo) : FdOwn (put4 w b o x) lo q :=
  (((h.other _ _ _ hne).other _ _ _ hne).other _ _ _ hne).other _ _ _ hne
theorem below_put4 {n : Nat} {W V : World} {g o : Nat} {q : FdV} (h : Below n W V) (hg : n ≤ g) : Below n W (put4 V g o q) :=
  (((h.setCell (p := ⟨g, o, none⟩) hg _).setCell (p := ⟨g, o + 1, none⟩) hg _).setCell (p := ⟨g, o + 2, none⟩) hg _).setCell (p := ⟨g, o + 3, none⟩) hg _

/-- The call's own list of fields, with all that hangs on it. -/
def FdsOwn (w : World) (base : Nat) (v : Value) (fs : List Fd) : Prop := ∃ G cap qs, v = .slice (some ⟨G, 0, none⟩) fs.length cap ∧ base ≤ G ∧ G < w.heap.size ∧ qs.map (·.1) = fs ∧ Fields w base (.slice (some ⟨G, 0, none⟩) fs.length cap) qs ∧ ∀ q ∈ qs, FdOwn w (G + 1) q
theorem FdsOwn.below {w w' : World} {base : Nat} {v : Value} {fs : List Fd} (h : FdsOwn w base v fs) (hb : Below w.heap.size w w') : FdsOwn w' base v fs := by
  obtain ⟨G, cap, qs, hv, h1, h2, h3, h4, h5⟩ := h
  exact ⟨G, cap, qs, hv, h1, Nat.lt_of_lt_of_le h2 hb.size, h3, h4.below hb, fun q hq => (h5 q hq).below hb⟩
theorem RdFs.of_own {w : World} {base : Nat} {v : Value} {fs : List Fd} (h : FdsOwn w base v fs) : RdFs w v fs := by
  obtain ⟨G, cap, qs, rfl, h1, h2, rfl, h4, h5⟩ := h
  refine ⟨some ⟨G, 0, none⟩, cap, by simp, fun _ => ⟨G, 0, rfl, h2, fun k hk => ?_⟩⟩
  simp at hk
  obtain ⟨c0, c1, c2, c3⟩ := h4.cell k hk
  have ho := h5 qs[k] (List.getElem_mem hk)
  rw [Nat.zero_add]
  simp only [List.getElem_map]
  exact ⟨qs[k].2, c0, c1, c2, c3, RdS.of_strs ho⟩
theorem FdsOwn.other {w : World} {base : Nat} {v : Value} {fs : List Fd} (h : FdsOwn w base v fs) (b o : Nat) (x : Value) (hb : b < base) : FdsOwn (w.setCell ⟨b, o, none⟩ x) base v fs := by
  obtain ⟨G, cap, qs, hv, h1, h2, h3, h4, h5⟩ := h
  refine ⟨G, cap, qs, hv, h1, by simpa using h2, h3, ?_, fun q hq => (h5 q hq).other b o x (by omega)⟩
  exact World.ownsRow.kept h4 (row := some b) ⟨rfl, rfl, rfl, by simp, fun k _ hk => heap_setCell_other w ⟨b, o, none⟩ k x (fun e => hk (by simp [e]))⟩ (by right; simp [Value.ownBlock]; omega)
theorem FdsOwn.weaken {w : World} {base base' : Nat} {v : Value} {fs : List Fd} (h : FdsOwn w base v fs) (hb : base' ≤ base) : FdsOwn w base' v fs := by
  obtain ⟨G, cap, qs, hv, h1, h2, h3, h4, h5⟩ := h
  refine ⟨G, cap, qs, hv, by omega, h2, h3, ?_, h5⟩
  refine ⟨h4.1, ?_⟩
  rcases h4.2 with h | ⟨g, cap, cur, hv, hg, hh, hr⟩
  · exact .inl h
  · exact .inr ⟨g, cap, cur, hv, Nat.le_trans hb hg, hh, hr⟩
theorem FdsOwn.slice {w : World} {base : Nat} {v : Value} {fs : List Fd} (h : FdsOwn w base v fs) : ∃ G c, v = .slice (some ⟨G, 0, none⟩) fs.length c ∧ base ≤ G ∧ G < w.heap.size := by
  obtain ⟨G, cap, qs, hv, h1, h2, _⟩ := h; exact ⟨G, cap, hv, h1, h2⟩

/-- The first k fields with their values, then empty ones. -/
def zf : FdV := (⟨[], [], [], false⟩, .slice none 0 0)
def tkF (qs : List FdV) (n : Nat) : List FdV := qs ++ List.replicate (n - qs.length) zf
theorem tkF_len (qs : List FdV) (n : Nat) (h : qs.length ≤ n) : (tkF qs n).length = n := by simp [tkF]; omega
theorem tkF_set (qs : List FdV) (n : Nat) (h : qs.length < n) (q : FdV) : (tkF qs n).set qs.length q = tkF (qs ++ [q]) n := by
  unfold tkF
  rw [List.set_append_right _ _ (by simp)]
  have e : n - qs.length = (n - (qs ++ [q]).length) + 1 := by simp; omega
  rw [e, List.replicate_succ, List.append_assoc]
  simp
theorem fields_made {w : World} {base : Nat} {v : Value} {n : Nat} (h : w.ownsRow base 35 4 v n (madeCells (Value.agg #[.string ⟨#[]⟩, .string ⟨#[]⟩, .slice none 0 0, .bool false]).cells (n * 4)).toList) : Fields w base v (List.replicate n zf) := by
  unfold Fields
  have e : (madeCells (Value.agg #[.string ⟨#[]⟩, .string ⟨#[]⟩, .slice none 0 0, .bool false]).cells (n * 4)).toList = flatF (List.replicate n zf) := by
    apply List.ext_getElem?
    intro j
    by_cases hj : j < n * 4
    · obtain ⟨k, r, hr, rfl⟩ : ∃ k r, r < 4 ∧ j = k * 4 + r := ⟨j / 4, j % 4, by omega, by omega⟩
      have hk : k < (List.replicate n zf).length := by simp; omega
      obtain ⟨e0, e1, e2, e3⟩ := flatF_get (List.replicate n zf) k hk
      simp only [List.getElem_replicate] at e0 e1 e2 e3
      have hm : (k * 4 + r) % 4 = r := by omega
      match r, hr with
      | 0, _ => rw [Nat.add_zero] at *; rw [e0]; simp [madeCells, hj, Value.cells, zf]
      | 1, _ => rw [e1]; simp [madeCells, hj, Value.cells, hm, zf]
      | 2, _ => rw [e2]; simp [madeCells, hj, Value.cells, hm, zf]
      | 3, _ => rw [e3]; simp [madeCells, hj, Value.cells, hm, zf]
    · rw [List.getElem?_eq_none (by simp [madeCells]; omega), List.getElem?_eq_none (by rw [flatF_len]; simp; omega)]
  rw [← e]
  simpa using h
end Go.Proofs.Ytongpnknmgbhjaa
