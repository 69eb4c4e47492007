/-
  Rows of packs of the call's own.
-/
import Derived.Test.YtnodhkjgnegkcaaGreatDoorLawQ
namespace Go.Proofs.YtnodhkjgnegkcaaGreatDoor
open Go.RowKit

/-- A pack with the values of its two lists. -/
abbrev PkV := Pk × Value × Value
/-- A list of packs as cells. -/
def flatP : List PkV → List Value
  | [] => []
  | q :: t => .string ⟨q.1.name.toArray⟩ :: .string ⟨q.1.ver.toArray⟩ :: .string ⟨q.1.src.toArray⟩ :: q.2.1 :: .bool q.1.dev :: q.2.2 :: flatP t
theorem flatP_len (l : List PkV) : (flatP l).length = l.length * 6 := by
  induction l with
  | nil => rfl
  | cons a t ih => simp only [flatP, List.length_cons, ih]; omega
theorem flatP_get : ∀ (l : List PkV) (k : Nat) (h : k < l.length), (flatP l)[k * 6]? = some (.string ⟨l[k].1.name.toArray⟩) ∧ (flatP l)[k * 6 + 1]? = some (.string ⟨l[k].1.ver.toArray⟩) ∧ (flatP l)[k * 6 + 2]? = some (.string ⟨l[k].1.src.toArray⟩) ∧ (flatP l)[k * 6 + 3]? = some l[k].2.1 ∧ (flatP l)[k * 6 + 4]? = some (.bool l[k].1.dev) ∧ (flatP l)[k * 6 + 5]? = some l[k].2.2
  | [], k, h => by simp at h
  | a :: t, 0, _ => by simp [flatP]
  | a :: t, k + 1, h => by
    have := flatP_get t k (by simpa using h)
    rw [show (k + 1) * 6 = k * 6 + 6 by omega, show k * 6 + 6 + 1 = (k * 6 + 1) + 6 by omega, show k * 6 + 6 + 2 = (k * 6 + 2) + 6 by omega, show k * 6 + 6 + 3 = (k * 6 + 3) + 6 by omega, show k * 6 + 6 + 4 = (k * 6 + 4) + 6 by omega, show k * 6 + 6 + 5 = (k * 6 + 5) + 6 by omega]
    simpa [flatP] using this
/-- Six cells stored. -/
def set6 (l : List Value) (o : Nat) (q : PkV) : List Value := (((((l.set o (.string ⟨q.1.name.toArray⟩)).set (o + 1) (.string ⟨q.1.ver.toArray⟩)).set (o + 2) (.string ⟨q.1.src.toArray⟩)).set (o + 3) q.2.1).set (o + 4) (.bool q.1.dev)).set (o + 5) q.2.2
theorem flatP_set : ∀ (l : List PkV) (k : Nat) (x : PkV), set6 (flatP l) (k * 6) x = flatP (l.set k x)
  | [], k, x => by simp [flatP, set6]
  | a :: t, 0, x => by simp [flatP, set6]
  | a :: t, k + 1, x => by
    have := flatP_set t k x
    unfold set6 at this ⊢
    rw [show (k + 1) * 6 = k * 6 + 6 by omega, show k * 6 + 6 + 1 = (k * 6 + 1) + 6 by omega, show k * 6 + 6 + 2 = (k * 6 + 2) + 6 by omega, show k * 6 + 6 + 3 = (k * 6 + 3) + 6 by omega, show k * 6 + 6 + 4 = (k * 6 + 4) + 6 by omega, show k * 6 + 6 + 5 = (k * 6 + 5) + 6 by omega]
    simp [flatP, this]

/-- v is the call's own row of these packs. -/
def Packs (w : World) (base : Nat) (v : Value) (qs : List PkV) : Prop := w.ownsRow base 78 6 v qs.length (flatP qs)
theorem pkinfo : (Tryz.prog.info? 78).map (fun i => (i.zero, i.size, i.bytes)) = some (some (.agg #[.string ⟨#[]⟩, .string ⟨#[]⟩, .string ⟨#[]⟩, .slice none 0 0, .bool false, .slice none 0 0]), 6, 104) := by kernel_rfl
/-- The two lists of a pack are the call's own, in blocks from lo on. -/
def PkOwn (w : World) (lo : Nat) (q : PkV) : Prop := Sums w lo q.2.1 q.1.sums ∧ Strs w lo q.2.2 q.1.needs
theorem Packs.below {w w' : World} {base g n cap : Nat} {l : List PkV} (h : Packs w base (.slice (some ⟨g, 0, none⟩) n cap) l) (hb : Below w.heap.size w w') : Packs w' base (.slice (some ⟨g, 0, none⟩) n cap) l :=
  World.ownsRow.kept h (row := none) ⟨hb.os, hb.tape, hb.output, hb.size, fun i hi _ => hb.block i hi⟩ (by right; simp [Value.ownBlock])
theorem PkOwn.below {w w' : World} {lo : Nat} {q : PkV} (h : PkOwn w lo q) (hb : Below w.heap.size w w') : PkOwn w' lo q := ⟨h.1.below hb, h.2.below hb⟩
theorem Packs.cell {w : World} {base : Nat} {l : List PkV} {g n cap : Nat} (h : Packs w base (.slice (some ⟨g, 0, none⟩) n cap) l) (k : Nat) (hk : k < l.length) : w.cell? ⟨g, k * 6, none⟩ = some (.string ⟨l[k].1.name.toArray⟩) ∧ w.cell? ⟨g, k * 6 + 1, none⟩ = some (.string ⟨l[k].1.ver.toArray⟩) ∧ w.cell? ⟨g, k * 6 + 2, none⟩ = some (.string ⟨l[k].1.src.toArray⟩) ∧ w.cell? ⟨g, k * 6 + 3, none⟩ = some l[k].2.1 ∧ w.cell? ⟨g, k * 6 + 4, none⟩ = some (.bool l[k].1.dev) ∧ w.cell? ⟨g, k * 6 + 5, none⟩ = some l[k].2.2 := by
  have hadd : ∀ j, (⟨g, 0, none⟩ : Addr).add j = ⟨g, j, none⟩ := fun j => by unfold Addr.add; split <;> simp_all
  obtain ⟨e0, e1, e2, e3, e4, e5⟩ := flatP_get l k hk
  have h0 := World.ownsRow.cells (g := g) h rfl (k * 6) _ e0
  have h1 := World.ownsRow.cells (g := g) h rfl (k * 6 + 1) _ e1
  have h2 := World.ownsRow.cells (g := g) h rfl (k * 6 + 2) _ e2
  have h3 := World.ownsRow.cells (g := g) h rfl (k * 6 + 3) _ e3
  have h4 := World.ownsRow.cells (g := g) h rfl (k * 6 + 4) _ e4
  have h5 := World.ownsRow.cells (g := g) h rfl (k * 6 + 5) _ e5
  rw [hadd] at h0 h1 h2 h3 h4 h5
  exact ⟨h0, h1, h2, h3, h4, h5⟩
/-- A pack stored at its place. -/
def put6 (w : World) (g o : Nat) (q : PkV) : World := (((((w.setCell ⟨g, o, none⟩ (.string ⟨q.1.name.toArray⟩)).setCell ⟨g, o + 1, none⟩ (.string ⟨q.1.ver.toArray⟩)).setCell ⟨g, o + 2, none⟩ (.string ⟨q.1.src.toArray⟩)).setCell ⟨g, o + 3, none⟩ q.2.1).setCell ⟨g, o + 4, none⟩ (.bool q.1.dev)).setCell ⟨g, o + 5, none⟩ q.2.2
theorem Packs.set {w : World} {base g cap : Nat} {l : List PkV} (h : Packs w base (.slice (some ⟨g, 0, none⟩) l.length cap) l) (k : Nat) (x : PkV) :
    Packs (put6 w g (k * 6) x) base (.slice (some ⟨g, 0, none⟩) (l.set k x).length cap) (l.set k x) := by
  unfold Packs at h ⊢
  rw [List.length_set, ← flatP_set]
  exact (World.ownsRow.stored (World.ownsRow.stored (World.ownsRow.stored (World.ownsRow.stored (World.ownsRow.stored (World.ownsRow.stored h (k * 6) _).1 (k * 6 + 1) _).1 (k * 6 + 2) _).1 (k * 6 + 3) _).1 (k * 6 + 4) _).1 (k * 6 + 5) _).1
theorem Sums.nil (w : World) (base : Nat) : Sums w base (.slice none 0 0) [] := ⟨by simp [flat2], .inl ⟨rfl, rfl⟩⟩
theorem Sums.otherV {w : World} {base : Nat} {v : Value} {l : List Bd} (h : Sums w base v l) (b o : Nat) (x : Value) (hne : b < base) : Sums (w.setCell ⟨b, o, none⟩ x) base v l := by
  rcases h.form with ⟨rfl, rfl⟩ | ⟨g, cap, rfl, hg, _⟩
  · exact Sums.nil _ _
  · exact h.other b o x (by omega)
theorem PkOwn.other {w : World} {lo : Nat} {q : PkV} (h : PkOwn w lo q) (b o : Nat) (x : Value) (hne : b < lo) : PkOwn (w.setCell ⟨b, o, none⟩ x) lo q := ⟨h.1.otherV b o x hne, h.2.otherV b o x hne⟩
theorem PkOwn.put6 {w : World} {lo : Nat} {q : PkV} (h : PkOwn w lo q) (b o : Nat) (x : PkV) (hne : b < lo) : PkOwn (put6 w b o x) lo q :=
  (((((h.other _ _ _ hne).other _ _ _ hne).other _ _ _ hne).other _ _ _ hne).other _ _ _ hne).other _ _ _ hne
theorem below_put6 {n : Nat} {W V : World} {g o : Nat} {q : PkV} (h : Below n W V) (hg : n ≤ g) : Below n W (put6 V g o q) :=
  (((((h.setCell (p := ⟨g, o, none⟩) hg _).setCell (p := ⟨g, o + 1, none⟩) hg _).setCell (p := ⟨g, o + 2, none⟩) hg _).setCell (p := ⟨g, o + 3, none⟩) hg _).setCell (p := ⟨g, o + 4, none⟩) hg _).setCell (p := ⟨g, o + 5, none⟩) hg _

/-- The call's own list of packs, with all that hangs on it. -/
def PksOwn (w : World) (base : Nat) (v : Value) (ps : List Pk) : Prop := ∃ G cap qs, v = .slice (some ⟨G, 0, none⟩) ps.length cap ∧ base ≤ G ∧ G < w.heap.size ∧ qs.map (·.1) = ps ∧ Packs w base (.slice (some ⟨G, 0, none⟩) ps.length cap) qs ∧ ∀ q ∈ qs, PkOwn w (G + 1) q
theorem PksOwn.below {w w' : World} {base : Nat} {v : Value} {ps : List Pk} (h : PksOwn w base v ps) (hb : Below w.heap.size w w') : PksOwn w' base v ps := by
  obtain ⟨G, cap, qs, hv, h1, h2, h3, h4, h5⟩ := h
  exact ⟨G, cap, qs, hv, h1, Nat.lt_of_lt_of_le h2 hb.size, h3, h4.below hb, fun q hq => (h5 q hq).below hb⟩
theorem RdPs.of_own {w : World} {base : Nat} {v : Value} {ps : List Pk} (h : PksOwn w base v ps) : RdPs w v ps := by
  obtain ⟨G, cap, qs, rfl, h1, h2, rfl, h4, h5⟩ := h
  refine ⟨some ⟨G, 0, none⟩, cap, by simp, fun _ => ⟨G, 0, rfl, h2, fun k hk => ?_⟩⟩
  simp at hk
  obtain ⟨c0, c1, c2, c3, c4, c5⟩ := h4.cell k hk
  have ho := h5 qs[k] (List.getElem_mem hk)
  rw [Nat.zero_add]
  simp only [List.getElem_map]
  exact ⟨qs[k].2.1, qs[k].2.2, c0, c1, c2, c3, c4, c5, RdB.of_sums ho.1, RdS.of_strs ho.2⟩

/-- The first k packs with their values, then empty ones. -/
def zq : PkV := (⟨[], [], [], [], false, []⟩, .slice none 0 0, .slice none 0 0)
def tkP (qs : List PkV) (n : Nat) : List PkV := qs ++ List.replicate (n - qs.length) zq
theorem tkP_len (qs : List PkV) (n : Nat) (h : qs.length ≤ n) : (tkP qs n).length = n := by simp [tkP]; omega
theorem tkP_set (qs : List PkV) (n : Nat) (h : qs.length < n) (q : PkV) : (tkP qs n).set qs.length q = tkP (qs ++ [q]) n := by
  unfold tkP
  rw [List.set_append_right _ _ (by simp)]
  have e : n - qs.length = (n - (qs ++ [q]).length) + 1 := by simp; omega
  rw [e, List.replicate_succ, List.append_assoc]
  simp
theorem flatP_rep : ∀ n : Nat, flatP (List.replicate n zq) = (List.replicate n [Value.string ⟨#[]⟩, .string ⟨#[]⟩, .string ⟨#[]⟩, .slice none 0 0, .bool false, .slice none 0 0]).flatten
  | 0 => rfl
  | n + 1 => by
    rw [List.replicate_succ, List.replicate_succ, List.flatten_cons, ← flatP_rep n]
    simp [flatP, zq]
theorem packs_made {w : World} {base : Nat} {v : Value} {n : Nat} (h : w.ownsRow base 78 6 v n (madeCells (Value.agg #[.string ⟨#[]⟩, .string ⟨#[]⟩, .string ⟨#[]⟩, .slice none 0 0, .bool false, .slice none 0 0]).cells (n * 6)).toList) : Packs w base v (List.replicate n zq) := by
  unfold Packs
  have e : (madeCells (Value.agg #[.string ⟨#[]⟩, .string ⟨#[]⟩, .string ⟨#[]⟩, .slice none 0 0, .bool false, .slice none 0 0]).cells (n * 6)).toList = flatP (List.replicate n zq) := by
    apply List.ext_getElem?
    intro j
    by_cases hj : j < n * 6
    · obtain ⟨k, r, hr, rfl⟩ : ∃ k r, r < 6 ∧ j = k * 6 + r := ⟨j / 6, j % 6, by omega, by omega⟩
      have hk : k < (List.replicate n zq).length := by simp; omega
      obtain ⟨e0, e1, e2, e3, e4, e5⟩ := flatP_get (List.replicate n zq) k hk
      simp only [List.getElem_replicate] at e0 e1 e2 e3 e4 e5
      have hm : (k * 6 + r) % 6 = r := by omega
      match r, hr with
      | 0, _ => rw [Nat.add_zero] at *; rw [e0]; simp [madeCells, hj, Value.cells, zq]
      | 1, _ => rw [e1]; simp [madeCells, hj, Value.cells, hm, zq]
      | 2, _ => rw [e2]; simp [madeCells, hj, Value.cells, hm, zq]
      | 3, _ => rw [e3]; simp [madeCells, hj, Value.cells, hm, zq]
      | 4, _ => rw [e4]; simp [madeCells, hj, Value.cells, hm, zq]
      | 5, _ => rw [e5]; simp [madeCells, hj, Value.cells, hm, zq]
    · rw [List.getElem?_eq_none (by simp [madeCells]; omega), List.getElem?_eq_none (by rw [flatP_len]; simp; omega)]
  rw [← e]
  simpa using h
end Go.Proofs.YtnodhkjgnegkcaaGreatDoor
