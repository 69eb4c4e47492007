/-
  Lists of tables in plain words, and rows of tables of the call's own.
-/
import Derived.Test.YthlbpklllphhcaaTbL
namespace Go.Proofs.Ythlbpklllphhcaa
open Go.RowKit

/-- The two cells from o on in block g read as the table t. -/
def TbAt (w : World) (g o : Nat) (t : Tb) : Prop := ∃ a, w.cell? ⟨g, o, none⟩ = some (.string ⟨t.name.toArray⟩) ∧ w.cell? ⟨g, o + 1, none⟩ = some a ∧ RdFs w a t.fields
/-- The value v reads as the tables ts. -/
def RdXs (w : World) (v : Value) (ts : List Tb) : Prop := ∃ A cap, v = .slice A ts.length cap ∧ (0 < ts.length → ∃ g off, A = some ⟨g, off, none⟩ ∧ g < w.heap.size ∧ ∀ k (h : k < ts.length), TbAt w g (off + k * 2) ts[k])
theorem TbAt.below {w w' : World} {g o : Nat} {t : Tb} (h : TbAt w g o t) (hb : Below w.heap.size w w') : TbAt w' g o t := by
  obtain ⟨a, h0, h1, ra⟩ := h
  exact ⟨a, keepC hb h0, keepC hb h1, ra.below hb⟩
theorem RdXs.below {w w' : World} {v : Value} {ts : List Tb} (h : RdXs w v ts) (hb : Below w.heap.size w w') : RdXs w' v ts := by
  obtain ⟨A, cap, hv, hc⟩ := h
  refine ⟨A, cap, hv, fun h0 => ?_⟩
  obtain ⟨g, off, hA, hg, hk⟩ := hc h0
  exact ⟨g, off, hA, Nat.lt_of_lt_of_le hg hb.size, fun k h => (hk k h).below hb⟩
theorem rdXs_nil (w : World) : RdXs w (.slice none 0 0) [] := ⟨none, 0, rfl, fun h => absurd h (by simp)⟩
theorem RdXs.at {w : World} {A : Option Addr} {n cap : Nat} {ts : List Tb} (h : RdXs w (.slice A n cap) ts) (k : Nat) (hk : k < ts.length) : ∃ g off, A = some ⟨g, off, none⟩ ∧ g < w.heap.size ∧ TbAt w g (off + k * 2) ts[k] := by
  obtain ⟨A', ca', hv, ha⟩ := h
  simp only [Value.slice.injEq] at hv
  obtain ⟨rfl, _, rfl⟩ := hv
  obtain ⟨g, off, hA, hg, hc⟩ := ha (by omega)
  exact ⟨g, off, hA, hg, hc k hk⟩
theorem RdXs.slice {w : World} {v : Value} {ts : List Tb} (h : RdXs w v ts) : ∃ A c, v = .slice A ts.length c := by
  obtain ⟨A, c, rfl, _⟩ := h; exact ⟨A, c, rfl⟩
/-- How much is in tables. -/
def smX (ts : List Tb) : Nat := (ts.map wTb).sum
def szXs (left : Int) (ts : List Tb) : Int := if (ts.length : Int) + (smX ts : Int) ≤ left then left - (ts.length : Int) - (smX ts : Int) else -1
theorem smX_snoc (ts : List Tb) (k : Nat) (h : k < ts.length) : smX (ts.take (k + 1)) = smX (ts.take k) + wTb ts[k] := by
  unfold smX; rw [List.take_succ_eq_append_getElem h]; simp only [List.map_append, List.sum_append, List.map_cons, List.map_nil, List.sum_cons, List.sum_nil]; omega
theorem smX_le (ts : List Tb) (k : Nat) : smX (ts.take k) ≤ smX ts := by
  have : smX ts = smX (ts.take k) + smX (ts.drop k) := by unfold smX; rw [← List.sum_append, ← List.map_append, List.take_append_drop]
  omega
theorem smX_mem {ts : List Tb} : ∀ t ∈ ts, wTb t ≤ smX ts := by
  induction ts with
  | nil => intro l h; cases h
  | cons a t ih =>
    intro l h
    have e : smX (a :: t) = wTb a + smX t := by unfold smX; simp
    rcases List.mem_cons.1 h with rfl | h
    · omega
    · have := ih l h; omega
theorem szXs_yes {left : Int} {ts : List Tb} (h : (ts.length : Int) + (smX ts : Int) ≤ left) : szXs left ts = left - (ts.length : Int) - (smX ts : Int) := if_pos h
theorem szXs_no {left : Int} {ts : List Tb} (h : ¬ (ts.length : Int) + (smX ts : Int) ≤ left) : szXs left ts = -1 := if_neg h
def SmXs (ts : List Tb) : Prop := ts.length + smX ts ≤ 1048576
theorem SmXs.get {ts : List Tb} (h : SmXs ts) (k : Nat) (hk : k < ts.length) : SmTb ts[k] := by
  have := smX_mem ts[k] (List.getElem_mem hk)
  unfold SmXs at h; unfold SmTb; omega
theorem szXs_good {ts : List Tb} {left : Int} (hl : left ≤ 1048576) (h0 : 0 ≤ left) (h : ¬ szXs left ts < 0) : SmXs ts := by
  unfold szXs at h
  split at h
  · unfold SmXs; omega
  · omega

/-- A table with the value of its fields. -/
abbrev TbV := Tb × Value
def flatX : List TbV → List Value
  | [] => []
  | q :: t => .string ⟨q.1.name.toArray⟩ :: q.2 :: flatX t
theorem flatX_len (l : List TbV) : (flatX l).length = l.length * 2 := by
  induction l with
  | nil => rfl
  | cons a t ih => simp only [flatX, List.length_cons, ih]; omega
theorem flatX_get : ∀ (l : List TbV) (k : Nat) (h : k < l.length), (flatX l)[k * 2]? = some (.string ⟨l[k].1.name.toArray⟩) ∧ (flatX l)[k * 2 + 1]? = some l[k].2
  | [], k, h => by simp at h
  | a :: t, 0, _ => by simp [flatX]
  | a :: t, k + 1, h => by
    have := flatX_get t k (by simpa using h)
    rw [show (k + 1) * 2 = k * 2 + 2 by omega, show k * 2 + 2 + 1 = (k * 2 + 1) + 2 by omega]
    simpa [flatX] using this
def setX (l : List Value) (o : Nat) (q : TbV) : List Value := (l.set o (.string ⟨q.1.name.toArray⟩)).set (o + 1) q.2
theorem flatX_set : ∀ (l : List TbV) (k : Nat) (x : TbV), setX (flatX l) (k * 2) x = flatX (l.set k x)
  | [], k, x => by simp [flatX, setX]
  | a :: t, 0, x => by simp [flatX, setX]
  | a :: t, k + 1, x => by
    have := flatX_set t k x
    unfold setX at this ⊢
    rw [show (k + 1) * 2 = k * 2 + 2 by omega, show k * 2 + 2 + 1 = (k * 2 + 1) + 2 by omega]
    simp [flatX, this]
/-- v is the call's own row of these tables. -/
def Tables (w : World) (base : Nat) (v : Value) (qs : List TbV) : Prop := w.ownsRow base 52 2 v qs.length (flatX qs)
set_option maxRecDepth 100000 in
theorem tbinfo : (Try.prog.info? 52).map (fun i => (i.zero, i.size, i.bytes)) = some (some (.agg #[.string ⟨#[]⟩, .slice none 0 0]), 2, 40) := by kernel_rfl
theorem Tables.below {w w' : World} {base g n cap : Nat} {l : List TbV} (h : Tables w base (.slice (some ⟨g, 0, none⟩) n cap) l) (hb : Below w.heap.size w w') : Tables w' base (.slice (some ⟨g, 0, none⟩) n cap) l :=
  World.ownsRow.kept h (row := none) ⟨hb.os, hb.tape, hb.output, hb.size, fun i hi _ => hb.block i hi⟩ (by right; simp [Value.ownBlock])
theorem Tables.cell {w : World} {base : Nat} {l : List TbV} {g n cap : Nat} (h : Tables w base (.slice (some ⟨g, 0, none⟩) n cap) l) (k : Nat) (hk : k < l.length) : w.cell? ⟨g, k * 2, none⟩ = some (.string ⟨l[k].1.name.toArray⟩) ∧ w.cell? ⟨g, k * 2 + 1, none⟩ = some l[k].2 := by
  have hadd : ∀ j, (⟨g, 0, none⟩ : Addr).add j = ⟨g, j, none⟩ := fun j => by unfold Addr.add; split <;> simp_all
  obtain ⟨e0, e1⟩ := flatX_get l k hk
  have h0 := World.ownsRow.cells (g := g) h rfl (k * 2) _ e0
  have h1 := World.ownsRow.cells (g := g) h rfl (k * 2 + 1) _ e1
  rw [hadd] at h0 h1
  exact ⟨h0, h1⟩
def put2 (w : World) (g o : Nat) (q : TbV) : World := (w.setCell ⟨g, o, none⟩ (.string ⟨q.1.name.toArray⟩)).setCell ⟨g, o + 1, none⟩ q.2
theorem Tables.set {w : World} {base g cap : Nat} {l : List TbV} (h : Tables w base (.slice (some ⟨g, 0, none⟩) l.length cap) l) (k : Nat) (x : TbV) :
    Tables (put2 w g (k * 2) x) base (.slice (some ⟨g, 0, none⟩) (l.set k x).length cap) (l.set k x) := by
  unfold Tables at h ⊢
  rw [List.length_set, ← flatX_set]
  exact (World.ownsRow.stored (World.ownsRow.stored h (k * 2) _).1 (k * 2 + 1) _).1
/-- The fields of a table are the call's own, in blocks from lo on. -/
def TbOwn (w : World) (lo : Nat) (q : TbV) : Prop := FdsOwn w lo q.2 q.1.fields
theorem TbOwn.below {w w' : World} {lo : Nat} {q : TbV} (h : TbOwn w lo q) (hb : Below w.heap.size w w') : TbOwn w' lo q := FdsOwn.below h hb
theorem TbOwn.put2 {w : World} {lo : Nat} {q : TbV} (h : TbOwn w lo q) (b o : Nat) (x : TbV) (hne : b < lo) : TbOwn (put2 w b o x) lo q :=
  FdsOwn.other (FdsOwn.other h _ _ _ hne) _ _ _ hne
theorem below_put2 {n : Nat} {W V : World} {g o : Nat} {q : TbV} (h : Below n W V) (hg : n ≤ g) : Below n W (put2 V g o q) :=
  (h.setCell (p := ⟨g, o, none⟩) hg _).setCell (p := ⟨g, o + 1, none⟩) hg _
/-- The call's own list of tables, with all that hangs on it. -/
def TbsOwn (w : World) (base : Nat) (v : Value) (ts : List Tb) : Prop := ∃ G cap qs, v = .slice (some ⟨G, 0, none⟩) ts.length cap ∧ base ≤ G ∧ G < w.heap.size ∧ qs.map (·.1) = ts ∧ Tables w base (.slice (some ⟨G, 0, none⟩) ts.length cap) qs ∧ ∀ q ∈ qs, TbOwn w (G + 1) q
theorem TbsOwn.below {w w' : World} {base : Nat} {v : Value} {ts : List Tb} (h : TbsOwn w base v ts) (hb : Below w.heap.size w w') : TbsOwn w' base v ts := by
  obtain ⟨G, cap, qs, hv, h1, h2, h3, h4, h5⟩ := h
  exact ⟨G, cap, qs, hv, h1, Nat.lt_of_lt_of_le h2 hb.size, h3, h4.below hb, fun q hq => (h5 q hq).below hb⟩
theorem RdXs.of_own {w : World} {base : Nat} {v : Value} {ts : List Tb} (h : TbsOwn w base v ts) : RdXs w v ts := by
  obtain ⟨G, cap, qs, rfl, h1, h2, rfl, h4, h5⟩ := h
  refine ⟨some ⟨G, 0, none⟩, cap, by simp, fun _ => ⟨G, 0, rfl, h2, fun k hk => ?_⟩⟩
  simp at hk
  obtain ⟨c0, c1⟩ := h4.cell k hk
  have ho := h5 qs[k] (List.getElem_mem hk)
  rw [Nat.zero_add]
  simp only [List.getElem_map]
  exact ⟨qs[k].2, c0, c1, RdFs.of_own ho⟩
theorem TbsOwn.slice {w : World} {base : Nat} {v : Value} {ts : List Tb} (h : TbsOwn w base v ts) : ∃ G c, v = .slice (some ⟨G, 0, none⟩) ts.length c := by
  obtain ⟨G, cap, qs, hv, _⟩ := h; exact ⟨G, cap, hv⟩
/-- The first k tables with their values, then empty ones. -/
def zx : TbV := (⟨[], []⟩, .slice none 0 0)
def tkX (qs : List TbV) (n : Nat) : List TbV := qs ++ List.replicate (n - qs.length) zx
theorem tkX_len (qs : List TbV) (n : Nat) (h : qs.length ≤ n) : (tkX qs n).length = n := by simp [tkX]; omega
theorem tkX_set (qs : List TbV) (n : Nat) (h : qs.length < n) (q : TbV) : (tkX qs n).set qs.length q = tkX (qs ++ [q]) n := by
  unfold tkX
  rw [List.set_append_right _ _ (by simp)]
  have e : n - qs.length = (n - (qs ++ [q]).length) + 1 := by simp; omega
  rw [e, List.replicate_succ, List.append_assoc]
  simp
theorem tables_made {w : World} {base : Nat} {v : Value} {n : Nat} (h : w.ownsRow base 52 2 v n (madeCells (Value.agg #[.string ⟨#[]⟩, .slice none 0 0]).cells (n * 2)).toList) : Tables w base v (List.replicate n zx) := by
  unfold Tables
  have e : (madeCells (Value.agg #[.string ⟨#[]⟩, .slice none 0 0]).cells (n * 2)).toList = flatX (List.replicate n zx) := by
    apply List.ext_getElem?
    intro j
    by_cases hj : j < n * 2
    · obtain ⟨k, r, hr, rfl⟩ : ∃ k r, r < 2 ∧ j = k * 2 + r := ⟨j / 2, j % 2, by omega, by omega⟩
      have hk : k < (List.replicate n zx).length := by simp; omega
      obtain ⟨e0, e1⟩ := flatX_get (List.replicate n zx) k hk
      simp only [List.getElem_replicate] at e0 e1
      have hm : (k * 2 + r) % 2 = r := by omega
      match r, hr with
      | 0, _ => rw [Nat.add_zero] at *; rw [e0]; simp [madeCells, hj, Value.cells, zx]
      | 1, _ => rw [e1]; simp [madeCells, hj, Value.cells, hm, zx]
    · rw [List.getElem?_eq_none (by simp [madeCells]; omega), List.getElem?_eq_none (by rw [flatX_len]; simp; omega)]
  rw [← e]
  simpa using h
end Go.Proofs.Ythlbpklllphhcaa
