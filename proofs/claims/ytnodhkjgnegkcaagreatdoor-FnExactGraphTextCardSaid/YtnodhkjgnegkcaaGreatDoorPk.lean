/-
  A pack and a list of packs in plain words, and what reads as them in memory.
-/
import Derived.Test.YtnodhkjgnegkcaaGreatDoorRdB
import Derived.Test.YtnodhkjgnegkcaaGreatDoorLawS
namespace Go.Proofs.YtnodhkjgnegkcaaGreatDoor
open Go.RowKit

/-- A pack: its name, version and source, its sums, whether it is dev, what it needs. -/
structure Pk where
  name : List UInt8
  ver : List UInt8
  src : List UInt8
  sums : List Bd
  dev : Bool
  needs : List (List UInt8)
instance : Inhabited Pk := ⟨⟨[], [], [], [], false, []⟩⟩

/-- The six cells from o on in block g read as the pack p. -/
def PkAt (w : World) (g o : Nat) (p : Pk) : Prop := ∃ a b, w.cell? ⟨g, o, none⟩ = some (.string ⟨p.name.toArray⟩) ∧ w.cell? ⟨g, o + 1, none⟩ = some (.string ⟨p.ver.toArray⟩) ∧ w.cell? ⟨g, o + 2, none⟩ = some (.string ⟨p.src.toArray⟩) ∧ w.cell? ⟨g, o + 3, none⟩ = some a ∧ w.cell? ⟨g, o + 4, none⟩ = some (.bool p.dev) ∧ w.cell? ⟨g, o + 5, none⟩ = some b ∧ RdB w a p.sums ∧ RdS w b p.needs
/-- The value v reads as the packs ps. -/
def RdPs (w : World) (v : Value) (ps : List Pk) : Prop := ∃ A cap, v = .slice A ps.length cap ∧ (0 < ps.length → ∃ g off, A = some ⟨g, off, none⟩ ∧ g < w.heap.size ∧ ∀ k (h : k < ps.length), PkAt w g (off + k * 6) ps[k])
theorem PkAt.below {w w' : World} {g o : Nat} {p : Pk} (h : PkAt w g o p) (hb : Below w.heap.size w w') : PkAt w' g o p := by
  obtain ⟨a, b, h0, h1, h2, h3, h4, h5, ra, rb⟩ := h
  exact ⟨a, b, keepC hb h0, keepC hb h1, keepC hb h2, keepC hb h3, keepC hb h4, keepC hb h5, ra.below hb, rb.below hb⟩
theorem RdPs.below {w w' : World} {v : Value} {ps : List Pk} (h : RdPs w v ps) (hb : Below w.heap.size w w') : RdPs w' v ps := by
  obtain ⟨A, cap, hv, hc⟩ := h
  refine ⟨A, cap, hv, fun h0 => ?_⟩
  obtain ⟨g, off, hA, hg, hk⟩ := hc h0
  exact ⟨g, off, hA, Nat.lt_of_lt_of_le hg hb.size, fun k h => (hk k h).below hb⟩
theorem rdPs_nil (w : World) : RdPs w (.slice none 0 0) [] := ⟨none, 0, rfl, fun h => absurd h (by simp)⟩
/-- A part of a list that reads. -/
theorem RdPs.at {w : World} {A : Option Addr} {n cap : Nat} {ps : List Pk} (h : RdPs w (.slice A n cap) ps) (k : Nat) (hk : k < ps.length) : ∃ g off, A = some ⟨g, off, none⟩ ∧ g < w.heap.size ∧ PkAt w g (off + k * 6) ps[k] := by
  obtain ⟨A', ca', hv, ha⟩ := h
  simp only [Value.slice.injEq] at hv
  obtain ⟨rfl, _, rfl⟩ := hv
  obtain ⟨g, off, hA, hg, hc⟩ := ha (by omega)
  exact ⟨g, off, hA, hg, hc k hk⟩
theorem RdPs.len {w : World} {A : Option Addr} {n cap : Nat} {ps : List Pk} (h : RdPs w (.slice A n cap) ps) : n = ps.length := by
  obtain ⟨A', ca', hv, ha⟩ := h
  simp only [Value.slice.injEq] at hv
  exact hv.2.1
theorem RdS.slice {w : World} {v : Value} {ls : List (List UInt8)} (h : RdS w v ls) : ∃ A c, v = .slice A ls.length c := by
  obtain ⟨A, c, rfl, _⟩ := h; exact ⟨A, c, rfl⟩
theorem RdB.slice {w : World} {v : Value} {ls : List Bd} (h : RdB w v ls) : ∃ A c, v = .slice A ls.length c := by
  obtain ⟨A, c, rfl, _⟩ := h; exact ⟨A, c, rfl⟩

theorem cells6 {V : World} {B : Nat} {T : TypeId} {v0 v1 v2 v3 v4 v5 : Value} (h : V.heap[B]? = some (.cells #[v0, v1, v2, v3, v4, v5] T)) :
    V.cell? ⟨B, 0, none⟩ = some v0 ∧ V.cell? ⟨B, 1, none⟩ = some v1 ∧ V.cell? ⟨B, 2, none⟩ = some v2 ∧ V.cell? ⟨B, 3, none⟩ = some v3 ∧ V.cell? ⟨B, 4, none⟩ = some v4 ∧ V.cell? ⟨B, 5, none⟩ = some v5 := by
  simp [World.cell?, h]

/-! Weights. -/
def wB (bs : List Bd) : Nat := bs.length + smB bs
def wL (ls : List (List UInt8)) : Nat := ls.length + smL ls
def wP (p : Pk) : Nat := p.name.length + p.ver.length + p.src.length + wB p.sums + wL p.needs
def szP (left : Int) (p : Pk) : Int := if (wP p : Int) ≤ left then left - (wP p : Int) else -1
/-- How much is in packs. -/
def smP (ps : List Pk) : Nat := (ps.map wP).sum
def szPs (left : Int) (ps : List Pk) : Int := if (ps.length : Int) + (smP ps : Int) ≤ left then left - (ps.length : Int) - (smP ps : Int) else -1
theorem smP_snoc (ps : List Pk) (k : Nat) (h : k < ps.length) : smP (ps.take (k + 1)) = smP (ps.take k) + wP ps[k] := by
  unfold smP; rw [List.take_succ_eq_append_getElem h]; simp only [List.map_append, List.sum_append, List.map_cons, List.map_nil, List.sum_cons, List.sum_nil]; omega
theorem smP_le (ps : List Pk) (k : Nat) : smP (ps.take k) ≤ smP ps := by
  have : smP ps = smP (ps.take k) + smP (ps.drop k) := by unfold smP; rw [← List.sum_append, ← List.map_append, List.take_append_drop]
  omega
theorem smP_mem {ps : List Pk} : ∀ p ∈ ps, wP p ≤ smP ps := by
  induction ps with
  | nil => intro l h; cases h
  | cons a t ih =>
    intro l h
    have e : smP (a :: t) = wP a + smP t := by unfold smP; simp
    rcases List.mem_cons.1 h with rfl | h
    · omega
    · have := ih l h; omega
theorem szPs_yes {left : Int} {ps : List Pk} (h : (ps.length : Int) + (smP ps : Int) ≤ left) : szPs left ps = left - (ps.length : Int) - (smP ps : Int) := if_pos h
theorem szPs_no {left : Int} {ps : List Pk} (h : ¬ (ps.length : Int) + (smP ps : Int) ≤ left) : szPs left ps = -1 := if_neg h
theorem szP_yes {left : Int} {p : Pk} (h : (wP p : Int) ≤ left) : szP left p = left - (wP p : Int) := if_pos h
theorem szP_no {left : Int} {p : Pk} (h : ¬ (wP p : Int) ≤ left) : szP left p = -1 := if_neg h
/-- Every text and list of a pack is as long as a slice may be. -/
def PkFits (p : Pk) : Prop := p.name.length ≤ maxLen ∧ p.ver.length ≤ maxLen ∧ p.src.length ≤ maxLen ∧ p.sums.length ≤ maxLen ∧ (∀ b ∈ p.sums, b.1.length ≤ maxLen ∧ b.2.length ≤ maxLen) ∧ p.needs.length ≤ maxLen ∧ ∀ l ∈ p.needs, l.length ≤ maxLen
/-- A small pack; small packs. -/
def SmPk (p : Pk) : Prop := wP p ≤ 1048576
def SmPs (ps : List Pk) : Prop := ps.length + smP ps ≤ 1048576
theorem SmPs.get {ps : List Pk} (h : SmPs ps) (k : Nat) (hk : k < ps.length) : SmPk ps[k] := by
  have := smP_mem ps[k] (List.getElem_mem hk)
  unfold SmPs at h; unfold SmPk; omega
theorem SmPk.sums {p : Pk} (h : SmPk p) : SmB p.sums := by unfold SmPk wP wB wL at h; unfold SmB; omega
theorem SmPk.needs {p : Pk} (h : SmPk p) : p.needs.length + smL p.needs ≤ 1048576 := by unfold SmPk wP wB wL at h; omega
theorem SmPk.texts {p : Pk} (h : SmPk p) : p.name.length ≤ 1048576 ∧ p.ver.length ≤ 1048576 ∧ p.src.length ≤ 1048576 := by unfold SmPk wP wB wL at h; omega
end Go.Proofs.YtnodhkjgnegkcaaGreatDoor
