/-
  A field and a table in plain words, and what reads as them in memory.
-/
import Derived.Test.YtongpnknmgbhjaaPk
import Derived.Test.YtongpnknmgbhjaaHeapD
namespace Go.Proofs.Ytongpnknmgbhjaa
open Go.RowKit

/-- A field: its key, its text, its list, whether it is a list. -/
structure Fd where
  key : List UInt8
  text : List UInt8
  list : List (List UInt8)
  isl : Bool
instance : Inhabited Fd := ⟨⟨[], [], [], false⟩⟩
/-- A table: its name, its fields. -/
structure Tb where
  name : List UInt8
  fields : List Fd
instance : Inhabited Tb := ⟨⟨[], []⟩⟩
/-- A field as a value, its list given; a table, its fields given. -/
abbrev fdV (f : Fd) (a : Value) : Value := .agg #[.string ⟨f.key.toArray⟩, .string ⟨f.text.toArray⟩, a, .bool f.isl]
abbrev tbV (t : Tb) (a : Value) : Value := .agg #[.string ⟨t.name.toArray⟩, a]

/-- The four cells from o on in block g read as the field f. -/
def FdAt (w : World) (g o : Nat) (f : Fd) : Prop := ∃ a, w.cell? ⟨g, o, none⟩ = some (.string ⟨f.key.toArray⟩) ∧ w.cell? ⟨g, o + 1, none⟩ = some (.string ⟨f.text.toArray⟩) ∧ w.cell? ⟨g, o + 2, none⟩ = some a ∧ w.cell? ⟨g, o + 3, none⟩ = some (.bool f.isl) ∧ RdS w a f.list
/-- The value v reads as the fields fs. -/
def RdFs (w : World) (v : Value) (fs : List Fd) : Prop := ∃ A cap, v = .slice A fs.length cap ∧ (0 < fs.length → ∃ g off, A = some ⟨g, off, none⟩ ∧ g < w.heap.size ∧ ∀ k (h : k < fs.length), FdAt w g (off + k * 4) fs[k])
theorem FdAt.below {w w' : World} {g o : Nat} {f : Fd} (h : FdAt w g o f) (hb : Below w.heap.size w w') : FdAt w' g o f := by
  obtain ⟨a, h0, h1, h2, h3, ra⟩ := h
  exact ⟨a, keepC hb h0, keepC hb h1, keepC hb h2, keepC hb h3, ra.below hb⟩
theorem RdFs.below {w w' : World} {v : Value} {fs : List Fd} (h : RdFs w v fs) (hb : Below w.heap.size w w') : RdFs w' v fs := by
  obtain ⟨A, cap, hv, hc⟩ := h
  refine ⟨A, cap, hv, fun h0 => ?_⟩
  obtain ⟨g, off, hA, hg, hk⟩ := hc h0
  exact ⟨g, off, hA, Nat.lt_of_lt_of_le hg hb.size, fun k h => (hk k h).below hb⟩
theorem rdFs_nil (w : World) : RdFs w (.slice none 0 0) [] := ⟨none, 0, rfl, fun h => absurd h (by simp)⟩
theorem RdFs.at {w : World} {A : Option Addr} {n cap : Nat} {fs : List Fd} (h : RdFs w (.slice A n cap) fs) (k : Nat) (hk : k < fs.length) : ∃ g off, A = some ⟨g, off, none⟩ ∧ g < w.heap.size ∧ FdAt w g (off + k * 4) fs[k] := by
  obtain ⟨A', ca', hv, ha⟩ := h
  simp only [Value.slice.injEq] at hv
  obtain ⟨rfl, _, rfl⟩ := hv
  obtain ⟨g, off, hA, hg, hc⟩ := ha (by omega)
  exact ⟨g, off, hA, hg, hc k hk⟩
theorem RdFs.slice {w : World} {v : Value} {fs : List Fd} (h : RdFs w v fs) : ∃ A c, v = .slice A fs.length c := by
  obtain ⟨A, c, rfl, _⟩ := h; exact ⟨A, c, rfl⟩

/-! Weights. -/
def wF (f : Fd) : Nat := f.key.length + f.text.length + wL f.list
def szF (left : Int) (f : Fd) : Int := if (wF f : Int) ≤ left then left - (wF f : Int) else -1
/-- How much is in fields. -/
def smF (fs : List Fd) : Nat := (fs.map wF).sum
def szFs (left : Int) (fs : List Fd) : Int := if (fs.length : Int) + (smF fs : Int) ≤ left then left - (fs.length : Int) - (smF fs : Int) else -1
theorem smF_snoc (fs : List Fd) (k : Nat) (h : k < fs.length) : smF (fs.take (k + 1)) = smF (fs.take k) + wF fs[k] := by
  unfold smF; rw [List.take_succ_eq_append_getElem h]; simp only [List.map_append, List.sum_append, List.map_cons, List.map_nil, List.sum_cons, List.sum_nil]; omega
theorem smF_le (fs : List Fd) (k : Nat) : smF (fs.take k) ≤ smF fs := by
  have : smF fs = smF (fs.take k) + smF (fs.drop k) := by unfold smF; rw [← List.sum_append, ← List.map_append, List.take_append_drop]
  omega
theorem smF_mem {fs : List Fd} : ∀ f ∈ fs, wF f ≤ smF fs := by
  induction fs with
  | nil => intro l h; cases h
  | cons a t ih =>
    intro l h
    have e : smF (a :: t) = wF a + smF t := by unfold smF; simp
    rcases List.mem_cons.1 h with rfl | h
    · omega
    · have := ih l h; omega
theorem szFs_yes {left : Int} {fs : List Fd} (h : (fs.length : Int) + (smF fs : Int) ≤ left) : szFs left fs = left - (fs.length : Int) - (smF fs : Int) := if_pos h
theorem szFs_no {left : Int} {fs : List Fd} (h : ¬ (fs.length : Int) + (smF fs : Int) ≤ left) : szFs left fs = -1 := if_neg h
theorem szF_yes {left : Int} {f : Fd} (h : (wF f : Int) ≤ left) : szF left f = left - (wF f : Int) := if_pos h
theorem szF_no {left : Int} {f : Fd} (h : ¬ (wF f : Int) ≤ left) : szF left f = -1 := if_neg h
def wTb (t : Tb) : Nat := t.name.length + (t.fields.length + smF t.fields)
def szTb (left : Int) (t : Tb) : Int := if (wTb t : Int) ≤ left then left - (wTb t : Int) else -1
theorem szTb_yes {left : Int} {t : Tb} (h : (wTb t : Int) ≤ left) : szTb left t = left - (wTb t : Int) := if_pos h
theorem szTb_no {left : Int} {t : Tb} (h : ¬ (wTb t : Int) ≤ left) : szTb left t = -1 := if_neg h
/-- Every text and list of a field, of a table is as long as a slice may be. -/
def FdFits (f : Fd) : Prop := f.key.length ≤ maxLen ∧ f.text.length ≤ maxLen ∧ f.list.length ≤ maxLen ∧ ∀ l ∈ f.list, l.length ≤ maxLen
def TbFits (t : Tb) : Prop := t.name.length ≤ maxLen ∧ t.fields.length ≤ maxLen ∧ ∀ f ∈ t.fields, FdFits f
/-- A small field; small fields; a small table. -/
def SmFd (f : Fd) : Prop := wF f ≤ 1048576
def SmFs (fs : List Fd) : Prop := fs.length + smF fs ≤ 1048576
def SmTb (t : Tb) : Prop := wTb t ≤ 1048576
theorem SmFs.get {fs : List Fd} (h : SmFs fs) (k : Nat) (hk : k < fs.length) : SmFd fs[k] := by
  have := smF_mem fs[k] (List.getElem_mem hk)
  unfold SmFs at h; unfold SmFd; omega
theorem SmFd.list {f : Fd} (h : SmFd f) : f.list.length + smL f.list ≤ 1048576 := by unfold SmFd wF wL at h; omega
theorem SmFd.texts {f : Fd} (h : SmFd f) : f.key.length ≤ 1048576 ∧ f.text.length ≤ 1048576 := by unfold SmFd wF wL at h; omega
theorem SmTb.fields {t : Tb} (h : SmTb t) : SmFs t.fields := by unfold SmTb wTb at h; unfold SmFs; omega
theorem SmTb.name {t : Tb} (h : SmTb t) : t.name.length ≤ 1048576 := by unfold SmTb wTb at h; omega
theorem szTb_good {t : Tb} {left : Int} (hl : left ≤ 1048576) (h0 : 0 ≤ left) (h : ¬ szTb left t < 0) : SmTb t ∧ 0 ≤ szTb left t ∧ szTb left t ≤ 1048576 := by
  unfold szTb at h ⊢
  split at h
  · rename_i h'; rw [if_pos h']; unfold SmTb; omega
  · omega
theorem szF_good {f : Fd} {left : Int} (hl : left ≤ 1048576) (h0 : 0 ≤ left) (h : ¬ szF left f < 0) : SmFd f ∧ 0 ≤ szF left f ∧ szF left f ≤ 1048576 := by
  unfold szF at h ⊢
  split at h
  · rename_i h'; rw [if_pos h']; unfold SmFd; omega
  · omega
end Go.Proofs.Ytongpnknmgbhjaa
