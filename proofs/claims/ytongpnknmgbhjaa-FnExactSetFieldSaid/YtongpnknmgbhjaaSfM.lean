/-
  A table's fields with one set, in plain words.
-/
import Derived.Test.YtongpnknmgbhjaaFdN
import Derived.Test.YtongpnknmgbhjaaFdI
namespace Go.Proofs.Ytongpnknmgbhjaa
open Go.RowKit

/-- The place of the first field with a key, or the number of fields. -/
def atF (fs : List Fd) (key : List UInt8) : Nat := (fs.findIdx? (fun f => f.key == key)).getD fs.length
/-- The fields with f in the place of the first of its key, or behind. -/
def setF (fs : List Fd) (f : Fd) : List Fd := if atF fs f.key < fs.length then fs.set (atF fs f.key) f else fs ++ [f]
theorem atF_le (fs : List Fd) (key : List UInt8) : atF fs key ≤ fs.length := by
  unfold atF
  cases h : fs.findIdx? (fun f => f.key == key) with
  | none => simp
  | some k => obtain ⟨hk, _⟩ := List.findIdx?_eq_some_iff_getElem.1 h; simp; omega
theorem atF_hit {fs : List Fd} {key : List UInt8} (h : atF fs key < fs.length) : fs[atF fs key].key = key := by
  revert h
  unfold atF
  cases h : fs.findIdx? (fun f => f.key == key) with
  | none => intro h1; simp at h1
  | some k => intro _; obtain ⟨hk, he, _⟩ := List.findIdx?_eq_some_iff_getElem.1 h; simpa using he
theorem atF_before {fs : List Fd} {key : List UInt8} (k : Nat) (hk : k < atF fs key) (hl : k < fs.length) : fs[k].key ≠ key := by
  revert hk
  unfold atF
  cases h : fs.findIdx? (fun f => f.key == key) with
  | none => intro _; have := List.findIdx?_eq_none_iff.1 h fs[k] (List.getElem_mem hl); simpa using this
  | some i => intro hi; obtain ⟨hk, _, hb⟩ := List.findIdx?_eq_some_iff_getElem.1 h; have := hb k (by simpa using hi); simpa using this
theorem setF_len (fs : List Fd) (f : Fd) : (setF fs f).length = if atF fs f.key < fs.length then fs.length else fs.length + 1 := by
  unfold setF; split <;> simp
/-- What lies at k of the fields with one set. -/
def yF (fs : List Fd) (f : Fd) (k : Nat) : Fd := if k = atF fs f.key then f else fs.getD k default
theorem setF_take {fs : List Fd} {f : Fd} {k : Nat} (h : k < fs.length) : (setF fs f).take (k + 1) = (setF fs f).take k ++ [yF fs f k] := by
  have hl : k < (setF fs f).length := by rw [setF_len]; split <;> omega
  rw [List.take_succ_eq_append_getElem hl]
  congr 2
  unfold yF
  unfold setF
  split
  · rename_i h1
    rw [List.getElem_set]
    by_cases e : atF fs f.key = k
    · rw [if_pos e, if_pos e.symm]
    · rw [if_neg e, if_neg (Ne.symm e), List.getD_eq_getElem?_getD, List.getElem?_eq_getElem h]; rfl
  · rename_i h1
    rw [List.getElem_append_left h, if_neg (by omega), List.getD_eq_getElem?_getD, List.getElem?_eq_getElem h]; rfl
theorem setF_all {fs : List Fd} {f : Fd} (h : atF fs f.key < fs.length) : (setF fs f).take fs.length = setF fs f := by
  rw [List.take_of_length_le]; rw [setF_len, if_pos h]; exact Nat.le_refl _
theorem setF_last {fs : List Fd} {f : Fd} (h : ¬ atF fs f.key < fs.length) : (setF fs f).take fs.length ++ [f] = setF fs f := by
  unfold setF; rw [if_neg h]; simp
theorem yF_hit {fs : List Fd} {f : Fd} {k : Nat} (h : k = atF fs f.key) : yF fs f k = f := by unfold yF; rw [if_pos h]
theorem yF_miss {fs : List Fd} {f : Fd} {k : Nat} (hk : k < fs.length) (h : k ≠ atF fs f.key) : yF fs f k = fs[k] := by
  unfold yF; rw [if_neg h, List.getD_eq_getElem?_getD, List.getElem?_eq_getElem hk]; rfl
theorem FsRow.lt {w : World} {base : Nat} {v : Value} {fs : List Fd} (h : FsRow w base v fs) : ∀ g, v.ownBlock = some g → g < w.heap.size := by
  intro g hg
  obtain ⟨qs, _, h2, _⟩ := h
  rcases h2.form with ⟨rfl, rfl⟩ | ⟨g', cap, rfl, _, hl⟩
  · cases hg
  · cases hg; exact hl
end Go.Proofs.Ytongpnknmgbhjaa
