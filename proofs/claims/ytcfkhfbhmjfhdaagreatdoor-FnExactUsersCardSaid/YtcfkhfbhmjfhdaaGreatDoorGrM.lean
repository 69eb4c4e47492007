/-
  A graph is right in plain words.
-/
import Derived.Test.YtcfkhfbhmjfhdaaGreatDoorFindM
import Derived.Test.YtcfkhfbhmjfhdaaGreatDoorPkS
namespace Go.Proofs.YtcfkhfbhmjfhdaaGreatDoor

/-- Are the first n all so? -/
def allTo (f : Nat → Bool) : Nat → Bool
  | 0 => true
  | n + 1 => allTo f n && f n
theorem allTo_bad {f : Nat → Bool} {k : Nat} : ∀ {n : Nat}, k < n → f k = false → allTo f n = false
  | 0, h, _ => by omega
  | n + 1, h, hb => by
    unfold allTo
    by_cases e : k = n
    · subst e; rw [hb, Bool.and_false]
    · rw [allTo_bad (n := n) (by omega) hb, Bool.false_and]
theorem allTo_step {f : Nat → Bool} {k : Nat} (h : allTo f k = true) (hb : f k = true) : allTo f (k + 1) = true := by unfold allTo; rw [h, hb]; rfl
theorem allTo_get {f : Nat → Bool} : ∀ {n : Nat}, allTo f n = true → ∀ k, k < n → f k = true
  | 0, _, k, h => by omega
  | n + 1, h, k, hk => by
    unfold allTo at h
    simp only [Bool.and_eq_true] at h
    by_cases e : k = n
    · subst e; exact h.2
    · exact allTo_get h.1 k (by omega)
theorem allTo_and (f g : Nat → Bool) : ∀ n, allTo (fun k => f k && g k) n = (allTo f n && allTo g n)
  | 0 => rfl
  | n + 1 => by
    unfold allTo
    rw [allTo_and f g n]
    cases allTo f n <;> cases allTo g n <;> cases f n <;> cases g n <;> rfl
theorem allTo_congr {f g : Nat → Bool} : ∀ {n : Nat}, (∀ k, k < n → f k = g k) → allTo f n = allTo g n
  | 0, _ => rfl
  | n + 1, h => by unfold allTo; rw [allTo_congr (n := n) (fun k hk => h k (by omega)), h n (by omega)]
theorem ls_at {ls : List (List UInt8)} {k : Nat} (h : k < ls.length) : ls.getD k [] = ls[k] := by rw [List.getD_eq_getElem?_getD, List.getElem?_eq_getElem h]; rfl
theorem ps_at {ps : List Pk} {k : Nat} (h : k < ps.length) : ps.getD k default = ps[k] := by rw [List.getD_eq_getElem?_getD, List.getElem?_eq_getElem h]; rfl

/-- Is the k-th text a key of one of these, and behind the one ahead of it? -/
def keyAtB (ps : List Pk) (ls : List (List UInt8)) (k : Nat) : Bool := decide (0 ≤ findP ps (ls.getD k [])) && (decide (k = 0) || Op.bytesLess (ls.getD (k - 1) []) (ls.getD k []))
/-- Are texts ascending, and each one of a graph's keys? -/
def keysOkL (ps : List Pk) (ls : List (List UInt8)) : Bool := allTo (keyAtB ps ls) ls.length
theorem keyAtB_zero {ps : List Pk} {ls : List (List UInt8)} (h : 0 < ls.length) : keyAtB ps ls 0 = decide (0 ≤ findP ps ls[0]) := by unfold keyAtB; rw [ls_at h]; simp
theorem keyAtB_more {ps : List Pk} {ls : List (List UInt8)} {k : Nat} (h : k + 1 < ls.length) : keyAtB ps ls (k + 1) = (decide (0 ≤ findP ps ls[k + 1]) && Op.bytesLess (ls[k]'(by omega)) ls[k + 1]) := by
  unfold keyAtB; rw [ls_at h, show k + 1 - 1 = k by omega, ls_at (by omega : k < ls.length)]; simp
theorem findP_ge (ps : List Pk) (key : List UInt8) : -1 ≤ findP ps key := by unfold findP; split <;> omega
theorem findP_lt (ps : List Pk) (key : List UInt8) : findP ps key < ps.length := by
  unfold findP
  split
  · rename_i i h
    have := (List.findIdx?_eq_some_iff_getElem.1 h).1
    omega
  · omega
theorem findP_mem (ps : List Pk) (key : List UInt8) : 0 ≤ findP ps key ↔ key ∈ ps.map keyOf := by
  unfold findP
  split
  · rename_i i h
    obtain ⟨hi, he, _⟩ := List.findIdx?_eq_some_iff_getElem.1 h
    constructor
    · intro _; rw [List.mem_map]; exact ⟨ps[i], List.getElem_mem hi, by simpa using he⟩
    · intro _; omega
  · rename_i h
    rw [List.findIdx?_eq_none_iff] at h
    constructor
    · intro h0; omega
    · intro hm
      obtain ⟨p, hp, he⟩ := List.mem_map.1 hm
      have := h p hp
      rw [he] at this; simp at this
/-- Is the k-th pack's key behind the one ahead of it? -/
def upAt (ps : List Pk) (k : Nat) : Bool := decide (k = 0) || Op.bytesLess (keyOf (ps.getD (k - 1) default)) (keyOf (ps.getD k default))
/-- Is the k-th pack right? -/
def pkAtB (ps : List Pk) (k : Nat) : Bool := pkOk (ps.getD k default) && upAt ps k
def ndAt (ps : List Pk) (k : Nat) : Bool := keysOkL ps (ps.getD k default).needs
/-- Is a graph right? -/
def grOk (ts : List (List UInt8)) (ps : List Pk) : Bool := allTo (fun k => pkAtB ps k && ndAt ps k) ps.length && (decide (ps.length ≤ 40) && keysOkL ps ts)
theorem grOk_parts (ts : List (List UInt8)) (ps : List Pk) : grOk ts ps = (decide (ps.length ≤ 40) && (allTo (pkAtB ps) ps.length && (allTo (ndAt ps) ps.length && keysOkL ps ts))) := by
  unfold grOk
  rw [allTo_and]
  cases allTo (pkAtB ps) ps.length <;> cases allTo (ndAt ps) ps.length <;> cases decide (ps.length ≤ 40) <;> simp
theorem upAt_zero (ps : List Pk) : upAt ps 0 = true := rfl
theorem upAt_more {ps : List Pk} {k : Nat} (h : k + 1 < ps.length) : upAt ps (k + 1) = Op.bytesLess (keyOf (ps[k]'(by omega))) (keyOf ps[k + 1]) := by
  unfold upAt; rw [ps_at h, show k + 1 - 1 = k by omega, ps_at (by omega : k < ps.length)]; simp
end Go.Proofs.YtcfkhfbhmjfhdaaGreatDoor
