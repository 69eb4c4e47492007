/-
  A tree in plain words, and what reads as one in memory.
-/
import Derived.Test.YthlbpklllphhcaaLawS
import Derived.Test.YthlbpklllphhcaaHeapC
namespace Go.Proofs.Ythlbpklllphhcaa
open Go.RowKit

/-- A tree: its kind, its number, its text, its keys, its kids. -/
inductive Tr where
  | mk (kind n : Int) (s : List UInt8) (keys : List (List UInt8)) (kids : List Tr)
def Tr.kind : Tr → Int
  | .mk k _ _ _ _ => k
def Tr.n : Tr → Int
  | .mk _ n _ _ _ => n
def Tr.s : Tr → List UInt8
  | .mk _ _ s _ _ => s
def Tr.keys : Tr → List (List UInt8)
  | .mk _ _ _ k _ => k
def Tr.kids : Tr → List Tr
  | .mk _ _ _ _ k => k
instance : Inhabited Tr := ⟨.mk 0 0 [] [] []⟩
/-- The text and the keys of a node are as long as a slice may be. -/
def NdFits (t : Tr) : Prop := t.s.length ≤ maxLen ∧ t.keys.length ≤ maxLen ∧ ∀ l ∈ t.keys, l.length ≤ maxLen
/-- The value v reads as these trees, which have no more than d levels. -/
def RdTs : Nat → World → Value → List Tr → Prop
  | 0, _, v, ts => ts = [] ∧ ∃ A c, v = .slice A 0 c
  | d + 1, w, v, ts => ∃ A c, v = .slice A ts.length c ∧ ts.length ≤ maxLen ∧ (0 < ts.length → ∃ g off, A = some ⟨g, off, none⟩ ∧ g < w.heap.size ∧ ∀ k (h : k < ts.length), ∃ b kv, w.cell? ⟨g, off + k * 5, none⟩ = some (.int .i64 ts[k].kind) ∧ w.cell? ⟨g, off + k * 5 + 1, none⟩ = some (.int .i64 ts[k].n) ∧ w.cell? ⟨g, off + k * 5 + 2, none⟩ = some (.string ⟨ts[k].s.toArray⟩) ∧ w.cell? ⟨g, off + k * 5 + 3, none⟩ = some b ∧ w.cell? ⟨g, off + k * 5 + 4, none⟩ = some kv ∧ NdFits ts[k] ∧ RdS w b ts[k].keys ∧ RdTs d w kv ts[k].kids)
theorem RdTs.slice {d : Nat} {w : World} {v : Value} {ts : List Tr} (h : RdTs d w v ts) : ∃ A c, v = .slice A ts.length c ∧ ts.length ≤ maxLen := by
  cases d with
  | zero => obtain ⟨rfl, A, c, rfl⟩ := h; exact ⟨A, c, rfl, by simp⟩
  | succ d => obtain ⟨A, c, rfl, hl, _⟩ := h; exact ⟨A, c, rfl, hl⟩
theorem RdTs.below : ∀ {d : Nat} {w w' : World} {v : Value} {ts : List Tr}, RdTs d w v ts → Below w.heap.size w w' → RdTs d w' v ts
  | 0, _, _, _, _, h, _ => h
  | d + 1, w, w', v, ts, h, hb => by
    obtain ⟨A, c, hv, hl, hc⟩ := h
    refine ⟨A, c, hv, hl, fun h0 => ?_⟩
    obtain ⟨g, off, hA, hg, hk⟩ := hc h0
    refine ⟨g, off, hA, Nat.lt_of_lt_of_le hg hb.size, fun k h => ?_⟩
    obtain ⟨b, kv, e0, e1, e2, e3, e4, hf, rb, rk⟩ := hk k h
    exact ⟨b, kv, keepC hb e0, keepC hb e1, keepC hb e2, keepC hb e3, keepC hb e4, hf, rb.below hb, RdTs.below rk hb⟩
theorem RdTs.at {d : Nat} {w : World} {A : Option Addr} {n c : Nat} {ts : List Tr} (h : RdTs d w (.slice A n c) ts) (k : Nat) (hk : k < ts.length) : ∃ e g off b kv, d = e + 1 ∧ A = some ⟨g, off, none⟩ ∧ g < w.heap.size ∧ w.cell? ⟨g, off + k * 5, none⟩ = some (.int .i64 ts[k].kind) ∧ w.cell? ⟨g, off + k * 5 + 1, none⟩ = some (.int .i64 ts[k].n) ∧ w.cell? ⟨g, off + k * 5 + 2, none⟩ = some (.string ⟨ts[k].s.toArray⟩) ∧ w.cell? ⟨g, off + k * 5 + 3, none⟩ = some b ∧ w.cell? ⟨g, off + k * 5 + 4, none⟩ = some kv ∧ NdFits ts[k] ∧ RdS w b ts[k].keys ∧ RdTs e w kv ts[k].kids := by
  cases d with
  | zero => obtain ⟨rfl, _⟩ := h; simp at hk
  | succ d =>
    obtain ⟨A', c', hv, _, ha⟩ := h
    simp only [Value.slice.injEq] at hv
    obtain ⟨rfl, _, rfl⟩ := hv
    obtain ⟨g, off, hA, hg, hc⟩ := ha (by omega)
    obtain ⟨b, kv, r⟩ := hc k hk
    exact ⟨d, g, off, b, kv, rfl, hA, hg, r⟩
/-- How much is in a tree, in trees; d levels of them. -/
def wTs : Nat → List Tr → Nat
  | 0, _ => 0
  | d + 1, ts => (ts.map fun t => t.s.length + (t.keys.length + smL t.keys) + wTs d t.kids).sum + ts.length
def wT (d : Nat) (t : Tr) : Nat := t.s.length + (t.keys.length + smL t.keys) + wTs d t.kids
def szT (left : Int) (x : Nat) : Int := if (x : Int) ≤ left then left - (x : Int) else -1
theorem szT_yes {left : Int} {x : Nat} (h : (x : Int) ≤ left) : szT left x = left - (x : Int) := if_pos h
theorem szT_no {left : Int} {x : Nat} (h : ¬ (x : Int) ≤ left) : szT left x = -1 := if_neg h
/-- The weight of the first k kids. -/
def wTo (d : Nat) (ts : List Tr) (k : Nat) : Nat := ((ts.take k).map fun t => wT d t).sum
theorem wTs_is (d : Nat) (ts : List Tr) : wTs (d + 1) ts = wTo d ts ts.length + ts.length := by unfold wTs wTo wT; rw [List.take_length]
theorem wTo_succ {d : Nat} {ts : List Tr} {k : Nat} (h : k < ts.length) : wTo d ts (k + 1) = wTo d ts k + wT d ts[k] := by
  unfold wTo; rw [List.take_succ_eq_append_getElem h]; simp only [List.map_append, List.sum_append, List.map_cons, List.map_nil, List.sum_cons, List.sum_nil]; omega
theorem wTo_le {d : Nat} {ts : List Tr} (k : Nat) : wTo d ts k ≤ wTo d ts ts.length := by
  unfold wTo
  rw [List.take_length]
  have : (ts.map fun t => wT d t).sum = ((ts.take k).map fun t => wT d t).sum + ((ts.drop k).map fun t => wT d t).sum := by rw [← List.sum_append, ← List.map_append, List.take_append_drop]
  omega
theorem cells5 {V : World} {B : Nat} {T : TypeId} {v0 v1 v2 v3 v4 : Value} (h : V.heap[B]? = some (.cells #[v0, v1, v2, v3, v4] T)) :
    V.cell? ⟨B, 0, none⟩ = some v0 ∧ V.cell? ⟨B, 1, none⟩ = some v1 ∧ V.cell? ⟨B, 2, none⟩ = some v2 ∧ V.cell? ⟨B, 3, none⟩ = some v3 ∧ V.cell? ⟨B, 4, none⟩ = some v4 := by
  simp [World.cell?, h]
end Go.Proofs.Ythlbpklllphhcaa
