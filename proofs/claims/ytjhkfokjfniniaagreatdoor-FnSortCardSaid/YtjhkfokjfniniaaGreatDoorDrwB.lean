/-
  The draws' cursor: a struct of three fields behind a pointer; a byte drawn from it lies in 0..255.
-/
import Derived.Test.YtjhkfokjfniniaaGreatDoorGrw
import Derived.Test.YtjhkfokjfniniaaGreatDoorHeap
namespace Go.Proofs.YtjhkfokjfniniaaGreatDoor
open Go.RowKit

theorem and_le (y : Int) (m : Nat) (hm : m < 4611686018427387904) : 0 ≤ bits .and .i64 y (m : Int) ∧ bits .and .i64 y (m : Int) ≤ (m : Int) := by
  have hm' : m % 2 ^ IntKind.i64.bits = m := Nat.mod_eq_of_lt (by simp [IntKind.bits]; omega)
  simp only [bits, BitVec.ofInt_natCast, BitVec.toNat_and, BitVec.toNat_ofNat, hm']
  have h : (BitVec.ofInt IntKind.i64.bits y).toNat &&& m ≤ m := Nat.and_le_right
  obtain ⟨n, hn⟩ : ∃ n, (BitVec.ofInt IntKind.i64.bits y).toNat &&& m = n := ⟨_, rfl⟩
  rw [hn] at h ⊢
  rw [show IntKind.i64.wrap ((n : Nat) : Int) = (n : Int) from IntWalk.i64_in n (by omega)]
  omega

theorem and255 (y : Int) : ∃ x : Nat, bits .and .i64 y 255 = (x : Int) ∧ x ≤ 255 := by
  have h : 0 ≤ bits .and .i64 y 255 ∧ bits .and .i64 y 255 ≤ 255 := and_le y 255 (by omega)
  exact ⟨(bits .and .i64 y 255).toNat, by omega, by omega⟩
/-- The value reads as so many bytes, which lie below N. -/
def RdBy (w : World) (N : Nat) (A : Option Addr) (n : Nat) : Prop := 0 < n → ∃ g off, A = some ⟨g, off, none⟩ ∧ g < N ∧ g < w.heap.size ∧ ∀ k, k < n → ∃ b : UInt8, w.cell? ⟨g, off + k, none⟩ = some (.int .u8 (b.toNat : Int))
/-- The block p, no lower than N, holds a cursor over bytes below N. -/
def CurAt (w : World) (N p : Nat) : Prop := N ≤ p ∧ ∃ (bA : Option Addr) (bl bc i : Nat) (h : Int), w.heap[p]? = some (.cells #[.slice bA bl bc, .int .i64 (i : Int), .int .i64 h] 58) ∧ i ≤ bl ∧ bl ≤ 1048576 ∧ RdBy w N bA bl
theorem RdBy.grown {w w' : World} {N n : Nat} {A : Option Addr} {row : Option Nat} (h : RdBy w N A n) (hg : w.grownBy w' row) (hr : ∀ r, row = some r → N ≤ r) : RdBy w' N A n := fun hn => by
  obtain ⟨g, off, hA, hne, hgl, hk⟩ := h hn
  refine ⟨g, off, hA, hne, Nat.lt_of_lt_of_le hgl hg.size, fun k hkn => ?_⟩
  obtain ⟨b, hb⟩ := hk k hkn
  refine ⟨b, ?_⟩
  have e := hg.block g hgl (fun e => by have := hr g e.symm; omega)
  simp only [World.cell?, e] at hb ⊢
  exact hb
theorem CurAt.grown {w w' : World} {N p : Nat} {row : Option Nat} (h : CurAt w N p) (hg : w.grownBy w' row) (hr : ∀ r, row = some r → N ≤ r ∧ r ≠ p) : CurAt w' N p := by
  obtain ⟨h0, bA, bl, bc, i, hh, hc, h1, h2, h3⟩ := h
  exact ⟨h0, bA, bl, bc, i, hh, gr_heap hg hc (fun e => (hr p e.symm).2 rfl), h1, h2, h3.grown hg (fun r e => (hr r e).1)⟩
theorem CurAt.below {w w' : World} {N p : Nat} (h : CurAt w N p) (hb : Below w.heap.size w w') : CurAt w' N p := h.grown (gr_below (row := none) hb) (fun r e => by cases e)
theorem CurAt.lt {w : World} {N p : Nat} (h : CurAt w N p) : p < w.heap.size := by
  obtain ⟨_, _, _, _, _, _, hc, _⟩ := h
  exact lt_of_heap hc
/-- What grows a row of the call's own grows, from where the call began, the cursor alone. -/
theorem gr_own {w W V : World} {p : Nat} {row : Option Nat} (h : w.grownBy W (some p)) (hg : W.grownBy V row) (hr : ∀ g, row = some g → w.heap.size ≤ g) : w.grownBy V (some p) :=
  ⟨hg.os.trans h.os, hg.tape.trans h.tape, hg.output.trans h.output, Nat.le_trans h.size hg.size, fun k hk hn => (hg.block k (Nat.lt_of_lt_of_le hk h.size) (fun e => by have := hr k e.symm; omega)).trans (h.block k hk hn)⟩
theorem cells3 {V : World} {B : Nat} {T : TypeId} {v0 v1 v2 : Value} (h : V.heap[B]? = some (.cells #[v0, v1, v2] T)) :
    V.cell? ⟨B, 0, none⟩ = some v0 ∧ V.cell? ⟨B, 1, none⟩ = some v1 ∧ V.cell? ⟨B, 2, none⟩ = some v2 ∧ ∀ j, V.frozen? ⟨B, j, none⟩ = false := by
  refine ⟨by simp [World.cell?, h], by simp [World.cell?, h], by simp [World.cell?, h], fun j => ?_⟩
  simp [World.frozen?, h]
theorem heap3_set1 {V : World} {B : Nat} {T : TypeId} {v0 v1 v2 : Value} (h : V.heap[B]? = some (.cells #[v0, v1, v2] T)) (x : Value) : (V.setCell ⟨B, 1, none⟩ x).heap[B]? = some (.cells #[v0, x, v2] T) := by
  rw [heap_setCell_same V B 1 #[v0, v1, v2] T x h]; rfl
theorem heap3_set2 {V : World} {B : Nat} {T : TypeId} {v0 v1 v2 : Value} (h : V.heap[B]? = some (.cells #[v0, v1, v2] T)) (x : Value) : (V.setCell ⟨B, 2, none⟩ x).heap[B]? = some (.cells #[v0, v1, x] T) := by
  rw [heap_setCell_same V B 2 #[v0, v1, v2] T x h]; rfl

set_option maxRecDepth 100000 in
set_option maxHeartbeats 2000000 in
theorem l01Byte_any (p : Nat) (w : World) (N : Nat) (h : CurAt w N p) :
    Calls Tryz.prog 55 #[.pointer (some ⟨p, 0, none⟩)] w fun e w' => ∃ x : Nat, e = .returned (.int .i64 (x : Int)) ∧ x ≤ 255 ∧ CurAt w' N p ∧ w.grownBy w' (some p) := by
  obtain ⟨hNp, bA, bl, bc, i, hh, hc, i1, hbl, hrd⟩ := h
  obtain ⟨c0, c1, c2, hf⟩ := cells3 hc
  have f2 := hf 2
  go_enter Tryz.func55, Tryz.ntmps55
  go_wp2_with fail
  generalize wrap64 (hh * 6364136223846793005) = X0
  generalize wrap64 (X0 + 1442695040888963407) = X
  have hc1 := heap3_set2 hc (.int .i64 X)
  have hg1 := gr_set w p 2 (.int .i64 X)
  have hrd1 := hrd.grown hg1 (fun r e => by cases e; exact hNp)
  obtain ⟨W1, hW1⟩ : ∃ W1, w.setCell ⟨p, 2, none⟩ (.int .i64 X) = W1 := ⟨_, rfl⟩
  rw [hW1] at hc1 hg1 hrd1 ⊢
  obtain ⟨d0, d1, d2, df⟩ := cells3 hc1
  clear c0 c1 c2 hf f2 hW1 hrd hc
  go_quiet (fail)
  generalize bits .xor .i64 (X / 8589934592) (X / 35184372088832) = Y
  obtain ⟨x0, hx0, hx1⟩ := and255 Y
  rw [hx0]
  have hc2 : (W1.drewN nq).heap[p]? = _ := hc1
  have hg2 := gr_trans hg1 (gr_below (row := some p) (below_drewN W1.heap.size W1 nq))
  have hrd2 := hrd1.grown (gr_below (row := none) (below_drewN W1.heap.size W1 nq)) (fun r e => by cases e)
  generalize W1.drewN nq = W2 at hc2 hg2 hrd2 ⊢
  obtain ⟨d0, d1, d2, df⟩ := cells3 hc2
  clear hc1 hg1 hrd1
  by_cases hi : i < bl
  · have q1 : (i : Int) < (bl : Int) := by omega
    obtain ⟨g, off, rfl, hgN, hgl, hk⟩ := hrd2 (by omega)
    obtain ⟨b, e1⟩ := hk i hi
    have hb8 := b.toNat_lt
    go_wp2_with fail
    go_quiet (fail)
    have hc3 : (W2.drewN nq).heap[p]? = _ := hc2
    have e3 : (W2.drewN nq).cell? ⟨g, off + i, none⟩ = some (.int .u8 (b.toNat : Int)) := e1
    have hg3 := gr_trans hg2 (gr_below (row := some p) (below_drewN W2.heap.size W2 nq))
    have hrd3 := hrd2.grown (gr_below (row := none) (below_drewN W2.heap.size W2 nq)) (fun r e => by cases e)
    generalize W2.drewN nq = W3 at hc3 hg3 hrd3 e3 ⊢
    obtain ⟨d0, d1, d2, df⟩ := cells3 hc3
    clear hc2 hg2 hrd2 e1 hk
    go_wp2_with fail
    go_quiet (fail)
    obtain ⟨x1, hy0, hy1⟩ := and255 ((x0 : Int) + (b.toNat : Int))
    rw [hy0]
    have hc4 : (W3.drewN nq).heap[p]? = _ := hc3
    have hg4 := gr_trans hg3 (gr_below (row := some p) (below_drewN W3.heap.size W3 nq))
    have hrd4 := hrd3.grown (gr_below (row := none) (below_drewN W3.heap.size W3 nq)) (fun r e => by cases e)
    generalize W3.drewN nq = W4 at hc4 hg4 hrd4 ⊢
    obtain ⟨d0, d1, d2, df⟩ := cells3 hc4
    have df1 := df 1
    have hc5 := heap3_set1 hc4 (.int .i64 ((i + 1 : Nat) : Int))
    have hg5 := gr_set W4 p 1 (.int .i64 ((i + 1 : Nat) : Int))
    have hrd5 := hrd4.grown hg5 (fun r e => by cases e; exact hNp)
    have hg6 := gr_trans hg4 hg5
    clear hc3 hg3 hrd3 e3
    go_wp2_with fail
    go_ret
    exact ⟨x1, rfl, hy1, ⟨hNp, _, _, _, _, _, hc5, by omega, hbl, hrd5⟩, hg6⟩
  · have q1 : ¬ (i : Int) < (bl : Int) := by omega
    go_wp2_with fail
    go_quiet (fail)
    have hc3 : (W2.drewN nq).heap[p]? = _ := hc2
    have hg3 := gr_trans hg2 (gr_below (row := some p) (below_drewN W2.heap.size W2 nq))
    have hrd3 := hrd2.grown (gr_below (row := none) (below_drewN W2.heap.size W2 nq)) (fun r e => by cases e)
    generalize W2.drewN nq = W3 at hc3 hg3 hrd3 ⊢
    go_wp2_with fail
    go_ret
    exact ⟨x0, rfl, hx1, ⟨hNp, _, _, _, _, _, hc3, i1, hbl, hrd3⟩, hg3⟩

theorem emod_nat (x n : Int) (h : 0 < n) : ∃ y : Nat, x % n = (y : Int) ∧ (y : Int) < n := by
  have h1 := Int.emod_nonneg x (show n ≠ 0 by omega)
  have h2 := Int.emod_lt_of_pos x h
  exact ⟨(x % n).toNat, by omega, by omega⟩

set_option maxRecDepth 100000 in
set_option maxHeartbeats 2000000 in
theorem l01Below_any (p : Nat) (n : Int) (w : World) (N : Nat) (h : CurAt w N p) (hn : n ≤ 2147483648) :
    Calls Tryz.prog 32 #[.pointer (some ⟨p, 0, none⟩), .int .i64 n] w fun e w' => ∃ x : Nat, e = .returned (.int .i64 (x : Int)) ∧ (0 < n → (x : Int) < n) ∧ (n ≤ 0 → x = 0) ∧ CurAt w' N p ∧ w.grownBy w' (some p) := by
  by_cases h0 : n ≤ 0
  · go_enter Tryz.func32, Tryz.ntmps32
    go_wp2_with fail
    go_ret
    exact ⟨0, rfl, fun h => by omega, fun _ => rfl, h, World.grownBy.refl w _⟩
  have HQ := Lib.hid (fun (W : World) (hC : CurAt W N p) => l01Byte_any p W N hC)
  have n0 : n ≠ 0 := by omega
  by_cases h2 : n ≤ 256
  · go_enter Tryz.func32, Tryz.ntmps32
    go_wp2_with fail
    refine (HQ.out _ h).mono ?_
    rintro e w1 ⟨x, rfl, hx, hC, hg⟩
    clear h
    go_wp2_with fail
    obtain ⟨y, hy, hyn⟩ := emod_nat (x : Int) n (by omega)
    rw [hy]
    go_ret
    exact ⟨y, rfl, fun _ => hyn, fun h => by omega, hC, hg⟩
  · go_enter Tryz.func32, Tryz.ntmps32
    go_wp2_with fail
    refine (HQ.out _ h).mono ?_
    rintro e w1 ⟨x, rfl, hx, hC, hg⟩
    clear h
    go_wp2_with fail
    refine (HQ.out _ hC).mono ?_
    rintro e w2 ⟨y, rfl, hy, hC2, hg2⟩
    have g2 := gr_trans hg hg2
    clear hC hg hg2
    go_wp2_with fail
    refine (HQ.out _ hC2).mono ?_
    rintro e w3 ⟨z, rfl, hz, hC3, hg3⟩
    have g3 := gr_trans g2 hg3
    clear hC2 g2 hg3
    go_wp2_with fail
    refine (HQ.out _ hC3).mono ?_
    rintro e w4 ⟨u, rfl, hu, hC4, hg4⟩
    have g4 := gr_trans g3 hg4
    clear hC3 g3 hg4
    go_wp2_with fail
    obtain ⟨r, hr, hrn⟩ := emod_nat ((x : Int) * 16777216 + (y : Int) * 65536 + (z : Int) * 256 + (u : Int)) n (by omega)
    rw [hr]
    go_ret
    exact ⟨r, rfl, fun _ => hrn, fun h => by omega, hC4, g4⟩

set_option maxRecDepth 100000 in
set_option maxHeartbeats 2000000 in
theorem l01Once_any (p : Nat) (n : Int) (w : World) (N : Nat) (h : CurAt w N p) (hn : n ≤ 2147483648) :
    Calls Tryz.prog 80 #[.pointer (some ⟨p, 0, none⟩), .int .i64 n] w fun e w' => ∃ b : Bool, e = .returned (.bool b) ∧ CurAt w' N p ∧ w.grownBy w' (some p) := by
  have HQ := Lib.hid (l01Below_any p n w N h hn)
  clear h
  go_enter Tryz.func80, Tryz.ntmps80
  go_wp2_with fail
  refine HQ.out.mono ?_
  rintro e w1 ⟨x, rfl, _, _, hC, hg⟩
  go_wp2_with fail
  go_ret
  exact ⟨_, rfl, hC, hg⟩

/-- One of a list of texts is drawn. -/
theorem l01Pick_any (p : Nat) (v : Value) (ls : List (List UInt8)) (w : World) (N : Nat) (h : CurAt w N p) (hr : RdS w v ls) (hne : 0 < ls.length) (hl : ls.length ≤ 256) (hp : ∀ A c, v = .slice A ls.length c → ∀ a, A = some a → a.block ≠ p) :
    Calls Tryz.prog 56 #[.pointer (some ⟨p, 0, none⟩), v] w fun e w' => ∃ x, e = .returned (.string ⟨x.toArray⟩) ∧ x ∈ ls ∧ CurAt w' N p ∧ w.grownBy w' (some p) := by
  have HQ := Lib.hid (l01Below_any p (ls.length : Int) w N h (by omega))
  obtain ⟨A, ca, rfl, ha⟩ := hr
  obtain ⟨g, off, rfl, hgl, hca⟩ := ha hne
  have hgp : g ≠ p := hp _ _ rfl _ rfl
  clear h hp ha
  go_enter Tryz.func56, Tryz.ntmps56
  go_wp2_with fail
  refine HQ.out.mono ?_
  rintro e w1 ⟨x, rfl, hx, _, hC, hg⟩
  have hxl : x < ls.length := by have := hx (by omega); omega
  have d1 : w1.cell? ⟨g, off + x, none⟩ = some (.string ⟨ls[x].toArray⟩) := by
    have e := hg.block g hgl (fun e => hgp (by cases e; rfl))
    have := hca x hxl
    simp only [World.cell?, e] at this ⊢
    exact this
  have k0 : (0 : Int) ≤ (x : Int) := by omega
  have k1 : (x : Int) < (ls.length : Int) := by omega
  clear hca hx
  go_wp2_with fail
  go_ret
  exact ⟨ls[x], rfl, List.getElem_mem hxl, hC, hg⟩
end Go.Proofs.YtjhkfokjfniniaaGreatDoor
