/-
  The laws' own markFieldS and heldFieldS over a row of fields whose lists lie apart: what is marked is read again.
-/
import Derived.Test.YtongpnknmgbhjaaFdD
import Derived.Test.YtongpnknmgbhjaaMkN
import Derived.Test.YtongpnknmgbhjaaMkF
namespace Go.Proofs.Ytongpnknmgbhjaa
open Go.RowKit

/-- The first n fields of block G are the x's, with the values of their lists. -/
def CellsF (w : World) (G n : Nat) (x : Nat → FdV) : Prop := ∃ cur, w.heap[G]? = some (.cells cur 35) ∧ ∀ j, j < n → cur[j * 4]? = some (.string ⟨(x j).1.key.toArray⟩) ∧ cur[j * 4 + 1]? = some (.string ⟨(x j).1.text.toArray⟩) ∧ cur[j * 4 + 2]? = some (x j).2 ∧ cur[j * 4 + 3]? = some (.bool (x j).1.isl)
theorem CellsF.below {w w' : World} {G n : Nat} {x : Nat → FdV} (h : CellsF w G n x) (hb : Below w.heap.size w w') : CellsF w' G n x := by
  obtain ⟨cur, hc, hp⟩ := h
  exact ⟨cur, keepB hc hb, hp⟩
theorem CellsF.grown {w w' : World} {G n : Nat} {x : Nat → FdV} {row : Option Nat} (h : CellsF w G n x) (hg : w.grownBy w' row) (hne : some G ≠ row) : CellsF w' G n x := by
  obtain ⟨cur, hc, hp⟩ := h
  exact ⟨cur, gr_heap hg hc hne, hp⟩
theorem CellsF.cell {w : World} {G n : Nat} {x : Nat → FdV} (h : CellsF w G n x) (j : Nat) (hj : j < n) : (w.cell? ⟨G, j * 4, none⟩ = some (.string ⟨(x j).1.key.toArray⟩) ∧ w.cell? ⟨G, j * 4 + 1, none⟩ = some (.string ⟨(x j).1.text.toArray⟩) ∧ w.cell? ⟨G, j * 4 + 2, none⟩ = some (x j).2 ∧ w.cell? ⟨G, j * 4 + 3, none⟩ = some (.bool (x j).1.isl)) ∧ (∀ o, w.frozen? ⟨G, o, none⟩ = false) ∧ G < w.heap.size := by
  obtain ⟨cur, hc, hp⟩ := h
  obtain ⟨e0, e1, e2, e3⟩ := hp j hj
  exact ⟨⟨(cellOf hc e0).1, (cellOf hc e1).1, (cellOf hc e2).1, (cellOf hc e3).1⟩, fun o => by simp [World.frozen?, hc], lt_of_heap hc⟩
theorem CellsF.congr {w : World} {G n : Nat} {x y : Nat → FdV} (h : CellsF w G n x) (e : ∀ j, j < n → x j = y j) : CellsF w G n y := by
  obtain ⟨cur, hc, hp⟩ := h
  exact ⟨cur, hc, fun j hj => by rw [← e j hj]; exact hp j hj⟩
theorem CellsF.congr4 {w : World} {G n : Nat} {x y : Nat → FdV} (h : CellsF w G n x) (e : ∀ j, j < n → (x j).1.key = (y j).1.key ∧ (x j).1.text = (y j).1.text ∧ (x j).2 = (y j).2 ∧ (x j).1.isl = (y j).1.isl) : CellsF w G n y := by
  obtain ⟨cur, hc, hp⟩ := h
  exact ⟨cur, hc, fun j hj => by obtain ⟨a, b, c, d⟩ := e j hj; rw [← a, ← b, ← c, ← d]; exact hp j hj⟩
theorem CellsF.setKey {w : World} {G n : Nat} {x : Nat → FdV} (h : CellsF w G n x) (k : Nat) (hk : k < n) (y : List UInt8) :
    CellsF (w.setCell ⟨G, k * 4, none⟩ (.string ⟨y.toArray⟩)) G n (fun j => if j = k then ({ (x k).1 with key := y }, (x k).2) else x j) := by
  obtain ⟨cur, hc, hp⟩ := h
  have hlt : k * 4 < cur.size := by obtain ⟨e0, e1, e2, e3⟩ := hp k hk; exact (Array.getElem?_eq_some_iff.1 e0).1
  refine ⟨cur.setIfInBounds (k * 4) (.string ⟨y.toArray⟩), heap_setN hc _, fun j hj => ?_⟩
  obtain ⟨e0, e1, e2, e3⟩ := hp j hj
  by_cases hjk : j = k
  · subst hjk
    dsimp only
    rw [if_pos rfl]
    refine ⟨?_, ?_, ?_, ?_⟩
    · rw [Array.getElem?_setIfInBounds_self_of_lt hlt]
    · rw [Array.getElem?_setIfInBounds_ne (by omega)]; exact e1
    · rw [Array.getElem?_setIfInBounds_ne (by omega)]; exact e2
    · rw [Array.getElem?_setIfInBounds_ne (by omega)]; exact e3
  · dsimp only
    rw [if_neg hjk]
    refine ⟨?_, ?_, ?_, ?_⟩
    · rw [Array.getElem?_setIfInBounds_ne (by omega)]; exact e0
    · rw [Array.getElem?_setIfInBounds_ne (by omega)]; exact e1
    · rw [Array.getElem?_setIfInBounds_ne (by omega)]; exact e2
    · rw [Array.getElem?_setIfInBounds_ne (by omega)]; exact e3
theorem CellsF.setText {w : World} {G n : Nat} {x : Nat → FdV} (h : CellsF w G n x) (k : Nat) (hk : k < n) (y : List UInt8) :
    CellsF (w.setCell ⟨G, k * 4 + 1, none⟩ (.string ⟨y.toArray⟩)) G n (fun j => if j = k then ({ (x k).1 with text := y }, (x k).2) else x j) := by
  obtain ⟨cur, hc, hp⟩ := h
  have hlt : k * 4 + 1 < cur.size := by obtain ⟨e0, e1, e2, e3⟩ := hp k hk; exact (Array.getElem?_eq_some_iff.1 e1).1
  refine ⟨cur.setIfInBounds (k * 4 + 1) (.string ⟨y.toArray⟩), heap_setN hc _, fun j hj => ?_⟩
  obtain ⟨e0, e1, e2, e3⟩ := hp j hj
  by_cases hjk : j = k
  · subst hjk
    dsimp only
    rw [if_pos rfl]
    refine ⟨?_, ?_, ?_, ?_⟩
    · rw [Array.getElem?_setIfInBounds_ne (by omega)]; exact e0
    · rw [Array.getElem?_setIfInBounds_self_of_lt hlt]
    · rw [Array.getElem?_setIfInBounds_ne (by omega)]; exact e2
    · rw [Array.getElem?_setIfInBounds_ne (by omega)]; exact e3
  · dsimp only
    rw [if_neg hjk]
    refine ⟨?_, ?_, ?_, ?_⟩
    · rw [Array.getElem?_setIfInBounds_ne (by omega)]; exact e0
    · rw [Array.getElem?_setIfInBounds_ne (by omega)]; exact e1
    · rw [Array.getElem?_setIfInBounds_ne (by omega)]; exact e2
    · rw [Array.getElem?_setIfInBounds_ne (by omega)]; exact e3
theorem CellsF.setIsl {w : World} {G n : Nat} {x : Nat → FdV} (h : CellsF w G n x) (k : Nat) (hk : k < n) (y : Bool) :
    CellsF (w.setCell ⟨G, k * 4 + 3, none⟩ (.bool y)) G n (fun j => if j = k then ({ (x k).1 with isl := y }, (x k).2) else x j) := by
  obtain ⟨cur, hc, hp⟩ := h
  have hlt : k * 4 + 3 < cur.size := by obtain ⟨e0, e1, e2, e3⟩ := hp k hk; exact (Array.getElem?_eq_some_iff.1 e3).1
  refine ⟨cur.setIfInBounds (k * 4 + 3) (.bool y), heap_setN hc _, fun j hj => ?_⟩
  obtain ⟨e0, e1, e2, e3⟩ := hp j hj
  by_cases hjk : j = k
  · subst hjk
    dsimp only
    rw [if_pos rfl]
    refine ⟨?_, ?_, ?_, ?_⟩
    · rw [Array.getElem?_setIfInBounds_ne (by omega)]; exact e0
    · rw [Array.getElem?_setIfInBounds_ne (by omega)]; exact e1
    · rw [Array.getElem?_setIfInBounds_ne (by omega)]; exact e2
    · rw [Array.getElem?_setIfInBounds_self_of_lt hlt]
  · dsimp only
    rw [if_neg hjk]
    refine ⟨?_, ?_, ?_, ?_⟩
    · rw [Array.getElem?_setIfInBounds_ne (by omega)]; exact e0
    · rw [Array.getElem?_setIfInBounds_ne (by omega)]; exact e1
    · rw [Array.getElem?_setIfInBounds_ne (by omega)]; exact e2
    · rw [Array.getElem?_setIfInBounds_ne (by omega)]; exact e3

/-- How many marks the first k take. -/
def cntX (x : Nat → FdV) : Nat → Nat
  | 0 => 0
  | k + 1 => cntX x k + (3 + (x k).1.list.length)
/-- A field marked from s on. -/
def mkFd (s : Nat) (f : Fd) : Fd := ⟨mt s, mt (s + 1), mkN (s + 2) f.list.length f.list, decide ((s + 2 + f.list.length) % 3 = 0)⟩
/-- The first k of the fields marked from s on. -/
def mkX (s k : Nat) (x : Nat → FdV) (j : Nat) : FdV := if j < k then (mkFd (s + cntX x j) (x j).1, (x j).2) else x j
theorem mkX_two (s k : Nat) (x : Nat → FdV) (j : Nat) : (mkX s k x j).2 = (x j).2 := by unfold mkX; split <;> rfl
theorem mkX_at (s k : Nat) (x : Nat → FdV) : mkX s k x k = x k := by unfold mkX; rw [if_neg (Nat.lt_irrefl k)]
theorem mkX_lt {s k j : Nat} (x : Nat → FdV) (h : j < k) : mkX s k x j = (mkFd (s + cntX x j) (x j).1, (x j).2) := by unfold mkX; rw [if_pos h]
theorem mkX_step (s k : Nat) (x : Nat → FdV) (j : Nat) : (if j = k then (mkFd (s + cntX x k) (x k).1, (x k).2) else mkX s k x j) = mkX s (k + 1) x j := by
  unfold mkX
  by_cases e : j = k
  · subst e; rw [if_pos rfl, if_pos (Nat.lt_succ_self _)]
  · rw [if_neg e]
    by_cases hl : j < k
    · rw [if_pos hl, if_pos (by omega)]
    · rw [if_neg hl, if_neg (by omega)]
theorem mkN_all (s : Nat) (ls : List (List UInt8)) : (mkN s ls.length ls).length = ls.length := mkN_len s _ ls (Nat.le_refl _)
/-- The lists lie from base on, apart from each other and from G. -/
def Apart (G n : Nat) (x : Nat → FdV) : Prop := (∀ j, j < n → (x j).2.ownBlock ≠ some G) ∧ ∀ i j, i < n → j < n → i ≠ j → ∀ g, (x i).2.ownBlock = some g → (x j).2.ownBlock ≠ some g
def ListsX (w : World) (base n : Nat) (x : Nat → FdV) : Prop := ∀ j, j < n → Strs w base (x j).2 (x j).1.list
theorem FsD.open {w : World} {base : Nat} {v : Value} {fs : List Fd} (h : FsD w base v fs) : (v = .slice none 0 0 ∧ fs = []) ∨ ∃ G cap x, v = .slice (some ⟨G, 0, none⟩) fs.length cap ∧ base ≤ G ∧ CellsF w G fs.length x ∧ ListsX w base fs.length x ∧ Apart G fs.length x ∧ ∀ j (h : j < fs.length), (x j).1 = fs[j] := by
  obtain ⟨qs, rfl, h2, h3, h4⟩ := h
  rcases h2.2 with ⟨hv, hl⟩ | ⟨g, cap, cur, hv, hb, hh, hn, _, hsz, htk⟩
  · left; exact ⟨hv, by simpa using hl⟩
  · right
    refine ⟨g, cap, fun j => qs.getD j (default, .slice none 0 0), by simpa using hv, hb, ?_, ?_, ?_, ?_⟩
    · refine ⟨cur, hh, fun j hj => ?_⟩
      simp at hj
      have hg : ∀ i, i < 4 → cur[j * 4 + i]? = (flatF qs)[j * 4 + i]? := fun i hi => by
        rw [← htk, List.getElem?_take_of_lt (by omega)]; simp
      obtain ⟨e0, e1, e2, e3⟩ := flatF_get qs j hj
      dsimp only
      rw [show qs.getD j (default, .slice none 0 0) = qs[j] by rw [List.getD_eq_getElem?_getD, List.getElem?_eq_getElem hj]; rfl]
      exact ⟨(hg 0 (by omega)).trans e0, (hg 1 (by omega)).trans e1, (hg 2 (by omega)).trans e2, (hg 3 (by omega)).trans e3⟩
    · intro j hj
      simp at hj
      show Strs w base (qs.getD j (default, .slice none 0 0)).2 (qs.getD j (default, .slice none 0 0)).1.list
      rw [show qs.getD j (default, .slice none 0 0) = qs[j] by rw [List.getD_eq_getElem?_getD, List.getElem?_eq_getElem hj]; rfl]
      exact (h3 _ (List.getElem_mem hj)).1
    · have at' : ∀ j (hj : j < qs.length), qs.getD j (default, .slice none 0 0) = qs[j] := fun j hj => by rw [List.getD_eq_getElem?_getD, List.getElem?_eq_getElem hj]; rfl
      refine ⟨fun j hj e => ?_, fun i j hi hj hne g1 e1 e2 => ?_⟩
      · simp at hj
        simp only [at' j hj] at e
        exact (h3 _ (List.getElem_mem hj)).2 _ e (by rw [hv]; rfl)
      · simp at hi hj
        simp only [at' i hi] at e1
        simp only [at' j hj] at e2
        have hp := List.pairwise_iff_getElem.1 h4
        rcases Nat.lt_or_ge i j with hij | hij
        · exact hp i j hi hj hij g1 e1 e2
        · exact hp j i hj hi (by omega) g1 e2 e1
    · intro j hj
      simp at hj
      simp only [List.getElem_map]
      rw [show qs.getD j (default, .slice none 0 0) = qs[j] by rw [List.getD_eq_getElem?_getD, List.getElem?_eq_getElem hj]; rfl]
theorem cntX_le {x : Nat → FdV} {n M : Nat} (hM : ∀ j, j < n → (x j).1.list.length ≤ M) : ∀ k, k ≤ n → cntX x k ≤ k * (3 + M)
  | 0, _ => by simp [cntX]
  | k + 1, h => by
    have := cntX_le hM k (by omega)
    have := hM k (by omega)
    unfold cntX
    rw [Nat.succ_mul]; omega

/-- Nothing but G's block and the lists' is written. -/
def Oth (w w' : World) (G n : Nat) (x : Nat → FdV) : Prop := w.heap.size ≤ w'.heap.size ∧ ∀ b o, w.heap[b]? = some o → b ≠ G → (∀ j, j < n → (x j).2.ownBlock ≠ some b) → w'.heap[b]? = some o
theorem Oth.refl (w : World) (G n : Nat) (x : Nat → FdV) : Oth w w G n x := ⟨Nat.le_refl _, fun _ _ h _ _ => h⟩
theorem Oth.below {w w1 w2 : World} {G n : Nat} {x : Nat → FdV} (h : Oth w w1 G n x) (hb : Below w1.heap.size w1 w2) : Oth w w2 G n x := ⟨Nat.le_trans h.1 hb.size, fun b o h0 h1 h2 => keepB (h.2 b o h0 h1 h2) hb⟩
theorem Oth.set {w w1 : World} {G n : Nat} {x : Nat → FdV} (h : Oth w w1 G n x) (o : Nat) (v : Value) : Oth w (w1.setCell ⟨G, o, none⟩ v) G n x := ⟨by simpa using h.1, fun b c h0 h1 h2 => (heap_setCell_other w1 ⟨G, o, none⟩ b v (fun e => h1 e)).trans (h.2 b c h0 h1 h2)⟩
theorem Oth.grown {w w1 w2 : World} {G n : Nat} {x : Nat → FdV} (h : Oth w w1 G n x) (k : Nat) (hk : k < n) (hg : w1.grownBy w2 (x k).2.ownBlock) (hs : w1.heap.size ≤ w2.heap.size) : Oth w w2 G n x := ⟨Nat.le_trans h.1 hs, fun b o h0 h1 h2 => gr_heap hg (h.2 b o h0 h1 h2) (fun e => h2 k hk e.symm)⟩
theorem eb3 (u : Nat) : ((u : Int) % 3 == 0) = decide (u % 3 = 0) := by rw [Bool.eq_iff_iff]; simp; omega
set_option maxRecDepth 100000 in
set_option maxHeartbeats 4000000 in
theorem markFieldS_x (w : World) (base G n cap : Nat) (x : Nat → FdV) (hC : CellsF w G n x) (hL : ListsX w base n x) (hA : Apart G n x) (hbG : base ≤ G) (hb0 : base ≤ w.heap.size) (hn : n ≤ 1048600) (hN : ∀ j, j < n → (x j).1.list.length ≤ 1048600) (hT : ∀ k, k ≤ n → cntX x k ≤ 10000000) :
    Calls Try.prog 51 #[.slice (some ⟨G, 0, none⟩) n cap, .int .i64 1] w fun e w' => e = .returned (.int .i64 ((1 + cntX x n : Nat) : Int)) ∧ CellsF w' G n (mkX 1 n x) ∧ ListsX w' base n (mkX 1 n x) ∧ Below base w w' ∧ Oth w w' G n x := by
  have HC0 := Lib.hid hC
  have HL0 := Lib.hid hL
  have HA := Lib.hid hA
  have HN := Lib.hid hN
  have HT := Lib.hid hT
  clear hC hL hA hN hT
  go_enter Try.func51, Try.ntmps51
  go_wp2_with fail
  go_loopw [1, 5] (fun u i wr => ∃ k U : Nat, k ≤ n ∧ Hid (U = 1 + cntX x k) ∧ i = .int .i64 k ∧ u = .int .i64 (U : Int) ∧ Hid (CellsF wr G n (mkX 1 k x)) ∧ Hid (ListsX wr base n (mkX 1 k x)) ∧ Below base w wr ∧ Hid (Oth w wr G n x)) (fun _ i _ => n - (intOf i).toNat)
  case atStart => exact ⟨0, 1, Nat.zero_le _, Lib.hid (by simp [cntX]), rfl, rfl, Lib.hid (HC0.out.congr (fun j _ => by unfold mkX; rw [if_neg (by omega)])), Lib.hid (fun j hj => by have := HL0.out j hj; unfold mkX; rw [if_neg (by omega)]; exact this), Below.refl _ _, Lib.hid (Oth.refl _ _ _ _)⟩
  case round =>
    obtain ⟨k, U, hk, HU, rfl, rfl, HC, HL, hb, HO⟩ := hrel
    have hc := HT.out k hk
    have u1 : 1 ≤ U := by have := HU.out; omega
    have u2 : U ≤ 10000001 := by have := HU.out; omega
    by_cases hlt : k < n
    · have hnl := HN.out k hlt
      obtain ⟨⟨c0, c1, c2, c3⟩, fz, hG⟩ := HC.out.cell k hlt
      rw [mkX_at] at c0 c1 c2 c3
      have HLK := Lib.hid (show Strs wr base (x k).2 (x k).1.list by have := HL.out k hlt; rw [mkX_at] at this; exact this)
      have HAK := Lib.hid (HA.out.1 k hlt)
      have O0 : ∀ j, j < n → j ≠ k → Strs wr base (x j).2 (mkX 1 k x j).1.list := fun j hj _ => by have := HL.out j hj; rw [mkX_two] at this; exact this
      have HO0 := Lib.hid O0
      have HU2 : Hid (cntX x (k + 1) = cntX x k + (3 + (x k).1.list.length)) := Lib.hid rfl
      have k0 : (0 : Int) ≤ (k : Int) := by omega
      have k1 : (k : Int) < (n : Int) := by omega
      clear hc
      go_wp2_with fail
      refine (markText_any U wr (by omega) (by omega)).mono ?_
      rintro e w2 ⟨rfl, hb2⟩
      have C2 := Lib.hid (HC.out.below hb2)
      have L2 := Lib.hid (HLK.out.below hb2)
      have B2 := hb.trans (hb2.mono (Nat.le_trans hb0 hb.size))
      obtain ⟨⟨d0, d1, d2, d3⟩, fz2, hG2⟩ := C2.out.cell k hlt
      rw [mkX_at] at d0 d1 d2 d3
      have X3 := Lib.hid ((HO.out.below hb2).set (k * 4) (.string ⟨(mt U).toArray⟩))
      have C3 := Lib.hid (C2.out.setKey k hlt (mt U))
      have L3 := Lib.hid (L2.out.setFar G (k * 4) (.string ⟨(mt U).toArray⟩) (fun g hg e => HAK.out (by rw [hg, e])))
      have B3 := B2.setCell (p := ⟨G, k * 4, none⟩) hbG (.string ⟨(mt U).toArray⟩)
      have O3 := Lib.hid (fun (j : Nat) (hj : j < n) (hne : j ≠ k) => ((HO0.out j hj hne).below hb2).setFar G (k * 4) (.string ⟨(mt U).toArray⟩) (fun g hg h => HA.out.1 j hj (by rw [hg, h])))
      clear hb2 B2 c0 c1 c2 c3 fz O0
      go_wp2_with fail
      refine (markText_any (U + 1) _ (by omega) (by omega)).mono ?_
      rintro e w3 ⟨rfl, hb3⟩
      have C4 := Lib.hid (C3.out.below hb3)
      have L4 := Lib.hid (L3.out.below hb3)
      have B4 := B3.trans (hb3.mono (by have := B3.size; simp at this ⊢; omega))
      obtain ⟨⟨g0, g1, g2, g3⟩, fz4, hG4⟩ := C4.out.cell k hlt
      simp only [↓reduceIte, mkX_at] at g0 g1 g2 g3
      have X5 := Lib.hid ((X3.out.below hb3).set (k * 4 + 1) (.string ⟨(mt (U + 1)).toArray⟩))
      have C5 := Lib.hid (C4.out.setText k hlt (mt (U + 1)))
      have L5 := Lib.hid (L4.out.setFar G (k * 4 + 1) (.string ⟨(mt (U + 1)).toArray⟩) (fun g hg e => HAK.out (by rw [hg, e])))
      have B5 := B4.setCell (p := ⟨G, k * 4 + 1, none⟩) hbG (.string ⟨(mt (U + 1)).toArray⟩)
      obtain ⟨⟨y0, y1, y2, y3⟩, _, _⟩ := C5.out.cell k hlt
      simp only [↓reduceIte, mkX_at] at y2
      have HM := Lib.hid (markN_gr (U + 2) (by omega) (by omega) _ base (x k).2 (x k).1.list L5.out (by omega))
      have HLO := Lib.hid L5.out.owned
      have O5 := Lib.hid (fun (j : Nat) (hj : j < n) (hne : j ≠ k) => ((O3.out j hj hne).below hb3).setFar G (k * 4 + 1) (.string ⟨(mt (U + 1)).toArray⟩) (fun g hg h => HA.out.1 j hj (by rw [hg, h])))
      clear hb3 B4 d0 d1 d2 d3 fz2 B3 y0 y1 y3
      obtain ⟨nl, HNL⟩ : ∃ nl, Hid ((x k).1.list.length = nl) := ⟨_, Lib.hid rfl⟩
      obtain ⟨SA, sc, hsl⟩ := L5.out.slice
      rw [HNL.out] at HM hsl hnl HU2
      rw [hsl] at g2 y2 HM
      go_wp2_with fail
      refine HM.out.mono ?_
      rintro e w5 ⟨rfl, S6, hg6⟩
      rw [← hsl] at S6 hg6
      have C6 := Lib.hid (C5.out.grown hg6 (fun e => HAK.out e.symm))
      have O6 := Lib.hid (fun (j : Nat) (hj : j < n) (hne : j ≠ k) => (O5.out j hj hne).grown hg6 (fun g hg h => HA.out.2 j k hj hlt hne g hg h.symm))
      have B6 := gr_belowN B5 hg6 (by have := B5.size; simp at this ⊢; omega) (fun g hg => HLO.out g hg)
      obtain ⟨⟨q0, q1, q2, q3⟩, fz6, hG6⟩ := C6.out.cell k hlt
      simp only [↓reduceIte, mkX_at] at q0 q1 q2 q3
      obtain ⟨U5, HU5⟩ : ∃ U5, Hid (U + 2 + nl = U5) := ⟨_, Lib.hid rfl⟩
      rw [HU5.out]
      have u5 : U5 ≤ 20000000 := by have := HU5.out; omega
      have X7 := Lib.hid (fun b => (X5.out.grown k hlt hg6 hg6.size).set (k * 4 + 3) (.bool b))
      have C7 := Lib.hid (fun b => C6.out.setIsl k hlt b)
      have S7 := Lib.hid (fun (b : Bool) => S6.setFar G (k * 4 + 3) (.bool b) (fun g hg e => HAK.out (by rw [hg, e])))
      have B7 := Lib.hid (fun (b : Bool) => B6.setCell (p := ⟨G, k * 4 + 3, none⟩) hbG (.bool b))
      have HLF : Hid (∀ b : Bool, ListsX (w5.setCell ⟨G, k * 4 + 3, none⟩ (.bool b)) base n (fun j => if j = k then (⟨mt U, mt (U + 1), mkN (U + 2) nl (x k).1.list, b⟩, (x k).2) else mkX 1 k x j)) := Lib.hid (fun b j hj => by
        by_cases e : j = k
        · subst e
          dsimp only
          rw [if_pos rfl]
          exact S7.out b
        · dsimp only
          rw [if_neg e, mkX_two]
          exact O6.out j hj e |>.setFar G (k * 4 + 3) (.bool b) (fun g hg h => HA.out.1 j hj (by rw [hg, h])))
      clear S6 hg6 B5 B6
      have hw5 : IntKind.i64.wrap ((U5 : Int) + 1) = (U5 : Int) + 1 := IntWalk.i64_in _ (by omega)
      go_wp2_with fail
      go_roundw
      case rel =>
        refine ⟨k + 1, U5 + 1, by omega, Lib.hid (by rw [← HU5.out, HU2.out, HU.out]; omega), by go_num, by go_num, ?_, ?_, B7.out _, Lib.hid (X7.out _)⟩
        · refine Lib.hid ((C7.out _).congr4 (fun j _ => ?_))
          rw [← mkX_step]
          by_cases e : j = k
          · subst e
            simp only [↓reduceIte, mkX_at, mkFd, ← HU.out, HNL.out, true_and]
            rw [HU5.out, ← eb3 U5]
          · simp only [e, ↓reduceIte, and_self]
        · refine Lib.hid (fun j hj => ?_)
          have := HLF.out ((U5 : Int) % 3 == 0) j hj
          rw [← mkX_step]
          by_cases e : j = k
          · subst e
            simp only [↓reduceIte, mkFd, ← HU.out, HNL.out] at this ⊢
            exact this
          · simp only [e, ↓reduceIte] at this ⊢
            exact this
      case measure => simp [intOf]; omega
    · obtain rfl : k = n := by omega
      go_wp2_with fail
      go_ret
      exact ⟨by rw [HU.out]; rfl, HC.out, HL.out, hb, HO.out⟩

set_option maxRecDepth 100000 in
set_option maxHeartbeats 4000000 in
theorem heldFieldS_x (w : World) (base G n cap : Nat) (x : Nat → FdV) (hC : CellsF w G n (mkX 1 n x)) (hL : ListsX w base n (mkX 1 n x)) (hn : n ≤ 1048600) (hN : ∀ j, j < n → (x j).1.list.length ≤ 1048600) (hT : ∀ k, k ≤ n → cntX x k ≤ 10000000) :
    Calls Try.prog 53 #[.slice (some ⟨G, 0, none⟩) n cap, .int .i64 1] w fun e w' => e = .returned (.int .i64 ((1 + cntX x n : Nat) : Int)) ∧ Below w.heap.size w w' := by
  have HC0 := Lib.hid hC
  have HL0 := Lib.hid hL
  have HN := Lib.hid hN
  have HT := Lib.hid hT
  clear hC hL hN hT
  go_enter Try.func53, Try.ntmps53
  go_wp2_with fail
  go_loopw [1, 5] (fun u i wr => ∃ k U : Nat, k ≤ n ∧ Hid (U = 1 + cntX x k) ∧ i = .int .i64 k ∧ u = .int .i64 (U : Int) ∧ Below w.heap.size w wr) (fun _ i _ => n - (intOf i).toNat)
  case atStart => exact ⟨0, 1, Nat.zero_le _, Lib.hid (by simp [cntX]), rfl, rfl, Below.refl _ _⟩
  case round =>
    obtain ⟨k, U, hk, HU, rfl, rfl, hb⟩ := hrel
    have hc := HT.out k hk
    have u1 : 1 ≤ U := by have := HU.out; omega
    have u2 : U ≤ 10000001 := by have := HU.out; omega
    by_cases hlt : k < n
    · have hnl := HN.out k hlt
      obtain ⟨nl, HNL⟩ : ∃ nl, Hid ((x k).1.list.length = nl) := ⟨_, Lib.hid rfl⟩
      have HU2 : Hid (cntX x (k + 1) = cntX x k + (3 + (x k).1.list.length)) := Lib.hid rfl
      have LK := HL0.out k hlt
      rw [mkX_lt x hlt, ← HU.out] at LK
      simp only [mkFd, HNL.out] at LK
      have HS := Lib.hid (fun (W : World) (h : Below w.heap.size w W) => heldN_any (U + 2) (by omega) (by omega) W base (x k).2 (x k).1.list (by rw [HNL.out]; exact LK.below h) (by omega))
      have HCW := Lib.hid (fun (W : World) (h : Below w.heap.size w W) => (HC0.out.below h).cell k hlt)
      simp only [mkX_lt x hlt, ← HU.out, mkFd, HNL.out] at HCW HS
      obtain ⟨SA, sc, hsl⟩ := LK.slice
      rw [show (mkN (U + 2) nl (x k).1.list).length = nl by rw [← HNL.out]; exact mkN_all _ _] at hsl
      rw [hsl] at HCW HS
      rw [HNL.out] at hnl HU2
      have HM := Lib.hid (fun W => markText_any U W (by omega) (by omega))
      have HM2 := Lib.hid (fun W => markText_any (U + 1) W (by omega) (by omega))
      have k0 : (0 : Int) ≤ (k : Int) := by omega
      have k1 : (k : Int) < (n : Int) := by omega
      obtain ⟨⟨c0, _, _, _⟩, _, g0⟩ := HCW.out wr hb
      clear hc LK
      go_wp2_with fail
      go_region_held3 (fun W => W.cell? ⟨G, k * 4, none⟩ = some (.string ⟨(mt U).toArray⟩) ∧ G < W.heap.size) (first | exact ⟨c0, g0⟩ | (refine ⟨?_, ?_⟩ <;> assumption) | exact keep_cell hb1 (by assumption) (by assumption)) ((first | (go_at_call 64; refine (HM.out _).mono ?_; rintro e w1 ⟨rfl, hb1⟩)))
      have hd : Below w.heap.size w wr.drew := hb.trans ⟨rfl, rfl, rfl, Nat.le_refl _, fun _ _ => rfl⟩
      have B2 := hd.trans (hb1.mono hd.size)
      obtain ⟨⟨_, d1, _, _⟩, _, g1⟩ := HCW.out w1 B2
      clear hb1 hd c0 g0 hb
      go_wp2_with fail
      go_region_held3 (fun W => W.cell? ⟨G, k * 4 + 1, none⟩ = some (.string ⟨(mt (U + 1)).toArray⟩) ∧ G < W.heap.size) (first | exact ⟨d1, g1⟩ | (refine ⟨?_, ?_⟩ <;> assumption) | exact keep_cell hb2 (by assumption) (by assumption)) ((first | (go_at_call 64; refine (HM2.out _).mono ?_; rintro e w2 ⟨rfl, hb2⟩)))
      have hd : Below w.heap.size w w1.drew := B2.trans ⟨rfl, rfl, rfl, Nat.le_refl _, fun _ _ => rfl⟩
      have B3 := hd.trans (hb2.mono hd.size)
      obtain ⟨⟨_, _, d2, _⟩, fz3, g3⟩ := HCW.out w2 B3
      clear hb2 hd d1 g1 B2
      go_wp2_with fail
      refine (HS.out _ B3).mono ?_
      rintro e w4 ⟨rfl, hb4⟩
      have B4 := B3.trans (hb4.mono B3.size)
      obtain ⟨⟨_, _, _, d3⟩, fz4, g4⟩ := HCW.out w4 B4
      obtain ⟨U5, HU5⟩ : ∃ U5, Hid (U + 2 + nl = U5) := ⟨_, Lib.hid rfl⟩
      rw [HU5.out, ← eb3] at d3
      rw [HU5.out]
      have u5 : U5 ≤ 20000000 := by have := HU5.out; omega
      have q5 : ¬ ((U5 : Int) < 0) := by omega
      have q6 : (((U5 : Int) % 3 == 0) != ((U5 : Int) % 3 == 0)) = false := by simp
      have hw5 : IntKind.i64.wrap ((U5 : Int) + 1) = (U5 : Int) + 1 := IntWalk.i64_in _ (by omega)
      clear hb4 B3 d2 fz3 g3
      go_wp2_with fail
      go_roundw
      case rel => exact ⟨k + 1, U5 + 1, by omega, Lib.hid (by rw [← HU5.out, HU2.out, HU.out]; omega), by go_num, by go_num, B4⟩
      case measure => simp [intOf]; omega
    · obtain rfl : k = n := by omega
      go_wp2_with fail
      go_ret
      exact ⟨by rw [HU.out]; rfl, hb⟩

theorem CellsF.keep {w w' : World} {G n : Nat} {x : Nat → FdV} (h : CellsF w G n x) (hk : ∀ o, w.heap[G]? = some o → w'.heap[G]? = some o) : CellsF w' G n x := by
  obtain ⟨cur, hc, hp⟩ := h
  exact ⟨cur, hk _ hc, hp⟩
theorem ListsX.below {w w' : World} {base n : Nat} {x : Nat → FdV} (h : ListsX w base n x) (hb : Below w.heap.size w w') : ListsX w' base n x := fun j hj => (h j hj).below hb
theorem ListsX.grown {w w' : World} {base n : Nat} {x : Nat → FdV} {row : Option Nat} (h : ListsX w base n x) (hg : w.grownBy w' row) (hne : ∀ j, j < n → ∀ g, (x j).2.ownBlock = some g → some g ≠ row) : ListsX w' base n x := fun j hj => (h j hj).grown hg (hne j hj)
theorem ListsX.mk {w w' : World} {base n lo hi : Nat} {x : Nat → FdV} (h : ListsX w base n x) (hm : Mk lo hi w w') (hne : ∀ j, j < n → ∀ g, (x j).2.ownBlock = some g → g < lo ∨ hi ≤ g) : ListsX w' base n x := fun j hj => (h j hj).mk hm (hne j hj)
theorem RdFs.of_x {w : World} {base G cap : Nat} {fs : List Fd} {x : Nat → FdV} (hC : CellsF w G fs.length x) (hL : ListsX w base fs.length x) (hx : ∀ j (h : j < fs.length), (x j).1 = fs[j]) : RdFs w (.slice (some ⟨G, 0, none⟩) fs.length cap) fs := by
  refine ⟨some ⟨G, 0, none⟩, cap, rfl, fun h0 => ⟨G, 0, rfl, (hC.cell 0 h0).2.2, fun k hk => ?_⟩⟩
  obtain ⟨⟨c0, c1, c2, c3⟩, _, _⟩ := hC.cell k hk
  rw [hx k hk] at c0 c1 c3
  have hl := hL k hk
  rw [hx k hk] at hl
  exact ⟨(x k).2, by simpa using c0, by simpa using c1, by simpa using c2, by simpa using c3, RdS.of_strs hl⟩

set_option maxRecDepth 100000 in
set_option maxHeartbeats 1000000 in
theorem markTable_x (tn : List UInt8) (w : World) (base G n cap : Nat) (x : Nat → FdV) (hC : CellsF w G n x) (hL : ListsX w base n x) (hA : Apart G n x) (hbG : base ≤ G) (hn : n ≤ 1048600) (hN : ∀ j, j < n → (x j).1.list.length ≤ 1048600) (hT : ∀ k, k ≤ n → cntX x k ≤ 10000000) :
    Calls Try.prog 16 #[.agg #[.string ⟨tn.toArray⟩, .slice (some ⟨G, 0, none⟩) n cap], .int .i64 1] w fun e w' => e = .returned (.int .i64 ((1 + cntX x n : Nat) : Int)) ∧ CellsF w' G n (mkX 1 n x) ∧ ListsX w' base n (mkX 1 n x) ∧ Below base w w' ∧ Oth w w' G n x := by
  have hbz : base ≤ w.heap.size := by obtain ⟨cur, hc, _⟩ := hC; have := lt_of_heap hc; omega
  have B0 : Below w.heap.size w (w.alloc (.cells #[.string ⟨tn.toArray⟩, .slice (some ⟨G, 0, none⟩) n cap] 32)) := (Below.refl _ _).alloc (Nat.le_refl _) _
  have HP := Lib.hid (markFieldS_x _ base G n cap x (hC.below B0) (hL.below B0) hA hbG (Nat.le_trans hbz B0.size) hn hN hT)
  have HO := Lib.hid (fun (W : World) (h : Oth (w.alloc (.cells #[.string ⟨tn.toArray⟩, .slice (some ⟨G, 0, none⟩) n cap] 32)) W G n x) => (show Oth w W G n x from ⟨Nat.le_trans B0.size h.1, fun b o h0 h1 h2 => h.2 b o (keepB h0 B0) h1 h2⟩))
  clear hC hL hN hT hA
  go_enter Try.func16, Try.ntmps16
  go_wp2_with fail
  refine HP.out.mono ?_
  rintro e w1 ⟨rfl, hC1, hL1, hb1, ho1⟩
  go_wp2_with fail
  go_ret
  exact ⟨rfl, hC1, hL1, (B0.mono hbz).trans hb1, HO.out _ ho1⟩

set_option maxRecDepth 100000 in
set_option maxHeartbeats 1000000 in
theorem heldTable_x (tn : List UInt8) (w : World) (base G n cap : Nat) (x : Nat → FdV) (hC : CellsF w G n (mkX 1 n x)) (hL : ListsX w base n (mkX 1 n x)) (hn : n ≤ 1048600) (hN : ∀ j, j < n → (x j).1.list.length ≤ 1048600) (hT : ∀ k, k ≤ n → cntX x k ≤ 10000000) :
    Calls Try.prog 18 #[.agg #[.string ⟨tn.toArray⟩, .slice (some ⟨G, 0, none⟩) n cap], .int .i64 1] w fun e w' => e = .returned (.int .i64 ((1 + cntX x n : Nat) : Int)) ∧ Below w.heap.size w w' := by
  have B0 : Below w.heap.size w (w.alloc (.cells #[.string ⟨tn.toArray⟩, .slice (some ⟨G, 0, none⟩) n cap] 32)) := (Below.refl _ _).alloc (Nat.le_refl _) _
  have HP := Lib.hid (heldFieldS_x _ base G n cap x (hC.below B0) (hL.below B0) hn hN hT)
  obtain ⟨z, HZ⟩ : ∃ z, Hid (1 + cntX x n = z) := ⟨_, Lib.hid rfl⟩
  rw [HZ.out] at HP ⊢
  have q1 : ¬ ((z : Int) < 0) := by omega
  clear hC hL hN hT
  go_enter Try.func18, Try.ntmps18
  go_wp2_with fail
  refine HP.out.mono ?_
  rintro e w1 ⟨rfl, hb1⟩
  go_wp2_with fail
  go_ret
  exact ⟨rfl, B0.trans (hb1.mono B0.size)⟩
end Go.Proofs.Ytongpnknmgbhjaa
