/-
  The laws' own helpers on lists of texts: markStringS writes marks over each, heldStringS reads them; nil lists too.
-/
import Derived.Test.YtjpclglklmlhlabGreatDoorLawB
import Derived.Test.YtjpclglklmlhlabGreatDoorHeld
import Derived.LoopN
namespace Go.Proofs.YtjpclglklmlhlabGreatDoor
open Go.RowKit

set_option maxRecDepth 100000 in
set_option maxHeartbeats 1000000 in
theorem markS_any (w : World) (base : Nat) (v : Value) (ls : List (List UInt8)) (h : Strs w base v ls) (hb0 : base ≤ w.heap.size) (hl : ls.length ≤ 2000000) :
    Calls Tryz.prog 17 #[v, .int .i64 1] w fun e w' => e = .returned (.int .i64 ((ls.length + 1 : Nat) : Int)) ∧ Strs w' base v (mks ls.length ls) ∧ Below base w w' := by
  rcases h.form with ⟨rfl, rfl⟩ | ⟨g, cap, rfl, hg, _⟩
  · go_enter Tryz.func17, Tryz.ntmps17
    go_wp2
    refine wp_loop_rounds 1 ?_
    rw [rounds_succ]; go_wp2
    go_ret
    exact ⟨rfl, h, Below.refl _ _⟩
  · exact markStringS_any w base g cap ls h hb0 hg hl
set_option maxRecDepth 100000 in
set_option maxHeartbeats 1000000 in
theorem heldS_any (w : World) (base : Nat) (v : Value) (ls : List (List UInt8)) (h : Strs w base v (mks ls.length ls)) (hl : ls.length ≤ 2000000) :
    Calls Tryz.prog 19 #[v, .int .i64 1] w fun e w' => e = .returned (.int .i64 ((ls.length + 1 : Nat) : Int)) ∧ Below w.heap.size w w' := by
  rcases h.form with ⟨rfl, h0⟩ | ⟨g, cap, rfl, hg, _⟩
  · have : ls = [] := by
      have := mks_len ls.length ls (Nat.le_refl _)
      rw [h0] at this
      exact List.eq_nil_of_length_eq_zero this.symm
    subst this
    go_enter Tryz.func19, Tryz.ntmps19
    go_wp2
    refine wp_loop_rounds 1 ?_
    rw [rounds_succ]; go_wp2
    go_ret
    exact ⟨rfl, Below.refl _ _⟩
  · rw [mks_len ls.length ls (Nat.le_refl _)] at h ⊢
    exact heldStringS_any w base g cap ls h hl

theorem gr_trans {w w1 w2 : World} {row : Option Nat} (h1 : w.grownBy w1 row) (h2 : w1.grownBy w2 row) : w.grownBy w2 row :=
  ⟨h2.os.trans h1.os, h2.tape.trans h1.tape, h2.output.trans h1.output, Nat.le_trans h1.size h2.size, fun k hk hn => (h2.block k (Nat.lt_of_lt_of_le hk h1.size) hn).trans (h1.block k hk hn)⟩
theorem gr_below {w w2 : World} {row : Option Nat} (hb : Below w.heap.size w w2) : w.grownBy w2 row := ⟨hb.os, hb.tape, hb.output, hb.size, fun k hk _ => hb.block k hk⟩
theorem gr_alloc (w : World) (o : Obj) (row : Option Nat) : w.grownBy (w.alloc o) row := gr_below ((Below.refl _ _).alloc (Nat.le_refl _) _)
theorem gr_set (w : World) (g k : Nat) (x : Value) : w.grownBy (w.setCell ⟨g, k, none⟩ x) (some g) := ⟨rfl, rfl, rfl, by simp, fun j _ hj => heap_setCell_other w ⟨g, k, none⟩ j x (fun e => hj (by simp [e]))⟩
theorem Strs.grown {w w' : World} {base : Nat} {v : Value} {l : List (List UInt8)} {row : Option Nat} (h : Strs w base v l) (hg : w.grownBy w' row) (hne : ∀ g, v.ownBlock = some g → some g ≠ row) : Strs w' base v l := by
  rcases h.form with ⟨rfl, rfl⟩ | ⟨g, cap, rfl, _, _⟩
  · exact ⟨by simp, .inl ⟨rfl, rfl⟩⟩
  · exact World.ownsRow.kept h hg (.inr (fun e => hne g rfl (by rw [← e]; rfl)))
theorem gr_heap {W V : World} {row : Option Nat} {B : Nat} {o : Obj} (hg : W.grownBy V row) (h : W.heap[B]? = some o) (hne : some B ≠ row) : V.heap[B]? = some o := (hg.block B (Array.getElem?_eq_some_iff.1 h).1 hne).trans h
theorem gr_belowN {W V : World} {row : Option Nat} {n : Nat} {w : World} (hb : Below n w W) (hg : W.grownBy V row) (hn : n ≤ W.heap.size) (hr : ∀ g, row = some g → n ≤ g) : Below n w V := hb.grown hg hn hr

set_option maxRecDepth 100000 in
set_option maxHeartbeats 1000000 in
theorem markStringS_gr (w : World) (base g cap : Nat) (ls : List (List UInt8)) (h : Strs w base (.slice (some ⟨g, 0, none⟩) ls.length cap) ls) (hl : ls.length ≤ 2000000) :
    Calls Tryz.prog 17 #[.slice (some ⟨g, 0, none⟩) ls.length cap, .int .i64 1] w fun e w' => e = .returned (.int .i64 ((ls.length + 1 : Nat) : Int)) ∧ Strs w' base (.slice (some ⟨g, 0, none⟩) ls.length cap) (mks ls.length ls) ∧ w.grownBy w' (some g) := by
  go_enter Tryz.func17, Tryz.ntmps17
  go_wp2
  go_loopw [1, 5] (fun u i wr => ∃ k : Nat, k ≤ ls.length ∧ i = .int .i64 k ∧ u = .int .i64 ((k + 1 : Nat) : Int) ∧ Strs wr base (.slice (some ⟨g, 0, none⟩) ls.length cap) (mks k ls) ∧ w.grownBy wr (some g)) (fun _ i _ => ls.length - (intOf i).toNat)
  case atStart => exact ⟨0, Nat.zero_le _, rfl, rfl, by rw [mks_zero]; exact h, World.grownBy.refl w _⟩
  case round =>
    obtain ⟨k, hk, rfl, rfl, hS, hb⟩ := hrel
    by_cases hlt : k < ls.length
    · have k0 : (0 : Int) ≤ (k : Int) := by omega
      have k1 : (k : Int) < (ls.length : Int) := by omega
      have HM := Lib.hid (markText_any (k + 1) wr (by omega) (by omega))
      clear h
      go_wp2_with fail
      refine HM.out.mono ?_
      rintro e w2 ⟨rfl, hb2⟩
      have hS2 := hS.below hb2
      have hS2' : Strs w2 base (.slice (some ⟨g, 0, none⟩) (mks k ls).length cap) (mks k ls) := by rw [mks_len k ls hk]; exact hS2
      have c2 : w2.cell? ⟨g, k, none⟩ = some (sv ((mks k ls)[k]'(by rw [mks_len k ls hk]; exact hlt))) := hS2.cell k _
      have f2 : w2.frozen? ⟨g, k, none⟩ = false := World.ownsRow.frozenAt hS2' k
      have HB := gr_trans hb (gr_below hb2)
      go_wp2_with fail
      go_roundw
      case rel => exact ⟨k + 1, by omega, by go_num, by go_num, by have := hS2'.set k (mt (k + 1)); rw [mks_set k ls hlt, mks_len (k+1) ls (by omega)] at this; exact this, gr_trans HB (gr_set _ _ _ _)⟩
      case measure => simp [intOf]; omega
    · obtain rfl : k = ls.length := by omega
      clear h
      go_wp2_with fail
      go_ret
      exact ⟨rfl, hS, hb⟩

set_option maxRecDepth 100000 in
set_option maxHeartbeats 1000000 in
theorem markS_gr (w : World) (base : Nat) (v : Value) (ls : List (List UInt8)) (h : Strs w base v ls) (hl : ls.length ≤ 2000000) :
    Calls Tryz.prog 17 #[v, .int .i64 1] w fun e w' => e = .returned (.int .i64 ((ls.length + 1 : Nat) : Int)) ∧ Strs w' base v (mks ls.length ls) ∧ w.grownBy w' v.ownBlock := by
  rcases h.form with ⟨rfl, rfl⟩ | ⟨g, cap, rfl, hg, _⟩
  · go_enter Tryz.func17, Tryz.ntmps17
    go_wp2
    refine wp_loop_rounds 1 ?_
    rw [rounds_succ]; go_wp2
    go_ret
    exact ⟨rfl, h, World.grownBy.refl w _⟩
  · exact markStringS_gr w base g cap ls h hl
end Go.Proofs.YtjpclglklmlhlabGreatDoor
