/-
  The laws' own helpers on lists of texts: markStringS writes marks over each, heldStringS reads them; nil lists too.
-/
import Derived.Test.YtongpnknmgbhjaaLawB
import Derived.Test.YtongpnknmgbhjaaGrw
import Derived.Test.YtongpnknmgbhjaaHeld
import Derived.LoopN
namespace Go.Proofs.Ytongpnknmgbhjaa
open Go.RowKit

set_option maxRecDepth 100000 in
set_option maxHeartbeats 1000000 in
theorem markS_any (w : World) (base : Nat) (v : Value) (ls : List (List UInt8)) (h : Strs w base v ls) (hb0 : base ≤ w.heap.size) (hl : ls.length ≤ 2000000) :
    Calls Try.prog 52 #[v, .int .i64 1] w fun e w' => e = .returned (.int .i64 ((ls.length + 1 : Nat) : Int)) ∧ Strs w' base v (mks ls.length ls) ∧ Below base w w' := by
  rcases h.form with ⟨rfl, rfl⟩ | ⟨g, cap, rfl, hg, _⟩
  · go_enter Try.func52, Try.ntmps52
    go_wp2
    refine wp_loop_rounds 1 ?_
    rw [rounds_succ]; go_wp2
    go_ret
    exact ⟨rfl, h, Below.refl _ _⟩
  · exact markStringS_any w base g cap ls h hb0 hg hl
set_option maxRecDepth 100000 in
set_option maxHeartbeats 1000000 in
theorem heldS_any (w : World) (base : Nat) (v : Value) (ls : List (List UInt8)) (h : Strs w base v (mks ls.length ls)) (hl : ls.length ≤ 2000000) :
    Calls Try.prog 75 #[v, .int .i64 1] w fun e w' => e = .returned (.int .i64 ((ls.length + 1 : Nat) : Int)) ∧ Below w.heap.size w w' := by
  rcases h.form with ⟨rfl, h0⟩ | ⟨g, cap, rfl, hg, _⟩
  · have : ls = [] := by
      have := mks_len ls.length ls (Nat.le_refl _)
      rw [h0] at this
      exact List.eq_nil_of_length_eq_zero this.symm
    subst this
    go_enter Try.func75, Try.ntmps75
    go_wp2
    refine wp_loop_rounds 1 ?_
    rw [rounds_succ]; go_wp2
    go_ret
    exact ⟨rfl, Below.refl _ _⟩
  · rw [mks_len ls.length ls (Nat.le_refl _)] at h ⊢
    exact heldStringS_any w base g cap ls h hl

set_option maxRecDepth 100000 in
set_option maxHeartbeats 1000000 in
theorem markStringS_gr (w : World) (base g cap : Nat) (ls : List (List UInt8)) (h : Strs w base (.slice (some ⟨g, 0, none⟩) ls.length cap) ls) (hl : ls.length ≤ 2000000) :
    Calls Try.prog 52 #[.slice (some ⟨g, 0, none⟩) ls.length cap, .int .i64 1] w fun e w' => e = .returned (.int .i64 ((ls.length + 1 : Nat) : Int)) ∧ Strs w' base (.slice (some ⟨g, 0, none⟩) ls.length cap) (mks ls.length ls) ∧ w.grownBy w' (some g) := by
  go_enter Try.func52, Try.ntmps52
  go_wp2
  go_loopw [1, 5] (fun u i wr => ∃ k : Nat, k ≤ ls.length ∧ i = .int .i64 k ∧ u = .int .i64 ((k + 1 : Nat) : Int) ∧ Strs wr base (.slice (some ⟨g, 0, none⟩) ls.length cap) (mks k ls) ∧ w.grownBy wr (some g)) (fun _ i _ => ls.length - (intOf i).toNat)
  case atStart => exact ⟨0, Nat.zero_le _, rfl, rfl, by rw [mks_zero]; exact h, World.grownBy.refl w _⟩
  case round =>
    obtain ⟨k, hk, rfl, rfl, hS, hb⟩ := hrel
    by_cases hlt : k < ls.length
    · have k0 : (0 : Int) ≤ (k : Int) := by omega
      have k1 : (k : Int) < (ls.length : Int) := by omega
      have HM := Lib.hid (markText_any (k + 1) wr (by omega) (by omega))
      clear h
      go_wp2_with fail
      refine HM.out.mono ?_
      rintro e w2 ⟨rfl, hb2⟩
      have hS2 := hS.below hb2
      have hS2' : Strs w2 base (.slice (some ⟨g, 0, none⟩) (mks k ls).length cap) (mks k ls) := by rw [mks_len k ls hk]; exact hS2
      have c2 : w2.cell? ⟨g, k, none⟩ = some (sv ((mks k ls)[k]'(by rw [mks_len k ls hk]; exact hlt))) := hS2.cell k _
      have f2 : w2.frozen? ⟨g, k, none⟩ = false := World.ownsRow.frozenAt hS2' k
      have HB := gr_trans hb (gr_below hb2)
      go_wp2_with fail
      go_roundw
      case rel => exact ⟨k + 1, by omega, by go_num, by go_num, by have := hS2'.set k (mt (k + 1)); rw [mks_set k ls hlt, mks_len (k+1) ls (by omega)] at this; exact this, gr_trans HB (gr_set _ _ _ _)⟩
      case measure => simp [intOf]; omega
    · obtain rfl : k = ls.length := by omega
      clear h
      go_wp2_with fail
      go_ret
      exact ⟨rfl, hS, hb⟩

set_option maxRecDepth 100000 in
set_option maxHeartbeats 1000000 in
theorem markS_gr (w : World) (base : Nat) (v : Value) (ls : List (List UInt8)) (h : Strs w base v ls) (hl : ls.length ≤ 2000000) :
    Calls Try.prog 52 #[v, .int .i64 1] w fun e w' => e = .returned (.int .i64 ((ls.length + 1 : Nat) : Int)) ∧ Strs w' base v (mks ls.length ls) ∧ w.grownBy w' v.ownBlock := by
  rcases h.form with ⟨rfl, rfl⟩ | ⟨g, cap, rfl, hg, _⟩
  · go_enter Try.func52, Try.ntmps52
    go_wp2
    refine wp_loop_rounds 1 ?_
    rw [rounds_succ]; go_wp2
    go_ret
    exact ⟨rfl, h, World.grownBy.refl w _⟩
  · exact markStringS_gr w base g cap ls h hl
end Go.Proofs.Ytongpnknmgbhjaa
