/-
  The laws' own helpers on lists of texts, from any number on: markStringS writes marks over each, heldStringS reads them.
-/
import Derived.Test.YtongpnknmgbhjaaMarkS
import Derived.Deep.RegionHeld3
namespace Go.Proofs.Ytongpnknmgbhjaa
open Go.RowKit

/-- The first k marks from s on, then what stood there. -/
def mkN (s k : Nat) (ls : List (List UInt8)) : List (List UInt8) := (List.range k).map (fun j => mt (s + j)) ++ ls.drop k
theorem mkN_zero (s : Nat) (ls : List (List UInt8)) : mkN s 0 ls = ls := by simp [mkN]
theorem mkN_len (s k : Nat) (ls : List (List UInt8)) (h : k ≤ ls.length) : (mkN s k ls).length = ls.length := by simp [mkN]; omega
theorem mkN_get (s k : Nat) (ls : List (List UInt8)) (j : Nat) (hj : j < k) (h : j < (mkN s k ls).length) : (mkN s k ls)[j] = mt (s + j) := by simp [mkN, hj]
theorem mkN_set (s k : Nat) (ls : List (List UInt8)) (h : k < ls.length) : (mkN s k ls).set k (mt (s + k)) = mkN s (k + 1) ls := by
  unfold mkN
  rw [List.set_append_right _ _ (by simp)]
  simp only [List.length_map, List.length_range, Nat.sub_self]
  rw [List.range_succ, List.map_append, List.append_assoc]
  congr 1
  rw [List.drop_eq_getElem_cons h]
  rfl

set_option maxRecDepth 100000 in
set_option maxHeartbeats 1000000 in
theorem markNS_gr (s : Nat) (s1 : 1 ≤ s) (s2 : s ≤ 20000000) (w : World) (base g cap : Nat) (ls : List (List UInt8)) (h : Strs w base (.slice (some ⟨g, 0, none⟩) ls.length cap) ls) (hl : ls.length ≤ 2000000) :
    Calls Try.prog 52 #[.slice (some ⟨g, 0, none⟩) ls.length cap, .int .i64 (s : Int)] w fun e w' => e = .returned (.int .i64 ((s + ls.length : Nat) : Int)) ∧ Strs w' base (.slice (some ⟨g, 0, none⟩) ls.length cap) (mkN s ls.length ls) ∧ w.grownBy w' (some g) := by
  go_enter Try.func52, Try.ntmps52
  go_wp2
  go_loopw [1, 5] (fun u i wr => ∃ k : Nat, k ≤ ls.length ∧ i = .int .i64 k ∧ u = .int .i64 ((s + k : Nat) : Int) ∧ Strs wr base (.slice (some ⟨g, 0, none⟩) ls.length cap) (mkN s k ls) ∧ w.grownBy wr (some g)) (fun _ i _ => ls.length - (intOf i).toNat)
  case atStart => exact ⟨0, Nat.zero_le _, rfl, rfl, by rw [mkN_zero]; exact h, World.grownBy.refl w _⟩
  case round =>
    obtain ⟨k, hk, rfl, rfl, hS, hb⟩ := hrel
    by_cases hlt : k < ls.length
    · have k0 : (0 : Int) ≤ (k : Int) := by omega
      have k1 : (k : Int) < (ls.length : Int) := by omega
      have HM := Lib.hid (markText_any (s + k) wr (by omega) (by omega))
      clear h
      go_wp2_with fail
      refine HM.out.mono ?_
      rintro e w2 ⟨rfl, hb2⟩
      have hS2 := hS.below hb2
      have hS2' : Strs w2 base (.slice (some ⟨g, 0, none⟩) (mkN s k ls).length cap) (mkN s k ls) := by rw [mkN_len s k ls hk]; exact hS2
      have c2 : w2.cell? ⟨g, k, none⟩ = some (sv ((mkN s k ls)[k]'(by rw [mkN_len s k ls hk]; exact hlt))) := hS2.cell k _
      have f2 : w2.frozen? ⟨g, k, none⟩ = false := World.ownsRow.frozenAt hS2' k
      have HB := gr_trans hb (gr_below hb2)
      go_wp2_with fail
      go_roundw
      case rel => exact ⟨k + 1, by omega, by go_num, by go_num, by have := hS2'.set k (mt (s + k)); rw [mkN_set s k ls hlt, mkN_len s (k+1) ls (by omega)] at this; exact this, gr_trans HB (gr_set _ _ _ _)⟩
      case measure => simp [intOf]; omega
    · obtain rfl : k = ls.length := by omega
      clear h
      go_wp2_with fail
      go_ret
      exact ⟨rfl, hS, hb⟩

set_option maxRecDepth 100000 in
set_option maxHeartbeats 1000000 in
theorem heldNS_any (s : Nat) (s1 : 1 ≤ s) (s2 : s ≤ 20000000) (w : World) (base g cap : Nat) (ls : List (List UInt8)) (h : Strs w base (.slice (some ⟨g, 0, none⟩) ls.length cap) (mkN s ls.length ls)) (hl : ls.length ≤ 2000000) :
    Calls Try.prog 75 #[.slice (some ⟨g, 0, none⟩) ls.length cap, .int .i64 (s : Int)] w fun e w' => e = .returned (.int .i64 ((s + ls.length : Nat) : Int)) ∧ Below w.heap.size w w' := by
  go_enter Try.func75, Try.ntmps75
  go_wp2
  go_loopw [1, 5] (fun u i wr => ∃ k : Nat, k ≤ ls.length ∧ i = .int .i64 k ∧ u = .int .i64 ((s + k : Nat) : Int) ∧ Strs wr base (.slice (some ⟨g, 0, none⟩) ls.length cap) (mkN s ls.length ls) ∧ Below w.heap.size w wr) (fun _ i _ => ls.length - (intOf i).toNat)
  case atStart => exact ⟨0, Nat.zero_le _, rfl, rfl, h, Below.refl _ _⟩
  case round =>
    obtain ⟨k, hk, rfl, rfl, hS, hb⟩ := hrel
    by_cases hlt : k < ls.length
    · have k0 : (0 : Int) ≤ (k : Int) := by omega
      have k1 : (k : Int) < (ls.length : Int) := by omega
      have HM := Lib.hid (fun W => markText_any (s + k) W (by omega) (by omega))
      clear h
      have HC : Hid (∀ W, Strs W base (.slice (some ⟨g, 0, none⟩) ls.length cap) (mkN s ls.length ls) → W.cell? ⟨g, k, none⟩ = some (.string ⟨(mt (s + k)).toArray⟩)) := Lib.hid (fun W hW => by
        have := hW.cell k (by rw [mkN_len s _ ls (Nat.le_refl _)]; exact hlt)
        rw [mkN_get s ls.length ls k hlt] at this
        exact this)
      have c1 := HC.out wr hS
      have g1 : g < wr.heap.size := by
        rcases hS.form with ⟨h', _⟩ | ⟨g', cap', h', _, hg'⟩
        · cases h'
        · simp only [Value.slice.injEq, Option.some.injEq, Addr.mk.injEq, and_true] at h'
          rw [h'.1]; exact hg'
      go_wp2_with fail
      go_region_held3 (fun W => W.cell? ⟨g, k, none⟩ = some (.string ⟨(mt (s + k)).toArray⟩) ∧ g < W.heap.size) (first | exact ⟨c1, g1⟩ | (refine ⟨?_, ?_⟩ <;> assumption) | exact keep_cell hb1 (by assumption) (by assumption)) ((first | (go_at_call 64; refine (HM.out _).mono ?_; rintro e w1 ⟨rfl, hb1⟩)))
      go_wp2_with fail
      have hd : Below w.heap.size w wr.drew := hb.trans ⟨rfl, rfl, rfl, Nat.le_refl _, fun _ _ => rfl⟩
      go_roundw
      case rel => exact ⟨k + 1, by omega, by go_num, by go_num, hS.drew.below hb1, hd.trans (hb1.mono hd.size)⟩
      case measure => simp [intOf]; omega
    · obtain rfl : k = ls.length := by omega
      clear h
      go_wp2_with fail
      go_ret
      exact ⟨rfl, hb⟩

set_option maxRecDepth 100000 in
set_option maxHeartbeats 1000000 in
theorem markN_gr (s : Nat) (s1 : 1 ≤ s) (s2 : s ≤ 20000000) (w : World) (base : Nat) (v : Value) (ls : List (List UInt8)) (h : Strs w base v ls) (hl : ls.length ≤ 2000000) :
    Calls Try.prog 52 #[v, .int .i64 (s : Int)] w fun e w' => e = .returned (.int .i64 ((s + ls.length : Nat) : Int)) ∧ Strs w' base v (mkN s ls.length ls) ∧ w.grownBy w' v.ownBlock := by
  rcases h.form with ⟨rfl, rfl⟩ | ⟨g, cap, rfl, hg, _⟩
  · go_enter Try.func52, Try.ntmps52
    go_wp2
    refine wp_loop_rounds 1 ?_
    rw [rounds_succ]; go_wp2
    go_ret
    exact ⟨rfl, h, World.grownBy.refl _ _⟩
  · exact markNS_gr s s1 s2 w base g cap ls h hl
set_option maxRecDepth 100000 in
set_option maxHeartbeats 1000000 in
theorem heldN_any (s : Nat) (s1 : 1 ≤ s) (s2 : s ≤ 20000000) (w : World) (base : Nat) (v : Value) (ls : List (List UInt8)) (h : Strs w base v (mkN s ls.length ls)) (hl : ls.length ≤ 2000000) :
    Calls Try.prog 75 #[v, .int .i64 (s : Int)] w fun e w' => e = .returned (.int .i64 ((s + ls.length : Nat) : Int)) ∧ Below w.heap.size w w' := by
  rcases h.form with ⟨rfl, h0⟩ | ⟨g, cap, rfl, hg, _⟩
  · have : ls = [] := by
      have := mkN_len s ls.length ls (Nat.le_refl _)
      rw [h0] at this
      exact List.eq_nil_of_length_eq_zero this.symm
    subst this
    go_enter Try.func75, Try.ntmps75
    go_wp2
    refine wp_loop_rounds 1 ?_
    rw [rounds_succ]; go_wp2
    go_ret
    exact ⟨rfl, Below.refl _ _⟩
  · rw [mkN_len s ls.length ls (Nat.le_refl _)] at h ⊢
    exact heldNS_any s s1 s2 w base g cap ls h hl
end Go.Proofs.Ytongpnknmgbhjaa
