/-
  The laws' own eqFieldS, eqTable on lists that are longer by one.
-/
import Derived.Test.YtongpnknmgbhjaaTbL
namespace Go.Proofs.Ytongpnknmgbhjaa
open Go.RowKit

set_option maxRecDepth 100000 in
set_option maxHeartbeats 2000000 in
theorem eqFieldS_long (va vb : Value) (ps : List Fd) (w : World) (ha : RdFs w va ps) (hb : RdFs w vb ps) (hl : ps.length ≤ 1048600) (hs : ∀ f ∈ ps, SmFd f) :
    Calls Try.prog 49 #[va, vb] w fun e w' => e = .returned (.bool true) ∧ Below w.heap.size w w' := by
  have HA := Lib.hid ha
  have HB := Lib.hid hb
  have HS := Lib.hid hs
  obtain ⟨A, ca, rfl, ha⟩ := ha
  obtain ⟨B, cb, rfl, hb⟩ := hb
  have q0 : ((ps.length : Int) != (ps.length : Int)) = false := int_bne_false rfl
  clear ha hb hs
  go_enter Try.func49, Try.ntmps49
  go_wp2_with fail
  go_loopw [5] (fun i wr => ∃ k : Nat, k ≤ ps.length ∧ i = .int .i64 k ∧ Below w.heap.size w wr) (fun i _ => ps.length - (intOf i).toNat)
  case atStart => exact ⟨0, Nat.zero_le _, rfl, Below.refl _ _⟩
  case round =>
    obtain ⟨k, hk, rfl, hw⟩ := hrel
    by_cases hlt : k < ps.length
    · obtain ⟨g, off, rfl, hg, a, d0, d1, d2, d3, ra⟩ := (HA.out.below hw).at k hlt
      obtain ⟨g', off', rfl, hg', a', e0, e1, e2, e3, ra'⟩ := (HB.out.below hw).at k hlt
      have HC := Lib.hid (fun (W : World) (h : Below wr.heap.size wr W) => eqField_same ps[k] a a' W (ra.below h) (ra'.below h) (HS.out _ (List.getElem_mem hlt)))
      obtain ⟨A1, c1, rfl⟩ := ra.slice
      obtain ⟨A3, c3, rfl⟩ := ra'.slice
      have k0 : (0 : Int) ≤ (k : Int) := by omega
      have k1 : (k : Int) < (ps.length : Int) := by omega
      clear ra ra'
      go_wp2_with fail
      go_region_with (first | (go_at_call 15; refine (HC.out _ (below_drewN _ _ 1)).mono ?_; rintro e w1 ⟨rfl, hb1⟩))
      all_goals
        go_wp2_with fail
        go_roundw
        case rel => exact ⟨k + 1, by omega, by go_num, hw.trans ((below_drewN _ _ 1).trans (hb1.mono (by first | exact Nat.le_refl _ | exact hw.size)))⟩
        case measure => simp [intOf]; omega
    · go_wp2_with fail
      go_ret
      exact ⟨rfl, hw⟩
set_option maxRecDepth 100000 in
set_option maxHeartbeats 2000000 in
theorem eqTable_long (t : Tb) (a a' : Value) (w : World) (ha : RdFs w a t.fields) (ha' : RdFs w a' t.fields) (hl : t.fields.length ≤ 1048600) (hs : ∀ f ∈ t.fields, SmFd f) :
    Calls Try.prog 14 #[tbV t a, tbV t a'] w fun e w' => e = .returned (.bool true) ∧ Below w.heap.size w w' := by
  have HA := Lib.hid (fun (W : World) (h : Below w.heap.size w W) => eqFieldS_long a a' t.fields W (ha.below h) (ha'.below h) hl hs)
  obtain ⟨A, ca, rfl⟩ := ha.slice
  obtain ⟨A', ca', rfl⟩ := ha'.slice
  unfold tbV
  clear ha ha'
  have B0 : Below w.heap.size w ((w.alloc (.cells #[.string ⟨t.name.toArray⟩, .slice A t.fields.length ca] 32)).alloc (.cells #[.string ⟨t.name.toArray⟩, .slice A' t.fields.length ca'] 32)) := ((Below.refl _ _).alloc (Nat.le_refl _) _).alloc (by simp) _
  go_enter Try.func14, Try.ntmps14
  go_wp2_with fail
  refine (HA.out _ B0).mono ?_
  rintro e w1 ⟨rfl, hb1⟩
  have B1 := B0.trans (hb1.mono B0.size)
  go_wp2_with fail
  go_ret
  exact ⟨rfl, B1⟩
end Go.Proofs.Ytongpnknmgbhjaa
