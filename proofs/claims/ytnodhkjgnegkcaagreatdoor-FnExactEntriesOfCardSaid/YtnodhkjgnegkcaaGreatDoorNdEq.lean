/-
  The laws' own comparison of lists of needs.
-/
import Derived.Test.YtnodhkjgnegkcaaGreatDoorNdBnd
import Derived.Deep.RegionWith
namespace Go.Proofs.YtnodhkjgnegkcaaGreatDoor.Ndk
open Go.RowKit

set_option maxRecDepth 100000 in
set_option maxHeartbeats 1000000 in
theorem eqNeed_same (b c : ByteArray) (w : World) :
    Calls Tryz.prog 156 #[.agg #[.string b, .string c], .agg #[.string b, .string c]] w fun e w' => e = .returned (.bool true) ∧ Below w.heap.size w w' := by
  go_enter Tryz.func156, Tryz.ntmps156
  go_wp2_with fail
  go_ret
  exact ⟨rfl, ((Below.refl _ _).alloc (Nat.le_refl _) _).alloc (by simp) _⟩

set_option maxRecDepth 100000 in
set_option maxHeartbeats 1000000 in
theorem eqNeedS_same (va vb : Value) (bs : List Bd) (w : World) (ha : RdB w va bs) (hb : RdB w vb bs) (hl : bs.length ≤ 16777216) :
    Calls Tryz.prog 101 #[va, vb] w fun e w' => e = .returned (.bool true) ∧ Below w.heap.size w w' := by
  have HA := Lib.hid ha
  have HB := Lib.hid hb
  obtain ⟨A, ca, rfl, ha⟩ := ha
  obtain ⟨B, cb, rfl, hb⟩ := hb
  have q0 : ((bs.length : Int) != (bs.length : Int)) = false := int_bne_false rfl
  clear ha hb
  go_enter Tryz.func101, Tryz.ntmps101
  go_wp2_with fail
  go_loopw [5] (fun i wr => ∃ k : Nat, k ≤ bs.length ∧ i = .int .i64 k ∧ Below w.heap.size w wr) (fun i _ => bs.length - (intOf i).toNat)
  case atStart => exact ⟨0, Nat.zero_le _, rfl, Below.refl _ _⟩
  case round =>
    obtain ⟨k, hk, rfl, hw⟩ := hrel
    by_cases hlt : k < bs.length
    · obtain ⟨A', ca', hv, ha⟩ := HA.out.below hw
      simp only [Value.slice.injEq] at hv
      obtain ⟨rfl, _, rfl⟩ := hv
      obtain ⟨B', cb', hv, hb⟩ := HB.out.below hw
      simp only [Value.slice.injEq] at hv
      obtain ⟨rfl, _, rfl⟩ := hv
      obtain ⟨g, off, rfl, _, hca⟩ := ha (by omega)
      obtain ⟨g2, off2, rfl, _, hcb⟩ := hb (by omega)
      have d1 : wr.cell? ⟨g, off + k * 2, none⟩ = some (.string ⟨bs[k].1.toArray⟩) := (hca k hlt).1
      have d2 : wr.cell? ⟨g, off + k * 2 + 1, none⟩ = some (.string ⟨bs[k].2.toArray⟩) := (hca k hlt).2
      have d3 : wr.cell? ⟨g2, off2 + k * 2, none⟩ = some (.string ⟨bs[k].1.toArray⟩) := (hcb k hlt).1
      have d4 : wr.cell? ⟨g2, off2 + k * 2 + 1, none⟩ = some (.string ⟨bs[k].2.toArray⟩) := (hcb k hlt).2
      have k0 : (0 : Int) ≤ (k : Int) := by omega
      have k1 : (k : Int) < (bs.length : Int) := by omega
      clear ha hb hca hcb
      go_wp2_with fail
      go_region_with (first | (go_at_call 156; refine (eqNeed_same _ _ _).mono ?_; rintro e w1 ⟨rfl, hb1⟩))
      all_goals
        go_wp2_with fail
        go_roundw
        case rel => exact ⟨k + 1, by omega, by go_num, hw.trans ((below_drewN _ _ 1).trans (hb1.mono (by first | exact Nat.le_refl _ | exact hw.size)))⟩
        case measure => simp [intOf]; omega
    · go_wp2_with fail
      go_ret
      exact ⟨rfl, hw⟩
end Go.Proofs.YtnodhkjgnegkcaaGreatDoor.Ndk
