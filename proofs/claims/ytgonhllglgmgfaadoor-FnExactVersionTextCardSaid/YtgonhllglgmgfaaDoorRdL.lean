/-
  A slice that reads as a list of texts; laws.eqStringS.
-/
import Derived.Test.YtgonhllglgmgfaaDoorStrs
import Derived.Deep.QuietTactic
import Derived.BigQuiet
import Derived.Deep.RegionHeld3
namespace Go.Proofs.YtgonhllglgmgfaaDoor
open Go.RowKit

theorem below_drewN (n : Nat) (W : World) (k : Nat) : Below n W (W.drewN k) := ⟨rfl, rfl, rfl, Nat.le_refl _, fun _ _ => rfl⟩
theorem Strs.set {w : World} {base g cap : Nat} {l : List (List UInt8)} (h : Strs w base (.slice (some ⟨g, 0, none⟩) l.length cap) l) (k : Nat) (x : List UInt8) :
    Strs (w.setCell ⟨g, k, none⟩ (sv x)) base (.slice (some ⟨g, 0, none⟩) (l.set k x).length cap) (l.set k x) := by
  unfold Strs at h ⊢
  rw [List.length_set, List.map_set]
  exact (World.ownsRow.stored h k (sv x)).1

theorem keep_cell {W W' : World} {g k : Nat} {v : Value} (hb : Below W.heap.size W W') (hg : g < W.heap.size) (hc : W.cell? ⟨g, k, none⟩ = some v) : W'.cell? ⟨g, k, none⟩ = some v ∧ g < W'.heap.size :=
  ⟨(hb.cell (p := ⟨g, k, none⟩) hg).trans hc, Nat.lt_of_lt_of_le hg hb.size⟩

/-- The value v reads as the texts ls. -/
def RdS (w : World) (v : Value) (ls : List (List UInt8)) : Prop := ∃ A cap, v = .slice A ls.length cap ∧ (0 < ls.length → ∃ g off, A = some ⟨g, off, none⟩ ∧ g < w.heap.size ∧ ∀ k (h : k < ls.length), w.cell? ⟨g, off + k, none⟩ = some (sv ls[k]))
theorem RdS.of_strs {w : World} {base : Nat} {v : Value} {ls : List (List UInt8)} (h : Strs w base v ls) : RdS w v ls := by
  rcases h.form with ⟨rfl, rfl⟩ | ⟨g, cap, rfl, _, hg⟩
  · exact ⟨none, 0, rfl, fun h => absurd h (by simp)⟩
  · exact ⟨_, cap, rfl, fun _ => ⟨g, 0, rfl, hg, fun k hk => by rw [Nat.zero_add]; exact h.cell k hk⟩⟩
theorem RdS.below {w w' : World} {v : Value} {ls : List (List UInt8)} (h : RdS w v ls) (hb : Below w.heap.size w w') : RdS w' v ls := by
  obtain ⟨A, cap, hv, hc⟩ := h
  refine ⟨A, cap, hv, fun h0 => ?_⟩
  obtain ⟨g, off, hA, hg, hk⟩ := hc h0
  exact ⟨g, off, hA, Nat.lt_of_lt_of_le hg hb.size, fun k h => (hb.cell (p := ⟨g, off + k, none⟩) hg).trans (hk k h)⟩

set_option maxRecDepth 100000 in
set_option maxHeartbeats 1000000 in
theorem eqStringS_same (va vb : Value) (ls : List (List UInt8)) (w : World) (ha : RdS w va ls) (hb : RdS w vb ls) (hl : ls.length ≤ 16777216) :
    Calls Tryd.prog 16 #[va, vb] w fun e w' => e = .returned (.bool true) ∧ ∃ n, w' = w.drewN n := by
  obtain ⟨A, ca, rfl, ha⟩ := ha
  obtain ⟨B, cb, rfl, hb⟩ := hb
  have q0 : ((ls.length : Int) != (ls.length : Int)) = false := int_bne_false rfl
  go_enter Tryd.func16, Tryd.ntmps16
  go_wp2
  go_loopw [5] (fun i wr => ∃ k n : Nat, k ≤ ls.length ∧ i = .int .i64 k ∧ wr = w.drewN n) (fun i _ => ls.length - (intOf i).toNat)
  case atStart => exact ⟨0, 0, Nat.zero_le _, rfl, rfl⟩
  case round =>
    obtain ⟨k, n, hk, rfl, rfl⟩ := hrel
    by_cases hlt : k < ls.length
    · obtain ⟨g, off, rfl, _, hca⟩ := ha (by omega)
      obtain ⟨g2, off2, rfl, _, hcb⟩ := hb (by omega)
      have d1 : w.cell? ⟨g, off + k, none⟩ = some (.string ⟨ls[k].toArray⟩) := hca k hlt
      have d2 : w.cell? ⟨g2, off2 + k, none⟩ = some (.string ⟨ls[k].toArray⟩) := hcb k hlt
      have k0 : (0 : Int) ≤ (k : Int) := by omega
      have k1 : (k : Int) < (ls.length : Int) := by omega
      clear ha hb hca hcb
      go_wp2_with fail
      go_quiet (fail)
      go_wp2_with fail
      go_roundw
      case rel => exact ⟨k + 1, _, by omega, by go_num, rfl⟩
      case measure => simp [intOf]; omega
    · clear ha hb
      go_wp2_with fail
      go_ret
      exact ⟨rfl, n, rfl⟩
end Go.Proofs.YtgonhllglgmgfaaDoor
