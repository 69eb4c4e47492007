/-
  The laws' own helpers on lists of texts: markText, eqStringS, markStringS, heldStringS.
-/
import Derived.Test.YtgonhllglgmgfaaStrs
import Derived.Test.YtgonhllglgmgfaaDec
import Derived.Test.YtgonhllglgmgfaaBytesStr
import Derived.Deep.QuietTactic
import Derived.BigQuiet
import Derived.Deep.RegionHeld3
namespace Go.Proofs.Ytgonhllglgmgfaa
open Go.RowKit

/-- The value v reads as the texts ls. -/
def RdS (w : World) (v : Value) (ls : List (List UInt8)) : Prop := ∃ A cap, v = .slice A ls.length cap ∧ (0 < ls.length → ∃ g off, A = some ⟨g, off, none⟩ ∧ g < w.heap.size ∧ ∀ k (h : k < ls.length), w.cell? ⟨g, off + k, none⟩ = some (sv ls[k]))
theorem RdS.of_strs {w : World} {base : Nat} {v : Value} {ls : List (List UInt8)} (h : Strs w base v ls) : RdS w v ls := by
  rcases h.form with ⟨rfl, rfl⟩ | ⟨g, cap, rfl, _, hg⟩
  · exact ⟨none, 0, rfl, fun h => absurd h (by simp)⟩
  · exact ⟨_, cap, rfl, fun _ => ⟨g, 0, rfl, hg, fun k hk => by rw [Nat.zero_add]; exact h.cell k hk⟩⟩
theorem RdS.below {w w' : World} {v : Value} {ls : List (List UInt8)} (h : RdS w v ls) (hb : Below w.heap.size w w') : RdS w' v ls := by
  obtain ⟨A, cap, hv, hc⟩ := h
  refine ⟨A, cap, hv, fun h0 => ?_⟩
  obtain ⟨g, off, hA, hg, hk⟩ := hc h0
  exact ⟨g, off, hA, Nat.lt_of_lt_of_le hg hb.size, fun k h => (hb.cell (p := ⟨g, off + k, none⟩) hg).trans (hk k h)⟩

set_option maxRecDepth 100000 in
set_option maxHeartbeats 1000000 in
theorem eqStringS_same (va vb : Value) (ls : List (List UInt8)) (w : World) (ha : RdS w va ls) (hb : RdS w vb ls) (hl : ls.length ≤ 16777216) :
    Calls Try.prog 26 #[va, vb] w fun e w' => e = .returned (.bool true) ∧ ∃ n, w' = w.drewN n := by
  obtain ⟨A, ca, rfl, ha⟩ := ha
  obtain ⟨B, cb, rfl, hb⟩ := hb
  have q0 : ((ls.length : Int) != (ls.length : Int)) = false := int_bne_false rfl
  go_enter Try.func26, Try.ntmps26
  go_wp2
  go_loopw [5] (fun i wr => ∃ k n : Nat, k ≤ ls.length ∧ i = .int .i64 k ∧ wr = w.drewN n) (fun i _ => ls.length - (intOf i).toNat)
  case atStart => exact ⟨0, 0, Nat.zero_le _, rfl, rfl⟩
  case round =>
    obtain ⟨k, n, hk, rfl, rfl⟩ := hrel
    by_cases hlt : k < ls.length
    · obtain ⟨g, off, rfl, _, hca⟩ := ha (by omega)
      obtain ⟨g2, off2, rfl, _, hcb⟩ := hb (by omega)
      have d1 : w.cell? ⟨g, off + k, none⟩ = some (.string ⟨ls[k].toArray⟩) := hca k hlt
      have d2 : w.cell? ⟨g2, off2 + k, none⟩ = some (.string ⟨ls[k].toArray⟩) := hcb k hlt
      have k0 : (0 : Int) ≤ (k : Int) := by omega
      have k1 : (k : Int) < (ls.length : Int) := by omega
      clear ha hb hca hcb
      go_wp2_with fail
      go_quiet (fail)
      go_wp2_with fail
      go_roundw
      case rel => exact ⟨k + 1, _, by omega, by go_num, rfl⟩
      case measure => simp [intOf]; omega
    · clear ha hb
      go_wp2_with fail
      go_ret
      exact ⟨rfl, n, rfl⟩

/-- The k-th mark. -/
def mt (k : Nat) : List UInt8 := 109 :: Lib.decDigits k
theorem dig_val (v : Nat) : bv (digC (v % 10)) = .int .u8 (48 + (v : Int) % 10) := by
  have h : ∀ d : Nat, d < 10 → bv (digC d) = .int .u8 (48 + (d : Int)) := by
    intro d hd
    unfold bv digC
    congr 1
    simp
    omega
  rw [h _ (by omega)]
  congr 1

set_option maxRecDepth 100000 in
set_option maxHeartbeats 1000000 in
theorem markText_any (u : Nat) (w : World) (h1 : 1 ≤ u) (h2 : u ≤ 100000000) :
    Calls Try.prog 50 #[.int .i64 (u : Int)] w fun e w' => e = .returned (.string ⟨(mt u).toArray⟩) ∧ Below w.heap.size w w' := by
  go_enter Try.func50, Try.ntmps50
  go_wp2
  go_loopw [0, 3] (fun m o wr => ∃ (v : Nat) (l : List UInt8), o = .string ⟨l.toArray⟩ ∧ m = .int .i64 (v : Int) ∧ v ≤ u ∧ DecAt u v l ∧ Below w.heap.size w wr) (fun m _ _ => (intOf m).toNat)
  case atStart => exact ⟨u, [], rfl, rfl, Nat.le_refl _, decAt_start u (by omega), Below.refl _ _⟩
  case round =>
    obtain ⟨v, l, rfl, rfl, hvu, H, hb⟩ := hrel
    have hl := decAt_len H (by omega)
    by_cases hv : v = 0
    · subst hv
      obtain rfl := decAt_end H
      clear H
      go_wp2
      go_ret
      exact ⟨congrArg Ending.returned (str_cons _ _), hb⟩
    · have HN := Lib.hid (decAt_step H (by omega))
      have hpos : (0 : Int) < (v : Int) := by omega
      have hcv := (Buf.lit wr w.heap.size [digC (v % 10)] hb.size (by simp)).conv
      have hdv := dig_val v
      simp only [List.map_cons, List.map_nil, hdv, List.length_cons, List.length_nil, Nat.zero_add] at hcv
      clear hdv H hv
      go_wp2
      go_roundw
      case rel => exact ⟨v / 10, _, str_cons _ _, by go_num, by omega, HN.out, hb.alloc hb.size _⟩
      case measure => simp [intOf]; omega
end Go.Proofs.Ytgonhllglgmgfaa
