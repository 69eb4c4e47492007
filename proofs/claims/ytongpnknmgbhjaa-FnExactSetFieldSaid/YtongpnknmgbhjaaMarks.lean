/-
  The laws' own helper markText: a mark's text.
-/
import Derived.Test.YtongpnknmgbhjaaRdL
import Derived.Test.YtongpnknmgbhjaaDecM
import Derived.Test.YtongpnknmgbhjaaBytesStr
import Derived.Deep.QuietTactic
import Derived.BigQuiet
import Derived.Deep.RegionHeld3
namespace Go.Proofs.Ytongpnknmgbhjaa
open Go.RowKit

/-- The k-th mark. -/
def mt (k : Nat) : List UInt8 := 109 :: Lib.decDigits k
theorem dig_val (v : Nat) : bv (digC (v % 10)) = .int .u8 (48 + (v : Int) % 10) := by
  have h : ∀ d : Nat, d < 10 → bv (digC d) = .int .u8 (48 + (d : Int)) := by
    intro d hd
    unfold bv digC
    congr 1
    simp
    omega
  rw [h _ (by omega)]
  congr 1

set_option maxRecDepth 100000 in
set_option maxHeartbeats 1000000 in
theorem markText_any (u : Nat) (w : World) (h1 : 1 ≤ u) (h2 : u ≤ 100000000) :
    Calls Try.prog 64 #[.int .i64 (u : Int)] w fun e w' => e = .returned (.string ⟨(mt u).toArray⟩) ∧ Below w.heap.size w w' := by
  go_enter Try.func64, Try.ntmps64
  go_wp2
  go_loopw [0, 3] (fun m o wr => ∃ (v : Nat) (l : List UInt8), o = .string ⟨l.toArray⟩ ∧ m = .int .i64 (v : Int) ∧ v ≤ u ∧ DecAt u v l ∧ Below w.heap.size w wr) (fun m _ _ => (intOf m).toNat)
  case atStart => exact ⟨u, [], rfl, rfl, Nat.le_refl _, decAt_start u (by omega), Below.refl _ _⟩
  case round =>
    obtain ⟨v, l, rfl, rfl, hvu, H, hb⟩ := hrel
    have hl := decAt_len H (by omega)
    by_cases hv : v = 0
    · subst hv
      obtain rfl := decAt_end H
      clear H
      go_wp2
      go_ret
      exact ⟨congrArg Ending.returned (str_cons _ _), hb⟩
    · have HN := Lib.hid (decAt_step H (by omega))
      have hpos : (0 : Int) < (v : Int) := by omega
      have hcv := (Buf.lit wr w.heap.size [digC (v % 10)] hb.size (by simp)).conv
      have hdv := dig_val v
      simp only [List.map_cons, List.map_nil, hdv, List.length_cons, List.length_nil, Nat.zero_add] at hcv
      clear hdv H hv
      go_wp2
      go_roundw
      case rel => exact ⟨v / 10, _, str_cons _ _, by go_num, by omega, HN.out, hb.alloc hb.size _⟩
      case measure => simp [intOf]; omega
end Go.Proofs.Ytongpnknmgbhjaa
