/-
  spec.PutHex returns two lower-case digits for every byte.
-/
import Derived.Test.YtongpnknmgbhjaaBytes
import Derived.Deep.RegionLaw
import Derived.Deep.AppendLies
namespace Go.Proofs.Ytongpnknmgbhjaa
open Go.RowKit

def hexL : List UInt8 → List UInt8
  | [] => []
  | c :: l => hexC (c.toNat / 16) :: hexC (c.toNat % 16) :: hexL l
theorem hexL_len (l : List UInt8) : (hexL l).length = 2 * l.length := by
  induction l with
  | nil => rfl
  | cons c l ih => simp [hexL, ih]; omega
theorem hexL_app (a b : List UInt8) : hexL (a ++ b) = hexL a ++ hexL b := by
  induction a with
  | nil => rfl
  | cons c l ih => simp [hexL, ih]

set_option maxHeartbeats 1000000 in
theorem specPutHex_any (s : ByteArray) (w : World) (hs : s.size ≤ 1048576) :
    Calls Try.prog 76 #[.string s] w fun e w' => e = .returned (.string ⟨(hexL s.data.toList).toArray⟩) ∧ Below w.heap.size w w' := by
  go_enter Try.func76, Try.ntmps76
  go_wp2
  go_loopw [3, 4] (fun v n wr => ∃ k : Nat, k ≤ s.size ∧ n = .int .i64 k ∧ Buf wr w.heap.size v (hexL (s.data.toList.take k)) ∧ Below w.heap.size w wr) (fun _ n _ => s.size - (intOf n).toNat)
  case atStart => exact ⟨0, Nat.zero_le _, rfl, Buf.empty w _ (Nat.le_refl _), (Below.refl _ _).alloc (Nat.le_refl _) _⟩
  case round =>
    obtain ⟨k, hk, rfl, hown, hb⟩ := hrel
    by_cases hlt : k < s.size
    · have x1 := idx_lower (s[k].toNat / 16) (by have := s[k].toNat_lt; omega) ((s[k].toNat : Int) / 16) (by omega)
      have x2 := idx_lower (s[k].toNat % 16) (by omega) ((s[k].toNat : Int) % 16) (by omega)
      have x3 := wrap_div16 s[k]
      have x4 := tmod16 s[k]
      have k0 : (0 : Int) ≤ (k : Int) := by omega
      have k1 : (k : Int) < (s.size : Int) := by omega
      have hl := hexL_len (s.data.toList.take k)
      have hlk : (s.data.toList.take k).length ≤ k := List.length_take_le _ _
      have HL : Hid ((hexL (s.data.toList.take k)).length + 2 ≤ 16777216) := Lib.hid (by omega)
      clear hl hlk
      go_wp2_with fail
      go_region_law ((refine step_append_buf (by rfl) _ _ (by rfl) w.heap.size _ _ (by rfl) (hown.alloc _).drew [hexC (s[k].toNat / 16), hexC (s[k].toNat % 16)] wr.heap.size _ _ _ _ _ (by rfl) (by rfl) (heap_alloc_new wr _) (by simp [bv]) (by simp) HL.out (by simp; exact Nat.le_succ_of_le hb.size) ?_; intro v' w2 hown2 hb2))
      all_goals
        have HB := hb.trans (((Below.refl w.heap.size wr).alloc hb.size _).drew.trans hb2)
        have HN : Hid (Buf w2 w.heap.size v' (hexL (s.data.toList.take (k + 1)))) := Lib.hid (by rw [take_snoc s k hlt, hexL_app]; exact hown2)
        go_wp2
        go_roundw
        case rel => exact ⟨k + 1, by omega, by go_num, HN.out, HB⟩
        case measure => simp [intOf]; omega
    · have hcv := hown.conv
      rw [take_end s k hlt] at hcv
      go_wp2
      go_ret
      exact ⟨rfl, hb⟩
end Go.Proofs.Ytongpnknmgbhjaa
