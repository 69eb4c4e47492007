/-
  For every string, impl.Indent and spec.Indent both return the number of leading spaces.
-/
import Derived.Test.YtebilgnaiamfpaaRows
import Derived.Test.YtebilgnaiamfpaaBase
namespace Go.Proofs.Ytebilgnaiamfpaa
open Go.RowKit

def lead : List UInt8 → Nat
  | [] => 0
  | c :: l => if c = 32 then lead l + 1 else 0

theorem lead_le (l : List UInt8) : lead l ≤ l.length := by
  induction l with
  | nil => simp [lead]
  | cons c l ih => simp only [lead]; split <;> simp <;> omega

set_option maxHeartbeats 400000 in
theorem implIndent_any (s : ByteArray) (w : World) (hs : s.size ≤ maxLen) :
    Calls Try.prog 27 #[.string s] w fun e w' => e = .returned (.int .i64 (lead s.data.toList)) ∧ w = w' := by
  unfold maxLen at hs
  go_enter Try.func27, Try.ntmps27
  go_wp2
  go_loop [3] (fun n => ∃ k : Nat, k ≤ s.size ∧ n = .int .i64 k ∧ Hid (lead s.data.toList = k + lead (s.data.toList.drop k))) (fun n => s.size - (intOf n).toNat)
  case atStart => exact ⟨0, Nat.zero_le _, rfl, Lib.hid (by simp)⟩
  case round =>
    obtain ⟨k, hk, rfl, H⟩ := hrel
    by_cases hlt : k < s.size
    · by_cases hc : s[k] = 32
      · have hb : ((s[k].toNat : Int) == 32) = true := by rw [hc]; rfl
        have HC := Lib.hid hc
        clear hc
        go_wp2
        go_round
        case rel =>
          refine ⟨k + 1, by omega, by go_num, Lib.hid ?_⟩
          rw [H.out, drop_cons s k hlt, lead, if_pos HC.out]; omega
        case measure => simp [intOf]; omega
      · have hb : ((s[k].toNat : Int) == 32) = false := by
          rw [beq_eq_false_iff_ne]; intro h
          exact hc (UInt8.toNat_inj.1 (by show _ = (32 : Nat); omega))
        have HC := Lib.hid hc
        clear hc
        go_wp2
        go_ret
        refine ⟨?_, rfl⟩
        rw [H.out, drop_cons s k hlt, lead, if_neg HC.out]; rfl
    · go_wp2
      go_ret
      refine ⟨?_, rfl⟩
      rw [H.out, List.drop_of_length_le (by simp; omega)]; rfl

set_option maxHeartbeats 400000 in
theorem specIndent_any (s : ByteArray) (w : World) (hs : s.size ≤ maxLen) :
    Calls Try.prog 26 #[.string s] w fun e w' => e = .returned (.int .i64 (lead s.data.toList)) ∧ w = w' := by
  unfold maxLen at hs
  go_enter Try.func26, Try.ntmps26
  go_wp2
  go_loop [3] (fun n => ∃ k : Nat, k ≤ s.size ∧ n = .int .i64 k ∧ Hid (lead s.data.toList = k + lead (s.data.toList.drop k))) (fun n => s.size - (intOf n).toNat)
  case atStart => exact ⟨0, Nat.zero_le _, rfl, Lib.hid (by simp)⟩
  case round =>
    obtain ⟨k, hk, rfl, H⟩ := hrel
    by_cases hlt : k < s.size
    · by_cases hc : s[k] = 32
      · have hb : ((s[k].toNat : Int) == 32) = true := by rw [hc]; rfl
        have HC := Lib.hid hc
        clear hc
        go_wp2
        go_round
        case rel =>
          refine ⟨k + 1, by omega, by go_num, Lib.hid ?_⟩
          rw [H.out, drop_cons s k hlt, lead, if_pos HC.out]; omega
        case measure => simp [intOf]; omega
      · have hb : ((s[k].toNat : Int) == 32) = false := by
          rw [beq_eq_false_iff_ne]; intro h
          exact hc (UInt8.toNat_inj.1 (by show _ = (32 : Nat); omega))
        have HC := Lib.hid hc
        clear hc
        go_wp2
        go_ret
        refine ⟨?_, rfl⟩
        rw [H.out, drop_cons s k hlt, lead, if_neg HC.out]; rfl
    · go_wp2
      go_ret
      refine ⟨?_, rfl⟩
      rw [H.out, List.drop_of_length_le (by simp; omega)]; rfl
end Go.Proofs.Ytebilgnaiamfpaa
