/-
  Whether a text is in a list: spec.l04Has.
-/
import Derived.Test.YthlbpklllphhcaaRdL
namespace Go.Proofs.Ythlbpklllphhcaa
open Go.RowKit

theorem mem_take_next {ls : List (List UInt8)} {s : List UInt8} {k : Nat} (h : k < ls.length) (hn : s ∉ ls.take k) (hne : ls[k] ≠ s) : s ∉ ls.take (k + 1) := by
  rw [List.take_succ_eq_append_getElem h, List.mem_append]
  rintro (h1 | h1)
  · exact hn h1
  · simp at h1; exact hne h1.symm

set_option maxRecDepth 100000 in
set_option maxHeartbeats 1000000 in
theorem l04Has_any (v : Value) (ls : List (List UInt8)) (s : List UInt8) (w : World) (hr : RdS w v ls) (hl : ls.length ≤ 16777216) :
    Calls Try.prog 124 #[v, .string ⟨s.toArray⟩] w fun e w' => e = .returned (.bool (decide (s ∈ ls))) ∧ w' = w := by
  obtain ⟨A, ca, rfl, ha⟩ := hr
  obtain ⟨r, HR⟩ : ∃ r, Hid (decide (s ∈ ls) = r) := ⟨_, Lib.hid rfl⟩
  rw [HR.out]
  go_enter Try.func124, Try.ntmps124
  go_wp2
  go_loopw [5] (fun i wr => ∃ k : Nat, k ≤ ls.length ∧ i = .int .i64 k ∧ Hid (s ∉ ls.take k) ∧ wr = w) (fun i _ => ls.length - (intOf i).toNat)
  case atStart => exact ⟨0, Nat.zero_le _, rfl, Lib.hid (by simp), rfl⟩
  case round =>
    obtain ⟨k, hk, rfl, HN, rfl⟩ := hrel
    by_cases hlt : k < ls.length
    · obtain ⟨g, off, rfl, _, hca⟩ := ha (by omega)
      have d1 : wr.cell? ⟨g, off + k, none⟩ = some (.string ⟨ls[k].toArray⟩) := hca k hlt
      have k0 : (0 : Int) ≤ (k : Int) := by omega
      have k1 : (k : Int) < (ls.length : Int) := by omega
      clear ha hca
      by_cases he : ls[k] = s
      · have HT : Hid (r = true) := Lib.hid (by rw [← HR.out]; exact decide_eq_true (by rw [← he]; exact List.getElem_mem hlt))
        have q1 : ((⟨ls[k].toArray⟩ : ByteArray).toList == (⟨s.toArray⟩ : ByteArray).toList) = true := by rw [he]; simp
        have q2 : (ls[k] == s) = true := by rw [he]; simp
        go_wp2_with fail
        go_ret
        exact ⟨ret_bool HT.out.symm, rfl⟩
      · have HN2 := Lib.hid (mem_take_next hlt HN.out he)
        have q1 : ((⟨ls[k].toArray⟩ : ByteArray).toList == (⟨s.toArray⟩ : ByteArray).toList) = false := by rw [ByteArray.toList_eq, ByteArray.toList_eq]; simpa using he
        have q2 : (ls[k] == s) = false := by simpa using he
        go_wp2_with fail
        go_roundw
        case rel => exact ⟨k + 1, by omega, by go_num, HN2, trivial⟩
        case measure => simp [intOf]; omega
    · have HT : Hid (r = false) := Lib.hid (by rw [← HR.out]; have := HN.out; rw [List.take_of_length_le (by omega)] at this; exact decide_eq_false this)
      clear ha
      go_wp2_with fail
      go_ret
      exact ⟨ret_bool HT.out.symm, rfl⟩
end Go.Proofs.Ythlbpklllphhcaa
