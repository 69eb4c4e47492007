/-
  For every string of at most maxLen bytes, spec.PlainOk returns whether all bytes are plain and there are at most 100.
-/
import Derived.Test.YtcfkhfbhmjfhdaaGreatDoorRows
import Derived.Test.YtcfkhfbhmjfhdaaGreatDoorBase
namespace Go.Proofs.YtcfkhfbhmjfhdaaGreatDoor
open Go.RowKit

def plainB (c : UInt8) : Bool := decide (33 ≤ (c.toNat : Int) ∧ (c.toNat : Int) ≤ 126 ∧ ¬ (c.toNat : Int) = 34 ∧ ¬ (c.toNat : Int) = 39 ∧ ¬ (c.toNat : Int) = 44 ∧ ¬ (c.toNat : Int) = 92)
def plainL (l : List UInt8) : Bool := l.all plainB && decide (l.length ≤ 100)

theorem plain_bad (s : ByteArray) (k : Nat) (h : k < s.size) (hb : plainB s[k] = false) : plainL s.data.toList = false := by
  have hm : s[k] ∈ s.data.toList := by
    have : s[k] = s.data.toList[k]'(by simpa using h) := rfl
    rw [this]; exact List.getElem_mem _
  unfold plainL
  rw [Bool.and_eq_false_iff]; left
  rw [List.all_eq_false]
  exact ⟨_, hm, by simp [hb]⟩
theorem plain_ways (c : UInt8) : (c.toNat : Int) < 33 ∨ 126 < (c.toNat : Int) ∨ (c.toNat : Int) = 34 ∨ (c.toNat : Int) = 39 ∨ (c.toNat : Int) = 44 ∨ (c.toNat : Int) = 92 ∨ plainB c = true := by
  by_cases h : plainB c = true
  · simp [h]
  · unfold plainB at h; simp at h; omega
theorem plain_not {c : UInt8} (h : (c.toNat : Int) < 33 ∨ 126 < (c.toNat : Int) ∨ (c.toNat : Int) = 34 ∨ (c.toNat : Int) = 39 ∨ (c.toNat : Int) = 44 ∨ (c.toNat : Int) = 92) : plainB c = false := by
  unfold plainB; simp; omega
theorem plain_yes {c : UInt8} (h : plainB c = true) : 33 ≤ (c.toNat : Int) ∧ (c.toNat : Int) ≤ 126 ∧ ((c.toNat : Int) == 34) = false ∧ ((c.toNat : Int) == 39) = false ∧ ((c.toNat : Int) == 44) = false ∧ ((c.toNat : Int) == 92) = false := by
  unfold plainB at h; simp only [decide_eq_true_eq] at h
  exact ⟨h.1, h.2.1, int_beq_false h.2.2.1, int_beq_false h.2.2.2.1, int_beq_false h.2.2.2.2.1, int_beq_false h.2.2.2.2.2⟩
theorem all_step (s : ByteArray) (k : Nat) (p : UInt8 → Bool) (h : k < s.size) (ha : (s.data.toList.take k).all p = true) (hb : p s[k] = true) : (s.data.toList.take (k + 1)).all p = true := by
  rw [take_snoc s k h, List.all_append, ha]; simp [hb]

set_option maxRecDepth 100000 in
set_option maxHeartbeats 1000000 in
theorem specPlainOk_any (s : ByteArray) (w : World) (hs : s.size ≤ maxLen) :
    Calls Tryz.prog 41 #[.string s] w fun e w' => e = .returned (.bool (plainL s.data.toList)) ∧ w = w' := by
  unfold maxLen at hs
  go_enter Tryz.func41, Tryz.ntmps41
  go_wp2
  go_loop [3] (fun n => ∃ k : Nat, k ≤ s.size ∧ n = .int .i64 k ∧ Hid ((s.data.toList.take k).all plainB = true)) (fun n => s.size - (intOf n).toNat)
  case atStart => exact ⟨0, Nat.zero_le _, rfl, Lib.hid (by simp)⟩
  case round =>
    obtain ⟨k, hk, rfl, H⟩ := hrel
    by_cases hlt : k < s.size
    · rcases plain_ways s[k] with h | h | h | h | h | h | h
      case inr.inr.inr.inr.inr.inr =>
        obtain ⟨h1, h2, h3, h4, h5, h6⟩ := plain_yes h
        have HH := Lib.hid h
        clear h
        go_wp2
        go_round
        case rel => exact ⟨k + 1, by omega, by go_num, Lib.hid (all_step s k _ hlt H.out HH.out)⟩
        case measure => simp [intOf]; omega
      case inl =>
        have HH := Lib.hid (plain_bad s k hlt (plain_not (by omega)))
        have b2 := (byte_lt s[k]).2
        go_wp2
        go_ret
        exact ⟨ret_bool HH.out.symm, rfl⟩
      case inr.inl =>
        have HH := Lib.hid (plain_bad s k hlt (plain_not (by omega)))
        have b1 := (byte_lt s[k]).1
        go_wp2
        go_ret
        exact ⟨ret_bool HH.out.symm, rfl⟩
      all_goals
        have HH := Lib.hid (plain_bad s k hlt (plain_not (by omega)))
        go_wp2
        go_ret
        exact ⟨ret_bool HH.out.symm, rfl⟩
    · have HH : Hid (plainL s.data.toList = decide (s.size ≤ 100)) := Lib.hid (by
        have := H.out
        rw [take_end s k hlt] at this
        unfold plainL; rw [this]; simp)
      by_cases hl : s.size ≤ 100
      · have hl2 : s.size < 20000 := by omega
        go_wp2
        go_ret
        exact ⟨ret_bool (by rw [HH.out]; simp [hl]; omega), rfl⟩
      · go_wp2
        go_ret
        exact ⟨ret_bool (by rw [HH.out]; simp [hl]), rfl⟩
end Go.Proofs.YtcfkhfbhmjfhdaaGreatDoor
