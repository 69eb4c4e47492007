/-
  What may be a key of a field: spec.l07Key, impl.fieldKeyOk.
-/
import Derived.Test.YthlbpklllphhcaaChar
import Derived.Test.YthlbpklllphhcaaCharN
import Derived.Test.YthlbpklllphhcaaCharI
namespace Go.Proofs.Ythlbpklllphhcaa
open Go.RowKit

def kyI (z : Int) : Bool := decide ((97 ≤ z ∧ z ≤ 122) ∨ (48 ≤ z ∧ z ≤ 57) ∨ z = 95 ∨ z = 45)
def kyB (c : UInt8) : Bool := kyI (c.toNat : Int)
/-- A right key. -/
def keyOk (l : List UInt8) : Bool := l.all kyB && (decide (1 ≤ l.length) && decide (l.length ≤ 30))
theorem bneq {z c : Int} {b : Bool} (h : (z == c) = b) : (z != c) = !b := by unfold bne; rw [h]
theorem ky_ways (z : Int) : lettI z = true ∨ (lettI z = false ∧ (z == 95) = true) ∨ (lettI z = false ∧ (z == 95) = false ∧ (z == 45) = true) ∨ (lettI z = false ∧ (z == 95) = false ∧ (z == 45) = false) := by
  cases lettI z <;> simp <;> omega
theorem ky_yes {z : Int} (h : lettI z = true ∨ (z == 95) = true ∨ (z == 45) = true) : kyI z = true := by
  unfold lettI at h; unfold kyI; simp at h ⊢; omega
theorem ky_no {z : Int} (h : lettI z = false ∧ (z == 95) = false ∧ (z == 45) = false) : kyI z = false := by
  unfold lettI at h; unfold kyI; simp at h ⊢; omega
theorem kyj_ways (z : Int) : lowI z = true ∨ (lowI z = false ∧ digI z = true) ∨ (lowI z = false ∧ digI z = false ∧ (z == 95) = true) ∨ (lowI z = false ∧ digI z = false ∧ (z == 95) = false ∧ (z == 45) = true) ∨ (lowI z = false ∧ digI z = false ∧ (z == 95) = false ∧ (z == 45) = false) := by
  cases lowI z <;> cases digI z <;> simp <;> omega
theorem kyj_yes {z : Int} (h : lowI z = true ∨ digI z = true ∨ (z == 95) = true ∨ (z == 45) = true) : kyI z = true := by
  unfold lowI digI at h; unfold kyI; simp at h ⊢; omega
theorem kyj_no {z : Int} (h : lowI z = false ∧ digI z = false ∧ (z == 95) = false ∧ (z == 45) = false) : kyI z = false := by
  unfold lowI digI at h; unfold kyI; simp at h ⊢; omega
theorem ky_bad (s : ByteArray) (k : Nat) (h : k < s.size) (hb : kyI (s[k].toNat : Int) = false) : keyOk s.data.toList = false := by
  have hm : s[k] ∈ s.data.toList := by
    have : s[k] = s.data.toList[k]'(by simpa using h) := rfl
    rw [this]; exact List.getElem_mem _
  unfold keyOk
  rw [Bool.and_eq_false_iff]; left
  rw [List.all_eq_false]
  exact ⟨_, hm, by unfold kyB; simp [hb]⟩
theorem ky_step (s : ByteArray) (k : Nat) (h : k < s.size) (ha : (s.data.toList.take k).all kyB = true) (hb : kyI (s[k].toNat : Int) = true) : (s.data.toList.take (k + 1)).all kyB = true := by
  rw [take_snoc s k h, List.all_append, ha]; simp [kyB, hb]
theorem ky_end (s : ByteArray) (k : Nat) (h : ¬ k < s.size) (ha : (s.data.toList.take k).all kyB = true) : keyOk s.data.toList = (decide (1 ≤ s.size) && decide (s.size ≤ 30)) := by
  rw [take_end s k h] at ha
  unfold keyOk; rw [ha]; simp

set_option maxRecDepth 100000 in
set_option maxHeartbeats 2000000 in
theorem l07KeyB_any (s : ByteArray) (w : World) (hs : s.size ≤ maxLen) :
    Calls Try.prog 106 #[.string s] w fun e w' => e = .returned (.bool (keyOk s.data.toList)) ∧ w = w' := by
  unfold maxLen at hs
  obtain ⟨r, HR⟩ : ∃ r, Hid (keyOk s.data.toList = r) := ⟨_, Lib.hid rfl⟩
  rw [HR.out]
  go_enter Try.func106, Try.ntmps106
  go_wp2
  go_loopw [3] (fun n wr => ∃ k : Nat, k ≤ s.size ∧ n = .int .i64 k ∧ Hid ((s.data.toList.take k).all kyB = true) ∧ wr = w) (fun n _ => s.size - (intOf n).toNat)
  case atStart => exact ⟨0, Nat.zero_le _, rfl, Lib.hid (by simp), rfl⟩
  case round =>
    obtain ⟨k, hk, rfl, H, rfl⟩ := hrel
    by_cases hlt : k < s.size
    · have k0 : (0 : Int) ≤ (k : Int) := by omega
      have k1 : (k : Int) < (s.size : Int) := by omega
      obtain ⟨c1, c2⟩ := byte_lt s[k]
      have HY := Lib.hid (fun hb => ky_step s k hlt H.out hb)
      have HN := Lib.hid (fun hb => HR.out.symm.trans (ky_bad s k hlt hb))
      rcases ky_ways (s[k].toNat : Int) with q | ⟨q, h1⟩ | ⟨q, h1, h2⟩ | ⟨q, h1, h2⟩
      · have HX := Lib.hid (HY.out (ky_yes (.inl q)))
        have HS := Lib.hid q
        clear HY HN H q
        go_wp2_with fail
        refine (l01Letter_any _ _ c2 c1).mono ?_
        rw [HS.out]
        rintro e w1 ⟨rfl, rfl⟩
        go_wp2_with fail
        go_roundw
        case rel => exact ⟨k + 1, by omega, by go_num, HX, trivial⟩
        case measure => simp [intOf]; omega
      · have HX := Lib.hid (HY.out (ky_yes (.inr (.inl h1))))
        have HS := Lib.hid q
        have yh1 := bneq h1
        clear HY HN H q h1
        go_wp2_with fail
        refine (l01Letter_any _ _ c2 c1).mono ?_
        rw [HS.out]
        rintro e w1 ⟨rfl, rfl⟩
        go_wp2_with fail
        go_roundw
        case rel => exact ⟨k + 1, by omega, by go_num, HX, trivial⟩
        case measure => simp [intOf]; omega
      · have HX := Lib.hid (HY.out (ky_yes (.inr (.inr h2))))
        have HS := Lib.hid q
        have yh1 := bneq h1
        have yh2 := bneq h2
        clear HY HN H q h1 h2
        go_wp2_with fail
        refine (l01Letter_any _ _ c2 c1).mono ?_
        rw [HS.out]
        rintro e w1 ⟨rfl, rfl⟩
        go_wp2_with fail
        go_roundw
        case rel => exact ⟨k + 1, by omega, by go_num, HX, trivial⟩
        case measure => simp [intOf]; omega
      · have HX := Lib.hid (HN.out (ky_no ⟨q, h1, h2⟩))
        have HS := Lib.hid q
        have yh1 := bneq h1
        have yh2 := bneq h2
        clear HY HN H q h1 h2
        go_wp2_with fail
        refine (l01Letter_any _ _ c2 c1).mono ?_
        rw [HS.out]
        rintro e w1 ⟨rfl, rfl⟩
        go_wp2_with fail
        go_ret
        exact ⟨ret_bool HX.out.symm, rfl⟩
    · have HX : Hid (r = inI (s.size : Int) 1 30) := Lib.hid (by rw [← HR.out, ky_end s k hlt H.out]; unfold inI; congr 1 <;> (simp <;> omega))
      clear H
      go_wp2_with fail
      refine (l01In_any (s.size : Int) 1 30 _).mono ?_
      rintro e w1 ⟨rfl, rfl⟩
      go_wp2_with fail
      go_ret
      exact ⟨ret_bool HX.out.symm, rfl⟩

set_option maxRecDepth 100000 in
set_option maxHeartbeats 2000000 in
theorem fieldKeyOkB_any (s : ByteArray) (w : World) (hs : s.size ≤ maxLen) :
    Calls Try.prog 88 #[.string s] w fun e w' => e = .returned (.bool (keyOk s.data.toList)) ∧ w = w' := by
  unfold maxLen at hs
  obtain ⟨r, HR⟩ : ∃ r, Hid (keyOk s.data.toList = r) := ⟨_, Lib.hid rfl⟩
  rw [HR.out]
  go_enter Try.func88, Try.ntmps88
  go_wp2
  go_loopw [3, 6] (fun _ n wr => ∃ k : Nat, k ≤ s.size ∧ n = .int .i64 k ∧ Hid ((s.data.toList.take k).all kyB = true) ∧ wr = w) (fun _ n _ => s.size - (intOf n).toNat)
  case atStart => exact ⟨0, Nat.zero_le _, rfl, Lib.hid (by simp), rfl⟩
  case round =>
    obtain ⟨k, hk, rfl, H, rfl⟩ := hrel
    by_cases hlt : k < s.size
    · have k0 : (0 : Int) ≤ (k : Int) := by omega
      have k1 : (k : Int) < (s.size : Int) := by omega
      obtain ⟨c1, c2⟩ := byte_lt s[k]
      have HY := Lib.hid (fun hb => ky_step s k hlt H.out hb)
      have HN := Lib.hid (fun hb => HR.out.symm.trans (ky_bad s k hlt hb))
      rcases kyj_ways (s[k].toNat : Int) with q | ⟨q, p⟩ | ⟨q, p, h1⟩ | ⟨q, p, h1, h2⟩ | ⟨q, p, h1, h2⟩
      · have HX := Lib.hid (HY.out (kyj_yes (.inl q)))
        have HS := Lib.hid q
        clear HY HN H q
        go_wp2_with fail
        refine (isLower_any _ _ c2 c1).mono ?_
        rw [HS.out]
        rintro e w1 ⟨rfl, rfl⟩
        go_wp2_with fail
        go_roundw
        case rel => exact ⟨k + 1, by omega, by go_num, HX, trivial⟩
        case measure => simp [intOf]; omega
      · have HX := Lib.hid (HY.out (kyj_yes (.inr (.inl p))))
        have HS := Lib.hid q
        have HP := Lib.hid p
        clear HY HN H q p
        go_wp2_with fail
        refine (isLower_any _ _ c2 c1).mono ?_
        rw [HS.out]
        rintro e w1 ⟨rfl, rfl⟩
        go_wp2_with fail
        refine (isDigit_any _ _ c2 c1).mono ?_
        rw [HP.out]
        rintro e w1 ⟨rfl, rfl⟩
        go_wp2_with fail
        go_roundw
        case rel => exact ⟨k + 1, by omega, by go_num, HX, trivial⟩
        case measure => simp [intOf]; omega
      · have HX := Lib.hid (HY.out (kyj_yes (.inr (.inr (.inl h1)))))
        have HS := Lib.hid q
        have HP := Lib.hid p
        have yh1 := bneq h1
        clear HY HN H q p h1
        go_wp2_with fail
        refine (isLower_any _ _ c2 c1).mono ?_
        rw [HS.out]
        rintro e w1 ⟨rfl, rfl⟩
        go_wp2_with fail
        refine (isDigit_any _ _ c2 c1).mono ?_
        rw [HP.out]
        rintro e w1 ⟨rfl, rfl⟩
        go_wp2_with fail
        go_roundw
        case rel => exact ⟨k + 1, by omega, by go_num, HX, trivial⟩
        case measure => simp [intOf]; omega
      · have HX := Lib.hid (HY.out (kyj_yes (.inr (.inr (.inr h2)))))
        have HS := Lib.hid q
        have HP := Lib.hid p
        have yh1 := bneq h1
        have yh2 := bneq h2
        clear HY HN H q p h1 h2
        go_wp2_with fail
        refine (isLower_any _ _ c2 c1).mono ?_
        rw [HS.out]
        rintro e w1 ⟨rfl, rfl⟩
        go_wp2_with fail
        refine (isDigit_any _ _ c2 c1).mono ?_
        rw [HP.out]
        rintro e w1 ⟨rfl, rfl⟩
        go_wp2_with fail
        go_roundw
        case rel => exact ⟨k + 1, by omega, by go_num, HX, trivial⟩
        case measure => simp [intOf]; omega
      · have HX := Lib.hid (HN.out (kyj_no ⟨q, p, h1, h2⟩))
        have HS := Lib.hid q
        have HP := Lib.hid p
        have yh1 := bneq h1
        have yh2 := bneq h2
        clear HY HN H q p h1 h2
        go_wp2_with fail
        refine (isLower_any _ _ c2 c1).mono ?_
        rw [HS.out]
        rintro e w1 ⟨rfl, rfl⟩
        go_wp2_with fail
        refine (isDigit_any _ _ c2 c1).mono ?_
        rw [HP.out]
        rintro e w1 ⟨rfl, rfl⟩
        go_wp2_with fail
        go_ret
        exact ⟨ret_bool HX.out.symm, rfl⟩
    · have HE := Lib.hid (ky_end s k hlt H.out)
      clear H
      obtain ⟨l, hl⟩ : ∃ l, l = s.data.toList := ⟨_, rfl⟩
      have HSL : Hid (s = ⟨l.toArray⟩ ∧ s.size = l.length) := Lib.hid ⟨by rw [hl], by rw [hl]; simp⟩
      by_cases h0 : l = []
      · have HX : Hid (r = false) := Lib.hid (by rw [← HR.out, HE.out, HSL.out.2, h0]; simp)
        have hse : s = ⟨#[]⟩ := by rw [HSL.out.1, h0]
        subst hse
        clear HE hl
        go_wp2_with fail
        go_ret
        exact ⟨ret_bool HX.out.symm, rfl⟩
      · have HX : Hid (r = decide ((s.size : Int) ≤ 30)) := Lib.hid (by
          have h1 : 1 ≤ s.size := by rw [HSL.out.2]; exact List.length_pos_iff.2 h0
          rw [← HR.out, HE.out, decide_eq_true h1, Bool.true_and]
          congr 1
          apply propext
          omega)
        have n1 : s.toList.isEmpty = false := by rw [ByteArray.toList_eq, ← hl]; simpa using h0
        clear HE hl
        go_wp2_with fail
        go_ret
        exact ⟨ret_bool HX.out.symm, rfl⟩

theorem l07Key_any (l : List UInt8) (w : World) (hs : l.length ≤ 1048576) :
    Calls Try.prog 106 #[.string ⟨l.toArray⟩] w fun e w' => e = .returned (.bool (keyOk l)) ∧ w = w' := by
  have := l07KeyB_any ⟨l.toArray⟩ w (by show l.toArray.size ≤ maxLen; unfold maxLen; simp; omega)
  simpa using this
theorem fieldKeyOk_any (l : List UInt8) (w : World) (hs : l.length ≤ 1048576) :
    Calls Try.prog 88 #[.string ⟨l.toArray⟩] w fun e w' => e = .returned (.bool (keyOk l)) ∧ w = w' := by
  have := fieldKeyOkB_any ⟨l.toArray⟩ w (by show l.toArray.size ≤ maxLen; unfold maxLen; simp; omega)
  simpa using this
end Go.Proofs.Ythlbpklllphhcaa
