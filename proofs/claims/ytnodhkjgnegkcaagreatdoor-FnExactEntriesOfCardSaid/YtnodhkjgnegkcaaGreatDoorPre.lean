/-
  spec.l02Digits and spec.l02Pre: whether a text is digits alone, and whether it may stand behind a version.
-/
import Derived.Test.YtnodhkjgnegkcaaGreatDoorCharG
import Derived.Test.YtnodhkjgnegkcaaGreatDoorVerM
namespace Go.Proofs.YtnodhkjgnegkcaaGreatDoor
open Go.RowKit

def digsL (l : List UInt8) : Bool := l.all isDig && !l.isEmpty
set_option maxRecDepth 100000 in
set_option maxHeartbeats 1000000 in
theorem l02Digits_any (s : ByteArray) (w : World) (hs : s.size ≤ 1048576) :
    Calls Tryz.prog 262 #[.string s] w fun e w' => e = .returned (.bool (digsL s.data.toList)) ∧ w = w' := by
  go_enter Tryz.func262, Tryz.ntmps262
  go_wp2
  go_loop [3] (fun i => ∃ k : Nat, k ≤ s.size ∧ i = .int .i64 k ∧ Hid ((s.data.toList.take k).all isDig = true)) (fun i => s.size - (intOf i).toNat)
  case atStart => exact ⟨0, Nat.zero_le _, rfl, Lib.hid (by simp)⟩
  case round =>
    obtain ⟨k, hk, rfl, H⟩ := hrel
    by_cases hlt : k < s.size
    · have c1 := (byte_lt s[k]).1
      have c2 := (byte_lt s[k]).2
      by_cases hd : isDig s[k] = true
      · have HH := Lib.hid (all_next s k isDig hlt H.out hd)
        have HI : Hid (inI (s[k].toNat : Int) 48 57 = true) := Lib.hid (by have := dig_le hd; unfold inI; simp; omega)
        clear hd
        go_wp2_with fail
        refine (l01In_any _ _ _ _).mono ?_
        rw [HI.out]
        rintro e w' ⟨rfl, rfl⟩
        go_wp2_with fail
        go_round
        case rel => exact ⟨k + 1, by omega, by go_num, HH⟩
        case measure => simp [intOf]; omega
      · have HH : Hid (digsL s.data.toList = false) := Lib.hid (by unfold digsL; rw [Bool.eq_false_iff.2 (all_false s k isDig hlt (by simpa using hd))]; rfl)
        have HI : Hid (inI (s[k].toNat : Int) 48 57 = false) := Lib.hid (by unfold isDig at hd; unfold inI; simp at hd ⊢; omega)
        clear hd
        go_wp2_with fail
        refine (l01In_any _ _ _ _).mono ?_
        rw [HI.out]
        rintro e w' ⟨rfl, rfl⟩
        go_wp2_with fail
        go_ret
        exact ⟨ret_bool HH.out.symm, rfl⟩
    · have H2 := H.out
      rw [take_end s k hlt] at H2
      have HH : Hid (digsL s.data.toList = !s.data.toList.isEmpty) := Lib.hid (by unfold digsL; rw [H2]; rfl)
      have e1 : s.toList.isEmpty = s.data.toList.isEmpty := by rw [ByteArray.toList_eq]
      have E1 := Lib.hid e1
      clear H H2 e1
      go_wp2_with fail
      go_ret
      exact ⟨ret_bool (by rw [HH.out]; first | rfl | rw [E1.out] | simp [ByteArray.toList_eq]), rfl⟩

theorem pre_ways (z : Int) : lettI z = true ∨ (lettI z = false ∧ greatI z = true) ∨ (lettI z = false ∧ greatI z = false ∧ (z != 45) = false) ∨ (lettI z = false ∧ greatI z = false ∧ (z != 45) = true) := by
  cases lettI z <;> cases greatI z <;> simp <;> omega
theorem pre_yes {z : Int} (h : lettI z = true ∨ greatI z = true ∨ (z != 45) = false) : preI z = true := by
  unfold lettI greatI at h; unfold preI; simp at h ⊢; omega
theorem pre_no {z : Int} (h : lettI z = false ∧ greatI z = false ∧ (z != 45) = true) : preI z = false := by
  unfold lettI greatI at h; unfold preI; simp at h ⊢; omega

theorem digsL_of {l : List UInt8} (h : 1 ≤ l.length) : digsL l = l.all isDig := by
  unfold digsL
  have : l.isEmpty = false := by cases l <;> simp_all
  rw [this]; simp

set_option maxRecDepth 100000 in
set_option maxHeartbeats 2000000 in
theorem l02Pre_any (s : ByteArray) (w : World) (hs : s.size ≤ 1048576) :
    Calls Tryz.prog 230 #[.string s] w fun e w' => e = .returned (.bool (preOk s.data.toList)) ∧ w = w' := by
  go_enter Tryz.func230, Tryz.ntmps230
  go_wp2
  go_loop [3] (fun i => ∃ k : Nat, k ≤ s.size ∧ i = .int .i64 k ∧ Hid ((s.data.toList.take k).all preB = true)) (fun i => s.size - (intOf i).toNat)
  case atStart => exact ⟨0, Nat.zero_le _, rfl, Lib.hid (by simp)⟩
  case round =>
    obtain ⟨k, hk, rfl, H⟩ := hrel
    by_cases hlt : k < s.size
    · have c1 := (byte_lt s[k]).1
      have c2 := (byte_lt s[k]).2
      rcases pre_ways (s[k].toNat : Int) with z | ⟨z, y⟩ | ⟨z, y, x⟩ | ⟨z, y, x⟩
      · have HH := Lib.hid (all_next s k preB hlt H.out (pre_yes (.inl z)))
        have HZ := Lib.hid z
        clear z
        go_wp2_with fail
        refine (l01Letter_any _ _ c2 c1).mono ?_
        rw [HZ.out]
        rintro e w' ⟨rfl, rfl⟩
        go_wp2_with (go_at_call 261; fail)
        go_round
        case rel => exact ⟨k + 1, by omega, by go_num, HH⟩
        case measure => simp [intOf]; omega
      · have HH := Lib.hid (all_next s k preB hlt H.out (pre_yes (.inr (.inl y))))
        have HZ := Lib.hid z
        have HY := Lib.hid y
        clear z y
        go_wp2_with fail
        refine (l01Letter_any _ _ c2 c1).mono ?_
        rw [HZ.out]
        rintro e w' ⟨rfl, rfl⟩
        go_wp2_with fail
        refine (l01Great_any _ _ c2 c1).mono ?_
        rw [HY.out]
        rintro e w' ⟨rfl, rfl⟩
        go_wp2_with fail
        go_round
        case rel => exact ⟨k + 1, by omega, by go_num, HH⟩
        case measure => simp [intOf]; omega
      · have HH := Lib.hid (all_next s k preB hlt H.out (pre_yes (.inr (.inr x))))
        have HZ := Lib.hid z
        have HY := Lib.hid y
        clear z y
        go_wp2_with fail
        refine (l01Letter_any _ _ c2 c1).mono ?_
        rw [HZ.out]
        rintro e w' ⟨rfl, rfl⟩
        go_wp2_with fail
        refine (l01Great_any _ _ c2 c1).mono ?_
        rw [HY.out]
        rintro e w' ⟨rfl, rfl⟩
        go_wp2_with fail
        go_round
        case rel => exact ⟨k + 1, by omega, by go_num, HH⟩
        case measure => simp [intOf]; omega
      · have HH := Lib.hid (preOk_bad (all_false s k preB hlt (pre_no ⟨z, y, x⟩)))
        have HZ := Lib.hid z
        have HY := Lib.hid y
        clear z y
        go_wp2_with fail
        refine (l01Letter_any _ _ c2 c1).mono ?_
        rw [HZ.out]
        rintro e w' ⟨rfl, rfl⟩
        go_wp2_with fail
        refine (l01Great_any _ _ c2 c1).mono ?_
        rw [HY.out]
        rintro e w' ⟨rfl, rfl⟩
        go_wp2_with fail
        go_ret
        exact ⟨ret_bool HH.out.symm, rfl⟩
    · have H2 := H.out
      rw [take_end s k hlt] at H2
      have hsz : s.data.toList.length = s.size := by simp
      clear H
      by_cases hl : 1 ≤ s.size ∧ s.size ≤ 20
      · have HI : Hid (inI (s.size : Int) 1 20 = true) := Lib.hid (by unfold inI; simp; omega)
        have HF := Lib.hid (preOk_fin H2 (by omega) (by omega))
        have HG := Lib.hid (digsL_of (l := s.data.toList) (by omega))
        clear hsz H2
        by_cases hd : s.data.toList.all isDig = true
        · have HD : Hid (digsL s.data.toList = true) := Lib.hid (HG.out.trans hd)
          have HX : Hid (preOk s.data.toList = decide (0 ≤ readL s.data.toList)) := Lib.hid (by rw [HF.out, hd]; rfl)
          clear hd HF HG
          go_wp2_with fail
          refine (l01In_any _ _ _ _).mono ?_
          rw [HI.out]
          rintro e w' ⟨rfl, rfl⟩
          go_wp2_with fail
          refine (l02Digits_any s _ hs).mono ?_
          rw [HD.out]
          rintro e w' ⟨rfl, rfl⟩
          go_wp2_with fail
          refine (specReadDec_any s _ hs).mono ?_
          generalize readL s.data.toList = m at HX ⊢
          rintro e w' ⟨rfl, rfl⟩
          go_wp2_with fail
          go_ret
          exact ⟨ret_bool HX.out.symm, rfl⟩
        · have HD : Hid (digsL s.data.toList = false) := Lib.hid (HG.out.trans (by simpa using hd))
          have HX : Hid (preOk s.data.toList = true) := Lib.hid (by rw [HF.out, Bool.eq_false_iff.2 hd]; rfl)
          clear hd HF HG
          go_wp2_with fail
          refine (l01In_any _ _ _ _).mono ?_
          rw [HI.out]
          rintro e w' ⟨rfl, rfl⟩
          go_wp2_with fail
          refine (l02Digits_any s _ hs).mono ?_
          rw [HD.out]
          rintro e w' ⟨rfl, rfl⟩
          go_wp2_with fail
          go_ret
          exact ⟨ret_bool HX.out.symm, rfl⟩
      · have HI : Hid (inI (s.size : Int) 1 20 = false) := Lib.hid (by unfold inI; simp; omega)
        have HX := Lib.hid (preOk_len (l := s.data.toList) (by omega))
        clear hsz H2 hl
        go_wp2_with fail
        refine (l01In_any _ _ _ _).mono ?_
        rw [HI.out]
        rintro e w' ⟨rfl, rfl⟩
        go_wp2_with fail
        go_ret
        exact ⟨ret_bool HX.out.symm, rfl⟩
end Go.Proofs.YtnodhkjgnegkcaaGreatDoor
