/-
  impl's identifiers: what identifierOf hands back, and whether it is right.
-/
import Derived.Test.YtongpnknmgbhjaaGreatDoorCharU
import Derived.Test.YtongpnknmgbhjaaGreatDoorVerM
namespace Go.Proofs.YtongpnknmgbhjaaGreatDoor
open Go.RowKit

/-- What identifierOf hands back for a text. -/
def identV (s : ByteArray) : Value := if 0 ≤ readL s.data.toList then .iface 243 (.int .i64 (readL s.data.toList)) else .iface 244 (.string s)
theorem identV_num {s : ByteArray} (h : 0 ≤ readL s.data.toList) : identV s = .iface 243 (.int .i64 (readL s.data.toList)) := if_pos h
theorem identV_text {s : ByteArray} (h : ¬ 0 ≤ readL s.data.toList) : identV s = .iface 244 (.string s) := if_neg h

set_option maxRecDepth 100000 in
set_option maxHeartbeats 1000000 in
theorem identifierOf_any (s : ByteArray) (w : World) (hs : s.size ≤ 1048576) :
    Calls Tryz.prog 228 #[.string s] w fun e w' => e = .returned (identV s) ∧ w = w' := by
  by_cases hr : 0 ≤ readL s.data.toList
  · have HV := Lib.hid (identV_num hr)
    go_enter Tryz.func228, Tryz.ntmps228
    go_wp2_with fail
    refine (implReadDec_any s _ hs).mono ?_
    generalize readL s.data.toList = m at HV hr ⊢
    rintro e w' ⟨rfl, rfl⟩
    go_wp2_with fail
    go_ret
    exact ⟨congrArg Ending.returned HV.out.symm, rfl⟩
  · have HV := Lib.hid (identV_text hr)
    go_enter Tryz.func228, Tryz.ntmps228
    go_wp2_with fail
    refine (implReadDec_any s _ hs).mono ?_
    generalize readL s.data.toList = m at hr ⊢
    rintro e w' ⟨rfl, rfl⟩
    go_wp2_with fail
    go_ret
    exact ⟨congrArg Ending.returned HV.out.symm, rfl⟩

theorem preText_ways (z : Int) : (lowI z = true ∧ uppI z = false ∧ digI z = false) ∨ (lowI z = false ∧ uppI z = true ∧ digI z = false) ∨ (lowI z = false ∧ uppI z = false ∧ digI z = true) ∨ (lowI z = false ∧ uppI z = false ∧ digI z = false ∧ (z != 45) = false) ∨ (lowI z = false ∧ uppI z = false ∧ digI z = false ∧ (z != 45) = true) := by
  unfold lowI uppI digI; simp; omega
theorem preI_yes {z : Int} (h : lowI z = true ∨ uppI z = true ∨ digI z = true ∨ (z != 45) = false) : preI z = true := by
  unfold lowI uppI digI at h; unfold preI; simp at h ⊢; omega
theorem preI_no {z : Int} (h : lowI z = false ∧ uppI z = false ∧ digI z = false ∧ (z != 45) = true) : preI z = false := by
  unfold lowI uppI digI at h; unfold preI; simp at h ⊢; omega
theorem digI_isDig (c : UInt8) : digI (c.toNat : Int) = isDig c := rfl
theorem all_snoc (s : ByteArray) (k : Nat) (p : UInt8 → Bool) (h : k < s.size) : (s.data.toList.take (k + 1)).all p = ((s.data.toList.take k).all p && p s[k]) := by
  rw [take_snoc s k h, List.all_append]; simp

def textOk (l : List UInt8) : Bool := l.all preB && (decide (1 ≤ l.length) && decide (l.length ≤ 20)) && !(l.all isDig)
theorem preOk_textOk {l : List UInt8} (h : ¬ 0 ≤ readL l) : preOk l = textOk l := preOk_text h
set_option maxRecDepth 100000 in
set_option maxHeartbeats 2000000 in
theorem textValid_any (s : ByteArray) (w : World) (hs : s.size ≤ 1048576) :
    Calls Tryz.prog 299 #[.string s] w fun e w' => e = .returned (.bool (textOk s.data.toList)) ∧ w = w' := by
  have hsz : s.data.toList.length = s.size := by simp
  by_cases hl : 1 ≤ s.size ∧ s.size ≤ 20
  · obtain ⟨hl1, hl2⟩ := hl
    have h20 : decide ((20 : Int) < (s.size : Int)) = false := by simp; omega
    have HT : Hid (textOk s.data.toList = (s.data.toList.all preB && !(s.data.toList.all isDig))) := Lib.hid (by unfold textOk; rw [hsz]; simp [hl1, hl2])
    clear hsz
    go_enter Tryz.func299, Tryz.ntmps299
    go_wp2
    go_loop [3, 4, 5, 16] (fun d _ _ i => ∃ (k : Nat) (b : Bool), k ≤ s.size ∧ i = .int .i64 k ∧ d = .bool b ∧ Hid ((s.data.toList.take k).all preB = true) ∧ Hid ((s.data.toList.take k).all isDig = b)) (fun _ _ _ i => s.size - (intOf i).toNat)
    case atStart => exact ⟨0, true, Nat.zero_le _, rfl, rfl, Lib.hid (by simp), Lib.hid (by simp)⟩
    case round =>
      obtain ⟨k, b, hk, rfl, rfl, H, HD⟩ := hrel
      by_cases hlt : k < s.size
      · have c1 := (byte_lt s[k]).1
        have c2 := (byte_lt s[k]).2
        have HS := Lib.hid (all_snoc s k isDig hlt)
        have HDI := Lib.hid (digI_isDig s[k])
        rcases preText_ways (s[k].toNat : Int) with ⟨z, y, x⟩ | ⟨z, y, x⟩ | ⟨z, y, x⟩ | ⟨z, y, x, u⟩ | ⟨z, y, x, u⟩
        case inr.inr.inr.inr =>
          have HX : Hid (textOk s.data.toList = false) := Lib.hid (by rw [HT.out, Bool.eq_false_iff.2 (all_false s k preB hlt (preI_no ⟨z, y, x, u⟩))]; rfl)
          have HZ := Lib.hid z
          have HY := Lib.hid y
          have HW := Lib.hid x
          clear z y x
          go_wp2_with (first | (go_at_call 207; refine (isLower_any _ _ c2 c1).mono ?_; rw [HZ.out]; rintro e w' ⟨rfl, rfl⟩) | (go_at_call 301; refine (isUpper_any _ _ c2 c1).mono ?_; rw [HY.out]; rintro e w' ⟨rfl, rfl⟩) | (go_at_call 208; refine (isDigit_any _ _ c2 c1).mono ?_; rw [HW.out]; rintro e w' ⟨rfl, rfl⟩))
          go_ret
          exact ⟨ret_bool HX.out.symm, rfl⟩
        all_goals
          have HP : Hid ((s.data.toList.take (k + 1)).all preB = true) := Lib.hid (all_next s k preB hlt H.out (preI_yes (by first | exact .inl z | exact .inr (.inl y) | exact .inr (.inr (.inl x)) | exact .inr (.inr (.inr u)))))
          have HZ := Lib.hid z
          have HY := Lib.hid y
          have HW := Lib.hid x
          clear z y x
          cases b
          all_goals
            go_wp2_with (first | (go_at_call 207; refine (isLower_any _ _ c2 c1).mono ?_; rw [HZ.out]; rintro e w' ⟨rfl, rfl⟩) | (go_at_call 301; refine (isUpper_any _ _ c2 c1).mono ?_; rw [HY.out]; rintro e w' ⟨rfl, rfl⟩) | (go_at_call 208; refine (isDigit_any _ _ c2 c1).mono ?_; rw [HW.out]; rintro e w' ⟨rfl, rfl⟩))
            go_round
            case rel => exact ⟨k + 1, _, by omega, by go_num, rfl, HP, Lib.hid (by rw [HS.out, HD.out, ← HDI.out, HW.out]; rfl)⟩
            case measure => simp [intOf]; omega
      · have H2 := H.out
        have H3 := HD.out
        rw [take_end s k hlt] at H2 H3
        have HX : Hid (textOk s.data.toList = !b) := Lib.hid (by rw [HT.out, H2, H3]; rfl)
        clear H HD H2 H3
        go_wp2
        go_ret
        exact ⟨ret_bool HX.out.symm, rfl⟩
  · have HX : Hid (textOk s.data.toList = false) := Lib.hid (by unfold textOk; rw [hsz]; simp; omega)
    rw [HX.out]
    clear hsz HX
    by_cases h1 : s.size < 1
    · go_enter Tryz.func299, Tryz.ntmps299
      go_wp2
      go_ret
      exact ⟨rfl, rfl⟩
    · have h20 : 20 < s.size := by omega
      have h1' : decide ((s.size : Int) < 1) = false := by simp; omega
      clear hl
      go_enter Tryz.func299, Tryz.ntmps299
      go_wp2
      go_ret
      exact ⟨rfl, rfl⟩

set_option maxRecDepth 100000 in
theorem numValid_any (z : Int) (w : World) : Calls Tryz.prog 295 #[.int .i64 z] w fun e w' => e = .returned (.bool true) ∧ w = w' := by
  go_enter Tryz.func295, Tryz.ntmps295
  go_wp2
  go_ret
  exact ⟨rfl, rfl⟩

theorem meth_validN (z : Int) (w : World) : (method 394 243 (.int .i64 z) "loop.example/g00445/impl.valid").run Tryz.prog w = .ok (295, .int .i64 z) w := by kernel_rfl
theorem meth_validT (s : ByteArray) (w : World) : (method 394 244 (.string s) "loop.example/g00445/impl.valid").run Tryz.prog w = .ok (299, .string s) w := by kernel_rfl
end Go.Proofs.YtongpnknmgbhjaaGreatDoor
