/-
  cmp.Compare at ints, at impl's numbers and texts; cmp.Or at four ints; impl's identifiers compared.
-/
import Derived.Test.YtcfkhfbhmjfhdaaGreatDoorCmpS
import Derived.Test.YtcfkhfbhmjfhdaaGreatDoorPreI
import Derived.Deep.RegionWith
namespace Go.Proofs.YtcfkhfbhmjfhdaaGreatDoor
open Go.RowKit

set_option maxRecDepth 100000 in
theorem cmpInt_any (a b : Int) (w : World) : Calls Tryz.prog 82 #[.int .i64 a, .int .i64 b] w fun e w' => e = .returned (.int .i64 (cmpI a b)) ∧ w' = w := by
  have qa : (a != a) = false := by simp
  have qb : (b != b) = false := by simp
  rcases (show a < b ∨ (¬ a < b ∧ b < a) ∨ (¬ a < b ∧ ¬ b < a) from by omega) with h | ⟨h, h2⟩ | ⟨h, h2⟩
  · have H : Hid (cmpI a b = -1) := Lib.hid (if_pos h)
    go_enter Tryz.func82, Tryz.ntmps82
    go_wp2
    go_ret
    exact ⟨ret_int H.out.symm, rfl⟩
  · have H : Hid (cmpI a b = 1) := Lib.hid (by unfold cmpI; rw [if_neg h, if_pos h2])
    go_enter Tryz.func82, Tryz.ntmps82
    go_wp2
    go_ret
    exact ⟨ret_int H.out.symm, rfl⟩
  · have H : Hid (cmpI a b = 0) := Lib.hid (by unfold cmpI; rw [if_neg h, if_neg h2])
    go_enter Tryz.func82, Tryz.ntmps82
    go_wp2
    go_ret
    exact ⟨ret_int H.out.symm, rfl⟩

set_option maxRecDepth 100000 in
theorem cmpNum_any (a b : Int) (w : World) : Calls Tryz.prog 172 #[.int .i64 a, .int .i64 b] w fun e w' => e = .returned (.int .i64 (cmpI a b)) ∧ w' = w := by
  have qa : (a != a) = false := by simp
  have qb : (b != b) = false := by simp
  rcases (show a < b ∨ (¬ a < b ∧ b < a) ∨ (¬ a < b ∧ ¬ b < a) from by omega) with h | ⟨h, h2⟩ | ⟨h, h2⟩
  · have H : Hid (cmpI a b = -1) := Lib.hid (if_pos h)
    go_enter Tryz.func172, Tryz.ntmps172
    go_wp2
    go_ret
    exact ⟨ret_int H.out.symm, rfl⟩
  · have H : Hid (cmpI a b = 1) := Lib.hid (by unfold cmpI; rw [if_neg h, if_pos h2])
    go_enter Tryz.func172, Tryz.ntmps172
    go_wp2
    go_ret
    exact ⟨ret_int H.out.symm, rfl⟩
  · have H : Hid (cmpI a b = 0) := Lib.hid (by unfold cmpI; rw [if_neg h, if_neg h2])
    go_enter Tryz.func172, Tryz.ntmps172
    go_wp2
    go_ret
    exact ⟨ret_int H.out.symm, rfl⟩

set_option maxRecDepth 100000 in
theorem cmpText_any (a b : ByteArray) (w : World) : Calls Tryz.prog 176 #[.string a, .string b] w fun e w' => e = .returned (.int .i64 (cmpS a.data.toList b.data.toList)) ∧ w' = w := by
  rcases cmpS_ways a b with ⟨h, h3⟩ | ⟨h, h2, h3⟩ | ⟨h, h2, h3⟩
  all_goals
    have H := Lib.hid h3
    clear h3
    have qa : (a.toList == a.toList) = true := by simp
    have qb : (b.toList == b.toList) = true := by simp
    go_enter Tryz.func176, Tryz.ntmps176
    go_wp2
    go_ret
    exact ⟨ret_int H.out.symm, rfl⟩

theorem asNN (b : Int) (w : World) : (Instr.typeAssert (.iface 147 (.int .i64 b)) 119 147 true).run Tryz.prog w = .ok (.tuple #[.int .i64 b, .bool true]) w := by kernel_rfl
theorem asNT (b : ByteArray) (w : World) : (Instr.typeAssert (.iface 148 (.string b)) 119 147 true).run Tryz.prog w = .ok (.tuple #[.int .i64 0, .bool false]) w := by kernel_rfl
theorem asTT (b : ByteArray) (w : World) : (Instr.typeAssert (.iface 148 (.string b)) 119 148 true).run Tryz.prog w = .ok (.tuple #[.string b, .bool true]) w := by kernel_rfl
theorem asTN (b : Int) (w : World) : (Instr.typeAssert (.iface 147 (.int .i64 b)) 119 148 true).run Tryz.prog w = .ok (.tuple #[.string ⟨#[]⟩, .bool false]) w := by kernel_rfl
set_option maxRecDepth 100000 in
theorem numCompareNum (a b : Int) (w : World) : Calls Tryz.prog 170 #[.int .i64 a, .iface 147 (.int .i64 b)] w fun e w' => e = .returned (.int .i64 (cmpI a b)) ∧ w' = w := by
  have ha := asNN b
  go_enter Tryz.func170, Tryz.ntmps170
  go_wp2_with (go_at_call 172; refine (cmpNum_any _ _ _).mono ?_; rintro e w' ⟨rfl, rfl⟩)
  go_ret
  exact ⟨rfl, rfl⟩
set_option maxRecDepth 100000 in
theorem numCompareText (a : Int) (b : ByteArray) (w : World) : Calls Tryz.prog 170 #[.int .i64 a, .iface 148 (.string b)] w fun e w' => e = .returned (.int .i64 (-1)) ∧ w' = w := by
  have ha := asNT b
  go_enter Tryz.func170, Tryz.ntmps170
  go_wp2_with fail
  go_ret
  exact ⟨rfl, rfl⟩
set_option maxRecDepth 100000 in
theorem textCompareText (a b : ByteArray) (w : World) : Calls Tryz.prog 174 #[.string a, .iface 148 (.string b)] w fun e w' => e = .returned (.int .i64 (cmpS a.data.toList b.data.toList)) ∧ w' = w := by
  have ha := asTT b
  go_enter Tryz.func174, Tryz.ntmps174
  go_wp2_with (go_at_call 176; refine (cmpText_any _ _ _).mono ?_; rintro e w' ⟨rfl, rfl⟩)
  go_ret
  exact ⟨rfl, rfl⟩
set_option maxRecDepth 100000 in
theorem textCompareNum (a : ByteArray) (b : Int) (w : World) : Calls Tryz.prog 174 #[.string a, .iface 147 (.int .i64 b)] w fun e w' => e = .returned (.int .i64 1) ∧ w' = w := by
  have ha := asTN b
  go_enter Tryz.func174, Tryz.ntmps174
  go_wp2_with fail
  go_ret
  exact ⟨rfl, rfl⟩

theorem aheadN (z : Int) (w : World) : (nilAhead 293 147 (.int .i64 z) "loop.example/g00445/impl.compare").run Tryz.prog w = .ok (some false) w := by kernel_rfl
theorem aheadT (s : ByteArray) (w : World) : (nilAhead 293 148 (.string s) "loop.example/g00445/impl.compare").run Tryz.prog w = .ok (some false) w := by kernel_rfl
theorem methN (z : Int) (w : World) : (method 293 147 (.int .i64 z) "loop.example/g00445/impl.compare").run Tryz.prog w = .ok (170, .int .i64 z) w := by kernel_rfl
theorem methT (s : ByteArray) (w : World) : (method 293 148 (.string s) "loop.example/g00445/impl.compare").run Tryz.prog w = .ok (174, .string s) w := by kernel_rfl

set_option maxRecDepth 100000 in
set_option maxHeartbeats 1000000 in
theorem compareIdentifiers_any (a b : ByteArray) (w : World) (ha : a.size ≤ 1048576) (hb : b.size ≤ 1048576) :
    Calls Tryz.prog 114 #[.string a, .string b] w fun e w' => e = .returned (.int .i64 (cmpPart a.data.toList b.data.toList)) ∧ ∃ n, w' = w.drewN n := by
  have HA := Lib.hid (fun W => identifierOf_any a W ha)
  have HB := Lib.hid (fun W => identifierOf_any b W hb)
  clear ha hb
  by_cases hx : 0 ≤ readL a.data.toList <;> by_cases hy : 0 ≤ readL b.data.toList
  · have HF : Hid (cmpPart a.data.toList b.data.toList = cmpI (readL a.data.toList) (readL b.data.toList)) := Lib.hid (by unfold cmpPart; rw [if_pos hx, if_pos hy])
    have HX := Lib.hid (identV_num hx)
    have HY := Lib.hid (identV_num hy)
    have h1 := aheadN (readL a.data.toList)
    have h2 := methN (readL a.data.toList)
    clear hx hy
    go_enter Tryz.func114, Tryz.ntmps114
    go_wp2_with fail
    go_region_with (first | (go_at_call 101; (with_reducible refine (HA.out _).mono ?_); rw [HX.out]; rintro e w' ⟨rfl, rfl⟩) | (go_at_call 101; (with_reducible refine (HB.out _).mono ?_); rw [HY.out]; rintro e w' ⟨rfl, rfl⟩) | (go_at_call 170; (with_reducible refine (numCompareNum _ _ _).mono ?_); rintro e w' ⟨rfl, rfl⟩))
    all_goals
      go_wp2_with fail
      go_ret
      exact ⟨ret_int HF.out.symm, 1, rfl⟩
  · have HF : Hid (cmpPart a.data.toList b.data.toList = -1) := Lib.hid (by unfold cmpPart; rw [if_pos hx, if_neg hy])
    have HX := Lib.hid (identV_num hx)
    have HY := Lib.hid (identV_text hy)
    have h1 := aheadN (readL a.data.toList)
    have h2 := methN (readL a.data.toList)
    clear hx hy
    go_enter Tryz.func114, Tryz.ntmps114
    go_wp2_with fail
    go_region_with (first | (go_at_call 101; (with_reducible refine (HA.out _).mono ?_); rw [HX.out]; rintro e w' ⟨rfl, rfl⟩) | (go_at_call 101; (with_reducible refine (HB.out _).mono ?_); rw [HY.out]; rintro e w' ⟨rfl, rfl⟩) | (go_at_call 170; (with_reducible refine (numCompareText _ _ _).mono ?_); rintro e w' ⟨rfl, rfl⟩))
    all_goals
      go_wp2_with fail
      go_ret
      exact ⟨ret_int HF.out.symm, 1, rfl⟩
  · have HF : Hid (cmpPart a.data.toList b.data.toList = 1) := Lib.hid (by unfold cmpPart; rw [if_neg hx, if_pos hy])
    have HX := Lib.hid (identV_text hx)
    have HY := Lib.hid (identV_num hy)
    have h1 := aheadT a
    have h2 := methT a
    clear hx hy
    go_enter Tryz.func114, Tryz.ntmps114
    go_wp2_with fail
    go_region_with (first | (go_at_call 101; (with_reducible refine (HA.out _).mono ?_); rw [HX.out]; rintro e w' ⟨rfl, rfl⟩) | (go_at_call 101; (with_reducible refine (HB.out _).mono ?_); rw [HY.out]; rintro e w' ⟨rfl, rfl⟩) | (go_at_call 174; (with_reducible refine (textCompareNum _ _ _).mono ?_); rintro e w' ⟨rfl, rfl⟩))
    all_goals
      go_wp2_with fail
      go_ret
      exact ⟨ret_int HF.out.symm, 1, rfl⟩
  · have HF : Hid (cmpPart a.data.toList b.data.toList = cmpS a.data.toList b.data.toList) := Lib.hid (by unfold cmpPart; rw [if_neg hx, if_neg hy])
    have HX := Lib.hid (identV_text hx)
    have HY := Lib.hid (identV_text hy)
    have h1 := aheadT a
    have h2 := methT a
    clear hx hy
    go_enter Tryz.func114, Tryz.ntmps114
    go_wp2_with fail
    go_region_with (first | (go_at_call 101; (with_reducible refine (HA.out _).mono ?_); rw [HX.out]; rintro e w' ⟨rfl, rfl⟩) | (go_at_call 101; (with_reducible refine (HB.out _).mono ?_); rw [HY.out]; rintro e w' ⟨rfl, rfl⟩) | (go_at_call 174; (with_reducible refine (textCompareText _ _ _).mono ?_); rintro e w' ⟨rfl, rfl⟩))
    all_goals
      go_wp2_with fail
      go_ret
      exact ⟨ret_int HF.out.symm, 1, rfl⟩
end Go.Proofs.YtcfkhfbhmjfhdaaGreatDoor
