/-
  spec.l02Less, l02Texts, l02Part: how two numbers, two texts, two identifiers stand.
-/
import Derived.Test.YtnodhkjgnegkcaaGreatDoorCmpM
import Derived.Laws.Cover1
namespace Go.Proofs.YtnodhkjgnegkcaaGreatDoor
open Go.RowKit

set_option maxRecDepth 100000 in
theorem l02Less_any (a b : Int) (w : World) : Calls Tryz.prog 228 #[.int .i64 a, .int .i64 b] w fun e w' => e = .returned (.int .i64 (cmpI a b)) ∧ w' = w := by
  rcases (show a < b ∨ (¬ a < b ∧ b < a) ∨ (¬ a < b ∧ ¬ b < a) from by omega) with h | ⟨h, h2⟩ | ⟨h, h2⟩
  · have H : Hid (cmpI a b = -1) := Lib.hid (if_pos h)
    go_enter Tryz.func228, Tryz.ntmps228
    go_wp2
    go_ret
    exact ⟨ret_int H.out.symm, rfl⟩
  · have H : Hid (cmpI a b = 1) := Lib.hid (by unfold cmpI; rw [if_neg h, if_pos h2])
    go_enter Tryz.func228, Tryz.ntmps228
    go_wp2
    go_ret
    exact ⟨ret_int H.out.symm, rfl⟩
  · have H : Hid (cmpI a b = 0) := Lib.hid (by unfold cmpI; rw [if_neg h, if_neg h2])
    go_enter Tryz.func228, Tryz.ntmps228
    go_wp2
    go_ret
    exact ⟨ret_int H.out.symm, rfl⟩

theorem cmpS_ways (a b : ByteArray) : (Op.bytesLess a.toList b.toList = true ∧ cmpS a.data.toList b.data.toList = -1) ∨ (Op.bytesLess a.toList b.toList = false ∧ (a.toList == b.toList) = true ∧ cmpS a.data.toList b.data.toList = 0) ∨ (Op.bytesLess a.toList b.toList = false ∧ (a.toList == b.toList) = false ∧ cmpS a.data.toList b.data.toList = 1) := by
  rw [ByteArray.toList_eq, ByteArray.toList_eq]
  unfold cmpS
  cases h : Op.bytesLess a.data.toList b.data.toList
  · by_cases e : a.data.toList = b.data.toList
    · right; left; simp [e]
    · right; right; simp [e]; intro h'; exact e (by rw [h'])
  · left; simp

set_option maxRecDepth 100000 in
theorem l02Texts_any (a b : ByteArray) (w : World) : Calls Tryz.prog 260 #[.string a, .string b] w fun e w' => e = .returned (.int .i64 (cmpS a.data.toList b.data.toList)) ∧ w' = w := by
  rcases cmpS_ways a b with ⟨h, h3⟩ | ⟨h, h2, h3⟩ | ⟨h, h2, h3⟩
  all_goals
    have H := Lib.hid h3
    clear h3
    go_enter Tryz.func260, Tryz.ntmps260
    go_wp2
    go_ret
    exact ⟨ret_int H.out.symm, rfl⟩

set_option maxRecDepth 100000 in
set_option maxHeartbeats 1000000 in
theorem l02Part_any (a b : ByteArray) (w : World) (ha : a.size ≤ 1048576) (hb : b.size ≤ 1048576) :
    Calls Tryz.prog 229 #[.string a, .string b] w fun e w' => e = .returned (.int .i64 (cmpPart a.data.toList b.data.toList)) ∧ w' = w := by
  have HA := Lib.hid (fun W => specReadDec_any a W ha)
  have HB := Lib.hid (fun W => specReadDec_any b W hb)
  have HP : Hid (cmpPart a.data.toList b.data.toList = if 0 ≤ readL a.data.toList then (if 0 ≤ readL b.data.toList then cmpI (readL a.data.toList) (readL b.data.toList) else -1) else (if 0 ≤ readL b.data.toList then 1 else cmpS a.data.toList b.data.toList)) := Lib.hid rfl
  obtain ⟨x, HX⟩ : ∃ x, Hid (readL a.data.toList = x) := ⟨_, Lib.hid rfl⟩
  obtain ⟨y, HY⟩ : ∃ x, Hid (readL b.data.toList = x) := ⟨_, Lib.hid rfl⟩
  have HQ : Hid (cmpPart a.data.toList b.data.toList = if 0 ≤ x then (if 0 ≤ y then cmpI x y else -1) else (if 0 ≤ y then 1 else cmpS a.data.toList b.data.toList)) := Lib.hid (by rw [HP.out, HX.out, HY.out])
  clear HP ha hb
  by_cases hx : 0 ≤ x <;> by_cases hy : 0 ≤ y
  all_goals
    have HR := HQ.out
    simp only [hx, hy, if_true, if_false] at HR
    have HF := Lib.hid HR
    clear HR
    try have dx : decide (0 ≤ x) = false := decide_eq_false hx
    try have dy : decide (0 ≤ y) = false := decide_eq_false hy
    go_enter Tryz.func229, Tryz.ntmps229
    go_wp2_with fail
    refine (HA.out _).mono ?_
    rw [HX.out]
    rintro e w' ⟨rfl, rfl⟩
    go_wp2_with fail
    refine (HB.out _).mono ?_
    rw [HY.out]
    rintro e w' ⟨rfl, rfl⟩
    go_wp2_with (first | (go_at_call 228; refine (l02Less_any _ _ _).mono ?_; rintro e w' ⟨rfl, rfl⟩) | (go_at_call 260; refine (l02Texts_any _ _ _).mono ?_; rintro e w' ⟨rfl, rfl⟩))
    go_ret
    exact ⟨ret_int HF.out.symm, rfl⟩
end Go.Proofs.YtnodhkjgnegkcaaGreatDoor
