/-
  strings.Cut at a dash.
-/
import Derived.Test.YtongpnknmgbhjaaGreatDoorRdIs
import Derived.Deep.QuietTactic
import Derived.BigQuiet
namespace Go.Proofs.YtongpnknmgbhjaaGreatDoor
open Go.RowKit

set_option maxRecDepth 100000 in
set_option maxHeartbeats 1000000 in
theorem sliteIndex_dash (s : ByteArray) (w : World) (_hs : s.size ≤ 1048576) :
    Calls Tryz.prog 198 #[.string s, .string ⟨#[45]⟩] w fun e w' => e = .returned (.int .i64 (dash s.data.toList)) ∧ w = w' := by
  by_cases he : s.data.toList = [45]
  · have e1 : ([45] == s.toList) = true := by rw [ByteArray.toList_eq, he]; rfl
    have HD : Hid (dash s.data.toList = 0) := Lib.hid (by rw [he]; rfl)
    clear he
    go_enter Tryz.func198, Tryz.ntmps198
    go_wp2_with fail
    go_ret
    exact ⟨ret_int HD.out.symm, rfl⟩
  · have e1 : ([45] == s.toList) = false := by rw [ByteArray.toList_eq]; simp; exact fun h => he h.symm
    clear he
    go_enter Tryz.func198, Tryz.ntmps198
    go_wp2_with fail
    refine (sliteIndexByte_any s 45 _).mono ?_
    rintro e w' ⟨rfl, rfl⟩
    rw [show Lib.indexByte s.data.toList (Int.toNat 45).toUInt8 = dash s.data.toList from rfl]
    go_wp2_with fail
    go_ret
    exact ⟨rfl, rfl⟩

set_option maxRecDepth 100000 in
set_option maxHeartbeats 1000000 in
theorem cutDash_yes (s : ByteArray) (w : World) (hs : s.size ≤ 1048576) (k : Nat) (hk : k < s.size) (hd : dash s.data.toList = (k : Int)) :
    Calls Tryz.prog 163 #[.string s, .string ⟨#[45]⟩] w fun e w' => e = .returned (.tuple #[.string ⟨(s.data.toList.take k).toArray⟩, .string ⟨(s.data.toList.drop (k + 1)).toArray⟩, .bool true]) ∧ ∃ n, w' = w.drewN n := by
  have HI := Lib.hid (sliteIndex_dash s w hs)
  have HD := Lib.hid hd
  clear hd
  have e1 := slice_to s _ k (k : Int) rfl (by omega) (piece s 0 k)
  have e2 := slice_from s _ (k + 1) ((k : Int) + 1) (by omega) (by omega) (piece_end s (k + 1))
  have hC : Calls Tryz.prog 203 #[.string s, .string ⟨#[45]⟩] w fun e w' => e = .returned (.tuple #[.string ⟨(s.data.toList.take k).toArray⟩, .string ⟨(s.data.toList.drop (k + 1)).toArray⟩, .bool true]) ∧ ∃ n, w' = w.drewN n := by
    go_enter Tryz.func203, Tryz.ntmps203
    go_wp2_with fail
    refine HI.out.mono ?_
    rw [HD.out]
    rintro e w' ⟨rfl, rfl⟩
    have x1 : IntKind.i64.wrap ((k : Int) + 1) = (k : Int) + 1 := IntWalk.i64_in _ (by omega)
    have x2 : (0 : Int) ≤ (k : Int) := by omega
    go_wp2_with fail
    go_quiet (fail)
    go_wp2_with fail
    go_ret3
    exact ⟨rfl, _, rfl⟩
  have HC := Lib.hid hC
  clear hC e1 e2 HI
  go_enter Tryz.func163, Tryz.ntmps163
  go_wp2_with fail
  refine HC.out.mono ?_
  rintro e w' ⟨rfl, n, rfl⟩
  go_wp2_with fail
  go_ret3
  exact ⟨rfl, _, rfl⟩

set_option maxRecDepth 100000 in
set_option maxHeartbeats 1000000 in
theorem cutDash_no (s : ByteArray) (w : World) (hs : s.size ≤ 1048576) (d : Int) (hn : ¬ 0 ≤ d) (hd : dash s.data.toList = d) :
    Calls Tryz.prog 163 #[.string s, .string ⟨#[45]⟩] w fun e w' => e = .returned (.tuple #[.string s, .string ⟨#[]⟩, .bool false]) ∧ w = w' := by
  have HI := Lib.hid (sliteIndex_dash s w hs)
  have HD := Lib.hid hd
  clear hd
  have hC : Calls Tryz.prog 203 #[.string s, .string ⟨#[45]⟩] w fun e w' => e = .returned (.tuple #[.string s, .string ⟨#[]⟩, .bool false]) ∧ w = w' := by
    go_enter Tryz.func203, Tryz.ntmps203
    go_wp2_with fail
    refine HI.out.mono ?_
    rw [HD.out]
    rintro e w' ⟨rfl, rfl⟩
    go_wp2_with fail
    go_ret3
    exact ⟨rfl, rfl⟩
  have HC := Lib.hid hC
  clear hC HI
  go_enter Tryz.func163, Tryz.ntmps163
  go_wp2_with fail
  refine HC.out.mono ?_
  rintro e w' ⟨rfl, rfl⟩
  go_wp2_with fail
  go_ret3
  exact ⟨rfl, rfl⟩
end Go.Proofs.YtongpnknmgbhjaaGreatDoor
