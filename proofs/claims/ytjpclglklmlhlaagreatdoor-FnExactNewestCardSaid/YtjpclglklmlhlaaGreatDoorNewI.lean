/-
  strings.Contains of a dash.
-/
import Derived.Test.YtjpclglklmlhlaaGreatDoorNewM
import Derived.Test.YtjpclglklmlhlaaGreatDoorCutI
namespace Go.Proofs.YtjpclglklmlhlaaGreatDoor
open Go.RowKit

set_option maxRecDepth 100000 in
set_option maxHeartbeats 1000000 in
theorem index_dash (s : ByteArray) (w : World) (hs : s.size ≤ 1048576) :
    Calls Tryz.prog 69 #[.string s, .string ⟨#[45]⟩] w fun e w' => e = .returned (.int .i64 (dash s.data.toList)) ∧ w' = w := by
  have HI := Lib.hid (sliteIndex_dash s w hs)
  go_enter Tryz.func69, Tryz.ntmps69
  go_wp2_with fail
  refine HI.out.mono ?_
  rintro e w' ⟨rfl, rfl⟩
  go_wp2_with fail
  go_ret
  exact ⟨rfl, rfl⟩
set_option maxRecDepth 100000 in
set_option maxHeartbeats 1000000 in
theorem contains_dash (s : ByteArray) (w : World) (hs : s.size ≤ 1048576) :
    Calls Tryz.prog 35 #[.string s, .string ⟨#[45]⟩] w fun e w' => e = .returned (.bool (!stb s.data.toList)) ∧ w' = w := by
  have HI := Lib.hid (index_dash s w hs)
  obtain ⟨d, HD⟩ : ∃ d, Hid (dash s.data.toList = d) := ⟨_, Lib.hid rfl⟩
  have HX : Hid ((!stb s.data.toList) = decide (0 ≤ d)) := Lib.hid (by unfold stb; rw [HD.out]; by_cases h : d < 0 <;> simp [h] <;> omega)
  rw [HX.out]
  go_enter Tryz.func35, Tryz.ntmps35
  go_wp2_with fail
  refine HI.out.mono ?_
  rw [HD.out]
  rintro e w' ⟨rfl, rfl⟩
  go_wp2_with fail
  go_ret
  exact ⟨rfl, rfl⟩
end Go.Proofs.YtjpclglklmlhlaaGreatDoor
