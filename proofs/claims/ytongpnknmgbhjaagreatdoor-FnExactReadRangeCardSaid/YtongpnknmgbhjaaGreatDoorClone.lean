/-
  strings.Clone returns the same bytes.
-/
import Derived.Test.YtongpnknmgbhjaaGreatDoorLaysClone
import Derived.Test.YtongpnknmgbhjaaGreatDoorStr
namespace Go.Proofs
open Go.Shelf
namespace YtongpnknmgbhjaaGreatDoor
open Go.RowKit
theorem slClone_any (s : ByteArray) (w : World) (hs : s.size ≤ 1048576) :
    Calls Tryz.prog 171 #[.string s] w fun e w' => e = .returned (.string s) ∧ Below w.heap.size w w' := Any.stringslite_Clone Tryz.lays316 s w (by omega)
theorem clone_any (s : ByteArray) (w : World) (hs : s.size ≤ 1048576) :
    Calls Tryz.prog 116 #[.string s] w fun e w' => e = .returned (.string s) ∧ Below w.heap.size w w' := by
  go_enter Tryz.func116, Tryz.ntmps116
  go_wp2_with (go_at_call 171; refine (slClone_any _ _ hs).mono ?_; rintro e w' ⟨rfl, hb⟩)
  go_ret
  exact ⟨rfl, hb⟩
end YtongpnknmgbhjaaGreatDoor
end Go.Proofs
