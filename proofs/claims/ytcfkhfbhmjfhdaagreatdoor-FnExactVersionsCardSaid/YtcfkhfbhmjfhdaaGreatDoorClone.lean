/-
  strings.Clone returns the same bytes.
-/
import Derived.Test.YtcfkhfbhmjfhdaaGreatDoorLaysClone
import Derived.Test.YtcfkhfbhmjfhdaaGreatDoorStr
namespace Go.Proofs
open Go.Shelf
namespace YtcfkhfbhmjfhdaaGreatDoor
open Go.RowKit
theorem slClone_any (s : ByteArray) (w : World) (hs : s.size ≤ 1048576) :
    Calls Tryz.prog 123 #[.string s] w fun e w' => e = .returned (.string s) ∧ Below w.heap.size w w' := Any.stringslite_Clone Tryz.lays316 s w (by omega)
theorem clone_any (s : ByteArray) (w : World) (hs : s.size ≤ 1048576) :
    Calls Tryz.prog 99 #[.string s] w fun e w' => e = .returned (.string s) ∧ Below w.heap.size w w' := by
  go_enter Tryz.func99, Tryz.ntmps99
  go_wp2_with (go_at_call 123; refine (slClone_any _ _ hs).mono ?_; rintro e w' ⟨rfl, hb⟩)
  go_ret
  exact ⟨rfl, hb⟩
end YtcfkhfbhmjfhdaaGreatDoor
end Go.Proofs
