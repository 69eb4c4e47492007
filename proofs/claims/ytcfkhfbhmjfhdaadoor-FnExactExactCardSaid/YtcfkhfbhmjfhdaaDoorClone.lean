/-
  strings.Clone returns the same bytes.
-/
import Derived.Test.YtcfkhfbhmjfhdaaDoorLaysClone
import Derived.Test.YtcfkhfbhmjfhdaaDoorStr
namespace Go.Proofs
open Go.Shelf
namespace YtcfkhfbhmjfhdaaDoor
open Go.RowKit
theorem slClone_any (s : ByteArray) (w : World) (hs : s.size ≤ 1048576) :
    Calls Tryd.prog 85 #[.string s] w fun e w' => e = .returned (.string s) ∧ Below w.heap.size w w' := Any.stringslite_Clone Tryd.lays316 s w (by omega)
theorem clone_any (s : ByteArray) (w : World) (hs : s.size ≤ 1048576) :
    Calls Tryd.prog 59 #[.string s] w fun e w' => e = .returned (.string s) ∧ Below w.heap.size w w' := by
  go_enter Tryd.func59, Tryd.ntmps59
  go_wp2_with (go_at_call 85; refine (slClone_any _ _ hs).mono ?_; rintro e w' ⟨rfl, hb⟩)
  go_ret
  exact ⟨rfl, hb⟩
end YtcfkhfbhmjfhdaaDoor
end Go.Proofs
