/-
  strings.Clone returns the same bytes.
-/
import Derived.Test.YtjpclglklmlhlabGreatDoorLaysClone
import Derived.Test.YtjpclglklmlhlabGreatDoorStr
namespace Go.Proofs
open Go.Shelf
namespace YtjpclglklmlhlabGreatDoor
open Go.RowKit
theorem slClone_any (s : ByteArray) (w : World) (hs : s.size ≤ 1048576) :
    Calls Tryz.prog 145 #[.string s] w fun e w' => e = .returned (.string s) ∧ Below w.heap.size w w' := Any.stringslite_Clone Tryz.lays316 s w (by omega)
theorem clone_any (s : ByteArray) (w : World) (hs : s.size ≤ 1048576) :
    Calls Tryz.prog 112 #[.string s] w fun e w' => e = .returned (.string s) ∧ Below w.heap.size w w' := by
  go_enter Tryz.func112, Tryz.ntmps112
  go_wp2_with (go_at_call 145; refine (slClone_any _ _ hs).mono ?_; rintro e w' ⟨rfl, hb⟩)
  go_ret
  exact ⟨rfl, hb⟩
end YtjpclglklmlhlabGreatDoor
end Go.Proofs
