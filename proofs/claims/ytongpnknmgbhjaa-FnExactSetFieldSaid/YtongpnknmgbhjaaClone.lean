/-
  strings.Clone returns the same bytes.
-/
import Derived.Test.YtongpnknmgbhjaaLaysClone
import Derived.Test.YtongpnknmgbhjaaStr
namespace Go.Proofs
open Go.Shelf
namespace Ytongpnknmgbhjaa
open Go.RowKit
theorem slClone_any (s : ByteArray) (w : World) (hs : s.size ≤ 1048576) :
    Calls Try.prog 73 #[.string s] w fun e w' => e = .returned (.string s) ∧ Below w.heap.size w w' := Any.stringslite_Clone Try.lays316 s w (by omega)
theorem clone_any (s : ByteArray) (w : World) (hs : s.size ≤ 1048576) :
    Calls Try.prog 46 #[.string s] w fun e w' => e = .returned (.string s) ∧ Below w.heap.size w w' := by
  go_enter Try.func46, Try.ntmps46
  go_wp2_with (go_at_call 73; refine (slClone_any _ _ hs).mono ?_; rintro e w' ⟨rfl, hb⟩)
  go_ret
  exact ⟨rfl, hb⟩
end Ytongpnknmgbhjaa
end Go.Proofs
