/-
  strings.Clone returns the same bytes.
-/
import Derived.Test.YthlbpklllphhcaaLaysClone
import Derived.Test.YthlbpklllphhcaaStr
namespace Go.Proofs
open Go.Shelf
namespace Ythlbpklllphhcaa
open Go.RowKit
theorem slClone_any (s : ByteArray) (w : World) (hs : s.size ≤ 1048576) :
    Calls Try.prog 95 #[.string s] w fun e w' => e = .returned (.string s) ∧ Below w.heap.size w w' := Any.stringslite_Clone Try.lays316 s w (by omega)
theorem clone_any (s : ByteArray) (w : World) (hs : s.size ≤ 1048576) :
    Calls Try.prog 56 #[.string s] w fun e w' => e = .returned (.string s) ∧ Below w.heap.size w w' := by
  go_enter Try.func56, Try.ntmps56
  go_wp2_with (go_at_call 95; refine (slClone_any _ _ hs).mono ?_; rintro e w' ⟨rfl, hb⟩)
  go_ret
  exact ⟨rfl, hb⟩
end Ythlbpklllphhcaa
end Go.Proofs
