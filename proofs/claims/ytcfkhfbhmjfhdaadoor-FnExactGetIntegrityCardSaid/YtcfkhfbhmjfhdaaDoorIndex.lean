/-
  strings.IndexByte returns the first place of a byte in a string, or -1.
-/
import Derived.Test.YtcfkhfbhmjfhdaaDoorIndexA
namespace Go.Proofs.YtcfkhfbhmjfhdaaDoor
open Go.RowKit

theorem indexByte_any (s : ByteArray) (c : UInt8) (w : World) :
    Calls Tryd.prog 84 #[.string s, .int .u8 (c.toNat : Int)] w fun e w' => e = .returned (.int .i64 (Lib.indexByte s.data.toList c)) ∧ w = w' := by
  go_enter Tryd.func84, Tryd.ntmps84
  go_wp2_with fail
  refine (sliteIndexByte_any s (c.toNat : Int) _).mono ?_
  rintro e w' ⟨rfl, rfl⟩
  have hc : ((c.toNat : Int).toNat.toUInt8) = c := by simp
  rw [hc]
  go_wp2
  go_ret
  exact ⟨rfl, rfl⟩
end Go.Proofs.YtcfkhfbhmjfhdaaDoor
