/-
  The walk of the law FnExactSplitKey.
-/
import Derived.Test.YtfbealgnbklooaaSpK
namespace Go.Proofs.Ytfbealgnbklooaa
open Go.RowKit

set_option maxRecDepth 100000 in
set_option maxHeartbeats 1000000 in
theorem exSplitKey (s : ByteArray) (w : World) (hs : s.size ≤ maxLen) :
    Calls Try.prog 4 #[.string s] w fun e w' => e = .returned (.bool true) ∧ Below w.heap.size w w' := by
  unfold maxLen at hs
  by_cases hbig : 1048576 < s.size
  · go_enter Try.func4, Try.ntmps4
    go_wp2_with fail
    go_ret
    exact ⟨rfl, Below.refl _ _⟩
  · have H1 := Lib.hid (specSplitKey_any s w (by omega))
    have H2 := Lib.hid (fun W => implSplitKey_any s W (by omega))
    obtain ⟨x, HA⟩ : ∃ x, Hid (keyA s = x) := ⟨_, Lib.hid rfl⟩
    obtain ⟨y, HB⟩ : ∃ y, Hid (keyB s = y) := ⟨_, Lib.hid rfl⟩
    rw [HA.out, HB.out] at H1
    simp only [HA.out, HB.out] at H2
    go_enter Try.func4, Try.ntmps4
    go_wp2_with fail
    refine H1.out.mono ?_
    rintro e w1 ⟨rfl, hb1⟩
    go_wp2_with fail
    refine (H2.out _).mono ?_
    rintro e w2 ⟨rfl, hb2⟩
    go_wp2_with fail
    go_ret
    exact ⟨rfl, hb1.trans (hb2.mono hb1.size)⟩
end Go.Proofs.Ytfbealgnbklooaa
