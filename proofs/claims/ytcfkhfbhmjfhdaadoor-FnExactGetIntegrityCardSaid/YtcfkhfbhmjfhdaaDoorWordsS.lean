/-
  spec.Words returns the parts between spaces.
-/
import Derived.Test.YtcfkhfbhmjfhdaaDoorCut
namespace Go.Proofs.YtcfkhfbhmjfhdaaDoor
open Go.RowKit

/-- How many parts there can be. -/
theorem cutL_le (m : UInt8) (l : List UInt8) : (cutL m l).length ≤ l.length + 1 := by
  induction l with
  | nil => simp [cutL]
  | cons c l ih =>
    unfold cutL
    split
    · simp; omega
    · cases h : cutL m l with
      | nil => simp [attach]
      | cons q qs => rw [h] at ih; simp [attach] at ih ⊢; omega

theorem specWords_any (s : ByteArray) (w : World) (hs : s.size ≤ 1048576) :
    Calls Tryd.prog 26 #[.string s] w fun e W' => ∃ g cap, e = .returned (.slice (some ⟨g, 0, none⟩) (cutL 32 s.data.toList).length cap) ∧ Strs W' w.heap.size (.slice (some ⟨g, 0, none⟩) (cutL 32 s.data.toList).length cap) (cutL 32 s.data.toList) ∧ Below w.heap.size w W' := by
  go_enter Tryd.func26, Tryd.ntmps26
  go_wp2_with fail
  refine (l01Cut_any s 32 w hs).mono ?_
  rintro e w1 ⟨g, cap, rfl, hS, hb⟩
  go_wp2_with fail
  go_ret
  exact ⟨g, cap, rfl, hS, hb⟩
end Go.Proofs.YtcfkhfbhmjfhdaaDoor
