/-
  The walk of the law FnExactNeedText.
-/
import Derived.Test.YtongpnknmgbhjaaNtK
import Derived.Test.YtongpnknmgbhjaaNdLaw
import Derived.Test.YtongpnknmgbhjaaHeapD
namespace Go.Proofs.Ytongpnknmgbhjaa
open Go.RowKit

theorem off2_ok {left : Int} {a b : Nat} (h : ¬ off2 left a b < 0) (hl : left ≤ 1048576) : a + b ≤ 1048576 := by
  unfold off2 at h
  split at h
  · omega
  · split at h <;> omega
set_option maxRecDepth 100000 in
set_option maxHeartbeats 2000000 in
theorem exNeedText (a b : ByteArray) (w : World) (ha : a.size ≤ maxLen) (hb : b.size ≤ maxLen) :
    Calls Try.prog 4 #[.agg #[.string a, .string b]] w fun e w' => e = .returned (.bool true) ∧ Below w.heap.size w w' := by
  have HZ := Lib.hid (fun W => Ndk.szNeed_any a b 1048576 W (by omega) (by omega) ha hb)
  obtain ⟨z, HX⟩ : ∃ z, Hid (off2 1048576 a.size b.size = z) := ⟨_, Lib.hid rfl⟩
  simp only [HX.out] at HZ
  have B0 : Below w.heap.size w (w.alloc (.cells #[.string a, .string b] 43)) := (Below.refl _ _).alloc (Nat.le_refl _) _
  have b0 := heap_alloc_new w (.cells #[.string a, .string b] 43)
  by_cases hz : z < 0
  · clear ha hb
    go_enter Try.func4, Try.ntmps4
    go_wp2_with fail
    refine (HZ.out _).mono ?_
    rintro e w1 ⟨rfl, hb1⟩
    go_wp2_with fail
    go_ret
    exact ⟨rfl, B0.trans (hb1.mono B0.size)⟩
  have hs : a.size + b.size ≤ 1048576 := off2_ok (by rw [HX.out]; exact hz) (Int.le_refl _)
  have HT := Lib.hid (fun W => Ndk.toNeed_any a b W)
  have HS := Lib.hid (fun W => specNeedText_any a b W hs)
  have HI := Lib.hid (fun W => implNeedText_any a b W hs)
  generalize quoteT (ndKey a b).data.toList = r at HS HI
  clear ha hb hs
  go_enter Try.func4, Try.ntmps4
  go_wp2_with fail
  refine (HZ.out _).mono ?_
  rintro e w1 ⟨rfl, hb1⟩
  have B1 := B0.trans (hb1.mono B0.size)
  have b1 := keepB b0 hb1
  obtain ⟨x0, x1⟩ := cellsG b1
  clear hb1 B0 b0
  go_wp2_with fail
  refine (HT.out _).mono ?_
  rintro e w2 ⟨rfl, hb2⟩
  have B2 := B1.trans (hb2.mono B1.size)
  have b2 := keepB b1 hb2
  clear hb2 B1 b1 x0 x1
  go_wp2_with fail
  refine (HS.out _).mono ?_
  rintro e w3 ⟨rfl, hb3⟩
  have B3 := B2.trans (hb3.mono B2.size)
  have b3 := keepB b2 hb3
  obtain ⟨x0, x1⟩ := cellsG b3
  clear hb3 B2 b2
  go_wp2_with fail
  refine (HT.out _).mono ?_
  rintro e w4 ⟨rfl, hb4⟩
  have B4 := B3.trans (hb4.mono B3.size)
  clear hb4 B3 b3 x0 x1
  go_wp2_with fail
  refine (HI.out _).mono ?_
  rintro e w5 ⟨rfl, hb5⟩
  go_wp2_with fail
  go_ret
  exact ⟨rfl, B4.trans (hb5.mono B4.size)⟩
end Go.Proofs.Ytongpnknmgbhjaa
