/-
  The walk of the law FnExactPutIntegrity.
-/
import Derived.Test.YtldfkdkppgammaaIntI
import Derived.Test.YtldfkdkppgammaaSumL
namespace Go.Proofs.Ytldfkdkppgammaa
open Go.RowKit

set_option maxRecDepth 100000 in
set_option maxHeartbeats 2000000 in
theorem exPutIntegrity (v : Value) (bs : List Bd) (w : World) (hr : RdB w v bs) (hn : bs.length ≤ maxLen) (hm : ∀ b ∈ bs, b.1.length ≤ maxLen ∧ b.2.length ≤ maxLen) :
    Calls Try.prog 6 #[v] w fun e w' => e = .returned (.bool true) ∧ Below w.heap.size w w' := by
  have HZ := Lib.hid (szSumS_any v bs 1048576 w hr (by omega) (by omega) hn hm)
  have HT0 := Lib.hid (fun (hl : bs.length ≤ 1048576) (W : World) (h : Below w.heap.size w W) => toSumS_any v bs W (hr.below h) hl)
  obtain ⟨z, HX⟩ : ∃ z, Hid (szB 1048576 bs = z) := ⟨_, Lib.hid rfl⟩
  obtain ⟨A, ca, rfl⟩ : ∃ A c, v = .slice A bs.length c := by obtain ⟨A, c, rfl, _⟩ := hr; exact ⟨A, c, rfl⟩
  clear hr hn hm
  by_cases hz : z < 0
  · go_enter Try.func6, Try.ntmps6
    go_wp2_with fail
    refine HZ.out.mono ?_
    rw [HX.out]
    rintro e w1 ⟨rfl, hb1⟩
    go_wp2_with fail
    go_ret
    exact ⟨rfl, hb1⟩
  · have HS : Hid (SmB bs) := Lib.hid (szB_good (left := 1048576) (by omega) (by rw [HX.out]; omega))
    have hl : bs.length ≤ 1048576 := by have := HS.out; unfold SmB at this; omega
    have HT := Lib.hid (HT0.out hl)
    clear HT0
    obtain ⟨r, HF⟩ : ∃ r, Hid (intT bs = r) := ⟨_, Lib.hid rfl⟩
    go_enter Try.func6, Try.ntmps6
    go_wp2_with fail
    refine HZ.out.mono ?_
    rw [HX.out]
    rintro e w1 ⟨rfl, B1⟩
    go_wp2_with fail
    refine (HT.out _ B1).mono ?_
    rintro e w2 ⟨g2, c2, rfl, hS2, hb2⟩
    have B2 := B1.trans (hb2.mono B1.size)
    have HP := Lib.hid (specPutIntegrity_any _ bs w2 (RdB.of_sums hS2) HS.out)
    rw [HF.out] at HP
    clear hS2 hb2 B1
    go_wp2_with fail
    refine HP.out.mono ?_
    rintro e w3 ⟨rfl, hb3⟩
    have B3 := B2.trans (hb3.mono B2.size)
    clear hb3 B2 HP
    go_wp2_with fail
    refine (HT.out _ B3).mono ?_
    rintro e w4 ⟨g4, c4, rfl, hS4, hb4⟩
    have B4 := B3.trans (hb4.mono B3.size)
    have HP := Lib.hid (implPutIntegrity_any _ bs w4 (RdB.of_sums hS4) HS.out)
    rw [HF.out] at HP
    clear hb4 B3
    go_wp2_with fail
    refine HP.out.mono ?_
    rintro e w5 ⟨rfl, hb5⟩
    have B5 := B4.trans (hb5.mono B4.size)
    have hS5 := hS4.below hb5
    clear hb5 B4 HP hS4
    go_wp2_with fail
    refine (HT.out _ B5).mono ?_
    rintro e w6 ⟨g6, c6, rfl, hS6, hb6⟩
    have B6 := B5.trans (hb6.mono B5.size)
    have HQ := Lib.hid (eqSumS_same _ _ bs w6 (RdB.of_sums (hS5.below hb6)) (RdB.of_sums hS6) (by omega))
    clear hb6 B5 hS5 hS6
    go_wp2_with fail
    refine HQ.out.mono ?_
    rintro e w7 ⟨rfl, hb7⟩
    go_wp2_with fail
    go_ret
    exact ⟨rfl, B6.trans (hb7.mono B6.size)⟩
end Go.Proofs.Ytldfkdkppgammaa
