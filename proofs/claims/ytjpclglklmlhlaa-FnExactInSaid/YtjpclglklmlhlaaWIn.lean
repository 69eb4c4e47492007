/-
  The walk of the law FnExactIn.
-/
import Derived.Test.YtjpclglklmlhlaaInI
import Derived.Deep.RegionWith
namespace Go.Proofs.Ytjpclglklmlhlaa
open Go.RowKit

set_option maxRecDepth 100000 in
set_option maxHeartbeats 2000000 in
theorem exIn (s : ByteArray) (v : Value) (bs : List Bd) (w : World) (hz0 : s.size ≤ maxLen) (hr : RdB w v bs) (hn : bs.length ≤ maxLen) (hm : ∀ b ∈ bs, b.1.length ≤ maxLen ∧ b.2.length ≤ maxLen) :
    Calls Try.prog 4 #[.string s, v] w fun e w' => e = .returned (.bool true) ∧ Below w.heap.size w w' := by
  have HZ := Lib.hid (szBoundS_any v bs 1048576 w hr (by omega) (by omega) hn hm)
  unfold maxLen at hz0
  by_cases hsz : 1048576 < s.size
  · clear hr hn hm
    go_enter Try.func4, Try.ntmps4
    go_wp2_with fail
    go_ret
    exact ⟨rfl, Below.refl _ _⟩
  have hss : s.size ≤ 1048576 := by omega
  obtain ⟨z, HX⟩ : ∃ z, Hid (szB 1048576 bs = z) := ⟨_, Lib.hid rfl⟩
  by_cases hz : z < 0
  · clear hr hn hm
    go_enter Try.func4, Try.ntmps4
    go_wp2_with fail
    refine HZ.out.mono ?_
    rw [HX.out]
    rintro e w1 ⟨rfl, hb1⟩
    go_wp2_with fail
    go_ret
    exact ⟨rfl, hb1⟩
  · have HS := Lib.hid (szB_good (bs := bs) (left := 1048576) (by omega) (by have := HX.out; omega))
    have hl : bs.length ≤ 1048576 := by have := HS.out; unfold SmB at this; omega
    have HT := Lib.hid (fun (W : World) (hb : Below w.heap.size w W) => toBoundS_any v bs W (hr.below hb) hl)
    clear hr hn hm
    go_enter Try.func4, Try.ntmps4
    go_wp2_with fail
    refine HZ.out.mono ?_
    rw [HX.out]
    rintro e w1 ⟨rfl, B1⟩
    go_wp2_with fail
    refine (HT.out _ B1).mono ?_
    rintro e w2 ⟨g1, cap1, rfl, hS1, hb2⟩
    have B2 := B1.trans (hb2.mono B1.size)
    go_wp2_with fail
    refine (specIn_any _ _ bs _ hss (RdB.of_bnds hS1) HS.out).mono ?_
    obtain ⟨ok, HO⟩ : ∃ ok, Hid (inR s.data.toList bs = ok) := ⟨_, Lib.hid rfl⟩
    rw [HO.out]
    rintro e w3 ⟨rfl, hb3⟩
    have B3 := B2.trans (hb3.mono B2.size)
    clear hS1 hb2 hb3
    go_wp2_with fail
    refine (HT.out _ B3).mono ?_
    rintro e w4 ⟨g2, cap2, rfl, hS2, hb4⟩
    have B4 := B3.trans (hb4.mono B3.size)
    go_wp2_with fail
    refine (implIn_any _ _ bs _ hss (RdB.of_bnds hS2) HS.out).mono ?_
    rw [HO.out]
    rintro e w5 ⟨rfl, hb5⟩
    have B5 := B4.trans (hb5.mono B4.size)
    have hS5 := hS2.below hb5
    clear hb4 hb5 B1 B2 B3 B4 hS2
    have q0 : (ok != ok) = false := by simp
    go_wp2_with fail
    refine (HT.out _ B5).mono ?_
    rintro e w6 ⟨g3, cap3, rfl, hS3, hb6⟩
    go_wp2_with fail
    refine (eqBoundS_same _ _ bs _ (RdB.of_bnds (hS5.below hb6)) (RdB.of_bnds hS3) (by omega)).mono ?_
    rintro e w7 ⟨rfl, hb7⟩
    go_wp2_with fail
    go_ret
    exact ⟨rfl, B5.trans ((hb6.trans (hb7.mono hb6.size)).mono B5.size)⟩
end Go.Proofs.Ytjpclglklmlhlaa
