/-
  The walk of the law FnExactNewest.
-/
import Derived.Test.YtjpclglklmlhlaaGreatDoorNewJ
import Derived.Test.YtjpclglklmlhlaaGreatDoorNewS
import Derived.Test.YtjpclglklmlhlaaGreatDoorLawS
import Derived.Test.YtjpclglklmlhlaaGreatDoorEqS
import Derived.Test.YtjpclglklmlhlaaGreatDoorWSortVersions
namespace Go.Proofs.YtjpclglklmlhlaaGreatDoor
open Go.RowKit

set_option maxRecDepth 100000 in
set_option maxHeartbeats 8000000 in
theorem exNewest (v : Value) (ls : List (List UInt8)) (w : World) (hr : RdS w v ls) (hn : ls.length ≤ maxLen) (hm : ∀ l ∈ ls, l.length ≤ maxLen) (htab : Tab w) :
    Calls Tryz.prog 5 #[v] w fun e w' => e = .returned (.bool true) ∧ Below w.heap.size w w' := by
  have HZ := Lib.hid (szStringS_any v ls 1048576 w hr (by omega) (by omega) hn hm)
  obtain ⟨z, HX⟩ : ∃ z, Hid (szI 1048576 ls = z) := ⟨_, Lib.hid rfl⟩
  by_cases hz : z < 0
  · clear hr hn hm htab
    go_enter Tryz.func5, Tryz.ntmps5
    go_wp2_with fail
    refine HZ.out.mono ?_
    rw [HX.out]
    rintro e w1 ⟨rfl, rfl⟩
    go_wp2_with fail
    go_ret
    exact ⟨rfl, Below.refl _ _⟩
  · have HS := Lib.hid (szI_Sm (ls := ls) (by have := HX.out; omega))
    have hl : ls.length ≤ 1048576 := HS.out.1
    have HT := Lib.hid (fun (W : World) (hb : Below w.heap.size w W) => toStringS_any v ls W (hr.below hb) hl)
    have HIM := Lib.hid (fun (W : World) (u : Value) (hb : Below w.heap.size w W) (h : RdS W u ls) => implNewest_any u ls W h HS.out (tab_below htab hb))
    clear hr hn hm htab
    go_enter Tryz.func5, Tryz.ntmps5
    go_wp2_with fail
    refine HZ.out.mono ?_
    rw [HX.out]
    rintro e w0 ⟨rfl, rfl⟩
    go_wp2_with fail
    refine (HT.out _ (Below.refl _ _)).mono ?_
    rintro e w1 ⟨g1, c1, rfl, hS1, B1⟩
    go_wp2_with fail
    refine (specNewest_any _ ls _ (RdS.of_strs hS1) HS.out).mono ?_
    rintro e w2 ⟨out, rfl, hSO, hb2⟩
    have B2 := B1.trans (hb2.mono B1.size)
    have HSO := Lib.hid hSO
    clear hS1 hb2 B1 hSO HZ HX
    obtain ⟨r, HR⟩ : ∃ r, Hid (newestL out = r) := ⟨_, Lib.hid rfl⟩
    rw [HR.out]
    go_wp2_with fail
    refine (HT.out _ B2).mono ?_
    rintro e w3 ⟨g2, c2, rfl, Sx, hb3⟩
    have B3 := B2.trans (hb3.mono B2.size)
    clear hb3
    go_wp2_with fail
    refine (HIM.out _ _ B3 (RdS.of_strs Sx)).mono ?_
    rintro e w4 ⟨out', rfl, hSO', hb4⟩
    obtain rfl : out' = out := sortOf_unique hSO' HSO.out
    rw [HR.out]
    have B4 := B3.trans (hb4.mono B3.size)
    have Sx4 := Sx.below hb4
    clear Sx hb4 hSO'
    have q1 : ((⟨r.toArray⟩ : ByteArray).toList != (⟨r.toArray⟩ : ByteArray).toList) = false := by simp
    go_wp2_with fail
    refine (HT.out _ B4).mono ?_
    rintro e w6 ⟨g6, c6, rfl, S6, hb6⟩
    have B6 := B4.trans (hb6.mono B4.size)
    have Sx6 := Sx4.below hb6
    clear Sx4 hb6 B4
    go_wp2_with fail
    refine (eqStringS_same _ _ ls _ (RdS.of_strs Sx6) (RdS.of_strs S6) (by omega)).mono ?_
    rintro e w7 ⟨rfl, n7, rfl⟩
    have B7 := B6.trans (below_drewN _ _ n7)
    go_wp2_with fail
    go_ret
    exact ⟨rfl, B7⟩
end Go.Proofs.YtjpclglklmlhlaaGreatDoor
