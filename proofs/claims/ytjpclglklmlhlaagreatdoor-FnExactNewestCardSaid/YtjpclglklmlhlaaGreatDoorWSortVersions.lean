/-
  The walk of the law FnExactSortVersions.
-/
import Derived.Test.YtjpclglklmlhlaaGreatDoorSrtI
import Derived.Test.YtjpclglklmlhlaaGreatDoorSortS
import Derived.Test.YtjpclglklmlhlaaGreatDoorLawS
import Derived.Test.YtjpclglklmlhlaaGreatDoorMarkS
import Derived.Test.YtjpclglklmlhlaaGreatDoorEqS
namespace Go.Proofs.YtjpclglklmlhlaaGreatDoor
open Go.RowKit

theorem szI_Sm {ls : List (List UInt8)} (h : szI 1048576 ls ≠ -1) : Sm ls := by
  unfold szI at h
  split at h
  · rename_i h'
    exact ⟨by omega, fun l hl => by have := smL_mem l hl; omega⟩
  · exact absurd rfl h

set_option maxRecDepth 100000 in
set_option maxHeartbeats 8000000 in
theorem exSortVersions (v : Value) (ls : List (List UInt8)) (w : World) (hr : RdS w v ls) (hn : ls.length ≤ maxLen) (hm : ∀ l ∈ ls, l.length ≤ maxLen) (htab : Tab w) :
    Calls Tryz.prog 4 #[v] w fun e w' => e = .returned (.bool true) ∧ Below w.heap.size w w' := by
  have HZ := Lib.hid (szStringS_any v ls 1048576 w hr (by omega) (by omega) hn hm)
  obtain ⟨z, HX⟩ : ∃ z, Hid (szI 1048576 ls = z) := ⟨_, Lib.hid rfl⟩
  by_cases hz : z < 0
  · clear hr hn hm htab
    go_enter Tryz.func4, Tryz.ntmps4
    go_wp2_with fail
    refine HZ.out.mono ?_
    rw [HX.out]
    rintro e w1 ⟨rfl, rfl⟩
    go_wp2_with fail
    go_ret
    exact ⟨rfl, Below.refl _ _⟩
  · have HS := Lib.hid (szI_Sm (ls := ls) (by have := HX.out; omega))
    have hl : ls.length ≤ 1048576 := HS.out.1
    have HT := Lib.hid (fun (W : World) (hb : Below w.heap.size w W) => toStringS_any v ls W (hr.below hb) hl)
    have HIM := Lib.hid (fun (W : World) (u : Value) (hb : Below w.heap.size w W) (h : RdS W u ls) => implSortVersions_any u ls W h HS.out (tab_below htab hb))
    clear hr hn hm htab
    go_enter Tryz.func4, Tryz.ntmps4
    go_wp2_with fail
    refine HZ.out.mono ?_
    rw [HX.out]
    rintro e w0 ⟨rfl, rfl⟩
    go_wp2_with fail
    refine (HT.out _ (Below.refl _ _)).mono ?_
    rintro e w1 ⟨g1, c1, rfl, hS1, B1⟩
    go_wp2_with fail
    refine (specSortVersions_any _ ls _ (RdS.of_strs hS1) HS.out).mono ?_
    rintro e w2 ⟨u0, out, rfl, S0, hSO, hb2⟩
    have B2 := B1.trans (hb2.mono B1.size)
    have lo := sortOf_len hSO
    have lo2 : out.length ≤ 1048576 := by omega
    have HSO := Lib.hid hSO
    have n0 := S0.block_lt
    clear hS1 hb2 B1 hSO HZ HX
    obtain ⟨A0, c0, rfl⟩ := S0.slice
    go_wp2_with fail
    refine (HT.out _ B2).mono ?_
    rintro e w3 ⟨g2, c2, rfl, Sx, hb3⟩
    have B3 := B2.trans (hb3.mono B2.size)
    have S03 := S0.below hb3
    have x2 : w2.heap.size ≤ g2 := Sx.lo
    have x3 : g2 < w3.heap.size := Sx.block_lt g2 rfl
    clear S0 hb3
    go_wp2_with fail
    refine (HIM.out _ _ B3 (RdS.of_strs Sx)).mono ?_
    rintro e w4 ⟨g3, c3, out', rfl, Sg, hSO', hb4⟩
    obtain rfl : out' = out := sortOf_unique hSO' HSO.out
    have B4 := B3.trans (hb4.mono B3.size)
    have S04 := S03.below hb4
    have Sx4 := Sx.below hb4
    have x4 : w3.heap.size ≤ g3 := Sg.lo
    clear S03 Sx hb4 hSO'
    go_wp2_with fail
    refine (eqStringS_same _ _ out' _ (RdS.of_strs Sg) (RdS.of_strs S04) (by omega)).mono ?_
    rintro e w5 ⟨rfl, n5, rfl⟩
    have B5 := B4.trans (below_drewN _ _ n5)
    have S05 := S04.below (below_drewN _ _ n5)
    have Sx5 := Sx4.below (below_drewN _ _ n5)
    have Sg5 := Sg.below (below_drewN _ _ n5)
    clear S04 Sx4 Sg B4
    go_wp2_with fail
    refine (HT.out _ B5).mono ?_
    rintro e w6 ⟨g6, c6, rfl, S6, hb6⟩
    have B6 := B5.trans (hb6.mono B5.size)
    have S06 := S05.below hb6
    have Sx6 := Sx5.below hb6
    have Sg6 := Sg5.below hb6
    clear S05 Sx5 Sg5 hb6 B5
    go_wp2_with fail
    refine (eqStringS_same _ _ ls _ (RdS.of_strs Sx6) (RdS.of_strs S6) (by omega)).mono ?_
    rintro e w7 ⟨rfl, n7, rfl⟩
    have B7 := B6.trans (below_drewN _ _ n7)
    have S07 := S06.below (below_drewN _ _ n7)
    have Sx7 := Sx6.below (below_drewN _ _ n7)
    have Sg7 := Sg6.below (below_drewN _ _ n7)
    clear S06 Sx6 Sg6 B6 S6
    go_wp2_with fail
    refine (markS_gr _ _ _ ls Sx7 (by omega)).mono ?_
    rintro e w8 ⟨rfl, _, hg8⟩
    have B8 := gr_belowN B7 hg8 B7.size (fun g hg => by simp only [Value.ownBlock, Option.some.injEq] at hg; have := B2.size; omega)
    have S08 := S07.grown hg8 (fun g hg => by have := n0 g hg; simp only [Value.ownBlock, ne_eq, Option.some.injEq]; omega)
    have Sg8 := Sg7.grown hg8 (fun g hg => by simp only [Value.ownBlock, Option.some.injEq] at hg; simp only [Value.ownBlock, ne_eq, Option.some.injEq]; omega)
    clear S07 Sx7 Sg7 hg8 B7
    have q1 : ¬ (((ls.length + 1 : Nat) : Int) < 0) := by omega
    go_wp2_with fail
    refine (eqStringS_same _ _ out' _ (RdS.of_strs Sg8) (RdS.of_strs S08) (by omega)).mono ?_
    rintro e w9 ⟨rfl, n9, rfl⟩
    have B9 := B8.trans (below_drewN _ _ n9)
    have S09 := S08.below (below_drewN _ _ n9)
    have Sg9 := Sg8.below (below_drewN _ _ n9)
    clear S08 Sg8 B8
    go_wp2_with fail
    refine (markS_gr _ _ _ out' Sg9 (by omega)).mono ?_
    rintro e w10 ⟨rfl, Sg10, hg10⟩
    have B10 := gr_belowN B9 hg10 B9.size (fun g hg => by simp only [Value.ownBlock, Option.some.injEq] at hg; have := B3.size; omega)
    have S010 := S09.grown hg10 (fun g hg => by have := n0 g hg; simp only [Value.ownBlock, ne_eq, Option.some.injEq]; omega)
    clear S09 Sg9 hg10 B9
    go_wp2_with fail
    refine (heldS_any _ _ _ out' Sg10 (by omega)).mono ?_
    rintro e w11 ⟨rfl, hb11⟩
    have B11 := B10.trans (hb11.mono B10.size)
    have S011 := S010.below hb11
    have Sg11 := Sg10.below hb11
    clear S010 Sg10 hb11 B10
    have q2 : ¬ (((out'.length + 1 : Nat) : Int) < 0) := by omega
    have q3 : (((out'.length + 1 : Nat) : Int) != ((out'.length + 1 : Nat) : Int)) = false := int_bne_false rfl
    go_wp2_with fail
    refine (HT.out _ B11).mono ?_
    rintro e w12 ⟨g12, c12, rfl, S12, hb12⟩
    have B12 := B11.trans (hb12.mono B11.size)
    have S012 := S011.below hb12
    have Sg12 := Sg11.below hb12
    clear S011 Sg11 hb12 B11
    go_wp2_with fail
    refine (HIM.out _ _ B12 (RdS.of_strs S12)).mono ?_
    rintro e w13 ⟨g13, c13, out2, rfl, S13, hSO2, hb13⟩
    obtain rfl : out2 = out' := sortOf_unique hSO2 HSO.out
    have B13 := B12.trans (hb13.mono B12.size)
    have S013 := S012.below hb13
    have Sg13 := Sg12.below hb13
    clear S012 Sg12 hb13 B12 S12 hSO2
    go_wp2_with fail
    refine (eqStringS_same _ _ out2 _ (RdS.of_strs S13) (RdS.of_strs S013) (by omega)).mono ?_
    rintro e w14 ⟨rfl, n14, rfl⟩
    have B14 := B13.trans (below_drewN _ _ n14)
    have Sg14 := Sg13.below (below_drewN _ _ n14)
    clear S013 Sg13 S13 B13
    go_wp2_with fail
    refine (heldS_any _ _ _ out2 Sg14 (by omega)).mono ?_
    rintro e w15 ⟨rfl, hb15⟩
    have B15 := B14.trans (hb15.mono B14.size)
    go_wp2_with fail
    go_ret
    exact ⟨rfl, B15⟩
end Go.Proofs.YtjpclglklmlhlaaGreatDoor
