/-
  The walk of the law FnExactHoles.
-/
import Derived.Test.YtjpclglklmlhlabGreatDoorHolI
import Derived.Test.YtjpclglklmlhlabGreatDoorLawS
import Derived.Test.YtjpclglklmlhlabGreatDoorMarkB
import Derived.Test.YtjpclglklmlhlabGreatDoorEqS
namespace Go.Proofs.YtjpclglklmlhlabGreatDoor
open Go.RowKit

theorem szI_Sm2 {ls : List (List UInt8)} (h : szI 1048576 ls ≠ -1) : Sm ls ∧ szI 1048576 ls ≤ 1048576 := by
  unfold szI at h ⊢
  split at h
  · rename_i h'
    rw [if_pos h']
    exact ⟨⟨by omega, fun l hl => by have := smL_mem l hl; omega⟩, by omega⟩
  · exact absurd rfl h

set_option maxRecDepth 100000 in
set_option maxHeartbeats 8000000 in
theorem exHoles (v vb : Value) (ls : List (List UInt8)) (bs : List Bd) (w : World) (hr : RdS w v ls) (hn : ls.length ≤ maxLen) (hm : ∀ l ∈ ls, l.length ≤ maxLen)
    (hrb : RdB w vb bs) (hnb : bs.length ≤ maxLen) (hmb : ∀ b ∈ bs, b.1.length ≤ maxLen ∧ b.2.length ≤ maxLen) (htab : Tab w) :
    Calls Tryz.prog 4 #[v, vb] w fun e w' => e = .returned (.bool true) ∧ Below w.heap.size w w' := by
  have HZ := Lib.hid (szStringS_any v ls 1048576 w hr (by omega) (by omega) hn hm)
  obtain ⟨z, HX⟩ : ∃ z, Hid (szI 1048576 ls = z) := ⟨_, Lib.hid rfl⟩
  by_cases hz : z < 0
  · clear hr hn hm htab hrb hnb hmb
    go_enter Tryz.func4, Tryz.ntmps4
    go_wp2_with fail
    refine HZ.out.mono ?_
    rw [HX.out]
    rintro e w1 ⟨rfl, rfl⟩
    go_wp2_with fail
    go_ret
    exact ⟨rfl, Below.refl _ _⟩
  have HSZ := Lib.hid (szI_Sm2 (ls := ls) (by have := HX.out; omega))
  have hz2 : z ≤ 1048576 := by have := HSZ.out.2; rw [HX.out] at this; exact this
  have HZB := Lib.hid (szBoundS_any vb bs z w hrb (by omega) hz2 hnb hmb)
  obtain ⟨y, HY⟩ : ∃ y, Hid (szB z bs = y) := ⟨_, Lib.hid rfl⟩
  by_cases hy : y < 0
  · clear hr hn hm htab hrb hnb hmb
    go_enter Tryz.func4, Tryz.ntmps4
    go_wp2_with fail
    refine HZ.out.mono ?_
    rw [HX.out]
    rintro e w1 ⟨rfl, rfl⟩
    go_wp2_with fail
    refine HZB.out.mono ?_
    rw [HY.out]
    rintro e w2 ⟨rfl, hb2⟩
    go_wp2_with fail
    go_ret
    exact ⟨rfl, hb2⟩
  have HS := Lib.hid HSZ.out.1
  have HSB := Lib.hid (szB_good (bs := bs) (left := z) hz2 (by have := HY.out; omega))
  have hl : ls.length ≤ 1048576 := HS.out.1
  have hlb : bs.length ≤ 1048576 := by have := HSB.out; unfold SmB at this; omega
  have HT := Lib.hid (fun (W : World) (hb : Below w.heap.size w W) => toStringS_any v ls W (hr.below hb) hl)
  have HTB := Lib.hid (fun (W : World) (hb : Below w.heap.size w W) => toBoundS_any vb bs W (hrb.below hb) hlb)
  have HIM := Lib.hid (fun (W : World) (u t : Value) (hb : Below w.heap.size w W) (h : RdS W u ls) (h2 : RdB W t bs) => implHoles_any u t ls bs W h HS.out h2 HSB.out (tab_below htab hb))
  clear hr hn hm htab hrb hnb hmb
  go_enter Tryz.func4, Tryz.ntmps4
  go_wp2_with fail
  refine HZ.out.mono ?_
  rw [HX.out]
  rintro e w0 ⟨rfl, rfl⟩
  go_wp2_with fail
  refine HZB.out.mono ?_
  rw [HY.out]
  rintro e wa ⟨rfl, Ba⟩
  go_wp2_with fail
  refine (HT.out _ Ba).mono ?_
  rintro e w1 ⟨g1, c1, rfl, hS1, hb1⟩
  have B1 := Ba.trans (hb1.mono Ba.size)
  go_wp2_with fail
  refine (HTB.out _ B1).mono ?_
  rintro e w2 ⟨g1b, c1b, rfl, hS1b, hb2⟩
  have B2 := B1.trans (hb2.mono B1.size)
  go_wp2_with fail
  refine (specHoles_any _ _ ls bs _ (RdS.of_strs (hS1.below hb2)) HS.out (RdB.of_bnds hS1b) HSB.out).mono ?_
  rintro e w3 ⟨X, u0, rfl, S0, hSO, hb3⟩
  have B3 := B2.trans (hb3.mono B2.size)
  have lo := sortOf_len hSO
  have lo2 := holesL_len (inF bs) X
  have HSO := Lib.hid hSO
  have n0 := S0.block_lt
  obtain ⟨out, HOUT⟩ : ∃ out, Hid (holesL (inF bs) X = out) := ⟨_, Lib.hid rfl⟩
  rw [HOUT.out] at S0 lo2
  have lo3 : out.length ≤ 1048576 := by omega
  clear hS1 hS1b hb1 hb2 hb3 B1 B2 Ba hSO HZ HX HZB HY lo lo2
  obtain ⟨A0, c0, rfl⟩ := S0.slice
  go_wp2_with fail
  refine (HT.out _ B3).mono ?_
  rintro e w4 ⟨g2, c2, rfl, Sx, hb4⟩
  have B4 := B3.trans (hb4.mono B3.size)
  have S04 := S0.below hb4
  have x2 : w3.heap.size ≤ g2 := Sx.lo
  have x3 : g2 < w4.heap.size := Sx.block_lt g2 rfl
  clear S0 hb4
  go_wp2_with fail
  refine (HTB.out _ B4).mono ?_
  rintro e w5 ⟨g3, c3, rfl, Bx, hb5⟩
  have B5 := B4.trans (hb5.mono B4.size)
  have S05 := S04.below hb5
  have Sx5 := Sx.below hb5
  have x4 : w4.heap.size ≤ g3 := Bx.owned g3 rfl
  have x5 : g3 < w5.heap.size := by rcases Bx.form with ⟨h, _⟩ | ⟨g, cap, h, _, h2⟩ <;> simp at h; omega
  clear S04 Sx hb5
  go_wp2_with fail
  refine (HIM.out _ _ _ B5 (RdS.of_strs Sx5) (RdB.of_bnds Bx)).mono ?_
  rintro e w6 ⟨X', ug, rfl, Sg, hSO', hb6⟩
  obtain rfl : X' = X := sortOf_unique hSO' HSO.out
  rw [HOUT.out] at Sg
  have B6 := B5.trans (hb6.mono B5.size)
  have S06 := S05.below hb6
  have Sx6 := Sx5.below hb6
  have Bx6 := Bx.below hb6
  have x6 := Sg.owned
  obtain ⟨Ag, cg, rfl⟩ := Sg.slice
  clear S05 Sx5 Bx hb6 hSO'
  go_wp2_with fail
  refine (eqStringS_same _ _ out _ (RdS.of_strs Sg) (RdS.of_strs S06) (by omega)).mono ?_
  rintro e w7 ⟨rfl, n7, rfl⟩
  have B7 := B6.trans (below_drewN _ _ n7)
  have S07 := S06.below (below_drewN _ _ n7)
  have Sx7 := Sx6.below (below_drewN _ _ n7)
  have Bx7 := Bx6.below (below_drewN _ _ n7)
  have Sg7 := Sg.below (below_drewN _ _ n7)
  clear S06 Sx6 Sg Bx6 B6
  go_wp2_with fail
  refine (HT.out _ B7).mono ?_
  rintro e w8 ⟨g8, c8, rfl, S8, hb8⟩
  have B8 := B7.trans (hb8.mono B7.size)
  have S08 := S07.below hb8
  have Sx8 := Sx7.below hb8
  have Bx8 := Bx7.below hb8
  have Sg8 := Sg7.below hb8
  clear S07 Sx7 Sg7 Bx7 hb8 B7
  go_wp2_with fail
  refine (eqStringS_same _ _ ls _ (RdS.of_strs Sx8) (RdS.of_strs S8) (by omega)).mono ?_
  rintro e w9 ⟨rfl, n9, rfl⟩
  have B9 := B8.trans (below_drewN _ _ n9)
  have S09 := S08.below (below_drewN _ _ n9)
  have Sx9 := Sx8.below (below_drewN _ _ n9)
  have Bx9 := Bx8.below (below_drewN _ _ n9)
  have Sg9 := Sg8.below (below_drewN _ _ n9)
  clear S08 Sx8 Sg8 Bx8 B8 S8
  go_wp2_with fail
  refine (HTB.out _ B9).mono ?_
  rintro e w10 ⟨g10, c10, rfl, S10, hb10⟩
  have B10 := B9.trans (hb10.mono B9.size)
  have S010 := S09.below hb10
  have Sx10 := Sx9.below hb10
  have Bx10 := Bx9.below hb10
  have Sg10 := Sg9.below hb10
  clear S09 Sx9 Sg9 Bx9 hb10 B9
  go_wp2_with fail
  refine (eqBoundS_same _ _ bs _ (RdB.of_bnds Bx10) (RdB.of_bnds S10) (by omega)).mono ?_
  rintro e w11 ⟨rfl, hb11⟩
  have B11 := B10.trans (hb11.mono B10.size)
  have S011 := S010.below hb11
  have Sx11 := Sx10.below hb11
  have Bx11 := Bx10.below hb11
  have Sg11 := Sg10.below hb11
  clear S010 Sx10 Sg10 Bx10 hb11 B10 S10
  go_wp2_with fail
  refine (markS_gr _ _ _ ls Sx11 (by omega)).mono ?_
  rintro e w12 ⟨rfl, _, hg12⟩
  have B12 := gr_belowN B11 hg12 B11.size (fun g hg => by simp only [Value.ownBlock, Option.some.injEq] at hg; have := B3.size; omega)
  have S012 := S011.grown hg12 (fun g hg => by have := n0 g hg; simp only [Value.ownBlock, ne_eq, Option.some.injEq]; omega)
  have Bx12 := Bx11.grown hg12 (fun g hg => by simp only [Value.ownBlock, Option.some.injEq] at hg; simp only [Value.ownBlock, ne_eq, Option.some.injEq]; omega)
  have Sg12 := Sg11.grown hg12 (fun g hg => by have := x6 g hg; simp only [Value.ownBlock, ne_eq, Option.some.injEq]; omega)
  clear S011 Sx11 Sg11 Bx11 hg12 B11
  go_wp2_with fail
  refine (markB_gr _ _ (ls.length + 1) _ bs Bx12 (by omega) (by omega) (by omega)).mono ?_
  rintro e w13 ⟨rfl, _, hg13⟩
  have B13 := gr_belowN B12 hg13 B12.size (fun g hg => by simp only [Value.ownBlock, Option.some.injEq] at hg; have := B3.size; omega)
  have S013 := S012.grown hg13 (fun g hg => by have := n0 g hg; simp only [Value.ownBlock, ne_eq, Option.some.injEq]; omega)
  have Sg13 := Sg12.grown hg13 (fun g hg => by have := x6 g hg; simp only [Value.ownBlock, ne_eq, Option.some.injEq]; omega)
  clear S012 Sg12 Bx12 hg13 B12
  obtain ⟨M, HM⟩ : ∃ M, Hid (ls.length + 1 + 2 * bs.length = M) := ⟨_, Lib.hid rfl⟩
  rw [HM.out]
  have q1 : ¬ ((M : Int) < 0) := by omega
  go_wp2_with fail
  refine (eqStringS_same _ _ out _ (RdS.of_strs Sg13) (RdS.of_strs S013) (by omega)).mono ?_
  rintro e w14 ⟨rfl, n14, rfl⟩
  have B14 := B13.trans (below_drewN _ _ n14)
  have S014 := S013.below (below_drewN _ _ n14)
  have Sg14 := Sg13.below (below_drewN _ _ n14)
  clear S013 Sg13 B13
  go_wp2_with fail
  refine (markS_gr _ _ _ out Sg14 (by omega)).mono ?_
  rintro e w15 ⟨rfl, Sg15, hg15⟩
  have B15 := gr_belowN B14 hg15 B14.size (fun g hg => by have := x6 g hg; have := B5.size; omega)
  have S015 := S014.grown hg15 (fun g hg e => by have := n0 g hg; have := x6 g e.symm; have := B3.size; omega)
  clear S014 Sg14 hg15 B14
  go_wp2_with fail
  refine (heldS_any _ _ _ out Sg15 (by omega)).mono ?_
  rintro e w16 ⟨rfl, hb16⟩
  have B16 := B15.trans (hb16.mono B15.size)
  have S016 := S015.below hb16
  have Sg16 := Sg15.below hb16
  clear S015 Sg15 hb16 B15
  have q2 : ¬ (((out.length + 1 : Nat) : Int) < 0) := by omega
  have q3 : (((out.length + 1 : Nat) : Int) != ((out.length + 1 : Nat) : Int)) = false := int_bne_false rfl
  go_wp2_with fail
  refine (HT.out _ B16).mono ?_
  rintro e w17 ⟨g17, c17, rfl, S17, hb17⟩
  have B17 := B16.trans (hb17.mono B16.size)
  have S017 := S016.below hb17
  have Sg17 := Sg16.below hb17
  clear S016 Sg16 hb17 B16
  go_wp2_with fail
  refine (HTB.out _ B17).mono ?_
  rintro e w18 ⟨g18, c18, rfl, S18, hb18⟩
  have B18 := B17.trans (hb18.mono B17.size)
  have S018 := S017.below hb18
  have Sg18 := Sg17.below hb18
  have S1718 := S17.below hb18
  clear S017 Sg17 hb18 B17 S17
  go_wp2_with fail
  refine (HIM.out _ _ _ B18 (RdS.of_strs S1718) (RdB.of_bnds S18)).mono ?_
  rintro e w19 ⟨X2, u19, rfl, S19, hSO2, hb19⟩
  obtain rfl : X2 = X' := sortOf_unique hSO2 HSO.out
  rw [HOUT.out] at S19
  have B19 := B18.trans (hb19.mono B18.size)
  have S019 := S018.below hb19
  have Sg19 := Sg18.below hb19
  clear S018 Sg18 hb19 B18 S18 S1718 hSO2
  obtain ⟨A19, c19, rfl⟩ := S19.slice
  go_wp2_with fail
  refine (eqStringS_same _ _ out _ (RdS.of_strs S19) (RdS.of_strs S019) (by omega)).mono ?_
  rintro e w20 ⟨rfl, n20, rfl⟩
  have B20 := B19.trans (below_drewN _ _ n20)
  have Sg20 := Sg19.below (below_drewN _ _ n20)
  clear S019 Sg19 S19 B19
  go_wp2_with fail
  refine (heldS_any _ _ _ out Sg20 (by omega)).mono ?_
  rintro e w21 ⟨rfl, hb21⟩
  have B21 := B20.trans (hb21.mono B20.size)
  go_wp2_with fail
  go_ret
  exact ⟨rfl, B21⟩
end Go.Proofs.YtjpclglklmlhlabGreatDoor
