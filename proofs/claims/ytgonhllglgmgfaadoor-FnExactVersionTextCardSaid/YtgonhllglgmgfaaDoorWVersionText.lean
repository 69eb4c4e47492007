/-
  The walk of the law FnExactVersionText.
-/
import Derived.Test.YtgonhllglgmgfaaDoorBox
import Derived.Test.YtgonhllglgmgfaaDoorTextI
import Derived.Deep.RegionWith
namespace Go.Proofs.YtgonhllglgmgfaaDoor
open Go.RowKit

set_option maxRecDepth 100000 in
set_option maxHeartbeats 2000000 in
theorem exVersionText (a b c : Int) (v : Value) (ls : List (List UInt8)) (w : World) (hr : RdS w v ls) (hn : ls.length ≤ maxLen) (hm : ∀ l ∈ ls, l.length ≤ maxLen) (htab : Tab w) :
    Calls Tryd.prog 3 #[.agg #[.int .i64 a, .int .i64 b, .int .i64 c, v]] w fun e w' => e = .returned (.bool true) ∧ Below w.heap.size w w' := by
  have HZ := Lib.hid (szVersion_any a b c v ls 1048576 _ (rdS_alloc hr (.cells #[.int .i64 a, .int .i64 b, .int .i64 c, v] 24)) (by omega) (by omega) hn hm)
  obtain ⟨z, HX⟩ : ∃ z, Hid (szI 1048576 ls = z) := ⟨_, Lib.hid rfl⟩
  by_cases hz : z < 0
  · clear hr hn hm
    go_enter Tryd.func3, Tryd.ntmps3
    go_wp2_with fail
    refine HZ.out.mono ?_
    rw [HX.out]
    rintro e w1 ⟨rfl, hb1⟩
    go_wp2_with fail
    go_ret
    exact ⟨rfl, ((Below.refl _ _).alloc (Nat.le_refl _) _).trans (hb1.mono (by simp))⟩
  · have HS := Lib.hid (szI_good (ls := ls) (by have := HX.out; omega))
    have HT := Lib.hid (fun (W : World) (hb : Below w.heap.size w W) => toVersion_any a b c v ls W (hr.below hb) HS.out.1)
    have HTB := Lib.hid (fun (W : World) (hb : Below w.heap.size w W) => tab_below htab hb)
    clear hr hn hm htab
    go_enter Tryd.func3, Tryd.ntmps3
    go_wp2_with fail
    refine HZ.out.mono ?_
    rw [HX.out]
    rintro e w1 ⟨rfl, hb1⟩
    have B1 : Below w.heap.size w w1 := ((Below.refl _ _).alloc (Nat.le_refl _) _).trans (hb1.mono (by simp))
    have hc1 := (bcell hb1).1
    go_wp2_with fail
    refine (HT.out _ B1).mono ?_
    rintro e w2 ⟨g1, cap1, rfl, hS1, hb2⟩
    go_wp2_with fail
    refine (specVersionText_any a b c _ ls _ (RdS.of_strs hS1) HS.out).mono ?_
    obtain ⟨ok, HO⟩ : ∃ ok, Hid (verText a b c ls = ok) := ⟨_, Lib.hid rfl⟩
    rw [HO.out]
    rintro e w3 ⟨rfl, hb3⟩
    have hb23 := hb1.trans ((hb2.trans (hb3.mono hb2.size)).mono hb1.size)
    have B3 : Below w.heap.size w w3 := ((Below.refl _ _).alloc (Nat.le_refl _) _).trans (hb23.mono (by simp))
    clear hc1
    have hc3 := (bcell hb23).1
    go_wp2_with fail
    refine (HT.out _ B3).mono ?_
    rintro e w4 ⟨g2, cap2, rfl, hS2, hb4⟩
    have B4 : Below w.heap.size w (w4.alloc (.cells #[.int .i64 a, .int .i64 b, .int .i64 c, .slice (some ⟨g2, 0, none⟩) ls.length cap2] 27)) := (B3.trans (hb4.mono B3.size)).alloc (Nat.le_trans B3.size hb4.size) _
    go_wp2_with fail
    refine (implVersionText_any a b c _ _ ls _ (hS2.alloc _) HS.out (HTB.out _ B4)).mono ?_
    rw [HO.out]
    rintro e w5 ⟨rfl, hb5⟩
    have hS5 := (hS2.alloc _).below hb5
    have hb45 := hb23.trans ((((Below.refl _ w3).trans hb4).alloc hb4.size (.cells #[.int .i64 a, .int .i64 b, .int .i64 c, .slice (some ⟨g2, 0, none⟩) ls.length cap2] 27)).mono hb23.size)
    have hb05 := hb45.trans (hb5.mono hb45.size)
    have B5 : Below w.heap.size w w5 := ((Below.refl _ _).alloc (Nat.le_refl _) _).trans (hb05.mono (by simp))
    clear hc3
    have hc5 := (bcell hb05).1
    have hd5 := (bcell hb5).1
    have l4 : w4.heap.size < w5.heap.size := by have := hb5.size; simp at this; omega
    have l0 : w.heap.size < w5.heap.size := by have := hb05.size; simp at this; omega
    have x0 : w5.cell? ⟨w4.heap.size, 0, none⟩ = some (.int .i64 a) := by rw [hd5 _ _ (by simp)]; simp
    have x1 : w5.cell? ⟨w4.heap.size, 1, none⟩ = some (.int .i64 b) := by rw [hd5 _ _ (by simp)]; simp
    have x2 : w5.cell? ⟨w4.heap.size, 2, none⟩ = some (.int .i64 c) := by rw [hd5 _ _ (by simp)]; simp
    have x3 : w5.cell? ⟨w4.heap.size, 3, none⟩ = some (.slice (some ⟨g2, 0, none⟩) ls.length cap2) := by rw [hd5 _ _ (by simp)]; simp
    have y0 : w5.cell? ⟨w.heap.size, 0, none⟩ = some (.int .i64 a) := by rw [hc5 _ _ (by simp)]; simp
    have y1 : w5.cell? ⟨w.heap.size, 1, none⟩ = some (.int .i64 b) := by rw [hc5 _ _ (by simp)]; simp
    have y2 : w5.cell? ⟨w.heap.size, 2, none⟩ = some (.int .i64 c) := by rw [hc5 _ _ (by simp)]; simp
    have y3 : w5.cell? ⟨w.heap.size, 3, none⟩ = some v := by rw [hc5 _ _ (by simp)]; simp
    clear hc5 hd5
    go_wp2_with fail
    go_region_with (first | (go_at_call 6; refine (HT.out _ (by first | exact B5.trans (below_drewN _ _ 1))).mono ?_; rintro e w6 ⟨g3, cap3, rfl, hS3, hb6⟩; have z0 := (hb6.cell (p := ⟨w4.heap.size, 0, none⟩) l4).trans x0; have z1 := (hb6.cell (p := ⟨w4.heap.size, 1, none⟩) l4).trans x1; have z2 := (hb6.cell (p := ⟨w4.heap.size, 2, none⟩) l4).trans x2; have z3 := (hb6.cell (p := ⟨w4.heap.size, 3, none⟩) l4).trans x3) | (go_at_call 8; refine (eqVersion_same a b c _ _ ls _ (RdS.of_strs ((hS5.below (below_drewN _ _ 1)).below hb6)) (RdS.of_strs hS3) (by have := HS.out.1; omega)).mono ?_; rintro e w7 ⟨rfl, hb7⟩))
    all_goals
      go_wp2_with fail
      go_ret
      exact ⟨rfl, (B5.trans (below_drewN _ _ 1)).trans ((hb6.trans (hb7.mono hb6.size)).mono B5.size)⟩
end Go.Proofs.YtgonhllglgmgfaaDoor
