/-
  The walk of the law FnExactTablesOk.
-/
import Derived.Test.YthlbpklllphhcaaTbsOk
import Derived.Test.YthlbpklllphhcaaTsL
import Derived.Deep.RegionWith
namespace Go.Proofs.Ythlbpklllphhcaa
open Go.RowKit

set_option maxRecDepth 100000 in
set_option maxHeartbeats 4000000 in
theorem exTablesOk (v : Value) (ts : List Tb) (w : World) (ht : RdXs w v ts) (hn : ts.length ≤ maxLen) (hm : ∀ t ∈ ts, TbFits t) :
    Calls Try.prog 11 #[v] w fun e w' => e = .returned (.bool true) ∧ Below w.heap.size w w' := by
  have HZ := Lib.hid (fun (W : World) (h : Below w.heap.size w W) => szTableS_any v ts 1048576 W (ht.below h) (by omega) (by omega) hn hm)
  have HT0 := Lib.hid (fun (hg : SmXs ts) (W : World) (h : Below w.heap.size w W) => toTableS_any v ts W (ht.below h) hg)
  have HSP0 := Lib.hid (fun (hg : SmXs ts) (W : World) (u : Value) (h : RdXs W u ts) => specTablesOk_any u ts W h hg)
  have HIM0 := Lib.hid (fun (hg : SmXs ts) (W : World) (u : Value) (h : RdXs W u ts) => implTablesOk_any u ts W h hg)
  have HEQ0 := Lib.hid (fun (hg : SmXs ts) (W : World) (u u' : Value) (h : RdXs W u ts) (h' : RdXs W u' ts) => eqTableS_same u u' ts W h h' hg)
  obtain ⟨z, HX⟩ : ∃ z, Hid (szXs 1048576 ts = z) := ⟨_, Lib.hid rfl⟩
  obtain ⟨A, ca, rfl⟩ := ht.slice
  clear ht hn hm
  by_cases hz : z < 0
  · go_enter Try.func11, Try.ntmps11
    go_wp2_with fail
    refine (HZ.out _ (Below.refl _ _)).mono ?_
    rw [HX.out]
    rintro e w1 ⟨rfl, hb1⟩
    go_wp2_with fail
    go_ret
    exact ⟨rfl, hb1⟩
  have HS := Lib.hid (szXs_good (ts := ts) (left := 1048576) (by omega) (by omega) (by rw [HX.out]; exact hz))
  have HT := Lib.hid (HT0.out HS.out)
  have HSP := Lib.hid (HSP0.out HS.out)
  have HIM := Lib.hid (HIM0.out HS.out)
  have HEQ := Lib.hid (HEQ0.out HS.out)
  obtain ⟨r, HR⟩ : ∃ r, Hid (tbsOk ts = r) := ⟨_, Lib.hid rfl⟩
  simp only [HR.out] at HSP HIM
  have q0 : (r != r) = false := by cases r <;> rfl
  clear HT0 HSP0 HIM0 HEQ0
  go_enter Try.func11, Try.ntmps11
  go_wp2_with fail
  refine (HZ.out _ (Below.refl _ _)).mono ?_
  rw [HX.out]
  rintro e w1 ⟨rfl, B1⟩
  clear HZ
  go_wp2_with fail
  refine (HT.out _ B1).mono ?_
  rintro e w2 ⟨u2, rfl, hG2, hb2⟩
  have B2 := B1.trans (hb2.mono B1.size)
  obtain ⟨g2, c2, rfl⟩ := hG2.slice
  clear hb2 B1
  go_wp2_with fail
  refine (HSP.out _ _ (RdXs.of_own hG2)).mono ?_
  rintro e w3 ⟨rfl, hb3⟩
  have B3 := B2.trans (hb3.mono B2.size)
  clear hb3 B2 hG2
  go_wp2_with fail
  refine (HT.out _ B3).mono ?_
  rintro e w4 ⟨u4, rfl, hG4, hb4⟩
  have B4 := B3.trans (hb4.mono B3.size)
  obtain ⟨g4, c4, rfl⟩ := hG4.slice
  clear hb4 B3
  go_wp2_with fail
  refine (HIM.out _ _ (RdXs.of_own hG4)).mono ?_
  rintro e w5 ⟨rfl, hb5⟩
  have B5 := B4.trans (hb5.mono B4.size)
  have hG5 := hG4.below hb5
  clear hb5 B4 hG4
  go_wp2_with fail
  refine (HT.out _ B5).mono ?_
  rintro e w6 ⟨u6, rfl, hG6, hb6⟩
  have B6 := B5.trans (hb6.mono B5.size)
  have hG56 := hG5.below hb6
  obtain ⟨g6, c6, rfl⟩ := hG6.slice
  clear hb6 B5 hG5
  go_wp2_with fail
  refine (HEQ.out _ _ _ (RdXs.of_own hG56) (RdXs.of_own hG6)).mono ?_
  rintro e w7 ⟨rfl, hb7⟩
  go_wp2_with fail
  go_ret
  exact ⟨rfl, B6.trans (hb7.mono B6.size)⟩
end Go.Proofs.Ythlbpklllphhcaa
