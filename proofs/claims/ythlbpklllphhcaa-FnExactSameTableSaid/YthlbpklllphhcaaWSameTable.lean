/-
  The walk of the law FnExactSameTable.
-/
import Derived.Test.YthlbpklllphhcaaEqFS
import Derived.Test.YthlbpklllphhcaaTbL
import Derived.Deep.RegionWith
namespace Go.Proofs.Ythlbpklllphhcaa
open Go.RowKit

set_option maxRecDepth 100000 in
set_option maxHeartbeats 8000000 in
theorem exSameTable (t : Tb) (va : Value) (u : Tb) (vb : Value) (w : World)
    (ht : RdFs w va t.fields) (ft : TbFits t) (hu : RdFs w vb u.fields) (fu : TbFits u) :
    Calls Try.prog 9 #[tbV t va, tbV u vb] w fun e w' => e = .returned (.bool true) ∧ Below w.heap.size w w' := by
  have HZ := Lib.hid (fun (W : World) (h : Below w.heap.size w W) => szTable_any t va 1048576 W (ht.below h) (by omega) (by omega) ft)
  have HY := Lib.hid (fun (W : World) (h : Below w.heap.size w W) (z : Int) (z0 : 0 ≤ z) (z1 : z ≤ 1048576) => szTable_any u vb z W (hu.below h) z0 z1 fu)
  have HT0 := Lib.hid (fun (hg : SmTb t) (W : World) (h : Below w.heap.size w W) => toTable_any t va W (ht.below h) hg)
  have HU0 := Lib.hid (fun (hg : SmTb u) (W : World) (h : Below w.heap.size w W) => toTable_any u vb W (hu.below h) hg)
  obtain ⟨z, HX⟩ : ∃ z, Hid (szTb 1048576 t = z) := ⟨_, Lib.hid rfl⟩
  obtain ⟨B, cb, rfl⟩ := ht.slice
  obtain ⟨D, cd, rfl⟩ := hu.slice
  unfold tbV at *
  clear ht hu ft fu
  have B0 : Below w.heap.size w ((w.alloc (.cells #[.string ⟨t.name.toArray⟩, .slice B t.fields.length cb] 44)).alloc (.cells #[.string ⟨u.name.toArray⟩, .slice D u.fields.length cd] 44)) := ((Below.refl _ _).alloc (Nat.le_refl _) _).alloc (by simp) _
  have a0 := keepA (heap_alloc_new w (.cells #[.string ⟨t.name.toArray⟩, .slice B t.fields.length cb] 44)) (.cells #[.string ⟨u.name.toArray⟩, .slice D u.fields.length cd] 44)
  have b0 := heap_new (W := w.alloc (.cells #[.string ⟨t.name.toArray⟩, .slice B t.fields.length cb] 44)) (n := w.heap.size + 1) (by simp) (.cells #[.string ⟨u.name.toArray⟩, .slice D u.fields.length cd] 44)
  by_cases hz : z < 0
  · go_enter Try.func9, Try.ntmps9
    go_wp2_with fail
    refine (HZ.out _ B0).mono ?_
    rw [HX.out]
    rintro e w1 ⟨rfl, hb1⟩
    go_wp2_with fail
    go_ret
    exact ⟨rfl, B0.trans (hb1.mono B0.size)⟩
  obtain ⟨HS0, z0, z1⟩ := szTb_good (t := t) (left := 1048576) (by omega) (by omega) (by rw [HX.out]; exact hz)
  rw [HX.out] at z0 z1
  have HS := Lib.hid HS0
  obtain ⟨y, HW⟩ : ∃ y, Hid (szTb z u = y) := ⟨_, Lib.hid rfl⟩
  by_cases hy : y < 0
  · go_enter Try.func9, Try.ntmps9
    go_wp2_with fail
    refine (HZ.out _ B0).mono ?_
    rw [HX.out]
    rintro e w1 ⟨rfl, hb1⟩
    have B1 := B0.trans (hb1.mono B0.size)
    obtain ⟨x0, x1⟩ := cellsG (keepB b0 hb1)
    go_wp2_with fail
    refine (HY.out _ B1 z z0 z1).mono ?_
    rw [HW.out]
    rintro e w2 ⟨rfl, hb2⟩
    go_wp2_with fail
    go_ret
    exact ⟨rfl, B1.trans (hb2.mono B1.size)⟩
  have HSQ := Lib.hid (szTb_good (t := u) (left := z) z1 z0 (by rw [HW.out]; exact hy)).1
  have HT := Lib.hid (HT0.out HS.out)
  have HU := Lib.hid (HU0.out HSQ.out)
  clear HT0 HU0 HS0
  obtain ⟨r, HF⟩ : ∃ r, Hid (eqTb t u = r) := ⟨_, Lib.hid rfl⟩
  have HSP : Hid (∀ (a b : Value) (W : World), RdFs W a t.fields → RdFs W b u.fields → Calls Try.prog 37 #[.agg #[.string ⟨t.name.toArray⟩, a], .agg #[.string ⟨u.name.toArray⟩, b]] W fun e w' => e = .returned (.bool r) ∧ Below W.heap.size W w') := Lib.hid (fun a b W h1 h2 => by rw [← HF.out]; exact specSameTable_any t u a b W h1 h2 HS.out HSQ.out)
  have HIP : Hid (∀ (a b : Value) (W : World), RdFs W a t.fields → RdFs W b u.fields → Calls Try.prog 38 #[.agg #[.string ⟨t.name.toArray⟩, a], .agg #[.string ⟨u.name.toArray⟩, b]] W fun e w' => e = .returned (.bool r) ∧ Below W.heap.size W w') := Lib.hid (fun a b W h1 h2 => by rw [← HF.out]; exact implSameTable_any t u a b W h1 h2 HS.out HSQ.out)
  go_enter Try.func9, Try.ntmps9
  go_wp2_with fail
  refine (HZ.out _ B0).mono ?_
  rw [HX.out]
  rintro e w1 ⟨rfl, hb1⟩
  have B1 := B0.trans (hb1.mono B0.size)
  have a1 := keepB a0 hb1
  have b1 := keepB b0 hb1
  obtain ⟨x0, x1⟩ := cellsG b1
  clear hb1 a0 b0 B0 HZ
  go_wp2_with fail
  refine (HY.out _ B1 z z0 z1).mono ?_
  rw [HW.out]
  rintro e w2 ⟨rfl, hb2⟩
  have B2 := B1.trans (hb2.mono B1.size)
  have a2 := keepB a1 hb2
  have b2 := keepB b1 hb2
  clear hb2 a1 b1 B1 x0 x1 HY
  obtain ⟨x0, x1⟩ := cellsG a2
  obtain ⟨x2, x3⟩ := cellsG b2
  have BD := B2.trans (below_drew w.heap.size w2)
  go_wp2_with fail
  go_region_with (first
    | (go_at_call 30; (with_reducible refine (HT.out _ BD).mono ?_); rintro e wa ⟨ua, rfl, hGa, hba⟩; obtain ⟨Da, fa, rfl, _, _⟩ := hGa.slice; have BDa := BD.trans (hba.mono BD.size); obtain ⟨u2, u3⟩ := cellsG (keepB (W := w2.drew) b2 hba))
    | (go_at_call 30; (with_reducible refine (HU.out _ BD).mono ?_); rintro e wb ⟨ub, rfl, hGb, hbb⟩; obtain ⟨Db, fb, rfl, _, _⟩ := hGb.slice; have BDb := BD.trans (hbb.mono BD.size); obtain ⟨u0, u1⟩ := cellsG (keepB (W := w2.drew) a2 hbb))
    | (go_at_call 30; (with_reducible refine (HT.out _ BDb).mono ?_); rintro e wa ⟨ua, rfl, hGa, hba⟩; obtain ⟨Da, fa, rfl, _, _⟩ := hGa.slice; have BDa := BDb.trans (hba.mono BDb.size))
    | (go_at_call 30; (with_reducible refine (HU.out _ BDa).mono ?_); rintro e wb ⟨ub, rfl, hGb, hbb⟩; obtain ⟨Db, fb, rfl, _, _⟩ := hGb.slice; have BDb := BDa.trans (hbb.mono BDa.size))
    | (go_at_call 37; refine (HSP.out _ _ _ (by first | exact RdFs.of_own (hGa.below hbb) | exact RdFs.of_own hGa) (by first | exact RdFs.of_own (hGb.below hba) | exact RdFs.of_own hGb)).mono ?_; rintro e w3 ⟨rfl, hb3⟩))
  all_goals
    have B3 : Below w.heap.size w w3 := by first | exact BDb.trans (hb3.mono BDb.size) | exact BDa.trans (hb3.mono BDa.size)
    have a3 := (show w3.heap[w.heap.size]? = _ from (by first | exact keepB (keepB (keepB (W := w2.drew) a2 hba) hbb) hb3 | exact keepB (keepB (keepB (W := w2.drew) a2 hbb) hba) hb3))
    have b3 := (show w3.heap[w.heap.size + 1]? = _ from (by first | exact keepB (keepB (keepB (W := w2.drew) b2 hba) hbb) hb3 | exact keepB (keepB (keepB (W := w2.drew) b2 hbb) hba) hb3))
    clear hGa hGb hba hbb hb3 BDa BDb BD a2 b2 B2 x0 x1 x2 x3
    obtain ⟨x0, x1⟩ := cellsG a3
    go_wp2_with fail
    refine (HT.out _ B3).mono ?_
    rintro e w4 ⟨v4, rfl, hG4, hb4⟩
    obtain ⟨D4, e4, rfl, _, _⟩ := hG4.slice
    have B4 := B3.trans (hb4.mono B3.size)
    have a4 := keepB a3 hb4
    have b4 := keepB b3 hb4
    clear hb4 a3 b3 B3 x0 x1
    have B5 : Below w.heap.size w (w4.alloc (.cells #[.string ⟨t.name.toArray⟩, .slice (some ⟨D4, 0, none⟩) t.fields.length e4] 52)) := B4.alloc B4.size _
    have a5 := keepA a4 (.cells #[.string ⟨t.name.toArray⟩, .slice (some ⟨D4, 0, none⟩) t.fields.length e4] 52)
    have b5 := keepA b4 (.cells #[.string ⟨t.name.toArray⟩, .slice (some ⟨D4, 0, none⟩) t.fields.length e4] 52)
    have p5 := heap_alloc_new w4 (.cells #[.string ⟨t.name.toArray⟩, .slice (some ⟨D4, 0, none⟩) t.fields.length e4] 52)
    have hG5 := hG4.below ((Below.refl _ w4).alloc (Nat.le_refl _) (.cells #[.string ⟨t.name.toArray⟩, .slice (some ⟨D4, 0, none⟩) t.fields.length e4] 52))
    clear hG4 a4 b4 B4
    obtain ⟨x2, x3⟩ := cellsG b5
    go_wp2_with fail
    refine (HU.out _ B5).mono ?_
    rintro e w6 ⟨v6, rfl, hG6, hb6⟩
    obtain ⟨D6, e6, rfl, _, _⟩ := hG6.slice
    have B6 := B5.trans (hb6.mono B5.size)
    have a6 := keepB a5 hb6
    have b6 := keepB b5 hb6
    have p6 := keepB p5 hb6
    have hG56 := hG5.below hb6
    clear hb6 a5 b5 p5 B5 x2 x3 hG5
    have B7 : Below w.heap.size w (w6.alloc (.cells #[.string ⟨u.name.toArray⟩, .slice (some ⟨D6, 0, none⟩) u.fields.length e6] 52)) := B6.alloc B6.size _
    have a7 := keepA a6 (.cells #[.string ⟨u.name.toArray⟩, .slice (some ⟨D6, 0, none⟩) u.fields.length e6] 52)
    have b7 := keepA b6 (.cells #[.string ⟨u.name.toArray⟩, .slice (some ⟨D6, 0, none⟩) u.fields.length e6] 52)
    have p7 := keepA p6 (.cells #[.string ⟨u.name.toArray⟩, .slice (some ⟨D6, 0, none⟩) u.fields.length e6] 52)
    have q7 := heap_alloc_new w6 (.cells #[.string ⟨u.name.toArray⟩, .slice (some ⟨D6, 0, none⟩) u.fields.length e6] 52)
    have BA := (Below.refl _ w6).alloc (Nat.le_refl _) (.cells #[.string ⟨u.name.toArray⟩, .slice (some ⟨D6, 0, none⟩) u.fields.length e6] 52)
    have hP7 := hG56.below BA
    have hQ7 := hG6.below BA
    clear hG56 hG6 a6 b6 p6 B6 BA
    obtain ⟨m0, m1⟩ := cellsG p7
    obtain ⟨m2, m3⟩ := cellsG q7
    go_wp2_with fail
    refine (HIP.out _ _ _ (RdFs.of_own hP7) (RdFs.of_own hQ7)).mono ?_
    rintro e w8 ⟨rfl, hb8⟩
    have B8 := B7.trans (hb8.mono B7.size)
    have a8 := keepB a7 hb8
    have b8 := keepB b7 hb8
    have p8 := keepB p7 hb8
    have q8 := keepB q7 hb8
    have hP8 := hP7.below hb8
    have hQ8 := hQ7.below hb8
    have q0 : (r != r) = false := by cases r <;> rfl
    clear hb8 a7 b7 p7 q7 hP7 hQ7 B7 m0 m1 m2 m3
    have HQ := Lib.hid (fun (W : World) (h : Below w8.heap.size w8 W) (b' : Value) (r2 : RdFs W b' t.fields) => eqTable_same t _ b' W ((RdFs.of_own hP8).below h) r2 HS.out)
    obtain ⟨y0, y1⟩ := cellsG a8
    obtain ⟨y2, y3⟩ := cellsG p8
    have BE := B8.trans (below_drewN w.heap.size w8 1)
    go_wp2_with fail
    go_region_with (first | (go_at_call 30; refine (HT.out _ BE).mono ?_; rintro e w9 ⟨v9, rfl, hG9, hb9⟩; obtain ⟨D9, e9, rfl, _, _⟩ := hG9.slice; obtain ⟨v0, v1⟩ := cellsG (keepB (W := w8.drewN 1) p8 hb9)) | (go_at_call 33; refine (HQ.out _ ((below_drewN _ _ 1).trans (hb9.mono (Nat.le_refl _))) _ (RdFs.of_own hG9)).mono ?_; rintro e w10 ⟨rfl, hb10⟩))
    all_goals
      have B9 := BE.trans (hb9.mono BE.size)
      have B10 := B9.trans (hb10.mono B9.size)
      have b10 := keepB (keepB (W := w8.drewN 1) b8 hb9) hb10
      have q10 := keepB (keepB (W := w8.drewN 1) q8 hb9) hb10
      have hQ10 := (hQ8.below (below_drewN _ _ 1)).below (hb9.trans (hb10.mono hb9.size))
      have HQ2 := Lib.hid (fun (W : World) (h : Below w10.heap.size w10 W) (b' : Value) (r2 : RdFs W b' u.fields) => eqTable_same u _ b' W ((RdFs.of_own hQ10).below h) r2 HSQ.out)
      clear hb9 hb10 hG9 B9 BE B8 a8 b8 p8 q8 hP8 hQ8 HQ y0 y1 y2 y3 hQ10
      obtain ⟨y0, y1⟩ := cellsG b10
      obtain ⟨y2, y3⟩ := cellsG q10
      have BF := B10.trans (below_drewN w.heap.size w10 1)
      go_wp2_with fail
      go_region_with (first | (go_at_call 30; refine (HU.out _ BF).mono ?_; rintro e w11 ⟨v11, rfl, hG11, hb11⟩; obtain ⟨D11, e11, rfl, _, _⟩ := hG11.slice; obtain ⟨v0, v1⟩ := cellsG (keepB (W := w10.drewN 1) q10 hb11)) | (go_at_call 33; refine (HQ2.out _ ((below_drewN _ _ 1).trans (hb11.mono (Nat.le_refl _))) _ (RdFs.of_own hG11)).mono ?_; rintro e w12 ⟨rfl, hb12⟩))
      all_goals
        have B11 := BF.trans (hb11.mono BF.size)
        go_wp2_with fail
        go_ret
        exact ⟨rfl, B11.trans (hb12.mono B11.size)⟩
end Go.Proofs.Ythlbpklllphhcaa
