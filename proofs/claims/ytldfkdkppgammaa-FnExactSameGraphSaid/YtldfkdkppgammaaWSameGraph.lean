/-
  The walk of the law FnExactSameGraph.
-/
import Derived.Test.YtldfkdkppgammaaEqG
import Derived.Deep.RegionWith
namespace Go.Proofs.Ytldfkdkppgammaa
open Go.RowKit

theorem szG_pos {ts : List (List UInt8)} {ps : List Pk} {left : Int} (hl : left ≤ 1048576) (h0 : 0 ≤ left) (h : ¬ szG left ts ps < 0) : 0 ≤ szG left ts ps ∧ szG left ts ps ≤ 1048576 := ⟨by omega, (szG_good hl h0 h).2⟩

set_option maxRecDepth 100000 in
set_option maxHeartbeats 8000000 in
theorem exSameGraph (vt vp : Value) (ts : List (List UInt8)) (ps : List Pk) (vu vq : Value) (us : List (List UInt8)) (qs : List Pk) (w : World)
    (ht : RdS w vt ts) (hp : RdPs w vp ps) (nt : ts.length ≤ maxLen) (mt : ∀ l ∈ ts, l.length ≤ maxLen) (np : ps.length ≤ maxLen) (mp : ∀ p ∈ ps, PkFits p)
    (hu : RdS w vu us) (hq : RdPs w vq qs) (nu : us.length ≤ maxLen) (mu : ∀ l ∈ us, l.length ≤ maxLen) (nq : qs.length ≤ maxLen) (mq : ∀ p ∈ qs, PkFits p) :
    Calls Try.prog 7 #[.agg #[vt, vp], .agg #[vu, vq]] w fun e w' => e = .returned (.bool true) ∧ Below w.heap.size w w' := by
  have HZ := Lib.hid (fun (W : World) (h : Below w.heap.size w W) => szGraph_any vt vp ts ps 1048576 W (ht.below h) (hp.below h) (by omega) (by omega) nt mt np mp)
  have HY := Lib.hid (fun (W : World) (h : Below w.heap.size w W) (z : Int) (z0 : 0 ≤ z) (z1 : z ≤ 1048576) => szGraph_any vu vq us qs z W (hu.below h) (hq.below h) z0 z1 nu mu nq mq)
  have HT0 := Lib.hid (fun (hg : SmG ts ps) (W : World) (h : Below w.heap.size w W) => toGraph_any vt vp ts ps W (ht.below h) (hp.below h) hg)
  have HU0 := Lib.hid (fun (hg : SmG us qs) (W : World) (h : Below w.heap.size w W) => toGraph_any vu vq us qs W (hu.below h) (hq.below h) hg)
  obtain ⟨z, HX⟩ : ∃ z, Hid (szG 1048576 ts ps = z) := ⟨_, Lib.hid rfl⟩
  obtain ⟨A, ca, rfl⟩ := ht.slice
  obtain ⟨B, cb, rfl, _⟩ := hp
  obtain ⟨C, cc, rfl⟩ := hu.slice
  obtain ⟨D, cd, rfl, _⟩ := hq
  clear ht nt mt np mp hu nu mu nq mq
  have B0 : Below w.heap.size w ((w.alloc (.cells #[.slice A ts.length ca, .slice B ps.length cb] 36)).alloc (.cells #[.slice C us.length cc, .slice D qs.length cd] 36)) := ((Below.refl _ _).alloc (Nat.le_refl _) _).alloc (by simp) _
  have a0 := keepA (heap_alloc_new w (.cells #[.slice A ts.length ca, .slice B ps.length cb] 36)) (.cells #[.slice C us.length cc, .slice D qs.length cd] 36)
  have b0 := heap_new (W := w.alloc (.cells #[.slice A ts.length ca, .slice B ps.length cb] 36)) (n := w.heap.size + 1) (by simp) (.cells #[.slice C us.length cc, .slice D qs.length cd] 36)
  by_cases hz : z < 0
  · go_enter Try.func7, Try.ntmps7
    go_wp2_with fail
    refine (HZ.out _ B0).mono ?_
    rw [HX.out]
    rintro e w1 ⟨rfl, hb1⟩
    go_wp2_with fail
    go_ret
    exact ⟨rfl, B0.trans (hb1.mono B0.size)⟩
  have HS := Lib.hid (szG_good (ts := ts) (ps := ps) (left := 1048576) (by omega) (by omega) (by rw [HX.out]; exact hz)).1
  obtain ⟨z0, z1⟩ : 0 ≤ z ∧ z ≤ 1048576 := by rw [← HX.out]; exact szG_pos (by omega) (by omega) (by rw [HX.out]; exact hz)
  obtain ⟨y, HW⟩ : ∃ y, Hid (szG z us qs = y) := ⟨_, Lib.hid rfl⟩
  by_cases hy : y < 0
  · go_enter Try.func7, Try.ntmps7
    go_wp2_with fail
    refine (HZ.out _ B0).mono ?_
    rw [HX.out]
    rintro e w1 ⟨rfl, hb1⟩
    have B1 := B0.trans (hb1.mono B0.size)
    obtain ⟨x0, x1⟩ := cellsG (keepB b0 hb1)
    go_wp2_with fail
    refine (HY.out _ B1 z z0 z1).mono ?_
    rw [HW.out]
    rintro e w2 ⟨rfl, hb2⟩
    go_wp2_with fail
    go_ret
    exact ⟨rfl, B1.trans (hb2.mono B1.size)⟩
  have HSQ := Lib.hid (szG_good (ts := us) (ps := qs) (left := z) z1 z0 (by rw [HW.out]; exact hy)).1
  have HT := Lib.hid (HT0.out HS.out)
  have HU := Lib.hid (HU0.out HSQ.out)
  clear HT0 HU0
  obtain ⟨r, HF⟩ : ∃ r, Hid (eqGr ts us ps qs = r) := ⟨_, Lib.hid rfl⟩
  have HSP : Hid (∀ (a b a' b' : Value) (W : World), RdS W a ts → RdPs W b ps → RdS W a' us → RdPs W b' qs → Calls Try.prog 23 #[.agg #[a, b], .agg #[a', b']] W fun e w' => e = .returned (.bool r) ∧ Below W.heap.size W w') := Lib.hid (fun a b a' b' W h1 h2 h3 h4 => by rw [← HF.out]; exact specSameGraph_any a b a' b' ts us ps qs W h1 h2 h3 h4 HS.out HSQ.out)
  have HIP : Hid (∀ (a b a' b' : Value) (W : World), RdS W a ts → RdPs W b ps → RdS W a' us → RdPs W b' qs → Calls Try.prog 25 #[.agg #[a, b], .agg #[a', b']] W fun e w' => e = .returned (.bool r) ∧ Below W.heap.size W w') := Lib.hid (fun a b a' b' W h1 h2 h3 h4 => by rw [← HF.out]; exact implSameGraph_any a b a' b' ts us ps qs W h1 h2 h3 h4 HS.out HSQ.out)
  go_enter Try.func7, Try.ntmps7
  go_wp2_with fail
  refine (HZ.out _ B0).mono ?_
  rw [HX.out]
  rintro e w1 ⟨rfl, hb1⟩
  have B1 := B0.trans (hb1.mono B0.size)
  have a1 := keepB a0 hb1
  have b1 := keepB b0 hb1
  obtain ⟨x0, x1⟩ := cellsG b1
  clear hb1 a0 b0 B0 HZ
  go_wp2_with fail
  refine (HY.out _ B1 z z0 z1).mono ?_
  rw [HW.out]
  rintro e w2 ⟨rfl, hb2⟩
  have B2 := B1.trans (hb2.mono B1.size)
  have a2 := keepB a1 hb2
  have b2 := keepB b1 hb2
  clear hb2 a1 b1 B1 x0 x1 HY
  obtain ⟨x0, x1⟩ := cellsG a2
  obtain ⟨x2, x3⟩ := cellsG b2
  have BD := B2.trans (below_drew w.heap.size w2)
  go_wp2_with fail
  go_region_with (first
    | (go_at_call 24; (with_reducible refine (HT.out _ BD).mono ?_); rintro e wa ⟨Aa, ea, Da, fa, rfl, hGa, hba⟩; have BDa := BD.trans (hba.mono BD.size); obtain ⟨u2, u3⟩ := cellsG (keepB (W := w2.drew) b2 hba))
    | (go_at_call 24; (with_reducible refine (HU.out _ BD).mono ?_); rintro e wb ⟨Ab, eb, Db, fb, rfl, hGb, hbb⟩; have BDb := BD.trans (hbb.mono BD.size); obtain ⟨u0, u1⟩ := cellsG (keepB (W := w2.drew) a2 hbb))
    | (go_at_call 24; (with_reducible refine (HT.out _ BDb).mono ?_); rintro e wa ⟨Aa, ea, Da, fa, rfl, hGa, hba⟩; have BDa := BDb.trans (hba.mono BDb.size))
    | (go_at_call 24; (with_reducible refine (HU.out _ BDa).mono ?_); rintro e wb ⟨Ab, eb, Db, fb, rfl, hGb, hbb⟩; have BDb := BDa.trans (hbb.mono BDa.size))
    | (go_at_call 23; refine (HSP.out _ _ _ _ _ (by first | exact RdS.of_strs (hGa.below hbb).1 | exact RdS.of_strs hGa.1) (by first | exact RdPs.of_own (hGa.below hbb).2 | exact RdPs.of_own hGa.2) (by first | exact RdS.of_strs (hGb.below hba).1 | exact RdS.of_strs hGb.1) (by first | exact RdPs.of_own (hGb.below hba).2 | exact RdPs.of_own hGb.2)).mono ?_; rintro e w3 ⟨rfl, hb3⟩))
  all_goals
    have B3 : Below w.heap.size w w3 := by first | exact BDb.trans (hb3.mono BDb.size) | exact BDa.trans (hb3.mono BDa.size)
    have a3 := (show w3.heap[w.heap.size]? = _ from (by first | exact keepB (keepB (keepB (W := w2.drew) a2 hba) hbb) hb3 | exact keepB (keepB (keepB (W := w2.drew) a2 hbb) hba) hb3))
    have b3 := (show w3.heap[w.heap.size + 1]? = _ from (by first | exact keepB (keepB (keepB (W := w2.drew) b2 hba) hbb) hb3 | exact keepB (keepB (keepB (W := w2.drew) b2 hbb) hba) hb3))
    clear hGa hGb hba hbb hb3 BDa BDb BD a2 b2 B2 x0 x1 x2 x3
    obtain ⟨x0, x1⟩ := cellsG a3
    go_wp2_with fail
    refine (HT.out _ B3).mono ?_
    rintro e w4 ⟨A4, c4, D4, e4, rfl, hG4, hb4⟩
    have B4 := B3.trans (hb4.mono B3.size)
    have a4 := keepB a3 hb4
    have b4 := keepB b3 hb4
    clear hb4 a3 b3 B3 x0 x1
    have B5 : Below w.heap.size w (w4.alloc (.cells #[.slice A4 ts.length c4, .slice D4 ps.length e4] 41)) := B4.alloc B4.size _
    have a5 := keepA a4 (.cells #[.slice A4 ts.length c4, .slice D4 ps.length e4] 41)
    have b5 := keepA b4 (.cells #[.slice A4 ts.length c4, .slice D4 ps.length e4] 41)
    have p5 := heap_alloc_new w4 (.cells #[.slice A4 ts.length c4, .slice D4 ps.length e4] 41)
    have hG5 := hG4.below ((Below.refl _ w4).alloc (Nat.le_refl _) (.cells #[.slice A4 ts.length c4, .slice D4 ps.length e4] 41))
    clear hG4 a4 b4 B4
    obtain ⟨x2, x3⟩ := cellsG b5
    go_wp2_with fail
    refine (HU.out _ B5).mono ?_
    rintro e w6 ⟨A6, c6, D6, e6, rfl, hG6, hb6⟩
    have B6 := B5.trans (hb6.mono B5.size)
    have a6 := keepB a5 hb6
    have b6 := keepB b5 hb6
    have p6 := keepB p5 hb6
    have hG56 := hG5.below hb6
    clear hb6 a5 b5 p5 B5 x2 x3 hG5
    have B7 : Below w.heap.size w (w6.alloc (.cells #[.slice A6 us.length c6, .slice D6 qs.length e6] 41)) := B6.alloc B6.size _
    have a7 := keepA a6 (.cells #[.slice A6 us.length c6, .slice D6 qs.length e6] 41)
    have b7 := keepA b6 (.cells #[.slice A6 us.length c6, .slice D6 qs.length e6] 41)
    have p7 := keepA p6 (.cells #[.slice A6 us.length c6, .slice D6 qs.length e6] 41)
    have q7 := heap_alloc_new w6 (.cells #[.slice A6 us.length c6, .slice D6 qs.length e6] 41)
    have BA := (Below.refl _ w6).alloc (Nat.le_refl _) (.cells #[.slice A6 us.length c6, .slice D6 qs.length e6] 41)
    have hP7 := hG56.below BA
    have hQ7 := hG6.below BA
    clear hG56 hG6 a6 b6 p6 B6 BA
    obtain ⟨m0, m1⟩ := cellsG p7
    obtain ⟨m2, m3⟩ := cellsG q7
    go_wp2_with fail
    refine (HIP.out _ _ _ _ _ (RdS.of_strs hP7.1) (RdPs.of_own hP7.2) (RdS.of_strs hQ7.1) (RdPs.of_own hQ7.2)).mono ?_
    rintro e w8 ⟨rfl, hb8⟩
    have B8 := B7.trans (hb8.mono B7.size)
    have a8 := keepB a7 hb8
    have b8 := keepB b7 hb8
    have p8 := keepB p7 hb8
    have q8 := keepB q7 hb8
    have hP8 := hP7.below hb8
    have hQ8 := hQ7.below hb8
    have q0 : (r != r) = false := by cases r <;> rfl
    clear hb8 a7 b7 p7 q7 hP7 hQ7 B7 m0 m1 m2 m3
    have HQ := Lib.hid (fun (W : World) (h : Below w8.heap.size w8 W) (a' b' : Value) (r1 : RdS W a' ts) (r2 : RdPs W b' ps) => eqGraph_same _ _ a' b' ts ps W ((RdS.of_strs hP8.1).below h) ((RdPs.of_own hP8.2).below h) r1 r2 HS.out)
    obtain ⟨y0, y1⟩ := cellsG a8
    obtain ⟨y2, y3⟩ := cellsG p8
    have BE := B8.trans (below_drewN w.heap.size w8 1)
    go_wp2_with fail
    go_region_with (first | (go_at_call 24; refine (HT.out _ BE).mono ?_; rintro e w9 ⟨A9, c9, D9, e9, rfl, hG9, hb9⟩; obtain ⟨v0, v1⟩ := cellsG (keepB (W := w8.drewN 1) p8 hb9)) | (go_at_call 26; refine (HQ.out _ ((below_drewN _ _ 1).trans (hb9.mono (Nat.le_refl _))) _ _ (RdS.of_strs hG9.1) (RdPs.of_own hG9.2)).mono ?_; rintro e w10 ⟨rfl, hb10⟩))
    all_goals
      have B9 := BE.trans (hb9.mono BE.size)
      have B10 := B9.trans (hb10.mono B9.size)
      have b10 := keepB (keepB (W := w8.drewN 1) b8 hb9) hb10
      have q10 := keepB (keepB (W := w8.drewN 1) q8 hb9) hb10
      have hQ10 := (hQ8.below (below_drewN _ _ 1)).below (hb9.trans (hb10.mono hb9.size))
      have HQ2 := Lib.hid (fun (W : World) (h : Below w10.heap.size w10 W) (a' b' : Value) (r1 : RdS W a' us) (r2 : RdPs W b' qs) => eqGraph_same _ _ a' b' us qs W ((RdS.of_strs hQ10.1).below h) ((RdPs.of_own hQ10.2).below h) r1 r2 HSQ.out)
      clear hb9 hb10 hG9 B9 BE B8 a8 b8 p8 q8 hP8 hQ8 HQ y0 y1 y2 y3 hQ10
      obtain ⟨y0, y1⟩ := cellsG b10
      obtain ⟨y2, y3⟩ := cellsG q10
      have BF := B10.trans (below_drewN w.heap.size w10 1)
      go_wp2_with fail
      go_region_with (first | (go_at_call 24; refine (HU.out _ BF).mono ?_; rintro e w11 ⟨A11, c11, D11, e11, rfl, hG11, hb11⟩; obtain ⟨v0, v1⟩ := cellsG (keepB (W := w10.drewN 1) q10 hb11)) | (go_at_call 26; refine (HQ2.out _ ((below_drewN _ _ 1).trans (hb11.mono (Nat.le_refl _))) _ _ (RdS.of_strs hG11.1) (RdPs.of_own hG11.2)).mono ?_; rintro e w12 ⟨rfl, hb12⟩))
      all_goals
        have B11 := BF.trans (hb11.mono BF.size)
        go_wp2_with fail
        go_ret
        exact ⟨rfl, B11.trans (hb12.mono B11.size)⟩
end Go.Proofs.Ytldfkdkppgammaa
