/-
  impl.TreeOk; the walk of the law FnExactTreeOk.
-/
import Derived.Test.YthlbpklllphhcaaTokS
import Derived.Test.YthlbpklllphhcaaTokI
import Derived.Test.YthlbpklllphhcaaTrE
import Derived.Test.YthlbpklllphhcaaTrZ
import Derived.Deep.RegionWith
namespace Go.Proofs.Ythlbpklllphhcaa
open Go.RowKit

set_option maxRecDepth 100000 in
set_option maxHeartbeats 2000000 in
theorem implTreeOk_any {d : Nat} (t : Tr) (b kv : Value) (w : World) (hf : NdFits t) (hb : RdS w b t.keys) (hk : RdTs d w kv t.kids) (hs : wT d t ≤ 1048576) :
    Calls Try.prog 25 #[trV t b kv] w fun e w' => e = .returned (.bool (treeB d t)) ∧ Below w.heap.size w w' := by
  have HT : Hid (treeB d t = brB d t 0 599) := Lib.hid (treeB_br hk.dp)
  have HC := Lib.hid (fun (W : World) (p : Nat) (h1 : Below w.heap.size w W) (h2 : w.heap.size ≤ p) (h3 : W.heap[p]? = some (.cells #[.int .i64 599] 3)) => brD d t b kv 0 599 p w W hf hb hk hs h1 h2 h3 (by omega) (by omega) (by omega) (by omega))
  rw [HT.out]
  obtain ⟨A, ca, hbv⟩ : ∃ A c, b = .slice A t.keys.length c := by obtain ⟨A, c, h, _⟩ := hb; exact ⟨A, c, h⟩
  subst hbv
  obtain ⟨B, cb, rfl, _⟩ := hk.slice
  obtain ⟨r, HR⟩ : ∃ r, Hid (brB d t 0 599 = r) := ⟨_, Lib.hid rfl⟩
  rw [HR.out]
  simp only [HR.out] at HC
  unfold trV at HC ⊢
  unfold BrR at HC
  clear hb hk hf hs HT
  have B0 : Below w.heap.size w ((w.alloc (.cells #[.int .i64 t.kind, .int .i64 t.n, .string ⟨t.s.toArray⟩, .slice A t.keys.length ca, .slice B t.kids.length cb] 30)).alloc (.cells #[.int .i64 599] 3)) := ((Below.refl _ _).alloc (Nat.le_refl _) _).alloc (by simp) _
  have b1 := heap_new (W := w.alloc (.cells #[.int .i64 t.kind, .int .i64 t.n, .string ⟨t.s.toArray⟩, .slice A t.keys.length ca, .slice B t.kids.length cb] 30)) (n := w.heap.size + 1) (by simp) (.cells #[.int .i64 599] 3)
  have HC2 := Lib.hid (HC.out _ (w.heap.size + 1) B0 (by omega) b1)
  go_enter Try.func25, Try.ntmps25
  go_wp2_with fail
  refine HC2.out.mono ?_
  rintro e w1 ⟨l, rfl, _, _, hb1, _⟩
  go_wp2_with fail
  go_ret
  exact ⟨rfl, hb1⟩

set_option maxRecDepth 100000 in
set_option maxHeartbeats 4000000 in
theorem exTreeOk {d : Nat} (t : Tr) (b kv : Value) (w : World) (hf : NdFits t) (hb : RdS w b t.keys) (hk : RdTs d w kv t.kids) :
    Calls Try.prog 6 #[.agg #[.int .i64 t.kind, .int .i64 t.n, .string ⟨t.s.toArray⟩, b, kv]] w fun e w' => e = .returned (.bool true) ∧ Below w.heap.size w w' := by
  have HZ := Lib.hid (fun (W : World) (h : Below w.heap.size w W) => szTree_of (szTreeS_any d) t b kv 1048576 W hf (hb.below h) (hk.below h) (by omega) (by omega))
  have HT0 := Lib.hid (fun (hg : wT d t ≤ 1048576) (W : World) (h : Below w.heap.size w W) => toTree_of (toTreeS_any d) t b kv W hf (hb.below h) (hk.below h) hg)
  have HSP0 := Lib.hid (fun (hg : wT d t ≤ 1048576) (W : World) (b' kv' : Value) (base : Nat) (h1 : Strs W base b' t.keys) (h2 : TsOwn d W base kv' t.kids) => specTreeOk_any t b' kv' base W h1 h2 hg)
  have HIM0 := Lib.hid (fun (hg : wT d t ≤ 1048576) (W : World) (b' kv' : Value) (h1 : RdS W b' t.keys) (h2 : RdTs d W kv' t.kids) => implTreeOk_any t b' kv' W hf h1 h2 hg)
  have HEQ0 := Lib.hid (fun (hg : wT d t ≤ 1048576) (W : World) (b1 kv1 b2 kv2 : Value) (h1 : RdS W b1 t.keys) (h2 : RdTs d W kv1 t.kids) (h3 : RdS W b2 t.keys) (h4 : RdTs d W kv2 t.kids) => eqTree_of (eqTreeS_any d) t b1 kv1 b2 kv2 W h1 h2 h3 h4 hg)
  obtain ⟨z, HX⟩ : ∃ z, Hid (szT 1048576 (wT d t) = z) := ⟨_, Lib.hid rfl⟩
  obtain ⟨A, ca, hbv⟩ : ∃ A c, b = .slice A t.keys.length c := by obtain ⟨A, c, h, _⟩ := hb; exact ⟨A, c, h⟩
  subst hbv
  obtain ⟨B, cb, rfl, _⟩ := hk.slice
  clear hf hb hk
  have B0 : Below w.heap.size w (w.alloc (.cells #[.int .i64 t.kind, .int .i64 t.n, .string ⟨t.s.toArray⟩, .slice A t.keys.length ca, .slice B t.kids.length cb] 25)) := (Below.refl _ _).alloc (Nat.le_refl _) _
  have b0 := heap_alloc_new w (.cells #[.int .i64 t.kind, .int .i64 t.n, .string ⟨t.s.toArray⟩, .slice A t.keys.length ca, .slice B t.kids.length cb] 25)
  by_cases hz : z < 0
  · go_enter Try.func6, Try.ntmps6
    go_wp2_with fail
    refine (HZ.out _ B0).mono ?_
    rw [HX.out]
    rintro e w1 ⟨rfl, hb1⟩
    go_wp2_with fail
    go_ret
    exact ⟨rfl, B0.trans (hb1.mono B0.size)⟩
  have HG : Hid (wT d t ≤ 1048576) := Lib.hid (by
    have h := HX.out
    unfold szT at h
    split at h
    · omega
    · omega)
  have HT := Lib.hid (HT0.out HG.out)
  have HSP := Lib.hid (HSP0.out HG.out)
  have HIM := Lib.hid (HIM0.out HG.out)
  have HEQ := Lib.hid (HEQ0.out HG.out)
  obtain ⟨r, HR⟩ : ∃ r, Hid (treeB d t = r) := ⟨_, Lib.hid rfl⟩
  simp only [HR.out] at HSP HIM
  unfold trV at HSP HIM
  have q0 : (r != r) = false := by cases r <;> rfl
  clear HT0 HSP0 HIM0 HEQ0
  go_enter Try.func6, Try.ntmps6
  go_wp2_with fail
  refine (HZ.out _ B0).mono ?_
  rw [HX.out]
  rintro e w1 ⟨rfl, hb1⟩
  have B1 := B0.trans (hb1.mono B0.size)
  have b1 := keepB b0 hb1
  obtain ⟨x0, x1, x2, x3, x4⟩ := cells5 b1
  clear hb1 b0 HZ
  go_wp2_with fail
  refine (HT.out _ B1).mono ?_
  rintro e w2 ⟨g1, c1, g2, c2, rfl, hO, _, hb2'⟩
  have B2 := B1.trans (hb2'.mono B1.size)
  have b2 := keepB b1 hb2'
  clear hb2' b1 B1 x0 x1 x2 x3 x4
  go_wp2_with fail
  refine (HSP.out _ _ _ _ hO.2.1 hO.2.2).mono ?_
  rintro e w3 ⟨rfl, hb3⟩
  have B3 := B2.trans (hb3.mono B2.size)
  have b3 := keepB b2 hb3
  obtain ⟨x0, x1, x2, x3, x4⟩ := cells5 b3
  clear hO hb3 b2 B2
  go_wp2_with fail
  refine (HT.out _ B3).mono ?_
  rintro e w4 ⟨g3, c3, g4, c4, rfl, hP, _, hb4⟩
  have B4 := B3.trans (hb4.mono B3.size)
  have b4 := keepB b3 hb4
  clear hb4 b3 B3 x0 x1 x2 x3 x4
  have BX : Below w4.heap.size w4 (w4.alloc (.cells #[.int .i64 t.kind, .int .i64 t.n, .string ⟨t.s.toArray⟩, .slice (some ⟨g3, 0, none⟩) t.keys.length c3, .slice (some ⟨g4, 0, none⟩) t.kids.length c4] 30)) := (Below.refl _ _).alloc (Nat.le_refl _) _
  have B5 := B4.trans (BX.mono B4.size)
  have b5 := keepB b4 BX
  have p5 := heap_alloc_new w4 (.cells #[.int .i64 t.kind, .int .i64 t.n, .string ⟨t.s.toArray⟩, .slice (some ⟨g3, 0, none⟩) t.keys.length c3, .slice (some ⟨g4, 0, none⟩) t.kids.length c4] 30)
  have hP5 := hP.below BX
  clear hP BX B4 b4
  go_wp2_with fail
  refine (HIM.out _ _ _ (RdS.of_strs hP5.2.1) (RdTs.of_own hP5.2.2)).mono ?_
  rintro e w6 ⟨rfl, hb6⟩
  have B6 := B5.trans (hb6.mono B5.size)
  have b6 := keepB b5 hb6
  have p6 := keepB p5 hb6
  have hP6 := hP5.below hb6
  obtain ⟨x0, x1, x2, x3, x4⟩ := cells5 b6
  obtain ⟨y0, y1, y2, y3, y4⟩ := cells5 p6
  have HQ := Lib.hid (fun (W : World) (h : Below w6.heap.size w6 W) (b2 kv2 : Value) (h3 : RdS W b2 t.keys) (h4 : RdTs d W kv2 t.kids) => HEQ.out W _ _ b2 kv2 ((RdS.of_strs hP6.2.1).below h) ((RdTs.of_own hP6.2.2).below h) h3 h4)
  clear hb6 b5 p5 B5 hP5
  go_wp2_with fail
  go_region_with (first | (go_at_call 15; refine (HT.out _ (B6.trans (below_drewN _ _ 1))).mono ?_; rintro e w7 ⟨g5, c5, g6, c6, rfl, hQ7, _, hb7⟩; obtain ⟨z0, z1, z2, z3, z4⟩ := cells5 (keepB (W := w6.drewN 1) p6 hb7)) | (go_at_call 17; refine (HQ.out _ ((below_drewN _ _ 1).trans (hb7.mono (Nat.le_refl _))) _ _ (RdS.of_strs hQ7.2.1) (RdTs.of_own hQ7.2.2)).mono ?_; rintro e w8 ⟨rfl, hb8⟩))
  all_goals
    go_wp2_with fail
    go_ret
    exact ⟨rfl, (B6.trans (below_drewN _ _ 1)).trans ((hb7.trans (hb8.mono hb7.size)).mono B6.size)⟩
end Go.Proofs.Ythlbpklllphhcaa
