/-
  The walk of the law FnExactFind.
-/
import Derived.Test.YtfbealgnbklooaaFindS
namespace Go.Proofs.Ytfbealgnbklooaa
open Go.RowKit

set_option maxRecDepth 100000 in
set_option maxHeartbeats 4000000 in
theorem exFind (vt vp : Value) (ts : List (List UInt8)) (ps : List Pk) (s : ByteArray) (w : World) (ht : RdS w vt ts) (hp : RdPs w vp ps) (nt : ts.length ≤ maxLen) (mt : ∀ l ∈ ts, l.length ≤ maxLen) (np : ps.length ≤ maxLen) (mp : ∀ p ∈ ps, PkFits p) (hs : s.size ≤ maxLen) :
    Calls Try.prog 5 #[.agg #[vt, vp], .string s] w fun e w' => e = .returned (.bool true) ∧ Below w.heap.size w w' := by
  obtain ⟨key, rfl⟩ : ∃ key : List UInt8, s = ⟨key.toArray⟩ := ⟨s.data.toList, bytes_ext (by simp)⟩
  rw [size_of] at hs
  unfold maxLen at hs
  have HZ := Lib.hid (fun (W : World) (h : Below w.heap.size w W) => szGraph_any vt vp ts ps 1048576 W (ht.below h) (hp.below h) (by omega) (by omega) nt mt np mp)
  have HT0 := Lib.hid (fun (hg : SmG ts ps) (W : World) (h : Below w.heap.size w W) => toGraph_any vt vp ts ps W (ht.below h) (hp.below h) hg)
  obtain ⟨z, HX⟩ : ∃ z, Hid (szG 1048576 ts ps = z) := ⟨_, Lib.hid rfl⟩
  obtain ⟨A, ca, rfl⟩ := ht.slice
  obtain ⟨B, cb, rfl, _⟩ := hp
  clear ht nt mt np mp
  have B0 : Below w.heap.size w (w.alloc (.cells #[.slice A ts.length ca, .slice B ps.length cb] 39)) := (Below.refl _ _).alloc (Nat.le_refl _) _
  have b0 := heap_alloc_new w (.cells #[.slice A ts.length ca, .slice B ps.length cb] 39)
  by_cases hbig : 1048576 < key.length
  · have hb2 : 1048576 < (⟨key.toArray⟩ : ByteArray).size := by rw [size_of]; exact hbig
    go_enter Try.func5, Try.ntmps5
    go_wp2_with fail
    go_ret
    exact ⟨rfl, B0⟩
  have hb2 : ¬ 1048576 < (⟨key.toArray⟩ : ByteArray).size := by rw [size_of]; exact hbig
  by_cases hz : z < 0
  · go_enter Try.func5, Try.ntmps5
    go_wp2_with fail
    refine (HZ.out _ B0).mono ?_
    rw [HX.out]
    rintro e w1 ⟨rfl, hb1⟩
    go_wp2_with fail
    go_ret
    exact ⟨rfl, B0.trans (hb1.mono B0.size)⟩
  · have HS := Lib.hid (szG_good (ts := ts) (ps := ps) (left := 1048576) (by omega) (by omega) (by rw [HX.out]; exact hz)).1
    have HT := Lib.hid (HT0.out HS.out)
    clear HT0
    go_enter Try.func5, Try.ntmps5
    go_wp2_with fail
    refine (HZ.out _ B0).mono ?_
    rw [HX.out]
    rintro e w1 ⟨rfl, hb1⟩
    have B1 := B0.trans (hb1.mono B0.size)
    have b1 := keepB b0 hb1
    obtain ⟨x0, x1⟩ := cellsG b1
    clear hb1 b0 HZ
    go_wp2_with fail
    refine (HT.out _ B1).mono ?_
    rintro e w2 ⟨A1, c1, D1, e1, rfl, hG1, hb2'⟩
    have B2 := B1.trans (hb2'.mono B1.size)
    have b2 := keepB b1 hb2'
    clear hb2' b1 B1 x0 x1
    go_wp2_with fail
    refine (specFind_any A1 ts.length c1 _ ps key _ (RdPs.of_own hG1.2) HS.out.2).mono ?_
    obtain ⟨r, HF⟩ : ∃ r, Hid (findP ps key = r) := ⟨_, Lib.hid rfl⟩
    rw [HF.out]
    rintro e w3 ⟨rfl, hb3⟩
    have B3 := B2.trans (hb3.mono B2.size)
    have b3 := keepB b2 hb3
    obtain ⟨x0, x1⟩ := cellsG b3
    clear hG1 hb3 b2 B2
    go_wp2_with fail
    refine (HT.out _ B3).mono ?_
    rintro e w4 ⟨A2, c2, D2, e2, rfl, hG2, hb4⟩
    have B4 := B3.trans (hb4.mono B3.size)
    have b4 := keepB b3 hb4
    clear hb4 b3 B3 x0 x1
    have B45 : Below w4.heap.size w4 (w4.alloc (.cells #[.slice A2 ts.length c2, .slice D2 ps.length e2] 44)) := (Below.refl _ _).alloc (Nat.le_refl _) _
    have B5 : Below w.heap.size w (w4.alloc (.cells #[.slice A2 ts.length c2, .slice D2 ps.length e2] 44)) := B4.alloc B4.size _
    have b5 := keepA b4 (.cells #[.slice A2 ts.length c2, .slice D2 ps.length e2] 44)
    have b6 := heap_alloc_new w4 (.cells #[.slice A2 ts.length c2, .slice D2 ps.length e2] 44)
    have hG5 := hG2.below B45
    clear hG2 B45 B4 b4
    go_wp2_with fail
    refine (implFind_any A2 ts.length c2 _ ps key _ (RdPs.of_own hG5.2) HS.out.2).mono ?_
    rw [HF.out]
    rintro e w6 ⟨rfl, hb6⟩
    have B6 := B5.trans (hb6.mono B5.size)
    have x6 := keepB b6 hb6
    obtain ⟨c60, c61⟩ := cellsG x6
    obtain ⟨c70, c71⟩ := cellsG (keepB b5 hb6)
    have l6 := lt_of_heap x6
    have hG6 := hG5.below hb6
    have HQ := Lib.hid (fun (W : World) (h : Below w6.heap.size w6 W) (a' b' : Value) (r1 : RdS W a' ts) (r2 : RdPs W b' ps) => eqGraph_same _ _ a' b' ts ps W ((RdS.of_strs hG6.1).below h) ((RdPs.of_own hG6.2).below h) r1 r2 HS.out)
    have q0 : (r != r) = false := int_bne_false rfl
    clear hb6 b5 b6 B5 hG5 hG6
    go_wp2_with fail
    go_region_with (first | (go_at_call 17; refine (HT.out _ (by first | exact B6.trans (below_drewN _ _ 1))).mono ?_; rintro e w7 ⟨A3, c3, D3, e3, rfl, hG7, hb7⟩; obtain ⟨z0, z1⟩ := cellsG (keepB (W := w6.drewN 1) x6 hb7)) | (go_at_call 19; refine (HQ.out _ ((below_drewN _ _ 1).trans (hb7.mono (Nat.le_refl _))) _ _ (RdS.of_strs hG7.1) (RdPs.of_own hG7.2)).mono ?_; rintro e w8 ⟨rfl, hb8⟩))
    all_goals
      go_wp2_with fail
      go_ret
      exact ⟨rfl, (B6.trans (below_drewN _ _ 1)).trans ((hb7.trans (hb8.mono hb7.size)).mono B6.size)⟩
end Go.Proofs.Ytfbealgnbklooaa
