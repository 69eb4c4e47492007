/-
  The walk of the law FnExactFieldOf.
-/
import Derived.Test.YthlbpklllphhcaaFdCS
import Derived.Test.YthlbpklllphhcaaTbL
import Derived.Test.YthlbpklllphhcaaMkF
import Derived.Deep.RegionWith
namespace Go.Proofs.Ythlbpklllphhcaa
open Go.RowKit

set_option maxRecDepth 100000 in
set_option maxHeartbeats 8000000 in
theorem exFieldOf (t : Tb) (va : Value) (s : ByteArray) (w : World) (ht : RdFs w va t.fields) (ft : TbFits t) (hs : s.size ≤ maxLen) :
    Calls Try.prog 8 #[tbV t va, .string s] w fun e w' => e = .returned (.bool true) ∧ Below w.heap.size w w' := by
  obtain ⟨key, rfl⟩ : ∃ key : List UInt8, s = ⟨key.toArray⟩ := ⟨s.data.toList, bytes_ext (by simp)⟩
  rw [size_of] at hs
  unfold maxLen at hs
  have HZ := Lib.hid (fun (W : World) (h : Below w.heap.size w W) => szTable_any t va 1048576 W (ht.below h) (by omega) (by omega) ft)
  have HT0 := Lib.hid (fun (hg : SmTb t) (W : World) (h : Below w.heap.size w W) => toTable_any t va W (ht.below h) hg)
  obtain ⟨z, HX⟩ : ∃ z, Hid (szTb 1048576 t = z) := ⟨_, Lib.hid rfl⟩
  obtain ⟨B, cb, rfl⟩ := ht.slice
  unfold tbV at *
  clear ht ft
  have B0 : Below w.heap.size w (w.alloc (.cells #[.string ⟨t.name.toArray⟩, .slice B t.fields.length cb] 44)) := (Below.refl _ _).alloc (Nat.le_refl _) _
  have b0 := heap_alloc_new w (.cells #[.string ⟨t.name.toArray⟩, .slice B t.fields.length cb] 44)
  by_cases hbig : 1048576 < key.length
  · have hb2 : 1048576 < (⟨key.toArray⟩ : ByteArray).size := by rw [size_of]; exact hbig
    go_enter Try.func8, Try.ntmps8
    go_wp2_with fail
    go_ret
    exact ⟨rfl, B0⟩
  have hb2 : ¬ 1048576 < (⟨key.toArray⟩ : ByteArray).size := by rw [size_of]; exact hbig
  by_cases hz : z < 0
  · go_enter Try.func8, Try.ntmps8
    go_wp2_with fail
    refine (HZ.out _ B0).mono ?_
    rw [HX.out]
    rintro e w1 ⟨rfl, hb1⟩
    go_wp2_with fail
    go_ret
    exact ⟨rfl, B0.trans (hb1.mono B0.size)⟩
  have HS0 := (szTb_good (t := t) (left := 1048576) (by omega) (by omega) (by rw [HX.out]; exact hz)).1
  have HS := Lib.hid HS0
  have HT := Lib.hid (HT0.out HS.out)
  have HSR := Lib.hid (fieldOf_small key HS0.fields)
  have HSP := Lib.hid (fun (W : World) (a : Value) (h1 : RdFs W a t.fields) => specFieldOf_any t a key W h1 HS.out)
  have HIM := Lib.hid (fun (W : World) (a : Value) (h1 : RdFs W a t.fields) => implFieldOf_any t a key W h1 HS.out)
  have HMK := Lib.hid (fun (lo hi : Nat) (v : Value) (W : World) (hp : FdsS W lo hi v t.fields) (hw : hi ≤ W.heap.size) => markTable_w lo hi v t W hp hw HS.out)
  unfold FoIs at HSP HIM
  obtain ⟨rr, HRR⟩ : ∃ rr, Hid (fieldOf t.fields key = rr) := ⟨_, Lib.hid rfl⟩
  simp only [HRR.out] at HSP HIM HSR
  obtain ⟨r, ok⟩ := rr
  simp only at HSP HIM HSR
  have hrl : r.list.length ≤ 2000000 := by have := HSR.out.list; omega
  have q0 : (ok != ok) = false := by cases ok <;> rfl
  clear HT0 HS0
  go_enter Try.func8, Try.ntmps8
  go_wp2_with fail
  refine (HZ.out _ B0).mono ?_
  rw [HX.out]
  rintro e w1 ⟨rfl, hb1⟩
  have B1 := B0.trans (hb1.mono B0.size)
  have b1 := keepB b0 hb1
  obtain ⟨x0, x1⟩ := cellsG b1
  clear hb1 b0 HZ
  go_wp2_with fail
  refine (HT.out _ B1).mono ?_
  rintro e w2 ⟨u2, rfl, hG1, hb2'⟩
  obtain ⟨D1, e1, rfl, _, _⟩ := hG1.slice
  have B2 := B1.trans (hb2'.mono B1.size)
  have b2 := keepB b1 hb2'
  clear hb2' b1 B1 x0 x1
  go_wp2_with fail
  refine (HSP.out _ _ (RdFs.of_own hG1)).mono ?_
  rintro e w3 ⟨v0, rfl, S0, hb3⟩
  have B3 := B2.trans (hb3.mono B2.size)
  have b3 := keepA (keepB b2 hb3) (.cells #[.string ⟨r.key.toArray⟩, .string ⟨r.text.toArray⟩, v0, .bool r.isl] 47)
  have p3 := heap_alloc_new w3 (.cells #[.string ⟨r.key.toArray⟩, .string ⟨r.text.toArray⟩, v0, .bool r.isl] 47)
  have n0 := S0.block_lt
  have S03 := S0.alloc (.cells #[.string ⟨r.key.toArray⟩, .string ⟨r.text.toArray⟩, v0, .bool r.isl] 47)
  have B3' : Below w.heap.size w (w3.alloc (.cells #[.string ⟨r.key.toArray⟩, .string ⟨r.text.toArray⟩, v0, .bool r.isl] 47)) := B3.alloc B3.size _
  have hz3 : (w3.alloc (.cells #[.string ⟨r.key.toArray⟩, .string ⟨r.text.toArray⟩, v0, .bool r.isl] 47)).heap.size = w3.heap.size + 1 := by simp
  have B3s : w.heap.size < w3.heap.size := lt_of_heap (keepB b2 hb3)
  obtain ⟨A0, c0, rfl⟩ := S0.slice
  obtain ⟨x0, x1⟩ := cellsG b3
  clear hG1 hb3 b2 B2 S0 B3
  obtain ⟨lo, hlo⟩ : ∃ lo, lo = w3.heap.size + 1 := ⟨_, rfl⟩
  have HZ3 := Lib.hid hz3
  clear hz3
  go_wp2_with fail
  refine (HT.out _ B3').mono ?_
  rintro e w4 ⟨u4, rfl, hG2, hb4⟩
  have P4 := FdsS.of_own hG2
  rw [HZ3.out, ← hlo] at P4
  obtain ⟨D2, e2, rfl, _, _⟩ := hG2.slice
  have B4 := B3'.trans (hb4.mono B3'.size)
  have b4 := keepB b3 hb4
  have p4 := keepB p3 hb4
  have S04 := S03.below hb4
  have B4s : w.heap.size ≤ w4.heap.size := B4.size
  have h34 : lo ≤ w4.heap.size := by have := hb4.size; rw [HZ3.out] at this; omega
  clear hb4 b3 p3 B3' x0 x1 S03 HZ3
  have B45 : Below w4.heap.size w4 (w4.alloc (.cells #[.string ⟨t.name.toArray⟩, .slice (some ⟨D2, 0, none⟩) t.fields.length e2] 52)) := (Below.refl _ _).alloc (Nat.le_refl _) _
  have B5 : Below w.heap.size w (w4.alloc (.cells #[.string ⟨t.name.toArray⟩, .slice (some ⟨D2, 0, none⟩) t.fields.length e2] 52)) := B4.alloc B4.size _
  have b5 := keepA b4 (.cells #[.string ⟨t.name.toArray⟩, .slice (some ⟨D2, 0, none⟩) t.fields.length e2] 52)
  have p5 := keepA p4 (.cells #[.string ⟨t.name.toArray⟩, .slice (some ⟨D2, 0, none⟩) t.fields.length e2] 52)
  have q5 := heap_alloc_new w4 (.cells #[.string ⟨t.name.toArray⟩, .slice (some ⟨D2, 0, none⟩) t.fields.length e2] 52)
  have hG5 := hG2.below B45
  have S05 := S04.below B45
  have P5 := P4.below B45 (Nat.le_refl _)
  have h5 : w4.heap.size ≤ (w4.alloc (.cells #[.string ⟨t.name.toArray⟩, .slice (some ⟨D2, 0, none⟩) t.fields.length e2] 52)).heap.size := by simp
  have h56 : w4.heap.size < (w4.alloc (.cells #[.string ⟨t.name.toArray⟩, .slice (some ⟨D2, 0, none⟩) t.fields.length e2] 52)).heap.size := by simp
  clear hG2 B45 B4 b4 p4 S04 P4
  go_wp2_with fail
  refine (HIM.out _ _ (RdFs.of_own hG5)).mono ?_
  rintro e w6 ⟨vg, rfl, Sg, hb6⟩
  have B6 := B5.trans (hb6.mono B5.size)
  have b6 := keepB b5 hb6
  have p6 := keepB p5 hb6
  have q6 := keepB q5 hb6
  have hG6 := hG5.below hb6
  have S06 := S05.below hb6
  have P6 := P5.below hb6 h5
  have h6 : w4.heap.size ≤ w6.heap.size := Nat.le_trans h5 hb6.size
  have g6 : ∀ g, vg.ownBlock = some g → w4.heap.size < g := fun g hg => Nat.lt_of_lt_of_le h56 (Sg.owned g hg)
  have n6 := Sg.block_lt
  obtain ⟨Ag, cg, rfl⟩ := Sg.slice
  clear hb6 hG5 b5 p5 q5 B5 S05 P5 h5 h56
  have BX : Below w6.heap.size w6 (w6.alloc (.cells #[.string ⟨r.key.toArray⟩, .string ⟨r.text.toArray⟩, .slice Ag r.list.length cg, .bool r.isl] 47)) := (Below.refl _ _).alloc (Nat.le_refl _) _
  have B7 := B6.trans (BX.mono B6.size)
  have b7 := keepB b6 BX
  have p7 := keepB p6 BX
  have q7 := keepB q6 BX
  have s7 := heap_alloc_new w6 (.cells #[.string ⟨r.key.toArray⟩, .string ⟨r.text.toArray⟩, .slice Ag r.list.length cg, .bool r.isl] 47)
  have hG7 := hG6.below BX
  have S07 := S06.below BX
  have Sg7 := Sg.below BX
  have P7 := P6.below BX h6
  have h7 : w4.heap.size ≤ (w6.alloc (.cells #[.string ⟨r.key.toArray⟩, .string ⟨r.text.toArray⟩, .slice Ag r.list.length cg, .bool r.isl] 47)).heap.size := Nat.le_trans h6 BX.size
  obtain ⟨y0, y1, y2, y3⟩ := cells4 p7
  have lp := lt_of_heap p6
  have h46 := h6
  clear B6 b6 p6 q6 hG6 S06 Sg P6 h6 BX
  go_wp2_with fail
  refine (eqField_same r _ _ _ (RdS.of_strs Sg7) (RdS.of_strs S07) HSR.out).mono ?_
  rintro e w8 ⟨rfl, hb8⟩
  have B8 := B7.trans (hb8.mono B7.size)
  have b8 := keepB b7 hb8
  have p8 := keepB p7 hb8
  have q8 := keepB q7 hb8
  have s8 := keepB s7 hb8
  have hG8 := hG7.below hb8
  have S08 := S07.below hb8
  have Sg8 := Sg7.below hb8
  have P8 := P7.below hb8 h7
  have h8 : w4.heap.size ≤ w8.heap.size := Nat.le_trans h7 hb8.size
  obtain ⟨k0, k1⟩ := cellsG b8
  obtain ⟨k2, k3⟩ := cellsG q8
  have HQ := Lib.hid (fun (W : World) (h : Below w8.heap.size w8 W) (b' : Value) (r2 : RdFs W b' t.fields) => eqTable_same t _ b' W ((RdFs.of_own hG8).below h) r2 HS.out)
  clear hb8 B7 b7 p7 q7 s7 hG7 S07 Sg7 P7 h7 y0 y1 y2 y3
  go_wp2_with fail
  go_region_with (first | (go_at_call 30; refine (HT.out _ (B8.trans (below_drewN _ _ 1))).mono ?_; rintro e w9 ⟨u9, rfl, hG9, hb9⟩; obtain ⟨D9, e9, rfl, _, _⟩ := hG9.slice; obtain ⟨z0, z1⟩ := cellsG (keepB (W := w8.drewN 1) q8 hb9)) | (go_at_call 33; refine (HQ.out _ ((below_drewN _ _ 1).trans (hb9.mono (Nat.le_refl _))) _ (RdFs.of_own hG9)).mono ?_; rintro e w10 ⟨rfl, hb10⟩))
  all_goals
    have T10 : Below w8.heap.size w8 w10 := (below_drewN _ _ 1).trans ((hb9.trans (hb10.mono hb9.size)).mono (Nat.le_refl _))
    have B10 := B8.trans (T10.mono B8.size)
    obtain ⟨j0, j1⟩ := cellsG (keepB q8 T10)
    have b10 := keepB b8 T10
    have p10 := keepB p8 T10
    have s10 := keepB s8 T10
    have S010 := S08.below T10
    have Sg10 := Sg8.below T10
    have P10 := P8.below T10 h8
    have h10 : w4.heap.size ≤ w10.heap.size := Nat.le_trans h8 T10.size
    clear b8 p8 q8 s8 S08 Sg8 P8 T10 hb9 hb10 B8 hG9 hG8 HQ k0 k1 k2 k3
    go_wp2_with fail
    refine (HMK.out lo w4.heap.size _ _ P10 h10).mono ?_
    rintro e w11 ⟨zm, rfl, hm11⟩
    have B11 := belowMk B10 hm11 (by omega) B10.size
    have b11 := (hm11.out _ (lt_of_heap b10) (.inl (by omega))).trans b10
    have p11 := (hm11.out _ (lt_of_heap p10) (.inl (by omega))).trans p10
    have s11 := (hm11.out _ (lt_of_heap s10) (.inr (by omega))).trans s10
    have S011 := S010.mk hm11 (fun g hg => .inl (by have := n0 g hg; omega))
    have Sg11 := Sg10.mk hm11 (fun g hg => .inr (by have := g6 g hg; omega))
    clear P10 h10 hm11 B10 b10 p10 s10 S010 Sg10 j0 j1
    have q1 : ¬ ((zm : Int) < 0) := by omega
    obtain ⟨y0, y1, y2, y3⟩ := cells4 p11
    obtain ⟨m0, m1, m2, m3⟩ := cells4 s11
    go_wp2_with fail
    refine (eqField_same r _ _ _ (RdS.of_strs Sg11) (RdS.of_strs S011) HSR.out).mono ?_
    rintro e w12 ⟨rfl, hb12⟩
    have B12 := B11.trans (hb12.mono B11.size)
    have b12 := keepB b11 hb12
    have p12 := keepB p11 hb12
    have s12 := keepB s11 hb12
    have S012 := S011.below hb12
    have Sg12 := Sg11.below hb12
    clear hb12 B11 b11 p11 s11 S011 Sg11 y0 y1 y2 y3 m0 m1 m2 m3
    obtain ⟨m0, m1, m2, m3⟩ := cells4 s12
    go_wp2_with fail
    refine (markField_gr r _ _ _ Sg12 hrl).mono ?_
    rintro e w13 ⟨rfl, Sg13, hg13⟩
    have B13 := gr_belowN B12 hg13 B12.size (fun g hg => by have := g6 g hg; omega)
    have b13 := gr_heap hg13 b12 (fun e => by have := g6 _ e.symm; omega)
    have p13 := gr_heap hg13 p12 (fun e => by have := g6 _ e.symm; omega)
    have s13 := gr_heap hg13 s12 (fun e => by have := n6 _ e.symm; omega)
    have S013 := S012.grown hg13 (fun g hg e => by have := n0 g hg; have := g6 g e.symm; omega)
    clear hg13 B12 b12 p12 s12 S012 Sg12 m0 m1 m2 m3
    obtain ⟨m0, m1, m2, m3⟩ := cells4 s13
    go_wp2_with fail
    refine (heldField_any r _ _ _ Sg13 hrl).mono ?_
    rintro e w14 ⟨rfl, hb14⟩
    have B14 := B13.trans (hb14.mono B13.size)
    have b14 := keepB b13 hb14
    have p14 := keepB p13 hb14
    have s14 := keepB s13 hb14
    have S014 := S013.below hb14
    have Sg14 := Sg13.below hb14
    clear hb14 B13 b13 p13 s13 S013 Sg13 m0 m1 m2 m3
    obtain ⟨k0, k1⟩ := cellsG b14
    have q2 : ¬ (((r.list.length + 1 : Nat) : Int) < 0) := by omega
    have q3 : (((r.list.length + 1 : Nat) : Int) != ((r.list.length + 1 : Nat) : Int)) = false := int_bne_false rfl
    go_wp2_with fail
    refine (HT.out _ B14).mono ?_
    rintro e w15 ⟨u15, rfl, hG15, hb15⟩
    obtain ⟨D15, e15, rfl, _, _⟩ := hG15.slice
    have B15 := B14.trans (hb15.mono B14.size)
    have p15 := keepB p14 hb15
    have s15 := keepB s14 hb15
    have S015 := S014.below hb15
    have Sg15 := Sg14.below hb15
    clear hb15 B14 b14 p14 s14 S014 Sg14 k0 k1
    go_wp2_with fail
    refine (HIM.out _ _ (RdFs.of_own hG15)).mono ?_
    rintro e w16 ⟨vh, rfl, Sh, hb16⟩
    obtain ⟨Ah, ch, rfl⟩ := Sh.slice
    have BY : Below w16.heap.size w16 (w16.alloc (.cells #[.string ⟨r.key.toArray⟩, .string ⟨r.text.toArray⟩, .slice Ah r.list.length ch, .bool r.isl] 47)) := (Below.refl _ _).alloc (Nat.le_refl _) _
    have hb17 := hb16.trans (BY.mono hb16.size)
    have B17 := B15.trans (hb17.mono B15.size)
    have p17 := keepB p15 hb17
    have s17 := keepB s15 hb17
    have S017 := S015.below hb17
    have Sg17 := Sg15.below hb17
    have Sh17 := Sh.below BY
    clear hb16 hb17 BY B15 p15 s15 S015 Sg15 Sh hG15
    obtain ⟨y0, y1, y2, y3⟩ := cells4 p17
    go_wp2_with fail
    refine (eqField_same r _ _ _ (RdS.of_strs Sh17) (RdS.of_strs S017) HSR.out).mono ?_
    rintro e w18 ⟨rfl, hb18⟩
    have B18 := B17.trans (hb18.mono B17.size)
    have s18 := keepB s17 hb18
    have Sg18 := Sg17.below hb18
    clear hb18 B17 p17 s17 S017 Sg17 Sh17 y0 y1 y2 y3
    obtain ⟨m0, m1, m2, m3⟩ := cells4 s18
    go_wp2_with fail
    refine (heldField_any r _ _ _ Sg18 hrl).mono ?_
    rintro e w19 ⟨rfl, hb19⟩
    have B19 := B18.trans (hb19.mono B18.size)
    go_wp2_with fail
    go_ret
    exact ⟨rfl, B19⟩
end Go.Proofs.Ythlbpklllphhcaa
