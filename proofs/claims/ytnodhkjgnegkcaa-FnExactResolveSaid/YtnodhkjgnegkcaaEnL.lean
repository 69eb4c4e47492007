/-
  The laws' own helpers on entries: sz, to, eq of one and of a list.
-/
import Derived.Test.YtnodhkjgnegkcaaEnM
import Derived.Test.YtnodhkjgnegkcaaNdEq
import Derived.Deep.RegionWith
namespace Go.Proofs.Ytnodhkjgnegkcaa
open Go.RowKit

set_option maxRecDepth 100000 in
set_option maxHeartbeats 4000000 in
theorem szEntry_any (e : En) (a0 a1 : Value) (left : Int) (w : World) (ha0 : RdB w a0 e.heads) (ha1 : RdB w a1 e.needs) (h0 : 0 ≤ left) (h1 : left ≤ 1048576) (hf : EnFits e) :
    Calls Try.prog 32 #[enV e a0 a1, .int .i64 left] w fun x w' => x = .returned (.int .i64 (szEn left e)) ∧ Below w.heap.size w w' := by
  obtain ⟨f0, f1, f2, f3, f4⟩ := hf
  have HB0 := Lib.hid (fun (W : World) (h : Below w.heap.size w W) (z : Int) (z0 : 0 ≤ z) (z1 : z ≤ 1048576) => Ndk.szNeedS_any a0 e.heads z W (ha0.below h) z0 z1 f0.1 f0.2)
  have HB1 := Lib.hid (fun (W : World) (h : Below w.heap.size w W) (z : Int) (z0 : 0 ≤ z) (z1 : z ≤ 1048576) => Ndk.szNeedS_any a1 e.needs z W (ha1.below h) z0 z1 f4.1 f4.2)
  obtain ⟨A, ca, rfl⟩ := rdB_slice ha0
  obtain ⟨B, cb, rfl⟩ := rdB_slice ha1
  unfold enV
  obtain ⟨x_ver, hx_ver⟩ : ∃ x : ByteArray, x = ⟨e.ver.toArray⟩ := ⟨_, rfl⟩
  have s_ver : x_ver.size = e.ver.length := by rw [hx_ver]; exact size_of _
  rw [← hx_ver]
  obtain ⟨x_res, hx_res⟩ : ∃ x : ByteArray, x = ⟨e.res.toArray⟩ := ⟨_, rfl⟩
  have s_res : x_res.size = e.res.length := by rw [hx_res]; exact size_of _
  rw [← hx_res]
  obtain ⟨x_int, hx_int⟩ : ∃ x : ByteArray, x = ⟨e.int.toArray⟩ := ⟨_, rfl⟩
  have s_int : x_int.size = e.int.length := by rw [hx_int]; exact size_of _
  rw [← hx_int]
  have HW : Hid (wEn e = (e.heads.length + smB e.heads) + x_ver.size + x_res.size + x_int.size + (e.needs.length + smB e.needs)) := Lib.hid (by unfold wEn; rw [s_ver, s_res, s_int])
  have m_ver : x_ver.size ≤ 9223372036854775807 := by unfold maxLen at f1; omega
  have m_res : x_res.size ≤ 9223372036854775807 := by unfold maxLen at f2; omega
  have m_int : x_int.size ≤ 9223372036854775807 := by unfold maxLen at f3; omega
  have B0 : Below w.heap.size w (w.alloc (.cells #[.slice A e.heads.length ca, .string x_ver, .string x_res, .string x_int, .slice B e.needs.length cb] 64)) := (Below.refl _ _).alloc (Nat.le_refl _) _
  have b0 := heap_alloc_new w (.cells #[.slice A e.heads.length ca, .string x_ver, .string x_res, .string x_int, .slice B e.needs.length cb] 64)
  clear ha0 ha1 f0 f1 f2 f3 f4 s_ver hx_ver s_res hx_res s_int hx_int
  by_cases q0 : ¬ (e.heads.length : Int) + (smB e.heads : Int) ≤ left
  · have HU0 : Hid (szB left e.heads = -1) := Lib.hid (szB_no q0)
    have HX : Hid (szEn left e = -1) := Lib.hid (szEn_no (by have := HW.out; omega))
    go_enter Try.func32, Try.ntmps32
    go_wp2_with fail
    refine (HB0.out _ B0 _ (by omega) (by omega)).mono ?_
    rw [HU0.out]
    rintro x w1 ⟨rfl, hb1⟩
    have B1 := B0.trans (hb1.mono B0.size)
    have b1 := keepB b0 hb1
    go_wp2_with fail
    go_ret
    exact ⟨ret_int HX.out.symm, B1⟩
  have q0' : (e.heads.length : Int) + (smB e.heads : Int) ≤ left := by omega
  obtain ⟨y0, hy0⟩ : ∃ y, y = left - (e.heads.length : Int) - (smB e.heads : Int) := ⟨_, rfl⟩
  have HU0 : Hid (szB left e.heads = y0) := Lib.hid (by rw [hy0]; exact szB_yes q0')
  have HY0 := Lib.hid hy0
  have hy0a : 0 ≤ y0 := by omega
  have hy0b : y0 ≤ 1048576 := by omega
  have hy0c : (y0 : Int) + (e.heads.length : Int) + (smB e.heads : Int) = left := by omega
  clear hy0 q0 q0'
  by_cases q1 : y0 - (x_ver.size : Int) < 0
  · skip
    have HX : Hid (szEn left e = -1) := Lib.hid (szEn_no (by have := HW.out; omega))
    go_enter Try.func32, Try.ntmps32
    go_wp2_with fail
    refine (HB0.out _ B0 _ (by omega) (by omega)).mono ?_
    rw [HU0.out]
    rintro x w1 ⟨rfl, hb1⟩
    have B1 := B0.trans (hb1.mono B0.size)
    have b1 := keepB b0 hb1
    obtain ⟨z0_0, z0_1, z0_2, z0_3, z0_4⟩ := cells5 b1
    go_wp2_with fail
    go_ret
    exact ⟨ret_int HX.out.symm, B1⟩
  have hy1a : 0 ≤ y0 - (x_ver.size : Int) := by omega
  have hy1b : y0 - (x_ver.size : Int) ≤ 1048576 := by omega
  by_cases q2 : (y0 - (x_ver.size : Int)) - (x_res.size : Int) < 0
  · skip
    have HX : Hid (szEn left e = -1) := Lib.hid (szEn_no (by have := HW.out; omega))
    go_enter Try.func32, Try.ntmps32
    go_wp2_with fail
    refine (HB0.out _ B0 _ (by omega) (by omega)).mono ?_
    rw [HU0.out]
    rintro x w1 ⟨rfl, hb1⟩
    have B1 := B0.trans (hb1.mono B0.size)
    have b1 := keepB b0 hb1
    obtain ⟨z0_0, z0_1, z0_2, z0_3, z0_4⟩ := cells5 b1
    go_wp2_with fail
    go_ret
    exact ⟨ret_int HX.out.symm, B1⟩
  have hy2a : 0 ≤ (y0 - (x_ver.size : Int)) - (x_res.size : Int) := by omega
  have hy2b : (y0 - (x_ver.size : Int)) - (x_res.size : Int) ≤ 1048576 := by omega
  by_cases q3 : ((y0 - (x_ver.size : Int)) - (x_res.size : Int)) - (x_int.size : Int) < 0
  · skip
    have HX : Hid (szEn left e = -1) := Lib.hid (szEn_no (by have := HW.out; omega))
    go_enter Try.func32, Try.ntmps32
    go_wp2_with fail
    refine (HB0.out _ B0 _ (by omega) (by omega)).mono ?_
    rw [HU0.out]
    rintro x w1 ⟨rfl, hb1⟩
    have B1 := B0.trans (hb1.mono B0.size)
    have b1 := keepB b0 hb1
    obtain ⟨z0_0, z0_1, z0_2, z0_3, z0_4⟩ := cells5 b1
    go_wp2_with fail
    go_ret
    exact ⟨ret_int HX.out.symm, B1⟩
  have hy3a : 0 ≤ ((y0 - (x_ver.size : Int)) - (x_res.size : Int)) - (x_int.size : Int) := by omega
  have hy3b : ((y0 - (x_ver.size : Int)) - (x_res.size : Int)) - (x_int.size : Int) ≤ 1048576 := by omega
  by_cases q4 : ¬ (e.needs.length : Int) + (smB e.needs : Int) ≤ (((y0 - (x_ver.size : Int)) - (x_res.size : Int)) - (x_int.size : Int))
  · have HU4 : Hid (szB (((y0 - (x_ver.size : Int)) - (x_res.size : Int)) - (x_int.size : Int)) e.needs = -1) := Lib.hid (szB_no q4)
    have HX : Hid (szEn left e = -1) := Lib.hid (szEn_no (by have := HW.out; omega))
    go_enter Try.func32, Try.ntmps32
    go_wp2_with fail
    refine (HB0.out _ B0 _ (by omega) (by omega)).mono ?_
    rw [HU0.out]
    rintro x w1 ⟨rfl, hb1⟩
    have B1 := B0.trans (hb1.mono B0.size)
    have b1 := keepB b0 hb1
    obtain ⟨z0_0, z0_1, z0_2, z0_3, z0_4⟩ := cells5 b1
    go_wp2_with fail
    refine (HB1.out _ B1 _ (by omega) (by omega)).mono ?_
    rw [HU4.out]
    rintro x w5 ⟨rfl, hb5⟩
    have B5 := B1.trans (hb5.mono B1.size)
    have b5 := keepB b1 hb5
    go_wp2_with fail
    go_ret
    exact ⟨ret_int HX.out.symm, B5⟩
  have q4' : (e.needs.length : Int) + (smB e.needs : Int) ≤ (((y0 - (x_ver.size : Int)) - (x_res.size : Int)) - (x_int.size : Int)) := by omega
  obtain ⟨y4, hy4⟩ : ∃ y, y = (((y0 - (x_ver.size : Int)) - (x_res.size : Int)) - (x_int.size : Int)) - (e.needs.length : Int) - (smB e.needs : Int) := ⟨_, rfl⟩
  have HU4 : Hid (szB (((y0 - (x_ver.size : Int)) - (x_res.size : Int)) - (x_int.size : Int)) e.needs = y4) := Lib.hid (by rw [hy4]; exact szB_yes q4')
  have HY4 := Lib.hid hy4
  have hy4a : 0 ≤ y4 := by omega
  have hy4b : y4 ≤ 1048576 := by omega
  have hy4c : (y4 : Int) + (e.needs.length : Int) + (smB e.needs : Int) = (((y0 - (x_ver.size : Int)) - (x_res.size : Int)) - (x_int.size : Int)) := by omega
  clear hy4 q4 q4'
  have HX : Hid (szEn left e = y4) := Lib.hid (by rw [szEn_yes (by have := HW.out; omega)]; have := HW.out; omega)
  go_enter Try.func32, Try.ntmps32
  go_wp2_with fail
  refine (HB0.out _ B0 _ (by omega) (by omega)).mono ?_
  rw [HU0.out]
  rintro x w1 ⟨rfl, hb1⟩
  have B1 := B0.trans (hb1.mono B0.size)
  have b1 := keepB b0 hb1
  obtain ⟨z0_0, z0_1, z0_2, z0_3, z0_4⟩ := cells5 b1
  go_wp2_with fail
  refine (HB1.out _ B1 _ (by omega) (by omega)).mono ?_
  rw [HU4.out]
  rintro x w5 ⟨rfl, hb5⟩
  have B5 := B1.trans (hb5.mono B1.size)
  have b5 := keepB b1 hb5
  go_wp2_with fail
  go_ret
  exact ⟨ret_int HX.out.symm, B5⟩

set_option maxRecDepth 100000 in
set_option maxHeartbeats 4000000 in
theorem toEntry_any (e : En) (a0 a1 : Value) (w : World) (ha0 : RdB w a0 e.heads) (ha1 : RdB w a1 e.needs) (hs : SmEn e) :
    Calls Try.prog 33 #[enV e a0 a1] w fun x w' => ∃ u0 u1, x = .returned (enV e u0 u1) ∧ Ndk.Nds w' w.heap.size u0 e.heads ∧ Ndk.Nds w' w.heap.size u1 e.needs ∧ Below w.heap.size w w' := by
  have HA0 := Lib.hid (fun (W : World) (h : Below w.heap.size w W) => Ndk.toNeedS_any a0 e.heads W (ha0.below h) (by have := hs.heads; omega))
  have HA1 := Lib.hid (fun (W : World) (h : Below w.heap.size w W) => Ndk.toNeedS_any a1 e.needs W (ha1.below h) (by have := hs.needs; omega))
  obtain ⟨A, ca, rfl⟩ := rdB_slice ha0
  obtain ⟨B, cb, rfl⟩ := rdB_slice ha1
  unfold enV
  clear ha0 ha1 hs
  have B0 : Below w.heap.size w (((w.alloc (.cells #[.slice A e.heads.length ca, .string ⟨e.ver.toArray⟩, .string ⟨e.res.toArray⟩, .string ⟨e.int.toArray⟩, .slice B e.needs.length cb] 64)).alloc (.cells #[.slice none 0 0, .string ⟨#[]⟩, .string ⟨#[]⟩, .string ⟨#[]⟩, .slice none 0 0] 66)).alloc (.cells #[.slice none 0 0, .string ⟨#[]⟩, .string ⟨#[]⟩, .string ⟨#[]⟩, .slice none 0 0] 66)) := (((Below.refl _ _).alloc (Nat.le_refl _) _).alloc (by simp) _).alloc (by simp; omega) _
  have b0 := keepA (keepA (heap_alloc_new w (.cells #[.slice A e.heads.length ca, .string ⟨e.ver.toArray⟩, .string ⟨e.res.toArray⟩, .string ⟨e.int.toArray⟩, .slice B e.needs.length cb] 64)) (.cells #[.slice none 0 0, .string ⟨#[]⟩, .string ⟨#[]⟩, .string ⟨#[]⟩, .slice none 0 0] 66)) (.cells #[.slice none 0 0, .string ⟨#[]⟩, .string ⟨#[]⟩, .string ⟨#[]⟩, .slice none 0 0] 66)
  have b1 := keepA (heap_new (W := w.alloc (.cells #[.slice A e.heads.length ca, .string ⟨e.ver.toArray⟩, .string ⟨e.res.toArray⟩, .string ⟨e.int.toArray⟩, .slice B e.needs.length cb] 64)) (n := w.heap.size + 1) (by simp) (.cells #[.slice none 0 0, .string ⟨#[]⟩, .string ⟨#[]⟩, .string ⟨#[]⟩, .slice none 0 0] 66)) (.cells #[.slice none 0 0, .string ⟨#[]⟩, .string ⟨#[]⟩, .string ⟨#[]⟩, .slice none 0 0] 66)
  have b2 := heap_new (W := (w.alloc (.cells #[.slice A e.heads.length ca, .string ⟨e.ver.toArray⟩, .string ⟨e.res.toArray⟩, .string ⟨e.int.toArray⟩, .slice B e.needs.length cb] 64)).alloc (.cells #[.slice none 0 0, .string ⟨#[]⟩, .string ⟨#[]⟩, .string ⟨#[]⟩, .slice none 0 0] 66)) (n := w.heap.size + 1 + 1) (by simp) (.cells #[.slice none 0 0, .string ⟨#[]⟩, .string ⟨#[]⟩, .string ⟨#[]⟩, .slice none 0 0] 66)
  go_enter Try.func33, Try.ntmps33
  go_wp2_with fail
  refine (HA0.out _ B0).mono ?_
  rintro x w1 ⟨g0, c0, rfl, O0, hb1⟩
  have F0 := B0.trans (hb1.mono (by first | exact B0.size | (have := B0.size; simp at this ⊢; omega)))
  have k0_0 := keepB b0 hb1
  have k0_1 := keepB b1 hb1
  have k0_2 := keepB b2 hb1
  have O0' := O0.weaken (base' := w.heap.size + 3) (by first | (simp; done) | (have := B0.size; simp at this ⊢; omega))
  have hz0 : w.heap.size + 3 ≤ w1.heap.size := by have := lt_of_heap k0_2; omega
  clear hb1 O0
  obtain ⟨p0_0, p0_1, p0_2, p0_3, p0_4⟩ := cells5 k0_0
  obtain ⟨r0_0, r0_1, r0_2, r0_3, r0_4⟩ := cells5 k0_2
  obtain ⟨t0_0, t0_1, t0_2, t0_3, t0_4⟩ := cells5 k0_1
  have fa0 := frozen5 k0_2
  have fb0 := frozen5 k0_1
  go_wp2_with fail
  have d1_0 := heap_other (o := 0) (g := w.heap.size + 1 + 1) k0_0 (.slice (some ⟨g0, 0, none⟩) e.heads.length c0) (by omega)
  have d1_1 := heap_other (o := 0) (g := w.heap.size + 1 + 1) k0_1 (.slice (some ⟨g0, 0, none⟩) e.heads.length c0) (by omega)
  have d1_2 : (w1.setCell ⟨w.heap.size + 1 + 1, 0, none⟩ (.slice (some ⟨g0, 0, none⟩) e.heads.length c0)).heap[w.heap.size + 1 + 1]? = some (.cells #[.slice (some ⟨g0, 0, none⟩) e.heads.length c0, .string ⟨#[]⟩, .string ⟨#[]⟩, .string ⟨#[]⟩, .slice none 0 0] 66) := by have := heap_setN (k := 0) k0_2 (.slice (some ⟨g0, 0, none⟩) e.heads.length c0); simpa using this
  have E1 := F0.setCell (p := ⟨w.heap.size + 1 + 1, 0, none⟩) (show w.heap.size ≤ w.heap.size + 1 + 1 by omega) (.slice (some ⟨g0, 0, none⟩) e.heads.length c0)
  have d2_0 := heap_other (o := 1) (g := w.heap.size + 1 + 1) d1_0 (.string ⟨e.ver.toArray⟩) (by omega)
  have d2_1 := heap_other (o := 1) (g := w.heap.size + 1 + 1) d1_1 (.string ⟨e.ver.toArray⟩) (by omega)
  have d2_2 : ((w1.setCell ⟨w.heap.size + 1 + 1, 0, none⟩ (.slice (some ⟨g0, 0, none⟩) e.heads.length c0)).setCell ⟨w.heap.size + 1 + 1, 1, none⟩ (.string ⟨e.ver.toArray⟩)).heap[w.heap.size + 1 + 1]? = some (.cells #[.slice (some ⟨g0, 0, none⟩) e.heads.length c0, .string ⟨e.ver.toArray⟩, .string ⟨#[]⟩, .string ⟨#[]⟩, .slice none 0 0] 66) := by have := heap_setN (k := 1) d1_2 (.string ⟨e.ver.toArray⟩); simpa using this
  have E2 := E1.setCell (p := ⟨w.heap.size + 1 + 1, 1, none⟩) (show w.heap.size ≤ w.heap.size + 1 + 1 by omega) (.string ⟨e.ver.toArray⟩)
  have d3_0 := heap_other (o := 2) (g := w.heap.size + 1 + 1) d2_0 (.string ⟨e.res.toArray⟩) (by omega)
  have d3_1 := heap_other (o := 2) (g := w.heap.size + 1 + 1) d2_1 (.string ⟨e.res.toArray⟩) (by omega)
  have d3_2 : (((w1.setCell ⟨w.heap.size + 1 + 1, 0, none⟩ (.slice (some ⟨g0, 0, none⟩) e.heads.length c0)).setCell ⟨w.heap.size + 1 + 1, 1, none⟩ (.string ⟨e.ver.toArray⟩)).setCell ⟨w.heap.size + 1 + 1, 2, none⟩ (.string ⟨e.res.toArray⟩)).heap[w.heap.size + 1 + 1]? = some (.cells #[.slice (some ⟨g0, 0, none⟩) e.heads.length c0, .string ⟨e.ver.toArray⟩, .string ⟨e.res.toArray⟩, .string ⟨#[]⟩, .slice none 0 0] 66) := by have := heap_setN (k := 2) d2_2 (.string ⟨e.res.toArray⟩); simpa using this
  have E3 := E2.setCell (p := ⟨w.heap.size + 1 + 1, 2, none⟩) (show w.heap.size ≤ w.heap.size + 1 + 1 by omega) (.string ⟨e.res.toArray⟩)
  have d4_0 := heap_other (o := 3) (g := w.heap.size + 1 + 1) d3_0 (.string ⟨e.int.toArray⟩) (by omega)
  have d4_1 := heap_other (o := 3) (g := w.heap.size + 1 + 1) d3_1 (.string ⟨e.int.toArray⟩) (by omega)
  have d4_2 : ((((w1.setCell ⟨w.heap.size + 1 + 1, 0, none⟩ (.slice (some ⟨g0, 0, none⟩) e.heads.length c0)).setCell ⟨w.heap.size + 1 + 1, 1, none⟩ (.string ⟨e.ver.toArray⟩)).setCell ⟨w.heap.size + 1 + 1, 2, none⟩ (.string ⟨e.res.toArray⟩)).setCell ⟨w.heap.size + 1 + 1, 3, none⟩ (.string ⟨e.int.toArray⟩)).heap[w.heap.size + 1 + 1]? = some (.cells #[.slice (some ⟨g0, 0, none⟩) e.heads.length c0, .string ⟨e.ver.toArray⟩, .string ⟨e.res.toArray⟩, .string ⟨e.int.toArray⟩, .slice none 0 0] 66) := by have := heap_setN (k := 3) d3_2 (.string ⟨e.int.toArray⟩); simpa using this
  have E4 := E3.setCell (p := ⟨w.heap.size + 1 + 1, 3, none⟩) (show w.heap.size ≤ w.heap.size + 1 + 1 by omega) (.string ⟨e.int.toArray⟩)
  have O0_4 := (Ndk.Nds.other (Ndk.Nds.other (Ndk.Nds.other (Ndk.Nds.other O0' (w.heap.size + 1 + 1) 0 (.slice (some ⟨g0, 0, none⟩) e.heads.length c0) (by omega)) (w.heap.size + 1 + 1) 1 (.string ⟨e.ver.toArray⟩) (by omega)) (w.heap.size + 1 + 1) 2 (.string ⟨e.res.toArray⟩) (by omega)) (w.heap.size + 1 + 1) 3 (.string ⟨e.int.toArray⟩) (by omega))
  refine (HA1.out _ E4).mono ?_
  rintro x w5 ⟨g1, c1, rfl, O1, hb5⟩
  have F4 := E4.trans (hb5.mono (by first | exact E4.size | (have := E4.size; simp at this ⊢; omega)))
  have k4_0 := keepB d4_0 hb5
  have k4_1 := keepB d4_1 hb5
  have k4_2 := keepB d4_2 hb5
  have O0_4b := O0_4.below hb5
  have O1' := O1.weaken (base' := w.heap.size + 3) (by first | (simp; done) | (have := E4.size; simp at this ⊢; omega))
  have hz4 : w.heap.size + 3 ≤ w5.heap.size := by have := lt_of_heap k4_2; omega
  clear hb5 O1
  obtain ⟨p4_0, p4_1, p4_2, p4_3, p4_4⟩ := cells5 k4_0
  obtain ⟨r4_0, r4_1, r4_2, r4_3, r4_4⟩ := cells5 k4_2
  obtain ⟨t4_0, t4_1, t4_2, t4_3, t4_4⟩ := cells5 k4_1
  have fa4 := frozen5 k4_2
  have fb4 := frozen5 k4_1
  go_wp2_with fail
  have d5_0 := heap_other (o := 4) (g := w.heap.size + 1 + 1) k4_0 (.slice (some ⟨g1, 0, none⟩) e.needs.length c1) (by omega)
  have d5_1 := heap_other (o := 4) (g := w.heap.size + 1 + 1) k4_1 (.slice (some ⟨g1, 0, none⟩) e.needs.length c1) (by omega)
  have d5_2 : (w5.setCell ⟨w.heap.size + 1 + 1, 4, none⟩ (.slice (some ⟨g1, 0, none⟩) e.needs.length c1)).heap[w.heap.size + 1 + 1]? = some (.cells #[.slice (some ⟨g0, 0, none⟩) e.heads.length c0, .string ⟨e.ver.toArray⟩, .string ⟨e.res.toArray⟩, .string ⟨e.int.toArray⟩, .slice (some ⟨g1, 0, none⟩) e.needs.length c1] 66) := by have := heap_setN (k := 4) k4_2 (.slice (some ⟨g1, 0, none⟩) e.needs.length c1); simpa using this
  have E5 := F4.setCell (p := ⟨w.heap.size + 1 + 1, 4, none⟩) (show w.heap.size ≤ w.heap.size + 1 + 1 by omega) (.slice (some ⟨g1, 0, none⟩) e.needs.length c1)
  refine bodyPost_ret (v := .agg #[.slice (some ⟨g0, 0, none⟩) e.heads.length c0, .string ⟨e.ver.toArray⟩, .string ⟨e.res.toArray⟩, .string ⟨e.int.toArray⟩, .slice (some ⟨g1, 0, none⟩) e.needs.length c1]) ?_ rfl ⟨_, _, rfl, ?_, ?_, ?_⟩
  · simp [results, Try.results33, go_sem, t4_0, t4_1, t4_2, t4_3, t4_4]
  · exact (Ndk.Nds.weaken (Ndk.Nds.other (Ndk.Nds.other (Ndk.Nds.other (Ndk.Nds.other (Ndk.Nds.other (Ndk.Nds.other O0_4b (w.heap.size + 1 + 1) 4 (.slice (some ⟨g1, 0, none⟩) e.needs.length c1) (by omega)) (w.heap.size + 1) _ _ (by omega)) (w.heap.size + 1) _ _ (by omega)) (w.heap.size + 1) _ _ (by omega)) (w.heap.size + 1) _ _ (by omega)) (w.heap.size + 1) _ _ (by omega)) (by omega))
  · exact (Ndk.Nds.weaken (Ndk.Nds.other (Ndk.Nds.other (Ndk.Nds.other (Ndk.Nds.other (Ndk.Nds.other (Ndk.Nds.other O1' (w.heap.size + 1 + 1) 4 (.slice (some ⟨g1, 0, none⟩) e.needs.length c1) (by omega)) (w.heap.size + 1) _ _ (by omega)) (w.heap.size + 1) _ _ (by omega)) (w.heap.size + 1) _ _ (by omega)) (w.heap.size + 1) _ _ (by omega)) (w.heap.size + 1) _ _ (by omega)) (by omega))
  · exact (((((E5.setCell (p := ⟨w.heap.size + 1, 0, none⟩) (show w.heap.size ≤ w.heap.size + 1 by omega) _).setCell (p := ⟨w.heap.size + 1, 1, none⟩) (show w.heap.size ≤ w.heap.size + 1 by omega) _).setCell (p := ⟨w.heap.size + 1, 2, none⟩) (show w.heap.size ≤ w.heap.size + 1 by omega) _).setCell (p := ⟨w.heap.size + 1, 3, none⟩) (show w.heap.size ≤ w.heap.size + 1 by omega) _).setCell (p := ⟨w.heap.size + 1, 4, none⟩) (show w.heap.size ≤ w.heap.size + 1 by omega) _)

set_option maxRecDepth 100000 in
set_option maxHeartbeats 2000000 in
theorem eqEntry_same (e : En) (a0 a1 a0' a1' : Value) (w : World) (ha0 : RdB w a0 e.heads) (ha1 : RdB w a1 e.needs) (hb0 : RdB w a0' e.heads) (hb1 : RdB w a1' e.needs) (hs : SmEn e) :
    Calls Try.prog 35 #[enV e a0 a1, enV e a0' a1'] w fun x w' => x = .returned (.bool true) ∧ Below w.heap.size w w' := by
  have HA0 := Lib.hid (fun (W : World) (h : Below w.heap.size w W) => Ndk.eqNeedS_same a0 a0' e.heads W (ha0.below h) (hb0.below h) (by have := hs.heads; omega))
  have HA1 := Lib.hid (fun (W : World) (h : Below w.heap.size w W) => Ndk.eqNeedS_same a1 a1' e.needs W (ha1.below h) (hb1.below h) (by have := hs.needs; omega))
  obtain ⟨A, ca, rfl⟩ := rdB_slice ha0
  obtain ⟨B, cb, rfl⟩ := rdB_slice ha1
  obtain ⟨A', ca', rfl⟩ := rdB_slice hb0
  obtain ⟨B', cb', rfl⟩ := rdB_slice hb1
  unfold enV
  clear ha0 hb0 ha1 hb1 hs
  have B0 : Below w.heap.size w ((w.alloc (.cells #[.slice A e.heads.length ca, .string ⟨e.ver.toArray⟩, .string ⟨e.res.toArray⟩, .string ⟨e.int.toArray⟩, .slice B e.needs.length cb] 66)).alloc (.cells #[.slice A' e.heads.length ca', .string ⟨e.ver.toArray⟩, .string ⟨e.res.toArray⟩, .string ⟨e.int.toArray⟩, .slice B' e.needs.length cb'] 66)) := ((Below.refl _ _).alloc (Nat.le_refl _) _).alloc (by simp) _
  have b0 := keepA (heap_alloc_new w (.cells #[.slice A e.heads.length ca, .string ⟨e.ver.toArray⟩, .string ⟨e.res.toArray⟩, .string ⟨e.int.toArray⟩, .slice B e.needs.length cb] 66)) (.cells #[.slice A' e.heads.length ca', .string ⟨e.ver.toArray⟩, .string ⟨e.res.toArray⟩, .string ⟨e.int.toArray⟩, .slice B' e.needs.length cb'] 66)
  have b1 := heap_new (W := w.alloc (.cells #[.slice A e.heads.length ca, .string ⟨e.ver.toArray⟩, .string ⟨e.res.toArray⟩, .string ⟨e.int.toArray⟩, .slice B e.needs.length cb] 66)) (n := w.heap.size + 1) (by simp) (.cells #[.slice A' e.heads.length ca', .string ⟨e.ver.toArray⟩, .string ⟨e.res.toArray⟩, .string ⟨e.int.toArray⟩, .slice B' e.needs.length cb'] 66)
  go_enter Try.func35, Try.ntmps35
  go_wp2_with fail
  refine (HA0.out _ B0).mono ?_
  rintro x w1 ⟨rfl, hb1⟩
  have C1 := B0.trans (hb1.mono B0.size)
  have m1 := keepB b0 hb1
  have n1 := keepB b1 hb1
  obtain ⟨p0_0, p0_1, p0_2, p0_3, p0_4⟩ := cells5 m1
  obtain ⟨r0_0, r0_1, r0_2, r0_3, r0_4⟩ := cells5 n1
  clear hb1
  go_wp2_with fail
  refine (HA1.out _ C1).mono ?_
  rintro x w2 ⟨rfl, hb2⟩
  have C2 := C1.trans (hb2.mono C1.size)
  have m2 := keepB m1 hb2
  have n2 := keepB n1 hb2
  obtain ⟨p1_0, p1_1, p1_2, p1_3, p1_4⟩ := cells5 m2
  obtain ⟨r1_0, r1_1, r1_2, r1_3, r1_4⟩ := cells5 n2
  clear hb2
  go_wp2_with fail
  go_ret
  exact ⟨rfl, C2⟩

set_option maxRecDepth 100000 in
set_option maxHeartbeats 2000000 in
theorem szEntryS_any (v : Value) (ps : List En) (left : Int) (w : World) (hr : RdEs w v ps) (h0 : 0 ≤ left) (h1 : left ≤ 1048576) (hn : ps.length ≤ maxLen) (hm : ∀ p ∈ ps, EnFits p) :
    Calls Try.prog 7 #[v, .int .i64 left] w fun e w' => e = .returned (.int .i64 (szEs left ps)) ∧ Below w.heap.size w w' := by
  have HR := Lib.hid hr
  obtain ⟨A, ca, rfl, ha⟩ := hr
  have HM := Lib.hid hm
  clear hm ha
  unfold maxLen at hn
  by_cases hl : (ps.length : Int) ≤ left
  · go_enter Try.func7, Try.ntmps7
    go_wp2
    go_loopw [1, 5] (fun m i wr => ∃ (k : Nat) (z : Int), k ≤ ps.length ∧ i = .int .i64 k ∧ m = .int .i64 z ∧ 0 ≤ z ∧ z ≤ 1048576 ∧ Hid (z = left - (ps.length : Int) - (smE (ps.take k) : Int)) ∧ Below w.heap.size w wr) (fun _ i _ => ps.length - (intOf i).toNat)
    case atStart => exact ⟨0, _, Nat.zero_le _, rfl, rfl, by omega, by omega, Lib.hid (by simp [smE]), Below.refl _ _⟩
    case round =>
      obtain ⟨k, z, hk, rfl, rfl, z0, z1, HZ, hb⟩ := hrel
      by_cases hlt : k < ps.length
      · obtain ⟨g, off, rfl, _, a0, a1, d0, d1, d2, d3, d4, ra0, ra1⟩ := (HR.out.below hb).at k hlt
        have HC := Lib.hid (szEntry_any ps[k] a0 a1 z wr ra0 ra1 z0 z1 (HM.out ps[k] (List.getElem_mem hlt)))
        obtain ⟨A1, c1, rfl⟩ := rdB_slice ra0
        obtain ⟨A2, c2, rfl⟩ := rdB_slice ra1
        have k0 : (0 : Int) ≤ (k : Int) := by omega
        have k1 : (k : Int) < (ps.length : Int) := by omega
        have HS := Lib.hid (smE_snoc ps k hlt)
        have HT := Lib.hid (smE_le ps (k + 1))
        clear ra0 ra1
        by_cases hz : (wEn ps[k] : Int) ≤ z
        · have HO := Lib.hid (szEn_yes hz)
          have hz2 : (0 : Int) ≤ z - (wEn ps[k] : Int) := by omega
          have hz3 : z - (wEn ps[k] : Int) ≤ 1048576 := by omega
          obtain ⟨y, hy⟩ : ∃ y, y = z - (wEn ps[k] : Int) := ⟨_, rfl⟩
          rw [← hy] at HO hz2 hz3
          go_wp2_with fail
          refine HC.out.mono ?_
          rw [HO.out]
          rintro e w1 ⟨rfl, hb1⟩
          have B1 := hb.trans (hb1.mono hb.size)
          go_wp2_with fail
          go_roundw
          case rel => exact ⟨k + 1, _, by omega, by go_num, rfl, by omega, by omega, Lib.hid (by have := HZ.out; have := HS.out; omega), B1⟩
          case measure => simp [intOf]; omega
        · have HO := Lib.hid (szEn_no hz)
          have HW : Hid (szEs left ps = -1) := Lib.hid (szEs_no (by have := HZ.out; have := HS.out; have := HT.out; omega))
          go_wp2_with fail
          refine HC.out.mono ?_
          rw [HO.out]
          rintro e w1 ⟨rfl, hb1⟩
          have B1 := hb.trans (hb1.mono hb.size)
          go_wp2_with fail
          go_ret
          exact ⟨ret_int HW.out.symm, B1⟩
      · have HX : Hid (szEs left ps = z) := Lib.hid (by
          have hz := HZ.out
          rw [List.take_of_length_le (by omega)] at hz
          rw [szEs_yes (by omega)]; omega)
        go_wp2_with fail
        go_ret
        exact ⟨ret_int HX.out.symm, hb⟩
  · have HX : Hid (szEs left ps = -1) := Lib.hid (szEs_no (by omega))
    go_enter Try.func7, Try.ntmps7
    go_wp2
    go_ret
    exact ⟨ret_int HX.out.symm, Below.refl _ _⟩

set_option maxRecDepth 100000 in
set_option maxHeartbeats 2000000 in
theorem toEntryS_any (v : Value) (ps : List En) (w : World) (hr : RdEs w v ps) (hs : SmEs ps) :
    Calls Try.prog 10 #[v] w fun e w' => ∃ u, e = .returned u ∧ EnsOwn w' w.heap.size u ps ∧ Below w.heap.size w w' := by
  have HR := Lib.hid hr
  have HS := Lib.hid hs
  have hl : ps.length ≤ 1048576 := by unfold SmEs at hs; omega
  obtain ⟨A, ca, rfl, ha⟩ := hr
  obtain ⟨i0, hi, hz0, hz1, hz2⟩ := info_parts eninfo
  go_enter Try.func10, Try.ntmps10
  go_wp2_with (at_make; refine wpList_make_full _ rfl _ _ 28 rfl w.heap.size 66 i0 (.agg #[.slice none 0 0, .string ⟨#[]⟩, .string ⟨#[]⟩, .string ⟨#[]⟩, .slice none 0 0]) 5 Try.underlying28 hi hz0 hz1 .i64 .i64 _ _ ps.length rfl rfl rfl rfl (by rw [hz2]; omega) (by unfold maxLen; omega) (Nat.le_refl _) ?_; intro w1 hown1 hg1)
  have hS1 := en_made hown1
  have hb1 : Below w.heap.size w w1 := (Below.refl _ _).grown hg1 (Nat.le_refl _) (by simp)
  have hz3 : w.heap.size < w1.heap.size := by
    rcases hown1.2 with ⟨hv, _⟩ | ⟨g, cap, cur, hv, hb, hh, _⟩
    · cases hv
    · simp only [Value.slice.injEq, Option.some.injEq, Addr.mk.injEq] at hv
      have := lt_of_heap hh; omega
  clear hown1 hg1 hi hz0 hz1 hz2 ha hs
  go_loopw [4] (fun i wr => ∃ (k : Nat) (qs : List EnV), k ≤ ps.length ∧ i = .int .i64 k ∧ qs.map (·.1) = ps.take k ∧ Entries wr w.heap.size (.slice (some ⟨w.heap.size, 0, none⟩) ps.length ps.length) (tkE qs ps.length) ∧ Hid (∀ q ∈ qs, EnOwn wr (w.heap.size + 1) q) ∧ Below w.heap.size w wr ∧ w.heap.size < wr.heap.size) (fun i _ => ps.length - (intOf i).toNat)
  case atStart => exact ⟨0, [], Nat.zero_le _, rfl, by simp, by simpa [tkE] using hS1, Lib.hid (fun q h => by cases h), hb1, hz3⟩
  case round =>
    obtain ⟨k, qs, hk, rfl, hq, hS, HQ, hb, hgt⟩ := hrel
    have hqk : qs.length = k := by have := congrArg List.length hq; simp at this; omega
    by_cases hlt : k < ps.length
    · obtain ⟨g, off, rfl, _, a0, a1, d0, d1, d2, d3, d4, ra0, ra1⟩ := (HR.out.below hb).at k hlt
      have HC := Lib.hid (toEntry_any ps[k] a0 a1 wr ra0 ra1 (HS.out.get k hlt))
      obtain ⟨A1, c1, rfl⟩ := rdB_slice ra0
      obtain ⟨A2, c2, rfl⟩ := rdB_slice ra1
      have k0 : (0 : Int) ≤ (k : Int) := by omega
      have k1 : (k : Int) < (ps.length : Int) := by omega
      clear ra0 ra1 hS1 hb1 hz3
      go_wp2_with fail
      refine HC.out.mono ?_
      rintro e w2 ⟨u0, u1, rfl, hA0, hA1, hb2⟩
      obtain ⟨g0, j0, rfl⟩ := hA0.slice
      obtain ⟨g1, j1, rfl⟩ := hA1.slice
      have hS2 := hS.below hb2
      have hS' : Entries w2 w.heap.size (.slice (some ⟨w.heap.size, 0, none⟩) (tkE qs ps.length).length ps.length) (tkE qs ps.length) := by rw [tkE_len qs _ (by omega)]; exact hS2
      obtain ⟨f0, f1, f2, f3, f4⟩ := hS2.cell k (by rw [tkE_len qs _ (by omega)]; exact hlt)
      have fz : ∀ j, w2.frozen? ⟨w.heap.size, j, none⟩ = false := fun j => World.ownsRow.frozenAt hS' j
      have B2 := hb.trans (hb2.mono hb.size)
      have hq' : (qs ++ [(ps[k], Value.slice g0 ps[k].heads.length j0, Value.slice g1 ps[k].needs.length j1)]).map (·.1) = ps.take (k + 1) := by
        rw [List.map_append, hq, List.take_succ_eq_append_getElem hlt]; rfl
      have HQ2 : Hid (∀ q ∈ qs ++ [(ps[k], Value.slice g0 ps[k].heads.length j0, Value.slice g1 ps[k].needs.length j1)], EnOwn w2 (w.heap.size + 1) q) := Lib.hid (by
        intro q hq
        rcases List.mem_append.1 hq with h | h
        · exact (HQ.out q h).below hb2
        · simp at h; subst h; exact ⟨hA0.weaken (by omega), hA1.weaken (by omega)⟩)
      have hgt2 : w.heap.size < w2.heap.size := Nat.lt_of_lt_of_le hgt hb2.size
      have HP := Lib.hid (hS'.set k (ps[k], Value.slice g0 ps[k].heads.length j0, Value.slice g1 ps[k].needs.length j1))
      have HT := Lib.hid (by have := tkE_set qs ps.length (by omega) (ps[k], Value.slice g0 ps[k].heads.length j0, Value.slice g1 ps[k].needs.length j1); rw [hqk] at this; exact this)
      have HQ3 := Lib.hid (fun q h => (HQ2.out q h).put w.heap.size (k * 5) (ps[k], Value.slice g0 ps[k].heads.length j0, Value.slice g1 ps[k].needs.length j1) (by omega))
      have HB3 := Lib.hid (below_putE (o := k * 5) (q := (ps[k], Value.slice g0 ps[k].heads.length j0, Value.slice g1 ps[k].needs.length j1)) B2 (Nat.le_refl _))
      rw [HT.out, tkE_len _ _ (by simp; omega)] at HP
      simp only [putE] at HP HQ3 HB3
      clear hS hb hb2 d0 d1 d2 d3 d4 HQ hA0 hA1 hS' HQ2 B2 HT HC
      go_wp2_with fail
      go_roundw
      case rel => exact ⟨k + 1, _, by omega, by go_num, hq', HP.out, HQ3, HB3.out, by simp only [World.size_setCell]; exact hgt2⟩
      case measure => simp [intOf]; omega
    · obtain rfl : k = ps.length := by omega
      clear hS1 hb1
      go_wp2_with fail
      go_ret
      refine ⟨_, rfl, ⟨w.heap.size, _, qs, rfl, Nat.le_refl _, hgt, by rw [hq]; simp, ?_, HQ.out⟩, hb⟩
      simpa [tkE, hqk] using hS

set_option maxRecDepth 100000 in
set_option maxHeartbeats 2000000 in
theorem eqEntryS_same (va vb : Value) (ps : List En) (w : World) (ha : RdEs w va ps) (hb : RdEs w vb ps) (hs : SmEs ps) :
    Calls Try.prog 13 #[va, vb] w fun e w' => e = .returned (.bool true) ∧ Below w.heap.size w w' := by
  have HA := Lib.hid ha
  have HB := Lib.hid hb
  have HS := Lib.hid hs
  have hl : ps.length ≤ 1048576 := by unfold SmEs at hs; omega
  obtain ⟨A, ca, rfl, ha⟩ := ha
  obtain ⟨B, cb, rfl, hb⟩ := hb
  have q0 : ((ps.length : Int) != (ps.length : Int)) = false := int_bne_false rfl
  clear ha hb hs
  go_enter Try.func13, Try.ntmps13
  go_wp2_with fail
  go_loopw [5] (fun i wr => ∃ k : Nat, k ≤ ps.length ∧ i = .int .i64 k ∧ Below w.heap.size w wr) (fun i _ => ps.length - (intOf i).toNat)
  case atStart => exact ⟨0, Nat.zero_le _, rfl, Below.refl _ _⟩
  case round =>
    obtain ⟨k, hk, rfl, hw⟩ := hrel
    by_cases hlt : k < ps.length
    · obtain ⟨g, off, rfl, hg, a0, a1, d0, d1, d2, d3, d4, ra0, ra1⟩ := (HA.out.below hw).at k hlt
      obtain ⟨g', off', rfl, hg', a0', a1', e0, e1, e2, e3, e4, rb0, rb1⟩ := (HB.out.below hw).at k hlt
      have HC := Lib.hid (fun (W : World) (h : Below wr.heap.size wr W) => eqEntry_same ps[k] a0 a1 a0' a1' W (ra0.below h) (ra1.below h) (rb0.below h) (rb1.below h) (HS.out.get k hlt))
      obtain ⟨A1, c1, rfl⟩ := rdB_slice ra0
      obtain ⟨A2, c2, rfl⟩ := rdB_slice ra1
      obtain ⟨A1', c1', rfl⟩ := rdB_slice rb0
      obtain ⟨A2', c2', rfl⟩ := rdB_slice rb1
      have k0 : (0 : Int) ≤ (k : Int) := by omega
      have k1 : (k : Int) < (ps.length : Int) := by omega
      clear ra0 rb0 ra1 rb1
      go_wp2_with fail
      go_region_with (first | (go_at_call 35; refine (HC.out _ (below_drewN _ _ 1)).mono ?_; rintro e w1 ⟨rfl, hb1⟩))
      all_goals
        go_wp2_with fail
        go_roundw
        case rel => exact ⟨k + 1, by omega, by go_num, hw.trans ((below_drewN _ _ 1).trans (hb1.mono (by first | exact Nat.le_refl _ | exact hw.size)))⟩
        case measure => simp [intOf]; omega
    · go_wp2_with fail
      go_ret
      exact ⟨rfl, hw⟩
end Go.Proofs.Ytnodhkjgnegkcaa
