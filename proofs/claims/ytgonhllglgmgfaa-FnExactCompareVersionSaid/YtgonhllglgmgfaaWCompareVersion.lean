/-
  The walk of the law FnExactCompareVersion.
-/
import Derived.Test.YtgonhllglgmgfaaCmpV
import Derived.Test.YtgonhllglgmgfaaCmpW
import Derived.Test.YtgonhllglgmgfaaBox
import Derived.Deep.RegionWith
namespace Go.Proofs.Ytgonhllglgmgfaa
open Go.RowKit

set_option maxRecDepth 100000 in
set_option maxHeartbeats 4000000 in
theorem exCompareVersion (a b c : Int) (va : Value) (x : List (List UInt8)) (a' b' c' : Int) (vb : Value) (y : List (List UInt8)) (w : World) (hr : RdS w va x) (hn : x.length ≤ maxLen) (hm : ∀ l ∈ x, l.length ≤ maxLen) (hr' : RdS w vb y) (hn' : y.length ≤ maxLen) (hm' : ∀ l ∈ y, l.length ≤ maxLen) :
    Calls Try.prog 5 #[.agg #[.int .i64 a, .int .i64 b, .int .i64 c, va], .agg #[.int .i64 a', .int .i64 b', .int .i64 c', vb]] w fun e w' => e = .returned (.bool true) ∧ Below w.heap.size w w' := by
  have HZ := Lib.hid (fun (W : World) (h : Below w.heap.size w W) => szVersion_any a b c va x 1048576 W (hr.below h) (by omega) (by omega) hn hm)
  have HZ2 := Lib.hid (fun (z : Int) (h0 : 0 ≤ z) (h1 : z ≤ 1048576) (W : World) (h : Below w.heap.size w W) => szVersion_any a' b' c' vb y z W (hr'.below h) h0 h1 hn' hm')
  have HT := Lib.hid (fun (h : x.length ≤ 1048576) (W : World) (hb : Below w.heap.size w W) => toVersion_any a b c va x W (hr.below hb) h)
  have HT2 := Lib.hid (fun (h : y.length ≤ 1048576) (W : World) (hb : Below w.heap.size w W) => toVersion_any a' b' c' vb y W (hr'.below hb) h)
  obtain ⟨z, HX⟩ : ∃ z, Hid (szI 1048576 x = z) := ⟨_, Lib.hid rfl⟩
  obtain ⟨z2, HX2⟩ : ∃ z2, Hid (szI z y = z2) := ⟨_, Lib.hid rfl⟩
  have B0 : Below w.heap.size w ((w.alloc (.cells #[.int .i64 a, .int .i64 b, .int .i64 c, va] 24)).alloc (.cells #[.int .i64 a', .int .i64 b', .int .i64 c', vb] 24)) := ((Below.refl _ _).alloc (Nat.le_refl _) _).alloc (by simp) _
  have hA0 : ((w.alloc (.cells #[.int .i64 a, .int .i64 b, .int .i64 c, va] 24)).alloc (.cells #[.int .i64 a', .int .i64 b', .int .i64 c', vb] 24)).heap[w.heap.size]? = some (.cells #[.int .i64 a, .int .i64 b, .int .i64 c, va] 24) := (Below.heap_alloc _ _ _ (by simp)).trans (heap_alloc_new _ _)
  have hB0 : ((w.alloc (.cells #[.int .i64 a, .int .i64 b, .int .i64 c, va] 24)).alloc (.cells #[.int .i64 a', .int .i64 b', .int .i64 c', vb] 24)).heap[w.heap.size + 1]? = some (.cells #[.int .i64 a', .int .i64 b', .int .i64 c', vb] 24) := by have := heap_alloc_new (w.alloc (.cells #[.int .i64 a, .int .i64 b, .int .i64 c, va] 24)) (.cells #[.int .i64 a', .int .i64 b', .int .i64 c', vb] 24); simpa using this
  clear hr hn hm hr' hn' hm'
  by_cases hz : z < 0
  · go_enter Try.func5, Try.ntmps5
    go_wp2_with fail
    refine (HZ.out _ B0).mono ?_
    rw [HX.out]
    rintro e w1 ⟨rfl, hb1⟩
    have B1 := B0.trans (hb1.mono B0.size)
    go_wp2_with fail
    go_ret
    exact ⟨rfl, B1⟩
  · have hz0 : 0 ≤ z := by omega
    have hz1 : z ≤ 1048576 := by have := HX.out; unfold szI at this; split at this <;> omega
    have HSx := Lib.hid (szI_good (ls := x) (by have := HX.out; omega))
    by_cases hy : z2 < 0
    · go_enter Try.func5, Try.ntmps5
      go_wp2_with fail
      refine (HZ.out _ B0).mono ?_
      rw [HX.out]
      rintro e w1 ⟨rfl, hb1⟩
      have B1 := B0.trans (hb1.mono B0.size)
      obtain ⟨p0, p1, p2, p3⟩ := cells4 (keepB hB0 hb1)
      clear hA0 hB0
      go_wp2_with fail
      refine (HZ2.out z hz0 hz1 _ B1).mono ?_
      rw [HX2.out]
      rintro e w2 ⟨rfl, hb2⟩
      have B2 := B1.trans (hb2.mono B1.size)
      go_wp2_with fail
      go_ret
      exact ⟨rfl, B2⟩
    · have HSy := Lib.hid (szI_good2 (ls := y) hz1 (by have := HX2.out; omega))
      go_enter Try.func5, Try.ntmps5
      go_wp2_with fail
      refine (HZ.out _ B0).mono ?_
      rw [HX.out]
      rintro e w1 ⟨rfl, hb1⟩
      have B1 := B0.trans (hb1.mono B0.size)
      have hA1 := keepB hA0 hb1
      have hB1 := keepB hB0 hb1
      clear hA0 hB0 hb1 B0
      obtain ⟨p0, p1, p2, p3⟩ := cells4 hB1
      go_wp2_with fail
      refine (HZ2.out z hz0 hz1 _ B1).mono ?_
      rw [HX2.out]
      rintro e w2 ⟨rfl, hb2⟩
      have B2 := B1.trans (hb2.mono B1.size)
      have hA2 := keepB hA1 hb2
      have hB2 := keepB hB1 hb2
      clear hA1 hB1 hb2 p0 p1 p2 p3 B1 HZ HZ2
      obtain ⟨p0, p1, p2, p3⟩ := cells4 hA2
      obtain ⟨q0, q1, q2, q3⟩ := cells4 hB2
      go_wp2_with fail
      have sx := HSx.out.1
      have sy := HSy.out.1
      have D2 := B2.trans (below_drew _ _)
      go_region_held3 (fun W' => W'.cell? ⟨w.heap.size, 0, none⟩ = some (.int .i64 a) ∧ W'.cell? ⟨w.heap.size, 1, none⟩ = some (.int .i64 b) ∧ W'.cell? ⟨w.heap.size, 2, none⟩ = some (.int .i64 c) ∧ W'.cell? ⟨w.heap.size, 3, none⟩ = some (va) ∧ W'.cell? ⟨w.heap.size + 1, 0, none⟩ = some (.int .i64 a') ∧ W'.cell? ⟨w.heap.size + 1, 1, none⟩ = some (.int .i64 b') ∧ W'.cell? ⟨w.heap.size + 1, 2, none⟩ = some (.int .i64 c') ∧ W'.cell? ⟨w.heap.size + 1, 3, none⟩ = some (vb)) (first | exact ⟨p0, p1, p2, p3, q0, q1, q2, q3⟩ | exact keep8 hb3 (by assumption) | exact keep8 hb4 (by assumption) | exact keep8 hb5 (by assumption)) ((first | (go_at_call 9; (with_reducible refine (HT.out sx _ D2).mono ?_); rintro e w3 ⟨g1, cap1, rfl, hS1, hb3⟩) | (go_at_call 9; (with_reducible refine (HT2.out sy _ (D2.trans (hb3.mono D2.size))).mono ?_); rintro e w4 ⟨g2, cap2, rfl, hS2, hb4⟩) | (go_at_call 16; (with_reducible refine (specCompareVersion_any a b c a' b' c' _ _ x y _ (RdS.of_strs (hS1.below hb4)) (RdS.of_strs hS2) HSx.out HSy.out).mono ?_); rintro e w5 ⟨rfl, hb5⟩)))
      have hA5 := keepB (keepB (keepB (W := w2.drew) hA2 hb3) hb4) hb5
      have hB5 := keepB (keepB (keepB (W := w2.drew) hB2 hb3) hb4) hb5
      have B5 : Below w.heap.size w w5 := by
        have h3 := D2.trans (hb3.mono D2.size)
        have h4 := h3.trans (hb4.mono h3.size)
        exact h4.trans (hb5.mono h4.size)
      clear hA2 hB2 p0 p1 p2 p3 q0 q1 q2 q3 hS1 hS2 hb3 hb4 hb5 D2 B2
      obtain ⟨p0, p1, p2, p3⟩ := cells4 hA5
      obtain ⟨q0, q1, q2, q3⟩ := cells4 hB5
      have HCI := Lib.hid (fun (W : World) (u u' : Value) (h : RdS W u x) (h' : RdS W u' y) => implCompareVersion_any a b c a' b' c' u u' x y W h h' HSx.out HSy.out)
      obtain ⟨v, HVV⟩ : ∃ v, Hid (cmpVer a b c x a' b' c' y = v) := ⟨_, Lib.hid rfl⟩
      rw [HVV.out]
      go_wp2_with fail
      refine (HT.out sx _ B5).mono ?_
      rintro e w6 ⟨g3, cap3, rfl, hS3, hb6⟩
      have hA6 := keepA (keepB hA5 hb6) (.cells #[.int .i64 a, .int .i64 b, .int .i64 c, .slice (some ⟨g3, 0, none⟩) x.length cap3] 27)
      have hB6 := keepA (keepB hB5 hb6) (.cells #[.int .i64 a, .int .i64 b, .int .i64 c, .slice (some ⟨g3, 0, none⟩) x.length cap3] 27)
      have hX6 := heap_alloc_new w6 (.cells #[.int .i64 a, .int .i64 b, .int .i64 c, .slice (some ⟨g3, 0, none⟩) x.length cap3] 27)
      have hS6 := hS3.alloc (.cells #[.int .i64 a, .int .i64 b, .int .i64 c, .slice (some ⟨g3, 0, none⟩) x.length cap3] 27)
      have B6 := (B5.trans (hb6.mono B5.size)).alloc (Nat.le_trans B5.size hb6.size) (.cells #[.int .i64 a, .int .i64 b, .int .i64 c, .slice (some ⟨g3, 0, none⟩) x.length cap3] 27)
      obtain ⟨q0', q1', q2', q3'⟩ := cells4 hB6
      clear hA5 hB5 p0 p1 p2 p3 q0 q1 q2 q3
      go_wp2_with fail
      refine (HT2.out sy _ B6).mono ?_
      rintro e w7 ⟨g4, cap4, rfl, hS4, hb7⟩
      have hA7 := keepA (keepB hA6 hb7) (.cells #[.int .i64 a', .int .i64 b', .int .i64 c', .slice (some ⟨g4, 0, none⟩) y.length cap4] 27)
      have hB7 := keepA (keepB hB6 hb7) (.cells #[.int .i64 a', .int .i64 b', .int .i64 c', .slice (some ⟨g4, 0, none⟩) y.length cap4] 27)
      have hX7 := keepA (keepB hX6 hb7) (.cells #[.int .i64 a', .int .i64 b', .int .i64 c', .slice (some ⟨g4, 0, none⟩) y.length cap4] 27)
      have hY7 := heap_alloc_new w7 (.cells #[.int .i64 a', .int .i64 b', .int .i64 c', .slice (some ⟨g4, 0, none⟩) y.length cap4] 27)
      have hS7 := (hS6.below hb7).alloc (.cells #[.int .i64 a', .int .i64 b', .int .i64 c', .slice (some ⟨g4, 0, none⟩) y.length cap4] 27)
      have hT7 := hS4.alloc (.cells #[.int .i64 a', .int .i64 b', .int .i64 c', .slice (some ⟨g4, 0, none⟩) y.length cap4] 27)
      have B7 := (B6.trans (hb7.mono B6.size)).alloc (Nat.le_trans B6.size hb7.size) (.cells #[.int .i64 a', .int .i64 b', .int .i64 c', .slice (some ⟨g4, 0, none⟩) y.length cap4] 27)
      have hl : w6.heap.size < w7.heap.size := by have := hb7.size; simp at this; omega
      obtain ⟨r0, r1, r2, r3⟩ := cells4 hX7
      obtain ⟨s0, s1, s2, s3⟩ := cells4 hY7
      clear hA6 hB6 q0' q1' q2' q3' hX6 hS6 hb6 hS3 hb7 hS4 B5 B6
      have qv : (v != v) = false := int_bne_false rfl
      go_wp2_with fail
      refine (HCI.out _ _ _ (RdS.of_strs hS7) (RdS.of_strs hT7)).mono ?_
      rw [HVV.out]
      rintro e w8 ⟨rfl, hb8⟩
      have hA8 := keepB hA7 hb8
      have hB8 := keepB hB7 hb8
      have hX8 := keepB hX7 hb8
      have hY8 := keepB hY7 hb8
      have hS8 := hS7.below hb8
      have hT8 := hT7.below hb8
      have B8 := B7.trans (hb8.mono B7.size)
      clear hA7 hB7 hX7 hY7 hS7 hT7 r0 r1 r2 r3 s0 s1 s2 s3 hb8 B7
      go_wp2_with fail
      obtain ⟨p0, p1, p2, p3⟩ := cells4 hA8
      obtain ⟨r0, r1, r2, r3⟩ := cells4 hX8
      have D8 := B8.trans (below_drew _ _)
      go_region_held3 (fun W' => W'.cell? ⟨w6.heap.size, 0, none⟩ = some (.int .i64 a) ∧ W'.cell? ⟨w6.heap.size, 1, none⟩ = some (.int .i64 b) ∧ W'.cell? ⟨w6.heap.size, 2, none⟩ = some (.int .i64 c) ∧ W'.cell? ⟨w6.heap.size, 3, none⟩ = some (.slice (some ⟨g3, 0, none⟩) x.length cap3) ∧ W'.cell? ⟨w.heap.size, 0, none⟩ = some (.int .i64 a) ∧ W'.cell? ⟨w.heap.size, 1, none⟩ = some (.int .i64 b) ∧ W'.cell? ⟨w.heap.size, 2, none⟩ = some (.int .i64 c) ∧ W'.cell? ⟨w.heap.size, 3, none⟩ = some (va)) (first | exact ⟨r0, r1, r2, r3, p0, p1, p2, p3⟩ | exact keep8 hb9 (by assumption) | exact keep8 hb10 (by assumption)) ((first | (go_at_call 9; (with_reducible refine (HT.out sx _ D8).mono ?_); rintro e w9 ⟨g5, cap5, rfl, hS9, hb9⟩) | (go_at_call 11; (with_reducible refine (eqVersion_same a b c _ _ x _ (RdS.of_strs ((hS8.drew).below hb9)) (RdS.of_strs hS9) (by omega)).mono ?_); rintro e w10 ⟨rfl, hb10⟩)))
      have hB10 := keepB (keepB (W := w8.drew) hB8 hb9) hb10
      have hY10 := keepB (keepB (W := w8.drew) hY8 hb9) hb10
      have hT10 := ((hT8.drew).below hb9).below hb10
      have B10 : Below w.heap.size w w10 := by
        have h9 := D8.trans (hb9.mono D8.size)
        exact h9.trans (hb10.mono h9.size)
      clear hA8 hB8 hX8 hY8 hS8 hT8 r0 r1 r2 r3 p0 p1 p2 p3 hb9 hb10 D8 B8
      go_wp2_with fail
      obtain ⟨p0, p1, p2, p3⟩ := cells4 hB10
      obtain ⟨r0, r1, r2, r3⟩ := cells4 hY10
      have D10 := B10.trans (below_drew _ _)
      go_region_held3 (fun W' => W'.cell? ⟨w7.heap.size, 0, none⟩ = some (.int .i64 a') ∧ W'.cell? ⟨w7.heap.size, 1, none⟩ = some (.int .i64 b') ∧ W'.cell? ⟨w7.heap.size, 2, none⟩ = some (.int .i64 c') ∧ W'.cell? ⟨w7.heap.size, 3, none⟩ = some (.slice (some ⟨g4, 0, none⟩) y.length cap4) ∧ W'.cell? ⟨w.heap.size + 1, 0, none⟩ = some (.int .i64 a') ∧ W'.cell? ⟨w.heap.size + 1, 1, none⟩ = some (.int .i64 b') ∧ W'.cell? ⟨w.heap.size + 1, 2, none⟩ = some (.int .i64 c') ∧ W'.cell? ⟨w.heap.size + 1, 3, none⟩ = some (vb)) (first | exact ⟨r0, r1, r2, r3, p0, p1, p2, p3⟩ | exact keep8 hb11 (by assumption) | exact keep8 hb12 (by assumption)) ((first | (go_at_call 9; (with_reducible refine (HT2.out sy _ D10).mono ?_); rintro e w11 ⟨g6, cap6, rfl, hS11, hb11⟩) | (go_at_call 11; (with_reducible refine (eqVersion_same a' b' c' _ _ y _ (RdS.of_strs ((hT10.drew).below hb11)) (RdS.of_strs hS11) (by omega)).mono ?_); rintro e w12 ⟨rfl, hb12⟩)))
      have h11 := D10.trans (hb11.mono D10.size)
      have B12 := h11.trans (hb12.mono h11.size)
      go_wp2_with fail
      go_ret
      exact ⟨rfl, B12⟩
end Go.Proofs.Ytgonhllglgmgfaa
