/-
  The walk of the law FnExactNext.
-/
import Derived.Test.YtldfkdkppgammaaNextI
import Derived.Test.YtldfkdkppgammaaMarkV
import Derived.Test.YtldfkdkppgammaaBox
import Derived.Deep.RegionHeld3
namespace Go.Proofs.Ytldfkdkppgammaa
open Go.RowKit

theorem nextL_len (a b c p : Int) (ls : List (List UInt8)) : (nextL a b c ls p).length ≤ ls.length := by unfold nextL; split <;> simp

set_option maxRecDepth 100000 in
set_option maxHeartbeats 8000000 in
theorem exNext (a b c : Int) (va : Value) (x : List (List UInt8)) (p : Int) (w : World) (hr : RdS w va x) (hn : x.length ≤ maxLen) (hm : ∀ l ∈ x, l.length ≤ maxLen) (_wp : (Lit.int .i64 p).wf = true) :
    Calls Try.prog 8 #[.agg #[.int .i64 a, .int .i64 b, .int .i64 c, va], .int .i64 p] w fun e w' => e = .returned (.bool true) ∧ Below w.heap.size w w' := by
  have HZ := Lib.hid (fun (W : World) (h : Below w.heap.size w W) => szVersion_any a b c va x 1048576 W (hr.below h) (by omega) (by omega) hn hm)
  have HT := Lib.hid (fun (h : x.length ≤ 1048576) (W : World) (hb : Below w.heap.size w W) => toVersion_any a b c va x W (hr.below hb) h)
  obtain ⟨z, HX⟩ : ∃ z, Hid (szI 1048576 x = z) := ⟨_, Lib.hid rfl⟩
  have B0 : Below w.heap.size w (w.alloc (.cells #[.int .i64 a, .int .i64 b, .int .i64 c, va] 45)) := (Below.refl _ _).alloc (Nat.le_refl _) _
  have hA0 := heap_alloc_new w (.cells #[.int .i64 a, .int .i64 b, .int .i64 c, va] 45)
  clear hr hn hm
  by_cases hz : z < 0
  · go_enter Try.func8, Try.ntmps8
    go_wp2_with fail
    refine (HZ.out _ B0).mono ?_
    rw [HX.out]
    rintro e w1 ⟨rfl, hb1⟩
    have B1 := B0.trans (hb1.mono B0.size)
    go_wp2_with fail
    go_ret
    exact ⟨rfl, B1⟩
  · have HS := Lib.hid (szI_good (ls := x) (by have := HX.out; omega))
    have sx := HS.out.1
    obtain ⟨⟨n1, n2, n3⟩, HN⟩ : ∃ n, Hid (nextN a b c x p = n) := ⟨_, Lib.hid rfl⟩
    obtain ⟨nl, HL⟩ : ∃ n, Hid (nextL a b c x p = n) := ⟨_, Lib.hid rfl⟩
    have hnl : nl.length ≤ 1048576 := by have := nextL_len a b c p x; rw [HL.out] at this; omega
    have HSN := Lib.hid (fun (W : World) (u : Value) (h : RdS W u x) => specNext_any a b c p u x W h HS.out n1 n2 n3 nl HN.out HL.out)
    have HIN := Lib.hid (fun (W : World) (u : Value) (h : RdS W u x) => implNext_any a b c p u x W h HS.out n1 n2 n3 nl HN.out HL.out)
    clear HN HL HS
    go_enter Try.func8, Try.ntmps8
    go_wp2_with fail
    refine (HZ.out _ B0).mono ?_
    rw [HX.out]
    rintro e w1 ⟨rfl, hb1⟩
    have B1 := B0.trans (hb1.mono B0.size)
    have hA1 := keepB hA0 hb1
    clear hA0 hb1 B0 HZ
    obtain ⟨p0, p1, p2, p3⟩ := cells4 hA1
    go_wp2_with fail
    refine (HT.out sx _ B1).mono ?_
    rintro e w2 ⟨g0, c0, rfl, hS0, hb2⟩
    have B2 := B1.trans (hb2.mono B1.size)
    have hA2 := keepB hA1 hb2
    clear hA1 p0 p1 p2 p3 hb2 B1
    go_wp2_with fail
    refine (HSN.out _ _ (RdS.of_strs hS0)).mono ?_
    rintro e w3 ⟨uw, rfl, hSw3, hb3⟩
    obtain ⟨Aw, cw, rfl⟩ := hSw3.slice
    have B3 := (B2.trans (hb3.mono B2.size)).alloc (Nat.le_trans B2.size hb3.size) (.cells #[.int .i64 n1, .int .i64 n2, .int .i64 n3, .slice Aw nl.length cw] 47)
    have hA3 := keepA (keepB hA2 hb3) (.cells #[.int .i64 n1, .int .i64 n2, .int .i64 n3, .slice Aw nl.length cw] 47)
    have hW3 := heap_alloc_new w3 (.cells #[.int .i64 n1, .int .i64 n2, .int .i64 n3, .slice Aw nl.length cw] 47)
    have hSw := hSw3.alloc (.cells #[.int .i64 n1, .int .i64 n2, .int .i64 n3, .slice Aw nl.length cw] 47)
    have hwlt := hSw.block_lt
    clear hA2 hS0 hb3 B2 hSw3
    obtain ⟨p0, p1, p2, p3⟩ := cells4 hA3
    go_wp2_with fail
    refine (HT.out sx _ B3).mono ?_
    rintro e w4 ⟨gx, cx, rfl, hSx4, hb4⟩
    have B4 := (B3.trans (hb4.mono B3.size)).alloc (Nat.le_trans B3.size hb4.size) (.cells #[.int .i64 a, .int .i64 b, .int .i64 c, .slice (some ⟨gx, 0, none⟩) x.length cx] 47)
    have hA4 := keepA (keepB hA3 hb4) (.cells #[.int .i64 a, .int .i64 b, .int .i64 c, .slice (some ⟨gx, 0, none⟩) x.length cx] 47)
    have hW4 := keepA (keepB hW3 hb4) (.cells #[.int .i64 a, .int .i64 b, .int .i64 c, .slice (some ⟨gx, 0, none⟩) x.length cx] 47)
    have hX4 := heap_alloc_new w4 (.cells #[.int .i64 a, .int .i64 b, .int .i64 c, .slice (some ⟨gx, 0, none⟩) x.length cx] 47)
    have hSx := hSx4.alloc (.cells #[.int .i64 a, .int .i64 b, .int .i64 c, .slice (some ⟨gx, 0, none⟩) x.length cx] 47)
    have hSw4 := (hSw.below hb4).alloc (.cells #[.int .i64 a, .int .i64 b, .int .i64 c, .slice (some ⟨gx, 0, none⟩) x.length cx] 47)
    have gxlo : w3.heap.size + 1 ≤ gx := by have := hSx4.lo; simpa using this
    have gxhi : gx < w4.heap.size := hSx4.block_lt gx rfl
    have l34 : w3.heap.size + 1 ≤ w4.heap.size := by have := hb4.size; simpa using this
    have l03 := lt_of_heap hA3
    simp only [World.size_alloc] at l03 hwlt
    clear hA3 hW3 hSw hSx4 hb4 B3 p0 p1 p2 p3
    obtain ⟨s0, s1, s2, s3⟩ := cells4 hX4
    go_wp2_with fail
    refine (HIN.out _ _ (RdS.of_strs hSx)).mono ?_
    rintro e w5 ⟨ug, rfl, hSg5, hb5⟩
    obtain ⟨Ag, cg, rfl⟩ := hSg5.slice
    have B5 := (B4.trans (hb5.mono B4.size)).alloc (Nat.le_trans B4.size hb5.size) (.cells #[.int .i64 n1, .int .i64 n2, .int .i64 n3, .slice Ag nl.length cg] 47)
    have hA5 := keepA (keepB hA4 hb5) (.cells #[.int .i64 n1, .int .i64 n2, .int .i64 n3, .slice Ag nl.length cg] 47)
    have hW5 := keepA (keepB hW4 hb5) (.cells #[.int .i64 n1, .int .i64 n2, .int .i64 n3, .slice Ag nl.length cg] 47)
    have hX5 := keepA (keepB hX4 hb5) (.cells #[.int .i64 n1, .int .i64 n2, .int .i64 n3, .slice Ag nl.length cg] 47)
    have hG5 := heap_alloc_new w5 (.cells #[.int .i64 n1, .int .i64 n2, .int .i64 n3, .slice Ag nl.length cg] 47)
    have hSg := hSg5.alloc (.cells #[.int .i64 n1, .int .i64 n2, .int .i64 n3, .slice Ag nl.length cg] 47)
    have hSx5 := (hSx.below hb5).alloc (.cells #[.int .i64 n1, .int .i64 n2, .int .i64 n3, .slice Ag nl.length cg] 47)
    have hSw5 := (hSw4.below hb5).alloc (.cells #[.int .i64 n1, .int .i64 n2, .int .i64 n3, .slice Ag nl.length cg] 47)
    have hglo := hSg5.owned
    have hglt := hSg5.block_lt
    have l45 : w4.heap.size + 1 ≤ w5.heap.size := by have := hb5.size; simpa using this
    simp only [World.size_alloc] at hglo
    clear hA4 hW4 hX4 hSx hSw4 hSg5 hb5 B4 s0 s1 s2 s3
    obtain ⟨p0, p1, p2, p3⟩ := cells4 hG5
    obtain ⟨q0, q1, q2, q3⟩ := cells4 hW5
    go_wp2_with fail
    refine (eqVersion_same n1 n2 n3 _ _ nl _ (RdS.of_strs hSg) (RdS.of_strs hSw5) (by omega)).mono ?_
    rintro e w6 ⟨rfl, hb6⟩
    have B6 := B5.trans (hb6.mono B5.size)
    have hA6 := keepB hA5 hb6
    have hW6 := keepB hW5 hb6
    have hX6 := keepB hX5 hb6
    have hG6 := keepB hG5 hb6
    have hSg6 := hSg.below hb6
    have hSx6 := hSx5.below hb6
    have hSw6 := hSw5.below hb6
    clear hA5 hW5 hX5 hG5 hSg hSx5 hSw5 hb6 B5 p0 p1 p2 p3 q0 q1 q2 q3
    go_wp2_with fail
    obtain ⟨p0, p1, p2, p3⟩ := cells4 hA6
    obtain ⟨r0, r1, r2, r3⟩ := cells4 hX6
    have D6 := B6.trans (below_drew _ _)
    go_region_held3 (fun W' => W'.cell? ⟨w4.heap.size, 0, none⟩ = some (.int .i64 a) ∧ W'.cell? ⟨w4.heap.size, 1, none⟩ = some (.int .i64 b) ∧ W'.cell? ⟨w4.heap.size, 2, none⟩ = some (.int .i64 c) ∧ W'.cell? ⟨w4.heap.size, 3, none⟩ = some (.slice (some ⟨gx, 0, none⟩) x.length cx) ∧ W'.cell? ⟨w.heap.size, 0, none⟩ = some (.int .i64 a) ∧ W'.cell? ⟨w.heap.size, 1, none⟩ = some (.int .i64 b) ∧ W'.cell? ⟨w.heap.size, 2, none⟩ = some (.int .i64 c) ∧ W'.cell? ⟨w.heap.size, 3, none⟩ = some (va)) (first | exact ⟨r0, r1, r2, r3, p0, p1, p2, p3⟩ | exact keep8 hb7 (by assumption) | exact keep8 hb8 (by assumption)) ((first | (go_at_call 29; (with_reducible refine (HT.out sx _ D6).mono ?_); rintro e w7 ⟨g7, c7, rfl, hS7, hb7⟩) | (go_at_call 31; (with_reducible refine (eqVersion_same a b c _ _ x _ (RdS.of_strs ((hSx6.drew).below hb7)) (RdS.of_strs hS7) (by omega)).mono ?_); rintro e w8 ⟨rfl, hb8⟩)))
    have hA8 := keepB (keepB (W := w6.drew) hA6 hb7) hb8
    have hW8 := keepB (keepB (W := w6.drew) hW6 hb7) hb8
    have hX8 := keepB (keepB (W := w6.drew) hX6 hb7) hb8
    have hG8 := keepB (keepB (W := w6.drew) hG6 hb7) hb8
    have hSg8 := ((hSg6.drew).below hb7).below hb8
    have hSx8 := ((hSx6.drew).below hb7).below hb8
    have hSw8 := ((hSw6.drew).below hb7).below hb8
    have B8 : Below w.heap.size w w8 := by
      have h7 := D6.trans (hb7.mono D6.size)
      exact h7.trans (hb8.mono h7.size)
    clear hA6 hW6 hX6 hG6 hSg6 hSx6 hSw6 hb7 hb8 hS7 D6 B6 p0 p1 p2 p3 r0 r1 r2 r3
    obtain ⟨r0, r1, r2, r3⟩ := cells4 hX8
    go_wp2_with fail
    refine (markVersion_gr a b c _ _ _ x hSx8 (by omega)).mono ?_
    rintro e w9 ⟨rfl, _, hg9⟩
    have hA9 := gr_heap hg9 hA8 (by simp [Value.ownBlock]; omega)
    have hW9 := gr_heap hg9 hW8 (by simp [Value.ownBlock]; omega)
    have hG9 := gr_heap hg9 hG8 (by simp [Value.ownBlock]; omega)
    have hSg9 := hSg8.grown hg9 (fun g h => by have := hglo g h; simp [Value.ownBlock]; omega)
    have hSw9 := hSw8.grown hg9 (fun g h => by have := hwlt g h; simp [Value.ownBlock]; omega)
    have B9 : Below w.heap.size w w9 := gr_belowN B8 hg9 B8.size (fun g h => by simp [Value.ownBlock] at h; omega)
    clear hA8 hW8 hX8 hG8 hSg8 hSx8 hSw8 hg9 B8 r0 r1 r2 r3
    obtain ⟨p0, p1, p2, p3⟩ := cells4 hG9
    obtain ⟨q0, q1, q2, q3⟩ := cells4 hW9
    go_wp2_with fail
    refine (eqVersion_same n1 n2 n3 _ _ nl _ (RdS.of_strs hSg9) (RdS.of_strs hSw9) (by omega)).mono ?_
    rintro e w10 ⟨rfl, hb10⟩
    have hA10 := keepB hA9 hb10
    have hW10 := keepB hW9 hb10
    have hG10 := keepB hG9 hb10
    have hSg10 := hSg9.below hb10
    have hSw10 := hSw9.below hb10
    have B10 := B9.trans (hb10.mono B9.size)
    clear hA9 hW9 hG9 hSg9 hSw9 hb10 B9 p0 p1 p2 p3 q0 q1 q2 q3
    obtain ⟨p0, p1, p2, p3⟩ := cells4 hG10
    go_wp2_with fail
    refine (markVersion_gr n1 n2 n3 _ _ _ nl hSg10 (by omega)).mono ?_
    rintro e w11 ⟨rfl, hSm11, hg11⟩
    have hne11 : ∀ B, B < w4.heap.size + 1 → some B ≠ (Value.slice Ag nl.length cg).ownBlock := fun B h e => by have := hglo B e.symm; omega
    have hne5 : some w5.heap.size ≠ (Value.slice Ag nl.length cg).ownBlock := fun e => by have := hglt _ e.symm; omega
    have hA11 := gr_heap hg11 hA10 (hne11 _ (by omega))
    have hW11 := gr_heap hg11 hW10 (hne11 _ (by omega))
    have hG11 := gr_heap hg11 hG10 hne5
    have hSw11 := hSw10.grown hg11 (fun g h => hne11 g (by have := hwlt g h; omega))
    have B11 : Below w.heap.size w w11 := gr_belowN B10 hg11 B10.size (fun g h => by have := hglo g h; omega)
    clear hA10 hW10 hG10 hSg10 hSw10 hg11 B10 p0 p1 p2 p3
    obtain ⟨p0, p1, p2, p3⟩ := cells4 hG11
    go_wp2_with fail
    refine (heldVersion_any n1 n2 n3 _ _ _ nl hSm11 (by omega)).mono ?_
    rintro e w12 ⟨rfl, hb12⟩
    have hA12 := keepB hA11 hb12
    have hW12 := keepB hW11 hb12
    have hG12 := keepB hG11 hb12
    have hSm12 := hSm11.below hb12
    have hSw12 := hSw11.below hb12
    have B12 := B11.trans (hb12.mono B11.size)
    clear hA11 hW11 hG11 hSm11 hSw11 hb12 B11 p0 p1 p2 p3
    obtain ⟨p0, p1, p2, p3⟩ := cells4 hA12
    go_wp2_with fail
    refine (HT.out sx _ B12).mono ?_
    rintro e w13 ⟨g13, c13, rfl, hS13, hb13⟩
    go_wp2_with fail
    refine (HIN.out _ _ (RdS.of_strs hS13)).mono ?_
    rintro e w14 ⟨uh, rfl, hSh14, hb14⟩
    obtain ⟨Ah, ch, rfl⟩ := hSh14.slice
    have hb1314 := hb13.trans (hb14.mono hb13.size)
    have B14 := (B12.trans (hb1314.mono B12.size)).alloc (Nat.le_trans B12.size hb1314.size) (.cells #[.int .i64 n1, .int .i64 n2, .int .i64 n3, .slice Ah nl.length ch] 47)
    have hW14 := keepA (keepB hW12 hb1314) (.cells #[.int .i64 n1, .int .i64 n2, .int .i64 n3, .slice Ah nl.length ch] 47)
    have hG14 := keepA (keepB hG12 hb1314) (.cells #[.int .i64 n1, .int .i64 n2, .int .i64 n3, .slice Ah nl.length ch] 47)
    have hH14 := heap_alloc_new w14 (.cells #[.int .i64 n1, .int .i64 n2, .int .i64 n3, .slice Ah nl.length ch] 47)
    have hSm14 := (hSm12.below hb1314).alloc (.cells #[.int .i64 n1, .int .i64 n2, .int .i64 n3, .slice Ah nl.length ch] 47)
    have hSw14 := (hSw12.below hb1314).alloc (.cells #[.int .i64 n1, .int .i64 n2, .int .i64 n3, .slice Ah nl.length ch] 47)
    have hSh := hSh14.alloc (.cells #[.int .i64 n1, .int .i64 n2, .int .i64 n3, .slice Ah nl.length ch] 47)
    clear hA12 hW12 hG12 hSm12 hSw12 hb13 hb14 hb1314 B12 p0 p1 p2 p3 hSh14 hS13
    obtain ⟨p0, p1, p2, p3⟩ := cells4 hH14
    obtain ⟨q0, q1, q2, q3⟩ := cells4 hW14
    go_wp2_with fail
    refine (eqVersion_same n1 n2 n3 _ _ nl _ (RdS.of_strs hSh) (RdS.of_strs hSw14) (by omega)).mono ?_
    rintro e w15 ⟨rfl, hb15⟩
    have hG15 := keepB hG14 hb15
    have hSm15 := hSm14.below hb15
    have B15 := B14.trans (hb15.mono B14.size)
    clear hW14 hG14 hH14 hSm14 hSw14 hSh hb15 B14 p0 p1 p2 p3 q0 q1 q2 q3
    obtain ⟨p0, p1, p2, p3⟩ := cells4 hG15
    go_wp2_with fail
    refine (heldVersion_any n1 n2 n3 _ _ _ nl hSm15 (by omega)).mono ?_
    rintro e w16 ⟨rfl, hb16⟩
    have B16 := B15.trans (hb16.mono B15.size)
    clear p0 p1 p2 p3
    go_wp2_with fail
    go_ret
    exact ⟨rfl, B16⟩
end Go.Proofs.Ytldfkdkppgammaa
