/-
  impl.Next: the next version.
-/
import Derived.Test.YtldfkdkppgammaaNextS
import Derived.Test.YtldfkdkppgammaaVerI
import Derived.Test.YtldfkdkppgammaaCopT
import Derived.RegionTactic
namespace Go.Proofs.Ytldfkdkppgammaa
open Go.RowKit

theorem three_a (w : World) (o1 o2 o3 : Obj) : (((w.alloc o1).alloc o2).alloc o3).heap[w.heap.size]? = some o1 := keepA (keepA (heap_alloc_new w o1) o2) o3
theorem three_r (w : World) (o1 o2 o3 : Obj) : (((w.alloc o1).alloc o2).alloc o3).heap[w.heap.size + 1]? = some o2 := keepA (heap_new (by simp) o2) o3
theorem three_n (w : World) (o1 o2 o3 : Obj) : (((w.alloc o1).alloc o2).alloc o3).heap[w.heap.size + 1 + 1]? = some o3 := heap_new (by simp) o3
theorem three_b (w : World) (o1 o2 o3 : Obj) : Below w.heap.size w (((w.alloc o1).alloc o2).alloc o3) := (((Below.refl _ _).alloc (Nat.le_refl _) _).alloc (by simp) _).alloc (by simp; omega) _

set_option maxRecDepth 100000 in
set_option maxHeartbeats 8000000 in
theorem implNext_any (a b c p : Int) (v : Value) (ls : List (List UInt8)) (w : World) (hr : RdS w v ls) (hs : Sm ls) (n1 n2 n3 : Int) (nl : List (List UInt8)) (hN : nextN a b c ls p = (n1, n2, n3)) (hL : nextL a b c ls p = nl) :
    Calls Try.prog 30 #[.agg #[.int .i64 a, .int .i64 b, .int .i64 c, v], .int .i64 p] w (NextIs w n1 n2 n3 nl) := by
  have HV := Lib.hid (fun (W : World) (h : Below w.heap.size w W) => implVersionOk_any a b c v ls W (hr.below h) hs)
  have HCV := Lib.hid (fun (W : World) (h : Below w.heap.size w W) => copyVersion_any a b c v ls W (hr.below h) hs)
  have HVN := Lib.hid (fun (x y z : Int) (W : World) => implVersionOk_any x y z (.slice none 0 0) [] W (rdS_nil W) sm_nil)
  have hl := hs.1
  have HN := Lib.hid hN
  have HL := Lib.hid hL
  obtain ⟨A, cap, rfl, hr0⟩ := hr
  clear hs hN hL hr0
  obtain ⟨ok, HO⟩ : ∃ ok, Hid (verOk a b c ls = ok) := ⟨_, Lib.hid rfl⟩
  obtain ⟨ip, HI⟩ : ∃ x, Hid (inI p 0 2 = x) := ⟨_, Lib.hid rfl⟩
  cases ip
  · obtain ⟨rfl, rfl, rfl, rfl⟩ := next_leaf_same HN.out HL.out (nextOk_out HI.out)
    have hp := HI.out
    unfold inI at hp
    have z0 : (p == 0) = false := int_beq_false (by rintro rfl; simp at hp)
    have z1 : (p == 1) = false := int_beq_false (by rintro rfl; simp at hp)
    have z2 : (p == 2) = false := int_beq_false (by rintro rfl; simp at hp)
    clear hp
    have a4 := three_a w (.cells #[.int .i64 a, .int .i64 b, .int .i64 c, .slice A ls.length cap] 47) (.cells #[.int .i64 0, .int .i64 0, .int .i64 0, .slice none 0 0] 47) (.cells #[.int .i64 a, .int .i64 0, .int .i64 0, .slice none 0 0] 47)
    have r4 := three_r w (.cells #[.int .i64 a, .int .i64 b, .int .i64 c, .slice A ls.length cap] 47) (.cells #[.int .i64 0, .int .i64 0, .int .i64 0, .slice none 0 0] 47) (.cells #[.int .i64 a, .int .i64 0, .int .i64 0, .slice none 0 0] 47)
    have B4 := three_b w (.cells #[.int .i64 a, .int .i64 b, .int .i64 c, .slice A ls.length cap] 47) (.cells #[.int .i64 0, .int .i64 0, .int .i64 0, .slice none 0 0] 47) (.cells #[.int .i64 a, .int .i64 0, .int .i64 0, .slice none 0 0] 47)
    go_enter Try.func30, Try.ntmps30
    obtain ⟨p0, p1, p2, p3⟩ := cells4 a4
    go_wp2_with fail
    refine (HCV.out _ B4).mono ?_
    rintro e w9 ⟨u, rfl, hS9, hb9⟩
    obtain ⟨A', cap', rfl⟩ := hS9.slice
    have r9 := keepB r4 hb9
    have B9 := B4.trans (hb9.mono B4.size)
    have lr := lt_of_heap r4
    clear p0 p1 p2 p3
    have hlo := hS9.owned
    obtain ⟨q0, q1, q2, q3⟩ := cells4 r9
    have f0 := frozen4 r9 0
    have f1 := frozen4 r9 1
    have f2 := frozen4 r9 2
    have f3 := frozen4 r9 3
    go_wp2_with fail
    refine bodyPost_ret (v := .agg #[.int .i64 a, .int .i64 b, .int .i64 c, .slice A' ls.length cap']) ?_ rfl ⟨_, rfl, strs_result (hS9.weaken B4.size) (fun g h => by have := hlo g h; omega) _ _ _ _, below_result B9 (by omega) _ _ _ _⟩
    simp [results, Try.results30, go_sem, q0, q1, q2, q3]
  · cases ok
    · rcases inI_ways HI.out with rfl | rfl | rfl
      · obtain ⟨rfl, rfl, rfl, rfl⟩ := next_leaf_same HN.out HL.out (nextOk_inv HO.out)
        go_enter Try.func30, Try.ntmps30
        go_wp2_with fail
        refine (HV.out _ (by first | exact three_b w _ _ _ | exact (three_b w _ _ _).trans (below_drew _ _))).mono ?_
        rw [HO.out]
        rintro e w4 ⟨rfl, hb4⟩
        have a4 := keepB (by exact three_a w _ _ _) hb4
        have r4 := keepB (by exact three_r w _ _ _) hb4
        have o4 := keepB (by exact three_n w _ _ _) hb4
        have B4 : Below w.heap.size w w4 := (show Below w.heap.size w _ from by first | exact three_b w _ _ _ | exact (three_b w _ _ _).trans (below_drew _ _)).trans (hb4.mono (by simp; omega))
        obtain ⟨p0, p1, p2, p3⟩ := cells4 a4
        go_wp2_with fail
        refine (HCV.out _ B4).mono ?_
        rintro e w9 ⟨u, rfl, hS9, hb9⟩
        obtain ⟨A', cap', rfl⟩ := hS9.slice
        have r9 := keepB r4 hb9
        have B9 := B4.trans (hb9.mono B4.size)
        have lr := lt_of_heap r4
        clear p0 p1 p2 p3
        have hlo := hS9.owned
        obtain ⟨q0, q1, q2, q3⟩ := cells4 r9
        have f0 := frozen4 r9 0
        have f1 := frozen4 r9 1
        have f2 := frozen4 r9 2
        have f3 := frozen4 r9 3
        go_wp2_with fail
        refine bodyPost_ret (v := .agg #[.int .i64 a, .int .i64 b, .int .i64 c, .slice A' ls.length cap']) ?_ rfl ⟨_, rfl, strs_result (hS9.weaken B4.size) (fun g h => by have := hlo g h; omega) _ _ _ _, below_result B9 (by omega) _ _ _ _⟩
        simp [results, Try.results30, go_sem, q0, q1, q2, q3]
      · obtain ⟨rfl, rfl, rfl, rfl⟩ := next_leaf_same HN.out HL.out (nextOk_inv HO.out)
        go_enter Try.func30, Try.ntmps30
        go_wp2_with fail
        refine (HV.out _ (by first | exact three_b w _ _ _ | exact (three_b w _ _ _).trans (below_drew _ _))).mono ?_
        rw [HO.out]
        rintro e w4 ⟨rfl, hb4⟩
        have a4 := keepB (by exact three_a w _ _ _) hb4
        have r4 := keepB (by exact three_r w _ _ _) hb4
        have o4 := keepB (by exact three_n w _ _ _) hb4
        have B4 : Below w.heap.size w w4 := (show Below w.heap.size w _ from by first | exact three_b w _ _ _ | exact (three_b w _ _ _).trans (below_drew _ _)).trans (hb4.mono (by simp; omega))
        obtain ⟨p0, p1, p2, p3⟩ := cells4 a4
        go_wp2_with fail
        refine (HCV.out _ B4).mono ?_
        rintro e w9 ⟨u, rfl, hS9, hb9⟩
        obtain ⟨A', cap', rfl⟩ := hS9.slice
        have r9 := keepB r4 hb9
        have B9 := B4.trans (hb9.mono B4.size)
        have lr := lt_of_heap r4
        clear p0 p1 p2 p3
        have hlo := hS9.owned
        obtain ⟨q0, q1, q2, q3⟩ := cells4 r9
        have f0 := frozen4 r9 0
        have f1 := frozen4 r9 1
        have f2 := frozen4 r9 2
        have f3 := frozen4 r9 3
        go_wp2_with fail
        refine bodyPost_ret (v := .agg #[.int .i64 a, .int .i64 b, .int .i64 c, .slice A' ls.length cap']) ?_ rfl ⟨_, rfl, strs_result (hS9.weaken B4.size) (fun g h => by have := hlo g h; omega) _ _ _ _, below_result B9 (by omega) _ _ _ _⟩
        simp [results, Try.results30, go_sem, q0, q1, q2, q3]
      · obtain ⟨rfl, rfl, rfl, rfl⟩ := next_leaf_same HN.out HL.out (nextOk_inv HO.out)
        by_cases hl0 : ls.length = 0
        · have ql : ((ls.length : Int) == 0) = true := by simp [hl0]
          clear hl0
          go_enter Try.func30, Try.ntmps30
          go_wp2_with fail
          go_region
          all_goals go_wp2_with fail
          refine (HV.out _ (by first | exact three_b w _ _ _ | exact (three_b w _ _ _).trans (below_drew _ _))).mono ?_
          rw [HO.out]
          rintro e w4 ⟨rfl, hb4⟩
          have a4 := keepB (by exact three_a w _ _ _) hb4
          have r4 := keepB (by exact three_r w _ _ _) hb4
          have o4 := keepB (by exact three_n w _ _ _) hb4
          have B4 : Below w.heap.size w w4 := (show Below w.heap.size w _ from by first | exact three_b w _ _ _ | exact (three_b w _ _ _).trans (below_drew _ _)).trans (hb4.mono (by simp; omega))
          obtain ⟨p0, p1, p2, p3⟩ := cells4 a4
          go_wp2_with fail
          refine (HCV.out _ B4).mono ?_
          rintro e w9 ⟨u, rfl, hS9, hb9⟩
          obtain ⟨A', cap', rfl⟩ := hS9.slice
          have r9 := keepB r4 hb9
          have B9 := B4.trans (hb9.mono B4.size)
          have lr := lt_of_heap r4
          clear p0 p1 p2 p3
          have hlo := hS9.owned
          obtain ⟨q0, q1, q2, q3⟩ := cells4 r9
          have f0 := frozen4 r9 0
          have f1 := frozen4 r9 1
          have f2 := frozen4 r9 2
          have f3 := frozen4 r9 3
          go_wp2_with fail
          refine bodyPost_ret (v := .agg #[.int .i64 a, .int .i64 b, .int .i64 c, .slice A' ls.length cap']) ?_ rfl ⟨_, rfl, strs_result (hS9.weaken B4.size) (fun g h => by have := hlo g h; omega) _ _ _ _, below_result B9 (by omega) _ _ _ _⟩
          simp [results, Try.results30, go_sem, q0, q1, q2, q3]
        · have ql : ((ls.length : Int) == 0) = false := int_beq_false (by omega)
          go_enter Try.func30, Try.ntmps30
          go_wp2_with fail
          go_region
          all_goals go_wp2_with fail
          refine (HV.out _ (by first | exact three_b w _ _ _ | exact (three_b w _ _ _).trans (below_drew _ _))).mono ?_
          rw [HO.out]
          rintro e w4 ⟨rfl, hb4⟩
          have a4 := keepB (by exact three_a w _ _ _) hb4
          have r4 := keepB (by exact three_r w _ _ _) hb4
          have o4 := keepB (by exact three_n w _ _ _) hb4
          have B4 : Below w.heap.size w w4 := (show Below w.heap.size w _ from by first | exact three_b w _ _ _ | exact (three_b w _ _ _).trans (below_drew _ _)).trans (hb4.mono (by simp; omega))
          obtain ⟨p0, p1, p2, p3⟩ := cells4 a4
          go_wp2_with fail
          refine (HCV.out _ B4).mono ?_
          rintro e w9 ⟨u, rfl, hS9, hb9⟩
          obtain ⟨A', cap', rfl⟩ := hS9.slice
          have r9 := keepB r4 hb9
          have B9 := B4.trans (hb9.mono B4.size)
          have lr := lt_of_heap r4
          clear p0 p1 p2 p3
          have hlo := hS9.owned
          obtain ⟨q0, q1, q2, q3⟩ := cells4 r9
          have f0 := frozen4 r9 0
          have f1 := frozen4 r9 1
          have f2 := frozen4 r9 2
          have f3 := frozen4 r9 3
          go_wp2_with fail
          refine bodyPost_ret (v := .agg #[.int .i64 a, .int .i64 b, .int .i64 c, .slice A' ls.length cap']) ?_ rfl ⟨_, rfl, strs_result (hS9.weaken B4.size) (fun g h => by have := hlo g h; omega) _ _ _ _, below_result B9 (by omega) _ _ _ _⟩
          simp [results, Try.results30, go_sem, q0, q1, q2, q3]
    · have hbd := verOk_bd HO.out
      obtain ⟨⟨ba0, ba1⟩, ⟨bb0, bb1⟩, ⟨bc0, bc1⟩, _⟩ := hbd
      rcases inI_ways HI.out with rfl | rfl | rfl
      · have HXX : Hid (nxt a b c ls 0 = (a + 1, 0, 0)) := Lib.hid (by unfold nxt; rw [if_pos rfl])
        have HQ := Lib.hid (nextOk_of HO.out HI.out HXX.out)
        go_enter Try.func30, Try.ntmps30
        go_wp2_with fail
        refine (HV.out _ (by first | exact three_b w _ _ _ | exact (three_b w _ _ _).trans (below_drew _ _))).mono ?_
        rw [HO.out]
        rintro e w4 ⟨rfl, hb4⟩
        have a4 := keepB (by exact three_a w _ _ _) hb4
        have r4 := keepB (by exact three_r w _ _ _) hb4
        have o4 := keepB (by exact three_n w _ _ _) hb4
        have B4 : Below w.heap.size w w4 := (show Below w.heap.size w _ from by first | exact three_b w _ _ _ | exact (three_b w _ _ _).trans (below_drew _ _)).trans (hb4.mono (by simp; omega))
        obtain ⟨s0, s1, s2, s3⟩ := cells4 o4
        go_wp2_with fail
        refine (HVN.out _ _ _ _).mono ?_
        obtain ⟨ok2, HO2⟩ : ∃ ok, Hid (verOk (a + 1) (0) (0) [] = ok) := ⟨_, Lib.hid rfl⟩
        rw [HO2.out]
        rintro e w5 ⟨rfl, hb5⟩
        have a5 := keepB a4 hb5
        have r5 := keepB r4 hb5
        have o5 := keepB o4 hb5
        have B5 := B4.trans (hb5.mono B4.size)
        clear s0 s1 s2 s3 a4 r4 o4 B4
        cases ok2
        · obtain ⟨rfl, rfl, rfl, rfl⟩ := next_leaf_same HN.out HL.out (HQ.out.trans HO2.out)
          obtain ⟨p0, p1, p2, p3⟩ := cells4 a5
          go_wp2_with fail
          refine (HCV.out _ B5).mono ?_
          rintro e w9 ⟨u, rfl, hS9, hb9⟩
          obtain ⟨A', cap', rfl⟩ := hS9.slice
          have r9 := keepB r5 hb9
          have B9 := B5.trans (hb9.mono B5.size)
          have lr := lt_of_heap r5
          clear p0 p1 p2 p3
          have hlo := hS9.owned
          obtain ⟨q0, q1, q2, q3⟩ := cells4 r9
          have f0 := frozen4 r9 0
          have f1 := frozen4 r9 1
          have f2 := frozen4 r9 2
          have f3 := frozen4 r9 3
          go_wp2_with fail
          refine bodyPost_ret (v := .agg #[.int .i64 a, .int .i64 b, .int .i64 c, .slice A' ls.length cap']) ?_ rfl ⟨_, rfl, strs_result (hS9.weaken B5.size) (fun g h => by have := hlo g h; omega) _ _ _ _, below_result B9 (by omega) _ _ _ _⟩
          simp [results, Try.results30, go_sem, q0, q1, q2, q3]
        · obtain ⟨rfl, rfl, rfl, rfl⟩ := next_leaf_good HN.out HL.out HXX.out (HQ.out.trans HO2.out)
          obtain ⟨p0, p1, p2, p3⟩ := cells4 o5
          obtain ⟨q0, q1, q2, q3⟩ := cells4 r5
          have f0 := frozen4 r5 0
          have f1 := frozen4 r5 1
          have f2 := frozen4 r5 2
          have f3 := frozen4 r5 3
          go_wp2_with fail
          refine bodyPost_ret (v := .agg #[.int .i64 (a + 1), .int .i64 (0), .int .i64 (0), .slice none 0 0]) ?_ rfl ⟨_, rfl, Strs.nil _ _, below_result B5 (by omega) _ _ _ _⟩
          simp [results, Try.results30, go_sem, q0, q1, q2, q3]
      · have HXX : Hid (nxt a b c ls 1 = (a, b + 1, 0)) := Lib.hid (by unfold nxt; rw [if_neg (by decide), if_pos rfl])
        have HQ := Lib.hid (nextOk_of HO.out HI.out HXX.out)
        go_enter Try.func30, Try.ntmps30
        go_wp2_with fail
        refine (HV.out _ (by first | exact three_b w _ _ _ | exact (three_b w _ _ _).trans (below_drew _ _))).mono ?_
        rw [HO.out]
        rintro e w4 ⟨rfl, hb4⟩
        have a4 := keepB (by exact three_a w _ _ _) hb4
        have r4 := keepB (by exact three_r w _ _ _) hb4
        have o4 := keepB (by exact three_n w _ _ _) hb4
        have B4 : Below w.heap.size w w4 := (show Below w.heap.size w _ from by first | exact three_b w _ _ _ | exact (three_b w _ _ _).trans (below_drew _ _)).trans (hb4.mono (by simp; omega))
        obtain ⟨s0, s1, s2, s3⟩ := cells4 o4
        go_wp2_with fail
        refine (HVN.out _ _ _ _).mono ?_
        obtain ⟨ok2, HO2⟩ : ∃ ok, Hid (verOk (a) (b + 1) (0) [] = ok) := ⟨_, Lib.hid rfl⟩
        rw [HO2.out]
        rintro e w5 ⟨rfl, hb5⟩
        have a5 := keepB a4 hb5
        have r5 := keepB r4 hb5
        have o5 := keepB o4 hb5
        have B5 := B4.trans (hb5.mono B4.size)
        clear s0 s1 s2 s3 a4 r4 o4 B4
        cases ok2
        · obtain ⟨rfl, rfl, rfl, rfl⟩ := next_leaf_same HN.out HL.out (HQ.out.trans HO2.out)
          obtain ⟨p0, p1, p2, p3⟩ := cells4 a5
          go_wp2_with fail
          refine (HCV.out _ B5).mono ?_
          rintro e w9 ⟨u, rfl, hS9, hb9⟩
          obtain ⟨A', cap', rfl⟩ := hS9.slice
          have r9 := keepB r5 hb9
          have B9 := B5.trans (hb9.mono B5.size)
          have lr := lt_of_heap r5
          clear p0 p1 p2 p3
          have hlo := hS9.owned
          obtain ⟨q0, q1, q2, q3⟩ := cells4 r9
          have f0 := frozen4 r9 0
          have f1 := frozen4 r9 1
          have f2 := frozen4 r9 2
          have f3 := frozen4 r9 3
          go_wp2_with fail
          refine bodyPost_ret (v := .agg #[.int .i64 a, .int .i64 b, .int .i64 c, .slice A' ls.length cap']) ?_ rfl ⟨_, rfl, strs_result (hS9.weaken B5.size) (fun g h => by have := hlo g h; omega) _ _ _ _, below_result B9 (by omega) _ _ _ _⟩
          simp [results, Try.results30, go_sem, q0, q1, q2, q3]
        · obtain ⟨rfl, rfl, rfl, rfl⟩ := next_leaf_good HN.out HL.out HXX.out (HQ.out.trans HO2.out)
          obtain ⟨p0, p1, p2, p3⟩ := cells4 o5
          obtain ⟨q0, q1, q2, q3⟩ := cells4 r5
          have f0 := frozen4 r5 0
          have f1 := frozen4 r5 1
          have f2 := frozen4 r5 2
          have f3 := frozen4 r5 3
          go_wp2_with fail
          refine bodyPost_ret (v := .agg #[.int .i64 (a), .int .i64 (b + 1), .int .i64 (0), .slice none 0 0]) ?_ rfl ⟨_, rfl, Strs.nil _ _, below_result B5 (by omega) _ _ _ _⟩
          simp [results, Try.results30, go_sem, q0, q1, q2, q3]
      · by_cases hl0 : ls.length = 0
        · have ql : ((ls.length : Int) == 0) = true := by simp [hl0]
          have HXX : Hid (nxt a b c ls 2 = (a, b, c + 1)) := Lib.hid (by unfold nxt; rw [if_neg (by decide), if_neg (by decide), if_pos hl0])
          have HQ := Lib.hid (nextOk_of HO.out HI.out HXX.out)
          clear hl0
          go_enter Try.func30, Try.ntmps30
          go_wp2_with fail
          go_region
          all_goals go_wp2_with fail
          refine (HV.out _ (by first | exact three_b w _ _ _ | exact (three_b w _ _ _).trans (below_drew _ _))).mono ?_
          rw [HO.out]
          rintro e w4 ⟨rfl, hb4⟩
          have a4 := keepB (by exact three_a w _ _ _) hb4
          have r4 := keepB (by exact three_r w _ _ _) hb4
          have o4 := keepB (by exact three_n w _ _ _) hb4
          have B4 : Below w.heap.size w w4 := (show Below w.heap.size w _ from by first | exact three_b w _ _ _ | exact (three_b w _ _ _).trans (below_drew _ _)).trans (hb4.mono (by simp; omega))
          obtain ⟨s0, s1, s2, s3⟩ := cells4 o4
          go_wp2_with fail
          refine (HVN.out _ _ _ _).mono ?_
          obtain ⟨ok2, HO2⟩ : ∃ ok, Hid (verOk (a) (b) (c + 1) [] = ok) := ⟨_, Lib.hid rfl⟩
          rw [HO2.out]
          rintro e w5 ⟨rfl, hb5⟩
          have a5 := keepB a4 hb5
          have r5 := keepB r4 hb5
          have o5 := keepB o4 hb5
          have B5 := B4.trans (hb5.mono B4.size)
          clear s0 s1 s2 s3 a4 r4 o4 B4
          cases ok2
          · obtain ⟨rfl, rfl, rfl, rfl⟩ := next_leaf_same HN.out HL.out (HQ.out.trans HO2.out)
            obtain ⟨p0, p1, p2, p3⟩ := cells4 a5
            go_wp2_with fail
            refine (HCV.out _ B5).mono ?_
            rintro e w9 ⟨u, rfl, hS9, hb9⟩
            obtain ⟨A', cap', rfl⟩ := hS9.slice
            have r9 := keepB r5 hb9
            have B9 := B5.trans (hb9.mono B5.size)
            have lr := lt_of_heap r5
            clear p0 p1 p2 p3
            have hlo := hS9.owned
            obtain ⟨q0, q1, q2, q3⟩ := cells4 r9
            have f0 := frozen4 r9 0
            have f1 := frozen4 r9 1
            have f2 := frozen4 r9 2
            have f3 := frozen4 r9 3
            go_wp2_with fail
            refine bodyPost_ret (v := .agg #[.int .i64 a, .int .i64 b, .int .i64 c, .slice A' ls.length cap']) ?_ rfl ⟨_, rfl, strs_result (hS9.weaken B5.size) (fun g h => by have := hlo g h; omega) _ _ _ _, below_result B9 (by omega) _ _ _ _⟩
            simp [results, Try.results30, go_sem, q0, q1, q2, q3]
          · obtain ⟨rfl, rfl, rfl, rfl⟩ := next_leaf_good HN.out HL.out HXX.out (HQ.out.trans HO2.out)
            obtain ⟨p0, p1, p2, p3⟩ := cells4 o5
            obtain ⟨q0, q1, q2, q3⟩ := cells4 r5
            have f0 := frozen4 r5 0
            have f1 := frozen4 r5 1
            have f2 := frozen4 r5 2
            have f3 := frozen4 r5 3
            go_wp2_with fail
            refine bodyPost_ret (v := .agg #[.int .i64 (a), .int .i64 (b), .int .i64 (c + 1), .slice none 0 0]) ?_ rfl ⟨_, rfl, Strs.nil _ _, below_result B5 (by omega) _ _ _ _⟩
            simp [results, Try.results30, go_sem, q0, q1, q2, q3]
        · have ql : ((ls.length : Int) == 0) = false := int_beq_false (by omega)
          have HXX : Hid (nxt a b c ls 2 = (a, b, c)) := Lib.hid (by unfold nxt; rw [if_neg (by decide), if_neg (by decide), if_neg hl0])
          have HQ := Lib.hid (nextOk_of HO.out HI.out HXX.out)
          go_enter Try.func30, Try.ntmps30
          go_wp2_with fail
          go_region
          all_goals go_wp2_with fail
          refine (HV.out _ (by first | exact three_b w _ _ _ | exact (three_b w _ _ _).trans (below_drew _ _))).mono ?_
          rw [HO.out]
          rintro e w4 ⟨rfl, hb4⟩
          have a4 := keepB (by exact three_a w _ _ _) hb4
          have r4 := keepB (by exact three_r w _ _ _) hb4
          have o4 := keepB (by exact three_n w _ _ _) hb4
          have B4 : Below w.heap.size w w4 := (show Below w.heap.size w _ from by first | exact three_b w _ _ _ | exact (three_b w _ _ _).trans (below_drew _ _)).trans (hb4.mono (by simp; omega))
          obtain ⟨s0, s1, s2, s3⟩ := cells4 o4
          go_wp2_with fail
          refine (HVN.out _ _ _ _).mono ?_
          obtain ⟨ok2, HO2⟩ : ∃ ok, Hid (verOk (a) (b) (c) [] = ok) := ⟨_, Lib.hid rfl⟩
          rw [HO2.out]
          rintro e w5 ⟨rfl, hb5⟩
          have a5 := keepB a4 hb5
          have r5 := keepB r4 hb5
          have o5 := keepB o4 hb5
          have B5 := B4.trans (hb5.mono B4.size)
          clear s0 s1 s2 s3 a4 r4 o4 B4
          cases ok2
          · obtain ⟨rfl, rfl, rfl, rfl⟩ := next_leaf_same HN.out HL.out (HQ.out.trans HO2.out)
            obtain ⟨p0, p1, p2, p3⟩ := cells4 a5
            go_wp2_with fail
            refine (HCV.out _ B5).mono ?_
            rintro e w9 ⟨u, rfl, hS9, hb9⟩
            obtain ⟨A', cap', rfl⟩ := hS9.slice
            have r9 := keepB r5 hb9
            have B9 := B5.trans (hb9.mono B5.size)
            have lr := lt_of_heap r5
            clear p0 p1 p2 p3
            have hlo := hS9.owned
            obtain ⟨q0, q1, q2, q3⟩ := cells4 r9
            have f0 := frozen4 r9 0
            have f1 := frozen4 r9 1
            have f2 := frozen4 r9 2
            have f3 := frozen4 r9 3
            go_wp2_with fail
            refine bodyPost_ret (v := .agg #[.int .i64 a, .int .i64 b, .int .i64 c, .slice A' ls.length cap']) ?_ rfl ⟨_, rfl, strs_result (hS9.weaken B5.size) (fun g h => by have := hlo g h; omega) _ _ _ _, below_result B9 (by omega) _ _ _ _⟩
            simp [results, Try.results30, go_sem, q0, q1, q2, q3]
          · obtain ⟨rfl, rfl, rfl, rfl⟩ := next_leaf_good HN.out HL.out HXX.out (HQ.out.trans HO2.out)
            obtain ⟨p0, p1, p2, p3⟩ := cells4 o5
            obtain ⟨q0, q1, q2, q3⟩ := cells4 r5
            have f0 := frozen4 r5 0
            have f1 := frozen4 r5 1
            have f2 := frozen4 r5 2
            have f3 := frozen4 r5 3
            go_wp2_with fail
            refine bodyPost_ret (v := .agg #[.int .i64 (a), .int .i64 (b), .int .i64 (c), .slice none 0 0]) ?_ rfl ⟨_, rfl, Strs.nil _ _, below_result B5 (by omega) _ _ _ _⟩
            simp [results, Try.results30, go_sem, q0, q1, q2, q3]
end Go.Proofs.Ytldfkdkppgammaa
