/-
  spec.Next: the next version.
-/
import Derived.Test.YtnodhkjgnegkcaaGreatDoorVerS
import Derived.Test.YtnodhkjgnegkcaaGreatDoorCharG
import Derived.Test.YtnodhkjgnegkcaaGreatDoorApp
import Derived.Test.YtnodhkjgnegkcaaGreatDoorHeap
import Derived.Deep.RegionHeld3
namespace Go.Proofs.YtnodhkjgnegkcaaGreatDoor
open Go.RowKit

def nxt (a b c : Int) (ls : List (List UInt8)) (p : Int) : Int × Int × Int := if p = 0 then (a + 1, 0, 0) else if p = 1 then (a, b + 1, 0) else if ls.length = 0 then (a, b, c + 1) else (a, b, c)
/-- Whether there is a next one. -/
def nextOk (a b c : Int) (ls : List (List UInt8)) (p : Int) : Bool := verOk a b c ls && (inI p 0 2 && verOk (nxt a b c ls p).1 (nxt a b c ls p).2.1 (nxt a b c ls p).2.2 [])
def nextN (a b c : Int) (ls : List (List UInt8)) (p : Int) : Int × Int × Int := if nextOk a b c ls p = true then nxt a b c ls p else (a, b, c)
def nextL (a b c : Int) (ls : List (List UInt8)) (p : Int) : List (List UInt8) := if nextOk a b c ls p = true then [] else ls

/-- What Next hands back. -/
def NextIs (w : World) (n1 n2 n3 : Int) (ls : List (List UInt8)) (e : Ending) (w' : World) : Prop := ∃ u, e = .returned (.agg #[.int .i64 n1, .int .i64 n2, .int .i64 n3, u]) ∧ Strs w' w.heap.size u ls ∧ Below w.heap.size w w'

theorem next_same {a b c p : Int} {ls : List (List UInt8)} (h : nextOk a b c ls p = false) : nextN a b c ls p = (a, b, c) ∧ nextL a b c ls p = ls := by simp [nextN, nextL, h]
theorem next_good {a b c p : Int} {ls : List (List UInt8)} (h : nextOk a b c ls p = true) : nextN a b c ls p = nxt a b c ls p ∧ nextL a b c ls p = [] := by simp [nextN, nextL, h]

theorem next_leaf_same {a b c p n1 n2 n3 : Int} {ls nl : List (List UInt8)} (hN : nextN a b c ls p = (n1, n2, n3)) (hL : nextL a b c ls p = nl) (h : nextOk a b c ls p = false) : a = n1 ∧ b = n2 ∧ c = n3 ∧ ls = nl := by
  have h1 := next_same h
  rw [hN, hL] at h1
  simp at h1
  exact ⟨h1.1.1.symm, h1.1.2.1.symm, h1.1.2.2.symm, h1.2.symm⟩
theorem next_leaf_good {a b c p n1 n2 n3 x y z : Int} {ls nl : List (List UInt8)} (hN : nextN a b c ls p = (n1, n2, n3)) (hL : nextL a b c ls p = nl) (hx : nxt a b c ls p = (x, y, z)) (h : nextOk a b c ls p = true) : x = n1 ∧ y = n2 ∧ z = n3 ∧ [] = nl := by
  have h1 := next_good h
  rw [hN, hL, hx] at h1
  simp at h1
  exact ⟨h1.1.1.symm, h1.1.2.1.symm, h1.1.2.2.symm, h1.2.symm⟩
theorem nextOk_inv {a b c p : Int} {ls : List (List UInt8)} (h : verOk a b c ls = false) : nextOk a b c ls p = false := by unfold nextOk; rw [h]; rfl
theorem nextOk_out {a b c p : Int} {ls : List (List UInt8)} (h : inI p 0 2 = false) : nextOk a b c ls p = false := by unfold nextOk; rw [h]; simp
theorem nextOk_of {a b c p x y z : Int} {ls : List (List UInt8)} (h : verOk a b c ls = true) (h2 : inI p 0 2 = true) (hx : nxt a b c ls p = (x, y, z)) : nextOk a b c ls p = verOk x y z [] := by unfold nextOk; rw [h, h2, hx]; rfl
theorem inI_ways {p : Int} (h : inI p 0 2 = true) : p = 0 ∨ p = 1 ∨ p = 2 := by unfold inI at h; simp at h; omega
set_option maxRecDepth 100000 in
set_option maxHeartbeats 4000000 in
theorem specNext_any (a b c p : Int) (v : Value) (ls : List (List UInt8)) (w : World) (hr : RdS w v ls) (hs : Sm ls) (n1 n2 n3 : Int) (nl : List (List UInt8)) (hN : nextN a b c ls p = (n1, n2, n3)) (hL : nextL a b c ls p = nl) :
    Calls Tryz.prog 259 #[.agg #[.int .i64 a, .int .i64 b, .int .i64 c, v], .int .i64 p] w (NextIs w n1 n2 n3 nl) := by
  have HR := Lib.hid (fun (W : World) (h : Below w.heap.size w W) => hr.below h)
  have HV := Lib.hid (fun (W : World) (h : Below w.heap.size w W) => specVersionOk_any a b c v ls W (hr.below h) hs)
  have HVN := Lib.hid (fun (x y z : Int) (W : World) => specVersionOk_any x y z (.slice none 0 0) [] W (rdS_nil W) sm_nil)
  have hl := hs.1
  have HN := Lib.hid hN
  have HL := Lib.hid hL
  obtain ⟨A, cap, rfl, hr0⟩ := hr
  clear hs hN hL hr0
  obtain ⟨V1, hV1⟩ : ∃ V, V = w.alloc (.cells #[.int .i64 a, .int .i64 b, .int .i64 c, .slice A ls.length cap] 117) := ⟨_, rfl⟩
  obtain ⟨V2, hV2⟩ : ∃ V, V = V1.alloc (.cells #[.int .i64 0, .int .i64 0, .int .i64 0, .slice none 0 0] 117) := ⟨_, rfl⟩
  obtain ⟨V3, hV3⟩ : ∃ V, V = V2.alloc (.cells #[.int .i64 a, .int .i64 b, .int .i64 c, .slice A ls.length cap] 117) := ⟨_, rfl⟩
  have s1 : V1.heap.size = w.heap.size + 1 := by rw [hV1]; simp
  have s2 : V2.heap.size = w.heap.size + 1 + 1 := by rw [hV2]; simp [s1]
  have s3 : V3.heap.size = w.heap.size + 1 + 1 + 1 := by rw [hV3]; simp [s2]
  have B1 : Below w.heap.size w V1 := by rw [hV1]; exact (Below.refl _ _).alloc (Nat.le_refl _) _
  have B2 : Below w.heap.size w V2 := by rw [hV2]; exact B1.alloc (by omega) _
  have B3 : Below w.heap.size w V3 := by rw [hV3]; exact B2.alloc (by omega) _
  have a1 : V1.heap[w.heap.size]? = some (.cells #[.int .i64 a, .int .i64 b, .int .i64 c, .slice A ls.length cap] 117) := by rw [hV1]; exact heap_alloc_new _ _
  have r2 : V2.heap[w.heap.size + 1]? = some (.cells #[.int .i64 0, .int .i64 0, .int .i64 0, .slice none 0 0] 117) := by rw [hV2]; exact heap_new s1 _
  have c3 : V3.heap[w.heap.size + 1 + 1]? = some (.cells #[.int .i64 a, .int .i64 b, .int .i64 c, .slice A ls.length cap] 117) := by rw [hV3]; exact heap_new s2 _
  have a3 : V3.heap[w.heap.size]? = some (.cells #[.int .i64 a, .int .i64 b, .int .i64 c, .slice A ls.length cap] 117) := by rw [hV3]; exact keepA (by rw [hV2]; exact keepA a1 _) _
  have r3 : V3.heap[w.heap.size + 1]? = some (.cells #[.int .i64 0, .int .i64 0, .int .i64 0, .slice none 0 0] 117) := by rw [hV3]; exact keepA r2 _
  have a4 := keepA a3 (.cells #[] 9)
  have r4 := keepA r3 (.cells #[] 9)
  have c4 := keepA c3 (.cells #[] 9)
  have B4 := B3.alloc (by omega) (.cells #[] 9)
  have s4 : (V3.alloc (.cells #[] 9)).heap.size = w.heap.size + 1 + 1 + 1 + 1 := by simp [s3]
  have e4 := Strs.emptyAt V3 (w.heap.size + 1 + 1 + 1) (w.heap.size + 1 + 1 + 1) s3 (Nat.le_refl _)
  have HR4 := HR.out _ B4
  rw [hV3, hV2, hV1] at a4 r4 c4 e4 HR4 B4 s4
  have HS4 := Lib.hid s4
  have HR5 := Lib.hid HR4
  have HE := Lib.hid e4
  clear hV1 hV2 hV3 s1 s2 s3 B1 B2 B3 a1 r2 c3 a3 r3 e4 s4 HR HR4
  go_enter Tryz.func259, Tryz.ntmps259
  go_wp2_with (at_builtin; refine wpList_append_texts rfl _ _ rfl (w.heap.size + 1 + 1 + 1) _ [] rfl HE.out _ ls rfl HR5.out (by simp; omega) (by rw [HS4.out]; omega) ?_; intro u w1 hS hg; obtain ⟨A', cap', rfl⟩ := hS.slice; simp only [List.nil_append] at hS; have a5 := grown_heap (row := w.heap.size + 1 + 1 + 1) hg a4 (by omega); have r5 := grown_heap (row := w.heap.size + 1 + 1 + 1) hg r4 (by omega); have c5 := grown_heap (row := w.heap.size + 1 + 1 + 1) hg c4 (by omega); obtain ⟨p0, p1, p2, p3⟩ := cells4 a5; obtain ⟨q0, q1, q2, q3⟩ := cells4 c5; have qf := frozen4 c5 3; have lw := lt_of_heap a5; have lw1 := lt_of_heap r5; have lw2 := lt_of_heap c5)
  have B5 := B4.grown hg (by rw [HS4.out]; omega) (fun g h => by cases h; show _ ≤ w.heap.size + 1 + 1 + 1; omega)
  clear a4 r4 c4 B4 p0 p1 p2 p3 q0 q1 q2 q3 qf
  have a6 := heap_other (g := w.heap.size + 1 + 1) (o := 3) a5 (.slice A' ls.length cap') (by omega)
  have r6 := heap_other (g := w.heap.size + 1 + 1) (o := 3) r5 (.slice A' ls.length cap') (by omega)
  have c6 := heap_set3 c5 (.slice A' ls.length cap')
  have hS6 := hS.otherV (w.heap.size + 1 + 1) 3 (.slice A' ls.length cap') (by omega)
  have B6 := B5.setCell (p := ⟨w.heap.size + 1 + 1, 3, none⟩) (by show _ ≤ w.heap.size + 1 + 1; omega) (.slice A' ls.length cap')
  have HNE := Lib.hid (hS.block_lt)
  have z6 : (w1.setCell ⟨w.heap.size + 1 + 1, 3, none⟩ (.slice A' ls.length cap')).heap.size = w1.heap.size := by simp
  clear a5 r5 c5 hS B5 hg HR5 HE HS4
  have a7 := keepA a6 (.cells #[.int .i64 a, .int .i64 0, .int .i64 0, .slice none 0 0] 117)
  have r7 := keepA r6 (.cells #[.int .i64 a, .int .i64 0, .int .i64 0, .slice none 0 0] 117)
  have c7 := keepA c6 (.cells #[.int .i64 a, .int .i64 0, .int .i64 0, .slice none 0 0] 117)
  have o7 := heap_new z6 (.cells #[.int .i64 a, .int .i64 0, .int .i64 0, .slice none 0 0] 117)
  have hS7 := hS6.alloc (.cells #[.int .i64 a, .int .i64 0, .int .i64 0, .slice none 0 0] 117)
  have B7 := B6.alloc (by rw [z6]; omega) (.cells #[.int .i64 a, .int .i64 0, .int .i64 0, .slice none 0 0] 117)
  clear a6 r6 c6 hS6 B6 z6
  refine (HV.out _ B7).mono ?_
  obtain ⟨ok, HO⟩ : ∃ ok, Hid (verOk a b c ls = ok) := ⟨_, Lib.hid rfl⟩
  rw [HO.out]
  rintro e w8 ⟨rfl, hb8⟩
  obtain ⟨m, hm⟩ : ∃ m, m = w1.heap.size := ⟨_, rfl⟩
  rw [← hm] at o7 lw lw1 lw2 HNE ⊢
  clear hm
  have a8 := keepB a7 hb8
  have r8 := keepB r7 hb8
  have c8 := keepB c7 hb8
  have o8 := keepB o7 hb8
  have hS8 := hS7.below hb8
  have B8 := B7.trans (hb8.mono B7.size)
  clear a7 r7 c7 o7 hS7 B7
  cases ok
  · obtain ⟨rfl, rfl, rfl, rfl⟩ := next_leaf_same HN.out HL.out (nextOk_inv HO.out)
    obtain ⟨p0, p1, p2, p3⟩ := cells4 c8
    obtain ⟨q0, q1, q2, q3⟩ := cells4 r8
    have f0 := frozen4 r8 0
    have f1 := frozen4 r8 1
    have f2 := frozen4 r8 2
    have f3 := frozen4 r8 3
    go_wp2_with fail
    refine bodyPost_ret (v := .agg #[.int .i64 a, .int .i64 b, .int .i64 c, .slice A' ls.length cap']) ?_ rfl ⟨_, rfl, strs_result (hS8.weaken (by omega)) (fun g h => by have := hS8.owned g h; omega) _ _ _ _, below_result B8 (by omega) _ _ _ _⟩
    simp [results, Tryz.results259, go_sem, q0, q1, q2, q3]
  · obtain ⟨ip, HI⟩ : ∃ x, Hid (inI p 0 2 = x) := ⟨_, Lib.hid rfl⟩
    cases ip
    · obtain ⟨rfl, rfl, rfl, rfl⟩ := next_leaf_same HN.out HL.out (nextOk_out HI.out)
      go_wp2_with fail
      refine (l01In_any _ _ _ _).mono ?_
      rw [HI.out]
      rintro e w' ⟨rfl, rfl⟩
      obtain ⟨p0, p1, p2, p3⟩ := cells4 c8
      obtain ⟨q0, q1, q2, q3⟩ := cells4 r8
      have f0 := frozen4 r8 0
      have f1 := frozen4 r8 1
      have f2 := frozen4 r8 2
      have f3 := frozen4 r8 3
      go_wp2_with fail
      refine bodyPost_ret (v := .agg #[.int .i64 a, .int .i64 b, .int .i64 c, .slice A' ls.length cap']) ?_ rfl ⟨_, rfl, strs_result (hS8.weaken (by omega)) (fun g h => by have := hS8.owned g h; omega) _ _ _ _, below_result B8 (by omega) _ _ _ _⟩
      simp [results, Tryz.results259, go_sem, q0, q1, q2, q3]
    · have hbd := verOk_bd HO.out
      obtain ⟨⟨ba0, ba1⟩, ⟨bb0, bb1⟩, ⟨bc0, bc1⟩, _⟩ := hbd
      rcases inI_ways HI.out with rfl | rfl | rfl
      · have HXX : Hid (nxt a b c ls 0 = (a + 1, 0, 0)) := Lib.hid (by unfold nxt; rw [if_pos rfl])
        have HQ := Lib.hid (nextOk_of HO.out HI.out HXX.out)
        obtain ⟨p0, p1, p2, p3⟩ := cells4 a8
        obtain ⟨s0, s1, s2, s3⟩ := cells4 o8
        have t0 := frozen4 o8 0
        have t1 := frozen4 o8 1
        have t2 := frozen4 o8 2
        go_wp2_with fail
        refine (l01In_any _ _ _ _).mono ?_
        rw [HI.out]
        rintro e w' ⟨rfl, rfl⟩
        go_wp2_with fail
        have a8x := heap_other (g := m) (o := 0) a8 (.int .i64 (a + 1)) (by omega)
        have r8x := heap_other (g := m) (o := 0) r8 (.int .i64 (a + 1)) (by omega)
        have c8x := heap_other (g := m) (o := 0) c8 (.int .i64 (a + 1)) (by omega)
        have o8x := heap_set0 o8 (.int .i64 (a + 1))
        have hS8x := hS8.setFar m 0 (.int .i64 (a + 1)) (fun g h => by have := HNE.out g h; omega)
        have B8x := B8.setCell (p := ⟨m, 0, none⟩) (by show w.heap.size ≤ m; omega) (.int .i64 (a + 1))
        clear p0 p1 p2 p3 s0 s1 s2 s3 t0 t1 t2
        refine (HVN.out _ _ _ _).mono ?_
        obtain ⟨ok2, HO2⟩ : ∃ ok, Hid (verOk (a + 1) (0) (0) [] = ok) := ⟨_, Lib.hid rfl⟩
        rw [HO2.out]
        rintro e w9 ⟨rfl, hb9⟩
        have r9 := keepB r8x hb9
        have c9 := keepB c8x hb9
        have o9 := keepB o8x hb9
        have hS9 := hS8x.below hb9
        have B9 := B8x.trans (hb9.mono B8x.size)
        cases ok2
        · obtain ⟨rfl, rfl, rfl, rfl⟩ := next_leaf_same HN.out HL.out (HQ.out.trans HO2.out)
          obtain ⟨p0, p1, p2, p3⟩ := cells4 c9
          obtain ⟨q0, q1, q2, q3⟩ := cells4 r9
          have f0 := frozen4 r9 0
          have f1 := frozen4 r9 1
          have f2 := frozen4 r9 2
          have f3 := frozen4 r9 3
          go_wp2_with fail
          refine bodyPost_ret (v := .agg #[.int .i64 a, .int .i64 b, .int .i64 c, .slice A' ls.length cap']) ?_ rfl ⟨_, rfl, strs_result (hS9.weaken (by omega)) (fun g h => by have := hS9.owned g h; omega) _ _ _ _, below_result B9 (by omega) _ _ _ _⟩
          simp [results, Tryz.results259, go_sem, q0, q1, q2, q3]
        · obtain ⟨rfl, rfl, rfl, rfl⟩ := next_leaf_good HN.out HL.out HXX.out (HQ.out.trans HO2.out)
          obtain ⟨p0, p1, p2, p3⟩ := cells4 o9
          obtain ⟨q0, q1, q2, q3⟩ := cells4 r9
          have f0 := frozen4 r9 0
          have f1 := frozen4 r9 1
          have f2 := frozen4 r9 2
          have f3 := frozen4 r9 3
          go_wp2_with fail
          refine bodyPost_ret (v := .agg #[.int .i64 (a + 1), .int .i64 0, .int .i64 0, .slice none 0 0]) ?_ rfl ⟨_, rfl, Strs.nil _ _, below_result B9 (by omega) _ _ _ _⟩
          simp [results, Tryz.results259, go_sem, q0, q1, q2, q3]
      · have HXX : Hid (nxt a b c ls 1 = (a, b + 1, 0)) := Lib.hid (by unfold nxt; rw [if_neg (by decide), if_pos rfl])
        have HQ := Lib.hid (nextOk_of HO.out HI.out HXX.out)
        obtain ⟨p0, p1, p2, p3⟩ := cells4 a8
        obtain ⟨s0, s1, s2, s3⟩ := cells4 o8
        have t0 := frozen4 o8 0
        have t1 := frozen4 o8 1
        have t2 := frozen4 o8 2
        go_wp2_with fail
        refine (l01In_any _ _ _ _).mono ?_
        rw [HI.out]
        rintro e w' ⟨rfl, rfl⟩
        go_wp2_with fail
        have a8x := heap_other (g := m) (o := 1) a8 (.int .i64 (b + 1)) (by omega)
        have r8x := heap_other (g := m) (o := 1) r8 (.int .i64 (b + 1)) (by omega)
        have c8x := heap_other (g := m) (o := 1) c8 (.int .i64 (b + 1)) (by omega)
        have o8x := heap_set1 o8 (.int .i64 (b + 1))
        have hS8x := hS8.setFar m 1 (.int .i64 (b + 1)) (fun g h => by have := HNE.out g h; omega)
        have B8x := B8.setCell (p := ⟨m, 1, none⟩) (by show w.heap.size ≤ m; omega) (.int .i64 (b + 1))
        clear p0 p1 p2 p3 s0 s1 s2 s3 t0 t1 t2
        refine (HVN.out _ _ _ _).mono ?_
        obtain ⟨ok2, HO2⟩ : ∃ ok, Hid (verOk (a) (b + 1) (0) [] = ok) := ⟨_, Lib.hid rfl⟩
        rw [HO2.out]
        rintro e w9 ⟨rfl, hb9⟩
        have r9 := keepB r8x hb9
        have c9 := keepB c8x hb9
        have o9 := keepB o8x hb9
        have hS9 := hS8x.below hb9
        have B9 := B8x.trans (hb9.mono B8x.size)
        cases ok2
        · obtain ⟨rfl, rfl, rfl, rfl⟩ := next_leaf_same HN.out HL.out (HQ.out.trans HO2.out)
          obtain ⟨p0, p1, p2, p3⟩ := cells4 c9
          obtain ⟨q0, q1, q2, q3⟩ := cells4 r9
          have f0 := frozen4 r9 0
          have f1 := frozen4 r9 1
          have f2 := frozen4 r9 2
          have f3 := frozen4 r9 3
          go_wp2_with fail
          refine bodyPost_ret (v := .agg #[.int .i64 a, .int .i64 b, .int .i64 c, .slice A' ls.length cap']) ?_ rfl ⟨_, rfl, strs_result (hS9.weaken (by omega)) (fun g h => by have := hS9.owned g h; omega) _ _ _ _, below_result B9 (by omega) _ _ _ _⟩
          simp [results, Tryz.results259, go_sem, q0, q1, q2, q3]
        · obtain ⟨rfl, rfl, rfl, rfl⟩ := next_leaf_good HN.out HL.out HXX.out (HQ.out.trans HO2.out)
          obtain ⟨p0, p1, p2, p3⟩ := cells4 o9
          obtain ⟨q0, q1, q2, q3⟩ := cells4 r9
          have f0 := frozen4 r9 0
          have f1 := frozen4 r9 1
          have f2 := frozen4 r9 2
          have f3 := frozen4 r9 3
          go_wp2_with fail
          refine bodyPost_ret (v := .agg #[.int .i64 a, .int .i64 (b + 1), .int .i64 0, .slice none 0 0]) ?_ rfl ⟨_, rfl, Strs.nil _ _, below_result B9 (by omega) _ _ _ _⟩
          simp [results, Tryz.results259, go_sem, q0, q1, q2, q3]
      · by_cases hl0 : ls.length = 0
        · have ql : ((ls.length : Int) == 0) = true := by simp [hl0]
          have HXX : Hid (nxt a b c ls 2 = (a, b, c + 1)) := Lib.hid (by unfold nxt; rw [if_neg (by decide), if_neg (by decide), if_pos hl0])
          clear hl0
          have HQ := Lib.hid (nextOk_of HO.out HI.out HXX.out)
          obtain ⟨p0, p1, p2, p3⟩ := cells4 a8
          obtain ⟨s0, s1, s2, s3⟩ := cells4 o8
          have t0 := frozen4 o8 0
          have t1 := frozen4 o8 1
          have t2 := frozen4 o8 2
          have dd : (((w8.setCell ⟨m, 1, none⟩ (.int .i64 b)).setCell ⟨m, 2, none⟩ (.int .i64 c)).setCell ⟨m, 2, none⟩ (.int .i64 (c + 1))).cell? ⟨m, 2, none⟩ = some (.int .i64 (c + 1)) := (cells4 (heap_set2 (heap_set2 (heap_set1 o8 (.int .i64 b)) (.int .i64 c)) (.int .i64 (c + 1)))).2.2.1
          go_wp2_with fail
          refine (l01In_any _ _ _ _).mono ?_
          rw [HI.out]
          rintro e w' ⟨rfl, rfl⟩
          go_wp2_with fail
          have a8x := heap_other (g := m) (o := 1) a8 (.int .i64 b) (by omega)
          have r8x := heap_other (g := m) (o := 1) r8 (.int .i64 b) (by omega)
          have c8x := heap_other (g := m) (o := 1) c8 (.int .i64 b) (by omega)
          have o8x := heap_set1 o8 (.int .i64 b)
          have hS8x := hS8.setFar m 1 (.int .i64 b) (fun g h => by have := HNE.out g h; omega)
          have B8x := B8.setCell (p := ⟨m, 1, none⟩) (by show w.heap.size ≤ m; omega) (.int .i64 b)
          have a8y := heap_other (g := m) (o := 2) a8x (.int .i64 c) (by omega)
          have r8y := heap_other (g := m) (o := 2) r8x (.int .i64 c) (by omega)
          have c8y := heap_other (g := m) (o := 2) c8x (.int .i64 c) (by omega)
          have o8y := heap_set2 o8x (.int .i64 c)
          have hS8y := hS8x.setFar m 2 (.int .i64 c) (fun g h => by have := HNE.out g h; omega)
          have B8y := B8x.setCell (p := ⟨m, 2, none⟩) (by show w.heap.size ≤ m; omega) (.int .i64 c)
          have a8z := heap_other (g := m) (o := 2) a8y (.int .i64 (c + 1)) (by omega)
          have r8z := heap_other (g := m) (o := 2) r8y (.int .i64 (c + 1)) (by omega)
          have c8z := heap_other (g := m) (o := 2) c8y (.int .i64 (c + 1)) (by omega)
          have o8z := heap_set2 o8y (.int .i64 (c + 1))
          have hS8z := hS8y.setFar m 2 (.int .i64 (c + 1)) (fun g h => by have := HNE.out g h; omega)
          have B8z := B8y.setCell (p := ⟨m, 2, none⟩) (by show w.heap.size ≤ m; omega) (.int .i64 (c + 1))
          clear p0 p1 p2 p3 s0 s1 s2 s3 t0 t1 t2
          refine (HVN.out _ _ _ _).mono ?_
          obtain ⟨ok2, HO2⟩ : ∃ ok, Hid (verOk (a) (b) (c + 1) [] = ok) := ⟨_, Lib.hid rfl⟩
          rw [HO2.out]
          rintro e w9 ⟨rfl, hb9⟩
          have r9 := keepB r8z hb9
          have c9 := keepB c8z hb9
          have o9 := keepB o8z hb9
          have hS9 := hS8z.below hb9
          have B9 := B8z.trans (hb9.mono B8z.size)
          cases ok2
          · obtain ⟨rfl, rfl, rfl, rfl⟩ := next_leaf_same HN.out HL.out (HQ.out.trans HO2.out)
            obtain ⟨p0, p1, p2, p3⟩ := cells4 c9
            obtain ⟨q0, q1, q2, q3⟩ := cells4 r9
            have f0 := frozen4 r9 0
            have f1 := frozen4 r9 1
            have f2 := frozen4 r9 2
            have f3 := frozen4 r9 3
            go_wp2_with fail
            refine bodyPost_ret (v := .agg #[.int .i64 a, .int .i64 b, .int .i64 c, .slice A' ls.length cap']) ?_ rfl ⟨_, rfl, strs_result (hS9.weaken (by omega)) (fun g h => by have := hS9.owned g h; omega) _ _ _ _, below_result B9 (by omega) _ _ _ _⟩
            simp [results, Tryz.results259, go_sem, q0, q1, q2, q3]
          · obtain ⟨rfl, rfl, rfl, rfl⟩ := next_leaf_good HN.out HL.out HXX.out (HQ.out.trans HO2.out)
            obtain ⟨p0, p1, p2, p3⟩ := cells4 o9
            obtain ⟨q0, q1, q2, q3⟩ := cells4 r9
            have f0 := frozen4 r9 0
            have f1 := frozen4 r9 1
            have f2 := frozen4 r9 2
            have f3 := frozen4 r9 3
            go_wp2_with fail
            refine bodyPost_ret (v := .agg #[.int .i64 a, .int .i64 b, .int .i64 (c + 1), .slice none 0 0]) ?_ rfl ⟨_, rfl, Strs.nil _ _, below_result B9 (by omega) _ _ _ _⟩
            simp [results, Tryz.results259, go_sem, q0, q1, q2, q3]
        · have ql : ((ls.length : Int) == 0) = false := int_beq_false (by omega)
          have HXX : Hid (nxt a b c ls 2 = (a, b, c)) := Lib.hid (by unfold nxt; rw [if_neg (by decide), if_neg (by decide), if_neg hl0])
          have HQ := Lib.hid (nextOk_of HO.out HI.out HXX.out)
          obtain ⟨p0, p1, p2, p3⟩ := cells4 a8
          obtain ⟨s0, s1, s2, s3⟩ := cells4 o8
          have t0 := frozen4 o8 0
          have t1 := frozen4 o8 1
          have t2 := frozen4 o8 2
          go_wp2_with fail
          refine (l01In_any _ _ _ _).mono ?_
          rw [HI.out]
          rintro e w' ⟨rfl, rfl⟩
          go_wp2_with fail
          have a8x := heap_other (g := m) (o := 1) a8 (.int .i64 b) (by omega)
          have r8x := heap_other (g := m) (o := 1) r8 (.int .i64 b) (by omega)
          have c8x := heap_other (g := m) (o := 1) c8 (.int .i64 b) (by omega)
          have o8x := heap_set1 o8 (.int .i64 b)
          have hS8x := hS8.setFar m 1 (.int .i64 b) (fun g h => by have := HNE.out g h; omega)
          have B8x := B8.setCell (p := ⟨m, 1, none⟩) (by show w.heap.size ≤ m; omega) (.int .i64 b)
          have a8y := heap_other (g := m) (o := 2) a8x (.int .i64 c) (by omega)
          have r8y := heap_other (g := m) (o := 2) r8x (.int .i64 c) (by omega)
          have c8y := heap_other (g := m) (o := 2) c8x (.int .i64 c) (by omega)
          have o8y := heap_set2 o8x (.int .i64 c)
          have hS8y := hS8x.setFar m 2 (.int .i64 c) (fun g h => by have := HNE.out g h; omega)
          have B8y := B8x.setCell (p := ⟨m, 2, none⟩) (by show w.heap.size ≤ m; omega) (.int .i64 c)
          clear p0 p1 p2 p3 s0 s1 s2 s3 t0 t1 t2
          refine (HVN.out _ _ _ _).mono ?_
          obtain ⟨ok2, HO2⟩ : ∃ ok, Hid (verOk (a) (b) (c) [] = ok) := ⟨_, Lib.hid rfl⟩
          rw [HO2.out]
          rintro e w9 ⟨rfl, hb9⟩
          have r9 := keepB r8y hb9
          have c9 := keepB c8y hb9
          have o9 := keepB o8y hb9
          have hS9 := hS8y.below hb9
          have B9 := B8y.trans (hb9.mono B8y.size)
          cases ok2
          · obtain ⟨rfl, rfl, rfl, rfl⟩ := next_leaf_same HN.out HL.out (HQ.out.trans HO2.out)
            obtain ⟨p0, p1, p2, p3⟩ := cells4 c9
            obtain ⟨q0, q1, q2, q3⟩ := cells4 r9
            have f0 := frozen4 r9 0
            have f1 := frozen4 r9 1
            have f2 := frozen4 r9 2
            have f3 := frozen4 r9 3
            go_wp2_with fail
            refine bodyPost_ret (v := .agg #[.int .i64 a, .int .i64 b, .int .i64 c, .slice A' ls.length cap']) ?_ rfl ⟨_, rfl, strs_result (hS9.weaken (by omega)) (fun g h => by have := hS9.owned g h; omega) _ _ _ _, below_result B9 (by omega) _ _ _ _⟩
            simp [results, Tryz.results259, go_sem, q0, q1, q2, q3]
          · obtain ⟨rfl, rfl, rfl, rfl⟩ := next_leaf_good HN.out HL.out HXX.out (HQ.out.trans HO2.out)
            obtain ⟨p0, p1, p2, p3⟩ := cells4 o9
            obtain ⟨q0, q1, q2, q3⟩ := cells4 r9
            have f0 := frozen4 r9 0
            have f1 := frozen4 r9 1
            have f2 := frozen4 r9 2
            have f3 := frozen4 r9 3
            go_wp2_with fail
            refine bodyPost_ret (v := .agg #[.int .i64 a, .int .i64 b, .int .i64 c, .slice none 0 0]) ?_ rfl ⟨_, rfl, Strs.nil _ _, below_result B9 (by omega) _ _ _ _⟩
            simp [results, Tryz.results259, go_sem, q0, q1, q2, q3]
end Go.Proofs.YtnodhkjgnegkcaaGreatDoor
