/-
  spec.Exact: the bound of one version alone.
-/
import Derived.Test.YtnodhkjgnegkcaaGreatDoorCmpS
import Derived.Test.YtnodhkjgnegkcaaGreatDoorLawB
import Derived.LoopN
import Derived.StillTailTactics
import Derived.Deep.QuietTactic
import Derived.BigQuiet
import Derived.Test.YtnodhkjgnegkcaaGreatDoorRdIs
import Derived.Test.YtnodhkjgnegkcaaGreatDoorTextS
import Derived.Test.YtnodhkjgnegkcaaGreatDoorRdB
import Derived.Test.YtnodhkjgnegkcaaGreatDoorHeap
import Derived.Deep.RegionHeld3
import Derived.Laws.DeepStrings4
import Derived.Test.YtnodhkjgnegkcaaGreatDoorExM
import Derived.Test.YtnodhkjgnegkcaaGreatDoorNextS
/-
  spec.CompareVersion: how two versions stand.
-/
namespace Go.Proofs.YtnodhkjgnegkcaaGreatDoor
open Go.RowKit

set_option maxRecDepth 100000 in
set_option maxHeartbeats 4000000 in
theorem specCompareVersion_any (a b c a' b' c' : Int) (va vb : Value) (x y : List (List UInt8)) (w : World) (ha : RdS w va x) (hb : RdS w vb y) (hx : Sm x) (hy : Sm y) :
    Calls Tryz.prog 188 #[.agg #[.int .i64 a, .int .i64 b, .int .i64 c, va], .agg #[.int .i64 a', .int .i64 b', .int .i64 c', vb]] w fun e w' => e = .returned (.int .i64 (cmpVer a b c x a' b' c' y)) ∧ Below w.heap.size w w' := by
  have HV : Hid (cmpVer a b c x a' b' c' y = orI (cmpI a a') (orI (cmpI b b') (orI (cmpI c c') (cmpPre x y)))) := Lib.hid rfl
  obtain ⟨A, ca, rfl, ha⟩ := ha
  obtain ⟨B, cb, rfl, hb⟩ := hb
  have hx1 := hx.1
  have hy1 := hy.1
  have HX := Lib.hid hx.2
  have HY := Lib.hid hy.2
  clear hx hy
  obtain ⟨p, HP⟩ : ∃ z, Hid (cmpI a a' = z) := ⟨_, Lib.hid rfl⟩
  obtain ⟨q, HQ⟩ : ∃ z, Hid (cmpI b b' = z) := ⟨_, Lib.hid rfl⟩
  obtain ⟨r, HR⟩ : ∃ z, Hid (cmpI c c' = z) := ⟨_, Lib.hid rfl⟩
  have HV2 : Hid (cmpVer a b c x a' b' c' y = orI p (orI q (orI r (cmpPre x y)))) := Lib.hid (by rw [HV.out, HP.out, HQ.out, HR.out])
  have L1 : ∀ W, Calls Tryz.prog 228 #[.int .i64 a, .int .i64 a'] W fun e w' => e = .returned (.int .i64 p) ∧ w' = W := fun W => by have := l02Less_any a a' W; rw [HP.out] at this; exact this
  have L2 : ∀ W, Calls Tryz.prog 228 #[.int .i64 b, .int .i64 b'] W fun e w' => e = .returned (.int .i64 q) ∧ w' = W := fun W => by have := l02Less_any b b' W; rw [HQ.out] at this; exact this
  have L3 : ∀ W, Calls Tryz.prog 228 #[.int .i64 c, .int .i64 c'] W fun e w' => e = .returned (.int .i64 r) ∧ w' = W := fun W => by have := l02Less_any c c' W; rw [HR.out] at this; exact this
  have HL1 := Lib.hid L1
  have HL2 := Lib.hid L2
  have HL3 := Lib.hid L3
  clear L1 L2 L3 HV
  have HB : Below w.heap.size w ((w.alloc (.cells #[.int .i64 a, .int .i64 b, .int .i64 c, .slice A x.length ca] 117)).alloc (.cells #[.int .i64 a', .int .i64 b', .int .i64 c', .slice B y.length cb] 117)) := ((Below.refl _ _).alloc (Nat.le_refl _) _).alloc (by simp) _
  go_enter Tryz.func188, Tryz.ntmps188
  go_wp2_with fail
  have c0 : ((w.alloc (.cells #[.int .i64 a, .int .i64 b, .int .i64 c, .slice A x.length ca] 117)).alloc (.cells #[.int .i64 a', .int .i64 b', .int .i64 c', .slice B y.length cb] 117)).cell? ⟨w.heap.size, 0, none⟩ = some (.int .i64 a) := by simp
  have c1 : ((w.alloc (.cells #[.int .i64 a, .int .i64 b, .int .i64 c, .slice A x.length ca] 117)).alloc (.cells #[.int .i64 a', .int .i64 b', .int .i64 c', .slice B y.length cb] 117)).cell? ⟨w.heap.size, 1, none⟩ = some (.int .i64 b) := by simp
  have c2 : ((w.alloc (.cells #[.int .i64 a, .int .i64 b, .int .i64 c, .slice A x.length ca] 117)).alloc (.cells #[.int .i64 a', .int .i64 b', .int .i64 c', .slice B y.length cb] 117)).cell? ⟨w.heap.size, 2, none⟩ = some (.int .i64 c) := by simp
  have c3 : ((w.alloc (.cells #[.int .i64 a, .int .i64 b, .int .i64 c, .slice A x.length ca] 117)).alloc (.cells #[.int .i64 a', .int .i64 b', .int .i64 c', .slice B y.length cb] 117)).cell? ⟨w.heap.size, 3, none⟩ = some (.slice A x.length ca) := by simp
  have e0 : ((w.alloc (.cells #[.int .i64 a, .int .i64 b, .int .i64 c, .slice A x.length ca] 117)).alloc (.cells #[.int .i64 a', .int .i64 b', .int .i64 c', .slice B y.length cb] 117)).cell? ⟨w.heap.size + 1, 0, none⟩ = some (.int .i64 a') := by simp
  have e1 : ((w.alloc (.cells #[.int .i64 a, .int .i64 b, .int .i64 c, .slice A x.length ca] 117)).alloc (.cells #[.int .i64 a', .int .i64 b', .int .i64 c', .slice B y.length cb] 117)).cell? ⟨w.heap.size + 1, 1, none⟩ = some (.int .i64 b') := by simp
  have e2 : ((w.alloc (.cells #[.int .i64 a, .int .i64 b, .int .i64 c, .slice A x.length ca] 117)).alloc (.cells #[.int .i64 a', .int .i64 b', .int .i64 c', .slice B y.length cb] 117)).cell? ⟨w.heap.size + 1, 2, none⟩ = some (.int .i64 c') := by simp
  have e3 : ((w.alloc (.cells #[.int .i64 a, .int .i64 b, .int .i64 c, .slice A x.length ca] 117)).alloc (.cells #[.int .i64 a', .int .i64 b', .int .i64 c', .slice B y.length cb] 117)).cell? ⟨w.heap.size + 1, 3, none⟩ = some (.slice B y.length cb) := by simp
  have l1 : w.heap.size + 1 < ((w.alloc (.cells #[.int .i64 a, .int .i64 b, .int .i64 c, .slice A x.length ca] 117)).alloc (.cells #[.int .i64 a', .int .i64 b', .int .i64 c', .slice B y.length cb] 117)).heap.size := by simp
  obtain ⟨n0, hn0⟩ : ∃ n, n = w.heap.size := ⟨_, rfl⟩
  rw [← hn0] at HB c0 c1 c2 c3 e0 e1 e2 e3 l1 ⊢
  obtain ⟨W, hW⟩ : ∃ W, W = ((w.alloc (.cells #[.int .i64 a, .int .i64 b, .int .i64 c, .slice A x.length ca] 117)).alloc (.cells #[.int .i64 a', .int .i64 b', .int .i64 c', .slice B y.length cb] 117)) := ⟨_, rfl⟩
  rw [← hW] at HB c0 c1 c2 c3 e0 e1 e2 e3 l1 ⊢
  have HW := Lib.hid hW
  clear hW
  have HN0 := Lib.hid hn0
  clear hn0
  go_region_held3 (fun w' => w'.cell? ⟨n0, 0, none⟩ = some (.int .i64 a) ∧ w'.cell? ⟨n0, 1, none⟩ = some (.int .i64 b) ∧ w'.cell? ⟨n0, 2, none⟩ = some (.int .i64 c) ∧ w'.cell? ⟨n0, 3, none⟩ = some (.slice A x.length ca) ∧ w'.cell? ⟨n0 + 1, 0, none⟩ = some (.int .i64 a') ∧ w'.cell? ⟨n0 + 1, 1, none⟩ = some (.int .i64 b') ∧ w'.cell? ⟨n0 + 1, 2, none⟩ = some (.int .i64 c') ∧ w'.cell? ⟨n0 + 1, 3, none⟩ = some (.slice B y.length cb)) (first | exact ⟨c0, c1, c2, c3, e0, e1, e2, e3⟩ | go_keep) ((first | (go_at_call 228; (with_reducible refine (HL1.out _).mono ?_); rintro e w' ⟨rfl, rfl⟩) | (go_at_call 228; (with_reducible refine (HL2.out _).mono ?_); rintro e w' ⟨rfl, rfl⟩) | (go_at_call 228; (with_reducible refine (HL3.out _).mono ?_); rintro e w' ⟨rfl, rfl⟩)))
  go_wp2_with fail
  have o0 : (W.alloc (.cells #[.int .i64 p, .int .i64 q, .int .i64 r] 3)).drew.cell? ⟨W.heap.size, 0, none⟩ = some (.int .i64 p) := by simp
  have o1 : (W.alloc (.cells #[.int .i64 p, .int .i64 q, .int .i64 r] 3)).drew.cell? ⟨W.heap.size, 1, none⟩ = some (.int .i64 q) := by simp
  have o2 : (W.alloc (.cells #[.int .i64 p, .int .i64 q, .int .i64 r] 3)).drew.cell? ⟨W.heap.size, 2, none⟩ = some (.int .i64 r) := by simp
  have BN : Below W.heap.size W (W.alloc (.cells #[.int .i64 p, .int .i64 q, .int .i64 r] 3)).drew := ((Below.refl _ W).alloc (Nat.le_refl _) _).trans (below_drewN _ _ 1)
  have f3 := (BN.cell (p := ⟨n0, 3, none⟩) (by show n0 < _; omega)).trans c3
  have g3 := (BN.cell (p := ⟨n0 + 1, 3, none⟩) l1).trans e3
  have BV := HB.trans (BN.mono (by omega))
  clear c0 c1 c2 c3 e0 e1 e2 e3 BN HL1 HL2 HL3 HB
  generalize (W.alloc (.cells #[.int .i64 p, .int .i64 q, .int .i64 r] 3)).drew = V at o0 o1 o2 f3 g3 BV ⊢
  obtain ⟨m0, hm0⟩ : ∃ m, m = W.heap.size := ⟨_, rfl⟩
  rw [← hm0] at o0 o1 o2 ⊢
  clear hm0 l1
  rw [HN0.out] at BV
  by_cases hp : p = 0
  · by_cases hq : q = 0
    · by_cases hr : r = 0
      · have HO : Hid (cmpVer a b c x a' b' c' y = cmpPre x y) := Lib.hid (by rw [HV2.out, hp, hq, hr]; rfl)
        have q1 : (p != 0) = false := by simp [hp]
        have q2 : (q != 0) = false := by simp [hq]
        have q3 : (r != 0) = false := by simp [hr]
        clear hp hq hr HV2
        by_cases h1 : x = []
        · have HE : Hid (cmpVer a b c x a' b' c' y = cmpI y.length x.length) := Lib.hid (HO.out.trans (cmpPre_empty (.inl h1)))
          have t1 : ((x.length : Int) == 0) = true := by simp [h1]
          clear h1 ha hb
          refine wp_loop_rounds 4 ?_
          rw [rounds_succ]; go_wp2
          rw [rounds_succ]; go_wp2
          rw [rounds_succ]; go_wp2
          rw [rounds_succ]
          go_wp2_with (go_at_call 228; refine (l02Less_any _ _ _).mono ?_; rintro e w' ⟨rfl, rfl⟩)
          go_ret
          exact ⟨ret_int HE.out.symm, BV⟩
        · have hl1 : 0 < x.length := by cases x <;> simp_all
          have t1 : ((x.length : Int) == 0) = false := int_beq_false (by omega)
          by_cases h2 : y = []
          · have HE : Hid (cmpVer a b c x a' b' c' y = cmpI y.length x.length) := Lib.hid (HO.out.trans (cmpPre_empty (.inr h2)))
            have t2 : ((y.length : Int) == 0) = true := by simp [h2]
            clear h1 h2 ha hb
            refine wp_loop_rounds 4 ?_
            rw [rounds_succ]; go_wp2
            rw [rounds_succ]; go_wp2
            rw [rounds_succ]; go_wp2
            rw [rounds_succ]
            go_wp2_with (go_at_call 228; refine (l02Less_any _ _ _).mono ?_; rintro e w' ⟨rfl, rfl⟩)
            go_ret
            exact ⟨ret_int HE.out.symm, BV⟩
          · have hl2 : 0 < y.length := by cases y <;> simp_all
            have t2 : ((y.length : Int) == 0) = false := int_beq_false (by omega)
            have HE : Hid (cmpVer a b c x a' b' c' y = cmpL x y) := Lib.hid (HO.out.trans (cmpPre_full (by rintro (h | h); exact h1 h; exact h2 h)))
            clear h1 h2
            obtain ⟨g, off, rfl, hg, hca⟩ := ha hl1
            obtain ⟨g2, off2, rfl, hg2, hcb⟩ := hb hl2
            have HCA : Hid (∀ k (h : k < x.length), V.cell? ⟨g, off + k, none⟩ = some (.string ⟨x[k].toArray⟩)) := Lib.hid (fun k h => (BV.cell (p := ⟨g, off + k, none⟩) hg).trans (hca k h))
            have HCB : Hid (∀ k (h : k < y.length), V.cell? ⟨g2, off2 + k, none⟩ = some (.string ⟨y[k].toArray⟩)) := Lib.hid (fun k h => (BV.cell (p := ⟨g2, off2 + k, none⟩) hg2).trans (hcb k h))
            clear ha hb hca hcb hg hg2
            refine wp_loop_rounds 4 ?_
            rw [rounds_succ]; go_wp2
            rw [rounds_succ]; go_wp2
            rw [rounds_succ]; go_wp2
            rw [rounds_succ]; go_wp2
            go_loopw [7, 8] (fun i _ wr => ∃ k n : Nat, k ≤ x.length ∧ k ≤ y.length ∧ i = .int .i64 k ∧ wr = V.drewN n ∧ Hid (cmpL x y = cmpL (x.drop k) (y.drop k))) (fun i _ _ => x.length - (intOf i).toNat)
            case atStart => exact ⟨0, 0, Nat.zero_le _, Nat.zero_le _, rfl, rfl, Lib.hid (by simp)⟩
            case round =>
              obtain ⟨k, n, hk, hk', rfl, hwr, H⟩ := hrel
              clear o0 o1 o2 q1 q2 q3 t1 t2
              have f4 : wr.cell? ⟨n0, 3, none⟩ = some (.slice (some ⟨g, off, none⟩) x.length ca) := by rw [hwr]; exact f3
              have g4 : wr.cell? ⟨n0 + 1, 3, none⟩ = some (.slice (some ⟨g2, off2, none⟩) y.length cb) := by rw [hwr]; exact g3
              have HWR := Lib.hid hwr
              have BW : Below w.heap.size w wr := by rw [hwr]; exact BV.trans (below_drewN _ _ _)
              clear hwr
              by_cases hlt : k < x.length ∧ k < y.length
              · obtain ⟨j1, j2⟩ := hlt
                have d1 : wr.cell? ⟨g, off + k, none⟩ = some (.string ⟨x[k].toArray⟩) := by rw [HWR.out]; exact HCA.out k j1
                have d2 : wr.cell? ⟨g2, off2 + k, none⟩ = some (.string ⟨y[k].toArray⟩) := by rw [HWR.out]; exact HCB.out k j2
                have k0 : (0 : Int) ≤ (k : Int) := by omega
                have k1 : (k : Int) < (x.length : Int) := by omega
                have k2 : (k : Int) < (y.length : Int) := by omega
                have HS := Lib.hid (cmpL_step j1 j2)
                obtain ⟨z, HZ⟩ : ∃ z, Hid (cmpPart x[k] y[k] = z) := ⟨_, Lib.hid rfl⟩
                have hP : ∀ W, Calls Tryz.prog 229 #[.string ⟨x[k].toArray⟩, .string ⟨y[k].toArray⟩] W fun e w' => e = .returned (.int .i64 z) ∧ w' = W := fun W => by
                  have := l02Part_any ⟨x[k].toArray⟩ ⟨y[k].toArray⟩ W (by rw [size_of]; exact HX.out _ (List.getElem_mem j1)) (by rw [size_of]; exact HY.out _ (List.getElem_mem j2))
                  rw [show cmpPart (⟨x[k].toArray⟩ : ByteArray).data.toList (⟨y[k].toArray⟩ : ByteArray).data.toList = z from HZ.out] at this
                  exact this
                have HP2 := Lib.hid hP
                clear hP
                by_cases hz : z = 0
                · have hz' : (z != 0) = false := by simp [hz]
                  have HN : Hid (cmpL x y = cmpL (x.drop (k + 1)) (y.drop (k + 1))) := Lib.hid (by rw [H.out, HS.out, HZ.out, hz]; rfl)
                  clear hz
                  go_wp2_with fail
                  go_quiet ((go_at_call 229; exact Calls.quiet_of_same (HP2.out _)))
                  go_wp2_with fail
                  go_roundw
                  case rel => exact ⟨k + 1, n + nq, by omega, by omega, by go_num, by rw [HWR.out]; simp [World.drewN]; omega, HN⟩
                  case measure => simp [intOf]; omega
                · have hz' : (z != 0) = true := by simp [hz]
                  have HN : Hid (cmpVer a b c x a' b' c' y = z) := Lib.hid (by rw [HE.out, H.out, HS.out, HZ.out]; exact orI_ne _ hz)
                  clear hz
                  go_wp2_with fail
                  go_quiet ((go_at_call 229; exact Calls.quiet_of_same (HP2.out _)))
                  go_wp2_with fail
                  go_ret
                  exact ⟨ret_int HN.out.symm, BW.trans (below_drewN _ _ _)⟩
              · have HN : Hid (cmpVer a b c x a' b' c' y = cmpI x.length y.length) := Lib.hid (by rw [HE.out, H.out]; exact cmpL_len hk hk' hlt)
                by_cases j1 : k < x.length
                · have j2 : ¬ k < y.length := by omega
                  have j3 : decide (k < y.length) = false := decide_eq_false j2
                  have k1 : (k : Int) < (x.length : Int) := by omega
                  clear hlt
                  go_wp2_with (go_at_call 228; refine (l02Less_any _ _ _).mono ?_; rintro e w' ⟨rfl, rfl⟩)
                  go_ret
                  exact ⟨ret_int HN.out.symm, BW⟩
                · have j2 : decide ((k : Int) < (x.length : Int)) = false := by simp; omega
                  clear hlt
                  go_wp2_with (go_at_call 228; refine (l02Less_any _ _ _).mono ?_; rintro e w' ⟨rfl, rfl⟩)
                  go_ret
                  exact ⟨ret_int HN.out.symm, BW⟩
      · have HO : Hid (cmpVer a b c x a' b' c' y = r) := Lib.hid (by rw [HV2.out, hp, hq, orI_zero, orI_zero, orI_ne _ hr])
        have q1 : (p != 0) = false := by simp [hp]
        have q2 : (q != 0) = false := by simp [hq]
        have q3 : (r != 0) = true := by simp [hr]
        clear hp hq hr HV2 ha hb
        refine wp_loop_rounds 3 ?_
        rw [rounds_succ]; go_wp2
        rw [rounds_succ]; go_wp2
        rw [rounds_succ]; go_wp2
        go_ret
        exact ⟨ret_int HO.out.symm, BV⟩
    · have HO : Hid (cmpVer a b c x a' b' c' y = q) := Lib.hid (by rw [HV2.out, hp, orI_zero, orI_ne _ hq])
      have q1 : (p != 0) = false := by simp [hp]
      have q2 : (q != 0) = true := by simp [hq]
      clear hp hq HV2 ha hb
      refine wp_loop_rounds 2 ?_
      rw [rounds_succ]; go_wp2
      rw [rounds_succ]; go_wp2
      go_ret
      exact ⟨ret_int HO.out.symm, BV⟩
  · have HO : Hid (cmpVer a b c x a' b' c' y = p) := Lib.hid (by rw [HV2.out, orI_ne _ hp])
    have q1 : (p != 0) = true := by simp [hp]
    clear hp HV2 ha hb
    refine wp_loop_rounds 1 ?_
    rw [rounds_succ]; go_wp2
    go_ret
    exact ⟨ret_int HO.out.symm, BV⟩
end Go.Proofs.YtnodhkjgnegkcaaGreatDoor

/-
  spec.ReadVersion: a version out of its text.
-/
namespace Go.Proofs.YtnodhkjgnegkcaaGreatDoor
open Go.RowKit

set_option maxRecDepth 100000 in
set_option maxHeartbeats 4000000 in
theorem specReadVersion_any (s : ByteArray) (w : World) (hs : s.size ≤ 1048576) :
    Calls Tryz.prog 91 #[.string s] w (ReadIs w s.data.toList) := by
  have HSZ : Hid (s.data.toList.length ≤ 1048576) := Lib.hid (by simpa using hs)
  have hA := l01At_any s 45 ((w.alloc (.cells #[.int .i64 0, .int .i64 0, .int .i64 0, .slice none 0 0] 117)).alloc (.cells #[.int .i64 0, .int .i64 0, .int .i64 0, .slice none 0 0] 117)) (by unfold maxLen; omega)
  have HA := Lib.hid hA
  clear hA
  have r0 := keepA (heap_alloc_new w (.cells #[.int .i64 0, .int .i64 0, .int .i64 0, .slice none 0 0] 117)) (.cells #[.int .i64 0, .int .i64 0, .int .i64 0, .slice none 0 0] 117)
  have v0 := heap_new (W := w.alloc (.cells #[.int .i64 0, .int .i64 0, .int .i64 0, .slice none 0 0] 117)) (n := w.heap.size + 1) (by simp) (.cells #[.int .i64 0, .int .i64 0, .int .i64 0, .slice none 0 0] 117)
  have B0 : Below w.heap.size w ((w.alloc (.cells #[.int .i64 0, .int .i64 0, .int .i64 0, .slice none 0 0] 117)).alloc (.cells #[.int .i64 0, .int .i64 0, .int .i64 0, .slice none 0 0] 117)) := ((Below.refl _ _).alloc (Nat.le_refl _) _).alloc (by simp) _
  obtain ⟨d, HD⟩ : ∃ d, Hid (dash s.data.toList = d) := ⟨_, Lib.hid rfl⟩
  by_cases hd : 0 ≤ d
  · have hdl : d < s.size := by have := idx_lt s.data.toList 45; have h2 : Lib.indexByte s.data.toList 45 = d := HD.out; rw [h2] at this; simpa using this
    obtain ⟨k, rfl⟩ : ∃ k : Nat, d = (k : Int) := ⟨d.toNat, by omega⟩
    have HH : Hid (headL s.data.toList = s.data.toList.take k) := Lib.hid (by rw [headL_yes (by rw [HD.out]; exact hd), HD.out]; rfl)
    have HTL : Hid (tailL s.data.toList = cutL 46 (s.data.toList.drop (k + 1))) := Lib.hid (by rw [tailL_yes (by rw [HD.out]; exact hd), HD.out]; rfl)
    have e1 := slice_to s _ k (k : Int) rfl (by omega) (piece s 0 k)
    have e2 := slice_from s _ (k + 1) ((k : Int) + 1) (by omega) (by omega) (piece_end s (k + 1))
    go_enter Tryz.func91, Tryz.ntmps91
    go_wp2_with fail
    refine HA.out.mono ?_
    rw [show Lib.indexByte s.data.toList 45 = (k : Int) from HD.out]
    rintro e w' ⟨rfl, rfl⟩
    go_wp2_with fail
    refine (l01Cut_any _ 46 _ (by rw [size_of]; simp <;> omega)).mono ?_
    rintro e w1 ⟨gp, cp, rfl, hSp, hb1⟩
    have HQ : Hid (cutL 46 (⟨(s.data.toList.drop (k + 1)).toArray⟩ : ByteArray).data.toList = tailL s.data.toList) := Lib.hid HTL.out.symm
    rw [HQ.out] at hSp ⊢
    have r1 := keepB r0 hb1
    have v1 := keepB v0 hb1
    have B1 := B0.trans (hb1.mono B0.size)
    have glo : w.heap.size + 2 ≤ gp := by have := hSp.lo; simpa using this
    obtain ⟨q0, q1, q2, q3⟩ := cells4 v1
    have f3 := frozen4 v1 3
    go_wp2_with fail
    have HQ2 : Hid (cutL 46 (⟨(s.data.toList.take k).toArray⟩ : ByteArray).data.toList = partsL s.data.toList) := Lib.hid (by unfold partsL; rw [HH.out])
    have r1' := heap_other (g := w.heap.size + 1) (o := 3) r1 (.slice (some ⟨gp, 0, none⟩) (tailL s.data.toList).length cp) (by omega)
    have v1' := heap_set3 v1 (.slice (some ⟨gp, 0, none⟩) (tailL s.data.toList).length cp)
    have B1' := B1.setCell (p := ⟨w.heap.size + 1, 3, none⟩) (Nat.le_succ _) (.slice (some ⟨gp, 0, none⟩) (tailL s.data.toList).length cp)
    have hSp1 := (hSp.weaken (base' := w.heap.size + 2) (by simp)).other (w.heap.size + 1) 3 (.slice (some ⟨gp, 0, none⟩) (tailL s.data.toList).length cp) (by omega)
    refine (l01Cut_any _ 46 _ (by rw [size_of]; simp <;> omega)).mono ?_
    rintro e w2 ⟨gn, cn, rfl, hSn, hb2⟩
    rw [HQ2.out] at hSn ⊢
    have r2 := keepB r1' hb2
    have v2 := keepB v1' hb2
    have B2 := B1'.trans (hb2.mono B1'.size)
    have hSp2 := hSp1.below hb2
    have lo2 : w.heap.size + 2 ≤ (w1.setCell ⟨w.heap.size + 1, 3, none⟩ (.slice (some ⟨gp, 0, none⟩) (tailL s.data.toList).length cp)).heap.size := by have := lt_of_heap v1'; omega
    clear r0 v0 B0 r1 v1 B1 r1' v1' B1' hSp hSp1 hb1 hb2 q0 q1 q2 q3 f3 HA e1 e2
    have gnlo : w.heap.size + 2 ≤ gn := by have := hSn.lo; simpa using Nat.le_trans lo2 this
    by_cases h3 : (partsL s.data.toList).length = 3
    · obtain ⟨p0, p1, p2, hp⟩ := len3 h3
      have HPP := Lib.hid hp
      have mm : ∀ x ∈ partsL s.data.toList, x.length ≤ 1048576 := fun x hx => by have h1 := cutL_mem_le 46 (headL s.data.toList) x hx; have h2 := headL_le s.data.toList; have h3 := HSZ.out; omega
      have m0 := mm p0 (by rw [hp]; simp)
      have m1 := mm p1 (by rw [hp]; simp)
      have m2 := mm p2 (by rw [hp]; simp)
      have x0 : w2.cell? ⟨gn, 0, none⟩ = some (.string ⟨p0.toArray⟩) := by rw [hp] at hSn; exact hSn.cell 0 (by simp)
      have x1 : w2.cell? ⟨gn, 1, none⟩ = some (.string ⟨p1.toArray⟩) := by rw [hp] at hSn; exact hSn.cell 1 (by simp)
      have x2 : w2.cell? ⟨gn, 2, none⟩ = some (.string ⟨p2.toArray⟩) := by rw [hp] at hSn; exact hSn.cell 2 (by simp)
      have HR := Lib.hid (readOk_of hp)
      have HTX := Lib.hid (read_text hp)
      have HTN := Lib.hid (read_ok hp)
      rw [h3]
      clear mm hp h3
      have gne : gn ≠ w.heap.size + 1 := by omega
      obtain ⟨u0, u1, u2, u3⟩ := cells4 v2
      have f0 := frozen4 v2 0
      go_wp2_with fail
      refine (specReadDec_any ⟨p0.toArray⟩ _ (by rw [size_of]; exact m0)).mono ?_
      rintro e w' ⟨rfl, rfl⟩
      obtain ⟨z0, HZ0⟩ : ∃ z, Hid (readL p0 = z) := ⟨_, Lib.hid rfl⟩
      rw [show readL (⟨p0.toArray⟩ : ByteArray).data.toList = z0 from HZ0.out]
      have v3 := heap_set0 v2 (.int .i64 z0)
      have r3 := heap_other (g := w.heap.size + 1) (o := 0) r2 (.int .i64 z0) (by omega)
      have y1 := (World.cell?_setCell_far w2 ⟨w.heap.size + 1, 0, none⟩ ⟨gn, 1, none⟩ (.int .i64 z0) (Ne.symm gne)).trans x1
      have y2 := (World.cell?_setCell_far w2 ⟨w.heap.size + 1, 0, none⟩ ⟨gn, 2, none⟩ (.int .i64 z0) (Ne.symm gne)).trans x2
      have f1 := frozen4 v3 1
      obtain ⟨t0, t1, t2, t3⟩ := cells4 v3
      go_wp2_with fail
      refine (specReadDec_any ⟨p1.toArray⟩ _ (by rw [size_of]; exact m1)).mono ?_
      rintro e w' ⟨rfl, rfl⟩
      obtain ⟨z1, HZ1⟩ : ∃ z, Hid (readL p1 = z) := ⟨_, Lib.hid rfl⟩
      rw [show readL (⟨p1.toArray⟩ : ByteArray).data.toList = z1 from HZ1.out]
      have v4 := heap_set1 v3 (.int .i64 z1)
      have r4 := heap_other (g := w.heap.size + 1) (o := 1) r3 (.int .i64 z1) (by omega)
      have yy2 := (World.cell?_setCell_far _ ⟨w.heap.size + 1, 1, none⟩ ⟨gn, 2, none⟩ (.int .i64 z1) (Ne.symm gne)).trans y2
      have f2 := frozen4 v4 2
      clear t0 t1 t2 t3 f0
      obtain ⟨t0, t1, t2, t3⟩ := cells4 v4
      go_wp2_with fail
      refine (specReadDec_any ⟨p2.toArray⟩ _ (by rw [size_of]; exact m2)).mono ?_
      rintro e w' ⟨rfl, rfl⟩
      obtain ⟨z2, HZ2⟩ : ∃ z, Hid (readL p2 = z) := ⟨_, Lib.hid rfl⟩
      rw [show readL (⟨p2.toArray⟩ : ByteArray).data.toList = z2 from HZ2.out]
      have v5 := heap_set2 v4 (.int .i64 z2)
      have r5 := heap_other (g := w.heap.size + 1) (o := 2) r4 (.int .i64 z2) (by omega)
      have B5 := ((B2.setCell (p := ⟨w.heap.size + 1, 0, none⟩) (Nat.le_succ _) (.int .i64 z0)).setCell (p := ⟨w.heap.size + 1, 1, none⟩) (Nat.le_succ _) (.int .i64 z1)).setCell (p := ⟨w.heap.size + 1, 2, none⟩) (Nat.le_succ _) (.int .i64 z2)
      have hS5 := (((hSp2.other (w.heap.size + 1) 0 (.int .i64 z0) (by omega)).other (w.heap.size + 1) 1 (.int .i64 z1) (by omega)).other (w.heap.size + 1) 2 (.int .i64 z2) (by omega))
      obtain ⟨i0, i1, i2, i3⟩ := cells4 v5
      go_wp2_with fail
      clear t0 t1 t2 t3 i0 i1 i2 i3 u0 u1 u2 u3 f1 f2 x0 x1 x2 y1 y2 yy2 v2 v3 v4 r2 r3 r4 B2
      generalize ((w2.setCell ⟨w.heap.size + 1, 0, none⟩ (.int .i64 z0)).setCell ⟨w.heap.size + 1, 1, none⟩ (.int .i64 z1)).setCell ⟨w.heap.size + 1, 2, none⟩ (.int .i64 z2) = W5 at *
      refine (specVersionText_any z0 z1 z2 _ (tailL s.data.toList) _ (RdS.of_strs hS5) (tail_sm HSZ.out)).mono ?_
      rintro e w6 ⟨rfl, hb6⟩
      have v6 := keepB v5 hb6
      have r6 := keepB r5 hb6
      have B6 := B5.trans (hb6.mono B5.size)
      have hS6 := hS5.below hb6
      have hw := hS5.owned
      clear v5 r5 B5 hS5 hb6
      by_cases hv : verOk z0 z1 z2 (tailL s.data.toList) = true
      · have HE : Hid (verText z0 z1 z2 (tailL s.data.toList) = s.data.toList) := Lib.hid (by have := HTX.out; rw [HZ0.out, HZ1.out, HZ2.out] at this; exact this hv)
        have HOK : Hid (readOk s.data.toList = true) := Lib.hid (by rw [HR.out, HZ0.out, HZ1.out, HZ2.out]; exact hv)
        have e9 : ((verText z0 z1 z2 (tailL s.data.toList)) == s.toList) = true := by rw [HE.out, ByteArray.toList_eq]; simp
        clear hv
        obtain ⟨p0', p1', p2', p3'⟩ := cells4 v6
        obtain ⟨q0, q1, q2, q3⟩ := cells4 r6
        have f0 := frozen4 r6 0
        have f1 := frozen4 r6 1
        have f2 := frozen4 r6 2
        have f3 := frozen4 r6 3
        go_wp2_with fail
        refine bodyPost_ret (v := .tuple #[.agg #[.int .i64 (z0), .int .i64 (z1), .int .i64 (z2), .slice (some ⟨gp, 0, none⟩) (tailL s.data.toList).length cp], .bool true]) ?_ rfl (by rw [← HZ0.out, ← HZ1.out, ← HZ2.out]; exact readIs_good HPP.out HOK.out (strs_result (hS6.weaken (by omega)) (fun g h => by have := hw g h; omega) _ _ _ _) (below_result B6 (by omega) _ _ _ _))
        simp [results, Tryz.results91, go_sem, q0, q1, q2, q3]
      · have HE : Hid (¬ verText z0 z1 z2 (tailL s.data.toList) = s.data.toList) := Lib.hid (by have := HTN.out; rw [HZ0.out, HZ1.out, HZ2.out] at this; exact this hv)
        have HOK : Hid (readOk s.data.toList = false) := Lib.hid (by rw [HR.out, HZ0.out, HZ1.out, HZ2.out]; simpa using hv)
        have e9 : ((verText z0 z1 z2 (tailL s.data.toList)) == s.toList) = false := by rw [ByteArray.toList_eq]; simpa using HE.out
        clear hv
        obtain ⟨q0, q1, q2, q3⟩ := cells4 r6
        have f0 := frozen4 r6 0
        have f1 := frozen4 r6 1
        have f2 := frozen4 r6 2
        have f3 := frozen4 r6 3
        go_wp2_with fail
        refine bodyPost_ret (v := .tuple #[.agg #[.int .i64 0, .int .i64 0, .int .i64 0, .slice none 0 0], .bool false]) ?_ rfl (readIs_bad HOK.out (below_result B6 (by omega) _ _ _ _))
        simp [results, Tryz.results91, go_sem, q0, q1, q2, q3]
    · have HOK := Lib.hid (readOk_bad h3)
      have q9 : (((partsL s.data.toList).length : Int) != 3) = true := int_bne_true (by omega)
      clear h3
      obtain ⟨q0, q1, q2, q3⟩ := cells4 r2
      have f0 := frozen4 r2 0
      have f1 := frozen4 r2 1
      have f2 := frozen4 r2 2
      have f3 := frozen4 r2 3
      go_wp2_with fail
      refine bodyPost_ret (v := .tuple #[.agg #[.int .i64 0, .int .i64 0, .int .i64 0, .slice none 0 0], .bool false]) ?_ rfl (readIs_bad HOK.out (below_result B2 (by omega) _ _ _ _))
      simp [results, Tryz.results91, go_sem, q0, q1, q2, q3]
  · have hdn : ¬ 0 ≤ dash s.data.toList := by rw [HD.out]; exact hd
    have HQ2 : Hid (cutL 46 s.data.toList = partsL s.data.toList) := Lib.hid (by unfold partsL; rw [headL_no hdn])
    have HTL := Lib.hid (tailL_no hdn)
    clear hdn
    go_enter Tryz.func91, Tryz.ntmps91
    go_wp2_with fail
    refine HA.out.mono ?_
    rw [show Lib.indexByte s.data.toList 45 = d from HD.out]
    rintro e w' ⟨rfl, rfl⟩
    go_wp2_with fail
    refine (l01Cut_any s 46 _ hs).mono ?_
    rintro e w2 ⟨gn, cn, rfl, hSn, hb2⟩
    rw [HQ2.out] at hSn ⊢
    have r2 := keepB r0 hb2
    have v2 := keepB v0 hb2
    have B2 := B0.trans (hb2.mono B0.size)
    have lo2 : w.heap.size + 2 ≤ ((w.alloc (.cells #[.int .i64 0, .int .i64 0, .int .i64 0, .slice none 0 0] 117)).alloc (.cells #[.int .i64 0, .int .i64 0, .int .i64 0, .slice none 0 0] 117)).heap.size := by simp
    clear r0 v0 B0 hb2 HA
    have gnlo : w.heap.size + 2 ≤ gn := by have := hSn.lo; simpa using Nat.le_trans lo2 this
    by_cases h3 : (partsL s.data.toList).length = 3
    · obtain ⟨p0, p1, p2, hp⟩ := len3 h3
      have HPP := Lib.hid hp
      have mm : ∀ x ∈ partsL s.data.toList, x.length ≤ 1048576 := fun x hx => by have h1 := cutL_mem_le 46 (headL s.data.toList) x hx; have h2 := headL_le s.data.toList; have h3 := HSZ.out; omega
      have m0 := mm p0 (by rw [hp]; simp)
      have m1 := mm p1 (by rw [hp]; simp)
      have m2 := mm p2 (by rw [hp]; simp)
      have x0 : w2.cell? ⟨gn, 0, none⟩ = some (.string ⟨p0.toArray⟩) := by rw [hp] at hSn; exact hSn.cell 0 (by simp)
      have x1 : w2.cell? ⟨gn, 1, none⟩ = some (.string ⟨p1.toArray⟩) := by rw [hp] at hSn; exact hSn.cell 1 (by simp)
      have x2 : w2.cell? ⟨gn, 2, none⟩ = some (.string ⟨p2.toArray⟩) := by rw [hp] at hSn; exact hSn.cell 2 (by simp)
      have HR := Lib.hid (readOk_of hp)
      have HTX := Lib.hid (read_text hp)
      have HTN := Lib.hid (read_ok hp)
      rw [h3]
      clear mm hp h3
      have gne : gn ≠ w.heap.size + 1 := by omega
      obtain ⟨u0, u1, u2, u3⟩ := cells4 v2
      have f0 := frozen4 v2 0
      go_wp2_with fail
      refine (specReadDec_any ⟨p0.toArray⟩ _ (by rw [size_of]; exact m0)).mono ?_
      rintro e w' ⟨rfl, rfl⟩
      obtain ⟨z0, HZ0⟩ : ∃ z, Hid (readL p0 = z) := ⟨_, Lib.hid rfl⟩
      rw [show readL (⟨p0.toArray⟩ : ByteArray).data.toList = z0 from HZ0.out]
      have v3 := heap_set0 v2 (.int .i64 z0)
      have r3 := heap_other (g := w.heap.size + 1) (o := 0) r2 (.int .i64 z0) (by omega)
      have y1 := (World.cell?_setCell_far w2 ⟨w.heap.size + 1, 0, none⟩ ⟨gn, 1, none⟩ (.int .i64 z0) (Ne.symm gne)).trans x1
      have y2 := (World.cell?_setCell_far w2 ⟨w.heap.size + 1, 0, none⟩ ⟨gn, 2, none⟩ (.int .i64 z0) (Ne.symm gne)).trans x2
      have f1 := frozen4 v3 1
      obtain ⟨t0, t1, t2, t3⟩ := cells4 v3
      go_wp2_with fail
      refine (specReadDec_any ⟨p1.toArray⟩ _ (by rw [size_of]; exact m1)).mono ?_
      rintro e w' ⟨rfl, rfl⟩
      obtain ⟨z1, HZ1⟩ : ∃ z, Hid (readL p1 = z) := ⟨_, Lib.hid rfl⟩
      rw [show readL (⟨p1.toArray⟩ : ByteArray).data.toList = z1 from HZ1.out]
      have v4 := heap_set1 v3 (.int .i64 z1)
      have r4 := heap_other (g := w.heap.size + 1) (o := 1) r3 (.int .i64 z1) (by omega)
      have yy2 := (World.cell?_setCell_far _ ⟨w.heap.size + 1, 1, none⟩ ⟨gn, 2, none⟩ (.int .i64 z1) (Ne.symm gne)).trans y2
      have f2 := frozen4 v4 2
      clear t0 t1 t2 t3 f0
      obtain ⟨t0, t1, t2, t3⟩ := cells4 v4
      go_wp2_with fail
      refine (specReadDec_any ⟨p2.toArray⟩ _ (by rw [size_of]; exact m2)).mono ?_
      rintro e w' ⟨rfl, rfl⟩
      obtain ⟨z2, HZ2⟩ : ∃ z, Hid (readL p2 = z) := ⟨_, Lib.hid rfl⟩
      rw [show readL (⟨p2.toArray⟩ : ByteArray).data.toList = z2 from HZ2.out]
      have v5 := heap_set2 v4 (.int .i64 z2)
      have r5 := heap_other (g := w.heap.size + 1) (o := 2) r4 (.int .i64 z2) (by omega)
      have B5 := ((B2.setCell (p := ⟨w.heap.size + 1, 0, none⟩) (Nat.le_succ _) (.int .i64 z0)).setCell (p := ⟨w.heap.size + 1, 1, none⟩) (Nat.le_succ _) (.int .i64 z1)).setCell (p := ⟨w.heap.size + 1, 2, none⟩) (Nat.le_succ _) (.int .i64 z2)
      have hS5 : Strs (((w2.setCell ⟨w.heap.size + 1, 0, none⟩ (.int .i64 z0)).setCell ⟨w.heap.size + 1, 1, none⟩ (.int .i64 z1)).setCell ⟨w.heap.size + 1, 2, none⟩ (.int .i64 z2)) (w.heap.size + 2) (.slice none 0 0) (tailL s.data.toList) := by rw [HTL.out]; exact Strs.nil _ _
      obtain ⟨i0, i1, i2, i3⟩ := cells4 v5
      go_wp2_with fail
      clear t0 t1 t2 t3 i0 i1 i2 i3 u0 u1 u2 u3 f1 f2 x0 x1 x2 y1 y2 yy2 v2 v3 v4 r2 r3 r4 B2
      generalize ((w2.setCell ⟨w.heap.size + 1, 0, none⟩ (.int .i64 z0)).setCell ⟨w.heap.size + 1, 1, none⟩ (.int .i64 z1)).setCell ⟨w.heap.size + 1, 2, none⟩ (.int .i64 z2) = W5 at *
      refine (specVersionText_any z0 z1 z2 _ (tailL s.data.toList) _ (RdS.of_strs hS5) (tail_sm HSZ.out)).mono ?_
      rintro e w6 ⟨rfl, hb6⟩
      have v6 := keepB v5 hb6
      have r6 := keepB r5 hb6
      have B6 := B5.trans (hb6.mono B5.size)
      have hS6 := hS5.below hb6
      have hw := hS5.owned
      clear v5 r5 B5 hS5 hb6
      by_cases hv : verOk z0 z1 z2 (tailL s.data.toList) = true
      · have HE : Hid (verText z0 z1 z2 (tailL s.data.toList) = s.data.toList) := Lib.hid (by have := HTX.out; rw [HZ0.out, HZ1.out, HZ2.out] at this; exact this hv)
        have HOK : Hid (readOk s.data.toList = true) := Lib.hid (by rw [HR.out, HZ0.out, HZ1.out, HZ2.out]; exact hv)
        have e9 : ((verText z0 z1 z2 (tailL s.data.toList)) == s.toList) = true := by rw [HE.out, ByteArray.toList_eq]; simp
        clear hv
        obtain ⟨p0', p1', p2', p3'⟩ := cells4 v6
        obtain ⟨q0, q1, q2, q3⟩ := cells4 r6
        have f0 := frozen4 r6 0
        have f1 := frozen4 r6 1
        have f2 := frozen4 r6 2
        have f3 := frozen4 r6 3
        go_wp2_with fail
        refine bodyPost_ret (v := .tuple #[.agg #[.int .i64 (z0), .int .i64 (z1), .int .i64 (z2), .slice none 0 0], .bool true]) ?_ rfl (by rw [← HZ0.out, ← HZ1.out, ← HZ2.out]; exact readIs_good HPP.out HOK.out (strs_result (hS6.weaken (by omega)) (fun g h => by have := hw g h; omega) _ _ _ _) (below_result B6 (by omega) _ _ _ _))
        simp [results, Tryz.results91, go_sem, q0, q1, q2, q3]
      · have HE : Hid (¬ verText z0 z1 z2 (tailL s.data.toList) = s.data.toList) := Lib.hid (by have := HTN.out; rw [HZ0.out, HZ1.out, HZ2.out] at this; exact this hv)
        have HOK : Hid (readOk s.data.toList = false) := Lib.hid (by rw [HR.out, HZ0.out, HZ1.out, HZ2.out]; simpa using hv)
        have e9 : ((verText z0 z1 z2 (tailL s.data.toList)) == s.toList) = false := by rw [ByteArray.toList_eq]; simpa using HE.out
        clear hv
        obtain ⟨q0, q1, q2, q3⟩ := cells4 r6
        have f0 := frozen4 r6 0
        have f1 := frozen4 r6 1
        have f2 := frozen4 r6 2
        have f3 := frozen4 r6 3
        go_wp2_with fail
        refine bodyPost_ret (v := .tuple #[.agg #[.int .i64 0, .int .i64 0, .int .i64 0, .slice none 0 0], .bool false]) ?_ rfl (readIs_bad HOK.out (below_result B6 (by omega) _ _ _ _))
        simp [results, Tryz.results91, go_sem, q0, q1, q2, q3]
    · have HOK := Lib.hid (readOk_bad h3)
      have q9 : (((partsL s.data.toList).length : Int) != 3) = true := int_bne_true (by omega)
      clear h3
      obtain ⟨q0, q1, q2, q3⟩ := cells4 r2
      have f0 := frozen4 r2 0
      have f1 := frozen4 r2 1
      have f2 := frozen4 r2 2
      have f3 := frozen4 r2 3
      go_wp2_with fail
      refine bodyPost_ret (v := .tuple #[.agg #[.int .i64 0, .int .i64 0, .int .i64 0, .slice none 0 0], .bool false]) ?_ rfl (readIs_bad HOK.out (below_result B2 (by omega) _ _ _ _))
      simp [results, Tryz.results91, go_sem, q0, q1, q2, q3]
end Go.Proofs.YtnodhkjgnegkcaaGreatDoor

/-
  The algorithms of sums in plain words.
-/
namespace Go.Proofs.YtnodhkjgnegkcaaGreatDoor

def sha1L : List UInt8 := [115, 104, 97, 49]
def sha256L : List UInt8 := [115, 104, 97, 50, 53, 54]
def sha512L : List UInt8 := [115, 104, 97, 53, 49, 50]
def h1L : List UInt8 := [104, 49]
/-- A sum that an integrity text tells. -/
def algOk (a : List UInt8) : Bool := a == sha1L || a == sha256L || a == sha512L
/-- How many bytes a sum has, or -1. -/
def longI (a : List UInt8) : Int := if a = sha1L then 20 else if a = sha256L then 32 else if a = h1L then 32 else if a = sha512L then 64 else -1
end Go.Proofs.YtnodhkjgnegkcaaGreatDoor

/-
  spec.l04Long: how many bytes a sum of an algorithm has; texts put together.
-/
namespace Go.Proofs.YtnodhkjgnegkcaaGreatDoor
open Go.RowKit

/-- Two texts put together. -/
theorem add_lists (W : World) (x y : List UInt8) (hx : x.length ≤ 1073741824) (hy : y.length ≤ 1073741824) : (Op.stringOp .add ⟨x.toArray⟩ ⟨y.toArray⟩).run Tryz.prog W = .ok (.string ⟨(x ++ y).toArray⟩) W := by
  rw [run_string_add_sum W _ _ (by simp [ByteArray.size]; omega), ByteArray.mk_append_mk]
set_option maxRecDepth 100000 in
theorem l04Long_any (a : List UInt8) (w : World) : Calls Tryz.prog 158 #[.string ⟨a.toArray⟩] w fun e w' => e = .returned (.int .i64 (longI a)) ∧ w = w' := by
  by_cases h1 : a = sha1L
  · subst h1
    go_enter Tryz.func158, Tryz.ntmps158
    go_wp2
    go_ret
    exact ⟨rfl, rfl⟩
  · by_cases h2 : a = sha256L
    · subst h2
      go_enter Tryz.func158, Tryz.ntmps158
      go_wp2
      go_ret
      exact ⟨rfl, rfl⟩
    · by_cases h0 : a = h1L
      · subst h0
        go_enter Tryz.func158, Tryz.ntmps158
        go_wp2
        go_ret
        exact ⟨rfl, rfl⟩
      · by_cases h3 : a = sha512L
        · subst h3
          go_enter Tryz.func158, Tryz.ntmps158
          go_wp2
          go_ret
          exact ⟨rfl, rfl⟩
        · have HX : Hid (longI a = -1) := Lib.hid (by unfold longI; rw [if_neg h1, if_neg h2, if_neg h0, if_neg h3])
          have q1 : (a == [115, 104, 97, 49]) = false := by simpa [sha1L] using h1
          have q2 : (a == [115, 104, 97, 50, 53, 54]) = false := by simpa [sha256L] using h2
          have q3 : (a == [104, 49]) = false := by simpa [h1L] using h0
          have q4 : (a == [115, 104, 97, 53, 49, 50]) = false := by simpa [sha512L] using h3
          clear h1 h2 h0 h3
          go_enter Tryz.func158, Tryz.ntmps158
          go_wp2
          go_ret
          exact ⟨ret_int HX.out.symm, rfl⟩

theorem RdB.at {w : World} {A : Option Addr} {n cap : Nat} {bs : List Bd} (h : RdB w (.slice A n cap) bs) (k : Nat) (hk : k < bs.length) : ∃ g off, A = some ⟨g, off, none⟩ ∧ g < w.heap.size ∧ w.cell? ⟨g, off + k * 2, none⟩ = some (.string ⟨bs[k].1.toArray⟩) ∧ w.cell? ⟨g, off + k * 2 + 1, none⟩ = some (.string ⟨bs[k].2.toArray⟩) := by
  obtain ⟨A', ca', hv, ha⟩ := h
  simp only [Value.slice.injEq] at hv
  obtain ⟨rfl, _, rfl⟩ := hv
  obtain ⟨g, off, hA, hg, hc⟩ := ha (by omega)
  exact ⟨g, off, hA, hg, (hc k hk).1, (hc k hk).2⟩
theorem keep2 {W V : World} {A B o p : Nat} {v u : Value} (hb : Below W.heap.size W V) (h : W.cell? ⟨A, o, none⟩ = some v ∧ W.cell? ⟨B, p, none⟩ = some u) : V.cell? ⟨A, o, none⟩ = some v ∧ V.cell? ⟨B, p, none⟩ = some u := ⟨keepC hb h.1, keepC hb h.2⟩

end Go.Proofs.YtnodhkjgnegkcaaGreatDoor

namespace Go.Proofs.YtnodhkjgnegkcaaGreatDoor
open Go.RowKit

theorem sm_z : Sm [[48]] := ⟨by simp, fun l h => by simp at h; subst h; simp⟩
theorem sm_readP (l : List UInt8) : Sm (readP l) := by
  have h5 := readP_sm l
  refine ⟨by omega, fun x hx => ?_⟩
  unfold readP at hx
  split at hx
  · rename_i h
    have hv := read_ver h
    have : readP l = tailL l := by simp [readP, h]
    rw [← this] at hx
    have := verOk_len hv x hx
    omega
  · cases hx
theorem next_plus {a b c : Int} (h : verOk a b c [] = true) : (c < 999999999 → nextN a b c [] 2 = (a, b, c + 1)) ∧ (¬ c < 999999999 → nextN a b c [] 2 = (a, b, c)) ∧ nextL a b c [] 2 = [] := by
  have hx : nxt a b c [] 2 = (a, b, c + 1) := by unfold nxt; simp
  have hn : nextOk a b c [] 2 = verOk a b (c + 1) [] := nextOk_of h (by decide) hx
  rw [(plus_ok h).2] at hn
  refine ⟨fun hc => ?_, fun hc => ?_, ?_⟩
  · rw [(next_good (by rw [hn]; exact decide_eq_true hc)).1, hx]
  · rw [(next_same (by rw [hn]; exact decide_eq_false hc)).1]
  · unfold nextL; split <;> rfl
theorem cmp_plus (a b c : Int) : ¬ cmpVer a b (c + 1) [] a b c [] = 0 := by
  unfold cmpVer
  rw [cmpI_same, cmpI_same, orI_zero, orI_zero]
  have : cmpI (c + 1) c = 1 := by unfold cmpI; rw [if_neg (by omega), if_pos (by omega)]
  rw [this, orI_ne _ (by omega)]
  omega
theorem cmp_self (a b c : Int) : cmpVer a b c [] a b c [] = 0 := by
  unfold cmpVer
  rw [cmpI_same, cmpI_same, cmpI_same, orI_zero, orI_zero, orI_zero]
  rfl

theorem rdS_lit1 (W : World) (n : Nat) (hn : W.heap.size = n) (x : List UInt8) (T : TypeId) : RdS (W.alloc (.cells #[.string ⟨x.toArray⟩] T)) (.slice (some ⟨n, 0, none⟩) 1 1) [x] := by
  subst hn
  refine ⟨_, 1, rfl, fun _ => ⟨W.heap.size, 0, rfl, by simp, fun k hk => ?_⟩⟩
  have hk0 : k = 0 := by simp at hk; omega
  subst hk0
  have hc : ∀ (V : World) (n : Nat) (v : Value), V.heap[n]? = some (.cells #[v] T) → V.cell? ⟨n, 0, none⟩ = some v := fun V n v h => by simp [World.cell?, h]
  exact hc _ _ _ (heap_alloc_new W (.cells #[.string ⟨x.toArray⟩] T))

set_option maxRecDepth 100000 in
set_option maxHeartbeats 4000000 in
theorem l03Below_yes (a b c : Int) (A : Option Addr) (n cap : Nat) (w : World) (hv : verOk a b c [] = true) (hc : c < 999999999) :
    Calls Tryz.prog 227 #[.agg #[.int .i64 a, .int .i64 b, .int .i64 c, .slice A n cap], .int .i64 2] w fun e w' => e = .returned (.tuple #[.string ⟨(verText a b (c + 1) [[48]]).toArray⟩, .bool true]) ∧ Below w.heap.size w w' := by
  obtain ⟨hN, _, hL⟩ := next_plus hv
  have HX := Lib.hid (fun (v : Value) (W : World) (h : RdS W v []) => specNext_any a b c 2 v [] W h sm_nil a b (c + 1) [] (hN hc) hL)
  have HC := Lib.hid (fun (va vb : Value) (W : World) (h1 : RdS W va []) (h2 : RdS W vb []) => specCompareVersion_any a b (c + 1) a b c va vb [] [] W h1 h2 sm_nil sm_nil)
  have hcp := cmp_plus a b c
  obtain ⟨z, HZ⟩ : ∃ z, Hid (cmpVer a b (c + 1) [] a b c [] = z) := ⟨_, Lib.hid rfl⟩
  simp only [HZ.out] at HC
  rw [HZ.out] at hcp
  have hz : (z == 0) = false := int_beq_false hcp
  have HT := Lib.hid (fun (v : Value) (W : World) (h : RdS W v [[48]]) => specVersionText_any a b (c + 1) v [[48]] W h sm_z)
  obtain ⟨t, HTT⟩ : ∃ t, Hid (verText a b (c + 1) [[48]] = t) := ⟨_, Lib.hid rfl⟩
  simp only [HTT.out] at HT
  rw [HTT.out]
  clear hN hL hv hcp
  have B0 : Below w.heap.size w ((w.alloc (.cells #[.int .i64 a, .int .i64 b, .int .i64 c, .slice (some ⟨w.heap.size + 1, 0, none⟩) 0 0] 117)).alloc (.cells #[] 9)) := ((Below.refl _ _).alloc (Nat.le_refl _) _).alloc (by simp) _
  have bx := keepA (heap_alloc_new w (.cells #[.int .i64 a, .int .i64 b, .int .i64 c, .slice (some ⟨w.heap.size + 1, 0, none⟩) 0 0] 117)) (.cells #[] 9)
  have hr0 : ∀ (W : World), RdS W (.slice (some ⟨w.heap.size + 1, 0, none⟩) 0 0) [] := fun W => ⟨_, _, rfl, fun h => by simp at h⟩
  go_enter Tryz.func227, Tryz.ntmps227
  go_wp2_with fail
  refine (HX.out _ _ (hr0 _)).mono ?_
  rintro e w1 ⟨u, rfl, hu, hb1⟩
  obtain ⟨U, uc, rfl⟩ := hu.slice
  have B1 := B0.trans (hb1.mono B0.size)
  have b1 := keepB bx hb1
  have hu1 : ∀ W, RdS W (.slice U 0 uc) [] := fun W => ⟨_, _, rfl, fun h => by simp at h⟩
  have hs1 : w.heap.size ≤ w1.heap.size := B1.size
  clear hb1 bx B0 hu
  have B2 : Below w.heap.size w (w1.alloc (.cells #[.int .i64 a, .int .i64 b, .int .i64 (c + 1), .slice U 0 uc] 117)) := B1.alloc B1.size _
  have b2 := keepA b1 (.cells #[.int .i64 a, .int .i64 b, .int .i64 (c + 1), .slice U 0 uc] 117)
  have n2 := heap_alloc_new w1 (.cells #[.int .i64 a, .int .i64 b, .int .i64 (c + 1), .slice U 0 uc] 117)
  obtain ⟨p0, p1, p2, p3⟩ := cells4 b2
  go_wp2_with fail
  refine (HC.out _ _ _ (hu1 _) (hr0 _)).mono ?_
  rintro e w3 ⟨rfl, hb3⟩
  have B3 := B2.trans (hb3.mono B2.size)
  have n3 := keepB n2 hb3
  clear hb3 B2 b2 n2 p0 p1 p2 p3 b1 B1
  obtain ⟨q0, q1, q2, q3⟩ := cells4 n3
  have f3 := frozen4 n3 3
  have hs4 : w1.heap.size < w3.heap.size := lt_of_heap n3
  go_wp2_with fail
  refine (HT.out _ _ (rdS_lit1 _ _ (by simp) [48] _)).mono ?_
  rintro e w5 ⟨rfl, hb5⟩
  have B4 := (B3.setCell (p := ⟨w1.heap.size, 3, none⟩) hs1 (.slice (some ⟨w3.heap.size, 0, none⟩) 1 1)).alloc (by simp; omega) (.cells #[.string ⟨#[48]⟩] 9)
  go_wp2_with fail
  go_ret2
  exact ⟨rfl, B4.trans (hb5.mono (by simp; omega))⟩

set_option maxRecDepth 100000 in
set_option maxHeartbeats 4000000 in
theorem l03Below_no (a b c : Int) (A : Option Addr) (n cap : Nat) (w : World) (hv : verOk a b c [] = true) (hc : ¬ c < 999999999) :
    Calls Tryz.prog 227 #[.agg #[.int .i64 a, .int .i64 b, .int .i64 c, .slice A n cap], .int .i64 2] w fun e w' => e = .returned (.tuple #[.string ⟨#[]⟩, .bool false]) ∧ Below w.heap.size w w' := by
  obtain ⟨_, hN, hL⟩ := next_plus hv
  have HX := Lib.hid (fun (v : Value) (W : World) (h : RdS W v []) => specNext_any a b c 2 v [] W h sm_nil a b c [] (hN hc) hL)
  have HC := Lib.hid (fun (va vb : Value) (W : World) (h1 : RdS W va []) (h2 : RdS W vb []) => specCompareVersion_any a b c a b c va vb [] [] W h1 h2 sm_nil sm_nil)
  simp only [cmp_self] at HC
  clear hN hL hv
  have B0 : Below w.heap.size w ((w.alloc (.cells #[.int .i64 a, .int .i64 b, .int .i64 c, .slice (some ⟨w.heap.size + 1, 0, none⟩) 0 0] 117)).alloc (.cells #[] 9)) := ((Below.refl _ _).alloc (Nat.le_refl _) _).alloc (by simp) _
  have bx := keepA (heap_alloc_new w (.cells #[.int .i64 a, .int .i64 b, .int .i64 c, .slice (some ⟨w.heap.size + 1, 0, none⟩) 0 0] 117)) (.cells #[] 9)
  have hr0 : ∀ (W : World), RdS W (.slice (some ⟨w.heap.size + 1, 0, none⟩) 0 0) [] := fun W => ⟨_, _, rfl, fun h => by simp at h⟩
  go_enter Tryz.func227, Tryz.ntmps227
  go_wp2_with fail
  refine (HX.out _ _ (hr0 _)).mono ?_
  rintro e w1 ⟨u, rfl, hu, hb1⟩
  obtain ⟨U, uc, rfl⟩ := hu.slice
  have B1 := B0.trans (hb1.mono B0.size)
  have b1 := keepB bx hb1
  have hu1 : ∀ W, RdS W (.slice U 0 uc) [] := fun W => ⟨_, _, rfl, fun h => by simp at h⟩
  clear hb1 bx B0 hu
  have B2 : Below w.heap.size w (w1.alloc (.cells #[.int .i64 a, .int .i64 b, .int .i64 c, .slice U 0 uc] 117)) := B1.alloc B1.size _
  have b2 := keepA b1 (.cells #[.int .i64 a, .int .i64 b, .int .i64 c, .slice U 0 uc] 117)
  obtain ⟨p0, p1, p2, p3⟩ := cells4 b2
  go_wp2_with fail
  refine (HC.out _ _ _ (hu1 _) (hr0 _)).mono ?_
  rintro e w3 ⟨rfl, hb3⟩
  go_wp2_with fail
  go_ret2
  exact ⟨rfl, B2.trans (hb3.mono B2.size)⟩

theorem cellsD {V : World} {B : Nat} {T : TypeId} {v0 v1 : Value} (h : V.heap[B]? = some (.cells #[v0, v1] T)) : V.cell? ⟨B, 0, none⟩ = some v0 ∧ V.cell? ⟨B, 1, none⟩ = some v1 ∧ ∀ o, V.frozen? ⟨B, o, none⟩ = false := by
  refine ⟨by simp [World.cell?, h], by simp [World.cell?, h], fun o => by simp [World.frozen?, h]⟩
/-- What l03Alone hands back. -/
def aloneV (ok : Bool) (l hi : List UInt8) : Value := .tuple #[.agg #[.string ⟨(if ok = true then l else []).toArray⟩, .string ⟨(if ok = true then hi else []).toArray⟩], .bool ok]

set_option maxRecDepth 100000 in
set_option maxHeartbeats 4000000 in
theorem l03Alone_any (l : List UInt8) (w : World) (hl : l.length ≤ 1048576) :
    Calls Tryz.prog 184 #[.string ⟨l.toArray⟩] w fun e w' => e = .returned (aloneV (exOk l) l (exHigh l)) ∧ Below w.heap.size w w' := by
  have HV : Hid (∀ W, Calls Tryz.prog 91 #[.string ⟨l.toArray⟩] W (ReadIs W l)) := Lib.hid (fun W => specReadVersion_any ⟨l.toArray⟩ W (by show l.toArray.size ≤ _; simp; omega))
  have B0 : Below w.heap.size w (w.alloc (.cells #[.string ⟨#[]⟩, .string ⟨#[]⟩] 166)) := (Below.refl _ _).alloc (Nat.le_refl _) _
  have bx := heap_alloc_new w (.cells #[.string ⟨#[]⟩, .string ⟨#[]⟩] 166)
  cases hok : readOk l with
  | false =>
    rw [exOk_bad hok]
    have HO := Lib.hid hok
    clear hok
    go_enter Tryz.func184, Tryz.ntmps184
    go_wp2_with fail
    refine (HV.out _).mono ?_
    rintro e w1 ⟨u, rfl, hu, hb1⟩
    obtain ⟨U, uc, rfl⟩ := hu.slice
    rw [HO.out]
    have B1 := B0.trans (hb1.mono B0.size)
    have b1 := keepB bx hb1
    have B2 := B1.alloc B1.size (.cells #[.int .i64 (readA l 0), .int .i64 (readA l 1), .int .i64 (readA l 2), .slice U (readP l).length uc] 117)
    obtain ⟨c0, c1, f1⟩ := cellsD (keepA b1 (.cells #[.int .i64 (readA l 0), .int .i64 (readA l 1), .int .i64 (readA l 2), .slice U (readP l).length uc] 117))
    go_wp2_with fail
    refine bodyPost_ret (v := aloneV false l (exHigh l)) ?_ rfl ⟨rfl, ?_⟩
    · simp [results, Tryz.results184, go_sem, aloneV, c0, c1]
    · exact (B2.setCell (p := ⟨w.heap.size, 0, none⟩) (Nat.le_refl _) _).setCell (p := ⟨w.heap.size, 1, none⟩) (Nat.le_refl _) _
  | true =>
    have HO := Lib.hid hok
    have HEX := Lib.hid (exOk_of hok)
    obtain ⟨l2, HL2⟩ : ∃ l2, Hid (l2 = l ++ [46, 48]) := ⟨_, Lib.hid rfl⟩
    have hl2 : l2.length ≤ 1048576 := by have h2 : l.length ≤ 200 := (by have := read_back hok; rw [← this]; exact verText_le); rw [HL2.out]; simp; omega
    have HV2 : Hid (∀ W, Calls Tryz.prog 91 #[.string ⟨l2.toArray⟩] W (ReadIs W l2)) := Lib.hid (fun W => specReadVersion_any ⟨l2.toArray⟩ W (by show l2.toArray.size ≤ _; simp; omega))
    have hvr := read_ver hok
    by_cases hp : readP l = []
    · have HPE := Lib.hid hp
      have HM := Lib.hid (plain_empty hok hp)
      have HH := Lib.hid (plain_high hp)
      rw [hp] at hvr
      by_cases hc : readA l 2 < 999999999
      · have HXX : Hid (exOk l = true) := Lib.hid (by rw [HEX.out, HM.out, decide_eq_true hc]; rfl)
        rw [HXX.out]
        have HB := Lib.hid (fun (U : Option Addr) (n cap : Nat) W => l03Below_yes (readA l 0) (readA l 1) (readA l 2) U n cap W hvr hc)
        rw [← HH.out] at HB
        obtain ⟨hi, HHI⟩ : ∃ hi, Hid (exHigh l = hi) := ⟨_, Lib.hid rfl⟩
        simp only [HHI.out] at HB
        rw [HHI.out]
        clear hok hp hc hvr
        go_enter Tryz.func184, Tryz.ntmps184
        go_wp2_with fail
        refine (HV.out _).mono ?_
        rintro e w1 ⟨u, rfl, hu, hb1⟩
        obtain ⟨U, uc, rfl⟩ := hu.slice
        rw [HO.out, HPE.out]
        have B1 := B0.trans (hb1.mono B0.size)
        have b1 := keepB bx hb1
        have B2 := B1.alloc B1.size (.cells #[.int .i64 (readA l 0), .int .i64 (readA l 1), .int .i64 (readA l 2), .slice U 0 uc] 117)
        have b2 := keepA b1 (.cells #[.int .i64 (readA l 0), .int .i64 (readA l 1), .int .i64 (readA l 2), .slice U 0 uc] 117)
        clear hb1 bx B0 hu b1 B1
        go_wp2_with fail
        refine (HB.out _ _ _ _).mono ?_
        rintro e w3 ⟨rfl, hb3⟩
        have B3 := B2.trans (hb3.mono B2.size)
        obtain ⟨c0, c1, f1⟩ := cellsD (keepB b2 hb3)
        go_wp2_with fail
        refine bodyPost_ret (v := aloneV true l hi) ?_ rfl ⟨rfl, ?_⟩
        · simp [results, Tryz.results184, go_sem, aloneV, c0, c1]
        · exact (B3.setCell (p := ⟨w.heap.size, 0, none⟩) (Nat.le_refl _) _).setCell (p := ⟨w.heap.size, 1, none⟩) (Nat.le_refl _) _
      · have HXX : Hid (exOk l = false) := Lib.hid (by rw [HEX.out, HM.out, decide_eq_false hc]; rfl)
        rw [HXX.out]
        have HB := Lib.hid (fun (U : Option Addr) (n cap : Nat) W => l03Below_no (readA l 0) (readA l 1) (readA l 2) U n cap W hvr hc)
        obtain ⟨hi, HHI⟩ : ∃ hi, Hid (exHigh l = hi) := ⟨_, Lib.hid rfl⟩
        rw [HHI.out]
        clear hok hp hc hvr
        go_enter Tryz.func184, Tryz.ntmps184
        go_wp2_with fail
        refine (HV.out _).mono ?_
        rintro e w1 ⟨u, rfl, hu, hb1⟩
        obtain ⟨U, uc, rfl⟩ := hu.slice
        rw [HO.out, HPE.out]
        have B1 := B0.trans (hb1.mono B0.size)
        have b1 := keepB bx hb1
        have B2 := B1.alloc B1.size (.cells #[.int .i64 (readA l 0), .int .i64 (readA l 1), .int .i64 (readA l 2), .slice U 0 uc] 117)
        have b2 := keepA b1 (.cells #[.int .i64 (readA l 0), .int .i64 (readA l 1), .int .i64 (readA l 2), .slice U 0 uc] 117)
        clear hb1 bx B0 hu b1 B1
        go_wp2_with fail
        refine (HB.out _ _ _ _).mono ?_
        rintro e w3 ⟨rfl, hb3⟩
        have B3 := B2.trans (hb3.mono B2.size)
        obtain ⟨c0, c1, f1⟩ := cellsD (keepB b2 hb3)
        go_wp2_with fail
        refine bodyPost_ret (v := aloneV false l hi) ?_ rfl ⟨rfl, ?_⟩
        · simp [results, Tryz.results184, go_sem, aloneV, c0, c1]
        · exact (B3.setCell (p := ⟨w.heap.size, 0, none⟩) (Nat.le_refl _) _).setCell (p := ⟨w.heap.size, 1, none⟩) (Nat.le_refl _) _
    · have HMO := Lib.hid (more_ok hok hp)
      have HMT := Lib.hid (more_text hok hp)
      rw [← HL2.out] at HMO HMT
      have hpl : ¬ (readP l).length = 0 := fun e => hp (List.eq_nil_of_length_eq_zero e)
      have h5 := readP_sm l
      have s1 : ∀ W, (Op.stringOp .add ⟨l.toArray⟩ ⟨#[46, 48]⟩).run Tryz.prog W = .ok (.string ⟨l2.toArray⟩) W := fun W => by rw [HL2.out]; exact add_lists W l [46, 48] (by omega) (by simp)
      obtain ⟨n, HNN⟩ : ∃ n, Hid ((readP l).length = n) := ⟨_, Lib.hid rfl⟩
      rw [HNN.out] at hpl h5
      have hg : (0 : Int) < (n : Int) := by omega
      cases he : (exHigh l).isEmpty with
      | true =>
        have HXX : Hid (exOk l = false) := Lib.hid (by rw [HEX.out, he]; rfl)
        have HOO : Hid (readOk l2 = false) := Lib.hid (by rw [HMO.out, he]; rfl)
        rw [HXX.out]
        obtain ⟨hi, HHI⟩ : ∃ hi, Hid (exHigh l = hi) := ⟨_, Lib.hid rfl⟩
        rw [HHI.out]
        clear hok hp hvr he HMT
        go_enter Tryz.func184, Tryz.ntmps184
        go_wp2_with fail
        refine (HV.out _).mono ?_
        rintro e w1 ⟨u, rfl, hu, hb1⟩
        obtain ⟨U, uc, rfl⟩ := hu.slice
        rw [HO.out, HNN.out]
        have B1 := B0.trans (hb1.mono B0.size)
        have b1 := keepB bx hb1
        have B2 := B1.alloc B1.size (.cells #[.int .i64 (readA l 0), .int .i64 (readA l 1), .int .i64 (readA l 2), .slice U n uc] 117)
        have b2 := keepA b1 (.cells #[.int .i64 (readA l 0), .int .i64 (readA l 1), .int .i64 (readA l 2), .slice U n uc] 117)
        clear hb1 bx B0 hu b1 B1
        go_wp2_with fail
        refine (HV2.out _).mono ?_
        rintro e w3 ⟨u3, rfl, hu3, hb3⟩
        obtain ⟨U3, uc3, rfl⟩ := hu3.slice
        rw [HOO.out]
        have B3 := B2.trans (hb3.mono B2.size)
        obtain ⟨c0, c1, f1⟩ := cellsD (keepB b2 hb3)
        go_wp2_with fail
        refine bodyPost_ret (v := aloneV false l hi) ?_ rfl ⟨rfl, ?_⟩
        · simp [results, Tryz.results184, go_sem, aloneV, c0, c1]
        · exact (B3.setCell (p := ⟨w.heap.size, 0, none⟩) (Nat.le_refl _) _).setCell (p := ⟨w.heap.size, 1, none⟩) (Nat.le_refl _) _
      | false =>
        have HXX : Hid (exOk l = true) := Lib.hid (by rw [HEX.out, he]; rfl)
        have HOO : Hid (readOk l2 = true) := Lib.hid (by rw [HMO.out, he]; rfl)
        have HHH : Hid (exHigh l = l2) := Lib.hid (HMT.out he)
        rw [HXX.out, HHH.out]
        clear hok hp hvr he HMT
        go_enter Tryz.func184, Tryz.ntmps184
        go_wp2_with fail
        refine (HV.out _).mono ?_
        rintro e w1 ⟨u, rfl, hu, hb1⟩
        obtain ⟨U, uc, rfl⟩ := hu.slice
        rw [HO.out, HNN.out]
        have B1 := B0.trans (hb1.mono B0.size)
        have b1 := keepB bx hb1
        have B2 := B1.alloc B1.size (.cells #[.int .i64 (readA l 0), .int .i64 (readA l 1), .int .i64 (readA l 2), .slice U n uc] 117)
        have b2 := keepA b1 (.cells #[.int .i64 (readA l 0), .int .i64 (readA l 1), .int .i64 (readA l 2), .slice U n uc] 117)
        clear hb1 bx B0 hu b1 B1
        go_wp2_with fail
        refine (HV2.out _).mono ?_
        rintro e w3 ⟨u3, rfl, hu3, hb3⟩
        obtain ⟨U3, uc3, rfl⟩ := hu3.slice
        rw [HOO.out]
        have B3 := B2.trans (hb3.mono B2.size)
        obtain ⟨c0, c1, f1⟩ := cellsD (keepB b2 hb3)
        go_wp2_with fail
        refine bodyPost_ret (v := aloneV true l l2) ?_ rfl ⟨rfl, ?_⟩
        · simp [results, Tryz.results184, go_sem, aloneV, c0, c1]
        · exact (B3.setCell (p := ⟨w.heap.size, 0, none⟩) (Nat.le_refl _) _).setCell (p := ⟨w.heap.size, 1, none⟩) (Nat.le_refl _) _

/-- What Exact hands back: a row of its own with the bounds. -/
def ExactIs (w : World) (l : List UInt8) (e : Ending) (w' : World) : Prop := ∃ g, e = .returned (.slice (some ⟨g, 0, none⟩) (exB l).length (exB l).length) ∧ w.heap.size ≤ g ∧ w'.heap[g]? = some (.cells (flat2 (exB l)).toArray 166) ∧ Below w.heap.size w w'

set_option maxRecDepth 100000 in
set_option maxHeartbeats 2000000 in
theorem specExact_any (l : List UInt8) (w : World) (hl : l.length ≤ 1048576) : Calls Tryz.prog 159 #[.string ⟨l.toArray⟩] w (ExactIs w l) := by
  have HA := Lib.hid (l03Alone_any l w hl)
  cases ho : exOk l with
  | false =>
    rw [ho] at HA
    have HX := Lib.hid (exB_no ho)
    clear ho
    go_enter Tryz.func159, Tryz.ntmps159
    go_wp2_with fail
    refine HA.out.mono ?_
    rintro e w1 ⟨rfl, hb1⟩
    unfold aloneV
    go_wp2_with fail
    go_ret
    refine ⟨w1.heap.size + 1, by rw [HX.out]; rfl, by have := hb1.size; omega, ?_, (hb1.alloc hb1.size _).alloc (by have := hb1.size; simp; omega) _⟩
    rw [HX.out]
    exact heap_new (by simp) _
  | true =>
    rw [ho] at HA
    have HX := Lib.hid (exB_yes ho)
    obtain ⟨hi, HHI⟩ : ∃ hi, Hid (exHigh l = hi) := ⟨_, Lib.hid rfl⟩
    rw [HHI.out] at HA HX
    clear ho
    go_enter Tryz.func159, Tryz.ntmps159
    go_wp2_with fail
    refine HA.out.mono ?_
    rintro e w1 ⟨rfl, hb1⟩
    unfold aloneV
    go_wp2_with fail
    go_ret
    refine ⟨w1.heap.size + 1, by rw [HX.out]; rfl, by have := hb1.size; omega, ?_, (hb1.alloc hb1.size _).alloc (by have := hb1.size; simp; omega) _⟩
    rw [HX.out]
    exact heap_new (by simp) _
end Go.Proofs.YtnodhkjgnegkcaaGreatDoor
