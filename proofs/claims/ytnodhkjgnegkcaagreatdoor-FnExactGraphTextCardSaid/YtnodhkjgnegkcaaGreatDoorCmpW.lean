/-
  spec.CompareVersion: how two versions stand.
-/
import Derived.Test.YtnodhkjgnegkcaaGreatDoorCmpS
import Derived.Test.YtnodhkjgnegkcaaGreatDoorLawB
import Derived.LoopN
import Derived.StillTailTactics
import Derived.Deep.QuietTactic
import Derived.BigQuiet
namespace Go.Proofs.YtnodhkjgnegkcaaGreatDoor
open Go.RowKit

set_option maxRecDepth 100000 in
set_option maxHeartbeats 4000000 in
theorem specCompareVersion_any (a b c a' b' c' : Int) (va vb : Value) (x y : List (List UInt8)) (w : World) (ha : RdS w va x) (hb : RdS w vb y) (hx : Sm x) (hy : Sm y) :
    Calls Tryz.prog 188 #[.agg #[.int .i64 a, .int .i64 b, .int .i64 c, va], .agg #[.int .i64 a', .int .i64 b', .int .i64 c', vb]] w fun e w' => e = .returned (.int .i64 (cmpVer a b c x a' b' c' y)) ∧ Below w.heap.size w w' := by
  have HV : Hid (cmpVer a b c x a' b' c' y = orI (cmpI a a') (orI (cmpI b b') (orI (cmpI c c') (cmpPre x y)))) := Lib.hid rfl
  obtain ⟨A, ca, rfl, ha⟩ := ha
  obtain ⟨B, cb, rfl, hb⟩ := hb
  have hx1 := hx.1
  have hy1 := hy.1
  have HX := Lib.hid hx.2
  have HY := Lib.hid hy.2
  clear hx hy
  obtain ⟨p, HP⟩ : ∃ z, Hid (cmpI a a' = z) := ⟨_, Lib.hid rfl⟩
  obtain ⟨q, HQ⟩ : ∃ z, Hid (cmpI b b' = z) := ⟨_, Lib.hid rfl⟩
  obtain ⟨r, HR⟩ : ∃ z, Hid (cmpI c c' = z) := ⟨_, Lib.hid rfl⟩
  have HV2 : Hid (cmpVer a b c x a' b' c' y = orI p (orI q (orI r (cmpPre x y)))) := Lib.hid (by rw [HV.out, HP.out, HQ.out, HR.out])
  have L1 : ∀ W, Calls Tryz.prog 228 #[.int .i64 a, .int .i64 a'] W fun e w' => e = .returned (.int .i64 p) ∧ w' = W := fun W => by have := l02Less_any a a' W; rw [HP.out] at this; exact this
  have L2 : ∀ W, Calls Tryz.prog 228 #[.int .i64 b, .int .i64 b'] W fun e w' => e = .returned (.int .i64 q) ∧ w' = W := fun W => by have := l02Less_any b b' W; rw [HQ.out] at this; exact this
  have L3 : ∀ W, Calls Tryz.prog 228 #[.int .i64 c, .int .i64 c'] W fun e w' => e = .returned (.int .i64 r) ∧ w' = W := fun W => by have := l02Less_any c c' W; rw [HR.out] at this; exact this
  have HL1 := Lib.hid L1
  have HL2 := Lib.hid L2
  have HL3 := Lib.hid L3
  clear L1 L2 L3 HV
  have HB : Below w.heap.size w ((w.alloc (.cells #[.int .i64 a, .int .i64 b, .int .i64 c, .slice A x.length ca] 117)).alloc (.cells #[.int .i64 a', .int .i64 b', .int .i64 c', .slice B y.length cb] 117)) := ((Below.refl _ _).alloc (Nat.le_refl _) _).alloc (by simp) _
  go_enter Tryz.func188, Tryz.ntmps188
  go_wp2_with fail
  have c0 : ((w.alloc (.cells #[.int .i64 a, .int .i64 b, .int .i64 c, .slice A x.length ca] 117)).alloc (.cells #[.int .i64 a', .int .i64 b', .int .i64 c', .slice B y.length cb] 117)).cell? ⟨w.heap.size, 0, none⟩ = some (.int .i64 a) := by simp
  have c1 : ((w.alloc (.cells #[.int .i64 a, .int .i64 b, .int .i64 c, .slice A x.length ca] 117)).alloc (.cells #[.int .i64 a', .int .i64 b', .int .i64 c', .slice B y.length cb] 117)).cell? ⟨w.heap.size, 1, none⟩ = some (.int .i64 b) := by simp
  have c2 : ((w.alloc (.cells #[.int .i64 a, .int .i64 b, .int .i64 c, .slice A x.length ca] 117)).alloc (.cells #[.int .i64 a', .int .i64 b', .int .i64 c', .slice B y.length cb] 117)).cell? ⟨w.heap.size, 2, none⟩ = some (.int .i64 c) := by simp
  have c3 : ((w.alloc (.cells #[.int .i64 a, .int .i64 b, .int .i64 c, .slice A x.length ca] 117)).alloc (.cells #[.int .i64 a', .int .i64 b', .int .i64 c', .slice B y.length cb] 117)).cell? ⟨w.heap.size, 3, none⟩ = some (.slice A x.length ca) := by simp
  have e0 : ((w.alloc (.cells #[.int .i64 a, .int .i64 b, .int .i64 c, .slice A x.length ca] 117)).alloc (.cells #[.int .i64 a', .int .i64 b', .int .i64 c', .slice B y.length cb] 117)).cell? ⟨w.heap.size + 1, 0, none⟩ = some (.int .i64 a') := by simp
  have e1 : ((w.alloc (.cells #[.int .i64 a, .int .i64 b, .int .i64 c, .slice A x.length ca] 117)).alloc (.cells #[.int .i64 a', .int .i64 b', .int .i64 c', .slice B y.length cb] 117)).cell? ⟨w.heap.size + 1, 1, none⟩ = some (.int .i64 b') := by simp
  have e2 : ((w.alloc (.cells #[.int .i64 a, .int .i64 b, .int .i64 c, .slice A x.length ca] 117)).alloc (.cells #[.int .i64 a', .int .i64 b', .int .i64 c', .slice B y.length cb] 117)).cell? ⟨w.heap.size + 1, 2, none⟩ = some (.int .i64 c') := by simp
  have e3 : ((w.alloc (.cells #[.int .i64 a, .int .i64 b, .int .i64 c, .slice A x.length ca] 117)).alloc (.cells #[.int .i64 a', .int .i64 b', .int .i64 c', .slice B y.length cb] 117)).cell? ⟨w.heap.size + 1, 3, none⟩ = some (.slice B y.length cb) := by simp
  have l1 : w.heap.size + 1 < ((w.alloc (.cells #[.int .i64 a, .int .i64 b, .int .i64 c, .slice A x.length ca] 117)).alloc (.cells #[.int .i64 a', .int .i64 b', .int .i64 c', .slice B y.length cb] 117)).heap.size := by simp
  obtain ⟨n0, hn0⟩ : ∃ n, n = w.heap.size := ⟨_, rfl⟩
  rw [← hn0] at HB c0 c1 c2 c3 e0 e1 e2 e3 l1 ⊢
  obtain ⟨W, hW⟩ : ∃ W, W = ((w.alloc (.cells #[.int .i64 a, .int .i64 b, .int .i64 c, .slice A x.length ca] 117)).alloc (.cells #[.int .i64 a', .int .i64 b', .int .i64 c', .slice B y.length cb] 117)) := ⟨_, rfl⟩
  rw [← hW] at HB c0 c1 c2 c3 e0 e1 e2 e3 l1 ⊢
  have HW := Lib.hid hW
  clear hW
  have HN0 := Lib.hid hn0
  clear hn0
  go_region_held3 (fun w' => w'.cell? ⟨n0, 0, none⟩ = some (.int .i64 a) ∧ w'.cell? ⟨n0, 1, none⟩ = some (.int .i64 b) ∧ w'.cell? ⟨n0, 2, none⟩ = some (.int .i64 c) ∧ w'.cell? ⟨n0, 3, none⟩ = some (.slice A x.length ca) ∧ w'.cell? ⟨n0 + 1, 0, none⟩ = some (.int .i64 a') ∧ w'.cell? ⟨n0 + 1, 1, none⟩ = some (.int .i64 b') ∧ w'.cell? ⟨n0 + 1, 2, none⟩ = some (.int .i64 c') ∧ w'.cell? ⟨n0 + 1, 3, none⟩ = some (.slice B y.length cb)) (first | exact ⟨c0, c1, c2, c3, e0, e1, e2, e3⟩ | go_keep) ((first | (go_at_call 228; (with_reducible refine (HL1.out _).mono ?_); rintro e w' ⟨rfl, rfl⟩) | (go_at_call 228; (with_reducible refine (HL2.out _).mono ?_); rintro e w' ⟨rfl, rfl⟩) | (go_at_call 228; (with_reducible refine (HL3.out _).mono ?_); rintro e w' ⟨rfl, rfl⟩)))
  go_wp2_with fail
  have o0 : (W.alloc (.cells #[.int .i64 p, .int .i64 q, .int .i64 r] 3)).drew.cell? ⟨W.heap.size, 0, none⟩ = some (.int .i64 p) := by simp
  have o1 : (W.alloc (.cells #[.int .i64 p, .int .i64 q, .int .i64 r] 3)).drew.cell? ⟨W.heap.size, 1, none⟩ = some (.int .i64 q) := by simp
  have o2 : (W.alloc (.cells #[.int .i64 p, .int .i64 q, .int .i64 r] 3)).drew.cell? ⟨W.heap.size, 2, none⟩ = some (.int .i64 r) := by simp
  have BN : Below W.heap.size W (W.alloc (.cells #[.int .i64 p, .int .i64 q, .int .i64 r] 3)).drew := ((Below.refl _ W).alloc (Nat.le_refl _) _).trans (below_drewN _ _ 1)
  have f3 := (BN.cell (p := ⟨n0, 3, none⟩) (by show n0 < _; omega)).trans c3
  have g3 := (BN.cell (p := ⟨n0 + 1, 3, none⟩) l1).trans e3
  have BV := HB.trans (BN.mono (by omega))
  clear c0 c1 c2 c3 e0 e1 e2 e3 BN HL1 HL2 HL3 HB
  generalize (W.alloc (.cells #[.int .i64 p, .int .i64 q, .int .i64 r] 3)).drew = V at o0 o1 o2 f3 g3 BV ⊢
  obtain ⟨m0, hm0⟩ : ∃ m, m = W.heap.size := ⟨_, rfl⟩
  rw [← hm0] at o0 o1 o2 ⊢
  clear hm0 l1
  rw [HN0.out] at BV
  by_cases hp : p = 0
  · by_cases hq : q = 0
    · by_cases hr : r = 0
      · have HO : Hid (cmpVer a b c x a' b' c' y = cmpPre x y) := Lib.hid (by rw [HV2.out, hp, hq, hr]; rfl)
        have q1 : (p != 0) = false := by simp [hp]
        have q2 : (q != 0) = false := by simp [hq]
        have q3 : (r != 0) = false := by simp [hr]
        clear hp hq hr HV2
        by_cases h1 : x = []
        · have HE : Hid (cmpVer a b c x a' b' c' y = cmpI y.length x.length) := Lib.hid (HO.out.trans (cmpPre_empty (.inl h1)))
          have t1 : ((x.length : Int) == 0) = true := by simp [h1]
          clear h1 ha hb
          refine wp_loop_rounds 4 ?_
          rw [rounds_succ]; go_wp2
          rw [rounds_succ]; go_wp2
          rw [rounds_succ]; go_wp2
          rw [rounds_succ]
          go_wp2_with (go_at_call 228; refine (l02Less_any _ _ _).mono ?_; rintro e w' ⟨rfl, rfl⟩)
          go_ret
          exact ⟨ret_int HE.out.symm, BV⟩
        · have hl1 : 0 < x.length := by cases x <;> simp_all
          have t1 : ((x.length : Int) == 0) = false := int_beq_false (by omega)
          by_cases h2 : y = []
          · have HE : Hid (cmpVer a b c x a' b' c' y = cmpI y.length x.length) := Lib.hid (HO.out.trans (cmpPre_empty (.inr h2)))
            have t2 : ((y.length : Int) == 0) = true := by simp [h2]
            clear h1 h2 ha hb
            refine wp_loop_rounds 4 ?_
            rw [rounds_succ]; go_wp2
            rw [rounds_succ]; go_wp2
            rw [rounds_succ]; go_wp2
            rw [rounds_succ]
            go_wp2_with (go_at_call 228; refine (l02Less_any _ _ _).mono ?_; rintro e w' ⟨rfl, rfl⟩)
            go_ret
            exact ⟨ret_int HE.out.symm, BV⟩
          · have hl2 : 0 < y.length := by cases y <;> simp_all
            have t2 : ((y.length : Int) == 0) = false := int_beq_false (by omega)
            have HE : Hid (cmpVer a b c x a' b' c' y = cmpL x y) := Lib.hid (HO.out.trans (cmpPre_full (by rintro (h | h); exact h1 h; exact h2 h)))
            clear h1 h2
            obtain ⟨g, off, rfl, hg, hca⟩ := ha hl1
            obtain ⟨g2, off2, rfl, hg2, hcb⟩ := hb hl2
            have HCA : Hid (∀ k (h : k < x.length), V.cell? ⟨g, off + k, none⟩ = some (.string ⟨x[k].toArray⟩)) := Lib.hid (fun k h => (BV.cell (p := ⟨g, off + k, none⟩) hg).trans (hca k h))
            have HCB : Hid (∀ k (h : k < y.length), V.cell? ⟨g2, off2 + k, none⟩ = some (.string ⟨y[k].toArray⟩)) := Lib.hid (fun k h => (BV.cell (p := ⟨g2, off2 + k, none⟩) hg2).trans (hcb k h))
            clear ha hb hca hcb hg hg2
            refine wp_loop_rounds 4 ?_
            rw [rounds_succ]; go_wp2
            rw [rounds_succ]; go_wp2
            rw [rounds_succ]; go_wp2
            rw [rounds_succ]; go_wp2
            go_loopw [7, 8] (fun i _ wr => ∃ k n : Nat, k ≤ x.length ∧ k ≤ y.length ∧ i = .int .i64 k ∧ wr = V.drewN n ∧ Hid (cmpL x y = cmpL (x.drop k) (y.drop k))) (fun i _ _ => x.length - (intOf i).toNat)
            case atStart => exact ⟨0, 0, Nat.zero_le _, Nat.zero_le _, rfl, rfl, Lib.hid (by simp)⟩
            case round =>
              obtain ⟨k, n, hk, hk', rfl, hwr, H⟩ := hrel
              clear o0 o1 o2 q1 q2 q3 t1 t2
              have f4 : wr.cell? ⟨n0, 3, none⟩ = some (.slice (some ⟨g, off, none⟩) x.length ca) := by rw [hwr]; exact f3
              have g4 : wr.cell? ⟨n0 + 1, 3, none⟩ = some (.slice (some ⟨g2, off2, none⟩) y.length cb) := by rw [hwr]; exact g3
              have HWR := Lib.hid hwr
              have BW : Below w.heap.size w wr := by rw [hwr]; exact BV.trans (below_drewN _ _ _)
              clear hwr
              by_cases hlt : k < x.length ∧ k < y.length
              · obtain ⟨j1, j2⟩ := hlt
                have d1 : wr.cell? ⟨g, off + k, none⟩ = some (.string ⟨x[k].toArray⟩) := by rw [HWR.out]; exact HCA.out k j1
                have d2 : wr.cell? ⟨g2, off2 + k, none⟩ = some (.string ⟨y[k].toArray⟩) := by rw [HWR.out]; exact HCB.out k j2
                have k0 : (0 : Int) ≤ (k : Int) := by omega
                have k1 : (k : Int) < (x.length : Int) := by omega
                have k2 : (k : Int) < (y.length : Int) := by omega
                have HS := Lib.hid (cmpL_step j1 j2)
                obtain ⟨z, HZ⟩ : ∃ z, Hid (cmpPart x[k] y[k] = z) := ⟨_, Lib.hid rfl⟩
                have hP : ∀ W, Calls Tryz.prog 229 #[.string ⟨x[k].toArray⟩, .string ⟨y[k].toArray⟩] W fun e w' => e = .returned (.int .i64 z) ∧ w' = W := fun W => by
                  have := l02Part_any ⟨x[k].toArray⟩ ⟨y[k].toArray⟩ W (by rw [size_of]; exact HX.out _ (List.getElem_mem j1)) (by rw [size_of]; exact HY.out _ (List.getElem_mem j2))
                  rw [show cmpPart (⟨x[k].toArray⟩ : ByteArray).data.toList (⟨y[k].toArray⟩ : ByteArray).data.toList = z from HZ.out] at this
                  exact this
                have HP2 := Lib.hid hP
                clear hP
                by_cases hz : z = 0
                · have hz' : (z != 0) = false := by simp [hz]
                  have HN : Hid (cmpL x y = cmpL (x.drop (k + 1)) (y.drop (k + 1))) := Lib.hid (by rw [H.out, HS.out, HZ.out, hz]; rfl)
                  clear hz
                  go_wp2_with fail
                  go_quiet ((go_at_call 229; exact Calls.quiet_of_same (HP2.out _)))
                  go_wp2_with fail
                  go_roundw
                  case rel => exact ⟨k + 1, n + nq, by omega, by omega, by go_num, by rw [HWR.out]; simp [World.drewN]; omega, HN⟩
                  case measure => simp [intOf]; omega
                · have hz' : (z != 0) = true := by simp [hz]
                  have HN : Hid (cmpVer a b c x a' b' c' y = z) := Lib.hid (by rw [HE.out, H.out, HS.out, HZ.out]; exact orI_ne _ hz)
                  clear hz
                  go_wp2_with fail
                  go_quiet ((go_at_call 229; exact Calls.quiet_of_same (HP2.out _)))
                  go_wp2_with fail
                  go_ret
                  exact ⟨ret_int HN.out.symm, BW.trans (below_drewN _ _ _)⟩
              · have HN : Hid (cmpVer a b c x a' b' c' y = cmpI x.length y.length) := Lib.hid (by rw [HE.out, H.out]; exact cmpL_len hk hk' hlt)
                by_cases j1 : k < x.length
                · have j2 : ¬ k < y.length := by omega
                  have j3 : decide (k < y.length) = false := decide_eq_false j2
                  have k1 : (k : Int) < (x.length : Int) := by omega
                  clear hlt
                  go_wp2_with (go_at_call 228; refine (l02Less_any _ _ _).mono ?_; rintro e w' ⟨rfl, rfl⟩)
                  go_ret
                  exact ⟨ret_int HN.out.symm, BW⟩
                · have j2 : decide ((k : Int) < (x.length : Int)) = false := by simp; omega
                  clear hlt
                  go_wp2_with (go_at_call 228; refine (l02Less_any _ _ _).mono ?_; rintro e w' ⟨rfl, rfl⟩)
                  go_ret
                  exact ⟨ret_int HN.out.symm, BW⟩
      · have HO : Hid (cmpVer a b c x a' b' c' y = r) := Lib.hid (by rw [HV2.out, hp, hq, orI_zero, orI_zero, orI_ne _ hr])
        have q1 : (p != 0) = false := by simp [hp]
        have q2 : (q != 0) = false := by simp [hq]
        have q3 : (r != 0) = true := by simp [hr]
        clear hp hq hr HV2 ha hb
        refine wp_loop_rounds 3 ?_
        rw [rounds_succ]; go_wp2
        rw [rounds_succ]; go_wp2
        rw [rounds_succ]; go_wp2
        go_ret
        exact ⟨ret_int HO.out.symm, BV⟩
    · have HO : Hid (cmpVer a b c x a' b' c' y = q) := Lib.hid (by rw [HV2.out, hp, orI_zero, orI_ne _ hq])
      have q1 : (p != 0) = false := by simp [hp]
      have q2 : (q != 0) = true := by simp [hq]
      clear hp hq HV2 ha hb
      refine wp_loop_rounds 2 ?_
      rw [rounds_succ]; go_wp2
      rw [rounds_succ]; go_wp2
      go_ret
      exact ⟨ret_int HO.out.symm, BV⟩
  · have HO : Hid (cmpVer a b c x a' b' c' y = p) := Lib.hid (by rw [HV2.out, orI_ne _ hp])
    have q1 : (p != 0) = true := by simp [hp]
    clear hp HV2 ha hb
    refine wp_loop_rounds 1 ?_
    rw [rounds_succ]; go_wp2
    go_ret
    exact ⟨ret_int HO.out.symm, BV⟩
end Go.Proofs.YtnodhkjgnegkcaaGreatDoor
