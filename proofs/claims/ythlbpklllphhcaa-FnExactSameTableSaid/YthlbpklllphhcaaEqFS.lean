/-
  Whether two tables are the same: spec.SameTable.
-/
import Derived.Test.YthlbpklllphhcaaEqF
import Derived.RegionTactic
import Derived.ChangeAlike
namespace Go.Proofs.Ythlbpklllphhcaa
open Go.RowKit

set_option maxRecDepth 100000 in
set_option maxHeartbeats 8000000 in
theorem specSameTable_any (t u : Tb) (a a' : Value) (w : World) (ha : RdFs w a t.fields) (ha' : RdFs w a' u.fields) (st : SmTb t) (su : SmTb u) :
    Calls Try.prog 37 #[tbV t a, tbV u a'] w fun e w' => e = .returned (.bool (eqTb t u)) ∧ Below w.heap.size w w' := by
  have HA := Lib.hid ha
  have HB := Lib.hid ha'
  have HP := Lib.hid st.fields
  have HQ := Lib.hid su.fields
  have la : t.fields.length ≤ 1048576 := by have := st.fields; unfold SmFs at this; omega
  have lb : u.fields.length ≤ 1048576 := by have := su.fields; unfold SmFs at this; omega
  obtain ⟨B, cb, rfl⟩ := ha.slice
  obtain ⟨B', cb', rfl⟩ := ha'.slice
  obtain ⟨tn, ps⟩ := t
  obtain ⟨un, qs⟩ := u
  unfold tbV
  simp only at HA HB HP HQ la lb ⊢
  clear ha ha' st su
  obtain ⟨r, HR⟩ : ∃ r, Hid (eqTb ⟨tn, ps⟩ ⟨un, qs⟩ = r) := ⟨_, Lib.hid rfl⟩
  rw [HR.out]
  have B0 : Below w.heap.size w ((w.alloc (.cells #[.string ⟨tn.toArray⟩, .slice B ps.length cb] 52)).alloc (.cells #[.string ⟨un.toArray⟩, .slice B' qs.length cb'] 52)) := ((Below.refl _ _).alloc (Nat.le_refl _) _).alloc (by simp) _
  have bx1 := keepA (heap_alloc_new w (.cells #[.string ⟨tn.toArray⟩, .slice B ps.length cb] 52)) (.cells #[.string ⟨un.toArray⟩, .slice B' qs.length cb'] 52)
  have bx2 := heap_new (W := w.alloc (.cells #[.string ⟨tn.toArray⟩, .slice B ps.length cb] 52)) (n := w.heap.size + 1) (by simp) (.cells #[.string ⟨un.toArray⟩, .slice B' qs.length cb'] 52)
  cases hx : (tn == un)
  · have HX : Hid (r = false) := Lib.hid (by rw [← HR.out]; unfold eqTb; rw [hx]; rfl)
    go_enter Try.func37, Try.ntmps37
    go_wp2_with fail
    go_ret
    exact ⟨ret_bool HX.out.symm, B0⟩
  by_cases hl : ps.length = qs.length
  · have q0 : ((ps.length : Int) != (qs.length : Int)) = false := int_bne_false (by omega)
    have HL := Lib.hid hl
    have lab : ps.length ≤ qs.length := by omega
    have lba : qs.length ≤ ps.length := by omega
    clear hl
    have HF : Hid (r = (ps == qs)) := Lib.hid (by rw [← HR.out]; unfold eqTb; rw [hx]; simp)
    go_enter Try.func37, Try.ntmps37
    go_wp2_with fail
    generalize World.alloc _ _ = V at B0 bx1 bx2 ⊢
    clear q0
    go_loopw [5, 6, 7] (fun i _ _ wr => ∃ k : Nat, k ≤ ps.length ∧ i = .int .i64 k ∧ EqK ps qs k ∧ Below V.heap.size V wr) (fun i _ _ _ => ps.length - (intOf i).toNat)
    case atStart => exact ⟨0, Nat.zero_le _, rfl, eqK_zero _ _, Below.refl _ _⟩
    case round =>
      obtain ⟨k, hk, rfl, HE, hbv⟩ := hrel
      have e1 := keepB bx1 hbv
      have e2 := keepB bx2 hbv
      have m1 := (cellsG e1).2
      have m2 := (cellsG e2).2
      have l1 := lt_of_heap e1
      have l2 := lt_of_heap e2
      have hbr := B0.trans (hbv.mono B0.size)
      by_cases hlt : k < ps.length
      · obtain ⟨g, off, rfl, hg, a, d0, d1, d2, d3, ra⟩ := (HA.out.below hbr).at k hlt
        obtain ⟨g', off', rfl, hg', a', x0, x1, x2, x3, ra'⟩ := (HB.out.below hbr).at k (by omega)
        have HC := Lib.hid (fun (W : World) (h : Below wr.heap.size wr W) => l04SameTexts_any a a' ps[k].list (qs[k]'(by omega)).list W (ra.below h) (ra'.below h) (by have := (HP.out.get k hlt).list; omega) (by have := (HQ.out.get k (by omega)).list; omega))
        obtain ⟨A1, c1, rfl⟩ := ra.slice
        obtain ⟨A3, c3, rfl⟩ := ra'.slice
        have k0 : (0 : Int) ≤ (k : Int) := by omega
        have k1 : (k : Int) < (ps.length : Int) := by omega
        have k2 : (k : Int) < (qs.length : Int) := by omega
        clear ra ra'
        obtain ⟨z, HZ⟩ : ∃ z, Hid (eqFd ps[k] (qs[k]'(by omega)) = z) := ⟨_, Lib.hid rfl⟩
        have hways := eqFd_ways ps[k] (qs[k]'(by omega))
        have HN1 := Lib.hid (eqFd_key (p := ps[k]) (q := qs[k]'(by omega)))
        have HN2 := Lib.hid (eqFd_text (p := ps[k]) (q := qs[k]'(by omega)))
        have HN4 := Lib.hid (eqFd_isl (p := ps[k]) (q := qs[k]'(by omega)))
        have HN5 := Lib.hid (eqFd_rest (p := ps[k]) (q := qs[k]'(by omega)))
        have HNO : Hid (z = false → r = false) := Lib.hid (fun h => by rw [HF.out]; exact eqK_bad HE hlt (by omega) (HZ.out.trans h))
        have HYS : Hid (z = true → EqK ps qs (k + 1)) := Lib.hid (fun h => eqK_step HE hlt (by omega) (HZ.out.trans h))
        rw [HZ.out] at HN1 HN2 HN4 HN5
        clear HE HZ
        generalize ps[k] = p at d0 d1 d2 d3 HC hways HN1 HN2 HN4 HN5
        generalize qs[k]'(by omega) = q at x0 x1 x2 x3 HC hways HN1 HN2 HN4 HN5
        obtain ⟨pn, pv, pe, pd⟩ := p
        obtain ⟨qn, qv, qe, qd⟩ := q
        simp only at hways HN1 HN2 HN4 HN5 HC d0 d1 d2 d3 x0 x1 x2 x3
        have BC : ∀ (x y : Obj) (m : Nat), Below wr.heap.size wr (((wr.alloc x).alloc y).drewN m) := fun x y m => (((Below.refl _ wr).alloc (Nat.le_refl _) x).alloc (by simp) y).trans (below_drewN _ _ m)
        have HW := Lib.hid hways
        clear hways
        go_wp2_with fail
        go_region
        all_goals
          clear d0 d1 d2 d3 x0 x1 x2 x3 bx1 bx2 HA HB HP HQ
          rcases HW.out with q1 | ⟨q1, q2⟩ | ⟨q1, q2, q4⟩ | ⟨q1, q2, q4⟩
          · have HX := Lib.hid (HNO.out (HN1.out q1))
            clear HN1 HN2 HN4 HN5 HC HNO HYS
            go_wp2_with fail
            go_ret
            exact ⟨ret_bool HX.out.symm, hbr.trans ((BC _ _ _).mono hbr.size)⟩
          · have HX := Lib.hid (HNO.out (HN2.out q2))
            clear HN1 HN2 HN4 HN5 HC HNO HYS
            go_wp2_with fail
            go_ret
            exact ⟨ret_bool HX.out.symm, hbr.trans ((BC _ _ _).mono hbr.size)⟩
          · have HX := Lib.hid (HNO.out (HN4.out q4))
            clear HN1 HN2 HN4 HN5 HC HNO HYS
            cases pd <;> cases qd <;> first | cases q4 | skip
            all_goals
              go_wp2_with fail
              go_ret
              exact ⟨ret_bool HX.out.symm, hbr.trans ((BC _ _ _).mono hbr.size)⟩
          · have HX := Lib.hid (HN5.out q1 q2 q4)
            clear HN1 HN2 HN4 HN5
            obtain ⟨y, HYY⟩ : ∃ y, Hid ((pe == qe) = y) := ⟨_, Lib.hid rfl⟩
            rw [HYY.out] at HX
            simp only [HYY.out] at HC
            cases y
            · have HXF := Lib.hid (HNO.out HX.out)
              clear HNO HYS HX
              cases pd <;> cases qd <;> first | cases q4 | skip
              all_goals
                go_wp2_with fail
                refine (HC.out _ (BC _ _ 1)).mono ?_
                rintro e w2 ⟨rfl, n2, rfl⟩
                go_wp2_with fail
                go_ret
                exact ⟨ret_bool HXF.out.symm, hbr.trans ((BC _ _ _).mono hbr.size)⟩
            · have HXT := Lib.hid (HYS.out HX.out)
              clear HNO HYS HX
              cases pd <;> cases qd <;> first | cases q4 | skip
              all_goals
                go_wp2_with fail
                refine (HC.out _ (BC _ _ 1)).mono ?_
                rintro e w2 ⟨rfl, n2, rfl⟩
                go_wp2_with fail
                go_roundw
                case rel => exact ⟨k + 1, by omega, by go_num, HXT.out, hbv.trans ((BC _ _ _).mono hbv.size)⟩
                case measure => simp [intOf]; omega
      · have HN : Hid (r = true) := Lib.hid (by rw [HF.out]; exact eqK_end HE hlt HL.out)
        clear HE
        go_wp2_with fail
        go_ret
        exact ⟨ret_bool HN.out.symm, hbr⟩
  · have q0 : ((ps.length : Int) != (qs.length : Int)) = true := int_bne_true (by omega)
    have HX : Hid (r = false) := Lib.hid (by rw [← HR.out]; unfold eqTb; rw [hx, beq_len ps qs hl]; rfl)
    clear hl
    go_enter Try.func37, Try.ntmps37
    go_wp2_with fail
    go_ret
    exact ⟨ret_bool HX.out.symm, B0⟩
end Go.Proofs.Ythlbpklllphhcaa
