/-
  Whether two packs are the same: spec.l04SamePack, impl.samePack.
-/
import Derived.Test.YtldfkdkppgammaaEqT
import Derived.Test.YtldfkdkppgammaaPk
namespace Go.Proofs.Ytldfkdkppgammaa
open Go.RowKit

/-- Two packs with the same fields. -/
def eqPk (p q : Pk) : Bool := p.name == q.name && (p.ver == q.ver && (p.src == q.src && (p.dev == q.dev && (p.sums == q.sums && p.needs == q.needs))))
instance : BEq Pk := ⟨eqPk⟩
/-- A pack as a value, its two lists given. -/
abbrev pkV (p : Pk) (a b : Value) : Value := .agg #[.string ⟨p.name.toArray⟩, .string ⟨p.ver.toArray⟩, .string ⟨p.src.toArray⟩, a, .bool p.dev, b]
theorem eqPk_name {p q : Pk} (h : (p.name == q.name) = false) : eqPk p q = false := by unfold eqPk; rw [h]; rfl
theorem eqPk_ver {p q : Pk} (h : (p.ver == q.ver) = false) : eqPk p q = false := by unfold eqPk; rw [h]; simp
theorem eqPk_src {p q : Pk} (h : (p.src == q.src) = false) : eqPk p q = false := by unfold eqPk; rw [h]; simp
theorem eqPk_dev {p q : Pk} (h : (p.dev == q.dev) = false) : eqPk p q = false := by unfold eqPk; rw [h]; simp
theorem eqPk_sums {p q : Pk} (h : (p.sums == q.sums) = false) : eqPk p q = false := by unfold eqPk; rw [h]; simp
theorem eqPk_needs {p q : Pk} (h : (p.needs == q.needs) = false) : eqPk p q = false := by unfold eqPk; rw [h]; simp
theorem eqPk_rest {p q : Pk} (h1 : (p.name == q.name) = true) (h2 : (p.ver == q.ver) = true) (h3 : (p.src == q.src) = true) (h4 : (p.dev == q.dev) = true) : eqPk p q = (p.sums == q.sums && p.needs == q.needs) := by
  unfold eqPk; rw [h1, h2, h3, h4]; simp
/-- The first four tests. -/
theorem eqPk_ways (p q : Pk) : ((p.name == q.name) = false) ∨ ((p.name == q.name) = true ∧ (p.ver == q.ver) = false) ∨ ((p.name == q.name) = true ∧ (p.ver == q.ver) = true ∧ (p.src == q.src) = false) ∨ ((p.name == q.name) = true ∧ (p.ver == q.ver) = true ∧ (p.src == q.src) = true ∧ (p.dev == q.dev) = false) ∨ ((p.name == q.name) = true ∧ (p.ver == q.ver) = true ∧ (p.src == q.src) = true ∧ (p.dev == q.dev) = true) := by
  cases (p.name == q.name) <;> cases (p.ver == q.ver) <;> cases (p.src == q.src) <;> cases (p.dev == q.dev) <;> simp

set_option maxRecDepth 100000 in
set_option maxHeartbeats 4000000 in
theorem implSamePack_any (p q : Pk) (a b a' b' : Value) (w : World) (ha : RdB w a p.sums) (hb : RdS w b p.needs) (ha' : RdB w a' q.sums) (hb' : RdS w b' q.needs) (sp : SmPk p) (sq : SmPk q) :
    Calls Try.prog 63 #[pkV p a b, pkV q a' b'] w fun e w' => e = .returned (.bool (eqPk p q)) ∧ Below w.heap.size w w' := by
  have HB := Lib.hid (fun (W : World) (h : Below w.heap.size w W) => equalB_any a a' p.sums q.sums W (ha.below h) (ha'.below h) (by have := sp.sums; unfold SmB at this; omega) (by have := sq.sums; unfold SmB at this; omega))
  have HS := Lib.hid (fun (W : World) (h : Below w.heap.size w W) => equalS_any b b' p.needs q.needs W (hb.below h) (hb'.below h) (by have := sp.needs; omega) (by have := sq.needs; omega))
  obtain ⟨A, ca, rfl⟩ := ha.slice
  obtain ⟨B, cb, rfl⟩ := hb.slice
  obtain ⟨A', ca', rfl⟩ := ha'.slice
  obtain ⟨B', cb', rfl⟩ := hb'.slice
  obtain ⟨r, HR⟩ : ∃ r, Hid (eqPk p q = r) := ⟨_, Lib.hid rfl⟩
  rw [HR.out]
  have hways := eqPk_ways p q
  have HN1 := Lib.hid (eqPk_name (p := p) (q := q))
  have HN2 := Lib.hid (eqPk_ver (p := p) (q := q))
  have HN3 := Lib.hid (eqPk_src (p := p) (q := q))
  have HN4 := Lib.hid (eqPk_dev (p := p) (q := q))
  have HN5 := Lib.hid (eqPk_rest (p := p) (q := q))
  rw [HR.out] at HN1 HN2 HN3 HN4 HN5
  obtain ⟨pn, pv, ps, pm, pd, pe⟩ := p
  obtain ⟨qn, qv, qs, qm, qd, qe⟩ := q
  simp only at hways HN1 HN2 HN3 HN4 HN5 HB HS
  have B0 : Below w.heap.size w ((w.alloc (.cells #[.string ⟨pn.toArray⟩, .string ⟨pv.toArray⟩, .string ⟨ps.toArray⟩, .slice A pm.length ca, .bool pd, .slice B pe.length cb] 80)).alloc (.cells #[.string ⟨qn.toArray⟩, .string ⟨qv.toArray⟩, .string ⟨qs.toArray⟩, .slice A' qm.length ca', .bool qd, .slice B' qe.length cb'] 80)) := ((Below.refl _ _).alloc (Nat.le_refl _) _).alloc (by simp) _
  clear ha hb ha' hb' sp sq
  rcases hways with q1 | ⟨q1, q2⟩ | ⟨q1, q2, q3⟩ | ⟨q1, q2, q3, q4⟩ | ⟨q1, q2, q3, q4⟩
  · have HX := Lib.hid (HN1.out q1)
    clear HN1 HN2 HN3 HN4 HN5
    go_enter Try.func63, Try.ntmps63
    go_wp2_with fail
    go_ret
    exact ⟨ret_bool HX.out.symm, B0⟩
  · have HX := Lib.hid (HN2.out q2)
    clear HN1 HN2 HN3 HN4 HN5
    go_enter Try.func63, Try.ntmps63
    go_wp2_with fail
    go_ret
    exact ⟨ret_bool HX.out.symm, B0⟩
  · have HX := Lib.hid (HN3.out q3)
    clear HN1 HN2 HN3 HN4 HN5
    go_enter Try.func63, Try.ntmps63
    go_wp2_with fail
    go_ret
    exact ⟨ret_bool HX.out.symm, B0⟩
  · have HX := Lib.hid (HN4.out q4)
    clear HN1 HN2 HN3 HN4 HN5
    cases pd <;> cases qd <;> first | cases q4 | skip
    all_goals
      go_enter Try.func63, Try.ntmps63
      go_wp2_with fail
      go_ret
      exact ⟨ret_bool HX.out.symm, B0⟩
  · have HX := Lib.hid (HN5.out q1 q2 q3 q4)
    clear HN1 HN2 HN3 HN4 HN5
    obtain ⟨x, HXX⟩ : ∃ x, Hid ((pm == qm) = x) := ⟨_, Lib.hid rfl⟩
    obtain ⟨y, HYY⟩ : ∃ y, Hid ((pe == qe) = y) := ⟨_, Lib.hid rfl⟩
    rw [HXX.out, HYY.out] at HX
    simp only [HXX.out] at HB
    simp only [HYY.out] at HS
    cases pd <;> cases qd <;> first | cases q4 | skip
    all_goals
      cases x
      · go_enter Try.func63, Try.ntmps63
        go_wp2_with fail
        refine (HB.out _ B0).mono ?_
        rintro e w1 ⟨rfl, n, rfl⟩
        go_wp2_with fail
        go_ret
        exact ⟨ret_bool HX.out.symm, B0.trans (below_drewN _ _ n)⟩
      · go_enter Try.func63, Try.ntmps63
        go_wp2_with fail
        refine (HB.out _ B0).mono ?_
        rintro e w1 ⟨rfl, n, rfl⟩
        go_wp2_with fail
        refine (HS.out _ (B0.trans (below_drewN _ _ n))).mono ?_
        rintro e w2 ⟨rfl, n2, rfl⟩
        go_wp2_with fail
        go_ret
        exact ⟨ret_bool (by rw [HX.out]; simp), B0.trans (below_drewN _ _ _)⟩

set_option maxRecDepth 100000 in
set_option maxHeartbeats 4000000 in
theorem specSamePack_any (p q : Pk) (a b a' b' : Value) (w : World) (ha : RdB w a p.sums) (hb : RdS w b p.needs) (ha' : RdB w a' q.sums) (hb' : RdS w b' q.needs) (sp : SmPk p) (sq : SmPk q) :
    Calls Try.prog 58 #[pkV p a b, pkV q a' b'] w fun e w' => e = .returned (.bool (eqPk p q)) ∧ Below w.heap.size w w' := by
  have HS := Lib.hid (fun (W : World) (h : Below w.heap.size w W) => l04SameTexts_any b b' p.needs q.needs W (hb.below h) (hb'.below h) (by have := sp.needs; omega) (by have := sq.needs; omega))
  have HA := Lib.hid ha
  have HB := Lib.hid ha'
  have la : p.sums.length ≤ 1048576 := by have := sp.sums; unfold SmB at this; omega
  have lb : q.sums.length ≤ 1048576 := by have := sq.sums; unfold SmB at this; omega
  obtain ⟨A, ca, rfl⟩ := ha.slice
  obtain ⟨B, cb, rfl⟩ := hb.slice
  obtain ⟨A', ca', rfl⟩ := ha'.slice
  obtain ⟨B', cb', rfl⟩ := hb'.slice
  obtain ⟨r, HR⟩ : ∃ r, Hid (eqPk p q = r) := ⟨_, Lib.hid rfl⟩
  rw [HR.out]
  have hways := eqPk_ways p q
  have HN1 := Lib.hid (eqPk_name (p := p) (q := q))
  have HN2 := Lib.hid (eqPk_ver (p := p) (q := q))
  have HN3 := Lib.hid (eqPk_src (p := p) (q := q))
  have HN4 := Lib.hid (eqPk_dev (p := p) (q := q))
  have HN5 := Lib.hid (eqPk_rest (p := p) (q := q))
  rw [HR.out] at HN1 HN2 HN3 HN4 HN5
  obtain ⟨pn, pv, ps, pm, pd, pe⟩ := p
  obtain ⟨qn, qv, qs, qm, qd, qe⟩ := q
  simp only at hways HN1 HN2 HN3 HN4 HN5 HA HB HS la lb
  have B0 : Below w.heap.size w ((w.alloc (.cells #[.string ⟨pn.toArray⟩, .string ⟨pv.toArray⟩, .string ⟨ps.toArray⟩, .slice A pm.length ca, .bool pd, .slice B pe.length cb] 80)).alloc (.cells #[.string ⟨qn.toArray⟩, .string ⟨qv.toArray⟩, .string ⟨qs.toArray⟩, .slice A' qm.length ca', .bool qd, .slice B' qe.length cb'] 80)) := ((Below.refl _ _).alloc (Nat.le_refl _) _).alloc (by simp) _
  clear ha hb ha' hb' sp sq
  rcases hways with q1 | ⟨q1, q2⟩ | ⟨q1, q2, q3⟩ | ⟨q1, q2, q3, q4⟩ | ⟨q1, q2, q3, q4⟩
  · have HX := Lib.hid (HN1.out q1)
    clear HN1 HN2 HN3 HN4 HN5
    go_enter Try.func58, Try.ntmps58
    go_wp2_with fail
    go_ret
    exact ⟨ret_bool HX.out.symm, B0⟩
  · have HX := Lib.hid (HN2.out q2)
    clear HN1 HN2 HN3 HN4 HN5
    go_enter Try.func58, Try.ntmps58
    go_wp2_with fail
    go_ret
    exact ⟨ret_bool HX.out.symm, B0⟩
  · have HX := Lib.hid (HN3.out q3)
    clear HN1 HN2 HN3 HN4 HN5
    go_enter Try.func58, Try.ntmps58
    go_wp2_with fail
    go_ret
    exact ⟨ret_bool HX.out.symm, B0⟩
  · have HX := Lib.hid (HN4.out q4)
    clear HN1 HN2 HN3 HN4 HN5
    cases pd <;> cases qd <;> first | cases q4 | skip
    all_goals
      go_enter Try.func58, Try.ntmps58
      go_wp2_with fail
      go_ret
      exact ⟨ret_bool HX.out.symm, B0⟩
  · have HX := Lib.hid (HN5.out q1 q2 q3 q4)
    clear HN1 HN2 HN3 HN4 HN5
    obtain ⟨y, HYY⟩ : ∃ y, Hid ((pe == qe) = y) := ⟨_, Lib.hid rfl⟩
    rw [HYY.out] at HX
    simp only [HYY.out] at HS
    by_cases hl : pm.length = qm.length
    · have q0 : ((pm.length : Int) != (qm.length : Int)) = false := int_bne_false (by omega)
      have HL := Lib.hid hl
      have lab : pm.length ≤ qm.length := by omega
      have lba : qm.length ≤ pm.length := by omega
      clear hl
      cases y
      · have HF : Hid (r = false) := Lib.hid (by rw [HX.out, Bool.and_false])
        cases pd <;> cases qd <;> first | cases q4 | skip
        all_goals
          go_enter Try.func58, Try.ntmps58
          go_wp2_with fail
          refine (HS.out _ B0).mono ?_
          rintro e w1 ⟨rfl, n, rfl⟩
          go_wp2_with fail
          go_ret
          exact ⟨ret_bool HF.out.symm, B0.trans (below_drewN _ _ n)⟩
      · have HF : Hid (r = (pm == qm)) := Lib.hid (by rw [HX.out, Bool.and_true])
        have bx1 := keepA (heap_alloc_new w (.cells #[.string ⟨pn.toArray⟩, .string ⟨pv.toArray⟩, .string ⟨ps.toArray⟩, .slice A pm.length ca, .bool pd, .slice B pe.length cb] 80)) (.cells #[.string ⟨qn.toArray⟩, .string ⟨qv.toArray⟩, .string ⟨qs.toArray⟩, .slice A' qm.length ca', .bool qd, .slice B' qe.length cb'] 80)
        have bx2 := heap_new (W := w.alloc (.cells #[.string ⟨pn.toArray⟩, .string ⟨pv.toArray⟩, .string ⟨ps.toArray⟩, .slice A pm.length ca, .bool pd, .slice B pe.length cb] 80)) (n := w.heap.size + 1) (by simp) (.cells #[.string ⟨qn.toArray⟩, .string ⟨qv.toArray⟩, .string ⟨qs.toArray⟩, .slice A' qm.length ca', .bool qd, .slice B' qe.length cb'] 80)
        cases pd <;> cases qd <;> first | cases q4 | skip
        all_goals
          go_enter Try.func58, Try.ntmps58
          go_wp2_with fail
          refine (HS.out _ B0).mono ?_
          rintro e w1 ⟨rfl, n, rfl⟩
          go_wp2_with fail
          have B1 := B0.trans (below_drewN _ _ n)
          have c1 := keepB bx1 (below_drewN _ _ n)
          have c2 := keepB bx2 (below_drewN _ _ n)
          generalize World.drewN _ n = V at B1 c1 c2 ⊢
          clear bx1 bx2 B0 HS q0
          have m1 := (cells6 c1).2.2.2.1
          have m2 := (cells6 c2).2.2.2.1
          go_loopw [5] (fun i wr => ∃ k n : Nat, k ≤ pm.length ∧ i = .int .i64 k ∧ EqK pm qm k ∧ wr = V.drewN n) (fun i _ => pm.length - (intOf i).toNat)
          case atStart => exact ⟨0, 0, Nat.zero_le _, rfl, eqK_zero _ _, rfl⟩
          case round =>
            obtain ⟨k, n, hk, rfl, HE, rfl⟩ := hrel
            by_cases hlt : k < pm.length
            · obtain ⟨g, off, rfl, _, d1, d2⟩ := (HA.out.below B1).at k hlt
              obtain ⟨g2, off2, rfl, _, d3, d4⟩ := (HB.out.below B1).at k (by omega)
              have k0 : (0 : Int) ≤ (k : Int) := by omega
              have k1 : (k : Int) < (pm.length : Int) := by omega
              have k2 : (k : Int) < (qm.length : Int) := by omega
              have hpe : (pm[k] == qm[k]'(by omega)) = (pm[k].1 == (qm[k]'(by omega)).1 && pm[k].2 == (qm[k]'(by omega)).2) := rfl
              cases he : (pm[k] == qm[k]'(by omega)) with
              | true =>
                have HN := Lib.hid (eqK_step HE hlt (by omega) he)
                rw [he] at hpe
                obtain ⟨u1, u2⟩ := Bool.and_eq_true_iff.1 hpe.symm
                clear he HE hpe
                go_wp2_with fail
                go_quiet (fail)
                go_wp2_with fail
                go_roundw
                case rel => exact ⟨k + 1, _, by omega, by go_num, HN.out, rfl⟩
                case measure => simp [intOf]; omega
              | false =>
                have HN : Hid (r = false) := Lib.hid (by rw [HF.out]; exact eqK_bad HE hlt (by omega) he)
                rw [he] at hpe
                have hq : (pm[k].1 == (qm[k]'(by omega)).1) = false ∨ ((pm[k].1 == (qm[k]'(by omega)).1) = true ∧ (pm[k].2 == (qm[k]'(by omega)).2) = false) := by
                  cases h1 : (pm[k].1 == (qm[k]'(by omega)).1)
                  · exact .inl rfl
                  · right; rw [h1, Bool.true_and] at hpe; exact ⟨rfl, hpe.symm⟩
                clear he HE hpe
                rcases hq with u1 | ⟨u1, u2⟩
                all_goals
                  go_wp2_with fail
                  go_quiet (fail)
                  go_wp2_with fail
                  go_ret
                  exact ⟨ret_bool HN.out.symm, (B1.trans (below_drewN _ _ n)).trans (below_drewN _ _ nq)⟩
            · have HN : Hid (r = true) := Lib.hid (by rw [HF.out]; exact eqK_end HE hlt HL.out)
              clear HE
              go_wp2_with fail
              go_ret
              exact ⟨ret_bool HN.out.symm, B1.trans (below_drewN _ _ n)⟩
    · have q0 : ((pm.length : Int) != (qm.length : Int)) = true := int_bne_true (by omega)
      have HF : Hid (r = false) := Lib.hid (by rw [HX.out, beq_len pm qm hl]; rfl)
      clear hl
      cases pd <;> cases qd <;> first | cases q4 | skip
      all_goals
        go_enter Try.func58, Try.ntmps58
        go_wp2_with fail
        go_ret
        exact ⟨ret_bool HF.out.symm, B0⟩
end Go.Proofs.Ytldfkdkppgammaa
