/-
  Whether two fields, two tables are the same: impl.sameField, slices.EqualFunc, impl.SameTable.
-/
import Derived.Test.YthlbpklllphhcaaEqX
import Derived.Test.YthlbpklllphhcaaFdM
namespace Go.Proofs.Ythlbpklllphhcaa
open Go.RowKit

/-- Two fields with the same parts; two tables. -/
def eqFd (p q : Fd) : Bool := p.key == q.key && (p.text == q.text && (p.isl == q.isl && p.list == q.list))
instance : BEq Fd := ⟨eqFd⟩
def eqTb (t u : Tb) : Bool := t.name == u.name && t.fields == u.fields
theorem eqFd_key {p q : Fd} (h : (p.key == q.key) = false) : eqFd p q = false := by unfold eqFd; rw [h]; rfl
theorem eqFd_text {p q : Fd} (h : (p.text == q.text) = false) : eqFd p q = false := by unfold eqFd; rw [h]; simp
theorem eqFd_isl {p q : Fd} (h : (p.isl == q.isl) = false) : eqFd p q = false := by unfold eqFd; rw [h]; simp
theorem eqFd_rest {p q : Fd} (h1 : (p.key == q.key) = true) (h2 : (p.text == q.text) = true) (h3 : (p.isl == q.isl) = true) : eqFd p q = (p.list == q.list) := by
  unfold eqFd; rw [h1, h2, h3]; simp
theorem eqFd_ways (p q : Fd) : ((p.key == q.key) = false) ∨ ((p.key == q.key) = true ∧ (p.text == q.text) = false) ∨ ((p.key == q.key) = true ∧ (p.text == q.text) = true ∧ (p.isl == q.isl) = false) ∨ ((p.key == q.key) = true ∧ (p.text == q.text) = true ∧ (p.isl == q.isl) = true) := by
  cases (p.key == q.key) <;> cases (p.text == q.text) <;> cases (p.isl == q.isl) <;> simp

set_option maxRecDepth 100000 in
set_option maxHeartbeats 4000000 in
theorem implSameField_any (p q : Fd) (a a' : Value) (w : World) (ha : RdS w a p.list) (ha' : RdS w a' q.list) (sp : SmFd p) (sq : SmFd q) :
    Calls Try.prog 83 #[fdV p a, fdV q a'] w fun e w' => e = .returned (.bool (eqFd p q)) ∧ Below w.heap.size w w' := by
  have HS := Lib.hid (fun (W : World) (h : Below w.heap.size w W) => equalS_any a a' p.list q.list W (ha.below h) (ha'.below h) (by have := sp.list; omega) (by have := sq.list; omega))
  obtain ⟨A, ca, rfl⟩ := ha.slice
  obtain ⟨A', ca', rfl⟩ := ha'.slice
  unfold fdV
  obtain ⟨r, HR⟩ : ∃ r, Hid (eqFd p q = r) := ⟨_, Lib.hid rfl⟩
  rw [HR.out]
  have hways := eqFd_ways p q
  have HN1 := Lib.hid (eqFd_key (p := p) (q := q))
  have HN2 := Lib.hid (eqFd_text (p := p) (q := q))
  have HN4 := Lib.hid (eqFd_isl (p := p) (q := q))
  have HN5 := Lib.hid (eqFd_rest (p := p) (q := q))
  rw [HR.out] at HN1 HN2 HN4 HN5
  obtain ⟨pn, pv, pe, pd⟩ := p
  obtain ⟨qn, qv, qe, qd⟩ := q
  simp only at hways HN1 HN2 HN4 HN5 HS
  have B0 : Below w.heap.size w ((w.alloc (.cells #[.string ⟨pn.toArray⟩, .string ⟨pv.toArray⟩, .slice A pe.length ca, .bool pd] 47)).alloc (.cells #[.string ⟨qn.toArray⟩, .string ⟨qv.toArray⟩, .slice A' qe.length ca', .bool qd] 47)) := ((Below.refl _ _).alloc (Nat.le_refl _) _).alloc (by simp) _
  clear ha ha' sp sq
  rcases hways with q1 | ⟨q1, q2⟩ | ⟨q1, q2, q4⟩ | ⟨q1, q2, q4⟩
  · have HX := Lib.hid (HN1.out q1)
    clear HN1 HN2 HN4 HN5
    go_enter Try.func83, Try.ntmps83
    go_wp2_with fail
    go_ret
    exact ⟨ret_bool HX.out.symm, B0⟩
  · have HX := Lib.hid (HN2.out q2)
    clear HN1 HN2 HN4 HN5
    go_enter Try.func83, Try.ntmps83
    go_wp2_with fail
    go_ret
    exact ⟨ret_bool HX.out.symm, B0⟩
  · have HX := Lib.hid (HN4.out q4)
    clear HN1 HN2 HN4 HN5
    cases pd <;> cases qd <;> first | cases q4 | skip
    all_goals
      go_enter Try.func83, Try.ntmps83
      go_wp2_with fail
      go_ret
      exact ⟨ret_bool HX.out.symm, B0⟩
  · have HX := Lib.hid (HN5.out q1 q2 q4)
    clear HN1 HN2 HN4 HN5
    obtain ⟨y, HYY⟩ : ∃ y, Hid ((pe == qe) = y) := ⟨_, Lib.hid rfl⟩
    rw [HYY.out] at HX
    simp only [HYY.out] at HS
    cases pd <;> cases qd <;> first | cases q4 | skip
    all_goals
      go_enter Try.func83, Try.ntmps83
      go_wp2_with fail
      refine (HS.out _ B0).mono ?_
      rintro e w2 ⟨rfl, n2, rfl⟩
      go_wp2_with fail
      go_ret
      exact ⟨ret_bool (by rw [HX.out]), B0.trans (below_drewN _ _ _)⟩

set_option maxRecDepth 100000 in
set_option maxHeartbeats 4000000 in
theorem equalFields_any (va vb : Value) (ps qs : List Fd) (w : World) (ha : RdFs w va ps) (hb : RdFs w vb qs) (sp : SmFs ps) (sq : SmFs qs) :
    Calls Try.prog 82 #[va, vb, .func (.func 83) #[] #[]] w fun e w' => e = .returned (.bool (ps == qs)) ∧ Below w.heap.size w w' := by
  have HA := Lib.hid ha
  have HB := Lib.hid hb
  have HP := Lib.hid sp
  have HQ := Lib.hid sq
  have la : ps.length ≤ 1048576 := by unfold SmFs at sp; omega
  have lb : qs.length ≤ 1048576 := by unfold SmFs at sq; omega
  obtain ⟨A, ca, rfl, _⟩ := ha
  obtain ⟨B, cb, rfl, _⟩ := hb
  clear sp sq
  obtain ⟨r, HR⟩ : ∃ r, Hid ((ps == qs) = r) := ⟨_, Lib.hid rfl⟩
  rw [HR.out]
  by_cases hl : ps.length = qs.length
  · have q0 : ((ps.length : Int) != (qs.length : Int)) = false := int_bne_false (by omega)
    have HL := Lib.hid hl
    have lab : ps.length ≤ qs.length := by omega
    have lba : qs.length ≤ ps.length := by omega
    clear hl
    go_enter Try.func82, Try.ntmps82
    go_wp2_with fail
    go_loopw [7, 8, 9, 17] (fun _ _ _ i wr => ∃ k : Nat, k ≤ ps.length ∧ i = .int .i64 k ∧ EqK ps qs k ∧ Below w.heap.size w wr) (fun _ _ _ i _ => ps.length - (intOf i).toNat)
    case atStart => exact ⟨0, Nat.zero_le _, rfl, eqK_zero _ _, Below.refl _ _⟩
    case round =>
      obtain ⟨k, hk, rfl, HE, hbr⟩ := hrel
      by_cases hlt : k < ps.length
      · obtain ⟨g, off, rfl, hg, a, d0, d1, d2, d3, ra⟩ := (HA.out.below hbr).at k hlt
        obtain ⟨g', off', rfl, hg', a', x0, x1, x2, x3, ra'⟩ := (HB.out.below hbr).at k (by omega)
        have HC := Lib.hid (fun (W : World) (h : Below wr.heap.size wr W) => implSameField_any ps[k] (qs[k]'(by omega)) a a' W (ra.below h) (ra'.below h) (HP.out.get k hlt) (HQ.out.get k (by omega)))
        obtain ⟨A1, c1, rfl⟩ := ra.slice
        obtain ⟨A3, c3, rfl⟩ := ra'.slice
        have k0 : (0 : Int) ≤ (k : Int) := by omega
        have k1 : (k : Int) < (ps.length : Int) := by omega
        have k2 : (k : Int) < (qs.length : Int) := by omega
        have B0 : Below wr.heap.size wr ((wr.alloc (.cells #[.string ⟨ps[k].key.toArray⟩, .string ⟨ps[k].text.toArray⟩, .slice A1 ps[k].list.length c1, .bool ps[k].isl] 47)).alloc (.cells #[.string ⟨(qs[k]'(by omega)).key.toArray⟩, .string ⟨(qs[k]'(by omega)).text.toArray⟩, .slice A3 (qs[k]'(by omega)).list.length c3, .bool (qs[k]'(by omega)).isl] 47)) := ((Below.refl _ _).alloc (Nat.le_refl _) _).alloc (by simp) _
        have hkeep : ∀ (j : Nat) (v : Value), wr.cell? ⟨g', j, none⟩ = some v → (wr.alloc (.cells #[.string ⟨ps[k].key.toArray⟩, .string ⟨ps[k].text.toArray⟩, .slice A1 ps[k].list.length c1, .bool ps[k].isl] 47)).cell? ⟨g', j, none⟩ = some v := fun j v h => keepC ((Below.refl _ wr).alloc (Nat.le_refl _) _) h
        have y0 := hkeep _ _ x0
        have y1 := hkeep _ _ x1
        have y2 := hkeep _ _ x2
        have y3 := hkeep _ _ x3
        clear hkeep ra ra'
        cases he : eqFd ps[k] (qs[k]'(by omega)) with
        | true =>
          have HN := Lib.hid (eqK_step HE hlt (by omega) he)
          simp only [he] at HC
          clear he HE
          go_wp2_with fail
          refine (HC.out _ B0).mono ?_
          rintro e w1 ⟨rfl, hb1⟩
          have B1 := hbr.trans ((B0.trans (hb1.mono B0.size)).mono hbr.size)
          go_wp2_with fail
          go_roundw
          case rel => exact ⟨k + 1, by omega, by go_num, HN.out, B1⟩
          case measure => simp [intOf]; omega
        | false =>
          have HN : Hid (r = false) := Lib.hid (by rw [← HR.out]; exact eqK_bad HE hlt (by omega) he)
          simp only [he] at HC
          clear he HE
          go_wp2_with fail
          refine (HC.out _ B0).mono ?_
          rintro e w1 ⟨rfl, hb1⟩
          have B1 := hbr.trans ((B0.trans (hb1.mono B0.size)).mono hbr.size)
          go_wp2_with fail
          go_ret
          exact ⟨ret_bool HN.out.symm, B1⟩
      · have HN : Hid (r = true) := Lib.hid (by rw [← HR.out]; exact eqK_end HE hlt HL.out)
        clear HE
        go_wp2_with fail
        go_ret
        exact ⟨ret_bool HN.out.symm, hbr⟩
  · have q0 : ((ps.length : Int) != (qs.length : Int)) = true := int_bne_true (by omega)
    have HN : Hid (r = false) := Lib.hid (by rw [← HR.out]; exact beq_len ps qs hl)
    clear hl
    go_enter Try.func82, Try.ntmps82
    go_wp2_with fail
    go_ret
    exact ⟨ret_bool HN.out.symm, Below.refl _ _⟩

set_option maxRecDepth 100000 in
set_option maxHeartbeats 2000000 in
theorem implSameTable_any (t u : Tb) (a a' : Value) (w : World) (ha : RdFs w a t.fields) (ha' : RdFs w a' u.fields) (st : SmTb t) (su : SmTb u) :
    Calls Try.prog 38 #[tbV t a, tbV u a'] w fun e w' => e = .returned (.bool (eqTb t u)) ∧ Below w.heap.size w w' := by
  have HP := Lib.hid (fun (W : World) (h : Below w.heap.size w W) => equalFields_any a a' t.fields u.fields W (ha.below h) (ha'.below h) st.fields su.fields)
  obtain ⟨B, cb, rfl⟩ := ha.slice
  obtain ⟨B', cb', rfl⟩ := ha'.slice
  unfold tbV
  clear ha ha' st su
  have B0 : Below w.heap.size w ((w.alloc (.cells #[.string ⟨t.name.toArray⟩, .slice B t.fields.length cb] 52)).alloc (.cells #[.string ⟨u.name.toArray⟩, .slice B' u.fields.length cb'] 52)) := ((Below.refl _ _).alloc (Nat.le_refl _) _).alloc (by simp) _
  obtain ⟨y, HYY⟩ : ∃ y, Hid ((t.fields == u.fields) = y) := ⟨_, Lib.hid rfl⟩
  simp only [HYY.out] at HP
  cases hx : (t.name == u.name)
  · have HX : Hid (eqTb t u = false) := Lib.hid (by unfold eqTb; rw [hx]; rfl)
    go_enter Try.func38, Try.ntmps38
    go_wp2_with fail
    go_ret
    exact ⟨ret_bool HX.out.symm, B0⟩
  · have HX : Hid (eqTb t u = y) := Lib.hid (by unfold eqTb; rw [hx, HYY.out]; simp)
    go_enter Try.func38, Try.ntmps38
    go_wp2_with fail
    refine (HP.out _ B0).mono ?_
    rintro e w2 ⟨rfl, hb2⟩
    go_wp2_with fail
    go_ret
    exact ⟨ret_bool (by rw [HX.out]), B0.trans (hb2.mono B0.size)⟩
end Go.Proofs.Ythlbpklllphhcaa
