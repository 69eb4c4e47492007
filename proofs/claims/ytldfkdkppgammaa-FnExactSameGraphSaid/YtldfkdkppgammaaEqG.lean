/-
  Whether two graphs are the same: spec.SameGraph, impl.SameGraph.
-/
import Derived.Test.YtldfkdkppgammaaEqP
import Derived.Test.YtldfkdkppgammaaGrL
namespace Go.Proofs.Ytldfkdkppgammaa
open Go.RowKit

def eqGr (ts us : List (List UInt8)) (ps qs : List Pk) : Bool := ts == us && ps == qs
theorem eqPs_get (ps qs : List Pk) (k : Nat) (hp : k < ps.length) (hq : k < qs.length) : (ps[k] == qs[k]) = eqPk ps[k] qs[k] := rfl

set_option maxRecDepth 100000 in
set_option maxHeartbeats 4000000 in
theorem equalFunc_any (va vb : Value) (ps qs : List Pk) (w : World) (ha : RdPs w va ps) (hb : RdPs w vb qs) (sp : SmPs ps) (sq : SmPs qs) :
    Calls Try.prog 62 #[va, vb, .func (.func 63) #[] #[]] w fun e w' => e = .returned (.bool (ps == qs)) ∧ Below w.heap.size w w' := by
  have HA := Lib.hid ha
  have HB := Lib.hid hb
  have HP := Lib.hid sp
  have HQ := Lib.hid sq
  have la : ps.length ≤ 1048576 := by unfold SmPs at sp; omega
  have lb : qs.length ≤ 1048576 := by unfold SmPs at sq; omega
  obtain ⟨A, ca, rfl, _⟩ := ha
  obtain ⟨B, cb, rfl, _⟩ := hb
  clear sp sq
  obtain ⟨r, HR⟩ : ∃ r, Hid ((ps == qs) = r) := ⟨_, Lib.hid rfl⟩
  rw [HR.out]
  by_cases hl : ps.length = qs.length
  · have q0 : ((ps.length : Int) != (qs.length : Int)) = false := int_bne_false (by omega)
    have HL := Lib.hid hl
    have lab : ps.length ≤ qs.length := by omega
    have lba : qs.length ≤ ps.length := by omega
    clear hl
    go_enter Try.func62, Try.ntmps62
    go_wp2_with fail
    go_loopw [7, 8, 9, 17] (fun _ _ _ i wr => ∃ k : Nat, k ≤ ps.length ∧ i = .int .i64 k ∧ EqK ps qs k ∧ Below w.heap.size w wr) (fun _ _ _ i _ => ps.length - (intOf i).toNat)
    case atStart => exact ⟨0, Nat.zero_le _, rfl, eqK_zero _ _, Below.refl _ _⟩
    case round =>
      obtain ⟨k, hk, rfl, HE, hbr⟩ := hrel
      by_cases hlt : k < ps.length
      · obtain ⟨g, off, rfl, hg, a, b, d0, d1, d2, d3, d4, d5, ra, rb⟩ := (HA.out.below hbr).at k hlt
        obtain ⟨g', off', rfl, hg', a', b', x0, x1, x2, x3, x4, x5, ra', rb'⟩ := (HB.out.below hbr).at k (by omega)
        have HC := Lib.hid (fun (W : World) (h : Below wr.heap.size wr W) => implSamePack_any ps[k] (qs[k]'(by omega)) a b a' b' W (ra.below h) (rb.below h) (ra'.below h) (rb'.below h) (HP.out.get k hlt) (HQ.out.get k (by omega)))
        obtain ⟨A1, c1, rfl⟩ := ra.slice
        obtain ⟨A2, c2, rfl⟩ := rb.slice
        obtain ⟨A3, c3, rfl⟩ := ra'.slice
        obtain ⟨A4, c4, rfl⟩ := rb'.slice
        have k0 : (0 : Int) ≤ (k : Int) := by omega
        have k1 : (k : Int) < (ps.length : Int) := by omega
        have k2 : (k : Int) < (qs.length : Int) := by omega
        have B0 : Below wr.heap.size wr ((wr.alloc (.cells #[.string ⟨ps[k].name.toArray⟩, .string ⟨ps[k].ver.toArray⟩, .string ⟨ps[k].src.toArray⟩, .slice A1 ps[k].sums.length c1, .bool ps[k].dev, .slice A2 ps[k].needs.length c2] 80)).alloc (.cells #[.string ⟨(qs[k]'(by omega)).name.toArray⟩, .string ⟨(qs[k]'(by omega)).ver.toArray⟩, .string ⟨(qs[k]'(by omega)).src.toArray⟩, .slice A3 (qs[k]'(by omega)).sums.length c3, .bool (qs[k]'(by omega)).dev, .slice A4 (qs[k]'(by omega)).needs.length c4] 80)) := ((Below.refl _ _).alloc (Nat.le_refl _) _).alloc (by simp) _
        have hkeep : ∀ (j : Nat) (v : Value), wr.cell? ⟨g', j, none⟩ = some v → (wr.alloc (.cells #[.string ⟨ps[k].name.toArray⟩, .string ⟨ps[k].ver.toArray⟩, .string ⟨ps[k].src.toArray⟩, .slice A1 ps[k].sums.length c1, .bool ps[k].dev, .slice A2 ps[k].needs.length c2] 80)).cell? ⟨g', j, none⟩ = some v := fun j v h => keepC ((Below.refl _ wr).alloc (Nat.le_refl _) _) h
        have y0 := hkeep _ _ x0
        have y1 := hkeep _ _ x1
        have y2 := hkeep _ _ x2
        have y3 := hkeep _ _ x3
        have y4 := hkeep _ _ x4
        have y5 := hkeep _ _ x5
        clear hkeep ra rb ra' rb'
        cases he : eqPk ps[k] (qs[k]'(by omega)) with
        | true =>
          have HN := Lib.hid (eqK_step HE hlt (by omega) he)
          simp only [he] at HC
          clear he HE
          go_wp2_with fail
          refine (HC.out _ B0).mono ?_
          rintro e w1 ⟨rfl, hb1⟩
          have B1 := hbr.trans ((B0.trans (hb1.mono B0.size)).mono hbr.size)
          go_wp2_with fail
          go_roundw
          case rel => exact ⟨k + 1, by omega, by go_num, HN.out, B1⟩
          case measure => simp [intOf]; omega
        | false =>
          have HN : Hid (r = false) := Lib.hid (by rw [← HR.out]; exact eqK_bad HE hlt (by omega) he)
          simp only [he] at HC
          clear he HE
          go_wp2_with fail
          refine (HC.out _ B0).mono ?_
          rintro e w1 ⟨rfl, hb1⟩
          have B1 := hbr.trans ((B0.trans (hb1.mono B0.size)).mono hbr.size)
          go_wp2_with fail
          go_ret
          exact ⟨ret_bool HN.out.symm, B1⟩
      · have HN : Hid (r = true) := Lib.hid (by rw [← HR.out]; exact eqK_end HE hlt HL.out)
        clear HE
        go_wp2_with fail
        go_ret
        exact ⟨ret_bool HN.out.symm, hbr⟩
  · have q0 : ((ps.length : Int) != (qs.length : Int)) = true := int_bne_true (by omega)
    have HN : Hid (r = false) := Lib.hid (by rw [← HR.out]; exact beq_len ps qs hl)
    clear hl
    go_enter Try.func62, Try.ntmps62
    go_wp2_with fail
    go_ret
    exact ⟨ret_bool HN.out.symm, Below.refl _ _⟩

set_option maxRecDepth 100000 in
set_option maxHeartbeats 2000000 in
theorem implSameGraph_any (a b a' b' : Value) (ts us : List (List UInt8)) (ps qs : List Pk) (w : World) (ha : RdS w a ts) (hb : RdPs w b ps) (ha' : RdS w a' us) (hb' : RdPs w b' qs) (sp : SmG ts ps) (sq : SmG us qs) :
    Calls Try.prog 25 #[.agg #[a, b], .agg #[a', b']] w fun e w' => e = .returned (.bool (eqGr ts us ps qs)) ∧ Below w.heap.size w w' := by
  have HT := Lib.hid (fun (W : World) (h : Below w.heap.size w W) => equalS_any a a' ts us W (ha.below h) (ha'.below h) (by have := sp.1; omega) (by have := sq.1; omega))
  have HP := Lib.hid (fun (W : World) (h : Below w.heap.size w W) => equalFunc_any b b' ps qs W (hb.below h) (hb'.below h) sp.2 sq.2)
  obtain ⟨A, ca, rfl⟩ := ha.slice
  obtain ⟨B, cb, rfl, _⟩ := hb
  obtain ⟨A', ca', rfl⟩ := ha'.slice
  obtain ⟨B', cb', rfl, _⟩ := hb'
  clear ha ha' sp sq
  have B0 : Below w.heap.size w ((w.alloc (.cells #[.slice A ts.length ca, .slice B ps.length cb] 41)).alloc (.cells #[.slice A' us.length ca', .slice B' qs.length cb'] 41)) := ((Below.refl _ _).alloc (Nat.le_refl _) _).alloc (by simp) _
  have HX : Hid (eqGr ts us ps qs = (ts == us && ps == qs)) := Lib.hid rfl
  obtain ⟨x, HXX⟩ : ∃ x, Hid ((ts == us) = x) := ⟨_, Lib.hid rfl⟩
  obtain ⟨y, HYY⟩ : ∃ y, Hid ((ps == qs) = y) := ⟨_, Lib.hid rfl⟩
  rw [HXX.out, HYY.out] at HX
  simp only [HXX.out] at HT
  simp only [HYY.out] at HP
  rw [HX.out]
  cases x
  · go_enter Try.func25, Try.ntmps25
    go_wp2_with fail
    refine (HT.out _ B0).mono ?_
    rintro e w1 ⟨rfl, n, rfl⟩
    go_wp2_with fail
    go_ret
    exact ⟨rfl, B0.trans (below_drewN _ _ n)⟩
  · go_enter Try.func25, Try.ntmps25
    go_wp2_with fail
    refine (HT.out _ B0).mono ?_
    rintro e w1 ⟨rfl, n, rfl⟩
    have B1 := B0.trans (below_drewN _ _ n)
    go_wp2_with fail
    refine (HP.out _ B1).mono ?_
    rintro e w2 ⟨rfl, hb2⟩
    go_wp2_with fail
    go_ret
    exact ⟨ret_bool (by simp), B1.trans (hb2.mono (by simp; omega))⟩

set_option maxRecDepth 100000 in
set_option maxHeartbeats 4000000 in
theorem specSameGraph_any (a b a' b' : Value) (ts us : List (List UInt8)) (ps qs : List Pk) (w : World) (ha : RdS w a ts) (hb : RdPs w b ps) (ha' : RdS w a' us) (hb' : RdPs w b' qs) (sp : SmG ts ps) (sq : SmG us qs) :
    Calls Try.prog 23 #[.agg #[a, b], .agg #[a', b']] w fun e w' => e = .returned (.bool (eqGr ts us ps qs)) ∧ Below w.heap.size w w' := by
  have HT := Lib.hid (fun (W : World) (h : Below w.heap.size w W) => l04SameTexts_any a a' ts us W (ha.below h) (ha'.below h) (by have := sp.1; omega) (by have := sq.1; omega))
  have HA := Lib.hid hb
  have HB := Lib.hid hb'
  have HP := Lib.hid sp.2
  have HQ := Lib.hid sq.2
  have la : ps.length ≤ 1048576 := by have := sp.2; unfold SmPs at this; omega
  have lb : qs.length ≤ 1048576 := by have := sq.2; unfold SmPs at this; omega
  obtain ⟨A, ca, rfl⟩ := ha.slice
  obtain ⟨B, cb, rfl, _⟩ := hb
  obtain ⟨A', ca', rfl⟩ := ha'.slice
  obtain ⟨B', cb', rfl, _⟩ := hb'
  clear ha ha' sp sq
  have B0 : Below w.heap.size w ((w.alloc (.cells #[.slice A ts.length ca, .slice B ps.length cb] 41)).alloc (.cells #[.slice A' us.length ca', .slice B' qs.length cb'] 41)) := ((Below.refl _ _).alloc (Nat.le_refl _) _).alloc (by simp) _
  have bx1 := keepA (heap_alloc_new w (.cells #[.slice A ts.length ca, .slice B ps.length cb] 41)) (.cells #[.slice A' us.length ca', .slice B' qs.length cb'] 41)
  have bx2 := heap_new (W := w.alloc (.cells #[.slice A ts.length ca, .slice B ps.length cb] 41)) (n := w.heap.size + 1) (by simp) (.cells #[.slice A' us.length ca', .slice B' qs.length cb'] 41)
  obtain ⟨r, HR⟩ : ∃ r, Hid (eqGr ts us ps qs = r) := ⟨_, Lib.hid rfl⟩
  rw [HR.out]
  have HX : Hid (r = (ts == us && ps == qs)) := Lib.hid (by rw [← HR.out]; rfl)
  obtain ⟨x, HXX⟩ : ∃ x, Hid ((ts == us) = x) := ⟨_, Lib.hid rfl⟩
  rw [HXX.out] at HX
  simp only [HXX.out] at HT
  by_cases hl : ps.length = qs.length
  · have q0 : ((ps.length : Int) != (qs.length : Int)) = false := int_bne_false (by omega)
    have HL := Lib.hid hl
    have lab : ps.length ≤ qs.length := by omega
    have lba : qs.length ≤ ps.length := by omega
    clear hl
    cases x
    · have HF : Hid (r = false) := Lib.hid (by rw [HX.out]; rfl)
      go_enter Try.func23, Try.ntmps23
      go_wp2_with fail
      refine (HT.out _ B0).mono ?_
      rintro e w1 ⟨rfl, n, rfl⟩
      go_wp2_with fail
      go_ret
      exact ⟨ret_bool HF.out.symm, B0.trans (below_drewN _ _ n)⟩
    · have HF : Hid (r = (ps == qs)) := Lib.hid (by rw [HX.out, Bool.true_and])
      go_enter Try.func23, Try.ntmps23
      go_wp2_with fail
      refine (HT.out _ B0).mono ?_
      rintro e w1 ⟨rfl, n, rfl⟩
      go_wp2_with fail
      have B1 := B0.trans (below_drewN _ _ n)
      have c1 := keepB bx1 (below_drewN _ _ n)
      have c2 := keepB bx2 (below_drewN _ _ n)
      generalize World.drewN _ n = V at B1 c1 c2 ⊢
      clear bx1 bx2 B0 HT q0
      go_loopw [5] (fun i wr => ∃ k : Nat, k ≤ ps.length ∧ i = .int .i64 k ∧ EqK ps qs k ∧ Below V.heap.size V wr) (fun i _ => ps.length - (intOf i).toNat)
      case atStart => exact ⟨0, Nat.zero_le _, rfl, eqK_zero _ _, Below.refl _ _⟩
      case round =>
        obtain ⟨k, hk, rfl, HE, hbv⟩ := hrel
        have e1 := keepB c1 hbv
        have e2 := keepB c2 hbv
        have m1 := (cellsG e1).2
        have m2 := (cellsG e2).2
        have hbr := B1.trans (hbv.mono B1.size)
        by_cases hlt : k < ps.length
        · obtain ⟨g, off, rfl, hg, a, b, d0, d1, d2, d3, d4, d5, ra, rb⟩ := (HA.out.below hbr).at k hlt
          obtain ⟨g', off', rfl, hg', a', b', x0, x1, x2, x3, x4, x5, ra', rb'⟩ := (HB.out.below hbr).at k (by omega)
          have HC := Lib.hid (fun (W : World) (h : Below wr.heap.size wr W) => specSamePack_any ps[k] (qs[k]'(by omega)) a b a' b' W (ra.below h) (rb.below h) (ra'.below h) (rb'.below h) (HP.out.get k hlt) (HQ.out.get k (by omega)))
          obtain ⟨A1, c1', rfl⟩ := ra.slice
          obtain ⟨A2, c2', rfl⟩ := rb.slice
          obtain ⟨A3, c3', rfl⟩ := ra'.slice
          obtain ⟨A4, c4', rfl⟩ := rb'.slice
          have k0 : (0 : Int) ≤ (k : Int) := by omega
          have k1 : (k : Int) < (ps.length : Int) := by omega
          have k2 : (k : Int) < (qs.length : Int) := by omega
          have BD := below_drewN wr.heap.size wr 1
          clear ra rb ra' rb'
          cases he : eqPk ps[k] (qs[k]'(by omega)) with
          | true =>
            have HN := Lib.hid (eqK_step HE hlt (by omega) he)
            simp only [he] at HC
            clear he HE
            go_wp2_with fail
            go_region_with (first | (go_at_call 58; refine (HC.out _ BD).mono ?_; rintro e w2 ⟨rfl, hb2⟩))
            all_goals
              have B2 := hbv.trans ((BD.trans (hb2.mono BD.size)).mono hbv.size)
              go_wp2_with fail
              go_roundw
              case rel => exact ⟨k + 1, by omega, by go_num, HN.out, B2⟩
              case measure => simp [intOf]; omega
          | false =>
            have HN : Hid (r = false) := Lib.hid (by rw [HF.out]; exact eqK_bad HE hlt (by omega) he)
            simp only [he] at HC
            clear he HE
            go_wp2_with fail
            go_region_with (first | (go_at_call 58; refine (HC.out _ BD).mono ?_; rintro e w2 ⟨rfl, hb2⟩))
            all_goals
              have B2 := hbv.trans ((BD.trans (hb2.mono BD.size)).mono hbv.size)
              go_wp2_with fail
              go_ret
              exact ⟨ret_bool HN.out.symm, B1.trans (B2.mono B1.size)⟩
        · have HN : Hid (r = true) := Lib.hid (by rw [HF.out]; exact eqK_end HE hlt HL.out)
          clear HE
          go_wp2_with fail
          go_ret
          exact ⟨ret_bool HN.out.symm, hbr⟩
  · have q0 : ((ps.length : Int) != (qs.length : Int)) = true := int_bne_true (by omega)
    have HF : Hid (r = false) := Lib.hid (by rw [HX.out, beq_len ps qs hl, Bool.and_false])
    clear hl
    go_enter Try.func23, Try.ntmps23
    go_wp2_with fail
    go_ret
    exact ⟨ret_bool HF.out.symm, B0⟩
end Go.Proofs.Ytldfkdkppgammaa
