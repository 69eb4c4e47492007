/-
  spec.GraphOk: whether a graph is right.
-/
import Derived.Test.YtcfkhfbhmjfhdaaGreatDoorKeyS
import Derived.Test.YtcfkhfbhmjfhdaaGreatDoorGrL
namespace Go.Proofs.YtcfkhfbhmjfhdaaGreatDoor
open Go.RowKit

/-- What is asked of the k-th pack. -/
def allAt (ps : List Pk) (k : Nat) : Bool := pkAtB ps k && ndAt ps k
theorem grOk_all (ts : List (List UInt8)) (ps : List Pk) : grOk ts ps = (allTo (allAt ps) ps.length && (decide (ps.length ≤ 40) && keysOkL ps ts)) := rfl
theorem allAt_zero {ps : List Pk} (h : 0 < ps.length) : allAt ps 0 = (pkOk ps[0] && keysOkL ps ps[0].needs) := by
  unfold allAt pkAtB ndAt; rw [ps_at h, upAt_zero, Bool.and_true]
theorem allAt_more {ps : List Pk} {k : Nat} (h : k + 1 < ps.length) : allAt ps (k + 1) = ((pkOk ps[k + 1] && Op.bytesLess (keyOf (ps[k]'(by omega))) (keyOf ps[k + 1])) && keysOkL ps ps[k + 1].needs) := by
  unfold allAt pkAtB ndAt; rw [ps_at h, upAt_more h]
theorem allAt_bad {ps : List Pk} {k : Nat} (h : k < ps.length) (hb : pkOk ps[k] = false ∨ keysOkL ps ps[k].needs = false) : allAt ps k = false := by
  unfold allAt pkAtB ndAt; rw [ps_at h]
  rcases hb with hb | hb
  · rw [hb]; rfl
  · rw [hb, Bool.and_false]

set_option maxRecDepth 100000 in
set_option maxHeartbeats 4000000 in
theorem specGraphOk_any (vt vp : Value) (ts : List (List UInt8)) (ps : List Pk) (w : World) (ht : RdS w vt ts) (hp : RdPs w vp ps) (hs : SmG ts ps) :
    Calls Tryz.prog 7 #[.agg #[vt, vp]] w fun e w' => e = .returned (.bool (grOk ts ps)) ∧ Below w.heap.size w w' := by
  have HSP := Lib.hid hs.2
  have htl : ts.length ≤ 1048576 := by have := hs.1; omega
  have hn : ps.length ≤ 1048576 := by have := hs.2; unfold SmPs at this; omega
  have HR := Lib.hid hp
  obtain ⟨T, tc, rfl⟩ := ht.slice
  have HKT := Lib.hid (fun (W : World) (h : Below w.heap.size w W) => l04Keys_any T ts.length tc vp (.slice T ts.length tc) ps ts W (hp.below h) hs.2 (ht.below h) htl)
  have HKN := Lib.hid (fun (W : World) (h : Below w.heap.size w W) (v : Value) (ls : List (List UInt8)) (h2 : RdS W v ls) (h3 : ls.length ≤ 1048576) => l04Keys_any T ts.length tc vp v ps ls W (hp.below h) hs.2 h2 h3)
  obtain ⟨A, ca, rfl, _⟩ := hp
  obtain ⟨r, HRR⟩ : ∃ r, Hid (grOk ts ps = r) := ⟨_, Lib.hid rfl⟩
  rw [HRR.out]
  obtain ⟨kt, HKTT⟩ : ∃ kt, Hid (keysOkL ps ts = kt) := ⟨_, Lib.hid rfl⟩
  have HEND : Hid (allTo (allAt ps) ps.length = true → r = (decide (ps.length ≤ 40) && kt)) := Lib.hid (fun h => by rw [← HRR.out, grOk_all, h, HKTT.out]; rfl)
  simp only [HKTT.out] at HKT
  have B0 : Below w.heap.size w (w.alloc (.cells #[.slice T ts.length tc, .slice A ps.length ca] 30)) := (Below.refl _ _).alloc (Nat.le_refl _) _
  have b0 := heap_alloc_new w (.cells #[.slice T ts.length tc, .slice A ps.length ca] 30)
  clear ht hs
  go_enter Tryz.func7, Tryz.ntmps7
  go_wp2_with fail
  go_loopw [3] (fun i wr => ∃ k : Nat, k ≤ ps.length ∧ i = .int .i64 k ∧ Hid (allTo (allAt ps) k = true) ∧ Below w.heap.size w wr ∧ wr.heap[w.heap.size]? = some (.cells #[.slice T ts.length tc, .slice A ps.length ca] 30)) (fun i _ => ps.length - (intOf i).toNat)
  case atStart => exact ⟨0, Nat.zero_le _, rfl, Lib.hid rfl, B0, b0⟩
  case round =>
    obtain ⟨k, hk, rfl, HT, hb, hbox⟩ := hrel
    obtain ⟨x0, x1⟩ := cellsG hbox
    have z0 := fut_cell x0
    have z1 := fut_cell x1
    clear B0 b0
    by_cases hlt : k < ps.length
    · have HRW := Lib.hid (HR.out.below hb)
      obtain ⟨g, off, rfl, hg, a, b, d0, d1, d2, d3, d4, d5, ra, rb⟩ := HRW.out.at k hlt
      have HPK := Lib.hid (fun (F : Fut wr) => specPackOk_any ps[k] a b F.out (ra.below F.bel) (rb.below F.bel) (HSP.out.get k hlt))
      have hnl : ps[k].needs.length ≤ 1048576 := by have := (HSP.out.get k hlt).needs; omega
      have HND := Lib.hid (fun (F : Fut wr) => HKN.out F.out (hb.trans (F.bel.mono hb.size)) b ps[k].needs (rb.below F.bel) hnl)
      have HKO := Lib.hid (fun (F : Fut wr) => specKeyOf_any ps[k] a b F.out (ra.below F.bel) (rb.below F.bel) (HSP.out.get k hlt))
      have k0 : (0 : Int) ≤ (k : Int) := by omega
      have k1 : (k : Int) < (ps.length : Int) := by omega
      have HQ := Lib.hid (fun (h : allAt ps k = false) => (show r = false by rw [← HRR.out, grOk_all, allTo_bad hlt h]; rfl))
      have HTT := Lib.hid (fun (h : allAt ps k = true) => allTo_step HT.out h)
      have HB := Lib.hid (fun h => HQ.out (allAt_bad hlt h))
      have HZ0 := Lib.hid (fun (h : k = 0) => (show allAt ps k = (pkOk ps[k] && keysOkL ps ps[k].needs) by subst h; exact allAt_zero hlt))
      have HZ1 := Lib.hid (fun (j : Nat) (h : k = j + 1) => (show allAt ps k = ((pkOk ps[k] && Op.bytesLess (keyOf (ps[j]'(by omega))) (keyOf ps[k])) && keysOkL ps ps[k].needs) by subst h; exact allAt_more hlt))
      obtain ⟨A1, c1, rfl⟩ := ra.slice
      obtain ⟨A2, c2, rfl⟩ := rb.slice
      have y0 := fut_cell d0
      have y1 := fut_cell d1
      have y2 := fut_cell d2
      have y3 := fut_cell d3
      have y4 := fut_cell d4
      have y5 := fut_cell d5
      obtain ⟨pk, HPKK⟩ : ∃ pk, Hid (pkOk ps[k] = pk) := ⟨_, Lib.hid rfl⟩
      obtain ⟨nd, HNDD⟩ : ∃ nd, Hid (keysOkL ps ps[k].needs = nd) := ⟨_, Lib.hid rfl⟩
      simp only [HPKK.out] at HPK HZ0 HZ1 HB
      simp only [HNDD.out] at HND HZ0 HZ1 HB
      have HBX := Lib.hid hbox
      clear ra rb hbox
      cases pk with
      | false =>
        have HX : Hid (r = false) := Lib.hid (HB.out (.inl rfl))
        clear HQ HTT HZ0 HZ1 HB
        go_wp2_with fail
        refine wp_region_fut (by kernel_rfl) (by kernel_rfl) ?_
        repeat (first | go_big_quiet_skip | (go_big_quiet_want; go_big_quiet_op; first | go_big_quiet_on | go_big_quiet_call ((go_at_call 21; exact fut_call (HPK.out _)))))
        refine wpQuiet_nil ?_
        rintro _ ⟨⟨w1, hb1⟩, rfl⟩
        go_wp2_with fail
        go_ret
        exact ⟨ret_bool HX.out.symm, hb.trans (hb1.mono hb.size)⟩
      | true =>
        cases nd with
        | false =>
          have HX : Hid (r = false) := Lib.hid (HB.out (.inr rfl))
          clear HQ HTT HZ0 HZ1 HB
          go_wp2_with fail
          refine wp_region_fut (by kernel_rfl) (by kernel_rfl) ?_
          repeat (first | go_big_quiet_skip | (go_big_quiet_want; go_big_quiet_op; first | go_big_quiet_on | go_big_quiet_call (first | (go_at_call 21; exact fut_call (HPK.out _)) | (go_at_call 22; exact fut_call (HND.out _)))))
          refine wpQuiet_nil ?_
          rintro _ ⟨⟨w1, hb1⟩, rfl⟩
          go_wp2_with fail
          go_ret
          exact ⟨ret_bool HX.out.symm, hb.trans (hb1.mono hb.size)⟩
        | true =>
          by_cases hz : k = 0
          · have HN2 := Lib.hid (HTT.out (by rw [HZ0.out hz]; rfl))
            have g1 : decide ((0 : Int) < (k : Int)) = false := by simp; omega
            have g2 : decide (0 < k) = false := by simp; omega
            clear hz HQ HTT HZ0 HZ1 HB
            go_wp2_with fail
            refine wp_region_fut (by kernel_rfl) (by kernel_rfl) ?_
            repeat (first | go_big_quiet_skip | (go_big_quiet_want; go_big_quiet_op; first | go_big_quiet_on | go_big_quiet_call (first | (go_at_call 21; exact fut_call (HPK.out _)) | (go_at_call 22; exact fut_call (HND.out _)))))
            refine wpQuiet_nil ?_
            rintro _ ⟨⟨w1, hb1⟩, rfl⟩
            have B1 := hb.trans (hb1.mono hb.size)
            have b1 := keepB HBX.out hb1
            go_wp2_with fail
            go_roundw
            case rel => exact ⟨k + 1, by omega, by go_num, HN2, B1, b1⟩
            case measure => simp [intOf]; omega
          · obtain ⟨j, hj⟩ : ∃ j, k = j + 1 := ⟨k - 1, by omega⟩
            have HZ2 := Lib.hid (HZ1.out j hj)
            have hjl : j < ps.length := by omega
            obtain ⟨g', off', hge, _, a', b', e0, e1, e2, e3, e4, e5, ra', rb'⟩ := HRW.out.at j hjl
            simp only [Option.some.injEq, Addr.mk.injEq, and_true] at hge
            obtain ⟨rfl, rfl⟩ := hge
            have HKJ := Lib.hid (fun (F : Fut wr) => specKeyOf_any ps[j] a' b' F.out (ra'.below F.bel) (rb'.below F.bel) (HSP.out.get j hjl))
            obtain ⟨A3, c3, rfl⟩ := ra'.slice
            obtain ⟨A4, c4, rfl⟩ := rb'.slice
            have u0 := fut_cell e0
            have u1 := fut_cell e1
            have u2 := fut_cell e2
            have u3 := fut_cell e3
            have u4 := fut_cell e4
            have u5 := fut_cell e5
            have jw : IntKind.i64.wrap ((k : Int) - 1) = (j : Int) := by rw [show (k : Int) - 1 = (j : Int) by omega]; exact IntWalk.i64_in _ (by omega)
            have g0 : (0 : Int) < (k : Int) := by omega
            have g1 : decide (0 < k) = true := by simp; omega
            have j0 : (0 : Int) ≤ (j : Int) := by omega
            have j1 : (j : Int) < (ps.length : Int) := by omega
            obtain ⟨pr, HPR⟩ : ∃ pr, Hid (keyOf ps[j] = pr) := ⟨_, Lib.hid rfl⟩
            obtain ⟨cu, HCU⟩ : ∃ cu, Hid (keyOf ps[k] = cu) := ⟨_, Lib.hid rfl⟩
            simp only [HPR.out] at HKJ HZ2
            simp only [HCU.out] at HKO HZ2
            clear ra' rb' HB
            cases hl : Op.bytesLess pr cu with
            | true =>
              have HN2 := Lib.hid (HTT.out (by rw [HZ2.out, hl]; rfl))
              clear hz HQ HTT HZ0 HZ1 HZ2 hj
              go_wp2_with fail
              refine wp_region_fut (by kernel_rfl) (by kernel_rfl) ?_
              repeat (first | go_big_quiet_skip | (go_big_quiet_want; go_big_quiet_op; first | go_big_quiet_on | go_big_quiet_call (first | (go_at_call 21; exact fut_call (HPK.out _)) | (go_at_call 22; exact fut_call (HND.out _)) | (go_at_call 23; exact fut_call (HKJ.out _)) | (go_at_call 23; exact fut_call (HKO.out _)))))
              refine wpQuiet_nil ?_
              rintro _ ⟨⟨w1, hb1⟩, rfl⟩
              have B1 := hb.trans (hb1.mono hb.size)
              have b1 := keepB HBX.out hb1
              go_wp2_with fail
              go_roundw
              case rel => exact ⟨k + 1, by omega, by go_num, HN2, B1, b1⟩
              case measure => simp [intOf]; omega
            | false =>
              have HX := Lib.hid (HQ.out (by rw [HZ2.out, hl]; rfl))
              clear hz HQ HTT HZ0 HZ1 HZ2 hj
              go_wp2_with fail
              refine wp_region_fut (by kernel_rfl) (by kernel_rfl) ?_
              repeat (first | go_big_quiet_skip | (go_big_quiet_want; go_big_quiet_op; first | go_big_quiet_on | go_big_quiet_call (first | (go_at_call 21; exact fut_call (HPK.out _)) | (go_at_call 22; exact fut_call (HND.out _)) | (go_at_call 23; exact fut_call (HKJ.out _)) | (go_at_call 23; exact fut_call (HKO.out _)))))
              refine wpQuiet_nil ?_
              rintro _ ⟨⟨w1, hb1⟩, rfl⟩
              go_wp2_with fail
              go_ret
              exact ⟨ret_bool HX.out.symm, hb.trans (hb1.mono hb.size)⟩
    · have HXE : Hid (r = (decide (ps.length ≤ 40) && kt)) := Lib.hid (HEND.out (by have := HT.out; rw [show k = ps.length by omega] at this; exact this))
      by_cases h40 : ps.length ≤ 40
      · have HX : Hid (r = kt) := Lib.hid (by rw [HXE.out, decide_eq_true h40]; rfl)
        have q1 : (ps.length : Int) ≤ 40 := by omega
        go_wp2_with fail
        refine (HKT.out _ hb).mono ?_
        rintro e w1 ⟨rfl, hb1⟩
        go_wp2_with fail
        go_ret
        exact ⟨ret_bool HX.out.symm, hb.trans (hb1.mono hb.size)⟩
      · have HX : Hid (r = false) := Lib.hid (by rw [HXE.out, decide_eq_false h40]; rfl)
        have q1 : ¬ (ps.length : Int) ≤ 40 := by omega
        go_wp2_with fail
        go_ret
        exact ⟨ret_bool HX.out.symm, hb⟩
end Go.Proofs.YtcfkhfbhmjfhdaaGreatDoor
