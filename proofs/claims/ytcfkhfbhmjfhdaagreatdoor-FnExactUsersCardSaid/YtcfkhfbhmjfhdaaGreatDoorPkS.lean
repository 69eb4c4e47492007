/-
  spec.PackOk: whether a pack is right.
-/
import Derived.Test.YtcfkhfbhmjfhdaaGreatDoorSmsM
import Derived.Test.YtcfkhfbhmjfhdaaGreatDoorExS
import Derived.Test.YtcfkhfbhmjfhdaaGreatDoorNameS
import Derived.Test.YtcfkhfbhmjfhdaaGreatDoorPlainS
import Derived.Test.YtcfkhfbhmjfhdaaGreatDoorPk
namespace Go.Proofs.YtcfkhfbhmjfhdaaGreatDoor
open Go.RowKit

/-- A right pack. -/
def pkOk (p : Pk) : Bool := sumsOkL p.sums && (specN p.name && (exOk p.ver && plainL p.src))
theorem RdB.at2 {w : World} {A : Option Addr} {n cap : Nat} {bs : List Bd} (h : RdB w (.slice A n cap) bs) (k : Nat) (hk : k + 1 < bs.length) : ∃ g off, A = some ⟨g, off, none⟩ ∧ w.cell? ⟨g, off + k * 2, none⟩ = some (.string ⟨(bs[k]'(by omega)).1.toArray⟩) ∧ w.cell? ⟨g, off + (k + 1) * 2, none⟩ = some (.string ⟨bs[k + 1].1.toArray⟩) ∧ w.cell? ⟨g, off + (k + 1) * 2 + 1, none⟩ = some (.string ⟨bs[k + 1].2.toArray⟩) := by
  obtain ⟨A', ca', hv, ha⟩ := h
  simp only [Value.slice.injEq] at hv
  obtain ⟨rfl, _, rfl⟩ := hv
  obtain ⟨g, off, hA, hg, hc⟩ := ha (by omega)
  exact ⟨g, off, hA, (hc k (by omega)).1, (hc (k + 1) hk).1, (hc (k + 1) hk).2⟩

theorem exB_len (l : List UInt8) : (exB l).length = if exOk l = true then 1 else 0 := by unfold exB; split <;> rfl
theorem specExact_len (l : List UInt8) (w : World) (hl : l.length ≤ 1048576) : Calls Tryz.prog 40 #[.string ⟨l.toArray⟩] w fun e w' => ∃ g n, n = (if exOk l = true then 1 else 0) ∧ e = .returned (.slice (some ⟨g, 0, none⟩) n n) ∧ Below w.heap.size w w' :=
  (specExact_any l w hl).mono fun e w' ⟨g, he, _, _, hb⟩ => ⟨g, _, rfl, by rw [← exB_len]; exact he, hb⟩

set_option maxRecDepth 100000 in
set_option maxHeartbeats 4000000 in
theorem specPackOkG_any (p : Pk) (a b : Value) (w : World) (ha : RdB w a p.sums) (hb : RdS w b p.needs) (t1 : p.name.length ≤ 1048576) (t2 : p.ver.length ≤ 1048576) (t3 : p.src.length ≤ 1048576) (hsm : SmB p.sums) :
    Calls Tryz.prog 21 #[.agg #[.string ⟨p.name.toArray⟩, .string ⟨p.ver.toArray⟩, .string ⟨p.src.toArray⟩, a, .bool p.dev, b]] w fun e w' => e = .returned (.bool (pkOk p)) ∧ Below w.heap.size w w' := by
  have HA := Lib.hid ha
  have HSM := Lib.hid hsm
  have hn : p.sums.length ≤ 1048576 := by unfold SmB at hsm; omega
  have HN : Hid (∀ W, Calls Tryz.prog 39 #[.string ⟨p.name.toArray⟩] W fun e w' => e = .returned (.bool (specN p.name)) ∧ Below W.heap.size W w') := Lib.hid (fun W => specNameOk_any ⟨p.name.toArray⟩ W (by show p.name.toArray.size ≤ _; simp; omega))
  have HE := Lib.hid (fun W => specExact_len p.ver W t2)
  have HP : Hid (∀ W, Calls Tryz.prog 41 #[.string ⟨p.src.toArray⟩] W fun e w' => e = .returned (.bool (plainL p.src)) ∧ W = w') := Lib.hid (fun W => specPlainOk_any ⟨p.src.toArray⟩ W (by show p.src.toArray.size ≤ maxLen; unfold maxLen; simp; omega))
  obtain ⟨A, ca, rfl⟩ := ha.slice
  obtain ⟨B, cb, rfl⟩ := hb.slice
  obtain ⟨r, HR⟩ : ∃ r, Hid (pkOk p = r) := ⟨_, Lib.hid rfl⟩
  rw [HR.out]
  obtain ⟨x, HXX⟩ : ∃ x, Hid (specN p.name = x) := ⟨_, Lib.hid rfl⟩
  obtain ⟨y, HYY⟩ : ∃ y, Hid (exOk p.ver = y) := ⟨_, Lib.hid rfl⟩
  obtain ⟨z, HZZ⟩ : ∃ z, Hid (plainL p.src = z) := ⟨_, Lib.hid rfl⟩
  have HRR : Hid (r = (sumsOkL p.sums && (x && (y && z)))) := Lib.hid (by rw [← HR.out]; unfold pkOk; rw [HXX.out, HYY.out, HZZ.out])
  simp only [HXX.out] at HN
  simp only [HYY.out] at HE
  simp only [HZZ.out] at HP
  clear ha hb hsm
  obtain ⟨pn, pv, ps, bs, pd, pe⟩ := p
  simp only at HA HSM hn HN HE HP HRR t1 t2 t3 ⊢
  have B0 : Below w.heap.size w (w.alloc (.cells #[.string ⟨pn.toArray⟩, .string ⟨pv.toArray⟩, .string ⟨ps.toArray⟩, .slice A bs.length ca, .bool pd, .slice B pe.length cb] 43)) := (Below.refl _ _).alloc (Nat.le_refl _) _
  have bx := heap_alloc_new w (.cells #[.string ⟨pn.toArray⟩, .string ⟨pv.toArray⟩, .string ⟨ps.toArray⟩, .slice A bs.length ca, .bool pd, .slice B pe.length cb] 43)
  go_enter Tryz.func21, Tryz.ntmps21
  go_wp2_with fail
  go_loopw [3] (fun i wr => ∃ k : Nat, k ≤ bs.length ∧ i = .int .i64 k ∧ Hid (sumsTo bs k = true) ∧ Below w.heap.size w wr ∧ wr.heap[w.heap.size]? = some (.cells #[.string ⟨pn.toArray⟩, .string ⟨pv.toArray⟩, .string ⟨ps.toArray⟩, .slice A bs.length ca, .bool pd, .slice B pe.length cb] 43)) (fun i _ => bs.length - (intOf i).toNat)
  case atStart => exact ⟨0, Nat.zero_le _, rfl, Lib.hid rfl, B0, bx⟩
  case round =>
    obtain ⟨k, hk, rfl, HT, hbr, hbx⟩ := hrel
    clear B0 bx
    obtain ⟨x0, x1, x2, x3, x4, x5⟩ := cells6 hbx
    by_cases hlt : k < bs.length
    · have k0 : (0 : Int) ≤ (k : Int) := by omega
      have k1 : (k : Int) < (bs.length : Int) := by omega
      have hbl : bs[k].2.length ≤ 1048576 := by have := smB_mem bs[k] (List.getElem_mem hlt); have := HSM.out; unfold SmB at this; omega
      obtain ⟨g, off, rfl, _, d1, d2⟩ := (HA.out.below hbr).at k hlt
      have HL := Lib.hid (fun W => l04Long_any bs[k].1 W)
      have hlb := longI_bd bs[k].1
      have HQ := Lib.hid (fun (h : sumAt bs k = false) => (show r = false by rw [HRR.out, sums_bad hlt h]; rfl))
      obtain ⟨u, HU⟩ : ∃ u, Hid (longI bs[k].1 = u) := ⟨_, Lib.hid rfl⟩
      simp only [HU.out] at HL
      rw [HU.out] at hlb
      have HZ0 := Lib.hid (fun (h : k = 0) => (show sumAt bs k = decide (u = (bs[k].2.length : Int)) by subst h; rw [← HU.out]; exact sumAt_zero hlt))
      have HZ1 := Lib.hid (fun (j : Nat) (h : k = j + 1) => (show sumAt bs k = (decide (u = (bs[k].2.length : Int)) && Op.bytesLess (bs[j]'(by omega)).1 bs[k].1) by subst h; rw [← HU.out]; exact sumAt_more hlt))
      have HTT := Lib.hid (fun (h : sumAt bs k = true) => sums_step HT.out h)
      have HAR := Lib.hid (HA.out.below hbr)
      obtain ⟨al, HAL⟩ : ∃ al, Hid (bs[k].1 = al) := ⟨_, Lib.hid rfl⟩
      obtain ⟨by_, HBY⟩ : ∃ by_, Hid (bs[k].2 = by_) := ⟨_, Lib.hid rfl⟩
      rw [HAL.out] at d1
      rw [HBY.out] at d2 hbl
      simp only [HAL.out] at HL HZ1
      simp only [HBY.out] at HZ0 HZ1
      have HLQ : Hid (∀ W, Calls Tryz.prog 38 #[.string ⟨al.toArray⟩] W fun e w' => e = .returned (.int .i64 u) ∧ w' = W) := Lib.hid (fun W => (HL.out W).mono fun e w' h => ⟨h.1, h.2.symm⟩)
      clear HL
      by_cases hq : u = (by_.length : Int)
      · have q1 : (u != (by_.length : Int)) = false := int_bne_false hq
        by_cases hz : k = 0
        · have HN2 := Lib.hid (HTT.out (by rw [HZ0.out hz]; exact decide_eq_true hq))
          have g0 : ¬ (0 : Int) < (k : Int) := by omega
          have g1 : decide (0 < k) = false := by simp; omega
          clear hq hz HQ HZ0 HZ1 HTT
          go_wp2_with fail
          go_quiet ((go_at_call 38; exact Calls.quiet_of_same (HLQ.out _)))
          go_wp2_with fail
          go_roundw
          case rel => exact ⟨k + 1, by omega, by go_num, HN2, hbr.trans (below_drewN _ _ _), keepB hbx (below_drewN _ _ _)⟩
          case measure => simp [intOf]; omega
        · obtain ⟨j, hj⟩ : ∃ j, k = j + 1 := ⟨k - 1, by omega⟩
          have HZ2 := Lib.hid (HZ1.out j hj)
          have hjl : j < bs.length := by omega
          obtain ⟨g', off', hge, _, e1, e2⟩ := HAR.out.at j hjl
          clear e2
          simp only [Option.some.injEq, Addr.mk.injEq, and_true] at hge
          obtain ⟨rfl, rfl⟩ := hge
          have jw : IntKind.i64.wrap ((k : Int) - 1) = (j : Int) := by rw [show (k : Int) - 1 = (j : Int) by omega]; exact IntWalk.i64_in _ (by omega)
          have g0 : (0 : Int) < (k : Int) := by omega
          have g1 : decide (0 < k) = true := by simp; omega
          have j0 : (0 : Int) ≤ (j : Int) := by omega
          have j1 : (j : Int) < (bs.length : Int) := by omega
          obtain ⟨pr, HPR⟩ : ∃ pr, Hid (bs[j].1 = pr) := ⟨_, Lib.hid rfl⟩
          rw [HPR.out] at e1 HZ2
          cases hl : Op.bytesLess pr al with
          | true =>
            have HN2 := Lib.hid (HTT.out (by rw [HZ2.out, hl, decide_eq_true hq]; rfl))
            clear hq hz HQ HZ0 HZ1 HTT hj HZ2 HAR
            go_wp2_with fail
            go_quiet ((go_at_call 38; exact Calls.quiet_of_same (HLQ.out _)))
            go_wp2_with fail
            go_roundw
            case rel => exact ⟨k + 1, by omega, by go_num, HN2, hbr.trans (below_drewN _ _ _), keepB hbx (below_drewN _ _ _)⟩
            case measure => simp [intOf]; omega
          | false =>
            have HX := Lib.hid (HQ.out (by rw [HZ2.out, hl, Bool.and_false]))
            clear hq hz HQ HZ0 HZ1 HTT hj HZ2 HAR
            go_wp2_with fail
            go_quiet ((go_at_call 38; exact Calls.quiet_of_same (HLQ.out _)))
            go_wp2_with fail
            go_ret
            exact ⟨ret_bool HX.out.symm, hbr.trans (below_drewN _ _ _)⟩
      · have q1 : (u != (by_.length : Int)) = true := int_bne_true hq
        have HX : Hid (r = false) := Lib.hid (by
          apply HQ.out
          by_cases hz : k = 0
          · rw [HZ0.out hz]; exact decide_eq_false hq
          · rw [HZ1.out (k - 1) (by omega), decide_eq_false hq]; rfl)
        clear hq HQ HZ0 HZ1 HTT HAR
        go_wp2_with fail
        go_quiet ((go_at_call 38; exact Calls.quiet_of_same (HLQ.out _)))
        go_wp2_with fail
        go_ret
        exact ⟨ret_bool HX.out.symm, hbr.trans (below_drewN _ _ _)⟩
    · have HOK : Hid (r = (x && (y && z))) := Lib.hid (by rw [HRR.out, sums_end HT.out (by omega), Bool.true_and])
      cases x with
      | false =>
        go_wp2_with fail
        refine (HN.out _).mono ?_
        rintro e w1 ⟨rfl, hb1⟩
        go_wp2_with fail
        go_ret
        exact ⟨ret_bool HOK.out.symm, hbr.trans (hb1.mono hbr.size)⟩
      | true =>
        cases y with
        | false =>
          go_wp2_with fail
          refine (HN.out _).mono ?_
          rintro e w1 ⟨rfl, hb1⟩
          have B1 := hbr.trans (hb1.mono hbr.size)
          obtain ⟨y0, y1, y2, y3, y4, y5⟩ := cells6 (keepB hbx hb1)
          go_wp2_with fail
          refine (HE.out _).mono ?_
          rintro e w2 ⟨gg, nn, hnn, rfl, hb2⟩
          obtain rfl : nn = 0 := hnn
          go_wp2_with fail
          go_ret
          exact ⟨ret_bool HOK.out.symm, B1.trans (hb2.mono B1.size)⟩
        | true =>
          go_wp2_with fail
          refine (HN.out _).mono ?_
          rintro e w1 ⟨rfl, hb1⟩
          have B1 := hbr.trans (hb1.mono hbr.size)
          have hb1x := keepB hbx hb1
          obtain ⟨y0, y1, y2, y3, y4, y5⟩ := cells6 hb1x
          go_wp2_with fail
          refine (HE.out _).mono ?_
          rintro e w2 ⟨gg, nn, hnn, rfl, hb2⟩
          obtain rfl : nn = 1 := hnn
          have B2 := B1.trans (hb2.mono B1.size)
          obtain ⟨z0, z1, z2, z3, z4, z5⟩ := cells6 (keepB hb1x hb2)
          go_wp2_with fail
          refine (HP.out _).mono ?_
          rintro e w3 ⟨rfl, rfl⟩
          go_wp2_with fail
          go_ret
          exact ⟨ret_bool (by rw [HOK.out]; simp), B2⟩
theorem specPackOk_any (p : Pk) (a b : Value) (w : World) (ha : RdB w a p.sums) (hb : RdS w b p.needs) (hp : SmPk p) :
    Calls Tryz.prog 21 #[.agg #[.string ⟨p.name.toArray⟩, .string ⟨p.ver.toArray⟩, .string ⟨p.src.toArray⟩, a, .bool p.dev, b]] w fun e w' => e = .returned (.bool (pkOk p)) ∧ Below w.heap.size w w' :=
  specPackOkG_any p a b w ha hb hp.texts.1 hp.texts.2.1 hp.texts.2.2 hp.sums
end Go.Proofs.YtcfkhfbhmjfhdaaGreatDoor
