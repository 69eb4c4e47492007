/-
  spec.l04Keys: whether texts are ascending, and each one of a graph's keys.
-/
import Derived.Test.YtcfkhfbhmjfhdaaGreatDoorRdsA
import Derived.Test.YtcfkhfbhmjfhdaaGreatDoorFutR
namespace Go.Proofs.YtcfkhfbhmjfhdaaGreatDoor
open Go.RowKit

set_option maxRecDepth 100000 in
set_option maxHeartbeats 2000000 in
theorem l04Keys_any (T : Option Addr) (tn tc : Nat) (vp vl : Value) (ps : List Pk) (ls : List (List UInt8)) (w : World) (hp : RdPs w vp ps) (hs : SmPs ps) (hl : RdS w vl ls) (hll : ls.length ≤ 1048576) :
    Calls Tryz.prog 22 #[.agg #[.slice T tn tc, vp], vl] w fun e w' => e = .returned (.bool (keysOkL ps ls)) ∧ Below w.heap.size w w' := by
  have HF := Lib.hid (fun (W : World) (h : Below w.heap.size w W) (key : List UInt8) => specFind_any T tn tc vp ps key W (hp.below h) hs)
  have HR := Lib.hid hl
  obtain ⟨P, cp, rfl, _⟩ := hp
  obtain ⟨A, ca, rfl, _⟩ := hl
  obtain ⟨r, HRR⟩ : ∃ r, Hid (keysOkL ps ls = r) := ⟨_, Lib.hid rfl⟩
  rw [HRR.out]
  have B0 : Below w.heap.size w (w.alloc (.cells #[.slice T tn tc, .slice P ps.length cp] 30)) := (Below.refl _ _).alloc (Nat.le_refl _) _
  have b0 := heap_alloc_new w (.cells #[.slice T tn tc, .slice P ps.length cp] 30)
  clear hs
  go_enter Tryz.func22, Tryz.ntmps22
  go_wp2_with fail
  go_loopw [5] (fun i wr => ∃ k : Nat, k ≤ ls.length ∧ i = .int .i64 k ∧ Hid (allTo (keyAtB ps ls) k = true) ∧ Below w.heap.size w wr ∧ wr.heap[w.heap.size]? = some (.cells #[.slice T tn tc, .slice P ps.length cp] 30)) (fun i _ => ls.length - (intOf i).toNat)
  case atStart => exact ⟨0, Nat.zero_le _, rfl, Lib.hid rfl, B0, b0⟩
  case round =>
    obtain ⟨k, hk, rfl, HT, hb, hbox⟩ := hrel
    obtain ⟨x0, x1⟩ := cellsG hbox
    clear B0 b0
    by_cases hlt : k < ls.length
    · obtain ⟨g, off, rfl, hg, hc⟩ := rdS_at (HR.out.below hb) k hlt
      have d1 := hc k hlt
      have k0 : (0 : Int) ≤ (k : Int) := by omega
      have k1 : (k : Int) < (ls.length : Int) := by omega
      have HFK := Lib.hid (fun (W : World) (h : Below w.heap.size w W) => HF.out W h ls[k])
      have HQ := Lib.hid (fun (h : keyAtB ps ls k = false) => (show r = false by rw [← HRR.out]; exact allTo_bad hlt h))
      have HTT := Lib.hid (fun (h : keyAtB ps ls k = true) => allTo_step HT.out h)
      have HZ0 := Lib.hid (fun (h : k = 0) => (show keyAtB ps ls k = decide (0 ≤ findP ps ls[k]) by subst h; exact keyAtB_zero hlt))
      have HZ1 := Lib.hid (fun (j : Nat) (h : k = j + 1) => (show keyAtB ps ls k = (decide (0 ≤ findP ps ls[k]) && Op.bytesLess (ls[j]'(by omega)) ls[k]) by subst h; exact keyAtB_more hlt))
      obtain ⟨f, HFF⟩ : ∃ f, Hid (findP ps ls[k] = f) := ⟨_, Lib.hid rfl⟩
      simp only [HFF.out] at HFK HZ0 HZ1
      obtain ⟨cur, HCU⟩ : ∃ cur, Hid (ls[k] = cur) := ⟨_, Lib.hid rfl⟩
      simp only [HCU.out] at HFK HZ1 d1
      have HBX := Lib.hid hbox
      have z0 := fut_cell x0
      have z1 := fut_cell x1
      have z2 := fut_cell d1
      by_cases hf : f < 0
      · have qf : decide (f < 0) = true := decide_eq_true hf
        have HX : Hid (r = false) := Lib.hid (HQ.out (by
          by_cases hz : k = 0
          · rw [HZ0.out hz]; exact decide_eq_false (by omega)
          · rw [HZ1.out (k - 1) (by omega), decide_eq_false (by omega)]; rfl))
        clear HQ HTT HZ0 HZ1 hc hbox
        go_wp2_with fail
        refine wp_region_fut (by kernel_rfl) (by kernel_rfl) ?_
        repeat (first | go_big_quiet_skip | (go_big_quiet_want; go_big_quiet_op; first | go_big_quiet_on | go_big_quiet_call ((go_at_call 42; exact fut_call (HFK.out _ (hb.trans (Below.mono (Fut.bel _) hb.size)))))))
        refine wpQuiet_nil ?_
        rintro _ ⟨⟨w1, hb1⟩, rfl⟩
        have B1 := hb.trans (hb1.mono hb.size)
        go_wp2_with fail
        go_ret
        exact ⟨ret_bool HX.out.symm, B1⟩
      · have qf : decide (f < 0) = false := decide_eq_false hf
        by_cases hz : k = 0
        · have HN2 := Lib.hid (HTT.out (by rw [HZ0.out hz]; exact decide_eq_true (by omega)))
          have g0 : ¬ (0 : Int) < (k : Int) := by omega
          have g1 : decide (0 < k) = false := by simp; omega
          clear hz HQ HTT HZ0 HZ1 hc hbox
          go_wp2_with fail
          refine wp_region_fut (by kernel_rfl) (by kernel_rfl) ?_
          repeat (first | go_big_quiet_skip | (go_big_quiet_want; go_big_quiet_op; first | go_big_quiet_on | go_big_quiet_call ((go_at_call 42; exact fut_call (HFK.out _ (hb.trans (Below.mono (Fut.bel _) hb.size)))))))
          refine wpQuiet_nil ?_
          rintro _ ⟨⟨w1, hb1⟩, rfl⟩
          have B1 := hb.trans (hb1.mono hb.size)
          have b1 := keepB HBX.out hb1
          go_wp2_with fail
          go_roundw
          case rel => exact ⟨k + 1, by omega, by go_num, HN2, B1, b1⟩
          case measure => simp [intOf]; omega
        · obtain ⟨j, hj⟩ : ∃ j, k = j + 1 := ⟨k - 1, by omega⟩
          have HZ2 := Lib.hid (HZ1.out j hj)
          have hjl : j < ls.length := by omega
          have e1 := hc j hjl
          have jw : IntKind.i64.wrap ((k : Int) - 1) = (j : Int) := by rw [show (k : Int) - 1 = (j : Int) by omega]; exact IntWalk.i64_in _ (by omega)
          have g0 : (0 : Int) < (k : Int) := by omega
          have g1 : decide (0 < k) = true := by simp; omega
          have j0 : (0 : Int) ≤ (j : Int) := by omega
          have j1 : (j : Int) < (ls.length : Int) := by omega
          obtain ⟨pr, HPR⟩ : ∃ pr, Hid (ls[j] = pr) := ⟨_, Lib.hid rfl⟩
          rw [HPR.out] at e1 HZ2
          have z3 := fut_cell e1
          cases hl : Op.bytesLess pr cur with
          | true =>
            have HN2 := Lib.hid (HTT.out (by rw [HZ2.out, hl, decide_eq_true (by omega)]; rfl))
            clear hz HQ HTT HZ0 HZ1 HZ2 hc hbox hj
            go_wp2_with fail
            refine wp_region_fut (by kernel_rfl) (by kernel_rfl) ?_
            repeat (first | go_big_quiet_skip | (go_big_quiet_want; go_big_quiet_op; first | go_big_quiet_on | go_big_quiet_call ((go_at_call 42; exact fut_call (HFK.out _ (hb.trans (Below.mono (Fut.bel _) hb.size)))))))
            refine wpQuiet_nil ?_
            rintro _ ⟨⟨w1, hb1⟩, rfl⟩
            have B1 := hb.trans (hb1.mono hb.size)
            have b1 := keepB HBX.out hb1
            go_wp2_with fail
            go_roundw
            case rel => exact ⟨k + 1, by omega, by go_num, HN2, B1, b1⟩
            case measure => simp [intOf]; omega
          | false =>
            have HX := Lib.hid (HQ.out (by rw [HZ2.out, hl, Bool.and_false]))
            clear hz HQ HTT HZ0 HZ1 HZ2 hc hbox hj
            go_wp2_with fail
            refine wp_region_fut (by kernel_rfl) (by kernel_rfl) ?_
            repeat (first | go_big_quiet_skip | (go_big_quiet_want; go_big_quiet_op; first | go_big_quiet_on | go_big_quiet_call ((go_at_call 42; exact fut_call (HFK.out _ (hb.trans (Below.mono (Fut.bel _) hb.size)))))))
            refine wpQuiet_nil ?_
            rintro _ ⟨⟨w1, hb1⟩, rfl⟩
            have B1 := hb.trans (hb1.mono hb.size)
            go_wp2_with fail
            go_ret
            exact ⟨ret_bool HX.out.symm, B1⟩
    · have HX : Hid (r = true) := Lib.hid (by rw [← HRR.out]; have := HT.out; rw [show k = ls.length by omega] at this; exact this)
      go_wp2_with fail
      go_ret
      exact ⟨ret_bool HX.out.symm, hb⟩
end Go.Proofs.YtcfkhfbhmjfhdaaGreatDoor
