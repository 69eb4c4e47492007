/-
  Whether a bound takes a version: spec.l03Takes.
-/
import Derived.Test.YtnodhkjgnegkcaaGreatDoorWholeA
import Derived.Test.YtnodhkjgnegkcaaGreatDoorGrL
import Derived.Test.YtnodhkjgnegkcaaGreatDoorRdIs
import Derived.Deep.QuietTactic
import Derived.BigQuiet
import Derived.Test.YtnodhkjgnegkcaaGreatDoorBase
import Derived.Test.YtnodhkjgnegkcaaGreatDoorRows
import Derived.Test.YtnodhkjgnegkcaaGreatDoorVerM
import Derived.Test.YtnodhkjgnegkcaaGreatDoorVerS
import Derived.RangeFuncNested
import Derived.RangeFuncBound
import Derived.RangeFuncCalls
import Derived.RangeFuncLeaves
import Derived.Shelf.Abstract
import Derived.Shelf.RegionOpen
import Derived.WalkKit
import Derived.OwnWalkIn
import Derived.TacticsInMore
import Derived.LoopNIn
import Derived.LoopIn
import Derived.Sort.QuietIn
import Derived.Test.YtnodhkjgnegkcaaGreatDoorStr
import Derived.Test.YtnodhkjgnegkcaaGreatDoorCut
import Derived.Shelf.Strconv.Clone
import Derived.Ground.NamesProg
import Derived.Test.YtnodhkjgnegkcaaGreatDoorProg
import Derived.Test.YtnodhkjgnegkcaaGreatDoorRdL
import Derived.Outline
import Derived.RangeFuncFrom
import Derived.RangeFuncBox
import Derived.Stop.RegionWithIn
import Derived.Deep.RegionHeld3
import Derived.Test.YtnodhkjgnegkcaaGreatDoorCmpS
import Derived.Deep.RegionWith
import Derived.Test.YtnodhkjgnegkcaaGreatDoorRngS
import Derived.Test.YtnodhkjgnegkcaaGreatDoorCmpW
/-
  spec.GraphOk: whether a graph is right.
-/
namespace Go.Proofs.YtnodhkjgnegkcaaGreatDoor
open Go.RowKit

/-- What is asked of the k-th pack. -/
def allAt (ps : List Pk) (k : Nat) : Bool := pkAtB ps k && ndAt ps k
theorem grOk_all (ts : List (List UInt8)) (ps : List Pk) : grOk ts ps = (allTo (allAt ps) ps.length && (decide (ps.length ≤ 40) && keysOkL ps ts)) := rfl
theorem allAt_zero {ps : List Pk} (h : 0 < ps.length) : allAt ps 0 = (pkOk ps[0] && keysOkL ps ps[0].needs) := by
  unfold allAt pkAtB ndAt; rw [ps_at h, upAt_zero, Bool.and_true]
theorem allAt_more {ps : List Pk} {k : Nat} (h : k + 1 < ps.length) : allAt ps (k + 1) = ((pkOk ps[k + 1] && Op.bytesLess (keyOf (ps[k]'(by omega))) (keyOf ps[k + 1])) && keysOkL ps ps[k + 1].needs) := by
  unfold allAt pkAtB ndAt; rw [ps_at h, upAt_more h]
theorem allAt_bad {ps : List Pk} {k : Nat} (h : k < ps.length) (hb : pkOk ps[k] = false ∨ keysOkL ps ps[k].needs = false) : allAt ps k = false := by
  unfold allAt pkAtB ndAt; rw [ps_at h]
  rcases hb with hb | hb
  · rw [hb]; rfl
  · rw [hb, Bool.and_false]

set_option maxRecDepth 100000 in
set_option maxHeartbeats 4000000 in
theorem specGraphOk_any (vt vp : Value) (ts : List (List UInt8)) (ps : List Pk) (w : World) (ht : RdS w vt ts) (hp : RdPs w vp ps) (hs : SmG ts ps) :
    Calls Tryz.prog 51 #[.agg #[vt, vp]] w fun e w' => e = .returned (.bool (grOk ts ps)) ∧ Below w.heap.size w w' := by
  have HSP := Lib.hid hs.2
  have htl : ts.length ≤ 1048576 := by have := hs.1; omega
  have hn : ps.length ≤ 1048576 := by have := hs.2; unfold SmPs at this; omega
  have HR := Lib.hid hp
  obtain ⟨T, tc, rfl⟩ := ht.slice
  have HKT := Lib.hid (fun (W : World) (h : Below w.heap.size w W) => l04Keys_any T ts.length tc vp (.slice T ts.length tc) ps ts W (hp.below h) hs.2 (ht.below h) htl)
  have HKN := Lib.hid (fun (W : World) (h : Below w.heap.size w W) (v : Value) (ls : List (List UInt8)) (h2 : RdS W v ls) (h3 : ls.length ≤ 1048576) => l04Keys_any T ts.length tc vp v ps ls W (hp.below h) hs.2 h2 h3)
  obtain ⟨A, ca, rfl, _⟩ := hp
  obtain ⟨r, HRR⟩ : ∃ r, Hid (grOk ts ps = r) := ⟨_, Lib.hid rfl⟩
  rw [HRR.out]
  obtain ⟨kt, HKTT⟩ : ∃ kt, Hid (keysOkL ps ts = kt) := ⟨_, Lib.hid rfl⟩
  have HEND : Hid (allTo (allAt ps) ps.length = true → r = (decide (ps.length ≤ 40) && kt)) := Lib.hid (fun h => by rw [← HRR.out, grOk_all, h, HKTT.out]; rfl)
  simp only [HKTT.out] at HKT
  have B0 : Below w.heap.size w (w.alloc (.cells #[.slice T ts.length tc, .slice A ps.length ca] 37)) := (Below.refl _ _).alloc (Nat.le_refl _) _
  have b0 := heap_alloc_new w (.cells #[.slice T ts.length tc, .slice A ps.length ca] 37)
  clear ht hs
  go_enter Tryz.func51, Tryz.ntmps51
  go_wp2_with fail
  go_loopw [3] (fun i wr => ∃ k : Nat, k ≤ ps.length ∧ i = .int .i64 k ∧ Hid (allTo (allAt ps) k = true) ∧ Below w.heap.size w wr ∧ wr.heap[w.heap.size]? = some (.cells #[.slice T ts.length tc, .slice A ps.length ca] 37)) (fun i _ => ps.length - (intOf i).toNat)
  case atStart => exact ⟨0, Nat.zero_le _, rfl, Lib.hid rfl, B0, b0⟩
  case round =>
    obtain ⟨k, hk, rfl, HT, hb, hbox⟩ := hrel
    obtain ⟨x0, x1⟩ := cellsG hbox
    have z0 := fut_cell x0
    have z1 := fut_cell x1
    clear B0 b0
    by_cases hlt : k < ps.length
    · have HRW := Lib.hid (HR.out.below hb)
      obtain ⟨g, off, rfl, hg, a, b, d0, d1, d2, d3, d4, d5, ra, rb⟩ := HRW.out.at k hlt
      have HPK := Lib.hid (fun (F : Fut wr) => specPackOk_any ps[k] a b F.out (ra.below F.bel) (rb.below F.bel) (HSP.out.get k hlt))
      have hnl : ps[k].needs.length ≤ 1048576 := by have := (HSP.out.get k hlt).needs; omega
      have HND := Lib.hid (fun (F : Fut wr) => HKN.out F.out (hb.trans (F.bel.mono hb.size)) b ps[k].needs (rb.below F.bel) hnl)
      have HKO := Lib.hid (fun (F : Fut wr) => specKeyOf_any ps[k] a b F.out (ra.below F.bel) (rb.below F.bel) (HSP.out.get k hlt))
      have k0 : (0 : Int) ≤ (k : Int) := by omega
      have k1 : (k : Int) < (ps.length : Int) := by omega
      have HQ := Lib.hid (fun (h : allAt ps k = false) => (show r = false by rw [← HRR.out, grOk_all, allTo_bad hlt h]; rfl))
      have HTT := Lib.hid (fun (h : allAt ps k = true) => allTo_step HT.out h)
      have HB := Lib.hid (fun h => HQ.out (allAt_bad hlt h))
      have HZ0 := Lib.hid (fun (h : k = 0) => (show allAt ps k = (pkOk ps[k] && keysOkL ps ps[k].needs) by subst h; exact allAt_zero hlt))
      have HZ1 := Lib.hid (fun (j : Nat) (h : k = j + 1) => (show allAt ps k = ((pkOk ps[k] && Op.bytesLess (keyOf (ps[j]'(by omega))) (keyOf ps[k])) && keysOkL ps ps[k].needs) by subst h; exact allAt_more hlt))
      obtain ⟨A1, c1, rfl⟩ := ra.slice
      obtain ⟨A2, c2, rfl⟩ := rb.slice
      have y0 := fut_cell d0
      have y1 := fut_cell d1
      have y2 := fut_cell d2
      have y3 := fut_cell d3
      have y4 := fut_cell d4
      have y5 := fut_cell d5
      obtain ⟨pk, HPKK⟩ : ∃ pk, Hid (pkOk ps[k] = pk) := ⟨_, Lib.hid rfl⟩
      obtain ⟨nd, HNDD⟩ : ∃ nd, Hid (keysOkL ps ps[k].needs = nd) := ⟨_, Lib.hid rfl⟩
      simp only [HPKK.out] at HPK HZ0 HZ1 HB
      simp only [HNDD.out] at HND HZ0 HZ1 HB
      have HBX := Lib.hid hbox
      clear ra rb hbox
      cases pk with
      | false =>
        have HX : Hid (r = false) := Lib.hid (HB.out (.inl rfl))
        clear HQ HTT HZ0 HZ1 HB
        go_wp2_with fail
        refine wp_region_fut (by kernel_rfl) (by kernel_rfl) ?_
        repeat (first | go_big_quiet_skip | (go_big_quiet_want; go_big_quiet_op; first | go_big_quiet_on | go_big_quiet_call ((go_at_call 103; exact fut_call (HPK.out _)))))
        refine wpQuiet_nil ?_
        rintro _ ⟨⟨w1, hb1⟩, rfl⟩
        go_wp2_with fail
        go_ret
        exact ⟨ret_bool HX.out.symm, hb.trans (hb1.mono hb.size)⟩
      | true =>
        cases nd with
        | false =>
          have HX : Hid (r = false) := Lib.hid (HB.out (.inr rfl))
          clear HQ HTT HZ0 HZ1 HB
          go_wp2_with fail
          refine wp_region_fut (by kernel_rfl) (by kernel_rfl) ?_
          repeat (first | go_big_quiet_skip | (go_big_quiet_want; go_big_quiet_op; first | go_big_quiet_on | go_big_quiet_call (first | (go_at_call 103; exact fut_call (HPK.out _)) | (go_at_call 104; exact fut_call (HND.out _)))))
          refine wpQuiet_nil ?_
          rintro _ ⟨⟨w1, hb1⟩, rfl⟩
          go_wp2_with fail
          go_ret
          exact ⟨ret_bool HX.out.symm, hb.trans (hb1.mono hb.size)⟩
        | true =>
          by_cases hz : k = 0
          · have HN2 := Lib.hid (HTT.out (by rw [HZ0.out hz]; rfl))
            have g1 : decide ((0 : Int) < (k : Int)) = false := by simp; omega
            have g2 : decide (0 < k) = false := by simp; omega
            clear hz HQ HTT HZ0 HZ1 HB
            go_wp2_with fail
            refine wp_region_fut (by kernel_rfl) (by kernel_rfl) ?_
            repeat (first | go_big_quiet_skip | (go_big_quiet_want; go_big_quiet_op; first | go_big_quiet_on | go_big_quiet_call (first | (go_at_call 103; exact fut_call (HPK.out _)) | (go_at_call 104; exact fut_call (HND.out _)))))
            refine wpQuiet_nil ?_
            rintro _ ⟨⟨w1, hb1⟩, rfl⟩
            have B1 := hb.trans (hb1.mono hb.size)
            have b1 := keepB HBX.out hb1
            go_wp2_with fail
            go_roundw
            case rel => exact ⟨k + 1, by omega, by go_num, HN2, B1, b1⟩
            case measure => simp [intOf]; omega
          · obtain ⟨j, hj⟩ : ∃ j, k = j + 1 := ⟨k - 1, by omega⟩
            have HZ2 := Lib.hid (HZ1.out j hj)
            have hjl : j < ps.length := by omega
            obtain ⟨g', off', hge, _, a', b', e0, e1, e2, e3, e4, e5, ra', rb'⟩ := HRW.out.at j hjl
            simp only [Option.some.injEq, Addr.mk.injEq, and_true] at hge
            obtain ⟨rfl, rfl⟩ := hge
            have HKJ := Lib.hid (fun (F : Fut wr) => specKeyOf_any ps[j] a' b' F.out (ra'.below F.bel) (rb'.below F.bel) (HSP.out.get j hjl))
            obtain ⟨A3, c3, rfl⟩ := ra'.slice
            obtain ⟨A4, c4, rfl⟩ := rb'.slice
            have u0 := fut_cell e0
            have u1 := fut_cell e1
            have u2 := fut_cell e2
            have u3 := fut_cell e3
            have u4 := fut_cell e4
            have u5 := fut_cell e5
            have jw : IntKind.i64.wrap ((k : Int) - 1) = (j : Int) := by rw [show (k : Int) - 1 = (j : Int) by omega]; exact IntWalk.i64_in _ (by omega)
            have g0 : (0 : Int) < (k : Int) := by omega
            have g1 : decide (0 < k) = true := by simp; omega
            have j0 : (0 : Int) ≤ (j : Int) := by omega
            have j1 : (j : Int) < (ps.length : Int) := by omega
            obtain ⟨pr, HPR⟩ : ∃ pr, Hid (keyOf ps[j] = pr) := ⟨_, Lib.hid rfl⟩
            obtain ⟨cu, HCU⟩ : ∃ cu, Hid (keyOf ps[k] = cu) := ⟨_, Lib.hid rfl⟩
            simp only [HPR.out] at HKJ HZ2
            simp only [HCU.out] at HKO HZ2
            clear ra' rb' HB
            cases hl : Op.bytesLess pr cu with
            | true =>
              have HN2 := Lib.hid (HTT.out (by rw [HZ2.out, hl]; rfl))
              clear hz HQ HTT HZ0 HZ1 HZ2 hj
              go_wp2_with fail
              refine wp_region_fut (by kernel_rfl) (by kernel_rfl) ?_
              repeat (first | go_big_quiet_skip | (go_big_quiet_want; go_big_quiet_op; first | go_big_quiet_on | go_big_quiet_call (first | (go_at_call 103; exact fut_call (HPK.out _)) | (go_at_call 104; exact fut_call (HND.out _)) | (go_at_call 73; exact fut_call (HKJ.out _)) | (go_at_call 73; exact fut_call (HKO.out _)))))
              refine wpQuiet_nil ?_
              rintro _ ⟨⟨w1, hb1⟩, rfl⟩
              have B1 := hb.trans (hb1.mono hb.size)
              have b1 := keepB HBX.out hb1
              go_wp2_with fail
              go_roundw
              case rel => exact ⟨k + 1, by omega, by go_num, HN2, B1, b1⟩
              case measure => simp [intOf]; omega
            | false =>
              have HX := Lib.hid (HQ.out (by rw [HZ2.out, hl]; rfl))
              clear hz HQ HTT HZ0 HZ1 HZ2 hj
              go_wp2_with fail
              refine wp_region_fut (by kernel_rfl) (by kernel_rfl) ?_
              repeat (first | go_big_quiet_skip | (go_big_quiet_want; go_big_quiet_op; first | go_big_quiet_on | go_big_quiet_call (first | (go_at_call 103; exact fut_call (HPK.out _)) | (go_at_call 104; exact fut_call (HND.out _)) | (go_at_call 73; exact fut_call (HKJ.out _)) | (go_at_call 73; exact fut_call (HKO.out _)))))
              refine wpQuiet_nil ?_
              rintro _ ⟨⟨w1, hb1⟩, rfl⟩
              go_wp2_with fail
              go_ret
              exact ⟨ret_bool HX.out.symm, hb.trans (hb1.mono hb.size)⟩
    · have HXE : Hid (r = (decide (ps.length ≤ 40) && kt)) := Lib.hid (HEND.out (by have := HT.out; rw [show k = ps.length by omega] at this; exact this))
      by_cases h40 : ps.length ≤ 40
      · have HX : Hid (r = kt) := Lib.hid (by rw [HXE.out, decide_eq_true h40]; rfl)
        have q1 : (ps.length : Int) ≤ 40 := by omega
        go_wp2_with fail
        refine (HKT.out _ hb).mono ?_
        rintro e w1 ⟨rfl, hb1⟩
        go_wp2_with fail
        go_ret
        exact ⟨ret_bool HX.out.symm, hb.trans (hb1.mono hb.size)⟩
      · have HX : Hid (r = false) := Lib.hid (by rw [HXE.out, decide_eq_false h40]; rfl)
        have q1 : ¬ (ps.length : Int) ≤ 40 := by omega
        go_wp2_with fail
        go_ret
        exact ⟨ret_bool HX.out.symm, hb⟩
end Go.Proofs.YtnodhkjgnegkcaaGreatDoor

/-
  strings.Cut at a dash.
-/
namespace Go.Proofs.YtnodhkjgnegkcaaGreatDoor
open Go.RowKit

set_option maxRecDepth 100000 in
set_option maxHeartbeats 1000000 in
theorem sliteIndex_dash (s : ByteArray) (w : World) (_hs : s.size ≤ 1048576) :
    Calls Tryz.prog 286 #[.string s, .string ⟨#[45]⟩] w fun e w' => e = .returned (.int .i64 (dash s.data.toList)) ∧ w = w' := by
  by_cases he : s.data.toList = [45]
  · have e1 : ([45] == s.toList) = true := by rw [ByteArray.toList_eq, he]; rfl
    have HD : Hid (dash s.data.toList = 0) := Lib.hid (by rw [he]; rfl)
    clear he
    go_enter Tryz.func286, Tryz.ntmps286
    go_wp2_with fail
    go_ret
    exact ⟨ret_int HD.out.symm, rfl⟩
  · have e1 : ([45] == s.toList) = false := by rw [ByteArray.toList_eq]; simp; exact fun h => he h.symm
    clear he
    go_enter Tryz.func286, Tryz.ntmps286
    go_wp2_with fail
    refine (sliteIndexByte_any s 45 _).mono ?_
    rintro e w' ⟨rfl, rfl⟩
    rw [show Lib.indexByte s.data.toList (Int.toNat 45).toUInt8 = dash s.data.toList from rfl]
    go_wp2_with fail
    go_ret
    exact ⟨rfl, rfl⟩

set_option maxRecDepth 100000 in
set_option maxHeartbeats 1000000 in
theorem cutDash_yes (s : ByteArray) (w : World) (hs : s.size ≤ 1048576) (k : Nat) (hk : k < s.size) (hd : dash s.data.toList = (k : Int)) :
    Calls Tryz.prog 231 #[.string s, .string ⟨#[45]⟩] w fun e w' => e = .returned (.tuple #[.string ⟨(s.data.toList.take k).toArray⟩, .string ⟨(s.data.toList.drop (k + 1)).toArray⟩, .bool true]) ∧ ∃ n, w' = w.drewN n := by
  have HI := Lib.hid (sliteIndex_dash s w hs)
  have HD := Lib.hid hd
  clear hd
  have e1 := slice_to s _ k (k : Int) rfl (by omega) (piece s 0 k)
  have e2 := slice_from s _ (k + 1) ((k : Int) + 1) (by omega) (by omega) (piece_end s (k + 1))
  have hC : Calls Tryz.prog 263 #[.string s, .string ⟨#[45]⟩] w fun e w' => e = .returned (.tuple #[.string ⟨(s.data.toList.take k).toArray⟩, .string ⟨(s.data.toList.drop (k + 1)).toArray⟩, .bool true]) ∧ ∃ n, w' = w.drewN n := by
    go_enter Tryz.func263, Tryz.ntmps263
    go_wp2_with fail
    refine HI.out.mono ?_
    rw [HD.out]
    rintro e w' ⟨rfl, rfl⟩
    have x1 : IntKind.i64.wrap ((k : Int) + 1) = (k : Int) + 1 := IntWalk.i64_in _ (by omega)
    have x2 : (0 : Int) ≤ (k : Int) := by omega
    go_wp2_with fail
    go_quiet (fail)
    go_wp2_with fail
    go_ret3
    exact ⟨rfl, _, rfl⟩
  have HC := Lib.hid hC
  clear hC e1 e2 HI
  go_enter Tryz.func231, Tryz.ntmps231
  go_wp2_with fail
  refine HC.out.mono ?_
  rintro e w' ⟨rfl, n, rfl⟩
  go_wp2_with fail
  go_ret3
  exact ⟨rfl, _, rfl⟩

set_option maxRecDepth 100000 in
set_option maxHeartbeats 1000000 in
theorem cutDash_no (s : ByteArray) (w : World) (hs : s.size ≤ 1048576) (d : Int) (hn : ¬ 0 ≤ d) (hd : dash s.data.toList = d) :
    Calls Tryz.prog 231 #[.string s, .string ⟨#[45]⟩] w fun e w' => e = .returned (.tuple #[.string s, .string ⟨#[]⟩, .bool false]) ∧ w = w' := by
  have HI := Lib.hid (sliteIndex_dash s w hs)
  have HD := Lib.hid hd
  clear hd
  have hC : Calls Tryz.prog 263 #[.string s, .string ⟨#[45]⟩] w fun e w' => e = .returned (.tuple #[.string s, .string ⟨#[]⟩, .bool false]) ∧ w = w' := by
    go_enter Tryz.func263, Tryz.ntmps263
    go_wp2_with fail
    refine HI.out.mono ?_
    rw [HD.out]
    rintro e w' ⟨rfl, rfl⟩
    go_wp2_with fail
    go_ret3
    exact ⟨rfl, rfl⟩
  have HC := Lib.hid hC
  clear hC HI
  go_enter Tryz.func231, Tryz.ntmps231
  go_wp2_with fail
  refine HC.out.mono ?_
  rintro e w' ⟨rfl, rfl⟩
  go_wp2_with fail
  go_ret3
  exact ⟨rfl, rfl⟩
end Go.Proofs.YtnodhkjgnegkcaaGreatDoor

/-
  impl.isLower, impl.isDigit: what kind a byte is.
-/
namespace Go.Proofs.YtnodhkjgnegkcaaGreatDoor
open Go.RowKit

def lowI (z : Int) : Bool := decide (97 ≤ z ∧ z ≤ 122)
def digI (z : Int) : Bool := decide (48 ≤ z ∧ z ≤ 57)
set_option maxRecDepth 100000 in
theorem isLower_any (z : Int) (w : World) (h0 : 0 ≤ z) (h1 : z < 256) : Calls Tryz.prog 251 #[.int .u8 z] w fun e w' => e = .returned (.bool (lowI z)) ∧ w = w' := by
  rcases (show (97 ≤ z ∧ z ≤ 122) ∨ z < 97 ∨ 122 < z from by omega) with ⟨a, b⟩ | a | a
  · have H : Hid (lowI z = true) := Lib.hid (by unfold lowI; simp; omega)
    go_enter Tryz.func251, Tryz.ntmps251
    go_wp2
    go_ret
    exact ⟨ret_bool H.out.symm, rfl⟩
  all_goals
    have H : Hid (lowI z = false) := Lib.hid (by unfold lowI; simp; omega)
    go_enter Tryz.func251, Tryz.ntmps251
    go_wp2
    go_ret
    exact ⟨ret_bool (by first | exact H.out.symm | (rw [H.out]; simp; omega)), rfl⟩
set_option maxRecDepth 100000 in
theorem isDigit_any (z : Int) (w : World) (h0 : 0 ≤ z) (h1 : z < 256) : Calls Tryz.prog 252 #[.int .u8 z] w fun e w' => e = .returned (.bool (digI z)) ∧ w = w' := by
  rcases (show (48 ≤ z ∧ z ≤ 57) ∨ z < 48 ∨ 57 < z from by omega) with ⟨a, b⟩ | a | a
  · have H : Hid (digI z = true) := Lib.hid (by unfold digI; simp; omega)
    go_enter Tryz.func252, Tryz.ntmps252
    go_wp2
    go_ret
    exact ⟨ret_bool H.out.symm, rfl⟩
  all_goals
    have H : Hid (digI z = false) := Lib.hid (by unfold digI; simp; omega)
    go_enter Tryz.func252, Tryz.ntmps252
    go_wp2
    go_ret
    exact ⟨ret_bool (by first | exact H.out.symm | (rw [H.out]; simp; omega)), rfl⟩
end Go.Proofs.YtnodhkjgnegkcaaGreatDoor

/-
  impl.isUpper: whether a byte is a great letter.
-/
namespace Go.Proofs.YtnodhkjgnegkcaaGreatDoor
open Go.RowKit

def uppI (z : Int) : Bool := decide (65 ≤ z ∧ z ≤ 90)
set_option maxRecDepth 100000 in
theorem isUpper_any (z : Int) (w : World) (h0 : 0 ≤ z) (h1 : z < 256) : Calls Tryz.prog 347 #[.int .u8 z] w fun e w' => e = .returned (.bool (uppI z)) ∧ w = w' := by
  rcases (show (65 ≤ z ∧ z ≤ 90) ∨ z < 65 ∨ 90 < z from by omega) with ⟨a, b⟩ | a | a
  · have H : Hid (uppI z = true) := Lib.hid (by unfold uppI; simp; omega)
    go_enter Tryz.func347, Tryz.ntmps347
    go_wp2
    go_ret
    exact ⟨ret_bool H.out.symm, rfl⟩
  all_goals
    have H : Hid (uppI z = false) := Lib.hid (by unfold uppI; simp; omega)
    go_enter Tryz.func347, Tryz.ntmps347
    go_wp2
    go_ret
    exact ⟨ret_bool (by first | exact H.out.symm | (rw [H.out]; simp; omega)), rfl⟩
end Go.Proofs.YtnodhkjgnegkcaaGreatDoor

/-
  impl's identifiers: what identifierOf hands back, and whether it is right.
-/
namespace Go.Proofs.YtnodhkjgnegkcaaGreatDoor
open Go.RowKit

/-- What identifierOf hands back for a text. -/
def identV (s : ByteArray) : Value := if 0 ≤ readL s.data.toList then .iface 284 (.int .i64 (readL s.data.toList)) else .iface 285 (.string s)
theorem identV_num {s : ByteArray} (h : 0 ≤ readL s.data.toList) : identV s = .iface 284 (.int .i64 (readL s.data.toList)) := if_pos h
theorem identV_text {s : ByteArray} (h : ¬ 0 ≤ readL s.data.toList) : identV s = .iface 285 (.string s) := if_neg h

set_option maxRecDepth 100000 in
set_option maxHeartbeats 1000000 in
theorem identifierOf_any (s : ByteArray) (w : World) (hs : s.size ≤ 1048576) :
    Calls Tryz.prog 279 #[.string s] w fun e w' => e = .returned (identV s) ∧ w = w' := by
  by_cases hr : 0 ≤ readL s.data.toList
  · have HV := Lib.hid (identV_num hr)
    go_enter Tryz.func279, Tryz.ntmps279
    go_wp2_with fail
    refine (implReadDec_any s _ hs).mono ?_
    generalize readL s.data.toList = m at HV hr ⊢
    rintro e w' ⟨rfl, rfl⟩
    go_wp2_with fail
    go_ret
    exact ⟨congrArg Ending.returned HV.out.symm, rfl⟩
  · have HV := Lib.hid (identV_text hr)
    go_enter Tryz.func279, Tryz.ntmps279
    go_wp2_with fail
    refine (implReadDec_any s _ hs).mono ?_
    generalize readL s.data.toList = m at hr ⊢
    rintro e w' ⟨rfl, rfl⟩
    go_wp2_with fail
    go_ret
    exact ⟨congrArg Ending.returned HV.out.symm, rfl⟩

theorem preText_ways (z : Int) : (lowI z = true ∧ uppI z = false ∧ digI z = false) ∨ (lowI z = false ∧ uppI z = true ∧ digI z = false) ∨ (lowI z = false ∧ uppI z = false ∧ digI z = true) ∨ (lowI z = false ∧ uppI z = false ∧ digI z = false ∧ (z != 45) = false) ∨ (lowI z = false ∧ uppI z = false ∧ digI z = false ∧ (z != 45) = true) := by
  unfold lowI uppI digI; simp; omega
theorem preI_yes {z : Int} (h : lowI z = true ∨ uppI z = true ∨ digI z = true ∨ (z != 45) = false) : preI z = true := by
  unfold lowI uppI digI at h; unfold preI; simp at h ⊢; omega
theorem preI_no {z : Int} (h : lowI z = false ∧ uppI z = false ∧ digI z = false ∧ (z != 45) = true) : preI z = false := by
  unfold lowI uppI digI at h; unfold preI; simp at h ⊢; omega
theorem digI_isDig (c : UInt8) : digI (c.toNat : Int) = isDig c := rfl
theorem all_snoc (s : ByteArray) (k : Nat) (p : UInt8 → Bool) (h : k < s.size) : (s.data.toList.take (k + 1)).all p = ((s.data.toList.take k).all p && p s[k]) := by
  rw [take_snoc s k h, List.all_append]; simp

def textOk (l : List UInt8) : Bool := l.all preB && (decide (1 ≤ l.length) && decide (l.length ≤ 20)) && !(l.all isDig)
theorem preOk_textOk {l : List UInt8} (h : ¬ 0 ≤ readL l) : preOk l = textOk l := preOk_text h
set_option maxRecDepth 100000 in
set_option maxHeartbeats 2000000 in
theorem textValid_any (s : ByteArray) (w : World) (hs : s.size ≤ 1048576) :
    Calls Tryz.prog 345 #[.string s] w fun e w' => e = .returned (.bool (textOk s.data.toList)) ∧ w = w' := by
  have hsz : s.data.toList.length = s.size := by simp
  by_cases hl : 1 ≤ s.size ∧ s.size ≤ 20
  · obtain ⟨hl1, hl2⟩ := hl
    have h20 : decide ((20 : Int) < (s.size : Int)) = false := by simp; omega
    have HT : Hid (textOk s.data.toList = (s.data.toList.all preB && !(s.data.toList.all isDig))) := Lib.hid (by unfold textOk; rw [hsz]; simp [hl1, hl2])
    clear hsz
    go_enter Tryz.func345, Tryz.ntmps345
    go_wp2
    go_loop [3, 4, 5, 16] (fun d _ _ i => ∃ (k : Nat) (b : Bool), k ≤ s.size ∧ i = .int .i64 k ∧ d = .bool b ∧ Hid ((s.data.toList.take k).all preB = true) ∧ Hid ((s.data.toList.take k).all isDig = b)) (fun _ _ _ i => s.size - (intOf i).toNat)
    case atStart => exact ⟨0, true, Nat.zero_le _, rfl, rfl, Lib.hid (by simp), Lib.hid (by simp)⟩
    case round =>
      obtain ⟨k, b, hk, rfl, rfl, H, HD⟩ := hrel
      by_cases hlt : k < s.size
      · have c1 := (byte_lt s[k]).1
        have c2 := (byte_lt s[k]).2
        have HS := Lib.hid (all_snoc s k isDig hlt)
        have HDI := Lib.hid (digI_isDig s[k])
        rcases preText_ways (s[k].toNat : Int) with ⟨z, y, x⟩ | ⟨z, y, x⟩ | ⟨z, y, x⟩ | ⟨z, y, x, u⟩ | ⟨z, y, x, u⟩
        case inr.inr.inr.inr =>
          have HX : Hid (textOk s.data.toList = false) := Lib.hid (by rw [HT.out, Bool.eq_false_iff.2 (all_false s k preB hlt (preI_no ⟨z, y, x, u⟩))]; rfl)
          have HZ := Lib.hid z
          have HY := Lib.hid y
          have HW := Lib.hid x
          clear z y x
          go_wp2_with (first | (go_at_call 251; refine (isLower_any _ _ c2 c1).mono ?_; rw [HZ.out]; rintro e w' ⟨rfl, rfl⟩) | (go_at_call 347; refine (isUpper_any _ _ c2 c1).mono ?_; rw [HY.out]; rintro e w' ⟨rfl, rfl⟩) | (go_at_call 252; refine (isDigit_any _ _ c2 c1).mono ?_; rw [HW.out]; rintro e w' ⟨rfl, rfl⟩))
          go_ret
          exact ⟨ret_bool HX.out.symm, rfl⟩
        all_goals
          have HP : Hid ((s.data.toList.take (k + 1)).all preB = true) := Lib.hid (all_next s k preB hlt H.out (preI_yes (by first | exact .inl z | exact .inr (.inl y) | exact .inr (.inr (.inl x)) | exact .inr (.inr (.inr u)))))
          have HZ := Lib.hid z
          have HY := Lib.hid y
          have HW := Lib.hid x
          clear z y x
          cases b
          all_goals
            go_wp2_with (first | (go_at_call 251; refine (isLower_any _ _ c2 c1).mono ?_; rw [HZ.out]; rintro e w' ⟨rfl, rfl⟩) | (go_at_call 347; refine (isUpper_any _ _ c2 c1).mono ?_; rw [HY.out]; rintro e w' ⟨rfl, rfl⟩) | (go_at_call 252; refine (isDigit_any _ _ c2 c1).mono ?_; rw [HW.out]; rintro e w' ⟨rfl, rfl⟩))
            go_round
            case rel => exact ⟨k + 1, _, by omega, by go_num, rfl, HP, Lib.hid (by rw [HS.out, HD.out, ← HDI.out, HW.out]; rfl)⟩
            case measure => simp [intOf]; omega
      · have H2 := H.out
        have H3 := HD.out
        rw [take_end s k hlt] at H2 H3
        have HX : Hid (textOk s.data.toList = !b) := Lib.hid (by rw [HT.out, H2, H3]; rfl)
        clear H HD H2 H3
        go_wp2
        go_ret
        exact ⟨ret_bool HX.out.symm, rfl⟩
  · have HX : Hid (textOk s.data.toList = false) := Lib.hid (by unfold textOk; rw [hsz]; simp; omega)
    rw [HX.out]
    clear hsz HX
    by_cases h1 : s.size < 1
    · go_enter Tryz.func345, Tryz.ntmps345
      go_wp2
      go_ret
      exact ⟨rfl, rfl⟩
    · have h20 : 20 < s.size := by omega
      have h1' : decide ((s.size : Int) < 1) = false := by simp; omega
      clear hl
      go_enter Tryz.func345, Tryz.ntmps345
      go_wp2
      go_ret
      exact ⟨rfl, rfl⟩

set_option maxRecDepth 100000 in
theorem numValid_any (z : Int) (w : World) : Calls Tryz.prog 341 #[.int .i64 z] w fun e w' => e = .returned (.bool true) ∧ w = w' := by
  go_enter Tryz.func341, Tryz.ntmps341
  go_wp2
  go_ret
  exact ⟨rfl, rfl⟩

theorem meth_validN (z : Int) (w : World) : (method 428 284 (.int .i64 z) "loop.example/g00445/impl.valid").run Tryz.prog w = .ok (341, .int .i64 z) w := by kernel_rfl
theorem meth_validT (s : ByteArray) (w : World) : (method 428 285 (.string s) "loop.example/g00445/impl.valid").run Tryz.prog w = .ok (345, .string s) w := by kernel_rfl
end Go.Proofs.YtnodhkjgnegkcaaGreatDoor

/-
  impl.VersionOk: whether a version is right.
-/
namespace Go.Proofs.YtnodhkjgnegkcaaGreatDoor
open Go.RowKit

set_option maxRecDepth 100000 in
theorem numberOk_any (n : Int) (w : World) : Calls Tryz.prog 278 #[.int .i64 n] w fun e w' => e = .returned (.bool (numOk n)) ∧ w = w' := by
  by_cases h1 : 0 ≤ n
  · by_cases h2 : n ≤ 999999999
    · have H : Hid (numOk n = true) := Lib.hid (by unfold numOk; simp; omega)
      go_enter Tryz.func278, Tryz.ntmps278
      go_wp2
      go_ret
      exact ⟨ret_bool H.out.symm, rfl⟩
    · have H : Hid (numOk n = false) := Lib.hid (by unfold numOk; simp; omega)
      have d1 : decide (n ≤ 999999999) = false := by simpa using h2
      go_enter Tryz.func278, Tryz.ntmps278
      go_wp2
      go_ret
      exact ⟨ret_bool (by first | exact H.out.symm | (rw [H.out]; simp; omega)), rfl⟩
  · have H : Hid (numOk n = false) := Lib.hid (by unfold numOk; simp; omega)
    have d1 : decide (0 ≤ n) = false := by simpa using h1
    go_enter Tryz.func278, Tryz.ntmps278
    go_wp2
    go_ret
    exact ⟨ret_bool (by first | exact H.out.symm | (rw [H.out]; simp; omega)), rfl⟩

theorem sm_size {ls : List (List UInt8)} (h : ∀ l ∈ ls, l.length ≤ 1048576) (k : Nat) (hk : k < ls.length) : (⟨ls[k].toArray⟩ : ByteArray).size ≤ 1048576 := by
  have := h ls[k] (List.getElem_mem hk)
  show ls[k].toArray.size ≤ _
  simpa using this

set_option maxRecDepth 100000 in
set_option maxHeartbeats 2000000 in
theorem implVersionOk_any (a b c : Int) (v : Value) (ls : List (List UInt8)) (w : World) (hr : RdS w v ls) (hs : Sm ls) :
    Calls Tryz.prog 247 #[.agg #[.int .i64 a, .int .i64 b, .int .i64 c, v]] w fun e w' => e = .returned (.bool (verOk a b c ls)) ∧ Below w.heap.size w w' := by
  obtain ⟨A, cap, rfl, hc⟩ := hr
  have hls := hs.1
  have HS := Lib.hid hs.2
  clear hs
  obtain ⟨x, HX⟩ : ∃ x, Hid (numOk a = x) := ⟨_, Lib.hid rfl⟩
  obtain ⟨y, HY⟩ : ∃ x, Hid (numOk b = x) := ⟨_, Lib.hid rfl⟩
  obtain ⟨z, HZ⟩ : ∃ x, Hid (numOk c = x) := ⟨_, Lib.hid rfl⟩
  have HF : Hid (verOk a b c ls = (ls.all preOk && (x && y && z && decide (ls.length ≤ 5)))) := Lib.hid (by unfold verOk; rw [HX.out, HY.out, HZ.out])
  cases x
  · have HG : Hid (verOk a b c ls = false) := Lib.hid (by rw [HF.out]; simp)
    go_enter Tryz.func247, Tryz.ntmps247
    go_wp2_with (go_at_call 278; refine (numberOk_any _ _).mono ?_; (first | rw [HX.out]); rintro e w' ⟨rfl, rfl⟩)
    go_ret
    exact ⟨ret_bool HG.out.symm, (Below.refl _ _).alloc (Nat.le_refl _) _⟩
  cases y
  · have HG : Hid (verOk a b c ls = false) := Lib.hid (by rw [HF.out]; simp)
    go_enter Tryz.func247, Tryz.ntmps247
    go_wp2_with (go_at_call 278; refine (numberOk_any _ _).mono ?_; (first | rw [HX.out] | rw [HY.out]); rintro e w' ⟨rfl, rfl⟩)
    go_ret
    exact ⟨ret_bool HG.out.symm, (Below.refl _ _).alloc (Nat.le_refl _) _⟩
  cases z
  · have HG : Hid (verOk a b c ls = false) := Lib.hid (by rw [HF.out]; simp)
    go_enter Tryz.func247, Tryz.ntmps247
    go_wp2_with (go_at_call 278; refine (numberOk_any _ _).mono ?_; (first | rw [HX.out] | rw [HY.out] | rw [HZ.out]); rintro e w' ⟨rfl, rfl⟩)
    go_ret
    exact ⟨ret_bool HG.out.symm, (Below.refl _ _).alloc (Nat.le_refl _) _⟩
  by_cases h5 : ls.length ≤ 5
  · have HG : Hid (verOk a b c ls = ls.all preOk) := Lib.hid (by rw [HF.out]; simp [h5])
    have d5 : decide ((5 : Int) < (ls.length : Int)) = false := by simp; omega
    clear HF
    go_enter Tryz.func247, Tryz.ntmps247
    go_wp2_with (go_at_call 278; refine (numberOk_any _ _).mono ?_; (first | rw [HX.out] | rw [HY.out] | rw [HZ.out]); rintro e w' ⟨rfl, rfl⟩)
    go_loop [4, 30] (fun _ i => ∃ k : Nat, k ≤ ls.length ∧ i = .int .i64 k ∧ Hid ((ls.take k).all preOk = true)) (fun _ i => ls.length - (intOf i).toNat)
    case atStart => exact ⟨0, Nat.zero_le _, rfl, Lib.hid (by simp)⟩
    case round =>
      obtain ⟨k, hk, rfl, H⟩ := hrel
      by_cases hlt : k < ls.length
      · obtain ⟨g, off, rfl, hg, hca⟩ := hc (by omega)
        have d1 : w.cell? ⟨g, off + k, none⟩ = some (.string ⟨ls[k].toArray⟩) := hca k hlt
        have k0 : (0 : Int) ≤ (k : Int) := by omega
        have k1 : (k : Int) < (ls.length : Int) := by omega
        have hbs := sm_size HS.out k hlt
        have HP := Lib.hid (fun W => identifierOf_any ⟨ls[k].toArray⟩ W hbs)
        clear hc hca
        by_cases hn : 0 ≤ readL ls[k]
        · have HN := Lib.hid (all_take ls preOk k hlt H.out (preOk_num hn))
          have HV := Lib.hid (identV_num (s := ⟨ls[k].toArray⟩) hn)
          go_wp2_with fail
          refine (HP.out _).mono ?_
          rw [HV.out]
          rintro e w' ⟨rfl, rfl⟩
          have hm := meth_validN (readL ls[k])
          go_wp2_with fail
          refine (numValid_any _ _).mono ?_
          rintro e w' ⟨rfl, rfl⟩
          go_wp2_with fail
          go_round
          case rel => exact ⟨k + 1, by omega, by go_num, HN⟩
          case measure => simp [intOf]; omega
        · have HV := Lib.hid (identV_text (s := ⟨ls[k].toArray⟩) hn)
          have HT := Lib.hid (preOk_textOk hn)
          have hm := meth_validT ⟨ls[k].toArray⟩
          by_cases hp : preOk ls[k] = true
          · have HN := Lib.hid (all_take ls preOk k hlt H.out hp)
            have HQ : Hid (textOk (⟨ls[k].toArray⟩ : ByteArray).data.toList = true) := Lib.hid (HT.out.symm.trans hp)
            clear hp hn
            go_wp2_with fail
            refine (HP.out _).mono ?_
            rw [HV.out]
            rintro e w' ⟨rfl, rfl⟩
            go_wp2_with fail
            refine (textValid_any _ _ hbs).mono ?_
            rw [HQ.out]
            rintro e w' ⟨rfl, rfl⟩
            go_wp2_with fail
            go_round
            case rel => exact ⟨k + 1, by omega, by go_num, HN⟩
            case measure => simp [intOf]; omega
          · have HN : Hid (verOk a b c ls = false) := Lib.hid (by rw [HG.out]; exact Bool.eq_false_iff.2 (all_not ls preOk k hlt (by simpa using hp)))
            have HQ : Hid (textOk (⟨ls[k].toArray⟩ : ByteArray).data.toList = false) := Lib.hid (HT.out.symm.trans (by simpa using hp))
            clear hp hn
            go_wp2_with fail
            refine (HP.out _).mono ?_
            rw [HV.out]
            rintro e w' ⟨rfl, rfl⟩
            go_wp2_with fail
            refine (textValid_any _ _ hbs).mono ?_
            rw [HQ.out]
            rintro e w' ⟨rfl, rfl⟩
            go_wp2_with fail
            go_ret
            exact ⟨ret_bool HN.out.symm, (Below.refl _ _).alloc (Nat.le_refl _) _⟩
      · have H2 := H.out
        rw [List.take_of_length_le (by omega)] at H2
        have HN : Hid (verOk a b c ls = true) := Lib.hid (by rw [HG.out]; exact H2)
        clear H H2 hc
        go_wp2_with fail
        go_ret
        exact ⟨ret_bool HN.out.symm, (Below.refl _ _).alloc (Nat.le_refl _) _⟩
  · have HG : Hid (verOk a b c ls = false) := Lib.hid (by rw [HF.out]; simp; omega)
    have d5 : (5 : Int) < (ls.length : Int) := by omega
    clear HF
    go_enter Tryz.func247, Tryz.ntmps247
    go_wp2_with (go_at_call 278; refine (numberOk_any _ _).mono ?_; (first | rw [HX.out] | rw [HY.out] | rw [HZ.out]); rintro e w' ⟨rfl, rfl⟩)
    go_ret
    exact ⟨ret_bool HG.out.symm, (Below.refl _ _).alloc (Nat.le_refl _) _⟩
end Go.Proofs.YtnodhkjgnegkcaaGreatDoor

/-
  Two boxes that an iterator reads lie as they lay.
-/
namespace Go.Proofs.YtnodhkjgnegkcaaGreatDoor
open Go.RowKit Go.Shelf

/-- The two boxes that the iterator reads lie as they lay. -/
def KpB (Bs Bm : Nat) (A B : World) : Prop := B.heap[Bs]? = A.heap[Bs]? ∧ B.heap[Bm]? = A.heap[Bm]?
theorem KpB.refl (Bs Bm : Nat) (A : World) : KpB Bs Bm A A := ⟨rfl, rfl⟩
theorem kpB_t {Bs Bm : Nat} {A B C : World} (h : KpB Bs Bm A B) (k : KpB Bs Bm B C) : KpB Bs Bm A C := ⟨k.1.trans h.1, k.2.trans h.2⟩
theorem KpB.of_grown {Bs Bm : Nat} {A B : World} {row : Option Nat} (hg : A.grownBy B row) (h1 : Bs < A.heap.size) (h2 : Bm < A.heap.size) (n1 : some Bs ≠ row) (n2 : some Bm ≠ row) : KpB Bs Bm A B := ⟨hg.block Bs h1 n1, hg.block Bm h2 n2⟩
theorem KpB.of_below {Bs Bm n : Nat} {A B : World} (h : Below n A B) (h1 : Bs < n) (h2 : Bm < n) : KpB Bs Bm A B := ⟨h.block Bs h1, h.block Bm h2⟩
theorem kpB_b {Bs Bm : Nat} {w : World} (h1 : Bs < w.heap.size) (h2 : Bm < w.heap.size) (W : World) (l : Nat) (o o' : Obj) (hl : w.heap.size ≤ l) (h : W.heap[l]? = some o) (_ : o.isCells = false) (_ : o.isWalk = false) : KpB Bs Bm W (W.putObj l o') := by
  have hlt := (Array.getElem?_eq_some_iff.1 h).1
  exact KpB.of_grown (grownBy_putObj' W l o') (by omega) (by omega) (fun e => by cases e; omega) (fun e => by cases e; omega)

theorem grown_drewN (W : World) (n : Nat) : W.grownBy (W.drewN n) none := ⟨rfl, rfl, rfl, Nat.le_refl _, fun _ _ _ => rfl⟩
end Go.Proofs.YtnodhkjgnegkcaaGreatDoor

/-
  impl.partsOf hands back an iterator that yields the parts of a text between a byte.
-/
namespace Go.Proofs.YtnodhkjgnegkcaaGreatDoor
open Go.RowKit Go.Shelf
attribute [local go_sem] Oper.semAt_some

/-- A part: a text that is not too long. -/
abbrev Part := { x : List UInt8 // x.length ≤ 1048576 }
def partV (x : Part) : Array Value := #[.string ⟨x.1.toArray⟩]
set_option maxHeartbeats 1000000 in
theorem partsOf_in (n : Nat) (s : ByteArray) (m : Int) (w : World) :
    CallsIn Fence.wide n Tryz.prog 203 #[.string s, .int .u8 m] w fun e w' => e = .returned (.func (.func 250) #[] #[.pointer (some ⟨w.heap.size, 0, none⟩), .pointer (some ⟨w.heap.size + 1, 0, none⟩)]) ∧ w' = (w.alloc (.cells #[.string s] 9)).alloc (.cells #[.int .u8 m] 5) := by
  refine callsIn_of_wp Tryz.func203 rfl trivial ?_ rfl
  simp only [Tryz.ntmps203, List.size_toArray, List.length_cons, List.length_nil, Nat.reduceAdd, Nat.reduceSub, Array.replicate_succ, Array.replicate_zero, List.push_toArray, List.append_toArray, List.nil_append, List.cons_append]
  gi_wp2
  go_ret
  exact ⟨rfl, rfl⟩


set_option maxRecDepth 100000 in
set_option maxHeartbeats 2000000 in
theorem parts1_in (n : Nat) (hn : 1 ≤ n) (l Bs Bm : Nat) (s : ByteArray) (m : UInt8) (hs : s.size ≤ 1048576) (J Jx : List Part → World → Prop)
    (hY : ∀ pre x W, J pre W → pre.length < s.size + 1 → YieldAt Fence.wide (n - 1) Tryz.prog l (partV x) W fun e W' =>
      (e = .returned (.bool true) ∧ J (pre ++ [x]) W' ∧ KpB Bs Bm W W') ∨ (e = .returned (.bool false) ∧ Jx (pre ++ [x]) W'))
    (W : World) (hBs : W.heap[Bs]? = some (.cells #[.string s] 9 (0, 0))) (hBm : W.heap[Bm]? = some (.cells #[.int .u8 (m.toNat : Int)] 5 (0, 0))) (h0 : J [] W) (hJa : AbidesFrom W.heap.size J) :
    CallsIn Fence.wide n Tryz.prog 250 #[.func (.yield l) #[] #[], .pointer (some ⟨Bs, 0, none⟩), .pointer (some ⟨Bm, 0, none⟩)] W fun e W' => (∃ v, e = .returned v) ∧
      ((∃ ys, ys.map Subtype.val = cutL m s.data.toList ∧ J ys W') ∨ (∃ pre, pre.map Subtype.val <+: cutL m s.data.toList ∧ Jx pre W')) := by
  have hc1 : W.cell? ⟨Bs, 0, none⟩ = some (.string s) := by simp [World.cell?, hBs]
  refine callsIn_of_wp Tryz.func250 rfl trivial ?_ rfl
  simp only [Tryz.ntmps250, List.size_toArray, List.length_cons, List.length_nil, Nat.reduceAdd, Nat.reduceSub, Array.replicate_succ, Array.replicate_zero, List.push_toArray, List.append_toArray, List.nil_append, List.cons_append]
  gi_wp2
  gi_loopw [4, 5, 8] (fun f _ i wr => ∃ (k st : Nat) (pre : List Part), k ≤ s.size ∧ i = .int .i64 k ∧ f = .int .i64 st ∧ CutAt m s.data.toList k st (pre.map Subtype.val) ∧ wr.heap[Bs]? = some (.cells #[.string s] 9 (0, 0)) ∧ wr.heap[Bm]? = some (.cells #[.int .u8 (m.toNat : Int)] 5 (0, 0)) ∧ J pre wr) (fun _ _ i _ => s.size - (intOf i).toNat)
  case atStart => exact ⟨0, 0, [], Nat.zero_le _, rfl, rfl, cutAt_zero _ _, hBs, hBm, h0⟩
  case round =>
    obtain ⟨k, st, pre, hk, rfl, rfl, HP, g1, g2, hJ⟩ := hrel
    have hst := HP.2.1
    have hdl := HP.2.2
    have d1 : wr.cell? ⟨Bs, 0, none⟩ = some (.string s) := by simp [World.cell?, g1]
    have d2 : wr.cell? ⟨Bm, 0, none⟩ = some (.int .u8 (m.toNat : Int)) := by simp [World.cell?, g2]
    by_cases hlt : k < s.size
    · have k0 : (0 : Int) ≤ (k : Int) := by omega
      have k1 : (k : Int) < (s.size : Int) := by omega
      gi_wp2
      gi_quiet (fail)
      have hJ2 : J pre (wr.drewN nq) := hJa pre wr _ none hJ (grown_drewN wr nq) (fun r e => by cases e)
      have g1' : (wr.drewN nq).heap[Bs]? = some (.cells #[.string s] 9 (0, 0)) := g1
      have g2' : (wr.drewN nq).heap[Bm]? = some (.cells #[.int .u8 (m.toNat : Int)] 5 (0, 0)) := g2
      have d1' : (wr.drewN nq).cell? ⟨Bs, 0, none⟩ = some (.string s) := d1
      generalize wr.drewN nq = wq at hJ2 g1' g2' d1' ⊢
      clear d1 d2 g1 g2 hJ
      by_cases hc : s[k] = m
      · have hb1 : ((s[k].toNat : Int) != (m.toNat : Int)) = false := by rw [hc]; simp
        have HN := Lib.hid (cutAt_mark HP hlt hc)
        have he := slice_str s _ st k (st : Int) (k : Int) rfl rfl (by omega) (by omega) (piece s st k)
        obtain ⟨x, hx⟩ : ∃ x : Part, x.1 = (s.data.toList.take k).drop st := ⟨⟨(s.data.toList.take k).drop st, by simp; omega⟩, rfl⟩
        rw [← hx] at he
        have HX := Lib.hid hx
        have hyy := hY pre x wq hJ2 (by have := hdl; simp at this; omega)
        unfold partV at hyy
        obtain ⟨fn, tmps, assign, body, hy, hR⟩ := hyy
        have HPRE : Hid ((pre ++ [x]).map Subtype.val <+: cutL m s.data.toList) := Lib.hid (by rw [HN.out.1, List.map_append, ← HX.out]; exact List.prefix_append _ _)
        have HR := Lib.hid hR
        clear HP hc hx hdl hR
        gi_wp2
        refine HR.out.mono ?_
        rintro e W3 (⟨rfl, hJ3, hk3⟩ | ⟨rfl, hJx3⟩)
        · gi_wp2
          go_roundw
          case rel => exact ⟨k + 1, k + 1, pre ++ [x], by omega, by go_num, by go_num, by rw [List.map_append]; have := HN.out; rw [← HX.out] at this; exact this, hk3.1.trans g1', hk3.2.trans g2', hJ3⟩
          case measure => simp [intOf]; omega
        · gi_wp2
          refine bodyPost_ret (results_none rfl _ _ _) rfl ?_
          exact ⟨⟨_, rfl⟩, .inr ⟨pre ++ [x], HPRE.out, hJx3⟩⟩
      · have hb1 : ((s[k].toNat : Int) != (m.toNat : Int)) = true := int_bne_true (fun h => hc (UInt8.toNat_inj.1 (by omega)))
        have HN := Lib.hid (cutAt_pass HP hlt hc)
        clear HP hc
        gi_wp2
        go_roundw
        case rel => exact ⟨k + 1, st, pre, by omega, by go_num, rfl, HN.out, g1', g2', hJ2⟩
        case measure => simp [intOf]; omega
    · have HN := Lib.hid (cutAt_end HP hlt)
      have he := slice_from s _ st (st : Int) rfl (by omega) (piece_end s st)
      obtain ⟨x, hx⟩ : ∃ x : Part, x.1 = s.data.toList.drop st := ⟨⟨s.data.toList.drop st, by simp; omega⟩, rfl⟩
      rw [← hx] at he
      have HX := Lib.hid hx
      have hyy := hY pre x wr hJ (by have := hdl; simp at this; omega)
      unfold partV at hyy
      obtain ⟨fn, tmps, assign, body, hy, hR⟩ := hyy
      have HALL : Hid ((pre ++ [x]).map Subtype.val = cutL m s.data.toList) := Lib.hid (by rw [HN.out, List.map_append, ← HX.out]; rfl)
      have HR := Lib.hid hR
      clear HP hx hdl hR
      gi_wp2
      refine HR.out.mono ?_
      rintro e W3 (⟨rfl, hJ3, hk3⟩ | ⟨rfl, hJx3⟩)
      · gi_wp2
        go_end0
        exact ⟨⟨_, rfl⟩, .inl ⟨pre ++ [x], HALL.out, hJ3⟩⟩
      · gi_wp2
        go_end0
        exact ⟨⟨_, rfl⟩, .inr ⟨pre ++ [x], by rw [HALL.out]; exact List.prefix_rfl, hJx3⟩⟩

/-- The iterator's contract, for a caller. -/
theorem parts_stops (n : Nat) (hn : 1 ≤ n) (Bs Bm : Nat) (s : ByteArray) (m : UInt8) (hs : s.size ≤ 1048576) (w : World) (h1 : Bs < w.heap.size) (h2 : Bm < w.heap.size)
    (hBs : w.heap[Bs]? = some (.cells #[.string s] 9 (0, 0))) (hBm : w.heap[Bm]? = some (.cells #[.int .u8 (m.toNat : Int)] 5 (0, 0))) :
    SeqStopsK Fence.wide n Tryz.prog 250 #[.pointer (some ⟨Bs, 0, none⟩), .pointer (some ⟨Bm, 0, none⟩)] partV (KpB Bs Bm) (fun ys => ys.map Subtype.val = cutL m s.data.toList) (fun pre => pre.map Subtype.val <+: cutL m s.data.toList) (s.size + 1) w := fun l J Jx W hW hJ _ hY h0 =>
  parts1_in n hn l Bs Bm s m hs J Jx hY W ((hW.block Bs h1).trans hBs) ((hW.block Bm h2).trans hBm) h0 hJ
end Go.Proofs.YtnodhkjgnegkcaaGreatDoor

/-
  strings.Clone and what it calls, as the library lays it, at this seat.
-/
namespace Go.Proofs
open Go.Shelf
def Tryz.lays316_ren : Go.Shelf.Ren := ⟨fun | 316 => 165 | n => n, fun | 9 => 9 | 3 => 3 | 4 => 4 | 37 => 145 | 0 => 0 | 127 => 205 | 5 => 5 | n => n, fun | n => n⟩
theorem Tryz.lays316 : Go.Proofs.LaysM.n316 Tryz.prog Tryz.lays316_ren := {
  mixed := by kernel_rfl
  f316 := Tryz.func165.trans (congrArg some (by kernel_rfl))
  t0 := Tryz.underlying0
  a0 := Tryz.isAgg0
  z0 := Tryz.sizeOf0
  v0 := Tryz.zeroValue0
  t3 := Tryz.underlying3
  a3 := Tryz.isAgg3
  z3 := Tryz.sizeOf3
  v3 := Tryz.zeroValue3
  t4 := Tryz.underlying4
  a4 := Tryz.isAgg4
  z4 := Tryz.sizeOf4
  v4 := Tryz.zeroValue4
  t9 := Tryz.underlying9
  a9 := Tryz.isAgg9
  z9 := Tryz.sizeOf9
  v9 := Tryz.zeroValue9
  t37 := Tryz.underlying145
  a37 := Tryz.isAgg145
  z37 := Tryz.sizeOf145
  v37 := Tryz.zeroValue145
  t127 := Tryz.underlying205
  a127 := Tryz.isAgg205
  z127 := Tryz.sizeOf205
  v127 := Tryz.zeroValue205
  t5 := Tryz.underlying5
  a5 := Tryz.isAgg5
  z5 := Tryz.sizeOf5
  v5 := Tryz.zeroValue5
  i0 := by kernel_rfl
  i3 := by kernel_rfl
  i4 := by kernel_rfl
  i5 := by kernel_rfl
  i9 := by kernel_rfl
  i37 := by kernel_rfl
  i127 := by kernel_rfl }
end Go.Proofs

/-
  strings.Clone returns the same bytes.
-/
namespace Go.Proofs
open Go.Shelf
namespace YtnodhkjgnegkcaaGreatDoor
open Go.RowKit
theorem slClone_any (s : ByteArray) (w : World) (hs : s.size ≤ 1048576) :
    Calls Tryz.prog 165 #[.string s] w fun e w' => e = .returned (.string s) ∧ Below w.heap.size w w' := Any.stringslite_Clone Tryz.lays316 s w (by omega)
theorem clone_any (s : ByteArray) (w : World) (hs : s.size ≤ 1048576) :
    Calls Tryz.prog 115 #[.string s] w fun e w' => e = .returned (.string s) ∧ Below w.heap.size w w' := by
  go_enter Tryz.func115, Tryz.ntmps115
  go_wp2_with (go_at_call 165; refine (slClone_any _ _ hs).mono ?_; rintro e w' ⟨rfl, hb⟩)
  go_ret
  exact ⟨rfl, hb⟩
end YtnodhkjgnegkcaaGreatDoor
end Go.Proofs

/-
  impl.splitAt returns the parts of a text between a byte.
-/
namespace Go.Proofs.YtnodhkjgnegkcaaGreatDoor
open Go.RowKit Go.Shelf
attribute [local go_sem] Oper.semAt_some

/-- What splitAt has in its box: the parts so far. -/
def SpJ (w : World) (ls : List (List UInt8)) (W : World) : Prop :=
  w.heap.size + 4 ≤ W.heap.size ∧ ∃ v, Boxed W (w.heap.size + 1) 29 v ∧ Strs W w.heap.size v ls ∧ (∀ g, v.ownBlock = some g → g ≠ w.heap.size + 1 ∧ g ≠ w.heap.size + 2 ∧ g ≠ w.heap.size + 3)
theorem spJ_own (w : World) (B : Nat) : OwnFrom B (fun (pre : List Part) W => SpJ w (pre.map Subtype.val) W) := by
  rintro pre W W' row ⟨h4, v, hB, hS, hne⟩ hg hr
  refine ⟨Nat.le_trans h4 hg.size, v, hB.kept hg (fun e => ?_), World.ownsRow.kept hS hg ?_, hne⟩
  · obtain ⟨_, o, ho, hc⟩ := hr _ e.symm
    rw [show W.heap[_]? = _ from hB] at ho; cases ho; cases hc
  · rcases hS.2 with ⟨rfl, _⟩ | ⟨g, cap, cur, rfl, _, hh, _⟩
    · left; rfl
    · right
      intro e
      obtain ⟨_, o, ho, hc⟩ := hr g (by simpa [Value.ownBlock] using e.symm)
      rw [hh] at ho; cases ho; cases hc

theorem spl_end (w W w1 w3 : World) (v : Value) (ls : List (List UInt8)) (x : List UInt8) (o : Obj) (g cap : Nat) (h4 : w.heap.size + 4 ≤ W.heap.size) (hR : Boxed W (w.heap.size + 1) 29 v) (hS : Strs W w.heap.size v ls)
    (hne : ∀ g, v.ownBlock = some g → g ≠ w.heap.size + 1 ∧ g ≠ w.heap.size + 2 ∧ g ≠ w.heap.size + 3) (hB : Below w.heap.size w W) (hb1 : Below W.drew.heap.size W.drew w1) (hg3 : (w1.alloc o).grownBy w3 v.ownBlock)
    (hS3 : Strs w3 w.heap.size (.slice (some ⟨g, 0, none⟩) (ls.length + 1) cap) (ls ++ [x])) (hg4 : v.ownBlock = some g ∨ g = (w1.alloc o).heap.size) :
    Boxed w3 (w.heap.size + 1) 29 v ∧ KeepsOthers W (w3.setCell ⟨w.heap.size + 1, 0, none⟩ (.slice (some ⟨g, 0, none⟩) (ls.length + 1) cap)) ∧ KpB (w.heap.size + 1 + 1) (w.heap.size + 1 + 1 + 1) W (w3.setCell ⟨w.heap.size + 1, 0, none⟩ (.slice (some ⟨g, 0, none⟩) (ls.length + 1) cap)) ∧
      SpJ w (ls ++ [x]) (w3.setCell ⟨w.heap.size + 1, 0, none⟩ (.slice (some ⟨g, 0, none⟩) (ls.length + 1) cap)) ∧ Below w.heap.size w (w3.setCell ⟨w.heap.size + 1, 0, none⟩ (.slice (some ⟨g, 0, none⟩) (ls.length + 1) cap)) := by
  have hs1 : W.heap.size ≤ w1.heap.size := hb1.size
  have hs3 : w1.heap.size + 1 ≤ w3.heap.size := by have := hg3.size; simpa using this
  have hgne : g ≠ w.heap.size + 1 ∧ g ≠ w.heap.size + 2 ∧ g ≠ w.heap.size + 3 := by
    rcases hg4 with h | h
    · exact hne g h
    · simp at h; omega
  have hG : W.grownBy w3 v.ownBlock := ⟨hg3.os.trans hb1.os, hg3.tape.trans hb1.tape, hg3.output.trans hb1.output, by omega, fun k hk hkn =>
    (hg3.block k (by simp; omega) hkn).trans ((Below.heap_alloc _ _ _ (by omega)).trans (hb1.block k hk))⟩
  have hR3 : Boxed w3 (w.heap.size + 1) 29 v := hR.kept hG (fun e => (hne _ e.symm).1 rfl)
  have hK : KeepsOthers W w3 := KeepsOthers.of_grownBy hG (fun j o' ej hj => by
    rcases hS.2 with ⟨rfl, _⟩ | ⟨g', cap', cur, rfl, _, hh, _⟩
    · simp [Value.ownBlock] at ej
    · simp [Value.ownBlock] at ej
      subst ej
      rw [hh] at hj; cases hj; rfl)
  have hBel : Below w.heap.size w w3 := hB.grown hG (by omega) hS.owned
  have k1 : w3.heap[w.heap.size + 1 + 1]? = W.heap[w.heap.size + 1 + 1]? := hG.block _ (by omega) (fun e => (hne _ e.symm).2.1 (by omega))
  have k2 : w3.heap[w.heap.size + 1 + 1 + 1]? = W.heap[w.heap.size + 1 + 1 + 1]? := hG.block _ (by omega) (fun e => (hne _ e.symm).2.2 (by omega))
  refine ⟨hR3, hK.trans (KeepsOthers.setCell _ _ _), ⟨(Below.heap_setCell _ _ _ _ (by simp)).trans k1, (Below.heap_setCell _ _ _ _ (by simp; omega)).trans k2⟩, ⟨by simp; omega, _, hR3.set _, ?_, ?_⟩, hBel.setCell (p := ⟨w.heap.size + 1, 0, none⟩) (by simp) _⟩
  · exact World.ownsRow.kept hS3 (grownBy_setCell' w3 (w.heap.size + 1) _) (by right; simp [Value.ownBlock]; omega)
  · intro g' hg'
    simp [Value.ownBlock] at hg'
    subst hg'
    exact hgne

theorem step_append_in {F : Fence} {n : Nat} {w : World} {ops : Array Oper} {o : Oper} {a : Act} {K : Act → World → Prop} {Q : Exit → Act → World → Prop} {E : Prop} (hgd : o.guard = none) (s x : Operand)
    (ho : o.op = .call { callee := .builtin .append, args := #[s, x], argTypes := #[29, 29] })
    (base : Nat) (v : Value) (l : List (List UInt8)) (hs : a.eval s = v) (hown : Strs w base v l) (y : List UInt8) (B c : Nat) (t : TypeId) (fr : Nat × Nat)
    (hx : a.eval x = .slice (some ⟨B, 0, none⟩) 1 c) (hblk : w.heap[B]? = some (.cells #[sv y] t fr)) (hlen : l.length + 1 ≤ 16777216) (hbase : base ≤ w.heap.size)
    (h : ∀ g cap w', Strs w' base (.slice (some ⟨g, 0, none⟩) (l.length + 1) cap) (l ++ [y]) → w.grownBy w' v.ownBlock → (v.ownBlock = some g ∨ g = w.heap.size) → K (a.put o.dst (.slice (some ⟨g, 0, none⟩) (l.length + 1) cap)) w') :
    if Region.wanted o (yielded ops a.tmps) = true then Oper.wpIn F n Tryz.prog o a w K Q else E := by
  have hw : Region.wanted o (yielded ops a.tmps) = true := by simp [Region.wanted, hgd]
  rw [if_pos hw]
  obtain ⟨g, cap, w', hr, h2, h3, h4⟩ := run_append_strs w o.type base v l hown y B c t fr hblk hlen hbase
  refine ⟨?_, ?_⟩
  · intro f hf
    simp [Oper.about, ho, resolve, Target.leads, go_sem] at hf
  · rw [Oper.semAt_eq _ _ _ (by intro c hc; rw [ho] at hc; cases hc)]
    unfold execOp
    simp only [ho, resolve, invoke, builtin, Sem.run_bind, Sem.run_pure, Result.andThen_ok, List.map_toArray, List.map_cons, List.map_nil, hs, hx, hr]
    exact h g cap w' h2 h3 h4

set_option maxRecDepth 100000 in
set_option maxHeartbeats 4000000 in
theorem splitAt_in (n : Nat) (hn : 4 ≤ n) (s : ByteArray) (m : UInt8) (w : World) (hs : s.size ≤ 1048576) :
    CallsIn Fence.wide n Tryz.prog 245 #[.string s, .int .u8 (m.toNat : Int)] w fun e W' => ∃ g cap, e = .returned (.slice (some ⟨g, 0, none⟩) (cutL m s.data.toList).length cap) ∧ Strs W' w.heap.size (.slice (some ⟨g, 0, none⟩) (cutL m s.data.toList).length cap) (cutL m s.data.toList) ∧ Below w.heap.size w W' := by
  have h1 : 1 ≤ n := by omega
  have hn2 : 1 ≤ n - 1 - 1 := by omega
  refine callsIn_of_wp_marks Tryz.func245 rfl trivial ?_ rfl
  simp only [Tryz.ntmps245, List.size_toArray, List.length_cons, List.length_nil, Nat.reduceAdd, Nat.reduceSub, Array.replicate_succ, Array.replicate_zero, List.push_toArray, List.append_toArray, List.nil_append, List.cons_append]
  gi_wp2_with (refine ⟨trivial, ?_⟩; gi_at_call 203; refine (partsOf_in _ _ _ _).mono ?_; rintro e w' ⟨rfl, rfl⟩)
  have b1 := Boxed.new (w.alloc (.cells #[] 9)) 29 (.slice (some ⟨w.heap.size, 0, none⟩) 0 0)
  have b3 := Boxed.new ((w.alloc (.cells #[] 9)).alloc (.cells #[.slice (some ⟨w.heap.size, 0, none⟩) 0 0] 29)) 9 (.string s)
  have b4 := Boxed.new (((w.alloc (.cells #[] 9)).alloc (.cells #[.slice (some ⟨w.heap.size, 0, none⟩) 0 0] 29)).alloc (.cells #[.string s] 9)) 5 (.int .u8 (m.toNat : Int))
  simp only [World.size_alloc] at b1 b3 b4
  have hB0 : Below w.heap.size w ((((w.alloc (.cells #[] 9)).alloc (.cells #[.slice (some ⟨w.heap.size, 0, none⟩) 0 0] 29)).alloc (.cells #[.string s] 9)).alloc (.cells #[.int .u8 (m.toNat : Int)] 5)) := ((((Below.refl _ w).alloc (Nat.le_refl _) _).alloc (by simp) _).alloc (by simp; omega) _).alloc (by simp; omega) _
  have b1' := (b1.alloc (.cells #[.string s] 9)).alloc (.cells #[.int .u8 (m.toNat : Int)] 5)
  have b3' := b3.alloc (.cells #[.int .u8 (m.toNat : Int)] 5)
  have hS0 := (((Strs.empty w w.heap.size (Nat.le_refl _)).alloc (.cells #[.slice (some ⟨w.heap.size, 0, none⟩) 0 0] 29)).alloc (.cells #[.string s] 9)).alloc (.cells #[.int .u8 (m.toNat : Int)] 5)
  clear b1 b3
  obtain ⟨W0, hW0⟩ : ∃ W0, ((((w.alloc (.cells #[] 9)).alloc (.cells #[.slice (some ⟨w.heap.size, 0, none⟩) 0 0] 29)).alloc (.cells #[.string s] 9)).alloc (.cells #[.int .u8 (m.toNat : Int)] 5)) = W0 := ⟨_, rfl⟩
  have hsz : W0.heap.size = w.heap.size + 4 := by rw [← hW0]; simp
  rw [hW0] at b1' b3' b4 hS0 hB0 ⊢
  clear hW0
  have HSZ := Lib.hid hsz
  clear hsz
  refine wpIn_rangeFunc_ownF rfl h1 (gf := 250) (lb := #[.pointer (some ⟨w.heap.size + 1 + 1, 0, none⟩), .pointer (some ⟨w.heap.size + 1 + 1 + 1, 0, none⟩)]) rfl trivial (enters_of Tryz.func250 (by kernel_rfl) rfl)
    (parts_stops (n - 1) (by omega) (w.heap.size + 1 + 1) (w.heap.size + 1 + 1 + 1) s m hs W0 (by rw [HSZ.out]; omega) (by rw [HSZ.out]; omega) b3' b4) kpB_t (kpB_b (by rw [HSZ.out]; omega) (by rw [HSZ.out]; omega)) (Below.refl _ _) (fun _ => rfl)
    (fun pre W => SpJ w (pre.map Subtype.val) W ∧ Below w.heap.size w W)
    (fun c pre W => False)
    (OwnFrom.and (spJ_own w _) (ownFrom_below (Nat.le_refl _) (by rw [HSZ.out]; omega)))
    (fun c => ownFrom_pure _ _)
    ⟨⟨by rw [HSZ.out]; exact Nat.le_refl _, _, b1', hS0, fun g hg => by simp [Value.ownBlock] at hg; omega⟩, hB0⟩
    (fun x => { tmps := #[.string s, .int .u8 (m.toNat : Int), undef, undef, .slice none 0 0, .pointer (some ⟨w.heap.size + 1, 0, none⟩), .string ⟨x.1.toArray⟩, .slice (some ⟨w.heap.size, 0, none⟩) 0 0, .string s, .int .u8 (m.toNat : Int), .func (.func 250) #[] #[.pointer (some ⟨w.heap.size + 1 + 1, 0, none⟩), .pointer (some ⟨w.heap.size + 1 + 1 + 1, 0, none⟩)], .string ⟨x.1.toArray⟩, undef, undef, undef, undef, undef, undef], defers := [] }) ?assign ?body ?done ?stop
  case assign =>
    intro l x W K hK
    unfold partV
    gi_wp2
    exact hK
  case body =>
    rintro l pre x W ⟨⟨h4, v, hR, hS, hne⟩, hB⟩ hpl
    have cR := hR.cell
    have fR := hR.frozen
    obtain ⟨b, hbE⟩ : ∃ b : ByteArray, b = ⟨x.1.toArray⟩ := ⟨_, rfl⟩
    have hbl : b.data.toList = x.1 := by rw [hbE]
    have hbs : b.size ≤ 1048576 := by rw [hbE]; show x.1.toArray.size ≤ _; simpa using x.2
    rw [← hbE]
    have HBL := Lib.hid hbl
    clear hbE hbl
    gi_wp2
    have hlt : w.heap.size + 1 < W.drew.heap.size := hR.lt
    have cR' : W.drew.cell? ⟨w.heap.size + 1, 0, none⟩ = some v := cR
    have fR' : W.drew.frozen? ⟨w.heap.size + 1, 0, none⟩ = false := fR
    have hCl := CallsIn.inRound (n := n - 1 - 1 - 1) l (callsIn_wide.2 (clone_any b W.drew hbs))
    have HCL := Lib.hid hCl
    clear hCl
    refine wpIn_region_any (by kernel_rfl) ?_
    change wpAnyIn _ _ _ _ _ _ _ _ _ (World.drew _)
    have HPL : Hid ((pre.map Subtype.val).length + 1 ≤ 16777216) := Lib.hid (by simp; omega)
    refine wpAnyIn_ready (rs := [0, 1]) (by kernel_rfl) (by simp) (AllReadyIn.cons rfl (fun K hK => ?_) (AllReadyIn.cons rfl (fun K hK => ?_) AllReadyIn.nil)) <;> go_simp <;> refine hK _ _ ?_ <;> clear hK K
    · refine wpAnyIn_ready (rs := [1]) (by kernel_rfl) (by simp) (AllReadyIn.cons rfl (fun K hK => ?_) AllReadyIn.nil)
      go_simp
      refine hK _ _ ?_
      clear hK K
      refine wpAnyIn_ready (rs := [2]) (by kernel_rfl) (by simp) (AllReadyIn.cons rfl (fun K hK => ?_) AllReadyIn.nil)
      go_simp
      refine ⟨trivial, ?_⟩
      refine HCL.out.mono ?_
      rintro e w1 ⟨rfl, hb1⟩
      refine hK _ _ ?_
      clear hK K
      obtain ⟨c1, hlt1⟩ := keep_cell hb1 hlt cR'
      have HSI : Hid (w.heap.size ≤ (w1.alloc (.cells #[.string b] 9)).heap.size) := Lib.hid (by have := hb1.size; simp at this ⊢; omega)
      refine wpAnyIn_ready (rs := [3]) (by kernel_rfl) (by simp) (AllReadyIn.cons rfl (fun K hK => ?_) AllReadyIn.nil)
      go_simp
      refine hK _ _ ?_
      clear hK K
      refine wpAnyIn_ready (rs := [4]) (by kernel_rfl) (by simp) (AllReadyIn.cons rfl (fun K hK => ?_) AllReadyIn.nil)
      refine step_append_in rfl _ _ rfl w.heap.size v (pre.map Subtype.val) rfl ((hS.drew.below hb1).alloc _) b.data.toList w1.heap.size 1 _ _ rfl (heap_alloc_new w1 _) HPL.out HSI.out ?_
      intro g cap w3 hS3 hg3 hg4
      refine hK _ _ ?_
      clear hK K
      rw [HBL.out] at hS3
      have HE := Lib.hid (spl_end w W w1 w3 v _ _ _ g cap h4 hR hS hne hB hb1 hg3 hS3 hg4)
      have c3 := HE.out.1.cell
      have f3 := HE.out.1.frozen
      clear hS3 hg3 hg4
      refine wpAnyIn_ready (rs := [5]) (by kernel_rfl) (by simp) (AllReadyIn.cons rfl (fun K hK => ?_) AllReadyIn.nil)
      go_simp
      refine hK _ _ ?_
      clear hK K
      refine wpAnyIn_done (by kernel_rfl) ?_ _
      have hE := HE.out.2
      simp only [List.length_map] at hE
      refine ⟨hE.1, hE.2.1, ?_, hE.2.2.2⟩
      rw [List.map_append]
      exact hE.2.2.1
    · refine wpAnyIn_ready (rs := [0, 2]) (by kernel_rfl) (by simp) (AllReadyIn.cons rfl (fun K hK => ?_) (AllReadyIn.cons rfl (fun K hK => ?_) AllReadyIn.nil)) <;> go_simp
      · refine hK _ _ ?_
        clear hK K
        refine wpAnyIn_ready (rs := [2]) (by kernel_rfl) (by simp) (AllReadyIn.cons rfl (fun K hK => ?_) AllReadyIn.nil)
        go_simp
        refine ⟨trivial, ?_⟩
        refine HCL.out.mono ?_
        rintro e w1 ⟨rfl, hb1⟩
        refine hK _ _ ?_
        clear hK K
        obtain ⟨c1, hlt1⟩ := keep_cell hb1 hlt cR'
        have HSI : Hid (w.heap.size ≤ (w1.alloc (.cells #[.string b] 9)).heap.size) := Lib.hid (by have := hb1.size; simp at this ⊢; omega)
        refine wpAnyIn_ready (rs := [3]) (by kernel_rfl) (by simp) (AllReadyIn.cons rfl (fun K hK => ?_) AllReadyIn.nil)
        go_simp
        refine hK _ _ ?_
        clear hK K
        refine wpAnyIn_ready (rs := [4]) (by kernel_rfl) (by simp) (AllReadyIn.cons rfl (fun K hK => ?_) AllReadyIn.nil)
        refine step_append_in rfl _ _ rfl w.heap.size v (pre.map Subtype.val) rfl ((hS.drew.below hb1).alloc _) b.data.toList w1.heap.size 1 _ _ rfl (heap_alloc_new w1 _) HPL.out HSI.out ?_
        intro g cap w3 hS3 hg3 hg4
        refine hK _ _ ?_
        clear hK K
        rw [HBL.out] at hS3
        have HE := Lib.hid (spl_end w W w1 w3 v _ _ _ g cap h4 hR hS hne hB hb1 hg3 hS3 hg4)
        have c3 := HE.out.1.cell
        have f3 := HE.out.1.frozen
        clear hS3 hg3 hg4
        refine wpAnyIn_ready (rs := [5]) (by kernel_rfl) (by simp) (AllReadyIn.cons rfl (fun K hK => ?_) AllReadyIn.nil)
        go_simp
        refine hK _ _ ?_
        clear hK K
        refine wpAnyIn_done (by kernel_rfl) ?_ _
        have hE := HE.out.2
        simp only [List.length_map] at hE
        refine ⟨hE.1, hE.2.1, ?_, hE.2.2.2⟩
        rw [List.map_append]
        exact hE.2.2.1
      · refine ⟨trivial, ?_⟩
        refine HCL.out.mono ?_
        rintro e w1 ⟨rfl, hb1⟩
        refine hK _ _ ?_
        clear hK K
        obtain ⟨c1, hlt1⟩ := keep_cell hb1 hlt cR'
        have HSI : Hid (w.heap.size ≤ (w1.alloc (.cells #[.string b] 9)).heap.size) := Lib.hid (by have := hb1.size; simp at this ⊢; omega)
        refine wpAnyIn_ready (rs := [0, 3]) (by kernel_rfl) (by simp) (AllReadyIn.cons rfl (fun K hK => ?_) (AllReadyIn.cons rfl (fun K hK => ?_) AllReadyIn.nil)) <;> go_simp <;> refine hK _ _ ?_ <;> clear hK K
        · refine wpAnyIn_ready (rs := [3]) (by kernel_rfl) (by simp) (AllReadyIn.cons rfl (fun K hK => ?_) AllReadyIn.nil)
          go_simp
          refine hK _ _ ?_
          clear hK K
          refine wpAnyIn_ready (rs := [4]) (by kernel_rfl) (by simp) (AllReadyIn.cons rfl (fun K hK => ?_) AllReadyIn.nil)
          refine step_append_in rfl _ _ rfl w.heap.size v (pre.map Subtype.val) rfl ((hS.drew.below hb1).alloc _) b.data.toList w1.heap.size 1 _ _ rfl (heap_alloc_new w1 _) HPL.out HSI.out ?_
          intro g cap w3 hS3 hg3 hg4
          refine hK _ _ ?_
          clear hK K
          rw [HBL.out] at hS3
          have HE := Lib.hid (spl_end w W w1 w3 v _ _ _ g cap h4 hR hS hne hB hb1 hg3 hS3 hg4)
          have c3 := HE.out.1.cell
          have f3 := HE.out.1.frozen
          clear hS3 hg3 hg4
          refine wpAnyIn_ready (rs := [5]) (by kernel_rfl) (by simp) (AllReadyIn.cons rfl (fun K hK => ?_) AllReadyIn.nil)
          go_simp
          refine hK _ _ ?_
          clear hK K
          refine wpAnyIn_done (by kernel_rfl) ?_ _
          have hE := HE.out.2
          simp only [List.length_map] at hE
          refine ⟨hE.1, hE.2.1, ?_, hE.2.2.2⟩
          rw [List.map_append]
          exact hE.2.2.1
        · have c2 : (w1.alloc (.cells #[.string b] 9)).cell? ⟨w.heap.size + 1, 0, none⟩ = some v := (keep_cell ((Below.refl _ w1).alloc (Nat.le_refl _) _) hlt1 c1).1
          refine wpAnyIn_ready (rs := [0]) (by kernel_rfl) (by simp) (AllReadyIn.cons rfl (fun K hK => ?_) AllReadyIn.nil)
          go_simp
          refine hK _ _ ?_
          clear hK K
          refine wpAnyIn_ready (rs := [4]) (by kernel_rfl) (by simp) (AllReadyIn.cons rfl (fun K hK => ?_) AllReadyIn.nil)
          refine step_append_in rfl _ _ rfl w.heap.size v (pre.map Subtype.val) rfl ((hS.drew.below hb1).alloc _) b.data.toList w1.heap.size 1 _ _ rfl (heap_alloc_new w1 _) HPL.out HSI.out ?_
          intro g cap w3 hS3 hg3 hg4
          refine hK _ _ ?_
          clear hK K
          rw [HBL.out] at hS3
          have HE := Lib.hid (spl_end w W w1 w3 v _ _ _ g cap h4 hR hS hne hB hb1 hg3 hS3 hg4)
          have c3 := HE.out.1.cell
          have f3 := HE.out.1.frozen
          clear hS3 hg3 hg4
          refine wpAnyIn_ready (rs := [5]) (by kernel_rfl) (by simp) (AllReadyIn.cons rfl (fun K hK => ?_) AllReadyIn.nil)
          go_simp
          refine hK _ _ ?_
          clear hK K
          refine wpAnyIn_done (by kernel_rfl) ?_ _
          have hE := HE.out.2
          simp only [List.length_map] at hE
          refine ⟨hE.1, hE.2.1, ?_, hE.2.2.2⟩
          rw [List.map_append]
          exact hE.2.2.1
  case done =>
    rintro D ys W hD hys ⟨⟨h4, v, hR, hS, hne⟩, hB⟩ hK
    rw [hys] at hS
    have cR := hR.cell
    gi_wp2
    refine ⟨by simp, .inl ⟨_, _, rfl, run_takeDeferred hK, ?_⟩⟩
    have hS' := World.ownsRow.kept hS (grownBy_putObj' W D (.deferred none)) (row := some D) (by
      rcases hS.2 with ⟨rfl, _⟩ | ⟨g', cap', cur, rfl, _, hh, _⟩
      · left; rfl
      · right
        simp only [Value.ownBlock]
        intro e; cases e
        rw [hK] at hh; cases hh)
    rcases hS.form with ⟨_, h⟩ | ⟨g, cap, rfl, _, _⟩
    · exact absurd h (cutL_ne _ _)
    · exact ⟨_, by simp [results, Tryz.f245, go_sem], g, cap, rfl, hS', hB.trans (belowK_b (w := w) (Nat.le_refl _) W D _ _ (by have := HSZ.out; omega) hK rfl rfl)⟩
  case stop =>
    rintro D c pre W hD hpre h hK
    exact h.elim

theorem splitAt_any (s : ByteArray) (m : UInt8) (w : World) (hs : s.size ≤ 1048576) :
    Calls Tryz.prog 245 #[.string s, .int .u8 (m.toNat : Int)] w fun e W' => ∃ g cap, e = .returned (.slice (some ⟨g, 0, none⟩) (cutL m s.data.toList).length cap) ∧ Strs W' w.heap.size (.slice (some ⟨g, 0, none⟩) (cutL m s.data.toList).length cap) (cutL m s.data.toList) ∧ Below w.heap.size w W' :=
  (callsIn_wide (n := 4)).1 (splitAt_in 4 (by omega) s m w hs)
end Go.Proofs.YtnodhkjgnegkcaaGreatDoor

/-
  impl.ReadVersion: a version out of its text.
-/
namespace Go.Proofs.YtnodhkjgnegkcaaGreatDoor
open Go.RowKit

theorem keep3 {W V : World} {g : Nat} {v0 v1 v2 : Value} (hb : Below W.heap.size W V) (h : W.cell? ⟨g, 0, none⟩ = some v0 ∧ W.cell? ⟨g, 1, none⟩ = some v1 ∧ W.cell? ⟨g, 2, none⟩ = some v2) : V.cell? ⟨g, 0, none⟩ = some v0 ∧ V.cell? ⟨g, 1, none⟩ = some v1 ∧ V.cell? ⟨g, 2, none⟩ = some v2 := ⟨keepC hb h.1, keepC hb h.2.1, keepC hb h.2.2⟩

set_option maxRecDepth 100000 in
set_option maxHeartbeats 4000000 in
theorem implReadVersion_any (s : ByteArray) (w : World) (hs : s.size ≤ 1048576) :
    Calls Tryz.prog 199 #[.string s] w (ReadIs w s.data.toList) := by
  have HSZ : Hid (s.data.toList.length ≤ 1048576) := Lib.hid (by simpa using hs)
  have r0 := heap_alloc_new w (.cells #[.int .i64 0, .int .i64 0, .int .i64 0, .slice none 0 0] 117)
  have B0 : Below w.heap.size w (w.alloc (.cells #[.int .i64 0, .int .i64 0, .int .i64 0, .slice none 0 0] 117)) := (Below.refl _ _).alloc (Nat.le_refl _) _
  obtain ⟨d, HD⟩ : ∃ d, Hid (dash s.data.toList = d) := ⟨_, Lib.hid rfl⟩
  by_cases hd : 0 ≤ d
  · have hdl : d < s.size := by have := idx_lt s.data.toList 45; have h2 : Lib.indexByte s.data.toList 45 = d := HD.out; rw [h2] at this; simpa using this
    obtain ⟨k, rfl⟩ : ∃ k : Nat, d = (k : Int) := ⟨d.toNat, by omega⟩
    have HTL : Hid (cutL 46 (⟨(s.data.toList.drop (k + 1)).toArray⟩ : ByteArray).data.toList = tailL s.data.toList) := Lib.hid (by rw [tailL_yes (by rw [HD.out]; exact hd), HD.out]; rfl)
    have HQ2 : Hid (cutL 46 (⟨(s.data.toList.take k).toArray⟩ : ByteArray).data.toList = partsL s.data.toList) := Lib.hid (by unfold partsL; rw [headL_yes (by rw [HD.out]; exact hd), HD.out]; rfl)
    go_enter Tryz.func199, Tryz.ntmps199
    go_wp2_with fail
    refine (cutDash_yes s _ hs k (by omega) HD.out).mono ?_
    rintro e w1 ⟨rfl, nq, rfl⟩
    have B1 := B0.trans (below_drewN _ _ nq)
    have r1 := keepB r0 (below_drewN _ _ nq)
    clear r0 B0
    go_wp2_with fail
    refine (splitAt_any _ 46 _ (by rw [size_of]; simp <;> omega)).mono ?_
    rintro e w2 ⟨gn, cn, rfl, hSn, hb2⟩
    rw [HQ2.out] at hSn ⊢
    have r2 := keepB r1 hb2
    have B2 := B1.trans (hb2.mono B1.size)
    clear r1 hb2
    by_cases h3 : (partsL s.data.toList).length = 3
    · obtain ⟨p0, p1, p2, hp⟩ := len3 h3
      have HPP := Lib.hid hp
      have mm : ∀ x ∈ partsL s.data.toList, x.length ≤ 1048576 := fun x hx => by have h1 := cutL_mem_le 46 (headL s.data.toList) x hx; have h2 := headL_le s.data.toList; have h3 := HSZ.out; omega
      have m0 := mm p0 (by rw [hp]; simp)
      have m1 := mm p1 (by rw [hp]; simp)
      have m2 := mm p2 (by rw [hp]; simp)
      have x0 : w2.cell? ⟨gn, 0, none⟩ = some (.string ⟨p0.toArray⟩) := by rw [hp] at hSn; exact hSn.cell 0 (by simp)
      have x1 : w2.cell? ⟨gn, 1, none⟩ = some (.string ⟨p1.toArray⟩) := by rw [hp] at hSn; exact hSn.cell 1 (by simp)
      have x2 : w2.cell? ⟨gn, 2, none⟩ = some (.string ⟨p2.toArray⟩) := by rw [hp] at hSn; exact hSn.cell 2 (by simp)
      have HR := Lib.hid (readOk_of hp)
      rw [h3]
      clear mm hp h3
      obtain ⟨z0, HZ0⟩ : ∃ z, Hid (readL p0 = z) := ⟨_, Lib.hid rfl⟩
      obtain ⟨z1, HZ1⟩ : ∃ z, Hid (readL p1 = z) := ⟨_, Lib.hid rfl⟩
      obtain ⟨z2, HZ2⟩ : ∃ z, Hid (readL p2 = z) := ⟨_, Lib.hid rfl⟩
      have HD0 := Lib.hid (fun W => (implReadDec_any ⟨p0.toArray⟩ W (by rw [size_of]; exact m0)).mono (fun e w' h => (⟨by rw [h.1, show readL (⟨p0.toArray⟩ : ByteArray).data.toList = z0 from HZ0.out], h.2⟩ : e = .returned (.int .i64 z0) ∧ W = w')))
      have HD1 := Lib.hid (fun W => (implReadDec_any ⟨p1.toArray⟩ W (by rw [size_of]; exact m1)).mono (fun e w' h => (⟨by rw [h.1, show readL (⟨p1.toArray⟩ : ByteArray).data.toList = z1 from HZ1.out], h.2⟩ : e = .returned (.int .i64 z1) ∧ W = w')))
      have HD2 := Lib.hid (fun W => (implReadDec_any ⟨p2.toArray⟩ W (by rw [size_of]; exact m2)).mono (fun e w' h => (⟨by rw [h.1, show readL (⟨p2.toArray⟩ : ByteArray).data.toList = z2 from HZ2.out], h.2⟩ : e = .returned (.int .i64 z2) ∧ W = w')))
      go_wp2_with fail
      have ba : ∀ (W : World) (o : Obj), Below W.heap.size W (W.alloc o) := fun W o => (Below.refl _ _).alloc (Nat.le_refl _) _
      have HBA := Lib.hid ba
      clear ba
      go_region_held3 (fun W' => W'.cell? ⟨gn, 0, none⟩ = some (.string ⟨p0.toArray⟩) ∧ W'.cell? ⟨gn, 1, none⟩ = some (.string ⟨p1.toArray⟩) ∧ W'.cell? ⟨gn, 2, none⟩ = some (.string ⟨p2.toArray⟩)) (first | exact ⟨x0, x1, x2⟩ | assumption | exact keep3 (HBA.out _ _) (by assumption) | go_keep) ((first | (go_at_call 246; (with_reducible refine (HD0.out _).mono ?_); rintro e w' ⟨rfl, rfl⟩) | (go_at_call 246; (with_reducible refine (HD1.out _).mono ?_); rintro e w' ⟨rfl, rfl⟩) | (go_at_call 246; (with_reducible refine (HD2.out _).mono ?_); rintro e w' ⟨rfl, rfl⟩)))
      all_goals
        go_wp2_with fail
        have v3 : (w2.alloc (.cells #[.int .i64 z0, .int .i64 z1, .int .i64 z2, .slice none 0 0] 117)).drew.heap[w2.heap.size]? = some (.cells #[.int .i64 z0, .int .i64 z1, .int .i64 z2, .slice none 0 0] 117) := heap_alloc_new w2 _
        have r3 : (w2.alloc (.cells #[.int .i64 z0, .int .i64 z1, .int .i64 z2, .slice none 0 0] 117)).drew.heap[w.heap.size]? = some (.cells #[.int .i64 0, .int .i64 0, .int .i64 0, .slice none 0 0] 117) := keepA r2 _
        have B3 := (B2.alloc B2.size (.cells #[.int .i64 z0, .int .i64 z1, .int .i64 z2, .slice none 0 0] 117)).trans (below_drew w.heap.size _)
        have lo : w.heap.size < w2.heap.size := lt_of_heap r2
        clear r2 B2 x0 x1 x2
        refine (splitAt_any _ 46 _ (by rw [size_of]; simp <;> omega)).mono ?_
        rintro e w4 ⟨gp, cp, rfl, hSp, hb4⟩
        rw [HTL.out] at hSp ⊢
        have v4 := keepB v3 hb4
        have r4 := keepB r3 hb4
        have B4 := B3.trans (hb4.mono B3.size)
        have glo : w2.heap.size + 1 ≤ gp := by have := hSp.lo; simpa using this
        obtain ⟨q0, q1, q2, q3⟩ := cells4 v4
        have f3 := frozen4 v4 3
        have v5 := heap_set3 v4 (.slice (some ⟨gp, 0, none⟩) (tailL s.data.toList).length cp)
        have r5 := heap_other (g := w2.heap.size) (o := 3) r4 (.slice (some ⟨gp, 0, none⟩) (tailL s.data.toList).length cp) (by omega)
        have B5 := B4.setCell (p := ⟨w2.heap.size, 3, none⟩) (by show w.heap.size ≤ w2.heap.size; omega) (.slice (some ⟨gp, 0, none⟩) (tailL s.data.toList).length cp)
        have hS5 := (hSp.weaken (base' := w2.heap.size + 1) (by simp)).other w2.heap.size 3 (.slice (some ⟨gp, 0, none⟩) (tailL s.data.toList).length cp) (by omega)
        obtain ⟨i0, i1, i2, i3⟩ := cells4 v5
        go_wp2_with fail
        clear v3 v4 r3 r4 B3 B4 hSp hb4 q0 q1 q2 q3 f3 i0 i1 i2 i3
        refine (implVersionOk_any z0 z1 z2 _ (tailL s.data.toList) _ (RdS.of_strs hS5) (tail_sm HSZ.out)).mono ?_
        obtain ⟨ok, HO⟩ : ∃ ok, Hid (verOk z0 z1 z2 (tailL s.data.toList) = ok) := ⟨_, Lib.hid rfl⟩
        rw [HO.out]
        rintro e w6 ⟨rfl, hb6⟩
        have v6 := keepB v5 hb6
        have r6 := keepB r5 hb6
        have B6 := B5.trans (hb6.mono B5.size)
        have hS6 := hS5.below hb6
        have hw := hS5.owned
        have HOK : Hid (readOk s.data.toList = ok) := Lib.hid (by rw [HR.out, HZ0.out, HZ1.out, HZ2.out]; exact HO.out)
        clear v5 r5 B5 hS5 hb6
        cases ok
        · skip
          obtain ⟨q0, q1, q2, q3⟩ := cells4 r6
          have f0 := frozen4 r6 0
          have f1 := frozen4 r6 1
          have f2 := frozen4 r6 2
          have f3 := frozen4 r6 3
          go_wp2_with fail
          refine bodyPost_ret (v := .tuple #[.agg #[.int .i64 0, .int .i64 0, .int .i64 0, .slice none 0 0], .bool false]) ?_ rfl (readIs_bad HOK.out (below_result B6 (by omega) _ _ _ _))
          simp [results, Tryz.results199, go_sem, q0, q1, q2, q3]
        · skip
          obtain ⟨p0', p1', p2', p3'⟩ := cells4 v6
          obtain ⟨q0, q1, q2, q3⟩ := cells4 r6
          have f0 := frozen4 r6 0
          have f1 := frozen4 r6 1
          have f2 := frozen4 r6 2
          have f3 := frozen4 r6 3
          go_wp2_with fail
          refine bodyPost_ret (v := .tuple #[.agg #[.int .i64 (z0), .int .i64 (z1), .int .i64 (z2), .slice (some ⟨gp, 0, none⟩) (tailL s.data.toList).length cp], .bool true]) ?_ rfl (by rw [← HZ0.out, ← HZ1.out, ← HZ2.out]; exact readIs_good HPP.out HOK.out (strs_result (hS6.weaken (by omega)) (fun g h => by have := hw g h; omega) _ _ _ _) (below_result B6 (by omega) _ _ _ _))
          simp [results, Tryz.results199, go_sem, q0, q1, q2, q3]
    · have HOK := Lib.hid (readOk_bad h3)
      have q9 : (((partsL s.data.toList).length : Int) != 3) = true := int_bne_true (by omega)
      clear h3
      obtain ⟨q0, q1, q2, q3⟩ := cells4 r2
      have f0 := frozen4 r2 0
      have f1 := frozen4 r2 1
      have f2 := frozen4 r2 2
      have f3 := frozen4 r2 3
      go_wp2_with fail
      refine bodyPost_ret (v := .tuple #[.agg #[.int .i64 0, .int .i64 0, .int .i64 0, .slice none 0 0], .bool false]) ?_ rfl (readIs_bad HOK.out (below_result B2 (by omega) _ _ _ _))
      simp [results, Tryz.results199, go_sem, q0, q1, q2, q3]
  · have hdn : ¬ 0 ≤ dash s.data.toList := by rw [HD.out]; exact hd
    have HQ2 : Hid (cutL 46 s.data.toList = partsL s.data.toList) := Lib.hid (by unfold partsL; rw [headL_no hdn])
    have HTL := Lib.hid (tailL_no hdn)
    clear hdn
    go_enter Tryz.func199, Tryz.ntmps199
    go_wp2_with fail
    refine (cutDash_no s _ hs d (by omega) HD.out).mono ?_
    rintro e w1 ⟨rfl, rfl⟩
    go_wp2_with fail
    refine (splitAt_any s 46 _ hs).mono ?_
    rintro e w2 ⟨gn, cn, rfl, hSn, hb2⟩
    rw [HQ2.out] at hSn ⊢
    have r2 := keepB r0 hb2
    have B2 := B0.trans (hb2.mono B0.size)
    clear r0 hb2 B0
    by_cases h3 : (partsL s.data.toList).length = 3
    · obtain ⟨p0, p1, p2, hp⟩ := len3 h3
      have HPP := Lib.hid hp
      have mm : ∀ x ∈ partsL s.data.toList, x.length ≤ 1048576 := fun x hx => by have h1 := cutL_mem_le 46 (headL s.data.toList) x hx; have h2 := headL_le s.data.toList; have h3 := HSZ.out; omega
      have m0 := mm p0 (by rw [hp]; simp)
      have m1 := mm p1 (by rw [hp]; simp)
      have m2 := mm p2 (by rw [hp]; simp)
      have x0 : w2.cell? ⟨gn, 0, none⟩ = some (.string ⟨p0.toArray⟩) := by rw [hp] at hSn; exact hSn.cell 0 (by simp)
      have x1 : w2.cell? ⟨gn, 1, none⟩ = some (.string ⟨p1.toArray⟩) := by rw [hp] at hSn; exact hSn.cell 1 (by simp)
      have x2 : w2.cell? ⟨gn, 2, none⟩ = some (.string ⟨p2.toArray⟩) := by rw [hp] at hSn; exact hSn.cell 2 (by simp)
      have HR := Lib.hid (readOk_of hp)
      rw [h3]
      clear mm hp h3
      obtain ⟨z0, HZ0⟩ : ∃ z, Hid (readL p0 = z) := ⟨_, Lib.hid rfl⟩
      obtain ⟨z1, HZ1⟩ : ∃ z, Hid (readL p1 = z) := ⟨_, Lib.hid rfl⟩
      obtain ⟨z2, HZ2⟩ : ∃ z, Hid (readL p2 = z) := ⟨_, Lib.hid rfl⟩
      have HD0 := Lib.hid (fun W => (implReadDec_any ⟨p0.toArray⟩ W (by rw [size_of]; exact m0)).mono (fun e w' h => (⟨by rw [h.1, show readL (⟨p0.toArray⟩ : ByteArray).data.toList = z0 from HZ0.out], h.2⟩ : e = .returned (.int .i64 z0) ∧ W = w')))
      have HD1 := Lib.hid (fun W => (implReadDec_any ⟨p1.toArray⟩ W (by rw [size_of]; exact m1)).mono (fun e w' h => (⟨by rw [h.1, show readL (⟨p1.toArray⟩ : ByteArray).data.toList = z1 from HZ1.out], h.2⟩ : e = .returned (.int .i64 z1) ∧ W = w')))
      have HD2 := Lib.hid (fun W => (implReadDec_any ⟨p2.toArray⟩ W (by rw [size_of]; exact m2)).mono (fun e w' h => (⟨by rw [h.1, show readL (⟨p2.toArray⟩ : ByteArray).data.toList = z2 from HZ2.out], h.2⟩ : e = .returned (.int .i64 z2) ∧ W = w')))
      go_wp2_with fail
      have ba : ∀ (W : World) (o : Obj), Below W.heap.size W (W.alloc o) := fun W o => (Below.refl _ _).alloc (Nat.le_refl _) _
      have HBA := Lib.hid ba
      clear ba
      go_region_held3 (fun W' => W'.cell? ⟨gn, 0, none⟩ = some (.string ⟨p0.toArray⟩) ∧ W'.cell? ⟨gn, 1, none⟩ = some (.string ⟨p1.toArray⟩) ∧ W'.cell? ⟨gn, 2, none⟩ = some (.string ⟨p2.toArray⟩)) (first | exact ⟨x0, x1, x2⟩ | assumption | exact keep3 (HBA.out _ _) (by assumption) | go_keep) ((first | (go_at_call 246; (with_reducible refine (HD0.out _).mono ?_); rintro e w' ⟨rfl, rfl⟩) | (go_at_call 246; (with_reducible refine (HD1.out _).mono ?_); rintro e w' ⟨rfl, rfl⟩) | (go_at_call 246; (with_reducible refine (HD2.out _).mono ?_); rintro e w' ⟨rfl, rfl⟩)))
      all_goals
        go_wp2_with fail
        have v3 : (w2.alloc (.cells #[.int .i64 z0, .int .i64 z1, .int .i64 z2, .slice none 0 0] 117)).drew.heap[w2.heap.size]? = some (.cells #[.int .i64 z0, .int .i64 z1, .int .i64 z2, .slice none 0 0] 117) := heap_alloc_new w2 _
        have r3 : (w2.alloc (.cells #[.int .i64 z0, .int .i64 z1, .int .i64 z2, .slice none 0 0] 117)).drew.heap[w.heap.size]? = some (.cells #[.int .i64 0, .int .i64 0, .int .i64 0, .slice none 0 0] 117) := keepA r2 _
        have B3 := (B2.alloc B2.size (.cells #[.int .i64 z0, .int .i64 z1, .int .i64 z2, .slice none 0 0] 117)).trans (below_drew w.heap.size _)
        have lo : w.heap.size < w2.heap.size := lt_of_heap r2
        clear r2 B2 x0 x1 x2
        have hS5 : Strs (w2.alloc (.cells #[.int .i64 z0, .int .i64 z1, .int .i64 z2, .slice none 0 0] 117)).drew (w2.heap.size + 1) (.slice none 0 0) (tailL s.data.toList) := by rw [HTL.out]; exact Strs.nil _ _
        have v5 := v3
        have r5 := r3
        have B5 := B3
        clear v3 r3 B3
        refine (implVersionOk_any z0 z1 z2 _ (tailL s.data.toList) _ (RdS.of_strs hS5) (tail_sm HSZ.out)).mono ?_
        obtain ⟨ok, HO⟩ : ∃ ok, Hid (verOk z0 z1 z2 (tailL s.data.toList) = ok) := ⟨_, Lib.hid rfl⟩
        rw [HO.out]
        rintro e w6 ⟨rfl, hb6⟩
        have v6 := keepB v5 hb6
        have r6 := keepB r5 hb6
        have B6 := B5.trans (hb6.mono B5.size)
        have hS6 := hS5.below hb6
        have hw := hS5.owned
        have HOK : Hid (readOk s.data.toList = ok) := Lib.hid (by rw [HR.out, HZ0.out, HZ1.out, HZ2.out]; exact HO.out)
        clear v5 r5 B5 hS5 hb6
        cases ok
        · skip
          obtain ⟨q0, q1, q2, q3⟩ := cells4 r6
          have f0 := frozen4 r6 0
          have f1 := frozen4 r6 1
          have f2 := frozen4 r6 2
          have f3 := frozen4 r6 3
          go_wp2_with fail
          refine bodyPost_ret (v := .tuple #[.agg #[.int .i64 0, .int .i64 0, .int .i64 0, .slice none 0 0], .bool false]) ?_ rfl (readIs_bad HOK.out (below_result B6 (by omega) _ _ _ _))
          simp [results, Tryz.results199, go_sem, q0, q1, q2, q3]
        · skip
          obtain ⟨p0', p1', p2', p3'⟩ := cells4 v6
          obtain ⟨q0, q1, q2, q3⟩ := cells4 r6
          have f0 := frozen4 r6 0
          have f1 := frozen4 r6 1
          have f2 := frozen4 r6 2
          have f3 := frozen4 r6 3
          go_wp2_with fail
          refine bodyPost_ret (v := .tuple #[.agg #[.int .i64 (z0), .int .i64 (z1), .int .i64 (z2), .slice none 0 0], .bool true]) ?_ rfl (by rw [← HZ0.out, ← HZ1.out, ← HZ2.out]; exact readIs_good HPP.out HOK.out (strs_result (hS6.weaken (by omega)) (fun g h => by have := hw g h; omega) _ _ _ _) (below_result B6 (by omega) _ _ _ _))
          simp [results, Tryz.results199, go_sem, q0, q1, q2, q3]
    · have HOK := Lib.hid (readOk_bad h3)
      have q9 : (((partsL s.data.toList).length : Int) != 3) = true := int_bne_true (by omega)
      clear h3
      obtain ⟨q0, q1, q2, q3⟩ := cells4 r2
      have f0 := frozen4 r2 0
      have f1 := frozen4 r2 1
      have f2 := frozen4 r2 2
      have f3 := frozen4 r2 3
      go_wp2_with fail
      refine bodyPost_ret (v := .tuple #[.agg #[.int .i64 0, .int .i64 0, .int .i64 0, .slice none 0 0], .bool false]) ?_ rfl (readIs_bad HOK.out (below_result B2 (by omega) _ _ _ _))
      simp [results, Tryz.results199, go_sem, q0, q1, q2, q3]
end Go.Proofs.YtnodhkjgnegkcaaGreatDoor

/-
  cmp.Compare at ints, at impl's numbers and texts; cmp.Or at four ints; impl's identifiers compared.
-/
namespace Go.Proofs.YtnodhkjgnegkcaaGreatDoor
open Go.RowKit

set_option maxRecDepth 100000 in
theorem cmpInt_any (a b : Int) (w : World) : Calls Tryz.prog 295 #[.int .i64 a, .int .i64 b] w fun e w' => e = .returned (.int .i64 (cmpI a b)) ∧ w' = w := by
  have qa : (a != a) = false := by simp
  have qb : (b != b) = false := by simp
  rcases (show a < b ∨ (¬ a < b ∧ b < a) ∨ (¬ a < b ∧ ¬ b < a) from by omega) with h | ⟨h, h2⟩ | ⟨h, h2⟩
  · have H : Hid (cmpI a b = -1) := Lib.hid (if_pos h)
    go_enter Tryz.func295, Tryz.ntmps295
    go_wp2
    go_ret
    exact ⟨ret_int H.out.symm, rfl⟩
  · have H : Hid (cmpI a b = 1) := Lib.hid (by unfold cmpI; rw [if_neg h, if_pos h2])
    go_enter Tryz.func295, Tryz.ntmps295
    go_wp2
    go_ret
    exact ⟨ret_int H.out.symm, rfl⟩
  · have H : Hid (cmpI a b = 0) := Lib.hid (by unfold cmpI; rw [if_neg h, if_neg h2])
    go_enter Tryz.func295, Tryz.ntmps295
    go_wp2
    go_ret
    exact ⟨ret_int H.out.symm, rfl⟩

set_option maxRecDepth 100000 in
theorem cmpNum_any (a b : Int) (w : World) : Calls Tryz.prog 342 #[.int .i64 a, .int .i64 b] w fun e w' => e = .returned (.int .i64 (cmpI a b)) ∧ w' = w := by
  have qa : (a != a) = false := by simp
  have qb : (b != b) = false := by simp
  rcases (show a < b ∨ (¬ a < b ∧ b < a) ∨ (¬ a < b ∧ ¬ b < a) from by omega) with h | ⟨h, h2⟩ | ⟨h, h2⟩
  · have H : Hid (cmpI a b = -1) := Lib.hid (if_pos h)
    go_enter Tryz.func342, Tryz.ntmps342
    go_wp2
    go_ret
    exact ⟨ret_int H.out.symm, rfl⟩
  · have H : Hid (cmpI a b = 1) := Lib.hid (by unfold cmpI; rw [if_neg h, if_pos h2])
    go_enter Tryz.func342, Tryz.ntmps342
    go_wp2
    go_ret
    exact ⟨ret_int H.out.symm, rfl⟩
  · have H : Hid (cmpI a b = 0) := Lib.hid (by unfold cmpI; rw [if_neg h, if_neg h2])
    go_enter Tryz.func342, Tryz.ntmps342
    go_wp2
    go_ret
    exact ⟨ret_int H.out.symm, rfl⟩

set_option maxRecDepth 100000 in
theorem cmpText_any (a b : ByteArray) (w : World) : Calls Tryz.prog 346 #[.string a, .string b] w fun e w' => e = .returned (.int .i64 (cmpS a.data.toList b.data.toList)) ∧ w' = w := by
  rcases cmpS_ways a b with ⟨h, h3⟩ | ⟨h, h2, h3⟩ | ⟨h, h2, h3⟩
  all_goals
    have H := Lib.hid h3
    clear h3
    have qa : (a.toList == a.toList) = true := by simp
    have qb : (b.toList == b.toList) = true := by simp
    go_enter Tryz.func346, Tryz.ntmps346
    go_wp2
    go_ret
    exact ⟨ret_int H.out.symm, rfl⟩

theorem asNN (b : Int) (w : World) : (Instr.typeAssert (.iface 284 (.int .i64 b)) 276 284 true).run Tryz.prog w = .ok (.tuple #[.int .i64 b, .bool true]) w := by kernel_rfl
theorem asNT (b : ByteArray) (w : World) : (Instr.typeAssert (.iface 285 (.string b)) 276 284 true).run Tryz.prog w = .ok (.tuple #[.int .i64 0, .bool false]) w := by kernel_rfl
theorem asTT (b : ByteArray) (w : World) : (Instr.typeAssert (.iface 285 (.string b)) 276 285 true).run Tryz.prog w = .ok (.tuple #[.string b, .bool true]) w := by kernel_rfl
theorem asTN (b : Int) (w : World) : (Instr.typeAssert (.iface 284 (.int .i64 b)) 276 285 true).run Tryz.prog w = .ok (.tuple #[.string ⟨#[]⟩, .bool false]) w := by kernel_rfl
set_option maxRecDepth 100000 in
theorem numCompareNum (a b : Int) (w : World) : Calls Tryz.prog 340 #[.int .i64 a, .iface 284 (.int .i64 b)] w fun e w' => e = .returned (.int .i64 (cmpI a b)) ∧ w' = w := by
  have ha := asNN b
  go_enter Tryz.func340, Tryz.ntmps340
  go_wp2_with (go_at_call 342; refine (cmpNum_any _ _ _).mono ?_; rintro e w' ⟨rfl, rfl⟩)
  go_ret
  exact ⟨rfl, rfl⟩
set_option maxRecDepth 100000 in
theorem numCompareText (a : Int) (b : ByteArray) (w : World) : Calls Tryz.prog 340 #[.int .i64 a, .iface 285 (.string b)] w fun e w' => e = .returned (.int .i64 (-1)) ∧ w' = w := by
  have ha := asNT b
  go_enter Tryz.func340, Tryz.ntmps340
  go_wp2_with fail
  go_ret
  exact ⟨rfl, rfl⟩
set_option maxRecDepth 100000 in
theorem textCompareText (a b : ByteArray) (w : World) : Calls Tryz.prog 344 #[.string a, .iface 285 (.string b)] w fun e w' => e = .returned (.int .i64 (cmpS a.data.toList b.data.toList)) ∧ w' = w := by
  have ha := asTT b
  go_enter Tryz.func344, Tryz.ntmps344
  go_wp2_with (go_at_call 346; refine (cmpText_any _ _ _).mono ?_; rintro e w' ⟨rfl, rfl⟩)
  go_ret
  exact ⟨rfl, rfl⟩
set_option maxRecDepth 100000 in
theorem textCompareNum (a : ByteArray) (b : Int) (w : World) : Calls Tryz.prog 344 #[.string a, .iface 284 (.int .i64 b)] w fun e w' => e = .returned (.int .i64 1) ∧ w' = w := by
  have ha := asTN b
  go_enter Tryz.func344, Tryz.ntmps344
  go_wp2_with fail
  go_ret
  exact ⟨rfl, rfl⟩

theorem aheadN (z : Int) (w : World) : (nilAhead 428 284 (.int .i64 z) "loop.example/g00445/impl.compare").run Tryz.prog w = .ok (some false) w := by kernel_rfl
theorem aheadT (s : ByteArray) (w : World) : (nilAhead 428 285 (.string s) "loop.example/g00445/impl.compare").run Tryz.prog w = .ok (some false) w := by kernel_rfl
theorem methN (z : Int) (w : World) : (method 428 284 (.int .i64 z) "loop.example/g00445/impl.compare").run Tryz.prog w = .ok (340, .int .i64 z) w := by kernel_rfl
theorem methT (s : ByteArray) (w : World) : (method 428 285 (.string s) "loop.example/g00445/impl.compare").run Tryz.prog w = .ok (344, .string s) w := by kernel_rfl

set_option maxRecDepth 100000 in
set_option maxHeartbeats 1000000 in
theorem compareIdentifiers_any (a b : ByteArray) (w : World) (ha : a.size ≤ 1048576) (hb : b.size ≤ 1048576) :
    Calls Tryz.prog 307 #[.string a, .string b] w fun e w' => e = .returned (.int .i64 (cmpPart a.data.toList b.data.toList)) ∧ ∃ n, w' = w.drewN n := by
  have HA := Lib.hid (fun W => identifierOf_any a W ha)
  have HB := Lib.hid (fun W => identifierOf_any b W hb)
  clear ha hb
  by_cases hx : 0 ≤ readL a.data.toList <;> by_cases hy : 0 ≤ readL b.data.toList
  · have HF : Hid (cmpPart a.data.toList b.data.toList = cmpI (readL a.data.toList) (readL b.data.toList)) := Lib.hid (by unfold cmpPart; rw [if_pos hx, if_pos hy])
    have HX := Lib.hid (identV_num hx)
    have HY := Lib.hid (identV_num hy)
    have h1 := aheadN (readL a.data.toList)
    have h2 := methN (readL a.data.toList)
    clear hx hy
    go_enter Tryz.func307, Tryz.ntmps307
    go_wp2_with fail
    go_region_with (first | (go_at_call 279; (with_reducible refine (HA.out _).mono ?_); rw [HX.out]; rintro e w' ⟨rfl, rfl⟩) | (go_at_call 279; (with_reducible refine (HB.out _).mono ?_); rw [HY.out]; rintro e w' ⟨rfl, rfl⟩) | (go_at_call 340; (with_reducible refine (numCompareNum _ _ _).mono ?_); rintro e w' ⟨rfl, rfl⟩))
    all_goals
      go_wp2_with fail
      go_ret
      exact ⟨ret_int HF.out.symm, 1, rfl⟩
  · have HF : Hid (cmpPart a.data.toList b.data.toList = -1) := Lib.hid (by unfold cmpPart; rw [if_pos hx, if_neg hy])
    have HX := Lib.hid (identV_num hx)
    have HY := Lib.hid (identV_text hy)
    have h1 := aheadN (readL a.data.toList)
    have h2 := methN (readL a.data.toList)
    clear hx hy
    go_enter Tryz.func307, Tryz.ntmps307
    go_wp2_with fail
    go_region_with (first | (go_at_call 279; (with_reducible refine (HA.out _).mono ?_); rw [HX.out]; rintro e w' ⟨rfl, rfl⟩) | (go_at_call 279; (with_reducible refine (HB.out _).mono ?_); rw [HY.out]; rintro e w' ⟨rfl, rfl⟩) | (go_at_call 340; (with_reducible refine (numCompareText _ _ _).mono ?_); rintro e w' ⟨rfl, rfl⟩))
    all_goals
      go_wp2_with fail
      go_ret
      exact ⟨ret_int HF.out.symm, 1, rfl⟩
  · have HF : Hid (cmpPart a.data.toList b.data.toList = 1) := Lib.hid (by unfold cmpPart; rw [if_neg hx, if_pos hy])
    have HX := Lib.hid (identV_text hx)
    have HY := Lib.hid (identV_num hy)
    have h1 := aheadT a
    have h2 := methT a
    clear hx hy
    go_enter Tryz.func307, Tryz.ntmps307
    go_wp2_with fail
    go_region_with (first | (go_at_call 279; (with_reducible refine (HA.out _).mono ?_); rw [HX.out]; rintro e w' ⟨rfl, rfl⟩) | (go_at_call 279; (with_reducible refine (HB.out _).mono ?_); rw [HY.out]; rintro e w' ⟨rfl, rfl⟩) | (go_at_call 344; (with_reducible refine (textCompareNum _ _ _).mono ?_); rintro e w' ⟨rfl, rfl⟩))
    all_goals
      go_wp2_with fail
      go_ret
      exact ⟨ret_int HF.out.symm, 1, rfl⟩
  · have HF : Hid (cmpPart a.data.toList b.data.toList = cmpS a.data.toList b.data.toList) := Lib.hid (by unfold cmpPart; rw [if_neg hx, if_neg hy])
    have HX := Lib.hid (identV_text hx)
    have HY := Lib.hid (identV_text hy)
    have h1 := aheadT a
    have h2 := methT a
    clear hx hy
    go_enter Tryz.func307, Tryz.ntmps307
    go_wp2_with fail
    go_region_with (first | (go_at_call 279; (with_reducible refine (HA.out _).mono ?_); rw [HX.out]; rintro e w' ⟨rfl, rfl⟩) | (go_at_call 279; (with_reducible refine (HB.out _).mono ?_); rw [HY.out]; rintro e w' ⟨rfl, rfl⟩) | (go_at_call 344; (with_reducible refine (textCompareText _ _ _).mono ?_); rintro e w' ⟨rfl, rfl⟩))
    all_goals
      go_wp2_with fail
      go_ret
      exact ⟨ret_int HF.out.symm, 1, rfl⟩
end Go.Proofs.YtnodhkjgnegkcaaGreatDoor

namespace Go.Proofs.YtnodhkjgnegkcaaGreatDoor
open Go.RowKit

/-- Whether a bound takes the version of these numbers and identifiers. -/
def takes (b : Bd) (a0 a1 a2 : Int) (p : List (List UInt8)) : Bool :=
  if (readOk b.1 && decide (cmpVer a0 a1 a2 p (readA b.1 0) (readA b.1 1) (readA b.1 2) (readP b.1) < 0)) || (readOk b.2 && decide (0 ≤ cmpVer a0 a1 a2 p (readA b.2 0) (readA b.2 1) (readA b.2 2) (readP b.2))) then false
  else ((p.length : Int) == 0) || (decide (0 < (readP b.1).length) && ((readA b.1 0 == a0) && (readA b.1 1 == a1) && (readA b.1 2 == a2)))
theorem readP_Sm {l : List UInt8} (h : l.length ≤ 1048576) : Sm (readP l) := by
  unfold readP; split
  · exact tail_sm h
  · exact sm_nil
theorem cellsB {V : World} {B : Nat} {T : TypeId} {v0 v1 : Value} (h : V.heap[B]? = some (.cells #[v0, v1] T)) : V.cell? ⟨B, 0, none⟩ = some v0 ∧ V.cell? ⟨B, 1, none⟩ = some v1 := by
  simp [World.cell?, h]
theorem readP_no {l : List UInt8} (h : readOk l = false) : readP l = [] := by unfold readP; rw [h]; rfl

set_option maxRecDepth 100000 in
set_option maxHeartbeats 4000000 in
theorem l03Takes_any (x y : ByteArray) (a0 a1 a2 : Int) (vp : Value) (p : List (List UInt8)) (w : World) (hr : RdS w vp p) (hp : Sm p) (sx : x.size ≤ 1048576) (sy : y.size ≤ 1048576) :
    Calls Tryz.prog 139 #[.agg #[.string x, .string y], .agg #[.int .i64 a0, .int .i64 a1, .int .i64 a2, vp]] w fun e w' => e = .returned (.bool (takes (x.data.toList, y.data.toList) a0 a1 a2 p)) ∧ Below w.heap.size w w' := by
  have HP := Lib.hid hp
  have HR := Lib.hid (fun (W : World) (h : Below w.heap.size w W) => hr.below h)
  obtain ⟨pA, pc, rfl, _⟩ := hr
  have hpl := hp.1
  have hL5 := readP_sm x.data.toList
  have HSL : Hid (Sm (readP x.data.toList)) := Lib.hid (readP_Sm (by simpa using sx))
  have HSH : Hid (Sm (readP y.data.toList)) := Lib.hid (readP_Sm (by simpa using sy))
  clear hp
  obtain ⟨r, HRR⟩ : ∃ r, Hid (takes (x.data.toList, y.data.toList) a0 a1 a2 p = r) := ⟨_, Lib.hid rfl⟩
  rw [HRR.out]
  obtain ⟨okL, HOL⟩ : ∃ z, Hid (readOk x.data.toList = z) := ⟨_, Lib.hid rfl⟩
  obtain ⟨okH, HOH⟩ : ∃ z, Hid (readOk y.data.toList = z) := ⟨_, Lib.hid rfl⟩
  obtain ⟨cL, HCL⟩ : ∃ z, Hid (cmpVer a0 a1 a2 p (readA x.data.toList 0) (readA x.data.toList 1) (readA x.data.toList 2) (readP x.data.toList) = z) := ⟨_, Lib.hid rfl⟩
  obtain ⟨cH, HCH⟩ : ∃ z, Hid (cmpVer a0 a1 a2 p (readA y.data.toList 0) (readA y.data.toList 1) (readA y.data.toList 2) (readP y.data.toList) = z) := ⟨_, Lib.hid rfl⟩
  have HT : Hid (r = if (okL && decide (cL < 0)) || (okH && decide (0 ≤ cH)) then false else ((p.length : Int) == 0) || (decide (0 < (readP x.data.toList).length) && ((readA x.data.toList 0 == a0) && (readA x.data.toList 1 == a1) && (readA x.data.toList 2 == a2)))) := Lib.hid (by rw [← HRR.out, ← HOL.out, ← HOH.out, ← HCL.out, ← HCH.out]; rfl)
  have HN : Hid (okL = false → (readP x.data.toList).length = 0) := Lib.hid (fun h => by rw [readP_no (HOL.out.trans h)]; rfl)
  obtain ⟨m, HM⟩ : ∃ m, Hid ((readP x.data.toList).length = m) := ⟨_, Lib.hid rfl⟩
  obtain ⟨mh, HMH⟩ : ∃ m, Hid ((readP y.data.toList).length = m) := ⟨_, Lib.hid rfl⟩
  obtain ⟨l0, HL0⟩ : ∃ z, Hid (readA x.data.toList 0 = z) := ⟨_, Lib.hid rfl⟩
  obtain ⟨l1, HL1⟩ : ∃ z, Hid (readA x.data.toList 1 = z) := ⟨_, Lib.hid rfl⟩
  obtain ⟨l2, HL2⟩ : ∃ z, Hid (readA x.data.toList 2 = z) := ⟨_, Lib.hid rfl⟩
  obtain ⟨h0, HH0⟩ : ∃ z, Hid (readA y.data.toList 0 = z) := ⟨_, Lib.hid rfl⟩
  obtain ⟨h1, HH1⟩ : ∃ z, Hid (readA y.data.toList 1 = z) := ⟨_, Lib.hid rfl⟩
  obtain ⟨h2, HH2⟩ : ∃ z, Hid (readA y.data.toList 2 = z) := ⟨_, Lib.hid rfl⟩
  rw [HM.out] at hL5
  have HT2 : Hid (r = if (okL && decide (cL < 0)) || (okH && decide (0 ≤ cH)) then false else ((p.length : Int) == 0) || (decide (0 < m) && ((l0 == a0) && (l1 == a1) && (l2 == a2)))) := Lib.hid (by rw [HT.out, HM.out, HL0.out, HL1.out, HL2.out])
  have HN2 : Hid (okL = false → m = 0) := Lib.hid (fun h => by rw [← HM.out]; exact HN.out h)
  clear HT HN HRR
  have B0 : Below w.heap.size w ((w.alloc (.cells #[.string x, .string y] 166)).alloc (.cells #[.int .i64 a0, .int .i64 a1, .int .i64 a2, .slice pA p.length pc] 117)) := ((Below.refl _ _).alloc (Nat.le_refl _) _).alloc (by simp) _
  have b0 := keepA (heap_alloc_new w (.cells #[.string x, .string y] 166)) (.cells #[.int .i64 a0, .int .i64 a1, .int .i64 a2, .slice pA p.length pc] 117)
  have v0 := heap_new (W := w.alloc (.cells #[.string x, .string y] 166)) (n := w.heap.size + 1) (by simp) (.cells #[.int .i64 a0, .int .i64 a1, .int .i64 a2, .slice pA p.length pc] 117)
  go_enter Tryz.func139, Tryz.ntmps139
  go_wp2_with fail
  refine (specReadVersion_any _ _ sx).mono ?_
  rintro e w1 ⟨u, rfl, hu, hb1⟩
  obtain ⟨uA, uc, rfl⟩ := hu.slice
  rw [HOL.out, HL0.out, HL1.out, HL2.out, HM.out]
  have B1 := B0.trans (hb1.mono B0.size)
  have b1 := keepB b0 hb1
  have v1 := keepB v0 hb1
  have hRL : RdS w1 (.slice uA m uc) (readP x.data.toList) := by have := RdS.of_strs hu; rw [HM.out] at this; exact this
  have z1 : w.heap.size + 1 < w1.heap.size := lt_of_heap v1
  have B1' := B1.alloc B1.size (.cells #[.int .i64 l0, .int .i64 l1, .int .i64 l2, .slice uA m uc] 117)
  have b1' := keepA b1 (.cells #[.int .i64 l0, .int .i64 l1, .int .i64 l2, .slice uA m uc] 117)
  have v1' := keepA v1 (.cells #[.int .i64 l0, .int .i64 l1, .int .i64 l2, .slice uA m uc] 117)
  have l1' := heap_alloc_new w1 (.cells #[.int .i64 l0, .int .i64 l1, .int .i64 l2, .slice uA m uc] 117)
  have hRL' := rdS_alloc hRL (.cells #[.int .i64 l0, .int .i64 l1, .int .i64 l2, .slice uA m uc] 117)
  obtain ⟨s0, s1⟩ := cellsB b1'
  clear B0 b0 v0 hb1 hu B1 b1 v1 hRL
  go_wp2_with fail
  refine (specReadVersion_any _ _ sy).mono ?_
  rintro e w2 ⟨t, rfl, ht, hb2⟩
  obtain ⟨tA, tc, rfl⟩ := ht.slice
  rw [HOH.out, HH0.out, HH1.out, HH2.out, HMH.out]
  have B2 := B1'.trans (hb2.mono B1'.size)
  have v2 := keepA (keepB v1' hb2) (.cells #[.int .i64 h0, .int .i64 h1, .int .i64 h2, .slice tA mh tc] 117)
  have lw := keepA (keepB l1' hb2) (.cells #[.int .i64 h0, .int .i64 h1, .int .i64 h2, .slice tA mh tc] 117)
  have hh := heap_alloc_new w2 (.cells #[.int .i64 h0, .int .i64 h1, .int .i64 h2, .slice tA mh tc] 117)
  have hRL2 := rdS_alloc (hRL'.below hb2) (.cells #[.int .i64 h0, .int .i64 h1, .int .i64 h2, .slice tA mh tc] 117)
  have hRH2 : RdS _ (.slice tA mh tc) (readP y.data.toList) := rdS_alloc (by have := RdS.of_strs ht; rw [HMH.out] at this; exact this) (.cells #[.int .i64 h0, .int .i64 h1, .int .i64 h2, .slice tA mh tc] 117)
  have B2' := B2.alloc B2.size (.cells #[.int .i64 h0, .int .i64 h1, .int .i64 h2, .slice tA mh tc] 117)
  have hRV2 := HR.out _ B2'
  clear b1' v1' l1' hRL' s0 s1 hb2 ht B2 B1'
  have CL : ∀ (W : World), Below (w2.alloc (.cells #[.int .i64 h0, .int .i64 h1, .int .i64 h2, .slice tA mh tc] 117)).heap.size (w2.alloc (.cells #[.int .i64 h0, .int .i64 h1, .int .i64 h2, .slice tA mh tc] 117)) W → Calls Tryz.prog 188 #[.agg #[.int .i64 a0, .int .i64 a1, .int .i64 a2, .slice pA p.length pc], .agg #[.int .i64 l0, .int .i64 l1, .int .i64 l2, .slice uA m uc]] W fun e w' => e = .returned (.int .i64 cL) ∧ Below W.heap.size W w' := fun W hW => by
    have := specCompareVersion_any a0 a1 a2 l0 l1 l2 _ _ p _ W (hRV2.below hW) (hRL2.below hW) HP.out HSL.out
    rw [← HL0.out, ← HL1.out, ← HL2.out, HCL.out] at this
    rw [← HL0.out, ← HL1.out, ← HL2.out]
    exact this
  have CH : ∀ (W : World), Below (w2.alloc (.cells #[.int .i64 h0, .int .i64 h1, .int .i64 h2, .slice tA mh tc] 117)).heap.size (w2.alloc (.cells #[.int .i64 h0, .int .i64 h1, .int .i64 h2, .slice tA mh tc] 117)) W → Calls Tryz.prog 188 #[.agg #[.int .i64 a0, .int .i64 a1, .int .i64 a2, .slice pA p.length pc], .agg #[.int .i64 h0, .int .i64 h1, .int .i64 h2, .slice tA mh tc]] W fun e w' => e = .returned (.int .i64 cH) ∧ Below W.heap.size W w' := fun W hW => by
    have := specCompareVersion_any a0 a1 a2 h0 h1 h2 _ _ p _ W (hRV2.below hW) (hRH2.below hW) HP.out HSH.out
    rw [← HH0.out, ← HH1.out, ← HH2.out, HCH.out] at this
    rw [← HH0.out, ← HH1.out, ← HH2.out]
    exact this
  have HCLC := Lib.hid CL
  have HCHC := Lib.hid CH
  clear CL CH hRV2 hRL2 hRH2
  obtain ⟨x0, x1, x2, x3⟩ := cells4 v2
  obtain ⟨y0, y1, y2, y3⟩ := cells4 lw
  obtain ⟨z0, z1', z2, z3⟩ := cells4 hh
  clear HR HP HSL HSH HOL HOH HCL HCH HM HMH HL0 HL1 HL2 HH0 HH1 HH2 hL5
  cases okL
  · have m0 : m = 0 := HN2.out rfl
    cases okH
    · skip
      by_cases hpe : p.length = 0
      · have q0 : ((p.length : Int) == 0) = true := by simp [hpe]
        have HF : Hid (r = true) := Lib.hid (by rw [HT2.out]; simp [q0])
        clear hpe
        go_wp2_with fail
        go_ret
        exact ⟨ret_bool HF.out.symm, B2'⟩
      · have q0 : ((p.length : Int) == 0) = false := int_beq_false (by omega)
        have HF : Hid (r = false) := Lib.hid (by rw [HT2.out]; simp [q0, m0])
        clear hpe
        go_wp2_with fail
        go_ret
        exact ⟨ret_bool HF.out.symm, B2'⟩
    · go_wp2_with fail
      refine (HCHC.out _ (Below.refl _ _)).mono ?_
      rintro e w3 ⟨rfl, hb3⟩
      have B3 := B2'.trans (hb3.mono B2'.size)
      obtain ⟨x0', x1', x2', x3'⟩ := cells4 (keepB v2 hb3)
      obtain ⟨y0', y1', y2', y3'⟩ := cells4 (keepB lw hb3)
      clear x0 x1 x2 x3 y0 y1 y2 y3 z0 z1' z2 z3 hb3
      by_cases hcH : 0 ≤ cH
      · skip
        have HF : Hid (r = false) := Lib.hid (by rw [HT2.out]; simp [hcH])
        go_wp2_with fail
        go_ret
        exact ⟨ret_bool HF.out.symm, B3⟩
      · skip
        by_cases hpe : p.length = 0
        · have q0 : ((p.length : Int) == 0) = true := by simp [hpe]
          have HF : Hid (r = true) := Lib.hid (by rw [HT2.out]; simp [q0, hcH])
          clear hpe
          go_wp2_with fail
          go_ret
          exact ⟨ret_bool HF.out.symm, B3⟩
        · have q0 : ((p.length : Int) == 0) = false := int_beq_false (by omega)
          have HF : Hid (r = false) := Lib.hid (by rw [HT2.out]; simp [q0, m0, hcH])
          clear hpe
          go_wp2_with fail
          go_ret
          exact ⟨ret_bool HF.out.symm, B3⟩
  · go_wp2_with fail
    refine (HCLC.out _ (Below.refl _ _)).mono ?_
    rintro e w3 ⟨rfl, hb3⟩
    have B3 := B2'.trans (hb3.mono B2'.size)
    obtain ⟨x0', x1', x2', x3'⟩ := cells4 (keepB v2 hb3)
    obtain ⟨y0', y1', y2', y3'⟩ := cells4 (keepB lw hb3)
    obtain ⟨z0', z1'', z2', z3'⟩ := cells4 (keepB hh hb3)
    clear x0 x1 x2 x3 y0 y1 y2 y3 z0 z1' z2 z3
    by_cases hcL : cL < 0
    · skip
      have HF : Hid (r = false) := Lib.hid (by rw [HT2.out]; simp [hcL])
      go_wp2_with fail
      go_ret
      exact ⟨ret_bool HF.out.symm, B3⟩
    cases okH
    · skip
      by_cases hpe : p.length = 0
      · have q0 : ((p.length : Int) == 0) = true := by simp [hpe]
        have HF : Hid (r = true) := Lib.hid (by rw [HT2.out]; simp [q0, hcL])
        clear hpe
        go_wp2_with fail
        go_ret
        exact ⟨ret_bool HF.out.symm, B3⟩
      have q0 : ((p.length : Int) == 0) = false := int_beq_false (by omega)
      clear hpe
      by_cases hme : m = 0
      · have q1 : ¬ (0 : Int) < (m : Int) := by omega
        have HF : Hid (r = false) := Lib.hid (by rw [HT2.out]; simp [q0, hme, hcL])
        clear hme
        go_wp2_with fail
        go_ret
        exact ⟨ret_bool HF.out.symm, B3⟩
      have q1 : (0 : Int) < (m : Int) := by omega
      have q1' : 0 < m := by omega
      clear hme
      by_cases ha : ¬ l0 = a0
      · have q2 : (l0 == a0) = false := int_beq_false ha
        have HF : Hid (r = false) := Lib.hid (by rw [HT2.out]; simp [q0, q1', q2, hcL])
        clear ha
        go_wp2_with fail
        go_ret
        exact ⟨ret_bool HF.out.symm, B3⟩
      have q2 : (l0 == a0) = true := by rw [Decidable.not_not.1 ha]; simp
      clear ha
      by_cases hb : ¬ l1 = a1
      · have q3 : (l1 == a1) = false := int_beq_false hb
        have HF : Hid (r = false) := Lib.hid (by rw [HT2.out]; simp [q0, q1', q2, q3, hcL])
        clear hb
        go_wp2_with fail
        go_ret
        exact ⟨ret_bool HF.out.symm, B3⟩
      have q3 : (l1 == a1) = true := by rw [Decidable.not_not.1 hb]; simp
      clear hb
      by_cases hc : ¬ l2 = a2
      · have q4 : (l2 == a2) = false := int_beq_false hc
        have HF : Hid (r = false) := Lib.hid (by rw [HT2.out]; simp [q0, q1', q2, q3, q4, hcL])
        clear hc
        go_wp2_with fail
        go_ret
        exact ⟨ret_bool HF.out.symm, B3⟩
      have q4 : (l2 == a2) = true := by rw [Decidable.not_not.1 hc]; simp
      clear hc
      have HF : Hid (r = true) := Lib.hid (by rw [HT2.out]; simp [q0, q1', q2, q3, q4, hcL])
      go_wp2_with fail
      go_ret
      exact ⟨ret_bool HF.out.symm, B3⟩
    · go_wp2_with fail
      refine (HCHC.out _ hb3).mono ?_
      rintro e w4 ⟨rfl, hb4⟩
      have B4 := B3.trans (hb4.mono B3.size)
      obtain ⟨x0, x1, x2, x3⟩ := cells4 (keepB (keepB v2 hb3) hb4)
      obtain ⟨y0, y1, y2, y3⟩ := cells4 (keepB (keepB lw hb3) hb4)
      clear x0' x1' x2' x3' y0' y1' y2' y3' z0' z1'' z2' z3' hb3 hb4
      by_cases hcH : 0 ≤ cH
      · skip
        have HF : Hid (r = false) := Lib.hid (by rw [HT2.out]; simp [hcH])
        go_wp2_with fail
        go_ret
        exact ⟨ret_bool HF.out.symm, B4⟩
      · skip
        by_cases hpe : p.length = 0
        · have q0 : ((p.length : Int) == 0) = true := by simp [hpe]
          have HF : Hid (r = true) := Lib.hid (by rw [HT2.out]; simp [q0, hcL, hcH])
          clear hpe
          go_wp2_with fail
          go_ret
          exact ⟨ret_bool HF.out.symm, B4⟩
        have q0 : ((p.length : Int) == 0) = false := int_beq_false (by omega)
        clear hpe
        by_cases hme : m = 0
        · have q1 : ¬ (0 : Int) < (m : Int) := by omega
          have HF : Hid (r = false) := Lib.hid (by rw [HT2.out]; simp [q0, hme, hcH])
          clear hme
          go_wp2_with fail
          go_ret
          exact ⟨ret_bool HF.out.symm, B4⟩
        have q1 : (0 : Int) < (m : Int) := by omega
        have q1' : 0 < m := by omega
        clear hme
        by_cases ha : ¬ l0 = a0
        · have q2 : (l0 == a0) = false := int_beq_false ha
          have HF : Hid (r = false) := Lib.hid (by rw [HT2.out]; simp [q0, q1', q2, hcH])
          clear ha
          go_wp2_with fail
          go_ret
          exact ⟨ret_bool HF.out.symm, B4⟩
        have q2 : (l0 == a0) = true := by rw [Decidable.not_not.1 ha]; simp
        clear ha
        by_cases hb : ¬ l1 = a1
        · have q3 : (l1 == a1) = false := int_beq_false hb
          have HF : Hid (r = false) := Lib.hid (by rw [HT2.out]; simp [q0, q1', q2, q3, hcH])
          clear hb
          go_wp2_with fail
          go_ret
          exact ⟨ret_bool HF.out.symm, B4⟩
        have q3 : (l1 == a1) = true := by rw [Decidable.not_not.1 hb]; simp
        clear hb
        by_cases hc : ¬ l2 = a2
        · have q4 : (l2 == a2) = false := int_beq_false hc
          have HF : Hid (r = false) := Lib.hid (by rw [HT2.out]; simp [q0, q1', q2, q3, q4, hcH])
          clear hc
          go_wp2_with fail
          go_ret
          exact ⟨ret_bool HF.out.symm, B4⟩
        have q4 : (l2 == a2) = true := by rw [Decidable.not_not.1 hc]; simp
        clear hc
        have HF : Hid (r = true) := Lib.hid (by rw [HT2.out]; simp [q0, q1', q2, q3, q4, hcL, hcH])
        go_wp2_with fail
        go_ret
        exact ⟨ret_bool HF.out.symm, B4⟩
end Go.Proofs.YtnodhkjgnegkcaaGreatDoor
