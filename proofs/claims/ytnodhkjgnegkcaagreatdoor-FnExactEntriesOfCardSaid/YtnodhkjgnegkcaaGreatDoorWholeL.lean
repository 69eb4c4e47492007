/-
  The walk of the law FnExactEntriesOf.
-/
import Derived.Test.YtnodhkjgnegkcaaGreatDoorHeapC
import Derived.Test.YtnodhkjgnegkcaaGreatDoorSmD
import Derived.Test.YtnodhkjgnegkcaaGreatDoorWholeB
import Derived.Test.YtnodhkjgnegkcaaGreatDoorWholeJ
import Derived.Deep.RegionHeld3
import Derived.Test.YtnodhkjgnegkcaaGreatDoorGrw
import Derived.Maps.OwnSet
import Derived.Maps.OwnOps
import Derived.Test.YtnodhkjgnegkcaaGreatDoorWholeE
import Derived.Test.YtnodhkjgnegkcaaGreatDoorWholeK
import Derived.Deep.QuietTactic
import Derived.BigQuiet
import Derived.Test.YtnodhkjgnegkcaaGreatDoorWholeC
import Derived.Test.YtnodhkjgnegkcaaGreatDoorWholeA
import Derived.Test.YtnodhkjgnegkcaaGreatDoorWholeI
import Derived.RangeFuncNested
/-
  impl.copyTexts copies a list of texts.
-/
namespace Go.Proofs.YtnodhkjgnegkcaaGreatDoor
open Go.RowKit

theorem RdS.at {w : World} {A : Option Addr} {n cap : Nat} {ls : List (List UInt8)} (h : RdS w (.slice A n cap) ls) (k : Nat) (hk : k < ls.length) : ∃ g off, A = some ⟨g, off, none⟩ ∧ g < w.heap.size ∧ w.cell? ⟨g, off + k, none⟩ = some (.string ⟨ls[k].toArray⟩) := by
  obtain ⟨A', ca', hv, ha⟩ := h
  simp only [Value.slice.injEq] at hv
  obtain ⟨rfl, _, rfl⟩ := hv
  obtain ⟨g, off, hA, hg, hc⟩ := ha (by omega)
  exact ⟨g, off, hA, hg, hc k hk⟩

set_option maxRecDepth 100000 in
set_option maxHeartbeats 2000000 in
theorem copyTexts_any (v : Value) (ls : List (List UInt8)) (w : World) (hr : RdS w v ls) (hs : Sm ls) :
    Calls Tryz.prog 69 #[v] w fun e w' => ∃ u, e = .returned u ∧ Strs w' w.heap.size u ls ∧ Below w.heap.size w w' := by
  obtain ⟨i0, hi, hz0, hz1, hz2⟩ := info_parts strinfo
  have HR := Lib.hid hr
  have hl := hs.1
  have HS := Lib.hid hs.2
  obtain ⟨A, ca, rfl, _⟩ := hr
  clear hs
  go_enter Tryz.func69, Tryz.ntmps69
  go_wp2_with (at_make; refine wpList_make_own _ rfl _ _ 29 rfl w.heap.size 9 i0 (.string ⟨#[]⟩) 1 Tryz.underlying29 hi hz0 hz1 .i64 .i64 _ ls.length rfl rfl (by omega) (by rw [hz2]; omega) (by unfold maxLen; omega) (Nat.le_refl _) ?_; intro w1 hown1 hg1)
  have hb1 : Below w.heap.size w w1 := (Below.refl _ _).grown hg1 (Nat.le_refl _) (by simp)
  have hS1 : Strs w1 w.heap.size (.slice (some ⟨w.heap.size, 0, none⟩) 0 ls.length) [] := hown1
  clear hown1 hg1 hi hz0 hz1 hz2
  go_loopw [3, 5, 11] (fun u _ i wr => ∃ k : Nat, k ≤ ls.length ∧ i = .int .i64 k ∧ Strs wr w.heap.size u (ls.take k) ∧ Below w.heap.size w wr) (fun _ _ i _ => ls.length - (intOf i).toNat)
  case atStart => exact ⟨0, Nat.zero_le _, rfl, hS1, hb1⟩
  case round =>
    obtain ⟨k, hk, rfl, hO, hb⟩ := hrel
    clear hS1 hb1
    by_cases hlt : k < ls.length
    · obtain ⟨g, off, rfl, hg, d1⟩ := (HR.out.below hb).at k hlt
      have HK := Lib.hid (fun W => clone_any ⟨ls[k].toArray⟩ W (by rw [size_of]; exact HS.out _ (List.getElem_mem hlt)))
      have HN := Lib.hid (List.take_succ_eq_append_getElem hlt)
      have HOW := Lib.hid hO.owned
      have hws : w.heap.size ≤ wr.heap.size := hb.size
      have hll : Hid ((ls.take k).length + 1 ≤ 16777216) := Lib.hid (by simp; omega)
      have k0 : (0 : Int) ≤ (k : Int) := by omega
      have k1 : (k : Int) < (ls.length : Int) := by omega
      go_wp2_with (first
        | (go_at_call 115; (with_reducible refine (HK.out _).mono ?_); rintro e w2 ⟨rfl, hb2⟩; have S2 := hO.below hb2; have z2 : w.heap.size ≤ w2.heap.size := Nat.le_trans hws hb2.size)
        | (at_builtin; refine wpList_append_strs rfl _ _ rfl w.heap.size _ _ rfl (S2.alloc _) ls[k] w2.heap.size _ _ _ rfl (heap_alloc_new w2 _) hll.out (by simp; omega) ?_; intro g4 c4 w4 hS4 hb4))
      have B2 := hb.trans (hb2.mono hb.size)
      have B4 := (B2.alloc B2.size (.cells #[.string ⟨ls[k].toArray⟩] 9)).trans hb4
      go_roundw
      case rel => exact ⟨k + 1, by omega, by go_num, by rw [HN.out]; rw [List.length_take_of_le (by omega)] at hS4; exact hS4, B4⟩
      case measure => simp [intOf]; omega
    · rw [List.take_of_length_le (by omega)] at hO
      go_wp2_with fail
      go_ret
      exact ⟨_, rfl, hO, hb⟩
end Go.Proofs.YtnodhkjgnegkcaaGreatDoor

/-
  impl.distinct: whether no two texts of a list are alike (by a map from each to an index).
-/
namespace Go.Proofs.YtnodhkjgnegkcaaGreatDoor
open Go.RowKit Go.Maps

/-- The map after k texts. -/
def dstD (ls : List (List UInt8)) : Nat → DataW Unit
  | 0 => .map []
  | k + 1 => (dstD ls k).put (.string (ls.getD k [])) (.lit (.int .i64 (k : Int)))
theorem dstD_isMap (ls : List (List UInt8)) : ∀ k, Maps.IsMap (dstD ls k)
  | 0 => Maps.isMap_empty
  | k + 1 => (dstD_isMap ls k).put _ _
theorem dstD_tidy (ls : List (List UInt8)) : ∀ k, Maps.Tidy (dstD ls k)
  | 0 => Maps.tidy_empty
  | k + 1 => (dstD_tidy ls k).put (k := .string (ls.getD k [])) trivial _
theorem ls_getD {ls : List (List UInt8)} {k : Nat} (h : k < ls.length) : ls.getD k [] = ls[k] := by rw [List.getD_eq_getElem?_getD, List.getElem?_eq_getElem h]; rfl
theorem has_dstD (ls : List (List UInt8)) (key : List UInt8) : ∀ k, k ≤ ls.length → Maps.has (dstD ls k) (.string key) = decide (key ∈ ls.take k)
  | 0, _ => by simp; rfl
  | k + 1, h => by
    have ih := has_dstD ls key k (by omega)
    have hk : k < ls.length := by omega
    unfold dstD
    rw [ls_getD hk, List.take_succ_eq_append_getElem hk]
    by_cases e : ls[k] = key
    · rw [e, Maps.has_put_same (dstD_isMap ls k) (k := .string key) trivial]; simp
    · rw [Maps.has_put_other (fun x => e (by cases x; rfl)), ih]
      congr 1
      apply propext
      simp only [List.mem_append, List.mem_singleton]
      exact ⟨.inl, fun x => x.elim id (fun y => absurd y.symm e)⟩
theorem size_dstD (ls : List (List UInt8)) : ∀ k, k ≤ ls.length → Maps.size (dstD ls k) ≤ k ∧ (Maps.size (dstD ls k) = k ↔ (ls.take k).Nodup)
  | 0, _ => ⟨Nat.le_refl _, by simp; rfl⟩
  | k + 1, h => by
    obtain ⟨i1, i2⟩ := size_dstD ls k (by omega)
    have hk : k < ls.length := by omega
    have hh := has_dstD ls ls[k] k (by omega)
    have hs := Maps.size_put (k := .string (ls.getD k [])) (dstD_tidy ls k) (.lit (.int .i64 (k : Int)))
    have e1 : dstD ls (k + 1) = (dstD ls k).put (.string (ls.getD k [])) (.lit (.int .i64 (k : Int))) := rfl
    rw [e1, hs, ls_getD hk, hh, List.take_succ_eq_append_getElem hk]
    by_cases hm : ls[k] ∈ ls.take k
    · rw [if_pos (by simpa using hm)]
      refine ⟨by omega, ⟨fun e => by omega, fun hn => ?_⟩⟩
      rw [List.nodup_append] at hn
      exact absurd rfl (hn.2.2 _ hm _ (by simp))
    · rw [if_neg (by simpa using hm)]
      refine ⟨by omega, ?_⟩
      rw [List.nodup_append]
      constructor
      · intro e
        refine ⟨i2.1 (by omega), by simp, fun a ha b hb => ?_⟩
        simp at hb
        subst hb
        exact fun x => hm (x ▸ ha)
      · intro hn
        have := i2.2 hn.1
        omega
theorem strKey : Keyed Tryz.prog 9 := string_keyed Tryz.underlying9
theorem mapDone (w : World) (n : Int) : (Instr.makeMap 95 (some (.int .i64 n))).run Tryz.prog w = .ok (.map (some w.heap.size)) (w.alloc (.map #[] 0)) := by
  simp [Instr.makeMap, run_underlying Tryz.underlying95, asInt, asIntOf, Result.andThen]

set_option maxRecDepth 100000 in
set_option maxHeartbeats 2000000 in
theorem distinct_any (v : Value) (ls : List (List UInt8)) (w : World) (hr : RdS w v ls) (hn : ls.length ≤ 1048576) (hm : ∀ l ∈ ls, l.length ≤ 1048576) :
    Calls Tryz.prog 48 #[v] w fun e w' => e = .returned (.bool (decide ls.Nodup)) ∧ Below w.heap.size w w' := by
  have HR := Lib.hid hr
  have HM := Lib.hid hm
  obtain ⟨A, ca, rfl, _⟩ := hr
  have hmm := mapDone
  obtain ⟨r, HRR⟩ : ∃ r, Hid (decide ls.Nodup = r) := ⟨_, Lib.hid rfl⟩
  rw [HRR.out]
  clear hm
  have B0 : Below w.heap.size w (w.alloc (.map #[] 0)) := (Below.refl _ _).alloc (Nat.le_refl _) _
  have M0 : (w.alloc (.map #[] 0)).ownsMap Tryz.prog 9 (plainElem (H := Unit) Tryz.prog 3) w.heap.size 0 (dstD ls 0) := World.ownsMap_made (H := Unit) w Tryz.prog 9 (plainElem (H := Unit) Tryz.prog 3)
  go_enter Tryz.func48, Tryz.ntmps48
  go_wp2_with fail
  go_loopw [4, 5, 11] (fun _ _ i wr => ∃ k : Nat, k ≤ ls.length ∧ i = .int .i64 k ∧ wr.ownsMap Tryz.prog 9 (plainElem (H := Unit) Tryz.prog 3) w.heap.size k (dstD ls k) ∧ Below w.heap.size w wr) (fun _ _ i _ => ls.length - (intOf i).toNat)
  case atStart => exact ⟨0, Nat.zero_le _, rfl, M0, B0⟩
  case round =>
    obtain ⟨k, hk, rfl, hM, hb⟩ := hrel
    clear B0 M0
    by_cases hlt : k < ls.length
    · obtain ⟨g, off, rfl, hg, d1⟩ := (HR.out.below hb).at k hlt
      have HN : Hid (dstD ls (k + 1) = (dstD ls k).put (.string ls[k]) (.lit (.int .i64 (k : Int)))) := Lib.hid (by rw [← ls_getD hlt]; rfl)
      have hkl := HM.out ls[k] (List.getElem_mem hlt)
      have k0 : (0 : Int) ≤ (k : Int) := by omega
      have k1 : (k : Int) < (ls.length : Int) := by omega
      obtain ⟨key, HKE⟩ : ∃ key, Hid (ls[k] = key) := ⟨_, Lib.hid rfl⟩
      rw [HKE.out] at HN hkl d1
      have hkey : Go.keyOf Tryz.prog 9 (.string ⟨key.toArray⟩) = some (Lit.string key) := by
        have := WideMaps.keyOf_string_mk (P := Tryz.prog) Tryz.underlying9 (s := ⟨key.toArray⟩) (by show key.toArray.size ≤ maxLen; unfold maxLen; simp; omega)
        simpa using this
      go_wp2_with (first | (at_mapUpdate; refine wpList_mapUpdate_own _ rfl _ _ _ 95 rfl 9 3 strKey Tryz.underlying95 (plainElem (H := Unit) Tryz.prog 3) w.heap.size k _ rfl hM (by unfold maxLen; omega) _ _ _ rfl rfl hkey _ [] (plainElem_int Tryz.underlying3 (WalkArith.wf_i64 (by omega))) ?_; intro w2 M2 hg2) | go_in)
      have B2 := hb.grown hg2 hb.size (fun j hj => by cases hj; omega)
      rw [← HN.out] at M2
      go_roundw
      case rel => exact ⟨k + 1, by omega, by go_num, M2, B2⟩
      case measure => simp [intOf]; omega
    · obtain rfl : k = ls.length := by omega
      have hsz := size_dstD ls ls.length (Nat.le_refl _)
      rw [List.take_length] at hsz
      obtain ⟨z, HZ⟩ : ∃ z, Hid (Maps.size (dstD ls ls.length) = z) := ⟨_, Lib.hid rfl⟩
      rw [HZ.out] at hsz
      obtain ⟨hz1, hz2⟩ := hsz
      by_cases hzn : z = ls.length
      · have HX : Hid (r = true) := Lib.hid (by rw [← HRR.out]; exact decide_eq_true (hz2.1 hzn))
        have q1 : ((z : Int) == (ls.length : Int)) = true := by simp [hzn]
        clear hz2 hzn
        go_wp2_with (at_len; go_loud (refine wpList_len_own _ rfl _ 95 rfl 9 3 Tryz.underlying95 (plainElem (H := Unit) Tryz.prog 3) w.heap.size ls.length (dstD ls ls.length) rfl hM ?_; rw [HZ.out]))
        go_wp2_with fail
        go_ret
        exact ⟨ret_bool HX.out.symm, hb⟩
      · have HX : Hid (r = false) := Lib.hid (by rw [← HRR.out]; exact decide_eq_false (fun h => hzn (hz2.2 h)))
        have q1 : ((z : Int) == (ls.length : Int)) = false := int_beq_false (by omega)
        clear hz2
        go_wp2_with (at_len; go_loud (refine wpList_len_own _ rfl _ 95 rfl 9 3 Tryz.underlying95 (plainElem (H := Unit) Tryz.prog 3) w.heap.size ls.length (dstD ls ls.length) rfl hM ?_; rw [HZ.out]))
        go_wp2_with fail
        go_ret
        exact ⟨ret_bool HX.out.symm, hb⟩
end Go.Proofs.YtnodhkjgnegkcaaGreatDoor

/-
  A list of texts that reads: each of its cells.
-/
namespace Go.Proofs.YtnodhkjgnegkcaaGreatDoor
open Go.RowKit

theorem rdS_at {w : World} {A : Option Addr} {n cap : Nat} {ls : List (List UInt8)} (h : RdS w (.slice A n cap) ls) (k : Nat) (hk : k < ls.length) : ∃ g off, A = some ⟨g, off, none⟩ ∧ g < w.heap.size ∧ ∀ j (hj : j < ls.length), w.cell? ⟨g, off + j, none⟩ = some (.string ⟨ls[j].toArray⟩) := by
  obtain ⟨A', ca', hv, ha⟩ := h
  simp only [Value.slice.injEq] at hv
  obtain ⟨rfl, _, rfl⟩ := hv
  obtain ⟨g, off, hA, hg, hc⟩ := ha (by omega)
  exact ⟨g, off, hA, hg, fun j hj => hc j hj⟩
end Go.Proofs.YtnodhkjgnegkcaaGreatDoor

/-
  spec.l04Keys: whether texts are ascending, and each one of a graph's keys.
-/
namespace Go.Proofs.YtnodhkjgnegkcaaGreatDoor
open Go.RowKit

set_option maxRecDepth 100000 in
set_option maxHeartbeats 2000000 in
theorem l04Keys_any (T : Option Addr) (tn tc : Nat) (vp vl : Value) (ps : List Pk) (ls : List (List UInt8)) (w : World) (hp : RdPs w vp ps) (hs : SmPs ps) (hl : RdS w vl ls) (hll : ls.length ≤ 1048576) :
    Calls Tryz.prog 104 #[.agg #[.slice T tn tc, vp], vl] w fun e w' => e = .returned (.bool (keysOkL ps ls)) ∧ Below w.heap.size w w' := by
  have HF := Lib.hid (fun (W : World) (h : Below w.heap.size w W) (key : List UInt8) => specFind_any T tn tc vp ps key W (hp.below h) hs)
  have HR := Lib.hid hl
  obtain ⟨P, cp, rfl, _⟩ := hp
  obtain ⟨A, ca, rfl, _⟩ := hl
  obtain ⟨r, HRR⟩ : ∃ r, Hid (keysOkL ps ls = r) := ⟨_, Lib.hid rfl⟩
  rw [HRR.out]
  have B0 : Below w.heap.size w (w.alloc (.cells #[.slice T tn tc, .slice P ps.length cp] 37)) := (Below.refl _ _).alloc (Nat.le_refl _) _
  have b0 := heap_alloc_new w (.cells #[.slice T tn tc, .slice P ps.length cp] 37)
  clear hs
  go_enter Tryz.func104, Tryz.ntmps104
  go_wp2_with fail
  go_loopw [5] (fun i wr => ∃ k : Nat, k ≤ ls.length ∧ i = .int .i64 k ∧ Hid (allTo (keyAtB ps ls) k = true) ∧ Below w.heap.size w wr ∧ wr.heap[w.heap.size]? = some (.cells #[.slice T tn tc, .slice P ps.length cp] 37)) (fun i _ => ls.length - (intOf i).toNat)
  case atStart => exact ⟨0, Nat.zero_le _, rfl, Lib.hid rfl, B0, b0⟩
  case round =>
    obtain ⟨k, hk, rfl, HT, hb, hbox⟩ := hrel
    obtain ⟨x0, x1⟩ := cellsG hbox
    clear B0 b0
    by_cases hlt : k < ls.length
    · obtain ⟨g, off, rfl, hg, hc⟩ := rdS_at (HR.out.below hb) k hlt
      have d1 := hc k hlt
      have k0 : (0 : Int) ≤ (k : Int) := by omega
      have k1 : (k : Int) < (ls.length : Int) := by omega
      have HFK := Lib.hid (fun (W : World) (h : Below w.heap.size w W) => HF.out W h ls[k])
      have HQ := Lib.hid (fun (h : keyAtB ps ls k = false) => (show r = false by rw [← HRR.out]; exact allTo_bad hlt h))
      have HTT := Lib.hid (fun (h : keyAtB ps ls k = true) => allTo_step HT.out h)
      have HZ0 := Lib.hid (fun (h : k = 0) => (show keyAtB ps ls k = decide (0 ≤ findP ps ls[k]) by subst h; exact keyAtB_zero hlt))
      have HZ1 := Lib.hid (fun (j : Nat) (h : k = j + 1) => (show keyAtB ps ls k = (decide (0 ≤ findP ps ls[k]) && Op.bytesLess (ls[j]'(by omega)) ls[k]) by subst h; exact keyAtB_more hlt))
      obtain ⟨f, HFF⟩ : ∃ f, Hid (findP ps ls[k] = f) := ⟨_, Lib.hid rfl⟩
      simp only [HFF.out] at HFK HZ0 HZ1
      obtain ⟨cur, HCU⟩ : ∃ cur, Hid (ls[k] = cur) := ⟨_, Lib.hid rfl⟩
      simp only [HCU.out] at HFK HZ1 d1
      have HBX := Lib.hid hbox
      have z0 := fut_cell x0
      have z1 := fut_cell x1
      have z2 := fut_cell d1
      by_cases hf : f < 0
      · have qf : decide (f < 0) = true := decide_eq_true hf
        have HX : Hid (r = false) := Lib.hid (HQ.out (by
          by_cases hz : k = 0
          · rw [HZ0.out hz]; exact decide_eq_false (by omega)
          · rw [HZ1.out (k - 1) (by omega), decide_eq_false (by omega)]; rfl))
        clear HQ HTT HZ0 HZ1 hc hbox
        go_wp2_with fail
        refine wp_region_fut (by kernel_rfl) (by kernel_rfl) ?_
        repeat (first | go_big_quiet_skip | (go_big_quiet_want; go_big_quiet_op; first | go_big_quiet_on | go_big_quiet_call ((go_at_call 59; exact fut_call (HFK.out _ (hb.trans (Below.mono (Fut.bel _) hb.size)))))))
        refine wpQuiet_nil ?_
        rintro _ ⟨⟨w1, hb1⟩, rfl⟩
        have B1 := hb.trans (hb1.mono hb.size)
        go_wp2_with fail
        go_ret
        exact ⟨ret_bool HX.out.symm, B1⟩
      · have qf : decide (f < 0) = false := decide_eq_false hf
        by_cases hz : k = 0
        · have HN2 := Lib.hid (HTT.out (by rw [HZ0.out hz]; exact decide_eq_true (by omega)))
          have g0 : ¬ (0 : Int) < (k : Int) := by omega
          have g1 : decide (0 < k) = false := by simp; omega
          clear hz HQ HTT HZ0 HZ1 hc hbox
          go_wp2_with fail
          refine wp_region_fut (by kernel_rfl) (by kernel_rfl) ?_
          repeat (first | go_big_quiet_skip | (go_big_quiet_want; go_big_quiet_op; first | go_big_quiet_on | go_big_quiet_call ((go_at_call 59; exact fut_call (HFK.out _ (hb.trans (Below.mono (Fut.bel _) hb.size)))))))
          refine wpQuiet_nil ?_
          rintro _ ⟨⟨w1, hb1⟩, rfl⟩
          have B1 := hb.trans (hb1.mono hb.size)
          have b1 := keepB HBX.out hb1
          go_wp2_with fail
          go_roundw
          case rel => exact ⟨k + 1, by omega, by go_num, HN2, B1, b1⟩
          case measure => simp [intOf]; omega
        · obtain ⟨j, hj⟩ : ∃ j, k = j + 1 := ⟨k - 1, by omega⟩
          have HZ2 := Lib.hid (HZ1.out j hj)
          have hjl : j < ls.length := by omega
          have e1 := hc j hjl
          have jw : IntKind.i64.wrap ((k : Int) - 1) = (j : Int) := by rw [show (k : Int) - 1 = (j : Int) by omega]; exact IntWalk.i64_in _ (by omega)
          have g0 : (0 : Int) < (k : Int) := by omega
          have g1 : decide (0 < k) = true := by simp; omega
          have j0 : (0 : Int) ≤ (j : Int) := by omega
          have j1 : (j : Int) < (ls.length : Int) := by omega
          obtain ⟨pr, HPR⟩ : ∃ pr, Hid (ls[j] = pr) := ⟨_, Lib.hid rfl⟩
          rw [HPR.out] at e1 HZ2
          have z3 := fut_cell e1
          cases hl : Op.bytesLess pr cur with
          | true =>
            have HN2 := Lib.hid (HTT.out (by rw [HZ2.out, hl, decide_eq_true (by omega)]; rfl))
            clear hz HQ HTT HZ0 HZ1 HZ2 hc hbox hj
            go_wp2_with fail
            refine wp_region_fut (by kernel_rfl) (by kernel_rfl) ?_
            repeat (first | go_big_quiet_skip | (go_big_quiet_want; go_big_quiet_op; first | go_big_quiet_on | go_big_quiet_call ((go_at_call 59; exact fut_call (HFK.out _ (hb.trans (Below.mono (Fut.bel _) hb.size)))))))
            refine wpQuiet_nil ?_
            rintro _ ⟨⟨w1, hb1⟩, rfl⟩
            have B1 := hb.trans (hb1.mono hb.size)
            have b1 := keepB HBX.out hb1
            go_wp2_with fail
            go_roundw
            case rel => exact ⟨k + 1, by omega, by go_num, HN2, B1, b1⟩
            case measure => simp [intOf]; omega
          | false =>
            have HX := Lib.hid (HQ.out (by rw [HZ2.out, hl, Bool.and_false]))
            clear hz HQ HTT HZ0 HZ1 HZ2 hc hbox hj
            go_wp2_with fail
            refine wp_region_fut (by kernel_rfl) (by kernel_rfl) ?_
            repeat (first | go_big_quiet_skip | (go_big_quiet_want; go_big_quiet_op; first | go_big_quiet_on | go_big_quiet_call ((go_at_call 59; exact fut_call (HFK.out _ (hb.trans (Below.mono (Fut.bel _) hb.size)))))))
            refine wpQuiet_nil ?_
            rintro _ ⟨⟨w1, hb1⟩, rfl⟩
            have B1 := hb.trans (hb1.mono hb.size)
            go_wp2_with fail
            go_ret
            exact ⟨ret_bool HX.out.symm, B1⟩
    · have HX : Hid (r = true) := Lib.hid (by rw [← HRR.out]; have := HT.out; rw [show k = ls.length by omega] at this; exact this)
      go_wp2_with fail
      go_ret
      exact ⟨ret_bool HX.out.symm, hb⟩
end Go.Proofs.YtnodhkjgnegkcaaGreatDoor

/-
  spec.GraphOk: whether a graph is right.
-/
namespace Go.Proofs.YtnodhkjgnegkcaaGreatDoor
open Go.RowKit

/-- What is asked of the k-th pack. -/
def allAt (ps : List Pk) (k : Nat) : Bool := pkAtB ps k && ndAt ps k
theorem grOk_all (ts : List (List UInt8)) (ps : List Pk) : grOk ts ps = (allTo (allAt ps) ps.length && (decide (ps.length ≤ 40) && keysOkL ps ts)) := rfl
theorem allAt_zero {ps : List Pk} (h : 0 < ps.length) : allAt ps 0 = (pkOk ps[0] && keysOkL ps ps[0].needs) := by
  unfold allAt pkAtB ndAt; rw [ps_at h, upAt_zero, Bool.and_true]
theorem allAt_more {ps : List Pk} {k : Nat} (h : k + 1 < ps.length) : allAt ps (k + 1) = ((pkOk ps[k + 1] && Op.bytesLess (keyOf (ps[k]'(by omega))) (keyOf ps[k + 1])) && keysOkL ps ps[k + 1].needs) := by
  unfold allAt pkAtB ndAt; rw [ps_at h, upAt_more h]
theorem allAt_bad {ps : List Pk} {k : Nat} (h : k < ps.length) (hb : pkOk ps[k] = false ∨ keysOkL ps ps[k].needs = false) : allAt ps k = false := by
  unfold allAt pkAtB ndAt; rw [ps_at h]
  rcases hb with hb | hb
  · rw [hb]; rfl
  · rw [hb, Bool.and_false]

set_option maxRecDepth 100000 in
set_option maxHeartbeats 4000000 in
theorem specGraphOk_any (vt vp : Value) (ts : List (List UInt8)) (ps : List Pk) (w : World) (ht : RdS w vt ts) (hp : RdPs w vp ps) (hs : SmG ts ps) :
    Calls Tryz.prog 51 #[.agg #[vt, vp]] w fun e w' => e = .returned (.bool (grOk ts ps)) ∧ Below w.heap.size w w' := by
  have HSP := Lib.hid hs.2
  have htl : ts.length ≤ 1048576 := by have := hs.1; omega
  have hn : ps.length ≤ 1048576 := by have := hs.2; unfold SmPs at this; omega
  have HR := Lib.hid hp
  obtain ⟨T, tc, rfl⟩ := ht.slice
  have HKT := Lib.hid (fun (W : World) (h : Below w.heap.size w W) => l04Keys_any T ts.length tc vp (.slice T ts.length tc) ps ts W (hp.below h) hs.2 (ht.below h) htl)
  have HKN := Lib.hid (fun (W : World) (h : Below w.heap.size w W) (v : Value) (ls : List (List UInt8)) (h2 : RdS W v ls) (h3 : ls.length ≤ 1048576) => l04Keys_any T ts.length tc vp v ps ls W (hp.below h) hs.2 h2 h3)
  obtain ⟨A, ca, rfl, _⟩ := hp
  obtain ⟨r, HRR⟩ : ∃ r, Hid (grOk ts ps = r) := ⟨_, Lib.hid rfl⟩
  rw [HRR.out]
  obtain ⟨kt, HKTT⟩ : ∃ kt, Hid (keysOkL ps ts = kt) := ⟨_, Lib.hid rfl⟩
  have HEND : Hid (allTo (allAt ps) ps.length = true → r = (decide (ps.length ≤ 40) && kt)) := Lib.hid (fun h => by rw [← HRR.out, grOk_all, h, HKTT.out]; rfl)
  simp only [HKTT.out] at HKT
  have B0 : Below w.heap.size w (w.alloc (.cells #[.slice T ts.length tc, .slice A ps.length ca] 37)) := (Below.refl _ _).alloc (Nat.le_refl _) _
  have b0 := heap_alloc_new w (.cells #[.slice T ts.length tc, .slice A ps.length ca] 37)
  clear ht hs
  go_enter Tryz.func51, Tryz.ntmps51
  go_wp2_with fail
  go_loopw [3] (fun i wr => ∃ k : Nat, k ≤ ps.length ∧ i = .int .i64 k ∧ Hid (allTo (allAt ps) k = true) ∧ Below w.heap.size w wr ∧ wr.heap[w.heap.size]? = some (.cells #[.slice T ts.length tc, .slice A ps.length ca] 37)) (fun i _ => ps.length - (intOf i).toNat)
  case atStart => exact ⟨0, Nat.zero_le _, rfl, Lib.hid rfl, B0, b0⟩
  case round =>
    obtain ⟨k, hk, rfl, HT, hb, hbox⟩ := hrel
    obtain ⟨x0, x1⟩ := cellsG hbox
    have z0 := fut_cell x0
    have z1 := fut_cell x1
    clear B0 b0
    by_cases hlt : k < ps.length
    · have HRW := Lib.hid (HR.out.below hb)
      obtain ⟨g, off, rfl, hg, a, b, d0, d1, d2, d3, d4, d5, ra, rb⟩ := HRW.out.at k hlt
      have HPK := Lib.hid (fun (F : Fut wr) => specPackOk_any ps[k] a b F.out (ra.below F.bel) (rb.below F.bel) (HSP.out.get k hlt))
      have hnl : ps[k].needs.length ≤ 1048576 := by have := (HSP.out.get k hlt).needs; omega
      have HND := Lib.hid (fun (F : Fut wr) => HKN.out F.out (hb.trans (F.bel.mono hb.size)) b ps[k].needs (rb.below F.bel) hnl)
      have HKO := Lib.hid (fun (F : Fut wr) => specKeyOf_any ps[k] a b F.out (ra.below F.bel) (rb.below F.bel) (HSP.out.get k hlt))
      have k0 : (0 : Int) ≤ (k : Int) := by omega
      have k1 : (k : Int) < (ps.length : Int) := by omega
      have HQ := Lib.hid (fun (h : allAt ps k = false) => (show r = false by rw [← HRR.out, grOk_all, allTo_bad hlt h]; rfl))
      have HTT := Lib.hid (fun (h : allAt ps k = true) => allTo_step HT.out h)
      have HB := Lib.hid (fun h => HQ.out (allAt_bad hlt h))
      have HZ0 := Lib.hid (fun (h : k = 0) => (show allAt ps k = (pkOk ps[k] && keysOkL ps ps[k].needs) by subst h; exact allAt_zero hlt))
      have HZ1 := Lib.hid (fun (j : Nat) (h : k = j + 1) => (show allAt ps k = ((pkOk ps[k] && Op.bytesLess (keyOf (ps[j]'(by omega))) (keyOf ps[k])) && keysOkL ps ps[k].needs) by subst h; exact allAt_more hlt))
      obtain ⟨A1, c1, rfl⟩ := ra.slice
      obtain ⟨A2, c2, rfl⟩ := rb.slice
      have y0 := fut_cell d0
      have y1 := fut_cell d1
      have y2 := fut_cell d2
      have y3 := fut_cell d3
      have y4 := fut_cell d4
      have y5 := fut_cell d5
      obtain ⟨pk, HPKK⟩ : ∃ pk, Hid (pkOk ps[k] = pk) := ⟨_, Lib.hid rfl⟩
      obtain ⟨nd, HNDD⟩ : ∃ nd, Hid (keysOkL ps ps[k].needs = nd) := ⟨_, Lib.hid rfl⟩
      simp only [HPKK.out] at HPK HZ0 HZ1 HB
      simp only [HNDD.out] at HND HZ0 HZ1 HB
      have HBX := Lib.hid hbox
      clear ra rb hbox
      cases pk with
      | false =>
        have HX : Hid (r = false) := Lib.hid (HB.out (.inl rfl))
        clear HQ HTT HZ0 HZ1 HB
        go_wp2_with fail
        refine wp_region_fut (by kernel_rfl) (by kernel_rfl) ?_
        repeat (first | go_big_quiet_skip | (go_big_quiet_want; go_big_quiet_op; first | go_big_quiet_on | go_big_quiet_call ((go_at_call 103; exact fut_call (HPK.out _)))))
        refine wpQuiet_nil ?_
        rintro _ ⟨⟨w1, hb1⟩, rfl⟩
        go_wp2_with fail
        go_ret
        exact ⟨ret_bool HX.out.symm, hb.trans (hb1.mono hb.size)⟩
      | true =>
        cases nd with
        | false =>
          have HX : Hid (r = false) := Lib.hid (HB.out (.inr rfl))
          clear HQ HTT HZ0 HZ1 HB
          go_wp2_with fail
          refine wp_region_fut (by kernel_rfl) (by kernel_rfl) ?_
          repeat (first | go_big_quiet_skip | (go_big_quiet_want; go_big_quiet_op; first | go_big_quiet_on | go_big_quiet_call (first | (go_at_call 103; exact fut_call (HPK.out _)) | (go_at_call 104; exact fut_call (HND.out _)))))
          refine wpQuiet_nil ?_
          rintro _ ⟨⟨w1, hb1⟩, rfl⟩
          go_wp2_with fail
          go_ret
          exact ⟨ret_bool HX.out.symm, hb.trans (hb1.mono hb.size)⟩
        | true =>
          by_cases hz : k = 0
          · have HN2 := Lib.hid (HTT.out (by rw [HZ0.out hz]; rfl))
            have g1 : decide ((0 : Int) < (k : Int)) = false := by simp; omega
            have g2 : decide (0 < k) = false := by simp; omega
            clear hz HQ HTT HZ0 HZ1 HB
            go_wp2_with fail
            refine wp_region_fut (by kernel_rfl) (by kernel_rfl) ?_
            repeat (first | go_big_quiet_skip | (go_big_quiet_want; go_big_quiet_op; first | go_big_quiet_on | go_big_quiet_call (first | (go_at_call 103; exact fut_call (HPK.out _)) | (go_at_call 104; exact fut_call (HND.out _)))))
            refine wpQuiet_nil ?_
            rintro _ ⟨⟨w1, hb1⟩, rfl⟩
            have B1 := hb.trans (hb1.mono hb.size)
            have b1 := keepB HBX.out hb1
            go_wp2_with fail
            go_roundw
            case rel => exact ⟨k + 1, by omega, by go_num, HN2, B1, b1⟩
            case measure => simp [intOf]; omega
          · obtain ⟨j, hj⟩ : ∃ j, k = j + 1 := ⟨k - 1, by omega⟩
            have HZ2 := Lib.hid (HZ1.out j hj)
            have hjl : j < ps.length := by omega
            obtain ⟨g', off', hge, _, a', b', e0, e1, e2, e3, e4, e5, ra', rb'⟩ := HRW.out.at j hjl
            simp only [Option.some.injEq, Addr.mk.injEq, and_true] at hge
            obtain ⟨rfl, rfl⟩ := hge
            have HKJ := Lib.hid (fun (F : Fut wr) => specKeyOf_any ps[j] a' b' F.out (ra'.below F.bel) (rb'.below F.bel) (HSP.out.get j hjl))
            obtain ⟨A3, c3, rfl⟩ := ra'.slice
            obtain ⟨A4, c4, rfl⟩ := rb'.slice
            have u0 := fut_cell e0
            have u1 := fut_cell e1
            have u2 := fut_cell e2
            have u3 := fut_cell e3
            have u4 := fut_cell e4
            have u5 := fut_cell e5
            have jw : IntKind.i64.wrap ((k : Int) - 1) = (j : Int) := by rw [show (k : Int) - 1 = (j : Int) by omega]; exact IntWalk.i64_in _ (by omega)
            have g0 : (0 : Int) < (k : Int) := by omega
            have g1 : decide (0 < k) = true := by simp; omega
            have j0 : (0 : Int) ≤ (j : Int) := by omega
            have j1 : (j : Int) < (ps.length : Int) := by omega
            obtain ⟨pr, HPR⟩ : ∃ pr, Hid (keyOf ps[j] = pr) := ⟨_, Lib.hid rfl⟩
            obtain ⟨cu, HCU⟩ : ∃ cu, Hid (keyOf ps[k] = cu) := ⟨_, Lib.hid rfl⟩
            simp only [HPR.out] at HKJ HZ2
            simp only [HCU.out] at HKO HZ2
            clear ra' rb' HB
            cases hl : Op.bytesLess pr cu with
            | true =>
              have HN2 := Lib.hid (HTT.out (by rw [HZ2.out, hl]; rfl))
              clear hz HQ HTT HZ0 HZ1 HZ2 hj
              go_wp2_with fail
              refine wp_region_fut (by kernel_rfl) (by kernel_rfl) ?_
              repeat (first | go_big_quiet_skip | (go_big_quiet_want; go_big_quiet_op; first | go_big_quiet_on | go_big_quiet_call (first | (go_at_call 103; exact fut_call (HPK.out _)) | (go_at_call 104; exact fut_call (HND.out _)) | (go_at_call 73; exact fut_call (HKJ.out _)) | (go_at_call 73; exact fut_call (HKO.out _)))))
              refine wpQuiet_nil ?_
              rintro _ ⟨⟨w1, hb1⟩, rfl⟩
              have B1 := hb.trans (hb1.mono hb.size)
              have b1 := keepB HBX.out hb1
              go_wp2_with fail
              go_roundw
              case rel => exact ⟨k + 1, by omega, by go_num, HN2, B1, b1⟩
              case measure => simp [intOf]; omega
            | false =>
              have HX := Lib.hid (HQ.out (by rw [HZ2.out, hl]; rfl))
              clear hz HQ HTT HZ0 HZ1 HZ2 hj
              go_wp2_with fail
              refine wp_region_fut (by kernel_rfl) (by kernel_rfl) ?_
              repeat (first | go_big_quiet_skip | (go_big_quiet_want; go_big_quiet_op; first | go_big_quiet_on | go_big_quiet_call (first | (go_at_call 103; exact fut_call (HPK.out _)) | (go_at_call 104; exact fut_call (HND.out _)) | (go_at_call 73; exact fut_call (HKJ.out _)) | (go_at_call 73; exact fut_call (HKO.out _)))))
              refine wpQuiet_nil ?_
              rintro _ ⟨⟨w1, hb1⟩, rfl⟩
              go_wp2_with fail
              go_ret
              exact ⟨ret_bool HX.out.symm, hb.trans (hb1.mono hb.size)⟩
    · have HXE : Hid (r = (decide (ps.length ≤ 40) && kt)) := Lib.hid (HEND.out (by have := HT.out; rw [show k = ps.length by omega] at this; exact this))
      by_cases h40 : ps.length ≤ 40
      · have HX : Hid (r = kt) := Lib.hid (by rw [HXE.out, decide_eq_true h40]; rfl)
        have q1 : (ps.length : Int) ≤ 40 := by omega
        go_wp2_with fail
        refine (HKT.out _ hb).mono ?_
        rintro e w1 ⟨rfl, hb1⟩
        go_wp2_with fail
        go_ret
        exact ⟨ret_bool HX.out.symm, hb.trans (hb1.mono hb.size)⟩
      · have HX : Hid (r = false) := Lib.hid (by rw [HXE.out, decide_eq_false h40]; rfl)
        have q1 : ¬ (ps.length : Int) ≤ 40 := by omega
        go_wp2_with fail
        go_ret
        exact ⟨ret_bool HX.out.symm, hb⟩
end Go.Proofs.YtnodhkjgnegkcaaGreatDoor

/-
  impl.indexOf, a map from each pack's key to its index; impl.keysOk asks it.
-/
namespace Go.Proofs.YtnodhkjgnegkcaaGreatDoor
open Go.RowKit Go.Maps

/-- The map from keys to indexes, after k packs. -/
def idxD (ps : List Pk) : Nat → DataW Unit
  | 0 => .map []
  | k + 1 => (idxD ps k).put (.string (keyOf (ps.getD k default))) (.lit (.int .i64 (k : Int)))
theorem idxD_isMap (ps : List Pk) : ∀ k, Maps.IsMap (idxD ps k)
  | 0 => Maps.isMap_empty
  | k + 1 => (idxD_isMap ps k).put _ _
theorem has_idxD (ps : List Pk) (key : List UInt8) : ∀ k, Maps.has (idxD ps k) (.string key) = decide (∃ j, j < k ∧ keyOf (ps.getD j default) = key)
  | 0 => by
    rw [decide_eq_false (by rintro ⟨j, h, _⟩; omega)]; rfl
  | k + 1 => by
    unfold idxD
    by_cases h : keyOf (ps.getD k default) = key
    · rw [h, Maps.has_put_same (idxD_isMap ps k) (k := .string key) trivial, decide_eq_true ⟨k, by omega, h⟩]
    · rw [Maps.has_put_other (fun e => h (by cases e; rfl)), has_idxD ps key k]
      congr 1
      apply propext
      constructor
      · rintro ⟨j, hj, e⟩; exact ⟨j, by omega, e⟩
      · rintro ⟨j, hj, e⟩
        by_cases e2 : j = k
        · subst e2; exact absurd e h
        · exact ⟨j, by omega, e⟩
theorem has_all (ps : List Pk) (key : List UInt8) : Maps.has (idxD ps ps.length) (.string key) = decide (0 ≤ findP ps key) := by
  rw [has_idxD]
  congr 1
  apply propext
  rw [findP_mem, List.mem_map]
  constructor
  · rintro ⟨j, hj, e⟩; rw [ps_at hj] at e; exact ⟨ps[j], List.getElem_mem hj, e⟩
  · rintro ⟨p, hp, e⟩
    obtain ⟨j, hj, rfl⟩ := List.mem_iff_getElem.1 hp
    exact ⟨j, hj, by rw [ps_at hj]; exact e⟩
/-- Block B is the map from keys to indexes. -/
def IdxOf (w : World) (B : Nat) (ps : List Pk) : Prop := w.ownsMap Tryz.prog 9 (plainElem Tryz.prog 3) B ps.length (idxD ps ps.length)
theorem IdxOf.below {w w' : World} {B : Nat} {ps : List Pk} (h : IdxOf w B ps) (hb : Below w.heap.size w w') : IdxOf w' B ps := World.ownsMap.kept h (gr_below (row := none) hb) (by simp)
theorem strLaw : Keyed Tryz.prog 9 := string_keyed Tryz.underlying9
theorem zeroInt (w : World) : (zeroValue 3).run Tryz.prog w = .ok (.int .i64 0) w := by kernel_rfl
theorem mapMade (w : World) (n : Int) : (Instr.makeMap 95 (some (.int .i64 n))).run Tryz.prog w = .ok (.map (some w.heap.size)) (w.alloc (.map #[] 0)) := by
  simp [Instr.makeMap, run_underlying Tryz.underlying95, asInt, asIntOf, Result.andThen]

set_option maxRecDepth 100000 in
set_option maxHeartbeats 2000000 in
theorem indexOf_any (T : Option Addr) (tn tc : Nat) (vp : Value) (ps : List Pk) (w : World) (hp : RdPs w vp ps) (hs : SmPs ps) :
    Calls Tryz.prog 76 #[.agg #[.slice T tn tc, vp]] w fun e w' => ∃ B, e = .returned (.map (some B)) ∧ w.heap.size ≤ B ∧ IdxOf w' B ps ∧ Below w.heap.size w w' := by
  have HR := Lib.hid hp
  have HS := Lib.hid hs
  have hn : ps.length ≤ 1048576 := by unfold SmPs at hs; omega
  obtain ⟨A, ca, rfl, _⟩ := hp
  clear hs
  have hmm := mapMade
  have B0 : Below w.heap.size w ((w.alloc (.cells #[.slice T tn tc, .slice A ps.length ca] 37)).alloc (.map #[] 0)) := ((Below.refl _ _).alloc (Nat.le_refl _) _).alloc (by simp) _
  have M0 : ((w.alloc (.cells #[.slice T tn tc, .slice A ps.length ca] 37)).alloc (.map #[] 0)).ownsMap Tryz.prog 9 (plainElem (H := Unit) Tryz.prog 3) (w.heap.size + 1) 0 (idxD ps 0) := by
    have := World.ownsMap_made (H := Unit) (w.alloc (.cells #[.slice T tn tc, .slice A ps.length ca] 37)) Tryz.prog 9 (plainElem (H := Unit) Tryz.prog 3)
    have e : (w.alloc (.cells #[.slice T tn tc, .slice A ps.length ca] 37)).heap.size = w.heap.size + 1 := by simp
    rw [e] at this
    exact this
  have b0 := keepA (heap_alloc_new w (.cells #[.slice T tn tc, .slice A ps.length ca] 37)) (.map #[] 0)
  obtain ⟨x0, x1⟩ := cellsG b0
  go_enter Tryz.func76, Tryz.ntmps76
  go_wp2_with fail
  go_loopw [4, 5, 13] (fun _ _ i wr => ∃ k : Nat, k ≤ ps.length ∧ i = .int .i64 k ∧ wr.ownsMap Tryz.prog 9 (plainElem (H := Unit) Tryz.prog 3) (w.heap.size + 1) k (idxD ps k) ∧ Below w.heap.size w wr) (fun _ _ i _ => ps.length - (intOf i).toNat)
  case atStart => exact ⟨0, Nat.zero_le _, rfl, M0, B0⟩
  case round =>
    obtain ⟨k, hk, rfl, hM, hb⟩ := hrel
    clear B0 M0 b0 x0 x1
    by_cases hlt : k < ps.length
    · obtain ⟨g, off, rfl, hg, a, b, d0, d1, d2, d3, d4, d5, ra, rb⟩ := (HR.out.below hb).at k hlt
      have HC := Lib.hid (fun (W : World) (h : Below wr.heap.size wr W) => implKeyOf_any ps[k] a b W (ra.below h) (rb.below h) (HS.out.get k hlt))
      have HN : Hid (idxD ps (k + 1) = (idxD ps k).put (.string (keyOf ps[k])) (.lit (.int .i64 (k : Int)))) := Lib.hid (by rw [← ps_at hlt]; rfl)
      have hkl := SmPk.key (HS.out.get k hlt)
      obtain ⟨A1, c1, rfl⟩ := ra.slice
      obtain ⟨A2, c2, rfl⟩ := rb.slice
      have k0 : (0 : Int) ≤ (k : Int) := by omega
      have k1 : (k : Int) < (ps.length : Int) := by omega
      have Bp : Below wr.heap.size wr (wr.alloc (.cells #[.string ⟨ps[k].name.toArray⟩, .string ⟨ps[k].ver.toArray⟩, .string ⟨ps[k].src.toArray⟩, .slice A1 ps[k].sums.length c1, .bool ps[k].dev, .slice A2 ps[k].needs.length c2] 78)) := (Below.refl _ _).alloc (Nat.le_refl _) _
      have bp := heap_alloc_new wr (.cells #[.string ⟨ps[k].name.toArray⟩, .string ⟨ps[k].ver.toArray⟩, .string ⟨ps[k].src.toArray⟩, .slice A1 ps[k].sums.length c1, .bool ps[k].dev, .slice A2 ps[k].needs.length c2] 78)
      obtain ⟨y0, y1, y2, y3, y4, y5⟩ := cells6 bp
      have hMl := hM.lt
      clear ra rb
      obtain ⟨key, HKE⟩ : ∃ key, Hid (keyOf ps[k] = key) := ⟨_, Lib.hid rfl⟩
      rw [HKE.out] at HN hkl
      simp only [HKE.out] at HC
      have hkey : Go.keyOf Tryz.prog 9 (.string ⟨key.toArray⟩) = some (Lit.string key) := by
        have := WideMaps.keyOf_string_mk (P := Tryz.prog) Tryz.underlying9 (s := ⟨key.toArray⟩) (by show key.toArray.size ≤ maxLen; unfold maxLen; simp; omega)
        simpa using this
      go_wp2_with fail
      refine (HC.out _ Bp).mono ?_
      rintro e w1 ⟨rfl, hb1⟩
      have B1 := (hb.trans (Bp.mono hb.size)).trans (hb1.mono (Nat.le_trans hb.size Bp.size))
      have M1 : w1.ownsMap Tryz.prog 9 (plainElem (H := Unit) Tryz.prog 3) (w.heap.size + 1) k (idxD ps k) := (hM.kept (gr_below (row := none) Bp) (by simp)).kept (gr_below (row := none) hb1) (by simp)
      clear hM hb hb1 Bp bp y0 y1 y2 y3 y4 y5
      go_wp2_with (first | (at_mapUpdate; refine wpList_mapUpdate_own _ rfl _ _ _ 95 rfl 9 3 strLaw Tryz.underlying95 (plainElem (H := Unit) Tryz.prog 3) (w.heap.size + 1) k _ rfl M1 (by unfold maxLen; omega) _ _ _ rfl rfl hkey _ [] (plainElem_int Tryz.underlying3 (WalkArith.wf_i64 (by omega))) ?_; intro w2 M2 hg2) | go_in)
      have B2 := B1.grown hg2 B1.size (fun j hj => by cases hj; omega)
      rw [← HN.out] at M2
      go_roundw
      case rel => exact ⟨k + 1, by omega, by go_num, M2, B2⟩
      case measure => simp [intOf]; omega
    · obtain rfl : k = ps.length := by omega
      go_wp2_with fail
      go_ret
      exact ⟨_, rfl, by omega, hM, hb⟩

set_option maxRecDepth 100000 in
set_option maxHeartbeats 2000000 in
theorem keysOk_any (vl : Value) (ls : List (List UInt8)) (B : Nat) (ps : List Pk) (w : World) (hl : RdS w vl ls) (hll : ls.length ≤ 1048576) (hm : ∀ l ∈ ls, l.length ≤ 1048576) (hi : IdxOf w B ps) :
    Calls Tryz.prog 108 #[vl, .map (some B)] w fun e w' => e = .returned (.bool (keysOkL ps ls)) ∧ Below w.heap.size w w' := by
  have HR := Lib.hid hl
  have HI := Lib.hid hi
  have HM := Lib.hid hm
  obtain ⟨A, ca, rfl, _⟩ := hl
  obtain ⟨r, HRR⟩ : ∃ r, Hid (keysOkL ps ls = r) := ⟨_, Lib.hid rfl⟩
  rw [HRR.out]
  clear hm hi
  go_enter Tryz.func108, Tryz.ntmps108
  go_wp2_with fail
  go_loopw [5, 6, 7, 8, 11] (fun _ _ _ _ i wr => ∃ k : Nat, k ≤ ls.length ∧ i = .int .i64 k ∧ Hid (allTo (keyAtB ps ls) k = true) ∧ Below w.heap.size w wr) (fun _ _ _ _ i _ => ls.length - (intOf i).toNat)
  case atStart => exact ⟨0, Nat.zero_le _, rfl, Lib.hid rfl, Below.refl _ _⟩
  case round =>
    obtain ⟨k, hk, rfl, HT, hb⟩ := hrel
    by_cases hlt : k < ls.length
    · obtain ⟨g, off, rfl, hg, hc⟩ := rdS_at (HR.out.below hb) k hlt
      have d1 := hc k hlt
      have hIw := HI.out.below hb
      have hcl := HM.out ls[k] (List.getElem_mem hlt)
      have k0 : (0 : Int) ≤ (k : Int) := by omega
      have k1 : (k : Int) < (ls.length : Int) := by omega
      have HQ := Lib.hid (fun (h : keyAtB ps ls k = false) => (show r = false by rw [← HRR.out]; exact allTo_bad hlt h))
      have HTT := Lib.hid (fun (h : keyAtB ps ls k = true) => allTo_step HT.out h)
      have HZ0 := Lib.hid (fun (h : k = 0) => (show keyAtB ps ls k = decide (0 ≤ findP ps ls[k]) by subst h; exact keyAtB_zero hlt))
      have HZ1 := Lib.hid (fun (j : Nat) (h : k = j + 1) => (show keyAtB ps ls k = (decide (0 ≤ findP ps ls[k]) && Op.bytesLess (ls[j]'(by omega)) ls[k]) by subst h; exact keyAtB_more hlt))
      have HHA := Lib.hid (has_all ps ls[k])
      obtain ⟨f, HFF⟩ : ∃ f, Hid (decide (0 ≤ findP ps ls[k]) = f) := ⟨_, Lib.hid rfl⟩
      simp only [HFF.out] at HHA HZ0 HZ1
      obtain ⟨cur, HCU⟩ : ∃ cur, Hid (ls[k] = cur) := ⟨_, Lib.hid rfl⟩
      simp only [HCU.out] at HHA HZ1 d1 hcl
      have hkey : Go.keyOf Tryz.prog 9 (.string ⟨cur.toArray⟩) = some (Lit.string cur) := by
        have := WideMaps.keyOf_string_mk (P := Tryz.prog) Tryz.underlying9 (s := ⟨cur.toArray⟩) (by show cur.toArray.size ≤ maxLen; unfold maxLen; simp; omega)
        simpa using this
      have hhas := HHA.out
      cases f with
      | false =>
        have HX : Hid (r = false) := Lib.hid (HQ.out (by
          by_cases hz : k = 0
          · exact HZ0.out hz
          · rw [HZ1.out (k - 1) (by omega)]; rfl))
        clear HQ HTT HZ0 HZ1 hc
        go_wp2_with (at_lookup; refine wpList_lookup_own_ok_int _ rfl _ _ 95 rfl 9 3 .i64 strLaw Tryz.underlying95 Tryz.underlying3 (zeroInt _) B ps.length _ rfl hIw _ _ rfl hkey ?_; intro c hat hwc; rw [hhas])
        go_wp2_with fail
        go_ret
        exact ⟨ret_bool HX.out.symm, hb⟩
      | true =>
        by_cases hz : k = 0
        · have HN2 := Lib.hid (HTT.out (HZ0.out hz))
          have g0 : ¬ (0 : Int) < (k : Int) := by omega
          have g1 : decide (0 < k) = false := by simp; omega
          clear hz HQ HTT HZ0 HZ1 hc
          go_wp2_with (at_lookup; refine wpList_lookup_own_ok_int _ rfl _ _ 95 rfl 9 3 .i64 strLaw Tryz.underlying95 Tryz.underlying3 (zeroInt _) B ps.length _ rfl hIw _ _ rfl hkey ?_; intro c hat hwc; rw [hhas])
          go_wp2_with fail
          go_roundw
          case rel => exact ⟨k + 1, by omega, by go_num, HN2, hb⟩
          case measure => simp [intOf]; omega
        · obtain ⟨j, hj⟩ : ∃ j, k = j + 1 := ⟨k - 1, by omega⟩
          have HZ2 := Lib.hid (HZ1.out j hj)
          have hjl : j < ls.length := by omega
          have e1 := hc j hjl
          have jw : IntKind.i64.wrap ((k : Int) - 1) = (j : Int) := by rw [show (k : Int) - 1 = (j : Int) by omega]; exact IntWalk.i64_in _ (by omega)
          have g0 : (0 : Int) < (k : Int) := by omega
          have g1 : decide (0 < k) = true := by simp; omega
          have j0 : (0 : Int) ≤ (j : Int) := by omega
          have j1 : (j : Int) < (ls.length : Int) := by omega
          obtain ⟨pr, HPR⟩ : ∃ pr, Hid (ls[j] = pr) := ⟨_, Lib.hid rfl⟩
          rw [HPR.out] at e1 HZ2
          cases hl : Op.bytesLess pr cur with
          | true =>
            have HN2 := Lib.hid (HTT.out (by rw [HZ2.out, hl]; rfl))
            clear hz HQ HTT HZ0 HZ1 HZ2 hc hj
            go_wp2_with (at_lookup; refine wpList_lookup_own_ok_int _ rfl _ _ 95 rfl 9 3 .i64 strLaw Tryz.underlying95 Tryz.underlying3 (zeroInt _) B ps.length _ rfl hIw _ _ rfl hkey ?_; intro c hat hwc; rw [hhas])
            go_wp2_with fail
            go_roundw
            case rel => exact ⟨k + 1, by omega, by go_num, HN2, hb⟩
            case measure => simp [intOf]; omega
          | false =>
            have HX := Lib.hid (HQ.out (by rw [HZ2.out, hl, Bool.and_false]))
            clear hz HQ HTT HZ0 HZ1 HZ2 hc hj
            go_wp2_with (at_lookup; refine wpList_lookup_own_ok_int _ rfl _ _ 95 rfl 9 3 .i64 strLaw Tryz.underlying95 Tryz.underlying3 (zeroInt _) B ps.length _ rfl hIw _ _ rfl hkey ?_; intro c hat hwc; rw [hhas])
            go_wp2_with fail
            go_ret
            exact ⟨ret_bool HX.out.symm, hb⟩
    · have HX : Hid (r = true) := Lib.hid (by rw [← HRR.out]; have := HT.out; rw [show k = ls.length by omega] at this; exact this)
      go_wp2_with fail
      go_ret
      exact ⟨ret_bool HX.out.symm, hb⟩
end Go.Proofs.YtnodhkjgnegkcaaGreatDoor

/-
  impl.Exact: the bound of one version alone.
-/
namespace Go.Proofs.YtnodhkjgnegkcaaGreatDoor
open Go.RowKit

set_option maxRecDepth 100000 in
set_option maxHeartbeats 4000000 in
theorem implExact_any (l : List UInt8) (w : World) (hl : l.length ≤ 1048576) (ht : Tab w) : Calls Tryz.prog 162 #[.string ⟨l.toArray⟩] w (ExactIs w l) := by
  cases hok : readOk l with
  | false =>
    have HA := Lib.hid (readFrom_no l w hl hok)
    have HX := Lib.hid (exB_no (exOk_bad hok))
    clear hok ht
    go_enter Tryz.func162, Tryz.ntmps162
    go_wp2_with fail
    refine HA.out.mono ?_
    rintro e w1 ⟨rfl, hb1⟩
    go_wp2_with fail
    go_ret
    refine ⟨w1.heap.size + 1, by rw [HX.out]; rfl, by have := hb1.size; omega, ?_, (hb1.alloc hb1.size _).alloc (by have := hb1.size; simp; omega) _⟩
    rw [HX.out]
    exact heap_new (by simp) _
  | true =>
    have HA := Lib.hid (readFrom_yes l w hl hok ht)
    have ho := exOk_of hok
    obtain ⟨hi, HHI⟩ : ∃ hi, Hid (exHigh l = hi) := ⟨_, Lib.hid rfl⟩
    have HY := Lib.hid (fun h => (exB_yes (l := l) h))
    have HN := Lib.hid (fun h => (exB_no (l := l) h))
    rw [HHI.out] at HA ho HY
    clear hok ht
    cases he : hi.isEmpty with
    | true =>
      have HX := Lib.hid (HN.out (by rw [ho, he]; rfl))
      rw [he] at HA
      clear he ho HY HN
      go_enter Tryz.func162, Tryz.ntmps162
      go_wp2_with fail
      refine HA.out.mono ?_
      rintro e w1 ⟨rfl, hb1⟩
      go_wp2_with fail
      go_ret
      refine ⟨w1.heap.size + 1, by rw [HX.out]; rfl, by have := hb1.size; omega, ?_, (hb1.alloc hb1.size _).alloc (by have := hb1.size; simp; omega) _⟩
      rw [HX.out]
      exact heap_new (by simp) _
    | false =>
      have HX := Lib.hid (HY.out (by rw [ho, he]; rfl))
      rw [he] at HA
      clear he ho HY HN
      go_enter Tryz.func162, Tryz.ntmps162
      go_wp2_with fail
      refine HA.out.mono ?_
      rintro e w1 ⟨rfl, hb1⟩
      go_wp2_with fail
      go_ret
      refine ⟨w1.heap.size + 1, by rw [HX.out]; rfl, by have := hb1.size; omega, ?_, (hb1.alloc hb1.size _).alloc (by have := hb1.size; simp; omega) _⟩
      rw [HX.out]
      exact heap_new (by simp) _
end Go.Proofs.YtnodhkjgnegkcaaGreatDoor

/-
  impl.PackOk: whether a pack is right.
-/
namespace Go.Proofs.YtnodhkjgnegkcaaGreatDoor
open Go.RowKit

theorem implExact_len (l : List UInt8) (w : World) (hl : l.length ≤ 1048576) (ht : Tab w) : Calls Tryz.prog 162 #[.string ⟨l.toArray⟩] w fun e w' => ∃ g n, n = (if exOk l = true then 1 else 0) ∧ e = .returned (.slice (some ⟨g, 0, none⟩) n n) ∧ Below w.heap.size w w' :=
  (implExact_any l w hl ht).mono (fun e w' h => by
    obtain ⟨g, rfl, _, _, hb⟩ := h
    exact ⟨g, _, exB_len l, rfl, hb⟩)

set_option maxRecDepth 100000 in
set_option maxHeartbeats 4000000 in
theorem implPackOk_any (p : Pk) (a b : Value) (w : World) (ha : RdB w a p.sums) (hb : RdS w b p.needs) (hp : SmPk p) (ht : Tab w) :
    Calls Tryz.prog 107 #[.agg #[.string ⟨p.name.toArray⟩, .string ⟨p.ver.toArray⟩, .string ⟨p.src.toArray⟩, a, .bool p.dev, b]] w fun e w' => e = .returned (.bool (pkOk p)) ∧ Below w.heap.size w w' := by
  obtain ⟨t1, t2, t3⟩ := hp.texts
  have hsm := hp.sums
  have HN : Hid (∀ W, Calls Tryz.prog 161 #[.string ⟨p.name.toArray⟩] W fun e w' => e = .returned (.bool (specN p.name)) ∧ Below W.heap.size W w') := Lib.hid (fun W => implNameOk_any ⟨p.name.toArray⟩ W)
  have HE := Lib.hid (fun (W : World) (h : Below w.heap.size w W) => implExact_len p.ver W t2 (tab_below ht h))
  have HP : Hid (∀ W, Calls Tryz.prog 98 #[.string ⟨p.src.toArray⟩] W fun e w' => e = .returned (.bool (plainL p.src)) ∧ W = w') := Lib.hid (fun W => implPlainOk_any ⟨p.src.toArray⟩ W (by show p.src.toArray.size ≤ maxLen; unfold maxLen; simp; omega))
  have HS := Lib.hid (fun (W : World) (h : Below w.heap.size w W) => sumsOk_any a p.sums W (ha.below h) hsm)
  obtain ⟨A, ca, rfl⟩ := ha.slice
  obtain ⟨B, cb, rfl⟩ := hb.slice
  obtain ⟨r, HR⟩ : ∃ r, Hid (pkOk p = r) := ⟨_, Lib.hid rfl⟩
  rw [HR.out]
  obtain ⟨x, HXX⟩ : ∃ x, Hid (specN p.name = x) := ⟨_, Lib.hid rfl⟩
  obtain ⟨y, HYY⟩ : ∃ y, Hid (exOk p.ver = y) := ⟨_, Lib.hid rfl⟩
  obtain ⟨z, HZZ⟩ : ∃ z, Hid (plainL p.src = z) := ⟨_, Lib.hid rfl⟩
  obtain ⟨s, HSS⟩ : ∃ s, Hid (sumsOkL p.sums = s) := ⟨_, Lib.hid rfl⟩
  have HRR : Hid (r = (s && (x && (y && z)))) := Lib.hid (by rw [← HR.out]; unfold pkOk; rw [HXX.out, HYY.out, HZZ.out, HSS.out])
  simp only [HXX.out] at HN
  simp only [HYY.out] at HE
  simp only [HZZ.out] at HP
  simp only [HSS.out] at HS
  clear ha hb hp hsm ht HXX HYY HZZ HSS HR
  obtain ⟨pn, pv, ps, bs, pd, pe⟩ := p
  simp only at HN HE HP HS t1 t2 t3 ⊢
  have B0 : Below w.heap.size w (w.alloc (.cells #[.string ⟨pn.toArray⟩, .string ⟨pv.toArray⟩, .string ⟨ps.toArray⟩, .slice A bs.length ca, .bool pd, .slice B pe.length cb] 78)) := (Below.refl _ _).alloc (Nat.le_refl _) _
  have bx := heap_alloc_new w (.cells #[.string ⟨pn.toArray⟩, .string ⟨pv.toArray⟩, .string ⟨ps.toArray⟩, .slice A bs.length ca, .bool pd, .slice B pe.length cb] 78)
  go_enter Tryz.func107, Tryz.ntmps107
  go_wp2_with fail
  refine (HN.out _).mono ?_
  rintro e w1 ⟨rfl, hb1⟩
  have B1 := B0.trans (hb1.mono B0.size)
  have b1 := keepB bx hb1
  obtain ⟨x0, x1, x2, x3, x4, x5⟩ := cells6 b1
  clear B0 bx hb1
  cases x with
  | false =>
    have HF : Hid (r = false) := Lib.hid (by rw [HRR.out]; simp)
    go_wp2_with fail
    go_ret
    exact ⟨ret_bool HF.out.symm, B1⟩
  | true =>
    go_wp2_with fail
    refine (HE.out _ B1).mono ?_
    rintro e w2 ⟨g, n, rfl, rfl, hb2⟩
    have B2 := B1.trans (hb2.mono B1.size)
    have b2 := keepB b1 hb2
    clear x0 x1 x2 x3 x4 x5
    obtain ⟨x0, x1, x2, x3, x4, x5⟩ := cells6 b2
    clear hb2 b1 B1
    cases y with
    | false =>
      have HF : Hid (r = false) := Lib.hid (by rw [HRR.out]; simp)
      go_wp2_with fail
      go_ret
      exact ⟨ret_bool HF.out.symm, B2⟩
    | true =>
      go_wp2_with fail
      refine (HP.out _).mono ?_
      rintro e w3 ⟨rfl, rfl⟩
      cases z with
      | false =>
        have HF : Hid (r = false) := Lib.hid (by rw [HRR.out]; simp)
        go_wp2_with fail
        go_ret
        exact ⟨ret_bool HF.out.symm, B2⟩
      | true =>
        have HF : Hid (r = s) := Lib.hid (by rw [HRR.out]; simp)
        go_wp2_with fail
        refine (HS.out _ B2).mono ?_
        rintro e w4 ⟨rfl, hb4⟩
        go_wp2_with fail
        go_ret
        exact ⟨ret_bool HF.out.symm, B2.trans (hb4.mono B2.size)⟩
end Go.Proofs.YtnodhkjgnegkcaaGreatDoor

/-
  impl.GraphOk: whether a graph is right.
-/
namespace Go.Proofs.YtnodhkjgnegkcaaGreatDoor
open Go.RowKit

/-- The key of the pack ahead, or the empty text. -/
def lastKy (ps : List Pk) (k : Nat) : List UInt8 := if k = 0 then [] else keyOf (ps.getD (k - 1) default)
theorem lastKy_zero (ps : List Pk) : lastKy ps 0 = [] := rfl
theorem lastKy_succ {ps : List Pk} {k : Nat} (h : k < ps.length) : lastKy ps (k + 1) = keyOf ps[k] := by
  unfold lastKy; rw [if_neg (by omega), Nat.add_sub_cancel, ps_at h]
theorem less_nil {l : List UInt8} (h : l ≠ []) : Op.bytesLess [] l = true := by
  cases l with
  | nil => exact absurd rfl h
  | cons a t => rfl
theorem pkAt_is {ps : List Pk} {k : Nat} (h : k < ps.length) : pkAtB ps k = (pkOk ps[k] && Op.bytesLess (lastKy ps k) (keyOf ps[k])) := by
  unfold pkAtB
  rw [ps_at h]
  congr 1
  by_cases hz : k = 0
  · subst hz
    rw [upAt_zero, lastKy_zero, less_nil (by unfold keyOf; simp)]
  · obtain ⟨j, rfl⟩ : ∃ j, k = j + 1 := ⟨k - 1, by omega⟩
    rw [upAt_more h, lastKy_succ (by omega)]
theorem ndAt_is {ps : List Pk} {k : Nat} (h : k < ps.length) : ndAt ps k = keysOkL ps ps[k].needs := by unfold ndAt; rw [ps_at h]
theorem lastKy_len {ps : List Pk} (hs : SmPs ps) (k : Nat) (h : k ≤ ps.length) : (lastKy ps k).length ≤ 1048577 := by
  by_cases hz : k = 0
  · subst hz; rw [lastKy_zero]; simp
  · obtain ⟨j, rfl⟩ : ∃ j, k = j + 1 := ⟨k - 1, by omega⟩
    rw [lastKy_succ (by omega)]; exact SmPk.key (hs.get j (by omega))
theorem needs_le {p : Pk} (h : SmPk p) : p.needs.length ≤ 1048576 ∧ ∀ l ∈ p.needs, l.length ≤ 1048576 := by
  have := h.needs
  exact ⟨by omega, fun l hl => by have := smL_mem l hl; omega⟩

set_option maxRecDepth 100000 in
set_option maxHeartbeats 4000000 in
theorem implGraphOk_any (vt vp : Value) (ts : List (List UInt8)) (ps : List Pk) (w : World) (ht : RdS w vt ts) (hp : RdPs w vp ps) (hs : SmG ts ps) (htab : Tab w) :
    Calls Tryz.prog 54 #[.agg #[vt, vp]] w fun e w' => e = .returned (.bool (grOk ts ps)) ∧ Below w.heap.size w w' := by
  have HSP := Lib.hid hs.2
  have htl : ts.length ≤ 1048576 ∧ ∀ l ∈ ts, l.length ≤ 1048576 := ⟨by have := hs.1; omega, fun l hl => by have := smL_mem l hl; have := hs.1; omega⟩
  have hn : ps.length ≤ 1048576 := by have := hs.2; unfold SmPs at this; omega
  have HR := Lib.hid hp
  have HTB := Lib.hid (fun (W : World) (h : Below w.heap.size w W) => tab_below htab h)
  obtain ⟨T, tc, rfl⟩ := ht.slice
  have HKT := Lib.hid (fun (W : World) (B : Nat) (h : Below w.heap.size w W) (hi : IdxOf W B ps) => keysOk_any (.slice T ts.length tc) ts B ps W (ht.below h) htl.1 htl.2 hi)
  have HIX := Lib.hid (fun (W : World) (h : Below w.heap.size w W) => indexOf_any T ts.length tc vp ps W (hp.below h) hs.2)
  obtain ⟨A, ca, rfl, _⟩ := hp
  obtain ⟨r, HRR⟩ : ∃ r, Hid (grOk ts ps = r) := ⟨_, Lib.hid rfl⟩
  rw [HRR.out]
  obtain ⟨kt, HKTT⟩ : ∃ kt, Hid (keysOkL ps ts = kt) := ⟨_, Lib.hid rfl⟩
  have HPA : Hid (r = (decide (ps.length ≤ 40) && (allTo (pkAtB ps) ps.length && (allTo (ndAt ps) ps.length && kt)))) := Lib.hid (by rw [← HRR.out, grOk_parts, HKTT.out])
  simp only [HKTT.out] at HKT
  have B0 : Below w.heap.size w (w.alloc (.cells #[.slice T ts.length tc, .slice A ps.length ca] 37)) := (Below.refl _ _).alloc (Nat.le_refl _) _
  have b0 := heap_alloc_new w (.cells #[.slice T ts.length tc, .slice A ps.length ca] 37)
  clear ht hs htab htl
  by_cases h40 : ps.length ≤ 40
  · have HPB : Hid (r = (allTo (pkAtB ps) ps.length && (allTo (ndAt ps) ps.length && kt))) := Lib.hid (by rw [HPA.out, decide_eq_true h40]; rfl)
    have q1 : ¬ (40 : Int) < (ps.length : Int) := by omega
    clear h40 HPA
    go_enter Tryz.func54, Tryz.ntmps54
    go_wp2_with fail
    go_loopw [3, 5, 6, 17] (fun u _ _ i wr => ∃ k : Nat, k ≤ ps.length ∧ i = .int .i64 k ∧ u = .string ⟨(lastKy ps k).toArray⟩ ∧ Hid (allTo (pkAtB ps) k = true) ∧ Below w.heap.size w wr ∧ wr.heap[w.heap.size]? = some (.cells #[.slice T ts.length tc, .slice A ps.length ca] 37)) (fun _ _ _ i _ => ps.length - (intOf i).toNat)
    case atStart => exact ⟨0, Nat.zero_le _, rfl, rfl, Lib.hid rfl, B0, b0⟩
    case round =>
      obtain ⟨k, hk, rfl, rfl, HT, hb, hbox⟩ := hrel
      clear B0 b0
      by_cases hlt : k < ps.length
      · obtain ⟨g, off, rfl, hg, a, b, d0, d1, d2, d3, d4, d5, ra, rb⟩ := (HR.out.below hb).at k hlt
        have HKO := Lib.hid (fun (W : World) (h : Below wr.heap.size wr W) => implKeyOf_any ps[k] a b W (ra.below h) (rb.below h) (HSP.out.get k hlt))
        have HPK := Lib.hid (fun (W : World) (h : Below wr.heap.size wr W) => implPackOk_any ps[k] a b W (ra.below h) (rb.below h) (HSP.out.get k hlt) (HTB.out W (hb.trans (h.mono hb.size))))
        have k0 : (0 : Int) ≤ (k : Int) := by omega
        have k1 : (k : Int) < (ps.length : Int) := by omega
        have HQ := Lib.hid (fun (h : pkAtB ps k = false) => (show r = false by rw [HPB.out, allTo_bad hlt h]; rfl))
        have HTT := Lib.hid (fun (h : pkAtB ps k = true) => allTo_step HT.out h)
        have HZ := Lib.hid (pkAt_is hlt)
        have HLS := Lib.hid (lastKy_succ hlt)
        have hkl := SmPk.key (HSP.out.get k hlt)
        have hll := lastKy_len HSP.out k hk
        have Bp : Below wr.heap.size wr (wr.alloc (.cells #[.string ⟨ps[k].name.toArray⟩, .string ⟨ps[k].ver.toArray⟩, .string ⟨ps[k].src.toArray⟩, a, .bool ps[k].dev, b] 78)) := (Below.refl _ _).alloc (Nat.le_refl _) _
        have bp := heap_alloc_new wr (.cells #[.string ⟨ps[k].name.toArray⟩, .string ⟨ps[k].ver.toArray⟩, .string ⟨ps[k].src.toArray⟩, a, .bool ps[k].dev, b] 78)
        obtain ⟨A1, c1, rfl⟩ := ra.slice
        obtain ⟨A2, c2, rfl⟩ := rb.slice
        obtain ⟨y0, y1, y2, y3, y4, y5⟩ := cells6 bp
        obtain ⟨pk, HPKK⟩ : ∃ pk, Hid (pkOk ps[k] = pk) := ⟨_, Lib.hid rfl⟩
        obtain ⟨key, HKE⟩ : ∃ key, Hid (keyOf ps[k] = key) := ⟨_, Lib.hid rfl⟩
        obtain ⟨la, HLA⟩ : ∃ la, Hid (lastKy ps k = la) := ⟨_, Lib.hid rfl⟩
        simp only [HPKK.out] at HPK HZ
        simp only [HKE.out] at HKO HZ HLS hkl
        rw [HLA.out] at HZ hll
        rw [HLA.out]
        have HBX := Lib.hid hbox
        clear ra rb hbox
        cases pk with
        | false =>
          have HX : Hid (r = false) := Lib.hid (HQ.out (by rw [HZ.out]; rfl))
          clear HQ HTT HZ
          go_wp2_with fail
          refine (HKO.out _ Bp).mono ?_
          rintro e w1 ⟨rfl, hb1⟩
          have B1 := Bp.trans (hb1.mono Bp.size)
          obtain ⟨x0, x1, x2, x3, x4, x5⟩ := cells6 (keepB bp hb1)
          go_wp2_with fail
          refine (HPK.out _ B1).mono ?_
          rintro e w2 ⟨rfl, hb2⟩
          have B2 := B1.trans (hb2.mono B1.size)
          go_wp2_with fail
          go_ret
          exact ⟨ret_bool HX.out.symm, hb.trans (B2.mono hb.size)⟩
        | true =>
          cases hl : Op.bytesLess la key with
          | true =>
            have HN2 := Lib.hid (HTT.out (by rw [HZ.out, hl]; rfl))
            have q2 := bl_asymm _ _ hl
            have q3 : (key == la) = false := by
              cases hq : key == la with
              | false => rfl
              | true => have e : key = la := by simpa using hq
                        rw [e, bl_irrefl] at hl; cases hl
            clear HQ HTT HZ
            go_wp2_with fail
            refine (HKO.out _ Bp).mono ?_
            rintro e w1 ⟨rfl, hb1⟩
            have B1 := Bp.trans (hb1.mono Bp.size)
            obtain ⟨x0, x1, x2, x3, x4, x5⟩ := cells6 (keepB bp hb1)
            go_wp2_with fail
            refine (HPK.out _ B1).mono ?_
            rintro e w2 ⟨rfl, hb2⟩
            have B2 := B1.trans (hb2.mono B1.size)
            have b2 := keepB HBX.out B2
            have B3 := hb.trans (B2.mono hb.size)
            clear hb1 hb2 B1 B2 Bp bp hb y0 y1 y2 y3 y4 y5
            go_wp2_with fail
            go_roundw
            case rel => exact ⟨k + 1, by omega, by go_num, by rw [HLS.out], HN2, B3, b2⟩
            case measure => simp [intOf]; omega
          | false =>
            have HX : Hid (r = false) := Lib.hid (HQ.out (by rw [HZ.out, hl]; rfl))
            clear HQ HTT HZ
            by_cases he : key = la
            · have q2 : Op.bytesLess key la = false := by rw [he]; exact bl_irrefl _
              have q3 : (key == la) = true := by simpa using he
              clear he
              go_wp2_with fail
              refine (HKO.out _ Bp).mono ?_
              rintro e w1 ⟨rfl, hb1⟩
              have B1 := Bp.trans (hb1.mono Bp.size)
              obtain ⟨x0, x1, x2, x3, x4, x5⟩ := cells6 (keepB bp hb1)
              go_wp2_with fail
              refine (HPK.out _ B1).mono ?_
              rintro e w2 ⟨rfl, hb2⟩
              have B2 := B1.trans (hb2.mono B1.size)
              go_wp2_with fail
              go_ret
              exact ⟨ret_bool HX.out.symm, hb.trans (B2.mono hb.size)⟩
            · have q2 : Op.bytesLess key la = true := by
                rcases bl_total la key with h | h | h
                · rw [hl] at h; cases h
                · exact absurd h.symm he
                · exact h
              clear he
              go_wp2_with fail
              refine (HKO.out _ Bp).mono ?_
              rintro e w1 ⟨rfl, hb1⟩
              have B1 := Bp.trans (hb1.mono Bp.size)
              obtain ⟨x0, x1, x2, x3, x4, x5⟩ := cells6 (keepB bp hb1)
              go_wp2_with fail
              refine (HPK.out _ B1).mono ?_
              rintro e w2 ⟨rfl, hb2⟩
              have B2 := B1.trans (hb2.mono B1.size)
              go_wp2_with fail
              go_ret
              exact ⟨ret_bool HX.out.symm, hb.trans (B2.mono hb.size)⟩
      · have HPC : Hid (r = (allTo (ndAt ps) ps.length && kt)) := Lib.hid (by rw [HPB.out]; have := HT.out; rw [show k = ps.length by omega] at this; rw [this]; rfl)
        obtain ⟨x0, x1⟩ := cellsG hbox
        have HBX := Lib.hid hbox
        clear HPB HT hbox
        go_wp2_with fail
        refine (HIX.out _ hb).mono ?_
        rintro e w1 ⟨B, rfl, hBl, hI, hb1⟩
        have B1 := hb.trans (hb1.mono hb.size)
        have b1 := keepB HBX.out hb1
        obtain ⟨y0, y1⟩ := cellsG b1
        clear hb hb1 x0 x1
        go_wp2_with fail
        go_loopw [9, 38] (fun _ i wq => ∃ j : Nat, j ≤ ps.length ∧ i = .int .i64 j ∧ Hid (allTo (ndAt ps) j = true) ∧ Below w.heap.size w wq ∧ Below w1.heap.size w1 wq ∧ wq.heap[w.heap.size]? = some (.cells #[.slice T ts.length tc, .slice A ps.length ca] 37)) (fun _ i _ => ps.length - (intOf i).toNat)
        case atStart => exact ⟨0, Nat.zero_le _, rfl, Lib.hid rfl, B1, Below.refl _ _, b1⟩
        case round =>
          obtain ⟨j, hj, rfl, HT2, hb, hbI, hbox⟩ := hrel
          clear B1 b1 y0 y1
          have hIq := hI.below hbI
          by_cases hlj : j < ps.length
          · obtain ⟨g, off, rfl, hg, a, b, d0, d1, d2, d3, d4, d5, ra, rb⟩ := (HR.out.below hb).at j hlj
            have hnl := needs_le (HSP.out.get j hlj)
            have HND := Lib.hid (fun (W : World) (h : Below wr.heap.size wr W) => keysOk_any b ps[j].needs B ps W (rb.below h) hnl.1 hnl.2 (hIq.below h))
            have k0 : (0 : Int) ≤ (j : Int) := by omega
            have k1 : (j : Int) < (ps.length : Int) := by omega
            have HQ := Lib.hid (fun (h : ndAt ps j = false) => (show r = false by rw [HPC.out, allTo_bad hlj h]; rfl))
            have HTT := Lib.hid (fun (h : ndAt ps j = true) => allTo_step HT2.out h)
            have HZ := Lib.hid (ndAt_is hlj)
            have Bp : Below wr.heap.size wr (wr.alloc (.cells #[.string ⟨ps[j].name.toArray⟩, .string ⟨ps[j].ver.toArray⟩, .string ⟨ps[j].src.toArray⟩, a, .bool ps[j].dev, b] 78)) := (Below.refl _ _).alloc (Nat.le_refl _) _
            have bp := heap_alloc_new wr (.cells #[.string ⟨ps[j].name.toArray⟩, .string ⟨ps[j].ver.toArray⟩, .string ⟨ps[j].src.toArray⟩, a, .bool ps[j].dev, b] 78)
            obtain ⟨A1, c1, rfl⟩ := ra.slice
            obtain ⟨A2, c2, rfl⟩ := rb.slice
            obtain ⟨y0, y1, y2, y3, y4, y5⟩ := cells6 bp
            obtain ⟨nd, HNDD⟩ : ∃ nd, Hid (keysOkL ps ps[j].needs = nd) := ⟨_, Lib.hid rfl⟩
            simp only [HNDD.out] at HND HZ
            have HBX2 := Lib.hid hbox
            clear ra rb hbox hIq hnl
            cases nd with
            | false =>
              have HX : Hid (r = false) := Lib.hid (HQ.out HZ.out)
              clear HQ HTT HZ
              go_wp2_with fail
              refine (HND.out _ Bp).mono ?_
              rintro e w3 ⟨rfl, hb3⟩
              have B3 := Bp.trans (hb3.mono Bp.size)
              go_wp2_with fail
              go_ret
              exact ⟨ret_bool HX.out.symm, hb.trans (B3.mono hb.size)⟩
            | true =>
              have HN2 := Lib.hid (HTT.out HZ.out)
              clear HQ HTT HZ
              go_wp2_with fail
              refine (HND.out _ Bp).mono ?_
              rintro e w3 ⟨rfl, hb3⟩
              have B3 := Bp.trans (hb3.mono Bp.size)
              have b3 := keepB HBX2.out B3
              have B4 := hb.trans (B3.mono hb.size)
              have B5 := hbI.trans (B3.mono hbI.size)
              clear hb3 B3 Bp bp hb hbI y0 y1 y2 y3 y4 y5
              go_wp2_with fail
              go_roundw
              case rel => exact ⟨j + 1, by omega, by go_num, HN2, B4, B5, b3⟩
              case measure => simp [intOf]; omega
          · have HX : Hid (r = kt) := Lib.hid (by rw [HPC.out]; have := HT2.out; rw [show j = ps.length by omega] at this; rw [this]; rfl)
            obtain ⟨y0, y1⟩ := cellsG hbox
            go_wp2_with fail
            refine (HKT.out _ _ hb hIq).mono ?_
            rintro e w3 ⟨rfl, hb3⟩
            go_wp2_with fail
            go_ret
            exact ⟨ret_bool HX.out.symm, hb.trans (hb3.mono hb.size)⟩
  · have HX : Hid (r = false) := Lib.hid (by rw [HPA.out, decide_eq_false h40]; rfl)
    have q1 : (40 : Int) < (ps.length : Int) := by omega
    clear h40
    go_enter Tryz.func54, Tryz.ntmps54
    go_wp2_with fail
    go_ret
    exact ⟨ret_bool HX.out.symm, B0⟩
end Go.Proofs.YtnodhkjgnegkcaaGreatDoor

/-
  impl.EntriesOf: whether entries are right.
-/
namespace Go.Proofs.YtnodhkjgnegkcaaGreatDoor
open Go.RowKit Go.Shelf
attribute [local go_sem] Oper.semAt_some

/-- What EntriesOf has in its box: the keys so far. -/
def SpE (p : Nat) (ls : List (List UInt8)) (W : World) : Prop :=
  p + 3 ≤ W.heap.size ∧ ∃ v, Boxed W (p + 1) 29 v ∧ Strs W p v ls ∧ (∀ g, v.ownBlock = some g → g ≠ p + 1 ∧ g ≠ p + 2)
theorem spE_own {α : Type} (p B : Nat) (f : α → List UInt8) : OwnFrom B (fun (pre : List α) W => SpE p (pre.map f) W) := by
  rintro pre W W' row ⟨h4, v, hB, hS, hne⟩ hg hr
  refine ⟨Nat.le_trans h4 hg.size, v, hB.kept hg (fun e => ?_), World.ownsRow.kept hS hg ?_, hne⟩
  · obtain ⟨_, o, ho, hc⟩ := hr _ e.symm
    rw [show W.heap[_]? = _ from hB] at ho; cases ho; cases hc
  · rcases hS.2 with ⟨rfl, _⟩ | ⟨g, cap, cur, rfl, _, hh, _⟩
    · left; rfl
    · right
      intro e
      obtain ⟨_, o, ho, hc⟩ := hr g (by simpa [Value.ownBlock] using e.symm)
      rw [hh] at ho; cases ho; cases hc
theorem spE_end (n0 p : Nat) (w W w1 w3 : World) (v : Value) (ls : List (List UInt8)) (x : List UInt8) (o : Obj) (g cap : Nat) (hn : n0 ≤ p) (h4 : p + 3 ≤ W.heap.size) (hR : Boxed W (p + 1) 29 v) (hS : Strs W p v ls)
    (hne : ∀ g, v.ownBlock = some g → g ≠ p + 1 ∧ g ≠ p + 2) (hB : Below n0 w W) (hb1 : Below W.drew.heap.size W.drew w1) (hg3 : (w1.alloc o).grownBy w3 v.ownBlock)
    (hS3 : Strs w3 p (.slice (some ⟨g, 0, none⟩) (ls.length + 1) cap) (ls ++ [x])) (hg4 : v.ownBlock = some g ∨ g = (w1.alloc o).heap.size) :
    Boxed w3 (p + 1) 29 v ∧ KeepsOthers W (w3.setCell ⟨p + 1, 0, none⟩ (.slice (some ⟨g, 0, none⟩) (ls.length + 1) cap)) ∧ KpO n0 W (w3.setCell ⟨p + 1, 0, none⟩ (.slice (some ⟨g, 0, none⟩) (ls.length + 1) cap)) ∧
      SpE p (ls ++ [x]) (w3.setCell ⟨p + 1, 0, none⟩ (.slice (some ⟨g, 0, none⟩) (ls.length + 1) cap)) ∧ Below n0 w (w3.setCell ⟨p + 1, 0, none⟩ (.slice (some ⟨g, 0, none⟩) (ls.length + 1) cap)) := by
  have hs1 : W.heap.size ≤ w1.heap.size := hb1.size
  have hs3 : w1.heap.size + 1 ≤ w3.heap.size := by have := hg3.size; simpa using this
  have hgne : g ≠ p + 1 ∧ g ≠ p + 2 := by
    rcases hg4 with h | h
    · exact hne g h
    · simp at h; omega
  have hG : W.grownBy w3 v.ownBlock := ⟨hg3.os.trans hb1.os, hg3.tape.trans hb1.tape, hg3.output.trans hb1.output, by omega, fun k hk hkn =>
    (hg3.block k (by simp; omega) hkn).trans ((Below.heap_alloc _ _ _ (by omega)).trans (hb1.block k hk))⟩
  have hR3 : Boxed w3 (p + 1) 29 v := hR.kept hG (fun e => (hne _ e.symm).1 rfl)
  have hK : KeepsOthers W w3 := KeepsOthers.of_grownBy hG (fun j o' ej hj => by
    rcases hS.2 with ⟨rfl, _⟩ | ⟨g', cap', cur, rfl, _, hh, _⟩
    · simp [Value.ownBlock] at ej
    · simp [Value.ownBlock] at ej
      subst ej
      rw [hh] at hj; cases hj; rfl)
  have hBel : Below n0 w w3 := hB.grown hG (by omega) (fun j hj => by have := hS.owned j hj; omega)
  refine ⟨hR3, hK.trans (KeepsOthers.setCell _ _ _), fun b hb => (Below.heap_setCell _ _ _ _ (by simp; omega)).trans (hG.block b (by omega) (fun e => by have := hS.owned b e.symm; omega)), ⟨by simp; omega, _, hR3.set _, ?_, ?_⟩, hBel.setCell (p := ⟨p + 1, 0, none⟩) (by simp; omega) _⟩
  · exact World.ownsRow.kept hS3 (grownBy_setCell' w3 (p + 1) _) (by right; simp [Value.ownBlock]; omega)
  · intro g' hg'
    simp [Value.ownBlock] at hg'
    subst hg'
    exact hgne
/-- The key ahead of the k-th entry. -/
def lastE (es : List En) (k : Nat) : List UInt8 := if k = 0 then [] else keyE (es.getD (k - 1) default)
theorem lastE_zero (es : List En) : lastE es 0 = [] := rfl
theorem lastE_succ {es : List En} {k : Nat} (h : k < es.length) : lastE es (k + 1) = keyE es[k] := by
  unfold lastE; rw [if_neg (by omega), show k + 1 - 1 = k by omega, es_at h]
theorem keyE_ne (e : En) : keyE e ≠ [] := by unfold keyE ndKeyL; simp
theorem enAt_last {es : List En} {k : Nat} (h : k < es.length) : enAtB es k = (enOk es[k] && Op.bytesLess (lastE es k) (keyE es[k])) := by
  cases k with
  | zero => rw [enAtB_zero h, lastE_zero, less_nil (keyE_ne _), Bool.and_true]
  | succ j => rw [enAtB_more h, lastE_succ (by omega)]
theorem eo_bad2 {es : List En} {k : Nat} (hk : k < es.length) (h : enAtB es k = false) : eoL es = false := by rw [eoL_parts, allTo_bad hk h]; simp
theorem hdAll_two (es : List En) : (hdAll es).map (·.2) = es.flatMap (·.heads) := by
  have h : ∀ k, k ≤ es.length → (((List.range k).flatMap (hdF es)).map (·.2)) = (es.take k).flatMap (·.heads) := fun k => by
    induction k with
    | zero => intro _; simp
    | succ k ih =>
      intro hk
      rw [List.range_succ, List.flatMap_append, List.map_append, ih (by omega), List.take_succ_eq_append_getElem (by omega : k < es.length), List.flatMap_append]
      rw [List.flatMap_singleton, List.flatMap_singleton, hdF_at (by omega : k < es.length), List.map_map]
      congr 1
      exact List.map_id'' (fun x => rfl) _
  have := h es.length (Nat.le_refl _)
  rw [List.take_length] at this
  exact this
theorem headKeys_is (es : List En) : headKeys es = (hdAll es).map fun x => ndKeyL x.2 := by unfold headKeys; rw [← hdAll_two, List.map_map]; rfl
theorem eflat_len (es : List En) : (es.flatMap (·.heads)).length ≤ smE es ∧ ∀ h ∈ es.flatMap (·.heads), h.1.length + h.2.length + 1 ≤ smE es := by
  induction es with
  | nil => simp [smE]
  | cons a t ih =>
    have e : smE (a :: t) = wEn a + smE t := by unfold smE; simp
    rw [e]
    refine ⟨by rw [List.flatMap_cons, List.length_append]; have := ih.1; unfold wEn; omega, fun h hh => ?_⟩
    rw [List.flatMap_cons] at hh
    rcases List.mem_append.1 hh with hh | hh
    · have h1 := smB_mem h hh
      have h2 := List.length_pos_of_mem hh
      unfold wEn; omega
    · have := ih.2 h hh; omega

set_option maxRecDepth 100000 in
set_option maxHeartbeats 8000000 in
theorem implEntriesOf_in (n : Nat) (hn4 : 4 ≤ n) (v : Value) (es : List En) (q : Int) (w : World) (hr : RdEs w v es) (hs : SmEs es) (ht : Tab w) (hq : w.cell? ⟨0, 0, none⟩ = some (.int .i64 q)) :
    CallsIn Fence.wide n Tryz.prog 14 #[v] w fun x w' => x = .returned (.bool (eoL es)) ∧ Below w.heap.size w w' := by
  have hn1 : 1 ≤ n := by omega
  have hn2 : 1 ≤ n - 1 - 1 := by omega
  have HR := Lib.hid hr
  have HS := Lib.hid hs
  have hl : es.length ≤ 1048576 := by unfold SmEs at hs; omega
  have HH : Hid (∀ e ∈ es, e.heads.length ≤ 1048576) := Lib.hid (fun e he => by
    obtain ⟨k, hk, rfl⟩ := List.mem_iff_getElem.1 he
    have := (hs.get k hk).heads; omega)
  have HFL : Hid ((es.flatMap (·.heads)).length ≤ 1048576 ∧ ∀ h ∈ es.flatMap (·.heads), h.1.length + h.2.length + 1 ≤ 1048576) := Lib.hid (by
    have h1 := eflat_len es
    have h2 : smE es ≤ 1048576 := by unfold SmEs at hs; omega
    exact ⟨Nat.le_trans h1.1 h2, fun h hh => Nat.le_trans (h1.2 h hh) h2⟩)
  have HEN := Lib.hid (fun (k : Nat) (hk : k < es.length) (a0 a1 : Value) (W : World) (h : Below w.heap.size w W) (h0 : RdB W a0 es[k].heads) (h1 : RdB W a1 es[k].needs) => entryOk_any es[k] a0 a1 q W h0 h1 (hs.get k hk) (tab_below ht h) (keepC h hq))
  obtain ⟨A, ca, rfl⟩ := hr.slice
  obtain ⟨r, HRR⟩ : ∃ r, Hid (eoL es = r) := ⟨_, Lib.hid rfl⟩
  rw [HRR.out]
  have HL := Lib.hid hl
  clear hr hs ht hq hl
  refine callsIn_of_wp_marks Tryz.func14 rfl trivial ?_ rfl
  refine wpIn_wide.2 ?_
  simp only [Tryz.ntmps14, List.size_toArray, List.length_cons, List.length_nil, Nat.reduceAdd, Nat.reduceSub, Array.replicate_succ, Array.replicate_zero, List.push_toArray, List.append_toArray, List.nil_append, List.cons_append]
  by_cases h40 : 40 < es.length
  · have HX : Hid (r = false) := Lib.hid (by rw [← HRR.out, eoL_parts, decide_eq_false (by omega)]; rfl)
    have q1 : (40 : Int) < (es.length : Int) := by omega
    go_wp2_with fail
    exact ⟨_, by simp [results, Tryz.f14, go_sem], ⟨ret_bool HX.out.symm, Below.refl _ _⟩⟩
  have q1 : ¬ (40 : Int) < (es.length : Int) := by omega
  have H40 : Hid (decide (es.length ≤ 40) = true) := Lib.hid (decide_eq_true (by omega))
  clear h40
  go_wp2_with fail
  clear q1
  go_loopw [3, 5, 14] (fun s _ i wr => ∃ (k : Nat) (la : ByteArray), k ≤ es.length ∧ i = .int .i64 k ∧ s = .string la ∧ Hid (la.data.toList = lastE es k) ∧ Hid (allTo (enAtB es) k = true) ∧ Below w.heap.size w wr) (fun _ _ i _ => es.length - (intOf i).toNat)
  case atStart => exact ⟨0, ⟨#[]⟩, Nat.zero_le _, rfl, rfl, Lib.hid rfl, Lib.hid rfl, Below.refl _ _⟩
  case round =>
    obtain ⟨k, la, hk, rfl, rfl, HLA, HT, hb⟩ := hrel
    have hl := HL.out
    by_cases hlt : k < es.length
    · have HRW := Lib.hid (HR.out.below hb)
      obtain ⟨g, off, rfl, hg, a0, a1, d0, d1, d2, d3, d4, r0, r1⟩ := HRW.out.at k hlt
      have hnl : es[k].heads.length ≤ 1048576 := by have := (HS.out.get k hlt).heads; omega
      have HBAD := Lib.hid (fun (h : enAtB es k = false) => (show r = false by rw [← HRR.out]; exact eo_bad2 hlt h))
      have HGO := Lib.hid (fun (h : enAtB es k = true) => allTo_step HT.out h)
      have HEA := Lib.hid (enAt_last hlt)
      have HLS := Lib.hid (lastE_succ hlt)
      have HRB := Lib.hid (fun (W : World) (h : Below wr.heap.size wr W) => r0.below h)
      have HR1 := Lib.hid (fun (W : World) (h : Below wr.heap.size wr W) => r1.below h)
      obtain ⟨A1, c1, rfl⟩ := rdB_slice r0
      obtain ⟨A2, c2, rfl⟩ := rdB_slice r1
      have k0 : (0 : Int) ≤ (k : Int) := by omega
      have k1 : (k : Int) < (es.length : Int) := by omega
      have BA : Below wr.heap.size wr (wr.alloc (.cells #[.slice A1 es[k].heads.length c1, .string ⟨es[k].ver.toArray⟩, .string ⟨es[k].res.toArray⟩, .string ⟨es[k].int.toArray⟩, .slice A2 es[k].needs.length c2] 62)) := (Below.refl _ _).alloc (Nat.le_refl _) _
      have ba := heap_alloc_new wr (.cells #[.slice A1 es[k].heads.length c1, .string ⟨es[k].ver.toArray⟩, .string ⟨es[k].res.toArray⟩, .string ⟨es[k].int.toArray⟩, .slice A2 es[k].needs.length c2] 62)
      have BW := hb.trans (BA.mono hb.size)
      obtain ⟨m0, m1, m2, m3, m4⟩ := cells5 ba
      have HEN2 := Lib.hid (HEN.out k hlt _ _ _ BW (HRB.out _ BA) (HR1.out _ BA))
      obtain ⟨en, HENN⟩ : ∃ b, Hid (enOk es[k] = b) := ⟨_, Lib.hid rfl⟩
      simp only [HENN.out] at HEN2 HEA
      unfold enV at HEN2
      clear r0 r1
      cases en with
      | false =>
        have HX : Hid (r = false) := Lib.hid (HBAD.out HEA.out)
        clear HBAD HGO HEA
        go_wp2_with fail
        refine HEN2.out.mono ?_
        rintro _ w2 ⟨rfl, hb2⟩
        go_wp2_with fail
        exact ⟨_, by simp [results, Tryz.f14, go_sem], ⟨ret_bool HX.out.symm, BW.trans (hb2.mono BW.size)⟩⟩
      | true =>
        have h1 := en_heads HENN.out
        obtain ⟨gh, oh, rfl, hgh, p0, p1⟩ := RdB.atR (HRB.out wr (Below.refl _ _)) 0 h1
        rw [Nat.zero_mul, Nat.add_zero] at p0 p1
        have HK := Lib.hid (fun (W : World) => needKey_any ⟨es[k].heads[0].1.toArray⟩ ⟨es[k].heads[0].2.toArray⟩ W (by rw [size_of, size_of]; exact (HS.out.get k hlt).head 0 h1))
        have HKE := Lib.hid (keyE_is h1)
        have hnl0 : (0 : Int) < (es[k].heads.length : Int) := by omega
        obtain ⟨ka, HKA⟩ : ∃ x : ByteArray, Hid (ndKey ⟨es[k].heads[0].1.toArray⟩ ⟨es[k].heads[0].2.toArray⟩ = x) := ⟨_, Lib.hid rfl⟩
        have HKL : Hid (ka.data.toList = keyE es[k]) := Lib.hid (by rw [← HKA.out, HKE.out]; simp [ndKey])
        simp only [HKA.out] at HK
        have HEA2 : Hid (enAtB es k = Op.bytesLess la.toList ka.toList) := Lib.hid (by rw [HEA.out, ByteArray.toList_eq, ByteArray.toList_eq, HLA.out, HKL.out]; rfl)
        clear HKE HEA
        go_wp2_with fail
        refine HEN2.out.mono ?_
        rintro _ w2 ⟨rfl, hb2⟩
        have B2 := BA.trans (hb2.mono BA.size)
        have BW2 := BW.trans (hb2.mono BW.size)
        have b2 := keepB ba hb2
        obtain ⟨n0, n1, n2, n3, n4⟩ := cells5 b2
        have s0 := keepC B2 p0
        have s1 := keepC B2 p1
        clear hb2 BA BW ba m0 m1 m2 m3 m4 HEN2
        cases hl2 : Op.bytesLess la.toList ka.toList with
        | true =>
          have HN2 := Lib.hid (HGO.out (by rw [HEA2.out, hl2]))
          have g1 : Op.bytesLess ka.toList la.toList = false := bl_asymm _ _ hl2
          have g2 : (ka.toList == la.toList) = false := by
            cases h : ka.toList == la.toList with
            | false => rfl
            | true => have e := (beq_iff_eq).1 h; rw [e, bl_irrefl] at hl2; cases hl2
          clear HEA2 HBAD HGO
          go_wp2_with fail
          refine (HK.out _).mono ?_
          rintro _ w3 ⟨rfl, hb3⟩
          have BW3 := BW2.trans (hb3.mono BW2.size)
          have b3 := keepB b2 hb3
          have B3 := B2.trans (hb3.mono B2.size)
          obtain ⟨n0, n1, n2, n3, n4⟩ := cells5 b3
          have s0 := keepC B3 p0
          have s1 := keepC B3 p1
          clear hb3 BW2 b2
          go_wp2_with fail
          refine (HK.out _).mono ?_
          rintro _ w4 ⟨rfl, hb4⟩
          have BW4 := BW3.trans (hb4.mono BW3.size)
          go_wp2_with fail
          go_roundw
          case rel => exact ⟨k + 1, ka, by omega, by go_num, rfl, Lib.hid (by rw [HLS.out, HKL.out]), HN2, BW4⟩
          case measure => simp [intOf]; omega
        | false =>
          have HX := Lib.hid (HBAD.out (by rw [HEA2.out, hl2]))
          have g3 : Op.bytesLess ka.toList la.toList = true ∨ (Op.bytesLess ka.toList la.toList = false ∧ (ka.toList == la.toList) = true) := by
            rcases bl_total la.toList ka.toList with h | h | h
            · rw [hl2] at h; cases h
            · right; rw [h]; exact ⟨bl_irrefl _, by simp⟩
            · exact .inl h
          clear HEA2 HBAD HGO hl2
          rcases g3 with g1 | ⟨g1, g2⟩
          all_goals
            go_wp2_with fail
            refine (HK.out _).mono ?_
            rintro _ w3 ⟨rfl, hb3⟩
            go_wp2_with fail
            exact ⟨_, by simp [results, Tryz.f14, go_sem], ⟨ret_bool HX.out.symm, BW2.trans (hb3.mono BW2.size)⟩⟩
    · have HALL : Hid (allTo (enAtB es) es.length = true) := Lib.hid (by have := HT.out; rw [show k = es.length by omega] at this; exact this)
      have HX : Hid (r = decide (headKeys es).Nodup) := Lib.hid (by rw [← HRR.out, eoL_parts, H40.out, HALL.out]; rfl)
      have m2 : ¬ (k : Int) < (es.length : Int) := by omega
      clear HALL HT hlt
      go_wp2_with fail
      refine ((callsIn_wide (n := n)).1 (headsOf_in n A es.length ca _)).mono ?_
      rintro _ _ ⟨rfl, rfl⟩
      go_wp2_with fail
      refine (wpIn_wide (n := n)).1 ?_
      obtain ⟨p, hp⟩ : ∃ p, wr.heap.size = p := ⟨_, rfl⟩
      have hwp : w.heap.size ≤ p := by rw [← hp]; exact hb.size
      have c1' := heap_new (W := wr.alloc (.cells #[] 9)) (n := p + 1) (by simp [hp]) (.cells #[.slice (some ⟨p, 0, none⟩) 0 0] 29)
      have b1 := keepA c1' (.cells #[.slice A es.length ca] 25)
      have b2 := heap_new (W := (wr.alloc (.cells #[] 9)).alloc (.cells #[.slice (some ⟨p, 0, none⟩) 0 0] 29)) (n := p + 1 + 1) (by simp [hp]) (.cells #[.slice A es.length ca] 25)
      have S0 := ((Strs.emptyAt wr p p hp (Nat.le_refl _)).alloc (.cells #[.slice (some ⟨p, 0, none⟩) 0 0] 29)).alloc (.cells #[.slice A es.length ca] 25)
      have B0 : Below w.heap.size w (((wr.alloc (.cells #[] 9)).alloc (.cells #[.slice (some ⟨p, 0, none⟩) 0 0] 29)).alloc (.cells #[.slice A es.length ca] 25)) := ((hb.alloc hb.size _).alloc (by simp; omega) _).alloc (by simp; omega) _
      have hsz : (((wr.alloc (.cells #[] 9)).alloc (.cells #[.slice (some ⟨p, 0, none⟩) 0 0] 29)).alloc (.cells #[.slice A es.length ca] 25)).heap.size = p + 3 := by simp [hp]
      rw [hp]
      obtain ⟨W0, hW0⟩ : ∃ W0, (((wr.alloc (.cells #[] 9)).alloc (.cells #[.slice (some ⟨p, 0, none⟩) 0 0] 29)).alloc (.cells #[.slice A es.length ca] 25)) = W0 := ⟨_, rfl⟩
      rw [hW0] at b1 b2 S0 B0 hsz ⊢
      have K0 : KpO w.heap.size w W0 := KpO.of_below B0 (Nat.le_refl _)
      have HNW : w.heap.size ≤ W0.heap.size := B0.size
      have HSZ := Lib.hid hsz
      clear hW0 hp hsz c1' hb
      refine wpIn_rangeFunc_ownH rfl hn1 (gf := 100) (lb := #[.pointer (some ⟨p + 1 + 1, 0, none⟩)]) rfl trivial (enters_of Tryz.func100 (by kernel_rfl) rfl)
        (heads_stopsT (n - 1) (by omega) (p + 1 + 1) A ca es w W0 HR.out HL.out HH.out K0 b2) kpO_t (kpO_b HNW) (Below.refl _ _) (fun _ => rfl)
        (fun (pre : List (HdT es)) W => SpE p (pre.map fun x => ndKeyL x.1.2) W ∧ Below w.heap.size w W)
        (fun c pre W => False)
        (OwnFrom.and (spE_own p _ _) (ownFrom_below (Nat.le_refl _) HNW))
        (fun c => ownFrom_pure _ _)
        ⟨⟨by rw [HSZ.out]; exact Nat.le_refl _, _, b1, S0, fun g hg => by simp [Value.ownBlock] at hg; omega⟩, B0⟩
        (fun x a' W => ∃ Bx, p + 3 ≤ Bx ∧ W.heap[Bx]? = some (.cells #[.string ⟨x.1.2.1.toArray⟩, .string ⟨x.1.2.2.toArray⟩] 65 (0, 0)) ∧
          a' = { tmps := #[.slice A es.length ca, undef, u2, .string la, undef, u5, .pointer (some ⟨p + 1, 0, none⟩), undef, .pointer (some ⟨Bx, 0, none⟩), .slice A es.length ca, .int .i64 (es.length : Int), .bool false, .slice A es.length ca, .int .i64 (es.length : Int), .int .i64 (k : Int), .bool false, u16, u17, u18, u19, u20, u21, u22, u23, u24, u25, u26, u27, u28, u29, u30, u31, u32, u33, u34, u35, .slice (some ⟨p, 0, none⟩) 0 0, .slice A es.length ca, .func (.func 100) #[] #[.pointer (some ⟨p + 1 + 1, 0, none⟩)], .int .i64 (x.1.1 : Int), .agg #[.string ⟨x.1.2.1.toArray⟩, .string ⟨x.1.2.2.toArray⟩], undef, undef, undef, undef, undef, undef, undef], defers := [] })
        (fun x a' => by
          rintro _ X Y row ⟨Bx, hx1, hx2, hx3⟩ hg hr
          refine ⟨Bx, hx1, (hg.block Bx (Array.getElem?_eq_some_iff.1 hx2).1 (fun e => ?_)).trans hx2, hx3⟩
          obtain ⟨_, o, ho, hc⟩ := hr _ e.symm
          rw [hx2] at ho; cases ho; cases hc)
        ?assign ?body ?done ?stop
      case assign =>
        rintro l pre x W K ⟨⟨h4, v, hR, hS, hne⟩, hB⟩ hK
        unfold hdV
        gi_wp2
        exact hK _ _ ((KeepsOthers.alloc _ _).from _) (KpO.of_grown (gr_alloc _ _ none) hB.size (fun r e => by cases e)) ⟨⟨by simp; omega, v, hR.alloc _, hS.alloc _, hne⟩, hB.alloc hB.size _⟩ ⟨W.heap.size, h4, heap_alloc_new W _, rfl⟩
      case body =>
        rintro l pre x a' W hl hrec ⟨⟨h4, v, hR, hS, hne⟩, hB⟩ ⟨Bx, hBx, hX, rfl⟩ hpl
        obtain ⟨⟨i, r1, r2⟩, hmem⟩ := x
        simp only at hX ⊢
        have hsz2 : r1.length + r2.length + 1 ≤ 1048576 := HFL.out.2 (r1, r2) (by rw [← hdAll_two]; exact List.mem_map.2 ⟨_, hmem, rfl⟩)
        have hcnt : (hdAll es).length ≤ 1048576 := by have h1 := HFL.out.1; rw [← hdAll_two] at h1; simpa using h1
        obtain ⟨x0, x1⟩ := cellsG hX
        have cR := hR.cell
        have fR := hR.frozen
        have hx0 : W.drew.cell? ⟨Bx, 0, none⟩ = some (.string ⟨r1.toArray⟩) := x0
        have hx1 : W.drew.cell? ⟨Bx, 1, none⟩ = some (.string ⟨r2.toArray⟩) := x1
        have hlt : p + 1 < W.drew.heap.size := hR.lt
        have cR' : W.drew.cell? ⟨p + 1, 0, none⟩ = some v := cR
        have fR' : W.drew.frozen? ⟨p + 1, 0, none⟩ = false := fR
        obtain ⟨kb, HKB⟩ : ∃ x : ByteArray, Hid (ndKey ⟨r1.toArray⟩ ⟨r2.toArray⟩ = x) := ⟨_, Lib.hid rfl⟩
        have HBL : Hid (kb.data.toList = ndKeyL (r1, r2)) := Lib.hid (by rw [← HKB.out]; simp [ndKey, ndKeyL])
        have hCl := CallsIn.inRound (n := n - 1 - 1 - 1) l (callsIn_wide.2 (needKey_any ⟨r1.toArray⟩ ⟨r2.toArray⟩ W.drew (by rw [size_of, size_of]; omega)))
        rw [HKB.out] at hCl
        have HCL := Lib.hid hCl
        have HPL : Hid ((pre.map fun x => ndKeyL x.1.2).length + 1 ≤ 16777216) := Lib.hid (by simp; omega)
        clear hCl hsz2 hcnt x0 x1 hX
        gi_wp2
        refine wpIn_region_any (by kernel_rfl) ?_
        change wpAnyIn _ _ _ _ _ _ _ _ _ (World.drew _)
        refine wpAnyIn_ready (rs := [0, 1]) (by kernel_rfl) (by simp) (AllReadyIn.cons rfl (fun K hK => ?_) (AllReadyIn.cons rfl (fun K hK => ?_) AllReadyIn.nil)) <;> go_simp <;> refine hK _ _ ?_ <;> clear hK K
        · refine wpAnyIn_ready (rs := [1]) (by kernel_rfl) (by simp) (AllReadyIn.cons rfl (fun K hK => ?_) AllReadyIn.nil)
          go_simp
          refine hK _ _ ?_
          clear hK K
          refine wpAnyIn_ready (rs := [2]) (by kernel_rfl) (by simp) (AllReadyIn.cons rfl (fun K hK => ?_) AllReadyIn.nil)
          go_simp
          refine ⟨trivial, ?_⟩
          refine HCL.out.mono ?_
          rintro e w1 ⟨rfl, hb1⟩
          refine hK _ _ ?_
          clear hK K
          obtain ⟨c1, hlt1⟩ := keep_cell hb1 hlt cR'
          have HSI : Hid (p ≤ (w1.alloc (.cells #[.string kb] 9)).heap.size) := Lib.hid (by have := hb1.size; simp at this ⊢; omega)
          refine wpAnyIn_ready (rs := [3]) (by kernel_rfl) (by simp) (AllReadyIn.cons rfl (fun K hK => ?_) AllReadyIn.nil)
          go_simp
          refine hK _ _ ?_
          clear hK K
          refine wpAnyIn_ready (rs := [4]) (by kernel_rfl) (by simp) (AllReadyIn.cons rfl (fun K hK => ?_) AllReadyIn.nil)
          refine step_append_in rfl _ _ rfl p v (pre.map fun x => ndKeyL x.1.2) rfl ((hS.drew.below hb1).alloc _) kb.data.toList w1.heap.size 1 _ _ rfl (heap_alloc_new w1 _) HPL.out HSI.out ?_
          intro g cap w3 hS3 hg3 hg4
          refine hK _ _ ?_
          clear hK K
          rw [HBL.out] at hS3
          have HE := Lib.hid (spE_end w.heap.size p w W w1 w3 v _ _ _ g cap hwp h4 hR hS hne hB hb1 hg3 hS3 hg4)
          have c3 := HE.out.1.cell
          have f3 := HE.out.1.frozen
          clear hS3 hg3 hg4
          refine wpAnyIn_ready (rs := [5]) (by kernel_rfl) (by simp) (AllReadyIn.cons rfl (fun K hK => ?_) AllReadyIn.nil)
          go_simp
          refine hK _ _ ?_
          clear hK K
          refine wpAnyIn_done (by kernel_rfl) ?_ _
          have hE := HE.out.2
          simp only [List.length_map] at hE
          refine ⟨hE.1.from _, hE.2.1, ?_, hE.2.2.2⟩
          rw [List.map_append]
          exact hE.2.2.1
        · refine wpAnyIn_ready (rs := [0, 2]) (by kernel_rfl) (by simp) (AllReadyIn.cons rfl (fun K hK => ?_) (AllReadyIn.cons rfl (fun K hK => ?_) AllReadyIn.nil)) <;> go_simp
          · refine hK _ _ ?_
            clear hK K
            refine wpAnyIn_ready (rs := [2]) (by kernel_rfl) (by simp) (AllReadyIn.cons rfl (fun K hK => ?_) AllReadyIn.nil)
            go_simp
            refine ⟨trivial, ?_⟩
            refine HCL.out.mono ?_
            rintro e w1 ⟨rfl, hb1⟩
            refine hK _ _ ?_
            clear hK K
            obtain ⟨c1, hlt1⟩ := keep_cell hb1 hlt cR'
            have HSI : Hid (p ≤ (w1.alloc (.cells #[.string kb] 9)).heap.size) := Lib.hid (by have := hb1.size; simp at this ⊢; omega)
            refine wpAnyIn_ready (rs := [3]) (by kernel_rfl) (by simp) (AllReadyIn.cons rfl (fun K hK => ?_) AllReadyIn.nil)
            go_simp
            refine hK _ _ ?_
            clear hK K
            refine wpAnyIn_ready (rs := [4]) (by kernel_rfl) (by simp) (AllReadyIn.cons rfl (fun K hK => ?_) AllReadyIn.nil)
            refine step_append_in rfl _ _ rfl p v (pre.map fun x => ndKeyL x.1.2) rfl ((hS.drew.below hb1).alloc _) kb.data.toList w1.heap.size 1 _ _ rfl (heap_alloc_new w1 _) HPL.out HSI.out ?_
            intro g cap w3 hS3 hg3 hg4
            refine hK _ _ ?_
            clear hK K
            rw [HBL.out] at hS3
            have HE := Lib.hid (spE_end w.heap.size p w W w1 w3 v _ _ _ g cap hwp h4 hR hS hne hB hb1 hg3 hS3 hg4)
            have c3 := HE.out.1.cell
            have f3 := HE.out.1.frozen
            clear hS3 hg3 hg4
            refine wpAnyIn_ready (rs := [5]) (by kernel_rfl) (by simp) (AllReadyIn.cons rfl (fun K hK => ?_) AllReadyIn.nil)
            go_simp
            refine hK _ _ ?_
            clear hK K
            refine wpAnyIn_done (by kernel_rfl) ?_ _
            have hE := HE.out.2
            simp only [List.length_map] at hE
            refine ⟨hE.1.from _, hE.2.1, ?_, hE.2.2.2⟩
            rw [List.map_append]
            exact hE.2.2.1
          · refine ⟨trivial, ?_⟩
            refine HCL.out.mono ?_
            rintro e w1 ⟨rfl, hb1⟩
            refine hK _ _ ?_
            clear hK K
            obtain ⟨c1, hlt1⟩ := keep_cell hb1 hlt cR'
            have HSI : Hid (p ≤ (w1.alloc (.cells #[.string kb] 9)).heap.size) := Lib.hid (by have := hb1.size; simp at this ⊢; omega)
            refine wpAnyIn_ready (rs := [0, 3]) (by kernel_rfl) (by simp) (AllReadyIn.cons rfl (fun K hK => ?_) (AllReadyIn.cons rfl (fun K hK => ?_) AllReadyIn.nil)) <;> go_simp <;> refine hK _ _ ?_ <;> clear hK K
            · refine wpAnyIn_ready (rs := [3]) (by kernel_rfl) (by simp) (AllReadyIn.cons rfl (fun K hK => ?_) AllReadyIn.nil)
              go_simp
              refine hK _ _ ?_
              clear hK K
              refine wpAnyIn_ready (rs := [4]) (by kernel_rfl) (by simp) (AllReadyIn.cons rfl (fun K hK => ?_) AllReadyIn.nil)
              refine step_append_in rfl _ _ rfl p v (pre.map fun x => ndKeyL x.1.2) rfl ((hS.drew.below hb1).alloc _) kb.data.toList w1.heap.size 1 _ _ rfl (heap_alloc_new w1 _) HPL.out HSI.out ?_
              intro g cap w3 hS3 hg3 hg4
              refine hK _ _ ?_
              clear hK K
              rw [HBL.out] at hS3
              have HE := Lib.hid (spE_end w.heap.size p w W w1 w3 v _ _ _ g cap hwp h4 hR hS hne hB hb1 hg3 hS3 hg4)
              have c3 := HE.out.1.cell
              have f3 := HE.out.1.frozen
              clear hS3 hg3 hg4
              refine wpAnyIn_ready (rs := [5]) (by kernel_rfl) (by simp) (AllReadyIn.cons rfl (fun K hK => ?_) AllReadyIn.nil)
              go_simp
              refine hK _ _ ?_
              clear hK K
              refine wpAnyIn_done (by kernel_rfl) ?_ _
              have hE := HE.out.2
              simp only [List.length_map] at hE
              refine ⟨hE.1.from _, hE.2.1, ?_, hE.2.2.2⟩
              rw [List.map_append]
              exact hE.2.2.1
            · have c2 : (w1.alloc (.cells #[.string kb] 9)).cell? ⟨p + 1, 0, none⟩ = some v := (keep_cell ((Below.refl _ w1).alloc (Nat.le_refl _) _) hlt1 c1).1
              refine wpAnyIn_ready (rs := [0]) (by kernel_rfl) (by simp) (AllReadyIn.cons rfl (fun K hK => ?_) AllReadyIn.nil)
              go_simp
              refine hK _ _ ?_
              clear hK K
              refine wpAnyIn_ready (rs := [4]) (by kernel_rfl) (by simp) (AllReadyIn.cons rfl (fun K hK => ?_) AllReadyIn.nil)
              refine step_append_in rfl _ _ rfl p v (pre.map fun x => ndKeyL x.1.2) rfl ((hS.drew.below hb1).alloc _) kb.data.toList w1.heap.size 1 _ _ rfl (heap_alloc_new w1 _) HPL.out HSI.out ?_
              intro g cap w3 hS3 hg3 hg4
              refine hK _ _ ?_
              clear hK K
              rw [HBL.out] at hS3
              have HE := Lib.hid (spE_end w.heap.size p w W w1 w3 v _ _ _ g cap hwp h4 hR hS hne hB hb1 hg3 hS3 hg4)
              have c3 := HE.out.1.cell
              have f3 := HE.out.1.frozen
              clear hS3 hg3 hg4
              refine wpAnyIn_ready (rs := [5]) (by kernel_rfl) (by simp) (AllReadyIn.cons rfl (fun K hK => ?_) AllReadyIn.nil)
              go_simp
              refine hK _ _ ?_
              clear hK K
              refine wpAnyIn_done (by kernel_rfl) ?_ _
              have hE := HE.out.2
              simp only [List.length_map] at hE
              refine ⟨hE.1.from _, hE.2.1, ?_, hE.2.2.2⟩
              rw [List.map_append]
              exact hE.2.2.1
      case done =>
        rintro D ys W hD hys ⟨⟨h4, v, hR, hS, hne⟩, hB⟩ hK
        have hkeys : (ys.map fun x => ndKeyL x.1.2) = headKeys es := by
          have := congrArg (List.map fun x : HdP => ndKeyL x.2) hys
          rw [List.map_map] at this
          rw [headKeys_is]; exact this
        rw [hkeys] at hS
        have cR := hR.cell
        have hDw : w.heap.size ≤ D := Nat.le_trans HNW hD
        have hml : (headKeys es).length ≤ 1048576 ∧ ∀ l ∈ headKeys es, l.length ≤ 1048576 := by
          unfold headKeys
          refine ⟨by rw [List.length_map]; exact HFL.out.1, fun l hl => ?_⟩
          obtain ⟨h, hh, rfl⟩ := List.mem_map.1 hl
          have := HFL.out.2 h hh
          unfold ndKeyL; simp; omega
        have HD := Lib.hid (distinct_any v (headKeys es) W (RdS.of_strs hS) hml.1 hml.2)
        rw [← HX.out] at HD
        clear hml hkeys hys
        go_wp2_with fail
        refine HD.out.mono ?_
        rintro _ w5 ⟨rfl, hb5⟩
        have hK5 := keepB hK hb5
        have B5 := hB.trans (hb5.mono hB.size)
        go_wp2_with fail
        refine ⟨by simp, .inl ⟨_, _, rfl, run_takeDeferred hK5, ?_⟩⟩
        exact ⟨_, by simp [results, Tryz.f14, go_sem], ⟨rfl, B5.trans (belowK_b (w := w) (Nat.le_refl _) _ D _ _ hDw hK5 rfl rfl)⟩⟩
      case stop =>
        rintro D c pre W hD hpre h hK
        exact h.elim

theorem implEntriesOf_any (v : Value) (es : List En) (q : Int) (w : World) (hr : RdEs w v es) (hs : SmEs es) (ht : Tab w) (hq : w.cell? ⟨0, 0, none⟩ = some (.int .i64 q)) :
    Calls Tryz.prog 14 #[v] w fun x w' => x = .returned (.bool (eoL es)) ∧ Below w.heap.size w w' :=
  (callsIn_wide (n := 4)).1 (implEntriesOf_in 4 (by omega) v es q w hr hs ht hq)
end Go.Proofs.YtnodhkjgnegkcaaGreatDoor

namespace Go.Proofs.YtnodhkjgnegkcaaGreatDoor
open Go.RowKit

set_option maxRecDepth 100000 in
set_option maxHeartbeats 4000000 in
theorem exEntriesOf (v : Value) (es : List En) (w : World) (hr : RdEs w v es) (hn : es.length ≤ maxLen) (hm : ∀ e ∈ es, EnFits e) (q : Int) (hq : w.cell? ⟨0, 0, none⟩ = some (.int .i64 q)) (ht : Tab w) :
    Calls Tryz.prog 3 #[v] w fun e w' => e = .returned (.bool true) ∧ Below w.heap.size w w' := by
  have HZ := Lib.hid (szEntryS_any v es 1048576 w hr (by omega) (by omega) hn hm)
  have HT0 := Lib.hid (fun (hg : SmEs es) (W : World) (h : Below w.heap.size w W) => toEntryS_any v es W (hr.below h) hg)
  obtain ⟨z, HX⟩ : ∃ z, Hid (szEs 1048576 es = z) := ⟨_, Lib.hid rfl⟩
  have HTB := Lib.hid (fun (W : World) (h : Below w.heap.size w W) => tab_below ht h)
  have HQ := Lib.hid (fun (W : World) (h : Below w.heap.size w W) => keepC h hq)
  obtain ⟨A, ca, rfl⟩ := hr.slice
  clear hr hn hm ht hq
  by_cases hz : z < 0
  · go_enter Tryz.func3, Tryz.ntmps3
    go_wp2_with fail
    refine HZ.out.mono ?_
    rw [HX.out]
    rintro e w1 ⟨rfl, hb1⟩
    go_wp2_with fail
    go_ret
    exact ⟨rfl, hb1⟩
  obtain ⟨hsm, _, _⟩ := szEs_good (es := es) (left := 1048576) (by omega) (by omega) (by rw [HX.out]; exact hz)
  have HT := Lib.hid (HT0.out hsm)
  have HS := Lib.hid hsm
  have HSP := Lib.hid (fun (V : World) (x : Value) (h : RdEs V x es) => specEntriesOf_any x es V h hsm)
  have HIM := Lib.hid (fun (V : World) (x : Value) (hb : Below w.heap.size w V) (h : RdEs V x es) => implEntriesOf_any x es q V h hsm (HTB.out V hb) (HQ.out V hb))
  obtain ⟨R, HR⟩ : ∃ R, Hid (eoL es = R) := ⟨_, Lib.hid rfl⟩
  simp only [HR.out] at HSP HIM
  clear HT0 hsm
  have q0 : (R != R) = false := by simp
  go_enter Tryz.func3, Tryz.ntmps3
  go_wp2_with fail
  refine HZ.out.mono ?_
  rw [HX.out]
  rintro e w1 ⟨rfl, B1⟩
  go_wp2_with fail
  refine (HT.out _ B1).mono ?_
  rintro e w2 ⟨u2, rfl, hG2, hb2⟩
  obtain ⟨D2, e2, rfl⟩ := hG2.slice
  have B2 := B1.trans (hb2.mono B1.size)
  clear hb2 B1
  go_wp2_with fail
  refine (HSP.out _ _ (RdEs.of_own hG2)).mono ?_
  rintro e w3 ⟨rfl, hb3⟩
  have B3 := B2.trans (hb3.mono B2.size)
  clear hb3 B2 hG2
  go_wp2_with fail
  refine (HT.out _ B3).mono ?_
  rintro e w6 ⟨u6, rfl, hG6, hb6⟩
  obtain ⟨D6, e6, rfl⟩ := hG6.slice
  have B6 := B3.trans (hb6.mono B3.size)
  clear hb6 B3
  go_wp2_with fail
  refine (HIM.out _ _ B6 (RdEs.of_own hG6)).mono ?_
  rintro e w8 ⟨rfl, hb8⟩
  have B8 := B6.trans (hb8.mono B6.size)
  have hG8 := hG6.below hb8
  clear hb8 B6 hG6
  go_wp2_with fail
  refine (HT.out _ B8).mono ?_
  rintro e w9 ⟨u9, rfl, hG9, hb9⟩
  obtain ⟨D9, e9, rfl⟩ := hG9.slice
  have B9 := B8.trans (hb9.mono B8.size)
  have hG8' := hG8.below hb9
  clear hb9 B8 hG8
  go_wp2_with fail
  refine (eqEntryS_same _ _ es _ (RdEs.of_own hG8') (RdEs.of_own hG9) HS.out).mono ?_
  rintro e w10 ⟨rfl, hb10⟩
  go_wp2_with fail
  go_ret
  exact ⟨rfl, B9.trans (hb10.mono B9.size)⟩
end Go.Proofs.YtnodhkjgnegkcaaGreatDoor
