/-
  The laws' own helpers on lists of fields: szFieldS, toFieldS, eqFieldS.
-/
import Derived.Test.YtongpnknmgbhjaaFdO
import Derived.Deep.RegionWith
namespace Go.Proofs.Ytongpnknmgbhjaa
open Go.RowKit

set_option maxRecDepth 100000 in
set_option maxHeartbeats 2000000 in
theorem szFieldS_any (v : Value) (ps : List Fd) (left : Int) (w : World) (hr : RdFs w v ps) (h0 : 0 ≤ left) (h1 : left ≤ 1048576) (hn : ps.length ≤ maxLen) (hm : ∀ p ∈ ps, FdFits p) :
    Calls Try.prog 39 #[v, .int .i64 left] w fun e w' => e = .returned (.int .i64 (szFs left ps)) ∧ Below w.heap.size w w' := by
  have HR := Lib.hid hr
  obtain ⟨A, ca, rfl, ha⟩ := hr
  have HM := Lib.hid hm
  clear hm ha
  unfold maxLen at hn
  by_cases hl : (ps.length : Int) ≤ left
  · go_enter Try.func39, Try.ntmps39
    go_wp2
    go_loopw [1, 5] (fun m i wr => ∃ (k : Nat) (z : Int), k ≤ ps.length ∧ i = .int .i64 k ∧ m = .int .i64 z ∧ 0 ≤ z ∧ z ≤ 1048576 ∧ Hid (z = left - (ps.length : Int) - (smF (ps.take k) : Int)) ∧ Below w.heap.size w wr) (fun _ i _ => ps.length - (intOf i).toNat)
    case atStart => exact ⟨0, _, Nat.zero_le _, rfl, rfl, by omega, by omega, Lib.hid (by simp [smF]), Below.refl _ _⟩
    case round =>
      obtain ⟨k, z, hk, rfl, rfl, z0, z1, HZ, hb⟩ := hrel
      by_cases hlt : k < ps.length
      · obtain ⟨g, off, rfl, _, a, d0, d1, d2, d3, ra⟩ := (HR.out.below hb).at k hlt
        have HC := Lib.hid (szField_any ps[k] a z wr ra z0 z1 (HM.out ps[k] (List.getElem_mem hlt)))
        obtain ⟨A1, c1, rfl⟩ := ra.slice
        have k0 : (0 : Int) ≤ (k : Int) := by omega
        have k1 : (k : Int) < (ps.length : Int) := by omega
        have HS := Lib.hid (smF_snoc ps k hlt)
        have HT := Lib.hid (smF_le ps (k + 1))
        clear ra
        by_cases hz : (wF ps[k] : Int) ≤ z
        · have HO := Lib.hid (szF_yes hz)
          have hz2 : (0 : Int) ≤ z - (wF ps[k] : Int) := by omega
          have hz3 : z - (wF ps[k] : Int) ≤ 1048576 := by omega
          obtain ⟨y, hy⟩ : ∃ y, y = z - (wF ps[k] : Int) := ⟨_, rfl⟩
          rw [← hy] at HO hz2 hz3
          go_wp2_with fail
          refine HC.out.mono ?_
          rw [HO.out]
          rintro e w1 ⟨rfl, hb1⟩
          have B1 := hb.trans (hb1.mono hb.size)
          go_wp2_with fail
          go_roundw
          case rel => exact ⟨k + 1, _, by omega, by go_num, rfl, by omega, by omega, Lib.hid (by have := HZ.out; have := HS.out; omega), B1⟩
          case measure => simp [intOf]; omega
        · have HO := Lib.hid (szF_no hz)
          have HW : Hid (szFs left ps = -1) := Lib.hid (szFs_no (by have := HZ.out; have := HS.out; have := HT.out; omega))
          go_wp2_with fail
          refine HC.out.mono ?_
          rw [HO.out]
          rintro e w1 ⟨rfl, hb1⟩
          have B1 := hb.trans (hb1.mono hb.size)
          go_wp2_with fail
          go_ret
          exact ⟨ret_int HW.out.symm, B1⟩
      · have HX : Hid (szFs left ps = z) := Lib.hid (by
          have hz := HZ.out
          rw [List.take_of_length_le (by omega)] at hz
          rw [szFs_yes (by omega)]; omega)
        go_wp2_with fail
        go_ret
        exact ⟨ret_int HX.out.symm, hb⟩
  · have HX : Hid (szFs left ps = -1) := Lib.hid (szFs_no (by omega))
    go_enter Try.func39, Try.ntmps39
    go_wp2
    go_ret
    exact ⟨ret_int HX.out.symm, Below.refl _ _⟩

set_option maxRecDepth 100000 in
set_option maxHeartbeats 2000000 in
theorem toFieldS_any (v : Value) (ps : List Fd) (w : World) (hr : RdFs w v ps) (hs : SmFs ps) :
    Calls Try.prog 42 #[v] w fun e w' => ∃ u, e = .returned u ∧ FdsOwn w' w.heap.size u ps ∧ Below w.heap.size w w' := by
  have HR := Lib.hid hr
  have HS := Lib.hid hs
  have hl : ps.length ≤ 1048576 := by unfold SmFs at hs; omega
  obtain ⟨A, ca, rfl, ha⟩ := hr
  obtain ⟨i0, hi, hz0, hz1, hz2⟩ := info_parts fdinfo
  go_enter Try.func42, Try.ntmps42
  go_wp2_with (at_make; refine wpList_make_full _ rfl _ _ 30 rfl w.heap.size 35 i0 (.agg #[.string ⟨#[]⟩, .string ⟨#[]⟩, .slice none 0 0, .bool false]) 4 Try.underlying30 hi hz0 hz1 .i64 .i64 _ _ ps.length rfl rfl rfl rfl (by rw [hz2]; omega) (by unfold maxLen; omega) (Nat.le_refl _) ?_; intro w1 hown1 hg1)
  have hS1 := fields_made hown1
  have hb1 : Below w.heap.size w w1 := (Below.refl _ _).grown hg1 (Nat.le_refl _) (by simp)
  have hz3 : w.heap.size < w1.heap.size := by
    rcases hown1.2 with ⟨hv, _⟩ | ⟨g, cap, cur, hv, hb, hh, _⟩
    · cases hv
    · simp only [Value.slice.injEq, Option.some.injEq, Addr.mk.injEq] at hv
      have := lt_of_heap hh; omega
  clear hown1 hg1 hi hz0 hz1 hz2 ha hs
  go_loopw [4] (fun i wr => ∃ (k : Nat) (qs : List FdV), k ≤ ps.length ∧ i = .int .i64 k ∧ qs.map (·.1) = ps.take k ∧ Fields wr w.heap.size (.slice (some ⟨w.heap.size, 0, none⟩) ps.length ps.length) (tkF qs ps.length) ∧ Hid (∀ q ∈ qs, FdOwn wr (w.heap.size + 1) q) ∧ Below w.heap.size w wr ∧ w.heap.size < wr.heap.size) (fun i _ => ps.length - (intOf i).toNat)
  case atStart => exact ⟨0, [], Nat.zero_le _, rfl, by simp, by simpa [tkF] using hS1, Lib.hid (fun q h => by cases h), hb1, hz3⟩
  case round =>
    obtain ⟨k, qs, hk, rfl, hq, hS, HQ, hb, hgt⟩ := hrel
    have hqk : qs.length = k := by have := congrArg List.length hq; simp at this; omega
    by_cases hlt : k < ps.length
    · obtain ⟨g, off, rfl, _, a, d0, d1, d2, d3, ra⟩ := (HR.out.below hb).at k hlt
      have HC := Lib.hid (toField_any ps[k] a wr ra (HS.out.get k hlt))
      obtain ⟨A1, c1, rfl⟩ := ra.slice
      have k0 : (0 : Int) ≤ (k : Int) := by omega
      have k1 : (k : Int) < (ps.length : Int) := by omega
      clear ra hS1 hb1 hz3
      go_wp2_with fail
      refine HC.out.mono ?_
      rintro e w2 ⟨g1, e1, rfl, hA, hb2⟩
      have hS2 := hS.below hb2
      have hS' : Fields w2 w.heap.size (.slice (some ⟨w.heap.size, 0, none⟩) (tkF qs ps.length).length ps.length) (tkF qs ps.length) := by rw [tkF_len qs _ (by omega)]; exact hS2
      obtain ⟨f0, f1, f2, f3⟩ := hS2.cell k (by rw [tkF_len qs _ (by omega)]; exact hlt)
      have fz : ∀ j, w2.frozen? ⟨w.heap.size, j, none⟩ = false := fun j => World.ownsRow.frozenAt hS' j
      have B2 := hb.trans (hb2.mono hb.size)
      have hq' : (qs ++ [(ps[k], Value.slice (some ⟨g1, 0, none⟩) ps[k].list.length e1)]).map (·.1) = ps.take (k + 1) := by
        rw [List.map_append, hq, List.take_succ_eq_append_getElem hlt]; rfl
      have HQ2 : Hid (∀ q ∈ qs ++ [(ps[k], Value.slice (some ⟨g1, 0, none⟩) ps[k].list.length e1)], FdOwn w2 (w.heap.size + 1) q) := Lib.hid (by
        intro q hq
        rcases List.mem_append.1 hq with h | h
        · exact (HQ.out q h).below hb2
        · simp at h; subst h; exact hA.weaken (by omega))
      have hgt2 : w.heap.size < w2.heap.size := Nat.lt_of_lt_of_le hgt hb2.size
      have HP := Lib.hid (hS'.set k (ps[k], Value.slice (some ⟨g1, 0, none⟩) ps[k].list.length e1))
      have HT := Lib.hid (by have := tkF_set qs ps.length (by omega) (ps[k], Value.slice (some ⟨g1, 0, none⟩) ps[k].list.length e1); rw [hqk] at this; exact this)
      have HQ3 := Lib.hid (fun q h => (HQ2.out q h).put4 w.heap.size (k * 4) (ps[k], Value.slice (some ⟨g1, 0, none⟩) ps[k].list.length e1) (by omega))
      have HB3 := Lib.hid (below_put4 (o := k * 4) (q := (ps[k], Value.slice (some ⟨g1, 0, none⟩) ps[k].list.length e1)) B2 (Nat.le_refl _))
      rw [HT.out, tkF_len _ _ (by simp; omega)] at HP
      simp only [put4] at HP HQ3 HB3
      clear hS hb hb2 d0 d1 d2 d3 HQ hA hS' HQ2 B2 HT HC
      go_wp2_with fail
      go_roundw
      case rel => exact ⟨k + 1, _, by omega, by go_num, hq', HP.out, HQ3, HB3.out, by simp only [World.size_setCell]; exact hgt2⟩
      case measure => simp [intOf]; omega
    · obtain rfl : k = ps.length := by omega
      clear hS1 hb1
      go_wp2_with fail
      go_ret
      refine ⟨_, rfl, ⟨w.heap.size, _, qs, rfl, Nat.le_refl _, hgt, by rw [hq]; simp, ?_, HQ.out⟩, hb⟩
      simpa [tkF, hqk] using hS

set_option maxRecDepth 100000 in
set_option maxHeartbeats 2000000 in
theorem eqFieldS_same (va vb : Value) (ps : List Fd) (w : World) (ha : RdFs w va ps) (hb : RdFs w vb ps) (hs : SmFs ps) :
    Calls Try.prog 49 #[va, vb] w fun e w' => e = .returned (.bool true) ∧ Below w.heap.size w w' := by
  have HA := Lib.hid ha
  have HB := Lib.hid hb
  have HS := Lib.hid hs
  have hl : ps.length ≤ 1048576 := by unfold SmFs at hs; omega
  obtain ⟨A, ca, rfl, ha⟩ := ha
  obtain ⟨B, cb, rfl, hb⟩ := hb
  have q0 : ((ps.length : Int) != (ps.length : Int)) = false := int_bne_false rfl
  clear ha hb hs
  go_enter Try.func49, Try.ntmps49
  go_wp2_with fail
  go_loopw [5] (fun i wr => ∃ k : Nat, k ≤ ps.length ∧ i = .int .i64 k ∧ Below w.heap.size w wr) (fun i _ => ps.length - (intOf i).toNat)
  case atStart => exact ⟨0, Nat.zero_le _, rfl, Below.refl _ _⟩
  case round =>
    obtain ⟨k, hk, rfl, hw⟩ := hrel
    by_cases hlt : k < ps.length
    · obtain ⟨g, off, rfl, hg, a, d0, d1, d2, d3, ra⟩ := (HA.out.below hw).at k hlt
      obtain ⟨g', off', rfl, hg', a', e0, e1, e2, e3, ra'⟩ := (HB.out.below hw).at k hlt
      have HC := Lib.hid (fun (W : World) (h : Below wr.heap.size wr W) => eqField_same ps[k] a a' W (ra.below h) (ra'.below h) (HS.out.get k hlt))
      obtain ⟨A1, c1, rfl⟩ := ra.slice
      obtain ⟨A3, c3, rfl⟩ := ra'.slice
      have k0 : (0 : Int) ≤ (k : Int) := by omega
      have k1 : (k : Int) < (ps.length : Int) := by omega
      clear ra ra'
      go_wp2_with fail
      go_region_with (first | (go_at_call 15; refine (HC.out _ (below_drewN _ _ 1)).mono ?_; rintro e w1 ⟨rfl, hb1⟩))
      all_goals
        go_wp2_with fail
        go_roundw
        case rel => exact ⟨k + 1, by omega, by go_num, hw.trans ((below_drewN _ _ 1).trans (hb1.mono (by first | exact Nat.le_refl _ | exact hw.size)))⟩
        case measure => simp [intOf]; omega
    · go_wp2_with fail
      go_ret
      exact ⟨rfl, hw⟩
end Go.Proofs.Ytongpnknmgbhjaa
