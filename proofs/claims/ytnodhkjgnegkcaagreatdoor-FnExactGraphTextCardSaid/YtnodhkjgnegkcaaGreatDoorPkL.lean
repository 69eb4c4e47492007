/-
  The laws' own helpers on lists of packs and on graphs: szPackS, toPackS, eqPackS, szGraph, toGraph, eqGraph.
-/
import Derived.Test.YtnodhkjgnegkcaaGreatDoorLawP
import Derived.Test.YtnodhkjgnegkcaaGreatDoorPkO
namespace Go.Proofs.YtnodhkjgnegkcaaGreatDoor
open Go.RowKit

set_option maxRecDepth 100000 in
set_option maxHeartbeats 2000000 in
theorem szPackS_any (v : Value) (ps : List Pk) (left : Int) (w : World) (hr : RdPs w v ps) (h0 : 0 ≤ left) (h1 : left ≤ 1048576) (hn : ps.length ≤ maxLen) (hm : ∀ p ∈ ps, PkFits p) :
    Calls Tryz.prog 50 #[v, .int .i64 left] w fun e w' => e = .returned (.int .i64 (szPs left ps)) ∧ Below w.heap.size w w' := by
  have HR := Lib.hid hr
  obtain ⟨A, ca, rfl, ha⟩ := hr
  have HM := Lib.hid hm
  clear hm ha
  unfold maxLen at hn
  by_cases hl : (ps.length : Int) ≤ left
  · go_enter Tryz.func50, Tryz.ntmps50
    go_wp2
    go_loopw [1, 5] (fun m i wr => ∃ (k : Nat) (z : Int), k ≤ ps.length ∧ i = .int .i64 k ∧ m = .int .i64 z ∧ 0 ≤ z ∧ z ≤ 1048576 ∧ Hid (z = left - (ps.length : Int) - (smP (ps.take k) : Int)) ∧ Below w.heap.size w wr) (fun _ i _ => ps.length - (intOf i).toNat)
    case atStart => exact ⟨0, _, Nat.zero_le _, rfl, rfl, by omega, by omega, Lib.hid (by simp [smP]), Below.refl _ _⟩
    case round =>
      obtain ⟨k, z, hk, rfl, rfl, z0, z1, HZ, hb⟩ := hrel
      by_cases hlt : k < ps.length
      · obtain ⟨g, off, rfl, _, a, b, d0, d1, d2, d3, d4, d5, ra, rb⟩ := (HR.out.below hb).at k hlt
        have HC := Lib.hid (szPack_any ps[k] a b z wr ra rb z0 z1 (HM.out ps[k] (List.getElem_mem hlt)))
        obtain ⟨A1, c1, rfl⟩ := ra.slice
        obtain ⟨A2, c2, rfl⟩ := rb.slice
        have k0 : (0 : Int) ≤ (k : Int) := by omega
        have k1 : (k : Int) < (ps.length : Int) := by omega
        have HS := Lib.hid (smP_snoc ps k hlt)
        have HT := Lib.hid (smP_le ps (k + 1))
        clear ra rb
        by_cases hz : (wP ps[k] : Int) ≤ z
        · have HO := Lib.hid (szP_yes hz)
          have hz2 : (0 : Int) ≤ z - (wP ps[k] : Int) := by omega
          have hz3 : z - (wP ps[k] : Int) ≤ 1048576 := by omega
          obtain ⟨y, hy⟩ : ∃ y, y = z - (wP ps[k] : Int) := ⟨_, rfl⟩
          rw [← hy] at HO hz2 hz3
          go_wp2_with fail
          refine HC.out.mono ?_
          rw [HO.out]
          rintro e w1 ⟨rfl, hb1⟩
          have B1 := hb.trans (hb1.mono hb.size)
          go_wp2_with fail
          go_roundw
          case rel => exact ⟨k + 1, _, by omega, by go_num, rfl, by omega, by omega, Lib.hid (by have := HZ.out; have := HS.out; omega), B1⟩
          case measure => simp [intOf]; omega
        · have HO := Lib.hid (szP_no hz)
          have HW : Hid (szPs left ps = -1) := Lib.hid (szPs_no (by have := HZ.out; have := HS.out; have := HT.out; omega))
          go_wp2_with fail
          refine HC.out.mono ?_
          rw [HO.out]
          rintro e w1 ⟨rfl, hb1⟩
          have B1 := hb.trans (hb1.mono hb.size)
          go_wp2_with fail
          go_ret
          exact ⟨ret_int HW.out.symm, B1⟩
      · have HX : Hid (szPs left ps = z) := Lib.hid (by
          have hz := HZ.out
          rw [List.take_of_length_le (by omega)] at hz
          rw [szPs_yes (by omega)]; omega)
        go_wp2_with fail
        go_ret
        exact ⟨ret_int HX.out.symm, hb⟩
  · have HX : Hid (szPs left ps = -1) := Lib.hid (szPs_no (by omega))
    go_enter Tryz.func50, Tryz.ntmps50
    go_wp2
    go_ret
    exact ⟨ret_int HX.out.symm, Below.refl _ _⟩

set_option maxRecDepth 100000 in
set_option maxHeartbeats 2000000 in
theorem toPackS_any (v : Value) (ps : List Pk) (w : World) (hr : RdPs w v ps) (hs : SmPs ps) :
    Calls Tryz.prog 53 #[v] w fun e w' => ∃ u, e = .returned u ∧ PksOwn w' w.heap.size u ps ∧ Below w.heap.size w w' := by
  have HR := Lib.hid hr
  have HS := Lib.hid hs
  have hl : ps.length ≤ 1048576 := by unfold SmPs at hs; omega
  obtain ⟨A, ca, rfl, ha⟩ := hr
  obtain ⟨i0, hi, hz0, hz1, hz2⟩ := info_parts pkinfo
  go_enter Tryz.func53, Tryz.ntmps53
  go_wp2_with (at_make; refine wpList_make_full _ rfl _ _ 35 rfl w.heap.size 78 i0 (.agg #[.string ⟨#[]⟩, .string ⟨#[]⟩, .string ⟨#[]⟩, .slice none 0 0, .bool false, .slice none 0 0]) 6 Tryz.underlying35 hi hz0 hz1 .i64 .i64 _ _ ps.length rfl rfl rfl rfl (by rw [hz2]; omega) (by unfold maxLen; omega) (Nat.le_refl _) ?_; intro w1 hown1 hg1)
  have hS1 := packs_made hown1
  have hb1 : Below w.heap.size w w1 := (Below.refl _ _).grown hg1 (Nat.le_refl _) (by simp)
  have hz3 : w.heap.size < w1.heap.size := by
    rcases hown1.2 with ⟨hv, _⟩ | ⟨g, cap, cur, hv, hb, hh, _⟩
    · cases hv
    · simp only [Value.slice.injEq, Option.some.injEq, Addr.mk.injEq] at hv
      have := lt_of_heap hh; omega
  clear hown1 hg1 hi hz0 hz1 hz2 ha hs
  go_loopw [4] (fun i wr => ∃ (k : Nat) (qs : List PkV), k ≤ ps.length ∧ i = .int .i64 k ∧ qs.map (·.1) = ps.take k ∧ Packs wr w.heap.size (.slice (some ⟨w.heap.size, 0, none⟩) ps.length ps.length) (tkP qs ps.length) ∧ Hid (∀ q ∈ qs, PkOwn wr (w.heap.size + 1) q) ∧ Below w.heap.size w wr ∧ w.heap.size < wr.heap.size) (fun i _ => ps.length - (intOf i).toNat)
  case atStart => exact ⟨0, [], Nat.zero_le _, rfl, by simp, by simpa [tkP] using hS1, Lib.hid (fun q h => by cases h), hb1, hz3⟩
  case round =>
    obtain ⟨k, qs, hk, rfl, hq, hS, HQ, hb, hgt⟩ := hrel
    have hqk : qs.length = k := by have := congrArg List.length hq; simp at this; omega
    by_cases hlt : k < ps.length
    · obtain ⟨g, off, rfl, _, a, b, d0, d1, d2, d3, d4, d5, ra, rb⟩ := (HR.out.below hb).at k hlt
      have HC := Lib.hid (toPack_any ps[k] a b wr ra rb (HS.out.get k hlt))
      obtain ⟨A1, c1, rfl⟩ := ra.slice
      obtain ⟨A2, c2, rfl⟩ := rb.slice
      have k0 : (0 : Int) ≤ (k : Int) := by omega
      have k1 : (k : Int) < (ps.length : Int) := by omega
      clear ra rb hS1 hb1 hz3
      go_wp2_with fail
      refine HC.out.mono ?_
      rintro e w2 ⟨g1, e1, g2, e2, rfl, hA, hB, hne, hb2⟩
      have hS2 := hS.below hb2
      have hS' : Packs w2 w.heap.size (.slice (some ⟨w.heap.size, 0, none⟩) (tkP qs ps.length).length ps.length) (tkP qs ps.length) := by rw [tkP_len qs _ (by omega)]; exact hS2
      obtain ⟨f0, f1, f2, f3, f4, f5⟩ := hS2.cell k (by rw [tkP_len qs _ (by omega)]; exact hlt)
      have fz : ∀ j, w2.frozen? ⟨w.heap.size, j, none⟩ = false := fun j => World.ownsRow.frozenAt hS' j
      have B2 := hb.trans (hb2.mono hb.size)
      have hq' : (qs ++ [(ps[k], (Value.slice (some ⟨g1, 0, none⟩) ps[k].sums.length e1, Value.slice (some ⟨g2, 0, none⟩) ps[k].needs.length e2))]).map (·.1) = ps.take (k + 1) := by
        rw [List.map_append, hq, List.take_succ_eq_append_getElem hlt]; rfl
      have HQ2 : Hid (∀ q ∈ qs ++ [(ps[k], (Value.slice (some ⟨g1, 0, none⟩) ps[k].sums.length e1, Value.slice (some ⟨g2, 0, none⟩) ps[k].needs.length e2))], PkOwn w2 (w.heap.size + 1) q) := Lib.hid (by
        intro q hq
        rcases List.mem_append.1 hq with h | h
        · exact (HQ.out q h).below hb2
        · simp at h; subst h; exact ⟨hA.weaken (by omega), hB.weaken (by omega)⟩)
      have hgt2 : w.heap.size < w2.heap.size := Nat.lt_of_lt_of_le hgt hb2.size
      have HP := Lib.hid (hS'.set k (ps[k], (Value.slice (some ⟨g1, 0, none⟩) ps[k].sums.length e1, Value.slice (some ⟨g2, 0, none⟩) ps[k].needs.length e2)))
      have HT := Lib.hid (by have := tkP_set qs ps.length (by omega) (ps[k], (Value.slice (some ⟨g1, 0, none⟩) ps[k].sums.length e1, Value.slice (some ⟨g2, 0, none⟩) ps[k].needs.length e2)); rw [hqk] at this; exact this)
      have HQ3 := Lib.hid (fun q h => (HQ2.out q h).put6 w.heap.size (k * 6) (ps[k], (Value.slice (some ⟨g1, 0, none⟩) ps[k].sums.length e1, Value.slice (some ⟨g2, 0, none⟩) ps[k].needs.length e2)) (by omega))
      have HB3 := Lib.hid (below_put6 (o := k * 6) (q := (ps[k], (Value.slice (some ⟨g1, 0, none⟩) ps[k].sums.length e1, Value.slice (some ⟨g2, 0, none⟩) ps[k].needs.length e2))) B2 (Nat.le_refl _))
      rw [HT.out, tkP_len _ _ (by simp; omega)] at HP
      simp only [put6] at HP HQ3 HB3
      clear hS hb hb2 d0 d1 d2 d3 d4 d5 HQ hA hB hS' HQ2 B2 HT HC
      go_wp2_with fail
      go_roundw
      case rel => exact ⟨k + 1, _, by omega, by go_num, hq', HP.out, HQ3, HB3.out, by simp only [World.size_setCell]; exact hgt2⟩
      case measure => simp [intOf]; omega
    · obtain rfl : k = ps.length := by omega
      clear hS1 hb1
      go_wp2_with fail
      go_ret
      refine ⟨_, rfl, ⟨w.heap.size, _, qs, rfl, Nat.le_refl _, hgt, by rw [hq]; simp, ?_, HQ.out⟩, hb⟩
      simpa [tkP, hqk] using hS

set_option maxRecDepth 100000 in
set_option maxHeartbeats 2000000 in
theorem eqPackS_same (va vb : Value) (ps : List Pk) (w : World) (ha : RdPs w va ps) (hb : RdPs w vb ps) (hs : SmPs ps) :
    Calls Tryz.prog 58 #[va, vb] w fun e w' => e = .returned (.bool true) ∧ Below w.heap.size w w' := by
  have HA := Lib.hid ha
  have HB := Lib.hid hb
  have HS := Lib.hid hs
  have hl : ps.length ≤ 1048576 := by unfold SmPs at hs; omega
  obtain ⟨A, ca, rfl, ha⟩ := ha
  obtain ⟨B, cb, rfl, hb⟩ := hb
  have q0 : ((ps.length : Int) != (ps.length : Int)) = false := int_bne_false rfl
  clear ha hb hs
  go_enter Tryz.func58, Tryz.ntmps58
  go_wp2_with fail
  go_loopw [5] (fun i wr => ∃ k : Nat, k ≤ ps.length ∧ i = .int .i64 k ∧ Below w.heap.size w wr) (fun i _ => ps.length - (intOf i).toNat)
  case atStart => exact ⟨0, Nat.zero_le _, rfl, Below.refl _ _⟩
  case round =>
    obtain ⟨k, hk, rfl, hw⟩ := hrel
    by_cases hlt : k < ps.length
    · obtain ⟨g, off, rfl, hg, a, b, d0, d1, d2, d3, d4, d5, ra, rb⟩ := (HA.out.below hw).at k hlt
      obtain ⟨g', off', rfl, hg', a', b', e0, e1, e2, e3, e4, e5, ra', rb'⟩ := (HB.out.below hw).at k hlt
      have HC := Lib.hid (fun (W : World) (h : Below wr.heap.size wr W) => eqPack_same ps[k] a b a' b' W (ra.below h) (rb.below h) (ra'.below h) (rb'.below h) (HS.out.get k hlt))
      obtain ⟨A1, c1, rfl⟩ := ra.slice
      obtain ⟨A2, c2, rfl⟩ := rb.slice
      obtain ⟨A3, c3, rfl⟩ := ra'.slice
      obtain ⟨A4, c4, rfl⟩ := rb'.slice
      have k0 : (0 : Int) ≤ (k : Int) := by omega
      have k1 : (k : Int) < (ps.length : Int) := by omega
      clear ra rb ra' rb'
      go_wp2_with fail
      go_region_with (first | (go_at_call 111; refine (HC.out _ (below_drewN _ _ 1)).mono ?_; rintro e w1 ⟨rfl, hb1⟩))
      all_goals
        go_wp2_with fail
        go_roundw
        case rel => exact ⟨k + 1, by omega, by go_num, hw.trans ((below_drewN _ _ 1).trans (hb1.mono (by first | exact Nat.le_refl _ | exact hw.size)))⟩
        case measure => simp [intOf]; omega
    · go_wp2_with fail
      go_ret
      exact ⟨rfl, hw⟩
end Go.Proofs.YtnodhkjgnegkcaaGreatDoor
