/-
  The laws' own helpers on lists of needs: szNeedS counts them, toNeedS copies them, eqNeedS compares them.
-/
import Derived.Test.YtnodhkjgnegkcaaGreatDoorNdBnd
import Derived.Deep.RegionWith
import Derived.Test.YtnodhkjgnegkcaaGreatDoorNdEq
namespace Go.Proofs.YtnodhkjgnegkcaaGreatDoor.Ndk
open Go.RowKit

set_option maxRecDepth 100000 in
set_option maxHeartbeats 1000000 in
theorem szNeed_any (b c : ByteArray) (left : Int) (w : World) (h0 : 0 ≤ left) (h1 : left ≤ 1048576) (hb : b.size ≤ maxLen) (hc : c.size ≤ maxLen) :
    Calls Tryz.prog 134 #[.agg #[.string b, .string c], .int .i64 left] w fun e w' => e = .returned (.int .i64 (off2 left b.size c.size)) ∧ Below w.heap.size w w' := by
  unfold maxLen at hb hc
  by_cases hx : left - (b.size : Int) < 0
  · have HX : Hid (off2 left b.size c.size = -1) := Lib.hid (by unfold off2; rw [if_pos hx])
    go_enter Tryz.func134, Tryz.ntmps134
    go_wp2
    go_ret
    exact ⟨ret_int HX.out.symm, (Below.refl _ _).alloc (Nat.le_refl _) _⟩
  · by_cases hy : left - (b.size : Int) - (c.size : Int) < 0
    · have HX : Hid (off2 left b.size c.size = -1) := Lib.hid (by unfold off2; rw [if_neg hx, if_pos hy])
      go_enter Tryz.func134, Tryz.ntmps134
      go_wp2
      go_ret
      exact ⟨ret_int HX.out.symm, (Below.refl _ _).alloc (Nat.le_refl _) _⟩
    · have HX : Hid (off2 left b.size c.size = left - b.size - c.size) := Lib.hid (by unfold off2; rw [if_neg hx, if_neg hy])
      go_enter Tryz.func134, Tryz.ntmps134
      go_wp2
      go_ret
      exact ⟨ret_int HX.out.symm, (Below.refl _ _).alloc (Nat.le_refl _) _⟩

set_option maxRecDepth 100000 in
set_option maxHeartbeats 1000000 in
theorem szNeedS_any (v : Value) (bs : List Bd) (left : Int) (w : World) (hr : RdB w v bs) (h0 : 0 ≤ left) (h1 : left ≤ 1048576) (hn : bs.length ≤ maxLen) (hm : ∀ b ∈ bs, b.1.length ≤ maxLen ∧ b.2.length ≤ maxLen) :
    Calls Tryz.prog 87 #[v, .int .i64 left] w fun e w' => e = .returned (.int .i64 (szB left bs)) ∧ Below w.heap.size w w' := by
  have HR := Lib.hid hr
  obtain ⟨A, ca, rfl, ha⟩ := hr
  have HM := Lib.hid hm
  clear hm ha
  unfold maxLen at hn
  by_cases hl : (bs.length : Int) ≤ left
  · go_enter Tryz.func87, Tryz.ntmps87
    go_wp2
    go_loopw [1, 5] (fun m i wr => ∃ (k : Nat) (z : Int), k ≤ bs.length ∧ i = .int .i64 k ∧ m = .int .i64 z ∧ 0 ≤ z ∧ z ≤ 1048576 ∧ Hid (z = left - (bs.length : Int) - (smB (bs.take k) : Int)) ∧ Below w.heap.size w wr) (fun _ i _ => bs.length - (intOf i).toNat)
    case atStart => exact ⟨0, _, Nat.zero_le _, rfl, rfl, by omega, by omega, Lib.hid (by simp [smB]), Below.refl _ _⟩
    case round =>
      obtain ⟨k, z, hk, rfl, rfl, z0, z1, HZ, hb⟩ := hrel
      by_cases hlt : k < bs.length
      · obtain ⟨A', ca', hv, ha⟩ := HR.out.below hb
        simp only [Value.slice.injEq] at hv
        obtain ⟨rfl, _, rfl⟩ := hv
        obtain ⟨g, off, rfl, _, hca⟩ := ha (by omega)
        obtain ⟨x, hx⟩ : ∃ x : ByteArray, x = ⟨bs[k].1.toArray⟩ := ⟨_, rfl⟩
        obtain ⟨y, hy⟩ : ∃ y : ByteArray, y = ⟨bs[k].2.toArray⟩ := ⟨_, rfl⟩
        have d1 : wr.cell? ⟨g, off + k * 2, none⟩ = some (.string x) := by rw [hx]; exact (hca k hlt).1
        have d2 : wr.cell? ⟨g, off + k * 2 + 1, none⟩ = some (.string y) := by rw [hy]; exact (hca k hlt).2
        have HX : Hid (x.size = bs[k].1.length) := Lib.hid (by rw [hx]; exact size_of _)
        have HY : Hid (y.size = bs[k].2.length) := Lib.hid (by rw [hy]; exact size_of _)
        have HC := Lib.hid (fun W => szNeed_any x y z W z0 z1 (by have := (HM.out bs[k] (List.getElem_mem hlt)).1; have := HX.out; omega) (by have := (HM.out bs[k] (List.getElem_mem hlt)).2; have := HY.out; omega))
        have k0 : (0 : Int) ≤ (k : Int) := by omega
        have k1 : (k : Int) < (bs.length : Int) := by omega
        have HS := Lib.hid (smB_snoc bs k hlt)
        have HT := Lib.hid (smB_le bs (k + 1))
        clear ha hca hx hy
        by_cases hz : z - (x.size : Int) - (y.size : Int) < 0
        · have HO : Hid (off2 z x.size y.size = -1) := Lib.hid (by unfold off2; by_cases hq : z - (x.size : Int) < 0; exact if_pos hq; rw [if_neg hq]; exact if_pos hz)
          have HW : Hid (szB left bs = -1) := Lib.hid (szB_no (by have := HZ.out; have := HS.out; have := HT.out; have := HX.out; have := HY.out; omega))
          go_wp2_with fail
          refine (HC.out _).mono ?_
          rw [HO.out]
          rintro e w1 ⟨rfl, hb1⟩
          have B1 := hb.trans (hb1.mono hb.size)
          go_wp2_with fail
          go_ret
          exact ⟨ret_int HW.out.symm, B1⟩
        · have HO : Hid (off2 z x.size y.size = z - (x.size : Int) - (y.size : Int)) := Lib.hid (by unfold off2; rw [if_neg (by omega), if_neg hz])
          go_wp2_with fail
          refine (HC.out _).mono ?_
          rw [HO.out]
          rintro e w1 ⟨rfl, hb1⟩
          have B1 := hb.trans (hb1.mono hb.size)
          go_wp2_with fail
          go_roundw
          case rel => exact ⟨k + 1, _, by omega, by go_num, rfl, by omega, by omega, Lib.hid (by have := HZ.out; have := HS.out; have := HX.out; have := HY.out; omega), B1⟩
          case measure => simp [intOf]; omega
      · have HX : Hid (szB left bs = z) := Lib.hid (by
          have hz := HZ.out
          rw [List.take_of_length_le (by omega)] at hz
          rw [szB_yes (by omega)]; omega)
        go_wp2_with fail
        go_ret
        exact ⟨ret_int HX.out.symm, hb⟩
  · have HX : Hid (szB left bs = -1) := Lib.hid (szB_no (by omega))
    go_enter Tryz.func87, Tryz.ntmps87
    go_wp2
    go_ret
    exact ⟨ret_int HX.out.symm, Below.refl _ _⟩

set_option maxRecDepth 100000 in
set_option maxHeartbeats 1000000 in
theorem toNeed_any (b c : ByteArray) (w : World) :
    Calls Tryz.prog 148 #[.agg #[.string b, .string c]] w fun e w' => e = .returned (.agg #[.string b, .string c]) ∧ Below w.heap.size w w' := by
  go_enter Tryz.func148, Tryz.ntmps148
  go_wp2_with fail
  refine bodyPost_ret (v := .agg #[.string b, .string c]) ?_ rfl ⟨rfl, ?_⟩
  · simp [results, Tryz.results148, go_sem]
  · exact (((Below.refl _ _).alloc (Nat.le_refl _) _).alloc (by simp) _).alloc (by simp; omega) _

theorem nds_made {w : World} {base : Nat} {v : Value} {n : Nat} (h : w.ownsRow base 65 2 v n (madeCells (Value.agg #[.string ⟨#[]⟩, .string ⟨#[]⟩]).cells (n * 2)).toList) : Nds w base v (List.replicate n ([], [])) := by
  unfold Nds
  have e : (madeCells (Value.agg #[.string ⟨#[]⟩, .string ⟨#[]⟩]).cells (n * 2)).toList = flat2 (List.replicate n ([], [])) := by
    rw [flat2_rep]
    apply List.ext_getElem?
    intro j
    by_cases hj : j < n * 2
    · rcases Nat.mod_two_eq_zero_or_one j with h2 | h2 <;> simp [madeCells, hj, sv, Value.cells, h2]
    · simp [madeCells, hj]
  rw [← e]
  simpa using h

set_option maxRecDepth 100000 in
set_option maxHeartbeats 1000000 in
theorem toNeedS_any (v : Value) (bs : List Bd) (w : World) (hr : RdB w v bs) (hl : bs.length ≤ 1048576) :
    Calls Tryz.prog 95 #[v] w fun e w' => ∃ g cap, e = .returned (.slice (some ⟨g, 0, none⟩) bs.length cap) ∧ Nds w' w.heap.size (.slice (some ⟨g, 0, none⟩) bs.length cap) bs ∧ Below w.heap.size w w' := by
  have HR := Lib.hid hr
  obtain ⟨A, ca, rfl, ha⟩ := hr
  obtain ⟨i0, hi, hz0, hz1, hz2⟩ := info_parts bndinfo
  go_enter Tryz.func95, Tryz.ntmps95
  go_wp2_with (at_make; refine wpList_make_full _ rfl _ _ 60 rfl w.heap.size 65 i0 (.agg #[.string ⟨#[]⟩, .string ⟨#[]⟩]) 2 Tryz.underlying60 hi hz0 hz1 .i64 .i64 _ _ bs.length rfl rfl rfl rfl (by rw [hz2]; omega) (by unfold maxLen; omega) (Nat.le_refl _) ?_; intro w1 hown1 hg1)
  have hS1 := nds_made hown1
  have hb1 : Below w.heap.size w w1 := (Below.refl _ _).grown hg1 (Nat.le_refl _) (by simp)
  clear hown1 hg1 hi hz0 hz1 hz2 ha
  go_loopw [4] (fun i wr => ∃ k : Nat, k ≤ bs.length ∧ i = .int .i64 k ∧ Nds wr w.heap.size (.slice (some ⟨w.heap.size, 0, none⟩) bs.length bs.length) (tkB k bs) ∧ Below w.heap.size w wr) (fun i _ => bs.length - (intOf i).toNat)
  case atStart => exact ⟨0, Nat.zero_le _, rfl, by rw [tkB_zero]; exact hS1, hb1⟩
  case round =>
    obtain ⟨k, hk, rfl, hS, hb⟩ := hrel
    by_cases hlt : k < bs.length
    · obtain ⟨A', ca', hv, ha⟩ := HR.out.below hb
      simp only [Value.slice.injEq] at hv
      obtain ⟨rfl, _, rfl⟩ := hv
      obtain ⟨g, off, rfl, _, hca⟩ := ha (by omega)
      have d1 : wr.cell? ⟨g, off + k * 2, none⟩ = some (.string ⟨bs[k].1.toArray⟩) := (hca k hlt).1
      have d2 : wr.cell? ⟨g, off + k * 2 + 1, none⟩ = some (.string ⟨bs[k].2.toArray⟩) := (hca k hlt).2
      have k0 : (0 : Int) ≤ (k : Int) := by omega
      have k1 : (k : Int) < (bs.length : Int) := by omega
      clear ha hca hS1 hb1
      go_wp2_with fail
      refine (toNeed_any _ _ _).mono ?_
      rintro e w2 ⟨rfl, hb2⟩
      have hS2 := hS.below hb2
      have hS' : Nds w2 w.heap.size (.slice (some ⟨w.heap.size, 0, none⟩) (tkB k bs).length bs.length) (tkB k bs) := by rw [tkB_len k bs hk]; exact hS2
      obtain ⟨c2, c3⟩ := hS2.cell k (by rw [tkB_len k bs hk]; exact hlt)
      have f2 : ∀ j, w2.frozen? ⟨w.heap.size, j, none⟩ = false := fun j => World.ownsRow.frozenAt hS' j
      have B2 := hb.trans (hb2.mono hb.size)
      clear hS hb hb2 d1 d2
      go_wp2_with fail
      go_roundw
      case rel => exact ⟨k + 1, by omega, by go_num, by have := hS'.set k bs[k]; rw [tkB_set k bs hlt, tkB_len (k + 1) bs (by omega)] at this; exact this, (B2.setCell (p := ⟨w.heap.size, k * 2, none⟩) (Nat.le_refl _) _).setCell (p := ⟨w.heap.size, k * 2 + 1, none⟩) (Nat.le_refl _) _⟩
      case measure => simp [intOf]; omega
    · obtain rfl : k = bs.length := by omega
      rw [tkB_all] at hS
      clear hS1 hb1
      go_wp2_with fail
      go_ret
      exact ⟨_, _, rfl, hS, hb⟩

end Go.Proofs.YtnodhkjgnegkcaaGreatDoor.Ndk
