/-
  The laws' own helpers on lists of bounds: szBoundS counts them, toBoundS copies them, eqBoundS compares them.
-/
import Derived.Test.YtjpclglklmlhlabGreatDoorBnd
import Derived.Deep.RegionWith
namespace Go.Proofs.YtjpclglklmlhlabGreatDoor
open Go.RowKit

/-- How many letters there are in bounds. -/
def smB (bs : List Bd) : Nat := (bs.map fun p => p.1.length + p.2.length).sum
def szB (left : Int) (bs : List Bd) : Int := if (bs.length : Int) + (smB bs : Int) ≤ left then left - (bs.length : Int) - (smB bs : Int) else -1
theorem smB_snoc (bs : List Bd) (k : Nat) (h : k < bs.length) : smB (bs.take (k + 1)) = smB (bs.take k) + (bs[k].1.length + bs[k].2.length) := by
  unfold smB; rw [List.take_succ_eq_append_getElem h]; simp only [List.map_append, List.sum_append, List.map_cons, List.map_nil, List.sum_cons, List.sum_nil]; omega
theorem smB_le (bs : List Bd) (k : Nat) : smB (bs.take k) ≤ smB bs := by
  have : smB bs = smB (bs.take k) + smB (bs.drop k) := by unfold smB; rw [← List.sum_append, ← List.map_append, List.take_append_drop]
  omega
theorem smB_mem {bs : List Bd} : ∀ b ∈ bs, b.1.length + b.2.length ≤ smB bs := by
  induction bs with
  | nil => intro l h; cases h
  | cons a t ih =>
    intro l h
    have e : smB (a :: t) = a.1.length + a.2.length + smB t := by unfold smB; simp
    rcases List.mem_cons.1 h with rfl | h
    · omega
    · have := ih l h; omega
theorem szB_yes {left : Int} {bs : List Bd} (h : (bs.length : Int) + (smB bs : Int) ≤ left) : szB left bs = left - (bs.length : Int) - (smB bs : Int) := if_pos h
theorem szB_no {left : Int} {bs : List Bd} (h : ¬ (bs.length : Int) + (smB bs : Int) ≤ left) : szB left bs = -1 := if_neg h
/-- No more than so many bounds and letters. -/
def SmB (bs : List Bd) : Prop := bs.length + smB bs ≤ 1048576
theorem szB_good {bs : List Bd} {left : Int} (hl : left ≤ 1048576) (h : szB left bs ≠ -1) : SmB bs := by
  unfold szB at h
  split at h
  · unfold SmB; omega
  · exact absurd rfl h

/-- Two numbers taken off one after the other. -/
def off2 (left : Int) (x y : Nat) : Int := if left - x < 0 then -1 else if left - x - y < 0 then -1 else left - x - y

set_option maxRecDepth 100000 in
set_option maxHeartbeats 1000000 in
theorem szBound_any (b c : ByteArray) (left : Int) (w : World) (h0 : 0 ≤ left) (h1 : left ≤ 1048576) (hb : b.size ≤ maxLen) (hc : c.size ≤ maxLen) :
    Calls Tryz.prog 43 #[.agg #[.string b, .string c], .int .i64 left] w fun e w' => e = .returned (.int .i64 (off2 left b.size c.size)) ∧ Below w.heap.size w w' := by
  unfold maxLen at hb hc
  by_cases hx : left - (b.size : Int) < 0
  · have HX : Hid (off2 left b.size c.size = -1) := Lib.hid (by unfold off2; rw [if_pos hx])
    go_enter Tryz.func43, Tryz.ntmps43
    go_wp2
    go_ret
    exact ⟨ret_int HX.out.symm, (Below.refl _ _).alloc (Nat.le_refl _) _⟩
  · by_cases hy : left - (b.size : Int) - (c.size : Int) < 0
    · have HX : Hid (off2 left b.size c.size = -1) := Lib.hid (by unfold off2; rw [if_neg hx, if_pos hy])
      go_enter Tryz.func43, Tryz.ntmps43
      go_wp2
      go_ret
      exact ⟨ret_int HX.out.symm, (Below.refl _ _).alloc (Nat.le_refl _) _⟩
    · have HX : Hid (off2 left b.size c.size = left - b.size - c.size) := Lib.hid (by unfold off2; rw [if_neg hx, if_neg hy])
      go_enter Tryz.func43, Tryz.ntmps43
      go_wp2
      go_ret
      exact ⟨ret_int HX.out.symm, (Below.refl _ _).alloc (Nat.le_refl _) _⟩

set_option maxRecDepth 100000 in
set_option maxHeartbeats 1000000 in
theorem szBoundS_any (v : Value) (bs : List Bd) (left : Int) (w : World) (hr : RdB w v bs) (h0 : 0 ≤ left) (h1 : left ≤ 1048576) (hn : bs.length ≤ maxLen) (hm : ∀ b ∈ bs, b.1.length ≤ maxLen ∧ b.2.length ≤ maxLen) :
    Calls Tryz.prog 8 #[v, .int .i64 left] w fun e w' => e = .returned (.int .i64 (szB left bs)) ∧ Below w.heap.size w w' := by
  have HR := Lib.hid hr
  obtain ⟨A, ca, rfl, ha⟩ := hr
  have HM := Lib.hid hm
  clear hm ha
  unfold maxLen at hn
  by_cases hl : (bs.length : Int) ≤ left
  · go_enter Tryz.func8, Tryz.ntmps8
    go_wp2
    go_loopw [1, 5] (fun m i wr => ∃ (k : Nat) (z : Int), k ≤ bs.length ∧ i = .int .i64 k ∧ m = .int .i64 z ∧ 0 ≤ z ∧ z ≤ 1048576 ∧ Hid (z = left - (bs.length : Int) - (smB (bs.take k) : Int)) ∧ Below w.heap.size w wr) (fun _ i _ => bs.length - (intOf i).toNat)
    case atStart => exact ⟨0, _, Nat.zero_le _, rfl, rfl, by omega, by omega, Lib.hid (by simp [smB]), Below.refl _ _⟩
    case round =>
      obtain ⟨k, z, hk, rfl, rfl, z0, z1, HZ, hb⟩ := hrel
      by_cases hlt : k < bs.length
      · obtain ⟨A', ca', hv, ha⟩ := HR.out.below hb
        simp only [Value.slice.injEq] at hv
        obtain ⟨rfl, _, rfl⟩ := hv
        obtain ⟨g, off, rfl, _, hca⟩ := ha (by omega)
        obtain ⟨x, hx⟩ : ∃ x : ByteArray, x = ⟨bs[k].1.toArray⟩ := ⟨_, rfl⟩
        obtain ⟨y, hy⟩ : ∃ y : ByteArray, y = ⟨bs[k].2.toArray⟩ := ⟨_, rfl⟩
        have d1 : wr.cell? ⟨g, off + k * 2, none⟩ = some (.string x) := by rw [hx]; exact (hca k hlt).1
        have d2 : wr.cell? ⟨g, off + k * 2 + 1, none⟩ = some (.string y) := by rw [hy]; exact (hca k hlt).2
        have HX : Hid (x.size = bs[k].1.length) := Lib.hid (by rw [hx]; exact size_of _)
        have HY : Hid (y.size = bs[k].2.length) := Lib.hid (by rw [hy]; exact size_of _)
        have HC := Lib.hid (fun W => szBound_any x y z W z0 z1 (by have := (HM.out bs[k] (List.getElem_mem hlt)).1; have := HX.out; omega) (by have := (HM.out bs[k] (List.getElem_mem hlt)).2; have := HY.out; omega))
        have k0 : (0 : Int) ≤ (k : Int) := by omega
        have k1 : (k : Int) < (bs.length : Int) := by omega
        have HS := Lib.hid (smB_snoc bs k hlt)
        have HT := Lib.hid (smB_le bs (k + 1))
        clear ha hca hx hy
        by_cases hz : z - (x.size : Int) - (y.size : Int) < 0
        · have HO : Hid (off2 z x.size y.size = -1) := Lib.hid (by unfold off2; by_cases hq : z - (x.size : Int) < 0; exact if_pos hq; rw [if_neg hq]; exact if_pos hz)
          have HW : Hid (szB left bs = -1) := Lib.hid (szB_no (by have := HZ.out; have := HS.out; have := HT.out; have := HX.out; have := HY.out; omega))
          go_wp2_with fail
          refine (HC.out _).mono ?_
          rw [HO.out]
          rintro e w1 ⟨rfl, hb1⟩
          have B1 := hb.trans (hb1.mono hb.size)
          go_wp2_with fail
          go_ret
          exact ⟨ret_int HW.out.symm, B1⟩
        · have HO : Hid (off2 z x.size y.size = z - (x.size : Int) - (y.size : Int)) := Lib.hid (by unfold off2; rw [if_neg (by omega), if_neg hz])
          go_wp2_with fail
          refine (HC.out _).mono ?_
          rw [HO.out]
          rintro e w1 ⟨rfl, hb1⟩
          have B1 := hb.trans (hb1.mono hb.size)
          go_wp2_with fail
          go_roundw
          case rel => exact ⟨k + 1, _, by omega, by go_num, rfl, by omega, by omega, Lib.hid (by have := HZ.out; have := HS.out; have := HX.out; have := HY.out; omega), B1⟩
          case measure => simp [intOf]; omega
      · have HX : Hid (szB left bs = z) := Lib.hid (by
          have hz := HZ.out
          rw [List.take_of_length_le (by omega)] at hz
          rw [szB_yes (by omega)]; omega)
        go_wp2_with fail
        go_ret
        exact ⟨ret_int HX.out.symm, hb⟩
  · have HX : Hid (szB left bs = -1) := Lib.hid (szB_no (by omega))
    go_enter Tryz.func8, Tryz.ntmps8
    go_wp2
    go_ret
    exact ⟨ret_int HX.out.symm, Below.refl _ _⟩

set_option maxRecDepth 100000 in
set_option maxHeartbeats 1000000 in
theorem toBound_any (b c : ByteArray) (w : World) :
    Calls Tryz.prog 45 #[.agg #[.string b, .string c]] w fun e w' => e = .returned (.agg #[.string b, .string c]) ∧ Below w.heap.size w w' := by
  go_enter Tryz.func45, Tryz.ntmps45
  go_wp2_with fail
  refine bodyPost_ret (v := .agg #[.string b, .string c]) ?_ rfl ⟨rfl, ?_⟩
  · simp [results, Tryz.results45, go_sem]
  · exact (((Below.refl _ _).alloc (Nat.le_refl _) _).alloc (by simp) _).alloc (by simp; omega) _

/-- The first k bounds, then empty ones. -/
def tkB (k : Nat) (bs : List Bd) : List Bd := bs.take k ++ List.replicate (bs.length - k) ([], [])
theorem tkB_len (k : Nat) (bs : List Bd) (h : k ≤ bs.length) : (tkB k bs).length = bs.length := by simp [tkB]; omega
theorem tkB_zero (bs : List Bd) : tkB 0 bs = List.replicate bs.length ([], []) := by simp [tkB]
theorem tkB_all (bs : List Bd) : tkB bs.length bs = bs := by simp [tkB]
theorem tkB_set (k : Nat) (bs : List Bd) (h : k < bs.length) : (tkB k bs).set k bs[k] = tkB (k + 1) bs := by
  unfold tkB
  rw [List.set_append_right _ _ (by simp; omega), List.take_succ_eq_append_getElem h, List.append_assoc]
  congr 1
  have e : bs.length - k = (bs.length - (k + 1)) + 1 := by omega
  have e2 : k - (List.take k bs).length = 0 := by simp; omega
  rw [e2, e, List.replicate_succ]
  rfl
theorem flat2_rep : ∀ n : Nat, flat2 (List.replicate n ([], [])) = (List.replicate (n * 2) (sv []))
  | 0 => rfl
  | n + 1 => by
    rw [List.replicate_succ, show (n + 1) * 2 = n * 2 + 1 + 1 by omega, List.replicate_succ, List.replicate_succ]
    simp [flat2, flat2_rep n]
theorem bnds_made {w : World} {base : Nat} {v : Value} {n : Nat} (h : w.ownsRow base 58 2 v n (madeCells (Value.agg #[.string ⟨#[]⟩, .string ⟨#[]⟩]).cells (n * 2)).toList) : Bnds w base v (List.replicate n ([], [])) := by
  unfold Bnds
  have e : (madeCells (Value.agg #[.string ⟨#[]⟩, .string ⟨#[]⟩]).cells (n * 2)).toList = flat2 (List.replicate n ([], [])) := by
    rw [flat2_rep]
    apply List.ext_getElem?
    intro j
    by_cases hj : j < n * 2
    · rcases Nat.mod_two_eq_zero_or_one j with h2 | h2 <;> simp [madeCells, hj, sv, Value.cells, h2]
    · simp [madeCells, hj]
  rw [← e]
  simpa using h

set_option maxRecDepth 100000 in
set_option maxHeartbeats 1000000 in
theorem toBoundS_any (v : Value) (bs : List Bd) (w : World) (hr : RdB w v bs) (hl : bs.length ≤ 1048576) :
    Calls Tryz.prog 11 #[v] w fun e w' => ∃ g cap, e = .returned (.slice (some ⟨g, 0, none⟩) bs.length cap) ∧ Bnds w' w.heap.size (.slice (some ⟨g, 0, none⟩) bs.length cap) bs ∧ Below w.heap.size w w' := by
  have HR := Lib.hid hr
  obtain ⟨A, ca, rfl, ha⟩ := hr
  obtain ⟨i0, hi, hz0, hz1, hz2⟩ := info_parts bndinfo
  go_enter Tryz.func11, Tryz.ntmps11
  go_wp2_with (at_make; refine wpList_make_full _ rfl _ _ 28 rfl w.heap.size 58 i0 (.agg #[.string ⟨#[]⟩, .string ⟨#[]⟩]) 2 Tryz.underlying28 hi hz0 hz1 .i64 .i64 _ _ bs.length rfl rfl rfl rfl (by rw [hz2]; omega) (by unfold maxLen; omega) (Nat.le_refl _) ?_; intro w1 hown1 hg1)
  have hS1 := bnds_made hown1
  have hb1 : Below w.heap.size w w1 := (Below.refl _ _).grown hg1 (Nat.le_refl _) (by simp)
  clear hown1 hg1 hi hz0 hz1 hz2 ha
  go_loopw [4] (fun i wr => ∃ k : Nat, k ≤ bs.length ∧ i = .int .i64 k ∧ Bnds wr w.heap.size (.slice (some ⟨w.heap.size, 0, none⟩) bs.length bs.length) (tkB k bs) ∧ Below w.heap.size w wr) (fun i _ => bs.length - (intOf i).toNat)
  case atStart => exact ⟨0, Nat.zero_le _, rfl, by rw [tkB_zero]; exact hS1, hb1⟩
  case round =>
    obtain ⟨k, hk, rfl, hS, hb⟩ := hrel
    by_cases hlt : k < bs.length
    · obtain ⟨A', ca', hv, ha⟩ := HR.out.below hb
      simp only [Value.slice.injEq] at hv
      obtain ⟨rfl, _, rfl⟩ := hv
      obtain ⟨g, off, rfl, _, hca⟩ := ha (by omega)
      have d1 : wr.cell? ⟨g, off + k * 2, none⟩ = some (.string ⟨bs[k].1.toArray⟩) := (hca k hlt).1
      have d2 : wr.cell? ⟨g, off + k * 2 + 1, none⟩ = some (.string ⟨bs[k].2.toArray⟩) := (hca k hlt).2
      have k0 : (0 : Int) ≤ (k : Int) := by omega
      have k1 : (k : Int) < (bs.length : Int) := by omega
      clear ha hca hS1 hb1
      go_wp2_with fail
      refine (toBound_any _ _ _).mono ?_
      rintro e w2 ⟨rfl, hb2⟩
      have hS2 := hS.below hb2
      have hS' : Bnds w2 w.heap.size (.slice (some ⟨w.heap.size, 0, none⟩) (tkB k bs).length bs.length) (tkB k bs) := by rw [tkB_len k bs hk]; exact hS2
      obtain ⟨c2, c3⟩ := hS2.cell k (by rw [tkB_len k bs hk]; exact hlt)
      have f2 : ∀ j, w2.frozen? ⟨w.heap.size, j, none⟩ = false := fun j => World.ownsRow.frozenAt hS' j
      have B2 := hb.trans (hb2.mono hb.size)
      clear hS hb hb2 d1 d2
      go_wp2_with fail
      go_roundw
      case rel => exact ⟨k + 1, by omega, by go_num, by have := hS'.set k bs[k]; rw [tkB_set k bs hlt, tkB_len (k + 1) bs (by omega)] at this; exact this, (B2.setCell (p := ⟨w.heap.size, k * 2, none⟩) (Nat.le_refl _) _).setCell (p := ⟨w.heap.size, k * 2 + 1, none⟩) (Nat.le_refl _) _⟩
      case measure => simp [intOf]; omega
    · obtain rfl : k = bs.length := by omega
      rw [tkB_all] at hS
      clear hS1 hb1
      go_wp2_with fail
      go_ret
      exact ⟨_, _, rfl, hS, hb⟩

set_option maxRecDepth 100000 in
set_option maxHeartbeats 1000000 in
theorem eqBound_same (b c : ByteArray) (w : World) :
    Calls Tryz.prog 49 #[.agg #[.string b, .string c], .agg #[.string b, .string c]] w fun e w' => e = .returned (.bool true) ∧ Below w.heap.size w w' := by
  go_enter Tryz.func49, Tryz.ntmps49
  go_wp2_with fail
  go_ret
  exact ⟨rfl, ((Below.refl _ _).alloc (Nat.le_refl _) _).alloc (by simp) _⟩

set_option maxRecDepth 100000 in
set_option maxHeartbeats 1000000 in
theorem eqBoundS_same (va vb : Value) (bs : List Bd) (w : World) (ha : RdB w va bs) (hb : RdB w vb bs) (hl : bs.length ≤ 16777216) :
    Calls Tryz.prog 14 #[va, vb] w fun e w' => e = .returned (.bool true) ∧ Below w.heap.size w w' := by
  have HA := Lib.hid ha
  have HB := Lib.hid hb
  obtain ⟨A, ca, rfl, ha⟩ := ha
  obtain ⟨B, cb, rfl, hb⟩ := hb
  have q0 : ((bs.length : Int) != (bs.length : Int)) = false := int_bne_false rfl
  clear ha hb
  go_enter Tryz.func14, Tryz.ntmps14
  go_wp2_with fail
  go_loopw [5] (fun i wr => ∃ k : Nat, k ≤ bs.length ∧ i = .int .i64 k ∧ Below w.heap.size w wr) (fun i _ => bs.length - (intOf i).toNat)
  case atStart => exact ⟨0, Nat.zero_le _, rfl, Below.refl _ _⟩
  case round =>
    obtain ⟨k, hk, rfl, hw⟩ := hrel
    by_cases hlt : k < bs.length
    · obtain ⟨A', ca', hv, ha⟩ := HA.out.below hw
      simp only [Value.slice.injEq] at hv
      obtain ⟨rfl, _, rfl⟩ := hv
      obtain ⟨B', cb', hv, hb⟩ := HB.out.below hw
      simp only [Value.slice.injEq] at hv
      obtain ⟨rfl, _, rfl⟩ := hv
      obtain ⟨g, off, rfl, _, hca⟩ := ha (by omega)
      obtain ⟨g2, off2, rfl, _, hcb⟩ := hb (by omega)
      have d1 : wr.cell? ⟨g, off + k * 2, none⟩ = some (.string ⟨bs[k].1.toArray⟩) := (hca k hlt).1
      have d2 : wr.cell? ⟨g, off + k * 2 + 1, none⟩ = some (.string ⟨bs[k].2.toArray⟩) := (hca k hlt).2
      have d3 : wr.cell? ⟨g2, off2 + k * 2, none⟩ = some (.string ⟨bs[k].1.toArray⟩) := (hcb k hlt).1
      have d4 : wr.cell? ⟨g2, off2 + k * 2 + 1, none⟩ = some (.string ⟨bs[k].2.toArray⟩) := (hcb k hlt).2
      have k0 : (0 : Int) ≤ (k : Int) := by omega
      have k1 : (k : Int) < (bs.length : Int) := by omega
      clear ha hb hca hcb
      go_wp2_with fail
      go_region_with (first | (go_at_call 49; refine (eqBound_same _ _ _).mono ?_; rintro e w1 ⟨rfl, hb1⟩))
      all_goals
        go_wp2_with fail
        go_roundw
        case rel => exact ⟨k + 1, by omega, by go_num, hw.trans ((below_drewN _ _ 1).trans (hb1.mono (by first | exact Nat.le_refl _ | exact hw.size)))⟩
        case measure => simp [intOf]; omega
    · go_wp2_with fail
      go_ret
      exact ⟨rfl, hw⟩
end Go.Proofs.YtjpclglklmlhlabGreatDoor
