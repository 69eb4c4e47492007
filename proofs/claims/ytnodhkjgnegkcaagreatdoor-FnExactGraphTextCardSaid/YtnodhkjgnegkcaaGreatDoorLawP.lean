/-
  The laws' own helpers on a pack: szPack counts it, toPack copies it, eqPack compares it with itself.
-/
import Derived.Test.YtnodhkjgnegkcaaGreatDoorPk
import Derived.Test.YtnodhkjgnegkcaaGreatDoorSumL
import Derived.Test.YtnodhkjgnegkcaaGreatDoorEqS
namespace Go.Proofs.YtnodhkjgnegkcaaGreatDoor
open Go.RowKit

set_option maxRecDepth 100000 in
set_option maxHeartbeats 2000000 in
theorem szPack_any (p : Pk) (a b : Value) (left : Int) (w : World) (ha : RdB w a p.sums) (hb : RdS w b p.needs) (h0 : 0 ≤ left) (h1 : left ≤ 1048576) (hf : PkFits p) :
    Calls Tryz.prog 102 #[.agg #[.string ⟨p.name.toArray⟩, .string ⟨p.ver.toArray⟩, .string ⟨p.src.toArray⟩, a, .bool p.dev, b], .int .i64 left] w fun e w' => e = .returned (.int .i64 (szP left p)) ∧ Below w.heap.size w w' := by
  obtain ⟨f1, f2, f3, f4, f5, f6, f7⟩ := hf
  have HA := Lib.hid (fun (W : World) (h : Below w.heap.size w W) (z : Int) (z0 : 0 ≤ z) (z1 : z ≤ 1048576) => szSumS_any a p.sums z W (ha.below h) z0 z1 f4 f5)
  have HB := Lib.hid (fun (W : World) (h : Below w.heap.size w W) (z : Int) (z0 : 0 ≤ z) (z1 : z ≤ 1048576) => szStringS_any b p.needs z W (hb.below h) z0 z1 f6 f7)
  obtain ⟨A, ca, rfl⟩ := ha.slice
  obtain ⟨B, cb, rfl⟩ := hb.slice
  obtain ⟨x, hx⟩ : ∃ x : ByteArray, x = ⟨p.name.toArray⟩ := ⟨_, rfl⟩
  obtain ⟨y, hy⟩ : ∃ y : ByteArray, y = ⟨p.ver.toArray⟩ := ⟨_, rfl⟩
  obtain ⟨s, hs⟩ : ∃ s : ByteArray, s = ⟨p.src.toArray⟩ := ⟨_, rfl⟩
  have sx : x.size = p.name.length := by rw [hx]; exact size_of _
  have sy : y.size = p.ver.length := by rw [hy]; exact size_of _
  have ss : s.size = p.src.length := by rw [hs]; exact size_of _
  have HW : Hid (wP p = x.size + y.size + s.size + (p.sums.length + smB p.sums) + (p.needs.length + smL p.needs)) := Lib.hid (by rw [sx, sy, ss]; rfl)
  rw [← hx, ← hy, ← hs]
  have hx2 : x.size ≤ 9223372036854775807 := by unfold maxLen at f1; omega
  have hy2 : y.size ≤ 9223372036854775807 := by unfold maxLen at f2; omega
  have hs2 : s.size ≤ 9223372036854775807 := by unfold maxLen at f3; omega
  have B0 : Below w.heap.size w (w.alloc (.cells #[.string x, .string y, .string s, .slice A p.sums.length ca, .bool p.dev, .slice B p.needs.length cb] 132)) := (Below.refl _ _).alloc (Nat.le_refl _) _
  have b0 := heap_alloc_new w (.cells #[.string x, .string y, .string s, .slice A p.sums.length ca, .bool p.dev, .slice B p.needs.length cb] 132)
  clear ha hb f1 f2 f3 f4 f5 f6 f7 sx sy ss hx hy hs
  by_cases q1 : left - (x.size : Int) < 0
  · have HX : Hid (szP left p = -1) := Lib.hid (szP_no (by have := HW.out; omega))
    go_enter Tryz.func102, Tryz.ntmps102
    go_wp2_with fail
    go_ret
    exact ⟨ret_int HX.out.symm, B0⟩
  by_cases q2 : left - (x.size : Int) - (y.size : Int) < 0
  · have HX : Hid (szP left p = -1) := Lib.hid (szP_no (by have := HW.out; omega))
    go_enter Tryz.func102, Tryz.ntmps102
    go_wp2_with fail
    go_ret
    exact ⟨ret_int HX.out.symm, B0⟩
  by_cases q3 : left - (x.size : Int) - (y.size : Int) - (s.size : Int) < 0
  · have HX : Hid (szP left p = -1) := Lib.hid (szP_no (by have := HW.out; omega))
    go_enter Tryz.func102, Tryz.ntmps102
    go_wp2_with fail
    go_ret
    exact ⟨ret_int HX.out.symm, B0⟩
  obtain ⟨z, HZ⟩ : ∃ z, Hid (szB (left - (x.size : Int) - (y.size : Int) - (s.size : Int)) p.sums = z) := ⟨_, Lib.hid rfl⟩
  by_cases q4 : z < 0
  · have HX : Hid (szP left p = -1) := Lib.hid (szP_no (by have := HW.out; have := HZ.out; unfold szB at this; split at this <;> omega))
    go_enter Tryz.func102, Tryz.ntmps102
    go_wp2_with fail
    refine (HA.out _ B0 _ (by omega) (by omega)).mono ?_
    rw [HZ.out]
    rintro e w1 ⟨rfl, hb1⟩
    have B1 := B0.trans (hb1.mono B0.size)
    go_wp2_with fail
    go_ret
    exact ⟨ret_int HX.out.symm, B1⟩
  have hz : z ≤ 1048576 := by have := HZ.out; unfold szB at this; split at this <;> omega
  have HY : Hid (z = left - (x.size : Int) - (y.size : Int) - (s.size : Int) - ((p.sums.length : Int) + smB p.sums)) := Lib.hid (by have := HZ.out; unfold szB at this; split at this <;> omega)
  obtain ⟨u, HU⟩ : ∃ u, Hid (szI z p.needs = u) := ⟨_, Lib.hid rfl⟩
  by_cases q5 : u < 0
  · have HX : Hid (szP left p = -1) := Lib.hid (szP_no (by have := HW.out; have := HY.out; have := HU.out; unfold szI at this; split at this <;> omega))
    go_enter Tryz.func102, Tryz.ntmps102
    go_wp2_with fail
    refine (HA.out _ B0 _ (by omega) (by omega)).mono ?_
    rw [HZ.out]
    rintro e w1 ⟨rfl, hb1⟩
    have B1 := B0.trans (hb1.mono B0.size)
    have c1 := cells6 (keepB b0 hb1)
    go_wp2_with fail
    refine (HB.out _ B1 _ (by omega) (by omega)).mono ?_
    rw [HU.out]
    rintro e w2 ⟨rfl, rfl⟩
    go_wp2_with fail
    go_ret
    exact ⟨ret_int HX.out.symm, B1⟩
  have HX : Hid (szP left p = u) := Lib.hid (by
    have h1 := HW.out; have h2 := HY.out; have h3 := HU.out
    unfold szI at h3
    split at h3
    · rw [szP_yes (by omega)]; omega
    · omega)
  go_enter Tryz.func102, Tryz.ntmps102
  go_wp2_with fail
  refine (HA.out _ B0 _ (by omega) (by omega)).mono ?_
  rw [HZ.out]
  rintro e w1 ⟨rfl, hb1⟩
  have B1 := B0.trans (hb1.mono B0.size)
  have c1 := cells6 (keepB b0 hb1)
  go_wp2_with fail
  refine (HB.out _ B1 _ (by omega) (by omega)).mono ?_
  rw [HU.out]
  rintro e w2 ⟨rfl, rfl⟩
  go_wp2_with fail
  go_ret
  exact ⟨ret_int HX.out.symm, B1⟩
end Go.Proofs.YtnodhkjgnegkcaaGreatDoor
