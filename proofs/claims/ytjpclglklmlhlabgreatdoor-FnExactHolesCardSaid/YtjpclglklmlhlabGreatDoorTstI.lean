/-
  The test of a bound: impl.sameNumbers, impl.testOf and what it hands back.
-/
import Derived.Test.YtjpclglklmlhlabGreatDoorInT
import Derived.Test.YtjpclglklmlhlabGreatDoorRngI
import Derived.Test.YtjpclglklmlhlabGreatDoorCmpV
namespace Go.Proofs.YtjpclglklmlhlabGreatDoor
open Go.RowKit

theorem cells1 {V : World} {B : Nat} {T : TypeId} {v0 : Value} (h : V.heap[B]? = some (.cells #[v0] T)) : V.cell? ⟨B, 0, none⟩ = some v0 := by
  simp [World.cell?, h]

set_option maxRecDepth 100000 in
set_option maxHeartbeats 1000000 in
theorem sameNumbers_any (a0 a1 a2 b0 b1 b2 : Int) (pA qA : Option Addr) (pn pc qn qc : Nat) (w : World) :
    Calls Tryz.prog 122 #[.agg #[.int .i64 a0, .int .i64 a1, .int .i64 a2, .slice pA pn pc], .agg #[.int .i64 b0, .int .i64 b1, .int .i64 b2, .slice qA qn qc]] w fun e w' => e = .returned (.bool ((b0 == a0) && (b1 == a1) && (b2 == a2))) ∧ Below w.heap.size w w' := by
  have HB : Below w.heap.size w ((w.alloc (.cells #[.int .i64 a0, .int .i64 a1, .int .i64 a2, .slice pA pn pc] 51)).alloc (.cells #[.int .i64 b0, .int .i64 b1, .int .i64 b2, .slice qA qn qc] 51)) := ((Below.refl _ _).alloc (Nat.le_refl _) _).alloc (by simp) _
  obtain ⟨r, HR⟩ : ∃ r, Hid (((b0 == a0) && (b1 == a1) && (b2 == a2)) = r) := ⟨_, Lib.hid rfl⟩
  rw [HR.out]
  by_cases h0 : a0 = b0
  · have q0 : (a0 == b0) = true := by simp [h0]
    have p0 : (b0 == a0) = true := by simp [h0]
    by_cases h1 : a1 = b1
    · have q1 : (a1 == b1) = true := by simp [h1]
      have p1 : (b1 == a1) = true := by simp [h1]
      by_cases h2 : a2 = b2
      · have q2 : (a2 == b2) = true := by simp [h2]
        have p2 : (b2 == a2) = true := by simp [h2]
        have HF : Hid (r = true) := Lib.hid (by rw [← HR.out, p0, p1, p2]; rfl)
        clear h0 h1 h2 p0 p1 p2 HR
        go_enter Tryz.func122, Tryz.ntmps122
        go_wp2_with fail
        go_ret
        exact ⟨ret_bool HF.out.symm, HB⟩
      · have q2 : (a2 == b2) = false := int_beq_false h2
        have p2 : (b2 == a2) = false := int_beq_false (fun e => h2 e.symm)
        have HF : Hid (r = false) := Lib.hid (by rw [← HR.out, p2]; simp)
        clear h0 h1 h2 p0 p1 p2 HR
        go_enter Tryz.func122, Tryz.ntmps122
        go_wp2_with fail
        go_ret
        exact ⟨ret_bool HF.out.symm, HB⟩
    · have q1 : (a1 == b1) = false := int_beq_false h1
      have p1 : (b1 == a1) = false := int_beq_false (fun e => h1 e.symm)
      have HF : Hid (r = false) := Lib.hid (by rw [← HR.out, p1]; simp)
      clear h0 h1 p0 p1 HR
      go_enter Tryz.func122, Tryz.ntmps122
      go_wp2_with fail
      go_ret
      exact ⟨ret_bool HF.out.symm, HB⟩
  · have q0 : (a0 == b0) = false := int_beq_false h0
    have p0 : (b0 == a0) = false := int_beq_false (fun e => h0 e.symm)
    have HF : Hid (r = false) := Lib.hid (by rw [← HR.out, p0]; simp)
    clear h0 p0 HR
    go_enter Tryz.func122, Tryz.ntmps122
    go_wp2_with fail
    go_ret
    exact ⟨ret_bool HF.out.symm, HB⟩

/-- The value f is a test of the bound of these texts. -/
def TestAt (w : World) (f : Value) (b : Bd) : Prop := ∃ (Bb Bl Cb Cl uc tc : Nat) (uA tA : Option Addr), f = .func (.func 121) #[] #[.pointer (some ⟨Bb, 0, none⟩), .pointer (some ⟨Bl, 0, none⟩), .pointer (some ⟨Cb, 0, none⟩), .pointer (some ⟨Cl, 0, none⟩)] ∧
  w.heap[Bb]? = some (.cells #[.bool (readOk b.1)] 4) ∧ w.heap[Bl]? = some (.cells #[.int .i64 (readA b.1 0), .int .i64 (readA b.1 1), .int .i64 (readA b.1 2), .slice uA (readP b.1).length uc] 51) ∧
  w.heap[Cb]? = some (.cells #[.bool (readOk b.2)] 4) ∧ w.heap[Cl]? = some (.cells #[.int .i64 (readA b.2 0), .int .i64 (readA b.2 1), .int .i64 (readA b.2 2), .slice tA (readP b.2).length tc] 51) ∧
  Strs w 0 (.slice uA (readP b.1).length uc) (readP b.1) ∧ Strs w 0 (.slice tA (readP b.2).length tc) (readP b.2)
theorem TestAt.below {w w' : World} {f : Value} {b : Bd} (h : TestAt w f b) (hb : Below w.heap.size w w') : TestAt w' f b := by
  obtain ⟨Bb, Bl, Cb, Cl, uc, tc, uA, tA, e, h1, h2, h3, h4, h5, h6⟩ := h
  exact ⟨Bb, Bl, Cb, Cl, uc, tc, uA, tA, e, keepB h1 hb, keepB h2 hb, keepB h3 hb, keepB h4 hb, h5.below hb, h6.below hb⟩

set_option maxRecDepth 100000 in
set_option maxHeartbeats 1000000 in
theorem testOf_any (x y : ByteArray) (w : World) (sx : x.size ≤ 1048576) (sy : y.size ≤ 1048576) :
    Calls Tryz.prog 79 #[.agg #[.string x, .string y]] w fun e w' => ∃ f, e = .returned f ∧ TestAt w' f (x.data.toList, y.data.toList) ∧ f.oneCell' = true ∧ Below w.heap.size w w' := by
  have B0 : Below w.heap.size w (w.alloc (.cells #[.string x, .string y] 58)) := (Below.refl _ _).alloc (Nat.le_refl _) _
  have b0 := heap_alloc_new w (.cells #[.string x, .string y] 58)
  go_enter Tryz.func79, Tryz.ntmps79
  go_wp2_with fail
  refine (implReadVersion_any _ _ sx).mono ?_
  rintro e w1 ⟨u, rfl, hu, hb1⟩
  obtain ⟨uA, uc, rfl⟩ := hu.slice
  have B1 := B0.trans (hb1.mono B0.size)
  have b1 := keepA (keepA (keepB b0 hb1) (.cells #[.int .i64 (readA x.data.toList 0), .int .i64 (readA x.data.toList 1), .int .i64 (readA x.data.toList 2), .slice uA (readP x.data.toList).length uc] 51)) (.cells #[.bool (readOk x.data.toList)] 4)
  have l1 := keepA (heap_alloc_new w1 (.cells #[.int .i64 (readA x.data.toList 0), .int .i64 (readA x.data.toList 1), .int .i64 (readA x.data.toList 2), .slice uA (readP x.data.toList).length uc] 51)) (.cells #[.bool (readOk x.data.toList)] 4)
  have k1 := heap_new (W := w1.alloc (.cells #[.int .i64 (readA x.data.toList 0), .int .i64 (readA x.data.toList 1), .int .i64 (readA x.data.toList 2), .slice uA (readP x.data.toList).length uc] 51)) (n := w1.heap.size + 1) (by simp) (.cells #[.bool (readOk x.data.toList)] 4)
  have r1 := Strs.alloc (Strs.alloc (hu.weaken (Nat.zero_le _)) (.cells #[.int .i64 (readA x.data.toList 0), .int .i64 (readA x.data.toList 1), .int .i64 (readA x.data.toList 2), .slice uA (readP x.data.toList).length uc] 51)) (.cells #[.bool (readOk x.data.toList)] 4)
  have B1' := (B1.alloc B1.size (.cells #[.int .i64 (readA x.data.toList 0), .int .i64 (readA x.data.toList 1), .int .i64 (readA x.data.toList 2), .slice uA (readP x.data.toList).length uc] 51)).alloc (by simp; have := B1.size; omega) (.cells #[.bool (readOk x.data.toList)] 4)
  obtain ⟨s0, s1⟩ := cellsB b1
  clear B0 b0 hb1 hu B1 b1
  go_wp2_with fail
  refine (implReadVersion_any _ _ sy).mono ?_
  rintro e w2 ⟨t, rfl, ht, hb2⟩
  obtain ⟨tA, tc, rfl⟩ := ht.slice
  have B2 := B1'.trans (hb2.mono B1'.size)
  have l2 := keepA (keepA (keepB l1 hb2) (.cells #[.int .i64 (readA y.data.toList 0), .int .i64 (readA y.data.toList 1), .int .i64 (readA y.data.toList 2), .slice tA (readP y.data.toList).length tc] 51)) (.cells #[.bool (readOk y.data.toList)] 4)
  have k2 := keepA (keepA (keepB k1 hb2) (.cells #[.int .i64 (readA y.data.toList 0), .int .i64 (readA y.data.toList 1), .int .i64 (readA y.data.toList 2), .slice tA (readP y.data.toList).length tc] 51)) (.cells #[.bool (readOk y.data.toList)] 4)
  have r2 := Strs.alloc (Strs.alloc (r1.below hb2) (.cells #[.int .i64 (readA y.data.toList 0), .int .i64 (readA y.data.toList 1), .int .i64 (readA y.data.toList 2), .slice tA (readP y.data.toList).length tc] 51)) (.cells #[.bool (readOk y.data.toList)] 4)
  have l3 := keepA (heap_alloc_new w2 (.cells #[.int .i64 (readA y.data.toList 0), .int .i64 (readA y.data.toList 1), .int .i64 (readA y.data.toList 2), .slice tA (readP y.data.toList).length tc] 51)) (.cells #[.bool (readOk y.data.toList)] 4)
  have k3 := heap_new (W := w2.alloc (.cells #[.int .i64 (readA y.data.toList 0), .int .i64 (readA y.data.toList 1), .int .i64 (readA y.data.toList 2), .slice tA (readP y.data.toList).length tc] 51)) (n := w2.heap.size + 1) (by simp) (.cells #[.bool (readOk y.data.toList)] 4)
  have r3 := Strs.alloc (Strs.alloc (ht.weaken (Nat.zero_le _)) (.cells #[.int .i64 (readA y.data.toList 0), .int .i64 (readA y.data.toList 1), .int .i64 (readA y.data.toList 2), .slice tA (readP y.data.toList).length tc] 51)) (.cells #[.bool (readOk y.data.toList)] 4)
  have B2' := (B2.alloc B2.size (.cells #[.int .i64 (readA y.data.toList 0), .int .i64 (readA y.data.toList 1), .int .i64 (readA y.data.toList 2), .slice tA (readP y.data.toList).length tc] 51)).alloc (by simp; have := B2.size; omega) (.cells #[.bool (readOk y.data.toList)] 4)
  clear s0 s1 l1 k1 r1 B1' hb2 ht B2
  go_wp2_with fail
  go_ret
  exact ⟨_, rfl, ⟨_, _, _, _, _, _, _, _, rfl, k2, l2, k3, l3, r2, r3⟩, rfl, B2'⟩
end Go.Proofs.YtjpclglklmlhlabGreatDoor
