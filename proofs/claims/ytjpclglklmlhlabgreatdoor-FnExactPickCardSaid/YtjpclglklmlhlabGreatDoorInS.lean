/-
  Whether a bound takes a version: spec.l03Takes.
-/
import Derived.Test.YtjpclglklmlhlabGreatDoorRngS
import Derived.Test.YtjpclglklmlhlabGreatDoorCmpW
namespace Go.Proofs.YtjpclglklmlhlabGreatDoor
open Go.RowKit

/-- Whether a bound takes the version of these numbers and identifiers. -/
def takes (b : Bd) (a0 a1 a2 : Int) (p : List (List UInt8)) : Bool :=
  if (readOk b.1 && decide (cmpVer a0 a1 a2 p (readA b.1 0) (readA b.1 1) (readA b.1 2) (readP b.1) < 0)) || (readOk b.2 && decide (0 ≤ cmpVer a0 a1 a2 p (readA b.2 0) (readA b.2 1) (readA b.2 2) (readP b.2))) then false
  else ((p.length : Int) == 0) || (decide (0 < (readP b.1).length) && ((readA b.1 0 == a0) && (readA b.1 1 == a1) && (readA b.1 2 == a2)))
theorem readP_Sm {l : List UInt8} (h : l.length ≤ 1048576) : Sm (readP l) := by
  unfold readP; split
  · exact tail_sm h
  · exact sm_nil
theorem cellsB {V : World} {B : Nat} {T : TypeId} {v0 v1 : Value} (h : V.heap[B]? = some (.cells #[v0, v1] T)) : V.cell? ⟨B, 0, none⟩ = some v0 ∧ V.cell? ⟨B, 1, none⟩ = some v1 := by
  simp [World.cell?, h]
theorem readP_no {l : List UInt8} (h : readOk l = false) : readP l = [] := by unfold readP; rw [h]; rfl

set_option maxRecDepth 100000 in
set_option maxHeartbeats 4000000 in
theorem l03Takes_any (x y : ByteArray) (a0 a1 a2 : Int) (vp : Value) (p : List (List UInt8)) (w : World) (hr : RdS w vp p) (hp : Sm p) (sx : x.size ≤ 1048576) (sy : y.size ≤ 1048576) :
    Calls Tryz.prog 69 #[.agg #[.string x, .string y], .agg #[.int .i64 a0, .int .i64 a1, .int .i64 a2, vp]] w fun e w' => e = .returned (.bool (takes (x.data.toList, y.data.toList) a0 a1 a2 p)) ∧ Below w.heap.size w w' := by
  have HP := Lib.hid hp
  have HR := Lib.hid (fun (W : World) (h : Below w.heap.size w W) => hr.below h)
  obtain ⟨pA, pc, rfl, _⟩ := hr
  have hpl := hp.1
  have hL5 := readP_sm x.data.toList
  have HSL : Hid (Sm (readP x.data.toList)) := Lib.hid (readP_Sm (by simpa using sx))
  have HSH : Hid (Sm (readP y.data.toList)) := Lib.hid (readP_Sm (by simpa using sy))
  clear hp
  obtain ⟨r, HRR⟩ : ∃ r, Hid (takes (x.data.toList, y.data.toList) a0 a1 a2 p = r) := ⟨_, Lib.hid rfl⟩
  rw [HRR.out]
  obtain ⟨okL, HOL⟩ : ∃ z, Hid (readOk x.data.toList = z) := ⟨_, Lib.hid rfl⟩
  obtain ⟨okH, HOH⟩ : ∃ z, Hid (readOk y.data.toList = z) := ⟨_, Lib.hid rfl⟩
  obtain ⟨cL, HCL⟩ : ∃ z, Hid (cmpVer a0 a1 a2 p (readA x.data.toList 0) (readA x.data.toList 1) (readA x.data.toList 2) (readP x.data.toList) = z) := ⟨_, Lib.hid rfl⟩
  obtain ⟨cH, HCH⟩ : ∃ z, Hid (cmpVer a0 a1 a2 p (readA y.data.toList 0) (readA y.data.toList 1) (readA y.data.toList 2) (readP y.data.toList) = z) := ⟨_, Lib.hid rfl⟩
  have HT : Hid (r = if (okL && decide (cL < 0)) || (okH && decide (0 ≤ cH)) then false else ((p.length : Int) == 0) || (decide (0 < (readP x.data.toList).length) && ((readA x.data.toList 0 == a0) && (readA x.data.toList 1 == a1) && (readA x.data.toList 2 == a2)))) := Lib.hid (by rw [← HRR.out, ← HOL.out, ← HOH.out, ← HCL.out, ← HCH.out]; rfl)
  have HN : Hid (okL = false → (readP x.data.toList).length = 0) := Lib.hid (fun h => by rw [readP_no (HOL.out.trans h)]; rfl)
  obtain ⟨m, HM⟩ : ∃ m, Hid ((readP x.data.toList).length = m) := ⟨_, Lib.hid rfl⟩
  obtain ⟨mh, HMH⟩ : ∃ m, Hid ((readP y.data.toList).length = m) := ⟨_, Lib.hid rfl⟩
  obtain ⟨l0, HL0⟩ : ∃ z, Hid (readA x.data.toList 0 = z) := ⟨_, Lib.hid rfl⟩
  obtain ⟨l1, HL1⟩ : ∃ z, Hid (readA x.data.toList 1 = z) := ⟨_, Lib.hid rfl⟩
  obtain ⟨l2, HL2⟩ : ∃ z, Hid (readA x.data.toList 2 = z) := ⟨_, Lib.hid rfl⟩
  obtain ⟨h0, HH0⟩ : ∃ z, Hid (readA y.data.toList 0 = z) := ⟨_, Lib.hid rfl⟩
  obtain ⟨h1, HH1⟩ : ∃ z, Hid (readA y.data.toList 1 = z) := ⟨_, Lib.hid rfl⟩
  obtain ⟨h2, HH2⟩ : ∃ z, Hid (readA y.data.toList 2 = z) := ⟨_, Lib.hid rfl⟩
  rw [HM.out] at hL5
  have HT2 : Hid (r = if (okL && decide (cL < 0)) || (okH && decide (0 ≤ cH)) then false else ((p.length : Int) == 0) || (decide (0 < m) && ((l0 == a0) && (l1 == a1) && (l2 == a2)))) := Lib.hid (by rw [HT.out, HM.out, HL0.out, HL1.out, HL2.out])
  have HN2 : Hid (okL = false → m = 0) := Lib.hid (fun h => by rw [← HM.out]; exact HN.out h)
  clear HT HN HRR
  have B0 : Below w.heap.size w ((w.alloc (.cells #[.string x, .string y] 58)).alloc (.cells #[.int .i64 a0, .int .i64 a1, .int .i64 a2, .slice pA p.length pc] 51)) := ((Below.refl _ _).alloc (Nat.le_refl _) _).alloc (by simp) _
  have b0 := keepA (heap_alloc_new w (.cells #[.string x, .string y] 58)) (.cells #[.int .i64 a0, .int .i64 a1, .int .i64 a2, .slice pA p.length pc] 51)
  have v0 := heap_new (W := w.alloc (.cells #[.string x, .string y] 58)) (n := w.heap.size + 1) (by simp) (.cells #[.int .i64 a0, .int .i64 a1, .int .i64 a2, .slice pA p.length pc] 51)
  go_enter Tryz.func69, Tryz.ntmps69
  go_wp2_with fail
  refine (specReadVersion_any _ _ sx).mono ?_
  rintro e w1 ⟨u, rfl, hu, hb1⟩
  obtain ⟨uA, uc, rfl⟩ := hu.slice
  rw [HOL.out, HL0.out, HL1.out, HL2.out, HM.out]
  have B1 := B0.trans (hb1.mono B0.size)
  have b1 := keepB b0 hb1
  have v1 := keepB v0 hb1
  have hRL : RdS w1 (.slice uA m uc) (readP x.data.toList) := by have := RdS.of_strs hu; rw [HM.out] at this; exact this
  have z1 : w.heap.size + 1 < w1.heap.size := lt_of_heap v1
  have B1' := B1.alloc B1.size (.cells #[.int .i64 l0, .int .i64 l1, .int .i64 l2, .slice uA m uc] 51)
  have b1' := keepA b1 (.cells #[.int .i64 l0, .int .i64 l1, .int .i64 l2, .slice uA m uc] 51)
  have v1' := keepA v1 (.cells #[.int .i64 l0, .int .i64 l1, .int .i64 l2, .slice uA m uc] 51)
  have l1' := heap_alloc_new w1 (.cells #[.int .i64 l0, .int .i64 l1, .int .i64 l2, .slice uA m uc] 51)
  have hRL' := rdS_alloc hRL (.cells #[.int .i64 l0, .int .i64 l1, .int .i64 l2, .slice uA m uc] 51)
  obtain ⟨s0, s1⟩ := cellsB b1'
  clear B0 b0 v0 hb1 hu B1 b1 v1 hRL
  go_wp2_with fail
  refine (specReadVersion_any _ _ sy).mono ?_
  rintro e w2 ⟨t, rfl, ht, hb2⟩
  obtain ⟨tA, tc, rfl⟩ := ht.slice
  rw [HOH.out, HH0.out, HH1.out, HH2.out, HMH.out]
  have B2 := B1'.trans (hb2.mono B1'.size)
  have v2 := keepA (keepB v1' hb2) (.cells #[.int .i64 h0, .int .i64 h1, .int .i64 h2, .slice tA mh tc] 51)
  have lw := keepA (keepB l1' hb2) (.cells #[.int .i64 h0, .int .i64 h1, .int .i64 h2, .slice tA mh tc] 51)
  have hh := heap_alloc_new w2 (.cells #[.int .i64 h0, .int .i64 h1, .int .i64 h2, .slice tA mh tc] 51)
  have hRL2 := rdS_alloc (hRL'.below hb2) (.cells #[.int .i64 h0, .int .i64 h1, .int .i64 h2, .slice tA mh tc] 51)
  have hRH2 : RdS _ (.slice tA mh tc) (readP y.data.toList) := rdS_alloc (by have := RdS.of_strs ht; rw [HMH.out] at this; exact this) (.cells #[.int .i64 h0, .int .i64 h1, .int .i64 h2, .slice tA mh tc] 51)
  have B2' := B2.alloc B2.size (.cells #[.int .i64 h0, .int .i64 h1, .int .i64 h2, .slice tA mh tc] 51)
  have hRV2 := HR.out _ B2'
  clear b1' v1' l1' hRL' s0 s1 hb2 ht B2 B1'
  have CL : ∀ (W : World), Below (w2.alloc (.cells #[.int .i64 h0, .int .i64 h1, .int .i64 h2, .slice tA mh tc] 51)).heap.size (w2.alloc (.cells #[.int .i64 h0, .int .i64 h1, .int .i64 h2, .slice tA mh tc] 51)) W → Calls Tryz.prog 78 #[.agg #[.int .i64 a0, .int .i64 a1, .int .i64 a2, .slice pA p.length pc], .agg #[.int .i64 l0, .int .i64 l1, .int .i64 l2, .slice uA m uc]] W fun e w' => e = .returned (.int .i64 cL) ∧ Below W.heap.size W w' := fun W hW => by
    have := specCompareVersion_any a0 a1 a2 l0 l1 l2 _ _ p _ W (hRV2.below hW) (hRL2.below hW) HP.out HSL.out
    rw [← HL0.out, ← HL1.out, ← HL2.out, HCL.out] at this
    rw [← HL0.out, ← HL1.out, ← HL2.out]
    exact this
  have CH : ∀ (W : World), Below (w2.alloc (.cells #[.int .i64 h0, .int .i64 h1, .int .i64 h2, .slice tA mh tc] 51)).heap.size (w2.alloc (.cells #[.int .i64 h0, .int .i64 h1, .int .i64 h2, .slice tA mh tc] 51)) W → Calls Tryz.prog 78 #[.agg #[.int .i64 a0, .int .i64 a1, .int .i64 a2, .slice pA p.length pc], .agg #[.int .i64 h0, .int .i64 h1, .int .i64 h2, .slice tA mh tc]] W fun e w' => e = .returned (.int .i64 cH) ∧ Below W.heap.size W w' := fun W hW => by
    have := specCompareVersion_any a0 a1 a2 h0 h1 h2 _ _ p _ W (hRV2.below hW) (hRH2.below hW) HP.out HSH.out
    rw [← HH0.out, ← HH1.out, ← HH2.out, HCH.out] at this
    rw [← HH0.out, ← HH1.out, ← HH2.out]
    exact this
  have HCLC := Lib.hid CL
  have HCHC := Lib.hid CH
  clear CL CH hRV2 hRL2 hRH2
  obtain ⟨x0, x1, x2, x3⟩ := cells4 v2
  obtain ⟨y0, y1, y2, y3⟩ := cells4 lw
  obtain ⟨z0, z1', z2, z3⟩ := cells4 hh
  clear HR HP HSL HSH HOL HOH HCL HCH HM HMH HL0 HL1 HL2 HH0 HH1 HH2 hL5
  cases okL
  · have m0 : m = 0 := HN2.out rfl
    cases okH
    · skip
      by_cases hpe : p.length = 0
      · have q0 : ((p.length : Int) == 0) = true := by simp [hpe]
        have HF : Hid (r = true) := Lib.hid (by rw [HT2.out]; simp [q0])
        clear hpe
        go_wp2_with fail
        go_ret
        exact ⟨ret_bool HF.out.symm, B2'⟩
      · have q0 : ((p.length : Int) == 0) = false := int_beq_false (by omega)
        have HF : Hid (r = false) := Lib.hid (by rw [HT2.out]; simp [q0, m0])
        clear hpe
        go_wp2_with fail
        go_ret
        exact ⟨ret_bool HF.out.symm, B2'⟩
    · go_wp2_with fail
      refine (HCHC.out _ (Below.refl _ _)).mono ?_
      rintro e w3 ⟨rfl, hb3⟩
      have B3 := B2'.trans (hb3.mono B2'.size)
      obtain ⟨x0', x1', x2', x3'⟩ := cells4 (keepB v2 hb3)
      obtain ⟨y0', y1', y2', y3'⟩ := cells4 (keepB lw hb3)
      clear x0 x1 x2 x3 y0 y1 y2 y3 z0 z1' z2 z3 hb3
      by_cases hcH : 0 ≤ cH
      · skip
        have HF : Hid (r = false) := Lib.hid (by rw [HT2.out]; simp [hcH])
        go_wp2_with fail
        go_ret
        exact ⟨ret_bool HF.out.symm, B3⟩
      · skip
        by_cases hpe : p.length = 0
        · have q0 : ((p.length : Int) == 0) = true := by simp [hpe]
          have HF : Hid (r = true) := Lib.hid (by rw [HT2.out]; simp [q0, hcH])
          clear hpe
          go_wp2_with fail
          go_ret
          exact ⟨ret_bool HF.out.symm, B3⟩
        · have q0 : ((p.length : Int) == 0) = false := int_beq_false (by omega)
          have HF : Hid (r = false) := Lib.hid (by rw [HT2.out]; simp [q0, m0, hcH])
          clear hpe
          go_wp2_with fail
          go_ret
          exact ⟨ret_bool HF.out.symm, B3⟩
  · go_wp2_with fail
    refine (HCLC.out _ (Below.refl _ _)).mono ?_
    rintro e w3 ⟨rfl, hb3⟩
    have B3 := B2'.trans (hb3.mono B2'.size)
    obtain ⟨x0', x1', x2', x3'⟩ := cells4 (keepB v2 hb3)
    obtain ⟨y0', y1', y2', y3'⟩ := cells4 (keepB lw hb3)
    obtain ⟨z0', z1'', z2', z3'⟩ := cells4 (keepB hh hb3)
    clear x0 x1 x2 x3 y0 y1 y2 y3 z0 z1' z2 z3
    by_cases hcL : cL < 0
    · skip
      have HF : Hid (r = false) := Lib.hid (by rw [HT2.out]; simp [hcL])
      go_wp2_with fail
      go_ret
      exact ⟨ret_bool HF.out.symm, B3⟩
    cases okH
    · skip
      by_cases hpe : p.length = 0
      · have q0 : ((p.length : Int) == 0) = true := by simp [hpe]
        have HF : Hid (r = true) := Lib.hid (by rw [HT2.out]; simp [q0, hcL])
        clear hpe
        go_wp2_with fail
        go_ret
        exact ⟨ret_bool HF.out.symm, B3⟩
      have q0 : ((p.length : Int) == 0) = false := int_beq_false (by omega)
      clear hpe
      by_cases hme : m = 0
      · have q1 : ¬ (0 : Int) < (m : Int) := by omega
        have HF : Hid (r = false) := Lib.hid (by rw [HT2.out]; simp [q0, hme, hcL])
        clear hme
        go_wp2_with fail
        go_ret
        exact ⟨ret_bool HF.out.symm, B3⟩
      have q1 : (0 : Int) < (m : Int) := by omega
      have q1' : 0 < m := by omega
      clear hme
      by_cases ha : ¬ l0 = a0
      · have q2 : (l0 == a0) = false := int_beq_false ha
        have HF : Hid (r = false) := Lib.hid (by rw [HT2.out]; simp [q0, q1', q2, hcL])
        clear ha
        go_wp2_with fail
        go_ret
        exact ⟨ret_bool HF.out.symm, B3⟩
      have q2 : (l0 == a0) = true := by rw [Decidable.not_not.1 ha]; simp
      clear ha
      by_cases hb : ¬ l1 = a1
      · have q3 : (l1 == a1) = false := int_beq_false hb
        have HF : Hid (r = false) := Lib.hid (by rw [HT2.out]; simp [q0, q1', q2, q3, hcL])
        clear hb
        go_wp2_with fail
        go_ret
        exact ⟨ret_bool HF.out.symm, B3⟩
      have q3 : (l1 == a1) = true := by rw [Decidable.not_not.1 hb]; simp
      clear hb
      by_cases hc : ¬ l2 = a2
      · have q4 : (l2 == a2) = false := int_beq_false hc
        have HF : Hid (r = false) := Lib.hid (by rw [HT2.out]; simp [q0, q1', q2, q3, q4, hcL])
        clear hc
        go_wp2_with fail
        go_ret
        exact ⟨ret_bool HF.out.symm, B3⟩
      have q4 : (l2 == a2) = true := by rw [Decidable.not_not.1 hc]; simp
      clear hc
      have HF : Hid (r = true) := Lib.hid (by rw [HT2.out]; simp [q0, q1', q2, q3, q4, hcL])
      go_wp2_with fail
      go_ret
      exact ⟨ret_bool HF.out.symm, B3⟩
    · go_wp2_with fail
      refine (HCHC.out _ hb3).mono ?_
      rintro e w4 ⟨rfl, hb4⟩
      have B4 := B3.trans (hb4.mono B3.size)
      obtain ⟨x0, x1, x2, x3⟩ := cells4 (keepB (keepB v2 hb3) hb4)
      obtain ⟨y0, y1, y2, y3⟩ := cells4 (keepB (keepB lw hb3) hb4)
      clear x0' x1' x2' x3' y0' y1' y2' y3' z0' z1'' z2' z3' hb3 hb4
      by_cases hcH : 0 ≤ cH
      · skip
        have HF : Hid (r = false) := Lib.hid (by rw [HT2.out]; simp [hcH])
        go_wp2_with fail
        go_ret
        exact ⟨ret_bool HF.out.symm, B4⟩
      · skip
        by_cases hpe : p.length = 0
        · have q0 : ((p.length : Int) == 0) = true := by simp [hpe]
          have HF : Hid (r = true) := Lib.hid (by rw [HT2.out]; simp [q0, hcL, hcH])
          clear hpe
          go_wp2_with fail
          go_ret
          exact ⟨ret_bool HF.out.symm, B4⟩
        have q0 : ((p.length : Int) == 0) = false := int_beq_false (by omega)
        clear hpe
        by_cases hme : m = 0
        · have q1 : ¬ (0 : Int) < (m : Int) := by omega
          have HF : Hid (r = false) := Lib.hid (by rw [HT2.out]; simp [q0, hme, hcH])
          clear hme
          go_wp2_with fail
          go_ret
          exact ⟨ret_bool HF.out.symm, B4⟩
        have q1 : (0 : Int) < (m : Int) := by omega
        have q1' : 0 < m := by omega
        clear hme
        by_cases ha : ¬ l0 = a0
        · have q2 : (l0 == a0) = false := int_beq_false ha
          have HF : Hid (r = false) := Lib.hid (by rw [HT2.out]; simp [q0, q1', q2, hcH])
          clear ha
          go_wp2_with fail
          go_ret
          exact ⟨ret_bool HF.out.symm, B4⟩
        have q2 : (l0 == a0) = true := by rw [Decidable.not_not.1 ha]; simp
        clear ha
        by_cases hb : ¬ l1 = a1
        · have q3 : (l1 == a1) = false := int_beq_false hb
          have HF : Hid (r = false) := Lib.hid (by rw [HT2.out]; simp [q0, q1', q2, q3, hcH])
          clear hb
          go_wp2_with fail
          go_ret
          exact ⟨ret_bool HF.out.symm, B4⟩
        have q3 : (l1 == a1) = true := by rw [Decidable.not_not.1 hb]; simp
        clear hb
        by_cases hc : ¬ l2 = a2
        · have q4 : (l2 == a2) = false := int_beq_false hc
          have HF : Hid (r = false) := Lib.hid (by rw [HT2.out]; simp [q0, q1', q2, q3, q4, hcH])
          clear hc
          go_wp2_with fail
          go_ret
          exact ⟨ret_bool HF.out.symm, B4⟩
        have q4 : (l2 == a2) = true := by rw [Decidable.not_not.1 hc]; simp
        clear hc
        have HF : Hid (r = true) := Lib.hid (by rw [HT2.out]; simp [q0, q1', q2, q3, q4, hcL, hcH])
        go_wp2_with fail
        go_ret
        exact ⟨ret_bool HF.out.symm, B4⟩
end Go.Proofs.YtjpclglklmlhlabGreatDoor
