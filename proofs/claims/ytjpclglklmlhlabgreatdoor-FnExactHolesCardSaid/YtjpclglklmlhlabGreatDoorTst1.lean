/-
  The test of a bound, called: impl.testOf$1.
-/
import Derived.Test.YtjpclglklmlhlabGreatDoorTstI
namespace Go.Proofs.YtjpclglklmlhlabGreatDoor
open Go.RowKit

set_option maxRecDepth 100000 in
set_option maxHeartbeats 4000000 in
theorem test1_any (b : Bd) (f0 : Value) (a0 a1 a2 : Int) (vp : Value) (p : List (List UInt8)) (w : World) (hf : TestAt w f0 b) (hr : RdS w vp p) (hp : Sm p) (sx : b.1.length ≤ 1048576) (sy : b.2.length ≤ 1048576) :
    ∃ cs, f0 = .func (.func 121) #[] cs ∧ Calls Tryz.prog 121 (#[.agg #[.int .i64 a0, .int .i64 a1, .int .i64 a2, vp]] ++ cs) w fun e w' => e = .returned (.bool (takes b a0 a1 a2 p)) ∧ Below w.heap.size w w' := by
  obtain ⟨Bb, Bl, Cb, Cl, uc, tc, uA, tA, rfl, kb, lb, kc, lc, hRL, hRH⟩ := hf
  refine ⟨_, rfl, ?_⟩
  have HP := Lib.hid hp
  have HR := Lib.hid (fun (W : World) (h : Below w.heap.size w W) => hr.below h)
  have HRL := Lib.hid (RdS.of_strs hRL)
  have HRH := Lib.hid (RdS.of_strs hRH)
  obtain ⟨pA, pc, rfl, _⟩ := hr
  have hpl := hp.1
  have hL5 := readP_sm b.1
  have HSL : Hid (Sm (readP b.1)) := Lib.hid (readP_Sm sx)
  have HSH : Hid (Sm (readP b.2)) := Lib.hid (readP_Sm sy)
  clear hp hRL hRH
  obtain ⟨r, HRR⟩ : ∃ r, Hid (takes b a0 a1 a2 p = r) := ⟨_, Lib.hid rfl⟩
  rw [HRR.out]
  obtain ⟨okL, HOL⟩ : ∃ z, Hid (readOk b.1 = z) := ⟨_, Lib.hid rfl⟩
  obtain ⟨okH, HOH⟩ : ∃ z, Hid (readOk b.2 = z) := ⟨_, Lib.hid rfl⟩
  obtain ⟨cL, HCL⟩ : ∃ z, Hid (cmpVer a0 a1 a2 p (readA b.1 0) (readA b.1 1) (readA b.1 2) (readP b.1) = z) := ⟨_, Lib.hid rfl⟩
  obtain ⟨cH, HCH⟩ : ∃ z, Hid (cmpVer a0 a1 a2 p (readA b.2 0) (readA b.2 1) (readA b.2 2) (readP b.2) = z) := ⟨_, Lib.hid rfl⟩
  have HT : Hid (r = if (okL && decide (cL < 0)) || (okH && decide (0 ≤ cH)) then false else ((p.length : Int) == 0) || (decide (0 < (readP b.1).length) && ((readA b.1 0 == a0) && (readA b.1 1 == a1) && (readA b.1 2 == a2)))) := Lib.hid (by rw [← HRR.out, ← HOL.out, ← HOH.out, ← HCL.out, ← HCH.out]; rfl)
  have HN : Hid (okL = false → (readP b.1).length = 0) := Lib.hid (fun h => by rw [readP_no (HOL.out.trans h)]; rfl)
  obtain ⟨m, HM⟩ : ∃ m, Hid ((readP b.1).length = m) := ⟨_, Lib.hid rfl⟩
  obtain ⟨mh, HMH⟩ : ∃ m, Hid ((readP b.2).length = m) := ⟨_, Lib.hid rfl⟩
  obtain ⟨l0, HL0⟩ : ∃ z, Hid (readA b.1 0 = z) := ⟨_, Lib.hid rfl⟩
  obtain ⟨l1, HL1⟩ : ∃ z, Hid (readA b.1 1 = z) := ⟨_, Lib.hid rfl⟩
  obtain ⟨l2, HL2⟩ : ∃ z, Hid (readA b.1 2 = z) := ⟨_, Lib.hid rfl⟩
  obtain ⟨h0, HH0⟩ : ∃ z, Hid (readA b.2 0 = z) := ⟨_, Lib.hid rfl⟩
  obtain ⟨h1, HH1⟩ : ∃ z, Hid (readA b.2 1 = z) := ⟨_, Lib.hid rfl⟩
  obtain ⟨h2, HH2⟩ : ∃ z, Hid (readA b.2 2 = z) := ⟨_, Lib.hid rfl⟩
  rw [HM.out] at hL5
  rw [HOL.out] at kb
  rw [HOH.out] at kc
  rw [HL0.out, HL1.out, HL2.out, HM.out] at lb
  rw [HH0.out, HH1.out, HH2.out, HMH.out] at lc
  have HT2 : Hid (r = if (okL && decide (cL < 0)) || (okH && decide (0 ≤ cH)) then false else ((p.length : Int) == 0) || (decide (0 < m) && ((l0 == a0) && (l1 == a1) && (l2 == a2)))) := Lib.hid (by rw [HT.out, HM.out, HL0.out, HL1.out, HL2.out])
  have HN2 : Hid (okL = false → m = 0) := Lib.hid (fun h => by rw [← HM.out]; exact HN.out h)
  clear HT HN HRR
  have B2' : Below w.heap.size w (w.alloc (.cells #[.int .i64 a0, .int .i64 a1, .int .i64 a2, .slice pA p.length pc] 51)) := (Below.refl _ _).alloc (Nat.le_refl _) _
  have v2 := heap_alloc_new w (.cells #[.int .i64 a0, .int .i64 a1, .int .i64 a2, .slice pA p.length pc] 51)
  have kb' := keepA kb (.cells #[.int .i64 a0, .int .i64 a1, .int .i64 a2, .slice pA p.length pc] 51)
  have kc' := keepA kc (.cells #[.int .i64 a0, .int .i64 a1, .int .i64 a2, .slice pA p.length pc] 51)
  have lw := keepA lb (.cells #[.int .i64 a0, .int .i64 a1, .int .i64 a2, .slice pA p.length pc] 51)
  have hh := keepA lc (.cells #[.int .i64 a0, .int .i64 a1, .int .i64 a2, .slice pA p.length pc] 51)
  have CL : ∀ (W : World), Below (w.alloc (.cells #[.int .i64 a0, .int .i64 a1, .int .i64 a2, .slice pA p.length pc] 51)).heap.size (w.alloc (.cells #[.int .i64 a0, .int .i64 a1, .int .i64 a2, .slice pA p.length pc] 51)) W → Calls Tryz.prog 42 #[.agg #[.int .i64 a0, .int .i64 a1, .int .i64 a2, .slice pA p.length pc], .agg #[.int .i64 l0, .int .i64 l1, .int .i64 l2, .slice uA m uc]] W fun e w' => e = .returned (.int .i64 cL) ∧ Below W.heap.size W w' := fun W hW => by
    have hw := B2'.trans (hW.mono B2'.size)
    have hR := HRL.out.below hw
    rw [HM.out] at hR
    have := implCompareVersion_any a0 a1 a2 l0 l1 l2 _ _ p _ W (HR.out W hw) hR HP.out HSL.out
    rw [← HL0.out, ← HL1.out, ← HL2.out, HCL.out] at this
    rw [← HL0.out, ← HL1.out, ← HL2.out]
    exact this
  have CH : ∀ (W : World), Below (w.alloc (.cells #[.int .i64 a0, .int .i64 a1, .int .i64 a2, .slice pA p.length pc] 51)).heap.size (w.alloc (.cells #[.int .i64 a0, .int .i64 a1, .int .i64 a2, .slice pA p.length pc] 51)) W → Calls Tryz.prog 42 #[.agg #[.int .i64 a0, .int .i64 a1, .int .i64 a2, .slice pA p.length pc], .agg #[.int .i64 h0, .int .i64 h1, .int .i64 h2, .slice tA mh tc]] W fun e w' => e = .returned (.int .i64 cH) ∧ Below W.heap.size W w' := fun W hW => by
    have hw := B2'.trans (hW.mono B2'.size)
    have hR := HRH.out.below hw
    rw [HMH.out] at hR
    have := implCompareVersion_any a0 a1 a2 h0 h1 h2 _ _ p _ W (HR.out W hw) hR HP.out HSH.out
    rw [← HH0.out, ← HH1.out, ← HH2.out, HCH.out] at this
    rw [← HH0.out, ← HH1.out, ← HH2.out]
    exact this
  have HCLC := Lib.hid CL
  have HCHC := Lib.hid CH
  clear CL CH kb kc lb lc
  have c0 := cells1 kb'
  have c1 := cells1 kc'
  obtain ⟨x0, x1, x2, x3⟩ := cells4 v2
  obtain ⟨y0, y1, y2, y3⟩ := cells4 lw
  obtain ⟨z0, z1', z2, z3⟩ := cells4 hh
  clear HR HP HSL HSH HOL HOH HCL HCH HM HMH HL0 HL1 HL2 HH0 HH1 HH2 hL5 HRL HRH
  go_enter Tryz.func121, Tryz.ntmps121
  cases okL
  · have m0 : m = 0 := HN2.out rfl
    cases okH
    · skip
      by_cases hpe : p.length = 0
      · have q0 : ((p.length : Int) == 0) = true := by simp [hpe]
        have HF : Hid (r = true) := Lib.hid (by rw [HT2.out]; simp [q0])
        clear hpe
        go_wp2_with fail
        go_ret
        exact ⟨ret_bool HF.out.symm, B2'⟩
      have q0 : ((p.length : Int) == 0) = false := int_beq_false (by omega)
      clear hpe
      have HF : Hid (r = false) := Lib.hid (by rw [HT2.out]; simp [q0, m0])
      go_wp2_with fail
      go_ret
      exact ⟨ret_bool HF.out.symm, B2'⟩
    · go_wp2_with fail
      refine (HCHC.out _ (Below.refl _ _)).mono ?_
      rintro e w3 ⟨rfl, hb3⟩
      have B3 := B2'.trans (hb3.mono B2'.size)
      obtain ⟨x0', x1', x2', x3'⟩ := cells4 (keepB v2 hb3)
      obtain ⟨y0', y1', y2', y3'⟩ := cells4 (keepB lw hb3)
      clear x0 x1 x2 x3 y0 y1 y2 y3 z0 z1' z2 z3 hb3 c0 c1
      by_cases hcH : 0 ≤ cH
      · skip
        have HF : Hid (r = false) := Lib.hid (by rw [HT2.out]; simp [hcH])
        go_wp2_with fail
        go_ret
        exact ⟨ret_bool HF.out.symm, B3⟩
      · skip
        by_cases hpe : p.length = 0
        · have q0 : ((p.length : Int) == 0) = true := by simp [hpe]
          have HF : Hid (r = true) := Lib.hid (by rw [HT2.out]; simp [q0, hcH])
          clear hpe
          go_wp2_with fail
          go_ret
          exact ⟨ret_bool HF.out.symm, B3⟩
        have q0 : ((p.length : Int) == 0) = false := int_beq_false (by omega)
        clear hpe
        have HF : Hid (r = false) := Lib.hid (by rw [HT2.out]; simp [q0, m0, hcH])
        go_wp2_with fail
        go_ret
        exact ⟨ret_bool HF.out.symm, B3⟩
  · go_wp2_with fail
    refine (HCLC.out _ (Below.refl _ _)).mono ?_
    rintro e w3 ⟨rfl, hb3⟩
    have B3 := B2'.trans (hb3.mono B2'.size)
    have c1' := cells1 (keepB kc' hb3)
    obtain ⟨x0', x1', x2', x3'⟩ := cells4 (keepB v2 hb3)
    obtain ⟨y0', y1', y2', y3'⟩ := cells4 (keepB lw hb3)
    obtain ⟨z0', z1'', z2', z3'⟩ := cells4 (keepB hh hb3)
    clear x0 x1 x2 x3 y0 y1 y2 y3 z0 z1' z2 z3 c0 c1
    by_cases hcL : cL < 0
    · skip
      have HF : Hid (r = false) := Lib.hid (by rw [HT2.out]; simp [hcL])
      go_wp2_with fail
      go_ret
      exact ⟨ret_bool HF.out.symm, B3⟩
    cases okH
    · skip
      by_cases hpe : p.length = 0
      · have q0 : ((p.length : Int) == 0) = true := by simp [hpe]
        have HF : Hid (r = true) := Lib.hid (by rw [HT2.out]; simp [q0, hcL])
        clear hpe
        go_wp2_with fail
        go_ret
        exact ⟨ret_bool HF.out.symm, B3⟩
      have q0 : ((p.length : Int) == 0) = false := int_beq_false (by omega)
      clear hpe
      by_cases hme : m = 0
      · have q1 : ¬ (0 : Int) < (m : Int) := by omega
        have HF : Hid (r = false) := Lib.hid (by rw [HT2.out]; simp [q0, hme, hcL])
        clear hme
        go_wp2_with fail
        go_ret
        exact ⟨ret_bool HF.out.symm, B3⟩
      have q1 : (0 : Int) < (m : Int) := by omega
      have q1' : 0 < m := by omega
      clear hme
      have HF : Hid (((l0 == a0) && (l1 == a1) && (l2 == a2)) = r) := Lib.hid (by rw [HT2.out]; simp [q0, q1', hcL])
      go_wp2_with fail
      refine (sameNumbers_any _ _ _ _ _ _ _ _ _ _ _ _ _).mono ?_
      rw [HF.out]
      rintro e w9 ⟨rfl, hb9⟩
      have B9 := B3.trans (hb9.mono B3.size)
      go_wp2_with fail
      go_ret
      exact ⟨rfl, B9⟩
    · go_wp2_with fail
      refine (HCHC.out _ hb3).mono ?_
      rintro e w4 ⟨rfl, hb4⟩
      have B4 := B3.trans (hb4.mono B3.size)
      obtain ⟨x0, x1, x2, x3⟩ := cells4 (keepB (keepB v2 hb3) hb4)
      obtain ⟨y0, y1, y2, y3⟩ := cells4 (keepB (keepB lw hb3) hb4)
      clear x0' x1' x2' x3' y0' y1' y2' y3' z0' z1'' z2' z3' c1' hb3 hb4
      by_cases hcH : 0 ≤ cH
      · skip
        have HF : Hid (r = false) := Lib.hid (by rw [HT2.out]; simp [hcH])
        go_wp2_with fail
        go_ret
        exact ⟨ret_bool HF.out.symm, B4⟩
      · skip
        by_cases hpe : p.length = 0
        · have q0 : ((p.length : Int) == 0) = true := by simp [hpe]
          have HF : Hid (r = true) := Lib.hid (by rw [HT2.out]; simp [q0, hcL, hcH])
          clear hpe
          go_wp2_with fail
          go_ret
          exact ⟨ret_bool HF.out.symm, B4⟩
        have q0 : ((p.length : Int) == 0) = false := int_beq_false (by omega)
        clear hpe
        by_cases hme : m = 0
        · have q1 : ¬ (0 : Int) < (m : Int) := by omega
          have HF : Hid (r = false) := Lib.hid (by rw [HT2.out]; simp [q0, hme, hcH])
          clear hme
          go_wp2_with fail
          go_ret
          exact ⟨ret_bool HF.out.symm, B4⟩
        have q1 : (0 : Int) < (m : Int) := by omega
        have q1' : 0 < m := by omega
        clear hme
        have HF : Hid (((l0 == a0) && (l1 == a1) && (l2 == a2)) = r) := Lib.hid (by rw [HT2.out]; simp [q0, q1', hcL, hcH])
        go_wp2_with fail
        refine (sameNumbers_any _ _ _ _ _ _ _ _ _ _ _ _ _).mono ?_
        rw [HF.out]
        rintro e w9 ⟨rfl, hb9⟩
        have B9 := B4.trans (hb9.mono B4.size)
        go_wp2_with fail
        go_ret
        exact ⟨rfl, B9⟩
end Go.Proofs.YtjpclglklmlhlabGreatDoor
