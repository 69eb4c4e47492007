/-
  spec.PutPurl returns the package URL.
-/
import Derived.Test.YtldfkdkppgammaaPurlM
import Derived.Test.YtldfkdkppgammaaRdS
import Derived.Test.YtldfkdkppgammaaIntS
namespace Go.Proofs.Ytldfkdkppgammaa
open Go.RowKit

theorem str_beq_nil {l : List UInt8} (h : l ≠ []) : l.isEmpty = false ∧ (l == []) = false := by cases l <;> simp_all

set_option maxRecDepth 100000 in
set_option maxHeartbeats 4000000 in
theorem specPutPurl_any (k : Int) (a b : List UInt8) (w : World) (ha : a.length ≤ 1048576) (hb : b.length ≤ 1048576) :
    Calls Try.prog 34 #[.int .i64 k, .string ⟨a.toArray⟩, .string ⟨b.toArray⟩] w fun e w' => e = .returned (.string ⟨(purlL k a b).toArray⟩) ∧ Below w.heap.size w w' := by
  have HV : Hid (Calls Try.prog 71 #[.string ⟨b.toArray⟩] w (ReadIs w b)) := Lib.hid (specReadVersion_any ⟨b.toArray⟩ w (by show b.toArray.size ≤ _; simp; omega))
  have HN : Hid (∀ W, Calls Try.prog 72 #[.string ⟨a.toArray⟩] W fun e w' => e = .returned (.bool (specN a)) ∧ Below W.heap.size W w') := Lib.hid (fun W => specNameOk_any ⟨a.toArray⟩ W (by show a.toArray.size ≤ _; simp; omega))
  have HK := Lib.hid (fun W => specKindName_any k W)
  have hkl := kindL_len k
  obtain ⟨r, HR⟩ : ∃ r, Hid (purlL k a b = r) := ⟨_, Lib.hid rfl⟩
  rw [HR.out]
  obtain ⟨K, HKK⟩ : ∃ K, Hid (kindL k = K) := ⟨_, Lib.hid rfl⟩
  simp only [HKK.out] at HK
  rw [HKK.out] at hkl
  obtain ⟨v, HVV⟩ : ∃ v, Hid (readOk b = v) := ⟨_, Lib.hid rfl⟩
  obtain ⟨m, HM⟩ : ∃ m, Hid (specN a = m) := ⟨_, Lib.hid rfl⟩
  simp only [HM.out] at HN
  by_cases hk0 : K = []
  · have HX : Hid (r = []) := Lib.hid (by rw [← HR.out]; exact purl_kind a b (by rw [HKK.out, hk0]))
    subst hk0
    go_enter Try.func34, Try.ntmps34
    go_wp2_with fail
    refine HV.out.mono ?_
    rintro e w1 ⟨u, rfl, hu, hb1⟩
    obtain ⟨A, c, rfl⟩ := hu.slice
    go_wp2_with fail
    refine (HK.out _).mono ?_
    rintro e w2 ⟨rfl, hb2⟩
    have B1 := hb1.alloc hb1.size (.cells #[.int .i64 (readA b 0), .int .i64 (readA b 1), .int .i64 (readA b 2), .slice A (readP b).length c] 47)
    go_wp2_with fail
    go_ret
    exact ⟨ret_str HX.out.symm, B1.trans (hb2.mono B1.size)⟩
  obtain ⟨e1, e2⟩ := str_beq_nil hk0
  cases m with
  | false =>
    have HX : Hid (r = []) := Lib.hid (by rw [← HR.out]; exact purl_name k b HM.out)
    clear hk0
    go_enter Try.func34, Try.ntmps34
    go_wp2_with fail
    refine HV.out.mono ?_
    rintro e w1 ⟨u, rfl, hu, hb1⟩
    obtain ⟨A, c, rfl⟩ := hu.slice
    go_wp2_with fail
    refine (HK.out _).mono ?_
    rintro e w2 ⟨rfl, hb2⟩
    have B1 := hb1.alloc hb1.size (.cells #[.int .i64 (readA b 0), .int .i64 (readA b 1), .int .i64 (readA b 2), .slice A (readP b).length c] 47)
    have B2 := B1.trans (hb2.mono B1.size)
    go_wp2_with fail
    refine (HN.out _).mono ?_
    rintro e w3 ⟨rfl, hb3⟩
    go_wp2_with fail
    go_ret
    exact ⟨ret_str HX.out.symm, B2.trans (hb3.mono B2.size)⟩
  | true =>
    cases v with
    | false =>
      have HX : Hid (r = []) := Lib.hid (by rw [← HR.out]; exact purl_ver k a HVV.out)
      clear hk0
      go_enter Try.func34, Try.ntmps34
      go_wp2_with fail
      refine HV.out.mono ?_
      rintro e w1 ⟨u, rfl, hu, hb1⟩
      obtain ⟨A, c, rfl⟩ := hu.slice
      rw [HVV.out]
      go_wp2_with fail
      refine (HK.out _).mono ?_
      rintro e w2 ⟨rfl, hb2⟩
      have B1 := hb1.alloc hb1.size (.cells #[.int .i64 (readA b 0), .int .i64 (readA b 1), .int .i64 (readA b 2), .slice A (readP b).length c] 47)
      have B2 := B1.trans (hb2.mono B1.size)
      go_wp2_with fail
      refine (HN.out _).mono ?_
      rintro e w3 ⟨rfl, hb3⟩
      go_wp2_with fail
      go_ret
      exact ⟨ret_str HX.out.symm, B2.trans (hb3.mono B2.size)⟩
    | true =>
      have HX : Hid (r = [112, 107, 103, 58] ++ K ++ pctP (cutL 47 a) ++ 64 :: pctL b) := Lib.hid (by rw [← HR.out, purl_yes (by rw [HKK.out]; exact hk0) HM.out HVV.out]; unfold purlT; rw [HKK.out])
      have h60 := specN_60 HM.out
      have HC : Hid (∀ W, Calls Try.prog 73 #[.string ⟨a.toArray⟩, .int .u8 47] W fun e w' => ∃ g cap, e = .returned (.slice (some ⟨g, 0, none⟩) (cutL 47 a).length cap) ∧ Strs w' W.heap.size (.slice (some ⟨g, 0, none⟩) (cutL 47 a).length cap) (cutL 47 a) ∧ Below W.heap.size W w') := Lib.hid (fun W => l01Cut_any ⟨a.toArray⟩ 47 W (by show a.toArray.size ≤ _; simp; omega))
      have HP := Lib.hid (fun (l : List UInt8) (hl : l.length ≤ 1048576) W => (show Calls Try.prog 74 #[.string ⟨l.toArray⟩] W fun e w' => e = .returned (.string ⟨(pctL l).toArray⟩) ∧ Below W.heap.size W w' from specPutPercent_any ⟨l.toArray⟩ W (by show l.toArray.size ≤ _; simp; omega)))
      have hLl : (cutL 47 a).length ≤ 61 := by have := cutL_len_le 47 a; omega
      have HLM : Hid (∀ l ∈ cutL 47 a, l.length ≤ 60) := Lib.hid (fun l hl => by have := cutL_mem_le 47 a l hl; omega)
      have hbp := pctL_len b
      obtain ⟨L, HL⟩ : ∃ L, Hid (cutL 47 a = L) := ⟨_, Lib.hid rfl⟩
      simp only [HL.out] at HC HLM
      rw [HL.out] at hLl HX
      have s0 : ∀ W, (Op.stringOp .add ⟨#[112, 107, 103, 58]⟩ ⟨K.toArray⟩).run Try.prog W = .ok (.string ⟨([112, 107, 103, 58] ++ K).toArray⟩) W := fun W => add_lists W [112, 107, 103, 58] K (by simp) (by omega)
      clear hk0
      go_enter Try.func34, Try.ntmps34
      go_wp2_with fail
      refine HV.out.mono ?_
      rintro e w1 ⟨u, rfl, hu, hb1⟩
      obtain ⟨A, c, rfl⟩ := hu.slice
      rw [HVV.out]
      go_wp2_with fail
      refine (HK.out _).mono ?_
      rintro e w2 ⟨rfl, hb2⟩
      have B1 := hb1.alloc hb1.size (.cells #[.int .i64 (readA b 0), .int .i64 (readA b 1), .int .i64 (readA b 2), .slice A (readP b).length c] 47)
      have B2 := B1.trans (hb2.mono B1.size)
      clear hu hb1 B1 hb2 HV
      go_wp2_with fail
      refine (HN.out _).mono ?_
      rintro e w3 ⟨rfl, hb3⟩
      have B3 := B2.trans (hb3.mono B2.size)
      clear B2 hb3 HN
      go_wp2_with fail
      refine (HK.out _).mono ?_
      rintro e w4 ⟨rfl, hb4⟩
      have B4 := B3.trans (hb4.mono B3.size)
      clear B3 hb4 HK
      go_wp2_with fail
      refine (HC.out _).mono ?_
      rintro e w5 ⟨g, cap, rfl, hS, hb5⟩
      have B5 := B4.trans (hb5.mono B4.size)
      clear B4 hb5 HC s0
      go_wp2_with fail
      go_loopw [9, 11] (fun o i wr => ∃ (j : Nat) (out : List UInt8), j ≤ L.length ∧ i = .int .i64 j ∧ o = .string ⟨out.toArray⟩ ∧ out.length ≤ 10 + 181 * j ∧ Hid ([112, 107, 103, 58] ++ K ++ pctP (L.take j) = out) ∧ Below w5.heap.size w5 wr) (fun _ i _ => L.length - (intOf i).toNat)
      case atStart => exact ⟨0, [112, 107, 103, 58] ++ K, Nat.zero_le _, rfl, rfl, by simp; omega, Lib.hid (by simp [pctP]), Below.refl _ _⟩
      case round =>
        obtain ⟨j, out, hj, rfl, rfl, hol, HO, hbr⟩ := hrel
        by_cases hlt : j < L.length
        · have hSr := hS.below hbr
          have d1 : wr.cell? ⟨g, j, none⟩ = some (.string ⟨L[j].toArray⟩) := hSr.cell j hlt
          have hp := HLM.out L[j] (List.getElem_mem hlt)
          have HQ := Lib.hid (HP.out L[j] (by omega))
          have hpl := pctL_len L[j]
          have HT := Lib.hid (pctP_snoc hlt)
          obtain ⟨E, HE⟩ : ∃ E, Hid (pctL L[j] = E) := ⟨_, Lib.hid rfl⟩
          simp only [HE.out] at HQ
          rw [HE.out] at hpl HT
          obtain ⟨N1, HN1⟩ : ∃ N, Hid (N = out ++ [47]) := ⟨_, Lib.hid rfl⟩
          obtain ⟨N2, HN2⟩ : ∃ N, Hid (N = N1 ++ E) := ⟨_, Lib.hid rfl⟩
          have l1 : N1.length ≤ 11 + 181 * j := by rw [HN1.out]; simp; omega
          have l2 : N2.length ≤ 10 + 181 * (j + 1) := by rw [HN2.out]; simp; omega
          have s1 : ∀ W, (Op.stringOp .add ⟨out.toArray⟩ ⟨#[47]⟩).run Try.prog W = .ok (.string ⟨N1.toArray⟩) W := fun W => by rw [HN1.out]; exact add_lists W out [47] (by omega) (by simp)
          have s2 : ∀ W, (Op.stringOp .add ⟨N1.toArray⟩ ⟨E.toArray⟩).run Try.prog W = .ok (.string ⟨N2.toArray⟩) W := fun W => by rw [HN2.out]; exact add_lists W N1 E (by omega) (by omega)
          have HNN : Hid ([112, 107, 103, 58] ++ K ++ pctP (L.take (j + 1)) = N2) := Lib.hid (by rw [HT.out, HN2.out, HN1.out, ← HO.out]; simp)
          have k0 : (0 : Int) ≤ (j : Int) := by omega
          have k1 : (j : Int) < (L.length : Int) := by omega
          clear hSr hp
          go_wp2_with fail
          refine (HQ.out _).mono ?_
          rintro e w6 ⟨rfl, hb6⟩
          have HB6 := hbr.trans (hb6.mono hbr.size)
          go_wp2_with fail
          go_roundw
          case rel => exact ⟨j + 1, N2, by omega, by go_num, rfl, l2, HNN, HB6⟩
          case measure => simp [intOf]; omega
        · have HQ := Lib.hid (HP.out b hb)
          obtain ⟨E, HE⟩ : ∃ E, Hid (pctL b = E) := ⟨_, Lib.hid rfl⟩
          simp only [HE.out] at HQ
          rw [HE.out] at hbp HX
          obtain ⟨N1, HN1⟩ : ∃ N, Hid (N = out ++ [64]) := ⟨_, Lib.hid rfl⟩
          obtain ⟨N2, HN2⟩ : ∃ N, Hid (N = N1 ++ E) := ⟨_, Lib.hid rfl⟩
          have l1 : N1.length ≤ 12000 := by rw [HN1.out]; simp; omega
          have s1 : ∀ W, (Op.stringOp .add ⟨out.toArray⟩ ⟨#[64]⟩).run Try.prog W = .ok (.string ⟨N1.toArray⟩) W := fun W => by rw [HN1.out]; exact add_lists W out [64] (by omega) (by simp)
          have s2 : ∀ W, (Op.stringOp .add ⟨N1.toArray⟩ ⟨E.toArray⟩).run Try.prog W = .ok (.string ⟨N2.toArray⟩) W := fun W => by rw [HN2.out]; exact add_lists W N1 E (by omega) (by omega)
          have HNN : Hid (r = N2) := Lib.hid (by rw [HX.out, HN2.out, HN1.out, ← HO.out, pctP_all hlt]; simp)
          go_wp2_with fail
          refine (HQ.out _).mono ?_
          rintro e w6 ⟨rfl, hb6⟩
          have HB6 := hbr.trans (hb6.mono hbr.size)
          go_wp2_with fail
          go_ret
          exact ⟨ret_str HNN.out.symm, B5.trans (HB6.mono B5.size)⟩
end Go.Proofs.Ytldfkdkppgammaa
