/-
  spec.PutIntegrity returns the integrity text of sums.
-/
import Derived.Test.YtcfkhfbhmjfhdaaDoorIntM
import Derived.Test.YtcfkhfbhmjfhdaaDoorHeap
import Derived.Deep.RegionHeld3
import Derived.Laws.DeepStrings4
import Derived.Test.YtcfkhfbhmjfhdaaDoorAlgS
namespace Go.Proofs.YtcfkhfbhmjfhdaaDoor
open Go.RowKit

set_option maxRecDepth 100000 in
set_option maxHeartbeats 4000000 in
theorem specPutIntegrity_any (v : Value) (bs : List Bd) (w : World) (hr : RdB w v bs) (hs : SmB bs) :
    Calls Tryd.prog 30 #[v] w fun e w' => e = .returned (.string ⟨(intT bs).toArray⟩) ∧ Below w.heap.size w w' := by
  have HR := Lib.hid hr
  have HS := Lib.hid hs
  have hn : bs.length ≤ 1048576 := by unfold SmB at hs; omega
  obtain ⟨A, ca, rfl, _⟩ := hr
  obtain ⟨r, HX⟩ : ∃ r, Hid (intT bs = r) := ⟨_, Lib.hid rfl⟩
  rw [HX.out]
  go_enter Tryd.func30, Tryd.ntmps30
  go_wp2_with fail
  go_loopw [3, 4] (fun o i wr => ∃ (k : Nat) (out : List UInt8), k ≤ bs.length ∧ i = .int .i64 k ∧ o = .string ⟨out.toArray⟩ ∧ Hid (intT (bs.take k) = out) ∧ Below w.heap.size w wr) (fun _ i _ => bs.length - (intOf i).toNat)
  case atStart => exact ⟨0, [], Nat.zero_le _, rfl, rfl, Lib.hid rfl, Below.refl _ _⟩
  case round =>
    obtain ⟨k, out, hk, rfl, rfl, HO, hb⟩ := hrel
    by_cases hlt : k < bs.length
    · obtain ⟨g, off, rfl, hg, d1, d2⟩ := (HR.out.below hb).at k hlt
      have hl1 := intT_take HS.out k
      rw [HO.out] at hl1
      have hl2 : bs[k].1.length + bs[k].2.length ≤ 1048576 := by have := smB_mem bs[k] (List.getElem_mem hlt); have := HS.out; unfold SmB at this; omega
      have hways := alg_ways bs[k].1
      have HT1 := Lib.hid (fun (ha : algOk bs[k].1 = true) (h0 : intT (bs.take k) = []) => intT_first hlt ha h0)
      have HT2 := Lib.hid (fun (ha : algOk bs[k].1 = true) (h0 : ¬ intT (bs.take k) = []) => intT_next hlt ha h0)
      have HT3 := Lib.hid (fun (ha : algOk bs[k].1 = false) => intT_skip hlt ha)
      have hbl := b64L_le bs[k].2
      obtain ⟨b, HB⟩ : ∃ b, Hid (bs[k] = b) := ⟨_, Lib.hid rfl⟩
      rw [HB.out] at d1 d2 hl2 hways HT1 HT2 HT3 hbl
      obtain ⟨al, by_⟩ := b
      simp only at d1 d2 hl2 hways HT1 HT2 HT3 hbl
      have k0 : (0 : Int) ≤ (k : Int) := by omega
      have k1 : (k : Int) < (bs.length : Int) := by omega
      rcases hways with ⟨h1, ha⟩ | ⟨h1, h2, ha⟩ | ⟨h1, h2, ha⟩
      · have HN := Lib.hid (HT3.out ha)
        subst h1
        clear ha HT1 HT2 HT3
        unfold h1L at d1
        go_wp2_with fail
        go_roundw
        case rel => exact ⟨k + 1, out, by omega, by go_num, rfl, Lib.hid (by rw [HN.out, HO.out]), hb⟩
        case measure => simp [intOf]; omega
      · have HN := Lib.hid (HT3.out ha)
        have q1 : (al == [104, 49]) = false := by simpa [h1L] using h1
        have HL := Lib.hid (l04Long_any al wr)
        obtain ⟨z, HZ⟩ : ∃ z, Hid (longI al = z) := ⟨_, Lib.hid rfl⟩
        rw [HZ.out] at HL h2
        clear ha h1 HT1 HT2 HT3
        go_wp2_with fail
        refine HL.out.mono ?_
        rintro e w1 ⟨rfl, rfl⟩
        go_wp2_with fail
        go_roundw
        case rel => exact ⟨k + 1, out, by omega, by go_num, rfl, Lib.hid (by rw [HN.out, HO.out]), hb⟩
        case measure => simp [intOf]; omega
      · have q1 : (al == [104, 49]) = false := by simpa [h1L] using h1
        have HL := Lib.hid (l04Long_any al wr)
        obtain ⟨z, HZ⟩ : ∃ z, Hid (longI al = z) := ⟨_, Lib.hid rfl⟩
        rw [HZ.out] at HL h2
        have h2' : ¬ z < 0 := by omega
        have HC := Lib.hid (fun W => specPutBase64_any ⟨by_.toArray⟩ W (by show by_.toArray.size ≤ _; simp; omega))
        obtain ⟨E, HE⟩ : ∃ E, Hid (b64L by_ = E) := ⟨_, Lib.hid rfl⟩
        have HC2 : Hid (∀ W, Calls Tryd.prog 54 #[.string ⟨by_.toArray⟩] W fun e w' => e = .returned (.string ⟨E.toArray⟩) ∧ Below W.heap.size W w') := Lib.hid (by have := HC.out; simp only [HE.out] at this; exact this)
        rw [HE.out] at hbl
        clear h1 HT3 HC
        by_cases h0 : out = []
        · have HN : Hid (intT (bs.take (k + 1)) = al ++ 45 :: E) := Lib.hid (by rw [HT1.out ha (by rw [HO.out, h0])]; show al ++ 45 :: b64L by_ = _; rw [HE.out])
          subst h0
          obtain ⟨N2, HN2⟩ : ∃ N, Hid (N = al ++ [45]) := ⟨_, Lib.hid rfl⟩
          obtain ⟨N3, HN3⟩ : ∃ N, Hid (N = N2 ++ E) := ⟨_, Lib.hid rfl⟩
          have l2 : N2.length ≤ 1048577 := by rw [HN2.out]; simp; omega
          have s1 : ∀ W, (Op.stringOp .add ⟨#[]⟩ ⟨al.toArray⟩).run Tryd.prog W = .ok (.string ⟨al.toArray⟩) W := fun W => by have := add_lists W [] al (by simp) (by omega); simpa using this
          have s2 : ∀ W, (Op.stringOp .add ⟨al.toArray⟩ ⟨#[45]⟩).run Tryd.prog W = .ok (.string ⟨N2.toArray⟩) W := fun W => by rw [HN2.out]; exact add_lists W al [45] (by omega) (by simp)
          have s3 : ∀ W, (Op.stringOp .add ⟨N2.toArray⟩ ⟨E.toArray⟩).run Tryd.prog W = .ok (.string ⟨N3.toArray⟩) W := fun W => by rw [HN3.out]; exact add_lists W N2 E (by omega) (by omega)
          have HNN : Hid (intT (bs.take (k + 1)) = N3) := Lib.hid (by rw [HN.out, HN3.out, HN2.out]; simp)
          clear ha HT1 HT2
          go_wp2_with fail
          refine HL.out.mono ?_
          rintro e w1 ⟨rfl, rfl⟩
          go_wp2_with fail
          go_region_held3 (fun W' => W'.cell? ⟨g, off + k * 2, none⟩ = some (.string ⟨al.toArray⟩) ∧ W'.cell? ⟨g, off + k * 2 + 1, none⟩ = some (.string ⟨by_.toArray⟩)) (first | exact ⟨d1, d2⟩ | assumption | exact keep2 hb3 (by assumption)) ((first | (go_at_call 54; (with_reducible refine (HC2.out _).mono ?_); rintro e w3 ⟨rfl, hb3⟩)))
          all_goals
            have HBB := hb.trans ((below_drewN _ _ 1).trans (hb3.mono hb.size))
            go_wp2_with fail
            go_roundw
            case rel => exact ⟨k + 1, N3, by omega, by go_num, rfl, HNN, HBB⟩
            case measure => simp [intOf]; omega
        · have HN : Hid (intT (bs.take (k + 1)) = out ++ [32] ++ (al ++ 45 :: E)) := Lib.hid (by rw [HT2.out ha (by rw [HO.out]; exact h0), HO.out]; show out ++ [32] ++ (al ++ 45 :: b64L by_) = _; rw [HE.out])
          have z1 : out.isEmpty = false := by cases out <;> simp_all
          have z2 : (out == []) = false := by simpa using h0
          obtain ⟨N0, HN0⟩ : ∃ N, Hid (N = out ++ [32]) := ⟨_, Lib.hid rfl⟩
          obtain ⟨N1, HN1⟩ : ∃ N, Hid (N = N0 ++ al) := ⟨_, Lib.hid rfl⟩
          obtain ⟨N2, HN2⟩ : ∃ N, Hid (N = N1 ++ [45]) := ⟨_, Lib.hid rfl⟩
          obtain ⟨N3, HN3⟩ : ∃ N, Hid (N = N2 ++ E) := ⟨_, Lib.hid rfl⟩
          have l0 : N0.length ≤ 8388609 := by rw [HN0.out]; simp; omega
          have l1 : N1.length ≤ 9437185 := by rw [HN1.out]; simp; omega
          have l2 : N2.length ≤ 9437186 := by rw [HN2.out]; simp; omega
          have s0 : ∀ W, (Op.stringOp .add ⟨out.toArray⟩ ⟨#[32]⟩).run Tryd.prog W = .ok (.string ⟨N0.toArray⟩) W := fun W => by rw [HN0.out]; exact add_lists W out [32] (by omega) (by simp)
          have s1 : ∀ W, (Op.stringOp .add ⟨N0.toArray⟩ ⟨al.toArray⟩).run Tryd.prog W = .ok (.string ⟨N1.toArray⟩) W := fun W => by rw [HN1.out]; exact add_lists W N0 al (by omega) (by omega)
          have s2 : ∀ W, (Op.stringOp .add ⟨N1.toArray⟩ ⟨#[45]⟩).run Tryd.prog W = .ok (.string ⟨N2.toArray⟩) W := fun W => by rw [HN2.out]; exact add_lists W N1 [45] (by omega) (by simp)
          have s3 : ∀ W, (Op.stringOp .add ⟨N2.toArray⟩ ⟨E.toArray⟩).run Tryd.prog W = .ok (.string ⟨N3.toArray⟩) W := fun W => by rw [HN3.out]; exact add_lists W N2 E (by omega) (by omega)
          have HNN : Hid (intT (bs.take (k + 1)) = N3) := Lib.hid (by rw [HN.out, HN3.out, HN2.out, HN1.out, HN0.out]; simp)
          clear ha HT1 HT2 h0
          go_wp2_with fail
          refine HL.out.mono ?_
          rintro e w1 ⟨rfl, rfl⟩
          go_wp2_with fail
          go_region_held3 (fun W' => W'.cell? ⟨g, off + k * 2, none⟩ = some (.string ⟨al.toArray⟩) ∧ W'.cell? ⟨g, off + k * 2 + 1, none⟩ = some (.string ⟨by_.toArray⟩)) (first | exact ⟨d1, d2⟩ | assumption | exact keep2 hb3 (by assumption)) ((first | (go_at_call 54; (with_reducible refine (HC2.out _).mono ?_); rintro e w3 ⟨rfl, hb3⟩)))
          all_goals
            have HBB := hb.trans ((below_drewN _ _ 1).trans (hb3.mono hb.size))
            go_wp2_with fail
            go_roundw
            case rel => exact ⟨k + 1, N3, by omega, by go_num, rfl, HNN, HBB⟩
            case measure => simp [intOf]; omega
    · have HE : Hid (r = out) := Lib.hid (by rw [← HX.out, ← HO.out, intT_all bs hlt])
      go_wp2_with fail
      go_ret
      exact ⟨ret_str HE.out.symm, hb⟩
end Go.Proofs.YtcfkhfbhmjfhdaaDoor
