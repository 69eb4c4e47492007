/-
  spec.Holes: what stands between the versions of a range and is not in it.
-/
import Derived.Test.YtjpclglklmlhlabGreatDoorHolM
import Derived.Test.YtjpclglklmlhlabGreatDoorSortS
import Derived.Test.YtjpclglklmlhlabGreatDoorInT
namespace Go.Proofs.YtjpclglklmlhlabGreatDoor
open Go.RowKit

/-- Whether a range takes a text. -/
def inF (bs : List Bd) (l : List UInt8) : Bool := inR l bs

set_option maxRecDepth 100000 in
set_option maxHeartbeats 4000000 in
theorem specHoles_any (v vb : Value) (ls : List (List UInt8)) (bs : List Bd) (w : World) (hr : RdS w v ls) (hs : Sm ls) (hrb : RdB w vb bs) (hsb : SmB bs) :
    Calls Tryz.prog 15 #[v, vb] w fun e w' => ∃ out u, e = .returned u ∧ Strs w' w.heap.size u (holesL (inF bs) out) ∧ SortOf ls out ∧ Below w.heap.size w w' := by
  have HS := Lib.hid hs
  have hn := hs.1
  have HC := Lib.hid (specSortVersions_any v ls w hr hs)
  have HIN := Lib.hid (fun (W : World) (s : ByteArray) (hb : Below w.heap.size w W) (hz : s.size ≤ 1048576) => specIn_any s vb bs W hz (hrb.below hb) hsb)
  clear hr hs hrb hsb
  obtain ⟨f, HF⟩ : ∃ f, Hid (inF bs = f) := ⟨_, Lib.hid rfl⟩
  rw [HF.out]
  go_enter Tryz.func15, Tryz.ntmps15
  go_wp2_with fail
  refine HC.out.mono ?_
  rintro e w1 ⟨u, X, rfl, S0, hSO, hb1⟩
  have lo := sortOf_len hSO
  have HSZ : Hid (∀ l ∈ X, l.length ≤ 1048576) := Lib.hid (fun l hl => HS.out.2 l ((hSO.2 l).1 hl).1)
  have HSO := Lib.hid hSO
  have HRD := Lib.hid (RdS.of_strs S0)
  obtain ⟨uA, uc, rfl⟩ := S0.slice
  have HB1 := Lib.hid hb1
  clear hSO S0 HC
  go_wp2_with fail
  go_loopw [6, 7, 8] (fun a b i wr => ∃ (k F : Nat) (L : Int), k ≤ X.length ∧ i = .int .i64 k ∧ a = .int .i64 (F : Int) ∧ b = .int .i64 L ∧ Hid (F = firstI f X k) ∧ Hid (L = lastV f (X.take k)) ∧ Below w1.heap.size w1 wr) (fun _ _ i _ => X.length - (intOf i).toNat)
  case atStart => exact ⟨0, X.length, -1, Nat.zero_le _, rfl, rfl, rfl, Lib.hid (by simp [firstI]), Lib.hid (by simp [lastV, lastR]), Below.refl _ _⟩
  case round =>
    obtain ⟨k, F, L, hk, rfl, rfl, rfl, HFI, HLA, hb⟩ := hrel
    have L1 : -1 ≤ L := by rw [HLA.out]; exact lastV_ge _ _
    have L2 : L < 1048577 := by have := lastV_lt f (X.take k); rw [← HLA.out] at this; simp at this; omega
    have F1 : F ≤ 1048576 := by have := firstI_le f X k; rw [← HFI.out] at this; omega
    by_cases hlt : k < X.length
    · have k0 : (0 : Int) ≤ (k : Int) := by omega
      have k1 : (k : Int) < (X.length : Int) := by omega
      have HLK : Hid ((⟨X[k].toArray⟩ : ByteArray).size ≤ 1048576) := Lib.hid (by rw [size_of]; exact HSZ.out X[k] (List.getElem_mem hlt))
      have HLT := Lib.hid (lastV_take (f := f) hlt)
      obtain ⟨A', ca', hv, ha⟩ := HRD.out.below hb
      simp only [Value.slice.injEq] at hv
      obtain ⟨rfl, _, rfl⟩ := hv
      obtain ⟨gl, off, rfl, hgl, hca⟩ := ha (by omega)
      have d1 : wr.cell? ⟨gl, off + k, none⟩ = some (.string ⟨X[k].toArray⟩) := hca k hlt
      have hbw : Below w.heap.size w wr := HB1.out.trans (hb.mono HB1.out.size)
      obtain ⟨t, HTT⟩ : ∃ t, Hid (f X[k] = t) := ⟨_, Lib.hid rfl⟩
      have HTI : Hid (inR (⟨X[k].toArray⟩ : ByteArray).data.toList bs = t) := Lib.hid (by rw [← HTT.out, ← HF.out]; rfl)
      clear ha hca
      go_wp2_with fail
      refine (HIN.out _ _ hbw HLK.out).mono ?_
      rw [HTI.out]
      rintro e w2 ⟨rfl, hb2⟩
      have hb3 := hb.trans (hb2.mono hb.size)
      cases t
      · have HF2 : Hid (F = firstI f X (k + 1)) := Lib.hid (by rw [firstI_no hlt HTT.out]; exact HFI.out)
        have HL2 : Hid (L = lastV f (X.take (k + 1))) := Lib.hid (by rw [HLT.out, if_neg (by rw [HTT.out]; simp)]; exact HLA.out)
        go_wp2_with fail
        go_roundw
        case rel => exact ⟨k + 1, F, L, by omega, by go_num, rfl, rfl, HF2, HL2, hb3⟩
        case measure => simp [intOf]; omega
      · have HL2 : Hid ((k : Int) = lastV f (X.take (k + 1))) := Lib.hid (by rw [HLT.out, if_pos HTT.out])
        by_cases hF : k < F
        · have HF2 : Hid (k = firstI f X (k + 1)) := Lib.hid (by rw [firstI_yes hlt HTT.out, ← HFI.out, if_pos hF])
          have q1 : (k : Int) < (F : Int) := by omega
          go_wp2_with fail
          go_roundw
          case rel => exact ⟨k + 1, k, k, by omega, by go_num, rfl, rfl, HF2, HL2, hb3⟩
          case measure => simp [intOf]; omega
        · have HF2 : Hid (F = firstI f X (k + 1)) := Lib.hid (by rw [firstI_yes hlt HTT.out, ← HFI.out, if_neg hF])
          have q1 : ¬ (k : Int) < (F : Int) := by omega
          go_wp2_with fail
          go_roundw
          case rel => exact ⟨k + 1, F, k, by omega, by go_num, rfl, rfl, HF2, HL2, hb3⟩
          case measure => simp [intOf]; omega
    · obtain ⟨V, rfl⟩ : ∃ V, V = wr := ⟨_, rfl⟩
      have k1 : ¬ (k : Int) < (X.length : Int) := by omega
      have HFE : Hid (F = X.findIdx f) := Lib.hid (by rw [HFI.out, show k = X.length by omega, firstI_end])
      have HLE : Hid (L = lastV f X) := Lib.hid (by rw [HLA.out, List.take_of_length_le (by omega)])
      have L3 : L < X.length := by rw [HLE.out]; exact lastV_lt _ _
      have hbw : Below w.heap.size w V := HB1.out.trans (hb.mono HB1.out.size)
      have HB2 := Lib.hid hb
      have HB3 := Lib.hid hbw
      have hS0 := Strs.empty V V.heap.size (Nat.le_refl _)
      have hb5 : Below V.heap.size V (V.alloc (.cells #[] 9)) := (Below.refl _ _).alloc (Nat.le_refl _) _
      clear hb hbw
      go_wp2_with fail
      go_loopw [9, 10] (fun o i W => ∃ (j g c : Nat), F ≤ j ∧ Hid ((j : Int) ≤ L ∨ j = F) ∧ i = .int .i64 j ∧ o = .slice (some ⟨g, 0, none⟩) (refd f ((X.take j).drop F)).length c ∧ Strs W V.heap.size (.slice (some ⟨g, 0, none⟩) (refd f ((X.take j).drop F)).length c) (refd f ((X.take j).drop F)) ∧ Below V.heap.size V W) (fun _ i _ => (L - intOf i).toNat)
      case atStart => exact ⟨F, _, 0, Nat.le_refl _, Lib.hid (.inr rfl), rfl, by rw [List.drop_of_length_le (by simp; omega)]; rfl, by rw [List.drop_of_length_le (by simp; omega)]; exact hS0, hb5⟩
      case round =>
        obtain ⟨j, g, c, hj, HJ, rfl, rfl, hS, hb⟩ := hrel
        have hbW := HB3.out.trans (hb.mono HB3.out.size)
        have hb1W := HB2.out.trans (hb.mono HB2.out.size)
        obtain ⟨O, HO⟩ : ∃ O, Hid (refd f ((X.take j).drop F) = O) := ⟨_, Lib.hid rfl⟩
        rw [HO.out] at hS ⊢
        have jb : j ≤ 1048577 := by rcases HJ.out with h | h <;> omega
        have lO : O.length ≤ 1048576 := by
          rw [← HO.out]
          exact Nat.le_trans (List.length_filter_le _ _) (by simp; omega)
        by_cases hlt : (j : Int) < L
        · have hjX : j < X.length := by omega
          have k0 : (0 : Int) ≤ (j : Int) := by omega
          have k1 : (j : Int) < (X.length : Int) := by omega
          have HLK : Hid ((⟨X[j].toArray⟩ : ByteArray).size ≤ 1048576) := Lib.hid (by rw [size_of]; exact HSZ.out X[j] (List.getElem_mem hjX))
          have HDT := Lib.hid (drop_take_snoc hjX hj)
          obtain ⟨A', ca', hv, ha⟩ := HRD.out.below hb1W
          simp only [Value.slice.injEq] at hv
          obtain ⟨rfl, _, rfl⟩ := hv
          obtain ⟨gl, off, rfl, hgl, hca⟩ := ha (by omega)
          have d1 : wr.cell? ⟨gl, off + j, none⟩ = some (.string ⟨X[j].toArray⟩) := hca j hjX
          obtain ⟨t, HTT⟩ : ∃ t, Hid (f X[j] = t) := ⟨_, Lib.hid rfl⟩
          have HTI : Hid (inR (⟨X[j].toArray⟩ : ByteArray).data.toList bs = t) := Lib.hid (by rw [← HTT.out, ← HF.out]; rfl)
          clear ha hca hS0 hb5
          go_wp2_with fail
          refine (HIN.out _ _ hbW HLK.out).mono ?_
          rw [HTI.out]
          rintro e w5 ⟨rfl, hb6⟩
          have d2 := keepC hb6 d1
          have hS5 := hS.below hb6
          have hb7 := hb.trans (hb6.mono hb.size)
          clear d1 hS hb hb6 hbW hb1W
          cases t
          · have HN : Hid (refd f ((X.take (j + 1)).drop F) = O ++ [X[j]]) := Lib.hid (by rw [HDT.out, refd_snoc, if_neg (by rw [HTT.out]; simp), HO.out])
            have HBE : Hid (V.heap.size ≤ (w5.alloc (.cells #[sv X[j]] 9)).heap.size) := Lib.hid (by simp; exact Nat.le_succ_of_le hb7.size)
            have hlO : O.length + 1 ≤ 16777216 := by omega
            go_wp2_with (at_builtin; refine wpList_append_strs rfl _ _ rfl V.heap.size _ _ rfl (hS5.alloc _) (X[j]) w5.heap.size _ _ _ rfl (heap_alloc_new w5 _) hlO HBE.out ?_; intro g3 c3 w6 hown6 hb8)
            have b8 := hb7.trans (((Below.refl V.heap.size w5).alloc hb7.size _).trans hb8)
            have hl6 : (O ++ [X[j]]).length = O.length + 1 := by simp
            go_wp2_with fail
            go_roundw
            case rel => exact ⟨j + 1, g3, c3, by omega, Lib.hid (.inl (by omega)), by go_num, by rw [HN.out, hl6], by rw [HN.out, hl6]; exact hown6, b8⟩
            case measure => simp [intOf]; omega
          · have HN : Hid (refd f ((X.take (j + 1)).drop F) = O) := Lib.hid (by rw [HDT.out, refd_snoc, if_pos HTT.out, HO.out])
            go_wp2_with fail
            go_roundw
            case rel => exact ⟨j + 1, g, c, by omega, Lib.hid (.inl (by omega)), by go_num, by rw [HN.out], by rw [HN.out]; exact hS5, hb7⟩
            case measure => simp [intOf]; omega
        · have HEND : Hid (O = holesL f X) := Lib.hid (by
            rw [← HO.out, HFE.out]
            refine holes_end (by rw [← HLE.out]; exact hlt) ?_
            rw [← HLE.out, ← HFE.out]
            exact HJ.out)
          clear hS0 hb5
          go_wp2_with fail
          go_ret
          exact ⟨X, _, rfl, by rw [← HEND.out]; exact hS.weaken HB3.out.size, HSO.out, hbW⟩
end Go.Proofs.YtjpclglklmlhlabGreatDoor
