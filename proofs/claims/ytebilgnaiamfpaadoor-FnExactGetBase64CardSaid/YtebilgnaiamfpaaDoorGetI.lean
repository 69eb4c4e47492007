/-
  impl.GetBase64 decodes a text without its padding and compares.
-/
import Derived.Test.YtebilgnaiamfpaaDoorGetB
import Derived.Test.YtebilgnaiamfpaaDoorB64I
import Derived.Test.YtebilgnaiamfpaaDoorLaysTrim
namespace Go.Proofs.YtebilgnaiamfpaaDoor
open Go.RowKit

theorem trimRight_any (s : ByteArray) (w : World) (hs : s.size ≤ 1048576) :
    Calls Tryd.prog 13 #[.string s, .string ⟨#[61]⟩] w fun e w' => e = .returned (.string ⟨(Lib.trimRightB s.data.toList 61).toArray⟩) ∧ w' = w := Any.strings_TrimRight_one Tryd.laysTrim s 61 (by decide) w (by omega)

/-- How many bits are held after k signs. -/
def sz (k : Nat) : Nat := match k % 4 with
  | 0 => 0
  | 1 => 6
  | 2 => 4
  | _ => 2
/-- What impl.GetBase64 returns, d being the text without its padding. -/
def getI (l d : List UInt8) : List UInt8 × Bool := if signs d = d.length then (if b64L (dO d d.length) = l then (dO d d.length, true) else ([], false)) else ([], false)

set_option maxRecDepth 100000 in
set_option maxHeartbeats 8000000 in
theorem implGetBase64_any (s : ByteArray) (w : World) (hs : s.size ≤ 1048576) :
    Calls Tryd.prog 8 #[.string s] w fun e w' => e = .returned (.tuple #[.string ⟨(getI s.data.toList (Lib.trimRightB s.data.toList 61)).1.toArray⟩, .bool (getI s.data.toList (Lib.trimRightB s.data.toList 61)).2]) ∧ Below w.heap.size w w' := by
  obtain ⟨D, hD⟩ : ∃ D : ByteArray, D = ⟨(Lib.trimRightB s.data.toList 61).toArray⟩ := ⟨_, rfl⟩
  have hDl : D.data.toList = Lib.trimRightB s.data.toList 61 := by rw [hD]
  have hDs : D.size ≤ 1048576 := by
    have h1 : D.data.toList.length ≤ s.data.toList.length := by
      rw [hDl]
      unfold Lib.trimRightB
      rw [List.length_reverse]
      exact Nat.le_trans (List.dropWhile_sublist _).length_le (by simp)
    simp at h1
    omega
  have HT := Lib.hid (trimRight_any s w hs)
  rw [← hD] at HT
  rw [← hDl]
  clear hD hDl
  obtain ⟨C, hC⟩ : ∃ C : Nat, C = s.size / 4 * 3 := ⟨_, rfl⟩
  obtain ⟨i0, hi, hz0, hz1, hz2⟩ := info_parts u8info
  obtain ⟨M, hM⟩ : ∃ M, M = madeCells (Value.int .u8 0).cells (C * i0.size) := ⟨_, rfl⟩
  have hMs : M.size = C := by rw [hM, size_madeCells, hz1]; simp
  have hmk : ∀ W : World, (Instr.makeSlice 27 (.int .i64 0) (.int .i64 (C : Int))).run Tryd.prog W = .ok (.slice (some ⟨W.heap.size, 0, none⟩) 0 C) (W.alloc (.cells M 5)) := fun W => by
    have h := run_make (P := Tryd.prog) W 27 5 i0 (.int .u8 0) Tryd.underlying27 hi hz0 .i64 .i64 0 (C : Int) (by omega) (by omega) (by rw [hz2]; omega) (by omega)
    simp only [Int.toNat_natCast] at h
    rw [← hM] at h
    simpa using h
  have hcap : (s.size : Int) / 4 * 3 = (C : Int) := by omega
  have hC0 : C ≤ 1398104 := by omega
  clear hM hC
  have hS00 : Buf (w.alloc (.cells M 5)) w.heap.size (.slice (some ⟨w.heap.size, 0, none⟩) 0 C) [] :=
    ⟨rfl, .inr ⟨w.heap.size, C, M, rfl, Nat.le_refl _, heap_alloc_new w _, Nat.zero_le _, by unfold maxLen; omega, by rw [hMs]; omega, by simp⟩⟩
  clear hMs
  go_enter Tryd.func8, Tryd.ntmps8
  go_wp2_with fail
  refine HT.out.mono ?_
  rintro e w1 ⟨rfl, rfl⟩
  go_wp2_with fail
  go_loopw [5, 6, 7, 20] (fun v hd z i wr => ∃ k h zn : Nat, k ≤ D.size ∧ i = .int .i64 (k : Int) ∧ h = dN D.data.toList k % 2 ^ zn ∧ zn = sz k ∧ hd = .int .i64 (h : Int) ∧ z = .int .i64 (zn : Int) ∧ Buf wr w1.heap.size v (dO D.data.toList k) ∧ Below w1.heap.size w1 wr ∧ (∀ j, j < k → 0 ≤ ix (D.data.toList.getD j 0))) (fun _ _ _ i _ => D.size - (intOf i).toNat)
  case atStart => exact ⟨0, 0, 0, Nat.zero_le _, rfl, by simp [dN], rfl, rfl, rfl, hS00, (Below.refl _ _).alloc (Nat.le_refl _) _, fun j hj => by omega⟩
  case round =>
    obtain ⟨k, h, z, hk, rfl, hh, hz, rfl, rfl, hown, hb, hsg⟩ := hrel
    have HSG := Lib.hid hsg
    clear hsg hmk hcap hS00
    by_cases hlt : k < D.size
    · have k0 : (0 : Int) ≤ (k : Int) := by omega
      have k1 : (k : Int) < (D.size : Int) := by omega
      obtain ⟨v, hv⟩ : ∃ v, v = ix D[k] := ⟨_, rfl⟩
      have HI : Hid (Calls Tryd.prog 14 #[.string ⟨sgL.toArray⟩, .int .u8 (D[k].toNat : Int)] wr fun e w' => e = .returned (.int .i64 v) ∧ wr = w') := Lib.hid (by rw [hv]; exact indexByte_any ⟨sgL.toArray⟩ D[k] wr)
      have HZ0 := Lib.hid hz
      have HH0 := Lib.hid hh
      clear hz hh
      go_wp2_with fail
      refine HI.out.mono ?_
      rintro e w2 ⟨rfl, rfl⟩
      have hz := HZ0.out
      have hh := HH0.out
      have hv1 := ix_ge D[k]
      have hv2 := ix_lt D[k]
      rw [← hv] at hv1 hv2
      have HDL : Hid (D.data.toList.length = D.size) := Lib.hid (by simp)
      by_cases hneg : v < 0
      · have HSN : Hid (signs D.data.toList = k) := Lib.hid (signs_at HSG.out (by simp; omega) (fun c hc => by rw [show D.data.toList[k]? = some D[k] by simp [hlt]; rfl] at hc; cases hc; rw [← hv]; exact hneg))
        have HG : Hid (getI s.data.toList D.data.toList = ([], false)) := Lib.hid (by unfold getI; rw [HSN.out, if_neg (by rw [HDL.out]; omega)])
        clear hz hh hv
        go_wp2_with fail
        rw [HG.out]
        go_ret2
        exact ⟨rfl, hb⟩
      · obtain ⟨V, rfl⟩ := Int.eq_ofNat_of_zero_le (show (0 : Int) ≤ v by omega)
        have HV : Hid (ix (D.data.toList.getD k 0) = (V : Int)) := Lib.hid (by rw [byteAt D k hlt]; exact hv.symm)
        have HNX : Hid (dN D.data.toList (k + 1) = dN D.data.toList k * 64 % 16777216 + V) := Lib.hid (by rw [dN, HV.out]; simp)
        have HS2 : Hid (∀ j, j < k + 1 → 0 ≤ ix (D.data.toList.getD j 0)) := Lib.hid (fun j hj => by
          by_cases h : j < k
          · exact HSG.out j h
          · obtain rfl : j = k := by omega
            rw [HV.out]; omega)
        have HLN := Lib.hid (dO_len D.data.toList k)
        clear hv hv1 hneg HI HT
        have hdn : ¬ (V : Int) < 0 := by omega
        obtain ⟨r, hr⟩ : ∃ r, r = k % 4 := ⟨_, rfl⟩
        obtain rfl | rfl | rfl | rfl : r = 0 ∨ r = 1 ∨ r = 2 ∨ r = 3 := by omega
        · obtain rfl : z = 0 := by rw [hz]; simp [sz, ← hr]
          have HR := Lib.hid hr
          have HH : Hid (h = dN D.data.toList k % 1) := Lib.hid hh
          have hhl : h < 1 := by rw [hh]; exact Nat.mod_lt _ (by decide)
          have hz2 : 6 = sz (k + 1) := by simp [sz, show (k + 1) % 4 = 1 by omega]
          have HZ2 := Lib.hid hz2
          have j1 : bits .or .i64 ((h : Int) * 64) (V : Int) = (h : Int) * 64 + (V : Int) := bits_join .i64 32 (by decide) (fun n h0 h1 => IntWalk.i64_in n (by omega)) 6 _ _ (by omega) (by omega) (by omega) (by omega) (by omega) (by omega)
          clear hr hz hh hz2
          have HO : Hid (dO D.data.toList (k + 1) = dO D.data.toList k) := Lib.hid (by rw [dO, if_pos HR.out.symm]; simp)
          have HX : Hid (h * 64 + V = dN D.data.toList (k + 1) % 64) := Lib.hid (by rw [HNX.out]; omega)
          go_wp2_with fail
          go_roundw
          case rel => exact ⟨k + 1, h * 64 + V, 6, by omega, by go_num, HX.out, HZ2.out, by go_num, by go_num, by rw [HO.out]; exact hown, hb, HS2.out⟩
          case measure => simp [intOf]; omega
        · obtain rfl : z = 6 := by rw [hz]; simp [sz, ← hr]
          have HR := Lib.hid hr
          have HH : Hid (h = dN D.data.toList k % 64) := Lib.hid hh
          have hhl : h < 64 := by rw [hh]; exact Nat.mod_lt _ (by decide)
          have hz2 : 4 = sz (k + 1) := by simp [sz, show (k + 1) % 4 = 2 by omega]
          have HZ2 := Lib.hid hz2
          have j1 : bits .or .i64 ((h : Int) * 64) (V : Int) = (h : Int) * 64 + (V : Int) := bits_join .i64 32 (by decide) (fun n h0 h1 => IntWalk.i64_in n (by omega)) 6 _ _ (by omega) (by omega) (by omega) (by omega) (by omega) (by omega)
          clear hr hz hh hz2
          obtain ⟨B, hBE⟩ : ∃ B : UInt8, B = UInt8.ofNat ((dN D.data.toList (k + 1)) / 16 % 256) := ⟨_, rfl⟩
          have HO : Hid (dO D.data.toList (k + 1) = dO D.data.toList k ++ [B]) := Lib.hid (by rw [dO, if_neg (by have := HR.out; omega), show sh k = 4 by unfold sh; have := HR.out; omega, hBE])
          have hB1 : B.toNat = (h * 64 + V) / 16 % 256 := by
            have h1 := HH.out
            have h2 := HNX.out
            rw [hBE]; simp; omega
          have HCB : Hid ([Value.int .u8 (((h : Int) * 64 + (V : Int)) / 16)] = [B].map bv) := Lib.hid (by
            have : ((h : Int) * 64 + (V : Int)) / 16 = (B.toNat : Int) := by rw [hB1]; omega
            rw [this]; rfl)
          have HX : Hid ((h * 64 + V) % 16 = dN D.data.toList (k + 1) % 16) := Lib.hid (by have h1 := HH.out; rw [HNX.out]; omega)
          have m1 : bits .and .i64 ((h : Int) * 64 + (V : Int)) 15 = ((h : Int) * 64 + (V : Int)) % 16 := bits_mask .i64 32 (by decide) (fun n h0 h1 => IntWalk.i64_in n (by omega)) 4 (by decide) _ (by omega) (by omega)
          have HLL : Hid ((dO D.data.toList k).length + 1 ≤ 16777216) := Lib.hid (by have := HLN.out; omega)
          have HBS : Hid (w1.heap.size ≤ wr.heap.size) := Lib.hid hb.size
          clear hBE hB1
          go_wp2_with (at_builtin; refine wpList_append_buf rfl _ _ rfl w1.heap.size _ _ rfl (hown.alloc _) [B] wr.heap.size _ _ _ _ _ rfl rfl (heap_alloc_new wr _) HCB.out (by simp) HLL.out (by simp; exact Nat.le_succ_of_le HBS.out) ?_; intro v' w3 hown3 hb3)
          have HB : Below w1.heap.size w1 w3 := hb.trans (((Below.refl w1.heap.size wr).alloc HBS.out _).trans hb3)
          go_wp2_with fail
          go_roundw
          case rel => exact ⟨k + 1, (h * 64 + V) % 16, 4, by omega, by go_num, HX.out, HZ2.out, by go_num, by go_num, by rw [HO.out]; exact hown3, HB, HS2.out⟩
          case measure => simp [intOf]; omega
        · obtain rfl : z = 4 := by rw [hz]; simp [sz, ← hr]
          have HR := Lib.hid hr
          have HH : Hid (h = dN D.data.toList k % 16) := Lib.hid hh
          have hhl : h < 16 := by rw [hh]; exact Nat.mod_lt _ (by decide)
          have hz2 : 2 = sz (k + 1) := by simp [sz, show (k + 1) % 4 = 3 by omega]
          have HZ2 := Lib.hid hz2
          have j1 : bits .or .i64 ((h : Int) * 64) (V : Int) = (h : Int) * 64 + (V : Int) := bits_join .i64 32 (by decide) (fun n h0 h1 => IntWalk.i64_in n (by omega)) 6 _ _ (by omega) (by omega) (by omega) (by omega) (by omega) (by omega)
          clear hr hz hh hz2
          obtain ⟨B, hBE⟩ : ∃ B : UInt8, B = UInt8.ofNat ((dN D.data.toList (k + 1)) / 4 % 256) := ⟨_, rfl⟩
          have HO : Hid (dO D.data.toList (k + 1) = dO D.data.toList k ++ [B]) := Lib.hid (by rw [dO, if_neg (by have := HR.out; omega), show sh k = 2 by unfold sh; have := HR.out; omega, hBE])
          have hB1 : B.toNat = (h * 64 + V) / 4 % 256 := by
            have h1 := HH.out
            have h2 := HNX.out
            rw [hBE]; simp; omega
          have HCB : Hid ([Value.int .u8 (((h : Int) * 64 + (V : Int)) / 4)] = [B].map bv) := Lib.hid (by
            have : ((h : Int) * 64 + (V : Int)) / 4 = (B.toNat : Int) := by rw [hB1]; omega
            rw [this]; rfl)
          have HX : Hid ((h * 64 + V) % 4 = dN D.data.toList (k + 1) % 4) := Lib.hid (by have h1 := HH.out; rw [HNX.out]; omega)
          have m1 : bits .and .i64 ((h : Int) * 64 + (V : Int)) 3 = ((h : Int) * 64 + (V : Int)) % 4 := bits_mask .i64 32 (by decide) (fun n h0 h1 => IntWalk.i64_in n (by omega)) 2 (by decide) _ (by omega) (by omega)
          have HLL : Hid ((dO D.data.toList k).length + 1 ≤ 16777216) := Lib.hid (by have := HLN.out; omega)
          have HBS : Hid (w1.heap.size ≤ wr.heap.size) := Lib.hid hb.size
          clear hBE hB1
          go_wp2_with (at_builtin; refine wpList_append_buf rfl _ _ rfl w1.heap.size _ _ rfl (hown.alloc _) [B] wr.heap.size _ _ _ _ _ rfl rfl (heap_alloc_new wr _) HCB.out (by simp) HLL.out (by simp; exact Nat.le_succ_of_le HBS.out) ?_; intro v' w3 hown3 hb3)
          have HB : Below w1.heap.size w1 w3 := hb.trans (((Below.refl w1.heap.size wr).alloc HBS.out _).trans hb3)
          go_wp2_with fail
          go_roundw
          case rel => exact ⟨k + 1, (h * 64 + V) % 4, 2, by omega, by go_num, HX.out, HZ2.out, by go_num, by go_num, by rw [HO.out]; exact hown3, HB, HS2.out⟩
          case measure => simp [intOf]; omega
        · obtain rfl : z = 2 := by rw [hz]; simp [sz, ← hr]
          have HR := Lib.hid hr
          have HH : Hid (h = dN D.data.toList k % 4) := Lib.hid hh
          have hhl : h < 4 := by rw [hh]; exact Nat.mod_lt _ (by decide)
          have hz2 : 0 = sz (k + 1) := by simp [sz, show (k + 1) % 4 = 0 by omega]
          have HZ2 := Lib.hid hz2
          have j1 : bits .or .i64 ((h : Int) * 64) (V : Int) = (h : Int) * 64 + (V : Int) := bits_join .i64 32 (by decide) (fun n h0 h1 => IntWalk.i64_in n (by omega)) 6 _ _ (by omega) (by omega) (by omega) (by omega) (by omega) (by omega)
          clear hr hz hh hz2
          obtain ⟨B, hBE⟩ : ∃ B : UInt8, B = UInt8.ofNat ((dN D.data.toList (k + 1)) % 256) := ⟨_, rfl⟩
          have HO : Hid (dO D.data.toList (k + 1) = dO D.data.toList k ++ [B]) := Lib.hid (by rw [dO, if_neg (by have := HR.out; omega), show sh k = 0 by unfold sh; have := HR.out; omega, hBE]; simp)
          have hB1 : B.toNat = (h * 64 + V) % 256 := by
            have h1 := HH.out
            have h2 := HNX.out
            rw [hBE]; simp; omega
          have HCB : Hid ([Value.int .u8 (((h : Int) * 64 + (V : Int)))] = [B].map bv) := Lib.hid (by
            have : ((h : Int) * 64 + (V : Int)) = (B.toNat : Int) := by rw [hB1]; omega
            rw [this]; rfl)
          have HX : Hid ((h * 64 + V) % 1 = dN D.data.toList (k + 1) % 1) := Lib.hid (by have h1 := HH.out; rw [HNX.out]; omega)
          have m1 : bits .and .i64 ((h : Int) * 64 + (V : Int)) 0 = ((h : Int) * 64 + (V : Int)) % 1 := bits_mask .i64 32 (by decide) (fun n h0 h1 => IntWalk.i64_in n (by omega)) 0 (by decide) _ (by omega) (by omega)
          have HLL : Hid ((dO D.data.toList k).length + 1 ≤ 16777216) := Lib.hid (by have := HLN.out; omega)
          have HBS : Hid (w1.heap.size ≤ wr.heap.size) := Lib.hid hb.size
          clear hBE hB1
          go_wp2_with (at_builtin; refine wpList_append_buf rfl _ _ rfl w1.heap.size _ _ rfl (hown.alloc _) [B] wr.heap.size _ _ _ _ _ rfl rfl (heap_alloc_new wr _) HCB.out (by simp) HLL.out (by simp; exact Nat.le_succ_of_le HBS.out) ?_; intro v' w3 hown3 hb3)
          have HB : Below w1.heap.size w1 w3 := hb.trans (((Below.refl w1.heap.size wr).alloc HBS.out _).trans hb3)
          go_wp2_with fail
          go_roundw
          case rel => exact ⟨k + 1, (h * 64 + V) % 1, 0, by omega, by go_num, HX.out, HZ2.out, by go_num, by go_num, by rw [HO.out]; exact hown3, HB, HS2.out⟩
          case measure => simp [intOf]; omega
    · have k1 : ¬ (k : Int) < (D.size : Int) := by omega
      have hke : k = D.size := by omega
      have hcv := hown.conv
      have HDL : Hid (D.data.toList.length = k) := Lib.hid (by simp; omega)
      have HSN : Hid (signs D.data.toList = k) := Lib.hid (signs_at HSG.out (by simp; omega) (fun c hc => by rw [List.getElem?_eq_none (by simp; omega)] at hc; cases hc))
      have HPB := Lib.hid (implPutBase64_any ⟨(dO D.data.toList k).toArray⟩ wr (by show (dO D.data.toList k).toArray.size ≤ _; have := dO_len D.data.toList k; simp; omega))
      clear hk hke hz hh HT
      go_wp2_with fail
      refine HPB.out.mono ?_
      rintro e w5 ⟨rfl, hb5⟩
      have HB5 : Below w1.heap.size w1 w5 := hb.trans (hb5.mono hb.size)
      by_cases heq : b64L (dO D.data.toList k) = s.data.toList
      · have HG : Hid (getI s.data.toList D.data.toList = (dO D.data.toList k, true)) := Lib.hid (by unfold getI; rw [HSN.out, HDL.out, if_pos rfl, if_pos heq])
        have hq : (b64L (dO D.data.toList k) == s.toList) = true := by rw [ByteArray.toList_eq]; simpa using heq
        go_wp2_with fail
        rw [HG.out]
        go_ret2
        exact ⟨rfl, HB5⟩
      · have HG : Hid (getI s.data.toList D.data.toList = ([], false)) := Lib.hid (by unfold getI; rw [HSN.out, HDL.out, if_pos rfl, if_neg heq])
        have hq : (b64L (dO D.data.toList k) == s.toList) = false := by rw [ByteArray.toList_eq]; simpa using heq
        go_wp2_with fail
        rw [HG.out]
        go_ret2
        exact ⟨rfl, HB5⟩
end Go.Proofs.YtebilgnaiamfpaaDoor
