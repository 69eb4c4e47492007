/-
  spec.GetBase64 decodes the signs at a text's head and compares.
-/
import Derived.Test.YtcfkhfbhmjfhdaaDoorB64
import Derived.Test.YtcfkhfbhmjfhdaaDoorIndex
import Derived.Deep.QuietTactic
import Derived.BigQuiet
namespace Go.Proofs.YtcfkhfbhmjfhdaaDoor
open Go.RowKit

/-- The place of a sign. -/
def ix (c : UInt8) : Int := Lib.indexByte sgL c
theorem ix_ge (c : UInt8) : -1 ≤ ix c := idx_ge _ _
theorem ix_lt (c : UInt8) : ix c < 64 := idx_lt sgL c
/-- The number after k signs, its last 24 bits. -/
def dN (l : List UInt8) : Nat → Nat
  | 0 => 0
  | k + 1 => dN l k * 64 % 16777216 + (ix (l.getD k 0)).toNat
theorem dN_lt (l : List UInt8) (k : Nat) : dN l k < 16777216 := by
  cases k with
  | zero => simp [dN]
  | succ k =>
    have := ix_lt (l.getD k 0)
    simp only [dN]
    omega
/-- How far the number is shifted for the byte that the k-th sign ends. -/
def sh (k : Nat) : Nat := 2 * (3 - k % 4)
/-- The bytes after k signs. -/
def dO (l : List UInt8) : Nat → List UInt8
  | 0 => []
  | k + 1 => dO l k ++ if k % 4 = 0 then [] else [UInt8.ofNat (dN l (k + 1) / 2 ^ sh k % 256)]
theorem dO_len (l : List UInt8) (k : Nat) : (dO l k).length ≤ k := by
  induction k with
  | zero => simp [dO]
  | succ k ih =>
    simp only [dO, List.length_append]
    split
    · simp; omega
    · simp; omega
/-- How many signs stand at a text's head. -/
def signs (l : List UInt8) : Nat := (l.takeWhile fun c => decide (0 ≤ ix c)).length
def decB (l : List UInt8) (k : Nat) : List UInt8 := dO l k
/-- What GetBase64 returns. -/
def getB (l : List UInt8) : List UInt8 × Bool := if b64L (dO l (signs l)) = l then (dO l (signs l), true) else ([], false)

theorem i64_and24 (x : Int) (h0 : 0 ≤ x) (h1 : x < 4294967296) : bits .and .i64 x 16777215 = x % 16777216 := bits_mask .i64 32 (by decide) (fun n h0 h1 => IntWalk.i64_in n (by omega)) 24 (by decide) x h0 h1
theorem signs_at {l : List UInt8} {k : Nat} (h : ∀ j, j < k → 0 ≤ ix (l.getD j 0)) (hk : k ≤ l.length) (he : ∀ c, l[k]? = some c → ix c < 0) : signs l = k := by
  induction l generalizing k with
  | nil => simp at hk; subst hk; rfl
  | cons a l ih =>
    unfold signs
    cases k with
    | zero =>
      have := he a rfl
      rw [List.takeWhile_cons, if_neg (by simpa using this)]; rfl
    | succ k =>
      have h0 := h 0 (by omega)
      rw [List.takeWhile_cons, if_pos (by simpa using h0)]
      have := ih (k := k) (fun j hj => by have := h (j + 1) (by omega); simpa using this) (by simpa using hk) (fun c hc => he c (by simpa using hc))
      simpa [signs] using this

theorem l01Signs_any (w : World) : Calls Tryd.prog 53 #[] w fun e w' => e = .returned (.string ⟨#[65, 66, 67, 68, 69, 70, 71, 72, 73, 74, 75, 76, 77, 78, 79, 80, 81, 82, 83, 84, 85, 86, 87, 88, 89, 90, 97, 98, 99, 100, 101, 102, 103, 104, 105, 106, 107, 108, 109, 110, 111, 112, 113, 114, 115, 116, 117, 118, 119, 120, 121, 122, 48, 49, 50, 51, 52, 53, 54, 55, 56, 57, 43, 47]⟩) ∧ w' = w := by
  go_enter Tryd.func53, Tryd.ntmps53
  go_wp2
  go_ret
  exact ⟨rfl, rfl⟩

theorem below_dr (n : Nat) (W : World) (k : Nat) : Below n W (W.drewN k) := ⟨rfl, rfl, rfl, Nat.le_refl _, fun _ _ => rfl⟩
theorem Buf.grown_dr {w : World} {base : Nat} {v : Value} {l : List UInt8} (h : Buf w base v l) (k : Nat) : Buf (w.drewN k) base v l :=
  World.ownsRow.kept h (row := none) ⟨rfl, rfl, rfl, Nat.le_refl _, fun _ _ _ => rfl⟩ (by
    rcases h.form with ⟨rfl, _⟩ | ⟨g, cap, rfl, _, _⟩
    · left; rfl
    · right; simp [Value.ownBlock])

set_option maxRecDepth 100000 in
set_option maxHeartbeats 8000000 in
theorem specGetBase64_any (s : ByteArray) (w : World) (hs : s.size ≤ 1048576) :
    Calls Tryd.prog 28 #[.string s] w fun e w' => e = .returned (.tuple #[.string ⟨(getB s.data.toList).1.toArray⟩, .bool (getB s.data.toList).2]) ∧ Below w.heap.size w w' := by
  go_enter Tryd.func28, Tryd.ntmps28
  go_wp2
  go_loopw [4, 5, 6, 7] (fun v n m i wr => ∃ k : Nat, k ≤ s.size ∧ i = .int .i64 (k : Int) ∧ m = .int .i64 (k : Int) ∧ n = .int .i64 ((dN s.data.toList k : Nat) : Int) ∧ Buf wr w.heap.size v (dO s.data.toList k) ∧ Below w.heap.size w wr ∧ (∀ j, j < k → 0 ≤ ix (s.data.toList.getD j 0))) (fun _ _ _ i _ => s.size - (intOf i).toNat)
  case atStart => exact ⟨0, Nat.zero_le _, rfl, rfl, rfl, Buf.empty w _ (Nat.le_refl _), (Below.refl _ _).alloc (Nat.le_refl _) _, fun j hj => by omega⟩
  case round =>
    obtain ⟨k, hk, rfl, rfl, rfl, hown, hb, hsg⟩ := hrel
    have HSG := Lib.hid hsg
    clear hsg
    by_cases hlt : k < s.size
    · have k0 : (0 : Int) ≤ (k : Int) := by omega
      have k1 : (k : Int) < (s.size : Int) := by omega
      have HQ : Hid (∀ W, Calls Tryd.prog 27 #[.string ⟨#[65, 66, 67, 68, 69, 70, 71, 72, 73, 74, 75, 76, 77, 78, 79, 80, 81, 82, 83, 84, 85, 86, 87, 88, 89, 90, 97, 98, 99, 100, 101, 102, 103, 104, 105, 106, 107, 108, 109, 110, 111, 112, 113, 114, 115, 116, 117, 118, 119, 120, 121, 122, 48, 49, 50, 51, 52, 53, 54, 55, 56, 57, 43, 47]⟩, .int .u8 (s[k].toNat : Int)] W fun e w' => e = .returned (.int .i64 (ix s[k])) ∧ w' = W) := Lib.hid (fun W => (l01At_any ⟨sgL.toArray⟩ s[k] W (by unfold maxLen; decide)).mono fun e w' h => ⟨h.1, h.2.symm⟩)
      go_wp2_with fail
      go_quiet ((first | (go_at_call 27; exact Calls.quiet_of_same (HQ.out _)) | (go_at_call 53; exact Calls.quiet_of_same (l01Signs_any _))))
      have hownq : Buf (wr.drewN nq) w.heap.size u4 (dO s.data.toList k) := hown.grown_dr nq
      have hbq : Below w.heap.size w (wr.drewN nq) := hb.trans (below_dr _ wr nq)
      generalize wr.drewN nq = wq at hownq hbq ⊢
      obtain ⟨v, hv⟩ : ∃ v, v = ix s[k] := ⟨_, rfl⟩
      have hv1 := ix_ge s[k]
      have hv2 := ix_lt s[k]
      rw [← hv] at hv1 hv2 ⊢
      by_cases hneg : v < 0
      · have hcv := hownq.conv
        have HSN : Hid (signs s.data.toList = k) := Lib.hid (signs_at HSG.out (by simp; omega) (fun c hc => by rw [show s.data.toList[k]? = some s[k] by simp [hlt]; rfl] at hc; cases hc; rw [← hv]; exact hneg))
        have HPB := Lib.hid (specPutBase64_any ⟨(dO s.data.toList k).toArray⟩ wq (by show (dO s.data.toList k).toArray.size ≤ _; have := dO_len s.data.toList k; simp; omega))
        clear hown
        go_wp2_with fail
        refine HPB.out.mono ?_
        rintro e w5 ⟨rfl, hb5⟩
        have HB5 : Below w.heap.size w w5 := hbq.trans (hb5.mono hbq.size)
        by_cases heq : b64L (dO s.data.toList k) = s.data.toList
        · have HG : Hid (getB s.data.toList = (dO s.data.toList k, true)) := Lib.hid (by unfold getB; rw [HSN.out, if_pos heq])
          have hq : (b64L (dO s.data.toList k) == s.toList) = true := by rw [ByteArray.toList_eq]; simpa using heq
          go_wp2_with fail
          rw [HG.out]
          go_ret2
          exact ⟨rfl, HB5⟩
        · have HG : Hid (getB s.data.toList = ([], false)) := Lib.hid (by unfold getB; rw [HSN.out, if_neg heq])
          have hq : (b64L (dO s.data.toList k) == s.toList) = false := by rw [ByteArray.toList_eq]; simpa using heq
          go_wp2_with fail
          rw [HG.out]
          go_ret2
          exact ⟨rfl, HB5⟩
      · obtain ⟨V, rfl⟩ := Int.eq_ofNat_of_zero_le (show (0 : Int) ≤ v by omega)
        have hN := dN_lt s.data.toList k
        have HV : Hid (ix (s.data.toList.getD k 0) = (V : Int)) := Lib.hid (by rw [byteAt s k hlt]; exact hv.symm)
        have HNX : Hid (dN s.data.toList (k + 1) = dN s.data.toList k * 64 % 16777216 + V) := Lib.hid (by rw [dN, HV.out]; simp)
        have HS2 : Hid (∀ j, j < k + 1 → 0 ≤ ix (s.data.toList.getD j 0)) := Lib.hid (fun j hj => by
          by_cases h : j < k
          · exact HSG.out j h
          · obtain rfl : j = k := by omega
            rw [HV.out]; omega)
        have HLN := Lib.hid (dO_len s.data.toList k)
        obtain ⟨N, hNE⟩ : ∃ N, N = dN s.data.toList k := ⟨_, rfl⟩
        rw [← hNE] at hN HNX ⊢
        have a1 : bits .and .i64 ((N : Int) * 64) 16777215 = (N : Int) * 64 % 16777216 := i64_and24 _ (by omega) (by omega)
        clear hv hv1 hNE hown hneg
        have hdn : ¬ (V : Int) < 0 := by omega
        obtain ⟨r, hr⟩ : ∃ r, r = k % 4 := ⟨_, rfl⟩
        obtain rfl | rfl | rfl | rfl : r = 0 ∨ r = 1 ∨ r = 2 ∨ r = 3 := by omega
        · have m1 : ((k : Int) + 1).tmod 4 = 1 := by rw [Int.tmod_eq_emod_of_nonneg (by omega)]; omega
          have m2 : (k : Int).tmod 4 = 0 := by rw [Int.tmod_eq_emod_of_nonneg (by omega)]; omega
          have m3 : ((k : Int) + 1) % 4 = 1 := by omega
          have m4 : (k : Int) % 4 = 0 := by omega
          have HR := Lib.hid hr
          clear hr
          have HO : Hid (dO s.data.toList (k + 1) = dO s.data.toList k) := Lib.hid (by rw [dO, if_pos HR.out.symm]; simp)
          go_wp2_with fail
          go_roundw
          case rel => exact ⟨k + 1, by omega, by go_num, by go_num, by rw [HNX.out]; go_num, by rw [HO.out]; exact hownq, hbq, HS2.out⟩
          case measure => simp [intOf]; omega
        · have m1 : ((k : Int) + 1).tmod 4 = 2 := by rw [Int.tmod_eq_emod_of_nonneg (by omega)]; omega
          have m2 : (k : Int).tmod 4 = 1 := by rw [Int.tmod_eq_emod_of_nonneg (by omega)]; omega
          have m3 : ((k : Int) + 1) % 4 = 2 := by omega
          have m4 : (k : Int) % 4 = 1 := by omega
          have HR := Lib.hid hr
          clear hr
          have HO : Hid (dO s.data.toList (k + 1) = dO s.data.toList k ++ [UInt8.ofNat ((N * 64 % 16777216 + V) / 16 % 256)]) := Lib.hid (by rw [dO, if_neg (by have := HR.out; omega), HNX.out, show sh k = 4 by unfold sh; have := HR.out; omega])
          obtain ⟨B, hBE⟩ : ∃ B : UInt8, B = UInt8.ofNat ((N * 64 % 16777216 + V) / 16 % 256) := ⟨_, rfl⟩
          have cb : ((N : Int) * 64 % 16777216 + (V : Int)) / 16 % 256 = (B.toNat : Int) := by rw [hBE]; simp
          rw [← hBE] at HO
          clear hBE
          have HLL : Hid ((dO s.data.toList k).length + 1 ≤ 16777216) := Lib.hid (by have := HLN.out; omega)
          have HBS : Hid (w.heap.size ≤ wq.heap.size) := Lib.hid hbq.size
          go_wp2_with (at_builtin; refine wpList_append_buf rfl _ _ rfl w.heap.size _ _ rfl (hownq.alloc _) [B] wq.heap.size _ _ _ _ _ rfl rfl (heap_alloc_new wq _) rfl (by simp) HLL.out (by simp; exact Nat.le_succ_of_le HBS.out) ?_; intro v' w3 hown3 hb3)
          have HB : Below w.heap.size w w3 := hbq.trans (((Below.refl w.heap.size wq).alloc HBS.out _).trans hb3)
          go_wp2_with fail
          go_roundw
          case rel => exact ⟨k + 1, by omega, by go_num, by go_num, by rw [HNX.out]; go_num, by rw [HO.out]; exact hown3, HB, HS2.out⟩
          case measure => simp [intOf]; omega
        · have m1 : ((k : Int) + 1).tmod 4 = 3 := by rw [Int.tmod_eq_emod_of_nonneg (by omega)]; omega
          have m2 : (k : Int).tmod 4 = 2 := by rw [Int.tmod_eq_emod_of_nonneg (by omega)]; omega
          have m3 : ((k : Int) + 1) % 4 = 3 := by omega
          have m4 : (k : Int) % 4 = 2 := by omega
          have HR := Lib.hid hr
          clear hr
          have HO : Hid (dO s.data.toList (k + 1) = dO s.data.toList k ++ [UInt8.ofNat ((N * 64 % 16777216 + V) / 4 % 256)]) := Lib.hid (by rw [dO, if_neg (by have := HR.out; omega), HNX.out, show sh k = 2 by unfold sh; have := HR.out; omega])
          obtain ⟨B, hBE⟩ : ∃ B : UInt8, B = UInt8.ofNat ((N * 64 % 16777216 + V) / 4 % 256) := ⟨_, rfl⟩
          have cb : ((N : Int) * 64 % 16777216 + (V : Int)) / 4 % 256 = (B.toNat : Int) := by rw [hBE]; simp
          rw [← hBE] at HO
          clear hBE
          have HLL : Hid ((dO s.data.toList k).length + 1 ≤ 16777216) := Lib.hid (by have := HLN.out; omega)
          have HBS : Hid (w.heap.size ≤ wq.heap.size) := Lib.hid hbq.size
          go_wp2_with (at_builtin; refine wpList_append_buf rfl _ _ rfl w.heap.size _ _ rfl (hownq.alloc _) [B] wq.heap.size _ _ _ _ _ rfl rfl (heap_alloc_new wq _) rfl (by simp) HLL.out (by simp; exact Nat.le_succ_of_le HBS.out) ?_; intro v' w3 hown3 hb3)
          have HB : Below w.heap.size w w3 := hbq.trans (((Below.refl w.heap.size wq).alloc HBS.out _).trans hb3)
          go_wp2_with fail
          go_roundw
          case rel => exact ⟨k + 1, by omega, by go_num, by go_num, by rw [HNX.out]; go_num, by rw [HO.out]; exact hown3, HB, HS2.out⟩
          case measure => simp [intOf]; omega
        · have m1 : ((k : Int) + 1).tmod 4 = 0 := by rw [Int.tmod_eq_emod_of_nonneg (by omega)]; omega
          have m2 : (k : Int).tmod 4 = 3 := by rw [Int.tmod_eq_emod_of_nonneg (by omega)]; omega
          have m3 : ((k : Int) + 1) % 4 = 0 := by omega
          have m4 : (k : Int) % 4 = 3 := by omega
          have HR := Lib.hid hr
          clear hr
          have HO : Hid (dO s.data.toList (k + 1) = dO s.data.toList k ++ [UInt8.ofNat ((N * 64 % 16777216 + V) % 256)]) := Lib.hid (by rw [dO, if_neg (by have := HR.out; omega), HNX.out, show sh k = 0 by unfold sh; have := HR.out; omega]; simp)
          obtain ⟨B, hBE⟩ : ∃ B : UInt8, B = UInt8.ofNat ((N * 64 % 16777216 + V) % 256) := ⟨_, rfl⟩
          have cb : ((N : Int) * 64 % 16777216 + (V : Int)) % 256 = (B.toNat : Int) := by rw [hBE]; simp
          rw [← hBE] at HO
          clear hBE
          have HLL : Hid ((dO s.data.toList k).length + 1 ≤ 16777216) := Lib.hid (by have := HLN.out; omega)
          have HBS : Hid (w.heap.size ≤ wq.heap.size) := Lib.hid hbq.size
          go_wp2_with (at_builtin; refine wpList_append_buf rfl _ _ rfl w.heap.size _ _ rfl (hownq.alloc _) [B] wq.heap.size _ _ _ _ _ rfl rfl (heap_alloc_new wq _) rfl (by simp) HLL.out (by simp; exact Nat.le_succ_of_le HBS.out) ?_; intro v' w3 hown3 hb3)
          have HB : Below w.heap.size w w3 := hbq.trans (((Below.refl w.heap.size wq).alloc HBS.out _).trans hb3)
          go_wp2_with fail
          go_roundw
          case rel => exact ⟨k + 1, by omega, by go_num, by go_num, by rw [HNX.out]; go_num, by rw [HO.out]; exact hown3, HB, HS2.out⟩
          case measure => simp [intOf]; omega
    · have k1 : ¬ (k : Int) < (s.size : Int) := by omega
      have hcv := hown.conv
      have HSN : Hid (signs s.data.toList = k) := Lib.hid (signs_at HSG.out (by simp; omega) (fun c hc => by rw [List.getElem?_eq_none (by simp; omega)] at hc; cases hc))
      have HPB := Lib.hid (specPutBase64_any ⟨(dO s.data.toList k).toArray⟩ wr (by show (dO s.data.toList k).toArray.size ≤ _; have := dO_len s.data.toList k; simp; omega))
      clear hk
      go_wp2_with fail
      refine HPB.out.mono ?_
      rintro e w5 ⟨rfl, hb5⟩
      have HB5 : Below w.heap.size w w5 := hb.trans (hb5.mono hb.size)
      by_cases heq : b64L (dO s.data.toList k) = s.data.toList
      · have HG : Hid (getB s.data.toList = (dO s.data.toList k, true)) := Lib.hid (by unfold getB; rw [HSN.out, if_pos heq])
        have hq : (b64L (dO s.data.toList k) == s.toList) = true := by rw [ByteArray.toList_eq]; simpa using heq
        go_wp2_with fail
        rw [HG.out]
        go_ret2
        exact ⟨rfl, HB5⟩
      · have HG : Hid (getB s.data.toList = ([], false)) := Lib.hid (by unfold getB; rw [HSN.out, if_neg heq])
        have hq : (b64L (dO s.data.toList k) == s.toList) = false := by rw [ByteArray.toList_eq]; simpa using heq
        go_wp2_with fail
        rw [HG.out]
        go_ret2
        exact ⟨rfl, HB5⟩
end Go.Proofs.YtcfkhfbhmjfhdaaDoor
