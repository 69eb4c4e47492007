/-
  spec.PutBase64 returns four signs for every three bytes.
-/
import Derived.Test.YtcfkhfbhmjfhdaaDoorBytes
import Derived.Test.YtcfkhfbhmjfhdaaDoorStr
import Derived.Deep.RegionLaw
import Derived.Deep.AppendLies
namespace Go.Proofs.YtcfkhfbhmjfhdaaDoor
open Go.RowKit

def sgL : List UInt8 := [65, 66, 67, 68, 69, 70, 71, 72, 73, 74, 75, 76, 77, 78, 79, 80, 81, 82, 83, 84, 85, 86, 87, 88, 89, 90, 97, 98, 99, 100, 101, 102, 103, 104, 105, 106, 107, 108, 109, 110, 111, 112, 113, 114, 115, 116, 117, 118, 119, 120, 121, 122, 48, 49, 50, 51, 52, 53, 54, 55, 56, 57, 43, 47]
/-- The n-th sign. -/
def sg (n : Nat) : UInt8 := sgL.getD n 0
/-- The number of the first j bytes from i on, zeros where there are none. -/
def pv (l : List UInt8) (i : Nat) : Nat → Nat
  | 0 => 0
  | j + 1 => pv l i j * 256 + (l.getD (i + j) 0).toNat
theorem pv_lt (l : List UInt8) (i j : Nat) : pv l i j < 256 ^ j := by
  induction j with
  | zero => simp [pv]
  | succ j ih =>
    have := (l.getD (i + j) 0).toNat_lt
    simp only [pv, Nat.pow_succ]
    omega
/-- The j-th sign of a group. -/
def ch (n m j : Nat) : UInt8 := if m < j then 61 else sg (n / 2 ^ (18 - 6 * j) % 64)
def grp (n m : Nat) : List UInt8 := [ch n m 0, ch n m 1, ch n m 2, ch n m 3]
/-- The signs of the first q groups. -/
def b64G (l : List UInt8) (q : Nat) : List UInt8 := (List.range q).flatMap fun g => grp (pv l (3 * g) 3) (min 3 (l.length - 3 * g))
theorem b64G_succ (l : List UInt8) (q : Nat) : b64G l (q + 1) = b64G l q ++ grp (pv l (3 * q) 3) (min 3 (l.length - 3 * q)) := by
  unfold b64G
  rw [List.range_succ, List.flatMap_append]
  simp
theorem b64G_len (l : List UInt8) (q : Nat) : (b64G l q).length = 4 * q := by
  induction q with
  | zero => rfl
  | succ q ih => rw [b64G_succ, List.length_append, ih]; simp [grp]; omega
def b64L (l : List UInt8) : List UInt8 := b64G l ((l.length + 2) / 3)

theorem idx_sg (n : Nat) (hn : n < 64) (z : Int) (hz : z = (n : Int)) (k : IntKind) (w : World) : (Instr.index 9 (.string ⟨sgL.toArray⟩) (.int k z)).run Tryd.prog w = .ok (.int .u8 ((sg n).toNat : Int)) w := by
  subst hz
  have hs : (⟨sgL.toArray⟩ : ByteArray).size = 64 := rfl
  rw [run_index_string (P := Tryd.prog) w 9 ⟨sgL.toArray⟩ k (n : Int) Tryd.underlying9, dif_pos ⟨by omega, by rw [hs]; omega⟩]
  congr 3
  have hl : sgL.length = 64 := rfl
  have : sg n = sgL[n]'(by omega) := by
    have hn' : n < sgL.length := by omega
    unfold sg; simp only [List.getD, List.getElem?_eq_getElem hn', Option.getD_some]
  rw [this]
  rfl
theorem i64_and63 (x : Int) (h0 : 0 ≤ x) (h1 : x < 4294967296) : bits .and .i64 x 63 = x % 64 := bits_mask .i64 32 (by decide) (fun n h0 h1 => IntWalk.i64_in n (by omega)) 6 (by decide) x h0 h1
theorem byteAt (s : ByteArray) (k : Nat) (h : k < s.size) : s.data.toList.getD k 0 = s[k] := by
  simp [List.getD, h]; rfl

set_option maxRecDepth 100000 in
set_option maxHeartbeats 2000000 in
theorem specPutBase64_any (s : ByteArray) (w : World) (hs : s.size ≤ 1048576) :
    Calls Tryd.prog 54 #[.string s] w fun e w' => e = .returned (.string ⟨(b64L s.data.toList).toArray⟩) ∧ Below w.heap.size w w' := by
  go_enter Tryd.func54, Tryd.ntmps54
  go_wp2
  go_loopw [3, 5] (fun v i wr => ∃ q I : Nat, I = 3 * q ∧ q ≤ (s.size + 2) / 3 ∧ i = .int .i64 (I : Int) ∧ Buf wr w.heap.size v (b64G s.data.toList q) ∧ Below w.heap.size w wr) (fun _ i _ => s.size + 2 - (intOf i).toNat)
  case atStart => exact ⟨0, 0, rfl, Nat.zero_le _, rfl, Buf.empty w _ (Nat.le_refl _), (Below.refl _ _).alloc (Nat.le_refl _) _⟩
  case round =>
    obtain ⟨q, I, hIq, hq, rfl, hown, hb⟩ := hrel
    have HQ := Lib.hid hIq
    have HQ2 := Lib.hid hq
    have hI0 : I ≤ 1048600 := by omega
    by_cases hlt : I < s.size
    · clear hIq hq
      have k1 : (I : Int) < (s.size : Int) := by omega
      go_wp2_with fail
      go_loop [6, 7, 8] (fun n m k => ∃ j K : Nat, j ≤ 3 ∧ K = I + j ∧ k = .int .i64 (K : Int) ∧ n = .int .i64 ((pv s.data.toList I j : Nat) : Int) ∧ m = .int .i64 ((min j (s.size - I) : Nat) : Int)) (fun _ _ k => s.size + 3 - (intOf k).toNat)
      case atStart => exact ⟨0, I, Nat.zero_le _, rfl, rfl, rfl, rfl⟩
      case round =>
        obtain ⟨j, K, hj, hKj, rfl, rfl, rfl⟩ := hrel
        have hp := pv_lt s.data.toList I j
        by_cases hj3 : j < 3
        · have hpj : pv s.data.toList I j < 65536 := Nat.lt_of_lt_of_le hp (by
            have : (256 : Nat) ^ j ≤ 256 ^ 2 := Nat.pow_le_pow_right (by omega) (by omega)
            simpa using this)
          clear hp
          have c1 : (K : Int) < (I : Int) + 3 := by omega
          by_cases hk : K < s.size
          · have c2 : (K : Int) < (s.size : Int) := by omega
            have c0 : (0 : Int) ≤ (K : Int) := by omega
            have HV : Hid (pv s.data.toList I (j + 1) = pv s.data.toList I j * 256 + s[K].toNat) := Lib.hid (by rw [pv, ← hKj, byteAt s _ hk])
            have hbt := s[K].toNat_lt
            have HM : Hid (min (j + 1) (s.size - I) = j + 1) := Lib.hid (by omega)
            have HK := Lib.hid hKj
            rw [show min j (s.size - I) = j by omega]
            clear hKj
            go_wp2_with fail
            go_round
            case rel => exact ⟨j + 1, K + 1, by omega, by rw [HK.out]; omega, by go_num, by rw [HV.out]; go_num, by rw [HM.out]; go_num⟩
            case measure => simp [intOf]; omega
          · have c2 : ¬ (K : Int) < (s.size : Int) := by omega
            have HV : Hid (pv s.data.toList I (j + 1) = pv s.data.toList I j * 256) := Lib.hid (by
              have : s.data.toList[I + j]? = none := List.getElem?_eq_none (by simp; omega)
              rw [pv, List.getD, this]; rfl)
            have HM : Hid (min (j + 1) (s.size - I) = min j (s.size - I)) := Lib.hid (by omega)
            have HK := Lib.hid hKj
            have hKI : K ≤ I + 3 := by omega
            clear hKj
            go_wp2_with fail
            go_round
            case rel => exact ⟨j + 1, K + 1, by omega, by rw [HK.out]; omega, by go_num, by rw [HV.out]; go_num, by rw [HM.out]⟩
            case measure => simp [intOf]; omega
        · obtain rfl : j = 3 := by omega
          clear hp hj hj3
          have c1 : ¬ (K : Int) < (I : Int) + 3 := by omega
          have hN := pv_lt s.data.toList I 3
          have HNX : Hid (b64G s.data.toList (q + 1) = b64G s.data.toList q ++ grp (pv s.data.toList I 3) (min 3 (s.size - I))) := Lib.hid (by
            have hlen : s.data.toList.length = s.size := by simp
            rw [b64G_succ, hlen, HQ.out])
          have HLN := Lib.hid (b64G_len s.data.toList q)
          obtain ⟨N, hNE⟩ : ∃ N, N = pv s.data.toList I 3 := ⟨_, rfl⟩
          obtain ⟨M, hME⟩ : ∃ M, M = min 3 (s.size - I) := ⟨_, rfl⟩
          rw [← hNE] at hN HNX ⊢
          rw [← hME] at HNX ⊢
          have hM3 : M ≤ 3 := by omega
          have hM1 : 1 ≤ M := by omega
          have hN3 : N < 16777216 := hN
          clear hNE hME hN hKj
          go_wp2_with fail
          go_loopw [3, 9] (fun v k wr => ∃ j : Nat, j ≤ 4 ∧ k = .int .i64 j ∧ Buf wr w.heap.size v (b64G s.data.toList q ++ (grp N M).take j) ∧ Below w.heap.size w wr) (fun _ k _ => 4 - (intOf k).toNat)
          case atStart => exact ⟨0, Nat.zero_le _, rfl, by simpa using hown, hb⟩
          case round =>
            obtain ⟨j, hj, rfl, hown2, hb2⟩ := hrel
            by_cases hj4 : j < 4
            · have HT : Hid ((grp N M).take (j + 1) = (grp N M).take j ++ [ch N M j]) := Lib.hid (by
                obtain rfl | rfl | rfl | rfl : j = 0 ∨ j = 1 ∨ j = 2 ∨ j = 3 := by omega
                all_goals rfl)
              have HLL : Hid ((b64G s.data.toList q ++ (grp N M).take j).length + 1 ≤ 16777216) := Lib.hid (by
                have h1 := HLN.out
                have h2 := HQ2.out
                have h3 : ((grp N M).take j).length ≤ 4 := by simp [grp]; omega
                rw [List.length_append]; omega)
              have HBS : Hid (w.heap.size ≤ wr.heap.size) := Lib.hid hb2.size
              clear hown hb
              by_cases hjm : M < j
              · have d1 : (M : Int) < (j : Int) := by omega
                have HC : Hid (ch N M j = 61) := Lib.hid (by unfold ch; rw [if_pos hjm])
                go_wp2_with (at_builtin; refine wpList_append_buf rfl _ _ rfl w.heap.size _ _ rfl (hown2.alloc _) [61] wr.heap.size _ _ _ _ _ rfl rfl (heap_alloc_new wr _) rfl (by simp) HLL.out (by simp; exact Nat.le_succ_of_le HBS.out) ?_; intro v' w3 hown3 hb3)
                have HB : Below w.heap.size w w3 := hb2.trans (((Below.refl w.heap.size wr).alloc HBS.out _).trans hb3)
                rw [← HC.out, List.append_assoc, ← HT.out] at hown3
                go_wp2_with fail
                go_roundw
                case rel => exact ⟨j + 1, by omega, by go_num, hown3, HB⟩
                case measure => simp [intOf]; omega
              · have d1 : ¬ (M : Int) < (j : Int) := by omega
                obtain rfl | rfl | rfl | rfl : j = 0 ∨ j = 1 ∨ j = 2 ∨ j = 3 := by omega
                · have a1 : bits .and .i64 ((N : Int) / 262144) 63 = (N : Int) / 262144 % 64 := i64_and63 _ (by omega) (by omega)
                  have x1 := idx_sg (N / 262144 % 64) (by omega) ((N : Int) / 262144 % 64) (by omega) .i64
                  unfold sgL at x1
                  have HC : Hid (ch N M 0 = sg (N / 262144 % 64)) := Lib.hid (by unfold ch; rw [if_neg hjm])
                  go_wp2_with (at_builtin; refine wpList_append_buf rfl _ _ rfl w.heap.size _ _ rfl (hown2.alloc _) [sg (N / 262144 % 64)] wr.heap.size _ _ _ _ _ rfl rfl (heap_alloc_new wr _) rfl (by simp) HLL.out (by simp; exact Nat.le_succ_of_le HBS.out) ?_; intro v' w3 hown3 hb3)
                  have HB : Below w.heap.size w w3 := hb2.trans (((Below.refl w.heap.size wr).alloc HBS.out _).trans hb3)
                  rw [← HC.out, List.append_assoc, ← HT.out] at hown3
                  go_wp2_with fail
                  go_roundw
                  case rel => exact ⟨1, by omega, by go_num, hown3, HB⟩
                  case measure => simp [intOf]
                · have a1 : bits .and .i64 ((N : Int) / 4096) 63 = (N : Int) / 4096 % 64 := i64_and63 _ (by omega) (by omega)
                  have x1 := idx_sg (N / 4096 % 64) (by omega) ((N : Int) / 4096 % 64) (by omega) .i64
                  unfold sgL at x1
                  have HC : Hid (ch N M 1 = sg (N / 4096 % 64)) := Lib.hid (by unfold ch; rw [if_neg hjm])
                  go_wp2_with (at_builtin; refine wpList_append_buf rfl _ _ rfl w.heap.size _ _ rfl (hown2.alloc _) [sg (N / 4096 % 64)] wr.heap.size _ _ _ _ _ rfl rfl (heap_alloc_new wr _) rfl (by simp) HLL.out (by simp; exact Nat.le_succ_of_le HBS.out) ?_; intro v' w3 hown3 hb3)
                  have HB : Below w.heap.size w w3 := hb2.trans (((Below.refl w.heap.size wr).alloc HBS.out _).trans hb3)
                  rw [← HC.out, List.append_assoc, ← HT.out] at hown3
                  go_wp2_with fail
                  go_roundw
                  case rel => exact ⟨2, by omega, by go_num, hown3, HB⟩
                  case measure => simp [intOf]
                · have a1 : bits .and .i64 ((N : Int) / 64) 63 = (N : Int) / 64 % 64 := i64_and63 _ (by omega) (by omega)
                  have x1 := idx_sg (N / 64 % 64) (by omega) ((N : Int) / 64 % 64) (by omega) .i64
                  unfold sgL at x1
                  have HC : Hid (ch N M 2 = sg (N / 64 % 64)) := Lib.hid (by unfold ch; rw [if_neg hjm])
                  go_wp2_with (at_builtin; refine wpList_append_buf rfl _ _ rfl w.heap.size _ _ rfl (hown2.alloc _) [sg (N / 64 % 64)] wr.heap.size _ _ _ _ _ rfl rfl (heap_alloc_new wr _) rfl (by simp) HLL.out (by simp; exact Nat.le_succ_of_le HBS.out) ?_; intro v' w3 hown3 hb3)
                  have HB : Below w.heap.size w w3 := hb2.trans (((Below.refl w.heap.size wr).alloc HBS.out _).trans hb3)
                  rw [← HC.out, List.append_assoc, ← HT.out] at hown3
                  go_wp2_with fail
                  go_roundw
                  case rel => exact ⟨3, by omega, by go_num, hown3, HB⟩
                  case measure => simp [intOf]
                · have a1 : bits .and .i64 ((N : Int)) 63 = (N : Int) % 64 := i64_and63 _ (by omega) (by omega)
                  have x1 := idx_sg (N % 64) (by omega) ((N : Int) % 64) (by omega) .i64
                  unfold sgL at x1
                  have HC : Hid (ch N M 3 = sg (N % 64)) := Lib.hid (by unfold ch; rw [if_neg hjm]; simp)
                  go_wp2_with (at_builtin; refine wpList_append_buf rfl _ _ rfl w.heap.size _ _ rfl (hown2.alloc _) [sg (N % 64)] wr.heap.size _ _ _ _ _ rfl rfl (heap_alloc_new wr _) rfl (by simp) HLL.out (by simp; exact Nat.le_succ_of_le HBS.out) ?_; intro v' w3 hown3 hb3)
                  have HB : Below w.heap.size w w3 := hb2.trans (((Below.refl w.heap.size wr).alloc HBS.out _).trans hb3)
                  rw [← HC.out, List.append_assoc, ← HT.out] at hown3
                  go_wp2_with fail
                  go_roundw
                  case rel => exact ⟨4, by omega, by go_num, hown3, HB⟩
                  case measure => simp [intOf]
            · obtain rfl : j = 4 := by omega
              rw [show (grp N M).take 4 = grp N M from rfl, ← HNX.out] at hown2
              clear hown hb
              go_wp2_with fail
              go_roundw
              case rel => exact ⟨_, _, _, _, _, _, _, _, _, _, _, _, _, _, _, _, _, _, _, _, _, _, _, _, _, _, _, _, _, _, _, _, _, _, _, _, _, _, _, _, _, _, _, _, _, _, _, _, _, _, _, _, _, _, ⟨q + 1, I + 3, by rw [HQ.out]; omega, by have := HQ.out; omega, by go_num, hown2, hb2⟩, rfl⟩
              case measure => simp [intOf]; omega
    · have c1 : ¬ (I : Int) < (s.size : Int) := by omega
      have hcv := hown.conv
      have hqe : q = (s.size + 2) / 3 := by omega
      have e : s.data.toList.length = s.size := by simp
      have HE : Hid (b64G s.data.toList q = b64L s.data.toList) := Lib.hid (by rw [b64L, e, hqe])
      clear hqe e hIq hq
      go_wp2_with fail
      go_ret
      rw [← HE.out]
      exact ⟨rfl, hb⟩
end Go.Proofs.YtcfkhfbhmjfhdaaDoor
