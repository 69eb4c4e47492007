/-
  The walk of the law FnExactGraphText.
-/
import Derived.Test.YtnodhkjgnegkcaaGreatDoorWholeC
import Derived.Test.YtnodhkjgnegkcaaGreatDoorStr
import Derived.Deep.RegionLaw
import Derived.Deep.AppendLies
import Derived.Test.YtnodhkjgnegkcaaGreatDoorRdB
import Derived.Lib.Join
import Derived.Test.YtnodhkjgnegkcaaGreatDoorAlgM
import Derived.Test.YtnodhkjgnegkcaaGreatDoorHeap
import Derived.Deep.RegionHeld3
import Derived.Laws.DeepStrings4
import Derived.Test.YtnodhkjgnegkcaaGreatDoorWholeA
import Derived.Test.YtnodhkjgnegkcaaGreatDoorPieces
import Derived.Test.YtnodhkjgnegkcaaGreatDoorWholeB
import Derived.Lib.BufferWrite
import Derived.StillTailTactics
import Derived.WalkKit
import Derived.RangeFuncFrom
import Derived.RangeFuncBox
import Derived.RangeFuncNested
import Derived.Test.YtnodhkjgnegkcaaGreatDoorWholeD
import Derived.Deep.RegionHeldLaw
import Derived.Test.YtnodhkjgnegkcaaGreatDoorApp
/-
  strings.Join of a list of texts at any text.
-/
namespace Go.Proofs
open Go.Shelf
namespace YtnodhkjgnegkcaaGreatDoor
open Go.RowKit

theorem join_flat (sep x : List UInt8) : ∀ xs : List (List UInt8), Lib.join (x :: xs) sep = x ++ xs.flatMap (fun y => sep ++ y)
  | [] => by simp [Lib.join, List.intercalate]
  | y :: ys => by
    have := join_flat sep y ys
    unfold Lib.join at this ⊢
    simp [List.intercalate] at this ⊢
    rw [this]

theorem joinSep_any (w : World) (base : Nat) (v : Value) (ls : List (List UInt8)) (sep : ByteArray) (h : Strs w base v ls) (hn : ls ≠ []) (hl : ls.length ≤ 16777216) (hj : (Lib.join ls sep.data.toList).length ≤ 140737488355328) :
    Calls Tryz.prog 84 #[v, .string sep] w fun e w' => e = .returned (.string ⟨(Lib.join ls sep.data.toList).toArray⟩) ∧ Below w.heap.size w w' := by
  obtain ⟨g, cap, rfl, _, hg⟩ : ∃ g cap, v = .slice (some ⟨g, 0, none⟩) ls.length cap ∧ base ≤ g ∧ g < w.heap.size := by
    rcases h.form with ⟨_, h'⟩ | h'
    · exact absurd h' hn
    · exact h'
  obtain ⟨hlen, hr⟩ := h
  have hS : Strs w base (.slice (some ⟨g, 0, none⟩) ls.length cap) ls := ⟨hlen, hr⟩
  have hcap : ls.length ≤ cap := by
    rcases hr with ⟨hv, _⟩ | ⟨g', cap', cur, hv, _, _, hc, _⟩
    · cases hv
    · simp only [Value.slice.injEq] at hv; omega
  have hm : (ls.map (fun l => (⟨l.toArray⟩ : ByteArray))).map (fun x => x.data.toList) = ls := by rw [List.map_map]; exact List.map_id'' (fun l => rfl) ls
  have hJ := Any.strings_Join Tryz.laysJoin Tryz.extraJoin g 0 cap (ls.map (fun l => (⟨l.toArray⟩ : ByteArray))) sep w (fun j x hx => by
      rw [List.getElem?_map] at hx
      cases hj : ls[j]? with
      | none => rw [hj] at hx; simp at hx
      | some y =>
        rw [hj] at hx
        simp at hx
        subst hx
        obtain ⟨hl, rfl⟩ := List.getElem?_eq_some_iff.1 hj
        rw [Nat.zero_add]
        exact hS.cell j hl) hg (by simp; omega) (by simpa using hcap) (by rw [hm]; exact hj)
  rw [hm] at hJ
  have e : (ls.map (fun l => (⟨l.toArray⟩ : ByteArray))).length = ls.length := by simp
  rw [e] at hJ
  exact hJ
end YtnodhkjgnegkcaaGreatDoor
end Go.Proofs

/-
  spec.PutBase64 returns four signs for every three bytes.
-/
namespace Go.Proofs.YtnodhkjgnegkcaaGreatDoor
open Go.RowKit

def sgL : List UInt8 := [65, 66, 67, 68, 69, 70, 71, 72, 73, 74, 75, 76, 77, 78, 79, 80, 81, 82, 83, 84, 85, 86, 87, 88, 89, 90, 97, 98, 99, 100, 101, 102, 103, 104, 105, 106, 107, 108, 109, 110, 111, 112, 113, 114, 115, 116, 117, 118, 119, 120, 121, 122, 48, 49, 50, 51, 52, 53, 54, 55, 56, 57, 43, 47]
/-- The n-th sign. -/
def sg (n : Nat) : UInt8 := sgL.getD n 0
/-- The number of the first j bytes from i on, zeros where there are none. -/
def pv (l : List UInt8) (i : Nat) : Nat → Nat
  | 0 => 0
  | j + 1 => pv l i j * 256 + (l.getD (i + j) 0).toNat
theorem pv_lt (l : List UInt8) (i j : Nat) : pv l i j < 256 ^ j := by
  induction j with
  | zero => simp [pv]
  | succ j ih =>
    have := (l.getD (i + j) 0).toNat_lt
    simp only [pv, Nat.pow_succ]
    omega
/-- The j-th sign of a group. -/
def ch (n m j : Nat) : UInt8 := if m < j then 61 else sg (n / 2 ^ (18 - 6 * j) % 64)
def grp (n m : Nat) : List UInt8 := [ch n m 0, ch n m 1, ch n m 2, ch n m 3]
/-- The signs of the first q groups. -/
def b64G (l : List UInt8) (q : Nat) : List UInt8 := (List.range q).flatMap fun g => grp (pv l (3 * g) 3) (min 3 (l.length - 3 * g))
theorem b64G_succ (l : List UInt8) (q : Nat) : b64G l (q + 1) = b64G l q ++ grp (pv l (3 * q) 3) (min 3 (l.length - 3 * q)) := by
  unfold b64G
  rw [List.range_succ, List.flatMap_append]
  simp
theorem b64G_len (l : List UInt8) (q : Nat) : (b64G l q).length = 4 * q := by
  induction q with
  | zero => rfl
  | succ q ih => rw [b64G_succ, List.length_append, ih]; simp [grp]; omega
def b64L (l : List UInt8) : List UInt8 := b64G l ((l.length + 2) / 3)

theorem idx_sg (n : Nat) (hn : n < 64) (z : Int) (hz : z = (n : Int)) (k : IntKind) (w : World) : (Instr.index 9 (.string ⟨sgL.toArray⟩) (.int k z)).run Tryz.prog w = .ok (.int .u8 ((sg n).toNat : Int)) w := by
  subst hz
  have hs : (⟨sgL.toArray⟩ : ByteArray).size = 64 := rfl
  rw [run_index_string (P := Tryz.prog) w 9 ⟨sgL.toArray⟩ k (n : Int) Tryz.underlying9, dif_pos ⟨by omega, by rw [hs]; omega⟩]
  congr 3
  have hl : sgL.length = 64 := rfl
  have : sg n = sgL[n]'(by omega) := by
    have hn' : n < sgL.length := by omega
    unfold sg; simp only [List.getD, List.getElem?_eq_getElem hn', Option.getD_some]
  rw [this]
  rfl
theorem i64_and63 (x : Int) (h0 : 0 ≤ x) (h1 : x < 4294967296) : bits .and .i64 x 63 = x % 64 := bits_mask .i64 32 (by decide) (fun n h0 h1 => IntWalk.i64_in n (by omega)) 6 (by decide) x h0 h1
theorem byteAt (s : ByteArray) (k : Nat) (h : k < s.size) : s.data.toList.getD k 0 = s[k] := by
  simp [List.getD, h]; rfl

set_option maxRecDepth 100000 in
set_option maxHeartbeats 2000000 in
theorem specPutBase64_any (s : ByteArray) (w : World) (hs : s.size ≤ 1048576) :
    Calls Tryz.prog 192 #[.string s] w fun e w' => e = .returned (.string ⟨(b64L s.data.toList).toArray⟩) ∧ Below w.heap.size w w' := by
  go_enter Tryz.func192, Tryz.ntmps192
  go_wp2
  go_loopw [3, 5] (fun v i wr => ∃ q I : Nat, I = 3 * q ∧ q ≤ (s.size + 2) / 3 ∧ i = .int .i64 (I : Int) ∧ Buf wr w.heap.size v (b64G s.data.toList q) ∧ Below w.heap.size w wr) (fun _ i _ => s.size + 2 - (intOf i).toNat)
  case atStart => exact ⟨0, 0, rfl, Nat.zero_le _, rfl, Buf.empty w _ (Nat.le_refl _), (Below.refl _ _).alloc (Nat.le_refl _) _⟩
  case round =>
    obtain ⟨q, I, hIq, hq, rfl, hown, hb⟩ := hrel
    have HQ := Lib.hid hIq
    have HQ2 := Lib.hid hq
    have hI0 : I ≤ 1048600 := by omega
    by_cases hlt : I < s.size
    · clear hIq hq
      have k1 : (I : Int) < (s.size : Int) := by omega
      go_wp2_with fail
      go_loop [6, 7, 8] (fun n m k => ∃ j K : Nat, j ≤ 3 ∧ K = I + j ∧ k = .int .i64 (K : Int) ∧ n = .int .i64 ((pv s.data.toList I j : Nat) : Int) ∧ m = .int .i64 ((min j (s.size - I) : Nat) : Int)) (fun _ _ k => s.size + 3 - (intOf k).toNat)
      case atStart => exact ⟨0, I, Nat.zero_le _, rfl, rfl, rfl, rfl⟩
      case round =>
        obtain ⟨j, K, hj, hKj, rfl, rfl, rfl⟩ := hrel
        have hp := pv_lt s.data.toList I j
        by_cases hj3 : j < 3
        · have hpj : pv s.data.toList I j < 65536 := Nat.lt_of_lt_of_le hp (by
            have : (256 : Nat) ^ j ≤ 256 ^ 2 := Nat.pow_le_pow_right (by omega) (by omega)
            simpa using this)
          clear hp
          have c1 : (K : Int) < (I : Int) + 3 := by omega
          by_cases hk : K < s.size
          · have c2 : (K : Int) < (s.size : Int) := by omega
            have c0 : (0 : Int) ≤ (K : Int) := by omega
            have HV : Hid (pv s.data.toList I (j + 1) = pv s.data.toList I j * 256 + s[K].toNat) := Lib.hid (by rw [pv, ← hKj, byteAt s _ hk])
            have hbt := s[K].toNat_lt
            have HM : Hid (min (j + 1) (s.size - I) = j + 1) := Lib.hid (by omega)
            have HK := Lib.hid hKj
            rw [show min j (s.size - I) = j by omega]
            clear hKj
            go_wp2_with fail
            go_round
            case rel => exact ⟨j + 1, K + 1, by omega, by rw [HK.out]; omega, by go_num, by rw [HV.out]; go_num, by rw [HM.out]; go_num⟩
            case measure => simp [intOf]; omega
          · have c2 : ¬ (K : Int) < (s.size : Int) := by omega
            have HV : Hid (pv s.data.toList I (j + 1) = pv s.data.toList I j * 256) := Lib.hid (by
              have : s.data.toList[I + j]? = none := List.getElem?_eq_none (by simp; omega)
              rw [pv, List.getD, this]; rfl)
            have HM : Hid (min (j + 1) (s.size - I) = min j (s.size - I)) := Lib.hid (by omega)
            have HK := Lib.hid hKj
            have hKI : K ≤ I + 3 := by omega
            clear hKj
            go_wp2_with fail
            go_round
            case rel => exact ⟨j + 1, K + 1, by omega, by rw [HK.out]; omega, by go_num, by rw [HV.out]; go_num, by rw [HM.out]⟩
            case measure => simp [intOf]; omega
        · obtain rfl : j = 3 := by omega
          clear hp hj hj3
          have c1 : ¬ (K : Int) < (I : Int) + 3 := by omega
          have hN := pv_lt s.data.toList I 3
          have HNX : Hid (b64G s.data.toList (q + 1) = b64G s.data.toList q ++ grp (pv s.data.toList I 3) (min 3 (s.size - I))) := Lib.hid (by
            have hlen : s.data.toList.length = s.size := by simp
            rw [b64G_succ, hlen, HQ.out])
          have HLN := Lib.hid (b64G_len s.data.toList q)
          obtain ⟨N, hNE⟩ : ∃ N, N = pv s.data.toList I 3 := ⟨_, rfl⟩
          obtain ⟨M, hME⟩ : ∃ M, M = min 3 (s.size - I) := ⟨_, rfl⟩
          rw [← hNE] at hN HNX ⊢
          rw [← hME] at HNX ⊢
          have hM3 : M ≤ 3 := by omega
          have hM1 : 1 ≤ M := by omega
          have hN3 : N < 16777216 := hN
          clear hNE hME hN hKj
          go_wp2_with fail
          go_loopw [3, 9] (fun v k wr => ∃ j : Nat, j ≤ 4 ∧ k = .int .i64 j ∧ Buf wr w.heap.size v (b64G s.data.toList q ++ (grp N M).take j) ∧ Below w.heap.size w wr) (fun _ k _ => 4 - (intOf k).toNat)
          case atStart => exact ⟨0, Nat.zero_le _, rfl, by simpa using hown, hb⟩
          case round =>
            obtain ⟨j, hj, rfl, hown2, hb2⟩ := hrel
            by_cases hj4 : j < 4
            · have HT : Hid ((grp N M).take (j + 1) = (grp N M).take j ++ [ch N M j]) := Lib.hid (by
                obtain rfl | rfl | rfl | rfl : j = 0 ∨ j = 1 ∨ j = 2 ∨ j = 3 := by omega
                all_goals rfl)
              have HLL : Hid ((b64G s.data.toList q ++ (grp N M).take j).length + 1 ≤ 16777216) := Lib.hid (by
                have h1 := HLN.out
                have h2 := HQ2.out
                have h3 : ((grp N M).take j).length ≤ 4 := by simp [grp]; omega
                rw [List.length_append]; omega)
              have HBS : Hid (w.heap.size ≤ wr.heap.size) := Lib.hid hb2.size
              clear hown hb
              by_cases hjm : M < j
              · have d1 : (M : Int) < (j : Int) := by omega
                have HC : Hid (ch N M j = 61) := Lib.hid (by unfold ch; rw [if_pos hjm])
                go_wp2_with (at_builtin; refine wpList_append_buf rfl _ _ rfl w.heap.size _ _ rfl (hown2.alloc _) [61] wr.heap.size _ _ _ _ _ rfl rfl (heap_alloc_new wr _) rfl (by simp) HLL.out (by simp; exact Nat.le_succ_of_le HBS.out) ?_; intro v' w3 hown3 hb3)
                have HB : Below w.heap.size w w3 := hb2.trans (((Below.refl w.heap.size wr).alloc HBS.out _).trans hb3)
                rw [← HC.out, List.append_assoc, ← HT.out] at hown3
                go_wp2_with fail
                go_roundw
                case rel => exact ⟨j + 1, by omega, by go_num, hown3, HB⟩
                case measure => simp [intOf]; omega
              · have d1 : ¬ (M : Int) < (j : Int) := by omega
                obtain rfl | rfl | rfl | rfl : j = 0 ∨ j = 1 ∨ j = 2 ∨ j = 3 := by omega
                · have a1 : bits .and .i64 ((N : Int) / 262144) 63 = (N : Int) / 262144 % 64 := i64_and63 _ (by omega) (by omega)
                  have x1 := idx_sg (N / 262144 % 64) (by omega) ((N : Int) / 262144 % 64) (by omega) .i64
                  unfold sgL at x1
                  have HC : Hid (ch N M 0 = sg (N / 262144 % 64)) := Lib.hid (by unfold ch; rw [if_neg hjm])
                  go_wp2_with (at_builtin; refine wpList_append_buf rfl _ _ rfl w.heap.size _ _ rfl (hown2.alloc _) [sg (N / 262144 % 64)] wr.heap.size _ _ _ _ _ rfl rfl (heap_alloc_new wr _) rfl (by simp) HLL.out (by simp; exact Nat.le_succ_of_le HBS.out) ?_; intro v' w3 hown3 hb3)
                  have HB : Below w.heap.size w w3 := hb2.trans (((Below.refl w.heap.size wr).alloc HBS.out _).trans hb3)
                  rw [← HC.out, List.append_assoc, ← HT.out] at hown3
                  go_wp2_with fail
                  go_roundw
                  case rel => exact ⟨1, by omega, by go_num, hown3, HB⟩
                  case measure => simp [intOf]
                · have a1 : bits .and .i64 ((N : Int) / 4096) 63 = (N : Int) / 4096 % 64 := i64_and63 _ (by omega) (by omega)
                  have x1 := idx_sg (N / 4096 % 64) (by omega) ((N : Int) / 4096 % 64) (by omega) .i64
                  unfold sgL at x1
                  have HC : Hid (ch N M 1 = sg (N / 4096 % 64)) := Lib.hid (by unfold ch; rw [if_neg hjm])
                  go_wp2_with (at_builtin; refine wpList_append_buf rfl _ _ rfl w.heap.size _ _ rfl (hown2.alloc _) [sg (N / 4096 % 64)] wr.heap.size _ _ _ _ _ rfl rfl (heap_alloc_new wr _) rfl (by simp) HLL.out (by simp; exact Nat.le_succ_of_le HBS.out) ?_; intro v' w3 hown3 hb3)
                  have HB : Below w.heap.size w w3 := hb2.trans (((Below.refl w.heap.size wr).alloc HBS.out _).trans hb3)
                  rw [← HC.out, List.append_assoc, ← HT.out] at hown3
                  go_wp2_with fail
                  go_roundw
                  case rel => exact ⟨2, by omega, by go_num, hown3, HB⟩
                  case measure => simp [intOf]
                · have a1 : bits .and .i64 ((N : Int) / 64) 63 = (N : Int) / 64 % 64 := i64_and63 _ (by omega) (by omega)
                  have x1 := idx_sg (N / 64 % 64) (by omega) ((N : Int) / 64 % 64) (by omega) .i64
                  unfold sgL at x1
                  have HC : Hid (ch N M 2 = sg (N / 64 % 64)) := Lib.hid (by unfold ch; rw [if_neg hjm])
                  go_wp2_with (at_builtin; refine wpList_append_buf rfl _ _ rfl w.heap.size _ _ rfl (hown2.alloc _) [sg (N / 64 % 64)] wr.heap.size _ _ _ _ _ rfl rfl (heap_alloc_new wr _) rfl (by simp) HLL.out (by simp; exact Nat.le_succ_of_le HBS.out) ?_; intro v' w3 hown3 hb3)
                  have HB : Below w.heap.size w w3 := hb2.trans (((Below.refl w.heap.size wr).alloc HBS.out _).trans hb3)
                  rw [← HC.out, List.append_assoc, ← HT.out] at hown3
                  go_wp2_with fail
                  go_roundw
                  case rel => exact ⟨3, by omega, by go_num, hown3, HB⟩
                  case measure => simp [intOf]
                · have a1 : bits .and .i64 ((N : Int)) 63 = (N : Int) % 64 := i64_and63 _ (by omega) (by omega)
                  have x1 := idx_sg (N % 64) (by omega) ((N : Int) % 64) (by omega) .i64
                  unfold sgL at x1
                  have HC : Hid (ch N M 3 = sg (N % 64)) := Lib.hid (by unfold ch; rw [if_neg hjm]; simp)
                  go_wp2_with (at_builtin; refine wpList_append_buf rfl _ _ rfl w.heap.size _ _ rfl (hown2.alloc _) [sg (N % 64)] wr.heap.size _ _ _ _ _ rfl rfl (heap_alloc_new wr _) rfl (by simp) HLL.out (by simp; exact Nat.le_succ_of_le HBS.out) ?_; intro v' w3 hown3 hb3)
                  have HB : Below w.heap.size w w3 := hb2.trans (((Below.refl w.heap.size wr).alloc HBS.out _).trans hb3)
                  rw [← HC.out, List.append_assoc, ← HT.out] at hown3
                  go_wp2_with fail
                  go_roundw
                  case rel => exact ⟨4, by omega, by go_num, hown3, HB⟩
                  case measure => simp [intOf]
            · obtain rfl : j = 4 := by omega
              rw [show (grp N M).take 4 = grp N M from rfl, ← HNX.out] at hown2
              clear hown hb
              go_wp2_with fail
              go_roundw
              case rel => exact ⟨_, _, _, _, _, _, _, _, _, _, _, _, _, _, _, _, _, _, _, _, _, _, _, _, _, _, _, _, _, _, _, _, _, _, _, _, _, _, _, _, _, _, _, _, _, _, _, _, _, _, _, _, _, _, ⟨q + 1, I + 3, by rw [HQ.out]; omega, by have := HQ.out; omega, by go_num, hown2, hb2⟩, rfl⟩
              case measure => simp [intOf]; omega
    · have c1 : ¬ (I : Int) < (s.size : Int) := by omega
      have hcv := hown.conv
      have hqe : q = (s.size + 2) / 3 := by omega
      have e : s.data.toList.length = s.size := by simp
      have HE : Hid (b64G s.data.toList q = b64L s.data.toList) := Lib.hid (by rw [b64L, e, hqe])
      clear hqe e hIq hq
      go_wp2_with fail
      go_ret
      rw [← HE.out]
      exact ⟨rfl, hb⟩
end Go.Proofs.YtnodhkjgnegkcaaGreatDoor

/-
  The integrity text of sums in plain words.
-/
namespace Go.Proofs.YtnodhkjgnegkcaaGreatDoor
open Go.RowKit

def wordB (b : Bd) : List UInt8 := b.1 ++ 45 :: b64L b.2
def wordsB (bs : List Bd) : List (List UInt8) := (bs.filter fun b => algOk b.1).map wordB
def intT (bs : List Bd) : List UInt8 := Lib.join (wordsB bs) [32]
theorem wordsB_skip {bs : List Bd} {k : Nat} (h : k < bs.length) (ha : algOk bs[k].1 = false) : wordsB (bs.take (k + 1)) = wordsB (bs.take k) := by
  unfold wordsB; rw [List.take_succ_eq_append_getElem h, List.filter_append]; simp [ha]
theorem wordsB_more {bs : List Bd} {k : Nat} (h : k < bs.length) (ha : algOk bs[k].1 = true) : wordsB (bs.take (k + 1)) = wordsB (bs.take k) ++ [wordB bs[k]] := by
  unfold wordsB; rw [List.take_succ_eq_append_getElem h, List.filter_append]; simp [ha]
theorem join_one (x sep : List UInt8) : Lib.join [x] sep = x := by simp [Lib.join, List.intercalate]
theorem join_cons (x y sep : List UInt8) (l : List (List UInt8)) : Lib.join (x :: y :: l) sep = x ++ sep ++ Lib.join (y :: l) sep := by
  unfold Lib.join; simp [List.intercalate]
theorem join_snoc (sep z : List UInt8) : ∀ l : List (List UInt8), l ≠ [] → Lib.join (l ++ [z]) sep = Lib.join l sep ++ sep ++ z
  | [], h => absurd rfl h
  | [x], _ => by rw [List.cons_append, List.nil_append, join_cons, join_one, join_one]
  | x :: y :: l, _ => by
    have ih := join_snoc sep z (y :: l) (by simp)
    rw [List.cons_append, List.cons_append, join_cons, join_cons, ← List.cons_append, ih]
    simp
theorem wordB_ne (b : Bd) : wordB b ≠ [] := by unfold wordB; simp
theorem join_ne {l : List (List UInt8)} (sep : List UInt8) (h : ∀ x ∈ l, x ≠ []) : Lib.join l sep = [] ↔ l = [] := by
  cases l with
  | nil => simp [Lib.join, List.intercalate]
  | cons x l =>
    have hx := h x (by simp)
    cases l with
    | nil => rw [join_one]; simp [hx]
    | cons y l => rw [join_cons]; simp [hx]
theorem wordsB_ne (bs : List Bd) : ∀ x ∈ wordsB bs, x ≠ [] := by
  intro x hx
  unfold wordsB at hx
  obtain ⟨b, _, rfl⟩ := List.mem_map.1 hx
  exact wordB_ne b
theorem b64L_le (l : List UInt8) : (b64L l).length ≤ 2 * l.length + 4 := by unfold b64L; rw [b64G_len]; omega
theorem wordB_len (b : Bd) : (wordB b).length ≤ 2 * (b.1.length + b.2.length) + 5 := by
  have := b64L_le b.2
  unfold wordB; simp; omega
theorem join_len6 : ∀ l : List Bd, (Lib.join (l.map wordB) [32]).length ≤ 2 * smB l + 6 * l.length
  | [] => by simp [Lib.join, List.intercalate]
  | [b] => by
    have := wordB_len b
    have e : smB [b] = b.1.length + b.2.length := by unfold smB; simp
    rw [List.map_cons, List.map_nil, join_one, e]; simp; omega
  | b :: c :: l => by
    have ih := join_len6 (c :: l)
    have := wordB_len b
    have e : smB (b :: c :: l) = b.1.length + b.2.length + smB (c :: l) := by unfold smB; simp
    rw [List.map_cons, List.map_cons, join_cons, e, ← List.map_cons]
    simp at ih ⊢
    omega
theorem smB_filter (p : Bd → Bool) : ∀ l : List Bd, smB (l.filter p) ≤ smB l
  | [] => by simp
  | b :: l => by
    have ih := smB_filter p l
    have e : smB (b :: l) = b.1.length + b.2.length + smB l := by unfold smB; simp
    rw [List.filter_cons]
    split
    · have e2 : smB (b :: l.filter p) = b.1.length + b.2.length + smB (l.filter p) := by unfold smB; simp
      omega
    · omega
theorem intT_len (bs : List Bd) : (intT bs).length ≤ 2 * smB bs + 6 * bs.length := by
  have h := join_len6 (bs.filter fun b => algOk b.1)
  have h1 := smB_filter (fun b => algOk b.1) bs
  have h2 := List.length_filter_le (fun b : Bd => algOk b.1) bs
  show (Lib.join ((bs.filter fun b => algOk b.1).map wordB) [32]).length ≤ _
  omega
theorem intT_take {bs : List Bd} (h : SmB bs) (k : Nat) : (intT (bs.take k)).length ≤ 8388608 := by
  have h1 := intT_len (bs.take k)
  have h2 := smB_le bs k
  have h3 := List.length_take_le k bs
  have h4 : (bs.take k).length ≤ bs.length := by simp; omega
  unfold SmB at h
  omega
/-- The text so far, one more sum behind it. -/
theorem intT_first {bs : List Bd} {k : Nat} (h : k < bs.length) (ha : algOk bs[k].1 = true) (h0 : intT (bs.take k) = []) : intT (bs.take (k + 1)) = wordB bs[k] := by
  have := (join_ne [32] (wordsB_ne (bs.take k))).1 h0
  unfold intT; rw [wordsB_more h ha, this, List.nil_append, join_one]
theorem intT_next {bs : List Bd} {k : Nat} (h : k < bs.length) (ha : algOk bs[k].1 = true) (h0 : ¬ intT (bs.take k) = []) : intT (bs.take (k + 1)) = intT (bs.take k) ++ [32] ++ wordB bs[k] := by
  have : wordsB (bs.take k) ≠ [] := fun e => h0 ((join_ne [32] (wordsB_ne (bs.take k))).2 e)
  unfold intT; rw [wordsB_more h ha, join_snoc _ _ _ this]
theorem intT_skip {bs : List Bd} {k : Nat} (h : k < bs.length) (ha : algOk bs[k].1 = false) : intT (bs.take (k + 1)) = intT (bs.take k) := by unfold intT; rw [wordsB_skip h ha]
theorem intT_all (bs : List Bd) {k : Nat} (h : ¬ k < bs.length) : intT (bs.take k) = intT bs := by rw [List.take_of_length_le (by omega)]
/-- What spec's two tests say of an Alg. -/
theorem alg_ways (a : List UInt8) : (a = h1L ∧ algOk a = false) ∨ (¬ a = h1L ∧ longI a < 0 ∧ algOk a = false) ∨ (¬ a = h1L ∧ 0 ≤ longI a ∧ algOk a = true) := by
  by_cases h0 : a = h1L
  · subst h0; left; exact ⟨rfl, by decide⟩
  · by_cases h1 : a = sha1L
    · subst h1; right; right; exact ⟨by decide, by decide, by decide⟩
    · by_cases h2 : a = sha256L
      · subst h2; right; right; exact ⟨by decide, by decide, by decide⟩
      · by_cases h3 : a = sha512L
        · subst h3; right; right; exact ⟨by decide, by decide, by decide⟩
        · right; left
          refine ⟨h0, ?_, ?_⟩
          · unfold longI; rw [if_neg h1, if_neg h2, if_neg h0, if_neg h3]; omega
          · unfold algOk; simp [h1, h2, h3]
end Go.Proofs.YtnodhkjgnegkcaaGreatDoor

/-
  spec.PutIntegrity returns the integrity text of sums.
-/
namespace Go.Proofs.YtnodhkjgnegkcaaGreatDoor
open Go.RowKit

set_option maxRecDepth 100000 in
set_option maxHeartbeats 4000000 in
theorem specPutIntegrity_any (v : Value) (bs : List Bd) (w : World) (hr : RdB w v bs) (hs : SmB bs) :
    Calls Tryz.prog 147 #[v] w fun e w' => e = .returned (.string ⟨(intT bs).toArray⟩) ∧ Below w.heap.size w w' := by
  have HR := Lib.hid hr
  have HS := Lib.hid hs
  have hn : bs.length ≤ 1048576 := by unfold SmB at hs; omega
  obtain ⟨A, ca, rfl, _⟩ := hr
  obtain ⟨r, HX⟩ : ∃ r, Hid (intT bs = r) := ⟨_, Lib.hid rfl⟩
  rw [HX.out]
  go_enter Tryz.func147, Tryz.ntmps147
  go_wp2_with fail
  go_loopw [3, 4] (fun o i wr => ∃ (k : Nat) (out : List UInt8), k ≤ bs.length ∧ i = .int .i64 k ∧ o = .string ⟨out.toArray⟩ ∧ Hid (intT (bs.take k) = out) ∧ Below w.heap.size w wr) (fun _ i _ => bs.length - (intOf i).toNat)
  case atStart => exact ⟨0, [], Nat.zero_le _, rfl, rfl, Lib.hid rfl, Below.refl _ _⟩
  case round =>
    obtain ⟨k, out, hk, rfl, rfl, HO, hb⟩ := hrel
    by_cases hlt : k < bs.length
    · obtain ⟨g, off, rfl, hg, d1, d2⟩ := (HR.out.below hb).at k hlt
      have hl1 := intT_take HS.out k
      rw [HO.out] at hl1
      have hl2 : bs[k].1.length + bs[k].2.length ≤ 1048576 := by have := smB_mem bs[k] (List.getElem_mem hlt); have := HS.out; unfold SmB at this; omega
      have hways := alg_ways bs[k].1
      have HT1 := Lib.hid (fun (ha : algOk bs[k].1 = true) (h0 : intT (bs.take k) = []) => intT_first hlt ha h0)
      have HT2 := Lib.hid (fun (ha : algOk bs[k].1 = true) (h0 : ¬ intT (bs.take k) = []) => intT_next hlt ha h0)
      have HT3 := Lib.hid (fun (ha : algOk bs[k].1 = false) => intT_skip hlt ha)
      have hbl := b64L_le bs[k].2
      obtain ⟨b, HB⟩ : ∃ b, Hid (bs[k] = b) := ⟨_, Lib.hid rfl⟩
      rw [HB.out] at d1 d2 hl2 hways HT1 HT2 HT3 hbl
      obtain ⟨al, by_⟩ := b
      simp only at d1 d2 hl2 hways HT1 HT2 HT3 hbl
      have k0 : (0 : Int) ≤ (k : Int) := by omega
      have k1 : (k : Int) < (bs.length : Int) := by omega
      rcases hways with ⟨h1, ha⟩ | ⟨h1, h2, ha⟩ | ⟨h1, h2, ha⟩
      · have HN := Lib.hid (HT3.out ha)
        subst h1
        clear ha HT1 HT2 HT3
        unfold h1L at d1
        go_wp2_with fail
        go_roundw
        case rel => exact ⟨k + 1, out, by omega, by go_num, rfl, Lib.hid (by rw [HN.out, HO.out]), hb⟩
        case measure => simp [intOf]; omega
      · have HN := Lib.hid (HT3.out ha)
        have q1 : (al == [104, 49]) = false := by simpa [h1L] using h1
        have HL := Lib.hid (l04Long_any al wr)
        obtain ⟨z, HZ⟩ : ∃ z, Hid (longI al = z) := ⟨_, Lib.hid rfl⟩
        rw [HZ.out] at HL h2
        clear ha h1 HT1 HT2 HT3
        go_wp2_with fail
        refine HL.out.mono ?_
        rintro e w1 ⟨rfl, rfl⟩
        go_wp2_with fail
        go_roundw
        case rel => exact ⟨k + 1, out, by omega, by go_num, rfl, Lib.hid (by rw [HN.out, HO.out]), hb⟩
        case measure => simp [intOf]; omega
      · have q1 : (al == [104, 49]) = false := by simpa [h1L] using h1
        have HL := Lib.hid (l04Long_any al wr)
        obtain ⟨z, HZ⟩ : ∃ z, Hid (longI al = z) := ⟨_, Lib.hid rfl⟩
        rw [HZ.out] at HL h2
        have h2' : ¬ z < 0 := by omega
        have HC := Lib.hid (fun W => specPutBase64_any ⟨by_.toArray⟩ W (by show by_.toArray.size ≤ _; simp; omega))
        obtain ⟨E, HE⟩ : ∃ E, Hid (b64L by_ = E) := ⟨_, Lib.hid rfl⟩
        have HC2 : Hid (∀ W, Calls Tryz.prog 192 #[.string ⟨by_.toArray⟩] W fun e w' => e = .returned (.string ⟨E.toArray⟩) ∧ Below W.heap.size W w') := Lib.hid (by have := HC.out; simp only [HE.out] at this; exact this)
        rw [HE.out] at hbl
        clear h1 HT3 HC
        by_cases h0 : out = []
        · have HN : Hid (intT (bs.take (k + 1)) = al ++ 45 :: E) := Lib.hid (by rw [HT1.out ha (by rw [HO.out, h0])]; show al ++ 45 :: b64L by_ = _; rw [HE.out])
          subst h0
          obtain ⟨N2, HN2⟩ : ∃ N, Hid (N = al ++ [45]) := ⟨_, Lib.hid rfl⟩
          obtain ⟨N3, HN3⟩ : ∃ N, Hid (N = N2 ++ E) := ⟨_, Lib.hid rfl⟩
          have l2 : N2.length ≤ 1048577 := by rw [HN2.out]; simp; omega
          have s1 : ∀ W, (Op.stringOp .add ⟨#[]⟩ ⟨al.toArray⟩).run Tryz.prog W = .ok (.string ⟨al.toArray⟩) W := fun W => by have := add_lists W [] al (by simp) (by omega); simpa using this
          have s2 : ∀ W, (Op.stringOp .add ⟨al.toArray⟩ ⟨#[45]⟩).run Tryz.prog W = .ok (.string ⟨N2.toArray⟩) W := fun W => by rw [HN2.out]; exact add_lists W al [45] (by omega) (by simp)
          have s3 : ∀ W, (Op.stringOp .add ⟨N2.toArray⟩ ⟨E.toArray⟩).run Tryz.prog W = .ok (.string ⟨N3.toArray⟩) W := fun W => by rw [HN3.out]; exact add_lists W N2 E (by omega) (by omega)
          have HNN : Hid (intT (bs.take (k + 1)) = N3) := Lib.hid (by rw [HN.out, HN3.out, HN2.out]; simp)
          clear ha HT1 HT2
          go_wp2_with fail
          refine HL.out.mono ?_
          rintro e w1 ⟨rfl, rfl⟩
          go_wp2_with fail
          go_region_held3 (fun W' => W'.cell? ⟨g, off + k * 2, none⟩ = some (.string ⟨al.toArray⟩) ∧ W'.cell? ⟨g, off + k * 2 + 1, none⟩ = some (.string ⟨by_.toArray⟩)) (first | exact ⟨d1, d2⟩ | assumption | exact keep2 hb3 (by assumption)) ((first | (go_at_call 192; (with_reducible refine (HC2.out _).mono ?_); rintro e w3 ⟨rfl, hb3⟩)))
          all_goals
            have HBB := hb.trans ((below_drewN _ _ 1).trans (hb3.mono hb.size))
            go_wp2_with fail
            go_roundw
            case rel => exact ⟨k + 1, N3, by omega, by go_num, rfl, HNN, HBB⟩
            case measure => simp [intOf]; omega
        · have HN : Hid (intT (bs.take (k + 1)) = out ++ [32] ++ (al ++ 45 :: E)) := Lib.hid (by rw [HT2.out ha (by rw [HO.out]; exact h0), HO.out]; show out ++ [32] ++ (al ++ 45 :: b64L by_) = _; rw [HE.out])
          have z1 : out.isEmpty = false := by cases out <;> simp_all
          have z2 : (out == []) = false := by simpa using h0
          obtain ⟨N0, HN0⟩ : ∃ N, Hid (N = out ++ [32]) := ⟨_, Lib.hid rfl⟩
          obtain ⟨N1, HN1⟩ : ∃ N, Hid (N = N0 ++ al) := ⟨_, Lib.hid rfl⟩
          obtain ⟨N2, HN2⟩ : ∃ N, Hid (N = N1 ++ [45]) := ⟨_, Lib.hid rfl⟩
          obtain ⟨N3, HN3⟩ : ∃ N, Hid (N = N2 ++ E) := ⟨_, Lib.hid rfl⟩
          have l0 : N0.length ≤ 8388609 := by rw [HN0.out]; simp; omega
          have l1 : N1.length ≤ 9437185 := by rw [HN1.out]; simp; omega
          have l2 : N2.length ≤ 9437186 := by rw [HN2.out]; simp; omega
          have s0 : ∀ W, (Op.stringOp .add ⟨out.toArray⟩ ⟨#[32]⟩).run Tryz.prog W = .ok (.string ⟨N0.toArray⟩) W := fun W => by rw [HN0.out]; exact add_lists W out [32] (by omega) (by simp)
          have s1 : ∀ W, (Op.stringOp .add ⟨N0.toArray⟩ ⟨al.toArray⟩).run Tryz.prog W = .ok (.string ⟨N1.toArray⟩) W := fun W => by rw [HN1.out]; exact add_lists W N0 al (by omega) (by omega)
          have s2 : ∀ W, (Op.stringOp .add ⟨N1.toArray⟩ ⟨#[45]⟩).run Tryz.prog W = .ok (.string ⟨N2.toArray⟩) W := fun W => by rw [HN2.out]; exact add_lists W N1 [45] (by omega) (by simp)
          have s3 : ∀ W, (Op.stringOp .add ⟨N2.toArray⟩ ⟨E.toArray⟩).run Tryz.prog W = .ok (.string ⟨N3.toArray⟩) W := fun W => by rw [HN3.out]; exact add_lists W N2 E (by omega) (by omega)
          have HNN : Hid (intT (bs.take (k + 1)) = N3) := Lib.hid (by rw [HN.out, HN3.out, HN2.out, HN1.out, HN0.out]; simp)
          clear ha HT1 HT2 h0
          go_wp2_with fail
          refine HL.out.mono ?_
          rintro e w1 ⟨rfl, rfl⟩
          go_wp2_with fail
          go_region_held3 (fun W' => W'.cell? ⟨g, off + k * 2, none⟩ = some (.string ⟨al.toArray⟩) ∧ W'.cell? ⟨g, off + k * 2 + 1, none⟩ = some (.string ⟨by_.toArray⟩)) (first | exact ⟨d1, d2⟩ | assumption | exact keep2 hb3 (by assumption)) ((first | (go_at_call 192; (with_reducible refine (HC2.out _).mono ?_); rintro e w3 ⟨rfl, hb3⟩)))
          all_goals
            have HBB := hb.trans ((below_drewN _ _ 1).trans (hb3.mono hb.size))
            go_wp2_with fail
            go_roundw
            case rel => exact ⟨k + 1, N3, by omega, by go_num, rfl, HNN, HBB⟩
            case measure => simp [intOf]; omega
    · have HE : Hid (r = out) := Lib.hid (by rw [← HX.out, ← HO.out, intT_all bs hlt])
      go_wp2_with fail
      go_ret
      exact ⟨ret_str HE.out.symm, hb⟩
end Go.Proofs.YtnodhkjgnegkcaaGreatDoor

/-
  impl.triplesOf hands back an iterator that yields the bytes of a text by threes.
-/
namespace Go.Proofs.YtnodhkjgnegkcaaGreatDoor
open Go.RowKit Go.Shelf
attribute [local go_sem] Oper.semAt_some

/-- A group of three bytes, and how many of them are the text's. -/
structure Tri where
  a : UInt8
  b : UInt8
  c : UInt8
  n : Nat
  h1 : 1 ≤ n
  h3 : n ≤ 3
def triV (x : Tri) : Array Value := #[.agg #[.int .u8 (x.a.toNat : Int), .int .u8 (x.b.toNat : Int), .int .u8 (x.c.toNat : Int)], .int .i64 (x.n : Int)]
def tri (l : List UInt8) (g : Nat) : Tri := ⟨l.getD (3 * g) 0, l.getD (3 * g + 1) 0, l.getD (3 * g + 2) 0, max 1 (min 3 (l.length - 3 * g)), by omega, by omega⟩

def TriAll (l : List UInt8) (ys : List Tri) : Prop := ys = (List.range ((l.length + 2) / 3)).map (tri l)

theorem run_copy3 (w : World) (g : Nat) (s : ByteArray) (cur : Array Value) (t : TypeId) (hg : w.heap[g]? = some (.cells cur t (0, 0))) (hc : cur.size = 3) (Y : Array Value) (m : Nat) (hm : m = min s.size 3)
    (hY : Y.toList = Lib.byteCells (s.data.toList.take 3) ++ cur.toList.drop m) :
    (Builtin.copy_ #[145, 9] 3 #[.slice (some ⟨g, 0, none⟩) 3 3, .string s]).run Tryz.prog w = .ok (.int .i64 (m : Int)) (w.setRow g Y) := by
  obtain ⟨i0, hi, hz0, hz1, hz2⟩ := info_parts u8info
  have hlen : (Lib.byteCells (s.data.toList.take 3)).length = m := by rw [Lib.byteCells_length, hm]; simp [Nat.min_comm]
  have hst := run_storeCells_at Tryz.prog g 0 t (Lib.byteCells (s.data.toList.take 3)) 0 cur w hg (by rw [hlen, hm, hc]; omega) (Lib.byteCells_one _)
  have htk : List.take (Nat.min s.size 3) (List.map (fun b : UInt8 => Value.int IntKind.u8 (b.toNat : Int)) s.data.toList) = Lib.byteCells (s.data.toList.take 3) := by
    unfold Lib.byteCells
    rw [List.map_take]
    by_cases h : s.size ≤ 3
    · rw [show s.size.min 3 = s.size from Nat.min_eq_left h, List.take_of_length_le (by simp), List.take_of_length_le (by simp; omega)]
    · rw [show s.size.min 3 = 3 from Nat.min_eq_right (by omega)]
  have hYe : Y = (List.take 0 cur.toList ++ Lib.byteCells (s.data.toList.take 3) ++ List.drop m cur.toList).toArray := by
    apply Array.ext'
    rw [hY]; simp
  rw [hlen] at hst
  simp only [Nat.add_zero, Nat.zero_add] at hst
  rw [hYe]
  simp [Builtin.copy_, run_underlying Tryz.underlying145, Builtin.lenOf, Builtin.firstCells, sizeOf, typeInfo, hi]
  rw [htk, hst]
  simp [Result.andThen, hm, goInt]
theorem tri_cells (l : List UInt8) (h : 0 < l.length) (z : Value) (m : Nat) (hm : m = min l.length 3) (hz : z = .int .u8 0) :
    Lib.byteCells (l.take 3) ++ [z, z, z].drop m = [.int .u8 ((l.getD 0 0).toNat : Int), .int .u8 ((l.getD 1 0).toNat : Int), .int .u8 ((l.getD 2 0).toNat : Int)] := by
  subst hm hz
  match l, h with
  | [a], _ => rfl
  | [a, b], _ => rfl
  | a :: b :: c :: r, _ =>
    have : min (a :: b :: c :: r).length 3 = 3 := by simp
    rw [this]; rfl

set_option maxHeartbeats 1000000 in
theorem triplesOf_in (n : Nat) (s : ByteArray) (w : World) :
    CallsIn Fence.wide n Tryz.prog 234 #[.string s] w fun e w' => e = .returned (.func (.func 269) #[] #[.pointer (some ⟨w.heap.size, 0, none⟩)]) ∧ w' = w.alloc (.cells #[.string s] 9) := by
  refine callsIn_of_wp Tryz.func234 rfl trivial ?_ rfl
  simp only [Tryz.ntmps234, List.size_toArray, List.length_cons, List.length_nil, Nat.reduceAdd, Nat.reduceSub, Array.replicate_succ, Array.replicate_zero, List.push_toArray, List.append_toArray, List.nil_append, List.cons_append]
  gi_wp2
  go_ret
  exact ⟨rfl, rfl⟩

set_option maxRecDepth 100000 in
set_option maxHeartbeats 2000000 in
theorem triples1_in (n : Nat) (hn : 1 ≤ n) (l Bs : Nat) (s : ByteArray) (hs : s.size ≤ 1048576) (J Jx : List Tri → World → Prop)
    (hY : ∀ pre x W, J pre W → pre.length < (s.size + 2) / 3 → YieldAt Fence.wide (n - 1) Tryz.prog l (triV x) W fun e W' =>
      (e = .returned (.bool true) ∧ J (pre ++ [x]) W' ∧ KpB Bs Bs W W') ∨ (e = .returned (.bool false) ∧ Jx (pre ++ [x]) W'))
    (W : World) (hBs : W.heap[Bs]? = some (.cells #[.string s] 9 (0, 0))) (h0 : J [] W) (hJa : AbidesFrom W.heap.size J) :
    CallsIn Fence.wide n Tryz.prog 269 #[.func (.yield l) #[] #[], .pointer (some ⟨Bs, 0, none⟩)] W fun e W' => (∃ v, e = .returned v) ∧
      ((∃ ys, TriAll s.data.toList ys ∧ J ys W') ∨ (∃ pre, True ∧ Jx pre W')) := by
  have hc1 : W.cell? ⟨Bs, 0, none⟩ = some (.string s) := by simp [World.cell?, hBs]
  refine callsIn_of_wp Tryz.func269 rfl trivial ?_ rfl
  simp only [Tryz.ntmps269, List.size_toArray, List.length_cons, List.length_nil, Nat.reduceAdd, Nat.reduceSub, Array.replicate_succ, Array.replicate_zero, List.push_toArray, List.append_toArray, List.nil_append, List.cons_append]
  gi_wp2
  gi_loopw [3] (fun i wr => ∃ (g I : Nat), I = 3 * g ∧ g ≤ (s.size + 2) / 3 ∧ i = .int .i64 (I : Int) ∧ wr.heap[Bs]? = some (.cells #[.string s] 9 (0, 0)) ∧ J ((List.range g).map (tri s.data.toList)) wr) (fun i _ => s.size + 2 - (intOf i).toNat)
  case atStart => exact ⟨0, 0, rfl, Nat.zero_le _, rfl, hBs, h0⟩
  case round =>
    obtain ⟨g, I, hIg, hg, rfl, g1, hJ⟩ := hrel
    have d1 : wr.cell? ⟨Bs, 0, none⟩ = some (.string s) := by simp [World.cell?, g1]
    by_cases hlt : I < s.size
    · have k0 : (0 : Int) ≤ (I : Int) := by omega
      have k1 : (I : Int) < (s.size : Int) := by omega
      have HI := Lib.hid hIg
      have hI0 : I ≤ 1048576 := by omega
      have HG := Lib.hid hg
      obtain ⟨x, hx⟩ : ∃ x, x = tri s.data.toList g := ⟨_, rfl⟩
      obtain ⟨r, hr⟩ : ∃ r : ByteArray, r = ⟨(s.data.toList.drop I).toArray⟩ := ⟨_, rfl⟩
      have he := slice_from s r I (I : Int) rfl (by omega) (by rw [hr]; exact piece_end s I)
      have hrl : r.data.toList = s.data.toList.drop I := by rw [hr]
      have hrs : r.size = s.size - I := by have := congrArg List.length hrl; simpa using this
      have hxn : x.n = min r.size 3 := by rw [hx, hrs]; simp [tri]; omega
      have hcells : Lib.byteCells (r.data.toList.take 3) ++ [Value.int .u8 0, .int .u8 0, .int .u8 0].drop x.n = [.int .u8 (x.a.toNat : Int), .int .u8 (x.b.toNat : Int), .int .u8 (x.c.toNat : Int)] := by
        rw [tri_cells r.data.toList (by simp; omega) (.int .u8 0) x.n (by rw [hxn]; simp) rfl, hrl, hx]
        simp [tri, List.getD, List.getElem?_drop, hIg]
      have hcp := run_copy3 ((wr.alloc (.cells #[.int .u8 0, .int .u8 0, .int .u8 0] 251)).drew) wr.heap.size r #[.int .u8 0, .int .u8 0, .int .u8 0] 251 (heap_alloc_new wr _) rfl #[.int .u8 (x.a.toNat : Int), .int .u8 (x.b.toNat : Int), .int .u8 (x.c.toNat : Int)] x.n hxn hcells.symm
      have HX := Lib.hid hx
      clear hIg hg hx hr hrl hrs hxn hcells
      have hBl : Bs < wr.heap.size := (Array.getElem?_eq_some_iff.1 g1).1
      have d2 : (wr.alloc (.cells #[.int .u8 0, .int .u8 0, .int .u8 0] 251)).cell? ⟨Bs, 0, none⟩ = some (.string s) := (((Below.refl wr.heap.size wr).alloc (Nat.le_refl _) _).cell (p := ⟨Bs, 0, none⟩) hBl).trans d1
      gi_wp2
      gi_region
      obtain ⟨w4, h4⟩ : ∃ w4, (wr.alloc (.cells #[.int .u8 0, .int .u8 0, .int .u8 0] 251)).drew.setRow wr.heap.size #[.int .u8 (x.a.toNat : Int), .int .u8 (x.b.toNat : Int), .int .u8 (x.c.toNat : Int)] = w4 := ⟨_, rfl⟩
      have hr4 : w4.heap[wr.heap.size]? = some (.cells #[.int .u8 (x.a.toNat : Int), .int .u8 (x.b.toNat : Int), .int .u8 (x.c.toNat : Int)] 251 (0, 0)) := by
        rw [← h4]; exact setRow_heap _ _ _ _ 251 (0, 0) (heap_alloc_new wr _)
      have hg4 : wr.grownBy w4 none := by
        rw [← h4]
        refine ⟨rfl, rfl, rfl, by simp, fun k hk _ => ?_⟩
        exact (setRow_other _ _ _ _ (by omega)).trans (Below.heap_alloc _ _ _ (by omega))
      have g4 : w4.heap[Bs]? = some (.cells #[.string s] 9 (0, 0)) := (hg4.block Bs hBl (by simp)).trans g1
      have hJ4 : J ((List.range g).map (tri s.data.toList)) w4 := hJa _ wr w4 none hJ hg4 (fun r e => by cases e)
      rw [h4]
      clear h4 hcp d1 d2 g1 hJ hg4
      have q0 : w4.cell? ⟨wr.heap.size, 0, none⟩ = some (.int .u8 (x.a.toNat : Int)) := by simp [World.cell?, hr4]
      have q1 : w4.cell? ⟨wr.heap.size, 1, none⟩ = some (.int .u8 (x.b.toNat : Int)) := by simp [World.cell?, hr4]
      have q2 : w4.cell? ⟨wr.heap.size, 2, none⟩ = some (.int .u8 (x.c.toNat : Int)) := by simp [World.cell?, hr4]
      have hyy := hY _ x w4 hJ4 (by have := HG.out; have := HI.out; simp; omega)
      unfold triV at hyy
      obtain ⟨fn, tmps, assign, body, hy, hR⟩ := hyy
      have HR := Lib.hid hR
      clear hR hr4
      gi_wp2
      refine HR.out.mono ?_
      rintro e W3 (⟨rfl, hJ3, hk3⟩ | ⟨rfl, hJx3⟩)
      · gi_wp2
        go_roundw
        case rel => exact ⟨g + 1, I + 3, by rw [HI.out]; omega, by have := HI.out; omega, by go_num, hk3.1.trans g4, by rw [List.range_succ, List.map_append, List.map_cons, List.map_nil, ← HX.out]; exact hJ3⟩
        case measure => simp [intOf]; omega
      · gi_wp2
        refine bodyPost_ret (results_none rfl _ _ _) rfl ?_
        exact ⟨⟨_, rfl⟩, .inr ⟨_, trivial, hJx3⟩⟩
    · have k1 : ¬ (I : Int) < (s.size : Int) := by omega
      have HE : Hid (g = (s.size + 2) / 3) := Lib.hid (by omega)
      clear hIg hg
      gi_wp2
      go_end0
      exact ⟨⟨_, rfl⟩, .inl ⟨_, by unfold TriAll; rw [HE.out]; simp, hJ⟩⟩

/-- The iterator's contract, for a caller. -/
theorem triples_stops (n : Nat) (hn : 1 ≤ n) (Bs : Nat) (s : ByteArray) (hs : s.size ≤ 1048576) (w : World) (h1 : Bs < w.heap.size)
    (hBs : w.heap[Bs]? = some (.cells #[.string s] 9 (0, 0))) :
    SeqStopsK Fence.wide n Tryz.prog 269 #[.pointer (some ⟨Bs, 0, none⟩)] triV (KpB Bs Bs) (TriAll s.data.toList) (fun _ => True) ((s.size + 2) / 3) w := fun l J Jx W hW hJ _ hY h0 =>
  triples1_in n hn l Bs s hs J Jx hY W ((hW.block Bs h1).trans hBs) h0 hJ
end Go.Proofs.YtnodhkjgnegkcaaGreatDoor

/-
  impl.base64Group returns the four signs of three bytes.
-/
namespace Go.Proofs.YtnodhkjgnegkcaaGreatDoor
open Go.RowKit

theorem idx_u8 (n : Nat) (hn : n < 64) (z : Int) (hz : z = (n : Int)) (w : World) : (Instr.index 9 (.string ⟨#[65, 66, 67, 68, 69, 70, 71, 72, 73, 74, 75, 76, 77, 78, 79, 80, 81, 82, 83, 84, 85, 86, 87, 88, 89, 90, 97, 98, 99, 100, 101, 102, 103, 104, 105, 106, 107, 108, 109, 110, 111, 112, 113, 114, 115, 116, 117, 118, 119, 120, 121, 122, 48, 49, 50, 51, 52, 53, 54, 55, 56, 57, 43, 47]⟩) (.int .u8 z)).run Tryz.prog w = .ok (.int .u8 ((sg n).toNat : Int)) w := idx_sg n hn z hz .u8 w

set_option maxRecDepth 100000 in
set_option maxHeartbeats 2000000 in
theorem base64Group_any (a b c : UInt8) (w : World) :
    Calls Tryz.prog 235 #[.agg #[bv a, bv b, bv c]] w fun e w' => e = .returned (.agg #[bv (sg (a.toNat / 4)), bv (sg (a.toNat % 4 * 16 + b.toNat / 16)), bv (sg (b.toNat % 16 * 4 + c.toNat / 64)), bv (sg (c.toNat % 64))]) ∧ Below w.heap.size w w' := by
  unfold bv
  have ha := a.toNat_lt
  have hb := b.toNat_lt
  have hc := c.toNat_lt
  have w1 : IntKind.u8.wrap ((a.toNat : Int) / 4) = (a.toNat : Int) / 4 := wraps_u8 _ (by omega) (by omega)
  have w2 : IntKind.u8.wrap ((b.toNat : Int) / 16) = (b.toNat : Int) / 16 := wraps_u8 _ (by omega) (by omega)
  have w3 : IntKind.u8.wrap ((c.toNat : Int) / 64) = (c.toNat : Int) / 64 := wraps_u8 _ (by omega) (by omega)
  have w4 : IntKind.u8.wrap ((a.toNat : Int) % 4 * 16) = (a.toNat : Int) % 4 * 16 := wraps_u8 _ (by omega) (by omega)
  have w5 : IntKind.u8.wrap ((b.toNat : Int) % 16 * 4) = (b.toNat : Int) % 16 * 4 := wraps_u8 _ (by omega) (by omega)
  have m1 : bits .and .u8 (a.toNat : Int) 3 = (a.toNat : Int) % 4 := bits_mask .u8 8 (by decide) wraps_u8 2 (by decide) _ (by omega) (by omega)
  have m2 : bits .and .u8 (b.toNat : Int) 15 = (b.toNat : Int) % 16 := bits_mask .u8 8 (by decide) wraps_u8 4 (by decide) _ (by omega) (by omega)
  have m3 : bits .and .u8 (c.toNat : Int) 63 = (c.toNat : Int) % 64 := bits_mask .u8 8 (by decide) wraps_u8 6 (by decide) _ (by omega) (by omega)
  have j1 : bits .or .u8 ((a.toNat : Int) % 4 * 16) ((b.toNat : Int) / 16) = (a.toNat : Int) % 4 * 16 + (b.toNat : Int) / 16 := bits_join .u8 8 (by decide) wraps_u8 4 _ _ (by omega) (by omega) (by omega) (by omega) (by omega) (by omega)
  have j2 : bits .or .u8 ((b.toNat : Int) % 16 * 4) ((c.toNat : Int) / 64) = (b.toNat : Int) % 16 * 4 + (c.toNat : Int) / 64 := bits_join .u8 8 (by decide) wraps_u8 2 _ _ (by omega) (by omega) (by omega) (by omega) (by omega) (by omega)
  have x1 := idx_u8 (a.toNat / 4) (by omega) ((a.toNat : Int) / 4) (by omega)
  have x2 := idx_u8 (a.toNat % 4 * 16 + b.toNat / 16) (by omega) ((a.toNat : Int) % 4 * 16 + (b.toNat : Int) / 16) (by omega)
  have x3 := idx_u8 (b.toNat % 16 * 4 + c.toNat / 64) (by omega) ((b.toNat : Int) % 16 * 4 + (c.toNat : Int) / 64) (by omega)
  have x4 := idx_u8 (c.toNat % 64) (by omega) ((c.toNat : Int) % 64) (by omega)
  go_enter Tryz.func235, Tryz.ntmps235
  go_wp2_with fail
  obtain ⟨W, hW⟩ : ∃ W, (w.alloc (.cells #[.int .u8 (a.toNat : Int), .int .u8 (b.toNat : Int), .int .u8 (c.toNat : Int)] 251)).alloc (.cells #[.int .u8 0, .int .u8 0, .int .u8 0, .int .u8 0] 252) = W := ⟨_, rfl⟩
  have hBW : Below w.heap.size w W := by rw [← hW]; exact (((Below.refl _ w).alloc (Nat.le_refl _) _).alloc (by simp) _)
  have h0 : W.heap[w.heap.size]? = some (.cells #[.int .u8 (a.toNat : Int), .int .u8 (b.toNat : Int), .int .u8 (c.toNat : Int)] 251 (0, 0)) := by
    rw [← hW]; exact (Below.heap_alloc _ _ _ (by simp)).trans (heap_alloc_new w _)
  have h1 : W.heap[w.heap.size + 1]? = some (.cells #[.int .u8 0, .int .u8 0, .int .u8 0, .int .u8 0] 252 (0, 0)) := by
    rw [← hW]
    have := heap_alloc_new (w.alloc (.cells #[.int .u8 (a.toNat : Int), .int .u8 (b.toNat : Int), .int .u8 (c.toNat : Int)] 251)) (.cells #[.int .u8 0, .int .u8 0, .int .u8 0, .int .u8 0] 252)
    rwa [World.size_alloc] at this
  rw [hW]
  clear hW
  have c0 : W.cell? ⟨w.heap.size, 0, none⟩ = some (.int .u8 (a.toNat : Int)) := by simp [World.cell?, h0]
  have c1 : W.cell? ⟨w.heap.size, 1, none⟩ = some (.int .u8 (b.toNat : Int)) := by simp [World.cell?, h0]
  have c2 : W.cell? ⟨w.heap.size, 2, none⟩ = some (.int .u8 (c.toNat : Int)) := by simp [World.cell?, h0]
  go_still_tail 27, (by kernel_rfl)
  have e0 : W.cell? ⟨w.heap.size + 1, 0, none⟩ = some (.int .u8 0) := by simp [World.cell?, h1]
  have e1 : W.cell? ⟨w.heap.size + 1, 1, none⟩ = some (.int .u8 0) := by simp [World.cell?, h1]
  have e2 : W.cell? ⟨w.heap.size + 1, 2, none⟩ = some (.int .u8 0) := by simp [World.cell?, h1]
  have e3 : W.cell? ⟨w.heap.size + 1, 3, none⟩ = some (.int .u8 0) := by simp [World.cell?, h1]
  have f0 : W.frozen? ⟨w.heap.size + 1, 0, none⟩ = false := by simp [World.frozen?, h1]
  have f1 : W.frozen? ⟨w.heap.size + 1, 1, none⟩ = false := by simp [World.frozen?, h1]
  have f2 : W.frozen? ⟨w.heap.size + 1, 2, none⟩ = false := by simp [World.frozen?, h1]
  have f3 : W.frozen? ⟨w.heap.size + 1, 3, none⟩ = false := by simp [World.frozen?, h1]
  go_wp2_with fail
  refine bodyPost_ret (v := .agg #[.int .u8 ((sg (a.toNat / 4)).toNat : Int), .int .u8 ((sg (a.toNat % 4 * 16 + b.toNat / 16)).toNat : Int), .int .u8 ((sg (b.toNat % 16 * 4 + c.toNat / 64)).toNat : Int), .int .u8 ((sg (c.toNat % 64)).toNat : Int)]) ?_ rfl ⟨rfl, ?_⟩
  · simp [results, Tryz.f235, go_sem, e0, e1, e2, e3]
  · exact ((((hBW.setCell (p := ⟨w.heap.size + 1, 0, none⟩) (by simp) _).setCell (p := ⟨w.heap.size + 1, 1, none⟩) (by simp) _).setCell (p := ⟨w.heap.size + 1, 2, none⟩) (by simp) _).setCell (p := ⟨w.heap.size + 1, 3, none⟩) (by simp) _).drew
end Go.Proofs.YtnodhkjgnegkcaaGreatDoor

/-
  impl.PutBase64 returns four signs for every three bytes.
-/
namespace Go.Proofs.YtnodhkjgnegkcaaGreatDoor
open Go.RowKit Go.Shelf
attribute [local go_sem] Oper.semAt_some

/-- What PutBase64 has in its box: the signs so far. -/
def BJ (w : World) (ls : List UInt8) (W : World) : Prop :=
  w.heap.size + 3 ≤ W.heap.size ∧ ∃ v, Boxed W (w.heap.size + 1) 145 v ∧ Buf W w.heap.size v ls ∧ (∀ g, v.ownBlock = some g → g ≠ w.heap.size + 1 ∧ g ≠ w.heap.size + 2)
theorem bJ_grown {w : World} {ls : List UInt8} {W W' : World} {row : Option Nat} (h : BJ w ls W) (hg : W.grownBy W' row) (hr : ∀ r, row = some r → ∃ o : Obj, W.heap[r]? = some o ∧ o.isCells = false) : BJ w ls W' := by
  obtain ⟨h4, v, hB, hS, hne⟩ := h
  refine ⟨Nat.le_trans h4 hg.size, v, hB.kept hg (fun e => ?_), World.ownsRow.kept hS hg ?_, hne⟩
  · obtain ⟨o, ho, hc⟩ := hr _ e.symm
    rw [show W.heap[_]? = _ from hB] at ho; cases ho; cases hc
  · rcases hS.2 with ⟨rfl, _⟩ | ⟨g, cap, cur, rfl, _, hh, _⟩
    · left; rfl
    · right
      intro e
      obtain ⟨o, ho, hc⟩ := hr g (by simpa [Value.ownBlock] using e.symm)
      rw [hh] at ho; cases ho; cases hc
def outL (pre : List Tri) : List UInt8 := pre.flatMap fun x => grp ((x.a.toNat * 256 + x.b.toNat) * 256 + x.c.toNat) x.n
theorem outL_snoc (pre : List Tri) (x : Tri) : outL (pre ++ [x]) = outL pre ++ grp ((x.a.toNat * 256 + x.b.toNat) * 256 + x.c.toNat) x.n := by simp [outL]
theorem outL_len (pre : List Tri) : (outL pre).length = 4 * pre.length := by
  induction pre with
  | nil => rfl
  | cons x pre ih => simp only [outL, List.flatMap_cons, List.length_append, List.length_cons] at ih ⊢; rw [ih]; simp [grp]; omega
theorem outL_all (l : List UInt8) (ys : List Tri) (h : TriAll l ys) : outL ys = b64L l := by
  rw [h]
  unfold outL b64L b64G
  rw [List.flatMap_map, List.flatMap_def, List.flatMap_def]
  refine congrArg List.flatten (List.map_congr_left fun g hg => ?_)
  have hg' : g < (l.length + 2) / 3 := by simpa using hg
  have e : max 1 (min 3 (l.length - 3 * g)) = min 3 (l.length - 3 * g) := by omega
  simp only [tri, e, pv, Nat.add_zero, Nat.zero_mul, Nat.zero_add]

/-- The four cells while the last are being filled up with the padding sign. -/
def eqs (n K : Nat) (c0 c1 c2 c3 : UInt8) : Array Value := #[.int .u8 (c0.toNat : Int), .int .u8 (c1.toNat : Int), if n < 2 ∧ 2 < K then .int .u8 61 else .int .u8 (c2.toNat : Int), if n < 3 ∧ 3 < K then .int .u8 61 else .int .u8 (c3.toNat : Int)]
theorem eqs_set (n K : Nat) (c0 c1 c2 c3 : UInt8) (h1 : 1 ≤ n) (hK : n + 1 ≤ K) (h4 : K < 4) : (eqs n K c0 c1 c2 c3).setIfInBounds K (.int .u8 61) = eqs n (K + 1) c0 c1 c2 c3 := by
  obtain rfl | rfl : K = 2 ∨ K = 3 := by omega
  · obtain rfl : n = 1 := by omega
    rfl
  · obtain rfl | rfl : n = 1 ∨ n = 2 := by omega
    · rfl
    · rfl
theorem eqs_start (n : Nat) (c0 c1 c2 c3 : UInt8) : #[.int .u8 (c0.toNat : Int), .int .u8 (c1.toNat : Int), .int .u8 (c2.toNat : Int), .int .u8 (c3.toNat : Int)] = eqs n (n + 1) c0 c1 c2 c3 := by
  unfold eqs
  rw [if_neg (by omega), if_neg (by omega)]
theorem eqs_end (n : Nat) (c0 c1 c2 c3 : UInt8) : (eqs n 4 c0 c1 c2 c3).toList = [c0, c1, if n < 2 then 61 else c2, if n < 3 then 61 else c3].map bv := by
  unfold eqs bv
  by_cases h2 : n < 2
  · have h3 : n < 3 := by omega
    simp [h2, h3]
  · by_cases h3 : n < 3
    · simp [h2, h3]
    · simp [h2, h3]
theorem Buf.grown_none {w w' : World} {base : Nat} {v : Value} {l : List UInt8} (h : Buf w base v l) (hg : w.grownBy w' none) : Buf w' base v l :=
  World.ownsRow.kept h (row := none) hg (by
    rcases h.form with ⟨rfl, _⟩ | ⟨g, cap, rfl, _, _⟩
    · left; rfl
    · right; simp [Value.ownBlock])

theorem run_append_buf2 (w : World) (ty : TypeId) (base : Nat) (v : Value) (l : List UInt8) (hown : Buf w base v l) (ns : List UInt8) (B c : Nat) (cs : Array Value) (t : TypeId) (fr : Nat × Nat)
    (hblk : w.heap[B]? = some (.cells cs t fr)) (hcs : cs.toList = ns.map bv) (hm : 0 < ns.length) (hlen : l.length + ns.length ≤ 16777216) (hbase : base ≤ w.heap.size) :
    ∃ g cap w', (Builtin.append_ #[145, 145] ty #[v, .slice (some ⟨B, 0, none⟩) ns.length c]).run Tryz.prog w = .ok (.slice (some ⟨g, 0, none⟩) (l.length + ns.length) cap) w' ∧ Buf w' base (.slice (some ⟨g, 0, none⟩) (l.length + ns.length) cap) (l ++ ns) ∧ w.grownBy w' v.ownBlock ∧ (v.ownBlock = some g ∨ g = w.heap.size) := by
  obtain ⟨i0, hi, hz0, hz1, hz2⟩ := info_parts u8info
  obtain ⟨g, cap, w', hr, h2, h3, h4, _⟩ := run_append_lies (P := Tryz.prog) w 145 ty base 5 i0 (.int .u8 0) 1 1 Tryz.underlying145 hi hz0 hz1 hz2 rfl (by decide) v l.length (l.map bv) hown
    ⟨B, 0, none⟩ ns.length c (ns.map bv) (by simp) (by rw [← hcs]; exact World.news_of_block hblk) (by intro u hu; obtain ⟨x, _, rfl⟩ := List.mem_map.1 hu; rfl) hm (by unfold maxLen; omega) (by omega) hbase _ rfl
  refine ⟨g, cap, w', hr, ?_, h3, h4⟩
  unfold Buf
  rw [List.length_append, List.map_append]
  exact h2
theorem step_append_bin {F : Fence} {n : Nat} {w : World} {ops : Array Oper} {o : Oper} {a : Act} {K : Act → World → Prop} {Q : Exit → Act → World → Prop} {E : Prop} (hgd : o.guard = none) (s x : Operand)
    (ho : o.op = .call { callee := .builtin .append, args := #[s, x], argTypes := #[145, 145] })
    (base : Nat) (v : Value) (l : List UInt8) (hs : a.eval s = v) (hown : Buf w base v l) (ns : List UInt8) (B m c : Nat) (cs : Array Value) (t : TypeId) (fr : Nat × Nat)
    (hx : a.eval x = .slice (some ⟨B, 0, none⟩) m c) (hmm : ns.length = m) (hblk : w.heap[B]? = some (.cells cs t fr)) (hcs : cs.toList = ns.map bv) (hm : 0 < ns.length) (hlen : l.length + ns.length ≤ 16777216) (hbase : base ≤ w.heap.size)
    (h : ∀ g cap w', Buf w' base (.slice (some ⟨g, 0, none⟩) (l.length + ns.length) cap) (l ++ ns) → w.grownBy w' v.ownBlock → (v.ownBlock = some g ∨ g = w.heap.size) → K (a.put o.dst (.slice (some ⟨g, 0, none⟩) (l.length + ns.length) cap)) w') :
    if Region.wanted o (yielded ops a.tmps) = true then Oper.wpIn F n Tryz.prog o a w K Q else E := by
  subst hmm
  have hw : Region.wanted o (yielded ops a.tmps) = true := by simp [Region.wanted, hgd]
  rw [if_pos hw]
  obtain ⟨g, cap, w', hr, h2, h3, h4⟩ := run_append_buf2 w o.type base v l hown ns B c cs t fr hblk hcs hm hlen hbase
  refine ⟨?_, ?_⟩
  · intro f hf
    simp [Oper.about, ho, resolve, Target.leads, go_sem] at hf
  · rw [Oper.semAt_eq _ _ _ (by intro c hc; rw [ho] at hc; cases hc)]
    unfold execOp
    simp only [ho, resolve, invoke, builtin, Sem.run_bind, Sem.run_pure, Result.andThen_ok, List.map_toArray, List.map_cons, List.map_nil, hs, hx, hr]
    exact h g cap w' h2 h3 h4
theorem b64_end (w W wa w3 : World) (v u : Value) (ls ns : List UInt8) (g cap : Nat) (hu : u = .slice (some ⟨g, 0, none⟩) (ls.length + ns.length) cap) (h4 : w.heap.size + 3 ≤ W.heap.size) (hR : Boxed W (w.heap.size + 1) 145 v) (hS : Buf W w.heap.size v ls)
    (hne : ∀ g, v.ownBlock = some g → g ≠ w.heap.size + 1 ∧ g ≠ w.heap.size + 2) (hB : Below w.heap.size w W) (hga : W.grownBy wa none) (hg3 : wa.grownBy w3 v.ownBlock)
    (hS3 : Buf w3 w.heap.size (.slice (some ⟨g, 0, none⟩) (ls.length + ns.length) cap) (ls ++ ns)) (hg4 : v.ownBlock = some g ∨ g = wa.heap.size) :
    Boxed w3 (w.heap.size + 1) 145 v ∧ KeepsOthers W (w3.setCell ⟨w.heap.size + 1, 0, none⟩ u) ∧ KpB (w.heap.size + 1 + 1) (w.heap.size + 1 + 1) W (w3.setCell ⟨w.heap.size + 1, 0, none⟩ u) ∧
      BJ w (ls ++ ns) (w3.setCell ⟨w.heap.size + 1, 0, none⟩ u) ∧ Below w.heap.size w (w3.setCell ⟨w.heap.size + 1, 0, none⟩ u) := by
  subst hu
  have hs1 : W.heap.size ≤ wa.heap.size := hga.size
  have hs3 : wa.heap.size ≤ w3.heap.size := hg3.size
  have hgne : g ≠ w.heap.size + 1 ∧ g ≠ w.heap.size + 2 := by
    rcases hg4 with h | h
    · exact hne g h
    · omega
  have hG : W.grownBy w3 v.ownBlock := ⟨hg3.os.trans hga.os, hg3.tape.trans hga.tape, hg3.output.trans hga.output, by omega, fun k hk hkn =>
    (hg3.block k (by omega) hkn).trans (hga.block k hk (by simp))⟩
  have hR3 : Boxed w3 (w.heap.size + 1) 145 v := hR.kept hG (fun e => (hne _ e.symm).1 rfl)
  have hK : KeepsOthers W w3 := KeepsOthers.of_grownBy hG (fun j o' ej hj => by
    rcases hS.2 with ⟨rfl, _⟩ | ⟨g', cap', cur, rfl, _, hh, _⟩
    · simp [Value.ownBlock] at ej
    · simp [Value.ownBlock] at ej
      subst ej
      rw [hh] at hj; cases hj; rfl)
  have hBel : Below w.heap.size w w3 := hB.grown hG (by omega) hS.owned
  have k1 : w3.heap[w.heap.size + 1 + 1]? = W.heap[w.heap.size + 1 + 1]? := hG.block _ (by omega) (fun e => (hne _ e.symm).2 (by omega))
  refine ⟨hR3, hK.trans (KeepsOthers.setCell _ _ _), ⟨(Below.heap_setCell _ _ _ _ (by simp)).trans k1, (Below.heap_setCell _ _ _ _ (by simp)).trans k1⟩, ⟨by simp; omega, _, hR3.set _, ?_, ?_⟩, hBel.setCell (p := ⟨w.heap.size + 1, 0, none⟩) (by simp) _⟩
  · exact World.ownsRow.kept hS3 (grownBy_setCell' w3 (w.heap.size + 1) _) (by right; simp [Value.ownBlock]; omega)
  · intro g' hg'
    simp [Value.ownBlock] at hg'
    subst hg'
    exact hgne

set_option maxRecDepth 100000 in
set_option maxHeartbeats 4000000 in
theorem putBase64_in (n : Nat) (hn : 4 ≤ n) (s : ByteArray) (w : World) (hs : s.size ≤ 1048576) :
    CallsIn Fence.wide n Tryz.prog 196 #[.string s] w fun e W' => e = .returned (.string ⟨(b64L s.data.toList).toArray⟩) ∧ Below w.heap.size w W' := by
  have h1 : 1 ≤ n := by omega
  have hn2 : 1 ≤ n - 1 - 1 := by omega
  obtain ⟨C, hC⟩ : ∃ C : Nat, C = (s.size + 2) / 3 * 4 := ⟨_, rfl⟩
  obtain ⟨i0, hi, hz0, hz1, hz2⟩ := info_parts u8info
  obtain ⟨M, hM⟩ : ∃ M, M = madeCells (Value.int .u8 0).cells (C * i0.size) := ⟨_, rfl⟩
  have hMs : M.size = C := by rw [hM, size_madeCells, hz1]; simp
  have hmk : ∀ W : World, (Instr.makeSlice 145 (.int .i64 0) (.int .i64 (C : Int))).run Tryz.prog W = .ok (.slice (some ⟨W.heap.size, 0, none⟩) 0 C) (W.alloc (.cells M 5)) := fun W => by
    have h := run_make (P := Tryz.prog) W 145 5 i0 (.int .u8 0) Tryz.underlying145 hi hz0 .i64 .i64 0 (C : Int) (by omega) (by omega) (by rw [hz2]; omega) (by omega)
    simp only [Int.toNat_natCast] at h
    rw [← hM] at h
    simpa using h
  have hcap : ((s.size : Int) + 2) / 3 * 4 = (C : Int) := by omega
  have hC0 : C ≤ 1398104 := by omega
  clear hM hC
  refine callsIn_of_wp_marks Tryz.func196 rfl trivial ?_ rfl
  simp only [Tryz.ntmps196, List.size_toArray, List.length_cons, List.length_nil, Nat.reduceAdd, Nat.reduceSub, Array.replicate_succ, Array.replicate_zero, List.push_toArray, List.append_toArray, List.nil_append, List.cons_append]
  gi_wp2_with (refine ⟨trivial, ?_⟩; gi_at_call 234; refine (triplesOf_in _ _ _).mono ?_; rintro e w' ⟨rfl, rfl⟩)
  have b1 := Boxed.new (w.alloc (.cells M 5)) 145 (.slice (some ⟨w.heap.size, 0, none⟩) 0 C)
  have b3 := Boxed.new ((w.alloc (.cells M 5)).alloc (.cells #[.slice (some ⟨w.heap.size, 0, none⟩) 0 C] 145)) 9 (.string s)
  simp only [World.size_alloc] at b1 b3
  have hB0 : Below w.heap.size w (((w.alloc (.cells M 5)).alloc (.cells #[.slice (some ⟨w.heap.size, 0, none⟩) 0 C] 145)).alloc (.cells #[.string s] 9)) := (((Below.refl _ w).alloc (Nat.le_refl _) _).alloc (by simp) _).alloc (by simp; omega) _
  have b1' := b1.alloc (.cells #[.string s] 9)
  have hS00 : Buf (w.alloc (.cells M 5)) w.heap.size (.slice (some ⟨w.heap.size, 0, none⟩) 0 C) [] :=
    ⟨rfl, .inr ⟨w.heap.size, C, M, rfl, Nat.le_refl _, heap_alloc_new w _, Nat.zero_le _, by unfold maxLen; omega, by rw [hMs]; omega, by simp⟩⟩
  have hS0 := (hS00.alloc (.cells #[.slice (some ⟨w.heap.size, 0, none⟩) 0 C] 145)).alloc (.cells #[.string s] 9)
  clear b1 hS00
  obtain ⟨W0, hW0⟩ : ∃ W0, (((w.alloc (.cells M 5)).alloc (.cells #[.slice (some ⟨w.heap.size, 0, none⟩) 0 C] 145)).alloc (.cells #[.string s] 9)) = W0 := ⟨_, rfl⟩
  have hsz : W0.heap.size = w.heap.size + 3 := by rw [← hW0]; simp
  rw [hW0] at b1' b3 hS0 hB0 ⊢
  clear hW0
  have HSZ := Lib.hid hsz
  clear hsz hmk hMs hcap
  refine wpIn_rangeFunc_ownH rfl h1 (gf := 269) (lb := #[.pointer (some ⟨w.heap.size + 1 + 1, 0, none⟩)]) rfl trivial (enters_of Tryz.func269 (by kernel_rfl) rfl)
    (triples_stops (n - 1) (by omega) (w.heap.size + 1 + 1) s hs W0 (by rw [HSZ.out]; omega) b3) kpB_t (kpB_b (by rw [HSZ.out]; omega) (by rw [HSZ.out]; omega)) (Below.refl _ _) (fun _ => rfl)
    (fun pre W => BJ w (outL pre) W ∧ Below w.heap.size w W)
    (fun c pre W => False)
    (OwnFrom.and (fun pre W W' row h hg hr => bJ_grown h hg (fun r e => (hr r e).2)) (ownFrom_below (Nat.le_refl _) (by rw [HSZ.out]; omega)))
    (fun c => ownFrom_pure _ _)
    ⟨⟨by rw [HSZ.out]; exact Nat.le_refl _, _, b1', hS0, fun g hg => by simp [Value.ownBlock] at hg; omega⟩, hB0⟩
    (fun x a' W => ∃ Bx, w.heap.size + 3 ≤ Bx ∧ W.heap[Bx]? = some (.cells #[.int .u8 (x.a.toNat : Int), .int .u8 (x.b.toNat : Int), .int .u8 (x.c.toNat : Int)] 251 (0, 0)) ∧
      a' = { tmps := #[.string s, undef, .string ⟨#[]⟩, .pointer (some ⟨w.heap.size + 1, 0, none⟩), .pointer (some ⟨Bx, 0, none⟩), .int .i64 (x.n : Int), undef, undef, .string s, .int .i64 s.size, .int .i64 ((s.size : Int) + 2), .int .i64 (((s.size : Int) + 2) / 3), .int .i64 (C : Int), .slice (some ⟨w.heap.size, 0, none⟩) 0 C, .string s, .func (.func 269) #[] #[.pointer (some ⟨w.heap.size + 1 + 1, 0, none⟩)], .agg #[.int .u8 (x.a.toNat : Int), .int .u8 (x.b.toNat : Int), .int .u8 (x.c.toNat : Int)], .int .i64 (x.n : Int), undef, undef, undef, undef, undef, undef, undef, undef, undef, undef, undef, undef, undef, undef, undef], defers := [] })
    (fun x a' => by
      rintro _ X Y row ⟨Bx, hx1, hx2, hx3⟩ hg hr
      refine ⟨Bx, hx1, (hg.block Bx (Array.getElem?_eq_some_iff.1 hx2).1 (fun e => ?_)).trans hx2, hx3⟩
      obtain ⟨_, o, ho, hc⟩ := hr _ e.symm
      rw [hx2] at ho; cases ho; cases hc)
    ?assign ?body ?done ?stop
  case assign =>
    rintro l pre x W K ⟨hJ, hB⟩ hK
    unfold triV
    gi_wp2
    have hgr := World.grownBy_alloc W (.cells #[.int .u8 (x.a.toNat : Int), .int .u8 (x.b.toNat : Int), .int .u8 (x.c.toNat : Int)] 251) none
    refine hK _ _ ((KeepsOthers.alloc _ _).from _) (KpB.of_grown hgr (by have := hJ.1; omega) (by have := hJ.1; omega) (by simp) (by simp)) ⟨bJ_grown hJ hgr (fun r e => by cases e), hB.alloc hB.size _⟩ ⟨W.heap.size, hJ.1, heap_alloc_new W _, rfl⟩
  case body =>
    rintro l pre x a' W hl hrec ⟨⟨h4, v, hR, hS, hne⟩, hB⟩ ⟨Bx, hBx, hX, rfl⟩ hpl
    have cR := hR.cell
    have fR := hR.frozen
    have q0 : W.cell? ⟨Bx, 0, none⟩ = some (.int .u8 (x.a.toNat : Int)) := by simp [World.cell?, hX]
    have q1 : W.cell? ⟨Bx, 1, none⟩ = some (.int .u8 (x.b.toNat : Int)) := by simp [World.cell?, hX]
    have q2 : W.cell? ⟨Bx, 2, none⟩ = some (.int .u8 (x.c.toNat : Int)) := by simp [World.cell?, hX]
    obtain ⟨c0, hc0⟩ : ∃ c, c = sg (x.a.toNat / 4) := ⟨_, rfl⟩
    obtain ⟨c1, hc1⟩ : ∃ c, c = sg (x.a.toNat % 4 * 16 + x.b.toNat / 16) := ⟨_, rfl⟩
    obtain ⟨c2, hc2⟩ : ∃ c, c = sg (x.b.toNat % 16 * 4 + x.c.toNat / 64) := ⟨_, rfl⟩
    obtain ⟨c3, hc3⟩ : ∃ c, c = sg (x.c.toNat % 64) := ⟨_, rfl⟩
    have HGR : Hid (grp ((x.a.toNat * 256 + x.b.toNat) * 256 + x.c.toNat) x.n = [c0, c1, if x.n < 2 then 61 else c2, if x.n < 3 then 61 else c3]) := Lib.hid (by
      have e1 := x.a.toNat_lt
      have e2 := x.b.toNat_lt
      have e3 := x.c.toNat_lt
      have e4 := x.h1
      have d0 : ((x.a.toNat * 256 + x.b.toNat) * 256 + x.c.toNat) / 262144 % 64 = x.a.toNat / 4 := by omega
      have d1 : ((x.a.toNat * 256 + x.b.toNat) * 256 + x.c.toNat) / 4096 % 64 = x.a.toNat % 4 * 16 + x.b.toNat / 16 := by omega
      have d2 : ((x.a.toNat * 256 + x.b.toNat) * 256 + x.c.toNat) / 64 % 64 = x.b.toNat % 16 * 4 + x.c.toNat / 64 := by omega
      have d3 : ((x.a.toNat * 256 + x.b.toNat) * 256 + x.c.toNat) % 64 = x.c.toNat % 64 := by omega
      unfold grp ch
      rw [if_neg (by omega), if_neg (by omega)]
      simp only [Nat.mul_zero, Nat.sub_zero, Nat.mul_one, Nat.reduceMul, Nat.reduceSub, Nat.reducePow, Nat.div_one, d0, d1, d2, d3, ← hc0, ← hc1, ← hc2, ← hc3])
    have HBG : Hid (∀ W, Calls Tryz.prog 235 #[.agg #[.int .u8 (x.a.toNat : Int), .int .u8 (x.b.toNat : Int), .int .u8 (x.c.toNat : Int)]] W fun e w' => e = .returned (.agg #[.int .u8 (c0.toNat : Int), .int .u8 (c1.toNat : Int), .int .u8 (c2.toNat : Int), .int .u8 (c3.toNat : Int)]) ∧ Below W.heap.size W w') := Lib.hid (fun W => by
      have h := base64Group_any x.a x.b x.c W
      unfold bv at h
      rw [hc0, hc1, hc2, hc3]; exact h)
    clear hc0 hc1 hc2 hc3
    have hn1 := x.h1
    have hn3 := x.h3
    have HPL : Hid ((outL pre).length + 4 ≤ 16777216) := Lib.hid (by rw [outL_len]; omega)
    gi_wp2_with (refine ⟨trivial, ?_⟩; gi_at_call 235; refine (CallsIn.inRound l (callsIn_wide.2 (HBG.out _))).mono ?_; rintro e w1 ⟨rfl, hb1⟩)
    have hgz : W.grownBy (w1.alloc (.cells #[.int .u8 (c0.toNat : Int), .int .u8 (c1.toNat : Int), .int .u8 (c2.toNat : Int), .int .u8 (c3.toNat : Int)] 252)) none :=
      ⟨hb1.os, hb1.tape, hb1.output, by have := hb1.size; simp; omega, fun k hk _ => (Below.heap_alloc _ _ _ (Nat.lt_of_lt_of_le hk hb1.size)).trans (hb1.block k hk)⟩
    have hW1 : W.heap.size ≤ w1.heap.size := hb1.size
    gi_loopw [7] (fun k wr => ∃ K : Nat, x.n + 1 ≤ K ∧ K ≤ 4 ∧ k = .int .i64 (K : Int) ∧ wr.heap[w1.heap.size]? = some (.cells (eqs x.n K c0 c1 c2 c3) 252 (0, 0)) ∧ W.grownBy wr none) (fun k _ => 4 - (intOf k).toNat)
    case atStart => exact ⟨x.n + 1, Nat.le_refl _, by omega, rfl, by rw [← eqs_start]; exact heap_alloc_new w1 _, hgz⟩
    case round =>
      obtain ⟨K, hK1, hK4, rfl, hE, hga⟩ := hrel
      by_cases hlt : K < 4
      · have k1 : (K : Int) < 4 := by omega
        have k0 : (0 : Int) ≤ (K : Int) := by omega
        have hsz4 : (eqs x.n K c0 c1 c2 c3).size = 4 := rfl
        obtain ⟨y, y1⟩ : ∃ y, wr.cell? ⟨w1.heap.size, K, none⟩ = some y := by
          rw [cell_of_row wr w1.heap.size K _ 252 (0, 0) hE]
          exact ⟨_, Array.getElem?_eq_getElem (by rw [hsz4]; exact hlt)⟩
        have y2 : wr.frozen? ⟨w1.heap.size, K, none⟩ = false := frozen_of_row wr w1.heap.size K _ 252 hE
        have HN : Hid ((wr.setCell ⟨w1.heap.size, K, none⟩ (.int .u8 61)).heap[w1.heap.size]? = some (.cells (eqs x.n (K + 1) c0 c1 c2 c3) 252 (0, 0))) := Lib.hid (by
          rw [← eqs_set x.n K c0 c1 c2 c3 hn1 hK1 hlt]
          exact heap_setCell_same wr w1.heap.size K _ 252 _ hE)
        have HG : Hid (W.grownBy (wr.setCell ⟨w1.heap.size, K, none⟩ (.int .u8 61)) none) := Lib.hid ⟨hga.os, hga.tape, hga.output, by have := hga.size; simpa using this, fun k hk _ => (heap_setCell_other wr ⟨w1.heap.size, K, none⟩ k _ (by intro e; simp at e; omega)).trans (hga.block k hk (by simp))⟩
        clear hE hga hsz4
        gi_wp2
        go_roundw
        case rel => exact ⟨K + 1, by omega, by omega, by go_num, HN.out, HG.out⟩
        case measure => simp [intOf]; omega
      · obtain rfl : K = 4 := by omega
        have hRr := hR.kept hga (by simp)
        have cRr := hRr.cell
        have hSr := hS.grown_none hga
        have HCS := Lib.hid (eqs_end x.n c0 c1 c2 c3)
        rw [← HGR.out] at HCS
        have hgd : W.grownBy wr.drew none := ⟨hga.os, hga.tape, hga.output, hga.size, fun k hk h => hga.block k hk h⟩
        have HSI : Hid (w.heap.size ≤ wr.drew.heap.size) := Lib.hid (Nat.le_trans hB.size hga.size)
        gi_wp2
        refine wpIn_region_any (by kernel_rfl) ?_
        change wpAnyIn _ _ _ _ _ _ _ _ _ (World.drew _)
        refine wpAnyIn_ready (rs := [0, 1]) (by kernel_rfl) (by simp) (AllReadyIn.cons rfl (fun K hK => ?_) (AllReadyIn.cons rfl (fun K hK => ?_) AllReadyIn.nil)) <;> go_simp <;> refine hK _ _ ?_ <;> clear hK K
        · refine wpAnyIn_ready (rs := [1]) (by kernel_rfl) (by simp) (AllReadyIn.cons rfl (fun K hK => ?_) AllReadyIn.nil)
          go_simp
          refine hK _ _ ?_
          clear hK K
          refine wpAnyIn_ready (rs := [2]) (by kernel_rfl) (by simp) (AllReadyIn.cons rfl (fun K hK => ?_) AllReadyIn.nil)
          refine step_append_bin rfl _ _ rfl w.heap.size v (outL pre) rfl hSr.drew (grp ((x.a.toNat * 256 + x.b.toNat) * 256 + x.c.toNat) x.n) w1.heap.size 4 4 (eqs x.n 4 c0 c1 c2 c3) 252 (0, 0) rfl rfl hE HCS.out (by simp [grp]) HPL.out HSI.out ?_
          intro g cap w3 hS3 hg3 hg4
          refine hK _ _ ?_
          clear hK K
          have HE := Lib.hid (b64_end w W wr.drew w3 v _ (outL pre) (grp ((x.a.toNat * 256 + x.b.toNat) * 256 + x.c.toNat) x.n) g cap rfl h4 hR hS hne hB hgd hg3 hS3 hg4)
          have c9 := HE.out.1.cell
          have f9 := HE.out.1.frozen
          clear hS3 hg3 hg4
          refine wpAnyIn_ready (rs := [3]) (by kernel_rfl) (by simp) (AllReadyIn.cons rfl (fun K hK => ?_) AllReadyIn.nil)
          go_simp
          refine hK _ _ ?_
          clear hK K
          refine wpAnyIn_done (by kernel_rfl) ?_ _
          have hZ := HE.out.2
          refine ⟨hZ.1.from _, hZ.2.1, ?_, hZ.2.2.2⟩
          rw [outL_snoc]
          exact hZ.2.2.1
        · refine wpAnyIn_ready (rs := [0]) (by kernel_rfl) (by simp) (AllReadyIn.cons rfl (fun K hK => ?_) AllReadyIn.nil)
          go_simp
          refine hK _ _ ?_
          clear hK K
          refine wpAnyIn_ready (rs := [2]) (by kernel_rfl) (by simp) (AllReadyIn.cons rfl (fun K hK => ?_) AllReadyIn.nil)
          refine step_append_bin rfl _ _ rfl w.heap.size v (outL pre) rfl hSr.drew (grp ((x.a.toNat * 256 + x.b.toNat) * 256 + x.c.toNat) x.n) w1.heap.size 4 4 (eqs x.n 4 c0 c1 c2 c3) 252 (0, 0) rfl rfl hE HCS.out (by simp [grp]) HPL.out HSI.out ?_
          intro g cap w3 hS3 hg3 hg4
          refine hK _ _ ?_
          clear hK K
          have HE := Lib.hid (b64_end w W wr.drew w3 v _ (outL pre) (grp ((x.a.toNat * 256 + x.b.toNat) * 256 + x.c.toNat) x.n) g cap rfl h4 hR hS hne hB hgd hg3 hS3 hg4)
          have c9 := HE.out.1.cell
          have f9 := HE.out.1.frozen
          clear hS3 hg3 hg4
          refine wpAnyIn_ready (rs := [3]) (by kernel_rfl) (by simp) (AllReadyIn.cons rfl (fun K hK => ?_) AllReadyIn.nil)
          go_simp
          refine hK _ _ ?_
          clear hK K
          refine wpAnyIn_done (by kernel_rfl) ?_ _
          have hZ := HE.out.2
          refine ⟨hZ.1.from _, hZ.2.1, ?_, hZ.2.2.2⟩
          rw [outL_snoc]
          exact hZ.2.2.1
  case done =>
    rintro D ys W hD hys ⟨⟨h4, v, hR, hS, hne⟩, hB⟩ hK
    rw [outL_all _ _ hys] at hS
    have cR := hR.cell
    have hcv := hS.conv
    clear hys
    gi_wp2
    refine ⟨by simp, .inl ⟨_, _, rfl, run_takeDeferred hK, ?_⟩⟩
    exact ⟨_, by simp [results, Tryz.f196, go_sem], rfl, hB.trans (belowK_b (w := w) (Nat.le_refl _) W D _ _ (by have := HSZ.out; omega) hK rfl rfl)⟩
  case stop =>
    rintro D c pre W hD hpre h hK
    exact h.elim

theorem implPutBase64_any (s : ByteArray) (w : World) (hs : s.size ≤ 1048576) :
    Calls Tryz.prog 196 #[.string s] w fun e W' => e = .returned (.string ⟨(b64L s.data.toList).toArray⟩) ∧ Below w.heap.size w W' :=
  (callsIn_wide (n := 4)).1 (putBase64_in 4 (by omega) s w hs)
end Go.Proofs.YtnodhkjgnegkcaaGreatDoor

/-
  strings.Join of any list of texts of the call's own.
-/
namespace Go.Proofs
open Go.Shelf
namespace YtnodhkjgnegkcaaGreatDoor
open Go.RowKit

theorem joinAll_any (w : World) (base : Nat) (v : Value) (ls : List (List UInt8)) (sep : List UInt8) (h : Strs w base v ls) (hl : ls.length ≤ 16777216) (hj : (Lib.join ls sep).length ≤ 140737488355328) :
    Calls Tryz.prog 84 #[v, .string ⟨sep.toArray⟩] w fun e w' => e = .returned (.string ⟨(Lib.join ls sep).toArray⟩) ∧ Below w.heap.size w w' := by
  by_cases hn : ls = []
  · subst hn
    obtain ⟨A, c, rfl⟩ : ∃ A c, v = .slice A 0 c := by
      rcases h.form with ⟨rfl, _⟩ | ⟨g, cap, rfl, _, _⟩
      · exact ⟨_, _, rfl⟩
      · exact ⟨_, _, rfl⟩
    exact (Any.strings_Join_none Tryz.laysJoin Tryz.extraJoin A c ⟨sep.toArray⟩ w).mono fun e w' h => ⟨h.1, by rw [h.2]; exact Below.refl _ _⟩
  · exact joinSep_any w base v ls ⟨sep.toArray⟩ h hn hl hj
end YtnodhkjgnegkcaaGreatDoor
end Go.Proofs

/-
  impl.PutIntegrity returns the integrity text of sums.
-/
namespace Go.Proofs.YtnodhkjgnegkcaaGreatDoor
open Go.RowKit

theorem cells2 {V : World} {B : Nat} {T : TypeId} {v0 v1 : Value} (h : V.heap[B]? = some (.cells #[v0, v1] T)) : V.cell? ⟨B, 0, none⟩ = some v0 ∧ V.cell? ⟨B, 1, none⟩ = some v1 := by
  simp [World.cell?, h]
/-- What impl's three tests say of an Alg. -/
theorem alg_impl (a : List UInt8) : (a = sha1L ∧ algOk a = true) ∨ (a = sha256L ∧ algOk a = true) ∨ (a = sha512L ∧ algOk a = true) ∨ (¬ a = sha1L ∧ ¬ a = sha256L ∧ ¬ a = sha512L ∧ algOk a = false) := by
  by_cases h1 : a = sha1L
  · subst h1; left; exact ⟨rfl, by decide⟩
  · by_cases h2 : a = sha256L
    · subst h2; right; left; exact ⟨rfl, by decide⟩
    · by_cases h3 : a = sha512L
      · subst h3; right; right; left; exact ⟨rfl, by decide⟩
      · right; right; right; exact ⟨h1, h2, h3, by unfold algOk; simp [h1, h2, h3]⟩
theorem wordsB_len (bs : List Bd) : (wordsB bs).length ≤ bs.length := by
  unfold wordsB; rw [List.length_map]; exact List.length_filter_le _ _

set_option maxRecDepth 100000 in
set_option maxHeartbeats 4000000 in
theorem implPutIntegrity_any (v : Value) (bs : List Bd) (w : World) (hr : RdB w v bs) (hs : SmB bs) :
    Calls Tryz.prog 152 #[v] w fun e w' => e = .returned (.string ⟨(intT bs).toArray⟩) ∧ Below w.heap.size w w' := by
  have HR := Lib.hid hr
  have HS := Lib.hid hs
  have hn : bs.length ≤ 1048576 := by unfold SmB at hs; omega
  obtain ⟨A, ca, rfl, _⟩ := hr
  go_enter Tryz.func152, Tryz.ntmps152
  go_wp2_with fail
  go_loopw [3, 5, 9] (fun u _ i wr => ∃ (k : Nat) (ws : List (List UInt8)), k ≤ bs.length ∧ i = .int .i64 k ∧ Strs wr w.heap.size u ws ∧ ws.length ≤ k ∧ Hid (wordsB (bs.take k) = ws) ∧ Below w.heap.size w wr) (fun _ _ i _ => bs.length - (intOf i).toNat)
  case atStart => exact ⟨0, [], Nat.zero_le _, rfl, Strs.empty w _ (Nat.le_refl _), by simp, Lib.hid rfl, (Below.refl _ _).alloc (Nat.le_refl _) _⟩
  case round =>
    obtain ⟨k, ws, hk, rfl, hO, hwl, HO, hb⟩ := hrel
    by_cases hlt : k < bs.length
    · obtain ⟨g, off, rfl, hg, d1, d2⟩ := (HR.out.below hb).at k hlt
      have hl2 : bs[k].1.length + bs[k].2.length ≤ 1048576 := by have := smB_mem bs[k] (List.getElem_mem hlt); have := HS.out; unfold SmB at this; omega
      have hways := alg_impl bs[k].1
      have HT1 := Lib.hid (fun (ha : algOk bs[k].1 = true) => wordsB_more hlt ha)
      have HT3 := Lib.hid (fun (ha : algOk bs[k].1 = false) => wordsB_skip hlt ha)
      have hbl := b64L_le bs[k].2
      obtain ⟨b, HB⟩ : ∃ b, Hid (bs[k] = b) := ⟨_, Lib.hid rfl⟩
      rw [HB.out] at d1 d2 hl2 hways HT1 HT3 hbl
      obtain ⟨al, by_⟩ := b
      simp only at d1 d2 hl2 hways HT1 HT3 hbl
      have k0 : (0 : Int) ≤ (k : Int) := by omega
      have k1 : (k : Int) < (bs.length : Int) := by omega
      have B1 : Below w.heap.size w (wr.alloc (.cells #[.string ⟨al.toArray⟩, .string ⟨by_.toArray⟩] 136)) := hb.alloc hb.size _
      have hO1 := hO.alloc (.cells #[.string ⟨al.toArray⟩, .string ⟨by_.toArray⟩] 136)
      have hbx := heap_alloc_new wr (.cells #[.string ⟨al.toArray⟩, .string ⟨by_.toArray⟩] 136)
      by_cases ha : algOk al = true
      · have HC := Lib.hid (fun W => implPutBase64_any ⟨by_.toArray⟩ W (by show by_.toArray.size ≤ _; simp; omega))
        obtain ⟨E, HE⟩ : ∃ E, Hid (b64L by_ = E) := ⟨_, Lib.hid rfl⟩
        have HC2 : Hid (∀ W, Calls Tryz.prog 196 #[.string ⟨by_.toArray⟩] W fun e w' => e = .returned (.string ⟨E.toArray⟩) ∧ Below W.heap.size W w') := Lib.hid (by have := HC.out; simp only [HE.out] at this; exact this)
        rw [HE.out] at hbl
        obtain ⟨N1, HN1⟩ : ∃ N, Hid (N = al ++ [45]) := ⟨_, Lib.hid rfl⟩
        obtain ⟨N2, HN2⟩ : ∃ N, Hid (N = N1 ++ E) := ⟨_, Lib.hid rfl⟩
        have l1 : N1.length ≤ 1048577 := by rw [HN1.out]; simp; omega
        have HN : Hid (wordsB (bs.take (k + 1)) = ws ++ [N2]) := Lib.hid (by rw [HT1.out ha, HO.out, HN2.out, HN1.out]; show ws ++ [al ++ 45 :: b64L by_] = _; rw [HE.out]; simp)
        have hal : al = sha1L ∨ al = sha256L ∨ al = sha512L := by
          rcases hways with ⟨h, _⟩ | ⟨h, _⟩ | ⟨h, _⟩ | ⟨_, _, _, h⟩
          · exact .inl h
          · exact .inr (.inl h)
          · exact .inr (.inr h)
          · rw [ha] at h; cases h
        have HOW := Lib.hid hO.owned
        have hws : w.heap.size ≤ wr.heap.size := hb.size
        clear ha hways HT1 HT3 HC hO hb
        rcases hal with rfl | rfl | rfl
        all_goals
          have s1 : ∀ W, (Op.stringOp .add ⟨_⟩ ⟨#[45]⟩).run Tryz.prog W = .ok (.string ⟨N1.toArray⟩) W := fun W => by rw [HN1.out]; exact add_lists W _ [45] (by omega) (by simp)
          have s2 : ∀ W, (Op.stringOp .add ⟨N1.toArray⟩ ⟨E.toArray⟩).run Tryz.prog W = .ok (.string ⟨N2.toArray⟩) W := fun W => by rw [HN2.out]; exact add_lists W N1 E (by omega) (by omega)
          first | unfold sha1L at d1 B1 hO1 hbx s1 | unfold sha256L at d1 B1 hO1 hbx s1 | unfold sha512L at d1 B1 hO1 hbx s1
          obtain ⟨x0, x1⟩ := cells2 hbx
          go_wp2_with fail
          go_region_law ((first
            | (go_simp; go_at_call 196; (with_reducible refine (HC2.out _).mono ?_); rintro e w3 ⟨rfl, hb3⟩; have y0 := keepC (W := World.drew _) hb3 x0; have S3 := hO1.drew.below hb3; have z3 : w.heap.size ≤ w3.heap.size := Nat.le_trans B1.size hb3.size)
            | (refine step_append_one (by rfl) _ _ (by rfl) w.heap.size _ _ (by rfl) (S3.alloc _) N2 w3.heap.size 1 _ _ (by rfl) (heap_alloc_new w3 _) (by omega) (by simp; omega) ?_; intro g4 c4 w5 hS5 hg5 hl5)))
          all_goals
            have B3 := (B1.trans (below_drew _ _)).trans (hb3.mono B1.size)
            have B5 := (B3.alloc B3.size _).grown hg5 (by simp; omega) (fun j hj => HOW.out j hj)
            go_wp2_with fail
            go_roundw
            case rel => exact ⟨k + 1, _, by omega, by go_num, hS5, by simp; omega, HN, B5⟩
            case measure => simp [intOf]; omega
      · have ha' : algOk al = false := by simpa using ha
        have HN : Hid (wordsB (bs.take (k + 1)) = ws) := Lib.hid (by rw [HT3.out ha', HO.out])
        obtain ⟨h1, h2, h3⟩ : ¬ al = sha1L ∧ ¬ al = sha256L ∧ ¬ al = sha512L := by
          rcases hways with ⟨_, h⟩ | ⟨_, h⟩ | ⟨_, h⟩ | ⟨h1, h2, h3, _⟩
          · rw [ha'] at h; cases h
          · rw [ha'] at h; cases h
          · rw [ha'] at h; cases h
          · exact ⟨h1, h2, h3⟩
        have q1 : (al == [115, 104, 97, 49]) = false := by simpa [sha1L] using h1
        have q2 : (al == [115, 104, 97, 50, 53, 54]) = false := by simpa [sha256L] using h2
        have q4 : (al == [115, 104, 97, 53, 49, 50]) = false := by simpa [sha512L] using h3
        clear ha ha' hways HT1 HT3 h1 h2 h3
        go_wp2_with fail
        go_roundw
        case rel => exact ⟨k + 1, ws, by omega, by go_num, hO1, by omega, HN, B1⟩
        case measure => simp [intOf]; omega
    · have HE : Hid (intT bs = Lib.join ws [32]) := Lib.hid (by unfold intT; rw [← HO.out, List.take_of_length_le (by omega)])
      have hjl := intT_len bs
      rw [HE.out] at hjl
      have HJ := Lib.hid (joinAll_any wr w.heap.size _ ws [32] hO (by omega) (by have := HS.out; unfold SmB at this; omega))
      obtain ⟨J, HJJ⟩ : ∃ J, Hid (Lib.join ws [32] = J) := ⟨_, Lib.hid rfl⟩
      rw [HJJ.out] at HJ HE
      clear hjl
      go_wp2_with fail
      refine HJ.out.mono ?_
      rintro e w1 ⟨rfl, hb1⟩
      go_wp2_with fail
      go_ret
      exact ⟨ret_str HE.out.symm, hb.trans (hb1.mono hb.size)⟩
end Go.Proofs.YtnodhkjgnegkcaaGreatDoor

/-
  impl.wordsOf, impl.lineOf, impl.GraphText: the text of a graph.
-/
namespace Go.Proofs.YtnodhkjgnegkcaaGreatDoor
open Go.RowKit

theorem strs_first (W : World) (base : Nat) (x : List UInt8) (hb : base ≤ W.heap.size) : Strs (W.alloc (.cells #[sv x] 9)) base (.slice (some ⟨W.heap.size, 0, none⟩) 1 1) [x] := by
  have h := World.ownsRow_lit (base := base) (e := 9) (size := 1) W #[sv x] 1 hb (by unfold maxLen; omega) (by simp)
  simpa [Strs] using h
theorem pw_words (p : Pk) (hp : SmPk p) : (pw1 p).length ≤ 2 ∧ (pw2 p).length ≤ 2 + p.sums.length ∧ (pw3 p).length ≤ 3 + p.sums.length ∧ (pw4 p).length ≤ 4 + p.sums.length ∧ p.sums.length ≤ 1048576 ∧ p.needs.length ≤ 1048576 := by
  have h1 : (pw1 p).length ≤ 2 := by unfold pw1; split <;> simp
  have h2 : (pw2 p).length = (pw1 p).length + p.sums.length := by unfold pw2; simp
  have h3 : (pw3 p).length ≤ (pw2 p).length + 1 := by unfold pw3; split <;> simp
  have h4 : (pw4 p).length ≤ (pw3 p).length + 1 := by unfold pw4; split <;> simp
  have h5 := hp.sums
  have h6 := hp.needs
  unfold SmB at h5
  omega
theorem Strs.low {w : World} {base base' : Nat} {v : Value} {l : List (List UInt8)} (h : Strs w base v l) (hb : base' ≤ base) : Strs w base' v l := by
  refine ⟨h.1, ?_⟩
  rcases h.2 with h | ⟨g, cap, cur, hv, hg, hh, hr⟩
  · exact .inl h
  · exact .inr ⟨g, cap, cur, hv, Nat.le_trans hb hg, hh, hr⟩

set_option maxRecDepth 100000 in
set_option maxHeartbeats 4000000 in
theorem wordsOf_any (p : Pk) (a b : Value) (w : World) (ha : RdB w a p.sums) (hb : RdS w b p.needs) (hp : SmPk p) (h4 : ∀ k (h : k < p.sums.length), 4 ≤ p.sums[k].2.length) :
    Calls Tryz.prog 57 #[.agg #[.string ⟨p.name.toArray⟩, .string ⟨p.ver.toArray⟩, .string ⟨p.src.toArray⟩, a, .bool p.dev, b]] w fun e w' => ∃ v, e = .returned v ∧ Strs w' w.heap.size v (pw p) ∧ Below w.heap.size w w' := by
  have HK := Lib.hid (fun (W : World) (h : Below w.heap.size w W) => implKeyOf_any p a b W (ha.below h) (hb.below h) hp)
  have HA := Lib.hid ha
  have HB := Lib.hid hb
  have HP := Lib.hid hp
  have H4 := Lib.hid h4
  obtain ⟨u1, u2, u3, u4, hsl, hnl⟩ := pw_words p hp
  obtain ⟨A, ca, rfl⟩ := ha.slice
  obtain ⟨B, cb, rfl⟩ := hb.slice
  clear ha hb hp h4
  obtain ⟨K, HKK⟩ : ∃ K, Hid (keyOf p = K) := ⟨_, Lib.hid rfl⟩
  simp only [HKK.out] at HK
  obtain ⟨dv, HD⟩ : ∃ dv, Hid (p.dev = dv) := ⟨_, Lib.hid rfl⟩
  simp only [HD.out] at HK ⊢
  obtain ⟨L1, HL1⟩ : ∃ L, Hid (pw1 p = L) := ⟨_, Lib.hid rfl⟩
  obtain ⟨L3, HL3⟩ : ∃ L, Hid (pw3 p = L) := ⟨_, Lib.hid rfl⟩
  obtain ⟨L4, HL4⟩ : ∃ L, Hid (pw4 p = L) := ⟨_, Lib.hid rfl⟩
  rw [HL1.out] at u1
  rw [HL3.out] at u3
  rw [HL4.out] at u4
  obtain ⟨R, HRR⟩ : ∃ R, Hid (pw p = R) := ⟨_, Lib.hid rfl⟩
  rw [HRR.out]
  have HR4 : Hid (L4 ++ p.needs = R) := Lib.hid (by rw [← HL4.out, ← HRR.out]; rfl)
  have B0 : Below w.heap.size w (w.alloc (.cells #[.string ⟨p.name.toArray⟩, .string ⟨p.ver.toArray⟩, .string ⟨p.src.toArray⟩, .slice A p.sums.length ca, .bool dv, .slice B p.needs.length cb] 78)) := (Below.refl _ _).alloc (Nat.le_refl _) _
  have b0 := heap_alloc_new w (.cells #[.string ⟨p.name.toArray⟩, .string ⟨p.ver.toArray⟩, .string ⟨p.src.toArray⟩, .slice A p.sums.length ca, .bool dv, .slice B p.needs.length cb] 78)
  obtain ⟨x0, x1, x2, x3, x4, x5⟩ := cells6 b0
  go_enter Tryz.func57, Tryz.ntmps57
  go_wp2_with fail
  refine (HK.out _ B0).mono ?_
  rintro e w1 ⟨rfl, hb1⟩
  have b1' := keepB b0 hb1
  have hz1 := lt_of_heap b1'
  have B1 := (B0.trans (hb1.mono B0.size)).alloc (B0.trans (hb1.mono B0.size)).size (.cells #[sv K] 9)
  have b1 := keepA b1' (.cells #[sv K] 9)
  have S1 := strs_first w1 (w.heap.size + 1) K (by omega)
  obtain ⟨y0, y1, y2, y3, y4, y5⟩ := cells6 b1
  clear x0 x1 x2 x3 x4 x5 B0 b0 hb1 HK b1'
  unfold sv at B1 b1 S1 y0 y1 y2 y3 y4 y5
  go_upto_if 10 with fail
  go_cut [3] (fun u wx => Strs wx (w.heap.size + 1) u L1 ∧ Below w.heap.size w wx ∧ wx.heap[w.heap.size]? = some (.cells #[.string ⟨p.name.toArray⟩, .string ⟨p.ver.toArray⟩, .string ⟨p.src.toArray⟩, .slice A p.sums.length ca, .bool dv, .slice B p.needs.length cb] 78))
  case first =>
    cases dv
    · have HE : Hid ([K] = L1) := Lib.hid (by rw [← HL1.out, ← HKK.out]; unfold pw1; rw [HD.out]; simp)
      go_wp2_with fail
      go_meet
      exact ⟨by rw [← HE.out]; exact S1, B1, b1⟩
    · have HE : Hid ([K] ++ [devW] = L1) := Lib.hid (by rw [← HL1.out, ← HKK.out]; unfold pw1; rw [HD.out]; simp)
      go_wp2_with (at_builtin; refine wpList_append_strs rfl _ _ rfl (w.heap.size + 1) _ _ rfl (S1.alloc _) devW (w1.heap.size + 1) 1 _ _ rfl (heap_new (by simp) _) (by simp) (by simp; omega) ?_; intro g4 c4 w4 S4 hb4)
      go_meet
      exact ⟨by rw [← HE.out]; exact S4, (B1.alloc B1.size _).trans (hb4.mono (by omega)), (hb4.block _ (by omega)).trans (keepA b1 _)⟩
  case rest =>
  obtain ⟨S2, B2, b2⟩ := hcut
  obtain ⟨z0, z1, z2, z3, z4, z5⟩ := cells6 b2
  clear S1 B1 b1 y0 y1 y2 y3 y4 y5 hz1
  go_wp2_with fail
  go_loopw [3, 5, 17] (fun u _ i wr => ∃ (k : Nat) (ws : List (List UInt8)), k ≤ p.sums.length ∧ i = .int .i64 k ∧ Strs wr (w.heap.size + 1) u ws ∧ ws.length ≤ 2 + k ∧ Hid (L1 ++ (p.sums.take k).map sumW = ws) ∧ Below w.heap.size w wr ∧ wr.heap[w.heap.size]? = some (.cells #[.string ⟨p.name.toArray⟩, .string ⟨p.ver.toArray⟩, .string ⟨p.src.toArray⟩, .slice A p.sums.length ca, .bool dv, .slice B p.needs.length cb] 78)) (fun _ _ i _ => p.sums.length - (intOf i).toNat)
  case atStart => exact ⟨0, L1, Nat.zero_le _, rfl, S2, by omega, Lib.hid (by simp), B2, b2⟩
  case round =>
    obtain ⟨k, ws, hk, rfl, hO, hwl, HO, hb, bx⟩ := hrel
    clear S2 B2 b2 z0 z1 z2 z3 z4 z5
    by_cases hlt : k < p.sums.length
    · obtain ⟨g, off, rfl, hg, d1, d2⟩ := (HA.out.below hb).at k hlt
      have hl2 : p.sums[k].1.length + p.sums[k].2.length ≤ 1048576 := by have := smB_mem p.sums[k] (List.getElem_mem hlt); have := HP.out.sums; unfold SmB at this; omega
      have h4k := H4.out k hlt
      have HMO : Hid (L1 ++ (p.sums.take (k + 1)).map sumW = ws ++ [sumW p.sums[k]]) := Lib.hid (by rw [← HO.out, List.take_succ_eq_append_getElem hlt, List.map_append, ← List.append_assoc]; rfl)
      have HSW : Hid (sumW p.sums[k] = p.sums[k].1 ++ [58] ++ hexL (p.sums[k].2.take 4)) := Lib.hid (by unfold sumW; simp)
      obtain ⟨al, HAL⟩ : ∃ x, Hid (p.sums[k].1 = x) := ⟨_, Lib.hid rfl⟩
      obtain ⟨by_, HBY⟩ : ∃ x, Hid (p.sums[k].2 = x) := ⟨_, Lib.hid rfl⟩
      rw [HAL.out] at d1 hl2 HSW
      rw [HBY.out] at d2 hl2 HSW h4k
      obtain ⟨Z, HZ⟩ : ∃ Z, Hid (by_.take 4 = Z) := ⟨_, Lib.hid rfl⟩
      have sZ : (⟨Z.toArray⟩ : ByteArray).size ≤ 1048576 := by rw [size_of, ← HZ.out, List.length_take]; omega
      have HC := Lib.hid (fun W => implPutHex_any ⟨Z.toArray⟩ W sZ)
      obtain ⟨E, HE⟩ : ∃ E, Hid (hexL Z = E) := ⟨_, Lib.hid rfl⟩
      have HC2 : Hid (∀ W, Calls Tryz.prog 110 #[.string ⟨Z.toArray⟩] W fun e w' => e = .returned (.string ⟨E.toArray⟩) ∧ Below W.heap.size W w') := Lib.hid (by have := HC.out; simp only [HE.out] at this; exact this)
      have hEl : E.length ≤ 8 := by rw [← HE.out, ← HZ.out]; exact hex4_len _
      have hs4 : ∀ W, (Instr.slice 9 (.string ⟨by_.toArray⟩) none (some (.int .i64 4)) none).run Tryz.prog W = .ok (.string ⟨Z.toArray⟩) W := slice_upto ⟨by_.toArray⟩ ⟨Z.toArray⟩ 4 4 rfl (by rw [size_of]; exact h4k) (bytes_ext (by rw [← HZ.out]; simp))
      obtain ⟨N1, HN1⟩ : ∃ N, Hid (N = al ++ [58]) := ⟨_, Lib.hid rfl⟩
      obtain ⟨N2, HN2⟩ : ∃ N, Hid (N = N1 ++ E) := ⟨_, Lib.hid rfl⟩
      have l1 : N1.length ≤ 1048577 := by rw [HN1.out]; simp; omega
      have HN : Hid (L1 ++ (p.sums.take (k + 1)).map sumW = ws ++ [N2]) := Lib.hid (by rw [HMO.out, HSW.out, HN2.out, HN1.out, ← HE.out, ← HZ.out])
      have s1 : ∀ W, (Op.stringOp .add ⟨al.toArray⟩ ⟨#[58]⟩).run Tryz.prog W = .ok (.string ⟨N1.toArray⟩) W := fun W => by rw [HN1.out]; exact add_lists W al [58] (by omega) (by simp)
      have s2 : ∀ W, (Op.stringOp .add ⟨N1.toArray⟩ ⟨E.toArray⟩).run Tryz.prog W = .ok (.string ⟨N2.toArray⟩) W := fun W => by rw [HN2.out]; exact add_lists W N1 E (by omega) (by omega)
      have k0 : (0 : Int) ≤ (k : Int) := by omega
      have k1 : (k : Int) < (p.sums.length : Int) := by omega
      have hws : w.heap.size + 1 ≤ wr.heap.size := lt_of_heap bx
      have B1 : Below w.heap.size w (wr.alloc (.cells #[.string ⟨al.toArray⟩, .string ⟨by_.toArray⟩] 136)) := hb.alloc hb.size _
      have hO1 := hO.alloc (.cells #[.string ⟨al.toArray⟩, .string ⟨by_.toArray⟩] 136)
      have hbx := heap_alloc_new wr (.cells #[.string ⟨al.toArray⟩, .string ⟨by_.toArray⟩] 136)
      have bx1 := keepA bx (.cells #[.string ⟨al.toArray⟩, .string ⟨by_.toArray⟩] 136)
      obtain ⟨x0, x1⟩ := cells2 hbx
      have HOW := Lib.hid hO.owned
      have HBX1 := Lib.hid bx1
      clear HC h4k hl2 sZ hO hb bx bx1
      go_wp2_with fail
      go_region_law ((first
        | (go_simp; go_at_call 110; (with_reducible refine (HC2.out _).mono ?_); rintro e w3 ⟨rfl, hb3⟩; have y0 := keepC (W := World.drew _) hb3 x0; have S3 := hO1.drew.below hb3; have z3 : w.heap.size + 1 ≤ w3.heap.size := Nat.le_trans (Nat.le_succ_of_le hws) (by have := hb3.size; simpa using this))
        | (refine step_append_one (by rfl) _ _ (by rfl) (w.heap.size + 1) _ _ (by rfl) (S3.alloc _) N2 w3.heap.size 1 _ _ (by rfl) (heap_alloc_new w3 _) (by omega) (by simp; omega) ?_; intro g4 c4 w5 hS5 hg5 hl5)))
      all_goals
        have B3 := (B1.trans (below_drew _ _)).trans (hb3.mono B1.size)
        have B5 := (B3.alloc B3.size _).grown hg5 (by simp; omega) (fun j hj => by have := HOW.out j hj; omega)
        have b3 := keepB (W := World.drew _) HBX1.out hb3
        have b5 := gr_heap hg5 (keepA b3 _) (fun e => by have := HOW.out _ e.symm; omega)
        go_wp2_with fail
        go_roundw
        case rel => exact ⟨k + 1, _, by omega, by go_num, hS5, by simp; omega, HN, B5, b5⟩
        case measure => simp [intOf]; omega
    · have HW2 : Hid (pw2 p = ws) := Lib.hid (by rw [← HO.out, show k = p.sums.length by omega, List.take_length, ← HL1.out]; rfl)
      have k2 : ¬ (k : Int) < (p.sums.length : Int) := by omega
      have hws : w.heap.size + 1 ≤ wr.heap.size := lt_of_heap bx
      obtain ⟨z0, z1, z2, z3, z4, z5⟩ := cells6 bx
      have hwl2 : ws.length ≤ 1048578 := by omega
      clear HO hlt hwl
      go_upto_if 35 with fail
      go_cut [3] (fun u wx => Strs wx (w.heap.size + 1) u L3 ∧ Below w.heap.size w wx ∧ wx.heap[w.heap.size]? = some (.cells #[.string ⟨p.name.toArray⟩, .string ⟨p.ver.toArray⟩, .string ⟨p.src.toArray⟩, .slice A p.sums.length ca, .bool dv, .slice B p.needs.length cb] 78))
      case first =>
        by_cases hsrc : p.src = []
        · have HE : Hid (ws = L3) := Lib.hid (by rw [← HW2.out, ← HL3.out]; unfold pw3; rw [if_pos hsrc]; simp)
          have q1 : (⟨p.src.toArray⟩ : ByteArray).toList.isEmpty = true := by rw [ByteArray.toList_eq, hsrc]; rfl
          have q2 : (!p.src.isEmpty) = false := by rw [hsrc]; rfl
          clear hsrc
          go_wp2_with (at_builtin; refine wpList_append_strs rfl _ _ rfl (w.heap.size + 1) _ _ rfl (hO.alloc _) p.src wr.heap.size 1 _ _ rfl (heap_alloc_new wr _) (by omega) (by simp; omega) ?_; intro g4 c4 w4 S4 hb4)
          all_goals
            rename_i hx
            first
            | (exfalso; rw [q2] at hx; cases hx; done)
            | (go_meet; exact ⟨by rw [← HE.out]; exact hO, hb, bx⟩)
        · have HE : Hid (ws ++ [p.src] = L3) := Lib.hid (by rw [← HW2.out, ← HL3.out]; unfold pw3; rw [if_neg hsrc])
          have q2 : (!p.src.isEmpty) = true := by simpa using hsrc
          clear hsrc
          go_wp2_with (at_builtin; refine wpList_append_strs rfl _ _ rfl (w.heap.size + 1) _ _ rfl (hO.alloc _) p.src wr.heap.size 1 _ _ rfl (heap_alloc_new wr _) (by omega) (by simp; omega) ?_; intro g4 c4 w4 S4 hb4)
          all_goals
            rename_i hx
            first
            | (exfalso; rw [q2] at hx; cases hx; done)
            | (go_meet; exact ⟨by rw [← HE.out]; exact S4, (hb.alloc hb.size _).trans (hb4.mono (by omega)), (hb4.block _ (by omega)).trans (keepA bx _)⟩)
      case rest =>
      obtain ⟨S5, B5, b5⟩ := hcut
      have hws5 : w.heap.size + 1 ≤ wc.heap.size := lt_of_heap b5
      obtain ⟨y0, y1, y2, y3, y4, y5⟩ := cells6 b5
      clear hO hb bx z0 z1 z2 z3 z4 z5 hws
      go_upto_if 44 with fail
      go_cut [3] (fun u wx => Strs wx (w.heap.size + 1) u L4 ∧ Below w.heap.size w wx ∧ wx.heap[w.heap.size]? = some (.cells #[.string ⟨p.name.toArray⟩, .string ⟨p.ver.toArray⟩, .string ⟨p.src.toArray⟩, .slice A p.sums.length ca, .bool dv, .slice B p.needs.length cb] 78))
      case first =>
        by_cases hnd : p.needs = []
        · have HE : Hid (L3 = L4) := Lib.hid (by rw [← HL3.out, ← HL4.out]; unfold pw4; rw [if_pos hnd]; simp)
          have q2 : ¬ (0 : Int) < (p.needs.length : Int) := by rw [hnd]; simp
          have q3 : decide (0 < p.needs.length) = false := by rw [hnd]; rfl
          clear hnd
          go_wp2_with fail
          go_meet
          exact ⟨by rw [← HE.out]; exact S5, B5, b5⟩
        · have HE : Hid (L3 ++ [arrW] = L4) := Lib.hid (by rw [← HL3.out, ← HL4.out]; unfold pw4; rw [if_neg hnd])
          have hp0 := List.length_pos_iff.2 hnd
          have q2 : (0 : Int) < (p.needs.length : Int) := by omega
          have q3 : decide (0 < p.needs.length) = true := decide_eq_true hp0
          clear hnd hp0
          go_wp2_with (at_builtin; refine wpList_append_strs rfl _ _ rfl (w.heap.size + 1) _ _ rfl (S5.alloc _) arrW wc.heap.size 1 _ _ rfl (heap_alloc_new wc _) (by omega) (by simp; omega) ?_; intro g4 c4 w4 S4 hb4)
          go_meet
          exact ⟨by rw [← HE.out]; exact S4, (B5.alloc B5.size _).trans (hb4.mono (by omega)), (hb4.block _ (by omega)).trans (keepA b5 _)⟩
      case rest =>
      rename_i wd _ _
      obtain ⟨S6, B6, b6⟩ := hcut
      have hws6 : w.heap.size + 1 ≤ _ := lt_of_heap b6
      have HN6 := Lib.hid (HB.out.below B6)
      obtain ⟨y0, y1, y2, y3, y4, y5⟩ := cells6 b6
      clear S5 B5 b5 hws5
      go_wp2_with (at_builtin; refine wpList_append_texts rfl _ _ rfl (w.heap.size + 1) _ _ rfl S6 _ _ rfl HN6.out (by omega) hws6 ?_; intro v7 w7 S7 hg7)
      go_ret
      exact ⟨_, rfl, by rw [← HR4.out]; exact S7.low (by omega), B6.grown hg7 B6.size (fun j hj => by have := S6.owned j hj; omega)⟩

theorem join_jn (ls : List (List UInt8)) : Lib.join ls [32] = jn ls := by
  cases ls with
  | nil => simp [Lib.join, jn, List.intercalate]
  | cons x xs => rw [join_flat]; rfl
set_option maxRecDepth 100000 in
set_option maxHeartbeats 1000000 in
theorem lineOf_any (v : Value) (ls : List (List UInt8)) (base : Nat) (w : World) (h : Strs w base v ls) (hn : ls ≠ []) (hl : ls.length ≤ 16777216) (hj : (jn ls).length ≤ 16777216) :
    Calls Tryz.prog 55 #[v] w fun e w' => e = .returned (.string ⟨(lnT ls).toArray⟩) ∧ Below w.heap.size w w' := by
  have HJ := Lib.hid (joinSep_any w base v ls ⟨#[32]⟩ h hn hl (by show (Lib.join ls [32]).length ≤ _; rw [join_jn]; omega))
  obtain ⟨J, HJJ⟩ : ∃ J : ByteArray, Hid (⟨(Lib.join ls (⟨#[32]⟩ : ByteArray).data.toList).toArray⟩ = J) := ⟨_, Lib.hid rfl⟩
  have HJL : Hid (J.data.toList = jn ls) := Lib.hid (by rw [← HJJ.out]; show Lib.join ls [32] = _; exact join_jn ls)
  have sJ : J.size ≤ 16777216 := by have e : J.size = (jn ls).length := by rw [← HJL.out]; rfl
                                    rw [e]; exact hj
  simp only [HJJ.out] at HJ
  have HE : Hid (Value.string (J ++ ⟨#[10]⟩) = .string ⟨(lnT ls).toArray⟩) := Lib.hid (str_is (by unfold lnT; simp [HJL.out]))
  obtain ⟨A, c, rfl⟩ : ∃ A c, v = .slice A ls.length c := (RdS.of_strs h).slice
  clear h hn hl hj
  go_enter Tryz.func55, Tryz.ntmps55
  go_wp2_with fail
  refine HJ.out.mono ?_
  rintro e w1 ⟨rfl, hb1⟩
  go_wp2_with fail
  go_ret
  exact ⟨congrArg Ending.returned HE.out, hb1⟩

set_option maxRecDepth 100000 in
set_option maxHeartbeats 4000000 in
theorem implGraphText_any (vt vp : Value) (ts : List (List UInt8)) (ps : List Pk) (w : World) (ht : RdS w vt ts) (hp : RdPs w vp ps) (hs : SmG ts ps) (htab : Tab w) :
    Calls Tryz.prog 19 #[.agg #[vt, vp]] w fun e w' => e = .returned (.string ⟨(gtA ts ps).toArray⟩) ∧ Below w.heap.size w w' := by
  have HSP := Lib.hid hs.2
  have HS := Lib.hid hs
  have htl : ts.length ≤ 1048576 := by have := hs.1; omega
  have hn : ps.length ≤ 1048576 := by have := hs.2; unfold SmPs at this; omega
  have HR := Lib.hid hp
  have HT := Lib.hid ht
  have HG := Lib.hid (fun (W : World) (h : Below w.heap.size w W) => implGraphOk_any vt vp ts ps W (ht.below h) (hp.below h) hs (tab_below htab h))
  obtain ⟨T, tc, rfl⟩ := ht.slice
  obtain ⟨A, ca, rfl, _⟩ := hp
  obtain ⟨R, HRR⟩ : ∃ R : ByteArray, Hid (R.data.toList = gtA ts ps) := ⟨⟨(gtA ts ps).toArray⟩, Lib.hid rfl⟩
  rw [← str_is HRR.out]
  have B0 : Below w.heap.size w (w.alloc (.cells #[.slice T ts.length tc, .slice A ps.length ca] 37)) := (Below.refl _ _).alloc (Nat.le_refl _) _
  have b0 := heap_alloc_new w (.cells #[.slice T ts.length tc, .slice A ps.length ca] 37)
  obtain ⟨x0, x1⟩ := cellsG b0
  clear ht hs htab
  cases hgr : grOk ts ps with
  | false =>
    have HF : Hid (R = ⟨#[]⟩) := Lib.hid (bytes_ext (by rw [HRR.out]; unfold gtA; rw [hgr]; rfl))
    rw [hgr] at HG
    clear hgr
    go_enter Tryz.func19, Tryz.ntmps19
    go_wp2_with fail
    refine (HG.out _ B0).mono ?_
    rintro e w1 ⟨rfl, hb1⟩
    go_wp2_with fail
    go_ret
    exact ⟨by rw [HF.out]; rfl, B0.trans (hb1.mono B0.size)⟩
  | true =>
    have HF : Hid (R.data.toList = gtT ts ps) := Lib.hid (by rw [HRR.out]; unfold gtA; rw [hgr]; rfl)
    have H4 := Lib.hid (fun (k : Nat) (hk : k < ps.length) => sums_four (pkOk_sums (grOk_pack hgr k hk)))
    rw [hgr] at HG
    clear hgr
    have HLT := Lib.hid (fun (v : Value) (base : Nat) (W : World) (h : Strs W base v (topW :: ts)) => lineOf_any v (topW :: ts) base W h (by simp) (by simp; omega) (by have := top_le HS.out.1 ts.length; rw [List.take_length] at this; exact this))
    obtain ⟨O0, HO0⟩ : ∃ O : ByteArray, Hid (O.data.toList = lnT (topW :: ts)) := ⟨⟨(lnT (topW :: ts)).toArray⟩, Lib.hid rfl⟩
    have sO0 : O0.size ≤ 33554432 := by
      have e : O0.size = (lnT (topW :: ts)).length := by rw [← HO0.out]; rfl
      have := top_le HS.out.1 ts.length
      rw [List.take_length] at this
      rw [e]; unfold lnT; simp; omega
    simp only [← str_is HO0.out] at HLT
    have HCC := Lib.hid (fun (q : Nat) (v1 v2 : Value) (W : World) (e0 : W.cell? ⟨q, 0, none⟩ = some v1) (e1 : W.cell? ⟨q, 1, none⟩ = some v2) (h1 : RdS W v1 [topW]) (h2 : RdS W v2 ts) => concat2_any q v1 v2 [topW] ts W e0 e1 h1 h2 (by simp) htl (by simp; omega))
    have HNT := Lib.hid htl
    go_enter Tryz.func19, Tryz.ntmps19
    go_wp2_with fail
    refine (HG.out _ B0).mono ?_
    rintro e w1 ⟨rfl, hb1⟩
    have B1 := B0.trans (hb1.mono B0.size)
    have b1 := keepB b0 hb1
    obtain ⟨y0, y1⟩ := cellsG b1
    clear hb1 B0 b0 x0 x1 HG
    have B2 : Below w1.heap.size w1 ((w1.alloc (.cells #[.string ⟨#[116, 111, 112]⟩] 9)).alloc (.cells #[.slice (some ⟨w1.heap.size, 0, none⟩) 1 1, .slice T ts.length tc] 29)) := ((Below.refl _ _).alloc (Nat.le_refl _) _).alloc (by simp) _
    have S1 : Strs (w1.alloc (.cells #[.string ⟨#[116, 111, 112]⟩] 9)) w1.heap.size (.slice (some ⟨w1.heap.size, 0, none⟩) 1 1) [topW] := strs_first w1 w1.heap.size topW (Nat.le_refl _)
    have HS2 := Lib.hid (RdS.of_strs (S1.alloc (.cells #[.slice (some ⟨w1.heap.size, 0, none⟩) 1 1, .slice T ts.length tc] 29)))
    have HT2 := Lib.hid (HT.out.below (B1.trans (B2.mono B1.size)))
    have c2 := heap_new (W := w1.alloc (.cells #[.string ⟨#[116, 111, 112]⟩] 9)) (n := w1.heap.size + 1) (by simp) (.cells #[.slice (some ⟨w1.heap.size, 0, none⟩) 1 1, .slice T ts.length tc] 29)
    obtain ⟨e0, e1⟩ := cellsG c2
    have b2 := keepB b1 B2
    obtain ⟨ya0, ya1⟩ := cellsG (keepA b1 (.cells #[.string ⟨#[116, 111, 112]⟩] 9))
    clear S1
    go_wp2_with fail
    refine (HCC.out _ _ _ _ e0 e1 HS2.out HT2.out).mono ?_
    rintro e w3 ⟨v3, rfl, S3, hb3⟩
    have B3 := B1.trans ((B2.trans (hb3.mono B2.size)).mono B1.size)
    have b3 := keepB b2 hb3
    have HS3 := Lib.hid S3
    obtain ⟨A3, c3, rfl⟩ := (RdS.of_strs S3).slice
    clear e0 e1 c2 hb3 B2 b2 B1 b1 y0 y1 ya0 ya1 S3
    go_wp2_with fail
    refine (HLT.out _ _ _ HS3.out).mono ?_
    rintro e w4 ⟨rfl, hb4⟩
    have B4 := B3.trans (hb4.mono B3.size)
    have b4 := keepB b3 hb4
    obtain ⟨y0, y1⟩ := cellsG b4
    clear hb4 B3 b3 HS3 HS2 HT2
    go_wp2_with fail
    go_loopw [3, 5, 18] (fun o _ i W => ∃ (j : Nat) (Q : ByteArray), j ≤ ps.length ∧ i = .int .i64 j ∧ o = .string Q ∧ Q.size ≤ 33554432 ∧ Hid (Q.data.toList = gtT ts (ps.take j)) ∧ Below w.heap.size w W) (fun _ _ i _ => ps.length - (intOf i).toNat)
    case atStart => exact ⟨0, O0, Nat.zero_le _, rfl, rfl, sO0, Lib.hid (by rw [gtT_nil]; exact HO0.out), B4⟩
    case round =>
      obtain ⟨j, Q, hj, rfl, rfl, sQ, HQ, hb⟩ := hrel
      clear y0 y1 b4
      by_cases hjl : j < ps.length
      · obtain ⟨g, off, rfl, hg, a, b, d0, d1, d2, d3, d4, d5, ra, rb⟩ := (HR.out.below hb).at j hjl
        have HW := Lib.hid (fun (W : World) (h : Below wr.heap.size wr W) => wordsOf_any ps[j] a b W (ra.below h) (rb.below h) (HSP.out.get j hjl) (H4.out j hjl))
        obtain ⟨A1, c1, rfl⟩ := ra.slice
        obtain ⟨A2, c2, rfl⟩ := rb.slice
        have hle := line_le (HSP.out.get j hjl)
        have hwl : (pw ps[j]).length ≤ 16777216 := by
          have h1 := pw_words ps[j] (HSP.out.get j hjl)
          unfold pw; simp; omega
        have HLN := Lib.hid (fun (v : Value) (base : Nat) (W : World) (h : Strs W base v (pw ps[j])) => lineOf_any v (pw ps[j]) base W h (by unfold pw; simp [pw4_ne]) hwl hle)
        have hle2 := gtT_len (ts := ts) HS.out.1 HSP.out (j + 1)
        have HMO := Lib.hid (gtT_snoc ts ps j hjl)
        obtain ⟨X, HX⟩ : ∃ X : ByteArray, Hid (⟨(lnT (pw ps[j])).toArray⟩ = X) := ⟨_, Lib.hid rfl⟩
        have sX : X.size ≤ 16777217 := by rw [← HX.out]; show (lnT (pw ps[j])).toArray.size ≤ _; unfold lnT; simp; omega
        have HXL : Hid (X.data.toList = lnT (pw ps[j])) := Lib.hid (by rw [← HX.out])
        simp only [HX.out] at HLN
        have HN : Hid ((Q ++ X).data.toList = gtT ts (ps.take (j + 1))) := Lib.hid (by
          rw [HMO.out]; simp [HQ.out, HXL.out])
        have lN : (Q ++ X).size ≤ 33554432 := by
          have e : (Q ++ X).size = (gtT ts (ps.take (j + 1))).length := by rw [← HN.out]; rfl
          rw [e]; exact hle2
        have k0 : (0 : Int) ≤ (j : Int) := by omega
        have k1 : (j : Int) < (ps.length : Int) := by omega
        have Bp : Below wr.heap.size wr (wr.alloc (.cells #[.string ⟨ps[j].name.toArray⟩, .string ⟨ps[j].ver.toArray⟩, .string ⟨ps[j].src.toArray⟩, .slice A1 ps[j].sums.length c1, .bool ps[j].dev, .slice A2 ps[j].needs.length c2] 78)) := (Below.refl _ _).alloc (Nat.le_refl _) _
        have bp := heap_alloc_new wr (.cells #[.string ⟨ps[j].name.toArray⟩, .string ⟨ps[j].ver.toArray⟩, .string ⟨ps[j].src.toArray⟩, .slice A1 ps[j].sums.length c1, .bool ps[j].dev, .slice A2 ps[j].needs.length c2] 78)
        obtain ⟨z0, z1, z2, z3, z4, z5⟩ := cells6 bp
        clear ra rb hle hle2 hwl bp
        go_wp2_with fail
        refine (HW.out _ Bp).mono ?_
        rintro e w5 ⟨v5, rfl, S5, hb5⟩
        have B5 := hb.trans ((Bp.trans (hb5.mono Bp.size)).mono hb.size)
        have HS5 := Lib.hid S5
        obtain ⟨A5, c5, rfl⟩ := (RdS.of_strs S5).slice
        clear Bp hb5 S5 z0 z1 z2 z3 z4 z5
        go_wp2_with fail
        refine (HLN.out _ _ _ HS5.out).mono ?_
        rintro e w6 ⟨rfl, hb6⟩
        have B6 := B5.trans (hb6.mono B5.size)
        clear hb6 B5 HS5
        go_wp2_with fail
        go_roundw
        case rel => exact ⟨j + 1, _, by omega, by go_num, rfl, lN, HN, B6⟩
        case measure => simp [intOf]; omega
      · have HE : Hid (Q = R) := Lib.hid (bytes_ext (by rw [HQ.out, HF.out, gtT_all ts ps j (by omega)]))
        have k3 : ¬ (j : Int) < (ps.length : Int) := by omega
        go_wp2_with fail
        go_ret
        exact ⟨by rw [HE.out]; rfl, hb⟩
end Go.Proofs.YtnodhkjgnegkcaaGreatDoor

namespace Go.Proofs.YtnodhkjgnegkcaaGreatDoor
open Go.RowKit

set_option maxRecDepth 100000 in
set_option maxHeartbeats 4000000 in
theorem exGraphText (vt vp : Value) (ts : List (List UInt8)) (ps : List Pk) (w : World) (ht : RdS w vt ts) (hp : RdPs w vp ps) (nt : ts.length ≤ maxLen) (mt : ∀ l ∈ ts, l.length ≤ maxLen) (np : ps.length ≤ maxLen) (mp : ∀ p ∈ ps, PkFits p) (htab : Tab w) :
    Calls Tryz.prog 4 #[.agg #[vt, vp]] w fun e w' => e = .returned (.bool true) ∧ Below w.heap.size w w' := by
  have HZ := Lib.hid (fun (W : World) (h : Below w.heap.size w W) => szGraph_any vt vp ts ps 1048576 W (ht.below h) (hp.below h) (by omega) (by omega) nt mt np mp)
  have HT0 := Lib.hid (fun (hg : SmG ts ps) (W : World) (h : Below w.heap.size w W) => toGraph_any vt vp ts ps W (ht.below h) (hp.below h) hg)
  obtain ⟨z, HX⟩ : ∃ z, Hid (szG 1048576 ts ps = z) := ⟨_, Lib.hid rfl⟩
  obtain ⟨A, ca, rfl⟩ := ht.slice
  obtain ⟨B, cb, rfl, _⟩ := hp
  have HTB := Lib.hid (fun (W : World) (h : Below w.heap.size w W) => tab_below htab h)
  clear ht nt mt np mp htab
  have B0 : Below w.heap.size w (w.alloc (.cells #[.slice A ts.length ca, .slice B ps.length cb] 32)) := (Below.refl _ _).alloc (Nat.le_refl _) _
  have b0 := heap_alloc_new w (.cells #[.slice A ts.length ca, .slice B ps.length cb] 32)
  by_cases hz : z < 0
  · go_enter Tryz.func4, Tryz.ntmps4
    go_wp2_with fail
    refine (HZ.out _ B0).mono ?_
    rw [HX.out]
    rintro e w1 ⟨rfl, hb1⟩
    go_wp2_with fail
    go_ret
    exact ⟨rfl, B0.trans (hb1.mono B0.size)⟩
  · have HS := Lib.hid (szG_good (ts := ts) (ps := ps) (left := 1048576) (by omega) (by omega) (by rw [HX.out]; exact hz)).1
    have HT := Lib.hid (HT0.out HS.out)
    clear HT0
    go_enter Tryz.func4, Tryz.ntmps4
    go_wp2_with fail
    refine (HZ.out _ B0).mono ?_
    rw [HX.out]
    rintro e w1 ⟨rfl, hb1⟩
    have B1 := B0.trans (hb1.mono B0.size)
    have b1 := keepB b0 hb1
    obtain ⟨x0, x1⟩ := cellsG b1
    clear hb1 b0 HZ
    go_wp2_with fail
    refine (HT.out _ B1).mono ?_
    rintro e w2 ⟨A1, c1, D1, e1, rfl, hG1, hb2'⟩
    have B2 := B1.trans (hb2'.mono B1.size)
    have b2 := keepB b1 hb2'
    clear hb2' b1 B1 x0 x1
    go_wp2_with fail
    refine (specGraphText_any _ _ ts ps _ (RdS.of_strs hG1.1) (RdPs.of_own hG1.2) HS.out).mono ?_
    obtain ⟨r, HF⟩ : ∃ r, Hid (gtA ts ps = r) := ⟨_, Lib.hid rfl⟩
    rw [HF.out]
    rintro e w3 ⟨rfl, hb3⟩
    have B3 := B2.trans (hb3.mono B2.size)
    have b3 := keepB b2 hb3
    obtain ⟨x0, x1⟩ := cellsG b3
    clear hG1 hb3 b2 B2
    go_wp2_with fail
    refine (HT.out _ B3).mono ?_
    rintro e w4 ⟨A2, c2, D2, e2, rfl, hG2, hb4⟩
    have B4 := B3.trans (hb4.mono B3.size)
    have b4 := keepB b3 hb4
    clear hb4 b3 B3 x0 x1
    have B45 : Below w4.heap.size w4 (w4.alloc (.cells #[.slice A2 ts.length c2, .slice D2 ps.length e2] 37)) := (Below.refl _ _).alloc (Nat.le_refl _) _
    have B5 : Below w.heap.size w (w4.alloc (.cells #[.slice A2 ts.length c2, .slice D2 ps.length e2] 37)) := B4.alloc B4.size _
    have b5 := keepA b4 (.cells #[.slice A2 ts.length c2, .slice D2 ps.length e2] 37)
    have b6 := heap_alloc_new w4 (.cells #[.slice A2 ts.length c2, .slice D2 ps.length e2] 37)
    have hG5 := hG2.below B45
    clear hG2 B45 B4 b4
    go_wp2_with fail
    refine (implGraphText_any _ _ ts ps _ (RdS.of_strs hG5.1) (RdPs.of_own hG5.2) HS.out (HTB.out _ B5)).mono ?_
    rw [HF.out]
    rintro e w6 ⟨rfl, hb6⟩
    have B6 := B5.trans (hb6.mono B5.size)
    have x6 := keepB b6 hb6
    obtain ⟨c60, c61⟩ := cellsG x6
    obtain ⟨c70, c71⟩ := cellsG (keepB b5 hb6)
    have l6 := lt_of_heap x6
    have hG6 := hG5.below hb6
    have HQ := Lib.hid (fun (W : World) (h : Below w6.heap.size w6 W) (a' b' : Value) (r1 : RdS W a' ts) (r2 : RdPs W b' ps) => eqGraph_same _ _ a' b' ts ps W ((RdS.of_strs hG6.1).below h) ((RdPs.of_own hG6.2).below h) r1 r2 HS.out)
    clear hb6 b5 b6 B5 hG5 hG6
    go_wp2_with fail
    go_region_with (first | (go_at_call 18; refine (HT.out _ (by first | exact B6.trans (below_drewN _ _ 1))).mono ?_; rintro e w7 ⟨A3, c3, D3, e3, rfl, hG7, hb7⟩; obtain ⟨z0, z1⟩ := cellsG (keepB (W := w6.drewN 1) x6 hb7)) | (go_at_call 20; refine (HQ.out _ ((below_drewN _ _ 1).trans (hb7.mono (Nat.le_refl _))) _ _ (RdS.of_strs hG7.1) (RdPs.of_own hG7.2)).mono ?_; rintro e w8 ⟨rfl, hb8⟩))
    all_goals
      go_wp2_with fail
      go_ret
      exact ⟨rfl, (B6.trans (below_drewN _ _ 1)).trans ((hb7.trans (hb8.mono hb7.size)).mono B6.size)⟩
end Go.Proofs.YtnodhkjgnegkcaaGreatDoor
