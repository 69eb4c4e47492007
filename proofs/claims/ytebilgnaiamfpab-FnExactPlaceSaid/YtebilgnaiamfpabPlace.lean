/-
  impl.Place and spec.Place both return line and column of a place in a string, or 0 and 0 outside it.
-/
import Derived.Test.YtebilgnaiamfpabRows
import Derived.Test.YtebilgnaiamfpabBase
import Derived.Lib.Bytealg
import Derived.Lib.Walk
namespace Go.Proofs.Ytebilgnaiamfpab
open Go.RowKit

/-- The last place of c among the first k bytes of l, or -1. -/
def lastK (l : List UInt8) (c : UInt8) : Nat → Int
  | 0 => -1
  | k + 1 => if l.getD k 0 = c then (k : Int) else lastK l c k
theorem lastK_bd (l : List UInt8) (c : UInt8) : ∀ k, -1 ≤ lastK l c k ∧ lastK l c k < k
  | 0 => by simp [lastK]
  | k + 1 => by
    have := lastK_bd l c k
    unfold lastK
    split <;> omega
theorem lastK_take (l : List UInt8) (c : UInt8) (n : Nat) : ∀ k, k ≤ n → k ≤ l.length → lastK (l.take n) c k = lastK l c k
  | 0, _, _ => rfl
  | k + 1, h, hl => by
    unfold lastK
    rw [lastK_take l c n k (by omega) (by omega)]
    have : (l.take n).getD k 0 = l.getD k 0 := by simp [List.getD_eq_getElem?_getD, List.getElem?_take_of_lt (show k < n by omega)]
    rw [this]
theorem getD_byte (s : ByteArray) (k : Nat) (h : k < s.size) : s.data.toList.getD k 0 = s[k] := by
  rw [List.getD_eq_getElem?_getD, List.getElem?_eq_getElem (by simpa using h)]; rfl
theorem lastK_hit {s : ByteArray} {c : UInt8} {k : Nat} (h : k < s.size) (hc : s[k] = c) : lastK s.data.toList c (k + 1) = k := by
  unfold lastK; rw [getD_byte s k h, if_pos hc]
theorem lastK_miss {s : ByteArray} {c : UInt8} {k : Nat} (h : k < s.size) (hc : ¬ s[k] = c) : lastK s.data.toList c (k + 1) = lastK s.data.toList c k := by
  conv => lhs; unfold lastK
  rw [getD_byte s k h, if_neg hc]

set_option maxHeartbeats 1000000 in
set_option maxRecDepth 100000 in
theorem count_any (s : ByteArray) (w : World) :
    Calls Try.prog 24 #[.string s, .string ⟨#[10]⟩] w fun e w' => e = .returned (.int .i64 (Lib.countByte s.data.toList 10)) ∧ w = w' := by
  go_enter Try.func24, Try.ntmps24
  go_wp2
  rw [run_callFunc_extern Try.func34 (by kernel_rfl) (by kernel_rfl) (by kernel_rfl) (e := Extern.BytealgCount.count) (by kernel_rfl), Lib.run_countString]
  simp only [Result.andThen]
  rw [Oper.upon_value]
  go_wp2
  go_ret
  exact ⟨rfl, rfl⟩

set_option maxHeartbeats 1000000 in
theorem lastIndex_any (s : ByteArray) (c : UInt8) (w : World) (hs : s.size ≤ maxLen) :
    Calls Try.prog 36 #[.string s, .int .u8 (c.toNat : Int)] w fun e w' => e = .returned (.int .i64 (lastK s.data.toList c s.size)) ∧ w = w' := by
  unfold maxLen at hs
  go_enter Try.func36, Try.ntmps36
  go_wp2
  go_loop [5] (fun n => ∃ k : Nat, k ≤ s.size ∧ n = .int .i64 ((k : Int) - 1) ∧ Hid (lastK s.data.toList c s.size = lastK s.data.toList c k)) (fun n => (intOf n + 1).toNat)
  case atStart => exact ⟨s.size, Nat.le_refl _, rfl, Lib.hid rfl⟩
  case round =>
    obtain ⟨k, hk, rfl, H⟩ := hrel
    rcases k with _ | k
    · have HH : Hid (lastK s.data.toList c s.size = -1) := Lib.hid (by rw [H.out]; rfl)
      clear H
      go_wp2
      go_ret
      exact ⟨ret_int HH.out.symm, rfl⟩
    · have hlt : k < s.size := by omega
      rw [show ((k + 1 : Nat) : Int) - 1 = (k : Int) from by omega]
      by_cases hc : s[k] = c
      · have hb : ((s[k].toNat : Int) == (c.toNat : Int)) = true := by rw [hc]; simp
        have HH : Hid (lastK s.data.toList c s.size = (k : Int)) := Lib.hid (by rw [H.out, lastK_hit hlt hc])
        clear hc H
        go_wp2
        go_ret
        exact ⟨ret_int HH.out.symm, rfl⟩
      · have hb : ((s[k].toNat : Int) == (c.toNat : Int)) = false := int_beq_false (fun h => hc (UInt8.toNat_inj.1 (by omega)))
        have HH : Hid (lastK s.data.toList c s.size = lastK s.data.toList c k) := Lib.hid (by rw [H.out, lastK_miss hlt hc])
        clear hc H
        go_wp2
        go_round
        case rel => exact ⟨k, by omega, rfl, HH⟩
        case measure => simp [intOf]; try omega
    
theorem lastIndexByte_any (s : ByteArray) (c : UInt8) (w : World) (hs : s.size ≤ maxLen) :
    Calls Try.prog 25 #[.string s, .int .u8 (c.toNat : Int)] w fun e w' => e = .returned (.int .i64 (lastK s.data.toList c s.size)) ∧ w = w' := by
  go_enter Try.func25, Try.ntmps25
  go_wp2_with fail
  refine (lastIndex_any s c _ hs).mono ?_
  rintro e w' ⟨rfl, rfl⟩
  go_wp2
  go_ret
  exact ⟨rfl, rfl⟩

/-- What both return. -/
def placeV (l : List UInt8) (n : Nat) (i : Int) : Value :=
  if 0 ≤ i ∧ i ≤ n then .tuple #[.int .i64 ((l.take i.toNat).count 10 + 1), .int .i64 (i - lastK l 10 i.toNat)] else .tuple #[.int .i64 0, .int .i64 0]

theorem count_le (l : List UInt8) (k : Nat) : (l.take k).count 10 ≤ k := Nat.le_trans List.count_le_length (List.length_take_le _ _)

set_option maxRecDepth 100000 in
set_option maxHeartbeats 1000000 in
theorem specPlace_any (s : ByteArray) (i : Int) (w : World) (hs : s.size ≤ 1048576) (h0 : -9223372036854775808 ≤ i) (h1 : i ≤ 9223372036854775807) :
    Calls Try.prog 13 #[.string s, .int .i64 i] w fun e w' => e = .returned (placeV s.data.toList s.size i) ∧ w = w' := by
  by_cases hi : 0 ≤ i ∧ i ≤ s.size
  · obtain ⟨n, rfl⟩ := Int.eq_ofNat_of_zero_le hi.1
    have hn : n ≤ s.size := by omega
    have HV : Hid (placeV s.data.toList s.size (n : Int) = .tuple #[.int .i64 ((s.data.toList.take n).count 10 + 1), .int .i64 ((n : Int) - lastK s.data.toList 10 n)]) := Lib.hid (by unfold placeV; rw [if_pos hi]; simp)
    obtain ⟨g0, g1⟩ := hi
    go_enter Try.func13, Try.ntmps13
    go_wp2
    go_loop [6, 7, 8] (fun ln cl j => ∃ k : Nat, k ≤ n ∧ j = .int .i64 k ∧ ln = .int .i64 ((s.data.toList.take k).count 10 + 1) ∧ cl = .int .i64 ((k : Int) - lastK s.data.toList 10 k)) (fun _ _ j => n - (intOf j).toNat)
    case atStart => exact ⟨0, Nat.zero_le _, rfl, rfl, rfl⟩
    case round =>
      obtain ⟨k, hk, rfl, rfl, rfl⟩ := hrel
      by_cases hlt : k < n
      · have hks : k < s.size := by omega
        have c1 := count_le s.data.toList k
        have l1 := (lastK_bd s.data.toList 10 k).1
        have l2 := (lastK_bd s.data.toList 10 k).2
        by_cases hc : s[k] = 10
        · have hb : ((s[k].toNat : Int) == 10) = true := by rw [hc]; rfl
          have HC : Hid ((s.data.toList.take (k + 1)).count 10 = (s.data.toList.take k).count 10 + 1) := Lib.hid (by rw [take_snoc s k hks, List.count_append, hc]; rfl)
          have HK := Lib.hid (lastK_hit hks hc)
          clear hc
          generalize (s.data.toList.take k).count 10 = cn at c1 HC ⊢
          generalize lastK s.data.toList 10 k = lk at l1 l2 ⊢
          go_wp2
          go_round
          case rel => exact ⟨k + 1, by omega, by go_num, by rw [HC.out]; go_num, by rw [HK.out]; go_num⟩
          case measure => simp [intOf]; omega
        · have hb : ((s[k].toNat : Int) == 10) = false := int_beq_false (fun h => hc (UInt8.toNat_inj.1 (by show _ = (10 : Nat); omega)))
          have HC : Hid ((s.data.toList.take (k + 1)).count 10 = (s.data.toList.take k).count 10) := Lib.hid (by rw [take_snoc s k hks, List.count_append]; simp [hc])
          have HK := Lib.hid (lastK_miss hks hc)
          clear hc
          generalize (s.data.toList.take k).count 10 = cn at c1 HC ⊢
          generalize lastK s.data.toList 10 k = lk at l1 l2 HK ⊢
          go_wp2
          go_round
          case rel => exact ⟨k + 1, by omega, by go_num, by rw [HC.out], by rw [HK.out]; go_num⟩
          case measure => simp [intOf]; omega
      · obtain rfl : k = n := by omega
        go_wp2
        go_ret2
        exact ⟨congrArg Ending.returned HV.out.symm, rfl⟩
  · have HV : Hid (placeV s.data.toList s.size i = .tuple #[.int .i64 0, .int .i64 0]) := Lib.hid (by unfold placeV; rw [if_neg hi])
    by_cases hneg : i < 0
    · clear hi
      go_enter Try.func13, Try.ntmps13
      go_wp2
      go_ret2
      exact ⟨congrArg Ending.returned HV.out.symm, rfl⟩
    · have hgt : (s.size : Int) < i := by omega
      have d0 : (0 : Int) ≤ i := by omega
      have d1 : decide (i ≤ (s.size : Int)) = false := by simp; omega
      clear hi
      go_enter Try.func13, Try.ntmps13
      go_wp2
      go_ret2
      exact ⟨congrArg Ending.returned HV.out.symm, rfl⟩

set_option maxRecDepth 100000 in
set_option maxHeartbeats 1000000 in
theorem implPlace_any (s : ByteArray) (i : Int) (w : World) (hs : s.size ≤ 1048576) (h0 : -9223372036854775808 ≤ i) (h1 : i ≤ 9223372036854775807) :
    Calls Try.prog 14 #[.string s, .int .i64 i] w fun e w' => e = .returned (placeV s.data.toList s.size i) ∧ w = w' := by
  by_cases hi : 0 ≤ i ∧ i ≤ s.size
  · obtain ⟨n, rfl⟩ := Int.eq_ofNat_of_zero_le hi.1
    have hn : n ≤ s.size := by omega
    have HV : Hid (placeV s.data.toList s.size (n : Int) = .tuple #[.int .i64 ((s.data.toList.take n).count 10 + 1), .int .i64 ((n : Int) - lastK s.data.toList 10 n)]) := Lib.hid (by unfold placeV; rw [if_pos hi]; simp)
    obtain ⟨g0, g1⟩ := hi
    have HE : Hid ((s.extract 0 n).data.toList = s.data.toList.take n) := Lib.hid (by rw [Lib.extract_data]; simp)
    have HZ : Hid ((s.extract 0 n).size = n) := Lib.hid (by simp; omega)
    have HK : Hid (lastK (s.data.toList.take n) 10 n = lastK s.data.toList 10 n) := Lib.hid (lastK_take _ _ _ _ (Nat.le_refl _) (by simpa using hn))
    have c1 := count_le s.data.toList n
    have l1 := (lastK_bd s.data.toList 10 n).1
    have l2 := (lastK_bd s.data.toList 10 n).2
    go_enter Try.func14, Try.ntmps14
    go_wp2_with fail
    refine (count_any (s.extract 0 n) _).mono ?_
    rintro e w' ⟨rfl, rfl⟩
    rw [HE.out]
    unfold Lib.countByte
    go_wp2_with fail
    refine (lastIndexByte_any (s.extract 0 n) 10 _ (by rw [HZ.out]; unfold maxLen; omega)).mono ?_
    rintro e w' ⟨rfl, rfl⟩
    rw [HE.out, HZ.out, HK.out]
    go_wp2
    go_ret2
    exact ⟨congrArg Ending.returned HV.out.symm, rfl⟩
  · have HV : Hid (placeV s.data.toList s.size i = .tuple #[.int .i64 0, .int .i64 0]) := Lib.hid (by unfold placeV; rw [if_neg hi])
    by_cases hneg : i < 0
    · clear hi
      go_enter Try.func14, Try.ntmps14
      go_wp2
      go_ret2
      exact ⟨congrArg Ending.returned HV.out.symm, rfl⟩
    · have hgt : (s.size : Int) < i := by omega
      clear hi
      go_enter Try.func14, Try.ntmps14
      go_wp2
      go_ret2
      exact ⟨congrArg Ending.returned HV.out.symm, rfl⟩
end Go.Proofs.Ytebilgnaiamfpab
