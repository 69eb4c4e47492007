/-
  The text of bounds: impl.RangeText.
-/
import Derived.Test.YtjpclglklmlhlaaRtS
import Derived.Test.YtjpclglklmlhlaaRngI
import Derived.Test.YtjpclglklmlhlaaJoinA
namespace Go.Proofs.Ytjpclglklmlhlaa
open Go.RowKit

set_option maxRecDepth 100000 in
set_option maxHeartbeats 2000000 in
theorem boundText_any (b : Bd) (w : World) (h : b.1.length + b.2.length ≤ 1048576) :
    Calls Try.prog 25 #[.agg #[.string ⟨b.1.toArray⟩, .string ⟨b.2.toArray⟩]] w fun e w' => e = .returned (.string ⟨(bndText b).toArray⟩) ∧ Below w.heap.size w w' := by
  obtain ⟨x, hx⟩ : ∃ x : ByteArray, x = ⟨b.1.toArray⟩ := ⟨_, rfl⟩
  obtain ⟨y, hy⟩ : ∃ y : ByteArray, y = ⟨b.2.toArray⟩ := ⟨_, rfl⟩
  have sx : x.size = b.1.length := by rw [hx]; exact size_of _
  have sy : y.size = b.2.length := by rw [hy]; exact size_of _
  have HXL : Hid (x.data.toList = b.1) := Lib.hid (by rw [hx])
  have HYL : Hid (y.data.toList = b.2) := Lib.hid (by rw [hy])
  rw [← hx, ← hy]
  clear hx hy
  by_cases hA : b.1 = []
  · have qa : (x.toList == []) = true := by rw [ByteArray.toList_eq, HXL.out, hA]; rfl
    by_cases hB : b.2 = []
    · have qb : (y.toList == []) = true := by rw [ByteArray.toList_eq, HYL.out, hB]; rfl
      have HTX : Hid (bndText b = [42]) := Lib.hid (by unfold bndText; rw [if_pos hA, if_pos hB])
      clear hA hB
      go_enter Try.func25, Try.ntmps25
      go_wp2_with fail
      go_ret
      exact ⟨ret_str HTX.out.symm, (Below.refl _ _).alloc (Nat.le_refl _) _⟩
    · have qb : (y.toList == []) = false := by rw [ByteArray.toList_eq, HYL.out]; simpa using hB
      have HTX : Hid (bndText b = 60 :: b.2) := Lib.hid (by unfold bndText; rw [if_pos hA, if_neg hB])
      clear hA hB
      go_enter Try.func25, Try.ntmps25
      go_wp2_with fail
      go_ret
      exact ⟨congrArg Ending.returned (str_ext (by rw [HTX.out]; simp [HYL.out])), (Below.refl _ _).alloc (Nat.le_refl _) _⟩
  · have qa : (x.toList == []) = false := by rw [ByteArray.toList_eq, HXL.out]; simpa using hA
    by_cases hB : b.2 = []
    · have qb : (y.toList == []) = true := by rw [ByteArray.toList_eq, HYL.out, hB]; rfl
      have HTX : Hid (bndText b = 62 :: 61 :: b.1) := Lib.hid (by unfold bndText; rw [if_neg hA, if_pos hB])
      clear hA hB
      go_enter Try.func25, Try.ntmps25
      go_wp2_with fail
      go_ret
      exact ⟨congrArg Ending.returned (str_ext (by rw [HTX.out]; simp [HXL.out])), (Below.refl _ _).alloc (Nat.le_refl _) _⟩
    · have qb : (y.toList == []) = false := by rw [ByteArray.toList_eq, HYL.out]; simpa using hB
      have HTX : Hid (bndText b = 62 :: 61 :: b.1 ++ 32 :: 60 :: b.2) := Lib.hid (by unfold bndText; rw [if_neg hA, if_neg hB])
      clear hA hB
      go_enter Try.func25, Try.ntmps25
      go_wp2_with fail
      go_ret
      exact ⟨congrArg Ending.returned (str_ext (by rw [HTX.out]; simp [HXL.out, HYL.out])), (Below.refl _ _).alloc (Nat.le_refl _) _⟩

theorem joinB_join (bs : List Bd) (h : bs ≠ []) : joinB bs = Lib.join (bs.map bndText) [32, 124, 124, 32] := by
  cases bs with
  | nil => exact absurd rfl h
  | cons b t => rw [List.map_cons, join_flat]; simp [joinB, List.flatMap_map]
theorem joinB_len {bs : List Bd} (h : SmB bs) : ∀ k, k ≤ bs.length → (joinB (bs.take k)).length ≤ 1048588 * k
  | 0, _ => by simp [joinB]
  | k + 1, hk => by
    have := joinB_len h k (by omega)
    have l1 := smB_one h k (by omega)
    have l2 := bndText_len bs[k]
    rw [joinB_take (by omega), List.length_append]
    split
    · omega
    · simp only [List.length_cons]; omega

set_option maxRecDepth 100000 in
set_option maxHeartbeats 4000000 in
theorem implRangeText_any (v : Value) (bs : List Bd) (w : World) (hr : RdB w v bs) (hs : SmB bs) :
    Calls Try.prog 14 #[v] w fun e w' => e = .returned (.string ⟨(rngText bs).toArray⟩) ∧ Below w.heap.size w w' := by
  have HR := Lib.hid hr
  have HS := Lib.hid hs
  have HV := Lib.hid (fun (W : World) (h : Below w.heap.size w W) => implRangeOk_any v bs W (hr.below h) hs)
  obtain ⟨A, ca, rfl, ha⟩ := hr
  have hn : bs.length ≤ 1048576 := by unfold SmB at hs; omega
  clear ha hs
  obtain ⟨ok, HO⟩ : ∃ ok, Hid (rngOk bs = ok) := ⟨_, Lib.hid rfl⟩
  cases ok
  · have HT : Hid (rngText bs = []) := Lib.hid (by unfold rngText; rw [HO.out]; rfl)
    go_enter Try.func14, Try.ntmps14
    go_wp2_with fail
    refine (HV.out _ (Below.refl _ _)).mono ?_
    rw [HO.out]
    rintro e w1 ⟨rfl, hb1⟩
    go_wp2_with fail
    go_ret
    exact ⟨ret_str HT.out.symm, hb1⟩
  have HT : Hid (rngText bs = joinB bs) := Lib.hid (by unfold rngText; rw [HO.out]; rfl)
  obtain ⟨h1, h8⟩ := rngOk_len HO.out
  obtain ⟨i0, hi, hz0, hz1, hz2⟩ := info_parts strinfo
  go_enter Try.func14, Try.ntmps14
  go_wp2_with fail
  refine (HV.out _ (Below.refl _ _)).mono ?_
  rw [HO.out]
  rintro e w1 ⟨rfl, hb1⟩
  go_wp2_with (at_make; refine wpList_make_own _ rfl _ _ 40 rfl w.heap.size 9 i0 (.string ⟨#[]⟩) 1 Try.underlying40 hi hz0 hz1 .i64 .i64 _ bs.length rfl rfl rfl (by rw [hz2]; omega) (by unfold maxLen; omega) hb1.size ?_; intro w2 hown2 hg2)
  have hS2 : Strs w2 w.heap.size (.slice (some ⟨w1.heap.size, 0, none⟩) 0 bs.length) [] := hown2
  have hb2 : Below w.heap.size w w2 := hb1.grown hg2 hb1.size (by simp)
  clear hown2 hg2 hi hz0 hz1 hz2 hb1
  go_loopw [3, 5, 14] (fun o _ i wr => ∃ k : Nat, k ≤ bs.length ∧ i = .int .i64 k ∧ Strs wr w.heap.size o ((bs.take k).map bndText) ∧ Below w.heap.size w wr) (fun _ _ i _ => bs.length - (intOf i).toNat)
  case atStart => exact ⟨0, Nat.zero_le _, rfl, by simpa using hS2, hb2⟩
  case round =>
    obtain ⟨k, hk, rfl, hS, hb⟩ := hrel
    by_cases hlt : k < bs.length
    · have k0 : (0 : Int) ≤ (k : Int) := by omega
      have k1 : (k : Int) < (bs.length : Int) := by omega
      have lk := smB_one HS.out k hlt
      obtain ⟨A', ca', hv, ha⟩ := HR.out.below hb
      simp only [Value.slice.injEq] at hv
      obtain ⟨rfl, _, rfl⟩ := hv
      obtain ⟨g, off, rfl, hg, hca⟩ := ha (by omega)
      have d1 : wr.cell? ⟨g, off + k * 2, none⟩ = some (.string ⟨bs[k].1.toArray⟩) := (hca k hlt).1
      have d2 : wr.cell? ⟨g, off + k * 2 + 1, none⟩ = some (.string ⟨bs[k].2.toArray⟩) := (hca k hlt).2
      have B0 : Below w.heap.size w (wr.alloc (.cells #[.string ⟨bs[k].1.toArray⟩, .string ⟨bs[k].2.toArray⟩] 36)) := hb.alloc hb.size _
      have hS0 := hS.alloc (.cells #[.string ⟨bs[k].1.toArray⟩, .string ⟨bs[k].2.toArray⟩] 36)
      have HN : Hid ((bs.take k).map bndText ++ [bndText bs[k]] = (bs.take (k + 1)).map bndText) := Lib.hid (by rw [List.take_succ_eq_append_getElem hlt, List.map_append]; rfl)
      have lm : ((bs.take k).map bndText).length = k := by simp; omega
      clear ha hca hS2 hb2
      go_wp2_with fail
      refine (boundText_any bs[k] _ lk).mono ?_
      rintro e w3 ⟨rfl, hb3⟩
      have B3 := B0.trans (hb3.mono B0.size)
      have hS3 := hS0.below hb3
      clear d1 d2 hS0 hS hb3
      go_wp2_with (at_builtin; refine wpList_append_strs rfl _ _ rfl w.heap.size _ _ rfl (hS3.alloc _) (bndText bs[k]) w3.heap.size _ _ _ rfl (heap_alloc_new w3 _) (by omega) (by simp; exact Nat.le_succ_of_le B3.size) ?_; intro g2 cap2 w4 hown4 hb4)
      have B4 := B3.trans (((Below.refl w.heap.size w3).alloc B3.size _).trans hb4)
      go_wp2_with fail
      go_roundw
      case rel => exact ⟨k + 1, by omega, by go_num, by rw [← HN.out]; rw [lm] at hown4; exact hown4, B4⟩
      case measure => simp [intOf]; omega
    · have HY : Hid (Lib.join (bs.map bndText) [32, 124, 124, 32] = rngText bs) := Lib.hid (by rw [HT.out, joinB_join bs (fun e => by rw [e] at h1; simp at h1)])
      have hSe := hS
      rw [List.take_of_length_le (by omega)] at hSe
      have HNE : Hid (bs.map bndText ≠ []) := Lib.hid (by intro e; rw [List.map_eq_nil_iff] at e; rw [e] at h1; simp at h1)
      have HLE : Hid ((Lib.join (bs.map bndText) (⟨#[32, 124, 124, 32]⟩ : ByteArray).data.toList).length ≤ 140737488355328) := Lib.hid (by
        show (Lib.join (bs.map bndText) [32, 124, 124, 32]).length ≤ _
        rw [HY.out, HT.out]
        have := joinB_len HS.out bs.length (Nat.le_refl _)
        rw [List.take_of_length_le (Nat.le_refl _)] at this
        omega)
      have hml : (bs.map bndText).length ≤ 1048576 := by simp; omega
      go_wp2_with fail
      refine (joinSep_any _ w.heap.size _ (bs.map bndText) ⟨#[32, 124, 124, 32]⟩ hSe HNE.out hml HLE.out).mono ?_
      rintro e w3 ⟨rfl, hb3⟩
      go_wp2_with fail
      go_ret
      exact ⟨ret_str HY.out, hb.trans (hb3.mono hb.size)⟩
end Go.Proofs.Ytjpclglklmlhlaa
