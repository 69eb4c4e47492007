/-
  The text of bounds: spec.RangeText.
-/
import Derived.Test.YtjpclglklmlhlaaRngS
namespace Go.Proofs.Ytjpclglklmlhlaa
open Go.RowKit

/-- A bound's text. -/
def bndText (b : Bd) : List UInt8 := if b.1 = [] then (if b.2 = [] then [42] else 60 :: b.2) else if b.2 = [] then 62 :: 61 :: b.1 else 62 :: 61 :: b.1 ++ 32 :: 60 :: b.2
/-- The texts of bounds, put together. -/
def joinB : List Bd → List UInt8
  | [] => []
  | b :: t => bndText b ++ t.flatMap fun y => [32, 124, 124, 32] ++ bndText y
def rngText (bs : List Bd) : List UInt8 := if rngOk bs = true then joinB bs else []
theorem joinB_snoc (bs : List Bd) (b : Bd) : joinB (bs ++ [b]) = joinB bs ++ (if bs.length = 0 then bndText b else 32 :: 124 :: 124 :: 32 :: bndText b) := by
  cases bs with
  | nil => simp [joinB]
  | cons x t => simp [joinB, List.flatMap_append]
theorem joinB_take {bs : List Bd} {k : Nat} (h : k < bs.length) : joinB (bs.take (k + 1)) = joinB (bs.take k) ++ (if k = 0 then bndText bs[k] else 32 :: 124 :: 124 :: 32 :: bndText bs[k]) := by
  rw [List.take_succ_eq_append_getElem h, joinB_snoc]
  simp [Nat.min_eq_left (Nat.le_of_lt h)]
theorem bndText_len (b : Bd) : (bndText b).length ≤ 4 + (b.1.length + b.2.length) := by
  unfold bndText; split <;> split <;> simp <;> omega
theorem smB_one {bs : List Bd} (h : SmB bs) (k : Nat) (hk : k < bs.length) : bs[k].1.length + bs[k].2.length ≤ 1048576 := by
  have := smB_mem bs[k] (List.getElem_mem hk); unfold SmB at h; omega
theorem rngOk_len {bs : List Bd} (h : rngOk bs = true) : 1 ≤ bs.length ∧ bs.length ≤ 8 := by
  unfold rngOk inI at h; simp at h; omega
theorem app2 (x y : List UInt8) : Value.string (⟨x.toArray⟩ ++ ⟨y.toArray⟩) = .string ⟨(x ++ y).toArray⟩ := congrArg Value.string (bytes_ext (by simp))
theorem str_ext {x : ByteArray} {l : List UInt8} (h : x.data.toList = l) : Value.string x = .string ⟨l.toArray⟩ := congrArg Value.string (bytes_ext (by simpa using h))

set_option maxRecDepth 100000 in
set_option maxHeartbeats 4000000 in
theorem specRangeText_any (v : Value) (bs : List Bd) (w : World) (hr : RdB w v bs) (hs : SmB bs) :
    Calls Try.prog 13 #[v] w fun e w' => e = .returned (.string ⟨(rngText bs).toArray⟩) ∧ Below w.heap.size w w' := by
  have HR := Lib.hid hr
  have HS := Lib.hid hs
  have HV := Lib.hid (fun (W : World) (h : Below w.heap.size w W) => specRangeOk_any v bs W (hr.below h) hs)
  obtain ⟨A, ca, rfl, ha⟩ := hr
  have hn : bs.length ≤ 1048576 := by unfold SmB at hs; omega
  clear ha hs
  obtain ⟨ok, HO⟩ : ∃ ok, Hid (rngOk bs = ok) := ⟨_, Lib.hid rfl⟩
  by_cases h0 : bs.length = 0
  · have HT : Hid (rngText bs = []) := Lib.hid (by unfold rngText; rw [List.length_eq_zero_iff.1 h0]; rfl)
    go_enter Try.func13, Try.ntmps13
    go_wp2_with fail
    go_loopw [3, 4] (fun o i wr => i = .int .i64 0 ∧ o = .string ⟨#[]⟩ ∧ wr = w) (fun _ _ _ => 0)
    case atStart => exact ⟨rfl, rfl, rfl⟩
    case round =>
      obtain ⟨rfl, rfl, rfl⟩ := hrel
      have hx : ¬ (0 : Int) < (bs.length : Int) := by omega
      go_wp2_with fail
      go_ret
      exact ⟨ret_str HT.out.symm, Below.refl _ _⟩
  cases ok
  · have HT : Hid (rngText bs = []) := Lib.hid (by unfold rngText; rw [HO.out]; rfl)
    go_enter Try.func13, Try.ntmps13
    go_wp2_with fail
    go_loopw [3, 4] (fun o i wr => i = .int .i64 0 ∧ o = .string ⟨#[]⟩ ∧ wr = w) (fun _ _ _ => 0)
    case atStart => exact ⟨rfl, rfl, rfl⟩
    case round =>
      obtain ⟨rfl, rfl, rfl⟩ := hrel
      have hx : (0 : Int) < (bs.length : Int) := by omega
      go_wp2_with fail
      refine (HV.out _ (Below.refl _ _)).mono ?_
      rw [HO.out]
      rintro e w1 ⟨rfl, hb1⟩
      go_wp2_with fail
      go_ret
      exact ⟨ret_str HT.out.symm, hb1⟩
  have HT : Hid (rngText bs = joinB bs) := Lib.hid (by unfold rngText; rw [HO.out]; rfl)
  obtain ⟨_, h8⟩ := rngOk_len HO.out
  go_enter Try.func13, Try.ntmps13
  go_wp2_with fail
  go_loopw [3, 4] (fun o i wr => ∃ (k : Nat) (X : List UInt8), k ≤ bs.length ∧ i = .int .i64 k ∧ o = .string ⟨X.toArray⟩ ∧ X.length ≤ 1048588 * k ∧ Hid (X = joinB (bs.take k)) ∧ Below w.heap.size w wr) (fun _ i _ => bs.length - (intOf i).toNat)
  case atStart => exact ⟨0, [], Nat.zero_le _, rfl, rfl, by simp, Lib.hid (by simp [joinB]), Below.refl _ _⟩
  case round =>
    obtain ⟨k, X, hk, rfl, rfl, lX, HX, hb⟩ := hrel
    by_cases hlt : k < bs.length
    · have k0 : (0 : Int) ≤ (k : Int) := by omega
      have k1 : (k : Int) < (bs.length : Int) := by omega
      have HJ := Lib.hid (joinB_take hlt)
      have lk := smB_one HS.out k hlt
      have lt := bndText_len bs[k]
      go_wp2_with fail
      refine (HV.out _ hb).mono ?_
      rw [HO.out]
      rintro e w1 ⟨rfl, hb1⟩
      have B1 := hb.trans (hb1.mono hb.size)
      obtain ⟨A', ca', hv, ha⟩ := HR.out.below B1
      simp only [Value.slice.injEq] at hv
      obtain ⟨rfl, _, rfl⟩ := hv
      obtain ⟨g, off, rfl, hg, hca⟩ := ha (by omega)
      obtain ⟨x, hx⟩ : ∃ x : ByteArray, x = ⟨bs[k].1.toArray⟩ := ⟨_, rfl⟩
      obtain ⟨y, hy⟩ : ∃ y : ByteArray, y = ⟨bs[k].2.toArray⟩ := ⟨_, rfl⟩
      have d1 : w1.cell? ⟨g, off + k * 2, none⟩ = some (.string x) := by rw [hx]; exact (hca k hlt).1
      have d2 : w1.cell? ⟨g, off + k * 2 + 1, none⟩ = some (.string y) := by rw [hy]; exact (hca k hlt).2
      have sx : x.size = bs[k].1.length := by rw [hx]; exact size_of _
      have sy : y.size = bs[k].2.length := by rw [hy]; exact size_of _
      have HXL : Hid (x.data.toList = bs[k].1) := Lib.hid (by rw [hx])
      have HYL : Hid (y.data.toList = bs[k].2) := Lib.hid (by rw [hy])
      clear ha hca hx hy hb hb1
      by_cases hk0 : k = 0
      · have HJ0 : Hid (joinB (bs.take (k + 1)) = X ++ bndText bs[k]) := Lib.hid (by rw [HJ.out, if_pos hk0, HX.out])
        have HK : Hid (k = 0) := Lib.hid hk0
        clear hk0
        by_cases hA : bs[k].1 = []
        · have qa : (x.toList == []) = true := by rw [ByteArray.toList_eq, HXL.out, hA]; rfl
          by_cases hB : bs[k].2 = []
          · have qb : (y.toList == []) = true := by rw [ByteArray.toList_eq, HYL.out, hB]; rfl
            have HTX : Hid (bndText bs[k] = [42]) := Lib.hid (by unfold bndText; rw [if_pos hA, if_pos hB])
            clear hA hB
            go_wp2_with fail
            all_goals
              first
              | (exfalso; have := HK.out; omega)
              | (go_roundw; (case rel => exact ⟨k + 1, X ++ (bndText bs[k]), by omega, by go_num, str_ext (by rw [HTX.out]; simp), by simp <;> omega, Lib.hid HJ0.out.symm, by first | exact B1 | exact B1.trans (below_drewN _ _ 1)⟩); (case measure => simp [intOf]; omega))
          · have qb : (y.toList == []) = false := by rw [ByteArray.toList_eq, HYL.out]; simpa using hB
            have HTX : Hid (bndText bs[k] = 60 :: bs[k].2) := Lib.hid (by unfold bndText; rw [if_pos hA, if_neg hB])
            clear hA hB
            go_wp2_with fail
            all_goals
              first
              | (exfalso; have := HK.out; omega)
              | (go_roundw; (case rel => exact ⟨k + 1, X ++ (bndText bs[k]), by omega, by go_num, str_ext (by rw [HTX.out]; simp [HYL.out]), by simp <;> omega, Lib.hid HJ0.out.symm, by first | exact B1 | exact B1.trans (below_drewN _ _ 1)⟩); (case measure => simp [intOf]; omega))
        · have qa : (x.toList == []) = false := by rw [ByteArray.toList_eq, HXL.out]; simpa using hA
          by_cases hB : bs[k].2 = []
          · have qb : (y.toList == []) = true := by rw [ByteArray.toList_eq, HYL.out, hB]; rfl
            have HTX : Hid (bndText bs[k] = 62 :: 61 :: bs[k].1) := Lib.hid (by unfold bndText; rw [if_neg hA, if_pos hB])
            clear hA hB
            go_wp2_with fail
            all_goals
              first
              | (exfalso; have := HK.out; omega)
              | (go_roundw; (case rel => exact ⟨k + 1, X ++ (bndText bs[k]), by omega, by go_num, str_ext (by rw [HTX.out]; simp [HXL.out]), by simp <;> omega, Lib.hid HJ0.out.symm, by first | exact B1 | exact B1.trans (below_drewN _ _ 1)⟩); (case measure => simp [intOf]; omega))
          · have qb : (y.toList == []) = false := by rw [ByteArray.toList_eq, HYL.out]; simpa using hB
            have HTX : Hid (bndText bs[k] = 62 :: 61 :: bs[k].1 ++ 32 :: 60 :: bs[k].2) := Lib.hid (by unfold bndText; rw [if_neg hA, if_neg hB])
            clear hA hB
            go_wp2_with fail
            all_goals
              first
              | (exfalso; have := HK.out; omega)
              | (go_region; all_goals (go_wp2_with fail; go_roundw; (case rel => exact ⟨k + 1, X ++ (bndText bs[k]), by omega, by go_num, str_ext (by rw [HTX.out]; simp [HXL.out, HYL.out]), by simp <;> omega, Lib.hid HJ0.out.symm, by first | exact B1 | exact B1.trans (below_drewN _ _ 1)⟩); (case measure => simp [intOf]; omega)))
      · have HJ0 : Hid (joinB (bs.take (k + 1)) = X ++ ([32, 124, 124, 32] ++ bndText bs[k])) := Lib.hid (by rw [HJ.out, if_neg hk0, HX.out]; rfl)
        have HK : Hid (¬ k = 0) := Lib.hid hk0
        clear hk0
        by_cases hA : bs[k].1 = []
        · have qa : (x.toList == []) = true := by rw [ByteArray.toList_eq, HXL.out, hA]; rfl
          by_cases hB : bs[k].2 = []
          · have qb : (y.toList == []) = true := by rw [ByteArray.toList_eq, HYL.out, hB]; rfl
            have HTX : Hid (bndText bs[k] = [42]) := Lib.hid (by unfold bndText; rw [if_pos hA, if_pos hB])
            clear hA hB
            go_wp2_with fail
            all_goals
              first
              | (exfalso; have := HK.out; omega)
              | (go_roundw; (case rel => exact ⟨k + 1, X ++ ([32, 124, 124, 32] ++ bndText bs[k]), by omega, by go_num, str_ext (by rw [HTX.out]; simp), by simp <;> omega, Lib.hid HJ0.out.symm, by first | exact B1 | exact B1.trans (below_drewN _ _ 1)⟩); (case measure => simp [intOf]; omega))
          · have qb : (y.toList == []) = false := by rw [ByteArray.toList_eq, HYL.out]; simpa using hB
            have HTX : Hid (bndText bs[k] = 60 :: bs[k].2) := Lib.hid (by unfold bndText; rw [if_pos hA, if_neg hB])
            clear hA hB
            go_wp2_with fail
            all_goals
              first
              | (exfalso; have := HK.out; omega)
              | (go_roundw; (case rel => exact ⟨k + 1, X ++ ([32, 124, 124, 32] ++ bndText bs[k]), by omega, by go_num, str_ext (by rw [HTX.out]; simp [HYL.out]), by simp <;> omega, Lib.hid HJ0.out.symm, by first | exact B1 | exact B1.trans (below_drewN _ _ 1)⟩); (case measure => simp [intOf]; omega))
        · have qa : (x.toList == []) = false := by rw [ByteArray.toList_eq, HXL.out]; simpa using hA
          by_cases hB : bs[k].2 = []
          · have qb : (y.toList == []) = true := by rw [ByteArray.toList_eq, HYL.out, hB]; rfl
            have HTX : Hid (bndText bs[k] = 62 :: 61 :: bs[k].1) := Lib.hid (by unfold bndText; rw [if_neg hA, if_pos hB])
            clear hA hB
            go_wp2_with fail
            all_goals
              first
              | (exfalso; have := HK.out; omega)
              | (go_roundw; (case rel => exact ⟨k + 1, X ++ ([32, 124, 124, 32] ++ bndText bs[k]), by omega, by go_num, str_ext (by rw [HTX.out]; simp [HXL.out]), by simp <;> omega, Lib.hid HJ0.out.symm, by first | exact B1 | exact B1.trans (below_drewN _ _ 1)⟩); (case measure => simp [intOf]; omega))
          · have qb : (y.toList == []) = false := by rw [ByteArray.toList_eq, HYL.out]; simpa using hB
            have HTX : Hid (bndText bs[k] = 62 :: 61 :: bs[k].1 ++ 32 :: 60 :: bs[k].2) := Lib.hid (by unfold bndText; rw [if_neg hA, if_neg hB])
            clear hA hB
            go_wp2_with fail
            all_goals
              first
              | (exfalso; have := HK.out; omega)
              | (go_region; all_goals (go_wp2_with fail; go_roundw; (case rel => exact ⟨k + 1, X ++ ([32, 124, 124, 32] ++ bndText bs[k]), by omega, by go_num, str_ext (by rw [HTX.out]; simp [HXL.out, HYL.out]), by simp <;> omega, Lib.hid HJ0.out.symm, by first | exact B1 | exact B1.trans (below_drewN _ _ 1)⟩); (case measure => simp [intOf]; omega)))
    · have HY : Hid (rngText bs = X) := Lib.hid (by rw [HT.out, HX.out, List.take_of_length_le (by omega)])
      go_wp2_with fail
      go_ret
      exact ⟨ret_str HY.out.symm, hb⟩
end Go.Proofs.Ytjpclglklmlhlaa
