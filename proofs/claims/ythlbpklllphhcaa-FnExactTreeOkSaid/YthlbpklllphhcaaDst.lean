/-
  impl.distinct: whether no two texts of a list are alike (by a map from each to an index).
-/
import Derived.Test.YthlbpklllphhcaaCopX
import Derived.Test.YthlbpklllphhcaaGrw
import Derived.Maps.OwnSet
import Derived.Maps.OwnOps
namespace Go.Proofs.Ythlbpklllphhcaa
open Go.RowKit Go.Maps

/-- The map after k texts. -/
def dstD (ls : List (List UInt8)) : Nat → DataW Unit
  | 0 => .map []
  | k + 1 => (dstD ls k).put (.string (ls.getD k [])) (.lit (.int .i64 (k : Int)))
theorem dstD_isMap (ls : List (List UInt8)) : ∀ k, Maps.IsMap (dstD ls k)
  | 0 => Maps.isMap_empty
  | k + 1 => (dstD_isMap ls k).put _ _
theorem dstD_tidy (ls : List (List UInt8)) : ∀ k, Maps.Tidy (dstD ls k)
  | 0 => Maps.tidy_empty
  | k + 1 => (dstD_tidy ls k).put (k := .string (ls.getD k [])) trivial _
theorem ls_getD {ls : List (List UInt8)} {k : Nat} (h : k < ls.length) : ls.getD k [] = ls[k] := by rw [List.getD_eq_getElem?_getD, List.getElem?_eq_getElem h]; rfl
theorem has_dstD (ls : List (List UInt8)) (key : List UInt8) : ∀ k, k ≤ ls.length → Maps.has (dstD ls k) (.string key) = decide (key ∈ ls.take k)
  | 0, _ => by simp; rfl
  | k + 1, h => by
    have ih := has_dstD ls key k (by omega)
    have hk : k < ls.length := by omega
    unfold dstD
    rw [ls_getD hk, List.take_succ_eq_append_getElem hk]
    by_cases e : ls[k] = key
    · rw [e, Maps.has_put_same (dstD_isMap ls k) (k := .string key) trivial]; simp
    · rw [Maps.has_put_other (fun x => e (by cases x; rfl)), ih]
      congr 1
      apply propext
      simp only [List.mem_append, List.mem_singleton]
      exact ⟨.inl, fun x => x.elim id (fun y => absurd y.symm e)⟩
theorem size_dstD (ls : List (List UInt8)) : ∀ k, k ≤ ls.length → Maps.size (dstD ls k) ≤ k ∧ (Maps.size (dstD ls k) = k ↔ (ls.take k).Nodup)
  | 0, _ => ⟨Nat.le_refl _, by simp; rfl⟩
  | k + 1, h => by
    obtain ⟨i1, i2⟩ := size_dstD ls k (by omega)
    have hk : k < ls.length := by omega
    have hh := has_dstD ls ls[k] k (by omega)
    have hs := Maps.size_put (k := .string (ls.getD k [])) (dstD_tidy ls k) (.lit (.int .i64 (k : Int)))
    have e1 : dstD ls (k + 1) = (dstD ls k).put (.string (ls.getD k [])) (.lit (.int .i64 (k : Int))) := rfl
    rw [e1, hs, ls_getD hk, hh, List.take_succ_eq_append_getElem hk]
    by_cases hm : ls[k] ∈ ls.take k
    · rw [if_pos (by simpa using hm)]
      refine ⟨by omega, ⟨fun e => by omega, fun hn => ?_⟩⟩
      rw [List.nodup_append] at hn
      exact absurd rfl (hn.2.2 _ hm _ (by simp))
    · rw [if_neg (by simpa using hm)]
      refine ⟨by omega, ?_⟩
      rw [List.nodup_append]
      constructor
      · intro e
        refine ⟨i2.1 (by omega), by simp, fun a ha b hb => ?_⟩
        simp at hb
        subst hb
        exact fun x => hm (x ▸ ha)
      · intro hn
        have := i2.2 hn.1
        omega
theorem strKey : Keyed Try.prog 9 := string_keyed Try.underlying9
theorem mapDone (w : World) (n : Int) : (Instr.makeMap 145 (some (.int .i64 n))).run Try.prog w = .ok (.map (some w.heap.size)) (w.alloc (.map #[] 0)) := by
  simp [Instr.makeMap, run_underlying Try.underlying145, asInt, asIntOf, Result.andThen]

set_option maxRecDepth 100000 in
set_option maxHeartbeats 2000000 in
theorem distinct_any (v : Value) (ls : List (List UInt8)) (w : World) (hr : RdS w v ls) (hn : ls.length ≤ 1048576) (hm : ∀ l ∈ ls, l.length ≤ 1048576) :
    Calls Try.prog 109 #[v] w fun e w' => e = .returned (.bool (decide ls.Nodup)) ∧ Below w.heap.size w w' := by
  have HR := Lib.hid hr
  have HM := Lib.hid hm
  obtain ⟨A, ca, rfl, _⟩ := hr
  have hmm := mapDone
  obtain ⟨r, HRR⟩ : ∃ r, Hid (decide ls.Nodup = r) := ⟨_, Lib.hid rfl⟩
  rw [HRR.out]
  clear hm
  have B0 : Below w.heap.size w (w.alloc (.map #[] 0)) := (Below.refl _ _).alloc (Nat.le_refl _) _
  have M0 : (w.alloc (.map #[] 0)).ownsMap Try.prog 9 (plainElem (H := Unit) Try.prog 3) w.heap.size 0 (dstD ls 0) := World.ownsMap_made (H := Unit) w Try.prog 9 (plainElem (H := Unit) Try.prog 3)
  go_enter Try.func109, Try.ntmps109
  go_wp2_with fail
  go_loopw [4, 5, 11] (fun _ _ i wr => ∃ k : Nat, k ≤ ls.length ∧ i = .int .i64 k ∧ wr.ownsMap Try.prog 9 (plainElem (H := Unit) Try.prog 3) w.heap.size k (dstD ls k) ∧ Below w.heap.size w wr) (fun _ _ i _ => ls.length - (intOf i).toNat)
  case atStart => exact ⟨0, Nat.zero_le _, rfl, M0, B0⟩
  case round =>
    obtain ⟨k, hk, rfl, hM, hb⟩ := hrel
    clear B0 M0
    by_cases hlt : k < ls.length
    · obtain ⟨g, off, rfl, hg, d1⟩ := (HR.out.below hb).at k hlt
      have HN : Hid (dstD ls (k + 1) = (dstD ls k).put (.string ls[k]) (.lit (.int .i64 (k : Int)))) := Lib.hid (by rw [← ls_getD hlt]; rfl)
      have hkl := HM.out ls[k] (List.getElem_mem hlt)
      have k0 : (0 : Int) ≤ (k : Int) := by omega
      have k1 : (k : Int) < (ls.length : Int) := by omega
      obtain ⟨key, HKE⟩ : ∃ key, Hid (ls[k] = key) := ⟨_, Lib.hid rfl⟩
      rw [HKE.out] at HN hkl d1
      have hkey : Go.keyOf Try.prog 9 (.string ⟨key.toArray⟩) = some (Lit.string key) := by
        have := WideMaps.keyOf_string_mk (P := Try.prog) Try.underlying9 (s := ⟨key.toArray⟩) (by show key.toArray.size ≤ maxLen; unfold maxLen; simp; omega)
        simpa using this
      go_wp2_with (first | (at_mapUpdate; refine wpList_mapUpdate_own _ rfl _ _ _ 145 rfl 9 3 strKey Try.underlying145 (plainElem (H := Unit) Try.prog 3) w.heap.size k _ rfl hM (by unfold maxLen; omega) _ _ _ rfl rfl hkey _ [] (plainElem_int Try.underlying3 (WalkArith.wf_i64 (by omega))) ?_; intro w2 M2 hg2) | go_in)
      have B2 := hb.grown hg2 hb.size (fun j hj => by cases hj; omega)
      rw [← HN.out] at M2
      go_roundw
      case rel => exact ⟨k + 1, by omega, by go_num, M2, B2⟩
      case measure => simp [intOf]; omega
    · obtain rfl : k = ls.length := by omega
      have hsz := size_dstD ls ls.length (Nat.le_refl _)
      rw [List.take_length] at hsz
      obtain ⟨z, HZ⟩ : ∃ z, Hid (Maps.size (dstD ls ls.length) = z) := ⟨_, Lib.hid rfl⟩
      rw [HZ.out] at hsz
      obtain ⟨hz1, hz2⟩ := hsz
      by_cases hzn : z = ls.length
      · have HX : Hid (r = true) := Lib.hid (by rw [← HRR.out]; exact decide_eq_true (hz2.1 hzn))
        have q1 : ((z : Int) == (ls.length : Int)) = true := by simp [hzn]
        clear hz2 hzn
        go_wp2_with (at_len; go_loud (refine wpList_len_own _ rfl _ 145 rfl 9 3 Try.underlying145 (plainElem (H := Unit) Try.prog 3) w.heap.size ls.length (dstD ls ls.length) rfl hM ?_; rw [HZ.out]))
        go_wp2_with fail
        go_ret
        exact ⟨ret_bool HX.out.symm, hb⟩
      · have HX : Hid (r = false) := Lib.hid (by rw [← HRR.out]; exact decide_eq_false (fun h => hzn (hz2.2 h)))
        have q1 : ((z : Int) == (ls.length : Int)) = false := int_beq_false (by omega)
        clear hz2
        go_wp2_with (at_len; go_loud (refine wpList_len_own _ rfl _ 145 rfl 9 3 Try.underlying145 (plainElem (H := Unit) Try.prog 3) w.heap.size ls.length (dstD ls ls.length) rfl hM ?_; rw [HZ.out]))
        go_wp2_with fail
        go_ret
        exact ⟨ret_bool HX.out.symm, hb⟩
end Go.Proofs.Ythlbpklllphhcaa
