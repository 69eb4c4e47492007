/-
  Equal neighbours of a list in order struck: the list of its versions, each once.
-/
import Derived.Test.YtcfkhfbhmjfhdaaGreatDoorSortM
import Derived.Lib.SlicesCompact
namespace Go.Proofs.YtcfkhfbhmjfhdaaGreatDoor
open Go.RowKit

theorem cmpT_anti {s t : List UInt8} (h1 : cmpT s t ≤ 0) (h2 : cmpT t s ≤ 0) : cmpT s t = 0 := by
  have := cmp_T.1 s t; omega
theorem get!_of {T : List (List UInt8)} {m : Nat} (h : m < T.length) : T.toArray[m]! = T[m] := by
  rw [getElem!_pos T.toArray m (by simpa using h)]; simp
theorem compact_inv {T : List (List UInt8)} (hok : ∀ t ∈ T, readOk t = true) (hs : ∀ i j (_ : i < j) (hj : j < T.length), cmpT (T[i]'(by omega)) T[j] ≤ 0) :
    ∀ m, m ≤ T.length → Up (Lib.compactUpTo T.toArray m) ∧ ∀ t, t ∈ Lib.compactUpTo T.toArray m ↔ t ∈ T.take m
  | 0, _ => ⟨by simp [Lib.compactUpTo, Up], fun t => by simp [Lib.compactUpTo]⟩
  | m + 1, hm => by
    obtain ⟨hu, hmem⟩ := compact_inv hok hs m (by omega)
    have hlt : m < T.length := by omega
    rw [Lib.compactUpTo_succ, get!_of hlt]
    have htake : T.take (m + 1) = T.take m ++ [T[m]] := List.take_succ_eq_append_getElem hlt
    by_cases hk : Lib.keeps T.toArray m = true
    · rw [if_pos hk]
      refine ⟨?_, fun t => by rw [htake, List.mem_append, List.mem_append, hmem t]⟩
      unfold Up at hu ⊢
      rw [List.pairwise_append]
      refine ⟨hu, by simp, fun t ht x hx => ?_⟩
      simp at hx
      subst hx
      obtain ⟨i, hi, rfl⟩ := List.mem_take_iff_getElem.1 ((hmem t).1 ht)
      have hi' : i < m := by omega
      have h1 := hs i m hi' hlt
      suffices hne : ¬ cmpT T[i] T[m] = 0 by omega
      intro h0
      have heq : T[i] = T[m] := (cmpT_zero (hok _ (List.getElem_mem _)) (hok _ (List.getElem_mem _))).1 h0
      have hprev : T[m - 1]'(by omega) = T[m] := by
        by_cases hd : i = m - 1
        · subst hd; exact heq
        · have a1 := hs i (m - 1) (by omega) (by omega)
          have a2 := hs (m - 1) m (by omega) hlt
          rw [heq] at a1
          exact (cmpT_zero (hok _ (List.getElem_mem _)) (hok _ (List.getElem_mem _))).1 (cmpT_anti a2 a1)
      unfold Lib.keeps at hk
      rw [decide_eq_true_eq] at hk
      rcases hk with h | h
      · omega
      · exact h (by rw [get!_of hlt, get!_of (show m - 1 < T.length by omega), hprev])
    · rw [if_neg hk, List.append_nil]
      refine ⟨hu, fun t => ?_⟩
      rw [hmem t, htake, List.mem_append]
      refine ⟨Or.inl, fun h => h.elim id (fun h => ?_)⟩
      simp at h
      subst h
      unfold Lib.keeps at hk
      rw [decide_eq_true_eq] at hk
      have hm0 : m ≠ 0 := fun h => hk (Or.inl h)
      have he : T[m] = T[m - 1]'(by omega) := by
        by_cases h : T.toArray[m]! = T.toArray[m - 1]!
        · rwa [get!_of hlt, get!_of (show m - 1 < T.length by omega)] at h
        · exact absurd (Or.inr h) hk
      rw [he]
      exact List.mem_take_iff_getElem.2 ⟨m - 1, by omega, rfl⟩
theorem sortOf_compact {ls T : List (List UInt8)} (hT : ∀ t, t ∈ T ↔ t ∈ ls ∧ readOk t = true) (hs : ∀ i j (_ : i < j) (hj : j < T.length), cmpT (T[i]'(by omega)) T[j] ≤ 0) : SortOf ls (Lib.compact T) := by
  have h := compact_inv (fun t ht => ((hT t).1 ht).2) hs T.length (Nat.le_refl _)
  refine ⟨h.1, fun t => ?_⟩
  have := h.2 t
  rw [List.take_length] at this
  exact this.trans (hT t)
end Go.Proofs.YtcfkhfbhmjfhdaaGreatDoor
