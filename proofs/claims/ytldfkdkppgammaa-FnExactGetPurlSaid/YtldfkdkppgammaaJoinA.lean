/-
  strings.Join of a list of texts at any text.
-/
import Derived.Test.YtldfkdkppgammaaJoinI
namespace Go.Proofs
open Go.Shelf
namespace Ytldfkdkppgammaa
open Go.RowKit

theorem join_flat (sep x : List UInt8) : ∀ xs : List (List UInt8), Lib.join (x :: xs) sep = x ++ xs.flatMap (fun y => sep ++ y)
  | [] => by simp [Lib.join, List.intercalate]
  | y :: ys => by
    have := join_flat sep y ys
    unfold Lib.join at this ⊢
    simp [List.intercalate] at this ⊢
    rw [this]

theorem joinSep_any (w : World) (base : Nat) (v : Value) (ls : List (List UInt8)) (sep : ByteArray) (h : Strs w base v ls) (hn : ls ≠ []) (hl : ls.length ≤ 16777216) (hj : (Lib.join ls sep.data.toList).length ≤ 140737488355328) :
    Calls Try.prog 53 #[v, .string sep] w fun e w' => e = .returned (.string ⟨(Lib.join ls sep.data.toList).toArray⟩) ∧ Below w.heap.size w w' := by
  obtain ⟨g, cap, rfl, _, hg⟩ : ∃ g cap, v = .slice (some ⟨g, 0, none⟩) ls.length cap ∧ base ≤ g ∧ g < w.heap.size := by
    rcases h.form with ⟨_, h'⟩ | h'
    · exact absurd h' hn
    · exact h'
  obtain ⟨hlen, hr⟩ := h
  have hS : Strs w base (.slice (some ⟨g, 0, none⟩) ls.length cap) ls := ⟨hlen, hr⟩
  have hcap : ls.length ≤ cap := by
    rcases hr with ⟨hv, _⟩ | ⟨g', cap', cur, hv, _, _, hc, _⟩
    · cases hv
    · simp only [Value.slice.injEq] at hv; omega
  have hm : (ls.map (fun l => (⟨l.toArray⟩ : ByteArray))).map (fun x => x.data.toList) = ls := by rw [List.map_map]; exact List.map_id'' (fun l => rfl) ls
  have hJ := Any.strings_Join Try.laysJoin Try.extraJoin g 0 cap (ls.map (fun l => (⟨l.toArray⟩ : ByteArray))) sep w (fun j x hx => by
      rw [List.getElem?_map] at hx
      cases hj : ls[j]? with
      | none => rw [hj] at hx; simp at hx
      | some y =>
        rw [hj] at hx
        simp at hx
        subst hx
        obtain ⟨hl, rfl⟩ := List.getElem?_eq_some_iff.1 hj
        rw [Nat.zero_add]
        exact hS.cell j hl) hg (by simp; omega) (by simpa using hcap) (by rw [hm]; exact hj)
  rw [hm] at hJ
  have e : (ls.map (fun l => (⟨l.toArray⟩ : ByteArray))).length = ls.length := by simp
  rw [e] at hJ
  exact hJ
end Ytldfkdkppgammaa
end Go.Proofs
