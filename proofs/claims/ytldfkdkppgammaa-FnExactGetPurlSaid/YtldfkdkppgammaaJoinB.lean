/-
  strings.Join of any list of texts of the call's own.
-/
import Derived.Test.YtldfkdkppgammaaJoinA
namespace Go.Proofs
open Go.Shelf
namespace Ytldfkdkppgammaa
open Go.RowKit

theorem joinAll_any (w : World) (base : Nat) (v : Value) (ls : List (List UInt8)) (sep : List UInt8) (h : Strs w base v ls) (hl : ls.length ≤ 16777216) (hj : (Lib.join ls sep).length ≤ 140737488355328) :
    Calls Try.prog 53 #[v, .string ⟨sep.toArray⟩] w fun e w' => e = .returned (.string ⟨(Lib.join ls sep).toArray⟩) ∧ Below w.heap.size w w' := by
  by_cases hn : ls = []
  · subst hn
    obtain ⟨A, c, rfl⟩ : ∃ A c, v = .slice A 0 c := by
      rcases h.form with ⟨rfl, _⟩ | ⟨g, cap, rfl, _, _⟩
      · exact ⟨_, _, rfl⟩
      · exact ⟨_, _, rfl⟩
    exact (Any.strings_Join_none Try.laysJoin Try.extraJoin A c ⟨sep.toArray⟩ w).mono fun e w' h => ⟨h.1, by rw [h.2]; exact Below.refl _ _⟩
  · exact joinSep_any w base v ls ⟨sep.toArray⟩ h hn hl hj
end Ytldfkdkppgammaa
end Go.Proofs
