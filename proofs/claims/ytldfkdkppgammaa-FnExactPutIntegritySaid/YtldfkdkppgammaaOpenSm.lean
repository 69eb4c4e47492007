/-
  Arguments opened: a list of sums.
-/
import Derived.Test.YtldfkdkppgammaaOpenP
namespace Go.Proofs.Ytldfkdkppgammaa
open Go.ChangeShapes Go.WideShapes Go.RowKit Go.Deep Go.Joins

section
variable {H : Type} {enc : TypeId × Value → H} {W : World} {spare : Nat → Bool} {held : Bool}

set_option maxRecDepth 100000 in
theorem open_sumsV {r : Reach} {b0 : Nat} {v : Value} {d : DataW H} {p : List MemPlace} (hv : Value.okWide Try.prog W r b0 26 v) (h : DataW.Trod enc Try.prog W 0 spare held 26 v d p) :
    ∃ bs, RdB W v bs ∧ bs.length ≤ maxLen ∧ ∀ b ∈ bs, b.1.length ≤ maxLen ∧ b.2.length ≤ maxLen := by
  obtain ⟨a, len, cap, rfl⟩ := okWide_slice Try.underlying26 hv
  obtain ⟨fuel, hf⟩ := h
  exact open_sums (by simpa [Value.cells] using hf)
end
end Go.Proofs.Ytldfkdkppgammaa
