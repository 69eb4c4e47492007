/-
  Arguments opened: a need.
-/
import Derived.Test.YtnodhkjgnegkcaaGreatDoorNdOpen
import Derived.Test.YtnodhkjgnegkcaaGreatDoorOpenL
namespace Go.Proofs.YtnodhkjgnegkcaaGreatDoor
open Go.ChangeShapes Go.WideShapes Go.RowKit Go.Deep Go.Joins

section
variable {H : Type} {enc : TypeId × Value → H} {W : World} {spare : Nat → Bool} {held : Bool}

set_option maxRecDepth 100000 in
theorem open_need {r : Reach} {b0 : Nat} {v : Value} {d : DataW H} {p : List MemPlace} (hv : Value.okWide Tryz.prog W r b0 163 v) (h : DataW.Trod enc Tryz.prog W 0 spare held 163 v d p) :
    ∃ (a b : ByteArray), v = .agg #[.string a, .string b] ∧ a.size ≤ maxLen ∧ b.size ≤ maxLen := by
  obtain ⟨v0, v1, y0, y1, n, rfl, _, _, h0, h1⟩ := open_agg2 Tryz.underlying163 (by kernel_rfl) (by kernel_rfl) hv h
  obtain ⟨s0, e0, _, z0⟩ := DataW.trod_string Tryz.underlying9 h0
  obtain ⟨s1, e1, _, z1⟩ := DataW.trod_string Tryz.underlying9 h1
  simp at e0 e1
  subst e0 e1
  exact ⟨s0, s1, rfl, z0, z1⟩
end
end Go.Proofs.YtnodhkjgnegkcaaGreatDoor
