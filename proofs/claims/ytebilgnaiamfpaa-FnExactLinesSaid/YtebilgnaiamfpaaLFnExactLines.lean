/-
  At every argument the law FnExactLines returns true and leaves its arguments as they were. No condition.
-/
import Derived.Test.YtebilgnaiamfpaaRows
import Derived.WalkKit
import Derived.ProofKit
import Derived.OpenShut
import Derived.ShutString
import Derived.ChangeOld
import Derived.Below
import Derived.Test.YtebilgnaiamfpaaLines
namespace Go.Proofs.Ytebilgnaiamfpaa.fnExactLines
open Go.ChangeShapes Go.WideShapes Go.ChangeAt Go.RowKit
open Go.ChangeMaps (open_string shut_string)
set_option linter.unusedVariables false

theorem own : ownKnob Try.prog.godebug = none := by kernel_rfl

theorem walk (a0 : ByteArray) (w0 : a0.size ≤ maxLen) (w : World) :
    Calls Try.prog 7 #[.string a0] w fun e w' => e = .returned (.bool true) ∧ Below w.heap.size w w' := by
  by_cases hbig : 1048576 < a0.size
  · go_enter Try.func7, Try.ntmps7
    go_wp2_with fail
    go_ret
    exact ⟨rfl, Below.refl _ _⟩
  · have hsz : a0.size ≤ 1048576 := by omega
    obtain ⟨ls, hls⟩ : ∃ ls, ls = linesL a0.data.toList := ⟨_, rfl⟩
    have HLL : Hid (ls.length ≤ 2000000) := Lib.hid (by have := linesL_le a0.data.toList; rw [hls]; simp at this; omega)
    have HI : Hid (∀ W, Calls Try.prog 25 #[.string a0] W fun e W' => ∃ g cap, e = .returned (.slice (some ⟨g, 0, none⟩) ls.length cap) ∧ Strs W' W.heap.size (.slice (some ⟨g, 0, none⟩) ls.length cap) ls ∧ Below W.heap.size W W') := Lib.hid (fun W => by rw [hls]; exact implLines_any a0 W hsz)
    have HSp : Hid (∀ W, Calls Try.prog 24 #[.string a0] W fun e W' => ∃ g cap, e = .returned (.slice (some ⟨g, 0, none⟩) ls.length cap) ∧ Strs W' W.heap.size (.slice (some ⟨g, 0, none⟩) ls.length cap) ls ∧ Below W.heap.size W W') := Lib.hid (fun W => by rw [hls]; exact specLines_any a0 W hsz)
    clear hls
    go_enter Try.func7, Try.ntmps7
    go_wp2_with fail
    refine (HSp.out _).mono ?_
    rintro e w1 ⟨gs, cs, rfl, hSs, hb1⟩
    go_wp2_with fail
    refine (HI.out _).mono ?_
    rintro e w2 ⟨gi, ci, rfl, hSi, hb2⟩
    go_wp2_with fail
    refine (eqStringS_same _ _ ls w2 (RdS.of_strs hSi) (RdS.of_strs (hSs.below hb2)) (by have := HLL.out; omega)).mono ?_
    rintro e w3 ⟨rfl, n1, rfl⟩
    have hgi : w1.heap.size ≤ gi := by
      rcases hSi.form with ⟨h, _⟩ | ⟨g', cap', h, hg, _⟩
      · cases h
      · simp only [Value.slice.injEq, Option.some.injEq, Addr.mk.injEq, and_true] at h
        rw [h.1]; exact hg
    go_wp2_with fail
    refine (markStringS_any _ w1.heap.size gi ci ls (hSi.below (below_drewN _ w2 n1)) hb2.size hgi HLL.out).mono ?_
    rintro e w4 ⟨rfl, hSm, hb4⟩
    have HB4 : Below w1.heap.size w1 w4 := hb2.trans ((below_drewN _ w2 n1).trans hb4)
    go_wp2_with fail
    refine (heldStringS_any _ w1.heap.size gi ci ls hSm HLL.out).mono ?_
    rintro e w5 ⟨rfl, hb5⟩
    have HB5 : Below w1.heap.size w1 w5 := HB4.trans (hb5.mono HB4.size)
    go_wp2_with fail
    refine (HI.out _).mono ?_
    rintro e w6 ⟨gj, cj, rfl, hSj, hb6⟩
    have HB6 : Below w1.heap.size w1 w6 := HB5.trans (hb6.mono HB5.size)
    go_wp2_with fail
    refine (eqStringS_same _ _ ls w6 (RdS.of_strs hSj) (RdS.of_strs (hSs.below HB6)) (by have := HLL.out; omega)).mono ?_
    rintro e w7 ⟨rfl, n2, rfl⟩
    have hSm6 := ((hSm.below hb5).below hb6).below (below_drewN _ w6 n2)
    go_wp2_with fail
    refine (heldStringS_any _ w1.heap.size gi ci ls hSm6 HLL.out).mono ?_
    rintro e w8 ⟨rfl, hb8⟩
    have HB8 : Below w1.heap.size w1 w8 := HB6.trans ((below_drewN _ w6 n2).trans (hb8.mono HB6.size))
    go_wp2_with fail
    go_ret
    exact ⟨rfl, hb1.trans (HB8.mono hb1.size)⟩

set_option maxRecDepth 100000 in
theorem lifted (os : Os) (started : os.Started) (H : Type) (enc : TypeId × Value → H) :
    ReturnsInHanded {} Try.checked os 7 .any (Rows.fnExactLinesSpec.pre6 enc Try.prog Try.f7 Rows.fnExactLinesRow.domain false) (Rows.fnExactLinesSpec.post enc Try.prog Try.f7 false true false false) := by
  refine returnsInHanded_of_change (C := Try.checked) own started (by kernel_rfl) Try.func7
    (ChangeSpec.witness6 (enc := enc) (C := Try.checked) false ⟨#[], #[.string ByteArray.empty], []⟩ 8 (by kernel_rfl) (by kernel_rfl) (by kernel_rfl) (by kernel_rfl)) ?_
  intro W base args ds gs before hval0 hW hcnd _
  have hval : ∀ (j : Nat) t v, Try.f7.params[j]? = some t → args[j]? = some v → Value.okWide Try.prog W .any base t v := hval0
  have hW' := hW
  obtain ⟨p, q, hA0, hV, rfl, hfz, hnd⟩ := hW
  have hA : DataW.TrodAll enc Try.prog W 0 (fun _ => true) true Try.f7.params.toList args.toList ds p := hA0
  rw [Try.params7] at hA hval
  obtain ⟨v0, vs0, d0, ds0, p0, q0, hargs, rfl, rfl, h0, r0⟩ := trodAll_cons hA
  obtain ⟨rfl, rfl, rfl⟩ := trodAll_nil r0
  obtain rfl : args = #[v0] := by cases args; simp_all
  obtain ⟨rfl, rfl⟩ := trodVars_none hV
  obtain ⟨a0, rfl, rfl, rfl, w0⟩ := open_string Try.underlying9 (hval 0 9 v0 rfl rfl) h0
  clear hA0 hval0
  refine (walk a0 w0 W).mono fun e W' ⟨he, bel⟩ => ?_
  subst he
  exact ⟨_, rfl, _, _, _, [], _, [], hW', trodAll_mk1 (shut_bool Try.underlying4 _), (trodAll_cons_mk (shut_string Try.underlying9 w0) trodAll_mk0), rfl, bel.frame _, fun h => by cases h⟩

theorem over : Rows.fnExactLinesRow.holds Try.pinned (OpenSpec.ofChange Rows.fnExactLinesSpec) :=
  OpenClaim.holds_of_wide 7 Try.f7 rfl rfl rfl rfl rfl rfl rfl ⟨rfl, rfl, rfl, rfl, rfl⟩ rfl rfl rfl rfl rfl (by kernel_rfl) Try.func7 (by kernel_rfl)
    (of_decide_eq_true (by kernel_rfl)) (by unfold Func.isWrapper; first | (rw [if_pos (by decide +kernel)]; kernel_rfl) | (rw [if_neg (by decide +kernel)]; exact ⟨rfl, rfl⟩))
    (fun os started H enc _ => lifted os started H enc)

end Go.Proofs.Ytebilgnaiamfpaa.fnExactLines

namespace Go.Proofs.Ytebilgnaiamfpaa
theorem fnExactLines_proved : Rows.FnExactLinesSaid := fnExactLines.over
#print axioms fnExactLines_proved
end Go.Proofs.Ytebilgnaiamfpaa
