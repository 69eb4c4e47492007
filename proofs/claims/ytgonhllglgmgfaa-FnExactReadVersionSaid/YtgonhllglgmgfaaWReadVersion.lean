/-
  The walk of the law FnExactReadVersion.
-/
import Derived.Test.YtgonhllglgmgfaaRdI
import Derived.Test.YtgonhllglgmgfaaRdS
import Derived.Test.YtgonhllglgmgfaaMarkV
namespace Go.Proofs.Ytgonhllglgmgfaa
open Go.RowKit

/-- The answer of ReadVersion, its parts named. -/
def Rd (w : World) (ok : Bool) (n1 n2 n3 : Int) (nl : List (List UInt8)) (e : Ending) (w' : World) : Prop := ∃ u, e = .returned (.tuple #[.agg #[.int .i64 n1, .int .i64 n2, .int .i64 n3, u], .bool ok]) ∧ Strs w' w.heap.size u nl ∧ Below w.heap.size w w'

set_option maxRecDepth 100000 in
set_option maxHeartbeats 4000000 in
theorem exReadVersion (s : ByteArray) (w : World) (hs0 : s.size ≤ maxLen) :
    Calls Try.prog 4 #[.string s] w fun e w' => e = .returned (.bool true) ∧ Below w.heap.size w w' := by
  unfold maxLen at hs0
  by_cases hbig : 1048576 < s.size
  · go_enter Try.func4, Try.ntmps4
    go_wp2_with fail
    go_ret
    exact ⟨rfl, Below.refl _ _⟩
  · have hs : s.size ≤ 1048576 := by omega
    obtain ⟨ok, HO⟩ : ∃ x, Hid (readOk s.data.toList = x) := ⟨_, Lib.hid rfl⟩
    obtain ⟨n1, H1⟩ : ∃ x, Hid (readA s.data.toList 0 = x) := ⟨_, Lib.hid rfl⟩
    obtain ⟨n2, H2⟩ : ∃ x, Hid (readA s.data.toList 1 = x) := ⟨_, Lib.hid rfl⟩
    obtain ⟨n3, H3⟩ : ∃ x, Hid (readA s.data.toList 2 = x) := ⟨_, Lib.hid rfl⟩
    obtain ⟨nl, HL⟩ : ∃ x, Hid (readP s.data.toList = x) := ⟨_, Lib.hid rfl⟩
    have hnl : nl.length ≤ 5 := by have := readP_sm s.data.toList; rw [HL.out] at this; exact this
    have HSp := Lib.hid (fun (W : World) => (specReadVersion_any s W hs).mono (fun e w' (h : ReadIs W s.data.toList e w') => (show Rd W ok n1 n2 n3 nl e w' by unfold ReadIs at h; rw [HO.out, H1.out, H2.out, H3.out, HL.out] at h; exact h)))
    have HIm := Lib.hid (fun (W : World) => (implReadVersion_any s W hs).mono (fun e w' (h : ReadIs W s.data.toList e w') => (show Rd W ok n1 n2 n3 nl e w' by unfold ReadIs at h; rw [HO.out, H1.out, H2.out, H3.out, HL.out] at h; exact h)))
    clear HO H1 H2 H3 HL
    have qo : (ok != ok) = false := by simp
    have hbn : decide ((1048576 : Int) < (s.size : Int)) = false := by simp; omega
    clear hbig
    go_enter Try.func4, Try.ntmps4
    go_wp2_with fail
    refine (HSp.out _).mono ?_
    rintro e w1 ⟨uw, rfl, hSw1, hb1⟩
    obtain ⟨Aw, cw, rfl⟩ := hSw1.slice
    have hl0 : w.heap.size ≤ w1.heap.size := hb1.size
    have B1 := hb1.alloc hb1.size (.cells #[.int .i64 n1, .int .i64 n2, .int .i64 n3, .slice Aw nl.length cw] 27)
    have hW1 := heap_alloc_new w1 (.cells #[.int .i64 n1, .int .i64 n2, .int .i64 n3, .slice Aw nl.length cw] 27)
    have hSw := hSw1.alloc (.cells #[.int .i64 n1, .int .i64 n2, .int .i64 n3, .slice Aw nl.length cw] 27)
    have hwlt := hSw1.block_lt
    clear hSw1 hb1
    go_wp2_with fail
    refine (HIm.out _).mono ?_
    rintro e w2 ⟨ug, rfl, hSg2, hb2⟩
    obtain ⟨Ag, cg, rfl⟩ := hSg2.slice
    have B2 := (B1.trans (hb2.mono B1.size)).alloc (Nat.le_trans B1.size hb2.size) (.cells #[.int .i64 n1, .int .i64 n2, .int .i64 n3, .slice Ag nl.length cg] 27)
    have hW2 := keepA (keepB hW1 hb2) (.cells #[.int .i64 n1, .int .i64 n2, .int .i64 n3, .slice Ag nl.length cg] 27)
    have hG2 := heap_alloc_new w2 (.cells #[.int .i64 n1, .int .i64 n2, .int .i64 n3, .slice Ag nl.length cg] 27)
    have hSg := hSg2.alloc (.cells #[.int .i64 n1, .int .i64 n2, .int .i64 n3, .slice Ag nl.length cg] 27)
    have hSw2 := (hSw.below hb2).alloc (.cells #[.int .i64 n1, .int .i64 n2, .int .i64 n3, .slice Ag nl.length cg] 27)
    have hglo := hSg2.owned
    have hglt := hSg2.block_lt
    have l12 : w1.heap.size + 1 ≤ w2.heap.size := by have := hb2.size; simpa using this
    simp only [World.size_alloc] at hglo
    clear hW1 hSw hSg2 hb2 B1
    obtain ⟨p0, p1, p2, p3⟩ := cells4 hG2
    obtain ⟨q0, q1, q2, q3⟩ := cells4 hW2
    go_wp2_with fail
    refine (eqVersion_same n1 n2 n3 _ _ nl _ (RdS.of_strs hSg) (RdS.of_strs hSw2) (by omega)).mono ?_
    rintro e w3 ⟨rfl, hb3⟩
    have B3 := B2.trans (hb3.mono B2.size)
    have hW3 := keepB hW2 hb3
    have hG3 := keepB hG2 hb3
    have hSg3 := hSg.below hb3
    have hSw3 := hSw2.below hb3
    clear hW2 hG2 hSg hSw2 hb3 B2 p0 p1 p2 p3 q0 q1 q2 q3
    obtain ⟨p0, p1, p2, p3⟩ := cells4 hG3
    go_wp2_with fail
    refine (markVersion_gr n1 n2 n3 _ _ _ nl hSg3 (by omega)).mono ?_
    rintro e w11 ⟨rfl, hSm11, hg11⟩
    have hne11 : ∀ B, B < w1.heap.size + 1 → some B ≠ (Value.slice Ag nl.length cg).ownBlock := fun B h e => by have := hglo B e.symm; omega
    have hne5 : some w2.heap.size ≠ (Value.slice Ag nl.length cg).ownBlock := fun e => by have := hglt _ e.symm; omega
    have hW11 := gr_heap hg11 hW3 (hne11 _ (by omega))
    have hG11 := gr_heap hg11 hG3 hne5
    have hSw11 := hSw3.grown hg11 (fun g h => hne11 g (by have := hwlt g h; omega))
    have B11 : Below w.heap.size w w11 := gr_belowN B3 hg11 B3.size (fun g h => by have := hglo g h; omega)
    clear hW3 hG3 hSg3 hSw3 hg11 B3 p0 p1 p2 p3
    obtain ⟨p0, p1, p2, p3⟩ := cells4 hG11
    go_wp2_with fail
    refine (heldVersion_any n1 n2 n3 _ _ _ nl hSm11 (by omega)).mono ?_
    rintro e w12 ⟨rfl, hb12⟩
    have hW12 := keepB hW11 hb12
    have hG12 := keepB hG11 hb12
    have hSm12 := hSm11.below hb12
    have hSw12 := hSw11.below hb12
    have B12 := B11.trans (hb12.mono B11.size)
    clear hW11 hG11 hSm11 hSw11 hb12 B11 p0 p1 p2 p3
    go_wp2_with fail
    refine (HIm.out _).mono ?_
    rintro e w14 ⟨uh, rfl, hSh14, hb14⟩
    obtain ⟨Ah, ch, rfl⟩ := hSh14.slice
    have B14 := (B12.trans (hb14.mono B12.size)).alloc (Nat.le_trans B12.size hb14.size) (.cells #[.int .i64 n1, .int .i64 n2, .int .i64 n3, .slice Ah nl.length ch] 27)
    have hW14 := keepA (keepB hW12 hb14) (.cells #[.int .i64 n1, .int .i64 n2, .int .i64 n3, .slice Ah nl.length ch] 27)
    have hG14 := keepA (keepB hG12 hb14) (.cells #[.int .i64 n1, .int .i64 n2, .int .i64 n3, .slice Ah nl.length ch] 27)
    have hH14 := heap_alloc_new w14 (.cells #[.int .i64 n1, .int .i64 n2, .int .i64 n3, .slice Ah nl.length ch] 27)
    have hSm14 := (hSm12.below hb14).alloc (.cells #[.int .i64 n1, .int .i64 n2, .int .i64 n3, .slice Ah nl.length ch] 27)
    have hSw14 := (hSw12.below hb14).alloc (.cells #[.int .i64 n1, .int .i64 n2, .int .i64 n3, .slice Ah nl.length ch] 27)
    have hSh := hSh14.alloc (.cells #[.int .i64 n1, .int .i64 n2, .int .i64 n3, .slice Ah nl.length ch] 27)
    clear hW12 hG12 hSm12 hSw12 hb14 B12 hSh14
    obtain ⟨p0, p1, p2, p3⟩ := cells4 hH14
    obtain ⟨q0, q1, q2, q3⟩ := cells4 hW14
    go_wp2_with fail
    refine (eqVersion_same n1 n2 n3 _ _ nl _ (RdS.of_strs hSh) (RdS.of_strs hSw14) (by omega)).mono ?_
    rintro e w15 ⟨rfl, hb15⟩
    have hG15 := keepB hG14 hb15
    have hSm15 := hSm14.below hb15
    have B15 := B14.trans (hb15.mono B14.size)
    clear hW14 hG14 hH14 hSm14 hSw14 hSh hb15 B14 p0 p1 p2 p3 q0 q1 q2 q3
    obtain ⟨p0, p1, p2, p3⟩ := cells4 hG15
    go_wp2_with fail
    refine (heldVersion_any n1 n2 n3 _ _ _ nl hSm15 (by omega)).mono ?_
    rintro e w16 ⟨rfl, hb16⟩
    have B16 := B15.trans (hb16.mono B15.size)
    clear p0 p1 p2 p3
    go_wp2_with fail
    go_ret
    exact ⟨rfl, B16⟩
end Go.Proofs.Ytgonhllglgmgfaa
