/-
  The walk of the law FnExactKeyOf.
-/
import Derived.Test.YtfbealgnbklooaaLawP
import Derived.Test.YtfbealgnbklooaaLawQ
import Derived.Test.YtfbealgnbklooaaKeyO
import Derived.Deep.RegionWith
namespace Go.Proofs.Ytfbealgnbklooaa
open Go.RowKit

theorem szP_good {p : Pk} {left : Int} (hl : left ≤ 1048576) (h : szP left p ≠ -1) : SmPk p := by
  unfold szP at h
  split at h
  · unfold SmPk; omega
  · exact absurd rfl h

set_option maxRecDepth 100000 in
set_option maxHeartbeats 2000000 in
theorem exKeyOf (p : Pk) (a b : Value) (w : World) (ha : RdB w a p.sums) (hb : RdS w b p.needs) (hf : PkFits p) :
    Calls Try.prog 3 #[.agg #[.string ⟨p.name.toArray⟩, .string ⟨p.ver.toArray⟩, .string ⟨p.src.toArray⟩, a, .bool p.dev, b]] w fun e w' => e = .returned (.bool true) ∧ Below w.heap.size w w' := by
  have HZ := Lib.hid (fun (W : World) (h : Below w.heap.size w W) => szPack_any p a b 1048576 W (ha.below h) (hb.below h) (by omega) (by omega) hf)
  obtain ⟨z, HX⟩ : ∃ z, Hid (szP 1048576 p = z) := ⟨_, Lib.hid rfl⟩
  have B0 : Below w.heap.size w (w.alloc (.cells #[.string ⟨p.name.toArray⟩, .string ⟨p.ver.toArray⟩, .string ⟨p.src.toArray⟩, a, .bool p.dev, b] 25)) := (Below.refl _ _).alloc (Nat.le_refl _) _
  have b0 := heap_alloc_new w (.cells #[.string ⟨p.name.toArray⟩, .string ⟨p.ver.toArray⟩, .string ⟨p.src.toArray⟩, a, .bool p.dev, b] 25)
  by_cases hz : z < 0
  · obtain ⟨A, ca, rfl⟩ := ha.slice
    obtain ⟨B, cb, rfl⟩ := hb.slice
    clear ha hb hf
    go_enter Try.func3, Try.ntmps3
    go_wp2_with fail
    refine (HZ.out _ B0).mono ?_
    rw [HX.out]
    rintro e w1 ⟨rfl, hb1⟩
    go_wp2_with fail
    go_ret
    exact ⟨rfl, B0.trans (hb1.mono B0.size)⟩
  · have HS := Lib.hid (szP_good (p := p) (left := 1048576) (by omega) (by have := HX.out; omega))
    have HT := Lib.hid (fun (W : World) (h : Below w.heap.size w W) => toPack_any p a b W (ha.below h) (hb.below h) HS.out)
    obtain ⟨A, ca, rfl⟩ := ha.slice
    obtain ⟨B, cb, rfl⟩ := hb.slice
    clear ha hb hf
    go_enter Try.func3, Try.ntmps3
    go_wp2_with fail
    refine (HZ.out _ B0).mono ?_
    rw [HX.out]
    rintro e w1 ⟨rfl, hb1⟩
    have B1 := B0.trans (hb1.mono B0.size)
    have b1 := keepB b0 hb1
    have c1 := cells6 b1
    clear hb1 b0
    go_wp2_with fail
    refine (HT.out _ B1).mono ?_
    rintro e w2 ⟨g1, e1, g2, e2, rfl, hA, hB, _, hb2⟩
    have B2 := B1.trans (hb2.mono B1.size)
    have b2 := keepB b1 hb2
    clear c1 hb2 b1 B1
    go_wp2_with fail
    refine (specKeyOf_any p _ _ _ (RdB.of_sums hA) (RdS.of_strs hB) HS.out).mono ?_
    obtain ⟨kx, HK⟩ : ∃ kx : ByteArray, Hid (⟨(keyOf p).toArray⟩ = kx) := ⟨_, Lib.hid rfl⟩
    rw [HK.out]
    rintro e w3 ⟨rfl, hb3⟩
    have B3 := B2.trans (hb3.mono B2.size)
    have b3 := keepB b2 hb3
    have c3 := cells6 b3
    clear hA hB hb3 b2 B2
    go_wp2_with fail
    refine (HT.out _ B3).mono ?_
    rintro e w4 ⟨g3, e3, g4, e4, rfl, hA, hB, _, hb4⟩
    have B4 := B3.trans (hb4.mono B3.size)
    have b4 := keepB b3 hb4
    clear c3 hb4 b3 B3
    have B5 : Below w.heap.size w (w4.alloc (.cells #[.string ⟨p.name.toArray⟩, .string ⟨p.ver.toArray⟩, .string ⟨p.src.toArray⟩, .slice (some ⟨g3, 0, none⟩) p.sums.length e3, .bool p.dev, .slice (some ⟨g4, 0, none⟩) p.needs.length e4] 30)) := B4.alloc B4.size _
    have b5 := keepA b4 (.cells #[.string ⟨p.name.toArray⟩, .string ⟨p.ver.toArray⟩, .string ⟨p.src.toArray⟩, .slice (some ⟨g3, 0, none⟩) p.sums.length e3, .bool p.dev, .slice (some ⟨g4, 0, none⟩) p.needs.length e4] 30)
    have b6 := heap_alloc_new w4 (.cells #[.string ⟨p.name.toArray⟩, .string ⟨p.ver.toArray⟩, .string ⟨p.src.toArray⟩, .slice (some ⟨g3, 0, none⟩) p.sums.length e3, .bool p.dev, .slice (some ⟨g4, 0, none⟩) p.needs.length e4] 30)
    have B45 : Below w4.heap.size w4 (w4.alloc (.cells #[.string ⟨p.name.toArray⟩, .string ⟨p.ver.toArray⟩, .string ⟨p.src.toArray⟩, .slice (some ⟨g3, 0, none⟩) p.sums.length e3, .bool p.dev, .slice (some ⟨g4, 0, none⟩) p.needs.length e4] 30)) := (Below.refl _ _).alloc (Nat.le_refl _) _
    have hA5 := hA.below B45
    have hB5 := hB.below B45
    clear hA hB
    go_wp2_with fail
    refine (implKeyOf_any p _ _ _ (RdB.of_sums hA5) (RdS.of_strs hB5) HS.out).mono ?_
    rw [HK.out]
    rintro e w6 ⟨rfl, hb6⟩
    have B6 := B5.trans (hb6.mono B5.size)
    have x6 := keepB b6 hb6
    obtain ⟨c60, c61, c62, c63, c64, c65⟩ := cells6 x6
    obtain ⟨c70, c71, c72, c73, c74, c75⟩ := cells6 (keepB b5 hb6)
    have l6 := lt_of_heap x6
    have hA6 := hA5.below hb6
    have hB6 := hB5.below hb6
    have HQ := Lib.hid (fun (W : World) (h : Below w6.heap.size w6 W) (a' b' : Value) (r1 : RdB W a' p.sums) (r2 : RdS W b' p.needs) => eqPack_same p _ _ a' b' W ((RdB.of_sums hA6).below h) ((RdS.of_strs hB6).below h) r1 r2 HS.out)
    clear hb6 b4 b5 b6 B4 B5 B45 hA5 hB5
    go_wp2_with fail
    go_region_with (first | (go_at_call 10; refine (HT.out _ (by first | exact B6.trans (below_drewN _ _ 1))).mono ?_; rintro e w7 ⟨g5, e5, g6, e6, rfl, hA7, hB7, _, hb7⟩; obtain ⟨z0, z1, z2, z3, z4, z5⟩ := cells6 (keepB (W := w6.drewN 1) x6 hb7)) | (go_at_call 12; refine (HQ.out _ ((below_drewN _ _ 1).trans (hb7.mono (Nat.le_refl _))) _ _ (RdB.of_sums hA7) (RdS.of_strs hB7)).mono ?_; rintro e w8 ⟨rfl, hb8⟩))
    all_goals
      go_wp2_with fail
      go_ret
      exact ⟨rfl, (B6.trans (below_drewN _ _ 1)).trans ((hb7.trans (hb8.mono hb7.size)).mono B6.size)⟩
end Go.Proofs.Ytfbealgnbklooaa
