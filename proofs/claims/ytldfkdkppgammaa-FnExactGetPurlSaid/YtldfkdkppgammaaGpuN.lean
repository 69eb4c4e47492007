/-
  The reader of package URLs: its name.
-/
import Derived.Test.YtldfkdkppgammaaGpuI
import Derived.Test.YtldfkdkppgammaaSplN
import Derived.Test.YtldfkdkppgammaaJoinB
namespace Go.Proofs.Ytldfkdkppgammaa
open Go.RowKit Go.Shelf
attribute [local go_sem] Oper.semAt_some

set_option maxRecDepth 100000 in
set_option maxHeartbeats 4000000 in
theorem name_in (n : Nat) (hn : 4 ≤ n) (q : Nat) (T : TypeId) (l : List UInt8) (m : Int) (w : World) (hl : l.length ≤ 1048576) (hq : w.heap[q]? = some (.cells #[.string ⟨l.toArray⟩] T)) (hm : w.cell? ⟨0, 0, none⟩ = some (.int .i64 m)) :
    CallsIn Fence.wide n Try.prog 82 #[.pointer (some ⟨q, 0, none⟩)] w fun e W' => e = .returned (.string ⟨(nameP (cutL 47 (cutA 64 l))).toArray⟩) ∧ W'.heap[q]? = some (.cells #[.string ⟨(cutB 64 l).toArray⟩] T) ∧ w.grownBy W' (some q) := by
  have h1 : 1 ≤ n := by omega
  have hn2 : 1 ≤ n - 1 - 1 := by omega
  have hqs := lt_of_heap hq
  have HU : Hid (∀ W, Below w.heap.size w W → Calls Try.prog 85 #[.pointer (some ⟨q, 0, none⟩), .string ⟨#[64]⟩] W fun e w' => e = .returned (.string ⟨(cutA 64 l).toArray⟩) ∧ CurTo q T W (cutB 64 l) w') := Lib.hid (fun W h => by
    have := upTo_any q T l [64] m W hl (keepB hq h) (keepC h hm)
    rw [(cut_one 64 l).1, (cut_one 64 l).2] at this
    exact this)
  have hul := cut_len 64 l
  obtain ⟨U, HUU⟩ : ∃ U, Hid (cutA 64 l = U) := ⟨_, Lib.hid rfl⟩
  obtain ⟨R, HRR⟩ : ∃ R, Hid (cutB 64 l = R) := ⟨_, Lib.hid rfl⟩
  simp only [HUU.out, HRR.out] at HU
  rw [HUU.out, HRR.out] at hul
  rw [HUU.out, HRR.out]
  have B0 : Below w.heap.size w ((w.alloc (.cells #[] 9)).alloc (.cells #[.slice (some ⟨w.heap.size, 0, none⟩) 0 0] 33)) := ((Below.refl _ w).alloc (Nat.le_refl _) _).alloc (by simp) _
  refine callsIn_of_wp_marks Try.func82 rfl trivial ?_ rfl
  simp only [Try.ntmps82, List.size_toArray, List.length_cons, List.length_nil, Nat.reduceAdd, Nat.reduceSub, Array.replicate_succ, Array.replicate_zero, List.push_toArray, List.append_toArray, List.nil_append, List.cons_append]
  gi_wp2_with (refine ⟨trivial, ?_⟩; gi_at_call 85; refine (callsIn_wide.2 (HU.out _ B0)).mono ?_; rintro e w3 ⟨rfl, hu3⟩)
  gi_wp2_with (refine ⟨trivial, ?_⟩; gi_at_call 77; refine (partsOf_in _ _ _ _).mono ?_; rintro e w' ⟨rfl, rfl⟩)
  have hz3 : w3.heap.size = w.heap.size + 1 + 1 := by rw [hu3.2.2]; simp
  have hq3 := hu3.1
  obtain ⟨V, hVs, hVB, hVq, hVg⟩ : ∃ V : World, V.heap.size = w.heap.size ∧ Below w.heap.size V w3 ∧ V.heap[q]? = some (.cells #[.string ⟨R.toArray⟩] T) ∧ w.grownBy V (some q) := by
    refine ⟨w.setCell ⟨q, 0, none⟩ (.string ⟨R.toArray⟩), by simp, ?_, heap_one hq _, gr_set w q 0 _⟩
    refine ⟨hu3.2.1.os, hu3.2.1.tape, hu3.2.1.output, by rw [hz3]; simp; omega, fun i hi => ?_⟩
    by_cases e : i = q
    · subst e; rw [hq3, heap_one hq]
    · rw [heap_setCell_other w ⟨q, 0, none⟩ i _ e]
      exact (hu3.2.1.block i (by simp; omega) (fun h => e (by cases h; rfl))).trans (B0.block i hi)
  have bx0 := Boxed.new (w.alloc (.cells #[] 9)) 33 (.slice (some ⟨w.heap.size, 0, none⟩) 0 0)
  simp only [World.size_alloc] at bx0
  have bx : Boxed w3 (w.heap.size + 1) 33 (.slice (some ⟨w.heap.size, 0, none⟩) 0 0) := bx0.kept hu3.2.1 (by simp; omega)
  clear bx0
  have sx : Strs w3 w.heap.size (.slice (some ⟨w.heap.size, 0, none⟩) 0 0) [] := ((Strs.empty w w.heap.size (Nat.le_refl _)).alloc (.cells #[.slice (some ⟨w.heap.size, 0, none⟩) 0 0] 33)).grown hu3.2.1 (fun g hg e => by simp [Value.ownBlock] at hg; cases e; omega)
  have b3 := Boxed.new w3 9 (.string ⟨U.toArray⟩)
  have b4 := Boxed.new (w3.alloc (.cells #[.string ⟨U.toArray⟩] 9)) 5 (.int .u8 47)
  simp only [World.size_alloc] at b4
  rw [hz3] at b3 b4 ⊢
  have hB0 : Below w.heap.size V ((w3.alloc (.cells #[.string ⟨U.toArray⟩] 9)).alloc (.cells #[.int .u8 47] 5)) := (hVB.alloc (by omega) _).alloc (by simp; omega) _
  have b1' := (bx.alloc (.cells #[.string ⟨U.toArray⟩] 9)).alloc (.cells #[.int .u8 47] 5)
  have b3' := b3.alloc (.cells #[.int .u8 47] 5)
  have hS0 := (sx.alloc (.cells #[.string ⟨U.toArray⟩] 9)).alloc (.cells #[.int .u8 47] 5)
  clear bx sx b3 HU hu3 hVB hq hm hq3
  obtain ⟨W0, hW0⟩ : ∃ W0, (w3.alloc (.cells #[.string ⟨U.toArray⟩] 9)).alloc (.cells #[.int .u8 47] 5) = W0 := ⟨_, rfl⟩
  have hsz : W0.heap.size = w.heap.size + 4 := by rw [← hW0]; simp; omega
  rw [hW0] at b1' b3' b4 hS0 hB0 ⊢
  clear hW0 hz3 B0
  have HSZ := Lib.hid hsz
  have HVS := Lib.hid hVs
  clear hsz hVs
  refine wpIn_rangeFunc_ownF rfl h1 (gf := 111) (lb := #[.pointer (some ⟨w.heap.size + 1 + 1, 0, none⟩), .pointer (some ⟨w.heap.size + 1 + 1 + 1, 0, none⟩)]) rfl trivial (enters_of Try.func111 (by kernel_rfl) rfl)
    (parts_stops (n - 1) (by omega) (w.heap.size + 1 + 1) (w.heap.size + 1 + 1 + 1) ⟨U.toArray⟩ 47 (by show U.toArray.size ≤ _; simp; omega) W0 (by rw [HSZ.out]; omega) (by rw [HSZ.out]; omega) b3' b4) kpB_t (kpB_b (by rw [HSZ.out]; omega) (by rw [HSZ.out]; omega)) (Below.refl _ _) (fun _ => rfl)
    (fun pre W => SpN w.heap.size (pre.map fun x => decP x.1) W ∧ Below w.heap.size V W)
    (fun c pre W => False)
    (OwnFrom.and (spN_own w.heap.size _ _) (ownFrom_below (by rw [HVS.out]; exact Nat.le_refl _) (by rw [HSZ.out]; omega)))
    (fun c => ownFrom_pure _ _)
    ⟨⟨by rw [HSZ.out]; exact Nat.le_refl _, _, b1', hS0, fun g hg => by simp [Value.ownBlock] at hg; omega⟩, hB0⟩
    (fun x => { tmps := #[.pointer (some ⟨q, 0, none⟩), undef, .string ⟨#[]⟩, .pointer (some ⟨w.heap.size + 1, 0, none⟩), .string ⟨x.1.toArray⟩, undef, undef, .slice (some ⟨w.heap.size, 0, none⟩) 0 0, .pointer (some ⟨q, 0, none⟩), .pointer (some ⟨q, 0, none⟩), .pointer (some ⟨q, 0, none⟩), .string ⟨U.toArray⟩, .func (.func 111) #[] #[.pointer (some ⟨w.heap.size + 1 + 1, 0, none⟩), .pointer (some ⟨w.heap.size + 1 + 1 + 1, 0, none⟩)], .string ⟨x.1.toArray⟩, undef, undef, undef, undef, undef, undef, undef, undef, undef, undef, undef], defers := [] }) ?assign ?body ?done ?stop
  case assign =>
    intro l x W K hK
    unfold partV
    gi_wp2
    exact hK
  case body =>
    rintro l' pre x W ⟨⟨h4, v, hR, hS, hne⟩, hB⟩ hpl
    have HC := Lib.hid (implPct_text x.1 W x.2)
    obtain ⟨E, HEE⟩ : ∃ E, Hid (decP x.1 = E) := ⟨_, Lib.hid rfl⟩
    obtain ⟨fn, HFN⟩ : ∃ fn, Hid ((pctS x.1).isSome = fn) := ⟨_, Lib.hid rfl⟩
    simp only [HEE.out, HFN.out] at HC
    have HPL : Hid ((pre.map fun x => decP x.1).length + 1 ≤ 16777216) := Lib.hid (by
      have hs2 : (⟨U.toArray⟩ : ByteArray).size = U.length := size_of U
      rw [hs2] at hpl
      simp; omega)
    gi_wp2_with (first
      | (refine ⟨trivial, ?_⟩; gi_at_call 114; refine (CallsIn.inRound l' (callsIn_wide.2 HC.out)).mono ?_; rintro e w4 ⟨rfl, hb4⟩; have hR4 := (show Boxed w4 (w.heap.size + 1) 33 v from keepB hR hb4); have c4 := hR4.cell; have S4 := hS.below hb4; have HSI : Hid (w.heap.size ≤ (w4.alloc (.cells #[.string ⟨E.toArray⟩] 9)).heap.size) := Lib.hid (by have := hb4.size; simp; omega))
      | (gi_at_builtin; refine wpListIn_append_one rfl _ _ rfl w.heap.size v (pre.map fun x => decP x.1) rfl (S4.alloc _) E w4.heap.size 1 _ _ rfl (heap_alloc_new w4 _) HPL.out HSI.out ?_; intro g cap w5 hS5 hg5 hl5; have HE := Lib.hid (spN_end w.heap.size V W w4 w5 v _ _ _ g cap h4 hR hS hne hB hb4 hg5 hS5 hl5); have c5 := HE.out.1.cell; have f5 := HE.out.1.frozen))
    have hE := HE.out.2
    simp only [List.length_map] at hE
    refine ⟨hE.1, hE.2.1, ?_, hE.2.2.2⟩
    rw [List.map_append, List.map_cons, List.map_nil, HEE.out]
    exact hE.2.2.1
  case done =>
    rintro D ys W hD hys ⟨⟨h4, v, hR, hS, hne⟩, hB⟩ hK
    have hyl : (ys.map fun x => decP x.1) = (cutL 47 U).map decP := by
      have : cutL 47 U = ys.map Subtype.val := hys.symm
      rw [this, List.map_map]; rfl
    rw [hyl] at hS
    have cR := hR.cell
    have hLl := cutL_len_le 47 U
    have hjl : (Lib.join ((cutL 47 U).map decP) [47]).length ≤ 1048577 := by
      have a1 := join_jl 47 ((cutL 47 U).map decP)
      have a2 := jl_map decP pctS_le (cutL 47 U)
      have a3 := jl_cutL 47 U
      omega
    have HJ := Lib.hid (joinAll_any W w.heap.size v ((cutL 47 U).map decP) [47] hS (by simp; omega) (by omega))
    have HX : Hid (nameP (cutL 47 U) = Lib.join ((cutL 47 U).map decP) [47]) := Lib.hid rfl
    obtain ⟨J, HJJ⟩ : ∃ J, Hid (Lib.join ((cutL 47 U).map decP) [47] = J) := ⟨_, Lib.hid rfl⟩
    rw [HJJ.out] at HJ HX
    clear hyl hS hne hys hjl
    gi_wp2_with (refine ⟨trivial, ?_⟩; gi_at_call 53; refine (callsIn_wide.2 HJ.out).mono ?_; rintro e w4 ⟨rfl, hb4⟩)
    have hK4 := keepB hK hb4
    refine ⟨by simp, .inl ⟨_, _, rfl, run_takeDeferred hK4, ?_⟩⟩
    have hB4 := hB.trans (hb4.mono (by omega))
    have hB5 := hB4.trans (belowK_b (w := V) (by rw [HVS.out]; exact Nat.le_refl _) w4 D _ (.deferred none) (by have := HSZ.out; have := HVS.out; omega) hK4 rfl rfl)
    refine ⟨_, by simp [results, Try.f82, go_sem]; rfl, by rw [HX.out], (hB5.block q hqs).trans hVq, ?_⟩
    exact ⟨hB5.os.trans hVg.os, hB5.tape.trans hVg.tape, hB5.output.trans hVg.output, Nat.le_trans hVg.size hB5.size, fun i hi hn => (hB5.block i hi).trans (hVg.block i hi hn)⟩
  case stop =>
    rintro D c pre W hD hpre h hK
    exact h.elim
end Go.Proofs.Ytldfkdkppgammaa
