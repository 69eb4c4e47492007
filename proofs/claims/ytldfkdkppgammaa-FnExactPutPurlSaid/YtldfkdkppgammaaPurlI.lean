/-
  impl.PutPurl returns the package URL.
-/
import Derived.Test.YtldfkdkppgammaaPurlS
import Derived.Test.YtldfkdkppgammaaRdI
import Derived.Test.YtldfkdkppgammaaNameJ
import Derived.Test.YtldfkdkppgammaaPercentI
import Derived.Test.YtldfkdkppgammaaJoinB
namespace Go.Proofs.Ytldfkdkppgammaa
open Go.RowKit Go.Shelf
attribute [local go_sem] Oper.semAt_some

theorem spJ_ownF (w : World) (B : Nat) (f : Part → List UInt8) : OwnFrom B (fun (pre : List Part) W => SpJ w (pre.map f) W) := by
  rintro pre W W' row ⟨h4, v, hB, hS, hne⟩ hg hr
  refine ⟨Nat.le_trans h4 hg.size, v, hB.kept hg (fun e => ?_), World.ownsRow.kept hS hg ?_, hne⟩
  · obtain ⟨_, o, ho, hc⟩ := hr _ e.symm
    rw [show W.heap[_]? = _ from hB] at ho; cases ho; cases hc
  · rcases hS.2 with ⟨rfl, _⟩ | ⟨g, cap, cur, rfl, _, hh, _⟩
    · left; rfl
    · right
      intro e
      obtain ⟨_, o, ho, hc⟩ := hr g (by simpa [Value.ownBlock] using e.symm)
      rw [hh] at ho; cases ho; cases hc

set_option maxRecDepth 100000 in
set_option maxHeartbeats 4000000 in
theorem putPurl_in (n : Nat) (hn : 4 ≤ n) (k : Int) (a b : List UInt8) (w : World) (ha : a.length ≤ 60) (hb : b.length ≤ 1048576) (hk : kindL k ≠ []) (hm : specN a = true) (hv : readOk b = true) :
    CallsIn Fence.wide n Try.prog 35 #[.int .i64 k, .string ⟨a.toArray⟩, .string ⟨b.toArray⟩] w fun e W' => e = .returned (.string ⟨(purlT k a b).toArray⟩) ∧ Below w.heap.size w W' := by
  have h1 : 1 ≤ n := by omega
  have hn2 : 1 ≤ n - 1 - 1 := by omega
  have hkl := kindL_len k
  have HV : Hid (Calls Try.prog 75 #[.string ⟨b.toArray⟩] w (ReadIs w b)) := Lib.hid (implReadVersion_any ⟨b.toArray⟩ w (by show b.toArray.size ≤ _; simp; omega))
  have HN : Hid (∀ W, Calls Try.prog 76 #[.string ⟨a.toArray⟩] W fun e w' => e = .returned (.bool (specN a)) ∧ Below W.heap.size W w') := Lib.hid (fun W => implNameOk_any ⟨a.toArray⟩ W)
  have HK := Lib.hid (fun W => implKindName_any k W)
  have HVV := Lib.hid hv
  simp only [hm] at HN
  obtain ⟨K, HKK⟩ : ∃ K, Hid (kindL k = K) := ⟨_, Lib.hid rfl⟩
  simp only [HKK.out] at HK
  rw [HKK.out] at hk hkl
  obtain ⟨e1, e2⟩ := str_beq_nil hk
  have HR : Hid (purlT k a b = [112, 107, 103, 58] ++ K ++ pctP (cutL 47 a) ++ 64 :: pctL b) := Lib.hid (by unfold purlT; rw [HKK.out])
  clear hk hm hv
  refine callsIn_of_wp_marks Try.func35 rfl trivial ?_ rfl
  simp only [Try.ntmps35, List.size_toArray, List.length_cons, List.length_nil, Nat.reduceAdd, Nat.reduceSub, Array.replicate_succ, Array.replicate_zero, List.push_toArray, List.append_toArray, List.nil_append, List.cons_append]
  gi_wp2_with (refine ⟨trivial, ?_⟩; gi_at_call 12; refine (callsIn_wide.2 (HK.out _)).mono ?_; rintro e w0 ⟨rfl, rfl⟩)
  gi_wp2_with (refine ⟨trivial, ?_⟩; gi_at_call 75; refine (callsIn_wide.2 HV.out).mono ?_; rintro e w1 ⟨u, rfl, hu, hb1⟩; obtain ⟨A, c, rfl⟩ := hu.slice; rw [HVV.out])
  gi_wp2_with (refine ⟨trivial, ?_⟩; gi_at_call 76; refine (callsIn_wide.2 (HN.out _)).mono ?_; rintro e w2 ⟨rfl, hb2⟩)
  gi_wp2_with (refine ⟨trivial, ?_⟩; gi_at_call 77; refine (partsOf_in _ _ _ _).mono ?_; rintro e w' ⟨rfl, rfl⟩)
  have BA := hb1.alloc hb1.size (.cells #[.int .i64 (readA b 0), .int .i64 (readA b 1), .int .i64 (readA b 2), .slice A (readP b).length c] 47)
  have BB := BA.trans (hb2.mono BA.size)
  clear hu hb1 hb2 BA HV HN HK e1 e2
  have b1 := Boxed.new (w2.alloc (.cells #[] 9)) 33 (.slice (some ⟨w2.heap.size, 0, none⟩) 0 0)
  have b3 := Boxed.new ((w2.alloc (.cells #[] 9)).alloc (.cells #[.slice (some ⟨w2.heap.size, 0, none⟩) 0 0] 33)) 9 (.string ⟨a.toArray⟩)
  have b4 := Boxed.new (((w2.alloc (.cells #[] 9)).alloc (.cells #[.slice (some ⟨w2.heap.size, 0, none⟩) 0 0] 33)).alloc (.cells #[.string ⟨a.toArray⟩] 9)) 5 (.int .u8 47)
  simp only [World.size_alloc] at b1 b3 b4
  have hB0 : Below w2.heap.size w2 ((((w2.alloc (.cells #[] 9)).alloc (.cells #[.slice (some ⟨w2.heap.size, 0, none⟩) 0 0] 33)).alloc (.cells #[.string ⟨a.toArray⟩] 9)).alloc (.cells #[.int .u8 47] 5)) := ((((Below.refl _ w2).alloc (Nat.le_refl _) _).alloc (by simp) _).alloc (by simp; omega) _).alloc (by simp; omega) _
  have b1' := (b1.alloc (.cells #[.string ⟨a.toArray⟩] 9)).alloc (.cells #[.int .u8 47] 5)
  have b3' := b3.alloc (.cells #[.int .u8 47] 5)
  have hS0 := (((Strs.empty w2 w2.heap.size (Nat.le_refl _)).alloc (.cells #[.slice (some ⟨w2.heap.size, 0, none⟩) 0 0] 33)).alloc (.cells #[.string ⟨a.toArray⟩] 9)).alloc (.cells #[.int .u8 47] 5)
  clear b1 b3
  obtain ⟨W0, hW0⟩ : ∃ W0, ((((w2.alloc (.cells #[] 9)).alloc (.cells #[.slice (some ⟨w2.heap.size, 0, none⟩) 0 0] 33)).alloc (.cells #[.string ⟨a.toArray⟩] 9)).alloc (.cells #[.int .u8 47] 5)) = W0 := ⟨_, rfl⟩
  have hsz : W0.heap.size = w2.heap.size + 4 := by rw [← hW0]; simp
  rw [hW0] at b1' b3' b4 hS0 hB0 ⊢
  clear hW0
  have HSZ := Lib.hid hsz
  clear hsz
  refine wpIn_rangeFunc_ownF rfl h1 (gf := 111) (lb := #[.pointer (some ⟨w2.heap.size + 1 + 1, 0, none⟩), .pointer (some ⟨w2.heap.size + 1 + 1 + 1, 0, none⟩)]) rfl trivial (enters_of Try.func111 (by kernel_rfl) rfl)
    (parts_stops (n - 1) (by omega) (w2.heap.size + 1 + 1) (w2.heap.size + 1 + 1 + 1) ⟨a.toArray⟩ 47 (by show a.toArray.size ≤ _; simp; omega) W0 (by rw [HSZ.out]; omega) (by rw [HSZ.out]; omega) b3' b4) kpB_t (kpB_b (by rw [HSZ.out]; omega) (by rw [HSZ.out]; omega)) (Below.refl _ _) (fun _ => rfl)
    (fun pre W => SpJ w2 (pre.map fun x => pctL x.1) W ∧ Below w2.heap.size w2 W)
    (fun c pre W => False)
    (OwnFrom.and (spJ_ownF w2 _ _) (ownFrom_below (Nat.le_refl _) (by rw [HSZ.out]; omega)))
    (fun c => ownFrom_pure _ _)
    ⟨⟨by rw [HSZ.out]; exact Nat.le_refl _, _, b1', hS0, fun g hg => by simp [Value.ownBlock] at hg; omega⟩, hB0⟩
    (fun x => { tmps := #[.int .i64 k, .string ⟨a.toArray⟩, .string ⟨b.toArray⟩, undef, undef, undef, .string ⟨#[]⟩, .string ⟨K.toArray⟩, .pointer (some ⟨w1.heap.size, 0, none⟩), .bool true, .pointer (some ⟨w2.heap.size + 1, 0, none⟩), .string ⟨x.1.toArray⟩, .int .i64 k, .string ⟨K.toArray⟩, .tuple #[.agg #[.int .i64 (readA b 0), .int .i64 (readA b 1), .int .i64 (readA b 2), .slice A (readP b).length c], .bool true], .string ⟨b.toArray⟩, .tuple #[.agg #[.int .i64 (readA b 0), .int .i64 (readA b 1), .int .i64 (readA b 2), .slice A (readP b).length c], .bool true], .agg #[.int .i64 (readA b 0), .int .i64 (readA b 1), .int .i64 (readA b 2), .slice A (readP b).length c], .bool true, .string ⟨K.toArray⟩, .bool false, .bool false, .string ⟨a.toArray⟩, .bool true, .bool false, .bool false, .bool false, .bool true, .bool false, .bool false, .slice (some ⟨w2.heap.size, 0, none⟩) 0 0, .string ⟨a.toArray⟩, .func (.func 111) #[] #[.pointer (some ⟨w2.heap.size + 1 + 1, 0, none⟩), .pointer (some ⟨w2.heap.size + 1 + 1 + 1, 0, none⟩)], .string ⟨x.1.toArray⟩, undef, undef, undef, undef, undef, undef, undef, undef, undef, undef, undef, undef, undef, undef, undef], defers := [] }) ?assign ?body ?done ?stop
  case assign =>
    intro l x W K hK
    unfold partV
    gi_wp2
    exact hK
  case body =>
    rintro l pre x W ⟨⟨h4, v, hR, hS, hne⟩, hB⟩ hpl
    have cR := hR.cell
    have fR := hR.frozen
    obtain ⟨E, HEE⟩ : ∃ E, Hid (pctL x.1 = E) := ⟨_, Lib.hid rfl⟩
    gi_wp2
    have hlt : w2.heap.size + 1 < W.drew.heap.size := hR.lt
    have cR' : W.drew.cell? ⟨w2.heap.size + 1, 0, none⟩ = some v := cR
    have fR' : W.drew.frozen? ⟨w2.heap.size + 1, 0, none⟩ = false := fR
    have hCl : CallsIn _ _ Try.prog 78 #[.string ⟨x.1.toArray⟩] W.drew fun e w' => e = .returned (.string ⟨(pctL x.1).toArray⟩) ∧ Below W.drew.heap.size W.drew w' := CallsIn.inRound (n := n - 1 - 1 - 1) l (callsIn_wide.2 (implPutPercent_any ⟨x.1.toArray⟩ W.drew (by show x.1.toArray.size ≤ _; simpa using x.2)))
    rw [HEE.out] at hCl
    have HCL := Lib.hid hCl
    clear hCl
    refine wpIn_region_any (by kernel_rfl) ?_
    change wpAnyIn _ _ _ _ _ _ _ _ _ (World.drew _)
    have HPL : Hid ((pre.map fun x => pctL x.1).length + 1 ≤ 16777216) := Lib.hid (by
      have hs2 : (⟨a.toArray⟩ : ByteArray).size = a.length := size_of a
      rw [hs2] at hpl
      simp; omega)
    refine wpAnyIn_ready (rs := [0, 1]) (by kernel_rfl) (by simp) (AllReadyIn.cons rfl (fun K hK => ?_) (AllReadyIn.cons rfl (fun K hK => ?_) AllReadyIn.nil)) <;> go_simp <;> refine hK _ _ ?_ <;> clear hK K
    · refine wpAnyIn_ready (rs := [1]) (by kernel_rfl) (by simp) (AllReadyIn.cons rfl (fun K hK => ?_) AllReadyIn.nil)
      go_simp
      refine hK _ _ ?_
      clear hK K
      refine wpAnyIn_ready (rs := [2]) (by kernel_rfl) (by simp) (AllReadyIn.cons rfl (fun K hK => ?_) AllReadyIn.nil)
      go_simp
      refine ⟨trivial, ?_⟩
      refine HCL.out.mono ?_
      rintro e w3 ⟨rfl, hb3⟩
      refine hK _ _ ?_
      clear hK K
      obtain ⟨c1, hlt1⟩ := keep_cell hb3 hlt cR'
      have HSI : Hid (w2.heap.size ≤ (w3.alloc (.cells #[.string ⟨E.toArray⟩] 9)).heap.size) := Lib.hid (by have := hb3.size; simp at this ⊢; omega)
      refine wpAnyIn_ready (rs := [3]) (by kernel_rfl) (by simp) (AllReadyIn.cons rfl (fun K hK => ?_) AllReadyIn.nil)
      go_simp
      refine hK _ _ ?_
      clear hK K
      refine wpAnyIn_ready (rs := [4]) (by kernel_rfl) (by simp) (AllReadyIn.cons rfl (fun K hK => ?_) AllReadyIn.nil)
      refine step_append_in rfl _ _ rfl w2.heap.size v (pre.map fun x => pctL x.1) rfl ((hS.drew.below hb3).alloc _) E w3.heap.size 1 _ _ rfl (heap_alloc_new w3 _) HPL.out HSI.out ?_
      intro g cap w4 hS4 hg4 hg5
      refine hK _ _ ?_
      clear hK K
      have HE := Lib.hid (spl_end w2 W w3 w4 v _ _ _ g cap h4 hR hS hne hB hb3 hg4 hS4 hg5)
      have c3 := HE.out.1.cell
      have f3 := HE.out.1.frozen
      clear hS4 hg4 hg5
      refine wpAnyIn_ready (rs := [5]) (by kernel_rfl) (by simp) (AllReadyIn.cons rfl (fun K hK => ?_) AllReadyIn.nil)
      go_simp
      refine hK _ _ ?_
      clear hK K
      refine wpAnyIn_done (by kernel_rfl) ?_ _
      have hE := HE.out.2
      simp only [List.length_map] at hE
      refine ⟨hE.1, hE.2.1, ?_, hE.2.2.2⟩
      rw [List.map_append, List.map_cons, List.map_nil, HEE.out]
      exact hE.2.2.1
    · refine wpAnyIn_ready (rs := [0, 2]) (by kernel_rfl) (by simp) (AllReadyIn.cons rfl (fun K hK => ?_) (AllReadyIn.cons rfl (fun K hK => ?_) AllReadyIn.nil)) <;> go_simp
      · refine hK _ _ ?_
        clear hK K
        refine wpAnyIn_ready (rs := [2]) (by kernel_rfl) (by simp) (AllReadyIn.cons rfl (fun K hK => ?_) AllReadyIn.nil)
        go_simp
        refine ⟨trivial, ?_⟩
        refine HCL.out.mono ?_
        rintro e w3 ⟨rfl, hb3⟩
        refine hK _ _ ?_
        clear hK K
        obtain ⟨c1, hlt1⟩ := keep_cell hb3 hlt cR'
        have HSI : Hid (w2.heap.size ≤ (w3.alloc (.cells #[.string ⟨E.toArray⟩] 9)).heap.size) := Lib.hid (by have := hb3.size; simp at this ⊢; omega)
        refine wpAnyIn_ready (rs := [3]) (by kernel_rfl) (by simp) (AllReadyIn.cons rfl (fun K hK => ?_) AllReadyIn.nil)
        go_simp
        refine hK _ _ ?_
        clear hK K
        refine wpAnyIn_ready (rs := [4]) (by kernel_rfl) (by simp) (AllReadyIn.cons rfl (fun K hK => ?_) AllReadyIn.nil)
        refine step_append_in rfl _ _ rfl w2.heap.size v (pre.map fun x => pctL x.1) rfl ((hS.drew.below hb3).alloc _) E w3.heap.size 1 _ _ rfl (heap_alloc_new w3 _) HPL.out HSI.out ?_
        intro g cap w4 hS4 hg4 hg5
        refine hK _ _ ?_
        clear hK K
        have HE := Lib.hid (spl_end w2 W w3 w4 v _ _ _ g cap h4 hR hS hne hB hb3 hg4 hS4 hg5)
        have c3 := HE.out.1.cell
        have f3 := HE.out.1.frozen
        clear hS4 hg4 hg5
        refine wpAnyIn_ready (rs := [5]) (by kernel_rfl) (by simp) (AllReadyIn.cons rfl (fun K hK => ?_) AllReadyIn.nil)
        go_simp
        refine hK _ _ ?_
        clear hK K
        refine wpAnyIn_done (by kernel_rfl) ?_ _
        have hE := HE.out.2
        simp only [List.length_map] at hE
        refine ⟨hE.1, hE.2.1, ?_, hE.2.2.2⟩
        rw [List.map_append, List.map_cons, List.map_nil, HEE.out]
        exact hE.2.2.1
      · refine ⟨trivial, ?_⟩
        refine HCL.out.mono ?_
        rintro e w3 ⟨rfl, hb3⟩
        refine hK _ _ ?_
        clear hK K
        obtain ⟨c1, hlt1⟩ := keep_cell hb3 hlt cR'
        have HSI : Hid (w2.heap.size ≤ (w3.alloc (.cells #[.string ⟨E.toArray⟩] 9)).heap.size) := Lib.hid (by have := hb3.size; simp at this ⊢; omega)
        refine wpAnyIn_ready (rs := [0, 3]) (by kernel_rfl) (by simp) (AllReadyIn.cons rfl (fun K hK => ?_) (AllReadyIn.cons rfl (fun K hK => ?_) AllReadyIn.nil)) <;> go_simp <;> refine hK _ _ ?_ <;> clear hK K
        · refine wpAnyIn_ready (rs := [3]) (by kernel_rfl) (by simp) (AllReadyIn.cons rfl (fun K hK => ?_) AllReadyIn.nil)
          go_simp
          refine hK _ _ ?_
          clear hK K
          refine wpAnyIn_ready (rs := [4]) (by kernel_rfl) (by simp) (AllReadyIn.cons rfl (fun K hK => ?_) AllReadyIn.nil)
          refine step_append_in rfl _ _ rfl w2.heap.size v (pre.map fun x => pctL x.1) rfl ((hS.drew.below hb3).alloc _) E w3.heap.size 1 _ _ rfl (heap_alloc_new w3 _) HPL.out HSI.out ?_
          intro g cap w4 hS4 hg4 hg5
          refine hK _ _ ?_
          clear hK K
          have HE := Lib.hid (spl_end w2 W w3 w4 v _ _ _ g cap h4 hR hS hne hB hb3 hg4 hS4 hg5)
          have c3 := HE.out.1.cell
          have f3 := HE.out.1.frozen
          clear hS4 hg4 hg5
          refine wpAnyIn_ready (rs := [5]) (by kernel_rfl) (by simp) (AllReadyIn.cons rfl (fun K hK => ?_) AllReadyIn.nil)
          go_simp
          refine hK _ _ ?_
          clear hK K
          refine wpAnyIn_done (by kernel_rfl) ?_ _
          have hE := HE.out.2
          simp only [List.length_map] at hE
          refine ⟨hE.1, hE.2.1, ?_, hE.2.2.2⟩
          rw [List.map_append, List.map_cons, List.map_nil, HEE.out]
          exact hE.2.2.1
        · have c2 : (w3.alloc (.cells #[.string ⟨E.toArray⟩] 9)).cell? ⟨w2.heap.size + 1, 0, none⟩ = some v := (keep_cell ((Below.refl _ w3).alloc (Nat.le_refl _) _) hlt1 c1).1
          refine wpAnyIn_ready (rs := [0]) (by kernel_rfl) (by simp) (AllReadyIn.cons rfl (fun K hK => ?_) AllReadyIn.nil)
          go_simp
          refine hK _ _ ?_
          clear hK K
          refine wpAnyIn_ready (rs := [4]) (by kernel_rfl) (by simp) (AllReadyIn.cons rfl (fun K hK => ?_) AllReadyIn.nil)
          refine step_append_in rfl _ _ rfl w2.heap.size v (pre.map fun x => pctL x.1) rfl ((hS.drew.below hb3).alloc _) E w3.heap.size 1 _ _ rfl (heap_alloc_new w3 _) HPL.out HSI.out ?_
          intro g cap w4 hS4 hg4 hg5
          refine hK _ _ ?_
          clear hK K
          have HE := Lib.hid (spl_end w2 W w3 w4 v _ _ _ g cap h4 hR hS hne hB hb3 hg4 hS4 hg5)
          have c3 := HE.out.1.cell
          have f3 := HE.out.1.frozen
          clear hS4 hg4 hg5
          refine wpAnyIn_ready (rs := [5]) (by kernel_rfl) (by simp) (AllReadyIn.cons rfl (fun K hK => ?_) AllReadyIn.nil)
          go_simp
          refine hK _ _ ?_
          clear hK K
          refine wpAnyIn_done (by kernel_rfl) ?_ _
          have hE := HE.out.2
          simp only [List.length_map] at hE
          refine ⟨hE.1, hE.2.1, ?_, hE.2.2.2⟩
          rw [List.map_append, List.map_cons, List.map_nil, HEE.out]
          exact hE.2.2.1
  case done =>
    rintro D ys W hD hys ⟨⟨h4, v, hR, hS, hne⟩, hB⟩ hK
    have hyl : (ys.map fun x => pctL x.1) = (cutL 47 a).map pctL := by
      have : cutL 47 a = ys.map Subtype.val := hys.symm
      rw [this, List.map_map]; rfl
    rw [hyl] at hS
    have cR := hR.cell
    have hLl : (cutL 47 a).length ≤ 61 := by have := cutL_len_le 47 a; omega
    have hpp := pctP_len (ls := cutL 47 a) (fun l hl => by have := cutL_mem_le 47 a l hl; omega) 61
    rw [pctP_all (by omega)] at hpp
    have HJE := Lib.hid (join_pct (cutL 47 a) (cutL_ne 47 a))
    have hjl : (Lib.join ((cutL 47 a).map pctL) [47]).length ≤ 11041 := by have := congrArg List.length HJE.out; simp at this; omega
    have HJ := Lib.hid (joinAll_any W w2.heap.size v ((cutL 47 a).map pctL) [47] hS (by simp; omega) (by omega))
    have HP : Hid (∀ W, Calls Try.prog 78 #[.string ⟨b.toArray⟩] W fun e w' => e = .returned (.string ⟨(pctL b).toArray⟩) ∧ Below W.heap.size W w') := Lib.hid (fun W => implPutPercent_any ⟨b.toArray⟩ W (by show b.toArray.size ≤ _; simp; omega))
    have hbp := pctL_len b
    obtain ⟨J, HJJ⟩ : ∃ J, Hid (Lib.join ((cutL 47 a).map pctL) [47] = J) := ⟨_, Lib.hid rfl⟩
    obtain ⟨E, HEE⟩ : ∃ E, Hid (pctL b = E) := ⟨_, Lib.hid rfl⟩
    rw [HJJ.out] at hjl HJ HJE
    rw [HEE.out] at hbp
    simp only [HEE.out] at HP
    obtain ⟨N1, HN1⟩ : ∃ N, Hid (N = [112, 107, 103, 58] ++ K) := ⟨_, Lib.hid rfl⟩
    obtain ⟨N2, HN2⟩ : ∃ N, Hid (N = N1 ++ [47]) := ⟨_, Lib.hid rfl⟩
    obtain ⟨N3, HN3⟩ : ∃ N, Hid (N = N2 ++ J) := ⟨_, Lib.hid rfl⟩
    obtain ⟨N4, HN4⟩ : ∃ N, Hid (N = N3 ++ [64]) := ⟨_, Lib.hid rfl⟩
    obtain ⟨N5, HN5⟩ : ∃ N, Hid (N = N4 ++ E) := ⟨_, Lib.hid rfl⟩
    have l1 : N1.length ≤ 10 := by rw [HN1.out]; simp; omega
    have l2 : N2.length ≤ 11 := by rw [HN2.out]; simp; omega
    have l3 : N3.length ≤ 11100 := by rw [HN3.out]; simp; omega
    have l4 : N4.length ≤ 11101 := by rw [HN4.out]; simp; omega
    have s1 : ∀ W, (Op.stringOp .add ⟨#[112, 107, 103, 58]⟩ ⟨K.toArray⟩).run Try.prog W = .ok (.string ⟨N1.toArray⟩) W := fun W => by rw [HN1.out]; exact add_lists W [112, 107, 103, 58] K (by simp) (by omega)
    have s2 : ∀ W, (Op.stringOp .add ⟨N1.toArray⟩ ⟨#[47]⟩).run Try.prog W = .ok (.string ⟨N2.toArray⟩) W := fun W => by rw [HN2.out]; exact add_lists W N1 [47] (by omega) (by simp)
    have s3 : ∀ W, (Op.stringOp .add ⟨N2.toArray⟩ ⟨J.toArray⟩).run Try.prog W = .ok (.string ⟨N3.toArray⟩) W := fun W => by rw [HN3.out]; exact add_lists W N2 J (by omega) (by omega)
    have s4 : ∀ W, (Op.stringOp .add ⟨N3.toArray⟩ ⟨#[64]⟩).run Try.prog W = .ok (.string ⟨N4.toArray⟩) W := fun W => by rw [HN4.out]; exact add_lists W N3 [64] (by omega) (by simp)
    have s5 : ∀ W, (Op.stringOp .add ⟨N4.toArray⟩ ⟨E.toArray⟩).run Try.prog W = .ok (.string ⟨N5.toArray⟩) W := fun W => by rw [HN5.out]; exact add_lists W N4 E (by omega) (by omega)
    have HX : Hid (purlT k a b = N5) := Lib.hid (by rw [HR.out, HN5.out, HN4.out, HN3.out, HN2.out, HN1.out, ← HJE.out, HEE.out]; simp)
    have HDD := Lib.hid hD
    clear hyl hS hne hpp hys HR
    gi_wp2_with (refine ⟨trivial, ?_⟩; gi_at_call 53; refine (callsIn_wide.2 HJ.out).mono ?_; rintro e w3 ⟨rfl, hb3⟩)
    gi_wp2_with (refine ⟨trivial, ?_⟩; gi_at_call 78; refine (callsIn_wide.2 (HP.out _)).mono ?_; rintro e w4 ⟨rfl, hb4⟩)
    have hK4 := keepB (keepB hK hb3) hb4
    refine ⟨by simp, .inl ⟨_, _, rfl, run_takeDeferred hK4, ?_⟩⟩
    have hB3 := hB.trans (hb3.mono hB.size)
    have hB4 := hB3.trans (hb4.mono hB3.size)
    refine ⟨_, by simp [results, Try.f35, go_sem]; rfl, by rw [HX.out], ?_⟩
    exact BB.trans ((hB4.trans (belowK_b (w := w2) (Nat.le_refl _) w4 D _ _ (by have := HSZ.out; omega) hK4 rfl rfl)).mono BB.size)
  case stop =>
    rintro D c pre W hD hpre h hK
    exact h.elim
end Go.Proofs.Ytldfkdkppgammaa
