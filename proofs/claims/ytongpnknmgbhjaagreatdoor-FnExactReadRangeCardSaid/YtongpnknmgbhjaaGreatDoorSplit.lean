/-
  impl.splitAt returns the parts of a text between a byte.
-/
import Derived.Test.YtongpnknmgbhjaaGreatDoorParts
import Derived.Test.YtongpnknmgbhjaaGreatDoorRdL
import Derived.Outline
import Derived.Test.YtongpnknmgbhjaaGreatDoorClone
import Derived.RangeFuncFrom
import Derived.RangeFuncBox
import Derived.Stop.RegionWithIn
namespace Go.Proofs.YtongpnknmgbhjaaGreatDoor
open Go.RowKit Go.Shelf
attribute [local go_sem] Oper.semAt_some

/-- What splitAt has in its box: the parts so far. -/
def SpJ (w : World) (ls : List (List UInt8)) (W : World) : Prop :=
  w.heap.size + 4 ≤ W.heap.size ∧ ∃ v, Boxed W (w.heap.size + 1) 22 v ∧ Strs W w.heap.size v ls ∧ (∀ g, v.ownBlock = some g → g ≠ w.heap.size + 1 ∧ g ≠ w.heap.size + 2 ∧ g ≠ w.heap.size + 3)
theorem spJ_own (w : World) (B : Nat) : OwnFrom B (fun (pre : List Part) W => SpJ w (pre.map Subtype.val) W) := by
  rintro pre W W' row ⟨h4, v, hB, hS, hne⟩ hg hr
  refine ⟨Nat.le_trans h4 hg.size, v, hB.kept hg (fun e => ?_), World.ownsRow.kept hS hg ?_, hne⟩
  · obtain ⟨_, o, ho, hc⟩ := hr _ e.symm
    rw [show W.heap[_]? = _ from hB] at ho; cases ho; cases hc
  · rcases hS.2 with ⟨rfl, _⟩ | ⟨g, cap, cur, rfl, _, hh, _⟩
    · left; rfl
    · right
      intro e
      obtain ⟨_, o, ho, hc⟩ := hr g (by simpa [Value.ownBlock] using e.symm)
      rw [hh] at ho; cases ho; cases hc

theorem spl_end (w W w1 w3 : World) (v : Value) (ls : List (List UInt8)) (x : List UInt8) (o : Obj) (g cap : Nat) (h4 : w.heap.size + 4 ≤ W.heap.size) (hR : Boxed W (w.heap.size + 1) 22 v) (hS : Strs W w.heap.size v ls)
    (hne : ∀ g, v.ownBlock = some g → g ≠ w.heap.size + 1 ∧ g ≠ w.heap.size + 2 ∧ g ≠ w.heap.size + 3) (hB : Below w.heap.size w W) (hb1 : Below W.drew.heap.size W.drew w1) (hg3 : (w1.alloc o).grownBy w3 v.ownBlock)
    (hS3 : Strs w3 w.heap.size (.slice (some ⟨g, 0, none⟩) (ls.length + 1) cap) (ls ++ [x])) (hg4 : v.ownBlock = some g ∨ g = (w1.alloc o).heap.size) :
    Boxed w3 (w.heap.size + 1) 22 v ∧ KeepsOthers W (w3.setCell ⟨w.heap.size + 1, 0, none⟩ (.slice (some ⟨g, 0, none⟩) (ls.length + 1) cap)) ∧ KpB (w.heap.size + 1 + 1) (w.heap.size + 1 + 1 + 1) W (w3.setCell ⟨w.heap.size + 1, 0, none⟩ (.slice (some ⟨g, 0, none⟩) (ls.length + 1) cap)) ∧
      SpJ w (ls ++ [x]) (w3.setCell ⟨w.heap.size + 1, 0, none⟩ (.slice (some ⟨g, 0, none⟩) (ls.length + 1) cap)) ∧ Below w.heap.size w (w3.setCell ⟨w.heap.size + 1, 0, none⟩ (.slice (some ⟨g, 0, none⟩) (ls.length + 1) cap)) := by
  have hs1 : W.heap.size ≤ w1.heap.size := hb1.size
  have hs3 : w1.heap.size + 1 ≤ w3.heap.size := by have := hg3.size; simpa using this
  have hgne : g ≠ w.heap.size + 1 ∧ g ≠ w.heap.size + 2 ∧ g ≠ w.heap.size + 3 := by
    rcases hg4 with h | h
    · exact hne g h
    · simp at h; omega
  have hG : W.grownBy w3 v.ownBlock := ⟨hg3.os.trans hb1.os, hg3.tape.trans hb1.tape, hg3.output.trans hb1.output, by omega, fun k hk hkn =>
    (hg3.block k (by simp; omega) hkn).trans ((Below.heap_alloc _ _ _ (by omega)).trans (hb1.block k hk))⟩
  have hR3 : Boxed w3 (w.heap.size + 1) 22 v := hR.kept hG (fun e => (hne _ e.symm).1 rfl)
  have hK : KeepsOthers W w3 := KeepsOthers.of_grownBy hG (fun j o' ej hj => by
    rcases hS.2 with ⟨rfl, _⟩ | ⟨g', cap', cur, rfl, _, hh, _⟩
    · simp [Value.ownBlock] at ej
    · simp [Value.ownBlock] at ej
      subst ej
      rw [hh] at hj; cases hj; rfl)
  have hBel : Below w.heap.size w w3 := hB.grown hG (by omega) hS.owned
  have k1 : w3.heap[w.heap.size + 1 + 1]? = W.heap[w.heap.size + 1 + 1]? := hG.block _ (by omega) (fun e => (hne _ e.symm).2.1 (by omega))
  have k2 : w3.heap[w.heap.size + 1 + 1 + 1]? = W.heap[w.heap.size + 1 + 1 + 1]? := hG.block _ (by omega) (fun e => (hne _ e.symm).2.2 (by omega))
  refine ⟨hR3, hK.trans (KeepsOthers.setCell _ _ _), ⟨(Below.heap_setCell _ _ _ _ (by simp)).trans k1, (Below.heap_setCell _ _ _ _ (by simp; omega)).trans k2⟩, ⟨by simp; omega, _, hR3.set _, ?_, ?_⟩, hBel.setCell (p := ⟨w.heap.size + 1, 0, none⟩) (by simp) _⟩
  · exact World.ownsRow.kept hS3 (grownBy_setCell' w3 (w.heap.size + 1) _) (by right; simp [Value.ownBlock]; omega)
  · intro g' hg'
    simp [Value.ownBlock] at hg'
    subst hg'
    exact hgne

theorem step_append_in {F : Fence} {n : Nat} {w : World} {ops : Array Oper} {o : Oper} {a : Act} {K : Act → World → Prop} {Q : Exit → Act → World → Prop} {E : Prop} (hgd : o.guard = none) (s x : Operand)
    (ho : o.op = .call { callee := .builtin .append, args := #[s, x], argTypes := #[22, 22] })
    (base : Nat) (v : Value) (l : List (List UInt8)) (hs : a.eval s = v) (hown : Strs w base v l) (y : List UInt8) (B c : Nat) (t : TypeId) (fr : Nat × Nat)
    (hx : a.eval x = .slice (some ⟨B, 0, none⟩) 1 c) (hblk : w.heap[B]? = some (.cells #[sv y] t fr)) (hlen : l.length + 1 ≤ 16777216) (hbase : base ≤ w.heap.size)
    (h : ∀ g cap w', Strs w' base (.slice (some ⟨g, 0, none⟩) (l.length + 1) cap) (l ++ [y]) → w.grownBy w' v.ownBlock → (v.ownBlock = some g ∨ g = w.heap.size) → K (a.put o.dst (.slice (some ⟨g, 0, none⟩) (l.length + 1) cap)) w') :
    if Region.wanted o (yielded ops a.tmps) = true then Oper.wpIn F n Tryz.prog o a w K Q else E := by
  have hw : Region.wanted o (yielded ops a.tmps) = true := by simp [Region.wanted, hgd]
  rw [if_pos hw]
  obtain ⟨g, cap, w', hr, h2, h3, h4⟩ := run_append_strs w o.type base v l hown y B c t fr hblk hlen hbase
  refine ⟨?_, ?_⟩
  · intro f hf
    simp [Oper.about, ho, resolve, Target.leads, go_sem] at hf
  · rw [Oper.semAt_eq _ _ _ (by intro c hc; rw [ho] at hc; cases hc)]
    unfold execOp
    simp only [ho, resolve, invoke, builtin, Sem.run_bind, Sem.run_pure, Result.andThen_ok, List.map_toArray, List.map_cons, List.map_nil, hs, hx, hr]
    exact h g cap w' h2 h3 h4

set_option maxRecDepth 100000 in
set_option maxHeartbeats 4000000 in
theorem splitAt_in (n : Nat) (hn : 4 ≤ n) (s : ByteArray) (m : UInt8) (w : World) (hs : s.size ≤ 1048576) :
    CallsIn Fence.wide n Tryz.prog 199 #[.string s, .int .u8 (m.toNat : Int)] w fun e W' => ∃ g cap, e = .returned (.slice (some ⟨g, 0, none⟩) (cutL m s.data.toList).length cap) ∧ Strs W' w.heap.size (.slice (some ⟨g, 0, none⟩) (cutL m s.data.toList).length cap) (cutL m s.data.toList) ∧ Below w.heap.size w W' := by
  have h1 : 1 ≤ n := by omega
  have hn2 : 1 ≤ n - 1 - 1 := by omega
  refine callsIn_of_wp_marks Tryz.func199 rfl trivial ?_ rfl
  simp only [Tryz.ntmps199, List.size_toArray, List.length_cons, List.length_nil, Nat.reduceAdd, Nat.reduceSub, Array.replicate_succ, Array.replicate_zero, List.push_toArray, List.append_toArray, List.nil_append, List.cons_append]
  gi_wp2_with (refine ⟨trivial, ?_⟩; gi_at_call 172; refine (partsOf_in _ _ _ _).mono ?_; rintro e w' ⟨rfl, rfl⟩)
  have b1 := Boxed.new (w.alloc (.cells #[] 9)) 22 (.slice (some ⟨w.heap.size, 0, none⟩) 0 0)
  have b3 := Boxed.new ((w.alloc (.cells #[] 9)).alloc (.cells #[.slice (some ⟨w.heap.size, 0, none⟩) 0 0] 22)) 9 (.string s)
  have b4 := Boxed.new (((w.alloc (.cells #[] 9)).alloc (.cells #[.slice (some ⟨w.heap.size, 0, none⟩) 0 0] 22)).alloc (.cells #[.string s] 9)) 5 (.int .u8 (m.toNat : Int))
  simp only [World.size_alloc] at b1 b3 b4
  have hB0 : Below w.heap.size w ((((w.alloc (.cells #[] 9)).alloc (.cells #[.slice (some ⟨w.heap.size, 0, none⟩) 0 0] 22)).alloc (.cells #[.string s] 9)).alloc (.cells #[.int .u8 (m.toNat : Int)] 5)) := ((((Below.refl _ w).alloc (Nat.le_refl _) _).alloc (by simp) _).alloc (by simp; omega) _).alloc (by simp; omega) _
  have b1' := (b1.alloc (.cells #[.string s] 9)).alloc (.cells #[.int .u8 (m.toNat : Int)] 5)
  have b3' := b3.alloc (.cells #[.int .u8 (m.toNat : Int)] 5)
  have hS0 := (((Strs.empty w w.heap.size (Nat.le_refl _)).alloc (.cells #[.slice (some ⟨w.heap.size, 0, none⟩) 0 0] 22)).alloc (.cells #[.string s] 9)).alloc (.cells #[.int .u8 (m.toNat : Int)] 5)
  clear b1 b3
  obtain ⟨W0, hW0⟩ : ∃ W0, ((((w.alloc (.cells #[] 9)).alloc (.cells #[.slice (some ⟨w.heap.size, 0, none⟩) 0 0] 22)).alloc (.cells #[.string s] 9)).alloc (.cells #[.int .u8 (m.toNat : Int)] 5)) = W0 := ⟨_, rfl⟩
  have hsz : W0.heap.size = w.heap.size + 4 := by rw [← hW0]; simp
  rw [hW0] at b1' b3' b4 hS0 hB0 ⊢
  clear hW0
  have HSZ := Lib.hid hsz
  clear hsz
  refine wpIn_rangeFunc_ownF rfl h1 (gf := 206) (lb := #[.pointer (some ⟨w.heap.size + 1 + 1, 0, none⟩), .pointer (some ⟨w.heap.size + 1 + 1 + 1, 0, none⟩)]) rfl trivial (enters_of Tryz.func206 (by kernel_rfl) rfl)
    (parts_stops (n - 1) (by omega) (w.heap.size + 1 + 1) (w.heap.size + 1 + 1 + 1) s m hs W0 (by rw [HSZ.out]; omega) (by rw [HSZ.out]; omega) b3' b4) kpB_t (kpB_b (by rw [HSZ.out]; omega) (by rw [HSZ.out]; omega)) (Below.refl _ _) (fun _ => rfl)
    (fun pre W => SpJ w (pre.map Subtype.val) W ∧ Below w.heap.size w W)
    (fun c pre W => False)
    (OwnFrom.and (spJ_own w _) (ownFrom_below (Nat.le_refl _) (by rw [HSZ.out]; omega)))
    (fun c => ownFrom_pure _ _)
    ⟨⟨by rw [HSZ.out]; exact Nat.le_refl _, _, b1', hS0, fun g hg => by simp [Value.ownBlock] at hg; omega⟩, hB0⟩
    (fun x => { tmps := #[.string s, .int .u8 (m.toNat : Int), undef, undef, .slice none 0 0, .pointer (some ⟨w.heap.size + 1, 0, none⟩), .string ⟨x.1.toArray⟩, .slice (some ⟨w.heap.size, 0, none⟩) 0 0, .string s, .int .u8 (m.toNat : Int), .func (.func 206) #[] #[.pointer (some ⟨w.heap.size + 1 + 1, 0, none⟩), .pointer (some ⟨w.heap.size + 1 + 1 + 1, 0, none⟩)], .string ⟨x.1.toArray⟩, undef, undef, undef, undef, undef, undef], defers := [] }) ?assign ?body ?done ?stop
  case assign =>
    intro l x W K hK
    unfold partV
    gi_wp2
    exact hK
  case body =>
    rintro l pre x W ⟨⟨h4, v, hR, hS, hne⟩, hB⟩ hpl
    have cR := hR.cell
    have fR := hR.frozen
    obtain ⟨b, hbE⟩ : ∃ b : ByteArray, b = ⟨x.1.toArray⟩ := ⟨_, rfl⟩
    have hbl : b.data.toList = x.1 := by rw [hbE]
    have hbs : b.size ≤ 1048576 := by rw [hbE]; show x.1.toArray.size ≤ _; simpa using x.2
    rw [← hbE]
    have HBL := Lib.hid hbl
    clear hbE hbl
    gi_wp2
    have hlt : w.heap.size + 1 < W.drew.heap.size := hR.lt
    have cR' : W.drew.cell? ⟨w.heap.size + 1, 0, none⟩ = some v := cR
    have fR' : W.drew.frozen? ⟨w.heap.size + 1, 0, none⟩ = false := fR
    have hCl := CallsIn.inRound (n := n - 1 - 1 - 1) l (callsIn_wide.2 (clone_any b W.drew hbs))
    have HCL := Lib.hid hCl
    clear hCl
    refine wpIn_region_any (by kernel_rfl) ?_
    change wpAnyIn _ _ _ _ _ _ _ _ _ (World.drew _)
    have HPL : Hid ((pre.map Subtype.val).length + 1 ≤ 16777216) := Lib.hid (by simp; omega)
    refine wpAnyIn_ready (rs := [0, 1]) (by kernel_rfl) (by simp) (AllReadyIn.cons rfl (fun K hK => ?_) (AllReadyIn.cons rfl (fun K hK => ?_) AllReadyIn.nil)) <;> go_simp <;> refine hK _ _ ?_ <;> clear hK K
    · refine wpAnyIn_ready (rs := [1]) (by kernel_rfl) (by simp) (AllReadyIn.cons rfl (fun K hK => ?_) AllReadyIn.nil)
      go_simp
      refine hK _ _ ?_
      clear hK K
      refine wpAnyIn_ready (rs := [2]) (by kernel_rfl) (by simp) (AllReadyIn.cons rfl (fun K hK => ?_) AllReadyIn.nil)
      go_simp
      refine ⟨trivial, ?_⟩
      refine HCL.out.mono ?_
      rintro e w1 ⟨rfl, hb1⟩
      refine hK _ _ ?_
      clear hK K
      obtain ⟨c1, hlt1⟩ := keep_cell hb1 hlt cR'
      have HSI : Hid (w.heap.size ≤ (w1.alloc (.cells #[.string b] 9)).heap.size) := Lib.hid (by have := hb1.size; simp at this ⊢; omega)
      refine wpAnyIn_ready (rs := [3]) (by kernel_rfl) (by simp) (AllReadyIn.cons rfl (fun K hK => ?_) AllReadyIn.nil)
      go_simp
      refine hK _ _ ?_
      clear hK K
      refine wpAnyIn_ready (rs := [4]) (by kernel_rfl) (by simp) (AllReadyIn.cons rfl (fun K hK => ?_) AllReadyIn.nil)
      refine step_append_in rfl _ _ rfl w.heap.size v (pre.map Subtype.val) rfl ((hS.drew.below hb1).alloc _) b.data.toList w1.heap.size 1 _ _ rfl (heap_alloc_new w1 _) HPL.out HSI.out ?_
      intro g cap w3 hS3 hg3 hg4
      refine hK _ _ ?_
      clear hK K
      rw [HBL.out] at hS3
      have HE := Lib.hid (spl_end w W w1 w3 v _ _ _ g cap h4 hR hS hne hB hb1 hg3 hS3 hg4)
      have c3 := HE.out.1.cell
      have f3 := HE.out.1.frozen
      clear hS3 hg3 hg4
      refine wpAnyIn_ready (rs := [5]) (by kernel_rfl) (by simp) (AllReadyIn.cons rfl (fun K hK => ?_) AllReadyIn.nil)
      go_simp
      refine hK _ _ ?_
      clear hK K
      refine wpAnyIn_done (by kernel_rfl) ?_ _
      have hE := HE.out.2
      simp only [List.length_map] at hE
      refine ⟨hE.1, hE.2.1, ?_, hE.2.2.2⟩
      rw [List.map_append]
      exact hE.2.2.1
    · refine wpAnyIn_ready (rs := [0, 2]) (by kernel_rfl) (by simp) (AllReadyIn.cons rfl (fun K hK => ?_) (AllReadyIn.cons rfl (fun K hK => ?_) AllReadyIn.nil)) <;> go_simp
      · refine hK _ _ ?_
        clear hK K
        refine wpAnyIn_ready (rs := [2]) (by kernel_rfl) (by simp) (AllReadyIn.cons rfl (fun K hK => ?_) AllReadyIn.nil)
        go_simp
        refine ⟨trivial, ?_⟩
        refine HCL.out.mono ?_
        rintro e w1 ⟨rfl, hb1⟩
        refine hK _ _ ?_
        clear hK K
        obtain ⟨c1, hlt1⟩ := keep_cell hb1 hlt cR'
        have HSI : Hid (w.heap.size ≤ (w1.alloc (.cells #[.string b] 9)).heap.size) := Lib.hid (by have := hb1.size; simp at this ⊢; omega)
        refine wpAnyIn_ready (rs := [3]) (by kernel_rfl) (by simp) (AllReadyIn.cons rfl (fun K hK => ?_) AllReadyIn.nil)
        go_simp
        refine hK _ _ ?_
        clear hK K
        refine wpAnyIn_ready (rs := [4]) (by kernel_rfl) (by simp) (AllReadyIn.cons rfl (fun K hK => ?_) AllReadyIn.nil)
        refine step_append_in rfl _ _ rfl w.heap.size v (pre.map Subtype.val) rfl ((hS.drew.below hb1).alloc _) b.data.toList w1.heap.size 1 _ _ rfl (heap_alloc_new w1 _) HPL.out HSI.out ?_
        intro g cap w3 hS3 hg3 hg4
        refine hK _ _ ?_
        clear hK K
        rw [HBL.out] at hS3
        have HE := Lib.hid (spl_end w W w1 w3 v _ _ _ g cap h4 hR hS hne hB hb1 hg3 hS3 hg4)
        have c3 := HE.out.1.cell
        have f3 := HE.out.1.frozen
        clear hS3 hg3 hg4
        refine wpAnyIn_ready (rs := [5]) (by kernel_rfl) (by simp) (AllReadyIn.cons rfl (fun K hK => ?_) AllReadyIn.nil)
        go_simp
        refine hK _ _ ?_
        clear hK K
        refine wpAnyIn_done (by kernel_rfl) ?_ _
        have hE := HE.out.2
        simp only [List.length_map] at hE
        refine ⟨hE.1, hE.2.1, ?_, hE.2.2.2⟩
        rw [List.map_append]
        exact hE.2.2.1
      · refine ⟨trivial, ?_⟩
        refine HCL.out.mono ?_
        rintro e w1 ⟨rfl, hb1⟩
        refine hK _ _ ?_
        clear hK K
        obtain ⟨c1, hlt1⟩ := keep_cell hb1 hlt cR'
        have HSI : Hid (w.heap.size ≤ (w1.alloc (.cells #[.string b] 9)).heap.size) := Lib.hid (by have := hb1.size; simp at this ⊢; omega)
        refine wpAnyIn_ready (rs := [0, 3]) (by kernel_rfl) (by simp) (AllReadyIn.cons rfl (fun K hK => ?_) (AllReadyIn.cons rfl (fun K hK => ?_) AllReadyIn.nil)) <;> go_simp <;> refine hK _ _ ?_ <;> clear hK K
        · refine wpAnyIn_ready (rs := [3]) (by kernel_rfl) (by simp) (AllReadyIn.cons rfl (fun K hK => ?_) AllReadyIn.nil)
          go_simp
          refine hK _ _ ?_
          clear hK K
          refine wpAnyIn_ready (rs := [4]) (by kernel_rfl) (by simp) (AllReadyIn.cons rfl (fun K hK => ?_) AllReadyIn.nil)
          refine step_append_in rfl _ _ rfl w.heap.size v (pre.map Subtype.val) rfl ((hS.drew.below hb1).alloc _) b.data.toList w1.heap.size 1 _ _ rfl (heap_alloc_new w1 _) HPL.out HSI.out ?_
          intro g cap w3 hS3 hg3 hg4
          refine hK _ _ ?_
          clear hK K
          rw [HBL.out] at hS3
          have HE := Lib.hid (spl_end w W w1 w3 v _ _ _ g cap h4 hR hS hne hB hb1 hg3 hS3 hg4)
          have c3 := HE.out.1.cell
          have f3 := HE.out.1.frozen
          clear hS3 hg3 hg4
          refine wpAnyIn_ready (rs := [5]) (by kernel_rfl) (by simp) (AllReadyIn.cons rfl (fun K hK => ?_) AllReadyIn.nil)
          go_simp
          refine hK _ _ ?_
          clear hK K
          refine wpAnyIn_done (by kernel_rfl) ?_ _
          have hE := HE.out.2
          simp only [List.length_map] at hE
          refine ⟨hE.1, hE.2.1, ?_, hE.2.2.2⟩
          rw [List.map_append]
          exact hE.2.2.1
        · have c2 : (w1.alloc (.cells #[.string b] 9)).cell? ⟨w.heap.size + 1, 0, none⟩ = some v := (keep_cell ((Below.refl _ w1).alloc (Nat.le_refl _) _) hlt1 c1).1
          refine wpAnyIn_ready (rs := [0]) (by kernel_rfl) (by simp) (AllReadyIn.cons rfl (fun K hK => ?_) AllReadyIn.nil)
          go_simp
          refine hK _ _ ?_
          clear hK K
          refine wpAnyIn_ready (rs := [4]) (by kernel_rfl) (by simp) (AllReadyIn.cons rfl (fun K hK => ?_) AllReadyIn.nil)
          refine step_append_in rfl _ _ rfl w.heap.size v (pre.map Subtype.val) rfl ((hS.drew.below hb1).alloc _) b.data.toList w1.heap.size 1 _ _ rfl (heap_alloc_new w1 _) HPL.out HSI.out ?_
          intro g cap w3 hS3 hg3 hg4
          refine hK _ _ ?_
          clear hK K
          rw [HBL.out] at hS3
          have HE := Lib.hid (spl_end w W w1 w3 v _ _ _ g cap h4 hR hS hne hB hb1 hg3 hS3 hg4)
          have c3 := HE.out.1.cell
          have f3 := HE.out.1.frozen
          clear hS3 hg3 hg4
          refine wpAnyIn_ready (rs := [5]) (by kernel_rfl) (by simp) (AllReadyIn.cons rfl (fun K hK => ?_) AllReadyIn.nil)
          go_simp
          refine hK _ _ ?_
          clear hK K
          refine wpAnyIn_done (by kernel_rfl) ?_ _
          have hE := HE.out.2
          simp only [List.length_map] at hE
          refine ⟨hE.1, hE.2.1, ?_, hE.2.2.2⟩
          rw [List.map_append]
          exact hE.2.2.1
  case done =>
    rintro D ys W hD hys ⟨⟨h4, v, hR, hS, hne⟩, hB⟩ hK
    rw [hys] at hS
    have cR := hR.cell
    gi_wp2
    refine ⟨by simp, .inl ⟨_, _, rfl, run_takeDeferred hK, ?_⟩⟩
    have hS' := World.ownsRow.kept hS (grownBy_putObj' W D (.deferred none)) (row := some D) (by
      rcases hS.2 with ⟨rfl, _⟩ | ⟨g', cap', cur, rfl, _, hh, _⟩
      · left; rfl
      · right
        simp only [Value.ownBlock]
        intro e; cases e
        rw [hK] at hh; cases hh)
    rcases hS.form with ⟨_, h⟩ | ⟨g, cap, rfl, _, _⟩
    · exact absurd h (cutL_ne _ _)
    · exact ⟨_, by simp [results, Tryz.f199, go_sem], g, cap, rfl, hS', hB.trans (belowK_b (w := w) (Nat.le_refl _) W D _ _ (by have := HSZ.out; omega) hK rfl rfl)⟩
  case stop =>
    rintro D c pre W hD hpre h hK
    exact h.elim

theorem splitAt_any (s : ByteArray) (m : UInt8) (w : World) (hs : s.size ≤ 1048576) :
    Calls Tryz.prog 199 #[.string s, .int .u8 (m.toNat : Int)] w fun e W' => ∃ g cap, e = .returned (.slice (some ⟨g, 0, none⟩) (cutL m s.data.toList).length cap) ∧ Strs W' w.heap.size (.slice (some ⟨g, 0, none⟩) (cutL m s.data.toList).length cap) (cutL m s.data.toList) ∧ Below w.heap.size w W' :=
  (callsIn_wide (n := 4)).1 (splitAt_in 4 (by omega) s m w hs)
end Go.Proofs.YtongpnknmgbhjaaGreatDoor
