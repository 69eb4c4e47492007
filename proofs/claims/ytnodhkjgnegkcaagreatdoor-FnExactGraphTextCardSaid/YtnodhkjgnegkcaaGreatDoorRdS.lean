/-
  spec.ReadVersion: a version out of its text.
-/
import Derived.Test.YtnodhkjgnegkcaaGreatDoorRdIs
import Derived.Test.YtnodhkjgnegkcaaGreatDoorTextS
namespace Go.Proofs.YtnodhkjgnegkcaaGreatDoor
open Go.RowKit

set_option maxRecDepth 100000 in
set_option maxHeartbeats 4000000 in
theorem specReadVersion_any (s : ByteArray) (w : World) (hs : s.size ≤ 1048576) :
    Calls Tryz.prog 91 #[.string s] w (ReadIs w s.data.toList) := by
  have HSZ : Hid (s.data.toList.length ≤ 1048576) := Lib.hid (by simpa using hs)
  have hA := l01At_any s 45 ((w.alloc (.cells #[.int .i64 0, .int .i64 0, .int .i64 0, .slice none 0 0] 117)).alloc (.cells #[.int .i64 0, .int .i64 0, .int .i64 0, .slice none 0 0] 117)) (by unfold maxLen; omega)
  have HA := Lib.hid hA
  clear hA
  have r0 := keepA (heap_alloc_new w (.cells #[.int .i64 0, .int .i64 0, .int .i64 0, .slice none 0 0] 117)) (.cells #[.int .i64 0, .int .i64 0, .int .i64 0, .slice none 0 0] 117)
  have v0 := heap_new (W := w.alloc (.cells #[.int .i64 0, .int .i64 0, .int .i64 0, .slice none 0 0] 117)) (n := w.heap.size + 1) (by simp) (.cells #[.int .i64 0, .int .i64 0, .int .i64 0, .slice none 0 0] 117)
  have B0 : Below w.heap.size w ((w.alloc (.cells #[.int .i64 0, .int .i64 0, .int .i64 0, .slice none 0 0] 117)).alloc (.cells #[.int .i64 0, .int .i64 0, .int .i64 0, .slice none 0 0] 117)) := ((Below.refl _ _).alloc (Nat.le_refl _) _).alloc (by simp) _
  obtain ⟨d, HD⟩ : ∃ d, Hid (dash s.data.toList = d) := ⟨_, Lib.hid rfl⟩
  by_cases hd : 0 ≤ d
  · have hdl : d < s.size := by have := idx_lt s.data.toList 45; have h2 : Lib.indexByte s.data.toList 45 = d := HD.out; rw [h2] at this; simpa using this
    obtain ⟨k, rfl⟩ : ∃ k : Nat, d = (k : Int) := ⟨d.toNat, by omega⟩
    have HH : Hid (headL s.data.toList = s.data.toList.take k) := Lib.hid (by rw [headL_yes (by rw [HD.out]; exact hd), HD.out]; rfl)
    have HTL : Hid (tailL s.data.toList = cutL 46 (s.data.toList.drop (k + 1))) := Lib.hid (by rw [tailL_yes (by rw [HD.out]; exact hd), HD.out]; rfl)
    have e1 := slice_to s _ k (k : Int) rfl (by omega) (piece s 0 k)
    have e2 := slice_from s _ (k + 1) ((k : Int) + 1) (by omega) (by omega) (piece_end s (k + 1))
    go_enter Tryz.func91, Tryz.ntmps91
    go_wp2_with fail
    refine HA.out.mono ?_
    rw [show Lib.indexByte s.data.toList 45 = (k : Int) from HD.out]
    rintro e w' ⟨rfl, rfl⟩
    go_wp2_with fail
    refine (l01Cut_any _ 46 _ (by rw [size_of]; simp <;> omega)).mono ?_
    rintro e w1 ⟨gp, cp, rfl, hSp, hb1⟩
    have HQ : Hid (cutL 46 (⟨(s.data.toList.drop (k + 1)).toArray⟩ : ByteArray).data.toList = tailL s.data.toList) := Lib.hid HTL.out.symm
    rw [HQ.out] at hSp ⊢
    have r1 := keepB r0 hb1
    have v1 := keepB v0 hb1
    have B1 := B0.trans (hb1.mono B0.size)
    have glo : w.heap.size + 2 ≤ gp := by have := hSp.lo; simpa using this
    obtain ⟨q0, q1, q2, q3⟩ := cells4 v1
    have f3 := frozen4 v1 3
    go_wp2_with fail
    have HQ2 : Hid (cutL 46 (⟨(s.data.toList.take k).toArray⟩ : ByteArray).data.toList = partsL s.data.toList) := Lib.hid (by unfold partsL; rw [HH.out])
    have r1' := heap_other (g := w.heap.size + 1) (o := 3) r1 (.slice (some ⟨gp, 0, none⟩) (tailL s.data.toList).length cp) (by omega)
    have v1' := heap_set3 v1 (.slice (some ⟨gp, 0, none⟩) (tailL s.data.toList).length cp)
    have B1' := B1.setCell (p := ⟨w.heap.size + 1, 3, none⟩) (Nat.le_succ _) (.slice (some ⟨gp, 0, none⟩) (tailL s.data.toList).length cp)
    have hSp1 := (hSp.weaken (base' := w.heap.size + 2) (by simp)).other (w.heap.size + 1) 3 (.slice (some ⟨gp, 0, none⟩) (tailL s.data.toList).length cp) (by omega)
    refine (l01Cut_any _ 46 _ (by rw [size_of]; simp <;> omega)).mono ?_
    rintro e w2 ⟨gn, cn, rfl, hSn, hb2⟩
    rw [HQ2.out] at hSn ⊢
    have r2 := keepB r1' hb2
    have v2 := keepB v1' hb2
    have B2 := B1'.trans (hb2.mono B1'.size)
    have hSp2 := hSp1.below hb2
    have lo2 : w.heap.size + 2 ≤ (w1.setCell ⟨w.heap.size + 1, 3, none⟩ (.slice (some ⟨gp, 0, none⟩) (tailL s.data.toList).length cp)).heap.size := by have := lt_of_heap v1'; omega
    clear r0 v0 B0 r1 v1 B1 r1' v1' B1' hSp hSp1 hb1 hb2 q0 q1 q2 q3 f3 HA e1 e2
    have gnlo : w.heap.size + 2 ≤ gn := by have := hSn.lo; simpa using Nat.le_trans lo2 this
    by_cases h3 : (partsL s.data.toList).length = 3
    · obtain ⟨p0, p1, p2, hp⟩ := len3 h3
      have HPP := Lib.hid hp
      have mm : ∀ x ∈ partsL s.data.toList, x.length ≤ 1048576 := fun x hx => by have h1 := cutL_mem_le 46 (headL s.data.toList) x hx; have h2 := headL_le s.data.toList; have h3 := HSZ.out; omega
      have m0 := mm p0 (by rw [hp]; simp)
      have m1 := mm p1 (by rw [hp]; simp)
      have m2 := mm p2 (by rw [hp]; simp)
      have x0 : w2.cell? ⟨gn, 0, none⟩ = some (.string ⟨p0.toArray⟩) := by rw [hp] at hSn; exact hSn.cell 0 (by simp)
      have x1 : w2.cell? ⟨gn, 1, none⟩ = some (.string ⟨p1.toArray⟩) := by rw [hp] at hSn; exact hSn.cell 1 (by simp)
      have x2 : w2.cell? ⟨gn, 2, none⟩ = some (.string ⟨p2.toArray⟩) := by rw [hp] at hSn; exact hSn.cell 2 (by simp)
      have HR := Lib.hid (readOk_of hp)
      have HTX := Lib.hid (read_text hp)
      have HTN := Lib.hid (read_ok hp)
      rw [h3]
      clear mm hp h3
      have gne : gn ≠ w.heap.size + 1 := by omega
      obtain ⟨u0, u1, u2, u3⟩ := cells4 v2
      have f0 := frozen4 v2 0
      go_wp2_with fail
      refine (specReadDec_any ⟨p0.toArray⟩ _ (by rw [size_of]; exact m0)).mono ?_
      rintro e w' ⟨rfl, rfl⟩
      obtain ⟨z0, HZ0⟩ : ∃ z, Hid (readL p0 = z) := ⟨_, Lib.hid rfl⟩
      rw [show readL (⟨p0.toArray⟩ : ByteArray).data.toList = z0 from HZ0.out]
      have v3 := heap_set0 v2 (.int .i64 z0)
      have r3 := heap_other (g := w.heap.size + 1) (o := 0) r2 (.int .i64 z0) (by omega)
      have y1 := (World.cell?_setCell_far w2 ⟨w.heap.size + 1, 0, none⟩ ⟨gn, 1, none⟩ (.int .i64 z0) (Ne.symm gne)).trans x1
      have y2 := (World.cell?_setCell_far w2 ⟨w.heap.size + 1, 0, none⟩ ⟨gn, 2, none⟩ (.int .i64 z0) (Ne.symm gne)).trans x2
      have f1 := frozen4 v3 1
      obtain ⟨t0, t1, t2, t3⟩ := cells4 v3
      go_wp2_with fail
      refine (specReadDec_any ⟨p1.toArray⟩ _ (by rw [size_of]; exact m1)).mono ?_
      rintro e w' ⟨rfl, rfl⟩
      obtain ⟨z1, HZ1⟩ : ∃ z, Hid (readL p1 = z) := ⟨_, Lib.hid rfl⟩
      rw [show readL (⟨p1.toArray⟩ : ByteArray).data.toList = z1 from HZ1.out]
      have v4 := heap_set1 v3 (.int .i64 z1)
      have r4 := heap_other (g := w.heap.size + 1) (o := 1) r3 (.int .i64 z1) (by omega)
      have yy2 := (World.cell?_setCell_far _ ⟨w.heap.size + 1, 1, none⟩ ⟨gn, 2, none⟩ (.int .i64 z1) (Ne.symm gne)).trans y2
      have f2 := frozen4 v4 2
      clear t0 t1 t2 t3 f0
      obtain ⟨t0, t1, t2, t3⟩ := cells4 v4
      go_wp2_with fail
      refine (specReadDec_any ⟨p2.toArray⟩ _ (by rw [size_of]; exact m2)).mono ?_
      rintro e w' ⟨rfl, rfl⟩
      obtain ⟨z2, HZ2⟩ : ∃ z, Hid (readL p2 = z) := ⟨_, Lib.hid rfl⟩
      rw [show readL (⟨p2.toArray⟩ : ByteArray).data.toList = z2 from HZ2.out]
      have v5 := heap_set2 v4 (.int .i64 z2)
      have r5 := heap_other (g := w.heap.size + 1) (o := 2) r4 (.int .i64 z2) (by omega)
      have B5 := ((B2.setCell (p := ⟨w.heap.size + 1, 0, none⟩) (Nat.le_succ _) (.int .i64 z0)).setCell (p := ⟨w.heap.size + 1, 1, none⟩) (Nat.le_succ _) (.int .i64 z1)).setCell (p := ⟨w.heap.size + 1, 2, none⟩) (Nat.le_succ _) (.int .i64 z2)
      have hS5 := (((hSp2.other (w.heap.size + 1) 0 (.int .i64 z0) (by omega)).other (w.heap.size + 1) 1 (.int .i64 z1) (by omega)).other (w.heap.size + 1) 2 (.int .i64 z2) (by omega))
      obtain ⟨i0, i1, i2, i3⟩ := cells4 v5
      go_wp2_with fail
      clear t0 t1 t2 t3 i0 i1 i2 i3 u0 u1 u2 u3 f1 f2 x0 x1 x2 y1 y2 yy2 v2 v3 v4 r2 r3 r4 B2
      generalize ((w2.setCell ⟨w.heap.size + 1, 0, none⟩ (.int .i64 z0)).setCell ⟨w.heap.size + 1, 1, none⟩ (.int .i64 z1)).setCell ⟨w.heap.size + 1, 2, none⟩ (.int .i64 z2) = W5 at *
      refine (specVersionText_any z0 z1 z2 _ (tailL s.data.toList) _ (RdS.of_strs hS5) (tail_sm HSZ.out)).mono ?_
      rintro e w6 ⟨rfl, hb6⟩
      have v6 := keepB v5 hb6
      have r6 := keepB r5 hb6
      have B6 := B5.trans (hb6.mono B5.size)
      have hS6 := hS5.below hb6
      have hw := hS5.owned
      clear v5 r5 B5 hS5 hb6
      by_cases hv : verOk z0 z1 z2 (tailL s.data.toList) = true
      · have HE : Hid (verText z0 z1 z2 (tailL s.data.toList) = s.data.toList) := Lib.hid (by have := HTX.out; rw [HZ0.out, HZ1.out, HZ2.out] at this; exact this hv)
        have HOK : Hid (readOk s.data.toList = true) := Lib.hid (by rw [HR.out, HZ0.out, HZ1.out, HZ2.out]; exact hv)
        have e9 : ((verText z0 z1 z2 (tailL s.data.toList)) == s.toList) = true := by rw [HE.out, ByteArray.toList_eq]; simp
        clear hv
        obtain ⟨p0', p1', p2', p3'⟩ := cells4 v6
        obtain ⟨q0, q1, q2, q3⟩ := cells4 r6
        have f0 := frozen4 r6 0
        have f1 := frozen4 r6 1
        have f2 := frozen4 r6 2
        have f3 := frozen4 r6 3
        go_wp2_with fail
        refine bodyPost_ret (v := .tuple #[.agg #[.int .i64 (z0), .int .i64 (z1), .int .i64 (z2), .slice (some ⟨gp, 0, none⟩) (tailL s.data.toList).length cp], .bool true]) ?_ rfl (by rw [← HZ0.out, ← HZ1.out, ← HZ2.out]; exact readIs_good HPP.out HOK.out (strs_result (hS6.weaken (by omega)) (fun g h => by have := hw g h; omega) _ _ _ _) (below_result B6 (by omega) _ _ _ _))
        simp [results, Tryz.results91, go_sem, q0, q1, q2, q3]
      · have HE : Hid (¬ verText z0 z1 z2 (tailL s.data.toList) = s.data.toList) := Lib.hid (by have := HTN.out; rw [HZ0.out, HZ1.out, HZ2.out] at this; exact this hv)
        have HOK : Hid (readOk s.data.toList = false) := Lib.hid (by rw [HR.out, HZ0.out, HZ1.out, HZ2.out]; simpa using hv)
        have e9 : ((verText z0 z1 z2 (tailL s.data.toList)) == s.toList) = false := by rw [ByteArray.toList_eq]; simpa using HE.out
        clear hv
        obtain ⟨q0, q1, q2, q3⟩ := cells4 r6
        have f0 := frozen4 r6 0
        have f1 := frozen4 r6 1
        have f2 := frozen4 r6 2
        have f3 := frozen4 r6 3
        go_wp2_with fail
        refine bodyPost_ret (v := .tuple #[.agg #[.int .i64 0, .int .i64 0, .int .i64 0, .slice none 0 0], .bool false]) ?_ rfl (readIs_bad HOK.out (below_result B6 (by omega) _ _ _ _))
        simp [results, Tryz.results91, go_sem, q0, q1, q2, q3]
    · have HOK := Lib.hid (readOk_bad h3)
      have q9 : (((partsL s.data.toList).length : Int) != 3) = true := int_bne_true (by omega)
      clear h3
      obtain ⟨q0, q1, q2, q3⟩ := cells4 r2
      have f0 := frozen4 r2 0
      have f1 := frozen4 r2 1
      have f2 := frozen4 r2 2
      have f3 := frozen4 r2 3
      go_wp2_with fail
      refine bodyPost_ret (v := .tuple #[.agg #[.int .i64 0, .int .i64 0, .int .i64 0, .slice none 0 0], .bool false]) ?_ rfl (readIs_bad HOK.out (below_result B2 (by omega) _ _ _ _))
      simp [results, Tryz.results91, go_sem, q0, q1, q2, q3]
  · have hdn : ¬ 0 ≤ dash s.data.toList := by rw [HD.out]; exact hd
    have HQ2 : Hid (cutL 46 s.data.toList = partsL s.data.toList) := Lib.hid (by unfold partsL; rw [headL_no hdn])
    have HTL := Lib.hid (tailL_no hdn)
    clear hdn
    go_enter Tryz.func91, Tryz.ntmps91
    go_wp2_with fail
    refine HA.out.mono ?_
    rw [show Lib.indexByte s.data.toList 45 = d from HD.out]
    rintro e w' ⟨rfl, rfl⟩
    go_wp2_with fail
    refine (l01Cut_any s 46 _ hs).mono ?_
    rintro e w2 ⟨gn, cn, rfl, hSn, hb2⟩
    rw [HQ2.out] at hSn ⊢
    have r2 := keepB r0 hb2
    have v2 := keepB v0 hb2
    have B2 := B0.trans (hb2.mono B0.size)
    have lo2 : w.heap.size + 2 ≤ ((w.alloc (.cells #[.int .i64 0, .int .i64 0, .int .i64 0, .slice none 0 0] 117)).alloc (.cells #[.int .i64 0, .int .i64 0, .int .i64 0, .slice none 0 0] 117)).heap.size := by simp
    clear r0 v0 B0 hb2 HA
    have gnlo : w.heap.size + 2 ≤ gn := by have := hSn.lo; simpa using Nat.le_trans lo2 this
    by_cases h3 : (partsL s.data.toList).length = 3
    · obtain ⟨p0, p1, p2, hp⟩ := len3 h3
      have HPP := Lib.hid hp
      have mm : ∀ x ∈ partsL s.data.toList, x.length ≤ 1048576 := fun x hx => by have h1 := cutL_mem_le 46 (headL s.data.toList) x hx; have h2 := headL_le s.data.toList; have h3 := HSZ.out; omega
      have m0 := mm p0 (by rw [hp]; simp)
      have m1 := mm p1 (by rw [hp]; simp)
      have m2 := mm p2 (by rw [hp]; simp)
      have x0 : w2.cell? ⟨gn, 0, none⟩ = some (.string ⟨p0.toArray⟩) := by rw [hp] at hSn; exact hSn.cell 0 (by simp)
      have x1 : w2.cell? ⟨gn, 1, none⟩ = some (.string ⟨p1.toArray⟩) := by rw [hp] at hSn; exact hSn.cell 1 (by simp)
      have x2 : w2.cell? ⟨gn, 2, none⟩ = some (.string ⟨p2.toArray⟩) := by rw [hp] at hSn; exact hSn.cell 2 (by simp)
      have HR := Lib.hid (readOk_of hp)
      have HTX := Lib.hid (read_text hp)
      have HTN := Lib.hid (read_ok hp)
      rw [h3]
      clear mm hp h3
      have gne : gn ≠ w.heap.size + 1 := by omega
      obtain ⟨u0, u1, u2, u3⟩ := cells4 v2
      have f0 := frozen4 v2 0
      go_wp2_with fail
      refine (specReadDec_any ⟨p0.toArray⟩ _ (by rw [size_of]; exact m0)).mono ?_
      rintro e w' ⟨rfl, rfl⟩
      obtain ⟨z0, HZ0⟩ : ∃ z, Hid (readL p0 = z) := ⟨_, Lib.hid rfl⟩
      rw [show readL (⟨p0.toArray⟩ : ByteArray).data.toList = z0 from HZ0.out]
      have v3 := heap_set0 v2 (.int .i64 z0)
      have r3 := heap_other (g := w.heap.size + 1) (o := 0) r2 (.int .i64 z0) (by omega)
      have y1 := (World.cell?_setCell_far w2 ⟨w.heap.size + 1, 0, none⟩ ⟨gn, 1, none⟩ (.int .i64 z0) (Ne.symm gne)).trans x1
      have y2 := (World.cell?_setCell_far w2 ⟨w.heap.size + 1, 0, none⟩ ⟨gn, 2, none⟩ (.int .i64 z0) (Ne.symm gne)).trans x2
      have f1 := frozen4 v3 1
      obtain ⟨t0, t1, t2, t3⟩ := cells4 v3
      go_wp2_with fail
      refine (specReadDec_any ⟨p1.toArray⟩ _ (by rw [size_of]; exact m1)).mono ?_
      rintro e w' ⟨rfl, rfl⟩
      obtain ⟨z1, HZ1⟩ : ∃ z, Hid (readL p1 = z) := ⟨_, Lib.hid rfl⟩
      rw [show readL (⟨p1.toArray⟩ : ByteArray).data.toList = z1 from HZ1.out]
      have v4 := heap_set1 v3 (.int .i64 z1)
      have r4 := heap_other (g := w.heap.size + 1) (o := 1) r3 (.int .i64 z1) (by omega)
      have yy2 := (World.cell?_setCell_far _ ⟨w.heap.size + 1, 1, none⟩ ⟨gn, 2, none⟩ (.int .i64 z1) (Ne.symm gne)).trans y2
      have f2 := frozen4 v4 2
      clear t0 t1 t2 t3 f0
      obtain ⟨t0, t1, t2, t3⟩ := cells4 v4
      go_wp2_with fail
      refine (specReadDec_any ⟨p2.toArray⟩ _ (by rw [size_of]; exact m2)).mono ?_
      rintro e w' ⟨rfl, rfl⟩
      obtain ⟨z2, HZ2⟩ : ∃ z, Hid (readL p2 = z) := ⟨_, Lib.hid rfl⟩
      rw [show readL (⟨p2.toArray⟩ : ByteArray).data.toList = z2 from HZ2.out]
      have v5 := heap_set2 v4 (.int .i64 z2)
      have r5 := heap_other (g := w.heap.size + 1) (o := 2) r4 (.int .i64 z2) (by omega)
      have B5 := ((B2.setCell (p := ⟨w.heap.size + 1, 0, none⟩) (Nat.le_succ _) (.int .i64 z0)).setCell (p := ⟨w.heap.size + 1, 1, none⟩) (Nat.le_succ _) (.int .i64 z1)).setCell (p := ⟨w.heap.size + 1, 2, none⟩) (Nat.le_succ _) (.int .i64 z2)
      have hS5 : Strs (((w2.setCell ⟨w.heap.size + 1, 0, none⟩ (.int .i64 z0)).setCell ⟨w.heap.size + 1, 1, none⟩ (.int .i64 z1)).setCell ⟨w.heap.size + 1, 2, none⟩ (.int .i64 z2)) (w.heap.size + 2) (.slice none 0 0) (tailL s.data.toList) := by rw [HTL.out]; exact Strs.nil _ _
      obtain ⟨i0, i1, i2, i3⟩ := cells4 v5
      go_wp2_with fail
      clear t0 t1 t2 t3 i0 i1 i2 i3 u0 u1 u2 u3 f1 f2 x0 x1 x2 y1 y2 yy2 v2 v3 v4 r2 r3 r4 B2
      generalize ((w2.setCell ⟨w.heap.size + 1, 0, none⟩ (.int .i64 z0)).setCell ⟨w.heap.size + 1, 1, none⟩ (.int .i64 z1)).setCell ⟨w.heap.size + 1, 2, none⟩ (.int .i64 z2) = W5 at *
      refine (specVersionText_any z0 z1 z2 _ (tailL s.data.toList) _ (RdS.of_strs hS5) (tail_sm HSZ.out)).mono ?_
      rintro e w6 ⟨rfl, hb6⟩
      have v6 := keepB v5 hb6
      have r6 := keepB r5 hb6
      have B6 := B5.trans (hb6.mono B5.size)
      have hS6 := hS5.below hb6
      have hw := hS5.owned
      clear v5 r5 B5 hS5 hb6
      by_cases hv : verOk z0 z1 z2 (tailL s.data.toList) = true
      · have HE : Hid (verText z0 z1 z2 (tailL s.data.toList) = s.data.toList) := Lib.hid (by have := HTX.out; rw [HZ0.out, HZ1.out, HZ2.out] at this; exact this hv)
        have HOK : Hid (readOk s.data.toList = true) := Lib.hid (by rw [HR.out, HZ0.out, HZ1.out, HZ2.out]; exact hv)
        have e9 : ((verText z0 z1 z2 (tailL s.data.toList)) == s.toList) = true := by rw [HE.out, ByteArray.toList_eq]; simp
        clear hv
        obtain ⟨p0', p1', p2', p3'⟩ := cells4 v6
        obtain ⟨q0, q1, q2, q3⟩ := cells4 r6
        have f0 := frozen4 r6 0
        have f1 := frozen4 r6 1
        have f2 := frozen4 r6 2
        have f3 := frozen4 r6 3
        go_wp2_with fail
        refine bodyPost_ret (v := .tuple #[.agg #[.int .i64 (z0), .int .i64 (z1), .int .i64 (z2), .slice none 0 0], .bool true]) ?_ rfl (by rw [← HZ0.out, ← HZ1.out, ← HZ2.out]; exact readIs_good HPP.out HOK.out (strs_result (hS6.weaken (by omega)) (fun g h => by have := hw g h; omega) _ _ _ _) (below_result B6 (by omega) _ _ _ _))
        simp [results, Tryz.results91, go_sem, q0, q1, q2, q3]
      · have HE : Hid (¬ verText z0 z1 z2 (tailL s.data.toList) = s.data.toList) := Lib.hid (by have := HTN.out; rw [HZ0.out, HZ1.out, HZ2.out] at this; exact this hv)
        have HOK : Hid (readOk s.data.toList = false) := Lib.hid (by rw [HR.out, HZ0.out, HZ1.out, HZ2.out]; simpa using hv)
        have e9 : ((verText z0 z1 z2 (tailL s.data.toList)) == s.toList) = false := by rw [ByteArray.toList_eq]; simpa using HE.out
        clear hv
        obtain ⟨q0, q1, q2, q3⟩ := cells4 r6
        have f0 := frozen4 r6 0
        have f1 := frozen4 r6 1
        have f2 := frozen4 r6 2
        have f3 := frozen4 r6 3
        go_wp2_with fail
        refine bodyPost_ret (v := .tuple #[.agg #[.int .i64 0, .int .i64 0, .int .i64 0, .slice none 0 0], .bool false]) ?_ rfl (readIs_bad HOK.out (below_result B6 (by omega) _ _ _ _))
        simp [results, Tryz.results91, go_sem, q0, q1, q2, q3]
    · have HOK := Lib.hid (readOk_bad h3)
      have q9 : (((partsL s.data.toList).length : Int) != 3) = true := int_bne_true (by omega)
      clear h3
      obtain ⟨q0, q1, q2, q3⟩ := cells4 r2
      have f0 := frozen4 r2 0
      have f1 := frozen4 r2 1
      have f2 := frozen4 r2 2
      have f3 := frozen4 r2 3
      go_wp2_with fail
      refine bodyPost_ret (v := .tuple #[.agg #[.int .i64 0, .int .i64 0, .int .i64 0, .slice none 0 0], .bool false]) ?_ rfl (readIs_bad HOK.out (below_result B2 (by omega) _ _ _ _))
      simp [results, Tryz.results91, go_sem, q0, q1, q2, q3]
end Go.Proofs.YtnodhkjgnegkcaaGreatDoor
