/-
  spec.l03Signs: the bound of >= and <.
-/
import Derived.Test.YtnodhkjgnegkcaaGreatDoorWholeB
import Derived.Deep.RegionHeld3
import Derived.Test.YtnodhkjgnegkcaaGreatDoorExM
import Derived.Test.YtnodhkjgnegkcaaGreatDoorWholeA
import Derived.Test.YtnodhkjgnegkcaaGreatDoorCharN
import Derived.Test.YtnodhkjgnegkcaaGreatDoorCut
import Derived.Test.YtnodhkjgnegkcaaGreatDoorRdB
import Derived.Deep.RegionWith
import Derived.LoopN
/-
  impl.ReadVersion: a version out of its text.
-/
namespace Go.Proofs.YtnodhkjgnegkcaaGreatDoor
open Go.RowKit

theorem keep3 {W V : World} {g : Nat} {v0 v1 v2 : Value} (hb : Below W.heap.size W V) (h : W.cell? ⟨g, 0, none⟩ = some v0 ∧ W.cell? ⟨g, 1, none⟩ = some v1 ∧ W.cell? ⟨g, 2, none⟩ = some v2) : V.cell? ⟨g, 0, none⟩ = some v0 ∧ V.cell? ⟨g, 1, none⟩ = some v1 ∧ V.cell? ⟨g, 2, none⟩ = some v2 := ⟨keepC hb h.1, keepC hb h.2.1, keepC hb h.2.2⟩

set_option maxRecDepth 100000 in
set_option maxHeartbeats 4000000 in
theorem implReadVersion_any (s : ByteArray) (w : World) (hs : s.size ≤ 1048576) :
    Calls Tryz.prog 199 #[.string s] w (ReadIs w s.data.toList) := by
  have HSZ : Hid (s.data.toList.length ≤ 1048576) := Lib.hid (by simpa using hs)
  have r0 := heap_alloc_new w (.cells #[.int .i64 0, .int .i64 0, .int .i64 0, .slice none 0 0] 117)
  have B0 : Below w.heap.size w (w.alloc (.cells #[.int .i64 0, .int .i64 0, .int .i64 0, .slice none 0 0] 117)) := (Below.refl _ _).alloc (Nat.le_refl _) _
  obtain ⟨d, HD⟩ : ∃ d, Hid (dash s.data.toList = d) := ⟨_, Lib.hid rfl⟩
  by_cases hd : 0 ≤ d
  · have hdl : d < s.size := by have := idx_lt s.data.toList 45; have h2 : Lib.indexByte s.data.toList 45 = d := HD.out; rw [h2] at this; simpa using this
    obtain ⟨k, rfl⟩ : ∃ k : Nat, d = (k : Int) := ⟨d.toNat, by omega⟩
    have HTL : Hid (cutL 46 (⟨(s.data.toList.drop (k + 1)).toArray⟩ : ByteArray).data.toList = tailL s.data.toList) := Lib.hid (by rw [tailL_yes (by rw [HD.out]; exact hd), HD.out]; rfl)
    have HQ2 : Hid (cutL 46 (⟨(s.data.toList.take k).toArray⟩ : ByteArray).data.toList = partsL s.data.toList) := Lib.hid (by unfold partsL; rw [headL_yes (by rw [HD.out]; exact hd), HD.out]; rfl)
    go_enter Tryz.func199, Tryz.ntmps199
    go_wp2_with fail
    refine (cutDash_yes s _ hs k (by omega) HD.out).mono ?_
    rintro e w1 ⟨rfl, nq, rfl⟩
    have B1 := B0.trans (below_drewN _ _ nq)
    have r1 := keepB r0 (below_drewN _ _ nq)
    clear r0 B0
    go_wp2_with fail
    refine (splitAt_any _ 46 _ (by rw [size_of]; simp <;> omega)).mono ?_
    rintro e w2 ⟨gn, cn, rfl, hSn, hb2⟩
    rw [HQ2.out] at hSn ⊢
    have r2 := keepB r1 hb2
    have B2 := B1.trans (hb2.mono B1.size)
    clear r1 hb2
    by_cases h3 : (partsL s.data.toList).length = 3
    · obtain ⟨p0, p1, p2, hp⟩ := len3 h3
      have HPP := Lib.hid hp
      have mm : ∀ x ∈ partsL s.data.toList, x.length ≤ 1048576 := fun x hx => by have h1 := cutL_mem_le 46 (headL s.data.toList) x hx; have h2 := headL_le s.data.toList; have h3 := HSZ.out; omega
      have m0 := mm p0 (by rw [hp]; simp)
      have m1 := mm p1 (by rw [hp]; simp)
      have m2 := mm p2 (by rw [hp]; simp)
      have x0 : w2.cell? ⟨gn, 0, none⟩ = some (.string ⟨p0.toArray⟩) := by rw [hp] at hSn; exact hSn.cell 0 (by simp)
      have x1 : w2.cell? ⟨gn, 1, none⟩ = some (.string ⟨p1.toArray⟩) := by rw [hp] at hSn; exact hSn.cell 1 (by simp)
      have x2 : w2.cell? ⟨gn, 2, none⟩ = some (.string ⟨p2.toArray⟩) := by rw [hp] at hSn; exact hSn.cell 2 (by simp)
      have HR := Lib.hid (readOk_of hp)
      rw [h3]
      clear mm hp h3
      obtain ⟨z0, HZ0⟩ : ∃ z, Hid (readL p0 = z) := ⟨_, Lib.hid rfl⟩
      obtain ⟨z1, HZ1⟩ : ∃ z, Hid (readL p1 = z) := ⟨_, Lib.hid rfl⟩
      obtain ⟨z2, HZ2⟩ : ∃ z, Hid (readL p2 = z) := ⟨_, Lib.hid rfl⟩
      have HD0 := Lib.hid (fun W => (implReadDec_any ⟨p0.toArray⟩ W (by rw [size_of]; exact m0)).mono (fun e w' h => (⟨by rw [h.1, show readL (⟨p0.toArray⟩ : ByteArray).data.toList = z0 from HZ0.out], h.2⟩ : e = .returned (.int .i64 z0) ∧ W = w')))
      have HD1 := Lib.hid (fun W => (implReadDec_any ⟨p1.toArray⟩ W (by rw [size_of]; exact m1)).mono (fun e w' h => (⟨by rw [h.1, show readL (⟨p1.toArray⟩ : ByteArray).data.toList = z1 from HZ1.out], h.2⟩ : e = .returned (.int .i64 z1) ∧ W = w')))
      have HD2 := Lib.hid (fun W => (implReadDec_any ⟨p2.toArray⟩ W (by rw [size_of]; exact m2)).mono (fun e w' h => (⟨by rw [h.1, show readL (⟨p2.toArray⟩ : ByteArray).data.toList = z2 from HZ2.out], h.2⟩ : e = .returned (.int .i64 z2) ∧ W = w')))
      go_wp2_with fail
      have ba : ∀ (W : World) (o : Obj), Below W.heap.size W (W.alloc o) := fun W o => (Below.refl _ _).alloc (Nat.le_refl _) _
      have HBA := Lib.hid ba
      clear ba
      go_region_held3 (fun W' => W'.cell? ⟨gn, 0, none⟩ = some (.string ⟨p0.toArray⟩) ∧ W'.cell? ⟨gn, 1, none⟩ = some (.string ⟨p1.toArray⟩) ∧ W'.cell? ⟨gn, 2, none⟩ = some (.string ⟨p2.toArray⟩)) (first | exact ⟨x0, x1, x2⟩ | assumption | exact keep3 (HBA.out _ _) (by assumption) | go_keep) ((first | (go_at_call 246; (with_reducible refine (HD0.out _).mono ?_); rintro e w' ⟨rfl, rfl⟩) | (go_at_call 246; (with_reducible refine (HD1.out _).mono ?_); rintro e w' ⟨rfl, rfl⟩) | (go_at_call 246; (with_reducible refine (HD2.out _).mono ?_); rintro e w' ⟨rfl, rfl⟩)))
      all_goals
        go_wp2_with fail
        have v3 : (w2.alloc (.cells #[.int .i64 z0, .int .i64 z1, .int .i64 z2, .slice none 0 0] 117)).drew.heap[w2.heap.size]? = some (.cells #[.int .i64 z0, .int .i64 z1, .int .i64 z2, .slice none 0 0] 117) := heap_alloc_new w2 _
        have r3 : (w2.alloc (.cells #[.int .i64 z0, .int .i64 z1, .int .i64 z2, .slice none 0 0] 117)).drew.heap[w.heap.size]? = some (.cells #[.int .i64 0, .int .i64 0, .int .i64 0, .slice none 0 0] 117) := keepA r2 _
        have B3 := (B2.alloc B2.size (.cells #[.int .i64 z0, .int .i64 z1, .int .i64 z2, .slice none 0 0] 117)).trans (below_drew w.heap.size _)
        have lo : w.heap.size < w2.heap.size := lt_of_heap r2
        clear r2 B2 x0 x1 x2
        refine (splitAt_any _ 46 _ (by rw [size_of]; simp <;> omega)).mono ?_
        rintro e w4 ⟨gp, cp, rfl, hSp, hb4⟩
        rw [HTL.out] at hSp ⊢
        have v4 := keepB v3 hb4
        have r4 := keepB r3 hb4
        have B4 := B3.trans (hb4.mono B3.size)
        have glo : w2.heap.size + 1 ≤ gp := by have := hSp.lo; simpa using this
        obtain ⟨q0, q1, q2, q3⟩ := cells4 v4
        have f3 := frozen4 v4 3
        have v5 := heap_set3 v4 (.slice (some ⟨gp, 0, none⟩) (tailL s.data.toList).length cp)
        have r5 := heap_other (g := w2.heap.size) (o := 3) r4 (.slice (some ⟨gp, 0, none⟩) (tailL s.data.toList).length cp) (by omega)
        have B5 := B4.setCell (p := ⟨w2.heap.size, 3, none⟩) (by show w.heap.size ≤ w2.heap.size; omega) (.slice (some ⟨gp, 0, none⟩) (tailL s.data.toList).length cp)
        have hS5 := (hSp.weaken (base' := w2.heap.size + 1) (by simp)).other w2.heap.size 3 (.slice (some ⟨gp, 0, none⟩) (tailL s.data.toList).length cp) (by omega)
        obtain ⟨i0, i1, i2, i3⟩ := cells4 v5
        go_wp2_with fail
        clear v3 v4 r3 r4 B3 B4 hSp hb4 q0 q1 q2 q3 f3 i0 i1 i2 i3
        refine (implVersionOk_any z0 z1 z2 _ (tailL s.data.toList) _ (RdS.of_strs hS5) (tail_sm HSZ.out)).mono ?_
        obtain ⟨ok, HO⟩ : ∃ ok, Hid (verOk z0 z1 z2 (tailL s.data.toList) = ok) := ⟨_, Lib.hid rfl⟩
        rw [HO.out]
        rintro e w6 ⟨rfl, hb6⟩
        have v6 := keepB v5 hb6
        have r6 := keepB r5 hb6
        have B6 := B5.trans (hb6.mono B5.size)
        have hS6 := hS5.below hb6
        have hw := hS5.owned
        have HOK : Hid (readOk s.data.toList = ok) := Lib.hid (by rw [HR.out, HZ0.out, HZ1.out, HZ2.out]; exact HO.out)
        clear v5 r5 B5 hS5 hb6
        cases ok
        · skip
          obtain ⟨q0, q1, q2, q3⟩ := cells4 r6
          have f0 := frozen4 r6 0
          have f1 := frozen4 r6 1
          have f2 := frozen4 r6 2
          have f3 := frozen4 r6 3
          go_wp2_with fail
          refine bodyPost_ret (v := .tuple #[.agg #[.int .i64 0, .int .i64 0, .int .i64 0, .slice none 0 0], .bool false]) ?_ rfl (readIs_bad HOK.out (below_result B6 (by omega) _ _ _ _))
          simp [results, Tryz.results199, go_sem, q0, q1, q2, q3]
        · skip
          obtain ⟨p0', p1', p2', p3'⟩ := cells4 v6
          obtain ⟨q0, q1, q2, q3⟩ := cells4 r6
          have f0 := frozen4 r6 0
          have f1 := frozen4 r6 1
          have f2 := frozen4 r6 2
          have f3 := frozen4 r6 3
          go_wp2_with fail
          refine bodyPost_ret (v := .tuple #[.agg #[.int .i64 (z0), .int .i64 (z1), .int .i64 (z2), .slice (some ⟨gp, 0, none⟩) (tailL s.data.toList).length cp], .bool true]) ?_ rfl (by rw [← HZ0.out, ← HZ1.out, ← HZ2.out]; exact readIs_good HPP.out HOK.out (strs_result (hS6.weaken (by omega)) (fun g h => by have := hw g h; omega) _ _ _ _) (below_result B6 (by omega) _ _ _ _))
          simp [results, Tryz.results199, go_sem, q0, q1, q2, q3]
    · have HOK := Lib.hid (readOk_bad h3)
      have q9 : (((partsL s.data.toList).length : Int) != 3) = true := int_bne_true (by omega)
      clear h3
      obtain ⟨q0, q1, q2, q3⟩ := cells4 r2
      have f0 := frozen4 r2 0
      have f1 := frozen4 r2 1
      have f2 := frozen4 r2 2
      have f3 := frozen4 r2 3
      go_wp2_with fail
      refine bodyPost_ret (v := .tuple #[.agg #[.int .i64 0, .int .i64 0, .int .i64 0, .slice none 0 0], .bool false]) ?_ rfl (readIs_bad HOK.out (below_result B2 (by omega) _ _ _ _))
      simp [results, Tryz.results199, go_sem, q0, q1, q2, q3]
  · have hdn : ¬ 0 ≤ dash s.data.toList := by rw [HD.out]; exact hd
    have HQ2 : Hid (cutL 46 s.data.toList = partsL s.data.toList) := Lib.hid (by unfold partsL; rw [headL_no hdn])
    have HTL := Lib.hid (tailL_no hdn)
    clear hdn
    go_enter Tryz.func199, Tryz.ntmps199
    go_wp2_with fail
    refine (cutDash_no s _ hs d (by omega) HD.out).mono ?_
    rintro e w1 ⟨rfl, rfl⟩
    go_wp2_with fail
    refine (splitAt_any s 46 _ hs).mono ?_
    rintro e w2 ⟨gn, cn, rfl, hSn, hb2⟩
    rw [HQ2.out] at hSn ⊢
    have r2 := keepB r0 hb2
    have B2 := B0.trans (hb2.mono B0.size)
    clear r0 hb2 B0
    by_cases h3 : (partsL s.data.toList).length = 3
    · obtain ⟨p0, p1, p2, hp⟩ := len3 h3
      have HPP := Lib.hid hp
      have mm : ∀ x ∈ partsL s.data.toList, x.length ≤ 1048576 := fun x hx => by have h1 := cutL_mem_le 46 (headL s.data.toList) x hx; have h2 := headL_le s.data.toList; have h3 := HSZ.out; omega
      have m0 := mm p0 (by rw [hp]; simp)
      have m1 := mm p1 (by rw [hp]; simp)
      have m2 := mm p2 (by rw [hp]; simp)
      have x0 : w2.cell? ⟨gn, 0, none⟩ = some (.string ⟨p0.toArray⟩) := by rw [hp] at hSn; exact hSn.cell 0 (by simp)
      have x1 : w2.cell? ⟨gn, 1, none⟩ = some (.string ⟨p1.toArray⟩) := by rw [hp] at hSn; exact hSn.cell 1 (by simp)
      have x2 : w2.cell? ⟨gn, 2, none⟩ = some (.string ⟨p2.toArray⟩) := by rw [hp] at hSn; exact hSn.cell 2 (by simp)
      have HR := Lib.hid (readOk_of hp)
      rw [h3]
      clear mm hp h3
      obtain ⟨z0, HZ0⟩ : ∃ z, Hid (readL p0 = z) := ⟨_, Lib.hid rfl⟩
      obtain ⟨z1, HZ1⟩ : ∃ z, Hid (readL p1 = z) := ⟨_, Lib.hid rfl⟩
      obtain ⟨z2, HZ2⟩ : ∃ z, Hid (readL p2 = z) := ⟨_, Lib.hid rfl⟩
      have HD0 := Lib.hid (fun W => (implReadDec_any ⟨p0.toArray⟩ W (by rw [size_of]; exact m0)).mono (fun e w' h => (⟨by rw [h.1, show readL (⟨p0.toArray⟩ : ByteArray).data.toList = z0 from HZ0.out], h.2⟩ : e = .returned (.int .i64 z0) ∧ W = w')))
      have HD1 := Lib.hid (fun W => (implReadDec_any ⟨p1.toArray⟩ W (by rw [size_of]; exact m1)).mono (fun e w' h => (⟨by rw [h.1, show readL (⟨p1.toArray⟩ : ByteArray).data.toList = z1 from HZ1.out], h.2⟩ : e = .returned (.int .i64 z1) ∧ W = w')))
      have HD2 := Lib.hid (fun W => (implReadDec_any ⟨p2.toArray⟩ W (by rw [size_of]; exact m2)).mono (fun e w' h => (⟨by rw [h.1, show readL (⟨p2.toArray⟩ : ByteArray).data.toList = z2 from HZ2.out], h.2⟩ : e = .returned (.int .i64 z2) ∧ W = w')))
      go_wp2_with fail
      have ba : ∀ (W : World) (o : Obj), Below W.heap.size W (W.alloc o) := fun W o => (Below.refl _ _).alloc (Nat.le_refl _) _
      have HBA := Lib.hid ba
      clear ba
      go_region_held3 (fun W' => W'.cell? ⟨gn, 0, none⟩ = some (.string ⟨p0.toArray⟩) ∧ W'.cell? ⟨gn, 1, none⟩ = some (.string ⟨p1.toArray⟩) ∧ W'.cell? ⟨gn, 2, none⟩ = some (.string ⟨p2.toArray⟩)) (first | exact ⟨x0, x1, x2⟩ | assumption | exact keep3 (HBA.out _ _) (by assumption) | go_keep) ((first | (go_at_call 246; (with_reducible refine (HD0.out _).mono ?_); rintro e w' ⟨rfl, rfl⟩) | (go_at_call 246; (with_reducible refine (HD1.out _).mono ?_); rintro e w' ⟨rfl, rfl⟩) | (go_at_call 246; (with_reducible refine (HD2.out _).mono ?_); rintro e w' ⟨rfl, rfl⟩)))
      all_goals
        go_wp2_with fail
        have v3 : (w2.alloc (.cells #[.int .i64 z0, .int .i64 z1, .int .i64 z2, .slice none 0 0] 117)).drew.heap[w2.heap.size]? = some (.cells #[.int .i64 z0, .int .i64 z1, .int .i64 z2, .slice none 0 0] 117) := heap_alloc_new w2 _
        have r3 : (w2.alloc (.cells #[.int .i64 z0, .int .i64 z1, .int .i64 z2, .slice none 0 0] 117)).drew.heap[w.heap.size]? = some (.cells #[.int .i64 0, .int .i64 0, .int .i64 0, .slice none 0 0] 117) := keepA r2 _
        have B3 := (B2.alloc B2.size (.cells #[.int .i64 z0, .int .i64 z1, .int .i64 z2, .slice none 0 0] 117)).trans (below_drew w.heap.size _)
        have lo : w.heap.size < w2.heap.size := lt_of_heap r2
        clear r2 B2 x0 x1 x2
        have hS5 : Strs (w2.alloc (.cells #[.int .i64 z0, .int .i64 z1, .int .i64 z2, .slice none 0 0] 117)).drew (w2.heap.size + 1) (.slice none 0 0) (tailL s.data.toList) := by rw [HTL.out]; exact Strs.nil _ _
        have v5 := v3
        have r5 := r3
        have B5 := B3
        clear v3 r3 B3
        refine (implVersionOk_any z0 z1 z2 _ (tailL s.data.toList) _ (RdS.of_strs hS5) (tail_sm HSZ.out)).mono ?_
        obtain ⟨ok, HO⟩ : ∃ ok, Hid (verOk z0 z1 z2 (tailL s.data.toList) = ok) := ⟨_, Lib.hid rfl⟩
        rw [HO.out]
        rintro e w6 ⟨rfl, hb6⟩
        have v6 := keepB v5 hb6
        have r6 := keepB r5 hb6
        have B6 := B5.trans (hb6.mono B5.size)
        have hS6 := hS5.below hb6
        have hw := hS5.owned
        have HOK : Hid (readOk s.data.toList = ok) := Lib.hid (by rw [HR.out, HZ0.out, HZ1.out, HZ2.out]; exact HO.out)
        clear v5 r5 B5 hS5 hb6
        cases ok
        · skip
          obtain ⟨q0, q1, q2, q3⟩ := cells4 r6
          have f0 := frozen4 r6 0
          have f1 := frozen4 r6 1
          have f2 := frozen4 r6 2
          have f3 := frozen4 r6 3
          go_wp2_with fail
          refine bodyPost_ret (v := .tuple #[.agg #[.int .i64 0, .int .i64 0, .int .i64 0, .slice none 0 0], .bool false]) ?_ rfl (readIs_bad HOK.out (below_result B6 (by omega) _ _ _ _))
          simp [results, Tryz.results199, go_sem, q0, q1, q2, q3]
        · skip
          obtain ⟨p0', p1', p2', p3'⟩ := cells4 v6
          obtain ⟨q0, q1, q2, q3⟩ := cells4 r6
          have f0 := frozen4 r6 0
          have f1 := frozen4 r6 1
          have f2 := frozen4 r6 2
          have f3 := frozen4 r6 3
          go_wp2_with fail
          refine bodyPost_ret (v := .tuple #[.agg #[.int .i64 (z0), .int .i64 (z1), .int .i64 (z2), .slice none 0 0], .bool true]) ?_ rfl (by rw [← HZ0.out, ← HZ1.out, ← HZ2.out]; exact readIs_good HPP.out HOK.out (strs_result (hS6.weaken (by omega)) (fun g h => by have := hw g h; omega) _ _ _ _) (below_result B6 (by omega) _ _ _ _))
          simp [results, Tryz.results199, go_sem, q0, q1, q2, q3]
    · have HOK := Lib.hid (readOk_bad h3)
      have q9 : (((partsL s.data.toList).length : Int) != 3) = true := int_bne_true (by omega)
      clear h3
      obtain ⟨q0, q1, q2, q3⟩ := cells4 r2
      have f0 := frozen4 r2 0
      have f1 := frozen4 r2 1
      have f2 := frozen4 r2 2
      have f3 := frozen4 r2 3
      go_wp2_with fail
      refine bodyPost_ret (v := .tuple #[.agg #[.int .i64 0, .int .i64 0, .int .i64 0, .slice none 0 0], .bool false]) ?_ rfl (readIs_bad HOK.out (below_result B2 (by omega) _ _ _ _))
      simp [results, Tryz.results199, go_sem, q0, q1, q2, q3]
end Go.Proofs.YtnodhkjgnegkcaaGreatDoor

/-
  impl.readFrom with impl.above, impl.Exact.
-/
namespace Go.Proofs.YtnodhkjgnegkcaaGreatDoor
open Go.RowKit

theorem readV_any (l : List UInt8) (W : World) (hl : l.length ≤ 1048576) : Calls Tryz.prog 199 #[.string ⟨l.toArray⟩] W (ReadIs W l) := implReadVersion_any ⟨l.toArray⟩ W (by rw [size_of]; exact hl)
theorem frozen2 {V : World} {B : Nat} {T : TypeId} {v0 v1 : Value} (h : V.heap[B]? = some (.cells #[v0, v1] T)) (o : Nat) : V.frozen? ⟨B, o, none⟩ = false := by
  simp [World.frozen?, h]
theorem below_res2 {n R : Nat} {W V : World} (h : Below n W V) (hR : n ≤ R) (x0 x1 : Value) : Below n W ((V.setCell ⟨R, 0, none⟩ x0).setCell ⟨R, 1, none⟩ x1) := (h.setCell (p := ⟨R, 0, none⟩) hR _).setCell (p := ⟨R, 1, none⟩) hR _
theorem set2_heap {V : World} {B : Nat} {T : TypeId} {v0 v1 : Value} (h : V.heap[B]? = some (.cells #[v0, v1] T)) (x0 x1 : Value) : ((V.setCell ⟨B, 0, none⟩ x0).setCell ⟨B, 1, none⟩ x1).heap[B]? = some (.cells #[x0, x1] T) := by
  have h1 := Lib.heap_setCell_same (i := 0) h x0
  have h2 := Lib.heap_setCell_same (i := 1) h1 x1
  simpa using h2
theorem sm_readPP (l : List UInt8) : Sm (readP l) := by
  have h5 := readP_sm l
  refine ⟨by omega, fun x hx => ?_⟩
  unfold readP at hx
  split at hx
  · rename_i h
    have hv := read_ver h
    have : readP l = tailL l := by simp [readP, h]
    rw [← this] at hx
    have := verOk_len hv x hx
    omega
  · cases hx
theorem cell_far2 {V : World} {B q o : Nat} (h : B ≠ q) (x y : Value) : ((V.setCell ⟨q, 0, none⟩ x).setCell ⟨q, 1, none⟩ y).cell? ⟨B, o, none⟩ = V.cell? ⟨B, o, none⟩ := by
  have e1 := heap_setCell_other V ⟨q, 0, none⟩ B x h
  have e2 := heap_setCell_other (V.setCell ⟨q, 0, none⟩ x) ⟨q, 1, none⟩ B y h
  simp only [World.cell?, e2, e1]
theorem heap_far2 {V : World} {B q : Nat} (h : B ≠ q) (x y : Value) : ((V.setCell ⟨q, 0, none⟩ x).setCell ⟨q, 1, none⟩ y).heap[B]? = V.heap[B]? :=
  (heap_setCell_other (V.setCell ⟨q, 0, none⟩ x) ⟨q, 1, none⟩ B y h).trans (heap_setCell_other V ⟨q, 0, none⟩ B x h)
theorem abv_high {l : List UInt8} : abvL (readA l 0) (readA l 1) (readA l 2) (readP l) = exHigh l := rfl

set_option maxRecDepth 100000 in
set_option maxHeartbeats 4000000 in
theorem readFrom_no (l : List UInt8) (w : World) (hl : l.length ≤ 1048576) (hok : readOk l = false) :
    Calls Tryz.prog 205 #[.string ⟨l.toArray⟩, .func (.func 206) #[] #[]] w fun e w' => e = .returned (.tuple #[.agg #[.string ⟨#[]⟩, .string ⟨#[]⟩], .bool false]) ∧ Below w.heap.size w w' := by
  have HR := Lib.hid (fun W => readV_any l W hl)
  have B0 : Below w.heap.size w (w.alloc (.cells #[.string ⟨#[]⟩, .string ⟨#[]⟩] 166)) := (Below.refl _ _).alloc (Nat.le_refl _) _
  have r0 := heap_alloc_new w (.cells #[.string ⟨#[]⟩, .string ⟨#[]⟩] 166)
  go_enter Tryz.func205, Tryz.ntmps205
  go_wp2_with fail
  refine (HR.out _).mono ?_
  rintro e w2 ⟨u, rfl, hS, hb⟩
  rw [hok]
  obtain ⟨U, uc, rfl, _⟩ := RdS.of_strs hS
  have B1 := B0.trans (hb.mono (by simp))
  have r1 := keepB r0 hb
  clear hS hb B0 r0
  obtain ⟨c0, c1⟩ := two_cells r1
  have f0 := frozen2 r1 0
  have f1 := frozen2 r1 1
  have hs1 := lt_of_heap r1
  have B2 := (below_res2 B1 (Nat.le_refl _) (.string ⟨#[]⟩) (.string ⟨#[]⟩)).alloc (by simp; omega) (.cells #[.int .i64 (readA l 0), .int .i64 (readA l 1), .int .i64 (readA l 2), .slice U (readP l).length uc] 117)
  obtain ⟨y0, y1⟩ := two_cells (keepA (set2_heap r1 (.string ⟨#[]⟩) (.string ⟨#[]⟩)) (.cells #[.int .i64 (readA l 0), .int .i64 (readA l 1), .int .i64 (readA l 2), .slice U (readP l).length uc] 117))
  go_wp2_with fail
  refine bodyPost_ret (v := .tuple #[.agg #[.string ⟨#[]⟩, .string ⟨#[]⟩], .bool false]) ?_ rfl ⟨rfl, B2⟩
  simp [results, Tryz.results205, go_sem, y0, y1]

set_option maxRecDepth 100000 in
set_option maxHeartbeats 4000000 in
theorem readFrom_yes (l : List UInt8) (w : World) (hl : l.length ≤ 1048576) (hok : readOk l = true) (ht : Tab w) :
    Calls Tryz.prog 205 #[.string ⟨l.toArray⟩, .func (.func 206) #[] #[]] w fun e w' => e = .returned (.tuple #[.agg #[.string ⟨l.toArray⟩, .string ⟨(exHigh l).toArray⟩], .bool (!(exHigh l).isEmpty)]) ∧ Below w.heap.size w w' := by
  have HR := Lib.hid (fun W => readV_any l W hl)
  have B0 : Below w.heap.size w (w.alloc (.cells #[.string ⟨#[]⟩, .string ⟨#[]⟩] 166)) := (Below.refl _ _).alloc (Nat.le_refl _) _
  have r0 := heap_alloc_new w (.cells #[.string ⟨#[]⟩, .string ⟨#[]⟩] 166)
  obtain ⟨h, HH⟩ : ∃ h, Hid (exHigh l = h) := ⟨_, Lib.hid rfl⟩
  rw [HH.out]
  have HRV := Lib.hid (read_ver hok)
  have HRB := Lib.hid (read_back hok)
  have HSM := Lib.hid (sm_readPP l)
  go_enter Tryz.func205, Tryz.ntmps205
  go_wp2_with fail
  refine (HR.out _).mono ?_
  rintro e w2 ⟨u, rfl, hS, hb⟩
  rw [hok]
  have hrd := RdS.of_strs hS
  have B1 := B0.trans (hb.mono (by simp))
  have HV := Lib.hid (fun (W : World) (h : Below w2.heap.size w2 W) => implVersionText_any (readA l 0) (readA l 1) (readA l 2) _ u (readP l) W (hS.below h) HSM.out (tab_below (tab_below ht B1) h))
  have HA := Lib.hid (fun (W : World) (h : Below w2.heap.size w2 W) => above_any (readA l 0) (readA l 1) (readA l 2) u (readP l) W (hrd.below h) HRV.out (tab_below (tab_below ht B1) h))
  rw [abv_high, HH.out] at HA
  rw [HRB.out] at HV
  obtain ⟨U, uc, rfl, _⟩ := hrd
  have r1 := keepB r0 hb
  clear hS hb B0 r0 ht hok HRV HRB HSM
  have hs1 := lt_of_heap r1
  have BV : Below w2.heap.size w2 ((w2.alloc (.cells #[.int .i64 (readA l 0), .int .i64 (readA l 1), .int .i64 (readA l 2), .slice U (readP l).length uc] 117)).drew) := ((Below.refl _ _).alloc (Nat.le_refl _) _).trans (below_drewN _ _ 1)
  have r2 := keepA r1 (.cells #[.int .i64 (readA l 0), .int .i64 (readA l 1), .int .i64 (readA l 2), .slice U (readP l).length uc] 117)
  have v2 := heap_alloc_new w2 (.cells #[.int .i64 (readA l 0), .int .i64 (readA l 1), .int .i64 (readA l 2), .slice U (readP l).length uc] 117)
  obtain ⟨p0, p1, p2, p3⟩ := cells4 v2
  go_wp2_with fail
  have BW : Below w2.heap.size w2 (((w2.alloc (.cells #[.int .i64 (readA l 0), .int .i64 (readA l 1), .int .i64 (readA l 2), .slice U (readP l).length uc] 117)).alloc (.cells #[.string ⟨#[]⟩, .string ⟨#[]⟩] 166)).drew) := (((Below.refl _ _).alloc (Nat.le_refl _) _).alloc (by simp) _).trans (below_drewN _ _ 1)
  go_region_held3 (fun W => W.cell? ⟨w2.heap.size, 0, none⟩ = some (.int .i64 (readA l 0)) ∧ W.cell? ⟨w2.heap.size, 1, none⟩ = some (.int .i64 (readA l 1)) ∧ W.cell? ⟨w2.heap.size, 2, none⟩ = some (.int .i64 (readA l 2)) ∧ W.cell? ⟨w2.heap.size, 3, none⟩ = some (.slice U (readP l).length uc)) (first | exact ⟨p0, p1, p2, p3⟩ | exact ⟨(cell_far2 hq _ _).trans p0, (cell_far2 hq _ _).trans p1, (cell_far2 hq _ _).trans p2, (cell_far2 hq _ _).trans p3⟩ | go_keep) ((first
    | (go_at_call 253; (with_reducible refine (HV.out _ BV).mono ?_); rintro e w5 ⟨rfl, hb5⟩; have B5 := BV.trans (hb5.mono BV.size); have v5 := (keepB (W := (w2.alloc (.cells #[.int .i64 (readA l 0), .int .i64 (readA l 1), .int .i64 (readA l 2), .slice U (readP l).length uc] 117)).drew) v2 hb5); have r5 := (keepB (W := (w2.alloc (.cells #[.int .i64 (readA l 0), .int .i64 (readA l 1), .int .i64 (readA l 2), .slice U (readP l).length uc] 117)).drew) r2 hb5); obtain ⟨p0, p1, p2, p3⟩ := cells4 v5)
    | (go_at_call 206; (with_reducible refine (HA.out _ B5).mono ?_); rintro e w7 ⟨rfl, hb7⟩; have z7 := keepB z5 hb7; obtain ⟨z0, z1⟩ := two_cells z7; have g0 := frozen2 z7 0; have g1 := frozen2 z7 1; have hq : w2.heap.size ≠ w2.heap.size + 1 := Nat.ne_of_lt (Nat.lt_succ_self _); have B7 := B5.trans (hb7.mono B5.size); have v7 := keepB v5 hb7; have r7 := keepB r5 hb7; obtain ⟨p0, p1, p2, p3⟩ := cells4 v7)
    | (go_at_call 206; (with_reducible refine (HA.out _ B5).mono ?_); rintro e w7 ⟨rfl, hb7⟩; have B7 := B5.trans (hb7.mono B5.size); have v7 := keepB v5 hb7; have r7 := keepB r5 hb7; obtain ⟨p0, p1, p2, p3⟩ := cells4 v7)
    | (go_at_call 206; (with_reducible refine (HA.out _ (B5.alloc B5.size _)).mono ?_); rintro e w7 ⟨rfl, hb7⟩; have B7 := (B5.alloc B5.size (.cells #[.string ⟨#[]⟩, .string ⟨#[]⟩] 166)).trans (hb7.mono (B5.alloc B5.size (.cells #[.string ⟨#[]⟩, .string ⟨#[]⟩] 166)).size); have v5 := keepA v5 (.cells #[.string ⟨#[]⟩, .string ⟨#[]⟩] 166); have r5 := keepA r5 (.cells #[.string ⟨#[]⟩, .string ⟨#[]⟩] 166); have z7 := keepB (heap_alloc_new w5 _) hb7; obtain ⟨z0, z1⟩ := two_cells z7; have g0 := frozen2 z7 0; have g1 := frozen2 z7 1; have hq : w2.heap.size ≠ w5.heap.size := Nat.ne_of_lt (lt_of_heap (keepB (W := (w2.alloc (.cells #[.int .i64 (readA l 0), .int .i64 (readA l 1), .int .i64 (readA l 2), .slice U (readP l).length uc] 117)).drew) v2 hb5)); have v7 := keepB v5 hb7; have r7 := keepB r5 hb7; obtain ⟨p0, p1, p2, p3⟩ := cells4 v7)
    | (go_at_call 253; (with_reducible refine (HV.out _ BW).mono ?_); rintro e w5 ⟨rfl, hb5⟩; have B5 := BW.trans (hb5.mono BW.size); have v5 := (keepB (W := ((w2.alloc (.cells #[.int .i64 (readA l 0), .int .i64 (readA l 1), .int .i64 (readA l 2), .slice U (readP l).length uc] 117)).alloc (.cells #[.string ⟨#[]⟩, .string ⟨#[]⟩] 166)).drew) (keepA v2 (.cells #[.string ⟨#[]⟩, .string ⟨#[]⟩] 166)) hb5); have r5 := (keepB (W := ((w2.alloc (.cells #[.int .i64 (readA l 0), .int .i64 (readA l 1), .int .i64 (readA l 2), .slice U (readP l).length uc] 117)).alloc (.cells #[.string ⟨#[]⟩, .string ⟨#[]⟩] 166)).drew) (keepA r2 (.cells #[.string ⟨#[]⟩, .string ⟨#[]⟩] 166)) hb5); have z5 : w5.heap[w2.heap.size + 1]? = some (.cells #[.string ⟨#[]⟩, .string ⟨#[]⟩] 166) := keepB (W := ((w2.alloc (.cells #[.int .i64 (readA l 0), .int .i64 (readA l 1), .int .i64 (readA l 2), .slice U (readP l).length uc] 117)).alloc (.cells #[.string ⟨#[]⟩, .string ⟨#[]⟩] 166)).drew) (heap_new (W := (w2.alloc (.cells #[.int .i64 (readA l 0), .int .i64 (readA l 1), .int .i64 (readA l 2), .slice U (readP l).length uc] 117))) (by simp) _) hb5; obtain ⟨p0, p1, p2, p3⟩ := cells4 v5)))
  · have zz := heap_alloc_new w7 (.cells #[.string ⟨l.toArray⟩, .string ⟨h.toArray⟩] 166)
    have rr := keepA r7 (.cells #[.string ⟨l.toArray⟩, .string ⟨h.toArray⟩] 166)
    have hQR : w7.heap.size ≠ w.heap.size := by have := lt_of_heap r7; omega
    have BB : Below w.heap.size w (w7.alloc (.cells #[.string ⟨l.toArray⟩, .string ⟨h.toArray⟩] 166)) := (B1.trans (B7.mono B1.size)).alloc (by have := lt_of_heap r7; omega) _
    generalize w7.alloc (.cells #[.string ⟨l.toArray⟩, .string ⟨h.toArray⟩] 166) = W8 at zz rr BB ⊢
    generalize w7.heap.size = Q at zz hQR ⊢
    clear p0 p1 p2 p3 v7 r7 B7 hb7 v5 r5 B5 hb5 HV HA BV BW v2 r2
    by_cases hh : h = []
    · subst hh
      obtain ⟨z0, z1⟩ := two_cells zz
      obtain ⟨y0, y1⟩ := two_cells rr
      have f0 := frozen2 rr 0
      have f1 := frozen2 rr 1
      go_wp2_with fail
      go_region
      all_goals go_wp2_with fail
      all_goals
        obtain ⟨x0, x1⟩ := two_cells (V := ((W8.setCell ⟨w.heap.size, 0, none⟩ (.string ⟨l.toArray⟩)).setCell ⟨w.heap.size, 1, none⟩ (.string ⟨#[]⟩)).drew) (set2_heap rr (.string ⟨l.toArray⟩) (.string ⟨#[]⟩))
        refine bodyPost_ret (v := .tuple #[.agg #[.string ⟨l.toArray⟩, .string ⟨#[]⟩], .bool false]) ?_ rfl ⟨rfl, (below_res2 BB (Nat.le_refl _) (.string ⟨l.toArray⟩) (.string ⟨#[]⟩)).trans (below_drewN _ _ 1)⟩
        simp [results, Tryz.results205, go_sem, x0, x1]
    · have n1 : (h == []) = false := by simpa using hh
      have n2 : (h != []) = true := by simpa using hh
      have HE : Hid (Ending.returned (.tuple #[.agg #[.string ⟨l.toArray⟩, .string ⟨h.toArray⟩], .bool true]) = Ending.returned (.tuple #[.agg #[.string ⟨l.toArray⟩, .string ⟨h.toArray⟩], .bool (!h.isEmpty)])) := Lib.hid (by cases h with | nil => exact absurd rfl hh | cons x y => rfl)
      clear hh
      obtain ⟨z0, z1⟩ := two_cells zz
      obtain ⟨y0, y1⟩ := two_cells rr
      have f0 := frozen2 rr 0
      have f1 := frozen2 rr 1
      go_wp2_with fail
      go_region
      all_goals go_wp2_with fail
      all_goals
        obtain ⟨x0, x1⟩ := two_cells (V := ((W8.setCell ⟨w.heap.size, 0, none⟩ (.string ⟨l.toArray⟩)).setCell ⟨w.heap.size, 1, none⟩ (.string ⟨h.toArray⟩)).drew) (set2_heap rr (.string ⟨l.toArray⟩) (.string ⟨h.toArray⟩))
        refine bodyPost_ret (v := .tuple #[.agg #[.string ⟨l.toArray⟩, .string ⟨h.toArray⟩], .bool true]) ?_ rfl ⟨HE.out, (below_res2 BB (Nat.le_refl _) (.string ⟨l.toArray⟩) (.string ⟨h.toArray⟩)).trans (below_drewN _ _ 1)⟩
        simp [results, Tryz.results205, go_sem, x0, x1]
  · have zz := set2_heap z7 (.string ⟨l.toArray⟩) (.string ⟨h.toArray⟩)
    have hQR : w5.heap.size ≠ w.heap.size := by have := lt_of_heap (keepB (W := (w2.alloc (.cells #[.int .i64 (readA l 0), .int .i64 (readA l 1), .int .i64 (readA l 2), .slice U (readP l).length uc] 117)).drew) r2 hb5); omega
    have rr := (heap_far2 hQR.symm (.string ⟨l.toArray⟩) (.string ⟨h.toArray⟩)).trans r7
    have BB : Below w.heap.size w ((w7.setCell ⟨w5.heap.size, 0, none⟩ (.string ⟨l.toArray⟩)).setCell ⟨w5.heap.size, 1, none⟩ (.string ⟨h.toArray⟩)) := below_res2 (B1.trans (B7.mono B1.size)) (by have := lt_of_heap (keepB (W := (w2.alloc (.cells #[.int .i64 (readA l 0), .int .i64 (readA l 1), .int .i64 (readA l 2), .slice U (readP l).length uc] 117)).drew) r2 hb5); omega) _ _
    generalize (w7.setCell ⟨w5.heap.size, 0, none⟩ (.string ⟨l.toArray⟩)).setCell ⟨w5.heap.size, 1, none⟩ (.string ⟨h.toArray⟩) = W8 at zz rr BB ⊢
    generalize w5.heap.size = Q at zz hQR ⊢
    clear p0 p1 p2 p3 v7 r7 B7 hb7 v5 r5 B5 hb5 HV HA BV BW v2 r2
    by_cases hh : h = []
    · subst hh
      obtain ⟨z0, z1⟩ := two_cells zz
      obtain ⟨y0, y1⟩ := two_cells rr
      have f0 := frozen2 rr 0
      have f1 := frozen2 rr 1
      go_wp2_with fail
      go_region
      all_goals go_wp2_with fail
      all_goals
        obtain ⟨x0, x1⟩ := two_cells (V := ((W8.setCell ⟨w.heap.size, 0, none⟩ (.string ⟨l.toArray⟩)).setCell ⟨w.heap.size, 1, none⟩ (.string ⟨#[]⟩)).drew) (set2_heap rr (.string ⟨l.toArray⟩) (.string ⟨#[]⟩))
        refine bodyPost_ret (v := .tuple #[.agg #[.string ⟨l.toArray⟩, .string ⟨#[]⟩], .bool false]) ?_ rfl ⟨rfl, (below_res2 BB (Nat.le_refl _) (.string ⟨l.toArray⟩) (.string ⟨#[]⟩)).trans (below_drewN _ _ 1)⟩
        simp [results, Tryz.results205, go_sem, x0, x1]
    · have n1 : (h == []) = false := by simpa using hh
      have n2 : (h != []) = true := by simpa using hh
      have HE : Hid (Ending.returned (.tuple #[.agg #[.string ⟨l.toArray⟩, .string ⟨h.toArray⟩], .bool true]) = Ending.returned (.tuple #[.agg #[.string ⟨l.toArray⟩, .string ⟨h.toArray⟩], .bool (!h.isEmpty)])) := Lib.hid (by cases h with | nil => exact absurd rfl hh | cons x y => rfl)
      clear hh
      obtain ⟨z0, z1⟩ := two_cells zz
      obtain ⟨y0, y1⟩ := two_cells rr
      have f0 := frozen2 rr 0
      have f1 := frozen2 rr 1
      go_wp2_with fail
      go_region
      all_goals go_wp2_with fail
      all_goals
        obtain ⟨x0, x1⟩ := two_cells (V := ((W8.setCell ⟨w.heap.size, 0, none⟩ (.string ⟨l.toArray⟩)).setCell ⟨w.heap.size, 1, none⟩ (.string ⟨h.toArray⟩)).drew) (set2_heap rr (.string ⟨l.toArray⟩) (.string ⟨h.toArray⟩))
        refine bodyPost_ret (v := .tuple #[.agg #[.string ⟨l.toArray⟩, .string ⟨h.toArray⟩], .bool true]) ?_ rfl ⟨HE.out, (below_res2 BB (Nat.le_refl _) (.string ⟨l.toArray⟩) (.string ⟨h.toArray⟩)).trans (below_drewN _ _ 1)⟩
        simp [results, Tryz.results205, go_sem, x0, x1]
  · have zz := set2_heap z7 (.string ⟨l.toArray⟩) (.string ⟨h.toArray⟩)
    have hQR : (w2.heap.size + 1) ≠ w.heap.size := by omega
    have rr := (heap_far2 hQR.symm (.string ⟨l.toArray⟩) (.string ⟨h.toArray⟩)).trans r7
    have BB : Below w.heap.size w ((w7.setCell ⟨(w2.heap.size + 1), 0, none⟩ (.string ⟨l.toArray⟩)).setCell ⟨(w2.heap.size + 1), 1, none⟩ (.string ⟨h.toArray⟩)) := below_res2 (B1.trans (B7.mono B1.size)) (by omega) _ _
    generalize (w7.setCell ⟨(w2.heap.size + 1), 0, none⟩ (.string ⟨l.toArray⟩)).setCell ⟨(w2.heap.size + 1), 1, none⟩ (.string ⟨h.toArray⟩) = W8 at zz rr BB ⊢
    generalize w2.heap.size + 1 = Q at zz hQR ⊢
    clear p0 p1 p2 p3 v7 r7 B7 hb7 v5 r5 B5 hb5 HV HA BV BW v2 r2
    by_cases hh : h = []
    · subst hh
      obtain ⟨z0, z1⟩ := two_cells zz
      obtain ⟨y0, y1⟩ := two_cells rr
      have f0 := frozen2 rr 0
      have f1 := frozen2 rr 1
      go_wp2_with fail
      go_region
      all_goals go_wp2_with fail
      all_goals
        obtain ⟨x0, x1⟩ := two_cells (V := ((W8.setCell ⟨w.heap.size, 0, none⟩ (.string ⟨l.toArray⟩)).setCell ⟨w.heap.size, 1, none⟩ (.string ⟨#[]⟩)).drew) (set2_heap rr (.string ⟨l.toArray⟩) (.string ⟨#[]⟩))
        refine bodyPost_ret (v := .tuple #[.agg #[.string ⟨l.toArray⟩, .string ⟨#[]⟩], .bool false]) ?_ rfl ⟨rfl, (below_res2 BB (Nat.le_refl _) (.string ⟨l.toArray⟩) (.string ⟨#[]⟩)).trans (below_drewN _ _ 1)⟩
        simp [results, Tryz.results205, go_sem, x0, x1]
    · have n1 : (h == []) = false := by simpa using hh
      have n2 : (h != []) = true := by simpa using hh
      have HE : Hid (Ending.returned (.tuple #[.agg #[.string ⟨l.toArray⟩, .string ⟨h.toArray⟩], .bool true]) = Ending.returned (.tuple #[.agg #[.string ⟨l.toArray⟩, .string ⟨h.toArray⟩], .bool (!h.isEmpty)])) := Lib.hid (by cases h with | nil => exact absurd rfl hh | cons x y => rfl)
      clear hh
      obtain ⟨z0, z1⟩ := two_cells zz
      obtain ⟨y0, y1⟩ := two_cells rr
      have f0 := frozen2 rr 0
      have f1 := frozen2 rr 1
      go_wp2_with fail
      go_region
      all_goals go_wp2_with fail
      all_goals
        obtain ⟨x0, x1⟩ := two_cells (V := ((W8.setCell ⟨w.heap.size, 0, none⟩ (.string ⟨l.toArray⟩)).setCell ⟨w.heap.size, 1, none⟩ (.string ⟨h.toArray⟩)).drew) (set2_heap rr (.string ⟨l.toArray⟩) (.string ⟨h.toArray⟩))
        refine bodyPost_ret (v := .tuple #[.agg #[.string ⟨l.toArray⟩, .string ⟨h.toArray⟩], .bool true]) ?_ rfl ⟨HE.out, (below_res2 BB (Nat.le_refl _) (.string ⟨l.toArray⟩) (.string ⟨h.toArray⟩)).trans (below_drewN _ _ 1)⟩
        simp [results, Tryz.results205, go_sem, x0, x1]
end Go.Proofs.YtnodhkjgnegkcaaGreatDoor

/-
  spec.l03Below at each part, l03From, l03Caret, l03Short: the bounds that begin with a version.
-/
namespace Go.Proofs.YtnodhkjgnegkcaaGreatDoor
open Go.RowKit

set_option maxRecDepth 100000 in
set_option maxHeartbeats 4000000 in
theorem l03Below_part (a b c p : Int) (A : Option Addr) (n cap : Nat) (w : World) (hv : verOk a b c [] = true) (hp : inI p 0 2 = true) :
    Calls Tryz.prog 227 #[.agg #[.int .i64 a, .int .i64 b, .int .i64 c, .slice A n cap], .int .i64 p] w fun e w' => e = .returned (.tuple #[.string ⟨(rsd a b c p).toArray⟩, .bool (!(rsd a b c p).isEmpty)]) ∧ Below w.heap.size w w' := by
  obtain ⟨hY, hN, hL⟩ := next_step hv hp
  obtain ⟨x, y, z, hx⟩ : ∃ x y z, nxt a b c [] p = (x, y, z) := ⟨_, _, _, rfl⟩
  have HE := Lib.hid (rsd_empty a b c p)
  have HT0 : Hid (rsd a b c p = verText x y z [[48]]) := Lib.hid (by unfold rsd; rw [hx])
  rw [hx] at HE hY hN
  simp only at HE hY hN
  have hr0 : ∀ (W : World), RdS W (.slice (some ⟨w.heap.size + 1, 0, none⟩) 0 0) [] := fun W => ⟨_, _, rfl, fun h => by simp at h⟩
  have B0 : Below w.heap.size w ((w.alloc (.cells #[.int .i64 a, .int .i64 b, .int .i64 c, .slice (some ⟨w.heap.size + 1, 0, none⟩) 0 0] 117)).alloc (.cells #[] 9)) := ((Below.refl _ _).alloc (Nat.le_refl _) _).alloc (by simp) _
  have bx := keepA (heap_alloc_new w (.cells #[.int .i64 a, .int .i64 b, .int .i64 c, .slice (some ⟨w.heap.size + 1, 0, none⟩) 0 0] 117)) (.cells #[] 9)
  cases hok : verOk x y z [] with
  | true =>
    obtain ⟨hN2, hcp⟩ := hY hok
    have HX := Lib.hid (fun (v : Value) (W : World) (h : RdS W v []) => specNext_any a b c p v [] W h sm_nil x y z [] hN2 hL)
    have HC := Lib.hid (fun (va vb : Value) (W : World) (h1 : RdS W va []) (h2 : RdS W vb []) => specCompareVersion_any x y z a b c va vb [] [] W h1 h2 sm_nil sm_nil)
    obtain ⟨q, HZ⟩ : ∃ q, Hid (cmpVer x y z [] a b c [] = q) := ⟨_, Lib.hid rfl⟩
    simp only [HZ.out] at HC
    rw [HZ.out] at hcp
    have hz : (q == 0) = false := int_beq_false hcp
    have HT := Lib.hid (fun (v : Value) (W : World) (h : RdS W v [[48]]) => specVersionText_any x y z v [[48]] W h sm_z)
    have HB : Hid (Ending.returned (.tuple #[.string ⟨(verText x y z [[48]]).toArray⟩, .bool true]) = Ending.returned (.tuple #[.string ⟨(rsd a b c p).toArray⟩, .bool (!(rsd a b c p).isEmpty)])) := Lib.hid (by rw [HE.out, hok, HT0.out]; rfl)
    rw [← HB.out]
    obtain ⟨t, HTT⟩ : ∃ t, Hid (verText x y z [[48]] = t) := ⟨_, Lib.hid rfl⟩
    simp only [HTT.out] at HT
    rw [HTT.out]
    clear hN hY hN2 hL hv hcp hp hx HE HT0 HB hok
    go_enter Tryz.func227, Tryz.ntmps227
    go_wp2_with fail
    refine (HX.out _ _ (hr0 _)).mono ?_
    rintro e w1 ⟨u, rfl, hu, hb1⟩
    obtain ⟨U, uc, rfl⟩ := hu.slice
    have B1 := B0.trans (hb1.mono B0.size)
    have b1 := keepB bx hb1
    have hu1 : ∀ W, RdS W (.slice U 0 uc) [] := fun W => ⟨_, _, rfl, fun h => by simp at h⟩
    have hs1 : w.heap.size ≤ w1.heap.size := B1.size
    clear hb1 bx B0 hu
    have B2 : Below w.heap.size w (w1.alloc (.cells #[.int .i64 x, .int .i64 y, .int .i64 z, .slice U 0 uc] 117)) := B1.alloc B1.size _
    have b2 := keepA b1 (.cells #[.int .i64 x, .int .i64 y, .int .i64 z, .slice U 0 uc] 117)
    have n2 := heap_alloc_new w1 (.cells #[.int .i64 x, .int .i64 y, .int .i64 z, .slice U 0 uc] 117)
    obtain ⟨p0, p1, p2, p3⟩ := cells4 b2
    go_wp2_with fail
    refine (HC.out _ _ _ (hu1 _) (hr0 _)).mono ?_
    rintro e w3 ⟨rfl, hb3⟩
    have B3 := B2.trans (hb3.mono B2.size)
    have n3 := keepB n2 hb3
    clear hb3 B2 b2 n2 p0 p1 p2 p3 b1 B1
    obtain ⟨q0, q1, q2, q3⟩ := cells4 n3
    have f3 := frozen4 n3 3
    have hs4 : w1.heap.size < w3.heap.size := lt_of_heap n3
    go_wp2_with fail
    refine (HT.out _ _ (rdS_lit1 _ _ (by simp) [48] _)).mono ?_
    rintro e w5 ⟨rfl, hb5⟩
    have B4 := (B3.setCell (p := ⟨w1.heap.size, 3, none⟩) hs1 (.slice (some ⟨w3.heap.size, 0, none⟩) 1 1)).alloc (by simp; omega) (.cells #[.string ⟨#[48]⟩] 9)
    go_wp2_with fail
    go_ret2
    exact ⟨rfl, B4.trans (hb5.mono (by simp; omega))⟩
  | false =>
    have hN2 := hN hok
    have HX := Lib.hid (fun (v : Value) (W : World) (h : RdS W v []) => specNext_any a b c p v [] W h sm_nil a b c [] hN2 hL)
    have HC := Lib.hid (fun (va vb : Value) (W : World) (h1 : RdS W va []) (h2 : RdS W vb []) => specCompareVersion_any a b c a b c va vb [] [] W h1 h2 sm_nil sm_nil)
    simp only [cmp_self] at HC
    have HB : Hid (Ending.returned (.tuple #[.string ⟨#[]⟩, .bool false]) = Ending.returned (.tuple #[.string ⟨(rsd a b c p).toArray⟩, .bool (!(rsd a b c p).isEmpty)])) := Lib.hid (by
      have he : rsd a b c p = [] := List.isEmpty_iff.1 (by rw [HE.out, hok]; rfl)
      rw [he]; rfl)
    rw [← HB.out]
    clear hN hY hN2 hL hv hp hx HE HT0 HB hok
    go_enter Tryz.func227, Tryz.ntmps227
    go_wp2_with fail
    refine (HX.out _ _ (hr0 _)).mono ?_
    rintro e w1 ⟨u, rfl, hu, hb1⟩
    obtain ⟨U, uc, rfl⟩ := hu.slice
    have B1 := B0.trans (hb1.mono B0.size)
    have b1 := keepB bx hb1
    have hu1 : ∀ W, RdS W (.slice U 0 uc) [] := fun W => ⟨_, _, rfl, fun h => by simp at h⟩
    clear hb1 bx B0 hu
    have B2 : Below w.heap.size w (w1.alloc (.cells #[.int .i64 a, .int .i64 b, .int .i64 c, .slice U 0 uc] 117)) := B1.alloc B1.size _
    have b2 := keepA b1 (.cells #[.int .i64 a, .int .i64 b, .int .i64 c, .slice U 0 uc] 117)
    obtain ⟨p0, p1, p2, p3⟩ := cells4 b2
    go_wp2_with fail
    refine (HC.out _ _ _ (hu1 _) (hr0 _)).mono ?_
    rintro e w3 ⟨rfl, hb3⟩
    go_wp2_with fail
    go_ret2
    exact ⟨rfl, B2.trans (hb3.mono B2.size)⟩

/-- The two cells of a result of two texts and a Bool, read at the return. -/
theorem alt_ret {w w' : World} {ok : Bool} {b : Bd} {x y : ByteArray} (h : ok = true → x = ⟨b.1.toArray⟩ ∧ y = ⟨b.2.toArray⟩) (hb : Below w.heap.size w w') : AltIs w ok b (.returned (.tuple #[.agg #[.string x, .string y], .bool ok])) w' := ⟨x, y, rfl, h, hb⟩

set_option maxRecDepth 100000 in
set_option maxHeartbeats 4000000 in
theorem l03From_any (l : List UInt8) (a b c p : Int) (A : Option Addr) (n cap : Nat) (w : World) (hv : verOk a b c [] = true) (hp : inI p 0 2 = true) :
    Calls Tryz.prog 181 #[.string ⟨l.toArray⟩, .agg #[.int .i64 a, .int .i64 b, .int .i64 c, .slice A n cap], .int .i64 p] w (AltIs w (!(rsd a b c p).isEmpty) (l, rsd a b c p)) := by
  have HB := Lib.hid (fun W => l03Below_part a b c p A n cap W hv hp)
  obtain ⟨hi, HH⟩ : ∃ hi, Hid (rsd a b c p = hi) := ⟨_, Lib.hid rfl⟩
  simp only [HH.out] at HB
  rw [HH.out]
  clear hv hp
  have B0 : Below w.heap.size w ((w.alloc (.cells #[.int .i64 a, .int .i64 b, .int .i64 c, .slice A n cap] 117)).alloc (.cells #[.string ⟨#[]⟩, .string ⟨#[]⟩] 166)) := ((Below.refl _ _).alloc (Nat.le_refl _) _).alloc (by simp) _
  have r0 := heap_new (W := w.alloc (.cells #[.int .i64 a, .int .i64 b, .int .i64 c, .slice A n cap] 117)) (n := w.heap.size + 1) (by simp) (.cells #[.string ⟨#[]⟩, .string ⟨#[]⟩] 166)
  cases he : hi.isEmpty with
  | true =>
    rw [he] at HB
    clear he
    go_enter Tryz.func181, Tryz.ntmps181
    go_wp2_with fail
    refine (HB.out _).mono ?_
    rintro e w1 ⟨rfl, hb1⟩
    have B1 := B0.trans (hb1.mono B0.size)
    obtain ⟨c0, c1, f1⟩ := cellsD (keepB r0 hb1)
    go_wp2_with fail
    refine bodyPost_ret (v := .tuple #[.agg #[.string ⟨#[]⟩, .string ⟨#[]⟩], .bool false]) ?_ rfl ⟨_, _, rfl, fun h => (by cases h), ?_⟩
    · simp [results, Tryz.results181, go_sem, c0, c1]
    · exact (B1.setCell (p := ⟨w.heap.size + 1, 0, none⟩) (Nat.le_succ _) _).setCell (p := ⟨w.heap.size + 1, 1, none⟩) (Nat.le_succ _) _
  | false =>
    rw [he] at HB
    clear he
    go_enter Tryz.func181, Tryz.ntmps181
    go_wp2_with fail
    refine (HB.out _).mono ?_
    rintro e w1 ⟨rfl, hb1⟩
    have B1 := B0.trans (hb1.mono B0.size)
    obtain ⟨c0, c1, f1⟩ := cellsD (keepB r0 hb1)
    go_wp2_with fail
    refine bodyPost_ret (v := .tuple #[.agg #[.string ⟨l.toArray⟩, .string ⟨hi.toArray⟩], .bool true]) ?_ rfl ⟨_, _, rfl, fun _ => ⟨rfl, rfl⟩, ?_⟩
    · simp [results, Tryz.results181, go_sem, c0, c1]
    · exact (B1.setCell (p := ⟨w.heap.size + 1, 0, none⟩) (Nat.le_succ _) _).setCell (p := ⟨w.heap.size + 1, 1, none⟩) (Nat.le_succ _) _

set_option maxRecDepth 100000 in
set_option maxHeartbeats 1000000 in
theorem l03Caret_any (a b c : Int) (A : Option Addr) (n cap : Nat) (w : World) :
    Calls Tryz.prog 182 #[.agg #[.int .i64 a, .int .i64 b, .int .i64 c, .slice A n cap]] w fun e w' => e = .returned (.int .i64 (if 0 < a then 0 else if 0 < b then 1 else 2)) ∧ Below w.heap.size w w' := by
  have B0 : Below w.heap.size w (w.alloc (.cells #[.int .i64 a, .int .i64 b, .int .i64 c, .slice A n cap] 117)) := (Below.refl _ _).alloc (Nat.le_refl _) _
  by_cases h0 : 0 < a
  · rw [if_pos h0]
    go_enter Tryz.func182, Tryz.ntmps182
    go_wp2_with fail
    go_ret
    exact ⟨rfl, B0⟩
  · rw [if_neg h0]
    by_cases h1 : 0 < b
    · rw [if_pos h1]
      go_enter Tryz.func182, Tryz.ntmps182
      go_wp2_with fail
      go_ret
      exact ⟨rfl, B0⟩
    · rw [if_neg h1]
      go_enter Tryz.func182, Tryz.ntmps182
      go_wp2_with fail
      go_ret
      exact ⟨rfl, B0⟩

set_option maxRecDepth 100000 in
set_option maxHeartbeats 4000000 in
theorem l03Short_0 (l : List UInt8) (w : World) (hl : l.length ≤ 1048000) (hc : l.count 46 = 0) :
    Calls Tryz.prog 185 #[.string ⟨l.toArray⟩] w (AltIs w (fromOk (l ++ [46, 48, 46, 48]) 0) (fromB (l ++ [46, 48, 46, 48]) 0)) := by
  have hcut := cutL_count 46 l
  rw [hc] at hcut
  have HCUT := Lib.hid (fun W => l01Cut_any ⟨l.toArray⟩ 46 W (by rw [size_of]; omega))
  simp only [hcut] at HCUT
  have HPRE : Hid (readP (l ++ [46, 48, 46, 48]) = []) := Lib.hid (by have := few_pre (l := l) (by omega); rw [hc] at this; exact this)
  have s1 : ∀ W, (Op.stringOp .add ⟨l.toArray⟩ ⟨#[46, 48]⟩).run Tryz.prog W = .ok (.string ⟨(l ++ [46, 48]).toArray⟩) W := fun W => add_lists W l [46, 48] (by omega) (by simp)
  have s2 : ∀ W, (Op.stringOp .add ⟨l.toArray⟩ ⟨#[46, 48, 46, 48]⟩).run Tryz.prog W = .ok (.string ⟨(l ++ [46, 48, 46, 48]).toArray⟩) W := fun W => add_lists W l [46, 48, 46, 48] (by omega) (by simp)
  obtain ⟨L, HL⟩ : ∃ L, Hid (l ++ [46, 48, 46, 48] = L) := ⟨_, Lib.hid rfl⟩
  obtain ⟨M, HM⟩ : ∃ M, Hid (l ++ [46, 48] = M) := ⟨_, Lib.hid rfl⟩
  rw [HL.out] at HPRE ⊢
  simp only [HL.out, HM.out] at s1 s2
  have HV : Hid (∀ W, Calls Tryz.prog 91 #[.string ⟨L.toArray⟩] W (ReadIs W L)) := Lib.hid (fun W => specReadVersion_any ⟨L.toArray⟩ W (by rw [← HL.out, size_of]; simp; omega))
  have B0 : Below w.heap.size w (w.alloc (.cells #[.string ⟨#[]⟩, .string ⟨#[]⟩] 166)) := (Below.refl _ _).alloc (Nat.le_refl _) _
  have r0 := heap_alloc_new w (.cells #[.string ⟨#[]⟩, .string ⟨#[]⟩] 166)
  have HIN := Lib.hid (fun (W : World) => l01In_any 1 1 2 W)
  have hin : inI 1 1 2 = true := by decide
  simp only [hin] at HIN
  have hl2 := hl
  clear hl hc hcut
  cases hok : readOk L with
  | false =>
    have HO := Lib.hid hok
    rw [fromOk_bad hok]
    clear hok
    go_enter Tryz.func185, Tryz.ntmps185
    go_wp2_with fail
    refine (HCUT.out _).mono ?_
    rintro e w1 ⟨g, cap, rfl, hS, hb1⟩
    have B1 := B0.trans (hb1.mono B0.size)
    have r1 := keepB r0 hb1
    clear hb1 hS r0 B0
    go_wp2_with fail
    refine (HV.out _).mono ?_
    rintro e w2 ⟨u, rfl, hu, hb2⟩
    obtain ⟨U, uc, rfl⟩ := hu.slice
    rw [HO.out]
    have B2 := B1.trans (hb2.mono B1.size)
    have r2 := keepB r1 hb2
    obtain ⟨c0, c1, f1⟩ := cellsD r2
    have hlt := lt_of_heap r2
    have B3 := (below_res2 B2 (Nat.le_refl _) (.string ⟨#[]⟩) (.string ⟨#[]⟩)).alloc (by simpa using B2.size) (.cells #[.int .i64 (readA L 0), .int .i64 (readA L 1), .int .i64 (readA L 2), .slice U (readP L).length uc] 117)
    obtain ⟨y0, y1⟩ := two_cells (keepA (set2_heap r2 (.string ⟨#[]⟩) (.string ⟨#[]⟩)) (.cells #[.int .i64 (readA L 0), .int .i64 (readA L 1), .int .i64 (readA L 2), .slice U (readP L).length uc] 117))
    go_wp2_with fail
    refine bodyPost_ret (v := .tuple #[.agg #[.string ⟨#[]⟩, .string ⟨#[]⟩], .bool false]) ?_ rfl ⟨_, _, rfl, fun h => (by cases h), ?_⟩
    · simp [results, Tryz.results185, go_sem, y0, y1]
    · exact B3
  | true =>
    have HO := Lib.hid hok
    have HRN := read_num hok
    rw [fromOk_of hok]
    clear hok
    have HB := Lib.hid (fun (A : Option Addr) (n cap : Nat) W => l03Below_part (readA L 0) (readA L 1) (readA L 2) 0 A n cap W HRN (by decide))
    unfold fromB
    obtain ⟨hi, HH⟩ : ∃ hi, Hid (rsd (readA L 0) (readA L 1) (readA L 2) 0 = hi) := ⟨_, Lib.hid rfl⟩
    simp only [HH.out] at HB ⊢
    clear HRN
    cases he : hi.isEmpty with
    | true =>
      rw [he] at HB
      clear he
      go_enter Tryz.func185, Tryz.ntmps185
      go_wp2_with fail
      refine (HCUT.out _).mono ?_
      rintro e w1 ⟨g, cap, rfl, hS, hb1⟩
      have B1 := B0.trans (hb1.mono B0.size)
      have r1 := keepB r0 hb1
      clear hb1 hS r0 B0
      go_wp2_with fail
      refine (HV.out _).mono ?_
      rintro e w2 ⟨u, rfl, hu, hb2⟩
      obtain ⟨U, uc, rfl⟩ := hu.slice
      rw [HO.out, HPRE.out]
      have B2 := B1.trans (hb2.mono B1.size)
      have r2 := keepB r1 hb2
      have B3 := B2.alloc B2.size (.cells #[.int .i64 (readA L 0), .int .i64 (readA L 1), .int .i64 (readA L 2), .slice U 0 uc] 117)
      have r3 := keepA r2 (.cells #[.int .i64 (readA L 0), .int .i64 (readA L 1), .int .i64 (readA L 2), .slice U 0 uc] 117)
      have v3 := heap_alloc_new w2 (.cells #[.int .i64 (readA L 0), .int .i64 (readA L 1), .int .i64 (readA L 2), .slice U 0 uc] 117)
      clear hb2 B1 r1 hu
      go_wp2_with fail
      refine (HIN.out _).mono ?_
      rintro e w4 ⟨rfl, rfl⟩
      go_wp2_with fail
      refine (HB.out _ _ _ _).mono ?_
      rintro e w5 ⟨rfl, hb5⟩
      have B5 := B3.trans (hb5.mono B3.size)
      obtain ⟨c0, c1, f1⟩ := cellsD (keepB r3 hb5)
      go_wp2_with fail
      refine bodyPost_ret (v := .tuple #[.agg #[.string ⟨#[]⟩, .string ⟨#[]⟩], .bool false]) ?_ rfl ⟨_, _, rfl, fun h => (by cases h), ?_⟩
      · simp [results, Tryz.results185, go_sem, c0, c1]
      · exact (B5.setCell (p := ⟨w.heap.size, 0, none⟩) (Nat.le_refl _) _).setCell (p := ⟨w.heap.size, 1, none⟩) (Nat.le_refl _) _
    | false =>
      rw [he] at HB
      clear he
      go_enter Tryz.func185, Tryz.ntmps185
      go_wp2_with fail
      refine (HCUT.out _).mono ?_
      rintro e w1 ⟨g, cap, rfl, hS, hb1⟩
      have B1 := B0.trans (hb1.mono B0.size)
      have r1 := keepB r0 hb1
      clear hb1 hS r0 B0
      go_wp2_with fail
      refine (HV.out _).mono ?_
      rintro e w2 ⟨u, rfl, hu, hb2⟩
      obtain ⟨U, uc, rfl⟩ := hu.slice
      rw [HO.out, HPRE.out]
      have B2 := B1.trans (hb2.mono B1.size)
      have r2 := keepB r1 hb2
      have B3 := B2.alloc B2.size (.cells #[.int .i64 (readA L 0), .int .i64 (readA L 1), .int .i64 (readA L 2), .slice U 0 uc] 117)
      have r3 := keepA r2 (.cells #[.int .i64 (readA L 0), .int .i64 (readA L 1), .int .i64 (readA L 2), .slice U 0 uc] 117)
      have v3 := heap_alloc_new w2 (.cells #[.int .i64 (readA L 0), .int .i64 (readA L 1), .int .i64 (readA L 2), .slice U 0 uc] 117)
      clear hb2 B1 r1 hu
      go_wp2_with fail
      refine (HIN.out _).mono ?_
      rintro e w4 ⟨rfl, rfl⟩
      go_wp2_with fail
      refine (HB.out _ _ _ _).mono ?_
      rintro e w5 ⟨rfl, hb5⟩
      have B5 := B3.trans (hb5.mono B3.size)
      obtain ⟨c0, c1, f1⟩ := cellsD (keepB r3 hb5)
      go_wp2_with fail
      refine bodyPost_ret (v := .tuple #[.agg #[.string ⟨L.toArray⟩, .string ⟨hi.toArray⟩], .bool true]) ?_ rfl ⟨_, _, rfl, fun _ => ⟨rfl, rfl⟩, ?_⟩
      · simp [results, Tryz.results185, go_sem, c0, c1]
      · exact (B5.setCell (p := ⟨w.heap.size, 0, none⟩) (Nat.le_refl _) _).setCell (p := ⟨w.heap.size, 1, none⟩) (Nat.le_refl _) _

set_option maxRecDepth 100000 in
set_option maxHeartbeats 4000000 in
theorem l03Short_1 (l : List UInt8) (w : World) (hl : l.length ≤ 1048000) (hc : l.count 46 = 1) :
    Calls Tryz.prog 185 #[.string ⟨l.toArray⟩] w (AltIs w (fromOk (l ++ [46, 48]) 1) (fromB (l ++ [46, 48]) 1)) := by
  have hcut := cutL_count 46 l
  rw [hc] at hcut
  have HCUT := Lib.hid (fun W => l01Cut_any ⟨l.toArray⟩ 46 W (by rw [size_of]; omega))
  simp only [hcut] at HCUT
  have HPRE : Hid (readP (l ++ [46, 48]) = []) := Lib.hid (by have := few_pre (l := l) (by omega); rw [hc] at this; exact this)
  have s1 : ∀ W, (Op.stringOp .add ⟨l.toArray⟩ ⟨#[46, 48]⟩).run Tryz.prog W = .ok (.string ⟨(l ++ [46, 48]).toArray⟩) W := fun W => add_lists W l [46, 48] (by omega) (by simp)
  have s2 : ∀ W, (Op.stringOp .add ⟨l.toArray⟩ ⟨#[46, 48, 46, 48]⟩).run Tryz.prog W = .ok (.string ⟨(l ++ [46, 48, 46, 48]).toArray⟩) W := fun W => add_lists W l [46, 48, 46, 48] (by omega) (by simp)
  obtain ⟨L, HL⟩ : ∃ L, Hid (l ++ [46, 48] = L) := ⟨_, Lib.hid rfl⟩
  obtain ⟨M, HM⟩ : ∃ M, Hid (l ++ [46, 48, 46, 48] = M) := ⟨_, Lib.hid rfl⟩
  rw [HL.out] at HPRE ⊢
  simp only [HL.out, HM.out] at s1 s2
  have HV : Hid (∀ W, Calls Tryz.prog 91 #[.string ⟨L.toArray⟩] W (ReadIs W L)) := Lib.hid (fun W => specReadVersion_any ⟨L.toArray⟩ W (by rw [← HL.out, size_of]; simp; omega))
  have B0 : Below w.heap.size w (w.alloc (.cells #[.string ⟨#[]⟩, .string ⟨#[]⟩] 166)) := (Below.refl _ _).alloc (Nat.le_refl _) _
  have r0 := heap_alloc_new w (.cells #[.string ⟨#[]⟩, .string ⟨#[]⟩] 166)
  have HIN := Lib.hid (fun (W : World) => l01In_any 2 1 2 W)
  have hin : inI 2 1 2 = true := by decide
  simp only [hin] at HIN
  have hl2 := hl
  clear hl hc hcut
  cases hok : readOk L with
  | false =>
    have HO := Lib.hid hok
    rw [fromOk_bad hok]
    clear hok
    go_enter Tryz.func185, Tryz.ntmps185
    go_wp2_with fail
    refine (HCUT.out _).mono ?_
    rintro e w1 ⟨g, cap, rfl, hS, hb1⟩
    have B1 := B0.trans (hb1.mono B0.size)
    have r1 := keepB r0 hb1
    clear hb1 hS r0 B0
    go_wp2_with fail
    refine (HV.out _).mono ?_
    rintro e w2 ⟨u, rfl, hu, hb2⟩
    obtain ⟨U, uc, rfl⟩ := hu.slice
    rw [HO.out]
    have B2 := B1.trans (hb2.mono B1.size)
    have r2 := keepB r1 hb2
    obtain ⟨c0, c1, f1⟩ := cellsD r2
    have hlt := lt_of_heap r2
    have B3 := (below_res2 B2 (Nat.le_refl _) (.string ⟨#[]⟩) (.string ⟨#[]⟩)).alloc (by simpa using B2.size) (.cells #[.int .i64 (readA L 0), .int .i64 (readA L 1), .int .i64 (readA L 2), .slice U (readP L).length uc] 117)
    obtain ⟨y0, y1⟩ := two_cells (keepA (set2_heap r2 (.string ⟨#[]⟩) (.string ⟨#[]⟩)) (.cells #[.int .i64 (readA L 0), .int .i64 (readA L 1), .int .i64 (readA L 2), .slice U (readP L).length uc] 117))
    go_wp2_with fail
    refine bodyPost_ret (v := .tuple #[.agg #[.string ⟨#[]⟩, .string ⟨#[]⟩], .bool false]) ?_ rfl ⟨_, _, rfl, fun h => (by cases h), ?_⟩
    · simp [results, Tryz.results185, go_sem, y0, y1]
    · exact B3
  | true =>
    have HO := Lib.hid hok
    have HRN := read_num hok
    rw [fromOk_of hok]
    clear hok
    have HB := Lib.hid (fun (A : Option Addr) (n cap : Nat) W => l03Below_part (readA L 0) (readA L 1) (readA L 2) 1 A n cap W HRN (by decide))
    unfold fromB
    obtain ⟨hi, HH⟩ : ∃ hi, Hid (rsd (readA L 0) (readA L 1) (readA L 2) 1 = hi) := ⟨_, Lib.hid rfl⟩
    simp only [HH.out] at HB ⊢
    clear HRN
    cases he : hi.isEmpty with
    | true =>
      rw [he] at HB
      clear he
      go_enter Tryz.func185, Tryz.ntmps185
      go_wp2_with fail
      refine (HCUT.out _).mono ?_
      rintro e w1 ⟨g, cap, rfl, hS, hb1⟩
      have B1 := B0.trans (hb1.mono B0.size)
      have r1 := keepB r0 hb1
      clear hb1 hS r0 B0
      go_wp2_with fail
      refine (HV.out _).mono ?_
      rintro e w2 ⟨u, rfl, hu, hb2⟩
      obtain ⟨U, uc, rfl⟩ := hu.slice
      rw [HO.out, HPRE.out]
      have B2 := B1.trans (hb2.mono B1.size)
      have r2 := keepB r1 hb2
      have B3 := B2.alloc B2.size (.cells #[.int .i64 (readA L 0), .int .i64 (readA L 1), .int .i64 (readA L 2), .slice U 0 uc] 117)
      have r3 := keepA r2 (.cells #[.int .i64 (readA L 0), .int .i64 (readA L 1), .int .i64 (readA L 2), .slice U 0 uc] 117)
      have v3 := heap_alloc_new w2 (.cells #[.int .i64 (readA L 0), .int .i64 (readA L 1), .int .i64 (readA L 2), .slice U 0 uc] 117)
      clear hb2 B1 r1 hu
      go_wp2_with fail
      refine (HIN.out _).mono ?_
      rintro e w4 ⟨rfl, rfl⟩
      go_wp2_with fail
      refine (HB.out _ _ _ _).mono ?_
      rintro e w5 ⟨rfl, hb5⟩
      have B5 := B3.trans (hb5.mono B3.size)
      obtain ⟨c0, c1, f1⟩ := cellsD (keepB r3 hb5)
      go_wp2_with fail
      refine bodyPost_ret (v := .tuple #[.agg #[.string ⟨#[]⟩, .string ⟨#[]⟩], .bool false]) ?_ rfl ⟨_, _, rfl, fun h => (by cases h), ?_⟩
      · simp [results, Tryz.results185, go_sem, c0, c1]
      · exact (B5.setCell (p := ⟨w.heap.size, 0, none⟩) (Nat.le_refl _) _).setCell (p := ⟨w.heap.size, 1, none⟩) (Nat.le_refl _) _
    | false =>
      rw [he] at HB
      clear he
      go_enter Tryz.func185, Tryz.ntmps185
      go_wp2_with fail
      refine (HCUT.out _).mono ?_
      rintro e w1 ⟨g, cap, rfl, hS, hb1⟩
      have B1 := B0.trans (hb1.mono B0.size)
      have r1 := keepB r0 hb1
      clear hb1 hS r0 B0
      go_wp2_with fail
      refine (HV.out _).mono ?_
      rintro e w2 ⟨u, rfl, hu, hb2⟩
      obtain ⟨U, uc, rfl⟩ := hu.slice
      rw [HO.out, HPRE.out]
      have B2 := B1.trans (hb2.mono B1.size)
      have r2 := keepB r1 hb2
      have B3 := B2.alloc B2.size (.cells #[.int .i64 (readA L 0), .int .i64 (readA L 1), .int .i64 (readA L 2), .slice U 0 uc] 117)
      have r3 := keepA r2 (.cells #[.int .i64 (readA L 0), .int .i64 (readA L 1), .int .i64 (readA L 2), .slice U 0 uc] 117)
      have v3 := heap_alloc_new w2 (.cells #[.int .i64 (readA L 0), .int .i64 (readA L 1), .int .i64 (readA L 2), .slice U 0 uc] 117)
      clear hb2 B1 r1 hu
      go_wp2_with fail
      refine (HIN.out _).mono ?_
      rintro e w4 ⟨rfl, rfl⟩
      go_wp2_with fail
      refine (HB.out _ _ _ _).mono ?_
      rintro e w5 ⟨rfl, hb5⟩
      have B5 := B3.trans (hb5.mono B3.size)
      obtain ⟨c0, c1, f1⟩ := cellsD (keepB r3 hb5)
      go_wp2_with fail
      refine bodyPost_ret (v := .tuple #[.agg #[.string ⟨L.toArray⟩, .string ⟨hi.toArray⟩], .bool true]) ?_ rfl ⟨_, _, rfl, fun _ => ⟨rfl, rfl⟩, ?_⟩
      · simp [results, Tryz.results185, go_sem, c0, c1]
      · exact (B5.setCell (p := ⟨w.heap.size, 0, none⟩) (Nat.le_refl _) _).setCell (p := ⟨w.heap.size, 1, none⟩) (Nat.le_refl _) _

set_option maxRecDepth 100000 in
set_option maxHeartbeats 4000000 in
theorem l03Short_many (l : List UInt8) (w : World) (hl : l.length ≤ 1048000) (hc : 2 ≤ l.count 46) :
    Calls Tryz.prog 185 #[.string ⟨l.toArray⟩] w (AltIs w false ([], [])) := by
  have hcut := cutL_count 46 l
  have HCUT := Lib.hid (fun W => l01Cut_any ⟨l.toArray⟩ 46 W (by rw [size_of]; omega))
  have hcl : l.count 46 ≤ l.length := List.count_le_length
  obtain ⟨c, HC⟩ : ∃ c, c = l.count 46 + 1 := ⟨_, rfl⟩
  rw [← HC] at hcut
  simp only [hcut] at HCUT
  have s1 : ∀ W, (Op.stringOp .add ⟨l.toArray⟩ ⟨#[46, 48]⟩).run Tryz.prog W = .ok (.string ⟨(l ++ [46, 48]).toArray⟩) W := fun W => add_lists W l [46, 48] (by omega) (by simp)
  obtain ⟨L, HL⟩ : ∃ L, Hid (l ++ [46, 48] = L) := ⟨_, Lib.hid rfl⟩
  simp only [HL.out] at s1
  have HV : Hid (∀ W, Calls Tryz.prog 91 #[.string ⟨L.toArray⟩] W (ReadIs W L)) := Lib.hid (fun W => specReadVersion_any ⟨L.toArray⟩ W (by rw [← HL.out, size_of]; simp; omega))
  have B0 : Below w.heap.size w (w.alloc (.cells #[.string ⟨#[]⟩, .string ⟨#[]⟩] 166)) := (Below.refl _ _).alloc (Nat.le_refl _) _
  have r0 := heap_alloc_new w (.cells #[.string ⟨#[]⟩, .string ⟨#[]⟩] 166)
  have HIN := Lib.hid (fun (W : World) => l01In_any (c : Int) 1 2 W)
  have hin : inI (c : Int) 1 2 = false := by unfold inI; simp; omega
  simp only [hin] at HIN
  have n1 : ((c : Int) == 1) = false := int_beq_false (by omega)
  have hc3 : c ≤ 1048577 := by omega
  clear hl hc hcut hin hcl HC
  cases hok : readOk L
  all_goals
    have HO := Lib.hid hok
    clear hok
    go_enter Tryz.func185, Tryz.ntmps185
    go_wp2_with fail
    refine (HCUT.out _).mono ?_
    rintro e w1 ⟨g, cap, rfl, hS, hb1⟩
    have B1 := B0.trans (hb1.mono B0.size)
    have r1 := keepB r0 hb1
    clear hb1 hS r0 B0
    go_wp2_with fail
    refine (HV.out _).mono ?_
    rintro e w2 ⟨u, rfl, hu, hb2⟩
    obtain ⟨U, uc, rfl⟩ := hu.slice
    rw [HO.out]
    have B2 := B1.trans (hb2.mono B1.size)
    have r2 := keepB r1 hb2
    obtain ⟨c0, c1, f1⟩ := cellsD r2
    have hlt := lt_of_heap r2
    have B3 := (below_res2 B2 (Nat.le_refl _) (.string ⟨#[]⟩) (.string ⟨#[]⟩)).alloc (by simpa using B2.size) (.cells #[.int .i64 (readA L 0), .int .i64 (readA L 1), .int .i64 (readA L 2), .slice U (readP L).length uc] 117)
    obtain ⟨y0, y1⟩ := two_cells (keepA (set2_heap r2 (.string ⟨#[]⟩) (.string ⟨#[]⟩)) (.cells #[.int .i64 (readA L 0), .int .i64 (readA L 1), .int .i64 (readA L 2), .slice U (readP L).length uc] 117))
    go_wp2_with (first | (go_at_call 93; refine (HIN.out _).mono ?_; rintro e w4 ⟨rfl, rfl⟩))
    refine bodyPost_ret (v := .tuple #[.agg #[.string ⟨#[]⟩, .string ⟨#[]⟩], .bool false]) ?_ rfl ⟨_, _, rfl, fun h => (by cases h), ?_⟩
    · simp [results, Tryz.results185, go_sem, y0, y1]
    · exact B3
end Go.Proofs.YtnodhkjgnegkcaaGreatDoor

/-
  spec.Words returns the parts between spaces.
-/
namespace Go.Proofs.YtnodhkjgnegkcaaGreatDoor
open Go.RowKit

/-- How many parts there can be. -/
theorem cutL_le (m : UInt8) (l : List UInt8) : (cutL m l).length ≤ l.length + 1 := by
  induction l with
  | nil => simp [cutL]
  | cons c l ih =>
    unfold cutL
    split
    · simp; omega
    · cases h : cutL m l with
      | nil => simp [attach]
      | cons q qs => rw [h] at ih; simp [attach] at ih ⊢; omega

theorem specWords_any (s : ByteArray) (w : World) (hs : s.size ≤ 1048576) :
    Calls Tryz.prog 144 #[.string s] w fun e W' => ∃ g cap, e = .returned (.slice (some ⟨g, 0, none⟩) (cutL 32 s.data.toList).length cap) ∧ Strs W' w.heap.size (.slice (some ⟨g, 0, none⟩) (cutL 32 s.data.toList).length cap) (cutL 32 s.data.toList) ∧ Below w.heap.size w W' := by
  go_enter Tryz.func144, Tryz.ntmps144
  go_wp2_with fail
  refine (l01Cut_any s 32 w hs).mono ?_
  rintro e w1 ⟨g, cap, rfl, hS, hb⟩
  go_wp2_with fail
  go_ret
  exact ⟨g, cap, rfl, hS, hb⟩
end Go.Proofs.YtnodhkjgnegkcaaGreatDoor

/-
  A row of bounds of the call's own.
-/
namespace Go.Proofs.YtnodhkjgnegkcaaGreatDoor
open Go.RowKit

/-- v is the call's own row of these bounds. -/
def Bnds (w : World) (base : Nat) (v : Value) (bs : List Bd) : Prop := w.ownsRow base 166 2 v bs.length (flat2 bs)

theorem bndinfo : (Tryz.prog.info? 166).map (fun i => (i.zero, i.size, i.bytes)) = some (some (.agg #[.string ⟨#[]⟩, .string ⟨#[]⟩]), 2, 32) := by kernel_rfl

theorem Bnds.form {w : World} {base : Nat} {v : Value} {l : List Bd} (h : Bnds w base v l) : (v = .slice none 0 0 ∧ l = []) ∨ ∃ g cap, v = .slice (some ⟨g, 0, none⟩) l.length cap ∧ base ≤ g ∧ g < w.heap.size := by
  rcases h.2 with ⟨hv, hl⟩ | ⟨g, cap, cur, hv, hb, hh, _⟩
  · left
    refine ⟨hv, ?_⟩
    cases l with
    | nil => rfl
    | cons a t => simp at hl
  · right
    refine ⟨g, cap, hv, hb, ?_⟩
    rcases Nat.lt_or_ge g w.heap.size with hlt | hge
    · exact hlt
    · rw [Array.getElem?_eq_none hge] at hh; cases hh
theorem Bnds.alloc {w : World} {base : Nat} {v : Value} {l : List Bd} (h : Bnds w base v l) (o : Obj) : Bnds (w.alloc o) base v l := World.ownsRow.alloc h o
theorem Bnds.owned {w : World} {base : Nat} {v : Value} {l : List Bd} (h : Bnds w base v l) : ∀ g, v.ownBlock = some g → base ≤ g := by
  intro g hg
  rcases h.form with ⟨rfl, _⟩ | ⟨g', cap, rfl, hb, _⟩
  · simp [Value.ownBlock] at hg
  · simp [Value.ownBlock] at hg; omega
theorem Bnds.below {w w' : World} {base : Nat} {v : Value} {l : List Bd} (h : Bnds w base v l) (hb : Below w.heap.size w w') : Bnds w' base v l :=
  World.ownsRow.kept h (row := none) ⟨hb.os, hb.tape, hb.output, hb.size, fun i hi _ => hb.block i hi⟩ (by
    rcases h.form with ⟨rfl, _⟩ | ⟨g, cap, rfl, _, _⟩
    · left; rfl
    · right; simp [Value.ownBlock])
theorem Bnds.cell {w : World} {base : Nat} {l : List Bd} {g n cap : Nat} (h : Bnds w base (.slice (some ⟨g, 0, none⟩) n cap) l) (k : Nat) (hk : k < l.length) : w.cell? ⟨g, k * 2, none⟩ = some (sv l[k].1) ∧ w.cell? ⟨g, k * 2 + 1, none⟩ = some (sv l[k].2) := by
  have hadd : ∀ j, (⟨g, 0, none⟩ : Addr).add j = ⟨g, j, none⟩ := fun j => by unfold Addr.add; split <;> simp_all
  obtain ⟨e0, e1⟩ := flat2_get l k hk
  have h0 := World.ownsRow.cells (g := g) h rfl (k * 2) _ e0
  have h1 := World.ownsRow.cells (g := g) h rfl (k * 2 + 1) _ e1
  rw [hadd] at h0 h1
  exact ⟨h0, h1⟩
theorem RdB.of_bnds {w : World} {base : Nat} {v : Value} {bs : List Bd} (h : Bnds w base v bs) : RdB w v bs := by
  rcases h.form with ⟨rfl, rfl⟩ | ⟨g, cap, rfl, _, hg⟩
  · exact ⟨none, 0, rfl, fun h => absurd h (by simp)⟩
  · exact ⟨_, cap, rfl, fun _ => ⟨g, 0, rfl, hg, fun k hk => by rw [Nat.zero_add]; exact h.cell k hk⟩⟩
theorem Bnds.set {w : World} {base g cap : Nat} {l : List Bd} (h : Bnds w base (.slice (some ⟨g, 0, none⟩) l.length cap) l) (k : Nat) (x : Bd) :
    Bnds ((w.setCell ⟨g, k * 2, none⟩ (sv x.1)).setCell ⟨g, k * 2 + 1, none⟩ (sv x.2)) base (.slice (some ⟨g, 0, none⟩) (l.set k x).length cap) (l.set k x) := by
  unfold Bnds at h ⊢
  rw [List.length_set, ← flat2_set]
  exact (World.ownsRow.stored (World.ownsRow.stored h (k * 2) (sv x.1)).1 (k * 2 + 1) (sv x.2)).1
end Go.Proofs.YtnodhkjgnegkcaaGreatDoor

/-
  Whether bounds are a range: spec.RangeOk.
-/
namespace Go.Proofs.YtnodhkjgnegkcaaGreatDoor
open Go.RowKit

/-- A bound's text is a version's, or empty. -/
def limOk (l : List UInt8) : Bool := readOk l || l == []
def bndOk (b : Bd) : Bool := limOk b.1 && limOk b.2
/-- Whether bounds are a range. -/
def rngOk (bs : List Bd) : Bool := bs.all bndOk && inI bs.length 1 8
theorem smB_get {bs : List Bd} (h : SmB bs) (k : Nat) (hk : k < bs.length) : (⟨bs[k].1.toArray⟩ : ByteArray).size ≤ 1048576 ∧ (⟨bs[k].2.toArray⟩ : ByteArray).size ≤ 1048576 := by
  have := smB_mem bs[k] (List.getElem_mem hk)
  rw [size_of, size_of]
  unfold SmB at h
  omega

set_option maxRecDepth 100000 in
set_option maxHeartbeats 1000000 in
theorem l03Is_any (s : ByteArray) (w : World) (hs : s.size ≤ 1048576) :
    Calls Tryz.prog 187 #[.string s] w fun e w' => e = .returned (.bool (limOk s.data.toList)) ∧ Below w.heap.size w w' := by
  have HC := Lib.hid (specReadVersion_any s w hs)
  obtain ⟨ok, HO⟩ : ∃ ok, Hid (readOk s.data.toList = ok) := ⟨_, Lib.hid rfl⟩
  obtain ⟨r, HR⟩ : ∃ r, Hid (limOk s.data.toList = r) := ⟨_, Lib.hid rfl⟩
  obtain ⟨q, hq, HE⟩ : ∃ q, (s.toList == []) = q ∧ Hid (limOk s.data.toList = (ok || q)) := ⟨_, rfl, Lib.hid (by unfold limOk; rw [HO.out, ByteArray.toList_eq])⟩
  rw [HR.out]
  have HF : Hid (r = (ok || q)) := Lib.hid (HR.out.symm.trans HE.out)
  cases ok <;> cases q
  all_goals
    go_enter Tryz.func187, Tryz.ntmps187
    go_wp2_with fail
    refine HC.out.mono ?_
    rintro e w1 ⟨u, rfl, hu, hb1⟩
    obtain ⟨uA, uc, rfl⟩ := hu.slice
    rw [HO.out]
    go_wp2_with fail
    go_ret
    exact ⟨ret_bool HF.out.symm, by first | exact hb1 | exact hb1.alloc hb1.size _ | exact (hb1.alloc hb1.size _).setCell (p := ⟨w1.heap.size, 0, none⟩) hb1.size _⟩

set_option maxRecDepth 100000 in
set_option maxHeartbeats 2000000 in
theorem specRangeOk_any (v : Value) (bs : List Bd) (w : World) (hr : RdB w v bs) (hs : SmB bs) :
    Calls Tryz.prog 138 #[v] w fun e w' => e = .returned (.bool (rngOk bs)) ∧ Below w.heap.size w w' := by
  have HR := Lib.hid hr
  have HS := Lib.hid hs
  obtain ⟨A, ca, rfl, ha⟩ := hr
  have hn : bs.length ≤ 1048576 := by unfold SmB at hs; omega
  clear ha hs
  go_enter Tryz.func138, Tryz.ntmps138
  go_wp2_with fail
  go_loopw [3] (fun i wr => ∃ k : Nat, k ≤ bs.length ∧ i = .int .i64 k ∧ Hid ((bs.take k).all bndOk = true) ∧ Below w.heap.size w wr) (fun i _ => bs.length - (intOf i).toNat)
  case atStart => exact ⟨0, Nat.zero_le _, rfl, Lib.hid (by simp), Below.refl _ _⟩
  case round =>
    obtain ⟨k, hk, rfl, H, hb⟩ := hrel
    by_cases hlt : k < bs.length
    · have k0 : (0 : Int) ≤ (k : Int) := by omega
      have k1 : (k : Int) < (bs.length : Int) := by omega
      have HG := Lib.hid (smB_get HS.out k hlt)
      have HD := Lib.hid (fun (W : World) (h : Below w.heap.size w W) => (HR.out.below h))
      obtain ⟨A', ca', hv, ha⟩ := HR.out.below hb
      simp only [Value.slice.injEq] at hv
      obtain ⟨rfl, _, rfl⟩ := hv
      obtain ⟨g, off, rfl, hg, hca⟩ := ha (by omega)
      have d1 : wr.cell? ⟨g, off + k * 2, none⟩ = some (.string ⟨bs[k].1.toArray⟩) := (hca k hlt).1
      have HD2 : Hid (wr.cell? ⟨g, off + k * 2 + 1, none⟩ = some (.string ⟨bs[k].2.toArray⟩)) := Lib.hid (hca k hlt).2
      obtain ⟨x, HX⟩ : ∃ x, Hid (limOk (⟨bs[k].1.toArray⟩ : ByteArray).data.toList = x) := ⟨_, Lib.hid rfl⟩
      obtain ⟨y, HY⟩ : ∃ y, Hid (limOk (⟨bs[k].2.toArray⟩ : ByteArray).data.toList = y) := ⟨_, Lib.hid rfl⟩
      have HB : Hid (bndOk bs[k] = (x && y)) := Lib.hid (by unfold bndOk; rw [← HX.out, ← HY.out])
      clear ha hca
      cases x
      · have HF : Hid (rngOk bs = false) := Lib.hid (by unfold rngOk; rw [Bool.eq_false_iff.2 (all_not bs bndOk k hlt (by rw [HB.out]; rfl))]; rfl)
        go_wp2_with fail
        refine (l03Is_any _ _ HG.out.1).mono ?_
        rw [HX.out]
        rintro e w1 ⟨rfl, hb1⟩
        have B1 := hb.trans (hb1.mono hb.size)
        go_wp2_with fail
        go_ret
        exact ⟨ret_bool HF.out.symm, B1⟩
      · go_wp2_with fail
        refine (l03Is_any _ _ HG.out.1).mono ?_
        rw [HX.out]
        rintro e w1 ⟨rfl, hb1⟩
        have B1 := hb.trans (hb1.mono hb.size)
        have d2 := (hb1.cell (p := ⟨g, off + k * 2 + 1, none⟩) hg).trans HD2.out
        go_wp2_with fail
        refine (l03Is_any _ _ HG.out.2).mono ?_
        rw [HY.out]
        rintro e w2 ⟨rfl, hb2⟩
        have B2 := B1.trans (hb2.mono B1.size)
        cases y
        · have HF : Hid (rngOk bs = false) := Lib.hid (by unfold rngOk; rw [Bool.eq_false_iff.2 (all_not bs bndOk k hlt (by rw [HB.out]; rfl))]; rfl)
          go_wp2_with fail
          go_ret
          exact ⟨ret_bool HF.out.symm, B2⟩
        · have HN := Lib.hid (all_take bs bndOk k hlt H.out (by rw [HB.out]; rfl))
          go_wp2_with fail
          go_roundw
          case rel => exact ⟨k + 1, by omega, by go_num, HN, B2⟩
          case measure => simp [intOf]; omega
    · have HF : Hid (rngOk bs = inI bs.length 1 8) := Lib.hid (by
        have h := H.out
        rw [List.take_of_length_le (by omega)] at h
        unfold rngOk; rw [h]; rfl)
      go_wp2_with fail
      refine (l01In_any _ _ _ _).mono ?_
      rintro e w1 ⟨rfl, rfl⟩
      go_wp2_with fail
      go_ret
      exact ⟨ret_bool HF.out.symm, hb⟩
end Go.Proofs.YtnodhkjgnegkcaaGreatDoor

namespace Go.Proofs.YtnodhkjgnegkcaaGreatDoor
open Go.RowKit

def geA (x : List UInt8) : Bool := decide (2 < x.length) && geP x
def ltA (x : List UInt8) : Bool := decide (1 < x.length) && ltP x
theorem geA_form {x : List UInt8} (h : geA x = true) : ∃ y, y ≠ [] ∧ x = 62 :: 61 :: y := by
  unfold geA geP at h
  simp at h
  obtain ⟨h1, t, rfl⟩ := h
  exact ⟨t, fun e => by subst e; simp at h1, rfl⟩
theorem ltA_form {x : List UInt8} (h : ltA x = true) : ∃ y, y ≠ [] ∧ x = 60 :: y := by
  unfold ltA ltP at h
  simp at h
  obtain ⟨h1, t, rfl⟩ := h
  exact ⟨t, fun e => by subst e; simp at h1, rfl⟩
theorem cutL_none {m : UInt8} : ∀ {l : List UInt8}, m ∉ l → cutL m l = [l]
  | [], _ => rfl
  | c :: l, h => by
    have hc : ¬ c = m := fun e => h (by simp [e])
    rw [cutL_cons, if_neg hc, cutL_none (fun hm => h (by simp [hm]))]; rfl
theorem cutL_hit {m : UInt8} {l : List UInt8} (h : 0 ≤ Lib.indexByte l m) : cutL m l = cutA m l :: cutL m (cutB m l) ∧ m ∉ cutA m l := by
  induction l with
  | nil => simp [Lib.indexByte] at h
  | cons c l ih =>
    by_cases hc : c = m
    · subst hc
      rw [cutL_cons, if_pos rfl, cutA_hit, cutB_hit]
      exact ⟨rfl, by simp⟩
    · rw [cutL_cons, if_neg hc, cutA_miss l hc, cutB_miss l hc]
      rw [idx_miss l hc] at h
      by_cases h1 : Lib.indexByte l m = -1
      · rw [if_pos h1] at h; omega
      · have hg := idx_ge l m
        obtain ⟨i1, i2⟩ := ih (by omega)
        rw [i1]
        refine ⟨rfl, ?_⟩
        simp
        exact ⟨fun e => hc e.symm, i2⟩
theorem idx_none {m : UInt8} : ∀ {l : List UInt8}, ¬ 0 ≤ Lib.indexByte l m → m ∉ l
  | [], _ => by simp
  | c :: l, h => by
    by_cases hc : c = m
    · rw [idx_hit l hc] at h; omega
    · rw [idx_miss l hc] at h
      have hg := idx_ge l m
      have : ¬ 0 ≤ Lib.indexByte l m := by
        by_cases h1 : Lib.indexByte l m = -1
        · omega
        · rw [if_neg h1] at h; omega
      have := idx_none this
      simp
      exact ⟨fun e => hc e.symm, this⟩
theorem idx_memR {m : UInt8} : ∀ {l : List UInt8}, m ∈ l → 0 ≤ Lib.indexByte l m := by
  intro l h
  by_cases h0 : 0 ≤ Lib.indexByte l m
  · exact h0
  · exact absurd h (idx_none h0)
-- the forms
theorem geA_P {x : List UInt8} (h : readOk (x.drop 2) = true) : geP x = geA x := by
  unfold geA
  have : 2 < x.length := by
    rcases Nat.lt_or_ge 2 x.length with h' | h'
    · exact h'
    · rw [List.drop_eq_nil_of_le h', readOk_nil] at h; cases h
  rw [decide_eq_true this, Bool.true_and]
theorem ltA_P {x : List UInt8} (h : readOk (x.drop 1) = true) : ltP x = ltA x := by
  unfold ltA
  have : 1 < x.length := by
    rcases Nat.lt_or_ge 1 x.length with h' | h'
    · exact h'
    · rw [List.drop_eq_nil_of_le h', readOk_nil] at h; cases h
  rw [decide_eq_true this, Bool.true_and]
theorem ge_and (x : List UInt8) : (geP x && readOk (x.drop 2)) = (geA x && readOk (x.drop 2)) := by
  cases h : readOk (x.drop 2) with
  | true => rw [geA_P h]
  | false => simp
theorem lt_and (x : List UInt8) : (ltP x && readOk (x.drop 1)) = (ltA x && readOk (x.drop 1)) := by
  cases h : readOk (x.drop 1) with
  | true => rw [ltA_P h]
  | false => simp
theorem ge_lt {x : List UInt8} (h : geA x = true) : ltA x = false := by
  obtain ⟨y, _, rfl⟩ := geA_form h
  simp [ltA, ltP, List.isPrefixOf]
theorem lm_one {l : List UInt8} (h : cutL 32 l = [l]) : lmOk l = (if geA l = true then readOk (l.drop 2) else ltA l && readOk (l.drop 1)) ∧ (lmOk l = true → lmB l = if geA l = true then (l.drop 2, []) else ([], l.drop 1)) := by
  have hi : ¬ 0 ≤ Lib.indexByte l 32 := fun h0 => by
    have := (cutL_hit h0).1; rw [h] at this
    have hne := cutL_ne 32 (cutB 32 l)
    simp at this
    exact hne this.2
  unfold lmOk lmB
  rw [if_neg hi, if_neg hi, ge_and, lt_and]
  cases hg : geA l with
  | true => rw [ge_lt hg]; cases hr : readOk (l.drop 2) <;> simp
  | false => simp
theorem cutL_one {l y : List UInt8} (h : cutL 32 l = [y]) : y = l := by
  have := join_cut 32 l; rw [h] at this; simpa [joinL] using this
theorem lm_two {l x y : List UInt8} (h : cutL 32 l = [x, y]) : lmOk l = (geA x && readOk (x.drop 2) && (ltA y && readOk (y.drop 1))) ∧ lmB l = (x.drop 2, y.drop 1) := by
  have hi : 0 ≤ Lib.indexByte l 32 := by
    by_cases h0 : 0 ≤ Lib.indexByte l 32
    · exact h0
    · have := cutL_none (idx_none h0); rw [h] at this; simp at this
  have e := (cutL_hit hi).1
  rw [h] at e
  simp only [List.cons.injEq] at e
  have e1 := e.1
  have e2 := cutL_one e.2.symm
  unfold lmOk lmB
  rw [if_pos hi, if_pos hi, ge_and, lt_and, ← e1, ← e2]
  exact ⟨rfl, rfl⟩
theorem lm_many {l x y z : List UInt8} {t : List (List UInt8)} (h : cutL 32 l = x :: y :: z :: t) : lmOk l = false := by
  have hi : 0 ≤ Lib.indexByte l 32 := by
    by_cases h0 : 0 ≤ Lib.indexByte l 32
    · exact h0
    · have := cutL_none (idx_none h0); rw [h] at this; simp at this
  have e := (cutL_hit hi).1
  rw [h] at e
  simp only [List.cons.injEq] at e
  have hm : (32 : UInt8) ∈ cutB 32 l := by
    by_cases h0 : (32 : UInt8) ∈ cutB 32 l
    · exact h0
    · have := cutL_none h0; rw [this] at e; simp at e
  unfold lmOk
  rw [if_pos hi]
  have : (ltP (cutB 32 l) && readOk ((cutB 32 l).drop 1)) = false := by
    rw [lt_and]
    cases hl : ltA (cutB 32 l) with
    | false => rfl
    | true =>
      obtain ⟨u, _, hu⟩ := ltA_form hl
      rw [hu] at hm ⊢
      have h2 : (32 : UInt8) ∈ u := by simpa using hm
      cases hr : readOk u with
      | false => simp [hr]
      | true => exact absurd h2 (readOk_none hr (by decide))
  rw [this, Bool.and_false]
theorem rng_one (a b : List UInt8) : rngOk [(a, b)] = (limOk a && limOk b) := by
  unfold rngOk bndOk inI; simp
theorem lim_nil : limOk [] = true := by unfold limOk; simp
theorem lim_ne {a : List UInt8} (h : a ≠ []) : limOk a = readOk a := by
  unfold limOk
  have : (a == []) = false := by simpa using h
  rw [this, Bool.or_false]
theorem rdB_lit (W : World) (n : Nat) (hn : W.heap.size = n) (a b : List UInt8) (T : TypeId) : RdB (W.alloc (.cells #[.string ⟨a.toArray⟩, .string ⟨b.toArray⟩] T)) (.slice (some ⟨n, 0, none⟩) 1 1) [(a, b)] := by
  subst hn
  refine ⟨_, 1, rfl, fun _ => ⟨W.heap.size, 0, rfl, by simp, fun k hk => ?_⟩⟩
  have hk0 : k = 0 := by simp at hk; omega
  subst hk0
  exact two_cells (heap_alloc_new W (.cells #[.string ⟨a.toArray⟩, .string ⟨b.toArray⟩] T))
theorem smB_one' {a b : List UInt8} (h : a.length + b.length ≤ 1048000) : SmB [(a, b)] := by unfold SmB; simp [smB]; omega
/-- Facts of a part: how its first bytes test. -/
theorem ge_yes {s : ByteArray} {x : List UInt8} (hs : s = ⟨x.toArray⟩) (h : geA x = true) : 2 < s.size ∧ (∀ w, (Instr.slice 9 (.string s) none (some (.int .i64 2)) none).run Tryz.prog w = .ok (.string ⟨#[62, 61]⟩) w) ∧ (∀ w, (Instr.slice 9 (.string s) (some (.int .i64 2)) none none).run Tryz.prog w = .ok (.string ⟨(x.drop 2).toArray⟩) w) ∧ x.drop 2 ≠ [] := by
  obtain ⟨y, hy, rfl⟩ := geA_form h
  subst hs
  have hl : 0 < y.length := List.length_pos_iff.2 hy
  refine ⟨by rw [size_of]; simp; omega, fun w => slice_to _ _ 2 2 rfl (by rw [size_of]; simp) (bytes_ext (by simp)) w, fun w => slice_from _ _ 2 2 rfl (by rw [size_of]; simp) (piece_end _ 2) w, by simpa using hy⟩
theorem ge_no {s : ByteArray} {x : List UInt8} (hs : s = ⟨x.toArray⟩) (h : geA x = false) : ¬ 2 < s.size ∨ 2 < s.size ∧ ∃ z : ByteArray, (∀ w, (Instr.slice 9 (.string s) none (some (.int .i64 2)) none).run Tryz.prog w = .ok (.string z) w) ∧ (z.toList == [62, 61]) = false := by
  subst hs
  rcases Nat.lt_or_ge 2 (⟨x.toArray⟩ : ByteArray).size with h2 | h2
  · right
    refine ⟨h2, (⟨x.toArray⟩ : ByteArray).extract 0 2, fun w => slice_to _ _ 2 2 rfl (by omega) rfl w, ?_⟩
    rw [size_of] at h2
    unfold geA geP at h
    rw [decide_eq_true h2, Bool.true_and] at h
    rw [ByteArray.toList_eq]
    match x, h2, h with
    | a :: b :: c :: t, _, h =>
      simp [List.isPrefixOf] at h ⊢
      exact fun e1 e2 => h e1.symm e2.symm
  · left; omega
theorem lt_yes {s : ByteArray} {x : List UInt8} (hs : s = ⟨x.toArray⟩) (h : ltA x = true) : ∃ h1 : 1 < s.size, (((s[0]'(by omega)).toNat : Int) == 60) = true ∧ (∀ w, (Instr.slice 9 (.string s) (some (.int .i64 1)) none none).run Tryz.prog w = .ok (.string ⟨(x.drop 1).toArray⟩) w) ∧ x.drop 1 ≠ [] := by
  obtain ⟨y, hy, rfl⟩ := ltA_form h
  subst hs
  have hl : 0 < y.length := List.length_pos_iff.2 hy
  refine ⟨by rw [size_of]; simp; omega, rfl, fun w => slice_from _ _ 1 1 rfl (by rw [size_of]; simp) (piece_end _ 1) w, by simpa using hy⟩
theorem lt_no {s : ByteArray} {x : List UInt8} (hs : s = ⟨x.toArray⟩) (h : ltA x = false) : ¬ 1 < s.size ∨ ∃ h1 : 1 < s.size, (((s[0]'(by omega)).toNat : Int) == 60) = false := by
  subst hs
  rcases Nat.lt_or_ge 1 (⟨x.toArray⟩ : ByteArray).size with h2 | h2
  · right
    refine ⟨h2, ?_⟩
    rw [size_of] at h2
    unfold ltA ltP at h
    rw [decide_eq_true h2, Bool.true_and] at h
    match x, h2, h with
    | a :: b :: t, _, h =>
      have ha : a ≠ 60 := fun e => by subst e; simp at h
      refine int_beq_false (fun e => ha (UInt8.toNat_inj.1 ?_))
      have : ((a.toNat : Int)) = 60 := e
      simpa using (by omega : a.toNat = 60)
  · left; omega

set_option maxRecDepth 100000 in
set_option maxHeartbeats 4000000 in
theorem sg_A (l : List UInt8) (w : World) (hl : l.length ≤ 1048000) (h1 : cutL 32 l = [l]) (hg : geA l = true) :
    Calls Tryz.prog 183 #[.string ⟨l.toArray⟩] w (AltIs w (lmOk l) (lmB l)) := by
  have HW := Lib.hid (fun W => specWords_any ⟨l.toArray⟩ W (by rw [size_of]; omega))
  have B0 : Below w.heap.size w (w.alloc (.cells #[.string ⟨#[]⟩, .string ⟨#[]⟩] 166)) := (Below.refl _ _).alloc (Nat.le_refl _) _
  have r0 := heap_alloc_new w (.cells #[.string ⟨#[]⟩, .string ⟨#[]⟩] 166)
  obtain ⟨s0, hs0⟩ : ∃ s0 : ByteArray, s0 = ⟨(l).toArray⟩ := ⟨_, rfl⟩
  have HS0 := Lib.hid hs0
  obtain ⟨q1, q2⟩ := lm_one h1
  rw [if_pos hg] at q1
  rw [if_pos hg] at q2
  obtain ⟨g1, g2, g3, g4⟩ := ge_yes hs0 hg
  have HRG := Lib.hid (fun (W : World) (v : Value) (h : RdB W v [(l.drop 2, [])]) => specRangeOk_any v [(l.drop 2, [])] W h (smB_one' (by simp; omega)))
  rw [rng_one, lim_nil, Bool.and_true, lim_ne g4, ← q1] at HRG
  simp only [h1, List.length_cons, List.length_nil] at HW
  generalize l.drop 2 = lo at g3 g4 HRG q2
  have HQ := Lib.hid q2
  clear q1 q2 h1 hg hl g4 hs0
  generalize lmOk l = q at HRG HQ ⊢
  go_enter Tryz.func183, Tryz.ntmps183
  go_wp2_with fail
  refine (HW.out _).mono ?_
  rintro e w1 ⟨g, cap, rfl, hS, hb1⟩
  have B1 := B0.trans (hb1.mono B0.size)
  have r1 := keepB r0 hb1
  have d0 : w1.cell? ⟨g, 0, none⟩ = some (.string s0) := by rw [HS0.out]; exact hS.cell 0 (by simp)
  have hg2 : g < w1.heap.size := cell_in d0
  clear hS
  have hgl : g ≤ w1.heap.size := by omega
  clear hb1 r0 B0
  go_wp2_with fail
  refine wp_loop_rounds 4 ?_
  rw [rounds_succ]
  go_wp2_with fail
  rw [rounds_succ]
  go_wp2_with fail
  refine (HRG.out _ _ (rdB_lit _ _ (by simp) _ _ _)).mono ?_
  rintro e w4 ⟨rfl, hb4⟩
  have BB := (((B1.alloc B1.size (.cells #[.string ⟨lo.toArray⟩, .string ⟨#[]⟩] 166)).alloc (by have := B1.size; simp; omega) (.cells #[.string ⟨lo.toArray⟩, .string ⟨#[]⟩] 166)).trans (hb4.mono (by have := B1.size; simp; omega)))
  obtain ⟨c0, c1, f1⟩ := cellsD (keepB (keepA (keepA r1 (.cells #[.string ⟨lo.toArray⟩, .string ⟨#[]⟩] 166)) (.cells #[.string ⟨lo.toArray⟩, .string ⟨#[]⟩] 166)) hb4)
  obtain ⟨x0, x1⟩ := two_cells (keepB (keepA (heap_alloc_new w1 (.cells #[.string ⟨lo.toArray⟩, .string ⟨#[]⟩] 166)) (.cells #[.string ⟨lo.toArray⟩, .string ⟨#[]⟩] 166)) hb4)
  clear hb4 B1 r1 HRG
  cases q
  · go_wp2_with fail
    refine bodyPost_ret (v := .tuple #[.agg #[.string ⟨#[]⟩, .string ⟨#[]⟩], .bool false]) ?_ rfl ⟨_, _, rfl, fun h => (by cases h), ?_⟩
    · simp [results, Tryz.results183, go_sem, c0, c1]
    · exact below_res2 BB (Nat.le_refl _) _ _
  · go_wp2_with fail
    refine bodyPost_ret (v := .tuple #[.agg #[.string ⟨lo.toArray⟩, .string ⟨#[]⟩], .bool true]) ?_ rfl ⟨_, _, rfl, fun _ => (by rw [HQ.out (by trivial)]; exact ⟨rfl, rfl⟩), ?_⟩
    · simp [results, Tryz.results183, go_sem, c0, c1]
    · exact below_res2 BB (Nat.le_refl _) _ _

set_option maxRecDepth 100000 in
set_option maxHeartbeats 4000000 in
theorem sg_B (l : List UInt8) (w : World) (hl : l.length ≤ 1048000) (h1 : cutL 32 l = [l]) (hg : geA l = false) (ht : ltA l = true) :
    Calls Tryz.prog 183 #[.string ⟨l.toArray⟩] w (AltIs w (lmOk l) (lmB l)) := by
  have HW := Lib.hid (fun W => specWords_any ⟨l.toArray⟩ W (by rw [size_of]; omega))
  have B0 : Below w.heap.size w (w.alloc (.cells #[.string ⟨#[]⟩, .string ⟨#[]⟩] 166)) := (Below.refl _ _).alloc (Nat.le_refl _) _
  have r0 := heap_alloc_new w (.cells #[.string ⟨#[]⟩, .string ⟨#[]⟩] 166)
  obtain ⟨s0, hs0⟩ : ∃ s0 : ByteArray, s0 = ⟨(l).toArray⟩ := ⟨_, rfl⟩
  have HS0 := Lib.hid hs0
  obtain ⟨q1, q2⟩ := lm_one h1
  rw [if_neg (by rw [hg]; simp), ht, Bool.true_and] at q1
  rw [if_neg (by rw [hg]; simp)] at q2
  obtain ⟨t1, t2, t3, t4⟩ := lt_yes hs0 ht
  have hgn := ge_no hs0 hg
  have HRG := Lib.hid (fun (W : World) (v : Value) (h : RdB W v [([], l.drop 1)]) => specRangeOk_any v [([], l.drop 1)] W h (smB_one' (by simp; omega)))
  rw [rng_one, lim_nil, Bool.true_and, lim_ne t4, ← q1] at HRG
  simp only [h1, List.length_cons, List.length_nil] at HW
  generalize l.drop 1 = hi at t3 t4 HRG q2
  have HQ := Lib.hid q2
  clear q1 q2 h1 hg hl t4 hs0 ht
  generalize lmOk l = q at HRG HQ ⊢
  rcases hgn with g1 | ⟨g1, z, g2, g3⟩
  all_goals
    go_enter Tryz.func183, Tryz.ntmps183
    go_wp2_with fail
    refine (HW.out _).mono ?_
    rintro e w1 ⟨g, cap, rfl, hS, hb1⟩
    have B1 := B0.trans (hb1.mono B0.size)
    have r1 := keepB r0 hb1
    have d0 : w1.cell? ⟨g, 0, none⟩ = some (.string s0) := by rw [HS0.out]; exact hS.cell 0 (by simp)
    have hg2 : g < w1.heap.size := cell_in d0
    clear hS
    have hgl : g ≤ w1.heap.size := by omega
    clear hb1 r0 B0
    go_wp2_with fail
    refine wp_loop_rounds 4 ?_
    rw [rounds_succ]
    go_wp2_with fail
    rw [rounds_succ]
    go_wp2_with fail
    refine (HRG.out _ _ (rdB_lit _ _ (by simp) _ _ _)).mono ?_
    rintro e w4 ⟨rfl, hb4⟩
    have BB := (((B1.alloc B1.size (.cells #[.string ⟨#[]⟩, .string ⟨hi.toArray⟩] 166)).alloc (by have := B1.size; simp; omega) (.cells #[.string ⟨#[]⟩, .string ⟨hi.toArray⟩] 166)).trans (hb4.mono (by have := B1.size; simp; omega)))
    obtain ⟨c0, c1, f1⟩ := cellsD (keepB (keepA (keepA r1 (.cells #[.string ⟨#[]⟩, .string ⟨hi.toArray⟩] 166)) (.cells #[.string ⟨#[]⟩, .string ⟨hi.toArray⟩] 166)) hb4)
    obtain ⟨x0, x1⟩ := two_cells (keepB (keepA (heap_alloc_new w1 (.cells #[.string ⟨#[]⟩, .string ⟨hi.toArray⟩] 166)) (.cells #[.string ⟨#[]⟩, .string ⟨hi.toArray⟩] 166)) hb4)
    clear hb4 B1 r1 HRG
    cases q
    · go_wp2_with fail
      refine bodyPost_ret (v := .tuple #[.agg #[.string ⟨#[]⟩, .string ⟨#[]⟩], .bool false]) ?_ rfl ⟨_, _, rfl, fun h => (by cases h), ?_⟩
      · simp [results, Tryz.results183, go_sem, c0, c1]
      · exact below_res2 BB (Nat.le_refl _) _ _
    · go_wp2_with fail
      refine bodyPost_ret (v := .tuple #[.agg #[.string ⟨#[]⟩, .string ⟨hi.toArray⟩], .bool true]) ?_ rfl ⟨_, _, rfl, fun _ => (by rw [HQ.out (by trivial)]; exact ⟨rfl, rfl⟩), ?_⟩
      · simp [results, Tryz.results183, go_sem, c0, c1]
      · exact below_res2 BB (Nat.le_refl _) _ _

set_option maxRecDepth 100000 in
set_option maxHeartbeats 4000000 in
theorem sg_C (l : List UInt8) (w : World) (hl : l.length ≤ 1048000) (h1 : cutL 32 l = [l]) (hg : geA l = false) (ht : ltA l = false) :
    Calls Tryz.prog 183 #[.string ⟨l.toArray⟩] w (AltIs w (lmOk l) (lmB l)) := by
  have HW := Lib.hid (fun W => specWords_any ⟨l.toArray⟩ W (by rw [size_of]; omega))
  have B0 : Below w.heap.size w (w.alloc (.cells #[.string ⟨#[]⟩, .string ⟨#[]⟩] 166)) := (Below.refl _ _).alloc (Nat.le_refl _) _
  have r0 := heap_alloc_new w (.cells #[.string ⟨#[]⟩, .string ⟨#[]⟩] 166)
  obtain ⟨s0, hs0⟩ : ∃ s0 : ByteArray, s0 = ⟨(l).toArray⟩ := ⟨_, rfl⟩
  have HS0 := Lib.hid hs0
  obtain ⟨q1, q2⟩ := lm_one h1
  rw [if_neg (by rw [hg]; simp), ht, Bool.false_and] at q1
  rw [q1]
  have htn := lt_no hs0 ht
  have hgn := ge_no hs0 hg
  simp only [h1, List.length_cons, List.length_nil] at HW
  clear q1 q2 h1 hg hl hs0 ht
  rcases hgn with g1 | ⟨g1, z, g2, g3⟩ <;> rcases htn with t1 | ⟨t1, t2⟩
  all_goals try (exfalso; omega)
  all_goals
    go_enter Tryz.func183, Tryz.ntmps183
    go_wp2_with fail
    refine (HW.out _).mono ?_
    rintro e w1 ⟨g, cap, rfl, hS, hb1⟩
    have B1 := B0.trans (hb1.mono B0.size)
    have r1 := keepB r0 hb1
    have d0 : w1.cell? ⟨g, 0, none⟩ = some (.string s0) := by rw [HS0.out]; exact hS.cell 0 (by simp)
    have hg2 : g < w1.heap.size := cell_in d0
    clear hS
    obtain ⟨c0, c1, f1⟩ := cellsD r1
    have hlt := lt_of_heap r1
    have B3 := (below_res2 B1 (Nat.le_refl _) (.string ⟨#[]⟩) (.string ⟨#[]⟩)).alloc (by simpa using B1.size) (.cells #[.string ⟨#[]⟩, .string ⟨#[]⟩] 166)
    obtain ⟨y0, y1⟩ := two_cells (keepA (set2_heap r1 (.string ⟨#[]⟩) (.string ⟨#[]⟩)) (.cells #[.string ⟨#[]⟩, .string ⟨#[]⟩] 166))
    clear B1 r1
    have hgl : g ≤ w1.heap.size := by omega
    clear hb1 r0 B0
    go_wp2_with fail
    refine wp_loop_rounds 4 ?_
    rw [rounds_succ]
    go_wp2_with fail
    refine bodyPost_ret (v := .tuple #[.agg #[.string ⟨#[]⟩, .string ⟨#[]⟩], .bool false]) ?_ rfl ⟨_, _, rfl, fun h => (by cases h), ?_⟩
    · simp [results, Tryz.results183, go_sem, y0, y1]
    · exact B3

set_option maxRecDepth 100000 in
set_option maxHeartbeats 4000000 in
theorem sg_D (l : List UInt8) (w : World) (hl : l.length ≤ 1048000) (x y : List UInt8) (h1 : cutL 32 l = [x, y]) (hg : geA x = true) (ht : ltA y = true) :
    Calls Tryz.prog 183 #[.string ⟨l.toArray⟩] w (AltIs w (lmOk l) (lmB l)) := by
  have HW := Lib.hid (fun W => specWords_any ⟨l.toArray⟩ W (by rw [size_of]; omega))
  have B0 : Below w.heap.size w (w.alloc (.cells #[.string ⟨#[]⟩, .string ⟨#[]⟩] 166)) := (Below.refl _ _).alloc (Nat.le_refl _) _
  have r0 := heap_alloc_new w (.cells #[.string ⟨#[]⟩, .string ⟨#[]⟩] 166)
  obtain ⟨s0, hs0⟩ : ∃ s0 : ByteArray, s0 = ⟨(x).toArray⟩ := ⟨_, rfl⟩
  have HS0 := Lib.hid hs0
  obtain ⟨s1, hs1⟩ : ∃ s1 : ByteArray, s1 = ⟨(y).toArray⟩ := ⟨_, rfl⟩
  have HS1 := Lib.hid hs1
  obtain ⟨q1, q2⟩ := lm_two h1
  rw [hg, ht, Bool.true_and, Bool.true_and] at q1
  obtain ⟨g1, g2, g3, g4⟩ := ge_yes hs0 hg
  obtain ⟨t1, t2, t3, t4⟩ := lt_yes hs1 ht
  have hxl : x.length + y.length ≤ l.length := by
    have := join_cut 32 l; rw [h1] at this; simp [joinL] at this; rw [← this]; simp
  have HRG := Lib.hid (fun (W : World) (v : Value) (h : RdB W v [(x.drop 2, y.drop 1)]) => specRangeOk_any v [(x.drop 2, y.drop 1)] W h (smB_one' (by simp; omega)))
  rw [rng_one, lim_ne g4, lim_ne t4, ← q1] at HRG
  simp only [h1, List.length_cons, List.length_nil] at HW
  have s1n := ge_no hs1 (by cases hh : geA y with | false => rfl | true => rw [ge_lt hh] at ht; cases ht)
  generalize x.drop 2 = lo at g3 g4 HRG q2
  generalize y.drop 1 = hi at t3 t4 HRG q2
  have HQ : Hid (lmOk l = true → lmB l = (lo, hi)) := Lib.hid (fun _ => q2)
  clear q1 q2 h1 hg hl t4 g4 hs0 hs1 ht hxl s1n
  generalize lmOk l = q at HRG HQ ⊢
  go_enter Tryz.func183, Tryz.ntmps183
  go_wp2_with fail
  refine (HW.out _).mono ?_
  rintro e w1 ⟨g, cap, rfl, hS, hb1⟩
  have B1 := B0.trans (hb1.mono B0.size)
  have r1 := keepB r0 hb1
  have d0 : w1.cell? ⟨g, 0, none⟩ = some (.string s0) := by rw [HS0.out]; exact hS.cell 0 (by simp)
  have d1 : w1.cell? ⟨g, 1, none⟩ = some (.string s1) := by rw [HS1.out]; exact hS.cell 1 (by simp)
  have hg2 : g < w1.heap.size := cell_in d0
  clear hS
  have hgl : g ≤ w1.heap.size := by omega
  clear hb1 r0 B0
  go_wp2_with fail
  refine wp_loop_rounds 4 ?_
  rw [rounds_succ]
  go_wp2_with fail
  rw [rounds_succ]
  go_wp2_with fail
  rw [rounds_succ]
  go_wp2_with fail
  refine (HRG.out _ _ (rdB_lit _ _ (by simp) _ _ _)).mono ?_
  rintro e w4 ⟨rfl, hb4⟩
  have BB := (((B1.alloc B1.size (.cells #[.string ⟨lo.toArray⟩, .string ⟨hi.toArray⟩] 166)).alloc (by have := B1.size; simp; omega) (.cells #[.string ⟨lo.toArray⟩, .string ⟨hi.toArray⟩] 166)).trans (hb4.mono (by have := B1.size; simp; omega)))
  obtain ⟨c0, c1, f1⟩ := cellsD (keepB (keepA (keepA r1 (.cells #[.string ⟨lo.toArray⟩, .string ⟨hi.toArray⟩] 166)) (.cells #[.string ⟨lo.toArray⟩, .string ⟨hi.toArray⟩] 166)) hb4)
  obtain ⟨x0, x1⟩ := two_cells (keepB (keepA (heap_alloc_new w1 (.cells #[.string ⟨lo.toArray⟩, .string ⟨hi.toArray⟩] 166)) (.cells #[.string ⟨lo.toArray⟩, .string ⟨hi.toArray⟩] 166)) hb4)
  clear hb4 B1 r1 HRG
  cases q
  · go_wp2_with fail
    refine bodyPost_ret (v := .tuple #[.agg #[.string ⟨#[]⟩, .string ⟨#[]⟩], .bool false]) ?_ rfl ⟨_, _, rfl, fun h => (by cases h), ?_⟩
    · simp [results, Tryz.results183, go_sem, c0, c1]
    · exact below_res2 BB (Nat.le_refl _) _ _
  · go_wp2_with fail
    refine bodyPost_ret (v := .tuple #[.agg #[.string ⟨lo.toArray⟩, .string ⟨hi.toArray⟩], .bool true]) ?_ rfl ⟨_, _, rfl, fun _ => (by rw [HQ.out (by trivial)]; exact ⟨rfl, rfl⟩), ?_⟩
    · simp [results, Tryz.results183, go_sem, c0, c1]
    · exact below_res2 BB (Nat.le_refl _) _ _

set_option maxRecDepth 100000 in
set_option maxHeartbeats 4000000 in
theorem sg_E (l : List UInt8) (w : World) (hl : l.length ≤ 1048000) (x y : List UInt8) (h1 : cutL 32 l = [x, y]) (hg : geA x = true) (ht : ltA y = false) :
    Calls Tryz.prog 183 #[.string ⟨l.toArray⟩] w (AltIs w (lmOk l) (lmB l)) := by
  have HW := Lib.hid (fun W => specWords_any ⟨l.toArray⟩ W (by rw [size_of]; omega))
  have B0 : Below w.heap.size w (w.alloc (.cells #[.string ⟨#[]⟩, .string ⟨#[]⟩] 166)) := (Below.refl _ _).alloc (Nat.le_refl _) _
  have r0 := heap_alloc_new w (.cells #[.string ⟨#[]⟩, .string ⟨#[]⟩] 166)
  obtain ⟨s0, hs0⟩ : ∃ s0 : ByteArray, s0 = ⟨(x).toArray⟩ := ⟨_, rfl⟩
  have HS0 := Lib.hid hs0
  obtain ⟨s1, hs1⟩ : ∃ s1 : ByteArray, s1 = ⟨(y).toArray⟩ := ⟨_, rfl⟩
  have HS1 := Lib.hid hs1
  obtain ⟨q1, q2⟩ := lm_two h1
  rw [ht, Bool.false_and, Bool.and_false] at q1
  rw [q1]
  obtain ⟨g1, g2, g3, g4⟩ := ge_yes hs0 hg
  have htn := lt_no hs1 ht
  simp only [h1, List.length_cons, List.length_nil] at HW
  generalize x.drop 2 = lo at g3 g4 q2
  clear q1 q2 h1 hg hl g4 hs0 hs1 ht
  rcases htn with t1 | ⟨t1, t2⟩
  all_goals
    go_enter Tryz.func183, Tryz.ntmps183
    go_wp2_with fail
    refine (HW.out _).mono ?_
    rintro e w1 ⟨g, cap, rfl, hS, hb1⟩
    have B1 := B0.trans (hb1.mono B0.size)
    have r1 := keepB r0 hb1
    have d0 : w1.cell? ⟨g, 0, none⟩ = some (.string s0) := by rw [HS0.out]; exact hS.cell 0 (by simp)
    have d1 : w1.cell? ⟨g, 1, none⟩ = some (.string s1) := by rw [HS1.out]; exact hS.cell 1 (by simp)
    have hg2 : g < w1.heap.size := cell_in d0
    clear hS
    obtain ⟨c0, c1, f1⟩ := cellsD r1
    have hlt := lt_of_heap r1
    have B3 := (below_res2 B1 (Nat.le_refl _) (.string ⟨#[]⟩) (.string ⟨#[]⟩)).alloc (by simpa using B1.size) (.cells #[.string ⟨lo.toArray⟩, .string ⟨#[]⟩] 166)
    obtain ⟨y0, y1⟩ := two_cells (keepA (set2_heap r1 (.string ⟨#[]⟩) (.string ⟨#[]⟩)) (.cells #[.string ⟨lo.toArray⟩, .string ⟨#[]⟩] 166))
    clear B1 r1
    have hgl : g ≤ w1.heap.size := by omega
    clear hb1 r0 B0
    go_wp2_with fail
    refine wp_loop_rounds 4 ?_
    rw [rounds_succ]
    go_wp2_with fail
    rw [rounds_succ]
    go_wp2_with fail
    refine bodyPost_ret (v := .tuple #[.agg #[.string ⟨#[]⟩, .string ⟨#[]⟩], .bool false]) ?_ rfl ⟨_, _, rfl, fun h => (by cases h), ?_⟩
    · simp [results, Tryz.results183, go_sem, y0, y1]
    · exact B3

set_option maxRecDepth 100000 in
set_option maxHeartbeats 4000000 in
theorem sg_F (l : List UInt8) (w : World) (hl : l.length ≤ 1048000) (x y : List UInt8) (t : List (List UInt8)) (h1 : cutL 32 l = x :: y :: t) (hg : geA x = false) :
    Calls Tryz.prog 183 #[.string ⟨l.toArray⟩] w (AltIs w (lmOk l) (lmB l)) := by
  have HW := Lib.hid (fun W => specWords_any ⟨l.toArray⟩ W (by rw [size_of]; omega))
  have B0 : Below w.heap.size w (w.alloc (.cells #[.string ⟨#[]⟩, .string ⟨#[]⟩] 166)) := (Below.refl _ _).alloc (Nat.le_refl _) _
  have r0 := heap_alloc_new w (.cells #[.string ⟨#[]⟩, .string ⟨#[]⟩] 166)
  obtain ⟨s0, hs0⟩ : ∃ s0 : ByteArray, s0 = ⟨(x).toArray⟩ := ⟨_, rfl⟩
  have HS0 := Lib.hid hs0
  have q1 : lmOk l = false := by
    cases t with
    | nil => rw [(lm_two h1).1, hg, Bool.false_and, Bool.false_and]
    | cons z t => exact lm_many h1
  rw [q1]
  have hgn := ge_no hs0 hg
  have hnl : (cutL 32 l).length ≤ l.length + 1 := cutL_le 32 l
  rw [h1] at hnl
  obtain ⟨N, HN⟩ : ∃ N, Hid ((x :: y :: t).length = N) := ⟨_, Lib.hid rfl⟩
  have hN : 2 ≤ N := by rw [← HN.out]; simp
  simp only [h1, HN.out] at HW
  rw [HN.out] at hnl
  have n1 : ((0 : Int) == (N : Int) - 1) = false := int_beq_false (by omega)
  clear q1 h1 hg hs0
  rcases hgn with g1 | ⟨g1, z, g2, g3⟩
  all_goals
    go_enter Tryz.func183, Tryz.ntmps183
    go_wp2_with fail
    refine (HW.out _).mono ?_
    rintro e w1 ⟨g, cap, rfl, hS, hb1⟩
    have B1 := B0.trans (hb1.mono B0.size)
    have r1 := keepB r0 hb1
    have d0 : w1.cell? ⟨g, 0, none⟩ = some (.string s0) := by rw [HS0.out]; exact hS.cell 0 (by simp)
    have hg2 : g < w1.heap.size := cell_in d0
    clear hS
    obtain ⟨c0, c1, f1⟩ := cellsD r1
    have hlt := lt_of_heap r1
    have B3 := (below_res2 B1 (Nat.le_refl _) (.string ⟨#[]⟩) (.string ⟨#[]⟩)).alloc (by simpa using B1.size) (.cells #[.string ⟨#[]⟩, .string ⟨#[]⟩] 166)
    obtain ⟨y0, y1⟩ := two_cells (keepA (set2_heap r1 (.string ⟨#[]⟩) (.string ⟨#[]⟩)) (.cells #[.string ⟨#[]⟩, .string ⟨#[]⟩] 166))
    clear B1 r1
    have hgl : g ≤ w1.heap.size := by omega
    clear hb1 r0 B0
    go_wp2_with fail
    refine wp_loop_rounds 4 ?_
    rw [rounds_succ]
    go_wp2_with fail
    refine bodyPost_ret (v := .tuple #[.agg #[.string ⟨#[]⟩, .string ⟨#[]⟩], .bool false]) ?_ rfl ⟨_, _, rfl, fun h => (by cases h), ?_⟩
    · simp [results, Tryz.results183, go_sem, y0, y1]
    · exact B3

set_option maxRecDepth 100000 in
set_option maxHeartbeats 4000000 in
theorem sg_G (l : List UInt8) (w : World) (hl : l.length ≤ 1048000) (x y z : List UInt8) (t : List (List UInt8)) (h1 : cutL 32 l = x :: y :: z :: t) (hg : geA x = true) :
    Calls Tryz.prog 183 #[.string ⟨l.toArray⟩] w (AltIs w (lmOk l) (lmB l)) := by
  have HW := Lib.hid (fun W => specWords_any ⟨l.toArray⟩ W (by rw [size_of]; omega))
  have B0 : Below w.heap.size w (w.alloc (.cells #[.string ⟨#[]⟩, .string ⟨#[]⟩] 166)) := (Below.refl _ _).alloc (Nat.le_refl _) _
  have r0 := heap_alloc_new w (.cells #[.string ⟨#[]⟩, .string ⟨#[]⟩] 166)
  obtain ⟨s0, hs0⟩ : ∃ s0 : ByteArray, s0 = ⟨(x).toArray⟩ := ⟨_, rfl⟩
  have HS0 := Lib.hid hs0
  rw [lm_many h1]
  obtain ⟨g1, g2, g3, g4⟩ := ge_yes hs0 hg
  have hnl : (cutL 32 l).length ≤ l.length + 1 := cutL_le 32 l
  rw [h1] at hnl
  obtain ⟨N, HN⟩ : ∃ N, Hid ((x :: y :: z :: t).length = N) := ⟨_, Lib.hid rfl⟩
  have hN : 3 ≤ N := by rw [← HN.out]; simp
  simp only [h1, HN.out] at HW
  rw [HN.out] at hnl
  have n1 : ((1 : Int) == (N : Int) - 1) = false := int_beq_false (by omega)
  generalize x.drop 2 = lo at g3 g4
  clear h1 hg hs0 g4
  go_enter Tryz.func183, Tryz.ntmps183
  go_wp2_with fail
  refine (HW.out _).mono ?_
  rintro e w1 ⟨g, cap, rfl, hS, hb1⟩
  have B1 := B0.trans (hb1.mono B0.size)
  have r1 := keepB r0 hb1
  have d0 : w1.cell? ⟨g, 0, none⟩ = some (.string s0) := by rw [HS0.out]; exact hS.cell 0 (by simp)
  have hg2 : g < w1.heap.size := cell_in d0
  clear hS
  obtain ⟨c0, c1, f1⟩ := cellsD r1
  have hlt := lt_of_heap r1
  have B3 := (below_res2 B1 (Nat.le_refl _) (.string ⟨#[]⟩) (.string ⟨#[]⟩)).alloc (by simpa using B1.size) (.cells #[.string ⟨lo.toArray⟩, .string ⟨#[]⟩] 166)
  obtain ⟨y0, y1⟩ := two_cells (keepA (set2_heap r1 (.string ⟨#[]⟩) (.string ⟨#[]⟩)) (.cells #[.string ⟨lo.toArray⟩, .string ⟨#[]⟩] 166))
  clear B1 r1
  have hgl : g ≤ w1.heap.size := by omega
  clear hb1 r0 B0
  go_wp2_with fail
  refine wp_loop_rounds 4 ?_
  rw [rounds_succ]
  go_wp2_with fail
  rw [rounds_succ]
  go_wp2_with fail
  refine bodyPost_ret (v := .tuple #[.agg #[.string ⟨#[]⟩, .string ⟨#[]⟩], .bool false]) ?_ rfl ⟨_, _, rfl, fun h => (by cases h), ?_⟩
  · simp [results, Tryz.results183, go_sem, y0, y1]
  · exact B3

theorem l03Signs_any (l : List UInt8) (w : World) (hl : l.length ≤ 1048000) : Calls Tryz.prog 183 #[.string ⟨l.toArray⟩] w (AltIs w (lmOk l) (lmB l)) := by
  match h : cutL 32 l with
  | [] => exact absurd h (cutL_ne 32 l)
  | [x] =>
    obtain rfl := cutL_one h
    cases hg : geA x with
    | true => exact sg_A x w hl h hg
    | false =>
      cases ht : ltA x with
      | true => exact sg_B x w hl h hg ht
      | false => exact sg_C x w hl h hg ht
  | [x, y] =>
    cases hg : geA x with
    | false => exact sg_F l w hl x y [] h hg
    | true =>
      cases ht : ltA y with
      | true => exact sg_D l w hl x y h hg ht
      | false => exact sg_E l w hl x y h hg ht
  | x :: y :: z :: t =>
    cases hg : geA x with
    | false => exact sg_F l w hl x y (z :: t) h hg
    | true => exact sg_G l w hl x y z t h hg
end Go.Proofs.YtnodhkjgnegkcaaGreatDoor
