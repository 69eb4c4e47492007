/-
  At every argument the law FnExactVersions returns true and leaves its arguments as they were, the three listed tables lying as the program's text lays them (the tie is given). No other condition.
-/
import Derived.Test.YtcfkhfbhmjfhdaaGreatDoorCutI
import Derived.Test.YtcfkhfbhmjfhdaaGreatDoorVerI
import Derived.Test.YtcfkhfbhmjfhdaaGreatDoorSplit
import Derived.Deep.RegionHeld3
import Derived.Shelf.Strings.OnBuilder
import Derived.Ground.NamesProg
import Derived.Test.YtcfkhfbhmjfhdaaGreatDoorProg
import Derived.Test.YtcfkhfbhmjfhdaaGreatDoorRdL
import Derived.Test.YtcfkhfbhmjfhdaaGreatDoorVerM
import Derived.Shelf.Strconv.Itoa3
import Derived.Test.YtcfkhfbhmjfhdaaGreatDoorDec
import Derived.Lib.AppendIntMem
import Derived.Test.YtcfkhfbhmjfhdaaGreatDoorTextS
import Derived.Test.YtcfkhfbhmjfhdaaGreatDoorSrtR
import Derived.Test.YtcfkhfbhmjfhdaaGreatDoorRdB
import Derived.Deep.RegionWith
import Derived.Test.YtcfkhfbhmjfhdaaGreatDoorPk
import Derived.Test.YtcfkhfbhmjfhdaaGreatDoorSortS
import Derived.Test.YtcfkhfbhmjfhdaaGreatDoorRows
import Derived.Test.YtcfkhfbhmjfhdaaGreatDoorBase
import Derived.Laws.OwnMore
import Derived.Laws.IdiomStrings
import Derived.Maps.AppendAt
import Derived.Laws.BitsAllLaws
import Derived.Deep.RegionLaw
import Derived.Deep.AppendLies
import Derived.Laws.BitsLemmas
import Derived.Lib.AppendStr
import Derived.Deep.QuietTactic
import Derived.BigQuiet
import Derived.Test.YtcfkhfbhmjfhdaaGreatDoorLawB
import Derived.LoopN
import Derived.Test.YtcfkhfbhmjfhdaaGreatDoorTie
import Derived.Test.YtcfkhfbhmjfhdaaGreatDoorCards
import Derived.WalkKit
import Derived.ProofKit
import Derived.OpenShut
import Derived.ShutString
import Derived.ChangeOld
import Derived.Below
import Derived.ChangeVars
import Derived.LaidLaws
import Derived.MakeChecks
import Derived.Stop.LaidErr
import Derived.SevenTiedAt
import Derived.Carry
import Derived.Test.YtcfkhfbhmjfhdaaGreatDoorOpenP
/-
  impl.ReadVersion: a version out of its text.
-/
namespace Go.Proofs.YtcfkhfbhmjfhdaaGreatDoor
open Go.RowKit

theorem keep3 {W V : World} {g : Nat} {v0 v1 v2 : Value} (hb : Below W.heap.size W V) (h : W.cell? ⟨g, 0, none⟩ = some v0 ∧ W.cell? ⟨g, 1, none⟩ = some v1 ∧ W.cell? ⟨g, 2, none⟩ = some v2) : V.cell? ⟨g, 0, none⟩ = some v0 ∧ V.cell? ⟨g, 1, none⟩ = some v1 ∧ V.cell? ⟨g, 2, none⟩ = some v2 := ⟨keepC hb h.1, keepC hb h.2.1, keepC hb h.2.2⟩

set_option maxRecDepth 100000 in
set_option maxHeartbeats 4000000 in
theorem implReadVersion_any (s : ByteArray) (w : World) (hs : s.size ≤ 1048576) :
    Calls Tryz.prog 53 #[.string s] w (ReadIs w s.data.toList) := by
  have HSZ : Hid (s.data.toList.length ≤ 1048576) := Lib.hid (by simpa using hs)
  have r0 := heap_alloc_new w (.cells #[.int .i64 0, .int .i64 0, .int .i64 0, .slice none 0 0] 74)
  have B0 : Below w.heap.size w (w.alloc (.cells #[.int .i64 0, .int .i64 0, .int .i64 0, .slice none 0 0] 74)) := (Below.refl _ _).alloc (Nat.le_refl _) _
  obtain ⟨d, HD⟩ : ∃ d, Hid (dash s.data.toList = d) := ⟨_, Lib.hid rfl⟩
  by_cases hd : 0 ≤ d
  · have hdl : d < s.size := by have := idx_lt s.data.toList 45; have h2 : Lib.indexByte s.data.toList 45 = d := HD.out; rw [h2] at this; simpa using this
    obtain ⟨k, rfl⟩ : ∃ k : Nat, d = (k : Int) := ⟨d.toNat, by omega⟩
    have HTL : Hid (cutL 46 (⟨(s.data.toList.drop (k + 1)).toArray⟩ : ByteArray).data.toList = tailL s.data.toList) := Lib.hid (by rw [tailL_yes (by rw [HD.out]; exact hd), HD.out]; rfl)
    have HQ2 : Hid (cutL 46 (⟨(s.data.toList.take k).toArray⟩ : ByteArray).data.toList = partsL s.data.toList) := Lib.hid (by unfold partsL; rw [headL_yes (by rw [HD.out]; exact hd), HD.out]; rfl)
    go_enter Tryz.func53, Tryz.ntmps53
    go_wp2_with fail
    refine (cutDash_yes s _ hs k (by omega) HD.out).mono ?_
    rintro e w1 ⟨rfl, nq, rfl⟩
    have B1 := B0.trans (below_drewN _ _ nq)
    have r1 := keepB r0 (below_drewN _ _ nq)
    clear r0 B0
    go_wp2_with fail
    refine (splitAt_any _ 46 _ (by rw [size_of]; simp <;> omega)).mono ?_
    rintro e w2 ⟨gn, cn, rfl, hSn, hb2⟩
    rw [HQ2.out] at hSn ⊢
    have r2 := keepB r1 hb2
    have B2 := B1.trans (hb2.mono B1.size)
    clear r1 hb2
    by_cases h3 : (partsL s.data.toList).length = 3
    · obtain ⟨p0, p1, p2, hp⟩ := len3 h3
      have HPP := Lib.hid hp
      have mm : ∀ x ∈ partsL s.data.toList, x.length ≤ 1048576 := fun x hx => by have h1 := cutL_mem_le 46 (headL s.data.toList) x hx; have h2 := headL_le s.data.toList; have h3 := HSZ.out; omega
      have m0 := mm p0 (by rw [hp]; simp)
      have m1 := mm p1 (by rw [hp]; simp)
      have m2 := mm p2 (by rw [hp]; simp)
      have x0 : w2.cell? ⟨gn, 0, none⟩ = some (.string ⟨p0.toArray⟩) := by rw [hp] at hSn; exact hSn.cell 0 (by simp)
      have x1 : w2.cell? ⟨gn, 1, none⟩ = some (.string ⟨p1.toArray⟩) := by rw [hp] at hSn; exact hSn.cell 1 (by simp)
      have x2 : w2.cell? ⟨gn, 2, none⟩ = some (.string ⟨p2.toArray⟩) := by rw [hp] at hSn; exact hSn.cell 2 (by simp)
      have HR := Lib.hid (readOk_of hp)
      rw [h3]
      clear mm hp h3
      obtain ⟨z0, HZ0⟩ : ∃ z, Hid (readL p0 = z) := ⟨_, Lib.hid rfl⟩
      obtain ⟨z1, HZ1⟩ : ∃ z, Hid (readL p1 = z) := ⟨_, Lib.hid rfl⟩
      obtain ⟨z2, HZ2⟩ : ∃ z, Hid (readL p2 = z) := ⟨_, Lib.hid rfl⟩
      have HD0 := Lib.hid (fun W => (implReadDec_any ⟨p0.toArray⟩ W (by rw [size_of]; exact m0)).mono (fun e w' h => (⟨by rw [h.1, show readL (⟨p0.toArray⟩ : ByteArray).data.toList = z0 from HZ0.out], h.2⟩ : e = .returned (.int .i64 z0) ∧ W = w')))
      have HD1 := Lib.hid (fun W => (implReadDec_any ⟨p1.toArray⟩ W (by rw [size_of]; exact m1)).mono (fun e w' h => (⟨by rw [h.1, show readL (⟨p1.toArray⟩ : ByteArray).data.toList = z1 from HZ1.out], h.2⟩ : e = .returned (.int .i64 z1) ∧ W = w')))
      have HD2 := Lib.hid (fun W => (implReadDec_any ⟨p2.toArray⟩ W (by rw [size_of]; exact m2)).mono (fun e w' h => (⟨by rw [h.1, show readL (⟨p2.toArray⟩ : ByteArray).data.toList = z2 from HZ2.out], h.2⟩ : e = .returned (.int .i64 z2) ∧ W = w')))
      go_wp2_with fail
      have ba : ∀ (W : World) (o : Obj), Below W.heap.size W (W.alloc o) := fun W o => (Below.refl _ _).alloc (Nat.le_refl _) _
      have HBA := Lib.hid ba
      clear ba
      go_region_held3 (fun W' => W'.cell? ⟨gn, 0, none⟩ = some (.string ⟨p0.toArray⟩) ∧ W'.cell? ⟨gn, 1, none⟩ = some (.string ⟨p1.toArray⟩) ∧ W'.cell? ⟨gn, 2, none⟩ = some (.string ⟨p2.toArray⟩)) (first | exact ⟨x0, x1, x2⟩ | assumption | exact keep3 (HBA.out _ _) (by assumption) | go_keep) ((first | (go_at_call 77; (with_reducible refine (HD0.out _).mono ?_); rintro e w' ⟨rfl, rfl⟩) | (go_at_call 77; (with_reducible refine (HD1.out _).mono ?_); rintro e w' ⟨rfl, rfl⟩) | (go_at_call 77; (with_reducible refine (HD2.out _).mono ?_); rintro e w' ⟨rfl, rfl⟩)))
      all_goals
        go_wp2_with fail
        have v3 : (w2.alloc (.cells #[.int .i64 z0, .int .i64 z1, .int .i64 z2, .slice none 0 0] 74)).drew.heap[w2.heap.size]? = some (.cells #[.int .i64 z0, .int .i64 z1, .int .i64 z2, .slice none 0 0] 74) := heap_alloc_new w2 _
        have r3 : (w2.alloc (.cells #[.int .i64 z0, .int .i64 z1, .int .i64 z2, .slice none 0 0] 74)).drew.heap[w.heap.size]? = some (.cells #[.int .i64 0, .int .i64 0, .int .i64 0, .slice none 0 0] 74) := keepA r2 _
        have B3 := (B2.alloc B2.size (.cells #[.int .i64 z0, .int .i64 z1, .int .i64 z2, .slice none 0 0] 74)).trans (below_drew w.heap.size _)
        have lo : w.heap.size < w2.heap.size := lt_of_heap r2
        clear r2 B2 x0 x1 x2
        refine (splitAt_any _ 46 _ (by rw [size_of]; simp <;> omega)).mono ?_
        rintro e w4 ⟨gp, cp, rfl, hSp, hb4⟩
        rw [HTL.out] at hSp ⊢
        have v4 := keepB v3 hb4
        have r4 := keepB r3 hb4
        have B4 := B3.trans (hb4.mono B3.size)
        have glo : w2.heap.size + 1 ≤ gp := by have := hSp.lo; simpa using this
        obtain ⟨q0, q1, q2, q3⟩ := cells4 v4
        have f3 := frozen4 v4 3
        have v5 := heap_set3 v4 (.slice (some ⟨gp, 0, none⟩) (tailL s.data.toList).length cp)
        have r5 := heap_other (g := w2.heap.size) (o := 3) r4 (.slice (some ⟨gp, 0, none⟩) (tailL s.data.toList).length cp) (by omega)
        have B5 := B4.setCell (p := ⟨w2.heap.size, 3, none⟩) (by show w.heap.size ≤ w2.heap.size; omega) (.slice (some ⟨gp, 0, none⟩) (tailL s.data.toList).length cp)
        have hS5 := (hSp.weaken (base' := w2.heap.size + 1) (by simp)).other w2.heap.size 3 (.slice (some ⟨gp, 0, none⟩) (tailL s.data.toList).length cp) (by omega)
        obtain ⟨i0, i1, i2, i3⟩ := cells4 v5
        go_wp2_with fail
        clear v3 v4 r3 r4 B3 B4 hSp hb4 q0 q1 q2 q3 f3 i0 i1 i2 i3
        refine (implVersionOk_any z0 z1 z2 _ (tailL s.data.toList) _ (RdS.of_strs hS5) (tail_sm HSZ.out)).mono ?_
        obtain ⟨ok, HO⟩ : ∃ ok, Hid (verOk z0 z1 z2 (tailL s.data.toList) = ok) := ⟨_, Lib.hid rfl⟩
        rw [HO.out]
        rintro e w6 ⟨rfl, hb6⟩
        have v6 := keepB v5 hb6
        have r6 := keepB r5 hb6
        have B6 := B5.trans (hb6.mono B5.size)
        have hS6 := hS5.below hb6
        have hw := hS5.owned
        have HOK : Hid (readOk s.data.toList = ok) := Lib.hid (by rw [HR.out, HZ0.out, HZ1.out, HZ2.out]; exact HO.out)
        clear v5 r5 B5 hS5 hb6
        cases ok
        · skip
          obtain ⟨q0, q1, q2, q3⟩ := cells4 r6
          have f0 := frozen4 r6 0
          have f1 := frozen4 r6 1
          have f2 := frozen4 r6 2
          have f3 := frozen4 r6 3
          go_wp2_with fail
          refine bodyPost_ret (v := .tuple #[.agg #[.int .i64 0, .int .i64 0, .int .i64 0, .slice none 0 0], .bool false]) ?_ rfl (readIs_bad HOK.out (below_result B6 (by omega) _ _ _ _))
          simp [results, Tryz.results53, go_sem, q0, q1, q2, q3]
        · skip
          obtain ⟨p0', p1', p2', p3'⟩ := cells4 v6
          obtain ⟨q0, q1, q2, q3⟩ := cells4 r6
          have f0 := frozen4 r6 0
          have f1 := frozen4 r6 1
          have f2 := frozen4 r6 2
          have f3 := frozen4 r6 3
          go_wp2_with fail
          refine bodyPost_ret (v := .tuple #[.agg #[.int .i64 (z0), .int .i64 (z1), .int .i64 (z2), .slice (some ⟨gp, 0, none⟩) (tailL s.data.toList).length cp], .bool true]) ?_ rfl (by rw [← HZ0.out, ← HZ1.out, ← HZ2.out]; exact readIs_good HPP.out HOK.out (strs_result (hS6.weaken (by omega)) (fun g h => by have := hw g h; omega) _ _ _ _) (below_result B6 (by omega) _ _ _ _))
          simp [results, Tryz.results53, go_sem, q0, q1, q2, q3]
    · have HOK := Lib.hid (readOk_bad h3)
      have q9 : (((partsL s.data.toList).length : Int) != 3) = true := int_bne_true (by omega)
      clear h3
      obtain ⟨q0, q1, q2, q3⟩ := cells4 r2
      have f0 := frozen4 r2 0
      have f1 := frozen4 r2 1
      have f2 := frozen4 r2 2
      have f3 := frozen4 r2 3
      go_wp2_with fail
      refine bodyPost_ret (v := .tuple #[.agg #[.int .i64 0, .int .i64 0, .int .i64 0, .slice none 0 0], .bool false]) ?_ rfl (readIs_bad HOK.out (below_result B2 (by omega) _ _ _ _))
      simp [results, Tryz.results53, go_sem, q0, q1, q2, q3]
  · have hdn : ¬ 0 ≤ dash s.data.toList := by rw [HD.out]; exact hd
    have HQ2 : Hid (cutL 46 s.data.toList = partsL s.data.toList) := Lib.hid (by unfold partsL; rw [headL_no hdn])
    have HTL := Lib.hid (tailL_no hdn)
    clear hdn
    go_enter Tryz.func53, Tryz.ntmps53
    go_wp2_with fail
    refine (cutDash_no s _ hs d (by omega) HD.out).mono ?_
    rintro e w1 ⟨rfl, rfl⟩
    go_wp2_with fail
    refine (splitAt_any s 46 _ hs).mono ?_
    rintro e w2 ⟨gn, cn, rfl, hSn, hb2⟩
    rw [HQ2.out] at hSn ⊢
    have r2 := keepB r0 hb2
    have B2 := B0.trans (hb2.mono B0.size)
    clear r0 hb2 B0
    by_cases h3 : (partsL s.data.toList).length = 3
    · obtain ⟨p0, p1, p2, hp⟩ := len3 h3
      have HPP := Lib.hid hp
      have mm : ∀ x ∈ partsL s.data.toList, x.length ≤ 1048576 := fun x hx => by have h1 := cutL_mem_le 46 (headL s.data.toList) x hx; have h2 := headL_le s.data.toList; have h3 := HSZ.out; omega
      have m0 := mm p0 (by rw [hp]; simp)
      have m1 := mm p1 (by rw [hp]; simp)
      have m2 := mm p2 (by rw [hp]; simp)
      have x0 : w2.cell? ⟨gn, 0, none⟩ = some (.string ⟨p0.toArray⟩) := by rw [hp] at hSn; exact hSn.cell 0 (by simp)
      have x1 : w2.cell? ⟨gn, 1, none⟩ = some (.string ⟨p1.toArray⟩) := by rw [hp] at hSn; exact hSn.cell 1 (by simp)
      have x2 : w2.cell? ⟨gn, 2, none⟩ = some (.string ⟨p2.toArray⟩) := by rw [hp] at hSn; exact hSn.cell 2 (by simp)
      have HR := Lib.hid (readOk_of hp)
      rw [h3]
      clear mm hp h3
      obtain ⟨z0, HZ0⟩ : ∃ z, Hid (readL p0 = z) := ⟨_, Lib.hid rfl⟩
      obtain ⟨z1, HZ1⟩ : ∃ z, Hid (readL p1 = z) := ⟨_, Lib.hid rfl⟩
      obtain ⟨z2, HZ2⟩ : ∃ z, Hid (readL p2 = z) := ⟨_, Lib.hid rfl⟩
      have HD0 := Lib.hid (fun W => (implReadDec_any ⟨p0.toArray⟩ W (by rw [size_of]; exact m0)).mono (fun e w' h => (⟨by rw [h.1, show readL (⟨p0.toArray⟩ : ByteArray).data.toList = z0 from HZ0.out], h.2⟩ : e = .returned (.int .i64 z0) ∧ W = w')))
      have HD1 := Lib.hid (fun W => (implReadDec_any ⟨p1.toArray⟩ W (by rw [size_of]; exact m1)).mono (fun e w' h => (⟨by rw [h.1, show readL (⟨p1.toArray⟩ : ByteArray).data.toList = z1 from HZ1.out], h.2⟩ : e = .returned (.int .i64 z1) ∧ W = w')))
      have HD2 := Lib.hid (fun W => (implReadDec_any ⟨p2.toArray⟩ W (by rw [size_of]; exact m2)).mono (fun e w' h => (⟨by rw [h.1, show readL (⟨p2.toArray⟩ : ByteArray).data.toList = z2 from HZ2.out], h.2⟩ : e = .returned (.int .i64 z2) ∧ W = w')))
      go_wp2_with fail
      have ba : ∀ (W : World) (o : Obj), Below W.heap.size W (W.alloc o) := fun W o => (Below.refl _ _).alloc (Nat.le_refl _) _
      have HBA := Lib.hid ba
      clear ba
      go_region_held3 (fun W' => W'.cell? ⟨gn, 0, none⟩ = some (.string ⟨p0.toArray⟩) ∧ W'.cell? ⟨gn, 1, none⟩ = some (.string ⟨p1.toArray⟩) ∧ W'.cell? ⟨gn, 2, none⟩ = some (.string ⟨p2.toArray⟩)) (first | exact ⟨x0, x1, x2⟩ | assumption | exact keep3 (HBA.out _ _) (by assumption) | go_keep) ((first | (go_at_call 77; (with_reducible refine (HD0.out _).mono ?_); rintro e w' ⟨rfl, rfl⟩) | (go_at_call 77; (with_reducible refine (HD1.out _).mono ?_); rintro e w' ⟨rfl, rfl⟩) | (go_at_call 77; (with_reducible refine (HD2.out _).mono ?_); rintro e w' ⟨rfl, rfl⟩)))
      all_goals
        go_wp2_with fail
        have v3 : (w2.alloc (.cells #[.int .i64 z0, .int .i64 z1, .int .i64 z2, .slice none 0 0] 74)).drew.heap[w2.heap.size]? = some (.cells #[.int .i64 z0, .int .i64 z1, .int .i64 z2, .slice none 0 0] 74) := heap_alloc_new w2 _
        have r3 : (w2.alloc (.cells #[.int .i64 z0, .int .i64 z1, .int .i64 z2, .slice none 0 0] 74)).drew.heap[w.heap.size]? = some (.cells #[.int .i64 0, .int .i64 0, .int .i64 0, .slice none 0 0] 74) := keepA r2 _
        have B3 := (B2.alloc B2.size (.cells #[.int .i64 z0, .int .i64 z1, .int .i64 z2, .slice none 0 0] 74)).trans (below_drew w.heap.size _)
        have lo : w.heap.size < w2.heap.size := lt_of_heap r2
        clear r2 B2 x0 x1 x2
        have hS5 : Strs (w2.alloc (.cells #[.int .i64 z0, .int .i64 z1, .int .i64 z2, .slice none 0 0] 74)).drew (w2.heap.size + 1) (.slice none 0 0) (tailL s.data.toList) := by rw [HTL.out]; exact Strs.nil _ _
        have v5 := v3
        have r5 := r3
        have B5 := B3
        clear v3 r3 B3
        refine (implVersionOk_any z0 z1 z2 _ (tailL s.data.toList) _ (RdS.of_strs hS5) (tail_sm HSZ.out)).mono ?_
        obtain ⟨ok, HO⟩ : ∃ ok, Hid (verOk z0 z1 z2 (tailL s.data.toList) = ok) := ⟨_, Lib.hid rfl⟩
        rw [HO.out]
        rintro e w6 ⟨rfl, hb6⟩
        have v6 := keepB v5 hb6
        have r6 := keepB r5 hb6
        have B6 := B5.trans (hb6.mono B5.size)
        have hS6 := hS5.below hb6
        have hw := hS5.owned
        have HOK : Hid (readOk s.data.toList = ok) := Lib.hid (by rw [HR.out, HZ0.out, HZ1.out, HZ2.out]; exact HO.out)
        clear v5 r5 B5 hS5 hb6
        cases ok
        · skip
          obtain ⟨q0, q1, q2, q3⟩ := cells4 r6
          have f0 := frozen4 r6 0
          have f1 := frozen4 r6 1
          have f2 := frozen4 r6 2
          have f3 := frozen4 r6 3
          go_wp2_with fail
          refine bodyPost_ret (v := .tuple #[.agg #[.int .i64 0, .int .i64 0, .int .i64 0, .slice none 0 0], .bool false]) ?_ rfl (readIs_bad HOK.out (below_result B6 (by omega) _ _ _ _))
          simp [results, Tryz.results53, go_sem, q0, q1, q2, q3]
        · skip
          obtain ⟨p0', p1', p2', p3'⟩ := cells4 v6
          obtain ⟨q0, q1, q2, q3⟩ := cells4 r6
          have f0 := frozen4 r6 0
          have f1 := frozen4 r6 1
          have f2 := frozen4 r6 2
          have f3 := frozen4 r6 3
          go_wp2_with fail
          refine bodyPost_ret (v := .tuple #[.agg #[.int .i64 (z0), .int .i64 (z1), .int .i64 (z2), .slice none 0 0], .bool true]) ?_ rfl (by rw [← HZ0.out, ← HZ1.out, ← HZ2.out]; exact readIs_good HPP.out HOK.out (strs_result (hS6.weaken (by omega)) (fun g h => by have := hw g h; omega) _ _ _ _) (below_result B6 (by omega) _ _ _ _))
          simp [results, Tryz.results53, go_sem, q0, q1, q2, q3]
    · have HOK := Lib.hid (readOk_bad h3)
      have q9 : (((partsL s.data.toList).length : Int) != 3) = true := int_bne_true (by omega)
      clear h3
      obtain ⟨q0, q1, q2, q3⟩ := cells4 r2
      have f0 := frozen4 r2 0
      have f1 := frozen4 r2 1
      have f2 := frozen4 r2 2
      have f3 := frozen4 r2 3
      go_wp2_with fail
      refine bodyPost_ret (v := .tuple #[.agg #[.int .i64 0, .int .i64 0, .int .i64 0, .slice none 0 0], .bool false]) ?_ rfl (readIs_bad HOK.out (below_result B2 (by omega) _ _ _ _))
      simp [results, Tryz.results53, go_sem, q0, q1, q2, q3]
end Go.Proofs.YtcfkhfbhmjfhdaaGreatDoor

/-
  strings.Join, as the library lays it, at this seat.
-/
namespace Go.Proofs
open Go.Shelf
def Tryz.laysJoin_ren : Go.Shelf.Ren := ⟨fun | 156 => 85 | 165 => 116 | 166 => 117 | 169 => 118 | 240 => 130 | 241 => 131 | 276 => 140 | 277 => 141 | n => n, fun | 31 => 22 | 9 => 9 | 3 => 3 | 4 => 4 | 0 => 0 | 20 => 20 | 72 => 136 | 76 => 140 | 70 => 134 | 37 => 72 | 75 => 139 | 127 => 156 | 164 => 162 | 5 => 5 | 80 => 142 | n => n, fun | n => n⟩
theorem Tryz.laysJoin : Go.Proofs.Lays.n156 Tryz.prog Tryz.laysJoin_ren := {
  mixed := by kernel_rfl
  f156 := Tryz.func85.trans (congrArg some (by kernel_rfl))
  f165 := Tryz.func116.trans (congrArg some (by kernel_rfl))
  f166 := Tryz.func117.trans (congrArg some (by kernel_rfl))
  f169 := Tryz.func118.trans (congrArg some (by kernel_rfl))
  f240 := Tryz.func130.trans (congrArg some (by kernel_rfl))
  f241 := Tryz.func131.trans (congrArg some (by kernel_rfl))
  f276 := Tryz.func140.trans (congrArg some (by kernel_rfl))
  f277 := Tryz.func141.trans (congrArg some (by kernel_rfl))
  t0 := Tryz.underlying0
  a0 := Tryz.isAgg0
  z0 := Tryz.sizeOf0
  v0 := Tryz.zeroValue0
  t3 := Tryz.underlying3
  a3 := Tryz.isAgg3
  z3 := Tryz.sizeOf3
  v3 := Tryz.zeroValue3
  t4 := Tryz.underlying4
  a4 := Tryz.isAgg4
  z4 := Tryz.sizeOf4
  v4 := Tryz.zeroValue4
  t9 := Tryz.underlying9
  a9 := Tryz.isAgg9
  z9 := Tryz.sizeOf9
  v9 := Tryz.zeroValue9
  t20 := Tryz.underlying20
  a20 := Tryz.isAgg20
  z20 := Tryz.sizeOf20
  v20 := Tryz.zeroValue20
  t31 := Tryz.underlying22
  a31 := Tryz.isAgg22
  z31 := Tryz.sizeOf22
  v31 := Tryz.zeroValue22
  t37 := Tryz.underlying72
  a37 := Tryz.isAgg72
  z37 := Tryz.sizeOf72
  v37 := Tryz.zeroValue72
  t70 := Tryz.underlying134
  a70 := Tryz.isAgg134
  z70 := Tryz.sizeOf134
  v70 := Tryz.zeroValue134
  t72 := Tryz.underlying136
  a72 := Tryz.isAgg136
  z72 := Tryz.sizeOf136
  v72 := Tryz.zeroValue136
  t75 := Tryz.underlying139
  a75 := Tryz.isAgg139
  z75 := Tryz.sizeOf139
  v75 := Tryz.zeroValue139
  t76 := Tryz.underlying140
  a76 := Tryz.isAgg140
  z76 := Tryz.sizeOf140
  v76 := Tryz.zeroValue140
  t127 := Tryz.underlying156
  a127 := Tryz.isAgg156
  z127 := Tryz.sizeOf156
  v127 := Tryz.zeroValue156
  t164 := Tryz.underlying162
  a164 := Tryz.isAgg162
  z164 := Tryz.sizeOf162
  v164 := Tryz.zeroValue162 }
end Go.Proofs

/-
  strings.Join of a list of texts at a dot.
-/
namespace Go.Proofs
open Go.Shelf
theorem Tryz.extraJoin : Builder.Extra Tryz.prog Tryz.laysJoin_ren where
  sizeBuilder := by kernel_rfl
  liesBuilder := by kernel_rfl
  t5 := Tryz.underlying5
  a5 := Tryz.isAgg5
  z5 := Tryz.sizeOf5
  v5 := Tryz.zeroValue5
  infoByte := by kernel_rfl
  cellsByte := by kernel_rfl
  sizeByte := by kernel_rfl
  neB5 := by decide
namespace YtcfkhfbhmjfhdaaGreatDoor
open Go.RowKit

theorem inter_flat (x : List UInt8) : ∀ xs : List (List UInt8), Lib.join (x :: xs) [46] = x ++ xs.flatMap (fun y => 46 :: y)
  | [] => by simp [Lib.join, List.intercalate]
  | y :: ys => by
    have := inter_flat y ys
    unfold Lib.join at this ⊢
    simp [List.intercalate] at this ⊢
    rw [this]
theorem join_pre {ls : List (List UInt8)} (h : ls ≠ []) : preText ls = 45 :: Lib.join ls [46] := by
  cases ls with
  | nil => exact absurd rfl h
  | cons x xs => rw [inter_flat]; rfl
theorem flat_len (ls : List (List UInt8)) (h : ∀ l ∈ ls, l.length ≤ 20) : (ls.flatMap (fun y => (46 : UInt8) :: y)).length ≤ 21 * ls.length := by
  induction ls with
  | nil => simp
  | cons x xs ih =>
    have := ih (fun l hl => h l (by simp [hl]))
    have := h x (by simp)
    simp only [List.flatMap_cons, List.length_append, List.length_cons]
    omega
theorem join_len {ls : List (List UInt8)} (h : ∀ l ∈ ls, l.length ≤ 20) (h5 : ls.length ≤ 5) : (Lib.join ls [46]).length ≤ 200 := by
  cases ls with
  | nil => simp [Lib.join_nil]
  | cons x xs =>
    rw [inter_flat]
    have := flat_len xs (fun l hl => h l (by simp [hl]))
    have := h x (by simp)
    simp at h5
    rw [List.length_append]
    omega

theorem joinDot_any (w : World) (base g cap : Nat) (ls : List (List UInt8)) (h : Strs w base (.slice (some ⟨g, 0, none⟩) ls.length cap) ls) (h20 : ∀ l ∈ ls, l.length ≤ 20) (h5 : ls.length ≤ 5) :
    Calls Tryz.prog 85 #[.slice (some ⟨g, 0, none⟩) ls.length cap, .string ⟨#[46]⟩] w fun e w' => e = .returned (.string ⟨(Lib.join ls [46]).toArray⟩) ∧ Below w.heap.size w w' := by
  obtain ⟨hlen, hr⟩ := h
  have hS : Strs w base (.slice (some ⟨g, 0, none⟩) ls.length cap) ls := ⟨hlen, hr⟩
  have hcap : ls.length ≤ cap := by
    rcases hr with ⟨hv, _⟩ | ⟨g', cap', cur, hv, _, _, hc, _⟩
    · cases hv
    · simp only [Value.slice.injEq] at hv; omega
  have hg : g < w.heap.size := by
    rcases hS.form with ⟨h', _⟩ | ⟨g', cap', h', _, hg'⟩
    · cases h'
    · simp only [Value.slice.injEq, Option.some.injEq, Addr.mk.injEq, and_true] at h'
      rw [h'.1]; exact hg'
  have hm : (ls.map (fun l => (⟨l.toArray⟩ : ByteArray))).map (fun x => x.data.toList) = ls := by rw [List.map_map]; exact List.map_id'' (fun l => rfl) ls
  have hJ := Any.strings_Join Tryz.laysJoin Tryz.extraJoin g 0 cap (ls.map (fun l => (⟨l.toArray⟩ : ByteArray))) ⟨#[46]⟩ w (fun j x hx => by
      rw [List.getElem?_map] at hx
      cases hj : ls[j]? with
      | none => rw [hj] at hx; simp at hx
      | some y =>
        rw [hj] at hx
        simp at hx
        subst hx
        obtain ⟨hl, rfl⟩ := List.getElem?_eq_some_iff.1 hj
        rw [Nat.zero_add]
        exact hS.cell j hl) hg (by simp; omega) (by simpa using hcap) (by rw [hm]; have := join_len h20 h5; show (Lib.join ls [46]).length ≤ _; omega)
  rw [hm] at hJ
  have e : (ls.map (fun l => (⟨l.toArray⟩ : ByteArray))).length = ls.length := by simp
  rw [e] at hJ
  exact hJ
end YtcfkhfbhmjfhdaaGreatDoor
end Go.Proofs

/-
  strconv.Itoa, as the library lays it, at this seat.
-/
namespace Go.Proofs
open Go.Shelf
def Tryz.laysItoa_ren : Go.Shelf.Ren := ⟨fun | 171 => 115 | 243 => 129 | 246 => 139 | 283 => 144 | 284 => 145 | 285 => 146 | 286 => 147 | 129 => 111 | 317 => 148 | 318 => 149 | 319 => 150 | 320 => 151 | 337 => 152 | 338 => 153 | n => n, fun | 3 => 3 | 9 => 9 | 2 => 2 | 4 => 4 | 171 => 167 | 0 => 0 | 53 => 132 | 37 => 72 | 5 => 5 | 173 => 169 | 212 => 172 | 51 => 130 | 20 => 20 | 213 => 173 | 46 => 104 | 232 => 174 | 233 => 175 | n => n, fun | 17 => 1 | 18 => 2 | 19 => 3 | n => n⟩
theorem Tryz.laysItoa : Go.Proofs.LaysM.n171 Tryz.prog Tryz.laysItoa_ren := {
  mixed := by kernel_rfl
  f129 := Tryz.func111.trans (congrArg some (by kernel_rfl))
  f171 := Tryz.func115.trans (congrArg some (by kernel_rfl))
  f243 := Tryz.func129.trans (congrArg some (by kernel_rfl))
  f246 := Tryz.func139.trans (congrArg some (by kernel_rfl))
  f283 := Tryz.func144.trans (congrArg some (by kernel_rfl))
  f284 := Tryz.func145.trans (congrArg some (by kernel_rfl))
  f285 := Tryz.func146.trans (congrArg some (by kernel_rfl))
  f286 := Tryz.func147.trans (congrArg some (by kernel_rfl))
  f317 := Tryz.func148.trans (congrArg some (by kernel_rfl))
  f318 := Tryz.func149.trans (congrArg some (by kernel_rfl))
  f319 := Tryz.func150.trans (congrArg some (by kernel_rfl))
  f320 := Tryz.func151.trans (congrArg some (by kernel_rfl))
  f337 := Tryz.func152.trans (congrArg some (by kernel_rfl))
  f338 := Tryz.func153.trans (congrArg some (by kernel_rfl))
  t0 := Tryz.underlying0
  a0 := Tryz.isAgg0
  z0 := Tryz.sizeOf0
  v0 := Tryz.zeroValue0
  t2 := Tryz.underlying2
  a2 := Tryz.isAgg2
  z2 := Tryz.sizeOf2
  v2 := Tryz.zeroValue2
  t3 := Tryz.underlying3
  a3 := Tryz.isAgg3
  z3 := Tryz.sizeOf3
  v3 := Tryz.zeroValue3
  t4 := Tryz.underlying4
  a4 := Tryz.isAgg4
  z4 := Tryz.sizeOf4
  v4 := Tryz.zeroValue4
  t5 := Tryz.underlying5
  a5 := Tryz.isAgg5
  z5 := Tryz.sizeOf5
  v5 := Tryz.zeroValue5
  t9 := Tryz.underlying9
  a9 := Tryz.isAgg9
  z9 := Tryz.sizeOf9
  v9 := Tryz.zeroValue9
  t20 := Tryz.underlying20
  a20 := Tryz.isAgg20
  z20 := Tryz.sizeOf20
  v20 := Tryz.zeroValue20
  t37 := Tryz.underlying72
  a37 := Tryz.isAgg72
  z37 := Tryz.sizeOf72
  v37 := Tryz.zeroValue72
  t46 := Tryz.underlying104
  a46 := Tryz.isAgg104
  z46 := Tryz.sizeOf104
  v46 := Tryz.zeroValue104
  t51 := Tryz.underlying130
  a51 := Tryz.isAgg130
  z51 := Tryz.sizeOf130
  v51 := Tryz.zeroValue130
  t53 := Tryz.underlying132
  a53 := Tryz.isAgg132
  z53 := Tryz.sizeOf132
  v53 := Tryz.zeroValue132
  t171 := Tryz.underlying167
  a171 := Tryz.isAgg167
  z171 := Tryz.sizeOf167
  v171 := Tryz.zeroValue167
  t173 := Tryz.underlying169
  a173 := Tryz.isAgg169
  z173 := Tryz.sizeOf169
  v173 := Tryz.zeroValue169
  t212 := Tryz.underlying172
  a212 := Tryz.isAgg172
  z212 := Tryz.sizeOf172
  v212 := Tryz.zeroValue172
  t213 := Tryz.underlying173
  a213 := Tryz.isAgg173
  z213 := Tryz.sizeOf173
  t232 := Tryz.underlying174
  a232 := Tryz.isAgg174
  z232 := Tryz.sizeOf174
  v232 := Tryz.zeroValue174
  t233 := Tryz.underlying175
  a233 := Tryz.isAgg175
  z233 := Tryz.sizeOf175
  v233 := Tryz.zeroValue175
  g17 := by kernel_rfl
  g18 := by kernel_rfl
  g19 := by kernel_rfl
  i0 := by kernel_rfl
  i2 := by kernel_rfl
  i3 := by kernel_rfl
  i4 := by kernel_rfl
  i5 := by kernel_rfl
  i9 := by kernel_rfl
  i20 := by kernel_rfl
  i37 := by kernel_rfl
  i46 := by kernel_rfl
  i51 := by kernel_rfl
  i53 := by kernel_rfl
  i171 := by kernel_rfl
  i173 := by kernel_rfl
  i212 := by kernel_rfl
  i232 := by kernel_rfl
  i233 := by kernel_rfl
  m17 := by kernel_rfl
  m18 := by kernel_rfl
  m19 := by kernel_rfl }
end Go.Proofs

/-
  impl.DecText returns the decimal text of every int, where the table of powers lies as the library lays it.
-/
namespace Go.Proofs.YtcfkhfbhmjfhdaaGreatDoor
open Go.RowKit

theorem itoa_any (n : Int) (h0 : -9223372036854775808 ≤ n) (h1 : n ≤ 9223372036854775807) (w : World) (htab : Lib.TabIs Tryz.prog w "internal/strconv.uint64pow10" .u64 Lib.pow10Tab) :
    Calls Tryz.prog 115 #[.int .i64 n] w fun e w' => e = .returned (.string ⟨(Lib.itoa n).toArray⟩) ∧ Below w.heap.size w w' := by
  refine (Any.strconv_Itoa Tryz.laysItoa n h0 h1 w htab).mono ?_
  rintro e w' ⟨rfl, k, os, rfl⟩
  exact ⟨rfl, Lib.below_grow _ w (Nat.le_refl _) k os⟩
theorem implDecText_any (n : Int) (h0 : -9223372036854775808 ≤ n) (h1 : n ≤ 9223372036854775807) (w : World) (htab : Lib.TabIs Tryz.prog w "internal/strconv.uint64pow10" .u64 Lib.pow10Tab) :
    Calls Tryz.prog 84 #[.int .i64 n] w fun e w' => e = .returned (.string ⟨(Lib.itoa n).toArray⟩) ∧ Below w.heap.size w w' := by
  go_enter Tryz.func84, Tryz.ntmps84
  go_wp2_with fail
  refine (itoa_any n h0 h1 w htab).mono ?_
  rintro e w1 ⟨rfl, hb⟩
  go_wp2_with fail
  go_ret
  exact ⟨rfl, hb⟩
end Go.Proofs.YtcfkhfbhmjfhdaaGreatDoor

/-
  impl.VersionText: the text of a version.
-/
namespace Go.Proofs.YtcfkhfbhmjfhdaaGreatDoor
open Go.RowKit

/-- The table of powers lies as the library lays it. -/
abbrev Tab (w : World) : Prop := Lib.TabIs Tryz.prog w "internal/strconv.uint64pow10" .u64 Lib.pow10Tab
theorem tab_below {w w' : World} (h : Tab w) (hb : Below w.heap.size w w') : Tab w' := by
  unfold Tab Lib.TabIs World.var? at h ⊢
  have hg : Tryz.prog.globalNamed "internal/strconv.uint64pow10" = some 1 := by kernel_rfl
  simp only [hg, Option.bind_some] at h ⊢
  have hlt : 1 < w.heap.size := by
    rcases Nat.lt_or_ge 1 w.heap.size with h' | h'
    · exact h'
    · rw [Array.getElem?_eq_none h'] at h; simp at h
  rw [hb.block _ hlt]
  exact h
/-- Three cells and the table, in a later world. -/
theorem keepT {W V : World} {A : Nat} {v0 v1 v2 : Value} (hb : Below W.heap.size W V) (h : W.cell? ⟨A, 0, none⟩ = some v0 ∧ W.cell? ⟨A, 1, none⟩ = some v1 ∧ W.cell? ⟨A, 2, none⟩ = some v2 ∧ Tab W) : V.cell? ⟨A, 0, none⟩ = some v0 ∧ V.cell? ⟨A, 1, none⟩ = some v1 ∧ V.cell? ⟨A, 2, none⟩ = some v2 ∧ Tab V :=
  ⟨keepC hb h.1, keepC hb h.2.1, keepC hb h.2.2.1, tab_below h.2.2.2 hb⟩

set_option maxRecDepth 100000 in
set_option maxHeartbeats 4000000 in
theorem implVersionText_any (a b c : Int) (base : Nat) (v : Value) (ls : List (List UInt8)) (w : World) (hr : Strs w base v ls) (hs : Sm ls) (ht : Tab w) :
    Calls Tryz.prog 56 #[.agg #[.int .i64 a, .int .i64 b, .int .i64 c, v]] w fun e w' => e = .returned (.string ⟨(verText a b c ls).toArray⟩) ∧ Below w.heap.size w w' := by
  have HV := Lib.hid (fun (W : World) (h : Below w.heap.size w W) => implVersionOk_any a b c v ls W ((RdS.of_strs hr).below h) hs)
  have B1 : Below w.heap.size w (w.alloc (.cells #[.int .i64 a, .int .i64 b, .int .i64 c, v] 74)) := (Below.refl _ _).alloc (Nat.le_refl _) _
  have hA1 := heap_alloc_new w (.cells #[.int .i64 a, .int .i64 b, .int .i64 c, v] 74)
  have HSS := Lib.hid (fun (W : World) (h : Below w.heap.size w W) => hr.below h)
  have HTT := Lib.hid (fun (W : World) (h : Below w.heap.size w W) => tab_below ht h)
  obtain ⟨ok, HO⟩ : ∃ ok, Hid (verOk a b c ls = ok) := ⟨_, Lib.hid rfl⟩
  have hl := hs.1
  have hform := hr.form
  clear hr hs ht
  cases ok
  · have HT : Hid (verText a b c ls = []) := Lib.hid (by unfold verText; rw [HO.out]; rfl)
    go_enter Tryz.func56, Tryz.ntmps56
    go_wp2_with fail
    refine (HV.out _ B1).mono ?_
    rw [HO.out]
    rintro e w2 ⟨rfl, hb2⟩
    have B2 := B1.trans (hb2.mono B1.size)
    go_wp2_with fail
    go_ret
    exact ⟨ret_str HT.out.symm, B2⟩
  · obtain ⟨⟨a0, a1⟩, ⟨b0, b1⟩, ⟨c0, c1⟩, h5⟩ := verOk_num HO.out
    have HLE := Lib.hid (verOk_len HO.out)
    have la := dec_len a0 a1
    have lb := dec_len b0 b1
    have lc := dec_len c0 c1
    have HT : Hid (verText a b c ls = nums a b c ++ preText ls) := Lib.hid (by unfold verText; rw [HO.out]; rfl)
    go_enter Tryz.func56, Tryz.ntmps56
    go_wp2_with fail
    refine (HV.out _ B1).mono ?_
    rw [HO.out]
    rintro e w2 ⟨rfl, hb2⟩
    have B2 := B1.trans (hb2.mono B1.size)
    have hA2 := keepB hA1 hb2
    clear hA1 hb2 B1
    obtain ⟨p0, p1, p2, p3⟩ := cells4 hA2
    have tb : Tab w2.drew := HTT.out _ (B2.trans (below_drew _ _))
    obtain ⟨Da, HDa⟩ : ∃ D, Hid (dec a = D) := ⟨_, Lib.hid rfl⟩
    obtain ⟨Db, HDb⟩ : ∃ D, Hid (dec b = D) := ⟨_, Lib.hid rfl⟩
    obtain ⟨Dc, HDc⟩ : ∃ D, Hid (dec c = D) := ⟨_, Lib.hid rfl⟩
    rw [HDa.out] at la
    rw [HDb.out] at lb
    rw [HDc.out] at lc
    obtain ⟨N1, HN1⟩ : ∃ N, Hid (N = Da ++ [46]) := ⟨_, Lib.hid rfl⟩
    obtain ⟨N2, HN2⟩ : ∃ N, Hid (N = N1 ++ Db) := ⟨_, Lib.hid rfl⟩
    obtain ⟨N3, HN3⟩ : ∃ N, Hid (N = N2 ++ [46]) := ⟨_, Lib.hid rfl⟩
    obtain ⟨N4, HN4⟩ : ∃ N, Hid (N = N3 ++ Dc) := ⟨_, Lib.hid rfl⟩
    have l1 : N1.length ≤ 21 := by rw [HN1.out]; simp; omega
    have l2 : N2.length ≤ 41 := by rw [HN2.out]; simp; omega
    have l3 : N3.length ≤ 42 := by rw [HN3.out]; simp; omega
    have l4 : N4.length ≤ 62 := by rw [HN4.out]; simp; omega
    have HNN : Hid (nums a b c = N4) := Lib.hid (by rw [HN4.out, HN3.out, HN2.out, HN1.out]; unfold nums; rw [HDa.out, HDb.out, HDc.out])
    have s1 : ∀ W, (Op.stringOp .add ⟨Da.toArray⟩ ⟨#[46]⟩).run Tryz.prog W = .ok (.string ⟨N1.toArray⟩) W := fun W => by rw [HN1.out]; exact run_string_add_lists W Da [46] (by omega) (by simp)
    have s2 : ∀ W, (Op.stringOp .add ⟨N1.toArray⟩ ⟨Db.toArray⟩).run Tryz.prog W = .ok (.string ⟨N2.toArray⟩) W := fun W => by rw [HN2.out]; exact run_string_add_lists W N1 Db (by omega) (by omega)
    have s3 : ∀ W, (Op.stringOp .add ⟨N2.toArray⟩ ⟨#[46]⟩).run Tryz.prog W = .ok (.string ⟨N3.toArray⟩) W := fun W => by rw [HN3.out]; exact run_string_add_lists W N2 [46] (by omega) (by simp)
    have s4 : ∀ W, (Op.stringOp .add ⟨N3.toArray⟩ ⟨Dc.toArray⟩).run Tryz.prog W = .ok (.string ⟨N4.toArray⟩) W := fun W => by rw [HN4.out]; exact run_string_add_lists W N3 Dc (by omega) (by omega)
    have HDT1 := Lib.hid (fun (W : World) (ht : Tab W) => (show Calls Tryz.prog 84 #[.int .i64 a] W fun e w' => e = .returned (.string ⟨Da.toArray⟩) ∧ Below W.heap.size W w' from HDa.out ▸ implDecText_any a (by omega) (by omega) W ht))
    have HDT2 := Lib.hid (fun (W : World) (ht : Tab W) => (show Calls Tryz.prog 84 #[.int .i64 b] W fun e w' => e = .returned (.string ⟨Db.toArray⟩) ∧ Below W.heap.size W w' from HDb.out ▸ implDecText_any b (by omega) (by omega) W ht))
    have HDT3 := Lib.hid (fun (W : World) (ht : Tab W) => (show Calls Tryz.prog 84 #[.int .i64 c] W fun e w' => e = .returned (.string ⟨Dc.toArray⟩) ∧ Below W.heap.size W w' from HDc.out ▸ implDecText_any c (by omega) (by omega) W ht))
    go_wp2_with fail
    go_region_held3 (fun W' => W'.cell? ⟨w.heap.size, 0, none⟩ = some (.int .i64 a) ∧ W'.cell? ⟨w.heap.size, 1, none⟩ = some (.int .i64 b) ∧ W'.cell? ⟨w.heap.size, 2, none⟩ = some (.int .i64 c) ∧ Tab W') (first | exact ⟨p0, p1, p2, tb⟩ | assumption | exact keepT hb5 (by assumption) | exact keepT hb4 (by assumption) | exact keepT hb3 (by assumption)) ((first | (go_at_call 84; (with_reducible refine (HDT1.out _ (by exact tb)).mono ?_); rintro e w3 ⟨rfl, hb3⟩; have tb3 := tab_below tb hb3) | (go_at_call 84; (with_reducible refine (HDT2.out _ (by exact tb3)).mono ?_); rintro e w4 ⟨rfl, hb4⟩; have tb4 := tab_below tb3 hb4) | (go_at_call 84; (with_reducible refine (HDT3.out _ (by exact tb4)).mono ?_); rintro e w5 ⟨rfl, hb5⟩)))
    have hA5 := keepB (keepB (keepB (W := w2.drew) hA2 hb3) hb4) hb5
    have BD := B2.trans (below_drew w.heap.size w2)
    have B3 := BD.trans (hb3.mono BD.size)
    have B4 := B3.trans (hb4.mono B3.size)
    have B5 := B4.trans (hb5.mono B4.size)
    clear hA2 p0 p1 p2 p3 hb3 hb4 hb5 BD B3 B4 tb tb3 tb4 s1 s2 s3 s4 B2
    obtain ⟨p0, p1, p2, p3⟩ := cells4 hA5
    rcases hform with ⟨rfl, rfl⟩ | ⟨g, cap, rfl, hgb, hgl⟩
    · have HE : Hid (verText a b c [] = N4) := Lib.hid (by rw [HT.out, HNN.out]; simp [preText])
      go_wp2_with fail
      go_ret
      exact ⟨ret_str HE.out.symm, B5⟩
    · by_cases h0 : ls = []
      · have HE : Hid (verText a b c ls = N4) := Lib.hid (by rw [HT.out, HNN.out, h0]; simp [preText])
        have z0 : ¬ (0 : Int) < (ls.length : Int) := by rw [h0]; simp
        clear h0
        go_wp2_with fail
        go_ret
        exact ⟨ret_str HE.out.symm, B5⟩
      · have hpos : (0 : Int) < (ls.length : Int) := by have : 0 < ls.length := by cases ls <;> simp_all
                                                        omega
        have HE : Hid (verText a b c ls = N4 ++ (45 :: Lib.join ls [46])) := Lib.hid (by rw [HT.out, HNN.out, join_pre h0])
        have hjl := join_len HLE.out h5
        clear h0
        obtain ⟨J, HJ⟩ : ∃ J, Hid (Lib.join ls [46] = J) := ⟨_, Lib.hid rfl⟩
        rw [HJ.out] at hjl
        go_wp2_with fail
        refine (joinDot_any w5 base g cap ls (HSS.out _ B5) HLE.out h5).mono ?_
        rw [HJ.out]
        rintro e w6 ⟨rfl, hb6⟩
        have B6 := B5.trans (hb6.mono B5.size)
        go_wp2_with fail
        go_ret
        refine ⟨?_, B6⟩
        rw [HE.out, HJ.out]
        exact congrArg Ending.returned (congrArg Value.string (bytes_ext (by simp)))
end Go.Proofs.YtcfkhfbhmjfhdaaGreatDoor

/-
  impl.SortVersions: the versions of a list, in order, each once.
-/
namespace Go.Proofs.YtcfkhfbhmjfhdaaGreatDoor
open Go.RowKit

theorem filter_take {ls : List (List UInt8)} {k : Nat} (h : k < ls.length) : (ls.take (k + 1)).filter readOk = (ls.take k).filter readOk ++ (if readOk ls[k] = true then [ls[k]] else []) := by
  rw [List.take_succ_eq_append_getElem h, List.filter_append]
  congr 1
  by_cases hk : readOk ls[k] = true
  · rw [if_pos hk]; simp [hk]
  · rw [if_neg hk]; simp [hk]
theorem readP_Sm' {l : List UInt8} (h : l.length ≤ 1048576) : Sm (readP l) := by
  unfold readP; split
  · exact tail_sm h
  · exact sm_nil

set_option maxRecDepth 100000 in
set_option maxHeartbeats 4000000 in
theorem implSortVersions_any (v : Value) (ls : List (List UInt8)) (w : World) (hr : RdS w v ls) (hs : Sm ls) (ht : Tab w) :
    Calls Tryz.prog 36 #[v] w fun e w' => ∃ g c out, e = .returned (.slice (some ⟨g, 0, none⟩) out.length c) ∧ Strs w' w.heap.size (.slice (some ⟨g, 0, none⟩) out.length c) out ∧ SortOf ls out ∧ Below w.heap.size w w' := by
  have HR := Lib.hid hr
  have HTB := Lib.hid (fun (W : World) (hb : Below w.heap.size w W) => tab_below ht hb)
  obtain ⟨A, ca, rfl, ha⟩ := hr
  have hn := hs.1
  have HS := Lib.hid hs.2
  clear ha hs ht
  have V0 : VerRow (w.alloc (.cells #[] 74)) w.heap.size (.slice (some ⟨w.heap.size, 0, none⟩) 0 0) [] := ⟨Vers.empty w _ (Nat.le_refl _), fun x hx => by cases hx⟩
  have B0 : Below w.heap.size w (w.alloc (.cells #[] 74)) := (Below.refl _ _).alloc (Nat.le_refl _) _
  go_enter Tryz.func36, Tryz.ntmps36
  go_wp2_with fail
  go_loopw [3, 5, 6, 7, 14] (fun o _ _ _ i wr => ∃ (k : Nat) (X : List VI) (g c : Nat), k ≤ ls.length ∧ i = .int .i64 k ∧ o = .slice (some ⟨g, 0, none⟩) X.length c ∧ VerRow wr w.heap.size (.slice (some ⟨g, 0, none⟩) X.length c) X ∧ Hid (X.map Prod.fst = (ls.take k).filter readOk) ∧ Below w.heap.size w wr) (fun _ _ _ _ i _ => ls.length - (intOf i).toNat)
  case atStart => exact ⟨0, [], _, _, Nat.zero_le _, rfl, rfl, V0, Lib.hid (by simp), B0⟩
  case round =>
    obtain ⟨k, X, g, c, hk, rfl, rfl, hX, HX, hb⟩ := hrel
    have lX : X.length ≤ k := by
      have := congrArg List.length HX.out
      rw [List.length_map] at this
      rw [this]
      exact Nat.le_trans (List.length_filter_le _ _) (by simp; omega)
    by_cases hlt : k < ls.length
    · have k0 : (0 : Int) ≤ (k : Int) := by omega
      have k1 : (k : Int) < (ls.length : Int) := by omega
      have HLK := Lib.hid (HS.out ls[k] (List.getElem_mem hlt))
      have HFT := Lib.hid (filter_take hlt)
      obtain ⟨A', ca', hv, ha⟩ := HR.out.below hb
      simp only [Value.slice.injEq] at hv
      obtain ⟨rfl, _, rfl⟩ := hv
      obtain ⟨gl, off, rfl, hgl, hca⟩ := ha (by omega)
      have d1 : wr.cell? ⟨gl, off + k, none⟩ = some (.string ⟨ls[k].toArray⟩) := hca k hlt
      obtain ⟨ok, HOK⟩ : ∃ z, Hid (readOk (⟨ls[k].toArray⟩ : ByteArray).data.toList = z) := ⟨_, Lib.hid rfl⟩
      obtain ⟨l0, HL0⟩ : ∃ z, Hid (readA (⟨ls[k].toArray⟩ : ByteArray).data.toList 0 = z) := ⟨_, Lib.hid rfl⟩
      obtain ⟨l1, HL1⟩ : ∃ z, Hid (readA (⟨ls[k].toArray⟩ : ByteArray).data.toList 1 = z) := ⟨_, Lib.hid rfl⟩
      obtain ⟨l2, HL2⟩ : ∃ z, Hid (readA (⟨ls[k].toArray⟩ : ByteArray).data.toList 2 = z) := ⟨_, Lib.hid rfl⟩
      clear ha hca V0 B0
      go_wp2_with fail
      refine (implReadVersion_any _ _ (by rw [size_of]; exact HLK.out)).mono ?_
      rintro e w1 ⟨u, rfl, hu, hb1⟩
      have HU : Hid (Strs w1 0 u (readP ls[k])) := Lib.hid (hu.weaken (Nat.zero_le _))
      obtain ⟨uA, uc, hue⟩ := hu.slice
      obtain ⟨m, HM⟩ : ∃ m, Hid ((readP (⟨ls[k].toArray⟩ : ByteArray).data.toList).length = m) := ⟨_, Lib.hid rfl⟩
      rw [HM.out] at hue
      subst hue
      rw [HOK.out, HL0.out, HL1.out, HL2.out]
      have B1 := hb.trans (hb1.mono hb.size)
      have hX1 := hX.below hb1
      clear hX hb1 hu d1
      have B2 := B1.alloc B1.size (.cells #[.int .i64 l0, .int .i64 l1, .int .i64 l2, .slice uA m uc] 74)
      have hX2 := hX1.below ((Below.refl w1.heap.size w1).alloc (Nat.le_refl _) (.cells #[.int .i64 l0, .int .i64 l1, .int .i64 l2, .slice uA m uc] 74))
      cases ok
      · have HX' : Hid (X.map Prod.fst = (ls.take (k + 1)).filter readOk) := Lib.hid (by rw [HFT.out, if_neg (fun h => by have e : readOk ls[k] = false := HOK.out; rw [h] at e; cases e), List.append_nil, HX.out])
        go_wp2_with fail
        go_roundw
        case rel => exact ⟨k + 1, X, g, c, by omega, by go_num, rfl, hX2, HX', B2⟩
        case measure => simp [intOf]; omega
      · have HX' : Hid ((X ++ [(ls[k], Value.slice uA m uc)]).map Prod.fst = (ls.take (k + 1)).filter readOk) := Lib.hid (by rw [HFT.out, if_pos (show readOk ls[k] = true from HOK.out), List.map_append, HX.out]; rfl)
        have B3 := B2.alloc B2.size (.cells #[.int .i64 l0, .int .i64 l1, .int .i64 l2, .slice uA m uc] 74)
        have hX3 := hX2.below ((Below.refl (w1.alloc (.cells #[.int .i64 l0, .int .i64 l1, .int .i64 l2, .slice uA m uc] 74)).heap.size _).alloc (Nat.le_refl _) (.cells #[.int .i64 l0, .int .i64 l1, .int .i64 l2, .slice uA m uc] 74))
        have hU3 := Strs.alloc (Strs.alloc HU.out (.cells #[.int .i64 l0, .int .i64 l1, .int .i64 l2, .slice uA m uc] 74)) (.cells #[.int .i64 l0, .int .i64 l1, .int .i64 l2, .slice uA m uc] 74)
        have h3 := heap_new (W := w1.alloc (.cells #[.int .i64 l0, .int .i64 l1, .int .i64 l2, .slice uA m uc] 74)) (n := w1.heap.size + 1) (by simp) (.cells #[.int .i64 l0, .int .i64 l1, .int .i64 l2, .slice uA m uc] 74)
        have hlX : (X.map cv).length = X.length := by simp
        have B3s := B3.size
        clear B1 B2 hX1 hX2
        go_wp2_with (at_builtin; refine wpList_append_ver rfl _ _ rfl w.heap.size _ _ rfl hX3.1 (w1.heap.size + 1) _ _ _ l0 l1 l2 (.slice uA m uc) rfl rfl h3 (by omega) B3s ?_; intro v4 w4 hV4 hg4)
        have hX4 : VerRow w4 w.heap.size v4 (X ++ [(ls[k], .slice uA m uc)]) := ⟨by
            have e : (X ++ [(ls[k], Value.slice uA m uc)]).map cv = X.map cv ++ [(l0, l1, l2, .slice uA m uc)] := by
              rw [List.map_append]
              show _ ++ [cv (ls[k], .slice uA m uc)] = _
              rw [← HL0.out, ← HL1.out, ← HL2.out]
              rfl
            rw [e]; exact hV4, fun x hx => by
            rcases List.mem_append.1 hx with hx | hx
            · exact (hX3.2 x hx).grownV hX3.1 hg4
            · simp at hx; subst hx; exact hU3.grownV hX3.1 hg4⟩
        have B4 : Below w.heap.size w w4 := Below.grown B3 hg4 B3s hX3.1.owned
        obtain ⟨g4, c4, hv4, _⟩ : ∃ g c, v4 = .slice (some ⟨g, 0, none⟩) (X ++ [(ls[k], Value.slice uA m uc)]).length c ∧ True := by
          rcases hX4.1.form with ⟨_, h⟩ | ⟨g, c, h, _⟩
          · simp at h
          · exact ⟨g, c, by simpa using h, trivial⟩
        subst hv4
        clear hX3 hU3 h3 B3 hV4 hg4
        go_wp2_with fail
        go_roundw
        case rel => exact ⟨k + 1, X ++ [(ls[k], .slice uA m uc)], g4, c4, by omega, by go_num, rfl, hX4, HX', B4⟩
        case measure => simp [intOf]; omega
    · have HXA : Hid (X.map Prod.fst = ls.filter readOk) := Lib.hid (by rw [HX.out, List.take_of_length_le (by omega)])
      have HMX : Hid (∀ x ∈ X, x.1 ∈ ls ∧ readOk x.1 = true) := Lib.hid (fun x hx => by
        have : x.1 ∈ X.map Prod.fst := List.mem_map.2 ⟨x, hx, rfl⟩
        rw [HXA.out] at this
        exact List.mem_filter.1 this)
      have HSX : Hid (∀ x ∈ X, Sm (readP x.1)) := Lib.hid (fun x hx => readP_Sm' (HS.out _ (HMX.out x hx).1))
      have hlX : X.length ≤ 1048576 := by omega
      obtain ⟨i0, hi, hz0, hz1, hz2⟩ := info_parts strinfo
      clear V0 B0
      go_wp2_with fail
      refine (sortFunc_any wr w.heap.size g c X hX hlX HSX.out).mono ?_
      rintro e w5 ⟨rfl, Y, hperm, hsort, hRV, hb5⟩
      have B5 := hb.trans hb5
      have hlY : Y.length = X.length := hperm.length_eq
      have HRV := Lib.hid hRV
      have HPM := Lib.hid hperm
      have HST := Lib.hid hsort
      clear hX hb hb5 hRV hperm hsort
      go_wp2_with (at_make; refine wpList_make_own _ rfl _ _ 22 rfl w5.heap.size 9 i0 (.string ⟨#[]⟩) 1 Tryz.underlying22 hi hz0 hz1 .i64 .i64 _ X.length rfl rfl rfl (by rw [hz2]; omega) (by unfold maxLen; omega) (Nat.le_refl _) ?_; intro w6 hown6 hg6)
      have hS6 : Strs w6 w5.heap.size (.slice (some ⟨w5.heap.size, 0, none⟩) 0 X.length) [] := hown6
      have hb6 : Below w5.heap.size w5 w6 := (Below.refl _ _).grown hg6 (Nat.le_refl _) (by simp)
      clear hown6 hg6 hi hz0 hz1 hz2
      go_loopw [8, 10, 36] (fun o _ i wr => ∃ k g2 c2 : Nat, k ≤ Y.length ∧ i = .int .i64 k ∧ o = .slice (some ⟨g2, 0, none⟩) k c2 ∧ Strs wr w5.heap.size (.slice (some ⟨g2, 0, none⟩) k c2) ((Y.take k).map Prod.fst) ∧ Below w5.heap.size w5 wr) (fun _ _ i _ => Y.length - (intOf i).toNat)
      case atStart => exact ⟨0, _, _, Nat.zero_le _, rfl, rfl, by simpa using hS6, hb6⟩
      case round =>
        obtain ⟨j, g2, c2, hj, rfl, rfl, hS, hb⟩ := hrel
        have B7 := B5.trans (hb.mono B5.size)
        have LM : Hid (((Y.take j).map Prod.fst).length = j) := Lib.hid (by simp; omega)
        by_cases hlt : j < Y.length
        · have k0 : (0 : Int) ≤ (j : Int) := by omega
          have k1 : (j : Int) < (X.length : Int) := by omega
          obtain ⟨A', c', hv, hcell⟩ := HRV.out.below hb
          simp only [Value.slice.injEq] at hv
          obtain ⟨rfl, -, rfl⟩ := hv
          obtain ⟨g', hA, hg', d0, d1, d2, d3, hSt⟩ := hcell j hlt
          simp only [Option.some.injEq, Addr.mk.injEq, and_true] at hA
          subst hA
          obtain ⟨uA, uc, hue⟩ := hSt.slice
          have HMY := HMX.out Y[j] (HPM.out.mem_iff.1 (List.getElem_mem hlt))
          have HVT : Hid (verText (readA Y[j].1 0) (readA Y[j].1 1) (readA Y[j].1 2) (readP Y[j].1) = Y[j].1) := Lib.hid (vt_text HMY.2)
          have HSY : Hid (Sm (readP Y[j].1)) := Lib.hid (readP_Sm' (HS.out _ HMY.1))
          have HN : Hid ((Y.take j).map Prod.fst ++ [Y[j].1] = (Y.take (j + 1)).map Prod.fst) := Lib.hid (by rw [List.take_succ_eq_append_getElem hlt, List.map_append]; rfl)
          rw [hue] at d3 hSt
          obtain ⟨m, HM⟩ : ∃ m, Hid ((readP Y[j].1).length = m) := ⟨_, Lib.hid rfl⟩
          rw [HM.out] at d3 hSt
          obtain ⟨l0, HL0⟩ : ∃ z, Hid (readA Y[j].1 0 = z) := ⟨_, Lib.hid rfl⟩
          obtain ⟨l1, HL1⟩ : ∃ z, Hid (readA Y[j].1 1 = z) := ⟨_, Lib.hid rfl⟩
          obtain ⟨l2, HL2⟩ : ∃ z, Hid (readA Y[j].1 2 = z) := ⟨_, Lib.hid rfl⟩
          rw [HL0.out] at d0
          rw [HL1.out] at d1
          rw [HL2.out] at d2
          have HV2 : Hid (verText l0 l1 l2 (readP Y[j].1) = Y[j].1) := Lib.hid (by rw [← HL0.out, ← HL1.out, ← HL2.out]; exact HVT.out)
          have B8 := B7.alloc B7.size (.cells #[.int .i64 l0, .int .i64 l1, .int .i64 l2, .slice uA m uc] 74)
          have b8 := hb.alloc hb.size (.cells #[.int .i64 l0, .int .i64 l1, .int .i64 l2, .slice uA m uc] 74)
          have hS8 := hS.alloc (.cells #[.int .i64 l0, .int .i64 l1, .int .i64 l2, .slice uA m uc] 74)
          have hU8 := hSt.alloc (.cells #[.int .i64 l0, .int .i64 l1, .int .i64 l2, .slice uA m uc] 74)
          have hT8 := HTB.out _ B8
          clear hcell hue HMY hS6 hb6
          go_wp2_with fail
          refine (implVersionText_any l0 l1 l2 0 _ (readP Y[j].1) _ hU8 HSY.out hT8).mono ?_
          rw [HV2.out]
          rintro e w9 ⟨rfl, hb9⟩
          have hS9 := hS8.below hb9
          have b9 := b8.trans (hb9.mono b8.size)
          clear hS8 hb9 d0 d1 d2 d3 hSt hU8 hT8 b8 B8 hS
          have HLE : Hid (((Y.take j).map Prod.fst).length + 1 ≤ 16777216) := Lib.hid (by rw [LM.out]; omega)
          have HBE : Hid (w5.heap.size ≤ (w9.alloc (.cells #[sv Y[j].1] 9)).heap.size) := Lib.hid (by simp; exact Nat.le_succ_of_le b9.size)
          go_wp2_with (at_builtin; refine wpList_append_strs rfl _ _ rfl w5.heap.size _ _ rfl (hS9.alloc _) (Y[j].1) w9.heap.size _ _ _ rfl (heap_alloc_new w9 _) HLE.out HBE.out ?_; intro g3 c3 w10 hown10 hb10)
          have b10 := b9.trans (((Below.refl w5.heap.size w9).alloc b9.size _).trans hb10)
          rw [LM.out] at hown10
          go_wp2_with fail
          go_roundw
          case rel => exact ⟨j + 1, g3, c3, by omega, by go_num, by rw [show min j X.length = j by omega], by rw [← HN.out]; exact hown10, b10⟩
          case measure => simp [intOf]; omega
        · have hSe : Strs wr w5.heap.size (.slice (some ⟨g2, 0, none⟩) (Y.map Prod.fst).length c2) (Y.map Prod.fst) := by
            have : j = Y.length := by omega
            subst this
            rw [List.take_length] at hS
            rw [List.length_map]
            exact hS
          have hjl : j = (Y.map Prod.fst).length := by simp; omega
          have HSO : Hid (SortOf ls (Lib.compact (Y.map Prod.fst))) := Lib.hid (sortOf_compact (fun t => by
              have : t ∈ Y.map Prod.fst ↔ t ∈ X.map Prod.fst := (HPM.out.map Prod.fst).mem_iff
              rw [this, HXA.out, List.mem_filter]) (fun a b hab hbl => by
              simp only [List.getElem_map]
              exact HST.out a b hab (by simpa using hbl)))
          have hml : (Y.map Prod.fst).length ≤ 1048576 := by simp; omega
          have k1 : ¬ (j : Int) < (X.length : Int) := by omega
          have HCA := compact_any wr w5.heap.size g2 c2 (Y.map Prod.fst) hSe hml
          rw [← hjl] at HCA
          have HCB := Lib.hid HCA
          clear hjl hSe hml hS6 hb6 hS HCA
          go_wp2_with fail
          refine HCB.out.mono ?_
          rintro e w7 ⟨g3, c3, rfl, hS7, hb7⟩
          have B9 := B7.trans (hb7.mono B5.size)
          go_wp2_with fail
          go_ret
          exact ⟨g3, c3, _, rfl, hS7.weaken B5.size, HSO.out, B9⟩
end Go.Proofs.YtcfkhfbhmjfhdaaGreatDoor

/-
  A row of sums of the call's own.
-/
namespace Go.Proofs.YtcfkhfbhmjfhdaaGreatDoor
open Go.RowKit

/-- v is the call's own row of these sums. -/
def Sums (w : World) (base : Nat) (v : Value) (bs : List Bd) : Prop := w.ownsRow base 61 2 v bs.length (flat2 bs)

theorem suminfo : (Tryz.prog.info? 61).map (fun i => (i.zero, i.size, i.bytes)) = some (some (.agg #[.string ⟨#[]⟩, .string ⟨#[]⟩]), 2, 32) := by kernel_rfl

theorem Sums.form {w : World} {base : Nat} {v : Value} {l : List Bd} (h : Sums w base v l) : (v = .slice none 0 0 ∧ l = []) ∨ ∃ g cap, v = .slice (some ⟨g, 0, none⟩) l.length cap ∧ base ≤ g ∧ g < w.heap.size := by
  rcases h.2 with ⟨hv, hl⟩ | ⟨g, cap, cur, hv, hb, hh, _⟩
  · left
    refine ⟨hv, ?_⟩
    cases l with
    | nil => rfl
    | cons a t => simp at hl
  · right
    refine ⟨g, cap, hv, hb, ?_⟩
    rcases Nat.lt_or_ge g w.heap.size with hlt | hge
    · exact hlt
    · rw [Array.getElem?_eq_none hge] at hh; cases hh
theorem Sums.alloc {w : World} {base : Nat} {v : Value} {l : List Bd} (h : Sums w base v l) (o : Obj) : Sums (w.alloc o) base v l := World.ownsRow.alloc h o
theorem Sums.owned {w : World} {base : Nat} {v : Value} {l : List Bd} (h : Sums w base v l) : ∀ g, v.ownBlock = some g → base ≤ g := by
  intro g hg
  rcases h.form with ⟨rfl, _⟩ | ⟨g', cap, rfl, hb, _⟩
  · simp [Value.ownBlock] at hg
  · simp [Value.ownBlock] at hg; omega
theorem Sums.below {w w' : World} {base : Nat} {v : Value} {l : List Bd} (h : Sums w base v l) (hb : Below w.heap.size w w') : Sums w' base v l :=
  World.ownsRow.kept h (row := none) ⟨hb.os, hb.tape, hb.output, hb.size, fun i hi _ => hb.block i hi⟩ (by
    rcases h.form with ⟨rfl, _⟩ | ⟨g, cap, rfl, _, _⟩
    · left; rfl
    · right; simp [Value.ownBlock])
theorem Sums.cell {w : World} {base : Nat} {l : List Bd} {g n cap : Nat} (h : Sums w base (.slice (some ⟨g, 0, none⟩) n cap) l) (k : Nat) (hk : k < l.length) : w.cell? ⟨g, k * 2, none⟩ = some (sv l[k].1) ∧ w.cell? ⟨g, k * 2 + 1, none⟩ = some (sv l[k].2) := by
  have hadd : ∀ j, (⟨g, 0, none⟩ : Addr).add j = ⟨g, j, none⟩ := fun j => by unfold Addr.add; split <;> simp_all
  obtain ⟨e0, e1⟩ := flat2_get l k hk
  have h0 := World.ownsRow.cells (g := g) h rfl (k * 2) _ e0
  have h1 := World.ownsRow.cells (g := g) h rfl (k * 2 + 1) _ e1
  rw [hadd] at h0 h1
  exact ⟨h0, h1⟩
theorem RdB.of_sums {w : World} {base : Nat} {v : Value} {bs : List Bd} (h : Sums w base v bs) : RdB w v bs := by
  rcases h.form with ⟨rfl, rfl⟩ | ⟨g, cap, rfl, _, hg⟩
  · exact ⟨none, 0, rfl, fun h => absurd h (by simp)⟩
  · exact ⟨_, cap, rfl, fun _ => ⟨g, 0, rfl, hg, fun k hk => by rw [Nat.zero_add]; exact h.cell k hk⟩⟩
theorem Sums.set {w : World} {base g cap : Nat} {l : List Bd} (h : Sums w base (.slice (some ⟨g, 0, none⟩) l.length cap) l) (k : Nat) (x : Bd) :
    Sums ((w.setCell ⟨g, k * 2, none⟩ (sv x.1)).setCell ⟨g, k * 2 + 1, none⟩ (sv x.2)) base (.slice (some ⟨g, 0, none⟩) (l.set k x).length cap) (l.set k x) := by
  unfold Sums at h ⊢
  rw [List.length_set, ← flat2_set]
  exact (World.ownsRow.stored (World.ownsRow.stored h (k * 2) (sv x.1)).1 (k * 2 + 1) (sv x.2)).1
end Go.Proofs.YtcfkhfbhmjfhdaaGreatDoor

/-
  The laws' own comparison of lists of sums.
-/
namespace Go.Proofs.YtcfkhfbhmjfhdaaGreatDoor
open Go.RowKit

set_option maxRecDepth 100000 in
set_option maxHeartbeats 1000000 in
theorem eqSum_same (b c : ByteArray) (w : World) :
    Calls Tryz.prog 94 #[.agg #[.string b, .string c], .agg #[.string b, .string c]] w fun e w' => e = .returned (.bool true) ∧ Below w.heap.size w w' := by
  go_enter Tryz.func94, Tryz.ntmps94
  go_wp2_with fail
  go_ret
  exact ⟨rfl, ((Below.refl _ _).alloc (Nat.le_refl _) _).alloc (by simp) _⟩

set_option maxRecDepth 100000 in
set_option maxHeartbeats 1000000 in
theorem eqSumS_same (va vb : Value) (bs : List Bd) (w : World) (ha : RdB w va bs) (hb : RdB w vb bs) (hl : bs.length ≤ 16777216) :
    Calls Tryz.prog 69 #[va, vb] w fun e w' => e = .returned (.bool true) ∧ Below w.heap.size w w' := by
  have HA := Lib.hid ha
  have HB := Lib.hid hb
  obtain ⟨A, ca, rfl, ha⟩ := ha
  obtain ⟨B, cb, rfl, hb⟩ := hb
  have q0 : ((bs.length : Int) != (bs.length : Int)) = false := int_bne_false rfl
  clear ha hb
  go_enter Tryz.func69, Tryz.ntmps69
  go_wp2_with fail
  go_loopw [5] (fun i wr => ∃ k : Nat, k ≤ bs.length ∧ i = .int .i64 k ∧ Below w.heap.size w wr) (fun i _ => bs.length - (intOf i).toNat)
  case atStart => exact ⟨0, Nat.zero_le _, rfl, Below.refl _ _⟩
  case round =>
    obtain ⟨k, hk, rfl, hw⟩ := hrel
    by_cases hlt : k < bs.length
    · obtain ⟨A', ca', hv, ha⟩ := HA.out.below hw
      simp only [Value.slice.injEq] at hv
      obtain ⟨rfl, _, rfl⟩ := hv
      obtain ⟨B', cb', hv, hb⟩ := HB.out.below hw
      simp only [Value.slice.injEq] at hv
      obtain ⟨rfl, _, rfl⟩ := hv
      obtain ⟨g, off, rfl, _, hca⟩ := ha (by omega)
      obtain ⟨g2, off2, rfl, _, hcb⟩ := hb (by omega)
      have d1 : wr.cell? ⟨g, off + k * 2, none⟩ = some (.string ⟨bs[k].1.toArray⟩) := (hca k hlt).1
      have d2 : wr.cell? ⟨g, off + k * 2 + 1, none⟩ = some (.string ⟨bs[k].2.toArray⟩) := (hca k hlt).2
      have d3 : wr.cell? ⟨g2, off2 + k * 2, none⟩ = some (.string ⟨bs[k].1.toArray⟩) := (hcb k hlt).1
      have d4 : wr.cell? ⟨g2, off2 + k * 2 + 1, none⟩ = some (.string ⟨bs[k].2.toArray⟩) := (hcb k hlt).2
      have k0 : (0 : Int) ≤ (k : Int) := by omega
      have k1 : (k : Int) < (bs.length : Int) := by omega
      clear ha hb hca hcb
      go_wp2_with fail
      go_region_with (first | (go_at_call 94; refine (eqSum_same _ _ _).mono ?_; rintro e w1 ⟨rfl, hb1⟩))
      all_goals
        go_wp2_with fail
        go_roundw
        case rel => exact ⟨k + 1, by omega, by go_num, hw.trans ((below_drewN _ _ 1).trans (hb1.mono (by first | exact Nat.le_refl _ | exact hw.size)))⟩
        case measure => simp [intOf]; omega
    · go_wp2_with fail
      go_ret
      exact ⟨rfl, hw⟩
end Go.Proofs.YtcfkhfbhmjfhdaaGreatDoor

/-
  Rows of sums of the call's own, and the laws' own helpers on lists of sums: szSumS counts them, toSumS copies them, eqSumS compares them.
-/
namespace Go.Proofs.YtcfkhfbhmjfhdaaGreatDoor
open Go.RowKit

set_option maxRecDepth 100000 in
set_option maxHeartbeats 1000000 in
theorem szSum_any (b c : ByteArray) (left : Int) (w : World) (h0 : 0 ≤ left) (h1 : left ≤ 1048576) (hb : b.size ≤ maxLen) (hc : c.size ≤ maxLen) :
    Calls Tryz.prog 86 #[.agg #[.string b, .string c], .int .i64 left] w fun e w' => e = .returned (.int .i64 (off2 left b.size c.size)) ∧ Below w.heap.size w w' := by
  unfold maxLen at hb hc
  by_cases hx : left - (b.size : Int) < 0
  · have HX : Hid (off2 left b.size c.size = -1) := Lib.hid (by unfold off2; rw [if_pos hx])
    go_enter Tryz.func86, Tryz.ntmps86
    go_wp2
    go_ret
    exact ⟨ret_int HX.out.symm, (Below.refl _ _).alloc (Nat.le_refl _) _⟩
  · by_cases hy : left - (b.size : Int) - (c.size : Int) < 0
    · have HX : Hid (off2 left b.size c.size = -1) := Lib.hid (by unfold off2; rw [if_neg hx, if_pos hy])
      go_enter Tryz.func86, Tryz.ntmps86
      go_wp2
      go_ret
      exact ⟨ret_int HX.out.symm, (Below.refl _ _).alloc (Nat.le_refl _) _⟩
    · have HX : Hid (off2 left b.size c.size = left - b.size - c.size) := Lib.hid (by unfold off2; rw [if_neg hx, if_neg hy])
      go_enter Tryz.func86, Tryz.ntmps86
      go_wp2
      go_ret
      exact ⟨ret_int HX.out.symm, (Below.refl _ _).alloc (Nat.le_refl _) _⟩

set_option maxRecDepth 100000 in
set_option maxHeartbeats 1000000 in
theorem szSumS_any (v : Value) (bs : List Bd) (left : Int) (w : World) (hr : RdB w v bs) (h0 : 0 ≤ left) (h1 : left ≤ 1048576) (hn : bs.length ≤ maxLen) (hm : ∀ b ∈ bs, b.1.length ≤ maxLen ∧ b.2.length ≤ maxLen) :
    Calls Tryz.prog 58 #[v, .int .i64 left] w fun e w' => e = .returned (.int .i64 (szB left bs)) ∧ Below w.heap.size w w' := by
  have HR := Lib.hid hr
  obtain ⟨A, ca, rfl, ha⟩ := hr
  have HM := Lib.hid hm
  clear hm ha
  unfold maxLen at hn
  by_cases hl : (bs.length : Int) ≤ left
  · go_enter Tryz.func58, Tryz.ntmps58
    go_wp2
    go_loopw [1, 5] (fun m i wr => ∃ (k : Nat) (z : Int), k ≤ bs.length ∧ i = .int .i64 k ∧ m = .int .i64 z ∧ 0 ≤ z ∧ z ≤ 1048576 ∧ Hid (z = left - (bs.length : Int) - (smB (bs.take k) : Int)) ∧ Below w.heap.size w wr) (fun _ i _ => bs.length - (intOf i).toNat)
    case atStart => exact ⟨0, _, Nat.zero_le _, rfl, rfl, by omega, by omega, Lib.hid (by simp [smB]), Below.refl _ _⟩
    case round =>
      obtain ⟨k, z, hk, rfl, rfl, z0, z1, HZ, hb⟩ := hrel
      by_cases hlt : k < bs.length
      · obtain ⟨A', ca', hv, ha⟩ := HR.out.below hb
        simp only [Value.slice.injEq] at hv
        obtain ⟨rfl, _, rfl⟩ := hv
        obtain ⟨g, off, rfl, _, hca⟩ := ha (by omega)
        obtain ⟨x, hx⟩ : ∃ x : ByteArray, x = ⟨bs[k].1.toArray⟩ := ⟨_, rfl⟩
        obtain ⟨y, hy⟩ : ∃ y : ByteArray, y = ⟨bs[k].2.toArray⟩ := ⟨_, rfl⟩
        have d1 : wr.cell? ⟨g, off + k * 2, none⟩ = some (.string x) := by rw [hx]; exact (hca k hlt).1
        have d2 : wr.cell? ⟨g, off + k * 2 + 1, none⟩ = some (.string y) := by rw [hy]; exact (hca k hlt).2
        have HX : Hid (x.size = bs[k].1.length) := Lib.hid (by rw [hx]; exact size_of _)
        have HY : Hid (y.size = bs[k].2.length) := Lib.hid (by rw [hy]; exact size_of _)
        have HC := Lib.hid (fun W => szSum_any x y z W z0 z1 (by have := (HM.out bs[k] (List.getElem_mem hlt)).1; have := HX.out; omega) (by have := (HM.out bs[k] (List.getElem_mem hlt)).2; have := HY.out; omega))
        have k0 : (0 : Int) ≤ (k : Int) := by omega
        have k1 : (k : Int) < (bs.length : Int) := by omega
        have HS := Lib.hid (smB_snoc bs k hlt)
        have HT := Lib.hid (smB_le bs (k + 1))
        clear ha hca hx hy
        by_cases hz : z - (x.size : Int) - (y.size : Int) < 0
        · have HO : Hid (off2 z x.size y.size = -1) := Lib.hid (by unfold off2; by_cases hq : z - (x.size : Int) < 0; exact if_pos hq; rw [if_neg hq]; exact if_pos hz)
          have HW : Hid (szB left bs = -1) := Lib.hid (szB_no (by have := HZ.out; have := HS.out; have := HT.out; have := HX.out; have := HY.out; omega))
          go_wp2_with fail
          refine (HC.out _).mono ?_
          rw [HO.out]
          rintro e w1 ⟨rfl, hb1⟩
          have B1 := hb.trans (hb1.mono hb.size)
          go_wp2_with fail
          go_ret
          exact ⟨ret_int HW.out.symm, B1⟩
        · have HO : Hid (off2 z x.size y.size = z - (x.size : Int) - (y.size : Int)) := Lib.hid (by unfold off2; rw [if_neg (by omega), if_neg hz])
          go_wp2_with fail
          refine (HC.out _).mono ?_
          rw [HO.out]
          rintro e w1 ⟨rfl, hb1⟩
          have B1 := hb.trans (hb1.mono hb.size)
          go_wp2_with fail
          go_roundw
          case rel => exact ⟨k + 1, _, by omega, by go_num, rfl, by omega, by omega, Lib.hid (by have := HZ.out; have := HS.out; have := HX.out; have := HY.out; omega), B1⟩
          case measure => simp [intOf]; omega
      · have HX : Hid (szB left bs = z) := Lib.hid (by
          have hz := HZ.out
          rw [List.take_of_length_le (by omega)] at hz
          rw [szB_yes (by omega)]; omega)
        go_wp2_with fail
        go_ret
        exact ⟨ret_int HX.out.symm, hb⟩
  · have HX : Hid (szB left bs = -1) := Lib.hid (szB_no (by omega))
    go_enter Tryz.func58, Tryz.ntmps58
    go_wp2
    go_ret
    exact ⟨ret_int HX.out.symm, Below.refl _ _⟩

set_option maxRecDepth 100000 in
set_option maxHeartbeats 1000000 in
theorem toSum_any (b c : ByteArray) (w : World) :
    Calls Tryz.prog 88 #[.agg #[.string b, .string c]] w fun e w' => e = .returned (.agg #[.string b, .string c]) ∧ Below w.heap.size w w' := by
  go_enter Tryz.func88, Tryz.ntmps88
  go_wp2_with fail
  refine bodyPost_ret (v := .agg #[.string b, .string c]) ?_ rfl ⟨rfl, ?_⟩
  · simp [results, Tryz.results88, go_sem]
  · exact (((Below.refl _ _).alloc (Nat.le_refl _) _).alloc (by simp) _).alloc (by simp; omega) _

theorem sums_made {w : World} {base : Nat} {v : Value} {n : Nat} (h : w.ownsRow base 61 2 v n (madeCells (Value.agg #[.string ⟨#[]⟩, .string ⟨#[]⟩]).cells (n * 2)).toList) : Sums w base v (List.replicate n ([], [])) := by
  unfold Sums
  have e : (madeCells (Value.agg #[.string ⟨#[]⟩, .string ⟨#[]⟩]).cells (n * 2)).toList = flat2 (List.replicate n ([], [])) := by
    rw [flat2_rep]
    apply List.ext_getElem?
    intro j
    by_cases hj : j < n * 2
    · rcases Nat.mod_two_eq_zero_or_one j with h2 | h2 <;> simp [madeCells, hj, sv, Value.cells, h2]
    · simp [madeCells, hj]
  rw [← e]
  simpa using h

set_option maxRecDepth 100000 in
set_option maxHeartbeats 1000000 in
theorem toSumS_any (v : Value) (bs : List Bd) (w : World) (hr : RdB w v bs) (hl : bs.length ≤ 1048576) :
    Calls Tryz.prog 63 #[v] w fun e w' => ∃ g cap, e = .returned (.slice (some ⟨g, 0, none⟩) bs.length cap) ∧ Sums w' w.heap.size (.slice (some ⟨g, 0, none⟩) bs.length cap) bs ∧ Below w.heap.size w w' := by
  have HR := Lib.hid hr
  obtain ⟨A, ca, rfl, ha⟩ := hr
  obtain ⟨i0, hi, hz0, hz1, hz2⟩ := info_parts suminfo
  go_enter Tryz.func63, Tryz.ntmps63
  go_wp2_with (at_make; refine wpList_make_full _ rfl _ _ 41 rfl w.heap.size 61 i0 (.agg #[.string ⟨#[]⟩, .string ⟨#[]⟩]) 2 Tryz.underlying41 hi hz0 hz1 .i64 .i64 _ _ bs.length rfl rfl rfl rfl (by rw [hz2]; omega) (by unfold maxLen; omega) (Nat.le_refl _) ?_; intro w1 hown1 hg1)
  have hS1 := sums_made hown1
  have hb1 : Below w.heap.size w w1 := (Below.refl _ _).grown hg1 (Nat.le_refl _) (by simp)
  clear hown1 hg1 hi hz0 hz1 hz2 ha
  go_loopw [4] (fun i wr => ∃ k : Nat, k ≤ bs.length ∧ i = .int .i64 k ∧ Sums wr w.heap.size (.slice (some ⟨w.heap.size, 0, none⟩) bs.length bs.length) (tkB k bs) ∧ Below w.heap.size w wr) (fun i _ => bs.length - (intOf i).toNat)
  case atStart => exact ⟨0, Nat.zero_le _, rfl, by rw [tkB_zero]; exact hS1, hb1⟩
  case round =>
    obtain ⟨k, hk, rfl, hS, hb⟩ := hrel
    by_cases hlt : k < bs.length
    · obtain ⟨A', ca', hv, ha⟩ := HR.out.below hb
      simp only [Value.slice.injEq] at hv
      obtain ⟨rfl, _, rfl⟩ := hv
      obtain ⟨g, off, rfl, _, hca⟩ := ha (by omega)
      have d1 : wr.cell? ⟨g, off + k * 2, none⟩ = some (.string ⟨bs[k].1.toArray⟩) := (hca k hlt).1
      have d2 : wr.cell? ⟨g, off + k * 2 + 1, none⟩ = some (.string ⟨bs[k].2.toArray⟩) := (hca k hlt).2
      have k0 : (0 : Int) ≤ (k : Int) := by omega
      have k1 : (k : Int) < (bs.length : Int) := by omega
      clear ha hca hS1 hb1
      go_wp2_with fail
      refine (toSum_any _ _ _).mono ?_
      rintro e w2 ⟨rfl, hb2⟩
      have hS2 := hS.below hb2
      have hS' : Sums w2 w.heap.size (.slice (some ⟨w.heap.size, 0, none⟩) (tkB k bs).length bs.length) (tkB k bs) := by rw [tkB_len k bs hk]; exact hS2
      obtain ⟨c2, c3⟩ := hS2.cell k (by rw [tkB_len k bs hk]; exact hlt)
      have f2 : ∀ j, w2.frozen? ⟨w.heap.size, j, none⟩ = false := fun j => World.ownsRow.frozenAt hS' j
      have B2 := hb.trans (hb2.mono hb.size)
      clear hS hb hb2 d1 d2
      go_wp2_with fail
      go_roundw
      case rel => exact ⟨k + 1, by omega, by go_num, by have := hS'.set k bs[k]; rw [tkB_set k bs hlt, tkB_len (k + 1) bs (by omega)] at this; exact this, (B2.setCell (p := ⟨w.heap.size, k * 2, none⟩) (Nat.le_refl _) _).setCell (p := ⟨w.heap.size, k * 2 + 1, none⟩) (Nat.le_refl _) _⟩
      case measure => simp [intOf]; omega
    · obtain rfl : k = bs.length := by omega
      rw [tkB_all] at hS
      clear hS1 hb1
      go_wp2_with fail
      go_ret
      exact ⟨_, _, rfl, hS, hb⟩

end Go.Proofs.YtcfkhfbhmjfhdaaGreatDoor

/-
  laws.eqStringS: a list of texts is the same as itself.
-/
namespace Go.Proofs.YtcfkhfbhmjfhdaaGreatDoor
open Go.RowKit

set_option maxRecDepth 100000 in
set_option maxHeartbeats 1000000 in
theorem eqStringS_same (va vb : Value) (ls : List (List UInt8)) (w : World) (ha : RdS w va ls) (hb : RdS w vb ls) (hl : ls.length ≤ 16777216) :
    Calls Tryz.prog 13 #[va, vb] w fun e w' => e = .returned (.bool true) ∧ ∃ n, w' = w.drewN n := by
  obtain ⟨A, ca, rfl, ha⟩ := ha
  obtain ⟨B, cb, rfl, hb⟩ := hb
  have q0 : ((ls.length : Int) != (ls.length : Int)) = false := int_bne_false rfl
  go_enter Tryz.func13, Tryz.ntmps13
  go_wp2
  go_loopw [5] (fun i wr => ∃ k n : Nat, k ≤ ls.length ∧ i = .int .i64 k ∧ wr = w.drewN n) (fun i _ => ls.length - (intOf i).toNat)
  case atStart => exact ⟨0, 0, Nat.zero_le _, rfl, rfl⟩
  case round =>
    obtain ⟨k, n, hk, rfl, rfl⟩ := hrel
    by_cases hlt : k < ls.length
    · obtain ⟨g, off, rfl, _, hca⟩ := ha (by omega)
      obtain ⟨g2, off2, rfl, _, hcb⟩ := hb (by omega)
      have d1 : w.cell? ⟨g, off + k, none⟩ = some (.string ⟨ls[k].toArray⟩) := hca k hlt
      have d2 : w.cell? ⟨g2, off2 + k, none⟩ = some (.string ⟨ls[k].toArray⟩) := hcb k hlt
      have k0 : (0 : Int) ≤ (k : Int) := by omega
      have k1 : (k : Int) < (ls.length : Int) := by omega
      clear ha hb hca hcb
      go_wp2_with fail
      go_quiet (fail)
      go_wp2_with fail
      go_roundw
      case rel => exact ⟨k + 1, _, by omega, by go_num, rfl⟩
      case measure => simp [intOf]; omega
    · clear ha hb
      go_wp2_with fail
      go_ret
      exact ⟨rfl, n, rfl⟩
end Go.Proofs.YtcfkhfbhmjfhdaaGreatDoor

/-
  The laws' own helpers on a pack: szPack counts it, toPack copies it, eqPack compares it with itself.
-/
namespace Go.Proofs.YtcfkhfbhmjfhdaaGreatDoor
open Go.RowKit

set_option maxRecDepth 100000 in
set_option maxHeartbeats 2000000 in
theorem szPack_any (p : Pk) (a b : Value) (left : Int) (w : World) (ha : RdB w a p.sums) (hb : RdS w b p.needs) (h0 : 0 ≤ left) (h1 : left ≤ 1048576) (hf : PkFits p) :
    Calls Tryz.prog 37 #[.agg #[.string ⟨p.name.toArray⟩, .string ⟨p.ver.toArray⟩, .string ⟨p.src.toArray⟩, a, .bool p.dev, b], .int .i64 left] w fun e w' => e = .returned (.int .i64 (szP left p)) ∧ Below w.heap.size w w' := by
  obtain ⟨f1, f2, f3, f4, f5, f6, f7⟩ := hf
  have HA := Lib.hid (fun (W : World) (h : Below w.heap.size w W) (z : Int) (z0 : 0 ≤ z) (z1 : z ≤ 1048576) => szSumS_any a p.sums z W (ha.below h) z0 z1 f4 f5)
  have HB := Lib.hid (fun (W : World) (h : Below w.heap.size w W) (z : Int) (z0 : 0 ≤ z) (z1 : z ≤ 1048576) => szStringS_any b p.needs z W (hb.below h) z0 z1 f6 f7)
  obtain ⟨A, ca, rfl⟩ := ha.slice
  obtain ⟨B, cb, rfl⟩ := hb.slice
  obtain ⟨x, hx⟩ : ∃ x : ByteArray, x = ⟨p.name.toArray⟩ := ⟨_, rfl⟩
  obtain ⟨y, hy⟩ : ∃ y : ByteArray, y = ⟨p.ver.toArray⟩ := ⟨_, rfl⟩
  obtain ⟨s, hs⟩ : ∃ s : ByteArray, s = ⟨p.src.toArray⟩ := ⟨_, rfl⟩
  have sx : x.size = p.name.length := by rw [hx]; exact size_of _
  have sy : y.size = p.ver.length := by rw [hy]; exact size_of _
  have ss : s.size = p.src.length := by rw [hs]; exact size_of _
  have HW : Hid (wP p = x.size + y.size + s.size + (p.sums.length + smB p.sums) + (p.needs.length + smL p.needs)) := Lib.hid (by rw [sx, sy, ss]; rfl)
  rw [← hx, ← hy, ← hs]
  have hx2 : x.size ≤ 9223372036854775807 := by unfold maxLen at f1; omega
  have hy2 : y.size ≤ 9223372036854775807 := by unfold maxLen at f2; omega
  have hs2 : s.size ≤ 9223372036854775807 := by unfold maxLen at f3; omega
  have B0 : Below w.heap.size w (w.alloc (.cells #[.string x, .string y, .string s, .slice A p.sums.length ca, .bool p.dev, .slice B p.needs.length cb] 58)) := (Below.refl _ _).alloc (Nat.le_refl _) _
  have b0 := heap_alloc_new w (.cells #[.string x, .string y, .string s, .slice A p.sums.length ca, .bool p.dev, .slice B p.needs.length cb] 58)
  clear ha hb f1 f2 f3 f4 f5 f6 f7 sx sy ss hx hy hs
  by_cases q1 : left - (x.size : Int) < 0
  · have HX : Hid (szP left p = -1) := Lib.hid (szP_no (by have := HW.out; omega))
    go_enter Tryz.func37, Tryz.ntmps37
    go_wp2_with fail
    go_ret
    exact ⟨ret_int HX.out.symm, B0⟩
  by_cases q2 : left - (x.size : Int) - (y.size : Int) < 0
  · have HX : Hid (szP left p = -1) := Lib.hid (szP_no (by have := HW.out; omega))
    go_enter Tryz.func37, Tryz.ntmps37
    go_wp2_with fail
    go_ret
    exact ⟨ret_int HX.out.symm, B0⟩
  by_cases q3 : left - (x.size : Int) - (y.size : Int) - (s.size : Int) < 0
  · have HX : Hid (szP left p = -1) := Lib.hid (szP_no (by have := HW.out; omega))
    go_enter Tryz.func37, Tryz.ntmps37
    go_wp2_with fail
    go_ret
    exact ⟨ret_int HX.out.symm, B0⟩
  obtain ⟨z, HZ⟩ : ∃ z, Hid (szB (left - (x.size : Int) - (y.size : Int) - (s.size : Int)) p.sums = z) := ⟨_, Lib.hid rfl⟩
  by_cases q4 : z < 0
  · have HX : Hid (szP left p = -1) := Lib.hid (szP_no (by have := HW.out; have := HZ.out; unfold szB at this; split at this <;> omega))
    go_enter Tryz.func37, Tryz.ntmps37
    go_wp2_with fail
    refine (HA.out _ B0 _ (by omega) (by omega)).mono ?_
    rw [HZ.out]
    rintro e w1 ⟨rfl, hb1⟩
    have B1 := B0.trans (hb1.mono B0.size)
    go_wp2_with fail
    go_ret
    exact ⟨ret_int HX.out.symm, B1⟩
  have hz : z ≤ 1048576 := by have := HZ.out; unfold szB at this; split at this <;> omega
  have HY : Hid (z = left - (x.size : Int) - (y.size : Int) - (s.size : Int) - ((p.sums.length : Int) + smB p.sums)) := Lib.hid (by have := HZ.out; unfold szB at this; split at this <;> omega)
  obtain ⟨u, HU⟩ : ∃ u, Hid (szI z p.needs = u) := ⟨_, Lib.hid rfl⟩
  by_cases q5 : u < 0
  · have HX : Hid (szP left p = -1) := Lib.hid (szP_no (by have := HW.out; have := HY.out; have := HU.out; unfold szI at this; split at this <;> omega))
    go_enter Tryz.func37, Tryz.ntmps37
    go_wp2_with fail
    refine (HA.out _ B0 _ (by omega) (by omega)).mono ?_
    rw [HZ.out]
    rintro e w1 ⟨rfl, hb1⟩
    have B1 := B0.trans (hb1.mono B0.size)
    have c1 := cells6 (keepB b0 hb1)
    go_wp2_with fail
    refine (HB.out _ B1 _ (by omega) (by omega)).mono ?_
    rw [HU.out]
    rintro e w2 ⟨rfl, rfl⟩
    go_wp2_with fail
    go_ret
    exact ⟨ret_int HX.out.symm, B1⟩
  have HX : Hid (szP left p = u) := Lib.hid (by
    have h1 := HW.out; have h2 := HY.out; have h3 := HU.out
    unfold szI at h3
    split at h3
    · rw [szP_yes (by omega)]; omega
    · omega)
  go_enter Tryz.func37, Tryz.ntmps37
  go_wp2_with fail
  refine (HA.out _ B0 _ (by omega) (by omega)).mono ?_
  rw [HZ.out]
  rintro e w1 ⟨rfl, hb1⟩
  have B1 := B0.trans (hb1.mono B0.size)
  have c1 := cells6 (keepB b0 hb1)
  go_wp2_with fail
  refine (HB.out _ B1 _ (by omega) (by omega)).mono ?_
  rw [HU.out]
  rintro e w2 ⟨rfl, rfl⟩
  go_wp2_with fail
  go_ret
  exact ⟨ret_int HX.out.symm, B1⟩
end Go.Proofs.YtcfkhfbhmjfhdaaGreatDoor

/-
  The laws' own helpers on a pack: toPack copies it, eqPack compares it with itself.
-/
namespace Go.Proofs.YtcfkhfbhmjfhdaaGreatDoor
open Go.RowKit

theorem heap_setN {V : World} {B k : Nat} {T : TypeId} {cs : Array Value} (h : V.heap[B]? = some (.cells cs T)) (x : Value) : (V.setCell ⟨B, k, none⟩ x).heap[B]? = some (.cells (cs.setIfInBounds k x) T) := by
  rw [heap_setCell_same V B k cs T x h]
theorem Sums.other {w : World} {base g n cap : Nat} {l : List Bd} (h : Sums w base (.slice (some ⟨g, 0, none⟩) n cap) l) (b o : Nat) (x : Value) (hne : b ≠ g) : Sums (w.setCell ⟨b, o, none⟩ x) base (.slice (some ⟨g, 0, none⟩) n cap) l :=
  World.ownsRow.kept h (row := some b) ⟨rfl, rfl, rfl, by simp, fun k _ hk => heap_setCell_other w ⟨b, o, none⟩ k x (fun e => hk (by simp [e]))⟩ (by right; simp [Value.ownBlock]; omega)
theorem Sums.weaken {w : World} {base base' : Nat} {v : Value} {l : List Bd} (h : Sums w base v l) (hb : base' ≤ base) : Sums w base' v l := by
  refine ⟨h.1, ?_⟩
  rcases h.2 with h | ⟨g, cap, cur, hv, hg, hh, hr⟩
  · exact .inl h
  · exact .inr ⟨g, cap, cur, hv, Nat.le_trans hb hg, hh, hr⟩

theorem frozen6 {V : World} {B : Nat} {T : TypeId} {v0 v1 v2 v3 v4 v5 : Value} (h : V.heap[B]? = some (.cells #[v0, v1, v2, v3, v4, v5] T)) : ∀ o, V.frozen? ⟨B, o, none⟩ = false := by
  intro o; simp [World.frozen?, h]
theorem Sums.block_lt {w : World} {base g n cap : Nat} {l : List Bd} (h : Sums w base (.slice (some ⟨g, 0, none⟩) n cap) l) : g < w.heap.size := by
  rcases h.form with ⟨hv, _⟩ | ⟨g', cap', hv, _, hl⟩
  · simp at hv
  · simp only [Value.slice.injEq, Option.some.injEq, Addr.mk.injEq] at hv; omega
theorem Sums.lo {w : World} {base g n cap : Nat} {l : List Bd} (h : Sums w base (.slice (some ⟨g, 0, none⟩) n cap) l) : base ≤ g := h.owned g rfl

set_option maxRecDepth 100000 in
set_option maxHeartbeats 2000000 in
theorem toPack_any (p : Pk) (a b : Value) (w : World) (ha : RdB w a p.sums) (hb : RdS w b p.needs) (hp : SmPk p) :
    Calls Tryz.prog 43 #[.agg #[.string ⟨p.name.toArray⟩, .string ⟨p.ver.toArray⟩, .string ⟨p.src.toArray⟩, a, .bool p.dev, b]] w fun e w' => ∃ g1 c1 g2 c2, e = .returned (.agg #[.string ⟨p.name.toArray⟩, .string ⟨p.ver.toArray⟩, .string ⟨p.src.toArray⟩, .slice (some ⟨g1, 0, none⟩) p.sums.length c1, .bool p.dev, .slice (some ⟨g2, 0, none⟩) p.needs.length c2]) ∧ Sums w' w.heap.size (.slice (some ⟨g1, 0, none⟩) p.sums.length c1) p.sums ∧ Strs w' w.heap.size (.slice (some ⟨g2, 0, none⟩) p.needs.length c2) p.needs ∧ g1 ≠ g2 ∧ Below w.heap.size w w' := by
  have HA := Lib.hid (fun (W : World) (h : Below w.heap.size w W) => toSumS_any a p.sums W (ha.below h) (by have := hp.sums; unfold SmB at this; omega))
  have HB := Lib.hid (fun (W : World) (h : Below w.heap.size w W) => toStringS_any b p.needs W (hb.below h) (by have := hp.needs; omega))
  obtain ⟨A, ca, rfl⟩ := ha.slice
  obtain ⟨B, cb, rfl⟩ := hb.slice
  clear ha hb
  go_enter Tryz.func43, Tryz.ntmps43
  go_wp2_with fail
  refine (HA.out _ ?_).mono ?_
  · exact (((Below.refl _ _).alloc (Nat.le_refl _) _).alloc (by simp) _).alloc (by simp; omega) _
  rintro e w1 ⟨g1, c1, rfl, hS1, hb1⟩
  have b0 := keepB (keepA (keepA (heap_alloc_new w _) _) _) hb1
  have b1 := keepB (keepA (heap_new (n := w.heap.size + 1) (by simp) _) _) hb1
  have b2 := keepB (heap_new (n := w.heap.size + 1 + 1) (by simp) _) hb1
  have B1 : Below w.heap.size w w1 := ((((Below.refl _ w).alloc (Nat.le_refl _) _).alloc (by simp) _).alloc (by simp; omega) _).trans (hb1.mono (by simp; omega))
  have hz1 : w.heap.size + 3 ≤ w1.heap.size := by have := hb1.size; simp at this; omega
  have hg1 : w.heap.size + 3 ≤ g1 := by have := hS1.lo; simp at this; omega
  have hS1' := hS1.weaken (base' := w.heap.size) (by simp; omega)
  have c0 := cells6 b0
  have c2 := cells6 b2
  have f2 := frozen6 b2
  clear hb1 hS1
  go_wp2_with fail
  refine (HB.out _ ((B1.setCell (p := ⟨w.heap.size + 1 + 1, 3, none⟩) (by simp; omega) _).setCell (p := ⟨w.heap.size + 1 + 1, 4, none⟩) (by simp; omega) _)).mono ?_
  rintro e w2 ⟨g2, c2', rfl, hS2, hb2⟩
  have d0 := keepB (heap_other (heap_other b0 _ (by omega : w.heap.size + 1 + 1 ≠ w.heap.size)) _ (by omega)) hb2
  have d1 := keepB (heap_other (heap_other b1 _ (by omega : w.heap.size + 1 + 1 ≠ w.heap.size + 1)) _ (by omega)) hb2
  have d2 := keepB (heap_setN (heap_setN b2 _) _) hb2
  have B2 : Below w.heap.size w w2 := ((B1.setCell (p := ⟨w.heap.size + 1 + 1, 3, none⟩) (by simp; omega) _).setCell (p := ⟨w.heap.size + 1 + 1, 4, none⟩) (by simp; omega) _).trans (hb2.mono (by simp; omega))
  have hg2 : w1.heap.size ≤ g2 := by have := hS2.lo; simpa using this
  have hl1 : g1 < w1.heap.size := hS1'.block_lt
  have hS3 := ((hS1'.other (w.heap.size + 1 + 1) 3 (.slice (some ⟨g1, 0, none⟩) p.sums.length c1) (by omega)).other (w.heap.size + 1 + 1) 4 (.bool p.dev) (by omega)).below hb2
  have hS4 := hS2.weaken (base' := w.heap.size) (by simp; omega)
  clear hb2 hS2 hS1' b0 b1 b2 c0 c2 f2 B1
  have e0 := cells6 d0
  have e1 := cells6 d1
  have e2 := cells6 d2
  have f1 := frozen6 d1
  have f2 := frozen6 d2
  go_wp2_with fail
  refine bodyPost_ret (v := .agg #[.string ⟨p.name.toArray⟩, .string ⟨p.ver.toArray⟩, .string ⟨p.src.toArray⟩, .slice (some ⟨g1, 0, none⟩) p.sums.length c1, .bool p.dev, .slice (some ⟨g2, 0, none⟩) p.needs.length c2']) ?_ rfl ⟨g1, c1, g2, c2', rfl, ?_, ?_, by omega, ?_⟩
  · simp [results, Tryz.results43, go_sem, e1]
  · exact ((((((hS3.other _ _ _ (by omega)).other _ _ _ (by omega)).other _ _ _ (by omega)).other _ _ _ (by omega)).other _ _ _ (by omega)).other _ _ _ (by omega)).other _ _ _ (by omega)
  · exact ((((((hS4.other _ _ _ (by omega)).other _ _ _ (by omega)).other _ _ _ (by omega)).other _ _ _ (by omega)).other _ _ _ (by omega)).other _ _ _ (by omega)).other _ _ _ (by omega)
  · exact ((((((B2.setCell (by simp; omega) _).setCell (by simp) _).setCell (by simp) _).setCell (by simp) _).setCell (by simp) _).setCell (by simp) _).setCell (by simp) _

set_option maxRecDepth 100000 in
set_option maxHeartbeats 2000000 in
theorem eqPack_same (p : Pk) (a b a' b' : Value) (w : World) (ha : RdB w a p.sums) (hb : RdS w b p.needs) (ha' : RdB w a' p.sums) (hb' : RdS w b' p.needs) (hp : SmPk p) :
    Calls Tryz.prog 48 #[.agg #[.string ⟨p.name.toArray⟩, .string ⟨p.ver.toArray⟩, .string ⟨p.src.toArray⟩, a, .bool p.dev, b], .agg #[.string ⟨p.name.toArray⟩, .string ⟨p.ver.toArray⟩, .string ⟨p.src.toArray⟩, a', .bool p.dev, b']] w fun e w' => e = .returned (.bool true) ∧ Below w.heap.size w w' := by
  have HA := Lib.hid (fun (W : World) (h : Below w.heap.size w W) => eqSumS_same a a' p.sums W (ha.below h) (ha'.below h) (by have := hp.sums; unfold SmB at this; omega))
  have HB := Lib.hid (fun (W : World) (h : Below w.heap.size w W) => eqStringS_same b b' p.needs W (hb.below h) (hb'.below h) (by have := hp.needs; omega))
  obtain ⟨A, ca, rfl⟩ := ha.slice
  obtain ⟨B, cb, rfl⟩ := hb.slice
  obtain ⟨A', ca', rfl⟩ := ha'.slice
  obtain ⟨B', cb', rfl⟩ := hb'.slice
  clear ha hb ha' hb'
  obtain ⟨dv, hdv⟩ : ∃ dv, dv = p.dev := ⟨_, rfl⟩
  rw [← hdv]
  have q0 : (dv != dv) = false := by cases dv <;> rfl
  clear hdv
  go_enter Tryz.func48, Tryz.ntmps48
  go_wp2_with fail
  refine (HA.out _ (((Below.refl _ _).alloc (Nat.le_refl _) _).alloc (by simp) _)).mono ?_
  rintro e w1 ⟨rfl, hb1⟩
  have b0 := keepB (keepA (heap_alloc_new w _) _) hb1
  have b1 := keepB (heap_new (n := w.heap.size + 1) (by simp) _) hb1
  have B1 : Below w.heap.size w w1 := (((Below.refl _ w).alloc (Nat.le_refl _) _).alloc (by simp) _).trans (hb1.mono (by simp; omega))
  have c0 := cells6 b0
  have c1 := cells6 b1
  clear hb1
  go_wp2_with fail
  refine (HB.out _ B1).mono ?_
  rintro e w2 ⟨rfl, n, rfl⟩
  go_wp2_with fail
  go_ret
  exact ⟨rfl, B1.trans (below_drewN _ _ n)⟩
end Go.Proofs.YtcfkhfbhmjfhdaaGreatDoor

/-
  Rows of packs of the call's own.
-/
namespace Go.Proofs.YtcfkhfbhmjfhdaaGreatDoor
open Go.RowKit

/-- A pack with the values of its two lists. -/
abbrev PkV := Pk × Value × Value
/-- A list of packs as cells. -/
def flatP : List PkV → List Value
  | [] => []
  | q :: t => .string ⟨q.1.name.toArray⟩ :: .string ⟨q.1.ver.toArray⟩ :: .string ⟨q.1.src.toArray⟩ :: q.2.1 :: .bool q.1.dev :: q.2.2 :: flatP t
theorem flatP_len (l : List PkV) : (flatP l).length = l.length * 6 := by
  induction l with
  | nil => rfl
  | cons a t ih => simp only [flatP, List.length_cons, ih]; omega
theorem flatP_get : ∀ (l : List PkV) (k : Nat) (h : k < l.length), (flatP l)[k * 6]? = some (.string ⟨l[k].1.name.toArray⟩) ∧ (flatP l)[k * 6 + 1]? = some (.string ⟨l[k].1.ver.toArray⟩) ∧ (flatP l)[k * 6 + 2]? = some (.string ⟨l[k].1.src.toArray⟩) ∧ (flatP l)[k * 6 + 3]? = some l[k].2.1 ∧ (flatP l)[k * 6 + 4]? = some (.bool l[k].1.dev) ∧ (flatP l)[k * 6 + 5]? = some l[k].2.2
  | [], k, h => by simp at h
  | a :: t, 0, _ => by simp [flatP]
  | a :: t, k + 1, h => by
    have := flatP_get t k (by simpa using h)
    rw [show (k + 1) * 6 = k * 6 + 6 by omega, show k * 6 + 6 + 1 = (k * 6 + 1) + 6 by omega, show k * 6 + 6 + 2 = (k * 6 + 2) + 6 by omega, show k * 6 + 6 + 3 = (k * 6 + 3) + 6 by omega, show k * 6 + 6 + 4 = (k * 6 + 4) + 6 by omega, show k * 6 + 6 + 5 = (k * 6 + 5) + 6 by omega]
    simpa [flatP] using this
/-- Six cells stored. -/
def set6 (l : List Value) (o : Nat) (q : PkV) : List Value := (((((l.set o (.string ⟨q.1.name.toArray⟩)).set (o + 1) (.string ⟨q.1.ver.toArray⟩)).set (o + 2) (.string ⟨q.1.src.toArray⟩)).set (o + 3) q.2.1).set (o + 4) (.bool q.1.dev)).set (o + 5) q.2.2
theorem flatP_set : ∀ (l : List PkV) (k : Nat) (x : PkV), set6 (flatP l) (k * 6) x = flatP (l.set k x)
  | [], k, x => by simp [flatP, set6]
  | a :: t, 0, x => by simp [flatP, set6]
  | a :: t, k + 1, x => by
    have := flatP_set t k x
    unfold set6 at this ⊢
    rw [show (k + 1) * 6 = k * 6 + 6 by omega, show k * 6 + 6 + 1 = (k * 6 + 1) + 6 by omega, show k * 6 + 6 + 2 = (k * 6 + 2) + 6 by omega, show k * 6 + 6 + 3 = (k * 6 + 3) + 6 by omega, show k * 6 + 6 + 4 = (k * 6 + 4) + 6 by omega, show k * 6 + 6 + 5 = (k * 6 + 5) + 6 by omega]
    simp [flatP, this]

/-- v is the call's own row of these packs. -/
def Packs (w : World) (base : Nat) (v : Value) (qs : List PkV) : Prop := w.ownsRow base 43 6 v qs.length (flatP qs)
theorem pkinfo : (Tryz.prog.info? 43).map (fun i => (i.zero, i.size, i.bytes)) = some (some (.agg #[.string ⟨#[]⟩, .string ⟨#[]⟩, .string ⟨#[]⟩, .slice none 0 0, .bool false, .slice none 0 0]), 6, 104) := by kernel_rfl
/-- The two lists of a pack are the call's own, in blocks from lo on. -/
def PkOwn (w : World) (lo : Nat) (q : PkV) : Prop := Sums w lo q.2.1 q.1.sums ∧ Strs w lo q.2.2 q.1.needs
theorem Packs.below {w w' : World} {base g n cap : Nat} {l : List PkV} (h : Packs w base (.slice (some ⟨g, 0, none⟩) n cap) l) (hb : Below w.heap.size w w') : Packs w' base (.slice (some ⟨g, 0, none⟩) n cap) l :=
  World.ownsRow.kept h (row := none) ⟨hb.os, hb.tape, hb.output, hb.size, fun i hi _ => hb.block i hi⟩ (by right; simp [Value.ownBlock])
theorem PkOwn.below {w w' : World} {lo : Nat} {q : PkV} (h : PkOwn w lo q) (hb : Below w.heap.size w w') : PkOwn w' lo q := ⟨h.1.below hb, h.2.below hb⟩
theorem Packs.cell {w : World} {base : Nat} {l : List PkV} {g n cap : Nat} (h : Packs w base (.slice (some ⟨g, 0, none⟩) n cap) l) (k : Nat) (hk : k < l.length) : w.cell? ⟨g, k * 6, none⟩ = some (.string ⟨l[k].1.name.toArray⟩) ∧ w.cell? ⟨g, k * 6 + 1, none⟩ = some (.string ⟨l[k].1.ver.toArray⟩) ∧ w.cell? ⟨g, k * 6 + 2, none⟩ = some (.string ⟨l[k].1.src.toArray⟩) ∧ w.cell? ⟨g, k * 6 + 3, none⟩ = some l[k].2.1 ∧ w.cell? ⟨g, k * 6 + 4, none⟩ = some (.bool l[k].1.dev) ∧ w.cell? ⟨g, k * 6 + 5, none⟩ = some l[k].2.2 := by
  have hadd : ∀ j, (⟨g, 0, none⟩ : Addr).add j = ⟨g, j, none⟩ := fun j => by unfold Addr.add; split <;> simp_all
  obtain ⟨e0, e1, e2, e3, e4, e5⟩ := flatP_get l k hk
  have h0 := World.ownsRow.cells (g := g) h rfl (k * 6) _ e0
  have h1 := World.ownsRow.cells (g := g) h rfl (k * 6 + 1) _ e1
  have h2 := World.ownsRow.cells (g := g) h rfl (k * 6 + 2) _ e2
  have h3 := World.ownsRow.cells (g := g) h rfl (k * 6 + 3) _ e3
  have h4 := World.ownsRow.cells (g := g) h rfl (k * 6 + 4) _ e4
  have h5 := World.ownsRow.cells (g := g) h rfl (k * 6 + 5) _ e5
  rw [hadd] at h0 h1 h2 h3 h4 h5
  exact ⟨h0, h1, h2, h3, h4, h5⟩
/-- A pack stored at its place. -/
def put6 (w : World) (g o : Nat) (q : PkV) : World := (((((w.setCell ⟨g, o, none⟩ (.string ⟨q.1.name.toArray⟩)).setCell ⟨g, o + 1, none⟩ (.string ⟨q.1.ver.toArray⟩)).setCell ⟨g, o + 2, none⟩ (.string ⟨q.1.src.toArray⟩)).setCell ⟨g, o + 3, none⟩ q.2.1).setCell ⟨g, o + 4, none⟩ (.bool q.1.dev)).setCell ⟨g, o + 5, none⟩ q.2.2
theorem Packs.set {w : World} {base g cap : Nat} {l : List PkV} (h : Packs w base (.slice (some ⟨g, 0, none⟩) l.length cap) l) (k : Nat) (x : PkV) :
    Packs (put6 w g (k * 6) x) base (.slice (some ⟨g, 0, none⟩) (l.set k x).length cap) (l.set k x) := by
  unfold Packs at h ⊢
  rw [List.length_set, ← flatP_set]
  exact (World.ownsRow.stored (World.ownsRow.stored (World.ownsRow.stored (World.ownsRow.stored (World.ownsRow.stored (World.ownsRow.stored h (k * 6) _).1 (k * 6 + 1) _).1 (k * 6 + 2) _).1 (k * 6 + 3) _).1 (k * 6 + 4) _).1 (k * 6 + 5) _).1
theorem Sums.nil (w : World) (base : Nat) : Sums w base (.slice none 0 0) [] := ⟨by simp [flat2], .inl ⟨rfl, rfl⟩⟩
theorem Sums.otherV {w : World} {base : Nat} {v : Value} {l : List Bd} (h : Sums w base v l) (b o : Nat) (x : Value) (hne : b < base) : Sums (w.setCell ⟨b, o, none⟩ x) base v l := by
  rcases h.form with ⟨rfl, rfl⟩ | ⟨g, cap, rfl, hg, _⟩
  · exact Sums.nil _ _
  · exact h.other b o x (by omega)
theorem PkOwn.other {w : World} {lo : Nat} {q : PkV} (h : PkOwn w lo q) (b o : Nat) (x : Value) (hne : b < lo) : PkOwn (w.setCell ⟨b, o, none⟩ x) lo q := ⟨h.1.otherV b o x hne, h.2.otherV b o x hne⟩
theorem PkOwn.put6 {w : World} {lo : Nat} {q : PkV} (h : PkOwn w lo q) (b o : Nat) (x : PkV) (hne : b < lo) : PkOwn (put6 w b o x) lo q :=
  (((((h.other _ _ _ hne).other _ _ _ hne).other _ _ _ hne).other _ _ _ hne).other _ _ _ hne).other _ _ _ hne
theorem below_put6 {n : Nat} {W V : World} {g o : Nat} {q : PkV} (h : Below n W V) (hg : n ≤ g) : Below n W (put6 V g o q) :=
  (((((h.setCell (p := ⟨g, o, none⟩) hg _).setCell (p := ⟨g, o + 1, none⟩) hg _).setCell (p := ⟨g, o + 2, none⟩) hg _).setCell (p := ⟨g, o + 3, none⟩) hg _).setCell (p := ⟨g, o + 4, none⟩) hg _).setCell (p := ⟨g, o + 5, none⟩) hg _

/-- The call's own list of packs, with all that hangs on it. -/
def PksOwn (w : World) (base : Nat) (v : Value) (ps : List Pk) : Prop := ∃ G cap qs, v = .slice (some ⟨G, 0, none⟩) ps.length cap ∧ base ≤ G ∧ G < w.heap.size ∧ qs.map (·.1) = ps ∧ Packs w base (.slice (some ⟨G, 0, none⟩) ps.length cap) qs ∧ ∀ q ∈ qs, PkOwn w (G + 1) q
theorem PksOwn.below {w w' : World} {base : Nat} {v : Value} {ps : List Pk} (h : PksOwn w base v ps) (hb : Below w.heap.size w w') : PksOwn w' base v ps := by
  obtain ⟨G, cap, qs, hv, h1, h2, h3, h4, h5⟩ := h
  exact ⟨G, cap, qs, hv, h1, Nat.lt_of_lt_of_le h2 hb.size, h3, h4.below hb, fun q hq => (h5 q hq).below hb⟩
theorem RdPs.of_own {w : World} {base : Nat} {v : Value} {ps : List Pk} (h : PksOwn w base v ps) : RdPs w v ps := by
  obtain ⟨G, cap, qs, rfl, h1, h2, rfl, h4, h5⟩ := h
  refine ⟨some ⟨G, 0, none⟩, cap, by simp, fun _ => ⟨G, 0, rfl, h2, fun k hk => ?_⟩⟩
  simp at hk
  obtain ⟨c0, c1, c2, c3, c4, c5⟩ := h4.cell k hk
  have ho := h5 qs[k] (List.getElem_mem hk)
  rw [Nat.zero_add]
  simp only [List.getElem_map]
  exact ⟨qs[k].2.1, qs[k].2.2, c0, c1, c2, c3, c4, c5, RdB.of_sums ho.1, RdS.of_strs ho.2⟩

/-- The first k packs with their values, then empty ones. -/
def zq : PkV := (⟨[], [], [], [], false, []⟩, .slice none 0 0, .slice none 0 0)
def tkP (qs : List PkV) (n : Nat) : List PkV := qs ++ List.replicate (n - qs.length) zq
theorem tkP_len (qs : List PkV) (n : Nat) (h : qs.length ≤ n) : (tkP qs n).length = n := by simp [tkP]; omega
theorem tkP_set (qs : List PkV) (n : Nat) (h : qs.length < n) (q : PkV) : (tkP qs n).set qs.length q = tkP (qs ++ [q]) n := by
  unfold tkP
  rw [List.set_append_right _ _ (by simp)]
  have e : n - qs.length = (n - (qs ++ [q]).length) + 1 := by simp; omega
  rw [e, List.replicate_succ, List.append_assoc]
  simp
theorem flatP_rep : ∀ n : Nat, flatP (List.replicate n zq) = (List.replicate n [Value.string ⟨#[]⟩, .string ⟨#[]⟩, .string ⟨#[]⟩, .slice none 0 0, .bool false, .slice none 0 0]).flatten
  | 0 => rfl
  | n + 1 => by
    rw [List.replicate_succ, List.replicate_succ, List.flatten_cons, ← flatP_rep n]
    simp [flatP, zq]
theorem packs_made {w : World} {base : Nat} {v : Value} {n : Nat} (h : w.ownsRow base 43 6 v n (madeCells (Value.agg #[.string ⟨#[]⟩, .string ⟨#[]⟩, .string ⟨#[]⟩, .slice none 0 0, .bool false, .slice none 0 0]).cells (n * 6)).toList) : Packs w base v (List.replicate n zq) := by
  unfold Packs
  have e : (madeCells (Value.agg #[.string ⟨#[]⟩, .string ⟨#[]⟩, .string ⟨#[]⟩, .slice none 0 0, .bool false, .slice none 0 0]).cells (n * 6)).toList = flatP (List.replicate n zq) := by
    apply List.ext_getElem?
    intro j
    by_cases hj : j < n * 6
    · obtain ⟨k, r, hr, rfl⟩ : ∃ k r, r < 6 ∧ j = k * 6 + r := ⟨j / 6, j % 6, by omega, by omega⟩
      have hk : k < (List.replicate n zq).length := by simp; omega
      obtain ⟨e0, e1, e2, e3, e4, e5⟩ := flatP_get (List.replicate n zq) k hk
      simp only [List.getElem_replicate] at e0 e1 e2 e3 e4 e5
      have hm : (k * 6 + r) % 6 = r := by omega
      match r, hr with
      | 0, _ => rw [Nat.add_zero] at *; rw [e0]; simp [madeCells, hj, Value.cells, zq]
      | 1, _ => rw [e1]; simp [madeCells, hj, Value.cells, hm, zq]
      | 2, _ => rw [e2]; simp [madeCells, hj, Value.cells, hm, zq]
      | 3, _ => rw [e3]; simp [madeCells, hj, Value.cells, hm, zq]
      | 4, _ => rw [e4]; simp [madeCells, hj, Value.cells, hm, zq]
      | 5, _ => rw [e5]; simp [madeCells, hj, Value.cells, hm, zq]
    · rw [List.getElem?_eq_none (by simp [madeCells]; omega), List.getElem?_eq_none (by rw [flatP_len]; simp; omega)]
  rw [← e]
  simpa using h
end Go.Proofs.YtcfkhfbhmjfhdaaGreatDoor

/-
  The laws' own helpers on lists of packs and on graphs: szPackS, toPackS, eqPackS, szGraph, toGraph, eqGraph.
-/
namespace Go.Proofs.YtcfkhfbhmjfhdaaGreatDoor
open Go.RowKit

set_option maxRecDepth 100000 in
set_option maxHeartbeats 2000000 in
theorem szPackS_any (v : Value) (ps : List Pk) (left : Int) (w : World) (hr : RdPs w v ps) (h0 : 0 ≤ left) (h1 : left ≤ 1048576) (hn : ps.length ≤ maxLen) (hm : ∀ p ∈ ps, PkFits p) :
    Calls Tryz.prog 20 #[v, .int .i64 left] w fun e w' => e = .returned (.int .i64 (szPs left ps)) ∧ Below w.heap.size w w' := by
  have HR := Lib.hid hr
  obtain ⟨A, ca, rfl, ha⟩ := hr
  have HM := Lib.hid hm
  clear hm ha
  unfold maxLen at hn
  by_cases hl : (ps.length : Int) ≤ left
  · go_enter Tryz.func20, Tryz.ntmps20
    go_wp2
    go_loopw [1, 5] (fun m i wr => ∃ (k : Nat) (z : Int), k ≤ ps.length ∧ i = .int .i64 k ∧ m = .int .i64 z ∧ 0 ≤ z ∧ z ≤ 1048576 ∧ Hid (z = left - (ps.length : Int) - (smP (ps.take k) : Int)) ∧ Below w.heap.size w wr) (fun _ i _ => ps.length - (intOf i).toNat)
    case atStart => exact ⟨0, _, Nat.zero_le _, rfl, rfl, by omega, by omega, Lib.hid (by simp [smP]), Below.refl _ _⟩
    case round =>
      obtain ⟨k, z, hk, rfl, rfl, z0, z1, HZ, hb⟩ := hrel
      by_cases hlt : k < ps.length
      · obtain ⟨g, off, rfl, _, a, b, d0, d1, d2, d3, d4, d5, ra, rb⟩ := (HR.out.below hb).at k hlt
        have HC := Lib.hid (szPack_any ps[k] a b z wr ra rb z0 z1 (HM.out ps[k] (List.getElem_mem hlt)))
        obtain ⟨A1, c1, rfl⟩ := ra.slice
        obtain ⟨A2, c2, rfl⟩ := rb.slice
        have k0 : (0 : Int) ≤ (k : Int) := by omega
        have k1 : (k : Int) < (ps.length : Int) := by omega
        have HS := Lib.hid (smP_snoc ps k hlt)
        have HT := Lib.hid (smP_le ps (k + 1))
        clear ra rb
        by_cases hz : (wP ps[k] : Int) ≤ z
        · have HO := Lib.hid (szP_yes hz)
          have hz2 : (0 : Int) ≤ z - (wP ps[k] : Int) := by omega
          have hz3 : z - (wP ps[k] : Int) ≤ 1048576 := by omega
          obtain ⟨y, hy⟩ : ∃ y, y = z - (wP ps[k] : Int) := ⟨_, rfl⟩
          rw [← hy] at HO hz2 hz3
          go_wp2_with fail
          refine HC.out.mono ?_
          rw [HO.out]
          rintro e w1 ⟨rfl, hb1⟩
          have B1 := hb.trans (hb1.mono hb.size)
          go_wp2_with fail
          go_roundw
          case rel => exact ⟨k + 1, _, by omega, by go_num, rfl, by omega, by omega, Lib.hid (by have := HZ.out; have := HS.out; omega), B1⟩
          case measure => simp [intOf]; omega
        · have HO := Lib.hid (szP_no hz)
          have HW : Hid (szPs left ps = -1) := Lib.hid (szPs_no (by have := HZ.out; have := HS.out; have := HT.out; omega))
          go_wp2_with fail
          refine HC.out.mono ?_
          rw [HO.out]
          rintro e w1 ⟨rfl, hb1⟩
          have B1 := hb.trans (hb1.mono hb.size)
          go_wp2_with fail
          go_ret
          exact ⟨ret_int HW.out.symm, B1⟩
      · have HX : Hid (szPs left ps = z) := Lib.hid (by
          have hz := HZ.out
          rw [List.take_of_length_le (by omega)] at hz
          rw [szPs_yes (by omega)]; omega)
        go_wp2_with fail
        go_ret
        exact ⟨ret_int HX.out.symm, hb⟩
  · have HX : Hid (szPs left ps = -1) := Lib.hid (szPs_no (by omega))
    go_enter Tryz.func20, Tryz.ntmps20
    go_wp2
    go_ret
    exact ⟨ret_int HX.out.symm, Below.refl _ _⟩

set_option maxRecDepth 100000 in
set_option maxHeartbeats 2000000 in
theorem toPackS_any (v : Value) (ps : List Pk) (w : World) (hr : RdPs w v ps) (hs : SmPs ps) :
    Calls Tryz.prog 25 #[v] w fun e w' => ∃ u, e = .returned u ∧ PksOwn w' w.heap.size u ps ∧ Below w.heap.size w w' := by
  have HR := Lib.hid hr
  have HS := Lib.hid hs
  have hl : ps.length ≤ 1048576 := by unfold SmPs at hs; omega
  obtain ⟨A, ca, rfl, ha⟩ := hr
  obtain ⟨i0, hi, hz0, hz1, hz2⟩ := info_parts pkinfo
  go_enter Tryz.func25, Tryz.ntmps25
  go_wp2_with (at_make; refine wpList_make_full _ rfl _ _ 28 rfl w.heap.size 43 i0 (.agg #[.string ⟨#[]⟩, .string ⟨#[]⟩, .string ⟨#[]⟩, .slice none 0 0, .bool false, .slice none 0 0]) 6 Tryz.underlying28 hi hz0 hz1 .i64 .i64 _ _ ps.length rfl rfl rfl rfl (by rw [hz2]; omega) (by unfold maxLen; omega) (Nat.le_refl _) ?_; intro w1 hown1 hg1)
  have hS1 := packs_made hown1
  have hb1 : Below w.heap.size w w1 := (Below.refl _ _).grown hg1 (Nat.le_refl _) (by simp)
  have hz3 : w.heap.size < w1.heap.size := by
    rcases hown1.2 with ⟨hv, _⟩ | ⟨g, cap, cur, hv, hb, hh, _⟩
    · cases hv
    · simp only [Value.slice.injEq, Option.some.injEq, Addr.mk.injEq] at hv
      have := lt_of_heap hh; omega
  clear hown1 hg1 hi hz0 hz1 hz2 ha hs
  go_loopw [4] (fun i wr => ∃ (k : Nat) (qs : List PkV), k ≤ ps.length ∧ i = .int .i64 k ∧ qs.map (·.1) = ps.take k ∧ Packs wr w.heap.size (.slice (some ⟨w.heap.size, 0, none⟩) ps.length ps.length) (tkP qs ps.length) ∧ Hid (∀ q ∈ qs, PkOwn wr (w.heap.size + 1) q) ∧ Below w.heap.size w wr ∧ w.heap.size < wr.heap.size) (fun i _ => ps.length - (intOf i).toNat)
  case atStart => exact ⟨0, [], Nat.zero_le _, rfl, by simp, by simpa [tkP] using hS1, Lib.hid (fun q h => by cases h), hb1, hz3⟩
  case round =>
    obtain ⟨k, qs, hk, rfl, hq, hS, HQ, hb, hgt⟩ := hrel
    have hqk : qs.length = k := by have := congrArg List.length hq; simp at this; omega
    by_cases hlt : k < ps.length
    · obtain ⟨g, off, rfl, _, a, b, d0, d1, d2, d3, d4, d5, ra, rb⟩ := (HR.out.below hb).at k hlt
      have HC := Lib.hid (toPack_any ps[k] a b wr ra rb (HS.out.get k hlt))
      obtain ⟨A1, c1, rfl⟩ := ra.slice
      obtain ⟨A2, c2, rfl⟩ := rb.slice
      have k0 : (0 : Int) ≤ (k : Int) := by omega
      have k1 : (k : Int) < (ps.length : Int) := by omega
      clear ra rb hS1 hb1 hz3
      go_wp2_with fail
      refine HC.out.mono ?_
      rintro e w2 ⟨g1, e1, g2, e2, rfl, hA, hB, hne, hb2⟩
      have hS2 := hS.below hb2
      have hS' : Packs w2 w.heap.size (.slice (some ⟨w.heap.size, 0, none⟩) (tkP qs ps.length).length ps.length) (tkP qs ps.length) := by rw [tkP_len qs _ (by omega)]; exact hS2
      obtain ⟨f0, f1, f2, f3, f4, f5⟩ := hS2.cell k (by rw [tkP_len qs _ (by omega)]; exact hlt)
      have fz : ∀ j, w2.frozen? ⟨w.heap.size, j, none⟩ = false := fun j => World.ownsRow.frozenAt hS' j
      have B2 := hb.trans (hb2.mono hb.size)
      have hq' : (qs ++ [(ps[k], (Value.slice (some ⟨g1, 0, none⟩) ps[k].sums.length e1, Value.slice (some ⟨g2, 0, none⟩) ps[k].needs.length e2))]).map (·.1) = ps.take (k + 1) := by
        rw [List.map_append, hq, List.take_succ_eq_append_getElem hlt]; rfl
      have HQ2 : Hid (∀ q ∈ qs ++ [(ps[k], (Value.slice (some ⟨g1, 0, none⟩) ps[k].sums.length e1, Value.slice (some ⟨g2, 0, none⟩) ps[k].needs.length e2))], PkOwn w2 (w.heap.size + 1) q) := Lib.hid (by
        intro q hq
        rcases List.mem_append.1 hq with h | h
        · exact (HQ.out q h).below hb2
        · simp at h; subst h; exact ⟨hA.weaken (by omega), hB.weaken (by omega)⟩)
      have hgt2 : w.heap.size < w2.heap.size := Nat.lt_of_lt_of_le hgt hb2.size
      have HP := Lib.hid (hS'.set k (ps[k], (Value.slice (some ⟨g1, 0, none⟩) ps[k].sums.length e1, Value.slice (some ⟨g2, 0, none⟩) ps[k].needs.length e2)))
      have HT := Lib.hid (by have := tkP_set qs ps.length (by omega) (ps[k], (Value.slice (some ⟨g1, 0, none⟩) ps[k].sums.length e1, Value.slice (some ⟨g2, 0, none⟩) ps[k].needs.length e2)); rw [hqk] at this; exact this)
      have HQ3 := Lib.hid (fun q h => (HQ2.out q h).put6 w.heap.size (k * 6) (ps[k], (Value.slice (some ⟨g1, 0, none⟩) ps[k].sums.length e1, Value.slice (some ⟨g2, 0, none⟩) ps[k].needs.length e2)) (by omega))
      have HB3 := Lib.hid (below_put6 (o := k * 6) (q := (ps[k], (Value.slice (some ⟨g1, 0, none⟩) ps[k].sums.length e1, Value.slice (some ⟨g2, 0, none⟩) ps[k].needs.length e2))) B2 (Nat.le_refl _))
      rw [HT.out, tkP_len _ _ (by simp; omega)] at HP
      simp only [put6] at HP HQ3 HB3
      clear hS hb hb2 d0 d1 d2 d3 d4 d5 HQ hA hB hS' HQ2 B2 HT HC
      go_wp2_with fail
      go_roundw
      case rel => exact ⟨k + 1, _, by omega, by go_num, hq', HP.out, HQ3, HB3.out, by simp only [World.size_setCell]; exact hgt2⟩
      case measure => simp [intOf]; omega
    · obtain rfl : k = ps.length := by omega
      clear hS1 hb1
      go_wp2_with fail
      go_ret
      refine ⟨_, rfl, ⟨w.heap.size, _, qs, rfl, Nat.le_refl _, hgt, by rw [hq]; simp, ?_, HQ.out⟩, hb⟩
      simpa [tkP, hqk] using hS

set_option maxRecDepth 100000 in
set_option maxHeartbeats 2000000 in
theorem eqPackS_same (va vb : Value) (ps : List Pk) (w : World) (ha : RdPs w va ps) (hb : RdPs w vb ps) (hs : SmPs ps) :
    Calls Tryz.prog 30 #[va, vb] w fun e w' => e = .returned (.bool true) ∧ Below w.heap.size w w' := by
  have HA := Lib.hid ha
  have HB := Lib.hid hb
  have HS := Lib.hid hs
  have hl : ps.length ≤ 1048576 := by unfold SmPs at hs; omega
  obtain ⟨A, ca, rfl, ha⟩ := ha
  obtain ⟨B, cb, rfl, hb⟩ := hb
  have q0 : ((ps.length : Int) != (ps.length : Int)) = false := int_bne_false rfl
  clear ha hb hs
  go_enter Tryz.func30, Tryz.ntmps30
  go_wp2_with fail
  go_loopw [5] (fun i wr => ∃ k : Nat, k ≤ ps.length ∧ i = .int .i64 k ∧ Below w.heap.size w wr) (fun i _ => ps.length - (intOf i).toNat)
  case atStart => exact ⟨0, Nat.zero_le _, rfl, Below.refl _ _⟩
  case round =>
    obtain ⟨k, hk, rfl, hw⟩ := hrel
    by_cases hlt : k < ps.length
    · obtain ⟨g, off, rfl, hg, a, b, d0, d1, d2, d3, d4, d5, ra, rb⟩ := (HA.out.below hw).at k hlt
      obtain ⟨g', off', rfl, hg', a', b', e0, e1, e2, e3, e4, e5, ra', rb'⟩ := (HB.out.below hw).at k hlt
      have HC := Lib.hid (fun (W : World) (h : Below wr.heap.size wr W) => eqPack_same ps[k] a b a' b' W (ra.below h) (rb.below h) (ra'.below h) (rb'.below h) (HS.out.get k hlt))
      obtain ⟨A1, c1, rfl⟩ := ra.slice
      obtain ⟨A2, c2, rfl⟩ := rb.slice
      obtain ⟨A3, c3, rfl⟩ := ra'.slice
      obtain ⟨A4, c4, rfl⟩ := rb'.slice
      have k0 : (0 : Int) ≤ (k : Int) := by omega
      have k1 : (k : Int) < (ps.length : Int) := by omega
      clear ra rb ra' rb'
      go_wp2_with fail
      go_region_with (first | (go_at_call 48; refine (HC.out _ (below_drewN _ _ 1)).mono ?_; rintro e w1 ⟨rfl, hb1⟩))
      all_goals
        go_wp2_with fail
        go_roundw
        case rel => exact ⟨k + 1, by omega, by go_num, hw.trans ((below_drewN _ _ 1).trans (hb1.mono (by first | exact Nat.le_refl _ | exact hw.size)))⟩
        case measure => simp [intOf]; omega
    · go_wp2_with fail
      go_ret
      exact ⟨rfl, hw⟩
end Go.Proofs.YtcfkhfbhmjfhdaaGreatDoor

/-
  The laws' own helpers on graphs: szGraph, toGraph, eqGraph.
-/
namespace Go.Proofs.YtcfkhfbhmjfhdaaGreatDoor
open Go.RowKit

/-- How much is in a graph. -/
def szG (left : Int) (ts : List (List UInt8)) (ps : List Pk) : Int := if szI left ts < 0 then -1 else szPs (szI left ts) ps
/-- A small graph. -/
def SmG (ts : List (List UInt8)) (ps : List Pk) : Prop := ts.length + smL ts ≤ 1048576 ∧ SmPs ps
theorem szG_good {ts : List (List UInt8)} {ps : List Pk} {left : Int} (hl : left ≤ 1048576) (h0 : 0 ≤ left) (h : ¬ szG left ts ps < 0) : SmG ts ps ∧ szG left ts ps ≤ 1048576 := by
  unfold szG at h ⊢
  split at h
  · omega
  · rename_i h'
    rw [if_neg h']
    unfold szI at h' h ⊢
    split at h'
    · rename_i h1
      rw [if_pos h1] at h ⊢
      unfold szPs at h ⊢
      split at h
      · rename_i h2
        rw [if_pos h2]
        exact ⟨⟨by omega, by unfold SmPs; omega⟩, by omega⟩
      · omega
    · omega

theorem cellsG {V : World} {B : Nat} {T : TypeId} {v0 v1 : Value} (h : V.heap[B]? = some (.cells #[v0, v1] T)) : V.cell? ⟨B, 0, none⟩ = some v0 ∧ V.cell? ⟨B, 1, none⟩ = some v1 := by
  simp [World.cell?, h]
theorem frozenG {V : World} {B : Nat} {T : TypeId} {v0 v1 : Value} (h : V.heap[B]? = some (.cells #[v0, v1] T)) : ∀ o, V.frozen? ⟨B, o, none⟩ = false := by
  intro o; simp [World.frozen?, h]

set_option maxRecDepth 100000 in
set_option maxHeartbeats 2000000 in
theorem szGraph_any (vt vp : Value) (ts : List (List UInt8)) (ps : List Pk) (left : Int) (w : World) (ht : RdS w vt ts) (hp : RdPs w vp ps) (h0 : 0 ≤ left) (h1 : left ≤ 1048576) (nt : ts.length ≤ maxLen) (mt : ∀ l ∈ ts, l.length ≤ maxLen) (np : ps.length ≤ maxLen) (mp : ∀ p ∈ ps, PkFits p) :
    Calls Tryz.prog 6 #[.agg #[vt, vp], .int .i64 left] w fun e w' => e = .returned (.int .i64 (szG left ts ps)) ∧ Below w.heap.size w w' := by
  have HA := Lib.hid (fun (W : World) (h : Below w.heap.size w W) => szStringS_any vt ts left W (ht.below h) h0 h1 nt mt)
  have HB := Lib.hid (fun (W : World) (h : Below w.heap.size w W) (z : Int) (z0 : 0 ≤ z) (z1 : z ≤ 1048576) => szPackS_any vp ps z W (hp.below h) z0 z1 np mp)
  obtain ⟨A, ca, rfl⟩ := ht.slice
  obtain ⟨B, cb, rfl, _⟩ := hp
  have B0 : Below w.heap.size w (w.alloc (.cells #[.slice A ts.length ca, .slice B ps.length cb] 25)) := (Below.refl _ _).alloc (Nat.le_refl _) _
  clear ht
  obtain ⟨z, HZ⟩ : ∃ z, Hid (szI left ts = z) := ⟨_, Lib.hid rfl⟩
  by_cases q1 : z < 0
  · have HX : Hid (szG left ts ps = -1) := Lib.hid (by unfold szG; rw [HZ.out, if_pos q1])
    go_enter Tryz.func6, Tryz.ntmps6
    go_wp2_with fail
    refine (HA.out _ B0).mono ?_
    rw [HZ.out]
    rintro e w1 ⟨rfl, rfl⟩
    go_wp2_with fail
    go_ret
    exact ⟨ret_int HX.out.symm, B0⟩
  have hz : z ≤ 1048576 := by have := HZ.out; unfold szI at this; split at this <;> omega
  obtain ⟨u, HU⟩ : ∃ u, Hid (szPs z ps = u) := ⟨_, Lib.hid rfl⟩
  have HX : Hid (szG left ts ps = u) := Lib.hid (by unfold szG; rw [HZ.out, if_neg q1, HU.out])
  have hu : u = -1 ∨ 0 ≤ u := by have := HU.out; unfold szPs at this; split at this <;> omega
  rcases hu with rfl | hu
  all_goals
    go_enter Tryz.func6, Tryz.ntmps6
    go_wp2_with fail
    refine (HA.out _ B0).mono ?_
    rw [HZ.out]
    rintro e w1 ⟨rfl, rfl⟩
    go_wp2_with fail
    refine (HB.out _ B0 _ (by omega) (by omega)).mono ?_
    rw [HU.out]
    rintro e w2 ⟨rfl, hb2⟩
    have B2 := B0.trans (hb2.mono B0.size)
    go_wp2_with fail
    go_ret
    exact ⟨ret_int HX.out.symm, B2⟩

/-- A graph of the call's own: its texts and its packs. -/
def GrOwn (w : World) (base : Nat) (a b : Value) (ts : List (List UInt8)) (ps : List Pk) : Prop := Strs w base a ts ∧ PksOwn w base b ps
theorem GrOwn.below {w w' : World} {base : Nat} {a b : Value} {ts : List (List UInt8)} {ps : List Pk} (h : GrOwn w base a b ts ps) (hb : Below w.heap.size w w') : GrOwn w' base a b ts ps := ⟨h.1.below hb, h.2.below hb⟩
theorem Strs.kept {w w' : World} {base : Nat} {v : Value} {l : List (List UInt8)} (h : Strs w base v l) (b o : Nat) (x : Value) (hb : b < base) (e : w' = w.setCell ⟨b, o, none⟩ x) : Strs w' base v l := by subst e; exact h.otherV b o x hb
theorem PksOwn.other {w : World} {base : Nat} {v : Value} {ps : List Pk} (h : PksOwn w base v ps) (b o : Nat) (x : Value) (hb : b < base) : PksOwn (w.setCell ⟨b, o, none⟩ x) base v ps := by
  obtain ⟨G, cap, qs, hv, h1, h2, h3, h4, h5⟩ := h
  refine ⟨G, cap, qs, hv, h1, by simpa using h2, h3, ?_, fun q hq => (h5 q hq).other b o x (by omega)⟩
  exact World.ownsRow.kept h4 (row := some b) ⟨rfl, rfl, rfl, by simp, fun k _ hk => heap_setCell_other w ⟨b, o, none⟩ k x (fun e => hk (by simp [e]))⟩ (by right; simp [Value.ownBlock]; omega)
theorem PksOwn.weaken {w : World} {base base' : Nat} {v : Value} {ps : List Pk} (h : PksOwn w base v ps) (hb : base' ≤ base) : PksOwn w base' v ps := by
  obtain ⟨G, cap, qs, hv, h1, h2, h3, h4, h5⟩ := h
  refine ⟨G, cap, qs, hv, by omega, h2, h3, ?_, h5⟩
  refine ⟨h4.1, ?_⟩
  rcases h4.2 with h | ⟨g, cap, cur, hv, hg, hh, hr⟩
  · exact .inl h
  · exact .inr ⟨g, cap, cur, hv, Nat.le_trans hb hg, hh, hr⟩

set_option maxRecDepth 100000 in
set_option maxHeartbeats 2000000 in
theorem toGraph_any (vt vp : Value) (ts : List (List UInt8)) (ps : List Pk) (w : World) (ht : RdS w vt ts) (hp : RdPs w vp ps) (hs : SmG ts ps) :
    Calls Tryz.prog 8 #[.agg #[vt, vp]] w fun e w' => ∃ A c B d, e = .returned (.agg #[.slice A ts.length c, .slice B ps.length d]) ∧ GrOwn w' w.heap.size (.slice A ts.length c) (.slice B ps.length d) ts ps ∧ Below w.heap.size w w' := by
  have HA := Lib.hid (fun (W : World) (h : Below w.heap.size w W) => toStringS_any vt ts W (ht.below h) (by have := hs.1; omega))
  have HB := Lib.hid (fun (W : World) (h : Below w.heap.size w W) => toPackS_any vp ps W (hp.below h) hs.2)
  obtain ⟨A, ca, rfl⟩ := ht.slice
  obtain ⟨B, cb, rfl, _⟩ := hp
  clear ht
  go_enter Tryz.func8, Tryz.ntmps8
  go_wp2_with fail
  refine (HA.out _ ?_).mono ?_
  · exact (((Below.refl _ _).alloc (Nat.le_refl _) _).alloc (by simp) _).alloc (by simp; omega) _
  rintro e w1 ⟨g1, c1, rfl, hS1, hb1⟩
  have b0 := keepB (keepA (keepA (heap_alloc_new w _) _) _) hb1
  have b1 := keepB (keepA (heap_new (n := w.heap.size + 1) (by simp) _) _) hb1
  have b2 := keepB (heap_new (n := w.heap.size + 1 + 1) (by simp) _) hb1
  have B1 : Below w.heap.size w w1 := ((((Below.refl _ w).alloc (Nat.le_refl _) _).alloc (by simp) _).alloc (by simp; omega) _).trans (hb1.mono (by simp; omega))
  have hg1 : w.heap.size + 3 ≤ g1 := by have := hS1.lo; simp at this; omega
  have hl1 : g1 < w1.heap.size := hS1.block_lt g1 rfl
  have c0 := cellsG b0
  have c2 := cellsG b2
  have f2 := frozenG b2
  clear hb1
  go_wp2_with fail
  refine (HB.out _ (B1.setCell (p := ⟨w.heap.size + 1 + 1, 0, none⟩) (by simp; omega) _)).mono ?_
  rintro e w2 ⟨u, rfl, hP, hb2⟩
  have d1 := keepB (heap_other b1 _ (by omega : w.heap.size + 1 + 1 ≠ w.heap.size + 1)) hb2
  have d2 := keepB (heap_setN b2 _) hb2
  have B2 : Below w.heap.size w w2 := (B1.setCell (p := ⟨w.heap.size + 1 + 1, 0, none⟩) (by simp; omega) _).trans (hb2.mono (by simp; omega))
  have hS2 := ((hS1.weaken (base' := w.heap.size + 1 + 1 + 1) (by simp)).other (w.heap.size + 1 + 1) 0 (.slice (some ⟨g1, 0, none⟩) ts.length c1) (by omega)).below hb2
  have hP2 := hP.weaken (base' := w.heap.size + 1 + 1 + 1) (by simp; omega)
  obtain ⟨G, cp, qs, rfl, _⟩ := id hP2
  clear hb2 hS1 hP b0 b1 b2 c0 c2 f2 B1
  have e1 := cellsG d1
  have e2 := cellsG d2
  have f1 := frozenG d1
  have f2 := frozenG d2
  go_wp2_with fail
  refine bodyPost_ret (v := .agg #[.slice (some ⟨g1, 0, none⟩) ts.length c1, .slice (some ⟨G, 0, none⟩) ps.length cp]) ?_ rfl ⟨_, _, _, _, rfl, ⟨?_, ?_⟩, ?_⟩
  · simp [results, Tryz.results8, go_sem, e1]
  · exact (((hS2.otherV _ _ _ (by omega)).otherV _ _ _ (by omega)).otherV _ _ _ (by omega)).weaken (by omega)
  · exact (((hP2.other _ _ _ (by omega)).other _ _ _ (by omega)).other _ _ _ (by omega)).weaken (by omega)
  · exact ((B2.setCell (by simp; omega) _).setCell (by simp) _).setCell (by simp) _

set_option maxRecDepth 100000 in
set_option maxHeartbeats 2000000 in
theorem eqGraph_same (a b a' b' : Value) (ts : List (List UInt8)) (ps : List Pk) (w : World) (ha : RdS w a ts) (hb : RdPs w b ps) (ha' : RdS w a' ts) (hb' : RdPs w b' ps) (hs : SmG ts ps) :
    Calls Tryz.prog 10 #[.agg #[a, b], .agg #[a', b']] w fun e w' => e = .returned (.bool true) ∧ Below w.heap.size w w' := by
  have HA := Lib.hid (fun (W : World) (h : Below w.heap.size w W) => eqStringS_same a a' ts W (ha.below h) (ha'.below h) (by have := hs.1; omega))
  have HB := Lib.hid (fun (W : World) (h : Below w.heap.size w W) => eqPackS_same b b' ps W (hb.below h) (hb'.below h) hs.2)
  obtain ⟨A, ca, rfl⟩ := ha.slice
  obtain ⟨B, cb, rfl, _⟩ := hb
  obtain ⟨A', ca', rfl⟩ := ha'.slice
  obtain ⟨B', cb', rfl, _⟩ := hb'
  clear ha ha'
  have B0 : Below w.heap.size w ((w.alloc (.cells #[.slice A ts.length ca, .slice B ps.length cb] 30)).alloc (.cells #[.slice A' ts.length ca', .slice B' ps.length cb'] 30)) := ((Below.refl _ _).alloc (Nat.le_refl _) _).alloc (by simp) _
  go_enter Tryz.func10, Tryz.ntmps10
  go_wp2_with fail
  refine (HA.out _ B0).mono ?_
  rintro e w1 ⟨rfl, n, rfl⟩
  go_wp2_with fail
  refine (HB.out _ (B0.trans (below_drewN _ _ n))).mono ?_
  rintro e w2 ⟨rfl, hb2⟩
  have B2 := (B0.trans (below_drewN _ _ n)).trans (hb2.mono (by simp; omega))
  go_wp2_with fail
  go_ret
  exact ⟨rfl, B2⟩
end Go.Proofs.YtcfkhfbhmjfhdaaGreatDoor

/-
  The versions of the packs of a name, sorted: spec.Versions, impl.Versions.
-/
namespace Go.Proofs.YtcfkhfbhmjfhdaaGreatDoor
open Go.RowKit

/-- The versions of those among the first k packs that have a name. -/
def vsT (ps : List Pk) (name : List UInt8) (k : Nat) : List (List UInt8) := ((ps.take k).filter fun p => p.name == name).map (·.ver)
theorem vsT_yes {ps : List Pk} {name : List UInt8} {k : Nat} (h : k < ps.length) (hm : (ps[k].name == name) = true) : vsT ps name (k + 1) = vsT ps name k ++ [ps[k].ver] := by
  unfold vsT; rw [List.take_succ_eq_append_getElem h, List.filter_append, List.map_append]; simp [hm]
theorem vsT_no {ps : List Pk} {name : List UInt8} {k : Nat} (h : k < ps.length) (hm : (ps[k].name == name) = false) : vsT ps name (k + 1) = vsT ps name k := by
  unfold vsT; rw [List.take_succ_eq_append_getElem h, List.filter_append, List.map_append]; simp [hm]
theorem vsT_len (ps : List Pk) (name : List UInt8) (k : Nat) : (vsT ps name k).length ≤ ps.length := by
  unfold vsT; rw [List.length_map]
  have h1 := List.length_filter_le (fun p : Pk => p.name == name) (ps.take k)
  have h2 := List.length_take_le k ps
  have h3 : (ps.take k).length ≤ ps.length := by rw [List.length_take]; omega
  omega
theorem vsT_sm {ps : List Pk} (hs : SmPs ps) (name : List UInt8) (k : Nat) : Sm (vsT ps name k) := by
  refine ⟨?_, fun l hl => ?_⟩
  · have := vsT_len ps name k; unfold SmPs at hs; omega
  · obtain ⟨p, hp, rfl⟩ := List.mem_map.1 hl
    have hp2 := List.mem_of_mem_take (List.mem_filter.1 hp).1
    obtain ⟨j, hj, rfl⟩ := List.mem_iff_getElem.1 hp2
    exact (hs.get j hj).texts.2.1
def VsIs (w : World) (ls : List (List UInt8)) (e : Ending) (w' : World) : Prop := ∃ v out, e = .returned v ∧ Strs w' w.heap.size v out ∧ SortOf ls out ∧ Below w.heap.size w w'
theorem vsIs_of {w W w' : World} {ls out : List (List UInt8)} {v : Value} (hb : Below w.heap.size w W) (hS : Strs w' W.heap.size v out) (ho : SortOf ls out) (hb2 : Below W.heap.size W w') : VsIs w ls (.returned v) w' :=
  ⟨v, out, rfl, hS.weaken hb.size, ho, hb.trans (hb2.mono hb.size)⟩

set_option maxRecDepth 100000 in
set_option maxHeartbeats 600000 in
theorem specVersions_any (T : Option Addr) (tn tc : Nat) (vp : Value) (ps : List Pk) (name : List UInt8) (w : World) (hp : RdPs w vp ps) (hs : SmPs ps) :
    Calls Tryz.prog 17 #[.agg #[.slice T tn tc, vp], .string ⟨name.toArray⟩] w (VsIs w (vsT ps name ps.length)) := by
  have hn : ps.length ≤ 1048576 := by unfold SmPs at hs; omega
  have HR := Lib.hid hp
  have HSO := Lib.hid (fun (W : World) (v : Value) (h : RdS W v (vsT ps name ps.length)) => specSortVersions_any v _ W h (vsT_sm hs name ps.length))
  obtain ⟨A, ca, rfl, _⟩ := hp
  obtain ⟨R, HRR⟩ : ∃ R, Hid (vsT ps name ps.length = R) := ⟨_, Lib.hid rfl⟩
  rw [HRR.out]
  simp only [HRR.out] at HSO
  have HV := Lib.hid (fun (W w' : World) (out : List (List UInt8)) (v : Value) (hb : Below w.heap.size w W) (hS : Strs w' W.heap.size v out) (ho : SortOf R out) (hb2 : Below W.heap.size W w') => vsIs_of hb hS ho hb2)
  have B0 : Below w.heap.size w ((w.alloc (.cells #[.slice T tn tc, .slice A ps.length ca] 30)).alloc (.cells #[] 9)) := ((Below.refl _ _).alloc (Nat.le_refl _) _).alloc (by simp) _
  have b0 := keepA (heap_alloc_new w (.cells #[.slice T tn tc, .slice A ps.length ca] 30)) (.cells #[] 9)
  have S0 : Strs ((w.alloc (.cells #[.slice T tn tc, .slice A ps.length ca] 30)).alloc (.cells #[] 9)) (w.heap.size + 1) (.slice (some ⟨w.heap.size + 1, 0, none⟩) 0 0) [] := Strs.emptyAt _ _ _ (by simp) (Nat.le_refl _)
  clear hs
  go_enter Tryz.func17, Tryz.ntmps17
  go_wp2_with fail
  go_loopw [5, 6] (fun u i wr => ∃ (k : Nat) (out : List (List UInt8)), k ≤ ps.length ∧ i = .int .i64 k ∧ Hid (out = vsT ps name k) ∧ out.length ≤ k ∧ Strs wr (w.heap.size + 1) u out ∧ Below w.heap.size w wr ∧ wr.heap[w.heap.size]? = some (.cells #[.slice T tn tc, .slice A ps.length ca] 30)) (fun _ i _ => ps.length - (intOf i).toNat)
  case atStart => exact ⟨0, [], Nat.zero_le _, rfl, Lib.hid (by simp [vsT]), by simp, S0, B0, b0⟩
  case round =>
    obtain ⟨k, out, hk, rfl, HO, hol, hS, hb, hbox⟩ := hrel
    obtain ⟨x0, x1⟩ := cellsG hbox
    have HBX := Lib.hid hbox
    have hbs : w.heap.size + 1 ≤ wr.heap.size := lt_of_heap hbox
    clear B0 b0 S0 hbox
    by_cases hlt : k < ps.length
    · have k0 : (0 : Int) ≤ (k : Int) := by omega
      have k1 : (k : Int) < (ps.length : Int) := by omega
      obtain ⟨g, off, rfl, hg, a, b, d0, d1, d2, d3, d4, d5, ra, rb⟩ := (HR.out.below hb).at k hlt
      have HY := Lib.hid (fun h => vsT_yes (name := name) hlt h)
      have HNO := Lib.hid (fun h => vsT_no (name := name) hlt h)
      obtain ⟨nm, HNM⟩ : ∃ nm, Hid (ps[k].name = nm) := ⟨_, Lib.hid rfl⟩
      obtain ⟨vr, HVR⟩ : ∃ vr, Hid (ps[k].ver = vr) := ⟨_, Lib.hid rfl⟩
      simp only [HNM.out, HVR.out] at HY HNO
      rw [HNM.out] at d0
      rw [HVR.out] at d1
      clear ra rb d2 d3 d4 d5
      cases hm : nm == name with
      | false =>
        have HN3 := Lib.hid (HNO.out hm)
        clear HY HNO
        go_wp2_with fail
        go_roundw
        case rel => exact ⟨k + 1, out, by omega, by go_num, Lib.hid (by rw [HN3.out]; exact HO.out), by omega, hS, hb, HBX.out⟩
        case measure => simp [intOf]; omega
      | true =>
        have HN3 := Lib.hid (HY.out hm)
        clear HY HNO
        go_wp2_with (at_builtin; refine wpList_append_strs rfl _ _ rfl (w.heap.size + 1) _ _ rfl (hS.alloc _) vr wr.heap.size 1 _ _ rfl (heap_alloc_new wr _) (by omega) (by simp; omega) ?_; intro g4 c4 w4 S4 hb4)
        have b4 : w4.heap[w.heap.size]? = some (.cells #[.slice T tn tc, .slice (some ⟨g, off, none⟩) ps.length ca] 30) := (hb4.block _ (by omega)).trans (keepA HBX.out _)
        have B4 : Below w.heap.size w w4 := (hb.alloc hb.size _).trans (hb4.mono (by omega))
        go_roundw
        case rel => exact ⟨k + 1, out ++ [vr], by omega, by go_num, Lib.hid (by rw [HN3.out, HO.out]), by simp; omega, by simpa using S4, B4, b4⟩
        case measure => simp [intOf]; omega
    · have HF : Hid (out = R) := Lib.hid (by rw [← HRR.out, HO.out, show k = ps.length by omega])
      obtain ⟨U, uc, rfl⟩ := hS.slice
      have HSR := Lib.hid (HSO.out wr (.slice U out.length uc) (by rw [← HF.out]; exact RdS.of_strs hS))
      clear hS
      go_wp2_with fail
      refine HSR.out.mono ?_
      rintro e w1 ⟨u1, o1, rfl, S1, hso, hb1⟩
      have HVV := Lib.hid (HV.out _ _ _ _ hb S1 hso hb1)
      obtain ⟨U1, c1, rfl⟩ := S1.slice
      go_wp2_with fail
      go_ret
      exact HVV.out

set_option maxRecDepth 100000 in
set_option maxHeartbeats 600000 in
theorem implVersions_any (T : Option Addr) (tn tc : Nat) (vp : Value) (ps : List Pk) (name : List UInt8) (w : World) (hp : RdPs w vp ps) (hs : SmPs ps) (htab : Tab w) :
    Calls Tryz.prog 18 #[.agg #[.slice T tn tc, vp], .string ⟨name.toArray⟩] w (VsIs w (vsT ps name ps.length)) := by
  have hn : ps.length ≤ 1048576 := by unfold SmPs at hs; omega
  have HR := Lib.hid hp
  have HSO := Lib.hid (fun (W : World) (v : Value) (hb : Below w.heap.size w W) (h : RdS W v (vsT ps name ps.length)) => implSortVersions_any v _ W h (vsT_sm hs name ps.length) (tab_below htab hb))
  obtain ⟨A, ca, rfl, _⟩ := hp
  obtain ⟨R, HRR⟩ : ∃ R, Hid (vsT ps name ps.length = R) := ⟨_, Lib.hid rfl⟩
  rw [HRR.out]
  simp only [HRR.out] at HSO
  have HV := Lib.hid (fun (W w' : World) (out : List (List UInt8)) (v : Value) (hb : Below w.heap.size w W) (hS : Strs w' W.heap.size v out) (ho : SortOf R out) (hb2 : Below W.heap.size W w') => vsIs_of hb hS ho hb2)
  have B0 : Below w.heap.size w ((w.alloc (.cells #[.slice T tn tc, .slice A ps.length ca] 30)).alloc (.cells #[] 9)) := ((Below.refl _ _).alloc (Nat.le_refl _) _).alloc (by simp) _
  have S0 : Strs ((w.alloc (.cells #[.slice T tn tc, .slice A ps.length ca] 30)).alloc (.cells #[] 9)) (w.heap.size + 1) (.slice (some ⟨w.heap.size + 1, 0, none⟩) 0 0) [] := Strs.emptyAt _ _ _ (by simp) (Nat.le_refl _)
  obtain ⟨x0, x1⟩ := cellsG (keepA (heap_alloc_new w (.cells #[.slice T tn tc, .slice A ps.length ca] 30)) (.cells #[] 9))
  clear hs htab
  go_enter Tryz.func18, Tryz.ntmps18
  go_wp2_with fail
  go_loopw [5, 7, 12] (fun u _ i wr => ∃ (k : Nat) (out : List (List UInt8)), k ≤ ps.length ∧ i = .int .i64 k ∧ Hid (out = vsT ps name k) ∧ out.length ≤ k ∧ Strs wr (w.heap.size + 1) u out ∧ Below w.heap.size w wr ∧ w.heap.size + 1 ≤ wr.heap.size) (fun _ _ i _ => ps.length - (intOf i).toNat)
  case atStart => exact ⟨0, [], Nat.zero_le _, rfl, Lib.hid (by simp [vsT]), by simp, S0, B0, by simp⟩
  case round =>
    obtain ⟨k, out, hk, rfl, HO, hol, hS, hb, hbs⟩ := hrel
    clear B0 S0 x0 x1
    by_cases hlt : k < ps.length
    · have k0 : (0 : Int) ≤ (k : Int) := by omega
      have k1 : (k : Int) < (ps.length : Int) := by omega
      obtain ⟨g, off, rfl, hg, a, b, d0, d1, d2, d3, d4, d5, ra, rb⟩ := (HR.out.below hb).at k hlt
      have HY := Lib.hid (fun h => vsT_yes (name := name) hlt h)
      have HNO := Lib.hid (fun h => vsT_no (name := name) hlt h)
      obtain ⟨A1, c1, rfl⟩ := ra.slice
      obtain ⟨A2, c2, rfl⟩ := rb.slice
      obtain ⟨nm, HNM⟩ : ∃ nm, Hid (ps[k].name = nm) := ⟨_, Lib.hid rfl⟩
      obtain ⟨vr, HVR⟩ : ∃ vr, Hid (ps[k].ver = vr) := ⟨_, Lib.hid rfl⟩
      simp only [HNM.out, HVR.out] at HY HNO
      rw [HNM.out] at d0
      rw [HVR.out] at d1
      have Bp : Below wr.heap.size wr (wr.alloc (.cells #[.string ⟨nm.toArray⟩, .string ⟨vr.toArray⟩, .string ⟨ps[k].src.toArray⟩, .slice A1 ps[k].sums.length c1, .bool ps[k].dev, .slice A2 ps[k].needs.length c2] 43)) := (Below.refl _ _).alloc (Nat.le_refl _) _
      obtain ⟨z0, z1, z2, z3, z4, z5⟩ := cells6 (heap_alloc_new wr (.cells #[.string ⟨nm.toArray⟩, .string ⟨vr.toArray⟩, .string ⟨ps[k].src.toArray⟩, .slice A1 ps[k].sums.length c1, .bool ps[k].dev, .slice A2 ps[k].needs.length c2] 43))
      have SA := hS.below Bp
      have BA := hb.trans (Bp.mono hb.size)
      have hsA : w.heap.size + 1 ≤ (wr.alloc (.cells #[.string ⟨nm.toArray⟩, .string ⟨vr.toArray⟩, .string ⟨ps[k].src.toArray⟩, .slice A1 ps[k].sums.length c1, .bool ps[k].dev, .slice A2 ps[k].needs.length c2] 43)).heap.size := by simp; omega
      clear ra rb Bp hS hb
      cases hm : nm == name with
      | false =>
        have HN3 := Lib.hid (HNO.out hm)
        clear HY HNO
        go_wp2_with fail
        go_roundw
        case rel => exact ⟨k + 1, out, by omega, by go_num, Lib.hid (by rw [HN3.out]; exact HO.out), by omega, SA, BA, hsA⟩
        case measure => simp [intOf]; omega
      | true =>
        have HN3 := Lib.hid (HY.out hm)
        clear HY HNO
        go_wp2_with (at_builtin; refine wpList_append_strs rfl _ _ rfl (w.heap.size + 1) _ _ rfl (SA.alloc _) vr _ 1 _ _ rfl (heap_new (by simp) _) (by omega) (by simp; omega) ?_; intro g4 c4 w4 S4 hb4)
        have B4 : Below w.heap.size w w4 := (BA.alloc BA.size _).trans (hb4.mono (by omega))
        have hs4 : w.heap.size + 1 ≤ w4.heap.size := by have := hb4.size; simp at this; omega
        go_roundw
        case rel => exact ⟨k + 1, out ++ [vr], by omega, by go_num, Lib.hid (by rw [HN3.out, HO.out]), by simp; omega, by simpa using S4, B4, hs4⟩
        case measure => simp [intOf]; omega
    · have HF : Hid (out = R) := Lib.hid (by rw [← HRR.out, HO.out, show k = ps.length by omega])
      obtain ⟨U, uc, rfl⟩ := hS.slice
      have HSR := Lib.hid (HSO.out wr (.slice U out.length uc) hb (by rw [← HF.out]; exact RdS.of_strs hS))
      clear hS
      go_wp2_with fail
      refine HSR.out.mono ?_
      rintro e w1 ⟨g1, c1, o1, rfl, S1, hso, hb1⟩
      have HVV := Lib.hid (HV.out _ _ _ _ hb S1 hso hb1)
      go_wp2_with fail
      go_ret
      exact HVV.out
end Go.Proofs.YtcfkhfbhmjfhdaaGreatDoor

/-
  A byte buffer of the call's own: what it owns as a list of bytes, and the string that it is turned into.
-/
namespace Go.Proofs.YtcfkhfbhmjfhdaaGreatDoor
open Go.RowKit

/-- A byte as a value. -/
def bv (c : UInt8) : Value := .int .u8 (c.toNat : Int)
/-- The value v owns just the bytes l, in blocks from base on. -/
def Buf (w : World) (base : Nat) (v : Value) (l : List UInt8) : Prop := w.ownsRow base 5 1 v l.length (l.map bv)

theorem u8info : (Tryz.prog.info? 5).map (fun i => (i.zero, i.size, i.bytes)) = some (some (.int .u8 0), 1, 1) := by kernel_rfl

theorem Buf.form {w : World} {base : Nat} {v : Value} {l : List UInt8} (h : Buf w base v l) : (v = .slice none 0 0 ∧ l = []) ∨ ∃ g cap, v = .slice (some ⟨g, 0, none⟩) l.length cap ∧ base ≤ g ∧ g < w.heap.size := by
  rcases h.2 with ⟨hv, hl⟩ | ⟨g, cap, cur, hv, hb, hh, _⟩
  · left; exact ⟨hv, by simpa using hl⟩
  · right
    refine ⟨g, cap, hv, hb, ?_⟩
    rcases Nat.lt_or_ge g w.heap.size with hlt | hge
    · exact hlt
    · rw [Array.getElem?_eq_none hge] at hh; cases hh

theorem Buf.conv {w : World} {base : Nat} {v : Value} {l : List UInt8} (h : Buf w base v l) : (convert 72 9 v).run Tryz.prog w = .ok (.string ⟨l.toArray⟩) w := by
  rcases h.form with ⟨rfl, rfl⟩ | ⟨g, cap, rfl, _, _⟩
  · rw [run_convert_bytes_string w 72 9 5 none 0 0 Tryz.underlying72 Tryz.underlying5 Tryz.underlying9]
    rfl
  · refine run_convert_bytes_back w 72 9 5 ⟨g, 0, none⟩ cap l Tryz.underlying72 Tryz.underlying5 Tryz.underlying9 ?_
    intro j hj
    exact World.ownsRow.cells (g := g) h rfl j _ (by simp [bv, hj])

theorem Buf.alloc {w : World} {base : Nat} {v : Value} {l : List UInt8} (h : Buf w base v l) (o : Obj) : Buf (w.alloc o) base v l := World.ownsRow.alloc h o
theorem Buf.drew {w : World} {base : Nat} {v : Value} {l : List UInt8} (h : Buf w base v l) : Buf w.drew base v l := World.ownsRow.drew h
theorem Buf.owned {w : World} {base : Nat} {v : Value} {l : List UInt8} (h : Buf w base v l) : ∀ g, v.ownBlock = some g → base ≤ g := by
  intro g hg
  rcases h.form with ⟨rfl, _⟩ | ⟨g', cap, rfl, hb, _⟩
  · simp [Value.ownBlock] at hg
  · simp [Value.ownBlock] at hg; omega

theorem run_append_buf (w : World) (ty : TypeId) (base : Nat) (v : Value) (l : List UInt8) (hown : Buf w base v l) (ns : List UInt8) (B c : Nat) (cs : Array Value) (t : TypeId) (fr : Nat × Nat)
    (hblk : w.heap[B]? = some (.cells cs t fr)) (hcs : cs.toList = ns.map bv) (hm : 0 < ns.length) (hlen : l.length + ns.length ≤ 16777216) (hbase : base ≤ w.heap.size) :
    ∃ v' w', (Builtin.append_ #[72, 72] ty #[v, .slice (some ⟨B, 0, none⟩) ns.length c]).run Tryz.prog w = .ok v' w' ∧ Buf w' base v' (l ++ ns) ∧ Below base w w' := by
  obtain ⟨i0, hi, hz0, hz1, hz2⟩ := info_parts u8info
  obtain ⟨g, cap, w', hr, h2, h3, _, _⟩ := run_append_lies (P := Tryz.prog) w 72 ty base 5 i0 (.int .u8 0) 1 1 Tryz.underlying72 hi hz0 hz1 hz2 rfl (by decide) v l.length (l.map bv) hown
    ⟨B, 0, none⟩ ns.length c (ns.map bv) (by simp) (by rw [← hcs]; exact World.news_of_block hblk) (by intro u hu; obtain ⟨x, _, rfl⟩ := List.mem_map.1 hu; rfl) hm (by unfold maxLen; omega) (by omega) hbase _ rfl
  refine ⟨_, w', hr, ?_, (Below.refl base w).grown h3 hbase hown.owned⟩
  unfold Buf
  rw [List.length_append, List.map_append]
  exact h2

theorem wp_append_buf {w : World} {o : Oper} {a : Act} {K : Act → World → Prop} {Q : Exit → Act → World → Prop} (s x : Operand)
    (ho : o.op = .call { callee := .builtin .append, args := #[s, x], argTypes := #[72, 72] })
    (base : Nat) (v : Value) (l : List UInt8) (hs : a.eval s = v) (hown : Buf w base v l) (ns : List UInt8) (B m c : Nat) (cs : Array Value) (t : TypeId) (fr : Nat × Nat)
    (hx : a.eval x = .slice (some ⟨B, 0, none⟩) m c) (hmm : ns.length = m) (hblk : w.heap[B]? = some (.cells cs t fr)) (hcs : cs.toList = ns.map bv) (hm : 0 < ns.length) (hlen : l.length + ns.length ≤ 16777216) (hbase : base ≤ w.heap.size)
    (h : ∀ v' w', Buf w' base v' (l ++ ns) → Below base w w' → K (a.put o.dst v') w') : o.wp Tryz.prog a w K Q := by
  subst hmm
  obtain ⟨v', w', hr, h2, h3⟩ := run_append_buf w o.type base v l hown ns B c cs t fr hblk hcs hm hlen hbase
  unfold Oper.wp execOp
  simp only [ho, resolve, invoke, builtin, Sem.run_bind, Sem.run_pure, Result.andThen_ok, List.map_toArray, List.map_cons, List.map_nil, hs, hx, hr]
  exact h v' w' h2 h3

/-- append(out, bytes) at a plain region's list. -/
theorem wpList_append_buf {w : World} {ops : Array Oper} {rest : List Oper} {o : Oper} {a : Act} {Q : Exit → Act → World → Prop} (hgd : o.guard = none) (s x : Operand)
    (ho : o.op = .call { callee := .builtin .append, args := #[s, x], argTypes := #[72, 72] })
    (base : Nat) (v : Value) (l : List UInt8) (hs : a.eval s = v) (hown : Buf w base v l) (ns : List UInt8) (B m c : Nat) (cs : Array Value) (t : TypeId) (fr : Nat × Nat)
    (hx : a.eval x = .slice (some ⟨B, 0, none⟩) m c) (hmm : ns.length = m) (hblk : w.heap[B]? = some (.cells cs t fr)) (hcs : cs.toList = ns.map bv) (hm : 0 < ns.length) (hlen : l.length + ns.length ≤ 16777216) (hbase : base ≤ w.heap.size)
    (h : ∀ v' w', Buf w' base v' (l ++ ns) → Below base w w' → wpList Tryz.prog ops Q rest (a.put o.dst v') w') : wpList Tryz.prog ops Q (o :: rest) a w :=
  wpList_plain hgd fun _ hK => wp_append_buf s x ho base v l hs hown ns B m c cs t fr hx hmm hblk hcs hm hlen hbase fun v' w' h2 h3 => hK _ _ (h v' w' h2 h3)

/-- append(out, bytes) at a step of a region that draws its order. -/
theorem step_append_buf {w : World} {ops : Array Oper} {o : Oper} {a : Act} {K : Act → World → Prop} {Q : Exit → Act → World → Prop} {E : Prop} (hgd : o.guard = none) (s x : Operand)
    (ho : o.op = .call { callee := .builtin .append, args := #[s, x], argTypes := #[72, 72] })
    (base : Nat) (v : Value) (l : List UInt8) (hs : a.eval s = v) (hown : Buf w base v l) (ns : List UInt8) (B m c : Nat) (cs : Array Value) (t : TypeId) (fr : Nat × Nat)
    (hx : a.eval x = .slice (some ⟨B, 0, none⟩) m c) (hmm : ns.length = m) (hblk : w.heap[B]? = some (.cells cs t fr)) (hcs : cs.toList = ns.map bv) (hm : 0 < ns.length) (hlen : l.length + ns.length ≤ 16777216) (hbase : base ≤ w.heap.size)
    (h : ∀ v' w', Buf w' base v' (l ++ ns) → Below base w w' → K (a.put o.dst v') w') :
    if Region.wanted o (yielded ops a.tmps) = true then Oper.wp Tryz.prog o a w K Q else E := by
  have hw : Region.wanted o (yielded ops a.tmps) = true := by simp [Region.wanted, hgd]
  rw [if_pos hw]
  exact wp_append_buf s x ho base v l hs hown ns B m c cs t fr hx hmm hblk hcs hm hlen hbase h

def hexC (n : Nat) : UInt8 := ([48, 49, 50, 51, 52, 53, 54, 55, 56, 57, 97, 98, 99, 100, 101, 102] : List UInt8).getD n 0
def hexU (n : Nat) : UInt8 := ([48, 49, 50, 51, 52, 53, 54, 55, 56, 57, 65, 66, 67, 68, 69, 70] : List UInt8).getD n 0
theorem idx_lower (n : Nat) (hn : n < 16) (z : Int) (hz : z = (n : Int)) (w : World) : (Instr.index 9 (.string ⟨#[48, 49, 50, 51, 52, 53, 54, 55, 56, 57, 97, 98, 99, 100, 101, 102]⟩) (.int .u8 z)).run Tryz.prog w = .ok (.int .u8 ((hexC n).toNat : Int)) w := by
  subst hz
  obtain rfl | rfl | rfl | rfl | rfl | rfl | rfl | rfl | rfl | rfl | rfl | rfl | rfl | rfl | rfl | rfl : n = 0 ∨ n = 1 ∨ n = 2 ∨ n = 3 ∨ n = 4 ∨ n = 5 ∨ n = 6 ∨ n = 7 ∨ n = 8 ∨ n = 9 ∨ n = 10 ∨ n = 11 ∨ n = 12 ∨ n = 13 ∨ n = 14 ∨ n = 15 := by omega
  all_goals kernel_rfl
theorem idx_upper (n : Nat) (hn : n < 16) (z : Int) (hz : z = (n : Int)) (w : World) : (Instr.index 9 (.string ⟨#[48, 49, 50, 51, 52, 53, 54, 55, 56, 57, 65, 66, 67, 68, 69, 70]⟩) (.int .u8 z)).run Tryz.prog w = .ok (.int .u8 ((hexU n).toNat : Int)) w := by
  subst hz
  obtain rfl | rfl | rfl | rfl | rfl | rfl | rfl | rfl | rfl | rfl | rfl | rfl | rfl | rfl | rfl | rfl : n = 0 ∨ n = 1 ∨ n = 2 ∨ n = 3 ∨ n = 4 ∨ n = 5 ∨ n = 6 ∨ n = 7 ∨ n = 8 ∨ n = 9 ∨ n = 10 ∨ n = 11 ∨ n = 12 ∨ n = 13 ∨ n = 14 ∨ n = 15 := by omega
  all_goals kernel_rfl
theorem and15 (c : UInt8) : bits .and .u8 (c.toNat : Int) 15 = (c.toNat : Int) % 16 := by
  have h : ∀ n : Nat, n < 256 → bits .and .u8 (n : Int) 15 = (n : Int) % 16 := by decide +kernel
  exact h _ c.toNat_lt

theorem Buf.lit (w : World) (base : Nat) (l : List UInt8) (hb : base ≤ w.heap.size) (hl : l.length ≤ 16777216) : Buf (w.alloc (.cells (l.map bv).toArray 5)) base (.slice (some ⟨w.heap.size, 0, none⟩) l.length l.length) l := by
  have h := World.ownsRow_lit (base := base) (e := 5) (size := 1) w (l.map bv).toArray l.length hb (by unfold maxLen; omega) (by simp)
  simpa [Buf] using h
theorem Buf.empty (w : World) (base : Nat) (hb : base ≤ w.heap.size) : Buf (w.alloc (.cells #[] 5)) base (.slice (some ⟨w.heap.size, 0, none⟩) 0 0) [] := Buf.lit w base [] hb (by simp)

theorem wrap_div16 (c : UInt8) : IntKind.u8.wrap ((c.toNat : Int) / 16) = (c.toNat : Int) / 16 := by
  have h : ∀ n : Nat, n < 256 → IntKind.u8.wrap ((n : Int) / 16) = (n : Int) / 16 := by decide +kernel
  exact h _ c.toNat_lt

theorem tmod16 (c : UInt8) : (c.toNat : Int).tmod 16 = (c.toNat : Int) % 16 := Int.tmod_eq_emod_of_nonneg (by omega)

end Go.Proofs.YtcfkhfbhmjfhdaaGreatDoor

/-
  A string appended to a byte buffer of the call's own.
-/
namespace Go.Proofs.YtcfkhfbhmjfhdaaGreatDoor
open Go.RowKit

theorem wpList_append_buf_str {w : World} {ops : Array Oper} {rest : List Oper} {o : Oper} {a : Act} {Q : Exit → Act → World → Prop} (hgd : o.guard = none) (s x : Operand)
    (ho : o.op = .call { callee := .builtin .append, args := #[s, x], argTypes := #[72, 9] })
    (base : Nat) (v : Value) (l : List UInt8) (hs : a.eval s = v) (hown : Buf w base v l) (ns : List UInt8) (hx : a.eval x = .string ⟨ns.toArray⟩) (hlen : l.length + ns.length ≤ 16777216) (hbase : base ≤ w.heap.size)
    (h : ∀ v' w', Buf w' base v' (l ++ ns) → Below base w w' → wpList Tryz.prog ops Q rest (a.put o.dst v') w') : wpList Tryz.prog ops Q (o :: rest) a w := by
  obtain ⟨i0, hi, hz0, hz1, hz2⟩ := info_parts u8info
  have hsz : (⟨ns.toArray⟩ : ByteArray).size = ns.length := by show ns.toArray.size = _; simp
  refine Lib.wpList_append_own_string _ hgd s x 72 9 ho base 5 i0 Tryz.underlying72 Tryz.underlying9 hi hz0 hz1 hz2 v l.length (l.map bv) hs hown ⟨ns.toArray⟩ hx (by rw [hsz]; unfold maxLen; omega) (by rw [hsz]; omega) hbase ?_
  intro v' w' h2 h3 _
  refine h v' w' ?_ ((Below.refl base w).grown h3 hbase hown.owned)
  unfold Buf
  rw [hsz] at h2
  rw [List.length_append, List.map_append]
  exact h2

/-- A buffer is kept by whatever leaves all old blocks as they were. -/
theorem Buf.below {w w' : World} {base : Nat} {v : Value} {l : List UInt8} (h : Buf w base v l) (hb : Below w.heap.size w w') : Buf w' base v l :=
  World.ownsRow.kept h (row := none) ⟨hb.os, hb.tape, hb.output, hb.size, fun i hi _ => hb.block i hi⟩ (by
    rcases h.form with ⟨rfl, _⟩ | ⟨g, cap, rfl, _, _⟩
    · left; rfl
    · right; simp [Value.ownBlock])
end Go.Proofs.YtcfkhfbhmjfhdaaGreatDoor

/-
  The laws' own helper markText: a mark's text.
-/
namespace Go.Proofs.YtcfkhfbhmjfhdaaGreatDoor
open Go.RowKit

/-- The k-th mark. -/
def mt (k : Nat) : List UInt8 := 109 :: Lib.decDigits k
theorem dig_val (v : Nat) : bv (digC (v % 10)) = .int .u8 (48 + (v : Int) % 10) := by
  have h : ∀ d : Nat, d < 10 → bv (digC d) = .int .u8 (48 + (d : Int)) := by
    intro d hd
    unfold bv digC
    congr 1
    simp
    omega
  rw [h _ (by omega)]
  congr 1

set_option maxRecDepth 100000 in
set_option maxHeartbeats 1000000 in
theorem markText_any (u : Nat) (w : World) (h1 : 1 ≤ u) (h2 : u ≤ 100000000) :
    Calls Tryz.prog 34 #[.int .i64 (u : Int)] w fun e w' => e = .returned (.string ⟨(mt u).toArray⟩) ∧ Below w.heap.size w w' := by
  go_enter Tryz.func34, Tryz.ntmps34
  go_wp2
  go_loopw [0, 3] (fun m o wr => ∃ (v : Nat) (l : List UInt8), o = .string ⟨l.toArray⟩ ∧ m = .int .i64 (v : Int) ∧ v ≤ u ∧ DecAt u v l ∧ Below w.heap.size w wr) (fun m _ _ => (intOf m).toNat)
  case atStart => exact ⟨u, [], rfl, rfl, Nat.le_refl _, decAt_start u (by omega), Below.refl _ _⟩
  case round =>
    obtain ⟨v, l, rfl, rfl, hvu, H, hb⟩ := hrel
    have hl := decAt_len H (by omega)
    by_cases hv : v = 0
    · subst hv
      obtain rfl := decAt_end H
      clear H
      go_wp2
      go_ret
      exact ⟨congrArg Ending.returned (str_cons _ _), hb⟩
    · have HN := Lib.hid (decAt_step H (by omega))
      have hpos : (0 : Int) < (v : Int) := by omega
      have hcv := (Buf.lit wr w.heap.size [digC (v % 10)] hb.size (by simp)).conv
      have hdv := dig_val v
      simp only [List.map_cons, List.map_nil, hdv, List.length_cons, List.length_nil, Nat.zero_add] at hcv
      clear hdv H hv
      go_wp2
      go_roundw
      case rel => exact ⟨v / 10, _, str_cons _ _, by go_num, by omega, HN.out, hb.alloc hb.size _⟩
      case measure => simp [intOf]; omega
end Go.Proofs.YtcfkhfbhmjfhdaaGreatDoor

/-
  Worlds that grow by one row: what is kept.
-/
namespace Go.Proofs.YtcfkhfbhmjfhdaaGreatDoor
open Go.RowKit

theorem gr_trans {w w1 w2 : World} {row : Option Nat} (h1 : w.grownBy w1 row) (h2 : w1.grownBy w2 row) : w.grownBy w2 row :=
  ⟨h2.os.trans h1.os, h2.tape.trans h1.tape, h2.output.trans h1.output, Nat.le_trans h1.size h2.size, fun k hk hn => (h2.block k (Nat.lt_of_lt_of_le hk h1.size) hn).trans (h1.block k hk hn)⟩
theorem gr_below {w w2 : World} {row : Option Nat} (hb : Below w.heap.size w w2) : w.grownBy w2 row := ⟨hb.os, hb.tape, hb.output, hb.size, fun k hk _ => hb.block k hk⟩
theorem gr_alloc (w : World) (o : Obj) (row : Option Nat) : w.grownBy (w.alloc o) row := gr_below ((Below.refl _ _).alloc (Nat.le_refl _) _)
theorem gr_set (w : World) (g k : Nat) (x : Value) : w.grownBy (w.setCell ⟨g, k, none⟩ x) (some g) := ⟨rfl, rfl, rfl, by simp, fun j _ hj => heap_setCell_other w ⟨g, k, none⟩ j x (fun e => hj (by simp [e]))⟩
theorem Strs.grown {w w' : World} {base : Nat} {v : Value} {l : List (List UInt8)} {row : Option Nat} (h : Strs w base v l) (hg : w.grownBy w' row) (hne : ∀ g, v.ownBlock = some g → some g ≠ row) : Strs w' base v l := by
  rcases h.form with ⟨rfl, rfl⟩ | ⟨g, cap, rfl, _, _⟩
  · exact ⟨by simp, .inl ⟨rfl, rfl⟩⟩
  · exact World.ownsRow.kept h hg (.inr (fun e => hne g rfl (by rw [← e]; rfl)))
theorem gr_heap {W V : World} {row : Option Nat} {B : Nat} {o : Obj} (hg : W.grownBy V row) (h : W.heap[B]? = some o) (hne : some B ≠ row) : V.heap[B]? = some o := (hg.block B (Array.getElem?_eq_some_iff.1 h).1 hne).trans h
theorem gr_belowN {W V : World} {row : Option Nat} {n : Nat} {w : World} (hb : Below n w W) (hg : W.grownBy V row) (hn : n ≤ W.heap.size) (hr : ∀ g, row = some g → n ≤ g) : Below n w V := hb.grown hg hn hr

end Go.Proofs.YtcfkhfbhmjfhdaaGreatDoor

/-
  Marks written over a structure of the call's own, in plain words: within some blocks a text stays a text, a slice the same slice; all else is as it was.
-/
namespace Go.Proofs.YtcfkhfbhmjfhdaaGreatDoor
open Go.RowKit

/-- Where a text stood stands a text, where a slice the same slice, where a bool a bool. -/
def CellTo (v v' : Value) : Prop := match v with
  | .string _ => ∃ s, v' = .string s
  | .slice a n c => v' = .slice a n c
  | .bool _ => ∃ b, v' = .bool b
  | _ => True
theorem CellTo.refl (v : Value) : CellTo v v := by cases v <;> simp [CellTo]
theorem CellTo.trans {a b c : Value} (h1 : CellTo a b) (h2 : CellTo b c) : CellTo a c := by
  cases a with
  | string s => obtain ⟨t, rfl⟩ := h1; exact h2
  | slice x n y => obtain rfl : b = .slice x n y := h1; exact h2
  | bool x => obtain ⟨t, rfl⟩ := h1; exact h2
  | _ => trivial
/-- From w to w' only the blocks from lo on and below hi have changed, by marks. -/
structure Mk (lo hi : Nat) (w w' : World) : Prop where
  os : w'.os = w.os
  tape : w'.tape = w.tape
  output : w'.output = w.output
  size : w.heap.size ≤ w'.heap.size
  out : ∀ b : Nat, b < w.heap.size → (b < lo ∨ hi ≤ b) → w'.heap[b]? = w.heap[b]?
  row : ∀ (b : Nat) (cur : Array Value) (T : TypeId), lo ≤ b → b < hi → w.heap[b]? = some (.cells cur T) → ∃ cur' : Array Value, w'.heap[b]? = some (.cells cur' T) ∧ cur'.size = cur.size ∧ ∀ (i : Nat) (v : Value), cur[i]? = some v → ∃ v', cur'[i]? = some v' ∧ CellTo v v'
theorem Mk.refl (lo hi : Nat) (w : World) : Mk lo hi w w := ⟨rfl, rfl, rfl, Nat.le_refl _, fun _ _ _ => rfl, fun _ cur _ _ _ h => ⟨cur, h, rfl, fun _ v hv => ⟨v, hv, CellTo.refl v⟩⟩⟩
theorem Mk.trans {lo hi : Nat} {w w1 w2 : World} (h1 : Mk lo hi w w1) (h2 : Mk lo hi w1 w2) : Mk lo hi w w2 :=
  ⟨h2.os.trans h1.os, h2.tape.trans h1.tape, h2.output.trans h1.output, Nat.le_trans h1.size h2.size, fun b hb ho => (h2.out b (Nat.lt_of_lt_of_le hb h1.size) ho).trans (h1.out b hb ho), fun b cur T hl hh h => by
    obtain ⟨c1, e1, s1, k1⟩ := h1.row b cur T hl hh h
    obtain ⟨c2, e2, s2, k2⟩ := h2.row b c1 T hl hh e1
    refine ⟨c2, e2, s2.trans s1, fun i v hv => ?_⟩
    obtain ⟨v1, hv1, t1⟩ := k1 i v hv
    obtain ⟨v2, hv2, t2⟩ := k2 i v1 hv1
    exact ⟨v2, hv2, t1.trans t2⟩⟩
theorem Mk.of_below {lo hi : Nat} {w w' : World} (hb : Below w.heap.size w w') (hh : hi ≤ w.heap.size) : Mk lo hi w w' :=
  ⟨hb.os, hb.tape, hb.output, hb.size, fun b hb1 _ => hb.block b hb1, fun b cur T _ h2 h => ⟨cur, (hb.block b (by omega)).trans h, rfl, fun _ v hv => ⟨v, hv, CellTo.refl v⟩⟩⟩
theorem Mk.set {lo hi : Nat} (w : World) (g k : Nat) (x : Value) (hl : lo ≤ g) (hh : g < hi) (hc : ∀ v, w.cell? ⟨g, k, none⟩ = some v → CellTo v x) : Mk lo hi w (w.setCell ⟨g, k, none⟩ x) := by
  refine ⟨rfl, rfl, rfl, by simp, fun b _ ho => heap_setCell_other w ⟨g, k, none⟩ b x (fun e => ?_), fun b cur T h1 h2 h => ?_⟩
  · have : b = g := e
    omega
  · by_cases e : b = g
    · subst e
      refine ⟨cur.setIfInBounds k x, heap_setCell_same w b k cur T x h, by simp, fun i v hv => ?_⟩
      by_cases hik : i = k
      · subst hik
        have hlt : i < cur.size := (Array.getElem?_eq_some_iff.1 hv).1
        refine ⟨x, by simp [hlt], hc v (by simp [World.cell?, h, hv])⟩
      · exact ⟨v, by rw [Array.getElem?_setIfInBounds_ne (fun e => hik e.symm)]; exact hv, CellTo.refl v⟩
    · exact ⟨cur, (heap_setCell_other w ⟨g, k, none⟩ b x e).trans h, rfl, fun _ v hv => ⟨v, hv, CellTo.refl v⟩⟩
theorem Mk.below {lo hi : Nat} {w w' : World} (h : Mk lo hi w w') (hl : lo ≤ w.heap.size) : Below lo w w' := ⟨h.os, h.tape, h.output, h.size, fun b hb => h.out b (by omega) (.inl hb)⟩
theorem belowMk {n lo hi : Nat} {w W V : World} (hb : Below n w W) (h : Mk lo hi W V) (h1 : n ≤ lo) (h2 : n ≤ W.heap.size) : Below n w V :=
  ⟨h.os.trans hb.os, h.tape.trans hb.tape, h.output.trans hb.output, Nat.le_trans hb.size h.size, fun b hlt => (h.out b (by omega) (.inl (by omega))).trans (hb.block b hlt)⟩
theorem Strs.mk {lo hi base : Nat} {w w' : World} {v : Value} {l : List (List UInt8)} (h : Strs w base v l) (hm : Mk lo hi w w') (hf : ∀ g, v.ownBlock = some g → g < lo ∨ hi ≤ g) : Strs w' base v l := by
  rcases h.form with ⟨rfl, rfl⟩ | ⟨g, cap, rfl, hb, hlt⟩
  · exact Strs.nil _ _
  · refine ⟨h.1, ?_⟩
    rcases h.2 with ⟨h0, _⟩ | ⟨g', cap', cur, hv, hg, hh, hr⟩
    · cases h0
    · right
      simp only [Value.slice.injEq, Option.some.injEq, Addr.mk.injEq, and_true] at hv
      obtain ⟨rfl, _, rfl⟩ := hv
      exact ⟨g, cap, cur, rfl, hg, (hm.out g hlt (hf g rfl)).trans hh, hr⟩
/-- The first n cells of block g are texts. -/
def RowS (w : World) (g n : Nat) (T : TypeId) : Prop := ∃ cur, w.heap[g]? = some (.cells cur T) ∧ ∀ i, i < n → ∃ s, cur[i]? = some (.string s)
theorem RowS.mk {lo hi g n : Nat} {T : TypeId} {w w' : World} (h : RowS w g n T) (hm : Mk lo hi w w') (hl : lo ≤ g) (hh : g < hi) : RowS w' g n T := by
  obtain ⟨cur, hc, hs⟩ := h
  obtain ⟨cur', hc', _, hk⟩ := hm.row g cur T hl hh hc
  refine ⟨cur', hc', fun i hi' => ?_⟩
  obtain ⟨s, hs⟩ := hs i hi'
  obtain ⟨v', hv', t⟩ := hk i _ hs
  obtain ⟨s', rfl⟩ := t
  exact ⟨s', hv'⟩
theorem RowS.cell {w : World} {g n : Nat} {T : TypeId} (h : RowS w g n T) (i : Nat) (hi : i < n) : ∃ s, w.cell? ⟨g, i, none⟩ = some (.string s) := by
  obtain ⟨cur, hc, hs⟩ := h
  obtain ⟨s, hs⟩ := hs i hi
  exact ⟨s, by simp [World.cell?, hc, hs]⟩
theorem RowS.frozen {w : World} {g n : Nat} {T : TypeId} (h : RowS w g n T) (i : Nat) : w.frozen? ⟨g, i, none⟩ = false := by
  obtain ⟨cur, hc, _⟩ := h; simp [World.frozen?, hc]
theorem RowS.set {lo hi g n : Nat} {T : TypeId} {w : World} (h : RowS w g n T) (i : Nat) (hi' : i < n) (l : List UInt8) (hl : lo ≤ g) (hh : g < hi) : Mk lo hi w (w.setCell ⟨g, i, none⟩ (sv l)) := by
  obtain ⟨s, hs⟩ := h.cell i hi'
  exact Mk.set w g i _ hl hh (fun v hv => by rw [hs] at hv; cases hv; exact ⟨_, rfl⟩)
theorem rowS_of {w : World} {base g n size cap : Nat} {T : TypeId} {xs : List Value} (h : w.ownsRow base T size (.slice (some ⟨g, 0, none⟩) n cap) n xs) (hx : ∀ v ∈ xs, ∃ s, v = .string s) : RowS w g (n * size) T := by
  obtain ⟨hl, h⟩ := h
  rcases h with ⟨h0, _⟩ | ⟨g', cap', cur, hv, _, hh, h1, h2, h3, h4⟩
  · cases h0
  · simp only [Value.slice.injEq, Option.some.injEq, Addr.mk.injEq, and_true] at hv
    obtain ⟨rfl, _, rfl⟩ := hv
    refine ⟨cur, hh, fun i hi => ?_⟩
    have hlt : i < xs.length := by omega
    have : xs[i]? = cur[i]? := by rw [← h4, List.getElem?_take_of_lt hi]; simp
    obtain ⟨s, hs⟩ := hx xs[i] (List.getElem_mem hlt)
    exact ⟨s, by rw [← this, List.getElem?_eq_getElem hlt, hs]⟩
theorem Strs.rowS {w : World} {base g n cap : Nat} {l : List (List UInt8)} (h : Strs w base (.slice (some ⟨g, 0, none⟩) n cap) l) (hn : n = l.length) : RowS w g n 9 := by
  subst hn
  have := rowS_of h (fun v hv => by obtain ⟨x, _, rfl⟩ := List.mem_map.1 hv; exact ⟨_, rfl⟩)
  simpa using this
theorem flat2_str : ∀ (l : List Bd), ∀ v ∈ flat2 l, ∃ s, v = .string s
  | [], v, h => by simp [flat2] at h
  | b :: l, v, h => by
    simp only [flat2, List.mem_cons] at h
    rcases h with rfl | rfl | h
    · exact ⟨_, rfl⟩
    · exact ⟨_, rfl⟩
    · exact flat2_str l v h
theorem Sums.rowS {w : World} {base g n cap : Nat} {l : List Bd} (h : Sums w base (.slice (some ⟨g, 0, none⟩) n cap) l) (hn : n = l.length) : RowS w g (n * 2) 61 := by
  subst hn
  exact rowS_of h (flat2_str l)

set_option maxRecDepth 100000 in
set_option maxHeartbeats 1000000 in
theorem markStringS_w (lo hi g n cap s : Nat) (w : World) (h : RowS w g n 9) (hl : lo ≤ g) (hh : g < hi) (hw : hi ≤ w.heap.size) (hn : n ≤ 2000000) (s1 : 1 ≤ s) (s2 : s ≤ 90000000) :
    Calls Tryz.prog 15 #[.slice (some ⟨g, 0, none⟩) n cap, .int .i64 (s : Int)] w fun e w' => e = .returned (.int .i64 ((s + n : Nat) : Int)) ∧ Mk lo hi w w' := by
  obtain ⟨E, HE⟩ : ∃ E, Hid (s + n = E) := ⟨_, Lib.hid rfl⟩
  rw [HE.out]
  have HR := Lib.hid h
  clear h
  go_enter Tryz.func15, Tryz.ntmps15
  go_wp2
  go_loopw [1, 5] (fun u i wr => ∃ k U : Nat, k ≤ n ∧ Hid (U = s + k) ∧ i = .int .i64 k ∧ u = .int .i64 (U : Int) ∧ Mk lo hi w wr) (fun _ i _ => n - (intOf i).toNat)
  case atStart => exact ⟨0, s, Nat.zero_le _, Lib.hid (by omega), rfl, rfl, Mk.refl _ _ _⟩
  case round =>
    obtain ⟨k, U, hk, HU, rfl, rfl, hM⟩ := hrel
    have u1 : 1 ≤ U := by have := HU.out; omega
    have u2 : U ≤ 92000000 := by have := HU.out; omega
    by_cases hlt : k < n
    · have k0 : (0 : Int) ≤ (k : Int) := by omega
      have k1 : (k : Int) < (n : Int) := by omega
      have hz := hM.size
      go_wp2_with fail
      refine (markText_any U wr (by omega) (by omega)).mono ?_
      rintro e w2 ⟨rfl, hb2⟩
      have M2 := hM.trans (Mk.of_below (lo := lo) (hi := hi) hb2 (by omega))
      have hR2 := HR.out.mk M2 hl hh
      obtain ⟨x, c2⟩ := hR2.cell k hlt
      have f2 := hR2.frozen k
      have M3 := M2.trans (hR2.set k hlt (mt U) hl hh)
      clear hR2 hM M2 hb2
      go_wp2_with fail
      go_roundw
      case rel => exact ⟨k + 1, U + 1, by omega, Lib.hid (by have := HU.out; omega), by go_num, by go_num, M3⟩
      case measure => simp [intOf]; omega
    · obtain rfl : k = n := by omega
      have HUE : Hid (U = E) := Lib.hid (by rw [HU.out, HE.out])
      go_wp2_with fail
      go_ret
      exact ⟨by rw [← HUE.out]; rfl, hM⟩

set_option maxRecDepth 100000 in
set_option maxHeartbeats 2000000 in
theorem markSumS_w (lo hi g n cap s : Nat) (w : World) (h : RowS w g (n * 2) 61) (hl : lo ≤ g) (hh : g < hi) (hw : hi ≤ w.heap.size) (hn : n ≤ 2000000) (s1 : 1 ≤ s) (s2 : s ≤ 90000000) :
    Calls Tryz.prog 50 #[.slice (some ⟨g, 0, none⟩) n cap, .int .i64 (s : Int)] w fun e w' => e = .returned (.int .i64 ((s + 2 * n : Nat) : Int)) ∧ Mk lo hi w w' := by
  obtain ⟨E, HE⟩ : ∃ E, Hid (s + 2 * n = E) := ⟨_, Lib.hid rfl⟩
  rw [HE.out]
  have HR := Lib.hid h
  clear h
  go_enter Tryz.func50, Tryz.ntmps50
  go_wp2
  go_loopw [1, 5] (fun u i wr => ∃ k U : Nat, k ≤ n ∧ Hid (U = s + 2 * k) ∧ i = .int .i64 k ∧ u = .int .i64 (U : Int) ∧ Mk lo hi w wr) (fun _ i _ => n - (intOf i).toNat)
  case atStart => exact ⟨0, s, Nat.zero_le _, Lib.hid (by omega), rfl, rfl, Mk.refl _ _ _⟩
  case round =>
    obtain ⟨k, U, hk, HU, rfl, rfl, hM⟩ := hrel
    have u1 : 1 ≤ U := by have := HU.out; omega
    have u2 : U ≤ 95000000 := by have := HU.out; omega
    by_cases hlt : k < n
    · have k0 : (0 : Int) ≤ (k : Int) := by omega
      have k1 : (k : Int) < (n : Int) := by omega
      have hz := hM.size
      have i0 : k * 2 < n * 2 := by omega
      have i1 : k * 2 + 1 < n * 2 := by omega
      go_wp2_with fail
      refine (markText_any U wr (by omega) (by omega)).mono ?_
      rintro e w2 ⟨rfl, hb2⟩
      have M2 := hM.trans (Mk.of_below (lo := lo) (hi := hi) hb2 (by omega))
      have hR2 := HR.out.mk M2 hl hh
      obtain ⟨x, c2⟩ := hR2.cell (k * 2) i0
      have f2 := hR2.frozen (k * 2)
      have M3 := M2.trans (hR2.set (k * 2) i0 (mt U) hl hh)
      clear hR2 hM M2 hb2
      go_wp2_with fail
      refine (markText_any (U + 1) _ (by omega) (by omega)).mono ?_
      rintro e w4 ⟨rfl, hb4⟩
      have M4 := M3.trans (Mk.of_below (lo := lo) (hi := hi) hb4 (by have := M3.size; omega))
      have hR4 := HR.out.mk M4 hl hh
      obtain ⟨y, c4⟩ := hR4.cell (k * 2 + 1) i1
      have f4 := hR4.frozen (k * 2 + 1)
      have M5 := M4.trans (hR4.set (k * 2 + 1) i1 (mt (U + 1)) hl hh)
      clear hR4 M3 M4 hb4
      go_wp2_with fail
      go_roundw
      case rel => exact ⟨k + 1, U + 2, by omega, Lib.hid (by have := HU.out; omega), by go_num, by go_num, M5⟩
      case measure => simp [intOf]; omega
    · obtain rfl : k = n := by omega
      have HUE : Hid (U = E) := Lib.hid (by rw [HU.out, HE.out])
      go_wp2_with fail
      go_ret
      exact ⟨by rw [← HUE.out]; rfl, hM⟩
end Go.Proofs.YtcfkhfbhmjfhdaaGreatDoor

/-
  The laws' own markPackS and markGraph: marks over a graph of the call's own change only its blocks.
-/
namespace Go.Proofs.YtcfkhfbhmjfhdaaGreatDoor
open Go.RowKit

/-- A lists's address: none, or a row of texts among the blocks from lo on and below hi. -/
def SlR (w : World) (lo hi : Nat) (A : Option Addr) (n size : Nat) (T : TypeId) : Prop := (A = none ∧ n = 0) ∨ ∃ g, A = some ⟨g, 0, none⟩ ∧ lo ≤ g ∧ g < hi ∧ RowS w g (n * size) T
theorem SlR.mk {w w' : World} {lo hi n size : Nat} {A : Option Addr} {T : TypeId} (h : SlR w lo hi A n size T) (hm : Mk lo hi w w') : SlR w' lo hi A n size T := by
  rcases h with h | ⟨g, hA, h1, h2, h3⟩
  · exact .inl h
  · exact .inr ⟨g, hA, h1, h2, h3.mk hm h1 h2⟩
theorem strs_slR {w : World} {lo hi base n cap : Nat} {A : Option Addr} {l : List (List UInt8)} (h : Strs w base (.slice A n cap) l) (hn : n = l.length) (hl : lo ≤ base) (hh : w.heap.size ≤ hi) : SlR w lo hi A n 1 9 := by
  subst hn
  rcases h.form with ⟨hv, rfl⟩ | ⟨g, cap', hv, hb, hg⟩
  · simp only [Value.slice.injEq] at hv; exact .inl ⟨hv.1, rfl⟩
  · simp only [Value.slice.injEq] at hv
    obtain ⟨rfl, _, rfl⟩ := hv
    refine .inr ⟨g, rfl, by omega, by omega, ?_⟩
    rw [Nat.mul_one]; exact h.rowS rfl
theorem sums_slR {w : World} {lo hi base n cap : Nat} {A : Option Addr} {l : List Bd} (h : Sums w base (.slice A n cap) l) (hn : n = l.length) (hl : lo ≤ base) (hh : w.heap.size ≤ hi) : SlR w lo hi A n 2 61 := by
  subst hn
  rcases h.form with ⟨hv, rfl⟩ | ⟨g, cap', hv, hb, hg⟩
  · simp only [Value.slice.injEq] at hv; exact .inl ⟨hv.1, rfl⟩
  · simp only [Value.slice.injEq] at hv
    obtain ⟨rfl, _, rfl⟩ := hv
    exact .inr ⟨g, rfl, by omega, by omega, h.rowS rfl⟩
/-- The six cells from o on are a pack's, its lists among the blocks from lo on and below hi. -/
def PkC (w : World) (lo hi : Nat) (cur : Array Value) (o ns nn : Nat) : Prop := ∃ s0 s1 s2 A1 c1 d A2 c2, cur[o]? = some (.string s0) ∧ cur[o + 1]? = some (.string s1) ∧ cur[o + 2]? = some (.string s2) ∧ cur[o + 3]? = some (.slice A1 ns c1) ∧ cur[o + 4]? = some (.bool d) ∧ cur[o + 5]? = some (.slice A2 nn c2) ∧ SlR w lo hi A1 ns 2 61 ∧ SlR w lo hi A2 nn 1 9
/-- A list of packs whose blocks all lie from lo on and below hi. -/
def PksS (w : World) (lo hi : Nat) (v : Value) (ps : List Pk) : Prop := ∃ G cap cur, v = .slice (some ⟨G, 0, none⟩) ps.length cap ∧ lo ≤ G ∧ G < hi ∧ w.heap[G]? = some (.cells cur 43) ∧ ∀ k (h : k < ps.length), PkC w lo hi cur (k * 6) ps[k].sums.length ps[k].needs.length
theorem PksS.mk {w w' : World} {lo hi : Nat} {v : Value} {ps : List Pk} (h : PksS w lo hi v ps) (hm : Mk lo hi w w') : PksS w' lo hi v ps := by
  obtain ⟨G, cap, cur, hv, h1, h2, hc, hp⟩ := h
  obtain ⟨cur', hc', _, hk⟩ := hm.row G cur _ h1 h2 hc
  refine ⟨G, cap, cur', hv, h1, h2, hc', fun k hlt => ?_⟩
  obtain ⟨s0, s1, s2, A1, c1, d, A2, c2, e0, e1, e2, e3, e4, e5, r1, r2⟩ := hp k hlt
  obtain ⟨_, f0, ⟨t0, rfl⟩⟩ := hk _ _ e0
  obtain ⟨_, f1, ⟨t1, rfl⟩⟩ := hk _ _ e1
  obtain ⟨_, f2, ⟨t2, rfl⟩⟩ := hk _ _ e2
  obtain ⟨v3, f3, t3⟩ := hk _ _ e3
  obtain ⟨_, f4, ⟨t4, rfl⟩⟩ := hk _ _ e4
  obtain ⟨v5, f5, t5⟩ := hk _ _ e5
  obtain rfl : v3 = _ := t3
  obtain rfl : v5 = _ := t5
  exact ⟨t0, t1, t2, A1, c1, t4, A2, c2, f0, f1, f2, f3, f4, f5, r1.mk hm, r2.mk hm⟩
theorem Sums.sliceV {w : World} {base : Nat} {v : Value} {l : List Bd} (h : Sums w base v l) : ∃ A c, v = .slice A l.length c := by
  rcases h.form with ⟨rfl, rfl⟩ | ⟨g, cap, rfl, _⟩
  · exact ⟨none, 0, rfl⟩
  · exact ⟨_, _, rfl⟩
theorem PksS.of_own {w : World} {lo : Nat} {v : Value} {ps : List Pk} (h : PksOwn w lo v ps) : PksS w lo w.heap.size v ps := by
  obtain ⟨G, cap, qs, rfl, h1, h2, rfl, h4, h5⟩ := h
  obtain ⟨hl, hr⟩ := h4
  rcases hr with ⟨h0, _⟩ | ⟨g', cap', cur, hv, _, hh, hn, _, hsz, htk⟩
  · cases h0
  · simp only [Value.slice.injEq, Option.some.injEq, Addr.mk.injEq, and_true] at hv
    obtain ⟨rfl, _, rfl⟩ := hv
    refine ⟨G, cap, cur, rfl, h1, h2, hh, fun k hlt => ?_⟩
    simp at hlt
    have hg : ∀ i, i < 6 → cur[k * 6 + i]? = (flatP qs)[k * 6 + i]? := fun i hi => by
      rw [← htk, List.getElem?_take_of_lt (by omega)]; simp
    obtain ⟨e0, e1, e2, e3, e4, e5⟩ := flatP_get qs k hlt
    have ho := h5 qs[k] (List.getElem_mem hlt)
    obtain ⟨A1, c1, q1⟩ := ho.1.sliceV
    obtain ⟨A2, c2, q2⟩ := ho.2.slice
    rw [q1] at e3
    rw [q2] at e5
    have o1 := ho.1
    have o2 := ho.2
    rw [q1] at o1
    rw [q2] at o2
    simp only [List.getElem_map]
    refine ⟨_, _, _, A1, c1, _, A2, c2, (hg 0 (by omega)).trans e0, (hg 1 (by omega)).trans e1, (hg 2 (by omega)).trans e2, (hg 3 (by omega)).trans e3, (hg 4 (by omega)).trans e4, (hg 5 (by omega)).trans e5, sums_slR o1 rfl (by omega) (Nat.le_refl _), strs_slR o2 rfl (by omega) (Nat.le_refl _)⟩
theorem PksS.below {w w' : World} {lo hi : Nat} {v : Value} {ps : List Pk} (h : PksS w lo hi v ps) (hb : Below w.heap.size w w') (hh : hi ≤ w.heap.size) : PksS w' lo hi v ps := h.mk (Mk.of_below hb hh)

set_option maxRecDepth 100000 in
set_option maxHeartbeats 1000000 in
theorem markStringS_r (lo hi n cap s : Nat) (A : Option Addr) (w : World) (h : SlR w lo hi A n 1 9) (hw : hi ≤ w.heap.size) (hn : n ≤ 2000000) (s1 : 1 ≤ s) (s2 : s ≤ 90000000) :
    Calls Tryz.prog 15 #[.slice A n cap, .int .i64 (s : Int)] w fun e w' => e = .returned (.int .i64 ((s + n : Nat) : Int)) ∧ Mk lo hi w w' := by
  rcases h with ⟨rfl, rfl⟩ | ⟨g, rfl, h1, h2, h3⟩
  · go_enter Tryz.func15, Tryz.ntmps15
    go_wp2
    refine wp_loop_rounds 1 ?_
    rw [rounds_succ]; go_wp2
    go_ret
    exact ⟨rfl, Mk.refl _ _ _⟩
  · rw [Nat.mul_one] at h3
    exact markStringS_w lo hi g n cap s w h3 h1 h2 hw hn s1 s2
set_option maxRecDepth 100000 in
set_option maxHeartbeats 1000000 in
theorem markSumS_r (lo hi n cap s : Nat) (A : Option Addr) (w : World) (h : SlR w lo hi A n 2 61) (hw : hi ≤ w.heap.size) (hn : n ≤ 2000000) (s1 : 1 ≤ s) (s2 : s ≤ 90000000) :
    Calls Tryz.prog 50 #[.slice A n cap, .int .i64 (s : Int)] w fun e w' => e = .returned (.int .i64 ((s + 2 * n : Nat) : Int)) ∧ Mk lo hi w w' := by
  rcases h with ⟨rfl, rfl⟩ | ⟨g, rfl, h1, h2, h3⟩
  · go_enter Tryz.func50, Tryz.ntmps50
    go_wp2
    refine wp_loop_rounds 1 ?_
    rw [rounds_succ]; go_wp2
    go_ret
    exact ⟨rfl, Mk.refl _ _ _⟩
  · exact markSumS_w lo hi g n cap s w h3 h1 h2 hw hn s1 s2
/-- How many marks the first k packs take. -/
def cntP (ps : List Pk) : Nat → Nat
  | 0 => 0
  | k + 1 => cntP ps k + (4 + 2 * (ps.getD k default).sums.length + (ps.getD k default).needs.length)
theorem cntP_le (ps : List Pk) : ∀ k, k ≤ ps.length → cntP ps k ≤ 4 * k + 2 * smP (ps.take k)
  | 0, _ => by simp [cntP]
  | k + 1, h => by
    have ih := cntP_le ps k (by omega)
    have hs := smP_snoc ps k (by omega)
    unfold cntP
    rw [ps_getD (by omega : k < ps.length)]
    have : wP ps[k] = ps[k].name.length + ps[k].ver.length + ps[k].src.length + (ps[k].sums.length + smB ps[k].sums) + (ps[k].needs.length + smL ps[k].needs) := rfl
    omega
where
  ps_getD {ps : List Pk} {k : Nat} (h : k < ps.length) : ps.getD k default = ps[k] := by rw [List.getD_eq_getElem?_getD, List.getElem?_eq_getElem h]; rfl
theorem cntP_small {ps : List Pk} (hs : SmPs ps) (k : Nat) (hk : k ≤ ps.length) : cntP ps k ≤ 10000000 := by
  have h1 := cntP_le ps k hk
  have h2 := smP_le ps k
  unfold SmPs at hs
  omega
theorem cellOf {w : World} {G i : Nat} {cur : Array Value} {T : TypeId} {v : Value} (h : w.heap[G]? = some (.cells cur T)) (hv : cur[i]? = some v) : w.cell? ⟨G, i, none⟩ = some v ∧ w.frozen? ⟨G, i, none⟩ = false := by
  constructor
  · simp [World.cell?, h, hv]
  · simp [World.frozen?, h]

set_option maxRecDepth 100000 in
set_option maxHeartbeats 4000000 in
theorem markPackS_w (lo hi s : Nat) (v : Value) (ps : List Pk) (w : World) (h : PksS w lo hi v ps) (hw : hi ≤ w.heap.size) (hs : SmPs ps) (s1 : 1 ≤ s) (s2 : s ≤ 10000000) :
    Calls Tryz.prog 33 #[v, .int .i64 (s : Int)] w fun e w' => ∃ z : Nat, e = .returned (.int .i64 (z : Int)) ∧ Mk lo hi w w' := by
  have HS := Lib.hid hs
  have HP := Lib.hid h
  have hn : ps.length ≤ 1048576 := by unfold SmPs at hs; omega
  obtain ⟨G, cap, cur0, rfl, hG1, hG2, _, _⟩ := h
  clear hs
  go_enter Tryz.func33, Tryz.ntmps33
  go_wp2_with fail
  go_loopw [1, 5] (fun u i wr => ∃ k U : Nat, k ≤ ps.length ∧ Hid (U = s + cntP ps k) ∧ i = .int .i64 k ∧ u = .int .i64 (U : Int) ∧ Mk lo hi w wr) (fun _ i _ => ps.length - (intOf i).toNat)
  case atStart => exact ⟨0, s, Nat.zero_le _, Lib.hid (by simp [cntP]), rfl, rfl, Mk.refl _ _ _⟩
  case round =>
    obtain ⟨k, U, hk, HU, rfl, rfl, hM⟩ := hrel
    have hc := cntP_small HS.out k hk
    have u1 : 1 ≤ U := by have := HU.out; omega
    have u2 : U ≤ 20000000 := by have := HU.out; omega
    by_cases hlt : k < ps.length
    · have hw0 := HS.out.get k hlt
      have hsl : ps[k].sums.length ≤ 1048576 := by have := hw0.sums; unfold SmB at this; omega
      have hnl : ps[k].needs.length ≤ 1048576 := by have := hw0.needs; omega
      have HU2 : Hid (cntP ps (k + 1) = cntP ps k + (4 + 2 * ps[k].sums.length + ps[k].needs.length)) := Lib.hid (by rw [← cntP_le.ps_getD hlt]; rfl)
      have HR := Lib.hid (fun (W : World) (hm : Mk lo hi w W) => (show ∃ cur, W.heap[G]? = some (.cells cur 43) ∧ PkC W lo hi cur (k * 6) ps[k].sums.length ps[k].needs.length from by
        obtain ⟨G', cap', cur, hv, _, _, hh, hp⟩ := HP.out.mk hm
        simp only [Value.slice.injEq, Option.some.injEq, Addr.mk.injEq, and_true] at hv
        obtain ⟨rfl, _⟩ := hv
        exact ⟨cur, hh, hp k hlt⟩))
      obtain ⟨ns, HNS⟩ : ∃ ns, Hid (ps[k].sums.length = ns) := ⟨_, Lib.hid rfl⟩
      obtain ⟨nn, HNN⟩ : ∃ nn, Hid (ps[k].needs.length = nn) := ⟨_, Lib.hid rfl⟩
      simp only [HNS.out, HNN.out] at HR HU2 hsl hnl
      have k0 : (0 : Int) ≤ (k : Int) := by omega
      have k1 : (k : Int) < (ps.length : Int) := by omega
      have hz : hi ≤ wr.heap.size := by have := hM.size; omega
      clear hw0 hc
      go_wp2_with fail
      refine (markText_any U wr (by omega) (by omega)).mono ?_
      rintro e w2 ⟨rfl, hb2⟩
      have M2 := hM.trans (Mk.of_below (lo := lo) (hi := hi) hb2 hz)
      obtain ⟨cu, hcu, t0, t1, t2, A1, c1, d, A2, c2, e0, e1, e2, e3, e4, e5, r1, r2⟩ := HR.out _ M2
      obtain ⟨x0, f0⟩ := cellOf hcu e0
      have M3 := M2.trans (Mk.set w2 G (k * 6) (sv (mt U)) hG1 hG2 (fun v hv => by rw [x0] at hv; cases hv; exact ⟨_, rfl⟩))
      have hz2 : hi ≤ w2.heap.size := by have := M2.size; omega
      clear hM hb2 hcu e0 e1 e2 e3 e4 e5 r1 r2 M2
      go_wp2_with fail
      refine (markText_any (U + 1) _ (by omega) (by omega)).mono ?_
      rintro e w3 ⟨rfl, hb3⟩
      have M4 := M3.trans (Mk.of_below (lo := lo) (hi := hi) hb3 (by simpa using hz2))
      obtain ⟨cu, hcu, t0, t1, t2, A1, c1, d, A2, c2, e0, e1, e2, e3, e4, e5, r1, r2⟩ := HR.out _ M4
      obtain ⟨x1, f1⟩ := cellOf hcu e1
      have M5 := M4.trans (Mk.set w3 G (k * 6 + 1) (sv (mt (U + 1))) hG1 hG2 (fun v hv => by rw [x1] at hv; cases hv; exact ⟨_, rfl⟩))
      have hz3 : hi ≤ w3.heap.size := by have := M4.size; omega
      clear hb3 hcu e0 e1 e2 e3 e4 e5 r1 r2 M4 M3 x0 f0 hz2
      go_wp2_with fail
      refine (markText_any (U + 2) _ (by omega) (by omega)).mono ?_
      rintro e w4 ⟨rfl, hb4⟩
      have M6 := M5.trans (Mk.of_below (lo := lo) (hi := hi) hb4 (by simpa using hz3))
      obtain ⟨cu, hcu, t0, t1, t2, A1, c1, d, A2, c2, e0, e1, e2, e3, e4, e5, r1, r2⟩ := HR.out _ M6
      obtain ⟨x2, f2⟩ := cellOf hcu e2
      have S2 := Mk.set (lo := lo) (hi := hi) w4 G (k * 6 + 2) (sv (mt (U + 2))) hG1 hG2 (fun v hv => by rw [x2] at hv; cases hv; exact ⟨_, rfl⟩)
      have M7 := M6.trans S2
      have hz4 : hi ≤ w4.heap.size := by have := M6.size; omega
      obtain ⟨x3, _⟩ := cellOf hcu e3
      have HM3 := Lib.hid (markSumS_r lo hi ns c1 (U + 3) A1 _ (r1.mk S2) (by simpa using hz4) (by omega) (by omega) (by omega))
      clear hb4 hcu e0 e1 e2 e3 e4 e5 r1 r2 M6 M5 x1 f1 hz3 S2
      go_wp2_with fail
      refine HM3.out.mono ?_
      rintro e w5 ⟨rfl, hm5⟩
      have M8 := M7.trans hm5
      obtain ⟨U5, HU5⟩ : ∃ U5, Hid (U + 3 + 2 * ns = U5) := ⟨_, Lib.hid rfl⟩
      rw [HU5.out]
      have u5 : U5 ≤ 30000000 := by have := HU5.out; omega
      obtain ⟨cu, hcu, t0, t1, t2, A1, c1, d, A2, c2, e0, e1, e2, e3, e4, e5, r1, r2⟩ := HR.out _ M8
      obtain ⟨x4, f4⟩ := cellOf hcu e4
      obtain ⟨x5, _⟩ := cellOf hcu e5
      have HMB := Lib.hid (fun (b : Bool) => Mk.set (lo := lo) (hi := hi) w5 G (k * 6 + 4) (.bool b) hG1 hG2 (fun v hv => by rw [x4] at hv; cases hv; exact ⟨_, rfl⟩))
      have hz5 : hi ≤ w5.heap.size := by have := M8.size; omega
      have HM5 := Lib.hid (fun (b : Bool) => markStringS_r lo hi nn c2 (U5 + 1) A2 _ (r2.mk (HMB.out b)) (by simpa using hz5) (by omega) (by omega) (by omega))
      clear hcu e0 e1 e2 e3 e4 e5 r1 r2 hm5 M7 HM3 x2 f2 x3 hz4
      have u6 : IntKind.i64.wrap ((U5 : Int) + 1) = (U5 : Int) + 1 := IntWalk.i64_in _ (by omega)
      go_wp2_with fail
      refine (HM5.out _).mono ?_
      rintro e w6 ⟨rfl, hm6⟩
      have M9 := (M8.trans (HMB.out _)).trans hm6
      obtain ⟨U6, HU6⟩ : ∃ U6, Hid (U5 + 1 + nn = U6) := ⟨_, Lib.hid rfl⟩
      rw [HU6.out]
      go_wp2_with fail
      go_roundw
      case rel => exact ⟨k + 1, U6, by omega, Lib.hid (by rw [← HU6.out, ← HU5.out, HU2.out, HU.out]; omega), by go_num, by go_num, M9⟩
      case measure => simp [intOf]; omega
    · go_wp2_with fail
      go_ret
      exact ⟨U, rfl, hM⟩

set_option maxRecDepth 100000 in
set_option maxHeartbeats 2000000 in
theorem markGraph_w (lo hi tc : Nat) (T : Option Addr) (vp : Value) (ts : List (List UInt8)) (ps : List Pk) (w : World) (ht : SlR w lo hi T ts.length 1 9) (hp : PksS w lo hi vp ps) (hw : hi ≤ w.heap.size) (hs : SmG ts ps) :
    Calls Tryz.prog 14 #[.agg #[.slice T ts.length tc, vp], .int .i64 1] w fun e w' => ∃ z : Nat, e = .returned (.int .i64 (z : Int)) ∧ Mk lo hi w w' := by
  have htl : ts.length ≤ 1048576 := by have := hs.1; omega
  obtain ⟨A, ca, hv⟩ : ∃ A ca, vp = .slice A ps.length ca := by obtain ⟨G, cap, cur, hv, _⟩ := hp; exact ⟨_, _, hv⟩
  subst hv
  have B0 : Below w.heap.size w (w.alloc (.cells #[.slice T ts.length tc, .slice A ps.length ca] 30)) := (Below.refl _ _).alloc (Nat.le_refl _) _
  have b0 := heap_alloc_new w (.cells #[.slice T ts.length tc, .slice A ps.length ca] 30)
  have M0 : Mk lo hi w (w.alloc (.cells #[.slice T ts.length tc, .slice A ps.length ca] 30)) := Mk.of_below B0 hw
  have HS := Lib.hid (markStringS_r lo hi ts.length tc 1 T _ (ht.mk M0) (by simp; omega) (by omega) (by omega) (by omega))
  have HP := Lib.hid (fun (s : Nat) (W : World) (hm : Mk lo hi w W) (s1 : 1 ≤ s) (s2 : s ≤ 10000000) => markPackS_w lo hi s (.slice A ps.length ca) ps W (hp.mk hm) (by have := hm.size; omega) hs.2 s1 s2)
  obtain ⟨x0, x1⟩ := cellsG b0
  clear ht hp hs
  go_enter Tryz.func14, Tryz.ntmps14
  go_wp2_with fail
  refine HS.out.mono ?_
  rintro e w1 ⟨rfl, hm1⟩
  have b1 : w1.heap[w.heap.size]? = some (.cells #[.slice T ts.length tc, .slice A ps.length ca] 30) := (hm1.out _ (by simp) (.inr hw)).trans b0
  obtain ⟨y0, y1⟩ := cellsG b1
  have M1 := M0.trans hm1
  obtain ⟨U, HU⟩ : ∃ U, Hid (1 + ts.length = U) := ⟨_, Lib.hid rfl⟩
  rw [HU.out]
  have HP2 := Lib.hid (HP.out U w1 M1 (by have := HU.out; omega) (by have := HU.out; omega))
  clear hm1 x0 x1 b0 b1 B0
  go_wp2_with fail
  refine HP2.out.mono ?_
  rintro e w2 ⟨z, rfl, hm2⟩
  go_wp2_with fail
  go_ret
  exact ⟨z, rfl, M1.trans hm2⟩
end Go.Proofs.YtcfkhfbhmjfhdaaGreatDoor

/-
  The laws' own helpers on lists of texts: markStringS writes marks over each, heldStringS reads them.
-/
namespace Go.Proofs.YtcfkhfbhmjfhdaaGreatDoor
open Go.RowKit

/-- The first k of n marks, then what stood there. -/
def mks (k : Nat) (ls : List (List UInt8)) : List (List UInt8) := (List.range k).map (fun j => mt (j + 1)) ++ ls.drop k
theorem mks_zero (ls : List (List UInt8)) : mks 0 ls = ls := by simp [mks]
theorem mks_len (k : Nat) (ls : List (List UInt8)) (h : k ≤ ls.length) : (mks k ls).length = ls.length := by simp [mks]; omega
theorem mks_get (k : Nat) (ls : List (List UInt8)) (j : Nat) (hj : j < k) (h : j < (mks k ls).length) : (mks k ls)[j] = mt (j + 1) := by simp [mks, hj]
theorem mks_set (k : Nat) (ls : List (List UInt8)) (h : k < ls.length) : (mks k ls).set k (mt (k + 1)) = mks (k + 1) ls := by
  unfold mks
  rw [List.set_append_right _ _ (by simp)]
  simp only [List.length_map, List.length_range, Nat.sub_self]
  rw [List.range_succ, List.map_append, List.append_assoc]
  congr 1
  rw [List.drop_eq_getElem_cons h]
  rfl

set_option maxRecDepth 100000 in
set_option maxHeartbeats 1000000 in
theorem markStringS_any (w : World) (base g cap : Nat) (ls : List (List UInt8)) (h : Strs w base (.slice (some ⟨g, 0, none⟩) ls.length cap) ls) (hb0 : base ≤ w.heap.size) (hg : base ≤ g) (hl : ls.length ≤ 2000000) :
    Calls Tryz.prog 15 #[.slice (some ⟨g, 0, none⟩) ls.length cap, .int .i64 1] w fun e w' => e = .returned (.int .i64 ((ls.length + 1 : Nat) : Int)) ∧ Strs w' base (.slice (some ⟨g, 0, none⟩) ls.length cap) (mks ls.length ls) ∧ Below base w w' := by
  go_enter Tryz.func15, Tryz.ntmps15
  go_wp2
  go_loopw [1, 5] (fun u i wr => ∃ k : Nat, k ≤ ls.length ∧ i = .int .i64 k ∧ u = .int .i64 ((k + 1 : Nat) : Int) ∧ Strs wr base (.slice (some ⟨g, 0, none⟩) ls.length cap) (mks k ls) ∧ Below base w wr) (fun _ i _ => ls.length - (intOf i).toNat)
  case atStart => exact ⟨0, Nat.zero_le _, rfl, rfl, by rw [mks_zero]; exact h, Below.refl _ _⟩
  case round =>
    obtain ⟨k, hk, rfl, rfl, hS, hb⟩ := hrel
    by_cases hlt : k < ls.length
    · have k0 : (0 : Int) ≤ (k : Int) := by omega
      have k1 : (k : Int) < (ls.length : Int) := by omega
      have hm := markText_any (k + 1) wr (by omega) (by omega)
      have HM := Lib.hid hm
      clear hm h
      go_wp2_with fail
      refine HM.out.mono ?_
      rintro e w2 ⟨rfl, hb2⟩
      have hS2 := hS.below hb2
      have hS2' : Strs w2 base (.slice (some ⟨g, 0, none⟩) (mks k ls).length cap) (mks k ls) := by rw [mks_len k ls hk]; exact hS2
      have c2 : w2.cell? ⟨g, k, none⟩ = some (sv ((mks k ls)[k]'(by rw [mks_len k ls hk]; exact hlt))) := hS2.cell k _
      have f2 : w2.frozen? ⟨g, k, none⟩ = false := World.ownsRow.frozenAt hS2' k
      have HB := hb.trans (hb2.mono (Nat.le_trans hb0 hb.size))
      go_wp2_with fail
      go_roundw
      case rel => exact ⟨k + 1, by omega, by go_num, by go_num, by have := hS2'.set k (mt (k + 1)); rw [mks_set k ls hlt, mks_len (k+1) ls (by omega)] at this; exact this, HB.setCell (p := ⟨g, k, none⟩) hg _⟩
      case measure => simp [intOf]; omega
    · obtain rfl : k = ls.length := by omega
      clear h
      go_wp2_with fail
      go_ret
      exact ⟨rfl, hS, hb⟩

set_option maxRecDepth 100000 in
set_option maxHeartbeats 1000000 in
theorem heldStringS_any (w : World) (base g cap : Nat) (ls : List (List UInt8)) (h : Strs w base (.slice (some ⟨g, 0, none⟩) ls.length cap) (mks ls.length ls)) (hl : ls.length ≤ 2000000) :
    Calls Tryz.prog 16 #[.slice (some ⟨g, 0, none⟩) ls.length cap, .int .i64 1] w fun e w' => e = .returned (.int .i64 ((ls.length + 1 : Nat) : Int)) ∧ Below w.heap.size w w' := by
  go_enter Tryz.func16, Tryz.ntmps16
  go_wp2
  go_loopw [1, 5] (fun u i wr => ∃ k : Nat, k ≤ ls.length ∧ i = .int .i64 k ∧ u = .int .i64 ((k + 1 : Nat) : Int) ∧ Strs wr base (.slice (some ⟨g, 0, none⟩) ls.length cap) (mks ls.length ls) ∧ Below w.heap.size w wr) (fun _ i _ => ls.length - (intOf i).toNat)
  case atStart => exact ⟨0, Nat.zero_le _, rfl, rfl, h, Below.refl _ _⟩
  case round =>
    obtain ⟨k, hk, rfl, rfl, hS, hb⟩ := hrel
    by_cases hlt : k < ls.length
    · have k0 : (0 : Int) ≤ (k : Int) := by omega
      have k1 : (k : Int) < (ls.length : Int) := by omega
      have HM := Lib.hid (fun W => markText_any (k + 1) W (by omega) (by omega))
      clear h
      have HC : Hid (∀ W, Strs W base (.slice (some ⟨g, 0, none⟩) ls.length cap) (mks ls.length ls) → W.cell? ⟨g, k, none⟩ = some (.string ⟨(mt (k + 1)).toArray⟩)) := Lib.hid (fun W hW => by
        have := hW.cell k (by rw [mks_len _ ls (Nat.le_refl _)]; exact hlt)
        rw [mks_get ls.length ls k hlt] at this
        exact this)
      have c1 := HC.out wr hS
      have g1 : g < wr.heap.size := by
        rcases hS.form with ⟨h', _⟩ | ⟨g', cap', h', _, hg'⟩
        · cases h'
        · simp only [Value.slice.injEq, Option.some.injEq, Addr.mk.injEq, and_true] at h'
          rw [h'.1]; exact hg'
      go_wp2_with fail
      go_region_held3 (fun W => W.cell? ⟨g, k, none⟩ = some (.string ⟨(mt (k + 1)).toArray⟩) ∧ g < W.heap.size) (first | exact ⟨c1, g1⟩ | (refine ⟨?_, ?_⟩ <;> assumption) | exact keep_cell hb1 (by assumption) (by assumption)) ((first | (go_at_call 34; refine (HM.out _).mono ?_; rintro e w1 ⟨rfl, hb1⟩)))
      go_wp2_with fail
      have hd : Below w.heap.size w wr.drew := hb.trans ⟨rfl, rfl, rfl, Nat.le_refl _, fun _ _ => rfl⟩
      go_roundw
      case rel => exact ⟨k + 1, by omega, by go_num, by go_num, hS.drew.below hb1, hd.trans (hb1.mono hd.size)⟩
      case measure => simp [intOf]; omega
    · obtain rfl : k = ls.length := by omega
      clear h
      go_wp2_with fail
      go_ret
      exact ⟨rfl, hb⟩
end Go.Proofs.YtcfkhfbhmjfhdaaGreatDoor

/-
  The laws' own helpers on lists of texts: markStringS writes marks over each, heldStringS reads them; nil lists too.
-/
namespace Go.Proofs.YtcfkhfbhmjfhdaaGreatDoor
open Go.RowKit

set_option maxRecDepth 100000 in
set_option maxHeartbeats 1000000 in
theorem markS_any (w : World) (base : Nat) (v : Value) (ls : List (List UInt8)) (h : Strs w base v ls) (hb0 : base ≤ w.heap.size) (hl : ls.length ≤ 2000000) :
    Calls Tryz.prog 15 #[v, .int .i64 1] w fun e w' => e = .returned (.int .i64 ((ls.length + 1 : Nat) : Int)) ∧ Strs w' base v (mks ls.length ls) ∧ Below base w w' := by
  rcases h.form with ⟨rfl, rfl⟩ | ⟨g, cap, rfl, hg, _⟩
  · go_enter Tryz.func15, Tryz.ntmps15
    go_wp2
    refine wp_loop_rounds 1 ?_
    rw [rounds_succ]; go_wp2
    go_ret
    exact ⟨rfl, h, Below.refl _ _⟩
  · exact markStringS_any w base g cap ls h hb0 hg hl
set_option maxRecDepth 100000 in
set_option maxHeartbeats 1000000 in
theorem heldS_any (w : World) (base : Nat) (v : Value) (ls : List (List UInt8)) (h : Strs w base v (mks ls.length ls)) (hl : ls.length ≤ 2000000) :
    Calls Tryz.prog 16 #[v, .int .i64 1] w fun e w' => e = .returned (.int .i64 ((ls.length + 1 : Nat) : Int)) ∧ Below w.heap.size w w' := by
  rcases h.form with ⟨rfl, h0⟩ | ⟨g, cap, rfl, hg, _⟩
  · have : ls = [] := by
      have := mks_len ls.length ls (Nat.le_refl _)
      rw [h0] at this
      exact List.eq_nil_of_length_eq_zero this.symm
    subst this
    go_enter Tryz.func16, Tryz.ntmps16
    go_wp2
    refine wp_loop_rounds 1 ?_
    rw [rounds_succ]; go_wp2
    go_ret
    exact ⟨rfl, Below.refl _ _⟩
  · rw [mks_len ls.length ls (Nat.le_refl _)] at h ⊢
    exact heldStringS_any w base g cap ls h hl

set_option maxRecDepth 100000 in
set_option maxHeartbeats 1000000 in
theorem markStringS_gr (w : World) (base g cap : Nat) (ls : List (List UInt8)) (h : Strs w base (.slice (some ⟨g, 0, none⟩) ls.length cap) ls) (hl : ls.length ≤ 2000000) :
    Calls Tryz.prog 15 #[.slice (some ⟨g, 0, none⟩) ls.length cap, .int .i64 1] w fun e w' => e = .returned (.int .i64 ((ls.length + 1 : Nat) : Int)) ∧ Strs w' base (.slice (some ⟨g, 0, none⟩) ls.length cap) (mks ls.length ls) ∧ w.grownBy w' (some g) := by
  go_enter Tryz.func15, Tryz.ntmps15
  go_wp2
  go_loopw [1, 5] (fun u i wr => ∃ k : Nat, k ≤ ls.length ∧ i = .int .i64 k ∧ u = .int .i64 ((k + 1 : Nat) : Int) ∧ Strs wr base (.slice (some ⟨g, 0, none⟩) ls.length cap) (mks k ls) ∧ w.grownBy wr (some g)) (fun _ i _ => ls.length - (intOf i).toNat)
  case atStart => exact ⟨0, Nat.zero_le _, rfl, rfl, by rw [mks_zero]; exact h, World.grownBy.refl w _⟩
  case round =>
    obtain ⟨k, hk, rfl, rfl, hS, hb⟩ := hrel
    by_cases hlt : k < ls.length
    · have k0 : (0 : Int) ≤ (k : Int) := by omega
      have k1 : (k : Int) < (ls.length : Int) := by omega
      have HM := Lib.hid (markText_any (k + 1) wr (by omega) (by omega))
      clear h
      go_wp2_with fail
      refine HM.out.mono ?_
      rintro e w2 ⟨rfl, hb2⟩
      have hS2 := hS.below hb2
      have hS2' : Strs w2 base (.slice (some ⟨g, 0, none⟩) (mks k ls).length cap) (mks k ls) := by rw [mks_len k ls hk]; exact hS2
      have c2 : w2.cell? ⟨g, k, none⟩ = some (sv ((mks k ls)[k]'(by rw [mks_len k ls hk]; exact hlt))) := hS2.cell k _
      have f2 : w2.frozen? ⟨g, k, none⟩ = false := World.ownsRow.frozenAt hS2' k
      have HB := gr_trans hb (gr_below hb2)
      go_wp2_with fail
      go_roundw
      case rel => exact ⟨k + 1, by omega, by go_num, by go_num, by have := hS2'.set k (mt (k + 1)); rw [mks_set k ls hlt, mks_len (k+1) ls (by omega)] at this; exact this, gr_trans HB (gr_set _ _ _ _)⟩
      case measure => simp [intOf]; omega
    · obtain rfl : k = ls.length := by omega
      clear h
      go_wp2_with fail
      go_ret
      exact ⟨rfl, hS, hb⟩

set_option maxRecDepth 100000 in
set_option maxHeartbeats 1000000 in
theorem markS_gr (w : World) (base : Nat) (v : Value) (ls : List (List UInt8)) (h : Strs w base v ls) (hl : ls.length ≤ 2000000) :
    Calls Tryz.prog 15 #[v, .int .i64 1] w fun e w' => e = .returned (.int .i64 ((ls.length + 1 : Nat) : Int)) ∧ Strs w' base v (mks ls.length ls) ∧ w.grownBy w' v.ownBlock := by
  rcases h.form with ⟨rfl, rfl⟩ | ⟨g, cap, rfl, hg, _⟩
  · go_enter Tryz.func15, Tryz.ntmps15
    go_wp2
    refine wp_loop_rounds 1 ?_
    rw [rounds_succ]; go_wp2
    go_ret
    exact ⟨rfl, h, World.grownBy.refl w _⟩
  · exact markStringS_gr w base g cap ls h hl
end Go.Proofs.YtcfkhfbhmjfhdaaGreatDoor

/-
  The walk of the law FnExactVersions.
-/
namespace Go.Proofs.YtcfkhfbhmjfhdaaGreatDoor
open Go.RowKit

set_option maxRecDepth 100000 in
set_option maxHeartbeats 8000000 in
theorem exVersions (vt vp : Value) (ts : List (List UInt8)) (ps : List Pk) (s : ByteArray) (w : World) (ht : RdS w vt ts) (hp : RdPs w vp ps) (nt : ts.length ≤ maxLen) (mt : ∀ l ∈ ts, l.length ≤ maxLen) (np : ps.length ≤ maxLen) (mp : ∀ p ∈ ps, PkFits p) (hs : s.size ≤ maxLen) (htab : Tab w) :
    Calls Tryz.prog 5 #[.agg #[vt, vp], .string s] w fun e w' => e = .returned (.bool true) ∧ Below w.heap.size w w' := by
  obtain ⟨key, rfl⟩ : ∃ key : List UInt8, s = ⟨key.toArray⟩ := ⟨s.data.toList, bytes_ext (by simp)⟩
  rw [size_of] at hs
  unfold maxLen at hs
  have HZ := Lib.hid (fun (W : World) (h : Below w.heap.size w W) => szGraph_any vt vp ts ps 1048576 W (ht.below h) (hp.below h) (by omega) (by omega) nt mt np mp)
  have HT0 := Lib.hid (fun (hg : SmG ts ps) (W : World) (h : Below w.heap.size w W) => toGraph_any vt vp ts ps W (ht.below h) (hp.below h) hg)
  have HTB := Lib.hid (fun (W : World) (h : Below w.heap.size w W) => tab_below htab h)
  obtain ⟨z, HX⟩ : ∃ z, Hid (szG 1048576 ts ps = z) := ⟨_, Lib.hid rfl⟩
  obtain ⟨A, ca, rfl⟩ := ht.slice
  obtain ⟨B, cb, rfl, _⟩ := hp
  clear ht nt mt np mp htab
  have B0 : Below w.heap.size w (w.alloc (.cells #[.slice A ts.length ca, .slice B ps.length cb] 25)) := (Below.refl _ _).alloc (Nat.le_refl _) _
  have b0 := heap_alloc_new w (.cells #[.slice A ts.length ca, .slice B ps.length cb] 25)
  by_cases hbig : 1048576 < key.length
  · have hb2 : 1048576 < (⟨key.toArray⟩ : ByteArray).size := by rw [size_of]; exact hbig
    go_enter Tryz.func5, Tryz.ntmps5
    go_wp2_with fail
    go_ret
    exact ⟨rfl, B0⟩
  have hb2 : ¬ 1048576 < (⟨key.toArray⟩ : ByteArray).size := by rw [size_of]; exact hbig
  by_cases hz : z < 0
  · go_enter Tryz.func5, Tryz.ntmps5
    go_wp2_with fail
    refine (HZ.out _ B0).mono ?_
    rw [HX.out]
    rintro e w1 ⟨rfl, hb1⟩
    go_wp2_with fail
    go_ret
    exact ⟨rfl, B0.trans (hb1.mono B0.size)⟩
  have HS := Lib.hid (szG_good (ts := ts) (ps := ps) (left := 1048576) (by omega) (by omega) (by rw [HX.out]; exact hz)).1
  have HT := Lib.hid (HT0.out HS.out)
  have hvl := vsT_len ps key ps.length
  have hpl : ps.length ≤ 1048576 := by have := HS.out.2; unfold SmPs at this; omega
  have HSP := Lib.hid (fun (W : World) (T : Option Addr) (n c : Nat) (b : Value) (h2 : RdPs W b ps) => specVersions_any T n c b ps key W h2 HS.out.2)
  have HIM := Lib.hid (fun (W : World) (T : Option Addr) (n c : Nat) (b : Value) (h : Below w.heap.size w W) (h2 : RdPs W b ps) => implVersions_any T n c b ps key W h2 HS.out.2 (HTB.out W h))
  unfold VsIs at HSP HIM
  obtain ⟨R, HRR⟩ : ∃ R, Hid (vsT ps key ps.length = R) := ⟨_, Lib.hid rfl⟩
  simp only [HRR.out] at HSP HIM hvl
  clear HT0
  go_enter Tryz.func5, Tryz.ntmps5
  go_wp2_with fail
  refine (HZ.out _ B0).mono ?_
  rw [HX.out]
  rintro e w1 ⟨rfl, hb1⟩
  have B1 := B0.trans (hb1.mono B0.size)
  have b1 := keepB b0 hb1
  obtain ⟨x0, x1⟩ := cellsG b1
  clear hb1 b0 HZ
  go_wp2_with fail
  refine (HT.out _ B1).mono ?_
  rintro e w2 ⟨A1, c1, D1, e1, rfl, hG1, hb2'⟩
  have B2 := B1.trans (hb2'.mono B1.size)
  have b2 := keepB b1 hb2'
  clear hb2' b1 B1 x0 x1
  go_wp2_with fail
  refine (HSP.out _ _ _ _ _ (RdPs.of_own hG1.2)).mono ?_
  rintro e w3 ⟨v0, out, rfl, S0, hso0, hb3⟩
  have HSO := Lib.hid hso0
  have hol : out.length ≤ ps.length := by have := sortOf_len hso0; omega
  clear hso0
  have B3 := B2.trans (hb3.mono B2.size)
  have b3 := keepB b2 hb3
  have n0 := S0.block_lt
  obtain ⟨A0, c0, rfl⟩ := S0.slice
  obtain ⟨x0, x1⟩ := cellsG b3
  clear hG1 hb3 b2 B2
  go_wp2_with fail
  refine (HT.out _ B3).mono ?_
  rintro e w4 ⟨A2, c2, D2, e2, rfl, hG2, hb4⟩
  have B4 := B3.trans (hb4.mono B3.size)
  have b4 := keepB b3 hb4
  have S04 := S0.below hb4
  have h34 := hb4.size
  have B4s : w.heap.size ≤ w4.heap.size := B4.size
  have B3s : w.heap.size < w3.heap.size := lt_of_heap b3
  have K4 := strs_slR hG2.1 rfl (Nat.le_refl w3.heap.size) (Nat.le_refl w4.heap.size)
  have P4 := PksS.of_own hG2.2
  clear hb4 b3 B3 x0 x1 S0
  have B45 : Below w4.heap.size w4 (w4.alloc (.cells #[.slice A2 ts.length c2, .slice D2 ps.length e2] 30)) := (Below.refl _ _).alloc (Nat.le_refl _) _
  have B5 : Below w.heap.size w (w4.alloc (.cells #[.slice A2 ts.length c2, .slice D2 ps.length e2] 30)) := B4.alloc B4.size _
  have b5 := keepA b4 (.cells #[.slice A2 ts.length c2, .slice D2 ps.length e2] 30)
  have b6 := heap_alloc_new w4 (.cells #[.slice A2 ts.length c2, .slice D2 ps.length e2] 30)
  have hG5 := hG2.below B45
  have S05 := S04.below B45
  have M5 : Mk w3.heap.size w4.heap.size w4 (w4.alloc (.cells #[.slice A2 ts.length c2, .slice D2 ps.length e2] 30)) := Mk.of_below B45 (Nat.le_refl _)
  have K5 := K4.mk M5
  have P5 := P4.mk M5
  have h5 : w4.heap.size ≤ (w4.alloc (.cells #[.slice A2 ts.length c2, .slice D2 ps.length e2] 30)).heap.size := M5.size
  clear hG2 B45 B4 b4 S04 M5 K4 P4
  go_wp2_with fail
  refine (HIM.out _ _ _ _ _ B5 (RdPs.of_own hG5.2)).mono ?_
  rintro e w6 ⟨vg, out2, rfl, Sg, hso2, hb6⟩
  obtain rfl : out = out2 := sortOf_unique HSO.out hso2
  clear hso2
  have B6 := B5.trans (hb6.mono B5.size)
  have x6 := keepB b6 hb6
  have y6 := keepB b5 hb6
  have hG6 := hG5.below hb6
  have S06 := S05.below hb6
  have K6 := K5.mk (Mk.of_below hb6 h5)
  have P6 := P5.below hb6 h5
  have h6 : w4.heap.size ≤ w6.heap.size := Nat.le_trans h5 hb6.size
  have g6 := Sg.owned
  have h56 : w4.heap.size < (w4.alloc (.cells #[.slice A2 ts.length c2, .slice D2 ps.length e2] 30)).heap.size := by simp
  have g6' : ∀ g, vg.ownBlock = some g → w4.heap.size < g := fun g hg => Nat.lt_of_lt_of_le h56 (g6 g hg)
  obtain ⟨Ag, cg, rfl⟩ := Sg.slice
  clear hb6 hG5 b5 b6 B5 S05 K5 P5 h5 g6 h56
  go_wp2_with fail
  refine (eqStringS_same _ _ out _ (RdS.of_strs Sg) (RdS.of_strs S06) (by omega)).mono ?_
  rintro e w7 ⟨rfl, n7, rfl⟩
  have B7 := B6.trans (below_drewN _ _ n7)
  have x7 := keepB x6 (below_drewN w6.heap.size w6 n7)
  have y7 := keepB y6 (below_drewN w6.heap.size w6 n7)
  have hG7 := hG6.below (below_drewN w6.heap.size w6 n7)
  have S07 := S06.below (below_drewN w6.heap.size w6 n7)
  have Sg7 := Sg.below (below_drewN w6.heap.size w6 n7)
  have K7 := K6.mk (Mk.of_below (below_drewN w6.heap.size w6 n7) h6)
  have P7 := P6.below (below_drewN w6.heap.size w6 n7) h6
  have h7 : w4.heap.size ≤ (w6.drewN n7).heap.size := h6
  obtain ⟨W7, HW7⟩ : ∃ W7, W7 = w6.drewN n7 := ⟨_, rfl⟩
  rw [← HW7] at B7 x7 y7 hG7 S07 Sg7 K7 P7 h7 ⊢
  obtain ⟨c60, c61⟩ := cellsG x7
  obtain ⟨c70, c71⟩ := cellsG y7
  have HQ := Lib.hid (fun (W : World) (h : Below W7.heap.size W7 W) (a' b' : Value) (r1 : RdS W a' ts) (r2 : RdPs W b' ps) => eqGraph_same _ _ a' b' ts ps W ((RdS.of_strs hG7.1).below h) ((RdPs.of_own hG7.2).below h) r1 r2 HS.out)
  clear x6 y6 hG6 S06 Sg K6 P6 h6 B6 HW7 hG7
  go_wp2_with fail
  go_region_with (first | (go_at_call 8; refine (HT.out _ (by first | exact B7.trans (below_drewN _ _ 1))).mono ?_; rintro e w8 ⟨A3, c3, D3, e3, rfl, hG8, hb8⟩; obtain ⟨z0, z1⟩ := cellsG (keepB (W := W7.drewN 1) x7 hb8)) | (go_at_call 10; refine (HQ.out _ ((below_drewN _ _ 1).trans (hb8.mono (Nat.le_refl _))) _ _ (RdS.of_strs hG8.1) (RdPs.of_own hG8.2)).mono ?_; rintro e w9 ⟨rfl, hb9⟩))
  all_goals
    have T9 : Below W7.heap.size W7 w9 := (below_drewN _ _ 1).trans ((hb8.trans (hb9.mono hb8.size)).mono (Nat.le_refl _))
    have B9 := B7.trans (T9.mono B7.size)
    obtain ⟨k0, k1⟩ := cellsG (keepB x7 T9)
    have y9 := keepB y7 T9
    have S09 := S07.below T9
    have Sg9 := Sg7.below T9
    have K9 := K7.mk (Mk.of_below T9 h7)
    have P9 := P7.below T9 h7
    have h9 : w4.heap.size ≤ w9.heap.size := Nat.le_trans h7 T9.size
    clear x7 y7 S07 Sg7 K7 P7 T9 hb8 hb9 B7 hG8 c60 c61 c70 c71 HQ
    go_wp2_with fail
    refine (markGraph_w w3.heap.size w4.heap.size c2 A2 _ ts ps _ K9 P9 h9 HS.out).mono ?_
    rintro e w10 ⟨zm, rfl, hm10⟩
    have B10 := belowMk B9 hm10 (by omega) B9.size
    have y10 : w10.heap[w.heap.size]? = some (.cells #[.slice A ts.length ca, .slice B ps.length cb] 25) := (hm10.out _ (lt_of_heap y9) (.inl (by omega))).trans y9
    have S010 := S09.mk hm10 (fun g hg => .inl (n0 g hg))
    have Sg10 := Sg9.mk hm10 (fun g hg => .inr (by have := g6' g hg; omega))
    clear K9 P9 h9 hm10 B9 y9 S09 Sg9 k0 k1
    have q1 : ¬ ((zm : Int) < 0) := by omega
    go_wp2_with fail
    refine (eqStringS_same _ _ out _ (RdS.of_strs Sg10) (RdS.of_strs S010) (by omega)).mono ?_
    rintro e w11 ⟨rfl, n11, rfl⟩
    have B11 := B10.trans (below_drewN _ _ n11)
    have S011 := S010.below (below_drewN w10.heap.size w10 n11)
    have Sg11 := Sg10.below (below_drewN w10.heap.size w10 n11)
    have y11 := keepB y10 (below_drewN w10.heap.size w10 n11)
    clear S010 Sg10 B10 y10
    go_wp2_with fail
    refine (markS_gr _ _ _ out Sg11 (by omega)).mono ?_
    rintro e w12 ⟨rfl, Sg12, hg12⟩
    have B12 := gr_belowN B11 hg12 B11.size (fun g hg => by have := g6' g hg; omega)
    have S012 := S011.grown hg12 (fun g hg e => by have := n0 g hg; have := g6' g e.symm; omega)
    have y12 := gr_heap hg12 y11 (fun e => by have := g6' _ e.symm; omega)
    clear S011 Sg11 hg12 B11 y11
    go_wp2_with fail
    refine (heldS_any _ _ _ out Sg12 (by omega)).mono ?_
    rintro e w13 ⟨rfl, hb13⟩
    have B13 := B12.trans (hb13.mono B12.size)
    have S013 := S012.below hb13
    have Sg13 := Sg12.below hb13
    have y13 := keepB y12 hb13
    obtain ⟨c80, c81⟩ := cellsG y13
    clear S012 Sg12 hb13 B12 y12
    have q2 : ¬ (((out.length + 1 : Nat) : Int) < 0) := by omega
    have q3 : (((out.length + 1 : Nat) : Int) != ((out.length + 1 : Nat) : Int)) = false := int_bne_false rfl
    go_wp2_with fail
    refine (HT.out _ B13).mono ?_
    rintro e w14 ⟨A14, c14, D14, e14, rfl, hG14, hb14⟩
    have B14 := B13.trans (hb14.mono B13.size)
    have S014 := S013.below hb14
    have Sg14 := Sg13.below hb14
    clear S013 Sg13 hb14 B13 y13 c80 c81
    go_wp2_with fail
    refine (HIM.out _ _ _ _ _ B14 (RdPs.of_own hG14.2)).mono ?_
    rintro e w15 ⟨vh, out3, rfl, Sh, hso3, hb15⟩
    obtain rfl : out = out3 := sortOf_unique HSO.out hso3
    clear hso3
    have B15 := B14.trans (hb15.mono B14.size)
    have S015 := S014.below hb15
    have Sg15 := Sg14.below hb15
    obtain ⟨Ah, ch, rfl⟩ := Sh.slice
    clear S014 Sg14 hb15 B14 hG14
    go_wp2_with fail
    refine (eqStringS_same _ _ out _ (RdS.of_strs Sh) (RdS.of_strs S015) (by omega)).mono ?_
    rintro e w16 ⟨rfl, n16, rfl⟩
    have B16 := B15.trans (below_drewN _ _ n16)
    have Sg16 := Sg15.below (below_drewN w15.heap.size w15 n16)
    clear S015 Sg15 Sh B15
    go_wp2_with fail
    refine (heldS_any _ _ _ out Sg16 (by omega)).mono ?_
    rintro e w17 ⟨rfl, hb17⟩
    have B17 := B16.trans (hb17.mono B16.size)
    go_wp2_with fail
    go_ret
    exact ⟨rfl, B17⟩
end Go.Proofs.YtcfkhfbhmjfhdaaGreatDoor

namespace Go.Proofs.YtcfkhfbhmjfhdaaGreatDoor.fnExactVersions
open Go.ChangeShapes Go.WideShapes Go.ChangeAt Go.RowKit
open Go.ChangeMaps (open_string shut_string)
set_option linter.unusedVariables false

theorem own : ownKnob Tryz.prog.godebug = none := by kernel_rfl
theorem laidOut : laidOutB Tryz.prog = true := by kernel_rfl

/-- A table's cells, off its datum. -/
def cell1 : DataW Unit → Value
  | .lit (.int k n) => Value.int k n
  | .lit (.string l) => Value.string ⟨l.toArray⟩
  | _ => .bool false
def tabCells : DataW Unit → Array Value
  | .agg l => (l.flatMap fun
    | .agg m => m.map cell1
    | d => [cell1 d]).toArray
  | _ => #[]
def putCells (cs : Array Value) : Obj → Obj
  | .cells _ t fr => .cells cs t fr
  | o => o
/-- A start that fits: the settled world, the tables laid. -/
noncomputable def laidWorld (os : Os) : World :=
  { World.holding Tryz.prog os ⟨#[], #[], []⟩ with heap := ((((World.holding Tryz.prog os ⟨#[], #[], []⟩).heap.modify 2 (putCells (tabCells Rows.laid_math_bits_deBruijn32tab))).modify 3 (putCells (tabCells Rows.laid_math_bits_deBruijn64tab))).modify 1 (putCells (tabCells Rows.laid_internal_strconv_uint64pow10))) }
theorem laid_met (os : Os) (args : Array Value) : laidMetH Tryz.prog Rows.fnExactVersionsRow.laid ((laidWorld os).forCall (fun _ _ => 0) ⟨#[], args, []⟩).memory := by
  rw [MakeChecks.laidMetH_plain _ _ _ (by kernel_rfl)]
  exact laidMet_of_run' 8 (by kernel_rfl) (by kernel_rfl)

set_option maxRecDepth 100000 in
theorem lifted (os : Os) (started : os.Started) (H : Type) (enc : TypeId × Value → H) :
    ReturnsInHanded {} Tryz.checked os 5 .any (fun w args => (Rows.fnExactVersionsSpec.pre enc Tryz.prog Tryz.f5 [] false w args ∧ laidMetH Tryz.prog Rows.fnExactVersionsRow.laid w) ∧ sizedMet enc Tryz.prog Tryz.f5 (OpenSpec.ofChange Rows.fnExactVersionsSpec) false w args)
      (Rows.fnExactVersionsSpec.post enc Tryz.prog Tryz.f5 false true false false) := by
  refine returnsInHanded_of_change_and (C := Tryz.checked) (X := fun w _ => laidMetH Tryz.prog Rows.fnExactVersionsRow.laid w) (fun _ _ _ hh h => h.of_heap hh) own started (by kernel_rfl) Tryz.func5
    (ChangeSpec.witness_at (enc := enc) (C := Tryz.checked) (os := os) (X := fun w _ => laidMetH Tryz.prog Rows.fnExactVersionsRow.laid w) false (laidWorld os) #[.agg #[.slice none 0 0, .slice none 0 0], .string ByteArray.empty] 8 rfl (by kernel_rfl) (by kernel_rfl) (by kernel_rfl) (by kernel_rfl) (by kernel_rfl) (laid_met os _)) ?_
  intro W base args ds gs before hval0 hW _ _ hL _
  have hval : ∀ (j : Nat) t v, Tryz.f5.params[j]? = some t → args[j]? = some v → Value.okWide Tryz.prog W .any base t v := hval0
  have hW' := hW
  obtain ⟨p, q, hA0, hV, rfl, hfz, hnd⟩ := hW
  have hA : DataW.TrodAll enc Tryz.prog W 0 (fun _ => true) true Tryz.f5.params.toList args.toList ds p := hA0
  rw [Tryz.params5] at hA hval
  obtain ⟨v0, vs0, d0, ds0, mp0, mq0, hargs, rfl, rfl, h0, r0⟩ := trodAll_cons hA
  obtain ⟨v1, vs1, d1, ds1, mp1, mq1, rfl, rfl, rfl, h1, r1⟩ := trodAll_cons r0
  obtain ⟨rfl, rfl, rfl⟩ := trodAll_nil r1
  obtain rfl : args = #[v0, v1] := by cases args; simp_all
  obtain ⟨rfl, rfl⟩ := trodVars_none hV
  have k0 := h0
  have lt0 : ∀ x ∈ mp0, x.block < W.heap.size := by obtain ⟨m, hm⟩ := k0; exact DataW.trod_lt m _ _ _ hm
  obtain ⟨t0, q0, ts0, ps0, rfl, R0, S0, N0, M0, O0, P0⟩ := open_graph (hval 0 25 v0 rfl rfl) h0
  obtain ⟨a1, rfl, rfl, rfl, w1⟩ := open_string Tryz.underlying9 (hval 1 9 v1 rfl rfl) h1
  clear hA0 hval0
  rw [MakeChecks.laidMetH_plain _ _ _ (by kernel_rfl)] at hL
  have hL1 : laidMet Tryz.prog Rows.fnExactVersionsRow.laid W := hL
  unfold Rows.fnExactVersionsRow at hL1
  have hL3 : laidMet Tryz.prog [("internal/strconv.uint64pow10", Lib.tabData .u64 Lib.pow10Tab)] W := hL1.tail.tail
  have htab : Lib.TabIs Tryz.prog W "internal/strconv.uint64pow10" .u64 Lib.pow10Tab :=
    Lib.tabIs_of_head (g := 1) (t := 172) (e := 132) (n := 20) (by kernel_rfl) (by kernel_rfl) Tryz.underlying172 Tryz.underlying132 (by kernel_rfl) (by kernel_rfl) hL3
  refine (exVersions t0 q0 ts0 ps0 a1 W R0 S0 N0 M0 O0 P0 w1 htab).mono fun e W' ⟨he, bel⟩ => ?_
  subst he
  exact ⟨_, rfl, _, _, _, [], _, [], hW', trodAll_mk1 (shut_bool Tryz.underlying4 _), (trodAll_cons_mk (Below.trod laidOut (by kernel_rfl) (of_decide_eq_true (by kernel_rfl)) k0 bel lt0) (trodAll_cons_mk (shut_string Tryz.underlying9 w1) trodAll_mk0)), rfl, bel.frame _, fun h => by cases h⟩

theorem over : Rows.fnExactVersionsRow.holds Tryz.pinned (OpenSpec.ofChange Rows.fnExactVersionsSpec) :=
  OpenClaim.holds_of_wide 5 Tryz.f5 rfl rfl rfl rfl rfl rfl rfl ⟨rfl, rfl, rfl, rfl, rfl⟩ rfl rfl rfl rfl rfl (by kernel_rfl) Tryz.func5 (by kernel_rfl)
    (of_decide_eq_true (by kernel_rfl)) (by unfold Func.isWrapper; first | (rw [if_pos (by decide +kernel)]; kernel_rfl) | (rw [if_neg (by decide +kernel)]; exact ⟨rfl, rfl⟩))
    (fun os started H enc _ => lifted os started H enc)

end Go.Proofs.YtcfkhfbhmjfhdaaGreatDoor.fnExactVersions

namespace Go.Proofs.YtcfkhfbhmjfhdaaGreatDoor
theorem fnExactVersions_proved : Rows.FnExactVersionsCardSaid :=
  Claim7.holds_tied_plain_at .later [] [.data, .data, .data] true Rows.fnExactVersionsCard.stood.harness true
    fnExactVersions.over (fun _ h => by cases h) (by kernel_rfl) (fun _ h => by cases h) fnExactVersions_row_tie rfl ⟨rfl, rfl⟩ (by kernel_rfl) rfl
    (fun f fn hf hfn => by
      obtain rfl : f = 5 := Option.some.inj ((show Tryz.prog.funcNamed Rows.fnExactVersionsRow.func = some 5 by kernel_rfl).symm.trans hf) |>.symm
      obtain rfl : fn = Tryz.f5 := (Option.some.inj (Tryz.func5.symm.trans hfn)).symm
      exact ⟨by kernel_rfl, fun j t ht => by
        rw [Tryz.params5] at ht
        have h3 : t = 25 ∨ t = 9 := by
          rcases j with _ | _ | j
          · left; simpa using ht.symm
          · right; simpa using ht.symm
          · simp at ht
        rcases h3 with rfl | rfl
        · exact (show Tryz.prog.wantsStandIn 25 = false by kernel_rfl)
        · exact (show Tryz.prog.wantsStandIn 9 = false by kernel_rfl)⟩)
    (by kernel_rfl)
#print axioms fnExactVersions_proved
end Go.Proofs.YtcfkhfbhmjfhdaaGreatDoor
