/-
  spec.l07Copy, spec.FieldOf.
-/
import Derived.Test.YthlbpklllphhcaaFdCI
import Derived.Test.YthlbpklllphhcaaApp
namespace Go.Proofs.Ythlbpklllphhcaa
open Go.RowKit

set_option maxRecDepth 100000 in
set_option maxHeartbeats 4000000 in
theorem l07Copy_any (f : Fd) (a : Value) (w : World) (ha : RdS w a f.list) (hs : SmFd f) :
    Calls Try.prog 76 #[fdV f a] w fun e w' => ∃ u, e = .returned (fdV f u) ∧ Strs w' w.heap.size u f.list ∧ Below w.heap.size w w' := by
  have hl : f.list.length ≤ 1048576 := by have := hs.list; omega
  have HR0 := Lib.hid (fun (W : World) (h : Below w.heap.size w W) => ha.below h)
  obtain ⟨A, ca, rfl⟩ := ha.slice
  obtain ⟨ky, tx, ls, il⟩ := f
  unfold fdV
  simp only at HR0 hl ⊢
  clear ha hs
  have B0 : Below w.heap.size w ((w.alloc (.cells #[.string ⟨ky.toArray⟩, .string ⟨tx.toArray⟩, .slice A ls.length ca, .bool il] 47)).alloc (.cells #[.string ⟨#[]⟩, .string ⟨#[]⟩, .slice none 0 0, .bool false] 47)) := ((Below.refl _ _).alloc (Nat.le_refl _) _).alloc (by simp) _
  have b0 := keepA (heap_alloc_new w (.cells #[.string ⟨ky.toArray⟩, .string ⟨tx.toArray⟩, .slice A ls.length ca, .bool il] 47)) (.cells #[.string ⟨#[]⟩, .string ⟨#[]⟩, .slice none 0 0, .bool false] 47)
  have b1 := heap_new (W := w.alloc (.cells #[.string ⟨ky.toArray⟩, .string ⟨tx.toArray⟩, .slice A ls.length ca, .bool il] 47)) (n := w.heap.size + 1) (by simp) (.cells #[.string ⟨#[]⟩, .string ⟨#[]⟩, .slice none 0 0, .bool false] 47)
  have HZ0 : Hid (((w.alloc (.cells #[.string ⟨ky.toArray⟩, .string ⟨tx.toArray⟩, .slice A ls.length ca, .bool il] 47)).alloc (.cells #[.string ⟨#[]⟩, .string ⟨#[]⟩, .slice none 0 0, .bool false] 47)).heap.size = w.heap.size + 1 + 1) := Lib.hid (by simp)
  obtain ⟨W0, hW0⟩ : ∃ W0, W0 = (w.alloc (.cells #[.string ⟨ky.toArray⟩, .string ⟨tx.toArray⟩, .slice A ls.length ca, .bool il] 47)).alloc (.cells #[.string ⟨#[]⟩, .string ⟨#[]⟩, .slice none 0 0, .bool false] 47) := ⟨_, rfl⟩
  rw [← hW0] at B0 b0 b1 HZ0
  have BA : Below w.heap.size w (W0.alloc (.cells #[] 9)) := B0.alloc B0.size _
  have HRA := Lib.hid (HR0.out _ BA)
  have HSA : Hid (Strs (W0.alloc (.cells #[] 9)) (w.heap.size + 1 + 1) (.slice (some ⟨w.heap.size + 1 + 1, 0, none⟩) 0 0) []) := Lib.hid (Strs.emptyAt W0 (w.heap.size + 1 + 1) (w.heap.size + 1 + 1) HZ0.out (Nat.le_refl _))
  have HZ1 : Hid ((W0.alloc (.cells #[] 9)).heap.size = w.heap.size + 1 + 1 + 1) := Lib.hid (by simp [HZ0.out])
  have a0 := keepA b0 (.cells #[] 9)
  have a1 := keepA b1 (.cells #[] 9)
  rw [hW0] at BA HRA HSA HZ1 a0 a1
  clear hW0 B0 b0 b1 HZ0
  go_enter Try.func76, Try.ntmps76
  go_wp2_with (at_builtin; refine wpList_append_texts rfl _ _ rfl (w.heap.size + 1 + 1) _ [] rfl HSA.out _ ls rfl HRA.out (by simp; omega) (by rw [HZ1.out]; omega) ?_; intro u w1 hS hg; obtain ⟨U, uc, rfl⟩ := hS.slice; simp only [List.nil_append] at hS; have a5 := grown_heap (row := w.heap.size + 1 + 1) hg a0 (by omega); have r5 := grown_heap (row := w.heap.size + 1 + 1) hg a1 (by omega); have l5 := lt_of_heap a5; have l6 := lt_of_heap r5; obtain ⟨p0, p1, p2, p3⟩ := cells4 a5; obtain ⟨q0, q1, q2, q3⟩ := cells4 r5; have pf := frozen4 a5; have qf := frozen4 r5)
  have B5 := BA.grown hg (by rw [HZ1.out]; omega) (fun g h => by cases h; show _ ≤ w.heap.size + 1 + 1; omega)
  have hS6 := (hS.otherV w.heap.size 2 (.slice U ls.length uc) (by omega))
  refine bodyPost_ret (v := .agg #[.string ⟨ky.toArray⟩, .string ⟨tx.toArray⟩, .slice U ls.length uc, .bool il]) ?_ rfl ⟨_, rfl, ?_, ?_⟩
  · simp [results, Try.results76, go_sem, q0, q1, q2, q3]
  · exact ((((hS6.otherV _ _ _ (by omega)).otherV _ _ _ (by omega)).otherV _ _ _ (by omega)).otherV _ _ _ (by omega)).weaken (by omega)
  · exact ((((B5.setCell (Nat.le_refl _) _).setCell (Nat.le_succ _) _).setCell (Nat.le_succ _) _).setCell (Nat.le_succ _) _).setCell (Nat.le_succ _) _

set_option maxRecDepth 100000 in
set_option maxHeartbeats 4000000 in
theorem specFieldOf_any (t : Tb) (v : Value) (key : List UInt8) (w : World) (hp : RdFs w v t.fields) (hs : SmTb t) :
    Calls Try.prog 29 #[tbV t v, .string ⟨key.toArray⟩] w (FoIs (fieldOf t.fields key).1 (fieldOf t.fields key).2 w) := by
  have HR := Lib.hid hp
  have HS := Lib.hid hs.fields
  have hl : t.fields.length ≤ 1048576 := by have := hs.fields; unfold SmFs at this; omega
  obtain ⟨A, ca, rfl⟩ := hp.slice
  obtain ⟨tn, fs⟩ := t
  unfold tbV at *
  simp only at HR HS hl ⊢
  clear hp hs
  have B0 : Below w.heap.size w ((w.alloc (.cells #[.string ⟨tn.toArray⟩, .slice A fs.length ca] 52)).alloc (.cells #[.string ⟨#[]⟩, .string ⟨#[]⟩, .slice none 0 0, .bool false] 47)) := ((Below.refl _ _).alloc (Nat.le_refl _) _).alloc (by simp) _
  have b0 := keepA (heap_alloc_new w (.cells #[.string ⟨tn.toArray⟩, .slice A fs.length ca] 52)) (.cells #[.string ⟨#[]⟩, .string ⟨#[]⟩, .slice none 0 0, .bool false] 47)
  have b1 := heap_new (W := w.alloc (.cells #[.string ⟨tn.toArray⟩, .slice A fs.length ca] 52)) (n := w.heap.size + 1) (by simp) (.cells #[.string ⟨#[]⟩, .string ⟨#[]⟩, .slice none 0 0, .bool false] 47)
  obtain ⟨rr, HRR⟩ : ∃ rr, Hid (fieldOf fs key = rr) := ⟨_, Lib.hid rfl⟩
  simp only [HRR.out]
  go_enter Try.func29, Try.ntmps29
  go_wp2_with fail
  generalize (w.alloc (.cells #[.string ⟨tn.toArray⟩, .slice A fs.length ca] 52)).alloc (.cells #[.string ⟨#[]⟩, .string ⟨#[]⟩, .slice none 0 0, .bool false] 47) = V at B0 b0 b1 ⊢
  obtain ⟨x0, x1⟩ := cellsG b0
  have hB1 := Lib.hid b1
  have l1 : w.heap.size + 1 < V.heap.size := lt_of_heap b1
  clear b1
  go_loopw [6] (fun i wr => ∃ k : Nat, k ≤ fs.length ∧ i = .int .i64 k ∧ Hid (noneFd fs key k) ∧ wr = V) (fun i _ => fs.length - (intOf i).toNat)
  case atStart => exact ⟨0, Nat.zero_le _, rfl, Lib.hid (noneFd_zero _ _), rfl⟩
  case round =>
    obtain ⟨k, hk, rfl, HN, rfl⟩ := hrel
    by_cases hlt : k < fs.length
    · obtain ⟨g, off, rfl, hg, a, d0, d1, d2, d3, ra⟩ := (HR.out.below B0).at k hlt
      have HCP := Lib.hid (l07Copy_any fs[k] a wr ra (HS.out.get k hlt))
      obtain ⟨A1, c1, rfl⟩ := ra.slice
      have k0 : (0 : Int) ≤ (k : Int) := by omega
      have k1 : (k : Int) < (fs.length : Int) := by omega
      clear ra
      by_cases he : fs[k].key = key
      · have HX := Lib.hid (fieldOf_hit HN.out hlt he)
        obtain rfl : rr = (fs[k], true) := HRR.out.symm.trans HX.out
        have q1 : (fs[k].key == key) = true := by rw [he]; simp
        clear he
        go_wp2_with fail
        refine HCP.out.mono ?_
        rintro e w2 ⟨u, rfl, hS, hb2⟩
        have z1 := keepB hB1.out hb2
        have B2 := B0.trans (hb2.mono B0.size)
        have hO : ∀ g, u.ownBlock = some g → g ≠ w.heap.size + 1 := fun g hg => by have := hS.owned g hg; omega
        have hSB := hS.weaken (base' := w.heap.size) B0.size
        obtain ⟨U, uc, rfl⟩ := hS.slice
        obtain ⟨y0, y1, y2, y3⟩ := cells4 z1
        have fz := frozen4 z1
        clear hS hb2 d0 d1 d2 d3 x0 x1
        go_wp2_with fail
        refine bodyPost_ret (v := .tuple #[.agg #[.string ⟨fs[k].key.toArray⟩, .string ⟨fs[k].text.toArray⟩, .slice U fs[k].list.length uc, .bool fs[k].isl], .bool true]) ?_ rfl ⟨_, rfl, ?_, ?_⟩
        · simp [results, Try.results29, go_sem, y0, y1, y2, y3]
        · exact (((hSB.setFar _ _ _ hO).setFar _ _ _ hO).setFar _ _ _ hO).setFar _ _ _ hO
        · exact (((B2.setCell (Nat.le_succ _) _).setCell (Nat.le_succ _) _).setCell (Nat.le_succ _) _).setCell (Nat.le_succ _) _
      · have HN2 := Lib.hid (noneFd_succ HN.out hlt he)
        have q1 : (fs[k].key == key) = false := by simpa using he
        clear he
        go_wp2_with fail
        go_roundw
        case rel => exact ⟨k + 1, by omega, by go_num, HN2, trivial⟩
        case measure => simp [intOf]; omega
    · have HX := Lib.hid (fieldOf_miss HN.out (by omega))
      obtain rfl : rr = (⟨[], [], [], false⟩, false) := HRR.out.symm.trans HX.out
      obtain ⟨y0, y1, y2, y3⟩ := cells4 hB1.out
      have fz := frozen4 hB1.out
      go_wp2_with fail
      refine bodyPost_ret (v := .tuple #[.agg #[.string ⟨#[]⟩, .string ⟨#[]⟩, .slice none 0 0, .bool false], .bool false]) ?_ rfl ⟨_, rfl, Strs.nil _ _, ?_⟩
      · simp [results, Try.results29, go_sem, y0, y1, y2, y3]
      · exact (((B0.setCell (Nat.le_succ _) _).setCell (Nat.le_succ _) _).setCell (Nat.le_succ _) _).setCell (Nat.le_succ _) _
end Go.Proofs.Ythlbpklllphhcaa
