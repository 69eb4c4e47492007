/-
  impl.readFrom with impl.above, impl.Exact.
-/
import Derived.Test.YtcfkhfbhmjfhdaaDoorAbv
import Derived.Test.YtcfkhfbhmjfhdaaDoorRdI
import Derived.Test.YtcfkhfbhmjfhdaaDoorExM
import Derived.Deep.RegionHeld3
namespace Go.Proofs.YtcfkhfbhmjfhdaaDoor
open Go.RowKit

theorem readV_any (l : List UInt8) (W : World) (hl : l.length ≤ 1048576) : Calls Tryd.prog 48 #[.string ⟨l.toArray⟩] W (ReadIs W l) := implReadVersion_any ⟨l.toArray⟩ W (by rw [size_of]; exact hl)
theorem frozen2 {V : World} {B : Nat} {T : TypeId} {v0 v1 : Value} (h : V.heap[B]? = some (.cells #[v0, v1] T)) (o : Nat) : V.frozen? ⟨B, o, none⟩ = false := by
  simp [World.frozen?, h]
theorem below_res2 {n R : Nat} {W V : World} (h : Below n W V) (hR : n ≤ R) (x0 x1 : Value) : Below n W ((V.setCell ⟨R, 0, none⟩ x0).setCell ⟨R, 1, none⟩ x1) := (h.setCell (p := ⟨R, 0, none⟩) hR _).setCell (p := ⟨R, 1, none⟩) hR _
theorem set2_heap {V : World} {B : Nat} {T : TypeId} {v0 v1 : Value} (h : V.heap[B]? = some (.cells #[v0, v1] T)) (x0 x1 : Value) : ((V.setCell ⟨B, 0, none⟩ x0).setCell ⟨B, 1, none⟩ x1).heap[B]? = some (.cells #[x0, x1] T) := by
  have h1 := Lib.heap_setCell_same (i := 0) h x0
  have h2 := Lib.heap_setCell_same (i := 1) h1 x1
  simpa using h2
theorem sm_readPP (l : List UInt8) : Sm (readP l) := by
  have h5 := readP_sm l
  refine ⟨by omega, fun x hx => ?_⟩
  unfold readP at hx
  split at hx
  · rename_i h
    have hv := read_ver h
    have : readP l = tailL l := by simp [readP, h]
    rw [← this] at hx
    have := verOk_len hv x hx
    omega
  · cases hx
theorem cell_far2 {V : World} {B q o : Nat} (h : B ≠ q) (x y : Value) : ((V.setCell ⟨q, 0, none⟩ x).setCell ⟨q, 1, none⟩ y).cell? ⟨B, o, none⟩ = V.cell? ⟨B, o, none⟩ := by
  have e1 := heap_setCell_other V ⟨q, 0, none⟩ B x h
  have e2 := heap_setCell_other (V.setCell ⟨q, 0, none⟩ x) ⟨q, 1, none⟩ B y h
  simp only [World.cell?, e2, e1]
theorem heap_far2 {V : World} {B q : Nat} (h : B ≠ q) (x y : Value) : ((V.setCell ⟨q, 0, none⟩ x).setCell ⟨q, 1, none⟩ y).heap[B]? = V.heap[B]? :=
  (heap_setCell_other (V.setCell ⟨q, 0, none⟩ x) ⟨q, 1, none⟩ B y h).trans (heap_setCell_other V ⟨q, 0, none⟩ B x h)
theorem abv_high {l : List UInt8} : abvL (readA l 0) (readA l 1) (readA l 2) (readP l) = exHigh l := rfl

set_option maxRecDepth 100000 in
set_option maxHeartbeats 4000000 in
theorem readFrom_no (l : List UInt8) (w : World) (hl : l.length ≤ 1048576) (hok : readOk l = false) :
    Calls Tryd.prog 22 #[.string ⟨l.toArray⟩, .func (.func 23) #[] #[]] w fun e w' => e = .returned (.tuple #[.agg #[.string ⟨#[]⟩, .string ⟨#[]⟩], .bool false]) ∧ Below w.heap.size w w' := by
  have HR := Lib.hid (fun W => readV_any l W hl)
  have B0 : Below w.heap.size w (w.alloc (.cells #[.string ⟨#[]⟩, .string ⟨#[]⟩] 45)) := (Below.refl _ _).alloc (Nat.le_refl _) _
  have r0 := heap_alloc_new w (.cells #[.string ⟨#[]⟩, .string ⟨#[]⟩] 45)
  go_enter Tryd.func22, Tryd.ntmps22
  go_wp2_with fail
  refine (HR.out _).mono ?_
  rintro e w2 ⟨u, rfl, hS, hb⟩
  rw [hok]
  obtain ⟨U, uc, rfl, _⟩ := RdS.of_strs hS
  have B1 := B0.trans (hb.mono (by simp))
  have r1 := keepB r0 hb
  clear hS hb B0 r0
  obtain ⟨c0, c1⟩ := two_cells r1
  have f0 := frozen2 r1 0
  have f1 := frozen2 r1 1
  have hs1 := lt_of_heap r1
  have B2 := (below_res2 B1 (Nat.le_refl _) (.string ⟨#[]⟩) (.string ⟨#[]⟩)).alloc (by simp; omega) (.cells #[.int .i64 (readA l 0), .int .i64 (readA l 1), .int .i64 (readA l 2), .slice U (readP l).length uc] 76)
  obtain ⟨y0, y1⟩ := two_cells (keepA (set2_heap r1 (.string ⟨#[]⟩) (.string ⟨#[]⟩)) (.cells #[.int .i64 (readA l 0), .int .i64 (readA l 1), .int .i64 (readA l 2), .slice U (readP l).length uc] 76))
  go_wp2_with fail
  refine bodyPost_ret (v := .tuple #[.agg #[.string ⟨#[]⟩, .string ⟨#[]⟩], .bool false]) ?_ rfl ⟨rfl, B2⟩
  simp [results, Tryd.results22, go_sem, y0, y1]

set_option maxRecDepth 100000 in
set_option maxHeartbeats 4000000 in
theorem readFrom_yes (l : List UInt8) (w : World) (hl : l.length ≤ 1048576) (hok : readOk l = true) (ht : Tab w) :
    Calls Tryd.prog 22 #[.string ⟨l.toArray⟩, .func (.func 23) #[] #[]] w fun e w' => e = .returned (.tuple #[.agg #[.string ⟨l.toArray⟩, .string ⟨(exHigh l).toArray⟩], .bool (!(exHigh l).isEmpty)]) ∧ Below w.heap.size w w' := by
  have HR := Lib.hid (fun W => readV_any l W hl)
  have B0 : Below w.heap.size w (w.alloc (.cells #[.string ⟨#[]⟩, .string ⟨#[]⟩] 45)) := (Below.refl _ _).alloc (Nat.le_refl _) _
  have r0 := heap_alloc_new w (.cells #[.string ⟨#[]⟩, .string ⟨#[]⟩] 45)
  obtain ⟨h, HH⟩ : ∃ h, Hid (exHigh l = h) := ⟨_, Lib.hid rfl⟩
  rw [HH.out]
  have HRV := Lib.hid (read_ver hok)
  have HRB := Lib.hid (read_back hok)
  have HSM := Lib.hid (sm_readPP l)
  go_enter Tryd.func22, Tryd.ntmps22
  go_wp2_with fail
  refine (HR.out _).mono ?_
  rintro e w2 ⟨u, rfl, hS, hb⟩
  rw [hok]
  have hrd := RdS.of_strs hS
  have B1 := B0.trans (hb.mono (by simp))
  have HV := Lib.hid (fun (W : World) (h : Below w2.heap.size w2 W) => implVersionText_any (readA l 0) (readA l 1) (readA l 2) _ u (readP l) W (hS.below h) HSM.out (tab_below (tab_below ht B1) h))
  have HA := Lib.hid (fun (W : World) (h : Below w2.heap.size w2 W) => above_any (readA l 0) (readA l 1) (readA l 2) u (readP l) W (hrd.below h) HRV.out (tab_below (tab_below ht B1) h))
  rw [abv_high, HH.out] at HA
  rw [HRB.out] at HV
  obtain ⟨U, uc, rfl, _⟩ := hrd
  have r1 := keepB r0 hb
  clear hS hb B0 r0 ht hok HRV HRB HSM
  have hs1 := lt_of_heap r1
  have BV : Below w2.heap.size w2 ((w2.alloc (.cells #[.int .i64 (readA l 0), .int .i64 (readA l 1), .int .i64 (readA l 2), .slice U (readP l).length uc] 76)).drew) := ((Below.refl _ _).alloc (Nat.le_refl _) _).trans (below_drewN _ _ 1)
  have r2 := keepA r1 (.cells #[.int .i64 (readA l 0), .int .i64 (readA l 1), .int .i64 (readA l 2), .slice U (readP l).length uc] 76)
  have v2 := heap_alloc_new w2 (.cells #[.int .i64 (readA l 0), .int .i64 (readA l 1), .int .i64 (readA l 2), .slice U (readP l).length uc] 76)
  obtain ⟨p0, p1, p2, p3⟩ := cells4 v2
  go_wp2_with fail
  have BW : Below w2.heap.size w2 (((w2.alloc (.cells #[.int .i64 (readA l 0), .int .i64 (readA l 1), .int .i64 (readA l 2), .slice U (readP l).length uc] 76)).alloc (.cells #[.string ⟨#[]⟩, .string ⟨#[]⟩] 45)).drew) := (((Below.refl _ _).alloc (Nat.le_refl _) _).alloc (by simp) _).trans (below_drewN _ _ 1)
  go_region_held3 (fun W => W.cell? ⟨w2.heap.size, 0, none⟩ = some (.int .i64 (readA l 0)) ∧ W.cell? ⟨w2.heap.size, 1, none⟩ = some (.int .i64 (readA l 1)) ∧ W.cell? ⟨w2.heap.size, 2, none⟩ = some (.int .i64 (readA l 2)) ∧ W.cell? ⟨w2.heap.size, 3, none⟩ = some (.slice U (readP l).length uc)) (first | exact ⟨p0, p1, p2, p3⟩ | exact ⟨(cell_far2 hq _ _).trans p0, (cell_far2 hq _ _).trans p1, (cell_far2 hq _ _).trans p2, (cell_far2 hq _ _).trans p3⟩ | go_keep) ((first
    | (go_at_call 49; (with_reducible refine (HV.out _ BV).mono ?_); rintro e w5 ⟨rfl, hb5⟩; have B5 := BV.trans (hb5.mono BV.size); have v5 := (keepB (W := (w2.alloc (.cells #[.int .i64 (readA l 0), .int .i64 (readA l 1), .int .i64 (readA l 2), .slice U (readP l).length uc] 76)).drew) v2 hb5); have r5 := (keepB (W := (w2.alloc (.cells #[.int .i64 (readA l 0), .int .i64 (readA l 1), .int .i64 (readA l 2), .slice U (readP l).length uc] 76)).drew) r2 hb5); obtain ⟨p0, p1, p2, p3⟩ := cells4 v5)
    | (go_at_call 23; (with_reducible refine (HA.out _ B5).mono ?_); rintro e w7 ⟨rfl, hb7⟩; have z7 := keepB z5 hb7; obtain ⟨z0, z1⟩ := two_cells z7; have g0 := frozen2 z7 0; have g1 := frozen2 z7 1; have hq : w2.heap.size ≠ w2.heap.size + 1 := Nat.ne_of_lt (Nat.lt_succ_self _); have B7 := B5.trans (hb7.mono B5.size); have v7 := keepB v5 hb7; have r7 := keepB r5 hb7; obtain ⟨p0, p1, p2, p3⟩ := cells4 v7)
    | (go_at_call 23; (with_reducible refine (HA.out _ B5).mono ?_); rintro e w7 ⟨rfl, hb7⟩; have B7 := B5.trans (hb7.mono B5.size); have v7 := keepB v5 hb7; have r7 := keepB r5 hb7; obtain ⟨p0, p1, p2, p3⟩ := cells4 v7)
    | (go_at_call 23; (with_reducible refine (HA.out _ (B5.alloc B5.size _)).mono ?_); rintro e w7 ⟨rfl, hb7⟩; have B7 := (B5.alloc B5.size (.cells #[.string ⟨#[]⟩, .string ⟨#[]⟩] 45)).trans (hb7.mono (B5.alloc B5.size (.cells #[.string ⟨#[]⟩, .string ⟨#[]⟩] 45)).size); have v5 := keepA v5 (.cells #[.string ⟨#[]⟩, .string ⟨#[]⟩] 45); have r5 := keepA r5 (.cells #[.string ⟨#[]⟩, .string ⟨#[]⟩] 45); have z7 := keepB (heap_alloc_new w5 _) hb7; obtain ⟨z0, z1⟩ := two_cells z7; have g0 := frozen2 z7 0; have g1 := frozen2 z7 1; have hq : w2.heap.size ≠ w5.heap.size := Nat.ne_of_lt (lt_of_heap (keepB (W := (w2.alloc (.cells #[.int .i64 (readA l 0), .int .i64 (readA l 1), .int .i64 (readA l 2), .slice U (readP l).length uc] 76)).drew) v2 hb5)); have v7 := keepB v5 hb7; have r7 := keepB r5 hb7; obtain ⟨p0, p1, p2, p3⟩ := cells4 v7)
    | (go_at_call 49; (with_reducible refine (HV.out _ BW).mono ?_); rintro e w5 ⟨rfl, hb5⟩; have B5 := BW.trans (hb5.mono BW.size); have v5 := (keepB (W := ((w2.alloc (.cells #[.int .i64 (readA l 0), .int .i64 (readA l 1), .int .i64 (readA l 2), .slice U (readP l).length uc] 76)).alloc (.cells #[.string ⟨#[]⟩, .string ⟨#[]⟩] 45)).drew) (keepA v2 (.cells #[.string ⟨#[]⟩, .string ⟨#[]⟩] 45)) hb5); have r5 := (keepB (W := ((w2.alloc (.cells #[.int .i64 (readA l 0), .int .i64 (readA l 1), .int .i64 (readA l 2), .slice U (readP l).length uc] 76)).alloc (.cells #[.string ⟨#[]⟩, .string ⟨#[]⟩] 45)).drew) (keepA r2 (.cells #[.string ⟨#[]⟩, .string ⟨#[]⟩] 45)) hb5); have z5 : w5.heap[w2.heap.size + 1]? = some (.cells #[.string ⟨#[]⟩, .string ⟨#[]⟩] 45) := keepB (W := ((w2.alloc (.cells #[.int .i64 (readA l 0), .int .i64 (readA l 1), .int .i64 (readA l 2), .slice U (readP l).length uc] 76)).alloc (.cells #[.string ⟨#[]⟩, .string ⟨#[]⟩] 45)).drew) (heap_new (W := (w2.alloc (.cells #[.int .i64 (readA l 0), .int .i64 (readA l 1), .int .i64 (readA l 2), .slice U (readP l).length uc] 76))) (by simp) _) hb5; obtain ⟨p0, p1, p2, p3⟩ := cells4 v5)))
  · have zz := heap_alloc_new w7 (.cells #[.string ⟨l.toArray⟩, .string ⟨h.toArray⟩] 45)
    have rr := keepA r7 (.cells #[.string ⟨l.toArray⟩, .string ⟨h.toArray⟩] 45)
    have hQR : w7.heap.size ≠ w.heap.size := by have := lt_of_heap r7; omega
    have BB : Below w.heap.size w (w7.alloc (.cells #[.string ⟨l.toArray⟩, .string ⟨h.toArray⟩] 45)) := (B1.trans (B7.mono B1.size)).alloc (by have := lt_of_heap r7; omega) _
    generalize w7.alloc (.cells #[.string ⟨l.toArray⟩, .string ⟨h.toArray⟩] 45) = W8 at zz rr BB ⊢
    generalize w7.heap.size = Q at zz hQR ⊢
    clear p0 p1 p2 p3 v7 r7 B7 hb7 v5 r5 B5 hb5 HV HA BV BW v2 r2
    by_cases hh : h = []
    · subst hh
      obtain ⟨z0, z1⟩ := two_cells zz
      obtain ⟨y0, y1⟩ := two_cells rr
      have f0 := frozen2 rr 0
      have f1 := frozen2 rr 1
      go_wp2_with fail
      go_region
      all_goals go_wp2_with fail
      all_goals
        obtain ⟨x0, x1⟩ := two_cells (V := ((W8.setCell ⟨w.heap.size, 0, none⟩ (.string ⟨l.toArray⟩)).setCell ⟨w.heap.size, 1, none⟩ (.string ⟨#[]⟩)).drew) (set2_heap rr (.string ⟨l.toArray⟩) (.string ⟨#[]⟩))
        refine bodyPost_ret (v := .tuple #[.agg #[.string ⟨l.toArray⟩, .string ⟨#[]⟩], .bool false]) ?_ rfl ⟨rfl, (below_res2 BB (Nat.le_refl _) (.string ⟨l.toArray⟩) (.string ⟨#[]⟩)).trans (below_drewN _ _ 1)⟩
        simp [results, Tryd.results22, go_sem, x0, x1]
    · have n1 : (h == []) = false := by simpa using hh
      have n2 : (h != []) = true := by simpa using hh
      have HE : Hid (Ending.returned (.tuple #[.agg #[.string ⟨l.toArray⟩, .string ⟨h.toArray⟩], .bool true]) = Ending.returned (.tuple #[.agg #[.string ⟨l.toArray⟩, .string ⟨h.toArray⟩], .bool (!h.isEmpty)])) := Lib.hid (by cases h with | nil => exact absurd rfl hh | cons x y => rfl)
      clear hh
      obtain ⟨z0, z1⟩ := two_cells zz
      obtain ⟨y0, y1⟩ := two_cells rr
      have f0 := frozen2 rr 0
      have f1 := frozen2 rr 1
      go_wp2_with fail
      go_region
      all_goals go_wp2_with fail
      all_goals
        obtain ⟨x0, x1⟩ := two_cells (V := ((W8.setCell ⟨w.heap.size, 0, none⟩ (.string ⟨l.toArray⟩)).setCell ⟨w.heap.size, 1, none⟩ (.string ⟨h.toArray⟩)).drew) (set2_heap rr (.string ⟨l.toArray⟩) (.string ⟨h.toArray⟩))
        refine bodyPost_ret (v := .tuple #[.agg #[.string ⟨l.toArray⟩, .string ⟨h.toArray⟩], .bool true]) ?_ rfl ⟨HE.out, (below_res2 BB (Nat.le_refl _) (.string ⟨l.toArray⟩) (.string ⟨h.toArray⟩)).trans (below_drewN _ _ 1)⟩
        simp [results, Tryd.results22, go_sem, x0, x1]
  · have zz := set2_heap z7 (.string ⟨l.toArray⟩) (.string ⟨h.toArray⟩)
    have hQR : w5.heap.size ≠ w.heap.size := by have := lt_of_heap (keepB (W := (w2.alloc (.cells #[.int .i64 (readA l 0), .int .i64 (readA l 1), .int .i64 (readA l 2), .slice U (readP l).length uc] 76)).drew) r2 hb5); omega
    have rr := (heap_far2 hQR.symm (.string ⟨l.toArray⟩) (.string ⟨h.toArray⟩)).trans r7
    have BB : Below w.heap.size w ((w7.setCell ⟨w5.heap.size, 0, none⟩ (.string ⟨l.toArray⟩)).setCell ⟨w5.heap.size, 1, none⟩ (.string ⟨h.toArray⟩)) := below_res2 (B1.trans (B7.mono B1.size)) (by have := lt_of_heap (keepB (W := (w2.alloc (.cells #[.int .i64 (readA l 0), .int .i64 (readA l 1), .int .i64 (readA l 2), .slice U (readP l).length uc] 76)).drew) r2 hb5); omega) _ _
    generalize (w7.setCell ⟨w5.heap.size, 0, none⟩ (.string ⟨l.toArray⟩)).setCell ⟨w5.heap.size, 1, none⟩ (.string ⟨h.toArray⟩) = W8 at zz rr BB ⊢
    generalize w5.heap.size = Q at zz hQR ⊢
    clear p0 p1 p2 p3 v7 r7 B7 hb7 v5 r5 B5 hb5 HV HA BV BW v2 r2
    by_cases hh : h = []
    · subst hh
      obtain ⟨z0, z1⟩ := two_cells zz
      obtain ⟨y0, y1⟩ := two_cells rr
      have f0 := frozen2 rr 0
      have f1 := frozen2 rr 1
      go_wp2_with fail
      go_region
      all_goals go_wp2_with fail
      all_goals
        obtain ⟨x0, x1⟩ := two_cells (V := ((W8.setCell ⟨w.heap.size, 0, none⟩ (.string ⟨l.toArray⟩)).setCell ⟨w.heap.size, 1, none⟩ (.string ⟨#[]⟩)).drew) (set2_heap rr (.string ⟨l.toArray⟩) (.string ⟨#[]⟩))
        refine bodyPost_ret (v := .tuple #[.agg #[.string ⟨l.toArray⟩, .string ⟨#[]⟩], .bool false]) ?_ rfl ⟨rfl, (below_res2 BB (Nat.le_refl _) (.string ⟨l.toArray⟩) (.string ⟨#[]⟩)).trans (below_drewN _ _ 1)⟩
        simp [results, Tryd.results22, go_sem, x0, x1]
    · have n1 : (h == []) = false := by simpa using hh
      have n2 : (h != []) = true := by simpa using hh
      have HE : Hid (Ending.returned (.tuple #[.agg #[.string ⟨l.toArray⟩, .string ⟨h.toArray⟩], .bool true]) = Ending.returned (.tuple #[.agg #[.string ⟨l.toArray⟩, .string ⟨h.toArray⟩], .bool (!h.isEmpty)])) := Lib.hid (by cases h with | nil => exact absurd rfl hh | cons x y => rfl)
      clear hh
      obtain ⟨z0, z1⟩ := two_cells zz
      obtain ⟨y0, y1⟩ := two_cells rr
      have f0 := frozen2 rr 0
      have f1 := frozen2 rr 1
      go_wp2_with fail
      go_region
      all_goals go_wp2_with fail
      all_goals
        obtain ⟨x0, x1⟩ := two_cells (V := ((W8.setCell ⟨w.heap.size, 0, none⟩ (.string ⟨l.toArray⟩)).setCell ⟨w.heap.size, 1, none⟩ (.string ⟨h.toArray⟩)).drew) (set2_heap rr (.string ⟨l.toArray⟩) (.string ⟨h.toArray⟩))
        refine bodyPost_ret (v := .tuple #[.agg #[.string ⟨l.toArray⟩, .string ⟨h.toArray⟩], .bool true]) ?_ rfl ⟨HE.out, (below_res2 BB (Nat.le_refl _) (.string ⟨l.toArray⟩) (.string ⟨h.toArray⟩)).trans (below_drewN _ _ 1)⟩
        simp [results, Tryd.results22, go_sem, x0, x1]
  · have zz := set2_heap z7 (.string ⟨l.toArray⟩) (.string ⟨h.toArray⟩)
    have hQR : (w2.heap.size + 1) ≠ w.heap.size := by omega
    have rr := (heap_far2 hQR.symm (.string ⟨l.toArray⟩) (.string ⟨h.toArray⟩)).trans r7
    have BB : Below w.heap.size w ((w7.setCell ⟨(w2.heap.size + 1), 0, none⟩ (.string ⟨l.toArray⟩)).setCell ⟨(w2.heap.size + 1), 1, none⟩ (.string ⟨h.toArray⟩)) := below_res2 (B1.trans (B7.mono B1.size)) (by omega) _ _
    generalize (w7.setCell ⟨(w2.heap.size + 1), 0, none⟩ (.string ⟨l.toArray⟩)).setCell ⟨(w2.heap.size + 1), 1, none⟩ (.string ⟨h.toArray⟩) = W8 at zz rr BB ⊢
    generalize w2.heap.size + 1 = Q at zz hQR ⊢
    clear p0 p1 p2 p3 v7 r7 B7 hb7 v5 r5 B5 hb5 HV HA BV BW v2 r2
    by_cases hh : h = []
    · subst hh
      obtain ⟨z0, z1⟩ := two_cells zz
      obtain ⟨y0, y1⟩ := two_cells rr
      have f0 := frozen2 rr 0
      have f1 := frozen2 rr 1
      go_wp2_with fail
      go_region
      all_goals go_wp2_with fail
      all_goals
        obtain ⟨x0, x1⟩ := two_cells (V := ((W8.setCell ⟨w.heap.size, 0, none⟩ (.string ⟨l.toArray⟩)).setCell ⟨w.heap.size, 1, none⟩ (.string ⟨#[]⟩)).drew) (set2_heap rr (.string ⟨l.toArray⟩) (.string ⟨#[]⟩))
        refine bodyPost_ret (v := .tuple #[.agg #[.string ⟨l.toArray⟩, .string ⟨#[]⟩], .bool false]) ?_ rfl ⟨rfl, (below_res2 BB (Nat.le_refl _) (.string ⟨l.toArray⟩) (.string ⟨#[]⟩)).trans (below_drewN _ _ 1)⟩
        simp [results, Tryd.results22, go_sem, x0, x1]
    · have n1 : (h == []) = false := by simpa using hh
      have n2 : (h != []) = true := by simpa using hh
      have HE : Hid (Ending.returned (.tuple #[.agg #[.string ⟨l.toArray⟩, .string ⟨h.toArray⟩], .bool true]) = Ending.returned (.tuple #[.agg #[.string ⟨l.toArray⟩, .string ⟨h.toArray⟩], .bool (!h.isEmpty)])) := Lib.hid (by cases h with | nil => exact absurd rfl hh | cons x y => rfl)
      clear hh
      obtain ⟨z0, z1⟩ := two_cells zz
      obtain ⟨y0, y1⟩ := two_cells rr
      have f0 := frozen2 rr 0
      have f1 := frozen2 rr 1
      go_wp2_with fail
      go_region
      all_goals go_wp2_with fail
      all_goals
        obtain ⟨x0, x1⟩ := two_cells (V := ((W8.setCell ⟨w.heap.size, 0, none⟩ (.string ⟨l.toArray⟩)).setCell ⟨w.heap.size, 1, none⟩ (.string ⟨h.toArray⟩)).drew) (set2_heap rr (.string ⟨l.toArray⟩) (.string ⟨h.toArray⟩))
        refine bodyPost_ret (v := .tuple #[.agg #[.string ⟨l.toArray⟩, .string ⟨h.toArray⟩], .bool true]) ?_ rfl ⟨HE.out, (below_res2 BB (Nat.le_refl _) (.string ⟨l.toArray⟩) (.string ⟨h.toArray⟩)).trans (below_drewN _ _ 1)⟩
        simp [results, Tryd.results22, go_sem, x0, x1]
end Go.Proofs.YtcfkhfbhmjfhdaaDoor
