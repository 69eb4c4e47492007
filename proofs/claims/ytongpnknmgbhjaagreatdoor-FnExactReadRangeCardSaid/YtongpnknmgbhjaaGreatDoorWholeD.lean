/-
  The walk of the law FnExactReadRange.
-/
import Derived.Test.YtongpnknmgbhjaaGreatDoorWholeC
import Derived.Deep.RegionHeld3
import Derived.Test.YtongpnknmgbhjaaGreatDoorWholeB
import Derived.Deep.AppendLies
import Derived.Test.YtongpnknmgbhjaaGreatDoorRdL
import Derived.Test.YtongpnknmgbhjaaGreatDoorDecM
import Derived.Deep.QuietTactic
import Derived.BigQuiet
import Derived.Test.YtongpnknmgbhjaaGreatDoorRdB
import Derived.LoopN
import Derived.Deep.RegionWith
/-
  spec.l03Part: one alternative of a range.
-/
namespace Go.Proofs.YtongpnknmgbhjaaGreatDoor
open Go.RowKit

theorem AltIs.no {w w' : World} {b b' : Bd} {e : Ending} (h : AltIs w false b e w') : AltIs w false b' e w' := by
  obtain ⟨x, y, he, _, hb⟩ := h
  exact ⟨x, y, he, fun h => (by cases h), hb⟩
def shOk (l : List UInt8) : Bool := decide (l.count 46 < 2) && fromOk (l ++ zrs (l.count 46)) (l.count 46)
def shB (l : List UInt8) : Bd := fromB (l ++ zrs (l.count 46)) (l.count 46)
theorem l03Short_any (l : List UInt8) (w : World) (hl : l.length ≤ 1048000) : Calls Tryz.prog 102 #[.string ⟨l.toArray⟩] w (AltIs w (shOk l) (shB l)) := by
  rcases Nat.lt_or_ge (l.count 46) 2 with h | h
  · have hc : l.count 46 = 0 ∨ l.count 46 = 1 := by omega
    unfold shOk shB
    rcases hc with hc | hc
    · rw [hc]; exact l03Short_0 l w hl hc
    · rw [hc]; exact l03Short_1 l w hl hc
  · have : shOk l = false := by unfold shOk; rw [decide_eq_false (by omega)]; rfl
    rw [this]
    exact (l03Short_many l w hl h).mono fun e w' h => h.no
def tlOk (l : List UInt8) : Bool := exOk l || shOk l
def tlB (l : List UInt8) : Bd := if exOk l = true then (l, exHigh l) else shB l
theorem tl_eq (l : List UInt8) : tlOk l = (if l.count 46 < 2 then fromOk (l ++ zrs (l.count 46)) (l.count 46) else exOk l) ∧ (tlOk l = true → tlB l = if l.count 46 < 2 then fromB (l ++ zrs (l.count 46)) (l.count 46) else (l, exHigh l)) := by
  unfold tlOk tlB shOk shB
  by_cases h : l.count 46 < 2
  · rw [few_noEx h, if_pos h, if_pos h, decide_eq_true h]; simp
  · rw [if_neg h, if_neg h, decide_eq_false h]
    cases exOk l <;> simp
/-- A text that has none of the signs ahead. -/
def plainA (l : List UInt8) : Prop := l ≠ [42] ∧ l.head? ≠ some 94 ∧ l.head? ≠ some 126 ∧ l.head? ≠ some 62 ∧ l.head? ≠ some 60
theorem alt_plain {l : List UInt8} (h : plainA l) : altOk l = tlOk l ∧ (altOk l = true → altB l = tlB l) := by
  obtain ⟨h1, h2, h3, h4, h5⟩ := h
  obtain ⟨e1, e2⟩ := tl_eq l
  have ha : altOk l = tlOk l := by unfold altOk; rw [if_neg h1, if_neg h2, if_neg h3, if_neg (by simp [h4, h5]), e1]
  refine ⟨ha, fun hh => ?_⟩
  rw [ha] at hh
  unfold altB; rw [if_neg h1, if_neg h2, if_neg h3, if_neg (by simp [h4, h5]), e2 hh]
theorem alt_caret (r : List UInt8) : altOk (94 :: r) = fromOk r (crt r) ∧ altB (94 :: r) = fromB r (crt r) := by
  unfold altOk altB; simp
theorem alt_tilde (r : List UInt8) : altOk (126 :: r) = fromOk r 1 ∧ altB (126 :: r) = fromB r 1 := by
  unfold altOk altB; simp
theorem alt_signs {l : List UInt8} (h : l.head? = some 62 ∨ l.head? = some 60) : altOk l = lmOk l ∧ altB l = lmB l := by
  have h1 : l ≠ [42] := fun e => by subst e; simp at h
  have h2 : l.head? ≠ some 94 := fun e => by rw [e] at h; simp at h
  have h3 : l.head? ≠ some 126 := fun e => by rw [e] at h; simp at h
  unfold altOk altB; rw [if_neg h1, if_neg h2, if_neg h3, if_pos h, if_neg h1, if_neg h2, if_neg h3, if_pos h]; exact ⟨rfl, rfl⟩
theorem crt_in (l : List UInt8) : inI (crt l) 0 2 = true := by unfold crt inI; split <;> (try split) <;> decide
theorem byte_no {c d : UInt8} (h : c ≠ d) : (((c.toNat : Int)) == (d.toNat : Int)) = false := int_beq_false (fun e => h (UInt8.toNat_inj.1 (by omega)))
theorem one42 {s : ByteArray} {l : List UInt8} (hs : s = ⟨l.toArray⟩) (h : l ≠ [42]) : (s.toList == [42]) = false := by
  subst hs
  rw [ByteArray.toList_eq]
  simpa using h

set_option maxRecDepth 100000 in
set_option maxHeartbeats 4000000 in
theorem part_star (s : ByteArray) (w : World) (hs : (s.toList == [42]) = true) :
    Calls Tryz.prog 51 #[.string s] w (AltIs w true ([], [])) := by
  have B0 : Below w.heap.size w (w.alloc (.cells #[.string ⟨#[]⟩, .string ⟨#[]⟩] 73)) := (Below.refl _ _).alloc (Nat.le_refl _) _
  go_enter Tryz.func51, Tryz.ntmps51
  go_wp2_with fail
  refine bodyPost_ret (v := .tuple #[.agg #[.string ⟨#[]⟩, .string ⟨#[]⟩], .bool true]) ?_ rfl ⟨_, _, rfl, fun _ => ⟨rfl, rfl⟩, B0⟩
  simp [results, Tryz.results51, go_sem]

set_option maxRecDepth 100000 in
set_option maxHeartbeats 4000000 in
theorem part_caret_no (s : ByteArray) (r : List UInt8) (w : World) (hl : r.length ≤ 1048000) (h42 : (s.toList == [42]) = false) (h1 : 1 < s.size) (b94 : (((s[0]'(by omega)).toNat : Int) == 94) = true) (sl : ∀ w, (Instr.slice 9 (.string s) (some (.int .i64 1)) none none).run Tryz.prog w = .ok (.string ⟨r.toArray⟩) w) (hok : readOk r = false) :
    Calls Tryz.prog 51 #[.string s] w (AltIs w false ([], [])) := by
  have B0 : Below w.heap.size w (w.alloc (.cells #[.string ⟨#[]⟩, .string ⟨#[]⟩] 73)) := (Below.refl _ _).alloc (Nat.le_refl _) _
  have r0 := heap_alloc_new w (.cells #[.string ⟨#[]⟩, .string ⟨#[]⟩] 73)
  have HV : Hid (∀ W, Calls Tryz.prog 97 #[.string ⟨r.toArray⟩] W (ReadIs W r)) := Lib.hid (fun W => specReadVersion_any ⟨r.toArray⟩ W (by rw [size_of]; omega))
  have HO := Lib.hid hok
  clear hok
  go_enter Tryz.func51, Tryz.ntmps51
  go_wp2_with fail
  refine (HV.out _).mono ?_
  rintro e w2 ⟨u, rfl, hu, hb2⟩
  obtain ⟨U, uc, rfl⟩ := hu.slice
  rw [HO.out]
  have B2 := B0.trans (hb2.mono B0.size)
  have r2 := keepB r0 hb2
  have hlt := lt_of_heap r2
  obtain ⟨c0, c1, f1⟩ := cellsD r2
  have B3 := (below_res2 B2 (Nat.le_refl _) (.string ⟨#[]⟩) (.string ⟨#[]⟩)).alloc (by simpa using B2.size) (.cells #[.int .i64 (readA r 0), .int .i64 (readA r 1), .int .i64 (readA r 2), .slice U (readP r).length uc] 127)
  obtain ⟨y0, y1⟩ := two_cells (keepA (set2_heap r2 (.string ⟨#[]⟩) (.string ⟨#[]⟩)) (.cells #[.int .i64 (readA r 0), .int .i64 (readA r 1), .int .i64 (readA r 2), .slice U (readP r).length uc] 127))
  go_wp2_with fail
  refine bodyPost_ret (v := .tuple #[.agg #[.string ⟨#[]⟩, .string ⟨#[]⟩], .bool false]) ?_ rfl ⟨_, _, rfl, fun h => (by cases h), ?_⟩
  · simp [results, Tryz.results51, go_sem, y0, y1]
  · exact B3

set_option maxRecDepth 100000 in
set_option maxHeartbeats 4000000 in
theorem part_caret_yes (s : ByteArray) (r : List UInt8) (w : World) (hl : r.length ≤ 1048000) (h42 : (s.toList == [42]) = false) (h1 : 1 < s.size) (b94 : (((s[0]'(by omega)).toNat : Int) == 94) = true) (b126 : (((s[0]'(by omega)).toNat : Int) == 126) = false) (sl : ∀ w, (Instr.slice 9 (.string s) (some (.int .i64 1)) none none).run Tryz.prog w = .ok (.string ⟨r.toArray⟩) w) (hok : readOk r = true) :
    Calls Tryz.prog 51 #[.string s] w (AltIs w (fromOk r (crt r)) (fromB r (crt r))) := by
  have B0 : Below w.heap.size w (w.alloc (.cells #[.string ⟨#[]⟩, .string ⟨#[]⟩] 73)) := (Below.refl _ _).alloc (Nat.le_refl _) _
  have r0 := heap_alloc_new w (.cells #[.string ⟨#[]⟩, .string ⟨#[]⟩] 73)
  have HV : Hid (∀ W, Calls Tryz.prog 97 #[.string ⟨r.toArray⟩] W (ReadIs W r)) := Lib.hid (fun W => specReadVersion_any ⟨r.toArray⟩ W (by rw [size_of]; omega))
  have HO := Lib.hid hok
  have HRN := read_num hok
  have HC := Lib.hid (fun (A : Option Addr) (n cap : Nat) W => l03Caret_any (readA r 0) (readA r 1) (readA r 2) A n cap W)
  rw [fromOk_of hok]
  unfold fromB
  have HF := Lib.hid (fun (A : Option Addr) (n cap : Nat) W => l03From_any r (readA r 0) (readA r 1) (readA r 2) (crt r) A n cap W HRN (crt_in r))
  obtain ⟨p, HP⟩ : ∃ p : Int, Hid ((crt r) = p) := ⟨_, Lib.hid rfl⟩
  rw [show (if 0 < readA r 0 then (0 : Int) else if 0 < readA r 1 then 1 else 2) = crt r from rfl] at HC
  simp only [HP.out] at HF HC ⊢
  obtain ⟨hi, HH⟩ : ∃ hi, Hid (rsd (readA r 0) (readA r 1) (readA r 2) p = hi) := ⟨_, Lib.hid rfl⟩
  simp only [HH.out] at HF ⊢
  obtain ⟨q, HQ⟩ : ∃ q, Hid ((!hi.isEmpty) = q) := ⟨_, Lib.hid rfl⟩
  rw [HQ.out] at HF ⊢
  clear HRN hok
  go_enter Tryz.func51, Tryz.ntmps51
  go_wp2_with fail
  refine (HV.out _).mono ?_
  rintro e w2 ⟨u, rfl, hu, hb2⟩
  obtain ⟨U, uc, rfl⟩ := hu.slice
  rw [HO.out]
  have B2 := B0.trans (hb2.mono B0.size)
  have r2 := keepB r0 hb2
  have v3 := heap_alloc_new w2 (.cells #[.int .i64 (readA r 0), .int .i64 (readA r 1), .int .i64 (readA r 2), .slice U (readP r).length uc] 127)
  have r3 := keepA r2 (.cells #[.int .i64 (readA r 0), .int .i64 (readA r 1), .int .i64 (readA r 2), .slice U (readP r).length uc] 127)
  obtain ⟨p0, p1, p2, p3⟩ := cells4 v3
  have BV : Below w.heap.size w ((w2.alloc (.cells #[.int .i64 (readA r 0), .int .i64 (readA r 1), .int .i64 (readA r 2), .slice U (readP r).length uc] 127)).drew) := (B2.alloc B2.size _).trans (below_drewN _ _ 1)
  clear hb2 hu
  go_wp2_with fail
  go_region_held3 (fun W => W.cell? ⟨w2.heap.size, 0, none⟩ = some (.int .i64 (readA r 0)) ∧ W.cell? ⟨w2.heap.size, 1, none⟩ = some (.int .i64 (readA r 1)) ∧ W.cell? ⟨w2.heap.size, 2, none⟩ = some (.int .i64 (readA r 2)) ∧ W.cell? ⟨w2.heap.size, 3, none⟩ = some (.slice U (readP r).length uc)) (first | exact ⟨p0, p1, p2, p3⟩ | exact ⟨(cell_far2 hq _ _).trans p0, (cell_far2 hq _ _).trans p1, (cell_far2 hq _ _).trans p2, (cell_far2 hq _ _).trans p3⟩ | go_keep) ((first
    | (go_at_call 99; (with_reducible refine (HC.out _ _ _ _).mono ?_); rintro e w5 ⟨rfl, hb5⟩; have B5 := BV.trans (hb5.mono BV.size); have v5 := keepB (W := (w2.alloc (.cells #[.int .i64 (readA r 0), .int .i64 (readA r 1), .int .i64 (readA r 2), .slice U (readP r).length uc] 127)).drew) v3 hb5; have r5 := keepB (W := (w2.alloc (.cells #[.int .i64 (readA r 0), .int .i64 (readA r 1), .int .i64 (readA r 2), .slice U (readP r).length uc] 127)).drew) r3 hb5; obtain ⟨p0, p1, p2, p3⟩ := cells4 v5)
    | (go_at_call 98; (with_reducible refine (HF.out _ _ _ _).mono ?_); rintro e w7 ⟨x, y, rfl, hxy, hb7⟩; have B7 := B5.trans (hb7.mono B5.size); have v7 := keepB v5 hb7; have r7 := keepB r5 hb7; have hq : w2.heap.size ≠ w.heap.size := Nat.ne_of_gt (lt_of_heap r2); obtain ⟨c0, c1, f1⟩ := cellsD r7; obtain ⟨p0, p1, p2, p3⟩ := cells4 v7)))
  all_goals
    go_wp2_with fail
    refine bodyPost_ret (v := .tuple #[.agg #[.string x, .string y], .bool q]) ?_ rfl ⟨_, _, rfl, hxy, ?_⟩
    · simp [results, Tryz.results51, go_sem, c0, c1]
    · exact below_res2 B7 (Nat.le_refl _) _ _

set_option maxRecDepth 100000 in
set_option maxHeartbeats 4000000 in
theorem part_tilde_no (s : ByteArray) (r : List UInt8) (w : World) (hl : r.length ≤ 1048000) (h42 : (s.toList == [42]) = false) (h1 : 1 < s.size) (b94 : (((s[0]'(by omega)).toNat : Int) == 94) = false) (b126 : (((s[0]'(by omega)).toNat : Int) == 126) = true) (sl : ∀ w, (Instr.slice 9 (.string s) (some (.int .i64 1)) none none).run Tryz.prog w = .ok (.string ⟨r.toArray⟩) w) (hok : readOk r = false) :
    Calls Tryz.prog 51 #[.string s] w (AltIs w false ([], [])) := by
  have B0 : Below w.heap.size w (w.alloc (.cells #[.string ⟨#[]⟩, .string ⟨#[]⟩] 73)) := (Below.refl _ _).alloc (Nat.le_refl _) _
  have r0 := heap_alloc_new w (.cells #[.string ⟨#[]⟩, .string ⟨#[]⟩] 73)
  have HV : Hid (∀ W, Calls Tryz.prog 97 #[.string ⟨r.toArray⟩] W (ReadIs W r)) := Lib.hid (fun W => specReadVersion_any ⟨r.toArray⟩ W (by rw [size_of]; omega))
  have HO := Lib.hid hok
  clear hok
  go_enter Tryz.func51, Tryz.ntmps51
  go_wp2_with fail
  refine (HV.out _).mono ?_
  rintro e w2 ⟨u, rfl, hu, hb2⟩
  obtain ⟨U, uc, rfl⟩ := hu.slice
  rw [HO.out]
  have B2 := B0.trans (hb2.mono B0.size)
  have r2 := keepB r0 hb2
  have hlt := lt_of_heap r2
  obtain ⟨c0, c1, f1⟩ := cellsD r2
  have B3 := (below_res2 B2 (Nat.le_refl _) (.string ⟨#[]⟩) (.string ⟨#[]⟩)).alloc (by simpa using B2.size) (.cells #[.int .i64 (readA r 0), .int .i64 (readA r 1), .int .i64 (readA r 2), .slice U (readP r).length uc] 127)
  obtain ⟨y0, y1⟩ := two_cells (keepA (set2_heap r2 (.string ⟨#[]⟩) (.string ⟨#[]⟩)) (.cells #[.int .i64 (readA r 0), .int .i64 (readA r 1), .int .i64 (readA r 2), .slice U (readP r).length uc] 127))
  go_wp2_with fail
  refine bodyPost_ret (v := .tuple #[.agg #[.string ⟨#[]⟩, .string ⟨#[]⟩], .bool false]) ?_ rfl ⟨_, _, rfl, fun h => (by cases h), ?_⟩
  · simp [results, Tryz.results51, go_sem, y0, y1]
  · exact B3

set_option maxRecDepth 100000 in
set_option maxHeartbeats 4000000 in
theorem part_tilde_yes (s : ByteArray) (r : List UInt8) (w : World) (hl : r.length ≤ 1048000) (h42 : (s.toList == [42]) = false) (h1 : 1 < s.size) (b94 : (((s[0]'(by omega)).toNat : Int) == 94) = false) (b126 : (((s[0]'(by omega)).toNat : Int) == 126) = true) (sl : ∀ w, (Instr.slice 9 (.string s) (some (.int .i64 1)) none none).run Tryz.prog w = .ok (.string ⟨r.toArray⟩) w) (hok : readOk r = true) :
    Calls Tryz.prog 51 #[.string s] w (AltIs w (fromOk r 1) (fromB r 1)) := by
  have B0 : Below w.heap.size w (w.alloc (.cells #[.string ⟨#[]⟩, .string ⟨#[]⟩] 73)) := (Below.refl _ _).alloc (Nat.le_refl _) _
  have r0 := heap_alloc_new w (.cells #[.string ⟨#[]⟩, .string ⟨#[]⟩] 73)
  have HV : Hid (∀ W, Calls Tryz.prog 97 #[.string ⟨r.toArray⟩] W (ReadIs W r)) := Lib.hid (fun W => specReadVersion_any ⟨r.toArray⟩ W (by rw [size_of]; omega))
  have HO := Lib.hid hok
  have HRN := read_num hok
  rw [fromOk_of hok]
  unfold fromB
  have HF := Lib.hid (fun (A : Option Addr) (n cap : Nat) W => l03From_any r (readA r 0) (readA r 1) (readA r 2) 1 A n cap W HRN (by decide))
  obtain ⟨p, HP⟩ : ∃ p : Int, Hid (1 = p) := ⟨_, Lib.hid rfl⟩
  skip
  obtain ⟨hi, HH⟩ : ∃ hi, Hid (rsd (readA r 0) (readA r 1) (readA r 2) 1 = hi) := ⟨_, Lib.hid rfl⟩
  simp only [HH.out] at HF ⊢
  obtain ⟨q, HQ⟩ : ∃ q, Hid ((!hi.isEmpty) = q) := ⟨_, Lib.hid rfl⟩
  rw [HQ.out] at HF ⊢
  clear HRN hok
  go_enter Tryz.func51, Tryz.ntmps51
  go_wp2_with fail
  refine (HV.out _).mono ?_
  rintro e w2 ⟨u, rfl, hu, hb2⟩
  obtain ⟨U, uc, rfl⟩ := hu.slice
  rw [HO.out]
  have B2 := B0.trans (hb2.mono B0.size)
  have r2 := keepB r0 hb2
  have v3 := heap_alloc_new w2 (.cells #[.int .i64 (readA r 0), .int .i64 (readA r 1), .int .i64 (readA r 2), .slice U (readP r).length uc] 127)
  have r3 := keepA r2 (.cells #[.int .i64 (readA r 0), .int .i64 (readA r 1), .int .i64 (readA r 2), .slice U (readP r).length uc] 127)
  obtain ⟨p0, p1, p2, p3⟩ := cells4 v3
  have BV : Below w.heap.size w ((w2.alloc (.cells #[.int .i64 (readA r 0), .int .i64 (readA r 1), .int .i64 (readA r 2), .slice U (readP r).length uc] 127)).drew) := (B2.alloc B2.size _).trans (below_drewN _ _ 1)
  clear hb2 hu
  go_wp2_with fail
  go_region_held3 (fun W => W.cell? ⟨w2.heap.size, 0, none⟩ = some (.int .i64 (readA r 0)) ∧ W.cell? ⟨w2.heap.size, 1, none⟩ = some (.int .i64 (readA r 1)) ∧ W.cell? ⟨w2.heap.size, 2, none⟩ = some (.int .i64 (readA r 2)) ∧ W.cell? ⟨w2.heap.size, 3, none⟩ = some (.slice U (readP r).length uc)) (first | exact ⟨p0, p1, p2, p3⟩ | exact ⟨(cell_far2 hq _ _).trans p0, (cell_far2 hq _ _).trans p1, (cell_far2 hq _ _).trans p2, (cell_far2 hq _ _).trans p3⟩ | go_keep) ((first
    | (go_at_call 98; (with_reducible refine (HF.out _ _ _ _).mono ?_); rintro e w7 ⟨x, y, rfl, hxy, hb7⟩; have B7 := BV.trans (hb7.mono BV.size); have v7 := keepB (W := (w2.alloc (.cells #[.int .i64 (readA r 0), .int .i64 (readA r 1), .int .i64 (readA r 2), .slice U (readP r).length uc] 127)).drew) v3 hb7; have r7 := keepB (W := (w2.alloc (.cells #[.int .i64 (readA r 0), .int .i64 (readA r 1), .int .i64 (readA r 2), .slice U (readP r).length uc] 127)).drew) r3 hb7; have hq : w2.heap.size ≠ w.heap.size := Nat.ne_of_gt (lt_of_heap r2); obtain ⟨c0, c1, f1⟩ := cellsD r7; obtain ⟨p0, p1, p2, p3⟩ := cells4 v7)))
  all_goals
    go_wp2_with fail
    refine bodyPost_ret (v := .tuple #[.agg #[.string x, .string y], .bool q]) ?_ rfl ⟨_, _, rfl, hxy, ?_⟩
    · simp [results, Tryz.results51, go_sem, c0, c1]
    · exact below_res2 B7 (Nat.le_refl _) _ _

set_option maxRecDepth 100000 in
set_option maxHeartbeats 4000000 in
theorem part_t0 (s : ByteArray) (l : List UInt8) (hs : s = ⟨l.toArray⟩) (w : World) (hl : l.length ≤ 1048000) (h42 : (s.toList == [42]) = false) (h0 : ¬ 0 < s.size) :
    Calls Tryz.prog 51 #[.string s] w (AltIs w (tlOk l) (tlB l)) := by
  have B0 : Below w.heap.size w (w.alloc (.cells #[.string ⟨#[]⟩, .string ⟨#[]⟩] 73)) := (Below.refl _ _).alloc (Nat.le_refl _) _
  have r0 := heap_alloc_new w (.cells #[.string ⟨#[]⟩, .string ⟨#[]⟩] 73)
  have HA := Lib.hid (fun W => l03Alone_any l W (by omega))
  have HS := Lib.hid (fun W => l03Short_any l W hl)
  subst hs
  unfold tlOk tlB
  obtain ⟨hi, HH⟩ : ∃ hi, Hid (exHigh l = hi) := ⟨_, Lib.hid rfl⟩
  simp only [HH.out] at HA ⊢
  obtain ⟨s, HSS⟩ : ∃ s : ByteArray, Hid (⟨l.toArray⟩ = s) := ⟨_, Lib.hid rfl⟩
  simp only [HSS.out] at HA HS h42 h0 ⊢
  generalize exOk l = ok at HA ⊢
  generalize shB l = sb at HS ⊢
  generalize shOk l = so at HS ⊢
  cases ok
  · go_enter Tryz.func51, Tryz.ntmps51
    go_wp2_with fail
    refine (HA.out _).mono ?_
    rintro e w2 ⟨rfl, hb2⟩
    unfold aloneV
    have B2 := B0.trans (hb2.mono B0.size)
    have r2 := keepB r0 hb2
    have B3 := B2.alloc B2.size (.cells #[.string ⟨#[]⟩, .string ⟨#[]⟩] 73)
    have r3 := keepA r2 (.cells #[.string ⟨#[]⟩, .string ⟨#[]⟩] 73)
    clear hb2 B0 r0 B2 r2
    go_wp2_with fail
    refine (HS.out _).mono ?_
    rintro e w4 ⟨x, y, rfl, hxy, hb4⟩
    have B4 := B3.trans (hb4.mono B3.size)
    obtain ⟨c0, c1, f1⟩ := cellsD (keepB r3 hb4)
    go_wp2_with fail
    refine bodyPost_ret (v := .tuple #[.agg #[.string x, .string y], .bool so]) ?_ rfl ⟨_, _, rfl, hxy, ?_⟩
    · simp [results, Tryz.results51, go_sem, c0, c1]
    · exact below_res2 B4 (Nat.le_refl _) _ _
  · go_enter Tryz.func51, Tryz.ntmps51
    go_wp2_with fail
    refine (HA.out _).mono ?_
    rintro e w2 ⟨rfl, hb2⟩
    unfold aloneV
    have B2 := B0.trans (hb2.mono B0.size)
    have r2 := keepB r0 hb2
    obtain ⟨c0, c1, f1⟩ := cellsD r2
    have hlt := lt_of_heap r2
    have B3 := (below_res2 B2 (Nat.le_refl _) (.string s) (.string ⟨hi.toArray⟩)).alloc (by simpa using B2.size) (.cells #[.string s, .string ⟨hi.toArray⟩] 73)
    obtain ⟨y0, y1⟩ := two_cells (keepA (set2_heap r2 (.string s) (.string ⟨hi.toArray⟩)) (.cells #[.string s, .string ⟨hi.toArray⟩] 73))
    simp only [if_true, HSS.out]
    go_wp2_with fail
    refine bodyPost_ret (v := .tuple #[.agg #[.string s, .string ⟨hi.toArray⟩], .bool true]) ?_ rfl ⟨_, _, rfl, fun _ => ⟨HSS.out.symm, rfl⟩, ?_⟩
    · simp [results, Tryz.results51, go_sem, y0, y1]
    · exact B3

set_option maxRecDepth 100000 in
set_option maxHeartbeats 4000000 in
theorem part_t1 (s : ByteArray) (l : List UInt8) (hs : s = ⟨l.toArray⟩) (w : World) (hl : l.length ≤ 1048000) (h42 : (s.toList == [42]) = false) (h1 : ¬ 1 < s.size) (h0 : 0 < s.size) (b62 : (((s[0]'(by omega)).toNat : Int) == 62) = false) (b60 : (((s[0]'(by omega)).toNat : Int) == 60) = false) :
    Calls Tryz.prog 51 #[.string s] w (AltIs w (tlOk l) (tlB l)) := by
  have B0 : Below w.heap.size w (w.alloc (.cells #[.string ⟨#[]⟩, .string ⟨#[]⟩] 73)) := (Below.refl _ _).alloc (Nat.le_refl _) _
  have r0 := heap_alloc_new w (.cells #[.string ⟨#[]⟩, .string ⟨#[]⟩] 73)
  have HA := Lib.hid (fun W => l03Alone_any l W (by omega))
  have HS := Lib.hid (fun W => l03Short_any l W hl)
  subst hs
  unfold tlOk tlB
  obtain ⟨hi, HH⟩ : ∃ hi, Hid (exHigh l = hi) := ⟨_, Lib.hid rfl⟩
  simp only [HH.out] at HA ⊢
  obtain ⟨s, HSS⟩ : ∃ s : ByteArray, Hid (⟨l.toArray⟩ = s) := ⟨_, Lib.hid rfl⟩
  simp only [HSS.out] at HA HS h42 h0 h1 b62 b60 ⊢
  generalize exOk l = ok at HA ⊢
  generalize shB l = sb at HS ⊢
  generalize shOk l = so at HS ⊢
  cases ok
  · go_enter Tryz.func51, Tryz.ntmps51
    go_wp2_with fail
    refine (HA.out _).mono ?_
    rintro e w2 ⟨rfl, hb2⟩
    unfold aloneV
    have B2 := B0.trans (hb2.mono B0.size)
    have r2 := keepB r0 hb2
    have B3 := B2.alloc B2.size (.cells #[.string ⟨#[]⟩, .string ⟨#[]⟩] 73)
    have r3 := keepA r2 (.cells #[.string ⟨#[]⟩, .string ⟨#[]⟩] 73)
    clear hb2 B0 r0 B2 r2
    go_wp2_with fail
    refine (HS.out _).mono ?_
    rintro e w4 ⟨x, y, rfl, hxy, hb4⟩
    have B4 := B3.trans (hb4.mono B3.size)
    obtain ⟨c0, c1, f1⟩ := cellsD (keepB r3 hb4)
    go_wp2_with fail
    refine bodyPost_ret (v := .tuple #[.agg #[.string x, .string y], .bool so]) ?_ rfl ⟨_, _, rfl, hxy, ?_⟩
    · simp [results, Tryz.results51, go_sem, c0, c1]
    · exact below_res2 B4 (Nat.le_refl _) _ _
  · go_enter Tryz.func51, Tryz.ntmps51
    go_wp2_with fail
    refine (HA.out _).mono ?_
    rintro e w2 ⟨rfl, hb2⟩
    unfold aloneV
    have B2 := B0.trans (hb2.mono B0.size)
    have r2 := keepB r0 hb2
    obtain ⟨c0, c1, f1⟩ := cellsD r2
    have hlt := lt_of_heap r2
    have B3 := (below_res2 B2 (Nat.le_refl _) (.string s) (.string ⟨hi.toArray⟩)).alloc (by simpa using B2.size) (.cells #[.string s, .string ⟨hi.toArray⟩] 73)
    obtain ⟨y0, y1⟩ := two_cells (keepA (set2_heap r2 (.string s) (.string ⟨hi.toArray⟩)) (.cells #[.string s, .string ⟨hi.toArray⟩] 73))
    simp only [if_true, HSS.out]
    go_wp2_with fail
    refine bodyPost_ret (v := .tuple #[.agg #[.string s, .string ⟨hi.toArray⟩], .bool true]) ?_ rfl ⟨_, _, rfl, fun _ => ⟨HSS.out.symm, rfl⟩, ?_⟩
    · simp [results, Tryz.results51, go_sem, y0, y1]
    · exact B3

set_option maxRecDepth 100000 in
set_option maxHeartbeats 4000000 in
theorem part_t2 (s : ByteArray) (l : List UInt8) (hs : s = ⟨l.toArray⟩) (w : World) (hl : l.length ≤ 1048000) (h42 : (s.toList == [42]) = false) (h1 : 1 < s.size) (b94 : (((s[0]'(by omega)).toNat : Int) == 94) = false) (b126 : (((s[0]'(by omega)).toNat : Int) == 126) = false) (b62 : (((s[0]'(by omega)).toNat : Int) == 62) = false) (b60 : (((s[0]'(by omega)).toNat : Int) == 60) = false) :
    Calls Tryz.prog 51 #[.string s] w (AltIs w (tlOk l) (tlB l)) := by
  have B0 : Below w.heap.size w (w.alloc (.cells #[.string ⟨#[]⟩, .string ⟨#[]⟩] 73)) := (Below.refl _ _).alloc (Nat.le_refl _) _
  have r0 := heap_alloc_new w (.cells #[.string ⟨#[]⟩, .string ⟨#[]⟩] 73)
  have HA := Lib.hid (fun W => l03Alone_any l W (by omega))
  have HS := Lib.hid (fun W => l03Short_any l W hl)
  subst hs
  unfold tlOk tlB
  obtain ⟨hi, HH⟩ : ∃ hi, Hid (exHigh l = hi) := ⟨_, Lib.hid rfl⟩
  simp only [HH.out] at HA ⊢
  obtain ⟨s, HSS⟩ : ∃ s : ByteArray, Hid (⟨l.toArray⟩ = s) := ⟨_, Lib.hid rfl⟩
  simp only [HSS.out] at HA HS h42 h1 b94 b126 b62 b60 ⊢
  generalize exOk l = ok at HA ⊢
  generalize shB l = sb at HS ⊢
  generalize shOk l = so at HS ⊢
  cases ok
  · go_enter Tryz.func51, Tryz.ntmps51
    go_wp2_with fail
    refine (HA.out _).mono ?_
    rintro e w2 ⟨rfl, hb2⟩
    unfold aloneV
    have B2 := B0.trans (hb2.mono B0.size)
    have r2 := keepB r0 hb2
    have B3 := B2.alloc B2.size (.cells #[.string ⟨#[]⟩, .string ⟨#[]⟩] 73)
    have r3 := keepA r2 (.cells #[.string ⟨#[]⟩, .string ⟨#[]⟩] 73)
    clear hb2 B0 r0 B2 r2
    go_wp2_with fail
    refine (HS.out _).mono ?_
    rintro e w4 ⟨x, y, rfl, hxy, hb4⟩
    have B4 := B3.trans (hb4.mono B3.size)
    obtain ⟨c0, c1, f1⟩ := cellsD (keepB r3 hb4)
    go_wp2_with fail
    refine bodyPost_ret (v := .tuple #[.agg #[.string x, .string y], .bool so]) ?_ rfl ⟨_, _, rfl, hxy, ?_⟩
    · simp [results, Tryz.results51, go_sem, c0, c1]
    · exact below_res2 B4 (Nat.le_refl _) _ _
  · go_enter Tryz.func51, Tryz.ntmps51
    go_wp2_with fail
    refine (HA.out _).mono ?_
    rintro e w2 ⟨rfl, hb2⟩
    unfold aloneV
    have B2 := B0.trans (hb2.mono B0.size)
    have r2 := keepB r0 hb2
    obtain ⟨c0, c1, f1⟩ := cellsD r2
    have hlt := lt_of_heap r2
    have B3 := (below_res2 B2 (Nat.le_refl _) (.string s) (.string ⟨hi.toArray⟩)).alloc (by simpa using B2.size) (.cells #[.string s, .string ⟨hi.toArray⟩] 73)
    obtain ⟨y0, y1⟩ := two_cells (keepA (set2_heap r2 (.string s) (.string ⟨hi.toArray⟩)) (.cells #[.string s, .string ⟨hi.toArray⟩] 73))
    simp only [if_true, HSS.out]
    go_wp2_with fail
    refine bodyPost_ret (v := .tuple #[.agg #[.string s, .string ⟨hi.toArray⟩], .bool true]) ?_ rfl ⟨_, _, rfl, fun _ => ⟨HSS.out.symm, rfl⟩, ?_⟩
    · simp [results, Tryz.results51, go_sem, y0, y1]
    · exact B3

set_option maxRecDepth 100000 in
set_option maxHeartbeats 4000000 in
theorem part_s1 (s : ByteArray) (l : List UInt8) (hs : s = ⟨l.toArray⟩) (w : World) (hl : l.length ≤ 1048000) (h42 : (s.toList == [42]) = false) (h1 : ¬ 1 < s.size) (h0 : 0 < s.size) (b62 : (((s[0]'(by omega)).toNat : Int) == 62) = true) :
    Calls Tryz.prog 51 #[.string s] w (AltIs w (lmOk l) (lmB l)) := by
  have B0 : Below w.heap.size w (w.alloc (.cells #[.string ⟨#[]⟩, .string ⟨#[]⟩] 73)) := (Below.refl _ _).alloc (Nat.le_refl _) _
  have r0 := heap_alloc_new w (.cells #[.string ⟨#[]⟩, .string ⟨#[]⟩] 73)
  have HG := Lib.hid (fun W => l03Signs_any l W hl)
  subst hs
  obtain ⟨s, HSS⟩ : ∃ s : ByteArray, Hid (⟨l.toArray⟩ = s) := ⟨_, Lib.hid rfl⟩
  simp only [HSS.out] at HG h42 h0 h1 b62 ⊢
  generalize lmOk l = q at HG ⊢
  go_enter Tryz.func51, Tryz.ntmps51
  go_wp2_with fail
  refine (HG.out _).mono ?_
  rintro e w4 ⟨x, y, rfl, hxy, hb4⟩
  have B4 := B0.trans (hb4.mono B0.size)
  obtain ⟨c0, c1, f1⟩ := cellsD (keepB r0 hb4)
  go_wp2_with fail
  refine bodyPost_ret (v := .tuple #[.agg #[.string x, .string y], .bool q]) ?_ rfl ⟨_, _, rfl, hxy, ?_⟩
  · simp [results, Tryz.results51, go_sem, c0, c1]
  · exact below_res2 B4 (Nat.le_refl _) _ _

set_option maxRecDepth 100000 in
set_option maxHeartbeats 4000000 in
theorem part_s2 (s : ByteArray) (l : List UInt8) (hs : s = ⟨l.toArray⟩) (w : World) (hl : l.length ≤ 1048000) (h42 : (s.toList == [42]) = false) (h1 : 1 < s.size) (b94 : (((s[0]'(by omega)).toNat : Int) == 94) = false) (b126 : (((s[0]'(by omega)).toNat : Int) == 126) = false) (b62 : (((s[0]'(by omega)).toNat : Int) == 62) = true) :
    Calls Tryz.prog 51 #[.string s] w (AltIs w (lmOk l) (lmB l)) := by
  have B0 : Below w.heap.size w (w.alloc (.cells #[.string ⟨#[]⟩, .string ⟨#[]⟩] 73)) := (Below.refl _ _).alloc (Nat.le_refl _) _
  have r0 := heap_alloc_new w (.cells #[.string ⟨#[]⟩, .string ⟨#[]⟩] 73)
  have HG := Lib.hid (fun W => l03Signs_any l W hl)
  subst hs
  obtain ⟨s, HSS⟩ : ∃ s : ByteArray, Hid (⟨l.toArray⟩ = s) := ⟨_, Lib.hid rfl⟩
  simp only [HSS.out] at HG h42 h1 b94 b126 b62 ⊢
  generalize lmOk l = q at HG ⊢
  go_enter Tryz.func51, Tryz.ntmps51
  go_wp2_with fail
  refine (HG.out _).mono ?_
  rintro e w4 ⟨x, y, rfl, hxy, hb4⟩
  have B4 := B0.trans (hb4.mono B0.size)
  obtain ⟨c0, c1, f1⟩ := cellsD (keepB r0 hb4)
  go_wp2_with fail
  refine bodyPost_ret (v := .tuple #[.agg #[.string x, .string y], .bool q]) ?_ rfl ⟨_, _, rfl, hxy, ?_⟩
  · simp [results, Tryz.results51, go_sem, c0, c1]
  · exact below_res2 B4 (Nat.le_refl _) _ _

set_option maxRecDepth 100000 in
set_option maxHeartbeats 4000000 in
theorem part_s3 (s : ByteArray) (l : List UInt8) (hs : s = ⟨l.toArray⟩) (w : World) (hl : l.length ≤ 1048000) (h42 : (s.toList == [42]) = false) (h1 : ¬ 1 < s.size) (h0 : 0 < s.size) (b62 : (((s[0]'(by omega)).toNat : Int) == 62) = false) (b60 : (((s[0]'(by omega)).toNat : Int) == 60) = true) :
    Calls Tryz.prog 51 #[.string s] w (AltIs w (lmOk l) (lmB l)) := by
  have B0 : Below w.heap.size w (w.alloc (.cells #[.string ⟨#[]⟩, .string ⟨#[]⟩] 73)) := (Below.refl _ _).alloc (Nat.le_refl _) _
  have r0 := heap_alloc_new w (.cells #[.string ⟨#[]⟩, .string ⟨#[]⟩] 73)
  have HG := Lib.hid (fun W => l03Signs_any l W hl)
  subst hs
  obtain ⟨s, HSS⟩ : ∃ s : ByteArray, Hid (⟨l.toArray⟩ = s) := ⟨_, Lib.hid rfl⟩
  simp only [HSS.out] at HG h42 h0 h1 b62 b60 ⊢
  generalize lmOk l = q at HG ⊢
  go_enter Tryz.func51, Tryz.ntmps51
  go_wp2_with fail
  refine (HG.out _).mono ?_
  rintro e w4 ⟨x, y, rfl, hxy, hb4⟩
  have B4 := B0.trans (hb4.mono B0.size)
  obtain ⟨c0, c1, f1⟩ := cellsD (keepB r0 hb4)
  go_wp2_with fail
  refine bodyPost_ret (v := .tuple #[.agg #[.string x, .string y], .bool q]) ?_ rfl ⟨_, _, rfl, hxy, ?_⟩
  · simp [results, Tryz.results51, go_sem, c0, c1]
  · exact below_res2 B4 (Nat.le_refl _) _ _

set_option maxRecDepth 100000 in
set_option maxHeartbeats 4000000 in
theorem part_s4 (s : ByteArray) (l : List UInt8) (hs : s = ⟨l.toArray⟩) (w : World) (hl : l.length ≤ 1048000) (h42 : (s.toList == [42]) = false) (h1 : 1 < s.size) (b94 : (((s[0]'(by omega)).toNat : Int) == 94) = false) (b126 : (((s[0]'(by omega)).toNat : Int) == 126) = false) (b62 : (((s[0]'(by omega)).toNat : Int) == 62) = false) (b60 : (((s[0]'(by omega)).toNat : Int) == 60) = true) :
    Calls Tryz.prog 51 #[.string s] w (AltIs w (lmOk l) (lmB l)) := by
  have B0 : Below w.heap.size w (w.alloc (.cells #[.string ⟨#[]⟩, .string ⟨#[]⟩] 73)) := (Below.refl _ _).alloc (Nat.le_refl _) _
  have r0 := heap_alloc_new w (.cells #[.string ⟨#[]⟩, .string ⟨#[]⟩] 73)
  have HG := Lib.hid (fun W => l03Signs_any l W hl)
  subst hs
  obtain ⟨s, HSS⟩ : ∃ s : ByteArray, Hid (⟨l.toArray⟩ = s) := ⟨_, Lib.hid rfl⟩
  simp only [HSS.out] at HG h42 h1 b94 b126 b62 b60 ⊢
  generalize lmOk l = q at HG ⊢
  go_enter Tryz.func51, Tryz.ntmps51
  go_wp2_with fail
  refine (HG.out _).mono ?_
  rintro e w4 ⟨x, y, rfl, hxy, hb4⟩
  have B4 := B0.trans (hb4.mono B0.size)
  obtain ⟨c0, c1, f1⟩ := cellsD (keepB r0 hb4)
  go_wp2_with fail
  refine bodyPost_ret (v := .tuple #[.agg #[.string x, .string y], .bool q]) ?_ rfl ⟨_, _, rfl, hxy, ?_⟩
  · simp [results, Tryz.results51, go_sem, c0, c1]
  · exact below_res2 B4 (Nat.le_refl _) _ _

theorem byte_is {c : UInt8} {k : Int} (h : (c.toNat : Int) = k) : (((c.toNat : Int)) == k) = true := by simpa using h
theorem part_one {l : List UInt8} {w w' : World} {e : Ending} (ha : altOk l = false) (h : tlOk l = false) (hh : AltIs w (tlOk l) (tlB l) e w') : AltIs w (altOk l) (altB l) e w' := by
  rw [ha]; rw [h] at hh; exact hh.no
set_option maxRecDepth 100000 in
theorem lone_94 : altOk [94] = false ∧ tlOk [94] = false := by
  have h1 : readOk [] = false := readOk_nil
  have h2 : tlOk [94] = false := by
    rw [(tl_eq [94]).1, if_pos (by decide)]
    exact fromOk_bad (by decide +kernel)
  exact ⟨by rw [(alt_caret []).1]; exact fromOk_bad h1, h2⟩
set_option maxRecDepth 100000 in
theorem lone_126 : altOk [126] = false ∧ tlOk [126] = false := by
  have h1 : readOk [] = false := readOk_nil
  have h2 : tlOk [126] = false := by
    rw [(tl_eq [126]).1, if_pos (by decide)]
    exact fromOk_bad (by decide +kernel)
  exact ⟨by rw [(alt_tilde []).1]; exact fromOk_bad h1, h2⟩
theorem AltIs.plain {l : List UInt8} {w w' : World} {e : Ending} (h : plainA l) (hh : AltIs w (tlOk l) (tlB l) e w') : AltIs w (altOk l) (altB l) e w' := by
  obtain ⟨e1, e2⟩ := alt_plain h
  obtain ⟨x, y, he, hxy, hb⟩ := hh
  exact ⟨x, y, by rw [e1]; exact he, fun hk => by rw [e2 hk]; exact hxy (by rw [← e1]; exact hk), hb⟩
theorem AltIs.as {w w' : World} {ok ok' : Bool} {b b' : Bd} {e : Ending} (h1 : ok' = ok) (h2 : b' = b) (h : AltIs w ok b e w') : AltIs w ok' b' e w' := by subst h1 h2; exact h
set_option maxRecDepth 100000 in
theorem l03Part_any (l : List UInt8) (w : World) (hl : l.length ≤ 1048000) : Calls Tryz.prog 51 #[.string ⟨l.toArray⟩] w (AltIs w (altOk l) (altB l)) := by
  by_cases h42 : l = [42]
  · subst h42
    exact (part_star ⟨#[42]⟩ w (by rw [ByteArray.toList_eq]; rfl)).mono fun e w' h => h.as (by unfold altOk; rw [if_pos rfl]) (by unfold altB; rw [if_pos rfl])
  obtain ⟨s, hs⟩ : ∃ s : ByteArray, s = ⟨l.toArray⟩ := ⟨_, rfl⟩
  have e42 := one42 hs h42
  have hz : s.size = l.length := by rw [hs]; exact size_of l
  rw [← hs]
  match l, h42, hs, hz, hl with
  | [], _, hs, hz, hl => exact (part_t0 s [] hs w hl e42 (by rw [hz]; simp)).mono fun e w' h => h.plain ⟨by simp, by simp, by simp, by simp, by simp⟩
  | c :: r, h42, hs, hz, hl =>
    have h0 : 0 < s.size := by rw [hz]; simp
    have hc : s[0]'h0 = c := by subst hs; rfl
    have tst : ∀ d : UInt8, c ≠ d → (((s[0]'h0).toNat : Int) == (d.toNat : Int)) = false := fun d hd => by rw [hc]; exact byte_no hd
    have tst2 : ∀ d : UInt8, c = d → (((s[0]'h0).toNat : Int) == (d.toNat : Int)) = true := fun d hd => by rw [hc, hd]; simp
    by_cases h94 : c = 94
    · subst h94
      cases r with
      | nil => exact (part_t1 s [94] hs w hl e42 (by rw [hz]; simp) h0 (tst 62 (by decide)) (tst 60 (by decide))).mono fun e w' h => part_one lone_94.1 lone_94.2 h
      | cons d t =>
        have h1 : 1 < s.size := by rw [hz]; simp
        have sl : ∀ w, (Instr.slice 9 (.string s) (some (.int .i64 1)) none none).run Tryz.prog w = .ok (.string ⟨(d :: t).toArray⟩) w := fun w => by subst hs; exact slice_from _ _ 1 1 rfl (by omega) (piece_end _ 1) w
        cases hok : readOk (d :: t) with
        | false => exact (part_caret_no s (d :: t) w (by simp at hl ⊢; omega) e42 h1 (tst2 94 rfl) sl hok).mono fun e w' h => (h.no (b' := altB (94 :: d :: t))).as (by rw [(alt_caret _).1, fromOk_bad hok]) rfl
        | true => exact (part_caret_yes s (d :: t) w (by simp at hl ⊢; omega) e42 h1 (tst2 94 rfl) (tst 126 (by decide)) sl hok).mono fun e w' h => h.as (alt_caret _).1 (alt_caret _).2
    by_cases h126 : c = 126
    · subst h126
      cases r with
      | nil => exact (part_t1 s [126] hs w hl e42 (by rw [hz]; simp) h0 (tst 62 (by decide)) (tst 60 (by decide))).mono fun e w' h => part_one lone_126.1 lone_126.2 h
      | cons d t =>
        have h1 : 1 < s.size := by rw [hz]; simp
        have sl : ∀ w, (Instr.slice 9 (.string s) (some (.int .i64 1)) none none).run Tryz.prog w = .ok (.string ⟨(d :: t).toArray⟩) w := fun w => by subst hs; exact slice_from _ _ 1 1 rfl (by omega) (piece_end _ 1) w
        cases hok : readOk (d :: t) with
        | false => exact (part_tilde_no s (d :: t) w (by simp at hl ⊢; omega) e42 h1 (tst 94 (by decide)) (tst2 126 rfl) sl hok).mono fun e w' h => (h.no (b' := altB (126 :: d :: t))).as (by rw [(alt_tilde _).1, fromOk_bad hok]) rfl
        | true => exact (part_tilde_yes s (d :: t) w (by simp at hl ⊢; omega) e42 h1 (tst 94 (by decide)) (tst2 126 rfl) sl hok).mono fun e w' h => h.as (alt_tilde _).1 (alt_tilde _).2
    by_cases h62 : c = 62
    · subst h62
      by_cases h1 : 1 < s.size
      · exact (part_s2 s _ hs w hl e42 h1 (tst 94 (by decide)) (tst 126 (by decide)) (tst2 62 rfl)).mono fun e w' h => h.as (alt_signs (.inl rfl)).1 (alt_signs (.inl rfl)).2
      · exact (part_s1 s _ hs w hl e42 h1 h0 (tst2 62 rfl)).mono fun e w' h => h.as (alt_signs (.inl rfl)).1 (alt_signs (.inl rfl)).2
    by_cases h60 : c = 60
    · subst h60
      by_cases h1 : 1 < s.size
      · exact (part_s4 s _ hs w hl e42 h1 (tst 94 (by decide)) (tst 126 (by decide)) (tst 62 (by decide)) (tst2 60 rfl)).mono fun e w' h => h.as (alt_signs (.inr rfl)).1 (alt_signs (.inr rfl)).2
      · exact (part_s3 s _ hs w hl e42 h1 h0 (tst 62 (by decide)) (tst2 60 rfl)).mono fun e w' h => h.as (alt_signs (.inr rfl)).1 (alt_signs (.inr rfl)).2
    have hp : plainA (c :: r) := ⟨h42, by simpa using h94, by simpa using h126, by simpa using h62, by simpa using h60⟩
    by_cases h1 : 1 < s.size
    · exact (part_t2 s _ hs w hl e42 h1 (tst 94 h94) (tst 126 h126) (tst 62 h62) (tst 60 h60)).mono fun e w' h => h.plain hp
    · exact (part_t1 s _ hs w hl e42 h1 h0 (tst 62 h62) (tst 60 h60)).mono fun e w' h => h.plain hp
end Go.Proofs.YtongpnknmgbhjaaGreatDoor

/-
  impl.readAlternative: one alternative of a range.
-/
namespace Go.Proofs.YtongpnknmgbhjaaGreatDoor
open Go.RowKit

set_option maxRecDepth 100000 in
set_option maxHeartbeats 4000000 in
theorem alt_star (s : ByteArray) (w : World) (hs : (s.toList == [42]) = true) :
    Calls Tryz.prog 53 #[.string s] w (AltIs w true ([], [])) := by
  have B0 : Below w.heap.size w (w.alloc (.cells #[.string ⟨#[]⟩, .string ⟨#[]⟩] 73)) := (Below.refl _ _).alloc (Nat.le_refl _) _
  go_enter Tryz.func53, Tryz.ntmps53
  go_wp2_with fail
  refine bodyPost_ret (v := .tuple #[.agg #[.string ⟨#[]⟩, .string ⟨#[]⟩], .bool true]) ?_ rfl ⟨_, _, rfl, fun _ => ⟨rfl, rfl⟩, B0⟩
  simp [results, Tryz.results53, go_sem]

set_option maxRecDepth 100000 in
set_option maxHeartbeats 4000000 in
theorem alt_caret' (s : ByteArray) (r : List UInt8) (w : World) (hl : r.length ≤ 1048000) (ht : Tab w) (h42 : (s.toList == [42]) = false) (p94 : ([94] : List UInt8).isPrefixOf s.data.toList = true) (sl : ∀ w, (Instr.slice 9 (.string s) (some (.int .i64 1)) none none).run Tryz.prog w = .ok (.string ⟨r.toArray⟩) w) :
    Calls Tryz.prog 53 #[.string s] w (AltIs w (fromOk r (crt r)) (fromB r (crt r))) := by
  have B0 : Below w.heap.size w (w.alloc (.cells #[.string ⟨#[]⟩, .string ⟨#[]⟩] 73)) := (Below.refl _ _).alloc (Nat.le_refl _) _
  have r0 := heap_alloc_new w (.cells #[.string ⟨#[]⟩, .string ⟨#[]⟩] 73)
  have H94 : Hid (∀ W, Calls Tryz.prog 104 #[.string s, .string ⟨#[94]⟩] W fun e w' => e = .returned (.bool true) ∧ w' = W) := Lib.hid (fun W => (hasPrefix_any s ⟨#[94]⟩ W).mono fun e w' h => ⟨by rw [h.1]; exact congrArg (fun b => Ending.returned (.bool b)) p94, h.2⟩)
  have HF := Lib.hid (fun (W : World) (h : Below w.heap.size w W) => rfCaret_any r W (by omega) (tab_below ht h))
  generalize fromOk r (crt r) = q at HF ⊢
  generalize fromB r (crt r) = fb at HF ⊢
  clear ht hl p94
  go_enter Tryz.func53, Tryz.ntmps53
  go_wp2_with fail
  refine (H94.out _).mono ?_
  rintro e w' ⟨rfl, hw⟩
  subst hw
  go_wp2_with fail
  refine (HF.out _ B0).mono ?_
  rintro e w4 ⟨x, y, rfl, hxy, hb4⟩
  have B4 := B0.trans (hb4.mono B0.size)
  obtain ⟨c0, c1⟩ := two_cells (keepB r0 hb4)
  have f0 := frozen2 (keepB r0 hb4) 0
  have f1 := frozen2 (keepB r0 hb4) 1
  go_wp2_with fail
  refine bodyPost_ret (v := .tuple #[.agg #[.string x, .string y], .bool q]) ?_ rfl ⟨_, _, rfl, hxy, ?_⟩
  · simp [results, Tryz.results53, go_sem, c0, c1]
  · exact below_res2 B4 (Nat.le_refl _) _ _

set_option maxRecDepth 100000 in
set_option maxHeartbeats 4000000 in
theorem alt_tilde' (s : ByteArray) (r : List UInt8) (w : World) (hl : r.length ≤ 1048000) (ht : Tab w) (h42 : (s.toList == [42]) = false) (p94 : ([94] : List UInt8).isPrefixOf s.data.toList = false) (p126 : ([126] : List UInt8).isPrefixOf s.data.toList = true) (sl : ∀ w, (Instr.slice 9 (.string s) (some (.int .i64 1)) none none).run Tryz.prog w = .ok (.string ⟨r.toArray⟩) w) :
    Calls Tryz.prog 53 #[.string s] w (AltIs w (fromOk r 1) (fromB r 1)) := by
  have B0 : Below w.heap.size w (w.alloc (.cells #[.string ⟨#[]⟩, .string ⟨#[]⟩] 73)) := (Below.refl _ _).alloc (Nat.le_refl _) _
  have r0 := heap_alloc_new w (.cells #[.string ⟨#[]⟩, .string ⟨#[]⟩] 73)
  have H94 : Hid (∀ W, Calls Tryz.prog 104 #[.string s, .string ⟨#[94]⟩] W fun e w' => e = .returned (.bool false) ∧ w' = W) := Lib.hid (fun W => (hasPrefix_any s ⟨#[94]⟩ W).mono fun e w' h => ⟨by rw [h.1]; exact congrArg (fun b => Ending.returned (.bool b)) p94, h.2⟩)
  have H126 : Hid (∀ W, Calls Tryz.prog 104 #[.string s, .string ⟨#[126]⟩] W fun e w' => e = .returned (.bool true) ∧ w' = W) := Lib.hid (fun W => (hasPrefix_any s ⟨#[126]⟩ W).mono fun e w' h => ⟨by rw [h.1]; exact congrArg (fun b => Ending.returned (.bool b)) p126, h.2⟩)
  have HF := Lib.hid (fun (W : World) (h : Below w.heap.size w W) => rfTilde_any r W (by omega) (tab_below ht h))
  generalize fromOk r 1 = q at HF ⊢
  generalize fromB r 1 = fb at HF ⊢
  clear ht hl p94 p126
  go_enter Tryz.func53, Tryz.ntmps53
  go_wp2_with fail
  refine (H94.out _).mono ?_
  rintro e w' ⟨rfl, hw⟩
  subst hw
  go_wp2_with fail
  refine (H126.out _).mono ?_
  rintro e w' ⟨rfl, hw⟩
  subst hw
  go_wp2_with fail
  refine (HF.out _ B0).mono ?_
  rintro e w4 ⟨x, y, rfl, hxy, hb4⟩
  have B4 := B0.trans (hb4.mono B0.size)
  obtain ⟨c0, c1⟩ := two_cells (keepB r0 hb4)
  have f0 := frozen2 (keepB r0 hb4) 0
  have f1 := frozen2 (keepB r0 hb4) 1
  go_wp2_with fail
  refine bodyPost_ret (v := .tuple #[.agg #[.string x, .string y], .bool q]) ?_ rfl ⟨_, _, rfl, hxy, ?_⟩
  · simp [results, Tryz.results53, go_sem, c0, c1]
  · exact below_res2 B4 (Nat.le_refl _) _ _

set_option maxRecDepth 100000 in
set_option maxHeartbeats 4000000 in
theorem alt_ge (s : ByteArray) (l : List UInt8) (hs : s = ⟨l.toArray⟩) (w : World) (hl : l.length ≤ 1048000) (ht : Tab w) (m : Int) (hm : w.cell? ⟨0, 0, none⟩ = some (.int .i64 m)) (h42 : (s.toList == [42]) = false) (p94 : ([94] : List UInt8).isPrefixOf s.data.toList = false) (p126 : ([126] : List UInt8).isPrefixOf s.data.toList = false) (p62 : ([62] : List UInt8).isPrefixOf s.data.toList = true) :
    Calls Tryz.prog 53 #[.string s] w (AltIs w (lmOk l) (lmB l)) := by
  have B0 : Below w.heap.size w (w.alloc (.cells #[.string ⟨#[]⟩, .string ⟨#[]⟩] 73)) := (Below.refl _ _).alloc (Nat.le_refl _) _
  have r0 := heap_alloc_new w (.cells #[.string ⟨#[]⟩, .string ⟨#[]⟩] 73)
  have H94 : Hid (∀ W, Calls Tryz.prog 104 #[.string s, .string ⟨#[94]⟩] W fun e w' => e = .returned (.bool false) ∧ w' = W) := Lib.hid (fun W => (hasPrefix_any s ⟨#[94]⟩ W).mono fun e w' h => ⟨by rw [h.1]; exact congrArg (fun b => Ending.returned (.bool b)) p94, h.2⟩)
  have H126 : Hid (∀ W, Calls Tryz.prog 104 #[.string s, .string ⟨#[126]⟩] W fun e w' => e = .returned (.bool false) ∧ w' = W) := Lib.hid (fun W => (hasPrefix_any s ⟨#[126]⟩ W).mono fun e w' h => ⟨by rw [h.1]; exact congrArg (fun b => Ending.returned (.bool b)) p126, h.2⟩)
  have H62 : Hid (∀ W, Calls Tryz.prog 104 #[.string s, .string ⟨#[62]⟩] W fun e w' => e = .returned (.bool true) ∧ w' = W) := Lib.hid (fun W => (hasPrefix_any s ⟨#[62]⟩ W).mono fun e w' h => ⟨by rw [h.1]; exact congrArg (fun b => Ending.returned (.bool b)) p62, h.2⟩)
  have HF := Lib.hid (fun (W : World) (h : Below w.heap.size w W) => readLimits_any l m W hl (tab_below ht h) (keepC h hm))
  rw [← hs] at HF
  generalize lmOk l = q at HF ⊢
  generalize lmB l = fb at HF ⊢
  clear ht hl hs hm p94 p126 p62
  go_enter Tryz.func53, Tryz.ntmps53
  go_wp2_with fail
  refine (H94.out _).mono ?_
  rintro e w' ⟨rfl, hw⟩
  subst hw
  go_wp2_with fail
  refine (H126.out _).mono ?_
  rintro e w' ⟨rfl, hw⟩
  subst hw
  go_wp2_with fail
  refine (H62.out _).mono ?_
  rintro e w' ⟨rfl, hw⟩
  subst hw
  go_wp2_with fail
  refine (HF.out _ B0).mono ?_
  rintro e w4 ⟨x, y, rfl, hxy, hb4⟩
  have B4 := B0.trans (hb4.mono B0.size)
  obtain ⟨c0, c1⟩ := two_cells (keepB r0 hb4)
  have f0 := frozen2 (keepB r0 hb4) 0
  have f1 := frozen2 (keepB r0 hb4) 1
  go_wp2_with fail
  refine bodyPost_ret (v := .tuple #[.agg #[.string x, .string y], .bool q]) ?_ rfl ⟨_, _, rfl, hxy, ?_⟩
  · simp [results, Tryz.results53, go_sem, c0, c1]
  · exact below_res2 B4 (Nat.le_refl _) _ _

set_option maxRecDepth 100000 in
set_option maxHeartbeats 4000000 in
theorem alt_lt (s : ByteArray) (l : List UInt8) (hs : s = ⟨l.toArray⟩) (w : World) (hl : l.length ≤ 1048000) (ht : Tab w) (m : Int) (hm : w.cell? ⟨0, 0, none⟩ = some (.int .i64 m)) (h42 : (s.toList == [42]) = false) (p94 : ([94] : List UInt8).isPrefixOf s.data.toList = false) (p126 : ([126] : List UInt8).isPrefixOf s.data.toList = false) (p62 : ([62] : List UInt8).isPrefixOf s.data.toList = false) (p60 : ([60] : List UInt8).isPrefixOf s.data.toList = true) :
    Calls Tryz.prog 53 #[.string s] w (AltIs w (lmOk l) (lmB l)) := by
  have B0 : Below w.heap.size w (w.alloc (.cells #[.string ⟨#[]⟩, .string ⟨#[]⟩] 73)) := (Below.refl _ _).alloc (Nat.le_refl _) _
  have r0 := heap_alloc_new w (.cells #[.string ⟨#[]⟩, .string ⟨#[]⟩] 73)
  have H94 : Hid (∀ W, Calls Tryz.prog 104 #[.string s, .string ⟨#[94]⟩] W fun e w' => e = .returned (.bool false) ∧ w' = W) := Lib.hid (fun W => (hasPrefix_any s ⟨#[94]⟩ W).mono fun e w' h => ⟨by rw [h.1]; exact congrArg (fun b => Ending.returned (.bool b)) p94, h.2⟩)
  have H126 : Hid (∀ W, Calls Tryz.prog 104 #[.string s, .string ⟨#[126]⟩] W fun e w' => e = .returned (.bool false) ∧ w' = W) := Lib.hid (fun W => (hasPrefix_any s ⟨#[126]⟩ W).mono fun e w' h => ⟨by rw [h.1]; exact congrArg (fun b => Ending.returned (.bool b)) p126, h.2⟩)
  have H62 : Hid (∀ W, Calls Tryz.prog 104 #[.string s, .string ⟨#[62]⟩] W fun e w' => e = .returned (.bool false) ∧ w' = W) := Lib.hid (fun W => (hasPrefix_any s ⟨#[62]⟩ W).mono fun e w' h => ⟨by rw [h.1]; exact congrArg (fun b => Ending.returned (.bool b)) p62, h.2⟩)
  have H60 : Hid (∀ W, Calls Tryz.prog 104 #[.string s, .string ⟨#[60]⟩] W fun e w' => e = .returned (.bool true) ∧ w' = W) := Lib.hid (fun W => (hasPrefix_any s ⟨#[60]⟩ W).mono fun e w' h => ⟨by rw [h.1]; exact congrArg (fun b => Ending.returned (.bool b)) p60, h.2⟩)
  have HF := Lib.hid (fun (W : World) (h : Below w.heap.size w W) => readLimits_any l m W hl (tab_below ht h) (keepC h hm))
  rw [← hs] at HF
  generalize lmOk l = q at HF ⊢
  generalize lmB l = fb at HF ⊢
  clear ht hl hs hm p94 p126 p62 p60
  go_enter Tryz.func53, Tryz.ntmps53
  go_wp2_with fail
  refine (H94.out _).mono ?_
  rintro e w' ⟨rfl, hw⟩
  subst hw
  go_wp2_with fail
  refine (H126.out _).mono ?_
  rintro e w' ⟨rfl, hw⟩
  subst hw
  go_wp2_with fail
  refine (H62.out _).mono ?_
  rintro e w' ⟨rfl, hw⟩
  subst hw
  go_wp2_with fail
  refine (H60.out _).mono ?_
  rintro e w' ⟨rfl, hw⟩
  subst hw
  go_wp2_with fail
  refine (HF.out _ B0).mono ?_
  rintro e w4 ⟨x, y, rfl, hxy, hb4⟩
  have B4 := B0.trans (hb4.mono B0.size)
  obtain ⟨c0, c1⟩ := two_cells (keepB r0 hb4)
  have f0 := frozen2 (keepB r0 hb4) 0
  have f1 := frozen2 (keepB r0 hb4) 1
  go_wp2_with fail
  refine bodyPost_ret (v := .tuple #[.agg #[.string x, .string y], .bool q]) ?_ rfl ⟨_, _, rfl, hxy, ?_⟩
  · simp [results, Tryz.results53, go_sem, c0, c1]
  · exact below_res2 B4 (Nat.le_refl _) _ _

set_option maxRecDepth 100000 in
set_option maxHeartbeats 4000000 in
theorem alt_few (s : ByteArray) (l : List UInt8) (hs : s = ⟨l.toArray⟩) (w : World) (hl : l.length ≤ 1048000) (ht : Tab w) (hc : l.count 46 < 2) (h42 : (s.toList == [42]) = false) (p94 : ([94] : List UInt8).isPrefixOf s.data.toList = false) (p126 : ([126] : List UInt8).isPrefixOf s.data.toList = false) (p62 : ([62] : List UInt8).isPrefixOf s.data.toList = false) (p60 : ([60] : List UInt8).isPrefixOf s.data.toList = false) :
    Calls Tryz.prog 53 #[.string s] w (AltIs w (fromOk (l ++ zrs (l.count 46)) (l.count 46)) (fromB (l ++ zrs (l.count 46)) (l.count 46))) := by
  have B0 : Below w.heap.size w (w.alloc (.cells #[.string ⟨#[]⟩, .string ⟨#[]⟩] 73)) := (Below.refl _ _).alloc (Nat.le_refl _) _
  have r0 := heap_alloc_new w (.cells #[.string ⟨#[]⟩, .string ⟨#[]⟩] 73)
  have H94 : Hid (∀ W, Calls Tryz.prog 104 #[.string s, .string ⟨#[94]⟩] W fun e w' => e = .returned (.bool false) ∧ w' = W) := Lib.hid (fun W => (hasPrefix_any s ⟨#[94]⟩ W).mono fun e w' h => ⟨by rw [h.1]; exact congrArg (fun b => Ending.returned (.bool b)) p94, h.2⟩)
  have H126 : Hid (∀ W, Calls Tryz.prog 104 #[.string s, .string ⟨#[126]⟩] W fun e w' => e = .returned (.bool false) ∧ w' = W) := Lib.hid (fun W => (hasPrefix_any s ⟨#[126]⟩ W).mono fun e w' h => ⟨by rw [h.1]; exact congrArg (fun b => Ending.returned (.bool b)) p126, h.2⟩)
  have H62 : Hid (∀ W, Calls Tryz.prog 104 #[.string s, .string ⟨#[62]⟩] W fun e w' => e = .returned (.bool false) ∧ w' = W) := Lib.hid (fun W => (hasPrefix_any s ⟨#[62]⟩ W).mono fun e w' h => ⟨by rw [h.1]; exact congrArg (fun b => Ending.returned (.bool b)) p62, h.2⟩)
  have H60 : Hid (∀ W, Calls Tryz.prog 104 #[.string s, .string ⟨#[60]⟩] W fun e w' => e = .returned (.bool false) ∧ w' = W) := Lib.hid (fun W => (hasPrefix_any s ⟨#[60]⟩ W).mono fun e w' h => ⟨by rw [h.1]; exact congrArg (fun b => Ending.returned (.bool b)) p60, h.2⟩)
  have HC := Lib.hid (fun W => count_any s 46 W)
  have hcn : s.data.toList.count 46 = l.count 46 := by rw [hs]
  rw [hcn] at HC
  have hcl : l.count 46 ≤ l.length := List.count_le_length
  have HF := Lib.hid (fun (W : World) (h : Below w.heap.size w W) => readPartial_any l W hl (tab_below ht h) hc)
  rw [← hs] at HF
  generalize fromOk (l ++ zrs (l.count 46)) (l.count 46) = q at HF ⊢
  generalize fromB (l ++ zrs (l.count 46)) (l.count 46) = fb at HF ⊢
  generalize l.count 46 = cn at HC hc hcl
  clear ht hl hs hcn p94 p126 p62 p60
  go_enter Tryz.func53, Tryz.ntmps53
  go_wp2_with fail
  refine (H94.out _).mono ?_
  rintro e w' ⟨rfl, hw⟩
  subst hw
  go_wp2_with fail
  refine (H126.out _).mono ?_
  rintro e w' ⟨rfl, hw⟩
  subst hw
  go_wp2_with fail
  refine (H62.out _).mono ?_
  rintro e w' ⟨rfl, hw⟩
  subst hw
  go_wp2_with fail
  refine (H60.out _).mono ?_
  rintro e w' ⟨rfl, hw⟩
  subst hw
  go_wp2_with fail
  refine (HC.out _).mono ?_
  rintro e w' ⟨rfl, hw⟩
  subst hw
  go_wp2_with fail
  refine (HF.out _ B0).mono ?_
  rintro e w4 ⟨x, y, rfl, hxy, hb4⟩
  have B4 := B0.trans (hb4.mono B0.size)
  obtain ⟨c0, c1⟩ := two_cells (keepB r0 hb4)
  have f0 := frozen2 (keepB r0 hb4) 0
  have f1 := frozen2 (keepB r0 hb4) 1
  go_wp2_with fail
  refine bodyPost_ret (v := .tuple #[.agg #[.string x, .string y], .bool q]) ?_ rfl ⟨_, _, rfl, hxy, ?_⟩
  · simp [results, Tryz.results53, go_sem, c0, c1]
  · exact below_res2 B4 (Nat.le_refl _) _ _

set_option maxRecDepth 100000 in
set_option maxHeartbeats 4000000 in
theorem alt_many (s : ByteArray) (l : List UInt8) (hs : s = ⟨l.toArray⟩) (w : World) (hl : l.length ≤ 1048000) (ht : Tab w) (hc : ¬ l.count 46 < 2) (h42 : (s.toList == [42]) = false) (p94 : ([94] : List UInt8).isPrefixOf s.data.toList = false) (p126 : ([126] : List UInt8).isPrefixOf s.data.toList = false) (p62 : ([62] : List UInt8).isPrefixOf s.data.toList = false) (p60 : ([60] : List UInt8).isPrefixOf s.data.toList = false) :
    Calls Tryz.prog 53 #[.string s] w (AltIs w (exOk l) (l, exHigh l)) := by
  have B0 : Below w.heap.size w (w.alloc (.cells #[.string ⟨#[]⟩, .string ⟨#[]⟩] 73)) := (Below.refl _ _).alloc (Nat.le_refl _) _
  have r0 := heap_alloc_new w (.cells #[.string ⟨#[]⟩, .string ⟨#[]⟩] 73)
  have H94 : Hid (∀ W, Calls Tryz.prog 104 #[.string s, .string ⟨#[94]⟩] W fun e w' => e = .returned (.bool false) ∧ w' = W) := Lib.hid (fun W => (hasPrefix_any s ⟨#[94]⟩ W).mono fun e w' h => ⟨by rw [h.1]; exact congrArg (fun b => Ending.returned (.bool b)) p94, h.2⟩)
  have H126 : Hid (∀ W, Calls Tryz.prog 104 #[.string s, .string ⟨#[126]⟩] W fun e w' => e = .returned (.bool false) ∧ w' = W) := Lib.hid (fun W => (hasPrefix_any s ⟨#[126]⟩ W).mono fun e w' h => ⟨by rw [h.1]; exact congrArg (fun b => Ending.returned (.bool b)) p126, h.2⟩)
  have H62 : Hid (∀ W, Calls Tryz.prog 104 #[.string s, .string ⟨#[62]⟩] W fun e w' => e = .returned (.bool false) ∧ w' = W) := Lib.hid (fun W => (hasPrefix_any s ⟨#[62]⟩ W).mono fun e w' h => ⟨by rw [h.1]; exact congrArg (fun b => Ending.returned (.bool b)) p62, h.2⟩)
  have H60 : Hid (∀ W, Calls Tryz.prog 104 #[.string s, .string ⟨#[60]⟩] W fun e w' => e = .returned (.bool false) ∧ w' = W) := Lib.hid (fun W => (hasPrefix_any s ⟨#[60]⟩ W).mono fun e w' h => ⟨by rw [h.1]; exact congrArg (fun b => Ending.returned (.bool b)) p60, h.2⟩)
  have HC := Lib.hid (fun W => count_any s 46 W)
  have hcn : s.data.toList.count 46 = l.count 46 := by rw [hs]
  rw [hcn] at HC
  have hcl : l.count 46 ≤ l.length := List.count_le_length
  have HF := Lib.hid (fun (W : World) (h : Below w.heap.size w W) => rfAbove_any l W (by omega) (tab_below ht h))
  rw [← hs] at HF
  generalize exOk l = q at HF ⊢
  generalize (l, exHigh l) = fb at HF ⊢
  generalize l.count 46 = cn at HC hc hcl
  clear ht hs hcn p94 p126 p62 p60
  go_enter Tryz.func53, Tryz.ntmps53
  go_wp2_with fail
  refine (H94.out _).mono ?_
  rintro e w' ⟨rfl, hw⟩
  subst hw
  go_wp2_with fail
  refine (H126.out _).mono ?_
  rintro e w' ⟨rfl, hw⟩
  subst hw
  go_wp2_with fail
  refine (H62.out _).mono ?_
  rintro e w' ⟨rfl, hw⟩
  subst hw
  go_wp2_with fail
  refine (H60.out _).mono ?_
  rintro e w' ⟨rfl, hw⟩
  subst hw
  go_wp2_with fail
  refine (HC.out _).mono ?_
  rintro e w' ⟨rfl, hw⟩
  subst hw
  go_wp2_with fail
  refine (HF.out _ B0).mono ?_
  rintro e w4 ⟨x, y, rfl, hxy, hb4⟩
  have B4 := B0.trans (hb4.mono B0.size)
  obtain ⟨c0, c1⟩ := two_cells (keepB r0 hb4)
  have f0 := frozen2 (keepB r0 hb4) 0
  have f1 := frozen2 (keepB r0 hb4) 1
  go_wp2_with fail
  refine bodyPost_ret (v := .tuple #[.agg #[.string x, .string y], .bool q]) ?_ rfl ⟨_, _, rfl, hxy, ?_⟩
  · simp [results, Tryz.results53, go_sem, c0, c1]
  · exact below_res2 B4 (Nat.le_refl _) _ _

theorem AltIs.plain2 {l : List UInt8} {w w' : World} {e : Ending} {ok : Bool} {b : Bd} (h : altOk l = ok) (h2 : altB l = b) (hh : AltIs w ok b e w') : AltIs w (altOk l) (altB l) e w' := by subst h h2; exact hh
theorem readAlternative_any (l : List UInt8) (m : Int) (w : World) (hl : l.length ≤ 1048000) (ht : Tab w) (hm : w.cell? ⟨0, 0, none⟩ = some (.int .i64 m)) :
    Calls Tryz.prog 53 #[.string ⟨l.toArray⟩] w (AltIs w (altOk l) (altB l)) := by
  by_cases h42 : l = [42]
  · subst h42
    exact (alt_star ⟨#[42]⟩ w (by rw [ByteArray.toList_eq]; rfl)).mono fun e w' h => h.as (by unfold altOk; rw [if_pos rfl]) (by unfold altB; rw [if_pos rfl])
  obtain ⟨s, hs⟩ : ∃ s : ByteArray, s = ⟨l.toArray⟩ := ⟨_, rfl⟩
  have e42 := one42 hs h42
  have hd : s.data.toList = l := by rw [hs]
  have hz : s.size = l.length := by rw [hs]; exact size_of l
  have pf : ∀ c : UInt8, ([c] : List UInt8).isPrefixOf s.data.toList = decide (l.head? = some c) := fun c => by
    rw [hd]
    cases l with
    | nil => rfl
    | cons x y =>
      by_cases h : c = x
      · subst h; simp [List.isPrefixOf]
      · have h' : ¬ x = c := fun e => h e.symm
        have h1 : (c == x) = false := by simpa using h
        simp [List.isPrefixOf, h1, h']
  rw [← hs]
  have sl : 0 < l.length → ∀ w, (Instr.slice 9 (.string s) (some (.int .i64 1)) none none).run Tryz.prog w = .ok (.string ⟨(l.drop 1).toArray⟩) w := fun h w => by
    have := slice_from s ⟨(l.drop 1).toArray⟩ 1 1 rfl (by omega) (by have := piece_end s 1; rw [hd] at this; exact this) w
    exact this
  by_cases h94 : l.head? = some 94
  · have h0 : 0 < l.length := by cases l with | nil => simp at h94 | cons x y => simp
    refine (alt_caret' s (l.drop 1) w (by simp; omega) ht e42 (by rw [pf]; simpa using h94) (sl h0)).mono fun e w' h => AltIs.plain2 ?_ ?_ h
    · unfold altOk; rw [if_neg h42, if_pos h94]
    · unfold altB; rw [if_neg h42, if_pos h94]
  have q94 : ([94] : List UInt8).isPrefixOf s.data.toList = false := by rw [pf]; simpa using h94
  by_cases h126 : l.head? = some 126
  · have h0 : 0 < l.length := by cases l with | nil => simp at h126 | cons x y => simp
    refine (alt_tilde' s (l.drop 1) w (by simp; omega) ht e42 q94 (by rw [pf]; simpa using h126) (sl h0)).mono fun e w' h => AltIs.plain2 ?_ ?_ h
    · unfold altOk; rw [if_neg h42, if_neg h94, if_pos h126]
    · unfold altB; rw [if_neg h42, if_neg h94, if_pos h126]
  have q126 : ([126] : List UInt8).isPrefixOf s.data.toList = false := by rw [pf]; simpa using h126
  by_cases h62 : l.head? = some 62
  · exact (alt_ge s l hs w hl ht m hm e42 q94 q126 (by rw [pf]; simpa using h62)).mono fun e w' h => h.as (alt_signs (.inl h62)).1 (alt_signs (.inl h62)).2
  have q62 : ([62] : List UInt8).isPrefixOf s.data.toList = false := by rw [pf]; simpa using h62
  by_cases h60 : l.head? = some 60
  · exact (alt_lt s l hs w hl ht m hm e42 q94 q126 q62 (by rw [pf]; simpa using h60)).mono fun e w' h => h.as (alt_signs (.inr h60)).1 (alt_signs (.inr h60)).2
  have q60 : ([60] : List UInt8).isPrefixOf s.data.toList = false := by rw [pf]; simpa using h60
  by_cases hc : l.count 46 < 2
  · refine (alt_few s l hs w hl ht hc e42 q94 q126 q62 q60).mono fun e w' h => AltIs.plain2 ?_ ?_ h
    · unfold altOk; rw [if_neg h42, if_neg h94, if_neg h126, if_neg (by simp [h62, h60]), if_pos hc]
    · unfold altB; rw [if_neg h42, if_neg h94, if_neg h126, if_neg (by simp [h62, h60]), if_pos hc]
  · refine (alt_many s l hs w hl ht hc e42 q94 q126 q62 q60).mono fun e w' h => AltIs.plain2 ?_ ?_ h
    · unfold altOk; rw [if_neg h42, if_neg h94, if_neg h126, if_neg (by simp [h62, h60]), if_neg hc]
    · unfold altB; rw [if_neg h42, if_neg h94, if_neg h126, if_neg (by simp [h62, h60]), if_neg hc]
end Go.Proofs.YtongpnknmgbhjaaGreatDoor

/-
  append of a bound onto a row of the call's own.
-/
namespace Go.Proofs.YtongpnknmgbhjaaGreatDoor
open Go.RowKit

set_option maxRecDepth 100000 in
theorem run_append_bd (w : World) (ty : TypeId) (base : Nat) (v : Value) (l : List Bd) (hown : Bnds w base v l) (x : Bd) (B c : Nat) (t : TypeId) (fr : Nat × Nat)
    (hblk : w.heap[B]? = some (.cells #[sv x.1, sv x.2] t fr)) (hlen : l.length + 1 ≤ 16777216) (hbase : base ≤ w.heap.size) :
    ∃ g cap w', (Builtin.append_ #[34, 34] ty #[v, .slice (some ⟨B, 0, none⟩) 1 c]).run Tryz.prog w = .ok (.slice (some ⟨g, 0, none⟩) (l.length + 1) cap) w' ∧ Bnds w' base (.slice (some ⟨g, 0, none⟩) (l.length + 1) cap) (l ++ [x]) ∧ w.grownBy w' v.ownBlock ∧ (v.ownBlock = some g ∨ g = w.heap.size) := by
  obtain ⟨i0, hi, hz0, hz1, hz2⟩ := info_parts bndinfo
  obtain ⟨g, cap, w', hr, h2, h3, h4, _⟩ := run_append_lies (P := Tryz.prog) w 34 ty base 73 i0 (.agg #[.string ⟨#[]⟩, .string ⟨#[]⟩]) 2 32 Tryz.underlying34 hi hz0 hz1 hz2 rfl (by decide) v l.length (flat2 l) hown
    ⟨B, 0, none⟩ 1 c [sv x.1, sv x.2] (by simp) (World.news_of_block hblk) (by intro u hu; simp at hu; rcases hu with rfl | rfl <;> rfl) (by omega) (by unfold maxLen; omega) (by omega) hbase _ rfl
  refine ⟨g, cap, w', hr, ?_, h3, h4⟩
  unfold Bnds
  rw [List.length_append, flat2_app]
  exact h2
/-- append(bounds, b) at a plain region's list. -/
theorem wpList_append_bd {w : World} {ops : Array Oper} {rest : List Oper} {o : Oper} {a : Act} {Q : Exit → Act → World → Prop} (hgd : o.guard = none) (s x : Operand)
    (ho : o.op = .call { callee := .builtin .append, args := #[s, x], argTypes := #[34, 34] })
    (base : Nat) (v : Value) (l : List Bd) (hs : a.eval s = v) (hown : Bnds w base v l) (y : Bd) (B c : Nat) (t : TypeId) (fr : Nat × Nat)
    (hx : a.eval x = .slice (some ⟨B, 0, none⟩) 1 c) (hblk : w.heap[B]? = some (.cells #[sv y.1, sv y.2] t fr)) (hlen : l.length + 1 ≤ 16777216) (hbase : base ≤ w.heap.size)
    (h : ∀ g cap w', Bnds w' base (.slice (some ⟨g, 0, none⟩) (l.length + 1) cap) (l ++ [y]) → w.grownBy w' v.ownBlock → (v.ownBlock = some g ∨ g = w.heap.size) → wpList Tryz.prog ops Q rest (a.put o.dst (.slice (some ⟨g, 0, none⟩) (l.length + 1) cap)) w') : wpList Tryz.prog ops Q (o :: rest) a w := by
  refine wpList_plain hgd fun _ hK => ?_
  obtain ⟨g, cap, w', hr, h2, h3, h4⟩ := run_append_bd w o.type base v l hown y B c t fr hblk hlen hbase
  unfold Oper.wp execOp
  simp only [ho, resolve, invoke, builtin, Sem.run_bind, Sem.run_pure, Result.andThen_ok, List.map_toArray, List.map_cons, List.map_nil, hs, hx, hr]
  exact hK _ _ (h g cap w' h2 h3 h4)
theorem Bnds.empty (w : World) (base : Nat) (hb : base ≤ w.heap.size) : Bnds (w.alloc (.cells #[] 73)) base (.slice (some ⟨w.heap.size, 0, none⟩) 0 0) [] := by
  have h := World.ownsRow_lit (base := base) (e := 73) (size := 2) w #[] 0 hb (by unfold maxLen; omega) (by simp)
  simpa [Bnds, flat2] using h
theorem Bnds.slice {w : World} {base : Nat} {v : Value} {l : List Bd} (h : Bnds w base v l) : ∃ A c, v = .slice A l.length c := by
  rcases h.form with ⟨rfl, rfl⟩ | ⟨g, cap, rfl, _, _⟩
  · exact ⟨_, _, rfl⟩
  · exact ⟨_, _, rfl⟩
end Go.Proofs.YtongpnknmgbhjaaGreatDoor

/-
  spec.ReadRange, impl.ReadRange: the bounds of a text.
-/
namespace Go.Proofs.YtongpnknmgbhjaaGreatDoor
open Go.RowKit

theorem splitK_mem (sep : List UInt8) : ∀ (k : Nat) (s : List UInt8), ∀ x ∈ Lib.splitK sep 0 k s, x.length ≤ s.length
  | 0, s, x, h => by simp [Lib.splitK] at h; simp [h]
  | k + 1, s, x, h => by
    unfold Lib.splitK at h
    split at h
    · simp at h; simp [h]
    · rcases List.mem_cons.1 h with rfl | h
      · simp; omega
      · have := splitK_mem sep k _ x h
        simp at this; omega
theorem rgPs_mem (l : List UInt8) : ∀ x ∈ rgPs l, x.length ≤ l.length := fun x hx => splitK_mem orSep _ l x hx
theorem splitK_len (sep : List UInt8) : ∀ (k : Nat) (s : List UInt8), (Lib.splitK sep 0 k s).length ≤ k + 1
  | 0, s => by simp [Lib.splitK]
  | k + 1, s => by
    unfold Lib.splitK
    split
    · simp
    · have := splitK_len sep k (s.drop ((Lib.index s sep).toNat + sep.length))
      simp; omega
theorem rg_no1 {l : List UInt8} (h : ¬ l.length ≤ 200) : rgOk l = false := by unfold rgOk; rw [decide_eq_false h]; rfl
theorem rg_no2 {l : List UInt8} (h : ¬ (rgPs l).length ≤ 8) : rgOk l = false := by unfold rgOk; rw [decide_eq_false h]; simp
theorem rg_no3 {l : List UInt8} (k : Nat) (hk : k < (rgPs l).length) (h : altOk (rgPs l)[k] = false) : rgOk l = false := by
  unfold rgOk
  have : (rgPs l).all altOk = false := by
    rw [Bool.eq_false_iff]; intro ha
    have := List.all_eq_true.1 ha _ (List.getElem_mem hk)
    rw [h] at this; cases this
  rw [this]; simp
theorem rg_yes {l : List UInt8} (h1 : l.length ≤ 200) (h2 : (rgPs l).length ≤ 8) (h3 : (rgPs l).all altOk = true) : rgOk l = true := by unfold rgOk; simp [h1, h2]; simpa using h3
/-- What ReadRange hands back. -/
def RgIs (w : World) (l : List UInt8) (e : Ending) (w' : World) : Prop := ∃ u, e = .returned (.tuple #[u, .bool (rgOk l)]) ∧ Bnds w' w.heap.size u (rgB l) ∧ Below w.heap.size w w'
theorem rgIs_bad {w w' : World} {l : List UInt8} {u : Value} (h : rgOk l = false) (hS : Bnds w' w.heap.size u []) (hb : Below w.heap.size w w') : RgIs w l (.returned (.tuple #[u, .bool false])) w' :=
  ⟨u, by rw [h], by unfold rgB; rw [if_neg (by rw [h]; simp)]; exact hS, hb⟩
theorem rgIs_good {w w' : World} {l : List UInt8} {u : Value} (h : rgOk l = true) (hS : Bnds w' w.heap.size u ((rgPs l).map altB)) (hb : Below w.heap.size w w') : RgIs w l (.returned (.tuple #[u, .bool true])) w' :=
  ⟨u, by rw [h], by unfold rgB; rw [if_pos h]; exact hS, hb⟩
theorem Bnds.emptyAt (W : World) (base n : Nat) (hn : W.heap.size = n) (hb : base ≤ n) : Bnds (W.alloc (.cells #[] 73)) base (.slice (some ⟨n, 0, none⟩) 0 0) [] := by subst hn; exact Bnds.empty W base hb
theorem own_some {g : Nat} {n c : Nat} : ∀ b, (Value.slice (some ⟨g, 0, none⟩) n c).ownBlock = some b → b = g := fun b h => by simp [Value.ownBlock] at h; exact h.symm

theorem rds_alloc2 {w : World} {base : Nat} {v : Value} {l : List (List UInt8)} (h : Strs w base v l) (o1 o2 : Obj) : Strs ((w.alloc o1).alloc o2) base v l := (h.alloc o1).alloc o2

set_option maxRecDepth 100000 in
set_option maxHeartbeats 4000000 in
theorem specReadRange_any (l : List UInt8) (w : World) (hl : l.length ≤ 1048576) :
    Calls Tryz.prog 15 #[.string ⟨l.toArray⟩] w (RgIs w l) := by
  obtain ⟨s, hs⟩ : ∃ s : ByteArray, s = ⟨l.toArray⟩ := ⟨_, rfl⟩
  have hd : s.data.toList = l := by rw [hs]
  have hz : s.size = l.length := by rw [hs]; exact size_of l
  have HP := Lib.hid (fun (W : World) => l03Parts_any s W (by omega))
  rw [hd] at HP
  rw [← hs]
  have HMEM := Lib.hid (rgPs_mem l)
  have hpl : (rgPs l).length ≤ l.length + 1 + 1048576 := by
    have := splitK_len orSep (Lib.count l orSep) l
    have h2 : Lib.count l orSep ≤ l.length := by
      have := Lib.countB_le ⟨#[32, 124, 124, 32]⟩ (by decide) s.size s (Nat.le_refl _)
      rw [hz] at this
      have e : Lib.countB s ⟨#[32, 124, 124, 32]⟩ = Lib.count l orSep := by rw [← hd]; rfl
      rw [e] at this; exact this
    unfold rgPs Lib.split; omega
  have HN1 := Lib.hid (fun h => rg_no1 (l := l) h)
  have HN2 := Lib.hid (fun h => rg_no2 (l := l) h)
  have HN3 := Lib.hid (fun (k : Nat) (hk : k < (rgPs l).length) h => rg_no3 (l := l) k hk h)
  have HY := Lib.hid (fun h1 h2 h3 => rg_yes (l := l) h1 h2 h3)
  have HB1 := Lib.hid (fun (w' : World) (u : Value) (h : rgOk l = false) (hS : Bnds w' w.heap.size u []) (hb : Below w.heap.size w w') => rgIs_bad h hS hb)
  have HB2 := Lib.hid (fun (w' : World) (u : Value) (h : rgOk l = true) (hS : Bnds w' w.heap.size u ((rgPs l).map altB)) (hb : Below w.heap.size w w') => rgIs_good h hS hb)
  have hL : l.length = s.size := hz.symm
  rw [hL] at HMEM HN1 HY hpl hl
  generalize rgPs l = ps at HP HMEM HN2 HN3 HY HB2 hpl
  generalize rgOk l = ok at HN1 HN2 HN3 HY HB1 HB2
  generalize RgIs w l = RI at HB1 HB2 ⊢
  clear hs hd hz hL
  have B1 : Below w.heap.size w (w.alloc (.cells #[] 73)) := (Below.refl _ _).alloc (Nat.le_refl _) _
  have hown := Bnds.empty w w.heap.size (Nat.le_refl _)
  by_cases hbig : 200 < s.size
  · go_enter Tryz.func15, Tryz.ntmps15
    go_wp2_with fail
    refine (HP.out _).mono ?_
    rintro e w1 ⟨g, cap, rfl, hS, hb1⟩
    go_wp2_with fail
    exact HB1.out _ _ (HN1.out (by omega)) (hown.below hb1) (B1.trans (hb1.mono B1.size))
  by_cases h8 : 8 < ps.length
  · go_enter Tryz.func15, Tryz.ntmps15
    go_wp2_with fail
    refine (HP.out _).mono ?_
    rintro e w1 ⟨g, cap, rfl, hS, hb1⟩
    go_wp2_with fail
    exact HB1.out _ _ (HN2.out (by omega)) (hown.below hb1) (B1.trans (hb1.mono B1.size))
  have HA := Lib.hid (fun (k : Nat) (hk : k < ps.length) (W : World) => l03Part_any ps[k] W (by have := HMEM.out _ (List.getElem_mem hk); omega))
  go_enter Tryz.func15, Tryz.ntmps15
  go_wp2_with fail
  refine (HP.out _).mono ?_
  rintro e w1 ⟨g, cap, rfl, hS, hb1⟩
  have hgw : w.heap.size < g := by have := hS.lo; simp at this; omega
  have B2 := B1.trans (hb1.mono B1.size)
  have hown2 := hown.below hb1
  clear hb1 B1 hown HP
  go_wp2_with fail
  go_loopw [4, 6] (fun v i wr => ∃ k : Nat, k ≤ ps.length ∧ i = .int .i64 k ∧ Bnds wr w.heap.size v ((ps.take k).map altB) ∧ (∀ b, v.ownBlock = some b → b ≠ g) ∧ Hid ((ps.take k).all altOk = true) ∧ Strs wr (w.heap.size + 1) (.slice (some ⟨g, 0, none⟩) ps.length cap) ps ∧ Below w.heap.size w wr) (fun _ i _ => ps.length - (intOf i).toNat)
  case atStart => exact ⟨0, Nat.zero_le _, rfl, by simpa using hown2, fun b hb => by have := own_some b hb; omega, Lib.hid rfl, by simpa using hS, B2⟩
  case round =>
    obtain ⟨k, hk, rfl, hB, hne, HAL, hSr, hb⟩ := hrel
    clear hS hown2 B2
    obtain ⟨V, vc, rfl⟩ := hB.slice
    have hlen : ((ps.take k).map altB).length = k := by simp; omega
    rw [hlen] at hB hne
    by_cases hlt : k < ps.length
    · have d := hSr.cell k hlt
      have k0 : (0 : Int) ≤ (k : Int) := by omega
      have k1 : (k : Int) < (ps.length : Int) := by omega
      have HAK := Lib.hid (fun (W : World) => HA.out k hlt W)
      have HX3 := Lib.hid (HN3.out k hlt)
      have HTK : Hid ((ps.take (k + 1)).map altB = (ps.take k).map altB ++ [altB ps[k]]) := Lib.hid (by rw [List.take_succ_eq_append_getElem hlt, List.map_append]; rfl)
      have HAS : Hid (altOk ps[k] = true → (ps.take (k + 1)).all altOk = true) := Lib.hid (fun h => by rw [List.take_succ_eq_append_getElem hlt, List.all_append, HAL.out]; simp [h])
      generalize altOk ps[k] = ak at HAK HX3 HAS
      generalize altB ps[k] = ab at HAK HTK
      clear HN3 HA
      rw [hlen]
      cases ak with
      | false =>
        go_wp2_with fail
        refine (HAK.out _).mono ?_
        rintro e w3 ⟨x, y, rfl, hxy, hb3⟩
        have B3 := hb.trans (hb3.mono hb.size)
        have B4 := B3.alloc B3.size (.cells #[.string x, .string y] 73)
        go_wp2_with fail
        exact HB1.out _ _ (HX3.out (by trivial)) (Bnds.emptyAt _ _ _ (by simp) (by have := B3.size; omega)) (B4.alloc B4.size _)
      | true =>
        go_wp2_with fail
        refine (HAK.out _).mono ?_
        rintro e w3 ⟨x, y, rfl, hxy, hb3⟩
        obtain ⟨rfl, rfl⟩ := hxy rfl
        have B3 := hb.trans (hb3.mono hb.size)
        have hB3 := hB.below hb3
        have hS3 := hSr.below hb3
        clear hb3 hb hB hSr hxy d
        go_wp2_with (at_builtin; refine wpList_append_bd rfl _ _ rfl w.heap.size _ ((ps.take k).map altB) rfl ((hB3.alloc _).alloc _) ab (w3.heap.size + 1) _ _ _ rfl (heap_new (by simp) _) (by rw [hlen]; omega) (by have := B3.size; simp; omega) ?_; intro g5 cap5 w5 hown5 hb5 hor5)
        have B5 := ((B3.alloc B3.size (.cells #[.string ⟨ab.1.toArray⟩, .string ⟨ab.2.toArray⟩] 73)).alloc (by have := B3.size; simp; omega) (.cells #[.string ⟨ab.1.toArray⟩, .string ⟨ab.2.toArray⟩] 73))
        have B6 := gr_belowN B5 hb5 B5.size (fun b hb => hB3.owned b hb)
        have hS5 := (((rds_alloc2 hS3 _ _)).grown hb5 (fun b hbb e => hne b e.symm (by have := own_some b hbb; exact this)))
        have hg5 : ∀ b, (Value.slice (some ⟨g5, 0, none⟩) (k + 1) cap5).ownBlock = some b → b ≠ g := fun b hbb e => by
          have e1 := own_some b hbb
          rcases hor5 with h5 | h5
          · exact hne g5 h5 (by omega)
          · have hg3 := hS3.block_lt g rfl
            simp at h5; omega
        clear hb5 hor5 B5 B3 hB3 hS3 hne
        go_wp2_with fail
        go_roundw
        case rel => exact ⟨k + 1, by omega, by go_num, by rw [HTK.out]; rw [hlen] at hown5; exact hown5, hg5, Lib.hid (HAS.out (by trivial)), hS5, B6⟩
        case measure => simp [intOf]; omega
    · obtain rfl : k = ps.length := by omega
      have HFIN := Lib.hid (HAL.out)
      rw [List.take_length] at HFIN hB
      go_wp2_with fail
      exact HB2.out _ _ (HY.out (by omega) (by omega) HFIN.out) (by rw [hlen]; exact hB) hb

set_option maxRecDepth 100000 in
set_option maxHeartbeats 4000000 in
theorem implReadRange_any (l : List UInt8) (m : Int) (w : World) (hl : l.length ≤ 1048576) (ht : Tab w) (hm : w.cell? ⟨0, 0, none⟩ = some (.int .i64 m)) :
    Calls Tryz.prog 16 #[.string ⟨l.toArray⟩] w (RgIs w l) := by
  obtain ⟨s, hs⟩ : ∃ s : ByteArray, s = ⟨l.toArray⟩ := ⟨_, rfl⟩
  have hd : s.data.toList = l := by rw [hs]
  have hz : s.size = l.length := by rw [hs]; exact size_of l
  have HP := Lib.hid (fun (W : World) (h : Below w.heap.size w W) => split_any s m W (by omega) (keepC h hm))
  rw [hd] at HP
  rw [← hs]
  have HMEM := Lib.hid (rgPs_mem l)
  have hpl : (rgPs l).length ≤ l.length + 1 + 1048576 := by
    have := splitK_len orSep (Lib.count l orSep) l
    have h2 : Lib.count l orSep ≤ l.length := by
      have := Lib.countB_le ⟨#[32, 124, 124, 32]⟩ (by decide) s.size s (Nat.le_refl _)
      rw [hz] at this
      have e : Lib.countB s ⟨#[32, 124, 124, 32]⟩ = Lib.count l orSep := by rw [← hd]; rfl
      rw [e] at this; exact this
    unfold rgPs Lib.split; omega
  have HN1 := Lib.hid (fun h => rg_no1 (l := l) h)
  have HN2 := Lib.hid (fun h => rg_no2 (l := l) h)
  have HN3 := Lib.hid (fun (k : Nat) (hk : k < (rgPs l).length) h => rg_no3 (l := l) k hk h)
  have HY := Lib.hid (fun h1 h2 h3 => rg_yes (l := l) h1 h2 h3)
  have HB1 := Lib.hid (fun (w' : World) (u : Value) (h : rgOk l = false) (hS : Bnds w' w.heap.size u []) (hb : Below w.heap.size w w') => rgIs_bad h hS hb)
  have HB2 := Lib.hid (fun (w' : World) (u : Value) (h : rgOk l = true) (hS : Bnds w' w.heap.size u ((rgPs l).map altB)) (hb : Below w.heap.size w w') => rgIs_good h hS hb)
  have hL : l.length = s.size := hz.symm
  rw [hL] at HMEM HN1 HY hpl hl
  generalize rgPs l = ps at HP HMEM HN2 HN3 HY HB2 hpl
  generalize rgOk l = ok at HN1 HN2 HN3 HY HB1 HB2
  generalize RgIs w l = RI at HB1 HB2 ⊢
  clear hs hd hz hL
  by_cases hbig : 200 < s.size
  · have B1 : Below w.heap.size w (w.alloc (.cells #[] 73)) := (Below.refl _ _).alloc (Nat.le_refl _) _
    have hown := Bnds.empty w w.heap.size (Nat.le_refl _)
    go_enter Tryz.func16, Tryz.ntmps16
    go_wp2_with fail
    exact HB1.out _ _ (HN1.out (by omega)) hown B1
  have HA := Lib.hid (fun (k : Nat) (hk : k < ps.length) (W : World) (h : Below w.heap.size w W) => readAlternative_any ps[k] m W (by have := HMEM.out _ (List.getElem_mem hk); omega) (tab_below ht h) (keepC h hm))
  have B1 : Below w.heap.size w (w.alloc (.cells #[] 73)) := (Below.refl _ _).alloc (Nat.le_refl _) _
  have hown := Bnds.empty w w.heap.size (Nat.le_refl _)
  clear ht hm
  go_enter Tryz.func16, Tryz.ntmps16
  go_wp2_with fail
  refine (HP.out _ B1).mono ?_
  rintro e w1 ⟨g, cap, rfl, hS, hb1⟩
  have hgw : w.heap.size < g := by have := hS.lo; simp at this; omega
  have B2 := B1.trans (hb1.mono B1.size)
  have hown2 := hown.below hb1
  clear hb1 B1 hown HP
  go_wp2_with fail
  go_loopw [4, 17] (fun v i wr => ∃ k : Nat, k ≤ ps.length ∧ i = .int .i64 k ∧ Bnds wr w.heap.size v ((ps.take k).map altB) ∧ (∀ b, v.ownBlock = some b → b ≠ g) ∧ Hid ((ps.take k).all altOk = true) ∧ Strs wr (w.heap.size + 1) (.slice (some ⟨g, 0, none⟩) ps.length cap) ps ∧ Below w.heap.size w wr ∧ k ≤ 8) (fun _ i _ => ps.length - (intOf i).toNat)
  case atStart => exact ⟨0, Nat.zero_le _, rfl, by simpa using hown2, fun b hb => by have := own_some b hb; omega, Lib.hid rfl, by simpa using hS, B2, by omega⟩
  case round =>
    obtain ⟨k, hk, rfl, hB, hne, HAL, hSr, hb, hk8⟩ := hrel
    clear hS hown2 B2
    obtain ⟨V, vc, rfl⟩ := hB.slice
    have hlen : ((ps.take k).map altB).length = k := by simp; omega
    rw [hlen] at hB hne
    by_cases hlt : k < ps.length
    · have d := hSr.cell k hlt
      have k0 : (0 : Int) ≤ (k : Int) := by omega
      have k1 : (k : Int) < (ps.length : Int) := by omega
      have HAK := Lib.hid (fun (W : World) (h : Below w.heap.size w W) => HA.out k hlt W h)
      have HX3 := Lib.hid (HN3.out k hlt)
      have HTK : Hid ((ps.take (k + 1)).map altB = (ps.take k).map altB ++ [altB ps[k]]) := Lib.hid (by rw [List.take_succ_eq_append_getElem hlt, List.map_append]; rfl)
      have HAS : Hid (altOk ps[k] = true → (ps.take (k + 1)).all altOk = true) := Lib.hid (fun h => by rw [List.take_succ_eq_append_getElem hlt, List.all_append, HAL.out]; simp [h])
      generalize altOk ps[k] = ak at HAK HX3 HAS
      generalize altB ps[k] = ab at HAK HTK
      clear HN3 HA
      rw [hlen]
      cases ak with
      | false =>
        go_wp2_with fail
        refine (HAK.out _ hb).mono ?_
        rintro e w3 ⟨x, y, rfl, hxy, hb3⟩
        have B3 := hb.trans (hb3.mono hb.size)
        have B4 := B3.alloc B3.size (.cells #[.string x, .string y] 73)
        go_wp2_with fail
        exact HB1.out _ _ (HX3.out (by trivial)) (Bnds.emptyAt _ _ _ (by simp) (by have := B3.size; omega)) (B4.alloc B4.size _)
      | true =>
        by_cases hk9 : k = 8
        · have HX8 : Hid (ok = false) := Lib.hid (HN2.out (by omega))
          have b8 : ((k : Int) == 8) = true := by rw [hk9]; rfl
          have HK9 := Lib.hid hk9
          clear hk9
          go_wp2_with fail
          refine (HAK.out _ hb).mono ?_
          rintro e w3 ⟨x, y, rfl, hxy, hb3⟩
          obtain ⟨rfl, rfl⟩ := hxy rfl
          have B3 := hb.trans (hb3.mono hb.size)
          have B4 := B3.alloc B3.size (.cells #[.string ⟨ab.1.toArray⟩, .string ⟨ab.2.toArray⟩] 73)
          go_wp2_with fail
          exact HB1.out _ _ HX8.out (Bnds.emptyAt _ _ _ (by simp) (by have := B3.size; omega)) (B4.alloc B4.size _)
        have b8 : ((k : Int) == 8) = false := int_beq_false (by omega)
        go_wp2_with fail
        refine (HAK.out _ hb).mono ?_
        rintro e w3 ⟨x, y, rfl, hxy, hb3⟩
        obtain ⟨rfl, rfl⟩ := hxy rfl
        have B3 := hb.trans (hb3.mono hb.size)
        have hB3 := hB.below hb3
        have hS3 := hSr.below hb3
        clear hb3 hb hB hSr hxy d
        go_wp2_with (at_builtin; refine wpList_append_bd rfl _ _ rfl w.heap.size _ ((ps.take k).map altB) rfl ((hB3.alloc _).alloc _) ab (w3.heap.size + 1) _ _ _ rfl (heap_new (by simp) _) (by rw [hlen]; omega) (by have := B3.size; simp; omega) ?_; intro g5 cap5 w5 hown5 hb5 hor5)
        have B5 := ((B3.alloc B3.size (.cells #[.string ⟨ab.1.toArray⟩, .string ⟨ab.2.toArray⟩] 73)).alloc (by have := B3.size; simp; omega) (.cells #[.string ⟨ab.1.toArray⟩, .string ⟨ab.2.toArray⟩] 73))
        have B6 := gr_belowN B5 hb5 B5.size (fun b hb => hB3.owned b hb)
        have hS5 := (((rds_alloc2 hS3 _ _)).grown hb5 (fun b hbb e => hne b e.symm (by have := own_some b hbb; exact this)))
        have hg5 : ∀ b, (Value.slice (some ⟨g5, 0, none⟩) (k + 1) cap5).ownBlock = some b → b ≠ g := fun b hbb e => by
          have e1 := own_some b hbb
          rcases hor5 with h5 | h5
          · exact hne g5 h5 (by omega)
          · have hg3 := hS3.block_lt g rfl
            simp at h5; omega
        clear hb5 hor5 B5 B3 hB3 hS3 hne
        go_wp2_with fail
        go_roundw
        case rel => exact ⟨k + 1, by omega, by go_num, by rw [HTK.out]; rw [hlen] at hown5; exact hown5, hg5, Lib.hid (HAS.out (by trivial)), hS5, B6, by omega⟩
        case measure => simp [intOf]; omega
    · obtain rfl : k = ps.length := by omega
      have HFIN := Lib.hid (HAL.out)
      rw [List.take_length] at HFIN hB
      go_wp2_with fail
      exact HB2.out _ _ (HY.out (by omega) (by omega) HFIN.out) (by rw [hlen]; exact hB) hb
end Go.Proofs.YtongpnknmgbhjaaGreatDoor

/-
  The laws' own helper markText: a mark's text.
-/
namespace Go.Proofs.YtongpnknmgbhjaaGreatDoor
open Go.RowKit

/-- The k-th mark. -/
def mt (k : Nat) : List UInt8 := 109 :: Lib.decDigits k
theorem dig_val (v : Nat) : bv (digC (v % 10)) = .int .u8 (48 + (v : Int) % 10) := by
  have h : ∀ d : Nat, d < 10 → bv (digC d) = .int .u8 (48 + (d : Int)) := by
    intro d hd
    unfold bv digC
    congr 1
    simp
    omega
  rw [h _ (by omega)]
  congr 1

set_option maxRecDepth 100000 in
set_option maxHeartbeats 1000000 in
theorem markText_any (u : Nat) (w : World) (h1 : 1 ≤ u) (h2 : u ≤ 100000000) :
    Calls Tryz.prog 55 #[.int .i64 (u : Int)] w fun e w' => e = .returned (.string ⟨(mt u).toArray⟩) ∧ Below w.heap.size w w' := by
  go_enter Tryz.func55, Tryz.ntmps55
  go_wp2
  go_loopw [0, 3] (fun m o wr => ∃ (v : Nat) (l : List UInt8), o = .string ⟨l.toArray⟩ ∧ m = .int .i64 (v : Int) ∧ v ≤ u ∧ DecAt u v l ∧ Below w.heap.size w wr) (fun m _ _ => (intOf m).toNat)
  case atStart => exact ⟨u, [], rfl, rfl, Nat.le_refl _, decAt_start u (by omega), Below.refl _ _⟩
  case round =>
    obtain ⟨v, l, rfl, rfl, hvu, H, hb⟩ := hrel
    have hl := decAt_len H (by omega)
    by_cases hv : v = 0
    · subst hv
      obtain rfl := decAt_end H
      clear H
      go_wp2
      go_ret
      exact ⟨congrArg Ending.returned (str_cons _ _), hb⟩
    · have HN := Lib.hid (decAt_step H (by omega))
      have hpos : (0 : Int) < (v : Int) := by omega
      have hcv := (Buf.lit wr w.heap.size [digC (v % 10)] hb.size (by simp)).conv
      have hdv := dig_val v
      simp only [List.map_cons, List.map_nil, hdv, List.length_cons, List.length_nil, Nat.zero_add] at hcv
      clear hdv H hv
      go_wp2
      go_roundw
      case rel => exact ⟨v / 10, _, str_cons _ _, by go_num, by omega, HN.out, hb.alloc hb.size _⟩
      case measure => simp [intOf]; omega
end Go.Proofs.YtongpnknmgbhjaaGreatDoor

/-
  Lists of pairs of marks.
-/
namespace Go.Proofs.YtongpnknmgbhjaaGreatDoor

theorem flat2_setLo : ∀ (l : List Bd) (k : Nat) (y : List UInt8) (h : k < l.length), (flat2 l).set (k * 2) (sv y) = flat2 (l.set k (y, l[k].2))
  | [], k, y, h => by simp at h
  | a :: t, 0, y, _ => by simp [flat2]
  | a :: t, k + 1, y, h => by
    have := flat2_setLo t k y (by simpa using h)
    rw [show (k + 1) * 2 = k * 2 + 2 by omega]
    simp [flat2, this]
theorem flat2_setHi : ∀ (l : List Bd) (k : Nat) (y : List UInt8) (h : k < l.length), (flat2 l).set (k * 2 + 1) (sv y) = flat2 (l.set k (l[k].1, y))
  | [], k, y, h => by simp at h
  | a :: t, 0, y, _ => by simp [flat2]
  | a :: t, k + 1, y, h => by
    have := flat2_setHi t k y (by simpa using h)
    rw [show (k + 1) * 2 + 1 = k * 2 + 1 + 2 by omega]
    simp [flat2, this]
/-- The first k bounds marked from s on. -/
def mkB (s k : Nat) (bs : List Bd) : List Bd := (List.range k).map (fun i => (mt (s + 2 * i), mt (s + 2 * i + 1))) ++ bs.drop k
theorem mkB_len (s k : Nat) (bs : List Bd) (h : k ≤ bs.length) : (mkB s k bs).length = bs.length := by simp [mkB]; omega
theorem mkB_zero (s : Nat) (bs : List Bd) : mkB s 0 bs = bs := by simp [mkB]
theorem mkB_set (s k : Nat) (bs : List Bd) (h : k < bs.length) (x : Bd) : ((mkB s k bs).set k x).set k (mt (s + 2 * k), mt (s + 2 * k + 1)) = mkB s (k + 1) bs := by
  apply List.ext_getElem
  · simp [mkB]; omega
  · intro i h1 h2
    simp only [List.set_set]
    rw [List.getElem_set]
    by_cases hi : k = i
    · subst hi
      simp [mkB]
    · rw [if_neg hi]
      simp only [mkB, List.getElem_append, List.length_map, List.length_range]
      by_cases hlt : i < k
      · rw [dif_pos hlt, dif_pos (by omega)]
        simp
      · rw [dif_neg hlt, dif_neg (by omega)]
        simp only [List.getElem_drop]
        congr 1
        omega

theorem mkB_get (s : Nat) (bs : List Bd) (k : Nat) (_h : k < bs.length) (hX : k < (mkB s bs.length bs).length) : (mkB s bs.length bs)[k] = (mt (s + 2 * k), mt (s + 2 * k + 1)) := by
  simp [mkB]
end Go.Proofs.YtongpnknmgbhjaaGreatDoor

/-
  The laws' own helpers on lists of bounds: markBoundS writes marks over each field.
-/
namespace Go.Proofs.YtongpnknmgbhjaaGreatDoor
open Go.RowKit

theorem Bnds.setLo {w : World} {base g cap : Nat} {l : List Bd} (h : Bnds w base (.slice (some ⟨g, 0, none⟩) l.length cap) l) (k : Nat) (hk : k < l.length) (y : List UInt8) :
    Bnds (w.setCell ⟨g, k * 2, none⟩ (sv y)) base (.slice (some ⟨g, 0, none⟩) l.length cap) (l.set k (y, l[k].2)) := by
  unfold Bnds at h ⊢
  rw [List.length_set, ← flat2_setLo]
  exact (World.ownsRow.stored h (k * 2) (sv y)).1
theorem Bnds.setHi {w : World} {base g cap : Nat} {l : List Bd} (h : Bnds w base (.slice (some ⟨g, 0, none⟩) l.length cap) l) (k : Nat) (hk : k < l.length) (y : List UInt8) :
    Bnds (w.setCell ⟨g, k * 2 + 1, none⟩ (sv y)) base (.slice (some ⟨g, 0, none⟩) l.length cap) (l.set k (l[k].1, y)) := by
  unfold Bnds at h ⊢
  rw [List.length_set, ← flat2_setHi]
  exact (World.ownsRow.stored h (k * 2 + 1) (sv y)).1
theorem Bnds.grown {w w' : World} {base : Nat} {v : Value} {l : List Bd} {row : Option Nat} (h : Bnds w base v l) (hg : w.grownBy w' row) (hne : ∀ g, v.ownBlock = some g → some g ≠ row) : Bnds w' base v l := by
  rcases h.form with ⟨rfl, rfl⟩ | ⟨g, cap, rfl, _, _⟩
  · exact ⟨by simp [flat2], .inl ⟨rfl, rfl⟩⟩
  · exact World.ownsRow.kept h hg (.inr (fun e => hne g rfl (by rw [← e]; rfl)))

set_option maxRecDepth 100000 in
set_option maxHeartbeats 2000000 in
theorem markBoundS_gr (w : World) (base g cap s : Nat) (bs : List Bd) (h : Bnds w base (.slice (some ⟨g, 0, none⟩) bs.length cap) bs) (hl : bs.length ≤ 2000000) (s1 : 1 ≤ s) (s2 : s ≤ 2000001) :
    Calls Tryz.prog 18 #[.slice (some ⟨g, 0, none⟩) bs.length cap, .int .i64 (s : Int)] w fun e w' => e = .returned (.int .i64 ((s + 2 * bs.length : Nat) : Int)) ∧ Bnds w' base (.slice (some ⟨g, 0, none⟩) bs.length cap) (mkB s bs.length bs) ∧ w.grownBy w' (some g) := by
  obtain ⟨E, HE⟩ : ∃ E, Hid (s + 2 * bs.length = E) := ⟨_, Lib.hid rfl⟩
  rw [HE.out]
  go_enter Tryz.func18, Tryz.ntmps18
  go_wp2
  go_loopw [1, 5] (fun u i wr => ∃ k U : Nat, k ≤ bs.length ∧ Hid (U = s + 2 * k) ∧ i = .int .i64 k ∧ u = .int .i64 (U : Int) ∧ Bnds wr base (.slice (some ⟨g, 0, none⟩) bs.length cap) (mkB s k bs) ∧ w.grownBy wr (some g)) (fun _ i _ => bs.length - (intOf i).toNat)
  case atStart => exact ⟨0, s, Nat.zero_le _, Lib.hid (by omega), rfl, rfl, by rw [mkB_zero]; exact h, World.grownBy.refl w _⟩
  case round =>
    obtain ⟨k, U, hk, HU, rfl, rfl, hS, hb⟩ := hrel
    have u1 : 1 ≤ U := by have := HU.out; omega
    have u2 : U ≤ 10000000 := by have := HU.out; omega
    by_cases hlt : k < bs.length
    · have k0 : (0 : Int) ≤ (k : Int) := by omega
      have k1 : (k : Int) < (bs.length : Int) := by omega
      have HML := Lib.hid (mkB_len s k bs hk)
      have HMS := Lib.hid (mkB_set s k bs hlt)
      obtain ⟨X, HX⟩ : ∃ X, Hid (mkB s k bs = X) := ⟨_, Lib.hid rfl⟩
      rw [HX.out] at hS
      have hXl : Hid (X.length = bs.length) := Lib.hid (by rw [← HX.out]; exact HML.out)
      have hkX : k < X.length := by rw [hXl.out]; exact hlt
      clear h
      go_wp2_with fail
      refine (markText_any U wr (by omega) (by omega)).mono ?_
      rintro e w2 ⟨rfl, hb2⟩
      have hS2 := hS.below hb2
      rw [← hXl.out] at hS2
      obtain ⟨c2, _⟩ := hS2.cell k hkX
      have f2 : w2.frozen? ⟨g, k * 2, none⟩ = false := World.ownsRow.frozenAt hS2 (k * 2)
      have B2 := gr_trans hb (gr_below hb2)
      have hS3 := hS2.setLo k hkX (mt U)
      have B3 := gr_trans B2 (gr_set w2 g (k * 2) (sv (mt U)))
      go_wp2_with fail
      refine (markText_any (U + 1) _ (by omega) (by omega)).mono ?_
      rintro e w4 ⟨rfl, hb4⟩
      have hS4 := hS3.below hb4
      have B4 := gr_trans B3 (gr_below hb4)
      have hS4' : Bnds w4 base (.slice (some ⟨g, 0, none⟩) (X.set k (mt U, X[k].2)).length cap) (X.set k (mt U, X[k].2)) := by rw [List.length_set]; exact hS4
      have hk4 : k < (X.set k (mt U, X[k].2)).length := by rw [List.length_set]; exact hkX
      obtain ⟨_, c4⟩ := hS4.cell k hk4
      have f4 : w4.frozen? ⟨g, k * 2 + 1, none⟩ = false := World.ownsRow.frozenAt hS4' (k * 2 + 1)
      have hS5 := hS4'.setHi k hk4 (mt (U + 1))
      have B5 := gr_trans B4 (gr_set w4 g (k * 2 + 1) (sv (mt (U + 1))))
      have HF : Hid ((X.set k (mt U, X[k].2)).set k ((X.set k (mt U, X[k].2))[k].1, mt (U + 1)) = mkB s (k + 1) bs) := Lib.hid (by
        have := HMS.out (mt U, X[k].2)
        rw [HX.out, ← HU.out] at this
        simpa using this)
      rw [HF.out, List.length_set, hXl.out] at hS5
      clear hS hS2 hS3 hS4 hS4' B2 B3 B4 hb2 hb4
      go_wp2_with fail
      go_roundw
      case rel => exact ⟨k + 1, U + 2, by omega, Lib.hid (by have := HU.out; omega), by go_num, by go_num, hS5, B5⟩
      case measure => simp [intOf]; omega
    · obtain rfl : k = bs.length := by omega
      have HUE : Hid (U = E) := Lib.hid (by rw [HU.out, HE.out])
      clear h
      go_wp2_with fail
      go_ret
      exact ⟨by rw [← HUE.out]; rfl, hS, hb⟩

set_option maxRecDepth 100000 in
set_option maxHeartbeats 1000000 in
theorem markB_gr (w : World) (base s : Nat) (v : Value) (bs : List Bd) (h : Bnds w base v bs) (hl : bs.length ≤ 2000000) (s1 : 1 ≤ s) (s2 : s ≤ 2000001) :
    Calls Tryz.prog 18 #[v, .int .i64 (s : Int)] w fun e w' => e = .returned (.int .i64 ((s + 2 * bs.length : Nat) : Int)) ∧ Bnds w' base v (mkB s bs.length bs) ∧ w.grownBy w' v.ownBlock := by
  rcases h.form with ⟨rfl, rfl⟩ | ⟨g, cap, rfl, hg, _⟩
  · go_enter Tryz.func18, Tryz.ntmps18
    go_wp2
    refine wp_loop_rounds 1 ?_
    rw [rounds_succ]; go_wp2
    go_ret
    exact ⟨rfl, h, World.grownBy.refl w _⟩
  · exact markBoundS_gr w base g cap s bs h hl s1 s2
end Go.Proofs.YtongpnknmgbhjaaGreatDoor

/-
  The laws' own helpers on lists of bounds: heldBoundS reads the marks over each field.
-/
namespace Go.Proofs.YtongpnknmgbhjaaGreatDoor
open Go.RowKit

theorem Bnds.lt {w : World} {base g n cap : Nat} {l : List Bd} (h : Bnds w base (.slice (some ⟨g, 0, none⟩) n cap) l) : g < w.heap.size := by
  rcases h.form with ⟨h', _⟩ | ⟨g', cap', h', _, hg'⟩
  · cases h'
  · simp only [Value.slice.injEq, Option.some.injEq, Addr.mk.injEq, and_true] at h'
    rw [h'.1]; exact hg'

set_option maxRecDepth 100000 in
set_option maxHeartbeats 2000000 in
theorem heldBoundS_gr (w : World) (base g cap s : Nat) (bs : List Bd) (h : Bnds w base (.slice (some ⟨g, 0, none⟩) bs.length cap) (mkB s bs.length bs)) (hl : bs.length ≤ 2000000) (s1 : 1 ≤ s) (s2 : s ≤ 2000001) :
    Calls Tryz.prog 19 #[.slice (some ⟨g, 0, none⟩) bs.length cap, .int .i64 (s : Int)] w fun e w' => e = .returned (.int .i64 ((s + 2 * bs.length : Nat) : Int)) ∧ Below w.heap.size w w' := by
  obtain ⟨E, HE⟩ : ∃ E, Hid (s + 2 * bs.length = E) := ⟨_, Lib.hid rfl⟩
  rw [HE.out]
  have HC : Hid (∀ (W : World) (k U : Nat), k < bs.length → U = s + 2 * k → Bnds W base (.slice (some ⟨g, 0, none⟩) bs.length cap) (mkB s bs.length bs) → W.cell? ⟨g, k * 2, none⟩ = some (.string ⟨(mt U).toArray⟩) ∧ W.cell? ⟨g, k * 2 + 1, none⟩ = some (.string ⟨(mt (U + 1)).toArray⟩)) := Lib.hid (fun W k U hk hU hW => by
    have hX : k < (mkB s bs.length bs).length := by rw [mkB_len s bs.length bs (Nat.le_refl _)]; exact hk
    obtain ⟨e0, e1⟩ := hW.cell k hX
    rw [mkB_get s bs k hk hX] at e0 e1
    subst hU
    exact ⟨e0, e1⟩)
  obtain ⟨X, HX⟩ : ∃ X, Hid (mkB s bs.length bs = X) := ⟨_, Lib.hid rfl⟩
  rw [HX.out] at h
  simp only [HX.out] at HC
  go_enter Tryz.func19, Tryz.ntmps19
  go_wp2
  go_loopw [1, 5] (fun u i wr => ∃ k U : Nat, k ≤ bs.length ∧ Hid (U = s + 2 * k) ∧ i = .int .i64 k ∧ u = .int .i64 (U : Int) ∧ Bnds wr base (.slice (some ⟨g, 0, none⟩) bs.length cap) X ∧ Below w.heap.size w wr) (fun _ i _ => bs.length - (intOf i).toNat)
  case atStart => exact ⟨0, s, Nat.zero_le _, Lib.hid (by omega), rfl, rfl, h, Below.refl _ _⟩
  case round =>
    obtain ⟨k, U, hk, HU, rfl, rfl, hS, hb⟩ := hrel
    have u1 : 1 ≤ U := by have := HU.out; omega
    have u2 : U ≤ 10000000 := by have := HU.out; omega
    by_cases hlt : k < bs.length
    · have k0 : (0 : Int) ≤ (k : Int) := by omega
      have k1 : (k : Int) < (bs.length : Int) := by omega
      have HM := Lib.hid (fun W => markText_any U W (by omega) (by omega))
      have HM2 := Lib.hid (fun W => markText_any (U + 1) W (by omega) (by omega))
      have HC2 := Lib.hid (fun W hW => HC.out W k U hlt HU.out hW)
      clear h
      obtain ⟨c1, _⟩ := HC2.out wr hS
      have g1 : g < wr.heap.size := hS.lt
      go_wp2_with fail
      go_region_held3 (fun W => W.cell? ⟨g, k * 2, none⟩ = some (.string ⟨(mt U).toArray⟩) ∧ g < W.heap.size) (first | exact ⟨c1, g1⟩ | (refine ⟨?_, ?_⟩ <;> assumption) | exact keep_cell hb1 (by assumption) (by assumption)) ((first | (go_at_call 55; refine (HM.out _).mono ?_; rintro e w1 ⟨rfl, hb1⟩)))
      have hS1 := (hS.below (below_drewN _ _ 1)).below hb1
      have B1 := (hb.trans (below_drewN _ _ 1)).trans (hb1.mono hb.size)
      obtain ⟨_, c2⟩ := HC2.out _ hS1
      have g2 : g < w1.heap.size := hS1.lt
      clear c1 g1 hS hb hb1
      go_wp2_with fail
      go_region_held3 (fun W => W.cell? ⟨g, k * 2 + 1, none⟩ = some (.string ⟨(mt (U + 1)).toArray⟩) ∧ g < W.heap.size) (first | exact ⟨c2, g2⟩ | (refine ⟨?_, ?_⟩ <;> assumption) | exact keep_cell hb2 (by assumption) (by assumption)) ((first | (go_at_call 55; refine (HM2.out _).mono ?_; rintro e w2 ⟨rfl, hb2⟩)))
      have hS2 := (hS1.below (below_drewN _ _ 1)).below hb2
      have B2 := (B1.trans (below_drewN _ _ 1)).trans (hb2.mono B1.size)
      go_wp2_with fail
      go_roundw
      case rel => exact ⟨k + 1, U + 2, by omega, Lib.hid (by have := HU.out; omega), by go_num, by go_num, hS2, B2⟩
      case measure => simp [intOf]; omega
    · obtain rfl : k = bs.length := by omega
      have HUE : Hid (U = E) := Lib.hid (by rw [HU.out, HE.out])
      clear h
      go_wp2_with fail
      go_ret
      exact ⟨by rw [← HUE.out]; rfl, hb⟩

set_option maxRecDepth 100000 in
set_option maxHeartbeats 1000000 in
theorem heldB_any (w : World) (base s : Nat) (v : Value) (bs : List Bd) (h : Bnds w base v (mkB s bs.length bs)) (hl : bs.length ≤ 2000000) (s1 : 1 ≤ s) (s2 : s ≤ 2000001) :
    Calls Tryz.prog 19 #[v, .int .i64 (s : Int)] w fun e w' => e = .returned (.int .i64 ((s + 2 * bs.length : Nat) : Int)) ∧ Below w.heap.size w w' := by
  rcases h.form with ⟨rfl, h0⟩ | ⟨g, cap, rfl, hg, _⟩
  · have : bs = [] := by
      have := mkB_len s bs.length bs (Nat.le_refl _)
      rw [h0] at this
      exact List.eq_nil_of_length_eq_zero this.symm
    subst this
    go_enter Tryz.func19, Tryz.ntmps19
    go_wp2
    refine wp_loop_rounds 1 ?_
    rw [rounds_succ]; go_wp2
    go_ret
    exact ⟨rfl, Below.refl _ _⟩
  · rw [mkB_len s bs.length bs (Nat.le_refl _)] at h ⊢
    exact heldBoundS_gr w base g cap s bs h hl s1 s2
end Go.Proofs.YtongpnknmgbhjaaGreatDoor

/-
  The laws' own comparison of lists of bounds.
-/
namespace Go.Proofs.YtongpnknmgbhjaaGreatDoor
open Go.RowKit

set_option maxRecDepth 100000 in
set_option maxHeartbeats 1000000 in
theorem eqBound_same (b c : ByteArray) (w : World) :
    Calls Tryz.prog 54 #[.agg #[.string b, .string c], .agg #[.string b, .string c]] w fun e w' => e = .returned (.bool true) ∧ Below w.heap.size w w' := by
  go_enter Tryz.func54, Tryz.ntmps54
  go_wp2_with fail
  go_ret
  exact ⟨rfl, ((Below.refl _ _).alloc (Nat.le_refl _) _).alloc (by simp) _⟩

set_option maxRecDepth 100000 in
set_option maxHeartbeats 1000000 in
theorem eqBoundS_same (va vb : Value) (bs : List Bd) (w : World) (ha : RdB w va bs) (hb : RdB w vb bs) (hl : bs.length ≤ 16777216) :
    Calls Tryz.prog 17 #[va, vb] w fun e w' => e = .returned (.bool true) ∧ Below w.heap.size w w' := by
  have HA := Lib.hid ha
  have HB := Lib.hid hb
  obtain ⟨A, ca, rfl, ha⟩ := ha
  obtain ⟨B, cb, rfl, hb⟩ := hb
  have q0 : ((bs.length : Int) != (bs.length : Int)) = false := int_bne_false rfl
  clear ha hb
  go_enter Tryz.func17, Tryz.ntmps17
  go_wp2_with fail
  go_loopw [5] (fun i wr => ∃ k : Nat, k ≤ bs.length ∧ i = .int .i64 k ∧ Below w.heap.size w wr) (fun i _ => bs.length - (intOf i).toNat)
  case atStart => exact ⟨0, Nat.zero_le _, rfl, Below.refl _ _⟩
  case round =>
    obtain ⟨k, hk, rfl, hw⟩ := hrel
    by_cases hlt : k < bs.length
    · obtain ⟨A', ca', hv, ha⟩ := HA.out.below hw
      simp only [Value.slice.injEq] at hv
      obtain ⟨rfl, _, rfl⟩ := hv
      obtain ⟨B', cb', hv, hb⟩ := HB.out.below hw
      simp only [Value.slice.injEq] at hv
      obtain ⟨rfl, _, rfl⟩ := hv
      obtain ⟨g, off, rfl, _, hca⟩ := ha (by omega)
      obtain ⟨g2, off2, rfl, _, hcb⟩ := hb (by omega)
      have d1 : wr.cell? ⟨g, off + k * 2, none⟩ = some (.string ⟨bs[k].1.toArray⟩) := (hca k hlt).1
      have d2 : wr.cell? ⟨g, off + k * 2 + 1, none⟩ = some (.string ⟨bs[k].2.toArray⟩) := (hca k hlt).2
      have d3 : wr.cell? ⟨g2, off2 + k * 2, none⟩ = some (.string ⟨bs[k].1.toArray⟩) := (hcb k hlt).1
      have d4 : wr.cell? ⟨g2, off2 + k * 2 + 1, none⟩ = some (.string ⟨bs[k].2.toArray⟩) := (hcb k hlt).2
      have k0 : (0 : Int) ≤ (k : Int) := by omega
      have k1 : (k : Int) < (bs.length : Int) := by omega
      clear ha hb hca hcb
      go_wp2_with fail
      go_region_with (first | (go_at_call 54; refine (eqBound_same _ _ _).mono ?_; rintro e w1 ⟨rfl, hb1⟩))
      all_goals
        go_wp2_with fail
        go_roundw
        case rel => exact ⟨k + 1, by omega, by go_num, hw.trans ((below_drewN _ _ 1).trans (hb1.mono (by first | exact Nat.le_refl _ | exact hw.size)))⟩
        case measure => simp [intOf]; omega
    · go_wp2_with fail
      go_ret
      exact ⟨rfl, hw⟩
end Go.Proofs.YtongpnknmgbhjaaGreatDoor

namespace Go.Proofs.YtongpnknmgbhjaaGreatDoor
open Go.RowKit

theorem Bnds.ltv {w : World} {base : Nat} {v : Value} {l : List Bd} (h : Bnds w base v l) : ∀ g, v.ownBlock = some g → g < w.heap.size := by
  intro g hg
  rcases h.form with ⟨rfl, _⟩ | ⟨g', cap, rfl, _, hl⟩
  · simp [Value.ownBlock] at hg
  · simp [Value.ownBlock] at hg; omega
set_option maxRecDepth 100000 in
set_option maxHeartbeats 4000000 in
theorem exReadRange (a0 : ByteArray) (w : World) (w0 : a0.size ≤ maxLen) (m : Int) (hm : w.cell? ⟨0, 0, none⟩ = some (.int .i64 m)) (ht : Tab w) :
    Calls Tryz.prog 4 #[.string a0] w fun e w' => e = .returned (.bool true) ∧ Below w.heap.size w w' := by
  obtain ⟨l, rfl⟩ : ∃ l : List UInt8, a0 = ⟨l.toArray⟩ := ⟨a0.data.toList, bytes_ext (by simp)⟩
  rw [size_of] at w0
  have hsz := size_of l
  by_cases hbig : 1048576 < l.length
  · rw [← hsz] at hbig
    clear ht hm
    go_enter Tryz.func4, Tryz.ntmps4
    go_wp2_with fail
    go_ret
    exact ⟨rfl, Below.refl _ _⟩
  · have hs : l.length ≤ 1048576 := by omega
    have HSp := Lib.hid (fun W => specReadRange_any l W hs)
    have HIm := Lib.hid (fun (W : World) (h : Below w.heap.size w W) => implReadRange_any l m W hs (tab_below ht h) (keepC h hm))
    unfold RgIs at HSp HIm
    have h1 := rgB_len l
    obtain ⟨bs, HB⟩ : ∃ bs, Hid (rgB l = bs) := ⟨_, Lib.hid rfl⟩
    simp only [HB.out] at HSp HIm h1
    generalize rgOk l = ok at HSp HIm
    have hbig2 : ¬ 1048576 < (⟨l.toArray⟩ : ByteArray).size := by rw [hsz]; exact hbig
    have q0 : (ok != ok) = false := by cases ok <;> rfl
    clear ht hm hbig hsz
    go_enter Tryz.func4, Tryz.ntmps4
    go_wp2_with fail
    refine (HSp.out _).mono ?_
    rintro e w1 ⟨u0, rfl, S0, B1⟩
    have x1 := S0.ltv
    obtain ⟨A0, c0, rfl⟩ := S0.slice
    go_wp2_with fail
    refine (HIm.out _ B1).mono ?_
    rintro e w2 ⟨u1, rfl, Sg, hb2⟩
    have B2 := B1.trans (hb2.mono B1.size)
    have S02 := S0.below hb2
    have y0 := Sg.owned
    obtain ⟨A1, c1, rfl⟩ := Sg.slice
    clear S0 hb2
    go_wp2_with fail
    refine (eqBoundS_same _ _ bs _ (RdB.of_bnds Sg) (RdB.of_bnds S02) (by omega)).mono ?_
    rintro e w3 ⟨rfl, hb3⟩
    have B3 := B2.trans (hb3.mono B2.size)
    have S03 := S02.below hb3
    have Sg3 := Sg.below hb3
    clear S02 Sg hb3 B2
    go_wp2_with fail
    refine (markB_gr _ _ 1 _ bs Sg3 (by omega) (by omega) (by omega)).mono ?_
    rintro e w4 ⟨rfl, Sg4, hg4⟩
    have B4 := gr_belowN B3 hg4 B3.size (fun g hg => by have := y0 g hg; have := B1.size; omega)
    have S04 := S03.grown hg4 (fun g hg e => by have := x1 g hg; have := y0 g e.symm; omega)
    clear S03 Sg3 hg4 B3
    obtain ⟨M, HM⟩ : ∃ M, Hid (1 + 2 * bs.length = M) := ⟨_, Lib.hid rfl⟩
    rw [HM.out]
    go_wp2_with fail
    refine (heldB_any _ _ 1 _ bs Sg4 (by omega) (by omega) (by omega)).mono ?_
    rintro e w5 ⟨rfl, hb5⟩
    rw [HM.out]
    have B5 := B4.trans (hb5.mono B4.size)
    have S05 := S04.below hb5
    have Sg5 := Sg4.below hb5
    clear S04 Sg4 hb5 B4
    have q2 : ¬ ((M : Int) < 0) := by omega
    have q3 : ((M : Int) != (M : Int)) = false := int_bne_false rfl
    go_wp2_with fail
    refine (HIm.out _ B5).mono ?_
    rintro e w6 ⟨u6, rfl, S6, hb6⟩
    have B6 := B5.trans (hb6.mono B5.size)
    have S06 := S05.below hb6
    have Sg6 := Sg5.below hb6
    obtain ⟨A6, c6, rfl⟩ := S6.slice
    clear S05 Sg5 hb6 B5
    go_wp2_with fail
    refine (eqBoundS_same _ _ bs _ (RdB.of_bnds S6) (RdB.of_bnds S06) (by omega)).mono ?_
    rintro e w7 ⟨rfl, hb7⟩
    have B7 := B6.trans (hb7.mono B6.size)
    have Sg7 := Sg6.below hb7
    clear S06 Sg6 S6 hb7 B6
    go_wp2_with fail
    refine (heldB_any _ _ 1 _ bs Sg7 (by omega) (by omega) (by omega)).mono ?_
    rintro e w8 ⟨rfl, hb8⟩
    rw [HM.out]
    have B8 := B7.trans (hb8.mono B7.size)
    go_wp2_with fail
    go_ret
    exact ⟨rfl, B8⟩
end Go.Proofs.YtongpnknmgbhjaaGreatDoor
