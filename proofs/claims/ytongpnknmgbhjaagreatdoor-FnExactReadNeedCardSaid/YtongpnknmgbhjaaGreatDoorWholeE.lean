/-
  The walk of the law FnExactReadNeed.
-/
import Derived.Test.YtongpnknmgbhjaaGreatDoorWholeD
import Derived.Test.YtongpnknmgbhjaaGreatDoorWholeB
import Derived.Deep.AppendLies
import Derived.Test.YtongpnknmgbhjaaGreatDoorWholeA
import Derived.Test.YtongpnknmgbhjaaGreatDoorWholeC
import Derived.Test.YtongpnknmgbhjaaGreatDoorCharI
import Derived.Outline
import Derived.RangeFuncFrom
import Derived.RangeFuncBox
import Derived.Test.YtongpnknmgbhjaaGreatDoorRows
import Derived.Test.YtongpnknmgbhjaaGreatDoorBase
import Derived.Lib.Bytealg
import Derived.Lib.Walk
import Derived.Test.YtongpnknmgbhjaaGreatDoorPieces
import Derived.Test.YtongpnknmgbhjaaGreatDoorRdL
import Derived.Deep.QuietTactic
import Derived.BigQuiet
import Derived.Deep.RegionHeld3
import Derived.Test.YtongpnknmgbhjaaGreatDoorRdB
import Derived.Deep.RegionWith
/-
  impl.readAlternative: one alternative of a range.
-/
namespace Go.Proofs.YtongpnknmgbhjaaGreatDoor
open Go.RowKit

set_option maxRecDepth 100000 in
set_option maxHeartbeats 4000000 in
theorem alt_star (s : ByteArray) (w : World) (hs : (s.toList == [42]) = true) :
    Calls Tryz.prog 53 #[.string s] w (AltIs w true ([], [])) := by
  have B0 : Below w.heap.size w (w.alloc (.cells #[.string ⟨#[]⟩, .string ⟨#[]⟩] 73)) := (Below.refl _ _).alloc (Nat.le_refl _) _
  go_enter Tryz.func53, Tryz.ntmps53
  go_wp2_with fail
  refine bodyPost_ret (v := .tuple #[.agg #[.string ⟨#[]⟩, .string ⟨#[]⟩], .bool true]) ?_ rfl ⟨_, _, rfl, fun _ => ⟨rfl, rfl⟩, B0⟩
  simp [results, Tryz.results53, go_sem]

set_option maxRecDepth 100000 in
set_option maxHeartbeats 4000000 in
theorem alt_caret' (s : ByteArray) (r : List UInt8) (w : World) (hl : r.length ≤ 1048000) (ht : Tab w) (h42 : (s.toList == [42]) = false) (p94 : ([94] : List UInt8).isPrefixOf s.data.toList = true) (sl : ∀ w, (Instr.slice 9 (.string s) (some (.int .i64 1)) none none).run Tryz.prog w = .ok (.string ⟨r.toArray⟩) w) :
    Calls Tryz.prog 53 #[.string s] w (AltIs w (fromOk r (crt r)) (fromB r (crt r))) := by
  have B0 : Below w.heap.size w (w.alloc (.cells #[.string ⟨#[]⟩, .string ⟨#[]⟩] 73)) := (Below.refl _ _).alloc (Nat.le_refl _) _
  have r0 := heap_alloc_new w (.cells #[.string ⟨#[]⟩, .string ⟨#[]⟩] 73)
  have H94 : Hid (∀ W, Calls Tryz.prog 104 #[.string s, .string ⟨#[94]⟩] W fun e w' => e = .returned (.bool true) ∧ w' = W) := Lib.hid (fun W => (hasPrefix_any s ⟨#[94]⟩ W).mono fun e w' h => ⟨by rw [h.1]; exact congrArg (fun b => Ending.returned (.bool b)) p94, h.2⟩)
  have HF := Lib.hid (fun (W : World) (h : Below w.heap.size w W) => rfCaret_any r W (by omega) (tab_below ht h))
  generalize fromOk r (crt r) = q at HF ⊢
  generalize fromB r (crt r) = fb at HF ⊢
  clear ht hl p94
  go_enter Tryz.func53, Tryz.ntmps53
  go_wp2_with fail
  refine (H94.out _).mono ?_
  rintro e w' ⟨rfl, hw⟩
  subst hw
  go_wp2_with fail
  refine (HF.out _ B0).mono ?_
  rintro e w4 ⟨x, y, rfl, hxy, hb4⟩
  have B4 := B0.trans (hb4.mono B0.size)
  obtain ⟨c0, c1⟩ := two_cells (keepB r0 hb4)
  have f0 := frozen2 (keepB r0 hb4) 0
  have f1 := frozen2 (keepB r0 hb4) 1
  go_wp2_with fail
  refine bodyPost_ret (v := .tuple #[.agg #[.string x, .string y], .bool q]) ?_ rfl ⟨_, _, rfl, hxy, ?_⟩
  · simp [results, Tryz.results53, go_sem, c0, c1]
  · exact below_res2 B4 (Nat.le_refl _) _ _

set_option maxRecDepth 100000 in
set_option maxHeartbeats 4000000 in
theorem alt_tilde' (s : ByteArray) (r : List UInt8) (w : World) (hl : r.length ≤ 1048000) (ht : Tab w) (h42 : (s.toList == [42]) = false) (p94 : ([94] : List UInt8).isPrefixOf s.data.toList = false) (p126 : ([126] : List UInt8).isPrefixOf s.data.toList = true) (sl : ∀ w, (Instr.slice 9 (.string s) (some (.int .i64 1)) none none).run Tryz.prog w = .ok (.string ⟨r.toArray⟩) w) :
    Calls Tryz.prog 53 #[.string s] w (AltIs w (fromOk r 1) (fromB r 1)) := by
  have B0 : Below w.heap.size w (w.alloc (.cells #[.string ⟨#[]⟩, .string ⟨#[]⟩] 73)) := (Below.refl _ _).alloc (Nat.le_refl _) _
  have r0 := heap_alloc_new w (.cells #[.string ⟨#[]⟩, .string ⟨#[]⟩] 73)
  have H94 : Hid (∀ W, Calls Tryz.prog 104 #[.string s, .string ⟨#[94]⟩] W fun e w' => e = .returned (.bool false) ∧ w' = W) := Lib.hid (fun W => (hasPrefix_any s ⟨#[94]⟩ W).mono fun e w' h => ⟨by rw [h.1]; exact congrArg (fun b => Ending.returned (.bool b)) p94, h.2⟩)
  have H126 : Hid (∀ W, Calls Tryz.prog 104 #[.string s, .string ⟨#[126]⟩] W fun e w' => e = .returned (.bool true) ∧ w' = W) := Lib.hid (fun W => (hasPrefix_any s ⟨#[126]⟩ W).mono fun e w' h => ⟨by rw [h.1]; exact congrArg (fun b => Ending.returned (.bool b)) p126, h.2⟩)
  have HF := Lib.hid (fun (W : World) (h : Below w.heap.size w W) => rfTilde_any r W (by omega) (tab_below ht h))
  generalize fromOk r 1 = q at HF ⊢
  generalize fromB r 1 = fb at HF ⊢
  clear ht hl p94 p126
  go_enter Tryz.func53, Tryz.ntmps53
  go_wp2_with fail
  refine (H94.out _).mono ?_
  rintro e w' ⟨rfl, hw⟩
  subst hw
  go_wp2_with fail
  refine (H126.out _).mono ?_
  rintro e w' ⟨rfl, hw⟩
  subst hw
  go_wp2_with fail
  refine (HF.out _ B0).mono ?_
  rintro e w4 ⟨x, y, rfl, hxy, hb4⟩
  have B4 := B0.trans (hb4.mono B0.size)
  obtain ⟨c0, c1⟩ := two_cells (keepB r0 hb4)
  have f0 := frozen2 (keepB r0 hb4) 0
  have f1 := frozen2 (keepB r0 hb4) 1
  go_wp2_with fail
  refine bodyPost_ret (v := .tuple #[.agg #[.string x, .string y], .bool q]) ?_ rfl ⟨_, _, rfl, hxy, ?_⟩
  · simp [results, Tryz.results53, go_sem, c0, c1]
  · exact below_res2 B4 (Nat.le_refl _) _ _

set_option maxRecDepth 100000 in
set_option maxHeartbeats 4000000 in
theorem alt_ge (s : ByteArray) (l : List UInt8) (hs : s = ⟨l.toArray⟩) (w : World) (hl : l.length ≤ 1048000) (ht : Tab w) (m : Int) (hm : w.cell? ⟨0, 0, none⟩ = some (.int .i64 m)) (h42 : (s.toList == [42]) = false) (p94 : ([94] : List UInt8).isPrefixOf s.data.toList = false) (p126 : ([126] : List UInt8).isPrefixOf s.data.toList = false) (p62 : ([62] : List UInt8).isPrefixOf s.data.toList = true) :
    Calls Tryz.prog 53 #[.string s] w (AltIs w (lmOk l) (lmB l)) := by
  have B0 : Below w.heap.size w (w.alloc (.cells #[.string ⟨#[]⟩, .string ⟨#[]⟩] 73)) := (Below.refl _ _).alloc (Nat.le_refl _) _
  have r0 := heap_alloc_new w (.cells #[.string ⟨#[]⟩, .string ⟨#[]⟩] 73)
  have H94 : Hid (∀ W, Calls Tryz.prog 104 #[.string s, .string ⟨#[94]⟩] W fun e w' => e = .returned (.bool false) ∧ w' = W) := Lib.hid (fun W => (hasPrefix_any s ⟨#[94]⟩ W).mono fun e w' h => ⟨by rw [h.1]; exact congrArg (fun b => Ending.returned (.bool b)) p94, h.2⟩)
  have H126 : Hid (∀ W, Calls Tryz.prog 104 #[.string s, .string ⟨#[126]⟩] W fun e w' => e = .returned (.bool false) ∧ w' = W) := Lib.hid (fun W => (hasPrefix_any s ⟨#[126]⟩ W).mono fun e w' h => ⟨by rw [h.1]; exact congrArg (fun b => Ending.returned (.bool b)) p126, h.2⟩)
  have H62 : Hid (∀ W, Calls Tryz.prog 104 #[.string s, .string ⟨#[62]⟩] W fun e w' => e = .returned (.bool true) ∧ w' = W) := Lib.hid (fun W => (hasPrefix_any s ⟨#[62]⟩ W).mono fun e w' h => ⟨by rw [h.1]; exact congrArg (fun b => Ending.returned (.bool b)) p62, h.2⟩)
  have HF := Lib.hid (fun (W : World) (h : Below w.heap.size w W) => readLimits_any l m W hl (tab_below ht h) (keepC h hm))
  rw [← hs] at HF
  generalize lmOk l = q at HF ⊢
  generalize lmB l = fb at HF ⊢
  clear ht hl hs hm p94 p126 p62
  go_enter Tryz.func53, Tryz.ntmps53
  go_wp2_with fail
  refine (H94.out _).mono ?_
  rintro e w' ⟨rfl, hw⟩
  subst hw
  go_wp2_with fail
  refine (H126.out _).mono ?_
  rintro e w' ⟨rfl, hw⟩
  subst hw
  go_wp2_with fail
  refine (H62.out _).mono ?_
  rintro e w' ⟨rfl, hw⟩
  subst hw
  go_wp2_with fail
  refine (HF.out _ B0).mono ?_
  rintro e w4 ⟨x, y, rfl, hxy, hb4⟩
  have B4 := B0.trans (hb4.mono B0.size)
  obtain ⟨c0, c1⟩ := two_cells (keepB r0 hb4)
  have f0 := frozen2 (keepB r0 hb4) 0
  have f1 := frozen2 (keepB r0 hb4) 1
  go_wp2_with fail
  refine bodyPost_ret (v := .tuple #[.agg #[.string x, .string y], .bool q]) ?_ rfl ⟨_, _, rfl, hxy, ?_⟩
  · simp [results, Tryz.results53, go_sem, c0, c1]
  · exact below_res2 B4 (Nat.le_refl _) _ _

set_option maxRecDepth 100000 in
set_option maxHeartbeats 4000000 in
theorem alt_lt (s : ByteArray) (l : List UInt8) (hs : s = ⟨l.toArray⟩) (w : World) (hl : l.length ≤ 1048000) (ht : Tab w) (m : Int) (hm : w.cell? ⟨0, 0, none⟩ = some (.int .i64 m)) (h42 : (s.toList == [42]) = false) (p94 : ([94] : List UInt8).isPrefixOf s.data.toList = false) (p126 : ([126] : List UInt8).isPrefixOf s.data.toList = false) (p62 : ([62] : List UInt8).isPrefixOf s.data.toList = false) (p60 : ([60] : List UInt8).isPrefixOf s.data.toList = true) :
    Calls Tryz.prog 53 #[.string s] w (AltIs w (lmOk l) (lmB l)) := by
  have B0 : Below w.heap.size w (w.alloc (.cells #[.string ⟨#[]⟩, .string ⟨#[]⟩] 73)) := (Below.refl _ _).alloc (Nat.le_refl _) _
  have r0 := heap_alloc_new w (.cells #[.string ⟨#[]⟩, .string ⟨#[]⟩] 73)
  have H94 : Hid (∀ W, Calls Tryz.prog 104 #[.string s, .string ⟨#[94]⟩] W fun e w' => e = .returned (.bool false) ∧ w' = W) := Lib.hid (fun W => (hasPrefix_any s ⟨#[94]⟩ W).mono fun e w' h => ⟨by rw [h.1]; exact congrArg (fun b => Ending.returned (.bool b)) p94, h.2⟩)
  have H126 : Hid (∀ W, Calls Tryz.prog 104 #[.string s, .string ⟨#[126]⟩] W fun e w' => e = .returned (.bool false) ∧ w' = W) := Lib.hid (fun W => (hasPrefix_any s ⟨#[126]⟩ W).mono fun e w' h => ⟨by rw [h.1]; exact congrArg (fun b => Ending.returned (.bool b)) p126, h.2⟩)
  have H62 : Hid (∀ W, Calls Tryz.prog 104 #[.string s, .string ⟨#[62]⟩] W fun e w' => e = .returned (.bool false) ∧ w' = W) := Lib.hid (fun W => (hasPrefix_any s ⟨#[62]⟩ W).mono fun e w' h => ⟨by rw [h.1]; exact congrArg (fun b => Ending.returned (.bool b)) p62, h.2⟩)
  have H60 : Hid (∀ W, Calls Tryz.prog 104 #[.string s, .string ⟨#[60]⟩] W fun e w' => e = .returned (.bool true) ∧ w' = W) := Lib.hid (fun W => (hasPrefix_any s ⟨#[60]⟩ W).mono fun e w' h => ⟨by rw [h.1]; exact congrArg (fun b => Ending.returned (.bool b)) p60, h.2⟩)
  have HF := Lib.hid (fun (W : World) (h : Below w.heap.size w W) => readLimits_any l m W hl (tab_below ht h) (keepC h hm))
  rw [← hs] at HF
  generalize lmOk l = q at HF ⊢
  generalize lmB l = fb at HF ⊢
  clear ht hl hs hm p94 p126 p62 p60
  go_enter Tryz.func53, Tryz.ntmps53
  go_wp2_with fail
  refine (H94.out _).mono ?_
  rintro e w' ⟨rfl, hw⟩
  subst hw
  go_wp2_with fail
  refine (H126.out _).mono ?_
  rintro e w' ⟨rfl, hw⟩
  subst hw
  go_wp2_with fail
  refine (H62.out _).mono ?_
  rintro e w' ⟨rfl, hw⟩
  subst hw
  go_wp2_with fail
  refine (H60.out _).mono ?_
  rintro e w' ⟨rfl, hw⟩
  subst hw
  go_wp2_with fail
  refine (HF.out _ B0).mono ?_
  rintro e w4 ⟨x, y, rfl, hxy, hb4⟩
  have B4 := B0.trans (hb4.mono B0.size)
  obtain ⟨c0, c1⟩ := two_cells (keepB r0 hb4)
  have f0 := frozen2 (keepB r0 hb4) 0
  have f1 := frozen2 (keepB r0 hb4) 1
  go_wp2_with fail
  refine bodyPost_ret (v := .tuple #[.agg #[.string x, .string y], .bool q]) ?_ rfl ⟨_, _, rfl, hxy, ?_⟩
  · simp [results, Tryz.results53, go_sem, c0, c1]
  · exact below_res2 B4 (Nat.le_refl _) _ _

set_option maxRecDepth 100000 in
set_option maxHeartbeats 4000000 in
theorem alt_few (s : ByteArray) (l : List UInt8) (hs : s = ⟨l.toArray⟩) (w : World) (hl : l.length ≤ 1048000) (ht : Tab w) (hc : l.count 46 < 2) (h42 : (s.toList == [42]) = false) (p94 : ([94] : List UInt8).isPrefixOf s.data.toList = false) (p126 : ([126] : List UInt8).isPrefixOf s.data.toList = false) (p62 : ([62] : List UInt8).isPrefixOf s.data.toList = false) (p60 : ([60] : List UInt8).isPrefixOf s.data.toList = false) :
    Calls Tryz.prog 53 #[.string s] w (AltIs w (fromOk (l ++ zrs (l.count 46)) (l.count 46)) (fromB (l ++ zrs (l.count 46)) (l.count 46))) := by
  have B0 : Below w.heap.size w (w.alloc (.cells #[.string ⟨#[]⟩, .string ⟨#[]⟩] 73)) := (Below.refl _ _).alloc (Nat.le_refl _) _
  have r0 := heap_alloc_new w (.cells #[.string ⟨#[]⟩, .string ⟨#[]⟩] 73)
  have H94 : Hid (∀ W, Calls Tryz.prog 104 #[.string s, .string ⟨#[94]⟩] W fun e w' => e = .returned (.bool false) ∧ w' = W) := Lib.hid (fun W => (hasPrefix_any s ⟨#[94]⟩ W).mono fun e w' h => ⟨by rw [h.1]; exact congrArg (fun b => Ending.returned (.bool b)) p94, h.2⟩)
  have H126 : Hid (∀ W, Calls Tryz.prog 104 #[.string s, .string ⟨#[126]⟩] W fun e w' => e = .returned (.bool false) ∧ w' = W) := Lib.hid (fun W => (hasPrefix_any s ⟨#[126]⟩ W).mono fun e w' h => ⟨by rw [h.1]; exact congrArg (fun b => Ending.returned (.bool b)) p126, h.2⟩)
  have H62 : Hid (∀ W, Calls Tryz.prog 104 #[.string s, .string ⟨#[62]⟩] W fun e w' => e = .returned (.bool false) ∧ w' = W) := Lib.hid (fun W => (hasPrefix_any s ⟨#[62]⟩ W).mono fun e w' h => ⟨by rw [h.1]; exact congrArg (fun b => Ending.returned (.bool b)) p62, h.2⟩)
  have H60 : Hid (∀ W, Calls Tryz.prog 104 #[.string s, .string ⟨#[60]⟩] W fun e w' => e = .returned (.bool false) ∧ w' = W) := Lib.hid (fun W => (hasPrefix_any s ⟨#[60]⟩ W).mono fun e w' h => ⟨by rw [h.1]; exact congrArg (fun b => Ending.returned (.bool b)) p60, h.2⟩)
  have HC := Lib.hid (fun W => count_any s 46 W)
  have hcn : s.data.toList.count 46 = l.count 46 := by rw [hs]
  rw [hcn] at HC
  have hcl : l.count 46 ≤ l.length := List.count_le_length
  have HF := Lib.hid (fun (W : World) (h : Below w.heap.size w W) => readPartial_any l W hl (tab_below ht h) hc)
  rw [← hs] at HF
  generalize fromOk (l ++ zrs (l.count 46)) (l.count 46) = q at HF ⊢
  generalize fromB (l ++ zrs (l.count 46)) (l.count 46) = fb at HF ⊢
  generalize l.count 46 = cn at HC hc hcl
  clear ht hl hs hcn p94 p126 p62 p60
  go_enter Tryz.func53, Tryz.ntmps53
  go_wp2_with fail
  refine (H94.out _).mono ?_
  rintro e w' ⟨rfl, hw⟩
  subst hw
  go_wp2_with fail
  refine (H126.out _).mono ?_
  rintro e w' ⟨rfl, hw⟩
  subst hw
  go_wp2_with fail
  refine (H62.out _).mono ?_
  rintro e w' ⟨rfl, hw⟩
  subst hw
  go_wp2_with fail
  refine (H60.out _).mono ?_
  rintro e w' ⟨rfl, hw⟩
  subst hw
  go_wp2_with fail
  refine (HC.out _).mono ?_
  rintro e w' ⟨rfl, hw⟩
  subst hw
  go_wp2_with fail
  refine (HF.out _ B0).mono ?_
  rintro e w4 ⟨x, y, rfl, hxy, hb4⟩
  have B4 := B0.trans (hb4.mono B0.size)
  obtain ⟨c0, c1⟩ := two_cells (keepB r0 hb4)
  have f0 := frozen2 (keepB r0 hb4) 0
  have f1 := frozen2 (keepB r0 hb4) 1
  go_wp2_with fail
  refine bodyPost_ret (v := .tuple #[.agg #[.string x, .string y], .bool q]) ?_ rfl ⟨_, _, rfl, hxy, ?_⟩
  · simp [results, Tryz.results53, go_sem, c0, c1]
  · exact below_res2 B4 (Nat.le_refl _) _ _

set_option maxRecDepth 100000 in
set_option maxHeartbeats 4000000 in
theorem alt_many (s : ByteArray) (l : List UInt8) (hs : s = ⟨l.toArray⟩) (w : World) (hl : l.length ≤ 1048000) (ht : Tab w) (hc : ¬ l.count 46 < 2) (h42 : (s.toList == [42]) = false) (p94 : ([94] : List UInt8).isPrefixOf s.data.toList = false) (p126 : ([126] : List UInt8).isPrefixOf s.data.toList = false) (p62 : ([62] : List UInt8).isPrefixOf s.data.toList = false) (p60 : ([60] : List UInt8).isPrefixOf s.data.toList = false) :
    Calls Tryz.prog 53 #[.string s] w (AltIs w (exOk l) (l, exHigh l)) := by
  have B0 : Below w.heap.size w (w.alloc (.cells #[.string ⟨#[]⟩, .string ⟨#[]⟩] 73)) := (Below.refl _ _).alloc (Nat.le_refl _) _
  have r0 := heap_alloc_new w (.cells #[.string ⟨#[]⟩, .string ⟨#[]⟩] 73)
  have H94 : Hid (∀ W, Calls Tryz.prog 104 #[.string s, .string ⟨#[94]⟩] W fun e w' => e = .returned (.bool false) ∧ w' = W) := Lib.hid (fun W => (hasPrefix_any s ⟨#[94]⟩ W).mono fun e w' h => ⟨by rw [h.1]; exact congrArg (fun b => Ending.returned (.bool b)) p94, h.2⟩)
  have H126 : Hid (∀ W, Calls Tryz.prog 104 #[.string s, .string ⟨#[126]⟩] W fun e w' => e = .returned (.bool false) ∧ w' = W) := Lib.hid (fun W => (hasPrefix_any s ⟨#[126]⟩ W).mono fun e w' h => ⟨by rw [h.1]; exact congrArg (fun b => Ending.returned (.bool b)) p126, h.2⟩)
  have H62 : Hid (∀ W, Calls Tryz.prog 104 #[.string s, .string ⟨#[62]⟩] W fun e w' => e = .returned (.bool false) ∧ w' = W) := Lib.hid (fun W => (hasPrefix_any s ⟨#[62]⟩ W).mono fun e w' h => ⟨by rw [h.1]; exact congrArg (fun b => Ending.returned (.bool b)) p62, h.2⟩)
  have H60 : Hid (∀ W, Calls Tryz.prog 104 #[.string s, .string ⟨#[60]⟩] W fun e w' => e = .returned (.bool false) ∧ w' = W) := Lib.hid (fun W => (hasPrefix_any s ⟨#[60]⟩ W).mono fun e w' h => ⟨by rw [h.1]; exact congrArg (fun b => Ending.returned (.bool b)) p60, h.2⟩)
  have HC := Lib.hid (fun W => count_any s 46 W)
  have hcn : s.data.toList.count 46 = l.count 46 := by rw [hs]
  rw [hcn] at HC
  have hcl : l.count 46 ≤ l.length := List.count_le_length
  have HF := Lib.hid (fun (W : World) (h : Below w.heap.size w W) => rfAbove_any l W (by omega) (tab_below ht h))
  rw [← hs] at HF
  generalize exOk l = q at HF ⊢
  generalize (l, exHigh l) = fb at HF ⊢
  generalize l.count 46 = cn at HC hc hcl
  clear ht hs hcn p94 p126 p62 p60
  go_enter Tryz.func53, Tryz.ntmps53
  go_wp2_with fail
  refine (H94.out _).mono ?_
  rintro e w' ⟨rfl, hw⟩
  subst hw
  go_wp2_with fail
  refine (H126.out _).mono ?_
  rintro e w' ⟨rfl, hw⟩
  subst hw
  go_wp2_with fail
  refine (H62.out _).mono ?_
  rintro e w' ⟨rfl, hw⟩
  subst hw
  go_wp2_with fail
  refine (H60.out _).mono ?_
  rintro e w' ⟨rfl, hw⟩
  subst hw
  go_wp2_with fail
  refine (HC.out _).mono ?_
  rintro e w' ⟨rfl, hw⟩
  subst hw
  go_wp2_with fail
  refine (HF.out _ B0).mono ?_
  rintro e w4 ⟨x, y, rfl, hxy, hb4⟩
  have B4 := B0.trans (hb4.mono B0.size)
  obtain ⟨c0, c1⟩ := two_cells (keepB r0 hb4)
  have f0 := frozen2 (keepB r0 hb4) 0
  have f1 := frozen2 (keepB r0 hb4) 1
  go_wp2_with fail
  refine bodyPost_ret (v := .tuple #[.agg #[.string x, .string y], .bool q]) ?_ rfl ⟨_, _, rfl, hxy, ?_⟩
  · simp [results, Tryz.results53, go_sem, c0, c1]
  · exact below_res2 B4 (Nat.le_refl _) _ _

theorem AltIs.plain2 {l : List UInt8} {w w' : World} {e : Ending} {ok : Bool} {b : Bd} (h : altOk l = ok) (h2 : altB l = b) (hh : AltIs w ok b e w') : AltIs w (altOk l) (altB l) e w' := by subst h h2; exact hh
theorem readAlternative_any (l : List UInt8) (m : Int) (w : World) (hl : l.length ≤ 1048000) (ht : Tab w) (hm : w.cell? ⟨0, 0, none⟩ = some (.int .i64 m)) :
    Calls Tryz.prog 53 #[.string ⟨l.toArray⟩] w (AltIs w (altOk l) (altB l)) := by
  by_cases h42 : l = [42]
  · subst h42
    exact (alt_star ⟨#[42]⟩ w (by rw [ByteArray.toList_eq]; rfl)).mono fun e w' h => h.as (by unfold altOk; rw [if_pos rfl]) (by unfold altB; rw [if_pos rfl])
  obtain ⟨s, hs⟩ : ∃ s : ByteArray, s = ⟨l.toArray⟩ := ⟨_, rfl⟩
  have e42 := one42 hs h42
  have hd : s.data.toList = l := by rw [hs]
  have hz : s.size = l.length := by rw [hs]; exact size_of l
  have pf : ∀ c : UInt8, ([c] : List UInt8).isPrefixOf s.data.toList = decide (l.head? = some c) := fun c => by
    rw [hd]
    cases l with
    | nil => rfl
    | cons x y =>
      by_cases h : c = x
      · subst h; simp [List.isPrefixOf]
      · have h' : ¬ x = c := fun e => h e.symm
        have h1 : (c == x) = false := by simpa using h
        simp [List.isPrefixOf, h1, h']
  rw [← hs]
  have sl : 0 < l.length → ∀ w, (Instr.slice 9 (.string s) (some (.int .i64 1)) none none).run Tryz.prog w = .ok (.string ⟨(l.drop 1).toArray⟩) w := fun h w => by
    have := slice_from s ⟨(l.drop 1).toArray⟩ 1 1 rfl (by omega) (by have := piece_end s 1; rw [hd] at this; exact this) w
    exact this
  by_cases h94 : l.head? = some 94
  · have h0 : 0 < l.length := by cases l with | nil => simp at h94 | cons x y => simp
    refine (alt_caret' s (l.drop 1) w (by simp; omega) ht e42 (by rw [pf]; simpa using h94) (sl h0)).mono fun e w' h => AltIs.plain2 ?_ ?_ h
    · unfold altOk; rw [if_neg h42, if_pos h94]
    · unfold altB; rw [if_neg h42, if_pos h94]
  have q94 : ([94] : List UInt8).isPrefixOf s.data.toList = false := by rw [pf]; simpa using h94
  by_cases h126 : l.head? = some 126
  · have h0 : 0 < l.length := by cases l with | nil => simp at h126 | cons x y => simp
    refine (alt_tilde' s (l.drop 1) w (by simp; omega) ht e42 q94 (by rw [pf]; simpa using h126) (sl h0)).mono fun e w' h => AltIs.plain2 ?_ ?_ h
    · unfold altOk; rw [if_neg h42, if_neg h94, if_pos h126]
    · unfold altB; rw [if_neg h42, if_neg h94, if_pos h126]
  have q126 : ([126] : List UInt8).isPrefixOf s.data.toList = false := by rw [pf]; simpa using h126
  by_cases h62 : l.head? = some 62
  · exact (alt_ge s l hs w hl ht m hm e42 q94 q126 (by rw [pf]; simpa using h62)).mono fun e w' h => h.as (alt_signs (.inl h62)).1 (alt_signs (.inl h62)).2
  have q62 : ([62] : List UInt8).isPrefixOf s.data.toList = false := by rw [pf]; simpa using h62
  by_cases h60 : l.head? = some 60
  · exact (alt_lt s l hs w hl ht m hm e42 q94 q126 q62 (by rw [pf]; simpa using h60)).mono fun e w' h => h.as (alt_signs (.inr h60)).1 (alt_signs (.inr h60)).2
  have q60 : ([60] : List UInt8).isPrefixOf s.data.toList = false := by rw [pf]; simpa using h60
  by_cases hc : l.count 46 < 2
  · refine (alt_few s l hs w hl ht hc e42 q94 q126 q62 q60).mono fun e w' h => AltIs.plain2 ?_ ?_ h
    · unfold altOk; rw [if_neg h42, if_neg h94, if_neg h126, if_neg (by simp [h62, h60]), if_pos hc]
    · unfold altB; rw [if_neg h42, if_neg h94, if_neg h126, if_neg (by simp [h62, h60]), if_pos hc]
  · refine (alt_many s l hs w hl ht hc e42 q94 q126 q62 q60).mono fun e w' h => AltIs.plain2 ?_ ?_ h
    · unfold altOk; rw [if_neg h42, if_neg h94, if_neg h126, if_neg (by simp [h62, h60]), if_neg hc]
    · unfold altB; rw [if_neg h42, if_neg h94, if_neg h126, if_neg (by simp [h62, h60]), if_neg hc]
end Go.Proofs.YtongpnknmgbhjaaGreatDoor

/-
  append of a bound onto a row of the call's own.
-/
namespace Go.Proofs.YtongpnknmgbhjaaGreatDoor
open Go.RowKit

set_option maxRecDepth 100000 in
theorem run_append_bd (w : World) (ty : TypeId) (base : Nat) (v : Value) (l : List Bd) (hown : Bnds w base v l) (x : Bd) (B c : Nat) (t : TypeId) (fr : Nat × Nat)
    (hblk : w.heap[B]? = some (.cells #[sv x.1, sv x.2] t fr)) (hlen : l.length + 1 ≤ 16777216) (hbase : base ≤ w.heap.size) :
    ∃ g cap w', (Builtin.append_ #[34, 34] ty #[v, .slice (some ⟨B, 0, none⟩) 1 c]).run Tryz.prog w = .ok (.slice (some ⟨g, 0, none⟩) (l.length + 1) cap) w' ∧ Bnds w' base (.slice (some ⟨g, 0, none⟩) (l.length + 1) cap) (l ++ [x]) ∧ w.grownBy w' v.ownBlock ∧ (v.ownBlock = some g ∨ g = w.heap.size) := by
  obtain ⟨i0, hi, hz0, hz1, hz2⟩ := info_parts bndinfo
  obtain ⟨g, cap, w', hr, h2, h3, h4, _⟩ := run_append_lies (P := Tryz.prog) w 34 ty base 73 i0 (.agg #[.string ⟨#[]⟩, .string ⟨#[]⟩]) 2 32 Tryz.underlying34 hi hz0 hz1 hz2 rfl (by decide) v l.length (flat2 l) hown
    ⟨B, 0, none⟩ 1 c [sv x.1, sv x.2] (by simp) (World.news_of_block hblk) (by intro u hu; simp at hu; rcases hu with rfl | rfl <;> rfl) (by omega) (by unfold maxLen; omega) (by omega) hbase _ rfl
  refine ⟨g, cap, w', hr, ?_, h3, h4⟩
  unfold Bnds
  rw [List.length_append, flat2_app]
  exact h2
/-- append(bounds, b) at a plain region's list. -/
theorem wpList_append_bd {w : World} {ops : Array Oper} {rest : List Oper} {o : Oper} {a : Act} {Q : Exit → Act → World → Prop} (hgd : o.guard = none) (s x : Operand)
    (ho : o.op = .call { callee := .builtin .append, args := #[s, x], argTypes := #[34, 34] })
    (base : Nat) (v : Value) (l : List Bd) (hs : a.eval s = v) (hown : Bnds w base v l) (y : Bd) (B c : Nat) (t : TypeId) (fr : Nat × Nat)
    (hx : a.eval x = .slice (some ⟨B, 0, none⟩) 1 c) (hblk : w.heap[B]? = some (.cells #[sv y.1, sv y.2] t fr)) (hlen : l.length + 1 ≤ 16777216) (hbase : base ≤ w.heap.size)
    (h : ∀ g cap w', Bnds w' base (.slice (some ⟨g, 0, none⟩) (l.length + 1) cap) (l ++ [y]) → w.grownBy w' v.ownBlock → (v.ownBlock = some g ∨ g = w.heap.size) → wpList Tryz.prog ops Q rest (a.put o.dst (.slice (some ⟨g, 0, none⟩) (l.length + 1) cap)) w') : wpList Tryz.prog ops Q (o :: rest) a w := by
  refine wpList_plain hgd fun _ hK => ?_
  obtain ⟨g, cap, w', hr, h2, h3, h4⟩ := run_append_bd w o.type base v l hown y B c t fr hblk hlen hbase
  unfold Oper.wp execOp
  simp only [ho, resolve, invoke, builtin, Sem.run_bind, Sem.run_pure, Result.andThen_ok, List.map_toArray, List.map_cons, List.map_nil, hs, hx, hr]
  exact hK _ _ (h g cap w' h2 h3 h4)
theorem Bnds.empty (w : World) (base : Nat) (hb : base ≤ w.heap.size) : Bnds (w.alloc (.cells #[] 73)) base (.slice (some ⟨w.heap.size, 0, none⟩) 0 0) [] := by
  have h := World.ownsRow_lit (base := base) (e := 73) (size := 2) w #[] 0 hb (by unfold maxLen; omega) (by simp)
  simpa [Bnds, flat2] using h
theorem Bnds.slice {w : World} {base : Nat} {v : Value} {l : List Bd} (h : Bnds w base v l) : ∃ A c, v = .slice A l.length c := by
  rcases h.form with ⟨rfl, rfl⟩ | ⟨g, cap, rfl, _, _⟩
  · exact ⟨_, _, rfl⟩
  · exact ⟨_, _, rfl⟩
end Go.Proofs.YtongpnknmgbhjaaGreatDoor

/-
  spec.ReadRange, impl.ReadRange: the bounds of a text.
-/
namespace Go.Proofs.YtongpnknmgbhjaaGreatDoor
open Go.RowKit

theorem splitK_mem (sep : List UInt8) : ∀ (k : Nat) (s : List UInt8), ∀ x ∈ Lib.splitK sep 0 k s, x.length ≤ s.length
  | 0, s, x, h => by simp [Lib.splitK] at h; simp [h]
  | k + 1, s, x, h => by
    unfold Lib.splitK at h
    split at h
    · simp at h; simp [h]
    · rcases List.mem_cons.1 h with rfl | h
      · simp; omega
      · have := splitK_mem sep k _ x h
        simp at this; omega
theorem rgPs_mem (l : List UInt8) : ∀ x ∈ rgPs l, x.length ≤ l.length := fun x hx => splitK_mem orSep _ l x hx
theorem splitK_len (sep : List UInt8) : ∀ (k : Nat) (s : List UInt8), (Lib.splitK sep 0 k s).length ≤ k + 1
  | 0, s => by simp [Lib.splitK]
  | k + 1, s => by
    unfold Lib.splitK
    split
    · simp
    · have := splitK_len sep k (s.drop ((Lib.index s sep).toNat + sep.length))
      simp; omega
theorem rg_no1 {l : List UInt8} (h : ¬ l.length ≤ 200) : rgOk l = false := by unfold rgOk; rw [decide_eq_false h]; rfl
theorem rg_no2 {l : List UInt8} (h : ¬ (rgPs l).length ≤ 8) : rgOk l = false := by unfold rgOk; rw [decide_eq_false h]; simp
theorem rg_no3 {l : List UInt8} (k : Nat) (hk : k < (rgPs l).length) (h : altOk (rgPs l)[k] = false) : rgOk l = false := by
  unfold rgOk
  have : (rgPs l).all altOk = false := by
    rw [Bool.eq_false_iff]; intro ha
    have := List.all_eq_true.1 ha _ (List.getElem_mem hk)
    rw [h] at this; cases this
  rw [this]; simp
theorem rg_yes {l : List UInt8} (h1 : l.length ≤ 200) (h2 : (rgPs l).length ≤ 8) (h3 : (rgPs l).all altOk = true) : rgOk l = true := by unfold rgOk; simp [h1, h2]; simpa using h3
/-- What ReadRange hands back. -/
def RgIs (w : World) (l : List UInt8) (e : Ending) (w' : World) : Prop := ∃ u, e = .returned (.tuple #[u, .bool (rgOk l)]) ∧ Bnds w' w.heap.size u (rgB l) ∧ Below w.heap.size w w'
theorem rgIs_bad {w w' : World} {l : List UInt8} {u : Value} (h : rgOk l = false) (hS : Bnds w' w.heap.size u []) (hb : Below w.heap.size w w') : RgIs w l (.returned (.tuple #[u, .bool false])) w' :=
  ⟨u, by rw [h], by unfold rgB; rw [if_neg (by rw [h]; simp)]; exact hS, hb⟩
theorem rgIs_good {w w' : World} {l : List UInt8} {u : Value} (h : rgOk l = true) (hS : Bnds w' w.heap.size u ((rgPs l).map altB)) (hb : Below w.heap.size w w') : RgIs w l (.returned (.tuple #[u, .bool true])) w' :=
  ⟨u, by rw [h], by unfold rgB; rw [if_pos h]; exact hS, hb⟩
theorem Bnds.emptyAt (W : World) (base n : Nat) (hn : W.heap.size = n) (hb : base ≤ n) : Bnds (W.alloc (.cells #[] 73)) base (.slice (some ⟨n, 0, none⟩) 0 0) [] := by subst hn; exact Bnds.empty W base hb
theorem own_some {g : Nat} {n c : Nat} : ∀ b, (Value.slice (some ⟨g, 0, none⟩) n c).ownBlock = some b → b = g := fun b h => by simp [Value.ownBlock] at h; exact h.symm

theorem rds_alloc2 {w : World} {base : Nat} {v : Value} {l : List (List UInt8)} (h : Strs w base v l) (o1 o2 : Obj) : Strs ((w.alloc o1).alloc o2) base v l := (h.alloc o1).alloc o2

set_option maxRecDepth 100000 in
set_option maxHeartbeats 4000000 in
theorem specReadRange_any (l : List UInt8) (w : World) (hl : l.length ≤ 1048576) :
    Calls Tryz.prog 15 #[.string ⟨l.toArray⟩] w (RgIs w l) := by
  obtain ⟨s, hs⟩ : ∃ s : ByteArray, s = ⟨l.toArray⟩ := ⟨_, rfl⟩
  have hd : s.data.toList = l := by rw [hs]
  have hz : s.size = l.length := by rw [hs]; exact size_of l
  have HP := Lib.hid (fun (W : World) => l03Parts_any s W (by omega))
  rw [hd] at HP
  rw [← hs]
  have HMEM := Lib.hid (rgPs_mem l)
  have hpl : (rgPs l).length ≤ l.length + 1 + 1048576 := by
    have := splitK_len orSep (Lib.count l orSep) l
    have h2 : Lib.count l orSep ≤ l.length := by
      have := Lib.countB_le ⟨#[32, 124, 124, 32]⟩ (by decide) s.size s (Nat.le_refl _)
      rw [hz] at this
      have e : Lib.countB s ⟨#[32, 124, 124, 32]⟩ = Lib.count l orSep := by rw [← hd]; rfl
      rw [e] at this; exact this
    unfold rgPs Lib.split; omega
  have HN1 := Lib.hid (fun h => rg_no1 (l := l) h)
  have HN2 := Lib.hid (fun h => rg_no2 (l := l) h)
  have HN3 := Lib.hid (fun (k : Nat) (hk : k < (rgPs l).length) h => rg_no3 (l := l) k hk h)
  have HY := Lib.hid (fun h1 h2 h3 => rg_yes (l := l) h1 h2 h3)
  have HB1 := Lib.hid (fun (w' : World) (u : Value) (h : rgOk l = false) (hS : Bnds w' w.heap.size u []) (hb : Below w.heap.size w w') => rgIs_bad h hS hb)
  have HB2 := Lib.hid (fun (w' : World) (u : Value) (h : rgOk l = true) (hS : Bnds w' w.heap.size u ((rgPs l).map altB)) (hb : Below w.heap.size w w') => rgIs_good h hS hb)
  have hL : l.length = s.size := hz.symm
  rw [hL] at HMEM HN1 HY hpl hl
  generalize rgPs l = ps at HP HMEM HN2 HN3 HY HB2 hpl
  generalize rgOk l = ok at HN1 HN2 HN3 HY HB1 HB2
  generalize RgIs w l = RI at HB1 HB2 ⊢
  clear hs hd hz hL
  have B1 : Below w.heap.size w (w.alloc (.cells #[] 73)) := (Below.refl _ _).alloc (Nat.le_refl _) _
  have hown := Bnds.empty w w.heap.size (Nat.le_refl _)
  by_cases hbig : 200 < s.size
  · go_enter Tryz.func15, Tryz.ntmps15
    go_wp2_with fail
    refine (HP.out _).mono ?_
    rintro e w1 ⟨g, cap, rfl, hS, hb1⟩
    go_wp2_with fail
    exact HB1.out _ _ (HN1.out (by omega)) (hown.below hb1) (B1.trans (hb1.mono B1.size))
  by_cases h8 : 8 < ps.length
  · go_enter Tryz.func15, Tryz.ntmps15
    go_wp2_with fail
    refine (HP.out _).mono ?_
    rintro e w1 ⟨g, cap, rfl, hS, hb1⟩
    go_wp2_with fail
    exact HB1.out _ _ (HN2.out (by omega)) (hown.below hb1) (B1.trans (hb1.mono B1.size))
  have HA := Lib.hid (fun (k : Nat) (hk : k < ps.length) (W : World) => l03Part_any ps[k] W (by have := HMEM.out _ (List.getElem_mem hk); omega))
  go_enter Tryz.func15, Tryz.ntmps15
  go_wp2_with fail
  refine (HP.out _).mono ?_
  rintro e w1 ⟨g, cap, rfl, hS, hb1⟩
  have hgw : w.heap.size < g := by have := hS.lo; simp at this; omega
  have B2 := B1.trans (hb1.mono B1.size)
  have hown2 := hown.below hb1
  clear hb1 B1 hown HP
  go_wp2_with fail
  go_loopw [4, 6] (fun v i wr => ∃ k : Nat, k ≤ ps.length ∧ i = .int .i64 k ∧ Bnds wr w.heap.size v ((ps.take k).map altB) ∧ (∀ b, v.ownBlock = some b → b ≠ g) ∧ Hid ((ps.take k).all altOk = true) ∧ Strs wr (w.heap.size + 1) (.slice (some ⟨g, 0, none⟩) ps.length cap) ps ∧ Below w.heap.size w wr) (fun _ i _ => ps.length - (intOf i).toNat)
  case atStart => exact ⟨0, Nat.zero_le _, rfl, by simpa using hown2, fun b hb => by have := own_some b hb; omega, Lib.hid rfl, by simpa using hS, B2⟩
  case round =>
    obtain ⟨k, hk, rfl, hB, hne, HAL, hSr, hb⟩ := hrel
    clear hS hown2 B2
    obtain ⟨V, vc, rfl⟩ := hB.slice
    have hlen : ((ps.take k).map altB).length = k := by simp; omega
    rw [hlen] at hB hne
    by_cases hlt : k < ps.length
    · have d := hSr.cell k hlt
      have k0 : (0 : Int) ≤ (k : Int) := by omega
      have k1 : (k : Int) < (ps.length : Int) := by omega
      have HAK := Lib.hid (fun (W : World) => HA.out k hlt W)
      have HX3 := Lib.hid (HN3.out k hlt)
      have HTK : Hid ((ps.take (k + 1)).map altB = (ps.take k).map altB ++ [altB ps[k]]) := Lib.hid (by rw [List.take_succ_eq_append_getElem hlt, List.map_append]; rfl)
      have HAS : Hid (altOk ps[k] = true → (ps.take (k + 1)).all altOk = true) := Lib.hid (fun h => by rw [List.take_succ_eq_append_getElem hlt, List.all_append, HAL.out]; simp [h])
      generalize altOk ps[k] = ak at HAK HX3 HAS
      generalize altB ps[k] = ab at HAK HTK
      clear HN3 HA
      rw [hlen]
      cases ak with
      | false =>
        go_wp2_with fail
        refine (HAK.out _).mono ?_
        rintro e w3 ⟨x, y, rfl, hxy, hb3⟩
        have B3 := hb.trans (hb3.mono hb.size)
        have B4 := B3.alloc B3.size (.cells #[.string x, .string y] 73)
        go_wp2_with fail
        exact HB1.out _ _ (HX3.out (by trivial)) (Bnds.emptyAt _ _ _ (by simp) (by have := B3.size; omega)) (B4.alloc B4.size _)
      | true =>
        go_wp2_with fail
        refine (HAK.out _).mono ?_
        rintro e w3 ⟨x, y, rfl, hxy, hb3⟩
        obtain ⟨rfl, rfl⟩ := hxy rfl
        have B3 := hb.trans (hb3.mono hb.size)
        have hB3 := hB.below hb3
        have hS3 := hSr.below hb3
        clear hb3 hb hB hSr hxy d
        go_wp2_with (at_builtin; refine wpList_append_bd rfl _ _ rfl w.heap.size _ ((ps.take k).map altB) rfl ((hB3.alloc _).alloc _) ab (w3.heap.size + 1) _ _ _ rfl (heap_new (by simp) _) (by rw [hlen]; omega) (by have := B3.size; simp; omega) ?_; intro g5 cap5 w5 hown5 hb5 hor5)
        have B5 := ((B3.alloc B3.size (.cells #[.string ⟨ab.1.toArray⟩, .string ⟨ab.2.toArray⟩] 73)).alloc (by have := B3.size; simp; omega) (.cells #[.string ⟨ab.1.toArray⟩, .string ⟨ab.2.toArray⟩] 73))
        have B6 := gr_belowN B5 hb5 B5.size (fun b hb => hB3.owned b hb)
        have hS5 := (((rds_alloc2 hS3 _ _)).grown hb5 (fun b hbb e => hne b e.symm (by have := own_some b hbb; exact this)))
        have hg5 : ∀ b, (Value.slice (some ⟨g5, 0, none⟩) (k + 1) cap5).ownBlock = some b → b ≠ g := fun b hbb e => by
          have e1 := own_some b hbb
          rcases hor5 with h5 | h5
          · exact hne g5 h5 (by omega)
          · have hg3 := hS3.block_lt g rfl
            simp at h5; omega
        clear hb5 hor5 B5 B3 hB3 hS3 hne
        go_wp2_with fail
        go_roundw
        case rel => exact ⟨k + 1, by omega, by go_num, by rw [HTK.out]; rw [hlen] at hown5; exact hown5, hg5, Lib.hid (HAS.out (by trivial)), hS5, B6⟩
        case measure => simp [intOf]; omega
    · obtain rfl : k = ps.length := by omega
      have HFIN := Lib.hid (HAL.out)
      rw [List.take_length] at HFIN hB
      go_wp2_with fail
      exact HB2.out _ _ (HY.out (by omega) (by omega) HFIN.out) (by rw [hlen]; exact hB) hb

set_option maxRecDepth 100000 in
set_option maxHeartbeats 4000000 in
theorem implReadRange_any (l : List UInt8) (m : Int) (w : World) (hl : l.length ≤ 1048576) (ht : Tab w) (hm : w.cell? ⟨0, 0, none⟩ = some (.int .i64 m)) :
    Calls Tryz.prog 16 #[.string ⟨l.toArray⟩] w (RgIs w l) := by
  obtain ⟨s, hs⟩ : ∃ s : ByteArray, s = ⟨l.toArray⟩ := ⟨_, rfl⟩
  have hd : s.data.toList = l := by rw [hs]
  have hz : s.size = l.length := by rw [hs]; exact size_of l
  have HP := Lib.hid (fun (W : World) (h : Below w.heap.size w W) => split_any s m W (by omega) (keepC h hm))
  rw [hd] at HP
  rw [← hs]
  have HMEM := Lib.hid (rgPs_mem l)
  have hpl : (rgPs l).length ≤ l.length + 1 + 1048576 := by
    have := splitK_len orSep (Lib.count l orSep) l
    have h2 : Lib.count l orSep ≤ l.length := by
      have := Lib.countB_le ⟨#[32, 124, 124, 32]⟩ (by decide) s.size s (Nat.le_refl _)
      rw [hz] at this
      have e : Lib.countB s ⟨#[32, 124, 124, 32]⟩ = Lib.count l orSep := by rw [← hd]; rfl
      rw [e] at this; exact this
    unfold rgPs Lib.split; omega
  have HN1 := Lib.hid (fun h => rg_no1 (l := l) h)
  have HN2 := Lib.hid (fun h => rg_no2 (l := l) h)
  have HN3 := Lib.hid (fun (k : Nat) (hk : k < (rgPs l).length) h => rg_no3 (l := l) k hk h)
  have HY := Lib.hid (fun h1 h2 h3 => rg_yes (l := l) h1 h2 h3)
  have HB1 := Lib.hid (fun (w' : World) (u : Value) (h : rgOk l = false) (hS : Bnds w' w.heap.size u []) (hb : Below w.heap.size w w') => rgIs_bad h hS hb)
  have HB2 := Lib.hid (fun (w' : World) (u : Value) (h : rgOk l = true) (hS : Bnds w' w.heap.size u ((rgPs l).map altB)) (hb : Below w.heap.size w w') => rgIs_good h hS hb)
  have hL : l.length = s.size := hz.symm
  rw [hL] at HMEM HN1 HY hpl hl
  generalize rgPs l = ps at HP HMEM HN2 HN3 HY HB2 hpl
  generalize rgOk l = ok at HN1 HN2 HN3 HY HB1 HB2
  generalize RgIs w l = RI at HB1 HB2 ⊢
  clear hs hd hz hL
  by_cases hbig : 200 < s.size
  · have B1 : Below w.heap.size w (w.alloc (.cells #[] 73)) := (Below.refl _ _).alloc (Nat.le_refl _) _
    have hown := Bnds.empty w w.heap.size (Nat.le_refl _)
    go_enter Tryz.func16, Tryz.ntmps16
    go_wp2_with fail
    exact HB1.out _ _ (HN1.out (by omega)) hown B1
  have HA := Lib.hid (fun (k : Nat) (hk : k < ps.length) (W : World) (h : Below w.heap.size w W) => readAlternative_any ps[k] m W (by have := HMEM.out _ (List.getElem_mem hk); omega) (tab_below ht h) (keepC h hm))
  have B1 : Below w.heap.size w (w.alloc (.cells #[] 73)) := (Below.refl _ _).alloc (Nat.le_refl _) _
  have hown := Bnds.empty w w.heap.size (Nat.le_refl _)
  clear ht hm
  go_enter Tryz.func16, Tryz.ntmps16
  go_wp2_with fail
  refine (HP.out _ B1).mono ?_
  rintro e w1 ⟨g, cap, rfl, hS, hb1⟩
  have hgw : w.heap.size < g := by have := hS.lo; simp at this; omega
  have B2 := B1.trans (hb1.mono B1.size)
  have hown2 := hown.below hb1
  clear hb1 B1 hown HP
  go_wp2_with fail
  go_loopw [4, 17] (fun v i wr => ∃ k : Nat, k ≤ ps.length ∧ i = .int .i64 k ∧ Bnds wr w.heap.size v ((ps.take k).map altB) ∧ (∀ b, v.ownBlock = some b → b ≠ g) ∧ Hid ((ps.take k).all altOk = true) ∧ Strs wr (w.heap.size + 1) (.slice (some ⟨g, 0, none⟩) ps.length cap) ps ∧ Below w.heap.size w wr ∧ k ≤ 8) (fun _ i _ => ps.length - (intOf i).toNat)
  case atStart => exact ⟨0, Nat.zero_le _, rfl, by simpa using hown2, fun b hb => by have := own_some b hb; omega, Lib.hid rfl, by simpa using hS, B2, by omega⟩
  case round =>
    obtain ⟨k, hk, rfl, hB, hne, HAL, hSr, hb, hk8⟩ := hrel
    clear hS hown2 B2
    obtain ⟨V, vc, rfl⟩ := hB.slice
    have hlen : ((ps.take k).map altB).length = k := by simp; omega
    rw [hlen] at hB hne
    by_cases hlt : k < ps.length
    · have d := hSr.cell k hlt
      have k0 : (0 : Int) ≤ (k : Int) := by omega
      have k1 : (k : Int) < (ps.length : Int) := by omega
      have HAK := Lib.hid (fun (W : World) (h : Below w.heap.size w W) => HA.out k hlt W h)
      have HX3 := Lib.hid (HN3.out k hlt)
      have HTK : Hid ((ps.take (k + 1)).map altB = (ps.take k).map altB ++ [altB ps[k]]) := Lib.hid (by rw [List.take_succ_eq_append_getElem hlt, List.map_append]; rfl)
      have HAS : Hid (altOk ps[k] = true → (ps.take (k + 1)).all altOk = true) := Lib.hid (fun h => by rw [List.take_succ_eq_append_getElem hlt, List.all_append, HAL.out]; simp [h])
      generalize altOk ps[k] = ak at HAK HX3 HAS
      generalize altB ps[k] = ab at HAK HTK
      clear HN3 HA
      rw [hlen]
      cases ak with
      | false =>
        go_wp2_with fail
        refine (HAK.out _ hb).mono ?_
        rintro e w3 ⟨x, y, rfl, hxy, hb3⟩
        have B3 := hb.trans (hb3.mono hb.size)
        have B4 := B3.alloc B3.size (.cells #[.string x, .string y] 73)
        go_wp2_with fail
        exact HB1.out _ _ (HX3.out (by trivial)) (Bnds.emptyAt _ _ _ (by simp) (by have := B3.size; omega)) (B4.alloc B4.size _)
      | true =>
        by_cases hk9 : k = 8
        · have HX8 : Hid (ok = false) := Lib.hid (HN2.out (by omega))
          have b8 : ((k : Int) == 8) = true := by rw [hk9]; rfl
          have HK9 := Lib.hid hk9
          clear hk9
          go_wp2_with fail
          refine (HAK.out _ hb).mono ?_
          rintro e w3 ⟨x, y, rfl, hxy, hb3⟩
          obtain ⟨rfl, rfl⟩ := hxy rfl
          have B3 := hb.trans (hb3.mono hb.size)
          have B4 := B3.alloc B3.size (.cells #[.string ⟨ab.1.toArray⟩, .string ⟨ab.2.toArray⟩] 73)
          go_wp2_with fail
          exact HB1.out _ _ HX8.out (Bnds.emptyAt _ _ _ (by simp) (by have := B3.size; omega)) (B4.alloc B4.size _)
        have b8 : ((k : Int) == 8) = false := int_beq_false (by omega)
        go_wp2_with fail
        refine (HAK.out _ hb).mono ?_
        rintro e w3 ⟨x, y, rfl, hxy, hb3⟩
        obtain ⟨rfl, rfl⟩ := hxy rfl
        have B3 := hb.trans (hb3.mono hb.size)
        have hB3 := hB.below hb3
        have hS3 := hSr.below hb3
        clear hb3 hb hB hSr hxy d
        go_wp2_with (at_builtin; refine wpList_append_bd rfl _ _ rfl w.heap.size _ ((ps.take k).map altB) rfl ((hB3.alloc _).alloc _) ab (w3.heap.size + 1) _ _ _ rfl (heap_new (by simp) _) (by rw [hlen]; omega) (by have := B3.size; simp; omega) ?_; intro g5 cap5 w5 hown5 hb5 hor5)
        have B5 := ((B3.alloc B3.size (.cells #[.string ⟨ab.1.toArray⟩, .string ⟨ab.2.toArray⟩] 73)).alloc (by have := B3.size; simp; omega) (.cells #[.string ⟨ab.1.toArray⟩, .string ⟨ab.2.toArray⟩] 73))
        have B6 := gr_belowN B5 hb5 B5.size (fun b hb => hB3.owned b hb)
        have hS5 := (((rds_alloc2 hS3 _ _)).grown hb5 (fun b hbb e => hne b e.symm (by have := own_some b hbb; exact this)))
        have hg5 : ∀ b, (Value.slice (some ⟨g5, 0, none⟩) (k + 1) cap5).ownBlock = some b → b ≠ g := fun b hbb e => by
          have e1 := own_some b hbb
          rcases hor5 with h5 | h5
          · exact hne g5 h5 (by omega)
          · have hg3 := hS3.block_lt g rfl
            simp at h5; omega
        clear hb5 hor5 B5 B3 hB3 hS3 hne
        go_wp2_with fail
        go_roundw
        case rel => exact ⟨k + 1, by omega, by go_num, by rw [HTK.out]; rw [hlen] at hown5; exact hown5, hg5, Lib.hid (HAS.out (by trivial)), hS5, B6, by omega⟩
        case measure => simp [intOf]; omega
    · obtain rfl : k = ps.length := by omega
      have HFIN := Lib.hid (HAL.out)
      rw [List.take_length] at HFIN hB
      go_wp2_with fail
      exact HB2.out _ _ (HY.out (by omega) (by omega) HFIN.out) (by rw [hlen]; exact hB) hb
end Go.Proofs.YtongpnknmgbhjaaGreatDoor

/-
  impl.NameOk returns whether a string is a package name, as spec.NameOk does.
-/
namespace Go.Proofs.YtongpnknmgbhjaaGreatDoor
open Go.RowKit Go.Shelf
attribute [local go_sem] Oper.semAt_some

theorem name_waysI (z : Int) : lowI z = true ∨ (lowI z = false ∧ digI z = true) ∨ (lowI z = false ∧ digI z = false ∧ (z == 46) = true) ∨ (lowI z = false ∧ digI z = false ∧ (z == 46) = false ∧ (z == 95) = true) ∨ (lowI z = false ∧ digI z = false ∧ (z == 46) = false ∧ (z == 95) = false ∧ (z == 45) = true) ∨ (lowI z = false ∧ digI z = false ∧ (z == 46) = false ∧ (z == 95) = false ∧ (z == 45) = false) := by
  cases lowI z <;> cases digI z <;> simp <;> omega
theorem name_yesI {z : Int} (h : lowI z = true ∨ digI z = true ∨ (z == 46) = true ∨ (z == 95) = true ∨ (z == 45) = true) : nameI z = true := by
  unfold lowI digI at h; unfold nameI; simp at h ⊢; omega
theorem name_noI {z : Int} (h : lowI z = false ∧ digI z = false ∧ (z == 46) = false ∧ (z == 95) = false ∧ (z == 45) = false) : nameI z = false := by
  unfold lowI digI at h; unfold nameI; simp at h ⊢; omega

set_option maxRecDepth 100000 in
set_option maxHeartbeats 2000000 in
theorem componentOk_any (q : ByteArray) (w : World) (hq : q.size ≤ 1048576) : Calls Tryz.prog 173 #[.string q] w fun e w' => e = .returned (.bool (compL q.data.toList)) ∧ w = w' := by
  go_enter Tryz.func173, Tryz.ntmps173
  go_wp2
  go_loop [3, 6] (fun _ k => ∃ m : Nat, m ≤ q.size ∧ k = .int .i64 m ∧ Hid ((q.data.toList.take m).all nameB = true)) (fun _ k => q.size - (intOf k).toNat)
  case atStart => exact ⟨0, Nat.zero_le _, rfl, Lib.hid (by simp)⟩
  case round =>
    obtain ⟨m, hm, rfl, HA⟩ := hrel
    by_cases hml : m < q.size
    · have c1 := (byte_lt q[m]).1
      have c2 := (byte_lt q[m]).2
      rcases name_waysI (q[m].toNat : Int) with z | ⟨z, y⟩ | ⟨z, y, z1⟩ | ⟨z, y, z1, z2⟩ | ⟨z, y, z1, z2, z3⟩ | ⟨z, y, z1, z2, z3⟩
      case inl =>
        have HY := Lib.hid (all_go q m nameB hml HA.out (name_yesI (.inl z)))
        have HS := Lib.hid z
        clear z
        go_wp2_with fail
        refine (isLower_any _ _ c2 c1).mono ?_
        rw [HS.out]
        rintro e w' ⟨rfl, rfl⟩
        go_wp2_with (go_at_call 208; fail)
        go_round
        case rel => exact ⟨m + 1, by omega, by go_num, HY⟩
        case measure => simp [intOf]; omega
      case inr.inl =>
        have HY := Lib.hid (all_go q m nameB hml HA.out (name_yesI (.inr (.inl y))))
        have HS := Lib.hid z
        have HT := Lib.hid y
        clear z y
        go_wp2_with fail
        refine (isLower_any _ _ c2 c1).mono ?_
        rw [HS.out]
        rintro e w' ⟨rfl, rfl⟩
        go_wp2_with fail
        refine (isDigit_any _ _ c2 c1).mono ?_
        rw [HT.out]
        rintro e w' ⟨rfl, rfl⟩
        go_wp2_with fail
        go_round
        case rel => exact ⟨m + 1, by omega, by go_num, HY⟩
        case measure => simp [intOf]; omega
      case inr.inr.inr.inr.inr =>
        have HX := Lib.hid (compL_bad (all_no q m nameB hml (name_noI ⟨z, y, z1, z2, z3⟩)))
        have HS := Lib.hid z
        have HT := Lib.hid y
        have y1 := bne_of_beq z1
        have y2 := bne_of_beq z2
        have y3 := bne_of_beq z3
        clear z y z1 z2 z3
        go_wp2_with fail
        refine (isLower_any _ _ c2 c1).mono ?_
        rw [HS.out]
        rintro e w' ⟨rfl, rfl⟩
        go_wp2_with fail
        refine (isDigit_any _ _ c2 c1).mono ?_
        rw [HT.out]
        rintro e w' ⟨rfl, rfl⟩
        go_wp2_with fail
        go_ret
        exact ⟨ret_bool HX.out.symm, rfl⟩
      all_goals
        have HY := Lib.hid (all_go q m nameB hml HA.out (name_yesI (by simp only [z1] at *; first | exact .inr (.inr (.inl trivial)) | exact .inr (.inr (.inr (.inl z2))) | exact .inr (.inr (.inr (.inr z3))))))
        have HS := Lib.hid z
        have HT := Lib.hid y
        have y1 := bne_of_beq z1
        try have y2 := bne_of_beq z2
        try have y3 := bne_of_beq z3
        clear z y z1
        try clear z2
        try clear z3
        go_wp2_with fail
        refine (isLower_any _ _ c2 c1).mono ?_
        rw [HS.out]
        rintro e w' ⟨rfl, rfl⟩
        go_wp2_with fail
        refine (isDigit_any _ _ c2 c1).mono ?_
        rw [HT.out]
        rintro e w' ⟨rfl, rfl⟩
        go_wp2_with fail
        go_round
        case rel => exact ⟨m + 1, by omega, by go_num, HY⟩
        case measure => simp [intOf]; omega
    · have HA2 := HA.out
      rw [take_end q m hml] at HA2
      by_cases hqe : q.data.toList.isEmpty = true
      · have HX := Lib.hid (compL_empty hqe)
        have e9 : q.toList.isEmpty = true := by rw [ByteArray.toList_eq]; exact hqe
        clear hqe HA2
        go_wp2_with fail
        go_ret
        exact ⟨ret_bool HX.out.symm, rfl⟩
      · have hqe' : q.data.toList.isEmpty = false := by simpa using hqe
        have HX := Lib.hid (compL_good hqe' HA2)
        have e9 : q.toList.isEmpty = false := by rw [ByteArray.toList_eq]; exact hqe'
        clear hqe hqe' HA2
        go_wp2_with fail
        go_ret
        exact ⟨ret_bool HX.out.symm, rfl⟩
end Go.Proofs.YtongpnknmgbhjaaGreatDoor

/-
  impl.NameOk returns whether a string is a package name, as spec.NameOk does.
-/
namespace Go.Proofs.YtongpnknmgbhjaaGreatDoor
open Go.RowKit Go.Shelf
attribute [local go_sem] Oper.semAt_some

def partsOk (sc : Bool) : List (List UInt8) → Bool
  | [] => true
  | p :: ps => chk sc p && ps.all (chk false)
theorem partsOk_snoc (sc : Bool) (pre : List (List UInt8)) (x : List UInt8) : partsOk sc (pre ++ [x]) = (partsOk sc pre && chk (sc && pre.isEmpty) x) := by
  cases pre with
  | nil => simp [partsOk]
  | cons p ps => simp [partsOk, Bool.and_assoc]
theorem map_empty (pre : List Part) : (pre.map Subtype.val).isEmpty = pre.isEmpty := by cases pre <;> rfl
theorem partsOk_prefix {sc : Bool} {pre P : List (List UInt8)} (h : pre <+: P) (hb : partsOk sc pre = false) : partsOk sc P = false := by
  obtain ⟨t, rfl⟩ := h
  cases pre with
  | nil => simp [partsOk] at hb
  | cons p ps =>
    simp only [partsOk, List.cons_append, List.all_append] at hb ⊢
    rw [Bool.and_eq_false_iff] at hb ⊢
    rcases hb with hb | hb
    · exact .inl hb
    · right; rw [hb]; rfl

set_option maxRecDepth 100000 in
set_option maxHeartbeats 4000000 in
theorem implNameOk_plain (n : Nat) (hn : 4 ≤ n) (s r : ByteArray) (w : World) (h0 : 0 < s.size) (h60 : s.size ≤ 60) (e1 : ((s[0].toNat : Int) == 64) = false) (hsr : r = s) (hr : r.size ≤ 60) :
    CallsIn Fence.wide n Tryz.prog 117 #[.string s] w fun e W' => e = .returned (.bool (partsOk false (cutL 47 r.data.toList))) ∧ Below w.heap.size w W' := by
  have h1 : 1 ≤ n := by omega
  have hn2 : 1 ≤ n - 1 - 1 := by omega
  subst hsr
  have t1 : decide ((r.size : Int) < 1) = false := by simp; omega
  have t2 : decide ((60 : Int) < (r.size : Int)) = false := by simp; omega
  refine callsIn_of_wp_marks Tryz.func117 rfl trivial ?_ rfl
  simp only [Tryz.ntmps117, List.size_toArray, List.length_cons, List.length_nil, Nat.reduceAdd, Nat.reduceSub, Array.replicate_succ, Array.replicate_zero, List.push_toArray, List.append_toArray, List.nil_append, List.cons_append]
  gi_wp2_with (refine ⟨trivial, ?_⟩; gi_at_call 172; refine (partsOf_in _ _ _ _).mono ?_; rintro e w' ⟨rfl, rfl⟩)
  have b1 := Boxed.new w 4 (.bool false)
  have b2 := Boxed.new (w.alloc (.cells #[.bool false] 4)) 4 (.bool false)
  have b3 := Boxed.new ((w.alloc (.cells #[.bool false] 4)).alloc (.cells #[.bool false] 4)) 9 (.string r)
  have b4 := Boxed.new (((w.alloc (.cells #[.bool false] 4)).alloc (.cells #[.bool false] 4)).alloc (.cells #[.string r] 9)) 5 (.int .u8 47)
  simp only [World.size_alloc] at b2 b3 b4
  have hB0 : Below w.heap.size w ((((w.alloc (.cells #[.bool false] 4)).alloc (.cells #[.bool false] 4)).alloc (.cells #[.string r] 9)).alloc (.cells #[.int .u8 47] 5)) := ((((Below.refl _ w).alloc (Nat.le_refl _) _).alloc (by simp) _).alloc (by simp; omega) _).alloc (by simp; omega) _
  have b1' := ((b1.alloc (.cells #[.bool false] 4)).alloc (.cells #[.string r] 9)).alloc (.cells #[.int .u8 47] 5)
  have b2' := (b2.alloc (.cells #[.string r] 9)).alloc (.cells #[.int .u8 47] 5)
  have b3' := b3.alloc (.cells #[.int .u8 47] 5)
  clear b1 b2 b3
  obtain ⟨W0, hW0⟩ : ∃ W0, ((((w.alloc (.cells #[.bool false] 4)).alloc (.cells #[.bool false] 4)).alloc (.cells #[.string r] 9)).alloc (.cells #[.int .u8 47] 5)) = W0 := ⟨_, rfl⟩
  have hsz : W0.heap.size = w.heap.size + 4 := by rw [← hW0]; simp
  rw [hW0] at b1' b2' b3' b4 hB0 ⊢
  clear hW0
  have HSZ := Lib.hid hsz
  clear hsz
  refine wpIn_rangeFunc_ownF rfl h1 (gf := 206) (lb := #[.pointer (some ⟨w.heap.size + 1 + 1, 0, none⟩), .pointer (some ⟨w.heap.size + 1 + 1 + 1, 0, none⟩)]) rfl trivial (enters_of Tryz.func206 (by kernel_rfl) rfl)
    (parts_stops (n - 1) (by omega) (w.heap.size + 1 + 1) (w.heap.size + 1 + 1 + 1) r 47 (by omega) W0 (by rw [HSZ.out]; omega) (by rw [HSZ.out]; omega) b3' b4) kpB_t (kpB_b (by rw [HSZ.out]; omega) (by rw [HSZ.out]; omega)) (Below.refl _ _) (fun _ => rfl)
    (fun pre W => ((partsOk false (pre.map Subtype.val) = true ∧ Boxed W w.heap.size 4 (.bool false)) ∧ Boxed W (w.heap.size + 1) 4 (.bool (false && pre.isEmpty))) ∧ Below w.heap.size w W)
    (fun c pre W => ((c = .ret ∧ partsOk false (pre.map Subtype.val) = false) ∧ Boxed W w.heap.size 4 (.bool false)) ∧ Below w.heap.size w W)
    (OwnFrom.and (OwnFrom.and (OwnFrom.and (ownFrom_pure _ _) (Own.from (boxed_own _ _ _) _)) (Own.from (boxed_own _ _ _) _)) (ownFrom_below (Nat.le_refl _) (by rw [HSZ.out]; omega)))
    (fun c => OwnFrom.and (OwnFrom.and (ownFrom_pure _ _) (Own.from (boxed_own _ _ _) _)) (ownFrom_below (Nat.le_refl _) (by rw [HSZ.out]; omega)))
    ⟨⟨⟨rfl, b1'⟩, b2'⟩, hB0⟩
    (fun x => { tmps := #[.string r, undef, .pointer (some ⟨w.heap.size, 0, none⟩), .pointer (some ⟨w.heap.size + 1, 0, none⟩), .string ⟨x.1.toArray⟩, .string r, .int .i64 r.size, .bool false, .bool false, .string r, .int .i64 r.size, .bool false, .bool false, .string r, .int .u8 r[0].toNat, .bool false, .bool false, undef, undef, .string r, .func (.func 206) #[] #[.pointer (some ⟨w.heap.size + 1 + 1, 0, none⟩), .pointer (some ⟨w.heap.size + 1 + 1 + 1, 0, none⟩)], .string ⟨x.1.toArray⟩, undef, undef, undef, undef, undef, undef, undef, undef, undef, undef, undef], defers := [] }) ?assign ?body ?done ?stop
  case assign =>
    intro l x W K hK
    unfold partV
    gi_wp2
    exact hK
  case body =>
    rintro l pre x W ⟨⟨⟨hg, hR⟩, hC⟩, hB⟩ _
    have HG := Lib.hid hg
    have cR := hR.cell
    have fR := hR.frozen
    have cC := hC.cell
    have fC := hC.frozen
    obtain ⟨b, hbE⟩ : ∃ b : ByteArray, b = ⟨x.1.toArray⟩ := ⟨_, rfl⟩
    have hbl : b.data.toList = x.1 := by rw [hbE]
    have hbs : b.size ≤ 1048576 := by rw [hbE]; show x.1.toArray.size ≤ _; simpa using x.2
    rw [← hbE]
    have HBL := Lib.hid hbl
    have hIE : (false && (pre ++ [x]).isEmpty) = false := by simp
    have HSN : Hid (partsOk false ((pre ++ [x]).map Subtype.val) = chk (false && pre.isEmpty) x.1) := Lib.hid (by rw [List.map_append, List.map_cons, List.map_nil, partsOk_snoc, hg, map_empty]; rfl)
    have HK1 : Hid (∀ u, KpB (w.heap.size + 1 + 1) (w.heap.size + 1 + 1 + 1) W (W.setCell ⟨w.heap.size + 1, 0, none⟩ u)) := Lib.hid (fun u => ⟨Below.heap_setCell _ _ _ _ (by simp), Below.heap_setCell _ _ _ _ (by simp; omega)⟩)
    clear hg hbE hbl
    by_cases hcl : compL b.data.toList = true
    · have HCL := Lib.hid hcl
      by_cases hnm : (b.data.toList == nmL) = true
      · have e2 : (b.toList == [110, 111, 100, 101, 95, 109, 111, 100, 117, 108, 101, 115]) = true := by rw [ByteArray.toList_eq]; exact hnm
        have HCH : Hid (chk (false && pre.isEmpty) x.1 = (false && pre.isEmpty)) := Lib.hid (by rw [← HBL.out]; unfold chk; rw [hcl, hnm]; simp)
        clear hcl hnm
        cases hcur : (false && pre.isEmpty) with
        | true =>
          have HCU : Hid (partsOk false ((pre ++ [x]).map Subtype.val) = true) := Lib.hid (by rw [HSN.out, HCH.out, hcur])
          rw [hcur] at cC hC
          clear hcur
          gi_wp2_with (refine ⟨trivial, ?_⟩; gi_at_call 173; refine (CallsIn.inRound l (callsIn_wide.2 (componentOk_any b _ hbs))).mono ?_; rw [HCL.out]; rintro e w' ⟨rfl, rfl⟩)
          exact ⟨KeepsOthers.setCell _ _ _, HK1.out _, ⟨⟨HCU.out, hR.other (by omega) _⟩, by rw [hIE]; exact hC.set _⟩, hB.setCell (p := ⟨w.heap.size + 1, 0, none⟩) (by simp) _⟩
        | false =>
          have HCU : Hid (partsOk false ((pre ++ [x]).map Subtype.val) = false) := Lib.hid (by rw [HSN.out, HCH.out, hcur])
          rw [hcur] at cC hC
          clear hcur
          gi_wp2_with (refine ⟨trivial, ?_⟩; gi_at_call 173; refine (CallsIn.inRound l (callsIn_wide.2 (componentOk_any b _ hbs))).mono ?_; rw [HCL.out]; rintro e w' ⟨rfl, rfl⟩)
          exact ⟨KeepsOthers.setCell _ _ _, ⟨⟨rfl, HCU.out⟩, hR.set _⟩, hB.setCell (p := ⟨w.heap.size, 0, none⟩) (by simp) _⟩
      · have hnm' : (b.data.toList == nmL) = false := by simpa using hnm
        have e2 : (b.toList == [110, 111, 100, 101, 95, 109, 111, 100, 117, 108, 101, 115]) = false := by rw [ByteArray.toList_eq]; exact hnm'
        have HCU : Hid (partsOk false ((pre ++ [x]).map Subtype.val) = true) := Lib.hid (by rw [HSN.out, ← HBL.out]; unfold chk; rw [hcl, hnm']; simp)
        clear hcl hnm hnm'
        generalize (false && pre.isEmpty) = cur at cC hC
        gi_wp2_with (refine ⟨trivial, ?_⟩; gi_at_call 173; refine (CallsIn.inRound l (callsIn_wide.2 (componentOk_any b _ hbs))).mono ?_; rw [HCL.out]; rintro e w' ⟨rfl, rfl⟩)
        exact ⟨KeepsOthers.setCell _ _ _, HK1.out _, ⟨⟨HCU.out, hR.other (by omega) _⟩, by rw [hIE]; exact hC.set _⟩, hB.setCell (p := ⟨w.heap.size + 1, 0, none⟩) (by simp) _⟩
    · have hcl' : compL b.data.toList = false := by simpa using hcl
      have HCL := Lib.hid hcl'
      have HCU : Hid (partsOk false ((pre ++ [x]).map Subtype.val) = false) := Lib.hid (by rw [HSN.out, ← HBL.out]; unfold chk; rw [hcl']; simp)
      clear hcl hcl'
      generalize (false && pre.isEmpty) = cur at cC hC
      gi_wp2_with (refine ⟨trivial, ?_⟩; gi_at_call 173; refine (CallsIn.inRound l (callsIn_wide.2 (componentOk_any b _ hbs))).mono ?_; rw [HCL.out]; rintro e w' ⟨rfl, rfl⟩)
      exact ⟨KeepsOthers.setCell _ _ _, ⟨⟨rfl, HCU.out⟩, hR.set _⟩, hB.setCell (p := ⟨w.heap.size, 0, none⟩) (by simp) _⟩
  case done =>
    rintro D ys W hD hys ⟨⟨⟨hg, hR⟩, hC⟩, hB⟩ hK
    rw [hys] at hg
    have HG := Lib.hid hg
    clear hg hys
    have cR := hR.cell
    have fR := hR.frozen
    gi_wp2
    have hK' := (KeepsOthers.setCell W ⟨w.heap.size, 0, none⟩ (.bool true)).same D _ hK rfl
    refine ⟨by simp, .inl ⟨_, _, rfl, run_takeDeferred hK', ?_⟩⟩
    have hc5 := cell_kept (hR.set (.bool true)).cell (grownBy_putObj' _ D (.deferred none)) (fun r e => by cases e; exact ⟨_, hK', rfl⟩)
    refine ⟨.bool true, ?_, by rw [HG.out], (hB.setCell (p := ⟨w.heap.size, 0, none⟩) (by simp) _).trans (belowK_b (w := w) (Nat.le_refl _) _ D _ _ (by have := HSZ.out; omega) hK' rfl rfl)⟩
    simp [results, Tryz.f117, go_sem, hc5]
  case stop =>
    rintro D c pre W hD hpre ⟨⟨⟨rfl, hbad⟩, hR⟩, hB⟩ hK
    have HG := Lib.hid (partsOk_prefix hpre hbad)
    clear hpre hbad
    gi_wp2
    refine ⟨by simp, .inl ⟨_, _, rfl, run_takeDeferred hK, ?_⟩⟩
    have hc5 := cell_kept hR.cell (grownBy_putObj' _ D (.deferred none)) (fun r e => by cases e; exact ⟨_, hK, rfl⟩)
    refine ⟨.bool false, ?_, by rw [HG.out], hB.trans (belowK_b (w := w) (Nat.le_refl _) W D _ _ (by have := HSZ.out; omega) hK rfl rfl)⟩
    simp [results, Tryz.f117, go_sem, hc5]

set_option maxRecDepth 100000 in
set_option maxHeartbeats 4000000 in
theorem implNameOk_scoped (n : Nat) (hn : 4 ≤ n) (s r : ByteArray) (w : World) (h0 : 0 < s.size) (h60 : s.size ≤ 60) (e1 : ((s[0].toNat : Int) == 64) = true) (he : ∀ W, (Instr.slice 9 (.string s) (some (.int .i64 1)) none none).run Tryz.prog W = .ok (.string r) W) (hr : r.size ≤ 60) :
    CallsIn Fence.wide n Tryz.prog 117 #[.string s] w fun e W' => e = .returned (.bool (partsOk true (cutL 47 r.data.toList))) ∧ Below w.heap.size w W' := by
  have h1 : 1 ≤ n := by omega
  have hn2 : 1 ≤ n - 1 - 1 := by omega
  have t1 : decide ((s.size : Int) < 1) = false := by simp; omega
  have t2 : decide ((60 : Int) < (s.size : Int)) = false := by simp; omega
  refine callsIn_of_wp_marks Tryz.func117 rfl trivial ?_ rfl
  simp only [Tryz.ntmps117, List.size_toArray, List.length_cons, List.length_nil, Nat.reduceAdd, Nat.reduceSub, Array.replicate_succ, Array.replicate_zero, List.push_toArray, List.append_toArray, List.nil_append, List.cons_append]
  gi_wp2_with (refine ⟨trivial, ?_⟩; gi_at_call 172; refine (partsOf_in _ _ _ _).mono ?_; rintro e w' ⟨rfl, rfl⟩)
  have b1 := Boxed.new w 4 (.bool false)
  have b2 := Boxed.new (w.alloc (.cells #[.bool false] 4)) 4 (.bool true)
  have b3 := Boxed.new ((w.alloc (.cells #[.bool false] 4)).alloc (.cells #[.bool true] 4)) 9 (.string r)
  have b4 := Boxed.new (((w.alloc (.cells #[.bool false] 4)).alloc (.cells #[.bool true] 4)).alloc (.cells #[.string r] 9)) 5 (.int .u8 47)
  simp only [World.size_alloc] at b2 b3 b4
  have hB0 : Below w.heap.size w ((((w.alloc (.cells #[.bool false] 4)).alloc (.cells #[.bool true] 4)).alloc (.cells #[.string r] 9)).alloc (.cells #[.int .u8 47] 5)) := ((((Below.refl _ w).alloc (Nat.le_refl _) _).alloc (by simp) _).alloc (by simp; omega) _).alloc (by simp; omega) _
  have b1' := ((b1.alloc (.cells #[.bool true] 4)).alloc (.cells #[.string r] 9)).alloc (.cells #[.int .u8 47] 5)
  have b2' := (b2.alloc (.cells #[.string r] 9)).alloc (.cells #[.int .u8 47] 5)
  have b3' := b3.alloc (.cells #[.int .u8 47] 5)
  clear b1 b2 b3
  obtain ⟨W0, hW0⟩ : ∃ W0, ((((w.alloc (.cells #[.bool false] 4)).alloc (.cells #[.bool true] 4)).alloc (.cells #[.string r] 9)).alloc (.cells #[.int .u8 47] 5)) = W0 := ⟨_, rfl⟩
  have hsz : W0.heap.size = w.heap.size + 4 := by rw [← hW0]; simp
  rw [hW0] at b1' b2' b3' b4 hB0 ⊢
  clear hW0
  have HSZ := Lib.hid hsz
  clear hsz
  refine wpIn_rangeFunc_ownF rfl h1 (gf := 206) (lb := #[.pointer (some ⟨w.heap.size + 1 + 1, 0, none⟩), .pointer (some ⟨w.heap.size + 1 + 1 + 1, 0, none⟩)]) rfl trivial (enters_of Tryz.func206 (by kernel_rfl) rfl)
    (parts_stops (n - 1) (by omega) (w.heap.size + 1 + 1) (w.heap.size + 1 + 1 + 1) r 47 (by omega) W0 (by rw [HSZ.out]; omega) (by rw [HSZ.out]; omega) b3' b4) kpB_t (kpB_b (by rw [HSZ.out]; omega) (by rw [HSZ.out]; omega)) (Below.refl _ _) (fun _ => rfl)
    (fun pre W => ((partsOk true (pre.map Subtype.val) = true ∧ Boxed W w.heap.size 4 (.bool false)) ∧ Boxed W (w.heap.size + 1) 4 (.bool (true && pre.isEmpty))) ∧ Below w.heap.size w W)
    (fun c pre W => ((c = .ret ∧ partsOk true (pre.map Subtype.val) = false) ∧ Boxed W w.heap.size 4 (.bool false)) ∧ Below w.heap.size w W)
    (OwnFrom.and (OwnFrom.and (OwnFrom.and (ownFrom_pure _ _) (Own.from (boxed_own _ _ _) _)) (Own.from (boxed_own _ _ _) _)) (ownFrom_below (Nat.le_refl _) (by rw [HSZ.out]; omega)))
    (fun c => OwnFrom.and (OwnFrom.and (ownFrom_pure _ _) (Own.from (boxed_own _ _ _) _)) (ownFrom_below (Nat.le_refl _) (by rw [HSZ.out]; omega)))
    ⟨⟨⟨rfl, b1'⟩, b2'⟩, hB0⟩
    (fun x => { tmps := #[.string r, undef, .pointer (some ⟨w.heap.size, 0, none⟩), .pointer (some ⟨w.heap.size + 1, 0, none⟩), .string ⟨x.1.toArray⟩, .string s, .int .i64 s.size, .bool false, .bool false, .string s, .int .i64 s.size, .bool false, .bool false, .string s, .int .u8 s[0].toNat, .bool true, .bool true, .string s, .string r, .string r, .func (.func 206) #[] #[.pointer (some ⟨w.heap.size + 1 + 1, 0, none⟩), .pointer (some ⟨w.heap.size + 1 + 1 + 1, 0, none⟩)], .string ⟨x.1.toArray⟩, undef, undef, undef, undef, undef, undef, undef, undef, undef, undef, undef], defers := [] }) ?assign ?body ?done ?stop
  case assign =>
    intro l x W K hK
    unfold partV
    gi_wp2
    exact hK
  case body =>
    rintro l pre x W ⟨⟨⟨hg, hR⟩, hC⟩, hB⟩ _
    have HG := Lib.hid hg
    have cR := hR.cell
    have fR := hR.frozen
    have cC := hC.cell
    have fC := hC.frozen
    obtain ⟨b, hbE⟩ : ∃ b : ByteArray, b = ⟨x.1.toArray⟩ := ⟨_, rfl⟩
    have hbl : b.data.toList = x.1 := by rw [hbE]
    have hbs : b.size ≤ 1048576 := by rw [hbE]; show x.1.toArray.size ≤ _; simpa using x.2
    rw [← hbE]
    have HBL := Lib.hid hbl
    have hIE : (true && (pre ++ [x]).isEmpty) = false := by simp
    have HSN : Hid (partsOk true ((pre ++ [x]).map Subtype.val) = chk (true && pre.isEmpty) x.1) := Lib.hid (by rw [List.map_append, List.map_cons, List.map_nil, partsOk_snoc, hg, map_empty]; rfl)
    have HK1 : Hid (∀ u, KpB (w.heap.size + 1 + 1) (w.heap.size + 1 + 1 + 1) W (W.setCell ⟨w.heap.size + 1, 0, none⟩ u)) := Lib.hid (fun u => ⟨Below.heap_setCell _ _ _ _ (by simp), Below.heap_setCell _ _ _ _ (by simp; omega)⟩)
    clear hg hbE hbl
    by_cases hcl : compL b.data.toList = true
    · have HCL := Lib.hid hcl
      by_cases hnm : (b.data.toList == nmL) = true
      · have e2 : (b.toList == [110, 111, 100, 101, 95, 109, 111, 100, 117, 108, 101, 115]) = true := by rw [ByteArray.toList_eq]; exact hnm
        have HCH : Hid (chk (true && pre.isEmpty) x.1 = (true && pre.isEmpty)) := Lib.hid (by rw [← HBL.out]; unfold chk; rw [hcl, hnm]; simp)
        clear hcl hnm
        cases hcur : (true && pre.isEmpty) with
        | true =>
          have HCU : Hid (partsOk true ((pre ++ [x]).map Subtype.val) = true) := Lib.hid (by rw [HSN.out, HCH.out, hcur])
          rw [hcur] at cC hC
          clear hcur
          gi_wp2_with (refine ⟨trivial, ?_⟩; gi_at_call 173; refine (CallsIn.inRound l (callsIn_wide.2 (componentOk_any b _ hbs))).mono ?_; rw [HCL.out]; rintro e w' ⟨rfl, rfl⟩)
          exact ⟨KeepsOthers.setCell _ _ _, HK1.out _, ⟨⟨HCU.out, hR.other (by omega) _⟩, by rw [hIE]; exact hC.set _⟩, hB.setCell (p := ⟨w.heap.size + 1, 0, none⟩) (by simp) _⟩
        | false =>
          have HCU : Hid (partsOk true ((pre ++ [x]).map Subtype.val) = false) := Lib.hid (by rw [HSN.out, HCH.out, hcur])
          rw [hcur] at cC hC
          clear hcur
          gi_wp2_with (refine ⟨trivial, ?_⟩; gi_at_call 173; refine (CallsIn.inRound l (callsIn_wide.2 (componentOk_any b _ hbs))).mono ?_; rw [HCL.out]; rintro e w' ⟨rfl, rfl⟩)
          exact ⟨KeepsOthers.setCell _ _ _, ⟨⟨rfl, HCU.out⟩, hR.set _⟩, hB.setCell (p := ⟨w.heap.size, 0, none⟩) (by simp) _⟩
      · have hnm' : (b.data.toList == nmL) = false := by simpa using hnm
        have e2 : (b.toList == [110, 111, 100, 101, 95, 109, 111, 100, 117, 108, 101, 115]) = false := by rw [ByteArray.toList_eq]; exact hnm'
        have HCU : Hid (partsOk true ((pre ++ [x]).map Subtype.val) = true) := Lib.hid (by rw [HSN.out, ← HBL.out]; unfold chk; rw [hcl, hnm']; simp)
        clear hcl hnm hnm'
        generalize (true && pre.isEmpty) = cur at cC hC
        gi_wp2_with (refine ⟨trivial, ?_⟩; gi_at_call 173; refine (CallsIn.inRound l (callsIn_wide.2 (componentOk_any b _ hbs))).mono ?_; rw [HCL.out]; rintro e w' ⟨rfl, rfl⟩)
        exact ⟨KeepsOthers.setCell _ _ _, HK1.out _, ⟨⟨HCU.out, hR.other (by omega) _⟩, by rw [hIE]; exact hC.set _⟩, hB.setCell (p := ⟨w.heap.size + 1, 0, none⟩) (by simp) _⟩
    · have hcl' : compL b.data.toList = false := by simpa using hcl
      have HCL := Lib.hid hcl'
      have HCU : Hid (partsOk true ((pre ++ [x]).map Subtype.val) = false) := Lib.hid (by rw [HSN.out, ← HBL.out]; unfold chk; rw [hcl']; simp)
      clear hcl hcl'
      generalize (true && pre.isEmpty) = cur at cC hC
      gi_wp2_with (refine ⟨trivial, ?_⟩; gi_at_call 173; refine (CallsIn.inRound l (callsIn_wide.2 (componentOk_any b _ hbs))).mono ?_; rw [HCL.out]; rintro e w' ⟨rfl, rfl⟩)
      exact ⟨KeepsOthers.setCell _ _ _, ⟨⟨rfl, HCU.out⟩, hR.set _⟩, hB.setCell (p := ⟨w.heap.size, 0, none⟩) (by simp) _⟩
  case done =>
    rintro D ys W hD hys ⟨⟨⟨hg, hR⟩, hC⟩, hB⟩ hK
    rw [hys] at hg
    have HG := Lib.hid hg
    clear hg hys
    have cR := hR.cell
    have fR := hR.frozen
    gi_wp2
    have hK' := (KeepsOthers.setCell W ⟨w.heap.size, 0, none⟩ (.bool true)).same D _ hK rfl
    refine ⟨by simp, .inl ⟨_, _, rfl, run_takeDeferred hK', ?_⟩⟩
    have hc5 := cell_kept (hR.set (.bool true)).cell (grownBy_putObj' _ D (.deferred none)) (fun r e => by cases e; exact ⟨_, hK', rfl⟩)
    refine ⟨.bool true, ?_, by rw [HG.out], (hB.setCell (p := ⟨w.heap.size, 0, none⟩) (by simp) _).trans (belowK_b (w := w) (Nat.le_refl _) _ D _ _ (by have := HSZ.out; omega) hK' rfl rfl)⟩
    simp [results, Tryz.f117, go_sem, hc5]
  case stop =>
    rintro D c pre W hD hpre ⟨⟨⟨rfl, hbad⟩, hR⟩, hB⟩ hK
    have HG := Lib.hid (partsOk_prefix hpre hbad)
    clear hpre hbad
    gi_wp2
    refine ⟨by simp, .inl ⟨_, _, rfl, run_takeDeferred hK, ?_⟩⟩
    have hc5 := cell_kept hR.cell (grownBy_putObj' _ D (.deferred none)) (fun r e => by cases e; exact ⟨_, hK, rfl⟩)
    refine ⟨.bool false, ?_, by rw [HG.out], hB.trans (belowK_b (w := w) (Nat.le_refl _) W D _ _ (by have := HSZ.out; omega) hK rfl rfl)⟩
    simp [results, Tryz.f117, go_sem, hc5]

/-- What both return. -/
theorem spec_impl (l : List UInt8) (h0 : 0 < l.length) (h60 : l.length ≤ 60) : specN l = if l.head? = some 64 then partsOk true (cutL 47 l.tail) else partsOk false (cutL 47 l) := by
  unfold specN
  rw [decide_eq_true h60, Bool.and_true]
  match l, h0 with
  | c :: t, _ =>
    by_cases hc : c = 64
    · subst hc
      have hcut : cutL 47 (64 :: t) = attach [64] (cutL 47 t) := by rw [cutL, if_neg (by decide)]
      rw [if_pos (show (64 :: t).head? = some 64 from rfl), hcut]
      cases hX : cutL 47 t with
      | nil => exact absurd hX (cutL_ne 47 t)
      | cons p ps =>
        simp only [attach, List.tail_cons]
        rw [hX]
        simp [chkS, partsOk, chk]
    · rw [if_neg (by simpa using hc)]
      cases hX : cutL 47 (c :: t) with
      | nil => exact absurd hX (cutL_ne 47 _)
      | cons p ps =>
        simp only [partsOk]
        have hp : p.head? ≠ some 64 := by
          by_cases h47 : c = 47
          · subst h47
            rw [cutL, if_pos rfl] at hX
            injection hX with hX _
            rw [← hX]; simp
          · rw [cutL, if_neg h47] at hX
            cases hY : cutL 47 t with
            | nil => exact absurd hY (cutL_ne 47 t)
            | cons q qs =>
              rw [hY] at hX
              simp only [attach] at hX
              injection hX with hX _
              rw [← hX]; simpa using hc
        unfold chkS
        rw [if_neg hp]
theorem spec_long (l : List UInt8) (h : l.length = 0 ∨ 60 < l.length) : specN l = false := by
  rcases h with h | h
  · have : l = [] := List.eq_nil_of_length_eq_zero h
    subst this; decide
  · unfold specN
    rw [decide_eq_false (by omega)]; simp

set_option maxRecDepth 100000 in
set_option maxHeartbeats 2000000 in
theorem implNameOk_out (s : ByteArray) (w : World) (h : s.size = 0 ∨ 60 < s.size) :
    CallsIn Fence.wide 4 Tryz.prog 117 #[.string s] w fun e W' => e = .returned (.bool false) ∧ Below w.heap.size w W' := by
  have b1 := Boxed.new w 4 (.bool false)
  have cR := b1.cell
  have fR := b1.frozen
  refine callsIn_of_wp_marks Tryz.func117 rfl trivial ?_ rfl
  simp only [Tryz.ntmps117, List.size_toArray, List.length_cons, List.length_nil, Nat.reduceAdd, Nat.reduceSub, Array.replicate_succ, Array.replicate_zero, List.push_toArray, List.append_toArray, List.nil_append, List.cons_append]
  rcases h with h | h
  · have t1 : decide ((s.size : Int) < 1) = true := by simp; omega
    have HH := Lib.hid h
    clear h
    gi_wp2
    refine ⟨.bool false, ?_, rfl, (Below.refl _ _).alloc (Nat.le_refl _) _⟩
    simp [results, Tryz.f117, go_sem, cR]
  · have t1 : decide ((s.size : Int) < 1) = false := by simp; omega
    have t2 : decide ((60 : Int) < (s.size : Int)) = true := by simp; omega
    clear h
    gi_wp2
    refine ⟨.bool false, ?_, rfl, (Below.refl _ _).alloc (Nat.le_refl _) _⟩
    simp [results, Tryz.f117, go_sem, cR]

theorem implNameOk_any (s : ByteArray) (w : World) :
    Calls Tryz.prog 117 #[.string s] w fun e W' => e = .returned (.bool (specN s.data.toList)) ∧ Below w.heap.size w W' := by
  refine (callsIn_wide (n := 4)).1 ?_
  by_cases h : s.size = 0 ∨ 60 < s.size
  · rw [spec_long s.data.toList (by simpa using h)]
    exact implNameOk_out s w h
  · have h0 : 0 < s.size := by omega
    have h60 : s.size ≤ 60 := by omega
    rw [spec_impl s.data.toList (by simpa using h0) (by simpa using h60)]
    have hd := drop_cons s 0 h0
    simp at hd
    by_cases h64 : s[0] = 64
    · rw [if_pos (by rw [hd]; simpa using h64)]
      have e : s.data.toList.tail = (s.extract 1 s.size).data.toList := by rw [piece_end]; simp
      rw [e]
      exact implNameOk_scoped 4 (by omega) s (s.extract 1 s.size) w h0 h60 (by rw [h64]; rfl) (slice_from s _ 1 1 rfl (by omega) rfl) (by simp; omega)
    · rw [if_neg (by rw [hd]; simpa using h64)]
      exact implNameOk_plain 4 (by omega) s s w h0 h60 (int_beq_false (fun h => h64 (UInt8.toNat_inj.1 (by show _ = (64 : Nat); omega)))) rfl h60
end Go.Proofs.YtongpnknmgbhjaaGreatDoor

/-
  The last place of a byte in a text; SplitKey.
-/
namespace Go.Proofs.YtongpnknmgbhjaaGreatDoor
open Go.RowKit

set_option maxRecDepth 100000 in
set_option maxHeartbeats 1000000 in
theorem lastIndex_any (s : ByteArray) (c : UInt8) (w : World) (hs : s.size ≤ maxLen) :
    Calls Tryz.prog 170 #[.string s, .int .u8 (c.toNat : Int)] w fun e w' => e = .returned (.int .i64 (lastK s.data.toList c s.size)) ∧ w = w' := by
  unfold maxLen at hs
  go_enter Tryz.func170, Tryz.ntmps170
  go_wp2
  go_loop [5] (fun n => ∃ k : Nat, k ≤ s.size ∧ n = .int .i64 ((k : Int) - 1) ∧ Hid (lastK s.data.toList c s.size = lastK s.data.toList c k)) (fun n => (intOf n + 1).toNat)
  case atStart => exact ⟨s.size, Nat.le_refl _, rfl, Lib.hid rfl⟩
  case round =>
    obtain ⟨k, hk, rfl, H⟩ := hrel
    rcases k with _ | k
    · have HH : Hid (lastK s.data.toList c s.size = -1) := Lib.hid (by rw [H.out]; rfl)
      clear H
      go_wp2
      go_ret
      exact ⟨ret_int HH.out.symm, rfl⟩
    · have hlt : k < s.size := by omega
      rw [show ((k + 1 : Nat) : Int) - 1 = (k : Int) from by omega]
      by_cases hc : s[k] = c
      · have hb : ((s[k].toNat : Int) == (c.toNat : Int)) = true := by rw [hc]; simp
        have HH : Hid (lastK s.data.toList c s.size = (k : Int)) := Lib.hid (by rw [H.out, lastK_hit hlt hc])
        clear hc H
        go_wp2
        go_ret
        exact ⟨ret_int HH.out.symm, rfl⟩
      · have hb : ((s[k].toNat : Int) == (c.toNat : Int)) = false := int_beq_false (fun h => hc (UInt8.toNat_inj.1 (by omega)))
        have HH : Hid (lastK s.data.toList c s.size = lastK s.data.toList c k) := Lib.hid (by rw [H.out, lastK_miss hlt hc])
        clear hc H
        go_wp2
        go_round
        case rel => exact ⟨k, by omega, rfl, HH⟩
        case measure => simp [intOf]; try omega
    
theorem lastIndexByte_any (s : ByteArray) (c : UInt8) (w : World) (hs : s.size ≤ maxLen) :
    Calls Tryz.prog 115 #[.string s, .int .u8 (c.toNat : Int)] w fun e w' => e = .returned (.int .i64 (lastK s.data.toList c s.size)) ∧ w = w' := by
  go_enter Tryz.func115, Tryz.ntmps115
  go_wp2_with fail
  refine (lastIndex_any s c _ hs).mono ?_
  rintro e w' ⟨rfl, rfl⟩
  go_wp2
  go_ret
  exact ⟨rfl, rfl⟩

set_option maxRecDepth 100000 in
set_option maxHeartbeats 1000000 in
theorem implSplitKey_any (s : ByteArray) (w : World) (hs : s.size ≤ 1048576) :
    Calls Tryz.prog 57 #[.string s] w fun e w' => e = .returned (.tuple #[.string (keyA s), .string (keyB s)]) ∧ Below w.heap.size w w' := by
  have HC := Lib.hid (lastIndexByte_any s 64 w (by unfold maxLen; omega))
  have hbd := lastK_bd s.data.toList 64 s.size
  obtain ⟨z, HZ⟩ : ∃ z, Hid (lastK s.data.toList 64 s.size = z) := ⟨_, Lib.hid rfl⟩
  rw [HZ.out] at hbd
  by_cases hz : z < 0
  · have HA : Hid (keyA s = ⟨#[]⟩) := Lib.hid (keyA_miss (by rw [HZ.out]; exact hz))
    have HB : Hid (keyB s = ⟨#[]⟩) := Lib.hid (keyB_miss (by rw [HZ.out]; exact hz))
    rw [HA.out, HB.out]
    go_enter Tryz.func57, Tryz.ntmps57
    go_wp2_with fail
    refine HC.out.mono ?_
    rw [HZ.out]
    rintro e w1 ⟨rfl, rfl⟩
    go_wp2_with fail
    go_ret2
    exact ⟨rfl, Below.refl _ _⟩
  · obtain ⟨k, hk⟩ : ∃ k : Nat, z = (k : Int) := ⟨z.toNat, by omega⟩
    subst hk
    have hks : k < s.size := by omega
    have HA : Hid (keyA s = s.extract 0 k) := Lib.hid (keyA_hit HZ.out)
    have HB : Hid (keyB s = s.extract (k + 1) s.size) := Lib.hid (keyB_hit HZ.out)
    rw [HA.out, HB.out]
    have c1 := fun W => clone_any (s.extract 0 k) W (by simp; omega)
    have c2 := fun W => clone_any (s.extract (k + 1) s.size) W (by simp; omega)
    have H1 := Lib.hid c1
    have H2 := Lib.hid c2
    have s1 := fun W => slice_upto s (s.extract 0 k) k (k : Int) rfl (by omega) rfl W
    have s2 := fun W => slice_from s (s.extract (k + 1) s.size) (k + 1) ((k : Int) + 1) (by omega) (by omega) rfl W
    have k0 : (0 : Int) ≤ (k : Int) := by omega
    have k1 : (k : Int) < (s.size : Int) := by omega
    have kw : IntKind.i64.wrap ((k : Int) + 1) = (k : Int) + 1 := IntWalk.i64_in _ (by omega)
    clear c1 c2 hbd hz
    go_enter Tryz.func57, Tryz.ntmps57
    go_wp2_with fail
    refine HC.out.mono ?_
    rw [HZ.out]
    rintro e w1 ⟨rfl, rfl⟩
    go_wp2_with fail
    go_region_held3 (fun _ => True) (trivial) ((first | (go_at_call 116; (with_reducible refine (H1.out _).mono ?_); rintro e w2 ⟨rfl, hb2⟩) | (go_at_call 116; (with_reducible refine (H2.out _).mono ?_); rintro e w3 ⟨rfl, hb3⟩)))
    all_goals
      go_wp2_with fail
      go_ret2
      exact ⟨rfl, by first | exact ((below_drewN _ _ 1).trans hb2).trans (hb3.mono (((below_drewN _ _ 1).trans hb2).size)) | exact ((below_drewN _ _ 1).trans hb3).trans (hb2.mono (((below_drewN _ _ 1).trans hb3).size))⟩
end Go.Proofs.YtongpnknmgbhjaaGreatDoor

/-
  spec.l08Need, impl.needOk, spec.ReadNeed, impl.ReadNeed.
-/
namespace Go.Proofs.YtongpnknmgbhjaaGreatDoor
open Go.RowKit

set_option maxRecDepth 100000 in
set_option maxHeartbeats 2000000 in
theorem l08Need_any (a b : ByteArray) (w : World) (ha : a.size ≤ 1048576) (hb : b.size ≤ 1048576) :
    Calls Tryz.prog 56 #[.agg #[.string a, .string b]] w fun e w' => e = .returned (.bool (nd2 a b)) ∧ Below w.heap.size w w' := by
  obtain ⟨l, rfl⟩ : ∃ l : List UInt8, b = ⟨l.toArray⟩ := ⟨b.data.toList, bytes_ext (by simp)⟩
  rw [size_of] at hb
  have HR := Lib.hid (fun W => specReadRange_any l W hb)
  have HN := Lib.hid (fun W => specNameOk_any a W ha)
  have HE : Hid (nd2 a ⟨l.toArray⟩ = (specN a.data.toList && rgOk l)) := Lib.hid rfl
  rw [HE.out]
  unfold RgIs at HR
  generalize rgOk l = r at HR ⊢
  generalize specN a.data.toList = q at HN ⊢
  obtain ⟨t, HT⟩ : ∃ t : ByteArray, Hid (⟨l.toArray⟩ = t) := ⟨_, Lib.hid rfl⟩
  rw [HT.out] at HR ⊢
  have B0 : Below w.heap.size w (w.alloc (.cells #[.string a, .string t] 41)) := (Below.refl _ _).alloc (Nat.le_refl _) _
  have b0 := heap_alloc_new w (.cells #[.string a, .string t] 41)
  clear ha hb HE
  cases q
  all_goals
    go_enter Tryz.func56, Tryz.ntmps56
    go_wp2_with fail
    refine (HR.out _).mono ?_
    rintro e w1 ⟨u, rfl, hu, hb1⟩
    obtain ⟨U, uc, rfl⟩ := hu.slice
    have B1 := B0.trans (hb1.mono B0.size)
    obtain ⟨x0, x1⟩ := two_cells (keepB b0 hb1)
    go_wp2_with fail
    refine (HN.out _).mono ?_
    rintro e w2 ⟨rfl, hb2⟩
    go_wp2_with fail
    go_ret
    exact ⟨by first | rfl | (simp; done), B1.trans (hb2.mono B1.size)⟩

set_option maxRecDepth 100000 in
set_option maxHeartbeats 2000000 in
theorem needOk_any (a b : ByteArray) (m : Int) (w : World) (hb : b.size ≤ 1048576) (ht : Tab w) (hm : w.cell? ⟨0, 0, none⟩ = some (.int .i64 m)) :
    Calls Tryz.prog 58 #[.agg #[.string a, .string b]] w fun e w' => e = .returned (.bool (nd2 a b)) ∧ Below w.heap.size w w' := by
  obtain ⟨l, rfl⟩ : ∃ l : List UInt8, b = ⟨l.toArray⟩ := ⟨b.data.toList, bytes_ext (by simp)⟩
  rw [size_of] at hb
  have HR := Lib.hid (fun (W : World) (h : Below w.heap.size w W) => implReadRange_any l m W hb (tab_below ht h) (keepC h hm))
  have HN := Lib.hid (fun W => implNameOk_any a W)
  have HE : Hid (nd2 a ⟨l.toArray⟩ = (specN a.data.toList && rgOk l)) := Lib.hid rfl
  rw [HE.out]
  unfold RgIs at HR
  generalize rgOk l = r at HR ⊢
  generalize specN a.data.toList = q at HN ⊢
  obtain ⟨t, HT⟩ : ∃ t : ByteArray, Hid (⟨l.toArray⟩ = t) := ⟨_, Lib.hid rfl⟩
  rw [HT.out] at HR ⊢
  have B0 : Below w.heap.size w (w.alloc (.cells #[.string a, .string t] 41)) := (Below.refl _ _).alloc (Nat.le_refl _) _
  have b0 := heap_alloc_new w (.cells #[.string a, .string t] 41)
  clear hb HE ht hm
  cases r
  · go_enter Tryz.func58, Tryz.ntmps58
    go_wp2_with fail
    refine (HR.out _ B0).mono ?_
    rintro e w1 ⟨u, rfl, hu, hb1⟩
    obtain ⟨U, uc, rfl⟩ := hu.slice
    have B1 := B0.trans (hb1.mono B0.size)
    obtain ⟨x0, x1⟩ := two_cells (keepB b0 hb1)
    go_wp2_with fail
    go_ret
    exact ⟨by simp, B1⟩
  · go_enter Tryz.func58, Tryz.ntmps58
    go_wp2_with fail
    refine (HR.out _ B0).mono ?_
    rintro e w1 ⟨u, rfl, hu, hb1⟩
    obtain ⟨U, uc, rfl⟩ := hu.slice
    have B1 := B0.trans (hb1.mono B0.size)
    obtain ⟨x0, x1⟩ := two_cells (keepB b0 hb1)
    go_wp2_with fail
    refine (HN.out _).mono ?_
    rintro e w2 ⟨rfl, hb2⟩
    go_wp2_with fail
    go_ret
    exact ⟨by simp, B1.trans (hb2.mono B1.size)⟩

set_option maxRecDepth 100000 in
set_option maxHeartbeats 4000000 in
theorem specReadNeed_any (s : ByteArray) (w : World) (hs : s.size ≤ 1048576) : Calls Tryz.prog 20 #[.string s] w (NrIs w s) := by
  have HNO := Lib.hid (fun h => gd_none (s := s) h)
  have HN2 := Lib.hid (fun (w' : World) (h : nrOk s = false) (hb : Below w.heap.size w w') => nrIs_no h hb)
  have HYE := Lib.hid (fun (k : Nat) (h : gd s k = true) => gd_yes h)
  have HND := Lib.hid (fun (a b : ByteArray) (W : World) (ha : a.size ≤ 1048576) (hb : b.size ≤ 1048576) => l08Need_any a b W ha hb)
  have B0 : Below w.heap.size w (w.alloc (.cells #[.string ⟨#[]⟩, .string ⟨#[]⟩] 41)) := (Below.refl _ _).alloc (Nat.le_refl _) _
  have r0 := heap_alloc_new w (.cells #[.string ⟨#[]⟩, .string ⟨#[]⟩] 41)
  go_enter Tryz.func20, Tryz.ntmps20
  go_wp2_with fail
  go_loopw [4] (fun i wr => ∃ k : Nat, 1 ≤ k ∧ k ≤ s.size + 1 ∧ i = .int .i64 k ∧ Hid (∀ j, 1 ≤ j → j < k → gd s j = false) ∧ Below w.heap.size w wr ∧ wr.heap[w.heap.size]? = some (.cells #[.string ⟨#[]⟩, .string ⟨#[]⟩] 41)) (fun i _ => s.size + 1 - (intOf i).toNat)
  case atStart => exact ⟨1, Nat.le_refl _, by omega, rfl, Lib.hid (fun j h1 h2 => by omega), B0, r0⟩
  case round =>
    obtain ⟨k, hk1, hk, rfl, HG, hb, hr⟩ := hrel
    clear B0 r0
    by_cases hlt : k < s.size
    · have k0 : (0 : Int) ≤ (k : Int) := by omega
      have k1 : (k : Int) < (s.size : Int) := by omega
      have kw : IntKind.i64.wrap ((k : Int) + 1) = (k : Int) + 1 := IntWalk.i64_in _ (by omega)
      have he1 := slice_upto s _ k (k : Int) rfl (by omega) rfl
      have he2 := slice_from s _ (k + 1) ((k : Int) + 1) (by omega) (by omega) rfl
      have HGD : Hid (gd s k = ((s[k] == 64) && nd2 (s.extract 0 k) (s.extract (k + 1) s.size))) := Lib.hid (by unfold gd; rw [dif_pos hlt])
      have HYK := Lib.hid (HYE.out k)
      have ea : (s.extract 0 k).size ≤ 1048576 := by rw [ByteArray.size_extract]; omega
      have eb : (s.extract (k + 1) s.size).size ≤ 1048576 := by rw [ByteArray.size_extract]; omega
      generalize s.extract 0 k = a at he1 HGD HYK ea
      generalize s.extract (k + 1) s.size = b at he2 HGD HYK eb
      have HNDK := Lib.hid (fun (W : World) => HND.out a b W ea eb)
      have HGN := Lib.hid (fun (h : gd s k = false) => (show ∀ j, 1 ≤ j → j < k + 1 → gd s j = false from fun j h1 h2 => by
        rcases Nat.lt_or_ge j k with hj | hj
        · exact HG.out j h1 hj
        · obtain rfl : j = k := by omega
          exact h))
      have hsz := lt_of_heap hr
      have BA : Below w.heap.size w (wr.alloc (.cells #[.string a, .string b] 41)) := hb.alloc hb.size _
      have rA := keepA hr (.cells #[.string a, .string b] 41)
      have nA := heap_alloc_new wr (.cells #[.string a, .string b] 41)
      clear ea eb HND HYE
      by_cases hc : s[k] = 64
      · have q1 : ((s[k].toNat : Int) == 64) = true := by rw [hc]; rfl
        have HGE : Hid (gd s k = nd2 a b) := Lib.hid (by rw [HGD.out, hc]; rfl)
        generalize nd2 a b = nn at HNDK HGE
        clear hc HGD
        have BD := BA.trans (below_drewN _ (wr.alloc (.cells #[.string a, .string b] 41)) 1)
        go_wp2_with fail
        go_region
        all_goals go_wp2_with fail
        all_goals
          refine (HNDK.out _).mono ?_
          rintro e w5 ⟨rfl, hb5⟩
          have B5 := BD.trans (hb5.mono BD.size)
          have r5 := keepB (W := (wr.alloc (.cells #[.string a, .string b] 41)).drew) rA hb5
          have n5 := keepB (W := (wr.alloc (.cells #[.string a, .string b] 41)).drew) nA hb5
          clear hb5 BD BA rA nA hb hr
          cases nn
          · go_wp2_with fail
            go_roundw
            case rel => exact ⟨k + 1, by omega, by omega, by go_num, Lib.hid (HGN.out HGE.out), B5, r5⟩
            case measure => simp [intOf]; omega
          · obtain ⟨hok, ha, hb⟩ := HYK.out HGE.out
            have HNR : Hid (NrIs w s = fun e w' => e = .returned (.tuple #[.agg #[.string a, .string b], .bool true]) ∧ Below w.heap.size w w') := Lib.hid (by unfold NrIs; rw [ha, hb, hok])
            clear hok ha hb
            obtain ⟨c0, c1⟩ := two_cells r5
            obtain ⟨x0, x1⟩ := two_cells n5
            have f0 := frozen2 r5 0
            have f1 := frozen2 r5 1
            go_wp2_with fail
            refine bodyPost_ret (v := .tuple #[.agg #[.string a, .string b], .bool true]) ?_ rfl ?_
            · simp [results, Tryz.results20, go_sem, c0, c1]
            · rw [HNR.out]
              exact ⟨rfl, below_res2 B5 (Nat.le_refl _) _ _⟩
      · have q1 : ((s[k].toNat : Int) == 64) = false := int_beq_false (fun h => hc (UInt8.toNat_inj.1 (by have : (64 : UInt8).toNat = 64 := rfl; omega)))
        have HGF : Hid (gd s k = false) := Lib.hid (by rw [HGD.out]; simp [hc])
        clear hc HGD
        go_wp2_with fail
        go_region
        all_goals go_wp2_with fail
        all_goals
          go_roundw
          case rel => exact ⟨k + 1, by omega, by omega, by go_num, Lib.hid (HGN.out HGF.out), BA.trans (below_drewN _ _ 1), rA⟩
          case measure => simp [intOf]; omega
    · have HGA : Hid (∀ j, 1 ≤ j → j < s.size → gd s j = false) := Lib.hid (fun j h1 h2 => HG.out j h1 (by omega))
      obtain ⟨c0, c1⟩ := two_cells hr
      have f0 := frozen2 hr 0
      have f1 := frozen2 hr 1
      go_wp2_with fail
      refine bodyPost_ret (v := .tuple #[.agg #[.string ⟨#[]⟩, .string ⟨#[]⟩], .bool false]) ?_ rfl (HN2.out _ (HNO.out HGA.out) (below_res2 hb (Nat.le_refl _) _ _))
      simp [results, Tryz.results20, go_sem, c0, c1]

set_option maxRecDepth 100000 in
set_option maxHeartbeats 4000000 in
theorem implReadNeed_any (s : ByteArray) (m : Int) (w : World) (hs : s.size ≤ 1048576) (ht : Tab w) (hm : w.cell? ⟨0, 0, none⟩ = some (.int .i64 m)) : Calls Tryz.prog 21 #[.string s] w (NrIs w s) := by
  have hA : (keyA s).size ≤ 1048576 := by
    unfold keyA
    split
    · show (0 : Nat) ≤ 1048576; omega
    · rw [ByteArray.size_extract]; omega
  have hB : (keyB s).size ≤ 1048576 := by
    unfold keyB
    split
    · show (0 : Nat) ≤ 1048576; omega
    · rw [ByteArray.size_extract]; omega
  have HK := Lib.hid (fun W => implSplitKey_any s W hs)
  have HN := Lib.hid (fun (W : World) (h : Below w.heap.size w W) => needOk_any (keyA s) (keyB s) m W hB (tab_below ht h) (keepC h hm))
  have HE : Hid (nd2 (keyA s) (keyB s) = nrOk s) := Lib.hid rfl
  rw [HE.out] at HN
  have B0 : Below w.heap.size w (w.alloc (.cells #[.string ⟨#[]⟩, .string ⟨#[]⟩] 41)) := (Below.refl _ _).alloc (Nat.le_refl _) _
  have r0 := heap_alloc_new w (.cells #[.string ⟨#[]⟩, .string ⟨#[]⟩] 41)
  have HNO := Lib.hid (fun (w' : World) (h : nrOk s = false) (hb : Below w.heap.size w w') => nrIs_no h hb)
  have HYE : Hid (nrOk s = true → NrIs w s = fun e w' => e = .returned (.tuple #[.agg #[.string (keyA s), .string (keyB s)], .bool true]) ∧ Below w.heap.size w w') := Lib.hid (fun h => by unfold NrIs nrA nrB; rw [h]; rfl)
  generalize NrIs w s = NI at HNO HYE ⊢
  generalize nrOk s = ok at HN HNO HYE
  generalize keyA s = a at HK HN HYE
  generalize keyB s = b at HK HN HYE
  clear ht hm hA hB hs HE
  cases ok
  all_goals
    go_enter Tryz.func21, Tryz.ntmps21
    go_wp2_with fail
    refine (HK.out _).mono ?_
    rintro e w1 ⟨rfl, hb1⟩
    have B1 := B0.trans (hb1.mono B0.size)
    have r1 := keepB r0 hb1
    have B2 := B1.alloc B1.size (.cells #[.string a, .string b] 41)
    have r2 := keepA r1 (.cells #[.string a, .string b] 41)
    have n2 := heap_alloc_new w1 (.cells #[.string a, .string b] 41)
    clear hb1 B1 r1 B0 r0
    go_wp2_with fail
    refine (HN.out _ B2).mono ?_
    rintro e w3 ⟨rfl, hb3⟩
    have B3 := B2.trans (hb3.mono B2.size)
    obtain ⟨c0, c1⟩ := two_cells (keepB r2 hb3)
    obtain ⟨x0, x1⟩ := two_cells (keepB n2 hb3)
    have f0 := frozen2 (keepB r2 hb3) 0
    have f1 := frozen2 (keepB r2 hb3) 1
    go_wp2_with fail
  · refine bodyPost_ret (v := .tuple #[.agg #[.string ⟨#[]⟩, .string ⟨#[]⟩], .bool false]) ?_ rfl (HNO.out _ (by trivial) (below_res2 B3 (Nat.le_refl _) _ _))
    simp [results, Tryz.results21, go_sem, c0, c1]
  · refine bodyPost_ret (v := .tuple #[.agg #[.string a, .string b], .bool true]) ?_ rfl ?_
    · simp [results, Tryz.results21, go_sem, c0, c1]
    · rw [HYE.out (by trivial)]
      exact ⟨rfl, below_res2 B3 (Nat.le_refl _) _ _⟩
end Go.Proofs.YtongpnknmgbhjaaGreatDoor

/-
  A row of needs of the call's own.
-/
namespace Go.Proofs.YtongpnknmgbhjaaGreatDoor.Ndk
open Go.RowKit

/-- v is the call's own row of these needs. -/
def Nds (w : World) (base : Nat) (v : Value) (bs : List Bd) : Prop := w.ownsRow base 41 2 v bs.length (flat2 bs)

theorem bndinfo : (Tryz.prog.info? 41).map (fun i => (i.zero, i.size, i.bytes)) = some (some (.agg #[.string ⟨#[]⟩, .string ⟨#[]⟩]), 2, 32) := by kernel_rfl

theorem Nds.form {w : World} {base : Nat} {v : Value} {l : List Bd} (h : Nds w base v l) : (v = .slice none 0 0 ∧ l = []) ∨ ∃ g cap, v = .slice (some ⟨g, 0, none⟩) l.length cap ∧ base ≤ g ∧ g < w.heap.size := by
  rcases h.2 with ⟨hv, hl⟩ | ⟨g, cap, cur, hv, hb, hh, _⟩
  · left
    refine ⟨hv, ?_⟩
    cases l with
    | nil => rfl
    | cons a t => simp at hl
  · right
    refine ⟨g, cap, hv, hb, ?_⟩
    rcases Nat.lt_or_ge g w.heap.size with hlt | hge
    · exact hlt
    · rw [Array.getElem?_eq_none hge] at hh; cases hh
theorem Nds.alloc {w : World} {base : Nat} {v : Value} {l : List Bd} (h : Nds w base v l) (o : Obj) : Nds (w.alloc o) base v l := World.ownsRow.alloc h o
theorem Nds.owned {w : World} {base : Nat} {v : Value} {l : List Bd} (h : Nds w base v l) : ∀ g, v.ownBlock = some g → base ≤ g := by
  intro g hg
  rcases h.form with ⟨rfl, _⟩ | ⟨g', cap, rfl, hb, _⟩
  · simp [Value.ownBlock] at hg
  · simp [Value.ownBlock] at hg; omega
theorem Nds.below {w w' : World} {base : Nat} {v : Value} {l : List Bd} (h : Nds w base v l) (hb : Below w.heap.size w w') : Nds w' base v l :=
  World.ownsRow.kept h (row := none) ⟨hb.os, hb.tape, hb.output, hb.size, fun i hi _ => hb.block i hi⟩ (by
    rcases h.form with ⟨rfl, _⟩ | ⟨g, cap, rfl, _, _⟩
    · left; rfl
    · right; simp [Value.ownBlock])
theorem Nds.cell {w : World} {base : Nat} {l : List Bd} {g n cap : Nat} (h : Nds w base (.slice (some ⟨g, 0, none⟩) n cap) l) (k : Nat) (hk : k < l.length) : w.cell? ⟨g, k * 2, none⟩ = some (sv l[k].1) ∧ w.cell? ⟨g, k * 2 + 1, none⟩ = some (sv l[k].2) := by
  have hadd : ∀ j, (⟨g, 0, none⟩ : Addr).add j = ⟨g, j, none⟩ := fun j => by unfold Addr.add; split <;> simp_all
  obtain ⟨e0, e1⟩ := flat2_get l k hk
  have h0 := World.ownsRow.cells (g := g) h rfl (k * 2) _ e0
  have h1 := World.ownsRow.cells (g := g) h rfl (k * 2 + 1) _ e1
  rw [hadd] at h0 h1
  exact ⟨h0, h1⟩
theorem RdB.of_bnds {w : World} {base : Nat} {v : Value} {bs : List Bd} (h : Nds w base v bs) : RdB w v bs := by
  rcases h.form with ⟨rfl, rfl⟩ | ⟨g, cap, rfl, _, hg⟩
  · exact ⟨none, 0, rfl, fun h => absurd h (by simp)⟩
  · exact ⟨_, cap, rfl, fun _ => ⟨g, 0, rfl, hg, fun k hk => by rw [Nat.zero_add]; exact h.cell k hk⟩⟩
theorem Nds.set {w : World} {base g cap : Nat} {l : List Bd} (h : Nds w base (.slice (some ⟨g, 0, none⟩) l.length cap) l) (k : Nat) (x : Bd) :
    Nds ((w.setCell ⟨g, k * 2, none⟩ (sv x.1)).setCell ⟨g, k * 2 + 1, none⟩ (sv x.2)) base (.slice (some ⟨g, 0, none⟩) (l.set k x).length cap) (l.set k x) := by
  unfold Nds at h ⊢
  rw [List.length_set, ← flat2_set]
  exact (World.ownsRow.stored (World.ownsRow.stored h (k * 2) (sv x.1)).1 (k * 2 + 1) (sv x.2)).1
end Go.Proofs.YtongpnknmgbhjaaGreatDoor.Ndk

/-
  The laws' own comparison of lists of needs.
-/
namespace Go.Proofs.YtongpnknmgbhjaaGreatDoor.Ndk
open Go.RowKit

set_option maxRecDepth 100000 in
set_option maxHeartbeats 1000000 in
theorem eqNeed_same (b c : ByteArray) (w : World) :
    Calls Tryz.prog 22 #[.agg #[.string b, .string c], .agg #[.string b, .string c]] w fun e w' => e = .returned (.bool true) ∧ Below w.heap.size w w' := by
  go_enter Tryz.func22, Tryz.ntmps22
  go_wp2_with fail
  go_ret
  exact ⟨rfl, ((Below.refl _ _).alloc (Nat.le_refl _) _).alloc (by simp) _⟩

set_option maxRecDepth 100000 in
set_option maxHeartbeats 1000000 in
theorem eqNeedS_same (va vb : Value) (bs : List Bd) (w : World) (ha : RdB w va bs) (hb : RdB w vb bs) (hl : bs.length ≤ 16777216) :
    Calls Tryz.prog 129 #[va, vb] w fun e w' => e = .returned (.bool true) ∧ Below w.heap.size w w' := by
  have HA := Lib.hid ha
  have HB := Lib.hid hb
  obtain ⟨A, ca, rfl, ha⟩ := ha
  obtain ⟨B, cb, rfl, hb⟩ := hb
  have q0 : ((bs.length : Int) != (bs.length : Int)) = false := int_bne_false rfl
  clear ha hb
  go_enter Tryz.func129, Tryz.ntmps129
  go_wp2_with fail
  go_loopw [5] (fun i wr => ∃ k : Nat, k ≤ bs.length ∧ i = .int .i64 k ∧ Below w.heap.size w wr) (fun i _ => bs.length - (intOf i).toNat)
  case atStart => exact ⟨0, Nat.zero_le _, rfl, Below.refl _ _⟩
  case round =>
    obtain ⟨k, hk, rfl, hw⟩ := hrel
    by_cases hlt : k < bs.length
    · obtain ⟨A', ca', hv, ha⟩ := HA.out.below hw
      simp only [Value.slice.injEq] at hv
      obtain ⟨rfl, _, rfl⟩ := hv
      obtain ⟨B', cb', hv, hb⟩ := HB.out.below hw
      simp only [Value.slice.injEq] at hv
      obtain ⟨rfl, _, rfl⟩ := hv
      obtain ⟨g, off, rfl, _, hca⟩ := ha (by omega)
      obtain ⟨g2, off2, rfl, _, hcb⟩ := hb (by omega)
      have d1 : wr.cell? ⟨g, off + k * 2, none⟩ = some (.string ⟨bs[k].1.toArray⟩) := (hca k hlt).1
      have d2 : wr.cell? ⟨g, off + k * 2 + 1, none⟩ = some (.string ⟨bs[k].2.toArray⟩) := (hca k hlt).2
      have d3 : wr.cell? ⟨g2, off2 + k * 2, none⟩ = some (.string ⟨bs[k].1.toArray⟩) := (hcb k hlt).1
      have d4 : wr.cell? ⟨g2, off2 + k * 2 + 1, none⟩ = some (.string ⟨bs[k].2.toArray⟩) := (hcb k hlt).2
      have k0 : (0 : Int) ≤ (k : Int) := by omega
      have k1 : (k : Int) < (bs.length : Int) := by omega
      clear ha hb hca hcb
      go_wp2_with fail
      go_region_with (first | (go_at_call 22; refine (eqNeed_same _ _ _).mono ?_; rintro e w1 ⟨rfl, hb1⟩))
      all_goals
        go_wp2_with fail
        go_roundw
        case rel => exact ⟨k + 1, by omega, by go_num, hw.trans ((below_drewN _ _ 1).trans (hb1.mono (by first | exact Nat.le_refl _ | exact hw.size)))⟩
        case measure => simp [intOf]; omega
    · go_wp2_with fail
      go_ret
      exact ⟨rfl, hw⟩
end Go.Proofs.YtongpnknmgbhjaaGreatDoor.Ndk

namespace Go.Proofs.YtongpnknmgbhjaaGreatDoor
open Go.RowKit

set_option maxRecDepth 100000 in
set_option maxHeartbeats 4000000 in
theorem exReadNeed (a0 : ByteArray) (w : World) (_w0 : a0.size ≤ maxLen) (m : Int) (hm : w.cell? ⟨0, 0, none⟩ = some (.int .i64 m)) (ht : Tab w) :
    Calls Tryz.prog 5 #[.string a0] w fun e w' => e = .returned (.bool true) ∧ Below w.heap.size w w' := by
  by_cases hbig : 1048576 < a0.size
  · clear ht hm _w0
    go_enter Tryz.func5, Tryz.ntmps5
    go_wp2_with fail
    go_ret
    exact ⟨rfl, Below.refl _ _⟩
  · have hs : a0.size ≤ 1048576 := by omega
    have HS := Lib.hid (fun W => specReadNeed_any a0 W hs)
    have HI := Lib.hid (fun (W : World) (h : Below w.heap.size w W) => implReadNeed_any a0 m W hs (tab_below ht h) (keepC h hm))
    unfold NrIs at HS HI
    generalize nrA a0 = a at HS HI
    generalize nrB a0 = b at HS HI
    generalize nrOk a0 = ok at HS HI
    have q0 : (ok != ok) = false := by cases ok <;> rfl
    have HQ := Lib.hid (fun W => Ndk.eqNeed_same a b W)
    clear ht hm _w0
    go_enter Tryz.func5, Tryz.ntmps5
    go_wp2_with fail
    refine (HS.out _).mono ?_
    rintro e w1 ⟨rfl, hb1⟩
    have B1 := hb1.alloc hb1.size (.cells #[.string a, .string b] 41)
    have n1 := heap_alloc_new w1 (.cells #[.string a, .string b] 41)
    clear hb1
    go_wp2_with fail
    refine (HI.out _ B1).mono ?_
    rintro e w2 ⟨rfl, hb2⟩
    have B2 := B1.trans (hb2.mono B1.size)
    have n2 := keepA (keepB n1 hb2) (.cells #[.string a, .string b] 41)
    have B3 := B2.alloc B2.size (.cells #[.string a, .string b] 41)
    have m3 := heap_alloc_new w2 (.cells #[.string a, .string b] 41)
    obtain ⟨x0, x1⟩ := two_cells n2
    obtain ⟨y0, y1⟩ := two_cells (keepB n1 hb2)
    have hl2 := lt_of_heap (keepB n1 hb2)
    clear hb2 B1 n1
    go_wp2_with fail
    refine (HQ.out _).mono ?_
    rintro e w4 ⟨rfl, hb4⟩
    go_wp2_with fail
    go_ret
    exact ⟨rfl, B3.trans (hb4.mono B3.size)⟩
end Go.Proofs.YtongpnknmgbhjaaGreatDoor
