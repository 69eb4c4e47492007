/-
  slices.Clone at []string; impl.copyVersion.
-/
import Derived.Test.YtgonhllglgmgfaaApp
import Derived.Test.YtgonhllglgmgfaaBox
import Derived.Test.YtgonhllglgmgfaaClone
import Derived.Deep.RegionHeld3
namespace Go.Proofs.Ytgonhllglgmgfaa
open Go.RowKit

set_option maxRecDepth 100000 in
set_option maxHeartbeats 1000000 in
theorem slicesClone_any (v : Value) (ls : List (List UInt8)) (w : World) (hr : RdS w v ls) (hl : ls.length ≤ 1048576) :
    Calls Try.prog 55 #[v] w fun e w' => ∃ u, e = .returned u ∧ Strs w' w.heap.size u ls ∧ Below w.heap.size w w' := by
  have qT : ∀ (w : World) (a : Option Addr) (n c n' c' : Nat), (binOp .eql 22 (.slice a n c) (.slice none n' c')).run Try.prog w = .ok (.bool a.isNone) w := fun w a n c n' c' => Lib.run_eql_slice_nil w _ _ a n c n' c' Try.underlying22
  have HR := Lib.hid hr
  obtain ⟨A, cap, rfl, hc⟩ := hr
  cases A with
  | none =>
    have h0 : ls = [] := by
      rcases Nat.eq_zero_or_pos ls.length with h | h
      · exact List.eq_nil_of_length_eq_zero h
      · obtain ⟨g, off, h', _⟩ := hc h; cases h'
    subst h0
    clear hc HR
    go_enter Try.func55, Try.ntmps55
    go_wp2_with fail
    go_ret
    exact ⟨_, rfl, Strs.nil _ _, Below.refl _ _⟩
  | some a =>
    clear hc
    go_enter Try.func55, Try.ntmps55
    go_wp2_with (at_builtin; refine wpList_append_texts rfl _ _ rfl w.heap.size _ [] rfl (Strs.empty w _ (Nat.le_refl _)) _ ls rfl (rdS_alloc HR.out _) (by simp; omega) (by simp) ?_; intro v' w2 hS hg)
    have hb := ((Below.refl _ w).alloc (Nat.le_refl _) (.cells #[] 9)).grown hg (by simp) (fun g h => by cases h; exact Nat.le_refl _)
    go_wp2
    go_ret
    exact ⟨_, rfl, hS, hb⟩

theorem Strs.slice {w : World} {base : Nat} {v : Value} {l : List (List UInt8)} (h : Strs w base v l) : ∃ A c, v = .slice A l.length c := by
  rcases h.form with ⟨rfl, rfl⟩ | ⟨g, cap, rfl, _, _⟩
  · exact ⟨_, _, rfl⟩
  · exact ⟨_, _, rfl⟩
theorem Strs.otherV {w : World} {base : Nat} {v : Value} {l : List (List UInt8)} (h : Strs w base v l) (b o : Nat) (x : Value) (hne : b < base) : Strs (w.setCell ⟨b, o, none⟩ x) base v l := by
  rcases h.form with ⟨rfl, rfl⟩ | ⟨g, cap, rfl, hg, _⟩
  · exact Strs.nil _ _
  · exact h.other b o x (by omega)
/-- A block of four cells, one of them stored. -/
theorem heap_set3 {V : World} {B : Nat} {T : TypeId} {v0 v1 v2 v3 : Value} (h : V.heap[B]? = some (.cells #[v0, v1, v2, v3] T)) (x : Value) : (V.setCell ⟨B, 3, none⟩ x).heap[B]? = some (.cells #[v0, v1, v2, x] T) := by
  rw [heap_setCell_same V B 3 #[v0, v1, v2, v3] T x h]; rfl
theorem heap_other {V : World} {B g o : Nat} {ob : Obj} (h : V.heap[B]? = some ob) (x : Value) (hne : g ≠ B) : (V.setCell ⟨g, o, none⟩ x).heap[B]? = some ob := (heap_setCell_other V ⟨g, o, none⟩ B x (fun e => hne e.symm)).trans h
theorem frozen4 {V : World} {B : Nat} {T : TypeId} {v0 v1 v2 v3 : Value} (h : V.heap[B]? = some (.cells #[v0, v1, v2, v3] T)) (o : Nat) : V.frozen? ⟨B, o, none⟩ = false := by
  simp [World.frozen?, h]
theorem set_same (ls : List (List UInt8)) (k : Nat) (h : k < ls.length) : ls.set k ls[k] = ls := by simp

set_option maxRecDepth 100000 in
set_option maxHeartbeats 2000000 in
theorem copyVersion_any (a b c : Int) (v : Value) (ls : List (List UInt8)) (w : World) (hr : RdS w v ls) (hs : Sm ls) :
    Calls Try.prog 41 #[.agg #[.int .i64 a, .int .i64 b, .int .i64 c, v]] w fun e w' => ∃ u, e = .returned (.agg #[.int .i64 a, .int .i64 b, .int .i64 c, u]) ∧ Strs w' w.heap.size u ls ∧ Below w.heap.size w w' := by
  have HC := Lib.hid (fun (W : World) (h : Below w.heap.size w W) => slicesClone_any v ls W (hr.below h) hs.1)
  have hl := hs.1
  have HS := Lib.hid hs.2
  have B0 : Below w.heap.size w ((w.alloc (.cells #[.int .i64 a, .int .i64 b, .int .i64 c, v] 27)).alloc (.cells #[.int .i64 0, .int .i64 0, .int .i64 0, .slice none 0 0] 27)) := ((Below.refl _ _).alloc (Nat.le_refl _) _).alloc (by simp) _
  have hA0 : ((w.alloc (.cells #[.int .i64 a, .int .i64 b, .int .i64 c, v] 27)).alloc (.cells #[.int .i64 0, .int .i64 0, .int .i64 0, .slice none 0 0] 27)).heap[w.heap.size]? = some (.cells #[.int .i64 a, .int .i64 b, .int .i64 c, v] 27) := (Below.heap_alloc _ _ _ (by simp)).trans (heap_alloc_new _ _)
  have hB0 : ((w.alloc (.cells #[.int .i64 a, .int .i64 b, .int .i64 c, v] 27)).alloc (.cells #[.int .i64 0, .int .i64 0, .int .i64 0, .slice none 0 0] 27)).heap[w.heap.size + 1]? = some (.cells #[.int .i64 0, .int .i64 0, .int .i64 0, .slice none 0 0] 27) := by have := heap_alloc_new (w.alloc (.cells #[.int .i64 a, .int .i64 b, .int .i64 c, v] 27)) (.cells #[.int .i64 0, .int .i64 0, .int .i64 0, .slice none 0 0] 27); simpa using this
  clear hr hs
  go_enter Try.func41, Try.ntmps41
  go_wp2_with fail
  refine (HC.out _ B0).mono ?_
  rintro e w1 ⟨u, rfl, hS1, hb1⟩
  obtain ⟨A, cap, rfl⟩ := hS1.slice
  have hA1 := keepB hA0 hb1
  have hB1 := keepB hB0 hb1
  have B1 := B0.trans (hb1.mono B0.size)
  have lo : w.heap.size + 2 ≤ w1.heap.size := by have := hb1.size; simp at this; omega
  have hS1' : Strs w1 (w.heap.size + 2) (.slice A ls.length cap) ls := hS1.weaken (by simp)
  clear hA0 hB0 B0 hS1 hb1
  obtain ⟨p0, p1, p2, p3⟩ := cells4 hA1
  have pf := frozen4 hA1 3
  go_wp2_with fail
  have hA2 := heap_set3 hA1 (.slice A ls.length cap)
  have hB2 := heap_other (g := w.heap.size) (o := 3) hB1 (.slice A ls.length cap) (by omega)
  have hS2 := hS1'.otherV w.heap.size 3 (.slice A ls.length cap) (by omega)
  have B2 := B1.setCell (p := ⟨w.heap.size, 3, none⟩) (Nat.le_refl _) (.slice A ls.length cap)
  clear hA1 hB1 p0 p1 p2 p3 pf hS1' B1
  have lo2 : w.heap.size + 2 ≤ (w1.setCell ⟨w.heap.size, 3, none⟩ (.slice A ls.length cap)).heap.size := by simp; exact lo
  clear lo
  generalize w1.setCell ⟨w.heap.size, 3, none⟩ (.slice A ls.length cap) = V at *
  go_loopw [3, 4, 12] (fun _ _ i wr => ∃ k : Nat, k ≤ ls.length ∧ i = .int .i64 k ∧ wr.heap[w.heap.size]? = some (.cells #[.int .i64 a, .int .i64 b, .int .i64 c, .slice A ls.length cap] 27) ∧ wr.heap[w.heap.size + 1]? = some (.cells #[.int .i64 0, .int .i64 0, .int .i64 0, .slice none 0 0] 27) ∧ Strs wr (w.heap.size + 2) (.slice A ls.length cap) ls ∧ Below w.heap.size w wr) (fun _ _ i _ => ls.length - (intOf i).toNat)
  case atStart => exact ⟨0, Nat.zero_le _, rfl, hA2, hB2, hS2, B2⟩
  case round =>
    obtain ⟨k, hk, rfl, hA, hB, hSr, BW⟩ := hrel
    clear hA2 hB2 hS2 B2 lo2
    by_cases hlt : k < ls.length
    · rcases hSr.form with ⟨h', h0⟩ | ⟨g, cap', h', hg, hgl⟩
      · subst h0; simp at hlt
      · simp only [Value.slice.injEq] at h'
        obtain ⟨rfl, _, rfl⟩ := h'
        have d1 : wr.cell? ⟨g, k, none⟩ = some (.string ⟨ls[k].toArray⟩) := hSr.cell k hlt
        obtain ⟨p0, p1, p2, p3⟩ := cells4 hA
        have k0 : (0 : Int) ≤ (k : Int) := by omega
        have k1 : (k : Int) < (ls.length : Int) := by omega
        have hne : g ≠ w.heap.size := by omega
        have HK := Lib.hid (fun W => clone_any ⟨ls[k].toArray⟩ W (by rw [size_of]; exact HS.out _ (List.getElem_mem hlt)))
        go_wp2_with fail
        go_region_held3 (fun W' => W'.cell? ⟨w.heap.size, 3, none⟩ = some (.slice (some ⟨g, 0, none⟩) ls.length cap)) (first | exact p3 | exact keepC hb2 (by assumption) | exact (World.cell?_setCell_far _ _ _ _ hne).trans (by assumption)) ((first | (go_at_call 48; (with_reducible refine (HK.out _).mono ?_); rintro e w2 ⟨rfl, hb2⟩; have d2 := keepC (W := wr.drew) hb2 d1; have f2 : w2.frozen? ⟨g, k, none⟩ = false := World.ownsRow.frozenAt (hSr.drew.below hb2) k)))
        have hA2 := heap_other (g := g) (o := k) (keepB (W := wr.drew) hA hb2) (.string ⟨ls[k].toArray⟩) hne
        have hB2 := heap_other (g := g) (o := k) (keepB (W := wr.drew) hB hb2) (.string ⟨ls[k].toArray⟩) (by omega)
        have hS2 := (hSr.drew.below hb2).set k ls[k]
        rw [set_same ls k hlt] at hS2
        have BD := BW.trans (below_drew _ _)
        have B2 := (BD.trans (hb2.mono BD.size)).setCell (p := ⟨g, k, none⟩) (by show w.heap.size ≤ g; omega) (.string ⟨ls[k].toArray⟩)
        go_wp2_with fail
        go_roundw
        case rel => exact ⟨k + 1, by omega, by go_num, hA2, hB2, hS2, B2⟩
        case measure => simp [intOf]; omega
    · obtain ⟨p0, p1, p2, p3⟩ := cells4 hA
      obtain ⟨q0, q1, q2, q3⟩ := cells4 hB
      have f0 := frozen4 hB 0
      have f1 := frozen4 hB 1
      have f2 := frozen4 hB 2
      have f3 := frozen4 hB 3
      go_wp2_with fail
      refine bodyPost_ret (v := .agg #[.int .i64 a, .int .i64 b, .int .i64 c, .slice A ls.length cap]) ?_ rfl ⟨_, rfl, ?_, ?_⟩
      · simp [results, Try.results41, go_sem, q0, q1, q2, q3]
      · exact ((((hSr.otherV _ _ _ (by omega)).otherV _ _ _ (by omega)).otherV _ _ _ (by omega)).otherV _ _ _ (by omega)).weaken (by omega)
      · exact (((BW.setCell (by simp) _).setCell (by simp) _).setCell (by simp) _).setCell (by simp) _
end Go.Proofs.Ytgonhllglgmgfaa
