/-
  A version drawn: l02Version.
-/
import Derived.Test.YtjhkfokjfniniaaGreatDoorDrwV
import Derived.Deep.RegionLaw
import Derived.Deep.CutBlock
namespace Go.Proofs.YtjhkfokjfniniaaGreatDoor
open Go.RowKit

theorem VerSt.cur {w W : World} {N p B k : Nat} (h : VerSt w N p B k W) : CurAt W N p := by
  obtain ⟨_, _, _, _, _, _, _, _, _, _, _, hC, _⟩ := h
  exact hC
theorem VerSt.putMinor {w W : World} {N p B k : Nat} {a b c : Int} {v : Value} {L : List (List UInt8)} (z : Int) (hR : W.heap[w.heap.size]? = some (.cells #[.int .i64 0, .int .i64 0, .int .i64 0, .slice none 0 0] 31))
    (hB : W.heap[B]? = some (.cells #[.int .i64 a, .int .i64 b, .int .i64 c, v] 31)) (hS : Strs W w.heap.size v L) (hL : L.length ≤ k) (hx : ∀ x ∈ L, x.length ≤ 21) (hne : ∀ g, v.ownBlock = some g → g ≠ w.heap.size ∧ g ≠ B)
    (hC : CurAt W N p) (hG : w.grownBy W (some p)) (hlt : w.heap.size < B) (hp : p < w.heap.size) : VerSt w N p B k (W.setCell ⟨B, 1, none⟩ (.int .i64 z)) :=
  ⟨a, z, c, v, L, heap_other hR _ (by omega), heap_set1 hB _, hS.setFar B 1 _ (fun g hg => (hne g hg).2), hL, hx, hne, hC.grown (gr_set W B 1 _) (fun r e => by have := hC.1; cases e; omega), gr_own hG (gr_set W B 1 _) (fun g e => by cases e; omega)⟩
theorem strs_lit (W : World) (base : Nat) (ls : List (List UInt8)) (hb : base ≤ W.heap.size) (hl : ls.length ≤ 1000) : Strs (W.alloc (.cells (ls.map sv).toArray 9)) base (.slice (some ⟨W.heap.size, 0, none⟩) ls.length ls.length) ls := by
  have h := World.ownsRow_lit (base := base) (e := 9) (size := 1) W (ls.map sv).toArray ls.length hb (by unfold maxLen; omega) (by simp)
  simpa [Strs] using h
def drD : List (List UInt8) := [[97], [98], [99], [100], [101]]
theorem drD_len : ∀ x ∈ drD, x.length ≤ 21 := by decide
def drC : List (List UInt8) := [[], [48, 49], [97, 95, 98], [49, 48, 48, 48, 48, 48, 48, 48, 48, 48], [97, 98, 99, 100, 101, 102, 103, 104, 105, 106, 107, 108, 109, 110, 111, 112, 113, 114, 115, 116], [97, 98, 99, 100, 101, 102, 103, 104, 105, 106, 107, 108, 109, 110, 111, 112, 113, 114, 115, 116, 117]]
theorem drC_len : ∀ x ∈ drC, x.length ≤ 21 := by decide

set_option maxRecDepth 100000 in
set_option maxHeartbeats 4000000 in
theorem l02Version_any (p : Nat) (w : World) (N : Nat) (h : CurAt w N p) :
    Calls Tryz.prog 57 #[.pointer (some ⟨p, 0, none⟩)] w fun e w' => ∃ (a b c : Int) (u : Value) (L : List (List UInt8)), e = .returned (.agg #[.int .i64 a, .int .i64 b, .int .i64 c, u]) ∧ Strs w' w.heap.size u L ∧ L.length ≤ 7 ∧ (∀ x ∈ L, x.length ≤ 21) ∧ CurAt w' N p ∧ w.grownBy w' (some p) := by
  have hpl := h.lt
  have C0 := h.alloc (.cells #[.int .i64 0, .int .i64 0, .int .i64 0, .slice none 0 0] 31)
  have r0 := heap_alloc_new w (.cells #[.int .i64 0, .int .i64 0, .int .i64 0, .slice none 0 0] 31)
  have G0 := gr_alloc w (.cells #[.int .i64 0, .int .i64 0, .int .i64 0, .slice none 0 0] 31) (some p)
  have HI : Hid (∀ (W : World) (q : Nat), W.heap.size = q → CurAt W N p → Calls Tryz.prog 79 #[.pointer (some ⟨p, 0, none⟩), .slice (some ⟨q, 0, none⟩) 5 5] (W.alloc (.cells #[.int .i64 0, .int .i64 1, .int .i64 1, .int .i64 2, .int .i64 10] 3)) fun e w' => ∃ z : Int, e = .returned (.int .i64 z) ∧ CurAt w' N p ∧ W.grownBy w' (some p)) := Lib.hid (fun W q hq hC => by subst hq; exact l01PickInt_any p [0, 1, 1, 2, 10] W N hC (by decide) (by decide))
  have HI2 : Hid (∀ (W : World) (q : Nat), W.heap.size = q → CurAt W N p → Calls Tryz.prog 79 #[.pointer (some ⟨p, 0, none⟩), .slice (some ⟨q, 0, none⟩) 5 5] (W.alloc (.cells #[.int .i64 0, .int .i64 0, .int .i64 1, .int .i64 2, .int .i64 12] 3)) fun e w' => ∃ z : Int, e = .returned (.int .i64 z) ∧ CurAt w' N p ∧ W.grownBy w' (some p)) := Lib.hid (fun W q hq hC => by subst hq; exact l01PickInt_any p [0, 0, 1, 2, 12] W N hC (by decide) (by decide))
  have HI3 : Hid (∀ (W : World) (q : Nat), W.heap.size = q → CurAt W N p → Calls Tryz.prog 79 #[.pointer (some ⟨p, 0, none⟩), .slice (some ⟨q, 0, none⟩) 5 5] (W.alloc (.cells #[.int .i64 0, .int .i64 0, .int .i64 1, .int .i64 3, .int .i64 9] 3)) fun e w' => ∃ z : Int, e = .returned (.int .i64 z) ∧ CurAt w' N p ∧ W.grownBy w' (some p)) := Lib.hid (fun W q hq hC => by subst hq; exact l01PickInt_any p [0, 0, 1, 3, 9] W N hC (by decide) (by decide))
  have HO := Lib.hid (fun (W : World) (n : Int) (hC : CurAt W N p) (hn : n ≤ 2147483648) => l01Once_any p n W N hC hn)
  go_enter Tryz.func57, Tryz.ntmps57
  go_wp2_with fail
  refine (HI.out _ _ (by simp) C0).mono ?_
  rintro e w1 ⟨z1, rfl, C1, g1⟩
  have r1 := gr_heap g1 r0 (fun e => by cases e; omega)
  have G1 := gr_trans G0 g1
  clear C0 r0 G0 g1 h
  go_wp2_with fail
  refine (HI2.out _ _ rfl C1).mono ?_
  rintro e w2 ⟨z2, rfl, C2, g2⟩
  have r2 := gr_heap g2 r1 (fun e => by cases e; omega)
  have G2 := gr_trans G1 g2
  clear C1 r1 G1 g2
  go_wp2_with fail
  refine (HI3.out _ _ rfl C2).mono ?_
  rintro e w3 ⟨z3, rfl, C3, g3⟩
  have r3 := gr_heap g3 r2 (fun e => by cases e; omega)
  have G3 := gr_trans G2 g3
  clear C2 r2 G2 g3
  have rlt := lt_of_heap r3
  have C4 := C3.alloc (.cells #[.int .i64 z1, .int .i64 z2, .int .i64 z3, .slice none 0 0] 31)
  have r4 := keepA r3 (.cells #[.int .i64 z1, .int .i64 z2, .int .i64 z3, .slice none 0 0] 31)
  have v4 := heap_alloc_new w3 (.cells #[.int .i64 z1, .int .i64 z2, .int .i64 z3, .slice none 0 0] 31)
  have G4 := gr_trans G3 (gr_alloc w3 (.cells #[.int .i64 z1, .int .i64 z2, .int .i64 z3, .slice none 0 0] 31) (some p))
  clear C3 r3 G3
  go_wp2_with fail
  refine (HO.out _ _ C4 (by omega)).mono ?_
  rintro e w5 ⟨o1, rfl, C5, g5⟩
  have r5 := gr_heap g5 r4 (fun e => by cases e; omega)
  have v5 := gr_heap g5 v4 (fun e => by cases e; omega)
  have G5 := gr_trans G4 g5
  clear C4 r4 v4 G4 g5
  obtain ⟨B, hB⟩ : ∃ B, w3.heap.size = B := ⟨_, rfl⟩
  rw [hB] at v5 rlt ⊢
  clear hB
  have St5 : VerSt w N p B 2 w5 := ⟨z1, z2, z3, _, [], r5, v5, ⟨by simp, .inl ⟨rfl, rfl⟩⟩, by simp, (fun x hx => by cases hx), (fun g hg => by simp [Value.ownBlock] at hg), C5, G5⟩
  go_upto_if 15 with fail
  go_cut [] (fun wx => VerSt w N p B 2 wx)
  case first =>
    cases o1
    · go_wp2_with fail
      go_meet
      exact St5
    · clear St5
      have HPA : Hid (∀ (W : World) (q : Nat), W.heap.size = q → CurAt W N p → Calls Tryz.prog 56 #[.pointer (some ⟨p, 0, none⟩), .slice (some ⟨q, 0, none⟩) 5 5] (W.alloc (.cells #[.string ⟨#[114, 99]⟩, .string ⟨#[98, 101, 116, 97]⟩, .string ⟨#[49]⟩, .string ⟨#[48]⟩, .string ⟨#[120, 45, 121]⟩] 9)) fun e w' => ∃ x : List UInt8, e = .returned (.string ⟨x.toArray⟩) ∧ x.length ≤ 21 ∧ CurAt w' N p ∧ W.grownBy w' (some p)) := Lib.hid (fun W q hq hC => by
        subst hq
        exact (pick_new p drA W N hC (by decide) (by decide)).mono (fun e w' ⟨x, he, hx, h1, h2⟩ => ⟨x, he, drA_len x hx, h1, h2⟩))
      have HPB : Hid (∀ (W : World) (q : Nat), W.heap.size = q → CurAt W N p → Calls Tryz.prog 56 #[.pointer (some ⟨p, 0, none⟩), .slice (some ⟨q, 0, none⟩) 4 4] (W.alloc (.cells #[.string ⟨#[49]⟩, .string ⟨#[50]⟩, .string ⟨#[49, 48]⟩, .string ⟨#[97]⟩] 9)).drew fun e w' => ∃ x : List UInt8, e = .returned (.string ⟨x.toArray⟩) ∧ x.length ≤ 21 ∧ CurAt w' N p ∧ W.grownBy w' (some p)) := Lib.hid (fun W q hq hC => by
        subst hq
        exact (pick_drew p drB W N hC (by decide) (by decide)).mono (fun e w' ⟨x, he, hx, h1, h2⟩ => ⟨x, he, drB_len x hx, h1, h2⟩))
      go_wp2_with fail
      refine (HPA.out _ _ rfl C5).mono ?_
      rintro e w6 ⟨x, rfl, hx, C6, g6⟩
      have r6 := keepA (gr_heap g6 r5 (fun e => by cases e; omega)) (.cells #[sv x] 9)
      have v6 := keepA (gr_heap g6 v5 (fun e => by cases e; omega)) (.cells #[sv x] 9)
      have B6 : B < w6.heap.size := lt_of_heap (gr_heap g6 v5 (fun e => by cases e; omega))
      have G6 := gr_trans (gr_trans G5 g6) (gr_alloc w6 (.cells #[sv x] 9) (some p))
      have S6 := strs_one w6 w.heap.size x (by omega)
      have C6' := C6.alloc (.cells #[sv x] 9)
      have St6 := VerSt.put (k := 1) r6 v6 S6 (by simp) (fun y hy => by simp at hy; subst hy; exact hx) (fun g hg => by simp [Value.ownBlock] at hg; omega) C6' G6 rlt hpl
      have v6r := gr_heap g6 v5 (fun e => by cases e; omega)
      obtain ⟨f0, f1, f2, f3⟩ := cells4 v6r
      have fz := frozen4 v6r 3
      clear C5 r5 v5 G5 g6 C6 r6 v6 G6 S6 C6' v6r
      rw [World.setCell_alloc_past _ _ _ _ B6] at St6
      have HPBx := HPB
      go_wp2_with fail
      refine (HO.out _ _ (by obtain ⟨_, _, _, _, _, _, _, _, _, _, _, hC, _⟩ := id St6; exact hC) (by omega)).mono ?_
      rintro e w8 ⟨o2, rfl, C8, g8⟩
      have St8 : VerSt w N p B 1 w8 := St6.draw g8 C8 rlt hpl
      clear St6 g8 C8 f0 f1 f2 f3 fz B6
      cases o2
      · go_wp2_with fail
        go_meet
        exact St8.mono (by omega)
      · obtain ⟨a, b, c, u, L, hR, hV, hS, hL, hLx, hne, hC, hG⟩ := St8
        have hN := hC.1
        have HOW := Lib.hid hS.owned
        have HNE := Lib.hid hne
        have c3 : w8.cell? ⟨B, 3, none⟩ = some u := (cells4 hV).2.2.2
        have B8 : B < w8.heap.size := lt_of_heap hV
        go_wp2_with fail
        go_region_law ((first
          | (go_simp; go_at_call 56; (with_reducible refine (HPBx.out _ _ rfl hC).mono ?_); rintro e w9 ⟨y, rfl, hy, C9, g9⟩; have v9 := gr_heap g9 hV (fun e => by cases e; omega); have r9 := gr_heap g9 hR (fun e => by cases e; omega); have s9 := hS.grown g9 (fun g hgg e => by have := HOW.out g hgg; cases e; omega); have c9 := (cells4 v9).2.2.2; have B9 : B < w9.heap.size := lt_of_heap v9)
          | (refine step_append_one (by rfl) _ _ (by rfl) w.heap.size u L (by rfl) (s9.alloc _) y w9.heap.size 1 _ _ (by rfl) (heap_alloc_new w9 _) (by omega) (by simp; omega) ?_; intro g4 cc4 w10 hS10 hg10 hl10; have v10 := gr_heap hg10 (keepA v9 _) (fun e => (HNE.out B e.symm).2 rfl); have r10 := gr_heap hg10 (keepA r9 _) (fun e => (HNE.out _ e.symm).1 rfl); have c10 := (cells4 v10).2.2.2; have f10 := frozen4 v10 3)))
        all_goals (
          go_wp2_with fail
          go_meet
          exact VerSt.put (k := 2) r10 v10 hS10 (by simp; omega) (fun z hz => by
            rcases List.mem_append.1 hz with h | h
            · exact hLx z h
            · simp at h; subst h; exact hy) (fun g hg => by
            simp only [Value.ownBlock, Option.some.injEq] at hg
            subst hg
            rcases hl10 with h | h
            · exact HNE.out _ h
            · simp at h; omega) ((C9.alloc _).grown hg10 (fun r e => by have := HOW.out r e; omega)) (gr_own (gr_trans (gr_trans hG g9) (gr_alloc w9 _ _)) hg10 (fun g hg => HOW.out g hg)) rlt hpl)
  case rest =>
  have hC0 := hcut.cur
  go_wp2_with fail
  refine (l01Below_any p 24 _ N hC0 (by omega)).mono ?_
  rintro e w6 ⟨j, rfl, _, _, C6, g6⟩
  have St := hcut.draw g6 C6 rlt hpl
  clear hcut hC0 g6 C6 HI HI2 HI3
  go_upto_block 0 with fail
  go_cut [] (fun wx => VerSt w N p B 7 wx)
  case first =>
    by_cases j0 : j = 0
    · have q0 : ((j : Int) == 0) = true := by simp [j0]
      clear j0
      have HI4 : Hid (∀ (W : World) (q : Nat), W.heap.size = q → CurAt W N p → Calls Tryz.prog 79 #[.pointer (some ⟨p, 0, none⟩), .slice (some ⟨q, 0, none⟩) 3 3] (W.alloc (.cells #[.int .i64 (-1), .int .i64 999999999, .int .i64 1000000000] 3)) fun e w' => ∃ z : Int, e = .returned (.int .i64 z) ∧ CurAt w' N p ∧ W.grownBy w' (some p)) := Lib.hid (fun W q hq hC => by subst hq; exact l01PickInt_any p [-1, 999999999, 1000000000] W N hC (by decide) (by decide))
      go_wp2_with fail
      refine (HI4.out _ _ rfl St.cur).mono ?_
      rintro e w7 ⟨z, rfl, C7, g7⟩
      have St7 := St.draw g7 C7 rlt hpl
      obtain ⟨a, b, c, u, L, hR, hV, hS, hL, hLx, hne, hC, hG⟩ := St7
      have St8 := VerSt.putMinor z hR hV hS hL hLx hne hC hG rlt hpl
      obtain ⟨x0, x1, x2, x3⟩ := cells4 hV
      have fz := frozen4 hV 1
      clear St g7 C7 hR hV hS hL hLx hne hC hG
      go_wp2_with fail
      go_meet
      exact St8.mono (by omega)
    have q0 : ((j : Int) == 0) = false := int_beq_false (by omega)
    by_cases j1 : j = 1
    · have q1 : ((j : Int) == 1) = true := by simp [j1]
      clear j1 j0
      have HPC : Hid (∀ (W : World) (q : Nat), W.heap.size = q → CurAt W N p → Calls Tryz.prog 56 #[.pointer (some ⟨p, 0, none⟩), .slice (some ⟨q, 0, none⟩) 6 6] (W.alloc (.cells #[.string ⟨#[]⟩, .string ⟨#[48, 49]⟩, .string ⟨#[97, 95, 98]⟩, .string ⟨#[49, 48, 48, 48, 48, 48, 48, 48, 48, 48]⟩, .string ⟨#[97, 98, 99, 100, 101, 102, 103, 104, 105, 106, 107, 108, 109, 110, 111, 112, 113, 114, 115, 116]⟩, .string ⟨#[97, 98, 99, 100, 101, 102, 103, 104, 105, 106, 107, 108, 109, 110, 111, 112, 113, 114, 115, 116, 117]⟩] 9)).drew fun e w' => ∃ x : List UInt8, e = .returned (.string ⟨x.toArray⟩) ∧ x.length ≤ 21 ∧ CurAt w' N p ∧ W.grownBy w' (some p)) := Lib.hid (fun W q hq hC => by
        subst hq
        exact (pick_drew p drC W N hC (by decide) (by decide)).mono (fun e w' ⟨x, he, hx, h1, h2⟩ => ⟨x, he, drC_len x hx, h1, h2⟩))
      obtain ⟨a, b, c, u, L, hR, hV, hS, hL, hLx, hne, hC, hG⟩ := St
      have hN := hC.1
      have HOW := Lib.hid hS.owned
      have HNE := Lib.hid hne
      have c3 : w6.cell? ⟨B, 3, none⟩ = some u := (cells4 hV).2.2.2
      have B8 : B < w6.heap.size := lt_of_heap hV
      go_wp2_with fail
      go_region_law ((first
        | (go_simp; go_at_call 56; (with_reducible refine (HPC.out _ _ rfl hC).mono ?_); rintro e w9 ⟨y, rfl, hy, C9, g9⟩; have v9 := gr_heap g9 hV (fun e => by cases e; omega); have r9 := gr_heap g9 hR (fun e => by cases e; omega); have s9 := hS.grown g9 (fun g hgg e => by have := HOW.out g hgg; cases e; omega); have c9 := (cells4 v9).2.2.2; have B9 : B < w9.heap.size := lt_of_heap v9)
        | (refine step_append_one (by rfl) _ _ (by rfl) w.heap.size u L (by rfl) (s9.alloc _) y w9.heap.size 1 _ _ (by rfl) (heap_alloc_new w9 _) (by omega) (by simp; omega) ?_; intro g4 cc4 w10 hS10 hg10 hl10; have v10 := gr_heap hg10 (keepA v9 _) (fun e => (HNE.out B e.symm).2 rfl); have r10 := gr_heap hg10 (keepA r9 _) (fun e => (HNE.out _ e.symm).1 rfl); have c10 := (cells4 v10).2.2.2; have f10 := frozen4 v10 3)))
      all_goals (
        go_wp2_with fail
        go_meet
        exact VerSt.put (k := 7) r10 v10 hS10 (by simp; omega) (fun z hz => by
          rcases List.mem_append.1 hz with h | h
          · exact hLx z h
          · simp at h; subst h; exact hy) (fun g hg => by
          simp only [Value.ownBlock, Option.some.injEq] at hg
          subst hg
          rcases hl10 with h | h
          · exact HNE.out _ h
          · simp at h; omega) ((C9.alloc _).grown hg10 (fun r e => by have := HOW.out r e; omega)) (gr_own (gr_trans (gr_trans hG g9) (gr_alloc w9 _ _)) hg10 (fun g hg => HOW.out g hg)) rlt hpl)
    have q1 : ((j : Int) == 1) = false := int_beq_false (by omega)
    by_cases j2 : j = 2
    · have q2 : ((j : Int) == 2) = true := by simp [j2]
      clear j2 j1 j0
      obtain ⟨a, b, c, u, L, hR, hV, hS, hL, hLx, hne, hC, hG⟩ := St
      have B6 : B < w6.heap.size := lt_of_heap hV
      have R6 : w.heap.size < w6.heap.size := lt_of_heap hR
      have S6 : Strs (w6.alloc (.cells #[.string ⟨#[97]⟩, .string ⟨#[98]⟩, .string ⟨#[99]⟩, .string ⟨#[100]⟩, .string ⟨#[101]⟩] 9)) w.heap.size (.slice (some ⟨w6.heap.size, 0, none⟩) 5 5) drD := strs_lit w6 w.heap.size drD (by omega) (by decide)
      have St6 := VerSt.put (k := 5) (keepA hR _) (keepA hV _) S6 (by decide) drD_len (fun g hg => by simp [Value.ownBlock] at hg; omega) (hC.alloc _) (gr_trans hG (gr_alloc w6 _ _)) rlt hpl
      rw [World.setCell_alloc_past _ _ _ _ B6] at St6
      obtain ⟨x0, x1, x2, x3⟩ := cells4 hV
      have fz := frozen4 hV 3
      clear hR hV hS hL hLx hne hC hG S6
      go_wp2_with fail
      refine (HO.out _ _ St6.cur (by omega)).mono ?_
      rintro e w8 ⟨o2, rfl, C8, g8⟩
      have St8 := St6.draw g8 C8 rlt hpl
      clear St6 g8 C8 x0 x1 x2 x3 fz B6 R6
      cases o2
      · go_wp2_with fail
        go_meet
        exact St8.mono (by omega)
      · obtain ⟨a, b, c, u, L, hR, hV, hS, hL, hLx, hne, hC, hG⟩ := St8
        have hN := hC.1
        have B8 : B < w8.heap.size := lt_of_heap hV
        have R8 : w.heap.size < w8.heap.size := lt_of_heap hR
        have HOW := Lib.hid hS.owned
        have HNE := Lib.hid hne
        have HLX := Lib.hid hLx
        obtain ⟨x0, x1, x2, x3⟩ := cells4 hV
        go_wp2_with (at_builtin; refine wpList_append_strs2 rfl _ _ rfl w.heap.size u L rfl (hS.alloc _) [102] w8.heap.size _ _ _ rfl (heap_alloc_new w8 _) (by omega) (by simp; omega) ?_; intro g4 cc4 w10 hS10 hg10 hl10; have v10 := gr_heap hg10 (keepA hV _) (fun e => (HNE.out B e.symm).2 rfl); have r10 := gr_heap hg10 (keepA hR _) (fun e => (HNE.out _ e.symm).1 rfl); obtain ⟨z0, z1, z2, z3⟩ := cells4 v10; have f10 := frozen4 v10 3)
        go_meet
        exact VerSt.put (k := 7) r10 v10 hS10 (by simp; omega) (fun z hz => by
          rcases List.mem_append.1 hz with h | h
          · exact HLX.out z h
          · simp at h; subst h; simp) (fun g hg => by
          simp only [Value.ownBlock, Option.some.injEq] at hg
          subst hg
          rcases hl10 with h | h
          · exact HNE.out _ h
          · simp at h; omega) ((hC.alloc _).grown hg10 (fun r e => by have := HOW.out r e; omega)) (gr_own (gr_trans hG (gr_alloc w8 _ _)) hg10 (fun g hg => HOW.out g hg)) rlt hpl
    have q2 : ((j : Int) == 2) = false := int_beq_false (by omega)
    clear j2 j1 j0
    go_wp2_with fail
    go_meet
    exact St.mono (by omega)
  case rest =>
  obtain ⟨a, b, c, u, L, hR, hV, hS, hL, hLx, hne, hC, hG⟩ := hcut
  obtain ⟨uA, uc, rfl⟩ := hS.slice
  obtain ⟨x0, x1, x2, x3⟩ := cells4 hV
  obtain ⟨y0, y1, y2, y3⟩ := cells4 hR
  have fz := frozen4 hR
  have hN := hC.1
  clear St
  go_wp2_with fail
  have gR := gr_trans (gr_trans (gr_trans (gr_set wc w.heap.size 0 (.int .i64 a)) (gr_set _ w.heap.size 1 (.int .i64 b))) (gr_set _ w.heap.size 2 (.int .i64 c))) (gr_set _ w.heap.size 3 (.slice uA L.length uc))
  refine bodyPost_ret (v := .agg #[.int .i64 a, .int .i64 b, .int .i64 c, .slice uA L.length uc]) ?_ rfl ⟨a, b, c, _, L, rfl, strs_result hS (fun g h => (hne g h).1) _ _ _ _, by omega, hLx, hC.grown gR (fun r e => by cases e; omega), gr_own hG gR (fun g e => by cases e; omega)⟩
  simp [results, Tryz.f57, go_sem, *]
end Go.Proofs.YtjhkfokjfniniaaGreatDoor
