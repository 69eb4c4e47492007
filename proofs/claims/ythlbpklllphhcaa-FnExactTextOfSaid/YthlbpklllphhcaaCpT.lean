/-
  spec.l06Copy, as far as spec.TextOf asks: what it hands back has the tree's own kind, number and text.
-/
import Derived.Test.YthlbpklllphhcaaCpS
import Derived.Test.YthlbpklllphhcaaHeapD
import Derived.Test.YthlbpklllphhcaaGrw
import Derived.Deep.RegionLaw
import Derived.Deep.RegionHeld3
namespace Go.Proofs.Ythlbpklllphhcaa
open Go.RowKit

/-- What l06Copy hands back: the tree's kind, number and text, two slices. -/
def CpW (w : World) (t : Tr) (e : Ending) (w' : World) : Prop := ∃ A n c B m d, e = .returned (trV t (.slice A n c) (.slice B m d)) ∧ Below w.heap.size w w'
theorem set5_heap {V : World} {g : Nat} {T : TypeId} {v0 v1 v2 v3 v4 : Value} (h : V.heap[g]? = some (.cells #[v0, v1, v2, v3, v4] T)) (y0 y1 y2 y3 y4 : Value) : (((((V.setCell ⟨g, 0, none⟩ y0).setCell ⟨g, 1, none⟩ y1).setCell ⟨g, 2, none⟩ y2).setCell ⟨g, 3, none⟩ y3).setCell ⟨g, 4, none⟩ y4).heap[g]? = some (.cells #[y0, y1, y2, y3, y4] T) :=
  heap_setN (k := 4) (heap_setN (k := 3) (heap_setN (k := 2) (heap_setN (k := 1) (heap_setN (k := 0) h y0) y1) y2) y3) y4
theorem set5_far {V : World} {g B : Nat} {o : Obj} (h : V.heap[B]? = some o) (hq : g ≠ B) (y0 y1 y2 y3 y4 : Value) : (((((V.setCell ⟨g, 0, none⟩ y0).setCell ⟨g, 1, none⟩ y1).setCell ⟨g, 2, none⟩ y2).setCell ⟨g, 3, none⟩ y3).setCell ⟨g, 4, none⟩ y4).heap[B]? = some o :=
  heap_other (heap_other (heap_other (heap_other (heap_other h _ hq) _ hq) _ hq) _ hq) _ hq
theorem set5_below {n g : Nat} {W V : World} (h : Below n W V) (hg : n ≤ g) (y0 y1 y2 y3 y4 : Value) : Below n W (((((V.setCell ⟨g, 0, none⟩ y0).setCell ⟨g, 1, none⟩ y1).setCell ⟨g, 2, none⟩ y2).setCell ⟨g, 3, none⟩ y3).setCell ⟨g, 4, none⟩ y4) :=
  ((((h.setCell (p := ⟨g, 0, none⟩) hg _).setCell (p := ⟨g, 1, none⟩) hg _).setCell (p := ⟨g, 2, none⟩) hg _).setCell (p := ⟨g, 3, none⟩) hg _).setCell (p := ⟨g, 4, none⟩) hg _
theorem Trees.belowV {w w' : World} {base : Nat} {v : Value} {l : List TrV} (h : Trees w base v l) (hb : Below w.heap.size w w') : Trees w' base v l := by
  rcases h.form with ⟨rfl, rfl⟩ | ⟨g, cap, rfl, _, _⟩
  · exact ⟨by simp [flatT], .inl ⟨rfl, rfl⟩⟩
  · exact h.below hb
theorem Trees.nilV (w : World) (base : Nat) : Trees w base (.slice none 0 0) [] := ⟨by simp [flatT], .inl ⟨rfl, rfl⟩⟩
theorem Trees.owned {w : World} {base : Nat} {v : Value} {l : List TrV} (h : Trees w base v l) : ∀ g, v.ownBlock = some g → base ≤ g := by
  intro g hg
  rcases h.form with ⟨rfl, rfl⟩ | ⟨g', cap, rfl, hb, _⟩
  · cases hg
  · cases hg; exact hb
theorem Trees.sliceV {w : World} {base : Nat} {v : Value} {l : List TrV} (h : Trees w base v l) : ∃ K c, v = .slice K l.length c := by
  rcases h.form with ⟨rfl, rfl⟩ | ⟨g, cap, rfl, _, _⟩
  · exact ⟨none, 0, rfl⟩
  · exact ⟨_, _, rfl⟩
/-- What is asked of trees of no more than d levels of kids. -/
def CpD (d : Nat) : Prop := ∀ (t : Tr) (b kv : Value) (w : World), RdS w b t.keys → RdTs d w kv t.kids → wT d t ≤ 1048576 → Calls Try.prog 60 #[trV t b kv] w (CpW w t)
set_option maxRecDepth 100000 in
set_option maxHeartbeats 8000000 in
theorem l06Copy_of {d : Nat} (IH : ∀ e, d = e + 1 → CpD e) (t : Tr) (b kv : Value) (w : World) (hb : RdS w b t.keys) (hk : RdTs d w kv t.kids) (hs : wT d t ≤ 1048576) :
    Calls Try.prog 60 #[trV t b kv] w (CpW w t) := by
  have hw : wT d t = t.s.length + (t.keys.length + smL t.keys) + wTs d t.kids := rfl
  have hkl : t.keys.length ≤ 1048576 := by omega
  have HB := Lib.hid (fun (W : World) (h : Below w.heap.size w W) => hb.below h)
  have HR := Lib.hid (fun (W : World) (h : Below w.heap.size w W) => hk.below h)
  obtain ⟨A, ca, rfl⟩ : ∃ A c, b = .slice A t.keys.length c := by obtain ⟨A, c, rfl, _⟩ := hb; exact ⟨A, c, rfl⟩
  obtain ⟨B, cb, rfl, hkm⟩ := hk.slice
  have HI := Lib.hid IH
  have HWT : Hid (∀ (k : Nat) (hk : k < t.kids.length) (e : Nat), d = e + 1 → wT e t.kids[k] ≤ 1048576) := Lib.hid (fun k hlt e he => by subst he; have h1 := wTs_is e t.kids; have h2 := wTo_succ (d := e) hlt; have h3 := wTo_le (d := e) (ts := t.kids) (k + 1); omega)
  have hkd : t.kids.length ≤ 1048576 := by
    rcases Nat.eq_zero_or_pos t.kids.length with h | h
    · omega
    · obtain ⟨e, _, _, _, _, rfl, _⟩ := hk.at 0 h; have h1 := wTs_is e t.kids; omega
  clear hb hk IH
  unfold trV
  go_enter Try.func60, Try.ntmps60
  go_wp2_with fail
  have b0 := keepA (heap_alloc_new w (.cells #[.int .i64 t.kind, .int .i64 t.n, .string ⟨t.s.toArray⟩, .slice A t.keys.length ca, .slice B t.kids.length cb] 30)) (.cells #[.int .i64 0, .int .i64 0, .string ⟨#[]⟩, .slice none 0 0, .slice none 0 0] 30)
  have b1 := heap_new (W := w.alloc (.cells #[.int .i64 t.kind, .int .i64 t.n, .string ⟨t.s.toArray⟩, .slice A t.keys.length ca, .slice B t.kids.length cb] 30)) (n := w.heap.size + 1) (by simp) (.cells #[.int .i64 0, .int .i64 0, .string ⟨#[]⟩, .slice none 0 0, .slice none 0 0] 30)
  have B0 := (((Below.refl w.heap.size w).alloc (Nat.le_refl _) (.cells #[.int .i64 t.kind, .int .i64 t.n, .string ⟨t.s.toArray⟩, .slice A t.keys.length ca, .slice B t.kids.length cb] 30)).alloc (by simp) (.cells #[.int .i64 0, .int .i64 0, .string ⟨#[]⟩, .slice none 0 0, .slice none 0 0] 30))
  have hz : ((w.alloc (.cells #[.int .i64 t.kind, .int .i64 t.n, .string ⟨t.s.toArray⟩, .slice A t.keys.length ca, .slice B t.kids.length cb] 30)).alloc (.cells #[.int .i64 0, .int .i64 0, .string ⟨#[]⟩, .slice none 0 0, .slice none 0 0] 30)).heap.size = w.heap.size + 2 := by simp
  generalize (w.alloc (.cells #[.int .i64 t.kind, .int .i64 t.n, .string ⟨t.s.toArray⟩, .slice A t.keys.length ca, .slice B t.kids.length cb] 30)).alloc (.cells #[.int .i64 0, .int .i64 0, .string ⟨#[]⟩, .slice none 0 0, .slice none 0 0] 30) = W0 at b0 b1 B0 hz ⊢
  obtain ⟨x0, x1, x2, x3, x4⟩ := cells5 b0
  have HZ := Lib.hid hz
  clear hz
  have HRD := Lib.hid (fun (W : World) (h : Below W0.heap.size W0 W) => HB.out W (B0.trans (h.mono (by rw [HZ.out]; omega))))
  have ba : Below W0.heap.size W0 (W0.alloc (.cells #[] 9)).drew := ((Below.refl _ _).alloc (Nat.le_refl _) _).trans (below_drewN _ _ 1)
  have bb : Below W0.heap.size W0 ((W0.alloc (.cells #[] 9)).alloc (.cells #[.int .i64 0, .int .i64 0, .string ⟨#[]⟩, .slice none 0 0, .slice none 0 0] 30)).drew := (((Below.refl _ _).alloc (Nat.le_refl _) _).alloc (by simp) _).trans (below_drewN _ _ 1)
  have bc : Below W0.heap.size W0 ((W0.alloc (.cells #[.int .i64 0, .int .i64 0, .string ⟨#[]⟩, .slice none 0 0, .slice none 0 0] 30)).alloc (.cells #[] 9)).drew := (((Below.refl _ _).alloc (Nat.le_refl _) _).alloc (by simp) _).trans (below_drewN _ _ 1)
  have sa : Strs (W0.alloc (.cells #[] 9)).drew W0.heap.size (.slice (some ⟨W0.heap.size, 0, none⟩) 0 0) [] := (Strs.empty W0 _ (Nat.le_refl _)).drew
  have sb : Strs ((W0.alloc (.cells #[] 9)).alloc (.cells #[.int .i64 0, .int .i64 0, .string ⟨#[]⟩, .slice none 0 0, .slice none 0 0] 30)).drew W0.heap.size (.slice (some ⟨W0.heap.size, 0, none⟩) 0 0) [] := ((Strs.empty W0 _ (Nat.le_refl _)).alloc _).drew
  have sc : Strs ((W0.alloc (.cells #[.int .i64 0, .int .i64 0, .string ⟨#[]⟩, .slice none 0 0, .slice none 0 0] 30)).alloc (.cells #[] 9)).drew W0.heap.size (.slice (some ⟨W0.heap.size + 1, 0, none⟩) 0 0) [] := (Strs.emptyAt (W0.alloc (.cells #[.int .i64 0, .int .i64 0, .string ⟨#[]⟩, .slice none 0 0, .slice none 0 0] 30)) W0.heap.size (W0.heap.size + 1) (by simp) (by omega)).drew
  have hXb : ((W0.alloc (.cells #[] 9)).alloc (.cells #[.int .i64 0, .int .i64 0, .string ⟨#[]⟩, .slice none 0 0, .slice none 0 0] 30)).drew.heap[W0.heap.size + 1]? = some (.cells #[.int .i64 0, .int .i64 0, .string ⟨#[]⟩, .slice none 0 0, .slice none 0 0] 30) := heap_new (by simp) _
  have hXc : ((W0.alloc (.cells #[.int .i64 0, .int .i64 0, .string ⟨#[]⟩, .slice none 0 0, .slice none 0 0] 30)).alloc (.cells #[] 9)).drew.heap[W0.heap.size]? = some (.cells #[.int .i64 0, .int .i64 0, .string ⟨#[]⟩, .slice none 0 0, .slice none 0 0] 30) := keepA (heap_alloc_new _ _) _
  have HL1 : Hid (([] : List (List UInt8)).length + t.keys.length ≤ 16777216) := Lib.hid (by simp; omega)
  have hqb : w.heap.size ≠ W0.heap.size + 1 := by rw [HZ.out]; omega
  have hqc : w.heap.size ≠ W0.heap.size := by rw [HZ.out]; omega
  obtain ⟨ya0, ya1, ya2, ya3, ya4⟩ := cells5 (keepA b0 (.cells #[] 9))
  obtain ⟨yb0, yb1, yb2, yb3, yb4⟩ := cells5 (keepA b0 (.cells #[.int .i64 0, .int .i64 0, .string ⟨#[]⟩, .slice none 0 0, .slice none 0 0] 30))
  obtain ⟨yc0, yc1, yc2, yc3, yc4⟩ := cells5 (keepA (keepA b0 (.cells #[] 9)) (.cells #[.int .i64 0, .int .i64 0, .string ⟨#[]⟩, .slice none 0 0, .slice none 0 0] 30))
  obtain ⟨yd0, yd1, yd2, yd3, yd4⟩ := cells5 (keepA (keepA b0 (.cells #[.int .i64 0, .int .i64 0, .string ⟨#[]⟩, .slice none 0 0, .slice none 0 0] 30)) (.cells #[] 9))
  go_region_held3 (fun W => W.cell? ⟨w.heap.size, 0, none⟩ = some (.int .i64 t.kind) ∧ W.cell? ⟨w.heap.size, 1, none⟩ = some (.int .i64 t.n) ∧ W.cell? ⟨w.heap.size, 2, none⟩ = some (.string ⟨t.s.toArray⟩) ∧ W.cell? ⟨w.heap.size, 3, none⟩ = some (.slice A t.keys.length ca) ∧ W.cell? ⟨w.heap.size, 4, none⟩ = some (.slice B t.kids.length cb)) (first | (with_reducible exact ⟨x0, x1, x2, x3, x4⟩) | (with_reducible exact ⟨p0, p1, p2, p3, p4⟩) | (with_reducible exact ⟨(cell_far5 hqb _ _ _ _ _ _).trans p0, (cell_far5 hqb _ _ _ _ _ _).trans p1, (cell_far5 hqb _ _ _ _ _ _).trans p2, (cell_far5 hqb _ _ _ _ _ _).trans p3, (cell_far5 hqb _ _ _ _ _ _).trans p4⟩) | (with_reducible exact ⟨(cell_far5 hqc _ _ _ _ _ _).trans p0, (cell_far5 hqc _ _ _ _ _ _).trans p1, (cell_far5 hqc _ _ _ _ _ _).trans p2, (cell_far5 hqc _ _ _ _ _ _).trans p3, (cell_far5 hqc _ _ _ _ _ _).trans p4⟩) | go_keep) ((first
    | (refine step_append_textsT (by rfl) _ _ (by rfl) W0.heap.size _ [] (by rfl) sa _ t.keys (by rfl) (HRD.out _ ba) HL1.out (by simp <;> omega) ?_; intro u1 w1 hS1 hg1; simp only [List.nil_append] at hS1; obtain ⟨U, uc, rfl⟩ : ∃ U c, u1 = .slice U t.keys.length c := (by rcases hS1.form with ⟨h1, h2⟩ | ⟨g, cap, h1, _⟩; exact ⟨none, 0, by rw [h1, h2]; rfl⟩; exact ⟨_, _, h1⟩); have C1 : Below W0.heap.size W0 w1 := ba.grown hg1 (by simp <;> omega) (fun g h => by cases h; simp); obtain ⟨p0, p1, p2, p3, p4⟩ := cells5 (keepB b0 C1); obtain ⟨o0, o1, o2, o3, o4⟩ := cells5 (keepA (keepB b0 C1) (.cells #[.int .i64 0, .int .i64 0, .string ⟨#[]⟩, .slice none 0 0, .slice none 0 0] 30)))
    | (refine step_append_textsT (by rfl) _ _ (by rfl) W0.heap.size _ [] (by rfl) sb _ t.keys (by rfl) (HRD.out _ bb) HL1.out (by simp <;> omega) ?_; intro u1 w1 hS1 hg1; simp only [List.nil_append] at hS1; obtain ⟨U, uc, rfl⟩ : ∃ U c, u1 = .slice U t.keys.length c := (by rcases hS1.form with ⟨h1, h2⟩ | ⟨g, cap, h1, _⟩; exact ⟨none, 0, by rw [h1, h2]; rfl⟩; exact ⟨_, _, h1⟩); have C1 : Below W0.heap.size W0 w1 := bb.grown hg1 (by simp <;> omega) (fun g h => by cases h; simp); obtain ⟨p0, p1, p2, p3, p4⟩ := cells5 (keepB b0 C1); have zz := grown_heap (row := W0.heap.size) hg1 hXb (by omega); obtain ⟨z0, z1, z2, z3, z4⟩ := cells5 zz; have f0 := frozen5 zz)
    | (refine step_append_textsT (by rfl) _ _ (by rfl) W0.heap.size _ [] (by rfl) sc _ t.keys (by rfl) (HRD.out _ bc) HL1.out (by simp <;> omega) ?_; intro u1 w1 hS1 hg1; simp only [List.nil_append] at hS1; obtain ⟨U, uc, rfl⟩ : ∃ U c, u1 = .slice U t.keys.length c := (by rcases hS1.form with ⟨h1, h2⟩ | ⟨g, cap, h1, _⟩; exact ⟨none, 0, by rw [h1, h2]; rfl⟩; exact ⟨_, _, h1⟩); have C1 : Below W0.heap.size W0 w1 := bc.grown hg1 (by simp <;> omega) (fun g h => by cases h; simp); obtain ⟨p0, p1, p2, p3, p4⟩ := cells5 (keepB b0 C1); have zz := grown_heap (row := W0.heap.size + 1) hg1 hXc (by omega); obtain ⟨z0, z1, z2, z3, z4⟩ := cells5 zz; have f0 := frozen5 zz)))
  · have hX := heap_alloc_new w1 (.cells #[.int .i64 t.kind, .int .i64 t.n, .string ⟨t.s.toArray⟩, .slice U t.keys.length uc, .slice none 0 0] 30)
    have hA := keepA (keepB b0 C1) (.cells #[.int .i64 t.kind, .int .i64 t.n, .string ⟨t.s.toArray⟩, .slice U t.keys.length uc, .slice none 0 0] 30)
    have hR := keepA (keepB b1 C1) (.cells #[.int .i64 t.kind, .int .i64 t.n, .string ⟨t.s.toArray⟩, .slice U t.keys.length uc, .slice none 0 0] 30)
    have B1 := B0.trans (C1.mono B0.size)
    have BV : Below w.heap.size w (w1.alloc (.cells #[.int .i64 t.kind, .int .i64 t.n, .string ⟨t.s.toArray⟩, .slice U t.keys.length uc, .slice none 0 0] 30)) := B1.alloc B1.size _
    have hne : w.heap.size + 1 < w1.heap.size := lt_of_heap (keepB b1 C1)
    have hXl : w1.heap.size < (w1.alloc (.cells #[.int .i64 t.kind, .int .i64 t.n, .string ⟨t.s.toArray⟩, .slice U t.keys.length uc, .slice none 0 0] 30)).heap.size := by simp
    clear hS1 hg1 C1 p0 p1 p2 p3 p4 o0 o1 o2 o3 o4 B1
    generalize w1.alloc (.cells #[.int .i64 t.kind, .int .i64 t.n, .string ⟨t.s.toArray⟩, .slice U t.keys.length uc, .slice none 0 0] 30) = V at hX hA hR BV hXl ⊢
    generalize w1.heap.size = X at hX hne hXl ⊢
    clear ba bb bc sa sb sc hXb hXc hqb hqc ya0 ya1 ya2 ya3 ya4 yb0 yb1 yb2 yb3 yb4 yc0 yc1 yc2 yc3 yc4 yd0 yd1 yd2 yd3 yd4 x0 x1 x2 x3 x4 HRD b0 b1 B0 HL1
    go_wp2_with fail
    go_loopw [4] (fun i wr => ∃ (k : Nat) (kv : Value) (qs : List TrV), k ≤ t.kids.length ∧ i = .int .i64 k ∧ Hid (qs.length = k) ∧ Trees wr V.heap.size kv qs ∧ wr.heap[X]? = some (.cells #[.int .i64 t.kind, .int .i64 t.n, .string ⟨t.s.toArray⟩, .slice U t.keys.length uc, kv] 30) ∧ wr.heap[w.heap.size]? = some (.cells #[.int .i64 t.kind, .int .i64 t.n, .string ⟨t.s.toArray⟩, .slice A t.keys.length ca, .slice B t.kids.length cb] 30) ∧ wr.heap[w.heap.size + 1]? = some (.cells #[.int .i64 0, .int .i64 0, .string ⟨#[]⟩, .slice none 0 0, .slice none 0 0] 30) ∧ Below w.heap.size w wr ∧ V.heap.size ≤ wr.heap.size) (fun i _ => t.kids.length - (intOf i).toNat)
    case atStart => exact ⟨0, .slice none 0 0, [], Nat.zero_le _, rfl, Lib.hid rfl, Trees.nilV _ _, hX, hA, hR, BV, Nat.le_refl _⟩
    case round =>
      obtain ⟨k, kv, qs, hk, rfl, hqk, hT, hX1, hA1, hR1, hb, hvs⟩ := hrel
      obtain ⟨K, kc, rfl⟩ := hT.sliceV
      clear hX hA hR BV
      obtain ⟨n0, n1, n2, n3, n4⟩ := cells5 hX1
      obtain ⟨a0, a1, a2, a3, a4⟩ := cells5 hA1
      by_cases hlt : k < t.kids.length
      · obtain ⟨e, g, off, bb, kk, hde, rfl, hg, d0, d1, d2, d3, d4, hf, rb, rk⟩ := (HR.out _ hb).at k hlt
        have HC := Lib.hid (fun (W : World) (h : Below wr.heap.size wr W) => HI.out e hde t.kids[k] bb kk W (rb.below h) (rk.below h) (HWT.out k hlt e hde))
        obtain ⟨A1, c1, rfl⟩ : ∃ A c, bb = .slice A t.kids[k].keys.length c := by obtain ⟨A, c, h, _⟩ := rb; exact ⟨A, c, h⟩
        obtain ⟨A2, c2, rfl, _⟩ := rk.slice
        generalize t.kids[k] = kid at d0 d1 d2 d3 d4 hf rb rk HC
        unfold trV at HC
        have HOW := Lib.hid hT.owned
        have lX := lt_of_heap hX1
        have lA := lt_of_heap hA1
        have lR := lt_of_heap hR1
        have HNE : Hid (∀ g, (Value.slice K qs.length kc).ownBlock = some g → X ≠ g ∧ w.heap.size ≠ g ∧ w.heap.size + 1 ≠ g) := Lib.hid (fun g hg => by have := HOW.out g hg; omega)
        have k0 : (0 : Int) ≤ (k : Int) := by omega
        have k1 : (k : Int) < (t.kids.length : Int) := by omega
        have BD := below_drew wr.heap.size wr
        have hXd : wr.drew.heap[X]? = _ := hX1
        have hAd : wr.drew.heap[w.heap.size]? = _ := hA1
        have hRd : wr.drew.heap[w.heap.size + 1]? = _ := hR1
        have hTd := hT.belowV BD
        have hq1 : qs.length + 1 ≤ 16777216 := by have := hqk.out; omega
        clear rb rk hT hf
        go_wp2_with fail
        go_region_law ((first
          | (go_simp; go_at_call 60; (with_reducible refine (HC.out _ BD).mono ?_); rintro e w2 ⟨E1, m1, f1, E2, m2, f2, rfl, hb2⟩; have hT2 := hTd.belowV hb2; have hX2 := keepB hXd hb2; have hA2 := keepB hAd hb2; have hR2 := keepB hRd hb2; have z2 : V.heap.size ≤ w2.heap.size := Nat.le_trans hvs hb2.size; obtain ⟨r0, r1, r2, r3, r4⟩ := cells5 hX2; obtain ⟨s0, s1, s2, s3, s4⟩ := cells5 hA2; have lX2 := lt_of_heap hX2; have lA2 := lt_of_heap hA2)
          | (have hbl := heap_alloc_new w2 (.cells #[.int .i64 kid.kind, .int .i64 kid.n, .string ⟨kid.s.toArray⟩, .slice E1 m1 f1, .slice E2 m2 f2] 30); have hba := ((Below.refl w2.heap.size w2).alloc (Nat.le_refl _) (.cells #[.int .i64 kid.kind, .int .i64 kid.n, .string ⟨kid.s.toArray⟩, .slice E1 m1 f1, .slice E2 m2 f2] 30)); have hT3 := hT2.belowV hba; have z3 := Nat.le_trans z2 hba.size; have hX3 := keepA hX2 (.cells #[.int .i64 kid.kind, .int .i64 kid.n, .string ⟨kid.s.toArray⟩, .slice E1 m1 f1, .slice E2 m2 f2] 30); have hA3 := keepA hA2 (.cells #[.int .i64 kid.kind, .int .i64 kid.n, .string ⟨kid.s.toArray⟩, .slice E1 m1 f1, .slice E2 m2 f2] 30); have hR3 := keepA hR2 (.cells #[.int .i64 kid.kind, .int .i64 kid.n, .string ⟨kid.s.toArray⟩, .slice E1 m1 f1, .slice E2 m2 f2] 30); refine step_append_tree (by rfl) (.tmp 24) (.tmp 31) (by rfl) V.heap.size (.slice K qs.length kc) qs (by rfl) hT3 (kid, .slice E1 m1 f1, .slice E2 m2 f2) (by rfl) (by rfl) w2.heap.size 1 30 (0, 0) (by rfl) hbl hq1 z3 ?_; intro g4 c4 w4 hT4 hg4 hl4; have hX4 := gr_heap hg4 hX3 (fun e => (HNE.out X e.symm).1 rfl); have hA4 := gr_heap hg4 hA3 (fun e => (HNE.out w.heap.size e.symm).2.1 rfl); have hR4 := gr_heap hg4 hR3 (fun e => (HNE.out (w.heap.size + 1) e.symm).2.2 rfl); obtain ⟨o0, o1, o2, o3, o4⟩ := cells5 hX4; have fz := frozen5 hX4)))
        all_goals
          have hgX : X ≠ g4 := by
            rcases hl4 with h | h
            · exact (HNE.out g4 h).1
            · rw [h]; simp; omega
          have B2 := hb.trans ((BD.trans (hb2.mono BD.size)).mono hb.size)
          have B4 := gr_belowN (B2.alloc B2.size (.cells #[.int .i64 kid.kind, .int .i64 kid.n, .string ⟨kid.s.toArray⟩, .slice E1 m1 f1, .slice E2 m2 f2] 30)) hg4 (B2.alloc B2.size (.cells #[.int .i64 kid.kind, .int .i64 kid.n, .string ⟨kid.s.toArray⟩, .slice E1 m1 f1, .slice E2 m2 f2] 30)).size (fun g hg => by have := HOW.out g hg; omega)
          have z4 := Nat.le_trans z3 hg4.size
          have hXE := heap_setN (k := 4) hX4 (.slice (some ⟨g4, 0, none⟩) (qs.length + 1) c4)
          have hAE := heap_other (g := X) (o := 4) hA4 (.slice (some ⟨g4, 0, none⟩) (qs.length + 1) c4) (by omega)
          have hRE := heap_other (g := X) (o := 4) hR4 (.slice (some ⟨g4, 0, none⟩) (qs.length + 1) c4) (by omega)
          have hTE := hT4.other X 4 (.slice (some ⟨g4, 0, none⟩) (qs.length + 1) c4) hgX
          have BE := B4.setCell (p := ⟨X, 4, none⟩) (by show w.heap.size ≤ X; omega) (.slice (some ⟨g4, 0, none⟩) (qs.length + 1) c4)
          clear hTd hT2 hXd hX2 hX3 hX4 hAd hA2 hA3 hA4 hRd hR2 hR3 hR4 hT4 B2 B4 hg4 hb2 hbl hba hT3
          go_wp2_with fail
          go_roundw
          case rel => exact ⟨k + 1, _, qs ++ [(kid, .slice E1 m1 f1, .slice E2 m2 f2)], by omega, by go_num, Lib.hid (by simp [hqk.out]), hTE, hXE, hAE, hRE, BE, by simpa using z4⟩
          case measure => simp [intOf]; omega
      · obtain ⟨y0, y1, y2, y3, y4⟩ := cells5 hR1
        have fz := frozen5 hR1
        have lX := lt_of_heap hX1
        have lR := lt_of_heap hR1
        go_wp2_with fail
        refine bodyPost_ret (v := .agg #[.int .i64 t.kind, .int .i64 t.n, .string ⟨t.s.toArray⟩, .slice U t.keys.length uc, .slice K qs.length kc]) ?_ rfl ⟨U, _, uc, K, _, kc, rfl, ?_⟩
        · simp [results, Try.results60, go_sem, y0, y1, y2, y3, y4]
        · exact ((((hb.setCell (Nat.le_succ _) _).setCell (Nat.le_succ _) _).setCell (Nat.le_succ _) _).setCell (Nat.le_succ _) _).setCell (Nat.le_succ _) _
  · have hX := set5_heap zz (.int .i64 t.kind) (.int .i64 t.n) (.string ⟨t.s.toArray⟩) (.slice U t.keys.length uc) (.slice none 0 0)
    have hne : w.heap.size + 1 < W0.heap.size + 1 := by have := lt_of_heap b1; omega
    have hA := set5_far (g := W0.heap.size + 1) (keepB b0 C1) (by omega) (.int .i64 t.kind) (.int .i64 t.n) (.string ⟨t.s.toArray⟩) (.slice U t.keys.length uc) (.slice none 0 0)
    have hR := set5_far (g := W0.heap.size + 1) (keepB b1 C1) (by omega) (.int .i64 t.kind) (.int .i64 t.n) (.string ⟨t.s.toArray⟩) (.slice U t.keys.length uc) (.slice none 0 0)
    have BV := set5_below (g := W0.heap.size + 1) (B0.trans (C1.mono B0.size)) (by omega) (.int .i64 t.kind) (.int .i64 t.n) (.string ⟨t.s.toArray⟩) (.slice U t.keys.length uc) (.slice none 0 0)
    have hXl := lt_of_heap hX
    clear hS1 hg1 C1 p0 p1 p2 p3 p4 zz z0 z1 z2 z3 z4 f0
    generalize World.setCell _ _ _ = V at hX hA hR BV hXl ⊢
    generalize W0.heap.size + 1 = X at hX hne hXl ⊢
    clear ba bb bc sa sb sc hXb hXc hqb hqc ya0 ya1 ya2 ya3 ya4 yb0 yb1 yb2 yb3 yb4 yc0 yc1 yc2 yc3 yc4 yd0 yd1 yd2 yd3 yd4 x0 x1 x2 x3 x4 HRD b0 b1 B0 HL1
    go_wp2_with fail
    go_loopw [4] (fun i wr => ∃ (k : Nat) (kv : Value) (qs : List TrV), k ≤ t.kids.length ∧ i = .int .i64 k ∧ Hid (qs.length = k) ∧ Trees wr V.heap.size kv qs ∧ wr.heap[X]? = some (.cells #[.int .i64 t.kind, .int .i64 t.n, .string ⟨t.s.toArray⟩, .slice U t.keys.length uc, kv] 30) ∧ wr.heap[w.heap.size]? = some (.cells #[.int .i64 t.kind, .int .i64 t.n, .string ⟨t.s.toArray⟩, .slice A t.keys.length ca, .slice B t.kids.length cb] 30) ∧ wr.heap[w.heap.size + 1]? = some (.cells #[.int .i64 0, .int .i64 0, .string ⟨#[]⟩, .slice none 0 0, .slice none 0 0] 30) ∧ Below w.heap.size w wr ∧ V.heap.size ≤ wr.heap.size) (fun i _ => t.kids.length - (intOf i).toNat)
    case atStart => exact ⟨0, .slice none 0 0, [], Nat.zero_le _, rfl, Lib.hid rfl, Trees.nilV _ _, hX, hA, hR, BV, Nat.le_refl _⟩
    case round =>
      obtain ⟨k, kv, qs, hk, rfl, hqk, hT, hX1, hA1, hR1, hb, hvs⟩ := hrel
      obtain ⟨K, kc, rfl⟩ := hT.sliceV
      clear hX hA hR BV
      obtain ⟨n0, n1, n2, n3, n4⟩ := cells5 hX1
      obtain ⟨a0, a1, a2, a3, a4⟩ := cells5 hA1
      by_cases hlt : k < t.kids.length
      · obtain ⟨e, g, off, bb, kk, hde, rfl, hg, d0, d1, d2, d3, d4, hf, rb, rk⟩ := (HR.out _ hb).at k hlt
        have HC := Lib.hid (fun (W : World) (h : Below wr.heap.size wr W) => HI.out e hde t.kids[k] bb kk W (rb.below h) (rk.below h) (HWT.out k hlt e hde))
        obtain ⟨A1, c1, rfl⟩ : ∃ A c, bb = .slice A t.kids[k].keys.length c := by obtain ⟨A, c, h, _⟩ := rb; exact ⟨A, c, h⟩
        obtain ⟨A2, c2, rfl, _⟩ := rk.slice
        generalize t.kids[k] = kid at d0 d1 d2 d3 d4 hf rb rk HC
        unfold trV at HC
        have HOW := Lib.hid hT.owned
        have lX := lt_of_heap hX1
        have lA := lt_of_heap hA1
        have lR := lt_of_heap hR1
        have HNE : Hid (∀ g, (Value.slice K qs.length kc).ownBlock = some g → X ≠ g ∧ w.heap.size ≠ g ∧ w.heap.size + 1 ≠ g) := Lib.hid (fun g hg => by have := HOW.out g hg; omega)
        have k0 : (0 : Int) ≤ (k : Int) := by omega
        have k1 : (k : Int) < (t.kids.length : Int) := by omega
        have BD := below_drew wr.heap.size wr
        have hXd : wr.drew.heap[X]? = _ := hX1
        have hAd : wr.drew.heap[w.heap.size]? = _ := hA1
        have hRd : wr.drew.heap[w.heap.size + 1]? = _ := hR1
        have hTd := hT.belowV BD
        have hq1 : qs.length + 1 ≤ 16777216 := by have := hqk.out; omega
        clear rb rk hT hf
        go_wp2_with fail
        go_region_law ((first
          | (go_simp; go_at_call 60; (with_reducible refine (HC.out _ BD).mono ?_); rintro e w2 ⟨E1, m1, f1, E2, m2, f2, rfl, hb2⟩; have hT2 := hTd.belowV hb2; have hX2 := keepB hXd hb2; have hA2 := keepB hAd hb2; have hR2 := keepB hRd hb2; have z2 : V.heap.size ≤ w2.heap.size := Nat.le_trans hvs hb2.size; obtain ⟨r0, r1, r2, r3, r4⟩ := cells5 hX2; obtain ⟨s0, s1, s2, s3, s4⟩ := cells5 hA2; have lX2 := lt_of_heap hX2; have lA2 := lt_of_heap hA2)
          | (have hbl := heap_alloc_new w2 (.cells #[.int .i64 kid.kind, .int .i64 kid.n, .string ⟨kid.s.toArray⟩, .slice E1 m1 f1, .slice E2 m2 f2] 30); have hba := ((Below.refl w2.heap.size w2).alloc (Nat.le_refl _) (.cells #[.int .i64 kid.kind, .int .i64 kid.n, .string ⟨kid.s.toArray⟩, .slice E1 m1 f1, .slice E2 m2 f2] 30)); have hT3 := hT2.belowV hba; have z3 := Nat.le_trans z2 hba.size; have hX3 := keepA hX2 (.cells #[.int .i64 kid.kind, .int .i64 kid.n, .string ⟨kid.s.toArray⟩, .slice E1 m1 f1, .slice E2 m2 f2] 30); have hA3 := keepA hA2 (.cells #[.int .i64 kid.kind, .int .i64 kid.n, .string ⟨kid.s.toArray⟩, .slice E1 m1 f1, .slice E2 m2 f2] 30); have hR3 := keepA hR2 (.cells #[.int .i64 kid.kind, .int .i64 kid.n, .string ⟨kid.s.toArray⟩, .slice E1 m1 f1, .slice E2 m2 f2] 30); refine step_append_tree (by rfl) (.tmp 24) (.tmp 31) (by rfl) V.heap.size (.slice K qs.length kc) qs (by rfl) hT3 (kid, .slice E1 m1 f1, .slice E2 m2 f2) (by rfl) (by rfl) w2.heap.size 1 30 (0, 0) (by rfl) hbl hq1 z3 ?_; intro g4 c4 w4 hT4 hg4 hl4; have hX4 := gr_heap hg4 hX3 (fun e => (HNE.out X e.symm).1 rfl); have hA4 := gr_heap hg4 hA3 (fun e => (HNE.out w.heap.size e.symm).2.1 rfl); have hR4 := gr_heap hg4 hR3 (fun e => (HNE.out (w.heap.size + 1) e.symm).2.2 rfl); obtain ⟨o0, o1, o2, o3, o4⟩ := cells5 hX4; have fz := frozen5 hX4)))
        all_goals
          have hgX : X ≠ g4 := by
            rcases hl4 with h | h
            · exact (HNE.out g4 h).1
            · rw [h]; simp; omega
          have B2 := hb.trans ((BD.trans (hb2.mono BD.size)).mono hb.size)
          have B4 := gr_belowN (B2.alloc B2.size (.cells #[.int .i64 kid.kind, .int .i64 kid.n, .string ⟨kid.s.toArray⟩, .slice E1 m1 f1, .slice E2 m2 f2] 30)) hg4 (B2.alloc B2.size (.cells #[.int .i64 kid.kind, .int .i64 kid.n, .string ⟨kid.s.toArray⟩, .slice E1 m1 f1, .slice E2 m2 f2] 30)).size (fun g hg => by have := HOW.out g hg; omega)
          have z4 := Nat.le_trans z3 hg4.size
          have hXE := heap_setN (k := 4) hX4 (.slice (some ⟨g4, 0, none⟩) (qs.length + 1) c4)
          have hAE := heap_other (g := X) (o := 4) hA4 (.slice (some ⟨g4, 0, none⟩) (qs.length + 1) c4) (by omega)
          have hRE := heap_other (g := X) (o := 4) hR4 (.slice (some ⟨g4, 0, none⟩) (qs.length + 1) c4) (by omega)
          have hTE := hT4.other X 4 (.slice (some ⟨g4, 0, none⟩) (qs.length + 1) c4) hgX
          have BE := B4.setCell (p := ⟨X, 4, none⟩) (by show w.heap.size ≤ X; omega) (.slice (some ⟨g4, 0, none⟩) (qs.length + 1) c4)
          clear hTd hT2 hXd hX2 hX3 hX4 hAd hA2 hA3 hA4 hRd hR2 hR3 hR4 hT4 B2 B4 hg4 hb2 hbl hba hT3
          go_wp2_with fail
          go_roundw
          case rel => exact ⟨k + 1, _, qs ++ [(kid, .slice E1 m1 f1, .slice E2 m2 f2)], by omega, by go_num, Lib.hid (by simp [hqk.out]), hTE, hXE, hAE, hRE, BE, by simpa using z4⟩
          case measure => simp [intOf]; omega
      · obtain ⟨y0, y1, y2, y3, y4⟩ := cells5 hR1
        have fz := frozen5 hR1
        have lX := lt_of_heap hX1
        have lR := lt_of_heap hR1
        go_wp2_with fail
        refine bodyPost_ret (v := .agg #[.int .i64 t.kind, .int .i64 t.n, .string ⟨t.s.toArray⟩, .slice U t.keys.length uc, .slice K qs.length kc]) ?_ rfl ⟨U, _, uc, K, _, kc, rfl, ?_⟩
        · simp [results, Try.results60, go_sem, y0, y1, y2, y3, y4]
        · exact ((((hb.setCell (Nat.le_succ _) _).setCell (Nat.le_succ _) _).setCell (Nat.le_succ _) _).setCell (Nat.le_succ _) _).setCell (Nat.le_succ _) _
  · have hX := set5_heap zz (.int .i64 t.kind) (.int .i64 t.n) (.string ⟨t.s.toArray⟩) (.slice U t.keys.length uc) (.slice none 0 0)
    have hne : w.heap.size + 1 < W0.heap.size := lt_of_heap b1
    have hA := set5_far (g := W0.heap.size) (keepB b0 C1) (by omega) (.int .i64 t.kind) (.int .i64 t.n) (.string ⟨t.s.toArray⟩) (.slice U t.keys.length uc) (.slice none 0 0)
    have hR := set5_far (g := W0.heap.size) (keepB b1 C1) (by omega) (.int .i64 t.kind) (.int .i64 t.n) (.string ⟨t.s.toArray⟩) (.slice U t.keys.length uc) (.slice none 0 0)
    have BV := set5_below (g := W0.heap.size) (B0.trans (C1.mono B0.size)) (by omega) (.int .i64 t.kind) (.int .i64 t.n) (.string ⟨t.s.toArray⟩) (.slice U t.keys.length uc) (.slice none 0 0)
    have hXl := lt_of_heap hX
    clear hS1 hg1 C1 p0 p1 p2 p3 p4 zz z0 z1 z2 z3 z4 f0
    generalize World.setCell _ _ _ = V at hX hA hR BV hXl ⊢
    generalize W0.heap.size = X at hX hne hXl ⊢
    clear ba bb bc sa sb sc hXb hXc hqb hqc ya0 ya1 ya2 ya3 ya4 yb0 yb1 yb2 yb3 yb4 yc0 yc1 yc2 yc3 yc4 yd0 yd1 yd2 yd3 yd4 x0 x1 x2 x3 x4 HRD b0 b1 B0 HL1
    go_wp2_with fail
    go_loopw [4] (fun i wr => ∃ (k : Nat) (kv : Value) (qs : List TrV), k ≤ t.kids.length ∧ i = .int .i64 k ∧ Hid (qs.length = k) ∧ Trees wr V.heap.size kv qs ∧ wr.heap[X]? = some (.cells #[.int .i64 t.kind, .int .i64 t.n, .string ⟨t.s.toArray⟩, .slice U t.keys.length uc, kv] 30) ∧ wr.heap[w.heap.size]? = some (.cells #[.int .i64 t.kind, .int .i64 t.n, .string ⟨t.s.toArray⟩, .slice A t.keys.length ca, .slice B t.kids.length cb] 30) ∧ wr.heap[w.heap.size + 1]? = some (.cells #[.int .i64 0, .int .i64 0, .string ⟨#[]⟩, .slice none 0 0, .slice none 0 0] 30) ∧ Below w.heap.size w wr ∧ V.heap.size ≤ wr.heap.size) (fun i _ => t.kids.length - (intOf i).toNat)
    case atStart => exact ⟨0, .slice none 0 0, [], Nat.zero_le _, rfl, Lib.hid rfl, Trees.nilV _ _, hX, hA, hR, BV, Nat.le_refl _⟩
    case round =>
      obtain ⟨k, kv, qs, hk, rfl, hqk, hT, hX1, hA1, hR1, hb, hvs⟩ := hrel
      obtain ⟨K, kc, rfl⟩ := hT.sliceV
      clear hX hA hR BV
      obtain ⟨n0, n1, n2, n3, n4⟩ := cells5 hX1
      obtain ⟨a0, a1, a2, a3, a4⟩ := cells5 hA1
      by_cases hlt : k < t.kids.length
      · obtain ⟨e, g, off, bb, kk, hde, rfl, hg, d0, d1, d2, d3, d4, hf, rb, rk⟩ := (HR.out _ hb).at k hlt
        have HC := Lib.hid (fun (W : World) (h : Below wr.heap.size wr W) => HI.out e hde t.kids[k] bb kk W (rb.below h) (rk.below h) (HWT.out k hlt e hde))
        obtain ⟨A1, c1, rfl⟩ : ∃ A c, bb = .slice A t.kids[k].keys.length c := by obtain ⟨A, c, h, _⟩ := rb; exact ⟨A, c, h⟩
        obtain ⟨A2, c2, rfl, _⟩ := rk.slice
        generalize t.kids[k] = kid at d0 d1 d2 d3 d4 hf rb rk HC
        unfold trV at HC
        have HOW := Lib.hid hT.owned
        have lX := lt_of_heap hX1
        have lA := lt_of_heap hA1
        have lR := lt_of_heap hR1
        have HNE : Hid (∀ g, (Value.slice K qs.length kc).ownBlock = some g → X ≠ g ∧ w.heap.size ≠ g ∧ w.heap.size + 1 ≠ g) := Lib.hid (fun g hg => by have := HOW.out g hg; omega)
        have k0 : (0 : Int) ≤ (k : Int) := by omega
        have k1 : (k : Int) < (t.kids.length : Int) := by omega
        have BD := below_drew wr.heap.size wr
        have hXd : wr.drew.heap[X]? = _ := hX1
        have hAd : wr.drew.heap[w.heap.size]? = _ := hA1
        have hRd : wr.drew.heap[w.heap.size + 1]? = _ := hR1
        have hTd := hT.belowV BD
        have hq1 : qs.length + 1 ≤ 16777216 := by have := hqk.out; omega
        clear rb rk hT hf
        go_wp2_with fail
        go_region_law ((first
          | (go_simp; go_at_call 60; (with_reducible refine (HC.out _ BD).mono ?_); rintro e w2 ⟨E1, m1, f1, E2, m2, f2, rfl, hb2⟩; have hT2 := hTd.belowV hb2; have hX2 := keepB hXd hb2; have hA2 := keepB hAd hb2; have hR2 := keepB hRd hb2; have z2 : V.heap.size ≤ w2.heap.size := Nat.le_trans hvs hb2.size; obtain ⟨r0, r1, r2, r3, r4⟩ := cells5 hX2; obtain ⟨s0, s1, s2, s3, s4⟩ := cells5 hA2; have lX2 := lt_of_heap hX2; have lA2 := lt_of_heap hA2)
          | (have hbl := heap_alloc_new w2 (.cells #[.int .i64 kid.kind, .int .i64 kid.n, .string ⟨kid.s.toArray⟩, .slice E1 m1 f1, .slice E2 m2 f2] 30); have hba := ((Below.refl w2.heap.size w2).alloc (Nat.le_refl _) (.cells #[.int .i64 kid.kind, .int .i64 kid.n, .string ⟨kid.s.toArray⟩, .slice E1 m1 f1, .slice E2 m2 f2] 30)); have hT3 := hT2.belowV hba; have z3 := Nat.le_trans z2 hba.size; have hX3 := keepA hX2 (.cells #[.int .i64 kid.kind, .int .i64 kid.n, .string ⟨kid.s.toArray⟩, .slice E1 m1 f1, .slice E2 m2 f2] 30); have hA3 := keepA hA2 (.cells #[.int .i64 kid.kind, .int .i64 kid.n, .string ⟨kid.s.toArray⟩, .slice E1 m1 f1, .slice E2 m2 f2] 30); have hR3 := keepA hR2 (.cells #[.int .i64 kid.kind, .int .i64 kid.n, .string ⟨kid.s.toArray⟩, .slice E1 m1 f1, .slice E2 m2 f2] 30); refine step_append_tree (by rfl) (.tmp 24) (.tmp 31) (by rfl) V.heap.size (.slice K qs.length kc) qs (by rfl) hT3 (kid, .slice E1 m1 f1, .slice E2 m2 f2) (by rfl) (by rfl) w2.heap.size 1 30 (0, 0) (by rfl) hbl hq1 z3 ?_; intro g4 c4 w4 hT4 hg4 hl4; have hX4 := gr_heap hg4 hX3 (fun e => (HNE.out X e.symm).1 rfl); have hA4 := gr_heap hg4 hA3 (fun e => (HNE.out w.heap.size e.symm).2.1 rfl); have hR4 := gr_heap hg4 hR3 (fun e => (HNE.out (w.heap.size + 1) e.symm).2.2 rfl); obtain ⟨o0, o1, o2, o3, o4⟩ := cells5 hX4; have fz := frozen5 hX4)))
        all_goals
          have hgX : X ≠ g4 := by
            rcases hl4 with h | h
            · exact (HNE.out g4 h).1
            · rw [h]; simp; omega
          have B2 := hb.trans ((BD.trans (hb2.mono BD.size)).mono hb.size)
          have B4 := gr_belowN (B2.alloc B2.size (.cells #[.int .i64 kid.kind, .int .i64 kid.n, .string ⟨kid.s.toArray⟩, .slice E1 m1 f1, .slice E2 m2 f2] 30)) hg4 (B2.alloc B2.size (.cells #[.int .i64 kid.kind, .int .i64 kid.n, .string ⟨kid.s.toArray⟩, .slice E1 m1 f1, .slice E2 m2 f2] 30)).size (fun g hg => by have := HOW.out g hg; omega)
          have z4 := Nat.le_trans z3 hg4.size
          have hXE := heap_setN (k := 4) hX4 (.slice (some ⟨g4, 0, none⟩) (qs.length + 1) c4)
          have hAE := heap_other (g := X) (o := 4) hA4 (.slice (some ⟨g4, 0, none⟩) (qs.length + 1) c4) (by omega)
          have hRE := heap_other (g := X) (o := 4) hR4 (.slice (some ⟨g4, 0, none⟩) (qs.length + 1) c4) (by omega)
          have hTE := hT4.other X 4 (.slice (some ⟨g4, 0, none⟩) (qs.length + 1) c4) hgX
          have BE := B4.setCell (p := ⟨X, 4, none⟩) (by show w.heap.size ≤ X; omega) (.slice (some ⟨g4, 0, none⟩) (qs.length + 1) c4)
          clear hTd hT2 hXd hX2 hX3 hX4 hAd hA2 hA3 hA4 hRd hR2 hR3 hR4 hT4 B2 B4 hg4 hb2 hbl hba hT3
          go_wp2_with fail
          go_roundw
          case rel => exact ⟨k + 1, _, qs ++ [(kid, .slice E1 m1 f1, .slice E2 m2 f2)], by omega, by go_num, Lib.hid (by simp [hqk.out]), hTE, hXE, hAE, hRE, BE, by simpa using z4⟩
          case measure => simp [intOf]; omega
      · obtain ⟨y0, y1, y2, y3, y4⟩ := cells5 hR1
        have fz := frozen5 hR1
        have lX := lt_of_heap hX1
        have lR := lt_of_heap hR1
        go_wp2_with fail
        refine bodyPost_ret (v := .agg #[.int .i64 t.kind, .int .i64 t.n, .string ⟨t.s.toArray⟩, .slice U t.keys.length uc, .slice K qs.length kc]) ?_ rfl ⟨U, _, uc, K, _, kc, rfl, ?_⟩
        · simp [results, Try.results60, go_sem, y0, y1, y2, y3, y4]
        · exact ((((hb.setCell (Nat.le_succ _) _).setCell (Nat.le_succ _) _).setCell (Nat.le_succ _) _).setCell (Nat.le_succ _) _).setCell (Nat.le_succ _) _
theorem cpD_zero : CpD 0 := fun t b kv w hb hk hs => l06Copy_of (fun e he => by omega) t b kv w hb hk hs
theorem cpD : ∀ d, CpD d
  | 0 => cpD_zero
  | d + 1 => fun t b kv w hb hk hs => l06Copy_of (fun e he => by have : e = d := by omega
                                                                 subst this; exact cpD e) t b kv w hb hk hs
end Go.Proofs.Ythlbpklllphhcaa
