/-
  The laws' own helpers on graphs: szGraph, toGraph, eqGraph.
-/
import Derived.Test.YtnodhkjgnegkcaaGreatDoorPkL
namespace Go.Proofs.YtnodhkjgnegkcaaGreatDoor
open Go.RowKit

/-- How much is in a graph. -/
def szG (left : Int) (ts : List (List UInt8)) (ps : List Pk) : Int := if szI left ts < 0 then -1 else szPs (szI left ts) ps
/-- A small graph. -/
def SmG (ts : List (List UInt8)) (ps : List Pk) : Prop := ts.length + smL ts ≤ 1048576 ∧ SmPs ps
theorem szG_good {ts : List (List UInt8)} {ps : List Pk} {left : Int} (hl : left ≤ 1048576) (h0 : 0 ≤ left) (h : ¬ szG left ts ps < 0) : SmG ts ps ∧ szG left ts ps ≤ 1048576 := by
  unfold szG at h ⊢
  split at h
  · omega
  · rename_i h'
    rw [if_neg h']
    unfold szI at h' h ⊢
    split at h'
    · rename_i h1
      rw [if_pos h1] at h ⊢
      unfold szPs at h ⊢
      split at h
      · rename_i h2
        rw [if_pos h2]
        exact ⟨⟨by omega, by unfold SmPs; omega⟩, by omega⟩
      · omega
    · omega


set_option maxRecDepth 100000 in
set_option maxHeartbeats 2000000 in
theorem szGraph_any (vt vp : Value) (ts : List (List UInt8)) (ps : List Pk) (left : Int) (w : World) (ht : RdS w vt ts) (hp : RdPs w vp ps) (h0 : 0 ≤ left) (h1 : left ≤ 1048576) (nt : ts.length ≤ maxLen) (mt : ∀ l ∈ ts, l.length ≤ maxLen) (np : ps.length ≤ maxLen) (mp : ∀ p ∈ ps, PkFits p) :
    Calls Tryz.prog 16 #[.agg #[vt, vp], .int .i64 left] w fun e w' => e = .returned (.int .i64 (szG left ts ps)) ∧ Below w.heap.size w w' := by
  have HA := Lib.hid (fun (W : World) (h : Below w.heap.size w W) => szStringS_any vt ts left W (ht.below h) h0 h1 nt mt)
  have HB := Lib.hid (fun (W : World) (h : Below w.heap.size w W) (z : Int) (z0 : 0 ≤ z) (z1 : z ≤ 1048576) => szPackS_any vp ps z W (hp.below h) z0 z1 np mp)
  obtain ⟨A, ca, rfl⟩ := ht.slice
  obtain ⟨B, cb, rfl, _⟩ := hp
  have B0 : Below w.heap.size w (w.alloc (.cells #[.slice A ts.length ca, .slice B ps.length cb] 32)) := (Below.refl _ _).alloc (Nat.le_refl _) _
  clear ht
  obtain ⟨z, HZ⟩ : ∃ z, Hid (szI left ts = z) := ⟨_, Lib.hid rfl⟩
  by_cases q1 : z < 0
  · have HX : Hid (szG left ts ps = -1) := Lib.hid (by unfold szG; rw [HZ.out, if_pos q1])
    go_enter Tryz.func16, Tryz.ntmps16
    go_wp2_with fail
    refine (HA.out _ B0).mono ?_
    rw [HZ.out]
    rintro e w1 ⟨rfl, rfl⟩
    go_wp2_with fail
    go_ret
    exact ⟨ret_int HX.out.symm, B0⟩
  have hz : z ≤ 1048576 := by have := HZ.out; unfold szI at this; split at this <;> omega
  obtain ⟨u, HU⟩ : ∃ u, Hid (szPs z ps = u) := ⟨_, Lib.hid rfl⟩
  have HX : Hid (szG left ts ps = u) := Lib.hid (by unfold szG; rw [HZ.out, if_neg q1, HU.out])
  have hu : u = -1 ∨ 0 ≤ u := by have := HU.out; unfold szPs at this; split at this <;> omega
  rcases hu with rfl | hu
  all_goals
    go_enter Tryz.func16, Tryz.ntmps16
    go_wp2_with fail
    refine (HA.out _ B0).mono ?_
    rw [HZ.out]
    rintro e w1 ⟨rfl, rfl⟩
    go_wp2_with fail
    refine (HB.out _ B0 _ (by omega) (by omega)).mono ?_
    rw [HU.out]
    rintro e w2 ⟨rfl, hb2⟩
    have B2 := B0.trans (hb2.mono B0.size)
    go_wp2_with fail
    go_ret
    exact ⟨ret_int HX.out.symm, B2⟩

/-- A graph of the call's own: its texts and its packs. -/
def GrOwn (w : World) (base : Nat) (a b : Value) (ts : List (List UInt8)) (ps : List Pk) : Prop := Strs w base a ts ∧ PksOwn w base b ps
theorem GrOwn.below {w w' : World} {base : Nat} {a b : Value} {ts : List (List UInt8)} {ps : List Pk} (h : GrOwn w base a b ts ps) (hb : Below w.heap.size w w') : GrOwn w' base a b ts ps := ⟨h.1.below hb, h.2.below hb⟩
theorem Strs.kept {w w' : World} {base : Nat} {v : Value} {l : List (List UInt8)} (h : Strs w base v l) (b o : Nat) (x : Value) (hb : b < base) (e : w' = w.setCell ⟨b, o, none⟩ x) : Strs w' base v l := by subst e; exact h.otherV b o x hb
theorem PksOwn.other {w : World} {base : Nat} {v : Value} {ps : List Pk} (h : PksOwn w base v ps) (b o : Nat) (x : Value) (hb : b < base) : PksOwn (w.setCell ⟨b, o, none⟩ x) base v ps := by
  obtain ⟨G, cap, qs, hv, h1, h2, h3, h4, h5⟩ := h
  refine ⟨G, cap, qs, hv, h1, by simpa using h2, h3, ?_, fun q hq => (h5 q hq).other b o x (by omega)⟩
  exact World.ownsRow.kept h4 (row := some b) ⟨rfl, rfl, rfl, by simp, fun k _ hk => heap_setCell_other w ⟨b, o, none⟩ k x (fun e => hk (by simp [e]))⟩ (by right; simp [Value.ownBlock]; omega)
theorem PksOwn.weaken {w : World} {base base' : Nat} {v : Value} {ps : List Pk} (h : PksOwn w base v ps) (hb : base' ≤ base) : PksOwn w base' v ps := by
  obtain ⟨G, cap, qs, hv, h1, h2, h3, h4, h5⟩ := h
  refine ⟨G, cap, qs, hv, by omega, h2, h3, ?_, h5⟩
  refine ⟨h4.1, ?_⟩
  rcases h4.2 with h | ⟨g, cap, cur, hv, hg, hh, hr⟩
  · exact .inl h
  · exact .inr ⟨g, cap, cur, hv, Nat.le_trans hb hg, hh, hr⟩

set_option maxRecDepth 100000 in
set_option maxHeartbeats 2000000 in
theorem toGraph_any (vt vp : Value) (ts : List (List UInt8)) (ps : List Pk) (w : World) (ht : RdS w vt ts) (hp : RdPs w vp ps) (hs : SmG ts ps) :
    Calls Tryz.prog 18 #[.agg #[vt, vp]] w fun e w' => ∃ A c B d, e = .returned (.agg #[.slice A ts.length c, .slice B ps.length d]) ∧ GrOwn w' w.heap.size (.slice A ts.length c) (.slice B ps.length d) ts ps ∧ Below w.heap.size w w' := by
  have HA := Lib.hid (fun (W : World) (h : Below w.heap.size w W) => toStringS_any vt ts W (ht.below h) (by have := hs.1; omega))
  have HB := Lib.hid (fun (W : World) (h : Below w.heap.size w W) => toPackS_any vp ps W (hp.below h) hs.2)
  obtain ⟨A, ca, rfl⟩ := ht.slice
  obtain ⟨B, cb, rfl, _⟩ := hp
  clear ht
  go_enter Tryz.func18, Tryz.ntmps18
  go_wp2_with fail
  refine (HA.out _ ?_).mono ?_
  · exact (((Below.refl _ _).alloc (Nat.le_refl _) _).alloc (by simp) _).alloc (by simp; omega) _
  rintro e w1 ⟨g1, c1, rfl, hS1, hb1⟩
  have b0 := keepB (keepA (keepA (heap_alloc_new w _) _) _) hb1
  have b1 := keepB (keepA (heap_new (n := w.heap.size + 1) (by simp) _) _) hb1
  have b2 := keepB (heap_new (n := w.heap.size + 1 + 1) (by simp) _) hb1
  have B1 : Below w.heap.size w w1 := ((((Below.refl _ w).alloc (Nat.le_refl _) _).alloc (by simp) _).alloc (by simp; omega) _).trans (hb1.mono (by simp; omega))
  have hg1 : w.heap.size + 3 ≤ g1 := by have := hS1.lo; simp at this; omega
  have hl1 : g1 < w1.heap.size := hS1.block_lt g1 rfl
  have c0 := cellsG b0
  have c2 := cellsG b2
  have f2 := frozenG b2
  clear hb1
  go_wp2_with fail
  refine (HB.out _ (B1.setCell (p := ⟨w.heap.size + 1 + 1, 0, none⟩) (by simp; omega) _)).mono ?_
  rintro e w2 ⟨u, rfl, hP, hb2⟩
  have d1 := keepB (heap_other b1 _ (by omega : w.heap.size + 1 + 1 ≠ w.heap.size + 1)) hb2
  have d2 := keepB (heap_setN b2 _) hb2
  have B2 : Below w.heap.size w w2 := (B1.setCell (p := ⟨w.heap.size + 1 + 1, 0, none⟩) (by simp; omega) _).trans (hb2.mono (by simp; omega))
  have hS2 := ((hS1.weaken (base' := w.heap.size + 1 + 1 + 1) (by simp)).other (w.heap.size + 1 + 1) 0 (.slice (some ⟨g1, 0, none⟩) ts.length c1) (by omega)).below hb2
  have hP2 := hP.weaken (base' := w.heap.size + 1 + 1 + 1) (by simp; omega)
  obtain ⟨G, cp, qs, rfl, _⟩ := id hP2
  clear hb2 hS1 hP b0 b1 b2 c0 c2 f2 B1
  have e1 := cellsG d1
  have e2 := cellsG d2
  have f1 := frozenG d1
  have f2 := frozenG d2
  go_wp2_with fail
  refine bodyPost_ret (v := .agg #[.slice (some ⟨g1, 0, none⟩) ts.length c1, .slice (some ⟨G, 0, none⟩) ps.length cp]) ?_ rfl ⟨_, _, _, _, rfl, ⟨?_, ?_⟩, ?_⟩
  · simp [results, Tryz.results18, go_sem, e1]
  · exact (((hS2.otherV _ _ _ (by omega)).otherV _ _ _ (by omega)).otherV _ _ _ (by omega)).weaken (by omega)
  · exact (((hP2.other _ _ _ (by omega)).other _ _ _ (by omega)).other _ _ _ (by omega)).weaken (by omega)
  · exact ((B2.setCell (by simp; omega) _).setCell (by simp) _).setCell (by simp) _

set_option maxRecDepth 100000 in
set_option maxHeartbeats 2000000 in
theorem eqGraph_same (a b a' b' : Value) (ts : List (List UInt8)) (ps : List Pk) (w : World) (ha : RdS w a ts) (hb : RdPs w b ps) (ha' : RdS w a' ts) (hb' : RdPs w b' ps) (hs : SmG ts ps) :
    Calls Tryz.prog 20 #[.agg #[a, b], .agg #[a', b']] w fun e w' => e = .returned (.bool true) ∧ Below w.heap.size w w' := by
  have HA := Lib.hid (fun (W : World) (h : Below w.heap.size w W) => eqStringS_same a a' ts W (ha.below h) (ha'.below h) (by have := hs.1; omega))
  have HB := Lib.hid (fun (W : World) (h : Below w.heap.size w W) => eqPackS_same b b' ps W (hb.below h) (hb'.below h) hs.2)
  obtain ⟨A, ca, rfl⟩ := ha.slice
  obtain ⟨B, cb, rfl, _⟩ := hb
  obtain ⟨A', ca', rfl⟩ := ha'.slice
  obtain ⟨B', cb', rfl, _⟩ := hb'
  clear ha ha'
  have B0 : Below w.heap.size w ((w.alloc (.cells #[.slice A ts.length ca, .slice B ps.length cb] 37)).alloc (.cells #[.slice A' ts.length ca', .slice B' ps.length cb'] 37)) := ((Below.refl _ _).alloc (Nat.le_refl _) _).alloc (by simp) _
  go_enter Tryz.func20, Tryz.ntmps20
  go_wp2_with fail
  refine (HA.out _ B0).mono ?_
  rintro e w1 ⟨rfl, n, rfl⟩
  go_wp2_with fail
  refine (HB.out _ (B0.trans (below_drewN _ _ n))).mono ?_
  rintro e w2 ⟨rfl, hb2⟩
  have B2 := (B0.trans (below_drewN _ _ n)).trans (hb2.mono (by simp; omega))
  go_wp2_with fail
  go_ret
  exact ⟨rfl, B2⟩
end Go.Proofs.YtnodhkjgnegkcaaGreatDoor
