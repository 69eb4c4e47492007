/-
  The laws' own helpers on a pack: toPack copies it, eqPack compares it with itself.
-/
import Derived.Test.YtnodhkjgnegkcaaGreatDoorPk
import Derived.Test.YtnodhkjgnegkcaaGreatDoorSumL
import Derived.Test.YtnodhkjgnegkcaaGreatDoorEqS
import Derived.Test.YtnodhkjgnegkcaaGreatDoorHeapD
namespace Go.Proofs.YtnodhkjgnegkcaaGreatDoor
open Go.RowKit

theorem Sums.other {w : World} {base g n cap : Nat} {l : List Bd} (h : Sums w base (.slice (some ⟨g, 0, none⟩) n cap) l) (b o : Nat) (x : Value) (hne : b ≠ g) : Sums (w.setCell ⟨b, o, none⟩ x) base (.slice (some ⟨g, 0, none⟩) n cap) l :=
  World.ownsRow.kept h (row := some b) ⟨rfl, rfl, rfl, by simp, fun k _ hk => heap_setCell_other w ⟨b, o, none⟩ k x (fun e => hk (by simp [e]))⟩ (by right; simp [Value.ownBlock]; omega)
theorem Sums.weaken {w : World} {base base' : Nat} {v : Value} {l : List Bd} (h : Sums w base v l) (hb : base' ≤ base) : Sums w base' v l := by
  refine ⟨h.1, ?_⟩
  rcases h.2 with h | ⟨g, cap, cur, hv, hg, hh, hr⟩
  · exact .inl h
  · exact .inr ⟨g, cap, cur, hv, Nat.le_trans hb hg, hh, hr⟩

theorem frozen6 {V : World} {B : Nat} {T : TypeId} {v0 v1 v2 v3 v4 v5 : Value} (h : V.heap[B]? = some (.cells #[v0, v1, v2, v3, v4, v5] T)) : ∀ o, V.frozen? ⟨B, o, none⟩ = false := by
  intro o; simp [World.frozen?, h]
theorem Sums.block_lt {w : World} {base g n cap : Nat} {l : List Bd} (h : Sums w base (.slice (some ⟨g, 0, none⟩) n cap) l) : g < w.heap.size := by
  rcases h.form with ⟨hv, _⟩ | ⟨g', cap', hv, _, hl⟩
  · simp at hv
  · simp only [Value.slice.injEq, Option.some.injEq, Addr.mk.injEq] at hv; omega
theorem Sums.lo {w : World} {base g n cap : Nat} {l : List Bd} (h : Sums w base (.slice (some ⟨g, 0, none⟩) n cap) l) : base ≤ g := h.owned g rfl

set_option maxRecDepth 100000 in
set_option maxHeartbeats 2000000 in
theorem toPack_any (p : Pk) (a b : Value) (w : World) (ha : RdB w a p.sums) (hb : RdS w b p.needs) (hp : SmPk p) :
    Calls Tryz.prog 106 #[.agg #[.string ⟨p.name.toArray⟩, .string ⟨p.ver.toArray⟩, .string ⟨p.src.toArray⟩, a, .bool p.dev, b]] w fun e w' => ∃ g1 c1 g2 c2, e = .returned (.agg #[.string ⟨p.name.toArray⟩, .string ⟨p.ver.toArray⟩, .string ⟨p.src.toArray⟩, .slice (some ⟨g1, 0, none⟩) p.sums.length c1, .bool p.dev, .slice (some ⟨g2, 0, none⟩) p.needs.length c2]) ∧ Sums w' w.heap.size (.slice (some ⟨g1, 0, none⟩) p.sums.length c1) p.sums ∧ Strs w' w.heap.size (.slice (some ⟨g2, 0, none⟩) p.needs.length c2) p.needs ∧ g1 ≠ g2 ∧ Below w.heap.size w w' := by
  have HA := Lib.hid (fun (W : World) (h : Below w.heap.size w W) => toSumS_any a p.sums W (ha.below h) (by have := hp.sums; unfold SmB at this; omega))
  have HB := Lib.hid (fun (W : World) (h : Below w.heap.size w W) => toStringS_any b p.needs W (hb.below h) (by have := hp.needs; omega))
  obtain ⟨A, ca, rfl⟩ := ha.slice
  obtain ⟨B, cb, rfl⟩ := hb.slice
  clear ha hb
  go_enter Tryz.func106, Tryz.ntmps106
  go_wp2_with fail
  refine (HA.out _ ?_).mono ?_
  · exact (((Below.refl _ _).alloc (Nat.le_refl _) _).alloc (by simp) _).alloc (by simp; omega) _
  rintro e w1 ⟨g1, c1, rfl, hS1, hb1⟩
  have b0 := keepB (keepA (keepA (heap_alloc_new w _) _) _) hb1
  have b1 := keepB (keepA (heap_new (n := w.heap.size + 1) (by simp) _) _) hb1
  have b2 := keepB (heap_new (n := w.heap.size + 1 + 1) (by simp) _) hb1
  have B1 : Below w.heap.size w w1 := ((((Below.refl _ w).alloc (Nat.le_refl _) _).alloc (by simp) _).alloc (by simp; omega) _).trans (hb1.mono (by simp; omega))
  have hz1 : w.heap.size + 3 ≤ w1.heap.size := by have := hb1.size; simp at this; omega
  have hg1 : w.heap.size + 3 ≤ g1 := by have := hS1.lo; simp at this; omega
  have hS1' := hS1.weaken (base' := w.heap.size) (by simp; omega)
  have c0 := cells6 b0
  have c2 := cells6 b2
  have f2 := frozen6 b2
  clear hb1 hS1
  go_wp2_with fail
  refine (HB.out _ ((B1.setCell (p := ⟨w.heap.size + 1 + 1, 3, none⟩) (by simp; omega) _).setCell (p := ⟨w.heap.size + 1 + 1, 4, none⟩) (by simp; omega) _)).mono ?_
  rintro e w2 ⟨g2, c2', rfl, hS2, hb2⟩
  have d0 := keepB (heap_other (heap_other b0 _ (by omega : w.heap.size + 1 + 1 ≠ w.heap.size)) _ (by omega)) hb2
  have d1 := keepB (heap_other (heap_other b1 _ (by omega : w.heap.size + 1 + 1 ≠ w.heap.size + 1)) _ (by omega)) hb2
  have d2 := keepB (heap_setN (heap_setN b2 _) _) hb2
  have B2 : Below w.heap.size w w2 := ((B1.setCell (p := ⟨w.heap.size + 1 + 1, 3, none⟩) (by simp; omega) _).setCell (p := ⟨w.heap.size + 1 + 1, 4, none⟩) (by simp; omega) _).trans (hb2.mono (by simp; omega))
  have hg2 : w1.heap.size ≤ g2 := by have := hS2.lo; simpa using this
  have hl1 : g1 < w1.heap.size := hS1'.block_lt
  have hS3 := ((hS1'.other (w.heap.size + 1 + 1) 3 (.slice (some ⟨g1, 0, none⟩) p.sums.length c1) (by omega)).other (w.heap.size + 1 + 1) 4 (.bool p.dev) (by omega)).below hb2
  have hS4 := hS2.weaken (base' := w.heap.size) (by simp; omega)
  clear hb2 hS2 hS1' b0 b1 b2 c0 c2 f2 B1
  have e0 := cells6 d0
  have e1 := cells6 d1
  have e2 := cells6 d2
  have f1 := frozen6 d1
  have f2 := frozen6 d2
  go_wp2_with fail
  refine bodyPost_ret (v := .agg #[.string ⟨p.name.toArray⟩, .string ⟨p.ver.toArray⟩, .string ⟨p.src.toArray⟩, .slice (some ⟨g1, 0, none⟩) p.sums.length c1, .bool p.dev, .slice (some ⟨g2, 0, none⟩) p.needs.length c2']) ?_ rfl ⟨g1, c1, g2, c2', rfl, ?_, ?_, by omega, ?_⟩
  · simp [results, Tryz.results106, go_sem, e1]
  · exact ((((((hS3.other _ _ _ (by omega)).other _ _ _ (by omega)).other _ _ _ (by omega)).other _ _ _ (by omega)).other _ _ _ (by omega)).other _ _ _ (by omega)).other _ _ _ (by omega)
  · exact ((((((hS4.other _ _ _ (by omega)).other _ _ _ (by omega)).other _ _ _ (by omega)).other _ _ _ (by omega)).other _ _ _ (by omega)).other _ _ _ (by omega)).other _ _ _ (by omega)
  · exact ((((((B2.setCell (by simp; omega) _).setCell (by simp) _).setCell (by simp) _).setCell (by simp) _).setCell (by simp) _).setCell (by simp) _).setCell (by simp) _

set_option maxRecDepth 100000 in
set_option maxHeartbeats 2000000 in
theorem eqPack_same (p : Pk) (a b a' b' : Value) (w : World) (ha : RdB w a p.sums) (hb : RdS w b p.needs) (ha' : RdB w a' p.sums) (hb' : RdS w b' p.needs) (hp : SmPk p) :
    Calls Tryz.prog 111 #[.agg #[.string ⟨p.name.toArray⟩, .string ⟨p.ver.toArray⟩, .string ⟨p.src.toArray⟩, a, .bool p.dev, b], .agg #[.string ⟨p.name.toArray⟩, .string ⟨p.ver.toArray⟩, .string ⟨p.src.toArray⟩, a', .bool p.dev, b']] w fun e w' => e = .returned (.bool true) ∧ Below w.heap.size w w' := by
  have HA := Lib.hid (fun (W : World) (h : Below w.heap.size w W) => eqSumS_same a a' p.sums W (ha.below h) (ha'.below h) (by have := hp.sums; unfold SmB at this; omega))
  have HB := Lib.hid (fun (W : World) (h : Below w.heap.size w W) => eqStringS_same b b' p.needs W (hb.below h) (hb'.below h) (by have := hp.needs; omega))
  obtain ⟨A, ca, rfl⟩ := ha.slice
  obtain ⟨B, cb, rfl⟩ := hb.slice
  obtain ⟨A', ca', rfl⟩ := ha'.slice
  obtain ⟨B', cb', rfl⟩ := hb'.slice
  clear ha hb ha' hb'
  obtain ⟨dv, hdv⟩ : ∃ dv, dv = p.dev := ⟨_, rfl⟩
  rw [← hdv]
  have q0 : (dv != dv) = false := by cases dv <;> rfl
  clear hdv
  go_enter Tryz.func111, Tryz.ntmps111
  go_wp2_with fail
  refine (HA.out _ (((Below.refl _ _).alloc (Nat.le_refl _) _).alloc (by simp) _)).mono ?_
  rintro e w1 ⟨rfl, hb1⟩
  have b0 := keepB (keepA (heap_alloc_new w _) _) hb1
  have b1 := keepB (heap_new (n := w.heap.size + 1) (by simp) _) hb1
  have B1 : Below w.heap.size w w1 := (((Below.refl _ w).alloc (Nat.le_refl _) _).alloc (by simp) _).trans (hb1.mono (by simp; omega))
  have c0 := cells6 b0
  have c1 := cells6 b1
  clear hb1
  go_wp2_with fail
  refine (HB.out _ B1).mono ?_
  rintro e w2 ⟨rfl, n, rfl⟩
  go_wp2_with fail
  go_ret
  exact ⟨rfl, B1.trans (below_drewN _ _ n)⟩
end Go.Proofs.YtnodhkjgnegkcaaGreatDoor
