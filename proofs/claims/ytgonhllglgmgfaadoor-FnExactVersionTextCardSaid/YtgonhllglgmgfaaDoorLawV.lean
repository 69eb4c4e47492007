/-
  The laws' own helpers on versions: szVersion, toVersion, eqVersion.
-/
import Derived.Test.YtgonhllglgmgfaaDoorLawS
import Derived.Test.YtgonhllglgmgfaaDoorVerM
namespace Go.Proofs.YtgonhllglgmgfaaDoor
open Go.RowKit

theorem bcell {W w1 : World} (hb : Below W.heap.size W w1) : (∀ b o, b < W.heap.size → w1.cell? ⟨b, o, none⟩ = W.cell? ⟨b, o, none⟩) ∧ (∀ b o, b < W.heap.size → w1.frozen? ⟨b, o, none⟩ = W.frozen? ⟨b, o, none⟩) :=
  ⟨fun b o h => hb.cell (p := ⟨b, o, none⟩) h, fun b o h => hb.frozen (p := ⟨b, o, none⟩) h⟩
theorem Strs.weaken {w : World} {base base' : Nat} {v : Value} {l : List (List UInt8)} (h : Strs w base v l) (hb : base' ≤ base) : Strs w base' v l := by
  refine ⟨h.1, ?_⟩
  rcases h.2 with h | ⟨g, cap, cur, hv, hg, hh, hr⟩
  · exact .inl h
  · exact .inr ⟨g, cap, cur, hv, Nat.le_trans hb hg, hh, hr⟩
theorem Strs.other {w : World} {base g n cap : Nat} {l : List (List UInt8)} (h : Strs w base (.slice (some ⟨g, 0, none⟩) n cap) l) (b o : Nat) (x : Value) (hne : b ≠ g) : Strs (w.setCell ⟨b, o, none⟩ x) base (.slice (some ⟨g, 0, none⟩) n cap) l :=
  World.ownsRow.kept h (row := some b) ⟨rfl, rfl, rfl, by simp, fun k _ hk => heap_setCell_other w ⟨b, o, none⟩ k x (fun e => hk (by simp [e]))⟩ (by right; simp [Value.ownBlock]; omega)
theorem Strs.lo {w : World} {base g n cap : Nat} {l : List (List UInt8)} (h : Strs w base (.slice (some ⟨g, 0, none⟩) n cap) l) : base ≤ g := h.owned g rfl
theorem rdS_alloc {w : World} {v : Value} {ls : List (List UInt8)} (h : RdS w v ls) (o : Obj) : RdS (w.alloc o) v ls := h.below ((Below.refl _ _).alloc (Nat.le_refl _) _)

set_option maxRecDepth 100000 in
set_option maxHeartbeats 1000000 in
theorem szVersion_any (a b c : Int) (v : Value) (ls : List (List UInt8)) (left : Int) (w : World) (hr : RdS w v ls) (h0 : 0 ≤ left) (h1 : left ≤ 1048576) (hn : ls.length ≤ maxLen) (hm : ∀ l ∈ ls, l.length ≤ maxLen) :
    Calls Tryd.prog 4 #[.agg #[.int .i64 a, .int .i64 b, .int .i64 c, v], .int .i64 left] w fun e w' => e = .returned (.int .i64 (szI left ls)) ∧ Below w.heap.size w w' := by
  have HC := Lib.hid (szStringS_any v ls left _ (rdS_alloc hr (.cells #[.int .i64 a, .int .i64 b, .int .i64 c, v] 24)) h0 h1 hn hm)
  have hx : szI left ls = -1 ∨ 0 ≤ szI left ls := by unfold szI; split <;> omega
  obtain ⟨z, HZ⟩ : ∃ z, Hid (szI left ls = z) := ⟨_, Lib.hid rfl⟩
  rw [HZ.out] at hx
  clear hr hn hm
  rcases hx with rfl | hz
  · go_enter Tryd.func4, Tryd.ntmps4
    go_wp2_with fail
    refine HC.out.mono ?_
    rw [HZ.out]
    rintro e w' ⟨rfl, rfl⟩
    go_wp2_with fail
    go_ret
    exact ⟨ret_int HZ.out.symm, (Below.refl _ _).alloc (Nat.le_refl _) _⟩
  · go_enter Tryd.func4, Tryd.ntmps4
    go_wp2_with fail
    refine HC.out.mono ?_
    rw [HZ.out]
    rintro e w' ⟨rfl, rfl⟩
    go_wp2_with fail
    go_ret
    exact ⟨ret_int HZ.out.symm, (Below.refl _ _).alloc (Nat.le_refl _) _⟩

set_option maxRecDepth 100000 in
set_option maxHeartbeats 1000000 in
theorem toVersion_any (a b c : Int) (v : Value) (ls : List (List UInt8)) (w : World) (hr : RdS w v ls) (hl : ls.length ≤ 1048576) :
    Calls Tryd.prog 6 #[.agg #[.int .i64 a, .int .i64 b, .int .i64 c, v]] w fun e w' => ∃ g cap, e = .returned (.agg #[.int .i64 a, .int .i64 b, .int .i64 c, .slice (some ⟨g, 0, none⟩) ls.length cap]) ∧ Strs w' w.heap.size (.slice (some ⟨g, 0, none⟩) ls.length cap) ls ∧ Below w.heap.size w w' := by
  have HC := Lib.hid (fun (W : World) (hb : Below w.heap.size w W) => toStringS_any v ls W (hr.below hb) hl)
  clear hr
  go_enter Tryd.func6, Tryd.ntmps6
  go_wp2_with fail
  refine (HC.out _ ?_).mono ?_
  · exact (((Below.refl _ _).alloc (Nat.le_refl _) _).alloc (by simp) _).alloc (by simp; omega) _
  rintro e w1 ⟨g, cap, rfl, hS, hb⟩
  obtain ⟨hc, hf⟩ := bcell hb
  have hz : w.heap.size + 3 ≤ w1.heap.size := by have := hb.size; simp at this; omega
  go_wp2_with fail
  refine bodyPost_ret (v := .agg #[.int .i64 a, .int .i64 b, .int .i64 c, .slice (some ⟨g, 0, none⟩) ls.length cap]) ?_ rfl ⟨g, cap, rfl, ?_, ?_⟩
  · simp [results, Tryd.results6, go_sem, hc]
  · have hg := hS.lo
    simp only [World.size_alloc] at hg
    exact (((((hS.weaken (by simp; omega)).other _ _ _ (by omega)).other _ _ _ (by omega)).other _ _ _ (by omega)).other _ _ _ (by omega)).other _ _ _ (by omega)
  · have HB := ((((Below.refl _ w).alloc (Nat.le_refl _) _).alloc (by simp) _).alloc (by simp; omega) _).trans (hb.mono (by simp; omega))
    exact ((((HB.setCell (by simp; omega) _).setCell (by simp) _).setCell (by simp) _).setCell (by simp) _).setCell (by simp) _

set_option maxRecDepth 100000 in
set_option maxHeartbeats 1000000 in
theorem eqVersion_same (a b c : Int) (va vb : Value) (ls : List (List UInt8)) (w : World) (ha : RdS w va ls) (hb : RdS w vb ls) (hl : ls.length ≤ 16777216) :
    Calls Tryd.prog 8 #[.agg #[.int .i64 a, .int .i64 b, .int .i64 c, va], .agg #[.int .i64 a, .int .i64 b, .int .i64 c, vb]] w fun e w' => e = .returned (.bool true) ∧ Below w.heap.size w w' := by
  have HC := Lib.hid (fun (W : World) (h : Below w.heap.size w W) => eqStringS_same va vb ls W (ha.below h) (hb.below h) hl)
  have qa : (a != a) = false := int_bne_false rfl
  have qb : (b != b) = false := int_bne_false rfl
  have qc : (c != c) = false := int_bne_false rfl
  clear ha hb
  go_enter Tryd.func8, Tryd.ntmps8
  go_wp2_with fail
  refine (HC.out _ ?_).mono ?_
  · exact ((Below.refl _ _).alloc (Nat.le_refl _) _).alloc (by simp) _
  rintro e w1 ⟨rfl, n, rfl⟩
  go_wp2_with fail
  go_ret
  exact ⟨rfl, (((Below.refl _ _).alloc (Nat.le_refl _) _).alloc (by simp) _).trans (below_drewN _ _ n)⟩
end Go.Proofs.YtgonhllglgmgfaaDoor
