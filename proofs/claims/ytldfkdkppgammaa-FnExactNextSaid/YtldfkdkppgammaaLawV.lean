/-
  The laws' own helpers on versions: szVersion, toVersion, eqVersion.
-/
import Derived.Test.YtldfkdkppgammaaEqS
import Derived.Test.YtldfkdkppgammaaLawS
import Derived.Test.YtldfkdkppgammaaVerM
namespace Go.Proofs.Ytldfkdkppgammaa
open Go.RowKit
set_option maxRecDepth 100000 in
set_option maxHeartbeats 1000000 in
theorem szVersion_any (a b c : Int) (v : Value) (ls : List (List UInt8)) (left : Int) (w : World) (hr : RdS w v ls) (h0 : 0 ≤ left) (h1 : left ≤ 1048576) (hn : ls.length ≤ maxLen) (hm : ∀ l ∈ ls, l.length ≤ maxLen) :
    Calls Try.prog 27 #[.agg #[.int .i64 a, .int .i64 b, .int .i64 c, v], .int .i64 left] w fun e w' => e = .returned (.int .i64 (szI left ls)) ∧ Below w.heap.size w w' := by
  have HC := Lib.hid (szStringS_any v ls left _ (rdS_alloc hr (.cells #[.int .i64 a, .int .i64 b, .int .i64 c, v] 45)) h0 h1 hn hm)
  have hx : szI left ls = -1 ∨ 0 ≤ szI left ls := by unfold szI; split <;> omega
  obtain ⟨z, HZ⟩ : ∃ z, Hid (szI left ls = z) := ⟨_, Lib.hid rfl⟩
  rw [HZ.out] at hx
  clear hr hn hm
  rcases hx with rfl | hz
  · go_enter Try.func27, Try.ntmps27
    go_wp2_with fail
    refine HC.out.mono ?_
    rw [HZ.out]
    rintro e w' ⟨rfl, rfl⟩
    go_wp2_with fail
    go_ret
    exact ⟨ret_int HZ.out.symm, (Below.refl _ _).alloc (Nat.le_refl _) _⟩
  · go_enter Try.func27, Try.ntmps27
    go_wp2_with fail
    refine HC.out.mono ?_
    rw [HZ.out]
    rintro e w' ⟨rfl, rfl⟩
    go_wp2_with fail
    go_ret
    exact ⟨ret_int HZ.out.symm, (Below.refl _ _).alloc (Nat.le_refl _) _⟩

set_option maxRecDepth 100000 in
set_option maxHeartbeats 1000000 in
theorem toVersion_any (a b c : Int) (v : Value) (ls : List (List UInt8)) (w : World) (hr : RdS w v ls) (hl : ls.length ≤ 1048576) :
    Calls Try.prog 29 #[.agg #[.int .i64 a, .int .i64 b, .int .i64 c, v]] w fun e w' => ∃ g cap, e = .returned (.agg #[.int .i64 a, .int .i64 b, .int .i64 c, .slice (some ⟨g, 0, none⟩) ls.length cap]) ∧ Strs w' w.heap.size (.slice (some ⟨g, 0, none⟩) ls.length cap) ls ∧ Below w.heap.size w w' := by
  have HC := Lib.hid (fun (W : World) (hb : Below w.heap.size w W) => toStringS_any v ls W (hr.below hb) hl)
  clear hr
  go_enter Try.func29, Try.ntmps29
  go_wp2_with fail
  refine (HC.out _ ?_).mono ?_
  · exact (((Below.refl _ _).alloc (Nat.le_refl _) _).alloc (by simp) _).alloc (by simp; omega) _
  rintro e w1 ⟨g, cap, rfl, hS, hb⟩
  obtain ⟨hc, hf⟩ := bcell hb
  have hz : w.heap.size + 3 ≤ w1.heap.size := by have := hb.size; simp at this; omega
  go_wp2_with fail
  refine bodyPost_ret (v := .agg #[.int .i64 a, .int .i64 b, .int .i64 c, .slice (some ⟨g, 0, none⟩) ls.length cap]) ?_ rfl ⟨g, cap, rfl, ?_, ?_⟩
  · simp [results, Try.results29, go_sem, hc]
  · have hg := hS.lo
    simp only [World.size_alloc] at hg
    exact (((((hS.weaken (by simp; omega)).other _ _ _ (by omega)).other _ _ _ (by omega)).other _ _ _ (by omega)).other _ _ _ (by omega)).other _ _ _ (by omega)
  · have HB := ((((Below.refl _ w).alloc (Nat.le_refl _) _).alloc (by simp) _).alloc (by simp; omega) _).trans (hb.mono (by simp; omega))
    exact ((((HB.setCell (by simp; omega) _).setCell (by simp) _).setCell (by simp) _).setCell (by simp) _).setCell (by simp) _

set_option maxRecDepth 100000 in
set_option maxHeartbeats 1000000 in
theorem eqVersion_same (a b c : Int) (va vb : Value) (ls : List (List UInt8)) (w : World) (ha : RdS w va ls) (hb : RdS w vb ls) (hl : ls.length ≤ 16777216) :
    Calls Try.prog 31 #[.agg #[.int .i64 a, .int .i64 b, .int .i64 c, va], .agg #[.int .i64 a, .int .i64 b, .int .i64 c, vb]] w fun e w' => e = .returned (.bool true) ∧ Below w.heap.size w w' := by
  have HC := Lib.hid (fun (W : World) (h : Below w.heap.size w W) => eqStringS_same va vb ls W (ha.below h) (hb.below h) hl)
  have qa : (a != a) = false := int_bne_false rfl
  have qb : (b != b) = false := int_bne_false rfl
  have qc : (c != c) = false := int_bne_false rfl
  clear ha hb
  go_enter Try.func31, Try.ntmps31
  go_wp2_with fail
  refine (HC.out _ ?_).mono ?_
  · exact ((Below.refl _ _).alloc (Nat.le_refl _) _).alloc (by simp) _
  rintro e w1 ⟨rfl, n, rfl⟩
  go_wp2_with fail
  go_ret
  exact ⟨rfl, (((Below.refl _ _).alloc (Nat.le_refl _) _).alloc (by simp) _).trans (below_drewN _ _ n)⟩
end Go.Proofs.Ytldfkdkppgammaa
