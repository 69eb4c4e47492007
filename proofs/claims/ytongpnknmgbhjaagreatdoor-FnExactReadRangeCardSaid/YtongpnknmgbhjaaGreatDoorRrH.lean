/-
  impl.raised at each number, impl.leadingPart, the functions that are handed to readFrom.
-/
import Derived.Test.YtongpnknmgbhjaaGreatDoorRrM
import Derived.Test.YtongpnknmgbhjaaGreatDoorRas
import Derived.Test.YtongpnknmgbhjaaGreatDoorAbv
import Derived.Lib.SliceRun
import Derived.Deep.RegionHeld3
namespace Go.Proofs.YtongpnknmgbhjaaGreatDoor
open Go.RowKit

theorem three_cells {V : World} {B : Nat} {T : TypeId} {v0 v1 v2 : Value} (h : V.heap[B]? = some (.cells #[v0, v1, v2] T)) (j : Nat) (hj : j < 3) : (V.cell? ⟨B, j, none⟩).isSome = true ∧ V.frozen? ⟨B, j, none⟩ = false := by
  have : j = 0 ∨ j = 1 ∨ j = 2 := by omega
  rcases this with rfl | rfl | rfl <;> simp [World.cell?, World.frozen?, h]
theorem clear_0 (a b c : Int) (w : World) (o : Obj) (n : Nat) (hn : n = w.heap.size + 1) : (Builtin.clear_ #[101] 0 #[.slice (some ⟨n, 1, none⟩) 2 2]).run Tryz.prog ((w.alloc o).alloc (.cells #[.int .i64 (a + 1), .int .i64 b, .int .i64 c] 177)) = .ok (.tuple #[]) ((w.alloc o).alloc (.cells #[.int .i64 (a + 1), .int .i64 0, .int .i64 0] 177)) := by
  subst hn
  have e : w.heap.size + 1 = (w.alloc o).heap.size := by simp
  rw [e]
  generalize w.alloc o = W
  have hb := heap_alloc_new W (.cells #[.int .i64 (a + 1), .int .i64 b, .int .i64 c] 177)
  have h := Lib.run_clear_slice (P := Tryz.prog) (W.alloc (.cells #[.int .i64 (a + 1), .int .i64 b, .int .i64 c] 177)) 101 3 0 (.int .i64 0) Tryz.underlying101 Tryz.zeroValue3 rfl rfl W.heap.size 1 2 2 (by decide) (fun j hj => (three_cells hb _ (by omega)).1) (fun j hj => (three_cells hb _ (by omega)).2)
  rw [h]
  simp only [List.replicate, World.setCells]
  rw [World.setCell_alloc_at _ _ _ _ _ rfl, World.setCell_alloc_at _ _ _ _ _ rfl]
  rfl
theorem clear_1 (a b c : Int) (w : World) (o : Obj) (n : Nat) (hn : n = w.heap.size + 1) : (Builtin.clear_ #[101] 0 #[.slice (some ⟨n, 2, none⟩) 1 1]).run Tryz.prog ((w.alloc o).alloc (.cells #[.int .i64 a, .int .i64 (b + 1), .int .i64 c] 177)) = .ok (.tuple #[]) ((w.alloc o).alloc (.cells #[.int .i64 a, .int .i64 (b + 1), .int .i64 0] 177)) := by
  subst hn
  have e : w.heap.size + 1 = (w.alloc o).heap.size := by simp
  rw [e]
  generalize w.alloc o = W
  have hb := heap_alloc_new W (.cells #[.int .i64 a, .int .i64 (b + 1), .int .i64 c] 177)
  have h := Lib.run_clear_slice (P := Tryz.prog) (W.alloc (.cells #[.int .i64 a, .int .i64 (b + 1), .int .i64 c] 177)) 101 3 0 (.int .i64 0) Tryz.underlying101 Tryz.zeroValue3 rfl rfl W.heap.size 2 1 1 (by decide) (fun j hj => (three_cells hb _ (by omega)).1) (fun j hj => (three_cells hb _ (by omega)).2)
  rw [h]
  simp only [List.replicate, World.setCells]
  rw [World.setCell_alloc_at _ _ _ _ _ rfl]
  rfl

set_option maxRecDepth 100000 in
set_option maxHeartbeats 4000000 in
theorem raised_0 (a b c : Int) (A : Option Addr) (n cap : Nat) (w : World) (ht : Tab w) (hc : 0 ≤ a ∧ a ≤ 999999999) :
    Calls Tryz.prog 107 #[.agg #[.int .i64 a, .int .i64 b, .int .i64 c, .slice A n cap], .int .i64 0] w fun e w' => e = .returned (.string ⟨(rsd a b c 0).toArray⟩) ∧ Below w.heap.size w w' := by
  have HT := Lib.hid (fun (v : Value) (q : Nat) (W : World) (h : Strs W q v [[48]]) (hb : Below w.heap.size w W) => implVersionText_any (a + 1) 0 0 q v [[48]] W h sm_zz (tab_below ht hb))
  have HE : Hid (rsd a b c 0 = verText (a + 1) 0 0 [[48]]) := Lib.hid rfl
  rw [HE.out]
  obtain ⟨t, HTT⟩ : ∃ t, Hid (verText (a + 1) 0 0 [[48]] = t) := ⟨_, Lib.hid rfl⟩
  simp only [HTT.out] at HT
  rw [HTT.out]
  clear ht
  have cw : IntKind.i64.wrap (a + 1) = a + 1 := IntWalk.i64_in _ (by omega)
  have hcl := clear_0 a b c w (.cells #[.int .i64 a, .int .i64 b, .int .i64 c, .slice A n cap] 127) (w.heap.size + 1) rfl
  go_enter Tryz.func107, Tryz.ntmps107
  go_wp2_with fail
  refine (HT.out _ (w.heap.size + 1 + 1) _ (strs_z _ _ (by simp) [48]) (below_three _ _ _ _)).mono ?_
  rintro e w5 ⟨rfl, hb5⟩
  go_wp2_with fail
  go_ret
  exact ⟨rfl, (below_three _ _ _ _).trans (hb5.mono (by simp; omega))⟩

set_option maxRecDepth 100000 in
set_option maxHeartbeats 4000000 in
theorem raised_1 (a b c : Int) (A : Option Addr) (n cap : Nat) (w : World) (ht : Tab w) (hc : 0 ≤ b ∧ b ≤ 999999999) :
    Calls Tryz.prog 107 #[.agg #[.int .i64 a, .int .i64 b, .int .i64 c, .slice A n cap], .int .i64 1] w fun e w' => e = .returned (.string ⟨(rsd a b c 1).toArray⟩) ∧ Below w.heap.size w w' := by
  have HT := Lib.hid (fun (v : Value) (q : Nat) (W : World) (h : Strs W q v [[48]]) (hb : Below w.heap.size w W) => implVersionText_any a (b + 1) 0 q v [[48]] W h sm_zz (tab_below ht hb))
  have HE : Hid (rsd a b c 1 = verText a (b + 1) 0 [[48]]) := Lib.hid rfl
  rw [HE.out]
  obtain ⟨t, HTT⟩ : ∃ t, Hid (verText a (b + 1) 0 [[48]] = t) := ⟨_, Lib.hid rfl⟩
  simp only [HTT.out] at HT
  rw [HTT.out]
  clear ht
  have cw : IntKind.i64.wrap (b + 1) = b + 1 := IntWalk.i64_in _ (by omega)
  have hcl := clear_1 a b c w (.cells #[.int .i64 a, .int .i64 b, .int .i64 c, .slice A n cap] 127) (w.heap.size + 1) rfl
  go_enter Tryz.func107, Tryz.ntmps107
  go_wp2_with fail
  refine (HT.out _ (w.heap.size + 1 + 1) _ (strs_z _ _ (by simp) [48]) (below_three _ _ _ _)).mono ?_
  rintro e w5 ⟨rfl, hb5⟩
  go_wp2_with fail
  go_ret
  exact ⟨rfl, (below_three _ _ _ _).trans (hb5.mono (by simp; omega))⟩

theorem raised_part (a b c p : Int) (A : Option Addr) (n cap : Nat) (w : World) (ht : Tab w) (hv : verOk a b c [] = true) (hp : inI p 0 2 = true) :
    Calls Tryz.prog 107 #[.agg #[.int .i64 a, .int .i64 b, .int .i64 c, .slice A n cap], .int .i64 p] w fun e w' => e = .returned (.string ⟨(rsd a b c p).toArray⟩) ∧ Below w.heap.size w w' := by
  obtain ⟨ha, hb, hc, _⟩ := verOk_num hv
  rcases inI_ways hp with rfl | rfl | rfl
  · exact raised_0 a b c A n cap w ht ha
  · exact raised_1 a b c A n cap w ht hb
  · exact raised_any a b c A n cap w ht hc

set_option maxRecDepth 100000 in
set_option maxHeartbeats 1000000 in
theorem leadingPart_any (a b c : Int) (A : Option Addr) (n cap : Nat) (w : World) :
    Calls Tryz.prog 108 #[.agg #[.int .i64 a, .int .i64 b, .int .i64 c, .slice A n cap]] w fun e w' => e = .returned (.int .i64 (if 0 < a then 0 else if 0 < b then 1 else 2)) ∧ Below w.heap.size w w' := by
  have B0 : Below w.heap.size w (w.alloc (.cells #[.int .i64 a, .int .i64 b, .int .i64 c, .slice A n cap] 127)) := (Below.refl _ _).alloc (Nat.le_refl _) _
  by_cases h0 : 0 < a
  · rw [if_pos h0]
    go_enter Tryz.func108, Tryz.ntmps108
    go_wp2_with fail
    go_ret
    exact ⟨rfl, B0⟩
  · rw [if_neg h0]
    by_cases h1 : 0 < b
    · rw [if_pos h1]
      go_enter Tryz.func108, Tryz.ntmps108
      go_wp2_with fail
      go_ret
      exact ⟨rfl, B0⟩
    · rw [if_neg h1]
      go_enter Tryz.func108, Tryz.ntmps108
      go_wp2_with fail
      go_ret
      exact ⟨rfl, B0⟩

set_option maxRecDepth 100000 in
set_option maxHeartbeats 2000000 in
theorem fnTilde_any (a b c : Int) (A : Option Addr) (n cap : Nat) (w : World) (ht : Tab w) (hv : verOk a b c [] = true) :
    Calls Tryz.prog 109 #[.agg #[.int .i64 a, .int .i64 b, .int .i64 c, .slice A n cap]] w fun e w' => e = .returned (.string ⟨(rsd a b c 1).toArray⟩) ∧ Below w.heap.size w w' := by
  have HR := Lib.hid (fun W (h : Below w.heap.size w W) => raised_part a b c 1 A n cap W (tab_below ht h) hv (by decide))
  generalize rsd a b c 1 = t at HR ⊢
  have B0 : Below w.heap.size w (w.alloc (.cells #[.int .i64 a, .int .i64 b, .int .i64 c, .slice A n cap] 127)) := (Below.refl _ _).alloc (Nat.le_refl _) _
  clear ht hv
  go_enter Tryz.func109, Tryz.ntmps109
  go_wp2_with fail
  refine (HR.out _ B0).mono ?_
  rintro e w5 ⟨rfl, hb5⟩
  go_wp2_with fail
  go_ret
  exact ⟨rfl, B0.trans (hb5.mono B0.size)⟩

set_option maxRecDepth 100000 in
set_option maxHeartbeats 2000000 in
theorem fnPartial_any (a b c p : Int) (Q : Nat) (A : Option Addr) (n cap : Nat) (w : World) (ht : Tab w) (hv : verOk a b c [] = true) (hp : inI p 0 2 = true) (hq : w.cell? ⟨Q, 0, none⟩ = some (.int .i64 p)) :
    Calls Tryz.prog 168 #[.agg #[.int .i64 a, .int .i64 b, .int .i64 c, .slice A n cap], .pointer (some ⟨Q, 0, none⟩)] w fun e w' => e = .returned (.string ⟨(rsd a b c p).toArray⟩) ∧ Below w.heap.size w w' := by
  have HR := Lib.hid (fun W (h : Below w.heap.size w W) => raised_part a b c p A n cap W (tab_below ht h) hv hp)
  generalize rsd a b c p = t at HR ⊢
  have B0 : Below w.heap.size w (w.alloc (.cells #[.int .i64 a, .int .i64 b, .int .i64 c, .slice A n cap] 127)) := (Below.refl _ _).alloc (Nat.le_refl _) _
  have hlt := cell_in hq
  clear ht hv hp
  go_enter Tryz.func168, Tryz.ntmps168
  go_wp2_with fail
  refine (HR.out _ B0).mono ?_
  rintro e w5 ⟨rfl, hb5⟩
  go_wp2_with fail
  go_ret
  exact ⟨rfl, B0.trans (hb5.mono B0.size)⟩

set_option maxRecDepth 100000 in
set_option maxHeartbeats 2000000 in
theorem fnCaret_any (a b c : Int) (A : Option Addr) (n cap : Nat) (w : World) (ht : Tab w) (hv : verOk a b c [] = true) :
    Calls Tryz.prog 106 #[.agg #[.int .i64 a, .int .i64 b, .int .i64 c, .slice A n cap]] w fun e w' => e = .returned (.string ⟨(rsd a b c (if 0 < a then 0 else if 0 < b then 1 else 2)).toArray⟩) ∧ Below w.heap.size w w' := by
  have hin : inI (if 0 < a then 0 else if 0 < b then 1 else 2) 0 2 = true := by unfold inI; split <;> (try split) <;> decide
  have HL := Lib.hid (fun W => leadingPart_any a b c A n cap W)
  obtain ⟨p, HP⟩ : ∃ p : Int, Hid ((if 0 < a then 0 else if 0 < b then 1 else 2) = p) := ⟨_, Lib.hid rfl⟩
  simp only [HP.out] at HL hin ⊢
  have HR := Lib.hid (fun W (h : Below w.heap.size w W) => raised_part a b c p A n cap W (tab_below ht h) hv hin)
  generalize rsd a b c p = t at HR ⊢
  have B0 : Below w.heap.size w (w.alloc (.cells #[.int .i64 a, .int .i64 b, .int .i64 c, .slice A n cap] 127)) := (Below.refl _ _).alloc (Nat.le_refl _) _
  have b0 := heap_alloc_new w (.cells #[.int .i64 a, .int .i64 b, .int .i64 c, .slice A n cap] 127)
  have BV : Below w.heap.size w (w.alloc (.cells #[.int .i64 a, .int .i64 b, .int .i64 c, .slice A n cap] 127)).drew := B0.trans (below_drewN _ _ 1)
  obtain ⟨p0, p1, p2, p3⟩ := cells4 b0
  clear ht hv hin
  go_enter Tryz.func106, Tryz.ntmps106
  go_wp2_with fail
  go_region_held3 (fun W => W.cell? ⟨w.heap.size, 0, none⟩ = some (.int .i64 a) ∧ W.cell? ⟨w.heap.size, 1, none⟩ = some (.int .i64 b) ∧ W.cell? ⟨w.heap.size, 2, none⟩ = some (.int .i64 c) ∧ W.cell? ⟨w.heap.size, 3, none⟩ = some (.slice A n cap)) (first | exact ⟨p0, p1, p2, p3⟩ | go_keep) ((first
    | (go_at_call 108; (with_reducible refine (HL.out _).mono ?_); rintro e w5 ⟨rfl, hb5⟩; have B5 := BV.trans (hb5.mono BV.size); have v5 := keepB (W := (w.alloc (.cells #[.int .i64 a, .int .i64 b, .int .i64 c, .slice A n cap] 127)).drew) b0 hb5; obtain ⟨p0, p1, p2, p3⟩ := cells4 v5)
    | (go_at_call 107; (with_reducible refine (HR.out _ B5).mono ?_); rintro e w7 ⟨rfl, hb7⟩; have B7 := B5.trans (hb7.mono B5.size); have v7 := keepB v5 hb7; obtain ⟨p0, p1, p2, p3⟩ := cells4 v7)))
  all_goals
    go_wp2_with fail
    go_ret
    exact ⟨rfl, B7⟩
end Go.Proofs.YtongpnknmgbhjaaGreatDoor
