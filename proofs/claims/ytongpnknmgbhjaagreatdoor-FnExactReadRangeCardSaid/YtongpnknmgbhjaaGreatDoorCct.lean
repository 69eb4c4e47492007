/-
  slices.Concat of two rows of texts.
-/
import Derived.Test.YtongpnknmgbhjaaGreatDoorApp
import Derived.Test.YtongpnknmgbhjaaGreatDoorHeap
import Derived.Lib.AppendZeros
namespace Go.Proofs.YtongpnknmgbhjaaGreatDoor
open Go.RowKit

set_option maxRecDepth 100000 in
set_option maxHeartbeats 4000000 in
theorem growNil_any (n : Nat) (w : World) (h0 : 0 < n) (hn : n ≤ 4194304) :
    Calls Tryz.prog 94 #[.slice none 0 0, .int .i64 (n : Int)] w fun e w' => ∃ v, e = .returned v ∧ Strs w' w.heap.size v [] ∧ Below w.heap.size w w' := by
  obtain ⟨i0, hi, hz0, hz1, hz2⟩ := info_parts strinfo
  have hr := fun ty => Lib.run_append_nil_zeros (P := Tryz.prog) w 22 3 ty 9 i0 (.string ⟨#[]⟩) .i64 .i64 Tryz.underlying22 Tryz.underlying3 hi hz0 n h0 (by omega) (by omega) (by rw [hz2]; omega)
  have hge := grownCap_ge w n 0 9
  have hle := grownCap_le_maxLen w n 0 9 (by unfold maxLen; omega)
  obtain ⟨G, hG⟩ : ∃ G, grownCap w n 0 9 = G := ⟨_, rfl⟩
  rw [hG] at hge hle
  simp only [hG] at hr
  have hsz : (Builtin.zeroCells (Value.string ⟨#[]⟩).cells n ++ Builtin.zeroCells (Value.string ⟨#[]⟩).cells (G - n)).size = G * 1 := by
    rw [Array.size_append, size_zeroCells, size_zeroCells]
    simp [Value.cells]
    omega
  obtain ⟨C, hC⟩ : ∃ C, Builtin.zeroCells (Value.string ⟨#[]⟩).cells n ++ Builtin.zeroCells (Value.string ⟨#[]⟩).cells (G - n) = C := ⟨_, rfl⟩
  rw [hC] at hsz
  simp only [hC] at hr
  have HO : Hid (Strs (w.drew.alloc (.cells C 9)) w.heap.size (.slice (some ⟨w.heap.size, 0, none⟩) 0 G) []) := Lib.hid (by
    have := World.ownsRow_made (base := w.heap.size) (e := 9) (size := 1) w.drew C G (by simp) hle hsz
    simpa [Strs] using this)
  have HB : Hid (Below w.heap.size w (w.drew.alloc (.cells C 9))) := Lib.hid ((below_drewN _ _ 1).alloc (by simp) _)
  clear hC hsz hG hi hz0 hz1 hz2
  have hm : G ≤ 9223372036854775807 := by unfold maxLen at hle; omega
  have g1 : ¬ ((n : Int) < 0) := by omega
  have g2 : (0 : Int) < (n : Int) := by omega
  have g3 : IntKind.i64.wrap ((n : Int) - 0) = n := by rw [Int.sub_zero]; exact IntWalk.i64_in _ (by omega)
  go_enter Tryz.func94, Tryz.ntmps94
  go_wp2_with (at_builtin; refine Lib.wpList_append_run _ rfl _ _ _ _ rfl _ _ rfl rfl _ _ (hr _) ?_)
  all_goals (go_ret; exact ⟨_, rfl, HO.out, HB.out⟩)

set_option maxRecDepth 100000 in
set_option maxHeartbeats 4000000 in
theorem concat2_any (q : Nat) (v1 v2 : Value) (l1 l2 : List (List UInt8)) (w : World) (e0 : w.cell? ⟨q, 0, none⟩ = some v1) (e1 : w.cell? ⟨q, 1, none⟩ = some v2) (h1 : RdS w v1 l1) (h2 : RdS w v2 l2) (n1 : l1.length ≤ 1048576) (n2 : l2.length ≤ 1048576) (n0 : 0 < l1.length + l2.length) :
    Calls Tryz.prog 47 #[.slice (some ⟨q, 0, none⟩) 2 2] w fun e w' => ∃ v, e = .returned v ∧ Strs w' w.heap.size v (l1 ++ l2) ∧ Below w.heap.size w w' := by
  have H1 := Lib.hid h1
  have H2 := Lib.hid h2
  have HG := Lib.hid (growNil_any (l1.length + l2.length) w n0 (by omega))
  simp only [Int.natCast_add] at HG
  obtain ⟨A1, c1, rfl, _⟩ := h1
  obtain ⟨A2, c2, rfl, _⟩ := h2
  have w1 : IntKind.i64.wrap (0 + (l1.length : Int)) = l1.length := by rw [Int.zero_add]; exact IntWalk.i64_in _ (by omega)
  have w2 : IntKind.i64.wrap ((l1.length : Int) + (l2.length : Int)) = (l1.length : Int) + (l2.length : Int) := IntWalk.i64_in _ (by omega)
  have s1 : ¬ ((l1.length : Int) < 0) := by omega
  have s2 : ¬ ((l1.length : Int) + (l2.length : Int) < 0) := by omega
  go_enter Tryz.func47, Tryz.ntmps47
  go_wp2_with fail
  go_loopw [3, 5, 11] (fun s _ i wr => w = wr ∧ ((i = .int .i64 0 ∧ s = .int .i64 0) ∨ (i = .int .i64 1 ∧ s = .int .i64 l1.length) ∨ (i = .int .i64 2 ∧ s = .int .i64 ((l1.length : Int) + (l2.length : Int))))) (fun _ _ i _ => 2 - (intOf i).toNat)
  case atStart => exact ⟨rfl, .inl ⟨rfl, rfl⟩⟩
  case round =>
    obtain ⟨rfl, ⟨rfl, rfl⟩ | ⟨rfl, rfl⟩ | ⟨rfl, rfl⟩⟩ := hrel
    · go_wp2_with fail
      go_roundw
      case rel => exact ⟨trivial, .inr (.inl ⟨rfl, rfl⟩)⟩
      case measure => simp [intOf]
    · go_wp2_with fail
      go_roundw
      case rel => exact ⟨trivial, .inr (.inr ⟨rfl, rfl⟩)⟩
      case measure => simp [intOf]
    · go_wp2_with fail
      refine HG.out.mono ?_
      rintro e w3 ⟨v, rfl, hS, hb⟩
      go_wp2_with fail
      go_loopw [6, 8, 27] (fun v _ i W => Below w.heap.size w W ∧ ((i = .int .i64 0 ∧ Strs W w.heap.size v []) ∨ (i = .int .i64 1 ∧ Strs W w.heap.size v l1) ∨ (i = .int .i64 2 ∧ Strs W w.heap.size v (l1 ++ l2)))) (fun _ _ i _ => 2 - (intOf i).toNat)
      case atStart => exact ⟨hb, .inl ⟨rfl, hS⟩⟩
      case round =>
        obtain ⟨hbw, hor⟩ := hrel
        have hsz := hbw.size
        have d0 := keepC hbw e0
        have d1 := keepC hbw e1
        have r1 := H1.out.below hbw
        have r2 := H2.out.below hbw
        obtain ⟨rfl, hT⟩ | ⟨rfl, hT⟩ | ⟨rfl, hT⟩ := hor
        · go_wp2_with (at_builtin; refine wpList_append_texts rfl _ _ rfl w.heap.size _ [] rfl hT _ l1 rfl r1 (by simp; omega) hsz ?_; intro v' w5 hS5 hg5)
          have B5 := hbw.grown hg5 hsz (fun g h => hT.owned g h)
          go_roundw
          case rel => exact ⟨B5, .inr (.inl ⟨rfl, hS5⟩)⟩
          case measure => simp [intOf]
        · go_wp2_with (at_builtin; refine wpList_append_texts rfl _ _ rfl w.heap.size _ l1 rfl hT _ l2 rfl r2 (by omega) hsz ?_; intro v' w5 hS5 hg5)
          have B5 := hbw.grown hg5 hsz (fun g h => hT.owned g h)
          go_roundw
          case rel => exact ⟨B5, .inr (.inr ⟨rfl, hS5⟩)⟩
          case measure => simp [intOf]
        · go_wp2_with fail
          go_ret
          exact ⟨_, rfl, hT, hbw⟩
end Go.Proofs.YtongpnknmgbhjaaGreatDoor
