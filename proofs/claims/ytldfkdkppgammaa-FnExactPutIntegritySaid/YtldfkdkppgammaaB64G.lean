/-
  impl.base64Group returns the four signs of three bytes.
-/
import Derived.Test.YtldfkdkppgammaaB64
import Derived.StillTailTactics
import Derived.WalkKit
namespace Go.Proofs.Ytldfkdkppgammaa
open Go.RowKit

theorem idx_u8 (n : Nat) (hn : n < 64) (z : Int) (hz : z = (n : Int)) (w : World) : (Instr.index 9 (.string ⟨#[65, 66, 67, 68, 69, 70, 71, 72, 73, 74, 75, 76, 77, 78, 79, 80, 81, 82, 83, 84, 85, 86, 87, 88, 89, 90, 97, 98, 99, 100, 101, 102, 103, 104, 105, 106, 107, 108, 109, 110, 111, 112, 113, 114, 115, 116, 117, 118, 119, 120, 121, 122, 48, 49, 50, 51, 52, 53, 54, 55, 56, 57, 43, 47]⟩) (.int .u8 z)).run Try.prog w = .ok (.int .u8 ((sg n).toNat : Int)) w := idx_sg n hn z hz .u8 w

set_option maxRecDepth 100000 in
set_option maxHeartbeats 2000000 in
theorem base64Group_any (a b c : UInt8) (w : World) :
    Calls Try.prog 90 #[.agg #[bv a, bv b, bv c]] w fun e w' => e = .returned (.agg #[bv (sg (a.toNat / 4)), bv (sg (a.toNat % 4 * 16 + b.toNat / 16)), bv (sg (b.toNat % 16 * 4 + c.toNat / 64)), bv (sg (c.toNat % 64))]) ∧ Below w.heap.size w w' := by
  unfold bv
  have ha := a.toNat_lt
  have hb := b.toNat_lt
  have hc := c.toNat_lt
  have w1 : IntKind.u8.wrap ((a.toNat : Int) / 4) = (a.toNat : Int) / 4 := wraps_u8 _ (by omega) (by omega)
  have w2 : IntKind.u8.wrap ((b.toNat : Int) / 16) = (b.toNat : Int) / 16 := wraps_u8 _ (by omega) (by omega)
  have w3 : IntKind.u8.wrap ((c.toNat : Int) / 64) = (c.toNat : Int) / 64 := wraps_u8 _ (by omega) (by omega)
  have w4 : IntKind.u8.wrap ((a.toNat : Int) % 4 * 16) = (a.toNat : Int) % 4 * 16 := wraps_u8 _ (by omega) (by omega)
  have w5 : IntKind.u8.wrap ((b.toNat : Int) % 16 * 4) = (b.toNat : Int) % 16 * 4 := wraps_u8 _ (by omega) (by omega)
  have m1 : bits .and .u8 (a.toNat : Int) 3 = (a.toNat : Int) % 4 := bits_mask .u8 8 (by decide) wraps_u8 2 (by decide) _ (by omega) (by omega)
  have m2 : bits .and .u8 (b.toNat : Int) 15 = (b.toNat : Int) % 16 := bits_mask .u8 8 (by decide) wraps_u8 4 (by decide) _ (by omega) (by omega)
  have m3 : bits .and .u8 (c.toNat : Int) 63 = (c.toNat : Int) % 64 := bits_mask .u8 8 (by decide) wraps_u8 6 (by decide) _ (by omega) (by omega)
  have j1 : bits .or .u8 ((a.toNat : Int) % 4 * 16) ((b.toNat : Int) / 16) = (a.toNat : Int) % 4 * 16 + (b.toNat : Int) / 16 := bits_join .u8 8 (by decide) wraps_u8 4 _ _ (by omega) (by omega) (by omega) (by omega) (by omega) (by omega)
  have j2 : bits .or .u8 ((b.toNat : Int) % 16 * 4) ((c.toNat : Int) / 64) = (b.toNat : Int) % 16 * 4 + (c.toNat : Int) / 64 := bits_join .u8 8 (by decide) wraps_u8 2 _ _ (by omega) (by omega) (by omega) (by omega) (by omega) (by omega)
  have x1 := idx_u8 (a.toNat / 4) (by omega) ((a.toNat : Int) / 4) (by omega)
  have x2 := idx_u8 (a.toNat % 4 * 16 + b.toNat / 16) (by omega) ((a.toNat : Int) % 4 * 16 + (b.toNat : Int) / 16) (by omega)
  have x3 := idx_u8 (b.toNat % 16 * 4 + c.toNat / 64) (by omega) ((b.toNat : Int) % 16 * 4 + (c.toNat : Int) / 64) (by omega)
  have x4 := idx_u8 (c.toNat % 64) (by omega) ((c.toNat : Int) % 64) (by omega)
  go_enter Try.func90, Try.ntmps90
  go_wp2_with fail
  obtain ⟨W, hW⟩ : ∃ W, (w.alloc (.cells #[.int .u8 (a.toNat : Int), .int .u8 (b.toNat : Int), .int .u8 (c.toNat : Int)] 104)).alloc (.cells #[.int .u8 0, .int .u8 0, .int .u8 0, .int .u8 0] 105) = W := ⟨_, rfl⟩
  have hBW : Below w.heap.size w W := by rw [← hW]; exact (((Below.refl _ w).alloc (Nat.le_refl _) _).alloc (by simp) _)
  have h0 : W.heap[w.heap.size]? = some (.cells #[.int .u8 (a.toNat : Int), .int .u8 (b.toNat : Int), .int .u8 (c.toNat : Int)] 104 (0, 0)) := by
    rw [← hW]; exact (Below.heap_alloc _ _ _ (by simp)).trans (heap_alloc_new w _)
  have h1 : W.heap[w.heap.size + 1]? = some (.cells #[.int .u8 0, .int .u8 0, .int .u8 0, .int .u8 0] 105 (0, 0)) := by
    rw [← hW]
    have := heap_alloc_new (w.alloc (.cells #[.int .u8 (a.toNat : Int), .int .u8 (b.toNat : Int), .int .u8 (c.toNat : Int)] 104)) (.cells #[.int .u8 0, .int .u8 0, .int .u8 0, .int .u8 0] 105)
    rwa [World.size_alloc] at this
  rw [hW]
  clear hW
  have c0 : W.cell? ⟨w.heap.size, 0, none⟩ = some (.int .u8 (a.toNat : Int)) := by simp [World.cell?, h0]
  have c1 : W.cell? ⟨w.heap.size, 1, none⟩ = some (.int .u8 (b.toNat : Int)) := by simp [World.cell?, h0]
  have c2 : W.cell? ⟨w.heap.size, 2, none⟩ = some (.int .u8 (c.toNat : Int)) := by simp [World.cell?, h0]
  go_still_tail 27, (by kernel_rfl)
  have e0 : W.cell? ⟨w.heap.size + 1, 0, none⟩ = some (.int .u8 0) := by simp [World.cell?, h1]
  have e1 : W.cell? ⟨w.heap.size + 1, 1, none⟩ = some (.int .u8 0) := by simp [World.cell?, h1]
  have e2 : W.cell? ⟨w.heap.size + 1, 2, none⟩ = some (.int .u8 0) := by simp [World.cell?, h1]
  have e3 : W.cell? ⟨w.heap.size + 1, 3, none⟩ = some (.int .u8 0) := by simp [World.cell?, h1]
  have f0 : W.frozen? ⟨w.heap.size + 1, 0, none⟩ = false := by simp [World.frozen?, h1]
  have f1 : W.frozen? ⟨w.heap.size + 1, 1, none⟩ = false := by simp [World.frozen?, h1]
  have f2 : W.frozen? ⟨w.heap.size + 1, 2, none⟩ = false := by simp [World.frozen?, h1]
  have f3 : W.frozen? ⟨w.heap.size + 1, 3, none⟩ = false := by simp [World.frozen?, h1]
  go_wp2_with fail
  refine bodyPost_ret (v := .agg #[.int .u8 ((sg (a.toNat / 4)).toNat : Int), .int .u8 ((sg (a.toNat % 4 * 16 + b.toNat / 16)).toNat : Int), .int .u8 ((sg (b.toNat % 16 * 4 + c.toNat / 64)).toNat : Int), .int .u8 ((sg (c.toNat % 64)).toNat : Int)]) ?_ rfl ⟨rfl, ?_⟩
  · simp [results, Try.f90, go_sem, e0, e1, e2, e3]
  · exact ((((hBW.setCell (p := ⟨w.heap.size + 1, 0, none⟩) (by simp) _).setCell (p := ⟨w.heap.size + 1, 1, none⟩) (by simp) _).setCell (p := ⟨w.heap.size + 1, 2, none⟩) (by simp) _).setCell (p := ⟨w.heap.size + 1, 3, none⟩) (by simp) _).drew
end Go.Proofs.Ytldfkdkppgammaa
