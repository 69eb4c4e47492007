/-
  A number drawn of a list: l01PickInt; a version's box while it is drawn.
-/
import Derived.Test.YtjhkfokjfniniaaGreatDoorDrwT
import Derived.Test.YtjhkfokjfniniaaGreatDoorAppG
import Derived.Deep.DeepCutAuto
import Derived.Deep.RegionHeldLaw
namespace Go.Proofs.YtjhkfokjfniniaaGreatDoor
open Go.RowKit

theorem l01PickInt_any (p : Nat) (zs : List Int) (W : World) (N : Nat) (h : CurAt W N p) (hne : 0 < zs.length) (hl : zs.length ≤ 256) :
    Calls Tryz.prog 79 #[.pointer (some ⟨p, 0, none⟩), .slice (some ⟨W.heap.size, 0, none⟩) zs.length zs.length] (W.alloc (.cells (zs.map (Value.int .i64)).toArray 3)) fun e w' => ∃ z : Int, e = .returned (.int .i64 z) ∧ CurAt w' N p ∧ W.grownBy w' (some p) := by
  have hlt := h.lt
  have HQ := Lib.hid (l01Below_any p (zs.length : Int) _ N (h.alloc (.cells (zs.map (Value.int .i64)).toArray 3)) (by omega))
  have e0 := heap_alloc_new W (.cells (zs.map (Value.int .i64)).toArray 3)
  have hgA := gr_alloc W (.cells (zs.map (Value.int .i64)).toArray 3) (some p)
  have hz : (W.alloc (.cells (zs.map (Value.int .i64)).toArray 3)).heap.size = W.heap.size + 1 := by simp
  obtain ⟨V, hV⟩ : ∃ V, W.alloc (.cells (zs.map (Value.int .i64)).toArray 3) = V := ⟨_, rfl⟩
  obtain ⟨q, hq⟩ : ∃ q, W.heap.size = q := ⟨_, rfl⟩
  rw [hV] at HQ e0 hgA hz ⊢
  rw [hq] at e0 hz hlt ⊢
  clear h hV hq
  go_enter Tryz.func79, Tryz.ntmps79
  go_wp2_with fail
  refine HQ.out.mono ?_
  rintro e w1 ⟨x, rfl, hx, _, hC, hg⟩
  have hxl : x < zs.length := by have := hx (by omega); omega
  have d1 : w1.cell? ⟨q, x, none⟩ = some (.int .i64 zs[x]) := by
    have e := hg.block q (by omega) (fun e => by cases e; omega)
    unfold World.cell?
    simp only [e, e0]
    simp [hxl]
  have k0 : (0 : Int) ≤ (x : Int) := by omega
  have k1 : (x : Int) < (zs.length : Int) := by omega
  clear hx
  go_wp2_with fail
  go_ret
  exact ⟨zs[x], rfl, hC, gr_trans hgA hg⟩

theorem strs_one (W : World) (base : Nat) (x : List UInt8) (hb : base ≤ W.heap.size) : Strs (W.alloc (.cells #[sv x] 9)) base (.slice (some ⟨W.heap.size, 0, none⟩) 1 1) [x] := by
  have h := World.ownsRow_lit (base := base) (e := 9) (size := 1) W #[sv x] 1 hb (by unfold maxLen; omega) (by simp)
  simpa [Strs] using h
/-- append(out, text) at a step of a region that draws its order. -/
theorem step_append_one {w : World} {ops : Array Oper} {o : Oper} {a : Act} {K : Act → World → Prop} {Q : Exit → Act → World → Prop} {E : Prop} (hgd : o.guard = none) (s x : Operand)
    (ho : o.op = .call { callee := .builtin .append, args := #[s, x], argTypes := #[24, 24] })
    (base : Nat) (v : Value) (l : List (List UInt8)) (hs : a.eval s = v) (hown : Strs w base v l) (y : List UInt8) (B c : Nat) (t : TypeId) (fr : Nat × Nat)
    (hx : a.eval x = .slice (some ⟨B, 0, none⟩) 1 c) (hblk : w.heap[B]? = some (.cells #[sv y] t fr)) (hlen : l.length + 1 ≤ 16777216) (hbase : base ≤ w.heap.size)
    (h : ∀ g cap w', Strs w' base (.slice (some ⟨g, 0, none⟩) (l.length + 1) cap) (l ++ [y]) → w.grownBy w' v.ownBlock → (v.ownBlock = some g ∨ g = w.heap.size) → K (a.put o.dst (.slice (some ⟨g, 0, none⟩) (l.length + 1) cap)) w') :
    if Region.wanted o (yielded ops a.tmps) = true then Oper.wp Tryz.prog o a w K Q else E := by
  have hw : Region.wanted o (yielded ops a.tmps) = true := by simp [Region.wanted, hgd]
  rw [if_pos hw]
  obtain ⟨g, cap, w', hr, h2, h3, h4⟩ := run_append_strs w o.type base v l hown y B c t fr hblk hlen hbase
  unfold Oper.wp execOp
  simp only [ho, resolve, invoke, builtin, Sem.run_bind, Sem.run_pure, Result.andThen_ok, List.map_toArray, List.map_cons, List.map_nil, hs, hx, hr]
  exact h g cap w' h2 h3 h4

/-- The result's box and the version's box as they are drawn: no more than k identifiers, none long. -/
def VerSt (w : World) (N p B k : Nat) (W : World) : Prop := ∃ (a b c : Int) (u : Value) (L : List (List UInt8)), W.heap[w.heap.size]? = some (.cells #[.int .i64 0, .int .i64 0, .int .i64 0, .slice none 0 0] 31) ∧
  W.heap[B]? = some (.cells #[.int .i64 a, .int .i64 b, .int .i64 c, u] 31) ∧ Strs W w.heap.size u L ∧ L.length ≤ k ∧ (∀ x ∈ L, x.length ≤ 21) ∧ (∀ g, u.ownBlock = some g → g ≠ w.heap.size ∧ g ≠ B) ∧ CurAt W N p ∧ w.grownBy W (some p)

theorem VerSt.put {w W : World} {N p B k : Nat} {a b c : Int} {u0 v : Value} {L : List (List UInt8)} (hR : W.heap[w.heap.size]? = some (.cells #[.int .i64 0, .int .i64 0, .int .i64 0, .slice none 0 0] 31))
    (hB : W.heap[B]? = some (.cells #[.int .i64 a, .int .i64 b, .int .i64 c, u0] 31)) (hS : Strs W w.heap.size v L) (hL : L.length ≤ k) (hx : ∀ x ∈ L, x.length ≤ 21) (hne : ∀ g, v.ownBlock = some g → g ≠ w.heap.size ∧ g ≠ B)
    (hC : CurAt W N p) (hG : w.grownBy W (some p)) (hlt : w.heap.size < B) (hp : p < w.heap.size) : VerSt w N p B k (W.setCell ⟨B, 3, none⟩ v) :=
  ⟨a, b, c, v, L, heap_other hR _ (by omega), heap_set3 hB v, hS.setFar B 3 v (fun g hg => (hne g hg).2), hL, hx, hne, hC.grown (gr_set W B 3 v) (fun r e => by have := hC.1; cases e; omega), gr_own hG (gr_set W B 3 v) (fun g e => by cases e; omega)⟩
theorem VerSt.mono {w W : World} {N p B k j : Nat} (h : VerSt w N p B k W) (hk : k ≤ j) : VerSt w N p B j W := by
  obtain ⟨a, b, c, u, L, hR, hV, hS, hL, hLx, hne, hC, hG⟩ := h
  exact ⟨a, b, c, u, L, hR, hV, hS, by omega, hLx, hne, hC, hG⟩
theorem VerSt.draw {w W V : World} {N p B k : Nat} (h : VerSt w N p B k W) (hg : W.grownBy V (some p)) (hC : CurAt V N p) (hlt : w.heap.size < B) (hp : p < w.heap.size) : VerSt w N p B k V := by
  obtain ⟨a, b, c, u, L, hR, hV, hS, hL, hLx, hne, _, hG⟩ := h
  exact ⟨a, b, c, u, L, gr_heap hg hR (fun e => by cases e; omega), gr_heap hg hV (fun e => by cases e; omega), hS.grown hg (fun g hgg e => by have := hS.owned g hgg; cases e; omega), hL, hLx, hne, hC, gr_trans hG hg⟩
def drA : List (List UInt8) := [[114, 99], [98, 101, 116, 97], [49], [48], [120, 45, 121]]
theorem drA_len : ∀ x ∈ drA, x.length ≤ 21 := by decide
def drB : List (List UInt8) := [[49], [50], [49, 48], [97]]
theorem drB_len : ∀ x ∈ drB, x.length ≤ 21 := by decide

end Go.Proofs.YtjhkfokjfniniaaGreatDoor
