/-
  slices.Backward at texts: an iterator that yields the elements of a row from its end.
-/
import Derived.RangeFuncNested
import Derived.RangeFuncBound
import Derived.RangeFuncCalls
import Derived.RangeFuncLeaves
import Derived.Shelf.Abstract
import Derived.Shelf.RegionOpen
import Derived.WalkKit
import Derived.OwnWalkIn
import Derived.TacticsInMore
import Derived.LoopNIn
import Derived.LoopIn
import Derived.Sort.QuietIn
import Derived.Test.YtjpclglklmlhlaaGreatDoorStrs
import Derived.Test.YtjpclglklmlhlaaGreatDoorKp
import Derived.Test.YtjpclglklmlhlaaGreatDoorParts
namespace Go.Proofs.YtjpclglklmlhlaaGreatDoor
open Go.RowKit Go.Shelf
attribute [local go_sem] Oper.semAt_some

/-- A place and the text that lies there. -/
abbrev BE := Nat × Part
def bkV (x : BE) : Array Value := #[.int .i64 (x.1 : Int), .string ⟨x.2.1.toArray⟩]
/-- The places of a list, from its end. -/
def bk (T : List Part) : List BE := (List.range T.length).map fun j => (T.length - 1 - j, T.getD (T.length - 1 - j) ⟨[], by simp⟩)
theorem bk_len (T : List Part) : (bk T).length = T.length := by simp [bk]
theorem bk_take {T : List Part} {j : Nat} (h : j < T.length) : (bk T).take (j + 1) = (bk T).take j ++ [(T.length - 1 - j, T[T.length - 1 - j])] := by
  rw [List.take_succ_eq_append_getElem (by rw [bk_len]; exact h)]
  congr 1
  have : T.length - 1 - j < T.length := by omega
  simp [bk, this]
theorem bk_snd (T : List Part) : (bk T).map (fun x => x.2) = T.reverse := by
  apply List.ext_getElem (by simp [bk])
  intro i h1 h2
  simp only [List.length_map, bk_len] at h1
  have : T.length - 1 - i < T.length := by omega
  simp [bk, this]
theorem parts_of : ∀ (T : List (List UInt8)), (∀ l ∈ T, l.length ≤ 1048576) → ∃ P : List Part, P.map Subtype.val = T
  | [], _ => ⟨[], rfl⟩
  | x :: T, h => by
    obtain ⟨P, hP⟩ := parts_of T (fun l hl => h l (List.mem_cons_of_mem _ hl))
    exact ⟨⟨x, h x (by simp)⟩ :: P, by simp [hP]⟩

set_option maxHeartbeats 1000000 in
theorem backward_in (n : Nat) (A : Option Addr) (len cap : Nat) (w : World) :
    CallsIn Fence.wide n Tryz.prog 34 #[.slice A len cap] w fun e w' => e = .returned (.func (.func 68) #[] #[.pointer (some ⟨w.heap.size, 0, none⟩)]) ∧ w' = w.alloc (.cells #[.slice A len cap] 28) := by
  refine callsIn_of_wp Tryz.func34 rfl trivial ?_ rfl
  simp only [Tryz.ntmps34, List.size_toArray, List.length_cons, List.length_nil, Nat.reduceAdd, Nat.reduceSub, Array.replicate_succ, Array.replicate_zero, List.push_toArray, List.append_toArray, List.nil_append, List.cons_append]
  gi_wp2
  go_ret
  exact ⟨rfl, rfl⟩

set_option maxRecDepth 100000 in
set_option maxHeartbeats 2000000 in
theorem back1_in (n : Nat) (hn : 1 ≤ n) (l Bs g cap : Nat) (T : List Part) (cur : Array Value) (hT : T.length ≤ 1048576) (hcur : ∀ k (h : k < T.length), cur[k]? = some (sv T[k].1)) (J Jx : List BE → World → Prop)
    (hY : ∀ pre x W, J pre W → pre.length < T.length → YieldAt Fence.wide (n - 1) Tryz.prog l (bkV x) W fun e W' =>
      (e = .returned (.bool true) ∧ J (pre ++ [x]) W' ∧ KpB Bs g W W') ∨ (e = .returned (.bool false) ∧ Jx (pre ++ [x]) W'))
    (W : World) (hBs : W.heap[Bs]? = some (.cells #[.slice (some ⟨g, 0, none⟩) T.length cap] 28 (0, 0))) (hBm : W.heap[g]? = some (.cells cur 9 (0, 0))) (h0 : J [] W) :
    CallsIn Fence.wide n Tryz.prog 68 #[.func (.yield l) #[] #[], .pointer (some ⟨Bs, 0, none⟩)] W fun e W' => (∃ v, e = .returned v) ∧
      ((∃ ys, ys = bk T ∧ J ys W') ∨ (∃ pre, pre <+: bk T ∧ Jx pre W')) := by
  have hc1 : W.cell? ⟨Bs, 0, none⟩ = some (.slice (some ⟨g, 0, none⟩) T.length cap) := by simp [World.cell?, hBs]
  refine callsIn_of_wp Tryz.func68 rfl trivial ?_ rfl
  simp only [Tryz.ntmps68, List.size_toArray, List.length_cons, List.length_nil, Nat.reduceAdd, Nat.reduceSub, Array.replicate_succ, Array.replicate_zero, List.push_toArray, List.append_toArray, List.nil_append, List.cons_append]
  gi_wp2
  gi_loopw [3] (fun i wr => ∃ j : Nat, j ≤ T.length ∧ i = .int .i64 ((T.length : Int) - 1 - j) ∧ wr.heap[Bs]? = some (.cells #[.slice (some ⟨g, 0, none⟩) T.length cap] 28 (0, 0)) ∧ wr.heap[g]? = some (.cells cur 9 (0, 0)) ∧ J ((bk T).take j) wr) (fun i _ => (intOf i + 1).toNat)
  case atStart => exact ⟨0, Nat.zero_le _, by simp, hBs, hBm, by simpa using h0⟩
  case round =>
    obtain ⟨j, hj, rfl, g1, g2, hJ⟩ := hrel
    have d1 : wr.cell? ⟨Bs, 0, none⟩ = some (.slice (some ⟨g, 0, none⟩) T.length cap) := by simp [World.cell?, g1]
    by_cases hlt : j < T.length
    · obtain ⟨k, hk⟩ : ∃ k : Nat, (T.length : Int) - 1 - j = (k : Int) := ⟨T.length - 1 - j, by omega⟩
      have hkl : k < T.length := by omega
      have d2 : wr.cell? ⟨g, k, none⟩ = some (.string ⟨T[k].1.toArray⟩) := by have := hcur k hkl; simp [World.cell?, g2, this, sv]
      have k0 : (0 : Int) ≤ (k : Int) := by omega
      have k1 : (k : Int) < (T.length : Int) := by omega
      have HTK := Lib.hid (bk_take hlt)
      have HKE : Hid (T.length - 1 - j = k) := Lib.hid (by omega)
      have HTK2 : Hid ((bk T).take (j + 1) = (bk T).take j ++ [(k, T[k])]) := Lib.hid (by
        have := HTK.out
        simp only [HKE.out] at this
        exact this)
      have hyy := hY ((bk T).take j) (k, T[k]) wr hJ (by rw [List.length_take, bk_len]; omega)
      unfold bkV at hyy
      obtain ⟨fn, tmps, assign, body, hy, hR⟩ := hyy
      have HPRE : Hid ((bk T).take j ++ [(k, T[k])] <+: bk T) := Lib.hid (by rw [← HTK2.out]; exact List.take_prefix _ _)
      have HR := Lib.hid hR
      rw [hk]
      clear hR hJ
      gi_wp2
      refine HR.out.mono ?_
      rintro e W3 (⟨rfl, hJ3, hk3⟩ | ⟨rfl, hJx3⟩)
      · gi_wp2
        go_roundw
        case rel => exact ⟨j + 1, by omega, by go_num, hk3.1.trans g1, hk3.2.trans g2, by rw [HTK2.out]; exact hJ3⟩
        case measure => simp [intOf]
      · gi_wp2
        refine bodyPost_ret (results_none rfl _ _ _) rfl ?_
        exact ⟨⟨_, rfl⟩, .inr ⟨_, HPRE.out, hJx3⟩⟩
    · have k0 : ¬ (0 : Int) ≤ (T.length : Int) - 1 - j := by omega
      have HAL : Hid ((bk T).take j = bk T) := Lib.hid (List.take_of_length_le (by rw [bk_len]; omega))
      gi_wp2
      go_end0
      first | exact ⟨⟨_, rfl⟩, .inl (by rw [← HAL.out]; exact hJ)⟩ | exact ⟨⟨_, rfl⟩, .inl ⟨_, rfl, by rw [← HAL.out]; exact hJ⟩⟩

/-- The iterator's contract, for a caller. -/
theorem back_stops (n : Nat) (hn : 1 ≤ n) (Bs g cap : Nat) (T : List Part) (cur : Array Value) (hT : T.length ≤ 1048576) (hcur : ∀ k (h : k < T.length), cur[k]? = some (sv T[k].1)) (w : World) (h1 : Bs < w.heap.size) (h2 : g < w.heap.size)
    (hBs : w.heap[Bs]? = some (.cells #[.slice (some ⟨g, 0, none⟩) T.length cap] 28 (0, 0))) (hBm : w.heap[g]? = some (.cells cur 9 (0, 0))) :
    SeqStopsK Fence.wide n Tryz.prog 68 #[.pointer (some ⟨Bs, 0, none⟩)] bkV (KpB Bs g) (fun ys => ys = bk T) (fun pre => pre <+: bk T) T.length w := fun l J Jx W hW _ _ hY h0 =>
  back1_in n hn l Bs g cap T cur hT hcur J Jx hY W ((hW.block Bs h1).trans hBs) ((hW.block g h2).trans hBm) h0
end Go.Proofs.YtjpclglklmlhlaaGreatDoor
