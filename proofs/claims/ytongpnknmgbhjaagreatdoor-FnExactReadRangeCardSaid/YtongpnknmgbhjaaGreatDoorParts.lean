/-
  impl.partsOf hands back an iterator that yields the parts of a text between a byte.
-/
import Derived.RangeFuncNested
import Derived.RangeFuncBound
import Derived.RangeFuncCalls
import Derived.RangeFuncLeaves
import Derived.Shelf.Abstract
import Derived.Shelf.RegionOpen
import Derived.WalkKit
import Derived.OwnWalkIn
import Derived.TacticsInMore
import Derived.LoopNIn
import Derived.LoopIn
import Derived.Sort.QuietIn
import Derived.Test.YtongpnknmgbhjaaGreatDoorCut
import Derived.Test.YtongpnknmgbhjaaGreatDoorKp
namespace Go.Proofs.YtongpnknmgbhjaaGreatDoor
open Go.RowKit Go.Shelf
attribute [local go_sem] Oper.semAt_some

/-- A part: a text that is not too long. -/
abbrev Part := { x : List UInt8 // x.length ≤ 1048576 }
def partV (x : Part) : Array Value := #[.string ⟨x.1.toArray⟩]
set_option maxHeartbeats 1000000 in
theorem partsOf_in (n : Nat) (s : ByteArray) (m : Int) (w : World) :
    CallsIn Fence.wide n Tryz.prog 172 #[.string s, .int .u8 m] w fun e w' => e = .returned (.func (.func 206) #[] #[.pointer (some ⟨w.heap.size, 0, none⟩), .pointer (some ⟨w.heap.size + 1, 0, none⟩)]) ∧ w' = (w.alloc (.cells #[.string s] 9)).alloc (.cells #[.int .u8 m] 5) := by
  refine callsIn_of_wp Tryz.func172 rfl trivial ?_ rfl
  simp only [Tryz.ntmps172, List.size_toArray, List.length_cons, List.length_nil, Nat.reduceAdd, Nat.reduceSub, Array.replicate_succ, Array.replicate_zero, List.push_toArray, List.append_toArray, List.nil_append, List.cons_append]
  gi_wp2
  go_ret
  exact ⟨rfl, rfl⟩


set_option maxRecDepth 100000 in
set_option maxHeartbeats 2000000 in
theorem parts1_in (n : Nat) (hn : 1 ≤ n) (l Bs Bm : Nat) (s : ByteArray) (m : UInt8) (hs : s.size ≤ 1048576) (J Jx : List Part → World → Prop)
    (hY : ∀ pre x W, J pre W → pre.length < s.size + 1 → YieldAt Fence.wide (n - 1) Tryz.prog l (partV x) W fun e W' =>
      (e = .returned (.bool true) ∧ J (pre ++ [x]) W' ∧ KpB Bs Bm W W') ∨ (e = .returned (.bool false) ∧ Jx (pre ++ [x]) W'))
    (W : World) (hBs : W.heap[Bs]? = some (.cells #[.string s] 9 (0, 0))) (hBm : W.heap[Bm]? = some (.cells #[.int .u8 (m.toNat : Int)] 5 (0, 0))) (h0 : J [] W) (hJa : AbidesFrom W.heap.size J) :
    CallsIn Fence.wide n Tryz.prog 206 #[.func (.yield l) #[] #[], .pointer (some ⟨Bs, 0, none⟩), .pointer (some ⟨Bm, 0, none⟩)] W fun e W' => (∃ v, e = .returned v) ∧
      ((∃ ys, ys.map Subtype.val = cutL m s.data.toList ∧ J ys W') ∨ (∃ pre, pre.map Subtype.val <+: cutL m s.data.toList ∧ Jx pre W')) := by
  have hc1 : W.cell? ⟨Bs, 0, none⟩ = some (.string s) := by simp [World.cell?, hBs]
  refine callsIn_of_wp Tryz.func206 rfl trivial ?_ rfl
  simp only [Tryz.ntmps206, List.size_toArray, List.length_cons, List.length_nil, Nat.reduceAdd, Nat.reduceSub, Array.replicate_succ, Array.replicate_zero, List.push_toArray, List.append_toArray, List.nil_append, List.cons_append]
  gi_wp2
  gi_loopw [4, 5, 8] (fun f _ i wr => ∃ (k st : Nat) (pre : List Part), k ≤ s.size ∧ i = .int .i64 k ∧ f = .int .i64 st ∧ CutAt m s.data.toList k st (pre.map Subtype.val) ∧ wr.heap[Bs]? = some (.cells #[.string s] 9 (0, 0)) ∧ wr.heap[Bm]? = some (.cells #[.int .u8 (m.toNat : Int)] 5 (0, 0)) ∧ J pre wr) (fun _ _ i _ => s.size - (intOf i).toNat)
  case atStart => exact ⟨0, 0, [], Nat.zero_le _, rfl, rfl, cutAt_zero _ _, hBs, hBm, h0⟩
  case round =>
    obtain ⟨k, st, pre, hk, rfl, rfl, HP, g1, g2, hJ⟩ := hrel
    have hst := HP.2.1
    have hdl := HP.2.2
    have d1 : wr.cell? ⟨Bs, 0, none⟩ = some (.string s) := by simp [World.cell?, g1]
    have d2 : wr.cell? ⟨Bm, 0, none⟩ = some (.int .u8 (m.toNat : Int)) := by simp [World.cell?, g2]
    by_cases hlt : k < s.size
    · have k0 : (0 : Int) ≤ (k : Int) := by omega
      have k1 : (k : Int) < (s.size : Int) := by omega
      gi_wp2
      gi_quiet (fail)
      have hJ2 : J pre (wr.drewN nq) := hJa pre wr _ none hJ (grown_drewN wr nq) (fun r e => by cases e)
      have g1' : (wr.drewN nq).heap[Bs]? = some (.cells #[.string s] 9 (0, 0)) := g1
      have g2' : (wr.drewN nq).heap[Bm]? = some (.cells #[.int .u8 (m.toNat : Int)] 5 (0, 0)) := g2
      have d1' : (wr.drewN nq).cell? ⟨Bs, 0, none⟩ = some (.string s) := d1
      generalize wr.drewN nq = wq at hJ2 g1' g2' d1' ⊢
      clear d1 d2 g1 g2 hJ
      by_cases hc : s[k] = m
      · have hb1 : ((s[k].toNat : Int) != (m.toNat : Int)) = false := by rw [hc]; simp
        have HN := Lib.hid (cutAt_mark HP hlt hc)
        have he := slice_str s _ st k (st : Int) (k : Int) rfl rfl (by omega) (by omega) (piece s st k)
        obtain ⟨x, hx⟩ : ∃ x : Part, x.1 = (s.data.toList.take k).drop st := ⟨⟨(s.data.toList.take k).drop st, by simp; omega⟩, rfl⟩
        rw [← hx] at he
        have HX := Lib.hid hx
        have hyy := hY pre x wq hJ2 (by have := hdl; simp at this; omega)
        unfold partV at hyy
        obtain ⟨fn, tmps, assign, body, hy, hR⟩ := hyy
        have HPRE : Hid ((pre ++ [x]).map Subtype.val <+: cutL m s.data.toList) := Lib.hid (by rw [HN.out.1, List.map_append, ← HX.out]; exact List.prefix_append _ _)
        have HR := Lib.hid hR
        clear HP hc hx hdl hR
        gi_wp2
        refine HR.out.mono ?_
        rintro e W3 (⟨rfl, hJ3, hk3⟩ | ⟨rfl, hJx3⟩)
        · gi_wp2
          go_roundw
          case rel => exact ⟨k + 1, k + 1, pre ++ [x], by omega, by go_num, by go_num, by rw [List.map_append]; have := HN.out; rw [← HX.out] at this; exact this, hk3.1.trans g1', hk3.2.trans g2', hJ3⟩
          case measure => simp [intOf]; omega
        · gi_wp2
          refine bodyPost_ret (results_none rfl _ _ _) rfl ?_
          exact ⟨⟨_, rfl⟩, .inr ⟨pre ++ [x], HPRE.out, hJx3⟩⟩
      · have hb1 : ((s[k].toNat : Int) != (m.toNat : Int)) = true := int_bne_true (fun h => hc (UInt8.toNat_inj.1 (by omega)))
        have HN := Lib.hid (cutAt_pass HP hlt hc)
        clear HP hc
        gi_wp2
        go_roundw
        case rel => exact ⟨k + 1, st, pre, by omega, by go_num, rfl, HN.out, g1', g2', hJ2⟩
        case measure => simp [intOf]; omega
    · have HN := Lib.hid (cutAt_end HP hlt)
      have he := slice_from s _ st (st : Int) rfl (by omega) (piece_end s st)
      obtain ⟨x, hx⟩ : ∃ x : Part, x.1 = s.data.toList.drop st := ⟨⟨s.data.toList.drop st, by simp; omega⟩, rfl⟩
      rw [← hx] at he
      have HX := Lib.hid hx
      have hyy := hY pre x wr hJ (by have := hdl; simp at this; omega)
      unfold partV at hyy
      obtain ⟨fn, tmps, assign, body, hy, hR⟩ := hyy
      have HALL : Hid ((pre ++ [x]).map Subtype.val = cutL m s.data.toList) := Lib.hid (by rw [HN.out, List.map_append, ← HX.out]; rfl)
      have HR := Lib.hid hR
      clear HP hx hdl hR
      gi_wp2
      refine HR.out.mono ?_
      rintro e W3 (⟨rfl, hJ3, hk3⟩ | ⟨rfl, hJx3⟩)
      · gi_wp2
        go_end0
        exact ⟨⟨_, rfl⟩, .inl ⟨pre ++ [x], HALL.out, hJ3⟩⟩
      · gi_wp2
        go_end0
        exact ⟨⟨_, rfl⟩, .inr ⟨pre ++ [x], by rw [HALL.out]; exact List.prefix_rfl, hJx3⟩⟩

/-- The iterator's contract, for a caller. -/
theorem parts_stops (n : Nat) (hn : 1 ≤ n) (Bs Bm : Nat) (s : ByteArray) (m : UInt8) (hs : s.size ≤ 1048576) (w : World) (h1 : Bs < w.heap.size) (h2 : Bm < w.heap.size)
    (hBs : w.heap[Bs]? = some (.cells #[.string s] 9 (0, 0))) (hBm : w.heap[Bm]? = some (.cells #[.int .u8 (m.toNat : Int)] 5 (0, 0))) :
    SeqStopsK Fence.wide n Tryz.prog 206 #[.pointer (some ⟨Bs, 0, none⟩), .pointer (some ⟨Bm, 0, none⟩)] partV (KpB Bs Bm) (fun ys => ys.map Subtype.val = cutL m s.data.toList) (fun pre => pre.map Subtype.val <+: cutL m s.data.toList) (s.size + 1) w := fun l J Jx W hW hJ _ hY h0 =>
  parts1_in n hn l Bs Bm s m hs J Jx hY W ((hW.block Bs h1).trans hBs) ((hW.block Bm h2).trans hBm) h0 hJ
end Go.Proofs.YtongpnknmgbhjaaGreatDoor
