/-
  At every argument the law FnSort returns true and leaves its arguments as they were, the three listed tables lying as the program's text lays them (the tie is given). No other condition.
-/
import Derived.Test.YtjhkfokjfniniaaGreatDoorDrwB
import Derived.ChangeSlices
import Derived.OpenShut
import Derived.Lib.SmallJoins
import Derived.Test.YtjhkfokjfniniaaGreatDoorSortM
import Derived.Test.YtjhkfokjfniniaaGreatDoorRdM
import Derived.Test.YtjhkfokjfniniaaGreatDoorCutI
import Derived.RangeFuncNested
import Derived.RangeFuncBound
import Derived.RangeFuncCalls
import Derived.RangeFuncLeaves
import Derived.Shelf.Abstract
import Derived.Shelf.RegionOpen
import Derived.WalkKit
import Derived.OwnWalkIn
import Derived.TacticsInMore
import Derived.LoopNIn
import Derived.LoopIn
import Derived.Sort.QuietIn
import Derived.Test.YtjhkfokjfniniaaGreatDoorStrs
import Derived.Test.YtjhkfokjfniniaaGreatDoorKp
import Derived.Test.YtjhkfokjfniniaaGreatDoorParts
import Derived.Shelf.SlSortCmp.WholeK
import Derived.Shelf.SlGeneric
import Derived.Ground.SlsfProg
import Derived.Test.YtjhkfokjfniniaaGreatDoorProg
import Derived.Test.YtjhkfokjfniniaaGreatDoorLawB
import Derived.Lib.SliceRun
import Derived.Test.YtjhkfokjfniniaaGreatDoorCmpI
import Derived.LoopN
import Derived.Lib.SlicesCompact
import Derived.Shelf.Slices.Cells
import Derived.Ground.NamesProg
import Derived.Shelf.Strings.OnBuilder
import Derived.Test.YtjhkfokjfniniaaGreatDoorRdL
import Derived.Test.YtjhkfokjfniniaaGreatDoorVerM
import Derived.Shelf.Strconv.Itoa3
import Derived.Test.YtjhkfokjfniniaaGreatDoorDec
import Derived.Lib.AppendIntMem
import Derived.Test.YtjhkfokjfniniaaGreatDoorTextS
import Derived.Test.YtjhkfokjfniniaaGreatDoorVerI
import Derived.Deep.RegionHeld3
import Derived.Test.YtjhkfokjfniniaaGreatDoorRdI
import Derived.Outline
import Derived.RangeFuncFrom
import Derived.RangeFuncBox
import Derived.Stop.RegionWithIn
import Derived.Test.YtjhkfokjfniniaaGreatDoorSortS
import Derived.Test.YtjhkfokjfniniaaGreatDoorDrwW
import Derived.Deep.DeepCutAuto
import Derived.Test.YtjhkfokjfniniaaGreatDoorRows
import Derived.Test.YtjhkfokjfniniaaGreatDoorTie
import Derived.Test.YtjhkfokjfniniaaGreatDoorCards
import Derived.ProofKit
import Derived.ShutString
import Derived.ChangeOld
import Derived.Below
import Derived.ChangeVars
import Derived.LaidLaws
import Derived.MakeChecks
import Derived.Stop.LaidErr
import Derived.SevenTiedAt
import Derived.Carry
/-
  Arguments opened: a row of bytes.
-/
namespace Go.Proofs.YtjhkfokjfniniaaGreatDoor
open Go.ChangeShapes Go.WideShapes Go.RowKit Go.Joins

theorem byte_of_wf {n : Int} (h : (Lit.int .u8 n).wf = true) : (n.toNat.toUInt8.toNat : Int) = n := by
  simp [Lit.wf] at h
  have h1 : IntKind.u8.min = 0 := by decide
  have h2 : IntKind.u8.max = 255 := by decide
  have : n.toNat.toUInt8.toNat = n.toNat % 256 := by simp
  omega
section
variable {H : Type} {enc : TypeId × Value → H} {W : World} {spare : Nat → Bool} {held : Bool}

set_option maxRecDepth 100000 in
theorem open_bytes {fuel : Nat} {v : Value} {x : DataW H × List MemPlace} (h : DataW.trod enc Tryz.prog W 0 spare held fuel 22 [v] = some x) :
    ∃ A n c, v = .slice A n c ∧ n ≤ maxLen ∧ RdBy W W.heap.size A n := by
  rcases open_ints Tryz.underlying22 Tryz.underlying5 (by kernel_rfl) h with ⟨hcs, _⟩ | ⟨a, len, cap, zs, hcs, _, hl, hm, hzl, _, hc, hw⟩
  · simp at hcs
    subst hcs
    exact ⟨none, 0, 0, rfl, by simp, fun h => absurd h (by simp)⟩
  · simp at hcs
    subst hcs
    have hlz : len ≤ zs.length := by rw [hzl]; split <;> omega
    refine ⟨some a, len, cap, rfl, by omega, fun h0 => ?_⟩
    obtain ⟨b, off, spot⟩ := a
    have hspot : spot = none := by simpa [Addr.add] using World.cell?_spot (hc 0 (by omega))
    subst hspot
    have h1 : ∀ k, k < len → W.cell? ⟨b, off + k, none⟩ = some (.int .u8 (zs.getD k 0)) := fun k hk => by rw [← Go.WideShapes.add_plain]; exact hc k (by omega)
    refine ⟨b, off, rfl, cell_in (h1 0 h0), cell_in (h1 0 h0), fun k hk => ?_⟩
    have hkz : k < zs.length := by omega
    have hwf := hw (zs.getD k 0) (by rw [List.getD_eq_getElem?_getD, List.getElem?_eq_getElem hkz]; exact List.getElem_mem hkz)
    have hrg := byte_of_wf hwf
    exact ⟨(zs.getD k 0).toNat.toUInt8, by rw [h1 k hk]; congr 2; omega⟩
set_option maxRecDepth 100000 in
theorem open_bytesV {r : Reach} {b0 : Nat} {v : Value} {d : DataW H} {p : List MemPlace} (hv : Value.okWide Tryz.prog W r b0 22 v) (h : DataW.Trod enc Tryz.prog W 0 spare held 22 v d p) :
    ∃ A n c, v = .slice A n c ∧ n ≤ maxLen ∧ RdBy W W.heap.size A n := by
  obtain ⟨a, len, cap, rfl⟩ := okWide_slice Tryz.underlying22 hv
  obtain ⟨fuel, hf⟩ := h
  exact open_bytes (by simpa [Value.cells] using hf)
end
end Go.Proofs.YtjhkfokjfniniaaGreatDoor

/-
  The newest of sorted versions' texts in plain words: the last without a dash, else the last. Of no program.
-/
namespace Go.Proofs.YtjhkfokjfniniaaGreatDoor
open Go.RowKit

/-- A text without a dash. -/
def stb (l : List UInt8) : Bool := decide (dash l < 0)
def lastD (X : List (List UInt8)) : List UInt8 := X.getLast?.getD []
def lastSt (X : List (List UInt8)) : List UInt8 := lastD (X.filter stb)
def newestL (X : List (List UInt8)) : List UInt8 := if lastSt X = [] ∧ 0 < X.length then lastD X else lastSt X

theorem lastD_snoc (X : List (List UInt8)) (x : List UInt8) : lastD (X ++ [x]) = x := by simp [lastD]
theorem lastSt_take {X : List (List UInt8)} {k : Nat} (h : k < X.length) : lastSt (X.take (k + 1)) = if stb X[k] = true then X[k] else lastSt (X.take k) := by
  unfold lastSt
  rw [List.take_succ_eq_append_getElem h, List.filter_append]
  by_cases hs : stb X[k] = true
  · rw [if_pos hs]; simp [hs, lastD]
  · rw [if_neg hs]; simp [hs]
theorem lastSt_none {X : List (List UInt8)} (h : ∀ x ∈ X, stb x = false) : lastSt X = [] := by
  unfold lastSt
  rw [List.filter_eq_nil_iff.2 (fun x hx => by rw [h x hx]; simp)]
  rfl
theorem lastSt_at {X p t : List (List UInt8)} {x : List UInt8} (h : X.reverse = p ++ [x] ++ t) (hp : ∀ y ∈ p, stb y = false) (hx : stb x = true) : lastSt X = x := by
  have e : X = t.reverse ++ [x] ++ p.reverse := by
    have := congrArg List.reverse h
    simpa using this
  unfold lastSt
  have e2 : p.reverse.filter stb = [] := List.filter_eq_nil_iff.2 (fun y hy => by rw [hp y (by simpa using hy)]; simp)
  rw [e, List.filter_append, List.filter_append, e2]
  simp [hx, lastD]
theorem readOk_ne {l : List UInt8} (h : readOk l = true) : l ≠ [] := by
  rintro rfl
  revert h
  decide
theorem newest_some {X : List (List UInt8)} {x : List UInt8} (h : lastSt X = x) (hx : x ≠ []) : newestL X = x := by
  unfold newestL
  rw [h, if_neg (fun hh => hx hh.1)]
theorem newest_none {X : List (List UInt8)} (h : lastSt X = []) (hx : 0 < X.length) : newestL X = lastD X := by
  unfold newestL
  rw [h, if_pos ⟨rfl, hx⟩]
theorem lastD_get {X : List (List UInt8)} (h : 0 < X.length) : lastD X = X[X.length - 1]'(by omega) := by
  unfold lastD
  rw [List.getLast?_eq_getElem?, List.getElem?_eq_getElem (by omega)]
  rfl
end Go.Proofs.YtjhkfokjfniniaaGreatDoor

/-
  strings.Contains of a dash.
-/
namespace Go.Proofs.YtjhkfokjfniniaaGreatDoor
open Go.RowKit

set_option maxRecDepth 100000 in
set_option maxHeartbeats 1000000 in
theorem index_dash (s : ByteArray) (w : World) (hs : s.size ≤ 1048576) :
    Calls Tryz.prog 40 #[.string s, .string ⟨#[45]⟩] w fun e w' => e = .returned (.int .i64 (dash s.data.toList)) ∧ w' = w := by
  have HI := Lib.hid (sliteIndex_dash s w hs)
  go_enter Tryz.func40, Tryz.ntmps40
  go_wp2_with fail
  refine HI.out.mono ?_
  rintro e w' ⟨rfl, rfl⟩
  go_wp2_with fail
  go_ret
  exact ⟨rfl, rfl⟩
set_option maxRecDepth 100000 in
set_option maxHeartbeats 1000000 in
theorem contains_dash (s : ByteArray) (w : World) (hs : s.size ≤ 1048576) :
    Calls Tryz.prog 21 #[.string s, .string ⟨#[45]⟩] w fun e w' => e = .returned (.bool (!stb s.data.toList)) ∧ w' = w := by
  have HI := Lib.hid (index_dash s w hs)
  obtain ⟨d, HD⟩ : ∃ d, Hid (dash s.data.toList = d) := ⟨_, Lib.hid rfl⟩
  have HX : Hid ((!stb s.data.toList) = decide (0 ≤ d)) := Lib.hid (by unfold stb; rw [HD.out]; by_cases h : d < 0 <;> simp [h] <;> omega)
  rw [HX.out]
  go_enter Tryz.func21, Tryz.ntmps21
  go_wp2_with fail
  refine HI.out.mono ?_
  rw [HD.out]
  rintro e w' ⟨rfl, rfl⟩
  go_wp2_with fail
  go_ret
  exact ⟨rfl, rfl⟩
end Go.Proofs.YtjhkfokjfniniaaGreatDoor

/-
  slices.Backward at texts: an iterator that yields the elements of a row from its end.
-/
namespace Go.Proofs.YtjhkfokjfniniaaGreatDoor
open Go.RowKit Go.Shelf
attribute [local go_sem] Oper.semAt_some

/-- A place and the text that lies there. -/
abbrev BE := Nat × Part
def bkV (x : BE) : Array Value := #[.int .i64 (x.1 : Int), .string ⟨x.2.1.toArray⟩]
/-- The places of a list, from its end. -/
def bk (T : List Part) : List BE := (List.range T.length).map fun j => (T.length - 1 - j, T.getD (T.length - 1 - j) ⟨[], by simp⟩)
theorem bk_len (T : List Part) : (bk T).length = T.length := by simp [bk]
theorem bk_take {T : List Part} {j : Nat} (h : j < T.length) : (bk T).take (j + 1) = (bk T).take j ++ [(T.length - 1 - j, T[T.length - 1 - j])] := by
  rw [List.take_succ_eq_append_getElem (by rw [bk_len]; exact h)]
  congr 1
  have : T.length - 1 - j < T.length := by omega
  simp [bk, this]
theorem bk_snd (T : List Part) : (bk T).map (fun x => x.2) = T.reverse := by
  apply List.ext_getElem (by simp [bk])
  intro i h1 h2
  simp only [List.length_map, bk_len] at h1
  have : T.length - 1 - i < T.length := by omega
  simp [bk, this]
theorem parts_of : ∀ (T : List (List UInt8)), (∀ l ∈ T, l.length ≤ 1048576) → ∃ P : List Part, P.map Subtype.val = T
  | [], _ => ⟨[], rfl⟩
  | x :: T, h => by
    obtain ⟨P, hP⟩ := parts_of T (fun l hl => h l (List.mem_cons_of_mem _ hl))
    exact ⟨⟨x, h x (by simp)⟩ :: P, by simp [hP]⟩

set_option maxHeartbeats 1000000 in
theorem backward_in (n : Nat) (A : Option Addr) (len cap : Nat) (w : World) :
    CallsIn Fence.wide n Tryz.prog 20 #[.slice A len cap] w fun e w' => e = .returned (.func (.func 39) #[] #[.pointer (some ⟨w.heap.size, 0, none⟩)]) ∧ w' = w.alloc (.cells #[.slice A len cap] 24) := by
  refine callsIn_of_wp Tryz.func20 rfl trivial ?_ rfl
  simp only [Tryz.ntmps20, List.size_toArray, List.length_cons, List.length_nil, Nat.reduceAdd, Nat.reduceSub, Array.replicate_succ, Array.replicate_zero, List.push_toArray, List.append_toArray, List.nil_append, List.cons_append]
  gi_wp2
  go_ret
  exact ⟨rfl, rfl⟩

set_option maxRecDepth 100000 in
set_option maxHeartbeats 2000000 in
theorem back1_in (n : Nat) (hn : 1 ≤ n) (l Bs g cap : Nat) (T : List Part) (cur : Array Value) (hT : T.length ≤ 1048576) (hcur : ∀ k (h : k < T.length), cur[k]? = some (sv T[k].1)) (J Jx : List BE → World → Prop)
    (hY : ∀ pre x W, J pre W → pre.length < T.length → YieldAt Fence.wide (n - 1) Tryz.prog l (bkV x) W fun e W' =>
      (e = .returned (.bool true) ∧ J (pre ++ [x]) W' ∧ KpB Bs g W W') ∨ (e = .returned (.bool false) ∧ Jx (pre ++ [x]) W'))
    (W : World) (hBs : W.heap[Bs]? = some (.cells #[.slice (some ⟨g, 0, none⟩) T.length cap] 24 (0, 0))) (hBm : W.heap[g]? = some (.cells cur 9 (0, 0))) (h0 : J [] W) :
    CallsIn Fence.wide n Tryz.prog 39 #[.func (.yield l) #[] #[], .pointer (some ⟨Bs, 0, none⟩)] W fun e W' => (∃ v, e = .returned v) ∧
      ((∃ ys, ys = bk T ∧ J ys W') ∨ (∃ pre, pre <+: bk T ∧ Jx pre W')) := by
  have hc1 : W.cell? ⟨Bs, 0, none⟩ = some (.slice (some ⟨g, 0, none⟩) T.length cap) := by simp [World.cell?, hBs]
  refine callsIn_of_wp Tryz.func39 rfl trivial ?_ rfl
  simp only [Tryz.ntmps39, List.size_toArray, List.length_cons, List.length_nil, Nat.reduceAdd, Nat.reduceSub, Array.replicate_succ, Array.replicate_zero, List.push_toArray, List.append_toArray, List.nil_append, List.cons_append]
  gi_wp2
  gi_loopw [3] (fun i wr => ∃ j : Nat, j ≤ T.length ∧ i = .int .i64 ((T.length : Int) - 1 - j) ∧ wr.heap[Bs]? = some (.cells #[.slice (some ⟨g, 0, none⟩) T.length cap] 24 (0, 0)) ∧ wr.heap[g]? = some (.cells cur 9 (0, 0)) ∧ J ((bk T).take j) wr) (fun i _ => (intOf i + 1).toNat)
  case atStart => exact ⟨0, Nat.zero_le _, by simp, hBs, hBm, by simpa using h0⟩
  case round =>
    obtain ⟨j, hj, rfl, g1, g2, hJ⟩ := hrel
    have d1 : wr.cell? ⟨Bs, 0, none⟩ = some (.slice (some ⟨g, 0, none⟩) T.length cap) := by simp [World.cell?, g1]
    by_cases hlt : j < T.length
    · obtain ⟨k, hk⟩ : ∃ k : Nat, (T.length : Int) - 1 - j = (k : Int) := ⟨T.length - 1 - j, by omega⟩
      have hkl : k < T.length := by omega
      have d2 : wr.cell? ⟨g, k, none⟩ = some (.string ⟨T[k].1.toArray⟩) := by have := hcur k hkl; simp [World.cell?, g2, this, sv]
      have k0 : (0 : Int) ≤ (k : Int) := by omega
      have k1 : (k : Int) < (T.length : Int) := by omega
      have HTK := Lib.hid (bk_take hlt)
      have HKE : Hid (T.length - 1 - j = k) := Lib.hid (by omega)
      have HTK2 : Hid ((bk T).take (j + 1) = (bk T).take j ++ [(k, T[k])]) := Lib.hid (by
        have := HTK.out
        simp only [HKE.out] at this
        exact this)
      have hyy := hY ((bk T).take j) (k, T[k]) wr hJ (by rw [List.length_take, bk_len]; omega)
      unfold bkV at hyy
      obtain ⟨fn, tmps, assign, body, hy, hR⟩ := hyy
      have HPRE : Hid ((bk T).take j ++ [(k, T[k])] <+: bk T) := Lib.hid (by rw [← HTK2.out]; exact List.take_prefix _ _)
      have HR := Lib.hid hR
      rw [hk]
      clear hR hJ
      gi_wp2
      refine HR.out.mono ?_
      rintro e W3 (⟨rfl, hJ3, hk3⟩ | ⟨rfl, hJx3⟩)
      · gi_wp2
        go_roundw
        case rel => exact ⟨j + 1, by omega, by go_num, hk3.1.trans g1, hk3.2.trans g2, by rw [HTK2.out]; exact hJ3⟩
        case measure => simp [intOf]
      · gi_wp2
        refine bodyPost_ret (results_none rfl _ _ _) rfl ?_
        exact ⟨⟨_, rfl⟩, .inr ⟨_, HPRE.out, hJx3⟩⟩
    · have k0 : ¬ (0 : Int) ≤ (T.length : Int) - 1 - j := by omega
      have HAL : Hid ((bk T).take j = bk T) := Lib.hid (List.take_of_length_le (by rw [bk_len]; omega))
      gi_wp2
      go_end0
      first | exact ⟨⟨_, rfl⟩, .inl (by rw [← HAL.out]; exact hJ)⟩ | exact ⟨⟨_, rfl⟩, .inl ⟨_, rfl, by rw [← HAL.out]; exact hJ⟩⟩

/-- The iterator's contract, for a caller. -/
theorem back_stops (n : Nat) (hn : 1 ≤ n) (Bs g cap : Nat) (T : List Part) (cur : Array Value) (hT : T.length ≤ 1048576) (hcur : ∀ k (h : k < T.length), cur[k]? = some (sv T[k].1)) (w : World) (h1 : Bs < w.heap.size) (h2 : g < w.heap.size)
    (hBs : w.heap[Bs]? = some (.cells #[.slice (some ⟨g, 0, none⟩) T.length cap] 24 (0, 0))) (hBm : w.heap[g]? = some (.cells cur 9 (0, 0))) :
    SeqStopsK Fence.wide n Tryz.prog 39 #[.pointer (some ⟨Bs, 0, none⟩)] bkV (KpB Bs g) (fun ys => ys = bk T) (fun pre => pre <+: bk T) T.length w := fun l J Jx W hW _ _ hY h0 =>
  back1_in n hn l Bs g cap T cur hT hcur J Jx hY W ((hW.block Bs h1).trans hBs) ((hW.block g h2).trans hBm) h0
end Go.Proofs.YtjhkfokjfniniaaGreatDoor

/-
  slices.SortFunc, as the library lays it, at versions, at this seat.
-/
namespace Go.Proofs
open Go.Shelf
def Tryz.laysSort_ren : Go.Shelf.Ren := ⟨fun | 6 => 17 | 15 => 36 | 14 => 35 | 28 => 66 | 29 => 67 | 20 => 58 | 21 => 59 | 22 => 60 | 23 => 61 | 24 => 62 | 25 => 63 | 26 => 64 | 27 => 65 | 46 => 81 | 47 => 82 | 48 => 83 | 49 => 84 | 50 => 85 | 57 => 94 | n => n, fun | 22 => 38 | 24 => 31 | 25 => 34 | 3 => 3 | 39 => 61 | 0 => 0 | 53 => 90 | 55 => 92 | 4 => 4 | 46 => 83 | 45 => 82 | 50 => 87 | 5 => 5 | 9 => 9 | 66 => 109 | 70 => 113 | 76 => 117 | 77 => 118 | n => n, fun | n => n⟩
theorem Tryz.laysSort : Go.Proofs.SlLaysF0.n6 Tryz.prog Tryz.laysSort_ren := {
  mixed := by kernel_rfl
  f6 := ⟨Tryz.f17.name, by decide, Tryz.func17.trans (congrArg some (by kernel_rfl))⟩
  f14 := ⟨Tryz.f35.name, by decide, Tryz.func35.trans (congrArg some (by kernel_rfl))⟩
  f15 := Tryz.func36.trans (congrArg some (by kernel_rfl))
  f20 := ⟨Tryz.f58.name, by decide, Tryz.func58.trans (congrArg some (by kernel_rfl))⟩
  f21 := ⟨Tryz.f59.name, by decide, Tryz.func59.trans (congrArg some (by kernel_rfl))⟩
  f22 := ⟨Tryz.f60.name, by decide, Tryz.func60.trans (congrArg some (by kernel_rfl))⟩
  f23 := ⟨Tryz.f61.name, by decide, Tryz.func61.trans (congrArg some (by kernel_rfl))⟩
  f24 := ⟨Tryz.f62.name, by decide, Tryz.func62.trans (congrArg some (by kernel_rfl))⟩
  f25 := ⟨Tryz.f63.name, by decide, Tryz.func63.trans (congrArg some (by kernel_rfl))⟩
  f26 := ⟨Tryz.f64.name, by decide, Tryz.func64.trans (congrArg some (by kernel_rfl))⟩
  f27 := ⟨Tryz.f65.name, by decide, Tryz.func65.trans (congrArg some (by kernel_rfl))⟩
  f28 := Tryz.func66.trans (congrArg some (by kernel_rfl))
  f29 := Tryz.func67.trans (congrArg some (by kernel_rfl))
  f46 := ⟨Tryz.f81.name, by decide, Tryz.func81.trans (congrArg some (by kernel_rfl))⟩
  f47 := Tryz.func82.trans (congrArg some (by kernel_rfl))
  f48 := Tryz.func83.trans (congrArg some (by kernel_rfl))
  f49 := ⟨Tryz.f84.name, by decide, Tryz.func84.trans (congrArg some (by kernel_rfl))⟩
  f50 := ⟨Tryz.f85.name, by decide, Tryz.func85.trans (congrArg some (by kernel_rfl))⟩
  f57 := ⟨Tryz.f94.name, by decide, Tryz.func94.trans (congrArg some (by kernel_rfl))⟩
  t0 := Tryz.underlying0
  a0 := Tryz.isAgg0
  z0 := Tryz.sizeOf0
  v0 := Tryz.zeroValue0
  t3 := Tryz.underlying3
  a3 := Tryz.isAgg3
  z3 := Tryz.sizeOf3
  v3 := Tryz.zeroValue3
  t4 := Tryz.underlying4
  a4 := Tryz.isAgg4
  z4 := Tryz.sizeOf4
  v4 := Tryz.zeroValue4
  t5 := Tryz.underlying5
  a5 := Tryz.isAgg5
  z5 := Tryz.sizeOf5
  v5 := Tryz.zeroValue5
  t9 := Tryz.underlying9
  a9 := Tryz.isAgg9
  z9 := Tryz.sizeOf9
  v9 := Tryz.zeroValue9
  t22 := Tryz.underlying38
  a22 := Tryz.isAgg38
  z22 := Tryz.sizeOf38
  v22 := Tryz.zeroValue38
  t25 := Tryz.underlying34
  a25 := Tryz.isAgg34
  z25 := Tryz.sizeOf34
  v25 := Tryz.zeroValue34
  t39 := Tryz.underlying61
  a39 := Tryz.isAgg61
  z39 := Tryz.sizeOf61
  v39 := Tryz.zeroValue61
  t45 := Tryz.underlying82
  a45 := Tryz.isAgg82
  z45 := Tryz.sizeOf82
  v45 := Tryz.zeroValue82
  t46 := Tryz.underlying83
  a46 := Tryz.isAgg83
  z46 := Tryz.sizeOf83
  v46 := Tryz.zeroValue83
  t50 := Tryz.underlying87
  a50 := Tryz.isAgg87
  z50 := Tryz.sizeOf87
  v50 := Tryz.zeroValue87
  t53 := Tryz.underlying90
  a53 := Tryz.isAgg90
  z53 := Tryz.sizeOf90
  v53 := Tryz.zeroValue90
  t55 := Tryz.underlying92
  a55 := Tryz.isAgg92
  z55 := Tryz.sizeOf92
  v55 := Tryz.zeroValue92
  t66 := Tryz.underlying109
  a66 := Tryz.isAgg109
  z66 := Tryz.sizeOf109
  v66 := Tryz.zeroValue109
  t70 := Tryz.underlying113
  a70 := Tryz.isAgg113
  z70 := Tryz.sizeOf113
  v70 := Tryz.zeroValue113
  t76 := Tryz.underlying117
  a76 := Tryz.isAgg117
  z76 := Tryz.sizeOf117
  v76 := Tryz.zeroValue117
  t77 := Tryz.underlying118
  a77 := Tryz.isAgg118
  z77 := Tryz.sizeOf118
  v77 := Tryz.zeroValue118 }
end Go.Proofs

/-
  append(versions, v): a struct of four cells onto a row of the call's own.
-/
namespace Go.Proofs.YtjhkfokjfniniaaGreatDoor
open Go.RowKit

theorem verinfo : (Tryz.prog.info? 31).map (fun i => (i.zero, i.size, i.bytes)) = some (some (.agg #[.int .i64 0, .int .i64 0, .int .i64 0, .slice none 0 0]), 4, 48) := by kernel_rfl

/-- A version's four cells. -/
def vc4 (p : Int × Int × Int × Value) : List Value := [.int .i64 p.1, .int .i64 p.2.1, .int .i64 p.2.2.1, p.2.2.2]
def flat4 (l : List (Int × Int × Int × Value)) : List Value := l.flatMap vc4
theorem flat4_app (l m : List (Int × Int × Int × Value)) : flat4 (l ++ m) = flat4 l ++ flat4 m := by simp [flat4]
theorem flat4_len (l : List (Int × Int × Int × Value)) : (flat4 l).length = l.length * 4 := by
  induction l with
  | nil => rfl
  | cons a l ih => simp only [flat4, List.flatMap_cons, List.length_append, List.length_cons] at ih ⊢; simp only [vc4, List.length_cons, List.length_nil]; omega

/-- v is the call's own row of these versions. -/
def Vers (w : World) (base : Nat) (v : Value) (l : List (Int × Int × Int × Value)) : Prop := w.ownsRow base 31 4 v l.length (flat4 l)

theorem run_append_ver (w : World) (ty : TypeId) (base : Nat) (v : Value) (l : List (Int × Int × Int × Value)) (hown : Vers w base v l) (B c : Nat) (T : TypeId) (fr : Nat × Nat) (x y z : Int) (s : Value) (hs : s.oneCell' = true)
    (hB : w.heap[B]? = some (.cells #[.int .i64 x, .int .i64 y, .int .i64 z, s] T fr)) (hlen : l.length + 1 ≤ 16777216) (hbase : base ≤ w.heap.size) :
    ∃ v' w', (Builtin.append_ #[38, 38] ty #[v, .slice (some ⟨B, 0, none⟩) 1 c]).run Tryz.prog w = .ok v' w' ∧ Vers w' base v' (l ++ [(x, y, z, s)]) ∧ w.grownBy w' v.ownBlock := by
  obtain ⟨i0, hi, hz0, hz1, hz2⟩ := info_parts verinfo
  obtain ⟨v', w', h1, h2, h3, _, _⟩ := run_append_own_at (P := Tryz.prog) w base 38 ty 31 i0 _ 4 48 Tryz.underlying38 hi hz0 hz1 hz2 rfl (by decide) v l.length (flat4 l) hown
    ⟨B, 0, none⟩ 1 c [.int .i64 x, .int .i64 y, .int .i64 z, s] (by rfl)
    (by
      intro j u hj
      rw [Go.WideShapes.add_plain]
      match j, hj with
      | 0, hj | 1, hj | 2, hj | 3, hj => simp at hj; subst hj; simp [World.cell?, hB]
      | n + 4, hj => simp at hj)
    (by intro u hu; simp at hu; rcases hu with rfl | rfl | rfl | rfl <;> first | rfl | exact hs) (by unfold maxLen; omega) (by omega) hbase
  refine ⟨v', w', h1, ?_, h3⟩
  unfold Vers
  rw [flat4_app, List.length_append]
  exact h2
end Go.Proofs.YtjhkfokjfniniaaGreatDoor

/-
  slices.CompareFunc at impl's identifiers, comparePre, cmp.Or at four ints.
-/
namespace Go.Proofs.YtjhkfokjfniniaaGreatDoor
open Go.RowKit

theorem sm_get {ls : List (List UInt8)} (h : ∀ l ∈ ls, l.length ≤ 1048576) (k : Nat) (hk : k < ls.length) : (⟨ls[k].toArray⟩ : ByteArray).size ≤ 1048576 := by
  have := h ls[k] (List.getElem_mem hk)
  show ls[k].toArray.size ≤ _
  simpa using this

set_option maxRecDepth 100000 in
set_option maxHeartbeats 1000000 in
theorem compareFunc_any (va vb : Value) (x y : List (List UInt8)) (w : World) (ha : RdS w va x) (hb : RdS w vb y) (hx : Sm x) (hy : Sm y) :
    Calls Tryz.prog 53 #[va, vb, .func (.func 54) #[] #[]] w fun e w' => e = .returned (.int .i64 (cmpL x y)) ∧ ∃ n, w' = w.drewN n := by
  obtain ⟨A, ca, rfl, ha⟩ := ha
  obtain ⟨B, cb, rfl, hb⟩ := hb
  have hx1 := hx.1
  have hy1 := hy.1
  have HX := Lib.hid hx.2
  have HY := Lib.hid hy.2
  clear hx hy
  go_enter Tryz.func53, Tryz.ntmps53
  go_wp2
  go_loopw [7, 8, 9, 10, 13] (fun _ _ _ _ i wr => ∃ k n : Nat, k ≤ x.length ∧ k ≤ y.length ∧ i = .int .i64 k ∧ wr = w.drewN n ∧ Hid (cmpL x y = cmpL (x.drop k) (y.drop k))) (fun _ _ _ _ i _ => x.length - (intOf i).toNat)
  case atStart => exact ⟨0, 0, Nat.zero_le _, Nat.zero_le _, rfl, rfl, Lib.hid (by simp)⟩
  case round =>
    obtain ⟨k, n, hk, hk', rfl, rfl, H⟩ := hrel
    by_cases hlt : k < x.length
    · obtain ⟨g, off, rfl, _, hca⟩ := ha (by omega)
      have d1 : w.cell? ⟨g, off + k, none⟩ = some (.string ⟨x[k].toArray⟩) := hca k hlt
      have k0 : (0 : Int) ≤ (k : Int) := by omega
      have k1 : (k : Int) < (x.length : Int) := by omega
      by_cases hlt2 : k < y.length
      · obtain ⟨g2, off2, rfl, _, hcb⟩ := hb (by omega)
        have d2 : w.cell? ⟨g2, off2 + k, none⟩ = some (.string ⟨y[k].toArray⟩) := hcb k hlt2
        have k2 : (k : Int) < (y.length : Int) := by omega
        have HC := Lib.hid (fun W => compareIdentifiers_any ⟨x[k].toArray⟩ ⟨y[k].toArray⟩ W (sm_get HX.out k hlt) (sm_get HY.out k hlt2))
        have HS := Lib.hid (cmpL_step hlt hlt2)
        clear ha hb hca hcb
        obtain ⟨z, HZ⟩ : ∃ z, Hid (cmpPart x[k] y[k] = z) := ⟨_, Lib.hid rfl⟩
        by_cases hz : z = 0
        · have hz' : (z != 0) = false := by simp [hz]
          have HN : Hid (cmpL x y = cmpL (x.drop (k + 1)) (y.drop (k + 1))) := Lib.hid (by rw [H.out, HS.out, HZ.out, hz]; rfl)
          clear hz
          go_wp2_with fail
          refine (HC.out _).mono ?_
          rw [show cmpPart (⟨x[k].toArray⟩ : ByteArray).data.toList (⟨y[k].toArray⟩ : ByteArray).data.toList = z from HZ.out]
          rintro e w' ⟨rfl, m, rfl⟩
          go_wp2_with fail
          go_roundw
          case rel => exact ⟨k + 1, n + m, by omega, by omega, by go_num, by simp [World.drewN], HN⟩
          case measure => simp [intOf]; omega
        · have hz' : (z != 0) = true := by simp [hz]
          have HN : Hid (cmpL x y = z) := Lib.hid (by rw [H.out, HS.out, HZ.out]; exact orI_ne _ hz)
          clear hz
          go_wp2_with fail
          refine (HC.out _).mono ?_
          rw [show cmpPart (⟨x[k].toArray⟩ : ByteArray).data.toList (⟨y[k].toArray⟩ : ByteArray).data.toList = z from HZ.out]
          rintro e w' ⟨rfl, m, rfl⟩
          go_wp2_with fail
          go_ret
          exact ⟨ret_int HN.out.symm, n + m, by simp [World.drewN]⟩
      · have HN : Hid (cmpL x y = 1) := Lib.hid (by rw [H.out]; exact cmpL_right hlt hlt2)
        clear ha hb hca
        go_wp2_with fail
        go_ret
        exact ⟨ret_int HN.out.symm, n, rfl⟩
    · clear ha hb
      by_cases hlt2 : k < y.length
      · have HN : Hid (cmpL x y = -1) := Lib.hid (by rw [H.out]; exact cmpL_left hlt hlt2)
        have hl : (x.length : Int) < (y.length : Int) := by omega
        go_wp2_with fail
        go_ret
        exact ⟨ret_int HN.out.symm, n, rfl⟩
      · have HN : Hid (cmpL x y = 0) := Lib.hid (by rw [H.out]; exact cmpL_end hlt hlt2)
        have hl : ¬ (x.length : Int) < (y.length : Int) := by omega
        go_wp2_with fail
        go_ret
        exact ⟨ret_int HN.out.symm, n, rfl⟩

set_option maxRecDepth 100000 in
set_option maxHeartbeats 1000000 in
theorem comparePre_any (va vb : Value) (x y : List (List UInt8)) (w : World) (ha : RdS w va x) (hb : RdS w vb y) (hx : Sm x) (hy : Sm y) :
    Calls Tryz.prog 31 #[va, vb] w fun e w' => e = .returned (.int .i64 (cmpPre x y)) ∧ ∃ n, w' = w.drewN n := by
  have HC := Lib.hid (compareFunc_any va vb x y w ha hb hx hy)
  obtain ⟨A, ca, rfl, _⟩ := ha
  obtain ⟨B, cb, rfl, _⟩ := hb
  have hx1 := hx.1
  have hy1 := hy.1
  by_cases h1 : x = []
  · have HP := Lib.hid (cmpPre_empty (x := x) (y := y) (.inl h1))
    have q1 : ((x.length : Int) == 0) = true := by simp [h1]
    clear h1 hx hy HC
    go_enter Tryz.func31, Tryz.ntmps31
    go_wp2_with (go_at_call 30; refine (cmpInt_any _ _ _).mono ?_; rintro e w' ⟨rfl, rfl⟩)
    go_ret
    exact ⟨ret_int HP.out.symm, 0, rfl⟩
  · have hl1 : 0 < x.length := by cases x <;> simp_all
    have q1 : ((x.length : Int) == 0) = false := int_beq_false (by omega)
    by_cases h2 : y = []
    · have HP := Lib.hid (cmpPre_empty (x := x) (y := y) (.inr h2))
      have q2 : ((y.length : Int) == 0) = true := by simp [h2]
      clear h1 h2 hx hy HC
      go_enter Tryz.func31, Tryz.ntmps31
      go_wp2_with (go_at_call 30; refine (cmpInt_any _ _ _).mono ?_; rintro e w' ⟨rfl, rfl⟩)
      go_ret
      exact ⟨ret_int HP.out.symm, 0, rfl⟩
    · have hl2 : 0 < y.length := by cases y <;> simp_all
      have q2 : ((y.length : Int) == 0) = false := int_beq_false (by omega)
      have HP := Lib.hid (cmpPre_full (x := x) (y := y) (by rintro (h | h); exact h1 h; exact h2 h))
      clear h1 h2 hx hy
      go_enter Tryz.func31, Tryz.ntmps31
      go_wp2_with fail
      refine HC.out.mono ?_
      rintro e w' ⟨rfl, n, rfl⟩
      go_wp2_with fail
      go_ret
      exact ⟨ret_int HP.out.symm, n, rfl⟩

set_option maxRecDepth 100000 in
set_option maxHeartbeats 1000000 in
theorem cmpOr4_any (p q r s : Int) (w : World) (B : Nat) (t : TypeId) (hB : w.heap[B]? = some (.cells #[.int .i64 p, .int .i64 q, .int .i64 r, .int .i64 s] t)) :
    Calls Tryz.prog 29 #[.slice (some ⟨B, 0, none⟩) 4 4] w fun e w' => e = .returned (.int .i64 (orI p (orI q (orI r s)))) ∧ w' = w := by
  have c0 : w.cell? ⟨B, 0, none⟩ = some (.int .i64 p) := by simp [World.cell?, hB]
  have c1 : w.cell? ⟨B, 1, none⟩ = some (.int .i64 q) := by simp [World.cell?, hB]
  have c2 : w.cell? ⟨B, 2, none⟩ = some (.int .i64 r) := by simp [World.cell?, hB]
  have c3 : w.cell? ⟨B, 3, none⟩ = some (.int .i64 s) := by simp [World.cell?, hB]
  clear hB
  by_cases hp : p = 0
  · by_cases hq : q = 0
    · by_cases hr : r = 0
      · have HO : Hid (orI p (orI q (orI r s)) = s) := Lib.hid (by rw [hp, hq, hr]; rfl)
        have q1 : (p != 0) = false := by simp [hp]
        have q2 : (q != 0) = false := by simp [hq]
        have q3 : (r != 0) = false := by simp [hr]
        clear hp hq hr
        by_cases hs : s = 0
        · have HO2 : Hid (orI p (orI q (orI r s)) = 0) := Lib.hid (by rw [HO.out, hs])
          have q4 : (s != 0) = false := by simp [hs]
          clear hs
          go_enter Tryz.func29, Tryz.ntmps29
          go_wp2
          refine wp_loop_rounds 5 ?_
          rw [rounds_succ]; go_wp2
          rw [rounds_succ]; go_wp2
          rw [rounds_succ]; go_wp2
          rw [rounds_succ]; go_wp2
          rw [rounds_succ]; go_wp2
          go_ret
          exact ⟨ret_int HO2.out.symm, rfl⟩
        · have q4 : (s != 0) = true := by simp [hs]
          clear hs
          go_enter Tryz.func29, Tryz.ntmps29
          go_wp2
          refine wp_loop_rounds 4 ?_
          rw [rounds_succ]; go_wp2
          rw [rounds_succ]; go_wp2
          rw [rounds_succ]; go_wp2
          rw [rounds_succ]; go_wp2
          go_ret
          exact ⟨ret_int HO.out.symm, rfl⟩
      · have HO : Hid (orI p (orI q (orI r s)) = r) := Lib.hid (by rw [hp, hq, orI_zero, orI_zero, orI_ne _ hr])
        have q1 : (p != 0) = false := by simp [hp]
        have q2 : (q != 0) = false := by simp [hq]
        have q3 : (r != 0) = true := by simp [hr]
        clear hp hq hr
        go_enter Tryz.func29, Tryz.ntmps29
        go_wp2
        refine wp_loop_rounds 3 ?_
        rw [rounds_succ]; go_wp2
        rw [rounds_succ]; go_wp2
        rw [rounds_succ]; go_wp2
        go_ret
        exact ⟨ret_int HO.out.symm, rfl⟩
    · have HO : Hid (orI p (orI q (orI r s)) = q) := Lib.hid (by rw [hp, orI_zero, orI_ne _ hq])
      have q1 : (p != 0) = false := by simp [hp]
      have q2 : (q != 0) = true := by simp [hq]
      clear hp hq
      go_enter Tryz.func29, Tryz.ntmps29
      go_wp2
      refine wp_loop_rounds 2 ?_
      rw [rounds_succ]; go_wp2
      rw [rounds_succ]; go_wp2
      go_ret
      exact ⟨ret_int HO.out.symm, rfl⟩
  · have HO : Hid (orI p (orI q (orI r s)) = p) := Lib.hid (orI_ne _ hp)
    have q1 : (p != 0) = true := by simp [hp]
    clear hp
    go_enter Tryz.func29, Tryz.ntmps29
    go_wp2
    refine wp_loop_rounds 1 ?_
    rw [rounds_succ]; go_wp2
    go_ret
    exact ⟨ret_int HO.out.symm, rfl⟩
end Go.Proofs.YtjhkfokjfniniaaGreatDoor

/-
  impl.CompareVersion: how two versions stand.
-/
namespace Go.Proofs.YtjhkfokjfniniaaGreatDoor
open Go.RowKit

set_option maxRecDepth 100000 in
set_option maxHeartbeats 8000000 in
theorem implCompareVersion_grow (a b c a' b' c' : Int) (va vb : Value) (x y : List (List UInt8)) (w : World) (ha : RdS w va x) (hb : RdS w vb y) (hx : Sm x) (hy : Sm y) :
    Calls Tryz.prog 14 #[.agg #[.int .i64 a, .int .i64 b, .int .i64 c, va], .agg #[.int .i64 a', .int .i64 b', .int .i64 c', vb]] w fun e w' => ∃ q o, e = .returned (.int .i64 (cmpVer a b c x a' b' c' y)) ∧ w' = (((w.alloc (.cells #[.int .i64 a, .int .i64 b, .int .i64 c, va] 31)).alloc (.cells #[.int .i64 a', .int .i64 b', .int .i64 c', vb] 31)).drewN q).alloc o := by
  have HP := Lib.hid (fun (W : World) (h : Below w.heap.size w W) => comparePre_any va vb x y W (ha.below h) (hb.below h) hx hy)
  have HV : Hid (cmpVer a b c x a' b' c' y = orI (cmpI a a') (orI (cmpI b b') (orI (cmpI c c') (cmpPre x y)))) := Lib.hid rfl
  have HB : Below w.heap.size w ((w.alloc (.cells #[.int .i64 a, .int .i64 b, .int .i64 c, va] 31)).alloc (.cells #[.int .i64 a', .int .i64 b', .int .i64 c', vb] 31)) := ((Below.refl _ _).alloc (Nat.le_refl _) _).alloc (by simp) _
  clear ha hb hx hy
  go_enter Tryz.func14, Tryz.ntmps14
  go_wp2_with fail
  have c0 : ((w.alloc (.cells #[.int .i64 a, .int .i64 b, .int .i64 c, va] 31)).alloc (.cells #[.int .i64 a', .int .i64 b', .int .i64 c', vb] 31)).cell? ⟨w.heap.size, 0, none⟩ = some (.int .i64 a) := by simp
  have c1 : ((w.alloc (.cells #[.int .i64 a, .int .i64 b, .int .i64 c, va] 31)).alloc (.cells #[.int .i64 a', .int .i64 b', .int .i64 c', vb] 31)).cell? ⟨w.heap.size, 1, none⟩ = some (.int .i64 b) := by simp
  have c2 : ((w.alloc (.cells #[.int .i64 a, .int .i64 b, .int .i64 c, va] 31)).alloc (.cells #[.int .i64 a', .int .i64 b', .int .i64 c', vb] 31)).cell? ⟨w.heap.size, 2, none⟩ = some (.int .i64 c) := by simp
  have c3 : ((w.alloc (.cells #[.int .i64 a, .int .i64 b, .int .i64 c, va] 31)).alloc (.cells #[.int .i64 a', .int .i64 b', .int .i64 c', vb] 31)).cell? ⟨w.heap.size, 3, none⟩ = some va := by simp
  have e0 : ((w.alloc (.cells #[.int .i64 a, .int .i64 b, .int .i64 c, va] 31)).alloc (.cells #[.int .i64 a', .int .i64 b', .int .i64 c', vb] 31)).cell? ⟨w.heap.size + 1, 0, none⟩ = some (.int .i64 a') := by simp
  have e1 : ((w.alloc (.cells #[.int .i64 a, .int .i64 b, .int .i64 c, va] 31)).alloc (.cells #[.int .i64 a', .int .i64 b', .int .i64 c', vb] 31)).cell? ⟨w.heap.size + 1, 1, none⟩ = some (.int .i64 b') := by simp
  have e2 : ((w.alloc (.cells #[.int .i64 a, .int .i64 b, .int .i64 c, va] 31)).alloc (.cells #[.int .i64 a', .int .i64 b', .int .i64 c', vb] 31)).cell? ⟨w.heap.size + 1, 2, none⟩ = some (.int .i64 c') := by simp
  have e3 : ((w.alloc (.cells #[.int .i64 a, .int .i64 b, .int .i64 c, va] 31)).alloc (.cells #[.int .i64 a', .int .i64 b', .int .i64 c', vb] 31)).cell? ⟨w.heap.size + 1, 3, none⟩ = some vb := by simp
  have l1 : w.heap.size + 1 < ((w.alloc (.cells #[.int .i64 a, .int .i64 b, .int .i64 c, va] 31)).alloc (.cells #[.int .i64 a', .int .i64 b', .int .i64 c', vb] 31)).heap.size := by simp
  obtain ⟨n0, hn0⟩ : ∃ n, n = w.heap.size := ⟨_, rfl⟩
  rw [← hn0] at HB c0 c1 c2 c3 e0 e1 e2 e3 l1 ⊢
  obtain ⟨W, hW⟩ : ∃ W, W = ((w.alloc (.cells #[.int .i64 a, .int .i64 b, .int .i64 c, va] 31)).alloc (.cells #[.int .i64 a', .int .i64 b', .int .i64 c', vb] 31)) := ⟨_, rfl⟩
  rw [← hW] at HB c0 c1 c2 c3 e0 e1 e2 e3 l1 ⊢
  have HW := Lib.hid hW
  clear hW
  have HN0 := Lib.hid hn0
  clear hn0
  go_region_held3 (fun w' => w'.cell? ⟨n0, 0, none⟩ = some (.int .i64 a) ∧ w'.cell? ⟨n0, 1, none⟩ = some (.int .i64 b) ∧ w'.cell? ⟨n0, 2, none⟩ = some (.int .i64 c) ∧ w'.cell? ⟨n0, 3, none⟩ = some va ∧ w'.cell? ⟨n0 + 1, 0, none⟩ = some (.int .i64 a') ∧ w'.cell? ⟨n0 + 1, 1, none⟩ = some (.int .i64 b') ∧ w'.cell? ⟨n0 + 1, 2, none⟩ = some (.int .i64 c') ∧ w'.cell? ⟨n0 + 1, 3, none⟩ = some vb) (first | exact ⟨c0, c1, c2, c3, e0, e1, e2, e3⟩ | go_keep) ((first | (go_at_call 30; (with_reducible refine (cmpInt_any _ _ _).mono ?_); rintro e w' ⟨rfl, rfl⟩) | (go_at_call 31; (with_reducible refine (HP.out _ (by first | exact HN0.out ▸ HB.trans (below_drewN _ _ 1))).mono ?_); rintro e w' ⟨rfl, nq, rfl⟩) | (go_at_call 29; refine (cmpOr4_any _ _ _ _ _ _ _ (heap_alloc_new _ _)).mono ?_; rintro e w' ⟨rfl, rfl⟩)))
  all_goals
    go_wp2_with fail
    go_ret
    exact ⟨1 + nq, _, ret_int HV.out.symm, by rw [← HW.out]⟩

theorem implCompareVersion_any (a b c a' b' c' : Int) (va vb : Value) (x y : List (List UInt8)) (w : World) (ha : RdS w va x) (hb : RdS w vb y) (hx : Sm x) (hy : Sm y) :
    Calls Tryz.prog 14 #[.agg #[.int .i64 a, .int .i64 b, .int .i64 c, va], .agg #[.int .i64 a', .int .i64 b', .int .i64 c', vb]] w fun e w' => e = .returned (.int .i64 (cmpVer a b c x a' b' c' y)) ∧ Below w.heap.size w w' := by
  refine (implCompareVersion_grow a b c a' b' c' va vb x y w ha hb hx hy).mono ?_
  rintro e w' ⟨q, o, rfl, rfl⟩
  exact ⟨rfl, ((((Below.refl _ _).alloc (Nat.le_refl _) _).alloc (by simp) _).trans (below_drewN _ _ q)).alloc (by simp [World.drewN]; omega) _⟩
end Go.Proofs.YtjhkfokjfniniaaGreatDoor

/-
  Equal neighbours of a list in order struck: the list of its versions, each once.
-/
namespace Go.Proofs.YtjhkfokjfniniaaGreatDoor
open Go.RowKit

theorem cmpT_anti {s t : List UInt8} (h1 : cmpT s t ≤ 0) (h2 : cmpT t s ≤ 0) : cmpT s t = 0 := by
  have := cmp_T.1 s t; omega
theorem get!_of {T : List (List UInt8)} {m : Nat} (h : m < T.length) : T.toArray[m]! = T[m] := by
  rw [getElem!_pos T.toArray m (by simpa using h)]; simp
theorem compact_inv {T : List (List UInt8)} (hok : ∀ t ∈ T, readOk t = true) (hs : ∀ i j (_ : i < j) (hj : j < T.length), cmpT (T[i]'(by omega)) T[j] ≤ 0) :
    ∀ m, m ≤ T.length → Up (Lib.compactUpTo T.toArray m) ∧ ∀ t, t ∈ Lib.compactUpTo T.toArray m ↔ t ∈ T.take m
  | 0, _ => ⟨by simp [Lib.compactUpTo, Up], fun t => by simp [Lib.compactUpTo]⟩
  | m + 1, hm => by
    obtain ⟨hu, hmem⟩ := compact_inv hok hs m (by omega)
    have hlt : m < T.length := by omega
    rw [Lib.compactUpTo_succ, get!_of hlt]
    have htake : T.take (m + 1) = T.take m ++ [T[m]] := List.take_succ_eq_append_getElem hlt
    by_cases hk : Lib.keeps T.toArray m = true
    · rw [if_pos hk]
      refine ⟨?_, fun t => by rw [htake, List.mem_append, List.mem_append, hmem t]⟩
      unfold Up at hu ⊢
      rw [List.pairwise_append]
      refine ⟨hu, by simp, fun t ht x hx => ?_⟩
      simp at hx
      subst hx
      obtain ⟨i, hi, rfl⟩ := List.mem_take_iff_getElem.1 ((hmem t).1 ht)
      have hi' : i < m := by omega
      have h1 := hs i m hi' hlt
      suffices hne : ¬ cmpT T[i] T[m] = 0 by omega
      intro h0
      have heq : T[i] = T[m] := (cmpT_zero (hok _ (List.getElem_mem _)) (hok _ (List.getElem_mem _))).1 h0
      have hprev : T[m - 1]'(by omega) = T[m] := by
        by_cases hd : i = m - 1
        · subst hd; exact heq
        · have a1 := hs i (m - 1) (by omega) (by omega)
          have a2 := hs (m - 1) m (by omega) hlt
          rw [heq] at a1
          exact (cmpT_zero (hok _ (List.getElem_mem _)) (hok _ (List.getElem_mem _))).1 (cmpT_anti a2 a1)
      unfold Lib.keeps at hk
      rw [decide_eq_true_eq] at hk
      rcases hk with h | h
      · omega
      · exact h (by rw [get!_of hlt, get!_of (show m - 1 < T.length by omega), hprev])
    · rw [if_neg hk, List.append_nil]
      refine ⟨hu, fun t => ?_⟩
      rw [hmem t, htake, List.mem_append]
      refine ⟨Or.inl, fun h => h.elim id (fun h => ?_)⟩
      simp at h
      subst h
      unfold Lib.keeps at hk
      rw [decide_eq_true_eq] at hk
      have hm0 : m ≠ 0 := fun h => hk (Or.inl h)
      have he : T[m] = T[m - 1]'(by omega) := by
        by_cases h : T.toArray[m]! = T.toArray[m - 1]!
        · rwa [get!_of hlt, get!_of (show m - 1 < T.length by omega)] at h
        · exact absurd (Or.inr h) hk
      rw [he]
      exact List.mem_take_iff_getElem.2 ⟨m - 1, by omega, rfl⟩
theorem sortOf_compact {ls T : List (List UInt8)} (hT : ∀ t, t ∈ T ↔ t ∈ ls ∧ readOk t = true) (hs : ∀ i j (_ : i < j) (hj : j < T.length), cmpT (T[i]'(by omega)) T[j] ≤ 0) : SortOf ls (Lib.compact T) := by
  have h := compact_inv (fun t ht => ((hT t).1 ht).2) hs T.length (Nat.le_refl _)
  refine ⟨h.1, fun t => ?_⟩
  have := h.2 t
  rw [List.take_length] at this
  exact this.trans (hT t)
end Go.Proofs.YtjhkfokjfniniaaGreatDoor

/-
  slices.SortFunc at a row of versions: the row holds the same versions, in order.
-/
namespace Go.Proofs.YtjhkfokjfniniaaGreatDoor
open Go.RowKit
open Go.Sort (SWO PermIn SortedIn HoldsK flatK grow)

/-- A version by its text, and the value of its identifiers. -/
abbrev VI := List UInt8 × Value
def cv (x : VI) : Int × Int × Int × Value := (readA x.1 0, readA x.1 1, readA x.1 2, x.2)
def vi (X : List VI) (i : Nat) : VI := X.getD i ([], .slice none 0 0)
def encI (X : List VI) (i : Nat) : List Value := vc4 (cv (vi X i))
/-- v is the call's own row of these versions, and their identifiers lie where they say. -/
def VerRow (w : World) (base : Nat) (v : Value) (X : List VI) : Prop := Vers w base v (X.map cv) ∧ ∀ x ∈ X, Strs w 0 x.2 (readP x.1)
/-- The value v reads as these versions. -/
def RdV (w : World) (v : Value) (X : List VI) : Prop := ∃ A cap, v = .slice A X.length cap ∧ ∀ k (h : k < X.length), ∃ g, A = some ⟨g, 0, none⟩ ∧ g < w.heap.size ∧ w.cell? ⟨g, k * 4, none⟩ = some (.int .i64 (readA X[k].1 0)) ∧ w.cell? ⟨g, k * 4 + 1, none⟩ = some (.int .i64 (readA X[k].1 1)) ∧ w.cell? ⟨g, k * 4 + 2, none⟩ = some (.int .i64 (readA X[k].1 2)) ∧ w.cell? ⟨g, k * 4 + 3, none⟩ = some X[k].2 ∧ Strs w 0 X[k].2 (readP X[k].1)
theorem RdV.below {w w' : World} {v : Value} {X : List VI} (h : RdV w v X) (hb : Below w.heap.size w w') : RdV w' v X := by
  obtain ⟨A, cap, hv, hc⟩ := h
  refine ⟨A, cap, hv, fun k hk => ?_⟩
  obtain ⟨g, hA, hg, h0, h1, h2, h3, h4⟩ := hc k hk
  exact ⟨g, hA, Nat.lt_of_lt_of_le hg hb.size, keepC hb h0, keepC hb h1, keepC hb h2, keepC hb h3, h4.below hb⟩

theorem flat4_get : ∀ (L : List (Int × Int × Int × Value)) (k j : Nat) (h : k < L.length), j < 4 → (flat4 L)[k * 4 + j]? = (vc4 L[k])[j]?
  | [], k, j, h, _ => by simp at h
  | a :: t, 0, j, _, hj => by
    rw [show 0 * 4 + j = j by omega]
    show (vc4 a ++ flat4 t)[j]? = _
    rw [List.getElem?_append_left (by simpa [vc4] using hj)]
    rfl
  | a :: t, k + 1, j, h, hj => by
    have := flat4_get t k j (by simpa using h) hj
    show (vc4 a ++ flat4 t)[(k + 1) * 4 + j]? = _
    rw [List.getElem?_append_right (by simp [vc4]; omega)]
    simp only [vc4, List.length_cons, List.length_nil]
    rw [show (k + 1) * 4 + j - (0 + 1 + 1 + 1 + 1) = k * 4 + j by omega, this]
    rfl

theorem sw_heap (enc : Nat → List Value) (k : Nat) (w : World) (g off m : Nat) (dk : Array Nat) (os : Array Obj) (b : Nat) (hb : b < w.heap.size) (hne : b ≠ g) : (sortWorldK enc k w g off m dk os).heap[b]? = w.heap[b]? := by
  unfold sortWorldK
  rw [Go.Sort.heap_grow_old _ _ (by rw [Go.Sort.size_putRowK]; exact hb)]
  unfold Go.Sort.putRowK Go.Sort.putRow Go.Sort.mapBlock Go.Sort.ahead
  show (w.heap.modify g _)[b]? = _
  rw [Array.getElem?_modify, if_neg (fun e => hne e.symm)]
theorem sw_grown (enc : Nat → List Value) (k : Nat) (w : World) (g off m : Nat) (dk : Array Nat) (os : Array Obj) : w.grownBy (sortWorldK enc k w g off m dk os) (some g) :=
  ⟨rfl, rfl, rfl, size_sortWorldK_c enc k w g off m dk os, fun b hb hne => sw_heap enc k w g off m dk os b hb (fun e => hne (by rw [e]))⟩

theorem alloc3 (W : World) (o1 o2 o : Obj) (q : Nat) : (((W.alloc o1).alloc o2).drewN q).alloc o = grow (W.drewN q) #[o1, o2, o] := by
  rw [Go.Sort.alloc_eq_grow, Go.Sort.alloc_eq_grow, Go.Sort.alloc_eq_grow, Go.Sort.grow_grow]
  show grow (grow (W.drewN q) (#[o1] ++ #[o2])) #[o] = _
  rw [Go.Sort.grow_grow]
  rfl
theorem swo_T (X : List VI) : SWO (ltOf fun i j : Nat => cmpT (vi X i).1 (vi X j).1) where
  irrefl x := by
    have := cmp_T.1 (vi X x).1 (vi X x).1
    unfold ltOf; simp; omega
  trans x y z h1 h2 := by
    unfold ltOf at *
    simp at *
    exact cmpT_lt_trans h1 (by omega)
  ntrans x y z h1 h2 := by
    unfold ltOf at *
    simp at *
    have a := cmp_T.1 (vi X x).1 (vi X y).1
    have b := cmp_T.1 (vi X y).1 (vi X z).1
    have c := cmp_T.1 (vi X x).1 (vi X z).1
    have := cmp_T.2 (vi X z).1 (vi X y).1 (vi X x).1 (by omega) (by omega)
    omega

theorem vi_of {X : List VI} {p : VI → Prop} (h : ∀ x ∈ X, p x) (h0 : p ([], .slice none 0 0)) (i : Nat) : p (vi X i) := by
  unfold vi
  rw [List.getD_eq_getElem?_getD]
  cases hi : X[i]? with
  | none => exact h0
  | some x => exact h x (List.mem_of_getElem? hi)
theorem vi_get {X : List VI} {i : Nat} (h : i < X.length) : vi X i = X[i] := by unfold vi; simp [h]

set_option maxRecDepth 100000 in
set_option maxHeartbeats 1000000 in
theorem sortFunc_any (w : World) (base g cap : Nat) (X : List VI) (h : VerRow w base (.slice (some ⟨g, 0, none⟩) X.length cap) X) (hn : X.length ≤ 1048576) (hsm : ∀ x ∈ X, Sm (readP x.1)) :
    Calls Tryz.prog 17 #[.slice (some ⟨g, 0, none⟩) X.length cap, .func (.func 14) #[] #[]] w fun e w' => e = .returned (.tuple #[]) ∧ ∃ Y : List VI, Y.Perm X ∧ (∀ i j (_ : i < j) (hj : j < Y.length), cmpT (Y[i]'(by omega)).1 Y[j].1 ≤ 0) ∧ RdV w' (.slice (some ⟨g, 0, none⟩) X.length cap) Y ∧ Below base w w' := by
  obtain ⟨hV, hP⟩ := h
  obtain ⟨cur, hg, hbase⟩ : ∃ cur, w.heap[g]? = some (.cells cur 31) ∧ base ≤ g := by
    rcases hV.2 with ⟨hv, _⟩ | ⟨g', cap', cur, hv, hb, hh, _⟩
    · cases hv
    · simp only [Value.slice.injEq, Option.some.injEq, Addr.mk.injEq, and_true] at hv
      obtain ⟨rfl, _, _⟩ := hv
      exact ⟨cur, hh, hb⟩
  have hlt := lt_of_heap hg
  have keepS : ∀ (w' : World) (u : Value) (ls : List (List UInt8)), w.grownBy w' (some g) → Strs w 0 u ls → Strs w' 0 u ls := fun w' u ls hgr hS => World.ownsRow.kept hS hgr (by
    rcases hS.2 with ⟨rfl, _⟩ | ⟨g', cap', cur', rfl, _, hh, _⟩
    · left; rfl
    · right
      simp only [Value.ownBlock, ne_eq, Option.some.injEq]
      rintro rfl
      rw [hg] at hh
      simp only [Option.some.injEq, Obj.cells.injEq] at hh
      exact absurd hh.2.1 (by decide))
  have hStr : ∀ i, Strs w 0 (vi X i).2 (readP (vi X i).1) := vi_of (p := fun x => Strs w 0 x.2 (readP x.1)) hP (Strs.nil w 0)
  have hSm : ∀ i, Sm (readP (vi X i).1) := vi_of (p := fun x => Sm (readP x.1)) hsm sm_nil
  have hH : HoldsK (encI X) 4 w g 0 (Array.range X.length) := by
    intro j hj
    rw [Go.Sort.size_flatK, Array.size_range] at hj
    refine ⟨?_, World.ownsRow.frozenAt (base := base) (e := 31) (size := 4) (n := X.length) (cap := cap) (xs := flat4 (X.map cv)) (by have := hV; unfold Vers at this; rw [List.length_map] at this; exact this) _⟩
    rw [Go.Sort.get_flatK _ _ _ _ (by simpa using hj), Nat.zero_add]
    have hk : j / 4 < X.length := by omega
    have hd : (Array.range X.length)[j / 4]! = j / 4 := by rw [getElem!_pos _ _ (by simpa using hk)]; simp
    rw [hd]
    have hf := flat4_get (X.map cv) (j / 4) (j % 4) (by simpa using hk) (by omega)
    rw [show j / 4 * 4 + j % 4 = j by omega] at hf
    have hm : j % 4 < (encI X (j / 4)).length := by show j % 4 < 4; omega
    have := World.ownsRow.cells (g := g) hV rfl j ((encI X (j / 4))[j % 4]!) (by
      have e : vc4 ((X.map cv)[j / 4]'(by simpa using hk)) = encI X (j / 4) := by unfold encI; rw [vi_get hk, List.getElem_map]
      have e2 : (encI X (j / 4))[j % 4]! = (encI X (j / 4))[j % 4] := getElem!_pos (encI X (j / 4)) (j % 4) hm
      rw [hf, e, e2, List.getElem?_eq_getElem hm])
    rw [Go.WideShapes.add_plain, Nat.zero_add] at this
    exact this
  have hcmp : CmpLays Tryz.prog 14 #[] (encI X) 4 (fun i j : Nat => cmpT (vi X i).1 (vi X j).1) g 0 (Array.range X.length).size w := fun m os dk _ x y => by
    have hgr := sw_grown (encI X) 4 w g 0 m dk os
    have := implCompareVersion_grow (readA (vi X x).1 0) (readA (vi X x).1 1) (readA (vi X x).1 2) (readA (vi X y).1 0) (readA (vi X y).1 1) (readA (vi X y).1 2) (vi X x).2 (vi X y).2 (readP (vi X x).1) (readP (vi X y).1) _ (RdS.of_strs (keepS _ _ _ hgr (hStr x))) (RdS.of_strs (keepS _ _ _ hgr (hStr y))) (hSm x) (hSm y)
    exact this.mono fun e w' ⟨q, o, he, hw⟩ => ⟨he, q, _, hw.trans (alloc3 _ _ _ _ _)⟩
  have eg : ∀ args w, (callFunc 14 args).run Tryz.prog w = .ok (.enter 14 args) w := enters_of Tryz.func14 (by kernel_rfl) rfl
  have hcon := AnyQ.slices_SortFunc Tryz.laysSort 4 Tryz.isAgg31 Tryz.sizeOf31 (encI X) (fun _ => rfl) (fun x v hv => by
    obtain ⟨uA, uc, hu⟩ := (hStr x).slice
    simp [encI, vc4, cv] at hv
    rcases hv with rfl | rfl | rfl | rfl
    · rfl
    · rfl
    · rfl
    · rw [hu]; rfl) _ (swo_T X) 14 #[] g 0 cap (Array.range X.length) w eg hcmp hH hlt (by simp; omega)
  rw [Array.size_range] at hcon
  refine hcon.mono ?_
  rintro e w' ⟨rfl, d', n, os, hp, hs, rfl⟩
  have hsz : d'.size = X.length := by have := hp.1; simpa using this
  have hperm : d'.toList.Perm (List.range X.length) := by
    have := hp.2.2
    rw [← hsz, Array.extract_size] at this
    rw [hsz] at this
    have e : (Array.range X.length).extract 0 X.length = Array.range X.length := by simp
    rw [e] at this
    simpa using this
  have hY : ((List.range X.length).map (vi X)) = X := by
    apply List.ext_getElem (by simp)
    intro i h1 h2
    simp at h1
    simp [vi_get h1]
  have hH' := holdsK_sortWorldK_c (encI X) 4 w g 0 (Array.range X.length) d' n os hH hlt (by simpa using hsz)
  have hgr := sw_grown (encI X) 4 w g 0 n d' os
  have gd : ∀ i (h : i < d'.size), d'[i]! = d'[i] := fun i h => getElem!_pos d' i h
  refine ⟨rfl, d'.toList.map (vi X), ?_, ?_, ?_, ?_⟩
  · have := hperm.map (vi X); rwa [hY] at this
  · intro i j hij hj
    simp at hj
    have := hs i j (Nat.zero_le _) hij (by omega)
    unfold ltOf at this
    simp at this
    rw [gd i (by omega), gd j hj] at this
    have c := cmp_T.1 (vi X d'[i]).1 (vi X d'[j]).1
    simp
    omega
  · refine ⟨some ⟨g, 0, none⟩, cap, by simp [hsz], fun k hk => ?_⟩
    simp at hk
    have hc : ∀ r, r < 4 → (sortWorldK (encI X) 4 w g 0 n d' os).cell? ⟨g, k * 4 + r, none⟩ = some ((encI X d'[k])[r]!) := fun r hr => by
      have := (hH' (k * 4 + r) (by rw [Go.Sort.size_flatK]; omega)).1
      rw [Go.Sort.get_flatK _ _ _ _ (by omega), Nat.zero_add, show (k * 4 + r) / 4 = k by omega, show (k * 4 + r) % 4 = r by omega, gd k hk] at this
      exact this
    simp only [List.getElem_map, Array.getElem_toList]
    exact ⟨g, rfl, Nat.lt_of_lt_of_le hlt hgr.size, hc 0 (by omega), hc 1 (by omega), hc 2 (by omega), hc 3 (by omega), keepS _ _ _ hgr (hStr _)⟩
  · exact (Below.refl base w).grown hgr (by omega) (fun g' hg' => by cases hg'; exact hbase)
end Go.Proofs.YtjhkfokjfniniaaGreatDoor

/-
  slices.Compact at texts, as the library lays it, at this seat.
-/
namespace Go.Proofs
open Go.Shelf
def Tryz.laysCompact_ren : Go.Shelf.Ren := ⟨fun | 194 => 19 | n => n, fun | 31 => 24 | 9 => 9 | 3 => 3 | 4 => 4 | 0 => 0 | n => n, fun | n => n⟩
theorem Tryz.laysCompact : Go.Proofs.Lays.n194 Tryz.prog Tryz.laysCompact_ren := {
  mixed := by kernel_rfl
  f194 := Tryz.func19.trans (congrArg some (by kernel_rfl))
  t0 := Tryz.underlying0
  a0 := Tryz.isAgg0
  z0 := Tryz.sizeOf0
  v0 := Tryz.zeroValue0
  t3 := Tryz.underlying3
  a3 := Tryz.isAgg3
  z3 := Tryz.sizeOf3
  v3 := Tryz.zeroValue3
  t4 := Tryz.underlying4
  a4 := Tryz.isAgg4
  z4 := Tryz.sizeOf4
  v4 := Tryz.zeroValue4
  t9 := Tryz.underlying9
  a9 := Tryz.isAgg9
  z9 := Tryz.sizeOf9
  v9 := Tryz.zeroValue9
  t31 := Tryz.underlying24
  a31 := Tryz.isAgg24
  z31 := Tryz.sizeOf24
  v31 := Tryz.zeroValue24 }
end Go.Proofs

/-
  Rows of versions and of texts: append of a version; slices.Compact of a row of texts.
-/
namespace Go.Proofs.YtjhkfokjfniniaaGreatDoor
open Go.RowKit

/-- append(versions, v) at a plain region's list. -/
theorem wpList_append_ver {w : World} {ops : Array Oper} {rest : List Oper} {o : Oper} {a : Act} {Q : Exit → Act → World → Prop} (hgd : o.guard = none) (s x : Operand)
    (ho : o.op = .call { callee := .builtin .append, args := #[s, x], argTypes := #[38, 38] })
    (base : Nat) (v : Value) (l : List (Int × Int × Int × Value)) (hs : a.eval s = v) (hown : Vers w base v l) (B c : Nat) (T : TypeId) (fr : Nat × Nat) (p q r : Int) (u : Value) (hu : u.oneCell' = true)
    (hx : a.eval x = .slice (some ⟨B, 0, none⟩) 1 c) (hB : w.heap[B]? = some (.cells #[.int .i64 p, .int .i64 q, .int .i64 r, u] T fr)) (hlen : l.length + 1 ≤ 16777216) (hbase : base ≤ w.heap.size)
    (h : ∀ v' w', Vers w' base v' (l ++ [(p, q, r, u)]) → w.grownBy w' v.ownBlock → wpList Tryz.prog ops Q rest (a.put o.dst v') w') : wpList Tryz.prog ops Q (o :: rest) a w := by
  refine wpList_plain hgd fun _ hK => ?_
  obtain ⟨v', w', hr, h2, h3⟩ := run_append_ver w o.type base v l hown B c T fr p q r u hu hB hlen hbase
  unfold Oper.wp execOp
  simp only [ho, resolve, invoke, builtin, Sem.run_bind, Sem.run_pure, Result.andThen_ok, List.map_toArray, List.map_cons, List.map_nil, hs, hx, hr]
  exact hK _ _ (h v' w' h2 h3)

theorem Vers.form {w : World} {base : Nat} {v : Value} {l : List (Int × Int × Int × Value)} (h : Vers w base v l) : (v = .slice none 0 0 ∧ l = []) ∨ ∃ g cap, v = .slice (some ⟨g, 0, none⟩) l.length cap ∧ base ≤ g ∧ g < w.heap.size := by
  rcases h.2 with ⟨hv, hl⟩ | ⟨g, cap, cur, hv, hb, hh, _⟩
  · left; exact ⟨hv, List.length_eq_zero_iff.1 hl⟩
  · right; exact ⟨g, cap, hv, hb, (Array.getElem?_eq_some_iff.1 hh).1⟩
theorem Vers.owned {w : World} {base : Nat} {v : Value} {l : List (Int × Int × Int × Value)} (h : Vers w base v l) : ∀ g, v.ownBlock = some g → base ≤ g := by
  intro g hg
  rcases h.form with ⟨rfl, _⟩ | ⟨g', cap, rfl, hb, _⟩
  · simp [Value.ownBlock] at hg
  · simp [Value.ownBlock] at hg; omega
theorem Vers.below {w w' : World} {base : Nat} {v : Value} {l : List (Int × Int × Int × Value)} (h : Vers w base v l) (hb : Below w.heap.size w w') : Vers w' base v l :=
  World.ownsRow.kept h (row := none) ⟨hb.os, hb.tape, hb.output, hb.size, fun i hi _ => hb.block i hi⟩ (by
    rcases h.form with ⟨rfl, _⟩ | ⟨g, cap, rfl, _, _⟩
    · left; rfl
    · right; simp [Value.ownBlock])
theorem Vers.empty (w : World) (base : Nat) (hb : base ≤ w.heap.size) : Vers (w.alloc (.cells #[] 31)) base (.slice (some ⟨w.heap.size, 0, none⟩) 0 0) [] := by
  have h := World.ownsRow_lit (base := base) (e := 31) (size := 4) w #[] 0 hb (by unfold maxLen; omega) (by simp)
  simpa [Vers, flat4] using h
theorem VerRow.below {w w' : World} {base : Nat} {v : Value} {X : List VI} (h : VerRow w base v X) (hb : Below w.heap.size w w') : VerRow w' base v X := ⟨h.1.below hb, fun x hx => (h.2 x hx).below hb⟩
/-- A row of versions that grows leaves texts as they were. -/
theorem Strs.grownV {w w' : World} {base : Nat} {v u : Value} {l : List (Int × Int × Int × Value)} {ls : List (List UInt8)} (h : Strs w 0 u ls) (hV : Vers w base v l) (hg : w.grownBy w' v.ownBlock) : Strs w' 0 u ls :=
  World.ownsRow.kept h hg (by
    rcases h.2 with ⟨rfl, _⟩ | ⟨g', cap', cur', rfl, _, hh, _⟩
    · left; rfl
    · right
      rcases hV.2 with ⟨rfl, _⟩ | ⟨g, cap, cur, rfl, _, hgg, _⟩
      · simp [Value.ownBlock]
      · simp only [Value.ownBlock, ne_eq, Option.some.injEq]
        rintro rfl
        rw [hgg] at hh
        simp only [Option.some.injEq, Obj.cells.injEq] at hh
        exact absurd hh.2.1 (by decide))

/-- A run of stores into a row of texts. -/
theorem Strs.setMany {base b cap : Nat} : ∀ (vs : List (List UInt8)) (k : Nat) (L : List (List UInt8)) (w : World), Strs w base (.slice (some ⟨b, 0, none⟩) L.length cap) L → k + vs.length ≤ L.length →
    Strs (w.setCells b k (vs.map sv)) base (.slice (some ⟨b, 0, none⟩) L.length cap) (L.take k ++ vs ++ L.drop (k + vs.length))
  | [], k, L, w, h, _ => by simpa [World.setCells] using h
  | x :: vs, k, L, w, h, hk => by
    simp only [List.length_cons] at hk
    have h1 := h.set k x
    have h2 := Strs.setMany vs (k + 1) (L.set k x) _ h1 (by simp; omega)
    rw [List.length_set] at h2
    have e : (L.set k x).take (k + 1) ++ vs ++ (L.set k x).drop (k + 1 + vs.length) = L.take k ++ (x :: vs) ++ L.drop (k + (x :: vs).length) := by
      rw [List.drop_set_of_lt (by omega)]
      rw [List.take_succ_eq_append_getElem (by simp; omega), List.take_set_of_le (by omega), List.getElem_set_self]
      simp only [List.append_assoc, List.cons_append, List.nil_append, List.length_cons]
      rw [show k + 1 + vs.length = k + (vs.length + 1) by omega]
    rw [e] at h2
    exact h2
theorem below_setCells {n b : Nat} {w0 : World} (hb : n ≤ b) : ∀ (vs : List Value) (k : Nat) (w : World), Below n w0 w → Below n w0 (w.setCells b k vs)
  | [], _, _, h => h
  | v :: r, k, _, h => below_setCells hb r (k + 1) _ (h.setCell (p := ⟨b, k, none⟩) hb v)
theorem Strs.cut {w : World} {base b cap : Nat} {A B : List (List UInt8)} (h : Strs w base (.slice (some ⟨b, 0, none⟩) (A ++ B).length cap) (A ++ B)) : Strs w base (.slice (some ⟨b, 0, none⟩) A.length cap) A := by
  rcases h.2 with ⟨hv, _⟩ | ⟨g, cap', cur, hv, hb, hh, hc, hm, hs, ht⟩
  · cases hv
  · refine ⟨by simp, .inr ⟨g, cap', cur, ?_, hb, hh, ?_, hm, hs, ?_⟩⟩
    · simp only [Value.slice.injEq] at hv; rw [hv.1, hv.2.2]
    · simp at hc; omega
    · have := congrArg (List.take A.length) ht
      rw [List.take_take] at this
      simp only [Nat.mul_one, List.length_append, List.map_append] at this ⊢
      rw [show min A.length (A.length + B.length) = A.length by omega] at this
      rw [this, List.take_append_of_le_length (by simp), List.take_of_length_le (by simp)]

theorem compact_any (w : World) (base b cap : Nat) (T : List (List UInt8)) (h : Strs w base (.slice (some ⟨b, 0, none⟩) T.length cap) T) (hn : T.length ≤ 1048576) :
    Calls Tryz.prog 19 #[.slice (some ⟨b, 0, none⟩) T.length cap] w fun e w' => ∃ g c, e = .returned (.slice (some ⟨g, 0, none⟩) (Lib.compact T).length c) ∧ Strs w' base (.slice (some ⟨g, 0, none⟩) (Lib.compact T).length c) (Lib.compact T) ∧ Below base w w' := by
  obtain ⟨hb, hcap⟩ : base ≤ b ∧ T.length ≤ cap := by
    rcases h.2 with ⟨hv, _⟩ | ⟨g, cap', cur, hv, hb, _, hc, _⟩
    · cases hv
    · simp only [Value.slice.injEq, Option.some.injEq, Addr.mk.injEq, and_true] at hv
      omega
  have hSx : Lib.strsOf (fun i => (⟨(T.getD i []).toArray⟩ : ByteArray)) T.length = T := by
    unfold Lib.strsOf
    apply List.ext_getElem (by simp)
    intro i h1 h2
    simp [h2]
  have hcon := Any.slices_Compact_string_cells Tryz.laysCompact b 0 T.length cap (fun i => (⟨(T.getD i []).toArray⟩ : ByteArray)) w (by omega) hcap (fun i hi => by
      rw [Nat.zero_add, h.cell i hi]
      simp [sv, hi]) (fun j _ => by rw [Nat.zero_add]; exact World.ownsRow.frozenAt h j)
  rw [hSx] at hcon
  refine hcon.mono ?_
  rintro e w' ⟨rfl, q, rfl⟩
  have hle := Lib.compact_length_le T
  have hl : (Lib.compact T ++ List.replicate (T.length - (Lib.compact T).length) []).length = T.length := by simp; omega
  have h2 := Strs.setMany (Lib.compact T ++ List.replicate (T.length - (Lib.compact T).length) []) 0 T (w.drewN q) (h.below (below_drewN _ _ q)) (by omega)
  rw [List.take_zero, List.nil_append, Nat.zero_add, hl, List.drop_length, List.append_nil] at h2
  have h3 : Strs ((w.drewN q).setCells b 0 ((Lib.compact T ++ List.replicate (T.length - (Lib.compact T).length) []).map sv)) base (.slice (some ⟨b, 0, none⟩) (Lib.compact T ++ List.replicate (T.length - (Lib.compact T).length) []).length cap) (Lib.compact T ++ List.replicate (T.length - (Lib.compact T).length) []) := by rw [hl]; exact h2
  exact ⟨b, cap, rfl, h3.cut, below_setCells hb _ _ _ (below_drewN _ _ q)⟩
end Go.Proofs.YtjhkfokjfniniaaGreatDoor

/-
  strings.Join, as the library lays it, at this seat.
-/
namespace Go.Proofs
open Go.Shelf
def Tryz.laysJoin_ren : Go.Shelf.Ren := ⟨fun | 156 => 38 | 165 => 69 | 166 => 70 | 169 => 71 | 240 => 87 | 241 => 88 | 276 => 96 | 277 => 97 | n => n, fun | 31 => 24 | 9 => 9 | 3 => 3 | 4 => 4 | 0 => 0 | 20 => 20 | 72 => 95 | 76 => 99 | 70 => 93 | 37 => 22 | 75 => 98 | 127 => 115 | 164 => 121 | 5 => 5 | 80 => 101 | n => n, fun | n => n⟩
theorem Tryz.laysJoin : Go.Proofs.Lays.n156 Tryz.prog Tryz.laysJoin_ren := {
  mixed := by kernel_rfl
  f156 := Tryz.func38.trans (congrArg some (by kernel_rfl))
  f165 := Tryz.func69.trans (congrArg some (by kernel_rfl))
  f166 := Tryz.func70.trans (congrArg some (by kernel_rfl))
  f169 := Tryz.func71.trans (congrArg some (by kernel_rfl))
  f240 := Tryz.func87.trans (congrArg some (by kernel_rfl))
  f241 := Tryz.func88.trans (congrArg some (by kernel_rfl))
  f276 := Tryz.func96.trans (congrArg some (by kernel_rfl))
  f277 := Tryz.func97.trans (congrArg some (by kernel_rfl))
  t0 := Tryz.underlying0
  a0 := Tryz.isAgg0
  z0 := Tryz.sizeOf0
  v0 := Tryz.zeroValue0
  t3 := Tryz.underlying3
  a3 := Tryz.isAgg3
  z3 := Tryz.sizeOf3
  v3 := Tryz.zeroValue3
  t4 := Tryz.underlying4
  a4 := Tryz.isAgg4
  z4 := Tryz.sizeOf4
  v4 := Tryz.zeroValue4
  t9 := Tryz.underlying9
  a9 := Tryz.isAgg9
  z9 := Tryz.sizeOf9
  v9 := Tryz.zeroValue9
  t20 := Tryz.underlying20
  a20 := Tryz.isAgg20
  z20 := Tryz.sizeOf20
  v20 := Tryz.zeroValue20
  t31 := Tryz.underlying24
  a31 := Tryz.isAgg24
  z31 := Tryz.sizeOf24
  v31 := Tryz.zeroValue24
  t37 := Tryz.underlying22
  a37 := Tryz.isAgg22
  z37 := Tryz.sizeOf22
  v37 := Tryz.zeroValue22
  t70 := Tryz.underlying93
  a70 := Tryz.isAgg93
  z70 := Tryz.sizeOf93
  v70 := Tryz.zeroValue93
  t72 := Tryz.underlying95
  a72 := Tryz.isAgg95
  z72 := Tryz.sizeOf95
  v72 := Tryz.zeroValue95
  t75 := Tryz.underlying98
  a75 := Tryz.isAgg98
  z75 := Tryz.sizeOf98
  v75 := Tryz.zeroValue98
  t76 := Tryz.underlying99
  a76 := Tryz.isAgg99
  z76 := Tryz.sizeOf99
  v76 := Tryz.zeroValue99
  t127 := Tryz.underlying115
  a127 := Tryz.isAgg115
  z127 := Tryz.sizeOf115
  v127 := Tryz.zeroValue115
  t164 := Tryz.underlying121
  a164 := Tryz.isAgg121
  z164 := Tryz.sizeOf121
  v164 := Tryz.zeroValue121 }
end Go.Proofs

/-
  strings.Join of a list of texts at a dot.
-/
namespace Go.Proofs
open Go.Shelf
theorem Tryz.extraJoin : Builder.Extra Tryz.prog Tryz.laysJoin_ren where
  sizeBuilder := by kernel_rfl
  liesBuilder := by kernel_rfl
  t5 := Tryz.underlying5
  a5 := Tryz.isAgg5
  z5 := Tryz.sizeOf5
  v5 := Tryz.zeroValue5
  infoByte := by kernel_rfl
  cellsByte := by kernel_rfl
  sizeByte := by kernel_rfl
  neB5 := by decide
namespace YtjhkfokjfniniaaGreatDoor
open Go.RowKit

theorem inter_flat (x : List UInt8) : ∀ xs : List (List UInt8), Lib.join (x :: xs) [46] = x ++ xs.flatMap (fun y => 46 :: y)
  | [] => by simp [Lib.join, List.intercalate]
  | y :: ys => by
    have := inter_flat y ys
    unfold Lib.join at this ⊢
    simp [List.intercalate] at this ⊢
    rw [this]
theorem join_pre {ls : List (List UInt8)} (h : ls ≠ []) : preText ls = 45 :: Lib.join ls [46] := by
  cases ls with
  | nil => exact absurd rfl h
  | cons x xs => rw [inter_flat]; rfl
theorem flat_len (ls : List (List UInt8)) (h : ∀ l ∈ ls, l.length ≤ 20) : (ls.flatMap (fun y => (46 : UInt8) :: y)).length ≤ 21 * ls.length := by
  induction ls with
  | nil => simp
  | cons x xs ih =>
    have := ih (fun l hl => h l (by simp [hl]))
    have := h x (by simp)
    simp only [List.flatMap_cons, List.length_append, List.length_cons]
    omega
theorem join_len {ls : List (List UInt8)} (h : ∀ l ∈ ls, l.length ≤ 20) (h5 : ls.length ≤ 5) : (Lib.join ls [46]).length ≤ 200 := by
  cases ls with
  | nil => simp [Lib.join_nil]
  | cons x xs =>
    rw [inter_flat]
    have := flat_len xs (fun l hl => h l (by simp [hl]))
    have := h x (by simp)
    simp at h5
    rw [List.length_append]
    omega

theorem joinDot_any (w : World) (base g cap : Nat) (ls : List (List UInt8)) (h : Strs w base (.slice (some ⟨g, 0, none⟩) ls.length cap) ls) (h20 : ∀ l ∈ ls, l.length ≤ 20) (h5 : ls.length ≤ 5) :
    Calls Tryz.prog 38 #[.slice (some ⟨g, 0, none⟩) ls.length cap, .string ⟨#[46]⟩] w fun e w' => e = .returned (.string ⟨(Lib.join ls [46]).toArray⟩) ∧ Below w.heap.size w w' := by
  obtain ⟨hlen, hr⟩ := h
  have hS : Strs w base (.slice (some ⟨g, 0, none⟩) ls.length cap) ls := ⟨hlen, hr⟩
  have hcap : ls.length ≤ cap := by
    rcases hr with ⟨hv, _⟩ | ⟨g', cap', cur, hv, _, _, hc, _⟩
    · cases hv
    · simp only [Value.slice.injEq] at hv; omega
  have hg : g < w.heap.size := by
    rcases hS.form with ⟨h', _⟩ | ⟨g', cap', h', _, hg'⟩
    · cases h'
    · simp only [Value.slice.injEq, Option.some.injEq, Addr.mk.injEq, and_true] at h'
      rw [h'.1]; exact hg'
  have hm : (ls.map (fun l => (⟨l.toArray⟩ : ByteArray))).map (fun x => x.data.toList) = ls := by rw [List.map_map]; exact List.map_id'' (fun l => rfl) ls
  have hJ := Any.strings_Join Tryz.laysJoin Tryz.extraJoin g 0 cap (ls.map (fun l => (⟨l.toArray⟩ : ByteArray))) ⟨#[46]⟩ w (fun j x hx => by
      rw [List.getElem?_map] at hx
      cases hj : ls[j]? with
      | none => rw [hj] at hx; simp at hx
      | some y =>
        rw [hj] at hx
        simp at hx
        subst hx
        obtain ⟨hl, rfl⟩ := List.getElem?_eq_some_iff.1 hj
        rw [Nat.zero_add]
        exact hS.cell j hl) hg (by simp; omega) (by simpa using hcap) (by rw [hm]; have := join_len h20 h5; show (Lib.join ls [46]).length ≤ _; omega)
  rw [hm] at hJ
  have e : (ls.map (fun l => (⟨l.toArray⟩ : ByteArray))).length = ls.length := by simp
  rw [e] at hJ
  exact hJ
end YtjhkfokjfniniaaGreatDoor
end Go.Proofs

/-
  strconv.Itoa, as the library lays it, at this seat.
-/
namespace Go.Proofs
open Go.Shelf
def Tryz.laysItoa_ren : Go.Shelf.Ren := ⟨fun | 171 => 68 | 243 => 86 | 246 => 95 | 283 => 103 | 284 => 104 | 285 => 105 | 286 => 106 | 129 => 67 | 317 => 107 | 318 => 108 | 319 => 109 | 320 => 110 | 337 => 111 | 338 => 112 | n => n, fun | 3 => 3 | 9 => 9 | 2 => 2 | 4 => 4 | 171 => 126 | 0 => 0 | 53 => 92 | 37 => 22 | 5 => 5 | 173 => 128 | 212 => 131 | 51 => 90 | 20 => 20 | 213 => 132 | 46 => 61 | 232 => 133 | 233 => 134 | n => n, fun | 17 => 1 | 18 => 2 | 19 => 3 | n => n⟩
theorem Tryz.laysItoa : Go.Proofs.LaysM.n171 Tryz.prog Tryz.laysItoa_ren := {
  mixed := by kernel_rfl
  f129 := Tryz.func67.trans (congrArg some (by kernel_rfl))
  f171 := Tryz.func68.trans (congrArg some (by kernel_rfl))
  f243 := Tryz.func86.trans (congrArg some (by kernel_rfl))
  f246 := Tryz.func95.trans (congrArg some (by kernel_rfl))
  f283 := Tryz.func103.trans (congrArg some (by kernel_rfl))
  f284 := Tryz.func104.trans (congrArg some (by kernel_rfl))
  f285 := Tryz.func105.trans (congrArg some (by kernel_rfl))
  f286 := Tryz.func106.trans (congrArg some (by kernel_rfl))
  f317 := Tryz.func107.trans (congrArg some (by kernel_rfl))
  f318 := Tryz.func108.trans (congrArg some (by kernel_rfl))
  f319 := Tryz.func109.trans (congrArg some (by kernel_rfl))
  f320 := Tryz.func110.trans (congrArg some (by kernel_rfl))
  f337 := Tryz.func111.trans (congrArg some (by kernel_rfl))
  f338 := Tryz.func112.trans (congrArg some (by kernel_rfl))
  t0 := Tryz.underlying0
  a0 := Tryz.isAgg0
  z0 := Tryz.sizeOf0
  v0 := Tryz.zeroValue0
  t2 := Tryz.underlying2
  a2 := Tryz.isAgg2
  z2 := Tryz.sizeOf2
  v2 := Tryz.zeroValue2
  t3 := Tryz.underlying3
  a3 := Tryz.isAgg3
  z3 := Tryz.sizeOf3
  v3 := Tryz.zeroValue3
  t4 := Tryz.underlying4
  a4 := Tryz.isAgg4
  z4 := Tryz.sizeOf4
  v4 := Tryz.zeroValue4
  t5 := Tryz.underlying5
  a5 := Tryz.isAgg5
  z5 := Tryz.sizeOf5
  v5 := Tryz.zeroValue5
  t9 := Tryz.underlying9
  a9 := Tryz.isAgg9
  z9 := Tryz.sizeOf9
  v9 := Tryz.zeroValue9
  t20 := Tryz.underlying20
  a20 := Tryz.isAgg20
  z20 := Tryz.sizeOf20
  v20 := Tryz.zeroValue20
  t37 := Tryz.underlying22
  a37 := Tryz.isAgg22
  z37 := Tryz.sizeOf22
  v37 := Tryz.zeroValue22
  t46 := Tryz.underlying61
  a46 := Tryz.isAgg61
  z46 := Tryz.sizeOf61
  v46 := Tryz.zeroValue61
  t51 := Tryz.underlying90
  a51 := Tryz.isAgg90
  z51 := Tryz.sizeOf90
  v51 := Tryz.zeroValue90
  t53 := Tryz.underlying92
  a53 := Tryz.isAgg92
  z53 := Tryz.sizeOf92
  v53 := Tryz.zeroValue92
  t171 := Tryz.underlying126
  a171 := Tryz.isAgg126
  z171 := Tryz.sizeOf126
  v171 := Tryz.zeroValue126
  t173 := Tryz.underlying128
  a173 := Tryz.isAgg128
  z173 := Tryz.sizeOf128
  v173 := Tryz.zeroValue128
  t212 := Tryz.underlying131
  a212 := Tryz.isAgg131
  z212 := Tryz.sizeOf131
  v212 := Tryz.zeroValue131
  t213 := Tryz.underlying132
  a213 := Tryz.isAgg132
  z213 := Tryz.sizeOf132
  t232 := Tryz.underlying133
  a232 := Tryz.isAgg133
  z232 := Tryz.sizeOf133
  v232 := Tryz.zeroValue133
  t233 := Tryz.underlying134
  a233 := Tryz.isAgg134
  z233 := Tryz.sizeOf134
  v233 := Tryz.zeroValue134
  g17 := by kernel_rfl
  g18 := by kernel_rfl
  g19 := by kernel_rfl
  i0 := by kernel_rfl
  i2 := by kernel_rfl
  i3 := by kernel_rfl
  i4 := by kernel_rfl
  i5 := by kernel_rfl
  i9 := by kernel_rfl
  i20 := by kernel_rfl
  i37 := by kernel_rfl
  i46 := by kernel_rfl
  i51 := by kernel_rfl
  i53 := by kernel_rfl
  i171 := by kernel_rfl
  i173 := by kernel_rfl
  i212 := by kernel_rfl
  i232 := by kernel_rfl
  i233 := by kernel_rfl
  m17 := by kernel_rfl
  m18 := by kernel_rfl
  m19 := by kernel_rfl }
end Go.Proofs

/-
  impl.DecText returns the decimal text of every int, where the table of powers lies as the library lays it.
-/
namespace Go.Proofs.YtjhkfokjfniniaaGreatDoor
open Go.RowKit

theorem itoa_any (n : Int) (h0 : -9223372036854775808 ≤ n) (h1 : n ≤ 9223372036854775807) (w : World) (htab : Lib.TabIs Tryz.prog w "internal/strconv.uint64pow10" .u64 Lib.pow10Tab) :
    Calls Tryz.prog 68 #[.int .i64 n] w fun e w' => e = .returned (.string ⟨(Lib.itoa n).toArray⟩) ∧ Below w.heap.size w w' := by
  refine (Any.strconv_Itoa Tryz.laysItoa n h0 h1 w htab).mono ?_
  rintro e w' ⟨rfl, k, os, rfl⟩
  exact ⟨rfl, Lib.below_grow _ w (Nat.le_refl _) k os⟩
theorem implDecText_any (n : Int) (h0 : -9223372036854775808 ≤ n) (h1 : n ≤ 9223372036854775807) (w : World) (htab : Lib.TabIs Tryz.prog w "internal/strconv.uint64pow10" .u64 Lib.pow10Tab) :
    Calls Tryz.prog 37 #[.int .i64 n] w fun e w' => e = .returned (.string ⟨(Lib.itoa n).toArray⟩) ∧ Below w.heap.size w w' := by
  go_enter Tryz.func37, Tryz.ntmps37
  go_wp2_with fail
  refine (itoa_any n h0 h1 w htab).mono ?_
  rintro e w1 ⟨rfl, hb⟩
  go_wp2_with fail
  go_ret
  exact ⟨rfl, hb⟩
end Go.Proofs.YtjhkfokjfniniaaGreatDoor

/-
  impl.VersionText: the text of a version.
-/
namespace Go.Proofs.YtjhkfokjfniniaaGreatDoor
open Go.RowKit

/-- The table of powers lies as the library lays it. -/
abbrev Tab (w : World) : Prop := Lib.TabIs Tryz.prog w "internal/strconv.uint64pow10" .u64 Lib.pow10Tab
theorem tab_below {w w' : World} (h : Tab w) (hb : Below w.heap.size w w') : Tab w' := by
  unfold Tab Lib.TabIs World.var? at h ⊢
  have hg : Tryz.prog.globalNamed "internal/strconv.uint64pow10" = some 1 := by kernel_rfl
  simp only [hg, Option.bind_some] at h ⊢
  have hlt : 1 < w.heap.size := by
    rcases Nat.lt_or_ge 1 w.heap.size with h' | h'
    · exact h'
    · rw [Array.getElem?_eq_none h'] at h; simp at h
  rw [hb.block _ hlt]
  exact h
/-- Three cells and the table, in a later world. -/
theorem keepT {W V : World} {A : Nat} {v0 v1 v2 : Value} (hb : Below W.heap.size W V) (h : W.cell? ⟨A, 0, none⟩ = some v0 ∧ W.cell? ⟨A, 1, none⟩ = some v1 ∧ W.cell? ⟨A, 2, none⟩ = some v2 ∧ Tab W) : V.cell? ⟨A, 0, none⟩ = some v0 ∧ V.cell? ⟨A, 1, none⟩ = some v1 ∧ V.cell? ⟨A, 2, none⟩ = some v2 ∧ Tab V :=
  ⟨keepC hb h.1, keepC hb h.2.1, keepC hb h.2.2.1, tab_below h.2.2.2 hb⟩

set_option maxRecDepth 100000 in
set_option maxHeartbeats 4000000 in
theorem implVersionText_any (a b c : Int) (base : Nat) (v : Value) (ls : List (List UInt8)) (w : World) (hr : Strs w base v ls) (hs : Sm ls) (ht : Tab w) :
    Calls Tryz.prog 18 #[.agg #[.int .i64 a, .int .i64 b, .int .i64 c, v]] w fun e w' => e = .returned (.string ⟨(verText a b c ls).toArray⟩) ∧ Below w.heap.size w w' := by
  have HV := Lib.hid (fun (W : World) (h : Below w.heap.size w W) => implVersionOk_any a b c v ls W ((RdS.of_strs hr).below h) hs)
  have B1 : Below w.heap.size w (w.alloc (.cells #[.int .i64 a, .int .i64 b, .int .i64 c, v] 31)) := (Below.refl _ _).alloc (Nat.le_refl _) _
  have hA1 := heap_alloc_new w (.cells #[.int .i64 a, .int .i64 b, .int .i64 c, v] 31)
  have HSS := Lib.hid (fun (W : World) (h : Below w.heap.size w W) => hr.below h)
  have HTT := Lib.hid (fun (W : World) (h : Below w.heap.size w W) => tab_below ht h)
  obtain ⟨ok, HO⟩ : ∃ ok, Hid (verOk a b c ls = ok) := ⟨_, Lib.hid rfl⟩
  have hl := hs.1
  have hform := hr.form
  clear hr hs ht
  cases ok
  · have HT : Hid (verText a b c ls = []) := Lib.hid (by unfold verText; rw [HO.out]; rfl)
    go_enter Tryz.func18, Tryz.ntmps18
    go_wp2_with fail
    refine (HV.out _ B1).mono ?_
    rw [HO.out]
    rintro e w2 ⟨rfl, hb2⟩
    have B2 := B1.trans (hb2.mono B1.size)
    go_wp2_with fail
    go_ret
    exact ⟨ret_str HT.out.symm, B2⟩
  · obtain ⟨⟨a0, a1⟩, ⟨b0, b1⟩, ⟨c0, c1⟩, h5⟩ := verOk_num HO.out
    have HLE := Lib.hid (verOk_len HO.out)
    have la := dec_len a0 a1
    have lb := dec_len b0 b1
    have lc := dec_len c0 c1
    have HT : Hid (verText a b c ls = nums a b c ++ preText ls) := Lib.hid (by unfold verText; rw [HO.out]; rfl)
    go_enter Tryz.func18, Tryz.ntmps18
    go_wp2_with fail
    refine (HV.out _ B1).mono ?_
    rw [HO.out]
    rintro e w2 ⟨rfl, hb2⟩
    have B2 := B1.trans (hb2.mono B1.size)
    have hA2 := keepB hA1 hb2
    clear hA1 hb2 B1
    obtain ⟨p0, p1, p2, p3⟩ := cells4 hA2
    have tb : Tab w2.drew := HTT.out _ (B2.trans (below_drew _ _))
    obtain ⟨Da, HDa⟩ : ∃ D, Hid (dec a = D) := ⟨_, Lib.hid rfl⟩
    obtain ⟨Db, HDb⟩ : ∃ D, Hid (dec b = D) := ⟨_, Lib.hid rfl⟩
    obtain ⟨Dc, HDc⟩ : ∃ D, Hid (dec c = D) := ⟨_, Lib.hid rfl⟩
    rw [HDa.out] at la
    rw [HDb.out] at lb
    rw [HDc.out] at lc
    obtain ⟨N1, HN1⟩ : ∃ N, Hid (N = Da ++ [46]) := ⟨_, Lib.hid rfl⟩
    obtain ⟨N2, HN2⟩ : ∃ N, Hid (N = N1 ++ Db) := ⟨_, Lib.hid rfl⟩
    obtain ⟨N3, HN3⟩ : ∃ N, Hid (N = N2 ++ [46]) := ⟨_, Lib.hid rfl⟩
    obtain ⟨N4, HN4⟩ : ∃ N, Hid (N = N3 ++ Dc) := ⟨_, Lib.hid rfl⟩
    have l1 : N1.length ≤ 21 := by rw [HN1.out]; simp; omega
    have l2 : N2.length ≤ 41 := by rw [HN2.out]; simp; omega
    have l3 : N3.length ≤ 42 := by rw [HN3.out]; simp; omega
    have l4 : N4.length ≤ 62 := by rw [HN4.out]; simp; omega
    have HNN : Hid (nums a b c = N4) := Lib.hid (by rw [HN4.out, HN3.out, HN2.out, HN1.out]; unfold nums; rw [HDa.out, HDb.out, HDc.out])
    have s1 : ∀ W, (Op.stringOp .add ⟨Da.toArray⟩ ⟨#[46]⟩).run Tryz.prog W = .ok (.string ⟨N1.toArray⟩) W := fun W => by rw [HN1.out]; exact run_string_add_lists W Da [46] (by omega) (by simp)
    have s2 : ∀ W, (Op.stringOp .add ⟨N1.toArray⟩ ⟨Db.toArray⟩).run Tryz.prog W = .ok (.string ⟨N2.toArray⟩) W := fun W => by rw [HN2.out]; exact run_string_add_lists W N1 Db (by omega) (by omega)
    have s3 : ∀ W, (Op.stringOp .add ⟨N2.toArray⟩ ⟨#[46]⟩).run Tryz.prog W = .ok (.string ⟨N3.toArray⟩) W := fun W => by rw [HN3.out]; exact run_string_add_lists W N2 [46] (by omega) (by simp)
    have s4 : ∀ W, (Op.stringOp .add ⟨N3.toArray⟩ ⟨Dc.toArray⟩).run Tryz.prog W = .ok (.string ⟨N4.toArray⟩) W := fun W => by rw [HN4.out]; exact run_string_add_lists W N3 Dc (by omega) (by omega)
    have HDT1 := Lib.hid (fun (W : World) (ht : Tab W) => (show Calls Tryz.prog 37 #[.int .i64 a] W fun e w' => e = .returned (.string ⟨Da.toArray⟩) ∧ Below W.heap.size W w' from HDa.out ▸ implDecText_any a (by omega) (by omega) W ht))
    have HDT2 := Lib.hid (fun (W : World) (ht : Tab W) => (show Calls Tryz.prog 37 #[.int .i64 b] W fun e w' => e = .returned (.string ⟨Db.toArray⟩) ∧ Below W.heap.size W w' from HDb.out ▸ implDecText_any b (by omega) (by omega) W ht))
    have HDT3 := Lib.hid (fun (W : World) (ht : Tab W) => (show Calls Tryz.prog 37 #[.int .i64 c] W fun e w' => e = .returned (.string ⟨Dc.toArray⟩) ∧ Below W.heap.size W w' from HDc.out ▸ implDecText_any c (by omega) (by omega) W ht))
    go_wp2_with fail
    go_region_held3 (fun W' => W'.cell? ⟨w.heap.size, 0, none⟩ = some (.int .i64 a) ∧ W'.cell? ⟨w.heap.size, 1, none⟩ = some (.int .i64 b) ∧ W'.cell? ⟨w.heap.size, 2, none⟩ = some (.int .i64 c) ∧ Tab W') (first | exact ⟨p0, p1, p2, tb⟩ | assumption | exact keepT hb5 (by assumption) | exact keepT hb4 (by assumption) | exact keepT hb3 (by assumption)) ((first | (go_at_call 37; (with_reducible refine (HDT1.out _ (by exact tb)).mono ?_); rintro e w3 ⟨rfl, hb3⟩; have tb3 := tab_below tb hb3) | (go_at_call 37; (with_reducible refine (HDT2.out _ (by exact tb3)).mono ?_); rintro e w4 ⟨rfl, hb4⟩; have tb4 := tab_below tb3 hb4) | (go_at_call 37; (with_reducible refine (HDT3.out _ (by exact tb4)).mono ?_); rintro e w5 ⟨rfl, hb5⟩)))
    have hA5 := keepB (keepB (keepB (W := w2.drew) hA2 hb3) hb4) hb5
    have BD := B2.trans (below_drew w.heap.size w2)
    have B3 := BD.trans (hb3.mono BD.size)
    have B4 := B3.trans (hb4.mono B3.size)
    have B5 := B4.trans (hb5.mono B4.size)
    clear hA2 p0 p1 p2 p3 hb3 hb4 hb5 BD B3 B4 tb tb3 tb4 s1 s2 s3 s4 B2
    obtain ⟨p0, p1, p2, p3⟩ := cells4 hA5
    rcases hform with ⟨rfl, rfl⟩ | ⟨g, cap, rfl, hgb, hgl⟩
    · have HE : Hid (verText a b c [] = N4) := Lib.hid (by rw [HT.out, HNN.out]; simp [preText])
      go_wp2_with fail
      go_ret
      exact ⟨ret_str HE.out.symm, B5⟩
    · by_cases h0 : ls = []
      · have HE : Hid (verText a b c ls = N4) := Lib.hid (by rw [HT.out, HNN.out, h0]; simp [preText])
        have z0 : ¬ (0 : Int) < (ls.length : Int) := by rw [h0]; simp
        clear h0
        go_wp2_with fail
        go_ret
        exact ⟨ret_str HE.out.symm, B5⟩
      · have hpos : (0 : Int) < (ls.length : Int) := by have : 0 < ls.length := by cases ls <;> simp_all
                                                        omega
        have HE : Hid (verText a b c ls = N4 ++ (45 :: Lib.join ls [46])) := Lib.hid (by rw [HT.out, HNN.out, join_pre h0])
        have hjl := join_len HLE.out h5
        clear h0
        obtain ⟨J, HJ⟩ : ∃ J, Hid (Lib.join ls [46] = J) := ⟨_, Lib.hid rfl⟩
        rw [HJ.out] at hjl
        go_wp2_with fail
        refine (joinDot_any w5 base g cap ls (HSS.out _ B5) HLE.out h5).mono ?_
        rw [HJ.out]
        rintro e w6 ⟨rfl, hb6⟩
        have B6 := B5.trans (hb6.mono B5.size)
        go_wp2_with fail
        go_ret
        refine ⟨?_, B6⟩
        rw [HE.out, HJ.out]
        exact congrArg Ending.returned (congrArg Value.string (bytes_ext (by simp)))
end Go.Proofs.YtjhkfokjfniniaaGreatDoor

/-
  impl.SortVersions: the versions of a list, in order, each once.
-/
namespace Go.Proofs.YtjhkfokjfniniaaGreatDoor
open Go.RowKit

theorem filter_take {ls : List (List UInt8)} {k : Nat} (h : k < ls.length) : (ls.take (k + 1)).filter readOk = (ls.take k).filter readOk ++ (if readOk ls[k] = true then [ls[k]] else []) := by
  rw [List.take_succ_eq_append_getElem h, List.filter_append]
  congr 1
  by_cases hk : readOk ls[k] = true
  · rw [if_pos hk]; simp [hk]
  · rw [if_neg hk]; simp [hk]
theorem readP_Sm' {l : List UInt8} (h : l.length ≤ 1048576) : Sm (readP l) := by
  unfold readP; split
  · exact tail_sm h
  · exact sm_nil

set_option maxRecDepth 100000 in
set_option maxHeartbeats 4000000 in
theorem implSortVersions_any (v : Value) (ls : List (List UInt8)) (w : World) (hr : RdS w v ls) (hs : Sm ls) (ht : Tab w) :
    Calls Tryz.prog 6 #[v] w fun e w' => ∃ g c out, e = .returned (.slice (some ⟨g, 0, none⟩) out.length c) ∧ Strs w' w.heap.size (.slice (some ⟨g, 0, none⟩) out.length c) out ∧ SortOf ls out ∧ Below w.heap.size w w' := by
  have HR := Lib.hid hr
  have HTB := Lib.hid (fun (W : World) (hb : Below w.heap.size w W) => tab_below ht hb)
  obtain ⟨A, ca, rfl, ha⟩ := hr
  have hn := hs.1
  have HS := Lib.hid hs.2
  clear ha hs ht
  have V0 : VerRow (w.alloc (.cells #[] 31)) w.heap.size (.slice (some ⟨w.heap.size, 0, none⟩) 0 0) [] := ⟨Vers.empty w _ (Nat.le_refl _), fun x hx => by cases hx⟩
  have B0 : Below w.heap.size w (w.alloc (.cells #[] 31)) := (Below.refl _ _).alloc (Nat.le_refl _) _
  go_enter Tryz.func6, Tryz.ntmps6
  go_wp2_with fail
  go_loopw [3, 5, 6, 7, 14] (fun o _ _ _ i wr => ∃ (k : Nat) (X : List VI) (g c : Nat), k ≤ ls.length ∧ i = .int .i64 k ∧ o = .slice (some ⟨g, 0, none⟩) X.length c ∧ VerRow wr w.heap.size (.slice (some ⟨g, 0, none⟩) X.length c) X ∧ Hid (X.map Prod.fst = (ls.take k).filter readOk) ∧ Below w.heap.size w wr) (fun _ _ _ _ i _ => ls.length - (intOf i).toNat)
  case atStart => exact ⟨0, [], _, _, Nat.zero_le _, rfl, rfl, V0, Lib.hid (by simp), B0⟩
  case round =>
    obtain ⟨k, X, g, c, hk, rfl, rfl, hX, HX, hb⟩ := hrel
    have lX : X.length ≤ k := by
      have := congrArg List.length HX.out
      rw [List.length_map] at this
      rw [this]
      exact Nat.le_trans (List.length_filter_le _ _) (by simp; omega)
    by_cases hlt : k < ls.length
    · have k0 : (0 : Int) ≤ (k : Int) := by omega
      have k1 : (k : Int) < (ls.length : Int) := by omega
      have HLK := Lib.hid (HS.out ls[k] (List.getElem_mem hlt))
      have HFT := Lib.hid (filter_take hlt)
      obtain ⟨A', ca', hv, ha⟩ := HR.out.below hb
      simp only [Value.slice.injEq] at hv
      obtain ⟨rfl, _, rfl⟩ := hv
      obtain ⟨gl, off, rfl, hgl, hca⟩ := ha (by omega)
      have d1 : wr.cell? ⟨gl, off + k, none⟩ = some (.string ⟨ls[k].toArray⟩) := hca k hlt
      obtain ⟨ok, HOK⟩ : ∃ z, Hid (readOk (⟨ls[k].toArray⟩ : ByteArray).data.toList = z) := ⟨_, Lib.hid rfl⟩
      obtain ⟨l0, HL0⟩ : ∃ z, Hid (readA (⟨ls[k].toArray⟩ : ByteArray).data.toList 0 = z) := ⟨_, Lib.hid rfl⟩
      obtain ⟨l1, HL1⟩ : ∃ z, Hid (readA (⟨ls[k].toArray⟩ : ByteArray).data.toList 1 = z) := ⟨_, Lib.hid rfl⟩
      obtain ⟨l2, HL2⟩ : ∃ z, Hid (readA (⟨ls[k].toArray⟩ : ByteArray).data.toList 2 = z) := ⟨_, Lib.hid rfl⟩
      clear ha hca V0 B0
      go_wp2_with fail
      refine (implReadVersion_any _ _ (by rw [size_of]; exact HLK.out)).mono ?_
      rintro e w1 ⟨u, rfl, hu, hb1⟩
      have HU : Hid (Strs w1 0 u (readP ls[k])) := Lib.hid (hu.weaken (Nat.zero_le _))
      obtain ⟨uA, uc, hue⟩ := hu.slice
      obtain ⟨m, HM⟩ : ∃ m, Hid ((readP (⟨ls[k].toArray⟩ : ByteArray).data.toList).length = m) := ⟨_, Lib.hid rfl⟩
      rw [HM.out] at hue
      subst hue
      rw [HOK.out, HL0.out, HL1.out, HL2.out]
      have B1 := hb.trans (hb1.mono hb.size)
      have hX1 := hX.below hb1
      clear hX hb1 hu d1
      have B2 := B1.alloc B1.size (.cells #[.int .i64 l0, .int .i64 l1, .int .i64 l2, .slice uA m uc] 31)
      have hX2 := hX1.below ((Below.refl w1.heap.size w1).alloc (Nat.le_refl _) (.cells #[.int .i64 l0, .int .i64 l1, .int .i64 l2, .slice uA m uc] 31))
      cases ok
      · have HX' : Hid (X.map Prod.fst = (ls.take (k + 1)).filter readOk) := Lib.hid (by rw [HFT.out, if_neg (fun h => by have e : readOk ls[k] = false := HOK.out; rw [h] at e; cases e), List.append_nil, HX.out])
        go_wp2_with fail
        go_roundw
        case rel => exact ⟨k + 1, X, g, c, by omega, by go_num, rfl, hX2, HX', B2⟩
        case measure => simp [intOf]; omega
      · have HX' : Hid ((X ++ [(ls[k], Value.slice uA m uc)]).map Prod.fst = (ls.take (k + 1)).filter readOk) := Lib.hid (by rw [HFT.out, if_pos (show readOk ls[k] = true from HOK.out), List.map_append, HX.out]; rfl)
        have B3 := B2.alloc B2.size (.cells #[.int .i64 l0, .int .i64 l1, .int .i64 l2, .slice uA m uc] 31)
        have hX3 := hX2.below ((Below.refl (w1.alloc (.cells #[.int .i64 l0, .int .i64 l1, .int .i64 l2, .slice uA m uc] 31)).heap.size _).alloc (Nat.le_refl _) (.cells #[.int .i64 l0, .int .i64 l1, .int .i64 l2, .slice uA m uc] 31))
        have hU3 := Strs.alloc (Strs.alloc HU.out (.cells #[.int .i64 l0, .int .i64 l1, .int .i64 l2, .slice uA m uc] 31)) (.cells #[.int .i64 l0, .int .i64 l1, .int .i64 l2, .slice uA m uc] 31)
        have h3 := heap_new (W := w1.alloc (.cells #[.int .i64 l0, .int .i64 l1, .int .i64 l2, .slice uA m uc] 31)) (n := w1.heap.size + 1) (by simp) (.cells #[.int .i64 l0, .int .i64 l1, .int .i64 l2, .slice uA m uc] 31)
        have hlX : (X.map cv).length = X.length := by simp
        have B3s := B3.size
        clear B1 B2 hX1 hX2
        go_wp2_with (at_builtin; refine wpList_append_ver rfl _ _ rfl w.heap.size _ _ rfl hX3.1 (w1.heap.size + 1) _ _ _ l0 l1 l2 (.slice uA m uc) rfl rfl h3 (by omega) B3s ?_; intro v4 w4 hV4 hg4)
        have hX4 : VerRow w4 w.heap.size v4 (X ++ [(ls[k], .slice uA m uc)]) := ⟨by
            have e : (X ++ [(ls[k], Value.slice uA m uc)]).map cv = X.map cv ++ [(l0, l1, l2, .slice uA m uc)] := by
              rw [List.map_append]
              show _ ++ [cv (ls[k], .slice uA m uc)] = _
              rw [← HL0.out, ← HL1.out, ← HL2.out]
              rfl
            rw [e]; exact hV4, fun x hx => by
            rcases List.mem_append.1 hx with hx | hx
            · exact (hX3.2 x hx).grownV hX3.1 hg4
            · simp at hx; subst hx; exact hU3.grownV hX3.1 hg4⟩
        have B4 : Below w.heap.size w w4 := Below.grown B3 hg4 B3s hX3.1.owned
        obtain ⟨g4, c4, hv4, _⟩ : ∃ g c, v4 = .slice (some ⟨g, 0, none⟩) (X ++ [(ls[k], Value.slice uA m uc)]).length c ∧ True := by
          rcases hX4.1.form with ⟨_, h⟩ | ⟨g, c, h, _⟩
          · simp at h
          · exact ⟨g, c, by simpa using h, trivial⟩
        subst hv4
        clear hX3 hU3 h3 B3 hV4 hg4
        go_wp2_with fail
        go_roundw
        case rel => exact ⟨k + 1, X ++ [(ls[k], .slice uA m uc)], g4, c4, by omega, by go_num, rfl, hX4, HX', B4⟩
        case measure => simp [intOf]; omega
    · have HXA : Hid (X.map Prod.fst = ls.filter readOk) := Lib.hid (by rw [HX.out, List.take_of_length_le (by omega)])
      have HMX : Hid (∀ x ∈ X, x.1 ∈ ls ∧ readOk x.1 = true) := Lib.hid (fun x hx => by
        have : x.1 ∈ X.map Prod.fst := List.mem_map.2 ⟨x, hx, rfl⟩
        rw [HXA.out] at this
        exact List.mem_filter.1 this)
      have HSX : Hid (∀ x ∈ X, Sm (readP x.1)) := Lib.hid (fun x hx => readP_Sm' (HS.out _ (HMX.out x hx).1))
      have hlX : X.length ≤ 1048576 := by omega
      obtain ⟨i0, hi, hz0, hz1, hz2⟩ := info_parts strinfo
      clear V0 B0
      go_wp2_with fail
      refine (sortFunc_any wr w.heap.size g c X hX hlX HSX.out).mono ?_
      rintro e w5 ⟨rfl, Y, hperm, hsort, hRV, hb5⟩
      have B5 := hb.trans hb5
      have hlY : Y.length = X.length := hperm.length_eq
      have HRV := Lib.hid hRV
      have HPM := Lib.hid hperm
      have HST := Lib.hid hsort
      clear hX hb hb5 hRV hperm hsort
      go_wp2_with (at_make; refine wpList_make_own _ rfl _ _ 24 rfl w5.heap.size 9 i0 (.string ⟨#[]⟩) 1 Tryz.underlying24 hi hz0 hz1 .i64 .i64 _ X.length rfl rfl rfl (by rw [hz2]; omega) (by unfold maxLen; omega) (Nat.le_refl _) ?_; intro w6 hown6 hg6)
      have hS6 : Strs w6 w5.heap.size (.slice (some ⟨w5.heap.size, 0, none⟩) 0 X.length) [] := hown6
      have hb6 : Below w5.heap.size w5 w6 := (Below.refl _ _).grown hg6 (Nat.le_refl _) (by simp)
      clear hown6 hg6 hi hz0 hz1 hz2
      go_loopw [8, 10, 36] (fun o _ i wr => ∃ k g2 c2 : Nat, k ≤ Y.length ∧ i = .int .i64 k ∧ o = .slice (some ⟨g2, 0, none⟩) k c2 ∧ Strs wr w5.heap.size (.slice (some ⟨g2, 0, none⟩) k c2) ((Y.take k).map Prod.fst) ∧ Below w5.heap.size w5 wr) (fun _ _ i _ => Y.length - (intOf i).toNat)
      case atStart => exact ⟨0, _, _, Nat.zero_le _, rfl, rfl, by simpa using hS6, hb6⟩
      case round =>
        obtain ⟨j, g2, c2, hj, rfl, rfl, hS, hb⟩ := hrel
        have B7 := B5.trans (hb.mono B5.size)
        have LM : Hid (((Y.take j).map Prod.fst).length = j) := Lib.hid (by simp; omega)
        by_cases hlt : j < Y.length
        · have k0 : (0 : Int) ≤ (j : Int) := by omega
          have k1 : (j : Int) < (X.length : Int) := by omega
          obtain ⟨A', c', hv, hcell⟩ := HRV.out.below hb
          simp only [Value.slice.injEq] at hv
          obtain ⟨rfl, -, rfl⟩ := hv
          obtain ⟨g', hA, hg', d0, d1, d2, d3, hSt⟩ := hcell j hlt
          simp only [Option.some.injEq, Addr.mk.injEq, and_true] at hA
          subst hA
          obtain ⟨uA, uc, hue⟩ := hSt.slice
          have HMY := HMX.out Y[j] (HPM.out.mem_iff.1 (List.getElem_mem hlt))
          have HVT : Hid (verText (readA Y[j].1 0) (readA Y[j].1 1) (readA Y[j].1 2) (readP Y[j].1) = Y[j].1) := Lib.hid (vt_text HMY.2)
          have HSY : Hid (Sm (readP Y[j].1)) := Lib.hid (readP_Sm' (HS.out _ HMY.1))
          have HN : Hid ((Y.take j).map Prod.fst ++ [Y[j].1] = (Y.take (j + 1)).map Prod.fst) := Lib.hid (by rw [List.take_succ_eq_append_getElem hlt, List.map_append]; rfl)
          rw [hue] at d3 hSt
          obtain ⟨m, HM⟩ : ∃ m, Hid ((readP Y[j].1).length = m) := ⟨_, Lib.hid rfl⟩
          rw [HM.out] at d3 hSt
          obtain ⟨l0, HL0⟩ : ∃ z, Hid (readA Y[j].1 0 = z) := ⟨_, Lib.hid rfl⟩
          obtain ⟨l1, HL1⟩ : ∃ z, Hid (readA Y[j].1 1 = z) := ⟨_, Lib.hid rfl⟩
          obtain ⟨l2, HL2⟩ : ∃ z, Hid (readA Y[j].1 2 = z) := ⟨_, Lib.hid rfl⟩
          rw [HL0.out] at d0
          rw [HL1.out] at d1
          rw [HL2.out] at d2
          have HV2 : Hid (verText l0 l1 l2 (readP Y[j].1) = Y[j].1) := Lib.hid (by rw [← HL0.out, ← HL1.out, ← HL2.out]; exact HVT.out)
          have B8 := B7.alloc B7.size (.cells #[.int .i64 l0, .int .i64 l1, .int .i64 l2, .slice uA m uc] 31)
          have b8 := hb.alloc hb.size (.cells #[.int .i64 l0, .int .i64 l1, .int .i64 l2, .slice uA m uc] 31)
          have hS8 := hS.alloc (.cells #[.int .i64 l0, .int .i64 l1, .int .i64 l2, .slice uA m uc] 31)
          have hU8 := hSt.alloc (.cells #[.int .i64 l0, .int .i64 l1, .int .i64 l2, .slice uA m uc] 31)
          have hT8 := HTB.out _ B8
          clear hcell hue HMY hS6 hb6
          go_wp2_with fail
          refine (implVersionText_any l0 l1 l2 0 _ (readP Y[j].1) _ hU8 HSY.out hT8).mono ?_
          rw [HV2.out]
          rintro e w9 ⟨rfl, hb9⟩
          have hS9 := hS8.below hb9
          have b9 := b8.trans (hb9.mono b8.size)
          clear hS8 hb9 d0 d1 d2 d3 hSt hU8 hT8 b8 B8 hS
          have HLE : Hid (((Y.take j).map Prod.fst).length + 1 ≤ 16777216) := Lib.hid (by rw [LM.out]; omega)
          have HBE : Hid (w5.heap.size ≤ (w9.alloc (.cells #[sv Y[j].1] 9)).heap.size) := Lib.hid (by simp; exact Nat.le_succ_of_le b9.size)
          go_wp2_with (at_builtin; refine wpList_append_strs rfl _ _ rfl w5.heap.size _ _ rfl (hS9.alloc _) (Y[j].1) w9.heap.size _ _ _ rfl (heap_alloc_new w9 _) HLE.out HBE.out ?_; intro g3 c3 w10 hown10 hb10)
          have b10 := b9.trans (((Below.refl w5.heap.size w9).alloc b9.size _).trans hb10)
          rw [LM.out] at hown10
          go_wp2_with fail
          go_roundw
          case rel => exact ⟨j + 1, g3, c3, by omega, by go_num, by rw [show min j X.length = j by omega], by rw [← HN.out]; exact hown10, b10⟩
          case measure => simp [intOf]; omega
        · have hSe : Strs wr w5.heap.size (.slice (some ⟨g2, 0, none⟩) (Y.map Prod.fst).length c2) (Y.map Prod.fst) := by
            have : j = Y.length := by omega
            subst this
            rw [List.take_length] at hS
            rw [List.length_map]
            exact hS
          have hjl : j = (Y.map Prod.fst).length := by simp; omega
          have HSO : Hid (SortOf ls (Lib.compact (Y.map Prod.fst))) := Lib.hid (sortOf_compact (fun t => by
              have : t ∈ Y.map Prod.fst ↔ t ∈ X.map Prod.fst := (HPM.out.map Prod.fst).mem_iff
              rw [this, HXA.out, List.mem_filter]) (fun a b hab hbl => by
              simp only [List.getElem_map]
              exact HST.out a b hab (by simpa using hbl)))
          have hml : (Y.map Prod.fst).length ≤ 1048576 := by simp; omega
          have k1 : ¬ (j : Int) < (X.length : Int) := by omega
          have HCA := compact_any wr w5.heap.size g2 c2 (Y.map Prod.fst) hSe hml
          rw [← hjl] at HCA
          have HCB := Lib.hid HCA
          clear hjl hSe hml hS6 hb6 hS HCA
          go_wp2_with fail
          refine HCB.out.mono ?_
          rintro e w7 ⟨g3, c3, rfl, hS7, hb7⟩
          have B9 := B7.trans (hb7.mono B5.size)
          go_wp2_with fail
          go_ret
          exact ⟨g3, c3, _, rfl, hS7.weaken B5.size, HSO.out, B9⟩
end Go.Proofs.YtjhkfokjfniniaaGreatDoor

/-
  impl.Newest: the last of the sorted versions without a dash, else the last.
-/
namespace Go.Proofs.YtjhkfokjfniniaaGreatDoor
open Go.RowKit Go.Shelf
attribute [local go_sem] Oper.semAt_some

def lastP (pre : List BE) : List UInt8 := (pre.getLast?.map (fun x => x.2.1)).getD []
def stops (pre : List BE) : Prop := ∃ p x, pre = p ++ [x] ∧ (∀ y ∈ p, stb y.2.1 = false) ∧ stb x.2.1 = true
theorem lastSt_stop {T : List Part} {pre : List BE} (h : pre <+: bk T) (hs : stops pre) : lastSt (T.map Subtype.val) = lastP pre := by
  obtain ⟨p, x, rfl, hp, hx⟩ := hs
  obtain ⟨t, ht⟩ := h
  have e := bk_snd T
  rw [← ht] at e
  refine (lastSt_at (p := p.map (fun y => y.2.1)) (x := x.2.1) (t := t.map (fun y => y.2.1)) ?_ ?_ hx).trans (by simp [lastP])
  · rw [← List.map_reverse, ← e]
    simp
    rfl
  · intro y hy
    obtain ⟨z, hz, rfl⟩ := List.mem_map.1 hy
    exact hp z hz
theorem lastSt_all {T : List Part} (h : ∀ y ∈ bk T, stb y.2.1 = false) : lastSt (T.map Subtype.val) = [] := by
  refine lastSt_none (fun x hx => ?_)
  obtain ⟨z, hz, rfl⟩ := List.mem_map.1 hx
  have : z ∈ (bk T).map (fun y => y.2) := by rw [bk_snd]; simpa using hz
  obtain ⟨y, hy, rfl⟩ := List.mem_map.1 this
  exact h y hy

set_option maxRecDepth 100000 in
set_option maxHeartbeats 4000000 in
theorem implNewest_in (n : Nat) (hn : 4 ≤ n) (v : Value) (ls : List (List UInt8)) (w : World) (hr : RdS w v ls) (hs : Sm ls) (ht : Tab w) :
    CallsIn Fence.wide n Tryz.prog 8 #[v] w fun e W' => ∃ out, e = .returned (.string ⟨(newestL out).toArray⟩) ∧ SortOf ls out ∧ Below w.heap.size w W' := by
  have h1 : 1 ≤ n := by omega
  have hn2 : 1 ≤ n - 1 - 1 := by omega
  have B0 : Below w.heap.size w (w.alloc (.cells #[.string ⟨#[]⟩] 9)) := (Below.refl _ _).alloc (Nat.le_refl _) _
  have HIM := Lib.hid (implSortVersions_any v ls (w.alloc (.cells #[.string ⟨#[]⟩] 9)) (hr.below ((Below.refl _ _).alloc (Nat.le_refl _) _)) hs (tab_below ht B0))
  have HS := Lib.hid hs
  have b1 := Boxed.new w 9 (.string ⟨#[]⟩)
  clear hr hs ht
  refine callsIn_of_wp_marks Tryz.func8 rfl trivial ?_ rfl
  simp only [Tryz.ntmps8, List.size_toArray, List.length_cons, List.length_nil, Nat.reduceAdd, Nat.reduceSub, Array.replicate_succ, Array.replicate_zero, List.push_toArray, List.append_toArray, List.nil_append, List.cons_append]
  gi_wp2_with (refine ⟨trivial, ?_⟩; gi_at_call 6; refine (callsIn_wide.2 HIM.out).mono ?_; rintro e w1 ⟨g, c, out, rfl, S0, hSO, hb1⟩)
  have lo := sortOf_len hSO
  obtain ⟨T, HT⟩ : ∃ T : List Part, Hid (T.map Subtype.val = out) := by
    obtain ⟨T, hT⟩ := parts_of out (fun l hl => HS.out.2 l ((hSO.2 l).1 hl).1)
    exact ⟨T, Lib.hid hT⟩
  have hlT : T.length = out.length := by rw [← HT.out]; simp
  have hn3 := HS.out.1
  obtain ⟨cur, hh, hcur⟩ : ∃ cur, w1.heap[g]? = some (.cells cur 9 (0, 0)) ∧ ∀ k (h : k < T.length), cur[k]? = some (sv T[k].1) := by
    rcases id S0.2 with ⟨hv, _⟩ | ⟨g', cap', cur, hv, _, hh, _⟩
    · cases hv
    · simp only [Value.slice.injEq, Option.some.injEq, Addr.mk.injEq, and_true] at hv
      obtain ⟨rfl, _⟩ := hv
      refine ⟨cur, hh, fun k hk => ?_⟩
      have := S0.cell k (by omega)
      simp only [World.cell?, hh] at this
      have e : out[k]'(by omega) = T[k].1 := by simp [← HT.out]
      rw [e] at this
      exact this
  have B1 := B0.trans (hb1.mono (by simp))
  have b2 := (show w1.heap[w.heap.size]? = _ from keepB b1 hb1)
  have glt := lt_of_heap hh
  have HSO := Lib.hid hSO
  have hc0 := S0.cell
  clear hb1 hSO S0 B0
  rw [← hlT]
  have HLT := Lib.hid hlT
  have hT20 : T.length ≤ 1048576 := by omega
  clear hlT
  gi_wp2_with (refine ⟨trivial, ?_⟩; gi_at_call 20; refine (backward_in _ _ _ _ _).mono ?_; rintro e w2 ⟨rfl, rfl⟩)
  have b3 := Boxed.new w1 24 (.slice (some ⟨g, 0, none⟩) T.length c)
  have b2' := (show Boxed _ w.heap.size 9 (.string ⟨#[]⟩) from keepA b2 (.cells #[.slice (some ⟨g, 0, none⟩) T.length c] 24))
  have hh' := keepA hh (.cells #[.slice (some ⟨g, 0, none⟩) T.length c] 24)
  have B2 := B1.alloc B1.size (.cells #[.slice (some ⟨g, 0, none⟩) T.length c] 24)
  have hsz : (w1.alloc (.cells #[.slice (some ⟨g, 0, none⟩) T.length c] 24)).heap.size = w1.heap.size + 1 := by simp
  have wlt : w.heap.size < w1.heap.size := lt_of_heap b2
  clear b2 hh B1
  obtain ⟨W0, hW0⟩ : ∃ W0, (w1.alloc (.cells #[.slice (some ⟨g, 0, none⟩) T.length c] 24)) = W0 := ⟨_, rfl⟩
  rw [hW0] at b3 b2' hh' B2 hsz ⊢
  have HSZ := Lib.hid hsz
  have HBW := Lib.hid B2
  have HHG := Lib.hid hh'
  have HB2 := Lib.hid b2'
  clear hW0 hsz
  refine wpIn_rangeFunc_ownF rfl h1 (gf := 39) (lb := #[.pointer (some ⟨w1.heap.size, 0, none⟩)]) rfl trivial (enters_of Tryz.func39 (by kernel_rfl) rfl)
    (back_stops (n - 1) (by omega) w1.heap.size g c T cur hT20 hcur W0 (by rw [HSZ.out]; omega) (by rw [HSZ.out]; omega) b3 hh') kpB_t (kpB_b (by rw [HSZ.out]; omega) (by rw [HSZ.out]; omega)) (Below.refl _ _) (fun _ => rfl)
    (fun pre W => (∀ y ∈ pre, stb y.2.1 = false) ∧ Below W0.heap.size W0 W)
    (fun c pre W => ((c = .ret ∧ stops pre) ∧ Boxed W w.heap.size 9 (.string ⟨(lastP pre).toArray⟩)) ∧ Below w.heap.size w W)
    (OwnFrom.and (ownFrom_pure _ _) (ownFrom_below (Nat.le_refl _) (Nat.le_refl _)))
    (fun c => OwnFrom.and (OwnFrom.and (ownFrom_pure _ _) (Own.from (boxed_own _ _ _) _)) (ownFrom_below (Nat.le_refl _) (by rw [HSZ.out]; omega)))
    ⟨fun y hy => absurd hy (by simp), Below.refl _ _⟩
    (fun x => { tmps := #[v, undef, .pointer (some ⟨w.heap.size, 0, none⟩), .slice (some ⟨g, 0, none⟩) T.length c, undef, .string ⟨x.2.1.toArray⟩, v, .slice (some ⟨g, 0, none⟩) T.length c, .slice (some ⟨g, 0, none⟩) T.length c, .func (.func 39) #[] #[.pointer (some ⟨w1.heap.size, 0, none⟩)], .int .i64 (x.1 : Int), .string ⟨x.2.1.toArray⟩, undef, undef, undef, undef, undef, undef, undef, undef, undef, undef, undef, undef, undef], defers := [] }) ?assign ?body ?done ?stop
  case assign =>
    intro l x W K hK
    unfold bkV
    gi_wp2
    exact hK
  case body =>
    rintro l pre x W ⟨hp, hB⟩ _
    have HP := Lib.hid hp
    have hR := (show Boxed W w.heap.size 9 (.string ⟨#[]⟩) from keepB HB2.out hB)
    have cR := hR.cell
    have fR := hR.frozen
    obtain ⟨b, hbE⟩ : ∃ b : ByteArray, b = ⟨x.2.1.toArray⟩ := ⟨_, rfl⟩
    have HBL : Hid (b.data.toList = x.2.1) := Lib.hid (by rw [hbE])
    have hbs : b.size ≤ 1048576 := by rw [hbE]; show x.2.1.toArray.size ≤ _; simpa using x.2.2
    rw [← hbE]
    have HBE : Hid (b = ⟨x.2.1.toArray⟩) := Lib.hid hbE
    clear hbE hp
    obtain ⟨s, HSB⟩ : ∃ s, Hid (stb b.data.toList = s) := ⟨_, Lib.hid rfl⟩
    cases s
    · have HPN : Hid (∀ y ∈ pre ++ [x], stb y.2.1 = false) := Lib.hid (fun y hy => by
        rcases List.mem_append.1 hy with h | h
        · exact HP.out y h
        · simp at h; subst h; rw [← HBL.out]; exact HSB.out)
      gi_wp2_with (refine ⟨trivial, ?_⟩; gi_at_call 21; refine (CallsIn.inRound l (callsIn_wide.2 (contains_dash b _ hbs))).mono ?_; rw [HSB.out]; rintro e w' ⟨rfl, rfl⟩)
      exact ⟨KeepsOthers.refl _, KpB.refl _ _ _, HPN.out, hB⟩
    · have HST : Hid (stops (pre ++ [x])) := Lib.hid ⟨pre, x, rfl, HP.out, by rw [← HBL.out]; exact HSB.out⟩
      have HLP : Hid (lastP (pre ++ [x]) = x.2.1) := Lib.hid (by simp [lastP])
      gi_wp2_with (refine ⟨trivial, ?_⟩; gi_at_call 21; refine (CallsIn.inRound l (callsIn_wide.2 (contains_dash b _ hbs))).mono ?_; rw [HSB.out]; rintro e w' ⟨rfl, rfl⟩)
      exact ⟨KeepsOthers.setCell _ _ _, ⟨⟨rfl, HST.out⟩, by rw [HLP.out, ← HBE.out]; exact hR.set _⟩, (HBW.out.trans (hB.mono (by rw [HSZ.out]; omega))).setCell (p := ⟨w.heap.size, 0, none⟩) (by simp) _⟩
  case done =>
    rintro D ys W hD hys ⟨hp, hB⟩ hK
    subst hys
    have HNS : Hid (lastSt out = []) := Lib.hid (by rw [← HT.out]; exact lastSt_all hp)
    have hR := (show Boxed W w.heap.size 9 (.string ⟨#[]⟩) from keepB HB2.out hB)
    have cR := hR.cell
    have fR := hR.frozen
    have hWB := HBW.out.trans (hB.mono (by rw [HSZ.out]; omega))
    have hDw : w.heap.size ≤ D := by have := HSZ.out; omega
    have hgW := keepB HHG.out hB
    clear hp
    by_cases h0 : T.length = 0
    · have q0 : ((T.length : Int) == 0) = true := by simp [h0]
      have HN : Hid (newestL out = []) := Lib.hid (by
        have : out = [] := List.length_eq_zero_iff.1 (by rw [← HLT.out]; exact h0)
        rw [this]; rfl)
      gi_wp2
      have hK' := (KeepsOthers.setCell W ⟨w.heap.size, 0, none⟩ (.string ⟨#[]⟩)).same D _ hK rfl
      refine ⟨by simp, .inl ⟨_, _, rfl, run_takeDeferred hK', ?_⟩⟩
      have hc5 := cell_kept (hR.set (.string ⟨#[]⟩)).cell (grownBy_putObj' _ D (.deferred none)) (fun r e => by cases e; exact ⟨_, hK', rfl⟩)
      refine ⟨.string ⟨#[]⟩, ?_, out, by rw [HN.out], HSO.out, (hWB.setCell (p := ⟨w.heap.size, 0, none⟩) (by simp) _).trans (belowK_b (w := w) (Nat.le_refl _) _ D _ _ hDw hK' rfl rfl)⟩
      simp [results, Tryz.f8, go_sem, hc5]
    · have q0 : ((T.length : Int) == 0) = false := int_beq_false (by omega)
      obtain ⟨m, hm⟩ : ∃ m : Nat, T.length = m + 1 := ⟨T.length - 1, by omega⟩
      have hmT : m < T.length := by omega
      have d1 : W.cell? ⟨g, m, none⟩ = some (.string ⟨T[m].1.toArray⟩) := by have := hcur m hmT; simp [World.cell?, hgW, this, sv]
      have e1 : (T.length : Int) - 1 = (m : Int) := by omega
      have HN : Hid (newestL out = T[m].1) := Lib.hid (by
        have hl := HLT.out
        rw [newest_none HNS.out (by omega), lastD_get (by omega)]
        simp only [← HT.out, List.length_map, List.getElem_map, hm, Nat.add_sub_cancel])
      have k0 : (0 : Int) ≤ (m : Int) := by omega
      have k1 : (m : Int) < (T.length : Int) := by omega
      clear h0 hm
      gi_wp2
      have hK' := (KeepsOthers.setCell W ⟨w.heap.size, 0, none⟩ (.string ⟨T[m].1.toArray⟩)).same D _ hK rfl
      refine ⟨by simp, .inl ⟨_, _, rfl, run_takeDeferred hK', ?_⟩⟩
      have hc5 := cell_kept (hR.set (.string ⟨T[m].1.toArray⟩)).cell (grownBy_putObj' _ D (.deferred none)) (fun r e => by cases e; exact ⟨_, hK', rfl⟩)
      refine ⟨.string ⟨T[m].1.toArray⟩, ?_, out, by rw [HN.out], HSO.out, (hWB.setCell (p := ⟨w.heap.size, 0, none⟩) (by simp) _).trans (belowK_b (w := w) (Nat.le_refl _) _ D _ _ hDw hK' rfl rfl)⟩
      simp [results, Tryz.f8, go_sem, hc5]
  case stop =>
    rintro D c pre W hD hpre ⟨⟨⟨rfl, hst⟩, hR⟩, hB⟩ hK
    have HLS : Hid (lastSt out = lastP pre) := Lib.hid (by rw [← HT.out]; exact lastSt_stop hpre hst)
    have HNE : Hid (lastP pre ≠ []) := Lib.hid (by
      obtain ⟨p, x, rfl, _, _⟩ := hst
      obtain ⟨t, ht⟩ := hpre
      have hm : x ∈ bk T := by rw [← ht]; simp
      have hx : x.2.1 ∈ out := by
        rw [← HT.out]
        have : x.2 ∈ (bk T).map (fun y => y.2) := List.mem_map.2 ⟨x, hm, rfl⟩
        rw [bk_snd] at this
        exact List.mem_map.2 ⟨x.2, by simpa using this, rfl⟩
      have := readOk_ne ((HSO.out.2 _).1 hx).2
      simpa [lastP] using this)
    have HN : Hid (newestL out = lastP pre) := Lib.hid (newest_some HLS.out HNE.out)
    have hDw : w.heap.size ≤ D := by have := HSZ.out; omega
    clear hst hpre
    gi_wp2
    refine ⟨by simp, .inl ⟨_, _, rfl, run_takeDeferred hK, ?_⟩⟩
    have hc5 := cell_kept hR.cell (grownBy_putObj' _ D (.deferred none)) (fun r e => by cases e; exact ⟨_, hK, rfl⟩)
    refine ⟨.string ⟨(lastP pre).toArray⟩, ?_, out, by rw [HN.out], HSO.out, hB.trans (belowK_b (w := w) (Nat.le_refl _) _ D _ _ hDw hK rfl rfl)⟩
    simp [results, Tryz.f8, go_sem, hc5]

theorem implNewest_any (v : Value) (ls : List (List UInt8)) (w : World) (hr : RdS w v ls) (hs : Sm ls) (ht : Tab w) :
    Calls Tryz.prog 8 #[v] w fun e W' => ∃ out, e = .returned (.string ⟨(newestL out).toArray⟩) ∧ SortOf ls out ∧ Below w.heap.size w W' :=
  (callsIn_wide (n := 4)).1 (implNewest_in 4 (by omega) v ls w hr hs ht)
end Go.Proofs.YtjhkfokjfniniaaGreatDoor

/-
  spec.Newest: the last of the sorted versions without a dash, else the last.
-/
namespace Go.Proofs.YtjhkfokjfniniaaGreatDoor
open Go.RowKit

set_option maxRecDepth 100000 in
set_option maxHeartbeats 4000000 in
theorem specNewest_any (v : Value) (ls : List (List UInt8)) (w : World) (hr : RdS w v ls) (hs : Sm ls) :
    Calls Tryz.prog 11 #[v] w fun e w' => ∃ out, e = .returned (.string ⟨(newestL out).toArray⟩) ∧ SortOf ls out ∧ Below w.heap.size w w' := by
  have HS := Lib.hid hs
  have hn := hs.1
  have HC := Lib.hid (specSortVersions_any v ls w hr hs)
  clear hr hs
  go_enter Tryz.func11, Tryz.ntmps11
  go_wp2_with fail
  refine HC.out.mono ?_
  rintro e w1 ⟨u, out, rfl, S0, hSO, hb1⟩
  have lo := sortOf_len hSO
  have HSZ : Hid (∀ l ∈ out, l.length ≤ 1048576) := Lib.hid (fun l hl => HS.out.2 l ((hSO.2 l).1 hl).1)
  have HSO := Lib.hid hSO
  have HRD := Lib.hid (RdS.of_strs S0)
  obtain ⟨uA, uc, rfl⟩ := S0.slice
  clear hSO S0 HC
  go_wp2_with fail
  go_loopw [4, 5] (fun b i wr => ∃ (k : Nat), k ≤ out.length ∧ i = .int .i64 k ∧ b = .string ⟨(lastSt (out.take k)).toArray⟩ ∧ wr = w1) (fun _ i _ => out.length - (intOf i).toNat)
  case atStart => exact ⟨0, Nat.zero_le _, rfl, rfl, rfl⟩
  case round =>
    obtain ⟨k, hk, rfl, rfl, rfl⟩ := hrel
    by_cases hlt : k < out.length
    · have k0 : (0 : Int) ≤ (k : Int) := by omega
      have k1 : (k : Int) < (out.length : Int) := by omega
      have HLK := Lib.hid (HSZ.out out[k] (List.getElem_mem hlt))
      have HLT := Lib.hid (lastSt_take hlt)
      have HLM : Hid ((⟨out[k].toArray⟩ : ByteArray).size ≤ maxLen) := Lib.hid (by rw [size_of]; have := HLK.out; unfold maxLen; omega)
      obtain ⟨A', ca', hv, ha⟩ := HRD.out
      simp only [Value.slice.injEq] at hv
      obtain ⟨rfl, _, rfl⟩ := hv
      obtain ⟨gl, off, rfl, hgl, hca⟩ := ha (by omega)
      have d1 : wr.cell? ⟨gl, off + k, none⟩ = some (.string ⟨out[k].toArray⟩) := hca k hlt
      obtain ⟨d, HD⟩ : ∃ d, Hid (Lib.indexByte (⟨out[k].toArray⟩ : ByteArray).data.toList 45 = d) := ⟨_, Lib.hid rfl⟩
      clear ha hca
      go_wp2_with fail
      refine (l01At_any _ 45 _ HLM.out).mono ?_
      rw [HD.out]
      rintro e w2 ⟨rfl, rfl⟩
      by_cases hd : d < 0
      · have HN : Hid (lastSt (out.take (k + 1)) = out[k]) := Lib.hid (by rw [HLT.out, if_pos]; unfold stb dash; have e : Lib.indexByte out[k] 45 = d := HD.out; rw [e]; simpa using hd)
        go_wp2_with fail
        go_roundw
        case rel => exact ⟨k + 1, by omega, by go_num, by rw [HN.out], trivial⟩
        case measure => simp [intOf]; omega
      · have HN : Hid (lastSt (out.take (k + 1)) = lastSt (out.take k)) := Lib.hid (by rw [HLT.out, if_neg]; unfold stb dash; have e : Lib.indexByte out[k] 45 = d := HD.out; rw [e]; simpa using hd)
        go_wp2_with fail
        go_roundw
        case rel => exact ⟨k + 1, by omega, by go_num, by rw [HN.out], trivial⟩
        case measure => simp [intOf]; omega
    · have HX : Hid (lastSt (out.take k) = lastSt out) := Lib.hid (by rw [List.take_of_length_le (by omega)])
      rw [HX.out]
      obtain ⟨z, HZ⟩ : ∃ z, Hid (lastSt out = z) := ⟨_, Lib.hid rfl⟩
      rw [HZ.out]
      by_cases hz : z = []
      · by_cases h0 : 0 < out.length
        · have q0 : (0 : Int) < (out.length : Int) := by omega
          have q1 : ((⟨z.toArray⟩ : ByteArray).toList == []) = true := by rw [hz, ByteArray.toList_eq]; rfl
          obtain ⟨m, hm⟩ : ∃ m : Nat, out.length = m + 1 := ⟨out.length - 1, by omega⟩
          have hmo : m < out.length := by omega
          have HN : Hid (newestL out = out[m]) := Lib.hid (by rw [newest_none (HZ.out.trans hz) h0, lastD_get h0]; simp only [hm, Nat.add_sub_cancel])
          obtain ⟨A', ca', hv, ha⟩ := HRD.out
          simp only [Value.slice.injEq] at hv
          obtain ⟨rfl, _, rfl⟩ := hv
          obtain ⟨gl, off, rfl, hgl, hca⟩ := ha (by omega)
          have d1 : wr.cell? ⟨gl, off + m, none⟩ = some (.string ⟨out[m].toArray⟩) := hca m hmo
          have e1 : (out.length : Int) - 1 = (m : Int) := by omega
          have k0 : (0 : Int) ≤ (m : Int) := by omega
          have k1 : (m : Int) < (out.length : Int) := by omega
          have k2 : ¬ (k : Int) < (out.length : Int) := by omega
          clear ha hca h0 hm
          go_wp2_with fail
          go_ret
          exact ⟨out, by rw [HN.out]; rfl, HSO.out, hb1⟩
        · have q0 : ¬ (0 : Int) < (out.length : Int) := by omega
          have q1 : ((⟨z.toArray⟩ : ByteArray).toList == []) = true := by rw [hz, ByteArray.toList_eq]; rfl
          have HN : Hid (newestL out = []) := Lib.hid (by unfold newestL; rw [if_neg (fun h => h0 h.2), HZ.out, hz])
          have k2 : ¬ (k : Int) < (out.length : Int) := by omega
          go_wp2_with fail
          go_ret
          exact ⟨out, by rw [HN.out]; rfl, HSO.out, hb1⟩
      · have q1 : ((⟨z.toArray⟩ : ByteArray).toList == []) = false := by rw [ByteArray.toList_eq]; simpa using hz
        have HN : Hid (newestL out = z) := Lib.hid (newest_some HZ.out hz)
        have k2 : ¬ (k : Int) < (out.length : Int) := by omega
        go_wp2_with fail
        go_ret
        exact ⟨out, by rw [HN.out]; rfl, HSO.out, hb1⟩
end Go.Proofs.YtjhkfokjfniniaaGreatDoor

/-
  A right version's text and a list of texts drawn: l02Right, l02List.
-/
namespace Go.Proofs.YtjhkfokjfniniaaGreatDoor
open Go.RowKit

theorem verText_len (a b c : Int) (ls : List (List UInt8)) : (verText a b c ls).length ≤ 1000 := by
  unfold verText
  split
  · rename_i h
    have hn := verOk_num h
    have hl := preText_len (verOk_len h) ls.length (Nat.le_refl _)
    rw [List.take_length] at hl
    have ha := dec_len hn.1.1 hn.1.2
    have hb := dec_len hn.2.1.1 hn.2.1.2
    have hc := dec_len hn.2.2.1.1 hn.2.2.1.2
    have h5 := hn.2.2.2
    simp [verTextOf]
    omega
  · simp

set_option maxRecDepth 100000 in
set_option maxHeartbeats 2000000 in
theorem l02Right_any (p : Nat) (w : World) (N : Nat) (h : CurAt w N p) :
    Calls Tryz.prog 34 #[.pointer (some ⟨p, 0, none⟩)] w fun e w' => ∃ x : List UInt8, e = .returned (.string ⟨x.toArray⟩) ∧ x.length ≤ 1000 ∧ CurAt w' N p ∧ w.grownBy w' (some p) := by
  have HV := Lib.hid (l02Version_any p w N h)
  clear h
  go_enter Tryz.func34, Tryz.ntmps34
  go_wp2_with fail
  refine HV.out.mono ?_
  rintro e w1 ⟨a, b, c, u, L, rfl, hS, hL, hLx, hC, hG⟩
  have HSM : Hid (Sm L) := Lib.hid ⟨by omega, fun l hl => by have := hLx l hl; omega⟩
  have HVL := Lib.hid (verText_len a b c L)
  go_wp2_with fail
  refine (specVersionText_any a b c u L _ (RdS.of_strs hS) HSM.out).mono ?_
  obtain ⟨x, HX⟩ : ∃ x, Hid (verText a b c L = x) := ⟨_, Lib.hid rfl⟩
  rw [HX.out]
  rw [HX.out] at HVL
  rintro e w2 ⟨rfl, hb2⟩
  have hC2 := hC.below hb2
  have G2 := gr_trans hG (gr_below hb2)
  clear hC hG hb2 hS hLx
  by_cases hx : x = []
  · have q1 : ((⟨x.toArray⟩ : ByteArray).toList == []) = true := by rw [hx, ByteArray.toList_eq]; rfl
    have q2 : x.isEmpty = true := by rw [hx]; rfl
    clear hx
    go_wp2_with fail
    go_ret
    exact ⟨[49, 46, 48, 46, 48], rfl, by simp, hC2, G2⟩
  · have q1 : ((⟨x.toArray⟩ : ByteArray).toList == []) = false := by rw [ByteArray.toList_eq]; simpa using hx
    have q2 : x.isEmpty = false := by simpa using hx
    clear hx
    go_wp2_with fail
    go_ret
    exact ⟨x, rfl, HVL.out, hC2, G2⟩

set_option maxRecDepth 100000 in
set_option maxHeartbeats 2000000 in
theorem l02List_any (p : Nat) (w : World) (N : Nat) (h : CurAt w N p) :
    Calls Tryz.prog 15 #[.pointer (some ⟨p, 0, none⟩)] w fun e w' => ∃ (g c : Nat) (out : List (List UInt8)), e = .returned (.slice (some ⟨g, 0, none⟩) out.length c) ∧ Strs w' w.heap.size (.slice (some ⟨g, 0, none⟩) out.length c) out ∧ out.length ≤ 5 ∧ (∀ x ∈ out, x.length ≤ 1001) ∧ CurAt w' N p ∧ w.grownBy w' (some p) := by
  have hpl := h.lt
  have hN := h.1
  have C0 := h.alloc (.cells #[] 9)
  have G0 := gr_alloc w (.cells #[] 9) (some p)
  have S0 := Strs.empty w w.heap.size (Nat.le_refl _)
  have HB := Lib.hid (fun (W : World) (n : Int) (hC : CurAt W N p) (hn : n ≤ 2147483648) => l01Below_any p n W N hC hn)
  have HRT := Lib.hid (fun (W : World) (hC : CurAt W N p) => l02Right_any p W N hC)
  have HBT := Lib.hid (fun (W : World) (s : ByteArray) (hC : CurAt W N p) (hs : s.size ≤ 1000000) => l01Bent_any p s W N hC hs)
  clear h
  go_enter Tryz.func15, Tryz.ntmps15
  go_wp2_with fail
  refine (HB.out _ _ C0 (by omega)).mono ?_
  rintro e w1 ⟨n, rfl, hn, _, C1, g1⟩
  have hn6 : n ≤ 5 := by have := hn (by omega); omega
  have S1 := S0.grown g1 (fun g hg e => by simp [Value.ownBlock] at hg; cases e; omega)
  have G1 := gr_trans G0 g1
  clear C0 G0 S0 g1 hn
  go_wp2_with fail
  go_loopw [3, 5] (fun o i wr => ∃ (k g c : Nat) (out : List (List UInt8)), k ≤ n ∧ i = .int .i64 k ∧ o = .slice (some ⟨g, 0, none⟩) out.length c ∧ Strs wr w.heap.size (.slice (some ⟨g, 0, none⟩) out.length c) out ∧ Hid (out.length = k) ∧ Hid (∀ x ∈ out, x.length ≤ 1001) ∧ CurAt wr N p ∧ w.grownBy wr (some p)) (fun _ i _ => n - (intOf i).toNat)
  case atStart => exact ⟨0, _, _, [], Nat.zero_le _, rfl, rfl, S1, Lib.hid rfl, Lib.hid (fun x hx => by cases hx), C1, G1⟩
  case round =>
    obtain ⟨k, g, c, out, hk, rfl, rfl, hS, HL, HX, hC, hG⟩ := hrel
    have lo : out.length ≤ 5 := by have := HL.out; omega
    by_cases hlt : k < n
    · have k1 : (k : Int) < (n : Int) := by omega
      clear S1 C1 G1
      go_wp2_with fail
      refine (HRT.out _ hC).mono ?_
      rintro e w2 ⟨x, rfl, hx, C2, g2⟩
      have S2 := hS.grown g2 (fun g' hg e => by have := hS.owned g' hg; cases e; omega)
      have G2 := gr_trans hG g2
      clear hC hS hG g2
      go_wp2_with fail
      refine (HBT.out _ _ C2 (by rw [size_of]; omega)).mono ?_
      rw [size_of]
      rintro e w3 ⟨y, rfl, hy, C3, g3⟩
      have S3 := S2.grown g3 (fun g' hg e => by have := S2.owned g' hg; cases e; omega)
      have G3 := gr_trans G2 g3
      have gw := G3.size
      clear C2 S2 G2 g3
      have HOW := Lib.hid S3.owned
      go_wp2_with (at_builtin; refine wpList_append_strs2 rfl _ _ rfl w.heap.size (.slice (some ⟨g, 0, none⟩) out.length c) out rfl (S3.alloc _) y w3.heap.size _ _ _ rfl (heap_alloc_new w3 _) (by omega) (by simp; omega) ?_; intro g4 c4 w4 hS4 hg4 hl4)
      have C4 := (C3.alloc (.cells #[sv y] 9)).grown hg4 (fun r e => by have := HOW.out r e; omega)
      have G4 := gr_own (gr_trans G3 (gr_alloc w3 (.cells #[sv y] 9) _)) hg4 (fun g' hg => HOW.out g' hg)
      have HX4 : Hid (∀ z ∈ out ++ [y], z.length ≤ 1001) := Lib.hid (fun z hz => by
        rcases List.mem_append.1 hz with h | h
        · exact HX.out z h
        · simp at h; subst h; omega)
      have e4 : (out ++ [y]).length = out.length + 1 := by simp
      rw [← e4] at hS4
      clear S3 C3 G3 hg4 hl4
      go_wp2_with fail
      go_roundw
      case rel => exact ⟨k + 1, g4, c4, out ++ [y], by omega, by go_num, by rw [e4], hS4, Lib.hid (by rw [e4, HL.out]), HX4, C4, G4⟩
      case measure => simp [intOf]; omega
    · have k1 : ¬ (k : Int) < (n : Int) := by omega
      clear S1 C1 G1
      go_wp2_with fail
      go_ret
      exact ⟨g, c, out, rfl, hS, by omega, HX.out, hC, hG⟩
end Go.Proofs.YtjhkfokjfniniaaGreatDoor

/-
  A new cursor over bytes: l01New.
-/
namespace Go.Proofs.YtjhkfokjfniniaaGreatDoor
open Go.RowKit

set_option maxRecDepth 100000 in
set_option maxHeartbeats 2000000 in
theorem l01New_any (A : Option Addr) (n c : Nat) (w : World) (hn : n ≤ 1048576) (hr : RdBy w w.heap.size A n) :
    Calls Tryz.prog 16 #[.slice A n c] w fun e w' => e = .returned (.pointer (some ⟨w.heap.size, 0, none⟩)) ∧ CurAt w' w.heap.size w.heap.size ∧ Below w.heap.size w w' := by
  have HR := Lib.hid hr
  have fin : ∀ H : Int, CurAt (w.alloc (.cells #[.slice A n c, .int .i64 0, .int .i64 H] 58)) w.heap.size w.heap.size ∧ Below w.heap.size w (w.alloc (.cells #[.slice A n c, .int .i64 0, .int .i64 H] 58)) := fun H =>
    ⟨⟨Nat.le_refl _, A, n, c, 0, H, heap_alloc_new w _, Nat.zero_le _, hn, hr.grown (gr_alloc w _ none) (fun r e => by cases e)⟩, (Below.refl _ _).alloc (Nat.le_refl _) _⟩
  have HF := Lib.hid fin
  clear hr fin
  go_enter Tryz.func16, Tryz.ntmps16
  go_wp2_with fail
  go_loopw [3, 4] (fun h i wr => ∃ (k : Nat) (H : Int), k ≤ n ∧ i = .int .i64 k ∧ h = .int .i64 H ∧ wr = w) (fun _ i _ => n - (intOf i).toNat)
  case atStart => exact ⟨0, _, Nat.zero_le _, rfl, rfl, rfl⟩
  case round =>
    obtain ⟨k, H, hk, rfl, rfl, rfl⟩ := hrel
    by_cases hlt : k < n
    · have k0 : (0 : Int) ≤ (k : Int) := by omega
      have k1 : (k : Int) < (n : Int) := by omega
      by_cases h4 : k < 4000
      · have k2 : (k : Int) < 4000 := by omega
        obtain ⟨g, off, rfl, hg, _, hb⟩ := HR.out (by omega)
        obtain ⟨b, d1⟩ := hb k hlt
        have hb8 := b.toNat_lt
        clear hb
        go_wp2_with fail
        go_roundw
        case rel => exact ⟨k + 1, _, by omega, by go_num, rfl, trivial⟩
        case measure => simp [intOf]; omega
      · have k2 : ¬ (k : Int) < 4000 := by omega
        go_wp2_with fail
        go_ret
        exact ⟨rfl, HF.out _⟩
    · have k1 : ¬ (k : Int) < (n : Int) := by omega
      go_wp2_with fail
      go_ret
      exact ⟨rfl, HF.out _⟩
end Go.Proofs.YtjhkfokjfniniaaGreatDoor

/-
  Lists of texts drawn from a code: DrawSortVersions, DrawNewest.
-/
namespace Go.Proofs.YtjhkfokjfniniaaGreatDoor
open Go.RowKit

set_option maxRecDepth 100000 in
set_option maxHeartbeats 1000000 in
theorem drawSort_any (A : Option Addr) (n c : Nat) (w : World) (hn : n ≤ 1048576) (hr : RdBy w w.heap.size A n) :
    Calls Tryz.prog 5 #[.slice A n c] w fun e w' => ∃ (g c' : Nat) (out : List (List UInt8)), e = .returned (.slice (some ⟨g, 0, none⟩) out.length c') ∧ Strs w' w.heap.size (.slice (some ⟨g, 0, none⟩) out.length c') out ∧ Sm out ∧ Below w.heap.size w w' := by
  have HN := Lib.hid (l01New_any A n c w hn hr)
  clear hr
  go_enter Tryz.func5, Tryz.ntmps5
  go_wp2_with fail
  refine HN.out.mono ?_
  rintro e w1 ⟨rfl, hC, hb1⟩
  have HL := Lib.hid (l02List_any w.heap.size w1 w.heap.size hC)
  clear hC
  go_wp2_with fail
  refine HL.out.mono ?_
  rintro e w2 ⟨g, c', out, rfl, hS, h5, hx, _, hg⟩
  have hb2 : Below w.heap.size w w2 := hb1.grown hg hb1.size (fun k e => by cases e; exact Nat.le_refl _)
  have hSm : Sm out := ⟨by omega, fun l hl => by have := hx l hl; omega⟩
  have hS2 := hS.weaken hb1.size
  clear HN HL hx hg hb1 hS
  go_wp2_with fail
  go_ret
  exact ⟨g, c', out, rfl, hS2, hSm, hb2⟩

set_option maxRecDepth 100000 in
set_option maxHeartbeats 1000000 in
theorem drawNewest_any (A : Option Addr) (n c : Nat) (w : World) (hn : n ≤ 1048576) (hr : RdBy w w.heap.size A n) :
    Calls Tryz.prog 7 #[.slice A n c] w fun e w' => ∃ (g c' : Nat) (out : List (List UInt8)), e = .returned (.slice (some ⟨g, 0, none⟩) out.length c') ∧ Strs w' w.heap.size (.slice (some ⟨g, 0, none⟩) out.length c') out ∧ Sm out ∧ Below w.heap.size w w' := by
  have HN := Lib.hid (l01New_any A n c w hn hr)
  clear hr
  go_enter Tryz.func7, Tryz.ntmps7
  go_wp2_with fail
  refine HN.out.mono ?_
  rintro e w1 ⟨rfl, hC, hb1⟩
  have HL := Lib.hid (l02List_any w.heap.size w1 w.heap.size hC)
  clear hC
  go_wp2_with fail
  refine HL.out.mono ?_
  rintro e w2 ⟨g, c', out, rfl, hS, h5, hx, _, hg⟩
  have hb2 : Below w.heap.size w w2 := hb1.grown hg hb1.size (fun k e => by cases e; exact Nat.le_refl _)
  have hSm : Sm out := ⟨by omega, fun l hl => by have := hx l hl; omega⟩
  have hS2 := hS.weaken hb1.size
  clear HN HL hx hg hb1 hS
  go_wp2_with fail
  go_ret
  exact ⟨g, c', out, rfl, hS2, hSm, hb2⟩
end Go.Proofs.YtjhkfokjfniniaaGreatDoor

/-
  The laws' own helpers: sameTexts of one list with itself, has.
-/
namespace Go.Proofs.YtjhkfokjfniniaaGreatDoor
open Go.RowKit

set_option maxRecDepth 100000 in
set_option maxHeartbeats 1000000 in
theorem sameTexts_same (va vb : Value) (ls : List (List UInt8)) (w : World) (ha : RdS w va ls) (hb : RdS w vb ls) (hl : ls.length ≤ 16777216) :
    Calls Tryz.prog 9 #[va, vb] w fun e w' => e = .returned (.bool true) ∧ ∃ n, w' = w.drewN n := by
  obtain ⟨A, ca, rfl, ha⟩ := ha
  obtain ⟨B, cb, rfl, hb⟩ := hb
  have q0 : ((ls.length : Int) != (ls.length : Int)) = false := int_bne_false rfl
  go_enter Tryz.func9, Tryz.ntmps9
  go_wp2
  go_loopw [5] (fun i wr => ∃ k n : Nat, k ≤ ls.length ∧ i = .int .i64 k ∧ wr = w.drewN n) (fun i _ => ls.length - (intOf i).toNat)
  case atStart => exact ⟨0, 0, Nat.zero_le _, rfl, rfl⟩
  case round =>
    obtain ⟨k, n, hk, rfl, rfl⟩ := hrel
    by_cases hlt : k < ls.length
    · obtain ⟨g, off, rfl, _, hca⟩ := ha (by omega)
      obtain ⟨g2, off2, rfl, _, hcb⟩ := hb (by omega)
      have d1 : w.cell? ⟨g, off + k, none⟩ = some (.string ⟨ls[k].toArray⟩) := hca k hlt
      have d2 : w.cell? ⟨g2, off2 + k, none⟩ = some (.string ⟨ls[k].toArray⟩) := hcb k hlt
      have k0 : (0 : Int) ≤ (k : Int) := by omega
      have k1 : (k : Int) < (ls.length : Int) := by omega
      clear ha hb hca hcb
      go_wp2_with fail
      go_quiet (fail)
      go_wp2_with fail
      go_roundw
      case rel => exact ⟨k + 1, _, by omega, by go_num, rfl⟩
      case measure => simp [intOf]; omega
    · clear ha hb
      go_wp2_with fail
      go_ret
      exact ⟨rfl, n, rfl⟩

theorem mem_take_succ {ls : List (List UInt8)} {s : List UInt8} {k : Nat} (h : k < ls.length) (hn : s ∉ ls.take k) (hne : ls[k] ≠ s) : s ∉ ls.take (k + 1) := by
  rw [List.take_succ_eq_append_getElem h]
  intro hm
  rcases List.mem_append.1 hm with h1 | h1
  · exact hn h1
  · simp at h1; exact hne h1.symm

set_option maxRecDepth 100000 in
set_option maxHeartbeats 1000000 in
theorem has_any (v : Value) (ls : List (List UInt8)) (s : List UInt8) (w : World) (hr : RdS w v ls) (hl : ls.length ≤ 16777216) :
    Calls Tryz.prog 12 #[v, .string ⟨s.toArray⟩] w fun e w' => e = .returned (.bool (decide (s ∈ ls))) ∧ w' = w := by
  obtain ⟨A, ca, rfl, ha⟩ := hr
  obtain ⟨r, HR⟩ : ∃ r, Hid (decide (s ∈ ls) = r) := ⟨_, Lib.hid rfl⟩
  rw [HR.out]
  go_enter Tryz.func12, Tryz.ntmps12
  go_wp2
  go_loopw [5] (fun i wr => ∃ k : Nat, k ≤ ls.length ∧ i = .int .i64 k ∧ Hid (s ∉ ls.take k) ∧ wr = w) (fun i _ => ls.length - (intOf i).toNat)
  case atStart => exact ⟨0, Nat.zero_le _, rfl, Lib.hid (by simp), rfl⟩
  case round =>
    obtain ⟨k, hk, rfl, HN, rfl⟩ := hrel
    by_cases hlt : k < ls.length
    · obtain ⟨g, off, rfl, _, hca⟩ := ha (by omega)
      have d1 : wr.cell? ⟨g, off + k, none⟩ = some (.string ⟨ls[k].toArray⟩) := hca k hlt
      have k0 : (0 : Int) ≤ (k : Int) := by omega
      have k1 : (k : Int) < (ls.length : Int) := by omega
      clear ha hca
      by_cases he : ls[k] = s
      · have HT : Hid (r = true) := Lib.hid (by rw [← HR.out]; exact decide_eq_true (by rw [← he]; exact List.getElem_mem hlt))
        have q1 : ((⟨ls[k].toArray⟩ : ByteArray).toList == (⟨s.toArray⟩ : ByteArray).toList) = true := by rw [he]; simp
        have q2 : (ls[k] == s) = true := by rw [he]; simp
        go_wp2_with fail
        go_ret
        exact ⟨ret_bool HT.out.symm, rfl⟩
      · have HN2 := Lib.hid (mem_take_succ hlt HN.out he)
        have q1 : ((⟨ls[k].toArray⟩ : ByteArray).toList == (⟨s.toArray⟩ : ByteArray).toList) = false := by rw [ByteArray.toList_eq, ByteArray.toList_eq]; simpa using he
        have q2 : (ls[k] == s) = false := by simpa using he
        go_wp2_with fail
        go_roundw
        case rel => exact ⟨k + 1, by omega, by go_num, HN2, trivial⟩
        case measure => simp [intOf]; omega
    · have HT : Hid (r = false) := Lib.hid (by rw [← HR.out]; have := HN.out; rw [List.take_of_length_le (by omega)] at this; exact decide_eq_false this)
      clear ha
      go_wp2_with fail
      go_ret
      exact ⟨ret_bool HT.out.symm, rfl⟩
end Go.Proofs.YtjhkfokjfniniaaGreatDoor

/-
  What the law FnSort asks of sorted lists, in plain words. Of no program.
-/
namespace Go.Proofs.YtjhkfokjfniniaaGreatDoor
open Go.RowKit

theorem lastD_mem {X : List (List UInt8)} (h : X ≠ []) : lastD X ∈ X := by
  unfold lastD
  rw [List.getLast?_eq_some_getLast h]
  exact List.getLast_mem h
theorem newest_mem {X : List (List UInt8)} (h : newestL X ≠ []) : newestL X ∈ X := by
  unfold newestL at h ⊢
  split
  · rename_i hc
    exact lastD_mem (by intro e; rw [e] at hc; simp at hc)
  · rename_i hc
    rw [if_neg hc] at h
    have hne : X.filter stb ≠ [] := by
      intro e
      apply h
      unfold lastSt
      rw [e]
      rfl
    have := lastD_mem hne
    exact (List.mem_filter.1 this).1
theorem sortOf_self {ls out : List (List UInt8)} (h : SortOf ls out) : SortOf out out := ⟨h.1, fun t => ⟨fun ht => ⟨ht, ((h.2 t).1 ht).2⟩, fun ht => ht.1⟩⟩
theorem sortOf_lt {ls out : List (List UInt8)} (h : SortOf ls out) {i j : Nat} (hij : i < j) (hj : j < out.length) : cmpT (out[i]'(by omega)) out[j] < 0 := by
  have := List.pairwise_iff_getElem.1 h.1 i j (by omega) hj hij
  exact this
end Go.Proofs.YtjhkfokjfniniaaGreatDoor

/-
  The walk of the law FnSort.
-/
namespace Go.Proofs.YtjhkfokjfniniaaGreatDoor
open Go.RowKit

set_option maxRecDepth 100000 in
theorem big_any (A : Option Addr) (n c : Nat) (w : World) :
    Calls Tryz.prog 4 #[.slice A n c] w fun e w' => e = .returned (.bool (decide ((1048576 : Int) < (n : Int)))) ∧ w' = w := by
  go_enter Tryz.func4, Tryz.ntmps4
  go_wp2_with fail
  go_ret
  exact ⟨rfl, rfl⟩

theorem cmpT_read {s t : List UInt8} {a0 a1 a2 b0 b1 b2 : Int} (h0 : readA s 0 = a0) (h1 : readA s 1 = a1) (h2 : readA s 2 = a2) (k0 : readA t 0 = b0) (k1 : readA t 1 = b1) (k2 : readA t 2 = b2) : cmpVer a0 a1 a2 (readP s) b0 b1 b2 (readP t) = cmpT s t := by
  subst h0 h1 h2 k0 k1 k2
  rfl

set_option maxRecDepth 100000 in
set_option maxHeartbeats 8000000 in
theorem exSort (A : Option Addr) (n c : Nat) (w : World) (hr : RdBy w w.heap.size A n) (htab : Tab w) :
    Calls Tryz.prog 3 #[.slice A n c] w fun e w' => e = .returned (.bool true) ∧ Below w.heap.size w w' := by
  have HBIG := Lib.hid (big_any A n c w)
  by_cases hbig : 1048576 < n
  · have q0 : decide ((1048576 : Int) < (n : Int)) = true := by simp; omega
    clear hr htab
    go_enter Tryz.func3, Tryz.ntmps3
    go_wp2_with fail
    refine HBIG.out.mono ?_
    rw [q0]
    rintro e w1 ⟨rfl, rfl⟩
    go_wp2_with fail
    go_ret
    exact ⟨rfl, Below.refl _ _⟩
  have q0 : decide ((1048576 : Int) < (n : Int)) = false := by simp; omega
  have hn2 : n ≤ 1048576 := by omega
  have rdb : ∀ (W : World), Below w.heap.size w W → RdBy W W.heap.size A n := fun W hb h0 => by
    obtain ⟨g, off, hA, h1, h2, h3⟩ := (hr.grown (gr_below (row := none) hb) (fun r e => by cases e)) h0
    exact ⟨g, off, hA, h2, h2, h3⟩
  have HD1 := Lib.hid (drawSort_any A n c w hn2 hr)
  have HD2 := Lib.hid (fun (W : World) (hb : Below w.heap.size w W) => drawNewest_any A n c W hn2 (rdb W hb))
  have HSV := Lib.hid (fun (W : World) (u : Value) (ls : List (List UInt8)) (hb : Below w.heap.size w W) (h : RdS W u ls) (hs : Sm ls) => implSortVersions_any u ls W h hs (tab_below htab hb))
  have HNW := Lib.hid (fun (W : World) (u : Value) (ls : List (List UInt8)) (hb : Below w.heap.size w W) (h : RdS W u ls) (hs : Sm ls) => implNewest_any u ls W h hs (tab_below htab hb))
  clear hr htab rdb
  go_enter Tryz.func3, Tryz.ntmps3
  go_wp2_with fail
  refine HBIG.out.mono ?_
  rw [q0]
  rintro e w0 ⟨rfl, rfl⟩
  go_wp2_with fail
  refine HD1.out.mono ?_
  rintro e w1 ⟨g1, c1, l, rfl, Sl, hSl, B1⟩
  have HSl := Lib.hid hSl
  have ll := hSl.1
  clear hSl HD1 HBIG
  go_wp2_with fail
  refine (HSV.out _ _ l B1 (RdS.of_strs Sl) HSl.out).mono ?_
  rintro e w2 ⟨g2, c2, X, rfl, SX, hSO, hb2⟩
  have B2 := B1.trans (hb2.mono B1.size)
  have Sl2 := Sl.below hb2
  have lX := sortOf_len hSO
  have HSO := Lib.hid hSO
  have HSX : Hid (Sm X) := Lib.hid ⟨by omega, fun t ht => HSl.out.2 t ((hSO.2 t).1 ht).1⟩
  clear hSO hb2 Sl B1
  go_wp2_with fail
  refine (HD2.out _ B2).mono ?_
  rintro e w3 ⟨g3, c3, K, rfl, SK, hSK, hb3⟩
  have B3 := B2.trans (hb3.mono B2.size)
  have Sl3 := Sl2.below hb3
  have SX3 := SX.below hb3
  have HSK := Lib.hid hSK
  have lK := hSK.1
  clear hSK hb3 Sl2 SX B2
  go_wp2_with fail
  refine (HNW.out _ _ K B3 (RdS.of_strs SK) HSK.out).mono ?_
  rintro e w4 ⟨out, rfl, hNO, hb4⟩
  have B4 := B3.trans (hb4.mono B3.size)
  have Sl4 := Sl3.below hb4
  have SX4 := SX3.below hb4
  have SK4 := SK.below hb4
  have HNO := Lib.hid hNO
  obtain ⟨r, HRR⟩ : ∃ r, Hid (newestL out = r) := ⟨_, Lib.hid rfl⟩
  rw [HRR.out]
  have HMM : Hid (r ≠ [] → r ∈ K) := Lib.hid (fun h => by
    have := newest_mem (X := out) (by rw [HRR.out]; exact h)
    rw [HRR.out] at this
    exact ((HNO.out.2 r).1 this).1)
  clear hNO hb4 Sl3 SX3 SK B3
  have HB4 := Lib.hid B4
  have HLD := Lib.hid (RdS.of_strs Sl4)
  have HXD := Lib.hid (RdS.of_strs SX4)
  have HKD := Lib.hid (RdS.of_strs SK4)
  clear Sl4 SX4 SK4 B4
  go_upto_region 7 with fail
  go_cut [45] (fun s45 wx => s45 = .bool false ∧ Below w4.heap.size w4 wx)
  case first =>
    go_wp2_with fail
    refine (specSortVersions_any _ l _ HLD.out HSl.out).mono ?_
    rintro e w5 ⟨u5, X5, rfl, S5, hSO5, hb5⟩
    obtain rfl : X5 = X := sortOf_unique hSO5 HSO.out
    obtain ⟨A5, c5, rfl⟩ := S5.slice
    clear hSO5
    go_wp2_with fail
    refine (sameTexts_same _ _ X5 _ (HXD.out.below hb5) (RdS.of_strs S5) (by omega)).mono ?_
    rintro e w6 ⟨rfl, n6, rfl⟩
    have b6 := hb5.trans (below_drewN w4.heap.size w5 n6)
    clear S5 hb5
    go_wp2_with fail
    refine (specNewest_any _ K _ (HKD.out.below b6) HSK.out).mono ?_
    rintro e w7 ⟨out7, rfl, hNO7, hb7⟩
    obtain rfl : out7 = out := sortOf_unique hNO7 HNO.out
    rw [HRR.out]
    have b7 := b6.trans (hb7.mono b6.size)
    clear hNO7 hb7 b6
    have q1 : ((⟨r.toArray⟩ : ByteArray).toList != (⟨r.toArray⟩ : ByteArray).toList) = false := by simp
    by_cases hre : r = []
    · have q2 : ((⟨r.toArray⟩ : ByteArray).toList != []) = false := by rw [hre, ByteArray.toList_eq]; rfl
      have q3 : r.isEmpty = true := by rw [hre]; rfl
      clear hre
      go_wp2_with fail
      go_meet
      exact ⟨rfl, b7⟩
    · have q2 : ((⟨r.toArray⟩ : ByteArray).toList != []) = true := by rw [ByteArray.toList_eq]; simpa using hre
      have q3 : r.isEmpty = false := by simpa using hre
      have HHAS := Lib.hid (has_any _ K r w7 (HKD.out.below b7) (by omega))
      have HT : Hid (decide (r ∈ K) = true) := Lib.hid (decide_eq_true (HMM.out hre))
      clear hre
      go_wp2_with fail
      refine HHAS.out.mono ?_
      rw [HT.out]
      rintro e w8 ⟨rfl, rfl⟩
      go_wp2_with fail
      go_meet
      exact ⟨rfl, b7⟩
  case rest =>
  obtain ⟨rfl, hb0⟩ := hcut
  have HLD1 := Lib.hid (HLD.out.below hb0)
  have HXD1 := Lib.hid (HXD.out.below hb0)
  have HB0 := Lib.hid (HB4.out.trans (hb0.mono HB4.out.size))
  obtain ⟨V, rfl⟩ : ∃ V, V = wc := ⟨_, rfl⟩
  clear hb0 HLD HXD HKD HMM HRR HNO HNW HD2 HB4
  go_wp2_with fail
  go_loopw [7, 8, 9, 10, 11] (fun i _ _ _ _ wr => ∃ k : Nat, k ≤ X.length ∧ i = .int .i64 k ∧ Below V.heap.size V wr) (fun i _ _ _ _ _ => X.length - (intOf i).toNat)
  case atStart => exact ⟨0, Nat.zero_le _, rfl, Below.refl _ _⟩
  case round =>
    obtain ⟨k, hk, rfl, hb⟩ := hrel
    by_cases hlt : k < X.length
    · have k0 : (0 : Int) ≤ (k : Int) := by omega
      have k1 : (k : Int) < (X.length : Int) := by omega
      have HLK : Hid ((⟨X[k].toArray⟩ : ByteArray).size ≤ 1048576) := Lib.hid (by rw [size_of]; exact HSX.out.2 X[k] (List.getElem_mem hlt))
      have HMEM := Lib.hid ((HSO.out.2 X[k]).1 (List.getElem_mem hlt))
      obtain ⟨A', ca', hv, ha⟩ := HXD1.out.below hb
      simp only [Value.slice.injEq] at hv
      obtain ⟨hA', _, hca'⟩ := hv
      obtain ⟨gl, off, hAe, hgl, hca⟩ := ha (by omega)
      rw [hAe] at hA'
      simp only [Option.some.injEq, Addr.mk.injEq, and_true] at hA'
      obtain ⟨hg2e, hoff⟩ := hA'
      subst hg2e
      subst hoff
      have d1 : wr.cell? ⟨g2, k, none⟩ = some (.string ⟨X[k].toArray⟩) := by have := hca k hlt; rwa [Nat.zero_add] at this
      have HOK : Hid (readOk (⟨X[k].toArray⟩ : ByteArray).data.toList = true) := Lib.hid HMEM.out.2
      obtain ⟨l0, HL0⟩ : ∃ z, Hid (readA (⟨X[k].toArray⟩ : ByteArray).data.toList 0 = z) := ⟨_, Lib.hid rfl⟩
      obtain ⟨l1, HL1⟩ : ∃ z, Hid (readA (⟨X[k].toArray⟩ : ByteArray).data.toList 1 = z) := ⟨_, Lib.hid rfl⟩
      obtain ⟨l2, HL2⟩ : ∃ z, Hid (readA (⟨X[k].toArray⟩ : ByteArray).data.toList 2 = z) := ⟨_, Lib.hid rfl⟩
      obtain ⟨m, HM⟩ : ∃ m, Hid ((readP (⟨X[k].toArray⟩ : ByteArray).data.toList).length = m) := ⟨_, Lib.hid rfl⟩
      clear ha hca hAe hca'
      go_wp2_with fail
      refine (implReadVersion_any _ _ HLK.out).mono ?_
      rintro e w5 ⟨u, rfl, hu, hb5⟩
      obtain ⟨uA, uc, rfl⟩ := hu.slice
      rw [HOK.out, HL0.out, HL1.out, HL2.out, HM.out]
      have b5 := hb.trans (hb5.mono hb.size)
      have d5 := keepC hb5 d1
      have v5 := heap_alloc_new w5 (.cells #[.int .i64 l0, .int .i64 l1, .int .i64 l2, .slice uA m uc] 31)
      have hRL : RdS w5 (.slice uA m uc) (readP X[k]) := by have := RdS.of_strs hu; rw [HM.out] at this; exact this
      have b6 := b5.alloc b5.size (.cells #[.int .i64 l0, .int .i64 l1, .int .i64 l2, .slice uA m uc] 31)
      have hR6 := rdS_alloc hRL (.cells #[.int .i64 l0, .int .i64 l1, .int .i64 l2, .slice uA m uc] 31)
      have HHAS := Lib.hid (has_any _ l X[k] _ (HLD1.out.below b6) (by omega))
      have HT : Hid (decide (X[k] ∈ l) = true) := Lib.hid (decide_eq_true HMEM.out.1)
      have g5 := cell_in d5
      clear hu hb5 d1 hRL b5
      go_wp2_with fail
      refine HHAS.out.mono ?_
      rw [HT.out]
      rintro e w6 ⟨rfl, rfl⟩
      clear HHAS
      by_cases hk0 : k = 0
      · have q5 : ¬ (0 : Int) < (k : Int) := by omega
        clear hk0
        go_wp2_with fail
        go_roundw
        case rel => exact ⟨k + 1, by omega, by go_num, b6⟩
        case measure => simp [intOf]; omega
      · have q5 : (0 : Int) < (k : Int) := by omega
        obtain ⟨j, hj⟩ : ∃ j : Nat, k = j + 1 := ⟨k - 1, by omega⟩
        have hjl : j < X.length := by omega
        have e1 : (k : Int) - 1 = (j : Int) := by omega
        have j0 : (0 : Int) ≤ (j : Int) := by omega
        have j1 : (j : Int) < (X.length : Int) := by omega
        have HLJ : Hid ((⟨X[j].toArray⟩ : ByteArray).size ≤ 1048576) := Lib.hid (by rw [size_of]; exact HSX.out.2 X[j] (List.getElem_mem hjl))
        have HSJ : Hid (Sm (readP X[j])) := Lib.hid (readP_Sm' (HSX.out.2 X[j] (List.getElem_mem hjl)))
        have HSK2 : Hid (Sm (readP X[k])) := Lib.hid (readP_Sm' (HSX.out.2 X[k] (List.getElem_mem hlt)))
        have HLT : Hid (cmpT X[j] X[k] < 0) := Lib.hid (sortOf_lt HSO.out (by omega) hlt)
        obtain ⟨ok, HOK2⟩ : ∃ z, Hid (readOk (⟨X[j].toArray⟩ : ByteArray).data.toList = z) := ⟨_, Lib.hid rfl⟩
        obtain ⟨p0, HP0⟩ : ∃ z, Hid (readA (⟨X[j].toArray⟩ : ByteArray).data.toList 0 = z) := ⟨_, Lib.hid rfl⟩
        obtain ⟨p1, HP1⟩ : ∃ z, Hid (readA (⟨X[j].toArray⟩ : ByteArray).data.toList 1 = z) := ⟨_, Lib.hid rfl⟩
        obtain ⟨p2, HP2⟩ : ∃ z, Hid (readA (⟨X[j].toArray⟩ : ByteArray).data.toList 2 = z) := ⟨_, Lib.hid rfl⟩
        obtain ⟨m2, HM2⟩ : ∃ m, Hid ((readP (⟨X[j].toArray⟩ : ByteArray).data.toList).length = m) := ⟨_, Lib.hid rfl⟩
        have dj : w5.cell? ⟨g2, j, none⟩ = some (.string ⟨X[j].toArray⟩) := by
          obtain ⟨A', ca', hv, ha⟩ := HXD1.out.below b6
          simp only [Value.slice.injEq] at hv
          obtain ⟨hA', _, _⟩ := hv
          obtain ⟨gl, off, hAe, _, hca⟩ := ha (by omega)
          rw [hAe] at hA'
          simp only [Option.some.injEq, Addr.mk.injEq, and_true] at hA'
          obtain ⟨hg2e, hoff⟩ := hA'
          subst hg2e
          subst hoff
          have := hca j hjl
          rw [Nat.zero_add] at this
          have hgw := cell_in d5
          have e := Below.heap_alloc w5 (.cells #[.int .i64 l0, .int .i64 l1, .int .i64 l2, .slice uA m uc] 31) g2 hgw
          unfold World.cell? at this ⊢
          simp only [e] at this
          exact this
        clear hk0 hj
        go_wp2_with fail
        refine (implReadVersion_any _ _ HLJ.out).mono ?_
        rintro e w7 ⟨u7, rfl, hu7, hb7⟩
        obtain ⟨vA, vc, rfl⟩ := hu7.slice
        rw [HOK2.out, HP0.out, HP1.out, HP2.out, HM2.out]
        have b7 := b6.trans (hb7.mono b6.size)
        have v7 := keepA (keepB v5 hb7) (.cells #[.int .i64 p0, .int .i64 p1, .int .i64 p2, .slice vA m2 vc] 31)
        have x7 := heap_alloc_new w7 (.cells #[.int .i64 p0, .int .i64 p1, .int .i64 p2, .slice vA m2 vc] 31)
        have hRP : RdS w7 (.slice vA m2 vc) (readP X[j]) := by have := RdS.of_strs hu7; rw [HM2.out] at this; exact this
        have hRP8 := rdS_alloc hRP (.cells #[.int .i64 p0, .int .i64 p1, .int .i64 p2, .slice vA m2 vc] 31)
        have hRL8 := rdS_alloc (hR6.below hb7) (.cells #[.int .i64 p0, .int .i64 p1, .int .i64 p2, .slice vA m2 vc] 31)
        have b8 := b7.alloc b7.size (.cells #[.int .i64 p0, .int .i64 p1, .int .i64 p2, .slice vA m2 vc] 31)
        obtain ⟨a0, a1, a2, a3⟩ := cells4 (keepB v5 hb7)
        have HCV : Hid (cmpVer p0 p1 p2 (readP X[j]) l0 l1 l2 (readP X[k]) = cmpT X[j] X[k]) := Lib.hid (cmpT_read HP0.out HP1.out HP2.out HL0.out HL1.out HL2.out)
        have HCC := Lib.hid (implCompareVersion_any p0 p1 p2 l0 l1 l2 _ _ (readP X[j]) (readP X[k]) _ hRP8 hRL8 HSJ.out HSK2.out)
        obtain ⟨cz, HCZ⟩ : ∃ z, Hid (cmpT X[j] X[k] = z) := ⟨_, Lib.hid rfl⟩
        have cz0 : ¬ (0 : Int) ≤ cz := by have := HLT.out; rw [HCZ.out] at this; omega
        have w5l : w5.heap.size < w7.heap.size := lt_of_heap (keepB v5 hb7)
        clear hu7 hb7 b7 v7 x7 hRP hRP8 hRL8 dj d5 v5 hR6 b6
        go_wp2_with fail
        refine HCC.out.mono ?_
        rw [HCV.out, HCZ.out]
        rintro e w9 ⟨rfl, hb9⟩
        have b9 := b8.trans (hb9.mono b8.size)
        go_wp2_with fail
        go_roundw
        case rel => exact ⟨k + 1, by omega, by go_num, b9⟩
        case measure => simp [intOf]; omega
    · have k1 : ¬ (k : Int) < (X.length : Int) := by omega
      obtain ⟨V2, rfl⟩ : ∃ V2, V2 = wr := ⟨_, rfl⟩
      have HLD2 := Lib.hid (HLD1.out.below hb)
      have HXD2 := Lib.hid (HXD1.out.below hb)
      have HB2 := Lib.hid (HB0.out.trans (hb.mono HB0.out.size))
      clear hb
      go_wp2_with fail
      go_loopw [12, 13, 14] (fun i _ _ wr => ∃ k : Nat, k ≤ l.length ∧ i = .int .i64 k ∧ Below V2.heap.size V2 wr) (fun i _ _ _ => l.length - (intOf i).toNat)
      case atStart => exact ⟨0, Nat.zero_le _, rfl, Below.refl _ _⟩
      case round =>
        obtain ⟨i, hi, rfl, hb⟩ := hrel
        by_cases hlt : i < l.length
        · have i0 : (0 : Int) ≤ (i : Int) := by omega
          have i1 : (i : Int) < (l.length : Int) := by omega
          have HLI : Hid ((⟨l[i].toArray⟩ : ByteArray).size ≤ 1048576) := Lib.hid (by rw [size_of]; exact HSl.out.2 l[i] (List.getElem_mem hlt))
          obtain ⟨A', ca', hv, ha⟩ := HLD2.out.below hb
          simp only [Value.slice.injEq] at hv
          obtain ⟨hA', _, hca'⟩ := hv
          obtain ⟨gl, off, hAe, hgl, hca⟩ := ha (by omega)
          rw [hAe] at hA'
          simp only [Option.some.injEq, Addr.mk.injEq, and_true] at hA'
          obtain ⟨hg2e, hoff⟩ := hA'
          subst hg2e
          subst hoff
          have d1 : wr.cell? ⟨g1, i, none⟩ = some (.string ⟨l[i].toArray⟩) := by have := hca i hlt; rwa [Nat.zero_add] at this
          obtain ⟨ok, HOK⟩ : ∃ z, Hid (readOk (⟨l[i].toArray⟩ : ByteArray).data.toList = z) := ⟨_, Lib.hid rfl⟩
          obtain ⟨l0, HL0⟩ : ∃ z, Hid (readA (⟨l[i].toArray⟩ : ByteArray).data.toList 0 = z) := ⟨_, Lib.hid rfl⟩
          obtain ⟨l1, HL1⟩ : ∃ z, Hid (readA (⟨l[i].toArray⟩ : ByteArray).data.toList 1 = z) := ⟨_, Lib.hid rfl⟩
          obtain ⟨l2, HL2⟩ : ∃ z, Hid (readA (⟨l[i].toArray⟩ : ByteArray).data.toList 2 = z) := ⟨_, Lib.hid rfl⟩
          obtain ⟨m, HM⟩ : ∃ m, Hid ((readP (⟨l[i].toArray⟩ : ByteArray).data.toList).length = m) := ⟨_, Lib.hid rfl⟩
          have HT : Hid (decide (l[i] ∈ X) = ok) := Lib.hid (by
            have e : readOk l[i] = ok := HOK.out
            by_cases h : readOk l[i] = true
            · rw [← e, h]; exact decide_eq_true ((HSO.out.2 l[i]).2 ⟨List.getElem_mem hlt, h⟩)
            · rw [← e, Bool.eq_false_iff.2 h]; exact decide_eq_false (fun hm => h ((HSO.out.2 l[i]).1 hm).2))
          clear ha hca hAe hca'
          go_wp2_with fail
          refine (implReadVersion_any _ _ HLI.out).mono ?_
          rintro e w5 ⟨u, rfl, hu, hb5⟩
          obtain ⟨uA, uc, rfl⟩ := hu.slice
          rw [HOK.out, HL0.out, HL1.out, HL2.out, HM.out]
          have b5 := hb.trans (hb5.mono hb.size)
          have d5 := keepC hb5 d1
          have g5 := cell_in d5
          have b6 := b5.alloc b5.size (.cells #[.int .i64 l0, .int .i64 l1, .int .i64 l2, .slice uA m uc] 31)
          have HHAS := Lib.hid (has_any _ X l[i] _ (HXD2.out.below b6) (by omega))
          clear hu hb5 d1 b5
          go_wp2_with fail
          refine HHAS.out.mono ?_
          rw [HT.out]
          rintro e w6 ⟨rfl, rfl⟩
          have q7 : (ok != ok) = false := by simp
          clear HHAS
          go_wp2_with fail
          go_roundw
          case rel => exact ⟨i + 1, by omega, by go_num, b6⟩
          case measure => simp [intOf]; omega
        · have i1 : ¬ (i : Int) < (l.length : Int) := by omega
          have hbw := HB2.out.trans (hb.mono HB2.out.size)
          have HC := Lib.hid (HSV.out _ _ X hbw (HXD2.out.below hb) HSX.out)
          have HXD3 := Lib.hid (HXD2.out.below hb)
          clear hb
          go_wp2_with fail
          refine HC.out.mono ?_
          rintro e w8 ⟨g8, c8, X8, rfl, S8, hSO8, hb8⟩
          obtain rfl : X8 = X := sortOf_unique hSO8 (sortOf_self HSO.out)
          have b8 := hbw.trans (hb8.mono hbw.size)
          have hX8 := HXD3.out.below hb8
          clear hb8 hSO8 HC
          go_wp2_with fail
          refine (sameTexts_same _ _ X8 _ (RdS.of_strs S8) hX8 (by omega)).mono ?_
          rintro e w9 ⟨rfl, n9, rfl⟩
          have b9 := b8.trans (below_drewN _ _ n9)
          go_wp2_with fail
          go_ret
          exact ⟨rfl, b9⟩
end Go.Proofs.YtjhkfokjfniniaaGreatDoor

namespace Go.Proofs.YtjhkfokjfniniaaGreatDoor.fnSort
open Go.ChangeShapes Go.WideShapes Go.ChangeAt Go.RowKit
open Go.ChangeMaps (open_string shut_string)
set_option linter.unusedVariables false

theorem own : ownKnob Tryz.prog.godebug = none := by kernel_rfl

theorem laidOut : laidOutB Tryz.prog = true := by kernel_rfl

/-- A table's cells, off its datum. -/
def tabCells : DataW Unit → Array Value
  | .agg l => (l.map fun
    | .lit (.int k n) => Value.int k n
    | _ => .bool false).toArray
  | _ => #[]
def putCells (cs : Array Value) : Obj → Obj
  | .cells _ t fr => .cells cs t fr
  | o => o
/-- A start that fits: the settled world, the tables laid. -/
noncomputable def laidWorld (os : Os) : World :=
  { World.holding Tryz.prog os ⟨#[], #[], []⟩ with heap := (((World.holding Tryz.prog os ⟨#[], #[], []⟩).heap.modify 2 (putCells (tabCells Rows.laid_math_bits_deBruijn32tab))).modify 3 (putCells (tabCells Rows.laid_math_bits_deBruijn64tab))).modify 1 (putCells (tabCells Rows.laid_internal_strconv_uint64pow10)) }
theorem laid_met (os : Os) (args : Array Value) : laidMetH Tryz.prog Rows.fnSortRow.laid ((laidWorld os).forCall (fun _ _ => 0) ⟨#[], args, []⟩).memory := by
  rw [MakeChecks.laidMetH_plain _ _ _ (by kernel_rfl)]
  exact laidMet_of_run' 8 (by kernel_rfl) (by kernel_rfl)

set_option maxRecDepth 100000 in
theorem lifted (os : Os) (started : os.Started) (H : Type) (enc : TypeId × Value → H) :
    ReturnsInHanded {} Tryz.checked os 3 .any (fun w args => (Rows.fnSortSpec.pre enc Tryz.prog Tryz.f3 [] false w args ∧ laidMetH Tryz.prog Rows.fnSortRow.laid w) ∧ sizedMet enc Tryz.prog Tryz.f3 (OpenSpec.ofChange Rows.fnSortSpec) false w args)
      (Rows.fnSortSpec.post enc Tryz.prog Tryz.f3 false true false false) := by
  refine returnsInHanded_of_change_and (C := Tryz.checked) (X := fun w _ => laidMetH Tryz.prog Rows.fnSortRow.laid w) (fun _ _ _ hh h => h.of_heap hh) own started (by kernel_rfl) Tryz.func3
    (ChangeSpec.witness_at (enc := enc) (C := Tryz.checked) (os := os) (X := fun w _ => laidMetH Tryz.prog Rows.fnSortRow.laid w) false (laidWorld os) #[.slice none 0 0] 8 rfl (by kernel_rfl) (by kernel_rfl) (by kernel_rfl) (by kernel_rfl) (by kernel_rfl) (laid_met os _)) ?_
  intro W base args ds gs before hval0 hW _ _ hL _
  have hval : ∀ (j : Nat) t v, Tryz.f3.params[j]? = some t → args[j]? = some v → Value.okWide Tryz.prog W .any base t v := hval0
  have hW' := hW
  obtain ⟨p, q, hA0, hV, rfl, hfz, hnd⟩ := hW
  have hA : DataW.TrodAll enc Tryz.prog W 0 (fun _ => true) true Tryz.f3.params.toList args.toList ds p := hA0
  rw [Tryz.params3] at hA hval
  obtain ⟨v0, vs0, d0, ds0, p0, q0, hargs, rfl, rfl, h0, r0⟩ := trodAll_cons hA
  obtain ⟨rfl, rfl, rfl⟩ := trodAll_nil r0
  obtain rfl : args = #[v0] := by cases args; simp_all
  obtain ⟨rfl, rfl⟩ := trodVars_none hV
  have k0 := h0
  have lt0 : ∀ x ∈ p0, x.block < W.heap.size := by obtain ⟨m, hm⟩ := k0; exact DataW.trod_lt m _ _ _ hm
  obtain ⟨A0, n0, c0, hv0, _, R0⟩ := open_bytesV (hval 0 22 v0 rfl rfl) h0
  subst hv0
  clear hA0 hval0
  rw [MakeChecks.laidMetH_plain _ _ _ (by kernel_rfl)] at hL
  have hL1 : laidMet Tryz.prog Rows.fnSortRow.laid W := hL
  unfold Rows.fnSortRow at hL1
  have hL3 : laidMet Tryz.prog [("internal/strconv.uint64pow10", Lib.tabData .u64 Lib.pow10Tab)] W := hL1.tail.tail
  have htab : Lib.TabIs Tryz.prog W "internal/strconv.uint64pow10" .u64 Lib.pow10Tab :=
    Lib.tabIs_of_head (g := 1) (t := 131) (e := 92) (n := 20) (by kernel_rfl) (by kernel_rfl) Tryz.underlying131 Tryz.underlying92 (by kernel_rfl) (by kernel_rfl) hL3
  refine (exSort A0 n0 c0 W R0 htab).mono fun e W' ⟨he, bel⟩ => ?_
  subst he
  exact ⟨_, rfl, _, _, _, [], _, [], hW', trodAll_mk1 (shut_bool Tryz.underlying4 _), (trodAll_cons_mk (Below.trod laidOut (by kernel_rfl) (of_decide_eq_true (by kernel_rfl)) k0 bel lt0) trodAll_mk0), rfl, bel.frame _, fun h => by cases h⟩

theorem over : Rows.fnSortRow.holds Tryz.pinned (OpenSpec.ofChange Rows.fnSortSpec) :=
  OpenClaim.holds_of_wide 3 Tryz.f3 rfl rfl rfl rfl rfl rfl rfl ⟨rfl, rfl, rfl, rfl, rfl⟩ rfl rfl rfl rfl rfl (by kernel_rfl) Tryz.func3 (by kernel_rfl)
    (of_decide_eq_true (by kernel_rfl)) (by unfold Func.isWrapper; first | (rw [if_pos (by decide +kernel)]; kernel_rfl) | (rw [if_neg (by decide +kernel)]; exact ⟨rfl, rfl⟩))
    (fun os started H enc _ => lifted os started H enc)

end Go.Proofs.YtjhkfokjfniniaaGreatDoor.fnSort

namespace Go.Proofs.YtjhkfokjfniniaaGreatDoor
theorem fnSort_proved : Rows.FnSortCardSaid :=
  Claim7.holds_tied_plain_at .later [] [.data, .data, .data] true Rows.fnSortCard.stood.harness true
    fnSort.over (fun _ h => by cases h) (by kernel_rfl) (fun _ h => by cases h) fnSort_row_tie rfl ⟨rfl, rfl⟩ (by kernel_rfl) rfl
    (fun f fn hf hfn => by
      obtain rfl : f = 3 := Option.some.inj ((show Tryz.prog.funcNamed Rows.fnSortRow.func = some 3 by kernel_rfl).symm.trans hf) |>.symm
      obtain rfl : fn = Tryz.f3 := (Option.some.inj (Tryz.func3.symm.trans hfn)).symm
      exact ⟨by kernel_rfl, fun j t ht => by
        rw [Tryz.params3] at ht
        have h3 : t = 22 := by
          rcases j with _ | j
          · simpa using ht.symm
          · simp at ht
        subst h3
        exact (show Tryz.prog.wantsStandIn 22 = false by kernel_rfl)⟩)
    (by kernel_rfl)
#print axioms fnSort_proved
end Go.Proofs.YtjhkfokjfniniaaGreatDoor
