/-
  At every argument the law FnExactNewest returns true and leaves its arguments as they were, the three listed tables lying as the program's text lays them (the tie is given). No other condition.
-/
import Derived.Test.YtjpclglklmlhlaaGreatDoorRdL
import Derived.Deep.Strs
import Derived.Lib.SmallJoins
import Derived.OpenShut
import Derived.Test.YtjpclglklmlhlaaGreatDoorSortM
import Derived.Test.YtjpclglklmlhlaaGreatDoorRdM
import Derived.Test.YtjpclglklmlhlaaGreatDoorCutI
import Derived.RangeFuncNested
import Derived.RangeFuncBound
import Derived.RangeFuncCalls
import Derived.RangeFuncLeaves
import Derived.Shelf.Abstract
import Derived.Shelf.RegionOpen
import Derived.WalkKit
import Derived.OwnWalkIn
import Derived.TacticsInMore
import Derived.LoopNIn
import Derived.LoopIn
import Derived.Sort.QuietIn
import Derived.Test.YtjpclglklmlhlaaGreatDoorStrs
import Derived.Test.YtjpclglklmlhlaaGreatDoorKp
import Derived.Test.YtjpclglklmlhlaaGreatDoorParts
import Derived.Shelf.SlSortCmp.WholeK
import Derived.Shelf.SlGeneric
import Derived.Ground.SlsfProg
import Derived.Test.YtjpclglklmlhlaaGreatDoorProg
import Derived.Test.YtjpclglklmlhlaaGreatDoorLawB
import Derived.Lib.SliceRun
import Derived.Test.YtjpclglklmlhlaaGreatDoorCmpI
import Derived.LoopN
import Derived.Lib.SlicesCompact
import Derived.Shelf.Slices.Cells
import Derived.Ground.NamesProg
import Derived.Shelf.Strings.OnBuilder
import Derived.Test.YtjpclglklmlhlaaGreatDoorVerM
import Derived.Shelf.Strconv.Itoa3
import Derived.Test.YtjpclglklmlhlaaGreatDoorDec
import Derived.Lib.AppendIntMem
import Derived.Test.YtjpclglklmlhlaaGreatDoorTextS
import Derived.Test.YtjpclglklmlhlaaGreatDoorVerI
import Derived.Deep.RegionHeld3
import Derived.Test.YtjpclglklmlhlaaGreatDoorRdI
import Derived.Outline
import Derived.RangeFuncFrom
import Derived.RangeFuncBox
import Derived.Stop.RegionWithIn
import Derived.Test.YtjpclglklmlhlaaGreatDoorSortS
import Derived.Test.YtjpclglklmlhlaaGreatDoorRows
import Derived.Test.YtjpclglklmlhlaaGreatDoorBase
import Derived.Laws.OwnMore
import Derived.Laws.IdiomStrings
import Derived.Maps.AppendAt
import Derived.Laws.BitsAllLaws
import Derived.Deep.RegionLaw
import Derived.Deep.AppendLies
import Derived.Laws.BitsLemmas
import Derived.Lib.AppendStr
import Derived.Deep.QuietTactic
import Derived.BigQuiet
import Derived.Test.YtjpclglklmlhlaaGreatDoorTie
import Derived.Test.YtjpclglklmlhlaaGreatDoorCards
import Derived.ProofKit
import Derived.ShutString
import Derived.ChangeOld
import Derived.Below
import Derived.ChangeVars
import Derived.LaidLaws
import Derived.MakeChecks
import Derived.Stop.LaidErr
import Derived.SevenTiedAt
import Derived.Carry
/-
  Arguments opened: a list of texts.
-/
namespace Go.Proofs.YtjpclglklmlhlaaGreatDoor
open Go.ChangeShapes Go.WideShapes Go.RowKit Go.Deep Go.Joins

section
variable {H : Type} {enc : TypeId × Value → H} {W : World} {spare : Nat → Bool} {held : Bool}

theorem cell_lt {w : World} {g o : Nat} {v : Value} (h : w.cell? ⟨g, o, none⟩ = some v) : g < w.heap.size := by
  rcases Nat.lt_or_ge g w.heap.size with hlt | hge
  · exact hlt
  · unfold World.cell? at h
    simp only at h
    rw [Array.getElem?_eq_none hge] at h
    cases h

set_option maxRecDepth 100000 in
theorem open_texts {fuel : Nat} {v : Value} {x : DataW H × List MemPlace} (h : DataW.trod enc Tryz.prog W 0 spare held fuel 28 [v] = some x) :
    ∃ ls, RdS W v ls ∧ ls.length ≤ maxLen ∧ ∀ l ∈ ls, l.length ≤ maxLen := by
  rcases open_strs Tryz.underlying28 Tryz.underlying9 (by kernel_rfl) h with ⟨hcs, _⟩ | ⟨a, len, cap, m, Sx, hcs, _, hl, hm, hmm, _, hc⟩
  · simp at hcs
    subst hcs
    exact ⟨[], ⟨none, 0, rfl, fun h => absurd h (by simp)⟩, by simp, fun l hl => by cases hl⟩
  · simp at hcs
    subst hcs
    have hlm : len ≤ m := by rw [hmm]; split <;> omega
    refine ⟨(List.range len).map (fun i => (Sx i).data.toList), ⟨some a, cap, by simp, fun h0 => ?_⟩, by simp; omega, ?_⟩
    · simp at h0
      obtain ⟨b, off, spot⟩ := a
      have hspot : spot = none := by simpa [Addr.add] using World.cell?_spot (hc 0 (by omega)).1
      subst hspot
      have h1 : ∀ k, k < len → W.cell? ⟨b, off + k, none⟩ = some (.string (Sx k)) := fun k hk => by rw [← Go.WideShapes.add_plain]; exact (hc k (by omega)).1
      refine ⟨b, off, rfl, cell_lt (h1 0 h0), fun k hk => ?_⟩
      simp at hk
      rw [h1 k hk]
      simp [sv]
    · intro l hl
      simp at hl
      obtain ⟨i, hi, rfl⟩ := hl
      have := (hc i (by omega)).2
      simpa using this

set_option maxRecDepth 100000 in
theorem open_textsV {r : Reach} {b0 : Nat} {v : Value} {d : DataW H} {p : List MemPlace} (hv : Value.okWide Tryz.prog W r b0 28 v) (h : DataW.Trod enc Tryz.prog W 0 spare held 28 v d p) :
    ∃ ls, RdS W v ls ∧ ls.length ≤ maxLen ∧ ∀ l ∈ ls, l.length ≤ maxLen := by
  obtain ⟨a, len, cap, rfl⟩ := okWide_slice Tryz.underlying28 hv
  obtain ⟨fuel, hf⟩ := h
  exact open_texts (by simpa [Value.cells] using hf)

end
end Go.Proofs.YtjpclglklmlhlaaGreatDoor

/-
  The newest of sorted versions' texts in plain words: the last without a dash, else the last. Of no program.
-/
namespace Go.Proofs.YtjpclglklmlhlaaGreatDoor
open Go.RowKit

/-- A text without a dash. -/
def stb (l : List UInt8) : Bool := decide (dash l < 0)
def lastD (X : List (List UInt8)) : List UInt8 := X.getLast?.getD []
def lastSt (X : List (List UInt8)) : List UInt8 := lastD (X.filter stb)
def newestL (X : List (List UInt8)) : List UInt8 := if lastSt X = [] ∧ 0 < X.length then lastD X else lastSt X

theorem lastD_snoc (X : List (List UInt8)) (x : List UInt8) : lastD (X ++ [x]) = x := by simp [lastD]
theorem lastSt_take {X : List (List UInt8)} {k : Nat} (h : k < X.length) : lastSt (X.take (k + 1)) = if stb X[k] = true then X[k] else lastSt (X.take k) := by
  unfold lastSt
  rw [List.take_succ_eq_append_getElem h, List.filter_append]
  by_cases hs : stb X[k] = true
  · rw [if_pos hs]; simp [hs, lastD]
  · rw [if_neg hs]; simp [hs]
theorem lastSt_none {X : List (List UInt8)} (h : ∀ x ∈ X, stb x = false) : lastSt X = [] := by
  unfold lastSt
  rw [List.filter_eq_nil_iff.2 (fun x hx => by rw [h x hx]; simp)]
  rfl
theorem lastSt_at {X p t : List (List UInt8)} {x : List UInt8} (h : X.reverse = p ++ [x] ++ t) (hp : ∀ y ∈ p, stb y = false) (hx : stb x = true) : lastSt X = x := by
  have e : X = t.reverse ++ [x] ++ p.reverse := by
    have := congrArg List.reverse h
    simpa using this
  unfold lastSt
  have e2 : p.reverse.filter stb = [] := List.filter_eq_nil_iff.2 (fun y hy => by rw [hp y (by simpa using hy)]; simp)
  rw [e, List.filter_append, List.filter_append, e2]
  simp [hx, lastD]
theorem readOk_ne {l : List UInt8} (h : readOk l = true) : l ≠ [] := by
  rintro rfl
  revert h
  decide
theorem newest_some {X : List (List UInt8)} {x : List UInt8} (h : lastSt X = x) (hx : x ≠ []) : newestL X = x := by
  unfold newestL
  rw [h, if_neg (fun hh => hx hh.1)]
theorem newest_none {X : List (List UInt8)} (h : lastSt X = []) (hx : 0 < X.length) : newestL X = lastD X := by
  unfold newestL
  rw [h, if_pos ⟨rfl, hx⟩]
theorem lastD_get {X : List (List UInt8)} (h : 0 < X.length) : lastD X = X[X.length - 1]'(by omega) := by
  unfold lastD
  rw [List.getLast?_eq_getElem?, List.getElem?_eq_getElem (by omega)]
  rfl
end Go.Proofs.YtjpclglklmlhlaaGreatDoor

/-
  strings.Contains of a dash.
-/
namespace Go.Proofs.YtjpclglklmlhlaaGreatDoor
open Go.RowKit

set_option maxRecDepth 100000 in
set_option maxHeartbeats 1000000 in
theorem index_dash (s : ByteArray) (w : World) (hs : s.size ≤ 1048576) :
    Calls Tryz.prog 69 #[.string s, .string ⟨#[45]⟩] w fun e w' => e = .returned (.int .i64 (dash s.data.toList)) ∧ w' = w := by
  have HI := Lib.hid (sliteIndex_dash s w hs)
  go_enter Tryz.func69, Tryz.ntmps69
  go_wp2_with fail
  refine HI.out.mono ?_
  rintro e w' ⟨rfl, rfl⟩
  go_wp2_with fail
  go_ret
  exact ⟨rfl, rfl⟩
set_option maxRecDepth 100000 in
set_option maxHeartbeats 1000000 in
theorem contains_dash (s : ByteArray) (w : World) (hs : s.size ≤ 1048576) :
    Calls Tryz.prog 35 #[.string s, .string ⟨#[45]⟩] w fun e w' => e = .returned (.bool (!stb s.data.toList)) ∧ w' = w := by
  have HI := Lib.hid (index_dash s w hs)
  obtain ⟨d, HD⟩ : ∃ d, Hid (dash s.data.toList = d) := ⟨_, Lib.hid rfl⟩
  have HX : Hid ((!stb s.data.toList) = decide (0 ≤ d)) := Lib.hid (by unfold stb; rw [HD.out]; by_cases h : d < 0 <;> simp [h] <;> omega)
  rw [HX.out]
  go_enter Tryz.func35, Tryz.ntmps35
  go_wp2_with fail
  refine HI.out.mono ?_
  rw [HD.out]
  rintro e w' ⟨rfl, rfl⟩
  go_wp2_with fail
  go_ret
  exact ⟨rfl, rfl⟩
end Go.Proofs.YtjpclglklmlhlaaGreatDoor

/-
  slices.Backward at texts: an iterator that yields the elements of a row from its end.
-/
namespace Go.Proofs.YtjpclglklmlhlaaGreatDoor
open Go.RowKit Go.Shelf
attribute [local go_sem] Oper.semAt_some

/-- A place and the text that lies there. -/
abbrev BE := Nat × Part
def bkV (x : BE) : Array Value := #[.int .i64 (x.1 : Int), .string ⟨x.2.1.toArray⟩]
/-- The places of a list, from its end. -/
def bk (T : List Part) : List BE := (List.range T.length).map fun j => (T.length - 1 - j, T.getD (T.length - 1 - j) ⟨[], by simp⟩)
theorem bk_len (T : List Part) : (bk T).length = T.length := by simp [bk]
theorem bk_take {T : List Part} {j : Nat} (h : j < T.length) : (bk T).take (j + 1) = (bk T).take j ++ [(T.length - 1 - j, T[T.length - 1 - j])] := by
  rw [List.take_succ_eq_append_getElem (by rw [bk_len]; exact h)]
  congr 1
  have : T.length - 1 - j < T.length := by omega
  simp [bk, this]
theorem bk_snd (T : List Part) : (bk T).map (fun x => x.2) = T.reverse := by
  apply List.ext_getElem (by simp [bk])
  intro i h1 h2
  simp only [List.length_map, bk_len] at h1
  have : T.length - 1 - i < T.length := by omega
  simp [bk, this]
theorem parts_of : ∀ (T : List (List UInt8)), (∀ l ∈ T, l.length ≤ 1048576) → ∃ P : List Part, P.map Subtype.val = T
  | [], _ => ⟨[], rfl⟩
  | x :: T, h => by
    obtain ⟨P, hP⟩ := parts_of T (fun l hl => h l (List.mem_cons_of_mem _ hl))
    exact ⟨⟨x, h x (by simp)⟩ :: P, by simp [hP]⟩

set_option maxHeartbeats 1000000 in
theorem backward_in (n : Nat) (A : Option Addr) (len cap : Nat) (w : World) :
    CallsIn Fence.wide n Tryz.prog 34 #[.slice A len cap] w fun e w' => e = .returned (.func (.func 68) #[] #[.pointer (some ⟨w.heap.size, 0, none⟩)]) ∧ w' = w.alloc (.cells #[.slice A len cap] 28) := by
  refine callsIn_of_wp Tryz.func34 rfl trivial ?_ rfl
  simp only [Tryz.ntmps34, List.size_toArray, List.length_cons, List.length_nil, Nat.reduceAdd, Nat.reduceSub, Array.replicate_succ, Array.replicate_zero, List.push_toArray, List.append_toArray, List.nil_append, List.cons_append]
  gi_wp2
  go_ret
  exact ⟨rfl, rfl⟩

set_option maxRecDepth 100000 in
set_option maxHeartbeats 2000000 in
theorem back1_in (n : Nat) (hn : 1 ≤ n) (l Bs g cap : Nat) (T : List Part) (cur : Array Value) (hT : T.length ≤ 1048576) (hcur : ∀ k (h : k < T.length), cur[k]? = some (sv T[k].1)) (J Jx : List BE → World → Prop)
    (hY : ∀ pre x W, J pre W → pre.length < T.length → YieldAt Fence.wide (n - 1) Tryz.prog l (bkV x) W fun e W' =>
      (e = .returned (.bool true) ∧ J (pre ++ [x]) W' ∧ KpB Bs g W W') ∨ (e = .returned (.bool false) ∧ Jx (pre ++ [x]) W'))
    (W : World) (hBs : W.heap[Bs]? = some (.cells #[.slice (some ⟨g, 0, none⟩) T.length cap] 28 (0, 0))) (hBm : W.heap[g]? = some (.cells cur 9 (0, 0))) (h0 : J [] W) :
    CallsIn Fence.wide n Tryz.prog 68 #[.func (.yield l) #[] #[], .pointer (some ⟨Bs, 0, none⟩)] W fun e W' => (∃ v, e = .returned v) ∧
      ((∃ ys, ys = bk T ∧ J ys W') ∨ (∃ pre, pre <+: bk T ∧ Jx pre W')) := by
  have hc1 : W.cell? ⟨Bs, 0, none⟩ = some (.slice (some ⟨g, 0, none⟩) T.length cap) := by simp [World.cell?, hBs]
  refine callsIn_of_wp Tryz.func68 rfl trivial ?_ rfl
  simp only [Tryz.ntmps68, List.size_toArray, List.length_cons, List.length_nil, Nat.reduceAdd, Nat.reduceSub, Array.replicate_succ, Array.replicate_zero, List.push_toArray, List.append_toArray, List.nil_append, List.cons_append]
  gi_wp2
  gi_loopw [3] (fun i wr => ∃ j : Nat, j ≤ T.length ∧ i = .int .i64 ((T.length : Int) - 1 - j) ∧ wr.heap[Bs]? = some (.cells #[.slice (some ⟨g, 0, none⟩) T.length cap] 28 (0, 0)) ∧ wr.heap[g]? = some (.cells cur 9 (0, 0)) ∧ J ((bk T).take j) wr) (fun i _ => (intOf i + 1).toNat)
  case atStart => exact ⟨0, Nat.zero_le _, by simp, hBs, hBm, by simpa using h0⟩
  case round =>
    obtain ⟨j, hj, rfl, g1, g2, hJ⟩ := hrel
    have d1 : wr.cell? ⟨Bs, 0, none⟩ = some (.slice (some ⟨g, 0, none⟩) T.length cap) := by simp [World.cell?, g1]
    by_cases hlt : j < T.length
    · obtain ⟨k, hk⟩ : ∃ k : Nat, (T.length : Int) - 1 - j = (k : Int) := ⟨T.length - 1 - j, by omega⟩
      have hkl : k < T.length := by omega
      have d2 : wr.cell? ⟨g, k, none⟩ = some (.string ⟨T[k].1.toArray⟩) := by have := hcur k hkl; simp [World.cell?, g2, this, sv]
      have k0 : (0 : Int) ≤ (k : Int) := by omega
      have k1 : (k : Int) < (T.length : Int) := by omega
      have HTK := Lib.hid (bk_take hlt)
      have HKE : Hid (T.length - 1 - j = k) := Lib.hid (by omega)
      have HTK2 : Hid ((bk T).take (j + 1) = (bk T).take j ++ [(k, T[k])]) := Lib.hid (by
        have := HTK.out
        simp only [HKE.out] at this
        exact this)
      have hyy := hY ((bk T).take j) (k, T[k]) wr hJ (by rw [List.length_take, bk_len]; omega)
      unfold bkV at hyy
      obtain ⟨fn, tmps, assign, body, hy, hR⟩ := hyy
      have HPRE : Hid ((bk T).take j ++ [(k, T[k])] <+: bk T) := Lib.hid (by rw [← HTK2.out]; exact List.take_prefix _ _)
      have HR := Lib.hid hR
      rw [hk]
      clear hR hJ
      gi_wp2
      refine HR.out.mono ?_
      rintro e W3 (⟨rfl, hJ3, hk3⟩ | ⟨rfl, hJx3⟩)
      · gi_wp2
        go_roundw
        case rel => exact ⟨j + 1, by omega, by go_num, hk3.1.trans g1, hk3.2.trans g2, by rw [HTK2.out]; exact hJ3⟩
        case measure => simp [intOf]
      · gi_wp2
        refine bodyPost_ret (results_none rfl _ _ _) rfl ?_
        exact ⟨⟨_, rfl⟩, .inr ⟨_, HPRE.out, hJx3⟩⟩
    · have k0 : ¬ (0 : Int) ≤ (T.length : Int) - 1 - j := by omega
      have HAL : Hid ((bk T).take j = bk T) := Lib.hid (List.take_of_length_le (by rw [bk_len]; omega))
      gi_wp2
      go_end0
      first | exact ⟨⟨_, rfl⟩, .inl (by rw [← HAL.out]; exact hJ)⟩ | exact ⟨⟨_, rfl⟩, .inl ⟨_, rfl, by rw [← HAL.out]; exact hJ⟩⟩

/-- The iterator's contract, for a caller. -/
theorem back_stops (n : Nat) (hn : 1 ≤ n) (Bs g cap : Nat) (T : List Part) (cur : Array Value) (hT : T.length ≤ 1048576) (hcur : ∀ k (h : k < T.length), cur[k]? = some (sv T[k].1)) (w : World) (h1 : Bs < w.heap.size) (h2 : g < w.heap.size)
    (hBs : w.heap[Bs]? = some (.cells #[.slice (some ⟨g, 0, none⟩) T.length cap] 28 (0, 0))) (hBm : w.heap[g]? = some (.cells cur 9 (0, 0))) :
    SeqStopsK Fence.wide n Tryz.prog 68 #[.pointer (some ⟨Bs, 0, none⟩)] bkV (KpB Bs g) (fun ys => ys = bk T) (fun pre => pre <+: bk T) T.length w := fun l J Jx W hW _ _ hY h0 =>
  back1_in n hn l Bs g cap T cur hT hcur J Jx hY W ((hW.block Bs h1).trans hBs) ((hW.block g h2).trans hBm) h0
end Go.Proofs.YtjpclglklmlhlaaGreatDoor

/-
  slices.SortFunc, as the library lays it, at versions, at this seat.
-/
namespace Go.Proofs
open Go.Shelf
def Tryz.laysSort_ren : Go.Shelf.Ren := ⟨fun | 6 => 29 | 15 => 62 | 14 => 61 | 28 => 99 | 29 => 100 | 20 => 91 | 21 => 92 | 22 => 93 | 23 => 94 | 24 => 95 | 25 => 96 | 26 => 97 | 27 => 98 | 46 => 119 | 47 => 120 | 48 => 121 | 49 => 122 | 50 => 123 | 57 => 138 | n => n, fun | 22 => 47 | 24 => 43 | 25 => 46 | 3 => 3 | 39 => 71 | 0 => 0 | 53 => 104 | 55 => 106 | 4 => 4 | 46 => 97 | 45 => 96 | 50 => 101 | 5 => 5 | 9 => 9 | 66 => 128 | 70 => 132 | 76 => 141 | 77 => 142 | n => n, fun | n => n⟩
theorem Tryz.laysSort : Go.Proofs.SlLaysF0.n6 Tryz.prog Tryz.laysSort_ren := {
  mixed := by kernel_rfl
  f6 := ⟨Tryz.f29.name, by decide, Tryz.func29.trans (congrArg some (by kernel_rfl))⟩
  f14 := ⟨Tryz.f61.name, by decide, Tryz.func61.trans (congrArg some (by kernel_rfl))⟩
  f15 := Tryz.func62.trans (congrArg some (by kernel_rfl))
  f20 := ⟨Tryz.f91.name, by decide, Tryz.func91.trans (congrArg some (by kernel_rfl))⟩
  f21 := ⟨Tryz.f92.name, by decide, Tryz.func92.trans (congrArg some (by kernel_rfl))⟩
  f22 := ⟨Tryz.f93.name, by decide, Tryz.func93.trans (congrArg some (by kernel_rfl))⟩
  f23 := ⟨Tryz.f94.name, by decide, Tryz.func94.trans (congrArg some (by kernel_rfl))⟩
  f24 := ⟨Tryz.f95.name, by decide, Tryz.func95.trans (congrArg some (by kernel_rfl))⟩
  f25 := ⟨Tryz.f96.name, by decide, Tryz.func96.trans (congrArg some (by kernel_rfl))⟩
  f26 := ⟨Tryz.f97.name, by decide, Tryz.func97.trans (congrArg some (by kernel_rfl))⟩
  f27 := ⟨Tryz.f98.name, by decide, Tryz.func98.trans (congrArg some (by kernel_rfl))⟩
  f28 := Tryz.func99.trans (congrArg some (by kernel_rfl))
  f29 := Tryz.func100.trans (congrArg some (by kernel_rfl))
  f46 := ⟨Tryz.f119.name, by decide, Tryz.func119.trans (congrArg some (by kernel_rfl))⟩
  f47 := Tryz.func120.trans (congrArg some (by kernel_rfl))
  f48 := Tryz.func121.trans (congrArg some (by kernel_rfl))
  f49 := ⟨Tryz.f122.name, by decide, Tryz.func122.trans (congrArg some (by kernel_rfl))⟩
  f50 := ⟨Tryz.f123.name, by decide, Tryz.func123.trans (congrArg some (by kernel_rfl))⟩
  f57 := ⟨Tryz.f138.name, by decide, Tryz.func138.trans (congrArg some (by kernel_rfl))⟩
  t0 := Tryz.underlying0
  a0 := Tryz.isAgg0
  z0 := Tryz.sizeOf0
  v0 := Tryz.zeroValue0
  t3 := Tryz.underlying3
  a3 := Tryz.isAgg3
  z3 := Tryz.sizeOf3
  v3 := Tryz.zeroValue3
  t4 := Tryz.underlying4
  a4 := Tryz.isAgg4
  z4 := Tryz.sizeOf4
  v4 := Tryz.zeroValue4
  t5 := Tryz.underlying5
  a5 := Tryz.isAgg5
  z5 := Tryz.sizeOf5
  v5 := Tryz.zeroValue5
  t9 := Tryz.underlying9
  a9 := Tryz.isAgg9
  z9 := Tryz.sizeOf9
  v9 := Tryz.zeroValue9
  t22 := Tryz.underlying47
  a22 := Tryz.isAgg47
  z22 := Tryz.sizeOf47
  v22 := Tryz.zeroValue47
  t25 := Tryz.underlying46
  a25 := Tryz.isAgg46
  z25 := Tryz.sizeOf46
  v25 := Tryz.zeroValue46
  t39 := Tryz.underlying71
  a39 := Tryz.isAgg71
  z39 := Tryz.sizeOf71
  v39 := Tryz.zeroValue71
  t45 := Tryz.underlying96
  a45 := Tryz.isAgg96
  z45 := Tryz.sizeOf96
  v45 := Tryz.zeroValue96
  t46 := Tryz.underlying97
  a46 := Tryz.isAgg97
  z46 := Tryz.sizeOf97
  v46 := Tryz.zeroValue97
  t50 := Tryz.underlying101
  a50 := Tryz.isAgg101
  z50 := Tryz.sizeOf101
  v50 := Tryz.zeroValue101
  t53 := Tryz.underlying104
  a53 := Tryz.isAgg104
  z53 := Tryz.sizeOf104
  v53 := Tryz.zeroValue104
  t55 := Tryz.underlying106
  a55 := Tryz.isAgg106
  z55 := Tryz.sizeOf106
  v55 := Tryz.zeroValue106
  t66 := Tryz.underlying128
  a66 := Tryz.isAgg128
  z66 := Tryz.sizeOf128
  v66 := Tryz.zeroValue128
  t70 := Tryz.underlying132
  a70 := Tryz.isAgg132
  z70 := Tryz.sizeOf132
  v70 := Tryz.zeroValue132
  t76 := Tryz.underlying141
  a76 := Tryz.isAgg141
  z76 := Tryz.sizeOf141
  v76 := Tryz.zeroValue141
  t77 := Tryz.underlying142
  a77 := Tryz.isAgg142
  z77 := Tryz.sizeOf142
  v77 := Tryz.zeroValue142 }
end Go.Proofs

/-
  append(versions, v): a struct of four cells onto a row of the call's own.
-/
namespace Go.Proofs.YtjpclglklmlhlaaGreatDoor
open Go.RowKit

theorem verinfo : (Tryz.prog.info? 43).map (fun i => (i.zero, i.size, i.bytes)) = some (some (.agg #[.int .i64 0, .int .i64 0, .int .i64 0, .slice none 0 0]), 4, 48) := by kernel_rfl

/-- A version's four cells. -/
def vc4 (p : Int × Int × Int × Value) : List Value := [.int .i64 p.1, .int .i64 p.2.1, .int .i64 p.2.2.1, p.2.2.2]
def flat4 (l : List (Int × Int × Int × Value)) : List Value := l.flatMap vc4
theorem flat4_app (l m : List (Int × Int × Int × Value)) : flat4 (l ++ m) = flat4 l ++ flat4 m := by simp [flat4]
theorem flat4_len (l : List (Int × Int × Int × Value)) : (flat4 l).length = l.length * 4 := by
  induction l with
  | nil => rfl
  | cons a l ih => simp only [flat4, List.flatMap_cons, List.length_append, List.length_cons] at ih ⊢; simp only [vc4, List.length_cons, List.length_nil]; omega

/-- v is the call's own row of these versions. -/
def Vers (w : World) (base : Nat) (v : Value) (l : List (Int × Int × Int × Value)) : Prop := w.ownsRow base 43 4 v l.length (flat4 l)

theorem run_append_ver (w : World) (ty : TypeId) (base : Nat) (v : Value) (l : List (Int × Int × Int × Value)) (hown : Vers w base v l) (B c : Nat) (T : TypeId) (fr : Nat × Nat) (x y z : Int) (s : Value) (hs : s.oneCell' = true)
    (hB : w.heap[B]? = some (.cells #[.int .i64 x, .int .i64 y, .int .i64 z, s] T fr)) (hlen : l.length + 1 ≤ 16777216) (hbase : base ≤ w.heap.size) :
    ∃ v' w', (Builtin.append_ #[47, 47] ty #[v, .slice (some ⟨B, 0, none⟩) 1 c]).run Tryz.prog w = .ok v' w' ∧ Vers w' base v' (l ++ [(x, y, z, s)]) ∧ w.grownBy w' v.ownBlock := by
  obtain ⟨i0, hi, hz0, hz1, hz2⟩ := info_parts verinfo
  obtain ⟨v', w', h1, h2, h3, _, _⟩ := run_append_own_at (P := Tryz.prog) w base 47 ty 43 i0 _ 4 48 Tryz.underlying47 hi hz0 hz1 hz2 rfl (by decide) v l.length (flat4 l) hown
    ⟨B, 0, none⟩ 1 c [.int .i64 x, .int .i64 y, .int .i64 z, s] (by rfl)
    (by
      intro j u hj
      rw [Go.WideShapes.add_plain]
      match j, hj with
      | 0, hj | 1, hj | 2, hj | 3, hj => simp at hj; subst hj; simp [World.cell?, hB]
      | n + 4, hj => simp at hj)
    (by intro u hu; simp at hu; rcases hu with rfl | rfl | rfl | rfl <;> first | rfl | exact hs) (by unfold maxLen; omega) (by omega) hbase
  refine ⟨v', w', h1, ?_, h3⟩
  unfold Vers
  rw [flat4_app, List.length_append]
  exact h2
end Go.Proofs.YtjpclglklmlhlaaGreatDoor

/-
  slices.CompareFunc at impl's identifiers, comparePre, cmp.Or at four ints.
-/
namespace Go.Proofs.YtjpclglklmlhlaaGreatDoor
open Go.RowKit

theorem sm_get {ls : List (List UInt8)} (h : ∀ l ∈ ls, l.length ≤ 1048576) (k : Nat) (hk : k < ls.length) : (⟨ls[k].toArray⟩ : ByteArray).size ≤ 1048576 := by
  have := h ls[k] (List.getElem_mem hk)
  show ls[k].toArray.size ≤ _
  simpa using this

set_option maxRecDepth 100000 in
set_option maxHeartbeats 1000000 in
theorem compareFunc_any (va vb : Value) (x y : List (List UInt8)) (w : World) (ha : RdS w va x) (hb : RdS w vb y) (hx : Sm x) (hy : Sm y) :
    Calls Tryz.prog 102 #[va, vb, .func (.func 103) #[] #[]] w fun e w' => e = .returned (.int .i64 (cmpL x y)) ∧ ∃ n, w' = w.drewN n := by
  obtain ⟨A, ca, rfl, ha⟩ := ha
  obtain ⟨B, cb, rfl, hb⟩ := hb
  have hx1 := hx.1
  have hy1 := hy.1
  have HX := Lib.hid hx.2
  have HY := Lib.hid hy.2
  clear hx hy
  go_enter Tryz.func102, Tryz.ntmps102
  go_wp2
  go_loopw [7, 8, 9, 10, 13] (fun _ _ _ _ i wr => ∃ k n : Nat, k ≤ x.length ∧ k ≤ y.length ∧ i = .int .i64 k ∧ wr = w.drewN n ∧ Hid (cmpL x y = cmpL (x.drop k) (y.drop k))) (fun _ _ _ _ i _ => x.length - (intOf i).toNat)
  case atStart => exact ⟨0, 0, Nat.zero_le _, Nat.zero_le _, rfl, rfl, Lib.hid (by simp)⟩
  case round =>
    obtain ⟨k, n, hk, hk', rfl, rfl, H⟩ := hrel
    by_cases hlt : k < x.length
    · obtain ⟨g, off, rfl, _, hca⟩ := ha (by omega)
      have d1 : w.cell? ⟨g, off + k, none⟩ = some (.string ⟨x[k].toArray⟩) := hca k hlt
      have k0 : (0 : Int) ≤ (k : Int) := by omega
      have k1 : (k : Int) < (x.length : Int) := by omega
      by_cases hlt2 : k < y.length
      · obtain ⟨g2, off2, rfl, _, hcb⟩ := hb (by omega)
        have d2 : w.cell? ⟨g2, off2 + k, none⟩ = some (.string ⟨y[k].toArray⟩) := hcb k hlt2
        have k2 : (k : Int) < (y.length : Int) := by omega
        have HC := Lib.hid (fun W => compareIdentifiers_any ⟨x[k].toArray⟩ ⟨y[k].toArray⟩ W (sm_get HX.out k hlt) (sm_get HY.out k hlt2))
        have HS := Lib.hid (cmpL_step hlt hlt2)
        clear ha hb hca hcb
        obtain ⟨z, HZ⟩ : ∃ z, Hid (cmpPart x[k] y[k] = z) := ⟨_, Lib.hid rfl⟩
        by_cases hz : z = 0
        · have hz' : (z != 0) = false := by simp [hz]
          have HN : Hid (cmpL x y = cmpL (x.drop (k + 1)) (y.drop (k + 1))) := Lib.hid (by rw [H.out, HS.out, HZ.out, hz]; rfl)
          clear hz
          go_wp2_with fail
          refine (HC.out _).mono ?_
          rw [show cmpPart (⟨x[k].toArray⟩ : ByteArray).data.toList (⟨y[k].toArray⟩ : ByteArray).data.toList = z from HZ.out]
          rintro e w' ⟨rfl, m, rfl⟩
          go_wp2_with fail
          go_roundw
          case rel => exact ⟨k + 1, n + m, by omega, by omega, by go_num, by simp [World.drewN], HN⟩
          case measure => simp [intOf]; omega
        · have hz' : (z != 0) = true := by simp [hz]
          have HN : Hid (cmpL x y = z) := Lib.hid (by rw [H.out, HS.out, HZ.out]; exact orI_ne _ hz)
          clear hz
          go_wp2_with fail
          refine (HC.out _).mono ?_
          rw [show cmpPart (⟨x[k].toArray⟩ : ByteArray).data.toList (⟨y[k].toArray⟩ : ByteArray).data.toList = z from HZ.out]
          rintro e w' ⟨rfl, m, rfl⟩
          go_wp2_with fail
          go_ret
          exact ⟨ret_int HN.out.symm, n + m, by simp [World.drewN]⟩
      · have HN : Hid (cmpL x y = 1) := Lib.hid (by rw [H.out]; exact cmpL_right hlt hlt2)
        clear ha hb hca
        go_wp2_with fail
        go_ret
        exact ⟨ret_int HN.out.symm, n, rfl⟩
    · clear ha hb
      by_cases hlt2 : k < y.length
      · have HN : Hid (cmpL x y = -1) := Lib.hid (by rw [H.out]; exact cmpL_left hlt hlt2)
        have hl : (x.length : Int) < (y.length : Int) := by omega
        go_wp2_with fail
        go_ret
        exact ⟨ret_int HN.out.symm, n, rfl⟩
      · have HN : Hid (cmpL x y = 0) := Lib.hid (by rw [H.out]; exact cmpL_end hlt hlt2)
        have hl : ¬ (x.length : Int) < (y.length : Int) := by omega
        go_wp2_with fail
        go_ret
        exact ⟨ret_int HN.out.symm, n, rfl⟩

set_option maxRecDepth 100000 in
set_option maxHeartbeats 1000000 in
theorem comparePre_any (va vb : Value) (x y : List (List UInt8)) (w : World) (ha : RdS w va x) (hb : RdS w vb y) (hx : Sm x) (hy : Sm y) :
    Calls Tryz.prog 65 #[va, vb] w fun e w' => e = .returned (.int .i64 (cmpPre x y)) ∧ ∃ n, w' = w.drewN n := by
  have HC := Lib.hid (compareFunc_any va vb x y w ha hb hx hy)
  obtain ⟨A, ca, rfl, _⟩ := ha
  obtain ⟨B, cb, rfl, _⟩ := hb
  have hx1 := hx.1
  have hy1 := hy.1
  by_cases h1 : x = []
  · have HP := Lib.hid (cmpPre_empty (x := x) (y := y) (.inl h1))
    have q1 : ((x.length : Int) == 0) = true := by simp [h1]
    clear h1 hx hy HC
    go_enter Tryz.func65, Tryz.ntmps65
    go_wp2_with (go_at_call 64; refine (cmpInt_any _ _ _).mono ?_; rintro e w' ⟨rfl, rfl⟩)
    go_ret
    exact ⟨ret_int HP.out.symm, 0, rfl⟩
  · have hl1 : 0 < x.length := by cases x <;> simp_all
    have q1 : ((x.length : Int) == 0) = false := int_beq_false (by omega)
    by_cases h2 : y = []
    · have HP := Lib.hid (cmpPre_empty (x := x) (y := y) (.inr h2))
      have q2 : ((y.length : Int) == 0) = true := by simp [h2]
      clear h1 h2 hx hy HC
      go_enter Tryz.func65, Tryz.ntmps65
      go_wp2_with (go_at_call 64; refine (cmpInt_any _ _ _).mono ?_; rintro e w' ⟨rfl, rfl⟩)
      go_ret
      exact ⟨ret_int HP.out.symm, 0, rfl⟩
    · have hl2 : 0 < y.length := by cases y <;> simp_all
      have q2 : ((y.length : Int) == 0) = false := int_beq_false (by omega)
      have HP := Lib.hid (cmpPre_full (x := x) (y := y) (by rintro (h | h); exact h1 h; exact h2 h))
      clear h1 h2 hx hy
      go_enter Tryz.func65, Tryz.ntmps65
      go_wp2_with fail
      refine HC.out.mono ?_
      rintro e w' ⟨rfl, n, rfl⟩
      go_wp2_with fail
      go_ret
      exact ⟨ret_int HP.out.symm, n, rfl⟩

set_option maxRecDepth 100000 in
set_option maxHeartbeats 1000000 in
theorem cmpOr4_any (p q r s : Int) (w : World) (B : Nat) (t : TypeId) (hB : w.heap[B]? = some (.cells #[.int .i64 p, .int .i64 q, .int .i64 r, .int .i64 s] t)) :
    Calls Tryz.prog 63 #[.slice (some ⟨B, 0, none⟩) 4 4] w fun e w' => e = .returned (.int .i64 (orI p (orI q (orI r s)))) ∧ w' = w := by
  have c0 : w.cell? ⟨B, 0, none⟩ = some (.int .i64 p) := by simp [World.cell?, hB]
  have c1 : w.cell? ⟨B, 1, none⟩ = some (.int .i64 q) := by simp [World.cell?, hB]
  have c2 : w.cell? ⟨B, 2, none⟩ = some (.int .i64 r) := by simp [World.cell?, hB]
  have c3 : w.cell? ⟨B, 3, none⟩ = some (.int .i64 s) := by simp [World.cell?, hB]
  clear hB
  by_cases hp : p = 0
  · by_cases hq : q = 0
    · by_cases hr : r = 0
      · have HO : Hid (orI p (orI q (orI r s)) = s) := Lib.hid (by rw [hp, hq, hr]; rfl)
        have q1 : (p != 0) = false := by simp [hp]
        have q2 : (q != 0) = false := by simp [hq]
        have q3 : (r != 0) = false := by simp [hr]
        clear hp hq hr
        by_cases hs : s = 0
        · have HO2 : Hid (orI p (orI q (orI r s)) = 0) := Lib.hid (by rw [HO.out, hs])
          have q4 : (s != 0) = false := by simp [hs]
          clear hs
          go_enter Tryz.func63, Tryz.ntmps63
          go_wp2
          refine wp_loop_rounds 5 ?_
          rw [rounds_succ]; go_wp2
          rw [rounds_succ]; go_wp2
          rw [rounds_succ]; go_wp2
          rw [rounds_succ]; go_wp2
          rw [rounds_succ]; go_wp2
          go_ret
          exact ⟨ret_int HO2.out.symm, rfl⟩
        · have q4 : (s != 0) = true := by simp [hs]
          clear hs
          go_enter Tryz.func63, Tryz.ntmps63
          go_wp2
          refine wp_loop_rounds 4 ?_
          rw [rounds_succ]; go_wp2
          rw [rounds_succ]; go_wp2
          rw [rounds_succ]; go_wp2
          rw [rounds_succ]; go_wp2
          go_ret
          exact ⟨ret_int HO.out.symm, rfl⟩
      · have HO : Hid (orI p (orI q (orI r s)) = r) := Lib.hid (by rw [hp, hq, orI_zero, orI_zero, orI_ne _ hr])
        have q1 : (p != 0) = false := by simp [hp]
        have q2 : (q != 0) = false := by simp [hq]
        have q3 : (r != 0) = true := by simp [hr]
        clear hp hq hr
        go_enter Tryz.func63, Tryz.ntmps63
        go_wp2
        refine wp_loop_rounds 3 ?_
        rw [rounds_succ]; go_wp2
        rw [rounds_succ]; go_wp2
        rw [rounds_succ]; go_wp2
        go_ret
        exact ⟨ret_int HO.out.symm, rfl⟩
    · have HO : Hid (orI p (orI q (orI r s)) = q) := Lib.hid (by rw [hp, orI_zero, orI_ne _ hq])
      have q1 : (p != 0) = false := by simp [hp]
      have q2 : (q != 0) = true := by simp [hq]
      clear hp hq
      go_enter Tryz.func63, Tryz.ntmps63
      go_wp2
      refine wp_loop_rounds 2 ?_
      rw [rounds_succ]; go_wp2
      rw [rounds_succ]; go_wp2
      go_ret
      exact ⟨ret_int HO.out.symm, rfl⟩
  · have HO : Hid (orI p (orI q (orI r s)) = p) := Lib.hid (orI_ne _ hp)
    have q1 : (p != 0) = true := by simp [hp]
    clear hp
    go_enter Tryz.func63, Tryz.ntmps63
    go_wp2
    refine wp_loop_rounds 1 ?_
    rw [rounds_succ]; go_wp2
    go_ret
    exact ⟨ret_int HO.out.symm, rfl⟩
end Go.Proofs.YtjpclglklmlhlaaGreatDoor

/-
  impl.CompareVersion: how two versions stand.
-/
namespace Go.Proofs.YtjpclglklmlhlaaGreatDoor
open Go.RowKit

set_option maxRecDepth 100000 in
set_option maxHeartbeats 8000000 in
theorem implCompareVersion_grow (a b c a' b' c' : Int) (va vb : Value) (x y : List (List UInt8)) (w : World) (ha : RdS w va x) (hb : RdS w vb y) (hx : Sm x) (hy : Sm y) :
    Calls Tryz.prog 30 #[.agg #[.int .i64 a, .int .i64 b, .int .i64 c, va], .agg #[.int .i64 a', .int .i64 b', .int .i64 c', vb]] w fun e w' => ∃ q o, e = .returned (.int .i64 (cmpVer a b c x a' b' c' y)) ∧ w' = (((w.alloc (.cells #[.int .i64 a, .int .i64 b, .int .i64 c, va] 43)).alloc (.cells #[.int .i64 a', .int .i64 b', .int .i64 c', vb] 43)).drewN q).alloc o := by
  have HP := Lib.hid (fun (W : World) (h : Below w.heap.size w W) => comparePre_any va vb x y W (ha.below h) (hb.below h) hx hy)
  have HV : Hid (cmpVer a b c x a' b' c' y = orI (cmpI a a') (orI (cmpI b b') (orI (cmpI c c') (cmpPre x y)))) := Lib.hid rfl
  have HB : Below w.heap.size w ((w.alloc (.cells #[.int .i64 a, .int .i64 b, .int .i64 c, va] 43)).alloc (.cells #[.int .i64 a', .int .i64 b', .int .i64 c', vb] 43)) := ((Below.refl _ _).alloc (Nat.le_refl _) _).alloc (by simp) _
  clear ha hb hx hy
  go_enter Tryz.func30, Tryz.ntmps30
  go_wp2_with fail
  have c0 : ((w.alloc (.cells #[.int .i64 a, .int .i64 b, .int .i64 c, va] 43)).alloc (.cells #[.int .i64 a', .int .i64 b', .int .i64 c', vb] 43)).cell? ⟨w.heap.size, 0, none⟩ = some (.int .i64 a) := by simp
  have c1 : ((w.alloc (.cells #[.int .i64 a, .int .i64 b, .int .i64 c, va] 43)).alloc (.cells #[.int .i64 a', .int .i64 b', .int .i64 c', vb] 43)).cell? ⟨w.heap.size, 1, none⟩ = some (.int .i64 b) := by simp
  have c2 : ((w.alloc (.cells #[.int .i64 a, .int .i64 b, .int .i64 c, va] 43)).alloc (.cells #[.int .i64 a', .int .i64 b', .int .i64 c', vb] 43)).cell? ⟨w.heap.size, 2, none⟩ = some (.int .i64 c) := by simp
  have c3 : ((w.alloc (.cells #[.int .i64 a, .int .i64 b, .int .i64 c, va] 43)).alloc (.cells #[.int .i64 a', .int .i64 b', .int .i64 c', vb] 43)).cell? ⟨w.heap.size, 3, none⟩ = some va := by simp
  have e0 : ((w.alloc (.cells #[.int .i64 a, .int .i64 b, .int .i64 c, va] 43)).alloc (.cells #[.int .i64 a', .int .i64 b', .int .i64 c', vb] 43)).cell? ⟨w.heap.size + 1, 0, none⟩ = some (.int .i64 a') := by simp
  have e1 : ((w.alloc (.cells #[.int .i64 a, .int .i64 b, .int .i64 c, va] 43)).alloc (.cells #[.int .i64 a', .int .i64 b', .int .i64 c', vb] 43)).cell? ⟨w.heap.size + 1, 1, none⟩ = some (.int .i64 b') := by simp
  have e2 : ((w.alloc (.cells #[.int .i64 a, .int .i64 b, .int .i64 c, va] 43)).alloc (.cells #[.int .i64 a', .int .i64 b', .int .i64 c', vb] 43)).cell? ⟨w.heap.size + 1, 2, none⟩ = some (.int .i64 c') := by simp
  have e3 : ((w.alloc (.cells #[.int .i64 a, .int .i64 b, .int .i64 c, va] 43)).alloc (.cells #[.int .i64 a', .int .i64 b', .int .i64 c', vb] 43)).cell? ⟨w.heap.size + 1, 3, none⟩ = some vb := by simp
  have l1 : w.heap.size + 1 < ((w.alloc (.cells #[.int .i64 a, .int .i64 b, .int .i64 c, va] 43)).alloc (.cells #[.int .i64 a', .int .i64 b', .int .i64 c', vb] 43)).heap.size := by simp
  obtain ⟨n0, hn0⟩ : ∃ n, n = w.heap.size := ⟨_, rfl⟩
  rw [← hn0] at HB c0 c1 c2 c3 e0 e1 e2 e3 l1 ⊢
  obtain ⟨W, hW⟩ : ∃ W, W = ((w.alloc (.cells #[.int .i64 a, .int .i64 b, .int .i64 c, va] 43)).alloc (.cells #[.int .i64 a', .int .i64 b', .int .i64 c', vb] 43)) := ⟨_, rfl⟩
  rw [← hW] at HB c0 c1 c2 c3 e0 e1 e2 e3 l1 ⊢
  have HW := Lib.hid hW
  clear hW
  have HN0 := Lib.hid hn0
  clear hn0
  go_region_held3 (fun w' => w'.cell? ⟨n0, 0, none⟩ = some (.int .i64 a) ∧ w'.cell? ⟨n0, 1, none⟩ = some (.int .i64 b) ∧ w'.cell? ⟨n0, 2, none⟩ = some (.int .i64 c) ∧ w'.cell? ⟨n0, 3, none⟩ = some va ∧ w'.cell? ⟨n0 + 1, 0, none⟩ = some (.int .i64 a') ∧ w'.cell? ⟨n0 + 1, 1, none⟩ = some (.int .i64 b') ∧ w'.cell? ⟨n0 + 1, 2, none⟩ = some (.int .i64 c') ∧ w'.cell? ⟨n0 + 1, 3, none⟩ = some vb) (first | exact ⟨c0, c1, c2, c3, e0, e1, e2, e3⟩ | go_keep) ((first | (go_at_call 64; (with_reducible refine (cmpInt_any _ _ _).mono ?_); rintro e w' ⟨rfl, rfl⟩) | (go_at_call 65; (with_reducible refine (HP.out _ (by first | exact HN0.out ▸ HB.trans (below_drewN _ _ 1))).mono ?_); rintro e w' ⟨rfl, nq, rfl⟩) | (go_at_call 63; refine (cmpOr4_any _ _ _ _ _ _ _ (heap_alloc_new _ _)).mono ?_; rintro e w' ⟨rfl, rfl⟩)))
  all_goals
    go_wp2_with fail
    go_ret
    exact ⟨1 + nq, _, ret_int HV.out.symm, by rw [← HW.out]⟩

theorem implCompareVersion_any (a b c a' b' c' : Int) (va vb : Value) (x y : List (List UInt8)) (w : World) (ha : RdS w va x) (hb : RdS w vb y) (hx : Sm x) (hy : Sm y) :
    Calls Tryz.prog 30 #[.agg #[.int .i64 a, .int .i64 b, .int .i64 c, va], .agg #[.int .i64 a', .int .i64 b', .int .i64 c', vb]] w fun e w' => e = .returned (.int .i64 (cmpVer a b c x a' b' c' y)) ∧ Below w.heap.size w w' := by
  refine (implCompareVersion_grow a b c a' b' c' va vb x y w ha hb hx hy).mono ?_
  rintro e w' ⟨q, o, rfl, rfl⟩
  exact ⟨rfl, ((((Below.refl _ _).alloc (Nat.le_refl _) _).alloc (by simp) _).trans (below_drewN _ _ q)).alloc (by simp [World.drewN]; omega) _⟩
end Go.Proofs.YtjpclglklmlhlaaGreatDoor

/-
  Equal neighbours of a list in order struck: the list of its versions, each once.
-/
namespace Go.Proofs.YtjpclglklmlhlaaGreatDoor
open Go.RowKit

theorem cmpT_anti {s t : List UInt8} (h1 : cmpT s t ≤ 0) (h2 : cmpT t s ≤ 0) : cmpT s t = 0 := by
  have := cmp_T.1 s t; omega
theorem get!_of {T : List (List UInt8)} {m : Nat} (h : m < T.length) : T.toArray[m]! = T[m] := by
  rw [getElem!_pos T.toArray m (by simpa using h)]; simp
theorem compact_inv {T : List (List UInt8)} (hok : ∀ t ∈ T, readOk t = true) (hs : ∀ i j (_ : i < j) (hj : j < T.length), cmpT (T[i]'(by omega)) T[j] ≤ 0) :
    ∀ m, m ≤ T.length → Up (Lib.compactUpTo T.toArray m) ∧ ∀ t, t ∈ Lib.compactUpTo T.toArray m ↔ t ∈ T.take m
  | 0, _ => ⟨by simp [Lib.compactUpTo, Up], fun t => by simp [Lib.compactUpTo]⟩
  | m + 1, hm => by
    obtain ⟨hu, hmem⟩ := compact_inv hok hs m (by omega)
    have hlt : m < T.length := by omega
    rw [Lib.compactUpTo_succ, get!_of hlt]
    have htake : T.take (m + 1) = T.take m ++ [T[m]] := List.take_succ_eq_append_getElem hlt
    by_cases hk : Lib.keeps T.toArray m = true
    · rw [if_pos hk]
      refine ⟨?_, fun t => by rw [htake, List.mem_append, List.mem_append, hmem t]⟩
      unfold Up at hu ⊢
      rw [List.pairwise_append]
      refine ⟨hu, by simp, fun t ht x hx => ?_⟩
      simp at hx
      subst hx
      obtain ⟨i, hi, rfl⟩ := List.mem_take_iff_getElem.1 ((hmem t).1 ht)
      have hi' : i < m := by omega
      have h1 := hs i m hi' hlt
      suffices hne : ¬ cmpT T[i] T[m] = 0 by omega
      intro h0
      have heq : T[i] = T[m] := (cmpT_zero (hok _ (List.getElem_mem _)) (hok _ (List.getElem_mem _))).1 h0
      have hprev : T[m - 1]'(by omega) = T[m] := by
        by_cases hd : i = m - 1
        · subst hd; exact heq
        · have a1 := hs i (m - 1) (by omega) (by omega)
          have a2 := hs (m - 1) m (by omega) hlt
          rw [heq] at a1
          exact (cmpT_zero (hok _ (List.getElem_mem _)) (hok _ (List.getElem_mem _))).1 (cmpT_anti a2 a1)
      unfold Lib.keeps at hk
      rw [decide_eq_true_eq] at hk
      rcases hk with h | h
      · omega
      · exact h (by rw [get!_of hlt, get!_of (show m - 1 < T.length by omega), hprev])
    · rw [if_neg hk, List.append_nil]
      refine ⟨hu, fun t => ?_⟩
      rw [hmem t, htake, List.mem_append]
      refine ⟨Or.inl, fun h => h.elim id (fun h => ?_)⟩
      simp at h
      subst h
      unfold Lib.keeps at hk
      rw [decide_eq_true_eq] at hk
      have hm0 : m ≠ 0 := fun h => hk (Or.inl h)
      have he : T[m] = T[m - 1]'(by omega) := by
        by_cases h : T.toArray[m]! = T.toArray[m - 1]!
        · rwa [get!_of hlt, get!_of (show m - 1 < T.length by omega)] at h
        · exact absurd (Or.inr h) hk
      rw [he]
      exact List.mem_take_iff_getElem.2 ⟨m - 1, by omega, rfl⟩
theorem sortOf_compact {ls T : List (List UInt8)} (hT : ∀ t, t ∈ T ↔ t ∈ ls ∧ readOk t = true) (hs : ∀ i j (_ : i < j) (hj : j < T.length), cmpT (T[i]'(by omega)) T[j] ≤ 0) : SortOf ls (Lib.compact T) := by
  have h := compact_inv (fun t ht => ((hT t).1 ht).2) hs T.length (Nat.le_refl _)
  refine ⟨h.1, fun t => ?_⟩
  have := h.2 t
  rw [List.take_length] at this
  exact this.trans (hT t)
end Go.Proofs.YtjpclglklmlhlaaGreatDoor

/-
  slices.SortFunc at a row of versions: the row holds the same versions, in order.
-/
namespace Go.Proofs.YtjpclglklmlhlaaGreatDoor
open Go.RowKit
open Go.Sort (SWO PermIn SortedIn HoldsK flatK grow)

/-- A version by its text, and the value of its identifiers. -/
abbrev VI := List UInt8 × Value
def cv (x : VI) : Int × Int × Int × Value := (readA x.1 0, readA x.1 1, readA x.1 2, x.2)
def vi (X : List VI) (i : Nat) : VI := X.getD i ([], .slice none 0 0)
def encI (X : List VI) (i : Nat) : List Value := vc4 (cv (vi X i))
/-- v is the call's own row of these versions, and their identifiers lie where they say. -/
def VerRow (w : World) (base : Nat) (v : Value) (X : List VI) : Prop := Vers w base v (X.map cv) ∧ ∀ x ∈ X, Strs w 0 x.2 (readP x.1)
/-- The value v reads as these versions. -/
def RdV (w : World) (v : Value) (X : List VI) : Prop := ∃ A cap, v = .slice A X.length cap ∧ ∀ k (h : k < X.length), ∃ g, A = some ⟨g, 0, none⟩ ∧ g < w.heap.size ∧ w.cell? ⟨g, k * 4, none⟩ = some (.int .i64 (readA X[k].1 0)) ∧ w.cell? ⟨g, k * 4 + 1, none⟩ = some (.int .i64 (readA X[k].1 1)) ∧ w.cell? ⟨g, k * 4 + 2, none⟩ = some (.int .i64 (readA X[k].1 2)) ∧ w.cell? ⟨g, k * 4 + 3, none⟩ = some X[k].2 ∧ Strs w 0 X[k].2 (readP X[k].1)
theorem RdV.below {w w' : World} {v : Value} {X : List VI} (h : RdV w v X) (hb : Below w.heap.size w w') : RdV w' v X := by
  obtain ⟨A, cap, hv, hc⟩ := h
  refine ⟨A, cap, hv, fun k hk => ?_⟩
  obtain ⟨g, hA, hg, h0, h1, h2, h3, h4⟩ := hc k hk
  exact ⟨g, hA, Nat.lt_of_lt_of_le hg hb.size, keepC hb h0, keepC hb h1, keepC hb h2, keepC hb h3, h4.below hb⟩

theorem flat4_get : ∀ (L : List (Int × Int × Int × Value)) (k j : Nat) (h : k < L.length), j < 4 → (flat4 L)[k * 4 + j]? = (vc4 L[k])[j]?
  | [], k, j, h, _ => by simp at h
  | a :: t, 0, j, _, hj => by
    rw [show 0 * 4 + j = j by omega]
    show (vc4 a ++ flat4 t)[j]? = _
    rw [List.getElem?_append_left (by simpa [vc4] using hj)]
    rfl
  | a :: t, k + 1, j, h, hj => by
    have := flat4_get t k j (by simpa using h) hj
    show (vc4 a ++ flat4 t)[(k + 1) * 4 + j]? = _
    rw [List.getElem?_append_right (by simp [vc4]; omega)]
    simp only [vc4, List.length_cons, List.length_nil]
    rw [show (k + 1) * 4 + j - (0 + 1 + 1 + 1 + 1) = k * 4 + j by omega, this]
    rfl

theorem sw_heap (enc : Nat → List Value) (k : Nat) (w : World) (g off m : Nat) (dk : Array Nat) (os : Array Obj) (b : Nat) (hb : b < w.heap.size) (hne : b ≠ g) : (sortWorldK enc k w g off m dk os).heap[b]? = w.heap[b]? := by
  unfold sortWorldK
  rw [Go.Sort.heap_grow_old _ _ (by rw [Go.Sort.size_putRowK]; exact hb)]
  unfold Go.Sort.putRowK Go.Sort.putRow Go.Sort.mapBlock Go.Sort.ahead
  show (w.heap.modify g _)[b]? = _
  rw [Array.getElem?_modify, if_neg (fun e => hne e.symm)]
theorem sw_grown (enc : Nat → List Value) (k : Nat) (w : World) (g off m : Nat) (dk : Array Nat) (os : Array Obj) : w.grownBy (sortWorldK enc k w g off m dk os) (some g) :=
  ⟨rfl, rfl, rfl, size_sortWorldK_c enc k w g off m dk os, fun b hb hne => sw_heap enc k w g off m dk os b hb (fun e => hne (by rw [e]))⟩

theorem alloc3 (W : World) (o1 o2 o : Obj) (q : Nat) : (((W.alloc o1).alloc o2).drewN q).alloc o = grow (W.drewN q) #[o1, o2, o] := by
  rw [Go.Sort.alloc_eq_grow, Go.Sort.alloc_eq_grow, Go.Sort.alloc_eq_grow, Go.Sort.grow_grow]
  show grow (grow (W.drewN q) (#[o1] ++ #[o2])) #[o] = _
  rw [Go.Sort.grow_grow]
  rfl
theorem swo_T (X : List VI) : SWO (ltOf fun i j : Nat => cmpT (vi X i).1 (vi X j).1) where
  irrefl x := by
    have := cmp_T.1 (vi X x).1 (vi X x).1
    unfold ltOf; simp; omega
  trans x y z h1 h2 := by
    unfold ltOf at *
    simp at *
    exact cmpT_lt_trans h1 (by omega)
  ntrans x y z h1 h2 := by
    unfold ltOf at *
    simp at *
    have a := cmp_T.1 (vi X x).1 (vi X y).1
    have b := cmp_T.1 (vi X y).1 (vi X z).1
    have c := cmp_T.1 (vi X x).1 (vi X z).1
    have := cmp_T.2 (vi X z).1 (vi X y).1 (vi X x).1 (by omega) (by omega)
    omega

theorem vi_of {X : List VI} {p : VI → Prop} (h : ∀ x ∈ X, p x) (h0 : p ([], .slice none 0 0)) (i : Nat) : p (vi X i) := by
  unfold vi
  rw [List.getD_eq_getElem?_getD]
  cases hi : X[i]? with
  | none => exact h0
  | some x => exact h x (List.mem_of_getElem? hi)
theorem vi_get {X : List VI} {i : Nat} (h : i < X.length) : vi X i = X[i] := by unfold vi; simp [h]

set_option maxRecDepth 100000 in
set_option maxHeartbeats 1000000 in
theorem sortFunc_any (w : World) (base g cap : Nat) (X : List VI) (h : VerRow w base (.slice (some ⟨g, 0, none⟩) X.length cap) X) (hn : X.length ≤ 1048576) (hsm : ∀ x ∈ X, Sm (readP x.1)) :
    Calls Tryz.prog 29 #[.slice (some ⟨g, 0, none⟩) X.length cap, .func (.func 30) #[] #[]] w fun e w' => e = .returned (.tuple #[]) ∧ ∃ Y : List VI, Y.Perm X ∧ (∀ i j (_ : i < j) (hj : j < Y.length), cmpT (Y[i]'(by omega)).1 Y[j].1 ≤ 0) ∧ RdV w' (.slice (some ⟨g, 0, none⟩) X.length cap) Y ∧ Below base w w' := by
  obtain ⟨hV, hP⟩ := h
  obtain ⟨cur, hg, hbase⟩ : ∃ cur, w.heap[g]? = some (.cells cur 43) ∧ base ≤ g := by
    rcases hV.2 with ⟨hv, _⟩ | ⟨g', cap', cur, hv, hb, hh, _⟩
    · cases hv
    · simp only [Value.slice.injEq, Option.some.injEq, Addr.mk.injEq, and_true] at hv
      obtain ⟨rfl, _, _⟩ := hv
      exact ⟨cur, hh, hb⟩
  have hlt := lt_of_heap hg
  have keepS : ∀ (w' : World) (u : Value) (ls : List (List UInt8)), w.grownBy w' (some g) → Strs w 0 u ls → Strs w' 0 u ls := fun w' u ls hgr hS => World.ownsRow.kept hS hgr (by
    rcases hS.2 with ⟨rfl, _⟩ | ⟨g', cap', cur', rfl, _, hh, _⟩
    · left; rfl
    · right
      simp only [Value.ownBlock, ne_eq, Option.some.injEq]
      rintro rfl
      rw [hg] at hh
      simp only [Option.some.injEq, Obj.cells.injEq] at hh
      exact absurd hh.2.1 (by decide))
  have hStr : ∀ i, Strs w 0 (vi X i).2 (readP (vi X i).1) := vi_of (p := fun x => Strs w 0 x.2 (readP x.1)) hP (Strs.nil w 0)
  have hSm : ∀ i, Sm (readP (vi X i).1) := vi_of (p := fun x => Sm (readP x.1)) hsm sm_nil
  have hH : HoldsK (encI X) 4 w g 0 (Array.range X.length) := by
    intro j hj
    rw [Go.Sort.size_flatK, Array.size_range] at hj
    refine ⟨?_, World.ownsRow.frozenAt (base := base) (e := 43) (size := 4) (n := X.length) (cap := cap) (xs := flat4 (X.map cv)) (by have := hV; unfold Vers at this; rw [List.length_map] at this; exact this) _⟩
    rw [Go.Sort.get_flatK _ _ _ _ (by simpa using hj), Nat.zero_add]
    have hk : j / 4 < X.length := by omega
    have hd : (Array.range X.length)[j / 4]! = j / 4 := by rw [getElem!_pos _ _ (by simpa using hk)]; simp
    rw [hd]
    have hf := flat4_get (X.map cv) (j / 4) (j % 4) (by simpa using hk) (by omega)
    rw [show j / 4 * 4 + j % 4 = j by omega] at hf
    have hm : j % 4 < (encI X (j / 4)).length := by show j % 4 < 4; omega
    have := World.ownsRow.cells (g := g) hV rfl j ((encI X (j / 4))[j % 4]!) (by
      have e : vc4 ((X.map cv)[j / 4]'(by simpa using hk)) = encI X (j / 4) := by unfold encI; rw [vi_get hk, List.getElem_map]
      have e2 : (encI X (j / 4))[j % 4]! = (encI X (j / 4))[j % 4] := getElem!_pos (encI X (j / 4)) (j % 4) hm
      rw [hf, e, e2, List.getElem?_eq_getElem hm])
    rw [Go.WideShapes.add_plain, Nat.zero_add] at this
    exact this
  have hcmp : CmpLays Tryz.prog 30 #[] (encI X) 4 (fun i j : Nat => cmpT (vi X i).1 (vi X j).1) g 0 (Array.range X.length).size w := fun m os dk _ x y => by
    have hgr := sw_grown (encI X) 4 w g 0 m dk os
    have := implCompareVersion_grow (readA (vi X x).1 0) (readA (vi X x).1 1) (readA (vi X x).1 2) (readA (vi X y).1 0) (readA (vi X y).1 1) (readA (vi X y).1 2) (vi X x).2 (vi X y).2 (readP (vi X x).1) (readP (vi X y).1) _ (RdS.of_strs (keepS _ _ _ hgr (hStr x))) (RdS.of_strs (keepS _ _ _ hgr (hStr y))) (hSm x) (hSm y)
    exact this.mono fun e w' ⟨q, o, he, hw⟩ => ⟨he, q, _, hw.trans (alloc3 _ _ _ _ _)⟩
  have eg : ∀ args w, (callFunc 30 args).run Tryz.prog w = .ok (.enter 30 args) w := enters_of Tryz.func30 (by kernel_rfl) rfl
  have hcon := AnyQ.slices_SortFunc Tryz.laysSort 4 Tryz.isAgg43 Tryz.sizeOf43 (encI X) (fun _ => rfl) (fun x v hv => by
    obtain ⟨uA, uc, hu⟩ := (hStr x).slice
    simp [encI, vc4, cv] at hv
    rcases hv with rfl | rfl | rfl | rfl
    · rfl
    · rfl
    · rfl
    · rw [hu]; rfl) _ (swo_T X) 30 #[] g 0 cap (Array.range X.length) w eg hcmp hH hlt (by simp; omega)
  rw [Array.size_range] at hcon
  refine hcon.mono ?_
  rintro e w' ⟨rfl, d', n, os, hp, hs, rfl⟩
  have hsz : d'.size = X.length := by have := hp.1; simpa using this
  have hperm : d'.toList.Perm (List.range X.length) := by
    have := hp.2.2
    rw [← hsz, Array.extract_size] at this
    rw [hsz] at this
    have e : (Array.range X.length).extract 0 X.length = Array.range X.length := by simp
    rw [e] at this
    simpa using this
  have hY : ((List.range X.length).map (vi X)) = X := by
    apply List.ext_getElem (by simp)
    intro i h1 h2
    simp at h1
    simp [vi_get h1]
  have hH' := holdsK_sortWorldK_c (encI X) 4 w g 0 (Array.range X.length) d' n os hH hlt (by simpa using hsz)
  have hgr := sw_grown (encI X) 4 w g 0 n d' os
  have gd : ∀ i (h : i < d'.size), d'[i]! = d'[i] := fun i h => getElem!_pos d' i h
  refine ⟨rfl, d'.toList.map (vi X), ?_, ?_, ?_, ?_⟩
  · have := hperm.map (vi X); rwa [hY] at this
  · intro i j hij hj
    simp at hj
    have := hs i j (Nat.zero_le _) hij (by omega)
    unfold ltOf at this
    simp at this
    rw [gd i (by omega), gd j hj] at this
    have c := cmp_T.1 (vi X d'[i]).1 (vi X d'[j]).1
    simp
    omega
  · refine ⟨some ⟨g, 0, none⟩, cap, by simp [hsz], fun k hk => ?_⟩
    simp at hk
    have hc : ∀ r, r < 4 → (sortWorldK (encI X) 4 w g 0 n d' os).cell? ⟨g, k * 4 + r, none⟩ = some ((encI X d'[k])[r]!) := fun r hr => by
      have := (hH' (k * 4 + r) (by rw [Go.Sort.size_flatK]; omega)).1
      rw [Go.Sort.get_flatK _ _ _ _ (by omega), Nat.zero_add, show (k * 4 + r) / 4 = k by omega, show (k * 4 + r) % 4 = r by omega, gd k hk] at this
      exact this
    simp only [List.getElem_map, Array.getElem_toList]
    exact ⟨g, rfl, Nat.lt_of_lt_of_le hlt hgr.size, hc 0 (by omega), hc 1 (by omega), hc 2 (by omega), hc 3 (by omega), keepS _ _ _ hgr (hStr _)⟩
  · exact (Below.refl base w).grown hgr (by omega) (fun g' hg' => by cases hg'; exact hbase)
end Go.Proofs.YtjpclglklmlhlaaGreatDoor

/-
  slices.Compact at texts, as the library lays it, at this seat.
-/
namespace Go.Proofs
open Go.Shelf
def Tryz.laysCompact_ren : Go.Shelf.Ren := ⟨fun | 194 => 32 | n => n, fun | 31 => 28 | 9 => 9 | 3 => 3 | 4 => 4 | 0 => 0 | n => n, fun | n => n⟩
theorem Tryz.laysCompact : Go.Proofs.Lays.n194 Tryz.prog Tryz.laysCompact_ren := {
  mixed := by kernel_rfl
  f194 := Tryz.func32.trans (congrArg some (by kernel_rfl))
  t0 := Tryz.underlying0
  a0 := Tryz.isAgg0
  z0 := Tryz.sizeOf0
  v0 := Tryz.zeroValue0
  t3 := Tryz.underlying3
  a3 := Tryz.isAgg3
  z3 := Tryz.sizeOf3
  v3 := Tryz.zeroValue3
  t4 := Tryz.underlying4
  a4 := Tryz.isAgg4
  z4 := Tryz.sizeOf4
  v4 := Tryz.zeroValue4
  t9 := Tryz.underlying9
  a9 := Tryz.isAgg9
  z9 := Tryz.sizeOf9
  v9 := Tryz.zeroValue9
  t31 := Tryz.underlying28
  a31 := Tryz.isAgg28
  z31 := Tryz.sizeOf28
  v31 := Tryz.zeroValue28 }
end Go.Proofs

/-
  Rows of versions and of texts: append of a version; slices.Compact of a row of texts.
-/
namespace Go.Proofs.YtjpclglklmlhlaaGreatDoor
open Go.RowKit

/-- append(versions, v) at a plain region's list. -/
theorem wpList_append_ver {w : World} {ops : Array Oper} {rest : List Oper} {o : Oper} {a : Act} {Q : Exit → Act → World → Prop} (hgd : o.guard = none) (s x : Operand)
    (ho : o.op = .call { callee := .builtin .append, args := #[s, x], argTypes := #[47, 47] })
    (base : Nat) (v : Value) (l : List (Int × Int × Int × Value)) (hs : a.eval s = v) (hown : Vers w base v l) (B c : Nat) (T : TypeId) (fr : Nat × Nat) (p q r : Int) (u : Value) (hu : u.oneCell' = true)
    (hx : a.eval x = .slice (some ⟨B, 0, none⟩) 1 c) (hB : w.heap[B]? = some (.cells #[.int .i64 p, .int .i64 q, .int .i64 r, u] T fr)) (hlen : l.length + 1 ≤ 16777216) (hbase : base ≤ w.heap.size)
    (h : ∀ v' w', Vers w' base v' (l ++ [(p, q, r, u)]) → w.grownBy w' v.ownBlock → wpList Tryz.prog ops Q rest (a.put o.dst v') w') : wpList Tryz.prog ops Q (o :: rest) a w := by
  refine wpList_plain hgd fun _ hK => ?_
  obtain ⟨v', w', hr, h2, h3⟩ := run_append_ver w o.type base v l hown B c T fr p q r u hu hB hlen hbase
  unfold Oper.wp execOp
  simp only [ho, resolve, invoke, builtin, Sem.run_bind, Sem.run_pure, Result.andThen_ok, List.map_toArray, List.map_cons, List.map_nil, hs, hx, hr]
  exact hK _ _ (h v' w' h2 h3)

theorem Vers.form {w : World} {base : Nat} {v : Value} {l : List (Int × Int × Int × Value)} (h : Vers w base v l) : (v = .slice none 0 0 ∧ l = []) ∨ ∃ g cap, v = .slice (some ⟨g, 0, none⟩) l.length cap ∧ base ≤ g ∧ g < w.heap.size := by
  rcases h.2 with ⟨hv, hl⟩ | ⟨g, cap, cur, hv, hb, hh, _⟩
  · left; exact ⟨hv, List.length_eq_zero_iff.1 hl⟩
  · right; exact ⟨g, cap, hv, hb, (Array.getElem?_eq_some_iff.1 hh).1⟩
theorem Vers.owned {w : World} {base : Nat} {v : Value} {l : List (Int × Int × Int × Value)} (h : Vers w base v l) : ∀ g, v.ownBlock = some g → base ≤ g := by
  intro g hg
  rcases h.form with ⟨rfl, _⟩ | ⟨g', cap, rfl, hb, _⟩
  · simp [Value.ownBlock] at hg
  · simp [Value.ownBlock] at hg; omega
theorem Vers.below {w w' : World} {base : Nat} {v : Value} {l : List (Int × Int × Int × Value)} (h : Vers w base v l) (hb : Below w.heap.size w w') : Vers w' base v l :=
  World.ownsRow.kept h (row := none) ⟨hb.os, hb.tape, hb.output, hb.size, fun i hi _ => hb.block i hi⟩ (by
    rcases h.form with ⟨rfl, _⟩ | ⟨g, cap, rfl, _, _⟩
    · left; rfl
    · right; simp [Value.ownBlock])
theorem Vers.empty (w : World) (base : Nat) (hb : base ≤ w.heap.size) : Vers (w.alloc (.cells #[] 43)) base (.slice (some ⟨w.heap.size, 0, none⟩) 0 0) [] := by
  have h := World.ownsRow_lit (base := base) (e := 43) (size := 4) w #[] 0 hb (by unfold maxLen; omega) (by simp)
  simpa [Vers, flat4] using h
theorem VerRow.below {w w' : World} {base : Nat} {v : Value} {X : List VI} (h : VerRow w base v X) (hb : Below w.heap.size w w') : VerRow w' base v X := ⟨h.1.below hb, fun x hx => (h.2 x hx).below hb⟩
/-- A row of versions that grows leaves texts as they were. -/
theorem Strs.grownV {w w' : World} {base : Nat} {v u : Value} {l : List (Int × Int × Int × Value)} {ls : List (List UInt8)} (h : Strs w 0 u ls) (hV : Vers w base v l) (hg : w.grownBy w' v.ownBlock) : Strs w' 0 u ls :=
  World.ownsRow.kept h hg (by
    rcases h.2 with ⟨rfl, _⟩ | ⟨g', cap', cur', rfl, _, hh, _⟩
    · left; rfl
    · right
      rcases hV.2 with ⟨rfl, _⟩ | ⟨g, cap, cur, rfl, _, hgg, _⟩
      · simp [Value.ownBlock]
      · simp only [Value.ownBlock, ne_eq, Option.some.injEq]
        rintro rfl
        rw [hgg] at hh
        simp only [Option.some.injEq, Obj.cells.injEq] at hh
        exact absurd hh.2.1 (by decide))

/-- A run of stores into a row of texts. -/
theorem Strs.setMany {base b cap : Nat} : ∀ (vs : List (List UInt8)) (k : Nat) (L : List (List UInt8)) (w : World), Strs w base (.slice (some ⟨b, 0, none⟩) L.length cap) L → k + vs.length ≤ L.length →
    Strs (w.setCells b k (vs.map sv)) base (.slice (some ⟨b, 0, none⟩) L.length cap) (L.take k ++ vs ++ L.drop (k + vs.length))
  | [], k, L, w, h, _ => by simpa [World.setCells] using h
  | x :: vs, k, L, w, h, hk => by
    simp only [List.length_cons] at hk
    have h1 := h.set k x
    have h2 := Strs.setMany vs (k + 1) (L.set k x) _ h1 (by simp; omega)
    rw [List.length_set] at h2
    have e : (L.set k x).take (k + 1) ++ vs ++ (L.set k x).drop (k + 1 + vs.length) = L.take k ++ (x :: vs) ++ L.drop (k + (x :: vs).length) := by
      rw [List.drop_set_of_lt (by omega)]
      rw [List.take_succ_eq_append_getElem (by simp; omega), List.take_set_of_le (by omega), List.getElem_set_self]
      simp only [List.append_assoc, List.cons_append, List.nil_append, List.length_cons]
      rw [show k + 1 + vs.length = k + (vs.length + 1) by omega]
    rw [e] at h2
    exact h2
theorem below_setCells {n b : Nat} {w0 : World} (hb : n ≤ b) : ∀ (vs : List Value) (k : Nat) (w : World), Below n w0 w → Below n w0 (w.setCells b k vs)
  | [], _, _, h => h
  | v :: r, k, _, h => below_setCells hb r (k + 1) _ (h.setCell (p := ⟨b, k, none⟩) hb v)
theorem Strs.cut {w : World} {base b cap : Nat} {A B : List (List UInt8)} (h : Strs w base (.slice (some ⟨b, 0, none⟩) (A ++ B).length cap) (A ++ B)) : Strs w base (.slice (some ⟨b, 0, none⟩) A.length cap) A := by
  rcases h.2 with ⟨hv, _⟩ | ⟨g, cap', cur, hv, hb, hh, hc, hm, hs, ht⟩
  · cases hv
  · refine ⟨by simp, .inr ⟨g, cap', cur, ?_, hb, hh, ?_, hm, hs, ?_⟩⟩
    · simp only [Value.slice.injEq] at hv; rw [hv.1, hv.2.2]
    · simp at hc; omega
    · have := congrArg (List.take A.length) ht
      rw [List.take_take] at this
      simp only [Nat.mul_one, List.length_append, List.map_append] at this ⊢
      rw [show min A.length (A.length + B.length) = A.length by omega] at this
      rw [this, List.take_append_of_le_length (by simp), List.take_of_length_le (by simp)]

theorem compact_any (w : World) (base b cap : Nat) (T : List (List UInt8)) (h : Strs w base (.slice (some ⟨b, 0, none⟩) T.length cap) T) (hn : T.length ≤ 1048576) :
    Calls Tryz.prog 32 #[.slice (some ⟨b, 0, none⟩) T.length cap] w fun e w' => ∃ g c, e = .returned (.slice (some ⟨g, 0, none⟩) (Lib.compact T).length c) ∧ Strs w' base (.slice (some ⟨g, 0, none⟩) (Lib.compact T).length c) (Lib.compact T) ∧ Below base w w' := by
  obtain ⟨hb, hcap⟩ : base ≤ b ∧ T.length ≤ cap := by
    rcases h.2 with ⟨hv, _⟩ | ⟨g, cap', cur, hv, hb, _, hc, _⟩
    · cases hv
    · simp only [Value.slice.injEq, Option.some.injEq, Addr.mk.injEq, and_true] at hv
      omega
  have hSx : Lib.strsOf (fun i => (⟨(T.getD i []).toArray⟩ : ByteArray)) T.length = T := by
    unfold Lib.strsOf
    apply List.ext_getElem (by simp)
    intro i h1 h2
    simp [h2]
  have hcon := Any.slices_Compact_string_cells Tryz.laysCompact b 0 T.length cap (fun i => (⟨(T.getD i []).toArray⟩ : ByteArray)) w (by omega) hcap (fun i hi => by
      rw [Nat.zero_add, h.cell i hi]
      simp [sv, hi]) (fun j _ => by rw [Nat.zero_add]; exact World.ownsRow.frozenAt h j)
  rw [hSx] at hcon
  refine hcon.mono ?_
  rintro e w' ⟨rfl, q, rfl⟩
  have hle := Lib.compact_length_le T
  have hl : (Lib.compact T ++ List.replicate (T.length - (Lib.compact T).length) []).length = T.length := by simp; omega
  have h2 := Strs.setMany (Lib.compact T ++ List.replicate (T.length - (Lib.compact T).length) []) 0 T (w.drewN q) (h.below (below_drewN _ _ q)) (by omega)
  rw [List.take_zero, List.nil_append, Nat.zero_add, hl, List.drop_length, List.append_nil] at h2
  have h3 : Strs ((w.drewN q).setCells b 0 ((Lib.compact T ++ List.replicate (T.length - (Lib.compact T).length) []).map sv)) base (.slice (some ⟨b, 0, none⟩) (Lib.compact T ++ List.replicate (T.length - (Lib.compact T).length) []).length cap) (Lib.compact T ++ List.replicate (T.length - (Lib.compact T).length) []) := by rw [hl]; exact h2
  exact ⟨b, cap, rfl, h3.cut, below_setCells hb _ _ _ (below_drewN _ _ q)⟩
end Go.Proofs.YtjpclglklmlhlaaGreatDoor

/-
  strings.Join, as the library lays it, at this seat.
-/
namespace Go.Proofs
open Go.Shelf
def Tryz.laysJoin_ren : Go.Shelf.Ren := ⟨fun | 156 => 67 | 165 => 105 | 166 => 106 | 169 => 107 | 240 => 125 | 241 => 126 | 276 => 140 | 277 => 141 | n => n, fun | 31 => 28 | 9 => 9 | 3 => 3 | 4 => 4 | 0 => 0 | 20 => 20 | 72 => 110 | 76 => 114 | 70 => 108 | 37 => 61 | 75 => 113 | 127 => 135 | 164 => 145 | 5 => 5 | 80 => 116 | n => n, fun | n => n⟩
theorem Tryz.laysJoin : Go.Proofs.Lays.n156 Tryz.prog Tryz.laysJoin_ren := {
  mixed := by kernel_rfl
  f156 := Tryz.func67.trans (congrArg some (by kernel_rfl))
  f165 := Tryz.func105.trans (congrArg some (by kernel_rfl))
  f166 := Tryz.func106.trans (congrArg some (by kernel_rfl))
  f169 := Tryz.func107.trans (congrArg some (by kernel_rfl))
  f240 := Tryz.func125.trans (congrArg some (by kernel_rfl))
  f241 := Tryz.func126.trans (congrArg some (by kernel_rfl))
  f276 := Tryz.func140.trans (congrArg some (by kernel_rfl))
  f277 := Tryz.func141.trans (congrArg some (by kernel_rfl))
  t0 := Tryz.underlying0
  a0 := Tryz.isAgg0
  z0 := Tryz.sizeOf0
  v0 := Tryz.zeroValue0
  t3 := Tryz.underlying3
  a3 := Tryz.isAgg3
  z3 := Tryz.sizeOf3
  v3 := Tryz.zeroValue3
  t4 := Tryz.underlying4
  a4 := Tryz.isAgg4
  z4 := Tryz.sizeOf4
  v4 := Tryz.zeroValue4
  t9 := Tryz.underlying9
  a9 := Tryz.isAgg9
  z9 := Tryz.sizeOf9
  v9 := Tryz.zeroValue9
  t20 := Tryz.underlying20
  a20 := Tryz.isAgg20
  z20 := Tryz.sizeOf20
  v20 := Tryz.zeroValue20
  t31 := Tryz.underlying28
  a31 := Tryz.isAgg28
  z31 := Tryz.sizeOf28
  v31 := Tryz.zeroValue28
  t37 := Tryz.underlying61
  a37 := Tryz.isAgg61
  z37 := Tryz.sizeOf61
  v37 := Tryz.zeroValue61
  t70 := Tryz.underlying108
  a70 := Tryz.isAgg108
  z70 := Tryz.sizeOf108
  v70 := Tryz.zeroValue108
  t72 := Tryz.underlying110
  a72 := Tryz.isAgg110
  z72 := Tryz.sizeOf110
  v72 := Tryz.zeroValue110
  t75 := Tryz.underlying113
  a75 := Tryz.isAgg113
  z75 := Tryz.sizeOf113
  v75 := Tryz.zeroValue113
  t76 := Tryz.underlying114
  a76 := Tryz.isAgg114
  z76 := Tryz.sizeOf114
  v76 := Tryz.zeroValue114
  t127 := Tryz.underlying135
  a127 := Tryz.isAgg135
  z127 := Tryz.sizeOf135
  v127 := Tryz.zeroValue135
  t164 := Tryz.underlying145
  a164 := Tryz.isAgg145
  z164 := Tryz.sizeOf145
  v164 := Tryz.zeroValue145 }
end Go.Proofs

/-
  strings.Join of a list of texts at a dot.
-/
namespace Go.Proofs
open Go.Shelf
theorem Tryz.extraJoin : Builder.Extra Tryz.prog Tryz.laysJoin_ren where
  sizeBuilder := by kernel_rfl
  liesBuilder := by kernel_rfl
  t5 := Tryz.underlying5
  a5 := Tryz.isAgg5
  z5 := Tryz.sizeOf5
  v5 := Tryz.zeroValue5
  infoByte := by kernel_rfl
  cellsByte := by kernel_rfl
  sizeByte := by kernel_rfl
  neB5 := by decide
namespace YtjpclglklmlhlaaGreatDoor
open Go.RowKit

theorem inter_flat (x : List UInt8) : ∀ xs : List (List UInt8), Lib.join (x :: xs) [46] = x ++ xs.flatMap (fun y => 46 :: y)
  | [] => by simp [Lib.join, List.intercalate]
  | y :: ys => by
    have := inter_flat y ys
    unfold Lib.join at this ⊢
    simp [List.intercalate] at this ⊢
    rw [this]
theorem join_pre {ls : List (List UInt8)} (h : ls ≠ []) : preText ls = 45 :: Lib.join ls [46] := by
  cases ls with
  | nil => exact absurd rfl h
  | cons x xs => rw [inter_flat]; rfl
theorem flat_len (ls : List (List UInt8)) (h : ∀ l ∈ ls, l.length ≤ 20) : (ls.flatMap (fun y => (46 : UInt8) :: y)).length ≤ 21 * ls.length := by
  induction ls with
  | nil => simp
  | cons x xs ih =>
    have := ih (fun l hl => h l (by simp [hl]))
    have := h x (by simp)
    simp only [List.flatMap_cons, List.length_append, List.length_cons]
    omega
theorem join_len {ls : List (List UInt8)} (h : ∀ l ∈ ls, l.length ≤ 20) (h5 : ls.length ≤ 5) : (Lib.join ls [46]).length ≤ 200 := by
  cases ls with
  | nil => simp [Lib.join_nil]
  | cons x xs =>
    rw [inter_flat]
    have := flat_len xs (fun l hl => h l (by simp [hl]))
    have := h x (by simp)
    simp at h5
    rw [List.length_append]
    omega

theorem joinDot_any (w : World) (base g cap : Nat) (ls : List (List UInt8)) (h : Strs w base (.slice (some ⟨g, 0, none⟩) ls.length cap) ls) (h20 : ∀ l ∈ ls, l.length ≤ 20) (h5 : ls.length ≤ 5) :
    Calls Tryz.prog 67 #[.slice (some ⟨g, 0, none⟩) ls.length cap, .string ⟨#[46]⟩] w fun e w' => e = .returned (.string ⟨(Lib.join ls [46]).toArray⟩) ∧ Below w.heap.size w w' := by
  obtain ⟨hlen, hr⟩ := h
  have hS : Strs w base (.slice (some ⟨g, 0, none⟩) ls.length cap) ls := ⟨hlen, hr⟩
  have hcap : ls.length ≤ cap := by
    rcases hr with ⟨hv, _⟩ | ⟨g', cap', cur, hv, _, _, hc, _⟩
    · cases hv
    · simp only [Value.slice.injEq] at hv; omega
  have hg : g < w.heap.size := by
    rcases hS.form with ⟨h', _⟩ | ⟨g', cap', h', _, hg'⟩
    · cases h'
    · simp only [Value.slice.injEq, Option.some.injEq, Addr.mk.injEq, and_true] at h'
      rw [h'.1]; exact hg'
  have hm : (ls.map (fun l => (⟨l.toArray⟩ : ByteArray))).map (fun x => x.data.toList) = ls := by rw [List.map_map]; exact List.map_id'' (fun l => rfl) ls
  have hJ := Any.strings_Join Tryz.laysJoin Tryz.extraJoin g 0 cap (ls.map (fun l => (⟨l.toArray⟩ : ByteArray))) ⟨#[46]⟩ w (fun j x hx => by
      rw [List.getElem?_map] at hx
      cases hj : ls[j]? with
      | none => rw [hj] at hx; simp at hx
      | some y =>
        rw [hj] at hx
        simp at hx
        subst hx
        obtain ⟨hl, rfl⟩ := List.getElem?_eq_some_iff.1 hj
        rw [Nat.zero_add]
        exact hS.cell j hl) hg (by simp; omega) (by simpa using hcap) (by rw [hm]; have := join_len h20 h5; show (Lib.join ls [46]).length ≤ _; omega)
  rw [hm] at hJ
  have e : (ls.map (fun l => (⟨l.toArray⟩ : ByteArray))).length = ls.length := by simp
  rw [e] at hJ
  exact hJ
end YtjpclglklmlhlaaGreatDoor
end Go.Proofs

/-
  strconv.Itoa, as the library lays it, at this seat.
-/
namespace Go.Proofs
open Go.Shelf
def Tryz.laysItoa_ren : Go.Shelf.Ren := ⟨fun | 171 => 104 | 243 => 124 | 246 => 139 | 283 => 144 | 284 => 145 | 285 => 146 | 286 => 147 | 129 => 100 | 317 => 148 | 318 => 149 | 319 => 150 | 320 => 151 | 337 => 152 | 338 => 153 | n => n, fun | 3 => 3 | 9 => 9 | 2 => 2 | 4 => 4 | 171 => 153 | 0 => 0 | 53 => 106 | 37 => 61 | 5 => 5 | 173 => 155 | 212 => 158 | 51 => 104 | 20 => 20 | 213 => 159 | 46 => 71 | 232 => 160 | 233 => 161 | n => n, fun | 17 => 3 | 18 => 4 | 19 => 5 | n => n⟩
theorem Tryz.laysItoa : Go.Proofs.LaysM.n171 Tryz.prog Tryz.laysItoa_ren := {
  mixed := by kernel_rfl
  f129 := Tryz.func100.trans (congrArg some (by kernel_rfl))
  f171 := Tryz.func104.trans (congrArg some (by kernel_rfl))
  f243 := Tryz.func124.trans (congrArg some (by kernel_rfl))
  f246 := Tryz.func139.trans (congrArg some (by kernel_rfl))
  f283 := Tryz.func144.trans (congrArg some (by kernel_rfl))
  f284 := Tryz.func145.trans (congrArg some (by kernel_rfl))
  f285 := Tryz.func146.trans (congrArg some (by kernel_rfl))
  f286 := Tryz.func147.trans (congrArg some (by kernel_rfl))
  f317 := Tryz.func148.trans (congrArg some (by kernel_rfl))
  f318 := Tryz.func149.trans (congrArg some (by kernel_rfl))
  f319 := Tryz.func150.trans (congrArg some (by kernel_rfl))
  f320 := Tryz.func151.trans (congrArg some (by kernel_rfl))
  f337 := Tryz.func152.trans (congrArg some (by kernel_rfl))
  f338 := Tryz.func153.trans (congrArg some (by kernel_rfl))
  t0 := Tryz.underlying0
  a0 := Tryz.isAgg0
  z0 := Tryz.sizeOf0
  v0 := Tryz.zeroValue0
  t2 := Tryz.underlying2
  a2 := Tryz.isAgg2
  z2 := Tryz.sizeOf2
  v2 := Tryz.zeroValue2
  t3 := Tryz.underlying3
  a3 := Tryz.isAgg3
  z3 := Tryz.sizeOf3
  v3 := Tryz.zeroValue3
  t4 := Tryz.underlying4
  a4 := Tryz.isAgg4
  z4 := Tryz.sizeOf4
  v4 := Tryz.zeroValue4
  t5 := Tryz.underlying5
  a5 := Tryz.isAgg5
  z5 := Tryz.sizeOf5
  v5 := Tryz.zeroValue5
  t9 := Tryz.underlying9
  a9 := Tryz.isAgg9
  z9 := Tryz.sizeOf9
  v9 := Tryz.zeroValue9
  t20 := Tryz.underlying20
  a20 := Tryz.isAgg20
  z20 := Tryz.sizeOf20
  v20 := Tryz.zeroValue20
  t37 := Tryz.underlying61
  a37 := Tryz.isAgg61
  z37 := Tryz.sizeOf61
  v37 := Tryz.zeroValue61
  t46 := Tryz.underlying71
  a46 := Tryz.isAgg71
  z46 := Tryz.sizeOf71
  v46 := Tryz.zeroValue71
  t51 := Tryz.underlying104
  a51 := Tryz.isAgg104
  z51 := Tryz.sizeOf104
  v51 := Tryz.zeroValue104
  t53 := Tryz.underlying106
  a53 := Tryz.isAgg106
  z53 := Tryz.sizeOf106
  v53 := Tryz.zeroValue106
  t171 := Tryz.underlying153
  a171 := Tryz.isAgg153
  z171 := Tryz.sizeOf153
  v171 := Tryz.zeroValue153
  t173 := Tryz.underlying155
  a173 := Tryz.isAgg155
  z173 := Tryz.sizeOf155
  v173 := Tryz.zeroValue155
  t212 := Tryz.underlying158
  a212 := Tryz.isAgg158
  z212 := Tryz.sizeOf158
  v212 := Tryz.zeroValue158
  t213 := Tryz.underlying159
  a213 := Tryz.isAgg159
  z213 := Tryz.sizeOf159
  t232 := Tryz.underlying160
  a232 := Tryz.isAgg160
  z232 := Tryz.sizeOf160
  v232 := Tryz.zeroValue160
  t233 := Tryz.underlying161
  a233 := Tryz.isAgg161
  z233 := Tryz.sizeOf161
  v233 := Tryz.zeroValue161
  g17 := by kernel_rfl
  g18 := by kernel_rfl
  g19 := by kernel_rfl
  i0 := by kernel_rfl
  i2 := by kernel_rfl
  i3 := by kernel_rfl
  i4 := by kernel_rfl
  i5 := by kernel_rfl
  i9 := by kernel_rfl
  i20 := by kernel_rfl
  i37 := by kernel_rfl
  i46 := by kernel_rfl
  i51 := by kernel_rfl
  i53 := by kernel_rfl
  i171 := by kernel_rfl
  i173 := by kernel_rfl
  i212 := by kernel_rfl
  i232 := by kernel_rfl
  i233 := by kernel_rfl
  m17 := by kernel_rfl
  m18 := by kernel_rfl
  m19 := by kernel_rfl }
end Go.Proofs

/-
  impl.DecText returns the decimal text of every int, where the table of powers lies as the library lays it.
-/
namespace Go.Proofs.YtjpclglklmlhlaaGreatDoor
open Go.RowKit

theorem itoa_any (n : Int) (h0 : -9223372036854775808 ≤ n) (h1 : n ≤ 9223372036854775807) (w : World) (htab : Lib.TabIs Tryz.prog w "internal/strconv.uint64pow10" .u64 Lib.pow10Tab) :
    Calls Tryz.prog 104 #[.int .i64 n] w fun e w' => e = .returned (.string ⟨(Lib.itoa n).toArray⟩) ∧ Below w.heap.size w w' := by
  refine (Any.strconv_Itoa Tryz.laysItoa n h0 h1 w htab).mono ?_
  rintro e w' ⟨rfl, k, os, rfl⟩
  exact ⟨rfl, Lib.below_grow _ w (Nat.le_refl _) k os⟩
theorem implDecText_any (n : Int) (h0 : -9223372036854775808 ≤ n) (h1 : n ≤ 9223372036854775807) (w : World) (htab : Lib.TabIs Tryz.prog w "internal/strconv.uint64pow10" .u64 Lib.pow10Tab) :
    Calls Tryz.prog 66 #[.int .i64 n] w fun e w' => e = .returned (.string ⟨(Lib.itoa n).toArray⟩) ∧ Below w.heap.size w w' := by
  go_enter Tryz.func66, Tryz.ntmps66
  go_wp2_with fail
  refine (itoa_any n h0 h1 w htab).mono ?_
  rintro e w1 ⟨rfl, hb⟩
  go_wp2_with fail
  go_ret
  exact ⟨rfl, hb⟩
end Go.Proofs.YtjpclglklmlhlaaGreatDoor

/-
  impl.VersionText: the text of a version.
-/
namespace Go.Proofs.YtjpclglklmlhlaaGreatDoor
open Go.RowKit

/-- The table of powers lies as the library lays it. -/
abbrev Tab (w : World) : Prop := Lib.TabIs Tryz.prog w "internal/strconv.uint64pow10" .u64 Lib.pow10Tab
theorem tab_below {w w' : World} (h : Tab w) (hb : Below w.heap.size w w') : Tab w' := by
  unfold Tab Lib.TabIs World.var? at h ⊢
  have hg : Tryz.prog.globalNamed "internal/strconv.uint64pow10" = some 3 := by kernel_rfl
  simp only [hg, Option.bind_some] at h ⊢
  have hlt : 3 < w.heap.size := by
    rcases Nat.lt_or_ge 3 w.heap.size with h' | h'
    · exact h'
    · rw [Array.getElem?_eq_none h'] at h; simp at h
  rw [hb.block _ hlt]
  exact h
/-- Three cells and the table, in a later world. -/
theorem keepT {W V : World} {A : Nat} {v0 v1 v2 : Value} (hb : Below W.heap.size W V) (h : W.cell? ⟨A, 0, none⟩ = some v0 ∧ W.cell? ⟨A, 1, none⟩ = some v1 ∧ W.cell? ⟨A, 2, none⟩ = some v2 ∧ Tab W) : V.cell? ⟨A, 0, none⟩ = some v0 ∧ V.cell? ⟨A, 1, none⟩ = some v1 ∧ V.cell? ⟨A, 2, none⟩ = some v2 ∧ Tab V :=
  ⟨keepC hb h.1, keepC hb h.2.1, keepC hb h.2.2.1, tab_below h.2.2.2 hb⟩

set_option maxRecDepth 100000 in
set_option maxHeartbeats 4000000 in
theorem implVersionText_any (a b c : Int) (base : Nat) (v : Value) (ls : List (List UInt8)) (w : World) (hr : Strs w base v ls) (hs : Sm ls) (ht : Tab w) :
    Calls Tryz.prog 31 #[.agg #[.int .i64 a, .int .i64 b, .int .i64 c, v]] w fun e w' => e = .returned (.string ⟨(verText a b c ls).toArray⟩) ∧ Below w.heap.size w w' := by
  have HV := Lib.hid (fun (W : World) (h : Below w.heap.size w W) => implVersionOk_any a b c v ls W ((RdS.of_strs hr).below h) hs)
  have B1 : Below w.heap.size w (w.alloc (.cells #[.int .i64 a, .int .i64 b, .int .i64 c, v] 43)) := (Below.refl _ _).alloc (Nat.le_refl _) _
  have hA1 := heap_alloc_new w (.cells #[.int .i64 a, .int .i64 b, .int .i64 c, v] 43)
  have HSS := Lib.hid (fun (W : World) (h : Below w.heap.size w W) => hr.below h)
  have HTT := Lib.hid (fun (W : World) (h : Below w.heap.size w W) => tab_below ht h)
  obtain ⟨ok, HO⟩ : ∃ ok, Hid (verOk a b c ls = ok) := ⟨_, Lib.hid rfl⟩
  have hl := hs.1
  have hform := hr.form
  clear hr hs ht
  cases ok
  · have HT : Hid (verText a b c ls = []) := Lib.hid (by unfold verText; rw [HO.out]; rfl)
    go_enter Tryz.func31, Tryz.ntmps31
    go_wp2_with fail
    refine (HV.out _ B1).mono ?_
    rw [HO.out]
    rintro e w2 ⟨rfl, hb2⟩
    have B2 := B1.trans (hb2.mono B1.size)
    go_wp2_with fail
    go_ret
    exact ⟨ret_str HT.out.symm, B2⟩
  · obtain ⟨⟨a0, a1⟩, ⟨b0, b1⟩, ⟨c0, c1⟩, h5⟩ := verOk_num HO.out
    have HLE := Lib.hid (verOk_len HO.out)
    have la := dec_len a0 a1
    have lb := dec_len b0 b1
    have lc := dec_len c0 c1
    have HT : Hid (verText a b c ls = nums a b c ++ preText ls) := Lib.hid (by unfold verText; rw [HO.out]; rfl)
    go_enter Tryz.func31, Tryz.ntmps31
    go_wp2_with fail
    refine (HV.out _ B1).mono ?_
    rw [HO.out]
    rintro e w2 ⟨rfl, hb2⟩
    have B2 := B1.trans (hb2.mono B1.size)
    have hA2 := keepB hA1 hb2
    clear hA1 hb2 B1
    obtain ⟨p0, p1, p2, p3⟩ := cells4 hA2
    have tb : Tab w2.drew := HTT.out _ (B2.trans (below_drew _ _))
    obtain ⟨Da, HDa⟩ : ∃ D, Hid (dec a = D) := ⟨_, Lib.hid rfl⟩
    obtain ⟨Db, HDb⟩ : ∃ D, Hid (dec b = D) := ⟨_, Lib.hid rfl⟩
    obtain ⟨Dc, HDc⟩ : ∃ D, Hid (dec c = D) := ⟨_, Lib.hid rfl⟩
    rw [HDa.out] at la
    rw [HDb.out] at lb
    rw [HDc.out] at lc
    obtain ⟨N1, HN1⟩ : ∃ N, Hid (N = Da ++ [46]) := ⟨_, Lib.hid rfl⟩
    obtain ⟨N2, HN2⟩ : ∃ N, Hid (N = N1 ++ Db) := ⟨_, Lib.hid rfl⟩
    obtain ⟨N3, HN3⟩ : ∃ N, Hid (N = N2 ++ [46]) := ⟨_, Lib.hid rfl⟩
    obtain ⟨N4, HN4⟩ : ∃ N, Hid (N = N3 ++ Dc) := ⟨_, Lib.hid rfl⟩
    have l1 : N1.length ≤ 21 := by rw [HN1.out]; simp; omega
    have l2 : N2.length ≤ 41 := by rw [HN2.out]; simp; omega
    have l3 : N3.length ≤ 42 := by rw [HN3.out]; simp; omega
    have l4 : N4.length ≤ 62 := by rw [HN4.out]; simp; omega
    have HNN : Hid (nums a b c = N4) := Lib.hid (by rw [HN4.out, HN3.out, HN2.out, HN1.out]; unfold nums; rw [HDa.out, HDb.out, HDc.out])
    have s1 : ∀ W, (Op.stringOp .add ⟨Da.toArray⟩ ⟨#[46]⟩).run Tryz.prog W = .ok (.string ⟨N1.toArray⟩) W := fun W => by rw [HN1.out]; exact run_string_add_lists W Da [46] (by omega) (by simp)
    have s2 : ∀ W, (Op.stringOp .add ⟨N1.toArray⟩ ⟨Db.toArray⟩).run Tryz.prog W = .ok (.string ⟨N2.toArray⟩) W := fun W => by rw [HN2.out]; exact run_string_add_lists W N1 Db (by omega) (by omega)
    have s3 : ∀ W, (Op.stringOp .add ⟨N2.toArray⟩ ⟨#[46]⟩).run Tryz.prog W = .ok (.string ⟨N3.toArray⟩) W := fun W => by rw [HN3.out]; exact run_string_add_lists W N2 [46] (by omega) (by simp)
    have s4 : ∀ W, (Op.stringOp .add ⟨N3.toArray⟩ ⟨Dc.toArray⟩).run Tryz.prog W = .ok (.string ⟨N4.toArray⟩) W := fun W => by rw [HN4.out]; exact run_string_add_lists W N3 Dc (by omega) (by omega)
    have HDT1 := Lib.hid (fun (W : World) (ht : Tab W) => (show Calls Tryz.prog 66 #[.int .i64 a] W fun e w' => e = .returned (.string ⟨Da.toArray⟩) ∧ Below W.heap.size W w' from HDa.out ▸ implDecText_any a (by omega) (by omega) W ht))
    have HDT2 := Lib.hid (fun (W : World) (ht : Tab W) => (show Calls Tryz.prog 66 #[.int .i64 b] W fun e w' => e = .returned (.string ⟨Db.toArray⟩) ∧ Below W.heap.size W w' from HDb.out ▸ implDecText_any b (by omega) (by omega) W ht))
    have HDT3 := Lib.hid (fun (W : World) (ht : Tab W) => (show Calls Tryz.prog 66 #[.int .i64 c] W fun e w' => e = .returned (.string ⟨Dc.toArray⟩) ∧ Below W.heap.size W w' from HDc.out ▸ implDecText_any c (by omega) (by omega) W ht))
    go_wp2_with fail
    go_region_held3 (fun W' => W'.cell? ⟨w.heap.size, 0, none⟩ = some (.int .i64 a) ∧ W'.cell? ⟨w.heap.size, 1, none⟩ = some (.int .i64 b) ∧ W'.cell? ⟨w.heap.size, 2, none⟩ = some (.int .i64 c) ∧ Tab W') (first | exact ⟨p0, p1, p2, tb⟩ | assumption | exact keepT hb5 (by assumption) | exact keepT hb4 (by assumption) | exact keepT hb3 (by assumption)) ((first | (go_at_call 66; (with_reducible refine (HDT1.out _ (by exact tb)).mono ?_); rintro e w3 ⟨rfl, hb3⟩; have tb3 := tab_below tb hb3) | (go_at_call 66; (with_reducible refine (HDT2.out _ (by exact tb3)).mono ?_); rintro e w4 ⟨rfl, hb4⟩; have tb4 := tab_below tb3 hb4) | (go_at_call 66; (with_reducible refine (HDT3.out _ (by exact tb4)).mono ?_); rintro e w5 ⟨rfl, hb5⟩)))
    have hA5 := keepB (keepB (keepB (W := w2.drew) hA2 hb3) hb4) hb5
    have BD := B2.trans (below_drew w.heap.size w2)
    have B3 := BD.trans (hb3.mono BD.size)
    have B4 := B3.trans (hb4.mono B3.size)
    have B5 := B4.trans (hb5.mono B4.size)
    clear hA2 p0 p1 p2 p3 hb3 hb4 hb5 BD B3 B4 tb tb3 tb4 s1 s2 s3 s4 B2
    obtain ⟨p0, p1, p2, p3⟩ := cells4 hA5
    rcases hform with ⟨rfl, rfl⟩ | ⟨g, cap, rfl, hgb, hgl⟩
    · have HE : Hid (verText a b c [] = N4) := Lib.hid (by rw [HT.out, HNN.out]; simp [preText])
      go_wp2_with fail
      go_ret
      exact ⟨ret_str HE.out.symm, B5⟩
    · by_cases h0 : ls = []
      · have HE : Hid (verText a b c ls = N4) := Lib.hid (by rw [HT.out, HNN.out, h0]; simp [preText])
        have z0 : ¬ (0 : Int) < (ls.length : Int) := by rw [h0]; simp
        clear h0
        go_wp2_with fail
        go_ret
        exact ⟨ret_str HE.out.symm, B5⟩
      · have hpos : (0 : Int) < (ls.length : Int) := by have : 0 < ls.length := by cases ls <;> simp_all
                                                        omega
        have HE : Hid (verText a b c ls = N4 ++ (45 :: Lib.join ls [46])) := Lib.hid (by rw [HT.out, HNN.out, join_pre h0])
        have hjl := join_len HLE.out h5
        clear h0
        obtain ⟨J, HJ⟩ : ∃ J, Hid (Lib.join ls [46] = J) := ⟨_, Lib.hid rfl⟩
        rw [HJ.out] at hjl
        go_wp2_with fail
        refine (joinDot_any w5 base g cap ls (HSS.out _ B5) HLE.out h5).mono ?_
        rw [HJ.out]
        rintro e w6 ⟨rfl, hb6⟩
        have B6 := B5.trans (hb6.mono B5.size)
        go_wp2_with fail
        go_ret
        refine ⟨?_, B6⟩
        rw [HE.out, HJ.out]
        exact congrArg Ending.returned (congrArg Value.string (bytes_ext (by simp)))
end Go.Proofs.YtjpclglklmlhlaaGreatDoor

/-
  impl.SortVersions: the versions of a list, in order, each once.
-/
namespace Go.Proofs.YtjpclglklmlhlaaGreatDoor
open Go.RowKit

theorem filter_take {ls : List (List UInt8)} {k : Nat} (h : k < ls.length) : (ls.take (k + 1)).filter readOk = (ls.take k).filter readOk ++ (if readOk ls[k] = true then [ls[k]] else []) := by
  rw [List.take_succ_eq_append_getElem h, List.filter_append]
  congr 1
  by_cases hk : readOk ls[k] = true
  · rw [if_pos hk]; simp [hk]
  · rw [if_neg hk]; simp [hk]
theorem readP_Sm' {l : List UInt8} (h : l.length ≤ 1048576) : Sm (readP l) := by
  unfold readP; split
  · exact tail_sm h
  · exact sm_nil

set_option maxRecDepth 100000 in
set_option maxHeartbeats 4000000 in
theorem implSortVersions_any (v : Value) (ls : List (List UInt8)) (w : World) (hr : RdS w v ls) (hs : Sm ls) (ht : Tab w) :
    Calls Tryz.prog 14 #[v] w fun e w' => ∃ g c out, e = .returned (.slice (some ⟨g, 0, none⟩) out.length c) ∧ Strs w' w.heap.size (.slice (some ⟨g, 0, none⟩) out.length c) out ∧ SortOf ls out ∧ Below w.heap.size w w' := by
  have HR := Lib.hid hr
  have HTB := Lib.hid (fun (W : World) (hb : Below w.heap.size w W) => tab_below ht hb)
  obtain ⟨A, ca, rfl, ha⟩ := hr
  have hn := hs.1
  have HS := Lib.hid hs.2
  clear ha hs ht
  have V0 : VerRow (w.alloc (.cells #[] 43)) w.heap.size (.slice (some ⟨w.heap.size, 0, none⟩) 0 0) [] := ⟨Vers.empty w _ (Nat.le_refl _), fun x hx => by cases hx⟩
  have B0 : Below w.heap.size w (w.alloc (.cells #[] 43)) := (Below.refl _ _).alloc (Nat.le_refl _) _
  go_enter Tryz.func14, Tryz.ntmps14
  go_wp2_with fail
  go_loopw [3, 5, 6, 7, 14] (fun o _ _ _ i wr => ∃ (k : Nat) (X : List VI) (g c : Nat), k ≤ ls.length ∧ i = .int .i64 k ∧ o = .slice (some ⟨g, 0, none⟩) X.length c ∧ VerRow wr w.heap.size (.slice (some ⟨g, 0, none⟩) X.length c) X ∧ Hid (X.map Prod.fst = (ls.take k).filter readOk) ∧ Below w.heap.size w wr) (fun _ _ _ _ i _ => ls.length - (intOf i).toNat)
  case atStart => exact ⟨0, [], _, _, Nat.zero_le _, rfl, rfl, V0, Lib.hid (by simp), B0⟩
  case round =>
    obtain ⟨k, X, g, c, hk, rfl, rfl, hX, HX, hb⟩ := hrel
    have lX : X.length ≤ k := by
      have := congrArg List.length HX.out
      rw [List.length_map] at this
      rw [this]
      exact Nat.le_trans (List.length_filter_le _ _) (by simp; omega)
    by_cases hlt : k < ls.length
    · have k0 : (0 : Int) ≤ (k : Int) := by omega
      have k1 : (k : Int) < (ls.length : Int) := by omega
      have HLK := Lib.hid (HS.out ls[k] (List.getElem_mem hlt))
      have HFT := Lib.hid (filter_take hlt)
      obtain ⟨A', ca', hv, ha⟩ := HR.out.below hb
      simp only [Value.slice.injEq] at hv
      obtain ⟨rfl, _, rfl⟩ := hv
      obtain ⟨gl, off, rfl, hgl, hca⟩ := ha (by omega)
      have d1 : wr.cell? ⟨gl, off + k, none⟩ = some (.string ⟨ls[k].toArray⟩) := hca k hlt
      obtain ⟨ok, HOK⟩ : ∃ z, Hid (readOk (⟨ls[k].toArray⟩ : ByteArray).data.toList = z) := ⟨_, Lib.hid rfl⟩
      obtain ⟨l0, HL0⟩ : ∃ z, Hid (readA (⟨ls[k].toArray⟩ : ByteArray).data.toList 0 = z) := ⟨_, Lib.hid rfl⟩
      obtain ⟨l1, HL1⟩ : ∃ z, Hid (readA (⟨ls[k].toArray⟩ : ByteArray).data.toList 1 = z) := ⟨_, Lib.hid rfl⟩
      obtain ⟨l2, HL2⟩ : ∃ z, Hid (readA (⟨ls[k].toArray⟩ : ByteArray).data.toList 2 = z) := ⟨_, Lib.hid rfl⟩
      clear ha hca V0 B0
      go_wp2_with fail
      refine (implReadVersion_any _ _ (by rw [size_of]; exact HLK.out)).mono ?_
      rintro e w1 ⟨u, rfl, hu, hb1⟩
      have HU : Hid (Strs w1 0 u (readP ls[k])) := Lib.hid (hu.weaken (Nat.zero_le _))
      obtain ⟨uA, uc, hue⟩ := hu.slice
      obtain ⟨m, HM⟩ : ∃ m, Hid ((readP (⟨ls[k].toArray⟩ : ByteArray).data.toList).length = m) := ⟨_, Lib.hid rfl⟩
      rw [HM.out] at hue
      subst hue
      rw [HOK.out, HL0.out, HL1.out, HL2.out]
      have B1 := hb.trans (hb1.mono hb.size)
      have hX1 := hX.below hb1
      clear hX hb1 hu d1
      have B2 := B1.alloc B1.size (.cells #[.int .i64 l0, .int .i64 l1, .int .i64 l2, .slice uA m uc] 43)
      have hX2 := hX1.below ((Below.refl w1.heap.size w1).alloc (Nat.le_refl _) (.cells #[.int .i64 l0, .int .i64 l1, .int .i64 l2, .slice uA m uc] 43))
      cases ok
      · have HX' : Hid (X.map Prod.fst = (ls.take (k + 1)).filter readOk) := Lib.hid (by rw [HFT.out, if_neg (fun h => by have e : readOk ls[k] = false := HOK.out; rw [h] at e; cases e), List.append_nil, HX.out])
        go_wp2_with fail
        go_roundw
        case rel => exact ⟨k + 1, X, g, c, by omega, by go_num, rfl, hX2, HX', B2⟩
        case measure => simp [intOf]; omega
      · have HX' : Hid ((X ++ [(ls[k], Value.slice uA m uc)]).map Prod.fst = (ls.take (k + 1)).filter readOk) := Lib.hid (by rw [HFT.out, if_pos (show readOk ls[k] = true from HOK.out), List.map_append, HX.out]; rfl)
        have B3 := B2.alloc B2.size (.cells #[.int .i64 l0, .int .i64 l1, .int .i64 l2, .slice uA m uc] 43)
        have hX3 := hX2.below ((Below.refl (w1.alloc (.cells #[.int .i64 l0, .int .i64 l1, .int .i64 l2, .slice uA m uc] 43)).heap.size _).alloc (Nat.le_refl _) (.cells #[.int .i64 l0, .int .i64 l1, .int .i64 l2, .slice uA m uc] 43))
        have hU3 := Strs.alloc (Strs.alloc HU.out (.cells #[.int .i64 l0, .int .i64 l1, .int .i64 l2, .slice uA m uc] 43)) (.cells #[.int .i64 l0, .int .i64 l1, .int .i64 l2, .slice uA m uc] 43)
        have h3 := heap_new (W := w1.alloc (.cells #[.int .i64 l0, .int .i64 l1, .int .i64 l2, .slice uA m uc] 43)) (n := w1.heap.size + 1) (by simp) (.cells #[.int .i64 l0, .int .i64 l1, .int .i64 l2, .slice uA m uc] 43)
        have hlX : (X.map cv).length = X.length := by simp
        have B3s := B3.size
        clear B1 B2 hX1 hX2
        go_wp2_with (at_builtin; refine wpList_append_ver rfl _ _ rfl w.heap.size _ _ rfl hX3.1 (w1.heap.size + 1) _ _ _ l0 l1 l2 (.slice uA m uc) rfl rfl h3 (by omega) B3s ?_; intro v4 w4 hV4 hg4)
        have hX4 : VerRow w4 w.heap.size v4 (X ++ [(ls[k], .slice uA m uc)]) := ⟨by
            have e : (X ++ [(ls[k], Value.slice uA m uc)]).map cv = X.map cv ++ [(l0, l1, l2, .slice uA m uc)] := by
              rw [List.map_append]
              show _ ++ [cv (ls[k], .slice uA m uc)] = _
              rw [← HL0.out, ← HL1.out, ← HL2.out]
              rfl
            rw [e]; exact hV4, fun x hx => by
            rcases List.mem_append.1 hx with hx | hx
            · exact (hX3.2 x hx).grownV hX3.1 hg4
            · simp at hx; subst hx; exact hU3.grownV hX3.1 hg4⟩
        have B4 : Below w.heap.size w w4 := Below.grown B3 hg4 B3s hX3.1.owned
        obtain ⟨g4, c4, hv4, _⟩ : ∃ g c, v4 = .slice (some ⟨g, 0, none⟩) (X ++ [(ls[k], Value.slice uA m uc)]).length c ∧ True := by
          rcases hX4.1.form with ⟨_, h⟩ | ⟨g, c, h, _⟩
          · simp at h
          · exact ⟨g, c, by simpa using h, trivial⟩
        subst hv4
        clear hX3 hU3 h3 B3 hV4 hg4
        go_wp2_with fail
        go_roundw
        case rel => exact ⟨k + 1, X ++ [(ls[k], .slice uA m uc)], g4, c4, by omega, by go_num, rfl, hX4, HX', B4⟩
        case measure => simp [intOf]; omega
    · have HXA : Hid (X.map Prod.fst = ls.filter readOk) := Lib.hid (by rw [HX.out, List.take_of_length_le (by omega)])
      have HMX : Hid (∀ x ∈ X, x.1 ∈ ls ∧ readOk x.1 = true) := Lib.hid (fun x hx => by
        have : x.1 ∈ X.map Prod.fst := List.mem_map.2 ⟨x, hx, rfl⟩
        rw [HXA.out] at this
        exact List.mem_filter.1 this)
      have HSX : Hid (∀ x ∈ X, Sm (readP x.1)) := Lib.hid (fun x hx => readP_Sm' (HS.out _ (HMX.out x hx).1))
      have hlX : X.length ≤ 1048576 := by omega
      obtain ⟨i0, hi, hz0, hz1, hz2⟩ := info_parts strinfo
      clear V0 B0
      go_wp2_with fail
      refine (sortFunc_any wr w.heap.size g c X hX hlX HSX.out).mono ?_
      rintro e w5 ⟨rfl, Y, hperm, hsort, hRV, hb5⟩
      have B5 := hb.trans hb5
      have hlY : Y.length = X.length := hperm.length_eq
      have HRV := Lib.hid hRV
      have HPM := Lib.hid hperm
      have HST := Lib.hid hsort
      clear hX hb hb5 hRV hperm hsort
      go_wp2_with (at_make; refine wpList_make_own _ rfl _ _ 28 rfl w5.heap.size 9 i0 (.string ⟨#[]⟩) 1 Tryz.underlying28 hi hz0 hz1 .i64 .i64 _ X.length rfl rfl rfl (by rw [hz2]; omega) (by unfold maxLen; omega) (Nat.le_refl _) ?_; intro w6 hown6 hg6)
      have hS6 : Strs w6 w5.heap.size (.slice (some ⟨w5.heap.size, 0, none⟩) 0 X.length) [] := hown6
      have hb6 : Below w5.heap.size w5 w6 := (Below.refl _ _).grown hg6 (Nat.le_refl _) (by simp)
      clear hown6 hg6 hi hz0 hz1 hz2
      go_loopw [8, 10, 36] (fun o _ i wr => ∃ k g2 c2 : Nat, k ≤ Y.length ∧ i = .int .i64 k ∧ o = .slice (some ⟨g2, 0, none⟩) k c2 ∧ Strs wr w5.heap.size (.slice (some ⟨g2, 0, none⟩) k c2) ((Y.take k).map Prod.fst) ∧ Below w5.heap.size w5 wr) (fun _ _ i _ => Y.length - (intOf i).toNat)
      case atStart => exact ⟨0, _, _, Nat.zero_le _, rfl, rfl, by simpa using hS6, hb6⟩
      case round =>
        obtain ⟨j, g2, c2, hj, rfl, rfl, hS, hb⟩ := hrel
        have B7 := B5.trans (hb.mono B5.size)
        have LM : Hid (((Y.take j).map Prod.fst).length = j) := Lib.hid (by simp; omega)
        by_cases hlt : j < Y.length
        · have k0 : (0 : Int) ≤ (j : Int) := by omega
          have k1 : (j : Int) < (X.length : Int) := by omega
          obtain ⟨A', c', hv, hcell⟩ := HRV.out.below hb
          simp only [Value.slice.injEq] at hv
          obtain ⟨rfl, -, rfl⟩ := hv
          obtain ⟨g', hA, hg', d0, d1, d2, d3, hSt⟩ := hcell j hlt
          simp only [Option.some.injEq, Addr.mk.injEq, and_true] at hA
          subst hA
          obtain ⟨uA, uc, hue⟩ := hSt.slice
          have HMY := HMX.out Y[j] (HPM.out.mem_iff.1 (List.getElem_mem hlt))
          have HVT : Hid (verText (readA Y[j].1 0) (readA Y[j].1 1) (readA Y[j].1 2) (readP Y[j].1) = Y[j].1) := Lib.hid (vt_text HMY.2)
          have HSY : Hid (Sm (readP Y[j].1)) := Lib.hid (readP_Sm' (HS.out _ HMY.1))
          have HN : Hid ((Y.take j).map Prod.fst ++ [Y[j].1] = (Y.take (j + 1)).map Prod.fst) := Lib.hid (by rw [List.take_succ_eq_append_getElem hlt, List.map_append]; rfl)
          rw [hue] at d3 hSt
          obtain ⟨m, HM⟩ : ∃ m, Hid ((readP Y[j].1).length = m) := ⟨_, Lib.hid rfl⟩
          rw [HM.out] at d3 hSt
          obtain ⟨l0, HL0⟩ : ∃ z, Hid (readA Y[j].1 0 = z) := ⟨_, Lib.hid rfl⟩
          obtain ⟨l1, HL1⟩ : ∃ z, Hid (readA Y[j].1 1 = z) := ⟨_, Lib.hid rfl⟩
          obtain ⟨l2, HL2⟩ : ∃ z, Hid (readA Y[j].1 2 = z) := ⟨_, Lib.hid rfl⟩
          rw [HL0.out] at d0
          rw [HL1.out] at d1
          rw [HL2.out] at d2
          have HV2 : Hid (verText l0 l1 l2 (readP Y[j].1) = Y[j].1) := Lib.hid (by rw [← HL0.out, ← HL1.out, ← HL2.out]; exact HVT.out)
          have B8 := B7.alloc B7.size (.cells #[.int .i64 l0, .int .i64 l1, .int .i64 l2, .slice uA m uc] 43)
          have b8 := hb.alloc hb.size (.cells #[.int .i64 l0, .int .i64 l1, .int .i64 l2, .slice uA m uc] 43)
          have hS8 := hS.alloc (.cells #[.int .i64 l0, .int .i64 l1, .int .i64 l2, .slice uA m uc] 43)
          have hU8 := hSt.alloc (.cells #[.int .i64 l0, .int .i64 l1, .int .i64 l2, .slice uA m uc] 43)
          have hT8 := HTB.out _ B8
          clear hcell hue HMY hS6 hb6
          go_wp2_with fail
          refine (implVersionText_any l0 l1 l2 0 _ (readP Y[j].1) _ hU8 HSY.out hT8).mono ?_
          rw [HV2.out]
          rintro e w9 ⟨rfl, hb9⟩
          have hS9 := hS8.below hb9
          have b9 := b8.trans (hb9.mono b8.size)
          clear hS8 hb9 d0 d1 d2 d3 hSt hU8 hT8 b8 B8 hS
          have HLE : Hid (((Y.take j).map Prod.fst).length + 1 ≤ 16777216) := Lib.hid (by rw [LM.out]; omega)
          have HBE : Hid (w5.heap.size ≤ (w9.alloc (.cells #[sv Y[j].1] 9)).heap.size) := Lib.hid (by simp; exact Nat.le_succ_of_le b9.size)
          go_wp2_with (at_builtin; refine wpList_append_strs rfl _ _ rfl w5.heap.size _ _ rfl (hS9.alloc _) (Y[j].1) w9.heap.size _ _ _ rfl (heap_alloc_new w9 _) HLE.out HBE.out ?_; intro g3 c3 w10 hown10 hb10)
          have b10 := b9.trans (((Below.refl w5.heap.size w9).alloc b9.size _).trans hb10)
          rw [LM.out] at hown10
          go_wp2_with fail
          go_roundw
          case rel => exact ⟨j + 1, g3, c3, by omega, by go_num, by rw [show min j X.length = j by omega], by rw [← HN.out]; exact hown10, b10⟩
          case measure => simp [intOf]; omega
        · have hSe : Strs wr w5.heap.size (.slice (some ⟨g2, 0, none⟩) (Y.map Prod.fst).length c2) (Y.map Prod.fst) := by
            have : j = Y.length := by omega
            subst this
            rw [List.take_length] at hS
            rw [List.length_map]
            exact hS
          have hjl : j = (Y.map Prod.fst).length := by simp; omega
          have HSO : Hid (SortOf ls (Lib.compact (Y.map Prod.fst))) := Lib.hid (sortOf_compact (fun t => by
              have : t ∈ Y.map Prod.fst ↔ t ∈ X.map Prod.fst := (HPM.out.map Prod.fst).mem_iff
              rw [this, HXA.out, List.mem_filter]) (fun a b hab hbl => by
              simp only [List.getElem_map]
              exact HST.out a b hab (by simpa using hbl)))
          have hml : (Y.map Prod.fst).length ≤ 1048576 := by simp; omega
          have k1 : ¬ (j : Int) < (X.length : Int) := by omega
          have HCA := compact_any wr w5.heap.size g2 c2 (Y.map Prod.fst) hSe hml
          rw [← hjl] at HCA
          have HCB := Lib.hid HCA
          clear hjl hSe hml hS6 hb6 hS HCA
          go_wp2_with fail
          refine HCB.out.mono ?_
          rintro e w7 ⟨g3, c3, rfl, hS7, hb7⟩
          have B9 := B7.trans (hb7.mono B5.size)
          go_wp2_with fail
          go_ret
          exact ⟨g3, c3, _, rfl, hS7.weaken B5.size, HSO.out, B9⟩
end Go.Proofs.YtjpclglklmlhlaaGreatDoor

/-
  impl.Newest: the last of the sorted versions without a dash, else the last.
-/
namespace Go.Proofs.YtjpclglklmlhlaaGreatDoor
open Go.RowKit Go.Shelf
attribute [local go_sem] Oper.semAt_some

def lastP (pre : List BE) : List UInt8 := (pre.getLast?.map (fun x => x.2.1)).getD []
def stops (pre : List BE) : Prop := ∃ p x, pre = p ++ [x] ∧ (∀ y ∈ p, stb y.2.1 = false) ∧ stb x.2.1 = true
theorem lastSt_stop {T : List Part} {pre : List BE} (h : pre <+: bk T) (hs : stops pre) : lastSt (T.map Subtype.val) = lastP pre := by
  obtain ⟨p, x, rfl, hp, hx⟩ := hs
  obtain ⟨t, ht⟩ := h
  have e := bk_snd T
  rw [← ht] at e
  refine (lastSt_at (p := p.map (fun y => y.2.1)) (x := x.2.1) (t := t.map (fun y => y.2.1)) ?_ ?_ hx).trans (by simp [lastP])
  · rw [← List.map_reverse, ← e]
    simp
    rfl
  · intro y hy
    obtain ⟨z, hz, rfl⟩ := List.mem_map.1 hy
    exact hp z hz
theorem lastSt_all {T : List Part} (h : ∀ y ∈ bk T, stb y.2.1 = false) : lastSt (T.map Subtype.val) = [] := by
  refine lastSt_none (fun x hx => ?_)
  obtain ⟨z, hz, rfl⟩ := List.mem_map.1 hx
  have : z ∈ (bk T).map (fun y => y.2) := by rw [bk_snd]; simpa using hz
  obtain ⟨y, hy, rfl⟩ := List.mem_map.1 this
  exact h y hy

set_option maxRecDepth 100000 in
set_option maxHeartbeats 4000000 in
theorem implNewest_in (n : Nat) (hn : 4 ≤ n) (v : Value) (ls : List (List UInt8)) (w : World) (hr : RdS w v ls) (hs : Sm ls) (ht : Tab w) :
    CallsIn Fence.wide n Tryz.prog 19 #[v] w fun e W' => ∃ out, e = .returned (.string ⟨(newestL out).toArray⟩) ∧ SortOf ls out ∧ Below w.heap.size w W' := by
  have h1 : 1 ≤ n := by omega
  have hn2 : 1 ≤ n - 1 - 1 := by omega
  have B0 : Below w.heap.size w (w.alloc (.cells #[.string ⟨#[]⟩] 9)) := (Below.refl _ _).alloc (Nat.le_refl _) _
  have HIM := Lib.hid (implSortVersions_any v ls (w.alloc (.cells #[.string ⟨#[]⟩] 9)) (hr.below ((Below.refl _ _).alloc (Nat.le_refl _) _)) hs (tab_below ht B0))
  have HS := Lib.hid hs
  have b1 := Boxed.new w 9 (.string ⟨#[]⟩)
  clear hr hs ht
  refine callsIn_of_wp_marks Tryz.func19 rfl trivial ?_ rfl
  simp only [Tryz.ntmps19, List.size_toArray, List.length_cons, List.length_nil, Nat.reduceAdd, Nat.reduceSub, Array.replicate_succ, Array.replicate_zero, List.push_toArray, List.append_toArray, List.nil_append, List.cons_append]
  gi_wp2_with (refine ⟨trivial, ?_⟩; gi_at_call 14; refine (callsIn_wide.2 HIM.out).mono ?_; rintro e w1 ⟨g, c, out, rfl, S0, hSO, hb1⟩)
  have lo := sortOf_len hSO
  obtain ⟨T, HT⟩ : ∃ T : List Part, Hid (T.map Subtype.val = out) := by
    obtain ⟨T, hT⟩ := parts_of out (fun l hl => HS.out.2 l ((hSO.2 l).1 hl).1)
    exact ⟨T, Lib.hid hT⟩
  have hlT : T.length = out.length := by rw [← HT.out]; simp
  have hn3 := HS.out.1
  obtain ⟨cur, hh, hcur⟩ : ∃ cur, w1.heap[g]? = some (.cells cur 9 (0, 0)) ∧ ∀ k (h : k < T.length), cur[k]? = some (sv T[k].1) := by
    rcases id S0.2 with ⟨hv, _⟩ | ⟨g', cap', cur, hv, _, hh, _⟩
    · cases hv
    · simp only [Value.slice.injEq, Option.some.injEq, Addr.mk.injEq, and_true] at hv
      obtain ⟨rfl, _⟩ := hv
      refine ⟨cur, hh, fun k hk => ?_⟩
      have := S0.cell k (by omega)
      simp only [World.cell?, hh] at this
      have e : out[k]'(by omega) = T[k].1 := by simp [← HT.out]
      rw [e] at this
      exact this
  have B1 := B0.trans (hb1.mono (by simp))
  have b2 := (show w1.heap[w.heap.size]? = _ from keepB b1 hb1)
  have glt := lt_of_heap hh
  have HSO := Lib.hid hSO
  have hc0 := S0.cell
  clear hb1 hSO S0 B0
  rw [← hlT]
  have HLT := Lib.hid hlT
  have hT20 : T.length ≤ 1048576 := by omega
  clear hlT
  gi_wp2_with (refine ⟨trivial, ?_⟩; gi_at_call 34; refine (backward_in _ _ _ _ _).mono ?_; rintro e w2 ⟨rfl, rfl⟩)
  have b3 := Boxed.new w1 28 (.slice (some ⟨g, 0, none⟩) T.length c)
  have b2' := (show Boxed _ w.heap.size 9 (.string ⟨#[]⟩) from keepA b2 (.cells #[.slice (some ⟨g, 0, none⟩) T.length c] 28))
  have hh' := keepA hh (.cells #[.slice (some ⟨g, 0, none⟩) T.length c] 28)
  have B2 := B1.alloc B1.size (.cells #[.slice (some ⟨g, 0, none⟩) T.length c] 28)
  have hsz : (w1.alloc (.cells #[.slice (some ⟨g, 0, none⟩) T.length c] 28)).heap.size = w1.heap.size + 1 := by simp
  have wlt : w.heap.size < w1.heap.size := lt_of_heap b2
  clear b2 hh B1
  obtain ⟨W0, hW0⟩ : ∃ W0, (w1.alloc (.cells #[.slice (some ⟨g, 0, none⟩) T.length c] 28)) = W0 := ⟨_, rfl⟩
  rw [hW0] at b3 b2' hh' B2 hsz ⊢
  have HSZ := Lib.hid hsz
  have HBW := Lib.hid B2
  have HHG := Lib.hid hh'
  have HB2 := Lib.hid b2'
  clear hW0 hsz
  refine wpIn_rangeFunc_ownF rfl h1 (gf := 68) (lb := #[.pointer (some ⟨w1.heap.size, 0, none⟩)]) rfl trivial (enters_of Tryz.func68 (by kernel_rfl) rfl)
    (back_stops (n - 1) (by omega) w1.heap.size g c T cur hT20 hcur W0 (by rw [HSZ.out]; omega) (by rw [HSZ.out]; omega) b3 hh') kpB_t (kpB_b (by rw [HSZ.out]; omega) (by rw [HSZ.out]; omega)) (Below.refl _ _) (fun _ => rfl)
    (fun pre W => (∀ y ∈ pre, stb y.2.1 = false) ∧ Below W0.heap.size W0 W)
    (fun c pre W => ((c = .ret ∧ stops pre) ∧ Boxed W w.heap.size 9 (.string ⟨(lastP pre).toArray⟩)) ∧ Below w.heap.size w W)
    (OwnFrom.and (ownFrom_pure _ _) (ownFrom_below (Nat.le_refl _) (Nat.le_refl _)))
    (fun c => OwnFrom.and (OwnFrom.and (ownFrom_pure _ _) (Own.from (boxed_own _ _ _) _)) (ownFrom_below (Nat.le_refl _) (by rw [HSZ.out]; omega)))
    ⟨fun y hy => absurd hy (by simp), Below.refl _ _⟩
    (fun x => { tmps := #[v, undef, .pointer (some ⟨w.heap.size, 0, none⟩), .slice (some ⟨g, 0, none⟩) T.length c, undef, .string ⟨x.2.1.toArray⟩, v, .slice (some ⟨g, 0, none⟩) T.length c, .slice (some ⟨g, 0, none⟩) T.length c, .func (.func 68) #[] #[.pointer (some ⟨w1.heap.size, 0, none⟩)], .int .i64 (x.1 : Int), .string ⟨x.2.1.toArray⟩, undef, undef, undef, undef, undef, undef, undef, undef, undef, undef, undef, undef, undef], defers := [] }) ?assign ?body ?done ?stop
  case assign =>
    intro l x W K hK
    unfold bkV
    gi_wp2
    exact hK
  case body =>
    rintro l pre x W ⟨hp, hB⟩ _
    have HP := Lib.hid hp
    have hR := (show Boxed W w.heap.size 9 (.string ⟨#[]⟩) from keepB HB2.out hB)
    have cR := hR.cell
    have fR := hR.frozen
    obtain ⟨b, hbE⟩ : ∃ b : ByteArray, b = ⟨x.2.1.toArray⟩ := ⟨_, rfl⟩
    have HBL : Hid (b.data.toList = x.2.1) := Lib.hid (by rw [hbE])
    have hbs : b.size ≤ 1048576 := by rw [hbE]; show x.2.1.toArray.size ≤ _; simpa using x.2.2
    rw [← hbE]
    have HBE : Hid (b = ⟨x.2.1.toArray⟩) := Lib.hid hbE
    clear hbE hp
    obtain ⟨s, HSB⟩ : ∃ s, Hid (stb b.data.toList = s) := ⟨_, Lib.hid rfl⟩
    cases s
    · have HPN : Hid (∀ y ∈ pre ++ [x], stb y.2.1 = false) := Lib.hid (fun y hy => by
        rcases List.mem_append.1 hy with h | h
        · exact HP.out y h
        · simp at h; subst h; rw [← HBL.out]; exact HSB.out)
      gi_wp2_with (refine ⟨trivial, ?_⟩; gi_at_call 35; refine (CallsIn.inRound l (callsIn_wide.2 (contains_dash b _ hbs))).mono ?_; rw [HSB.out]; rintro e w' ⟨rfl, rfl⟩)
      exact ⟨KeepsOthers.refl _, KpB.refl _ _ _, HPN.out, hB⟩
    · have HST : Hid (stops (pre ++ [x])) := Lib.hid ⟨pre, x, rfl, HP.out, by rw [← HBL.out]; exact HSB.out⟩
      have HLP : Hid (lastP (pre ++ [x]) = x.2.1) := Lib.hid (by simp [lastP])
      gi_wp2_with (refine ⟨trivial, ?_⟩; gi_at_call 35; refine (CallsIn.inRound l (callsIn_wide.2 (contains_dash b _ hbs))).mono ?_; rw [HSB.out]; rintro e w' ⟨rfl, rfl⟩)
      exact ⟨KeepsOthers.setCell _ _ _, ⟨⟨rfl, HST.out⟩, by rw [HLP.out, ← HBE.out]; exact hR.set _⟩, (HBW.out.trans (hB.mono (by rw [HSZ.out]; omega))).setCell (p := ⟨w.heap.size, 0, none⟩) (by simp) _⟩
  case done =>
    rintro D ys W hD hys ⟨hp, hB⟩ hK
    subst hys
    have HNS : Hid (lastSt out = []) := Lib.hid (by rw [← HT.out]; exact lastSt_all hp)
    have hR := (show Boxed W w.heap.size 9 (.string ⟨#[]⟩) from keepB HB2.out hB)
    have cR := hR.cell
    have fR := hR.frozen
    have hWB := HBW.out.trans (hB.mono (by rw [HSZ.out]; omega))
    have hDw : w.heap.size ≤ D := by have := HSZ.out; omega
    have hgW := keepB HHG.out hB
    clear hp
    by_cases h0 : T.length = 0
    · have q0 : ((T.length : Int) == 0) = true := by simp [h0]
      have HN : Hid (newestL out = []) := Lib.hid (by
        have : out = [] := List.length_eq_zero_iff.1 (by rw [← HLT.out]; exact h0)
        rw [this]; rfl)
      gi_wp2
      have hK' := (KeepsOthers.setCell W ⟨w.heap.size, 0, none⟩ (.string ⟨#[]⟩)).same D _ hK rfl
      refine ⟨by simp, .inl ⟨_, _, rfl, run_takeDeferred hK', ?_⟩⟩
      have hc5 := cell_kept (hR.set (.string ⟨#[]⟩)).cell (grownBy_putObj' _ D (.deferred none)) (fun r e => by cases e; exact ⟨_, hK', rfl⟩)
      refine ⟨.string ⟨#[]⟩, ?_, out, by rw [HN.out], HSO.out, (hWB.setCell (p := ⟨w.heap.size, 0, none⟩) (by simp) _).trans (belowK_b (w := w) (Nat.le_refl _) _ D _ _ hDw hK' rfl rfl)⟩
      simp [results, Tryz.f19, go_sem, hc5]
    · have q0 : ((T.length : Int) == 0) = false := int_beq_false (by omega)
      obtain ⟨m, hm⟩ : ∃ m : Nat, T.length = m + 1 := ⟨T.length - 1, by omega⟩
      have hmT : m < T.length := by omega
      have d1 : W.cell? ⟨g, m, none⟩ = some (.string ⟨T[m].1.toArray⟩) := by have := hcur m hmT; simp [World.cell?, hgW, this, sv]
      have e1 : (T.length : Int) - 1 = (m : Int) := by omega
      have HN : Hid (newestL out = T[m].1) := Lib.hid (by
        have hl := HLT.out
        rw [newest_none HNS.out (by omega), lastD_get (by omega)]
        simp only [← HT.out, List.length_map, List.getElem_map, hm, Nat.add_sub_cancel])
      have k0 : (0 : Int) ≤ (m : Int) := by omega
      have k1 : (m : Int) < (T.length : Int) := by omega
      clear h0 hm
      gi_wp2
      have hK' := (KeepsOthers.setCell W ⟨w.heap.size, 0, none⟩ (.string ⟨T[m].1.toArray⟩)).same D _ hK rfl
      refine ⟨by simp, .inl ⟨_, _, rfl, run_takeDeferred hK', ?_⟩⟩
      have hc5 := cell_kept (hR.set (.string ⟨T[m].1.toArray⟩)).cell (grownBy_putObj' _ D (.deferred none)) (fun r e => by cases e; exact ⟨_, hK', rfl⟩)
      refine ⟨.string ⟨T[m].1.toArray⟩, ?_, out, by rw [HN.out], HSO.out, (hWB.setCell (p := ⟨w.heap.size, 0, none⟩) (by simp) _).trans (belowK_b (w := w) (Nat.le_refl _) _ D _ _ hDw hK' rfl rfl)⟩
      simp [results, Tryz.f19, go_sem, hc5]
  case stop =>
    rintro D c pre W hD hpre ⟨⟨⟨rfl, hst⟩, hR⟩, hB⟩ hK
    have HLS : Hid (lastSt out = lastP pre) := Lib.hid (by rw [← HT.out]; exact lastSt_stop hpre hst)
    have HNE : Hid (lastP pre ≠ []) := Lib.hid (by
      obtain ⟨p, x, rfl, _, _⟩ := hst
      obtain ⟨t, ht⟩ := hpre
      have hm : x ∈ bk T := by rw [← ht]; simp
      have hx : x.2.1 ∈ out := by
        rw [← HT.out]
        have : x.2 ∈ (bk T).map (fun y => y.2) := List.mem_map.2 ⟨x, hm, rfl⟩
        rw [bk_snd] at this
        exact List.mem_map.2 ⟨x.2, by simpa using this, rfl⟩
      have := readOk_ne ((HSO.out.2 _).1 hx).2
      simpa [lastP] using this)
    have HN : Hid (newestL out = lastP pre) := Lib.hid (newest_some HLS.out HNE.out)
    have hDw : w.heap.size ≤ D := by have := HSZ.out; omega
    clear hst hpre
    gi_wp2
    refine ⟨by simp, .inl ⟨_, _, rfl, run_takeDeferred hK, ?_⟩⟩
    have hc5 := cell_kept hR.cell (grownBy_putObj' _ D (.deferred none)) (fun r e => by cases e; exact ⟨_, hK, rfl⟩)
    refine ⟨.string ⟨(lastP pre).toArray⟩, ?_, out, by rw [HN.out], HSO.out, hB.trans (belowK_b (w := w) (Nat.le_refl _) _ D _ _ hDw hK rfl rfl)⟩
    simp [results, Tryz.f19, go_sem, hc5]

theorem implNewest_any (v : Value) (ls : List (List UInt8)) (w : World) (hr : RdS w v ls) (hs : Sm ls) (ht : Tab w) :
    Calls Tryz.prog 19 #[v] w fun e W' => ∃ out, e = .returned (.string ⟨(newestL out).toArray⟩) ∧ SortOf ls out ∧ Below w.heap.size w W' :=
  (callsIn_wide (n := 4)).1 (implNewest_in 4 (by omega) v ls w hr hs ht)
end Go.Proofs.YtjpclglklmlhlaaGreatDoor

/-
  spec.Newest: the last of the sorted versions without a dash, else the last.
-/
namespace Go.Proofs.YtjpclglklmlhlaaGreatDoor
open Go.RowKit

set_option maxRecDepth 100000 in
set_option maxHeartbeats 4000000 in
theorem specNewest_any (v : Value) (ls : List (List UInt8)) (w : World) (hr : RdS w v ls) (hs : Sm ls) :
    Calls Tryz.prog 18 #[v] w fun e w' => ∃ out, e = .returned (.string ⟨(newestL out).toArray⟩) ∧ SortOf ls out ∧ Below w.heap.size w w' := by
  have HS := Lib.hid hs
  have hn := hs.1
  have HC := Lib.hid (specSortVersions_any v ls w hr hs)
  clear hr hs
  go_enter Tryz.func18, Tryz.ntmps18
  go_wp2_with fail
  refine HC.out.mono ?_
  rintro e w1 ⟨u, out, rfl, S0, hSO, hb1⟩
  have lo := sortOf_len hSO
  have HSZ : Hid (∀ l ∈ out, l.length ≤ 1048576) := Lib.hid (fun l hl => HS.out.2 l ((hSO.2 l).1 hl).1)
  have HSO := Lib.hid hSO
  have HRD := Lib.hid (RdS.of_strs S0)
  obtain ⟨uA, uc, rfl⟩ := S0.slice
  clear hSO S0 HC
  go_wp2_with fail
  go_loopw [4, 5] (fun b i wr => ∃ (k : Nat), k ≤ out.length ∧ i = .int .i64 k ∧ b = .string ⟨(lastSt (out.take k)).toArray⟩ ∧ wr = w1) (fun _ i _ => out.length - (intOf i).toNat)
  case atStart => exact ⟨0, Nat.zero_le _, rfl, rfl, rfl⟩
  case round =>
    obtain ⟨k, hk, rfl, rfl, rfl⟩ := hrel
    by_cases hlt : k < out.length
    · have k0 : (0 : Int) ≤ (k : Int) := by omega
      have k1 : (k : Int) < (out.length : Int) := by omega
      have HLK := Lib.hid (HSZ.out out[k] (List.getElem_mem hlt))
      have HLT := Lib.hid (lastSt_take hlt)
      have HLM : Hid ((⟨out[k].toArray⟩ : ByteArray).size ≤ maxLen) := Lib.hid (by rw [size_of]; have := HLK.out; unfold maxLen; omega)
      obtain ⟨A', ca', hv, ha⟩ := HRD.out
      simp only [Value.slice.injEq] at hv
      obtain ⟨rfl, _, rfl⟩ := hv
      obtain ⟨gl, off, rfl, hgl, hca⟩ := ha (by omega)
      have d1 : wr.cell? ⟨gl, off + k, none⟩ = some (.string ⟨out[k].toArray⟩) := hca k hlt
      obtain ⟨d, HD⟩ : ∃ d, Hid (Lib.indexByte (⟨out[k].toArray⟩ : ByteArray).data.toList 45 = d) := ⟨_, Lib.hid rfl⟩
      clear ha hca
      go_wp2_with fail
      refine (l01At_any _ 45 _ HLM.out).mono ?_
      rw [HD.out]
      rintro e w2 ⟨rfl, rfl⟩
      by_cases hd : d < 0
      · have HN : Hid (lastSt (out.take (k + 1)) = out[k]) := Lib.hid (by rw [HLT.out, if_pos]; unfold stb dash; have e : Lib.indexByte out[k] 45 = d := HD.out; rw [e]; simpa using hd)
        go_wp2_with fail
        go_roundw
        case rel => exact ⟨k + 1, by omega, by go_num, by rw [HN.out], trivial⟩
        case measure => simp [intOf]; omega
      · have HN : Hid (lastSt (out.take (k + 1)) = lastSt (out.take k)) := Lib.hid (by rw [HLT.out, if_neg]; unfold stb dash; have e : Lib.indexByte out[k] 45 = d := HD.out; rw [e]; simpa using hd)
        go_wp2_with fail
        go_roundw
        case rel => exact ⟨k + 1, by omega, by go_num, by rw [HN.out], trivial⟩
        case measure => simp [intOf]; omega
    · have HX : Hid (lastSt (out.take k) = lastSt out) := Lib.hid (by rw [List.take_of_length_le (by omega)])
      rw [HX.out]
      obtain ⟨z, HZ⟩ : ∃ z, Hid (lastSt out = z) := ⟨_, Lib.hid rfl⟩
      rw [HZ.out]
      by_cases hz : z = []
      · by_cases h0 : 0 < out.length
        · have q0 : (0 : Int) < (out.length : Int) := by omega
          have q1 : ((⟨z.toArray⟩ : ByteArray).toList == []) = true := by rw [hz, ByteArray.toList_eq]; rfl
          obtain ⟨m, hm⟩ : ∃ m : Nat, out.length = m + 1 := ⟨out.length - 1, by omega⟩
          have hmo : m < out.length := by omega
          have HN : Hid (newestL out = out[m]) := Lib.hid (by rw [newest_none (HZ.out.trans hz) h0, lastD_get h0]; simp only [hm, Nat.add_sub_cancel])
          obtain ⟨A', ca', hv, ha⟩ := HRD.out
          simp only [Value.slice.injEq] at hv
          obtain ⟨rfl, _, rfl⟩ := hv
          obtain ⟨gl, off, rfl, hgl, hca⟩ := ha (by omega)
          have d1 : wr.cell? ⟨gl, off + m, none⟩ = some (.string ⟨out[m].toArray⟩) := hca m hmo
          have e1 : (out.length : Int) - 1 = (m : Int) := by omega
          have k0 : (0 : Int) ≤ (m : Int) := by omega
          have k1 : (m : Int) < (out.length : Int) := by omega
          have k2 : ¬ (k : Int) < (out.length : Int) := by omega
          clear ha hca h0 hm
          go_wp2_with fail
          go_ret
          exact ⟨out, by rw [HN.out]; rfl, HSO.out, hb1⟩
        · have q0 : ¬ (0 : Int) < (out.length : Int) := by omega
          have q1 : ((⟨z.toArray⟩ : ByteArray).toList == []) = true := by rw [hz, ByteArray.toList_eq]; rfl
          have HN : Hid (newestL out = []) := Lib.hid (by unfold newestL; rw [if_neg (fun h => h0 h.2), HZ.out, hz])
          have k2 : ¬ (k : Int) < (out.length : Int) := by omega
          go_wp2_with fail
          go_ret
          exact ⟨out, by rw [HN.out]; rfl, HSO.out, hb1⟩
      · have q1 : ((⟨z.toArray⟩ : ByteArray).toList == []) = false := by rw [ByteArray.toList_eq]; simpa using hz
        have HN : Hid (newestL out = z) := Lib.hid (newest_some HZ.out hz)
        have k2 : ¬ (k : Int) < (out.length : Int) := by omega
        go_wp2_with fail
        go_ret
        exact ⟨out, by rw [HN.out]; rfl, HSO.out, hb1⟩
end Go.Proofs.YtjpclglklmlhlaaGreatDoor

/-
  The laws' own helpers on lists of texts: szStringS counts them, toStringS copies them.
-/
namespace Go.Proofs.YtjpclglklmlhlaaGreatDoor
open Go.RowKit

/-- How many texts and letters there are. -/
def smL (ls : List (List UInt8)) : Nat := (ls.map List.length).sum
def szI (left : Int) (ls : List (List UInt8)) : Int := if (ls.length : Int) + (smL ls : Int) ≤ left then left - (ls.length : Int) - (smL ls : Int) else -1
theorem smL_snoc (ls : List (List UInt8)) (k : Nat) (h : k < ls.length) : smL (ls.take (k + 1)) = smL (ls.take k) + ls[k].length := by
  unfold smL; rw [List.take_succ_eq_append_getElem h]; simp only [List.map_append, List.sum_append, List.map_cons, List.map_nil, List.sum_cons, List.sum_nil]; omega
theorem smL_le (ls : List (List UInt8)) (k : Nat) : smL (ls.take k) ≤ smL ls := by
  have : smL ls = smL (ls.take k) + smL (ls.drop k) := by unfold smL; rw [← List.sum_append, ← List.map_append, List.take_append_drop]
  omega
theorem smL_mem {ls : List (List UInt8)} : ∀ l ∈ ls, l.length ≤ smL ls := by
  induction ls with
  | nil => intro l h; cases h
  | cons a t ih =>
    intro l h
    have e : smL (a :: t) = a.length + smL t := by unfold smL; simp
    rcases List.mem_cons.1 h with rfl | h
    · omega
    · have := ih l h; omega
theorem szI_yes {left : Int} {ls : List (List UInt8)} (h : (ls.length : Int) + (smL ls : Int) ≤ left) : szI left ls = left - (ls.length : Int) - (smL ls : Int) := if_pos h
theorem szI_no {left : Int} {ls : List (List UInt8)} (h : ¬ (ls.length : Int) + (smL ls : Int) ≤ left) : szI left ls = -1 := if_neg h
set_option maxRecDepth 100000 in
set_option maxHeartbeats 1000000 in
theorem szStringS_any (v : Value) (ls : List (List UInt8)) (left : Int) (w : World) (hr : RdS w v ls) (h0 : 0 ≤ left) (h1 : left ≤ 1048576) (hn : ls.length ≤ maxLen) (hm : ∀ l ∈ ls, l.length ≤ maxLen) :
    Calls Tryz.prog 11 #[v, .int .i64 left] w fun e w' => e = .returned (.int .i64 (szI left ls)) ∧ w = w' := by
  obtain ⟨A, ca, rfl, ha⟩ := hr
  have HM := Lib.hid hm
  clear hm
  unfold maxLen at hn
  by_cases hl : (ls.length : Int) ≤ left
  · go_enter Tryz.func11, Tryz.ntmps11
    go_wp2
    go_loop [1, 5] (fun m i => ∃ (k : Nat) (z : Int), k ≤ ls.length ∧ i = .int .i64 k ∧ m = .int .i64 z ∧ 0 ≤ z ∧ z ≤ 1048576 ∧ Hid (z = left - (ls.length : Int) - (smL (ls.take k) : Int))) (fun _ i => ls.length - (intOf i).toNat)
    case atStart => exact ⟨0, _, Nat.zero_le _, rfl, rfl, by omega, by omega, Lib.hid (by simp [smL])⟩
    case round =>
      obtain ⟨k, z, hk, rfl, rfl, z0, z1, HZ⟩ := hrel
      by_cases hlt : k < ls.length
      · obtain ⟨g, off, rfl, _, hca⟩ := ha (by omega)
        obtain ⟨b, hb⟩ : ∃ b : ByteArray, b = ⟨ls[k].toArray⟩ := ⟨_, rfl⟩
        have d1 : w.cell? ⟨g, off + k, none⟩ = some (.string b) := by rw [hb]; exact hca k hlt
        have HB : Hid (b.size = ls[k].length) := Lib.hid (by rw [hb]; exact size_of _)
        have hb2 : b.size ≤ 9223372036854775807 := by have := HM.out ls[k] (List.getElem_mem hlt); unfold maxLen at this; have := HB.out; omega
        have k0 : (0 : Int) ≤ (k : Int) := by omega
        have k1 : (k : Int) < (ls.length : Int) := by omega
        have HS := Lib.hid (smL_snoc ls k hlt)
        have HT := Lib.hid (smL_le ls (k + 1))
        clear ha hca hb
        by_cases hz : z - (b.size : Int) < 0
        · have HX : Hid (szI left ls = -1) := Lib.hid (szI_no (by have := HZ.out; have := HS.out; have := HT.out; have := HB.out; omega))
          go_wp2
          go_ret
          exact ⟨ret_int HX.out.symm, rfl⟩
        · go_wp2
          go_round
          case rel => exact ⟨k + 1, _, by omega, by go_num, rfl, by omega, by omega, Lib.hid (by have := HZ.out; have := HS.out; have := HB.out; omega)⟩
          case measure => simp [intOf]; omega
      · have HX : Hid (szI left ls = z) := Lib.hid (by
          have hz := HZ.out
          rw [List.take_of_length_le (by omega)] at hz
          rw [szI_yes (by omega)]; omega)
        clear ha
        go_wp2
        go_ret
        exact ⟨ret_int HX.out.symm, rfl⟩
  · have HX : Hid (szI left ls = -1) := Lib.hid (szI_no (by omega))
    go_enter Tryz.func11, Tryz.ntmps11
    go_wp2
    go_ret
    exact ⟨ret_int HX.out.symm, rfl⟩

/-- The first k texts, then empty ones. -/
def tk (k : Nat) (ls : List (List UInt8)) : List (List UInt8) := ls.take k ++ List.replicate (ls.length - k) []
theorem tk_len (k : Nat) (ls : List (List UInt8)) (h : k ≤ ls.length) : (tk k ls).length = ls.length := by simp [tk]; omega
theorem tk_zero (ls : List (List UInt8)) : tk 0 ls = List.replicate ls.length [] := by simp [tk]
theorem tk_all (ls : List (List UInt8)) : tk ls.length ls = ls := by simp [tk]
theorem tk_set (k : Nat) (ls : List (List UInt8)) (h : k < ls.length) : (tk k ls).set k ls[k] = tk (k + 1) ls := by
  unfold tk
  rw [List.set_append_right _ _ (by simp; omega), List.take_succ_eq_append_getElem h, List.append_assoc]
  congr 1
  have e : ls.length - k = (ls.length - (k + 1)) + 1 := by omega
  have e2 : k - (List.take k ls).length = 0 := by simp; omega
  rw [e2, e, List.replicate_succ]
  rfl
theorem strs_made {w : World} {base : Nat} {v : Value} {n : Nat} (h : w.ownsRow base 9 1 v n (madeCells (Value.string ⟨#[]⟩).cells (n * 1)).toList) : Strs w base v (List.replicate n []) := by
  unfold Strs
  have e : (madeCells (Value.string ⟨#[]⟩).cells (n * 1)).toList = (List.replicate n ([] : List UInt8)).map sv := by
    apply List.ext_getElem?
    intro j
    by_cases hj : j < n
    · simp [madeCells, hj, Nat.mod_one, sv, Value.cells]
    · simp [madeCells, hj]
  rw [← e]
  simpa using h

set_option maxRecDepth 100000 in
set_option maxHeartbeats 1000000 in
theorem toStringS_any (v : Value) (ls : List (List UInt8)) (w : World) (hr : RdS w v ls) (hl : ls.length ≤ 1048576) :
    Calls Tryz.prog 13 #[v] w fun e w' => ∃ g cap, e = .returned (.slice (some ⟨g, 0, none⟩) ls.length cap) ∧ Strs w' w.heap.size (.slice (some ⟨g, 0, none⟩) ls.length cap) ls ∧ Below w.heap.size w w' := by
  have HR := Lib.hid hr
  obtain ⟨A, ca, rfl, ha⟩ := hr
  obtain ⟨i0, hi, hz0, hz1, hz2⟩ := info_parts strinfo
  go_enter Tryz.func13, Tryz.ntmps13
  go_wp2_with (at_make; refine wpList_make_full _ rfl _ _ 28 rfl w.heap.size 9 i0 (.string ⟨#[]⟩) 1 Tryz.underlying28 hi hz0 hz1 .i64 .i64 _ _ ls.length rfl rfl rfl rfl (by rw [hz2]; omega) (by unfold maxLen; omega) (Nat.le_refl _) ?_; intro w1 hown1 hg1)
  have hS1 := strs_made hown1
  have hb1 : Below w.heap.size w w1 := (Below.refl _ _).grown hg1 (Nat.le_refl _) (by simp)
  clear hown1 hg1 hi hz0 hz1 hz2 ha
  go_loopw [4] (fun i wr => ∃ k : Nat, k ≤ ls.length ∧ i = .int .i64 k ∧ Strs wr w.heap.size (.slice (some ⟨w.heap.size, 0, none⟩) ls.length ls.length) (tk k ls) ∧ Below w.heap.size w wr) (fun i _ => ls.length - (intOf i).toNat)
  case atStart => exact ⟨0, Nat.zero_le _, rfl, by rw [tk_zero]; exact hS1, hb1⟩
  case round =>
    obtain ⟨k, hk, rfl, hS, hb⟩ := hrel
    by_cases hlt : k < ls.length
    · obtain ⟨A', ca', hv, ha⟩ := HR.out.below hb
      simp only [Value.slice.injEq] at hv
      obtain ⟨rfl, _, rfl⟩ := hv
      obtain ⟨g, off, rfl, _, hca⟩ := ha (by omega)
      have d1 : wr.cell? ⟨g, off + k, none⟩ = some (.string ⟨ls[k].toArray⟩) := hca k hlt
      have hS' : Strs wr w.heap.size (.slice (some ⟨w.heap.size, 0, none⟩) (tk k ls).length ls.length) (tk k ls) := by rw [tk_len k ls hk]; exact hS
      have c2 : wr.cell? ⟨w.heap.size, k, none⟩ = some (sv ((tk k ls)[k]'(by rw [tk_len k ls hk]; exact hlt))) := hS.cell k _
      have f2 : wr.frozen? ⟨w.heap.size, k, none⟩ = false := World.ownsRow.frozenAt hS' k
      have k0 : (0 : Int) ≤ (k : Int) := by omega
      have k1 : (k : Int) < (ls.length : Int) := by omega
      clear ha hca hS1 hb1
      go_wp2_with fail
      go_roundw
      case rel => exact ⟨k + 1, by omega, by go_num, by have := hS'.set k ls[k]; rw [tk_set k ls hlt, tk_len (k + 1) ls (by omega)] at this; exact this, hb.setCell (p := ⟨w.heap.size, k, none⟩) (Nat.le_refl _) _⟩
      case measure => simp [intOf]; omega
    · obtain rfl : k = ls.length := by omega
      rw [tk_all] at hS
      clear hS1 hb1
      go_wp2_with fail
      go_ret
      exact ⟨_, _, rfl, hS, hb⟩
end Go.Proofs.YtjpclglklmlhlaaGreatDoor

/-
  laws.eqStringS: a list of texts is the same as itself.
-/
namespace Go.Proofs.YtjpclglklmlhlaaGreatDoor
open Go.RowKit

set_option maxRecDepth 100000 in
set_option maxHeartbeats 1000000 in
theorem eqStringS_same (va vb : Value) (ls : List (List UInt8)) (w : World) (ha : RdS w va ls) (hb : RdS w vb ls) (hl : ls.length ≤ 16777216) :
    Calls Tryz.prog 15 #[va, vb] w fun e w' => e = .returned (.bool true) ∧ ∃ n, w' = w.drewN n := by
  obtain ⟨A, ca, rfl, ha⟩ := ha
  obtain ⟨B, cb, rfl, hb⟩ := hb
  have q0 : ((ls.length : Int) != (ls.length : Int)) = false := int_bne_false rfl
  go_enter Tryz.func15, Tryz.ntmps15
  go_wp2
  go_loopw [5] (fun i wr => ∃ k n : Nat, k ≤ ls.length ∧ i = .int .i64 k ∧ wr = w.drewN n) (fun i _ => ls.length - (intOf i).toNat)
  case atStart => exact ⟨0, 0, Nat.zero_le _, rfl, rfl⟩
  case round =>
    obtain ⟨k, n, hk, rfl, rfl⟩ := hrel
    by_cases hlt : k < ls.length
    · obtain ⟨g, off, rfl, _, hca⟩ := ha (by omega)
      obtain ⟨g2, off2, rfl, _, hcb⟩ := hb (by omega)
      have d1 : w.cell? ⟨g, off + k, none⟩ = some (.string ⟨ls[k].toArray⟩) := hca k hlt
      have d2 : w.cell? ⟨g2, off2 + k, none⟩ = some (.string ⟨ls[k].toArray⟩) := hcb k hlt
      have k0 : (0 : Int) ≤ (k : Int) := by omega
      have k1 : (k : Int) < (ls.length : Int) := by omega
      clear ha hb hca hcb
      go_wp2_with fail
      go_quiet (fail)
      go_wp2_with fail
      go_roundw
      case rel => exact ⟨k + 1, _, by omega, by go_num, rfl⟩
      case measure => simp [intOf]; omega
    · clear ha hb
      go_wp2_with fail
      go_ret
      exact ⟨rfl, n, rfl⟩
end Go.Proofs.YtjpclglklmlhlaaGreatDoor

/-
  A byte buffer of the call's own: what it owns as a list of bytes, and the string that it is turned into.
-/
namespace Go.Proofs.YtjpclglklmlhlaaGreatDoor
open Go.RowKit

/-- A byte as a value. -/
def bv (c : UInt8) : Value := .int .u8 (c.toNat : Int)
/-- The value v owns just the bytes l, in blocks from base on. -/
def Buf (w : World) (base : Nat) (v : Value) (l : List UInt8) : Prop := w.ownsRow base 5 1 v l.length (l.map bv)

theorem u8info : (Tryz.prog.info? 5).map (fun i => (i.zero, i.size, i.bytes)) = some (some (.int .u8 0), 1, 1) := by kernel_rfl

theorem Buf.form {w : World} {base : Nat} {v : Value} {l : List UInt8} (h : Buf w base v l) : (v = .slice none 0 0 ∧ l = []) ∨ ∃ g cap, v = .slice (some ⟨g, 0, none⟩) l.length cap ∧ base ≤ g ∧ g < w.heap.size := by
  rcases h.2 with ⟨hv, hl⟩ | ⟨g, cap, cur, hv, hb, hh, _⟩
  · left; exact ⟨hv, by simpa using hl⟩
  · right
    refine ⟨g, cap, hv, hb, ?_⟩
    rcases Nat.lt_or_ge g w.heap.size with hlt | hge
    · exact hlt
    · rw [Array.getElem?_eq_none hge] at hh; cases hh

theorem Buf.conv {w : World} {base : Nat} {v : Value} {l : List UInt8} (h : Buf w base v l) : (convert 61 9 v).run Tryz.prog w = .ok (.string ⟨l.toArray⟩) w := by
  rcases h.form with ⟨rfl, rfl⟩ | ⟨g, cap, rfl, _, _⟩
  · rw [run_convert_bytes_string w 61 9 5 none 0 0 Tryz.underlying61 Tryz.underlying5 Tryz.underlying9]
    rfl
  · refine run_convert_bytes_back w 61 9 5 ⟨g, 0, none⟩ cap l Tryz.underlying61 Tryz.underlying5 Tryz.underlying9 ?_
    intro j hj
    exact World.ownsRow.cells (g := g) h rfl j _ (by simp [bv, hj])

theorem Buf.alloc {w : World} {base : Nat} {v : Value} {l : List UInt8} (h : Buf w base v l) (o : Obj) : Buf (w.alloc o) base v l := World.ownsRow.alloc h o
theorem Buf.drew {w : World} {base : Nat} {v : Value} {l : List UInt8} (h : Buf w base v l) : Buf w.drew base v l := World.ownsRow.drew h
theorem Buf.owned {w : World} {base : Nat} {v : Value} {l : List UInt8} (h : Buf w base v l) : ∀ g, v.ownBlock = some g → base ≤ g := by
  intro g hg
  rcases h.form with ⟨rfl, _⟩ | ⟨g', cap, rfl, hb, _⟩
  · simp [Value.ownBlock] at hg
  · simp [Value.ownBlock] at hg; omega

theorem run_append_buf (w : World) (ty : TypeId) (base : Nat) (v : Value) (l : List UInt8) (hown : Buf w base v l) (ns : List UInt8) (B c : Nat) (cs : Array Value) (t : TypeId) (fr : Nat × Nat)
    (hblk : w.heap[B]? = some (.cells cs t fr)) (hcs : cs.toList = ns.map bv) (hm : 0 < ns.length) (hlen : l.length + ns.length ≤ 16777216) (hbase : base ≤ w.heap.size) :
    ∃ v' w', (Builtin.append_ #[61, 61] ty #[v, .slice (some ⟨B, 0, none⟩) ns.length c]).run Tryz.prog w = .ok v' w' ∧ Buf w' base v' (l ++ ns) ∧ Below base w w' := by
  obtain ⟨i0, hi, hz0, hz1, hz2⟩ := info_parts u8info
  obtain ⟨g, cap, w', hr, h2, h3, _, _⟩ := run_append_lies (P := Tryz.prog) w 61 ty base 5 i0 (.int .u8 0) 1 1 Tryz.underlying61 hi hz0 hz1 hz2 rfl (by decide) v l.length (l.map bv) hown
    ⟨B, 0, none⟩ ns.length c (ns.map bv) (by simp) (by rw [← hcs]; exact World.news_of_block hblk) (by intro u hu; obtain ⟨x, _, rfl⟩ := List.mem_map.1 hu; rfl) hm (by unfold maxLen; omega) (by omega) hbase _ rfl
  refine ⟨_, w', hr, ?_, (Below.refl base w).grown h3 hbase hown.owned⟩
  unfold Buf
  rw [List.length_append, List.map_append]
  exact h2

theorem wp_append_buf {w : World} {o : Oper} {a : Act} {K : Act → World → Prop} {Q : Exit → Act → World → Prop} (s x : Operand)
    (ho : o.op = .call { callee := .builtin .append, args := #[s, x], argTypes := #[61, 61] })
    (base : Nat) (v : Value) (l : List UInt8) (hs : a.eval s = v) (hown : Buf w base v l) (ns : List UInt8) (B m c : Nat) (cs : Array Value) (t : TypeId) (fr : Nat × Nat)
    (hx : a.eval x = .slice (some ⟨B, 0, none⟩) m c) (hmm : ns.length = m) (hblk : w.heap[B]? = some (.cells cs t fr)) (hcs : cs.toList = ns.map bv) (hm : 0 < ns.length) (hlen : l.length + ns.length ≤ 16777216) (hbase : base ≤ w.heap.size)
    (h : ∀ v' w', Buf w' base v' (l ++ ns) → Below base w w' → K (a.put o.dst v') w') : o.wp Tryz.prog a w K Q := by
  subst hmm
  obtain ⟨v', w', hr, h2, h3⟩ := run_append_buf w o.type base v l hown ns B c cs t fr hblk hcs hm hlen hbase
  unfold Oper.wp execOp
  simp only [ho, resolve, invoke, builtin, Sem.run_bind, Sem.run_pure, Result.andThen_ok, List.map_toArray, List.map_cons, List.map_nil, hs, hx, hr]
  exact h v' w' h2 h3

/-- append(out, bytes) at a plain region's list. -/
theorem wpList_append_buf {w : World} {ops : Array Oper} {rest : List Oper} {o : Oper} {a : Act} {Q : Exit → Act → World → Prop} (hgd : o.guard = none) (s x : Operand)
    (ho : o.op = .call { callee := .builtin .append, args := #[s, x], argTypes := #[61, 61] })
    (base : Nat) (v : Value) (l : List UInt8) (hs : a.eval s = v) (hown : Buf w base v l) (ns : List UInt8) (B m c : Nat) (cs : Array Value) (t : TypeId) (fr : Nat × Nat)
    (hx : a.eval x = .slice (some ⟨B, 0, none⟩) m c) (hmm : ns.length = m) (hblk : w.heap[B]? = some (.cells cs t fr)) (hcs : cs.toList = ns.map bv) (hm : 0 < ns.length) (hlen : l.length + ns.length ≤ 16777216) (hbase : base ≤ w.heap.size)
    (h : ∀ v' w', Buf w' base v' (l ++ ns) → Below base w w' → wpList Tryz.prog ops Q rest (a.put o.dst v') w') : wpList Tryz.prog ops Q (o :: rest) a w :=
  wpList_plain hgd fun _ hK => wp_append_buf s x ho base v l hs hown ns B m c cs t fr hx hmm hblk hcs hm hlen hbase fun v' w' h2 h3 => hK _ _ (h v' w' h2 h3)

/-- append(out, bytes) at a step of a region that draws its order. -/
theorem step_append_buf {w : World} {ops : Array Oper} {o : Oper} {a : Act} {K : Act → World → Prop} {Q : Exit → Act → World → Prop} {E : Prop} (hgd : o.guard = none) (s x : Operand)
    (ho : o.op = .call { callee := .builtin .append, args := #[s, x], argTypes := #[61, 61] })
    (base : Nat) (v : Value) (l : List UInt8) (hs : a.eval s = v) (hown : Buf w base v l) (ns : List UInt8) (B m c : Nat) (cs : Array Value) (t : TypeId) (fr : Nat × Nat)
    (hx : a.eval x = .slice (some ⟨B, 0, none⟩) m c) (hmm : ns.length = m) (hblk : w.heap[B]? = some (.cells cs t fr)) (hcs : cs.toList = ns.map bv) (hm : 0 < ns.length) (hlen : l.length + ns.length ≤ 16777216) (hbase : base ≤ w.heap.size)
    (h : ∀ v' w', Buf w' base v' (l ++ ns) → Below base w w' → K (a.put o.dst v') w') :
    if Region.wanted o (yielded ops a.tmps) = true then Oper.wp Tryz.prog o a w K Q else E := by
  have hw : Region.wanted o (yielded ops a.tmps) = true := by simp [Region.wanted, hgd]
  rw [if_pos hw]
  exact wp_append_buf s x ho base v l hs hown ns B m c cs t fr hx hmm hblk hcs hm hlen hbase h

def hexC (n : Nat) : UInt8 := ([48, 49, 50, 51, 52, 53, 54, 55, 56, 57, 97, 98, 99, 100, 101, 102] : List UInt8).getD n 0
def hexU (n : Nat) : UInt8 := ([48, 49, 50, 51, 52, 53, 54, 55, 56, 57, 65, 66, 67, 68, 69, 70] : List UInt8).getD n 0
theorem idx_lower (n : Nat) (hn : n < 16) (z : Int) (hz : z = (n : Int)) (w : World) : (Instr.index 9 (.string ⟨#[48, 49, 50, 51, 52, 53, 54, 55, 56, 57, 97, 98, 99, 100, 101, 102]⟩) (.int .u8 z)).run Tryz.prog w = .ok (.int .u8 ((hexC n).toNat : Int)) w := by
  subst hz
  obtain rfl | rfl | rfl | rfl | rfl | rfl | rfl | rfl | rfl | rfl | rfl | rfl | rfl | rfl | rfl | rfl : n = 0 ∨ n = 1 ∨ n = 2 ∨ n = 3 ∨ n = 4 ∨ n = 5 ∨ n = 6 ∨ n = 7 ∨ n = 8 ∨ n = 9 ∨ n = 10 ∨ n = 11 ∨ n = 12 ∨ n = 13 ∨ n = 14 ∨ n = 15 := by omega
  all_goals kernel_rfl
theorem idx_upper (n : Nat) (hn : n < 16) (z : Int) (hz : z = (n : Int)) (w : World) : (Instr.index 9 (.string ⟨#[48, 49, 50, 51, 52, 53, 54, 55, 56, 57, 65, 66, 67, 68, 69, 70]⟩) (.int .u8 z)).run Tryz.prog w = .ok (.int .u8 ((hexU n).toNat : Int)) w := by
  subst hz
  obtain rfl | rfl | rfl | rfl | rfl | rfl | rfl | rfl | rfl | rfl | rfl | rfl | rfl | rfl | rfl | rfl : n = 0 ∨ n = 1 ∨ n = 2 ∨ n = 3 ∨ n = 4 ∨ n = 5 ∨ n = 6 ∨ n = 7 ∨ n = 8 ∨ n = 9 ∨ n = 10 ∨ n = 11 ∨ n = 12 ∨ n = 13 ∨ n = 14 ∨ n = 15 := by omega
  all_goals kernel_rfl
theorem and15 (c : UInt8) : bits .and .u8 (c.toNat : Int) 15 = (c.toNat : Int) % 16 := by
  have h : ∀ n : Nat, n < 256 → bits .and .u8 (n : Int) 15 = (n : Int) % 16 := by decide +kernel
  exact h _ c.toNat_lt

theorem Buf.lit (w : World) (base : Nat) (l : List UInt8) (hb : base ≤ w.heap.size) (hl : l.length ≤ 16777216) : Buf (w.alloc (.cells (l.map bv).toArray 5)) base (.slice (some ⟨w.heap.size, 0, none⟩) l.length l.length) l := by
  have h := World.ownsRow_lit (base := base) (e := 5) (size := 1) w (l.map bv).toArray l.length hb (by unfold maxLen; omega) (by simp)
  simpa [Buf] using h
theorem Buf.empty (w : World) (base : Nat) (hb : base ≤ w.heap.size) : Buf (w.alloc (.cells #[] 5)) base (.slice (some ⟨w.heap.size, 0, none⟩) 0 0) [] := Buf.lit w base [] hb (by simp)

theorem wrap_div16 (c : UInt8) : IntKind.u8.wrap ((c.toNat : Int) / 16) = (c.toNat : Int) / 16 := by
  have h : ∀ n : Nat, n < 256 → IntKind.u8.wrap ((n : Int) / 16) = (n : Int) / 16 := by decide +kernel
  exact h _ c.toNat_lt

theorem tmod16 (c : UInt8) : (c.toNat : Int).tmod 16 = (c.toNat : Int) % 16 := Int.tmod_eq_emod_of_nonneg (by omega)

end Go.Proofs.YtjpclglklmlhlaaGreatDoor

/-
  A string appended to a byte buffer of the call's own.
-/
namespace Go.Proofs.YtjpclglklmlhlaaGreatDoor
open Go.RowKit

theorem wpList_append_buf_str {w : World} {ops : Array Oper} {rest : List Oper} {o : Oper} {a : Act} {Q : Exit → Act → World → Prop} (hgd : o.guard = none) (s x : Operand)
    (ho : o.op = .call { callee := .builtin .append, args := #[s, x], argTypes := #[61, 9] })
    (base : Nat) (v : Value) (l : List UInt8) (hs : a.eval s = v) (hown : Buf w base v l) (ns : List UInt8) (hx : a.eval x = .string ⟨ns.toArray⟩) (hlen : l.length + ns.length ≤ 16777216) (hbase : base ≤ w.heap.size)
    (h : ∀ v' w', Buf w' base v' (l ++ ns) → Below base w w' → wpList Tryz.prog ops Q rest (a.put o.dst v') w') : wpList Tryz.prog ops Q (o :: rest) a w := by
  obtain ⟨i0, hi, hz0, hz1, hz2⟩ := info_parts u8info
  have hsz : (⟨ns.toArray⟩ : ByteArray).size = ns.length := by show ns.toArray.size = _; simp
  refine Lib.wpList_append_own_string _ hgd s x 61 9 ho base 5 i0 Tryz.underlying61 Tryz.underlying9 hi hz0 hz1 hz2 v l.length (l.map bv) hs hown ⟨ns.toArray⟩ hx (by rw [hsz]; unfold maxLen; omega) (by rw [hsz]; omega) hbase ?_
  intro v' w' h2 h3 _
  refine h v' w' ?_ ((Below.refl base w).grown h3 hbase hown.owned)
  unfold Buf
  rw [hsz] at h2
  rw [List.length_append, List.map_append]
  exact h2

/-- A buffer is kept by whatever leaves all old blocks as they were. -/
theorem Buf.below {w w' : World} {base : Nat} {v : Value} {l : List UInt8} (h : Buf w base v l) (hb : Below w.heap.size w w') : Buf w' base v l :=
  World.ownsRow.kept h (row := none) ⟨hb.os, hb.tape, hb.output, hb.size, fun i hi _ => hb.block i hi⟩ (by
    rcases h.form with ⟨rfl, _⟩ | ⟨g, cap, rfl, _, _⟩
    · left; rfl
    · right; simp [Value.ownBlock])
end Go.Proofs.YtjpclglklmlhlaaGreatDoor

/-
  The laws' own helper markText: a mark's text.
-/
namespace Go.Proofs.YtjpclglklmlhlaaGreatDoor
open Go.RowKit

/-- The k-th mark. -/
def mt (k : Nat) : List UInt8 := 109 :: Lib.decDigits k
theorem dig_val (v : Nat) : bv (digC (v % 10)) = .int .u8 (48 + (v : Int) % 10) := by
  have h : ∀ d : Nat, d < 10 → bv (digC d) = .int .u8 (48 + (d : Int)) := by
    intro d hd
    unfold bv digC
    congr 1
    simp
    omega
  rw [h _ (by omega)]
  congr 1

set_option maxRecDepth 100000 in
set_option maxHeartbeats 1000000 in
theorem markText_any (u : Nat) (w : World) (h1 : 1 ≤ u) (h2 : u ≤ 100000000) :
    Calls Tryz.prog 25 #[.int .i64 (u : Int)] w fun e w' => e = .returned (.string ⟨(mt u).toArray⟩) ∧ Below w.heap.size w w' := by
  go_enter Tryz.func25, Tryz.ntmps25
  go_wp2
  go_loopw [0, 3] (fun m o wr => ∃ (v : Nat) (l : List UInt8), o = .string ⟨l.toArray⟩ ∧ m = .int .i64 (v : Int) ∧ v ≤ u ∧ DecAt u v l ∧ Below w.heap.size w wr) (fun m _ _ => (intOf m).toNat)
  case atStart => exact ⟨u, [], rfl, rfl, Nat.le_refl _, decAt_start u (by omega), Below.refl _ _⟩
  case round =>
    obtain ⟨v, l, rfl, rfl, hvu, H, hb⟩ := hrel
    have hl := decAt_len H (by omega)
    by_cases hv : v = 0
    · subst hv
      obtain rfl := decAt_end H
      clear H
      go_wp2
      go_ret
      exact ⟨congrArg Ending.returned (str_cons _ _), hb⟩
    · have HN := Lib.hid (decAt_step H (by omega))
      have hpos : (0 : Int) < (v : Int) := by omega
      have hcv := (Buf.lit wr w.heap.size [digC (v % 10)] hb.size (by simp)).conv
      have hdv := dig_val v
      simp only [List.map_cons, List.map_nil, hdv, List.length_cons, List.length_nil, Nat.zero_add] at hcv
      clear hdv H hv
      go_wp2
      go_roundw
      case rel => exact ⟨v / 10, _, str_cons _ _, by go_num, by omega, HN.out, hb.alloc hb.size _⟩
      case measure => simp [intOf]; omega
end Go.Proofs.YtjpclglklmlhlaaGreatDoor

/-
  The laws' own helpers on lists of texts: markStringS writes marks over each, heldStringS reads them.
-/
namespace Go.Proofs.YtjpclglklmlhlaaGreatDoor
open Go.RowKit

/-- The first k of n marks, then what stood there. -/
def mks (k : Nat) (ls : List (List UInt8)) : List (List UInt8) := (List.range k).map (fun j => mt (j + 1)) ++ ls.drop k
theorem mks_zero (ls : List (List UInt8)) : mks 0 ls = ls := by simp [mks]
theorem mks_len (k : Nat) (ls : List (List UInt8)) (h : k ≤ ls.length) : (mks k ls).length = ls.length := by simp [mks]; omega
theorem mks_get (k : Nat) (ls : List (List UInt8)) (j : Nat) (hj : j < k) (h : j < (mks k ls).length) : (mks k ls)[j] = mt (j + 1) := by simp [mks, hj]
theorem mks_set (k : Nat) (ls : List (List UInt8)) (h : k < ls.length) : (mks k ls).set k (mt (k + 1)) = mks (k + 1) ls := by
  unfold mks
  rw [List.set_append_right _ _ (by simp)]
  simp only [List.length_map, List.length_range, Nat.sub_self]
  rw [List.range_succ, List.map_append, List.append_assoc]
  congr 1
  rw [List.drop_eq_getElem_cons h]
  rfl

set_option maxRecDepth 100000 in
set_option maxHeartbeats 1000000 in
theorem markStringS_any (w : World) (base g cap : Nat) (ls : List (List UInt8)) (h : Strs w base (.slice (some ⟨g, 0, none⟩) ls.length cap) ls) (hb0 : base ≤ w.heap.size) (hg : base ≤ g) (hl : ls.length ≤ 2000000) :
    Calls Tryz.prog 16 #[.slice (some ⟨g, 0, none⟩) ls.length cap, .int .i64 1] w fun e w' => e = .returned (.int .i64 ((ls.length + 1 : Nat) : Int)) ∧ Strs w' base (.slice (some ⟨g, 0, none⟩) ls.length cap) (mks ls.length ls) ∧ Below base w w' := by
  go_enter Tryz.func16, Tryz.ntmps16
  go_wp2
  go_loopw [1, 5] (fun u i wr => ∃ k : Nat, k ≤ ls.length ∧ i = .int .i64 k ∧ u = .int .i64 ((k + 1 : Nat) : Int) ∧ Strs wr base (.slice (some ⟨g, 0, none⟩) ls.length cap) (mks k ls) ∧ Below base w wr) (fun _ i _ => ls.length - (intOf i).toNat)
  case atStart => exact ⟨0, Nat.zero_le _, rfl, rfl, by rw [mks_zero]; exact h, Below.refl _ _⟩
  case round =>
    obtain ⟨k, hk, rfl, rfl, hS, hb⟩ := hrel
    by_cases hlt : k < ls.length
    · have k0 : (0 : Int) ≤ (k : Int) := by omega
      have k1 : (k : Int) < (ls.length : Int) := by omega
      have hm := markText_any (k + 1) wr (by omega) (by omega)
      have HM := Lib.hid hm
      clear hm h
      go_wp2_with fail
      refine HM.out.mono ?_
      rintro e w2 ⟨rfl, hb2⟩
      have hS2 := hS.below hb2
      have hS2' : Strs w2 base (.slice (some ⟨g, 0, none⟩) (mks k ls).length cap) (mks k ls) := by rw [mks_len k ls hk]; exact hS2
      have c2 : w2.cell? ⟨g, k, none⟩ = some (sv ((mks k ls)[k]'(by rw [mks_len k ls hk]; exact hlt))) := hS2.cell k _
      have f2 : w2.frozen? ⟨g, k, none⟩ = false := World.ownsRow.frozenAt hS2' k
      have HB := hb.trans (hb2.mono (Nat.le_trans hb0 hb.size))
      go_wp2_with fail
      go_roundw
      case rel => exact ⟨k + 1, by omega, by go_num, by go_num, by have := hS2'.set k (mt (k + 1)); rw [mks_set k ls hlt, mks_len (k+1) ls (by omega)] at this; exact this, HB.setCell (p := ⟨g, k, none⟩) hg _⟩
      case measure => simp [intOf]; omega
    · obtain rfl : k = ls.length := by omega
      clear h
      go_wp2_with fail
      go_ret
      exact ⟨rfl, hS, hb⟩

set_option maxRecDepth 100000 in
set_option maxHeartbeats 1000000 in
theorem heldStringS_any (w : World) (base g cap : Nat) (ls : List (List UInt8)) (h : Strs w base (.slice (some ⟨g, 0, none⟩) ls.length cap) (mks ls.length ls)) (hl : ls.length ≤ 2000000) :
    Calls Tryz.prog 17 #[.slice (some ⟨g, 0, none⟩) ls.length cap, .int .i64 1] w fun e w' => e = .returned (.int .i64 ((ls.length + 1 : Nat) : Int)) ∧ Below w.heap.size w w' := by
  go_enter Tryz.func17, Tryz.ntmps17
  go_wp2
  go_loopw [1, 5] (fun u i wr => ∃ k : Nat, k ≤ ls.length ∧ i = .int .i64 k ∧ u = .int .i64 ((k + 1 : Nat) : Int) ∧ Strs wr base (.slice (some ⟨g, 0, none⟩) ls.length cap) (mks ls.length ls) ∧ Below w.heap.size w wr) (fun _ i _ => ls.length - (intOf i).toNat)
  case atStart => exact ⟨0, Nat.zero_le _, rfl, rfl, h, Below.refl _ _⟩
  case round =>
    obtain ⟨k, hk, rfl, rfl, hS, hb⟩ := hrel
    by_cases hlt : k < ls.length
    · have k0 : (0 : Int) ≤ (k : Int) := by omega
      have k1 : (k : Int) < (ls.length : Int) := by omega
      have HM := Lib.hid (fun W => markText_any (k + 1) W (by omega) (by omega))
      clear h
      have HC : Hid (∀ W, Strs W base (.slice (some ⟨g, 0, none⟩) ls.length cap) (mks ls.length ls) → W.cell? ⟨g, k, none⟩ = some (.string ⟨(mt (k + 1)).toArray⟩)) := Lib.hid (fun W hW => by
        have := hW.cell k (by rw [mks_len _ ls (Nat.le_refl _)]; exact hlt)
        rw [mks_get ls.length ls k hlt] at this
        exact this)
      have c1 := HC.out wr hS
      have g1 : g < wr.heap.size := by
        rcases hS.form with ⟨h', _⟩ | ⟨g', cap', h', _, hg'⟩
        · cases h'
        · simp only [Value.slice.injEq, Option.some.injEq, Addr.mk.injEq, and_true] at h'
          rw [h'.1]; exact hg'
      go_wp2_with fail
      go_region_held3 (fun W => W.cell? ⟨g, k, none⟩ = some (.string ⟨(mt (k + 1)).toArray⟩) ∧ g < W.heap.size) (first | exact ⟨c1, g1⟩ | (refine ⟨?_, ?_⟩ <;> assumption) | exact keep_cell hb1 (by assumption) (by assumption)) ((first | (go_at_call 25; refine (HM.out _).mono ?_; rintro e w1 ⟨rfl, hb1⟩)))
      go_wp2_with fail
      have hd : Below w.heap.size w wr.drew := hb.trans ⟨rfl, rfl, rfl, Nat.le_refl _, fun _ _ => rfl⟩
      go_roundw
      case rel => exact ⟨k + 1, by omega, by go_num, by go_num, hS.drew.below hb1, hd.trans (hb1.mono hd.size)⟩
      case measure => simp [intOf]; omega
    · obtain rfl : k = ls.length := by omega
      clear h
      go_wp2_with fail
      go_ret
      exact ⟨rfl, hb⟩
end Go.Proofs.YtjpclglklmlhlaaGreatDoor

/-
  The laws' own helpers on lists of texts: markStringS writes marks over each, heldStringS reads them; nil lists too.
-/
namespace Go.Proofs.YtjpclglklmlhlaaGreatDoor
open Go.RowKit

set_option maxRecDepth 100000 in
set_option maxHeartbeats 1000000 in
theorem markS_any (w : World) (base : Nat) (v : Value) (ls : List (List UInt8)) (h : Strs w base v ls) (hb0 : base ≤ w.heap.size) (hl : ls.length ≤ 2000000) :
    Calls Tryz.prog 16 #[v, .int .i64 1] w fun e w' => e = .returned (.int .i64 ((ls.length + 1 : Nat) : Int)) ∧ Strs w' base v (mks ls.length ls) ∧ Below base w w' := by
  rcases h.form with ⟨rfl, rfl⟩ | ⟨g, cap, rfl, hg, _⟩
  · go_enter Tryz.func16, Tryz.ntmps16
    go_wp2
    refine wp_loop_rounds 1 ?_
    rw [rounds_succ]; go_wp2
    go_ret
    exact ⟨rfl, h, Below.refl _ _⟩
  · exact markStringS_any w base g cap ls h hb0 hg hl
set_option maxRecDepth 100000 in
set_option maxHeartbeats 1000000 in
theorem heldS_any (w : World) (base : Nat) (v : Value) (ls : List (List UInt8)) (h : Strs w base v (mks ls.length ls)) (hl : ls.length ≤ 2000000) :
    Calls Tryz.prog 17 #[v, .int .i64 1] w fun e w' => e = .returned (.int .i64 ((ls.length + 1 : Nat) : Int)) ∧ Below w.heap.size w w' := by
  rcases h.form with ⟨rfl, h0⟩ | ⟨g, cap, rfl, hg, _⟩
  · have : ls = [] := by
      have := mks_len ls.length ls (Nat.le_refl _)
      rw [h0] at this
      exact List.eq_nil_of_length_eq_zero this.symm
    subst this
    go_enter Tryz.func17, Tryz.ntmps17
    go_wp2
    refine wp_loop_rounds 1 ?_
    rw [rounds_succ]; go_wp2
    go_ret
    exact ⟨rfl, Below.refl _ _⟩
  · rw [mks_len ls.length ls (Nat.le_refl _)] at h ⊢
    exact heldStringS_any w base g cap ls h hl

theorem gr_trans {w w1 w2 : World} {row : Option Nat} (h1 : w.grownBy w1 row) (h2 : w1.grownBy w2 row) : w.grownBy w2 row :=
  ⟨h2.os.trans h1.os, h2.tape.trans h1.tape, h2.output.trans h1.output, Nat.le_trans h1.size h2.size, fun k hk hn => (h2.block k (Nat.lt_of_lt_of_le hk h1.size) hn).trans (h1.block k hk hn)⟩
theorem gr_below {w w2 : World} {row : Option Nat} (hb : Below w.heap.size w w2) : w.grownBy w2 row := ⟨hb.os, hb.tape, hb.output, hb.size, fun k hk _ => hb.block k hk⟩
theorem gr_alloc (w : World) (o : Obj) (row : Option Nat) : w.grownBy (w.alloc o) row := gr_below ((Below.refl _ _).alloc (Nat.le_refl _) _)
theorem gr_set (w : World) (g k : Nat) (x : Value) : w.grownBy (w.setCell ⟨g, k, none⟩ x) (some g) := ⟨rfl, rfl, rfl, by simp, fun j _ hj => heap_setCell_other w ⟨g, k, none⟩ j x (fun e => hj (by simp [e]))⟩
theorem Strs.grown {w w' : World} {base : Nat} {v : Value} {l : List (List UInt8)} {row : Option Nat} (h : Strs w base v l) (hg : w.grownBy w' row) (hne : ∀ g, v.ownBlock = some g → some g ≠ row) : Strs w' base v l := by
  rcases h.form with ⟨rfl, rfl⟩ | ⟨g, cap, rfl, _, _⟩
  · exact ⟨by simp, .inl ⟨rfl, rfl⟩⟩
  · exact World.ownsRow.kept h hg (.inr (fun e => hne g rfl (by rw [← e]; rfl)))
theorem gr_heap {W V : World} {row : Option Nat} {B : Nat} {o : Obj} (hg : W.grownBy V row) (h : W.heap[B]? = some o) (hne : some B ≠ row) : V.heap[B]? = some o := (hg.block B (Array.getElem?_eq_some_iff.1 h).1 hne).trans h
theorem gr_belowN {W V : World} {row : Option Nat} {n : Nat} {w : World} (hb : Below n w W) (hg : W.grownBy V row) (hn : n ≤ W.heap.size) (hr : ∀ g, row = some g → n ≤ g) : Below n w V := hb.grown hg hn hr

set_option maxRecDepth 100000 in
set_option maxHeartbeats 1000000 in
theorem markStringS_gr (w : World) (base g cap : Nat) (ls : List (List UInt8)) (h : Strs w base (.slice (some ⟨g, 0, none⟩) ls.length cap) ls) (hl : ls.length ≤ 2000000) :
    Calls Tryz.prog 16 #[.slice (some ⟨g, 0, none⟩) ls.length cap, .int .i64 1] w fun e w' => e = .returned (.int .i64 ((ls.length + 1 : Nat) : Int)) ∧ Strs w' base (.slice (some ⟨g, 0, none⟩) ls.length cap) (mks ls.length ls) ∧ w.grownBy w' (some g) := by
  go_enter Tryz.func16, Tryz.ntmps16
  go_wp2
  go_loopw [1, 5] (fun u i wr => ∃ k : Nat, k ≤ ls.length ∧ i = .int .i64 k ∧ u = .int .i64 ((k + 1 : Nat) : Int) ∧ Strs wr base (.slice (some ⟨g, 0, none⟩) ls.length cap) (mks k ls) ∧ w.grownBy wr (some g)) (fun _ i _ => ls.length - (intOf i).toNat)
  case atStart => exact ⟨0, Nat.zero_le _, rfl, rfl, by rw [mks_zero]; exact h, World.grownBy.refl w _⟩
  case round =>
    obtain ⟨k, hk, rfl, rfl, hS, hb⟩ := hrel
    by_cases hlt : k < ls.length
    · have k0 : (0 : Int) ≤ (k : Int) := by omega
      have k1 : (k : Int) < (ls.length : Int) := by omega
      have HM := Lib.hid (markText_any (k + 1) wr (by omega) (by omega))
      clear h
      go_wp2_with fail
      refine HM.out.mono ?_
      rintro e w2 ⟨rfl, hb2⟩
      have hS2 := hS.below hb2
      have hS2' : Strs w2 base (.slice (some ⟨g, 0, none⟩) (mks k ls).length cap) (mks k ls) := by rw [mks_len k ls hk]; exact hS2
      have c2 : w2.cell? ⟨g, k, none⟩ = some (sv ((mks k ls)[k]'(by rw [mks_len k ls hk]; exact hlt))) := hS2.cell k _
      have f2 : w2.frozen? ⟨g, k, none⟩ = false := World.ownsRow.frozenAt hS2' k
      have HB := gr_trans hb (gr_below hb2)
      go_wp2_with fail
      go_roundw
      case rel => exact ⟨k + 1, by omega, by go_num, by go_num, by have := hS2'.set k (mt (k + 1)); rw [mks_set k ls hlt, mks_len (k+1) ls (by omega)] at this; exact this, gr_trans HB (gr_set _ _ _ _)⟩
      case measure => simp [intOf]; omega
    · obtain rfl : k = ls.length := by omega
      clear h
      go_wp2_with fail
      go_ret
      exact ⟨rfl, hS, hb⟩

set_option maxRecDepth 100000 in
set_option maxHeartbeats 1000000 in
theorem markS_gr (w : World) (base : Nat) (v : Value) (ls : List (List UInt8)) (h : Strs w base v ls) (hl : ls.length ≤ 2000000) :
    Calls Tryz.prog 16 #[v, .int .i64 1] w fun e w' => e = .returned (.int .i64 ((ls.length + 1 : Nat) : Int)) ∧ Strs w' base v (mks ls.length ls) ∧ w.grownBy w' v.ownBlock := by
  rcases h.form with ⟨rfl, rfl⟩ | ⟨g, cap, rfl, hg, _⟩
  · go_enter Tryz.func16, Tryz.ntmps16
    go_wp2
    refine wp_loop_rounds 1 ?_
    rw [rounds_succ]; go_wp2
    go_ret
    exact ⟨rfl, h, World.grownBy.refl w _⟩
  · exact markStringS_gr w base g cap ls h hl
end Go.Proofs.YtjpclglklmlhlaaGreatDoor

/-
  The walk of the law FnExactSortVersions.
-/
namespace Go.Proofs.YtjpclglklmlhlaaGreatDoor
open Go.RowKit

theorem szI_Sm {ls : List (List UInt8)} (h : szI 1048576 ls ≠ -1) : Sm ls := by
  unfold szI at h
  split at h
  · rename_i h'
    exact ⟨by omega, fun l hl => by have := smL_mem l hl; omega⟩
  · exact absurd rfl h

set_option maxRecDepth 100000 in
set_option maxHeartbeats 8000000 in
theorem exSortVersions (v : Value) (ls : List (List UInt8)) (w : World) (hr : RdS w v ls) (hn : ls.length ≤ maxLen) (hm : ∀ l ∈ ls, l.length ≤ maxLen) (htab : Tab w) :
    Calls Tryz.prog 4 #[v] w fun e w' => e = .returned (.bool true) ∧ Below w.heap.size w w' := by
  have HZ := Lib.hid (szStringS_any v ls 1048576 w hr (by omega) (by omega) hn hm)
  obtain ⟨z, HX⟩ : ∃ z, Hid (szI 1048576 ls = z) := ⟨_, Lib.hid rfl⟩
  by_cases hz : z < 0
  · clear hr hn hm htab
    go_enter Tryz.func4, Tryz.ntmps4
    go_wp2_with fail
    refine HZ.out.mono ?_
    rw [HX.out]
    rintro e w1 ⟨rfl, rfl⟩
    go_wp2_with fail
    go_ret
    exact ⟨rfl, Below.refl _ _⟩
  · have HS := Lib.hid (szI_Sm (ls := ls) (by have := HX.out; omega))
    have hl : ls.length ≤ 1048576 := HS.out.1
    have HT := Lib.hid (fun (W : World) (hb : Below w.heap.size w W) => toStringS_any v ls W (hr.below hb) hl)
    have HIM := Lib.hid (fun (W : World) (u : Value) (hb : Below w.heap.size w W) (h : RdS W u ls) => implSortVersions_any u ls W h HS.out (tab_below htab hb))
    clear hr hn hm htab
    go_enter Tryz.func4, Tryz.ntmps4
    go_wp2_with fail
    refine HZ.out.mono ?_
    rw [HX.out]
    rintro e w0 ⟨rfl, rfl⟩
    go_wp2_with fail
    refine (HT.out _ (Below.refl _ _)).mono ?_
    rintro e w1 ⟨g1, c1, rfl, hS1, B1⟩
    go_wp2_with fail
    refine (specSortVersions_any _ ls _ (RdS.of_strs hS1) HS.out).mono ?_
    rintro e w2 ⟨u0, out, rfl, S0, hSO, hb2⟩
    have B2 := B1.trans (hb2.mono B1.size)
    have lo := sortOf_len hSO
    have lo2 : out.length ≤ 1048576 := by omega
    have HSO := Lib.hid hSO
    have n0 := S0.block_lt
    clear hS1 hb2 B1 hSO HZ HX
    obtain ⟨A0, c0, rfl⟩ := S0.slice
    go_wp2_with fail
    refine (HT.out _ B2).mono ?_
    rintro e w3 ⟨g2, c2, rfl, Sx, hb3⟩
    have B3 := B2.trans (hb3.mono B2.size)
    have S03 := S0.below hb3
    have x2 : w2.heap.size ≤ g2 := Sx.lo
    have x3 : g2 < w3.heap.size := Sx.block_lt g2 rfl
    clear S0 hb3
    go_wp2_with fail
    refine (HIM.out _ _ B3 (RdS.of_strs Sx)).mono ?_
    rintro e w4 ⟨g3, c3, out', rfl, Sg, hSO', hb4⟩
    obtain rfl : out' = out := sortOf_unique hSO' HSO.out
    have B4 := B3.trans (hb4.mono B3.size)
    have S04 := S03.below hb4
    have Sx4 := Sx.below hb4
    have x4 : w3.heap.size ≤ g3 := Sg.lo
    clear S03 Sx hb4 hSO'
    go_wp2_with fail
    refine (eqStringS_same _ _ out' _ (RdS.of_strs Sg) (RdS.of_strs S04) (by omega)).mono ?_
    rintro e w5 ⟨rfl, n5, rfl⟩
    have B5 := B4.trans (below_drewN _ _ n5)
    have S05 := S04.below (below_drewN _ _ n5)
    have Sx5 := Sx4.below (below_drewN _ _ n5)
    have Sg5 := Sg.below (below_drewN _ _ n5)
    clear S04 Sx4 Sg B4
    go_wp2_with fail
    refine (HT.out _ B5).mono ?_
    rintro e w6 ⟨g6, c6, rfl, S6, hb6⟩
    have B6 := B5.trans (hb6.mono B5.size)
    have S06 := S05.below hb6
    have Sx6 := Sx5.below hb6
    have Sg6 := Sg5.below hb6
    clear S05 Sx5 Sg5 hb6 B5
    go_wp2_with fail
    refine (eqStringS_same _ _ ls _ (RdS.of_strs Sx6) (RdS.of_strs S6) (by omega)).mono ?_
    rintro e w7 ⟨rfl, n7, rfl⟩
    have B7 := B6.trans (below_drewN _ _ n7)
    have S07 := S06.below (below_drewN _ _ n7)
    have Sx7 := Sx6.below (below_drewN _ _ n7)
    have Sg7 := Sg6.below (below_drewN _ _ n7)
    clear S06 Sx6 Sg6 B6 S6
    go_wp2_with fail
    refine (markS_gr _ _ _ ls Sx7 (by omega)).mono ?_
    rintro e w8 ⟨rfl, _, hg8⟩
    have B8 := gr_belowN B7 hg8 B7.size (fun g hg => by simp only [Value.ownBlock, Option.some.injEq] at hg; have := B2.size; omega)
    have S08 := S07.grown hg8 (fun g hg => by have := n0 g hg; simp only [Value.ownBlock, ne_eq, Option.some.injEq]; omega)
    have Sg8 := Sg7.grown hg8 (fun g hg => by simp only [Value.ownBlock, Option.some.injEq] at hg; simp only [Value.ownBlock, ne_eq, Option.some.injEq]; omega)
    clear S07 Sx7 Sg7 hg8 B7
    have q1 : ¬ (((ls.length + 1 : Nat) : Int) < 0) := by omega
    go_wp2_with fail
    refine (eqStringS_same _ _ out' _ (RdS.of_strs Sg8) (RdS.of_strs S08) (by omega)).mono ?_
    rintro e w9 ⟨rfl, n9, rfl⟩
    have B9 := B8.trans (below_drewN _ _ n9)
    have S09 := S08.below (below_drewN _ _ n9)
    have Sg9 := Sg8.below (below_drewN _ _ n9)
    clear S08 Sg8 B8
    go_wp2_with fail
    refine (markS_gr _ _ _ out' Sg9 (by omega)).mono ?_
    rintro e w10 ⟨rfl, Sg10, hg10⟩
    have B10 := gr_belowN B9 hg10 B9.size (fun g hg => by simp only [Value.ownBlock, Option.some.injEq] at hg; have := B3.size; omega)
    have S010 := S09.grown hg10 (fun g hg => by have := n0 g hg; simp only [Value.ownBlock, ne_eq, Option.some.injEq]; omega)
    clear S09 Sg9 hg10 B9
    go_wp2_with fail
    refine (heldS_any _ _ _ out' Sg10 (by omega)).mono ?_
    rintro e w11 ⟨rfl, hb11⟩
    have B11 := B10.trans (hb11.mono B10.size)
    have S011 := S010.below hb11
    have Sg11 := Sg10.below hb11
    clear S010 Sg10 hb11 B10
    have q2 : ¬ (((out'.length + 1 : Nat) : Int) < 0) := by omega
    have q3 : (((out'.length + 1 : Nat) : Int) != ((out'.length + 1 : Nat) : Int)) = false := int_bne_false rfl
    go_wp2_with fail
    refine (HT.out _ B11).mono ?_
    rintro e w12 ⟨g12, c12, rfl, S12, hb12⟩
    have B12 := B11.trans (hb12.mono B11.size)
    have S012 := S011.below hb12
    have Sg12 := Sg11.below hb12
    clear S011 Sg11 hb12 B11
    go_wp2_with fail
    refine (HIM.out _ _ B12 (RdS.of_strs S12)).mono ?_
    rintro e w13 ⟨g13, c13, out2, rfl, S13, hSO2, hb13⟩
    obtain rfl : out2 = out' := sortOf_unique hSO2 HSO.out
    have B13 := B12.trans (hb13.mono B12.size)
    have S013 := S012.below hb13
    have Sg13 := Sg12.below hb13
    clear S012 Sg12 hb13 B12 S12 hSO2
    go_wp2_with fail
    refine (eqStringS_same _ _ out2 _ (RdS.of_strs S13) (RdS.of_strs S013) (by omega)).mono ?_
    rintro e w14 ⟨rfl, n14, rfl⟩
    have B14 := B13.trans (below_drewN _ _ n14)
    have Sg14 := Sg13.below (below_drewN _ _ n14)
    clear S013 Sg13 S13 B13
    go_wp2_with fail
    refine (heldS_any _ _ _ out2 Sg14 (by omega)).mono ?_
    rintro e w15 ⟨rfl, hb15⟩
    have B15 := B14.trans (hb15.mono B14.size)
    go_wp2_with fail
    go_ret
    exact ⟨rfl, B15⟩
end Go.Proofs.YtjpclglklmlhlaaGreatDoor

/-
  The walk of the law FnExactNewest.
-/
namespace Go.Proofs.YtjpclglklmlhlaaGreatDoor
open Go.RowKit

set_option maxRecDepth 100000 in
set_option maxHeartbeats 8000000 in
theorem exNewest (v : Value) (ls : List (List UInt8)) (w : World) (hr : RdS w v ls) (hn : ls.length ≤ maxLen) (hm : ∀ l ∈ ls, l.length ≤ maxLen) (htab : Tab w) :
    Calls Tryz.prog 5 #[v] w fun e w' => e = .returned (.bool true) ∧ Below w.heap.size w w' := by
  have HZ := Lib.hid (szStringS_any v ls 1048576 w hr (by omega) (by omega) hn hm)
  obtain ⟨z, HX⟩ : ∃ z, Hid (szI 1048576 ls = z) := ⟨_, Lib.hid rfl⟩
  by_cases hz : z < 0
  · clear hr hn hm htab
    go_enter Tryz.func5, Tryz.ntmps5
    go_wp2_with fail
    refine HZ.out.mono ?_
    rw [HX.out]
    rintro e w1 ⟨rfl, rfl⟩
    go_wp2_with fail
    go_ret
    exact ⟨rfl, Below.refl _ _⟩
  · have HS := Lib.hid (szI_Sm (ls := ls) (by have := HX.out; omega))
    have hl : ls.length ≤ 1048576 := HS.out.1
    have HT := Lib.hid (fun (W : World) (hb : Below w.heap.size w W) => toStringS_any v ls W (hr.below hb) hl)
    have HIM := Lib.hid (fun (W : World) (u : Value) (hb : Below w.heap.size w W) (h : RdS W u ls) => implNewest_any u ls W h HS.out (tab_below htab hb))
    clear hr hn hm htab
    go_enter Tryz.func5, Tryz.ntmps5
    go_wp2_with fail
    refine HZ.out.mono ?_
    rw [HX.out]
    rintro e w0 ⟨rfl, rfl⟩
    go_wp2_with fail
    refine (HT.out _ (Below.refl _ _)).mono ?_
    rintro e w1 ⟨g1, c1, rfl, hS1, B1⟩
    go_wp2_with fail
    refine (specNewest_any _ ls _ (RdS.of_strs hS1) HS.out).mono ?_
    rintro e w2 ⟨out, rfl, hSO, hb2⟩
    have B2 := B1.trans (hb2.mono B1.size)
    have HSO := Lib.hid hSO
    clear hS1 hb2 B1 hSO HZ HX
    obtain ⟨r, HR⟩ : ∃ r, Hid (newestL out = r) := ⟨_, Lib.hid rfl⟩
    rw [HR.out]
    go_wp2_with fail
    refine (HT.out _ B2).mono ?_
    rintro e w3 ⟨g2, c2, rfl, Sx, hb3⟩
    have B3 := B2.trans (hb3.mono B2.size)
    clear hb3
    go_wp2_with fail
    refine (HIM.out _ _ B3 (RdS.of_strs Sx)).mono ?_
    rintro e w4 ⟨out', rfl, hSO', hb4⟩
    obtain rfl : out' = out := sortOf_unique hSO' HSO.out
    rw [HR.out]
    have B4 := B3.trans (hb4.mono B3.size)
    have Sx4 := Sx.below hb4
    clear Sx hb4 hSO'
    have q1 : ((⟨r.toArray⟩ : ByteArray).toList != (⟨r.toArray⟩ : ByteArray).toList) = false := by simp
    go_wp2_with fail
    refine (HT.out _ B4).mono ?_
    rintro e w6 ⟨g6, c6, rfl, S6, hb6⟩
    have B6 := B4.trans (hb6.mono B4.size)
    have Sx6 := Sx4.below hb6
    clear Sx4 hb6 B4
    go_wp2_with fail
    refine (eqStringS_same _ _ ls _ (RdS.of_strs Sx6) (RdS.of_strs S6) (by omega)).mono ?_
    rintro e w7 ⟨rfl, n7, rfl⟩
    have B7 := B6.trans (below_drewN _ _ n7)
    go_wp2_with fail
    go_ret
    exact ⟨rfl, B7⟩
end Go.Proofs.YtjpclglklmlhlaaGreatDoor

namespace Go.Proofs.YtjpclglklmlhlaaGreatDoor.fnExactNewest
open Go.ChangeShapes Go.WideShapes Go.ChangeAt Go.RowKit
open Go.ChangeMaps (open_string shut_string)
set_option linter.unusedVariables false

theorem own : ownKnob Tryz.prog.godebug = none := by kernel_rfl

theorem laidOut : laidOutB Tryz.prog = true := by kernel_rfl

/-- A table's cells, off its datum. -/
def tabCells : DataW Unit → Array Value
  | .agg l => (l.map fun
    | .lit (.int k n) => Value.int k n
    | _ => .bool false).toArray
  | _ => #[]
def putCells (cs : Array Value) : Obj → Obj
  | .cells _ t fr => .cells cs t fr
  | o => o
/-- A start that fits: the settled world, the tables laid. -/
noncomputable def laidWorld (os : Os) : World :=
  { World.holding Tryz.prog os ⟨#[], #[], []⟩ with heap := (((World.holding Tryz.prog os ⟨#[], #[], []⟩).heap.modify 4 (putCells (tabCells Rows.laid_math_bits_deBruijn32tab))).modify 5 (putCells (tabCells Rows.laid_math_bits_deBruijn64tab))).modify 3 (putCells (tabCells Rows.laid_internal_strconv_uint64pow10)) }
theorem laid_met (os : Os) (args : Array Value) : laidMetH Tryz.prog Rows.fnExactNewestRow.laid ((laidWorld os).forCall (fun _ _ => 0) ⟨#[], args, []⟩).memory := by
  rw [MakeChecks.laidMetH_plain _ _ _ (by kernel_rfl)]
  exact laidMet_of_run' 8 (by kernel_rfl) (by kernel_rfl)

set_option maxRecDepth 100000 in
theorem lifted (os : Os) (started : os.Started) (H : Type) (enc : TypeId × Value → H) :
    ReturnsInHanded {} Tryz.checked os 5 .any (fun w args => (Rows.fnExactNewestSpec.pre enc Tryz.prog Tryz.f5 [] false w args ∧ laidMetH Tryz.prog Rows.fnExactNewestRow.laid w) ∧ sizedMet enc Tryz.prog Tryz.f5 (OpenSpec.ofChange Rows.fnExactNewestSpec) false w args)
      (Rows.fnExactNewestSpec.post enc Tryz.prog Tryz.f5 false true false false) := by
  refine returnsInHanded_of_change_and (C := Tryz.checked) (X := fun w _ => laidMetH Tryz.prog Rows.fnExactNewestRow.laid w) (fun _ _ _ hh h => h.of_heap hh) own started (by kernel_rfl) Tryz.func5
    (ChangeSpec.witness_at (enc := enc) (C := Tryz.checked) (os := os) (X := fun w _ => laidMetH Tryz.prog Rows.fnExactNewestRow.laid w) false (laidWorld os) #[.slice none 0 0] 8 rfl (by kernel_rfl) (by kernel_rfl) (by kernel_rfl) (by kernel_rfl) (by kernel_rfl) (laid_met os _)) ?_
  intro W base args ds gs before hval0 hW _ _ hL _
  have hval : ∀ (j : Nat) t v, Tryz.f5.params[j]? = some t → args[j]? = some v → Value.okWide Tryz.prog W .any base t v := hval0
  have hW' := hW
  obtain ⟨p, q, hA0, hV, rfl, hfz, hnd⟩ := hW
  have hA : DataW.TrodAll enc Tryz.prog W 0 (fun _ => true) true Tryz.f5.params.toList args.toList ds p := hA0
  rw [Tryz.params5] at hA hval
  obtain ⟨v0, vs0, d0, ds0, p0, q0, hargs, rfl, rfl, h0, r0⟩ := trodAll_cons hA
  obtain ⟨rfl, rfl, rfl⟩ := trodAll_nil r0
  obtain rfl : args = #[v0] := by cases args; simp_all
  obtain ⟨rfl, rfl⟩ := trodVars_none hV
  have k0 := h0
  have lt0 : ∀ x ∈ p0, x.block < W.heap.size := by obtain ⟨m, hm⟩ := k0; exact DataW.trod_lt m _ _ _ hm
  obtain ⟨ls0, R0, N0, M0⟩ := open_textsV (hval 0 28 v0 rfl rfl) h0
  clear hA0 hval0
  rw [MakeChecks.laidMetH_plain _ _ _ (by kernel_rfl)] at hL
  have hL1 : laidMet Tryz.prog Rows.fnExactNewestRow.laid W := hL
  unfold Rows.fnExactNewestRow at hL1
  have hL3 : laidMet Tryz.prog [("internal/strconv.uint64pow10", Lib.tabData .u64 Lib.pow10Tab)] W := hL1.tail.tail
  have htab : Lib.TabIs Tryz.prog W "internal/strconv.uint64pow10" .u64 Lib.pow10Tab :=
    Lib.tabIs_of_head (g := 3) (t := 158) (e := 106) (n := 20) (by kernel_rfl) (by kernel_rfl) Tryz.underlying158 Tryz.underlying106 (by kernel_rfl) (by kernel_rfl) hL3
  refine (exNewest v0 ls0 W R0 N0 M0 htab).mono fun e W' ⟨he, bel⟩ => ?_
  subst he
  exact ⟨_, rfl, _, _, _, [], _, [], hW', trodAll_mk1 (shut_bool Tryz.underlying4 _), (trodAll_cons_mk (Below.trod laidOut (by kernel_rfl) (of_decide_eq_true (by kernel_rfl)) k0 bel lt0) trodAll_mk0), rfl, bel.frame _, fun h => by cases h⟩

theorem over : Rows.fnExactNewestRow.holds Tryz.pinned (OpenSpec.ofChange Rows.fnExactNewestSpec) :=
  OpenClaim.holds_of_wide 5 Tryz.f5 rfl rfl rfl rfl rfl rfl rfl ⟨rfl, rfl, rfl, rfl, rfl⟩ rfl rfl rfl rfl rfl (by kernel_rfl) Tryz.func5 (by kernel_rfl)
    (of_decide_eq_true (by kernel_rfl)) (by unfold Func.isWrapper; first | (rw [if_pos (by decide +kernel)]; kernel_rfl) | (rw [if_neg (by decide +kernel)]; exact ⟨rfl, rfl⟩))
    (fun os started H enc _ => lifted os started H enc)

end Go.Proofs.YtjpclglklmlhlaaGreatDoor.fnExactNewest

namespace Go.Proofs.YtjpclglklmlhlaaGreatDoor
theorem fnExactNewest_proved : Rows.FnExactNewestCardSaid :=
  Claim7.holds_tied_plain_at .later [] [.data, .data, .data] true Rows.fnExactNewestCard.stood.harness true
    fnExactNewest.over (fun _ h => by cases h) (by kernel_rfl) (fun _ h => by cases h) fnExactNewest_row_tie rfl ⟨rfl, rfl⟩ (by kernel_rfl) rfl
    (fun f fn hf hfn => by
      obtain rfl : f = 5 := Option.some.inj ((show Tryz.prog.funcNamed Rows.fnExactNewestRow.func = some 5 by kernel_rfl).symm.trans hf) |>.symm
      obtain rfl : fn = Tryz.f5 := (Option.some.inj (Tryz.func5.symm.trans hfn)).symm
      exact ⟨by kernel_rfl, fun j t ht => by
        rw [Tryz.params5] at ht
        have h3 : t = 28 := by
          rcases j with _ | j
          · simpa using ht.symm
          · simp at ht
        subst h3
        exact (show Tryz.prog.wantsStandIn 28 = false by kernel_rfl)⟩)
    (by kernel_rfl)
#print axioms fnExactNewest_proved
end Go.Proofs.YtjpclglklmlhlaaGreatDoor
