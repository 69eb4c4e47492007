/-
  At every argument the law FnExactUsers returns true and leaves its arguments as they were, the three listed tables lying as the program's text lays them (the tie is given). No other condition.
-/
import Derived.Test.YtcfkhfbhmjfhdaaGreatDoorRdL
import Derived.Deep.Strs
import Derived.Lib.SmallJoins
import Derived.OpenShut
import Derived.Test.YtcfkhfbhmjfhdaaGreatDoorPk
import Derived.Deep.SlicePairs
import Derived.Test.YtcfkhfbhmjfhdaaGreatDoorLawB
import Derived.Test.YtcfkhfbhmjfhdaaGreatDoorRdsA
import Derived.Maps.OwnSet
import Derived.Maps.OwnOps
import Derived.Deep.QuietTactic
import Derived.BigQuiet
import Derived.Shelf.Strings.OnBuilder
import Derived.Ground.NamesProg
import Derived.Test.YtcfkhfbhmjfhdaaGreatDoorProg
import Derived.Test.YtcfkhfbhmjfhdaaGreatDoorVerM
import Derived.Test.YtcfkhfbhmjfhdaaGreatDoorBase
import Derived.Test.YtcfkhfbhmjfhdaaGreatDoorRows
import Derived.Test.YtcfkhfbhmjfhdaaGreatDoorVerS
import Derived.Shelf.Strconv.Itoa3
import Derived.Test.YtcfkhfbhmjfhdaaGreatDoorDec
import Derived.Lib.AppendIntMem
import Derived.Test.YtcfkhfbhmjfhdaaGreatDoorTextS
import Derived.Deep.RegionHeld3
import Derived.Test.YtcfkhfbhmjfhdaaGreatDoorExM
import Derived.Test.YtcfkhfbhmjfhdaaGreatDoorApp
import Derived.Test.YtcfkhfbhmjfhdaaGreatDoorHeap
import Derived.Lib.AppendZeros
import Derived.Test.YtcfkhfbhmjfhdaaGreatDoorRdIs
import Derived.RangeFuncNested
import Derived.RangeFuncBound
import Derived.RangeFuncCalls
import Derived.RangeFuncLeaves
import Derived.Shelf.Abstract
import Derived.Shelf.RegionOpen
import Derived.WalkKit
import Derived.OwnWalkIn
import Derived.TacticsInMore
import Derived.LoopNIn
import Derived.LoopIn
import Derived.Sort.QuietIn
import Derived.Test.YtcfkhfbhmjfhdaaGreatDoorStr
import Derived.Test.YtcfkhfbhmjfhdaaGreatDoorCut
import Derived.Shelf.Strconv.Clone
import Derived.Outline
import Derived.RangeFuncFrom
import Derived.RangeFuncBox
import Derived.Stop.RegionWithIn
import Derived.Test.YtcfkhfbhmjfhdaaGreatDoorExS
import Derived.Test.YtcfkhfbhmjfhdaaGreatDoorSmsM
import Derived.Test.YtcfkhfbhmjfhdaaGreatDoorAlgS
import Derived.Laws.Cover1
import Derived.Test.YtcfkhfbhmjfhdaaGreatDoorNameS
import Derived.Test.YtcfkhfbhmjfhdaaGreatDoorPlainS
import Derived.Test.YtcfkhfbhmjfhdaaGreatDoorPkS
import Derived.Test.YtcfkhfbhmjfhdaaGreatDoorCmpM
import Derived.Test.YtcfkhfbhmjfhdaaGreatDoorRdM
import Derived.Sort.Walk0
import Derived.Test.YtcfkhfbhmjfhdaaGreatDoorGrkS
import Derived.Laws.OwnMore
import Derived.Laws.IdiomStrings
import Derived.Maps.AppendAt
import Derived.Laws.BitsAllLaws
import Derived.Deep.RegionLaw
import Derived.Deep.AppendLies
import Derived.Laws.BitsLemmas
import Derived.Lib.AppendStr
import Derived.Test.YtcfkhfbhmjfhdaaGreatDoorPkO
import Derived.Test.YtcfkhfbhmjfhdaaGreatDoorGrL
import Derived.LoopN
import Derived.Test.YtcfkhfbhmjfhdaaGreatDoorEqS
import Derived.Deep.RegionWith
import Derived.Test.YtcfkhfbhmjfhdaaGreatDoorTie
import Derived.Test.YtcfkhfbhmjfhdaaGreatDoorCards
import Derived.ProofKit
import Derived.ShutString
import Derived.ChangeOld
import Derived.Below
import Derived.ChangeVars
import Derived.LaidLaws
import Derived.MakeChecks
import Derived.Stop.LaidErr
import Derived.SevenTiedAt
import Derived.Carry
/-
  Arguments opened: a list of texts.
-/
namespace Go.Proofs.YtcfkhfbhmjfhdaaGreatDoor
open Go.ChangeShapes Go.WideShapes Go.RowKit Go.Deep Go.Joins

section
variable {H : Type} {enc : TypeId × Value → H} {W : World} {spare : Nat → Bool} {held : Bool}

theorem cell_lt {w : World} {g o : Nat} {v : Value} (h : w.cell? ⟨g, o, none⟩ = some v) : g < w.heap.size := by
  rcases Nat.lt_or_ge g w.heap.size with hlt | hge
  · exact hlt
  · unfold World.cell? at h
    simp only at h
    rw [Array.getElem?_eq_none hge] at h
    cases h

set_option maxRecDepth 100000 in
theorem open_texts {fuel : Nat} {v : Value} {x : DataW H × List MemPlace} (h : DataW.trod enc Tryz.prog W 0 spare held fuel 22 [v] = some x) :
    ∃ ls, RdS W v ls ∧ ls.length ≤ maxLen ∧ ∀ l ∈ ls, l.length ≤ maxLen := by
  rcases open_strs Tryz.underlying22 Tryz.underlying9 (by kernel_rfl) h with ⟨hcs, _⟩ | ⟨a, len, cap, m, Sx, hcs, _, hl, hm, hmm, _, hc⟩
  · simp at hcs
    subst hcs
    exact ⟨[], ⟨none, 0, rfl, fun h => absurd h (by simp)⟩, by simp, fun l hl => by cases hl⟩
  · simp at hcs
    subst hcs
    have hlm : len ≤ m := by rw [hmm]; split <;> omega
    refine ⟨(List.range len).map (fun i => (Sx i).data.toList), ⟨some a, cap, by simp, fun h0 => ?_⟩, by simp; omega, ?_⟩
    · simp at h0
      obtain ⟨b, off, spot⟩ := a
      have hspot : spot = none := by simpa [Addr.add] using World.cell?_spot (hc 0 (by omega)).1
      subst hspot
      have h1 : ∀ k, k < len → W.cell? ⟨b, off + k, none⟩ = some (.string (Sx k)) := fun k hk => by rw [← Go.WideShapes.add_plain]; exact (hc k (by omega)).1
      refine ⟨b, off, rfl, cell_lt (h1 0 h0), fun k hk => ?_⟩
      simp at hk
      rw [h1 k hk]
      simp [sv]
    · intro l hl
      simp at hl
      obtain ⟨i, hi, rfl⟩ := hl
      have := (hc i (by omega)).2
      simpa using this

set_option maxRecDepth 100000 in
theorem open_textsV {r : Reach} {b0 : Nat} {v : Value} {d : DataW H} {p : List MemPlace} (hv : Value.okWide Tryz.prog W r b0 22 v) (h : DataW.Trod enc Tryz.prog W 0 spare held 22 v d p) :
    ∃ ls, RdS W v ls ∧ ls.length ≤ maxLen ∧ ∀ l ∈ ls, l.length ≤ maxLen := by
  obtain ⟨a, len, cap, rfl⟩ := okWide_slice Tryz.underlying22 hv
  obtain ⟨fuel, hf⟩ := h
  exact open_texts (by simpa [Value.cells] using hf)

end
end Go.Proofs.YtcfkhfbhmjfhdaaGreatDoor

/-
  Arguments opened: a pack, a list of packs, a graph.
-/
namespace Go.Proofs.YtcfkhfbhmjfhdaaGreatDoor
open Go.ChangeShapes Go.WideShapes Go.RowKit Go.Deep Go.Joins

theorem list6 {α : Type} {cs : List α} (h : cs.length = 6) : ∃ c0 c1 c2 c3 c4 c5, cs = [c0, c1, c2, c3, c4, c5] := by
  match cs, h with
  | [c0, c1, c2, c3, c4, c5], _ => exact ⟨c0, c1, c2, c3, c4, c5, rfl⟩
theorem some_of_len {α : Type} {xs : List α} {n : Nat} (h : xs.length = n) (i : Nat) (hi : i < n) : ∃ y, xs[i]? = some y := ⟨xs[i]'(by omega), by simp⟩

section
variable {H : Type} {enc : TypeId × Value → H} {W : World} {spare : Nat → Bool} {held : Bool}

set_option maxRecDepth 100000 in
theorem open_sums {fuel : Nat} {v : Value} {x : DataW H × List MemPlace} (h : DataW.trod enc Tryz.prog W 0 spare held fuel 56 [v] = some x) :
    ∃ bs, RdB W v bs ∧ bs.length ≤ maxLen ∧ ∀ b ∈ bs, b.1.length ≤ maxLen ∧ b.2.length ≤ maxLen := by
  rcases open_slice_pairs Tryz.underlying56 Tryz.underlying109 (by kernel_rfl) rfl rfl (by kernel_rfl) (by kernel_rfl) h with ⟨hcs, _⟩ | ⟨a, len, cap, m, n, V0, V1, D0, D1, P0, P1, hcs, _, hl, hm, hmm, _, hc⟩
  · simp at hcs
    subst hcs
    exact ⟨[], ⟨none, 0, rfl, fun h => absurd h (by simp)⟩, by simp, fun l hl => by cases hl⟩
  · simp at hcs
    subst hcs
    have hlm : len ≤ m := by rw [hmm]; split <;> omega
    have each : ∀ i, i < m → ∃ q : ByteArray × ByteArray, W.cell? (a.add (i * 2)) = some (.string q.1) ∧ W.cell? (a.add (i * 2 + 1)) = some (.string q.2) ∧ q.1.size ≤ maxLen ∧ q.2.size ≤ maxLen := fun i hi => by
      obtain ⟨e0, e1, t0, t1⟩ := hc i hi
      obtain ⟨s0, h1, _, h3⟩ := DataW.trod_string Tryz.underlying9 t0
      obtain ⟨s1, g1, _, g3⟩ := DataW.trod_string Tryz.underlying9 t1
      simp at h1 g1
      exact ⟨(s0, s1), by rw [e0, h1], by rw [e1, g1], h3, g3⟩
    obtain ⟨Q, hQ⟩ := choose_lt each
    refine ⟨(List.range len).map (fun i => ((Q i).1.data.toList, (Q i).2.data.toList)), ⟨some a, cap, by simp, fun h0 => ?_⟩, by simp; omega, ?_⟩
    · simp at h0
      obtain ⟨b, off, spot⟩ := a
      have hspot : spot = none := by simpa [Addr.add] using World.cell?_spot (hQ 0 (by omega)).1
      subst hspot
      have h1 : ∀ k, k < len → W.cell? ⟨b, off + k * 2, none⟩ = some (.string (Q k).1) ∧ W.cell? ⟨b, off + k * 2 + 1, none⟩ = some (.string (Q k).2) := fun k hk => by
        obtain ⟨e0, e1, _, _⟩ := hQ k (by omega)
        rw [Go.WideShapes.add_plain] at e0 e1
        exact ⟨e0, by rw [Nat.add_assoc]; exact e1⟩
      refine ⟨b, off, rfl, cell_in (h1 0 h0).1, fun k hk => ?_⟩
      simp at hk
      rw [(h1 k hk).1, (h1 k hk).2]
      simp [sv]
    · intro l hl
      simp at hl
      obtain ⟨i, hi, rfl⟩ := hl
      obtain ⟨_, _, s0, s1⟩ := hQ i (by omega)
      exact ⟨by simpa using s0, by simpa using s1⟩


set_option maxRecDepth 100000 in
theorem open_packc {fuel : Nat} {cs : List Value} {x : DataW H × List MemPlace} (h : DataW.trod enc Tryz.prog W 0 spare held fuel 58 cs = some x) :
    ∃ (p : Pk) (a b : Value), cs = [.string ⟨p.name.toArray⟩, .string ⟨p.ver.toArray⟩, .string ⟨p.src.toArray⟩, a, .bool p.dev, b] ∧ RdB W a p.sums ∧ RdS W b p.needs ∧ PkFits p := by
  obtain ⟨xs, k, _, _, hl, hxl, hf⟩ := DataW.trod_struct Tryz.underlying58 h
  have kS : Tryz.prog.cellsOf 9 = 1 := by kernel_rfl
  have kB : Tryz.prog.cellsOf 4 = 1 := by kernel_rfl
  have kL : Tryz.prog.cellsOf 22 = 1 := by kernel_rfl
  have kM : Tryz.prog.cellsOf 56 = 1 := by kernel_rfl
  have kP : Tryz.prog.cellsOf 58 = 6 := by kernel_rfl
  rw [kP] at hl
  have hx6 : xs.length = 6 := by simpa using hxl
  obtain ⟨c0, c1, c2, c3, c4, c5, rfl⟩ := list6 hl
  obtain ⟨y0, e0⟩ := some_of_len hx6 0 (by omega)
  obtain ⟨y1, e1⟩ := some_of_len hx6 1 (by omega)
  obtain ⟨y2, e2⟩ := some_of_len hx6 2 (by omega)
  obtain ⟨y3, e3⟩ := some_of_len hx6 3 (by omega)
  obtain ⟨y4, e4⟩ := some_of_len hx6 4 (by omega)
  obtain ⟨y5, e5⟩ := some_of_len hx6 5 (by omega)
  have g0 := hf 0 _ rfl
  have g1 := hf 1 _ rfl
  have g2 := hf 2 _ rfl
  have g3 := hf 3 _ rfl
  have g4 := hf 4 _ rfl
  have g5 := hf 5 _ rfl
  clear hf h hxl hl
  rw [e0] at g0; rw [e1] at g1; rw [e2] at g2; rw [e3] at g3; rw [e4] at g4; rw [e5] at g5
  simp [kS, kB, kL, kM] at g0 g1 g2 g3 g4 g5
  obtain ⟨s0, h0, _, z0⟩ := DataW.trod_string Tryz.underlying9 g0
  obtain ⟨s1, h1, _, z1⟩ := DataW.trod_string Tryz.underlying9 g1
  obtain ⟨s2, h2, _, z2⟩ := DataW.trod_string Tryz.underlying9 g2
  obtain ⟨d, h4, _⟩ := DataW.trod_bool Tryz.underlying4 g4
  simp at h0 h1 h2 h4
  subst h0 h1 h2 h4
  obtain ⟨bs, r3, n3, m3⟩ := open_sums g3
  obtain ⟨ls, r5, n5, m5⟩ := open_texts g5
  refine ⟨⟨s0.data.toList, s1.data.toList, s2.data.toList, bs, d, ls⟩, c3, c5, by simp, r3, r5, ?_⟩
  exact ⟨by simpa using z0, by simpa using z1, by simpa using z2, n3, m3, n5, m5⟩

set_option maxRecDepth 100000 in
theorem open_pack {r : Reach} {b0 : Nat} {v : Value} {d : DataW H} {p : List MemPlace} (hv : Value.okWide Tryz.prog W r b0 58 v) (h : DataW.Trod enc Tryz.prog W 0 spare held 58 v d p) :
    ∃ (p : Pk) (a b : Value), v = .agg #[.string ⟨p.name.toArray⟩, .string ⟨p.ver.toArray⟩, .string ⟨p.src.toArray⟩, a, .bool p.dev, b] ∧ RdB W a p.sums ∧ RdS W b p.needs ∧ PkFits p := by
  obtain ⟨cs, rfl, hsz⟩ := okWide_struct Tryz.underlying58 hv
  obtain ⟨fuel, hf⟩ := h
  obtain ⟨p, a, b, hcs, r1, r2, r3⟩ := open_packc (by simpa [Value.cells] using hf)
  exact ⟨p, a, b, by cases cs; simp at hcs; rw [hcs], r1, r2, r3⟩
end
end Go.Proofs.YtcfkhfbhmjfhdaaGreatDoor

/-
  Arguments opened: packs, a graph.
-/
namespace Go.Proofs.YtcfkhfbhmjfhdaaGreatDoor
open Go.ChangeShapes Go.WideShapes Go.RowKit Go.Deep Go.Joins

section
variable {H : Type} {enc : TypeId × Value → H} {W : World} {spare : Nat → Bool} {held : Bool}

set_option maxRecDepth 100000 in
theorem open_packs {fuel : Nat} {v : Value} {x : DataW H × List MemPlace} (h : DataW.trod enc Tryz.prog W 0 spare held fuel 23 [v] = some x) :
    ∃ ps, RdPs W v ps ∧ ps.length ≤ maxLen ∧ ∀ p ∈ ps, PkFits p := by
  have kP : Tryz.prog.cellsOf 58 = 6 := by kernel_rfl
  rcases open_slice Tryz.underlying23 h with ⟨hcs, _⟩ | ⟨a, len, cap, m, n, D, Pl, hcs, _, hl, hm, hmm, _, hc⟩
  · simp at hcs
    subst hcs
    exact ⟨[], rdPs_nil W, by simp, fun l hl => by cases hl⟩
  · simp at hcs
    subst hcs
    have hlm : len ≤ m := by rw [hmm]; split <;> omega
    have each : ∀ i, i < m → ∃ q : Pk × Value × Value, W.cell? (a.add (i * 6)) = some (.string ⟨q.1.name.toArray⟩) ∧ W.cell? (a.add (i * 6 + 1)) = some (.string ⟨q.1.ver.toArray⟩) ∧ W.cell? (a.add (i * 6 + 2)) = some (.string ⟨q.1.src.toArray⟩) ∧ W.cell? (a.add (i * 6 + 3)) = some q.2.1 ∧ W.cell? (a.add (i * 6 + 4)) = some (.bool q.1.dev) ∧ W.cell? (a.add (i * 6 + 5)) = some q.2.2 ∧ RdB W q.2.1 q.1.sums ∧ RdS W q.2.2 q.1.needs ∧ PkFits q.1 := fun i hi => by
      obtain ⟨cs', h1, h2⟩ := hc i hi
      rw [kP] at h1
      obtain ⟨_, hlen, hcell⟩ := World.cells?_some h1
      obtain ⟨p, va, vb, rfl, r1, r2, r3⟩ := open_packc h2
      have e0 := hcell 0 (by omega)
      have e1 := hcell 1 (by omega)
      have e2 := hcell 2 (by omega)
      have e3 := hcell 3 (by omega)
      have e4 := hcell 4 (by omega)
      have e5 := hcell 5 (by omega)
      rw [add_add] at e0 e1 e2 e3 e4 e5
      exact ⟨(p, va, vb), by simpa using e0, by simpa using e1, by simpa using e2, by simpa using e3, by simpa using e4, by simpa using e5, r1, r2, r3⟩
    obtain ⟨Q, hQ⟩ := choose_lt each
    refine ⟨(List.range len).map (fun i => (Q i).1), ⟨some a, cap, by simp, fun h0 => ?_⟩, by simp; omega, ?_⟩
    · simp at h0
      obtain ⟨b, off, spot⟩ := a
      have hspot : spot = none := by simpa [Addr.add] using World.cell?_spot (hQ 0 (by omega)).1
      subst hspot
      have h1 : ∀ k, k < len → PkAt W b (off + k * 6) (Q k).1 := fun k hk => by
        obtain ⟨e0, e1, e2, e3, e4, e5, r1, r2, _⟩ := hQ k (by omega)
        rw [Go.WideShapes.add_plain] at e0 e1 e2 e3 e4 e5
        exact ⟨_, _, e0, by rw [Nat.add_assoc]; exact e1, by rw [Nat.add_assoc]; exact e2, by rw [Nat.add_assoc]; exact e3, by rw [Nat.add_assoc]; exact e4, by rw [Nat.add_assoc]; exact e5, r1, r2⟩
      refine ⟨b, off, rfl, ?_, fun k hk => ?_⟩
      · obtain ⟨_, _, e0, _⟩ := h1 0 h0
        exact cell_lt e0
      · simp at hk
        simpa using h1 k hk
    · intro l hl
      simp at hl
      obtain ⟨i, hi, rfl⟩ := hl
      exact (hQ i (by omega)).2.2.2.2.2.2.2.2

set_option maxRecDepth 100000 in
theorem open_graph {r : Reach} {b0 : Nat} {v : Value} {d : DataW H} {p : List MemPlace} (hv : Value.okWide Tryz.prog W r b0 25 v) (h : DataW.Trod enc Tryz.prog W 0 spare held 25 v d p) :
    ∃ (vt vp : Value) (ts : List (List UInt8)) (ps : List Pk), v = .agg #[vt, vp] ∧ RdS W vt ts ∧ RdPs W vp ps ∧ ts.length ≤ maxLen ∧ (∀ l ∈ ts, l.length ≤ maxLen) ∧ ps.length ≤ maxLen ∧ ∀ p ∈ ps, PkFits p := by
  obtain ⟨v0, v1, y0, y1, n, rfl, _, _, h0, h1⟩ := open_agg2 Tryz.underlying25 (by kernel_rfl) (by kernel_rfl) hv h
  obtain ⟨ts, r1, r2, r3⟩ := open_texts h0
  obtain ⟨ps, q1, q2, q3⟩ := open_packs h1
  exact ⟨v0, v1, ts, ps, rfl, r1, q1, r2, r3, q2, q3⟩
end
end Go.Proofs.YtcfkhfbhmjfhdaaGreatDoor

/-
  Worlds that grow by one row: what is kept.
-/
namespace Go.Proofs.YtcfkhfbhmjfhdaaGreatDoor
open Go.RowKit

theorem gr_trans {w w1 w2 : World} {row : Option Nat} (h1 : w.grownBy w1 row) (h2 : w1.grownBy w2 row) : w.grownBy w2 row :=
  ⟨h2.os.trans h1.os, h2.tape.trans h1.tape, h2.output.trans h1.output, Nat.le_trans h1.size h2.size, fun k hk hn => (h2.block k (Nat.lt_of_lt_of_le hk h1.size) hn).trans (h1.block k hk hn)⟩
theorem gr_below {w w2 : World} {row : Option Nat} (hb : Below w.heap.size w w2) : w.grownBy w2 row := ⟨hb.os, hb.tape, hb.output, hb.size, fun k hk _ => hb.block k hk⟩
theorem gr_alloc (w : World) (o : Obj) (row : Option Nat) : w.grownBy (w.alloc o) row := gr_below ((Below.refl _ _).alloc (Nat.le_refl _) _)
theorem gr_set (w : World) (g k : Nat) (x : Value) : w.grownBy (w.setCell ⟨g, k, none⟩ x) (some g) := ⟨rfl, rfl, rfl, by simp, fun j _ hj => heap_setCell_other w ⟨g, k, none⟩ j x (fun e => hj (by simp [e]))⟩
theorem Strs.grown {w w' : World} {base : Nat} {v : Value} {l : List (List UInt8)} {row : Option Nat} (h : Strs w base v l) (hg : w.grownBy w' row) (hne : ∀ g, v.ownBlock = some g → some g ≠ row) : Strs w' base v l := by
  rcases h.form with ⟨rfl, rfl⟩ | ⟨g, cap, rfl, _, _⟩
  · exact ⟨by simp, .inl ⟨rfl, rfl⟩⟩
  · exact World.ownsRow.kept h hg (.inr (fun e => hne g rfl (by rw [← e]; rfl)))
theorem gr_heap {W V : World} {row : Option Nat} {B : Nat} {o : Obj} (hg : W.grownBy V row) (h : W.heap[B]? = some o) (hne : some B ≠ row) : V.heap[B]? = some o := (hg.block B (Array.getElem?_eq_some_iff.1 h).1 hne).trans h
theorem gr_belowN {W V : World} {row : Option Nat} {n : Nat} {w : World} (hb : Below n w W) (hg : W.grownBy V row) (hn : n ≤ W.heap.size) (hr : ∀ g, row = some g → n ≤ g) : Below n w V := hb.grown hg hn hr

end Go.Proofs.YtcfkhfbhmjfhdaaGreatDoor

/-
  impl.indexOf, a map from each pack's key to its index; impl.keysOk asks it.
-/
namespace Go.Proofs.YtcfkhfbhmjfhdaaGreatDoor
open Go.RowKit Go.Maps

/-- The map from keys to indexes, after k packs. -/
def idxD (ps : List Pk) : Nat → DataW Unit
  | 0 => .map []
  | k + 1 => (idxD ps k).put (.string (keyOf (ps.getD k default))) (.lit (.int .i64 (k : Int)))
theorem idxD_isMap (ps : List Pk) : ∀ k, Maps.IsMap (idxD ps k)
  | 0 => Maps.isMap_empty
  | k + 1 => (idxD_isMap ps k).put _ _
theorem has_idxD (ps : List Pk) (key : List UInt8) : ∀ k, Maps.has (idxD ps k) (.string key) = decide (∃ j, j < k ∧ keyOf (ps.getD j default) = key)
  | 0 => by
    rw [decide_eq_false (by rintro ⟨j, h, _⟩; omega)]; rfl
  | k + 1 => by
    unfold idxD
    by_cases h : keyOf (ps.getD k default) = key
    · rw [h, Maps.has_put_same (idxD_isMap ps k) (k := .string key) trivial, decide_eq_true ⟨k, by omega, h⟩]
    · rw [Maps.has_put_other (fun e => h (by cases e; rfl)), has_idxD ps key k]
      congr 1
      apply propext
      constructor
      · rintro ⟨j, hj, e⟩; exact ⟨j, by omega, e⟩
      · rintro ⟨j, hj, e⟩
        by_cases e2 : j = k
        · subst e2; exact absurd e h
        · exact ⟨j, by omega, e⟩
theorem has_all (ps : List Pk) (key : List UInt8) : Maps.has (idxD ps ps.length) (.string key) = decide (0 ≤ findP ps key) := by
  rw [has_idxD]
  congr 1
  apply propext
  rw [findP_mem, List.mem_map]
  constructor
  · rintro ⟨j, hj, e⟩; rw [ps_at hj] at e; exact ⟨ps[j], List.getElem_mem hj, e⟩
  · rintro ⟨p, hp, e⟩
    obtain ⟨j, hj, rfl⟩ := List.mem_iff_getElem.1 hp
    exact ⟨j, hj, by rw [ps_at hj]; exact e⟩
/-- Block B is the map from keys to indexes. -/
def IdxOf (w : World) (B : Nat) (ps : List Pk) : Prop := w.ownsMap Tryz.prog 9 (plainElem Tryz.prog 3) B ps.length (idxD ps ps.length)
theorem IdxOf.below {w w' : World} {B : Nat} {ps : List Pk} (h : IdxOf w B ps) (hb : Below w.heap.size w w') : IdxOf w' B ps := World.ownsMap.kept h (gr_below (row := none) hb) (by simp)
theorem strLaw : Keyed Tryz.prog 9 := string_keyed Tryz.underlying9
theorem zeroInt (w : World) : (zeroValue 3).run Tryz.prog w = .ok (.int .i64 0) w := by kernel_rfl
theorem mapMade (w : World) (n : Int) : (Instr.makeMap 48 (some (.int .i64 n))).run Tryz.prog w = .ok (.map (some w.heap.size)) (w.alloc (.map #[] 0)) := by
  simp [Instr.makeMap, run_underlying Tryz.underlying48, asInt, asIntOf, Result.andThen]

set_option maxRecDepth 100000 in
set_option maxHeartbeats 2000000 in
theorem indexOf_any (T : Option Addr) (tn tc : Nat) (vp : Value) (ps : List Pk) (w : World) (hp : RdPs w vp ps) (hs : SmPs ps) :
    Calls Tryz.prog 28 #[.agg #[.slice T tn tc, vp]] w fun e w' => ∃ B, e = .returned (.map (some B)) ∧ w.heap.size ≤ B ∧ IdxOf w' B ps ∧ Below w.heap.size w w' := by
  have HR := Lib.hid hp
  have HS := Lib.hid hs
  have hn : ps.length ≤ 1048576 := by unfold SmPs at hs; omega
  obtain ⟨A, ca, rfl, _⟩ := hp
  clear hs
  have hmm := mapMade
  have B0 : Below w.heap.size w ((w.alloc (.cells #[.slice T tn tc, .slice A ps.length ca] 30)).alloc (.map #[] 0)) := ((Below.refl _ _).alloc (Nat.le_refl _) _).alloc (by simp) _
  have M0 : ((w.alloc (.cells #[.slice T tn tc, .slice A ps.length ca] 30)).alloc (.map #[] 0)).ownsMap Tryz.prog 9 (plainElem (H := Unit) Tryz.prog 3) (w.heap.size + 1) 0 (idxD ps 0) := by
    have := World.ownsMap_made (H := Unit) (w.alloc (.cells #[.slice T tn tc, .slice A ps.length ca] 30)) Tryz.prog 9 (plainElem (H := Unit) Tryz.prog 3)
    have e : (w.alloc (.cells #[.slice T tn tc, .slice A ps.length ca] 30)).heap.size = w.heap.size + 1 := by simp
    rw [e] at this
    exact this
  have b0 := keepA (heap_alloc_new w (.cells #[.slice T tn tc, .slice A ps.length ca] 30)) (.map #[] 0)
  obtain ⟨x0, x1⟩ := cellsG b0
  go_enter Tryz.func28, Tryz.ntmps28
  go_wp2_with fail
  go_loopw [4, 5, 13] (fun _ _ i wr => ∃ k : Nat, k ≤ ps.length ∧ i = .int .i64 k ∧ wr.ownsMap Tryz.prog 9 (plainElem (H := Unit) Tryz.prog 3) (w.heap.size + 1) k (idxD ps k) ∧ Below w.heap.size w wr) (fun _ _ i _ => ps.length - (intOf i).toNat)
  case atStart => exact ⟨0, Nat.zero_le _, rfl, M0, B0⟩
  case round =>
    obtain ⟨k, hk, rfl, hM, hb⟩ := hrel
    clear B0 M0 b0 x0 x1
    by_cases hlt : k < ps.length
    · obtain ⟨g, off, rfl, hg, a, b, d0, d1, d2, d3, d4, d5, ra, rb⟩ := (HR.out.below hb).at k hlt
      have HC := Lib.hid (fun (W : World) (h : Below wr.heap.size wr W) => implKeyOf_any ps[k] a b W (ra.below h) (rb.below h) (HS.out.get k hlt))
      have HN : Hid (idxD ps (k + 1) = (idxD ps k).put (.string (keyOf ps[k])) (.lit (.int .i64 (k : Int)))) := Lib.hid (by rw [← ps_at hlt]; rfl)
      have hkl := SmPk.key (HS.out.get k hlt)
      obtain ⟨A1, c1, rfl⟩ := ra.slice
      obtain ⟨A2, c2, rfl⟩ := rb.slice
      have k0 : (0 : Int) ≤ (k : Int) := by omega
      have k1 : (k : Int) < (ps.length : Int) := by omega
      have Bp : Below wr.heap.size wr (wr.alloc (.cells #[.string ⟨ps[k].name.toArray⟩, .string ⟨ps[k].ver.toArray⟩, .string ⟨ps[k].src.toArray⟩, .slice A1 ps[k].sums.length c1, .bool ps[k].dev, .slice A2 ps[k].needs.length c2] 43)) := (Below.refl _ _).alloc (Nat.le_refl _) _
      have bp := heap_alloc_new wr (.cells #[.string ⟨ps[k].name.toArray⟩, .string ⟨ps[k].ver.toArray⟩, .string ⟨ps[k].src.toArray⟩, .slice A1 ps[k].sums.length c1, .bool ps[k].dev, .slice A2 ps[k].needs.length c2] 43)
      obtain ⟨y0, y1, y2, y3, y4, y5⟩ := cells6 bp
      have hMl := hM.lt
      clear ra rb
      obtain ⟨key, HKE⟩ : ∃ key, Hid (keyOf ps[k] = key) := ⟨_, Lib.hid rfl⟩
      rw [HKE.out] at HN hkl
      simp only [HKE.out] at HC
      have hkey : Go.keyOf Tryz.prog 9 (.string ⟨key.toArray⟩) = some (Lit.string key) := by
        have := WideMaps.keyOf_string_mk (P := Tryz.prog) Tryz.underlying9 (s := ⟨key.toArray⟩) (by show key.toArray.size ≤ maxLen; unfold maxLen; simp; omega)
        simpa using this
      go_wp2_with fail
      refine (HC.out _ Bp).mono ?_
      rintro e w1 ⟨rfl, hb1⟩
      have B1 := (hb.trans (Bp.mono hb.size)).trans (hb1.mono (Nat.le_trans hb.size Bp.size))
      have M1 : w1.ownsMap Tryz.prog 9 (plainElem (H := Unit) Tryz.prog 3) (w.heap.size + 1) k (idxD ps k) := (hM.kept (gr_below (row := none) Bp) (by simp)).kept (gr_below (row := none) hb1) (by simp)
      clear hM hb hb1 Bp bp y0 y1 y2 y3 y4 y5
      go_wp2_with (first | (at_mapUpdate; refine wpList_mapUpdate_own _ rfl _ _ _ 48 rfl 9 3 strLaw Tryz.underlying48 (plainElem (H := Unit) Tryz.prog 3) (w.heap.size + 1) k _ rfl M1 (by unfold maxLen; omega) _ _ _ rfl rfl hkey _ [] (plainElem_int Tryz.underlying3 (WalkArith.wf_i64 (by omega))) ?_; intro w2 M2 hg2) | go_in)
      have B2 := B1.grown hg2 B1.size (fun j hj => by cases hj; omega)
      rw [← HN.out] at M2
      go_roundw
      case rel => exact ⟨k + 1, by omega, by go_num, M2, B2⟩
      case measure => simp [intOf]; omega
    · obtain rfl : k = ps.length := by omega
      go_wp2_with fail
      go_ret
      exact ⟨_, rfl, by omega, hM, hb⟩

set_option maxRecDepth 100000 in
set_option maxHeartbeats 2000000 in
theorem keysOk_any (vl : Value) (ls : List (List UInt8)) (B : Nat) (ps : List Pk) (w : World) (hl : RdS w vl ls) (hll : ls.length ≤ 1048576) (hm : ∀ l ∈ ls, l.length ≤ 1048576) (hi : IdxOf w B ps) :
    Calls Tryz.prog 29 #[vl, .map (some B)] w fun e w' => e = .returned (.bool (keysOkL ps ls)) ∧ Below w.heap.size w w' := by
  have HR := Lib.hid hl
  have HI := Lib.hid hi
  have HM := Lib.hid hm
  obtain ⟨A, ca, rfl, _⟩ := hl
  obtain ⟨r, HRR⟩ : ∃ r, Hid (keysOkL ps ls = r) := ⟨_, Lib.hid rfl⟩
  rw [HRR.out]
  clear hm hi
  go_enter Tryz.func29, Tryz.ntmps29
  go_wp2_with fail
  go_loopw [5, 6, 7, 8, 11] (fun _ _ _ _ i wr => ∃ k : Nat, k ≤ ls.length ∧ i = .int .i64 k ∧ Hid (allTo (keyAtB ps ls) k = true) ∧ Below w.heap.size w wr) (fun _ _ _ _ i _ => ls.length - (intOf i).toNat)
  case atStart => exact ⟨0, Nat.zero_le _, rfl, Lib.hid rfl, Below.refl _ _⟩
  case round =>
    obtain ⟨k, hk, rfl, HT, hb⟩ := hrel
    by_cases hlt : k < ls.length
    · obtain ⟨g, off, rfl, hg, hc⟩ := rdS_at (HR.out.below hb) k hlt
      have d1 := hc k hlt
      have hIw := HI.out.below hb
      have hcl := HM.out ls[k] (List.getElem_mem hlt)
      have k0 : (0 : Int) ≤ (k : Int) := by omega
      have k1 : (k : Int) < (ls.length : Int) := by omega
      have HQ := Lib.hid (fun (h : keyAtB ps ls k = false) => (show r = false by rw [← HRR.out]; exact allTo_bad hlt h))
      have HTT := Lib.hid (fun (h : keyAtB ps ls k = true) => allTo_step HT.out h)
      have HZ0 := Lib.hid (fun (h : k = 0) => (show keyAtB ps ls k = decide (0 ≤ findP ps ls[k]) by subst h; exact keyAtB_zero hlt))
      have HZ1 := Lib.hid (fun (j : Nat) (h : k = j + 1) => (show keyAtB ps ls k = (decide (0 ≤ findP ps ls[k]) && Op.bytesLess (ls[j]'(by omega)) ls[k]) by subst h; exact keyAtB_more hlt))
      have HHA := Lib.hid (has_all ps ls[k])
      obtain ⟨f, HFF⟩ : ∃ f, Hid (decide (0 ≤ findP ps ls[k]) = f) := ⟨_, Lib.hid rfl⟩
      simp only [HFF.out] at HHA HZ0 HZ1
      obtain ⟨cur, HCU⟩ : ∃ cur, Hid (ls[k] = cur) := ⟨_, Lib.hid rfl⟩
      simp only [HCU.out] at HHA HZ1 d1 hcl
      have hkey : Go.keyOf Tryz.prog 9 (.string ⟨cur.toArray⟩) = some (Lit.string cur) := by
        have := WideMaps.keyOf_string_mk (P := Tryz.prog) Tryz.underlying9 (s := ⟨cur.toArray⟩) (by show cur.toArray.size ≤ maxLen; unfold maxLen; simp; omega)
        simpa using this
      have hhas := HHA.out
      cases f with
      | false =>
        have HX : Hid (r = false) := Lib.hid (HQ.out (by
          by_cases hz : k = 0
          · exact HZ0.out hz
          · rw [HZ1.out (k - 1) (by omega)]; rfl))
        clear HQ HTT HZ0 HZ1 hc
        go_wp2_with (at_lookup; refine wpList_lookup_own_ok_int _ rfl _ _ 48 rfl 9 3 .i64 strLaw Tryz.underlying48 Tryz.underlying3 (zeroInt _) B ps.length _ rfl hIw _ _ rfl hkey ?_; intro c hat hwc; rw [hhas])
        go_wp2_with fail
        go_ret
        exact ⟨ret_bool HX.out.symm, hb⟩
      | true =>
        by_cases hz : k = 0
        · have HN2 := Lib.hid (HTT.out (HZ0.out hz))
          have g0 : ¬ (0 : Int) < (k : Int) := by omega
          have g1 : decide (0 < k) = false := by simp; omega
          clear hz HQ HTT HZ0 HZ1 hc
          go_wp2_with (at_lookup; refine wpList_lookup_own_ok_int _ rfl _ _ 48 rfl 9 3 .i64 strLaw Tryz.underlying48 Tryz.underlying3 (zeroInt _) B ps.length _ rfl hIw _ _ rfl hkey ?_; intro c hat hwc; rw [hhas])
          go_wp2_with fail
          go_roundw
          case rel => exact ⟨k + 1, by omega, by go_num, HN2, hb⟩
          case measure => simp [intOf]; omega
        · obtain ⟨j, hj⟩ : ∃ j, k = j + 1 := ⟨k - 1, by omega⟩
          have HZ2 := Lib.hid (HZ1.out j hj)
          have hjl : j < ls.length := by omega
          have e1 := hc j hjl
          have jw : IntKind.i64.wrap ((k : Int) - 1) = (j : Int) := by rw [show (k : Int) - 1 = (j : Int) by omega]; exact IntWalk.i64_in _ (by omega)
          have g0 : (0 : Int) < (k : Int) := by omega
          have g1 : decide (0 < k) = true := by simp; omega
          have j0 : (0 : Int) ≤ (j : Int) := by omega
          have j1 : (j : Int) < (ls.length : Int) := by omega
          obtain ⟨pr, HPR⟩ : ∃ pr, Hid (ls[j] = pr) := ⟨_, Lib.hid rfl⟩
          rw [HPR.out] at e1 HZ2
          cases hl : Op.bytesLess pr cur with
          | true =>
            have HN2 := Lib.hid (HTT.out (by rw [HZ2.out, hl]; rfl))
            clear hz HQ HTT HZ0 HZ1 HZ2 hc hj
            go_wp2_with (at_lookup; refine wpList_lookup_own_ok_int _ rfl _ _ 48 rfl 9 3 .i64 strLaw Tryz.underlying48 Tryz.underlying3 (zeroInt _) B ps.length _ rfl hIw _ _ rfl hkey ?_; intro c hat hwc; rw [hhas])
            go_wp2_with fail
            go_roundw
            case rel => exact ⟨k + 1, by omega, by go_num, HN2, hb⟩
            case measure => simp [intOf]; omega
          | false =>
            have HX := Lib.hid (HQ.out (by rw [HZ2.out, hl, Bool.and_false]))
            clear hz HQ HTT HZ0 HZ1 HZ2 hc hj
            go_wp2_with (at_lookup; refine wpList_lookup_own_ok_int _ rfl _ _ 48 rfl 9 3 .i64 strLaw Tryz.underlying48 Tryz.underlying3 (zeroInt _) B ps.length _ rfl hIw _ _ rfl hkey ?_; intro c hat hwc; rw [hhas])
            go_wp2_with fail
            go_ret
            exact ⟨ret_bool HX.out.symm, hb⟩
    · have HX : Hid (r = true) := Lib.hid (by rw [← HRR.out]; have := HT.out; rw [show k = ls.length by omega] at this; exact this)
      go_wp2_with fail
      go_ret
      exact ⟨ret_bool HX.out.symm, hb⟩
end Go.Proofs.YtcfkhfbhmjfhdaaGreatDoor

/-
  strings.Join, as the library lays it, at this seat.
-/
namespace Go.Proofs
open Go.Shelf
def Tryz.laysJoin_ren : Go.Shelf.Ren := ⟨fun | 156 => 85 | 165 => 116 | 166 => 117 | 169 => 118 | 240 => 130 | 241 => 131 | 276 => 140 | 277 => 141 | n => n, fun | 31 => 22 | 9 => 9 | 3 => 3 | 4 => 4 | 0 => 0 | 20 => 20 | 72 => 136 | 76 => 140 | 70 => 134 | 37 => 72 | 75 => 139 | 127 => 156 | 164 => 162 | 5 => 5 | 80 => 142 | n => n, fun | n => n⟩
theorem Tryz.laysJoin : Go.Proofs.Lays.n156 Tryz.prog Tryz.laysJoin_ren := {
  mixed := by kernel_rfl
  f156 := Tryz.func85.trans (congrArg some (by kernel_rfl))
  f165 := Tryz.func116.trans (congrArg some (by kernel_rfl))
  f166 := Tryz.func117.trans (congrArg some (by kernel_rfl))
  f169 := Tryz.func118.trans (congrArg some (by kernel_rfl))
  f240 := Tryz.func130.trans (congrArg some (by kernel_rfl))
  f241 := Tryz.func131.trans (congrArg some (by kernel_rfl))
  f276 := Tryz.func140.trans (congrArg some (by kernel_rfl))
  f277 := Tryz.func141.trans (congrArg some (by kernel_rfl))
  t0 := Tryz.underlying0
  a0 := Tryz.isAgg0
  z0 := Tryz.sizeOf0
  v0 := Tryz.zeroValue0
  t3 := Tryz.underlying3
  a3 := Tryz.isAgg3
  z3 := Tryz.sizeOf3
  v3 := Tryz.zeroValue3
  t4 := Tryz.underlying4
  a4 := Tryz.isAgg4
  z4 := Tryz.sizeOf4
  v4 := Tryz.zeroValue4
  t9 := Tryz.underlying9
  a9 := Tryz.isAgg9
  z9 := Tryz.sizeOf9
  v9 := Tryz.zeroValue9
  t20 := Tryz.underlying20
  a20 := Tryz.isAgg20
  z20 := Tryz.sizeOf20
  v20 := Tryz.zeroValue20
  t31 := Tryz.underlying22
  a31 := Tryz.isAgg22
  z31 := Tryz.sizeOf22
  v31 := Tryz.zeroValue22
  t37 := Tryz.underlying72
  a37 := Tryz.isAgg72
  z37 := Tryz.sizeOf72
  v37 := Tryz.zeroValue72
  t70 := Tryz.underlying134
  a70 := Tryz.isAgg134
  z70 := Tryz.sizeOf134
  v70 := Tryz.zeroValue134
  t72 := Tryz.underlying136
  a72 := Tryz.isAgg136
  z72 := Tryz.sizeOf136
  v72 := Tryz.zeroValue136
  t75 := Tryz.underlying139
  a75 := Tryz.isAgg139
  z75 := Tryz.sizeOf139
  v75 := Tryz.zeroValue139
  t76 := Tryz.underlying140
  a76 := Tryz.isAgg140
  z76 := Tryz.sizeOf140
  v76 := Tryz.zeroValue140
  t127 := Tryz.underlying156
  a127 := Tryz.isAgg156
  z127 := Tryz.sizeOf156
  v127 := Tryz.zeroValue156
  t164 := Tryz.underlying162
  a164 := Tryz.isAgg162
  z164 := Tryz.sizeOf162
  v164 := Tryz.zeroValue162 }
end Go.Proofs

/-
  strings.Join of a list of texts at a dot.
-/
namespace Go.Proofs
open Go.Shelf
theorem Tryz.extraJoin : Builder.Extra Tryz.prog Tryz.laysJoin_ren where
  sizeBuilder := by kernel_rfl
  liesBuilder := by kernel_rfl
  t5 := Tryz.underlying5
  a5 := Tryz.isAgg5
  z5 := Tryz.sizeOf5
  v5 := Tryz.zeroValue5
  infoByte := by kernel_rfl
  cellsByte := by kernel_rfl
  sizeByte := by kernel_rfl
  neB5 := by decide
namespace YtcfkhfbhmjfhdaaGreatDoor
open Go.RowKit

theorem inter_flat (x : List UInt8) : ∀ xs : List (List UInt8), Lib.join (x :: xs) [46] = x ++ xs.flatMap (fun y => 46 :: y)
  | [] => by simp [Lib.join, List.intercalate]
  | y :: ys => by
    have := inter_flat y ys
    unfold Lib.join at this ⊢
    simp [List.intercalate] at this ⊢
    rw [this]
theorem join_pre {ls : List (List UInt8)} (h : ls ≠ []) : preText ls = 45 :: Lib.join ls [46] := by
  cases ls with
  | nil => exact absurd rfl h
  | cons x xs => rw [inter_flat]; rfl
theorem flat_len (ls : List (List UInt8)) (h : ∀ l ∈ ls, l.length ≤ 20) : (ls.flatMap (fun y => (46 : UInt8) :: y)).length ≤ 21 * ls.length := by
  induction ls with
  | nil => simp
  | cons x xs ih =>
    have := ih (fun l hl => h l (by simp [hl]))
    have := h x (by simp)
    simp only [List.flatMap_cons, List.length_append, List.length_cons]
    omega
theorem join_len {ls : List (List UInt8)} (h : ∀ l ∈ ls, l.length ≤ 20) (h5 : ls.length ≤ 5) : (Lib.join ls [46]).length ≤ 200 := by
  cases ls with
  | nil => simp [Lib.join_nil]
  | cons x xs =>
    rw [inter_flat]
    have := flat_len xs (fun l hl => h l (by simp [hl]))
    have := h x (by simp)
    simp at h5
    rw [List.length_append]
    omega

theorem joinDot_any (w : World) (base g cap : Nat) (ls : List (List UInt8)) (h : Strs w base (.slice (some ⟨g, 0, none⟩) ls.length cap) ls) (h20 : ∀ l ∈ ls, l.length ≤ 20) (h5 : ls.length ≤ 5) :
    Calls Tryz.prog 85 #[.slice (some ⟨g, 0, none⟩) ls.length cap, .string ⟨#[46]⟩] w fun e w' => e = .returned (.string ⟨(Lib.join ls [46]).toArray⟩) ∧ Below w.heap.size w w' := by
  obtain ⟨hlen, hr⟩ := h
  have hS : Strs w base (.slice (some ⟨g, 0, none⟩) ls.length cap) ls := ⟨hlen, hr⟩
  have hcap : ls.length ≤ cap := by
    rcases hr with ⟨hv, _⟩ | ⟨g', cap', cur, hv, _, _, hc, _⟩
    · cases hv
    · simp only [Value.slice.injEq] at hv; omega
  have hg : g < w.heap.size := by
    rcases hS.form with ⟨h', _⟩ | ⟨g', cap', h', _, hg'⟩
    · cases h'
    · simp only [Value.slice.injEq, Option.some.injEq, Addr.mk.injEq, and_true] at h'
      rw [h'.1]; exact hg'
  have hm : (ls.map (fun l => (⟨l.toArray⟩ : ByteArray))).map (fun x => x.data.toList) = ls := by rw [List.map_map]; exact List.map_id'' (fun l => rfl) ls
  have hJ := Any.strings_Join Tryz.laysJoin Tryz.extraJoin g 0 cap (ls.map (fun l => (⟨l.toArray⟩ : ByteArray))) ⟨#[46]⟩ w (fun j x hx => by
      rw [List.getElem?_map] at hx
      cases hj : ls[j]? with
      | none => rw [hj] at hx; simp at hx
      | some y =>
        rw [hj] at hx
        simp at hx
        subst hx
        obtain ⟨hl, rfl⟩ := List.getElem?_eq_some_iff.1 hj
        rw [Nat.zero_add]
        exact hS.cell j hl) hg (by simp; omega) (by simpa using hcap) (by rw [hm]; have := join_len h20 h5; show (Lib.join ls [46]).length ≤ _; omega)
  rw [hm] at hJ
  have e : (ls.map (fun l => (⟨l.toArray⟩ : ByteArray))).length = ls.length := by simp
  rw [e] at hJ
  exact hJ
end YtcfkhfbhmjfhdaaGreatDoor
end Go.Proofs

/-
  impl.isLower, impl.isDigit: what kind a byte is.
-/
namespace Go.Proofs.YtcfkhfbhmjfhdaaGreatDoor
open Go.RowKit

def lowI (z : Int) : Bool := decide (97 ≤ z ∧ z ≤ 122)
def digI (z : Int) : Bool := decide (48 ≤ z ∧ z ≤ 57)
set_option maxRecDepth 100000 in
theorem isLower_any (z : Int) (w : World) (h0 : 0 ≤ z) (h1 : z < 256) : Calls Tryz.prog 90 #[.int .u8 z] w fun e w' => e = .returned (.bool (lowI z)) ∧ w = w' := by
  rcases (show (97 ≤ z ∧ z ≤ 122) ∨ z < 97 ∨ 122 < z from by omega) with ⟨a, b⟩ | a | a
  · have H : Hid (lowI z = true) := Lib.hid (by unfold lowI; simp; omega)
    go_enter Tryz.func90, Tryz.ntmps90
    go_wp2
    go_ret
    exact ⟨ret_bool H.out.symm, rfl⟩
  all_goals
    have H : Hid (lowI z = false) := Lib.hid (by unfold lowI; simp; omega)
    go_enter Tryz.func90, Tryz.ntmps90
    go_wp2
    go_ret
    exact ⟨ret_bool (by first | exact H.out.symm | (rw [H.out]; simp; omega)), rfl⟩
set_option maxRecDepth 100000 in
theorem isDigit_any (z : Int) (w : World) (h0 : 0 ≤ z) (h1 : z < 256) : Calls Tryz.prog 91 #[.int .u8 z] w fun e w' => e = .returned (.bool (digI z)) ∧ w = w' := by
  rcases (show (48 ≤ z ∧ z ≤ 57) ∨ z < 48 ∨ 57 < z from by omega) with ⟨a, b⟩ | a | a
  · have H : Hid (digI z = true) := Lib.hid (by unfold digI; simp; omega)
    go_enter Tryz.func91, Tryz.ntmps91
    go_wp2
    go_ret
    exact ⟨ret_bool H.out.symm, rfl⟩
  all_goals
    have H : Hid (digI z = false) := Lib.hid (by unfold digI; simp; omega)
    go_enter Tryz.func91, Tryz.ntmps91
    go_wp2
    go_ret
    exact ⟨ret_bool (by first | exact H.out.symm | (rw [H.out]; simp; omega)), rfl⟩
end Go.Proofs.YtcfkhfbhmjfhdaaGreatDoor

/-
  impl.isUpper: whether a byte is a great letter.
-/
namespace Go.Proofs.YtcfkhfbhmjfhdaaGreatDoor
open Go.RowKit

def uppI (z : Int) : Bool := decide (65 ≤ z ∧ z ≤ 90)
set_option maxRecDepth 100000 in
theorem isUpper_any (z : Int) (w : World) (h0 : 0 ≤ z) (h1 : z < 256) : Calls Tryz.prog 177 #[.int .u8 z] w fun e w' => e = .returned (.bool (uppI z)) ∧ w = w' := by
  rcases (show (65 ≤ z ∧ z ≤ 90) ∨ z < 65 ∨ 90 < z from by omega) with ⟨a, b⟩ | a | a
  · have H : Hid (uppI z = true) := Lib.hid (by unfold uppI; simp; omega)
    go_enter Tryz.func177, Tryz.ntmps177
    go_wp2
    go_ret
    exact ⟨ret_bool H.out.symm, rfl⟩
  all_goals
    have H : Hid (uppI z = false) := Lib.hid (by unfold uppI; simp; omega)
    go_enter Tryz.func177, Tryz.ntmps177
    go_wp2
    go_ret
    exact ⟨ret_bool (by first | exact H.out.symm | (rw [H.out]; simp; omega)), rfl⟩
end Go.Proofs.YtcfkhfbhmjfhdaaGreatDoor

/-
  impl's identifiers: what identifierOf hands back, and whether it is right.
-/
namespace Go.Proofs.YtcfkhfbhmjfhdaaGreatDoor
open Go.RowKit

/-- What identifierOf hands back for a text. -/
def identV (s : ByteArray) : Value := if 0 ≤ readL s.data.toList then .iface 147 (.int .i64 (readL s.data.toList)) else .iface 148 (.string s)
theorem identV_num {s : ByteArray} (h : 0 ≤ readL s.data.toList) : identV s = .iface 147 (.int .i64 (readL s.data.toList)) := if_pos h
theorem identV_text {s : ByteArray} (h : ¬ 0 ≤ readL s.data.toList) : identV s = .iface 148 (.string s) := if_neg h

set_option maxRecDepth 100000 in
set_option maxHeartbeats 1000000 in
theorem identifierOf_any (s : ByteArray) (w : World) (hs : s.size ≤ 1048576) :
    Calls Tryz.prog 101 #[.string s] w fun e w' => e = .returned (identV s) ∧ w = w' := by
  by_cases hr : 0 ≤ readL s.data.toList
  · have HV := Lib.hid (identV_num hr)
    go_enter Tryz.func101, Tryz.ntmps101
    go_wp2_with fail
    refine (implReadDec_any s _ hs).mono ?_
    generalize readL s.data.toList = m at HV hr ⊢
    rintro e w' ⟨rfl, rfl⟩
    go_wp2_with fail
    go_ret
    exact ⟨congrArg Ending.returned HV.out.symm, rfl⟩
  · have HV := Lib.hid (identV_text hr)
    go_enter Tryz.func101, Tryz.ntmps101
    go_wp2_with fail
    refine (implReadDec_any s _ hs).mono ?_
    generalize readL s.data.toList = m at hr ⊢
    rintro e w' ⟨rfl, rfl⟩
    go_wp2_with fail
    go_ret
    exact ⟨congrArg Ending.returned HV.out.symm, rfl⟩

theorem preText_ways (z : Int) : (lowI z = true ∧ uppI z = false ∧ digI z = false) ∨ (lowI z = false ∧ uppI z = true ∧ digI z = false) ∨ (lowI z = false ∧ uppI z = false ∧ digI z = true) ∨ (lowI z = false ∧ uppI z = false ∧ digI z = false ∧ (z != 45) = false) ∨ (lowI z = false ∧ uppI z = false ∧ digI z = false ∧ (z != 45) = true) := by
  unfold lowI uppI digI; simp; omega
theorem preI_yes {z : Int} (h : lowI z = true ∨ uppI z = true ∨ digI z = true ∨ (z != 45) = false) : preI z = true := by
  unfold lowI uppI digI at h; unfold preI; simp at h ⊢; omega
theorem preI_no {z : Int} (h : lowI z = false ∧ uppI z = false ∧ digI z = false ∧ (z != 45) = true) : preI z = false := by
  unfold lowI uppI digI at h; unfold preI; simp at h ⊢; omega
theorem digI_isDig (c : UInt8) : digI (c.toNat : Int) = isDig c := rfl
theorem all_snoc (s : ByteArray) (k : Nat) (p : UInt8 → Bool) (h : k < s.size) : (s.data.toList.take (k + 1)).all p = ((s.data.toList.take k).all p && p s[k]) := by
  rw [take_snoc s k h, List.all_append]; simp

def textOk (l : List UInt8) : Bool := l.all preB && (decide (1 ≤ l.length) && decide (l.length ≤ 20)) && !(l.all isDig)
theorem preOk_textOk {l : List UInt8} (h : ¬ 0 ≤ readL l) : preOk l = textOk l := preOk_text h
set_option maxRecDepth 100000 in
set_option maxHeartbeats 2000000 in
theorem textValid_any (s : ByteArray) (w : World) (hs : s.size ≤ 1048576) :
    Calls Tryz.prog 175 #[.string s] w fun e w' => e = .returned (.bool (textOk s.data.toList)) ∧ w = w' := by
  have hsz : s.data.toList.length = s.size := by simp
  by_cases hl : 1 ≤ s.size ∧ s.size ≤ 20
  · obtain ⟨hl1, hl2⟩ := hl
    have h20 : decide ((20 : Int) < (s.size : Int)) = false := by simp; omega
    have HT : Hid (textOk s.data.toList = (s.data.toList.all preB && !(s.data.toList.all isDig))) := Lib.hid (by unfold textOk; rw [hsz]; simp [hl1, hl2])
    clear hsz
    go_enter Tryz.func175, Tryz.ntmps175
    go_wp2
    go_loop [3, 4, 5, 16] (fun d _ _ i => ∃ (k : Nat) (b : Bool), k ≤ s.size ∧ i = .int .i64 k ∧ d = .bool b ∧ Hid ((s.data.toList.take k).all preB = true) ∧ Hid ((s.data.toList.take k).all isDig = b)) (fun _ _ _ i => s.size - (intOf i).toNat)
    case atStart => exact ⟨0, true, Nat.zero_le _, rfl, rfl, Lib.hid (by simp), Lib.hid (by simp)⟩
    case round =>
      obtain ⟨k, b, hk, rfl, rfl, H, HD⟩ := hrel
      by_cases hlt : k < s.size
      · have c1 := (byte_lt s[k]).1
        have c2 := (byte_lt s[k]).2
        have HS := Lib.hid (all_snoc s k isDig hlt)
        have HDI := Lib.hid (digI_isDig s[k])
        rcases preText_ways (s[k].toNat : Int) with ⟨z, y, x⟩ | ⟨z, y, x⟩ | ⟨z, y, x⟩ | ⟨z, y, x, u⟩ | ⟨z, y, x, u⟩
        case inr.inr.inr.inr =>
          have HX : Hid (textOk s.data.toList = false) := Lib.hid (by rw [HT.out, Bool.eq_false_iff.2 (all_false s k preB hlt (preI_no ⟨z, y, x, u⟩))]; rfl)
          have HZ := Lib.hid z
          have HY := Lib.hid y
          have HW := Lib.hid x
          clear z y x
          go_wp2_with (first | (go_at_call 90; refine (isLower_any _ _ c2 c1).mono ?_; rw [HZ.out]; rintro e w' ⟨rfl, rfl⟩) | (go_at_call 177; refine (isUpper_any _ _ c2 c1).mono ?_; rw [HY.out]; rintro e w' ⟨rfl, rfl⟩) | (go_at_call 91; refine (isDigit_any _ _ c2 c1).mono ?_; rw [HW.out]; rintro e w' ⟨rfl, rfl⟩))
          go_ret
          exact ⟨ret_bool HX.out.symm, rfl⟩
        all_goals
          have HP : Hid ((s.data.toList.take (k + 1)).all preB = true) := Lib.hid (all_next s k preB hlt H.out (preI_yes (by first | exact .inl z | exact .inr (.inl y) | exact .inr (.inr (.inl x)) | exact .inr (.inr (.inr u)))))
          have HZ := Lib.hid z
          have HY := Lib.hid y
          have HW := Lib.hid x
          clear z y x
          cases b
          all_goals
            go_wp2_with (first | (go_at_call 90; refine (isLower_any _ _ c2 c1).mono ?_; rw [HZ.out]; rintro e w' ⟨rfl, rfl⟩) | (go_at_call 177; refine (isUpper_any _ _ c2 c1).mono ?_; rw [HY.out]; rintro e w' ⟨rfl, rfl⟩) | (go_at_call 91; refine (isDigit_any _ _ c2 c1).mono ?_; rw [HW.out]; rintro e w' ⟨rfl, rfl⟩))
            go_round
            case rel => exact ⟨k + 1, _, by omega, by go_num, rfl, HP, Lib.hid (by rw [HS.out, HD.out, ← HDI.out, HW.out]; rfl)⟩
            case measure => simp [intOf]; omega
      · have H2 := H.out
        have H3 := HD.out
        rw [take_end s k hlt] at H2 H3
        have HX : Hid (textOk s.data.toList = !b) := Lib.hid (by rw [HT.out, H2, H3]; rfl)
        clear H HD H2 H3
        go_wp2
        go_ret
        exact ⟨ret_bool HX.out.symm, rfl⟩
  · have HX : Hid (textOk s.data.toList = false) := Lib.hid (by unfold textOk; rw [hsz]; simp; omega)
    rw [HX.out]
    clear hsz HX
    by_cases h1 : s.size < 1
    · go_enter Tryz.func175, Tryz.ntmps175
      go_wp2
      go_ret
      exact ⟨rfl, rfl⟩
    · have h20 : 20 < s.size := by omega
      have h1' : decide ((s.size : Int) < 1) = false := by simp; omega
      clear hl
      go_enter Tryz.func175, Tryz.ntmps175
      go_wp2
      go_ret
      exact ⟨rfl, rfl⟩

set_option maxRecDepth 100000 in
theorem numValid_any (z : Int) (w : World) : Calls Tryz.prog 171 #[.int .i64 z] w fun e w' => e = .returned (.bool true) ∧ w = w' := by
  go_enter Tryz.func171, Tryz.ntmps171
  go_wp2
  go_ret
  exact ⟨rfl, rfl⟩

theorem meth_validN (z : Int) (w : World) : (method 293 147 (.int .i64 z) "loop.example/g00445/impl.valid").run Tryz.prog w = .ok (171, .int .i64 z) w := by kernel_rfl
theorem meth_validT (s : ByteArray) (w : World) : (method 293 148 (.string s) "loop.example/g00445/impl.valid").run Tryz.prog w = .ok (175, .string s) w := by kernel_rfl
end Go.Proofs.YtcfkhfbhmjfhdaaGreatDoor

/-
  impl.VersionOk: whether a version is right.
-/
namespace Go.Proofs.YtcfkhfbhmjfhdaaGreatDoor
open Go.RowKit

set_option maxRecDepth 100000 in
theorem numberOk_any (n : Int) (w : World) : Calls Tryz.prog 100 #[.int .i64 n] w fun e w' => e = .returned (.bool (numOk n)) ∧ w = w' := by
  by_cases h1 : 0 ≤ n
  · by_cases h2 : n ≤ 999999999
    · have H : Hid (numOk n = true) := Lib.hid (by unfold numOk; simp; omega)
      go_enter Tryz.func100, Tryz.ntmps100
      go_wp2
      go_ret
      exact ⟨ret_bool H.out.symm, rfl⟩
    · have H : Hid (numOk n = false) := Lib.hid (by unfold numOk; simp; omega)
      have d1 : decide (n ≤ 999999999) = false := by simpa using h2
      go_enter Tryz.func100, Tryz.ntmps100
      go_wp2
      go_ret
      exact ⟨ret_bool (by first | exact H.out.symm | (rw [H.out]; simp; omega)), rfl⟩
  · have H : Hid (numOk n = false) := Lib.hid (by unfold numOk; simp; omega)
    have d1 : decide (0 ≤ n) = false := by simpa using h1
    go_enter Tryz.func100, Tryz.ntmps100
    go_wp2
    go_ret
    exact ⟨ret_bool (by first | exact H.out.symm | (rw [H.out]; simp; omega)), rfl⟩

theorem sm_size {ls : List (List UInt8)} (h : ∀ l ∈ ls, l.length ≤ 1048576) (k : Nat) (hk : k < ls.length) : (⟨ls[k].toArray⟩ : ByteArray).size ≤ 1048576 := by
  have := h ls[k] (List.getElem_mem hk)
  show ls[k].toArray.size ≤ _
  simpa using this

set_option maxRecDepth 100000 in
set_option maxHeartbeats 2000000 in
theorem implVersionOk_any (a b c : Int) (v : Value) (ls : List (List UInt8)) (w : World) (hr : RdS w v ls) (hs : Sm ls) :
    Calls Tryz.prog 78 #[.agg #[.int .i64 a, .int .i64 b, .int .i64 c, v]] w fun e w' => e = .returned (.bool (verOk a b c ls)) ∧ Below w.heap.size w w' := by
  obtain ⟨A, cap, rfl, hc⟩ := hr
  have hls := hs.1
  have HS := Lib.hid hs.2
  clear hs
  obtain ⟨x, HX⟩ : ∃ x, Hid (numOk a = x) := ⟨_, Lib.hid rfl⟩
  obtain ⟨y, HY⟩ : ∃ x, Hid (numOk b = x) := ⟨_, Lib.hid rfl⟩
  obtain ⟨z, HZ⟩ : ∃ x, Hid (numOk c = x) := ⟨_, Lib.hid rfl⟩
  have HF : Hid (verOk a b c ls = (ls.all preOk && (x && y && z && decide (ls.length ≤ 5)))) := Lib.hid (by unfold verOk; rw [HX.out, HY.out, HZ.out])
  cases x
  · have HG : Hid (verOk a b c ls = false) := Lib.hid (by rw [HF.out]; simp)
    go_enter Tryz.func78, Tryz.ntmps78
    go_wp2_with (go_at_call 100; refine (numberOk_any _ _).mono ?_; (first | rw [HX.out]); rintro e w' ⟨rfl, rfl⟩)
    go_ret
    exact ⟨ret_bool HG.out.symm, (Below.refl _ _).alloc (Nat.le_refl _) _⟩
  cases y
  · have HG : Hid (verOk a b c ls = false) := Lib.hid (by rw [HF.out]; simp)
    go_enter Tryz.func78, Tryz.ntmps78
    go_wp2_with (go_at_call 100; refine (numberOk_any _ _).mono ?_; (first | rw [HX.out] | rw [HY.out]); rintro e w' ⟨rfl, rfl⟩)
    go_ret
    exact ⟨ret_bool HG.out.symm, (Below.refl _ _).alloc (Nat.le_refl _) _⟩
  cases z
  · have HG : Hid (verOk a b c ls = false) := Lib.hid (by rw [HF.out]; simp)
    go_enter Tryz.func78, Tryz.ntmps78
    go_wp2_with (go_at_call 100; refine (numberOk_any _ _).mono ?_; (first | rw [HX.out] | rw [HY.out] | rw [HZ.out]); rintro e w' ⟨rfl, rfl⟩)
    go_ret
    exact ⟨ret_bool HG.out.symm, (Below.refl _ _).alloc (Nat.le_refl _) _⟩
  by_cases h5 : ls.length ≤ 5
  · have HG : Hid (verOk a b c ls = ls.all preOk) := Lib.hid (by rw [HF.out]; simp [h5])
    have d5 : decide ((5 : Int) < (ls.length : Int)) = false := by simp; omega
    clear HF
    go_enter Tryz.func78, Tryz.ntmps78
    go_wp2_with (go_at_call 100; refine (numberOk_any _ _).mono ?_; (first | rw [HX.out] | rw [HY.out] | rw [HZ.out]); rintro e w' ⟨rfl, rfl⟩)
    go_loop [4, 30] (fun _ i => ∃ k : Nat, k ≤ ls.length ∧ i = .int .i64 k ∧ Hid ((ls.take k).all preOk = true)) (fun _ i => ls.length - (intOf i).toNat)
    case atStart => exact ⟨0, Nat.zero_le _, rfl, Lib.hid (by simp)⟩
    case round =>
      obtain ⟨k, hk, rfl, H⟩ := hrel
      by_cases hlt : k < ls.length
      · obtain ⟨g, off, rfl, hg, hca⟩ := hc (by omega)
        have d1 : w.cell? ⟨g, off + k, none⟩ = some (.string ⟨ls[k].toArray⟩) := hca k hlt
        have k0 : (0 : Int) ≤ (k : Int) := by omega
        have k1 : (k : Int) < (ls.length : Int) := by omega
        have hbs := sm_size HS.out k hlt
        have HP := Lib.hid (fun W => identifierOf_any ⟨ls[k].toArray⟩ W hbs)
        clear hc hca
        by_cases hn : 0 ≤ readL ls[k]
        · have HN := Lib.hid (all_take ls preOk k hlt H.out (preOk_num hn))
          have HV := Lib.hid (identV_num (s := ⟨ls[k].toArray⟩) hn)
          go_wp2_with fail
          refine (HP.out _).mono ?_
          rw [HV.out]
          rintro e w' ⟨rfl, rfl⟩
          have hm := meth_validN (readL ls[k])
          go_wp2_with fail
          refine (numValid_any _ _).mono ?_
          rintro e w' ⟨rfl, rfl⟩
          go_wp2_with fail
          go_round
          case rel => exact ⟨k + 1, by omega, by go_num, HN⟩
          case measure => simp [intOf]; omega
        · have HV := Lib.hid (identV_text (s := ⟨ls[k].toArray⟩) hn)
          have HT := Lib.hid (preOk_textOk hn)
          have hm := meth_validT ⟨ls[k].toArray⟩
          by_cases hp : preOk ls[k] = true
          · have HN := Lib.hid (all_take ls preOk k hlt H.out hp)
            have HQ : Hid (textOk (⟨ls[k].toArray⟩ : ByteArray).data.toList = true) := Lib.hid (HT.out.symm.trans hp)
            clear hp hn
            go_wp2_with fail
            refine (HP.out _).mono ?_
            rw [HV.out]
            rintro e w' ⟨rfl, rfl⟩
            go_wp2_with fail
            refine (textValid_any _ _ hbs).mono ?_
            rw [HQ.out]
            rintro e w' ⟨rfl, rfl⟩
            go_wp2_with fail
            go_round
            case rel => exact ⟨k + 1, by omega, by go_num, HN⟩
            case measure => simp [intOf]; omega
          · have HN : Hid (verOk a b c ls = false) := Lib.hid (by rw [HG.out]; exact Bool.eq_false_iff.2 (all_not ls preOk k hlt (by simpa using hp)))
            have HQ : Hid (textOk (⟨ls[k].toArray⟩ : ByteArray).data.toList = false) := Lib.hid (HT.out.symm.trans (by simpa using hp))
            clear hp hn
            go_wp2_with fail
            refine (HP.out _).mono ?_
            rw [HV.out]
            rintro e w' ⟨rfl, rfl⟩
            go_wp2_with fail
            refine (textValid_any _ _ hbs).mono ?_
            rw [HQ.out]
            rintro e w' ⟨rfl, rfl⟩
            go_wp2_with fail
            go_ret
            exact ⟨ret_bool HN.out.symm, (Below.refl _ _).alloc (Nat.le_refl _) _⟩
      · have H2 := H.out
        rw [List.take_of_length_le (by omega)] at H2
        have HN : Hid (verOk a b c ls = true) := Lib.hid (by rw [HG.out]; exact H2)
        clear H H2 hc
        go_wp2_with fail
        go_ret
        exact ⟨ret_bool HN.out.symm, (Below.refl _ _).alloc (Nat.le_refl _) _⟩
  · have HG : Hid (verOk a b c ls = false) := Lib.hid (by rw [HF.out]; simp; omega)
    have d5 : (5 : Int) < (ls.length : Int) := by omega
    clear HF
    go_enter Tryz.func78, Tryz.ntmps78
    go_wp2_with (go_at_call 100; refine (numberOk_any _ _).mono ?_; (first | rw [HX.out] | rw [HY.out] | rw [HZ.out]); rintro e w' ⟨rfl, rfl⟩)
    go_ret
    exact ⟨ret_bool HG.out.symm, (Below.refl _ _).alloc (Nat.le_refl _) _⟩
end Go.Proofs.YtcfkhfbhmjfhdaaGreatDoor

/-
  strconv.Itoa, as the library lays it, at this seat.
-/
namespace Go.Proofs
open Go.Shelf
def Tryz.laysItoa_ren : Go.Shelf.Ren := ⟨fun | 171 => 115 | 243 => 129 | 246 => 139 | 283 => 144 | 284 => 145 | 285 => 146 | 286 => 147 | 129 => 111 | 317 => 148 | 318 => 149 | 319 => 150 | 320 => 151 | 337 => 152 | 338 => 153 | n => n, fun | 3 => 3 | 9 => 9 | 2 => 2 | 4 => 4 | 171 => 167 | 0 => 0 | 53 => 132 | 37 => 72 | 5 => 5 | 173 => 169 | 212 => 172 | 51 => 130 | 20 => 20 | 213 => 173 | 46 => 104 | 232 => 174 | 233 => 175 | n => n, fun | 17 => 1 | 18 => 2 | 19 => 3 | n => n⟩
theorem Tryz.laysItoa : Go.Proofs.LaysM.n171 Tryz.prog Tryz.laysItoa_ren := {
  mixed := by kernel_rfl
  f129 := Tryz.func111.trans (congrArg some (by kernel_rfl))
  f171 := Tryz.func115.trans (congrArg some (by kernel_rfl))
  f243 := Tryz.func129.trans (congrArg some (by kernel_rfl))
  f246 := Tryz.func139.trans (congrArg some (by kernel_rfl))
  f283 := Tryz.func144.trans (congrArg some (by kernel_rfl))
  f284 := Tryz.func145.trans (congrArg some (by kernel_rfl))
  f285 := Tryz.func146.trans (congrArg some (by kernel_rfl))
  f286 := Tryz.func147.trans (congrArg some (by kernel_rfl))
  f317 := Tryz.func148.trans (congrArg some (by kernel_rfl))
  f318 := Tryz.func149.trans (congrArg some (by kernel_rfl))
  f319 := Tryz.func150.trans (congrArg some (by kernel_rfl))
  f320 := Tryz.func151.trans (congrArg some (by kernel_rfl))
  f337 := Tryz.func152.trans (congrArg some (by kernel_rfl))
  f338 := Tryz.func153.trans (congrArg some (by kernel_rfl))
  t0 := Tryz.underlying0
  a0 := Tryz.isAgg0
  z0 := Tryz.sizeOf0
  v0 := Tryz.zeroValue0
  t2 := Tryz.underlying2
  a2 := Tryz.isAgg2
  z2 := Tryz.sizeOf2
  v2 := Tryz.zeroValue2
  t3 := Tryz.underlying3
  a3 := Tryz.isAgg3
  z3 := Tryz.sizeOf3
  v3 := Tryz.zeroValue3
  t4 := Tryz.underlying4
  a4 := Tryz.isAgg4
  z4 := Tryz.sizeOf4
  v4 := Tryz.zeroValue4
  t5 := Tryz.underlying5
  a5 := Tryz.isAgg5
  z5 := Tryz.sizeOf5
  v5 := Tryz.zeroValue5
  t9 := Tryz.underlying9
  a9 := Tryz.isAgg9
  z9 := Tryz.sizeOf9
  v9 := Tryz.zeroValue9
  t20 := Tryz.underlying20
  a20 := Tryz.isAgg20
  z20 := Tryz.sizeOf20
  v20 := Tryz.zeroValue20
  t37 := Tryz.underlying72
  a37 := Tryz.isAgg72
  z37 := Tryz.sizeOf72
  v37 := Tryz.zeroValue72
  t46 := Tryz.underlying104
  a46 := Tryz.isAgg104
  z46 := Tryz.sizeOf104
  v46 := Tryz.zeroValue104
  t51 := Tryz.underlying130
  a51 := Tryz.isAgg130
  z51 := Tryz.sizeOf130
  v51 := Tryz.zeroValue130
  t53 := Tryz.underlying132
  a53 := Tryz.isAgg132
  z53 := Tryz.sizeOf132
  v53 := Tryz.zeroValue132
  t171 := Tryz.underlying167
  a171 := Tryz.isAgg167
  z171 := Tryz.sizeOf167
  v171 := Tryz.zeroValue167
  t173 := Tryz.underlying169
  a173 := Tryz.isAgg169
  z173 := Tryz.sizeOf169
  v173 := Tryz.zeroValue169
  t212 := Tryz.underlying172
  a212 := Tryz.isAgg172
  z212 := Tryz.sizeOf172
  v212 := Tryz.zeroValue172
  t213 := Tryz.underlying173
  a213 := Tryz.isAgg173
  z213 := Tryz.sizeOf173
  t232 := Tryz.underlying174
  a232 := Tryz.isAgg174
  z232 := Tryz.sizeOf174
  v232 := Tryz.zeroValue174
  t233 := Tryz.underlying175
  a233 := Tryz.isAgg175
  z233 := Tryz.sizeOf175
  v233 := Tryz.zeroValue175
  g17 := by kernel_rfl
  g18 := by kernel_rfl
  g19 := by kernel_rfl
  i0 := by kernel_rfl
  i2 := by kernel_rfl
  i3 := by kernel_rfl
  i4 := by kernel_rfl
  i5 := by kernel_rfl
  i9 := by kernel_rfl
  i20 := by kernel_rfl
  i37 := by kernel_rfl
  i46 := by kernel_rfl
  i51 := by kernel_rfl
  i53 := by kernel_rfl
  i171 := by kernel_rfl
  i173 := by kernel_rfl
  i212 := by kernel_rfl
  i232 := by kernel_rfl
  i233 := by kernel_rfl
  m17 := by kernel_rfl
  m18 := by kernel_rfl
  m19 := by kernel_rfl }
end Go.Proofs

/-
  impl.DecText returns the decimal text of every int, where the table of powers lies as the library lays it.
-/
namespace Go.Proofs.YtcfkhfbhmjfhdaaGreatDoor
open Go.RowKit

theorem itoa_any (n : Int) (h0 : -9223372036854775808 ≤ n) (h1 : n ≤ 9223372036854775807) (w : World) (htab : Lib.TabIs Tryz.prog w "internal/strconv.uint64pow10" .u64 Lib.pow10Tab) :
    Calls Tryz.prog 115 #[.int .i64 n] w fun e w' => e = .returned (.string ⟨(Lib.itoa n).toArray⟩) ∧ Below w.heap.size w w' := by
  refine (Any.strconv_Itoa Tryz.laysItoa n h0 h1 w htab).mono ?_
  rintro e w' ⟨rfl, k, os, rfl⟩
  exact ⟨rfl, Lib.below_grow _ w (Nat.le_refl _) k os⟩
theorem implDecText_any (n : Int) (h0 : -9223372036854775808 ≤ n) (h1 : n ≤ 9223372036854775807) (w : World) (htab : Lib.TabIs Tryz.prog w "internal/strconv.uint64pow10" .u64 Lib.pow10Tab) :
    Calls Tryz.prog 84 #[.int .i64 n] w fun e w' => e = .returned (.string ⟨(Lib.itoa n).toArray⟩) ∧ Below w.heap.size w w' := by
  go_enter Tryz.func84, Tryz.ntmps84
  go_wp2_with fail
  refine (itoa_any n h0 h1 w htab).mono ?_
  rintro e w1 ⟨rfl, hb⟩
  go_wp2_with fail
  go_ret
  exact ⟨rfl, hb⟩
end Go.Proofs.YtcfkhfbhmjfhdaaGreatDoor

/-
  impl.VersionText: the text of a version.
-/
namespace Go.Proofs.YtcfkhfbhmjfhdaaGreatDoor
open Go.RowKit

/-- The table of powers lies as the library lays it. -/
abbrev Tab (w : World) : Prop := Lib.TabIs Tryz.prog w "internal/strconv.uint64pow10" .u64 Lib.pow10Tab
theorem tab_below {w w' : World} (h : Tab w) (hb : Below w.heap.size w w') : Tab w' := by
  unfold Tab Lib.TabIs World.var? at h ⊢
  have hg : Tryz.prog.globalNamed "internal/strconv.uint64pow10" = some 1 := by kernel_rfl
  simp only [hg, Option.bind_some] at h ⊢
  have hlt : 1 < w.heap.size := by
    rcases Nat.lt_or_ge 1 w.heap.size with h' | h'
    · exact h'
    · rw [Array.getElem?_eq_none h'] at h; simp at h
  rw [hb.block _ hlt]
  exact h
/-- Three cells and the table, in a later world. -/
theorem keepT {W V : World} {A : Nat} {v0 v1 v2 : Value} (hb : Below W.heap.size W V) (h : W.cell? ⟨A, 0, none⟩ = some v0 ∧ W.cell? ⟨A, 1, none⟩ = some v1 ∧ W.cell? ⟨A, 2, none⟩ = some v2 ∧ Tab W) : V.cell? ⟨A, 0, none⟩ = some v0 ∧ V.cell? ⟨A, 1, none⟩ = some v1 ∧ V.cell? ⟨A, 2, none⟩ = some v2 ∧ Tab V :=
  ⟨keepC hb h.1, keepC hb h.2.1, keepC hb h.2.2.1, tab_below h.2.2.2 hb⟩

set_option maxRecDepth 100000 in
set_option maxHeartbeats 4000000 in
theorem implVersionText_any (a b c : Int) (base : Nat) (v : Value) (ls : List (List UInt8)) (w : World) (hr : Strs w base v ls) (hs : Sm ls) (ht : Tab w) :
    Calls Tryz.prog 56 #[.agg #[.int .i64 a, .int .i64 b, .int .i64 c, v]] w fun e w' => e = .returned (.string ⟨(verText a b c ls).toArray⟩) ∧ Below w.heap.size w w' := by
  have HV := Lib.hid (fun (W : World) (h : Below w.heap.size w W) => implVersionOk_any a b c v ls W ((RdS.of_strs hr).below h) hs)
  have B1 : Below w.heap.size w (w.alloc (.cells #[.int .i64 a, .int .i64 b, .int .i64 c, v] 74)) := (Below.refl _ _).alloc (Nat.le_refl _) _
  have hA1 := heap_alloc_new w (.cells #[.int .i64 a, .int .i64 b, .int .i64 c, v] 74)
  have HSS := Lib.hid (fun (W : World) (h : Below w.heap.size w W) => hr.below h)
  have HTT := Lib.hid (fun (W : World) (h : Below w.heap.size w W) => tab_below ht h)
  obtain ⟨ok, HO⟩ : ∃ ok, Hid (verOk a b c ls = ok) := ⟨_, Lib.hid rfl⟩
  have hl := hs.1
  have hform := hr.form
  clear hr hs ht
  cases ok
  · have HT : Hid (verText a b c ls = []) := Lib.hid (by unfold verText; rw [HO.out]; rfl)
    go_enter Tryz.func56, Tryz.ntmps56
    go_wp2_with fail
    refine (HV.out _ B1).mono ?_
    rw [HO.out]
    rintro e w2 ⟨rfl, hb2⟩
    have B2 := B1.trans (hb2.mono B1.size)
    go_wp2_with fail
    go_ret
    exact ⟨ret_str HT.out.symm, B2⟩
  · obtain ⟨⟨a0, a1⟩, ⟨b0, b1⟩, ⟨c0, c1⟩, h5⟩ := verOk_num HO.out
    have HLE := Lib.hid (verOk_len HO.out)
    have la := dec_len a0 a1
    have lb := dec_len b0 b1
    have lc := dec_len c0 c1
    have HT : Hid (verText a b c ls = nums a b c ++ preText ls) := Lib.hid (by unfold verText; rw [HO.out]; rfl)
    go_enter Tryz.func56, Tryz.ntmps56
    go_wp2_with fail
    refine (HV.out _ B1).mono ?_
    rw [HO.out]
    rintro e w2 ⟨rfl, hb2⟩
    have B2 := B1.trans (hb2.mono B1.size)
    have hA2 := keepB hA1 hb2
    clear hA1 hb2 B1
    obtain ⟨p0, p1, p2, p3⟩ := cells4 hA2
    have tb : Tab w2.drew := HTT.out _ (B2.trans (below_drew _ _))
    obtain ⟨Da, HDa⟩ : ∃ D, Hid (dec a = D) := ⟨_, Lib.hid rfl⟩
    obtain ⟨Db, HDb⟩ : ∃ D, Hid (dec b = D) := ⟨_, Lib.hid rfl⟩
    obtain ⟨Dc, HDc⟩ : ∃ D, Hid (dec c = D) := ⟨_, Lib.hid rfl⟩
    rw [HDa.out] at la
    rw [HDb.out] at lb
    rw [HDc.out] at lc
    obtain ⟨N1, HN1⟩ : ∃ N, Hid (N = Da ++ [46]) := ⟨_, Lib.hid rfl⟩
    obtain ⟨N2, HN2⟩ : ∃ N, Hid (N = N1 ++ Db) := ⟨_, Lib.hid rfl⟩
    obtain ⟨N3, HN3⟩ : ∃ N, Hid (N = N2 ++ [46]) := ⟨_, Lib.hid rfl⟩
    obtain ⟨N4, HN4⟩ : ∃ N, Hid (N = N3 ++ Dc) := ⟨_, Lib.hid rfl⟩
    have l1 : N1.length ≤ 21 := by rw [HN1.out]; simp; omega
    have l2 : N2.length ≤ 41 := by rw [HN2.out]; simp; omega
    have l3 : N3.length ≤ 42 := by rw [HN3.out]; simp; omega
    have l4 : N4.length ≤ 62 := by rw [HN4.out]; simp; omega
    have HNN : Hid (nums a b c = N4) := Lib.hid (by rw [HN4.out, HN3.out, HN2.out, HN1.out]; unfold nums; rw [HDa.out, HDb.out, HDc.out])
    have s1 : ∀ W, (Op.stringOp .add ⟨Da.toArray⟩ ⟨#[46]⟩).run Tryz.prog W = .ok (.string ⟨N1.toArray⟩) W := fun W => by rw [HN1.out]; exact run_string_add_lists W Da [46] (by omega) (by simp)
    have s2 : ∀ W, (Op.stringOp .add ⟨N1.toArray⟩ ⟨Db.toArray⟩).run Tryz.prog W = .ok (.string ⟨N2.toArray⟩) W := fun W => by rw [HN2.out]; exact run_string_add_lists W N1 Db (by omega) (by omega)
    have s3 : ∀ W, (Op.stringOp .add ⟨N2.toArray⟩ ⟨#[46]⟩).run Tryz.prog W = .ok (.string ⟨N3.toArray⟩) W := fun W => by rw [HN3.out]; exact run_string_add_lists W N2 [46] (by omega) (by simp)
    have s4 : ∀ W, (Op.stringOp .add ⟨N3.toArray⟩ ⟨Dc.toArray⟩).run Tryz.prog W = .ok (.string ⟨N4.toArray⟩) W := fun W => by rw [HN4.out]; exact run_string_add_lists W N3 Dc (by omega) (by omega)
    have HDT1 := Lib.hid (fun (W : World) (ht : Tab W) => (show Calls Tryz.prog 84 #[.int .i64 a] W fun e w' => e = .returned (.string ⟨Da.toArray⟩) ∧ Below W.heap.size W w' from HDa.out ▸ implDecText_any a (by omega) (by omega) W ht))
    have HDT2 := Lib.hid (fun (W : World) (ht : Tab W) => (show Calls Tryz.prog 84 #[.int .i64 b] W fun e w' => e = .returned (.string ⟨Db.toArray⟩) ∧ Below W.heap.size W w' from HDb.out ▸ implDecText_any b (by omega) (by omega) W ht))
    have HDT3 := Lib.hid (fun (W : World) (ht : Tab W) => (show Calls Tryz.prog 84 #[.int .i64 c] W fun e w' => e = .returned (.string ⟨Dc.toArray⟩) ∧ Below W.heap.size W w' from HDc.out ▸ implDecText_any c (by omega) (by omega) W ht))
    go_wp2_with fail
    go_region_held3 (fun W' => W'.cell? ⟨w.heap.size, 0, none⟩ = some (.int .i64 a) ∧ W'.cell? ⟨w.heap.size, 1, none⟩ = some (.int .i64 b) ∧ W'.cell? ⟨w.heap.size, 2, none⟩ = some (.int .i64 c) ∧ Tab W') (first | exact ⟨p0, p1, p2, tb⟩ | assumption | exact keepT hb5 (by assumption) | exact keepT hb4 (by assumption) | exact keepT hb3 (by assumption)) ((first | (go_at_call 84; (with_reducible refine (HDT1.out _ (by exact tb)).mono ?_); rintro e w3 ⟨rfl, hb3⟩; have tb3 := tab_below tb hb3) | (go_at_call 84; (with_reducible refine (HDT2.out _ (by exact tb3)).mono ?_); rintro e w4 ⟨rfl, hb4⟩; have tb4 := tab_below tb3 hb4) | (go_at_call 84; (with_reducible refine (HDT3.out _ (by exact tb4)).mono ?_); rintro e w5 ⟨rfl, hb5⟩)))
    have hA5 := keepB (keepB (keepB (W := w2.drew) hA2 hb3) hb4) hb5
    have BD := B2.trans (below_drew w.heap.size w2)
    have B3 := BD.trans (hb3.mono BD.size)
    have B4 := B3.trans (hb4.mono B3.size)
    have B5 := B4.trans (hb5.mono B4.size)
    clear hA2 p0 p1 p2 p3 hb3 hb4 hb5 BD B3 B4 tb tb3 tb4 s1 s2 s3 s4 B2
    obtain ⟨p0, p1, p2, p3⟩ := cells4 hA5
    rcases hform with ⟨rfl, rfl⟩ | ⟨g, cap, rfl, hgb, hgl⟩
    · have HE : Hid (verText a b c [] = N4) := Lib.hid (by rw [HT.out, HNN.out]; simp [preText])
      go_wp2_with fail
      go_ret
      exact ⟨ret_str HE.out.symm, B5⟩
    · by_cases h0 : ls = []
      · have HE : Hid (verText a b c ls = N4) := Lib.hid (by rw [HT.out, HNN.out, h0]; simp [preText])
        have z0 : ¬ (0 : Int) < (ls.length : Int) := by rw [h0]; simp
        clear h0
        go_wp2_with fail
        go_ret
        exact ⟨ret_str HE.out.symm, B5⟩
      · have hpos : (0 : Int) < (ls.length : Int) := by have : 0 < ls.length := by cases ls <;> simp_all
                                                        omega
        have HE : Hid (verText a b c ls = N4 ++ (45 :: Lib.join ls [46])) := Lib.hid (by rw [HT.out, HNN.out, join_pre h0])
        have hjl := join_len HLE.out h5
        clear h0
        obtain ⟨J, HJ⟩ : ∃ J, Hid (Lib.join ls [46] = J) := ⟨_, Lib.hid rfl⟩
        rw [HJ.out] at hjl
        go_wp2_with fail
        refine (joinDot_any w5 base g cap ls (HSS.out _ B5) HLE.out h5).mono ?_
        rw [HJ.out]
        rintro e w6 ⟨rfl, hb6⟩
        have B6 := B5.trans (hb6.mono B5.size)
        go_wp2_with fail
        go_ret
        refine ⟨?_, B6⟩
        rw [HE.out, HJ.out]
        exact congrArg Ending.returned (congrArg Value.string (bytes_ext (by simp)))
end Go.Proofs.YtcfkhfbhmjfhdaaGreatDoor

/-
  impl.raised at the third number.
-/
namespace Go.Proofs.YtcfkhfbhmjfhdaaGreatDoor
open Go.RowKit

theorem strs_z (W : World) (n : Nat) (hn : W.heap.size = n) (x : List UInt8) : Strs (W.alloc (.cells #[.string ⟨x.toArray⟩] 9)) n (.slice (some ⟨n, 0, none⟩) 1 1) [x] := by
  subst hn
  have h := World.ownsRow_lit (base := W.heap.size) (e := 9) (size := 1) W #[.string ⟨x.toArray⟩] 1 (Nat.le_refl _) (by unfold maxLen; omega) (by simp)
  simpa [Strs, sv] using h
theorem sm_zz : Sm [[48]] := ⟨by simp, fun l h => by simp at h; subst h; simp⟩

theorem below_three (w : World) (o1 o2 o3 : Obj) : Below w.heap.size w (((w.alloc o1).alloc o2).alloc o3) := (((Below.refl _ _).alloc (Nat.le_refl _) _).alloc (by simp) _).alloc (by simp; omega) _
theorem clear_none (W : World) (A : Addr) : (Builtin.clear_ #[97] 0 #[.slice (some A) 0 0]).run Tryz.prog W = .ok (.tuple #[]) W := by
  simp [Builtin.clear_, run_underlying Tryz.underlying97]

set_option maxRecDepth 100000 in
set_option maxHeartbeats 4000000 in
theorem raised_any (a b c : Int) (A : Option Addr) (n cap : Nat) (w : World) (ht : Tab w) (hc : 0 ≤ c ∧ c ≤ 999999999) :
    Calls Tryz.prog 92 #[.agg #[.int .i64 a, .int .i64 b, .int .i64 c, .slice A n cap], .int .i64 2] w fun e w' => e = .returned (.string ⟨(verText a b (c + 1) [[48]]).toArray⟩) ∧ Below w.heap.size w w' := by
  have HT := Lib.hid (fun (v : Value) (q : Nat) (W : World) (h : Strs W q v [[48]]) (hb : Below w.heap.size w W) => implVersionText_any a b (c + 1) q v [[48]] W h sm_zz (tab_below ht hb))
  obtain ⟨t, HTT⟩ : ∃ t, Hid (verText a b (c + 1) [[48]] = t) := ⟨_, Lib.hid rfl⟩
  simp only [HTT.out] at HT
  rw [HTT.out]
  clear ht
  have cw : IntKind.i64.wrap (c + 1) = c + 1 := IntWalk.i64_in _ (by omega)
  have hcl := clear_none
  go_enter Tryz.func92, Tryz.ntmps92
  go_wp2_with fail
  refine (HT.out _ (w.heap.size + 1 + 1) _ (strs_z _ _ (by simp) [48]) (below_three _ _ _ _)).mono ?_
  rintro e w5 ⟨rfl, hb5⟩
  go_wp2_with fail
  go_ret
  exact ⟨rfl, (below_three _ _ _ _).trans (hb5.mono (by simp; omega))⟩
end Go.Proofs.YtcfkhfbhmjfhdaaGreatDoor

/-
  slices.Concat of two rows of texts.
-/
namespace Go.Proofs.YtcfkhfbhmjfhdaaGreatDoor
open Go.RowKit

set_option maxRecDepth 100000 in
set_option maxHeartbeats 4000000 in
theorem growNil_any (n : Nat) (w : World) (h0 : 0 < n) (hn : n ≤ 4194304) :
    Calls Tryz.prog 120 #[.slice none 0 0, .int .i64 (n : Int)] w fun e w' => ∃ v, e = .returned v ∧ Strs w' w.heap.size v [] ∧ Below w.heap.size w w' := by
  obtain ⟨i0, hi, hz0, hz1, hz2⟩ := info_parts strinfo
  have hr := fun ty => Lib.run_append_nil_zeros (P := Tryz.prog) w 22 3 ty 9 i0 (.string ⟨#[]⟩) .i64 .i64 Tryz.underlying22 Tryz.underlying3 hi hz0 n h0 (by omega) (by omega) (by rw [hz2]; omega)
  have hge := grownCap_ge w n 0 9
  have hle := grownCap_le_maxLen w n 0 9 (by unfold maxLen; omega)
  obtain ⟨G, hG⟩ : ∃ G, grownCap w n 0 9 = G := ⟨_, rfl⟩
  rw [hG] at hge hle
  simp only [hG] at hr
  have hsz : (Builtin.zeroCells (Value.string ⟨#[]⟩).cells n ++ Builtin.zeroCells (Value.string ⟨#[]⟩).cells (G - n)).size = G * 1 := by
    rw [Array.size_append, size_zeroCells, size_zeroCells]
    simp [Value.cells]
    omega
  obtain ⟨C, hC⟩ : ∃ C, Builtin.zeroCells (Value.string ⟨#[]⟩).cells n ++ Builtin.zeroCells (Value.string ⟨#[]⟩).cells (G - n) = C := ⟨_, rfl⟩
  rw [hC] at hsz
  simp only [hC] at hr
  have HO : Hid (Strs (w.drew.alloc (.cells C 9)) w.heap.size (.slice (some ⟨w.heap.size, 0, none⟩) 0 G) []) := Lib.hid (by
    have := World.ownsRow_made (base := w.heap.size) (e := 9) (size := 1) w.drew C G (by simp) hle hsz
    simpa [Strs] using this)
  have HB : Hid (Below w.heap.size w (w.drew.alloc (.cells C 9))) := Lib.hid ((below_drewN _ _ 1).alloc (by simp) _)
  clear hC hsz hG hi hz0 hz1 hz2
  have hm : G ≤ 9223372036854775807 := by unfold maxLen at hle; omega
  have g1 : ¬ ((n : Int) < 0) := by omega
  have g2 : (0 : Int) < (n : Int) := by omega
  have g3 : IntKind.i64.wrap ((n : Int) - 0) = n := by rw [Int.sub_zero]; exact IntWalk.i64_in _ (by omega)
  go_enter Tryz.func120, Tryz.ntmps120
  go_wp2_with (at_builtin; refine Lib.wpList_append_run _ rfl _ _ _ _ rfl _ _ rfl rfl _ _ (hr _) ?_)
  all_goals (go_ret; exact ⟨_, rfl, HO.out, HB.out⟩)

set_option maxRecDepth 100000 in
set_option maxHeartbeats 4000000 in
theorem concat2_any (q : Nat) (v1 v2 : Value) (l1 l2 : List (List UInt8)) (w : World) (e0 : w.cell? ⟨q, 0, none⟩ = some v1) (e1 : w.cell? ⟨q, 1, none⟩ = some v2) (h1 : RdS w v1 l1) (h2 : RdS w v2 l2) (n1 : l1.length ≤ 1048576) (n2 : l2.length ≤ 1048576) (n0 : 0 < l1.length + l2.length) :
    Calls Tryz.prog 93 #[.slice (some ⟨q, 0, none⟩) 2 2] w fun e w' => ∃ v, e = .returned v ∧ Strs w' w.heap.size v (l1 ++ l2) ∧ Below w.heap.size w w' := by
  have H1 := Lib.hid h1
  have H2 := Lib.hid h2
  have HG := Lib.hid (growNil_any (l1.length + l2.length) w n0 (by omega))
  simp only [Int.natCast_add] at HG
  obtain ⟨A1, c1, rfl, _⟩ := h1
  obtain ⟨A2, c2, rfl, _⟩ := h2
  have w1 : IntKind.i64.wrap (0 + (l1.length : Int)) = l1.length := by rw [Int.zero_add]; exact IntWalk.i64_in _ (by omega)
  have w2 : IntKind.i64.wrap ((l1.length : Int) + (l2.length : Int)) = (l1.length : Int) + (l2.length : Int) := IntWalk.i64_in _ (by omega)
  have s1 : ¬ ((l1.length : Int) < 0) := by omega
  have s2 : ¬ ((l1.length : Int) + (l2.length : Int) < 0) := by omega
  go_enter Tryz.func93, Tryz.ntmps93
  go_wp2_with fail
  go_loopw [3, 5, 11] (fun s _ i wr => w = wr ∧ ((i = .int .i64 0 ∧ s = .int .i64 0) ∨ (i = .int .i64 1 ∧ s = .int .i64 l1.length) ∨ (i = .int .i64 2 ∧ s = .int .i64 ((l1.length : Int) + (l2.length : Int))))) (fun _ _ i _ => 2 - (intOf i).toNat)
  case atStart => exact ⟨rfl, .inl ⟨rfl, rfl⟩⟩
  case round =>
    obtain ⟨rfl, ⟨rfl, rfl⟩ | ⟨rfl, rfl⟩ | ⟨rfl, rfl⟩⟩ := hrel
    · go_wp2_with fail
      go_roundw
      case rel => exact ⟨trivial, .inr (.inl ⟨rfl, rfl⟩)⟩
      case measure => simp [intOf]
    · go_wp2_with fail
      go_roundw
      case rel => exact ⟨trivial, .inr (.inr ⟨rfl, rfl⟩)⟩
      case measure => simp [intOf]
    · go_wp2_with fail
      refine HG.out.mono ?_
      rintro e w3 ⟨v, rfl, hS, hb⟩
      go_wp2_with fail
      go_loopw [6, 8, 27] (fun v _ i W => Below w.heap.size w W ∧ ((i = .int .i64 0 ∧ Strs W w.heap.size v []) ∨ (i = .int .i64 1 ∧ Strs W w.heap.size v l1) ∨ (i = .int .i64 2 ∧ Strs W w.heap.size v (l1 ++ l2)))) (fun _ _ i _ => 2 - (intOf i).toNat)
      case atStart => exact ⟨hb, .inl ⟨rfl, hS⟩⟩
      case round =>
        obtain ⟨hbw, hor⟩ := hrel
        have hsz := hbw.size
        have d0 := keepC hbw e0
        have d1 := keepC hbw e1
        have r1 := H1.out.below hbw
        have r2 := H2.out.below hbw
        obtain ⟨rfl, hT⟩ | ⟨rfl, hT⟩ | ⟨rfl, hT⟩ := hor
        · go_wp2_with (at_builtin; refine wpList_append_texts rfl _ _ rfl w.heap.size _ [] rfl hT _ l1 rfl r1 (by simp; omega) hsz ?_; intro v' w5 hS5 hg5)
          have B5 := hbw.grown hg5 hsz (fun g h => hT.owned g h)
          go_roundw
          case rel => exact ⟨B5, .inr (.inl ⟨rfl, hS5⟩)⟩
          case measure => simp [intOf]
        · go_wp2_with (at_builtin; refine wpList_append_texts rfl _ _ rfl w.heap.size _ l1 rfl hT _ l2 rfl r2 (by omega) hsz ?_; intro v' w5 hS5 hg5)
          have B5 := hbw.grown hg5 hsz (fun g h => hT.owned g h)
          go_roundw
          case rel => exact ⟨B5, .inr (.inr ⟨rfl, hS5⟩)⟩
          case measure => simp [intOf]
        · go_wp2_with fail
          go_ret
          exact ⟨_, rfl, hT, hbw⟩
end Go.Proofs.YtcfkhfbhmjfhdaaGreatDoor

/-
  impl.above: the version below which one is alone.
-/
namespace Go.Proofs.YtcfkhfbhmjfhdaaGreatDoor
open Go.RowKit

theorem set_grown (w : World) (g k : Nat) (x : Value) : w.grownBy (w.setCell ⟨g, k, none⟩ x) (some g) := ⟨rfl, rfl, rfl, by simp, fun j _ hj => heap_setCell_other w ⟨g, k, none⟩ j x (fun e => hj (by simp [e]))⟩
theorem two_cells {V : World} {B : Nat} {T : TypeId} {v0 v1 : Value} (h : V.heap[B]? = some (.cells #[v0, v1] T)) : V.cell? ⟨B, 0, none⟩ = some v0 ∧ V.cell? ⟨B, 1, none⟩ = some v1 := by simp [World.cell?, h]
/-- What impl.above hands back. -/
def abvL (a b c : Int) (ls : List (List UInt8)) : List UInt8 := if ls = [] then verText a b (c + 1) [[48]] else verText a b c (ls ++ [[48]])

set_option maxRecDepth 100000 in
set_option maxHeartbeats 4000000 in
theorem above_any (a b c : Int) (v : Value) (ls : List (List UInt8)) (w : World) (hr : RdS w v ls) (hv : verOk a b c ls = true) (ht : Tab w) :
    Calls Tryz.prog 67 #[.agg #[.int .i64 a, .int .i64 b, .int .i64 c, v]] w fun e w' => e = .returned (.string ⟨(abvL a b c ls).toArray⟩) ∧ Below w.heap.size w w' := by
  have hn := verOk_num hv
  have HLE := Lib.hid (verOk_len hv)
  have HR := Lib.hid hr
  obtain ⟨A, cap, rfl, _⟩ := hr
  by_cases hz : ls = []
  · subst hz
    have HX := Lib.hid (fun (W : World) (h : Below w.heap.size w W) => raised_any a b c A 0 cap W (tab_below ht h) (by omega))
    have HT : Hid (abvL a b c [] = verText a b (c + 1) [[48]]) := Lib.hid (if_pos rfl)
    rw [HT.out]
    clear ht HR hv hn HLE
    go_enter Tryz.func67, Tryz.ntmps67
    go_wp2_with fail
    refine (HX.out _ ((Below.refl _ _).alloc (Nat.le_refl _) _)).mono ?_
    rintro e w5 ⟨rfl, hb5⟩
    go_wp2_with fail
    go_ret
    exact ⟨rfl, ((Below.refl _ _).alloc (Nat.le_refl _) _).trans (hb5.mono (by simp))⟩
  · have HT : Hid (abvL a b c ls = verText a b c (ls ++ [[48]])) := Lib.hid (if_neg hz)
    rw [HT.out]
    have hpos : 0 < ls.length := List.length_pos_iff.2 hz
    have HV := Lib.hid (fun (u : Value) (q : Nat) (W : World) (h : Strs W q u (ls ++ [[48]])) (hb : Below w.heap.size w W) => implVersionText_any a b c q u (ls ++ [[48]]) W h ⟨by simp; omega, fun x hx => by
      rcases List.mem_append.1 hx with h' | h'
      · have := HLE.out x h'; omega
      · simp at h'; subst h'; simp⟩ (tab_below ht hb))
    obtain ⟨t, HTT⟩ : ∃ t, Hid (verText a b c (ls ++ [[48]]) = t) := ⟨_, Lib.hid rfl⟩
    simp only [HTT.out] at HV
    rw [HTT.out]
    have nz : ((ls.length : Int) == 0) = false := int_beq_false (by omega)
    have B3 := below_three w (.cells #[.int .i64 a, .int .i64 b, .int .i64 c, .slice A ls.length cap] 74) (.cells #[.string ⟨#[48]⟩] 9) (.cells #[.slice A ls.length cap, .slice (some ⟨w.heap.size + 1, 0, none⟩) 1 1] 22)
    have HC := Lib.hid (fun (W : World) (hb : Below w.heap.size w W) (v2 : Value) (e0 : W.cell? ⟨w.heap.size + 1 + 1, 0, none⟩ = some (.slice A ls.length cap)) (e1 : W.cell? ⟨w.heap.size + 1 + 1, 1, none⟩ = some v2) (h2 : RdS W v2 [[48]]) => concat2_any (w.heap.size + 1 + 1) _ v2 ls [[48]] W e0 e1 (HR.out.below hb) h2 (by omega) (by simp) (by simp))
    have hne : ls ++ [[48]] ≠ [] := by simp
    clear ht hz hv hn HLE HR HTT
    generalize ls ++ [[48]] = L at HV HC hne
    go_enter Tryz.func67, Tryz.ntmps67
    go_wp2_with fail
    refine (HC.out _ B3 (.slice (some ⟨w.heap.size + 1, 0, none⟩) 1 1) (two_cells (heap_new (by simp) _)).1 (two_cells (heap_new (by simp) _)).2 (rdS_alloc (RdS.of_strs (strs_z _ _ (by simp) [48])) _)).mono ?_
    rintro e w5 ⟨u, rfl, hS, hb5⟩
    have B5 := B3.trans (hb5.mono (by simp; omega))
    obtain ⟨g, cp, rfl, hbg, hlt⟩ : ∃ g cp, u = .slice (some ⟨g, 0, none⟩) L.length cp ∧ w.heap.size + 1 + 1 < g ∧ g < w5.heap.size := by
      rcases hS.form with ⟨_, h⟩ | ⟨g, cp, h1, h2, h3⟩
      · exact absurd h hne
      · exact ⟨g, cp, h1, by simp at h2; omega, h3⟩
    have n5 : w5.heap[w.heap.size]? = some (.cells #[.int .i64 a, .int .i64 b, .int .i64 c, .slice A ls.length cap] 74) := keepB (keepA (keepA (heap_alloc_new w _) _) _) hb5
    obtain ⟨q0, q1, q2, q3⟩ := cells4 n5
    have f3 := frozen4 n5 3
    have hs5 : w.heap.size < w5.heap.size := lt_of_heap n5
    have HS6 : Hid (Strs (w5.setCell ⟨w.heap.size, 3, none⟩ (.slice (some ⟨g, 0, none⟩) L.length cp)) _ (.slice (some ⟨g, 0, none⟩) L.length cp) L) := Lib.hid (World.ownsRow.kept hS (set_grown w5 w.heap.size 3 _) (by right; simp [Value.ownBlock]; omega))
    have B6 := B5.setCell (p := ⟨w.heap.size, 3, none⟩) (Nat.le_refl _) (.slice (some ⟨g, 0, none⟩) L.length cp)
    clear hS hb5 B5
    go_wp2_with fail
    refine (HV.out _ _ _ HS6.out B6).mono ?_
    rintro e w7 ⟨rfl, hb7⟩
    go_wp2_with fail
    go_ret
    exact ⟨rfl, B6.trans (hb7.mono (by simp; omega))⟩
end Go.Proofs.YtcfkhfbhmjfhdaaGreatDoor

/-
  strings.Cut at a dash.
-/
namespace Go.Proofs.YtcfkhfbhmjfhdaaGreatDoor
open Go.RowKit

set_option maxRecDepth 100000 in
set_option maxHeartbeats 1000000 in
theorem sliteIndex_dash (s : ByteArray) (w : World) (_hs : s.size ≤ 1048576) :
    Calls Tryz.prog 122 #[.string s, .string ⟨#[45]⟩] w fun e w' => e = .returned (.int .i64 (dash s.data.toList)) ∧ w = w' := by
  by_cases he : s.data.toList = [45]
  · have e1 : ([45] == s.toList) = true := by rw [ByteArray.toList_eq, he]; rfl
    have HD : Hid (dash s.data.toList = 0) := Lib.hid (by rw [he]; rfl)
    clear he
    go_enter Tryz.func122, Tryz.ntmps122
    go_wp2_with fail
    go_ret
    exact ⟨ret_int HD.out.symm, rfl⟩
  · have e1 : ([45] == s.toList) = false := by rw [ByteArray.toList_eq]; simp; exact fun h => he h.symm
    clear he
    go_enter Tryz.func122, Tryz.ntmps122
    go_wp2_with fail
    refine (sliteIndexByte_any s 45 _).mono ?_
    rintro e w' ⟨rfl, rfl⟩
    rw [show Lib.indexByte s.data.toList (Int.toNat 45).toUInt8 = dash s.data.toList from rfl]
    go_wp2_with fail
    go_ret
    exact ⟨rfl, rfl⟩

set_option maxRecDepth 100000 in
set_option maxHeartbeats 1000000 in
theorem cutDash_yes (s : ByteArray) (w : World) (hs : s.size ≤ 1048576) (k : Nat) (hk : k < s.size) (hd : dash s.data.toList = (k : Int)) :
    Calls Tryz.prog 75 #[.string s, .string ⟨#[45]⟩] w fun e w' => e = .returned (.tuple #[.string ⟨(s.data.toList.take k).toArray⟩, .string ⟨(s.data.toList.drop (k + 1)).toArray⟩, .bool true]) ∧ ∃ n, w' = w.drewN n := by
  have HI := Lib.hid (sliteIndex_dash s w hs)
  have HD := Lib.hid hd
  clear hd
  have e1 := slice_to s _ k (k : Int) rfl (by omega) (piece s 0 k)
  have e2 := slice_from s _ (k + 1) ((k : Int) + 1) (by omega) (by omega) (piece_end s (k + 1))
  have hC : Calls Tryz.prog 98 #[.string s, .string ⟨#[45]⟩] w fun e w' => e = .returned (.tuple #[.string ⟨(s.data.toList.take k).toArray⟩, .string ⟨(s.data.toList.drop (k + 1)).toArray⟩, .bool true]) ∧ ∃ n, w' = w.drewN n := by
    go_enter Tryz.func98, Tryz.ntmps98
    go_wp2_with fail
    refine HI.out.mono ?_
    rw [HD.out]
    rintro e w' ⟨rfl, rfl⟩
    have x1 : IntKind.i64.wrap ((k : Int) + 1) = (k : Int) + 1 := IntWalk.i64_in _ (by omega)
    have x2 : (0 : Int) ≤ (k : Int) := by omega
    go_wp2_with fail
    go_quiet (fail)
    go_wp2_with fail
    go_ret3
    exact ⟨rfl, _, rfl⟩
  have HC := Lib.hid hC
  clear hC e1 e2 HI
  go_enter Tryz.func75, Tryz.ntmps75
  go_wp2_with fail
  refine HC.out.mono ?_
  rintro e w' ⟨rfl, n, rfl⟩
  go_wp2_with fail
  go_ret3
  exact ⟨rfl, _, rfl⟩

set_option maxRecDepth 100000 in
set_option maxHeartbeats 1000000 in
theorem cutDash_no (s : ByteArray) (w : World) (hs : s.size ≤ 1048576) (d : Int) (hn : ¬ 0 ≤ d) (hd : dash s.data.toList = d) :
    Calls Tryz.prog 75 #[.string s, .string ⟨#[45]⟩] w fun e w' => e = .returned (.tuple #[.string s, .string ⟨#[]⟩, .bool false]) ∧ w = w' := by
  have HI := Lib.hid (sliteIndex_dash s w hs)
  have HD := Lib.hid hd
  clear hd
  have hC : Calls Tryz.prog 98 #[.string s, .string ⟨#[45]⟩] w fun e w' => e = .returned (.tuple #[.string s, .string ⟨#[]⟩, .bool false]) ∧ w = w' := by
    go_enter Tryz.func98, Tryz.ntmps98
    go_wp2_with fail
    refine HI.out.mono ?_
    rw [HD.out]
    rintro e w' ⟨rfl, rfl⟩
    go_wp2_with fail
    go_ret3
    exact ⟨rfl, rfl⟩
  have HC := Lib.hid hC
  clear hC HI
  go_enter Tryz.func75, Tryz.ntmps75
  go_wp2_with fail
  refine HC.out.mono ?_
  rintro e w' ⟨rfl, rfl⟩
  go_wp2_with fail
  go_ret3
  exact ⟨rfl, rfl⟩
end Go.Proofs.YtcfkhfbhmjfhdaaGreatDoor

/-
  Two boxes that an iterator reads lie as they lay.
-/
namespace Go.Proofs.YtcfkhfbhmjfhdaaGreatDoor
open Go.RowKit Go.Shelf

/-- The two boxes that the iterator reads lie as they lay. -/
def KpB (Bs Bm : Nat) (A B : World) : Prop := B.heap[Bs]? = A.heap[Bs]? ∧ B.heap[Bm]? = A.heap[Bm]?
theorem KpB.refl (Bs Bm : Nat) (A : World) : KpB Bs Bm A A := ⟨rfl, rfl⟩
theorem kpB_t {Bs Bm : Nat} {A B C : World} (h : KpB Bs Bm A B) (k : KpB Bs Bm B C) : KpB Bs Bm A C := ⟨k.1.trans h.1, k.2.trans h.2⟩
theorem KpB.of_grown {Bs Bm : Nat} {A B : World} {row : Option Nat} (hg : A.grownBy B row) (h1 : Bs < A.heap.size) (h2 : Bm < A.heap.size) (n1 : some Bs ≠ row) (n2 : some Bm ≠ row) : KpB Bs Bm A B := ⟨hg.block Bs h1 n1, hg.block Bm h2 n2⟩
theorem KpB.of_below {Bs Bm n : Nat} {A B : World} (h : Below n A B) (h1 : Bs < n) (h2 : Bm < n) : KpB Bs Bm A B := ⟨h.block Bs h1, h.block Bm h2⟩
theorem kpB_b {Bs Bm : Nat} {w : World} (h1 : Bs < w.heap.size) (h2 : Bm < w.heap.size) (W : World) (l : Nat) (o o' : Obj) (hl : w.heap.size ≤ l) (h : W.heap[l]? = some o) (_ : o.isCells = false) (_ : o.isWalk = false) : KpB Bs Bm W (W.putObj l o') := by
  have hlt := (Array.getElem?_eq_some_iff.1 h).1
  exact KpB.of_grown (grownBy_putObj' W l o') (by omega) (by omega) (fun e => by cases e; omega) (fun e => by cases e; omega)

theorem grown_drewN (W : World) (n : Nat) : W.grownBy (W.drewN n) none := ⟨rfl, rfl, rfl, Nat.le_refl _, fun _ _ _ => rfl⟩
end Go.Proofs.YtcfkhfbhmjfhdaaGreatDoor

/-
  impl.partsOf hands back an iterator that yields the parts of a text between a byte.
-/
namespace Go.Proofs.YtcfkhfbhmjfhdaaGreatDoor
open Go.RowKit Go.Shelf
attribute [local go_sem] Oper.semAt_some

/-- A part: a text that is not too long. -/
abbrev Part := { x : List UInt8 // x.length ≤ 1048576 }
def partV (x : Part) : Array Value := #[.string ⟨x.1.toArray⟩]
set_option maxHeartbeats 1000000 in
theorem partsOf_in (n : Nat) (s : ByteArray) (m : Int) (w : World) :
    CallsIn Fence.wide n Tryz.prog 64 #[.string s, .int .u8 m] w fun e w' => e = .returned (.func (.func 89) #[] #[.pointer (some ⟨w.heap.size, 0, none⟩), .pointer (some ⟨w.heap.size + 1, 0, none⟩)]) ∧ w' = (w.alloc (.cells #[.string s] 9)).alloc (.cells #[.int .u8 m] 5) := by
  refine callsIn_of_wp Tryz.func64 rfl trivial ?_ rfl
  simp only [Tryz.ntmps64, List.size_toArray, List.length_cons, List.length_nil, Nat.reduceAdd, Nat.reduceSub, Array.replicate_succ, Array.replicate_zero, List.push_toArray, List.append_toArray, List.nil_append, List.cons_append]
  gi_wp2
  go_ret
  exact ⟨rfl, rfl⟩


set_option maxRecDepth 100000 in
set_option maxHeartbeats 2000000 in
theorem parts1_in (n : Nat) (hn : 1 ≤ n) (l Bs Bm : Nat) (s : ByteArray) (m : UInt8) (hs : s.size ≤ 1048576) (J Jx : List Part → World → Prop)
    (hY : ∀ pre x W, J pre W → pre.length < s.size + 1 → YieldAt Fence.wide (n - 1) Tryz.prog l (partV x) W fun e W' =>
      (e = .returned (.bool true) ∧ J (pre ++ [x]) W' ∧ KpB Bs Bm W W') ∨ (e = .returned (.bool false) ∧ Jx (pre ++ [x]) W'))
    (W : World) (hBs : W.heap[Bs]? = some (.cells #[.string s] 9 (0, 0))) (hBm : W.heap[Bm]? = some (.cells #[.int .u8 (m.toNat : Int)] 5 (0, 0))) (h0 : J [] W) (hJa : AbidesFrom W.heap.size J) :
    CallsIn Fence.wide n Tryz.prog 89 #[.func (.yield l) #[] #[], .pointer (some ⟨Bs, 0, none⟩), .pointer (some ⟨Bm, 0, none⟩)] W fun e W' => (∃ v, e = .returned v) ∧
      ((∃ ys, ys.map Subtype.val = cutL m s.data.toList ∧ J ys W') ∨ (∃ pre, pre.map Subtype.val <+: cutL m s.data.toList ∧ Jx pre W')) := by
  have hc1 : W.cell? ⟨Bs, 0, none⟩ = some (.string s) := by simp [World.cell?, hBs]
  refine callsIn_of_wp Tryz.func89 rfl trivial ?_ rfl
  simp only [Tryz.ntmps89, List.size_toArray, List.length_cons, List.length_nil, Nat.reduceAdd, Nat.reduceSub, Array.replicate_succ, Array.replicate_zero, List.push_toArray, List.append_toArray, List.nil_append, List.cons_append]
  gi_wp2
  gi_loopw [4, 5, 8] (fun f _ i wr => ∃ (k st : Nat) (pre : List Part), k ≤ s.size ∧ i = .int .i64 k ∧ f = .int .i64 st ∧ CutAt m s.data.toList k st (pre.map Subtype.val) ∧ wr.heap[Bs]? = some (.cells #[.string s] 9 (0, 0)) ∧ wr.heap[Bm]? = some (.cells #[.int .u8 (m.toNat : Int)] 5 (0, 0)) ∧ J pre wr) (fun _ _ i _ => s.size - (intOf i).toNat)
  case atStart => exact ⟨0, 0, [], Nat.zero_le _, rfl, rfl, cutAt_zero _ _, hBs, hBm, h0⟩
  case round =>
    obtain ⟨k, st, pre, hk, rfl, rfl, HP, g1, g2, hJ⟩ := hrel
    have hst := HP.2.1
    have hdl := HP.2.2
    have d1 : wr.cell? ⟨Bs, 0, none⟩ = some (.string s) := by simp [World.cell?, g1]
    have d2 : wr.cell? ⟨Bm, 0, none⟩ = some (.int .u8 (m.toNat : Int)) := by simp [World.cell?, g2]
    by_cases hlt : k < s.size
    · have k0 : (0 : Int) ≤ (k : Int) := by omega
      have k1 : (k : Int) < (s.size : Int) := by omega
      gi_wp2
      gi_quiet (fail)
      have hJ2 : J pre (wr.drewN nq) := hJa pre wr _ none hJ (grown_drewN wr nq) (fun r e => by cases e)
      have g1' : (wr.drewN nq).heap[Bs]? = some (.cells #[.string s] 9 (0, 0)) := g1
      have g2' : (wr.drewN nq).heap[Bm]? = some (.cells #[.int .u8 (m.toNat : Int)] 5 (0, 0)) := g2
      have d1' : (wr.drewN nq).cell? ⟨Bs, 0, none⟩ = some (.string s) := d1
      generalize wr.drewN nq = wq at hJ2 g1' g2' d1' ⊢
      clear d1 d2 g1 g2 hJ
      by_cases hc : s[k] = m
      · have hb1 : ((s[k].toNat : Int) != (m.toNat : Int)) = false := by rw [hc]; simp
        have HN := Lib.hid (cutAt_mark HP hlt hc)
        have he := slice_str s _ st k (st : Int) (k : Int) rfl rfl (by omega) (by omega) (piece s st k)
        obtain ⟨x, hx⟩ : ∃ x : Part, x.1 = (s.data.toList.take k).drop st := ⟨⟨(s.data.toList.take k).drop st, by simp; omega⟩, rfl⟩
        rw [← hx] at he
        have HX := Lib.hid hx
        have hyy := hY pre x wq hJ2 (by have := hdl; simp at this; omega)
        unfold partV at hyy
        obtain ⟨fn, tmps, assign, body, hy, hR⟩ := hyy
        have HPRE : Hid ((pre ++ [x]).map Subtype.val <+: cutL m s.data.toList) := Lib.hid (by rw [HN.out.1, List.map_append, ← HX.out]; exact List.prefix_append _ _)
        have HR := Lib.hid hR
        clear HP hc hx hdl hR
        gi_wp2
        refine HR.out.mono ?_
        rintro e W3 (⟨rfl, hJ3, hk3⟩ | ⟨rfl, hJx3⟩)
        · gi_wp2
          go_roundw
          case rel => exact ⟨k + 1, k + 1, pre ++ [x], by omega, by go_num, by go_num, by rw [List.map_append]; have := HN.out; rw [← HX.out] at this; exact this, hk3.1.trans g1', hk3.2.trans g2', hJ3⟩
          case measure => simp [intOf]; omega
        · gi_wp2
          refine bodyPost_ret (results_none rfl _ _ _) rfl ?_
          exact ⟨⟨_, rfl⟩, .inr ⟨pre ++ [x], HPRE.out, hJx3⟩⟩
      · have hb1 : ((s[k].toNat : Int) != (m.toNat : Int)) = true := int_bne_true (fun h => hc (UInt8.toNat_inj.1 (by omega)))
        have HN := Lib.hid (cutAt_pass HP hlt hc)
        clear HP hc
        gi_wp2
        go_roundw
        case rel => exact ⟨k + 1, st, pre, by omega, by go_num, rfl, HN.out, g1', g2', hJ2⟩
        case measure => simp [intOf]; omega
    · have HN := Lib.hid (cutAt_end HP hlt)
      have he := slice_from s _ st (st : Int) rfl (by omega) (piece_end s st)
      obtain ⟨x, hx⟩ : ∃ x : Part, x.1 = s.data.toList.drop st := ⟨⟨s.data.toList.drop st, by simp; omega⟩, rfl⟩
      rw [← hx] at he
      have HX := Lib.hid hx
      have hyy := hY pre x wr hJ (by have := hdl; simp at this; omega)
      unfold partV at hyy
      obtain ⟨fn, tmps, assign, body, hy, hR⟩ := hyy
      have HALL : Hid ((pre ++ [x]).map Subtype.val = cutL m s.data.toList) := Lib.hid (by rw [HN.out, List.map_append, ← HX.out]; rfl)
      have HR := Lib.hid hR
      clear HP hx hdl hR
      gi_wp2
      refine HR.out.mono ?_
      rintro e W3 (⟨rfl, hJ3, hk3⟩ | ⟨rfl, hJx3⟩)
      · gi_wp2
        go_end0
        exact ⟨⟨_, rfl⟩, .inl ⟨pre ++ [x], HALL.out, hJ3⟩⟩
      · gi_wp2
        go_end0
        exact ⟨⟨_, rfl⟩, .inr ⟨pre ++ [x], by rw [HALL.out]; exact List.prefix_rfl, hJx3⟩⟩

/-- The iterator's contract, for a caller. -/
theorem parts_stops (n : Nat) (hn : 1 ≤ n) (Bs Bm : Nat) (s : ByteArray) (m : UInt8) (hs : s.size ≤ 1048576) (w : World) (h1 : Bs < w.heap.size) (h2 : Bm < w.heap.size)
    (hBs : w.heap[Bs]? = some (.cells #[.string s] 9 (0, 0))) (hBm : w.heap[Bm]? = some (.cells #[.int .u8 (m.toNat : Int)] 5 (0, 0))) :
    SeqStopsK Fence.wide n Tryz.prog 89 #[.pointer (some ⟨Bs, 0, none⟩), .pointer (some ⟨Bm, 0, none⟩)] partV (KpB Bs Bm) (fun ys => ys.map Subtype.val = cutL m s.data.toList) (fun pre => pre.map Subtype.val <+: cutL m s.data.toList) (s.size + 1) w := fun l J Jx W hW hJ _ hY h0 =>
  parts1_in n hn l Bs Bm s m hs J Jx hY W ((hW.block Bs h1).trans hBs) ((hW.block Bm h2).trans hBm) h0 hJ
end Go.Proofs.YtcfkhfbhmjfhdaaGreatDoor

/-
  strings.Clone, as the library lays it, at this seat.
-/
namespace Go.Proofs
open Go.Shelf
def Tryz.lays316_ren : Go.Shelf.Ren := ⟨fun | 316 => 123 | n => n, fun | 9 => 9 | 3 => 3 | 4 => 4 | 37 => 72 | 0 => 0 | 127 => 156 | 5 => 5 | n => n, fun | n => n⟩
theorem Tryz.lays316 : Go.Proofs.LaysM.n316 Tryz.prog Tryz.lays316_ren := {
  mixed := by kernel_rfl
  f316 := Tryz.func123.trans (congrArg some (by kernel_rfl))
  t0 := Tryz.underlying0
  a0 := Tryz.isAgg0
  z0 := Tryz.sizeOf0
  v0 := Tryz.zeroValue0
  t3 := Tryz.underlying3
  a3 := Tryz.isAgg3
  z3 := Tryz.sizeOf3
  v3 := Tryz.zeroValue3
  t4 := Tryz.underlying4
  a4 := Tryz.isAgg4
  z4 := Tryz.sizeOf4
  v4 := Tryz.zeroValue4
  t9 := Tryz.underlying9
  a9 := Tryz.isAgg9
  z9 := Tryz.sizeOf9
  v9 := Tryz.zeroValue9
  t37 := Tryz.underlying72
  a37 := Tryz.isAgg72
  z37 := Tryz.sizeOf72
  v37 := Tryz.zeroValue72
  t127 := Tryz.underlying156
  a127 := Tryz.isAgg156
  z127 := Tryz.sizeOf156
  v127 := Tryz.zeroValue156
  t5 := Tryz.underlying5
  a5 := Tryz.isAgg5
  z5 := Tryz.sizeOf5
  v5 := Tryz.zeroValue5
  i0 := by kernel_rfl
  i3 := by kernel_rfl
  i4 := by kernel_rfl
  i5 := by kernel_rfl
  i9 := by kernel_rfl
  i37 := by kernel_rfl
  i127 := by kernel_rfl }
end Go.Proofs

/-
  strings.Clone returns the same bytes.
-/
namespace Go.Proofs
open Go.Shelf
namespace YtcfkhfbhmjfhdaaGreatDoor
open Go.RowKit
theorem slClone_any (s : ByteArray) (w : World) (hs : s.size ≤ 1048576) :
    Calls Tryz.prog 123 #[.string s] w fun e w' => e = .returned (.string s) ∧ Below w.heap.size w w' := Any.stringslite_Clone Tryz.lays316 s w (by omega)
theorem clone_any (s : ByteArray) (w : World) (hs : s.size ≤ 1048576) :
    Calls Tryz.prog 99 #[.string s] w fun e w' => e = .returned (.string s) ∧ Below w.heap.size w w' := by
  go_enter Tryz.func99, Tryz.ntmps99
  go_wp2_with (go_at_call 123; refine (slClone_any _ _ hs).mono ?_; rintro e w' ⟨rfl, hb⟩)
  go_ret
  exact ⟨rfl, hb⟩
end YtcfkhfbhmjfhdaaGreatDoor
end Go.Proofs

/-
  impl.splitAt returns the parts of a text between a byte.
-/
namespace Go.Proofs.YtcfkhfbhmjfhdaaGreatDoor
open Go.RowKit Go.Shelf
attribute [local go_sem] Oper.semAt_some

/-- What splitAt has in its box: the parts so far. -/
def SpJ (w : World) (ls : List (List UInt8)) (W : World) : Prop :=
  w.heap.size + 4 ≤ W.heap.size ∧ ∃ v, Boxed W (w.heap.size + 1) 22 v ∧ Strs W w.heap.size v ls ∧ (∀ g, v.ownBlock = some g → g ≠ w.heap.size + 1 ∧ g ≠ w.heap.size + 2 ∧ g ≠ w.heap.size + 3)
theorem spJ_own (w : World) (B : Nat) : OwnFrom B (fun (pre : List Part) W => SpJ w (pre.map Subtype.val) W) := by
  rintro pre W W' row ⟨h4, v, hB, hS, hne⟩ hg hr
  refine ⟨Nat.le_trans h4 hg.size, v, hB.kept hg (fun e => ?_), World.ownsRow.kept hS hg ?_, hne⟩
  · obtain ⟨_, o, ho, hc⟩ := hr _ e.symm
    rw [show W.heap[_]? = _ from hB] at ho; cases ho; cases hc
  · rcases hS.2 with ⟨rfl, _⟩ | ⟨g, cap, cur, rfl, _, hh, _⟩
    · left; rfl
    · right
      intro e
      obtain ⟨_, o, ho, hc⟩ := hr g (by simpa [Value.ownBlock] using e.symm)
      rw [hh] at ho; cases ho; cases hc

theorem spl_end (w W w1 w3 : World) (v : Value) (ls : List (List UInt8)) (x : List UInt8) (o : Obj) (g cap : Nat) (h4 : w.heap.size + 4 ≤ W.heap.size) (hR : Boxed W (w.heap.size + 1) 22 v) (hS : Strs W w.heap.size v ls)
    (hne : ∀ g, v.ownBlock = some g → g ≠ w.heap.size + 1 ∧ g ≠ w.heap.size + 2 ∧ g ≠ w.heap.size + 3) (hB : Below w.heap.size w W) (hb1 : Below W.drew.heap.size W.drew w1) (hg3 : (w1.alloc o).grownBy w3 v.ownBlock)
    (hS3 : Strs w3 w.heap.size (.slice (some ⟨g, 0, none⟩) (ls.length + 1) cap) (ls ++ [x])) (hg4 : v.ownBlock = some g ∨ g = (w1.alloc o).heap.size) :
    Boxed w3 (w.heap.size + 1) 22 v ∧ KeepsOthers W (w3.setCell ⟨w.heap.size + 1, 0, none⟩ (.slice (some ⟨g, 0, none⟩) (ls.length + 1) cap)) ∧ KpB (w.heap.size + 1 + 1) (w.heap.size + 1 + 1 + 1) W (w3.setCell ⟨w.heap.size + 1, 0, none⟩ (.slice (some ⟨g, 0, none⟩) (ls.length + 1) cap)) ∧
      SpJ w (ls ++ [x]) (w3.setCell ⟨w.heap.size + 1, 0, none⟩ (.slice (some ⟨g, 0, none⟩) (ls.length + 1) cap)) ∧ Below w.heap.size w (w3.setCell ⟨w.heap.size + 1, 0, none⟩ (.slice (some ⟨g, 0, none⟩) (ls.length + 1) cap)) := by
  have hs1 : W.heap.size ≤ w1.heap.size := hb1.size
  have hs3 : w1.heap.size + 1 ≤ w3.heap.size := by have := hg3.size; simpa using this
  have hgne : g ≠ w.heap.size + 1 ∧ g ≠ w.heap.size + 2 ∧ g ≠ w.heap.size + 3 := by
    rcases hg4 with h | h
    · exact hne g h
    · simp at h; omega
  have hG : W.grownBy w3 v.ownBlock := ⟨hg3.os.trans hb1.os, hg3.tape.trans hb1.tape, hg3.output.trans hb1.output, by omega, fun k hk hkn =>
    (hg3.block k (by simp; omega) hkn).trans ((Below.heap_alloc _ _ _ (by omega)).trans (hb1.block k hk))⟩
  have hR3 : Boxed w3 (w.heap.size + 1) 22 v := hR.kept hG (fun e => (hne _ e.symm).1 rfl)
  have hK : KeepsOthers W w3 := KeepsOthers.of_grownBy hG (fun j o' ej hj => by
    rcases hS.2 with ⟨rfl, _⟩ | ⟨g', cap', cur, rfl, _, hh, _⟩
    · simp [Value.ownBlock] at ej
    · simp [Value.ownBlock] at ej
      subst ej
      rw [hh] at hj; cases hj; rfl)
  have hBel : Below w.heap.size w w3 := hB.grown hG (by omega) hS.owned
  have k1 : w3.heap[w.heap.size + 1 + 1]? = W.heap[w.heap.size + 1 + 1]? := hG.block _ (by omega) (fun e => (hne _ e.symm).2.1 (by omega))
  have k2 : w3.heap[w.heap.size + 1 + 1 + 1]? = W.heap[w.heap.size + 1 + 1 + 1]? := hG.block _ (by omega) (fun e => (hne _ e.symm).2.2 (by omega))
  refine ⟨hR3, hK.trans (KeepsOthers.setCell _ _ _), ⟨(Below.heap_setCell _ _ _ _ (by simp)).trans k1, (Below.heap_setCell _ _ _ _ (by simp; omega)).trans k2⟩, ⟨by simp; omega, _, hR3.set _, ?_, ?_⟩, hBel.setCell (p := ⟨w.heap.size + 1, 0, none⟩) (by simp) _⟩
  · exact World.ownsRow.kept hS3 (grownBy_setCell' w3 (w.heap.size + 1) _) (by right; simp [Value.ownBlock]; omega)
  · intro g' hg'
    simp [Value.ownBlock] at hg'
    subst hg'
    exact hgne

theorem step_append_in {F : Fence} {n : Nat} {w : World} {ops : Array Oper} {o : Oper} {a : Act} {K : Act → World → Prop} {Q : Exit → Act → World → Prop} {E : Prop} (hgd : o.guard = none) (s x : Operand)
    (ho : o.op = .call { callee := .builtin .append, args := #[s, x], argTypes := #[22, 22] })
    (base : Nat) (v : Value) (l : List (List UInt8)) (hs : a.eval s = v) (hown : Strs w base v l) (y : List UInt8) (B c : Nat) (t : TypeId) (fr : Nat × Nat)
    (hx : a.eval x = .slice (some ⟨B, 0, none⟩) 1 c) (hblk : w.heap[B]? = some (.cells #[sv y] t fr)) (hlen : l.length + 1 ≤ 16777216) (hbase : base ≤ w.heap.size)
    (h : ∀ g cap w', Strs w' base (.slice (some ⟨g, 0, none⟩) (l.length + 1) cap) (l ++ [y]) → w.grownBy w' v.ownBlock → (v.ownBlock = some g ∨ g = w.heap.size) → K (a.put o.dst (.slice (some ⟨g, 0, none⟩) (l.length + 1) cap)) w') :
    if Region.wanted o (yielded ops a.tmps) = true then Oper.wpIn F n Tryz.prog o a w K Q else E := by
  have hw : Region.wanted o (yielded ops a.tmps) = true := by simp [Region.wanted, hgd]
  rw [if_pos hw]
  obtain ⟨g, cap, w', hr, h2, h3, h4⟩ := run_append_strs w o.type base v l hown y B c t fr hblk hlen hbase
  refine ⟨?_, ?_⟩
  · intro f hf
    simp [Oper.about, ho, resolve, Target.leads, go_sem] at hf
  · rw [Oper.semAt_eq _ _ _ (by intro c hc; rw [ho] at hc; cases hc)]
    unfold execOp
    simp only [ho, resolve, invoke, builtin, Sem.run_bind, Sem.run_pure, Result.andThen_ok, List.map_toArray, List.map_cons, List.map_nil, hs, hx, hr]
    exact h g cap w' h2 h3 h4

set_option maxRecDepth 100000 in
set_option maxHeartbeats 4000000 in
theorem splitAt_in (n : Nat) (hn : 4 ≤ n) (s : ByteArray) (m : UInt8) (w : World) (hs : s.size ≤ 1048576) :
    CallsIn Fence.wide n Tryz.prog 76 #[.string s, .int .u8 (m.toNat : Int)] w fun e W' => ∃ g cap, e = .returned (.slice (some ⟨g, 0, none⟩) (cutL m s.data.toList).length cap) ∧ Strs W' w.heap.size (.slice (some ⟨g, 0, none⟩) (cutL m s.data.toList).length cap) (cutL m s.data.toList) ∧ Below w.heap.size w W' := by
  have h1 : 1 ≤ n := by omega
  have hn2 : 1 ≤ n - 1 - 1 := by omega
  refine callsIn_of_wp_marks Tryz.func76 rfl trivial ?_ rfl
  simp only [Tryz.ntmps76, List.size_toArray, List.length_cons, List.length_nil, Nat.reduceAdd, Nat.reduceSub, Array.replicate_succ, Array.replicate_zero, List.push_toArray, List.append_toArray, List.nil_append, List.cons_append]
  gi_wp2_with (refine ⟨trivial, ?_⟩; gi_at_call 64; refine (partsOf_in _ _ _ _).mono ?_; rintro e w' ⟨rfl, rfl⟩)
  have b1 := Boxed.new (w.alloc (.cells #[] 9)) 22 (.slice (some ⟨w.heap.size, 0, none⟩) 0 0)
  have b3 := Boxed.new ((w.alloc (.cells #[] 9)).alloc (.cells #[.slice (some ⟨w.heap.size, 0, none⟩) 0 0] 22)) 9 (.string s)
  have b4 := Boxed.new (((w.alloc (.cells #[] 9)).alloc (.cells #[.slice (some ⟨w.heap.size, 0, none⟩) 0 0] 22)).alloc (.cells #[.string s] 9)) 5 (.int .u8 (m.toNat : Int))
  simp only [World.size_alloc] at b1 b3 b4
  have hB0 : Below w.heap.size w ((((w.alloc (.cells #[] 9)).alloc (.cells #[.slice (some ⟨w.heap.size, 0, none⟩) 0 0] 22)).alloc (.cells #[.string s] 9)).alloc (.cells #[.int .u8 (m.toNat : Int)] 5)) := ((((Below.refl _ w).alloc (Nat.le_refl _) _).alloc (by simp) _).alloc (by simp; omega) _).alloc (by simp; omega) _
  have b1' := (b1.alloc (.cells #[.string s] 9)).alloc (.cells #[.int .u8 (m.toNat : Int)] 5)
  have b3' := b3.alloc (.cells #[.int .u8 (m.toNat : Int)] 5)
  have hS0 := (((Strs.empty w w.heap.size (Nat.le_refl _)).alloc (.cells #[.slice (some ⟨w.heap.size, 0, none⟩) 0 0] 22)).alloc (.cells #[.string s] 9)).alloc (.cells #[.int .u8 (m.toNat : Int)] 5)
  clear b1 b3
  obtain ⟨W0, hW0⟩ : ∃ W0, ((((w.alloc (.cells #[] 9)).alloc (.cells #[.slice (some ⟨w.heap.size, 0, none⟩) 0 0] 22)).alloc (.cells #[.string s] 9)).alloc (.cells #[.int .u8 (m.toNat : Int)] 5)) = W0 := ⟨_, rfl⟩
  have hsz : W0.heap.size = w.heap.size + 4 := by rw [← hW0]; simp
  rw [hW0] at b1' b3' b4 hS0 hB0 ⊢
  clear hW0
  have HSZ := Lib.hid hsz
  clear hsz
  refine wpIn_rangeFunc_ownF rfl h1 (gf := 89) (lb := #[.pointer (some ⟨w.heap.size + 1 + 1, 0, none⟩), .pointer (some ⟨w.heap.size + 1 + 1 + 1, 0, none⟩)]) rfl trivial (enters_of Tryz.func89 (by kernel_rfl) rfl)
    (parts_stops (n - 1) (by omega) (w.heap.size + 1 + 1) (w.heap.size + 1 + 1 + 1) s m hs W0 (by rw [HSZ.out]; omega) (by rw [HSZ.out]; omega) b3' b4) kpB_t (kpB_b (by rw [HSZ.out]; omega) (by rw [HSZ.out]; omega)) (Below.refl _ _) (fun _ => rfl)
    (fun pre W => SpJ w (pre.map Subtype.val) W ∧ Below w.heap.size w W)
    (fun c pre W => False)
    (OwnFrom.and (spJ_own w _) (ownFrom_below (Nat.le_refl _) (by rw [HSZ.out]; omega)))
    (fun c => ownFrom_pure _ _)
    ⟨⟨by rw [HSZ.out]; exact Nat.le_refl _, _, b1', hS0, fun g hg => by simp [Value.ownBlock] at hg; omega⟩, hB0⟩
    (fun x => { tmps := #[.string s, .int .u8 (m.toNat : Int), undef, undef, .slice none 0 0, .pointer (some ⟨w.heap.size + 1, 0, none⟩), .string ⟨x.1.toArray⟩, .slice (some ⟨w.heap.size, 0, none⟩) 0 0, .string s, .int .u8 (m.toNat : Int), .func (.func 89) #[] #[.pointer (some ⟨w.heap.size + 1 + 1, 0, none⟩), .pointer (some ⟨w.heap.size + 1 + 1 + 1, 0, none⟩)], .string ⟨x.1.toArray⟩, undef, undef, undef, undef, undef, undef], defers := [] }) ?assign ?body ?done ?stop
  case assign =>
    intro l x W K hK
    unfold partV
    gi_wp2
    exact hK
  case body =>
    rintro l pre x W ⟨⟨h4, v, hR, hS, hne⟩, hB⟩ hpl
    have cR := hR.cell
    have fR := hR.frozen
    obtain ⟨b, hbE⟩ : ∃ b : ByteArray, b = ⟨x.1.toArray⟩ := ⟨_, rfl⟩
    have hbl : b.data.toList = x.1 := by rw [hbE]
    have hbs : b.size ≤ 1048576 := by rw [hbE]; show x.1.toArray.size ≤ _; simpa using x.2
    rw [← hbE]
    have HBL := Lib.hid hbl
    clear hbE hbl
    gi_wp2
    have hlt : w.heap.size + 1 < W.drew.heap.size := hR.lt
    have cR' : W.drew.cell? ⟨w.heap.size + 1, 0, none⟩ = some v := cR
    have fR' : W.drew.frozen? ⟨w.heap.size + 1, 0, none⟩ = false := fR
    have hCl := CallsIn.inRound (n := n - 1 - 1 - 1) l (callsIn_wide.2 (clone_any b W.drew hbs))
    have HCL := Lib.hid hCl
    clear hCl
    refine wpIn_region_any (by kernel_rfl) ?_
    change wpAnyIn _ _ _ _ _ _ _ _ _ (World.drew _)
    have HPL : Hid ((pre.map Subtype.val).length + 1 ≤ 16777216) := Lib.hid (by simp; omega)
    refine wpAnyIn_ready (rs := [0, 1]) (by kernel_rfl) (by simp) (AllReadyIn.cons rfl (fun K hK => ?_) (AllReadyIn.cons rfl (fun K hK => ?_) AllReadyIn.nil)) <;> go_simp <;> refine hK _ _ ?_ <;> clear hK K
    · refine wpAnyIn_ready (rs := [1]) (by kernel_rfl) (by simp) (AllReadyIn.cons rfl (fun K hK => ?_) AllReadyIn.nil)
      go_simp
      refine hK _ _ ?_
      clear hK K
      refine wpAnyIn_ready (rs := [2]) (by kernel_rfl) (by simp) (AllReadyIn.cons rfl (fun K hK => ?_) AllReadyIn.nil)
      go_simp
      refine ⟨trivial, ?_⟩
      refine HCL.out.mono ?_
      rintro e w1 ⟨rfl, hb1⟩
      refine hK _ _ ?_
      clear hK K
      obtain ⟨c1, hlt1⟩ := keep_cell hb1 hlt cR'
      have HSI : Hid (w.heap.size ≤ (w1.alloc (.cells #[.string b] 9)).heap.size) := Lib.hid (by have := hb1.size; simp at this ⊢; omega)
      refine wpAnyIn_ready (rs := [3]) (by kernel_rfl) (by simp) (AllReadyIn.cons rfl (fun K hK => ?_) AllReadyIn.nil)
      go_simp
      refine hK _ _ ?_
      clear hK K
      refine wpAnyIn_ready (rs := [4]) (by kernel_rfl) (by simp) (AllReadyIn.cons rfl (fun K hK => ?_) AllReadyIn.nil)
      refine step_append_in rfl _ _ rfl w.heap.size v (pre.map Subtype.val) rfl ((hS.drew.below hb1).alloc _) b.data.toList w1.heap.size 1 _ _ rfl (heap_alloc_new w1 _) HPL.out HSI.out ?_
      intro g cap w3 hS3 hg3 hg4
      refine hK _ _ ?_
      clear hK K
      rw [HBL.out] at hS3
      have HE := Lib.hid (spl_end w W w1 w3 v _ _ _ g cap h4 hR hS hne hB hb1 hg3 hS3 hg4)
      have c3 := HE.out.1.cell
      have f3 := HE.out.1.frozen
      clear hS3 hg3 hg4
      refine wpAnyIn_ready (rs := [5]) (by kernel_rfl) (by simp) (AllReadyIn.cons rfl (fun K hK => ?_) AllReadyIn.nil)
      go_simp
      refine hK _ _ ?_
      clear hK K
      refine wpAnyIn_done (by kernel_rfl) ?_ _
      have hE := HE.out.2
      simp only [List.length_map] at hE
      refine ⟨hE.1, hE.2.1, ?_, hE.2.2.2⟩
      rw [List.map_append]
      exact hE.2.2.1
    · refine wpAnyIn_ready (rs := [0, 2]) (by kernel_rfl) (by simp) (AllReadyIn.cons rfl (fun K hK => ?_) (AllReadyIn.cons rfl (fun K hK => ?_) AllReadyIn.nil)) <;> go_simp
      · refine hK _ _ ?_
        clear hK K
        refine wpAnyIn_ready (rs := [2]) (by kernel_rfl) (by simp) (AllReadyIn.cons rfl (fun K hK => ?_) AllReadyIn.nil)
        go_simp
        refine ⟨trivial, ?_⟩
        refine HCL.out.mono ?_
        rintro e w1 ⟨rfl, hb1⟩
        refine hK _ _ ?_
        clear hK K
        obtain ⟨c1, hlt1⟩ := keep_cell hb1 hlt cR'
        have HSI : Hid (w.heap.size ≤ (w1.alloc (.cells #[.string b] 9)).heap.size) := Lib.hid (by have := hb1.size; simp at this ⊢; omega)
        refine wpAnyIn_ready (rs := [3]) (by kernel_rfl) (by simp) (AllReadyIn.cons rfl (fun K hK => ?_) AllReadyIn.nil)
        go_simp
        refine hK _ _ ?_
        clear hK K
        refine wpAnyIn_ready (rs := [4]) (by kernel_rfl) (by simp) (AllReadyIn.cons rfl (fun K hK => ?_) AllReadyIn.nil)
        refine step_append_in rfl _ _ rfl w.heap.size v (pre.map Subtype.val) rfl ((hS.drew.below hb1).alloc _) b.data.toList w1.heap.size 1 _ _ rfl (heap_alloc_new w1 _) HPL.out HSI.out ?_
        intro g cap w3 hS3 hg3 hg4
        refine hK _ _ ?_
        clear hK K
        rw [HBL.out] at hS3
        have HE := Lib.hid (spl_end w W w1 w3 v _ _ _ g cap h4 hR hS hne hB hb1 hg3 hS3 hg4)
        have c3 := HE.out.1.cell
        have f3 := HE.out.1.frozen
        clear hS3 hg3 hg4
        refine wpAnyIn_ready (rs := [5]) (by kernel_rfl) (by simp) (AllReadyIn.cons rfl (fun K hK => ?_) AllReadyIn.nil)
        go_simp
        refine hK _ _ ?_
        clear hK K
        refine wpAnyIn_done (by kernel_rfl) ?_ _
        have hE := HE.out.2
        simp only [List.length_map] at hE
        refine ⟨hE.1, hE.2.1, ?_, hE.2.2.2⟩
        rw [List.map_append]
        exact hE.2.2.1
      · refine ⟨trivial, ?_⟩
        refine HCL.out.mono ?_
        rintro e w1 ⟨rfl, hb1⟩
        refine hK _ _ ?_
        clear hK K
        obtain ⟨c1, hlt1⟩ := keep_cell hb1 hlt cR'
        have HSI : Hid (w.heap.size ≤ (w1.alloc (.cells #[.string b] 9)).heap.size) := Lib.hid (by have := hb1.size; simp at this ⊢; omega)
        refine wpAnyIn_ready (rs := [0, 3]) (by kernel_rfl) (by simp) (AllReadyIn.cons rfl (fun K hK => ?_) (AllReadyIn.cons rfl (fun K hK => ?_) AllReadyIn.nil)) <;> go_simp <;> refine hK _ _ ?_ <;> clear hK K
        · refine wpAnyIn_ready (rs := [3]) (by kernel_rfl) (by simp) (AllReadyIn.cons rfl (fun K hK => ?_) AllReadyIn.nil)
          go_simp
          refine hK _ _ ?_
          clear hK K
          refine wpAnyIn_ready (rs := [4]) (by kernel_rfl) (by simp) (AllReadyIn.cons rfl (fun K hK => ?_) AllReadyIn.nil)
          refine step_append_in rfl _ _ rfl w.heap.size v (pre.map Subtype.val) rfl ((hS.drew.below hb1).alloc _) b.data.toList w1.heap.size 1 _ _ rfl (heap_alloc_new w1 _) HPL.out HSI.out ?_
          intro g cap w3 hS3 hg3 hg4
          refine hK _ _ ?_
          clear hK K
          rw [HBL.out] at hS3
          have HE := Lib.hid (spl_end w W w1 w3 v _ _ _ g cap h4 hR hS hne hB hb1 hg3 hS3 hg4)
          have c3 := HE.out.1.cell
          have f3 := HE.out.1.frozen
          clear hS3 hg3 hg4
          refine wpAnyIn_ready (rs := [5]) (by kernel_rfl) (by simp) (AllReadyIn.cons rfl (fun K hK => ?_) AllReadyIn.nil)
          go_simp
          refine hK _ _ ?_
          clear hK K
          refine wpAnyIn_done (by kernel_rfl) ?_ _
          have hE := HE.out.2
          simp only [List.length_map] at hE
          refine ⟨hE.1, hE.2.1, ?_, hE.2.2.2⟩
          rw [List.map_append]
          exact hE.2.2.1
        · have c2 : (w1.alloc (.cells #[.string b] 9)).cell? ⟨w.heap.size + 1, 0, none⟩ = some v := (keep_cell ((Below.refl _ w1).alloc (Nat.le_refl _) _) hlt1 c1).1
          refine wpAnyIn_ready (rs := [0]) (by kernel_rfl) (by simp) (AllReadyIn.cons rfl (fun K hK => ?_) AllReadyIn.nil)
          go_simp
          refine hK _ _ ?_
          clear hK K
          refine wpAnyIn_ready (rs := [4]) (by kernel_rfl) (by simp) (AllReadyIn.cons rfl (fun K hK => ?_) AllReadyIn.nil)
          refine step_append_in rfl _ _ rfl w.heap.size v (pre.map Subtype.val) rfl ((hS.drew.below hb1).alloc _) b.data.toList w1.heap.size 1 _ _ rfl (heap_alloc_new w1 _) HPL.out HSI.out ?_
          intro g cap w3 hS3 hg3 hg4
          refine hK _ _ ?_
          clear hK K
          rw [HBL.out] at hS3
          have HE := Lib.hid (spl_end w W w1 w3 v _ _ _ g cap h4 hR hS hne hB hb1 hg3 hS3 hg4)
          have c3 := HE.out.1.cell
          have f3 := HE.out.1.frozen
          clear hS3 hg3 hg4
          refine wpAnyIn_ready (rs := [5]) (by kernel_rfl) (by simp) (AllReadyIn.cons rfl (fun K hK => ?_) AllReadyIn.nil)
          go_simp
          refine hK _ _ ?_
          clear hK K
          refine wpAnyIn_done (by kernel_rfl) ?_ _
          have hE := HE.out.2
          simp only [List.length_map] at hE
          refine ⟨hE.1, hE.2.1, ?_, hE.2.2.2⟩
          rw [List.map_append]
          exact hE.2.2.1
  case done =>
    rintro D ys W hD hys ⟨⟨h4, v, hR, hS, hne⟩, hB⟩ hK
    rw [hys] at hS
    have cR := hR.cell
    gi_wp2
    refine ⟨by simp, .inl ⟨_, _, rfl, run_takeDeferred hK, ?_⟩⟩
    have hS' := World.ownsRow.kept hS (grownBy_putObj' W D (.deferred none)) (row := some D) (by
      rcases hS.2 with ⟨rfl, _⟩ | ⟨g', cap', cur, rfl, _, hh, _⟩
      · left; rfl
      · right
        simp only [Value.ownBlock]
        intro e; cases e
        rw [hK] at hh; cases hh)
    rcases hS.form with ⟨_, h⟩ | ⟨g, cap, rfl, _, _⟩
    · exact absurd h (cutL_ne _ _)
    · exact ⟨_, by simp [results, Tryz.f76, go_sem], g, cap, rfl, hS', hB.trans (belowK_b (w := w) (Nat.le_refl _) W D _ _ (by have := HSZ.out; omega) hK rfl rfl)⟩
  case stop =>
    rintro D c pre W hD hpre h hK
    exact h.elim

theorem splitAt_any (s : ByteArray) (m : UInt8) (w : World) (hs : s.size ≤ 1048576) :
    Calls Tryz.prog 76 #[.string s, .int .u8 (m.toNat : Int)] w fun e W' => ∃ g cap, e = .returned (.slice (some ⟨g, 0, none⟩) (cutL m s.data.toList).length cap) ∧ Strs W' w.heap.size (.slice (some ⟨g, 0, none⟩) (cutL m s.data.toList).length cap) (cutL m s.data.toList) ∧ Below w.heap.size w W' :=
  (callsIn_wide (n := 4)).1 (splitAt_in 4 (by omega) s m w hs)
end Go.Proofs.YtcfkhfbhmjfhdaaGreatDoor

/-
  impl.ReadVersion: a version out of its text.
-/
namespace Go.Proofs.YtcfkhfbhmjfhdaaGreatDoor
open Go.RowKit

theorem keep3 {W V : World} {g : Nat} {v0 v1 v2 : Value} (hb : Below W.heap.size W V) (h : W.cell? ⟨g, 0, none⟩ = some v0 ∧ W.cell? ⟨g, 1, none⟩ = some v1 ∧ W.cell? ⟨g, 2, none⟩ = some v2) : V.cell? ⟨g, 0, none⟩ = some v0 ∧ V.cell? ⟨g, 1, none⟩ = some v1 ∧ V.cell? ⟨g, 2, none⟩ = some v2 := ⟨keepC hb h.1, keepC hb h.2.1, keepC hb h.2.2⟩

set_option maxRecDepth 100000 in
set_option maxHeartbeats 4000000 in
theorem implReadVersion_any (s : ByteArray) (w : World) (hs : s.size ≤ 1048576) :
    Calls Tryz.prog 53 #[.string s] w (ReadIs w s.data.toList) := by
  have HSZ : Hid (s.data.toList.length ≤ 1048576) := Lib.hid (by simpa using hs)
  have r0 := heap_alloc_new w (.cells #[.int .i64 0, .int .i64 0, .int .i64 0, .slice none 0 0] 74)
  have B0 : Below w.heap.size w (w.alloc (.cells #[.int .i64 0, .int .i64 0, .int .i64 0, .slice none 0 0] 74)) := (Below.refl _ _).alloc (Nat.le_refl _) _
  obtain ⟨d, HD⟩ : ∃ d, Hid (dash s.data.toList = d) := ⟨_, Lib.hid rfl⟩
  by_cases hd : 0 ≤ d
  · have hdl : d < s.size := by have := idx_lt s.data.toList 45; have h2 : Lib.indexByte s.data.toList 45 = d := HD.out; rw [h2] at this; simpa using this
    obtain ⟨k, rfl⟩ : ∃ k : Nat, d = (k : Int) := ⟨d.toNat, by omega⟩
    have HTL : Hid (cutL 46 (⟨(s.data.toList.drop (k + 1)).toArray⟩ : ByteArray).data.toList = tailL s.data.toList) := Lib.hid (by rw [tailL_yes (by rw [HD.out]; exact hd), HD.out]; rfl)
    have HQ2 : Hid (cutL 46 (⟨(s.data.toList.take k).toArray⟩ : ByteArray).data.toList = partsL s.data.toList) := Lib.hid (by unfold partsL; rw [headL_yes (by rw [HD.out]; exact hd), HD.out]; rfl)
    go_enter Tryz.func53, Tryz.ntmps53
    go_wp2_with fail
    refine (cutDash_yes s _ hs k (by omega) HD.out).mono ?_
    rintro e w1 ⟨rfl, nq, rfl⟩
    have B1 := B0.trans (below_drewN _ _ nq)
    have r1 := keepB r0 (below_drewN _ _ nq)
    clear r0 B0
    go_wp2_with fail
    refine (splitAt_any _ 46 _ (by rw [size_of]; simp <;> omega)).mono ?_
    rintro e w2 ⟨gn, cn, rfl, hSn, hb2⟩
    rw [HQ2.out] at hSn ⊢
    have r2 := keepB r1 hb2
    have B2 := B1.trans (hb2.mono B1.size)
    clear r1 hb2
    by_cases h3 : (partsL s.data.toList).length = 3
    · obtain ⟨p0, p1, p2, hp⟩ := len3 h3
      have HPP := Lib.hid hp
      have mm : ∀ x ∈ partsL s.data.toList, x.length ≤ 1048576 := fun x hx => by have h1 := cutL_mem_le 46 (headL s.data.toList) x hx; have h2 := headL_le s.data.toList; have h3 := HSZ.out; omega
      have m0 := mm p0 (by rw [hp]; simp)
      have m1 := mm p1 (by rw [hp]; simp)
      have m2 := mm p2 (by rw [hp]; simp)
      have x0 : w2.cell? ⟨gn, 0, none⟩ = some (.string ⟨p0.toArray⟩) := by rw [hp] at hSn; exact hSn.cell 0 (by simp)
      have x1 : w2.cell? ⟨gn, 1, none⟩ = some (.string ⟨p1.toArray⟩) := by rw [hp] at hSn; exact hSn.cell 1 (by simp)
      have x2 : w2.cell? ⟨gn, 2, none⟩ = some (.string ⟨p2.toArray⟩) := by rw [hp] at hSn; exact hSn.cell 2 (by simp)
      have HR := Lib.hid (readOk_of hp)
      rw [h3]
      clear mm hp h3
      obtain ⟨z0, HZ0⟩ : ∃ z, Hid (readL p0 = z) := ⟨_, Lib.hid rfl⟩
      obtain ⟨z1, HZ1⟩ : ∃ z, Hid (readL p1 = z) := ⟨_, Lib.hid rfl⟩
      obtain ⟨z2, HZ2⟩ : ∃ z, Hid (readL p2 = z) := ⟨_, Lib.hid rfl⟩
      have HD0 := Lib.hid (fun W => (implReadDec_any ⟨p0.toArray⟩ W (by rw [size_of]; exact m0)).mono (fun e w' h => (⟨by rw [h.1, show readL (⟨p0.toArray⟩ : ByteArray).data.toList = z0 from HZ0.out], h.2⟩ : e = .returned (.int .i64 z0) ∧ W = w')))
      have HD1 := Lib.hid (fun W => (implReadDec_any ⟨p1.toArray⟩ W (by rw [size_of]; exact m1)).mono (fun e w' h => (⟨by rw [h.1, show readL (⟨p1.toArray⟩ : ByteArray).data.toList = z1 from HZ1.out], h.2⟩ : e = .returned (.int .i64 z1) ∧ W = w')))
      have HD2 := Lib.hid (fun W => (implReadDec_any ⟨p2.toArray⟩ W (by rw [size_of]; exact m2)).mono (fun e w' h => (⟨by rw [h.1, show readL (⟨p2.toArray⟩ : ByteArray).data.toList = z2 from HZ2.out], h.2⟩ : e = .returned (.int .i64 z2) ∧ W = w')))
      go_wp2_with fail
      have ba : ∀ (W : World) (o : Obj), Below W.heap.size W (W.alloc o) := fun W o => (Below.refl _ _).alloc (Nat.le_refl _) _
      have HBA := Lib.hid ba
      clear ba
      go_region_held3 (fun W' => W'.cell? ⟨gn, 0, none⟩ = some (.string ⟨p0.toArray⟩) ∧ W'.cell? ⟨gn, 1, none⟩ = some (.string ⟨p1.toArray⟩) ∧ W'.cell? ⟨gn, 2, none⟩ = some (.string ⟨p2.toArray⟩)) (first | exact ⟨x0, x1, x2⟩ | assumption | exact keep3 (HBA.out _ _) (by assumption) | go_keep) ((first | (go_at_call 77; (with_reducible refine (HD0.out _).mono ?_); rintro e w' ⟨rfl, rfl⟩) | (go_at_call 77; (with_reducible refine (HD1.out _).mono ?_); rintro e w' ⟨rfl, rfl⟩) | (go_at_call 77; (with_reducible refine (HD2.out _).mono ?_); rintro e w' ⟨rfl, rfl⟩)))
      all_goals
        go_wp2_with fail
        have v3 : (w2.alloc (.cells #[.int .i64 z0, .int .i64 z1, .int .i64 z2, .slice none 0 0] 74)).drew.heap[w2.heap.size]? = some (.cells #[.int .i64 z0, .int .i64 z1, .int .i64 z2, .slice none 0 0] 74) := heap_alloc_new w2 _
        have r3 : (w2.alloc (.cells #[.int .i64 z0, .int .i64 z1, .int .i64 z2, .slice none 0 0] 74)).drew.heap[w.heap.size]? = some (.cells #[.int .i64 0, .int .i64 0, .int .i64 0, .slice none 0 0] 74) := keepA r2 _
        have B3 := (B2.alloc B2.size (.cells #[.int .i64 z0, .int .i64 z1, .int .i64 z2, .slice none 0 0] 74)).trans (below_drew w.heap.size _)
        have lo : w.heap.size < w2.heap.size := lt_of_heap r2
        clear r2 B2 x0 x1 x2
        refine (splitAt_any _ 46 _ (by rw [size_of]; simp <;> omega)).mono ?_
        rintro e w4 ⟨gp, cp, rfl, hSp, hb4⟩
        rw [HTL.out] at hSp ⊢
        have v4 := keepB v3 hb4
        have r4 := keepB r3 hb4
        have B4 := B3.trans (hb4.mono B3.size)
        have glo : w2.heap.size + 1 ≤ gp := by have := hSp.lo; simpa using this
        obtain ⟨q0, q1, q2, q3⟩ := cells4 v4
        have f3 := frozen4 v4 3
        have v5 := heap_set3 v4 (.slice (some ⟨gp, 0, none⟩) (tailL s.data.toList).length cp)
        have r5 := heap_other (g := w2.heap.size) (o := 3) r4 (.slice (some ⟨gp, 0, none⟩) (tailL s.data.toList).length cp) (by omega)
        have B5 := B4.setCell (p := ⟨w2.heap.size, 3, none⟩) (by show w.heap.size ≤ w2.heap.size; omega) (.slice (some ⟨gp, 0, none⟩) (tailL s.data.toList).length cp)
        have hS5 := (hSp.weaken (base' := w2.heap.size + 1) (by simp)).other w2.heap.size 3 (.slice (some ⟨gp, 0, none⟩) (tailL s.data.toList).length cp) (by omega)
        obtain ⟨i0, i1, i2, i3⟩ := cells4 v5
        go_wp2_with fail
        clear v3 v4 r3 r4 B3 B4 hSp hb4 q0 q1 q2 q3 f3 i0 i1 i2 i3
        refine (implVersionOk_any z0 z1 z2 _ (tailL s.data.toList) _ (RdS.of_strs hS5) (tail_sm HSZ.out)).mono ?_
        obtain ⟨ok, HO⟩ : ∃ ok, Hid (verOk z0 z1 z2 (tailL s.data.toList) = ok) := ⟨_, Lib.hid rfl⟩
        rw [HO.out]
        rintro e w6 ⟨rfl, hb6⟩
        have v6 := keepB v5 hb6
        have r6 := keepB r5 hb6
        have B6 := B5.trans (hb6.mono B5.size)
        have hS6 := hS5.below hb6
        have hw := hS5.owned
        have HOK : Hid (readOk s.data.toList = ok) := Lib.hid (by rw [HR.out, HZ0.out, HZ1.out, HZ2.out]; exact HO.out)
        clear v5 r5 B5 hS5 hb6
        cases ok
        · skip
          obtain ⟨q0, q1, q2, q3⟩ := cells4 r6
          have f0 := frozen4 r6 0
          have f1 := frozen4 r6 1
          have f2 := frozen4 r6 2
          have f3 := frozen4 r6 3
          go_wp2_with fail
          refine bodyPost_ret (v := .tuple #[.agg #[.int .i64 0, .int .i64 0, .int .i64 0, .slice none 0 0], .bool false]) ?_ rfl (readIs_bad HOK.out (below_result B6 (by omega) _ _ _ _))
          simp [results, Tryz.results53, go_sem, q0, q1, q2, q3]
        · skip
          obtain ⟨p0', p1', p2', p3'⟩ := cells4 v6
          obtain ⟨q0, q1, q2, q3⟩ := cells4 r6
          have f0 := frozen4 r6 0
          have f1 := frozen4 r6 1
          have f2 := frozen4 r6 2
          have f3 := frozen4 r6 3
          go_wp2_with fail
          refine bodyPost_ret (v := .tuple #[.agg #[.int .i64 (z0), .int .i64 (z1), .int .i64 (z2), .slice (some ⟨gp, 0, none⟩) (tailL s.data.toList).length cp], .bool true]) ?_ rfl (by rw [← HZ0.out, ← HZ1.out, ← HZ2.out]; exact readIs_good HPP.out HOK.out (strs_result (hS6.weaken (by omega)) (fun g h => by have := hw g h; omega) _ _ _ _) (below_result B6 (by omega) _ _ _ _))
          simp [results, Tryz.results53, go_sem, q0, q1, q2, q3]
    · have HOK := Lib.hid (readOk_bad h3)
      have q9 : (((partsL s.data.toList).length : Int) != 3) = true := int_bne_true (by omega)
      clear h3
      obtain ⟨q0, q1, q2, q3⟩ := cells4 r2
      have f0 := frozen4 r2 0
      have f1 := frozen4 r2 1
      have f2 := frozen4 r2 2
      have f3 := frozen4 r2 3
      go_wp2_with fail
      refine bodyPost_ret (v := .tuple #[.agg #[.int .i64 0, .int .i64 0, .int .i64 0, .slice none 0 0], .bool false]) ?_ rfl (readIs_bad HOK.out (below_result B2 (by omega) _ _ _ _))
      simp [results, Tryz.results53, go_sem, q0, q1, q2, q3]
  · have hdn : ¬ 0 ≤ dash s.data.toList := by rw [HD.out]; exact hd
    have HQ2 : Hid (cutL 46 s.data.toList = partsL s.data.toList) := Lib.hid (by unfold partsL; rw [headL_no hdn])
    have HTL := Lib.hid (tailL_no hdn)
    clear hdn
    go_enter Tryz.func53, Tryz.ntmps53
    go_wp2_with fail
    refine (cutDash_no s _ hs d (by omega) HD.out).mono ?_
    rintro e w1 ⟨rfl, rfl⟩
    go_wp2_with fail
    refine (splitAt_any s 46 _ hs).mono ?_
    rintro e w2 ⟨gn, cn, rfl, hSn, hb2⟩
    rw [HQ2.out] at hSn ⊢
    have r2 := keepB r0 hb2
    have B2 := B0.trans (hb2.mono B0.size)
    clear r0 hb2 B0
    by_cases h3 : (partsL s.data.toList).length = 3
    · obtain ⟨p0, p1, p2, hp⟩ := len3 h3
      have HPP := Lib.hid hp
      have mm : ∀ x ∈ partsL s.data.toList, x.length ≤ 1048576 := fun x hx => by have h1 := cutL_mem_le 46 (headL s.data.toList) x hx; have h2 := headL_le s.data.toList; have h3 := HSZ.out; omega
      have m0 := mm p0 (by rw [hp]; simp)
      have m1 := mm p1 (by rw [hp]; simp)
      have m2 := mm p2 (by rw [hp]; simp)
      have x0 : w2.cell? ⟨gn, 0, none⟩ = some (.string ⟨p0.toArray⟩) := by rw [hp] at hSn; exact hSn.cell 0 (by simp)
      have x1 : w2.cell? ⟨gn, 1, none⟩ = some (.string ⟨p1.toArray⟩) := by rw [hp] at hSn; exact hSn.cell 1 (by simp)
      have x2 : w2.cell? ⟨gn, 2, none⟩ = some (.string ⟨p2.toArray⟩) := by rw [hp] at hSn; exact hSn.cell 2 (by simp)
      have HR := Lib.hid (readOk_of hp)
      rw [h3]
      clear mm hp h3
      obtain ⟨z0, HZ0⟩ : ∃ z, Hid (readL p0 = z) := ⟨_, Lib.hid rfl⟩
      obtain ⟨z1, HZ1⟩ : ∃ z, Hid (readL p1 = z) := ⟨_, Lib.hid rfl⟩
      obtain ⟨z2, HZ2⟩ : ∃ z, Hid (readL p2 = z) := ⟨_, Lib.hid rfl⟩
      have HD0 := Lib.hid (fun W => (implReadDec_any ⟨p0.toArray⟩ W (by rw [size_of]; exact m0)).mono (fun e w' h => (⟨by rw [h.1, show readL (⟨p0.toArray⟩ : ByteArray).data.toList = z0 from HZ0.out], h.2⟩ : e = .returned (.int .i64 z0) ∧ W = w')))
      have HD1 := Lib.hid (fun W => (implReadDec_any ⟨p1.toArray⟩ W (by rw [size_of]; exact m1)).mono (fun e w' h => (⟨by rw [h.1, show readL (⟨p1.toArray⟩ : ByteArray).data.toList = z1 from HZ1.out], h.2⟩ : e = .returned (.int .i64 z1) ∧ W = w')))
      have HD2 := Lib.hid (fun W => (implReadDec_any ⟨p2.toArray⟩ W (by rw [size_of]; exact m2)).mono (fun e w' h => (⟨by rw [h.1, show readL (⟨p2.toArray⟩ : ByteArray).data.toList = z2 from HZ2.out], h.2⟩ : e = .returned (.int .i64 z2) ∧ W = w')))
      go_wp2_with fail
      have ba : ∀ (W : World) (o : Obj), Below W.heap.size W (W.alloc o) := fun W o => (Below.refl _ _).alloc (Nat.le_refl _) _
      have HBA := Lib.hid ba
      clear ba
      go_region_held3 (fun W' => W'.cell? ⟨gn, 0, none⟩ = some (.string ⟨p0.toArray⟩) ∧ W'.cell? ⟨gn, 1, none⟩ = some (.string ⟨p1.toArray⟩) ∧ W'.cell? ⟨gn, 2, none⟩ = some (.string ⟨p2.toArray⟩)) (first | exact ⟨x0, x1, x2⟩ | assumption | exact keep3 (HBA.out _ _) (by assumption) | go_keep) ((first | (go_at_call 77; (with_reducible refine (HD0.out _).mono ?_); rintro e w' ⟨rfl, rfl⟩) | (go_at_call 77; (with_reducible refine (HD1.out _).mono ?_); rintro e w' ⟨rfl, rfl⟩) | (go_at_call 77; (with_reducible refine (HD2.out _).mono ?_); rintro e w' ⟨rfl, rfl⟩)))
      all_goals
        go_wp2_with fail
        have v3 : (w2.alloc (.cells #[.int .i64 z0, .int .i64 z1, .int .i64 z2, .slice none 0 0] 74)).drew.heap[w2.heap.size]? = some (.cells #[.int .i64 z0, .int .i64 z1, .int .i64 z2, .slice none 0 0] 74) := heap_alloc_new w2 _
        have r3 : (w2.alloc (.cells #[.int .i64 z0, .int .i64 z1, .int .i64 z2, .slice none 0 0] 74)).drew.heap[w.heap.size]? = some (.cells #[.int .i64 0, .int .i64 0, .int .i64 0, .slice none 0 0] 74) := keepA r2 _
        have B3 := (B2.alloc B2.size (.cells #[.int .i64 z0, .int .i64 z1, .int .i64 z2, .slice none 0 0] 74)).trans (below_drew w.heap.size _)
        have lo : w.heap.size < w2.heap.size := lt_of_heap r2
        clear r2 B2 x0 x1 x2
        have hS5 : Strs (w2.alloc (.cells #[.int .i64 z0, .int .i64 z1, .int .i64 z2, .slice none 0 0] 74)).drew (w2.heap.size + 1) (.slice none 0 0) (tailL s.data.toList) := by rw [HTL.out]; exact Strs.nil _ _
        have v5 := v3
        have r5 := r3
        have B5 := B3
        clear v3 r3 B3
        refine (implVersionOk_any z0 z1 z2 _ (tailL s.data.toList) _ (RdS.of_strs hS5) (tail_sm HSZ.out)).mono ?_
        obtain ⟨ok, HO⟩ : ∃ ok, Hid (verOk z0 z1 z2 (tailL s.data.toList) = ok) := ⟨_, Lib.hid rfl⟩
        rw [HO.out]
        rintro e w6 ⟨rfl, hb6⟩
        have v6 := keepB v5 hb6
        have r6 := keepB r5 hb6
        have B6 := B5.trans (hb6.mono B5.size)
        have hS6 := hS5.below hb6
        have hw := hS5.owned
        have HOK : Hid (readOk s.data.toList = ok) := Lib.hid (by rw [HR.out, HZ0.out, HZ1.out, HZ2.out]; exact HO.out)
        clear v5 r5 B5 hS5 hb6
        cases ok
        · skip
          obtain ⟨q0, q1, q2, q3⟩ := cells4 r6
          have f0 := frozen4 r6 0
          have f1 := frozen4 r6 1
          have f2 := frozen4 r6 2
          have f3 := frozen4 r6 3
          go_wp2_with fail
          refine bodyPost_ret (v := .tuple #[.agg #[.int .i64 0, .int .i64 0, .int .i64 0, .slice none 0 0], .bool false]) ?_ rfl (readIs_bad HOK.out (below_result B6 (by omega) _ _ _ _))
          simp [results, Tryz.results53, go_sem, q0, q1, q2, q3]
        · skip
          obtain ⟨p0', p1', p2', p3'⟩ := cells4 v6
          obtain ⟨q0, q1, q2, q3⟩ := cells4 r6
          have f0 := frozen4 r6 0
          have f1 := frozen4 r6 1
          have f2 := frozen4 r6 2
          have f3 := frozen4 r6 3
          go_wp2_with fail
          refine bodyPost_ret (v := .tuple #[.agg #[.int .i64 (z0), .int .i64 (z1), .int .i64 (z2), .slice none 0 0], .bool true]) ?_ rfl (by rw [← HZ0.out, ← HZ1.out, ← HZ2.out]; exact readIs_good HPP.out HOK.out (strs_result (hS6.weaken (by omega)) (fun g h => by have := hw g h; omega) _ _ _ _) (below_result B6 (by omega) _ _ _ _))
          simp [results, Tryz.results53, go_sem, q0, q1, q2, q3]
    · have HOK := Lib.hid (readOk_bad h3)
      have q9 : (((partsL s.data.toList).length : Int) != 3) = true := int_bne_true (by omega)
      clear h3
      obtain ⟨q0, q1, q2, q3⟩ := cells4 r2
      have f0 := frozen4 r2 0
      have f1 := frozen4 r2 1
      have f2 := frozen4 r2 2
      have f3 := frozen4 r2 3
      go_wp2_with fail
      refine bodyPost_ret (v := .tuple #[.agg #[.int .i64 0, .int .i64 0, .int .i64 0, .slice none 0 0], .bool false]) ?_ rfl (readIs_bad HOK.out (below_result B2 (by omega) _ _ _ _))
      simp [results, Tryz.results53, go_sem, q0, q1, q2, q3]
end Go.Proofs.YtcfkhfbhmjfhdaaGreatDoor

/-
  impl.readFrom with impl.above, impl.Exact.
-/
namespace Go.Proofs.YtcfkhfbhmjfhdaaGreatDoor
open Go.RowKit

theorem readV_any (l : List UInt8) (W : World) (hl : l.length ≤ 1048576) : Calls Tryz.prog 53 #[.string ⟨l.toArray⟩] W (ReadIs W l) := implReadVersion_any ⟨l.toArray⟩ W (by rw [size_of]; exact hl)
theorem frozen2 {V : World} {B : Nat} {T : TypeId} {v0 v1 : Value} (h : V.heap[B]? = some (.cells #[v0, v1] T)) (o : Nat) : V.frozen? ⟨B, o, none⟩ = false := by
  simp [World.frozen?, h]
theorem below_res2 {n R : Nat} {W V : World} (h : Below n W V) (hR : n ≤ R) (x0 x1 : Value) : Below n W ((V.setCell ⟨R, 0, none⟩ x0).setCell ⟨R, 1, none⟩ x1) := (h.setCell (p := ⟨R, 0, none⟩) hR _).setCell (p := ⟨R, 1, none⟩) hR _
theorem set2_heap {V : World} {B : Nat} {T : TypeId} {v0 v1 : Value} (h : V.heap[B]? = some (.cells #[v0, v1] T)) (x0 x1 : Value) : ((V.setCell ⟨B, 0, none⟩ x0).setCell ⟨B, 1, none⟩ x1).heap[B]? = some (.cells #[x0, x1] T) := by
  have h1 := Lib.heap_setCell_same (i := 0) h x0
  have h2 := Lib.heap_setCell_same (i := 1) h1 x1
  simpa using h2
theorem sm_readPP (l : List UInt8) : Sm (readP l) := by
  have h5 := readP_sm l
  refine ⟨by omega, fun x hx => ?_⟩
  unfold readP at hx
  split at hx
  · rename_i h
    have hv := read_ver h
    have : readP l = tailL l := by simp [readP, h]
    rw [← this] at hx
    have := verOk_len hv x hx
    omega
  · cases hx
theorem cell_far2 {V : World} {B q o : Nat} (h : B ≠ q) (x y : Value) : ((V.setCell ⟨q, 0, none⟩ x).setCell ⟨q, 1, none⟩ y).cell? ⟨B, o, none⟩ = V.cell? ⟨B, o, none⟩ := by
  have e1 := heap_setCell_other V ⟨q, 0, none⟩ B x h
  have e2 := heap_setCell_other (V.setCell ⟨q, 0, none⟩ x) ⟨q, 1, none⟩ B y h
  simp only [World.cell?, e2, e1]
theorem heap_far2 {V : World} {B q : Nat} (h : B ≠ q) (x y : Value) : ((V.setCell ⟨q, 0, none⟩ x).setCell ⟨q, 1, none⟩ y).heap[B]? = V.heap[B]? :=
  (heap_setCell_other (V.setCell ⟨q, 0, none⟩ x) ⟨q, 1, none⟩ B y h).trans (heap_setCell_other V ⟨q, 0, none⟩ B x h)
theorem abv_high {l : List UInt8} : abvL (readA l 0) (readA l 1) (readA l 2) (readP l) = exHigh l := rfl

set_option maxRecDepth 100000 in
set_option maxHeartbeats 4000000 in
theorem readFrom_no (l : List UInt8) (w : World) (hl : l.length ≤ 1048576) (hok : readOk l = false) :
    Calls Tryz.prog 66 #[.string ⟨l.toArray⟩, .func (.func 67) #[] #[]] w fun e w' => e = .returned (.tuple #[.agg #[.string ⟨#[]⟩, .string ⟨#[]⟩], .bool false]) ∧ Below w.heap.size w w' := by
  have HR := Lib.hid (fun W => readV_any l W hl)
  have B0 : Below w.heap.size w (w.alloc (.cells #[.string ⟨#[]⟩, .string ⟨#[]⟩] 85)) := (Below.refl _ _).alloc (Nat.le_refl _) _
  have r0 := heap_alloc_new w (.cells #[.string ⟨#[]⟩, .string ⟨#[]⟩] 85)
  go_enter Tryz.func66, Tryz.ntmps66
  go_wp2_with fail
  refine (HR.out _).mono ?_
  rintro e w2 ⟨u, rfl, hS, hb⟩
  rw [hok]
  obtain ⟨U, uc, rfl, _⟩ := RdS.of_strs hS
  have B1 := B0.trans (hb.mono (by simp))
  have r1 := keepB r0 hb
  clear hS hb B0 r0
  obtain ⟨c0, c1⟩ := two_cells r1
  have f0 := frozen2 r1 0
  have f1 := frozen2 r1 1
  have hs1 := lt_of_heap r1
  have B2 := (below_res2 B1 (Nat.le_refl _) (.string ⟨#[]⟩) (.string ⟨#[]⟩)).alloc (by simp; omega) (.cells #[.int .i64 (readA l 0), .int .i64 (readA l 1), .int .i64 (readA l 2), .slice U (readP l).length uc] 74)
  obtain ⟨y0, y1⟩ := two_cells (keepA (set2_heap r1 (.string ⟨#[]⟩) (.string ⟨#[]⟩)) (.cells #[.int .i64 (readA l 0), .int .i64 (readA l 1), .int .i64 (readA l 2), .slice U (readP l).length uc] 74))
  go_wp2_with fail
  refine bodyPost_ret (v := .tuple #[.agg #[.string ⟨#[]⟩, .string ⟨#[]⟩], .bool false]) ?_ rfl ⟨rfl, B2⟩
  simp [results, Tryz.results66, go_sem, y0, y1]

set_option maxRecDepth 100000 in
set_option maxHeartbeats 4000000 in
theorem readFrom_yes (l : List UInt8) (w : World) (hl : l.length ≤ 1048576) (hok : readOk l = true) (ht : Tab w) :
    Calls Tryz.prog 66 #[.string ⟨l.toArray⟩, .func (.func 67) #[] #[]] w fun e w' => e = .returned (.tuple #[.agg #[.string ⟨l.toArray⟩, .string ⟨(exHigh l).toArray⟩], .bool (!(exHigh l).isEmpty)]) ∧ Below w.heap.size w w' := by
  have HR := Lib.hid (fun W => readV_any l W hl)
  have B0 : Below w.heap.size w (w.alloc (.cells #[.string ⟨#[]⟩, .string ⟨#[]⟩] 85)) := (Below.refl _ _).alloc (Nat.le_refl _) _
  have r0 := heap_alloc_new w (.cells #[.string ⟨#[]⟩, .string ⟨#[]⟩] 85)
  obtain ⟨h, HH⟩ : ∃ h, Hid (exHigh l = h) := ⟨_, Lib.hid rfl⟩
  rw [HH.out]
  have HRV := Lib.hid (read_ver hok)
  have HRB := Lib.hid (read_back hok)
  have HSM := Lib.hid (sm_readPP l)
  go_enter Tryz.func66, Tryz.ntmps66
  go_wp2_with fail
  refine (HR.out _).mono ?_
  rintro e w2 ⟨u, rfl, hS, hb⟩
  rw [hok]
  have hrd := RdS.of_strs hS
  have B1 := B0.trans (hb.mono (by simp))
  have HV := Lib.hid (fun (W : World) (h : Below w2.heap.size w2 W) => implVersionText_any (readA l 0) (readA l 1) (readA l 2) _ u (readP l) W (hS.below h) HSM.out (tab_below (tab_below ht B1) h))
  have HA := Lib.hid (fun (W : World) (h : Below w2.heap.size w2 W) => above_any (readA l 0) (readA l 1) (readA l 2) u (readP l) W (hrd.below h) HRV.out (tab_below (tab_below ht B1) h))
  rw [abv_high, HH.out] at HA
  rw [HRB.out] at HV
  obtain ⟨U, uc, rfl, _⟩ := hrd
  have r1 := keepB r0 hb
  clear hS hb B0 r0 ht hok HRV HRB HSM
  have hs1 := lt_of_heap r1
  have BV : Below w2.heap.size w2 ((w2.alloc (.cells #[.int .i64 (readA l 0), .int .i64 (readA l 1), .int .i64 (readA l 2), .slice U (readP l).length uc] 74)).drew) := ((Below.refl _ _).alloc (Nat.le_refl _) _).trans (below_drewN _ _ 1)
  have r2 := keepA r1 (.cells #[.int .i64 (readA l 0), .int .i64 (readA l 1), .int .i64 (readA l 2), .slice U (readP l).length uc] 74)
  have v2 := heap_alloc_new w2 (.cells #[.int .i64 (readA l 0), .int .i64 (readA l 1), .int .i64 (readA l 2), .slice U (readP l).length uc] 74)
  obtain ⟨p0, p1, p2, p3⟩ := cells4 v2
  go_wp2_with fail
  have BW : Below w2.heap.size w2 (((w2.alloc (.cells #[.int .i64 (readA l 0), .int .i64 (readA l 1), .int .i64 (readA l 2), .slice U (readP l).length uc] 74)).alloc (.cells #[.string ⟨#[]⟩, .string ⟨#[]⟩] 85)).drew) := (((Below.refl _ _).alloc (Nat.le_refl _) _).alloc (by simp) _).trans (below_drewN _ _ 1)
  go_region_held3 (fun W => W.cell? ⟨w2.heap.size, 0, none⟩ = some (.int .i64 (readA l 0)) ∧ W.cell? ⟨w2.heap.size, 1, none⟩ = some (.int .i64 (readA l 1)) ∧ W.cell? ⟨w2.heap.size, 2, none⟩ = some (.int .i64 (readA l 2)) ∧ W.cell? ⟨w2.heap.size, 3, none⟩ = some (.slice U (readP l).length uc)) (first | exact ⟨p0, p1, p2, p3⟩ | exact ⟨(cell_far2 hq _ _).trans p0, (cell_far2 hq _ _).trans p1, (cell_far2 hq _ _).trans p2, (cell_far2 hq _ _).trans p3⟩ | go_keep) ((first
    | (go_at_call 56; (with_reducible refine (HV.out _ BV).mono ?_); rintro e w5 ⟨rfl, hb5⟩; have B5 := BV.trans (hb5.mono BV.size); have v5 := (keepB (W := (w2.alloc (.cells #[.int .i64 (readA l 0), .int .i64 (readA l 1), .int .i64 (readA l 2), .slice U (readP l).length uc] 74)).drew) v2 hb5); have r5 := (keepB (W := (w2.alloc (.cells #[.int .i64 (readA l 0), .int .i64 (readA l 1), .int .i64 (readA l 2), .slice U (readP l).length uc] 74)).drew) r2 hb5); obtain ⟨p0, p1, p2, p3⟩ := cells4 v5)
    | (go_at_call 67; (with_reducible refine (HA.out _ B5).mono ?_); rintro e w7 ⟨rfl, hb7⟩; have z7 := keepB z5 hb7; obtain ⟨z0, z1⟩ := two_cells z7; have g0 := frozen2 z7 0; have g1 := frozen2 z7 1; have hq : w2.heap.size ≠ w2.heap.size + 1 := Nat.ne_of_lt (Nat.lt_succ_self _); have B7 := B5.trans (hb7.mono B5.size); have v7 := keepB v5 hb7; have r7 := keepB r5 hb7; obtain ⟨p0, p1, p2, p3⟩ := cells4 v7)
    | (go_at_call 67; (with_reducible refine (HA.out _ B5).mono ?_); rintro e w7 ⟨rfl, hb7⟩; have B7 := B5.trans (hb7.mono B5.size); have v7 := keepB v5 hb7; have r7 := keepB r5 hb7; obtain ⟨p0, p1, p2, p3⟩ := cells4 v7)
    | (go_at_call 67; (with_reducible refine (HA.out _ (B5.alloc B5.size _)).mono ?_); rintro e w7 ⟨rfl, hb7⟩; have B7 := (B5.alloc B5.size (.cells #[.string ⟨#[]⟩, .string ⟨#[]⟩] 85)).trans (hb7.mono (B5.alloc B5.size (.cells #[.string ⟨#[]⟩, .string ⟨#[]⟩] 85)).size); have v5 := keepA v5 (.cells #[.string ⟨#[]⟩, .string ⟨#[]⟩] 85); have r5 := keepA r5 (.cells #[.string ⟨#[]⟩, .string ⟨#[]⟩] 85); have z7 := keepB (heap_alloc_new w5 _) hb7; obtain ⟨z0, z1⟩ := two_cells z7; have g0 := frozen2 z7 0; have g1 := frozen2 z7 1; have hq : w2.heap.size ≠ w5.heap.size := Nat.ne_of_lt (lt_of_heap (keepB (W := (w2.alloc (.cells #[.int .i64 (readA l 0), .int .i64 (readA l 1), .int .i64 (readA l 2), .slice U (readP l).length uc] 74)).drew) v2 hb5)); have v7 := keepB v5 hb7; have r7 := keepB r5 hb7; obtain ⟨p0, p1, p2, p3⟩ := cells4 v7)
    | (go_at_call 56; (with_reducible refine (HV.out _ BW).mono ?_); rintro e w5 ⟨rfl, hb5⟩; have B5 := BW.trans (hb5.mono BW.size); have v5 := (keepB (W := ((w2.alloc (.cells #[.int .i64 (readA l 0), .int .i64 (readA l 1), .int .i64 (readA l 2), .slice U (readP l).length uc] 74)).alloc (.cells #[.string ⟨#[]⟩, .string ⟨#[]⟩] 85)).drew) (keepA v2 (.cells #[.string ⟨#[]⟩, .string ⟨#[]⟩] 85)) hb5); have r5 := (keepB (W := ((w2.alloc (.cells #[.int .i64 (readA l 0), .int .i64 (readA l 1), .int .i64 (readA l 2), .slice U (readP l).length uc] 74)).alloc (.cells #[.string ⟨#[]⟩, .string ⟨#[]⟩] 85)).drew) (keepA r2 (.cells #[.string ⟨#[]⟩, .string ⟨#[]⟩] 85)) hb5); have z5 : w5.heap[w2.heap.size + 1]? = some (.cells #[.string ⟨#[]⟩, .string ⟨#[]⟩] 85) := keepB (W := ((w2.alloc (.cells #[.int .i64 (readA l 0), .int .i64 (readA l 1), .int .i64 (readA l 2), .slice U (readP l).length uc] 74)).alloc (.cells #[.string ⟨#[]⟩, .string ⟨#[]⟩] 85)).drew) (heap_new (W := (w2.alloc (.cells #[.int .i64 (readA l 0), .int .i64 (readA l 1), .int .i64 (readA l 2), .slice U (readP l).length uc] 74))) (by simp) _) hb5; obtain ⟨p0, p1, p2, p3⟩ := cells4 v5)))
  · have zz := heap_alloc_new w7 (.cells #[.string ⟨l.toArray⟩, .string ⟨h.toArray⟩] 85)
    have rr := keepA r7 (.cells #[.string ⟨l.toArray⟩, .string ⟨h.toArray⟩] 85)
    have hQR : w7.heap.size ≠ w.heap.size := by have := lt_of_heap r7; omega
    have BB : Below w.heap.size w (w7.alloc (.cells #[.string ⟨l.toArray⟩, .string ⟨h.toArray⟩] 85)) := (B1.trans (B7.mono B1.size)).alloc (by have := lt_of_heap r7; omega) _
    generalize w7.alloc (.cells #[.string ⟨l.toArray⟩, .string ⟨h.toArray⟩] 85) = W8 at zz rr BB ⊢
    generalize w7.heap.size = Q at zz hQR ⊢
    clear p0 p1 p2 p3 v7 r7 B7 hb7 v5 r5 B5 hb5 HV HA BV BW v2 r2
    by_cases hh : h = []
    · subst hh
      obtain ⟨z0, z1⟩ := two_cells zz
      obtain ⟨y0, y1⟩ := two_cells rr
      have f0 := frozen2 rr 0
      have f1 := frozen2 rr 1
      go_wp2_with fail
      go_region
      all_goals go_wp2_with fail
      all_goals
        obtain ⟨x0, x1⟩ := two_cells (V := ((W8.setCell ⟨w.heap.size, 0, none⟩ (.string ⟨l.toArray⟩)).setCell ⟨w.heap.size, 1, none⟩ (.string ⟨#[]⟩)).drew) (set2_heap rr (.string ⟨l.toArray⟩) (.string ⟨#[]⟩))
        refine bodyPost_ret (v := .tuple #[.agg #[.string ⟨l.toArray⟩, .string ⟨#[]⟩], .bool false]) ?_ rfl ⟨rfl, (below_res2 BB (Nat.le_refl _) (.string ⟨l.toArray⟩) (.string ⟨#[]⟩)).trans (below_drewN _ _ 1)⟩
        simp [results, Tryz.results66, go_sem, x0, x1]
    · have n1 : (h == []) = false := by simpa using hh
      have n2 : (h != []) = true := by simpa using hh
      have HE : Hid (Ending.returned (.tuple #[.agg #[.string ⟨l.toArray⟩, .string ⟨h.toArray⟩], .bool true]) = Ending.returned (.tuple #[.agg #[.string ⟨l.toArray⟩, .string ⟨h.toArray⟩], .bool (!h.isEmpty)])) := Lib.hid (by cases h with | nil => exact absurd rfl hh | cons x y => rfl)
      clear hh
      obtain ⟨z0, z1⟩ := two_cells zz
      obtain ⟨y0, y1⟩ := two_cells rr
      have f0 := frozen2 rr 0
      have f1 := frozen2 rr 1
      go_wp2_with fail
      go_region
      all_goals go_wp2_with fail
      all_goals
        obtain ⟨x0, x1⟩ := two_cells (V := ((W8.setCell ⟨w.heap.size, 0, none⟩ (.string ⟨l.toArray⟩)).setCell ⟨w.heap.size, 1, none⟩ (.string ⟨h.toArray⟩)).drew) (set2_heap rr (.string ⟨l.toArray⟩) (.string ⟨h.toArray⟩))
        refine bodyPost_ret (v := .tuple #[.agg #[.string ⟨l.toArray⟩, .string ⟨h.toArray⟩], .bool true]) ?_ rfl ⟨HE.out, (below_res2 BB (Nat.le_refl _) (.string ⟨l.toArray⟩) (.string ⟨h.toArray⟩)).trans (below_drewN _ _ 1)⟩
        simp [results, Tryz.results66, go_sem, x0, x1]
  · have zz := set2_heap z7 (.string ⟨l.toArray⟩) (.string ⟨h.toArray⟩)
    have hQR : w5.heap.size ≠ w.heap.size := by have := lt_of_heap (keepB (W := (w2.alloc (.cells #[.int .i64 (readA l 0), .int .i64 (readA l 1), .int .i64 (readA l 2), .slice U (readP l).length uc] 74)).drew) r2 hb5); omega
    have rr := (heap_far2 hQR.symm (.string ⟨l.toArray⟩) (.string ⟨h.toArray⟩)).trans r7
    have BB : Below w.heap.size w ((w7.setCell ⟨w5.heap.size, 0, none⟩ (.string ⟨l.toArray⟩)).setCell ⟨w5.heap.size, 1, none⟩ (.string ⟨h.toArray⟩)) := below_res2 (B1.trans (B7.mono B1.size)) (by have := lt_of_heap (keepB (W := (w2.alloc (.cells #[.int .i64 (readA l 0), .int .i64 (readA l 1), .int .i64 (readA l 2), .slice U (readP l).length uc] 74)).drew) r2 hb5); omega) _ _
    generalize (w7.setCell ⟨w5.heap.size, 0, none⟩ (.string ⟨l.toArray⟩)).setCell ⟨w5.heap.size, 1, none⟩ (.string ⟨h.toArray⟩) = W8 at zz rr BB ⊢
    generalize w5.heap.size = Q at zz hQR ⊢
    clear p0 p1 p2 p3 v7 r7 B7 hb7 v5 r5 B5 hb5 HV HA BV BW v2 r2
    by_cases hh : h = []
    · subst hh
      obtain ⟨z0, z1⟩ := two_cells zz
      obtain ⟨y0, y1⟩ := two_cells rr
      have f0 := frozen2 rr 0
      have f1 := frozen2 rr 1
      go_wp2_with fail
      go_region
      all_goals go_wp2_with fail
      all_goals
        obtain ⟨x0, x1⟩ := two_cells (V := ((W8.setCell ⟨w.heap.size, 0, none⟩ (.string ⟨l.toArray⟩)).setCell ⟨w.heap.size, 1, none⟩ (.string ⟨#[]⟩)).drew) (set2_heap rr (.string ⟨l.toArray⟩) (.string ⟨#[]⟩))
        refine bodyPost_ret (v := .tuple #[.agg #[.string ⟨l.toArray⟩, .string ⟨#[]⟩], .bool false]) ?_ rfl ⟨rfl, (below_res2 BB (Nat.le_refl _) (.string ⟨l.toArray⟩) (.string ⟨#[]⟩)).trans (below_drewN _ _ 1)⟩
        simp [results, Tryz.results66, go_sem, x0, x1]
    · have n1 : (h == []) = false := by simpa using hh
      have n2 : (h != []) = true := by simpa using hh
      have HE : Hid (Ending.returned (.tuple #[.agg #[.string ⟨l.toArray⟩, .string ⟨h.toArray⟩], .bool true]) = Ending.returned (.tuple #[.agg #[.string ⟨l.toArray⟩, .string ⟨h.toArray⟩], .bool (!h.isEmpty)])) := Lib.hid (by cases h with | nil => exact absurd rfl hh | cons x y => rfl)
      clear hh
      obtain ⟨z0, z1⟩ := two_cells zz
      obtain ⟨y0, y1⟩ := two_cells rr
      have f0 := frozen2 rr 0
      have f1 := frozen2 rr 1
      go_wp2_with fail
      go_region
      all_goals go_wp2_with fail
      all_goals
        obtain ⟨x0, x1⟩ := two_cells (V := ((W8.setCell ⟨w.heap.size, 0, none⟩ (.string ⟨l.toArray⟩)).setCell ⟨w.heap.size, 1, none⟩ (.string ⟨h.toArray⟩)).drew) (set2_heap rr (.string ⟨l.toArray⟩) (.string ⟨h.toArray⟩))
        refine bodyPost_ret (v := .tuple #[.agg #[.string ⟨l.toArray⟩, .string ⟨h.toArray⟩], .bool true]) ?_ rfl ⟨HE.out, (below_res2 BB (Nat.le_refl _) (.string ⟨l.toArray⟩) (.string ⟨h.toArray⟩)).trans (below_drewN _ _ 1)⟩
        simp [results, Tryz.results66, go_sem, x0, x1]
  · have zz := set2_heap z7 (.string ⟨l.toArray⟩) (.string ⟨h.toArray⟩)
    have hQR : (w2.heap.size + 1) ≠ w.heap.size := by omega
    have rr := (heap_far2 hQR.symm (.string ⟨l.toArray⟩) (.string ⟨h.toArray⟩)).trans r7
    have BB : Below w.heap.size w ((w7.setCell ⟨(w2.heap.size + 1), 0, none⟩ (.string ⟨l.toArray⟩)).setCell ⟨(w2.heap.size + 1), 1, none⟩ (.string ⟨h.toArray⟩)) := below_res2 (B1.trans (B7.mono B1.size)) (by omega) _ _
    generalize (w7.setCell ⟨(w2.heap.size + 1), 0, none⟩ (.string ⟨l.toArray⟩)).setCell ⟨(w2.heap.size + 1), 1, none⟩ (.string ⟨h.toArray⟩) = W8 at zz rr BB ⊢
    generalize w2.heap.size + 1 = Q at zz hQR ⊢
    clear p0 p1 p2 p3 v7 r7 B7 hb7 v5 r5 B5 hb5 HV HA BV BW v2 r2
    by_cases hh : h = []
    · subst hh
      obtain ⟨z0, z1⟩ := two_cells zz
      obtain ⟨y0, y1⟩ := two_cells rr
      have f0 := frozen2 rr 0
      have f1 := frozen2 rr 1
      go_wp2_with fail
      go_region
      all_goals go_wp2_with fail
      all_goals
        obtain ⟨x0, x1⟩ := two_cells (V := ((W8.setCell ⟨w.heap.size, 0, none⟩ (.string ⟨l.toArray⟩)).setCell ⟨w.heap.size, 1, none⟩ (.string ⟨#[]⟩)).drew) (set2_heap rr (.string ⟨l.toArray⟩) (.string ⟨#[]⟩))
        refine bodyPost_ret (v := .tuple #[.agg #[.string ⟨l.toArray⟩, .string ⟨#[]⟩], .bool false]) ?_ rfl ⟨rfl, (below_res2 BB (Nat.le_refl _) (.string ⟨l.toArray⟩) (.string ⟨#[]⟩)).trans (below_drewN _ _ 1)⟩
        simp [results, Tryz.results66, go_sem, x0, x1]
    · have n1 : (h == []) = false := by simpa using hh
      have n2 : (h != []) = true := by simpa using hh
      have HE : Hid (Ending.returned (.tuple #[.agg #[.string ⟨l.toArray⟩, .string ⟨h.toArray⟩], .bool true]) = Ending.returned (.tuple #[.agg #[.string ⟨l.toArray⟩, .string ⟨h.toArray⟩], .bool (!h.isEmpty)])) := Lib.hid (by cases h with | nil => exact absurd rfl hh | cons x y => rfl)
      clear hh
      obtain ⟨z0, z1⟩ := two_cells zz
      obtain ⟨y0, y1⟩ := two_cells rr
      have f0 := frozen2 rr 0
      have f1 := frozen2 rr 1
      go_wp2_with fail
      go_region
      all_goals go_wp2_with fail
      all_goals
        obtain ⟨x0, x1⟩ := two_cells (V := ((W8.setCell ⟨w.heap.size, 0, none⟩ (.string ⟨l.toArray⟩)).setCell ⟨w.heap.size, 1, none⟩ (.string ⟨h.toArray⟩)).drew) (set2_heap rr (.string ⟨l.toArray⟩) (.string ⟨h.toArray⟩))
        refine bodyPost_ret (v := .tuple #[.agg #[.string ⟨l.toArray⟩, .string ⟨h.toArray⟩], .bool true]) ?_ rfl ⟨HE.out, (below_res2 BB (Nat.le_refl _) (.string ⟨l.toArray⟩) (.string ⟨h.toArray⟩)).trans (below_drewN _ _ 1)⟩
        simp [results, Tryz.results66, go_sem, x0, x1]
end Go.Proofs.YtcfkhfbhmjfhdaaGreatDoor

/-
  impl.Exact: the bound of one version alone.
-/
namespace Go.Proofs.YtcfkhfbhmjfhdaaGreatDoor
open Go.RowKit

set_option maxRecDepth 100000 in
set_option maxHeartbeats 4000000 in
theorem implExact_any (l : List UInt8) (w : World) (hl : l.length ≤ 1048576) (ht : Tab w) : Calls Tryz.prog 45 #[.string ⟨l.toArray⟩] w (ExactIs w l) := by
  cases hok : readOk l with
  | false =>
    have HA := Lib.hid (readFrom_no l w hl hok)
    have HX := Lib.hid (exB_no (exOk_bad hok))
    clear hok ht
    go_enter Tryz.func45, Tryz.ntmps45
    go_wp2_with fail
    refine HA.out.mono ?_
    rintro e w1 ⟨rfl, hb1⟩
    go_wp2_with fail
    go_ret
    refine ⟨w1.heap.size + 1, by rw [HX.out]; rfl, by have := hb1.size; omega, ?_, (hb1.alloc hb1.size _).alloc (by have := hb1.size; simp; omega) _⟩
    rw [HX.out]
    exact heap_new (by simp) _
  | true =>
    have HA := Lib.hid (readFrom_yes l w hl hok ht)
    have ho := exOk_of hok
    obtain ⟨hi, HHI⟩ : ∃ hi, Hid (exHigh l = hi) := ⟨_, Lib.hid rfl⟩
    have HY := Lib.hid (fun h => (exB_yes (l := l) h))
    have HN := Lib.hid (fun h => (exB_no (l := l) h))
    rw [HHI.out] at HA ho HY
    clear hok ht
    cases he : hi.isEmpty with
    | true =>
      have HX := Lib.hid (HN.out (by rw [ho, he]; rfl))
      rw [he] at HA
      clear he ho HY HN
      go_enter Tryz.func45, Tryz.ntmps45
      go_wp2_with fail
      refine HA.out.mono ?_
      rintro e w1 ⟨rfl, hb1⟩
      go_wp2_with fail
      go_ret
      refine ⟨w1.heap.size + 1, by rw [HX.out]; rfl, by have := hb1.size; omega, ?_, (hb1.alloc hb1.size _).alloc (by have := hb1.size; simp; omega) _⟩
      rw [HX.out]
      exact heap_new (by simp) _
    | false =>
      have HX := Lib.hid (HY.out (by rw [ho, he]; rfl))
      rw [he] at HA
      clear he ho HY HN
      go_enter Tryz.func45, Tryz.ntmps45
      go_wp2_with fail
      refine HA.out.mono ?_
      rintro e w1 ⟨rfl, hb1⟩
      go_wp2_with fail
      go_ret
      refine ⟨w1.heap.size + 1, by rw [HX.out]; rfl, by have := hb1.size; omega, ?_, (hb1.alloc hb1.size _).alloc (by have := hb1.size; simp; omega) _⟩
      rw [HX.out]
      exact heap_new (by simp) _
end Go.Proofs.YtcfkhfbhmjfhdaaGreatDoor

/-
  impl.sumsOk: whether sums are right.
-/
namespace Go.Proofs.YtcfkhfbhmjfhdaaGreatDoor
open Go.RowKit

set_option maxRecDepth 100000 in
theorem sumSize_any (a : List UInt8) (w : World) : Calls Tryz.prog 68 #[.string ⟨a.toArray⟩] w fun e w' => e = .returned (.int .i64 (sizeI a)) ∧ w = w' := by
  by_cases h1 : a = sha1L
  · subst h1
    go_enter Tryz.func68, Tryz.ntmps68
    go_wp2
    go_ret
    exact ⟨rfl, rfl⟩
  · by_cases h2 : a = sha256L
    · subst h2
      go_enter Tryz.func68, Tryz.ntmps68
      go_wp2
      go_ret
      exact ⟨rfl, rfl⟩
    · by_cases h0 : a = h1L
      · subst h0
        go_enter Tryz.func68, Tryz.ntmps68
        go_wp2
        go_ret
        exact ⟨rfl, rfl⟩
      · by_cases h3 : a = sha512L
        · subst h3
          go_enter Tryz.func68, Tryz.ntmps68
          go_wp2
          go_ret
          exact ⟨rfl, rfl⟩
        · have HX : Hid (sizeI a = 0) := Lib.hid (by unfold sizeI longI; rw [if_neg h1, if_neg h2, if_neg h0, if_neg h3]; rfl)
          have q1 : (a == [115, 104, 97, 49]) = false := by simpa [sha1L] using h1
          have q2 : (a == [115, 104, 97, 50, 53, 54]) = false := by simpa [sha256L] using h2
          have q3 : (a == [104, 49]) = false := by simpa [h1L] using h0
          have q4 : (a == [115, 104, 97, 53, 49, 50]) = false := by simpa [sha512L] using h3
          clear h1 h2 h0 h3
          go_enter Tryz.func68, Tryz.ntmps68
          go_wp2
          go_ret
          exact ⟨ret_int HX.out.symm, rfl⟩

set_option maxRecDepth 100000 in
set_option maxHeartbeats 4000000 in
theorem sumsOkG_any (v : Value) (bs : List Bd) (w : World) (ha : RdB w v bs) (hn : bs.length ≤ 1048577) (hsm : ∀ b ∈ bs, b.2.length ≤ 1048577) :
    Calls Tryz.prog 47 #[v] w fun e w' => e = .returned (.bool (sumsOkL bs)) ∧ Below w.heap.size w w' := by
  have HA := Lib.hid ha
  have HSM := Lib.hid hsm
  obtain ⟨A, ca, rfl, _⟩ := ha
  obtain ⟨r, HR⟩ : ∃ r, Hid (sumsOkL bs = r) := ⟨_, Lib.hid rfl⟩
  rw [HR.out]
  clear hsm
  go_enter Tryz.func47, Tryz.ntmps47
  go_wp2_with fail
  go_loopw [3, 4, 5, 8] (fun _ _ _ i wr => ∃ k : Nat, k ≤ bs.length ∧ i = .int .i64 k ∧ Hid (sumsTo bs k = true) ∧ Below w.heap.size w wr) (fun _ _ _ i _ => bs.length - (intOf i).toNat)
  case atStart => exact ⟨0, Nat.zero_le _, rfl, Lib.hid rfl, Below.refl _ _⟩
  case round =>
    obtain ⟨k, hk, rfl, HT, hbr⟩ := hrel
    by_cases hlt : k < bs.length
    · have k0 : (0 : Int) ≤ (k : Int) := by omega
      have k1 : (k : Int) < (bs.length : Int) := by omega
      have hbl : bs[k].2.length ≤ 1048577 := HSM.out bs[k] (List.getElem_mem hlt)
      obtain ⟨g, off, rfl, hgl, d1, d2⟩ := (HA.out.below hbr).at k hlt
      have HL := Lib.hid (fun W => sumSize_any bs[k].1 W)
      have hlb := longI_bd bs[k].1
      have HQ := Lib.hid (fun (h : sumAt bs k = false) => (show r = false by rw [← HR.out, sums_bad hlt h]))
      have HSB := Lib.hid (size_bad (a := bs[k].1))
      have HSG := Lib.hid (size_good (a := bs[k].1))
      obtain ⟨u, HU⟩ : ∃ u, Hid (longI bs[k].1 = u) := ⟨_, Lib.hid rfl⟩
      obtain ⟨sz, HSZ⟩ : ∃ u, Hid (sizeI bs[k].1 = u) := ⟨_, Lib.hid rfl⟩
      simp only [HSZ.out] at HL
      rw [HU.out] at hlb
      rw [HSZ.out, HU.out] at HSB HSG
      have HZ0 := Lib.hid (fun (h : k = 0) => (show sumAt bs k = decide (u = (bs[k].2.length : Int)) by subst h; rw [← HU.out]; exact sumAt_zero hlt))
      have HZ1 := Lib.hid (fun (j : Nat) (h : k = j + 1) => (show sumAt bs k = (decide (u = (bs[k].2.length : Int)) && Op.bytesLess (bs[j]'(by omega)).1 bs[k].1) by subst h; rw [← HU.out]; exact sumAt_more hlt))
      have HTT := Lib.hid (fun (h : sumAt bs k = true) => sums_step HT.out h)
      have HAR := Lib.hid (HA.out.below hbr)
      obtain ⟨al, HAL⟩ : ∃ al, Hid (bs[k].1 = al) := ⟨_, Lib.hid rfl⟩
      obtain ⟨by_, HBY⟩ : ∃ by_, Hid (bs[k].2 = by_) := ⟨_, Lib.hid rfl⟩
      rw [HAL.out] at d1
      rw [HBY.out] at d2 hbl
      simp only [HAL.out] at HL HZ1
      simp only [HBY.out] at HZ0 HZ1
      have B1 : Below w.heap.size w (wr.alloc (.cells #[.string ⟨al.toArray⟩, .string ⟨by_.toArray⟩] 61)) := hbr.alloc hbr.size _
      have HBAD : Hid (¬ u = (by_.length : Int) → r = false) := Lib.hid (fun hq => by
        apply HQ.out
        by_cases hz : k = 0
        · rw [HZ0.out hz]; exact decide_eq_false hq
        · rw [HZ1.out (k - 1) (by omega), decide_eq_false hq]; rfl)
      by_cases hs0 : sz = 0
      · have HX : Hid (r = false) := Lib.hid (HBAD.out (HSB.out hs0 _))
        have q0 : (sz == 0) = true := int_beq_true hs0
        clear hs0 HQ HZ0 HZ1 HTT HAR HBAD HSB HSG
        go_wp2_with fail
        refine (HL.out _).mono ?_
        rintro e w1 ⟨rfl, rfl⟩
        go_wp2_with fail
        go_quiet (fail)
        go_wp2_with fail
        go_ret
        exact ⟨ret_bool HX.out.symm, B1.trans (below_drewN _ _ _)⟩
      · have q0 : (sz == 0) = false := int_beq_false hs0
        have hsu := HSG.out hs0
        by_cases hq : u = (by_.length : Int)
        · have q1 : ((by_.length : Int) != sz) = false := int_bne_false (by omega)
          by_cases hz : k = 0
          · have HN2 := Lib.hid (HTT.out (by rw [HZ0.out hz]; exact decide_eq_true hq))
            have g0 : ¬ (0 : Int) < (k : Int) := by omega
            have g1 : decide (0 < k) = false := by simp; omega
            clear hs0 hsu hq hz HQ HZ0 HZ1 HTT HAR HBAD HSB HSG
            go_wp2_with fail
            refine (HL.out _).mono ?_
            rintro e w1 ⟨rfl, rfl⟩
            go_wp2_with fail
            go_quiet (fail)
            go_wp2_with fail
            go_roundw
            case rel => exact ⟨k + 1, by omega, by go_num, HN2, B1.trans (below_drewN _ _ _)⟩
            case measure => simp [intOf]; omega
          · obtain ⟨j, hj⟩ : ∃ j, k = j + 1 := ⟨k - 1, by omega⟩
            have HZ2 := Lib.hid (HZ1.out j hj)
            have hjl : j < bs.length := by omega
            obtain ⟨g', off', hge, _, e1, e2⟩ := HAR.out.at j hjl
            clear e2
            simp only [Option.some.injEq, Addr.mk.injEq, and_true] at hge
            obtain ⟨rfl, rfl⟩ := hge
            have jw : IntKind.i64.wrap ((k : Int) - 1) = (j : Int) := by rw [show (k : Int) - 1 = (j : Int) by omega]; exact IntWalk.i64_in _ (by omega)
            have g0 : (0 : Int) < (k : Int) := by omega
            have g1 : decide (0 < k) = true := by simp; omega
            have j0 : (0 : Int) ≤ (j : Int) := by omega
            have j1 : (j : Int) < (bs.length : Int) := by omega
            obtain ⟨pr, HPR⟩ : ∃ pr, Hid (bs[j].1 = pr) := ⟨_, Lib.hid rfl⟩
            rw [HPR.out] at e1 HZ2
            have e1' := keepC ((Below.refl _ wr).alloc (Nat.le_refl _) (.cells #[.string ⟨al.toArray⟩, .string ⟨by_.toArray⟩] 61)) e1
            cases hl : Op.bytesLess pr al with
            | true =>
              have HN2 := Lib.hid (HTT.out (by rw [HZ2.out, hl, decide_eq_true hq]; rfl))
              clear hs0 hsu hq hz HQ HZ0 HZ1 HTT hj HZ2 HAR HBAD HSB HSG
              go_wp2_with fail
              refine (HL.out _).mono ?_
              rintro e w1 ⟨rfl, rfl⟩
              go_wp2_with fail
              go_quiet (fail)
              go_wp2_with fail
              go_roundw
              case rel => exact ⟨k + 1, by omega, by go_num, HN2, B1.trans (below_drewN _ _ _)⟩
              case measure => simp [intOf]; omega
            | false =>
              have HX := Lib.hid (HQ.out (by rw [HZ2.out, hl, Bool.and_false]))
              clear hs0 hsu hq hz HQ HZ0 HZ1 HTT hj HZ2 HAR HBAD HSB HSG
              go_wp2_with fail
              refine (HL.out _).mono ?_
              rintro e w1 ⟨rfl, rfl⟩
              go_wp2_with fail
              go_quiet (fail)
              go_wp2_with fail
              go_ret
              exact ⟨ret_bool HX.out.symm, B1.trans (below_drewN _ _ _)⟩
        · have q1 : ((by_.length : Int) != sz) = true := int_bne_true (by omega)
          have HX : Hid (r = false) := Lib.hid (HBAD.out hq)
          clear hs0 hsu hq HQ HZ0 HZ1 HTT HAR HBAD HSB HSG
          go_wp2_with fail
          refine (HL.out _).mono ?_
          rintro e w1 ⟨rfl, rfl⟩
          go_wp2_with fail
          go_quiet (fail)
          go_wp2_with fail
          go_ret
          exact ⟨ret_bool HX.out.symm, B1.trans (below_drewN _ _ _)⟩
    · have HOK : Hid (r = true) := Lib.hid (by rw [← HR.out, sums_end HT.out (by omega)])
      go_wp2_with fail
      go_ret
      exact ⟨ret_bool HOK.out.symm, hbr⟩
theorem sumsOk_any (v : Value) (bs : List Bd) (w : World) (ha : RdB w v bs) (hsm : SmB bs) :
    Calls Tryz.prog 47 #[v] w fun e w' => e = .returned (.bool (sumsOkL bs)) ∧ Below w.heap.size w w' := by
  unfold SmB at hsm
  exact sumsOkG_any v bs w ha (by omega) (fun b hb => by have := smB_mem b hb; omega)
end Go.Proofs.YtcfkhfbhmjfhdaaGreatDoor

/-
  impl.NameOk returns whether a string is a package name, as spec.NameOk does.
-/
namespace Go.Proofs.YtcfkhfbhmjfhdaaGreatDoor
open Go.RowKit Go.Shelf
attribute [local go_sem] Oper.semAt_some

theorem name_waysI (z : Int) : lowI z = true ∨ (lowI z = false ∧ digI z = true) ∨ (lowI z = false ∧ digI z = false ∧ (z == 46) = true) ∨ (lowI z = false ∧ digI z = false ∧ (z == 46) = false ∧ (z == 95) = true) ∨ (lowI z = false ∧ digI z = false ∧ (z == 46) = false ∧ (z == 95) = false ∧ (z == 45) = true) ∨ (lowI z = false ∧ digI z = false ∧ (z == 46) = false ∧ (z == 95) = false ∧ (z == 45) = false) := by
  cases lowI z <;> cases digI z <;> simp <;> omega
theorem name_yesI {z : Int} (h : lowI z = true ∨ digI z = true ∨ (z == 46) = true ∨ (z == 95) = true ∨ (z == 45) = true) : nameI z = true := by
  unfold lowI digI at h; unfold nameI; simp at h ⊢; omega
theorem name_noI {z : Int} (h : lowI z = false ∧ digI z = false ∧ (z == 46) = false ∧ (z == 95) = false ∧ (z == 45) = false) : nameI z = false := by
  unfold lowI digI at h; unfold nameI; simp at h ⊢; omega

set_option maxRecDepth 100000 in
set_option maxHeartbeats 2000000 in
theorem componentOk_any (q : ByteArray) (w : World) (hq : q.size ≤ 1048576) : Calls Tryz.prog 65 #[.string q] w fun e w' => e = .returned (.bool (compL q.data.toList)) ∧ w = w' := by
  go_enter Tryz.func65, Tryz.ntmps65
  go_wp2
  go_loop [3, 6] (fun _ k => ∃ m : Nat, m ≤ q.size ∧ k = .int .i64 m ∧ Hid ((q.data.toList.take m).all nameB = true)) (fun _ k => q.size - (intOf k).toNat)
  case atStart => exact ⟨0, Nat.zero_le _, rfl, Lib.hid (by simp)⟩
  case round =>
    obtain ⟨m, hm, rfl, HA⟩ := hrel
    by_cases hml : m < q.size
    · have c1 := (byte_lt q[m]).1
      have c2 := (byte_lt q[m]).2
      rcases name_waysI (q[m].toNat : Int) with z | ⟨z, y⟩ | ⟨z, y, z1⟩ | ⟨z, y, z1, z2⟩ | ⟨z, y, z1, z2, z3⟩ | ⟨z, y, z1, z2, z3⟩
      case inl =>
        have HY := Lib.hid (all_go q m nameB hml HA.out (name_yesI (.inl z)))
        have HS := Lib.hid z
        clear z
        go_wp2_with fail
        refine (isLower_any _ _ c2 c1).mono ?_
        rw [HS.out]
        rintro e w' ⟨rfl, rfl⟩
        go_wp2_with (go_at_call 91; fail)
        go_round
        case rel => exact ⟨m + 1, by omega, by go_num, HY⟩
        case measure => simp [intOf]; omega
      case inr.inl =>
        have HY := Lib.hid (all_go q m nameB hml HA.out (name_yesI (.inr (.inl y))))
        have HS := Lib.hid z
        have HT := Lib.hid y
        clear z y
        go_wp2_with fail
        refine (isLower_any _ _ c2 c1).mono ?_
        rw [HS.out]
        rintro e w' ⟨rfl, rfl⟩
        go_wp2_with fail
        refine (isDigit_any _ _ c2 c1).mono ?_
        rw [HT.out]
        rintro e w' ⟨rfl, rfl⟩
        go_wp2_with fail
        go_round
        case rel => exact ⟨m + 1, by omega, by go_num, HY⟩
        case measure => simp [intOf]; omega
      case inr.inr.inr.inr.inr =>
        have HX := Lib.hid (compL_bad (all_no q m nameB hml (name_noI ⟨z, y, z1, z2, z3⟩)))
        have HS := Lib.hid z
        have HT := Lib.hid y
        have y1 := bne_of_beq z1
        have y2 := bne_of_beq z2
        have y3 := bne_of_beq z3
        clear z y z1 z2 z3
        go_wp2_with fail
        refine (isLower_any _ _ c2 c1).mono ?_
        rw [HS.out]
        rintro e w' ⟨rfl, rfl⟩
        go_wp2_with fail
        refine (isDigit_any _ _ c2 c1).mono ?_
        rw [HT.out]
        rintro e w' ⟨rfl, rfl⟩
        go_wp2_with fail
        go_ret
        exact ⟨ret_bool HX.out.symm, rfl⟩
      all_goals
        have HY := Lib.hid (all_go q m nameB hml HA.out (name_yesI (by simp only [z1] at *; first | exact .inr (.inr (.inl trivial)) | exact .inr (.inr (.inr (.inl z2))) | exact .inr (.inr (.inr (.inr z3))))))
        have HS := Lib.hid z
        have HT := Lib.hid y
        have y1 := bne_of_beq z1
        try have y2 := bne_of_beq z2
        try have y3 := bne_of_beq z3
        clear z y z1
        try clear z2
        try clear z3
        go_wp2_with fail
        refine (isLower_any _ _ c2 c1).mono ?_
        rw [HS.out]
        rintro e w' ⟨rfl, rfl⟩
        go_wp2_with fail
        refine (isDigit_any _ _ c2 c1).mono ?_
        rw [HT.out]
        rintro e w' ⟨rfl, rfl⟩
        go_wp2_with fail
        go_round
        case rel => exact ⟨m + 1, by omega, by go_num, HY⟩
        case measure => simp [intOf]; omega
    · have HA2 := HA.out
      rw [take_end q m hml] at HA2
      by_cases hqe : q.data.toList.isEmpty = true
      · have HX := Lib.hid (compL_empty hqe)
        have e9 : q.toList.isEmpty = true := by rw [ByteArray.toList_eq]; exact hqe
        clear hqe HA2
        go_wp2_with fail
        go_ret
        exact ⟨ret_bool HX.out.symm, rfl⟩
      · have hqe' : q.data.toList.isEmpty = false := by simpa using hqe
        have HX := Lib.hid (compL_good hqe' HA2)
        have e9 : q.toList.isEmpty = false := by rw [ByteArray.toList_eq]; exact hqe'
        clear hqe hqe' HA2
        go_wp2_with fail
        go_ret
        exact ⟨ret_bool HX.out.symm, rfl⟩
end Go.Proofs.YtcfkhfbhmjfhdaaGreatDoor

/-
  impl.NameOk returns whether a string is a package name, as spec.NameOk does.
-/
namespace Go.Proofs.YtcfkhfbhmjfhdaaGreatDoor
open Go.RowKit Go.Shelf
attribute [local go_sem] Oper.semAt_some

def partsOk (sc : Bool) : List (List UInt8) → Bool
  | [] => true
  | p :: ps => chk sc p && ps.all (chk false)
theorem partsOk_snoc (sc : Bool) (pre : List (List UInt8)) (x : List UInt8) : partsOk sc (pre ++ [x]) = (partsOk sc pre && chk (sc && pre.isEmpty) x) := by
  cases pre with
  | nil => simp [partsOk]
  | cons p ps => simp [partsOk, Bool.and_assoc]
theorem map_empty (pre : List Part) : (pre.map Subtype.val).isEmpty = pre.isEmpty := by cases pre <;> rfl
theorem partsOk_prefix {sc : Bool} {pre P : List (List UInt8)} (h : pre <+: P) (hb : partsOk sc pre = false) : partsOk sc P = false := by
  obtain ⟨t, rfl⟩ := h
  cases pre with
  | nil => simp [partsOk] at hb
  | cons p ps =>
    simp only [partsOk, List.cons_append, List.all_append] at hb ⊢
    rw [Bool.and_eq_false_iff] at hb ⊢
    rcases hb with hb | hb
    · exact .inl hb
    · right; rw [hb]; rfl

set_option maxRecDepth 100000 in
set_option maxHeartbeats 4000000 in
theorem implNameOk_plain (n : Nat) (hn : 4 ≤ n) (s r : ByteArray) (w : World) (h0 : 0 < s.size) (h60 : s.size ≤ 60) (e1 : ((s[0].toNat : Int) == 64) = false) (hsr : r = s) (hr : r.size ≤ 60) :
    CallsIn Fence.wide n Tryz.prog 44 #[.string s] w fun e W' => e = .returned (.bool (partsOk false (cutL 47 r.data.toList))) ∧ Below w.heap.size w W' := by
  have h1 : 1 ≤ n := by omega
  have hn2 : 1 ≤ n - 1 - 1 := by omega
  subst hsr
  have t1 : decide ((r.size : Int) < 1) = false := by simp; omega
  have t2 : decide ((60 : Int) < (r.size : Int)) = false := by simp; omega
  refine callsIn_of_wp_marks Tryz.func44 rfl trivial ?_ rfl
  simp only [Tryz.ntmps44, List.size_toArray, List.length_cons, List.length_nil, Nat.reduceAdd, Nat.reduceSub, Array.replicate_succ, Array.replicate_zero, List.push_toArray, List.append_toArray, List.nil_append, List.cons_append]
  gi_wp2_with (refine ⟨trivial, ?_⟩; gi_at_call 64; refine (partsOf_in _ _ _ _).mono ?_; rintro e w' ⟨rfl, rfl⟩)
  have b1 := Boxed.new w 4 (.bool false)
  have b2 := Boxed.new (w.alloc (.cells #[.bool false] 4)) 4 (.bool false)
  have b3 := Boxed.new ((w.alloc (.cells #[.bool false] 4)).alloc (.cells #[.bool false] 4)) 9 (.string r)
  have b4 := Boxed.new (((w.alloc (.cells #[.bool false] 4)).alloc (.cells #[.bool false] 4)).alloc (.cells #[.string r] 9)) 5 (.int .u8 47)
  simp only [World.size_alloc] at b2 b3 b4
  have hB0 : Below w.heap.size w ((((w.alloc (.cells #[.bool false] 4)).alloc (.cells #[.bool false] 4)).alloc (.cells #[.string r] 9)).alloc (.cells #[.int .u8 47] 5)) := ((((Below.refl _ w).alloc (Nat.le_refl _) _).alloc (by simp) _).alloc (by simp; omega) _).alloc (by simp; omega) _
  have b1' := ((b1.alloc (.cells #[.bool false] 4)).alloc (.cells #[.string r] 9)).alloc (.cells #[.int .u8 47] 5)
  have b2' := (b2.alloc (.cells #[.string r] 9)).alloc (.cells #[.int .u8 47] 5)
  have b3' := b3.alloc (.cells #[.int .u8 47] 5)
  clear b1 b2 b3
  obtain ⟨W0, hW0⟩ : ∃ W0, ((((w.alloc (.cells #[.bool false] 4)).alloc (.cells #[.bool false] 4)).alloc (.cells #[.string r] 9)).alloc (.cells #[.int .u8 47] 5)) = W0 := ⟨_, rfl⟩
  have hsz : W0.heap.size = w.heap.size + 4 := by rw [← hW0]; simp
  rw [hW0] at b1' b2' b3' b4 hB0 ⊢
  clear hW0
  have HSZ := Lib.hid hsz
  clear hsz
  refine wpIn_rangeFunc_ownF rfl h1 (gf := 89) (lb := #[.pointer (some ⟨w.heap.size + 1 + 1, 0, none⟩), .pointer (some ⟨w.heap.size + 1 + 1 + 1, 0, none⟩)]) rfl trivial (enters_of Tryz.func89 (by kernel_rfl) rfl)
    (parts_stops (n - 1) (by omega) (w.heap.size + 1 + 1) (w.heap.size + 1 + 1 + 1) r 47 (by omega) W0 (by rw [HSZ.out]; omega) (by rw [HSZ.out]; omega) b3' b4) kpB_t (kpB_b (by rw [HSZ.out]; omega) (by rw [HSZ.out]; omega)) (Below.refl _ _) (fun _ => rfl)
    (fun pre W => ((partsOk false (pre.map Subtype.val) = true ∧ Boxed W w.heap.size 4 (.bool false)) ∧ Boxed W (w.heap.size + 1) 4 (.bool (false && pre.isEmpty))) ∧ Below w.heap.size w W)
    (fun c pre W => ((c = .ret ∧ partsOk false (pre.map Subtype.val) = false) ∧ Boxed W w.heap.size 4 (.bool false)) ∧ Below w.heap.size w W)
    (OwnFrom.and (OwnFrom.and (OwnFrom.and (ownFrom_pure _ _) (Own.from (boxed_own _ _ _) _)) (Own.from (boxed_own _ _ _) _)) (ownFrom_below (Nat.le_refl _) (by rw [HSZ.out]; omega)))
    (fun c => OwnFrom.and (OwnFrom.and (ownFrom_pure _ _) (Own.from (boxed_own _ _ _) _)) (ownFrom_below (Nat.le_refl _) (by rw [HSZ.out]; omega)))
    ⟨⟨⟨rfl, b1'⟩, b2'⟩, hB0⟩
    (fun x => { tmps := #[.string r, undef, .pointer (some ⟨w.heap.size, 0, none⟩), .pointer (some ⟨w.heap.size + 1, 0, none⟩), .string ⟨x.1.toArray⟩, .string r, .int .i64 r.size, .bool false, .bool false, .string r, .int .i64 r.size, .bool false, .bool false, .string r, .int .u8 r[0].toNat, .bool false, .bool false, undef, undef, .string r, .func (.func 89) #[] #[.pointer (some ⟨w.heap.size + 1 + 1, 0, none⟩), .pointer (some ⟨w.heap.size + 1 + 1 + 1, 0, none⟩)], .string ⟨x.1.toArray⟩, undef, undef, undef, undef, undef, undef, undef, undef, undef, undef, undef], defers := [] }) ?assign ?body ?done ?stop
  case assign =>
    intro l x W K hK
    unfold partV
    gi_wp2
    exact hK
  case body =>
    rintro l pre x W ⟨⟨⟨hg, hR⟩, hC⟩, hB⟩ _
    have HG := Lib.hid hg
    have cR := hR.cell
    have fR := hR.frozen
    have cC := hC.cell
    have fC := hC.frozen
    obtain ⟨b, hbE⟩ : ∃ b : ByteArray, b = ⟨x.1.toArray⟩ := ⟨_, rfl⟩
    have hbl : b.data.toList = x.1 := by rw [hbE]
    have hbs : b.size ≤ 1048576 := by rw [hbE]; show x.1.toArray.size ≤ _; simpa using x.2
    rw [← hbE]
    have HBL := Lib.hid hbl
    have hIE : (false && (pre ++ [x]).isEmpty) = false := by simp
    have HSN : Hid (partsOk false ((pre ++ [x]).map Subtype.val) = chk (false && pre.isEmpty) x.1) := Lib.hid (by rw [List.map_append, List.map_cons, List.map_nil, partsOk_snoc, hg, map_empty]; rfl)
    have HK1 : Hid (∀ u, KpB (w.heap.size + 1 + 1) (w.heap.size + 1 + 1 + 1) W (W.setCell ⟨w.heap.size + 1, 0, none⟩ u)) := Lib.hid (fun u => ⟨Below.heap_setCell _ _ _ _ (by simp), Below.heap_setCell _ _ _ _ (by simp; omega)⟩)
    clear hg hbE hbl
    by_cases hcl : compL b.data.toList = true
    · have HCL := Lib.hid hcl
      by_cases hnm : (b.data.toList == nmL) = true
      · have e2 : (b.toList == [110, 111, 100, 101, 95, 109, 111, 100, 117, 108, 101, 115]) = true := by rw [ByteArray.toList_eq]; exact hnm
        have HCH : Hid (chk (false && pre.isEmpty) x.1 = (false && pre.isEmpty)) := Lib.hid (by rw [← HBL.out]; unfold chk; rw [hcl, hnm]; simp)
        clear hcl hnm
        cases hcur : (false && pre.isEmpty) with
        | true =>
          have HCU : Hid (partsOk false ((pre ++ [x]).map Subtype.val) = true) := Lib.hid (by rw [HSN.out, HCH.out, hcur])
          rw [hcur] at cC hC
          clear hcur
          gi_wp2_with (refine ⟨trivial, ?_⟩; gi_at_call 65; refine (CallsIn.inRound l (callsIn_wide.2 (componentOk_any b _ hbs))).mono ?_; rw [HCL.out]; rintro e w' ⟨rfl, rfl⟩)
          exact ⟨KeepsOthers.setCell _ _ _, HK1.out _, ⟨⟨HCU.out, hR.other (by omega) _⟩, by rw [hIE]; exact hC.set _⟩, hB.setCell (p := ⟨w.heap.size + 1, 0, none⟩) (by simp) _⟩
        | false =>
          have HCU : Hid (partsOk false ((pre ++ [x]).map Subtype.val) = false) := Lib.hid (by rw [HSN.out, HCH.out, hcur])
          rw [hcur] at cC hC
          clear hcur
          gi_wp2_with (refine ⟨trivial, ?_⟩; gi_at_call 65; refine (CallsIn.inRound l (callsIn_wide.2 (componentOk_any b _ hbs))).mono ?_; rw [HCL.out]; rintro e w' ⟨rfl, rfl⟩)
          exact ⟨KeepsOthers.setCell _ _ _, ⟨⟨rfl, HCU.out⟩, hR.set _⟩, hB.setCell (p := ⟨w.heap.size, 0, none⟩) (by simp) _⟩
      · have hnm' : (b.data.toList == nmL) = false := by simpa using hnm
        have e2 : (b.toList == [110, 111, 100, 101, 95, 109, 111, 100, 117, 108, 101, 115]) = false := by rw [ByteArray.toList_eq]; exact hnm'
        have HCU : Hid (partsOk false ((pre ++ [x]).map Subtype.val) = true) := Lib.hid (by rw [HSN.out, ← HBL.out]; unfold chk; rw [hcl, hnm']; simp)
        clear hcl hnm hnm'
        generalize (false && pre.isEmpty) = cur at cC hC
        gi_wp2_with (refine ⟨trivial, ?_⟩; gi_at_call 65; refine (CallsIn.inRound l (callsIn_wide.2 (componentOk_any b _ hbs))).mono ?_; rw [HCL.out]; rintro e w' ⟨rfl, rfl⟩)
        exact ⟨KeepsOthers.setCell _ _ _, HK1.out _, ⟨⟨HCU.out, hR.other (by omega) _⟩, by rw [hIE]; exact hC.set _⟩, hB.setCell (p := ⟨w.heap.size + 1, 0, none⟩) (by simp) _⟩
    · have hcl' : compL b.data.toList = false := by simpa using hcl
      have HCL := Lib.hid hcl'
      have HCU : Hid (partsOk false ((pre ++ [x]).map Subtype.val) = false) := Lib.hid (by rw [HSN.out, ← HBL.out]; unfold chk; rw [hcl']; simp)
      clear hcl hcl'
      generalize (false && pre.isEmpty) = cur at cC hC
      gi_wp2_with (refine ⟨trivial, ?_⟩; gi_at_call 65; refine (CallsIn.inRound l (callsIn_wide.2 (componentOk_any b _ hbs))).mono ?_; rw [HCL.out]; rintro e w' ⟨rfl, rfl⟩)
      exact ⟨KeepsOthers.setCell _ _ _, ⟨⟨rfl, HCU.out⟩, hR.set _⟩, hB.setCell (p := ⟨w.heap.size, 0, none⟩) (by simp) _⟩
  case done =>
    rintro D ys W hD hys ⟨⟨⟨hg, hR⟩, hC⟩, hB⟩ hK
    rw [hys] at hg
    have HG := Lib.hid hg
    clear hg hys
    have cR := hR.cell
    have fR := hR.frozen
    gi_wp2
    have hK' := (KeepsOthers.setCell W ⟨w.heap.size, 0, none⟩ (.bool true)).same D _ hK rfl
    refine ⟨by simp, .inl ⟨_, _, rfl, run_takeDeferred hK', ?_⟩⟩
    have hc5 := cell_kept (hR.set (.bool true)).cell (grownBy_putObj' _ D (.deferred none)) (fun r e => by cases e; exact ⟨_, hK', rfl⟩)
    refine ⟨.bool true, ?_, by rw [HG.out], (hB.setCell (p := ⟨w.heap.size, 0, none⟩) (by simp) _).trans (belowK_b (w := w) (Nat.le_refl _) _ D _ _ (by have := HSZ.out; omega) hK' rfl rfl)⟩
    simp [results, Tryz.f44, go_sem, hc5]
  case stop =>
    rintro D c pre W hD hpre ⟨⟨⟨rfl, hbad⟩, hR⟩, hB⟩ hK
    have HG := Lib.hid (partsOk_prefix hpre hbad)
    clear hpre hbad
    gi_wp2
    refine ⟨by simp, .inl ⟨_, _, rfl, run_takeDeferred hK, ?_⟩⟩
    have hc5 := cell_kept hR.cell (grownBy_putObj' _ D (.deferred none)) (fun r e => by cases e; exact ⟨_, hK, rfl⟩)
    refine ⟨.bool false, ?_, by rw [HG.out], hB.trans (belowK_b (w := w) (Nat.le_refl _) W D _ _ (by have := HSZ.out; omega) hK rfl rfl)⟩
    simp [results, Tryz.f44, go_sem, hc5]

set_option maxRecDepth 100000 in
set_option maxHeartbeats 4000000 in
theorem implNameOk_scoped (n : Nat) (hn : 4 ≤ n) (s r : ByteArray) (w : World) (h0 : 0 < s.size) (h60 : s.size ≤ 60) (e1 : ((s[0].toNat : Int) == 64) = true) (he : ∀ W, (Instr.slice 9 (.string s) (some (.int .i64 1)) none none).run Tryz.prog W = .ok (.string r) W) (hr : r.size ≤ 60) :
    CallsIn Fence.wide n Tryz.prog 44 #[.string s] w fun e W' => e = .returned (.bool (partsOk true (cutL 47 r.data.toList))) ∧ Below w.heap.size w W' := by
  have h1 : 1 ≤ n := by omega
  have hn2 : 1 ≤ n - 1 - 1 := by omega
  have t1 : decide ((s.size : Int) < 1) = false := by simp; omega
  have t2 : decide ((60 : Int) < (s.size : Int)) = false := by simp; omega
  refine callsIn_of_wp_marks Tryz.func44 rfl trivial ?_ rfl
  simp only [Tryz.ntmps44, List.size_toArray, List.length_cons, List.length_nil, Nat.reduceAdd, Nat.reduceSub, Array.replicate_succ, Array.replicate_zero, List.push_toArray, List.append_toArray, List.nil_append, List.cons_append]
  gi_wp2_with (refine ⟨trivial, ?_⟩; gi_at_call 64; refine (partsOf_in _ _ _ _).mono ?_; rintro e w' ⟨rfl, rfl⟩)
  have b1 := Boxed.new w 4 (.bool false)
  have b2 := Boxed.new (w.alloc (.cells #[.bool false] 4)) 4 (.bool true)
  have b3 := Boxed.new ((w.alloc (.cells #[.bool false] 4)).alloc (.cells #[.bool true] 4)) 9 (.string r)
  have b4 := Boxed.new (((w.alloc (.cells #[.bool false] 4)).alloc (.cells #[.bool true] 4)).alloc (.cells #[.string r] 9)) 5 (.int .u8 47)
  simp only [World.size_alloc] at b2 b3 b4
  have hB0 : Below w.heap.size w ((((w.alloc (.cells #[.bool false] 4)).alloc (.cells #[.bool true] 4)).alloc (.cells #[.string r] 9)).alloc (.cells #[.int .u8 47] 5)) := ((((Below.refl _ w).alloc (Nat.le_refl _) _).alloc (by simp) _).alloc (by simp; omega) _).alloc (by simp; omega) _
  have b1' := ((b1.alloc (.cells #[.bool true] 4)).alloc (.cells #[.string r] 9)).alloc (.cells #[.int .u8 47] 5)
  have b2' := (b2.alloc (.cells #[.string r] 9)).alloc (.cells #[.int .u8 47] 5)
  have b3' := b3.alloc (.cells #[.int .u8 47] 5)
  clear b1 b2 b3
  obtain ⟨W0, hW0⟩ : ∃ W0, ((((w.alloc (.cells #[.bool false] 4)).alloc (.cells #[.bool true] 4)).alloc (.cells #[.string r] 9)).alloc (.cells #[.int .u8 47] 5)) = W0 := ⟨_, rfl⟩
  have hsz : W0.heap.size = w.heap.size + 4 := by rw [← hW0]; simp
  rw [hW0] at b1' b2' b3' b4 hB0 ⊢
  clear hW0
  have HSZ := Lib.hid hsz
  clear hsz
  refine wpIn_rangeFunc_ownF rfl h1 (gf := 89) (lb := #[.pointer (some ⟨w.heap.size + 1 + 1, 0, none⟩), .pointer (some ⟨w.heap.size + 1 + 1 + 1, 0, none⟩)]) rfl trivial (enters_of Tryz.func89 (by kernel_rfl) rfl)
    (parts_stops (n - 1) (by omega) (w.heap.size + 1 + 1) (w.heap.size + 1 + 1 + 1) r 47 (by omega) W0 (by rw [HSZ.out]; omega) (by rw [HSZ.out]; omega) b3' b4) kpB_t (kpB_b (by rw [HSZ.out]; omega) (by rw [HSZ.out]; omega)) (Below.refl _ _) (fun _ => rfl)
    (fun pre W => ((partsOk true (pre.map Subtype.val) = true ∧ Boxed W w.heap.size 4 (.bool false)) ∧ Boxed W (w.heap.size + 1) 4 (.bool (true && pre.isEmpty))) ∧ Below w.heap.size w W)
    (fun c pre W => ((c = .ret ∧ partsOk true (pre.map Subtype.val) = false) ∧ Boxed W w.heap.size 4 (.bool false)) ∧ Below w.heap.size w W)
    (OwnFrom.and (OwnFrom.and (OwnFrom.and (ownFrom_pure _ _) (Own.from (boxed_own _ _ _) _)) (Own.from (boxed_own _ _ _) _)) (ownFrom_below (Nat.le_refl _) (by rw [HSZ.out]; omega)))
    (fun c => OwnFrom.and (OwnFrom.and (ownFrom_pure _ _) (Own.from (boxed_own _ _ _) _)) (ownFrom_below (Nat.le_refl _) (by rw [HSZ.out]; omega)))
    ⟨⟨⟨rfl, b1'⟩, b2'⟩, hB0⟩
    (fun x => { tmps := #[.string r, undef, .pointer (some ⟨w.heap.size, 0, none⟩), .pointer (some ⟨w.heap.size + 1, 0, none⟩), .string ⟨x.1.toArray⟩, .string s, .int .i64 s.size, .bool false, .bool false, .string s, .int .i64 s.size, .bool false, .bool false, .string s, .int .u8 s[0].toNat, .bool true, .bool true, .string s, .string r, .string r, .func (.func 89) #[] #[.pointer (some ⟨w.heap.size + 1 + 1, 0, none⟩), .pointer (some ⟨w.heap.size + 1 + 1 + 1, 0, none⟩)], .string ⟨x.1.toArray⟩, undef, undef, undef, undef, undef, undef, undef, undef, undef, undef, undef], defers := [] }) ?assign ?body ?done ?stop
  case assign =>
    intro l x W K hK
    unfold partV
    gi_wp2
    exact hK
  case body =>
    rintro l pre x W ⟨⟨⟨hg, hR⟩, hC⟩, hB⟩ _
    have HG := Lib.hid hg
    have cR := hR.cell
    have fR := hR.frozen
    have cC := hC.cell
    have fC := hC.frozen
    obtain ⟨b, hbE⟩ : ∃ b : ByteArray, b = ⟨x.1.toArray⟩ := ⟨_, rfl⟩
    have hbl : b.data.toList = x.1 := by rw [hbE]
    have hbs : b.size ≤ 1048576 := by rw [hbE]; show x.1.toArray.size ≤ _; simpa using x.2
    rw [← hbE]
    have HBL := Lib.hid hbl
    have hIE : (true && (pre ++ [x]).isEmpty) = false := by simp
    have HSN : Hid (partsOk true ((pre ++ [x]).map Subtype.val) = chk (true && pre.isEmpty) x.1) := Lib.hid (by rw [List.map_append, List.map_cons, List.map_nil, partsOk_snoc, hg, map_empty]; rfl)
    have HK1 : Hid (∀ u, KpB (w.heap.size + 1 + 1) (w.heap.size + 1 + 1 + 1) W (W.setCell ⟨w.heap.size + 1, 0, none⟩ u)) := Lib.hid (fun u => ⟨Below.heap_setCell _ _ _ _ (by simp), Below.heap_setCell _ _ _ _ (by simp; omega)⟩)
    clear hg hbE hbl
    by_cases hcl : compL b.data.toList = true
    · have HCL := Lib.hid hcl
      by_cases hnm : (b.data.toList == nmL) = true
      · have e2 : (b.toList == [110, 111, 100, 101, 95, 109, 111, 100, 117, 108, 101, 115]) = true := by rw [ByteArray.toList_eq]; exact hnm
        have HCH : Hid (chk (true && pre.isEmpty) x.1 = (true && pre.isEmpty)) := Lib.hid (by rw [← HBL.out]; unfold chk; rw [hcl, hnm]; simp)
        clear hcl hnm
        cases hcur : (true && pre.isEmpty) with
        | true =>
          have HCU : Hid (partsOk true ((pre ++ [x]).map Subtype.val) = true) := Lib.hid (by rw [HSN.out, HCH.out, hcur])
          rw [hcur] at cC hC
          clear hcur
          gi_wp2_with (refine ⟨trivial, ?_⟩; gi_at_call 65; refine (CallsIn.inRound l (callsIn_wide.2 (componentOk_any b _ hbs))).mono ?_; rw [HCL.out]; rintro e w' ⟨rfl, rfl⟩)
          exact ⟨KeepsOthers.setCell _ _ _, HK1.out _, ⟨⟨HCU.out, hR.other (by omega) _⟩, by rw [hIE]; exact hC.set _⟩, hB.setCell (p := ⟨w.heap.size + 1, 0, none⟩) (by simp) _⟩
        | false =>
          have HCU : Hid (partsOk true ((pre ++ [x]).map Subtype.val) = false) := Lib.hid (by rw [HSN.out, HCH.out, hcur])
          rw [hcur] at cC hC
          clear hcur
          gi_wp2_with (refine ⟨trivial, ?_⟩; gi_at_call 65; refine (CallsIn.inRound l (callsIn_wide.2 (componentOk_any b _ hbs))).mono ?_; rw [HCL.out]; rintro e w' ⟨rfl, rfl⟩)
          exact ⟨KeepsOthers.setCell _ _ _, ⟨⟨rfl, HCU.out⟩, hR.set _⟩, hB.setCell (p := ⟨w.heap.size, 0, none⟩) (by simp) _⟩
      · have hnm' : (b.data.toList == nmL) = false := by simpa using hnm
        have e2 : (b.toList == [110, 111, 100, 101, 95, 109, 111, 100, 117, 108, 101, 115]) = false := by rw [ByteArray.toList_eq]; exact hnm'
        have HCU : Hid (partsOk true ((pre ++ [x]).map Subtype.val) = true) := Lib.hid (by rw [HSN.out, ← HBL.out]; unfold chk; rw [hcl, hnm']; simp)
        clear hcl hnm hnm'
        generalize (true && pre.isEmpty) = cur at cC hC
        gi_wp2_with (refine ⟨trivial, ?_⟩; gi_at_call 65; refine (CallsIn.inRound l (callsIn_wide.2 (componentOk_any b _ hbs))).mono ?_; rw [HCL.out]; rintro e w' ⟨rfl, rfl⟩)
        exact ⟨KeepsOthers.setCell _ _ _, HK1.out _, ⟨⟨HCU.out, hR.other (by omega) _⟩, by rw [hIE]; exact hC.set _⟩, hB.setCell (p := ⟨w.heap.size + 1, 0, none⟩) (by simp) _⟩
    · have hcl' : compL b.data.toList = false := by simpa using hcl
      have HCL := Lib.hid hcl'
      have HCU : Hid (partsOk true ((pre ++ [x]).map Subtype.val) = false) := Lib.hid (by rw [HSN.out, ← HBL.out]; unfold chk; rw [hcl']; simp)
      clear hcl hcl'
      generalize (true && pre.isEmpty) = cur at cC hC
      gi_wp2_with (refine ⟨trivial, ?_⟩; gi_at_call 65; refine (CallsIn.inRound l (callsIn_wide.2 (componentOk_any b _ hbs))).mono ?_; rw [HCL.out]; rintro e w' ⟨rfl, rfl⟩)
      exact ⟨KeepsOthers.setCell _ _ _, ⟨⟨rfl, HCU.out⟩, hR.set _⟩, hB.setCell (p := ⟨w.heap.size, 0, none⟩) (by simp) _⟩
  case done =>
    rintro D ys W hD hys ⟨⟨⟨hg, hR⟩, hC⟩, hB⟩ hK
    rw [hys] at hg
    have HG := Lib.hid hg
    clear hg hys
    have cR := hR.cell
    have fR := hR.frozen
    gi_wp2
    have hK' := (KeepsOthers.setCell W ⟨w.heap.size, 0, none⟩ (.bool true)).same D _ hK rfl
    refine ⟨by simp, .inl ⟨_, _, rfl, run_takeDeferred hK', ?_⟩⟩
    have hc5 := cell_kept (hR.set (.bool true)).cell (grownBy_putObj' _ D (.deferred none)) (fun r e => by cases e; exact ⟨_, hK', rfl⟩)
    refine ⟨.bool true, ?_, by rw [HG.out], (hB.setCell (p := ⟨w.heap.size, 0, none⟩) (by simp) _).trans (belowK_b (w := w) (Nat.le_refl _) _ D _ _ (by have := HSZ.out; omega) hK' rfl rfl)⟩
    simp [results, Tryz.f44, go_sem, hc5]
  case stop =>
    rintro D c pre W hD hpre ⟨⟨⟨rfl, hbad⟩, hR⟩, hB⟩ hK
    have HG := Lib.hid (partsOk_prefix hpre hbad)
    clear hpre hbad
    gi_wp2
    refine ⟨by simp, .inl ⟨_, _, rfl, run_takeDeferred hK, ?_⟩⟩
    have hc5 := cell_kept hR.cell (grownBy_putObj' _ D (.deferred none)) (fun r e => by cases e; exact ⟨_, hK, rfl⟩)
    refine ⟨.bool false, ?_, by rw [HG.out], hB.trans (belowK_b (w := w) (Nat.le_refl _) W D _ _ (by have := HSZ.out; omega) hK rfl rfl)⟩
    simp [results, Tryz.f44, go_sem, hc5]

/-- What both return. -/
theorem spec_impl (l : List UInt8) (h0 : 0 < l.length) (h60 : l.length ≤ 60) : specN l = if l.head? = some 64 then partsOk true (cutL 47 l.tail) else partsOk false (cutL 47 l) := by
  unfold specN
  rw [decide_eq_true h60, Bool.and_true]
  match l, h0 with
  | c :: t, _ =>
    by_cases hc : c = 64
    · subst hc
      have hcut : cutL 47 (64 :: t) = attach [64] (cutL 47 t) := by rw [cutL, if_neg (by decide)]
      rw [if_pos (show (64 :: t).head? = some 64 from rfl), hcut]
      cases hX : cutL 47 t with
      | nil => exact absurd hX (cutL_ne 47 t)
      | cons p ps =>
        simp only [attach, List.tail_cons]
        rw [hX]
        simp [chkS, partsOk, chk]
    · rw [if_neg (by simpa using hc)]
      cases hX : cutL 47 (c :: t) with
      | nil => exact absurd hX (cutL_ne 47 _)
      | cons p ps =>
        simp only [partsOk]
        have hp : p.head? ≠ some 64 := by
          by_cases h47 : c = 47
          · subst h47
            rw [cutL, if_pos rfl] at hX
            injection hX with hX _
            rw [← hX]; simp
          · rw [cutL, if_neg h47] at hX
            cases hY : cutL 47 t with
            | nil => exact absurd hY (cutL_ne 47 t)
            | cons q qs =>
              rw [hY] at hX
              simp only [attach] at hX
              injection hX with hX _
              rw [← hX]; simpa using hc
        unfold chkS
        rw [if_neg hp]
theorem spec_long (l : List UInt8) (h : l.length = 0 ∨ 60 < l.length) : specN l = false := by
  rcases h with h | h
  · have : l = [] := List.eq_nil_of_length_eq_zero h
    subst this; decide
  · unfold specN
    rw [decide_eq_false (by omega)]; simp

set_option maxRecDepth 100000 in
set_option maxHeartbeats 2000000 in
theorem implNameOk_out (s : ByteArray) (w : World) (h : s.size = 0 ∨ 60 < s.size) :
    CallsIn Fence.wide 4 Tryz.prog 44 #[.string s] w fun e W' => e = .returned (.bool false) ∧ Below w.heap.size w W' := by
  have b1 := Boxed.new w 4 (.bool false)
  have cR := b1.cell
  have fR := b1.frozen
  refine callsIn_of_wp_marks Tryz.func44 rfl trivial ?_ rfl
  simp only [Tryz.ntmps44, List.size_toArray, List.length_cons, List.length_nil, Nat.reduceAdd, Nat.reduceSub, Array.replicate_succ, Array.replicate_zero, List.push_toArray, List.append_toArray, List.nil_append, List.cons_append]
  rcases h with h | h
  · have t1 : decide ((s.size : Int) < 1) = true := by simp; omega
    have HH := Lib.hid h
    clear h
    gi_wp2
    refine ⟨.bool false, ?_, rfl, (Below.refl _ _).alloc (Nat.le_refl _) _⟩
    simp [results, Tryz.f44, go_sem, cR]
  · have t1 : decide ((s.size : Int) < 1) = false := by simp; omega
    have t2 : decide ((60 : Int) < (s.size : Int)) = true := by simp; omega
    clear h
    gi_wp2
    refine ⟨.bool false, ?_, rfl, (Below.refl _ _).alloc (Nat.le_refl _) _⟩
    simp [results, Tryz.f44, go_sem, cR]

theorem implNameOk_any (s : ByteArray) (w : World) :
    Calls Tryz.prog 44 #[.string s] w fun e W' => e = .returned (.bool (specN s.data.toList)) ∧ Below w.heap.size w W' := by
  refine (callsIn_wide (n := 4)).1 ?_
  by_cases h : s.size = 0 ∨ 60 < s.size
  · rw [spec_long s.data.toList (by simpa using h)]
    exact implNameOk_out s w h
  · have h0 : 0 < s.size := by omega
    have h60 : s.size ≤ 60 := by omega
    rw [spec_impl s.data.toList (by simpa using h0) (by simpa using h60)]
    have hd := drop_cons s 0 h0
    simp at hd
    by_cases h64 : s[0] = 64
    · rw [if_pos (by rw [hd]; simpa using h64)]
      have e : s.data.toList.tail = (s.extract 1 s.size).data.toList := by rw [piece_end]; simp
      rw [e]
      exact implNameOk_scoped 4 (by omega) s (s.extract 1 s.size) w h0 h60 (by rw [h64]; rfl) (slice_from s _ 1 1 rfl (by omega) rfl) (by simp; omega)
    · rw [if_neg (by rw [hd]; simpa using h64)]
      exact implNameOk_plain 4 (by omega) s s w h0 h60 (int_beq_false (fun h => h64 (UInt8.toNat_inj.1 (by show _ = (64 : Nat); omega)))) rfl h60
end Go.Proofs.YtcfkhfbhmjfhdaaGreatDoor

/-
  For every string of at most maxLen bytes, impl.PlainOk and spec.PlainOk both return whether all bytes are plain and there are at most 100.
-/
namespace Go.Proofs.YtcfkhfbhmjfhdaaGreatDoor
open Go.RowKit

set_option maxHeartbeats 1000000 in
theorem implPlainOk_any (s : ByteArray) (w : World) (hs : s.size ≤ maxLen) :
    Calls Tryz.prog 46 #[.string s] w fun e w' => e = .returned (.bool (plainL s.data.toList)) ∧ w = w' := by
  unfold maxLen at hs
  by_cases hl : 100 < s.size
  · go_enter Tryz.func46, Tryz.ntmps46
    go_wp2
    go_ret
    refine ⟨ret_bool ?_, rfl⟩
    unfold plainL; simp; intro _; exact hl
  · go_enter Tryz.func46, Tryz.ntmps46
    go_wp2
    go_loop [3, 4, 10] (fun _ _ n => ∃ k : Nat, k ≤ s.size ∧ n = .int .i64 k ∧ Hid ((s.data.toList.take k).all plainB = true)) (fun _ _ n => s.size - (intOf n).toNat)
    case atStart => exact ⟨0, Nat.zero_le _, rfl, Lib.hid (by simp)⟩
    case round =>
      obtain ⟨k, hk, rfl, H⟩ := hrel
      by_cases hlt : k < s.size
      · rcases plain_ways s[k] with h | h | h | h | h | h | h
        case inr.inr.inr.inr.inr.inr =>
          obtain ⟨h1, h2, h3, h4, h5, h6⟩ := plain_yes h
          have HH := Lib.hid h
          clear h
          go_wp2
          go_round
          case rel => exact ⟨k + 1, by omega, by go_num, Lib.hid (all_step s k _ hlt H.out HH.out)⟩
          case measure => simp [intOf]; omega
        all_goals
          have HH := Lib.hid (plain_bad s k hlt (plain_not (by omega)))
          go_wp2
          go_ret
          exact ⟨ret_bool HH.out.symm, rfl⟩
      · go_wp2
        go_ret
        refine ⟨ret_bool ?_, rfl⟩
        have := H.out
        rw [take_end s k hlt] at this
        unfold plainL; rw [this]; simp; omega

end Go.Proofs.YtcfkhfbhmjfhdaaGreatDoor

/-
  impl.PackOk: whether a pack is right.
-/
namespace Go.Proofs.YtcfkhfbhmjfhdaaGreatDoor
open Go.RowKit

theorem implExact_len (l : List UInt8) (w : World) (hl : l.length ≤ 1048576) (ht : Tab w) : Calls Tryz.prog 45 #[.string ⟨l.toArray⟩] w fun e w' => ∃ g n, n = (if exOk l = true then 1 else 0) ∧ e = .returned (.slice (some ⟨g, 0, none⟩) n n) ∧ Below w.heap.size w w' :=
  (implExact_any l w hl ht).mono (fun e w' h => by
    obtain ⟨g, rfl, _, _, hb⟩ := h
    exact ⟨g, _, exB_len l, rfl, hb⟩)

set_option maxRecDepth 100000 in
set_option maxHeartbeats 4000000 in
theorem implPackOk_any (p : Pk) (a b : Value) (w : World) (ha : RdB w a p.sums) (hb : RdS w b p.needs) (hp : SmPk p) (ht : Tab w) :
    Calls Tryz.prog 27 #[.agg #[.string ⟨p.name.toArray⟩, .string ⟨p.ver.toArray⟩, .string ⟨p.src.toArray⟩, a, .bool p.dev, b]] w fun e w' => e = .returned (.bool (pkOk p)) ∧ Below w.heap.size w w' := by
  obtain ⟨t1, t2, t3⟩ := hp.texts
  have hsm := hp.sums
  have HN : Hid (∀ W, Calls Tryz.prog 44 #[.string ⟨p.name.toArray⟩] W fun e w' => e = .returned (.bool (specN p.name)) ∧ Below W.heap.size W w') := Lib.hid (fun W => implNameOk_any ⟨p.name.toArray⟩ W)
  have HE := Lib.hid (fun (W : World) (h : Below w.heap.size w W) => implExact_len p.ver W t2 (tab_below ht h))
  have HP : Hid (∀ W, Calls Tryz.prog 46 #[.string ⟨p.src.toArray⟩] W fun e w' => e = .returned (.bool (plainL p.src)) ∧ W = w') := Lib.hid (fun W => implPlainOk_any ⟨p.src.toArray⟩ W (by show p.src.toArray.size ≤ maxLen; unfold maxLen; simp; omega))
  have HS := Lib.hid (fun (W : World) (h : Below w.heap.size w W) => sumsOk_any a p.sums W (ha.below h) hsm)
  obtain ⟨A, ca, rfl⟩ := ha.slice
  obtain ⟨B, cb, rfl⟩ := hb.slice
  obtain ⟨r, HR⟩ : ∃ r, Hid (pkOk p = r) := ⟨_, Lib.hid rfl⟩
  rw [HR.out]
  obtain ⟨x, HXX⟩ : ∃ x, Hid (specN p.name = x) := ⟨_, Lib.hid rfl⟩
  obtain ⟨y, HYY⟩ : ∃ y, Hid (exOk p.ver = y) := ⟨_, Lib.hid rfl⟩
  obtain ⟨z, HZZ⟩ : ∃ z, Hid (plainL p.src = z) := ⟨_, Lib.hid rfl⟩
  obtain ⟨s, HSS⟩ : ∃ s, Hid (sumsOkL p.sums = s) := ⟨_, Lib.hid rfl⟩
  have HRR : Hid (r = (s && (x && (y && z)))) := Lib.hid (by rw [← HR.out]; unfold pkOk; rw [HXX.out, HYY.out, HZZ.out, HSS.out])
  simp only [HXX.out] at HN
  simp only [HYY.out] at HE
  simp only [HZZ.out] at HP
  simp only [HSS.out] at HS
  clear ha hb hp hsm ht HXX HYY HZZ HSS HR
  obtain ⟨pn, pv, ps, bs, pd, pe⟩ := p
  simp only at HN HE HP HS t1 t2 t3 ⊢
  have B0 : Below w.heap.size w (w.alloc (.cells #[.string ⟨pn.toArray⟩, .string ⟨pv.toArray⟩, .string ⟨ps.toArray⟩, .slice A bs.length ca, .bool pd, .slice B pe.length cb] 43)) := (Below.refl _ _).alloc (Nat.le_refl _) _
  have bx := heap_alloc_new w (.cells #[.string ⟨pn.toArray⟩, .string ⟨pv.toArray⟩, .string ⟨ps.toArray⟩, .slice A bs.length ca, .bool pd, .slice B pe.length cb] 43)
  go_enter Tryz.func27, Tryz.ntmps27
  go_wp2_with fail
  refine (HN.out _).mono ?_
  rintro e w1 ⟨rfl, hb1⟩
  have B1 := B0.trans (hb1.mono B0.size)
  have b1 := keepB bx hb1
  obtain ⟨x0, x1, x2, x3, x4, x5⟩ := cells6 b1
  clear B0 bx hb1
  cases x with
  | false =>
    have HF : Hid (r = false) := Lib.hid (by rw [HRR.out]; simp)
    go_wp2_with fail
    go_ret
    exact ⟨ret_bool HF.out.symm, B1⟩
  | true =>
    go_wp2_with fail
    refine (HE.out _ B1).mono ?_
    rintro e w2 ⟨g, n, rfl, rfl, hb2⟩
    have B2 := B1.trans (hb2.mono B1.size)
    have b2 := keepB b1 hb2
    clear x0 x1 x2 x3 x4 x5
    obtain ⟨x0, x1, x2, x3, x4, x5⟩ := cells6 b2
    clear hb2 b1 B1
    cases y with
    | false =>
      have HF : Hid (r = false) := Lib.hid (by rw [HRR.out]; simp)
      go_wp2_with fail
      go_ret
      exact ⟨ret_bool HF.out.symm, B2⟩
    | true =>
      go_wp2_with fail
      refine (HP.out _).mono ?_
      rintro e w3 ⟨rfl, rfl⟩
      cases z with
      | false =>
        have HF : Hid (r = false) := Lib.hid (by rw [HRR.out]; simp)
        go_wp2_with fail
        go_ret
        exact ⟨ret_bool HF.out.symm, B2⟩
      | true =>
        have HF : Hid (r = s) := Lib.hid (by rw [HRR.out]; simp)
        go_wp2_with fail
        refine (HS.out _ B2).mono ?_
        rintro e w4 ⟨rfl, hb4⟩
        go_wp2_with fail
        go_ret
        exact ⟨ret_bool HF.out.symm, B2.trans (hb4.mono B2.size)⟩
end Go.Proofs.YtcfkhfbhmjfhdaaGreatDoor

/-
  The order of versions is total, in plain words: cmpVer answers the other way round where its arguments change places, 0 just where they are the same (of right versions), and it is transitive. Of no program.
-/
namespace Go.Proofs.YtcfkhfbhmjfhdaaGreatDoor
open Go.RowKit

theorem cmpI_neg (a b : Int) : cmpI b a = -cmpI a b := by unfold cmpI; split <;> split <;> (try split) <;> omega
theorem cmpI_zero {a b : Int} : cmpI a b = 0 ↔ a = b := by unfold cmpI; split <;> (try split) <;> omega
theorem cmpI_neg_iff {a b : Int} : cmpI a b < 0 ↔ a < b := by unfold cmpI; split <;> (try split) <;> omega
theorem cmpI_trans {a b c : Int} (h : cmpI a b ≤ 0) (h2 : cmpI b c ≤ 0) : cmpI a c ≤ 0 := by unfold cmpI at *; split at h <;> split at h2 <;> (try split at h) <;> (try split at h2) <;> split <;> (try split) <;> omega

theorem bl_irrefl (a : List UInt8) : Op.bytesLess a a = false := by
  induction a with
  | nil => rfl
  | cons x t ih => unfold Op.bytesLess; simp [ih]
theorem bl_asymm : ∀ (a b : List UInt8), Op.bytesLess a b = true → Op.bytesLess b a = false
  | _, [], h => by simp [Op.bytesLess] at h
  | [], _ :: _, _ => by simp [Op.bytesLess]
  | x :: a, y :: b, h => by
    unfold Op.bytesLess at h ⊢
    simp at h ⊢
    rcases h with h | ⟨h, h2⟩
    · refine ⟨by exact UInt8.le_of_lt h, fun e => ?_⟩
      subst e
      exact absurd h (by simp)
    · subst h
      exact ⟨by simp, fun _ => bl_asymm a b h2⟩
theorem bl_total : ∀ (a b : List UInt8), Op.bytesLess a b = true ∨ a = b ∨ Op.bytesLess b a = true
  | [], [] => by simp
  | [], _ :: _ => by simp [Op.bytesLess]
  | _ :: _, [] => by simp [Op.bytesLess]
  | x :: a, y :: b => by
    unfold Op.bytesLess
    simp
    rcases Nat.lt_trichotomy x.toNat y.toNat with h | h | h
    · exact .inl (.inl (UInt8.lt_iff_toNat_lt.2 h))
    · obtain rfl := UInt8.toNat_inj.1 h
      rcases bl_total a b with h | h | h
      · exact .inl (.inr ⟨rfl, h⟩)
      · exact .inr (.inl ⟨rfl, h⟩)
      · exact .inr (.inr (.inr ⟨rfl, h⟩))
    · exact .inr (.inr (.inl (UInt8.lt_iff_toNat_lt.2 h)))
theorem bl_trans : ∀ (a b c : List UInt8), Op.bytesLess a b = true → Op.bytesLess b c = true → Op.bytesLess a c = true
  | _, _, [], _, h2 => by simp [Op.bytesLess] at h2
  | _, [], _ :: _, h, _ => by simp [Op.bytesLess] at h
  | [], _ :: _, _ :: _, _, _ => by simp [Op.bytesLess]
  | x :: a, y :: b, z :: c, h, h2 => by
    unfold Op.bytesLess at h h2 ⊢
    simp at h h2 ⊢
    rcases h with h | ⟨rfl, h⟩
    · rcases h2 with h2 | ⟨rfl, h2⟩
      · exact .inl (UInt8.lt_trans h h2)
      · exact .inl h
    · rcases h2 with h2 | ⟨rfl, h2⟩
      · exact .inl h2
      · exact .inr ⟨rfl, bl_trans a b c h h2⟩

theorem cmpS_neg (a b : List UInt8) : cmpS b a = -cmpS a b := by
  unfold cmpS
  rcases bl_total a b with h | h | h
  · have h2 := bl_asymm a b h
    have h3 : ¬ b = a := fun e => by rw [e, bl_irrefl] at h; cases h
    simp [h, h2, h3]
  · subst h; simp [bl_irrefl]
  · have h2 := bl_asymm b a h
    have h3 : ¬ a = b := fun e => by rw [e, bl_irrefl] at h; cases h
    simp [h, h2, h3]
theorem cmpS_zero {a b : List UInt8} : cmpS a b = 0 ↔ a = b := by
  unfold cmpS
  constructor
  · intro h
    split at h
    · omega
    · split at h
      · assumption
      · omega
  · rintro rfl; simp [bl_irrefl]
theorem cmpS_trans {a b c : List UInt8} (h : cmpS a b ≤ 0) (h2 : cmpS b c ≤ 0) : cmpS a c ≤ 0 := by
  have f : ∀ x y, cmpS x y ≤ 0 → Op.bytesLess x y = true ∨ x = y := fun x y h => by
    unfold cmpS at h
    split at h
    · left; assumption
    · split at h
      · right; assumption
      · omega
  have g : ∀ x y, Op.bytesLess x y = true ∨ x = y → cmpS x y ≤ 0 := fun x y h => by
    unfold cmpS
    rcases h with h | h
    · rw [if_pos h]; omega
    · subst h; rw [bl_irrefl]; simp
  apply g
  rcases f _ _ h with h | rfl
  · rcases f _ _ h2 with h2 | rfl
    · exact .inl (bl_trans _ _ _ h h2)
    · exact .inl h
  · exact f _ _ h2

/-- f compares: the other way round it answers the other way round, and 'not greater' is transitive. -/
def Cmp {α : Type} (f : α → α → Int) : Prop := (∀ a b, f b a = -f a b) ∧ ∀ a b c, f a b ≤ 0 → f b c ≤ 0 → f a c ≤ 0
theorem cmp_I : Cmp cmpI := ⟨cmpI_neg, fun _ _ _ => cmpI_trans⟩
theorem cmp_S : Cmp cmpS := ⟨cmpS_neg, fun _ _ _ => cmpS_trans⟩
theorem Cmp.on {α β : Type} {f : β → β → Int} (h : Cmp f) (g : α → β) : Cmp (fun a b => f (g a) (g b)) := ⟨fun _ _ => h.1 _ _, fun _ _ _ => h.2 _ _ _⟩
theorem orI_neg (x y : Int) : orI (-x) (-y) = -orI x y := by unfold orI; split <;> split <;> omega
theorem orI_zero_iff {x y : Int} : orI x y = 0 ↔ x = 0 ∧ y = 0 := by unfold orI; split <;> omega
/-- One step of an order word by word. -/
theorem lex_trans {α : Type} {f : α → α → Int} (hf : Cmp f) (a b c : α) {p q r : Int} (hy : p ≤ 0 → q ≤ 0 → r ≤ 0) (h1 : orI (f a b) p ≤ 0) (h2 : orI (f b c) q ≤ 0) : orI (f a c) r ≤ 0 := by
  have n1 : f a b ≤ 0 := by unfold orI at h1; split at h1 <;> omega
  have n2 : f b c ≤ 0 := by unfold orI at h2; split at h2 <;> omega
  have n3 := hf.2 a b c n1 n2
  by_cases h0 : f a c = 0
  · have e1 : f c a ≤ 0 := by have := hf.1 a c; omega
    have e2 := hf.2 b c a n2 e1
    have e3 := hf.2 c a b e1 n1
    have m1 := hf.1 a b
    have m2 := hf.1 b c
    have z1 : f a b = 0 := by omega
    have z2 : f b c = 0 := by omega
    rw [z1, orI_zero] at h1
    rw [z2, orI_zero] at h2
    rw [h0, orI_zero]
    exact hy h1 h2
  · rw [orI_ne _ h0]; exact n3
theorem Cmp.lex {α : Type} {f g : α → α → Int} (hf : Cmp f) (hg : Cmp g) : Cmp (fun a b => orI (f a b) (g a b)) :=
  ⟨fun a b => by show orI (f b a) (g b a) = -orI (f a b) (g a b); rw [hf.1, hg.1, orI_neg], fun a b c h1 h2 => lex_trans hf a b c (hg.2 a b c) h1 h2⟩

def clsP (a : List UInt8) : Int := if 0 ≤ readL a then 0 else 1
def valP (a : List UInt8) : Int := if 0 ≤ readL a then readL a else 0
def txtP (a : List UInt8) : List UInt8 := if 0 ≤ readL a then [] else a
theorem cmpPart_eq (a b : List UInt8) : cmpPart a b = orI (cmpI (clsP a) (clsP b)) (orI (cmpI (valP a) (valP b)) (cmpS (txtP a) (txtP b))) := by
  unfold cmpPart clsP valP txtP
  have hs : cmpS [] [] = 0 := rfl
  by_cases ha : 0 ≤ readL a <;> by_cases hb : 0 ≤ readL b <;> simp only [ha, hb, if_true, if_false]
  · rw [cmpI_same, orI_zero, hs]; unfold orI; split <;> omega
  · rfl
  · rfl
  · rw [cmpI_same, orI_zero, cmpI_same, orI_zero]
theorem cmp_Part : Cmp cmpPart := by
  have h := (cmp_I.on clsP).lex ((cmp_I.on valP).lex (cmp_S.on txtP))
  have e : cmpPart = fun a b => orI (cmpI (clsP a) (clsP b)) (orI (cmpI (valP a) (valP b)) (cmpS (txtP a) (txtP b))) := funext fun a => funext fun b => cmpPart_eq a b
  rw [e]; exact h
theorem cmpPart_zero {a b : List UInt8} : cmpPart a b = 0 ↔ a = b := by
  constructor
  · intro h
    rw [cmpPart_eq, orI_zero_iff, orI_zero_iff, cmpI_zero, cmpI_zero, cmpS_zero] at h
    obtain ⟨h1, h2, h3⟩ := h
    unfold clsP at h1
    unfold valP at h2
    unfold txtP at h3
    by_cases ha : 0 ≤ readL a <;> by_cases hb : 0 ≤ readL b <;> simp only [ha, hb, if_true, if_false] at h1 h2 h3
    · rw [← dec_read ha, ← dec_read hb, h2]
    · omega
    · omega
    · exact h3
  · rintro rfl
    have := cmp_Part.1 a a
    omega
theorem cmpL_neg : ∀ x y : List (List UInt8), cmpL y x = -cmpL x y
  | [], [] => rfl
  | [], _ :: _ => rfl
  | _ :: _, [] => rfl
  | a :: x, b :: y => by show orI (cmpPart b a) (cmpL y x) = -orI (cmpPart a b) (cmpL x y); rw [cmp_Part.1, cmpL_neg x y, orI_neg]
theorem cmpL_trans : ∀ x y z : List (List UInt8), cmpL x y ≤ 0 → cmpL y z ≤ 0 → cmpL x z ≤ 0
  | [], [], z, _, h2 => h2
  | [], _ :: _, [], _, _ => by simp [cmpL]
  | [], _ :: _, _ :: _, _, _ => by simp [cmpL]
  | _ :: _, [], _, h, _ => by simp [cmpL] at h
  | _ :: _, _ :: _, [], _, h2 => by simp [cmpL] at h2
  | a :: x, b :: y, c :: z, h, h2 => lex_trans cmp_Part a b c (cmpL_trans x y z) h h2
theorem cmp_L : Cmp cmpL := ⟨cmpL_neg, cmpL_trans⟩
theorem cmpL_zero : ∀ {x y : List (List UInt8)}, cmpL x y = 0 ↔ x = y
  | [], [] => by simp [cmpL]
  | [], _ :: _ => by simp [cmpL]
  | _ :: _, [] => by simp [cmpL]
  | a :: x, b :: y => by
    show orI (cmpPart a b) (cmpL x y) = 0 ↔ _
    rw [orI_zero_iff, cmpPart_zero, cmpL_zero]; simp
def emp (x : List (List UInt8)) : Int := if x = [] then 1 else 0
theorem cmpPre_eq (x y : List (List UInt8)) : cmpPre x y = orI (cmpI (emp x) (emp y)) (cmpL x y) := by
  unfold cmpPre emp
  cases x with
  | nil =>
    cases y with
    | nil => rfl
    | cons b y => simp [cmpI, orI]; omega
  | cons a x =>
    cases y with
    | nil => simp [cmpI, orI]; try omega
    | cons b y => simp [cmpI, orI]
theorem cmp_Pre : Cmp cmpPre := by
  have h := (cmp_I.on emp).lex cmp_L
  have e : cmpPre = fun x y => orI (cmpI (emp x) (emp y)) (cmpL x y) := funext fun a => funext fun b => cmpPre_eq a b
  rw [e]; exact h
theorem cmpPre_zero {x y : List (List UInt8)} : cmpPre x y = 0 ↔ x = y := by
  rw [cmpPre_eq, orI_zero_iff, cmpI_zero, cmpL_zero]
  constructor
  · exact fun h => h.2
  · rintro rfl; exact ⟨rfl, rfl⟩
/-- A version as a tuple. -/
abbrev VT := Int × Int × Int × List (List UInt8)
def cmpV (p q : VT) : Int := cmpVer p.1 p.2.1 p.2.2.1 p.2.2.2 q.1 q.2.1 q.2.2.1 q.2.2.2
theorem cmp_V : Cmp cmpV := by
  have h := (cmp_I.on (fun p : VT => p.1)).lex ((cmp_I.on (fun p : VT => p.2.1)).lex ((cmp_I.on (fun p : VT => p.2.2.1)).lex (cmp_Pre.on (fun p : VT => p.2.2.2))))
  exact h
theorem cmpV_zero {p q : VT} : cmpV p q = 0 ↔ p = q := by
  obtain ⟨a, b, c, x⟩ := p
  obtain ⟨a', b', c', y⟩ := q
  show orI (cmpI a a') (orI (cmpI b b') (orI (cmpI c c') (cmpPre x y))) = 0 ↔ _
  rw [orI_zero_iff, orI_zero_iff, orI_zero_iff, cmpI_zero, cmpI_zero, cmpI_zero, cmpPre_zero]
  simp
end Go.Proofs.YtcfkhfbhmjfhdaaGreatDoor

/-
  impl.GraphOk: whether a graph is right.
-/
namespace Go.Proofs.YtcfkhfbhmjfhdaaGreatDoor
open Go.RowKit

/-- The key of the pack ahead, or the empty text. -/
def lastK (ps : List Pk) (k : Nat) : List UInt8 := if k = 0 then [] else keyOf (ps.getD (k - 1) default)
theorem lastK_zero (ps : List Pk) : lastK ps 0 = [] := rfl
theorem lastK_succ {ps : List Pk} {k : Nat} (h : k < ps.length) : lastK ps (k + 1) = keyOf ps[k] := by
  unfold lastK; rw [if_neg (by omega), Nat.add_sub_cancel, ps_at h]
theorem less_nil {l : List UInt8} (h : l ≠ []) : Op.bytesLess [] l = true := by
  cases l with
  | nil => exact absurd rfl h
  | cons a t => rfl
theorem pkAt_is {ps : List Pk} {k : Nat} (h : k < ps.length) : pkAtB ps k = (pkOk ps[k] && Op.bytesLess (lastK ps k) (keyOf ps[k])) := by
  unfold pkAtB
  rw [ps_at h]
  congr 1
  by_cases hz : k = 0
  · subst hz
    rw [upAt_zero, lastK_zero, less_nil (by unfold keyOf; simp)]
  · obtain ⟨j, rfl⟩ : ∃ j, k = j + 1 := ⟨k - 1, by omega⟩
    rw [upAt_more h, lastK_succ (by omega)]
theorem ndAt_is {ps : List Pk} {k : Nat} (h : k < ps.length) : ndAt ps k = keysOkL ps ps[k].needs := by unfold ndAt; rw [ps_at h]
theorem lastK_len {ps : List Pk} (hs : SmPs ps) (k : Nat) (h : k ≤ ps.length) : (lastK ps k).length ≤ 1048577 := by
  by_cases hz : k = 0
  · subst hz; rw [lastK_zero]; simp
  · obtain ⟨j, rfl⟩ : ∃ j, k = j + 1 := ⟨k - 1, by omega⟩
    rw [lastK_succ (by omega)]; exact SmPk.key (hs.get j (by omega))
theorem needs_le {p : Pk} (h : SmPk p) : p.needs.length ≤ 1048576 ∧ ∀ l ∈ p.needs, l.length ≤ 1048576 := by
  have := h.needs
  exact ⟨by omega, fun l hl => by have := smL_mem l hl; omega⟩

set_option maxRecDepth 100000 in
set_option maxHeartbeats 4000000 in
theorem implGraphOk_any (vt vp : Value) (ts : List (List UInt8)) (ps : List Pk) (w : World) (ht : RdS w vt ts) (hp : RdPs w vp ps) (hs : SmG ts ps) (htab : Tab w) :
    Calls Tryz.prog 9 #[.agg #[vt, vp]] w fun e w' => e = .returned (.bool (grOk ts ps)) ∧ Below w.heap.size w w' := by
  have HSP := Lib.hid hs.2
  have htl : ts.length ≤ 1048576 ∧ ∀ l ∈ ts, l.length ≤ 1048576 := ⟨by have := hs.1; omega, fun l hl => by have := smL_mem l hl; have := hs.1; omega⟩
  have hn : ps.length ≤ 1048576 := by have := hs.2; unfold SmPs at this; omega
  have HR := Lib.hid hp
  have HTB := Lib.hid (fun (W : World) (h : Below w.heap.size w W) => tab_below htab h)
  obtain ⟨T, tc, rfl⟩ := ht.slice
  have HKT := Lib.hid (fun (W : World) (B : Nat) (h : Below w.heap.size w W) (hi : IdxOf W B ps) => keysOk_any (.slice T ts.length tc) ts B ps W (ht.below h) htl.1 htl.2 hi)
  have HIX := Lib.hid (fun (W : World) (h : Below w.heap.size w W) => indexOf_any T ts.length tc vp ps W (hp.below h) hs.2)
  obtain ⟨A, ca, rfl, _⟩ := hp
  obtain ⟨r, HRR⟩ : ∃ r, Hid (grOk ts ps = r) := ⟨_, Lib.hid rfl⟩
  rw [HRR.out]
  obtain ⟨kt, HKTT⟩ : ∃ kt, Hid (keysOkL ps ts = kt) := ⟨_, Lib.hid rfl⟩
  have HPA : Hid (r = (decide (ps.length ≤ 40) && (allTo (pkAtB ps) ps.length && (allTo (ndAt ps) ps.length && kt)))) := Lib.hid (by rw [← HRR.out, grOk_parts, HKTT.out])
  simp only [HKTT.out] at HKT
  have B0 : Below w.heap.size w (w.alloc (.cells #[.slice T ts.length tc, .slice A ps.length ca] 30)) := (Below.refl _ _).alloc (Nat.le_refl _) _
  have b0 := heap_alloc_new w (.cells #[.slice T ts.length tc, .slice A ps.length ca] 30)
  clear ht hs htab htl
  by_cases h40 : ps.length ≤ 40
  · have HPB : Hid (r = (allTo (pkAtB ps) ps.length && (allTo (ndAt ps) ps.length && kt))) := Lib.hid (by rw [HPA.out, decide_eq_true h40]; rfl)
    have q1 : ¬ (40 : Int) < (ps.length : Int) := by omega
    clear h40 HPA
    go_enter Tryz.func9, Tryz.ntmps9
    go_wp2_with fail
    go_loopw [3, 5, 6, 17] (fun u _ _ i wr => ∃ k : Nat, k ≤ ps.length ∧ i = .int .i64 k ∧ u = .string ⟨(lastK ps k).toArray⟩ ∧ Hid (allTo (pkAtB ps) k = true) ∧ Below w.heap.size w wr ∧ wr.heap[w.heap.size]? = some (.cells #[.slice T ts.length tc, .slice A ps.length ca] 30)) (fun _ _ _ i _ => ps.length - (intOf i).toNat)
    case atStart => exact ⟨0, Nat.zero_le _, rfl, rfl, Lib.hid rfl, B0, b0⟩
    case round =>
      obtain ⟨k, hk, rfl, rfl, HT, hb, hbox⟩ := hrel
      clear B0 b0
      by_cases hlt : k < ps.length
      · obtain ⟨g, off, rfl, hg, a, b, d0, d1, d2, d3, d4, d5, ra, rb⟩ := (HR.out.below hb).at k hlt
        have HKO := Lib.hid (fun (W : World) (h : Below wr.heap.size wr W) => implKeyOf_any ps[k] a b W (ra.below h) (rb.below h) (HSP.out.get k hlt))
        have HPK := Lib.hid (fun (W : World) (h : Below wr.heap.size wr W) => implPackOk_any ps[k] a b W (ra.below h) (rb.below h) (HSP.out.get k hlt) (HTB.out W (hb.trans (h.mono hb.size))))
        have k0 : (0 : Int) ≤ (k : Int) := by omega
        have k1 : (k : Int) < (ps.length : Int) := by omega
        have HQ := Lib.hid (fun (h : pkAtB ps k = false) => (show r = false by rw [HPB.out, allTo_bad hlt h]; rfl))
        have HTT := Lib.hid (fun (h : pkAtB ps k = true) => allTo_step HT.out h)
        have HZ := Lib.hid (pkAt_is hlt)
        have HLS := Lib.hid (lastK_succ hlt)
        have hkl := SmPk.key (HSP.out.get k hlt)
        have hll := lastK_len HSP.out k hk
        have Bp : Below wr.heap.size wr (wr.alloc (.cells #[.string ⟨ps[k].name.toArray⟩, .string ⟨ps[k].ver.toArray⟩, .string ⟨ps[k].src.toArray⟩, a, .bool ps[k].dev, b] 43)) := (Below.refl _ _).alloc (Nat.le_refl _) _
        have bp := heap_alloc_new wr (.cells #[.string ⟨ps[k].name.toArray⟩, .string ⟨ps[k].ver.toArray⟩, .string ⟨ps[k].src.toArray⟩, a, .bool ps[k].dev, b] 43)
        obtain ⟨A1, c1, rfl⟩ := ra.slice
        obtain ⟨A2, c2, rfl⟩ := rb.slice
        obtain ⟨y0, y1, y2, y3, y4, y5⟩ := cells6 bp
        obtain ⟨pk, HPKK⟩ : ∃ pk, Hid (pkOk ps[k] = pk) := ⟨_, Lib.hid rfl⟩
        obtain ⟨key, HKE⟩ : ∃ key, Hid (keyOf ps[k] = key) := ⟨_, Lib.hid rfl⟩
        obtain ⟨la, HLA⟩ : ∃ la, Hid (lastK ps k = la) := ⟨_, Lib.hid rfl⟩
        simp only [HPKK.out] at HPK HZ
        simp only [HKE.out] at HKO HZ HLS hkl
        rw [HLA.out] at HZ hll
        rw [HLA.out]
        have HBX := Lib.hid hbox
        clear ra rb hbox
        cases pk with
        | false =>
          have HX : Hid (r = false) := Lib.hid (HQ.out (by rw [HZ.out]; rfl))
          clear HQ HTT HZ
          go_wp2_with fail
          refine (HKO.out _ Bp).mono ?_
          rintro e w1 ⟨rfl, hb1⟩
          have B1 := Bp.trans (hb1.mono Bp.size)
          obtain ⟨x0, x1, x2, x3, x4, x5⟩ := cells6 (keepB bp hb1)
          go_wp2_with fail
          refine (HPK.out _ B1).mono ?_
          rintro e w2 ⟨rfl, hb2⟩
          have B2 := B1.trans (hb2.mono B1.size)
          go_wp2_with fail
          go_ret
          exact ⟨ret_bool HX.out.symm, hb.trans (B2.mono hb.size)⟩
        | true =>
          cases hl : Op.bytesLess la key with
          | true =>
            have HN2 := Lib.hid (HTT.out (by rw [HZ.out, hl]; rfl))
            have q2 := bl_asymm _ _ hl
            have q3 : (key == la) = false := by
              cases hq : key == la with
              | false => rfl
              | true => have e : key = la := by simpa using hq
                        rw [e, bl_irrefl] at hl; cases hl
            clear HQ HTT HZ
            go_wp2_with fail
            refine (HKO.out _ Bp).mono ?_
            rintro e w1 ⟨rfl, hb1⟩
            have B1 := Bp.trans (hb1.mono Bp.size)
            obtain ⟨x0, x1, x2, x3, x4, x5⟩ := cells6 (keepB bp hb1)
            go_wp2_with fail
            refine (HPK.out _ B1).mono ?_
            rintro e w2 ⟨rfl, hb2⟩
            have B2 := B1.trans (hb2.mono B1.size)
            have b2 := keepB HBX.out B2
            have B3 := hb.trans (B2.mono hb.size)
            clear hb1 hb2 B1 B2 Bp bp hb y0 y1 y2 y3 y4 y5
            go_wp2_with fail
            go_roundw
            case rel => exact ⟨k + 1, by omega, by go_num, by rw [HLS.out], HN2, B3, b2⟩
            case measure => simp [intOf]; omega
          | false =>
            have HX : Hid (r = false) := Lib.hid (HQ.out (by rw [HZ.out, hl]; rfl))
            clear HQ HTT HZ
            by_cases he : key = la
            · have q2 : Op.bytesLess key la = false := by rw [he]; exact bl_irrefl _
              have q3 : (key == la) = true := by simpa using he
              clear he
              go_wp2_with fail
              refine (HKO.out _ Bp).mono ?_
              rintro e w1 ⟨rfl, hb1⟩
              have B1 := Bp.trans (hb1.mono Bp.size)
              obtain ⟨x0, x1, x2, x3, x4, x5⟩ := cells6 (keepB bp hb1)
              go_wp2_with fail
              refine (HPK.out _ B1).mono ?_
              rintro e w2 ⟨rfl, hb2⟩
              have B2 := B1.trans (hb2.mono B1.size)
              go_wp2_with fail
              go_ret
              exact ⟨ret_bool HX.out.symm, hb.trans (B2.mono hb.size)⟩
            · have q2 : Op.bytesLess key la = true := by
                rcases bl_total la key with h | h | h
                · rw [hl] at h; cases h
                · exact absurd h.symm he
                · exact h
              clear he
              go_wp2_with fail
              refine (HKO.out _ Bp).mono ?_
              rintro e w1 ⟨rfl, hb1⟩
              have B1 := Bp.trans (hb1.mono Bp.size)
              obtain ⟨x0, x1, x2, x3, x4, x5⟩ := cells6 (keepB bp hb1)
              go_wp2_with fail
              refine (HPK.out _ B1).mono ?_
              rintro e w2 ⟨rfl, hb2⟩
              have B2 := B1.trans (hb2.mono B1.size)
              go_wp2_with fail
              go_ret
              exact ⟨ret_bool HX.out.symm, hb.trans (B2.mono hb.size)⟩
      · have HPC : Hid (r = (allTo (ndAt ps) ps.length && kt)) := Lib.hid (by rw [HPB.out]; have := HT.out; rw [show k = ps.length by omega] at this; rw [this]; rfl)
        obtain ⟨x0, x1⟩ := cellsG hbox
        have HBX := Lib.hid hbox
        clear HPB HT hbox
        go_wp2_with fail
        refine (HIX.out _ hb).mono ?_
        rintro e w1 ⟨B, rfl, hBl, hI, hb1⟩
        have B1 := hb.trans (hb1.mono hb.size)
        have b1 := keepB HBX.out hb1
        obtain ⟨y0, y1⟩ := cellsG b1
        clear hb hb1 x0 x1
        go_wp2_with fail
        go_loopw [9, 38] (fun _ i wq => ∃ j : Nat, j ≤ ps.length ∧ i = .int .i64 j ∧ Hid (allTo (ndAt ps) j = true) ∧ Below w.heap.size w wq ∧ Below w1.heap.size w1 wq ∧ wq.heap[w.heap.size]? = some (.cells #[.slice T ts.length tc, .slice A ps.length ca] 30)) (fun _ i _ => ps.length - (intOf i).toNat)
        case atStart => exact ⟨0, Nat.zero_le _, rfl, Lib.hid rfl, B1, Below.refl _ _, b1⟩
        case round =>
          obtain ⟨j, hj, rfl, HT2, hb, hbI, hbox⟩ := hrel
          clear B1 b1 y0 y1
          have hIq := hI.below hbI
          by_cases hlj : j < ps.length
          · obtain ⟨g, off, rfl, hg, a, b, d0, d1, d2, d3, d4, d5, ra, rb⟩ := (HR.out.below hb).at j hlj
            have hnl := needs_le (HSP.out.get j hlj)
            have HND := Lib.hid (fun (W : World) (h : Below wr.heap.size wr W) => keysOk_any b ps[j].needs B ps W (rb.below h) hnl.1 hnl.2 (hIq.below h))
            have k0 : (0 : Int) ≤ (j : Int) := by omega
            have k1 : (j : Int) < (ps.length : Int) := by omega
            have HQ := Lib.hid (fun (h : ndAt ps j = false) => (show r = false by rw [HPC.out, allTo_bad hlj h]; rfl))
            have HTT := Lib.hid (fun (h : ndAt ps j = true) => allTo_step HT2.out h)
            have HZ := Lib.hid (ndAt_is hlj)
            have Bp : Below wr.heap.size wr (wr.alloc (.cells #[.string ⟨ps[j].name.toArray⟩, .string ⟨ps[j].ver.toArray⟩, .string ⟨ps[j].src.toArray⟩, a, .bool ps[j].dev, b] 43)) := (Below.refl _ _).alloc (Nat.le_refl _) _
            have bp := heap_alloc_new wr (.cells #[.string ⟨ps[j].name.toArray⟩, .string ⟨ps[j].ver.toArray⟩, .string ⟨ps[j].src.toArray⟩, a, .bool ps[j].dev, b] 43)
            obtain ⟨A1, c1, rfl⟩ := ra.slice
            obtain ⟨A2, c2, rfl⟩ := rb.slice
            obtain ⟨y0, y1, y2, y3, y4, y5⟩ := cells6 bp
            obtain ⟨nd, HNDD⟩ : ∃ nd, Hid (keysOkL ps ps[j].needs = nd) := ⟨_, Lib.hid rfl⟩
            simp only [HNDD.out] at HND HZ
            have HBX2 := Lib.hid hbox
            clear ra rb hbox hIq hnl
            cases nd with
            | false =>
              have HX : Hid (r = false) := Lib.hid (HQ.out HZ.out)
              clear HQ HTT HZ
              go_wp2_with fail
              refine (HND.out _ Bp).mono ?_
              rintro e w3 ⟨rfl, hb3⟩
              have B3 := Bp.trans (hb3.mono Bp.size)
              go_wp2_with fail
              go_ret
              exact ⟨ret_bool HX.out.symm, hb.trans (B3.mono hb.size)⟩
            | true =>
              have HN2 := Lib.hid (HTT.out HZ.out)
              clear HQ HTT HZ
              go_wp2_with fail
              refine (HND.out _ Bp).mono ?_
              rintro e w3 ⟨rfl, hb3⟩
              have B3 := Bp.trans (hb3.mono Bp.size)
              have b3 := keepB HBX2.out B3
              have B4 := hb.trans (B3.mono hb.size)
              have B5 := hbI.trans (B3.mono hbI.size)
              clear hb3 B3 Bp bp hb hbI y0 y1 y2 y3 y4 y5
              go_wp2_with fail
              go_roundw
              case rel => exact ⟨j + 1, by omega, by go_num, HN2, B4, B5, b3⟩
              case measure => simp [intOf]; omega
          · have HX : Hid (r = kt) := Lib.hid (by rw [HPC.out]; have := HT2.out; rw [show j = ps.length by omega] at this; rw [this]; rfl)
            obtain ⟨y0, y1⟩ := cellsG hbox
            go_wp2_with fail
            refine (HKT.out _ _ hb hIq).mono ?_
            rintro e w3 ⟨rfl, hb3⟩
            go_wp2_with fail
            go_ret
            exact ⟨ret_bool HX.out.symm, hb.trans (hb3.mono hb.size)⟩
  · have HX : Hid (r = false) := Lib.hid (by rw [HPA.out, decide_eq_false h40]; rfl)
    have q1 : (40 : Int) < (ps.length : Int) := by omega
    clear h40
    go_enter Tryz.func9, Tryz.ntmps9
    go_wp2_with fail
    go_ret
    exact ⟨ret_bool HX.out.symm, B0⟩
end Go.Proofs.YtcfkhfbhmjfhdaaGreatDoor

/-
  Whether a text is in a list: spec.l04Has, slices.Contains.
-/
namespace Go.Proofs.YtcfkhfbhmjfhdaaGreatDoor
open Go.RowKit

theorem mem_take_next {ls : List (List UInt8)} {s : List UInt8} {k : Nat} (h : k < ls.length) (hn : s ∉ ls.take k) (hne : ls[k] ≠ s) : s ∉ ls.take (k + 1) := by
  rw [List.take_succ_eq_append_getElem h, List.mem_append]
  rintro (h1 | h1)
  · exact hn h1
  · simp at h1; exact hne h1.symm

set_option maxRecDepth 100000 in
set_option maxHeartbeats 1000000 in
theorem l04Has_any (v : Value) (ls : List (List UInt8)) (s : List UInt8) (w : World) (hr : RdS w v ls) (hl : ls.length ≤ 16777216) :
    Calls Tryz.prog 31 #[v, .string ⟨s.toArray⟩] w fun e w' => e = .returned (.bool (decide (s ∈ ls))) ∧ w' = w := by
  obtain ⟨A, ca, rfl, ha⟩ := hr
  obtain ⟨r, HR⟩ : ∃ r, Hid (decide (s ∈ ls) = r) := ⟨_, Lib.hid rfl⟩
  rw [HR.out]
  go_enter Tryz.func31, Tryz.ntmps31
  go_wp2
  go_loopw [5] (fun i wr => ∃ k : Nat, k ≤ ls.length ∧ i = .int .i64 k ∧ Hid (s ∉ ls.take k) ∧ wr = w) (fun i _ => ls.length - (intOf i).toNat)
  case atStart => exact ⟨0, Nat.zero_le _, rfl, Lib.hid (by simp), rfl⟩
  case round =>
    obtain ⟨k, hk, rfl, HN, rfl⟩ := hrel
    by_cases hlt : k < ls.length
    · obtain ⟨g, off, rfl, _, hca⟩ := ha (by omega)
      have d1 : wr.cell? ⟨g, off + k, none⟩ = some (.string ⟨ls[k].toArray⟩) := hca k hlt
      have k0 : (0 : Int) ≤ (k : Int) := by omega
      have k1 : (k : Int) < (ls.length : Int) := by omega
      clear ha hca
      by_cases he : ls[k] = s
      · have HT : Hid (r = true) := Lib.hid (by rw [← HR.out]; exact decide_eq_true (by rw [← he]; exact List.getElem_mem hlt))
        have q1 : ((⟨ls[k].toArray⟩ : ByteArray).toList == (⟨s.toArray⟩ : ByteArray).toList) = true := by rw [he]; simp
        have q2 : (ls[k] == s) = true := by rw [he]; simp
        go_wp2_with fail
        go_ret
        exact ⟨ret_bool HT.out.symm, rfl⟩
      · have HN2 := Lib.hid (mem_take_next hlt HN.out he)
        have q1 : ((⟨ls[k].toArray⟩ : ByteArray).toList == (⟨s.toArray⟩ : ByteArray).toList) = false := by rw [ByteArray.toList_eq, ByteArray.toList_eq]; simpa using he
        have q2 : (ls[k] == s) = false := by simpa using he
        go_wp2_with fail
        go_roundw
        case rel => exact ⟨k + 1, by omega, by go_num, HN2, trivial⟩
        case measure => simp [intOf]; omega
    · have HT : Hid (r = false) := Lib.hid (by rw [← HR.out]; have := HN.out; rw [List.take_of_length_le (by omega)] at this; exact decide_eq_false this)
      clear ha
      go_wp2_with fail
      go_ret
      exact ⟨ret_bool HT.out.symm, rfl⟩

set_option maxRecDepth 100000 in
set_option maxHeartbeats 1000000 in
theorem indexS_any (v : Value) (ls : List (List UInt8)) (s : List UInt8) (w : World) (hr : RdS w v ls) (hl : ls.length ≤ 16777216) :
    Calls Tryz.prog 49 #[v, .string ⟨s.toArray⟩] w fun e w' => (∃ z : Int, e = .returned (.int .i64 z) ∧ (0 ≤ z ↔ s ∈ ls)) ∧ w' = w := by
  obtain ⟨A, ca, rfl, ha⟩ := hr
  go_enter Tryz.func49, Tryz.ntmps49
  go_wp2
  go_loopw [5, 8] (fun _ i wr => ∃ k : Nat, k ≤ ls.length ∧ i = .int .i64 k ∧ Hid (s ∉ ls.take k) ∧ wr = w) (fun _ i _ => ls.length - (intOf i).toNat)
  case atStart => exact ⟨0, Nat.zero_le _, rfl, Lib.hid (by simp), rfl⟩
  case round =>
    obtain ⟨k, hk, rfl, HN, rfl⟩ := hrel
    by_cases hlt : k < ls.length
    · obtain ⟨g, off, rfl, _, hca⟩ := ha (by omega)
      have d1 : wr.cell? ⟨g, off + k, none⟩ = some (.string ⟨ls[k].toArray⟩) := hca k hlt
      have k0 : (0 : Int) ≤ (k : Int) := by omega
      have k1 : (k : Int) < (ls.length : Int) := by omega
      clear ha hca
      by_cases he : ls[k] = s
      · have HT : Hid (0 ≤ (k : Int) ↔ s ∈ ls) := Lib.hid ⟨fun _ => by rw [← he]; exact List.getElem_mem hlt, fun _ => by omega⟩
        have q2 : (s == ls[k]) = true := by rw [he]; simp
        clear he
        go_wp2_with fail
        go_ret
        exact ⟨⟨_, rfl, HT.out⟩, rfl⟩
      · have HN2 := Lib.hid (mem_take_next hlt HN.out he)
        have q2 : (s == ls[k]) = false := by simp; exact fun h => he h.symm
        clear he
        go_wp2_with fail
        go_roundw
        case rel => exact ⟨k + 1, by omega, by go_num, HN2, trivial⟩
        case measure => simp [intOf]; omega
    · have HT : Hid (0 ≤ (-1 : Int) ↔ s ∈ ls) := Lib.hid ⟨fun h => by omega, fun h => by have := HN.out; rw [List.take_of_length_le (by omega)] at this; exact absurd h this⟩
      clear ha
      go_wp2_with fail
      go_ret
      exact ⟨⟨_, rfl, HT.out⟩, rfl⟩

theorem containsS_any (v : Value) (ls : List (List UInt8)) (s : List UInt8) (w : World) (hr : RdS w v ls) (hl : ls.length ≤ 16777216) :
    Calls Tryz.prog 32 #[v, .string ⟨s.toArray⟩] w fun e w' => e = .returned (.bool (decide (s ∈ ls))) ∧ w' = w := by
  have HI := Lib.hid (indexS_any v ls s w hr hl)
  obtain ⟨A, ca, rfl, ha⟩ := hr
  clear ha
  go_enter Tryz.func32, Tryz.ntmps32
  go_wp2_with fail
  refine HI.out.mono ?_
  rintro e w1 ⟨⟨z, rfl, hz⟩, rfl⟩
  have HZ : Hid (decide (0 ≤ z) = decide (s ∈ ls)) := Lib.hid (by rw [decide_eq_decide]; exact hz)
  clear hz
  go_wp2_with fail
  go_ret
  exact ⟨ret_bool HZ.out, rfl⟩
end Go.Proofs.YtcfkhfbhmjfhdaaGreatDoor

/-
  The keys of the packs that need a key: spec.Users, impl.Users.
-/
namespace Go.Proofs.YtcfkhfbhmjfhdaaGreatDoor
open Go.RowKit

/-- The keys of those among the first k packs that need a key. -/
def usT (ps : List Pk) (key : List UInt8) (k : Nat) : List (List UInt8) := ((ps.take k).filter fun p => decide (key ∈ p.needs)).map keyOf
theorem usT_yes {ps : List Pk} {key : List UInt8} {k : Nat} (h : k < ps.length) (hm : decide (key ∈ ps[k].needs) = true) : usT ps key (k + 1) = usT ps key k ++ [keyOf ps[k]] := by
  unfold usT; rw [List.take_succ_eq_append_getElem h, List.filter_append, List.map_append]; simp [hm]
theorem usT_no {ps : List Pk} {key : List UInt8} {k : Nat} (h : k < ps.length) (hm : decide (key ∈ ps[k].needs) = false) : usT ps key (k + 1) = usT ps key k := by
  unfold usT; rw [List.take_succ_eq_append_getElem h, List.filter_append, List.map_append]; simp at hm ⊢; exact hm
/-- What Users hands back. -/
def usersG (ts : List (List UInt8)) (ps : List Pk) (key : List UInt8) : List (List UInt8) := if grOk ts ps = true then usT ps key ps.length else []
theorem usersG_len (ts : List (List UInt8)) (ps : List Pk) (key : List UInt8) : (usersG ts ps key).length ≤ ps.length := by
  unfold usersG
  split
  · unfold usT; rw [List.length_map, List.take_length]; exact List.length_filter_le _ _
  · simp
def UsIs (w : World) (ls : List (List UInt8)) (e : Ending) (w' : World) : Prop := ∃ v, e = .returned v ∧ Strs w' w.heap.size v ls ∧ Below w.heap.size w w'

set_option maxRecDepth 100000 in
set_option maxHeartbeats 2000000 in
theorem specUsers_any (vt vp : Value) (ts : List (List UInt8)) (ps : List Pk) (key : List UInt8) (w : World) (ht : RdS w vt ts) (hp : RdPs w vp ps) (hs : SmG ts ps) :
    Calls Tryz.prog 11 #[.agg #[vt, vp], .string ⟨key.toArray⟩] w (UsIs w (usersG ts ps key)) := by
  have HSP := Lib.hid hs.2
  have hn : ps.length ≤ 1048576 := by have := hs.2; unfold SmPs at this; omega
  have HR := Lib.hid hp
  have HG := Lib.hid (fun (W : World) (h : Below w.heap.size w W) => specGraphOk_any vt vp ts ps W (ht.below h) (hp.below h) hs)
  obtain ⟨T, tc, rfl⟩ := ht.slice
  obtain ⟨A, ca, rfl, _⟩ := hp
  obtain ⟨R, HRR⟩ : ∃ R, Hid (usersG ts ps key = R) := ⟨_, Lib.hid rfl⟩
  rw [HRR.out]
  obtain ⟨gr, HGR⟩ : ∃ gr, Hid (grOk ts ps = gr) := ⟨_, Lib.hid rfl⟩
  have HRS : Hid (R = if gr = true then usT ps key ps.length else []) := Lib.hid (by rw [← HRR.out, ← HGR.out]; rfl)
  simp only [HGR.out] at HG
  have B0 : Below w.heap.size w ((w.alloc (.cells #[.slice T ts.length tc, .slice A ps.length ca] 30)).alloc (.cells #[] 9)) := ((Below.refl _ _).alloc (Nat.le_refl _) _).alloc (by simp) _
  have b0 := keepA (heap_alloc_new w (.cells #[.slice T ts.length tc, .slice A ps.length ca] 30)) (.cells #[] 9)
  have S0 : Strs ((w.alloc (.cells #[.slice T ts.length tc, .slice A ps.length ca] 30)).alloc (.cells #[] 9)) (w.heap.size + 1) (.slice (some ⟨w.heap.size + 1, 0, none⟩) 0 0) [] := Strs.emptyAt _ _ _ (by simp) (Nat.le_refl _)
  clear ht hs
  go_enter Tryz.func11, Tryz.ntmps11
  go_wp2_with fail
  go_loopw [5, 6] (fun u i wr => ∃ (k : Nat) (out : List (List UInt8)), k ≤ ps.length ∧ i = .int .i64 k ∧ Hid (out = usT ps key k) ∧ out.length ≤ k ∧ Strs wr (w.heap.size + 1) u out ∧ Below w.heap.size w wr ∧ wr.heap[w.heap.size]? = some (.cells #[.slice T ts.length tc, .slice A ps.length ca] 30) ∧ Hid (gr = false → k = 0)) (fun _ i _ => ps.length - (intOf i).toNat)
  case atStart => exact ⟨0, [], Nat.zero_le _, rfl, Lib.hid (by simp [usT]), by simp, S0, B0, b0, Lib.hid (fun _ => rfl)⟩
  case round =>
    obtain ⟨k, out, hk, rfl, HO, hol, hS, hb, hbox, HZ⟩ := hrel
    obtain ⟨x0, x1⟩ := cellsG hbox
    have HBX := Lib.hid hbox
    have hbs : w.heap.size + 1 ≤ wr.heap.size := lt_of_heap hbox
    clear B0 b0 S0 hbox
    by_cases hlt : k < ps.length
    · have k0 : (0 : Int) ≤ (k : Int) := by omega
      have k1 : (k : Int) < (ps.length : Int) := by omega
      cases gr with
      | false =>
        have HF : Hid (out = R) := Lib.hid (by rw [HRS.out, HO.out, HZ.out rfl]; simp [usT])
        have HSS := Lib.hid hS
        obtain ⟨U, uc, rfl⟩ := hS.slice
        go_wp2_with fail
        refine (HG.out _ hb).mono ?_
        rintro e w1 ⟨rfl, hb1⟩
        go_wp2_with fail
        go_ret
        exact ⟨_, rfl, by rw [← HF.out]; exact (HSS.out.below hb1).weaken (by omega), hb.trans (hb1.mono hb.size)⟩
      | true =>
        obtain ⟨g, off, rfl, hg, a, b, d0, d1, d2, d3, d4, d5, ra, rb⟩ := (HR.out.below hb).at k hlt
        have HKO := Lib.hid (fun (W : World) (h : Below wr.heap.size wr W) => specKeyOf_any ps[k] a b W (ra.below h) (rb.below h) (HSP.out.get k hlt))
        have hnl : ps[k].needs.length ≤ 16777216 := by have := (HSP.out.get k hlt).needs; omega
        have HHS := Lib.hid (fun (W : World) (h : Below wr.heap.size wr W) => l04Has_any b ps[k].needs key W (rb.below h) hnl)
        have HY := Lib.hid (fun h => usT_yes (key := key) hlt h)
        have HNO := Lib.hid (fun h => usT_no (key := key) hlt h)
        obtain ⟨A1, c1, rfl⟩ := ra.slice
        obtain ⟨A2, c2, rfl⟩ := rb.slice
        obtain ⟨m, HM⟩ : ∃ m, Hid (decide (key ∈ ps[k].needs) = m) := ⟨_, Lib.hid rfl⟩
        obtain ⟨kk, HKK⟩ : ∃ kk, Hid (keyOf ps[k] = kk) := ⟨_, Lib.hid rfl⟩
        simp only [HM.out] at HHS HY HNO
        simp only [HKK.out] at HKO HY
        have PC := Lib.hid (fun (W : World) (h : Below wr.heap.size wr W) => (⟨keepC h d0, keepC h d1, keepC h d2, keepC h d3, keepC h d4, keepC h d5⟩ : _ ∧ _ ∧ _ ∧ _ ∧ _ ∧ _))
        clear ra rb hnl
        cases m with
        | false =>
          have HN3 := Lib.hid (HNO.out rfl)
          clear HY HNO
          go_wp2_with fail
          refine (HG.out _ hb).mono ?_
          rintro e w1 ⟨rfl, hb1⟩
          obtain ⟨e0, e1, e2, e3, e4, e5⟩ := PC.out _ hb1
          have b1 := keepB HBX.out hb1
          obtain ⟨y0, y1⟩ := cellsG b1
          have B1 := hb.trans (hb1.mono hb.size)
          have S1 := hS.below hb1
          go_wp2_with fail
          refine (HHS.out _ hb1).mono ?_
          rintro e w2 ⟨rfl, rfl⟩
          go_wp2_with fail
          go_roundw
          case rel => exact ⟨k + 1, out, by omega, by go_num, Lib.hid (by rw [HN3.out]; exact HO.out), by omega, S1, B1, b1, Lib.hid (fun h => by cases h)⟩
          case measure => simp [intOf]; omega
        | true =>
          have HN3 := Lib.hid (HY.out rfl)
          clear HY HNO
          go_wp2_with fail
          refine (HG.out _ hb).mono ?_
          rintro e w1 ⟨rfl, hb1⟩
          obtain ⟨e0, e1, e2, e3, e4, e5⟩ := PC.out _ hb1
          have b1 := keepB HBX.out hb1
          obtain ⟨y0, y1⟩ := cellsG b1
          have B1 := hb.trans (hb1.mono hb.size)
          have S1 := hS.below hb1
          go_wp2_with fail
          refine (HHS.out _ hb1).mono ?_
          rintro e w2 ⟨rfl, rfl⟩
          go_wp2_with fail
          refine (HKO.out _ hb1).mono ?_
          rintro e w3 ⟨rfl, hb3⟩
          have b3 := keepB b1 hb3
          have B3 := B1.trans (hb3.mono B1.size)
          have S3 := S1.below hb3
          have hs3 : w.heap.size + 1 ≤ w3.heap.size := lt_of_heap b3
          clear hS S1 hb hb1 hb3 B1 b1 y0 y1 e0 e1 e2 e3 e4 e5
          go_wp2_with (at_builtin; refine wpList_append_strs rfl _ _ rfl (w.heap.size + 1) _ _ rfl (S3.alloc _) kk w3.heap.size 1 _ _ rfl (heap_alloc_new w3 _) (by omega) (by simp; omega) ?_; intro g4 c4 w4 S4 hb4)
          have b4 : w4.heap[w.heap.size]? = some (.cells #[.slice T ts.length tc, .slice (some ⟨g, off, none⟩) ps.length ca] 30) := (hb4.block _ (by omega)).trans (keepA b3 _)
          have B4 : Below w.heap.size w w4 := (B3.alloc B3.size _).trans (hb4.mono (by omega))
          go_roundw
          case rel => exact ⟨k + 1, out ++ [kk], by omega, by go_num, Lib.hid (by rw [HN3.out, HO.out]), by simp; omega, by simpa using S4, B4, b4, Lib.hid (fun h => by cases h)⟩
          case measure => simp [intOf]; omega
    · have HF : Hid (out = R) := Lib.hid (by
        rw [HRS.out, HO.out]
        cases gr with
        | true => rw [show k = ps.length by omega]; rfl
        | false => rw [HZ.out rfl]; simp [usT])
      have HSS := Lib.hid hS
      obtain ⟨U, uc, rfl⟩ := hS.slice
      go_wp2_with fail
      go_ret
      exact ⟨_, rfl, by rw [← HF.out]; exact HSS.out.weaken (by omega), hb⟩

set_option maxRecDepth 100000 in
set_option maxHeartbeats 2000000 in
theorem implUsers_any (vt vp : Value) (ts : List (List UInt8)) (ps : List Pk) (key : List UInt8) (w : World) (ht : RdS w vt ts) (hp : RdPs w vp ps) (hs : SmG ts ps) (htab : Tab w) :
    Calls Tryz.prog 12 #[.agg #[vt, vp], .string ⟨key.toArray⟩] w (UsIs w (usersG ts ps key)) := by
  have HSP := Lib.hid hs.2
  have hn : ps.length ≤ 1048576 := by have := hs.2; unfold SmPs at this; omega
  have HR := Lib.hid hp
  have HG := Lib.hid (fun (W : World) (h : Below w.heap.size w W) => implGraphOk_any vt vp ts ps W (ht.below h) (hp.below h) hs (tab_below htab h))
  obtain ⟨T, tc, rfl⟩ := ht.slice
  obtain ⟨A, ca, rfl, _⟩ := hp
  obtain ⟨R, HRR⟩ : ∃ R, Hid (usersG ts ps key = R) := ⟨_, Lib.hid rfl⟩
  rw [HRR.out]
  obtain ⟨gr, HGR⟩ : ∃ gr, Hid (grOk ts ps = gr) := ⟨_, Lib.hid rfl⟩
  have HRS : Hid (R = if gr = true then usT ps key ps.length else []) := Lib.hid (by rw [← HRR.out, ← HGR.out]; rfl)
  simp only [HGR.out] at HG
  have B0 : Below w.heap.size w ((w.alloc (.cells #[.slice T ts.length tc, .slice A ps.length ca] 30)).alloc (.cells #[] 9)) := ((Below.refl _ _).alloc (Nat.le_refl _) _).alloc (by simp) _
  have b0 := keepA (heap_alloc_new w (.cells #[.slice T ts.length tc, .slice A ps.length ca] 30)) (.cells #[] 9)
  have S0 : Strs ((w.alloc (.cells #[.slice T ts.length tc, .slice A ps.length ca] 30)).alloc (.cells #[] 9)) (w.heap.size + 1) (.slice (some ⟨w.heap.size + 1, 0, none⟩) 0 0) [] := Strs.emptyAt _ _ _ (by simp) (Nat.le_refl _)
  obtain ⟨x0, x1⟩ := cellsG b0
  clear ht hs htab
  cases gr with
  | false =>
    have HF : Hid ([] = R) := Lib.hid (by rw [HRS.out]; rfl)
    go_enter Tryz.func12, Tryz.ntmps12
    go_wp2_with fail
    refine (HG.out _ B0).mono ?_
    rintro e w1 ⟨rfl, hb1⟩
    go_wp2_with fail
    go_ret
    exact ⟨_, rfl, by rw [← HF.out]; exact (S0.below hb1).weaken (by omega), B0.trans (hb1.mono B0.size)⟩
  | true =>
    have HF : Hid (usT ps key ps.length = R) := Lib.hid (by rw [HRS.out]; rfl)
    go_enter Tryz.func12, Tryz.ntmps12
    go_wp2_with fail
    refine (HG.out _ B0).mono ?_
    rintro e w1 ⟨rfl, hb1⟩
    have B1 := B0.trans (hb1.mono B0.size)
    have b1 := keepB b0 hb1
    have S1 := S0.below hb1
    obtain ⟨y0, y1⟩ := cellsG b1
    clear hb1 B0 b0 S0 x0 x1
    go_wp2_with fail
    go_loopw [5, 7, 16] (fun u _ i wr => ∃ (k : Nat) (out : List (List UInt8)), k ≤ ps.length ∧ i = .int .i64 k ∧ Hid (out = usT ps key k) ∧ out.length ≤ k ∧ Strs wr (w.heap.size + 1) u out ∧ Below w.heap.size w wr ∧ w.heap.size + 1 ≤ wr.heap.size) (fun _ _ i _ => ps.length - (intOf i).toNat)
    case atStart => exact ⟨0, [], Nat.zero_le _, rfl, Lib.hid (by simp [usT]), by simp, S1, B1, lt_of_heap b1⟩
    case round =>
      obtain ⟨k, out, hk, rfl, HO, hol, hS, hb, hbs⟩ := hrel
      clear B1 b1 S1 y0 y1
      by_cases hlt : k < ps.length
      · have k0 : (0 : Int) ≤ (k : Int) := by omega
        have k1 : (k : Int) < (ps.length : Int) := by omega
        obtain ⟨g, off, rfl, hg, a, b, d0, d1, d2, d3, d4, d5, ra, rb⟩ := (HR.out.below hb).at k hlt
        have HKO := Lib.hid (fun (W : World) (h : Below wr.heap.size wr W) => implKeyOf_any ps[k] a b W (ra.below h) (rb.below h) (HSP.out.get k hlt))
        have hnl : ps[k].needs.length ≤ 16777216 := by have := (HSP.out.get k hlt).needs; omega
        have HHS := Lib.hid (fun (W : World) (h : Below wr.heap.size wr W) => containsS_any b ps[k].needs key W (rb.below h) hnl)
        have HY := Lib.hid (fun h => usT_yes (key := key) hlt h)
        have HNO := Lib.hid (fun h => usT_no (key := key) hlt h)
        have Bp : Below wr.heap.size wr (wr.alloc (.cells #[.string ⟨ps[k].name.toArray⟩, .string ⟨ps[k].ver.toArray⟩, .string ⟨ps[k].src.toArray⟩, a, .bool ps[k].dev, b] 43)) := (Below.refl _ _).alloc (Nat.le_refl _) _
        have bp := heap_alloc_new wr (.cells #[.string ⟨ps[k].name.toArray⟩, .string ⟨ps[k].ver.toArray⟩, .string ⟨ps[k].src.toArray⟩, a, .bool ps[k].dev, b] 43)
        obtain ⟨A1, c1, rfl⟩ := ra.slice
        obtain ⟨A2, c2, rfl⟩ := rb.slice
        obtain ⟨z0, z1, z2, z3, z4, z5⟩ := cells6 bp
        obtain ⟨m, HM⟩ : ∃ m, Hid (decide (key ∈ ps[k].needs) = m) := ⟨_, Lib.hid rfl⟩
        obtain ⟨kk, HKK⟩ : ∃ kk, Hid (keyOf ps[k] = kk) := ⟨_, Lib.hid rfl⟩
        simp only [HM.out] at HHS HY HNO
        simp only [HKK.out] at HKO HY
        clear ra rb hnl
        cases m with
        | false =>
          have HN3 := Lib.hid (HNO.out rfl)
          have SA := hS.below Bp
          have BA := hb.trans (Bp.mono hb.size)
          clear HY HNO
          go_wp2_with fail
          refine (HHS.out _ Bp).mono ?_
          rintro e w2 ⟨rfl, rfl⟩
          go_wp2_with fail
          go_roundw
          case rel => exact ⟨k + 1, out, by omega, by go_num, Lib.hid (by rw [HN3.out]; exact HO.out), by omega, SA, BA, by simp; omega⟩
          case measure => simp [intOf]; omega
        | true =>
          have HN3 := Lib.hid (HY.out rfl)
          clear HY HNO
          go_wp2_with fail
          refine (HHS.out _ Bp).mono ?_
          rintro e w2 ⟨rfl, rfl⟩
          go_wp2_with fail
          refine (HKO.out _ Bp).mono ?_
          rintro e w3 ⟨rfl, hb3⟩
          have B3 := (hb.trans (Bp.mono hb.size)).trans (hb3.mono (Nat.le_trans hb.size Bp.size))
          have S3 := (hS.below Bp).below hb3
          have hs3 : w.heap.size + 1 ≤ w3.heap.size := by have := hb3.size; simp at this; omega
          clear hS hb hb3 Bp bp z0 z1 z2 z3 z4 z5
          go_wp2_with (at_builtin; refine wpList_append_strs rfl _ _ rfl (w.heap.size + 1) _ _ rfl (S3.alloc _) kk w3.heap.size 1 _ _ rfl (heap_alloc_new w3 _) (by omega) (by simp; omega) ?_; intro g4 c4 w4 S4 hb4)
          have B4 : Below w.heap.size w w4 := (B3.alloc B3.size _).trans (hb4.mono (by omega))
          have hs4 : w.heap.size + 1 ≤ w4.heap.size := by have := hb4.size; simp at this; omega
          go_roundw
          case rel => exact ⟨k + 1, out ++ [kk], by omega, by go_num, Lib.hid (by rw [HN3.out, HO.out]), by simp; omega, by simpa using S4, B4, hs4⟩
          case measure => simp [intOf]; omega
      · have HF2 : Hid (out = R) := Lib.hid (by rw [← HF.out, HO.out, show k = ps.length by omega])
        have HSS := Lib.hid hS
        obtain ⟨U, uc, rfl⟩ := hS.slice
        go_wp2_with fail
        go_ret
        exact ⟨_, rfl, by rw [← HF2.out]; exact HSS.out.weaken (by omega), hb⟩
end Go.Proofs.YtcfkhfbhmjfhdaaGreatDoor

/-
  A byte buffer of the call's own: what it owns as a list of bytes, and the string that it is turned into.
-/
namespace Go.Proofs.YtcfkhfbhmjfhdaaGreatDoor
open Go.RowKit

/-- A byte as a value. -/
def bv (c : UInt8) : Value := .int .u8 (c.toNat : Int)
/-- The value v owns just the bytes l, in blocks from base on. -/
def Buf (w : World) (base : Nat) (v : Value) (l : List UInt8) : Prop := w.ownsRow base 5 1 v l.length (l.map bv)

theorem u8info : (Tryz.prog.info? 5).map (fun i => (i.zero, i.size, i.bytes)) = some (some (.int .u8 0), 1, 1) := by kernel_rfl

theorem Buf.form {w : World} {base : Nat} {v : Value} {l : List UInt8} (h : Buf w base v l) : (v = .slice none 0 0 ∧ l = []) ∨ ∃ g cap, v = .slice (some ⟨g, 0, none⟩) l.length cap ∧ base ≤ g ∧ g < w.heap.size := by
  rcases h.2 with ⟨hv, hl⟩ | ⟨g, cap, cur, hv, hb, hh, _⟩
  · left; exact ⟨hv, by simpa using hl⟩
  · right
    refine ⟨g, cap, hv, hb, ?_⟩
    rcases Nat.lt_or_ge g w.heap.size with hlt | hge
    · exact hlt
    · rw [Array.getElem?_eq_none hge] at hh; cases hh

theorem Buf.conv {w : World} {base : Nat} {v : Value} {l : List UInt8} (h : Buf w base v l) : (convert 72 9 v).run Tryz.prog w = .ok (.string ⟨l.toArray⟩) w := by
  rcases h.form with ⟨rfl, rfl⟩ | ⟨g, cap, rfl, _, _⟩
  · rw [run_convert_bytes_string w 72 9 5 none 0 0 Tryz.underlying72 Tryz.underlying5 Tryz.underlying9]
    rfl
  · refine run_convert_bytes_back w 72 9 5 ⟨g, 0, none⟩ cap l Tryz.underlying72 Tryz.underlying5 Tryz.underlying9 ?_
    intro j hj
    exact World.ownsRow.cells (g := g) h rfl j _ (by simp [bv, hj])

theorem Buf.alloc {w : World} {base : Nat} {v : Value} {l : List UInt8} (h : Buf w base v l) (o : Obj) : Buf (w.alloc o) base v l := World.ownsRow.alloc h o
theorem Buf.drew {w : World} {base : Nat} {v : Value} {l : List UInt8} (h : Buf w base v l) : Buf w.drew base v l := World.ownsRow.drew h
theorem Buf.owned {w : World} {base : Nat} {v : Value} {l : List UInt8} (h : Buf w base v l) : ∀ g, v.ownBlock = some g → base ≤ g := by
  intro g hg
  rcases h.form with ⟨rfl, _⟩ | ⟨g', cap, rfl, hb, _⟩
  · simp [Value.ownBlock] at hg
  · simp [Value.ownBlock] at hg; omega

theorem run_append_buf (w : World) (ty : TypeId) (base : Nat) (v : Value) (l : List UInt8) (hown : Buf w base v l) (ns : List UInt8) (B c : Nat) (cs : Array Value) (t : TypeId) (fr : Nat × Nat)
    (hblk : w.heap[B]? = some (.cells cs t fr)) (hcs : cs.toList = ns.map bv) (hm : 0 < ns.length) (hlen : l.length + ns.length ≤ 16777216) (hbase : base ≤ w.heap.size) :
    ∃ v' w', (Builtin.append_ #[72, 72] ty #[v, .slice (some ⟨B, 0, none⟩) ns.length c]).run Tryz.prog w = .ok v' w' ∧ Buf w' base v' (l ++ ns) ∧ Below base w w' := by
  obtain ⟨i0, hi, hz0, hz1, hz2⟩ := info_parts u8info
  obtain ⟨g, cap, w', hr, h2, h3, _, _⟩ := run_append_lies (P := Tryz.prog) w 72 ty base 5 i0 (.int .u8 0) 1 1 Tryz.underlying72 hi hz0 hz1 hz2 rfl (by decide) v l.length (l.map bv) hown
    ⟨B, 0, none⟩ ns.length c (ns.map bv) (by simp) (by rw [← hcs]; exact World.news_of_block hblk) (by intro u hu; obtain ⟨x, _, rfl⟩ := List.mem_map.1 hu; rfl) hm (by unfold maxLen; omega) (by omega) hbase _ rfl
  refine ⟨_, w', hr, ?_, (Below.refl base w).grown h3 hbase hown.owned⟩
  unfold Buf
  rw [List.length_append, List.map_append]
  exact h2

theorem wp_append_buf {w : World} {o : Oper} {a : Act} {K : Act → World → Prop} {Q : Exit → Act → World → Prop} (s x : Operand)
    (ho : o.op = .call { callee := .builtin .append, args := #[s, x], argTypes := #[72, 72] })
    (base : Nat) (v : Value) (l : List UInt8) (hs : a.eval s = v) (hown : Buf w base v l) (ns : List UInt8) (B m c : Nat) (cs : Array Value) (t : TypeId) (fr : Nat × Nat)
    (hx : a.eval x = .slice (some ⟨B, 0, none⟩) m c) (hmm : ns.length = m) (hblk : w.heap[B]? = some (.cells cs t fr)) (hcs : cs.toList = ns.map bv) (hm : 0 < ns.length) (hlen : l.length + ns.length ≤ 16777216) (hbase : base ≤ w.heap.size)
    (h : ∀ v' w', Buf w' base v' (l ++ ns) → Below base w w' → K (a.put o.dst v') w') : o.wp Tryz.prog a w K Q := by
  subst hmm
  obtain ⟨v', w', hr, h2, h3⟩ := run_append_buf w o.type base v l hown ns B c cs t fr hblk hcs hm hlen hbase
  unfold Oper.wp execOp
  simp only [ho, resolve, invoke, builtin, Sem.run_bind, Sem.run_pure, Result.andThen_ok, List.map_toArray, List.map_cons, List.map_nil, hs, hx, hr]
  exact h v' w' h2 h3

/-- append(out, bytes) at a plain region's list. -/
theorem wpList_append_buf {w : World} {ops : Array Oper} {rest : List Oper} {o : Oper} {a : Act} {Q : Exit → Act → World → Prop} (hgd : o.guard = none) (s x : Operand)
    (ho : o.op = .call { callee := .builtin .append, args := #[s, x], argTypes := #[72, 72] })
    (base : Nat) (v : Value) (l : List UInt8) (hs : a.eval s = v) (hown : Buf w base v l) (ns : List UInt8) (B m c : Nat) (cs : Array Value) (t : TypeId) (fr : Nat × Nat)
    (hx : a.eval x = .slice (some ⟨B, 0, none⟩) m c) (hmm : ns.length = m) (hblk : w.heap[B]? = some (.cells cs t fr)) (hcs : cs.toList = ns.map bv) (hm : 0 < ns.length) (hlen : l.length + ns.length ≤ 16777216) (hbase : base ≤ w.heap.size)
    (h : ∀ v' w', Buf w' base v' (l ++ ns) → Below base w w' → wpList Tryz.prog ops Q rest (a.put o.dst v') w') : wpList Tryz.prog ops Q (o :: rest) a w :=
  wpList_plain hgd fun _ hK => wp_append_buf s x ho base v l hs hown ns B m c cs t fr hx hmm hblk hcs hm hlen hbase fun v' w' h2 h3 => hK _ _ (h v' w' h2 h3)

/-- append(out, bytes) at a step of a region that draws its order. -/
theorem step_append_buf {w : World} {ops : Array Oper} {o : Oper} {a : Act} {K : Act → World → Prop} {Q : Exit → Act → World → Prop} {E : Prop} (hgd : o.guard = none) (s x : Operand)
    (ho : o.op = .call { callee := .builtin .append, args := #[s, x], argTypes := #[72, 72] })
    (base : Nat) (v : Value) (l : List UInt8) (hs : a.eval s = v) (hown : Buf w base v l) (ns : List UInt8) (B m c : Nat) (cs : Array Value) (t : TypeId) (fr : Nat × Nat)
    (hx : a.eval x = .slice (some ⟨B, 0, none⟩) m c) (hmm : ns.length = m) (hblk : w.heap[B]? = some (.cells cs t fr)) (hcs : cs.toList = ns.map bv) (hm : 0 < ns.length) (hlen : l.length + ns.length ≤ 16777216) (hbase : base ≤ w.heap.size)
    (h : ∀ v' w', Buf w' base v' (l ++ ns) → Below base w w' → K (a.put o.dst v') w') :
    if Region.wanted o (yielded ops a.tmps) = true then Oper.wp Tryz.prog o a w K Q else E := by
  have hw : Region.wanted o (yielded ops a.tmps) = true := by simp [Region.wanted, hgd]
  rw [if_pos hw]
  exact wp_append_buf s x ho base v l hs hown ns B m c cs t fr hx hmm hblk hcs hm hlen hbase h

def hexC (n : Nat) : UInt8 := ([48, 49, 50, 51, 52, 53, 54, 55, 56, 57, 97, 98, 99, 100, 101, 102] : List UInt8).getD n 0
def hexU (n : Nat) : UInt8 := ([48, 49, 50, 51, 52, 53, 54, 55, 56, 57, 65, 66, 67, 68, 69, 70] : List UInt8).getD n 0
theorem idx_lower (n : Nat) (hn : n < 16) (z : Int) (hz : z = (n : Int)) (w : World) : (Instr.index 9 (.string ⟨#[48, 49, 50, 51, 52, 53, 54, 55, 56, 57, 97, 98, 99, 100, 101, 102]⟩) (.int .u8 z)).run Tryz.prog w = .ok (.int .u8 ((hexC n).toNat : Int)) w := by
  subst hz
  obtain rfl | rfl | rfl | rfl | rfl | rfl | rfl | rfl | rfl | rfl | rfl | rfl | rfl | rfl | rfl | rfl : n = 0 ∨ n = 1 ∨ n = 2 ∨ n = 3 ∨ n = 4 ∨ n = 5 ∨ n = 6 ∨ n = 7 ∨ n = 8 ∨ n = 9 ∨ n = 10 ∨ n = 11 ∨ n = 12 ∨ n = 13 ∨ n = 14 ∨ n = 15 := by omega
  all_goals kernel_rfl
theorem idx_upper (n : Nat) (hn : n < 16) (z : Int) (hz : z = (n : Int)) (w : World) : (Instr.index 9 (.string ⟨#[48, 49, 50, 51, 52, 53, 54, 55, 56, 57, 65, 66, 67, 68, 69, 70]⟩) (.int .u8 z)).run Tryz.prog w = .ok (.int .u8 ((hexU n).toNat : Int)) w := by
  subst hz
  obtain rfl | rfl | rfl | rfl | rfl | rfl | rfl | rfl | rfl | rfl | rfl | rfl | rfl | rfl | rfl | rfl : n = 0 ∨ n = 1 ∨ n = 2 ∨ n = 3 ∨ n = 4 ∨ n = 5 ∨ n = 6 ∨ n = 7 ∨ n = 8 ∨ n = 9 ∨ n = 10 ∨ n = 11 ∨ n = 12 ∨ n = 13 ∨ n = 14 ∨ n = 15 := by omega
  all_goals kernel_rfl
theorem and15 (c : UInt8) : bits .and .u8 (c.toNat : Int) 15 = (c.toNat : Int) % 16 := by
  have h : ∀ n : Nat, n < 256 → bits .and .u8 (n : Int) 15 = (n : Int) % 16 := by decide +kernel
  exact h _ c.toNat_lt

theorem Buf.lit (w : World) (base : Nat) (l : List UInt8) (hb : base ≤ w.heap.size) (hl : l.length ≤ 16777216) : Buf (w.alloc (.cells (l.map bv).toArray 5)) base (.slice (some ⟨w.heap.size, 0, none⟩) l.length l.length) l := by
  have h := World.ownsRow_lit (base := base) (e := 5) (size := 1) w (l.map bv).toArray l.length hb (by unfold maxLen; omega) (by simp)
  simpa [Buf] using h
theorem Buf.empty (w : World) (base : Nat) (hb : base ≤ w.heap.size) : Buf (w.alloc (.cells #[] 5)) base (.slice (some ⟨w.heap.size, 0, none⟩) 0 0) [] := Buf.lit w base [] hb (by simp)

theorem wrap_div16 (c : UInt8) : IntKind.u8.wrap ((c.toNat : Int) / 16) = (c.toNat : Int) / 16 := by
  have h : ∀ n : Nat, n < 256 → IntKind.u8.wrap ((n : Int) / 16) = (n : Int) / 16 := by decide +kernel
  exact h _ c.toNat_lt

theorem tmod16 (c : UInt8) : (c.toNat : Int).tmod 16 = (c.toNat : Int) % 16 := Int.tmod_eq_emod_of_nonneg (by omega)

end Go.Proofs.YtcfkhfbhmjfhdaaGreatDoor

/-
  A string appended to a byte buffer of the call's own.
-/
namespace Go.Proofs.YtcfkhfbhmjfhdaaGreatDoor
open Go.RowKit

theorem wpList_append_buf_str {w : World} {ops : Array Oper} {rest : List Oper} {o : Oper} {a : Act} {Q : Exit → Act → World → Prop} (hgd : o.guard = none) (s x : Operand)
    (ho : o.op = .call { callee := .builtin .append, args := #[s, x], argTypes := #[72, 9] })
    (base : Nat) (v : Value) (l : List UInt8) (hs : a.eval s = v) (hown : Buf w base v l) (ns : List UInt8) (hx : a.eval x = .string ⟨ns.toArray⟩) (hlen : l.length + ns.length ≤ 16777216) (hbase : base ≤ w.heap.size)
    (h : ∀ v' w', Buf w' base v' (l ++ ns) → Below base w w' → wpList Tryz.prog ops Q rest (a.put o.dst v') w') : wpList Tryz.prog ops Q (o :: rest) a w := by
  obtain ⟨i0, hi, hz0, hz1, hz2⟩ := info_parts u8info
  have hsz : (⟨ns.toArray⟩ : ByteArray).size = ns.length := by show ns.toArray.size = _; simp
  refine Lib.wpList_append_own_string _ hgd s x 72 9 ho base 5 i0 Tryz.underlying72 Tryz.underlying9 hi hz0 hz1 hz2 v l.length (l.map bv) hs hown ⟨ns.toArray⟩ hx (by rw [hsz]; unfold maxLen; omega) (by rw [hsz]; omega) hbase ?_
  intro v' w' h2 h3 _
  refine h v' w' ?_ ((Below.refl base w).grown h3 hbase hown.owned)
  unfold Buf
  rw [hsz] at h2
  rw [List.length_append, List.map_append]
  exact h2

/-- A buffer is kept by whatever leaves all old blocks as they were. -/
theorem Buf.below {w w' : World} {base : Nat} {v : Value} {l : List UInt8} (h : Buf w base v l) (hb : Below w.heap.size w w') : Buf w' base v l :=
  World.ownsRow.kept h (row := none) ⟨hb.os, hb.tape, hb.output, hb.size, fun i hi _ => hb.block i hi⟩ (by
    rcases h.form with ⟨rfl, _⟩ | ⟨g, cap, rfl, _, _⟩
    · left; rfl
    · right; simp [Value.ownBlock])
end Go.Proofs.YtcfkhfbhmjfhdaaGreatDoor

/-
  The laws' own helper markText: a mark's text.
-/
namespace Go.Proofs.YtcfkhfbhmjfhdaaGreatDoor
open Go.RowKit

/-- The k-th mark. -/
def mt (k : Nat) : List UInt8 := 109 :: Lib.decDigits k
theorem dig_val (v : Nat) : bv (digC (v % 10)) = .int .u8 (48 + (v : Int) % 10) := by
  have h : ∀ d : Nat, d < 10 → bv (digC d) = .int .u8 (48 + (d : Int)) := by
    intro d hd
    unfold bv digC
    congr 1
    simp
    omega
  rw [h _ (by omega)]
  congr 1

set_option maxRecDepth 100000 in
set_option maxHeartbeats 1000000 in
theorem markText_any (u : Nat) (w : World) (h1 : 1 ≤ u) (h2 : u ≤ 100000000) :
    Calls Tryz.prog 34 #[.int .i64 (u : Int)] w fun e w' => e = .returned (.string ⟨(mt u).toArray⟩) ∧ Below w.heap.size w w' := by
  go_enter Tryz.func34, Tryz.ntmps34
  go_wp2
  go_loopw [0, 3] (fun m o wr => ∃ (v : Nat) (l : List UInt8), o = .string ⟨l.toArray⟩ ∧ m = .int .i64 (v : Int) ∧ v ≤ u ∧ DecAt u v l ∧ Below w.heap.size w wr) (fun m _ _ => (intOf m).toNat)
  case atStart => exact ⟨u, [], rfl, rfl, Nat.le_refl _, decAt_start u (by omega), Below.refl _ _⟩
  case round =>
    obtain ⟨v, l, rfl, rfl, hvu, H, hb⟩ := hrel
    have hl := decAt_len H (by omega)
    by_cases hv : v = 0
    · subst hv
      obtain rfl := decAt_end H
      clear H
      go_wp2
      go_ret
      exact ⟨congrArg Ending.returned (str_cons _ _), hb⟩
    · have HN := Lib.hid (decAt_step H (by omega))
      have hpos : (0 : Int) < (v : Int) := by omega
      have hcv := (Buf.lit wr w.heap.size [digC (v % 10)] hb.size (by simp)).conv
      have hdv := dig_val v
      simp only [List.map_cons, List.map_nil, hdv, List.length_cons, List.length_nil, Nat.zero_add] at hcv
      clear hdv H hv
      go_wp2
      go_roundw
      case rel => exact ⟨v / 10, _, str_cons _ _, by go_num, by omega, HN.out, hb.alloc hb.size _⟩
      case measure => simp [intOf]; omega
end Go.Proofs.YtcfkhfbhmjfhdaaGreatDoor

/-
  Marks written over a structure of the call's own, in plain words: within some blocks a text stays a text, a slice the same slice; all else is as it was.
-/
namespace Go.Proofs.YtcfkhfbhmjfhdaaGreatDoor
open Go.RowKit

/-- Where a text stood stands a text, where a slice the same slice, where a bool a bool. -/
def CellTo (v v' : Value) : Prop := match v with
  | .string _ => ∃ s, v' = .string s
  | .slice a n c => v' = .slice a n c
  | .bool _ => ∃ b, v' = .bool b
  | _ => True
theorem CellTo.refl (v : Value) : CellTo v v := by cases v <;> simp [CellTo]
theorem CellTo.trans {a b c : Value} (h1 : CellTo a b) (h2 : CellTo b c) : CellTo a c := by
  cases a with
  | string s => obtain ⟨t, rfl⟩ := h1; exact h2
  | slice x n y => obtain rfl : b = .slice x n y := h1; exact h2
  | bool x => obtain ⟨t, rfl⟩ := h1; exact h2
  | _ => trivial
/-- From w to w' only the blocks from lo on and below hi have changed, by marks. -/
structure Mk (lo hi : Nat) (w w' : World) : Prop where
  os : w'.os = w.os
  tape : w'.tape = w.tape
  output : w'.output = w.output
  size : w.heap.size ≤ w'.heap.size
  out : ∀ b : Nat, b < w.heap.size → (b < lo ∨ hi ≤ b) → w'.heap[b]? = w.heap[b]?
  row : ∀ (b : Nat) (cur : Array Value) (T : TypeId), lo ≤ b → b < hi → w.heap[b]? = some (.cells cur T) → ∃ cur' : Array Value, w'.heap[b]? = some (.cells cur' T) ∧ cur'.size = cur.size ∧ ∀ (i : Nat) (v : Value), cur[i]? = some v → ∃ v', cur'[i]? = some v' ∧ CellTo v v'
theorem Mk.refl (lo hi : Nat) (w : World) : Mk lo hi w w := ⟨rfl, rfl, rfl, Nat.le_refl _, fun _ _ _ => rfl, fun _ cur _ _ _ h => ⟨cur, h, rfl, fun _ v hv => ⟨v, hv, CellTo.refl v⟩⟩⟩
theorem Mk.trans {lo hi : Nat} {w w1 w2 : World} (h1 : Mk lo hi w w1) (h2 : Mk lo hi w1 w2) : Mk lo hi w w2 :=
  ⟨h2.os.trans h1.os, h2.tape.trans h1.tape, h2.output.trans h1.output, Nat.le_trans h1.size h2.size, fun b hb ho => (h2.out b (Nat.lt_of_lt_of_le hb h1.size) ho).trans (h1.out b hb ho), fun b cur T hl hh h => by
    obtain ⟨c1, e1, s1, k1⟩ := h1.row b cur T hl hh h
    obtain ⟨c2, e2, s2, k2⟩ := h2.row b c1 T hl hh e1
    refine ⟨c2, e2, s2.trans s1, fun i v hv => ?_⟩
    obtain ⟨v1, hv1, t1⟩ := k1 i v hv
    obtain ⟨v2, hv2, t2⟩ := k2 i v1 hv1
    exact ⟨v2, hv2, t1.trans t2⟩⟩
theorem Mk.of_below {lo hi : Nat} {w w' : World} (hb : Below w.heap.size w w') (hh : hi ≤ w.heap.size) : Mk lo hi w w' :=
  ⟨hb.os, hb.tape, hb.output, hb.size, fun b hb1 _ => hb.block b hb1, fun b cur T _ h2 h => ⟨cur, (hb.block b (by omega)).trans h, rfl, fun _ v hv => ⟨v, hv, CellTo.refl v⟩⟩⟩
theorem Mk.set {lo hi : Nat} (w : World) (g k : Nat) (x : Value) (hl : lo ≤ g) (hh : g < hi) (hc : ∀ v, w.cell? ⟨g, k, none⟩ = some v → CellTo v x) : Mk lo hi w (w.setCell ⟨g, k, none⟩ x) := by
  refine ⟨rfl, rfl, rfl, by simp, fun b _ ho => heap_setCell_other w ⟨g, k, none⟩ b x (fun e => ?_), fun b cur T h1 h2 h => ?_⟩
  · have : b = g := e
    omega
  · by_cases e : b = g
    · subst e
      refine ⟨cur.setIfInBounds k x, heap_setCell_same w b k cur T x h, by simp, fun i v hv => ?_⟩
      by_cases hik : i = k
      · subst hik
        have hlt : i < cur.size := (Array.getElem?_eq_some_iff.1 hv).1
        refine ⟨x, by simp [hlt], hc v (by simp [World.cell?, h, hv])⟩
      · exact ⟨v, by rw [Array.getElem?_setIfInBounds_ne (fun e => hik e.symm)]; exact hv, CellTo.refl v⟩
    · exact ⟨cur, (heap_setCell_other w ⟨g, k, none⟩ b x e).trans h, rfl, fun _ v hv => ⟨v, hv, CellTo.refl v⟩⟩
theorem Mk.below {lo hi : Nat} {w w' : World} (h : Mk lo hi w w') (hl : lo ≤ w.heap.size) : Below lo w w' := ⟨h.os, h.tape, h.output, h.size, fun b hb => h.out b (by omega) (.inl hb)⟩
theorem belowMk {n lo hi : Nat} {w W V : World} (hb : Below n w W) (h : Mk lo hi W V) (h1 : n ≤ lo) (h2 : n ≤ W.heap.size) : Below n w V :=
  ⟨h.os.trans hb.os, h.tape.trans hb.tape, h.output.trans hb.output, Nat.le_trans hb.size h.size, fun b hlt => (h.out b (by omega) (.inl (by omega))).trans (hb.block b hlt)⟩
theorem Strs.mk {lo hi base : Nat} {w w' : World} {v : Value} {l : List (List UInt8)} (h : Strs w base v l) (hm : Mk lo hi w w') (hf : ∀ g, v.ownBlock = some g → g < lo ∨ hi ≤ g) : Strs w' base v l := by
  rcases h.form with ⟨rfl, rfl⟩ | ⟨g, cap, rfl, hb, hlt⟩
  · exact Strs.nil _ _
  · refine ⟨h.1, ?_⟩
    rcases h.2 with ⟨h0, _⟩ | ⟨g', cap', cur, hv, hg, hh, hr⟩
    · cases h0
    · right
      simp only [Value.slice.injEq, Option.some.injEq, Addr.mk.injEq, and_true] at hv
      obtain ⟨rfl, _, rfl⟩ := hv
      exact ⟨g, cap, cur, rfl, hg, (hm.out g hlt (hf g rfl)).trans hh, hr⟩
/-- The first n cells of block g are texts. -/
def RowS (w : World) (g n : Nat) (T : TypeId) : Prop := ∃ cur, w.heap[g]? = some (.cells cur T) ∧ ∀ i, i < n → ∃ s, cur[i]? = some (.string s)
theorem RowS.mk {lo hi g n : Nat} {T : TypeId} {w w' : World} (h : RowS w g n T) (hm : Mk lo hi w w') (hl : lo ≤ g) (hh : g < hi) : RowS w' g n T := by
  obtain ⟨cur, hc, hs⟩ := h
  obtain ⟨cur', hc', _, hk⟩ := hm.row g cur T hl hh hc
  refine ⟨cur', hc', fun i hi' => ?_⟩
  obtain ⟨s, hs⟩ := hs i hi'
  obtain ⟨v', hv', t⟩ := hk i _ hs
  obtain ⟨s', rfl⟩ := t
  exact ⟨s', hv'⟩
theorem RowS.cell {w : World} {g n : Nat} {T : TypeId} (h : RowS w g n T) (i : Nat) (hi : i < n) : ∃ s, w.cell? ⟨g, i, none⟩ = some (.string s) := by
  obtain ⟨cur, hc, hs⟩ := h
  obtain ⟨s, hs⟩ := hs i hi
  exact ⟨s, by simp [World.cell?, hc, hs]⟩
theorem RowS.frozen {w : World} {g n : Nat} {T : TypeId} (h : RowS w g n T) (i : Nat) : w.frozen? ⟨g, i, none⟩ = false := by
  obtain ⟨cur, hc, _⟩ := h; simp [World.frozen?, hc]
theorem RowS.set {lo hi g n : Nat} {T : TypeId} {w : World} (h : RowS w g n T) (i : Nat) (hi' : i < n) (l : List UInt8) (hl : lo ≤ g) (hh : g < hi) : Mk lo hi w (w.setCell ⟨g, i, none⟩ (sv l)) := by
  obtain ⟨s, hs⟩ := h.cell i hi'
  exact Mk.set w g i _ hl hh (fun v hv => by rw [hs] at hv; cases hv; exact ⟨_, rfl⟩)
theorem rowS_of {w : World} {base g n size cap : Nat} {T : TypeId} {xs : List Value} (h : w.ownsRow base T size (.slice (some ⟨g, 0, none⟩) n cap) n xs) (hx : ∀ v ∈ xs, ∃ s, v = .string s) : RowS w g (n * size) T := by
  obtain ⟨hl, h⟩ := h
  rcases h with ⟨h0, _⟩ | ⟨g', cap', cur, hv, _, hh, h1, h2, h3, h4⟩
  · cases h0
  · simp only [Value.slice.injEq, Option.some.injEq, Addr.mk.injEq, and_true] at hv
    obtain ⟨rfl, _, rfl⟩ := hv
    refine ⟨cur, hh, fun i hi => ?_⟩
    have hlt : i < xs.length := by omega
    have : xs[i]? = cur[i]? := by rw [← h4, List.getElem?_take_of_lt hi]; simp
    obtain ⟨s, hs⟩ := hx xs[i] (List.getElem_mem hlt)
    exact ⟨s, by rw [← this, List.getElem?_eq_getElem hlt, hs]⟩
theorem Strs.rowS {w : World} {base g n cap : Nat} {l : List (List UInt8)} (h : Strs w base (.slice (some ⟨g, 0, none⟩) n cap) l) (hn : n = l.length) : RowS w g n 9 := by
  subst hn
  have := rowS_of h (fun v hv => by obtain ⟨x, _, rfl⟩ := List.mem_map.1 hv; exact ⟨_, rfl⟩)
  simpa using this
theorem flat2_str : ∀ (l : List Bd), ∀ v ∈ flat2 l, ∃ s, v = .string s
  | [], v, h => by simp [flat2] at h
  | b :: l, v, h => by
    simp only [flat2, List.mem_cons] at h
    rcases h with rfl | rfl | h
    · exact ⟨_, rfl⟩
    · exact ⟨_, rfl⟩
    · exact flat2_str l v h
theorem Sums.rowS {w : World} {base g n cap : Nat} {l : List Bd} (h : Sums w base (.slice (some ⟨g, 0, none⟩) n cap) l) (hn : n = l.length) : RowS w g (n * 2) 61 := by
  subst hn
  exact rowS_of h (flat2_str l)

set_option maxRecDepth 100000 in
set_option maxHeartbeats 1000000 in
theorem markStringS_w (lo hi g n cap s : Nat) (w : World) (h : RowS w g n 9) (hl : lo ≤ g) (hh : g < hi) (hw : hi ≤ w.heap.size) (hn : n ≤ 2000000) (s1 : 1 ≤ s) (s2 : s ≤ 90000000) :
    Calls Tryz.prog 15 #[.slice (some ⟨g, 0, none⟩) n cap, .int .i64 (s : Int)] w fun e w' => e = .returned (.int .i64 ((s + n : Nat) : Int)) ∧ Mk lo hi w w' := by
  obtain ⟨E, HE⟩ : ∃ E, Hid (s + n = E) := ⟨_, Lib.hid rfl⟩
  rw [HE.out]
  have HR := Lib.hid h
  clear h
  go_enter Tryz.func15, Tryz.ntmps15
  go_wp2
  go_loopw [1, 5] (fun u i wr => ∃ k U : Nat, k ≤ n ∧ Hid (U = s + k) ∧ i = .int .i64 k ∧ u = .int .i64 (U : Int) ∧ Mk lo hi w wr) (fun _ i _ => n - (intOf i).toNat)
  case atStart => exact ⟨0, s, Nat.zero_le _, Lib.hid (by omega), rfl, rfl, Mk.refl _ _ _⟩
  case round =>
    obtain ⟨k, U, hk, HU, rfl, rfl, hM⟩ := hrel
    have u1 : 1 ≤ U := by have := HU.out; omega
    have u2 : U ≤ 92000000 := by have := HU.out; omega
    by_cases hlt : k < n
    · have k0 : (0 : Int) ≤ (k : Int) := by omega
      have k1 : (k : Int) < (n : Int) := by omega
      have hz := hM.size
      go_wp2_with fail
      refine (markText_any U wr (by omega) (by omega)).mono ?_
      rintro e w2 ⟨rfl, hb2⟩
      have M2 := hM.trans (Mk.of_below (lo := lo) (hi := hi) hb2 (by omega))
      have hR2 := HR.out.mk M2 hl hh
      obtain ⟨x, c2⟩ := hR2.cell k hlt
      have f2 := hR2.frozen k
      have M3 := M2.trans (hR2.set k hlt (mt U) hl hh)
      clear hR2 hM M2 hb2
      go_wp2_with fail
      go_roundw
      case rel => exact ⟨k + 1, U + 1, by omega, Lib.hid (by have := HU.out; omega), by go_num, by go_num, M3⟩
      case measure => simp [intOf]; omega
    · obtain rfl : k = n := by omega
      have HUE : Hid (U = E) := Lib.hid (by rw [HU.out, HE.out])
      go_wp2_with fail
      go_ret
      exact ⟨by rw [← HUE.out]; rfl, hM⟩

set_option maxRecDepth 100000 in
set_option maxHeartbeats 2000000 in
theorem markSumS_w (lo hi g n cap s : Nat) (w : World) (h : RowS w g (n * 2) 61) (hl : lo ≤ g) (hh : g < hi) (hw : hi ≤ w.heap.size) (hn : n ≤ 2000000) (s1 : 1 ≤ s) (s2 : s ≤ 90000000) :
    Calls Tryz.prog 50 #[.slice (some ⟨g, 0, none⟩) n cap, .int .i64 (s : Int)] w fun e w' => e = .returned (.int .i64 ((s + 2 * n : Nat) : Int)) ∧ Mk lo hi w w' := by
  obtain ⟨E, HE⟩ : ∃ E, Hid (s + 2 * n = E) := ⟨_, Lib.hid rfl⟩
  rw [HE.out]
  have HR := Lib.hid h
  clear h
  go_enter Tryz.func50, Tryz.ntmps50
  go_wp2
  go_loopw [1, 5] (fun u i wr => ∃ k U : Nat, k ≤ n ∧ Hid (U = s + 2 * k) ∧ i = .int .i64 k ∧ u = .int .i64 (U : Int) ∧ Mk lo hi w wr) (fun _ i _ => n - (intOf i).toNat)
  case atStart => exact ⟨0, s, Nat.zero_le _, Lib.hid (by omega), rfl, rfl, Mk.refl _ _ _⟩
  case round =>
    obtain ⟨k, U, hk, HU, rfl, rfl, hM⟩ := hrel
    have u1 : 1 ≤ U := by have := HU.out; omega
    have u2 : U ≤ 95000000 := by have := HU.out; omega
    by_cases hlt : k < n
    · have k0 : (0 : Int) ≤ (k : Int) := by omega
      have k1 : (k : Int) < (n : Int) := by omega
      have hz := hM.size
      have i0 : k * 2 < n * 2 := by omega
      have i1 : k * 2 + 1 < n * 2 := by omega
      go_wp2_with fail
      refine (markText_any U wr (by omega) (by omega)).mono ?_
      rintro e w2 ⟨rfl, hb2⟩
      have M2 := hM.trans (Mk.of_below (lo := lo) (hi := hi) hb2 (by omega))
      have hR2 := HR.out.mk M2 hl hh
      obtain ⟨x, c2⟩ := hR2.cell (k * 2) i0
      have f2 := hR2.frozen (k * 2)
      have M3 := M2.trans (hR2.set (k * 2) i0 (mt U) hl hh)
      clear hR2 hM M2 hb2
      go_wp2_with fail
      refine (markText_any (U + 1) _ (by omega) (by omega)).mono ?_
      rintro e w4 ⟨rfl, hb4⟩
      have M4 := M3.trans (Mk.of_below (lo := lo) (hi := hi) hb4 (by have := M3.size; omega))
      have hR4 := HR.out.mk M4 hl hh
      obtain ⟨y, c4⟩ := hR4.cell (k * 2 + 1) i1
      have f4 := hR4.frozen (k * 2 + 1)
      have M5 := M4.trans (hR4.set (k * 2 + 1) i1 (mt (U + 1)) hl hh)
      clear hR4 M3 M4 hb4
      go_wp2_with fail
      go_roundw
      case rel => exact ⟨k + 1, U + 2, by omega, Lib.hid (by have := HU.out; omega), by go_num, by go_num, M5⟩
      case measure => simp [intOf]; omega
    · obtain rfl : k = n := by omega
      have HUE : Hid (U = E) := Lib.hid (by rw [HU.out, HE.out])
      go_wp2_with fail
      go_ret
      exact ⟨by rw [← HUE.out]; rfl, hM⟩
end Go.Proofs.YtcfkhfbhmjfhdaaGreatDoor

/-
  The laws' own markPackS and markGraph: marks over a graph of the call's own change only its blocks.
-/
namespace Go.Proofs.YtcfkhfbhmjfhdaaGreatDoor
open Go.RowKit

/-- A lists's address: none, or a row of texts among the blocks from lo on and below hi. -/
def SlR (w : World) (lo hi : Nat) (A : Option Addr) (n size : Nat) (T : TypeId) : Prop := (A = none ∧ n = 0) ∨ ∃ g, A = some ⟨g, 0, none⟩ ∧ lo ≤ g ∧ g < hi ∧ RowS w g (n * size) T
theorem SlR.mk {w w' : World} {lo hi n size : Nat} {A : Option Addr} {T : TypeId} (h : SlR w lo hi A n size T) (hm : Mk lo hi w w') : SlR w' lo hi A n size T := by
  rcases h with h | ⟨g, hA, h1, h2, h3⟩
  · exact .inl h
  · exact .inr ⟨g, hA, h1, h2, h3.mk hm h1 h2⟩
theorem strs_slR {w : World} {lo hi base n cap : Nat} {A : Option Addr} {l : List (List UInt8)} (h : Strs w base (.slice A n cap) l) (hn : n = l.length) (hl : lo ≤ base) (hh : w.heap.size ≤ hi) : SlR w lo hi A n 1 9 := by
  subst hn
  rcases h.form with ⟨hv, rfl⟩ | ⟨g, cap', hv, hb, hg⟩
  · simp only [Value.slice.injEq] at hv; exact .inl ⟨hv.1, rfl⟩
  · simp only [Value.slice.injEq] at hv
    obtain ⟨rfl, _, rfl⟩ := hv
    refine .inr ⟨g, rfl, by omega, by omega, ?_⟩
    rw [Nat.mul_one]; exact h.rowS rfl
theorem sums_slR {w : World} {lo hi base n cap : Nat} {A : Option Addr} {l : List Bd} (h : Sums w base (.slice A n cap) l) (hn : n = l.length) (hl : lo ≤ base) (hh : w.heap.size ≤ hi) : SlR w lo hi A n 2 61 := by
  subst hn
  rcases h.form with ⟨hv, rfl⟩ | ⟨g, cap', hv, hb, hg⟩
  · simp only [Value.slice.injEq] at hv; exact .inl ⟨hv.1, rfl⟩
  · simp only [Value.slice.injEq] at hv
    obtain ⟨rfl, _, rfl⟩ := hv
    exact .inr ⟨g, rfl, by omega, by omega, h.rowS rfl⟩
/-- The six cells from o on are a pack's, its lists among the blocks from lo on and below hi. -/
def PkC (w : World) (lo hi : Nat) (cur : Array Value) (o ns nn : Nat) : Prop := ∃ s0 s1 s2 A1 c1 d A2 c2, cur[o]? = some (.string s0) ∧ cur[o + 1]? = some (.string s1) ∧ cur[o + 2]? = some (.string s2) ∧ cur[o + 3]? = some (.slice A1 ns c1) ∧ cur[o + 4]? = some (.bool d) ∧ cur[o + 5]? = some (.slice A2 nn c2) ∧ SlR w lo hi A1 ns 2 61 ∧ SlR w lo hi A2 nn 1 9
/-- A list of packs whose blocks all lie from lo on and below hi. -/
def PksS (w : World) (lo hi : Nat) (v : Value) (ps : List Pk) : Prop := ∃ G cap cur, v = .slice (some ⟨G, 0, none⟩) ps.length cap ∧ lo ≤ G ∧ G < hi ∧ w.heap[G]? = some (.cells cur 43) ∧ ∀ k (h : k < ps.length), PkC w lo hi cur (k * 6) ps[k].sums.length ps[k].needs.length
theorem PksS.mk {w w' : World} {lo hi : Nat} {v : Value} {ps : List Pk} (h : PksS w lo hi v ps) (hm : Mk lo hi w w') : PksS w' lo hi v ps := by
  obtain ⟨G, cap, cur, hv, h1, h2, hc, hp⟩ := h
  obtain ⟨cur', hc', _, hk⟩ := hm.row G cur _ h1 h2 hc
  refine ⟨G, cap, cur', hv, h1, h2, hc', fun k hlt => ?_⟩
  obtain ⟨s0, s1, s2, A1, c1, d, A2, c2, e0, e1, e2, e3, e4, e5, r1, r2⟩ := hp k hlt
  obtain ⟨_, f0, ⟨t0, rfl⟩⟩ := hk _ _ e0
  obtain ⟨_, f1, ⟨t1, rfl⟩⟩ := hk _ _ e1
  obtain ⟨_, f2, ⟨t2, rfl⟩⟩ := hk _ _ e2
  obtain ⟨v3, f3, t3⟩ := hk _ _ e3
  obtain ⟨_, f4, ⟨t4, rfl⟩⟩ := hk _ _ e4
  obtain ⟨v5, f5, t5⟩ := hk _ _ e5
  obtain rfl : v3 = _ := t3
  obtain rfl : v5 = _ := t5
  exact ⟨t0, t1, t2, A1, c1, t4, A2, c2, f0, f1, f2, f3, f4, f5, r1.mk hm, r2.mk hm⟩
theorem Sums.sliceV {w : World} {base : Nat} {v : Value} {l : List Bd} (h : Sums w base v l) : ∃ A c, v = .slice A l.length c := by
  rcases h.form with ⟨rfl, rfl⟩ | ⟨g, cap, rfl, _⟩
  · exact ⟨none, 0, rfl⟩
  · exact ⟨_, _, rfl⟩
theorem PksS.of_own {w : World} {lo : Nat} {v : Value} {ps : List Pk} (h : PksOwn w lo v ps) : PksS w lo w.heap.size v ps := by
  obtain ⟨G, cap, qs, rfl, h1, h2, rfl, h4, h5⟩ := h
  obtain ⟨hl, hr⟩ := h4
  rcases hr with ⟨h0, _⟩ | ⟨g', cap', cur, hv, _, hh, hn, _, hsz, htk⟩
  · cases h0
  · simp only [Value.slice.injEq, Option.some.injEq, Addr.mk.injEq, and_true] at hv
    obtain ⟨rfl, _, rfl⟩ := hv
    refine ⟨G, cap, cur, rfl, h1, h2, hh, fun k hlt => ?_⟩
    simp at hlt
    have hg : ∀ i, i < 6 → cur[k * 6 + i]? = (flatP qs)[k * 6 + i]? := fun i hi => by
      rw [← htk, List.getElem?_take_of_lt (by omega)]; simp
    obtain ⟨e0, e1, e2, e3, e4, e5⟩ := flatP_get qs k hlt
    have ho := h5 qs[k] (List.getElem_mem hlt)
    obtain ⟨A1, c1, q1⟩ := ho.1.sliceV
    obtain ⟨A2, c2, q2⟩ := ho.2.slice
    rw [q1] at e3
    rw [q2] at e5
    have o1 := ho.1
    have o2 := ho.2
    rw [q1] at o1
    rw [q2] at o2
    simp only [List.getElem_map]
    refine ⟨_, _, _, A1, c1, _, A2, c2, (hg 0 (by omega)).trans e0, (hg 1 (by omega)).trans e1, (hg 2 (by omega)).trans e2, (hg 3 (by omega)).trans e3, (hg 4 (by omega)).trans e4, (hg 5 (by omega)).trans e5, sums_slR o1 rfl (by omega) (Nat.le_refl _), strs_slR o2 rfl (by omega) (Nat.le_refl _)⟩
theorem PksS.below {w w' : World} {lo hi : Nat} {v : Value} {ps : List Pk} (h : PksS w lo hi v ps) (hb : Below w.heap.size w w') (hh : hi ≤ w.heap.size) : PksS w' lo hi v ps := h.mk (Mk.of_below hb hh)

set_option maxRecDepth 100000 in
set_option maxHeartbeats 1000000 in
theorem markStringS_r (lo hi n cap s : Nat) (A : Option Addr) (w : World) (h : SlR w lo hi A n 1 9) (hw : hi ≤ w.heap.size) (hn : n ≤ 2000000) (s1 : 1 ≤ s) (s2 : s ≤ 90000000) :
    Calls Tryz.prog 15 #[.slice A n cap, .int .i64 (s : Int)] w fun e w' => e = .returned (.int .i64 ((s + n : Nat) : Int)) ∧ Mk lo hi w w' := by
  rcases h with ⟨rfl, rfl⟩ | ⟨g, rfl, h1, h2, h3⟩
  · go_enter Tryz.func15, Tryz.ntmps15
    go_wp2
    refine wp_loop_rounds 1 ?_
    rw [rounds_succ]; go_wp2
    go_ret
    exact ⟨rfl, Mk.refl _ _ _⟩
  · rw [Nat.mul_one] at h3
    exact markStringS_w lo hi g n cap s w h3 h1 h2 hw hn s1 s2
set_option maxRecDepth 100000 in
set_option maxHeartbeats 1000000 in
theorem markSumS_r (lo hi n cap s : Nat) (A : Option Addr) (w : World) (h : SlR w lo hi A n 2 61) (hw : hi ≤ w.heap.size) (hn : n ≤ 2000000) (s1 : 1 ≤ s) (s2 : s ≤ 90000000) :
    Calls Tryz.prog 50 #[.slice A n cap, .int .i64 (s : Int)] w fun e w' => e = .returned (.int .i64 ((s + 2 * n : Nat) : Int)) ∧ Mk lo hi w w' := by
  rcases h with ⟨rfl, rfl⟩ | ⟨g, rfl, h1, h2, h3⟩
  · go_enter Tryz.func50, Tryz.ntmps50
    go_wp2
    refine wp_loop_rounds 1 ?_
    rw [rounds_succ]; go_wp2
    go_ret
    exact ⟨rfl, Mk.refl _ _ _⟩
  · exact markSumS_w lo hi g n cap s w h3 h1 h2 hw hn s1 s2
/-- How many marks the first k packs take. -/
def cntP (ps : List Pk) : Nat → Nat
  | 0 => 0
  | k + 1 => cntP ps k + (4 + 2 * (ps.getD k default).sums.length + (ps.getD k default).needs.length)
theorem cntP_le (ps : List Pk) : ∀ k, k ≤ ps.length → cntP ps k ≤ 4 * k + 2 * smP (ps.take k)
  | 0, _ => by simp [cntP]
  | k + 1, h => by
    have ih := cntP_le ps k (by omega)
    have hs := smP_snoc ps k (by omega)
    unfold cntP
    rw [ps_getD (by omega : k < ps.length)]
    have : wP ps[k] = ps[k].name.length + ps[k].ver.length + ps[k].src.length + (ps[k].sums.length + smB ps[k].sums) + (ps[k].needs.length + smL ps[k].needs) := rfl
    omega
where
  ps_getD {ps : List Pk} {k : Nat} (h : k < ps.length) : ps.getD k default = ps[k] := by rw [List.getD_eq_getElem?_getD, List.getElem?_eq_getElem h]; rfl
theorem cntP_small {ps : List Pk} (hs : SmPs ps) (k : Nat) (hk : k ≤ ps.length) : cntP ps k ≤ 10000000 := by
  have h1 := cntP_le ps k hk
  have h2 := smP_le ps k
  unfold SmPs at hs
  omega
theorem cellOf {w : World} {G i : Nat} {cur : Array Value} {T : TypeId} {v : Value} (h : w.heap[G]? = some (.cells cur T)) (hv : cur[i]? = some v) : w.cell? ⟨G, i, none⟩ = some v ∧ w.frozen? ⟨G, i, none⟩ = false := by
  constructor
  · simp [World.cell?, h, hv]
  · simp [World.frozen?, h]

set_option maxRecDepth 100000 in
set_option maxHeartbeats 4000000 in
theorem markPackS_w (lo hi s : Nat) (v : Value) (ps : List Pk) (w : World) (h : PksS w lo hi v ps) (hw : hi ≤ w.heap.size) (hs : SmPs ps) (s1 : 1 ≤ s) (s2 : s ≤ 10000000) :
    Calls Tryz.prog 33 #[v, .int .i64 (s : Int)] w fun e w' => ∃ z : Nat, e = .returned (.int .i64 (z : Int)) ∧ Mk lo hi w w' := by
  have HS := Lib.hid hs
  have HP := Lib.hid h
  have hn : ps.length ≤ 1048576 := by unfold SmPs at hs; omega
  obtain ⟨G, cap, cur0, rfl, hG1, hG2, _, _⟩ := h
  clear hs
  go_enter Tryz.func33, Tryz.ntmps33
  go_wp2_with fail
  go_loopw [1, 5] (fun u i wr => ∃ k U : Nat, k ≤ ps.length ∧ Hid (U = s + cntP ps k) ∧ i = .int .i64 k ∧ u = .int .i64 (U : Int) ∧ Mk lo hi w wr) (fun _ i _ => ps.length - (intOf i).toNat)
  case atStart => exact ⟨0, s, Nat.zero_le _, Lib.hid (by simp [cntP]), rfl, rfl, Mk.refl _ _ _⟩
  case round =>
    obtain ⟨k, U, hk, HU, rfl, rfl, hM⟩ := hrel
    have hc := cntP_small HS.out k hk
    have u1 : 1 ≤ U := by have := HU.out; omega
    have u2 : U ≤ 20000000 := by have := HU.out; omega
    by_cases hlt : k < ps.length
    · have hw0 := HS.out.get k hlt
      have hsl : ps[k].sums.length ≤ 1048576 := by have := hw0.sums; unfold SmB at this; omega
      have hnl : ps[k].needs.length ≤ 1048576 := by have := hw0.needs; omega
      have HU2 : Hid (cntP ps (k + 1) = cntP ps k + (4 + 2 * ps[k].sums.length + ps[k].needs.length)) := Lib.hid (by rw [← cntP_le.ps_getD hlt]; rfl)
      have HR := Lib.hid (fun (W : World) (hm : Mk lo hi w W) => (show ∃ cur, W.heap[G]? = some (.cells cur 43) ∧ PkC W lo hi cur (k * 6) ps[k].sums.length ps[k].needs.length from by
        obtain ⟨G', cap', cur, hv, _, _, hh, hp⟩ := HP.out.mk hm
        simp only [Value.slice.injEq, Option.some.injEq, Addr.mk.injEq, and_true] at hv
        obtain ⟨rfl, _⟩ := hv
        exact ⟨cur, hh, hp k hlt⟩))
      obtain ⟨ns, HNS⟩ : ∃ ns, Hid (ps[k].sums.length = ns) := ⟨_, Lib.hid rfl⟩
      obtain ⟨nn, HNN⟩ : ∃ nn, Hid (ps[k].needs.length = nn) := ⟨_, Lib.hid rfl⟩
      simp only [HNS.out, HNN.out] at HR HU2 hsl hnl
      have k0 : (0 : Int) ≤ (k : Int) := by omega
      have k1 : (k : Int) < (ps.length : Int) := by omega
      have hz : hi ≤ wr.heap.size := by have := hM.size; omega
      clear hw0 hc
      go_wp2_with fail
      refine (markText_any U wr (by omega) (by omega)).mono ?_
      rintro e w2 ⟨rfl, hb2⟩
      have M2 := hM.trans (Mk.of_below (lo := lo) (hi := hi) hb2 hz)
      obtain ⟨cu, hcu, t0, t1, t2, A1, c1, d, A2, c2, e0, e1, e2, e3, e4, e5, r1, r2⟩ := HR.out _ M2
      obtain ⟨x0, f0⟩ := cellOf hcu e0
      have M3 := M2.trans (Mk.set w2 G (k * 6) (sv (mt U)) hG1 hG2 (fun v hv => by rw [x0] at hv; cases hv; exact ⟨_, rfl⟩))
      have hz2 : hi ≤ w2.heap.size := by have := M2.size; omega
      clear hM hb2 hcu e0 e1 e2 e3 e4 e5 r1 r2 M2
      go_wp2_with fail
      refine (markText_any (U + 1) _ (by omega) (by omega)).mono ?_
      rintro e w3 ⟨rfl, hb3⟩
      have M4 := M3.trans (Mk.of_below (lo := lo) (hi := hi) hb3 (by simpa using hz2))
      obtain ⟨cu, hcu, t0, t1, t2, A1, c1, d, A2, c2, e0, e1, e2, e3, e4, e5, r1, r2⟩ := HR.out _ M4
      obtain ⟨x1, f1⟩ := cellOf hcu e1
      have M5 := M4.trans (Mk.set w3 G (k * 6 + 1) (sv (mt (U + 1))) hG1 hG2 (fun v hv => by rw [x1] at hv; cases hv; exact ⟨_, rfl⟩))
      have hz3 : hi ≤ w3.heap.size := by have := M4.size; omega
      clear hb3 hcu e0 e1 e2 e3 e4 e5 r1 r2 M4 M3 x0 f0 hz2
      go_wp2_with fail
      refine (markText_any (U + 2) _ (by omega) (by omega)).mono ?_
      rintro e w4 ⟨rfl, hb4⟩
      have M6 := M5.trans (Mk.of_below (lo := lo) (hi := hi) hb4 (by simpa using hz3))
      obtain ⟨cu, hcu, t0, t1, t2, A1, c1, d, A2, c2, e0, e1, e2, e3, e4, e5, r1, r2⟩ := HR.out _ M6
      obtain ⟨x2, f2⟩ := cellOf hcu e2
      have S2 := Mk.set (lo := lo) (hi := hi) w4 G (k * 6 + 2) (sv (mt (U + 2))) hG1 hG2 (fun v hv => by rw [x2] at hv; cases hv; exact ⟨_, rfl⟩)
      have M7 := M6.trans S2
      have hz4 : hi ≤ w4.heap.size := by have := M6.size; omega
      obtain ⟨x3, _⟩ := cellOf hcu e3
      have HM3 := Lib.hid (markSumS_r lo hi ns c1 (U + 3) A1 _ (r1.mk S2) (by simpa using hz4) (by omega) (by omega) (by omega))
      clear hb4 hcu e0 e1 e2 e3 e4 e5 r1 r2 M6 M5 x1 f1 hz3 S2
      go_wp2_with fail
      refine HM3.out.mono ?_
      rintro e w5 ⟨rfl, hm5⟩
      have M8 := M7.trans hm5
      obtain ⟨U5, HU5⟩ : ∃ U5, Hid (U + 3 + 2 * ns = U5) := ⟨_, Lib.hid rfl⟩
      rw [HU5.out]
      have u5 : U5 ≤ 30000000 := by have := HU5.out; omega
      obtain ⟨cu, hcu, t0, t1, t2, A1, c1, d, A2, c2, e0, e1, e2, e3, e4, e5, r1, r2⟩ := HR.out _ M8
      obtain ⟨x4, f4⟩ := cellOf hcu e4
      obtain ⟨x5, _⟩ := cellOf hcu e5
      have HMB := Lib.hid (fun (b : Bool) => Mk.set (lo := lo) (hi := hi) w5 G (k * 6 + 4) (.bool b) hG1 hG2 (fun v hv => by rw [x4] at hv; cases hv; exact ⟨_, rfl⟩))
      have hz5 : hi ≤ w5.heap.size := by have := M8.size; omega
      have HM5 := Lib.hid (fun (b : Bool) => markStringS_r lo hi nn c2 (U5 + 1) A2 _ (r2.mk (HMB.out b)) (by simpa using hz5) (by omega) (by omega) (by omega))
      clear hcu e0 e1 e2 e3 e4 e5 r1 r2 hm5 M7 HM3 x2 f2 x3 hz4
      have u6 : IntKind.i64.wrap ((U5 : Int) + 1) = (U5 : Int) + 1 := IntWalk.i64_in _ (by omega)
      go_wp2_with fail
      refine (HM5.out _).mono ?_
      rintro e w6 ⟨rfl, hm6⟩
      have M9 := (M8.trans (HMB.out _)).trans hm6
      obtain ⟨U6, HU6⟩ : ∃ U6, Hid (U5 + 1 + nn = U6) := ⟨_, Lib.hid rfl⟩
      rw [HU6.out]
      go_wp2_with fail
      go_roundw
      case rel => exact ⟨k + 1, U6, by omega, Lib.hid (by rw [← HU6.out, ← HU5.out, HU2.out, HU.out]; omega), by go_num, by go_num, M9⟩
      case measure => simp [intOf]; omega
    · go_wp2_with fail
      go_ret
      exact ⟨U, rfl, hM⟩

set_option maxRecDepth 100000 in
set_option maxHeartbeats 2000000 in
theorem markGraph_w (lo hi tc : Nat) (T : Option Addr) (vp : Value) (ts : List (List UInt8)) (ps : List Pk) (w : World) (ht : SlR w lo hi T ts.length 1 9) (hp : PksS w lo hi vp ps) (hw : hi ≤ w.heap.size) (hs : SmG ts ps) :
    Calls Tryz.prog 14 #[.agg #[.slice T ts.length tc, vp], .int .i64 1] w fun e w' => ∃ z : Nat, e = .returned (.int .i64 (z : Int)) ∧ Mk lo hi w w' := by
  have htl : ts.length ≤ 1048576 := by have := hs.1; omega
  obtain ⟨A, ca, hv⟩ : ∃ A ca, vp = .slice A ps.length ca := by obtain ⟨G, cap, cur, hv, _⟩ := hp; exact ⟨_, _, hv⟩
  subst hv
  have B0 : Below w.heap.size w (w.alloc (.cells #[.slice T ts.length tc, .slice A ps.length ca] 30)) := (Below.refl _ _).alloc (Nat.le_refl _) _
  have b0 := heap_alloc_new w (.cells #[.slice T ts.length tc, .slice A ps.length ca] 30)
  have M0 : Mk lo hi w (w.alloc (.cells #[.slice T ts.length tc, .slice A ps.length ca] 30)) := Mk.of_below B0 hw
  have HS := Lib.hid (markStringS_r lo hi ts.length tc 1 T _ (ht.mk M0) (by simp; omega) (by omega) (by omega) (by omega))
  have HP := Lib.hid (fun (s : Nat) (W : World) (hm : Mk lo hi w W) (s1 : 1 ≤ s) (s2 : s ≤ 10000000) => markPackS_w lo hi s (.slice A ps.length ca) ps W (hp.mk hm) (by have := hm.size; omega) hs.2 s1 s2)
  obtain ⟨x0, x1⟩ := cellsG b0
  clear ht hp hs
  go_enter Tryz.func14, Tryz.ntmps14
  go_wp2_with fail
  refine HS.out.mono ?_
  rintro e w1 ⟨rfl, hm1⟩
  have b1 : w1.heap[w.heap.size]? = some (.cells #[.slice T ts.length tc, .slice A ps.length ca] 30) := (hm1.out _ (by simp) (.inr hw)).trans b0
  obtain ⟨y0, y1⟩ := cellsG b1
  have M1 := M0.trans hm1
  obtain ⟨U, HU⟩ : ∃ U, Hid (1 + ts.length = U) := ⟨_, Lib.hid rfl⟩
  rw [HU.out]
  have HP2 := Lib.hid (HP.out U w1 M1 (by have := HU.out; omega) (by have := HU.out; omega))
  clear hm1 x0 x1 b0 b1 B0
  go_wp2_with fail
  refine HP2.out.mono ?_
  rintro e w2 ⟨z, rfl, hm2⟩
  go_wp2_with fail
  go_ret
  exact ⟨z, rfl, M1.trans hm2⟩
end Go.Proofs.YtcfkhfbhmjfhdaaGreatDoor

/-
  The laws' own helpers on lists of texts: markStringS writes marks over each, heldStringS reads them.
-/
namespace Go.Proofs.YtcfkhfbhmjfhdaaGreatDoor
open Go.RowKit

/-- The first k of n marks, then what stood there. -/
def mks (k : Nat) (ls : List (List UInt8)) : List (List UInt8) := (List.range k).map (fun j => mt (j + 1)) ++ ls.drop k
theorem mks_zero (ls : List (List UInt8)) : mks 0 ls = ls := by simp [mks]
theorem mks_len (k : Nat) (ls : List (List UInt8)) (h : k ≤ ls.length) : (mks k ls).length = ls.length := by simp [mks]; omega
theorem mks_get (k : Nat) (ls : List (List UInt8)) (j : Nat) (hj : j < k) (h : j < (mks k ls).length) : (mks k ls)[j] = mt (j + 1) := by simp [mks, hj]
theorem mks_set (k : Nat) (ls : List (List UInt8)) (h : k < ls.length) : (mks k ls).set k (mt (k + 1)) = mks (k + 1) ls := by
  unfold mks
  rw [List.set_append_right _ _ (by simp)]
  simp only [List.length_map, List.length_range, Nat.sub_self]
  rw [List.range_succ, List.map_append, List.append_assoc]
  congr 1
  rw [List.drop_eq_getElem_cons h]
  rfl

set_option maxRecDepth 100000 in
set_option maxHeartbeats 1000000 in
theorem markStringS_any (w : World) (base g cap : Nat) (ls : List (List UInt8)) (h : Strs w base (.slice (some ⟨g, 0, none⟩) ls.length cap) ls) (hb0 : base ≤ w.heap.size) (hg : base ≤ g) (hl : ls.length ≤ 2000000) :
    Calls Tryz.prog 15 #[.slice (some ⟨g, 0, none⟩) ls.length cap, .int .i64 1] w fun e w' => e = .returned (.int .i64 ((ls.length + 1 : Nat) : Int)) ∧ Strs w' base (.slice (some ⟨g, 0, none⟩) ls.length cap) (mks ls.length ls) ∧ Below base w w' := by
  go_enter Tryz.func15, Tryz.ntmps15
  go_wp2
  go_loopw [1, 5] (fun u i wr => ∃ k : Nat, k ≤ ls.length ∧ i = .int .i64 k ∧ u = .int .i64 ((k + 1 : Nat) : Int) ∧ Strs wr base (.slice (some ⟨g, 0, none⟩) ls.length cap) (mks k ls) ∧ Below base w wr) (fun _ i _ => ls.length - (intOf i).toNat)
  case atStart => exact ⟨0, Nat.zero_le _, rfl, rfl, by rw [mks_zero]; exact h, Below.refl _ _⟩
  case round =>
    obtain ⟨k, hk, rfl, rfl, hS, hb⟩ := hrel
    by_cases hlt : k < ls.length
    · have k0 : (0 : Int) ≤ (k : Int) := by omega
      have k1 : (k : Int) < (ls.length : Int) := by omega
      have hm := markText_any (k + 1) wr (by omega) (by omega)
      have HM := Lib.hid hm
      clear hm h
      go_wp2_with fail
      refine HM.out.mono ?_
      rintro e w2 ⟨rfl, hb2⟩
      have hS2 := hS.below hb2
      have hS2' : Strs w2 base (.slice (some ⟨g, 0, none⟩) (mks k ls).length cap) (mks k ls) := by rw [mks_len k ls hk]; exact hS2
      have c2 : w2.cell? ⟨g, k, none⟩ = some (sv ((mks k ls)[k]'(by rw [mks_len k ls hk]; exact hlt))) := hS2.cell k _
      have f2 : w2.frozen? ⟨g, k, none⟩ = false := World.ownsRow.frozenAt hS2' k
      have HB := hb.trans (hb2.mono (Nat.le_trans hb0 hb.size))
      go_wp2_with fail
      go_roundw
      case rel => exact ⟨k + 1, by omega, by go_num, by go_num, by have := hS2'.set k (mt (k + 1)); rw [mks_set k ls hlt, mks_len (k+1) ls (by omega)] at this; exact this, HB.setCell (p := ⟨g, k, none⟩) hg _⟩
      case measure => simp [intOf]; omega
    · obtain rfl : k = ls.length := by omega
      clear h
      go_wp2_with fail
      go_ret
      exact ⟨rfl, hS, hb⟩

set_option maxRecDepth 100000 in
set_option maxHeartbeats 1000000 in
theorem heldStringS_any (w : World) (base g cap : Nat) (ls : List (List UInt8)) (h : Strs w base (.slice (some ⟨g, 0, none⟩) ls.length cap) (mks ls.length ls)) (hl : ls.length ≤ 2000000) :
    Calls Tryz.prog 16 #[.slice (some ⟨g, 0, none⟩) ls.length cap, .int .i64 1] w fun e w' => e = .returned (.int .i64 ((ls.length + 1 : Nat) : Int)) ∧ Below w.heap.size w w' := by
  go_enter Tryz.func16, Tryz.ntmps16
  go_wp2
  go_loopw [1, 5] (fun u i wr => ∃ k : Nat, k ≤ ls.length ∧ i = .int .i64 k ∧ u = .int .i64 ((k + 1 : Nat) : Int) ∧ Strs wr base (.slice (some ⟨g, 0, none⟩) ls.length cap) (mks ls.length ls) ∧ Below w.heap.size w wr) (fun _ i _ => ls.length - (intOf i).toNat)
  case atStart => exact ⟨0, Nat.zero_le _, rfl, rfl, h, Below.refl _ _⟩
  case round =>
    obtain ⟨k, hk, rfl, rfl, hS, hb⟩ := hrel
    by_cases hlt : k < ls.length
    · have k0 : (0 : Int) ≤ (k : Int) := by omega
      have k1 : (k : Int) < (ls.length : Int) := by omega
      have HM := Lib.hid (fun W => markText_any (k + 1) W (by omega) (by omega))
      clear h
      have HC : Hid (∀ W, Strs W base (.slice (some ⟨g, 0, none⟩) ls.length cap) (mks ls.length ls) → W.cell? ⟨g, k, none⟩ = some (.string ⟨(mt (k + 1)).toArray⟩)) := Lib.hid (fun W hW => by
        have := hW.cell k (by rw [mks_len _ ls (Nat.le_refl _)]; exact hlt)
        rw [mks_get ls.length ls k hlt] at this
        exact this)
      have c1 := HC.out wr hS
      have g1 : g < wr.heap.size := by
        rcases hS.form with ⟨h', _⟩ | ⟨g', cap', h', _, hg'⟩
        · cases h'
        · simp only [Value.slice.injEq, Option.some.injEq, Addr.mk.injEq, and_true] at h'
          rw [h'.1]; exact hg'
      go_wp2_with fail
      go_region_held3 (fun W => W.cell? ⟨g, k, none⟩ = some (.string ⟨(mt (k + 1)).toArray⟩) ∧ g < W.heap.size) (first | exact ⟨c1, g1⟩ | (refine ⟨?_, ?_⟩ <;> assumption) | exact keep_cell hb1 (by assumption) (by assumption)) ((first | (go_at_call 34; refine (HM.out _).mono ?_; rintro e w1 ⟨rfl, hb1⟩)))
      go_wp2_with fail
      have hd : Below w.heap.size w wr.drew := hb.trans ⟨rfl, rfl, rfl, Nat.le_refl _, fun _ _ => rfl⟩
      go_roundw
      case rel => exact ⟨k + 1, by omega, by go_num, by go_num, hS.drew.below hb1, hd.trans (hb1.mono hd.size)⟩
      case measure => simp [intOf]; omega
    · obtain rfl : k = ls.length := by omega
      clear h
      go_wp2_with fail
      go_ret
      exact ⟨rfl, hb⟩
end Go.Proofs.YtcfkhfbhmjfhdaaGreatDoor

/-
  The laws' own helpers on lists of texts: markStringS writes marks over each, heldStringS reads them; nil lists too.
-/
namespace Go.Proofs.YtcfkhfbhmjfhdaaGreatDoor
open Go.RowKit

set_option maxRecDepth 100000 in
set_option maxHeartbeats 1000000 in
theorem markS_any (w : World) (base : Nat) (v : Value) (ls : List (List UInt8)) (h : Strs w base v ls) (hb0 : base ≤ w.heap.size) (hl : ls.length ≤ 2000000) :
    Calls Tryz.prog 15 #[v, .int .i64 1] w fun e w' => e = .returned (.int .i64 ((ls.length + 1 : Nat) : Int)) ∧ Strs w' base v (mks ls.length ls) ∧ Below base w w' := by
  rcases h.form with ⟨rfl, rfl⟩ | ⟨g, cap, rfl, hg, _⟩
  · go_enter Tryz.func15, Tryz.ntmps15
    go_wp2
    refine wp_loop_rounds 1 ?_
    rw [rounds_succ]; go_wp2
    go_ret
    exact ⟨rfl, h, Below.refl _ _⟩
  · exact markStringS_any w base g cap ls h hb0 hg hl
set_option maxRecDepth 100000 in
set_option maxHeartbeats 1000000 in
theorem heldS_any (w : World) (base : Nat) (v : Value) (ls : List (List UInt8)) (h : Strs w base v (mks ls.length ls)) (hl : ls.length ≤ 2000000) :
    Calls Tryz.prog 16 #[v, .int .i64 1] w fun e w' => e = .returned (.int .i64 ((ls.length + 1 : Nat) : Int)) ∧ Below w.heap.size w w' := by
  rcases h.form with ⟨rfl, h0⟩ | ⟨g, cap, rfl, hg, _⟩
  · have : ls = [] := by
      have := mks_len ls.length ls (Nat.le_refl _)
      rw [h0] at this
      exact List.eq_nil_of_length_eq_zero this.symm
    subst this
    go_enter Tryz.func16, Tryz.ntmps16
    go_wp2
    refine wp_loop_rounds 1 ?_
    rw [rounds_succ]; go_wp2
    go_ret
    exact ⟨rfl, Below.refl _ _⟩
  · rw [mks_len ls.length ls (Nat.le_refl _)] at h ⊢
    exact heldStringS_any w base g cap ls h hl

set_option maxRecDepth 100000 in
set_option maxHeartbeats 1000000 in
theorem markStringS_gr (w : World) (base g cap : Nat) (ls : List (List UInt8)) (h : Strs w base (.slice (some ⟨g, 0, none⟩) ls.length cap) ls) (hl : ls.length ≤ 2000000) :
    Calls Tryz.prog 15 #[.slice (some ⟨g, 0, none⟩) ls.length cap, .int .i64 1] w fun e w' => e = .returned (.int .i64 ((ls.length + 1 : Nat) : Int)) ∧ Strs w' base (.slice (some ⟨g, 0, none⟩) ls.length cap) (mks ls.length ls) ∧ w.grownBy w' (some g) := by
  go_enter Tryz.func15, Tryz.ntmps15
  go_wp2
  go_loopw [1, 5] (fun u i wr => ∃ k : Nat, k ≤ ls.length ∧ i = .int .i64 k ∧ u = .int .i64 ((k + 1 : Nat) : Int) ∧ Strs wr base (.slice (some ⟨g, 0, none⟩) ls.length cap) (mks k ls) ∧ w.grownBy wr (some g)) (fun _ i _ => ls.length - (intOf i).toNat)
  case atStart => exact ⟨0, Nat.zero_le _, rfl, rfl, by rw [mks_zero]; exact h, World.grownBy.refl w _⟩
  case round =>
    obtain ⟨k, hk, rfl, rfl, hS, hb⟩ := hrel
    by_cases hlt : k < ls.length
    · have k0 : (0 : Int) ≤ (k : Int) := by omega
      have k1 : (k : Int) < (ls.length : Int) := by omega
      have HM := Lib.hid (markText_any (k + 1) wr (by omega) (by omega))
      clear h
      go_wp2_with fail
      refine HM.out.mono ?_
      rintro e w2 ⟨rfl, hb2⟩
      have hS2 := hS.below hb2
      have hS2' : Strs w2 base (.slice (some ⟨g, 0, none⟩) (mks k ls).length cap) (mks k ls) := by rw [mks_len k ls hk]; exact hS2
      have c2 : w2.cell? ⟨g, k, none⟩ = some (sv ((mks k ls)[k]'(by rw [mks_len k ls hk]; exact hlt))) := hS2.cell k _
      have f2 : w2.frozen? ⟨g, k, none⟩ = false := World.ownsRow.frozenAt hS2' k
      have HB := gr_trans hb (gr_below hb2)
      go_wp2_with fail
      go_roundw
      case rel => exact ⟨k + 1, by omega, by go_num, by go_num, by have := hS2'.set k (mt (k + 1)); rw [mks_set k ls hlt, mks_len (k+1) ls (by omega)] at this; exact this, gr_trans HB (gr_set _ _ _ _)⟩
      case measure => simp [intOf]; omega
    · obtain rfl : k = ls.length := by omega
      clear h
      go_wp2_with fail
      go_ret
      exact ⟨rfl, hS, hb⟩

set_option maxRecDepth 100000 in
set_option maxHeartbeats 1000000 in
theorem markS_gr (w : World) (base : Nat) (v : Value) (ls : List (List UInt8)) (h : Strs w base v ls) (hl : ls.length ≤ 2000000) :
    Calls Tryz.prog 15 #[v, .int .i64 1] w fun e w' => e = .returned (.int .i64 ((ls.length + 1 : Nat) : Int)) ∧ Strs w' base v (mks ls.length ls) ∧ w.grownBy w' v.ownBlock := by
  rcases h.form with ⟨rfl, rfl⟩ | ⟨g, cap, rfl, hg, _⟩
  · go_enter Tryz.func15, Tryz.ntmps15
    go_wp2
    refine wp_loop_rounds 1 ?_
    rw [rounds_succ]; go_wp2
    go_ret
    exact ⟨rfl, h, World.grownBy.refl w _⟩
  · exact markStringS_gr w base g cap ls h hl
end Go.Proofs.YtcfkhfbhmjfhdaaGreatDoor

/-
  The walk of the law FnExactUsers.
-/
namespace Go.Proofs.YtcfkhfbhmjfhdaaGreatDoor
open Go.RowKit

set_option maxRecDepth 100000 in
set_option maxHeartbeats 8000000 in
theorem exUsers (vt vp : Value) (ts : List (List UInt8)) (ps : List Pk) (s : ByteArray) (w : World) (ht : RdS w vt ts) (hp : RdPs w vp ps) (nt : ts.length ≤ maxLen) (mt : ∀ l ∈ ts, l.length ≤ maxLen) (np : ps.length ≤ maxLen) (mp : ∀ p ∈ ps, PkFits p) (hs : s.size ≤ maxLen) (htab : Tab w) :
    Calls Tryz.prog 4 #[.agg #[vt, vp], .string s] w fun e w' => e = .returned (.bool true) ∧ Below w.heap.size w w' := by
  obtain ⟨key, rfl⟩ : ∃ key : List UInt8, s = ⟨key.toArray⟩ := ⟨s.data.toList, bytes_ext (by simp)⟩
  rw [size_of] at hs
  unfold maxLen at hs
  have HZ := Lib.hid (fun (W : World) (h : Below w.heap.size w W) => szGraph_any vt vp ts ps 1048576 W (ht.below h) (hp.below h) (by omega) (by omega) nt mt np mp)
  have HT0 := Lib.hid (fun (hg : SmG ts ps) (W : World) (h : Below w.heap.size w W) => toGraph_any vt vp ts ps W (ht.below h) (hp.below h) hg)
  have HTB := Lib.hid (fun (W : World) (h : Below w.heap.size w W) => tab_below htab h)
  obtain ⟨z, HX⟩ : ∃ z, Hid (szG 1048576 ts ps = z) := ⟨_, Lib.hid rfl⟩
  obtain ⟨A, ca, rfl⟩ := ht.slice
  obtain ⟨B, cb, rfl, _⟩ := hp
  clear ht nt mt np mp htab
  have B0 : Below w.heap.size w (w.alloc (.cells #[.slice A ts.length ca, .slice B ps.length cb] 25)) := (Below.refl _ _).alloc (Nat.le_refl _) _
  have b0 := heap_alloc_new w (.cells #[.slice A ts.length ca, .slice B ps.length cb] 25)
  by_cases hbig : 1048576 < key.length
  · have hb2 : 1048576 < (⟨key.toArray⟩ : ByteArray).size := by rw [size_of]; exact hbig
    go_enter Tryz.func4, Tryz.ntmps4
    go_wp2_with fail
    go_ret
    exact ⟨rfl, B0⟩
  have hb2 : ¬ 1048576 < (⟨key.toArray⟩ : ByteArray).size := by rw [size_of]; exact hbig
  by_cases hz : z < 0
  · go_enter Tryz.func4, Tryz.ntmps4
    go_wp2_with fail
    refine (HZ.out _ B0).mono ?_
    rw [HX.out]
    rintro e w1 ⟨rfl, hb1⟩
    go_wp2_with fail
    go_ret
    exact ⟨rfl, B0.trans (hb1.mono B0.size)⟩
  have HS := Lib.hid (szG_good (ts := ts) (ps := ps) (left := 1048576) (by omega) (by omega) (by rw [HX.out]; exact hz)).1
  have HT := Lib.hid (HT0.out HS.out)
  have hol := usersG_len ts ps key
  have hpl : ps.length ≤ 1048576 := by have := HS.out.2; unfold SmPs at this; omega
  have HSP := Lib.hid (fun (W : World) (a b : Value) (h1 : RdS W a ts) (h2 : RdPs W b ps) => specUsers_any a b ts ps key W h1 h2 HS.out)
  have HIM := Lib.hid (fun (W : World) (a b : Value) (h : Below w.heap.size w W) (h1 : RdS W a ts) (h2 : RdPs W b ps) => implUsers_any a b ts ps key W h1 h2 HS.out (HTB.out W h))
  unfold UsIs at HSP HIM
  obtain ⟨out, HOUT⟩ : ∃ out, Hid (usersG ts ps key = out) := ⟨_, Lib.hid rfl⟩
  simp only [HOUT.out] at HSP HIM hol
  clear HT0
  go_enter Tryz.func4, Tryz.ntmps4
  go_wp2_with fail
  refine (HZ.out _ B0).mono ?_
  rw [HX.out]
  rintro e w1 ⟨rfl, hb1⟩
  have B1 := B0.trans (hb1.mono B0.size)
  have b1 := keepB b0 hb1
  obtain ⟨x0, x1⟩ := cellsG b1
  clear hb1 b0 HZ
  go_wp2_with fail
  refine (HT.out _ B1).mono ?_
  rintro e w2 ⟨A1, c1, D1, e1, rfl, hG1, hb2'⟩
  have B2 := B1.trans (hb2'.mono B1.size)
  have b2 := keepB b1 hb2'
  clear hb2' b1 B1 x0 x1
  go_wp2_with fail
  refine (HSP.out _ _ _ (RdS.of_strs hG1.1) (RdPs.of_own hG1.2)).mono ?_
  rintro e w3 ⟨v0, rfl, S0, hb3⟩
  have B3 := B2.trans (hb3.mono B2.size)
  have b3 := keepB b2 hb3
  have n0 := S0.block_lt
  obtain ⟨A0, c0, rfl⟩ := S0.slice
  obtain ⟨x0, x1⟩ := cellsG b3
  clear hG1 hb3 b2 B2
  go_wp2_with fail
  refine (HT.out _ B3).mono ?_
  rintro e w4 ⟨A2, c2, D2, e2, rfl, hG2, hb4⟩
  have B4 := B3.trans (hb4.mono B3.size)
  have b4 := keepB b3 hb4
  have S04 := S0.below hb4
  have h34 := hb4.size
  have B4s : w.heap.size ≤ w4.heap.size := B4.size
  have B3s : w.heap.size < w3.heap.size := lt_of_heap b3
  have K4 := strs_slR hG2.1 rfl (Nat.le_refl w3.heap.size) (Nat.le_refl w4.heap.size)
  have P4 := PksS.of_own hG2.2
  clear hb4 b3 B3 x0 x1 S0
  have B45 : Below w4.heap.size w4 (w4.alloc (.cells #[.slice A2 ts.length c2, .slice D2 ps.length e2] 30)) := (Below.refl _ _).alloc (Nat.le_refl _) _
  have B5 : Below w.heap.size w (w4.alloc (.cells #[.slice A2 ts.length c2, .slice D2 ps.length e2] 30)) := B4.alloc B4.size _
  have b5 := keepA b4 (.cells #[.slice A2 ts.length c2, .slice D2 ps.length e2] 30)
  have b6 := heap_alloc_new w4 (.cells #[.slice A2 ts.length c2, .slice D2 ps.length e2] 30)
  have hG5 := hG2.below B45
  have S05 := S04.below B45
  have M5 : Mk w3.heap.size w4.heap.size w4 (w4.alloc (.cells #[.slice A2 ts.length c2, .slice D2 ps.length e2] 30)) := Mk.of_below B45 (Nat.le_refl _)
  have K5 := K4.mk M5
  have P5 := P4.mk M5
  have h5 : w4.heap.size ≤ (w4.alloc (.cells #[.slice A2 ts.length c2, .slice D2 ps.length e2] 30)).heap.size := M5.size
  clear hG2 B45 B4 b4 S04 M5 K4 P4
  go_wp2_with fail
  refine (HIM.out _ _ _ B5 (RdS.of_strs hG5.1) (RdPs.of_own hG5.2)).mono ?_
  rintro e w6 ⟨vg, rfl, Sg, hb6⟩
  have B6 := B5.trans (hb6.mono B5.size)
  have x6 := keepB b6 hb6
  have y6 := keepB b5 hb6
  have hG6 := hG5.below hb6
  have S06 := S05.below hb6
  have K6 := K5.mk (Mk.of_below hb6 h5)
  have P6 := P5.below hb6 h5
  have h6 : w4.heap.size ≤ w6.heap.size := Nat.le_trans h5 hb6.size
  have g6 := Sg.owned
  have h56 : w4.heap.size < (w4.alloc (.cells #[.slice A2 ts.length c2, .slice D2 ps.length e2] 30)).heap.size := by simp
  have g6' : ∀ g, vg.ownBlock = some g → w4.heap.size < g := fun g hg => Nat.lt_of_lt_of_le h56 (g6 g hg)
  obtain ⟨Ag, cg, rfl⟩ := Sg.slice
  clear hb6 hG5 b5 b6 B5 S05 K5 P5 h5 g6 h56
  go_wp2_with fail
  refine (eqStringS_same _ _ out _ (RdS.of_strs Sg) (RdS.of_strs S06) (by omega)).mono ?_
  rintro e w7 ⟨rfl, n7, rfl⟩
  have B7 := B6.trans (below_drewN _ _ n7)
  have x7 := keepB x6 (below_drewN w6.heap.size w6 n7)
  have y7 := keepB y6 (below_drewN w6.heap.size w6 n7)
  have hG7 := hG6.below (below_drewN w6.heap.size w6 n7)
  have S07 := S06.below (below_drewN w6.heap.size w6 n7)
  have Sg7 := Sg.below (below_drewN w6.heap.size w6 n7)
  have K7 := K6.mk (Mk.of_below (below_drewN w6.heap.size w6 n7) h6)
  have P7 := P6.below (below_drewN w6.heap.size w6 n7) h6
  have h7 : w4.heap.size ≤ (w6.drewN n7).heap.size := h6
  obtain ⟨W7, HW7⟩ : ∃ W7, W7 = w6.drewN n7 := ⟨_, rfl⟩
  rw [← HW7] at B7 x7 y7 hG7 S07 Sg7 K7 P7 h7 ⊢
  obtain ⟨c60, c61⟩ := cellsG x7
  obtain ⟨c70, c71⟩ := cellsG y7
  have HQ := Lib.hid (fun (W : World) (h : Below W7.heap.size W7 W) (a' b' : Value) (r1 : RdS W a' ts) (r2 : RdPs W b' ps) => eqGraph_same _ _ a' b' ts ps W ((RdS.of_strs hG7.1).below h) ((RdPs.of_own hG7.2).below h) r1 r2 HS.out)
  clear x6 y6 hG6 S06 Sg K6 P6 h6 B6 HW7 hG7
  go_wp2_with fail
  go_region_with (first | (go_at_call 8; refine (HT.out _ (by first | exact B7.trans (below_drewN _ _ 1))).mono ?_; rintro e w8 ⟨A3, c3, D3, e3, rfl, hG8, hb8⟩; obtain ⟨z0, z1⟩ := cellsG (keepB (W := W7.drewN 1) x7 hb8)) | (go_at_call 10; refine (HQ.out _ ((below_drewN _ _ 1).trans (hb8.mono (Nat.le_refl _))) _ _ (RdS.of_strs hG8.1) (RdPs.of_own hG8.2)).mono ?_; rintro e w9 ⟨rfl, hb9⟩))
  all_goals
    have T9 : Below W7.heap.size W7 w9 := (below_drewN _ _ 1).trans ((hb8.trans (hb9.mono hb8.size)).mono (Nat.le_refl _))
    have B9 := B7.trans (T9.mono B7.size)
    obtain ⟨k0, k1⟩ := cellsG (keepB x7 T9)
    have y9 := keepB y7 T9
    have S09 := S07.below T9
    have Sg9 := Sg7.below T9
    have K9 := K7.mk (Mk.of_below T9 h7)
    have P9 := P7.below T9 h7
    have h9 : w4.heap.size ≤ w9.heap.size := Nat.le_trans h7 T9.size
    clear x7 y7 S07 Sg7 K7 P7 T9 hb8 hb9 B7 hG8 c60 c61 c70 c71 HQ
    go_wp2_with fail
    refine (markGraph_w w3.heap.size w4.heap.size c2 A2 _ ts ps _ K9 P9 h9 HS.out).mono ?_
    rintro e w10 ⟨zm, rfl, hm10⟩
    have B10 := belowMk B9 hm10 (by omega) B9.size
    have y10 : w10.heap[w.heap.size]? = some (.cells #[.slice A ts.length ca, .slice B ps.length cb] 25) := (hm10.out _ (lt_of_heap y9) (.inl (by omega))).trans y9
    have S010 := S09.mk hm10 (fun g hg => .inl (n0 g hg))
    have Sg10 := Sg9.mk hm10 (fun g hg => .inr (by have := g6' g hg; omega))
    clear K9 P9 h9 hm10 B9 y9 S09 Sg9 k0 k1
    have q1 : ¬ ((zm : Int) < 0) := by omega
    go_wp2_with fail
    refine (eqStringS_same _ _ out _ (RdS.of_strs Sg10) (RdS.of_strs S010) (by omega)).mono ?_
    rintro e w11 ⟨rfl, n11, rfl⟩
    have B11 := B10.trans (below_drewN _ _ n11)
    have S011 := S010.below (below_drewN w10.heap.size w10 n11)
    have Sg11 := Sg10.below (below_drewN w10.heap.size w10 n11)
    have y11 := keepB y10 (below_drewN w10.heap.size w10 n11)
    clear S010 Sg10 B10 y10
    go_wp2_with fail
    refine (markS_gr _ _ _ out Sg11 (by omega)).mono ?_
    rintro e w12 ⟨rfl, Sg12, hg12⟩
    have B12 := gr_belowN B11 hg12 B11.size (fun g hg => by have := g6' g hg; omega)
    have S012 := S011.grown hg12 (fun g hg e => by have := n0 g hg; have := g6' g e.symm; omega)
    have y12 := gr_heap hg12 y11 (fun e => by have := g6' _ e.symm; omega)
    clear S011 Sg11 hg12 B11 y11
    go_wp2_with fail
    refine (heldS_any _ _ _ out Sg12 (by omega)).mono ?_
    rintro e w13 ⟨rfl, hb13⟩
    have B13 := B12.trans (hb13.mono B12.size)
    have S013 := S012.below hb13
    have Sg13 := Sg12.below hb13
    have y13 := keepB y12 hb13
    obtain ⟨c80, c81⟩ := cellsG y13
    clear S012 Sg12 hb13 B12 y12
    have q2 : ¬ (((out.length + 1 : Nat) : Int) < 0) := by omega
    have q3 : (((out.length + 1 : Nat) : Int) != ((out.length + 1 : Nat) : Int)) = false := int_bne_false rfl
    go_wp2_with fail
    refine (HT.out _ B13).mono ?_
    rintro e w14 ⟨A14, c14, D14, e14, rfl, hG14, hb14⟩
    have B14 := B13.trans (hb14.mono B13.size)
    have S014 := S013.below hb14
    have Sg14 := Sg13.below hb14
    clear S013 Sg13 hb14 B13 y13 c80 c81
    go_wp2_with fail
    refine (HIM.out _ _ _ B14 (RdS.of_strs hG14.1) (RdPs.of_own hG14.2)).mono ?_
    rintro e w15 ⟨vh, rfl, Sh, hb15⟩
    have B15 := B14.trans (hb15.mono B14.size)
    have S015 := S014.below hb15
    have Sg15 := Sg14.below hb15
    obtain ⟨Ah, ch, rfl⟩ := Sh.slice
    clear S014 Sg14 hb15 B14 hG14
    go_wp2_with fail
    refine (eqStringS_same _ _ out _ (RdS.of_strs Sh) (RdS.of_strs S015) (by omega)).mono ?_
    rintro e w16 ⟨rfl, n16, rfl⟩
    have B16 := B15.trans (below_drewN _ _ n16)
    have Sg16 := Sg15.below (below_drewN w15.heap.size w15 n16)
    clear S015 Sg15 Sh B15
    go_wp2_with fail
    refine (heldS_any _ _ _ out Sg16 (by omega)).mono ?_
    rintro e w17 ⟨rfl, hb17⟩
    have B17 := B16.trans (hb17.mono B16.size)
    go_wp2_with fail
    go_ret
    exact ⟨rfl, B17⟩
end Go.Proofs.YtcfkhfbhmjfhdaaGreatDoor

namespace Go.Proofs.YtcfkhfbhmjfhdaaGreatDoor.fnExactUsers
open Go.ChangeShapes Go.WideShapes Go.ChangeAt Go.RowKit
open Go.ChangeMaps (open_string shut_string)
set_option linter.unusedVariables false

theorem own : ownKnob Tryz.prog.godebug = none := by kernel_rfl
theorem laidOut : laidOutB Tryz.prog = true := by kernel_rfl

/-- A table's cells, off its datum. -/
def cell1 : DataW Unit → Value
  | .lit (.int k n) => Value.int k n
  | .lit (.string l) => Value.string ⟨l.toArray⟩
  | _ => .bool false
def tabCells : DataW Unit → Array Value
  | .agg l => (l.flatMap fun
    | .agg m => m.map cell1
    | d => [cell1 d]).toArray
  | _ => #[]
def putCells (cs : Array Value) : Obj → Obj
  | .cells _ t fr => .cells cs t fr
  | o => o
/-- A start that fits: the settled world, the tables laid. -/
noncomputable def laidWorld (os : Os) : World :=
  { World.holding Tryz.prog os ⟨#[], #[], []⟩ with heap := ((((World.holding Tryz.prog os ⟨#[], #[], []⟩).heap.modify 2 (putCells (tabCells Rows.laid_math_bits_deBruijn32tab))).modify 3 (putCells (tabCells Rows.laid_math_bits_deBruijn64tab))).modify 1 (putCells (tabCells Rows.laid_internal_strconv_uint64pow10))) }
theorem laid_met (os : Os) (args : Array Value) : laidMetH Tryz.prog Rows.fnExactUsersRow.laid ((laidWorld os).forCall (fun _ _ => 0) ⟨#[], args, []⟩).memory := by
  rw [MakeChecks.laidMetH_plain _ _ _ (by kernel_rfl)]
  exact laidMet_of_run' 8 (by kernel_rfl) (by kernel_rfl)

set_option maxRecDepth 100000 in
theorem lifted (os : Os) (started : os.Started) (H : Type) (enc : TypeId × Value → H) :
    ReturnsInHanded {} Tryz.checked os 4 .any (fun w args => (Rows.fnExactUsersSpec.pre enc Tryz.prog Tryz.f4 [] false w args ∧ laidMetH Tryz.prog Rows.fnExactUsersRow.laid w) ∧ sizedMet enc Tryz.prog Tryz.f4 (OpenSpec.ofChange Rows.fnExactUsersSpec) false w args)
      (Rows.fnExactUsersSpec.post enc Tryz.prog Tryz.f4 false true false false) := by
  refine returnsInHanded_of_change_and (C := Tryz.checked) (X := fun w _ => laidMetH Tryz.prog Rows.fnExactUsersRow.laid w) (fun _ _ _ hh h => h.of_heap hh) own started (by kernel_rfl) Tryz.func4
    (ChangeSpec.witness_at (enc := enc) (C := Tryz.checked) (os := os) (X := fun w _ => laidMetH Tryz.prog Rows.fnExactUsersRow.laid w) false (laidWorld os) #[.agg #[.slice none 0 0, .slice none 0 0], .string ByteArray.empty] 8 rfl (by kernel_rfl) (by kernel_rfl) (by kernel_rfl) (by kernel_rfl) (by kernel_rfl) (laid_met os _)) ?_
  intro W base args ds gs before hval0 hW _ _ hL _
  have hval : ∀ (j : Nat) t v, Tryz.f4.params[j]? = some t → args[j]? = some v → Value.okWide Tryz.prog W .any base t v := hval0
  have hW' := hW
  obtain ⟨p, q, hA0, hV, rfl, hfz, hnd⟩ := hW
  have hA : DataW.TrodAll enc Tryz.prog W 0 (fun _ => true) true Tryz.f4.params.toList args.toList ds p := hA0
  rw [Tryz.params4] at hA hval
  obtain ⟨v0, vs0, d0, ds0, mp0, mq0, hargs, rfl, rfl, h0, r0⟩ := trodAll_cons hA
  obtain ⟨v1, vs1, d1, ds1, mp1, mq1, rfl, rfl, rfl, h1, r1⟩ := trodAll_cons r0
  obtain ⟨rfl, rfl, rfl⟩ := trodAll_nil r1
  obtain rfl : args = #[v0, v1] := by cases args; simp_all
  obtain ⟨rfl, rfl⟩ := trodVars_none hV
  have k0 := h0
  have lt0 : ∀ x ∈ mp0, x.block < W.heap.size := by obtain ⟨m, hm⟩ := k0; exact DataW.trod_lt m _ _ _ hm
  obtain ⟨t0, q0, ts0, ps0, rfl, R0, S0, N0, M0, O0, P0⟩ := open_graph (hval 0 25 v0 rfl rfl) h0
  obtain ⟨a1, rfl, rfl, rfl, w1⟩ := open_string Tryz.underlying9 (hval 1 9 v1 rfl rfl) h1
  clear hA0 hval0
  rw [MakeChecks.laidMetH_plain _ _ _ (by kernel_rfl)] at hL
  have hL1 : laidMet Tryz.prog Rows.fnExactUsersRow.laid W := hL
  unfold Rows.fnExactUsersRow at hL1
  have hL3 : laidMet Tryz.prog [("internal/strconv.uint64pow10", Lib.tabData .u64 Lib.pow10Tab)] W := hL1.tail.tail
  have htab : Lib.TabIs Tryz.prog W "internal/strconv.uint64pow10" .u64 Lib.pow10Tab :=
    Lib.tabIs_of_head (g := 1) (t := 172) (e := 132) (n := 20) (by kernel_rfl) (by kernel_rfl) Tryz.underlying172 Tryz.underlying132 (by kernel_rfl) (by kernel_rfl) hL3
  refine (exUsers t0 q0 ts0 ps0 a1 W R0 S0 N0 M0 O0 P0 w1 htab).mono fun e W' ⟨he, bel⟩ => ?_
  subst he
  exact ⟨_, rfl, _, _, _, [], _, [], hW', trodAll_mk1 (shut_bool Tryz.underlying4 _), (trodAll_cons_mk (Below.trod laidOut (by kernel_rfl) (of_decide_eq_true (by kernel_rfl)) k0 bel lt0) (trodAll_cons_mk (shut_string Tryz.underlying9 w1) trodAll_mk0)), rfl, bel.frame _, fun h => by cases h⟩

theorem over : Rows.fnExactUsersRow.holds Tryz.pinned (OpenSpec.ofChange Rows.fnExactUsersSpec) :=
  OpenClaim.holds_of_wide 4 Tryz.f4 rfl rfl rfl rfl rfl rfl rfl ⟨rfl, rfl, rfl, rfl, rfl⟩ rfl rfl rfl rfl rfl (by kernel_rfl) Tryz.func4 (by kernel_rfl)
    (of_decide_eq_true (by kernel_rfl)) (by unfold Func.isWrapper; first | (rw [if_pos (by decide +kernel)]; kernel_rfl) | (rw [if_neg (by decide +kernel)]; exact ⟨rfl, rfl⟩))
    (fun os started H enc _ => lifted os started H enc)

end Go.Proofs.YtcfkhfbhmjfhdaaGreatDoor.fnExactUsers

namespace Go.Proofs.YtcfkhfbhmjfhdaaGreatDoor
theorem fnExactUsers_proved : Rows.FnExactUsersCardSaid :=
  Claim7.holds_tied_plain_at .later [] [.data, .data, .data] true Rows.fnExactUsersCard.stood.harness true
    fnExactUsers.over (fun _ h => by cases h) (by kernel_rfl) (fun _ h => by cases h) fnExactUsers_row_tie rfl ⟨rfl, rfl⟩ (by kernel_rfl) rfl
    (fun f fn hf hfn => by
      obtain rfl : f = 4 := Option.some.inj ((show Tryz.prog.funcNamed Rows.fnExactUsersRow.func = some 4 by kernel_rfl).symm.trans hf) |>.symm
      obtain rfl : fn = Tryz.f4 := (Option.some.inj (Tryz.func4.symm.trans hfn)).symm
      exact ⟨by kernel_rfl, fun j t ht => by
        rw [Tryz.params4] at ht
        have h3 : t = 25 ∨ t = 9 := by
          rcases j with _ | _ | j
          · left; simpa using ht.symm
          · right; simpa using ht.symm
          · simp at ht
        rcases h3 with rfl | rfl
        · exact (show Tryz.prog.wantsStandIn 25 = false by kernel_rfl)
        · exact (show Tryz.prog.wantsStandIn 9 = false by kernel_rfl)⟩)
    (by kernel_rfl)
#print axioms fnExactUsers_proved
end Go.Proofs.YtcfkhfbhmjfhdaaGreatDoor
