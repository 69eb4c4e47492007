/-
  impl.VersionText: the text of a version.
-/
import Derived.Test.YtnodhkjgnegkcaaGreatDoorRdL
import Derived.Deep.Strs
import Derived.Lib.SmallJoins
import Derived.OpenShut
import Derived.Test.YtnodhkjgnegkcaaGreatDoorPk
import Derived.Deep.SlicePairs
import Derived.Test.YtnodhkjgnegkcaaGreatDoorRows
import Derived.Test.YtnodhkjgnegkcaaGreatDoorBase
import Derived.Laws.OwnMore
import Derived.Laws.IdiomStrings
import Derived.Maps.AppendAt
import Derived.Laws.BitsAllLaws
import Derived.Deep.RegionLaw
import Derived.Deep.AppendLies
import Derived.Laws.BitsLemmas
import Derived.Test.YtnodhkjgnegkcaaGreatDoorWholeA
import Derived.Test.YtnodhkjgnegkcaaGreatDoorSmsM
import Derived.Test.YtnodhkjgnegkcaaGreatDoorPieces
import Derived.Test.YtnodhkjgnegkcaaGreatDoorWholeB
import Derived.Deep.RegionHeld3
import Derived.Deep.CutBlock
import Derived.Deep.DeepCutAuto
import Derived.Test.YtnodhkjgnegkcaaGreatDoorLawB
import Derived.Maps.OwnSet
import Derived.Maps.OwnOps
import Derived.Deep.QuietTactic
import Derived.BigQuiet
import Derived.Shelf.Strings.OnBuilder
import Derived.Ground.NamesProg
import Derived.Test.YtnodhkjgnegkcaaGreatDoorProg
import Derived.Test.YtnodhkjgnegkcaaGreatDoorVerM
import Derived.Shelf.Strconv.Itoa3
import Derived.Test.YtnodhkjgnegkcaaGreatDoorDec
import Derived.Lib.AppendIntMem
import Derived.Test.YtnodhkjgnegkcaaGreatDoorTextS
/-
  Arguments opened: a list of texts.
-/
namespace Go.Proofs.YtnodhkjgnegkcaaGreatDoor
open Go.ChangeShapes Go.WideShapes Go.RowKit Go.Deep Go.Joins

section
variable {H : Type} {enc : TypeId × Value → H} {W : World} {spare : Nat → Bool} {held : Bool}

theorem cell_lt {w : World} {g o : Nat} {v : Value} (h : w.cell? ⟨g, o, none⟩ = some v) : g < w.heap.size := by
  rcases Nat.lt_or_ge g w.heap.size with hlt | hge
  · exact hlt
  · unfold World.cell? at h
    simp only at h
    rw [Array.getElem?_eq_none hge] at h
    cases h

set_option maxRecDepth 100000 in
theorem open_texts {fuel : Nat} {v : Value} {x : DataW H × List MemPlace} (h : DataW.trod enc Tryz.prog W 0 spare held fuel 29 [v] = some x) :
    ∃ ls, RdS W v ls ∧ ls.length ≤ maxLen ∧ ∀ l ∈ ls, l.length ≤ maxLen := by
  rcases open_strs Tryz.underlying29 Tryz.underlying9 (by kernel_rfl) h with ⟨hcs, _⟩ | ⟨a, len, cap, m, Sx, hcs, _, hl, hm, hmm, _, hc⟩
  · simp at hcs
    subst hcs
    exact ⟨[], ⟨none, 0, rfl, fun h => absurd h (by simp)⟩, by simp, fun l hl => by cases hl⟩
  · simp at hcs
    subst hcs
    have hlm : len ≤ m := by rw [hmm]; split <;> omega
    refine ⟨(List.range len).map (fun i => (Sx i).data.toList), ⟨some a, cap, by simp, fun h0 => ?_⟩, by simp; omega, ?_⟩
    · simp at h0
      obtain ⟨b, off, spot⟩ := a
      have hspot : spot = none := by simpa [Addr.add] using World.cell?_spot (hc 0 (by omega)).1
      subst hspot
      have h1 : ∀ k, k < len → W.cell? ⟨b, off + k, none⟩ = some (.string (Sx k)) := fun k hk => by rw [← Go.WideShapes.add_plain]; exact (hc k (by omega)).1
      refine ⟨b, off, rfl, cell_lt (h1 0 h0), fun k hk => ?_⟩
      simp at hk
      rw [h1 k hk]
      simp [sv]
    · intro l hl
      simp at hl
      obtain ⟨i, hi, rfl⟩ := hl
      have := (hc i (by omega)).2
      simpa using this

set_option maxRecDepth 100000 in
theorem open_textsV {r : Reach} {b0 : Nat} {v : Value} {d : DataW H} {p : List MemPlace} (hv : Value.okWide Tryz.prog W r b0 29 v) (h : DataW.Trod enc Tryz.prog W 0 spare held 29 v d p) :
    ∃ ls, RdS W v ls ∧ ls.length ≤ maxLen ∧ ∀ l ∈ ls, l.length ≤ maxLen := by
  obtain ⟨a, len, cap, rfl⟩ := okWide_slice Tryz.underlying29 hv
  obtain ⟨fuel, hf⟩ := h
  exact open_texts (by simpa [Value.cells] using hf)

end
end Go.Proofs.YtnodhkjgnegkcaaGreatDoor

/-
  Arguments opened: a pack, a list of packs, a graph.
-/
namespace Go.Proofs.YtnodhkjgnegkcaaGreatDoor
open Go.ChangeShapes Go.WideShapes Go.RowKit Go.Deep Go.Joins

theorem list6 {α : Type} {cs : List α} (h : cs.length = 6) : ∃ c0 c1 c2 c3 c4 c5, cs = [c0, c1, c2, c3, c4, c5] := by
  match cs, h with
  | [c0, c1, c2, c3, c4, c5], _ => exact ⟨c0, c1, c2, c3, c4, c5, rfl⟩
theorem some_of_len {α : Type} {xs : List α} {n : Nat} (h : xs.length = n) (i : Nat) (hi : i < n) : ∃ y, xs[i]? = some y := ⟨xs[i]'(by omega), by simp⟩

section
variable {H : Type} {enc : TypeId × Value → H} {W : World} {spare : Nat → Bool} {held : Bool}

set_option maxRecDepth 100000 in
theorem open_sums {fuel : Nat} {v : Value} {x : DataW H × List MemPlace} (h : DataW.trod enc Tryz.prog W 0 spare held fuel 130 [v] = some x) :
    ∃ bs, RdB W v bs ∧ bs.length ≤ maxLen ∧ ∀ b ∈ bs, b.1.length ≤ maxLen ∧ b.2.length ≤ maxLen := by
  rcases open_slice_pairs Tryz.underlying130 Tryz.underlying217 (by kernel_rfl) rfl rfl (by kernel_rfl) (by kernel_rfl) h with ⟨hcs, _⟩ | ⟨a, len, cap, m, n, V0, V1, D0, D1, P0, P1, hcs, _, hl, hm, hmm, _, hc⟩
  · simp at hcs
    subst hcs
    exact ⟨[], ⟨none, 0, rfl, fun h => absurd h (by simp)⟩, by simp, fun l hl => by cases hl⟩
  · simp at hcs
    subst hcs
    have hlm : len ≤ m := by rw [hmm]; split <;> omega
    have each : ∀ i, i < m → ∃ q : ByteArray × ByteArray, W.cell? (a.add (i * 2)) = some (.string q.1) ∧ W.cell? (a.add (i * 2 + 1)) = some (.string q.2) ∧ q.1.size ≤ maxLen ∧ q.2.size ≤ maxLen := fun i hi => by
      obtain ⟨e0, e1, t0, t1⟩ := hc i hi
      obtain ⟨s0, h1, _, h3⟩ := DataW.trod_string Tryz.underlying9 t0
      obtain ⟨s1, g1, _, g3⟩ := DataW.trod_string Tryz.underlying9 t1
      simp at h1 g1
      exact ⟨(s0, s1), by rw [e0, h1], by rw [e1, g1], h3, g3⟩
    obtain ⟨Q, hQ⟩ := choose_lt each
    refine ⟨(List.range len).map (fun i => ((Q i).1.data.toList, (Q i).2.data.toList)), ⟨some a, cap, by simp, fun h0 => ?_⟩, by simp; omega, ?_⟩
    · simp at h0
      obtain ⟨b, off, spot⟩ := a
      have hspot : spot = none := by simpa [Addr.add] using World.cell?_spot (hQ 0 (by omega)).1
      subst hspot
      have h1 : ∀ k, k < len → W.cell? ⟨b, off + k * 2, none⟩ = some (.string (Q k).1) ∧ W.cell? ⟨b, off + k * 2 + 1, none⟩ = some (.string (Q k).2) := fun k hk => by
        obtain ⟨e0, e1, _, _⟩ := hQ k (by omega)
        rw [Go.WideShapes.add_plain] at e0 e1
        exact ⟨e0, by rw [Nat.add_assoc]; exact e1⟩
      refine ⟨b, off, rfl, cell_in (h1 0 h0).1, fun k hk => ?_⟩
      simp at hk
      rw [(h1 k hk).1, (h1 k hk).2]
      simp [sv]
    · intro l hl
      simp at hl
      obtain ⟨i, hi, rfl⟩ := hl
      obtain ⟨_, _, s0, s1⟩ := hQ i (by omega)
      exact ⟨by simpa using s0, by simpa using s1⟩


set_option maxRecDepth 100000 in
theorem open_packc {fuel : Nat} {cs : List Value} {x : DataW H × List MemPlace} (h : DataW.trod enc Tryz.prog W 0 spare held fuel 132 cs = some x) :
    ∃ (p : Pk) (a b : Value), cs = [.string ⟨p.name.toArray⟩, .string ⟨p.ver.toArray⟩, .string ⟨p.src.toArray⟩, a, .bool p.dev, b] ∧ RdB W a p.sums ∧ RdS W b p.needs ∧ PkFits p := by
  obtain ⟨xs, k, _, _, hl, hxl, hf⟩ := DataW.trod_struct Tryz.underlying132 h
  have kS : Tryz.prog.cellsOf 9 = 1 := by kernel_rfl
  have kB : Tryz.prog.cellsOf 4 = 1 := by kernel_rfl
  have kL : Tryz.prog.cellsOf 29 = 1 := by kernel_rfl
  have kM : Tryz.prog.cellsOf 130 = 1 := by kernel_rfl
  have kP : Tryz.prog.cellsOf 132 = 6 := by kernel_rfl
  rw [kP] at hl
  have hx6 : xs.length = 6 := by simpa using hxl
  obtain ⟨c0, c1, c2, c3, c4, c5, rfl⟩ := list6 hl
  obtain ⟨y0, e0⟩ := some_of_len hx6 0 (by omega)
  obtain ⟨y1, e1⟩ := some_of_len hx6 1 (by omega)
  obtain ⟨y2, e2⟩ := some_of_len hx6 2 (by omega)
  obtain ⟨y3, e3⟩ := some_of_len hx6 3 (by omega)
  obtain ⟨y4, e4⟩ := some_of_len hx6 4 (by omega)
  obtain ⟨y5, e5⟩ := some_of_len hx6 5 (by omega)
  have g0 := hf 0 _ rfl
  have g1 := hf 1 _ rfl
  have g2 := hf 2 _ rfl
  have g3 := hf 3 _ rfl
  have g4 := hf 4 _ rfl
  have g5 := hf 5 _ rfl
  clear hf h hxl hl
  rw [e0] at g0; rw [e1] at g1; rw [e2] at g2; rw [e3] at g3; rw [e4] at g4; rw [e5] at g5
  simp [kS, kB, kL, kM] at g0 g1 g2 g3 g4 g5
  obtain ⟨s0, h0, _, z0⟩ := DataW.trod_string Tryz.underlying9 g0
  obtain ⟨s1, h1, _, z1⟩ := DataW.trod_string Tryz.underlying9 g1
  obtain ⟨s2, h2, _, z2⟩ := DataW.trod_string Tryz.underlying9 g2
  obtain ⟨d, h4, _⟩ := DataW.trod_bool Tryz.underlying4 g4
  simp at h0 h1 h2 h4
  subst h0 h1 h2 h4
  obtain ⟨bs, r3, n3, m3⟩ := open_sums g3
  obtain ⟨ls, r5, n5, m5⟩ := open_texts g5
  refine ⟨⟨s0.data.toList, s1.data.toList, s2.data.toList, bs, d, ls⟩, c3, c5, by simp, r3, r5, ?_⟩
  exact ⟨by simpa using z0, by simpa using z1, by simpa using z2, n3, m3, n5, m5⟩

set_option maxRecDepth 100000 in
theorem open_pack {r : Reach} {b0 : Nat} {v : Value} {d : DataW H} {p : List MemPlace} (hv : Value.okWide Tryz.prog W r b0 132 v) (h : DataW.Trod enc Tryz.prog W 0 spare held 132 v d p) :
    ∃ (p : Pk) (a b : Value), v = .agg #[.string ⟨p.name.toArray⟩, .string ⟨p.ver.toArray⟩, .string ⟨p.src.toArray⟩, a, .bool p.dev, b] ∧ RdB W a p.sums ∧ RdS W b p.needs ∧ PkFits p := by
  obtain ⟨cs, rfl, hsz⟩ := okWide_struct Tryz.underlying132 hv
  obtain ⟨fuel, hf⟩ := h
  obtain ⟨p, a, b, hcs, r1, r2, r3⟩ := open_packc (by simpa [Value.cells] using hf)
  exact ⟨p, a, b, by cases cs; simp at hcs; rw [hcs], r1, r2, r3⟩
end
end Go.Proofs.YtnodhkjgnegkcaaGreatDoor

/-
  Arguments opened: packs, a graph.
-/
namespace Go.Proofs.YtnodhkjgnegkcaaGreatDoor
open Go.ChangeShapes Go.WideShapes Go.RowKit Go.Deep Go.Joins

section
variable {H : Type} {enc : TypeId × Value → H} {W : World} {spare : Nat → Bool} {held : Bool}

set_option maxRecDepth 100000 in
theorem open_packs {fuel : Nat} {v : Value} {x : DataW H × List MemPlace} (h : DataW.trod enc Tryz.prog W 0 spare held fuel 30 [v] = some x) :
    ∃ ps, RdPs W v ps ∧ ps.length ≤ maxLen ∧ ∀ p ∈ ps, PkFits p := by
  have kP : Tryz.prog.cellsOf 132 = 6 := by kernel_rfl
  rcases open_slice Tryz.underlying30 h with ⟨hcs, _⟩ | ⟨a, len, cap, m, n, D, Pl, hcs, _, hl, hm, hmm, _, hc⟩
  · simp at hcs
    subst hcs
    exact ⟨[], rdPs_nil W, by simp, fun l hl => by cases hl⟩
  · simp at hcs
    subst hcs
    have hlm : len ≤ m := by rw [hmm]; split <;> omega
    have each : ∀ i, i < m → ∃ q : Pk × Value × Value, W.cell? (a.add (i * 6)) = some (.string ⟨q.1.name.toArray⟩) ∧ W.cell? (a.add (i * 6 + 1)) = some (.string ⟨q.1.ver.toArray⟩) ∧ W.cell? (a.add (i * 6 + 2)) = some (.string ⟨q.1.src.toArray⟩) ∧ W.cell? (a.add (i * 6 + 3)) = some q.2.1 ∧ W.cell? (a.add (i * 6 + 4)) = some (.bool q.1.dev) ∧ W.cell? (a.add (i * 6 + 5)) = some q.2.2 ∧ RdB W q.2.1 q.1.sums ∧ RdS W q.2.2 q.1.needs ∧ PkFits q.1 := fun i hi => by
      obtain ⟨cs', h1, h2⟩ := hc i hi
      rw [kP] at h1
      obtain ⟨_, hlen, hcell⟩ := World.cells?_some h1
      obtain ⟨p, va, vb, rfl, r1, r2, r3⟩ := open_packc h2
      have e0 := hcell 0 (by omega)
      have e1 := hcell 1 (by omega)
      have e2 := hcell 2 (by omega)
      have e3 := hcell 3 (by omega)
      have e4 := hcell 4 (by omega)
      have e5 := hcell 5 (by omega)
      rw [add_add] at e0 e1 e2 e3 e4 e5
      exact ⟨(p, va, vb), by simpa using e0, by simpa using e1, by simpa using e2, by simpa using e3, by simpa using e4, by simpa using e5, r1, r2, r3⟩
    obtain ⟨Q, hQ⟩ := choose_lt each
    refine ⟨(List.range len).map (fun i => (Q i).1), ⟨some a, cap, by simp, fun h0 => ?_⟩, by simp; omega, ?_⟩
    · simp at h0
      obtain ⟨b, off, spot⟩ := a
      have hspot : spot = none := by simpa [Addr.add] using World.cell?_spot (hQ 0 (by omega)).1
      subst hspot
      have h1 : ∀ k, k < len → PkAt W b (off + k * 6) (Q k).1 := fun k hk => by
        obtain ⟨e0, e1, e2, e3, e4, e5, r1, r2, _⟩ := hQ k (by omega)
        rw [Go.WideShapes.add_plain] at e0 e1 e2 e3 e4 e5
        exact ⟨_, _, e0, by rw [Nat.add_assoc]; exact e1, by rw [Nat.add_assoc]; exact e2, by rw [Nat.add_assoc]; exact e3, by rw [Nat.add_assoc]; exact e4, by rw [Nat.add_assoc]; exact e5, r1, r2⟩
      refine ⟨b, off, rfl, ?_, fun k hk => ?_⟩
      · obtain ⟨_, _, e0, _⟩ := h1 0 h0
        exact cell_lt e0
      · simp at hk
        simpa using h1 k hk
    · intro l hl
      simp at hl
      obtain ⟨i, hi, rfl⟩ := hl
      exact (hQ i (by omega)).2.2.2.2.2.2.2.2

set_option maxRecDepth 100000 in
theorem open_graph {r : Reach} {b0 : Nat} {v : Value} {d : DataW H} {p : List MemPlace} (hv : Value.okWide Tryz.prog W r b0 32 v) (h : DataW.Trod enc Tryz.prog W 0 spare held 32 v d p) :
    ∃ (vt vp : Value) (ts : List (List UInt8)) (ps : List Pk), v = .agg #[vt, vp] ∧ RdS W vt ts ∧ RdPs W vp ps ∧ ts.length ≤ maxLen ∧ (∀ l ∈ ts, l.length ≤ maxLen) ∧ ps.length ≤ maxLen ∧ ∀ p ∈ ps, PkFits p := by
  obtain ⟨v0, v1, y0, y1, n, rfl, _, _, h0, h1⟩ := open_agg2 Tryz.underlying32 (by kernel_rfl) (by kernel_rfl) hv h
  obtain ⟨ts, r1, r2, r3⟩ := open_texts h0
  obtain ⟨ps, q1, q2, q3⟩ := open_packs h1
  exact ⟨v0, v1, ts, ps, rfl, r1, q1, r2, r3, q2, q3⟩
end
end Go.Proofs.YtnodhkjgnegkcaaGreatDoor

/-
  A byte buffer of the call's own: what it owns as a list of bytes, and the string that it is turned into.
-/
namespace Go.Proofs.YtnodhkjgnegkcaaGreatDoor
open Go.RowKit

/-- A byte as a value. -/
def bv (c : UInt8) : Value := .int .u8 (c.toNat : Int)
/-- The value v owns just the bytes l, in blocks from base on. -/
def Buf (w : World) (base : Nat) (v : Value) (l : List UInt8) : Prop := w.ownsRow base 5 1 v l.length (l.map bv)

theorem u8info : (Tryz.prog.info? 5).map (fun i => (i.zero, i.size, i.bytes)) = some (some (.int .u8 0), 1, 1) := by kernel_rfl

theorem Buf.form {w : World} {base : Nat} {v : Value} {l : List UInt8} (h : Buf w base v l) : (v = .slice none 0 0 ∧ l = []) ∨ ∃ g cap, v = .slice (some ⟨g, 0, none⟩) l.length cap ∧ base ≤ g ∧ g < w.heap.size := by
  rcases h.2 with ⟨hv, hl⟩ | ⟨g, cap, cur, hv, hb, hh, _⟩
  · left; exact ⟨hv, by simpa using hl⟩
  · right
    refine ⟨g, cap, hv, hb, ?_⟩
    rcases Nat.lt_or_ge g w.heap.size with hlt | hge
    · exact hlt
    · rw [Array.getElem?_eq_none hge] at hh; cases hh

theorem Buf.conv {w : World} {base : Nat} {v : Value} {l : List UInt8} (h : Buf w base v l) : (convert 145 9 v).run Tryz.prog w = .ok (.string ⟨l.toArray⟩) w := by
  rcases h.form with ⟨rfl, rfl⟩ | ⟨g, cap, rfl, _, _⟩
  · rw [run_convert_bytes_string w 145 9 5 none 0 0 Tryz.underlying145 Tryz.underlying5 Tryz.underlying9]
    rfl
  · refine run_convert_bytes_back w 145 9 5 ⟨g, 0, none⟩ cap l Tryz.underlying145 Tryz.underlying5 Tryz.underlying9 ?_
    intro j hj
    exact World.ownsRow.cells (g := g) h rfl j _ (by simp [bv, hj])

theorem Buf.alloc {w : World} {base : Nat} {v : Value} {l : List UInt8} (h : Buf w base v l) (o : Obj) : Buf (w.alloc o) base v l := World.ownsRow.alloc h o
theorem Buf.drew {w : World} {base : Nat} {v : Value} {l : List UInt8} (h : Buf w base v l) : Buf w.drew base v l := World.ownsRow.drew h
theorem Buf.owned {w : World} {base : Nat} {v : Value} {l : List UInt8} (h : Buf w base v l) : ∀ g, v.ownBlock = some g → base ≤ g := by
  intro g hg
  rcases h.form with ⟨rfl, _⟩ | ⟨g', cap, rfl, hb, _⟩
  · simp [Value.ownBlock] at hg
  · simp [Value.ownBlock] at hg; omega

theorem run_append_buf (w : World) (ty : TypeId) (base : Nat) (v : Value) (l : List UInt8) (hown : Buf w base v l) (ns : List UInt8) (B c : Nat) (cs : Array Value) (t : TypeId) (fr : Nat × Nat)
    (hblk : w.heap[B]? = some (.cells cs t fr)) (hcs : cs.toList = ns.map bv) (hm : 0 < ns.length) (hlen : l.length + ns.length ≤ 16777216) (hbase : base ≤ w.heap.size) :
    ∃ v' w', (Builtin.append_ #[145, 145] ty #[v, .slice (some ⟨B, 0, none⟩) ns.length c]).run Tryz.prog w = .ok v' w' ∧ Buf w' base v' (l ++ ns) ∧ Below base w w' := by
  obtain ⟨i0, hi, hz0, hz1, hz2⟩ := info_parts u8info
  obtain ⟨g, cap, w', hr, h2, h3, _, _⟩ := run_append_lies (P := Tryz.prog) w 145 ty base 5 i0 (.int .u8 0) 1 1 Tryz.underlying145 hi hz0 hz1 hz2 rfl (by decide) v l.length (l.map bv) hown
    ⟨B, 0, none⟩ ns.length c (ns.map bv) (by simp) (by rw [← hcs]; exact World.news_of_block hblk) (by intro u hu; obtain ⟨x, _, rfl⟩ := List.mem_map.1 hu; rfl) hm (by unfold maxLen; omega) (by omega) hbase _ rfl
  refine ⟨_, w', hr, ?_, (Below.refl base w).grown h3 hbase hown.owned⟩
  unfold Buf
  rw [List.length_append, List.map_append]
  exact h2

theorem wp_append_buf {w : World} {o : Oper} {a : Act} {K : Act → World → Prop} {Q : Exit → Act → World → Prop} (s x : Operand)
    (ho : o.op = .call { callee := .builtin .append, args := #[s, x], argTypes := #[145, 145] })
    (base : Nat) (v : Value) (l : List UInt8) (hs : a.eval s = v) (hown : Buf w base v l) (ns : List UInt8) (B m c : Nat) (cs : Array Value) (t : TypeId) (fr : Nat × Nat)
    (hx : a.eval x = .slice (some ⟨B, 0, none⟩) m c) (hmm : ns.length = m) (hblk : w.heap[B]? = some (.cells cs t fr)) (hcs : cs.toList = ns.map bv) (hm : 0 < ns.length) (hlen : l.length + ns.length ≤ 16777216) (hbase : base ≤ w.heap.size)
    (h : ∀ v' w', Buf w' base v' (l ++ ns) → Below base w w' → K (a.put o.dst v') w') : o.wp Tryz.prog a w K Q := by
  subst hmm
  obtain ⟨v', w', hr, h2, h3⟩ := run_append_buf w o.type base v l hown ns B c cs t fr hblk hcs hm hlen hbase
  unfold Oper.wp execOp
  simp only [ho, resolve, invoke, builtin, Sem.run_bind, Sem.run_pure, Result.andThen_ok, List.map_toArray, List.map_cons, List.map_nil, hs, hx, hr]
  exact h v' w' h2 h3

/-- append(out, bytes) at a plain region's list. -/
theorem wpList_append_buf {w : World} {ops : Array Oper} {rest : List Oper} {o : Oper} {a : Act} {Q : Exit → Act → World → Prop} (hgd : o.guard = none) (s x : Operand)
    (ho : o.op = .call { callee := .builtin .append, args := #[s, x], argTypes := #[145, 145] })
    (base : Nat) (v : Value) (l : List UInt8) (hs : a.eval s = v) (hown : Buf w base v l) (ns : List UInt8) (B m c : Nat) (cs : Array Value) (t : TypeId) (fr : Nat × Nat)
    (hx : a.eval x = .slice (some ⟨B, 0, none⟩) m c) (hmm : ns.length = m) (hblk : w.heap[B]? = some (.cells cs t fr)) (hcs : cs.toList = ns.map bv) (hm : 0 < ns.length) (hlen : l.length + ns.length ≤ 16777216) (hbase : base ≤ w.heap.size)
    (h : ∀ v' w', Buf w' base v' (l ++ ns) → Below base w w' → wpList Tryz.prog ops Q rest (a.put o.dst v') w') : wpList Tryz.prog ops Q (o :: rest) a w :=
  wpList_plain hgd fun _ hK => wp_append_buf s x ho base v l hs hown ns B m c cs t fr hx hmm hblk hcs hm hlen hbase fun v' w' h2 h3 => hK _ _ (h v' w' h2 h3)

/-- append(out, bytes) at a step of a region that draws its order. -/
theorem step_append_buf {w : World} {ops : Array Oper} {o : Oper} {a : Act} {K : Act → World → Prop} {Q : Exit → Act → World → Prop} {E : Prop} (hgd : o.guard = none) (s x : Operand)
    (ho : o.op = .call { callee := .builtin .append, args := #[s, x], argTypes := #[145, 145] })
    (base : Nat) (v : Value) (l : List UInt8) (hs : a.eval s = v) (hown : Buf w base v l) (ns : List UInt8) (B m c : Nat) (cs : Array Value) (t : TypeId) (fr : Nat × Nat)
    (hx : a.eval x = .slice (some ⟨B, 0, none⟩) m c) (hmm : ns.length = m) (hblk : w.heap[B]? = some (.cells cs t fr)) (hcs : cs.toList = ns.map bv) (hm : 0 < ns.length) (hlen : l.length + ns.length ≤ 16777216) (hbase : base ≤ w.heap.size)
    (h : ∀ v' w', Buf w' base v' (l ++ ns) → Below base w w' → K (a.put o.dst v') w') :
    if Region.wanted o (yielded ops a.tmps) = true then Oper.wp Tryz.prog o a w K Q else E := by
  have hw : Region.wanted o (yielded ops a.tmps) = true := by simp [Region.wanted, hgd]
  rw [if_pos hw]
  exact wp_append_buf s x ho base v l hs hown ns B m c cs t fr hx hmm hblk hcs hm hlen hbase h

def hexC (n : Nat) : UInt8 := ([48, 49, 50, 51, 52, 53, 54, 55, 56, 57, 97, 98, 99, 100, 101, 102] : List UInt8).getD n 0
def hexU (n : Nat) : UInt8 := ([48, 49, 50, 51, 52, 53, 54, 55, 56, 57, 65, 66, 67, 68, 69, 70] : List UInt8).getD n 0
theorem idx_lower (n : Nat) (hn : n < 16) (z : Int) (hz : z = (n : Int)) (w : World) : (Instr.index 9 (.string ⟨#[48, 49, 50, 51, 52, 53, 54, 55, 56, 57, 97, 98, 99, 100, 101, 102]⟩) (.int .u8 z)).run Tryz.prog w = .ok (.int .u8 ((hexC n).toNat : Int)) w := by
  subst hz
  obtain rfl | rfl | rfl | rfl | rfl | rfl | rfl | rfl | rfl | rfl | rfl | rfl | rfl | rfl | rfl | rfl : n = 0 ∨ n = 1 ∨ n = 2 ∨ n = 3 ∨ n = 4 ∨ n = 5 ∨ n = 6 ∨ n = 7 ∨ n = 8 ∨ n = 9 ∨ n = 10 ∨ n = 11 ∨ n = 12 ∨ n = 13 ∨ n = 14 ∨ n = 15 := by omega
  all_goals kernel_rfl
theorem idx_upper (n : Nat) (hn : n < 16) (z : Int) (hz : z = (n : Int)) (w : World) : (Instr.index 9 (.string ⟨#[48, 49, 50, 51, 52, 53, 54, 55, 56, 57, 65, 66, 67, 68, 69, 70]⟩) (.int .u8 z)).run Tryz.prog w = .ok (.int .u8 ((hexU n).toNat : Int)) w := by
  subst hz
  obtain rfl | rfl | rfl | rfl | rfl | rfl | rfl | rfl | rfl | rfl | rfl | rfl | rfl | rfl | rfl | rfl : n = 0 ∨ n = 1 ∨ n = 2 ∨ n = 3 ∨ n = 4 ∨ n = 5 ∨ n = 6 ∨ n = 7 ∨ n = 8 ∨ n = 9 ∨ n = 10 ∨ n = 11 ∨ n = 12 ∨ n = 13 ∨ n = 14 ∨ n = 15 := by omega
  all_goals kernel_rfl
theorem and15 (c : UInt8) : bits .and .u8 (c.toNat : Int) 15 = (c.toNat : Int) % 16 := by
  have h : ∀ n : Nat, n < 256 → bits .and .u8 (n : Int) 15 = (n : Int) % 16 := by decide +kernel
  exact h _ c.toNat_lt

theorem Buf.lit (w : World) (base : Nat) (l : List UInt8) (hb : base ≤ w.heap.size) (hl : l.length ≤ 16777216) : Buf (w.alloc (.cells (l.map bv).toArray 5)) base (.slice (some ⟨w.heap.size, 0, none⟩) l.length l.length) l := by
  have h := World.ownsRow_lit (base := base) (e := 5) (size := 1) w (l.map bv).toArray l.length hb (by unfold maxLen; omega) (by simp)
  simpa [Buf] using h
theorem Buf.empty (w : World) (base : Nat) (hb : base ≤ w.heap.size) : Buf (w.alloc (.cells #[] 5)) base (.slice (some ⟨w.heap.size, 0, none⟩) 0 0) [] := Buf.lit w base [] hb (by simp)

theorem wrap_div16 (c : UInt8) : IntKind.u8.wrap ((c.toNat : Int) / 16) = (c.toNat : Int) / 16 := by
  have h : ∀ n : Nat, n < 256 → IntKind.u8.wrap ((n : Int) / 16) = (n : Int) / 16 := by decide +kernel
  exact h _ c.toNat_lt

theorem tmod16 (c : UInt8) : (c.toNat : Int).tmod 16 = (c.toNat : Int) % 16 := Int.tmod_eq_emod_of_nonneg (by omega)

end Go.Proofs.YtnodhkjgnegkcaaGreatDoor

/-
  spec.PutHex returns two lower-case digits for every byte.
-/
namespace Go.Proofs.YtnodhkjgnegkcaaGreatDoor
open Go.RowKit

def hexL : List UInt8 → List UInt8
  | [] => []
  | c :: l => hexC (c.toNat / 16) :: hexC (c.toNat % 16) :: hexL l
theorem hexL_len (l : List UInt8) : (hexL l).length = 2 * l.length := by
  induction l with
  | nil => rfl
  | cons c l ih => simp [hexL, ih]; omega
theorem hexL_app (a b : List UInt8) : hexL (a ++ b) = hexL a ++ hexL b := by
  induction a with
  | nil => rfl
  | cons c l ih => simp [hexL, ih]

set_option maxHeartbeats 1000000 in
theorem specPutHex_any (s : ByteArray) (w : World) (hs : s.size ≤ 1048576) :
    Calls Tryz.prog 105 #[.string s] w fun e w' => e = .returned (.string ⟨(hexL s.data.toList).toArray⟩) ∧ Below w.heap.size w w' := by
  go_enter Tryz.func105, Tryz.ntmps105
  go_wp2
  go_loopw [3, 4] (fun v n wr => ∃ k : Nat, k ≤ s.size ∧ n = .int .i64 k ∧ Buf wr w.heap.size v (hexL (s.data.toList.take k)) ∧ Below w.heap.size w wr) (fun _ n _ => s.size - (intOf n).toNat)
  case atStart => exact ⟨0, Nat.zero_le _, rfl, Buf.empty w _ (Nat.le_refl _), (Below.refl _ _).alloc (Nat.le_refl _) _⟩
  case round =>
    obtain ⟨k, hk, rfl, hown, hb⟩ := hrel
    by_cases hlt : k < s.size
    · have x1 := idx_lower (s[k].toNat / 16) (by have := s[k].toNat_lt; omega) ((s[k].toNat : Int) / 16) (by omega)
      have x2 := idx_lower (s[k].toNat % 16) (by omega) ((s[k].toNat : Int) % 16) (by omega)
      have x3 := wrap_div16 s[k]
      have x4 := tmod16 s[k]
      have k0 : (0 : Int) ≤ (k : Int) := by omega
      have k1 : (k : Int) < (s.size : Int) := by omega
      have hl := hexL_len (s.data.toList.take k)
      have hlk : (s.data.toList.take k).length ≤ k := List.length_take_le _ _
      have HL : Hid ((hexL (s.data.toList.take k)).length + 2 ≤ 16777216) := Lib.hid (by omega)
      clear hl hlk
      go_wp2_with fail
      go_region_law ((refine step_append_buf (by rfl) _ _ (by rfl) w.heap.size _ _ (by rfl) (hown.alloc _).drew [hexC (s[k].toNat / 16), hexC (s[k].toNat % 16)] wr.heap.size _ _ _ _ _ (by rfl) (by rfl) (heap_alloc_new wr _) (by simp [bv]) (by simp) HL.out (by simp; exact Nat.le_succ_of_le hb.size) ?_; intro v' w2 hown2 hb2))
      all_goals
        have HB := hb.trans (((Below.refl w.heap.size wr).alloc hb.size _).drew.trans hb2)
        have HN : Hid (Buf w2 w.heap.size v' (hexL (s.data.toList.take (k + 1)))) := Lib.hid (by rw [take_snoc s k hlt, hexL_app]; exact hown2)
        go_wp2
        go_roundw
        case rel => exact ⟨k + 1, by omega, by go_num, HN.out, HB⟩
        case measure => simp [intOf]; omega
    · have hcv := hown.conv
      rw [take_end s k hlt] at hcv
      go_wp2
      go_ret
      exact ⟨rfl, hb⟩
end Go.Proofs.YtnodhkjgnegkcaaGreatDoor

/-
  The text of a graph in plain words.
-/
namespace Go.Proofs.YtnodhkjgnegkcaaGreatDoor
open Go.RowKit

/-- Words, a blank ahead of each. -/
def spc (ws : List (List UInt8)) : List UInt8 := ws.flatMap fun y => 32 :: y
/-- Words with blanks between. -/
def jn : List (List UInt8) → List UInt8
  | [] => []
  | x :: xs => x ++ spc xs
theorem spc_app (a b : List (List UInt8)) : spc (a ++ b) = spc a ++ spc b := by unfold spc; rw [List.flatMap_append]
theorem spc_one (a : List UInt8) : spc [a] = 32 :: a := by simp [spc]
theorem jn_app {a : List (List UInt8)} (b : List (List UInt8)) (h : a ≠ []) : jn (a ++ b) = jn a ++ spc b := by
  cases a with
  | nil => exact absurd rfl h
  | cons x xs => simp [jn, spc_app]
theorem jn_le (a b : List (List UInt8)) : (jn a).length ≤ (jn (a ++ b)).length := by
  cases a with
  | nil => simp [jn]
  | cons x xs => simp [jn, spc_app]
theorem spc_len (ws : List (List UInt8)) : (spc ws).length = ws.length + smL ws := by
  induction ws with
  | nil => rfl
  | cons a t ih =>
    have e : smL (a :: t) = a.length + smL t := by unfold smL; simp
    have e2 : spc (a :: t) = 32 :: a ++ spc t := by simp [spc]
    rw [e2]; simp [ih, e]; omega
theorem jn_len (ws : List (List UInt8)) : (jn ws).length ≤ ws.length + smL ws := by
  cases ws with
  | nil => simp [jn]
  | cons a t =>
    have e : smL (a :: t) = a.length + smL t := by unfold smL; simp
    simp only [jn, List.length_append, spc_len, e, List.length_cons]; omega
theorem smL_app (a b : List (List UInt8)) : smL (a ++ b) = smL a + smL b := by unfold smL; rw [List.map_append, List.sum_append]
/-- The word of a sum. -/
def sumW (b : Bd) : List UInt8 := b.1 ++ 58 :: hexL (b.2.take 4)
def devW : List UInt8 := [100, 101, 118]
def arrW : List UInt8 := [45, 62]
def topW : List UInt8 := [116, 111, 112]
def pw1 (p : Pk) : List (List UInt8) := [keyOf p] ++ (if p.dev = true then [devW] else [])
def pw2 (p : Pk) : List (List UInt8) := pw1 p ++ p.sums.map sumW
def pw3 (p : Pk) : List (List UInt8) := pw2 p ++ (if p.src = [] then [] else [p.src])
def pw4 (p : Pk) : List (List UInt8) := pw3 p ++ (if p.needs = [] then [] else [arrW])
/-- The words of a pack's line. -/
def pw (p : Pk) : List (List UInt8) := pw4 p ++ p.needs
theorem pw1_ne (p : Pk) : pw1 p ≠ [] := by unfold pw1; simp
theorem pw2_ne (p : Pk) : pw2 p ≠ [] := by unfold pw2; simp [pw1_ne]
theorem pw3_ne (p : Pk) : pw3 p ≠ [] := by unfold pw3; simp [pw2_ne]
theorem pw4_ne (p : Pk) : pw4 p ≠ [] := by unfold pw4; simp [pw3_ne]
theorem hex4_len (l : List UInt8) : (hexL (l.take 4)).length ≤ 8 := by rw [hexL_len, List.length_take]; omega
theorem sumW_len (b : Bd) : (sumW b).length ≤ b.1.length + 9 := by
  have := hex4_len b.2
  unfold sumW; simp; omega
theorem smL_sumW (bs : List Bd) : smL (bs.map sumW) ≤ smB bs + 9 * bs.length := by
  induction bs with
  | nil => simp [smL]
  | cons a t ih =>
    have e : smL ((a :: t).map sumW) = (sumW a).length + smL (t.map sumW) := by unfold smL; simp
    have e2 : smB (a :: t) = a.1.length + a.2.length + smB t := by simp [smB]
    have := sumW_len a
    rw [e, e2]; simp; omega
theorem keyOf_len (p : Pk) : (keyOf p).length = p.name.length + p.ver.length + 1 := by unfold keyOf; simp; omega
theorem pw_len (p : Pk) : (jn (pw p)).length ≤ 10 * wP p + 20 := by
  have h := jn_len (pw p)
  have h1 : (pw1 p).length ≤ 2 ∧ smL (pw1 p) ≤ (keyOf p).length + 3 := by
    unfold pw1; rw [smL_app]; split <;> simp [smL, devW]
  have h2 : (pw2 p).length = (pw1 p).length + p.sums.length ∧ smL (pw2 p) ≤ smL (pw1 p) + (smB p.sums + 9 * p.sums.length) := by
    unfold pw2; rw [smL_app]; have := smL_sumW p.sums; simp; omega
  have h3 : (pw3 p).length ≤ (pw2 p).length + 1 ∧ smL (pw3 p) ≤ smL (pw2 p) + p.src.length := by
    unfold pw3; rw [smL_app]; split <;> simp [smL]
  have h4 : (pw4 p).length ≤ (pw3 p).length + 1 ∧ smL (pw4 p) ≤ smL (pw3 p) + 2 := by
    unfold pw4; rw [smL_app]; split <;> simp [smL, arrW]
  have h5 : (pw p).length = (pw4 p).length + p.needs.length ∧ smL (pw p) = smL (pw4 p) + smL p.needs := by
    unfold pw; rw [smL_app]; simp
  have hk := keyOf_len p
  unfold wP wB wL
  omega
/-- The first word's line, and those of packs. -/
def lnT (ws : List (List UInt8)) : List UInt8 := jn ws ++ [10]
def gtT (ts : List (List UInt8)) (ps : List Pk) : List UInt8 := lnT (topW :: ts) ++ ps.flatMap fun p => lnT (pw p)
def gtA (ts : List (List UInt8)) (ps : List Pk) : List UInt8 := if grOk ts ps = true then gtT ts ps else []
theorem gtT_nil (ts : List (List UInt8)) (ps : List Pk) : gtT ts (ps.take 0) = lnT (topW :: ts) := by simp [gtT]
theorem gtT_snoc (ts : List (List UInt8)) (ps : List Pk) (k : Nat) (h : k < ps.length) : gtT ts (ps.take (k + 1)) = gtT ts (ps.take k) ++ lnT (pw ps[k]) := by
  unfold gtT; rw [List.take_succ_eq_append_getElem h, List.flatMap_append]; simp
theorem gtT_all (ts : List (List UInt8)) (ps : List Pk) (k : Nat) (h : ps.length ≤ k) : gtT ts (ps.take k) = gtT ts ps := by rw [List.take_of_length_le h]
theorem gtP_len (ps : List Pk) : (ps.flatMap fun p => lnT (pw p)).length ≤ 10 * smP ps + 21 * ps.length := by
  induction ps with
  | nil => simp
  | cons a t ih =>
    have e : smP (a :: t) = wP a + smP t := by unfold smP; simp
    have := pw_len a
    rw [List.flatMap_cons, List.length_append, e]
    unfold lnT at ih ⊢
    simp at ih ⊢; omega
theorem gtT_len {ts : List (List UInt8)} {ps : List Pk} (ht : ts.length + smL ts ≤ 1048576) (hp : SmPs ps) (k : Nat) : (gtT ts (ps.take k)).length ≤ 33554432 := by
  have h1 := gtP_len (ps.take k)
  have h2 := smP_le ps k
  have h3 := jn_len (topW :: ts)
  have e : smL (topW :: ts) = 3 + smL ts := by unfold smL; simp [topW]
  have h4 : (ps.take k).length ≤ ps.length := by simp; omega
  unfold SmPs at hp
  unfold gtT
  rw [List.length_append]
  unfold lnT at h1 ⊢
  rw [e] at h3
  simp at h3 h1 h4 ⊢
  omega
/-- The sums of a right pack have four bytes each at least. -/
theorem sumsTo_get {bs : List Bd} : ∀ {n : Nat}, sumsTo bs n = true → ∀ k, k < n → sumAt bs k = true
  | n + 1, h, k, hk => by
    unfold sumsTo at h
    simp only [Bool.and_eq_true] at h
    by_cases e : k = n
    · subst e; exact h.2
    · exact sumsTo_get h.1 k (by omega)
theorem longI_four (a : List UInt8) : longI a = -1 ∨ 4 ≤ longI a := by
  unfold longI
  repeat' split
  all_goals omega
theorem sums_four {bs : List Bd} (h : sumsOkL bs = true) (k : Nat) (hk : k < bs.length) : 4 ≤ bs[k].2.length := by
  have h1 := sumsTo_get h k hk
  unfold sumAt at h1
  simp only [Bool.and_eq_true, decide_eq_true_eq] at h1
  have h2 := h1.1
  rw [getD_at hk] at h2
  rcases longI_four bs[k].1 with h3 | h3 <;> omega
theorem grOk_pack {ts : List (List UInt8)} {ps : List Pk} (h : grOk ts ps = true) (k : Nat) (hk : k < ps.length) : pkOk ps[k] = true := by
  rw [grOk_parts] at h
  simp only [Bool.and_eq_true] at h
  have h1 := allTo_get h.2.1 k hk
  unfold pkAtB at h1
  rw [ps_at hk] at h1
  simp only [Bool.and_eq_true] at h1
  exact h1.1
theorem pkOk_sums {p : Pk} (h : pkOk p = true) : sumsOkL p.sums = true := by
  unfold pkOk at h; simp only [Bool.and_eq_true] at h; exact h.1
end Go.Proofs.YtnodhkjgnegkcaaGreatDoor

/-
  The last place of a byte in a text.
-/
namespace Go.Proofs.YtnodhkjgnegkcaaGreatDoor
open Go.RowKit

/-- The last place of c among the first k bytes of l, or -1. -/
def lastK (l : List UInt8) (c : UInt8) : Nat → Int
  | 0 => -1
  | k + 1 => if l.getD k 0 = c then (k : Int) else lastK l c k
theorem lastK_bd (l : List UInt8) (c : UInt8) : ∀ k, -1 ≤ lastK l c k ∧ lastK l c k < k
  | 0 => by simp [lastK]
  | k + 1 => by
    have := lastK_bd l c k
    unfold lastK
    split <;> omega
theorem lastK_take (l : List UInt8) (c : UInt8) (n : Nat) : ∀ k, k ≤ n → k ≤ l.length → lastK (l.take n) c k = lastK l c k
  | 0, _, _ => rfl
  | k + 1, h, hl => by
    unfold lastK
    rw [lastK_take l c n k (by omega) (by omega)]
    have : (l.take n).getD k 0 = l.getD k 0 := by simp [List.getD_eq_getElem?_getD, List.getElem?_take_of_lt (show k < n by omega)]
    rw [this]
theorem getD_byte (s : ByteArray) (k : Nat) (h : k < s.size) : s.data.toList.getD k 0 = s[k] := by
  rw [List.getD_eq_getElem?_getD, List.getElem?_eq_getElem (by simpa using h)]; rfl
theorem lastK_hit {s : ByteArray} {c : UInt8} {k : Nat} (h : k < s.size) (hc : s[k] = c) : lastK s.data.toList c (k + 1) = k := by
  unfold lastK; rw [getD_byte s k h, if_pos hc]
theorem lastK_miss {s : ByteArray} {c : UInt8} {k : Nat} (h : k < s.size) (hc : ¬ s[k] = c) : lastK s.data.toList c (k + 1) = lastK s.data.toList c k := by
  conv => lhs; unfold lastK
  rw [getD_byte s k h, if_neg hc]

/-- The two parts of a key. -/
def keyA (s : ByteArray) : ByteArray := if lastK s.data.toList 64 s.size < 0 then ⟨#[]⟩ else s.extract 0 (lastK s.data.toList 64 s.size).toNat
def keyB (s : ByteArray) : ByteArray := if lastK s.data.toList 64 s.size < 0 then ⟨#[]⟩ else s.extract ((lastK s.data.toList 64 s.size).toNat + 1) s.size
theorem slice_upto (s r : ByteArray) (b : Nat) (zb : Int) (hb : zb = (b : Int)) (h2 : b ≤ s.size) (hr : s.extract 0 b = r) (w : World) :
    (Instr.slice 9 (.string s) none (some (.int .i64 zb)) none).run Tryz.prog w = .ok (.string r) w := by
  subst hb hr
  have h0 : (0 : Int) ≤ (b : Int) := by omega
  have h3 : (b : Int) ≤ (s.size : Int) := by omega
  have h := run_slice_string_h (P := Tryz.prog) w 9 s Tryz.underlying9 .i64 (b : Int) h0 h3
  simpa using h
theorem keyA_hit {s : ByteArray} {k : Nat} (h : lastK s.data.toList 64 s.size = (k : Int)) : keyA s = s.extract 0 k := by unfold keyA; rw [h, if_neg (by omega)]; rfl
theorem keyB_hit {s : ByteArray} {k : Nat} (h : lastK s.data.toList 64 s.size = (k : Int)) : keyB s = s.extract (k + 1) s.size := by unfold keyB; rw [h, if_neg (by omega)]; rfl
theorem keyA_miss {s : ByteArray} (h : lastK s.data.toList 64 s.size < 0) : keyA s = ⟨#[]⟩ := by unfold keyA; rw [if_pos h]
theorem keyB_miss {s : ByteArray} (h : lastK s.data.toList 64 s.size < 0) : keyB s = ⟨#[]⟩ := by unfold keyB; rw [if_pos h]

end Go.Proofs.YtnodhkjgnegkcaaGreatDoor

/-
  spec.l04Line, spec.GraphText: the text of a graph.
-/
namespace Go.Proofs.YtnodhkjgnegkcaaGreatDoor
open Go.RowKit

theorem add_bytes (W : World) (x y : ByteArray) (h : x.size ≤ 1073741824) (h2 : y.size ≤ 1073741824) : (Op.stringOp .add x y).run Tryz.prog W = .ok (.string (x ++ y)) W := run_string_add_sum W x y (by omega)
theorem keep3C {W V : World} {A B C o p q : Nat} {v u t : Value} (hb : Below W.heap.size W V) (h : W.cell? ⟨A, o, none⟩ = some v ∧ W.cell? ⟨B, p, none⟩ = some u ∧ W.cell? ⟨C, q, none⟩ = some t) : V.cell? ⟨A, o, none⟩ = some v ∧ V.cell? ⟨B, p, none⟩ = some u ∧ V.cell? ⟨C, q, none⟩ = some t := ⟨keepC hb h.1, keepC hb h.2.1, keepC hb h.2.2⟩
theorem pw_le (p : Pk) (l m : List (List UInt8)) (h : l ++ m = pw p) (hp : SmPk p) : (jn l).length ≤ 16777216 := by
  have h1 := jn_le l m
  have h2 := pw_len p
  rw [h] at h1
  unfold SmPk at hp
  omega
theorem str_is {x : ByteArray} {l : List UInt8} (h : x.data.toList = l) : Value.string x = .string ⟨l.toArray⟩ := congrArg Value.string (bytes_ext (by simpa using h))
theorem take_sum (p : Pk) {k : Nat} (h : k < p.sums.length) : jn (pw1 p ++ (p.sums.take (k + 1)).map sumW) = jn (pw1 p ++ (p.sums.take k).map sumW) ++ 32 :: sumW p.sums[k] := by
  rw [List.take_succ_eq_append_getElem h, List.map_append, ← List.append_assoc, jn_app _ (by simp [pw1_ne])]
  simp [spc]
/-- The text as far as the k-th need. -/
def ndTo (p : Pk) (k : Nat) : List (List UInt8) := if k = 0 then pw3 p else pw4 p ++ p.needs.take k
theorem ndTo_first (p : Pk) (h : 0 < p.needs.length) : jn (ndTo p 1) = (jn (ndTo p 0) ++ (32 : UInt8) :: arrW) ++ (32 : UInt8) :: p.needs[0] := by
  unfold ndTo
  rw [if_neg (by omega), if_pos rfl]
  have hn : p.needs ≠ [] := fun e => by rw [e] at h; simp at h
  have e : p.needs.take 1 = [p.needs[0]] := by rw [List.take_one, List.head?_eq_getElem?, List.getElem?_eq_getElem h]; rfl
  unfold pw4
  rw [if_neg hn, e, jn_app _ (by simp [pw3_ne]), jn_app _ (pw3_ne p), spc_one, spc_one]
theorem ndTo_more (p : Pk) {k : Nat} (h : k < p.needs.length) (h0 : k ≠ 0) : jn (ndTo p (k + 1)) = jn (ndTo p k) ++ (32 : UInt8) :: p.needs[k] := by
  unfold ndTo
  rw [if_neg (by omega), if_neg h0, List.take_succ_eq_append_getElem h, ← List.append_assoc, jn_app _ (by simp [pw4_ne]), spc_one]
theorem ndTo_all (p : Pk) : ndTo p p.needs.length = pw p := by
  unfold ndTo pw pw4
  by_cases h : p.needs = []
  · rw [h]; simp
  · rw [if_neg (by intro e; exact h (List.length_eq_zero_iff.1 e)), List.take_length]
theorem ndTo_le (p : Pk) (k : Nat) (hp : SmPk p) : (jn (ndTo p k)).length ≤ 16777216 := by
  unfold ndTo
  split
  · exact pw_le p _ ((if p.needs = [] then [] else [arrW]) ++ p.needs) (by unfold pw pw4; simp) hp
  · exact pw_le p _ (p.needs.drop k) (by unfold pw; rw [List.append_assoc, List.take_append_drop]) hp

set_option maxRecDepth 100000 in
set_option maxHeartbeats 4000000 in
theorem l04Line_any (p : Pk) (a b : Value) (w : World) (ha : RdB w a p.sums) (hb : RdS w b p.needs) (hp : SmPk p) (h4 : ∀ k (h : k < p.sums.length), 4 ≤ p.sums[k].2.length) :
    Calls Tryz.prog 52 #[.agg #[.string ⟨p.name.toArray⟩, .string ⟨p.ver.toArray⟩, .string ⟨p.src.toArray⟩, a, .bool p.dev, b]] w fun e w' => e = .returned (.string ⟨(jn (pw p)).toArray⟩) ∧ Below w.heap.size w w' := by
  have HK := Lib.hid (fun (W : World) (h : Below w.heap.size w W) => specKeyOf_any p a b W (ha.below h) (hb.below h) hp)
  have HA := Lib.hid ha
  have HB := Lib.hid hb
  have HP := Lib.hid hp
  have H4 := Lib.hid h4
  obtain ⟨A, ca, rfl⟩ := ha.slice
  obtain ⟨B, cb, rfl⟩ := hb.slice
  have hsl : p.sums.length ≤ 1048576 := by have := hp.sums; unfold SmB at this; omega
  have hnl : p.needs.length ≤ 1048576 := by have := hp.needs; omega
  obtain ⟨_, _, ht3⟩ := hp.texts
  clear ha hb hp h4
  obtain ⟨K, HKK⟩ : ∃ K : ByteArray, Hid (⟨(keyOf p).toArray⟩ = K) := ⟨_, Lib.hid rfl⟩
  have sK : K.size ≤ 1048577 := by rw [← HKK.out]; show (keyOf p).toArray.size ≤ _; have := SmPk.key HP.out; simpa using this
  have HKL : Hid (K.data.toList = keyOf p) := Lib.hid (by rw [← HKK.out])
  simp only [HKK.out] at HK
  obtain ⟨S, HSS⟩ : ∃ S : ByteArray, Hid (⟨p.src.toArray⟩ = S) := ⟨_, Lib.hid rfl⟩
  have sS : S.size ≤ 1048576 := by rw [← HSS.out]; show p.src.toArray.size ≤ _; simpa using ht3
  have HSL : Hid (S.data.toList = p.src) := Lib.hid (by rw [← HSS.out])
  obtain ⟨dv, HD⟩ : ∃ dv, Hid (p.dev = dv) := ⟨_, Lib.hid rfl⟩
  simp only [HSS.out, HD.out] at HK ⊢
  obtain ⟨R, HRR⟩ : ∃ R : ByteArray, Hid (R.data.toList = jn (pw p)) := ⟨⟨(jn (pw p)).toArray⟩, Lib.hid rfl⟩
  rw [← str_is HRR.out]
  obtain ⟨O1, HO1⟩ : ∃ O : ByteArray, Hid (O.data.toList = jn (pw1 p)) := ⟨⟨(jn (pw1 p)).toArray⟩, Lib.hid rfl⟩
  obtain ⟨O3, HO3⟩ : ∃ O : ByteArray, Hid (O.data.toList = jn (pw3 p)) := ⟨⟨(jn (pw3 p)).toArray⟩, Lib.hid rfl⟩
  have s1 : O1.size ≤ 16777216 := by have e : O1.size = (jn (pw1 p)).length := by rw [← HO1.out]; rfl
                                     rw [e]; exact pw_le p _ (p.sums.map sumW ++ (if p.src = [] then [] else [p.src]) ++ (if p.needs = [] then [] else [arrW]) ++ p.needs) (by unfold pw pw4 pw3 pw2; simp) HP.out
  have s3 : O3.size ≤ 16777216 := by have e : O3.size = (jn (pw3 p)).length := by rw [← HO3.out]; rfl
                                     rw [e]; have := ndTo_le p 0 HP.out; unfold ndTo at this; rw [if_pos rfl] at this; exact this
  have B0 : Below w.heap.size w (w.alloc (.cells #[.string ⟨p.name.toArray⟩, .string ⟨p.ver.toArray⟩, .string S, .slice A p.sums.length ca, .bool dv, .slice B p.needs.length cb] 78)) := (Below.refl _ _).alloc (Nat.le_refl _) _
  have b0 := heap_alloc_new w (.cells #[.string ⟨p.name.toArray⟩, .string ⟨p.ver.toArray⟩, .string S, .slice A p.sums.length ca, .bool dv, .slice B p.needs.length cb] 78)
  obtain ⟨x0, x1, x2, x3, x4, x5⟩ := cells6 b0
  go_enter Tryz.func52, Tryz.ntmps52
  go_wp2_with fail
  refine (HK.out _ B0).mono ?_
  rintro e w1 ⟨rfl, hb1⟩
  have B1 := B0.trans (hb1.mono B0.size)
  have b1 := keepB b0 hb1
  obtain ⟨y0, y1, y2, y3, y4, y5⟩ := cells6 b1
  clear x0 x1 x2 x3 x4 x5 B0 b0 hb1 HK
  go_upto_if 9 with fail
  go_cut [3] (fun o wx => o = .string O1 ∧ wx = w1)
  case first =>
    cases dv
    · have HE : Hid (K = O1) := Lib.hid (bytes_ext (by rw [HKL.out, HO1.out]; unfold pw1; rw [HD.out]; simp [jn, spc]))
      go_wp2_with fail
      go_meet
      exact ⟨by rw [HE.out], rfl⟩
    · have HE : Hid (K ++ ⟨#[32, 100, 101, 118]⟩ = O1) := Lib.hid (bytes_ext (by rw [HO1.out]; unfold pw1; rw [HD.out]; simp [jn, spc, devW, HKL.out]))
      go_wp2_with fail
      go_meet
      exact ⟨by rw [← HE.out], rfl⟩
  case rest =>
  obtain ⟨rfl, rfl⟩ := hcut
  go_wp2_with fail
  go_loopw [3, 4] (fun o i wr => ∃ (k : Nat) (O : ByteArray), k ≤ p.sums.length ∧ i = .int .i64 k ∧ o = .string O ∧ O.size ≤ 16777216 ∧ Hid (O.data.toList = jn (pw1 p ++ (p.sums.take k).map sumW)) ∧ Below w.heap.size w wr ∧ wr.heap[w.heap.size]? = some (.cells #[.string ⟨p.name.toArray⟩, .string ⟨p.ver.toArray⟩, .string S, .slice A p.sums.length ca, .bool dv, .slice B p.needs.length cb] 78)) (fun _ i _ => p.sums.length - (intOf i).toNat)
  case atStart => exact ⟨0, O1, Nat.zero_le _, rfl, rfl, s1, Lib.hid (by rw [HO1.out]; simp), B1, b1⟩
  case round =>
    obtain ⟨k, O, hk, rfl, rfl, sO, HO, hb, bx⟩ := hrel
    clear B1 b1 y0 y1 y2 y3 y4 y5
    obtain ⟨z0, z1, z2, z3, z4, z5⟩ := cells6 bx
    by_cases hlt : k < p.sums.length
    · obtain ⟨g, off, rfl, hg, d1, d2⟩ := (HA.out.below hb).at k hlt
      have hl2 : p.sums[k].1.length + p.sums[k].2.length ≤ 1048576 := by have := smB_mem p.sums[k] (List.getElem_mem hlt); have := HP.out.sums; unfold SmB at this; omega
      have h4k := H4.out k hlt
      have HMO := Lib.hid (take_sum p hlt)
      have hle : (jn (pw1 p ++ (p.sums.take (k + 1)).map sumW)).length ≤ 16777216 := pw_le p _ ((p.sums.drop (k + 1)).map sumW ++ (if p.src = [] then [] else [p.src]) ++ (if p.needs = [] then [] else [arrW]) ++ p.needs) (by
        unfold pw pw4 pw3 pw2
        simp only [List.append_assoc, List.map_take, List.map_drop]
        conv => rhs; rw [← List.take_append_drop (k + 1) (p.sums.map sumW)]
        simp only [List.append_assoc]) HP.out
      obtain ⟨X, HX⟩ : ∃ X : ByteArray, Hid (⟨p.sums[k].1.toArray⟩ = X) := ⟨_, Lib.hid rfl⟩
      obtain ⟨Y, HY⟩ : ∃ Y : ByteArray, Hid (⟨p.sums[k].2.toArray⟩ = Y) := ⟨_, Lib.hid rfl⟩
      have sX : X.size ≤ 1048576 := by rw [← HX.out]; show p.sums[k].1.toArray.size ≤ _; simp; omega
      have sY : 4 ≤ Y.size := by rw [← HY.out]; show _ ≤ p.sums[k].2.toArray.size; simpa using h4k
      have HXL : Hid (X.data.toList = p.sums[k].1) := Lib.hid (by rw [← HX.out])
      have HYL : Hid (Y.data.toList = p.sums[k].2) := Lib.hid (by rw [← HY.out])
      rw [HX.out] at d1
      rw [HY.out] at d2
      obtain ⟨Z, HZ⟩ : ∃ Z : ByteArray, Hid (Y.extract 0 4 = Z) := ⟨_, Lib.hid rfl⟩
      have HZL : Hid (Z.data.toList = p.sums[k].2.take 4) := Lib.hid (by rw [← HZ.out, ← HYL.out]; simp)
      have sZ : Z.size ≤ 1048576 := by have e : Z.size = (p.sums[k].2.take 4).length := by rw [← HZL.out]; rfl
                                       rw [e, List.length_take]; omega
      have HC := Lib.hid (fun W => specPutHex_any Z W sZ)
      obtain ⟨E, HE⟩ : ∃ E : ByteArray, Hid (⟨(hexL Z.data.toList).toArray⟩ = E) := ⟨_, Lib.hid rfl⟩
      have HC2 : Hid (∀ W, Calls Tryz.prog 105 #[.string Z] W fun e w' => e = .returned (.string E) ∧ Below W.heap.size W w') := Lib.hid (by have := HC.out; simp only [HE.out] at this; exact this)
      have HEL : Hid (E.data.toList = hexL (p.sums[k].2.take 4)) := Lib.hid (by rw [← HE.out, HZL.out])
      have sE : E.size ≤ 8 := by have e : E.size = (hexL (p.sums[k].2.take 4)).length := by rw [← HEL.out]; rfl
                                 rw [e]; exact hex4_len _
      have hs4 : ∀ W, (Instr.slice 9 (.string Y) none (some (.int .i64 4)) none).run Tryz.prog W = .ok (.string Z) W := slice_upto Y Z 4 4 rfl sY HZ.out
      obtain ⟨N0, HN0⟩ : ∃ N : ByteArray, Hid (O ++ ⟨#[32]⟩ = N) := ⟨_, Lib.hid rfl⟩
      obtain ⟨N1, HN1⟩ : ∃ N : ByteArray, Hid (N0 ++ X = N) := ⟨_, Lib.hid rfl⟩
      obtain ⟨N2, HN2⟩ : ∃ N : ByteArray, Hid (N1 ++ ⟨#[58]⟩ = N) := ⟨_, Lib.hid rfl⟩
      obtain ⟨N3, HN3⟩ : ∃ N : ByteArray, Hid (N2 ++ E = N) := ⟨_, Lib.hid rfl⟩
      have l0 : N0.size ≤ 16777217 := by rw [← HN0.out, ByteArray.size_append]; show O.size + 1 ≤ _; omega
      have l1 : N1.size ≤ 17825793 := by rw [← HN1.out, ByteArray.size_append]; omega
      have l2 : N2.size ≤ 17825794 := by rw [← HN2.out, ByteArray.size_append]; show N1.size + 1 ≤ _; omega
      have t0 : ∀ W, (Op.stringOp .add O ⟨#[32]⟩).run Tryz.prog W = .ok (.string N0) W := fun W => by rw [← HN0.out]; exact add_bytes W _ _ (by omega) (by decide)
      have t1 : ∀ W, (Op.stringOp .add N0 X).run Tryz.prog W = .ok (.string N1) W := fun W => by rw [← HN1.out]; exact add_bytes W _ _ (by omega) (by omega)
      have t2 : ∀ W, (Op.stringOp .add N1 ⟨#[58]⟩).run Tryz.prog W = .ok (.string N2) W := fun W => by rw [← HN2.out]; exact add_bytes W _ _ (by omega) (by decide)
      have t3 : ∀ W, (Op.stringOp .add N2 E).run Tryz.prog W = .ok (.string N3) W := fun W => by rw [← HN3.out]; exact add_bytes W _ _ (by omega) (by omega)
      have HNL : Hid (N3.data.toList = jn (pw1 p ++ (p.sums.take (k + 1)).map sumW)) := Lib.hid (by
        rw [HMO.out, ← HO.out, ← HN3.out, ← HN2.out, ← HN1.out, ← HN0.out]
        unfold sumW
        simp [HXL.out, HEL.out])
      have lN : N3.size ≤ 16777216 := by have e : N3.size = (jn (pw1 p ++ (p.sums.take (k + 1)).map sumW)).length := by rw [← HNL.out]; rfl
                                         rw [e]; exact hle
      have k0 : (0 : Int) ≤ (k : Int) := by omega
      have k1 : (k : Int) < (p.sums.length : Int) := by omega
      clear HC hle h4k hl2 sZ
      go_wp2_with fail
      go_region_held3 (fun W' => W'.cell? ⟨w.heap.size, 3, none⟩ = some (.slice (some ⟨g, off, none⟩) p.sums.length ca) ∧ W'.cell? ⟨g, off + k * 2, none⟩ = some (.string X) ∧ W'.cell? ⟨g, off + k * 2 + 1, none⟩ = some (.string Y)) (first | exact ⟨z3, d1, d2⟩ | assumption | exact keep3C hb3 (by assumption)) ((first | (go_at_call 105; (with_reducible refine (HC2.out _).mono ?_); rintro e w3 ⟨rfl, hb3⟩)))
      all_goals
        have HBB := hb.trans ((below_drewN _ _ 1).trans (hb3.mono hb.size))
        have b3 := keepB (W := World.drewN _ 1) bx hb3
        go_wp2_with fail
        go_roundw
        case rel => exact ⟨k + 1, N3, by omega, by go_num, rfl, lN, HNL, HBB, b3⟩
        case measure => simp [intOf]; omega
    · have hk2 : k = p.sums.length := by omega
      have HOO : Hid (O.data.toList = jn (pw2 p)) := Lib.hid (by rw [HO.out, hk2, List.take_length]; rfl)
      have k2 : ¬ (k : Int) < (p.sums.length : Int) := by omega
      clear HO hlt hk2
      go_upto_if 40 with fail
      go_cut [3] (fun o wx => o = .string O3 ∧ wx = wr)
      case first =>
        by_cases hsrc : p.src = []
        · have q1 : S.toList.isEmpty = true := by rw [ByteArray.toList_eq, HSL.out, hsrc]; rfl
          have q2 : (!S.toList.isEmpty) = false := by rw [q1]; rfl
          have HE : Hid (O = O3) := Lib.hid (bytes_ext (by rw [HOO.out, HO3.out]; unfold pw3; rw [if_pos hsrc]; simp))
          clear hsrc
          go_wp2_with fail
          all_goals
            rename_i hx
            first
            | (exfalso; rw [q2] at hx; cases hx; done)
            | (go_meet; exact ⟨by rw [HE.out], rfl⟩)
        · have q1 : S.toList.isEmpty = false := by rw [ByteArray.toList_eq, HSL.out]; simpa using hsrc
          have q2 : (!S.toList.isEmpty) = true := by rw [q1]; rfl
          have HE : Hid (O ++ ⟨#[32]⟩ ++ S = O3) := Lib.hid (bytes_ext (by rw [HO3.out]; unfold pw3; rw [if_neg hsrc, jn_app _ (pw2_ne p), spc_one]; simp [HOO.out, HSL.out]))
          clear hsrc
          go_wp2_with fail
          all_goals
            rename_i hx
            first
            | (exfalso; rw [q2] at hx; cases hx; done)
            | (go_meet; exact ⟨by rw [← HE.out], rfl⟩)
      case rest =>
      obtain ⟨rfl, rfl⟩ := hcut
      go_wp2_with fail
      go_loopw [3, 5] (fun o i W => ∃ (j : Nat) (O : ByteArray), j ≤ p.needs.length ∧ i = .int .i64 j ∧ o = .string O ∧ O.size ≤ 16777216 ∧ Hid (O.data.toList = jn (ndTo p j)) ∧ W = wc) (fun _ i _ => p.needs.length - (intOf i).toNat)
      case atStart => exact ⟨0, O3, Nat.zero_le _, rfl, rfl, s3, Lib.hid (by rw [HO3.out]; unfold ndTo; rw [if_pos rfl]), rfl⟩
      case round =>
        obtain ⟨j, Q, hj, rfl, rfl, sQ, HQ, rfl⟩ := hrel
        by_cases hjl : j < p.needs.length
        · obtain ⟨g, off, rfl, hg, hc⟩ := rdS_at (HB.out.below hb) j hjl
          have d1 := hc j hjl
          have hl2 : p.needs[j].length ≤ 1048576 := by have := smL_mem p.needs[j] (List.getElem_mem hjl); have := HP.out.needs; omega
          have hle := ndTo_le p (j + 1) HP.out
          obtain ⟨X, HX⟩ : ∃ X : ByteArray, Hid (⟨p.needs[j].toArray⟩ = X) := ⟨_, Lib.hid rfl⟩
          have sX : X.size ≤ 1048576 := by rw [← HX.out]; show p.needs[j].toArray.size ≤ _; simpa using hl2
          have HXL : Hid (X.data.toList = p.needs[j]) := Lib.hid (by rw [← HX.out])
          rw [HX.out] at d1
          have k0 : (0 : Int) ≤ (j : Int) := by omega
          have k1 : (j : Int) < (p.needs.length : Int) := by omega
          clear hc hl2
          by_cases hj0 : j = 0
          · have HN : Hid ((Q ++ ⟨#[32, 45, 62]⟩ ++ ⟨#[32]⟩ ++ X).data.toList = jn (ndTo p (j + 1))) := Lib.hid (by
              subst hj0
              rw [ndTo_first p hjl]
              simp [HQ.out, HXL.out, arrW])
            have lN : (Q ++ ⟨#[32, 45, 62]⟩ ++ ⟨#[32]⟩ ++ X).size ≤ 16777216 := by
              have e : (Q ++ ⟨#[32, 45, 62]⟩ ++ ⟨#[32]⟩ ++ X).size = (jn (ndTo p (j + 1))).length := by rw [← HN.out]; rfl
              rw [e]; exact hle
            have q1 : ((j : Int) == 0) = true := by simpa using hj0
            have HJ := Lib.hid hj0
            clear hle hj0
            go_wp2_with fail
            go_roundw
            case rel => exact ⟨j + 1, _, by omega, by go_num, rfl, lN, HN, trivial⟩
            case measure => simp [intOf]; omega
          · have HN : Hid ((Q ++ ⟨#[32]⟩ ++ X).data.toList = jn (ndTo p (j + 1))) := Lib.hid (by
              rw [ndTo_more p hjl hj0]
              simp [HQ.out, HXL.out])
            have lN : (Q ++ ⟨#[32]⟩ ++ X).size ≤ 16777216 := by
              have e : (Q ++ ⟨#[32]⟩ ++ X).size = (jn (ndTo p (j + 1))).length := by rw [← HN.out]; rfl
              rw [e]; exact hle
            have q1 : ((j : Int) == 0) = false := by simpa using hj0
            have HJ := Lib.hid hj0
            clear hle hj0
            go_wp2_with fail
            go_roundw
            case rel => exact ⟨j + 1, _, by omega, by go_num, rfl, lN, HN, trivial⟩
            case measure => simp [intOf]; omega
        · have HE : Hid (Q = R) := Lib.hid (bytes_ext (by rw [HQ.out, HRR.out, show j = p.needs.length by omega, ndTo_all]))
          go_wp2_with fail
          go_ret
          exact ⟨by rw [HE.out]; rfl, hb⟩
end Go.Proofs.YtnodhkjgnegkcaaGreatDoor

/-
  spec.GraphText: the text of a graph.
-/
namespace Go.Proofs.YtnodhkjgnegkcaaGreatDoor
open Go.RowKit

theorem top_more (ts : List (List UInt8)) {k : Nat} (h : k < ts.length) : jn (topW :: ts.take (k + 1)) = jn (topW :: ts.take k) ++ (32 : UInt8) :: ts[k] := by
  rw [List.take_succ_eq_append_getElem h, ← List.cons_append, jn_app _ (by simp), spc_one]
theorem top_le {ts : List (List UInt8)} (h : ts.length + smL ts ≤ 1048576) (k : Nat) : (jn (topW :: ts.take k)).length ≤ 16777216 := by
  have h1 := jn_le (topW :: ts.take k) (ts.drop k)
  have h2 := jn_len (topW :: ts)
  rw [List.cons_append, List.take_append_drop] at h1
  have e : smL (topW :: ts) = 3 + smL ts := by unfold smL; simp [topW]
  rw [e] at h2
  simp at h2
  omega
theorem line_le {p : Pk} (h : SmPk p) : (jn (pw p)).length ≤ 16777216 := by
  have := pw_len p
  unfold SmPk at h
  omega

set_option maxRecDepth 100000 in
set_option maxHeartbeats 4000000 in
theorem specGraphText_any (vt vp : Value) (ts : List (List UInt8)) (ps : List Pk) (w : World) (ht : RdS w vt ts) (hp : RdPs w vp ps) (hs : SmG ts ps) :
    Calls Tryz.prog 17 #[.agg #[vt, vp]] w fun e w' => e = .returned (.string ⟨(gtA ts ps).toArray⟩) ∧ Below w.heap.size w w' := by
  have HSP := Lib.hid hs.2
  have HS := Lib.hid hs
  have htl : ts.length ≤ 1048576 := by have := hs.1; omega
  have hn : ps.length ≤ 1048576 := by have := hs.2; unfold SmPs at this; omega
  have HR := Lib.hid hp
  have HT := Lib.hid ht
  have HG := Lib.hid (fun (W : World) (h : Below w.heap.size w W) => specGraphOk_any vt vp ts ps W (ht.below h) (hp.below h) hs)
  obtain ⟨T, tc, rfl⟩ := ht.slice
  obtain ⟨A, ca, rfl, _⟩ := hp
  obtain ⟨R, HRR⟩ : ∃ R : ByteArray, Hid (R.data.toList = gtA ts ps) := ⟨⟨(gtA ts ps).toArray⟩, Lib.hid rfl⟩
  rw [← str_is HRR.out]
  have B0 : Below w.heap.size w (w.alloc (.cells #[.slice T ts.length tc, .slice A ps.length ca] 37)) := (Below.refl _ _).alloc (Nat.le_refl _) _
  have b0 := heap_alloc_new w (.cells #[.slice T ts.length tc, .slice A ps.length ca] 37)
  obtain ⟨x0, x1⟩ := cellsG b0
  clear ht hs
  cases hgr : grOk ts ps with
  | false =>
    have HF : Hid (R = ⟨#[]⟩) := Lib.hid (bytes_ext (by rw [HRR.out]; unfold gtA; rw [hgr]; rfl))
    rw [hgr] at HG
    clear hgr
    go_enter Tryz.func17, Tryz.ntmps17
    go_wp2_with fail
    refine (HG.out _ B0).mono ?_
    rintro e w1 ⟨rfl, hb1⟩
    go_wp2_with fail
    go_ret
    exact ⟨by rw [HF.out]; rfl, B0.trans (hb1.mono B0.size)⟩
  | true =>
    have HF : Hid (R.data.toList = gtT ts ps) := Lib.hid (by rw [HRR.out]; unfold gtA; rw [hgr]; rfl)
    have H4 := Lib.hid (fun (k : Nat) (hk : k < ps.length) => sums_four (pkOk_sums (grOk_pack hgr k hk)))
    rw [hgr] at HG
    clear hgr
    go_enter Tryz.func17, Tryz.ntmps17
    go_wp2_with fail
    refine (HG.out _ B0).mono ?_
    rintro e w1 ⟨rfl, hb1⟩
    have B1 := B0.trans (hb1.mono B0.size)
    have b1 := keepB b0 hb1
    obtain ⟨y0, y1⟩ := cellsG b1
    clear hb1 B0 b0 x0 x1 HG
    go_wp2_with fail
    go_loopw [3, 4] (fun o i W => ∃ (k : Nat) (O : ByteArray), k ≤ ts.length ∧ i = .int .i64 k ∧ o = .string O ∧ O.size ≤ 16777216 ∧ Hid (O.data.toList = jn (topW :: ts.take k)) ∧ W = w1) (fun _ i _ => ts.length - (intOf i).toNat)
    case atStart => exact ⟨0, ⟨#[116, 111, 112]⟩, Nat.zero_le _, rfl, rfl, by decide, Lib.hid (by simp [jn, spc, topW]), rfl⟩
    case round =>
      obtain ⟨k, O, hk, rfl, rfl, sO, HO, rfl⟩ := hrel
      by_cases hlt : k < ts.length
      · obtain ⟨g, off, rfl, hg, hc⟩ := rdS_at (HT.out.below B1) k hlt
        have d1 := hc k hlt
        have hl2 : ts[k].length ≤ 1048576 := by have := smL_mem ts[k] (List.getElem_mem hlt); have := HS.out.1; omega
        have hle := top_le HS.out.1 (k + 1)
        have HMO := Lib.hid (top_more ts hlt)
        obtain ⟨X, HX⟩ : ∃ X : ByteArray, Hid (⟨ts[k].toArray⟩ = X) := ⟨_, Lib.hid rfl⟩
        have sX : X.size ≤ 1048576 := by rw [← HX.out]; show ts[k].toArray.size ≤ _; simpa using hl2
        have HXL : Hid (X.data.toList = ts[k]) := Lib.hid (by rw [← HX.out])
        rw [HX.out] at d1
        have k0 : (0 : Int) ≤ (k : Int) := by omega
        have k1 : (k : Int) < (ts.length : Int) := by omega
        have HN : Hid ((O ++ ⟨#[32]⟩ ++ X).data.toList = jn (topW :: ts.take (k + 1))) := Lib.hid (by
          rw [HMO.out]; simp [HO.out, HXL.out])
        have lN : (O ++ ⟨#[32]⟩ ++ X).size ≤ 16777216 := by
          have e : (O ++ ⟨#[32]⟩ ++ X).size = (jn (topW :: ts.take (k + 1))).length := by rw [← HN.out]; rfl
          rw [e]; exact hle
        clear hc hl2 hle
        go_wp2_with fail
        go_roundw
        case rel => exact ⟨k + 1, _, by omega, by go_num, rfl, lN, HN, trivial⟩
        case measure => simp [intOf]; omega
      · have HOO : Hid ((O ++ ⟨#[10]⟩).data.toList = gtT ts (ps.take 0)) := Lib.hid (by
          rw [gtT_nil]; simp [HO.out, lnT, List.take_of_length_le (by omega : ts.length ≤ k)])
        have sO1 : (O ++ ⟨#[10]⟩).size ≤ 33554432 := by rw [ByteArray.size_append]; show O.size + 1 ≤ _; omega
        have k2 : ¬ (k : Int) < (ts.length : Int) := by omega
        clear HO hlt
        go_wp2_with fail
        go_loopw [3, 5] (fun o i W => ∃ (j : Nat) (Q : ByteArray), j ≤ ps.length ∧ i = .int .i64 j ∧ o = .string Q ∧ Q.size ≤ 33554432 ∧ Hid (Q.data.toList = gtT ts (ps.take j)) ∧ Below w.heap.size w W ∧ W.heap[w.heap.size]? = some (.cells #[.slice T ts.length tc, .slice A ps.length ca] 37)) (fun _ i _ => ps.length - (intOf i).toNat)
        case atStart => exact ⟨0, _, Nat.zero_le _, rfl, rfl, sO1, HOO, B1, b1⟩
        case round =>
          obtain ⟨j, Q, hj, rfl, rfl, sQ, HQ, hb, bx⟩ := hrel
          obtain ⟨z0, z1⟩ := cellsG bx
          clear y0 y1
          by_cases hjl : j < ps.length
          · obtain ⟨g, off, rfl, hg, a, b, d0, d1, d2, d3, d4, d5, ra, rb⟩ := (HR.out.below hb).at j hjl
            have HL := Lib.hid (l04Line_any ps[j] a b _ ra rb (HSP.out.get j hjl) (H4.out j hjl))
            obtain ⟨A1, c1, rfl⟩ := ra.slice
            obtain ⟨A2, c2, rfl⟩ := rb.slice
            have hle := line_le (HSP.out.get j hjl)
            have hle2 := gtT_len (ts := ts) HS.out.1 HSP.out (j + 1)
            have HMO := Lib.hid (gtT_snoc ts ps j hjl)
            obtain ⟨X, HX⟩ : ∃ X : ByteArray, Hid (⟨(jn (pw ps[j])).toArray⟩ = X) := ⟨_, Lib.hid rfl⟩
            have sX : X.size ≤ 16777216 := by rw [← HX.out]; show (jn (pw ps[j])).toArray.size ≤ _; simpa using hle
            have HXL : Hid (X.data.toList = jn (pw ps[j])) := Lib.hid (by rw [← HX.out])
            simp only [HX.out] at HL
            have HN : Hid ((Q ++ X ++ ⟨#[10]⟩).data.toList = gtT ts (ps.take (j + 1))) := Lib.hid (by
              rw [HMO.out]; simp [HQ.out, HXL.out, lnT])
            have lN : (Q ++ X ++ ⟨#[10]⟩).size ≤ 33554432 := by
              have e : (Q ++ X ++ ⟨#[10]⟩).size = (gtT ts (ps.take (j + 1))).length := by rw [← HN.out]; rfl
              rw [e]; exact hle2
            have k0 : (0 : Int) ≤ (j : Int) := by omega
            have k1 : (j : Int) < (ps.length : Int) := by omega
            clear ra rb hle hle2
            go_wp2_with fail
            refine HL.out.mono ?_
            rintro e w3 ⟨rfl, hb3⟩
            have B3 := hb.trans (hb3.mono hb.size)
            have b3 := keepB bx hb3
            go_wp2_with fail
            go_roundw
            case rel => exact ⟨j + 1, _, by omega, by go_num, rfl, lN, HN, B3, b3⟩
            case measure => simp [intOf]; omega
          · have HE : Hid (Q = R) := Lib.hid (bytes_ext (by rw [HQ.out, HF.out, gtT_all ts ps j (by omega)]))
            have k3 : ¬ (j : Int) < (ps.length : Int) := by omega
            go_wp2_with fail
            go_ret
            exact ⟨by rw [HE.out]; rfl, hb⟩
end Go.Proofs.YtnodhkjgnegkcaaGreatDoor

/-
  Worlds that grow by one row: what is kept.
-/
namespace Go.Proofs.YtnodhkjgnegkcaaGreatDoor
open Go.RowKit

theorem gr_trans {w w1 w2 : World} {row : Option Nat} (h1 : w.grownBy w1 row) (h2 : w1.grownBy w2 row) : w.grownBy w2 row :=
  ⟨h2.os.trans h1.os, h2.tape.trans h1.tape, h2.output.trans h1.output, Nat.le_trans h1.size h2.size, fun k hk hn => (h2.block k (Nat.lt_of_lt_of_le hk h1.size) hn).trans (h1.block k hk hn)⟩
theorem gr_below {w w2 : World} {row : Option Nat} (hb : Below w.heap.size w w2) : w.grownBy w2 row := ⟨hb.os, hb.tape, hb.output, hb.size, fun k hk _ => hb.block k hk⟩
theorem gr_alloc (w : World) (o : Obj) (row : Option Nat) : w.grownBy (w.alloc o) row := gr_below ((Below.refl _ _).alloc (Nat.le_refl _) _)
theorem gr_set (w : World) (g k : Nat) (x : Value) : w.grownBy (w.setCell ⟨g, k, none⟩ x) (some g) := ⟨rfl, rfl, rfl, by simp, fun j _ hj => heap_setCell_other w ⟨g, k, none⟩ j x (fun e => hj (by simp [e]))⟩
theorem Strs.grown {w w' : World} {base : Nat} {v : Value} {l : List (List UInt8)} {row : Option Nat} (h : Strs w base v l) (hg : w.grownBy w' row) (hne : ∀ g, v.ownBlock = some g → some g ≠ row) : Strs w' base v l := by
  rcases h.form with ⟨rfl, rfl⟩ | ⟨g, cap, rfl, _, _⟩
  · exact ⟨by simp, .inl ⟨rfl, rfl⟩⟩
  · exact World.ownsRow.kept h hg (.inr (fun e => hne g rfl (by rw [← e]; rfl)))
theorem gr_heap {W V : World} {row : Option Nat} {B : Nat} {o : Obj} (hg : W.grownBy V row) (h : W.heap[B]? = some o) (hne : some B ≠ row) : V.heap[B]? = some o := (hg.block B (Array.getElem?_eq_some_iff.1 h).1 hne).trans h
theorem gr_belowN {W V : World} {row : Option Nat} {n : Nat} {w : World} (hb : Below n w W) (hg : W.grownBy V row) (hn : n ≤ W.heap.size) (hr : ∀ g, row = some g → n ≤ g) : Below n w V := hb.grown hg hn hr

end Go.Proofs.YtnodhkjgnegkcaaGreatDoor

/-
  impl.indexOf, a map from each pack's key to its index; impl.keysOk asks it.
-/
namespace Go.Proofs.YtnodhkjgnegkcaaGreatDoor
open Go.RowKit Go.Maps

/-- The map from keys to indexes, after k packs. -/
def idxD (ps : List Pk) : Nat → DataW Unit
  | 0 => .map []
  | k + 1 => (idxD ps k).put (.string (keyOf (ps.getD k default))) (.lit (.int .i64 (k : Int)))
theorem idxD_isMap (ps : List Pk) : ∀ k, Maps.IsMap (idxD ps k)
  | 0 => Maps.isMap_empty
  | k + 1 => (idxD_isMap ps k).put _ _
theorem has_idxD (ps : List Pk) (key : List UInt8) : ∀ k, Maps.has (idxD ps k) (.string key) = decide (∃ j, j < k ∧ keyOf (ps.getD j default) = key)
  | 0 => by
    rw [decide_eq_false (by rintro ⟨j, h, _⟩; omega)]; rfl
  | k + 1 => by
    unfold idxD
    by_cases h : keyOf (ps.getD k default) = key
    · rw [h, Maps.has_put_same (idxD_isMap ps k) (k := .string key) trivial, decide_eq_true ⟨k, by omega, h⟩]
    · rw [Maps.has_put_other (fun e => h (by cases e; rfl)), has_idxD ps key k]
      congr 1
      apply propext
      constructor
      · rintro ⟨j, hj, e⟩; exact ⟨j, by omega, e⟩
      · rintro ⟨j, hj, e⟩
        by_cases e2 : j = k
        · subst e2; exact absurd e h
        · exact ⟨j, by omega, e⟩
theorem has_all (ps : List Pk) (key : List UInt8) : Maps.has (idxD ps ps.length) (.string key) = decide (0 ≤ findP ps key) := by
  rw [has_idxD]
  congr 1
  apply propext
  rw [findP_mem, List.mem_map]
  constructor
  · rintro ⟨j, hj, e⟩; rw [ps_at hj] at e; exact ⟨ps[j], List.getElem_mem hj, e⟩
  · rintro ⟨p, hp, e⟩
    obtain ⟨j, hj, rfl⟩ := List.mem_iff_getElem.1 hp
    exact ⟨j, hj, by rw [ps_at hj]; exact e⟩
/-- Block B is the map from keys to indexes. -/
def IdxOf (w : World) (B : Nat) (ps : List Pk) : Prop := w.ownsMap Tryz.prog 9 (plainElem Tryz.prog 3) B ps.length (idxD ps ps.length)
theorem IdxOf.below {w w' : World} {B : Nat} {ps : List Pk} (h : IdxOf w B ps) (hb : Below w.heap.size w w') : IdxOf w' B ps := World.ownsMap.kept h (gr_below (row := none) hb) (by simp)
theorem strLaw : Keyed Tryz.prog 9 := string_keyed Tryz.underlying9
theorem zeroInt (w : World) : (zeroValue 3).run Tryz.prog w = .ok (.int .i64 0) w := by kernel_rfl
theorem mapMade (w : World) (n : Int) : (Instr.makeMap 95 (some (.int .i64 n))).run Tryz.prog w = .ok (.map (some w.heap.size)) (w.alloc (.map #[] 0)) := by
  simp [Instr.makeMap, run_underlying Tryz.underlying95, asInt, asIntOf, Result.andThen]

set_option maxRecDepth 100000 in
set_option maxHeartbeats 2000000 in
theorem indexOf_any (T : Option Addr) (tn tc : Nat) (vp : Value) (ps : List Pk) (w : World) (hp : RdPs w vp ps) (hs : SmPs ps) :
    Calls Tryz.prog 76 #[.agg #[.slice T tn tc, vp]] w fun e w' => ∃ B, e = .returned (.map (some B)) ∧ w.heap.size ≤ B ∧ IdxOf w' B ps ∧ Below w.heap.size w w' := by
  have HR := Lib.hid hp
  have HS := Lib.hid hs
  have hn : ps.length ≤ 1048576 := by unfold SmPs at hs; omega
  obtain ⟨A, ca, rfl, _⟩ := hp
  clear hs
  have hmm := mapMade
  have B0 : Below w.heap.size w ((w.alloc (.cells #[.slice T tn tc, .slice A ps.length ca] 37)).alloc (.map #[] 0)) := ((Below.refl _ _).alloc (Nat.le_refl _) _).alloc (by simp) _
  have M0 : ((w.alloc (.cells #[.slice T tn tc, .slice A ps.length ca] 37)).alloc (.map #[] 0)).ownsMap Tryz.prog 9 (plainElem (H := Unit) Tryz.prog 3) (w.heap.size + 1) 0 (idxD ps 0) := by
    have := World.ownsMap_made (H := Unit) (w.alloc (.cells #[.slice T tn tc, .slice A ps.length ca] 37)) Tryz.prog 9 (plainElem (H := Unit) Tryz.prog 3)
    have e : (w.alloc (.cells #[.slice T tn tc, .slice A ps.length ca] 37)).heap.size = w.heap.size + 1 := by simp
    rw [e] at this
    exact this
  have b0 := keepA (heap_alloc_new w (.cells #[.slice T tn tc, .slice A ps.length ca] 37)) (.map #[] 0)
  obtain ⟨x0, x1⟩ := cellsG b0
  go_enter Tryz.func76, Tryz.ntmps76
  go_wp2_with fail
  go_loopw [4, 5, 13] (fun _ _ i wr => ∃ k : Nat, k ≤ ps.length ∧ i = .int .i64 k ∧ wr.ownsMap Tryz.prog 9 (plainElem (H := Unit) Tryz.prog 3) (w.heap.size + 1) k (idxD ps k) ∧ Below w.heap.size w wr) (fun _ _ i _ => ps.length - (intOf i).toNat)
  case atStart => exact ⟨0, Nat.zero_le _, rfl, M0, B0⟩
  case round =>
    obtain ⟨k, hk, rfl, hM, hb⟩ := hrel
    clear B0 M0 b0 x0 x1
    by_cases hlt : k < ps.length
    · obtain ⟨g, off, rfl, hg, a, b, d0, d1, d2, d3, d4, d5, ra, rb⟩ := (HR.out.below hb).at k hlt
      have HC := Lib.hid (fun (W : World) (h : Below wr.heap.size wr W) => implKeyOf_any ps[k] a b W (ra.below h) (rb.below h) (HS.out.get k hlt))
      have HN : Hid (idxD ps (k + 1) = (idxD ps k).put (.string (keyOf ps[k])) (.lit (.int .i64 (k : Int)))) := Lib.hid (by rw [← ps_at hlt]; rfl)
      have hkl := SmPk.key (HS.out.get k hlt)
      obtain ⟨A1, c1, rfl⟩ := ra.slice
      obtain ⟨A2, c2, rfl⟩ := rb.slice
      have k0 : (0 : Int) ≤ (k : Int) := by omega
      have k1 : (k : Int) < (ps.length : Int) := by omega
      have Bp : Below wr.heap.size wr (wr.alloc (.cells #[.string ⟨ps[k].name.toArray⟩, .string ⟨ps[k].ver.toArray⟩, .string ⟨ps[k].src.toArray⟩, .slice A1 ps[k].sums.length c1, .bool ps[k].dev, .slice A2 ps[k].needs.length c2] 78)) := (Below.refl _ _).alloc (Nat.le_refl _) _
      have bp := heap_alloc_new wr (.cells #[.string ⟨ps[k].name.toArray⟩, .string ⟨ps[k].ver.toArray⟩, .string ⟨ps[k].src.toArray⟩, .slice A1 ps[k].sums.length c1, .bool ps[k].dev, .slice A2 ps[k].needs.length c2] 78)
      obtain ⟨y0, y1, y2, y3, y4, y5⟩ := cells6 bp
      have hMl := hM.lt
      clear ra rb
      obtain ⟨key, HKE⟩ : ∃ key, Hid (keyOf ps[k] = key) := ⟨_, Lib.hid rfl⟩
      rw [HKE.out] at HN hkl
      simp only [HKE.out] at HC
      have hkey : Go.keyOf Tryz.prog 9 (.string ⟨key.toArray⟩) = some (Lit.string key) := by
        have := WideMaps.keyOf_string_mk (P := Tryz.prog) Tryz.underlying9 (s := ⟨key.toArray⟩) (by show key.toArray.size ≤ maxLen; unfold maxLen; simp; omega)
        simpa using this
      go_wp2_with fail
      refine (HC.out _ Bp).mono ?_
      rintro e w1 ⟨rfl, hb1⟩
      have B1 := (hb.trans (Bp.mono hb.size)).trans (hb1.mono (Nat.le_trans hb.size Bp.size))
      have M1 : w1.ownsMap Tryz.prog 9 (plainElem (H := Unit) Tryz.prog 3) (w.heap.size + 1) k (idxD ps k) := (hM.kept (gr_below (row := none) Bp) (by simp)).kept (gr_below (row := none) hb1) (by simp)
      clear hM hb hb1 Bp bp y0 y1 y2 y3 y4 y5
      go_wp2_with (first | (at_mapUpdate; refine wpList_mapUpdate_own _ rfl _ _ _ 95 rfl 9 3 strLaw Tryz.underlying95 (plainElem (H := Unit) Tryz.prog 3) (w.heap.size + 1) k _ rfl M1 (by unfold maxLen; omega) _ _ _ rfl rfl hkey _ [] (plainElem_int Tryz.underlying3 (WalkArith.wf_i64 (by omega))) ?_; intro w2 M2 hg2) | go_in)
      have B2 := B1.grown hg2 B1.size (fun j hj => by cases hj; omega)
      rw [← HN.out] at M2
      go_roundw
      case rel => exact ⟨k + 1, by omega, by go_num, M2, B2⟩
      case measure => simp [intOf]; omega
    · obtain rfl : k = ps.length := by omega
      go_wp2_with fail
      go_ret
      exact ⟨_, rfl, by omega, hM, hb⟩

set_option maxRecDepth 100000 in
set_option maxHeartbeats 2000000 in
theorem keysOk_any (vl : Value) (ls : List (List UInt8)) (B : Nat) (ps : List Pk) (w : World) (hl : RdS w vl ls) (hll : ls.length ≤ 1048576) (hm : ∀ l ∈ ls, l.length ≤ 1048576) (hi : IdxOf w B ps) :
    Calls Tryz.prog 108 #[vl, .map (some B)] w fun e w' => e = .returned (.bool (keysOkL ps ls)) ∧ Below w.heap.size w w' := by
  have HR := Lib.hid hl
  have HI := Lib.hid hi
  have HM := Lib.hid hm
  obtain ⟨A, ca, rfl, _⟩ := hl
  obtain ⟨r, HRR⟩ : ∃ r, Hid (keysOkL ps ls = r) := ⟨_, Lib.hid rfl⟩
  rw [HRR.out]
  clear hm hi
  go_enter Tryz.func108, Tryz.ntmps108
  go_wp2_with fail
  go_loopw [5, 6, 7, 8, 11] (fun _ _ _ _ i wr => ∃ k : Nat, k ≤ ls.length ∧ i = .int .i64 k ∧ Hid (allTo (keyAtB ps ls) k = true) ∧ Below w.heap.size w wr) (fun _ _ _ _ i _ => ls.length - (intOf i).toNat)
  case atStart => exact ⟨0, Nat.zero_le _, rfl, Lib.hid rfl, Below.refl _ _⟩
  case round =>
    obtain ⟨k, hk, rfl, HT, hb⟩ := hrel
    by_cases hlt : k < ls.length
    · obtain ⟨g, off, rfl, hg, hc⟩ := rdS_at (HR.out.below hb) k hlt
      have d1 := hc k hlt
      have hIw := HI.out.below hb
      have hcl := HM.out ls[k] (List.getElem_mem hlt)
      have k0 : (0 : Int) ≤ (k : Int) := by omega
      have k1 : (k : Int) < (ls.length : Int) := by omega
      have HQ := Lib.hid (fun (h : keyAtB ps ls k = false) => (show r = false by rw [← HRR.out]; exact allTo_bad hlt h))
      have HTT := Lib.hid (fun (h : keyAtB ps ls k = true) => allTo_step HT.out h)
      have HZ0 := Lib.hid (fun (h : k = 0) => (show keyAtB ps ls k = decide (0 ≤ findP ps ls[k]) by subst h; exact keyAtB_zero hlt))
      have HZ1 := Lib.hid (fun (j : Nat) (h : k = j + 1) => (show keyAtB ps ls k = (decide (0 ≤ findP ps ls[k]) && Op.bytesLess (ls[j]'(by omega)) ls[k]) by subst h; exact keyAtB_more hlt))
      have HHA := Lib.hid (has_all ps ls[k])
      obtain ⟨f, HFF⟩ : ∃ f, Hid (decide (0 ≤ findP ps ls[k]) = f) := ⟨_, Lib.hid rfl⟩
      simp only [HFF.out] at HHA HZ0 HZ1
      obtain ⟨cur, HCU⟩ : ∃ cur, Hid (ls[k] = cur) := ⟨_, Lib.hid rfl⟩
      simp only [HCU.out] at HHA HZ1 d1 hcl
      have hkey : Go.keyOf Tryz.prog 9 (.string ⟨cur.toArray⟩) = some (Lit.string cur) := by
        have := WideMaps.keyOf_string_mk (P := Tryz.prog) Tryz.underlying9 (s := ⟨cur.toArray⟩) (by show cur.toArray.size ≤ maxLen; unfold maxLen; simp; omega)
        simpa using this
      have hhas := HHA.out
      cases f with
      | false =>
        have HX : Hid (r = false) := Lib.hid (HQ.out (by
          by_cases hz : k = 0
          · exact HZ0.out hz
          · rw [HZ1.out (k - 1) (by omega)]; rfl))
        clear HQ HTT HZ0 HZ1 hc
        go_wp2_with (at_lookup; refine wpList_lookup_own_ok_int _ rfl _ _ 95 rfl 9 3 .i64 strLaw Tryz.underlying95 Tryz.underlying3 (zeroInt _) B ps.length _ rfl hIw _ _ rfl hkey ?_; intro c hat hwc; rw [hhas])
        go_wp2_with fail
        go_ret
        exact ⟨ret_bool HX.out.symm, hb⟩
      | true =>
        by_cases hz : k = 0
        · have HN2 := Lib.hid (HTT.out (HZ0.out hz))
          have g0 : ¬ (0 : Int) < (k : Int) := by omega
          have g1 : decide (0 < k) = false := by simp; omega
          clear hz HQ HTT HZ0 HZ1 hc
          go_wp2_with (at_lookup; refine wpList_lookup_own_ok_int _ rfl _ _ 95 rfl 9 3 .i64 strLaw Tryz.underlying95 Tryz.underlying3 (zeroInt _) B ps.length _ rfl hIw _ _ rfl hkey ?_; intro c hat hwc; rw [hhas])
          go_wp2_with fail
          go_roundw
          case rel => exact ⟨k + 1, by omega, by go_num, HN2, hb⟩
          case measure => simp [intOf]; omega
        · obtain ⟨j, hj⟩ : ∃ j, k = j + 1 := ⟨k - 1, by omega⟩
          have HZ2 := Lib.hid (HZ1.out j hj)
          have hjl : j < ls.length := by omega
          have e1 := hc j hjl
          have jw : IntKind.i64.wrap ((k : Int) - 1) = (j : Int) := by rw [show (k : Int) - 1 = (j : Int) by omega]; exact IntWalk.i64_in _ (by omega)
          have g0 : (0 : Int) < (k : Int) := by omega
          have g1 : decide (0 < k) = true := by simp; omega
          have j0 : (0 : Int) ≤ (j : Int) := by omega
          have j1 : (j : Int) < (ls.length : Int) := by omega
          obtain ⟨pr, HPR⟩ : ∃ pr, Hid (ls[j] = pr) := ⟨_, Lib.hid rfl⟩
          rw [HPR.out] at e1 HZ2
          cases hl : Op.bytesLess pr cur with
          | true =>
            have HN2 := Lib.hid (HTT.out (by rw [HZ2.out, hl]; rfl))
            clear hz HQ HTT HZ0 HZ1 HZ2 hc hj
            go_wp2_with (at_lookup; refine wpList_lookup_own_ok_int _ rfl _ _ 95 rfl 9 3 .i64 strLaw Tryz.underlying95 Tryz.underlying3 (zeroInt _) B ps.length _ rfl hIw _ _ rfl hkey ?_; intro c hat hwc; rw [hhas])
            go_wp2_with fail
            go_roundw
            case rel => exact ⟨k + 1, by omega, by go_num, HN2, hb⟩
            case measure => simp [intOf]; omega
          | false =>
            have HX := Lib.hid (HQ.out (by rw [HZ2.out, hl, Bool.and_false]))
            clear hz HQ HTT HZ0 HZ1 HZ2 hc hj
            go_wp2_with (at_lookup; refine wpList_lookup_own_ok_int _ rfl _ _ 95 rfl 9 3 .i64 strLaw Tryz.underlying95 Tryz.underlying3 (zeroInt _) B ps.length _ rfl hIw _ _ rfl hkey ?_; intro c hat hwc; rw [hhas])
            go_wp2_with fail
            go_ret
            exact ⟨ret_bool HX.out.symm, hb⟩
    · have HX : Hid (r = true) := Lib.hid (by rw [← HRR.out]; have := HT.out; rw [show k = ls.length by omega] at this; exact this)
      go_wp2_with fail
      go_ret
      exact ⟨ret_bool HX.out.symm, hb⟩
end Go.Proofs.YtnodhkjgnegkcaaGreatDoor

/-
  strings.Join and what it calls, as the library lays it, at this seat.
-/
namespace Go.Proofs
open Go.Shelf
def Tryz.laysJoin_ren : Go.Shelf.Ren := ⟨fun | 156 => 84 | 165 => 127 | 166 => 128 | 169 => 129 | 240 => 178 | 241 => 179 | 276 => 225 | 277 => 226 | n => n, fun | 31 => 29 | 9 => 9 | 3 => 3 | 4 => 4 | 0 => 0 | 20 => 20 | 72 => 154 | 76 => 157 | 70 => 152 | 37 => 145 | 75 => 156 | 127 => 205 | 164 => 240 | 5 => 5 | 80 => 159 | n => n, fun | n => n⟩
theorem Tryz.laysJoin : Go.Proofs.Lays.n156 Tryz.prog Tryz.laysJoin_ren := {
  mixed := by kernel_rfl
  f156 := Tryz.func84.trans (congrArg some (by kernel_rfl))
  f165 := Tryz.func127.trans (congrArg some (by kernel_rfl))
  f166 := Tryz.func128.trans (congrArg some (by kernel_rfl))
  f169 := Tryz.func129.trans (congrArg some (by kernel_rfl))
  f240 := Tryz.func178.trans (congrArg some (by kernel_rfl))
  f241 := Tryz.func179.trans (congrArg some (by kernel_rfl))
  f276 := Tryz.func225.trans (congrArg some (by kernel_rfl))
  f277 := Tryz.func226.trans (congrArg some (by kernel_rfl))
  t0 := Tryz.underlying0
  a0 := Tryz.isAgg0
  z0 := Tryz.sizeOf0
  v0 := Tryz.zeroValue0
  t3 := Tryz.underlying3
  a3 := Tryz.isAgg3
  z3 := Tryz.sizeOf3
  v3 := Tryz.zeroValue3
  t4 := Tryz.underlying4
  a4 := Tryz.isAgg4
  z4 := Tryz.sizeOf4
  v4 := Tryz.zeroValue4
  t9 := Tryz.underlying9
  a9 := Tryz.isAgg9
  z9 := Tryz.sizeOf9
  v9 := Tryz.zeroValue9
  t20 := Tryz.underlying20
  a20 := Tryz.isAgg20
  z20 := Tryz.sizeOf20
  v20 := Tryz.zeroValue20
  t31 := Tryz.underlying29
  a31 := Tryz.isAgg29
  z31 := Tryz.sizeOf29
  v31 := Tryz.zeroValue29
  t37 := Tryz.underlying145
  a37 := Tryz.isAgg145
  z37 := Tryz.sizeOf145
  v37 := Tryz.zeroValue145
  t70 := Tryz.underlying152
  a70 := Tryz.isAgg152
  z70 := Tryz.sizeOf152
  v70 := Tryz.zeroValue152
  t72 := Tryz.underlying154
  a72 := Tryz.isAgg154
  z72 := Tryz.sizeOf154
  v72 := Tryz.zeroValue154
  t75 := Tryz.underlying156
  a75 := Tryz.isAgg156
  z75 := Tryz.sizeOf156
  v75 := Tryz.zeroValue156
  t76 := Tryz.underlying157
  a76 := Tryz.isAgg157
  z76 := Tryz.sizeOf157
  v76 := Tryz.zeroValue157
  t127 := Tryz.underlying205
  a127 := Tryz.isAgg205
  z127 := Tryz.sizeOf205
  v127 := Tryz.zeroValue205
  t164 := Tryz.underlying240
  a164 := Tryz.isAgg240
  z164 := Tryz.sizeOf240
  v164 := Tryz.zeroValue240 }
end Go.Proofs

/-
  strings.Join of a list of texts at a dot.
-/
namespace Go.Proofs
open Go.Shelf
theorem Tryz.extraJoin : Builder.Extra Tryz.prog Tryz.laysJoin_ren where
  sizeBuilder := by kernel_rfl
  liesBuilder := by kernel_rfl
  t5 := Tryz.underlying5
  a5 := Tryz.isAgg5
  z5 := Tryz.sizeOf5
  v5 := Tryz.zeroValue5
  infoByte := by kernel_rfl
  cellsByte := by kernel_rfl
  sizeByte := by kernel_rfl
  neB5 := by decide
namespace YtnodhkjgnegkcaaGreatDoor
open Go.RowKit

theorem inter_flat (x : List UInt8) : ∀ xs : List (List UInt8), Lib.join (x :: xs) [46] = x ++ xs.flatMap (fun y => 46 :: y)
  | [] => by simp [Lib.join, List.intercalate]
  | y :: ys => by
    have := inter_flat y ys
    unfold Lib.join at this ⊢
    simp [List.intercalate] at this ⊢
    rw [this]
theorem join_pre {ls : List (List UInt8)} (h : ls ≠ []) : preText ls = 45 :: Lib.join ls [46] := by
  cases ls with
  | nil => exact absurd rfl h
  | cons x xs => rw [inter_flat]; rfl
theorem flat_len (ls : List (List UInt8)) (h : ∀ l ∈ ls, l.length ≤ 20) : (ls.flatMap (fun y => (46 : UInt8) :: y)).length ≤ 21 * ls.length := by
  induction ls with
  | nil => simp
  | cons x xs ih =>
    have := ih (fun l hl => h l (by simp [hl]))
    have := h x (by simp)
    simp only [List.flatMap_cons, List.length_append, List.length_cons]
    omega
theorem join_len {ls : List (List UInt8)} (h : ∀ l ∈ ls, l.length ≤ 20) (h5 : ls.length ≤ 5) : (Lib.join ls [46]).length ≤ 200 := by
  cases ls with
  | nil => simp [Lib.join_nil]
  | cons x xs =>
    rw [inter_flat]
    have := flat_len xs (fun l hl => h l (by simp [hl]))
    have := h x (by simp)
    simp at h5
    rw [List.length_append]
    omega

theorem joinDot_any (w : World) (base g cap : Nat) (ls : List (List UInt8)) (h : Strs w base (.slice (some ⟨g, 0, none⟩) ls.length cap) ls) (h20 : ∀ l ∈ ls, l.length ≤ 20) (h5 : ls.length ≤ 5) :
    Calls Tryz.prog 84 #[.slice (some ⟨g, 0, none⟩) ls.length cap, .string ⟨#[46]⟩] w fun e w' => e = .returned (.string ⟨(Lib.join ls [46]).toArray⟩) ∧ Below w.heap.size w w' := by
  obtain ⟨hlen, hr⟩ := h
  have hS : Strs w base (.slice (some ⟨g, 0, none⟩) ls.length cap) ls := ⟨hlen, hr⟩
  have hcap : ls.length ≤ cap := by
    rcases hr with ⟨hv, _⟩ | ⟨g', cap', cur, hv, _, _, hc, _⟩
    · cases hv
    · simp only [Value.slice.injEq] at hv; omega
  have hg : g < w.heap.size := by
    rcases hS.form with ⟨h', _⟩ | ⟨g', cap', h', _, hg'⟩
    · cases h'
    · simp only [Value.slice.injEq, Option.some.injEq, Addr.mk.injEq, and_true] at h'
      rw [h'.1]; exact hg'
  have hm : (ls.map (fun l => (⟨l.toArray⟩ : ByteArray))).map (fun x => x.data.toList) = ls := by rw [List.map_map]; exact List.map_id'' (fun l => rfl) ls
  have hJ := Any.strings_Join Tryz.laysJoin Tryz.extraJoin g 0 cap (ls.map (fun l => (⟨l.toArray⟩ : ByteArray))) ⟨#[46]⟩ w (fun j x hx => by
      rw [List.getElem?_map] at hx
      cases hj : ls[j]? with
      | none => rw [hj] at hx; simp at hx
      | some y =>
        rw [hj] at hx
        simp at hx
        subst hx
        obtain ⟨hl, rfl⟩ := List.getElem?_eq_some_iff.1 hj
        rw [Nat.zero_add]
        exact hS.cell j hl) hg (by simp; omega) (by simpa using hcap) (by rw [hm]; have := join_len h20 h5; show (Lib.join ls [46]).length ≤ _; omega)
  rw [hm] at hJ
  have e : (ls.map (fun l => (⟨l.toArray⟩ : ByteArray))).length = ls.length := by simp
  rw [e] at hJ
  exact hJ
end YtnodhkjgnegkcaaGreatDoor
end Go.Proofs

/-
  strconv.Itoa and what it calls, as the library lays it, at this seat.
-/
namespace Go.Proofs
open Go.Shelf
def Tryz.laysItoa_ren : Go.Shelf.Ren := ⟨fun | 171 => 297 | 243 => 308 | 246 => 311 | 283 => 312 | 284 => 313 | 285 => 314 | 286 => 315 | 129 => 176 | 317 => 316 | 318 => 317 | 319 => 318 | 320 => 319 | 337 => 320 | 338 => 321 | n => n, fun | 3 => 3 | 9 => 9 | 2 => 2 | 4 => 4 | 171 => 299 | 0 => 0 | 53 => 204 | 37 => 145 | 5 => 5 | 173 => 301 | 212 => 304 | 51 => 202 | 20 => 20 | 213 => 305 | 46 => 148 | 232 => 306 | 233 => 307 | n => n, fun | 17 => 3 | 18 => 4 | 19 => 5 | n => n⟩
theorem Tryz.laysItoa : Go.Proofs.LaysM.n171 Tryz.prog Tryz.laysItoa_ren := {
  mixed := by kernel_rfl
  f129 := Tryz.func176.trans (congrArg some (by kernel_rfl))
  f171 := Tryz.func297.trans (congrArg some (by kernel_rfl))
  f243 := Tryz.func308.trans (congrArg some (by kernel_rfl))
  f246 := Tryz.func311.trans (congrArg some (by kernel_rfl))
  f283 := Tryz.func312.trans (congrArg some (by kernel_rfl))
  f284 := Tryz.func313.trans (congrArg some (by kernel_rfl))
  f285 := Tryz.func314.trans (congrArg some (by kernel_rfl))
  f286 := Tryz.func315.trans (congrArg some (by kernel_rfl))
  f317 := Tryz.func316.trans (congrArg some (by kernel_rfl))
  f318 := Tryz.func317.trans (congrArg some (by kernel_rfl))
  f319 := Tryz.func318.trans (congrArg some (by kernel_rfl))
  f320 := Tryz.func319.trans (congrArg some (by kernel_rfl))
  f337 := Tryz.func320.trans (congrArg some (by kernel_rfl))
  f338 := Tryz.func321.trans (congrArg some (by kernel_rfl))
  t0 := Tryz.underlying0
  a0 := Tryz.isAgg0
  z0 := Tryz.sizeOf0
  v0 := Tryz.zeroValue0
  t2 := Tryz.underlying2
  a2 := Tryz.isAgg2
  z2 := Tryz.sizeOf2
  v2 := Tryz.zeroValue2
  t3 := Tryz.underlying3
  a3 := Tryz.isAgg3
  z3 := Tryz.sizeOf3
  v3 := Tryz.zeroValue3
  t4 := Tryz.underlying4
  a4 := Tryz.isAgg4
  z4 := Tryz.sizeOf4
  v4 := Tryz.zeroValue4
  t5 := Tryz.underlying5
  a5 := Tryz.isAgg5
  z5 := Tryz.sizeOf5
  v5 := Tryz.zeroValue5
  t9 := Tryz.underlying9
  a9 := Tryz.isAgg9
  z9 := Tryz.sizeOf9
  v9 := Tryz.zeroValue9
  t20 := Tryz.underlying20
  a20 := Tryz.isAgg20
  z20 := Tryz.sizeOf20
  v20 := Tryz.zeroValue20
  t37 := Tryz.underlying145
  a37 := Tryz.isAgg145
  z37 := Tryz.sizeOf145
  v37 := Tryz.zeroValue145
  t46 := Tryz.underlying148
  a46 := Tryz.isAgg148
  z46 := Tryz.sizeOf148
  v46 := Tryz.zeroValue148
  t51 := Tryz.underlying202
  a51 := Tryz.isAgg202
  z51 := Tryz.sizeOf202
  v51 := Tryz.zeroValue202
  t53 := Tryz.underlying204
  a53 := Tryz.isAgg204
  z53 := Tryz.sizeOf204
  v53 := Tryz.zeroValue204
  t171 := Tryz.underlying299
  a171 := Tryz.isAgg299
  z171 := Tryz.sizeOf299
  v171 := Tryz.zeroValue299
  t173 := Tryz.underlying301
  a173 := Tryz.isAgg301
  z173 := Tryz.sizeOf301
  v173 := Tryz.zeroValue301
  t212 := Tryz.underlying304
  a212 := Tryz.isAgg304
  z212 := Tryz.sizeOf304
  v212 := Tryz.zeroValue304
  t213 := Tryz.underlying305
  a213 := Tryz.isAgg305
  z213 := Tryz.sizeOf305
  t232 := Tryz.underlying306
  a232 := Tryz.isAgg306
  z232 := Tryz.sizeOf306
  v232 := Tryz.zeroValue306
  t233 := Tryz.underlying307
  a233 := Tryz.isAgg307
  z233 := Tryz.sizeOf307
  v233 := Tryz.zeroValue307
  g17 := by kernel_rfl
  g18 := by kernel_rfl
  g19 := by kernel_rfl
  i0 := by kernel_rfl
  i2 := by kernel_rfl
  i3 := by kernel_rfl
  i4 := by kernel_rfl
  i5 := by kernel_rfl
  i9 := by kernel_rfl
  i20 := by kernel_rfl
  i37 := by kernel_rfl
  i46 := by kernel_rfl
  i51 := by kernel_rfl
  i53 := by kernel_rfl
  i171 := by kernel_rfl
  i173 := by kernel_rfl
  i212 := by kernel_rfl
  i232 := by kernel_rfl
  i233 := by kernel_rfl
  m17 := by kernel_rfl
  m18 := by kernel_rfl
  m19 := by kernel_rfl }
end Go.Proofs

/-
  impl.DecText returns the decimal text of every int, where the table of powers lies as the library lays it.
-/
namespace Go.Proofs.YtnodhkjgnegkcaaGreatDoor
open Go.RowKit

theorem itoa_any (n : Int) (h0 : -9223372036854775808 ≤ n) (h1 : n ≤ 9223372036854775807) (w : World) (htab : Lib.TabIs Tryz.prog w "internal/strconv.uint64pow10" .u64 Lib.pow10Tab) :
    Calls Tryz.prog 297 #[.int .i64 n] w fun e w' => e = .returned (.string ⟨(Lib.itoa n).toArray⟩) ∧ Below w.heap.size w w' := by
  refine (Any.strconv_Itoa Tryz.laysItoa n h0 h1 w htab).mono ?_
  rintro e w' ⟨rfl, k, os, rfl⟩
  exact ⟨rfl, Lib.below_grow _ w (Nat.le_refl _) k os⟩
theorem implDecText_any (n : Int) (h0 : -9223372036854775808 ≤ n) (h1 : n ≤ 9223372036854775807) (w : World) (htab : Lib.TabIs Tryz.prog w "internal/strconv.uint64pow10" .u64 Lib.pow10Tab) :
    Calls Tryz.prog 284 #[.int .i64 n] w fun e w' => e = .returned (.string ⟨(Lib.itoa n).toArray⟩) ∧ Below w.heap.size w w' := by
  go_enter Tryz.func284, Tryz.ntmps284
  go_wp2_with fail
  refine (itoa_any n h0 h1 w htab).mono ?_
  rintro e w1 ⟨rfl, hb⟩
  go_wp2_with fail
  go_ret
  exact ⟨rfl, hb⟩
end Go.Proofs.YtnodhkjgnegkcaaGreatDoor

namespace Go.Proofs.YtnodhkjgnegkcaaGreatDoor
open Go.RowKit

/-- The table of powers lies as the library lays it. -/
abbrev Tab (w : World) : Prop := Lib.TabIs Tryz.prog w "internal/strconv.uint64pow10" .u64 Lib.pow10Tab
theorem tab_below {w w' : World} (h : Tab w) (hb : Below w.heap.size w w') : Tab w' := by
  unfold Tab Lib.TabIs World.var? at h ⊢
  have hg : Tryz.prog.globalNamed "internal/strconv.uint64pow10" = some 3 := by kernel_rfl
  simp only [hg, Option.bind_some] at h ⊢
  have hlt : 3 < w.heap.size := by
    rcases Nat.lt_or_ge 3 w.heap.size with h' | h'
    · exact h'
    · rw [Array.getElem?_eq_none h'] at h; simp at h
  rw [hb.block _ hlt]
  exact h
/-- Three cells and the table, in a later world. -/
theorem keepT {W V : World} {A : Nat} {v0 v1 v2 : Value} (hb : Below W.heap.size W V) (h : W.cell? ⟨A, 0, none⟩ = some v0 ∧ W.cell? ⟨A, 1, none⟩ = some v1 ∧ W.cell? ⟨A, 2, none⟩ = some v2 ∧ Tab W) : V.cell? ⟨A, 0, none⟩ = some v0 ∧ V.cell? ⟨A, 1, none⟩ = some v1 ∧ V.cell? ⟨A, 2, none⟩ = some v2 ∧ Tab V :=
  ⟨keepC hb h.1, keepC hb h.2.1, keepC hb h.2.2.1, tab_below h.2.2.2 hb⟩

set_option maxRecDepth 100000 in
set_option maxHeartbeats 4000000 in
theorem implVersionText_any (a b c : Int) (base : Nat) (v : Value) (ls : List (List UInt8)) (w : World) (hr : Strs w base v ls) (hs : Sm ls) (ht : Tab w) :
    Calls Tryz.prog 253 #[.agg #[.int .i64 a, .int .i64 b, .int .i64 c, v]] w fun e w' => e = .returned (.string ⟨(verText a b c ls).toArray⟩) ∧ Below w.heap.size w w' := by
  have HV := Lib.hid (fun (W : World) (h : Below w.heap.size w W) => implVersionOk_any a b c v ls W ((RdS.of_strs hr).below h) hs)
  have B1 : Below w.heap.size w (w.alloc (.cells #[.int .i64 a, .int .i64 b, .int .i64 c, v] 117)) := (Below.refl _ _).alloc (Nat.le_refl _) _
  have hA1 := heap_alloc_new w (.cells #[.int .i64 a, .int .i64 b, .int .i64 c, v] 117)
  have HSS := Lib.hid (fun (W : World) (h : Below w.heap.size w W) => hr.below h)
  have HTT := Lib.hid (fun (W : World) (h : Below w.heap.size w W) => tab_below ht h)
  obtain ⟨ok, HO⟩ : ∃ ok, Hid (verOk a b c ls = ok) := ⟨_, Lib.hid rfl⟩
  have hl := hs.1
  have hform := hr.form
  clear hr hs ht
  cases ok
  · have HT : Hid (verText a b c ls = []) := Lib.hid (by unfold verText; rw [HO.out]; rfl)
    go_enter Tryz.func253, Tryz.ntmps253
    go_wp2_with fail
    refine (HV.out _ B1).mono ?_
    rw [HO.out]
    rintro e w2 ⟨rfl, hb2⟩
    have B2 := B1.trans (hb2.mono B1.size)
    go_wp2_with fail
    go_ret
    exact ⟨ret_str HT.out.symm, B2⟩
  · obtain ⟨⟨a0, a1⟩, ⟨b0, b1⟩, ⟨c0, c1⟩, h5⟩ := verOk_num HO.out
    have HLE := Lib.hid (verOk_len HO.out)
    have la := dec_len a0 a1
    have lb := dec_len b0 b1
    have lc := dec_len c0 c1
    have HT : Hid (verText a b c ls = nums a b c ++ preText ls) := Lib.hid (by unfold verText; rw [HO.out]; rfl)
    go_enter Tryz.func253, Tryz.ntmps253
    go_wp2_with fail
    refine (HV.out _ B1).mono ?_
    rw [HO.out]
    rintro e w2 ⟨rfl, hb2⟩
    have B2 := B1.trans (hb2.mono B1.size)
    have hA2 := keepB hA1 hb2
    clear hA1 hb2 B1
    obtain ⟨p0, p1, p2, p3⟩ := cells4 hA2
    have tb : Tab w2.drew := HTT.out _ (B2.trans (below_drew _ _))
    obtain ⟨Da, HDa⟩ : ∃ D, Hid (dec a = D) := ⟨_, Lib.hid rfl⟩
    obtain ⟨Db, HDb⟩ : ∃ D, Hid (dec b = D) := ⟨_, Lib.hid rfl⟩
    obtain ⟨Dc, HDc⟩ : ∃ D, Hid (dec c = D) := ⟨_, Lib.hid rfl⟩
    rw [HDa.out] at la
    rw [HDb.out] at lb
    rw [HDc.out] at lc
    obtain ⟨N1, HN1⟩ : ∃ N, Hid (N = Da ++ [46]) := ⟨_, Lib.hid rfl⟩
    obtain ⟨N2, HN2⟩ : ∃ N, Hid (N = N1 ++ Db) := ⟨_, Lib.hid rfl⟩
    obtain ⟨N3, HN3⟩ : ∃ N, Hid (N = N2 ++ [46]) := ⟨_, Lib.hid rfl⟩
    obtain ⟨N4, HN4⟩ : ∃ N, Hid (N = N3 ++ Dc) := ⟨_, Lib.hid rfl⟩
    have l1 : N1.length ≤ 21 := by rw [HN1.out]; simp; omega
    have l2 : N2.length ≤ 41 := by rw [HN2.out]; simp; omega
    have l3 : N3.length ≤ 42 := by rw [HN3.out]; simp; omega
    have l4 : N4.length ≤ 62 := by rw [HN4.out]; simp; omega
    have HNN : Hid (nums a b c = N4) := Lib.hid (by rw [HN4.out, HN3.out, HN2.out, HN1.out]; unfold nums; rw [HDa.out, HDb.out, HDc.out])
    have s1 : ∀ W, (Op.stringOp .add ⟨Da.toArray⟩ ⟨#[46]⟩).run Tryz.prog W = .ok (.string ⟨N1.toArray⟩) W := fun W => by rw [HN1.out]; exact run_string_add_lists W Da [46] (by omega) (by simp)
    have s2 : ∀ W, (Op.stringOp .add ⟨N1.toArray⟩ ⟨Db.toArray⟩).run Tryz.prog W = .ok (.string ⟨N2.toArray⟩) W := fun W => by rw [HN2.out]; exact run_string_add_lists W N1 Db (by omega) (by omega)
    have s3 : ∀ W, (Op.stringOp .add ⟨N2.toArray⟩ ⟨#[46]⟩).run Tryz.prog W = .ok (.string ⟨N3.toArray⟩) W := fun W => by rw [HN3.out]; exact run_string_add_lists W N2 [46] (by omega) (by simp)
    have s4 : ∀ W, (Op.stringOp .add ⟨N3.toArray⟩ ⟨Dc.toArray⟩).run Tryz.prog W = .ok (.string ⟨N4.toArray⟩) W := fun W => by rw [HN4.out]; exact run_string_add_lists W N3 Dc (by omega) (by omega)
    have HDT1 := Lib.hid (fun (W : World) (ht : Tab W) => (show Calls Tryz.prog 284 #[.int .i64 a] W fun e w' => e = .returned (.string ⟨Da.toArray⟩) ∧ Below W.heap.size W w' from HDa.out ▸ implDecText_any a (by omega) (by omega) W ht))
    have HDT2 := Lib.hid (fun (W : World) (ht : Tab W) => (show Calls Tryz.prog 284 #[.int .i64 b] W fun e w' => e = .returned (.string ⟨Db.toArray⟩) ∧ Below W.heap.size W w' from HDb.out ▸ implDecText_any b (by omega) (by omega) W ht))
    have HDT3 := Lib.hid (fun (W : World) (ht : Tab W) => (show Calls Tryz.prog 284 #[.int .i64 c] W fun e w' => e = .returned (.string ⟨Dc.toArray⟩) ∧ Below W.heap.size W w' from HDc.out ▸ implDecText_any c (by omega) (by omega) W ht))
    go_wp2_with fail
    go_region_held3 (fun W' => W'.cell? ⟨w.heap.size, 0, none⟩ = some (.int .i64 a) ∧ W'.cell? ⟨w.heap.size, 1, none⟩ = some (.int .i64 b) ∧ W'.cell? ⟨w.heap.size, 2, none⟩ = some (.int .i64 c) ∧ Tab W') (first | exact ⟨p0, p1, p2, tb⟩ | assumption | exact keepT hb5 (by assumption) | exact keepT hb4 (by assumption) | exact keepT hb3 (by assumption)) ((first | (go_at_call 284; (with_reducible refine (HDT1.out _ (by exact tb)).mono ?_); rintro e w3 ⟨rfl, hb3⟩; have tb3 := tab_below tb hb3) | (go_at_call 284; (with_reducible refine (HDT2.out _ (by exact tb3)).mono ?_); rintro e w4 ⟨rfl, hb4⟩; have tb4 := tab_below tb3 hb4) | (go_at_call 284; (with_reducible refine (HDT3.out _ (by exact tb4)).mono ?_); rintro e w5 ⟨rfl, hb5⟩)))
    have hA5 := keepB (keepB (keepB (W := w2.drew) hA2 hb3) hb4) hb5
    have BD := B2.trans (below_drew w.heap.size w2)
    have B3 := BD.trans (hb3.mono BD.size)
    have B4 := B3.trans (hb4.mono B3.size)
    have B5 := B4.trans (hb5.mono B4.size)
    clear hA2 p0 p1 p2 p3 hb3 hb4 hb5 BD B3 B4 tb tb3 tb4 s1 s2 s3 s4 B2
    obtain ⟨p0, p1, p2, p3⟩ := cells4 hA5
    rcases hform with ⟨rfl, rfl⟩ | ⟨g, cap, rfl, hgb, hgl⟩
    · have HE : Hid (verText a b c [] = N4) := Lib.hid (by rw [HT.out, HNN.out]; simp [preText])
      go_wp2_with fail
      go_ret
      exact ⟨ret_str HE.out.symm, B5⟩
    · by_cases h0 : ls = []
      · have HE : Hid (verText a b c ls = N4) := Lib.hid (by rw [HT.out, HNN.out, h0]; simp [preText])
        have z0 : ¬ (0 : Int) < (ls.length : Int) := by rw [h0]; simp
        clear h0
        go_wp2_with fail
        go_ret
        exact ⟨ret_str HE.out.symm, B5⟩
      · have hpos : (0 : Int) < (ls.length : Int) := by have : 0 < ls.length := by cases ls <;> simp_all
                                                        omega
        have HE : Hid (verText a b c ls = N4 ++ (45 :: Lib.join ls [46])) := Lib.hid (by rw [HT.out, HNN.out, join_pre h0])
        have hjl := join_len HLE.out h5
        clear h0
        obtain ⟨J, HJ⟩ : ∃ J, Hid (Lib.join ls [46] = J) := ⟨_, Lib.hid rfl⟩
        rw [HJ.out] at hjl
        go_wp2_with fail
        refine (joinDot_any w5 base g cap ls (HSS.out _ B5) HLE.out h5).mono ?_
        rw [HJ.out]
        rintro e w6 ⟨rfl, hb6⟩
        have B6 := B5.trans (hb6.mono B5.size)
        go_wp2_with fail
        go_ret
        refine ⟨?_, B6⟩
        rw [HE.out, HJ.out]
        exact congrArg Ending.returned (congrArg Value.string (bytes_ext (by simp)))
end Go.Proofs.YtnodhkjgnegkcaaGreatDoor
