/-
  Whether a bound takes a version: spec.l03Takes.
-/
import Derived.Test.YtnodhkjgnegkcaaGreatDoorWholeD
import Derived.Deep.RegionWith
import Derived.Test.YtnodhkjgnegkcaaGreatDoorWholeA
import Derived.Test.YtnodhkjgnegkcaaGreatDoorRows
import Derived.Test.YtnodhkjgnegkcaaGreatDoorBase
import Derived.Test.YtnodhkjgnegkcaaGreatDoorCmpM
import Derived.Test.YtnodhkjgnegkcaaGreatDoorRdM
import Derived.Sort.Walk0
import Derived.Test.YtnodhkjgnegkcaaGreatDoorEnM
import Derived.Test.YtnodhkjgnegkcaaGreatDoorNdEq
import Derived.Deep.QuietTactic
import Derived.BigQuiet
import Derived.Test.YtnodhkjgnegkcaaGreatDoorWholeC
/-
  The laws' own helpers on graphs: szGraph, toGraph, eqGraph.
-/
namespace Go.Proofs.YtnodhkjgnegkcaaGreatDoor
open Go.RowKit

/-- How much is in a graph. -/
def szG (left : Int) (ts : List (List UInt8)) (ps : List Pk) : Int := if szI left ts < 0 then -1 else szPs (szI left ts) ps
/-- A small graph. -/
def SmG (ts : List (List UInt8)) (ps : List Pk) : Prop := ts.length + smL ts ≤ 1048576 ∧ SmPs ps
theorem szG_good {ts : List (List UInt8)} {ps : List Pk} {left : Int} (hl : left ≤ 1048576) (h0 : 0 ≤ left) (h : ¬ szG left ts ps < 0) : SmG ts ps ∧ szG left ts ps ≤ 1048576 := by
  unfold szG at h ⊢
  split at h
  · omega
  · rename_i h'
    rw [if_neg h']
    unfold szI at h' h ⊢
    split at h'
    · rename_i h1
      rw [if_pos h1] at h ⊢
      unfold szPs at h ⊢
      split at h
      · rename_i h2
        rw [if_pos h2]
        exact ⟨⟨by omega, by unfold SmPs; omega⟩, by omega⟩
      · omega
    · omega


set_option maxRecDepth 100000 in
set_option maxHeartbeats 2000000 in
theorem szGraph_any (vt vp : Value) (ts : List (List UInt8)) (ps : List Pk) (left : Int) (w : World) (ht : RdS w vt ts) (hp : RdPs w vp ps) (h0 : 0 ≤ left) (h1 : left ≤ 1048576) (nt : ts.length ≤ maxLen) (mt : ∀ l ∈ ts, l.length ≤ maxLen) (np : ps.length ≤ maxLen) (mp : ∀ p ∈ ps, PkFits p) :
    Calls Tryz.prog 16 #[.agg #[vt, vp], .int .i64 left] w fun e w' => e = .returned (.int .i64 (szG left ts ps)) ∧ Below w.heap.size w w' := by
  have HA := Lib.hid (fun (W : World) (h : Below w.heap.size w W) => szStringS_any vt ts left W (ht.below h) h0 h1 nt mt)
  have HB := Lib.hid (fun (W : World) (h : Below w.heap.size w W) (z : Int) (z0 : 0 ≤ z) (z1 : z ≤ 1048576) => szPackS_any vp ps z W (hp.below h) z0 z1 np mp)
  obtain ⟨A, ca, rfl⟩ := ht.slice
  obtain ⟨B, cb, rfl, _⟩ := hp
  have B0 : Below w.heap.size w (w.alloc (.cells #[.slice A ts.length ca, .slice B ps.length cb] 32)) := (Below.refl _ _).alloc (Nat.le_refl _) _
  clear ht
  obtain ⟨z, HZ⟩ : ∃ z, Hid (szI left ts = z) := ⟨_, Lib.hid rfl⟩
  by_cases q1 : z < 0
  · have HX : Hid (szG left ts ps = -1) := Lib.hid (by unfold szG; rw [HZ.out, if_pos q1])
    go_enter Tryz.func16, Tryz.ntmps16
    go_wp2_with fail
    refine (HA.out _ B0).mono ?_
    rw [HZ.out]
    rintro e w1 ⟨rfl, rfl⟩
    go_wp2_with fail
    go_ret
    exact ⟨ret_int HX.out.symm, B0⟩
  have hz : z ≤ 1048576 := by have := HZ.out; unfold szI at this; split at this <;> omega
  obtain ⟨u, HU⟩ : ∃ u, Hid (szPs z ps = u) := ⟨_, Lib.hid rfl⟩
  have HX : Hid (szG left ts ps = u) := Lib.hid (by unfold szG; rw [HZ.out, if_neg q1, HU.out])
  have hu : u = -1 ∨ 0 ≤ u := by have := HU.out; unfold szPs at this; split at this <;> omega
  rcases hu with rfl | hu
  all_goals
    go_enter Tryz.func16, Tryz.ntmps16
    go_wp2_with fail
    refine (HA.out _ B0).mono ?_
    rw [HZ.out]
    rintro e w1 ⟨rfl, rfl⟩
    go_wp2_with fail
    refine (HB.out _ B0 _ (by omega) (by omega)).mono ?_
    rw [HU.out]
    rintro e w2 ⟨rfl, hb2⟩
    have B2 := B0.trans (hb2.mono B0.size)
    go_wp2_with fail
    go_ret
    exact ⟨ret_int HX.out.symm, B2⟩

/-- A graph of the call's own: its texts and its packs. -/
def GrOwn (w : World) (base : Nat) (a b : Value) (ts : List (List UInt8)) (ps : List Pk) : Prop := Strs w base a ts ∧ PksOwn w base b ps
theorem GrOwn.below {w w' : World} {base : Nat} {a b : Value} {ts : List (List UInt8)} {ps : List Pk} (h : GrOwn w base a b ts ps) (hb : Below w.heap.size w w') : GrOwn w' base a b ts ps := ⟨h.1.below hb, h.2.below hb⟩
theorem Strs.kept {w w' : World} {base : Nat} {v : Value} {l : List (List UInt8)} (h : Strs w base v l) (b o : Nat) (x : Value) (hb : b < base) (e : w' = w.setCell ⟨b, o, none⟩ x) : Strs w' base v l := by subst e; exact h.otherV b o x hb
theorem PksOwn.other {w : World} {base : Nat} {v : Value} {ps : List Pk} (h : PksOwn w base v ps) (b o : Nat) (x : Value) (hb : b < base) : PksOwn (w.setCell ⟨b, o, none⟩ x) base v ps := by
  obtain ⟨G, cap, qs, hv, h1, h2, h3, h4, h5⟩ := h
  refine ⟨G, cap, qs, hv, h1, by simpa using h2, h3, ?_, fun q hq => (h5 q hq).other b o x (by omega)⟩
  exact World.ownsRow.kept h4 (row := some b) ⟨rfl, rfl, rfl, by simp, fun k _ hk => heap_setCell_other w ⟨b, o, none⟩ k x (fun e => hk (by simp [e]))⟩ (by right; simp [Value.ownBlock]; omega)
theorem PksOwn.weaken {w : World} {base base' : Nat} {v : Value} {ps : List Pk} (h : PksOwn w base v ps) (hb : base' ≤ base) : PksOwn w base' v ps := by
  obtain ⟨G, cap, qs, hv, h1, h2, h3, h4, h5⟩ := h
  refine ⟨G, cap, qs, hv, by omega, h2, h3, ?_, h5⟩
  refine ⟨h4.1, ?_⟩
  rcases h4.2 with h | ⟨g, cap, cur, hv, hg, hh, hr⟩
  · exact .inl h
  · exact .inr ⟨g, cap, cur, hv, Nat.le_trans hb hg, hh, hr⟩

set_option maxRecDepth 100000 in
set_option maxHeartbeats 2000000 in
theorem toGraph_any (vt vp : Value) (ts : List (List UInt8)) (ps : List Pk) (w : World) (ht : RdS w vt ts) (hp : RdPs w vp ps) (hs : SmG ts ps) :
    Calls Tryz.prog 18 #[.agg #[vt, vp]] w fun e w' => ∃ A c B d, e = .returned (.agg #[.slice A ts.length c, .slice B ps.length d]) ∧ GrOwn w' w.heap.size (.slice A ts.length c) (.slice B ps.length d) ts ps ∧ Below w.heap.size w w' := by
  have HA := Lib.hid (fun (W : World) (h : Below w.heap.size w W) => toStringS_any vt ts W (ht.below h) (by have := hs.1; omega))
  have HB := Lib.hid (fun (W : World) (h : Below w.heap.size w W) => toPackS_any vp ps W (hp.below h) hs.2)
  obtain ⟨A, ca, rfl⟩ := ht.slice
  obtain ⟨B, cb, rfl, _⟩ := hp
  clear ht
  go_enter Tryz.func18, Tryz.ntmps18
  go_wp2_with fail
  refine (HA.out _ ?_).mono ?_
  · exact (((Below.refl _ _).alloc (Nat.le_refl _) _).alloc (by simp) _).alloc (by simp; omega) _
  rintro e w1 ⟨g1, c1, rfl, hS1, hb1⟩
  have b0 := keepB (keepA (keepA (heap_alloc_new w _) _) _) hb1
  have b1 := keepB (keepA (heap_new (n := w.heap.size + 1) (by simp) _) _) hb1
  have b2 := keepB (heap_new (n := w.heap.size + 1 + 1) (by simp) _) hb1
  have B1 : Below w.heap.size w w1 := ((((Below.refl _ w).alloc (Nat.le_refl _) _).alloc (by simp) _).alloc (by simp; omega) _).trans (hb1.mono (by simp; omega))
  have hg1 : w.heap.size + 3 ≤ g1 := by have := hS1.lo; simp at this; omega
  have hl1 : g1 < w1.heap.size := hS1.block_lt g1 rfl
  have c0 := cellsG b0
  have c2 := cellsG b2
  have f2 := frozenG b2
  clear hb1
  go_wp2_with fail
  refine (HB.out _ (B1.setCell (p := ⟨w.heap.size + 1 + 1, 0, none⟩) (by simp; omega) _)).mono ?_
  rintro e w2 ⟨u, rfl, hP, hb2⟩
  have d1 := keepB (heap_other b1 _ (by omega : w.heap.size + 1 + 1 ≠ w.heap.size + 1)) hb2
  have d2 := keepB (heap_setN b2 _) hb2
  have B2 : Below w.heap.size w w2 := (B1.setCell (p := ⟨w.heap.size + 1 + 1, 0, none⟩) (by simp; omega) _).trans (hb2.mono (by simp; omega))
  have hS2 := ((hS1.weaken (base' := w.heap.size + 1 + 1 + 1) (by simp)).other (w.heap.size + 1 + 1) 0 (.slice (some ⟨g1, 0, none⟩) ts.length c1) (by omega)).below hb2
  have hP2 := hP.weaken (base' := w.heap.size + 1 + 1 + 1) (by simp; omega)
  obtain ⟨G, cp, qs, rfl, _⟩ := id hP2
  clear hb2 hS1 hP b0 b1 b2 c0 c2 f2 B1
  have e1 := cellsG d1
  have e2 := cellsG d2
  have f1 := frozenG d1
  have f2 := frozenG d2
  go_wp2_with fail
  refine bodyPost_ret (v := .agg #[.slice (some ⟨g1, 0, none⟩) ts.length c1, .slice (some ⟨G, 0, none⟩) ps.length cp]) ?_ rfl ⟨_, _, _, _, rfl, ⟨?_, ?_⟩, ?_⟩
  · simp [results, Tryz.results18, go_sem, e1]
  · exact (((hS2.otherV _ _ _ (by omega)).otherV _ _ _ (by omega)).otherV _ _ _ (by omega)).weaken (by omega)
  · exact (((hP2.other _ _ _ (by omega)).other _ _ _ (by omega)).other _ _ _ (by omega)).weaken (by omega)
  · exact ((B2.setCell (by simp; omega) _).setCell (by simp) _).setCell (by simp) _

set_option maxRecDepth 100000 in
set_option maxHeartbeats 2000000 in
theorem eqGraph_same (a b a' b' : Value) (ts : List (List UInt8)) (ps : List Pk) (w : World) (ha : RdS w a ts) (hb : RdPs w b ps) (ha' : RdS w a' ts) (hb' : RdPs w b' ps) (hs : SmG ts ps) :
    Calls Tryz.prog 20 #[.agg #[a, b], .agg #[a', b']] w fun e w' => e = .returned (.bool true) ∧ Below w.heap.size w w' := by
  have HA := Lib.hid (fun (W : World) (h : Below w.heap.size w W) => eqStringS_same a a' ts W (ha.below h) (ha'.below h) (by have := hs.1; omega))
  have HB := Lib.hid (fun (W : World) (h : Below w.heap.size w W) => eqPackS_same b b' ps W (hb.below h) (hb'.below h) hs.2)
  obtain ⟨A, ca, rfl⟩ := ha.slice
  obtain ⟨B, cb, rfl, _⟩ := hb
  obtain ⟨A', ca', rfl⟩ := ha'.slice
  obtain ⟨B', cb', rfl, _⟩ := hb'
  clear ha ha'
  have B0 : Below w.heap.size w ((w.alloc (.cells #[.slice A ts.length ca, .slice B ps.length cb] 37)).alloc (.cells #[.slice A' ts.length ca', .slice B' ps.length cb'] 37)) := ((Below.refl _ _).alloc (Nat.le_refl _) _).alloc (by simp) _
  go_enter Tryz.func20, Tryz.ntmps20
  go_wp2_with fail
  refine (HA.out _ B0).mono ?_
  rintro e w1 ⟨rfl, n, rfl⟩
  go_wp2_with fail
  refine (HB.out _ (B0.trans (below_drewN _ _ n))).mono ?_
  rintro e w2 ⟨rfl, hb2⟩
  have B2 := (B0.trans (below_drewN _ _ n)).trans (hb2.mono (by simp; omega))
  go_wp2_with fail
  go_ret
  exact ⟨rfl, B2⟩
end Go.Proofs.YtnodhkjgnegkcaaGreatDoor

/-
  A pack's key: spec.KeyOf, impl.KeyOf.
-/
namespace Go.Proofs.YtnodhkjgnegkcaaGreatDoor
open Go.RowKit

/-- A pack's key: its name, @ and its version. -/
def keyOf (p : Pk) : List UInt8 := p.name ++ 64 :: p.ver
theorem str_of {x : ByteArray} {l : List UInt8} (h : x.data.toList = l) : Value.string x = .string ⟨l.toArray⟩ := congrArg Value.string (bytes_ext (by simpa using h))

set_option maxRecDepth 100000 in
set_option maxHeartbeats 1000000 in
theorem specKeyOf_any (p : Pk) (a b : Value) (w : World) (ha : RdB w a p.sums) (hb : RdS w b p.needs) (hp : SmPk p) :
    Calls Tryz.prog 73 #[.agg #[.string ⟨p.name.toArray⟩, .string ⟨p.ver.toArray⟩, .string ⟨p.src.toArray⟩, a, .bool p.dev, b]] w fun e w' => e = .returned (.string ⟨(keyOf p).toArray⟩) ∧ Below w.heap.size w w' := by
  obtain ⟨A, ca, rfl⟩ := ha.slice
  obtain ⟨B, cb, rfl⟩ := hb.slice
  obtain ⟨t1, t2, _⟩ := hp.texts
  obtain ⟨x, hx⟩ : ∃ x : ByteArray, x = ⟨p.name.toArray⟩ := ⟨_, rfl⟩
  obtain ⟨y, hy⟩ : ∃ y : ByteArray, y = ⟨p.ver.toArray⟩ := ⟨_, rfl⟩
  have sx : x.size = p.name.length := by rw [hx]; exact size_of _
  have sy : y.size = p.ver.length := by rw [hy]; exact size_of _
  have HXL : Hid (x.data.toList = p.name) := Lib.hid (by rw [hx])
  have HYL : Hid (y.data.toList = p.ver) := Lib.hid (by rw [hy])
  rw [← hx, ← hy]
  clear hx hy ha hb
  go_enter Tryz.func73, Tryz.ntmps73
  go_wp2_with fail
  go_ret
  exact ⟨congrArg Ending.returned (str_of (by unfold keyOf; simp [HXL.out, HYL.out])), (Below.refl _ _).alloc (Nat.le_refl _) _⟩

set_option maxRecDepth 100000 in
set_option maxHeartbeats 1000000 in
theorem implKeyOf_any (p : Pk) (a b : Value) (w : World) (ha : RdB w a p.sums) (hb : RdS w b p.needs) (hp : SmPk p) :
    Calls Tryz.prog 63 #[.agg #[.string ⟨p.name.toArray⟩, .string ⟨p.ver.toArray⟩, .string ⟨p.src.toArray⟩, a, .bool p.dev, b]] w fun e w' => e = .returned (.string ⟨(keyOf p).toArray⟩) ∧ Below w.heap.size w w' := by
  obtain ⟨A, ca, rfl⟩ := ha.slice
  obtain ⟨B, cb, rfl⟩ := hb.slice
  obtain ⟨t1, t2, _⟩ := hp.texts
  obtain ⟨x, hx⟩ : ∃ x : ByteArray, x = ⟨p.name.toArray⟩ := ⟨_, rfl⟩
  obtain ⟨y, hy⟩ : ∃ y : ByteArray, y = ⟨p.ver.toArray⟩ := ⟨_, rfl⟩
  have sx : x.size = p.name.length := by rw [hx]; exact size_of _
  have sy : y.size = p.ver.length := by rw [hy]; exact size_of _
  have HXL : Hid (x.data.toList = p.name) := Lib.hid (by rw [hx])
  have HYL : Hid (y.data.toList = p.ver) := Lib.hid (by rw [hy])
  rw [← hx, ← hy]
  clear hx hy ha hb
  go_enter Tryz.func63, Tryz.ntmps63
  go_wp2_with fail
  go_ret
  exact ⟨congrArg Ending.returned (str_of (by unfold keyOf; simp [HXL.out, HYL.out])), (Below.refl _ _).alloc (Nat.le_refl _) _⟩
end Go.Proofs.YtnodhkjgnegkcaaGreatDoor

/-
  The index of the first pack with a key: spec.Find.
-/
namespace Go.Proofs.YtnodhkjgnegkcaaGreatDoor
open Go.RowKit

/-- The index of the first pack with a key, or -1. -/
def findP (ps : List Pk) (key : List UInt8) : Int := match ps.findIdx? (fun p => keyOf p == key) with
  | some i => (i : Int)
  | none => -1
/-- None of the first k packs has the key. -/
def noneP (ps : List Pk) (key : List UInt8) (k : Nat) : Prop := ∀ p ∈ ps.take k, keyOf p ≠ key
theorem noneP_zero (ps : List Pk) (key : List UInt8) : noneP ps key 0 := by intro p h; simp at h
theorem noneP_succ {ps : List Pk} {key : List UInt8} {k : Nat} (h : noneP ps key k) (hk : k < ps.length) (he : keyOf ps[k] ≠ key) : noneP ps key (k + 1) := by
  intro p hp
  rw [List.take_succ_eq_append_getElem hk] at hp
  rcases List.mem_append.1 hp with h1 | h1
  · exact h p h1
  · simp at h1; subst h1; exact he
theorem findP_hit {ps : List Pk} {key : List UInt8} {k : Nat} (h : noneP ps key k) (hk : k < ps.length) (he : keyOf ps[k] = key) : findP ps key = k := by
  have : ps.findIdx? (fun p => keyOf p == key) = some k := by
    rw [List.findIdx?_eq_some_iff_getElem]
    refine ⟨hk, by simpa using he, fun j hj => ?_⟩
    have := h ps[j] (by rw [List.mem_take_iff_getElem]; exact ⟨j, by omega, rfl⟩)
    simpa using this
  unfold findP; rw [this]
theorem findP_miss {ps : List Pk} {key : List UInt8} {k : Nat} (h : noneP ps key k) (hk : ps.length ≤ k) : findP ps key = -1 := by
  have : ps.findIdx? (fun p => keyOf p == key) = none := by
    rw [List.findIdx?_eq_none_iff]
    intro p hp
    have := h p (by rw [List.take_of_length_le hk]; exact hp)
    simpa using this
  unfold findP; rw [this]
theorem SmPk.key {p : Pk} (h : SmPk p) : (keyOf p).length ≤ 1048577 := by
  have : p.name.length + p.ver.length ≤ 1048576 := by unfold SmPk wP at h; omega
  unfold keyOf; simp; omega

set_option maxRecDepth 100000 in
set_option maxHeartbeats 2000000 in
theorem specFind_any (T : Option Addr) (tn tc : Nat) (vp : Value) (ps : List Pk) (key : List UInt8) (w : World) (hp : RdPs w vp ps) (hs : SmPs ps) :
    Calls Tryz.prog 59 #[.agg #[.slice T tn tc, vp], .string ⟨key.toArray⟩] w fun e w' => e = .returned (.int .i64 (findP ps key)) ∧ Below w.heap.size w w' := by
  have HR := Lib.hid hp
  have HS := Lib.hid hs
  have hl : ps.length ≤ 1048576 := by unfold SmPs at hs; omega
  obtain ⟨A, ca, rfl, ha⟩ := hp
  clear ha hs
  obtain ⟨r, HF⟩ : ∃ r, Hid (findP ps key = r) := ⟨_, Lib.hid rfl⟩
  rw [HF.out]
  have B0 : Below w.heap.size w (w.alloc (.cells #[.slice T tn tc, .slice A ps.length ca] 37)) := (Below.refl _ _).alloc (Nat.le_refl _) _
  have b0 := heap_alloc_new w (.cells #[.slice T tn tc, .slice A ps.length ca] 37)
  go_enter Tryz.func59, Tryz.ntmps59
  go_wp2_with fail
  go_loopw [5] (fun i wr => ∃ k : Nat, k ≤ ps.length ∧ i = .int .i64 k ∧ Hid (noneP ps key k) ∧ Below w.heap.size w wr ∧ wr.heap[w.heap.size]? = some (.cells #[.slice T tn tc, .slice A ps.length ca] 37)) (fun i _ => ps.length - (intOf i).toNat)
  case atStart => exact ⟨0, Nat.zero_le _, rfl, Lib.hid (noneP_zero _ _), B0, b0⟩
  case round =>
    obtain ⟨k, hk, rfl, HN, hb, hbox⟩ := hrel
    obtain ⟨x0, x1⟩ := cellsG hbox
    by_cases hlt : k < ps.length
    · obtain ⟨g, off, rfl, hg, a, b, d0, d1, d2, d3, d4, d5, ra, rb⟩ := (HR.out.below hb).at k hlt
      have HC := Lib.hid (specKeyOf_any ps[k] a b wr ra rb (HS.out.get k hlt))
      obtain ⟨A1, c1, rfl⟩ := ra.slice
      obtain ⟨A2, c2, rfl⟩ := rb.slice
      have k0 : (0 : Int) ≤ (k : Int) := by omega
      have k1 : (k : Int) < (ps.length : Int) := by omega
      have HBX := Lib.hid hbox
      clear ra rb B0 b0 hbox
      by_cases he : keyOf ps[k] = key
      · have HX : Hid (r = (k : Int)) := Lib.hid (by rw [← HF.out]; exact findP_hit HN.out hlt he)
        have q1 : ((⟨(keyOf ps[k]).toArray⟩ : ByteArray).toList == (⟨key.toArray⟩ : ByteArray).toList) = true := by rw [he]; simp
        have q2 : (keyOf ps[k] == key) = true := by rw [he]; simp
        clear he
        go_wp2_with fail
        refine HC.out.mono ?_
        rintro e w1 ⟨rfl, hb1⟩
        have B1 := hb.trans (hb1.mono hb.size)
        go_wp2_with fail
        go_ret
        exact ⟨ret_int HX.out.symm, B1⟩
      · have HN2 := Lib.hid (noneP_succ HN.out hlt he)
        have q1 : ((⟨(keyOf ps[k]).toArray⟩ : ByteArray).toList == (⟨key.toArray⟩ : ByteArray).toList) = false := by rw [ByteArray.toList_eq, ByteArray.toList_eq]; simpa using he
        have q2 : (keyOf ps[k] == key) = false := by simpa using he
        clear he
        go_wp2_with fail
        refine HC.out.mono ?_
        rintro e w1 ⟨rfl, hb1⟩
        have B1 := hb.trans (hb1.mono hb.size)
        have y1 := keepB HBX.out hb1
        go_wp2_with fail
        go_roundw
        case rel => exact ⟨k + 1, by omega, by go_num, HN2, B1, y1⟩
        case measure => simp [intOf]; omega
    · have HX : Hid (r = -1) := Lib.hid (by rw [← HF.out]; exact findP_miss HN.out (by omega))
      clear B0 b0
      go_wp2_with fail
      go_ret
      exact ⟨ret_int HX.out.symm, hb⟩

end Go.Proofs.YtnodhkjgnegkcaaGreatDoor

/-
  Right sums in plain words.
-/
namespace Go.Proofs.YtnodhkjgnegkcaaGreatDoor
open Go.RowKit

/-- The k-th sum has the length of its Alg, and its Alg is greater than the one before it. -/
def sumAt (bs : List Bd) (k : Nat) : Bool := decide (longI (bs.getD k ([], [])).1 = ((bs.getD k ([], [])).2.length : Int)) && (decide (k = 0) || Op.bytesLess (bs.getD (k - 1) ([], [])).1 (bs.getD k ([], [])).1)
def sumsTo (bs : List Bd) : Nat → Bool
  | 0 => true
  | k + 1 => sumsTo bs k && sumAt bs k
/-- All sums are right. -/
def sumsOkL (bs : List Bd) : Bool := sumsTo bs bs.length
theorem sums_mono {bs : List Bd} {k : Nat} : ∀ {n : Nat}, k < n → sumAt bs k = false → sumsTo bs n = false
  | n + 1, h, hb => by
    unfold sumsTo
    by_cases hk : k = n
    · subst hk; rw [hb, Bool.and_false]
    · rw [sums_mono (by omega) hb, Bool.false_and]
theorem sums_bad {bs : List Bd} {k : Nat} (h : k < bs.length) (hb : sumAt bs k = false) : sumsOkL bs = false := sums_mono h hb
theorem sums_step {bs : List Bd} {k : Nat} (h : sumsTo bs k = true) (hb : sumAt bs k = true) : sumsTo bs (k + 1) = true := by unfold sumsTo; rw [h, hb]; rfl
theorem sums_end {bs : List Bd} {k : Nat} (h : sumsTo bs k = true) (hk : k = bs.length) : sumsOkL bs = true := by unfold sumsOkL; rw [← hk]; exact h
theorem getD_at {bs : List Bd} {k : Nat} (h : k < bs.length) : bs.getD k ([], []) = bs[k] := by rw [List.getD_eq_getElem?_getD, List.getElem?_eq_getElem h]; rfl
theorem sumAt_zero {bs : List Bd} (h : 0 < bs.length) : sumAt bs 0 = decide (longI bs[0].1 = (bs[0].2.length : Int)) := by unfold sumAt; rw [getD_at h]; simp
theorem sumAt_more {bs : List Bd} {k : Nat} (h : k + 1 < bs.length) : sumAt bs (k + 1) = (decide (longI bs[k + 1].1 = (bs[k + 1].2.length : Int)) && Op.bytesLess (bs[k]'(by omega)).1 bs[k + 1].1) := by
  unfold sumAt
  have e : k + 1 - 1 = k := by omega
  rw [getD_at h, e, getD_at (by omega : k < bs.length)]; simp
theorem longI_bd (a : List UInt8) : -1 ≤ longI a ∧ longI a ≤ 64 := by
  unfold longI
  split
  · omega
  · split
    · omega
    · split
      · omega
      · split <;> omega
theorem longI_not0 (a : List UInt8) : ¬ longI a = 0 := by
  unfold longI
  split
  · omega
  · split
    · omega
    · split
      · omega
      · split <;> omega
/-- The number of bytes that impl.sumSize tells. -/
def sizeI (a : List UInt8) : Int := if longI a < 0 then 0 else longI a
theorem size_bad {a : List UInt8} (h : sizeI a = 0) (n : Nat) : ¬ longI a = (n : Int) := by
  have := longI_not0 a
  unfold sizeI at h
  split at h
  · omega
  · omega
theorem size_good {a : List UInt8} (h : ¬ sizeI a = 0) : sizeI a = longI a := by
  unfold sizeI at h ⊢
  split
  · rename_i h'; rw [if_pos h'] at h; exact absurd rfl h
  · rfl
end Go.Proofs.YtnodhkjgnegkcaaGreatDoor

/-
  For every string of at most maxLen bytes, spec.PlainOk returns whether all bytes are plain and there are at most 100.
-/
namespace Go.Proofs.YtnodhkjgnegkcaaGreatDoor
open Go.RowKit

def plainB (c : UInt8) : Bool := decide (33 ≤ (c.toNat : Int) ∧ (c.toNat : Int) ≤ 126 ∧ ¬ (c.toNat : Int) = 34 ∧ ¬ (c.toNat : Int) = 39 ∧ ¬ (c.toNat : Int) = 44 ∧ ¬ (c.toNat : Int) = 92)
def plainL (l : List UInt8) : Bool := l.all plainB && decide (l.length ≤ 100)

theorem plain_bad (s : ByteArray) (k : Nat) (h : k < s.size) (hb : plainB s[k] = false) : plainL s.data.toList = false := by
  have hm : s[k] ∈ s.data.toList := by
    have : s[k] = s.data.toList[k]'(by simpa using h) := rfl
    rw [this]; exact List.getElem_mem _
  unfold plainL
  rw [Bool.and_eq_false_iff]; left
  rw [List.all_eq_false]
  exact ⟨_, hm, by simp [hb]⟩
theorem plain_ways (c : UInt8) : (c.toNat : Int) < 33 ∨ 126 < (c.toNat : Int) ∨ (c.toNat : Int) = 34 ∨ (c.toNat : Int) = 39 ∨ (c.toNat : Int) = 44 ∨ (c.toNat : Int) = 92 ∨ plainB c = true := by
  by_cases h : plainB c = true
  · simp [h]
  · unfold plainB at h; simp at h; omega
theorem plain_not {c : UInt8} (h : (c.toNat : Int) < 33 ∨ 126 < (c.toNat : Int) ∨ (c.toNat : Int) = 34 ∨ (c.toNat : Int) = 39 ∨ (c.toNat : Int) = 44 ∨ (c.toNat : Int) = 92) : plainB c = false := by
  unfold plainB; simp; omega
theorem plain_yes {c : UInt8} (h : plainB c = true) : 33 ≤ (c.toNat : Int) ∧ (c.toNat : Int) ≤ 126 ∧ ((c.toNat : Int) == 34) = false ∧ ((c.toNat : Int) == 39) = false ∧ ((c.toNat : Int) == 44) = false ∧ ((c.toNat : Int) == 92) = false := by
  unfold plainB at h; simp only [decide_eq_true_eq] at h
  exact ⟨h.1, h.2.1, int_beq_false h.2.2.1, int_beq_false h.2.2.2.1, int_beq_false h.2.2.2.2.1, int_beq_false h.2.2.2.2.2⟩
theorem all_step (s : ByteArray) (k : Nat) (p : UInt8 → Bool) (h : k < s.size) (ha : (s.data.toList.take k).all p = true) (hb : p s[k] = true) : (s.data.toList.take (k + 1)).all p = true := by
  rw [take_snoc s k h, List.all_append, ha]; simp [hb]

set_option maxRecDepth 100000 in
set_option maxHeartbeats 1000000 in
theorem specPlainOk_any (s : ByteArray) (w : World) (hs : s.size ≤ maxLen) :
    Calls Tryz.prog 94 #[.string s] w fun e w' => e = .returned (.bool (plainL s.data.toList)) ∧ w = w' := by
  unfold maxLen at hs
  go_enter Tryz.func94, Tryz.ntmps94
  go_wp2
  go_loop [3] (fun n => ∃ k : Nat, k ≤ s.size ∧ n = .int .i64 k ∧ Hid ((s.data.toList.take k).all plainB = true)) (fun n => s.size - (intOf n).toNat)
  case atStart => exact ⟨0, Nat.zero_le _, rfl, Lib.hid (by simp)⟩
  case round =>
    obtain ⟨k, hk, rfl, H⟩ := hrel
    by_cases hlt : k < s.size
    · rcases plain_ways s[k] with h | h | h | h | h | h | h
      case inr.inr.inr.inr.inr.inr =>
        obtain ⟨h1, h2, h3, h4, h5, h6⟩ := plain_yes h
        have HH := Lib.hid h
        clear h
        go_wp2
        go_round
        case rel => exact ⟨k + 1, by omega, by go_num, Lib.hid (all_step s k _ hlt H.out HH.out)⟩
        case measure => simp [intOf]; omega
      case inl =>
        have HH := Lib.hid (plain_bad s k hlt (plain_not (by omega)))
        have b2 := (byte_lt s[k]).2
        go_wp2
        go_ret
        exact ⟨ret_bool HH.out.symm, rfl⟩
      case inr.inl =>
        have HH := Lib.hid (plain_bad s k hlt (plain_not (by omega)))
        have b1 := (byte_lt s[k]).1
        go_wp2
        go_ret
        exact ⟨ret_bool HH.out.symm, rfl⟩
      all_goals
        have HH := Lib.hid (plain_bad s k hlt (plain_not (by omega)))
        go_wp2
        go_ret
        exact ⟨ret_bool HH.out.symm, rfl⟩
    · have HH : Hid (plainL s.data.toList = decide (s.size ≤ 100)) := Lib.hid (by
        have := H.out
        rw [take_end s k hlt] at this
        unfold plainL; rw [this]; simp)
      by_cases hl : s.size ≤ 100
      · have hl2 : s.size < 20000 := by omega
        go_wp2
        go_ret
        exact ⟨ret_bool (by rw [HH.out]; simp [hl]; omega), rfl⟩
      · go_wp2
        go_ret
        exact ⟨ret_bool (by rw [HH.out]; simp [hl]), rfl⟩
end Go.Proofs.YtnodhkjgnegkcaaGreatDoor

/-
  spec.PackOk: whether a pack is right.
-/
namespace Go.Proofs.YtnodhkjgnegkcaaGreatDoor
open Go.RowKit

/-- A right pack. -/
def pkOk (p : Pk) : Bool := sumsOkL p.sums && (specN p.name && (exOk p.ver && plainL p.src))
theorem RdB.at2 {w : World} {A : Option Addr} {n cap : Nat} {bs : List Bd} (h : RdB w (.slice A n cap) bs) (k : Nat) (hk : k + 1 < bs.length) : ∃ g off, A = some ⟨g, off, none⟩ ∧ w.cell? ⟨g, off + k * 2, none⟩ = some (.string ⟨(bs[k]'(by omega)).1.toArray⟩) ∧ w.cell? ⟨g, off + (k + 1) * 2, none⟩ = some (.string ⟨bs[k + 1].1.toArray⟩) ∧ w.cell? ⟨g, off + (k + 1) * 2 + 1, none⟩ = some (.string ⟨bs[k + 1].2.toArray⟩) := by
  obtain ⟨A', ca', hv, ha⟩ := h
  simp only [Value.slice.injEq] at hv
  obtain ⟨rfl, _, rfl⟩ := hv
  obtain ⟨g, off, hA, hg, hc⟩ := ha (by omega)
  exact ⟨g, off, hA, (hc k (by omega)).1, (hc (k + 1) hk).1, (hc (k + 1) hk).2⟩

theorem exB_len (l : List UInt8) : (exB l).length = if exOk l = true then 1 else 0 := by unfold exB; split <;> rfl
theorem specExact_len (l : List UInt8) (w : World) (hl : l.length ≤ 1048576) : Calls Tryz.prog 159 #[.string ⟨l.toArray⟩] w fun e w' => ∃ g n, n = (if exOk l = true then 1 else 0) ∧ e = .returned (.slice (some ⟨g, 0, none⟩) n n) ∧ Below w.heap.size w w' :=
  (specExact_any l w hl).mono fun e w' ⟨g, he, _, _, hb⟩ => ⟨g, _, rfl, by rw [← exB_len]; exact he, hb⟩

set_option maxRecDepth 100000 in
set_option maxHeartbeats 4000000 in
theorem specPackOkG_any (p : Pk) (a b : Value) (w : World) (ha : RdB w a p.sums) (hb : RdS w b p.needs) (t1 : p.name.length ≤ 1048576) (t2 : p.ver.length ≤ 1048576) (t3 : p.src.length ≤ 1048576) (hsm : SmB p.sums) :
    Calls Tryz.prog 103 #[.agg #[.string ⟨p.name.toArray⟩, .string ⟨p.ver.toArray⟩, .string ⟨p.src.toArray⟩, a, .bool p.dev, b]] w fun e w' => e = .returned (.bool (pkOk p)) ∧ Below w.heap.size w w' := by
  have HA := Lib.hid ha
  have HSM := Lib.hid hsm
  have hn : p.sums.length ≤ 1048576 := by unfold SmB at hsm; omega
  have HN : Hid (∀ W, Calls Tryz.prog 137 #[.string ⟨p.name.toArray⟩] W fun e w' => e = .returned (.bool (specN p.name)) ∧ Below W.heap.size W w') := Lib.hid (fun W => specNameOk_any ⟨p.name.toArray⟩ W (by show p.name.toArray.size ≤ _; simp; omega))
  have HE := Lib.hid (fun W => specExact_len p.ver W t2)
  have HP : Hid (∀ W, Calls Tryz.prog 94 #[.string ⟨p.src.toArray⟩] W fun e w' => e = .returned (.bool (plainL p.src)) ∧ W = w') := Lib.hid (fun W => specPlainOk_any ⟨p.src.toArray⟩ W (by show p.src.toArray.size ≤ maxLen; unfold maxLen; simp; omega))
  obtain ⟨A, ca, rfl⟩ := ha.slice
  obtain ⟨B, cb, rfl⟩ := hb.slice
  obtain ⟨r, HR⟩ : ∃ r, Hid (pkOk p = r) := ⟨_, Lib.hid rfl⟩
  rw [HR.out]
  obtain ⟨x, HXX⟩ : ∃ x, Hid (specN p.name = x) := ⟨_, Lib.hid rfl⟩
  obtain ⟨y, HYY⟩ : ∃ y, Hid (exOk p.ver = y) := ⟨_, Lib.hid rfl⟩
  obtain ⟨z, HZZ⟩ : ∃ z, Hid (plainL p.src = z) := ⟨_, Lib.hid rfl⟩
  have HRR : Hid (r = (sumsOkL p.sums && (x && (y && z)))) := Lib.hid (by rw [← HR.out]; unfold pkOk; rw [HXX.out, HYY.out, HZZ.out])
  simp only [HXX.out] at HN
  simp only [HYY.out] at HE
  simp only [HZZ.out] at HP
  clear ha hb hsm
  obtain ⟨pn, pv, ps, bs, pd, pe⟩ := p
  simp only at HA HSM hn HN HE HP HRR t1 t2 t3 ⊢
  have B0 : Below w.heap.size w (w.alloc (.cells #[.string ⟨pn.toArray⟩, .string ⟨pv.toArray⟩, .string ⟨ps.toArray⟩, .slice A bs.length ca, .bool pd, .slice B pe.length cb] 78)) := (Below.refl _ _).alloc (Nat.le_refl _) _
  have bx := heap_alloc_new w (.cells #[.string ⟨pn.toArray⟩, .string ⟨pv.toArray⟩, .string ⟨ps.toArray⟩, .slice A bs.length ca, .bool pd, .slice B pe.length cb] 78)
  go_enter Tryz.func103, Tryz.ntmps103
  go_wp2_with fail
  go_loopw [3] (fun i wr => ∃ k : Nat, k ≤ bs.length ∧ i = .int .i64 k ∧ Hid (sumsTo bs k = true) ∧ Below w.heap.size w wr ∧ wr.heap[w.heap.size]? = some (.cells #[.string ⟨pn.toArray⟩, .string ⟨pv.toArray⟩, .string ⟨ps.toArray⟩, .slice A bs.length ca, .bool pd, .slice B pe.length cb] 78)) (fun i _ => bs.length - (intOf i).toNat)
  case atStart => exact ⟨0, Nat.zero_le _, rfl, Lib.hid rfl, B0, bx⟩
  case round =>
    obtain ⟨k, hk, rfl, HT, hbr, hbx⟩ := hrel
    clear B0 bx
    obtain ⟨x0, x1, x2, x3, x4, x5⟩ := cells6 hbx
    by_cases hlt : k < bs.length
    · have k0 : (0 : Int) ≤ (k : Int) := by omega
      have k1 : (k : Int) < (bs.length : Int) := by omega
      have hbl : bs[k].2.length ≤ 1048576 := by have := smB_mem bs[k] (List.getElem_mem hlt); have := HSM.out; unfold SmB at this; omega
      obtain ⟨g, off, rfl, _, d1, d2⟩ := (HA.out.below hbr).at k hlt
      have HL := Lib.hid (fun W => l04Long_any bs[k].1 W)
      have hlb := longI_bd bs[k].1
      have HQ := Lib.hid (fun (h : sumAt bs k = false) => (show r = false by rw [HRR.out, sums_bad hlt h]; rfl))
      obtain ⟨u, HU⟩ : ∃ u, Hid (longI bs[k].1 = u) := ⟨_, Lib.hid rfl⟩
      simp only [HU.out] at HL
      rw [HU.out] at hlb
      have HZ0 := Lib.hid (fun (h : k = 0) => (show sumAt bs k = decide (u = (bs[k].2.length : Int)) by subst h; rw [← HU.out]; exact sumAt_zero hlt))
      have HZ1 := Lib.hid (fun (j : Nat) (h : k = j + 1) => (show sumAt bs k = (decide (u = (bs[k].2.length : Int)) && Op.bytesLess (bs[j]'(by omega)).1 bs[k].1) by subst h; rw [← HU.out]; exact sumAt_more hlt))
      have HTT := Lib.hid (fun (h : sumAt bs k = true) => sums_step HT.out h)
      have HAR := Lib.hid (HA.out.below hbr)
      obtain ⟨al, HAL⟩ : ∃ al, Hid (bs[k].1 = al) := ⟨_, Lib.hid rfl⟩
      obtain ⟨by_, HBY⟩ : ∃ by_, Hid (bs[k].2 = by_) := ⟨_, Lib.hid rfl⟩
      rw [HAL.out] at d1
      rw [HBY.out] at d2 hbl
      simp only [HAL.out] at HL HZ1
      simp only [HBY.out] at HZ0 HZ1
      have HLQ : Hid (∀ W, Calls Tryz.prog 158 #[.string ⟨al.toArray⟩] W fun e w' => e = .returned (.int .i64 u) ∧ w' = W) := Lib.hid (fun W => (HL.out W).mono fun e w' h => ⟨h.1, h.2.symm⟩)
      clear HL
      by_cases hq : u = (by_.length : Int)
      · have q1 : (u != (by_.length : Int)) = false := int_bne_false hq
        by_cases hz : k = 0
        · have HN2 := Lib.hid (HTT.out (by rw [HZ0.out hz]; exact decide_eq_true hq))
          have g0 : ¬ (0 : Int) < (k : Int) := by omega
          have g1 : decide (0 < k) = false := by simp; omega
          clear hq hz HQ HZ0 HZ1 HTT
          go_wp2_with fail
          go_quiet ((go_at_call 158; exact Calls.quiet_of_same (HLQ.out _)))
          go_wp2_with fail
          go_roundw
          case rel => exact ⟨k + 1, by omega, by go_num, HN2, hbr.trans (below_drewN _ _ _), keepB hbx (below_drewN _ _ _)⟩
          case measure => simp [intOf]; omega
        · obtain ⟨j, hj⟩ : ∃ j, k = j + 1 := ⟨k - 1, by omega⟩
          have HZ2 := Lib.hid (HZ1.out j hj)
          have hjl : j < bs.length := by omega
          obtain ⟨g', off', hge, _, e1, e2⟩ := HAR.out.at j hjl
          clear e2
          simp only [Option.some.injEq, Addr.mk.injEq, and_true] at hge
          obtain ⟨rfl, rfl⟩ := hge
          have jw : IntKind.i64.wrap ((k : Int) - 1) = (j : Int) := by rw [show (k : Int) - 1 = (j : Int) by omega]; exact IntWalk.i64_in _ (by omega)
          have g0 : (0 : Int) < (k : Int) := by omega
          have g1 : decide (0 < k) = true := by simp; omega
          have j0 : (0 : Int) ≤ (j : Int) := by omega
          have j1 : (j : Int) < (bs.length : Int) := by omega
          obtain ⟨pr, HPR⟩ : ∃ pr, Hid (bs[j].1 = pr) := ⟨_, Lib.hid rfl⟩
          rw [HPR.out] at e1 HZ2
          cases hl : Op.bytesLess pr al with
          | true =>
            have HN2 := Lib.hid (HTT.out (by rw [HZ2.out, hl, decide_eq_true hq]; rfl))
            clear hq hz HQ HZ0 HZ1 HTT hj HZ2 HAR
            go_wp2_with fail
            go_quiet ((go_at_call 158; exact Calls.quiet_of_same (HLQ.out _)))
            go_wp2_with fail
            go_roundw
            case rel => exact ⟨k + 1, by omega, by go_num, HN2, hbr.trans (below_drewN _ _ _), keepB hbx (below_drewN _ _ _)⟩
            case measure => simp [intOf]; omega
          | false =>
            have HX := Lib.hid (HQ.out (by rw [HZ2.out, hl, Bool.and_false]))
            clear hq hz HQ HZ0 HZ1 HTT hj HZ2 HAR
            go_wp2_with fail
            go_quiet ((go_at_call 158; exact Calls.quiet_of_same (HLQ.out _)))
            go_wp2_with fail
            go_ret
            exact ⟨ret_bool HX.out.symm, hbr.trans (below_drewN _ _ _)⟩
      · have q1 : (u != (by_.length : Int)) = true := int_bne_true hq
        have HX : Hid (r = false) := Lib.hid (by
          apply HQ.out
          by_cases hz : k = 0
          · rw [HZ0.out hz]; exact decide_eq_false hq
          · rw [HZ1.out (k - 1) (by omega), decide_eq_false hq]; rfl)
        clear hq HQ HZ0 HZ1 HTT HAR
        go_wp2_with fail
        go_quiet ((go_at_call 158; exact Calls.quiet_of_same (HLQ.out _)))
        go_wp2_with fail
        go_ret
        exact ⟨ret_bool HX.out.symm, hbr.trans (below_drewN _ _ _)⟩
    · have HOK : Hid (r = (x && (y && z))) := Lib.hid (by rw [HRR.out, sums_end HT.out (by omega), Bool.true_and])
      cases x with
      | false =>
        go_wp2_with fail
        refine (HN.out _).mono ?_
        rintro e w1 ⟨rfl, hb1⟩
        go_wp2_with fail
        go_ret
        exact ⟨ret_bool HOK.out.symm, hbr.trans (hb1.mono hbr.size)⟩
      | true =>
        cases y with
        | false =>
          go_wp2_with fail
          refine (HN.out _).mono ?_
          rintro e w1 ⟨rfl, hb1⟩
          have B1 := hbr.trans (hb1.mono hbr.size)
          obtain ⟨y0, y1, y2, y3, y4, y5⟩ := cells6 (keepB hbx hb1)
          go_wp2_with fail
          refine (HE.out _).mono ?_
          rintro e w2 ⟨gg, nn, hnn, rfl, hb2⟩
          obtain rfl : nn = 0 := hnn
          go_wp2_with fail
          go_ret
          exact ⟨ret_bool HOK.out.symm, B1.trans (hb2.mono B1.size)⟩
        | true =>
          go_wp2_with fail
          refine (HN.out _).mono ?_
          rintro e w1 ⟨rfl, hb1⟩
          have B1 := hbr.trans (hb1.mono hbr.size)
          have hb1x := keepB hbx hb1
          obtain ⟨y0, y1, y2, y3, y4, y5⟩ := cells6 hb1x
          go_wp2_with fail
          refine (HE.out _).mono ?_
          rintro e w2 ⟨gg, nn, hnn, rfl, hb2⟩
          obtain rfl : nn = 1 := hnn
          have B2 := B1.trans (hb2.mono B1.size)
          obtain ⟨z0, z1, z2, z3, z4, z5⟩ := cells6 (keepB hb1x hb2)
          go_wp2_with fail
          refine (HP.out _).mono ?_
          rintro e w3 ⟨rfl, rfl⟩
          go_wp2_with fail
          go_ret
          exact ⟨ret_bool (by rw [HOK.out]; simp), B2⟩
theorem specPackOk_any (p : Pk) (a b : Value) (w : World) (ha : RdB w a p.sums) (hb : RdS w b p.needs) (hp : SmPk p) :
    Calls Tryz.prog 103 #[.agg #[.string ⟨p.name.toArray⟩, .string ⟨p.ver.toArray⟩, .string ⟨p.src.toArray⟩, a, .bool p.dev, b]] w fun e w' => e = .returned (.bool (pkOk p)) ∧ Below w.heap.size w w' :=
  specPackOkG_any p a b w ha hb hp.texts.1 hp.texts.2.1 hp.texts.2.2 hp.sums
end Go.Proofs.YtnodhkjgnegkcaaGreatDoor

/-
  A graph is right in plain words.
-/
namespace Go.Proofs.YtnodhkjgnegkcaaGreatDoor

/-- Are the first n all so? -/
def allTo (f : Nat → Bool) : Nat → Bool
  | 0 => true
  | n + 1 => allTo f n && f n
theorem allTo_bad {f : Nat → Bool} {k : Nat} : ∀ {n : Nat}, k < n → f k = false → allTo f n = false
  | 0, h, _ => by omega
  | n + 1, h, hb => by
    unfold allTo
    by_cases e : k = n
    · subst e; rw [hb, Bool.and_false]
    · rw [allTo_bad (n := n) (by omega) hb, Bool.false_and]
theorem allTo_step {f : Nat → Bool} {k : Nat} (h : allTo f k = true) (hb : f k = true) : allTo f (k + 1) = true := by unfold allTo; rw [h, hb]; rfl
theorem allTo_get {f : Nat → Bool} : ∀ {n : Nat}, allTo f n = true → ∀ k, k < n → f k = true
  | 0, _, k, h => by omega
  | n + 1, h, k, hk => by
    unfold allTo at h
    simp only [Bool.and_eq_true] at h
    by_cases e : k = n
    · subst e; exact h.2
    · exact allTo_get h.1 k (by omega)
theorem allTo_and (f g : Nat → Bool) : ∀ n, allTo (fun k => f k && g k) n = (allTo f n && allTo g n)
  | 0 => rfl
  | n + 1 => by
    unfold allTo
    rw [allTo_and f g n]
    cases allTo f n <;> cases allTo g n <;> cases f n <;> cases g n <;> rfl
theorem allTo_congr {f g : Nat → Bool} : ∀ {n : Nat}, (∀ k, k < n → f k = g k) → allTo f n = allTo g n
  | 0, _ => rfl
  | n + 1, h => by unfold allTo; rw [allTo_congr (n := n) (fun k hk => h k (by omega)), h n (by omega)]
theorem ls_at {ls : List (List UInt8)} {k : Nat} (h : k < ls.length) : ls.getD k [] = ls[k] := by rw [List.getD_eq_getElem?_getD, List.getElem?_eq_getElem h]; rfl
theorem ps_at {ps : List Pk} {k : Nat} (h : k < ps.length) : ps.getD k default = ps[k] := by rw [List.getD_eq_getElem?_getD, List.getElem?_eq_getElem h]; rfl

/-- Is the k-th text a key of one of these, and behind the one ahead of it? -/
def keyAtB (ps : List Pk) (ls : List (List UInt8)) (k : Nat) : Bool := decide (0 ≤ findP ps (ls.getD k [])) && (decide (k = 0) || Op.bytesLess (ls.getD (k - 1) []) (ls.getD k []))
/-- Are texts ascending, and each one of a graph's keys? -/
def keysOkL (ps : List Pk) (ls : List (List UInt8)) : Bool := allTo (keyAtB ps ls) ls.length
theorem keyAtB_zero {ps : List Pk} {ls : List (List UInt8)} (h : 0 < ls.length) : keyAtB ps ls 0 = decide (0 ≤ findP ps ls[0]) := by unfold keyAtB; rw [ls_at h]; simp
theorem keyAtB_more {ps : List Pk} {ls : List (List UInt8)} {k : Nat} (h : k + 1 < ls.length) : keyAtB ps ls (k + 1) = (decide (0 ≤ findP ps ls[k + 1]) && Op.bytesLess (ls[k]'(by omega)) ls[k + 1]) := by
  unfold keyAtB; rw [ls_at h, show k + 1 - 1 = k by omega, ls_at (by omega : k < ls.length)]; simp
theorem findP_ge (ps : List Pk) (key : List UInt8) : -1 ≤ findP ps key := by unfold findP; split <;> omega
theorem findP_lt (ps : List Pk) (key : List UInt8) : findP ps key < ps.length := by
  unfold findP
  split
  · rename_i i h
    have := (List.findIdx?_eq_some_iff_getElem.1 h).1
    omega
  · omega
theorem findP_mem (ps : List Pk) (key : List UInt8) : 0 ≤ findP ps key ↔ key ∈ ps.map keyOf := by
  unfold findP
  split
  · rename_i i h
    obtain ⟨hi, he, _⟩ := List.findIdx?_eq_some_iff_getElem.1 h
    constructor
    · intro _; rw [List.mem_map]; exact ⟨ps[i], List.getElem_mem hi, by simpa using he⟩
    · intro _; omega
  · rename_i h
    rw [List.findIdx?_eq_none_iff] at h
    constructor
    · intro h0; omega
    · intro hm
      obtain ⟨p, hp, he⟩ := List.mem_map.1 hm
      have := h p hp
      rw [he] at this; simp at this
/-- Is the k-th pack's key behind the one ahead of it? -/
def upAt (ps : List Pk) (k : Nat) : Bool := decide (k = 0) || Op.bytesLess (keyOf (ps.getD (k - 1) default)) (keyOf (ps.getD k default))
/-- Is the k-th pack right? -/
def pkAtB (ps : List Pk) (k : Nat) : Bool := pkOk (ps.getD k default) && upAt ps k
def ndAt (ps : List Pk) (k : Nat) : Bool := keysOkL ps (ps.getD k default).needs
/-- Is a graph right? -/
def grOk (ts : List (List UInt8)) (ps : List Pk) : Bool := allTo (fun k => pkAtB ps k && ndAt ps k) ps.length && (decide (ps.length ≤ 40) && keysOkL ps ts)
theorem grOk_parts (ts : List (List UInt8)) (ps : List Pk) : grOk ts ps = (decide (ps.length ≤ 40) && (allTo (pkAtB ps) ps.length && (allTo (ndAt ps) ps.length && keysOkL ps ts))) := by
  unfold grOk
  rw [allTo_and]
  cases allTo (pkAtB ps) ps.length <;> cases allTo (ndAt ps) ps.length <;> cases decide (ps.length ≤ 40) <;> simp
theorem upAt_zero (ps : List Pk) : upAt ps 0 = true := rfl
theorem upAt_more {ps : List Pk} {k : Nat} (h : k + 1 < ps.length) : upAt ps (k + 1) = Op.bytesLess (keyOf (ps[k]'(by omega))) (keyOf ps[k + 1]) := by
  unfold upAt; rw [ps_at h, show k + 1 - 1 = k by omega, ps_at (by omega : k < ps.length)]; simp
end Go.Proofs.YtnodhkjgnegkcaaGreatDoor

/-
  The order of versions is total, in plain words: cmpVer answers the other way round where its arguments change places, 0 just where they are the same (of right versions), and it is transitive. Of no program.
-/
namespace Go.Proofs.YtnodhkjgnegkcaaGreatDoor
open Go.RowKit

theorem cmpI_neg (a b : Int) : cmpI b a = -cmpI a b := by unfold cmpI; split <;> split <;> (try split) <;> omega
theorem cmpI_zero {a b : Int} : cmpI a b = 0 ↔ a = b := by unfold cmpI; split <;> (try split) <;> omega
theorem cmpI_neg_iff {a b : Int} : cmpI a b < 0 ↔ a < b := by unfold cmpI; split <;> (try split) <;> omega
theorem cmpI_trans {a b c : Int} (h : cmpI a b ≤ 0) (h2 : cmpI b c ≤ 0) : cmpI a c ≤ 0 := by unfold cmpI at *; split at h <;> split at h2 <;> (try split at h) <;> (try split at h2) <;> split <;> (try split) <;> omega

theorem bl_irrefl (a : List UInt8) : Op.bytesLess a a = false := by
  induction a with
  | nil => rfl
  | cons x t ih => unfold Op.bytesLess; simp [ih]
theorem bl_asymm : ∀ (a b : List UInt8), Op.bytesLess a b = true → Op.bytesLess b a = false
  | _, [], h => by simp [Op.bytesLess] at h
  | [], _ :: _, _ => by simp [Op.bytesLess]
  | x :: a, y :: b, h => by
    unfold Op.bytesLess at h ⊢
    simp at h ⊢
    rcases h with h | ⟨h, h2⟩
    · refine ⟨by exact UInt8.le_of_lt h, fun e => ?_⟩
      subst e
      exact absurd h (by simp)
    · subst h
      exact ⟨by simp, fun _ => bl_asymm a b h2⟩
theorem bl_total : ∀ (a b : List UInt8), Op.bytesLess a b = true ∨ a = b ∨ Op.bytesLess b a = true
  | [], [] => by simp
  | [], _ :: _ => by simp [Op.bytesLess]
  | _ :: _, [] => by simp [Op.bytesLess]
  | x :: a, y :: b => by
    unfold Op.bytesLess
    simp
    rcases Nat.lt_trichotomy x.toNat y.toNat with h | h | h
    · exact .inl (.inl (UInt8.lt_iff_toNat_lt.2 h))
    · obtain rfl := UInt8.toNat_inj.1 h
      rcases bl_total a b with h | h | h
      · exact .inl (.inr ⟨rfl, h⟩)
      · exact .inr (.inl ⟨rfl, h⟩)
      · exact .inr (.inr (.inr ⟨rfl, h⟩))
    · exact .inr (.inr (.inl (UInt8.lt_iff_toNat_lt.2 h)))
theorem bl_trans : ∀ (a b c : List UInt8), Op.bytesLess a b = true → Op.bytesLess b c = true → Op.bytesLess a c = true
  | _, _, [], _, h2 => by simp [Op.bytesLess] at h2
  | _, [], _ :: _, h, _ => by simp [Op.bytesLess] at h
  | [], _ :: _, _ :: _, _, _ => by simp [Op.bytesLess]
  | x :: a, y :: b, z :: c, h, h2 => by
    unfold Op.bytesLess at h h2 ⊢
    simp at h h2 ⊢
    rcases h with h | ⟨rfl, h⟩
    · rcases h2 with h2 | ⟨rfl, h2⟩
      · exact .inl (UInt8.lt_trans h h2)
      · exact .inl h
    · rcases h2 with h2 | ⟨rfl, h2⟩
      · exact .inl h2
      · exact .inr ⟨rfl, bl_trans a b c h h2⟩

theorem cmpS_neg (a b : List UInt8) : cmpS b a = -cmpS a b := by
  unfold cmpS
  rcases bl_total a b with h | h | h
  · have h2 := bl_asymm a b h
    have h3 : ¬ b = a := fun e => by rw [e, bl_irrefl] at h; cases h
    simp [h, h2, h3]
  · subst h; simp [bl_irrefl]
  · have h2 := bl_asymm b a h
    have h3 : ¬ a = b := fun e => by rw [e, bl_irrefl] at h; cases h
    simp [h, h2, h3]
theorem cmpS_zero {a b : List UInt8} : cmpS a b = 0 ↔ a = b := by
  unfold cmpS
  constructor
  · intro h
    split at h
    · omega
    · split at h
      · assumption
      · omega
  · rintro rfl; simp [bl_irrefl]
theorem cmpS_trans {a b c : List UInt8} (h : cmpS a b ≤ 0) (h2 : cmpS b c ≤ 0) : cmpS a c ≤ 0 := by
  have f : ∀ x y, cmpS x y ≤ 0 → Op.bytesLess x y = true ∨ x = y := fun x y h => by
    unfold cmpS at h
    split at h
    · left; assumption
    · split at h
      · right; assumption
      · omega
  have g : ∀ x y, Op.bytesLess x y = true ∨ x = y → cmpS x y ≤ 0 := fun x y h => by
    unfold cmpS
    rcases h with h | h
    · rw [if_pos h]; omega
    · subst h; rw [bl_irrefl]; simp
  apply g
  rcases f _ _ h with h | rfl
  · rcases f _ _ h2 with h2 | rfl
    · exact .inl (bl_trans _ _ _ h h2)
    · exact .inl h
  · exact f _ _ h2

/-- f compares: the other way round it answers the other way round, and 'not greater' is transitive. -/
def Cmp {α : Type} (f : α → α → Int) : Prop := (∀ a b, f b a = -f a b) ∧ ∀ a b c, f a b ≤ 0 → f b c ≤ 0 → f a c ≤ 0
theorem cmp_I : Cmp cmpI := ⟨cmpI_neg, fun _ _ _ => cmpI_trans⟩
theorem cmp_S : Cmp cmpS := ⟨cmpS_neg, fun _ _ _ => cmpS_trans⟩
theorem Cmp.on {α β : Type} {f : β → β → Int} (h : Cmp f) (g : α → β) : Cmp (fun a b => f (g a) (g b)) := ⟨fun _ _ => h.1 _ _, fun _ _ _ => h.2 _ _ _⟩
theorem orI_neg (x y : Int) : orI (-x) (-y) = -orI x y := by unfold orI; split <;> split <;> omega
theorem orI_zero_iff {x y : Int} : orI x y = 0 ↔ x = 0 ∧ y = 0 := by unfold orI; split <;> omega
/-- One step of an order word by word. -/
theorem lex_trans {α : Type} {f : α → α → Int} (hf : Cmp f) (a b c : α) {p q r : Int} (hy : p ≤ 0 → q ≤ 0 → r ≤ 0) (h1 : orI (f a b) p ≤ 0) (h2 : orI (f b c) q ≤ 0) : orI (f a c) r ≤ 0 := by
  have n1 : f a b ≤ 0 := by unfold orI at h1; split at h1 <;> omega
  have n2 : f b c ≤ 0 := by unfold orI at h2; split at h2 <;> omega
  have n3 := hf.2 a b c n1 n2
  by_cases h0 : f a c = 0
  · have e1 : f c a ≤ 0 := by have := hf.1 a c; omega
    have e2 := hf.2 b c a n2 e1
    have e3 := hf.2 c a b e1 n1
    have m1 := hf.1 a b
    have m2 := hf.1 b c
    have z1 : f a b = 0 := by omega
    have z2 : f b c = 0 := by omega
    rw [z1, orI_zero] at h1
    rw [z2, orI_zero] at h2
    rw [h0, orI_zero]
    exact hy h1 h2
  · rw [orI_ne _ h0]; exact n3
theorem Cmp.lex {α : Type} {f g : α → α → Int} (hf : Cmp f) (hg : Cmp g) : Cmp (fun a b => orI (f a b) (g a b)) :=
  ⟨fun a b => by show orI (f b a) (g b a) = -orI (f a b) (g a b); rw [hf.1, hg.1, orI_neg], fun a b c h1 h2 => lex_trans hf a b c (hg.2 a b c) h1 h2⟩

def clsP (a : List UInt8) : Int := if 0 ≤ readL a then 0 else 1
def valP (a : List UInt8) : Int := if 0 ≤ readL a then readL a else 0
def txtP (a : List UInt8) : List UInt8 := if 0 ≤ readL a then [] else a
theorem cmpPart_eq (a b : List UInt8) : cmpPart a b = orI (cmpI (clsP a) (clsP b)) (orI (cmpI (valP a) (valP b)) (cmpS (txtP a) (txtP b))) := by
  unfold cmpPart clsP valP txtP
  have hs : cmpS [] [] = 0 := rfl
  by_cases ha : 0 ≤ readL a <;> by_cases hb : 0 ≤ readL b <;> simp only [ha, hb, if_true, if_false]
  · rw [cmpI_same, orI_zero, hs]; unfold orI; split <;> omega
  · rfl
  · rfl
  · rw [cmpI_same, orI_zero, cmpI_same, orI_zero]
theorem cmp_Part : Cmp cmpPart := by
  have h := (cmp_I.on clsP).lex ((cmp_I.on valP).lex (cmp_S.on txtP))
  have e : cmpPart = fun a b => orI (cmpI (clsP a) (clsP b)) (orI (cmpI (valP a) (valP b)) (cmpS (txtP a) (txtP b))) := funext fun a => funext fun b => cmpPart_eq a b
  rw [e]; exact h
theorem cmpPart_zero {a b : List UInt8} : cmpPart a b = 0 ↔ a = b := by
  constructor
  · intro h
    rw [cmpPart_eq, orI_zero_iff, orI_zero_iff, cmpI_zero, cmpI_zero, cmpS_zero] at h
    obtain ⟨h1, h2, h3⟩ := h
    unfold clsP at h1
    unfold valP at h2
    unfold txtP at h3
    by_cases ha : 0 ≤ readL a <;> by_cases hb : 0 ≤ readL b <;> simp only [ha, hb, if_true, if_false] at h1 h2 h3
    · rw [← dec_read ha, ← dec_read hb, h2]
    · omega
    · omega
    · exact h3
  · rintro rfl
    have := cmp_Part.1 a a
    omega
theorem cmpL_neg : ∀ x y : List (List UInt8), cmpL y x = -cmpL x y
  | [], [] => rfl
  | [], _ :: _ => rfl
  | _ :: _, [] => rfl
  | a :: x, b :: y => by show orI (cmpPart b a) (cmpL y x) = -orI (cmpPart a b) (cmpL x y); rw [cmp_Part.1, cmpL_neg x y, orI_neg]
theorem cmpL_trans : ∀ x y z : List (List UInt8), cmpL x y ≤ 0 → cmpL y z ≤ 0 → cmpL x z ≤ 0
  | [], [], z, _, h2 => h2
  | [], _ :: _, [], _, _ => by simp [cmpL]
  | [], _ :: _, _ :: _, _, _ => by simp [cmpL]
  | _ :: _, [], _, h, _ => by simp [cmpL] at h
  | _ :: _, _ :: _, [], _, h2 => by simp [cmpL] at h2
  | a :: x, b :: y, c :: z, h, h2 => lex_trans cmp_Part a b c (cmpL_trans x y z) h h2
theorem cmp_L : Cmp cmpL := ⟨cmpL_neg, cmpL_trans⟩
theorem cmpL_zero : ∀ {x y : List (List UInt8)}, cmpL x y = 0 ↔ x = y
  | [], [] => by simp [cmpL]
  | [], _ :: _ => by simp [cmpL]
  | _ :: _, [] => by simp [cmpL]
  | a :: x, b :: y => by
    show orI (cmpPart a b) (cmpL x y) = 0 ↔ _
    rw [orI_zero_iff, cmpPart_zero, cmpL_zero]; simp
def emp (x : List (List UInt8)) : Int := if x = [] then 1 else 0
theorem cmpPre_eq (x y : List (List UInt8)) : cmpPre x y = orI (cmpI (emp x) (emp y)) (cmpL x y) := by
  unfold cmpPre emp
  cases x with
  | nil =>
    cases y with
    | nil => rfl
    | cons b y => simp [cmpI, orI]; omega
  | cons a x =>
    cases y with
    | nil => simp [cmpI, orI]; try omega
    | cons b y => simp [cmpI, orI]
theorem cmp_Pre : Cmp cmpPre := by
  have h := (cmp_I.on emp).lex cmp_L
  have e : cmpPre = fun x y => orI (cmpI (emp x) (emp y)) (cmpL x y) := funext fun a => funext fun b => cmpPre_eq a b
  rw [e]; exact h
theorem cmpPre_zero {x y : List (List UInt8)} : cmpPre x y = 0 ↔ x = y := by
  rw [cmpPre_eq, orI_zero_iff, cmpI_zero, cmpL_zero]
  constructor
  · exact fun h => h.2
  · rintro rfl; exact ⟨rfl, rfl⟩
/-- A version as a tuple. -/
abbrev VT := Int × Int × Int × List (List UInt8)
def cmpV (p q : VT) : Int := cmpVer p.1 p.2.1 p.2.2.1 p.2.2.2 q.1 q.2.1 q.2.2.1 q.2.2.2
theorem cmp_V : Cmp cmpV := by
  have h := (cmp_I.on (fun p : VT => p.1)).lex ((cmp_I.on (fun p : VT => p.2.1)).lex ((cmp_I.on (fun p : VT => p.2.2.1)).lex (cmp_Pre.on (fun p : VT => p.2.2.2))))
  exact h
theorem cmpV_zero {p q : VT} : cmpV p q = 0 ↔ p = q := by
  obtain ⟨a, b, c, x⟩ := p
  obtain ⟨a', b', c', y⟩ := q
  show orI (cmpI a a') (orI (cmpI b b') (orI (cmpI c c') (cmpPre x y))) = 0 ↔ _
  rw [orI_zero_iff, orI_zero_iff, orI_zero_iff, cmpI_zero, cmpI_zero, cmpI_zero, cmpPre_zero]
  simp
end Go.Proofs.YtnodhkjgnegkcaaGreatDoor

/-
  The laws' own helpers on entries: sz, to, eq of one and of a list.
-/
namespace Go.Proofs.YtnodhkjgnegkcaaGreatDoor
open Go.RowKit

set_option maxRecDepth 100000 in
set_option maxHeartbeats 4000000 in
theorem szEntry_any (e : En) (a0 a1 : Value) (left : Int) (w : World) (ha0 : RdB w a0 e.heads) (ha1 : RdB w a1 e.needs) (h0 : 0 ≤ left) (h1 : left ≤ 1048576) (hf : EnFits e) :
    Calls Tryz.prog 40 #[enV e a0 a1, .int .i64 left] w fun x w' => x = .returned (.int .i64 (szEn left e)) ∧ Below w.heap.size w w' := by
  obtain ⟨f0, f1, f2, f3, f4⟩ := hf
  have HB0 := Lib.hid (fun (W : World) (h : Below w.heap.size w W) (z : Int) (z0 : 0 ≤ z) (z1 : z ≤ 1048576) => Ndk.szNeedS_any a0 e.heads z W (ha0.below h) z0 z1 f0.1 f0.2)
  have HB1 := Lib.hid (fun (W : World) (h : Below w.heap.size w W) (z : Int) (z0 : 0 ≤ z) (z1 : z ≤ 1048576) => Ndk.szNeedS_any a1 e.needs z W (ha1.below h) z0 z1 f4.1 f4.2)
  obtain ⟨A, ca, rfl⟩ := rdB_slice ha0
  obtain ⟨B, cb, rfl⟩ := rdB_slice ha1
  unfold enV
  obtain ⟨x_ver, hx_ver⟩ : ∃ x : ByteArray, x = ⟨e.ver.toArray⟩ := ⟨_, rfl⟩
  have s_ver : x_ver.size = e.ver.length := by rw [hx_ver]; exact size_of _
  rw [← hx_ver]
  obtain ⟨x_res, hx_res⟩ : ∃ x : ByteArray, x = ⟨e.res.toArray⟩ := ⟨_, rfl⟩
  have s_res : x_res.size = e.res.length := by rw [hx_res]; exact size_of _
  rw [← hx_res]
  obtain ⟨x_int, hx_int⟩ : ∃ x : ByteArray, x = ⟨e.int.toArray⟩ := ⟨_, rfl⟩
  have s_int : x_int.size = e.int.length := by rw [hx_int]; exact size_of _
  rw [← hx_int]
  have HW : Hid (wEn e = (e.heads.length + smB e.heads) + x_ver.size + x_res.size + x_int.size + (e.needs.length + smB e.needs)) := Lib.hid (by unfold wEn; rw [s_ver, s_res, s_int])
  have m_ver : x_ver.size ≤ 9223372036854775807 := by unfold maxLen at f1; omega
  have m_res : x_res.size ≤ 9223372036854775807 := by unfold maxLen at f2; omega
  have m_int : x_int.size ≤ 9223372036854775807 := by unfold maxLen at f3; omega
  have B0 : Below w.heap.size w (w.alloc (.cells #[.slice A e.heads.length ca, .string x_ver, .string x_res, .string x_int, .slice B e.needs.length cb] 58)) := (Below.refl _ _).alloc (Nat.le_refl _) _
  have b0 := heap_alloc_new w (.cells #[.slice A e.heads.length ca, .string x_ver, .string x_res, .string x_int, .slice B e.needs.length cb] 58)
  clear ha0 ha1 f0 f1 f2 f3 f4 s_ver hx_ver s_res hx_res s_int hx_int
  by_cases q0 : ¬ (e.heads.length : Int) + (smB e.heads : Int) ≤ left
  · have HU0 : Hid (szB left e.heads = -1) := Lib.hid (szB_no q0)
    have HX : Hid (szEn left e = -1) := Lib.hid (szEn_no (by have := HW.out; omega))
    go_enter Tryz.func40, Tryz.ntmps40
    go_wp2_with fail
    refine (HB0.out _ B0 _ (by omega) (by omega)).mono ?_
    rw [HU0.out]
    rintro x w1 ⟨rfl, hb1⟩
    have B1 := B0.trans (hb1.mono B0.size)
    have b1 := keepB b0 hb1
    go_wp2_with fail
    go_ret
    exact ⟨ret_int HX.out.symm, B1⟩
  have q0' : (e.heads.length : Int) + (smB e.heads : Int) ≤ left := by omega
  obtain ⟨y0, hy0⟩ : ∃ y, y = left - (e.heads.length : Int) - (smB e.heads : Int) := ⟨_, rfl⟩
  have HU0 : Hid (szB left e.heads = y0) := Lib.hid (by rw [hy0]; exact szB_yes q0')
  have HY0 := Lib.hid hy0
  have hy0a : 0 ≤ y0 := by omega
  have hy0b : y0 ≤ 1048576 := by omega
  have hy0c : (y0 : Int) + (e.heads.length : Int) + (smB e.heads : Int) = left := by omega
  clear hy0 q0 q0'
  by_cases q1 : y0 - (x_ver.size : Int) < 0
  · skip
    have HX : Hid (szEn left e = -1) := Lib.hid (szEn_no (by have := HW.out; omega))
    go_enter Tryz.func40, Tryz.ntmps40
    go_wp2_with fail
    refine (HB0.out _ B0 _ (by omega) (by omega)).mono ?_
    rw [HU0.out]
    rintro x w1 ⟨rfl, hb1⟩
    have B1 := B0.trans (hb1.mono B0.size)
    have b1 := keepB b0 hb1
    obtain ⟨z0_0, z0_1, z0_2, z0_3, z0_4⟩ := cells5 b1
    go_wp2_with fail
    go_ret
    exact ⟨ret_int HX.out.symm, B1⟩
  have hy1a : 0 ≤ y0 - (x_ver.size : Int) := by omega
  have hy1b : y0 - (x_ver.size : Int) ≤ 1048576 := by omega
  by_cases q2 : (y0 - (x_ver.size : Int)) - (x_res.size : Int) < 0
  · skip
    have HX : Hid (szEn left e = -1) := Lib.hid (szEn_no (by have := HW.out; omega))
    go_enter Tryz.func40, Tryz.ntmps40
    go_wp2_with fail
    refine (HB0.out _ B0 _ (by omega) (by omega)).mono ?_
    rw [HU0.out]
    rintro x w1 ⟨rfl, hb1⟩
    have B1 := B0.trans (hb1.mono B0.size)
    have b1 := keepB b0 hb1
    obtain ⟨z0_0, z0_1, z0_2, z0_3, z0_4⟩ := cells5 b1
    go_wp2_with fail
    go_ret
    exact ⟨ret_int HX.out.symm, B1⟩
  have hy2a : 0 ≤ (y0 - (x_ver.size : Int)) - (x_res.size : Int) := by omega
  have hy2b : (y0 - (x_ver.size : Int)) - (x_res.size : Int) ≤ 1048576 := by omega
  by_cases q3 : ((y0 - (x_ver.size : Int)) - (x_res.size : Int)) - (x_int.size : Int) < 0
  · skip
    have HX : Hid (szEn left e = -1) := Lib.hid (szEn_no (by have := HW.out; omega))
    go_enter Tryz.func40, Tryz.ntmps40
    go_wp2_with fail
    refine (HB0.out _ B0 _ (by omega) (by omega)).mono ?_
    rw [HU0.out]
    rintro x w1 ⟨rfl, hb1⟩
    have B1 := B0.trans (hb1.mono B0.size)
    have b1 := keepB b0 hb1
    obtain ⟨z0_0, z0_1, z0_2, z0_3, z0_4⟩ := cells5 b1
    go_wp2_with fail
    go_ret
    exact ⟨ret_int HX.out.symm, B1⟩
  have hy3a : 0 ≤ ((y0 - (x_ver.size : Int)) - (x_res.size : Int)) - (x_int.size : Int) := by omega
  have hy3b : ((y0 - (x_ver.size : Int)) - (x_res.size : Int)) - (x_int.size : Int) ≤ 1048576 := by omega
  by_cases q4 : ¬ (e.needs.length : Int) + (smB e.needs : Int) ≤ (((y0 - (x_ver.size : Int)) - (x_res.size : Int)) - (x_int.size : Int))
  · have HU4 : Hid (szB (((y0 - (x_ver.size : Int)) - (x_res.size : Int)) - (x_int.size : Int)) e.needs = -1) := Lib.hid (szB_no q4)
    have HX : Hid (szEn left e = -1) := Lib.hid (szEn_no (by have := HW.out; omega))
    go_enter Tryz.func40, Tryz.ntmps40
    go_wp2_with fail
    refine (HB0.out _ B0 _ (by omega) (by omega)).mono ?_
    rw [HU0.out]
    rintro x w1 ⟨rfl, hb1⟩
    have B1 := B0.trans (hb1.mono B0.size)
    have b1 := keepB b0 hb1
    obtain ⟨z0_0, z0_1, z0_2, z0_3, z0_4⟩ := cells5 b1
    go_wp2_with fail
    refine (HB1.out _ B1 _ (by omega) (by omega)).mono ?_
    rw [HU4.out]
    rintro x w5 ⟨rfl, hb5⟩
    have B5 := B1.trans (hb5.mono B1.size)
    have b5 := keepB b1 hb5
    go_wp2_with fail
    go_ret
    exact ⟨ret_int HX.out.symm, B5⟩
  have q4' : (e.needs.length : Int) + (smB e.needs : Int) ≤ (((y0 - (x_ver.size : Int)) - (x_res.size : Int)) - (x_int.size : Int)) := by omega
  obtain ⟨y4, hy4⟩ : ∃ y, y = (((y0 - (x_ver.size : Int)) - (x_res.size : Int)) - (x_int.size : Int)) - (e.needs.length : Int) - (smB e.needs : Int) := ⟨_, rfl⟩
  have HU4 : Hid (szB (((y0 - (x_ver.size : Int)) - (x_res.size : Int)) - (x_int.size : Int)) e.needs = y4) := Lib.hid (by rw [hy4]; exact szB_yes q4')
  have HY4 := Lib.hid hy4
  have hy4a : 0 ≤ y4 := by omega
  have hy4b : y4 ≤ 1048576 := by omega
  have hy4c : (y4 : Int) + (e.needs.length : Int) + (smB e.needs : Int) = (((y0 - (x_ver.size : Int)) - (x_res.size : Int)) - (x_int.size : Int)) := by omega
  clear hy4 q4 q4'
  have HX : Hid (szEn left e = y4) := Lib.hid (by rw [szEn_yes (by have := HW.out; omega)]; have := HW.out; omega)
  go_enter Tryz.func40, Tryz.ntmps40
  go_wp2_with fail
  refine (HB0.out _ B0 _ (by omega) (by omega)).mono ?_
  rw [HU0.out]
  rintro x w1 ⟨rfl, hb1⟩
  have B1 := B0.trans (hb1.mono B0.size)
  have b1 := keepB b0 hb1
  obtain ⟨z0_0, z0_1, z0_2, z0_3, z0_4⟩ := cells5 b1
  go_wp2_with fail
  refine (HB1.out _ B1 _ (by omega) (by omega)).mono ?_
  rw [HU4.out]
  rintro x w5 ⟨rfl, hb5⟩
  have B5 := B1.trans (hb5.mono B1.size)
  have b5 := keepB b1 hb5
  go_wp2_with fail
  go_ret
  exact ⟨ret_int HX.out.symm, B5⟩

set_option maxRecDepth 100000 in
set_option maxHeartbeats 4000000 in
theorem toEntry_any (e : En) (a0 a1 : Value) (w : World) (ha0 : RdB w a0 e.heads) (ha1 : RdB w a1 e.needs) (hs : SmEn e) :
    Calls Tryz.prog 44 #[enV e a0 a1] w fun x w' => ∃ u0 u1, x = .returned (enV e u0 u1) ∧ Ndk.Nds w' w.heap.size u0 e.heads ∧ Ndk.Nds w' w.heap.size u1 e.needs ∧ Below w.heap.size w w' := by
  have HA0 := Lib.hid (fun (W : World) (h : Below w.heap.size w W) => Ndk.toNeedS_any a0 e.heads W (ha0.below h) (by have := hs.heads; omega))
  have HA1 := Lib.hid (fun (W : World) (h : Below w.heap.size w W) => Ndk.toNeedS_any a1 e.needs W (ha1.below h) (by have := hs.needs; omega))
  obtain ⟨A, ca, rfl⟩ := rdB_slice ha0
  obtain ⟨B, cb, rfl⟩ := rdB_slice ha1
  unfold enV
  clear ha0 ha1 hs
  have B0 : Below w.heap.size w (((w.alloc (.cells #[.slice A e.heads.length ca, .string ⟨e.ver.toArray⟩, .string ⟨e.res.toArray⟩, .string ⟨e.int.toArray⟩, .slice B e.needs.length cb] 58)).alloc (.cells #[.slice none 0 0, .string ⟨#[]⟩, .string ⟨#[]⟩, .string ⟨#[]⟩, .slice none 0 0] 62)).alloc (.cells #[.slice none 0 0, .string ⟨#[]⟩, .string ⟨#[]⟩, .string ⟨#[]⟩, .slice none 0 0] 62)) := (((Below.refl _ _).alloc (Nat.le_refl _) _).alloc (by simp) _).alloc (by simp; omega) _
  have b0 := keepA (keepA (heap_alloc_new w (.cells #[.slice A e.heads.length ca, .string ⟨e.ver.toArray⟩, .string ⟨e.res.toArray⟩, .string ⟨e.int.toArray⟩, .slice B e.needs.length cb] 58)) (.cells #[.slice none 0 0, .string ⟨#[]⟩, .string ⟨#[]⟩, .string ⟨#[]⟩, .slice none 0 0] 62)) (.cells #[.slice none 0 0, .string ⟨#[]⟩, .string ⟨#[]⟩, .string ⟨#[]⟩, .slice none 0 0] 62)
  have b1 := keepA (heap_new (W := w.alloc (.cells #[.slice A e.heads.length ca, .string ⟨e.ver.toArray⟩, .string ⟨e.res.toArray⟩, .string ⟨e.int.toArray⟩, .slice B e.needs.length cb] 58)) (n := w.heap.size + 1) (by simp) (.cells #[.slice none 0 0, .string ⟨#[]⟩, .string ⟨#[]⟩, .string ⟨#[]⟩, .slice none 0 0] 62)) (.cells #[.slice none 0 0, .string ⟨#[]⟩, .string ⟨#[]⟩, .string ⟨#[]⟩, .slice none 0 0] 62)
  have b2 := heap_new (W := (w.alloc (.cells #[.slice A e.heads.length ca, .string ⟨e.ver.toArray⟩, .string ⟨e.res.toArray⟩, .string ⟨e.int.toArray⟩, .slice B e.needs.length cb] 58)).alloc (.cells #[.slice none 0 0, .string ⟨#[]⟩, .string ⟨#[]⟩, .string ⟨#[]⟩, .slice none 0 0] 62)) (n := w.heap.size + 1 + 1) (by simp) (.cells #[.slice none 0 0, .string ⟨#[]⟩, .string ⟨#[]⟩, .string ⟨#[]⟩, .slice none 0 0] 62)
  go_enter Tryz.func44, Tryz.ntmps44
  go_wp2_with fail
  refine (HA0.out _ B0).mono ?_
  rintro x w1 ⟨g0, c0, rfl, O0, hb1⟩
  have F0 := B0.trans (hb1.mono (by first | exact B0.size | (have := B0.size; simp at this ⊢; omega)))
  have k0_0 := keepB b0 hb1
  have k0_1 := keepB b1 hb1
  have k0_2 := keepB b2 hb1
  have O0' := O0.weaken (base' := w.heap.size + 3) (by first | (simp; done) | (have := B0.size; simp at this ⊢; omega))
  have hz0 : w.heap.size + 3 ≤ w1.heap.size := by have := lt_of_heap k0_2; omega
  clear hb1 O0
  obtain ⟨p0_0, p0_1, p0_2, p0_3, p0_4⟩ := cells5 k0_0
  obtain ⟨r0_0, r0_1, r0_2, r0_3, r0_4⟩ := cells5 k0_2
  obtain ⟨t0_0, t0_1, t0_2, t0_3, t0_4⟩ := cells5 k0_1
  have fa0 := frozen5 k0_2
  have fb0 := frozen5 k0_1
  go_wp2_with fail
  have d1_0 := heap_other (o := 0) (g := w.heap.size + 1 + 1) k0_0 (.slice (some ⟨g0, 0, none⟩) e.heads.length c0) (by omega)
  have d1_1 := heap_other (o := 0) (g := w.heap.size + 1 + 1) k0_1 (.slice (some ⟨g0, 0, none⟩) e.heads.length c0) (by omega)
  have d1_2 : (w1.setCell ⟨w.heap.size + 1 + 1, 0, none⟩ (.slice (some ⟨g0, 0, none⟩) e.heads.length c0)).heap[w.heap.size + 1 + 1]? = some (.cells #[.slice (some ⟨g0, 0, none⟩) e.heads.length c0, .string ⟨#[]⟩, .string ⟨#[]⟩, .string ⟨#[]⟩, .slice none 0 0] 62) := by have := heap_setN (k := 0) k0_2 (.slice (some ⟨g0, 0, none⟩) e.heads.length c0); simpa using this
  have E1 := F0.setCell (p := ⟨w.heap.size + 1 + 1, 0, none⟩) (show w.heap.size ≤ w.heap.size + 1 + 1 by omega) (.slice (some ⟨g0, 0, none⟩) e.heads.length c0)
  have d2_0 := heap_other (o := 1) (g := w.heap.size + 1 + 1) d1_0 (.string ⟨e.ver.toArray⟩) (by omega)
  have d2_1 := heap_other (o := 1) (g := w.heap.size + 1 + 1) d1_1 (.string ⟨e.ver.toArray⟩) (by omega)
  have d2_2 : ((w1.setCell ⟨w.heap.size + 1 + 1, 0, none⟩ (.slice (some ⟨g0, 0, none⟩) e.heads.length c0)).setCell ⟨w.heap.size + 1 + 1, 1, none⟩ (.string ⟨e.ver.toArray⟩)).heap[w.heap.size + 1 + 1]? = some (.cells #[.slice (some ⟨g0, 0, none⟩) e.heads.length c0, .string ⟨e.ver.toArray⟩, .string ⟨#[]⟩, .string ⟨#[]⟩, .slice none 0 0] 62) := by have := heap_setN (k := 1) d1_2 (.string ⟨e.ver.toArray⟩); simpa using this
  have E2 := E1.setCell (p := ⟨w.heap.size + 1 + 1, 1, none⟩) (show w.heap.size ≤ w.heap.size + 1 + 1 by omega) (.string ⟨e.ver.toArray⟩)
  have d3_0 := heap_other (o := 2) (g := w.heap.size + 1 + 1) d2_0 (.string ⟨e.res.toArray⟩) (by omega)
  have d3_1 := heap_other (o := 2) (g := w.heap.size + 1 + 1) d2_1 (.string ⟨e.res.toArray⟩) (by omega)
  have d3_2 : (((w1.setCell ⟨w.heap.size + 1 + 1, 0, none⟩ (.slice (some ⟨g0, 0, none⟩) e.heads.length c0)).setCell ⟨w.heap.size + 1 + 1, 1, none⟩ (.string ⟨e.ver.toArray⟩)).setCell ⟨w.heap.size + 1 + 1, 2, none⟩ (.string ⟨e.res.toArray⟩)).heap[w.heap.size + 1 + 1]? = some (.cells #[.slice (some ⟨g0, 0, none⟩) e.heads.length c0, .string ⟨e.ver.toArray⟩, .string ⟨e.res.toArray⟩, .string ⟨#[]⟩, .slice none 0 0] 62) := by have := heap_setN (k := 2) d2_2 (.string ⟨e.res.toArray⟩); simpa using this
  have E3 := E2.setCell (p := ⟨w.heap.size + 1 + 1, 2, none⟩) (show w.heap.size ≤ w.heap.size + 1 + 1 by omega) (.string ⟨e.res.toArray⟩)
  have d4_0 := heap_other (o := 3) (g := w.heap.size + 1 + 1) d3_0 (.string ⟨e.int.toArray⟩) (by omega)
  have d4_1 := heap_other (o := 3) (g := w.heap.size + 1 + 1) d3_1 (.string ⟨e.int.toArray⟩) (by omega)
  have d4_2 : ((((w1.setCell ⟨w.heap.size + 1 + 1, 0, none⟩ (.slice (some ⟨g0, 0, none⟩) e.heads.length c0)).setCell ⟨w.heap.size + 1 + 1, 1, none⟩ (.string ⟨e.ver.toArray⟩)).setCell ⟨w.heap.size + 1 + 1, 2, none⟩ (.string ⟨e.res.toArray⟩)).setCell ⟨w.heap.size + 1 + 1, 3, none⟩ (.string ⟨e.int.toArray⟩)).heap[w.heap.size + 1 + 1]? = some (.cells #[.slice (some ⟨g0, 0, none⟩) e.heads.length c0, .string ⟨e.ver.toArray⟩, .string ⟨e.res.toArray⟩, .string ⟨e.int.toArray⟩, .slice none 0 0] 62) := by have := heap_setN (k := 3) d3_2 (.string ⟨e.int.toArray⟩); simpa using this
  have E4 := E3.setCell (p := ⟨w.heap.size + 1 + 1, 3, none⟩) (show w.heap.size ≤ w.heap.size + 1 + 1 by omega) (.string ⟨e.int.toArray⟩)
  have O0_4 := (Ndk.Nds.other (Ndk.Nds.other (Ndk.Nds.other (Ndk.Nds.other O0' (w.heap.size + 1 + 1) 0 (.slice (some ⟨g0, 0, none⟩) e.heads.length c0) (by omega)) (w.heap.size + 1 + 1) 1 (.string ⟨e.ver.toArray⟩) (by omega)) (w.heap.size + 1 + 1) 2 (.string ⟨e.res.toArray⟩) (by omega)) (w.heap.size + 1 + 1) 3 (.string ⟨e.int.toArray⟩) (by omega))
  refine (HA1.out _ E4).mono ?_
  rintro x w5 ⟨g1, c1, rfl, O1, hb5⟩
  have F4 := E4.trans (hb5.mono (by first | exact E4.size | (have := E4.size; simp at this ⊢; omega)))
  have k4_0 := keepB d4_0 hb5
  have k4_1 := keepB d4_1 hb5
  have k4_2 := keepB d4_2 hb5
  have O0_4b := O0_4.below hb5
  have O1' := O1.weaken (base' := w.heap.size + 3) (by first | (simp; done) | (have := E4.size; simp at this ⊢; omega))
  have hz4 : w.heap.size + 3 ≤ w5.heap.size := by have := lt_of_heap k4_2; omega
  clear hb5 O1
  obtain ⟨p4_0, p4_1, p4_2, p4_3, p4_4⟩ := cells5 k4_0
  obtain ⟨r4_0, r4_1, r4_2, r4_3, r4_4⟩ := cells5 k4_2
  obtain ⟨t4_0, t4_1, t4_2, t4_3, t4_4⟩ := cells5 k4_1
  have fa4 := frozen5 k4_2
  have fb4 := frozen5 k4_1
  go_wp2_with fail
  have d5_0 := heap_other (o := 4) (g := w.heap.size + 1 + 1) k4_0 (.slice (some ⟨g1, 0, none⟩) e.needs.length c1) (by omega)
  have d5_1 := heap_other (o := 4) (g := w.heap.size + 1 + 1) k4_1 (.slice (some ⟨g1, 0, none⟩) e.needs.length c1) (by omega)
  have d5_2 : (w5.setCell ⟨w.heap.size + 1 + 1, 4, none⟩ (.slice (some ⟨g1, 0, none⟩) e.needs.length c1)).heap[w.heap.size + 1 + 1]? = some (.cells #[.slice (some ⟨g0, 0, none⟩) e.heads.length c0, .string ⟨e.ver.toArray⟩, .string ⟨e.res.toArray⟩, .string ⟨e.int.toArray⟩, .slice (some ⟨g1, 0, none⟩) e.needs.length c1] 62) := by have := heap_setN (k := 4) k4_2 (.slice (some ⟨g1, 0, none⟩) e.needs.length c1); simpa using this
  have E5 := F4.setCell (p := ⟨w.heap.size + 1 + 1, 4, none⟩) (show w.heap.size ≤ w.heap.size + 1 + 1 by omega) (.slice (some ⟨g1, 0, none⟩) e.needs.length c1)
  refine bodyPost_ret (v := .agg #[.slice (some ⟨g0, 0, none⟩) e.heads.length c0, .string ⟨e.ver.toArray⟩, .string ⟨e.res.toArray⟩, .string ⟨e.int.toArray⟩, .slice (some ⟨g1, 0, none⟩) e.needs.length c1]) ?_ rfl ⟨_, _, rfl, ?_, ?_, ?_⟩
  · simp [results, Tryz.results44, go_sem, t4_0, t4_1, t4_2, t4_3, t4_4]
  · exact (Ndk.Nds.weaken (Ndk.Nds.other (Ndk.Nds.other (Ndk.Nds.other (Ndk.Nds.other (Ndk.Nds.other (Ndk.Nds.other O0_4b (w.heap.size + 1 + 1) 4 (.slice (some ⟨g1, 0, none⟩) e.needs.length c1) (by omega)) (w.heap.size + 1) _ _ (by omega)) (w.heap.size + 1) _ _ (by omega)) (w.heap.size + 1) _ _ (by omega)) (w.heap.size + 1) _ _ (by omega)) (w.heap.size + 1) _ _ (by omega)) (by omega))
  · exact (Ndk.Nds.weaken (Ndk.Nds.other (Ndk.Nds.other (Ndk.Nds.other (Ndk.Nds.other (Ndk.Nds.other (Ndk.Nds.other O1' (w.heap.size + 1 + 1) 4 (.slice (some ⟨g1, 0, none⟩) e.needs.length c1) (by omega)) (w.heap.size + 1) _ _ (by omega)) (w.heap.size + 1) _ _ (by omega)) (w.heap.size + 1) _ _ (by omega)) (w.heap.size + 1) _ _ (by omega)) (w.heap.size + 1) _ _ (by omega)) (by omega))
  · exact (((((E5.setCell (p := ⟨w.heap.size + 1, 0, none⟩) (show w.heap.size ≤ w.heap.size + 1 by omega) _).setCell (p := ⟨w.heap.size + 1, 1, none⟩) (show w.heap.size ≤ w.heap.size + 1 by omega) _).setCell (p := ⟨w.heap.size + 1, 2, none⟩) (show w.heap.size ≤ w.heap.size + 1 by omega) _).setCell (p := ⟨w.heap.size + 1, 3, none⟩) (show w.heap.size ≤ w.heap.size + 1 by omega) _).setCell (p := ⟨w.heap.size + 1, 4, none⟩) (show w.heap.size ≤ w.heap.size + 1 by omega) _)

set_option maxRecDepth 100000 in
set_option maxHeartbeats 2000000 in
theorem eqEntry_same (e : En) (a0 a1 a0' a1' : Value) (w : World) (ha0 : RdB w a0 e.heads) (ha1 : RdB w a1 e.needs) (hb0 : RdB w a0' e.heads) (hb1 : RdB w a1' e.needs) (hs : SmEn e) :
    Calls Tryz.prog 49 #[enV e a0 a1, enV e a0' a1'] w fun x w' => x = .returned (.bool true) ∧ Below w.heap.size w w' := by
  have HA0 := Lib.hid (fun (W : World) (h : Below w.heap.size w W) => Ndk.eqNeedS_same a0 a0' e.heads W (ha0.below h) (hb0.below h) (by have := hs.heads; omega))
  have HA1 := Lib.hid (fun (W : World) (h : Below w.heap.size w W) => Ndk.eqNeedS_same a1 a1' e.needs W (ha1.below h) (hb1.below h) (by have := hs.needs; omega))
  obtain ⟨A, ca, rfl⟩ := rdB_slice ha0
  obtain ⟨B, cb, rfl⟩ := rdB_slice ha1
  obtain ⟨A', ca', rfl⟩ := rdB_slice hb0
  obtain ⟨B', cb', rfl⟩ := rdB_slice hb1
  unfold enV
  clear ha0 hb0 ha1 hb1 hs
  have B0 : Below w.heap.size w ((w.alloc (.cells #[.slice A e.heads.length ca, .string ⟨e.ver.toArray⟩, .string ⟨e.res.toArray⟩, .string ⟨e.int.toArray⟩, .slice B e.needs.length cb] 62)).alloc (.cells #[.slice A' e.heads.length ca', .string ⟨e.ver.toArray⟩, .string ⟨e.res.toArray⟩, .string ⟨e.int.toArray⟩, .slice B' e.needs.length cb'] 62)) := ((Below.refl _ _).alloc (Nat.le_refl _) _).alloc (by simp) _
  have b0 := keepA (heap_alloc_new w (.cells #[.slice A e.heads.length ca, .string ⟨e.ver.toArray⟩, .string ⟨e.res.toArray⟩, .string ⟨e.int.toArray⟩, .slice B e.needs.length cb] 62)) (.cells #[.slice A' e.heads.length ca', .string ⟨e.ver.toArray⟩, .string ⟨e.res.toArray⟩, .string ⟨e.int.toArray⟩, .slice B' e.needs.length cb'] 62)
  have b1 := heap_new (W := w.alloc (.cells #[.slice A e.heads.length ca, .string ⟨e.ver.toArray⟩, .string ⟨e.res.toArray⟩, .string ⟨e.int.toArray⟩, .slice B e.needs.length cb] 62)) (n := w.heap.size + 1) (by simp) (.cells #[.slice A' e.heads.length ca', .string ⟨e.ver.toArray⟩, .string ⟨e.res.toArray⟩, .string ⟨e.int.toArray⟩, .slice B' e.needs.length cb'] 62)
  go_enter Tryz.func49, Tryz.ntmps49
  go_wp2_with fail
  refine (HA0.out _ B0).mono ?_
  rintro x w1 ⟨rfl, hb1⟩
  have C1 := B0.trans (hb1.mono B0.size)
  have m1 := keepB b0 hb1
  have n1 := keepB b1 hb1
  obtain ⟨p0_0, p0_1, p0_2, p0_3, p0_4⟩ := cells5 m1
  obtain ⟨r0_0, r0_1, r0_2, r0_3, r0_4⟩ := cells5 n1
  clear hb1
  go_wp2_with fail
  refine (HA1.out _ C1).mono ?_
  rintro x w2 ⟨rfl, hb2⟩
  have C2 := C1.trans (hb2.mono C1.size)
  have m2 := keepB m1 hb2
  have n2 := keepB n1 hb2
  obtain ⟨p1_0, p1_1, p1_2, p1_3, p1_4⟩ := cells5 m2
  obtain ⟨r1_0, r1_1, r1_2, r1_3, r1_4⟩ := cells5 n2
  clear hb2
  go_wp2_with fail
  go_ret
  exact ⟨rfl, C2⟩

set_option maxRecDepth 100000 in
set_option maxHeartbeats 2000000 in
theorem szEntryS_any (v : Value) (ps : List En) (left : Int) (w : World) (hr : RdEs w v ps) (h0 : 0 ≤ left) (h1 : left ≤ 1048576) (hn : ps.length ≤ maxLen) (hm : ∀ p ∈ ps, EnFits p) :
    Calls Tryz.prog 11 #[v, .int .i64 left] w fun e w' => e = .returned (.int .i64 (szEs left ps)) ∧ Below w.heap.size w w' := by
  have HR := Lib.hid hr
  obtain ⟨A, ca, rfl, ha⟩ := hr
  have HM := Lib.hid hm
  clear hm ha
  unfold maxLen at hn
  by_cases hl : (ps.length : Int) ≤ left
  · go_enter Tryz.func11, Tryz.ntmps11
    go_wp2
    go_loopw [1, 5] (fun m i wr => ∃ (k : Nat) (z : Int), k ≤ ps.length ∧ i = .int .i64 k ∧ m = .int .i64 z ∧ 0 ≤ z ∧ z ≤ 1048576 ∧ Hid (z = left - (ps.length : Int) - (smE (ps.take k) : Int)) ∧ Below w.heap.size w wr) (fun _ i _ => ps.length - (intOf i).toNat)
    case atStart => exact ⟨0, _, Nat.zero_le _, rfl, rfl, by omega, by omega, Lib.hid (by simp [smE]), Below.refl _ _⟩
    case round =>
      obtain ⟨k, z, hk, rfl, rfl, z0, z1, HZ, hb⟩ := hrel
      by_cases hlt : k < ps.length
      · obtain ⟨g, off, rfl, _, a0, a1, d0, d1, d2, d3, d4, ra0, ra1⟩ := (HR.out.below hb).at k hlt
        have HC := Lib.hid (szEntry_any ps[k] a0 a1 z wr ra0 ra1 z0 z1 (HM.out ps[k] (List.getElem_mem hlt)))
        obtain ⟨A1, c1, rfl⟩ := rdB_slice ra0
        obtain ⟨A2, c2, rfl⟩ := rdB_slice ra1
        have k0 : (0 : Int) ≤ (k : Int) := by omega
        have k1 : (k : Int) < (ps.length : Int) := by omega
        have HS := Lib.hid (smE_snoc ps k hlt)
        have HT := Lib.hid (smE_le ps (k + 1))
        clear ra0 ra1
        by_cases hz : (wEn ps[k] : Int) ≤ z
        · have HO := Lib.hid (szEn_yes hz)
          have hz2 : (0 : Int) ≤ z - (wEn ps[k] : Int) := by omega
          have hz3 : z - (wEn ps[k] : Int) ≤ 1048576 := by omega
          obtain ⟨y, hy⟩ : ∃ y, y = z - (wEn ps[k] : Int) := ⟨_, rfl⟩
          rw [← hy] at HO hz2 hz3
          go_wp2_with fail
          refine HC.out.mono ?_
          rw [HO.out]
          rintro e w1 ⟨rfl, hb1⟩
          have B1 := hb.trans (hb1.mono hb.size)
          go_wp2_with fail
          go_roundw
          case rel => exact ⟨k + 1, _, by omega, by go_num, rfl, by omega, by omega, Lib.hid (by have := HZ.out; have := HS.out; omega), B1⟩
          case measure => simp [intOf]; omega
        · have HO := Lib.hid (szEn_no hz)
          have HW : Hid (szEs left ps = -1) := Lib.hid (szEs_no (by have := HZ.out; have := HS.out; have := HT.out; omega))
          go_wp2_with fail
          refine HC.out.mono ?_
          rw [HO.out]
          rintro e w1 ⟨rfl, hb1⟩
          have B1 := hb.trans (hb1.mono hb.size)
          go_wp2_with fail
          go_ret
          exact ⟨ret_int HW.out.symm, B1⟩
      · have HX : Hid (szEs left ps = z) := Lib.hid (by
          have hz := HZ.out
          rw [List.take_of_length_le (by omega)] at hz
          rw [szEs_yes (by omega)]; omega)
        go_wp2_with fail
        go_ret
        exact ⟨ret_int HX.out.symm, hb⟩
  · have HX : Hid (szEs left ps = -1) := Lib.hid (szEs_no (by omega))
    go_enter Tryz.func11, Tryz.ntmps11
    go_wp2
    go_ret
    exact ⟨ret_int HX.out.symm, Below.refl _ _⟩

set_option maxRecDepth 100000 in
set_option maxHeartbeats 2000000 in
theorem toEntryS_any (v : Value) (ps : List En) (w : World) (hr : RdEs w v ps) (hs : SmEs ps) :
    Calls Tryz.prog 13 #[v] w fun e w' => ∃ u, e = .returned u ∧ EnsOwn w' w.heap.size u ps ∧ Below w.heap.size w w' := by
  have HR := Lib.hid hr
  have HS := Lib.hid hs
  have hl : ps.length ≤ 1048576 := by unfold SmEs at hs; omega
  obtain ⟨A, ca, rfl, ha⟩ := hr
  obtain ⟨i0, hi, hz0, hz1, hz2⟩ := info_parts eninfo
  go_enter Tryz.func13, Tryz.ntmps13
  go_wp2_with (at_make; refine wpList_make_full _ rfl _ _ 25 rfl w.heap.size 62 i0 (.agg #[.slice none 0 0, .string ⟨#[]⟩, .string ⟨#[]⟩, .string ⟨#[]⟩, .slice none 0 0]) 5 Tryz.underlying25 hi hz0 hz1 .i64 .i64 _ _ ps.length rfl rfl rfl rfl (by rw [hz2]; omega) (by unfold maxLen; omega) (Nat.le_refl _) ?_; intro w1 hown1 hg1)
  have hS1 := en_made hown1
  have hb1 : Below w.heap.size w w1 := (Below.refl _ _).grown hg1 (Nat.le_refl _) (by simp)
  have hz3 : w.heap.size < w1.heap.size := by
    rcases hown1.2 with ⟨hv, _⟩ | ⟨g, cap, cur, hv, hb, hh, _⟩
    · cases hv
    · simp only [Value.slice.injEq, Option.some.injEq, Addr.mk.injEq] at hv
      have := lt_of_heap hh; omega
  clear hown1 hg1 hi hz0 hz1 hz2 ha hs
  go_loopw [4] (fun i wr => ∃ (k : Nat) (qs : List EnV), k ≤ ps.length ∧ i = .int .i64 k ∧ qs.map (·.1) = ps.take k ∧ Entries wr w.heap.size (.slice (some ⟨w.heap.size, 0, none⟩) ps.length ps.length) (tkE qs ps.length) ∧ Hid (∀ q ∈ qs, EnOwn wr (w.heap.size + 1) q) ∧ Below w.heap.size w wr ∧ w.heap.size < wr.heap.size) (fun i _ => ps.length - (intOf i).toNat)
  case atStart => exact ⟨0, [], Nat.zero_le _, rfl, by simp, by simpa [tkE] using hS1, Lib.hid (fun q h => by cases h), hb1, hz3⟩
  case round =>
    obtain ⟨k, qs, hk, rfl, hq, hS, HQ, hb, hgt⟩ := hrel
    have hqk : qs.length = k := by have := congrArg List.length hq; simp at this; omega
    by_cases hlt : k < ps.length
    · obtain ⟨g, off, rfl, _, a0, a1, d0, d1, d2, d3, d4, ra0, ra1⟩ := (HR.out.below hb).at k hlt
      have HC := Lib.hid (toEntry_any ps[k] a0 a1 wr ra0 ra1 (HS.out.get k hlt))
      obtain ⟨A1, c1, rfl⟩ := rdB_slice ra0
      obtain ⟨A2, c2, rfl⟩ := rdB_slice ra1
      have k0 : (0 : Int) ≤ (k : Int) := by omega
      have k1 : (k : Int) < (ps.length : Int) := by omega
      clear ra0 ra1 hS1 hb1 hz3
      go_wp2_with fail
      refine HC.out.mono ?_
      rintro e w2 ⟨u0, u1, rfl, hA0, hA1, hb2⟩
      obtain ⟨g0, j0, rfl⟩ := hA0.slice
      obtain ⟨g1, j1, rfl⟩ := hA1.slice
      have hS2 := hS.below hb2
      have hS' : Entries w2 w.heap.size (.slice (some ⟨w.heap.size, 0, none⟩) (tkE qs ps.length).length ps.length) (tkE qs ps.length) := by rw [tkE_len qs _ (by omega)]; exact hS2
      obtain ⟨f0, f1, f2, f3, f4⟩ := hS2.cell k (by rw [tkE_len qs _ (by omega)]; exact hlt)
      have fz : ∀ j, w2.frozen? ⟨w.heap.size, j, none⟩ = false := fun j => World.ownsRow.frozenAt hS' j
      have B2 := hb.trans (hb2.mono hb.size)
      have hq' : (qs ++ [(ps[k], Value.slice g0 ps[k].heads.length j0, Value.slice g1 ps[k].needs.length j1)]).map (·.1) = ps.take (k + 1) := by
        rw [List.map_append, hq, List.take_succ_eq_append_getElem hlt]; rfl
      have HQ2 : Hid (∀ q ∈ qs ++ [(ps[k], Value.slice g0 ps[k].heads.length j0, Value.slice g1 ps[k].needs.length j1)], EnOwn w2 (w.heap.size + 1) q) := Lib.hid (by
        intro q hq
        rcases List.mem_append.1 hq with h | h
        · exact (HQ.out q h).below hb2
        · simp at h; subst h; exact ⟨hA0.weaken (by omega), hA1.weaken (by omega)⟩)
      have hgt2 : w.heap.size < w2.heap.size := Nat.lt_of_lt_of_le hgt hb2.size
      have HP := Lib.hid (hS'.set k (ps[k], Value.slice g0 ps[k].heads.length j0, Value.slice g1 ps[k].needs.length j1))
      have HT := Lib.hid (by have := tkE_set qs ps.length (by omega) (ps[k], Value.slice g0 ps[k].heads.length j0, Value.slice g1 ps[k].needs.length j1); rw [hqk] at this; exact this)
      have HQ3 := Lib.hid (fun q h => (HQ2.out q h).put w.heap.size (k * 5) (ps[k], Value.slice g0 ps[k].heads.length j0, Value.slice g1 ps[k].needs.length j1) (by omega))
      have HB3 := Lib.hid (below_putE (o := k * 5) (q := (ps[k], Value.slice g0 ps[k].heads.length j0, Value.slice g1 ps[k].needs.length j1)) B2 (Nat.le_refl _))
      rw [HT.out, tkE_len _ _ (by simp; omega)] at HP
      simp only [putE] at HP HQ3 HB3
      clear hS hb hb2 d0 d1 d2 d3 d4 HQ hA0 hA1 hS' HQ2 B2 HT HC
      go_wp2_with fail
      go_roundw
      case rel => exact ⟨k + 1, _, by omega, by go_num, hq', HP.out, HQ3, HB3.out, by simp only [World.size_setCell]; exact hgt2⟩
      case measure => simp [intOf]; omega
    · obtain rfl : k = ps.length := by omega
      clear hS1 hb1
      go_wp2_with fail
      go_ret
      refine ⟨_, rfl, ⟨w.heap.size, _, qs, rfl, Nat.le_refl _, hgt, by rw [hq]; simp, ?_, HQ.out⟩, hb⟩
      simpa [tkE, hqk] using hS

set_option maxRecDepth 100000 in
set_option maxHeartbeats 2000000 in
theorem eqEntryS_same (va vb : Value) (ps : List En) (w : World) (ha : RdEs w va ps) (hb : RdEs w vb ps) (hs : SmEs ps) :
    Calls Tryz.prog 15 #[va, vb] w fun e w' => e = .returned (.bool true) ∧ Below w.heap.size w w' := by
  have HA := Lib.hid ha
  have HB := Lib.hid hb
  have HS := Lib.hid hs
  have hl : ps.length ≤ 1048576 := by unfold SmEs at hs; omega
  obtain ⟨A, ca, rfl, ha⟩ := ha
  obtain ⟨B, cb, rfl, hb⟩ := hb
  have q0 : ((ps.length : Int) != (ps.length : Int)) = false := int_bne_false rfl
  clear ha hb hs
  go_enter Tryz.func15, Tryz.ntmps15
  go_wp2_with fail
  go_loopw [5] (fun i wr => ∃ k : Nat, k ≤ ps.length ∧ i = .int .i64 k ∧ Below w.heap.size w wr) (fun i _ => ps.length - (intOf i).toNat)
  case atStart => exact ⟨0, Nat.zero_le _, rfl, Below.refl _ _⟩
  case round =>
    obtain ⟨k, hk, rfl, hw⟩ := hrel
    by_cases hlt : k < ps.length
    · obtain ⟨g, off, rfl, hg, a0, a1, d0, d1, d2, d3, d4, ra0, ra1⟩ := (HA.out.below hw).at k hlt
      obtain ⟨g', off', rfl, hg', a0', a1', e0, e1, e2, e3, e4, rb0, rb1⟩ := (HB.out.below hw).at k hlt
      have HC := Lib.hid (fun (W : World) (h : Below wr.heap.size wr W) => eqEntry_same ps[k] a0 a1 a0' a1' W (ra0.below h) (ra1.below h) (rb0.below h) (rb1.below h) (HS.out.get k hlt))
      obtain ⟨A1, c1, rfl⟩ := rdB_slice ra0
      obtain ⟨A2, c2, rfl⟩ := rdB_slice ra1
      obtain ⟨A1', c1', rfl⟩ := rdB_slice rb0
      obtain ⟨A2', c2', rfl⟩ := rdB_slice rb1
      have k0 : (0 : Int) ≤ (k : Int) := by omega
      have k1 : (k : Int) < (ps.length : Int) := by omega
      clear ra0 rb0 ra1 rb1
      go_wp2_with fail
      go_region_with (first | (go_at_call 49; refine (HC.out _ (below_drewN _ _ 1)).mono ?_; rintro e w1 ⟨rfl, hb1⟩))
      all_goals
        go_wp2_with fail
        go_roundw
        case rel => exact ⟨k + 1, by omega, by go_num, hw.trans ((below_drewN _ _ 1).trans (hb1.mono (by first | exact Nat.le_refl _ | exact hw.size)))⟩
        case measure => simp [intOf]; omega
    · go_wp2_with fail
      go_ret
      exact ⟨rfl, hw⟩
end Go.Proofs.YtnodhkjgnegkcaaGreatDoor

/-
  Which entry bears a head, in plain words; spec.Resolve.
-/
namespace Go.Proofs.YtnodhkjgnegkcaaGreatDoor
open Go.RowKit

/-- The first entry from k on that bears the head n, counted from k. -/
def resE (n : Bd) : List En → Nat → Int
  | [], _ => -1
  | e :: es, k => if n ∈ e.heads then (k : Int) else resE n es (k + 1)
/-- The first entry that bears n, from entry k on. -/
def resK (es : List En) (n : Bd) (k : Nat) : Int := resE n (es.drop k) k
theorem resK_end (es : List En) (n : Bd) : resK es n es.length = -1 := by unfold resK; rw [List.drop_eq_nil_of_le (Nat.le_refl _)]; rfl
theorem resK_hit {es : List En} {n : Bd} {k : Nat} (hk : k < es.length) (h : n ∈ es[k].heads) : resK es n k = k := by
  unfold resK; rw [List.drop_eq_getElem_cons hk]; unfold resE; rw [if_pos h]
theorem resK_miss {es : List En} {n : Bd} {k : Nat} (hk : k < es.length) (h : n ∉ es[k].heads) : resK es n k = resK es n (k + 1) := by
  unfold resK; rw [List.drop_eq_getElem_cons hk]; conv => lhs; unfold resE; rw [if_neg h]
theorem resE_lt (n : Bd) : ∀ (es : List En) (k : Nat), -1 ≤ resE n es k ∧ resE n es k < (k + es.length : Nat) + 1
  | [], k => by unfold resE; simp; omega
  | e :: es, k => by
    have := resE_lt n es (k + 1)
    unfold resE; split <;> simp at * <;> omega
theorem drop_miss {n : Bd} {l : List Bd} {m : Nat} (hm : m < l.length) (h : l[m] ≠ n) : n ∈ l.drop m ↔ n ∈ l.drop (m + 1) := by
  rw [List.drop_eq_getElem_cons hm, List.mem_cons]
  exact ⟨fun h' => h'.resolve_left (fun e => h e.symm), .inr⟩
theorem drop_hit {n : Bd} {l : List Bd} {m : Nat} (hm : m < l.length) (h : l[m] = n) : n ∈ l := h ▸ List.getElem_mem hm
theorem RdB.atR {w : World} {A : Option Addr} {n cap : Nat} {bs : List Bd} (h : RdB w (.slice A n cap) bs) (k : Nat) (hk : k < bs.length) : ∃ g off, A = some ⟨g, off, none⟩ ∧ g < w.heap.size ∧ w.cell? ⟨g, off + k * 2, none⟩ = some (.string ⟨bs[k].1.toArray⟩) ∧ w.cell? ⟨g, off + k * 2 + 1, none⟩ = some (.string ⟨bs[k].2.toArray⟩) := by
  obtain ⟨A', ca', hv, ha⟩ := h
  simp only [Value.slice.injEq] at hv
  obtain ⟨rfl, _, rfl⟩ := hv
  obtain ⟨g, off, hA, hg, hc⟩ := ha (by omega)
  exact ⟨g, off, hA, hg, hc k hk⟩

set_option maxRecDepth 100000 in
set_option maxHeartbeats 4000000 in
theorem specResolve_any (v : Value) (es : List En) (n : Bd) (w : World) (hr : RdEs w v es) (hl : es.length ≤ 1048576) (hs : ∀ e ∈ es, e.heads.length ≤ 1048576) :
    Calls Tryz.prog 43 #[v, .agg #[.string ⟨n.1.toArray⟩, .string ⟨n.2.toArray⟩]] w fun e w' => e = .returned (.int .i64 (resK es n 0)) ∧ Below w.heap.size w w' := by
  obtain ⟨n1, n2⟩ := n
  simp only
  have HR := Lib.hid hr
  have HS := Lib.hid hs
  obtain ⟨A, ca, rfl, _⟩ := hr
  have B0 : Below w.heap.size w (w.alloc (.cells #[.string ⟨n1.toArray⟩, .string ⟨n2.toArray⟩] 65)) := (Below.refl _ _).alloc (Nat.le_refl _) _
  have b0 := heap_alloc_new w (.cells #[.string ⟨n1.toArray⟩, .string ⟨n2.toArray⟩] 65)
  clear hs
  go_enter Tryz.func43, Tryz.ntmps43
  go_wp2_with fail
  generalize w.alloc (.cells #[.string ⟨n1.toArray⟩, .string ⟨n2.toArray⟩] 65) = W0 at B0 b0 ⊢
  go_loopw [5] (fun i wr => ∃ k : Nat, k ≤ es.length ∧ i = .int .i64 k ∧ wr.heap[w.heap.size]? = some (.cells #[.string ⟨n1.toArray⟩, .string ⟨n2.toArray⟩] 65) ∧ Below w.heap.size w wr ∧ Hid (resK es (n1, n2) 0 = resK es (n1, n2) k)) (fun i _ => es.length - (intOf i).toNat)
  case atStart => exact ⟨0, Nat.zero_le _, rfl, b0, B0, Lib.hid rfl⟩
  case round =>
    obtain ⟨k, hk, rfl, hb, hB, HK⟩ := hrel
    clear b0 B0
    by_cases hlt : k < es.length
    · obtain ⟨g, off, rfl, hg, a0, a1, d0, d1, d2, d3, d4, r0, r1⟩ := (HR.out.below hB).at k hlt
      have hnl := HS.out _ (List.getElem_mem hlt)
      have HRB := Lib.hid r0
      obtain ⟨A1, c1, rfl, _⟩ := r0
      obtain ⟨nl, HNL⟩ : ∃ nl, Hid (es[k].heads.length = nl) := ⟨_, Lib.hid rfl⟩
      rw [HNL.out] at d0 hnl HRB
      have k0 : (0 : Int) ≤ (k : Int) := by omega
      have k1 : (k : Int) < (es.length : Int) := by omega
      obtain ⟨x0, x1⟩ := cellsG hb
      clear d1 d2 d3 d4 r1
      go_wp2_with fail
      go_loopw [6] (fun j W => ∃ m : Nat, m ≤ nl ∧ j = .int .i64 m ∧ Below wr.heap.size wr W ∧ Hid ((n1, n2) ∈ es[k].heads ↔ (n1, n2) ∈ es[k].heads.drop m)) (fun j _ => nl - (intOf j).toNat)
      case atStart => exact ⟨0, Nat.zero_le _, rfl, Below.refl _ _, Lib.hid (by simp)⟩
      case round =>
        obtain ⟨m, hm, rfl, hW, HM⟩ := hrel
        have hb2 := keepB hb hW
        obtain ⟨y0, y1⟩ := cellsG hb2
        have d2 := keepC hW d0
        have gW := Nat.lt_of_lt_of_le hg hW.size
        by_cases hmt : m < nl
        · have hmt' : m < es[k].heads.length := by rw [HNL.out]; exact hmt
          obtain ⟨g2, off2, rfl, hg2, e0, e1⟩ := RdB.atR (HRB.out.below hW) m hmt'
          have m0 : (0 : Int) ≤ (m : Int) := by omega
          have m1 : (m : Int) < (nl : Int) := by omega
          obtain ⟨pr, HP⟩ : ∃ pr, Hid (es[k].heads[m] = pr) := ⟨_, Lib.hid rfl⟩
          rw [HP.out] at e0 e1
          obtain ⟨q1, q2⟩ := pr
          simp only at e0 e1
          have HX := Lib.hid (resK_hit (n := (n1, n2)) hlt)
          by_cases c1 : q1 = n1
          · by_cases c2 : q2 = n2
            · subst c1 c2
              have HY : Hid (resK es (q1, q2) 0 = k) := Lib.hid (HK.out.trans (HX.out (drop_hit hmt' HP.out)))
              clear HX HM HK HP hmt'
              go_wp2_with fail
              go_quiet (fail)
              go_wp2_with fail
              go_ret
              exact ⟨by rw [HY.out]; rfl, (hB.trans (hW.mono hB.size)).trans (below_drewN _ _ _)⟩
            · subst c1
              have HY := Lib.hid (HM.out.trans (drop_miss hmt' (by rw [HP.out]; intro h; exact c2 (by injection h))))
              clear HX HM HP hmt'
              go_wp2_with fail
              go_quiet (fail)
              go_wp2_with fail
              go_roundw
              case rel => exact ⟨m + 1, by omega, by go_num, hW.trans (below_drewN _ _ _), HY⟩
              case measure => simp [intOf]; omega
          · have HY := Lib.hid (HM.out.trans (drop_miss hmt' (by rw [HP.out]; intro h; exact c1 (by injection h))))
            clear HX HM HP hmt'
            go_wp2_with fail
            go_quiet (fail)
            go_wp2_with fail
            go_roundw
            case rel => exact ⟨m + 1, by omega, by go_num, hW.trans (below_drewN _ _ _), HY⟩
            case measure => simp [intOf]; omega
        · obtain rfl : m = nl := by omega
          have HY : Hid (resK es (n1, n2) 0 = resK es (n1, n2) (k + 1)) := Lib.hid (HK.out.trans (resK_miss hlt (fun h => by have h' := HM.out.1 h; rw [List.drop_eq_nil_of_le (by rw [HNL.out]; exact Nat.le_refl _)] at h'; cases h')))
          clear HM HK
          go_wp2_with fail
          go_roundw
          case rel => exact ⟨k + 1, by omega, by go_num, hb2, hB.trans (hW.mono hB.size), HY⟩
          case measure => simp [intOf]; omega
    · obtain rfl : k = es.length := by omega
      go_wp2_with fail
      go_ret
      exact ⟨by rw [HK.out, resK_end]; rfl, hB⟩
end Go.Proofs.YtnodhkjgnegkcaaGreatDoor

namespace Go.Proofs.YtnodhkjgnegkcaaGreatDoor
open Go.RowKit

/-- Whether a bound takes the version of these numbers and identifiers. -/
def takes (b : Bd) (a0 a1 a2 : Int) (p : List (List UInt8)) : Bool :=
  if (readOk b.1 && decide (cmpVer a0 a1 a2 p (readA b.1 0) (readA b.1 1) (readA b.1 2) (readP b.1) < 0)) || (readOk b.2 && decide (0 ≤ cmpVer a0 a1 a2 p (readA b.2 0) (readA b.2 1) (readA b.2 2) (readP b.2))) then false
  else ((p.length : Int) == 0) || (decide (0 < (readP b.1).length) && ((readA b.1 0 == a0) && (readA b.1 1 == a1) && (readA b.1 2 == a2)))
theorem readP_Sm {l : List UInt8} (h : l.length ≤ 1048576) : Sm (readP l) := by
  unfold readP; split
  · exact tail_sm h
  · exact sm_nil
theorem cellsB {V : World} {B : Nat} {T : TypeId} {v0 v1 : Value} (h : V.heap[B]? = some (.cells #[v0, v1] T)) : V.cell? ⟨B, 0, none⟩ = some v0 ∧ V.cell? ⟨B, 1, none⟩ = some v1 := by
  simp [World.cell?, h]
theorem readP_no {l : List UInt8} (h : readOk l = false) : readP l = [] := by unfold readP; rw [h]; rfl

set_option maxRecDepth 100000 in
set_option maxHeartbeats 4000000 in
theorem l03Takes_any (x y : ByteArray) (a0 a1 a2 : Int) (vp : Value) (p : List (List UInt8)) (w : World) (hr : RdS w vp p) (hp : Sm p) (sx : x.size ≤ 1048576) (sy : y.size ≤ 1048576) :
    Calls Tryz.prog 139 #[.agg #[.string x, .string y], .agg #[.int .i64 a0, .int .i64 a1, .int .i64 a2, vp]] w fun e w' => e = .returned (.bool (takes (x.data.toList, y.data.toList) a0 a1 a2 p)) ∧ Below w.heap.size w w' := by
  have HP := Lib.hid hp
  have HR := Lib.hid (fun (W : World) (h : Below w.heap.size w W) => hr.below h)
  obtain ⟨pA, pc, rfl, _⟩ := hr
  have hpl := hp.1
  have hL5 := readP_sm x.data.toList
  have HSL : Hid (Sm (readP x.data.toList)) := Lib.hid (readP_Sm (by simpa using sx))
  have HSH : Hid (Sm (readP y.data.toList)) := Lib.hid (readP_Sm (by simpa using sy))
  clear hp
  obtain ⟨r, HRR⟩ : ∃ r, Hid (takes (x.data.toList, y.data.toList) a0 a1 a2 p = r) := ⟨_, Lib.hid rfl⟩
  rw [HRR.out]
  obtain ⟨okL, HOL⟩ : ∃ z, Hid (readOk x.data.toList = z) := ⟨_, Lib.hid rfl⟩
  obtain ⟨okH, HOH⟩ : ∃ z, Hid (readOk y.data.toList = z) := ⟨_, Lib.hid rfl⟩
  obtain ⟨cL, HCL⟩ : ∃ z, Hid (cmpVer a0 a1 a2 p (readA x.data.toList 0) (readA x.data.toList 1) (readA x.data.toList 2) (readP x.data.toList) = z) := ⟨_, Lib.hid rfl⟩
  obtain ⟨cH, HCH⟩ : ∃ z, Hid (cmpVer a0 a1 a2 p (readA y.data.toList 0) (readA y.data.toList 1) (readA y.data.toList 2) (readP y.data.toList) = z) := ⟨_, Lib.hid rfl⟩
  have HT : Hid (r = if (okL && decide (cL < 0)) || (okH && decide (0 ≤ cH)) then false else ((p.length : Int) == 0) || (decide (0 < (readP x.data.toList).length) && ((readA x.data.toList 0 == a0) && (readA x.data.toList 1 == a1) && (readA x.data.toList 2 == a2)))) := Lib.hid (by rw [← HRR.out, ← HOL.out, ← HOH.out, ← HCL.out, ← HCH.out]; rfl)
  have HN : Hid (okL = false → (readP x.data.toList).length = 0) := Lib.hid (fun h => by rw [readP_no (HOL.out.trans h)]; rfl)
  obtain ⟨m, HM⟩ : ∃ m, Hid ((readP x.data.toList).length = m) := ⟨_, Lib.hid rfl⟩
  obtain ⟨mh, HMH⟩ : ∃ m, Hid ((readP y.data.toList).length = m) := ⟨_, Lib.hid rfl⟩
  obtain ⟨l0, HL0⟩ : ∃ z, Hid (readA x.data.toList 0 = z) := ⟨_, Lib.hid rfl⟩
  obtain ⟨l1, HL1⟩ : ∃ z, Hid (readA x.data.toList 1 = z) := ⟨_, Lib.hid rfl⟩
  obtain ⟨l2, HL2⟩ : ∃ z, Hid (readA x.data.toList 2 = z) := ⟨_, Lib.hid rfl⟩
  obtain ⟨h0, HH0⟩ : ∃ z, Hid (readA y.data.toList 0 = z) := ⟨_, Lib.hid rfl⟩
  obtain ⟨h1, HH1⟩ : ∃ z, Hid (readA y.data.toList 1 = z) := ⟨_, Lib.hid rfl⟩
  obtain ⟨h2, HH2⟩ : ∃ z, Hid (readA y.data.toList 2 = z) := ⟨_, Lib.hid rfl⟩
  rw [HM.out] at hL5
  have HT2 : Hid (r = if (okL && decide (cL < 0)) || (okH && decide (0 ≤ cH)) then false else ((p.length : Int) == 0) || (decide (0 < m) && ((l0 == a0) && (l1 == a1) && (l2 == a2)))) := Lib.hid (by rw [HT.out, HM.out, HL0.out, HL1.out, HL2.out])
  have HN2 : Hid (okL = false → m = 0) := Lib.hid (fun h => by rw [← HM.out]; exact HN.out h)
  clear HT HN HRR
  have B0 : Below w.heap.size w ((w.alloc (.cells #[.string x, .string y] 166)).alloc (.cells #[.int .i64 a0, .int .i64 a1, .int .i64 a2, .slice pA p.length pc] 117)) := ((Below.refl _ _).alloc (Nat.le_refl _) _).alloc (by simp) _
  have b0 := keepA (heap_alloc_new w (.cells #[.string x, .string y] 166)) (.cells #[.int .i64 a0, .int .i64 a1, .int .i64 a2, .slice pA p.length pc] 117)
  have v0 := heap_new (W := w.alloc (.cells #[.string x, .string y] 166)) (n := w.heap.size + 1) (by simp) (.cells #[.int .i64 a0, .int .i64 a1, .int .i64 a2, .slice pA p.length pc] 117)
  go_enter Tryz.func139, Tryz.ntmps139
  go_wp2_with fail
  refine (specReadVersion_any _ _ sx).mono ?_
  rintro e w1 ⟨u, rfl, hu, hb1⟩
  obtain ⟨uA, uc, rfl⟩ := hu.slice
  rw [HOL.out, HL0.out, HL1.out, HL2.out, HM.out]
  have B1 := B0.trans (hb1.mono B0.size)
  have b1 := keepB b0 hb1
  have v1 := keepB v0 hb1
  have hRL : RdS w1 (.slice uA m uc) (readP x.data.toList) := by have := RdS.of_strs hu; rw [HM.out] at this; exact this
  have z1 : w.heap.size + 1 < w1.heap.size := lt_of_heap v1
  have B1' := B1.alloc B1.size (.cells #[.int .i64 l0, .int .i64 l1, .int .i64 l2, .slice uA m uc] 117)
  have b1' := keepA b1 (.cells #[.int .i64 l0, .int .i64 l1, .int .i64 l2, .slice uA m uc] 117)
  have v1' := keepA v1 (.cells #[.int .i64 l0, .int .i64 l1, .int .i64 l2, .slice uA m uc] 117)
  have l1' := heap_alloc_new w1 (.cells #[.int .i64 l0, .int .i64 l1, .int .i64 l2, .slice uA m uc] 117)
  have hRL' := rdS_alloc hRL (.cells #[.int .i64 l0, .int .i64 l1, .int .i64 l2, .slice uA m uc] 117)
  obtain ⟨s0, s1⟩ := cellsB b1'
  clear B0 b0 v0 hb1 hu B1 b1 v1 hRL
  go_wp2_with fail
  refine (specReadVersion_any _ _ sy).mono ?_
  rintro e w2 ⟨t, rfl, ht, hb2⟩
  obtain ⟨tA, tc, rfl⟩ := ht.slice
  rw [HOH.out, HH0.out, HH1.out, HH2.out, HMH.out]
  have B2 := B1'.trans (hb2.mono B1'.size)
  have v2 := keepA (keepB v1' hb2) (.cells #[.int .i64 h0, .int .i64 h1, .int .i64 h2, .slice tA mh tc] 117)
  have lw := keepA (keepB l1' hb2) (.cells #[.int .i64 h0, .int .i64 h1, .int .i64 h2, .slice tA mh tc] 117)
  have hh := heap_alloc_new w2 (.cells #[.int .i64 h0, .int .i64 h1, .int .i64 h2, .slice tA mh tc] 117)
  have hRL2 := rdS_alloc (hRL'.below hb2) (.cells #[.int .i64 h0, .int .i64 h1, .int .i64 h2, .slice tA mh tc] 117)
  have hRH2 : RdS _ (.slice tA mh tc) (readP y.data.toList) := rdS_alloc (by have := RdS.of_strs ht; rw [HMH.out] at this; exact this) (.cells #[.int .i64 h0, .int .i64 h1, .int .i64 h2, .slice tA mh tc] 117)
  have B2' := B2.alloc B2.size (.cells #[.int .i64 h0, .int .i64 h1, .int .i64 h2, .slice tA mh tc] 117)
  have hRV2 := HR.out _ B2'
  clear b1' v1' l1' hRL' s0 s1 hb2 ht B2 B1'
  have CL : ∀ (W : World), Below (w2.alloc (.cells #[.int .i64 h0, .int .i64 h1, .int .i64 h2, .slice tA mh tc] 117)).heap.size (w2.alloc (.cells #[.int .i64 h0, .int .i64 h1, .int .i64 h2, .slice tA mh tc] 117)) W → Calls Tryz.prog 188 #[.agg #[.int .i64 a0, .int .i64 a1, .int .i64 a2, .slice pA p.length pc], .agg #[.int .i64 l0, .int .i64 l1, .int .i64 l2, .slice uA m uc]] W fun e w' => e = .returned (.int .i64 cL) ∧ Below W.heap.size W w' := fun W hW => by
    have := specCompareVersion_any a0 a1 a2 l0 l1 l2 _ _ p _ W (hRV2.below hW) (hRL2.below hW) HP.out HSL.out
    rw [← HL0.out, ← HL1.out, ← HL2.out, HCL.out] at this
    rw [← HL0.out, ← HL1.out, ← HL2.out]
    exact this
  have CH : ∀ (W : World), Below (w2.alloc (.cells #[.int .i64 h0, .int .i64 h1, .int .i64 h2, .slice tA mh tc] 117)).heap.size (w2.alloc (.cells #[.int .i64 h0, .int .i64 h1, .int .i64 h2, .slice tA mh tc] 117)) W → Calls Tryz.prog 188 #[.agg #[.int .i64 a0, .int .i64 a1, .int .i64 a2, .slice pA p.length pc], .agg #[.int .i64 h0, .int .i64 h1, .int .i64 h2, .slice tA mh tc]] W fun e w' => e = .returned (.int .i64 cH) ∧ Below W.heap.size W w' := fun W hW => by
    have := specCompareVersion_any a0 a1 a2 h0 h1 h2 _ _ p _ W (hRV2.below hW) (hRH2.below hW) HP.out HSH.out
    rw [← HH0.out, ← HH1.out, ← HH2.out, HCH.out] at this
    rw [← HH0.out, ← HH1.out, ← HH2.out]
    exact this
  have HCLC := Lib.hid CL
  have HCHC := Lib.hid CH
  clear CL CH hRV2 hRL2 hRH2
  obtain ⟨x0, x1, x2, x3⟩ := cells4 v2
  obtain ⟨y0, y1, y2, y3⟩ := cells4 lw
  obtain ⟨z0, z1', z2, z3⟩ := cells4 hh
  clear HR HP HSL HSH HOL HOH HCL HCH HM HMH HL0 HL1 HL2 HH0 HH1 HH2 hL5
  cases okL
  · have m0 : m = 0 := HN2.out rfl
    cases okH
    · skip
      by_cases hpe : p.length = 0
      · have q0 : ((p.length : Int) == 0) = true := by simp [hpe]
        have HF : Hid (r = true) := Lib.hid (by rw [HT2.out]; simp [q0])
        clear hpe
        go_wp2_with fail
        go_ret
        exact ⟨ret_bool HF.out.symm, B2'⟩
      · have q0 : ((p.length : Int) == 0) = false := int_beq_false (by omega)
        have HF : Hid (r = false) := Lib.hid (by rw [HT2.out]; simp [q0, m0])
        clear hpe
        go_wp2_with fail
        go_ret
        exact ⟨ret_bool HF.out.symm, B2'⟩
    · go_wp2_with fail
      refine (HCHC.out _ (Below.refl _ _)).mono ?_
      rintro e w3 ⟨rfl, hb3⟩
      have B3 := B2'.trans (hb3.mono B2'.size)
      obtain ⟨x0', x1', x2', x3'⟩ := cells4 (keepB v2 hb3)
      obtain ⟨y0', y1', y2', y3'⟩ := cells4 (keepB lw hb3)
      clear x0 x1 x2 x3 y0 y1 y2 y3 z0 z1' z2 z3 hb3
      by_cases hcH : 0 ≤ cH
      · skip
        have HF : Hid (r = false) := Lib.hid (by rw [HT2.out]; simp [hcH])
        go_wp2_with fail
        go_ret
        exact ⟨ret_bool HF.out.symm, B3⟩
      · skip
        by_cases hpe : p.length = 0
        · have q0 : ((p.length : Int) == 0) = true := by simp [hpe]
          have HF : Hid (r = true) := Lib.hid (by rw [HT2.out]; simp [q0, hcH])
          clear hpe
          go_wp2_with fail
          go_ret
          exact ⟨ret_bool HF.out.symm, B3⟩
        · have q0 : ((p.length : Int) == 0) = false := int_beq_false (by omega)
          have HF : Hid (r = false) := Lib.hid (by rw [HT2.out]; simp [q0, m0, hcH])
          clear hpe
          go_wp2_with fail
          go_ret
          exact ⟨ret_bool HF.out.symm, B3⟩
  · go_wp2_with fail
    refine (HCLC.out _ (Below.refl _ _)).mono ?_
    rintro e w3 ⟨rfl, hb3⟩
    have B3 := B2'.trans (hb3.mono B2'.size)
    obtain ⟨x0', x1', x2', x3'⟩ := cells4 (keepB v2 hb3)
    obtain ⟨y0', y1', y2', y3'⟩ := cells4 (keepB lw hb3)
    obtain ⟨z0', z1'', z2', z3'⟩ := cells4 (keepB hh hb3)
    clear x0 x1 x2 x3 y0 y1 y2 y3 z0 z1' z2 z3
    by_cases hcL : cL < 0
    · skip
      have HF : Hid (r = false) := Lib.hid (by rw [HT2.out]; simp [hcL])
      go_wp2_with fail
      go_ret
      exact ⟨ret_bool HF.out.symm, B3⟩
    cases okH
    · skip
      by_cases hpe : p.length = 0
      · have q0 : ((p.length : Int) == 0) = true := by simp [hpe]
        have HF : Hid (r = true) := Lib.hid (by rw [HT2.out]; simp [q0, hcL])
        clear hpe
        go_wp2_with fail
        go_ret
        exact ⟨ret_bool HF.out.symm, B3⟩
      have q0 : ((p.length : Int) == 0) = false := int_beq_false (by omega)
      clear hpe
      by_cases hme : m = 0
      · have q1 : ¬ (0 : Int) < (m : Int) := by omega
        have HF : Hid (r = false) := Lib.hid (by rw [HT2.out]; simp [q0, hme, hcL])
        clear hme
        go_wp2_with fail
        go_ret
        exact ⟨ret_bool HF.out.symm, B3⟩
      have q1 : (0 : Int) < (m : Int) := by omega
      have q1' : 0 < m := by omega
      clear hme
      by_cases ha : ¬ l0 = a0
      · have q2 : (l0 == a0) = false := int_beq_false ha
        have HF : Hid (r = false) := Lib.hid (by rw [HT2.out]; simp [q0, q1', q2, hcL])
        clear ha
        go_wp2_with fail
        go_ret
        exact ⟨ret_bool HF.out.symm, B3⟩
      have q2 : (l0 == a0) = true := by rw [Decidable.not_not.1 ha]; simp
      clear ha
      by_cases hb : ¬ l1 = a1
      · have q3 : (l1 == a1) = false := int_beq_false hb
        have HF : Hid (r = false) := Lib.hid (by rw [HT2.out]; simp [q0, q1', q2, q3, hcL])
        clear hb
        go_wp2_with fail
        go_ret
        exact ⟨ret_bool HF.out.symm, B3⟩
      have q3 : (l1 == a1) = true := by rw [Decidable.not_not.1 hb]; simp
      clear hb
      by_cases hc : ¬ l2 = a2
      · have q4 : (l2 == a2) = false := int_beq_false hc
        have HF : Hid (r = false) := Lib.hid (by rw [HT2.out]; simp [q0, q1', q2, q3, q4, hcL])
        clear hc
        go_wp2_with fail
        go_ret
        exact ⟨ret_bool HF.out.symm, B3⟩
      have q4 : (l2 == a2) = true := by rw [Decidable.not_not.1 hc]; simp
      clear hc
      have HF : Hid (r = true) := Lib.hid (by rw [HT2.out]; simp [q0, q1', q2, q3, q4, hcL])
      go_wp2_with fail
      go_ret
      exact ⟨ret_bool HF.out.symm, B3⟩
    · go_wp2_with fail
      refine (HCHC.out _ hb3).mono ?_
      rintro e w4 ⟨rfl, hb4⟩
      have B4 := B3.trans (hb4.mono B3.size)
      obtain ⟨x0, x1, x2, x3⟩ := cells4 (keepB (keepB v2 hb3) hb4)
      obtain ⟨y0, y1, y2, y3⟩ := cells4 (keepB (keepB lw hb3) hb4)
      clear x0' x1' x2' x3' y0' y1' y2' y3' z0' z1'' z2' z3' hb3 hb4
      by_cases hcH : 0 ≤ cH
      · skip
        have HF : Hid (r = false) := Lib.hid (by rw [HT2.out]; simp [hcH])
        go_wp2_with fail
        go_ret
        exact ⟨ret_bool HF.out.symm, B4⟩
      · skip
        by_cases hpe : p.length = 0
        · have q0 : ((p.length : Int) == 0) = true := by simp [hpe]
          have HF : Hid (r = true) := Lib.hid (by rw [HT2.out]; simp [q0, hcL, hcH])
          clear hpe
          go_wp2_with fail
          go_ret
          exact ⟨ret_bool HF.out.symm, B4⟩
        have q0 : ((p.length : Int) == 0) = false := int_beq_false (by omega)
        clear hpe
        by_cases hme : m = 0
        · have q1 : ¬ (0 : Int) < (m : Int) := by omega
          have HF : Hid (r = false) := Lib.hid (by rw [HT2.out]; simp [q0, hme, hcH])
          clear hme
          go_wp2_with fail
          go_ret
          exact ⟨ret_bool HF.out.symm, B4⟩
        have q1 : (0 : Int) < (m : Int) := by omega
        have q1' : 0 < m := by omega
        clear hme
        by_cases ha : ¬ l0 = a0
        · have q2 : (l0 == a0) = false := int_beq_false ha
          have HF : Hid (r = false) := Lib.hid (by rw [HT2.out]; simp [q0, q1', q2, hcH])
          clear ha
          go_wp2_with fail
          go_ret
          exact ⟨ret_bool HF.out.symm, B4⟩
        have q2 : (l0 == a0) = true := by rw [Decidable.not_not.1 ha]; simp
        clear ha
        by_cases hb : ¬ l1 = a1
        · have q3 : (l1 == a1) = false := int_beq_false hb
          have HF : Hid (r = false) := Lib.hid (by rw [HT2.out]; simp [q0, q1', q2, q3, hcH])
          clear hb
          go_wp2_with fail
          go_ret
          exact ⟨ret_bool HF.out.symm, B4⟩
        have q3 : (l1 == a1) = true := by rw [Decidable.not_not.1 hb]; simp
        clear hb
        by_cases hc : ¬ l2 = a2
        · have q4 : (l2 == a2) = false := int_beq_false hc
          have HF : Hid (r = false) := Lib.hid (by rw [HT2.out]; simp [q0, q1', q2, q3, q4, hcH])
          clear hc
          go_wp2_with fail
          go_ret
          exact ⟨ret_bool HF.out.symm, B4⟩
        have q4 : (l2 == a2) = true := by rw [Decidable.not_not.1 hc]; simp
        clear hc
        have HF : Hid (r = true) := Lib.hid (by rw [HT2.out]; simp [q0, q1', q2, q3, q4, hcL, hcH])
        go_wp2_with fail
        go_ret
        exact ⟨ret_bool HF.out.symm, B4⟩
end Go.Proofs.YtnodhkjgnegkcaaGreatDoor
