/-
  The laws' own toTree and toTreeS: an argument's trees copied.
-/
import Derived.Test.YthlbpklllphhcaaTrO
namespace Go.Proofs.Ythlbpklllphhcaa
open Go.RowKit

theorem heap_setT {V : World} {B k : Nat} {T : TypeId} {cs : Array Value} (h : V.heap[B]? = some (.cells cs T)) (x : Value) : (V.setCell ⟨B, k, none⟩ x).heap[B]? = some (.cells (cs.setIfInBounds k x) T) := by
  rw [heap_setCell_same V B k cs T x h]
theorem frozen5 {V : World} {B : Nat} {T : TypeId} {v0 v1 v2 v3 v4 : Value} (h : V.heap[B]? = some (.cells #[v0, v1, v2, v3, v4] T)) : ∀ o, V.frozen? ⟨B, o, none⟩ = false := by
  intro o; simp [World.frozen?, h]
/-- What toTreeS does at trees of no more than d levels. -/
def ToTs (d : Nat) : Prop := ∀ (v : Value) (ts : List Tr) (w : World), RdTs d w v ts → wTs d ts ≤ 1048576 →
    Calls Try.prog 54 #[v] w fun e w' => ∃ u, e = .returned u ∧ TsOwn d w' w.heap.size u ts ∧ Below w.heap.size w w'

set_option maxRecDepth 100000 in
set_option maxHeartbeats 2000000 in
theorem toTree_of {d : Nat} (ih : ToTs d) (t : Tr) (b kv : Value) (w : World) (hf : NdFits t) (hb : RdS w b t.keys) (hk : RdTs d w kv t.kids) (hs : wT d t ≤ 1048576) :
    Calls Try.prog 15 #[.agg #[.int .i64 t.kind, .int .i64 t.n, .string ⟨t.s.toArray⟩, b, kv]] w fun e w' => ∃ g1 c1 g2 c2, e = .returned (.agg #[.int .i64 t.kind, .int .i64 t.n, .string ⟨t.s.toArray⟩, .slice (some ⟨g1, 0, none⟩) t.keys.length c1, .slice (some ⟨g2, 0, none⟩) t.kids.length c2]) ∧ TrOwn d w' w.heap.size (t, .slice (some ⟨g1, 0, none⟩) t.keys.length c1, .slice (some ⟨g2, 0, none⟩) t.kids.length c2) ∧ g1 ≠ g2 ∧ Below w.heap.size w w' := by
  have hw : wT d t = t.s.length + (t.keys.length + smL t.keys) + wTs d t.kids := rfl
  have HA := Lib.hid (fun (W : World) (h : Below w.heap.size w W) => toStringS_any b t.keys W (hb.below h) (by omega))
  have HB := Lib.hid (fun (W : World) (h : Below w.heap.size w W) => ih kv t.kids W (hk.below h) (by omega))
  obtain ⟨A, ca, rfl⟩ : ∃ A c, b = .slice A t.keys.length c := by obtain ⟨A, c, rfl, _⟩ := hb; exact ⟨A, c, rfl⟩
  obtain ⟨B, cb, rfl, _⟩ := hk.slice
  have HF := Lib.hid hf
  clear hb hk hw hs hf
  go_enter Try.func15, Try.ntmps15
  go_wp2_with fail
  refine (HA.out _ ?_).mono ?_
  · exact (((Below.refl _ _).alloc (Nat.le_refl _) _).alloc (by simp) _).alloc (by simp; omega) _
  rintro e w1 ⟨g1, c1, rfl, hS1, hb1⟩
  have b0 := keepB (keepA (keepA (heap_alloc_new w _) _) _) hb1
  have b1 := keepB (keepA (heap_new (n := w.heap.size + 1) (by simp) _) _) hb1
  have b2 := keepB (heap_new (n := w.heap.size + 1 + 1) (by simp) _) hb1
  have B1 : Below w.heap.size w w1 := ((((Below.refl _ w).alloc (Nat.le_refl _) _).alloc (by simp) _).alloc (by simp; omega) _).trans (hb1.mono (by simp; omega))
  have hz1 : w.heap.size + 3 ≤ w1.heap.size := by have := hb1.size; simp at this; omega
  have hg1 : w.heap.size + 3 ≤ g1 := by have := hS1.lo; simp at this; omega
  have hS1' := hS1.weaken (base' := w.heap.size + 3) (by simp)
  have c0 := cells5 b0
  have c2 := cells5 b2
  have f2 := frozen5 b2
  clear hb1 hS1
  go_wp2_with fail
  refine (HB.out _ (B1.setCell (p := ⟨w.heap.size + 1 + 1, 3, none⟩) (by simp; omega) _)).mono ?_
  rintro e w2 ⟨u, rfl, hS2, hb2⟩
  obtain ⟨g2, c2', rfl, hlo2, _⟩ := hS2.slice
  have d0 := keepB (heap_other b0 _ (by omega : w.heap.size + 1 + 1 ≠ w.heap.size)) hb2
  have d1 := keepB (heap_other b1 _ (by omega : w.heap.size + 1 + 1 ≠ w.heap.size + 1)) hb2
  have d2 := keepB (heap_setT b2 _) hb2
  have B2 : Below w.heap.size w w2 := (B1.setCell (p := ⟨w.heap.size + 1 + 1, 3, none⟩) (by simp; omega) _).trans (hb2.mono (by simp; omega))
  have hg2 : w1.heap.size ≤ g2 := by simpa using hlo2
  have hl1 : g1 < w1.heap.size := hS1'.block_lt g1 rfl
  have hS3 := (hS1'.otherV (w.heap.size + 1 + 1) 3 (.slice (some ⟨g1, 0, none⟩) t.keys.length c1) (by omega)).below hb2
  have hS4 := hS2.weaken (base' := w.heap.size + 3) (by simp; omega)
  clear hb2 hS2 hS1' b0 b1 b2 c0 c2 f2 B1 hlo2
  have e0 := cells5 d0
  have e1 := cells5 d1
  have e2 := cells5 d2
  have f1 := frozen5 d1
  have f2 := frozen5 d2
  go_wp2_with fail
  refine bodyPost_ret (v := .agg #[.int .i64 t.kind, .int .i64 t.n, .string ⟨t.s.toArray⟩, .slice (some ⟨g1, 0, none⟩) t.keys.length c1, .slice (some ⟨g2, 0, none⟩) t.kids.length c2']) ?_ rfl ⟨g1, c1, g2, c2', rfl, ⟨HF.out, ?_, ?_⟩, by omega, ?_⟩
  · simp [results, Try.results15, go_sem, e1]
  · exact ((((((hS3.otherV _ _ _ (by omega)).otherV _ _ _ (by omega)).otherV _ _ _ (by omega)).otherV _ _ _ (by omega)).otherV _ _ _ (by omega)).otherV _ _ _ (by omega)).weaken (by omega)
  · exact ((((((hS4.other _ _ _ (by omega)).other _ _ _ (by omega)).other _ _ _ (by omega)).other _ _ _ (by omega)).other _ _ _ (by omega)).other _ _ _ (by omega)).weaken (by omega)
  · exact (((((B2.setCell (by simp; omega) _).setCell (by simp) _).setCell (by simp) _).setCell (by simp) _).setCell (by simp) _).setCell (by simp) _

set_option maxRecDepth 100000 in
set_option maxHeartbeats 2000000 in
theorem toTreeS_zero : ToTs 0 := by
  intro v ts w h hs
  obtain ⟨rfl, A, c, rfl⟩ := h
  obtain ⟨i0, hi, hz0, hz1, hz2⟩ := info_parts trinfo
  go_enter Try.func54, Try.ntmps54
  go_wp2_with (at_make; refine wpList_make_full _ rfl _ _ 28 rfl w.heap.size 30 i0 (.agg #[.int .i64 0, .int .i64 0, .string ⟨#[]⟩, .slice none 0 0, .slice none 0 0]) 5 Try.underlying28 hi hz0 hz1 .i64 .i64 _ _ 0 rfl rfl rfl rfl (by rw [hz2]; omega) (by unfold maxLen; omega) (Nat.le_refl _) ?_; intro w1 hown1 hg1)
  have hS1 := trees_made hown1
  have hb1 : Below w.heap.size w w1 := (Below.refl _ _).grown hg1 (Nat.le_refl _) (by simp)
  have hz3 : w.heap.size < w1.heap.size := by
    rcases hown1.2 with ⟨hv, _⟩ | ⟨g, cap, cur, hv, hb, hh, _⟩
    · cases hv
    · simp only [Value.slice.injEq, Option.some.injEq, Addr.mk.injEq] at hv
      have := lt_of_heap hh; omega
  clear hown1 hg1 hi hz0 hz1 hz2
  refine wp_loop_rounds 1 ?_
  rw [rounds_succ]
  go_wp2_with fail
  go_ret
  exact ⟨_, rfl, ⟨rfl, w.heap.size, _, rfl, Nat.le_refl _, hz3, hS1⟩, hb1⟩

set_option maxRecDepth 100000 in
set_option maxHeartbeats 2000000 in
theorem toTreeS_succ {d : Nat} (ih : ToTs d) : ToTs (d + 1) := by
  intro v ts w h hs
  have HR := Lib.hid h
  have hw := wTs_is d ts
  have hl : ts.length ≤ 1048576 := by omega
  have HS := Lib.hid (fun (k : Nat) (hk : k < ts.length) => show wT d ts[k] ≤ 1048576 by
    have h1 := wTo_succ (d := d) hk
    have h2 := wTo_le (d := d) (ts := ts) (k + 1)
    omega)
  have HT := Lib.hid (fun (t : Tr) (b kv : Value) (W : World) (f1 : NdFits t) (f2 : RdS W b t.keys) (f3 : RdTs d W kv t.kids) (z0 : wT d t ≤ 1048576) => toTree_of ih t b kv W f1 f2 f3 z0)
  obtain ⟨A, ca, rfl, hl2⟩ := h.slice
  obtain ⟨i0, hi, hz0, hz1, hz2⟩ := info_parts trinfo
  clear h hw hs
  go_enter Try.func54, Try.ntmps54
  go_wp2_with (at_make; refine wpList_make_full _ rfl _ _ 28 rfl w.heap.size 30 i0 (.agg #[.int .i64 0, .int .i64 0, .string ⟨#[]⟩, .slice none 0 0, .slice none 0 0]) 5 Try.underlying28 hi hz0 hz1 .i64 .i64 _ _ ts.length rfl rfl rfl rfl (by rw [hz2]; omega) (by unfold maxLen; omega) (Nat.le_refl _) ?_; intro w1 hown1 hg1)
  have hS1 := trees_made hown1
  have hb1 : Below w.heap.size w w1 := (Below.refl _ _).grown hg1 (Nat.le_refl _) (by simp)
  have hz3 : w.heap.size < w1.heap.size := by
    rcases hown1.2 with ⟨hv, _⟩ | ⟨g, cap, cur, hv, hb, hh, _⟩
    · cases hv
    · simp only [Value.slice.injEq, Option.some.injEq, Addr.mk.injEq] at hv
      have := lt_of_heap hh; omega
  clear hown1 hg1 hi hz0 hz1 hz2
  go_loopw [4] (fun i wr => ∃ (k : Nat) (qs : List TrV), k ≤ ts.length ∧ i = .int .i64 k ∧ qs.map (·.1) = ts.take k ∧ Trees wr w.heap.size (.slice (some ⟨w.heap.size, 0, none⟩) ts.length ts.length) (tkT qs ts.length) ∧ Hid (∀ q ∈ qs, TrOwn d wr (w.heap.size + 1) q) ∧ Below w.heap.size w wr ∧ w.heap.size < wr.heap.size) (fun i _ => ts.length - (intOf i).toNat)
  case atStart => exact ⟨0, [], Nat.zero_le _, rfl, by simp, by simpa [tkT] using hS1, Lib.hid (fun q h => by cases h), hb1, hz3⟩
  case round =>
    obtain ⟨k, qs, hk, rfl, hq, hS, HQ, hb, hgt⟩ := hrel
    have hqk : qs.length = k := by have := congrArg List.length hq; simp at this; omega
    by_cases hlt : k < ts.length
    · obtain ⟨e, g, off, b, kv, he, rfl, hg, d0, d1, d2, d3, d4, hf, rb, rk⟩ := (RdTs.below HR.out hb).at k hlt
      obtain rfl : e = d := by omega
      have HC := Lib.hid (HT.out ts[k] b kv wr hf rb rk (HS.out k hlt))
      obtain ⟨A1, c1, rfl⟩ : ∃ A c, b = .slice A ts[k].keys.length c := by obtain ⟨A, c, rfl, _⟩ := rb; exact ⟨A, c, rfl⟩
      obtain ⟨A2, c2, rfl, _⟩ := rk.slice
      have k0 : (0 : Int) ≤ (k : Int) := by omega
      have k1 : (k : Int) < (ts.length : Int) := by omega
      clear rb rk hS1 hb1 hz3 hf he
      go_wp2_with fail
      refine HC.out.mono ?_
      rintro e2 w2 ⟨g1, e1, g2, e2, rfl, hA, hne, hb2⟩
      have hS2 := hS.below hb2
      have hS' : Trees w2 w.heap.size (.slice (some ⟨w.heap.size, 0, none⟩) (tkT qs ts.length).length ts.length) (tkT qs ts.length) := by rw [tkT_len qs _ (by omega)]; exact hS2
      obtain ⟨f0, f1, f2, f3, f4⟩ := hS2.cell k (by rw [tkT_len qs _ (by omega)]; exact hlt)
      have fz : ∀ j, w2.frozen? ⟨w.heap.size, j, none⟩ = false := fun j => World.ownsRow.frozenAt hS' j
      have B2 := hb.trans (hb2.mono hb.size)
      have hq' : (qs ++ [(ts[k], (Value.slice (some ⟨g1, 0, none⟩) ts[k].keys.length e1, Value.slice (some ⟨g2, 0, none⟩) ts[k].kids.length e2))]).map (·.1) = ts.take (k + 1) := by
        rw [List.map_append, hq, List.take_succ_eq_append_getElem hlt]; rfl
      have HQ2 : Hid (∀ q ∈ qs ++ [(ts[k], (Value.slice (some ⟨g1, 0, none⟩) ts[k].keys.length e1, Value.slice (some ⟨g2, 0, none⟩) ts[k].kids.length e2))], TrOwn e w2 (w.heap.size + 1) q) := Lib.hid (by
        intro q hq
        rcases List.mem_append.1 hq with h | h
        · exact (HQ.out q h).below hb2
        · simp at h; subst h; exact hA.weaken (by omega))
      have hgt2 : w.heap.size < w2.heap.size := Nat.lt_of_lt_of_le hgt hb2.size
      have HP := Lib.hid (hS'.set k (ts[k], (Value.slice (some ⟨g1, 0, none⟩) ts[k].keys.length e1, Value.slice (some ⟨g2, 0, none⟩) ts[k].kids.length e2)))
      have HT2 := Lib.hid (by have := tkT_set qs ts.length (by omega) (ts[k], (Value.slice (some ⟨g1, 0, none⟩) ts[k].keys.length e1, Value.slice (some ⟨g2, 0, none⟩) ts[k].kids.length e2)); rw [hqk] at this; exact this)
      have HQ3 := Lib.hid (fun q h => (HQ2.out q h).put5 w.heap.size (k * 5) (ts[k], (Value.slice (some ⟨g1, 0, none⟩) ts[k].keys.length e1, Value.slice (some ⟨g2, 0, none⟩) ts[k].kids.length e2)) (by omega))
      have HB3 := Lib.hid (below_put5 (o := k * 5) (q := (ts[k], (Value.slice (some ⟨g1, 0, none⟩) ts[k].keys.length e1, Value.slice (some ⟨g2, 0, none⟩) ts[k].kids.length e2))) B2 (Nat.le_refl _))
      rw [HT2.out, tkT_len _ _ (by simp; omega)] at HP
      simp only [put5] at HP HQ3 HB3
      clear hS hb hb2 d0 d1 d2 d3 d4 HQ hA hS' HQ2 B2 HT2 HC
      go_wp2_with fail
      go_roundw
      case rel => exact ⟨k + 1, _, by omega, by go_num, hq', HP.out, HQ3, HB3.out, by simp only [World.size_setCell]; exact hgt2⟩
      case measure => simp [intOf]; omega
    · obtain rfl : k = ts.length := by omega
      clear hS1 hb1
      go_wp2_with fail
      go_ret
      refine ⟨_, rfl, ⟨hl2, w.heap.size, _, qs, rfl, Nat.le_refl _, hgt, by rw [hq]; simp, ?_, HQ.out⟩, hb⟩
      simpa [tkT, hqk] using hS
theorem toTreeS_any : ∀ d, ToTs d
  | 0 => toTreeS_zero
  | d + 1 => toTreeS_succ (toTreeS_any d)
end Go.Proofs.Ythlbpklllphhcaa
