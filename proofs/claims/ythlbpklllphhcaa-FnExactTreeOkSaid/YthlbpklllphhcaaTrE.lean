/-
  The laws' own eqTree and eqTreeS at values that read as the same trees.
-/
import Derived.Test.YthlbpklllphhcaaTrM
import Derived.Test.YthlbpklllphhcaaEqS
namespace Go.Proofs.Ythlbpklllphhcaa
open Go.RowKit

/-- What eqTreeS does at values that read as the same trees of no more than d levels. -/
def EqTs (d : Nat) : Prop := ∀ (va vb : Value) (ts : List Tr) (w : World), RdTs d w va ts → RdTs d w vb ts → wTs d ts ≤ 1048576 →
    Calls Try.prog 58 #[va, vb] w fun e w' => e = .returned (.bool true) ∧ Below w.heap.size w w'

set_option maxRecDepth 100000 in
set_option maxHeartbeats 2000000 in
theorem eqTree_of {d : Nat} (ih : EqTs d) (t : Tr) (b kv b' kv' : Value) (w : World) (hb : RdS w b t.keys) (hk : RdTs d w kv t.kids) (hb' : RdS w b' t.keys) (hk' : RdTs d w kv' t.kids) (hs : wT d t ≤ 1048576) :
    Calls Try.prog 17 #[.agg #[.int .i64 t.kind, .int .i64 t.n, .string ⟨t.s.toArray⟩, b, kv], .agg #[.int .i64 t.kind, .int .i64 t.n, .string ⟨t.s.toArray⟩, b', kv']] w fun e w' => e = .returned (.bool true) ∧ Below w.heap.size w w' := by
  have hw : wT d t = t.s.length + (t.keys.length + smL t.keys) + wTs d t.kids := rfl
  have HA := Lib.hid (fun (W : World) (h : Below w.heap.size w W) => eqStringS_same b b' t.keys W (hb.below h) (hb'.below h) (by omega))
  have HB := Lib.hid (fun (W : World) (h : Below w.heap.size w W) => ih kv kv' t.kids W (hk.below h) (hk'.below h) (by omega))
  obtain ⟨A, ca, rfl⟩ : ∃ A c, b = .slice A t.keys.length c := by obtain ⟨A, c, rfl, _⟩ := hb; exact ⟨A, c, rfl⟩
  obtain ⟨A', ca', rfl⟩ : ∃ A c, b' = .slice A t.keys.length c := by obtain ⟨A, c, rfl, _⟩ := hb'; exact ⟨A, c, rfl⟩
  obtain ⟨B, cb, rfl, _⟩ := hk.slice
  obtain ⟨B', cb', rfl, _⟩ := hk'.slice
  clear hb hk hb' hk' hw hs
  obtain ⟨kd, hkd⟩ : ∃ x, x = t.kind := ⟨_, rfl⟩
  obtain ⟨nn, hnn⟩ : ∃ x, x = t.n := ⟨_, rfl⟩
  rw [← hkd, ← hnn]
  have q0 : (kd != kd) = false := int_bne_false rfl
  have q1 : (nn != nn) = false := int_bne_false rfl
  clear hkd hnn
  go_enter Try.func17, Try.ntmps17
  go_wp2_with fail
  refine (HA.out _ (((Below.refl _ _).alloc (Nat.le_refl _) _).alloc (by simp) _)).mono ?_
  rintro e w1 ⟨rfl, n, hn⟩
  have hb1 := below_drewN ((w.alloc (.cells #[.int .i64 kd, .int .i64 nn, .string ⟨t.s.toArray⟩, .slice A t.keys.length ca, .slice B t.kids.length cb] 30)).alloc (.cells #[.int .i64 kd, .int .i64 nn, .string ⟨t.s.toArray⟩, .slice A' t.keys.length ca', .slice B' t.kids.length cb'] 30)).heap.size ((w.alloc (.cells #[.int .i64 kd, .int .i64 nn, .string ⟨t.s.toArray⟩, .slice A t.keys.length ca, .slice B t.kids.length cb] 30)).alloc (.cells #[.int .i64 kd, .int .i64 nn, .string ⟨t.s.toArray⟩, .slice A' t.keys.length ca', .slice B' t.kids.length cb'] 30)) n
  rw [← hn] at hb1
  clear hn
  have b0 := keepB (keepA (heap_alloc_new w _) _) hb1
  have b1 := keepB (heap_new (n := w.heap.size + 1) (by simp) _) hb1
  have B1 : Below w.heap.size w w1 := (((Below.refl _ w).alloc (Nat.le_refl _) _).alloc (by simp) _).trans (hb1.mono (by simp; omega))
  have c0 := cells5 b0
  have c1 := cells5 b1
  clear hb1
  go_wp2_with fail
  refine (HB.out _ B1).mono ?_
  rintro e w2 ⟨rfl, hb2⟩
  go_wp2_with fail
  go_ret
  exact ⟨rfl, B1.trans (hb2.mono B1.size)⟩

set_option maxRecDepth 100000 in
set_option maxHeartbeats 2000000 in
theorem eqTreeS_zero : EqTs 0 := by
  intro va vb ts w h h' hs
  obtain ⟨rfl, A, c, rfl⟩ := h
  obtain ⟨_, A', c', rfl⟩ := h'
  go_enter Try.func58, Try.ntmps58
  go_wp2_with fail
  refine wp_loop_rounds 1 ?_
  rw [rounds_succ]
  go_wp2_with fail
  go_ret
  exact ⟨rfl, Below.refl _ _⟩

set_option maxRecDepth 100000 in
set_option maxHeartbeats 2000000 in
theorem eqTreeS_succ {d : Nat} (ih : EqTs d) : EqTs (d + 1) := by
  intro va vb ts w h h' hs
  have HR := Lib.hid h
  have HR' := Lib.hid h'
  have hw := wTs_is d ts
  have hl : ts.length ≤ 1048576 := by omega
  have HS := Lib.hid (fun (k : Nat) (hk : k < ts.length) => show wT d ts[k] ≤ 1048576 by
    have h1 := wTo_succ (d := d) hk
    have h2 := wTo_le (d := d) (ts := ts) (k + 1)
    omega)
  have HT := Lib.hid (fun (t : Tr) (b kv b' kv' : Value) (W : World) (f2 : RdS W b t.keys) (f3 : RdTs d W kv t.kids) (f4 : RdS W b' t.keys) (f5 : RdTs d W kv' t.kids) (z0 : wT d t ≤ 1048576) => eqTree_of ih t b kv b' kv' W f2 f3 f4 f5 z0)
  obtain ⟨A, ca, rfl, hl2⟩ := h.slice
  obtain ⟨B, cb, rfl, _⟩ := h'.slice
  have q0 : ((ts.length : Int) != (ts.length : Int)) = false := int_bne_false rfl
  clear h h' hw hs
  go_enter Try.func58, Try.ntmps58
  go_wp2_with fail
  go_loopw [5] (fun i wr => ∃ k : Nat, k ≤ ts.length ∧ i = .int .i64 k ∧ Below w.heap.size w wr) (fun i _ => ts.length - (intOf i).toNat)
  case atStart => exact ⟨0, Nat.zero_le _, rfl, Below.refl _ _⟩
  case round =>
    obtain ⟨k, hk, rfl, hw⟩ := hrel
    by_cases hlt : k < ts.length
    · obtain ⟨e, g, off, b, kv, he, rfl, hg, d0, d1, d2, d3, d4, hf, rb, rk⟩ := (RdTs.below HR.out hw).at k hlt
      obtain rfl : e = d := by omega
      obtain ⟨e', g', off', b', kv', he', rfl, hg', d0', d1', d2', d3', d4', hf', rb', rk'⟩ := (RdTs.below HR'.out hw).at k hlt
      obtain rfl : e' = e := by omega
      have HC := Lib.hid (fun (W : World) (h : Below wr.heap.size wr W) => HT.out ts[k] b kv b' kv' W (rb.below h) (rk.below h) (rb'.below h) (rk'.below h) (HS.out k hlt))
      obtain ⟨A1, c1, rfl⟩ : ∃ A c, b = .slice A ts[k].keys.length c := by obtain ⟨A, c, rfl, _⟩ := rb; exact ⟨A, c, rfl⟩
      obtain ⟨A2, c2, rfl⟩ : ∃ A c, b' = .slice A ts[k].keys.length c := by obtain ⟨A, c, rfl, _⟩ := rb'; exact ⟨A, c, rfl⟩
      obtain ⟨A3, c3, rfl, _⟩ := rk.slice
      obtain ⟨A4, c4, rfl, _⟩ := rk'.slice
      have k0 : (0 : Int) ≤ (k : Int) := by omega
      have k1 : (k : Int) < (ts.length : Int) := by omega
      clear rb rk rb' rk' he he' hf hf'
      go_wp2_with fail
      go_region_with (first | (go_at_call 17; refine (HC.out _ (below_drewN _ _ 1)).mono ?_; rintro e w1 ⟨rfl, hb1⟩))
      all_goals
        go_wp2_with fail
        go_roundw
        case rel => exact ⟨k + 1, by omega, by go_num, hw.trans ((below_drewN _ _ 1).trans (hb1.mono (by first | exact Nat.le_refl _ | exact hw.size)))⟩
        case measure => simp [intOf]; omega
    · go_wp2_with fail
      go_ret
      exact ⟨rfl, hw⟩
theorem eqTreeS_any : ∀ d, EqTs d
  | 0 => eqTreeS_zero
  | d + 1 => eqTreeS_succ (eqTreeS_any d)
end Go.Proofs.Ythlbpklllphhcaa
