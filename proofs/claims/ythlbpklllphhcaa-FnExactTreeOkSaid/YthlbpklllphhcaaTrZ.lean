/-
  The laws' own szTree and szTreeS: how much of a budget is left behind a tree.
-/
import Derived.Test.YthlbpklllphhcaaTrM
import Derived.Deep.RegionWith
import Derived.LoopN
namespace Go.Proofs.Ythlbpklllphhcaa
open Go.RowKit

/-- What szTreeS does at trees of no more than d levels. -/
def SzTs (d : Nat) : Prop := ∀ (v : Value) (ts : List Tr) (left : Int) (w : World), RdTs d w v ts → 0 ≤ left → left ≤ 1048576 →
    Calls Try.prog 52 #[v, .int .i64 left] w fun e w' => e = .returned (.int .i64 (szT left (wTs d ts))) ∧ Below w.heap.size w w'
set_option maxRecDepth 100000 in
set_option maxHeartbeats 2000000 in
theorem szTree_of {d : Nat} (ih : SzTs d) (t : Tr) (b kv : Value) (left : Int) (w : World) (hf : NdFits t) (hb : RdS w b t.keys) (hk : RdTs d w kv t.kids) (h0 : 0 ≤ left) (h1 : left ≤ 1048576) :
    Calls Try.prog 13 #[.agg #[.int .i64 t.kind, .int .i64 t.n, .string ⟨t.s.toArray⟩, b, kv], .int .i64 left] w fun e w' => e = .returned (.int .i64 (szT left (wT d t))) ∧ Below w.heap.size w w' := by
  obtain ⟨f1, f2, f3⟩ := hf
  unfold maxLen at f1
  have HA := Lib.hid (fun (W : World) (h : Below w.heap.size w W) (z : Int) (z0 : 0 ≤ z) (z1 : z ≤ 1048576) => szStringS_any b t.keys z W (hb.below h) z0 z1 f2 f3)
  have HB := Lib.hid (fun (W : World) (h : Below w.heap.size w W) (z : Int) (z0 : 0 ≤ z) (z1 : z ≤ 1048576) => ih kv t.kids z W (hk.below h) z0 z1)
  obtain ⟨A1, c1, rfl⟩ : ∃ A c, b = .slice A t.keys.length c := by obtain ⟨A, c, rfl, _⟩ := hb; exact ⟨A, c, rfl⟩
  obtain ⟨A2, c2, rfl, _⟩ := hk.slice
  have hsz : (⟨t.s.toArray⟩ : ByteArray).size = t.s.length := by show t.s.toArray.size = _; simp
  have hw : wT d t = t.s.length + (t.keys.length + smL t.keys) + wTs d t.kids := rfl
  have Bw : Below w.heap.size w (w.alloc (.cells #[.int .i64 t.kind, .int .i64 t.n, .string ⟨t.s.toArray⟩, .slice A1 t.keys.length c1, .slice A2 t.kids.length c2] 25)) := (Below.refl _ _).alloc (Nat.le_refl _) _
  have bw := heap_alloc_new w (.cells #[.int .i64 t.kind, .int .i64 t.n, .string ⟨t.s.toArray⟩, .slice A1 t.keys.length c1, .slice A2 t.kids.length c2] 25)
  obtain ⟨x0, x1, x2, x3, x4⟩ := cells5 bw
  clear hb hk f2 f3
  have wr : IntKind.i64.wrap (left - (t.s.length : Int)) = left - (t.s.length : Int) := IntWalk.i64_in _ (by omega)
  have wr2 : IntKind.i64.wrap (left - ((⟨t.s.toArray⟩ : ByteArray).size : Int)) = left - (t.s.length : Int) := by rw [hsz]; exact wr
  obtain ⟨r, HR⟩ : ∃ r, Hid (szT left (wT d t) = r) := ⟨_, Lib.hid rfl⟩
  rw [HR.out]
  by_cases q1 : left - (t.s.length : Int) < 0
  · have HX : Hid (r = -1) := Lib.hid (by rw [← HR.out]; exact szT_no (by omega))
    have q1' : left - ((⟨t.s.toArray⟩ : ByteArray).size : Int) < 0 := by rw [hsz]; exact q1
    go_enter Try.func13, Try.ntmps13
    go_wp2_with fail
    go_ret
    exact ⟨ret_int HX.out.symm, Bw⟩
  · obtain ⟨y, HY⟩ : ∃ y, Hid (szI (left - (t.s.length : Int)) t.keys = y) := ⟨_, Lib.hid rfl⟩
    have HAz := Lib.hid (HA.out _ Bw (left - (t.s.length : Int)) (by omega) (by omega))
    rw [HY.out] at HAz
    by_cases q2 : y < 0
    · have HX : Hid (r = -1) := Lib.hid (by
        rw [← HR.out]
        apply szT_no
        have hy := HY.out
        unfold szI at hy
        split at hy <;> omega)
      go_enter Try.func13, Try.ntmps13
      go_wp2_with fail
      refine HAz.out.mono ?_
      rintro e w1 ⟨rfl, rfl⟩
      go_wp2_with fail
      go_ret
      exact ⟨ret_int HX.out.symm, Bw⟩
    · have hy2 : y = left - (t.s.length : Int) - (t.keys.length : Int) - (smL t.keys : Int) := by
        have hy := HY.out
        unfold szI at hy
        split at hy <;> omega
      have HBy := Lib.hid (HB.out _ Bw y (by omega) (by omega))
      obtain ⟨u, HU⟩ : ∃ u, Hid (szT y (wTs d t.kids) = u) := ⟨_, Lib.hid rfl⟩
      rw [HU.out] at HBy
      have HX : Hid (r = u) := Lib.hid (by
        rw [← HR.out, ← HU.out]
        unfold szT
        split <;> split <;> omega)
      clear hy2 hw
      go_enter Try.func13, Try.ntmps13
      go_wp2_with fail
      refine HAz.out.mono ?_
      rintro e w1 ⟨rfl, rfl⟩
      go_wp2_with fail
      refine HBy.out.mono ?_
      rintro e w2 ⟨rfl, hb2⟩
      by_cases q3 : u < 0
      · have HX2 : Hid (r = -1) := Lib.hid (by
          rw [HX.out]
          have hu := HU.out
          unfold szT at hu
          split at hu <;> omega)
        go_wp2_with fail
        go_ret
        exact ⟨ret_int HX2.out.symm, Bw.trans (hb2.mono Bw.size)⟩
      · go_wp2_with fail
        go_ret
        exact ⟨ret_int HX.out.symm, Bw.trans (hb2.mono Bw.size)⟩

set_option maxRecDepth 100000 in
set_option maxHeartbeats 2000000 in
theorem szTreeS_zero : SzTs 0 := by
  intro v ts left w h h0 h1
  obtain ⟨rfl, A, c, rfl⟩ := h
  have e1 : szT left (wTs 0 []) = left := by unfold szT wTs; rw [if_pos (by omega)]; omega
  rw [e1]
  have wr : IntKind.i64.wrap left = left := IntWalk.i64_in _ (by omega)
  have q0 : ¬ left < 0 := by omega
  go_enter Try.func52, Try.ntmps52
  go_wp2_with fail
  refine wp_loop_rounds 1 ?_
  rw [rounds_succ]
  go_wp2_with fail
  go_ret
  exact ⟨rfl, Below.refl _ _⟩

set_option maxRecDepth 100000 in
set_option maxHeartbeats 2000000 in
theorem szTreeS_succ {d : Nat} (ih : SzTs d) : SzTs (d + 1) := by
  intro v ts left w h h0 h1
  have HR := Lib.hid h
  obtain ⟨A, ca, rfl, hl⟩ := h.slice
  unfold maxLen at hl
  have HW := Lib.hid (wTs_is d ts)
  have HT := Lib.hid (fun (t : Tr) (b kv : Value) (z : Int) (W : World) (f1 : NdFits t) (f2 : RdS W b t.keys) (f3 : RdTs d W kv t.kids) (z0 : 0 ≤ z) (z1 : z ≤ 1048576) => szTree_of ih t b kv z W f1 f2 f3 z0 z1)
  obtain ⟨r, HRR⟩ : ∃ r, Hid (szT left (wTs (d + 1) ts) = r) := ⟨_, Lib.hid rfl⟩
  rw [HRR.out]
  have wr : IntKind.i64.wrap (left - (ts.length : Int)) = left - (ts.length : Int) := IntWalk.i64_in _ (by omega)
  clear h
  by_cases q1 : left - (ts.length : Int) < 0
  · have HX : Hid (r = -1) := Lib.hid (by rw [← HRR.out]; exact szT_no (by rw [HW.out]; omega))
    go_enter Try.func52, Try.ntmps52
    go_wp2_with fail
    go_ret
    exact ⟨ret_int HX.out.symm, Below.refl _ _⟩
  · have hz1 : left - (ts.length : Int) ≤ 1048576 := by omega
    go_enter Try.func52, Try.ntmps52
    go_wp2_with fail
    go_loopw [1, 5] (fun u i wr => ∃ (k : Nat) (y : Int), k ≤ ts.length ∧ i = .int .i64 k ∧ u = .int .i64 y ∧ Hid (y = left - (ts.length : Int) - (wTo d ts k : Int)) ∧ 0 ≤ y ∧ y ≤ 1048576 ∧ Below w.heap.size w wr) (fun _ i _ => ts.length - (intOf i).toNat)
    case atStart => exact ⟨0, left - (ts.length : Int), Nat.zero_le _, rfl, rfl, Lib.hid (by simp [wTo]), by omega, hz1, Below.refl _ _⟩
    case round =>
      obtain ⟨k, y, hk, rfl, rfl, HY, y0, y1, hb⟩ := hrel
      by_cases hlt : k < ts.length
      · obtain ⟨e, g, off, b, kv, he, rfl, hg, d0, d1, d2, d3, d4, hf, rb, rk⟩ := (RdTs.below HR.out hb).at k hlt
        obtain rfl : e = d := by omega
        have HC := Lib.hid (HT.out ts[k] b kv y _ hf rb rk y0 y1)
        have HS := Lib.hid (wTo_succ (d := e) hlt)
        have HL := Lib.hid (wTo_le (d := e) (ts := ts) (k + 1))
        have k0 : (0 : Int) ≤ (k : Int) := by omega
        have k1 : (k : Int) < (ts.length : Int) := by omega
        obtain ⟨A1, c1, rfl⟩ : ∃ A c, b = .slice A ts[k].keys.length c := by obtain ⟨A, c, rfl, _⟩ := rb; exact ⟨A, c, rfl⟩
        obtain ⟨A2, c2, rfl, _⟩ := rk.slice
        obtain ⟨u, HU⟩ : ∃ u, Hid (szT y (wT e ts[k]) = u) := ⟨_, Lib.hid rfl⟩
        rw [HU.out] at HC
        clear rb rk he hf
        by_cases q3 : u < 0
        · have HX : Hid (r = -1) := Lib.hid (by
            rw [← HRR.out]
            apply szT_no
            have hu := HU.out
            have h1 := HS.out
            have h2 := HL.out
            have h3 := HW.out
            have h5 := HY.out
            unfold szT at hu
            split at hu <;> omega)
          go_wp2_with fail
          refine HC.out.mono ?_
          rintro e2 w2 ⟨rfl, hb2⟩
          go_wp2_with fail
          go_ret
          exact ⟨ret_int HX.out.symm, hb.trans (hb2.mono hb.size)⟩
        · have HV : Hid (u = left - (ts.length : Int) - (wTo e ts (k + 1) : Int)) ∧ u ≤ 1048576 := by
            have hu := HU.out
            have h1 := HS.out
            have h5 := HY.out
            unfold szT at hu
            constructor
            · exact Lib.hid (by split at hu <;> omega)
            · split at hu <;> omega
          go_wp2_with fail
          refine HC.out.mono ?_
          rintro e2 w2 ⟨rfl, hb2⟩
          go_wp2_with fail
          go_roundw
          case rel => exact ⟨k + 1, u, by omega, by go_num, rfl, HV.1, by omega, HV.2, hb.trans (hb2.mono hb.size)⟩
          case measure => simp [intOf]; omega
      · have HX : Hid (r = y) := Lib.hid (by
          rw [← HRR.out]
          have h3 := HW.out
          have h5 := HY.out
          rw [show k = ts.length by omega] at h5
          unfold szT
          split <;> omega)
        go_wp2_with fail
        go_ret
        exact ⟨ret_int HX.out.symm, hb⟩
theorem szTreeS_any : ∀ d, SzTs d
  | 0 => szTreeS_zero
  | d + 1 => szTreeS_succ (szTreeS_any d)
end Go.Proofs.Ythlbpklllphhcaa
