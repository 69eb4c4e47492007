/-
  The laws' own markFieldS, markTable, markField: marks over a table of the call's own change only its blocks.
-/
import Derived.Test.YtongpnknmgbhjaaMkA
import Derived.Test.YtongpnknmgbhjaaFdO
import Derived.Test.YtongpnknmgbhjaaMarkS
namespace Go.Proofs.Ytongpnknmgbhjaa
open Go.RowKit

/-- The four cells from o on are a field's, its list among the blocks from lo on and below hi. -/
def FdK (w : World) (lo hi : Nat) (cur : Array Value) (o nl : Nat) : Prop := ∃ s0 s1 A1 c1 d, cur[o]? = some (.string s0) ∧ cur[o + 1]? = some (.string s1) ∧ cur[o + 2]? = some (.slice A1 nl c1) ∧ cur[o + 3]? = some (.bool d) ∧ SlR w lo hi A1 nl 1 9
/-- A list of fields whose blocks all lie from lo on and below hi. -/
def FdsS (w : World) (lo hi : Nat) (v : Value) (fs : List Fd) : Prop := ∃ G cap cur, v = .slice (some ⟨G, 0, none⟩) fs.length cap ∧ lo ≤ G ∧ G < hi ∧ w.heap[G]? = some (.cells cur 35) ∧ ∀ k (h : k < fs.length), FdK w lo hi cur (k * 4) fs[k].list.length
theorem FdsS.mk {w w' : World} {lo hi : Nat} {v : Value} {fs : List Fd} (h : FdsS w lo hi v fs) (hm : Mk lo hi w w') : FdsS w' lo hi v fs := by
  obtain ⟨G, cap, cur, hv, h1, h2, hc, hp⟩ := h
  obtain ⟨cur', hc', _, hk⟩ := hm.row G cur _ h1 h2 hc
  refine ⟨G, cap, cur', hv, h1, h2, hc', fun k hlt => ?_⟩
  obtain ⟨s0, s1, A1, c1, d, e0, e1, e2, e3, r1⟩ := hp k hlt
  obtain ⟨_, f0, ⟨t0, rfl⟩⟩ := hk _ _ e0
  obtain ⟨_, f1, ⟨t1, rfl⟩⟩ := hk _ _ e1
  obtain ⟨v2, f2, t2⟩ := hk _ _ e2
  obtain ⟨_, f3, ⟨t3, rfl⟩⟩ := hk _ _ e3
  obtain rfl : v2 = _ := t2
  exact ⟨t0, t1, A1, c1, t3, f0, f1, f2, f3, r1.mk hm⟩
theorem FdsS.of_own {w : World} {lo : Nat} {v : Value} {fs : List Fd} (h : FdsOwn w lo v fs) : FdsS w lo w.heap.size v fs := by
  obtain ⟨G, cap, qs, rfl, h1, h2, rfl, h4, h5⟩ := h
  obtain ⟨hl, hr⟩ := h4
  rcases hr with ⟨h0, _⟩ | ⟨g', cap', cur, hv, _, hh, hn, _, hsz, htk⟩
  · cases h0
  · simp only [Value.slice.injEq, Option.some.injEq, Addr.mk.injEq, and_true] at hv
    obtain ⟨rfl, _, rfl⟩ := hv
    refine ⟨G, cap, cur, rfl, h1, h2, hh, fun k hlt => ?_⟩
    simp at hlt
    have hg : ∀ i, i < 4 → cur[k * 4 + i]? = (flatF qs)[k * 4 + i]? := fun i hi => by
      rw [← htk, List.getElem?_take_of_lt (by omega)]; simp
    obtain ⟨e0, e1, e2, e3⟩ := flatF_get qs k hlt
    have ho : Strs w (G + 1) qs[k].2 qs[k].1.list := h5 qs[k] (List.getElem_mem hlt)
    obtain ⟨A1, c1, q1⟩ := ho.slice
    rw [q1] at e2
    rw [q1] at ho
    simp only [List.getElem_map]
    refine ⟨_, _, A1, c1, _, (hg 0 (by omega)).trans e0, (hg 1 (by omega)).trans e1, (hg 2 (by omega)).trans e2, (hg 3 (by omega)).trans e3, strs_slR ho rfl (by omega) (Nat.le_refl _)⟩
theorem FdsS.below {w w' : World} {lo hi : Nat} {v : Value} {fs : List Fd} (h : FdsS w lo hi v fs) (hb : Below w.heap.size w w') (hh : hi ≤ w.heap.size) : FdsS w' lo hi v fs := h.mk (Mk.of_below hb hh)

/-- How many marks the first k fields take. -/
def cntF (fs : List Fd) : Nat → Nat
  | 0 => 0
  | k + 1 => cntF fs k + (3 + (fs.getD k default).list.length)
theorem fs_getD {fs : List Fd} {k : Nat} (h : k < fs.length) : fs.getD k default = fs[k] := by rw [List.getD_eq_getElem?_getD, List.getElem?_eq_getElem h]; rfl
theorem cntF_le (fs : List Fd) : ∀ k, k ≤ fs.length → cntF fs k ≤ 3 * k + smF (fs.take k)
  | 0, _ => by simp [cntF]
  | k + 1, h => by
    have ih := cntF_le fs k (by omega)
    have hs := smF_snoc fs k (by omega)
    unfold cntF
    rw [fs_getD (by omega : k < fs.length)]
    have : wF fs[k] = fs[k].key.length + fs[k].text.length + (fs[k].list.length + smL fs[k].list) := rfl
    omega
theorem cntF_small {fs : List Fd} (hs : SmFs fs) (k : Nat) (hk : k ≤ fs.length) : cntF fs k ≤ 10000000 := by
  have h1 := cntF_le fs k hk
  have h2 := smF_le fs k
  unfold SmFs at hs
  omega

set_option maxRecDepth 100000 in
set_option maxHeartbeats 4000000 in
theorem markFieldS_w (lo hi s : Nat) (v : Value) (fs : List Fd) (w : World) (h : FdsS w lo hi v fs) (hw : hi ≤ w.heap.size) (hs : SmFs fs) (s1 : 1 ≤ s) (s2 : s ≤ 20000000) :
    Calls Try.prog 51 #[v, .int .i64 (s : Int)] w fun e w' => ∃ z : Nat, e = .returned (.int .i64 (z : Int)) ∧ Mk lo hi w w' ∧ z = s + cntF fs fs.length := by
  have HS := Lib.hid hs
  have HP := Lib.hid h
  have hn : fs.length ≤ 1048576 := by unfold SmFs at hs; omega
  obtain ⟨G, cap, cur0, rfl, hG1, hG2, _, _⟩ := h
  clear hs
  go_enter Try.func51, Try.ntmps51
  go_wp2_with fail
  go_loopw [1, 5] (fun u i wr => ∃ k U : Nat, k ≤ fs.length ∧ Hid (U = s + cntF fs k) ∧ i = .int .i64 k ∧ u = .int .i64 (U : Int) ∧ Mk lo hi w wr) (fun _ i _ => fs.length - (intOf i).toNat)
  case atStart => exact ⟨0, s, Nat.zero_le _, Lib.hid (by simp [cntF]), rfl, rfl, Mk.refl _ _ _⟩
  case round =>
    obtain ⟨k, U, hk, HU, rfl, rfl, hM⟩ := hrel
    have hc := cntF_small HS.out k hk
    have u1 : 1 ≤ U := by have := HU.out; omega
    have u2 : U ≤ 30000000 := by have := HU.out; omega
    by_cases hlt : k < fs.length
    · have hw0 := HS.out.get k hlt
      have hnl : fs[k].list.length ≤ 1048576 := by have := hw0.list; omega
      have HU2 : Hid (cntF fs (k + 1) = cntF fs k + (3 + fs[k].list.length)) := Lib.hid (by rw [← fs_getD hlt]; rfl)
      have HR := Lib.hid (fun (W : World) (hm : Mk lo hi w W) => (show ∃ cur, W.heap[G]? = some (.cells cur 35) ∧ FdK W lo hi cur (k * 4) fs[k].list.length from by
        obtain ⟨G', cap', cur, hv, _, _, hh, hp⟩ := HP.out.mk hm
        simp only [Value.slice.injEq, Option.some.injEq, Addr.mk.injEq, and_true] at hv
        obtain ⟨rfl, _⟩ := hv
        exact ⟨cur, hh, hp k hlt⟩))
      obtain ⟨nn, HNN⟩ : ∃ nn, Hid (fs[k].list.length = nn) := ⟨_, Lib.hid rfl⟩
      simp only [HNN.out] at HR HU2 hnl
      have k0 : (0 : Int) ≤ (k : Int) := by omega
      have k1 : (k : Int) < (fs.length : Int) := by omega
      have hz : hi ≤ wr.heap.size := by have := hM.size; omega
      clear hw0 hc
      go_wp2_with fail
      refine (markText_any U wr (by omega) (by omega)).mono ?_
      rintro e w2 ⟨rfl, hb2⟩
      have M2 := hM.trans (Mk.of_below (lo := lo) (hi := hi) hb2 hz)
      obtain ⟨cu, hcu, t0, t1, A1, c1, d, e0, e1, e2, e3, r1⟩ := HR.out _ M2
      obtain ⟨x0, f0⟩ := cellOf hcu e0
      have M3 := M2.trans (Mk.set w2 G (k * 4) (sv (mt U)) hG1 hG2 (fun v hv => by rw [x0] at hv; cases hv; exact ⟨_, rfl⟩))
      have hz2 : hi ≤ w2.heap.size := by have := M2.size; omega
      clear hM hb2 hcu e0 e1 e2 e3 r1 M2
      go_wp2_with fail
      refine (markText_any (U + 1) _ (by omega) (by omega)).mono ?_
      rintro e w3 ⟨rfl, hb3⟩
      have M4 := M3.trans (Mk.of_below (lo := lo) (hi := hi) hb3 (by simpa using hz2))
      obtain ⟨cu, hcu, t0, t1, A1, c1, d, e0, e1, e2, e3, r1⟩ := HR.out _ M4
      obtain ⟨x1, f1⟩ := cellOf hcu e1
      have S2 := Mk.set (lo := lo) (hi := hi) w3 G (k * 4 + 1) (sv (mt (U + 1))) hG1 hG2 (fun v hv => by rw [x1] at hv; cases hv; exact ⟨_, rfl⟩)
      have M5 := M4.trans S2
      have hz3 : hi ≤ w3.heap.size := by have := M4.size; omega
      obtain ⟨x2, _⟩ := cellOf hcu e2
      have HM3 := Lib.hid (markStringS_r lo hi nn c1 (U + 2) A1 _ (r1.mk S2) (by simpa using hz3) (by omega) (by omega) (by omega))
      clear hb3 hcu e0 e1 e2 e3 r1 M4 M3 x0 f0 hz2 S2
      go_wp2_with fail
      refine HM3.out.mono ?_
      rintro e w5 ⟨rfl, hm5⟩
      have M8 := M5.trans hm5
      obtain ⟨U5, HU5⟩ : ∃ U5, Hid (U + 2 + nn = U5) := ⟨_, Lib.hid rfl⟩
      rw [HU5.out]
      have u5 : U5 ≤ 40000000 := by have := HU5.out; omega
      obtain ⟨cu, hcu, t0, t1, A1, c1, d, e0, e1, e2, e3, r1⟩ := HR.out _ M8
      obtain ⟨x4, f4⟩ := cellOf hcu e3
      have HMB := Lib.hid (fun (b : Bool) => Mk.set (lo := lo) (hi := hi) w5 G (k * 4 + 3) (.bool b) hG1 hG2 (fun v hv => by rw [x4] at hv; cases hv; exact ⟨_, rfl⟩))
      clear hcu e0 e1 e2 e3 r1 hm5 M5 HM3 x1 f1 x2 hz3
      have u6 : IntKind.i64.wrap ((U5 : Int) + 1) = (U5 : Int) + 1 := IntWalk.i64_in _ (by omega)
      go_wp2_with fail
      go_roundw
      case rel => exact ⟨k + 1, U5 + 1, by omega, Lib.hid (by rw [← HU5.out, HU2.out, HU.out]; omega), by go_num, by go_num, M8.trans (HMB.out _)⟩
      case measure => simp [intOf]; omega
    · obtain rfl : k = fs.length := by omega
      go_wp2_with fail
      go_ret
      exact ⟨U, rfl, hM, HU.out⟩

set_option maxRecDepth 100000 in
set_option maxHeartbeats 2000000 in
theorem markTable_w (lo hi : Nat) (v : Value) (t : Tb) (w : World) (hp : FdsS w lo hi v t.fields) (hw : hi ≤ w.heap.size) (hs : SmTb t) :
    Calls Try.prog 16 #[tbV t v, .int .i64 1] w fun e w' => ∃ z : Nat, e = .returned (.int .i64 (z : Int)) ∧ Mk lo hi w w' := by
  obtain ⟨A, ca, hv⟩ : ∃ A ca, v = .slice A t.fields.length ca := by obtain ⟨G, cap, cur, hv, _⟩ := hp; exact ⟨_, _, hv⟩
  subst hv
  unfold tbV
  have B0 : Below w.heap.size w (w.alloc (.cells #[.string ⟨t.name.toArray⟩, .slice A t.fields.length ca] 32)) := (Below.refl _ _).alloc (Nat.le_refl _) _
  have M0 : Mk lo hi w (w.alloc (.cells #[.string ⟨t.name.toArray⟩, .slice A t.fields.length ca] 32)) := Mk.of_below B0 hw
  have HP := Lib.hid (markFieldS_w lo hi 1 (.slice A t.fields.length ca) t.fields _ (hp.mk M0) (by have := M0.size; omega) hs.fields (by omega) (by omega))
  clear hp hs
  go_enter Try.func16, Try.ntmps16
  go_wp2_with fail
  refine HP.out.mono ?_
  rintro e w1 ⟨z, rfl, hm1, hzz⟩
  clear hzz
  go_wp2_with fail
  go_ret
  exact ⟨z, rfl, M0.trans hm1⟩

set_option maxRecDepth 100000 in
set_option maxHeartbeats 1000000 in
theorem markField_gr (f : Fd) (w : World) (base : Nat) (v : Value) (h : Strs w base v f.list) (hl : f.list.length ≤ 2000000) :
    Calls Try.prog 17 #[fdV f v, .int .i64 1] w fun e w' => e = .returned (.int .i64 ((f.list.length + 1 : Nat) : Int)) ∧ Strs w' base v (mks f.list.length f.list) ∧ w.grownBy w' v.ownBlock := by
  have HC := Lib.hid (markS_gr _ base v f.list (h.alloc (.cells #[.string ⟨f.key.toArray⟩, .string ⟨f.text.toArray⟩, v, .bool f.isl] 35)) hl)
  unfold fdV
  go_enter Try.func17, Try.ntmps17
  go_wp2_with fail
  refine HC.out.mono ?_
  rintro e w' ⟨rfl, hS, hb⟩
  go_wp2_with fail
  go_ret
  exact ⟨rfl, hS, gr_trans (gr_alloc _ _ _) hb⟩
end Go.Proofs.Ytongpnknmgbhjaa
