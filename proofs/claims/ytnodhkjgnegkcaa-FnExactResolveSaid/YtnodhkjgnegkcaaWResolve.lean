/-
  The walk of the law FnExactResolve.
-/
import Derived.Test.YtnodhkjgnegkcaaResI
import Derived.Test.YtnodhkjgnegkcaaEnL
import Derived.Test.YtnodhkjgnegkcaaNdLaw
import Derived.Test.YtnodhkjgnegkcaaHeapD
import Derived.Deep.RegionWith
import Derived.Deep.DeepCutAuto
namespace Go.Proofs.Ytnodhkjgnegkcaa
open Go.RowKit

theorem off2_ok {left : Int} {a b : Nat} (h : ¬ off2 left a b < 0) (hl : left ≤ 1048576) : a + b ≤ 1048576 := by
  unfold off2 at h
  split at h
  · omega
  · split at h <;> omega
theorem resK_int (es : List En) (n : Bd) : -1 ≤ resK es n 0 := by
  have := resE_lt n es 0
  unfold resK; simp only [List.drop_zero]; exact this.1
set_option maxRecDepth 100000 in
set_option maxHeartbeats 4000000 in
theorem exResolve (v : Value) (es : List En) (a b : ByteArray) (w : World) (hr : RdEs w v es) (hn : es.length ≤ maxLen) (hm : ∀ e ∈ es, EnFits e) (ha : a.size ≤ maxLen) (hb : b.size ≤ maxLen) :
    Calls Try.prog 3 #[v, .agg #[.string a, .string b]] w fun e w' => e = .returned (.bool true) ∧ Below w.heap.size w w' := by
  obtain ⟨n1, rfl⟩ : ∃ l : List UInt8, a = ⟨l.toArray⟩ := ⟨a.data.toList, bytes_ext (by simp)⟩
  obtain ⟨n2, rfl⟩ : ∃ l : List UInt8, b = ⟨l.toArray⟩ := ⟨b.data.toList, bytes_ext (by simp)⟩
  have HZ := Lib.hid (fun (W : World) (h : Below w.heap.size w W) => szEntryS_any v es 1048576 W (hr.below h) (by omega) (by omega) hn hm)
  have HT0 := Lib.hid (fun (hg : SmEs es) (W : World) (h : Below w.heap.size w W) => toEntryS_any v es W (hr.below h) hg)
  have HZN0 := Lib.hid (fun (z : Int) (h0 : 0 ≤ z) (h1 : z ≤ 1048576) (W : World) => Ndk.szNeed_any ⟨n1.toArray⟩ ⟨n2.toArray⟩ z W h0 h1 ha hb)
  obtain ⟨z, HX⟩ : ∃ z, Hid (szEs 1048576 es = z) := ⟨_, Lib.hid rfl⟩
  obtain ⟨A, ca, rfl⟩ := hr.slice
  have B0 : Below w.heap.size w (w.alloc (.cells #[.string ⟨n1.toArray⟩, .string ⟨n2.toArray⟩] 24)) := (Below.refl _ _).alloc (Nat.le_refl _) _
  have b0 := heap_alloc_new w (.cells #[.string ⟨n1.toArray⟩, .string ⟨n2.toArray⟩] 24)
  clear hr hn hm ha hb
  by_cases hz : z < 0
  · go_enter Try.func3, Try.ntmps3
    go_wp2_with fail
    refine (HZ.out _ B0).mono ?_
    rw [HX.out]
    rintro e w1 ⟨rfl, hb1⟩
    go_wp2_with fail
    go_ret
    exact ⟨rfl, B0.trans (hb1.mono B0.size)⟩
  obtain ⟨hsm, hz0, hz1⟩ := szEs_good (es := es) (left := 1048576) (by omega) (by omega) (by rw [HX.out]; exact hz)
  rw [HX.out] at hz0 hz1
  have HZN := Lib.hid (HZN0.out z hz0 hz1)
  obtain ⟨u, HU⟩ : ∃ u, Hid (off2 z (⟨n1.toArray⟩ : ByteArray).size (⟨n2.toArray⟩ : ByteArray).size = u) := ⟨_, Lib.hid rfl⟩
  simp only [HU.out] at HZN
  have HT := Lib.hid (HT0.out hsm)
  have HS := Lib.hid hsm
  have hl : es.length ≤ 1048576 := by unfold SmEs at hsm; omega
  have hh : ∀ e ∈ es, e.heads.length ≤ 1048576 := fun e he => by
    obtain ⟨k, hk, rfl⟩ := List.mem_iff_getElem.1 he
    have := (hsm.get k hk).heads; omega
  have HSP := Lib.hid (fun (V : World) (x : Value) (h : RdEs V x es) => specResolve_any x es (n1, n2) V h hl hh)
  have HIM := Lib.hid (fun (V : World) (x : Value) (h : RdEs V x es) => implResolve_any x es (n1, n2) V h hl hh)
  have HTN := Lib.hid (fun V => Ndk.toNeed_any ⟨n1.toArray⟩ ⟨n2.toArray⟩ V)
  obtain ⟨R, HR⟩ : ∃ R, Hid (resK es (n1, n2) 0 = R) := ⟨_, Lib.hid rfl⟩
  simp only [HR.out] at HSP HIM
  clear HZN0 HT0 hsm hh hz0 hz1
  by_cases hu : u < 0
  · go_enter Try.func3, Try.ntmps3
    go_wp2_with fail
    refine (HZ.out _ B0).mono ?_
    rw [HX.out]
    rintro e w1 ⟨rfl, hb1⟩
    have B1 := B0.trans (hb1.mono B0.size)
    obtain ⟨x0, x1⟩ := cellsG (keepB b0 hb1)
    clear hb1
    go_wp2_with fail
    refine (HZN.out _).mono ?_
    rintro e w2 ⟨rfl, hb2⟩
    go_wp2_with fail
    go_ret
    exact ⟨rfl, B1.trans (hb2.mono B1.size)⟩
  go_enter Try.func3, Try.ntmps3
  go_wp2_with fail
  refine (HZ.out _ B0).mono ?_
  rw [HX.out]
  rintro e w1 ⟨rfl, hb1⟩
  have B1 := B0.trans (hb1.mono B0.size)
  have b1 := keepB b0 hb1
  obtain ⟨x0, x1⟩ := cellsG b1
  clear hb1 b0 B0
  go_wp2_with fail
  refine (HZN.out _).mono ?_
  rintro e w2 ⟨rfl, hb2⟩
  have B2 := B1.trans (hb2.mono B1.size)
  have b2 := keepB b1 hb2
  obtain ⟨y0, y1⟩ := cellsG b2
  clear hb2 b1 B1 x0 x1
  go_upto_region 8 with fail
  go_cut [6] (fun s wx => s = .int .i64 R ∧ Below w.heap.size w wx ∧ wx.heap[w.heap.size]? = some (.cells #[.string ⟨n1.toArray⟩, .string ⟨n2.toArray⟩] 24))
  case first =>
    go_region_with (first
      | (go_at_call 10; refine (HT.out _ (B2.trans ((below_drewN w2.heap.size w2 1).mono B2.size))).mono ?_; rintro e w4 ⟨u4, rfl, hG4, hb4⟩; obtain ⟨D4, e4, rfl⟩ := hG4.slice; obtain ⟨z0, z1⟩ := cellsG (keepB (W := w2.drewN 1) b2 hb4))
      | (go_at_call 11; refine (HTN.out _).mono ?_; rintro e w3 ⟨rfl, hb3⟩)
      | (go_at_call 9; refine (HSP.out _ _ (RdEs.of_own (hG4.below hb3))).mono ?_; rintro e w5 ⟨rfl, hb5⟩))
    all_goals
      go_wp2_with fail
      go_meet
      have T4 := (below_drewN w2.heap.size w2 1).trans hb4
      have T3 := T4.trans (hb3.mono T4.size)
      have T5 := T3.trans (hb5.mono T3.size)
      exact ⟨rfl, B2.trans (T5.mono B2.size), keepB b2 T5⟩
  case rest =>
  obtain ⟨rfl, B5, b5⟩ := hcut
  rename_i w5
  clear b2 B2 y0 y1
  go_wp2_with fail
  refine (HT.out _ B5).mono ?_
  rintro e w6 ⟨u6, rfl, hG6, hb6⟩
  obtain ⟨D6, e6, rfl⟩ := hG6.slice
  have B6 := B5.trans (hb6.mono B5.size)
  have b6 := keepB b5 hb6
  obtain ⟨y0, y1⟩ := cellsG b6
  have q0 : (R != R) = false := by simp
  clear hb6 b5 B5
  go_wp2_with fail
  refine (HTN.out _).mono ?_
  rintro e w7 ⟨rfl, hb7⟩
  have B7 := B6.trans (hb7.mono B6.size)
  have hG7 := hG6.below hb7
  clear hb7 B6 b6 y0 y1 hG6
  go_wp2_with fail
  refine (HIM.out _ _ (RdEs.of_own hG7)).mono ?_
  rintro e w8 ⟨rfl, hb8⟩
  have B8 := B7.trans (hb8.mono B7.size)
  have hG8 := hG7.below hb8
  clear hb8 B7 hG7
  go_wp2_with fail
  refine (HT.out _ B8).mono ?_
  rintro e w9 ⟨u9, rfl, hG9, hb9⟩
  obtain ⟨D9, e9, rfl⟩ := hG9.slice
  have B9 := B8.trans (hb9.mono B8.size)
  have hG8' := hG8.below hb9
  clear hb9 B8 hG8
  go_wp2_with fail
  refine (eqEntryS_same _ _ es _ (RdEs.of_own hG8') (RdEs.of_own hG9) HS.out).mono ?_
  rintro e w10 ⟨rfl, hb10⟩
  go_wp2_with fail
  go_ret
  exact ⟨rfl, B9.trans (hb10.mono B9.size)⟩
end Go.Proofs.Ytnodhkjgnegkcaa
