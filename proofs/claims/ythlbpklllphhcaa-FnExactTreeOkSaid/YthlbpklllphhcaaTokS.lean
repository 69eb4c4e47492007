/-
  spec.l06Right, spec.l06Nodes, spec.TreeOk.
-/
import Derived.Test.YthlbpklllphhcaaTokM
import Derived.Test.YthlbpklllphhcaaHeapD
namespace Go.Proofs.Ythlbpklllphhcaa
open Go.RowKit

theorem TsOwn.at {d : Nat} {w : World} {base : Nat} {v : Value} {ts : List Tr} (h : TsOwn d w base v ts) (k : Nat) (hk : k < ts.length) : ∃ e G cap b kv, d = e + 1 ∧ v = .slice (some ⟨G, 0, none⟩) ts.length cap ∧ G < w.heap.size ∧ w.cell? ⟨G, k * 5, none⟩ = some (.int .i64 ts[k].kind) ∧ w.cell? ⟨G, k * 5 + 1, none⟩ = some (.int .i64 ts[k].n) ∧ w.cell? ⟨G, k * 5 + 2, none⟩ = some (.string ⟨ts[k].s.toArray⟩) ∧ w.cell? ⟨G, k * 5 + 3, none⟩ = some b ∧ w.cell? ⟨G, k * 5 + 4, none⟩ = some kv ∧ Strs w (G + 1) b ts[k].keys ∧ TsOwn e w (G + 1) kv ts[k].kids := by
  cases d with
  | zero => obtain ⟨rfl, _⟩ := h; simp at hk
  | succ d =>
    obtain ⟨_, G, cap, qs, rfl, h1, h2, rfl, h4, h5⟩ := h
    simp at hk
    obtain ⟨c0, c1, c2, c3, c4⟩ := h4.cell k hk
    have ho := h5 qs[k] (List.getElem_mem hk)
    simp only [List.getElem_map]
    exact ⟨d, G, cap, qs[k].2.1, qs[k].2.2, rfl, by simp, h2, c0, c1, c2, c3, c4, ho.2.1, ho.2.2⟩
theorem wKid {e : Nat} {t : Tr} {k : Nat} (h : k < t.kids.length) : wT e t.kids[k] + 1 ≤ wT (e + 1) t := by
  have hw : wT (e + 1) t = t.s.length + (t.keys.length + smL t.keys) + wTs (e + 1) t.kids := rfl
  have h1 := wTs_is e t.kids
  have h2 := wTo_succ (d := e) h
  have h3 := wTo_le (d := e) (ts := t.kids) (k + 1)
  omega
theorem lenKids {d : Nat} {w : World} {base : Nat} {kv : Value} {t : Tr} (h : TsOwn d w base kv t.kids) : t.kids.length ≤ wT d t := by
  have hw : wT d t = t.s.length + (t.keys.length + smL t.keys) + wTs d t.kids := rfl
  cases d with
  | zero => obtain ⟨h0, _⟩ := h; rw [h0]; simp
  | succ d => have h1 := wTs_is d t.kids; omega
def RtD (d : Nat) : Prop := ∀ (t : Tr) (b kv : Value) (base : Nat) (deep : Int) (w : World), Strs w base b t.keys → TsOwn d w base kv t.kids → wT d t ≤ 1048576 → deep ≤ 8 → (wT d t : Int) ≤ deep + 2000000 → Calls Try.prog 69 #[trV t b kv, .int .i64 deep] w fun e w' => e = .returned (.bool (okT ownB d t deep)) ∧ Below w.heap.size w w'

set_option maxRecDepth 100000 in
set_option maxHeartbeats 4000000 in
theorem l06Right_of {d : Nat} (IH : ∀ e, d = e + 1 → RtD e) : RtD d := by
  intro t b kv base deep w hb hk hs hd8 hdw
  have hw : wT d t = t.s.length + (t.keys.length + smL t.keys) + wTs d t.kids := rfl
  have hkl : t.keys.length ≤ 1048576 := by omega
  have hkd : t.kids.length ≤ 1048576 := by have := lenKids hk; omega
  have HI := Lib.hid IH
  have HR := Lib.hid hk
  have HO := Lib.hid (fun (W : World) (h : Below w.heap.size w W) (B : Option Addr) (cb : Nat) (e : kv = .slice B t.kids.length cb) => l06Own_any t b kv B cb base W (hb.below h) e hkl hkd)
  have HSW := Lib.hid hs
  have HDW := Lib.hid hdw
  obtain ⟨A, ca, rfl⟩ := hb.slice
  obtain ⟨G, cb, hkv, hG, hGl⟩ := hk.slice
  have HO2 := Lib.hid (fun (W : World) (h : Below w.heap.size w W) => HO.out W h _ _ hkv)
  subst hkv
  unfold trV at HO2 ⊢
  obtain ⟨r, HRR⟩ : ∃ r, Hid (okT ownB d t deep = r) := ⟨_, Lib.hid rfl⟩
  rw [HRR.out]
  clear hb hk HO IH hw hdw hs
  have B0 : Below w.heap.size w (w.alloc (.cells #[.int .i64 t.kind, .int .i64 t.n, .string ⟨t.s.toArray⟩, .slice A t.keys.length ca, .slice (some ⟨G, 0, none⟩) t.kids.length cb] 30)) := (Below.refl _ _).alloc (Nat.le_refl _) _
  have b0 := heap_alloc_new w (.cells #[.int .i64 t.kind, .int .i64 t.n, .string ⟨t.s.toArray⟩, .slice A t.keys.length ca, .slice (some ⟨G, 0, none⟩) t.kids.length cb] 30)
  go_enter Try.func69, Try.ntmps69
  go_wp2_with fail
  generalize w.alloc (.cells #[.int .i64 t.kind, .int .i64 t.n, .string ⟨t.s.toArray⟩, .slice A t.keys.length ca, .slice (some ⟨G, 0, none⟩) t.kids.length cb] 30) = V at B0 b0 ⊢
  go_loopw [5] (fun i wr => ∃ k : Nat, k ≤ t.kids.length ∧ i = .int .i64 k ∧ Hid (okTo ownB d t.kids (deep - 1) k) ∧ Below V.heap.size V wr) (fun i _ => t.kids.length - (intOf i).toNat)
  case atStart => exact ⟨0, Nat.zero_le _, rfl, Lib.hid (okTo_zero _ _ _ _), Below.refl _ _⟩
  case round =>
    obtain ⟨k, hk, rfl, HA, hbv⟩ := hrel
    have e0 := keepB b0 hbv
    obtain ⟨m0, m1, m2, m3, m4⟩ := cells5 e0
    have l0 := lt_of_heap e0
    have hbw := B0.trans (hbv.mono B0.size)
    by_cases hlt : k < t.kids.length
    · obtain ⟨e, G', cap', bb, kk, hde, hv', hg, d0, d1, d2, d3, d4, rb, rk⟩ := (HR.out.below hbw).at k hlt
      simp only [Value.slice.injEq, Option.some.injEq, Addr.mk.injEq, and_true] at hv'
      obtain ⟨rfl, _, rfl⟩ := hv'
      have HC : Hid (Calls Try.prog 69 #[trV t.kids[k] bb kk, .int .i64 (deep - 1)] wr fun e' w' => e' = .returned (.bool (okT ownB e t.kids[k] (deep - 1))) ∧ Below wr.heap.size wr w') := Lib.hid (HI.out e hde t.kids[k] bb kk (G + 1) (deep - 1) wr rb rk (by have := wKid (e := e) hlt; have := HSW.out; subst hde; omega) (by omega) (by have := wKid (e := e) hlt; have := HDW.out; subst hde; omega))
      have HNO := Lib.hid (fun (h : okT ownB e t.kids[k] (deep - 1) = false) => (show r = false by rw [← HRR.out]; subst hde; exact okT_bad hlt h))
      have HYS : Hid (okT ownB e t.kids[k] (deep - 1) = true → okTo ownB d t.kids (deep - 1) (k + 1)) := Lib.hid (fun h => by subst hde; exact okTo_step HA.out hlt h)
      obtain ⟨A1, c1, rfl⟩ := rb.slice
      obtain ⟨A2, c2, rfl, _, _⟩ := rk.slice
      have hdl : -2000001 ≤ deep := by have := HDW.out; omega
      have k0 : (0 : Int) ≤ (k : Int) := by omega
      have k1 : (k : Int) < (t.kids.length : Int) := by omega
      clear rb rk HA
      generalize t.kids[k] = kid at d0 d1 d2 d3 d4 HC HNO HYS
      unfold trV at HC
      obtain ⟨z, HZ⟩ : ∃ z, Hid (okT ownB e kid (deep - 1) = z) := ⟨_, Lib.hid rfl⟩
      rw [HZ.out] at HC HNO HYS
      cases z
      · have HX := Lib.hid (HNO.out rfl)
        clear HNO HYS
        go_wp2_with fail
        refine HC.out.mono ?_
        rintro e w1 ⟨rfl, hb1⟩
        go_wp2_with fail
        go_ret
        exact ⟨ret_bool HX.out.symm, hbw.trans (hb1.mono hbw.size)⟩
      · have HX := Lib.hid (HYS.out rfl)
        clear HNO HYS
        go_wp2_with fail
        refine HC.out.mono ?_
        rintro e w1 ⟨rfl, hb1⟩
        have B1 := hbv.trans (hb1.mono hbv.size)
        go_wp2_with fail
        go_roundw
        case rel => exact ⟨k + 1, by omega, by go_num, HX, B1⟩
        case measure => simp [intOf]; omega
    · have HX : Hid (r = (decide (0 ≤ deep) && ownB t)) := Lib.hid (by rw [← HRR.out]; exact okT_end hlt HA.out)
      clear HA
      by_cases h0 : 0 ≤ deep
      · have HX2 : Hid (r = ownB t) := Lib.hid (by rw [HX.out, decide_eq_true h0, Bool.true_and])
        go_wp2_with fail
        refine (HO2.out _ hbw).mono ?_
        rintro e w1 ⟨rfl, hb1⟩
        go_wp2_with fail
        go_ret
        exact ⟨ret_bool HX2.out.symm, hbw.trans (hb1.mono hbw.size)⟩
      · have HX2 : Hid (r = false) := Lib.hid (by rw [HX.out, decide_eq_false h0]; rfl)
        have h1 : decide (0 ≤ deep) = false := decide_eq_false h0
        go_wp2_with fail
        go_ret
        exact ⟨ret_bool HX2.out.symm, hbw⟩
theorem rtD : ∀ d, RtD d
  | 0 => l06Right_of (fun e h => by omega)
  | d + 1 => l06Right_of (fun e h => by
      obtain rfl : e = d := by omega
      exact rtD e)

def NdD (d : Nat) : Prop := ∀ (t : Tr) (b kv : Value) (base : Nat) (w : World), Strs w base b t.keys → TsOwn d w base kv t.kids → wT d t ≤ 1048576 → Calls Try.prog 70 #[trV t b kv] w fun e w' => e = .returned (.int .i64 (nT d t : Int)) ∧ Below w.heap.size w w'
theorem nT_le (d : Nat) (t : Tr) : nT d t ≤ wT d t + 1 := by
  have hw : wT d t = t.s.length + (t.keys.length + smL t.keys) + wTs d t.kids := rfl
  have h : nT d t = 1 + nTs d t.kids := rfl
  have := nTs_w d t.kids
  omega

set_option maxRecDepth 100000 in
set_option maxHeartbeats 4000000 in
theorem l06Nodes_of {d : Nat} (IH : ∀ e, d = e + 1 → NdD e) : NdD d := by
  intro t b kv base w hb hk hs
  have hw : wT d t = t.s.length + (t.keys.length + smL t.keys) + wTs d t.kids := rfl
  have hkd : t.kids.length ≤ 1048576 := by have := lenKids hk; omega
  have hnw := nTs_w d t.kids
  have HI := Lib.hid IH
  have HR := Lib.hid hk
  have HSW := Lib.hid hs
  have HNA := Lib.hid (nPre_all d t.kids)
  have HTN : Hid (nT d t = 1 + nTs d t.kids) := Lib.hid rfl
  have hnb : nTs d t.kids ≤ 1048576 := by omega
  obtain ⟨A, ca, rfl⟩ := hb.slice
  obtain ⟨G, cb, rfl, hG, hGl⟩ := hk.slice
  unfold trV
  obtain ⟨r, HRR⟩ : ∃ r, Hid (nT d t = r) := ⟨_, Lib.hid rfl⟩
  rw [HRR.out]
  clear hb hk IH hw hs hnw
  have B0 : Below w.heap.size w (w.alloc (.cells #[.int .i64 t.kind, .int .i64 t.n, .string ⟨t.s.toArray⟩, .slice A t.keys.length ca, .slice (some ⟨G, 0, none⟩) t.kids.length cb] 30)) := (Below.refl _ _).alloc (Nat.le_refl _) _
  have b0 := heap_alloc_new w (.cells #[.int .i64 t.kind, .int .i64 t.n, .string ⟨t.s.toArray⟩, .slice A t.keys.length ca, .slice (some ⟨G, 0, none⟩) t.kids.length cb] 30)
  go_enter Try.func70, Try.ntmps70
  go_wp2_with fail
  generalize w.alloc (.cells #[.int .i64 t.kind, .int .i64 t.n, .string ⟨t.s.toArray⟩, .slice A t.keys.length ca, .slice (some ⟨G, 0, none⟩) t.kids.length cb] 30) = V at B0 b0 ⊢
  go_loopw [3, 4] (fun u i wr => ∃ k U : Nat, k ≤ t.kids.length ∧ i = .int .i64 k ∧ u = .int .i64 (U : Int) ∧ Hid (U = 1 + nPre d t.kids k) ∧ U ≤ 1048577 ∧ Below V.heap.size V wr) (fun _ i _ => t.kids.length - (intOf i).toNat)
  case atStart => exact ⟨0, 1, Nat.zero_le _, rfl, rfl, Lib.hid (by rw [nPre_zero]), by omega, Below.refl _ _⟩
  case round =>
    obtain ⟨k, U, hk, rfl, rfl, HU, hU, hbv⟩ := hrel
    have e0 := keepB b0 hbv
    obtain ⟨m0, m1, m2, m3, m4⟩ := cells5 e0
    have l0 := lt_of_heap e0
    have hbw := B0.trans (hbv.mono B0.size)
    by_cases hlt : k < t.kids.length
    · obtain ⟨e, G', cap', bb, kk, hde, hv', hg, d0, d1, d2, d3, d4, rb, rk⟩ := (HR.out.below hbw).at k hlt
      simp only [Value.slice.injEq, Option.some.injEq, Addr.mk.injEq, and_true] at hv'
      obtain ⟨rfl, _, rfl⟩ := hv'
      have HC : Hid (Calls Try.prog 70 #[trV t.kids[k] bb kk] wr fun e' w' => e' = .returned (.int .i64 (nT e t.kids[k] : Int)) ∧ Below wr.heap.size wr w') := Lib.hid (HI.out e hde t.kids[k] bb kk (G + 1) wr rb rk (by have := wKid (e := e) hlt; have := HSW.out; subst hde; omega))
      have HST : Hid (nPre d t.kids (k + 1) = nPre d t.kids k + nT e t.kids[k]) := Lib.hid (by subst hde; exact nPre_step hlt)
      have hre : nPre d t.kids (k + 1) ≤ nTs d t.kids := by subst hde; have := nPre_rest (d := e) (ts := t.kids) (k := k + 1) (by omega); omega
      obtain ⟨A1, c1, rfl⟩ := rb.slice
      obtain ⟨A2, c2, rfl, _, _⟩ := rk.slice
      have k0 : (0 : Int) ≤ (k : Int) := by omega
      have k1 : (k : Int) < (t.kids.length : Int) := by omega
      obtain ⟨nk, HNK⟩ : ∃ nk, Hid (nT e t.kids[k] = nk) := ⟨_, Lib.hid rfl⟩
      rw [HNK.out] at HC HST
      have hUn : U + nk ≤ 1048577 := by have := HU.out; have := HST.out; omega
      have hwr : IntKind.i64.wrap ((U : Int) + (nk : Int)) = ((U + nk : Nat) : Int) := by rw [show (U : Int) + (nk : Int) = ((U + nk : Nat) : Int) by omega]; exact IntWalk.i64_in _ (by omega)
      clear rb rk hre
      generalize t.kids[k] = kid at d0 d1 d2 d3 d4 HC HNK
      unfold trV at HC
      go_wp2_with fail
      refine HC.out.mono ?_
      rintro e w1 ⟨rfl, hb1⟩
      have B1 := hbv.trans (hb1.mono hbv.size)
      go_wp2_with fail
      go_roundw
      case rel => exact ⟨k + 1, U + nk, by omega, by go_num, by go_num, Lib.hid (by have := HU.out; have := HST.out; omega), hUn, B1⟩
      case measure => simp [intOf]; omega
    · have HX : Hid (U = r) := Lib.hid (by
        have h1 := HU.out
        rw [show k = t.kids.length by omega, HNA.out] at h1
        rw [← HRR.out, HTN.out, h1])
      go_wp2_with fail
      go_ret
      exact ⟨ret_int (by rw [HX.out]), hbw⟩
theorem ndD : ∀ d, NdD d
  | 0 => l06Nodes_of (fun e h => by omega)
  | d + 1 => l06Nodes_of (fun e h => by
      obtain rfl : e = d := by omega
      exact ndD e)

set_option maxRecDepth 100000 in
set_option maxHeartbeats 2000000 in
theorem specTreeOk_any {d : Nat} (t : Tr) (b kv : Value) (base : Nat) (w : World) (hb : Strs w base b t.keys) (hk : TsOwn d w base kv t.kids) (hs : wT d t ≤ 1048576) :
    Calls Try.prog 24 #[trV t b kv] w fun e w' => e = .returned (.bool (treeB d t)) ∧ Below w.heap.size w w' := by
  have HA := Lib.hid (fun (W : World) (h : Below w.heap.size w W) => rtD d t b kv base 8 W (hb.below h) (hk.below h) hs (by omega) (by omega))
  have HB := Lib.hid (fun (W : World) (h : Below w.heap.size w W) => ndD d t b kv base W (hb.below h) (hk.below h) hs)
  have hn := nT_le d t
  have HT : Hid (treeB d t = (okT ownB d t 8 && decide (nT d t ≤ 600))) := Lib.hid rfl
  obtain ⟨A, ca, rfl⟩ := hb.slice
  obtain ⟨G, cb, rfl, _, _⟩ := hk.slice
  obtain ⟨n, HN⟩ : ∃ n, Hid (nT d t = n) := ⟨_, Lib.hid rfl⟩
  obtain ⟨x, HXX⟩ : ∃ x, Hid (okT ownB d t 8 = x) := ⟨_, Lib.hid rfl⟩
  simp only [HN.out, HXX.out] at HA HB HT hn
  unfold trV at *
  clear hb hk
  have B0 : Below w.heap.size w (w.alloc (.cells #[.int .i64 t.kind, .int .i64 t.n, .string ⟨t.s.toArray⟩, .slice A t.keys.length ca, .slice (some ⟨G, 0, none⟩) t.kids.length cb] 30)) := (Below.refl _ _).alloc (Nat.le_refl _) _
  have b0 := heap_alloc_new w (.cells #[.int .i64 t.kind, .int .i64 t.n, .string ⟨t.s.toArray⟩, .slice A t.keys.length ca, .slice (some ⟨G, 0, none⟩) t.kids.length cb] 30)
  cases x
  · have HX : Hid (treeB d t = false) := Lib.hid (by rw [HT.out]; rfl)
    go_enter Try.func24, Try.ntmps24
    go_wp2_with fail
    refine (HA.out _ B0).mono ?_
    rintro e w1 ⟨rfl, hb1⟩
    go_wp2_with fail
    go_ret
    exact ⟨ret_bool HX.out.symm, B0.trans (hb1.mono B0.size)⟩
  · have HX : Hid (treeB d t = decide ((n : Int) ≤ 600)) := Lib.hid (by rw [HT.out, Bool.true_and]; congr 1; apply propext; omega)
    go_enter Try.func24, Try.ntmps24
    go_wp2_with fail
    refine (HA.out _ B0).mono ?_
    rintro e w1 ⟨rfl, hb1⟩
    have B1 := B0.trans (hb1.mono B0.size)
    obtain ⟨m0, m1, m2, m3, m4⟩ := cells5 (keepB b0 hb1)
    go_wp2_with fail
    refine (HB.out _ B1).mono ?_
    rintro e w2 ⟨rfl, hb2⟩
    go_wp2_with fail
    go_ret
    exact ⟨ret_bool HX.out.symm, B1.trans (hb2.mono B1.size)⟩
end Go.Proofs.Ythlbpklllphhcaa
