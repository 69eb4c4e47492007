/-
  spec.SortVersions: the versions of a list, in order, each once.
-/
import Derived.Test.YtcfkhfbhmjfhdaaGreatDoorSortM
import Derived.Test.YtcfkhfbhmjfhdaaGreatDoorRdS
import Derived.Test.YtcfkhfbhmjfhdaaGreatDoorCmpW
import Derived.Test.YtcfkhfbhmjfhdaaGreatDoorApp
import Derived.Deep.RegionLaw
import Derived.Deep.QuietTactic
import Derived.BigQuiet
namespace Go.Proofs.YtcfkhfbhmjfhdaaGreatDoor
open Go.RowKit

/-- append(out, texts...) at a step of a region that draws its order. -/
theorem step_append_texts {w : World} {ops : Array Oper} {o : Oper} {a : Act} {K : Act → World → Prop} {Q : Exit → Act → World → Prop} {E : Prop} (hgd : o.guard = none) (s x : Operand)
    (ho : o.op = .call { callee := .builtin .append, args := #[s, x], argTypes := #[22, 22] })
    (base : Nat) (v : Value) (l : List (List UInt8)) (hs : a.eval s = v) (hown : Strs w base v l) (y : Value) (ls : List (List UInt8)) (hx : a.eval x = y) (hr : RdS w y ls)
    (hlen : l.length + ls.length ≤ 16777216) (hbase : base ≤ w.heap.size)
    (h : ∀ v' w', Strs w' base v' (l ++ ls) → w.grownBy w' v.ownBlock → K (a.put o.dst v') w') :
    if Region.wanted o (yielded ops a.tmps) = true then Oper.wp Tryz.prog o a w K Q else E := by
  have hw : Region.wanted o (yielded ops a.tmps) = true := by simp [Region.wanted, hgd]
  rw [if_pos hw]
  obtain ⟨v', w', hr, h2, h3⟩ := run_append_texts w o.type base v l hown y ls hr hlen hbase
  unfold Oper.wp execOp
  simp only [ho, resolve, invoke, builtin, Sem.run_bind, Sem.run_pure, Result.andThen_ok, List.map_toArray, List.map_cons, List.map_nil, hs, hx, hr]
  exact h v' w' h2 h3

theorem strs_cap {w : World} {base n c : Nat} {A : Option Addr} {ls : List (List UInt8)} (h : Strs w base (.slice A n c) ls) : ls.length ≤ c := by
  rcases h.2 with ⟨hv, h0⟩ | ⟨g, cap, cur, hv, _, _, hc, _⟩
  · omega
  · simp only [Value.slice.injEq] at hv; omega
theorem rd_one {w : World} {B c : Nat} {T : TypeId} {fr : Nat × Nat} {l : List UInt8} (h : w.heap[B]? = some (.cells #[.string ⟨l.toArray⟩] T fr)) : RdS w (.slice (some ⟨B, 0, none⟩) 1 c) [l] :=
  ⟨_, c, rfl, fun _ => ⟨B, 0, rfl, (Array.getElem?_eq_some_iff.1 h).1, fun k hk => by
    simp at hk
    subst hk
    simp [World.cell?, h, sv]⟩⟩
theorem rd_take {w : World} {g o n c m : Nat} {ls : List (List UInt8)} (h : RdS w (.slice (some ⟨g, o, none⟩) n c) ls) (hm : m ≤ ls.length) : RdS w (.slice (some ⟨g, o, none⟩) m c) (ls.take m) := by
  obtain ⟨A, cap, hv, hc⟩ := h
  simp only [Value.slice.injEq] at hv
  obtain ⟨rfl, rfl, rfl⟩ := hv
  have e : (ls.take m).length = m := by simp; omega
  refine ⟨_, _, by rw [e], fun h0 => ?_⟩
  obtain ⟨g2, o2, h2, hg, hk⟩ := hc (by omega)
  exact ⟨g2, o2, h2, hg, fun k hk2 => by rw [hk k (by omega), List.getElem_take]⟩
theorem rd_drop {w : World} {g o n c m : Nat} {ls : List (List UInt8)} (h : RdS w (.slice (some ⟨g, o, none⟩) n c) ls) (hm : m ≤ ls.length) (c2 : Nat) : RdS w (.slice (some ⟨g, o + m, none⟩) (ls.length - m) c2) (ls.drop m) := by
  obtain ⟨A, cap, hv, hc⟩ := h
  simp only [Value.slice.injEq] at hv
  obtain ⟨rfl, rfl, rfl⟩ := hv
  have e : (ls.drop m).length = ls.length - m := by simp
  refine ⟨_, _, by rw [e], fun h0 => ?_⟩
  obtain ⟨g2, o2, h2, hg, hk⟩ := hc (by omega)
  simp only [Option.some.injEq, Addr.mk.injEq, and_true] at h2
  obtain ⟨rfl, rfl⟩ := h2
  exact ⟨g, o + m, rfl, hg, fun k hk2 => by rw [Nat.add_assoc, hk (m + k) (by omega), List.getElem_drop]⟩
theorem rd_dropI {w : World} {g o n c m : Nat} {ls : List (List UInt8)} (h : RdS w (.slice (some ⟨g, o, none⟩) n c) ls) (hm : m ≤ ls.length) (hc : ls.length ≤ c) : RdS w (.slice (if c = m then some ⟨g, o, none⟩ else some ⟨g, o + m, none⟩) (ls.length - m) (c - m)) (ls.drop m) := by
  by_cases e : c = m
  · rw [if_pos e]
    have e2 : ls.drop m = [] := List.drop_of_length_le (by omega)
    have e3 : ls.length - m = 0 := by omega
    rw [e2, e3]
    exact ⟨_, _, rfl, fun h => absurd h (by simp)⟩
  · rw [if_neg e]
    exact rd_drop h hm _
theorem lo_next {out : List (List UInt8)} {v : List UInt8} {m : Nat} (h : ∀ j (h : j < out.length), j < m → cmpT out[j] v < 0) (hm : m < out.length) (hz : cmpT out[m] v < 0) : ∀ j (h : j < out.length), j < m + 1 → cmpT out[j] v < 0 := by
  intro j hj hlt
  rcases Nat.lt_or_eq_of_le (Nat.le_of_lt_succ hlt) with h' | h'
  · exact h j hj h'
  · subst h'; exact hz
theorem readP_SmS (l : List UInt8) : Sm (readP l) := by
  unfold readP
  split
  · rename_i h
    unfold readOk at h
    split at h
    · exact ⟨by have := (verOk_bd h).2.2.2; omega, fun x hx => by have := verOk_len h x hx; omega⟩
    · cases h
  · exact ⟨by simp, fun x hx => by cases hx⟩
/-- ReadVersion's answer by the text's own version. -/
theorem readIs_vt {w w' : World} {l : List UInt8} {e : Ending} (h : ReadIs w l e w') : ∃ u, e = .returned (.tuple #[.agg #[.int .i64 (vt l).1, .int .i64 (vt l).2.1, .int .i64 (vt l).2.2.1, u], .bool (readOk l)]) ∧ Strs w' w.heap.size u (vt l).2.2.2 ∧ Below w.heap.size w w' := h

set_option maxRecDepth 100000 in
set_option maxHeartbeats 8000000 in
theorem specSortVersions_any (v : Value) (ls : List (List UInt8)) (w : World) (hr : RdS w v ls) (hs : Sm ls) :
    Calls Tryz.prog 35 #[v] w fun e w' => ∃ u out, e = .returned u ∧ Strs w' w.heap.size u out ∧ SortOf ls out ∧ Below w.heap.size w w' := by
  have HR := Lib.hid (fun (W : World) (h : Below w.heap.size w W) => hr.below h)
  have hl := hs.1
  have HS := Lib.hid hs.2
  obtain ⟨A, ca, rfl, hr0⟩ := hr
  clear hs hr0
  go_enter Tryz.func35, Tryz.ntmps35
  go_wp2
  go_loopw [3, 4, 5, 6, 7, 8, 9] (fun o i _ _ _ _ _ wr => ∃ (k : Nat) (out : List (List UInt8)), k ≤ ls.length ∧ i = .int .i64 k ∧ Strs wr w.heap.size o out ∧ Hid (SortOf (ls.take k) out) ∧ Below w.heap.size w wr) (fun _ i _ _ _ _ _ _ => ls.length - (intOf i).toNat)
  case atStart => exact ⟨0, [], Nat.zero_le _, rfl, Strs.empty w _ (Nat.le_refl _), Lib.hid (by simpa using sortOf_nil), (Below.refl _ _).alloc (Nat.le_refl _) _⟩
  case round =>
    obtain ⟨k, out, hk, rfl, hO, HSO, hb⟩ := hrel
    by_cases hlt : k < ls.length
    · obtain ⟨A', ca', hv, hca⟩ := HR.out _ hb
      simp only [Value.slice.injEq, true_and] at hv
      obtain ⟨rfl, rfl⟩ := hv
      obtain ⟨g, off, rfl, hgl, hck⟩ := hca (by omega)
      have d1 : wr.cell? ⟨g, off + k, none⟩ = some (.string ⟨ls[k].toArray⟩) := hck k hlt
      have k0 : (0 : Int) ≤ (k : Int) := by omega
      have k1 : (k : Int) < (ls.length : Int) := by omega
      have HRV := Lib.hid (fun W => (specReadVersion_any ⟨ls[k].toArray⟩ W (by rw [size_of]; exact HS.out _ (List.getElem_mem hlt))).mono (fun e w' h => readIs_vt h))
      have HTK : Hid (ls.take (k + 1) = ls.take k ++ [ls[k]]) := Lib.hid (List.take_succ_eq_append_getElem hlt)
      clear hca hck
      obtain ⟨ok, HOK⟩ : ∃ x, Hid (readOk ls[k] = x) := ⟨_, Lib.hid rfl⟩
      cases ok
      · go_wp2_with fail
        refine (HRV.out _).mono ?_
        rw [show readOk (⟨ls[k].toArray⟩ : ByteArray).data.toList = false from HOK.out]
        rintro e w1 ⟨u, rfl, hSu, hb1⟩
        obtain ⟨Au, cu, rfl⟩ := hSu.slice
        have hO1 := hO.below hb1
        have B1 := hb.trans (hb1.mono hb.size)
        go_wp2_with fail
        go_roundw
        case rel => exact ⟨k + 1, out, by omega, by go_num, hO1.alloc _, Lib.hid (by rw [HTK.out]; exact sortOf_skip HSO.out HOK.out), B1.alloc B1.size _⟩
        case measure => simp [intOf]; omega
      · go_wp2_with fail
        refine (HRV.out _).mono ?_
        rw [show readOk (⟨ls[k].toArray⟩ : ByteArray).data.toList = true from HOK.out]
        rintro e w1 ⟨u, rfl, hSu, hb1⟩
        obtain ⟨⟨va, vb, vc, vp⟩, HVT⟩ : ∃ p, Hid (vt ls[k] = p) := ⟨_, Lib.hid rfl⟩
        have hvt : vt (⟨ls[k].toArray⟩ : ByteArray).data.toList = (va, vb, vc, vp) := HVT.out
        rw [hvt] at hSu ⊢
        have HSMv : Hid (Sm vp) := Lib.hid (by have := readP_SmS ls[k]; have e : readP ls[k] = vp := congrArg (fun p : VT => p.2.2.2) HVT.out; rw [e] at this; exact this)
        clear hvt
        obtain ⟨Au, cu, rfl⟩ := hSu.slice
        obtain ⟨Ao, co, rfl⟩ := hO.slice
        have hO1 := (hO.below hb1).alloc (.cells #[.int .i64 va, .int .i64 vb, .int .i64 vc, .slice Au vp.length cu] 74)
        have hV1 := heap_alloc_new w1 (.cells #[.int .i64 va, .int .i64 vb, .int .i64 vc, .slice Au vp.length cu] 74)
        have hU1 := hSu.alloc (.cells #[.int .i64 va, .int .i64 vb, .int .i64 vc, .slice Au vp.length cu] 74)
        have B1 := (hb.trans (hb1.mono hb.size)).alloc (Nat.le_trans hb.size hb1.size) (.cells #[.int .i64 va, .int .i64 vb, .int .i64 vc, .slice Au vp.length cu] 74)
        have d2 := keepC ((Below.refl w1.heap.size w1).alloc (Nat.le_refl _) (.cells #[.int .i64 va, .int .i64 vb, .int .i64 vc, .slice Au vp.length cu] 74)) (keepC hb1 d1)
        have hol : out.length ≤ 1048576 := by have := sortOf_len HSO.out; simp at this; omega
        clear hO hSu hb1 hb d1
        go_wp2_with fail
        generalize w1.alloc (.cells #[.int .i64 va, .int .i64 vb, .int .i64 vc, .slice Au vp.length cu] 74) = V1 at *
        obtain ⟨B, hB⟩ : ∃ B, B = w1.heap.size := ⟨_, rfl⟩
        rw [← hB] at hV1 ⊢
        clear hB
        obtain ⟨n0, hn0⟩ : ∃ n, n = wr.heap.size := ⟨_, rfl⟩
        rw [← hn0] at hU1
        clear hn0
        go_loopw [7, 8, 9] (fun a _ _ wr2 => ∃ m : Nat, m ≤ out.length ∧ a = .int .i64 m ∧ Strs wr2 w.heap.size (.slice Ao out.length co) out ∧ wr2.heap[B]? = some (.cells #[.int .i64 va, .int .i64 vb, .int .i64 vc, .slice Au vp.length cu] 74) ∧ Strs wr2 n0 (.slice Au vp.length cu) vp ∧ wr2.cell? ⟨g, off + k, none⟩ = some (.string ⟨ls[k].toArray⟩) ∧ Below w.heap.size w wr2 ∧ Hid (∀ j (h : j < out.length), j < m → cmpT out[j] ls[k] < 0)) (fun a _ _ _ => out.length - (intOf a).toNat)
        case atStart => exact ⟨0, Nat.zero_le _, rfl, hO1, hV1, hU1, d2, B1, Lib.hid (fun j _ h => absurd h (by omega))⟩
        case round =>
          obtain ⟨m, hm, rfl, hO2, hV2, hU2, d3, B2, HLO⟩ := hrel
          clear hO1 hV1 hU1 d2 B1
          by_cases hml : m < out.length
          · obtain ⟨Ao', co', hv, hca⟩ := RdS.of_strs hO2
            simp only [Value.slice.injEq, true_and] at hv
            obtain ⟨rfl, rfl⟩ := hv
            obtain ⟨go, oo, rfl, hgo, hco⟩ := hca (by omega)
            have x1 : wr.cell? ⟨go, oo + m, none⟩ = some (.string ⟨out[m].toArray⟩) := hco m hml
            have m0 : (0 : Int) ≤ (m : Int) := by omega
            have m1 : (m : Int) < (out.length : Int) := by omega
            have HOO : Hid (readOk out[m] = true) := Lib.hid ((HSO.out.2 _).1 (List.getElem_mem hml)).2
            have hos : out[m].length ≤ 1048576 := by have h1 := ((HSO.out.2 _).1 (List.getElem_mem hml)).1; exact HS.out _ (List.mem_of_mem_take h1)
            have HRO := Lib.hid (fun W => (specReadVersion_any ⟨out[m].toArray⟩ W (by rw [size_of]; exact hos)).mono (fun e w' h => readIs_vt h))
            obtain ⟨⟨oa, ob, oc, op⟩, HOT⟩ : ∃ p, Hid (vt out[m] = p) := ⟨_, Lib.hid rfl⟩
            have HSMo : Hid (Sm op) := Lib.hid (by have := readP_SmS out[m]; have e : readP out[m] = op := congrArg (fun p : VT => p.2.2.2) HOT.out; rw [e] at this; exact this)
            obtain ⟨z, HZ⟩ : ∃ z, Hid (cmpT out[m] ls[k] = z) := ⟨_, Lib.hid rfl⟩
            have HZV : Hid (cmpVer oa ob oc op va vb vc vp = z) := Lib.hid (by rw [← HZ.out]; unfold cmpT; rw [HOT.out, HVT.out]; rfl)
            clear hca hco
            go_wp2_with fail
            refine (HRO.out _).mono ?_
            rw [show readOk (⟨out[m].toArray⟩ : ByteArray).data.toList = true from HOO.out, show vt (⟨out[m].toArray⟩ : ByteArray).data.toList = (oa, ob, oc, op) from HOT.out]
            rintro e w3 ⟨uo, rfl, hSo, hb3⟩
            obtain ⟨Aq, cq, rfl⟩ := hSo.slice
            have B3 := (B2.trans (hb3.mono B2.size)).alloc (Nat.le_trans B2.size hb3.size) (.cells #[.int .i64 oa, .int .i64 ob, .int .i64 oc, .slice Aq op.length cq] 74)
            have hO3 := (hO2.below hb3).alloc (.cells #[.int .i64 oa, .int .i64 ob, .int .i64 oc, .slice Aq op.length cq] 74)
            have hV3 := keepA (keepB hV2 hb3) (.cells #[.int .i64 oa, .int .i64 ob, .int .i64 oc, .slice Aq op.length cq] 74)
            have hU3 := (hU2.below hb3).alloc (.cells #[.int .i64 oa, .int .i64 ob, .int .i64 oc, .slice Aq op.length cq] 74)
            have hW3 := heap_alloc_new w3 (.cells #[.int .i64 oa, .int .i64 ob, .int .i64 oc, .slice Aq op.length cq] 74)
            have hQ3 := hSo.alloc (.cells #[.int .i64 oa, .int .i64 ob, .int .i64 oc, .slice Aq op.length cq] 74)
            have d4 := keepC ((Below.refl w3.heap.size w3).alloc (Nat.le_refl _) (.cells #[.int .i64 oa, .int .i64 ob, .int .i64 oc, .slice Aq op.length cq] 74)) (keepC hb3 d3)
            have lBw : B < w3.heap.size := Nat.lt_of_lt_of_le (lt_of_heap hV2) hb3.size
            clear hO2 hV2 hU2 hSo hb3 B2 d3 x1
            obtain ⟨p0, p1, p2, p3⟩ := cells4 hW3
            obtain ⟨q0, q1, q2, q3⟩ := cells4 hV3
            go_wp2_with fail
            refine (specCompareVersion_any oa ob oc va vb vc _ _ op vp _ (RdS.of_strs hQ3) (RdS.of_strs hU3) HSMo.out HSMv.out).mono ?_
            rw [HZV.out]
            rintro e w4 ⟨rfl, hb4⟩
            have B4 := B3.trans (hb4.mono B3.size)
            have hO4 := hO3.below hb4
            have hV4 := keepB hV3 hb4
            have hU4 := hU3.below hb4
            have d5 := keepC hb4 d4
            clear hO3 hV3 hU3 hW3 hQ3 d4 B3 hb4 p0 p1 p2 p3 q0 q1 q2 q3 lBw
            by_cases hz : 0 ≤ z
            · have hx : ∃ A0 c0, Value.slice (some ⟨go, oo, none⟩) out.length co = .slice A0 out.length c0 ∧ (0 < out.length → ∃ g off, A0 = some ⟨g, off, none⟩ ∧ g < w4.heap.size ∧ ∀ k (h : k < out.length), w4.cell? ⟨g, off + k, none⟩ = some (sv out[k])) := RdS.of_strs hO4
              obtain ⟨A0, c0, hv, hcx⟩ := hx
              simp only [Value.slice.injEq, true_and] at hv
              obtain ⟨rfl, rfl⟩ := hv
              obtain ⟨g9, o9, h9, _, hcx⟩ := hcx (by omega)
              simp only [Option.some.injEq, Addr.mk.injEq, and_true] at h9
              obtain ⟨rfl, rfl⟩ := h9
              have x4 : w4.cell? ⟨go, oo + m, none⟩ = some (.string ⟨out[m].toArray⟩) := hcx m hml
              clear hcx
              by_cases he : out[m] = ls[k]
              · have e9 : (out[m] == ls[k]) = true := by simp [he]
                have HNX : Hid (SortOf (ls.take (k + 1)) out) := Lib.hid (by rw [HTK.out]; exact sortOf_there HSO.out (by rw [← he]; exact List.getElem_mem hml))
                clear he
                go_wp2_with fail
                go_quiet (fail)
                go_wp2_with fail
                go_roundw
                case rel => exact ⟨k + 1, out, by omega, by go_num, hO4.below (below_drewN _ _ _), HNX, B4.trans (below_drewN _ _ _)⟩
                case measure => simp [intOf]; omega
              · have e9 : (out[m] == ls[k]) = false := by simpa using he
                have HPUT : Hid (SortOf (ls.take (k + 1)) (out.take m ++ [ls[k]] ++ out.drop m)) := Lib.hid (by rw [HTK.out]; exact sortOf_put HSO.out HOK.out hm HLO.out (fun _ => by rw [HZ.out]; exact hz) (fun _ => he))
                clear he
                go_wp2_with fail
                go_quiet (fail)
                go_wp2_with fail
                have hOV := hO4.below (below_drewN w4.heap.size w4 nq)
                have dV : (w4.drewN nq).cell? ⟨g, off + k, none⟩ = some (.string ⟨ls[k].toArray⟩) := d5
                have BV := B4.trans (below_drewN w.heap.size w4 nq)
                clear hO4 hV4 hU4 d5 B4 x4 e9
                generalize w4.drewN nq = V at *
                have HRT := Lib.hid (fun (W : World) (h : Below V.heap.size V W) => rd_take ((RdS.of_strs hOV).below h) (m := m) (by omega))
                have HRD := Lib.hid (fun (W : World) (h : Below V.heap.size V W) => rd_dropI ((RdS.of_strs hOV).below h) (m := m) (by omega) (strs_cap hOV))
                have ba : Below V.heap.size V (V.alloc (.cells #[] 9)).drew := ((Below.refl _ _).alloc (Nat.le_refl _) _).trans (below_drew _ _)
                have bb : Below V.heap.size V ((V.alloc (.cells #[] 9)).alloc (.cells #[.string ⟨ls[k].toArray⟩] 9)).drew := (((Below.refl _ _).alloc (Nat.le_refl _) _).alloc (by simp) _).trans (below_drew _ _)
                have bc : Below V.heap.size V ((V.alloc (.cells #[.string ⟨ls[k].toArray⟩] 9)).alloc (.cells #[] 9)).drew := (((Below.refl _ _).alloc (Nat.le_refl _) _).alloc (by simp) _).trans (below_drew _ _)
                have sa : Strs (V.alloc (.cells #[] 9)).drew V.heap.size (.slice (some ⟨V.heap.size, 0, none⟩) 0 0) [] := (Strs.empty V _ (Nat.le_refl _)).drew
                have sb : Strs ((V.alloc (.cells #[] 9)).alloc (.cells #[.string ⟨ls[k].toArray⟩] 9)).drew V.heap.size (.slice (some ⟨V.heap.size, 0, none⟩) 0 0) [] := ((Strs.empty V _ (Nat.le_refl _)).alloc _).drew
                have sc : Strs ((V.alloc (.cells #[.string ⟨ls[k].toArray⟩] 9)).alloc (.cells #[] 9)).drew V.heap.size (.slice (some ⟨V.heap.size + 1, 0, none⟩) 0 0) [] := (Strs.emptyAt (V.alloc (.cells #[.string ⟨ls[k].toArray⟩] 9)) V.heap.size (V.heap.size + 1) (by simp) (by omega)).drew
                have lgV := cell_in dV
                have dVa := keepC ((Below.refl V.heap.size V).alloc (Nat.le_refl _) (.cells #[] 9)) dV
                have HL1 : Hid (([] : List (List UInt8)).length + (out.take m).length ≤ 16777216) := Lib.hid (by simp; omega)
                have mle : (m : Int) ≤ (out.length : Int) := by omega
                have hnc : out.length ≤ co := by exact strs_cap hOV
                have mlc : (m : Int) ≤ (co : Int) := by omega
                have hXb : ((V.alloc (.cells #[] 9)).alloc (.cells #[.string ⟨ls[k].toArray⟩] 9)).drew.heap[V.heap.size + 1]? = some (.cells #[.string ⟨ls[k].toArray⟩] 9) := heap_new (by simp) _
                have hXc : ((V.alloc (.cells #[.string ⟨ls[k].toArray⟩] 9)).alloc (.cells #[] 9)).drew.heap[V.heap.size]? = some (.cells #[.string ⟨ls[k].toArray⟩] 9) := keepA (heap_alloc_new _ _) _
                have HL2 : Hid ((out.take m).length + [ls[k]].length ≤ 16777216) := Lib.hid (by simp; omega)
                have HL3 : Hid ((out.take m ++ [ls[k]]).length + (out.drop m).length ≤ 16777216) := Lib.hid (by simp; omega)
                go_region_law ((first | (refine step_append_texts (by rfl) _ _ (by rfl) V.heap.size _ [] (by rfl) (by first | exact sa | exact sb | exact sc) _ (out.take m) (by rfl) (HRT.out _ (by first | exact ba | exact bb | exact bc)) HL1.out (by simp <;> omega) ?_; intro u1 x1 hS1 hg1; simp only [List.nil_append] at hS1; have b1 : Below V.heap.size V x1 := (show Below V.heap.size V _ from (by first | exact ba | exact bb | exact bc)).grown hg1 (by simp <;> omega) (fun g h => by cases h; simp); have dx1 := keepC b1 dV) | (refine step_append_texts (by rfl) _ _ (by rfl) V.heap.size _ (out.take m) (by rfl) (by first | exact hS1 | exact hS1.alloc _) _ [ls[k]] (by rfl) (by first | exact rd_one (heap_alloc_new _ _) | exact rd_one (grown_heap (row := V.heap.size) hg1 hXb (by omega)) | exact rd_one (grown_heap (row := V.heap.size + 1) hg1 hXc (by omega))) HL2.out (by first | exact b1.size | exact Nat.le_trans b1.size (by simp)) ?_; intro u2 x2 hS2 hg2; have b2 : Below V.heap.size V x2 := (by first | exact b1.grown hg2 b1.size hS1.owned | exact (b1.alloc b1.size _).grown hg2 (Nat.le_trans b1.size (by simp)) hS1.owned)) | (refine step_append_texts (by rfl) _ _ (by rfl) V.heap.size _ (out.take m ++ [ls[k]]) (by rfl) hS2 _ (out.drop m) (by rfl) (HRD.out _ b2) HL3.out b2.size ?_; intro u3 x3 hS3 hg3; have b3 : Below V.heap.size V x3 := b2.grown hg3 b2.size hS2.owned)))
                all_goals
                  go_wp2_with fail
                  go_roundw
                  case rel => exact ⟨k + 1, _, by omega, by go_num, hS3.weaken BV.size, HPUT, BV.trans (b3.mono BV.size)⟩
                  case measure => simp [intOf]; omega
            · have dz : decide (0 ≤ z) = false := decide_eq_false hz
              go_wp2_with fail
              go_roundw
              case rel => exact ⟨m + 1, by omega, by go_num, hO4, hV4, hU4, d5, B4, Lib.hid (lo_next HLO.out hml (by rw [HZ.out]; omega))⟩
              case measure => simp [intOf]; omega
          · have m1 : ¬ (m : Int) < (out.length : Int) := by omega
            have dm : decide ((m : Int) < (out.length : Int)) = false := decide_eq_false m1
            have HPUT : Hid (SortOf (ls.take (k + 1)) (out.take m ++ [ls[k]] ++ out.drop m)) := Lib.hid (by rw [HTK.out]; exact sortOf_put HSO.out HOK.out hm HLO.out (fun h => absurd h hml) (fun h => absurd h hml))
            have hOV := hO2
            have dV := d3
            have BV := B2
            clear hO2 hV2 hU2 d3 B2
            go_wp2_with fail
            go_quiet (fail)
            go_wp2_with fail
            have hO9 := hOV.below (below_drewN wr.heap.size wr nq)
            have d9 : (wr.drewN nq).cell? ⟨g, off + k, none⟩ = some (.string ⟨ls[k].toArray⟩) := dV
            have B9 := BV.trans (below_drewN w.heap.size wr nq)
            clear hOV dV BV
            generalize wr.drewN nq = V at *
            have hOV := hO9
            have dV := d9
            have BV := B9
            clear hO9 d9 B9
            have hcap : out.length ≤ co := strs_cap hOV
            rcases hOV.form with ⟨hv, ho⟩ | ⟨g8, c8, hv8, _, _⟩
            · simp only [Value.slice.injEq] at hv
              obtain ⟨rfl, h0, rfl⟩ := hv
              have HRT := Lib.hid (fun (W : World) (_ : Below V.heap.size V W) (n c : Nat) (hn : n = m) => show RdS W (.slice none n c) (out.take m) from ⟨none, c, by rw [show (out.take m).length = n by simp; omega], fun h => absurd h (by simp; omega)⟩)
              have HRD := Lib.hid (fun (W : World) (_ : Below V.heap.size V W) (n c : Nat) (hn : n = m) => show RdS W (.slice none n c) (out.drop m) from ⟨none, c, by rw [show (out.drop m).length = n by simp; omega], fun h => absurd h (by simp; omega)⟩)
              have hm0 : m = 0 := by omega
              have ba : Below V.heap.size V (V.alloc (.cells #[] 9)).drew := ((Below.refl _ _).alloc (Nat.le_refl _) _).trans (below_drew _ _)
              have bb : Below V.heap.size V ((V.alloc (.cells #[] 9)).alloc (.cells #[.string ⟨ls[k].toArray⟩] 9)).drew := (((Below.refl _ _).alloc (Nat.le_refl _) _).alloc (by simp) _).trans (below_drew _ _)
              have bc : Below V.heap.size V ((V.alloc (.cells #[.string ⟨ls[k].toArray⟩] 9)).alloc (.cells #[] 9)).drew := (((Below.refl _ _).alloc (Nat.le_refl _) _).alloc (by simp) _).trans (below_drew _ _)
              have sa : Strs (V.alloc (.cells #[] 9)).drew V.heap.size (.slice (some ⟨V.heap.size, 0, none⟩) 0 0) [] := (Strs.empty V _ (Nat.le_refl _)).drew
              have sb : Strs ((V.alloc (.cells #[] 9)).alloc (.cells #[.string ⟨ls[k].toArray⟩] 9)).drew V.heap.size (.slice (some ⟨V.heap.size, 0, none⟩) 0 0) [] := ((Strs.empty V _ (Nat.le_refl _)).alloc _).drew
              have sc : Strs ((V.alloc (.cells #[.string ⟨ls[k].toArray⟩] 9)).alloc (.cells #[] 9)).drew V.heap.size (.slice (some ⟨V.heap.size + 1, 0, none⟩) 0 0) [] := (Strs.emptyAt (V.alloc (.cells #[.string ⟨ls[k].toArray⟩] 9)) V.heap.size (V.heap.size + 1) (by simp) (by omega)).drew
              have lgV := cell_in dV
              have dVa := keepC ((Below.refl V.heap.size V).alloc (Nat.le_refl _) (.cells #[] 9)) dV
              have HL1 : Hid (([] : List (List UInt8)).length + (out.take m).length ≤ 16777216) := Lib.hid (by simp; omega)
              have mle : (m : Int) ≤ (out.length : Int) := by omega
              have mlc : (m : Int) ≤ 0 := by omega
              have hXb : ((V.alloc (.cells #[] 9)).alloc (.cells #[.string ⟨ls[k].toArray⟩] 9)).drew.heap[V.heap.size + 1]? = some (.cells #[.string ⟨ls[k].toArray⟩] 9) := heap_new (by simp) _
              have hXc : ((V.alloc (.cells #[.string ⟨ls[k].toArray⟩] 9)).alloc (.cells #[] 9)).drew.heap[V.heap.size]? = some (.cells #[.string ⟨ls[k].toArray⟩] 9) := keepA (heap_alloc_new _ _) _
              have HL2 : Hid ((out.take m).length + [ls[k]].length ≤ 16777216) := Lib.hid (by simp; omega)
              have HL3 : Hid ((out.take m ++ [ls[k]]).length + (out.drop m).length ≤ 16777216) := Lib.hid (by simp; omega)
              go_region_law ((first | (refine step_append_texts (by rfl) _ _ (by rfl) V.heap.size _ [] (by rfl) (by first | exact sa | exact sb | exact sc) _ (out.take m) (by rfl) (HRT.out _ (by first | exact ba | exact bb | exact bc) _ _ (by omega)) HL1.out (by simp <;> omega) ?_; intro u1 x1 hS1 hg1; simp only [List.nil_append] at hS1; have b1 : Below V.heap.size V x1 := (show Below V.heap.size V _ from (by first | exact ba | exact bb | exact bc)).grown hg1 (by simp <;> omega) (fun g h => by cases h; simp); have dx1 := keepC b1 dV) | (refine step_append_texts (by rfl) _ _ (by rfl) V.heap.size _ (out.take m) (by rfl) (by first | exact hS1 | exact hS1.alloc _) _ [ls[k]] (by rfl) (by first | exact rd_one (heap_alloc_new _ _) | exact rd_one (grown_heap (row := V.heap.size) hg1 hXb (by omega)) | exact rd_one (grown_heap (row := V.heap.size + 1) hg1 hXc (by omega))) HL2.out (by first | exact b1.size | exact Nat.le_trans b1.size (by simp)) ?_; intro u2 x2 hS2 hg2; have b2 : Below V.heap.size V x2 := (by first | exact b1.grown hg2 b1.size hS1.owned | exact (b1.alloc b1.size _).grown hg2 (Nat.le_trans b1.size (by simp)) hS1.owned)) | (refine step_append_texts (by rfl) _ _ (by rfl) V.heap.size _ (out.take m ++ [ls[k]]) (by rfl) hS2 _ (out.drop m) (by rfl) (HRD.out _ b2 _ _ (by omega)) HL3.out b2.size ?_; intro u3 x3 hS3 hg3; have b3 : Below V.heap.size V x3 := b2.grown hg3 b2.size hS2.owned)))
              all_goals
                go_wp2_with fail
                go_roundw
                case rel => exact ⟨k + 1, _, by omega, by go_num, hS3.weaken BV.size, HPUT, BV.trans (b3.mono BV.size)⟩
                case measure => simp [intOf]; omega
            · obtain ⟨go, oo, cp, hv⟩ : ∃ go oo cp, Value.slice Ao out.length co = .slice (some ⟨go, oo, none⟩) out.length cp := ⟨g8, 0, c8, hv8⟩
              clear hv8
              simp only [Value.slice.injEq, true_and] at hv
              obtain ⟨rfl, rfl⟩ := hv
              have HRT := Lib.hid (fun (W : World) (h : Below V.heap.size V W) => rd_take ((RdS.of_strs hOV).below h) (m := m) (by omega))
              have HRD := Lib.hid (fun (W : World) (h : Below V.heap.size V W) => rd_dropI ((RdS.of_strs hOV).below h) (m := m) (by omega) (strs_cap hOV))
              have ba : Below V.heap.size V (V.alloc (.cells #[] 9)).drew := ((Below.refl _ _).alloc (Nat.le_refl _) _).trans (below_drew _ _)
              have bb : Below V.heap.size V ((V.alloc (.cells #[] 9)).alloc (.cells #[.string ⟨ls[k].toArray⟩] 9)).drew := (((Below.refl _ _).alloc (Nat.le_refl _) _).alloc (by simp) _).trans (below_drew _ _)
              have bc : Below V.heap.size V ((V.alloc (.cells #[.string ⟨ls[k].toArray⟩] 9)).alloc (.cells #[] 9)).drew := (((Below.refl _ _).alloc (Nat.le_refl _) _).alloc (by simp) _).trans (below_drew _ _)
              have sa : Strs (V.alloc (.cells #[] 9)).drew V.heap.size (.slice (some ⟨V.heap.size, 0, none⟩) 0 0) [] := (Strs.empty V _ (Nat.le_refl _)).drew
              have sb : Strs ((V.alloc (.cells #[] 9)).alloc (.cells #[.string ⟨ls[k].toArray⟩] 9)).drew V.heap.size (.slice (some ⟨V.heap.size, 0, none⟩) 0 0) [] := ((Strs.empty V _ (Nat.le_refl _)).alloc _).drew
              have sc : Strs ((V.alloc (.cells #[.string ⟨ls[k].toArray⟩] 9)).alloc (.cells #[] 9)).drew V.heap.size (.slice (some ⟨V.heap.size + 1, 0, none⟩) 0 0) [] := (Strs.emptyAt (V.alloc (.cells #[.string ⟨ls[k].toArray⟩] 9)) V.heap.size (V.heap.size + 1) (by simp) (by omega)).drew
              have lgV := cell_in dV
              have dVa := keepC ((Below.refl V.heap.size V).alloc (Nat.le_refl _) (.cells #[] 9)) dV
              have HL1 : Hid (([] : List (List UInt8)).length + (out.take m).length ≤ 16777216) := Lib.hid (by simp; omega)
              have mle : (m : Int) ≤ (out.length : Int) := by omega
              have hnc : out.length ≤ co := by exact strs_cap hOV
              have mlc : (m : Int) ≤ (co : Int) := by omega
              have hXb : ((V.alloc (.cells #[] 9)).alloc (.cells #[.string ⟨ls[k].toArray⟩] 9)).drew.heap[V.heap.size + 1]? = some (.cells #[.string ⟨ls[k].toArray⟩] 9) := heap_new (by simp) _
              have hXc : ((V.alloc (.cells #[.string ⟨ls[k].toArray⟩] 9)).alloc (.cells #[] 9)).drew.heap[V.heap.size]? = some (.cells #[.string ⟨ls[k].toArray⟩] 9) := keepA (heap_alloc_new _ _) _
              have HL2 : Hid ((out.take m).length + [ls[k]].length ≤ 16777216) := Lib.hid (by simp; omega)
              have HL3 : Hid ((out.take m ++ [ls[k]]).length + (out.drop m).length ≤ 16777216) := Lib.hid (by simp; omega)
              go_region_law ((first | (refine step_append_texts (by rfl) _ _ (by rfl) V.heap.size _ [] (by rfl) (by first | exact sa | exact sb | exact sc) _ (out.take m) (by rfl) (HRT.out _ (by first | exact ba | exact bb | exact bc)) HL1.out (by simp <;> omega) ?_; intro u1 x1 hS1 hg1; simp only [List.nil_append] at hS1; have b1 : Below V.heap.size V x1 := (show Below V.heap.size V _ from (by first | exact ba | exact bb | exact bc)).grown hg1 (by simp <;> omega) (fun g h => by cases h; simp); have dx1 := keepC b1 dV) | (refine step_append_texts (by rfl) _ _ (by rfl) V.heap.size _ (out.take m) (by rfl) (by first | exact hS1 | exact hS1.alloc _) _ [ls[k]] (by rfl) (by first | exact rd_one (heap_alloc_new _ _) | exact rd_one (grown_heap (row := V.heap.size) hg1 hXb (by omega)) | exact rd_one (grown_heap (row := V.heap.size + 1) hg1 hXc (by omega))) HL2.out (by first | exact b1.size | exact Nat.le_trans b1.size (by simp)) ?_; intro u2 x2 hS2 hg2; have b2 : Below V.heap.size V x2 := (by first | exact b1.grown hg2 b1.size hS1.owned | exact (b1.alloc b1.size _).grown hg2 (Nat.le_trans b1.size (by simp)) hS1.owned)) | (refine step_append_texts (by rfl) _ _ (by rfl) V.heap.size _ (out.take m ++ [ls[k]]) (by rfl) hS2 _ (out.drop m) (by rfl) (HRD.out _ b2) HL3.out b2.size ?_; intro u3 x3 hS3 hg3; have b3 : Below V.heap.size V x3 := b2.grown hg3 b2.size hS2.owned)))
              all_goals
                go_wp2_with fail
                go_roundw
                case rel => exact ⟨k + 1, _, by omega, by go_num, hS3.weaken BV.size, HPUT, BV.trans (b3.mono BV.size)⟩
                case measure => simp [intOf]; omega
    · have HF : Hid (SortOf ls out) := Lib.hid (by have := HSO.out; rw [List.take_of_length_le (by omega)] at this; exact this)
      go_wp2_with fail
      go_ret
      exact ⟨_, out, rfl, hO, HF.out, hb⟩
end Go.Proofs.YtcfkhfbhmjfhdaaGreatDoor
