/-
  impl.Newest: the last of the sorted versions without a dash, else the last.
-/
import Derived.Test.YtjpclglklmlhlaaGreatDoorNewI
import Derived.Test.YtjpclglklmlhlaaGreatDoorNewB
import Derived.Test.YtjpclglklmlhlaaGreatDoorSrtI
import Derived.Outline
import Derived.RangeFuncFrom
import Derived.RangeFuncBox
import Derived.Stop.RegionWithIn
namespace Go.Proofs.YtjpclglklmlhlaaGreatDoor
open Go.RowKit Go.Shelf
attribute [local go_sem] Oper.semAt_some

def lastP (pre : List BE) : List UInt8 := (pre.getLast?.map (fun x => x.2.1)).getD []
def stops (pre : List BE) : Prop := ∃ p x, pre = p ++ [x] ∧ (∀ y ∈ p, stb y.2.1 = false) ∧ stb x.2.1 = true
theorem lastSt_stop {T : List Part} {pre : List BE} (h : pre <+: bk T) (hs : stops pre) : lastSt (T.map Subtype.val) = lastP pre := by
  obtain ⟨p, x, rfl, hp, hx⟩ := hs
  obtain ⟨t, ht⟩ := h
  have e := bk_snd T
  rw [← ht] at e
  refine (lastSt_at (p := p.map (fun y => y.2.1)) (x := x.2.1) (t := t.map (fun y => y.2.1)) ?_ ?_ hx).trans (by simp [lastP])
  · rw [← List.map_reverse, ← e]
    simp
    rfl
  · intro y hy
    obtain ⟨z, hz, rfl⟩ := List.mem_map.1 hy
    exact hp z hz
theorem lastSt_all {T : List Part} (h : ∀ y ∈ bk T, stb y.2.1 = false) : lastSt (T.map Subtype.val) = [] := by
  refine lastSt_none (fun x hx => ?_)
  obtain ⟨z, hz, rfl⟩ := List.mem_map.1 hx
  have : z ∈ (bk T).map (fun y => y.2) := by rw [bk_snd]; simpa using hz
  obtain ⟨y, hy, rfl⟩ := List.mem_map.1 this
  exact h y hy

set_option maxRecDepth 100000 in
set_option maxHeartbeats 4000000 in
theorem implNewest_in (n : Nat) (hn : 4 ≤ n) (v : Value) (ls : List (List UInt8)) (w : World) (hr : RdS w v ls) (hs : Sm ls) (ht : Tab w) :
    CallsIn Fence.wide n Tryz.prog 19 #[v] w fun e W' => ∃ out, e = .returned (.string ⟨(newestL out).toArray⟩) ∧ SortOf ls out ∧ Below w.heap.size w W' := by
  have h1 : 1 ≤ n := by omega
  have hn2 : 1 ≤ n - 1 - 1 := by omega
  have B0 : Below w.heap.size w (w.alloc (.cells #[.string ⟨#[]⟩] 9)) := (Below.refl _ _).alloc (Nat.le_refl _) _
  have HIM := Lib.hid (implSortVersions_any v ls (w.alloc (.cells #[.string ⟨#[]⟩] 9)) (hr.below ((Below.refl _ _).alloc (Nat.le_refl _) _)) hs (tab_below ht B0))
  have HS := Lib.hid hs
  have b1 := Boxed.new w 9 (.string ⟨#[]⟩)
  clear hr hs ht
  refine callsIn_of_wp_marks Tryz.func19 rfl trivial ?_ rfl
  simp only [Tryz.ntmps19, List.size_toArray, List.length_cons, List.length_nil, Nat.reduceAdd, Nat.reduceSub, Array.replicate_succ, Array.replicate_zero, List.push_toArray, List.append_toArray, List.nil_append, List.cons_append]
  gi_wp2_with (refine ⟨trivial, ?_⟩; gi_at_call 14; refine (callsIn_wide.2 HIM.out).mono ?_; rintro e w1 ⟨g, c, out, rfl, S0, hSO, hb1⟩)
  have lo := sortOf_len hSO
  obtain ⟨T, HT⟩ : ∃ T : List Part, Hid (T.map Subtype.val = out) := by
    obtain ⟨T, hT⟩ := parts_of out (fun l hl => HS.out.2 l ((hSO.2 l).1 hl).1)
    exact ⟨T, Lib.hid hT⟩
  have hlT : T.length = out.length := by rw [← HT.out]; simp
  have hn3 := HS.out.1
  obtain ⟨cur, hh, hcur⟩ : ∃ cur, w1.heap[g]? = some (.cells cur 9 (0, 0)) ∧ ∀ k (h : k < T.length), cur[k]? = some (sv T[k].1) := by
    rcases id S0.2 with ⟨hv, _⟩ | ⟨g', cap', cur, hv, _, hh, _⟩
    · cases hv
    · simp only [Value.slice.injEq, Option.some.injEq, Addr.mk.injEq, and_true] at hv
      obtain ⟨rfl, _⟩ := hv
      refine ⟨cur, hh, fun k hk => ?_⟩
      have := S0.cell k (by omega)
      simp only [World.cell?, hh] at this
      have e : out[k]'(by omega) = T[k].1 := by simp [← HT.out]
      rw [e] at this
      exact this
  have B1 := B0.trans (hb1.mono (by simp))
  have b2 := (show w1.heap[w.heap.size]? = _ from keepB b1 hb1)
  have glt := lt_of_heap hh
  have HSO := Lib.hid hSO
  have hc0 := S0.cell
  clear hb1 hSO S0 B0
  rw [← hlT]
  have HLT := Lib.hid hlT
  have hT20 : T.length ≤ 1048576 := by omega
  clear hlT
  gi_wp2_with (refine ⟨trivial, ?_⟩; gi_at_call 34; refine (backward_in _ _ _ _ _).mono ?_; rintro e w2 ⟨rfl, rfl⟩)
  have b3 := Boxed.new w1 28 (.slice (some ⟨g, 0, none⟩) T.length c)
  have b2' := (show Boxed _ w.heap.size 9 (.string ⟨#[]⟩) from keepA b2 (.cells #[.slice (some ⟨g, 0, none⟩) T.length c] 28))
  have hh' := keepA hh (.cells #[.slice (some ⟨g, 0, none⟩) T.length c] 28)
  have B2 := B1.alloc B1.size (.cells #[.slice (some ⟨g, 0, none⟩) T.length c] 28)
  have hsz : (w1.alloc (.cells #[.slice (some ⟨g, 0, none⟩) T.length c] 28)).heap.size = w1.heap.size + 1 := by simp
  have wlt : w.heap.size < w1.heap.size := lt_of_heap b2
  clear b2 hh B1
  obtain ⟨W0, hW0⟩ : ∃ W0, (w1.alloc (.cells #[.slice (some ⟨g, 0, none⟩) T.length c] 28)) = W0 := ⟨_, rfl⟩
  rw [hW0] at b3 b2' hh' B2 hsz ⊢
  have HSZ := Lib.hid hsz
  have HBW := Lib.hid B2
  have HHG := Lib.hid hh'
  have HB2 := Lib.hid b2'
  clear hW0 hsz
  refine wpIn_rangeFunc_ownF rfl h1 (gf := 68) (lb := #[.pointer (some ⟨w1.heap.size, 0, none⟩)]) rfl trivial (enters_of Tryz.func68 (by kernel_rfl) rfl)
    (back_stops (n - 1) (by omega) w1.heap.size g c T cur hT20 hcur W0 (by rw [HSZ.out]; omega) (by rw [HSZ.out]; omega) b3 hh') kpB_t (kpB_b (by rw [HSZ.out]; omega) (by rw [HSZ.out]; omega)) (Below.refl _ _) (fun _ => rfl)
    (fun pre W => (∀ y ∈ pre, stb y.2.1 = false) ∧ Below W0.heap.size W0 W)
    (fun c pre W => ((c = .ret ∧ stops pre) ∧ Boxed W w.heap.size 9 (.string ⟨(lastP pre).toArray⟩)) ∧ Below w.heap.size w W)
    (OwnFrom.and (ownFrom_pure _ _) (ownFrom_below (Nat.le_refl _) (Nat.le_refl _)))
    (fun c => OwnFrom.and (OwnFrom.and (ownFrom_pure _ _) (Own.from (boxed_own _ _ _) _)) (ownFrom_below (Nat.le_refl _) (by rw [HSZ.out]; omega)))
    ⟨fun y hy => absurd hy (by simp), Below.refl _ _⟩
    (fun x => { tmps := #[v, undef, .pointer (some ⟨w.heap.size, 0, none⟩), .slice (some ⟨g, 0, none⟩) T.length c, undef, .string ⟨x.2.1.toArray⟩, v, .slice (some ⟨g, 0, none⟩) T.length c, .slice (some ⟨g, 0, none⟩) T.length c, .func (.func 68) #[] #[.pointer (some ⟨w1.heap.size, 0, none⟩)], .int .i64 (x.1 : Int), .string ⟨x.2.1.toArray⟩, undef, undef, undef, undef, undef, undef, undef, undef, undef, undef, undef, undef, undef], defers := [] }) ?assign ?body ?done ?stop
  case assign =>
    intro l x W K hK
    unfold bkV
    gi_wp2
    exact hK
  case body =>
    rintro l pre x W ⟨hp, hB⟩ _
    have HP := Lib.hid hp
    have hR := (show Boxed W w.heap.size 9 (.string ⟨#[]⟩) from keepB HB2.out hB)
    have cR := hR.cell
    have fR := hR.frozen
    obtain ⟨b, hbE⟩ : ∃ b : ByteArray, b = ⟨x.2.1.toArray⟩ := ⟨_, rfl⟩
    have HBL : Hid (b.data.toList = x.2.1) := Lib.hid (by rw [hbE])
    have hbs : b.size ≤ 1048576 := by rw [hbE]; show x.2.1.toArray.size ≤ _; simpa using x.2.2
    rw [← hbE]
    have HBE : Hid (b = ⟨x.2.1.toArray⟩) := Lib.hid hbE
    clear hbE hp
    obtain ⟨s, HSB⟩ : ∃ s, Hid (stb b.data.toList = s) := ⟨_, Lib.hid rfl⟩
    cases s
    · have HPN : Hid (∀ y ∈ pre ++ [x], stb y.2.1 = false) := Lib.hid (fun y hy => by
        rcases List.mem_append.1 hy with h | h
        · exact HP.out y h
        · simp at h; subst h; rw [← HBL.out]; exact HSB.out)
      gi_wp2_with (refine ⟨trivial, ?_⟩; gi_at_call 35; refine (CallsIn.inRound l (callsIn_wide.2 (contains_dash b _ hbs))).mono ?_; rw [HSB.out]; rintro e w' ⟨rfl, rfl⟩)
      exact ⟨KeepsOthers.refl _, KpB.refl _ _ _, HPN.out, hB⟩
    · have HST : Hid (stops (pre ++ [x])) := Lib.hid ⟨pre, x, rfl, HP.out, by rw [← HBL.out]; exact HSB.out⟩
      have HLP : Hid (lastP (pre ++ [x]) = x.2.1) := Lib.hid (by simp [lastP])
      gi_wp2_with (refine ⟨trivial, ?_⟩; gi_at_call 35; refine (CallsIn.inRound l (callsIn_wide.2 (contains_dash b _ hbs))).mono ?_; rw [HSB.out]; rintro e w' ⟨rfl, rfl⟩)
      exact ⟨KeepsOthers.setCell _ _ _, ⟨⟨rfl, HST.out⟩, by rw [HLP.out, ← HBE.out]; exact hR.set _⟩, (HBW.out.trans (hB.mono (by rw [HSZ.out]; omega))).setCell (p := ⟨w.heap.size, 0, none⟩) (by simp) _⟩
  case done =>
    rintro D ys W hD hys ⟨hp, hB⟩ hK
    subst hys
    have HNS : Hid (lastSt out = []) := Lib.hid (by rw [← HT.out]; exact lastSt_all hp)
    have hR := (show Boxed W w.heap.size 9 (.string ⟨#[]⟩) from keepB HB2.out hB)
    have cR := hR.cell
    have fR := hR.frozen
    have hWB := HBW.out.trans (hB.mono (by rw [HSZ.out]; omega))
    have hDw : w.heap.size ≤ D := by have := HSZ.out; omega
    have hgW := keepB HHG.out hB
    clear hp
    by_cases h0 : T.length = 0
    · have q0 : ((T.length : Int) == 0) = true := by simp [h0]
      have HN : Hid (newestL out = []) := Lib.hid (by
        have : out = [] := List.length_eq_zero_iff.1 (by rw [← HLT.out]; exact h0)
        rw [this]; rfl)
      gi_wp2
      have hK' := (KeepsOthers.setCell W ⟨w.heap.size, 0, none⟩ (.string ⟨#[]⟩)).same D _ hK rfl
      refine ⟨by simp, .inl ⟨_, _, rfl, run_takeDeferred hK', ?_⟩⟩
      have hc5 := cell_kept (hR.set (.string ⟨#[]⟩)).cell (grownBy_putObj' _ D (.deferred none)) (fun r e => by cases e; exact ⟨_, hK', rfl⟩)
      refine ⟨.string ⟨#[]⟩, ?_, out, by rw [HN.out], HSO.out, (hWB.setCell (p := ⟨w.heap.size, 0, none⟩) (by simp) _).trans (belowK_b (w := w) (Nat.le_refl _) _ D _ _ hDw hK' rfl rfl)⟩
      simp [results, Tryz.f19, go_sem, hc5]
    · have q0 : ((T.length : Int) == 0) = false := int_beq_false (by omega)
      obtain ⟨m, hm⟩ : ∃ m : Nat, T.length = m + 1 := ⟨T.length - 1, by omega⟩
      have hmT : m < T.length := by omega
      have d1 : W.cell? ⟨g, m, none⟩ = some (.string ⟨T[m].1.toArray⟩) := by have := hcur m hmT; simp [World.cell?, hgW, this, sv]
      have e1 : (T.length : Int) - 1 = (m : Int) := by omega
      have HN : Hid (newestL out = T[m].1) := Lib.hid (by
        have hl := HLT.out
        rw [newest_none HNS.out (by omega), lastD_get (by omega)]
        simp only [← HT.out, List.length_map, List.getElem_map, hm, Nat.add_sub_cancel])
      have k0 : (0 : Int) ≤ (m : Int) := by omega
      have k1 : (m : Int) < (T.length : Int) := by omega
      clear h0 hm
      gi_wp2
      have hK' := (KeepsOthers.setCell W ⟨w.heap.size, 0, none⟩ (.string ⟨T[m].1.toArray⟩)).same D _ hK rfl
      refine ⟨by simp, .inl ⟨_, _, rfl, run_takeDeferred hK', ?_⟩⟩
      have hc5 := cell_kept (hR.set (.string ⟨T[m].1.toArray⟩)).cell (grownBy_putObj' _ D (.deferred none)) (fun r e => by cases e; exact ⟨_, hK', rfl⟩)
      refine ⟨.string ⟨T[m].1.toArray⟩, ?_, out, by rw [HN.out], HSO.out, (hWB.setCell (p := ⟨w.heap.size, 0, none⟩) (by simp) _).trans (belowK_b (w := w) (Nat.le_refl _) _ D _ _ hDw hK' rfl rfl)⟩
      simp [results, Tryz.f19, go_sem, hc5]
  case stop =>
    rintro D c pre W hD hpre ⟨⟨⟨rfl, hst⟩, hR⟩, hB⟩ hK
    have HLS : Hid (lastSt out = lastP pre) := Lib.hid (by rw [← HT.out]; exact lastSt_stop hpre hst)
    have HNE : Hid (lastP pre ≠ []) := Lib.hid (by
      obtain ⟨p, x, rfl, _, _⟩ := hst
      obtain ⟨t, ht⟩ := hpre
      have hm : x ∈ bk T := by rw [← ht]; simp
      have hx : x.2.1 ∈ out := by
        rw [← HT.out]
        have : x.2 ∈ (bk T).map (fun y => y.2) := List.mem_map.2 ⟨x, hm, rfl⟩
        rw [bk_snd] at this
        exact List.mem_map.2 ⟨x.2, by simpa using this, rfl⟩
      have := readOk_ne ((HSO.out.2 _).1 hx).2
      simpa [lastP] using this)
    have HN : Hid (newestL out = lastP pre) := Lib.hid (newest_some HLS.out HNE.out)
    have hDw : w.heap.size ≤ D := by have := HSZ.out; omega
    clear hst hpre
    gi_wp2
    refine ⟨by simp, .inl ⟨_, _, rfl, run_takeDeferred hK, ?_⟩⟩
    have hc5 := cell_kept hR.cell (grownBy_putObj' _ D (.deferred none)) (fun r e => by cases e; exact ⟨_, hK, rfl⟩)
    refine ⟨.string ⟨(lastP pre).toArray⟩, ?_, out, by rw [HN.out], HSO.out, hB.trans (belowK_b (w := w) (Nat.le_refl _) _ D _ _ hDw hK rfl rfl)⟩
    simp [results, Tryz.f19, go_sem, hc5]

theorem implNewest_any (v : Value) (ls : List (List UInt8)) (w : World) (hr : RdS w v ls) (hs : Sm ls) (ht : Tab w) :
    Calls Tryz.prog 19 #[v] w fun e W' => ∃ out, e = .returned (.string ⟨(newestL out).toArray⟩) ∧ SortOf ls out ∧ Below w.heap.size w W' :=
  (callsIn_wide (n := 4)).1 (implNewest_in 4 (by omega) v ls w hr hs ht)
end Go.Proofs.YtjpclglklmlhlaaGreatDoor
