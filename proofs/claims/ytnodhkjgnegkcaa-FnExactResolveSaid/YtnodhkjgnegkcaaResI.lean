/-
  impl.Resolve.
-/
import Derived.Test.YtnodhkjgnegkcaaHdI
namespace Go.Proofs.Ytnodhkjgnegkcaa
open Go.RowKit Go.Shelf
attribute [local go_sem] Oper.semAt_some

def hdR : List En → Nat → List HdP
  | [], _ => []
  | e :: es, k => (e.heads.map fun h => (k, h)) ++ hdR es (k + 1)
theorem hdR_eq : ∀ (es : List En) (k : Nat), hdR es k = (List.range es.length).flatMap fun i => (es.getD i default).heads.map fun h => (k + i, h)
  | [], _ => rfl
  | e :: es, k => by
    unfold hdR
    rw [hdR_eq es (k + 1), List.length_cons, List.range_succ_eq_map, List.flatMap_cons, List.flatMap_map]
    congr 1
    refine congrArg (fun F => (List.range es.length).flatMap F) (funext fun i => ?_)
    simp [Nat.add_assoc, Nat.add_comm 1 i]
theorem hdAll_eq (es : List En) : hdAll es = hdR es 0 := by rw [hdR_eq]; unfold hdAll hdF; simp
def resA (n : Bd) (l : List HdP) : Int := match l.find? (fun x => x.2 == n) with | some x => (x.1 : Int) | none => -1
theorem find_heads (n : Bd) (k : Nat) : ∀ hs : List Bd, (hs.map fun h => (k, h)).find? (fun x : HdP => x.2 == n) = if n ∈ hs then some (k, n) else none
  | [] => rfl
  | h :: hs => by
    rw [List.map_cons, List.find?_cons]
    by_cases e : h = n
    · subst e; simp
    · have e' : (h == n) = false := by simpa using e
      simp only [e', find_heads n k hs, List.mem_cons]
      simp [Ne.symm e]
theorem resE_find (n : Bd) : ∀ (es : List En) (k : Nat), resA n (hdR es k) = resE n es k
  | [], _ => rfl
  | e :: es, k => by
    have ih := resE_find n es (k + 1)
    unfold resA at ih ⊢
    unfold hdR resE
    rw [List.find?_append, find_heads]
    by_cases h : n ∈ e.heads
    · simp [h]
    · simp only [h, if_false, Option.none_or]; exact ih
theorem res_find (es : List En) (n : Bd) : resK es n 0 = resA n (hdAll es) := by rw [hdAll_eq, resE_find]; rfl
theorem res_all {es : List En} {n : Bd} (h : ∀ y ∈ hdAll es, y.2 ≠ n) : resK es n 0 = -1 := by
  rw [res_find]; unfold resA
  rw [List.find?_eq_none.2 (fun y hy => by simpa using h y hy)]
def stopsH (n : Bd) (pre : List HdP) : Prop := ∃ p x, pre = p ++ [x] ∧ (∀ y ∈ p, y.2 ≠ n) ∧ x.2 = n
def lastI (pre : List HdP) : Nat := match pre.getLast? with | some x => x.1 | none => 0
theorem lastI_snoc (p : List HdP) (x : HdP) : lastI (p ++ [x]) = x.1 := by simp [lastI]
theorem res_stop {es : List En} {n : Bd} {pre : List HdP} (hp : pre <+: hdAll es) (hs : stopsH n pre) : resK es n 0 = (lastI pre : Int) := by
  obtain ⟨p, x, rfl, h1, h2⟩ := hs
  obtain ⟨t, ht⟩ := hp
  rw [res_find, ← ht, lastI_snoc]
  unfold resA
  rw [List.append_assoc, List.find?_append, List.find?_eq_none.2 (fun y hy => by simpa using h1 y hy)]
  simp [h2]

set_option maxRecDepth 100000 in
set_option maxHeartbeats 4000000 in
theorem implResolve_in (n : Nat) (h1 : 4 ≤ n) (v : Value) (es : List En) (q : Bd) (w : World) (hr : RdEs w v es) (hl : es.length ≤ 1048576) (hs : ∀ e ∈ es, e.heads.length ≤ 1048576) :
    CallsIn Fence.wide n Try.prog 12 #[v, .agg #[.string ⟨q.1.toArray⟩, .string ⟨q.2.toArray⟩]] w fun e w' => e = .returned (.int .i64 (resK es q 0)) ∧ Below w.heap.size w w' := by
  obtain ⟨q1, q2⟩ := q
  simp only
  have h2 : 1 ≤ n := by omega
  obtain ⟨A, cap, rfl⟩ := hr.slice
  refine callsIn_of_wp_marks Try.func12 rfl trivial ?_ rfl
  simp only [Try.ntmps12, List.size_toArray, List.length_cons, List.length_nil, Nat.reduceAdd, Nat.reduceSub, Array.replicate_succ, Array.replicate_zero, List.push_toArray, List.append_toArray, List.nil_append, List.cons_append]
  gi_wp2_with (refine ⟨trivial, ?_⟩; gi_at_call 34; refine (headsOf_in _ _ _ _ _).mono ?_; rintro e w' ⟨rfl, rfl⟩)
  have b0 := keepA (keepA (heap_alloc_new w (.cells #[.string ⟨q1.toArray⟩, .string ⟨q2.toArray⟩] 30)) (.cells #[.int .i64 0] 3)) (.cells #[.slice A es.length cap] 28)
  have b1 := keepA (heap_new (W := w.alloc (.cells #[.string ⟨q1.toArray⟩, .string ⟨q2.toArray⟩] 30)) (n := w.heap.size + 1) (by simp) (.cells #[.int .i64 0] 3)) (.cells #[.slice A es.length cap] 28)
  have b2 := heap_new (W := (w.alloc (.cells #[.string ⟨q1.toArray⟩, .string ⟨q2.toArray⟩] 30)).alloc (.cells #[.int .i64 0] 3)) (n := w.heap.size + 1 + 1) (by simp) (.cells #[.slice A es.length cap] 28)
  have B0 : Below w.heap.size w (((w.alloc (.cells #[.string ⟨q1.toArray⟩, .string ⟨q2.toArray⟩] 30)).alloc (.cells #[.int .i64 0] 3)).alloc (.cells #[.slice A es.length cap] 28)) := (((Below.refl _ w).alloc (Nat.le_refl _) _).alloc (by simp) _).alloc (by simp; omega) _
  obtain ⟨W0, hW0⟩ : ∃ W0, (((w.alloc (.cells #[.string ⟨q1.toArray⟩, .string ⟨q2.toArray⟩] 30)).alloc (.cells #[.int .i64 0] 3)).alloc (.cells #[.slice A es.length cap] 28)) = W0 := ⟨_, rfl⟩
  have hsz : W0.heap.size = w.heap.size + 3 := by rw [← hW0]; simp
  rw [hW0] at b0 b1 b2 B0 ⊢
  clear hW0
  have HSZ := Lib.hid hsz
  have HRW := Lib.hid (hr.below B0)
  have HB0 := Lib.hid b0
  have HB1 := Lib.hid b1
  have HBW := Lib.hid B0
  clear hsz hr
  refine wpIn_rangeFunc_ownH rfl h2 (gf := 64) (lb := #[.pointer (some ⟨w.heap.size + 1 + 1, 0, none⟩)]) rfl trivial (enters_of Try.func64 (by kernel_rfl) rfl)
    (heads_stops (n - 1) (by omega) (w.heap.size + 1 + 1) A cap es W0 HRW.out hl hs b2) kpO_t (kpO_b (Nat.le_refl _)) (Below.refl _ _) (fun _ => rfl)
    (fun pre W => (∀ y ∈ pre, y.2 ≠ (q1, q2)) ∧ Below W0.heap.size W0 W)
    (fun c pre W => ((c = .ret ∧ stopsH (q1, q2) pre) ∧ Boxed W (w.heap.size + 1) 3 (.int .i64 (lastI pre : Int))) ∧ Below w.heap.size w W)
    (OwnFrom.and (ownFrom_pure _ _) (ownFrom_below (Nat.le_refl _) (Nat.le_refl _)))
    (fun c => OwnFrom.and (OwnFrom.and (ownFrom_pure _ _) (Own.from (boxed_own _ _ _) _)) (ownFrom_below (Nat.le_refl _) (by rw [HSZ.out]; omega)))
    ⟨fun y hy => absurd hy (by simp), Below.refl _ _⟩
    (fun x a' W => ∃ Bx, W0.heap.size ≤ Bx ∧ W.heap[Bx]? = some (.cells #[.string ⟨x.2.1.toArray⟩, .string ⟨x.2.2.toArray⟩] 30 (0, 0)) ∧
      a' = { tmps := #[.slice A es.length cap, .agg #[.string ⟨q1.toArray⟩, .string ⟨q2.toArray⟩], undef, .pointer (some ⟨w.heap.size, 0, none⟩), .pointer (some ⟨w.heap.size + 1, 0, none⟩), .int .i64 (x.1 : Int), .pointer (some ⟨Bx, 0, none⟩), .slice A es.length cap, .func (.func 64) #[] #[.pointer (some ⟨w.heap.size + 1 + 1, 0, none⟩)], .int .i64 (x.1 : Int), .agg #[.string ⟨x.2.1.toArray⟩, .string ⟨x.2.2.toArray⟩], undef, undef, undef, undef], defers := [] })
    (fun x a' => by
      rintro _ X Y row ⟨Bx, hx1, hx2, hx3⟩ hg hr
      refine ⟨Bx, hx1, (hg.block Bx (Array.getElem?_eq_some_iff.1 hx2).1 (fun e => ?_)).trans hx2, hx3⟩
      obtain ⟨_, o, ho, hc⟩ := hr _ e.symm
      rw [hx2] at ho; cases ho; cases hc)
    ?assign ?body ?done ?stop
  case assign =>
    rintro l pre x W K ⟨hJ, hB⟩ hK
    unfold hdV
    gi_wp2
    exact hK _ _ ((KeepsOthers.alloc _ _).from _) (KpO.of_grown (gr_alloc _ _ none) hB.size (fun r e => by cases e)) ⟨hJ, hB.alloc hB.size _⟩ ⟨W.heap.size, hB.size, heap_alloc_new W _, rfl⟩
  case body =>
    rintro l pre x a' W hl hrec ⟨hp, hB⟩ ⟨Bx, hBx, hX, rfl⟩ hpl
    obtain ⟨i, r1, r2⟩ := x
    simp only at hX ⊢
    have hN := keepB HB0.out hB
    obtain ⟨x0, x1⟩ := cellsG hX
    obtain ⟨y0, y1⟩ := cellsG hN
    have hR := (show Boxed W (w.heap.size + 1) 3 (.int .i64 0) from keepB HB1.out hB)
    have cR := hR.cell
    have fR := hR.frozen
    by_cases c1 : r1 = q1
    · by_cases c2 : r2 = q2
      · subst c1 c2
        have HST : Hid (stopsH (r1, r2) (pre ++ [(i, r1, r2)])) := Lib.hid ⟨pre, (i, r1, r2), rfl, hp, rfl⟩
        clear hp
        gi_wp2
        exact ⟨(KeepsOthers.setCell _ _ _).from _, ⟨⟨rfl, HST.out⟩, by rw [lastI_snoc]; exact hR.set _⟩, (HBW.out.trans (hB.mono (by rw [HSZ.out]; omega))).setCell (p := ⟨w.heap.size + 1, 0, none⟩) (by simp) _⟩
      · subst c1
        have HPN : Hid (∀ y ∈ pre ++ [(i, r1, r2)], y.2 ≠ (r1, q2)) := Lib.hid (fun y hy => by
          rcases List.mem_append.1 hy with h | h
          · exact hp y h
          · simp at h; subst h; intro h; exact c2 (by injection h))
        clear hp
        gi_wp2
        exact ⟨(KeepsOthers.refl _).from _, KpO.refl _ _, HPN.out, hB⟩
    · have HPN : Hid (∀ y ∈ pre ++ [(i, r1, r2)], y.2 ≠ (q1, q2)) := Lib.hid (fun y hy => by
        rcases List.mem_append.1 hy with h | h
        · exact hp y h
        · simp at h; subst h; intro h; exact c1 (by injection h))
      clear hp
      gi_wp2
      exact ⟨(KeepsOthers.refl _).from _, KpO.refl _ _, HPN.out, hB⟩
  case done =>
    rintro D ys W hD hys ⟨hp, hB⟩ hK
    subst hys
    have HN : Hid (resK es (q1, q2) 0 = -1) := Lib.hid (res_all hp)
    have hR := (show Boxed W (w.heap.size + 1) 3 (.int .i64 0) from keepB HB1.out hB)
    have cR := hR.cell
    have fR := hR.frozen
    have hWB := HBW.out.trans (hB.mono (by rw [HSZ.out]; omega))
    have hDw : w.heap.size ≤ D := by have := HSZ.out; omega
    clear hp
    gi_wp2
    have hK' := (KeepsOthers.setCell W ⟨w.heap.size + 1, 0, none⟩ (.int .i64 (-1))).same D _ hK rfl
    refine ⟨by simp, .inl ⟨_, _, rfl, run_takeDeferred hK', ?_⟩⟩
    have hc5 := cell_kept (hR.set (.int .i64 (-1))).cell (grownBy_putObj' _ D (.deferred none)) (fun r e => by cases e; exact ⟨_, hK', rfl⟩)
    refine ⟨.int .i64 (-1), ?_, by rw [HN.out], (hWB.setCell (p := ⟨w.heap.size + 1, 0, none⟩) (by simp) _).trans (belowK_b (w := w) (Nat.le_refl _) _ D _ _ hDw hK' rfl rfl)⟩
    simp [results, Try.f12, go_sem, hc5]
  case stop =>
    rintro D c pre W hD hpre ⟨⟨⟨rfl, hst⟩, hR⟩, hB⟩ hK
    have HN := Lib.hid (res_stop hpre hst)
    have hDw : w.heap.size ≤ D := by have := HSZ.out; omega
    clear hst hpre
    gi_wp2
    refine ⟨by simp, .inl ⟨_, _, rfl, run_takeDeferred hK, ?_⟩⟩
    have hc5 := cell_kept hR.cell (grownBy_putObj' _ D (.deferred none)) (fun r e => by cases e; exact ⟨_, hK, rfl⟩)
    refine ⟨.int .i64 (lastI pre : Int), ?_, by rw [HN.out], hB.trans (belowK_b (w := w) (Nat.le_refl _) _ D _ _ hDw hK rfl rfl)⟩
    simp [results, Try.f12, go_sem, hc5]

theorem implResolve_any (v : Value) (es : List En) (q : Bd) (w : World) (hr : RdEs w v es) (hl : es.length ≤ 1048576) (hs : ∀ e ∈ es, e.heads.length ≤ 1048576) :
    Calls Try.prog 12 #[v, .agg #[.string ⟨q.1.toArray⟩, .string ⟨q.2.toArray⟩]] w fun e w' => e = .returned (.int .i64 (resK es q 0)) ∧ Below w.heap.size w w' :=
  (callsIn_wide (n := 4)).1 (implResolve_in 4 (by omega) v es q w hr hl hs)
end Go.Proofs.Ytnodhkjgnegkcaa
