/-
  impl.headsOf hands back an iterator that yields the heads of all entries, each with its entry's place.
-/
import Derived.Test.YtnodhkjgnegkcaaResM
import Derived.Test.YtnodhkjgnegkcaaKp
namespace Go.Proofs.Ytnodhkjgnegkcaa
open Go.RowKit Go.Shelf
attribute [local go_sem] Oper.semAt_some

abbrev HdP := Nat × Bd
def hdV (x : HdP) : Array Value := #[.int .i64 (x.1 : Int), .agg #[.string ⟨x.2.1.toArray⟩, .string ⟨x.2.2.toArray⟩]]
def hdF (es : List En) (i : Nat) : List HdP := (es.getD i default).heads.map fun h => (i, h)
/-- All heads as far as head m of entry k. -/
def hdTo (es : List En) (k m : Nat) : List HdP := (List.range k).flatMap (hdF es) ++ (hdF es k).take m
def hdAll (es : List En) : List HdP := (List.range es.length).flatMap (hdF es)
theorem es_getD {es : List En} {k : Nat} (h : k < es.length) : es.getD k default = es[k] := by rw [List.getD_eq_getElem?_getD, List.getElem?_eq_getElem h]; rfl
theorem hdF_at {es : List En} {k : Nat} (h : k < es.length) : hdF es k = es[k].heads.map fun h => (k, h) := by unfold hdF; rw [es_getD h]
theorem hdTo_next {es : List En} {k : Nat} (h : k < es.length) : hdTo es k es[k].heads.length = hdTo es (k + 1) 0 := by
  unfold hdTo
  rw [List.take_of_length_le (by rw [hdF_at h]; simp), List.range_succ, List.flatMap_append]
  simp
theorem hdTo_step {es : List En} {k m : Nat} (h : k < es.length) (hm : m < es[k].heads.length) : hdTo es k (m + 1) = hdTo es k m ++ [(k, es[k].heads[m])] := by
  unfold hdTo
  rw [List.take_succ_eq_append_getElem (by rw [hdF_at h]; simpa using hm), List.append_assoc]
  congr 3
  simp [hdF_at h]
theorem hdTo_end (es : List En) : hdTo es es.length 0 = hdAll es := by unfold hdTo hdAll; simp
theorem range_parts {n k : Nat} (h : k < n) : List.range n = List.range k ++ k :: (List.range n).drop (k + 1) := by
  have h1 := (List.take_append_drop k (List.range n)).symm
  rw [List.drop_eq_getElem_cons (by simpa using h), List.take_range, Nat.min_eq_left (by omega)] at h1
  simpa using h1
theorem hdTo_pre {es : List En} {k : Nat} (m : Nat) (h : k < es.length) : hdTo es k m <+: hdAll es := by
  unfold hdTo hdAll
  rw [range_parts h, List.flatMap_append, List.flatMap_cons]
  refine ⟨(hdF es k).drop m ++ ((List.range es.length).drop (k + 1)).flatMap (hdF es), ?_⟩
  rw [List.append_assoc, ← List.append_assoc ((hdF es k).take m), List.take_append_drop]

/-- Nothing that is older than n0 has been written. -/
def KpO (n0 : Nat) (A B : World) : Prop := ∀ b, b < n0 → B.heap[b]? = A.heap[b]?
theorem KpO.refl (n0 : Nat) (A : World) : KpO n0 A A := fun _ _ => rfl
theorem kpO_t {n0 : Nat} {A B C : World} (h : KpO n0 A B) (k : KpO n0 B C) : KpO n0 A C := fun b hb => (k b hb).trans (h b hb)
theorem KpO.of_grown {n0 : Nat} {A B : World} {row : Option Nat} (hg : A.grownBy B row) (h1 : n0 ≤ A.heap.size) (hr : ∀ r, row = some r → n0 ≤ r) : KpO n0 A B := fun b hb => hg.block b (by omega) (fun e => by have := hr b e.symm; omega)
theorem KpO.of_below {n0 n : Nat} {A B : World} (h : Below n A B) (h1 : n0 ≤ n) : KpO n0 A B := fun b hb => h.block b (by omega)
theorem kpO_b {n0 : Nat} {w : World} (h1 : n0 ≤ w.heap.size) (W : World) (l : Nat) (o o' : Obj) (hl : w.heap.size ≤ l) (h : W.heap[l]? = some o) (_ : o.isCells = false) (_ : o.isWalk = false) : KpO n0 W (W.putObj l o') := by
  have hlt := (Array.getElem?_eq_some_iff.1 h).1
  exact KpO.of_grown (grownBy_putObj' W l o') (by omega) (fun r e => by cases e; omega)
theorem KpO.size {A B : World} (h : KpO A.heap.size A B) : A.heap.size ≤ B.heap.size := by
  rcases Nat.eq_zero_or_pos A.heap.size with h0 | h0
  · omega
  · have h1 := h (A.heap.size - 1) (by omega)
    rw [Array.getElem?_eq_getElem (by omega : A.heap.size - 1 < A.heap.size)] at h1
    have := lt_of_heap h1
    omega
theorem cell_heap {V W : World} (e : V.heap = W.heap) (a : Addr) : V.cell? a = W.cell? a := by unfold World.cell?; rw [e]
theorem KpO.rdEs {A B : World} {v : Value} {es : List En} (h : KpO A.heap.size A B) (hr : RdEs A v es) : RdEs B v es := by
  obtain ⟨V, hV, hb⟩ : ∃ V : World, V.heap = B.heap ∧ Below A.heap.size A V := ⟨{ A with heap := B.heap }, rfl, rfl, rfl, rfl, h.size, fun b hb => h b hb⟩
  have h2 := hr.below hb
  unfold RdEs EnAt RdB at h2 ⊢
  simp only [cell_heap hV, hV] at h2
  exact h2
theorem KpO.rdB {A B : World} {v : Value} {bs : List Bd} (h : KpO A.heap.size A B) (hr : RdB A v bs) : RdB B v bs := by
  obtain ⟨V, hV, hb⟩ : ∃ V : World, V.heap = B.heap ∧ Below A.heap.size A V := ⟨{ A with heap := B.heap }, rfl, rfl, rfl, rfl, h.size, fun b hb => h b hb⟩
  have h2 := hr.below hb
  unfold RdB at h2 ⊢
  simp only [cell_heap hV, hV] at h2
  exact h2
theorem KpO.cell {A B : World} {g o : Nat} {x : Value} (h : KpO A.heap.size A B) (hg : g < A.heap.size) (hc : A.cell? ⟨g, o, none⟩ = some x) : B.cell? ⟨g, o, none⟩ = some x := by
  rw [← hc]; unfold World.cell?; rw [h g hg]

set_option maxHeartbeats 1000000 in
theorem headsOf_in (n : Nat) (A : Option Addr) (len cap : Nat) (w : World) :
    CallsIn Fence.wide n Try.prog 34 #[.slice A len cap] w fun e w' => e = .returned (.func (.func 64) #[] #[.pointer (some ⟨w.heap.size, 0, none⟩)]) ∧ w' = w.alloc (.cells #[.slice A len cap] 28) := by
  refine callsIn_of_wp Try.func34 rfl trivial ?_ rfl
  simp only [Try.ntmps34, List.size_toArray, List.length_cons, List.length_nil, Nat.reduceAdd, Nat.reduceSub, Array.replicate_succ, Array.replicate_zero, List.push_toArray, List.append_toArray, List.nil_append, List.cons_append]
  gi_wp2
  go_ret
  exact ⟨rfl, rfl⟩

set_option maxRecDepth 100000 in
set_option maxHeartbeats 4000000 in
theorem heads1_in (n : Nat) (hn : 1 ≤ n) (l Bs : Nat) (A : Option Addr) (cap : Nat) (es : List En) (w0 : World) (hr : RdEs w0 (.slice A es.length cap) es) (hl : es.length ≤ 1048576) (hs : ∀ e ∈ es, e.heads.length ≤ 1048576)
    (hB0 : w0.heap[Bs]? = some (.cells #[.slice A es.length cap] 28 (0, 0))) (J Jx : List HdP → World → Prop)
    (hY : ∀ pre x W, J pre W → pre.length < (hdAll es).length → YieldAt Fence.wide (n - 1) Try.prog l (hdV x) W fun e W' =>
      (e = .returned (.bool true) ∧ J (pre ++ [x]) W' ∧ KpO w0.heap.size W W') ∨ (e = .returned (.bool false) ∧ Jx (pre ++ [x]) W'))
    (W : World) (hW : KpO w0.heap.size w0 W) (h0 : J [] W) (hJa : AbidesFrom W.heap.size J) :
    CallsIn Fence.wide n Try.prog 64 #[.func (.yield l) #[] #[], .pointer (some ⟨Bs, 0, none⟩)] W fun e W' => (∃ v, e = .returned v) ∧
      ((∃ ys, ys = hdAll es ∧ J ys W') ∨ (∃ pre, pre <+: hdAll es ∧ Jx pre W')) := by
  have hB1 := (hW Bs (lt_of_heap hB0)).trans hB0
  have hc1 : W.cell? ⟨Bs, 0, none⟩ = some (.slice A es.length cap) := by simp [World.cell?, hB1]
  have HR := Lib.hid hr
  have HS := Lib.hid hs
  clear hr hs hB1 hB0
  refine callsIn_of_wp Try.func64 rfl trivial ?_ rfl
  simp only [Try.ntmps64, List.size_toArray, List.length_cons, List.length_nil, Nat.reduceAdd, Nat.reduceSub, Array.replicate_succ, Array.replicate_zero, List.push_toArray, List.append_toArray, List.nil_append, List.cons_append]
  gi_wp2
  gi_loopw [9] (fun i wr => ∃ k : Nat, k ≤ es.length ∧ i = .int .i64 (k : Int) ∧ KpO w0.heap.size w0 wr ∧ J (hdTo es k 0) wr) (fun i _ => es.length - (intOf i).toNat)
  case atStart => exact ⟨0, Nat.zero_le _, rfl, hW, by simpa [hdTo] using h0⟩
  case round =>
    obtain ⟨k, hk, rfl, hK, hJ⟩ := hrel
    by_cases hlt : k < es.length
    · obtain ⟨g, off, rfl, hg, a0, a1, d0, d1, d2, d3, d4, r0, r1⟩ := HR.out.at k hlt
      have hnl := HS.out _ (List.getElem_mem hlt)
      obtain ⟨A1, c1, rfl⟩ := rdB_slice r0
      obtain ⟨A2, c2, rfl⟩ := rdB_slice r1
      have HRB := Lib.hid (fun (V : World) (h : KpO w0.heap.size w0 V) => h.rdB r0)
      have k0 : (0 : Int) ≤ (k : Int) := by omega
      have k1 : (k : Int) < (es.length : Int) := by omega
      obtain ⟨nl, HNL⟩ : ∃ nl, Hid (es[k].heads.length = nl) := ⟨_, Lib.hid rfl⟩
      rw [HNL.out] at hnl HRB d0
      replace d0 := hK.cell hg d0
      replace d1 := hK.cell hg d1
      replace d2 := hK.cell hg d2
      replace d3 := hK.cell hg d3
      replace d4 := hK.cell hg d4
      have HJ1 : Hid (J (hdTo es k 0) (wr.alloc (.cells #[.slice A1 nl c1, .string ⟨es[k].ver.toArray⟩, .string ⟨es[k].res.toArray⟩, .string ⟨es[k].int.toArray⟩, .slice A2 es[k].needs.length c2] 66))) := Lib.hid (hJa _ wr _ none hJ (gr_alloc _ _ _) (fun r e => by cases e))
      have HK1 : Hid (KpO w0.heap.size w0 (wr.alloc (.cells #[.slice A1 nl c1, .string ⟨es[k].ver.toArray⟩, .string ⟨es[k].res.toArray⟩, .string ⟨es[k].int.toArray⟩, .slice A2 es[k].needs.length c2] 66))) := Lib.hid (kpO_t hK (KpO.of_grown (gr_alloc _ _ none) hK.size (fun r e => by cases e)))
      clear r0 r1 hJ
      gi_wp2
      gi_loopw [17] (fun j V => ∃ m : Nat, m ≤ nl ∧ j = .int .i64 (m : Int) ∧ KpO w0.heap.size w0 V ∧ J (hdTo es k m) V) (fun j _ => nl - (intOf j).toNat)
      case atStart => exact ⟨0, Nat.zero_le _, rfl, HK1.out, HJ1.out⟩
      case round =>
        rename_i wq _
        obtain ⟨m, hm, rfl, hK2, hJ2⟩ := hrel
        clear HJ1 HK1 d0 d1 d2 d3 d4 hK
        by_cases hmt : m < nl
        · have hmt' : m < es[k].heads.length := by rw [HNL.out]; exact hmt
          obtain ⟨g2, off2, rfl, hg2, e0, e1⟩ := RdB.atR (HRB.out _ hK2) m hmt'
          have m0 : (0 : Int) ≤ (m : Int) := by omega
          have m1 : (m : Int) < (nl : Int) := by omega
          have hJ3 : J (hdTo es k m) (wr.alloc (.cells #[.string ⟨es[k].heads[m].1.toArray⟩, .string ⟨es[k].heads[m].2.toArray⟩] 30)) := hJa _ wr _ none hJ2 (gr_alloc _ _ _) (fun r e => by cases e)
          have HK3 : Hid (KpO w0.heap.size w0 (wr.alloc (.cells #[.string ⟨es[k].heads[m].1.toArray⟩, .string ⟨es[k].heads[m].2.toArray⟩] 30))) := Lib.hid (kpO_t hK2 (KpO.of_grown (gr_alloc _ _ none) hK2.size (fun r e => by cases e)))
          have HTK := Lib.hid (hdTo_step hlt hmt')
          have HPR := Lib.hid (hdTo_pre (m + 1) hlt)
          have hyy := hY (hdTo es k m) (k, es[k].heads[m]) _ hJ3 (by have h1 := HPR.out.length_le; have h2 := congrArg List.length HTK.out; simp at h2; omega)
          rw [← HTK.out] at hyy
          unfold hdV at hyy
          obtain ⟨fn, tmps, assign, body, hy, hR⟩ := hyy
          have HR2 := Lib.hid hR
          clear hR hJ2 hJ3 hK2
          gi_wp2
          refine HR2.out.mono ?_
          rintro e W3 (⟨rfl, hJ4, hK4⟩ | ⟨rfl, hJx4⟩)
          · gi_wp2
            go_roundw
            case rel => exact ⟨m + 1, by omega, by go_num, kpO_t HK3.out hK4, hJ4⟩
            case measure => simp [intOf]; omega
          · gi_wp2
            refine bodyPost_ret (results_none rfl _ _ _) rfl ?_
            exact ⟨⟨_, rfl⟩, .inr ⟨_, HPR.out, hJx4⟩⟩
        · have hJ3 : J (hdTo es (k + 1) 0) wr := by
            rw [← hdTo_next hlt, HNL.out, show nl = m by omega]; exact hJ2
          clear hJ2
          gi_wp2
          go_roundw
          case rel => exact ⟨k + 1, by omega, by go_num, hK2, hJ3⟩
          case measure => simp [intOf]; omega
    · have hJ3 : J (hdAll es) wr := by
        rw [← hdTo_end, show es.length = k by omega]; exact hJ
      have k2 : ¬ (k : Int) < (es.length : Int) := by omega
      clear hJ
      gi_wp2
      go_end0
      first | exact ⟨⟨_, rfl⟩, .inl ⟨_, rfl, hJ3⟩⟩ | exact ⟨⟨_, rfl⟩, .inl hJ3⟩

/-- The iterator's contract, for a caller. -/
theorem heads_stops (n : Nat) (hn : 1 ≤ n) (Bs : Nat) (A : Option Addr) (cap : Nat) (es : List En) (w : World) (hr : RdEs w (.slice A es.length cap) es) (hl : es.length ≤ 1048576) (hs : ∀ e ∈ es, e.heads.length ≤ 1048576)
    (hB0 : w.heap[Bs]? = some (.cells #[.slice A es.length cap] 28 (0, 0))) :
    SeqStopsK Fence.wide n Try.prog 64 #[.pointer (some ⟨Bs, 0, none⟩)] hdV (KpO w.heap.size) (fun ys => ys = hdAll es) (fun pre => pre <+: hdAll es) (hdAll es).length w := fun l J Jx W hW hJ _ hY h0 =>
  heads1_in n hn l Bs A cap es w hr hl hs hB0 J Jx hY W (KpO.of_below hW (Nat.le_refl _)) h0 hJ
end Go.Proofs.Ytnodhkjgnegkcaa
