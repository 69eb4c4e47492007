/-
  impl.listOf.with over fields.
-/
import Derived.Test.YtongpnknmgbhjaaFdR
import Derived.Deep.RegionWith
namespace Go.Proofs.Ytongpnknmgbhjaa
open Go.RowKit

theorem Fields.rd {w : World} {base : Nat} {v : Value} {qs : List FdV} (h4 : Fields w base v qs) (h5 : ∀ q ∈ qs, RdS w q.2 q.1.list) : RdFs w v (qs.map (·.1)) := by
  rcases h4.form with ⟨rfl, rfl⟩ | ⟨g, cap, rfl, hg, hlt⟩
  · exact rdFs_nil _
  · refine ⟨some ⟨g, 0, none⟩, cap, by simp, fun _ => ⟨g, 0, rfl, hlt, fun k hk => ?_⟩⟩
    simp at hk
    obtain ⟨c0, c1, c2, c3⟩ := h4.cell k hk
    rw [Nat.zero_add]
    simp only [List.getElem_map]
    exact ⟨qs[k].2, c0, c1, c2, c3, h5 qs[k] (List.getElem_mem hk)⟩
theorem cells_drop {w : World} {g off : Nat} {qs : List FdV} (h : ∀ j u, (flatF qs)[j]? = some u → w.cell? ⟨g, off + j, none⟩ = some u) (lo : Nat) (hlo : lo ≤ qs.length) : ∀ j u, (flatF (qs.drop lo))[j]? = some u → w.cell? ⟨g, off + lo * 4 + j, none⟩ = some u := by
  intro j u hj
  have e : flatF qs = flatF (qs.take lo) ++ flatF (qs.drop lo) := by rw [← flatF_append, List.take_append_drop]
  have := h (lo * 4 + j) u (by rw [e, List.getElem?_append_right (by rw [flatF_len, List.length_take]; omega), flatF_len, List.length_take, Nat.min_eq_left hlo, show lo * 4 + j - lo * 4 = j by omega]; exact hj)
  rwa [show off + (lo * 4 + j) = off + lo * 4 + j by omega] at this
theorem cells_take {w : World} {g off : Nat} {qs : List FdV} (h : ∀ j u, (flatF qs)[j]? = some u → w.cell? ⟨g, off + j, none⟩ = some u) (k : Nat) : ∀ j u, (flatF (qs.take k))[j]? = some u → w.cell? ⟨g, off + j, none⟩ = some u := by
  intro j u hj
  refine h j u ?_
  have e : flatF qs = flatF (qs.take k) ++ flatF (qs.drop k) := by rw [← flatF_append, List.take_append_drop]
  rw [e, List.getElem?_append_left (List.getElem?_eq_some_iff.1 hj).1]
  exact hj
theorem wpList_append_full {w : World} {ops : Array Oper} {rest : List Oper} {o : Oper} {a : Act} {Q : Exit → Act → World → Prop} (hgd : o.guard = none) (s x : Operand)
    (ho : o.op = .call { callee := .builtin .append, args := #[s, x], argTypes := #[75, 75] })
    (g off k : Nat) (hs : a.eval s = .slice (some ⟨g, off, none⟩) k k) (l : List FdV) (hk : l.length = k) (hl : ∀ j u, (flatF l)[j]? = some u → w.cell? ⟨g, off + j, none⟩ = some u) (y : FdV) (B c : Nat) (t : TypeId) (fr : Nat × Nat)
    (hx : a.eval x = .slice (some ⟨B, 0, none⟩) 1 c) (hblk : w.heap[B]? = some (.cells #[.string ⟨y.1.key.toArray⟩, .string ⟨y.1.text.toArray⟩, y.2, .bool y.1.isl] t fr)) (hlen : k + 1 ≤ 2097152) (H : Nat) (hH : w.heap.size = H)
    (h : ∀ cap w', Fields w' H (.slice (some ⟨H, 0, none⟩) (k + 1) cap) (l ++ [y]) → Below w.heap.size w w' → wpList Try.prog ops Q rest (a.put o.dst (.slice (some ⟨H, 0, none⟩) (k + 1) cap)) w') : wpList Try.prog ops Q (o :: rest) a w := by
  subst hk
  subst hH
  refine wpList_plain hgd fun _ hK => ?_
  obtain ⟨cap, w', hr, h2, h3⟩ := run_append_full w o.type g off l hl y B c t fr hblk hlen
  unfold Oper.wp execOp
  simp only [ho, resolve, invoke, builtin, Sem.run_bind, Sem.run_pure, Result.andThen_ok, List.map_toArray, List.map_cons, List.map_nil, hs, hx, hr]
  exact hK _ _ (h cap w' h2 h3)
set_option maxRecDepth 100000 in
theorem wpList_append_rest {w : World} {ops : Array Oper} {rest : List Oper} {o : Oper} {a : Act} {Q : Exit → Act → World → Prop} (hgd : o.guard = none) (s x : Operand)
    (ho : o.op = .call { callee := .builtin .append, args := #[s, x], argTypes := #[75, 75] })
    (base : Nat) (v : Value) (l : List FdV) (hs : a.eval s = v) (hown : Fields w base v l) (g off n c : Nat) (hx : a.eval x = .slice (some ⟨g, off, none⟩) n c) (m : List FdV) (hn : m.length = n) (hm : ∀ j u, (flatF m)[j]? = some u → w.cell? ⟨g, off + j, none⟩ = some u) (h1 : ∀ q ∈ m, q.2.oneCell' = true)
    (hlen : l.length + n ≤ 2097152) (hbase : base ≤ w.heap.size)
    (h : ∀ v' w', Fields w' base v' (l ++ m) → w.grownBy w' v.ownBlock → wpList Try.prog ops Q rest (a.put o.dst v') w') : wpList Try.prog ops Q (o :: rest) a w := by
  subst hn
  refine wpList_plain hgd fun _ hK => ?_
  obtain ⟨i0, hi, hz0, hz1, hz2⟩ := info_parts fdinfo
  have hadd : ∀ j, (⟨g, off, none⟩ : Addr).add j = ⟨g, off + j, none⟩ := fun j => by unfold Addr.add; split <;> simp_all
  obtain ⟨v', w', hr, h2, h3, _⟩ := run_append_own (P := Try.prog) w base 75 o.type 35 i0 (.agg #[.string ⟨#[]⟩, .string ⟨#[]⟩, .slice none 0 0, .bool false]) 4 64 Try.underlying75 hi hz0 hz1 hz2 rfl (by decide) v l.length (flatF l) hown
    ⟨g, off, none⟩ m.length c (flatF m) (flatF_len m) (fun j u hj => by rw [hadd]; exact hm j u hj) (flatF_one h1) (by unfold maxLen; omega) (by omega) hbase
  unfold Oper.wp execOp
  simp only [ho, resolve, invoke, builtin, Sem.run_bind, Sem.run_pure, Result.andThen_ok, List.map_toArray, List.map_cons, List.map_nil, hs, hx, hr]
  refine hK _ _ (h v' w' ?_ h3)
  unfold Fields
  rw [List.length_append, flatF_append]
  exact h2

set_option maxRecDepth 100000 in
set_option maxHeartbeats 4000000 in
theorem withFields_any (g off ca k : Nat) (fs : List Fd) (f : Fd) (B : Option Addr) (cb : Nat) (w : World) (hr : RdFs w (.slice (some ⟨g, off, none⟩) fs.length ca) fs) (hca : fs.length ≤ ca) (hl : fs.length ≤ 1048576) (hk : k ≤ fs.length) (hf : RdS w (.slice B f.list.length cb) f.list) :
    Calls Try.prog 45 #[.slice (some ⟨g, off, none⟩) fs.length ca, .int .i64 k, fdV f (.slice B f.list.length cb)] w fun e w' => ∃ u, e = .returned u ∧ RdFs w' u (fs.take k ++ [f] ++ fs.drop (k + 1)) ∧ Below w.heap.size w w' := by
  obtain ⟨qs, hqs, hq, hqr⟩ := rows_of (w := w) (g := g) fs off (fun j hj => by
    obtain ⟨g', off', e, _, h⟩ := hr.at j hj
    simp only [Option.some.injEq, Addr.mk.injEq] at e
    obtain ⟨rfl, rfl, _⟩ := e
    exact h)
  have hql : qs.length = fs.length := by rw [← hqs]; simp
  have B0 : Below w.heap.size w (w.alloc (.cells #[.string ⟨f.key.toArray⟩, .string ⟨f.text.toArray⟩, .slice B f.list.length cb, .bool f.isl] 35)) := (Below.refl _ _).alloc (Nat.le_refl _) _
  have b0 := heap_alloc_new w (.cells #[.string ⟨f.key.toArray⟩, .string ⟨f.text.toArray⟩, .slice B f.list.length cb, .bool f.isl] 35)
  have k0 : (0 : Int) ≤ (k : Int) := by omega
  have k1 : (k : Int) ≤ (ca : Int) := by omega
  have k2 : (k : Int) ≤ (fs.length : Int) := by omega
  have k3 : (fs.length : Int) ≤ (ca : Int) := by omega
  obtain ⟨lo, hlo⟩ : ∃ lo : Nat, lo = min (k + 1) fs.length := ⟨_, rfl⟩
  have hmin : min ((k : Int) + 1) (fs.length : Int) = (lo : Int) := by omega
  have l0 : (0 : Int) ≤ (lo : Int) := by omega
  have l1 : (lo : Int) ≤ (fs.length : Int) := by omega
  have l2 : (lo : Int) ≤ (ca : Int) := by omega
  have HLO := Lib.hid hlo
  have HQ := Lib.hid hq
  have HQR := Lib.hid hqr
  have HF := Lib.hid hf
  have HQS := Lib.hid hqs
  have HQL := Lib.hid hql
  clear hr hf hq hqr hqs hlo hql
  unfold fdV
  go_enter Try.func45, Try.ntmps45
  go_wp2_with fail
  generalize w.alloc (.cells #[.string ⟨f.key.toArray⟩, .string ⟨f.text.toArray⟩, .slice B f.list.length cb, .bool f.isl] 35) = W0 at B0 b0 ⊢
  obtain ⟨x0, x1, x2, x3⟩ := cells4 b0
  have BA : Below w.heap.size w (W0.alloc (.cells #[.string ⟨f.key.toArray⟩, .string ⟨f.text.toArray⟩, .slice B f.list.length cb, .bool f.isl] 35)).drew := (B0.alloc B0.size _).trans (below_drewN _ _ 1)
  have hBL : (W0.alloc (.cells #[.string ⟨f.key.toArray⟩, .string ⟨f.text.toArray⟩, .slice B f.list.length cb, .bool f.isl] 35)).drew.heap[W0.heap.size]? = some (.cells #[.string ⟨f.key.toArray⟩, .string ⟨f.text.toArray⟩, .slice B f.list.length cb, .bool f.isl] 35) := heap_alloc_new W0 _
  have HTL := Lib.hid (show (qs.take k).length = k by rw [List.length_take, HQL.out]; omega)
  have HDL := Lib.hid (show (qs.drop lo).length = fs.length - lo by rw [List.length_drop, HQL.out])
  have HWS : Hid ((W0.alloc (.cells #[.string ⟨f.key.toArray⟩, .string ⟨f.text.toArray⟩, .slice B f.list.length cb, .bool f.isl] 35)).drew.heap.size = W0.heap.size + 1) := Lib.hid (by simp)
  have HLN := Lib.hid (show (qs.take k ++ [(f, Value.slice B f.list.length cb)]).length + (fs.length - lo) ≤ 2097152 by rw [List.length_append, HTL.out]; simp; omega)
  have HT := Lib.hid (fun (W : World) (h : Below w.heap.size w W) j u (hj : (flatF (qs.take k))[j]? = some u) => keepC h (cells_take HQ.out k j u hj))
  have HD := Lib.hid (fun (W : World) (h : Below w.heap.size w W) j u (hj : (flatF (qs.drop lo))[j]? = some u) => keepC h (cells_drop HQ.out lo (by rw [HQL.out]; omega) j u hj))
  have HON := Lib.hid (show ∀ q ∈ qs.drop lo, q.2.oneCell' = true from fun q hq => (HQR.out q (List.mem_of_mem_drop hq)).one)
  have HALL := Lib.hid (show ∀ W, Below w.heap.size w W → ∀ q ∈ qs.take k ++ [(f, Value.slice B f.list.length cb)] ++ qs.drop lo, RdS W q.2 q.1.list from fun W h q hq => by
    rcases List.mem_append.1 hq with hq | hq
    · rcases List.mem_append.1 hq with hq | hq
      · exact (HQR.out q (List.mem_of_mem_take hq)).below h
      · simp at hq; subst hq; exact HF.out.below h
    · exact (HQR.out q (List.mem_of_mem_drop hq)).below h)
  have HRE := Lib.hid (show (qs.take k ++ [(f, Value.slice B f.list.length cb)] ++ qs.drop lo).map (·.1) = fs.take k ++ [f] ++ fs.drop (k + 1) by
    rw [List.map_append, List.map_append, List.map_take, List.map_drop, HQS.out]
    congr 1
    rw [HLO.out]
    by_cases h : k + 1 ≤ fs.length
    · rw [Nat.min_eq_left h]
    · rw [Nat.min_eq_right (by omega), List.drop_eq_nil_of_le (Nat.le_refl _), List.drop_eq_nil_of_le (by omega)])
  by_cases hcl : ca = lo
  · have HD0 := Lib.hid (show ∀ W, Below w.heap.size w W → ∀ j u, (flatF (qs.drop lo))[j]? = some u → W.cell? ⟨g, off + j, none⟩ = some u from fun W _ j u hj => by
      rw [List.drop_eq_nil_of_le (by rw [HQL.out]; omega)] at hj; simp [flatF] at hj)
    go_region
    go_wp2_with (first | (at_builtin; refine wpList_append_full rfl _ _ rfl g off k rfl (qs.take k) HTL.out (HT.out _ BA) (f, .slice B f.list.length cb) W0.heap.size _ _ _ rfl hBL (by omega) (W0.heap.size + 1) HWS.out ?_; intro c1 w1 hF1 hb1) | (at_builtin; refine wpList_append_rest rfl _ _ rfl _ _ (qs.take k ++ [(f, Value.slice B f.list.length cb)]) rfl hF1 g off (fs.length - lo) _ rfl (qs.drop lo) HDL.out (HD0.out _ (BA.trans (hb1.mono BA.size))) HON.out HLN.out (by rw [← HWS.out]; exact hb1.size) ?_; intro v2 w2 hF2 hg2))
    go_ret
    have B2 := gr_belowN (BA.trans (hb1.mono BA.size)) hg2 (BA.trans (hb1.mono BA.size)).size (fun g hg => by have h1 := hF1.owned g hg; have h2 := BA.size; have h3 := HWS.out; omega)
    exact ⟨_, rfl, by rw [← HRE.out]; exact hF2.rd (HALL.out _ B2), B2⟩
  · go_region
    go_wp2_with (first | (at_builtin; refine wpList_append_full rfl _ _ rfl g off k rfl (qs.take k) HTL.out (HT.out _ BA) (f, .slice B f.list.length cb) W0.heap.size _ _ _ rfl hBL (by omega) (W0.heap.size + 1) HWS.out ?_; intro c1 w1 hF1 hb1) | (at_builtin; refine wpList_append_rest rfl _ _ rfl _ _ (qs.take k ++ [(f, Value.slice B f.list.length cb)]) rfl hF1 g (off + lo * 4) (fs.length - lo) _ rfl (qs.drop lo) HDL.out (HD.out _ (BA.trans (hb1.mono BA.size))) HON.out HLN.out (by rw [← HWS.out]; exact hb1.size) ?_; intro v2 w2 hF2 hg2))
    go_ret
    have B2 := gr_belowN (BA.trans (hb1.mono BA.size)) hg2 (BA.trans (hb1.mono BA.size)).size (fun g hg => by have h1 := hF1.owned g hg; have h2 := BA.size; have h3 := HWS.out; omega)
    exact ⟨_, rfl, by rw [← HRE.out]; exact hF2.rd (HALL.out _ B2), B2⟩
end Go.Proofs.Ytongpnknmgbhjaa
