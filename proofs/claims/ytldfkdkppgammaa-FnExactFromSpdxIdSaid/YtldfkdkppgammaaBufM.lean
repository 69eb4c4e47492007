/-
  A byte buffer of the call's own that may be the marked row of a constant text: what it holds, appended to.
-/
import Derived.Test.YtldfkdkppgammaaBytesStr
import Derived.ArgAppend
import Derived.Lib.SlBytesConst
namespace Go.Proofs.Ytldfkdkppgammaa
open Go.RowKit

/-- The value v owns the bytes l, or is a full row of them. -/
def BufM (w : World) (base : Nat) (v : Value) (l : List UInt8) : Prop := Buf w base v l ∨ ∃ g, v = .slice (some ⟨g, 0, none⟩) l.length l.length ∧ base ≤ g ∧ g < w.heap.size ∧ ∀ j u, (l.map bv)[j]? = some u → w.cell? ⟨g, j, none⟩ = some u
theorem addr_add (g j : Nat) : (⟨g, 0, none⟩ : Addr).add j = ⟨g, j, none⟩ := by unfold Addr.add; split <;> simp_all
theorem BufM.below {w w' : World} {base : Nat} {v : Value} {l : List UInt8} (h : BufM w base v l) (hb : Below w.heap.size w w') : BufM w' base v l := by
  rcases h with h | ⟨g, rfl, hg, hl, hc⟩
  · exact .inl (h.below hb)
  · exact .inr ⟨g, rfl, hg, Nat.lt_of_lt_of_le hl hb.size, fun j u hu => (hb.cell (p := ⟨g, j, none⟩) hl).trans (hc j u hu)⟩
theorem BufM.alloc {w : World} {base : Nat} {v : Value} {l : List UInt8} (h : BufM w base v l) (o : Obj) : BufM (w.alloc o) base v l := h.below ((Below.refl _ _).alloc (Nat.le_refl _) _)
theorem BufM.conv {w : World} {base : Nat} {v : Value} {l : List UInt8} (h : BufM w base v l) : (convert 59 9 v).run Try.prog w = .ok (.string ⟨l.toArray⟩) w := by
  rcases h with h | ⟨g, rfl, hg, hl, hc⟩
  · exact h.conv
  · refine run_convert_bytes_back w 59 9 5 ⟨g, 0, none⟩ _ l Try.underlying59 Try.underlying5 Try.underlying9 ?_
    intro j hj
    rw [addr_add]
    exact hc j _ (by simp [bv, hj])
theorem BufM.marked (w : World) (base : Nat) (l : List UInt8) (hb : base ≤ w.heap.size) (f : Nat × Nat) : BufM (w.alloc (.cells (l.map bv).toArray 5 f)) base (.slice (some ⟨w.heap.size, 0, none⟩) l.length l.length) l := by
  refine .inr ⟨w.heap.size, rfl, hb, by simp, fun j u hu => ?_⟩
  have : (w.alloc (.cells (l.map bv).toArray 5 f)).heap[w.heap.size]? = some (.cells (l.map bv).toArray 5 f) := heap_alloc_new w _
  simp only [World.cell?, this]
  simpa using hu

theorem run_append_bufM (w : World) (ty : TypeId) (base : Nat) (v : Value) (l : List UInt8) (hown : BufM w base v l) (ns : List UInt8) (B c : Nat) (cs : Array Value) (t : TypeId) (fr : Nat × Nat)
    (hblk : w.heap[B]? = some (.cells cs t fr)) (hcs : cs.toList = ns.map bv) (hm : 0 < ns.length) (hlen : l.length + ns.length ≤ 16777216) (hbase : base ≤ w.heap.size) :
    ∃ v' w', (Builtin.append_ #[59, 59] ty #[v, .slice (some ⟨B, 0, none⟩) ns.length c]).run Try.prog w = .ok v' w' ∧ Buf w' base v' (l ++ ns) ∧ Below base w w' := by
  rcases hown with h | ⟨g, rfl, hg, hl, hc⟩
  · exact run_append_buf w ty base v l h ns B c cs t fr hblk hcs hm hlen hbase
  · obtain ⟨i0, hi, hz0, hz1, hz2⟩ := info_parts u8info
    obtain ⟨v', w', hr, h2, h3⟩ := run_append_arg_grows (P := Try.prog) w 59 ty 5 i0 (.int .u8 0) 1 1 Try.underlying59 hi hz0 hz1 hz2 rfl (by decide) ⟨g, 0, none⟩ l.length l.length (l.map bv) (by simp) (fun j u hu => by rw [addr_add]; exact hc j u hu)
      ⟨B, 0, none⟩ ns.length c (ns.map bv) (by simp) (by rw [← hcs]; exact World.news_of_block hblk) (by omega) (by unfold maxLen; omega) (by omega)
    refine ⟨v', w', hr, ?_, (Below.refl base w).grown h3 hbase (by simp)⟩
    unfold Buf
    rw [List.length_append, List.map_append]
    exact ⟨h2.1, h2.2.elim Or.inl (fun ⟨g', cap, cur, hv, hg', r⟩ => Or.inr ⟨g', cap, cur, hv, Nat.le_trans hbase hg', r⟩)⟩

/-- append(out, bytes) at a plain region's list. -/
theorem wpList_append_bufM {w : World} {ops : Array Oper} {rest : List Oper} {o : Oper} {a : Act} {Q : Exit → Act → World → Prop} (hgd : o.guard = none) (s x : Operand)
    (ho : o.op = .call { callee := .builtin .append, args := #[s, x], argTypes := #[59, 59] })
    (base : Nat) (v : Value) (l : List UInt8) (hs : a.eval s = v) (hown : BufM w base v l) (ns : List UInt8) (B m c : Nat) (cs : Array Value) (t : TypeId) (fr : Nat × Nat)
    (hx : a.eval x = .slice (some ⟨B, 0, none⟩) m c) (hmm : ns.length = m) (hblk : w.heap[B]? = some (.cells cs t fr)) (hcs : cs.toList = ns.map bv) (hm : 0 < ns.length) (hlen : l.length + ns.length ≤ 16777216) (hbase : base ≤ w.heap.size)
    (h : ∀ v' w', Buf w' base v' (l ++ ns) → Below base w w' → wpList Try.prog ops Q rest (a.put o.dst v') w') : wpList Try.prog ops Q (o :: rest) a w := by
  subst hmm
  refine wpList_plain hgd fun _ hK => ?_
  obtain ⟨v', w', hr, h2, h3⟩ := run_append_bufM w o.type base v l hown ns B c cs t fr hblk hcs hm hlen hbase
  unfold Oper.wp execOp
  simp only [ho, resolve, invoke, builtin, Sem.run_bind, Sem.run_pure, Result.andThen_ok, List.map_toArray, List.map_cons, List.map_nil, hs, hx, hr]
  exact hK _ _ (h v' w' h2 h3)

theorem strCells_bv (ns : List UInt8) : Lib.strCells ⟨ns.toArray⟩ = ns.map bv := by
  unfold Lib.strCells; simp; intro a _; rfl

theorem run_append_bufM_str (w : World) (ty : TypeId) (base : Nat) (v : Value) (l : List UInt8) (hown : BufM w base v l) (ns : List UInt8) (hm : 0 < ns.length) (hlen : l.length + ns.length ≤ 16777216) (hbase : base ≤ w.heap.size) :
    ∃ v' w', (Builtin.append_ #[59, 9] ty #[v, .string ⟨ns.toArray⟩]).run Try.prog w = .ok v' w' ∧ Buf w' base v' (l ++ ns) ∧ Below base w w' := by
  obtain ⟨i0, hi, hz0, hz1, hz2⟩ := info_parts u8info
  have hsz : (⟨ns.toArray⟩ : ByteArray).size = ns.length := by show ns.toArray.size = _; simp
  rcases hown with h | ⟨g, rfl, hg, hl, hc⟩
  · obtain ⟨v', w', hr, h2, h3, _⟩ := Lib.run_append_own_string (P := Try.prog) w base 59 9 ty 5 i0 Try.underlying59 Try.underlying9 hi hz0 hz1 hz2 v l.length (l.map bv) h ⟨ns.toArray⟩ (by rw [hsz]; unfold maxLen; omega) (by rw [hsz]; omega) hbase
    refine ⟨v', w', hr, ?_, (Below.refl base w).grown h3 hbase h.owned⟩
    unfold Buf
    rw [hsz, strCells_bv] at h2
    rw [List.length_append, List.map_append]
    exact h2
  · have hr := Lib.run_append_grow_string (P := Try.prog) w 59 9 ty 5 i0 (.int .u8 0) Try.underlying59 Try.underlying9 hi hz0 ⟨g, 0, none⟩ l.length l.length (l.map bv) (by rw [hz1]; simp) (fun j u hu => by rw [addr_add]; exact hc j u hu) ⟨ns.toArray⟩ (by rw [hsz]; omega) (by rw [hsz]; omega) (by rw [hz2, hsz]; exact growslice_fits (by omega) (by omega))
    refine ⟨_, _, hr, ?_, ⟨rfl, rfl, rfl, by simp, fun k hk => heap_alloc_old w.drew _ (Nat.lt_of_lt_of_le hk hbase)⟩⟩
    unfold Buf
    rw [hsz, strCells_bv, List.length_append, List.map_append]
    have hge := grownCap_ge w (l.length + ns.length) l.length 5
    have hcm : grownCap w (l.length + ns.length) l.length 5 ≤ maxLen := grownCap_le_maxLen w (l.length + ns.length) l.length 5 (by unfold maxLen; omega)
    refine ⟨by simp, .inr ⟨w.heap.size, _, _, rfl, hbase, heap_alloc_new w.drew _, hge, hcm, ?_, ?_⟩⟩
    · have hz1' : (Value.int IntKind.u8 0).cells.size = 1 := rfl
      simp only [Array.size_append, List.size_toArray, size_zeroCells, hz1', List.length_map]
      omega
    · simp only [Array.toList_append, List.append_assoc]
      rw [← List.append_assoc]
      have : (l.length + ns.length) * 1 = (l.map bv ++ ns.map bv).length := by simp
      rw [this]
      exact List.take_left

theorem wpList_append_bufM_str {w : World} {ops : Array Oper} {rest : List Oper} {o : Oper} {a : Act} {Q : Exit → Act → World → Prop} (hgd : o.guard = none) (s x : Operand)
    (ho : o.op = .call { callee := .builtin .append, args := #[s, x], argTypes := #[59, 9] })
    (base : Nat) (v : Value) (l : List UInt8) (hs : a.eval s = v) (hown : BufM w base v l) (ns : List UInt8) (hx : a.eval x = .string ⟨ns.toArray⟩) (hm : 0 < ns.length) (hlen : l.length + ns.length ≤ 16777216) (hbase : base ≤ w.heap.size)
    (h : ∀ v' w', Buf w' base v' (l ++ ns) → Below base w w' → wpList Try.prog ops Q rest (a.put o.dst v') w') : wpList Try.prog ops Q (o :: rest) a w := by
  refine wpList_plain hgd fun _ hK => ?_
  obtain ⟨v', w', hr, h2, h3⟩ := run_append_bufM_str w o.type base v l hown ns hm hlen hbase
  unfold Oper.wp execOp
  simp only [ho, resolve, invoke, builtin, Sem.run_bind, Sem.run_pure, Result.andThen_ok, List.map_toArray, List.map_cons, List.map_nil, hs, hx, hr]
  exact hK _ _ (h v' w' h2 h3)
end Go.Proofs.Ytldfkdkppgammaa
