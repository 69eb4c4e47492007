/-
  Rows of fields of the call's own whose lists lie apart from each other; impl.listOf.copied makes such a row.
-/
import Derived.Test.YtongpnknmgbhjaaFdCp
namespace Go.Proofs.Ytongpnknmgbhjaa
open Go.RowKit

def Dj (qs : List FdV) : Prop := qs.Pairwise (fun a b => ∀ g, a.2.ownBlock = some g → b.2.ownBlock ≠ some g)
/-- A row of fields from base on whose lists lie from base on, in other blocks than its own and each other's. -/
def FsD (w : World) (base : Nat) (v : Value) (fs : List Fd) : Prop := ∃ qs : List FdV, qs.map (·.1) = fs ∧ Fields w base v qs ∧ (∀ q ∈ qs, Strs w base q.2 q.1.list ∧ ∀ g, q.2.ownBlock = some g → v.ownBlock ≠ some g) ∧ Dj qs
theorem FsD.row {w : World} {base : Nat} {v : Value} {fs : List Fd} (h : FsD w base v fs) : FsRow w base v fs := by obtain ⟨qs, h1, h2, h3, _⟩ := h; exact ⟨qs, h1, h2, h3⟩
theorem FsD.below {w w' : World} {base : Nat} {v : Value} {fs : List Fd} (h : FsD w base v fs) (hb : Below w.heap.size w w') : FsD w' base v fs := by
  obtain ⟨qs, h1, h2, h3, h4⟩ := h
  exact ⟨qs, h1, h2.belowV hb, fun q hq => ⟨(h3 q hq).1.below hb, (h3 q hq).2⟩, h4⟩
theorem FsD.far {w : World} {base : Nat} {v : Value} {fs : List Fd} (h : FsD w base v fs) (b o : Nat) (x : Value) (hb : b < base) : FsD (w.setCell ⟨b, o, none⟩ x) base v fs := by
  obtain ⟨qs, h1, h2, h3, h4⟩ := h
  exact ⟨qs, h1, h2.setFar b o x (fun g hg => by have := h2.owned g hg; omega), fun q hq => ⟨(h3 q hq).1.otherV b o x hb, (h3 q hq).2⟩, h4⟩
theorem FsD.owned {w : World} {base : Nat} {v : Value} {fs : List Fd} (h : FsD w base v fs) : ∀ g, v.ownBlock = some g → base ≤ g := h.row.owned
theorem FsD.lt {w : World} {base : Nat} {v : Value} {fs : List Fd} (h : FsD w base v fs) : ∀ g, v.ownBlock = some g → g < w.heap.size := h.row.lt
theorem FsD.slice {w : World} {base : Nat} {v : Value} {fs : List Fd} (h : FsD w base v fs) : ∃ K c, v = .slice K fs.length c := h.row.slice
theorem FsD.rd {w : World} {base : Nat} {v : Value} {fs : List Fd} (h : FsD w base v fs) : RdFs w v fs := h.row.rd
theorem FsD.weaken {w : World} {base base' : Nat} {v : Value} {fs : List Fd} (h : FsD w base v fs) (hb : base' ≤ base) : FsD w base' v fs := by
  obtain ⟨qs, h1, h2, h3, h4⟩ := h
  refine ⟨qs, h1, ⟨h2.1, ?_⟩, fun q hq => ⟨(h3 q hq).1.weaken hb, (h3 q hq).2⟩, h4⟩
  rcases h2.2 with h | ⟨g, cap, cur, hv, hg, hh, hr⟩
  · exact .inl h
  · exact .inr ⟨g, cap, cur, hv, Nat.le_trans hb hg, hh, hr⟩
/-- append(row, f), the field's list new since the world W0. -/
theorem wpList_append_fdD {w : World} {ops : Array Oper} {rest : List Oper} {o : Oper} {a : Act} {Q : Exit → Act → World → Prop} (hgd : o.guard = none) (s x : Operand)
    (ho : o.op = .call { callee := .builtin .append, args := #[s, x], argTypes := #[75, 75] })
    (base : Nat) (v : Value) (fs : List Fd) (hs : a.eval s = v) (W0 : World) (hown : FsD W0 base v fs) (hW : Below W0.heap.size W0 w) (f : Fd) (u : Value) (hu : Strs w base u f.list) (hne : ∀ g, u.ownBlock = some g → v.ownBlock ≠ some g) (hfr : ∀ g, u.ownBlock = some g → W0.heap.size ≤ g) (B c : Nat) (t : TypeId) (fr : Nat × Nat)
    (hx : a.eval x = .slice (some ⟨B, 0, none⟩) 1 c) (hblk : w.heap[B]? = some (.cells #[.string ⟨f.key.toArray⟩, .string ⟨f.text.toArray⟩, u, .bool f.isl] t fr)) (hlen : fs.length + 1 ≤ 16777216) (hbase : base ≤ w.heap.size)
    (h : ∀ g cap w', FsD w' base (.slice (some ⟨g, 0, none⟩) (fs.length + 1) cap) (fs ++ [f]) → w.grownBy w' v.ownBlock → (v.ownBlock = some g ∨ g = w.heap.size) → wpList Try.prog ops Q rest (a.put o.dst (.slice (some ⟨g, 0, none⟩) (fs.length + 1) cap)) w') : wpList Try.prog ops Q (o :: rest) a w := by
  refine wpList_plain hgd fun _ hK => ?_
  obtain ⟨qs, rfl, h4, h5, h6⟩ := hown
  simp only [List.length_map] at hlen h
  obtain ⟨g, cap, w', hr, k1, k2, k3⟩ := run_append_fieldsL w o.type base v qs (h4.belowV hW) (f, u) (fdV_one w base u f.list hu) B c t fr hblk hlen hbase
  unfold Oper.wp execOp
  simp only [ho, resolve, invoke, builtin, Sem.run_bind, Sem.run_pure, Result.andThen_ok, List.map_toArray, List.map_cons, List.map_nil, hs, hx, hr]
  have h5' : ∀ q ∈ qs, Strs w base q.2 q.1.list ∧ ∀ g, q.2.ownBlock = some g → v.ownBlock ≠ some g := fun q hq => ⟨(h5 q hq).1.below hW, (h5 q hq).2⟩
  have lie : ∀ (y : Value) (ls : List (List UInt8)), Strs w base y ls → (∀ g', y.ownBlock = some g' → v.ownBlock ≠ some g') → Strs w' base y ls ∧ ∀ g', y.ownBlock = some g' → (Value.slice (some ⟨g, 0, none⟩) (qs.length + 1) cap).ownBlock ≠ some g' := fun y ls hy hd => by
    refine ⟨hy.grown k2 (fun g' hg e => hd g' hg e.symm), fun g' hg e => ?_⟩
    have eg : g = g' := by simpa [Value.ownBlock] using e
    subst eg
    rcases k3 with k3 | k3
    · exact hd g hg k3
    · have := hy.block_lt g hg
      omega
  refine hK _ _ (h g cap w' ⟨qs ++ [(f, u)], by simp, k1, fun q hq => ?_, ?_⟩ k2 k3)
  · rcases List.mem_append.1 hq with hq | hq
    · exact lie _ _ (h5' q hq).1 (h5' q hq).2
    · simp at hq; subst hq
      exact lie _ _ hu hne
  · unfold Dj
    rw [List.pairwise_append]
    refine ⟨h6, by simp, fun q hq z hz g1 hg1 e => ?_⟩
    simp at hz; subst hz
    have h1 := (h5 q hq).1.block_lt g1 hg1
    have h2 := hfr g1 e
    omega

set_option maxRecDepth 100000 in
set_option maxHeartbeats 4000000 in
theorem copiedFieldsD_any (v : Value) (fs : List Fd) (w : World) (hr : RdFs w v fs) (hl : fs.length ≤ 1048577) (hs : ∀ f ∈ fs, SmFd f) :
    Calls Try.prog 47 #[v, .func (.func 48) #[] #[]] w fun e w' => ∃ u, e = .returned u ∧ FsD w' w.heap.size u fs ∧ Below w.heap.size w w' := by
  obtain ⟨i0, hi, hz0, hz1, hz2⟩ := info_parts fdinfo
  have HR := Lib.hid hr
  obtain ⟨A, ca, rfl, _⟩ := hr
  go_enter Try.func47, Try.ntmps47
  go_wp2_with (at_make; refine wpList_make_own _ rfl _ _ 75 rfl w.heap.size 35 i0 (.agg #[.string ⟨#[]⟩, .string ⟨#[]⟩, .slice none 0 0, .bool false]) 4 Try.underlying75 hi hz0 hz1 .i64 .i64 _ fs.length rfl rfl (by omega) (by rw [hz2]; omega) (by unfold maxLen; omega) (Nat.le_refl _) ?_; intro w1 hown1 hg1)
  have hb1 : Below w.heap.size w w1 := (Below.refl _ _).grown hg1 (Nat.le_refl _) (by simp)
  have hS1 : FsD w1 w.heap.size (.slice (some ⟨w.heap.size, 0, none⟩) 0 fs.length) [] := ⟨[], rfl, hown1, (fun q h => by cases h), List.Pairwise.nil⟩
  clear hown1 hg1 hi hz0 hz1 hz2
  go_loopw [5, 7, 13] (fun u _ i wr => ∃ k : Nat, k ≤ fs.length ∧ i = .int .i64 k ∧ FsD wr w.heap.size u (fs.take k) ∧ Below w.heap.size w wr) (fun _ _ i _ => fs.length - (intOf i).toNat)
  case atStart => exact ⟨0, Nat.zero_le _, rfl, hS1, hb1⟩
  case round =>
    obtain ⟨k, hk, rfl, hO, hb⟩ := hrel
    clear hS1 hb1
    by_cases hlt : k < fs.length
    · obtain ⟨g, off, rfl, hg, a, d0, d1, d2, d3, ra⟩ := (HR.out.below hb).at k hlt
      have HK := Lib.hid (fun (W : World) (h : Below wr.heap.size wr W) => copyField_any fs[k] a W (ra.below h) (hs _ (List.getElem_mem hlt)))
      obtain ⟨A1, c1, rfl⟩ := ra.slice
      have HN := Lib.hid (show fs.take (k + 1) = fs.take k ++ [fs[k]] by rw [List.take_succ_eq_append_getElem hlt])
      have hll : Hid ((fs.take k).length + 1 ≤ 16777216) := Lib.hid (by simp; omega)
      have hlen : Hid ((fs.take k).length = k) := Lib.hid (by simp; omega)
      have k0 : (0 : Int) ≤ (k : Int) := by omega
      have k1 : (k : Int) < (fs.length : Int) := by omega
      have Bp : Below wr.heap.size wr (wr.alloc (.cells #[.string ⟨fs[k].key.toArray⟩, .string ⟨fs[k].text.toArray⟩, .slice A1 fs[k].list.length c1, .bool fs[k].isl] 35)) := (Below.refl _ _).alloc (Nat.le_refl _) _
      generalize fs[k] = fd at d0 d1 d2 d3 ra HK HN Bp
      generalize fs.take k = ks at hO HN hll hlen
      have HLT := Lib.hid hO.lt
      have HOW := Lib.hid hO.owned
      unfold fdV at HK
      clear ra
      go_wp2_with fail
      refine (HK.out _ Bp).mono ?_
      rintro e w2 ⟨uu, rfl, hU, hb2⟩
      have hFR : ∀ g, uu.ownBlock = some g → wr.heap.size ≤ g := fun g hg => Nat.le_trans Bp.size (hU.owned g hg)
      have B2 := Bp.trans (hb2.mono Bp.size)
      have C2 := hb.trans (B2.mono hb.size)
      have hSB := hU.weaken (base' := w.heap.size) (hb.trans (Bp.mono hb.size)).size
      obtain ⟨K, kc, rfl⟩ := hO.slice
      have hNU : ∀ g, uu.ownBlock = some g → (Value.slice K ks.length kc).ownBlock ≠ some g := fun g hg e => by
        have h1 := HLT.out g e
        have h2 := hU.owned g hg
        have h3 := Bp.size
        omega
      obtain ⟨U, uc, rfl⟩ := hU.slice
      have z2 : w.heap.size ≤ w2.heap.size := C2.size
      have BQ := (Below.refl w2.heap.size w2).alloc (Nat.le_refl _) (.cells #[.string ⟨fd.key.toArray⟩, .string ⟨fd.text.toArray⟩, .slice U fd.list.length uc, .bool fd.isl] 35)
      have CQ := B2.trans (BQ.mono B2.size)
      have HO := hO
      have U3 := hSB.below BQ
      have C3 := C2.trans (BQ.mono C2.size)
      clear hU hO hSB hb2 Bp
      go_wp2_with (at_builtin; refine wpList_append_fdD rfl _ _ rfl w.heap.size _ _ rfl wr HO CQ fd _ U3 hNU hFR w2.heap.size _ _ _ rfl (heap_alloc_new w2 _) hll.out (by simp; omega) ?_; intro g4 c4 w4 hS4 hg4 hl4)
      have B4 := gr_belowN C3 hg4 C3.size (fun g hg => HOW.out g hg)
      go_roundw
      case rel => exact ⟨k + 1, by omega, by go_num, by rw [HN.out]; exact hS4, B4⟩
      case measure => simp [intOf]; omega
    · rw [List.take_of_length_le (by omega)] at hO
      go_wp2_with fail
      go_ret
      exact ⟨_, rfl, hO, hb⟩
end Go.Proofs.Ytongpnknmgbhjaa
