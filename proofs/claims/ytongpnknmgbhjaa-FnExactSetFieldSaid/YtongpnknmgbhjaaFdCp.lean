/-
  impl.listOf.copied over fields: a row of its own.
-/
import Derived.Test.YtongpnknmgbhjaaSfM
import Derived.Test.YtongpnknmgbhjaaFdC
namespace Go.Proofs.Ytongpnknmgbhjaa
open Go.RowKit

set_option maxRecDepth 100000 in
theorem run_append_fieldsL (w : World) (ty : TypeId) (base : Nat) (v : Value) (l : List FdV) (hown : Fields w base v l) (x : FdV) (h1 : x.2.oneCell' = true) (B c : Nat) (t : TypeId) (fr : Nat × Nat)
    (hblk : w.heap[B]? = some (.cells #[.string ⟨x.1.key.toArray⟩, .string ⟨x.1.text.toArray⟩, x.2, .bool x.1.isl] t fr)) (hlen : l.length + 1 ≤ 16777216) (hbase : base ≤ w.heap.size) :
    ∃ g cap w', (Builtin.append_ #[75, 75] ty #[v, .slice (some ⟨B, 0, none⟩) 1 c]).run Try.prog w = .ok (.slice (some ⟨g, 0, none⟩) (l.length + 1) cap) w' ∧ Fields w' base (.slice (some ⟨g, 0, none⟩) (l.length + 1) cap) (l ++ [x]) ∧ w.grownBy w' v.ownBlock ∧ (v.ownBlock = some g ∨ g = w.heap.size) := by
  obtain ⟨i0, hi, hz0, hz1, hz2⟩ := info_parts fdinfo
  obtain ⟨g, cap, w', hr, h2, h3, h4, _⟩ := run_append_lies (P := Try.prog) w 75 ty base 35 i0 (.agg #[.string ⟨#[]⟩, .string ⟨#[]⟩, .slice none 0 0, .bool false]) 4 64 Try.underlying75 hi hz0 hz1 hz2 rfl (by decide) v l.length (flatF l) hown
    ⟨B, 0, none⟩ 1 c [.string ⟨x.1.key.toArray⟩, .string ⟨x.1.text.toArray⟩, x.2, .bool x.1.isl] (by simp) (World.news_of_block hblk) (by intro u hu; simp at hu; rcases hu with rfl | rfl | rfl | rfl <;> first | rfl | assumption) (by omega) (by unfold maxLen; omega) (by omega) hbase _ rfl
  refine ⟨g, cap, w', hr, ?_, h3, h4⟩
  unfold Fields
  rw [List.length_append, flatF_app]
  exact h2
theorem FsRow.appended {w w' : World} {base : Nat} {v : Value} {qs : List FdV} {f : Fd} {u : Value} {g cap : Nat} (h5 : ∀ q ∈ qs, Strs w base q.2 q.1.list ∧ ∀ g, q.2.ownBlock = some g → v.ownBlock ≠ some g) (hu : Strs w base u f.list) (hne : ∀ g, u.ownBlock = some g → v.ownBlock ≠ some g)
    (k1 : Fields w' base (.slice (some ⟨g, 0, none⟩) (qs.length + 1) cap) (qs ++ [(f, u)])) (k2 : w.grownBy w' v.ownBlock) (k3 : v.ownBlock = some g ∨ g = w.heap.size) : FsRow w' base (.slice (some ⟨g, 0, none⟩) (qs.length + 1) cap) (qs.map (·.1) ++ [f]) := by
  have lie : ∀ (y : Value) (ls : List (List UInt8)), Strs w base y ls → (∀ g', y.ownBlock = some g' → v.ownBlock ≠ some g') → Strs w' base y ls ∧ ∀ g', y.ownBlock = some g' → (Value.slice (some ⟨g, 0, none⟩) (qs.length + 1) cap).ownBlock ≠ some g' := fun y ls hy hd => by
    refine ⟨hy.grown k2 (fun g' hg e => hd g' hg e.symm), fun g' hg e => ?_⟩
    have eg : g = g' := by simpa [Value.ownBlock] using e
    subst eg
    rcases k3 with k3 | k3
    · exact hd g hg k3
    · rcases hy.form with ⟨rfl, _⟩ | ⟨g2, c2, rfl, _, hl2⟩
      · cases hg
      · have : g2 = g := by simpa [Value.ownBlock] using hg
        omega
  refine ⟨qs ++ [(f, u)], by simp, k1, fun q hq => ?_⟩
  rcases List.mem_append.1 hq with hq | hq
  · exact lie _ _ (h5 q hq).1 (h5 q hq).2
  · simp at hq; subst hq
    exact lie _ _ hu hne
/-- append(row, f) over the named list type, in a plain region. -/
theorem wpList_append_fdL {w : World} {ops : Array Oper} {rest : List Oper} {o : Oper} {a : Act} {Q : Exit → Act → World → Prop} (hgd : o.guard = none) (s x : Operand)
    (ho : o.op = .call { callee := .builtin .append, args := #[s, x], argTypes := #[75, 75] })
    (base : Nat) (v : Value) (fs : List Fd) (hs : a.eval s = v) (hown : FsRow w base v fs) (f : Fd) (u : Value) (hu : Strs w base u f.list) (hne : ∀ g, u.ownBlock = some g → v.ownBlock ≠ some g) (B c : Nat) (t : TypeId) (fr : Nat × Nat)
    (hx : a.eval x = .slice (some ⟨B, 0, none⟩) 1 c) (hblk : w.heap[B]? = some (.cells #[.string ⟨f.key.toArray⟩, .string ⟨f.text.toArray⟩, u, .bool f.isl] t fr)) (hlen : fs.length + 1 ≤ 16777216) (hbase : base ≤ w.heap.size)
    (h : ∀ g cap w', FsRow w' base (.slice (some ⟨g, 0, none⟩) (fs.length + 1) cap) (fs ++ [f]) → w.grownBy w' v.ownBlock → (v.ownBlock = some g ∨ g = w.heap.size) → wpList Try.prog ops Q rest (a.put o.dst (.slice (some ⟨g, 0, none⟩) (fs.length + 1) cap)) w') : wpList Try.prog ops Q (o :: rest) a w := by
  refine wpList_plain hgd fun _ hK => ?_
  obtain ⟨qs, rfl, h4, h5⟩ := hown
  simp only [List.length_map] at hlen h
  obtain ⟨g, cap, w', hr, k1, k2, k3⟩ := run_append_fieldsL w o.type base v qs h4 (f, u) (fdV_one w base u f.list hu) B c t fr hblk hlen hbase
  unfold Oper.wp execOp
  simp only [ho, resolve, invoke, builtin, Sem.run_bind, Sem.run_pure, Result.andThen_ok, List.map_toArray, List.map_cons, List.map_nil, hs, hx, hr]
  exact hK _ _ (h g cap w' (FsRow.appended h5 hu hne k1 k2 k3) k2 k3)

set_option maxRecDepth 100000 in
set_option maxHeartbeats 4000000 in
theorem copiedFields_any (v : Value) (fs : List Fd) (w : World) (hr : RdFs w v fs) (hl : fs.length ≤ 1048577) (hs : ∀ f ∈ fs, SmFd f) :
    Calls Try.prog 47 #[v, .func (.func 48) #[] #[]] w fun e w' => ∃ u, e = .returned u ∧ FsRow w' w.heap.size u fs ∧ Below w.heap.size w w' := by
  obtain ⟨i0, hi, hz0, hz1, hz2⟩ := info_parts fdinfo
  have HR := Lib.hid hr
  obtain ⟨A, ca, rfl, _⟩ := hr
  go_enter Try.func47, Try.ntmps47
  go_wp2_with (at_make; refine wpList_make_own _ rfl _ _ 75 rfl w.heap.size 35 i0 (.agg #[.string ⟨#[]⟩, .string ⟨#[]⟩, .slice none 0 0, .bool false]) 4 Try.underlying75 hi hz0 hz1 .i64 .i64 _ fs.length rfl rfl (by omega) (by rw [hz2]; omega) (by unfold maxLen; omega) (Nat.le_refl _) ?_; intro w1 hown1 hg1)
  have hb1 : Below w.heap.size w w1 := (Below.refl _ _).grown hg1 (Nat.le_refl _) (by simp)
  have hS1 : FsRow w1 w.heap.size (.slice (some ⟨w.heap.size, 0, none⟩) 0 fs.length) [] := ⟨[], rfl, hown1, fun q h => by cases h⟩
  clear hown1 hg1 hi hz0 hz1 hz2
  go_loopw [5, 7, 13] (fun u _ i wr => ∃ k : Nat, k ≤ fs.length ∧ i = .int .i64 k ∧ FsRow wr w.heap.size u (fs.take k) ∧ Below w.heap.size w wr) (fun _ _ i _ => fs.length - (intOf i).toNat)
  case atStart => exact ⟨0, Nat.zero_le _, rfl, hS1, hb1⟩
  case round =>
    obtain ⟨k, hk, rfl, hO, hb⟩ := hrel
    clear hS1 hb1
    by_cases hlt : k < fs.length
    · obtain ⟨g, off, rfl, hg, a, d0, d1, d2, d3, ra⟩ := (HR.out.below hb).at k hlt
      have HK := Lib.hid (fun (W : World) (h : Below wr.heap.size wr W) => copyField_any fs[k] a W (ra.below h) (hs _ (List.getElem_mem hlt)))
      obtain ⟨A1, c1, rfl⟩ := ra.slice
      have HN := Lib.hid (show fs.take (k + 1) = fs.take k ++ [fs[k]] by rw [List.take_succ_eq_append_getElem hlt])
      have hll : Hid ((fs.take k).length + 1 ≤ 16777216) := Lib.hid (by simp; omega)
      have hlen : Hid ((fs.take k).length = k) := Lib.hid (by simp; omega)
      have k0 : (0 : Int) ≤ (k : Int) := by omega
      have k1 : (k : Int) < (fs.length : Int) := by omega
      have Bp : Below wr.heap.size wr (wr.alloc (.cells #[.string ⟨fs[k].key.toArray⟩, .string ⟨fs[k].text.toArray⟩, .slice A1 fs[k].list.length c1, .bool fs[k].isl] 35)) := (Below.refl _ _).alloc (Nat.le_refl _) _
      generalize fs[k] = fd at d0 d1 d2 d3 ra HK HN Bp
      generalize fs.take k = ks at hO HN hll hlen
      have HLT := Lib.hid hO.lt
      have HOW := Lib.hid hO.owned
      unfold fdV at HK
      clear ra
      go_wp2_with fail
      refine (HK.out _ Bp).mono ?_
      rintro e w2 ⟨uu, rfl, hU, hb2⟩
      have B2 := Bp.trans (hb2.mono Bp.size)
      have S2 := hO.below B2
      have C2 := hb.trans (B2.mono hb.size)
      have hSB := hU.weaken (base' := w.heap.size) (hb.trans (Bp.mono hb.size)).size
      obtain ⟨K, kc, rfl⟩ := hO.slice
      have hNU : ∀ g, uu.ownBlock = some g → (Value.slice K ks.length kc).ownBlock ≠ some g := fun g hg e => by
        have h1 := HLT.out g e
        have h2 := hU.owned g hg
        have h3 := Bp.size
        omega
      obtain ⟨U, uc, rfl⟩ := hU.slice
      have z2 : w.heap.size ≤ w2.heap.size := C2.size
      have BQ := (Below.refl w2.heap.size w2).alloc (Nat.le_refl _) (.cells #[.string ⟨fd.key.toArray⟩, .string ⟨fd.text.toArray⟩, .slice U fd.list.length uc, .bool fd.isl] 35)
      have S3 := S2.below BQ
      have U3 := hSB.below BQ
      have C3 := C2.trans (BQ.mono C2.size)
      clear hU hO S2 hSB hb2 Bp
      go_wp2_with (at_builtin; refine wpList_append_fdL rfl _ _ rfl w.heap.size _ _ rfl S3 fd _ U3 hNU w2.heap.size _ _ _ rfl (heap_alloc_new w2 _) hll.out (by simp; omega) ?_; intro g4 c4 w4 hS4 hg4 hl4)
      have B4 := gr_belowN C3 hg4 C3.size (fun g hg => HOW.out g hg)
      go_roundw
      case rel => exact ⟨k + 1, by omega, by go_num, by rw [HN.out]; exact hS4, B4⟩
      case measure => simp [intOf]; omega
    · rw [List.take_of_length_le (by omega)] at hO
      go_wp2_with fail
      go_ret
      exact ⟨_, rfl, hO, hb⟩
end Go.Proofs.Ytongpnknmgbhjaa
