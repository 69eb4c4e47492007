/-
  impl.readAlternative: one alternative of a range.
-/
import Derived.Test.YtnodhkjgnegkcaaGreatDoorApp
import Derived.Test.YtnodhkjgnegkcaaGreatDoorGrw
import Derived.Test.YtnodhkjgnegkcaaGreatDoorWholeB
import Derived.Test.YtnodhkjgnegkcaaGreatDoorWholeG
import Derived.Test.YtnodhkjgnegkcaaGreatDoorWholeA
import Derived.Test.YtnodhkjgnegkcaaGreatDoorWholeF
import Derived.Lib.AppendStr
import Derived.Lib.IndexMore
import Derived.Test.YtnodhkjgnegkcaaGreatDoorHeap
import Derived.Test.YtnodhkjgnegkcaaGreatDoorWholeC
import Derived.Deep.RegionHeld3
/-
  append onto a row of the call's own, and where the row lies then.
-/
namespace Go.Proofs.YtnodhkjgnegkcaaGreatDoor
open Go.RowKit

theorem run_append_texts2 (w : World) (ty : TypeId) (base : Nat) (v : Value) (l : List (List UInt8)) (hown : Strs w base v l) (x : Value) (ls : List (List UInt8)) (hr : RdS w x ls) (hlen : l.length + ls.length ≤ 16777216) (hbase : base ≤ w.heap.size) :
    ∃ v' w', (Builtin.append_ #[29, 29] ty #[v, x]).run Tryz.prog w = .ok v' w' ∧ Strs w' base v' (l ++ ls) ∧ w.grownBy w' v.ownBlock ∧ (v'.ownBlock = v.ownBlock ∨ v'.ownBlock = some w.heap.size) := by
  obtain ⟨i0, hi, hz0, hz1, hz2⟩ := info_parts strinfo
  obtain ⟨A, cap, rfl, hc⟩ := hr
  have fin : ∀ (a : Addr), (∀ j u, (ls.map sv)[j]? = some u → w.cell? (a.add j) = some u) → ∃ v' w', (Builtin.append_ #[29, 29] ty #[v, .slice (some a) ls.length cap]).run Tryz.prog w = .ok v' w' ∧ Strs w' base v' (l ++ ls) ∧ w.grownBy w' v.ownBlock ∧ (v'.ownBlock = v.ownBlock ∨ v'.ownBlock = some w.heap.size) := fun a hn => by
    obtain ⟨v', w', h1, h2, h3, _, h5⟩ := run_append_own_at (P := Tryz.prog) w base 29 ty 9 i0 (.string ⟨#[]⟩) 1 16 Tryz.underlying29 hi hz0 hz1 hz2 rfl (by decide) v l.length (l.map sv) hown
      a ls.length cap (ls.map sv) (by simp) hn (by intro u hu; simp at hu; obtain ⟨_, _, rfl⟩ := hu; rfl) (by unfold maxLen; omega) (by omega) hbase
    refine ⟨v', w', h1, ?_, h3, h5⟩
    unfold Strs
    rw [List.length_append, List.map_append]
    exact h2
  by_cases h0 : ls = []
  · subst h0
    cases A with
    | none => exact ⟨v, w, run_append_none w ty base v l hown cap, by simpa using hown, World.grownBy.refl w _, .inl rfl⟩
    | some a => exact fin a (fun j u h => by simp at h)
  · obtain ⟨g, off, rfl, _, hk⟩ := hc (by cases ls <;> simp_all)
    refine fin _ (fun j u h => ?_)
    rw [List.getElem?_map] at h
    cases hj : ls[j]? with
    | none => rw [hj] at h; simp at h
    | some y =>
      rw [hj] at h
      simp at h
      subst h
      obtain ⟨hl, rfl⟩ := List.getElem?_eq_some_iff.1 hj
      rw [Go.WideShapes.add_plain]
      exact hk j hl
/-- append(out, texts...) at a plain region's list, and where it lies. -/
theorem wpList_append_texts2 {w : World} {ops : Array Oper} {rest : List Oper} {o : Oper} {a : Act} {Q : Exit → Act → World → Prop} (hgd : o.guard = none) (s x : Operand)
    (ho : o.op = .call { callee := .builtin .append, args := #[s, x], argTypes := #[29, 29] })
    (base : Nat) (v : Value) (l : List (List UInt8)) (hs : a.eval s = v) (hown : Strs w base v l) (y : Value) (ls : List (List UInt8)) (hx : a.eval x = y) (hr : RdS w y ls)
    (hlen : l.length + ls.length ≤ 16777216) (hbase : base ≤ w.heap.size)
    (h : ∀ v' w', Strs w' base v' (l ++ ls) → w.grownBy w' v.ownBlock → (v'.ownBlock = v.ownBlock ∨ v'.ownBlock = some w.heap.size) → wpList Tryz.prog ops Q rest (a.put o.dst v') w') : wpList Tryz.prog ops Q (o :: rest) a w := by
  refine wpList_plain hgd fun _ hK => ?_
  obtain ⟨v', w', hr, h2, h3, h4⟩ := run_append_texts2 w o.type base v l hown y ls hr hlen hbase
  unfold Oper.wp execOp
  simp only [ho, resolve, invoke, builtin, Sem.run_bind, Sem.run_pure, Result.andThen_ok, List.map_toArray, List.map_cons, List.map_nil, hs, hx, hr]
  exact hK _ _ (h v' w' h2 h3 h4)
/-- append(out, text) at a plain region's list, and where it lies. -/
theorem wpList_append_strs2 {w : World} {ops : Array Oper} {rest : List Oper} {o : Oper} {a : Act} {Q : Exit → Act → World → Prop} (hgd : o.guard = none) (s x : Operand)
    (ho : o.op = .call { callee := .builtin .append, args := #[s, x], argTypes := #[29, 29] })
    (base : Nat) (v : Value) (l : List (List UInt8)) (hs : a.eval s = v) (hown : Strs w base v l) (y : List UInt8) (B c : Nat) (t : TypeId) (fr : Nat × Nat)
    (hx : a.eval x = .slice (some ⟨B, 0, none⟩) 1 c) (hblk : w.heap[B]? = some (.cells #[sv y] t fr)) (hlen : l.length + 1 ≤ 16777216) (hbase : base ≤ w.heap.size)
    (h : ∀ g cap w', Strs w' base (.slice (some ⟨g, 0, none⟩) (l.length + 1) cap) (l ++ [y]) → w.grownBy w' v.ownBlock → (v.ownBlock = some g ∨ g = w.heap.size) → wpList Tryz.prog ops Q rest (a.put o.dst (.slice (some ⟨g, 0, none⟩) (l.length + 1) cap)) w') : wpList Tryz.prog ops Q (o :: rest) a w := by
  refine wpList_plain hgd fun _ hK => ?_
  obtain ⟨g, cap, w', hr, h2, h3, h4⟩ := run_append_strs w o.type base v l hown y B c t fr hblk hlen hbase
  unfold Oper.wp execOp
  simp only [ho, resolve, invoke, builtin, Sem.run_bind, Sem.run_pure, Result.andThen_ok, List.map_toArray, List.map_cons, List.map_nil, hs, hx, hr]
  exact hK _ _ (h g cap w' h2 h3 h4)

end Go.Proofs.YtnodhkjgnegkcaaGreatDoor

/-
  spec.l03Parts: the parts of a text between blank, two bars and blank.
-/
namespace Go.Proofs.YtnodhkjgnegkcaaGreatDoor
open Go.RowKit

/-- k bytes are read, the parts that end ahead of st are told. -/
def PtAt (l : List UInt8) (k st : Nat) (done : List (List UInt8)) : Prop := rgPs l = done ++ rgPs (l.drop st) ∧ done.length ≤ k ∧ st ≤ l.length ∧ ∀ j, st ≤ j → j < k → Lib.occAt l orSep j = false
theorem occ_drop (l sep : List UInt8) (a j : Nat) : Lib.occAt (l.drop a) sep j = Lib.occAt l sep (a + j) := by unfold Lib.occAt; rw [List.drop_drop]
theorem occ_late {l : List UInt8} {j : Nat} (h : l.length < j + 4) : Lib.occAt l orSep j = false := by
  cases he : Lib.occAt l orSep j with
  | false => rfl
  | true =>
    unfold Lib.occAt at he
    have := (List.isPrefixOf_iff_prefix.1 he).length_le
    simp [orSep] at this
    omega
theorem ptAt_zero (l : List UInt8) : PtAt l 0 0 [] := ⟨by simp, Nat.le_refl _, Nat.zero_le _, fun j _ h => absurd h (Nat.not_lt_zero _)⟩
theorem ptAt_early {l : List UInt8} {k st : Nat} {done : List (List UInt8)} (h : PtAt l k st done) (hk : ¬ st ≤ k) : PtAt l (k + 1) st done := ⟨h.1, Nat.le_succ_of_le h.2.1, h.2.2.1, fun j h1 h2 => absurd h1 (by omega)⟩
theorem ptAt_pass {l : List UInt8} {k st : Nat} {done : List (List UInt8)} (h : PtAt l k st done) (ho : Lib.occAt l orSep k = false) : PtAt l (k + 1) st done := ⟨h.1, Nat.le_succ_of_le h.2.1, h.2.2.1, fun j h1 h2 => by
  rcases Nat.lt_or_ge j k with hj | hj
  · exact h.2.2.2 j h1 hj
  · obtain rfl : j = k := by omega
    exact ho⟩
theorem ptAt_mark {l : List UInt8} {k st : Nat} {done : List (List UInt8)} (h : PtAt l k st done) (hst : st ≤ k) (hk : k + 4 ≤ l.length) (ho : Lib.occAt l orSep k = true) : PtAt l (k + 1) (k + 4) (done ++ [(l.take k).drop st]) := by
  obtain ⟨h1, h2, h3, h4⟩ := h
  refine ⟨?_, by simp; omega, hk, fun j a b => absurd a (by omega)⟩
  have hi : Lib.index (l.drop st) orSep = ((k - st : Nat) : Int) := Lib.index_first (by simp; omega) (by rw [occ_drop, Nat.add_sub_cancel' hst]; exact ho) (fun j hj => by rw [occ_drop]; exact h4 _ (by omega) (by omega))
  rw [h1]
  unfold rgPs
  rw [split_hit (by decide) hi, List.drop_drop]
  have e1 : (l.drop st).take (k - st) = (l.take k).drop st := by rw [List.drop_take]
  have e2 : st + (k - st + orSep.length) = k + 4 := by show st + (k - st + 4) = k + 4; omega
  rw [e1, e2]
  simp
theorem ptAt_end {l : List UInt8} {k st : Nat} {done : List (List UInt8)} (h : PtAt l k st done) (hk : ¬ k + 4 ≤ l.length) : rgPs l = done ++ [l.drop st] := by
  obtain ⟨h1, h2, h3, h4⟩ := h
  rw [h1]
  have hi : Lib.index (l.drop st) orSep = -1 := Lib.index_none (fun j _ => by
    rw [occ_drop]
    rcases Nat.lt_or_ge (st + j) k with hj | hj
    · exact h4 _ (by omega) hj
    · exact occ_late (by omega))
  unfold rgPs
  rw [split_none hi]
theorem occ_piece (s : ByteArray) (k : Nat) (_hk : k + 4 ≤ s.size) : Lib.occAt s.data.toList orSep k = ((s.extract k (k + 4)).data.toList == orSep) := by
  have hl : s.data.toList.length = s.size := by simp
  have e : (s.extract k (k + 4)).data.toList = (s.data.toList.drop k).take 4 := by rw [Lib.extract_data]; simp
  rw [e]
  unfold Lib.occAt
  rw [Bool.eq_iff_iff, List.isPrefixOf_iff_prefix, beq_iff_eq]
  constructor
  · intro h; exact (List.prefix_iff_eq_take.1 h).symm
  · intro h; rw [← h]; exact List.take_prefix _ _

set_option maxRecDepth 100000 in
set_option maxHeartbeats 2000000 in
theorem l03Parts_any (s : ByteArray) (w : World) (hs : s.size ≤ 1048576) :
    Calls Tryz.prog 135 #[.string s] w fun e w' => ∃ g cap, e = .returned (.slice (some ⟨g, 0, none⟩) (rgPs s.data.toList).length cap) ∧ Strs w' w.heap.size (.slice (some ⟨g, 0, none⟩) (rgPs s.data.toList).length cap) (rgPs s.data.toList) ∧ Below w.heap.size w w' := by
  have hll : s.data.toList.length = s.size := by simp
  have HLL := Lib.hid hll
  clear hll
  go_enter Tryz.func135, Tryz.ntmps135
  go_wp2
  go_loopw [3, 4, 5] (fun v f n wr => ∃ (k st : Nat) (done : List (List UInt8)), k ≤ s.size ∧ n = .int .i64 k ∧ f = .int .i64 st ∧ Strs wr w.heap.size v done ∧ Below w.heap.size w wr ∧ PtAt s.data.toList k st done) (fun _ _ n _ => s.size - (intOf n).toNat)
  case atStart => exact ⟨0, 0, [], Nat.zero_le _, rfl, rfl, Strs.empty w _ (Nat.le_refl _), (Below.refl _ _).alloc (Nat.le_refl _) _, ptAt_zero _⟩
  case round =>
    obtain ⟨k, st, done, hk, rfl, rfl, hown, hb, HP⟩ := hrel
    have hst : st ≤ s.size := by have := HP.2.2.1; rw [HLL.out] at this; exact this
    have hdl := HP.2.1
    have k4 : IntKind.i64.wrap ((k : Int) + 4) = (k : Int) + 4 := IntWalk.i64_in _ (by omega)
    by_cases hlt : k + 4 ≤ s.size
    · by_cases hsk : st ≤ k
      · have ho := occ_piece s k hlt
        have he := slice_str s _ k (k + 4) (k : Int) ((k : Int) + 4) rfl (by omega) (by omega) (by omega) rfl
        obtain ⟨z, hz⟩ : ∃ z, s.extract k (k + 4) = z := ⟨_, rfl⟩
        rw [hz] at ho he
        cases hq : z.data.toList == orSep with
        | true =>
          have HN := Lib.hid (ptAt_mark HP hsk (by rw [HLL.out]; exact hlt) (by rw [ho, hq]))
          have q1 : (z.toList == [32, 124, 124, 32]) = true := by rw [ByteArray.toList_eq]; exact hq
          have he2 := slice_str s _ st k (st : Int) (k : Int) rfl rfl (by omega) (by omega) (piece s st k)
          clear HP ho hz hq
          go_wp2_with (at_builtin; refine wpList_append_strs rfl _ _ rfl w.heap.size _ _ rfl (hown.alloc _) ((s.data.toList.take k).drop st) wr.heap.size _ _ _ rfl (heap_alloc_new wr _) (by omega) (by simp; exact Nat.le_succ_of_le hb.size) ?_; intro g cap w2 hown2 hb2)
          have HB := hb.trans (((Below.refl w.heap.size wr).alloc hb.size _).trans hb2)
          go_wp2
          go_roundw
          case rel => exact ⟨k + 1, k + 4, _, by omega, by go_num, by go_num, hown2, HB, HN.out⟩
          case measure => simp [intOf]; omega
        | false =>
          have HN := Lib.hid (ptAt_pass HP (by rw [ho, hq]))
          have q1 : (z.toList == [32, 124, 124, 32]) = false := by rw [ByteArray.toList_eq]; exact hq
          clear HP ho hz hq
          go_wp2_with fail
          go_roundw
          case rel => exact ⟨k + 1, st, done, by omega, by go_num, rfl, hown, hb, HN.out⟩
          case measure => simp [intOf]; omega
      · have HN := Lib.hid (ptAt_early HP hsk)
        clear HP
        go_wp2_with fail
        go_roundw
        case rel => exact ⟨k + 1, st, done, by omega, by go_num, rfl, hown, hb, HN.out⟩
        case measure => simp [intOf]; omega
    · have HN := Lib.hid (ptAt_end HP (by rw [HLL.out]; exact hlt))
      have he := slice_from s _ st (st : Int) rfl (by omega) (piece_end s st)
      clear HP
      go_wp2_with (at_builtin; refine wpList_append_strs rfl _ _ rfl w.heap.size _ _ rfl (hown.alloc _) (s.data.toList.drop st) wr.heap.size _ _ _ rfl (heap_alloc_new wr _) (by omega) (by simp; exact Nat.le_succ_of_le hb.size) ?_; intro g cap w2 hown2 hb2)
      have HB := hb.trans (((Below.refl w.heap.size wr).alloc hb.size _).trans hb2)
      go_wp2
      go_ret
      refine ⟨g, cap, ?_, ?_, HB⟩
      · rw [HN.out]; simp
      · rw [HN.out]; simpa using hown2
end Go.Proofs.YtnodhkjgnegkcaaGreatDoor

/-
  Calls of strings' functions: HasPrefix, CutPrefix, Count of one byte, Repeat, Split.
-/
namespace Go.Proofs
open Go.Shelf
theorem Tryz.extraRepeat : Builder.Extra Tryz.prog Tryz.laysRepeat_ren where
  sizeBuilder := by kernel_rfl
  liesBuilder := by kernel_rfl
  t5 := Tryz.underlying5
  a5 := Tryz.isAgg5
  z5 := Tryz.sizeOf5
  v5 := Tryz.zeroValue5
  infoByte := by kernel_rfl
  cellsByte := by kernel_rfl
  sizeByte := by kernel_rfl
  neB5 := by decide
namespace YtnodhkjgnegkcaaGreatDoor
open Go.RowKit

theorem liteHas_any (s p : ByteArray) (w : World) : Calls Tryz.prog 272 #[.string s, .string p] w fun e w' => e = .returned (.bool (p.data.toList.isPrefixOf s.data.toList)) ∧ w' = w :=
  Any.stringslite_HasPrefix { Tryz.laysPre with } s p w
theorem hasPrefix_any (s p : ByteArray) (w : World) : Calls Tryz.prog 237 #[.string s, .string p] w fun e w' => e = .returned (.bool (p.data.toList.isPrefixOf s.data.toList)) ∧ w' = w :=
  Any.strings_HasPrefix Tryz.laysPre s p w
theorem count_any (s : ByteArray) (c : UInt8) (w : World) : Calls Tryz.prog 243 #[.string s, .string ⟨#[c]⟩] w fun e w' => e = .returned (.int .i64 (s.data.toList.count c : Nat)) ∧ w' = w :=
  Any.strings_Count_one { Tryz.laysSplit with } s c w
theorem repeat_any (s : ByteArray) (c : Nat) (w : World) (hc : c ≤ 1000) (hs : s.size ≤ 1000) : Calls Tryz.prog 276 #[.string s, .int .i64 c] w fun e w' => e = .returned (.string ⟨(Lib.repeatL s.data.toList c).toArray⟩) ∧ Below w.heap.size w w' :=
  Any.strings_Repeat Tryz.laysRepeat Tryz.extraRepeat s c w (by omega) (Nat.le_trans (Nat.mul_le_mul hs hc) (by decide))
/-- strings.CutPrefix: the text behind the mark, or all of it. -/
theorem cutPrefix_yes (s p r : ByteArray) (w : World) (hp : p.data.toList.isPrefixOf s.data.toList = true) (hr : s.extract p.size s.size = r) :
    Calls Tryz.prog 292 #[.string s, .string p] w fun e w' => e = .returned (.tuple #[.string r, .bool true]) ∧ w' = w := by
  have hle : p.size ≤ s.size := by
    have := (List.isPrefixOf_iff_prefix.1 hp).length_le
    simpa using this
  have H1 := Lib.hid (fun (W : World) => liteHas_any s p W)
  simp only [hp] at H1
  have he := slice_from s r p.size (p.size : Int) rfl hle hr
  clear hp hr
  have H2 : Hid (∀ W, Calls Tryz.prog 304 #[.string s, .string p] W fun e w' => e = .returned (.tuple #[.string r, .bool true]) ∧ w' = W) := Lib.hid (fun W => by
    go_enter Tryz.func304, Tryz.ntmps304
    go_wp2_with fail
    refine (H1.out _).mono ?_
    rintro e w' ⟨rfl, rfl⟩
    go_wp2_with fail
    go_ret2
    exact ⟨rfl, rfl⟩)
  go_enter Tryz.func292, Tryz.ntmps292
  go_wp2_with fail
  refine (H2.out _).mono ?_
  rintro e w' ⟨rfl, rfl⟩
  go_wp2_with fail
  go_ret2
  exact ⟨rfl, rfl⟩
theorem cutPrefix_no (s p : ByteArray) (w : World) (hp : p.data.toList.isPrefixOf s.data.toList = false) :
    Calls Tryz.prog 292 #[.string s, .string p] w fun e w' => e = .returned (.tuple #[.string s, .bool false]) ∧ w' = w := by
  have H1 := Lib.hid (fun (W : World) => liteHas_any s p W)
  simp only [hp] at H1
  clear hp
  have H2 : Hid (∀ W, Calls Tryz.prog 304 #[.string s, .string p] W fun e w' => e = .returned (.tuple #[.string s, .bool false]) ∧ w' = W) := Lib.hid (fun W => by
    go_enter Tryz.func304, Tryz.ntmps304
    go_wp2_with fail
    refine (H1.out _).mono ?_
    rintro e w' ⟨rfl, rfl⟩
    go_wp2_with fail
    go_ret2
    exact ⟨rfl, rfl⟩)
  go_enter Tryz.func292, Tryz.ntmps292
  go_wp2_with fail
  refine (H2.out _).mono ?_
  rintro e w' ⟨rfl, rfl⟩
  go_wp2_with fail
  go_ret2
  exact ⟨rfl, rfl⟩
theorem idxOne (m : UInt8) : ∀ l : List UInt8, Lib.index l [m] = Lib.indexByte l m := fun l => Lib.index_one l m
/-- strings.Cut at a blank. -/
theorem cutSp_any (s : List UInt8) (m : Int) (w : World) (hs : s.length ≤ 1048576) (hm : w.cell? ⟨0, 0, none⟩ = some (.int .i64 m)) :
    Calls Tryz.prog 231 #[.string ⟨s.toArray⟩, .string ⟨#[32]⟩] w fun e w' => e = .returned (.tuple #[.string ⟨(Lib.cut s [32]).1.toArray⟩, .string ⟨(Lib.cut s [32]).2.1.toArray⟩, .bool (Lib.cut s [32]).2.2]) ∧ ∃ n, w' = w.drewN n :=
  Any.strings_Cut { Tryz.laysCut with } ⟨s.toArray⟩ ⟨#[32]⟩ m w (by show s.toArray.size < _; simp; omega) hm
theorem pieces_len (sep s : ByteArray) (h1 : 1 ≤ sep.size) : (Lib.splitB sep 0 (Lib.countB s sep) s).length = Lib.countB s sep + 1 := Lib.splitB_all sep h1 0 _ s rfl
theorem pieces_sv (sep s : ByteArray) : (Lib.splitB sep 0 (Lib.countB s sep) s).map Value.string = (Lib.split s.data.toList sep.data.toList).map sv := by
  have h := Lib.splitB_data sep 0 (Lib.countB s sep) s
  have e : Lib.split s.data.toList sep.data.toList = Lib.splitK sep.data.toList 0 (Lib.countB s sep) s.data.toList := rfl
  rw [e, ← h, List.map_map]
  apply List.map_congr_left
  intro x _
  show Value.string x = .string ⟨x.data.toList.toArray⟩
  exact congrArg Value.string (bytes_ext (by simp))
/-- strings.Split at " || ". -/
theorem split_any (s : ByteArray) (m : Int) (w : World) (hs : s.size ≤ 1048576) (hm : w.cell? ⟨0, 0, none⟩ = some (.int .i64 m)) :
    Calls Tryz.prog 197 #[.string s, .string ⟨#[32, 124, 124, 32]⟩] w fun e w' => ∃ g cap, e = .returned (.slice (some ⟨g, 0, none⟩) (rgPs s.data.toList).length cap) ∧ Strs w' w.heap.size (.slice (some ⟨g, 0, none⟩) (rgPs s.data.toList).length cap) (rgPs s.data.toList) ∧ Below w.heap.size w w' := by
  have hp : (⟨#[32, 124, 124, 32]⟩ : ByteArray).data.toList = orSep := rfl
  have h1 : 1 ≤ (⟨#[32, 124, 124, 32]⟩ : ByteArray).size := by decide
  refine (Any.strings_Split { Tryz.laysSplit with } Tryz.laysSplit.i9 s ⟨#[32, 124, 124, 32]⟩ m w (by omega) hm h1).mono fun e w' h => ?_
  obtain ⟨rfl, rfl⟩ := h
  have hv := pieces_sv ⟨#[32, 124, 124, 32]⟩ s
  have hl := pieces_len ⟨#[32, 124, 124, 32]⟩ s h1
  have hn : Lib.countB s ⟨#[32, 124, 124, 32]⟩ + 1 = (rgPs s.data.toList).length := by
    rw [← hl, ← List.length_map (f := Value.string), hv, List.length_map]; rfl
  have hc : Lib.countB s ⟨#[32, 124, 124, 32]⟩ ≤ s.size := Lib.countB_le _ h1 s.size s (Nat.le_refl _)
  refine ⟨w.heap.size, _, by rw [hn], ?_, (Below.refl _ _).alloc (Nat.le_refl _) _⟩
  rw [hv]
  have hx : ((Lib.split s.data.toList (⟨#[32, 124, 124, 32]⟩ : ByteArray).data.toList).map sv) = (rgPs s.data.toList).map sv := rfl
  rw [hx]
  have h := World.ownsRow_lit (base := w.heap.size) (e := 9) (size := 1) w ((rgPs s.data.toList).map sv).toArray (rgPs s.data.toList).length (Nat.le_refl _) (by unfold maxLen; omega) (by simp)
  show Strs (w.alloc (.cells ((rgPs s.data.toList).map sv).toArray 9)) w.heap.size _ _
  simpa [Strs, hn] using h
end YtnodhkjgnegkcaaGreatDoor
end Go.Proofs

/-
  impl.readPartial, impl.readLimit, impl.readLimits.
-/
namespace Go.Proofs.YtnodhkjgnegkcaaGreatDoor
open Go.RowKit

theorem one_cell {V : World} {B : Nat} {T : TypeId} {v0 : Value} (h : V.heap[B]? = some (.cells #[v0] T)) : V.cell? ⟨B, 0, none⟩ = some v0 := by simp [World.cell?, h]
set_option maxRecDepth 100000 in
set_option maxHeartbeats 4000000 in
theorem readPartial_0 (l : List UInt8) (w : World) (hl : l.length ≤ 1048000) (ht : Tab w) (hc : l.count 46 = 0) :
    Calls Tryz.prog 244 #[.string ⟨l.toArray⟩] w (AltIs w (fromOk (l ++ [46, 48, 46, 48]) 0) (fromB (l ++ [46, 48, 46, 48]) 0)) := by
  have HC := Lib.hid (fun W => count_any ⟨l.toArray⟩ 46 W)
  have hcc : ((⟨l.toArray⟩ : ByteArray).data.toList.count 46 : Nat) = 0 := hc
  simp only [hcc] at HC
  have hrep : (Lib.repeatL (⟨#[46, 48]⟩ : ByteArray).data.toList 2) = [46, 48, 46, 48] := by decide
  have HN := Lib.hid (fun W => repeat_any ⟨#[46, 48]⟩ 2 W (by omega) (by decide))
  simp only [hrep] at HN
  have s1 : ∀ W, (Op.stringOp .add ⟨l.toArray⟩ ⟨([46, 48, 46, 48] : List UInt8).toArray⟩).run Tryz.prog W = .ok (.string ⟨(l ++ [46, 48, 46, 48]).toArray⟩) W := fun W => add_lists W l [46, 48, 46, 48] (by omega) (by simp)
  have hll : (l ++ [46, 48, 46, 48]).length ≤ 1048576 := by simp; omega
  have B0 : Below w.heap.size w (w.alloc (.cells #[.string ⟨#[]⟩, .string ⟨#[]⟩] 166)) := (Below.refl _ _).alloc (Nat.le_refl _) _
  have B1 := B0.alloc B0.size (.cells #[.int .i64 0] 3)
  have r1 := keepA (heap_alloc_new w (.cells #[.string ⟨#[]⟩, .string ⟨#[]⟩] 166)) (.cells #[.int .i64 0] 3)
  have q1 := heap_new (W := w.alloc (.cells #[.string ⟨#[]⟩, .string ⟨#[]⟩] 166)) (n := w.heap.size + 1) (by simp) (.cells #[.int .i64 0] 3)
  have HF := Lib.hid (fun (W : World) (h : Below w.heap.size w W) (hQ : W.cell? ⟨w.heap.size + 1, 0, none⟩ = some (.int .i64 0)) => rfPartial_any (l ++ [46, 48, 46, 48]) 0 (w.heap.size + 1) W hll (tab_below ht h) (by decide) hQ)
  generalize fromOk (l ++ [46, 48, 46, 48]) 0 = q at HF ⊢
  generalize fromB (l ++ [46, 48, 46, 48]) 0 = fb at HF ⊢
  generalize l ++ [46, 48, 46, 48] = L at HF s1 hll
  clear hc hcc hll ht hl
  go_enter Tryz.func244, Tryz.ntmps244
  go_wp2_with fail
  refine (HC.out _).mono ?_
  rintro e w2 ⟨rfl, hw2⟩
  subst hw2
  go_wp2_with fail
  refine (HN.out _).mono ?_
  rintro e w3 ⟨rfl, hb3⟩
  have B3 := B1.trans (hb3.mono B1.size)
  have r3 := keepB r1 hb3
  have q3 := keepB q1 hb3
  clear hb3 r1 q1 B1 B0
  go_wp2_with fail
  refine (HF.out _ B3 (one_cell q3)).mono ?_
  rintro e w5 ⟨x, y, rfl, hxy, hb5⟩
  have B5 := B3.trans (hb5.mono B3.size)
  obtain ⟨c0, c1⟩ := two_cells (keepB r3 hb5)
  have f0 := frozen2 (keepB r3 hb5) 0
  have f1 := frozen2 (keepB r3 hb5) 1
  go_wp2_with fail
  refine bodyPost_ret (v := .tuple #[.agg #[.string x, .string y], .bool q]) ?_ rfl ⟨_, _, rfl, hxy, ?_⟩
  · simp [results, Tryz.results244, go_sem, c0, c1]
  · exact below_res2 B5 (Nat.le_refl _) _ _

set_option maxRecDepth 100000 in
set_option maxHeartbeats 4000000 in
theorem readPartial_1 (l : List UInt8) (w : World) (hl : l.length ≤ 1048000) (ht : Tab w) (hc : l.count 46 = 1) :
    Calls Tryz.prog 244 #[.string ⟨l.toArray⟩] w (AltIs w (fromOk (l ++ [46, 48]) 1) (fromB (l ++ [46, 48]) 1)) := by
  have HC := Lib.hid (fun W => count_any ⟨l.toArray⟩ 46 W)
  have hcc : ((⟨l.toArray⟩ : ByteArray).data.toList.count 46 : Nat) = 1 := hc
  simp only [hcc] at HC
  have hrep : (Lib.repeatL (⟨#[46, 48]⟩ : ByteArray).data.toList 1) = [46, 48] := by decide
  have HN := Lib.hid (fun W => repeat_any ⟨#[46, 48]⟩ 1 W (by omega) (by decide))
  simp only [hrep] at HN
  have s1 : ∀ W, (Op.stringOp .add ⟨l.toArray⟩ ⟨([46, 48] : List UInt8).toArray⟩).run Tryz.prog W = .ok (.string ⟨(l ++ [46, 48]).toArray⟩) W := fun W => add_lists W l [46, 48] (by omega) (by simp)
  have hll : (l ++ [46, 48]).length ≤ 1048576 := by simp; omega
  have B0 : Below w.heap.size w (w.alloc (.cells #[.string ⟨#[]⟩, .string ⟨#[]⟩] 166)) := (Below.refl _ _).alloc (Nat.le_refl _) _
  have B1 := B0.alloc B0.size (.cells #[.int .i64 1] 3)
  have r1 := keepA (heap_alloc_new w (.cells #[.string ⟨#[]⟩, .string ⟨#[]⟩] 166)) (.cells #[.int .i64 1] 3)
  have q1 := heap_new (W := w.alloc (.cells #[.string ⟨#[]⟩, .string ⟨#[]⟩] 166)) (n := w.heap.size + 1) (by simp) (.cells #[.int .i64 1] 3)
  have HF := Lib.hid (fun (W : World) (h : Below w.heap.size w W) (hQ : W.cell? ⟨w.heap.size + 1, 0, none⟩ = some (.int .i64 1)) => rfPartial_any (l ++ [46, 48]) 1 (w.heap.size + 1) W hll (tab_below ht h) (by decide) hQ)
  generalize fromOk (l ++ [46, 48]) 1 = q at HF ⊢
  generalize fromB (l ++ [46, 48]) 1 = fb at HF ⊢
  generalize l ++ [46, 48] = L at HF s1 hll
  clear hc hcc hll ht hl
  go_enter Tryz.func244, Tryz.ntmps244
  go_wp2_with fail
  refine (HC.out _).mono ?_
  rintro e w2 ⟨rfl, hw2⟩
  subst hw2
  go_wp2_with fail
  refine (HN.out _).mono ?_
  rintro e w3 ⟨rfl, hb3⟩
  have B3 := B1.trans (hb3.mono B1.size)
  have r3 := keepB r1 hb3
  have q3 := keepB q1 hb3
  clear hb3 r1 q1 B1 B0
  go_wp2_with fail
  refine (HF.out _ B3 (one_cell q3)).mono ?_
  rintro e w5 ⟨x, y, rfl, hxy, hb5⟩
  have B5 := B3.trans (hb5.mono B3.size)
  obtain ⟨c0, c1⟩ := two_cells (keepB r3 hb5)
  have f0 := frozen2 (keepB r3 hb5) 0
  have f1 := frozen2 (keepB r3 hb5) 1
  go_wp2_with fail
  refine bodyPost_ret (v := .tuple #[.agg #[.string x, .string y], .bool q]) ?_ rfl ⟨_, _, rfl, hxy, ?_⟩
  · simp [results, Tryz.results244, go_sem, c0, c1]
  · exact below_res2 B5 (Nat.le_refl _) _ _

theorem readPartial_any (l : List UInt8) (w : World) (hl : l.length ≤ 1048000) (ht : Tab w) (hc : l.count 46 < 2) :
    Calls Tryz.prog 244 #[.string ⟨l.toArray⟩] w (AltIs w (fromOk (l ++ zrs (l.count 46)) (l.count 46)) (fromB (l ++ zrs (l.count 46)) (l.count 46))) := by
  have h : l.count 46 = 0 ∨ l.count 46 = 1 := by omega
  rcases h with h | h
  · rw [h]; exact readPartial_0 l w hl ht h
  · rw [h]; exact readPartial_1 l w hl ht h

/-- What a limit reads as: the version behind the mark, or nothing. -/
def lmT (p l : List UInt8) : List UInt8 := if p.isPrefixOf l = true ∧ readOk (l.drop p.length) = true then l.drop p.length else []
theorem lmT_yes {p l : List UInt8} (h1 : p.isPrefixOf l = true) (h2 : readOk (l.drop p.length) = true) : lmT p l = l.drop p.length := if_pos ⟨h1, h2⟩
theorem lmT_no1 {p l : List UInt8} (h1 : p.isPrefixOf l = false) : lmT p l = [] := if_neg (by rw [h1]; simp)
theorem lmT_no2 {p l : List UInt8} (h2 : readOk (l.drop p.length) = false) : lmT p l = [] := if_neg (by rw [h2]; simp)
set_option maxRecDepth 100000 in
set_option maxHeartbeats 4000000 in
theorem readLimit_any (l p : List UInt8) (w : World) (hl : l.length ≤ 1048000) (ht : Tab w) :
    Calls Tryz.prog 273 #[.string ⟨l.toArray⟩, .string ⟨p.toArray⟩] w fun e w' => e = .returned (.string ⟨(lmT p l).toArray⟩) ∧ Below w.heap.size w w' := by
  have HR := Lib.hid (fun (m : List UInt8) (h : m.length ≤ 1048000) W => readV_any m W (by omega))
  cases hp : p.isPrefixOf l with
  | false =>
    rw [lmT_no1 hp]
    have HC := Lib.hid (fun W => cutPrefix_no ⟨l.toArray⟩ ⟨p.toArray⟩ W hp)
    cases hok : readOk l
    all_goals
      have HO := Lib.hid hok
      clear hok hp ht
      go_enter Tryz.func273, Tryz.ntmps273
      go_wp2_with fail
      refine (HC.out _).mono ?_
      rintro e w1 ⟨rfl, hw1⟩
      subst hw1
      go_wp2_with fail
      refine (HR.out _ hl _).mono ?_
      rintro e w2 ⟨u, rfl, hu, hb2⟩
      obtain ⟨U, uc, rfl⟩ := hu.slice
      rw [HO.out]
      go_wp2_with fail
      go_ret
      exact ⟨rfl, hb2.alloc hb2.size _⟩
  | true =>
    have hle : p.length ≤ l.length := (List.isPrefixOf_iff_prefix.1 hp).length_le
    have HC := Lib.hid (fun W => cutPrefix_yes ⟨l.toArray⟩ ⟨p.toArray⟩ ⟨(l.drop p.length).toArray⟩ W hp (by
      have := piece_end (⟨l.toArray⟩ : ByteArray) p.length
      rw [size_of p]; exact this))
    cases hok : readOk (l.drop p.length) with
    | false =>
      rw [lmT_no2 hok]
      have hl2 : (l.drop p.length).length ≤ 1048000 := by simp; omega
      generalize l.drop p.length = d at HC hok hl2
      have HO := Lib.hid hok
      clear hok hp ht hle
      go_enter Tryz.func273, Tryz.ntmps273
      go_wp2_with fail
      refine (HC.out _).mono ?_
      rintro e w1 ⟨rfl, hw1⟩
      subst hw1
      go_wp2_with fail
      refine (HR.out _ hl2 _).mono ?_
      rintro e w2 ⟨u, rfl, hu, hb2⟩
      obtain ⟨U, uc, rfl⟩ := hu.slice
      rw [HO.out]
      go_wp2_with fail
      go_ret
      exact ⟨rfl, hb2.alloc hb2.size _⟩
    | true =>
      rw [lmT_yes hp hok]
      have hl2 : (l.drop p.length).length ≤ 1048000 := by simp; omega
      generalize l.drop p.length = d at HC hok hl2
      have HO := Lib.hid hok
      have HBK := Lib.hid (read_back hok)
      have HSM := Lib.hid (sm_readPP d)
      have HV := Lib.hid (fun (q : Nat) (u : Value) (W : World) (hS : Strs W q u (readP d)) (h : Below w.heap.size w W) => implVersionText_any (readA d 0) (readA d 1) (readA d 2) q u (readP d) W hS HSM.out (tab_below ht h))
      rw [HBK.out] at HV
      clear hok hp ht hle HBK HSM
      go_enter Tryz.func273, Tryz.ntmps273
      go_wp2_with fail
      refine (HC.out _).mono ?_
      rintro e w1 ⟨rfl, hw1⟩
      subst hw1
      go_wp2_with fail
      refine (HR.out _ hl2 _).mono ?_
      rintro e w2 ⟨u, rfl, hu, hb2⟩
      obtain ⟨U, uc, rfl⟩ := hu.slice
      rw [HO.out]
      have hu3 := hu.alloc (.cells #[.int .i64 (readA d 0), .int .i64 (readA d 1), .int .i64 (readA d 2), .slice U (readP d).length uc] 117)
      have B3 := hb2.alloc hb2.size (.cells #[.int .i64 (readA d 0), .int .i64 (readA d 1), .int .i64 (readA d 2), .slice U (readP d).length uc] 117)
      go_wp2_with fail
      refine (HV.out _ _ _ hu3 B3).mono ?_
      rintro e w4 ⟨rfl, hb4⟩
      go_wp2_with fail
      go_ret
      exact ⟨rfl, B3.trans (hb4.mono B3.size)⟩
end Go.Proofs.YtnodhkjgnegkcaaGreatDoor

/-
  A string appended to a byte buffer of the call's own.
-/
namespace Go.Proofs.YtnodhkjgnegkcaaGreatDoor
open Go.RowKit

theorem wpList_append_buf_str {w : World} {ops : Array Oper} {rest : List Oper} {o : Oper} {a : Act} {Q : Exit → Act → World → Prop} (hgd : o.guard = none) (s x : Operand)
    (ho : o.op = .call { callee := .builtin .append, args := #[s, x], argTypes := #[145, 9] })
    (base : Nat) (v : Value) (l : List UInt8) (hs : a.eval s = v) (hown : Buf w base v l) (ns : List UInt8) (hx : a.eval x = .string ⟨ns.toArray⟩) (hlen : l.length + ns.length ≤ 16777216) (hbase : base ≤ w.heap.size)
    (h : ∀ v' w', Buf w' base v' (l ++ ns) → Below base w w' → wpList Tryz.prog ops Q rest (a.put o.dst v') w') : wpList Tryz.prog ops Q (o :: rest) a w := by
  obtain ⟨i0, hi, hz0, hz1, hz2⟩ := info_parts u8info
  have hsz : (⟨ns.toArray⟩ : ByteArray).size = ns.length := by show ns.toArray.size = _; simp
  refine Lib.wpList_append_own_string _ hgd s x 145 9 ho base 5 i0 Tryz.underlying145 Tryz.underlying9 hi hz0 hz1 hz2 v l.length (l.map bv) hs hown ⟨ns.toArray⟩ hx (by rw [hsz]; unfold maxLen; omega) (by rw [hsz]; omega) hbase ?_
  intro v' w' h2 h3 _
  refine h v' w' ?_ ((Below.refl base w).grown h3 hbase hown.owned)
  unfold Buf
  rw [hsz] at h2
  rw [List.length_append, List.map_append]
  exact h2

/-- A buffer is kept by whatever leaves all old blocks as they were. -/
theorem Buf.below {w w' : World} {base : Nat} {v : Value} {l : List UInt8} (h : Buf w base v l) (hb : Below w.heap.size w w') : Buf w' base v l :=
  World.ownsRow.kept h (row := none) ⟨hb.os, hb.tape, hb.output, hb.size, fun i hi _ => hb.block i hi⟩ (by
    rcases h.form with ⟨rfl, _⟩ | ⟨g, cap, rfl, _, _⟩
    · left; rfl
    · right; simp [Value.ownBlock])
end Go.Proofs.YtnodhkjgnegkcaaGreatDoor

/-
  A cursor over a text in a cell: what it leaves.
-/
namespace Go.Proofs.YtnodhkjgnegkcaaGreatDoor
open Go.RowKit

theorem index_one (m : UInt8) : ∀ l : List UInt8, Lib.index l [m] = Lib.indexByte l m
  | [] => rfl
  | c :: l => by
    have ih := index_one m l
    unfold Lib.index
    by_cases h : c = m
    · subst h; simp [Lib.indexByte]
    · rw [idx_miss l h, ih]
      have : ([m].isPrefixOf (c :: l)) = false := by simp [List.isPrefixOf]; exact fun e => h e.symm
      rw [if_neg (by rw [this]; simp)]
      simp
theorem cut_one (m : UInt8) (l : List UInt8) : (Lib.cut l [m]).1 = cutA m l ∧ (Lib.cut l [m]).2.1 = cutB m l := by
  unfold Lib.cut cutA cutB
  rw [index_one]
  split <;> simp

theorem cells1 {V : World} {B : Nat} {T : TypeId} {v0 : Value} (h : V.heap[B]? = some (.cells #[v0] T)) : V.cell? ⟨B, 0, none⟩ = some v0 := by simp [World.cell?, h]
theorem frozen1 {V : World} {B : Nat} {T : TypeId} {v0 : Value} (h : V.heap[B]? = some (.cells #[v0] T)) (o : Nat) : V.frozen? ⟨B, o, none⟩ = false := by simp [World.frozen?, h]
theorem heap_one {V : World} {B : Nat} {T : TypeId} {v0 : Value} (h : V.heap[B]? = some (.cells #[v0] T)) (x : Value) : (V.setCell ⟨B, 0, none⟩ x).heap[B]? = some (.cells #[x] T) := by
  rw [heap_setCell_same V B 0 #[v0] T x h]; rfl
/-- What upTo leaves: the rest in the cursor's cell, all else as it was. -/
def CurTo (q : Nat) (T : TypeId) (w : World) (r : List UInt8) (w' : World) : Prop := w'.heap[q]? = some (.cells #[.string ⟨r.toArray⟩] T) ∧ w.grownBy w' (some q) ∧ w'.heap.size = w.heap.size
theorem Buf.far {w w' : World} {base : Nat} {v : Value} {l : List UInt8} {q : Nat} (h : Buf w base v l) (hg : w.grownBy w' (some q)) (hq : q < base) : Buf w' base v l :=
  World.ownsRow.kept h hg (by
    rcases h.form with ⟨rfl, _⟩ | ⟨g, cap, rfl, hb, _⟩
    · left; rfl
    · right; simp [Value.ownBlock]; omega)

set_option maxRecDepth 100000 in
set_option maxHeartbeats 1000000 in
theorem done_any (q : Nat) (T : TypeId) (l : List UInt8) (w : World) (hq : w.heap[q]? = some (.cells #[.string ⟨l.toArray⟩] T)) :
    Calls Tryz.prog 149 #[.pointer (some ⟨q, 0, none⟩)] w fun e w' => e = .returned (.bool l.isEmpty) ∧ w = w' := by
  have c0 := cells1 hq
  clear hq
  go_enter Tryz.func149, Tryz.ntmps149
  go_wp2_with fail
  go_ret
  exact ⟨rfl, rfl⟩
end Go.Proofs.YtnodhkjgnegkcaaGreatDoor

/-
  impl.readLimits: the bound of >= and <.
-/
namespace Go.Proofs.YtnodhkjgnegkcaaGreatDoor
open Go.RowKit

theorem lmT_ge (l : List UInt8) : (!(lmT [62, 61] l).isEmpty) = (geP l && readOk (l.drop 2)) ∧ ((lmT [62, 61] l) ≠ [] → lmT [62, 61] l = l.drop 2) := by
  unfold geP
  cases h1 : ([62, 61] : List UInt8).isPrefixOf l with
  | false => rw [lmT_no1 h1]; simp
  | true =>
    cases h2 : readOk (l.drop 2) with
    | false => rw [lmT_no2 (p := [62, 61]) h2]; simp
    | true =>
      rw [lmT_yes h1 h2]
      refine ⟨?_, fun _ => rfl⟩
      cases h3 : l.drop 2 with
      | nil => rw [h3, readOk_nil] at h2; cases h2
      | cons x y => simp
theorem lmT_lt (l : List UInt8) : (!(lmT [60] l).isEmpty) = (ltP l && readOk (l.drop 1)) ∧ ((lmT [60] l) ≠ [] → lmT [60] l = l.drop 1) := by
  unfold ltP
  cases h1 : ([60] : List UInt8).isPrefixOf l with
  | false => rw [lmT_no1 h1]; simp
  | true =>
    cases h2 : readOk (l.drop 1) with
    | false => rw [lmT_no2 (p := [60]) h2]; simp
    | true =>
      rw [lmT_yes h1 h2]
      refine ⟨?_, fun _ => rfl⟩
      cases h3 : l.drop 1 with
      | nil => rw [h3, readOk_nil] at h2; cases h2
      | cons x y => simp
theorem ge_lt_no {l : List UInt8} (h : lmT [62, 61] l ≠ []) : lmT [60] l = [] := by
  have h1 : ([62, 61] : List UInt8).isPrefixOf l = true := by
    cases h1 : ([62, 61] : List UInt8).isPrefixOf l with
    | true => rfl
    | false => exact absurd (lmT_no1 h1) h
  obtain ⟨t, rfl⟩ := List.isPrefixOf_iff_prefix.1 h1
  exact lmT_no1 (by simp [List.isPrefixOf])
theorem cut_both {l : List UInt8} (h : 0 ≤ Lib.indexByte l 32) : (Lib.cut l [32]).1 = cutA 32 l ∧ (Lib.cut l [32]).2.1 = cutB 32 l ∧ (Lib.cut l [32]).2.2 = true := by
  refine ⟨(cut_one 32 l).1, (cut_one 32 l).2, ?_⟩
  unfold Lib.cut; rw [index_one, if_pos h]
theorem cut_alone {l : List UInt8} (h : ¬ 0 ≤ Lib.indexByte l 32) : (Lib.cut l [32]).1 = l ∧ (Lib.cut l [32]).2.1 = [] ∧ (Lib.cut l [32]).2.2 = false := by
  unfold Lib.cut; rw [index_one, if_neg h]; exact ⟨rfl, rfl, rfl⟩
theorem cutA_le (m : UInt8) (l : List UInt8) : (cutA m l).length ≤ l.length := by have := cut_len m l; omega

theorem ne_empty {l : List UInt8} (h : l ≠ []) : l.isEmpty = false := by cases l with
  | nil => exact absurd rfl h
  | cons x y => rfl
set_option maxRecDepth 100000 in
set_option maxHeartbeats 4000000 in
theorem limits_both (l f g : List UInt8) (m : Int) (w : World) (hl : l.length ≤ 1048000) (hf : f.length ≤ 1048000) (hg : g.length ≤ 1048000) (ht : Tab w) (hm : w.cell? ⟨0, 0, none⟩ = some (.int .i64 m))
    (h1 : (Lib.cut l [32]).1 = f) (h2 : (Lib.cut l [32]).2.1 = g) (h3 : (Lib.cut l [32]).2.2 = true) (lo hi : List UInt8) (hlo : lmT [62, 61] f = lo) (hhi : lmT [60] g = hi) :
    Calls Tryz.prog 242 #[.string ⟨l.toArray⟩] w (AltIs w ((!lo.isEmpty) && (!hi.isEmpty)) (lo, hi)) := by
  have B0 : Below w.heap.size w (w.alloc (.cells #[.string ⟨#[]⟩, .string ⟨#[]⟩] 166)) := (Below.refl _ _).alloc (Nat.le_refl _) _
  have r0 := heap_alloc_new w (.cells #[.string ⟨#[]⟩, .string ⟨#[]⟩] 166)
  have HC := Lib.hid (fun (W : World) (h : Below w.heap.size w W) => cutSp_any l m W (by omega) (keepC h hm))
  rw [h1, h2, h3] at HC
  have HG := Lib.hid (fun (W : World) (h : Below w.heap.size w W) => readLimit_any f [62, 61] W hf (tab_below ht h))
  rw [hlo] at HG
  have HL := Lib.hid (fun (W : World) (h : Below w.heap.size w W) => readLimit_any g [60] W hg (tab_below ht h))
  rw [hhi] at HL
  clear h1 h2 h3 hlo hhi ht hm hl hf hg
  go_enter Tryz.func242, Tryz.ntmps242
  go_wp2_with fail
  refine (HC.out _ B0).mono ?_
  rintro e w1 ⟨rfl, n, hw1⟩
  have B1 : Below w.heap.size w w1 := by rw [hw1]; exact B0.trans (below_drewN _ _ n)
  have r1 : w1.heap[w.heap.size]? = some (.cells #[.string ⟨#[]⟩, .string ⟨#[]⟩] 166) := by rw [hw1]; exact r0
  clear hw1 r0 B0
  go_wp2_with fail
  refine (HG.out _ B1).mono ?_
  rintro e w2 ⟨rfl, hb2⟩
  have B2 := B1.trans (hb2.mono B1.size)
  have r2 := keepB r1 hb2
  have B3 := B2.alloc B2.size (.cells #[.string ⟨lo.toArray⟩, .string ⟨#[]⟩] 166)
  have r3 := keepA r2 (.cells #[.string ⟨lo.toArray⟩, .string ⟨#[]⟩] 166)
  have z3 := heap_alloc_new w2 (.cells #[.string ⟨lo.toArray⟩, .string ⟨#[]⟩] 166)
  have hs2 := lt_of_heap r2
  clear hb2 r1 B1 r2 B2
  go_wp2_with fail
  refine (HL.out _ B3).mono ?_
  rintro e w4 ⟨rfl, hb4⟩
  have B4 := B3.trans (hb4.mono B3.size)
  have r4 := keepB r3 hb4
  have z4 := keepB z3 hb4
  generalize w2.heap.size = Q at z4 hs2 ⊢
  have rr := heap_other (o := 1) r4 (.string ⟨hi.toArray⟩) (g := Q) (by omega)
  have zz := Lib.heap_setCell_same (i := 1) z4 (.string ⟨hi.toArray⟩)
  have BB := B4.setCell (p := ⟨Q, 1, none⟩) (Nat.le_of_lt hs2) (.string ⟨hi.toArray⟩)
  obtain ⟨v0, v1⟩ := two_cells z4
  have g1 := frozen2 z4 1
  clear hb4 r3 z3 B3 B4
  have hQR : Q ≠ w.heap.size := by omega
  have zz : (w4.setCell ⟨Q, 1, none⟩ (.string ⟨hi.toArray⟩)).heap[Q]? = some (.cells #[.string ⟨lo.toArray⟩, .string ⟨hi.toArray⟩] 166) := by simpa using zz
  obtain ⟨z0, z1⟩ := two_cells zz
  obtain ⟨y0, y1⟩ := two_cells rr
  have f0 := frozen2 rr 0
  have f1 := frozen2 rr 1
  clear r4 z4
  by_cases hl0 : lo = [] <;> by_cases hh0 : hi = []
  · subst hl0
    subst hh0
    have HE : Hid (((!([] : List UInt8).isEmpty) && (!([] : List UInt8).isEmpty)) = false) := Lib.hid (by rfl)
    go_wp2_with fail
    go_region
    all_goals go_wp2_with fail
    all_goals
      obtain ⟨x0, x1⟩ := two_cells (V := (((w4.setCell ⟨Q, 1, none⟩ (.string ⟨#[]⟩)).setCell ⟨w.heap.size, 0, none⟩ (.string ⟨#[]⟩)).setCell ⟨w.heap.size, 1, none⟩ (.string ⟨#[]⟩)).drew) (set2_heap rr (.string ⟨#[]⟩) (.string ⟨#[]⟩))
      refine bodyPost_ret (v := .tuple #[.agg #[.string ⟨#[]⟩, .string ⟨#[]⟩], .bool false]) ?_ rfl ⟨_, _, (by rw [HE.out]), fun _ => ⟨rfl, rfl⟩, (below_res2 BB (Nat.le_refl _) (.string ⟨#[]⟩) (.string ⟨#[]⟩)).trans (below_drewN _ _ 1)⟩
      simp [results, Tryz.results242, go_sem, x0, x1]
  · subst hl0
    have m1 : (hi == []) = false := by simpa using hh0
    have m2 : (hi != []) = true := by simpa using hh0
    have HE : Hid (((!([] : List UInt8).isEmpty) && (!(hi : List UInt8).isEmpty)) = false) := Lib.hid (by rw [ne_empty hh0]; rfl)
    clear hh0
    go_wp2_with fail
    go_region
    all_goals go_wp2_with fail
    all_goals
      obtain ⟨x0, x1⟩ := two_cells (V := (((w4.setCell ⟨Q, 1, none⟩ (.string ⟨hi.toArray⟩)).setCell ⟨w.heap.size, 0, none⟩ (.string ⟨#[]⟩)).setCell ⟨w.heap.size, 1, none⟩ (.string ⟨hi.toArray⟩)).drew) (set2_heap rr (.string ⟨#[]⟩) (.string ⟨hi.toArray⟩))
      refine bodyPost_ret (v := .tuple #[.agg #[.string ⟨#[]⟩, .string ⟨hi.toArray⟩], .bool false]) ?_ rfl ⟨_, _, (by rw [HE.out]), fun _ => ⟨rfl, rfl⟩, (below_res2 BB (Nat.le_refl _) (.string ⟨#[]⟩) (.string ⟨hi.toArray⟩)).trans (below_drewN _ _ 1)⟩
      simp [results, Tryz.results242, go_sem, x0, x1]
  · have n1 : (lo == []) = false := by simpa using hl0
    have n2 : (lo != []) = true := by simpa using hl0
    subst hh0
    have HE : Hid (((!(lo : List UInt8).isEmpty) && (!([] : List UInt8).isEmpty)) = false) := Lib.hid (by rw [ne_empty hl0]; rfl)
    clear hl0
    go_wp2_with fail
    go_region
    all_goals go_wp2_with fail
    all_goals
      obtain ⟨x0, x1⟩ := two_cells (V := (((w4.setCell ⟨Q, 1, none⟩ (.string ⟨#[]⟩)).setCell ⟨w.heap.size, 0, none⟩ (.string ⟨lo.toArray⟩)).setCell ⟨w.heap.size, 1, none⟩ (.string ⟨#[]⟩)).drew) (set2_heap rr (.string ⟨lo.toArray⟩) (.string ⟨#[]⟩))
      refine bodyPost_ret (v := .tuple #[.agg #[.string ⟨lo.toArray⟩, .string ⟨#[]⟩], .bool false]) ?_ rfl ⟨_, _, (by rw [HE.out]), fun _ => ⟨rfl, rfl⟩, (below_res2 BB (Nat.le_refl _) (.string ⟨lo.toArray⟩) (.string ⟨#[]⟩)).trans (below_drewN _ _ 1)⟩
      simp [results, Tryz.results242, go_sem, x0, x1]
  · have n1 : (lo == []) = false := by simpa using hl0
    have n2 : (lo != []) = true := by simpa using hl0
    have m1 : (hi == []) = false := by simpa using hh0
    have m2 : (hi != []) = true := by simpa using hh0
    have HE : Hid (((!(lo : List UInt8).isEmpty) && (!(hi : List UInt8).isEmpty)) = true) := Lib.hid (by rw [ne_empty hl0, ne_empty hh0]; rfl)
    clear hl0 hh0
    go_wp2_with fail
    go_region
    all_goals go_wp2_with fail
    all_goals
      obtain ⟨x0, x1⟩ := two_cells (V := (((w4.setCell ⟨Q, 1, none⟩ (.string ⟨hi.toArray⟩)).setCell ⟨w.heap.size, 0, none⟩ (.string ⟨lo.toArray⟩)).setCell ⟨w.heap.size, 1, none⟩ (.string ⟨hi.toArray⟩)).drew) (set2_heap rr (.string ⟨lo.toArray⟩) (.string ⟨hi.toArray⟩))
      refine bodyPost_ret (v := .tuple #[.agg #[.string ⟨lo.toArray⟩, .string ⟨hi.toArray⟩], .bool true]) ?_ rfl ⟨_, _, (by rw [HE.out]), fun _ => ⟨rfl, rfl⟩, (below_res2 BB (Nat.le_refl _) (.string ⟨lo.toArray⟩) (.string ⟨hi.toArray⟩)).trans (below_drewN _ _ 1)⟩
      simp [results, Tryz.results242, go_sem, x0, x1]

set_option maxRecDepth 100000 in
set_option maxHeartbeats 4000000 in
theorem limits_alone (l f g : List UInt8) (m : Int) (w : World) (hl : l.length ≤ 1048000) (hf : f.length ≤ 1048000) (_hg : g.length ≤ 1048000) (ht : Tab w) (hm : w.cell? ⟨0, 0, none⟩ = some (.int .i64 m))
    (h1 : (Lib.cut l [32]).1 = f) (h2 : (Lib.cut l [32]).2.1 = g) (h3 : (Lib.cut l [32]).2.2 = false) (lo hi : List UInt8) (hlo : lmT [62, 61] f = lo) (hhi : lmT [60] f = hi) :
    Calls Tryz.prog 242 #[.string ⟨l.toArray⟩] w (AltIs w ((!lo.isEmpty) || (!hi.isEmpty)) (lo, hi)) := by
  have B0 : Below w.heap.size w (w.alloc (.cells #[.string ⟨#[]⟩, .string ⟨#[]⟩] 166)) := (Below.refl _ _).alloc (Nat.le_refl _) _
  have r0 := heap_alloc_new w (.cells #[.string ⟨#[]⟩, .string ⟨#[]⟩] 166)
  have HC := Lib.hid (fun (W : World) (h : Below w.heap.size w W) => cutSp_any l m W (by omega) (keepC h hm))
  rw [h1, h2, h3] at HC
  have HG := Lib.hid (fun (W : World) (h : Below w.heap.size w W) => readLimit_any f [62, 61] W hf (tab_below ht h))
  rw [hlo] at HG
  have HL := Lib.hid (fun (W : World) (h : Below w.heap.size w W) => readLimit_any f [60] W hf (tab_below ht h))
  rw [hhi] at HL
  clear h1 h2 h3 hlo hhi ht hm hl hf _hg
  go_enter Tryz.func242, Tryz.ntmps242
  go_wp2_with fail
  refine (HC.out _ B0).mono ?_
  rintro e w1 ⟨rfl, n, hw1⟩
  have B1 : Below w.heap.size w w1 := by rw [hw1]; exact B0.trans (below_drewN _ _ n)
  have r1 : w1.heap[w.heap.size]? = some (.cells #[.string ⟨#[]⟩, .string ⟨#[]⟩] 166) := by rw [hw1]; exact r0
  clear hw1 r0 B0
  go_wp2_with fail
  refine (HG.out _ B1).mono ?_
  rintro e w2 ⟨rfl, hb2⟩
  have B2 := B1.trans (hb2.mono B1.size)
  have r2 := keepB r1 hb2
  have B3 := B2.alloc B2.size (.cells #[.string ⟨lo.toArray⟩, .string ⟨#[]⟩] 166)
  have r3 := keepA r2 (.cells #[.string ⟨lo.toArray⟩, .string ⟨#[]⟩] 166)
  have z3 := heap_alloc_new w2 (.cells #[.string ⟨lo.toArray⟩, .string ⟨#[]⟩] 166)
  have hs2 := lt_of_heap r2
  clear hb2 r1 B1 r2 B2
  go_wp2_with fail
  refine (HL.out _ B3).mono ?_
  rintro e w4 ⟨rfl, hb4⟩
  have B4 := B3.trans (hb4.mono B3.size)
  have r4 := keepB r3 hb4
  have z4 := keepB z3 hb4
  generalize w2.heap.size = Q at z4 hs2 ⊢
  have rr := heap_other (o := 1) r4 (.string ⟨hi.toArray⟩) (g := Q) (by omega)
  have zz := Lib.heap_setCell_same (i := 1) z4 (.string ⟨hi.toArray⟩)
  have BB := B4.setCell (p := ⟨Q, 1, none⟩) (Nat.le_of_lt hs2) (.string ⟨hi.toArray⟩)
  obtain ⟨v0, v1⟩ := two_cells z4
  have g1 := frozen2 z4 1
  clear hb4 r3 z3 B3 B4
  have hQR : Q ≠ w.heap.size := by omega
  have zz : (w4.setCell ⟨Q, 1, none⟩ (.string ⟨hi.toArray⟩)).heap[Q]? = some (.cells #[.string ⟨lo.toArray⟩, .string ⟨hi.toArray⟩] 166) := by simpa using zz
  obtain ⟨z0, z1⟩ := two_cells zz
  obtain ⟨y0, y1⟩ := two_cells rr
  have f0 := frozen2 rr 0
  have f1 := frozen2 rr 1
  clear r4 z4
  by_cases hl0 : lo = [] <;> by_cases hh0 : hi = []
  · subst hl0
    subst hh0
    have HE : Hid (((!([] : List UInt8).isEmpty) || (!([] : List UInt8).isEmpty)) = false) := Lib.hid (by rfl)
    go_wp2_with fail
    go_region
    all_goals go_wp2_with fail
    all_goals
      obtain ⟨x0, x1⟩ := two_cells (V := (((w4.setCell ⟨Q, 1, none⟩ (.string ⟨#[]⟩)).setCell ⟨w.heap.size, 0, none⟩ (.string ⟨#[]⟩)).setCell ⟨w.heap.size, 1, none⟩ (.string ⟨#[]⟩)).drew) (set2_heap rr (.string ⟨#[]⟩) (.string ⟨#[]⟩))
      refine bodyPost_ret (v := .tuple #[.agg #[.string ⟨#[]⟩, .string ⟨#[]⟩], .bool false]) ?_ rfl ⟨_, _, (by rw [HE.out]), fun _ => ⟨rfl, rfl⟩, (below_res2 BB (Nat.le_refl _) (.string ⟨#[]⟩) (.string ⟨#[]⟩)).trans (below_drewN _ _ 1)⟩
      simp [results, Tryz.results242, go_sem, x0, x1]
  · subst hl0
    have m1 : (hi == []) = false := by simpa using hh0
    have m2 : (hi != []) = true := by simpa using hh0
    have HE : Hid (((!([] : List UInt8).isEmpty) || (!(hi : List UInt8).isEmpty)) = true) := Lib.hid (by rw [ne_empty hh0]; rfl)
    clear hh0
    go_wp2_with fail
    go_region
    all_goals go_wp2_with fail
    all_goals
      obtain ⟨x0, x1⟩ := two_cells (V := (((w4.setCell ⟨Q, 1, none⟩ (.string ⟨hi.toArray⟩)).setCell ⟨w.heap.size, 0, none⟩ (.string ⟨#[]⟩)).setCell ⟨w.heap.size, 1, none⟩ (.string ⟨hi.toArray⟩)).drew) (set2_heap rr (.string ⟨#[]⟩) (.string ⟨hi.toArray⟩))
      refine bodyPost_ret (v := .tuple #[.agg #[.string ⟨#[]⟩, .string ⟨hi.toArray⟩], .bool true]) ?_ rfl ⟨_, _, (by rw [HE.out]), fun _ => ⟨rfl, rfl⟩, (below_res2 BB (Nat.le_refl _) (.string ⟨#[]⟩) (.string ⟨hi.toArray⟩)).trans (below_drewN _ _ 1)⟩
      simp [results, Tryz.results242, go_sem, x0, x1]
  · have n1 : (lo == []) = false := by simpa using hl0
    have n2 : (lo != []) = true := by simpa using hl0
    subst hh0
    have HE : Hid (((!(lo : List UInt8).isEmpty) || (!([] : List UInt8).isEmpty)) = true) := Lib.hid (by rw [ne_empty hl0]; rfl)
    clear hl0
    go_wp2_with fail
    go_region
    all_goals go_wp2_with fail
    all_goals
      obtain ⟨x0, x1⟩ := two_cells (V := (((w4.setCell ⟨Q, 1, none⟩ (.string ⟨#[]⟩)).setCell ⟨w.heap.size, 0, none⟩ (.string ⟨lo.toArray⟩)).setCell ⟨w.heap.size, 1, none⟩ (.string ⟨#[]⟩)).drew) (set2_heap rr (.string ⟨lo.toArray⟩) (.string ⟨#[]⟩))
      refine bodyPost_ret (v := .tuple #[.agg #[.string ⟨lo.toArray⟩, .string ⟨#[]⟩], .bool true]) ?_ rfl ⟨_, _, (by rw [HE.out]), fun _ => ⟨rfl, rfl⟩, (below_res2 BB (Nat.le_refl _) (.string ⟨lo.toArray⟩) (.string ⟨#[]⟩)).trans (below_drewN _ _ 1)⟩
      simp [results, Tryz.results242, go_sem, x0, x1]
  · have n1 : (lo == []) = false := by simpa using hl0
    have n2 : (lo != []) = true := by simpa using hl0
    have m1 : (hi == []) = false := by simpa using hh0
    have m2 : (hi != []) = true := by simpa using hh0
    have HE : Hid (((!(lo : List UInt8).isEmpty) || (!(hi : List UInt8).isEmpty)) = true) := Lib.hid (by rw [ne_empty hl0, ne_empty hh0]; rfl)
    clear hl0 hh0
    go_wp2_with fail
    go_region
    all_goals go_wp2_with fail
    all_goals
      obtain ⟨x0, x1⟩ := two_cells (V := (((w4.setCell ⟨Q, 1, none⟩ (.string ⟨hi.toArray⟩)).setCell ⟨w.heap.size, 0, none⟩ (.string ⟨lo.toArray⟩)).setCell ⟨w.heap.size, 1, none⟩ (.string ⟨hi.toArray⟩)).drew) (set2_heap rr (.string ⟨lo.toArray⟩) (.string ⟨hi.toArray⟩))
      refine bodyPost_ret (v := .tuple #[.agg #[.string ⟨lo.toArray⟩, .string ⟨hi.toArray⟩], .bool true]) ?_ rfl ⟨_, _, (by rw [HE.out]), fun _ => ⟨rfl, rfl⟩, (below_res2 BB (Nat.le_refl _) (.string ⟨lo.toArray⟩) (.string ⟨hi.toArray⟩)).trans (below_drewN _ _ 1)⟩
      simp [results, Tryz.results242, go_sem, x0, x1]


theorem readLimits_any (l : List UInt8) (m : Int) (w : World) (hl : l.length ≤ 1048000) (ht : Tab w) (hm : w.cell? ⟨0, 0, none⟩ = some (.int .i64 m)) :
    Calls Tryz.prog 242 #[.string ⟨l.toArray⟩] w (AltIs w (lmOk l) (lmB l)) := by
  by_cases hi : 0 ≤ Lib.indexByte l 32
  · obtain ⟨e1, e2, e3⟩ := cut_both hi
    refine (limits_both l (cutA 32 l) (cutB 32 l) m w hl (by have := cutA_le 32 l; omega) (by have := cutB_le 32 l; omega) ht hm e1 e2 e3 _ _ rfl rfl).mono fun e w' h => ?_
    obtain ⟨x, y, he, hxy, hb⟩ := h
    obtain ⟨a1, a2⟩ := lmT_ge (cutA 32 l)
    obtain ⟨b1, b2⟩ := lmT_lt (cutB 32 l)
    have hok : lmOk l = ((!(lmT [62, 61] (cutA 32 l)).isEmpty) && (!(lmT [60] (cutB 32 l)).isEmpty)) := by unfold lmOk; rw [if_pos hi, a1, b1]
    refine ⟨x, y, by rw [hok]; exact he, fun hk => ?_, hb⟩
    rw [hok] at hk
    have hh := hxy hk
    simp only [Bool.and_eq_true, Bool.not_eq_true', List.isEmpty_eq_false_iff] at hk
    unfold lmB; rw [if_pos hi]
    rw [a2 hk.1, b2 hk.2] at hh
    exact hh
  · obtain ⟨e1, e2, e3⟩ := cut_alone hi
    refine (limits_alone l l [] m w hl hl (by simp) ht hm e1 e2 e3 _ _ rfl rfl).mono fun e w' h => ?_
    obtain ⟨x, y, he, hxy, hb⟩ := h
    obtain ⟨a1, a2⟩ := lmT_ge l
    obtain ⟨b1, b2⟩ := lmT_lt l
    have hok : lmOk l = ((!(lmT [62, 61] l).isEmpty) || (!(lmT [60] l).isEmpty)) := by unfold lmOk; rw [if_neg hi, a1, b1]
    refine ⟨x, y, by rw [hok]; exact he, fun hk => ?_, hb⟩
    rw [hok] at hk
    have hh := hxy hk
    unfold lmB; rw [if_neg hi, ← a1]
    by_cases hz : lmT [62, 61] l = []
    · rw [hz] at hk hh ⊢
      simp at hk
      rw [b2 hk] at hh
      simpa using hh
    · rw [ge_lt_no hz, a2 hz] at hh
      rw [ne_empty hz]
      simpa using hh
end Go.Proofs.YtnodhkjgnegkcaaGreatDoor

/-
  spec.l03Part: one alternative of a range.
-/
namespace Go.Proofs.YtnodhkjgnegkcaaGreatDoor
open Go.RowKit

theorem AltIs.no {w w' : World} {b b' : Bd} {e : Ending} (h : AltIs w false b e w') : AltIs w false b' e w' := by
  obtain ⟨x, y, he, _, hb⟩ := h
  exact ⟨x, y, he, fun h => (by cases h), hb⟩
def shOk (l : List UInt8) : Bool := decide (l.count 46 < 2) && fromOk (l ++ zrs (l.count 46)) (l.count 46)
def shB (l : List UInt8) : Bd := fromB (l ++ zrs (l.count 46)) (l.count 46)
theorem l03Short_any (l : List UInt8) (w : World) (hl : l.length ≤ 1048000) : Calls Tryz.prog 185 #[.string ⟨l.toArray⟩] w (AltIs w (shOk l) (shB l)) := by
  rcases Nat.lt_or_ge (l.count 46) 2 with h | h
  · have hc : l.count 46 = 0 ∨ l.count 46 = 1 := by omega
    unfold shOk shB
    rcases hc with hc | hc
    · rw [hc]; exact l03Short_0 l w hl hc
    · rw [hc]; exact l03Short_1 l w hl hc
  · have : shOk l = false := by unfold shOk; rw [decide_eq_false (by omega)]; rfl
    rw [this]
    exact (l03Short_many l w hl h).mono fun e w' h => h.no
def tlOk (l : List UInt8) : Bool := exOk l || shOk l
def tlB (l : List UInt8) : Bd := if exOk l = true then (l, exHigh l) else shB l
theorem tl_eq (l : List UInt8) : tlOk l = (if l.count 46 < 2 then fromOk (l ++ zrs (l.count 46)) (l.count 46) else exOk l) ∧ (tlOk l = true → tlB l = if l.count 46 < 2 then fromB (l ++ zrs (l.count 46)) (l.count 46) else (l, exHigh l)) := by
  unfold tlOk tlB shOk shB
  by_cases h : l.count 46 < 2
  · rw [few_noEx h, if_pos h, if_pos h, decide_eq_true h]; simp
  · rw [if_neg h, if_neg h, decide_eq_false h]
    cases exOk l <;> simp
/-- A text that has none of the signs ahead. -/
def plainA (l : List UInt8) : Prop := l ≠ [42] ∧ l.head? ≠ some 94 ∧ l.head? ≠ some 126 ∧ l.head? ≠ some 62 ∧ l.head? ≠ some 60
theorem alt_plain {l : List UInt8} (h : plainA l) : altOk l = tlOk l ∧ (altOk l = true → altB l = tlB l) := by
  obtain ⟨h1, h2, h3, h4, h5⟩ := h
  obtain ⟨e1, e2⟩ := tl_eq l
  have ha : altOk l = tlOk l := by unfold altOk; rw [if_neg h1, if_neg h2, if_neg h3, if_neg (by simp [h4, h5]), e1]
  refine ⟨ha, fun hh => ?_⟩
  rw [ha] at hh
  unfold altB; rw [if_neg h1, if_neg h2, if_neg h3, if_neg (by simp [h4, h5]), e2 hh]
theorem alt_caret (r : List UInt8) : altOk (94 :: r) = fromOk r (crt r) ∧ altB (94 :: r) = fromB r (crt r) := by
  unfold altOk altB; simp
theorem alt_tilde (r : List UInt8) : altOk (126 :: r) = fromOk r 1 ∧ altB (126 :: r) = fromB r 1 := by
  unfold altOk altB; simp
theorem alt_signs {l : List UInt8} (h : l.head? = some 62 ∨ l.head? = some 60) : altOk l = lmOk l ∧ altB l = lmB l := by
  have h1 : l ≠ [42] := fun e => by subst e; simp at h
  have h2 : l.head? ≠ some 94 := fun e => by rw [e] at h; simp at h
  have h3 : l.head? ≠ some 126 := fun e => by rw [e] at h; simp at h
  unfold altOk altB; rw [if_neg h1, if_neg h2, if_neg h3, if_pos h, if_neg h1, if_neg h2, if_neg h3, if_pos h]; exact ⟨rfl, rfl⟩
theorem crt_in (l : List UInt8) : inI (crt l) 0 2 = true := by unfold crt inI; split <;> (try split) <;> decide
theorem byte_no {c d : UInt8} (h : c ≠ d) : (((c.toNat : Int)) == (d.toNat : Int)) = false := int_beq_false (fun e => h (UInt8.toNat_inj.1 (by omega)))
theorem one42 {s : ByteArray} {l : List UInt8} (hs : s = ⟨l.toArray⟩) (h : l ≠ [42]) : (s.toList == [42]) = false := by
  subst hs
  rw [ByteArray.toList_eq]
  simpa using h

set_option maxRecDepth 100000 in
set_option maxHeartbeats 4000000 in
theorem part_star (s : ByteArray) (w : World) (hs : (s.toList == [42]) = true) :
    Calls Tryz.prog 136 #[.string s] w (AltIs w true ([], [])) := by
  have B0 : Below w.heap.size w (w.alloc (.cells #[.string ⟨#[]⟩, .string ⟨#[]⟩] 166)) := (Below.refl _ _).alloc (Nat.le_refl _) _
  go_enter Tryz.func136, Tryz.ntmps136
  go_wp2_with fail
  refine bodyPost_ret (v := .tuple #[.agg #[.string ⟨#[]⟩, .string ⟨#[]⟩], .bool true]) ?_ rfl ⟨_, _, rfl, fun _ => ⟨rfl, rfl⟩, B0⟩
  simp [results, Tryz.results136, go_sem]

set_option maxRecDepth 100000 in
set_option maxHeartbeats 4000000 in
theorem part_caret_no (s : ByteArray) (r : List UInt8) (w : World) (hl : r.length ≤ 1048000) (h42 : (s.toList == [42]) = false) (h1 : 1 < s.size) (b94 : (((s[0]'(by omega)).toNat : Int) == 94) = true) (sl : ∀ w, (Instr.slice 9 (.string s) (some (.int .i64 1)) none none).run Tryz.prog w = .ok (.string ⟨r.toArray⟩) w) (hok : readOk r = false) :
    Calls Tryz.prog 136 #[.string s] w (AltIs w false ([], [])) := by
  have B0 : Below w.heap.size w (w.alloc (.cells #[.string ⟨#[]⟩, .string ⟨#[]⟩] 166)) := (Below.refl _ _).alloc (Nat.le_refl _) _
  have r0 := heap_alloc_new w (.cells #[.string ⟨#[]⟩, .string ⟨#[]⟩] 166)
  have HV : Hid (∀ W, Calls Tryz.prog 91 #[.string ⟨r.toArray⟩] W (ReadIs W r)) := Lib.hid (fun W => specReadVersion_any ⟨r.toArray⟩ W (by rw [size_of]; omega))
  have HO := Lib.hid hok
  clear hok
  go_enter Tryz.func136, Tryz.ntmps136
  go_wp2_with fail
  refine (HV.out _).mono ?_
  rintro e w2 ⟨u, rfl, hu, hb2⟩
  obtain ⟨U, uc, rfl⟩ := hu.slice
  rw [HO.out]
  have B2 := B0.trans (hb2.mono B0.size)
  have r2 := keepB r0 hb2
  have hlt := lt_of_heap r2
  obtain ⟨c0, c1, f1⟩ := cellsD r2
  have B3 := (below_res2 B2 (Nat.le_refl _) (.string ⟨#[]⟩) (.string ⟨#[]⟩)).alloc (by simpa using B2.size) (.cells #[.int .i64 (readA r 0), .int .i64 (readA r 1), .int .i64 (readA r 2), .slice U (readP r).length uc] 117)
  obtain ⟨y0, y1⟩ := two_cells (keepA (set2_heap r2 (.string ⟨#[]⟩) (.string ⟨#[]⟩)) (.cells #[.int .i64 (readA r 0), .int .i64 (readA r 1), .int .i64 (readA r 2), .slice U (readP r).length uc] 117))
  go_wp2_with fail
  refine bodyPost_ret (v := .tuple #[.agg #[.string ⟨#[]⟩, .string ⟨#[]⟩], .bool false]) ?_ rfl ⟨_, _, rfl, fun h => (by cases h), ?_⟩
  · simp [results, Tryz.results136, go_sem, y0, y1]
  · exact B3

set_option maxRecDepth 100000 in
set_option maxHeartbeats 4000000 in
theorem part_caret_yes (s : ByteArray) (r : List UInt8) (w : World) (hl : r.length ≤ 1048000) (h42 : (s.toList == [42]) = false) (h1 : 1 < s.size) (b94 : (((s[0]'(by omega)).toNat : Int) == 94) = true) (b126 : (((s[0]'(by omega)).toNat : Int) == 126) = false) (sl : ∀ w, (Instr.slice 9 (.string s) (some (.int .i64 1)) none none).run Tryz.prog w = .ok (.string ⟨r.toArray⟩) w) (hok : readOk r = true) :
    Calls Tryz.prog 136 #[.string s] w (AltIs w (fromOk r (crt r)) (fromB r (crt r))) := by
  have B0 : Below w.heap.size w (w.alloc (.cells #[.string ⟨#[]⟩, .string ⟨#[]⟩] 166)) := (Below.refl _ _).alloc (Nat.le_refl _) _
  have r0 := heap_alloc_new w (.cells #[.string ⟨#[]⟩, .string ⟨#[]⟩] 166)
  have HV : Hid (∀ W, Calls Tryz.prog 91 #[.string ⟨r.toArray⟩] W (ReadIs W r)) := Lib.hid (fun W => specReadVersion_any ⟨r.toArray⟩ W (by rw [size_of]; omega))
  have HO := Lib.hid hok
  have HRN := read_num hok
  have HC := Lib.hid (fun (A : Option Addr) (n cap : Nat) W => l03Caret_any (readA r 0) (readA r 1) (readA r 2) A n cap W)
  rw [fromOk_of hok]
  unfold fromB
  have HF := Lib.hid (fun (A : Option Addr) (n cap : Nat) W => l03From_any r (readA r 0) (readA r 1) (readA r 2) (crt r) A n cap W HRN (crt_in r))
  obtain ⟨p, HP⟩ : ∃ p : Int, Hid ((crt r) = p) := ⟨_, Lib.hid rfl⟩
  rw [show (if 0 < readA r 0 then (0 : Int) else if 0 < readA r 1 then 1 else 2) = crt r from rfl] at HC
  simp only [HP.out] at HF HC ⊢
  obtain ⟨hi, HH⟩ : ∃ hi, Hid (rsd (readA r 0) (readA r 1) (readA r 2) p = hi) := ⟨_, Lib.hid rfl⟩
  simp only [HH.out] at HF ⊢
  obtain ⟨q, HQ⟩ : ∃ q, Hid ((!hi.isEmpty) = q) := ⟨_, Lib.hid rfl⟩
  rw [HQ.out] at HF ⊢
  clear HRN hok
  go_enter Tryz.func136, Tryz.ntmps136
  go_wp2_with fail
  refine (HV.out _).mono ?_
  rintro e w2 ⟨u, rfl, hu, hb2⟩
  obtain ⟨U, uc, rfl⟩ := hu.slice
  rw [HO.out]
  have B2 := B0.trans (hb2.mono B0.size)
  have r2 := keepB r0 hb2
  have v3 := heap_alloc_new w2 (.cells #[.int .i64 (readA r 0), .int .i64 (readA r 1), .int .i64 (readA r 2), .slice U (readP r).length uc] 117)
  have r3 := keepA r2 (.cells #[.int .i64 (readA r 0), .int .i64 (readA r 1), .int .i64 (readA r 2), .slice U (readP r).length uc] 117)
  obtain ⟨p0, p1, p2, p3⟩ := cells4 v3
  have BV : Below w.heap.size w ((w2.alloc (.cells #[.int .i64 (readA r 0), .int .i64 (readA r 1), .int .i64 (readA r 2), .slice U (readP r).length uc] 117)).drew) := (B2.alloc B2.size _).trans (below_drewN _ _ 1)
  clear hb2 hu
  go_wp2_with fail
  go_region_held3 (fun W => W.cell? ⟨w2.heap.size, 0, none⟩ = some (.int .i64 (readA r 0)) ∧ W.cell? ⟨w2.heap.size, 1, none⟩ = some (.int .i64 (readA r 1)) ∧ W.cell? ⟨w2.heap.size, 2, none⟩ = some (.int .i64 (readA r 2)) ∧ W.cell? ⟨w2.heap.size, 3, none⟩ = some (.slice U (readP r).length uc)) (first | exact ⟨p0, p1, p2, p3⟩ | exact ⟨(cell_far2 hq _ _).trans p0, (cell_far2 hq _ _).trans p1, (cell_far2 hq _ _).trans p2, (cell_far2 hq _ _).trans p3⟩ | go_keep) ((first
    | (go_at_call 182; (with_reducible refine (HC.out _ _ _ _).mono ?_); rintro e w5 ⟨rfl, hb5⟩; have B5 := BV.trans (hb5.mono BV.size); have v5 := keepB (W := (w2.alloc (.cells #[.int .i64 (readA r 0), .int .i64 (readA r 1), .int .i64 (readA r 2), .slice U (readP r).length uc] 117)).drew) v3 hb5; have r5 := keepB (W := (w2.alloc (.cells #[.int .i64 (readA r 0), .int .i64 (readA r 1), .int .i64 (readA r 2), .slice U (readP r).length uc] 117)).drew) r3 hb5; obtain ⟨p0, p1, p2, p3⟩ := cells4 v5)
    | (go_at_call 181; (with_reducible refine (HF.out _ _ _ _).mono ?_); rintro e w7 ⟨x, y, rfl, hxy, hb7⟩; have B7 := B5.trans (hb7.mono B5.size); have v7 := keepB v5 hb7; have r7 := keepB r5 hb7; have hq : w2.heap.size ≠ w.heap.size := Nat.ne_of_gt (lt_of_heap r2); obtain ⟨c0, c1, f1⟩ := cellsD r7; obtain ⟨p0, p1, p2, p3⟩ := cells4 v7)))
  all_goals
    go_wp2_with fail
    refine bodyPost_ret (v := .tuple #[.agg #[.string x, .string y], .bool q]) ?_ rfl ⟨_, _, rfl, hxy, ?_⟩
    · simp [results, Tryz.results136, go_sem, c0, c1]
    · exact below_res2 B7 (Nat.le_refl _) _ _

set_option maxRecDepth 100000 in
set_option maxHeartbeats 4000000 in
theorem part_tilde_no (s : ByteArray) (r : List UInt8) (w : World) (hl : r.length ≤ 1048000) (h42 : (s.toList == [42]) = false) (h1 : 1 < s.size) (b94 : (((s[0]'(by omega)).toNat : Int) == 94) = false) (b126 : (((s[0]'(by omega)).toNat : Int) == 126) = true) (sl : ∀ w, (Instr.slice 9 (.string s) (some (.int .i64 1)) none none).run Tryz.prog w = .ok (.string ⟨r.toArray⟩) w) (hok : readOk r = false) :
    Calls Tryz.prog 136 #[.string s] w (AltIs w false ([], [])) := by
  have B0 : Below w.heap.size w (w.alloc (.cells #[.string ⟨#[]⟩, .string ⟨#[]⟩] 166)) := (Below.refl _ _).alloc (Nat.le_refl _) _
  have r0 := heap_alloc_new w (.cells #[.string ⟨#[]⟩, .string ⟨#[]⟩] 166)
  have HV : Hid (∀ W, Calls Tryz.prog 91 #[.string ⟨r.toArray⟩] W (ReadIs W r)) := Lib.hid (fun W => specReadVersion_any ⟨r.toArray⟩ W (by rw [size_of]; omega))
  have HO := Lib.hid hok
  clear hok
  go_enter Tryz.func136, Tryz.ntmps136
  go_wp2_with fail
  refine (HV.out _).mono ?_
  rintro e w2 ⟨u, rfl, hu, hb2⟩
  obtain ⟨U, uc, rfl⟩ := hu.slice
  rw [HO.out]
  have B2 := B0.trans (hb2.mono B0.size)
  have r2 := keepB r0 hb2
  have hlt := lt_of_heap r2
  obtain ⟨c0, c1, f1⟩ := cellsD r2
  have B3 := (below_res2 B2 (Nat.le_refl _) (.string ⟨#[]⟩) (.string ⟨#[]⟩)).alloc (by simpa using B2.size) (.cells #[.int .i64 (readA r 0), .int .i64 (readA r 1), .int .i64 (readA r 2), .slice U (readP r).length uc] 117)
  obtain ⟨y0, y1⟩ := two_cells (keepA (set2_heap r2 (.string ⟨#[]⟩) (.string ⟨#[]⟩)) (.cells #[.int .i64 (readA r 0), .int .i64 (readA r 1), .int .i64 (readA r 2), .slice U (readP r).length uc] 117))
  go_wp2_with fail
  refine bodyPost_ret (v := .tuple #[.agg #[.string ⟨#[]⟩, .string ⟨#[]⟩], .bool false]) ?_ rfl ⟨_, _, rfl, fun h => (by cases h), ?_⟩
  · simp [results, Tryz.results136, go_sem, y0, y1]
  · exact B3

set_option maxRecDepth 100000 in
set_option maxHeartbeats 4000000 in
theorem part_tilde_yes (s : ByteArray) (r : List UInt8) (w : World) (hl : r.length ≤ 1048000) (h42 : (s.toList == [42]) = false) (h1 : 1 < s.size) (b94 : (((s[0]'(by omega)).toNat : Int) == 94) = false) (b126 : (((s[0]'(by omega)).toNat : Int) == 126) = true) (sl : ∀ w, (Instr.slice 9 (.string s) (some (.int .i64 1)) none none).run Tryz.prog w = .ok (.string ⟨r.toArray⟩) w) (hok : readOk r = true) :
    Calls Tryz.prog 136 #[.string s] w (AltIs w (fromOk r 1) (fromB r 1)) := by
  have B0 : Below w.heap.size w (w.alloc (.cells #[.string ⟨#[]⟩, .string ⟨#[]⟩] 166)) := (Below.refl _ _).alloc (Nat.le_refl _) _
  have r0 := heap_alloc_new w (.cells #[.string ⟨#[]⟩, .string ⟨#[]⟩] 166)
  have HV : Hid (∀ W, Calls Tryz.prog 91 #[.string ⟨r.toArray⟩] W (ReadIs W r)) := Lib.hid (fun W => specReadVersion_any ⟨r.toArray⟩ W (by rw [size_of]; omega))
  have HO := Lib.hid hok
  have HRN := read_num hok
  rw [fromOk_of hok]
  unfold fromB
  have HF := Lib.hid (fun (A : Option Addr) (n cap : Nat) W => l03From_any r (readA r 0) (readA r 1) (readA r 2) 1 A n cap W HRN (by decide))
  obtain ⟨p, HP⟩ : ∃ p : Int, Hid (1 = p) := ⟨_, Lib.hid rfl⟩
  skip
  obtain ⟨hi, HH⟩ : ∃ hi, Hid (rsd (readA r 0) (readA r 1) (readA r 2) 1 = hi) := ⟨_, Lib.hid rfl⟩
  simp only [HH.out] at HF ⊢
  obtain ⟨q, HQ⟩ : ∃ q, Hid ((!hi.isEmpty) = q) := ⟨_, Lib.hid rfl⟩
  rw [HQ.out] at HF ⊢
  clear HRN hok
  go_enter Tryz.func136, Tryz.ntmps136
  go_wp2_with fail
  refine (HV.out _).mono ?_
  rintro e w2 ⟨u, rfl, hu, hb2⟩
  obtain ⟨U, uc, rfl⟩ := hu.slice
  rw [HO.out]
  have B2 := B0.trans (hb2.mono B0.size)
  have r2 := keepB r0 hb2
  have v3 := heap_alloc_new w2 (.cells #[.int .i64 (readA r 0), .int .i64 (readA r 1), .int .i64 (readA r 2), .slice U (readP r).length uc] 117)
  have r3 := keepA r2 (.cells #[.int .i64 (readA r 0), .int .i64 (readA r 1), .int .i64 (readA r 2), .slice U (readP r).length uc] 117)
  obtain ⟨p0, p1, p2, p3⟩ := cells4 v3
  have BV : Below w.heap.size w ((w2.alloc (.cells #[.int .i64 (readA r 0), .int .i64 (readA r 1), .int .i64 (readA r 2), .slice U (readP r).length uc] 117)).drew) := (B2.alloc B2.size _).trans (below_drewN _ _ 1)
  clear hb2 hu
  go_wp2_with fail
  go_region_held3 (fun W => W.cell? ⟨w2.heap.size, 0, none⟩ = some (.int .i64 (readA r 0)) ∧ W.cell? ⟨w2.heap.size, 1, none⟩ = some (.int .i64 (readA r 1)) ∧ W.cell? ⟨w2.heap.size, 2, none⟩ = some (.int .i64 (readA r 2)) ∧ W.cell? ⟨w2.heap.size, 3, none⟩ = some (.slice U (readP r).length uc)) (first | exact ⟨p0, p1, p2, p3⟩ | exact ⟨(cell_far2 hq _ _).trans p0, (cell_far2 hq _ _).trans p1, (cell_far2 hq _ _).trans p2, (cell_far2 hq _ _).trans p3⟩ | go_keep) ((first
    | (go_at_call 181; (with_reducible refine (HF.out _ _ _ _).mono ?_); rintro e w7 ⟨x, y, rfl, hxy, hb7⟩; have B7 := BV.trans (hb7.mono BV.size); have v7 := keepB (W := (w2.alloc (.cells #[.int .i64 (readA r 0), .int .i64 (readA r 1), .int .i64 (readA r 2), .slice U (readP r).length uc] 117)).drew) v3 hb7; have r7 := keepB (W := (w2.alloc (.cells #[.int .i64 (readA r 0), .int .i64 (readA r 1), .int .i64 (readA r 2), .slice U (readP r).length uc] 117)).drew) r3 hb7; have hq : w2.heap.size ≠ w.heap.size := Nat.ne_of_gt (lt_of_heap r2); obtain ⟨c0, c1, f1⟩ := cellsD r7; obtain ⟨p0, p1, p2, p3⟩ := cells4 v7)))
  all_goals
    go_wp2_with fail
    refine bodyPost_ret (v := .tuple #[.agg #[.string x, .string y], .bool q]) ?_ rfl ⟨_, _, rfl, hxy, ?_⟩
    · simp [results, Tryz.results136, go_sem, c0, c1]
    · exact below_res2 B7 (Nat.le_refl _) _ _

set_option maxRecDepth 100000 in
set_option maxHeartbeats 4000000 in
theorem part_t0 (s : ByteArray) (l : List UInt8) (hs : s = ⟨l.toArray⟩) (w : World) (hl : l.length ≤ 1048000) (h42 : (s.toList == [42]) = false) (h0 : ¬ 0 < s.size) :
    Calls Tryz.prog 136 #[.string s] w (AltIs w (tlOk l) (tlB l)) := by
  have B0 : Below w.heap.size w (w.alloc (.cells #[.string ⟨#[]⟩, .string ⟨#[]⟩] 166)) := (Below.refl _ _).alloc (Nat.le_refl _) _
  have r0 := heap_alloc_new w (.cells #[.string ⟨#[]⟩, .string ⟨#[]⟩] 166)
  have HA := Lib.hid (fun W => l03Alone_any l W (by omega))
  have HS := Lib.hid (fun W => l03Short_any l W hl)
  subst hs
  unfold tlOk tlB
  obtain ⟨hi, HH⟩ : ∃ hi, Hid (exHigh l = hi) := ⟨_, Lib.hid rfl⟩
  simp only [HH.out] at HA ⊢
  obtain ⟨s, HSS⟩ : ∃ s : ByteArray, Hid (⟨l.toArray⟩ = s) := ⟨_, Lib.hid rfl⟩
  simp only [HSS.out] at HA HS h42 h0 ⊢
  generalize exOk l = ok at HA ⊢
  generalize shB l = sb at HS ⊢
  generalize shOk l = so at HS ⊢
  cases ok
  · go_enter Tryz.func136, Tryz.ntmps136
    go_wp2_with fail
    refine (HA.out _).mono ?_
    rintro e w2 ⟨rfl, hb2⟩
    unfold aloneV
    have B2 := B0.trans (hb2.mono B0.size)
    have r2 := keepB r0 hb2
    have B3 := B2.alloc B2.size (.cells #[.string ⟨#[]⟩, .string ⟨#[]⟩] 166)
    have r3 := keepA r2 (.cells #[.string ⟨#[]⟩, .string ⟨#[]⟩] 166)
    clear hb2 B0 r0 B2 r2
    go_wp2_with fail
    refine (HS.out _).mono ?_
    rintro e w4 ⟨x, y, rfl, hxy, hb4⟩
    have B4 := B3.trans (hb4.mono B3.size)
    obtain ⟨c0, c1, f1⟩ := cellsD (keepB r3 hb4)
    go_wp2_with fail
    refine bodyPost_ret (v := .tuple #[.agg #[.string x, .string y], .bool so]) ?_ rfl ⟨_, _, rfl, hxy, ?_⟩
    · simp [results, Tryz.results136, go_sem, c0, c1]
    · exact below_res2 B4 (Nat.le_refl _) _ _
  · go_enter Tryz.func136, Tryz.ntmps136
    go_wp2_with fail
    refine (HA.out _).mono ?_
    rintro e w2 ⟨rfl, hb2⟩
    unfold aloneV
    have B2 := B0.trans (hb2.mono B0.size)
    have r2 := keepB r0 hb2
    obtain ⟨c0, c1, f1⟩ := cellsD r2
    have hlt := lt_of_heap r2
    have B3 := (below_res2 B2 (Nat.le_refl _) (.string s) (.string ⟨hi.toArray⟩)).alloc (by simpa using B2.size) (.cells #[.string s, .string ⟨hi.toArray⟩] 166)
    obtain ⟨y0, y1⟩ := two_cells (keepA (set2_heap r2 (.string s) (.string ⟨hi.toArray⟩)) (.cells #[.string s, .string ⟨hi.toArray⟩] 166))
    simp only [if_true, HSS.out]
    go_wp2_with fail
    refine bodyPost_ret (v := .tuple #[.agg #[.string s, .string ⟨hi.toArray⟩], .bool true]) ?_ rfl ⟨_, _, rfl, fun _ => ⟨HSS.out.symm, rfl⟩, ?_⟩
    · simp [results, Tryz.results136, go_sem, y0, y1]
    · exact B3

set_option maxRecDepth 100000 in
set_option maxHeartbeats 4000000 in
theorem part_t1 (s : ByteArray) (l : List UInt8) (hs : s = ⟨l.toArray⟩) (w : World) (hl : l.length ≤ 1048000) (h42 : (s.toList == [42]) = false) (h1 : ¬ 1 < s.size) (h0 : 0 < s.size) (b62 : (((s[0]'(by omega)).toNat : Int) == 62) = false) (b60 : (((s[0]'(by omega)).toNat : Int) == 60) = false) :
    Calls Tryz.prog 136 #[.string s] w (AltIs w (tlOk l) (tlB l)) := by
  have B0 : Below w.heap.size w (w.alloc (.cells #[.string ⟨#[]⟩, .string ⟨#[]⟩] 166)) := (Below.refl _ _).alloc (Nat.le_refl _) _
  have r0 := heap_alloc_new w (.cells #[.string ⟨#[]⟩, .string ⟨#[]⟩] 166)
  have HA := Lib.hid (fun W => l03Alone_any l W (by omega))
  have HS := Lib.hid (fun W => l03Short_any l W hl)
  subst hs
  unfold tlOk tlB
  obtain ⟨hi, HH⟩ : ∃ hi, Hid (exHigh l = hi) := ⟨_, Lib.hid rfl⟩
  simp only [HH.out] at HA ⊢
  obtain ⟨s, HSS⟩ : ∃ s : ByteArray, Hid (⟨l.toArray⟩ = s) := ⟨_, Lib.hid rfl⟩
  simp only [HSS.out] at HA HS h42 h0 h1 b62 b60 ⊢
  generalize exOk l = ok at HA ⊢
  generalize shB l = sb at HS ⊢
  generalize shOk l = so at HS ⊢
  cases ok
  · go_enter Tryz.func136, Tryz.ntmps136
    go_wp2_with fail
    refine (HA.out _).mono ?_
    rintro e w2 ⟨rfl, hb2⟩
    unfold aloneV
    have B2 := B0.trans (hb2.mono B0.size)
    have r2 := keepB r0 hb2
    have B3 := B2.alloc B2.size (.cells #[.string ⟨#[]⟩, .string ⟨#[]⟩] 166)
    have r3 := keepA r2 (.cells #[.string ⟨#[]⟩, .string ⟨#[]⟩] 166)
    clear hb2 B0 r0 B2 r2
    go_wp2_with fail
    refine (HS.out _).mono ?_
    rintro e w4 ⟨x, y, rfl, hxy, hb4⟩
    have B4 := B3.trans (hb4.mono B3.size)
    obtain ⟨c0, c1, f1⟩ := cellsD (keepB r3 hb4)
    go_wp2_with fail
    refine bodyPost_ret (v := .tuple #[.agg #[.string x, .string y], .bool so]) ?_ rfl ⟨_, _, rfl, hxy, ?_⟩
    · simp [results, Tryz.results136, go_sem, c0, c1]
    · exact below_res2 B4 (Nat.le_refl _) _ _
  · go_enter Tryz.func136, Tryz.ntmps136
    go_wp2_with fail
    refine (HA.out _).mono ?_
    rintro e w2 ⟨rfl, hb2⟩
    unfold aloneV
    have B2 := B0.trans (hb2.mono B0.size)
    have r2 := keepB r0 hb2
    obtain ⟨c0, c1, f1⟩ := cellsD r2
    have hlt := lt_of_heap r2
    have B3 := (below_res2 B2 (Nat.le_refl _) (.string s) (.string ⟨hi.toArray⟩)).alloc (by simpa using B2.size) (.cells #[.string s, .string ⟨hi.toArray⟩] 166)
    obtain ⟨y0, y1⟩ := two_cells (keepA (set2_heap r2 (.string s) (.string ⟨hi.toArray⟩)) (.cells #[.string s, .string ⟨hi.toArray⟩] 166))
    simp only [if_true, HSS.out]
    go_wp2_with fail
    refine bodyPost_ret (v := .tuple #[.agg #[.string s, .string ⟨hi.toArray⟩], .bool true]) ?_ rfl ⟨_, _, rfl, fun _ => ⟨HSS.out.symm, rfl⟩, ?_⟩
    · simp [results, Tryz.results136, go_sem, y0, y1]
    · exact B3

set_option maxRecDepth 100000 in
set_option maxHeartbeats 4000000 in
theorem part_t2 (s : ByteArray) (l : List UInt8) (hs : s = ⟨l.toArray⟩) (w : World) (hl : l.length ≤ 1048000) (h42 : (s.toList == [42]) = false) (h1 : 1 < s.size) (b94 : (((s[0]'(by omega)).toNat : Int) == 94) = false) (b126 : (((s[0]'(by omega)).toNat : Int) == 126) = false) (b62 : (((s[0]'(by omega)).toNat : Int) == 62) = false) (b60 : (((s[0]'(by omega)).toNat : Int) == 60) = false) :
    Calls Tryz.prog 136 #[.string s] w (AltIs w (tlOk l) (tlB l)) := by
  have B0 : Below w.heap.size w (w.alloc (.cells #[.string ⟨#[]⟩, .string ⟨#[]⟩] 166)) := (Below.refl _ _).alloc (Nat.le_refl _) _
  have r0 := heap_alloc_new w (.cells #[.string ⟨#[]⟩, .string ⟨#[]⟩] 166)
  have HA := Lib.hid (fun W => l03Alone_any l W (by omega))
  have HS := Lib.hid (fun W => l03Short_any l W hl)
  subst hs
  unfold tlOk tlB
  obtain ⟨hi, HH⟩ : ∃ hi, Hid (exHigh l = hi) := ⟨_, Lib.hid rfl⟩
  simp only [HH.out] at HA ⊢
  obtain ⟨s, HSS⟩ : ∃ s : ByteArray, Hid (⟨l.toArray⟩ = s) := ⟨_, Lib.hid rfl⟩
  simp only [HSS.out] at HA HS h42 h1 b94 b126 b62 b60 ⊢
  generalize exOk l = ok at HA ⊢
  generalize shB l = sb at HS ⊢
  generalize shOk l = so at HS ⊢
  cases ok
  · go_enter Tryz.func136, Tryz.ntmps136
    go_wp2_with fail
    refine (HA.out _).mono ?_
    rintro e w2 ⟨rfl, hb2⟩
    unfold aloneV
    have B2 := B0.trans (hb2.mono B0.size)
    have r2 := keepB r0 hb2
    have B3 := B2.alloc B2.size (.cells #[.string ⟨#[]⟩, .string ⟨#[]⟩] 166)
    have r3 := keepA r2 (.cells #[.string ⟨#[]⟩, .string ⟨#[]⟩] 166)
    clear hb2 B0 r0 B2 r2
    go_wp2_with fail
    refine (HS.out _).mono ?_
    rintro e w4 ⟨x, y, rfl, hxy, hb4⟩
    have B4 := B3.trans (hb4.mono B3.size)
    obtain ⟨c0, c1, f1⟩ := cellsD (keepB r3 hb4)
    go_wp2_with fail
    refine bodyPost_ret (v := .tuple #[.agg #[.string x, .string y], .bool so]) ?_ rfl ⟨_, _, rfl, hxy, ?_⟩
    · simp [results, Tryz.results136, go_sem, c0, c1]
    · exact below_res2 B4 (Nat.le_refl _) _ _
  · go_enter Tryz.func136, Tryz.ntmps136
    go_wp2_with fail
    refine (HA.out _).mono ?_
    rintro e w2 ⟨rfl, hb2⟩
    unfold aloneV
    have B2 := B0.trans (hb2.mono B0.size)
    have r2 := keepB r0 hb2
    obtain ⟨c0, c1, f1⟩ := cellsD r2
    have hlt := lt_of_heap r2
    have B3 := (below_res2 B2 (Nat.le_refl _) (.string s) (.string ⟨hi.toArray⟩)).alloc (by simpa using B2.size) (.cells #[.string s, .string ⟨hi.toArray⟩] 166)
    obtain ⟨y0, y1⟩ := two_cells (keepA (set2_heap r2 (.string s) (.string ⟨hi.toArray⟩)) (.cells #[.string s, .string ⟨hi.toArray⟩] 166))
    simp only [if_true, HSS.out]
    go_wp2_with fail
    refine bodyPost_ret (v := .tuple #[.agg #[.string s, .string ⟨hi.toArray⟩], .bool true]) ?_ rfl ⟨_, _, rfl, fun _ => ⟨HSS.out.symm, rfl⟩, ?_⟩
    · simp [results, Tryz.results136, go_sem, y0, y1]
    · exact B3

set_option maxRecDepth 100000 in
set_option maxHeartbeats 4000000 in
theorem part_s1 (s : ByteArray) (l : List UInt8) (hs : s = ⟨l.toArray⟩) (w : World) (hl : l.length ≤ 1048000) (h42 : (s.toList == [42]) = false) (h1 : ¬ 1 < s.size) (h0 : 0 < s.size) (b62 : (((s[0]'(by omega)).toNat : Int) == 62) = true) :
    Calls Tryz.prog 136 #[.string s] w (AltIs w (lmOk l) (lmB l)) := by
  have B0 : Below w.heap.size w (w.alloc (.cells #[.string ⟨#[]⟩, .string ⟨#[]⟩] 166)) := (Below.refl _ _).alloc (Nat.le_refl _) _
  have r0 := heap_alloc_new w (.cells #[.string ⟨#[]⟩, .string ⟨#[]⟩] 166)
  have HG := Lib.hid (fun W => l03Signs_any l W hl)
  subst hs
  obtain ⟨s, HSS⟩ : ∃ s : ByteArray, Hid (⟨l.toArray⟩ = s) := ⟨_, Lib.hid rfl⟩
  simp only [HSS.out] at HG h42 h0 h1 b62 ⊢
  generalize lmOk l = q at HG ⊢
  go_enter Tryz.func136, Tryz.ntmps136
  go_wp2_with fail
  refine (HG.out _).mono ?_
  rintro e w4 ⟨x, y, rfl, hxy, hb4⟩
  have B4 := B0.trans (hb4.mono B0.size)
  obtain ⟨c0, c1, f1⟩ := cellsD (keepB r0 hb4)
  go_wp2_with fail
  refine bodyPost_ret (v := .tuple #[.agg #[.string x, .string y], .bool q]) ?_ rfl ⟨_, _, rfl, hxy, ?_⟩
  · simp [results, Tryz.results136, go_sem, c0, c1]
  · exact below_res2 B4 (Nat.le_refl _) _ _

set_option maxRecDepth 100000 in
set_option maxHeartbeats 4000000 in
theorem part_s2 (s : ByteArray) (l : List UInt8) (hs : s = ⟨l.toArray⟩) (w : World) (hl : l.length ≤ 1048000) (h42 : (s.toList == [42]) = false) (h1 : 1 < s.size) (b94 : (((s[0]'(by omega)).toNat : Int) == 94) = false) (b126 : (((s[0]'(by omega)).toNat : Int) == 126) = false) (b62 : (((s[0]'(by omega)).toNat : Int) == 62) = true) :
    Calls Tryz.prog 136 #[.string s] w (AltIs w (lmOk l) (lmB l)) := by
  have B0 : Below w.heap.size w (w.alloc (.cells #[.string ⟨#[]⟩, .string ⟨#[]⟩] 166)) := (Below.refl _ _).alloc (Nat.le_refl _) _
  have r0 := heap_alloc_new w (.cells #[.string ⟨#[]⟩, .string ⟨#[]⟩] 166)
  have HG := Lib.hid (fun W => l03Signs_any l W hl)
  subst hs
  obtain ⟨s, HSS⟩ : ∃ s : ByteArray, Hid (⟨l.toArray⟩ = s) := ⟨_, Lib.hid rfl⟩
  simp only [HSS.out] at HG h42 h1 b94 b126 b62 ⊢
  generalize lmOk l = q at HG ⊢
  go_enter Tryz.func136, Tryz.ntmps136
  go_wp2_with fail
  refine (HG.out _).mono ?_
  rintro e w4 ⟨x, y, rfl, hxy, hb4⟩
  have B4 := B0.trans (hb4.mono B0.size)
  obtain ⟨c0, c1, f1⟩ := cellsD (keepB r0 hb4)
  go_wp2_with fail
  refine bodyPost_ret (v := .tuple #[.agg #[.string x, .string y], .bool q]) ?_ rfl ⟨_, _, rfl, hxy, ?_⟩
  · simp [results, Tryz.results136, go_sem, c0, c1]
  · exact below_res2 B4 (Nat.le_refl _) _ _

set_option maxRecDepth 100000 in
set_option maxHeartbeats 4000000 in
theorem part_s3 (s : ByteArray) (l : List UInt8) (hs : s = ⟨l.toArray⟩) (w : World) (hl : l.length ≤ 1048000) (h42 : (s.toList == [42]) = false) (h1 : ¬ 1 < s.size) (h0 : 0 < s.size) (b62 : (((s[0]'(by omega)).toNat : Int) == 62) = false) (b60 : (((s[0]'(by omega)).toNat : Int) == 60) = true) :
    Calls Tryz.prog 136 #[.string s] w (AltIs w (lmOk l) (lmB l)) := by
  have B0 : Below w.heap.size w (w.alloc (.cells #[.string ⟨#[]⟩, .string ⟨#[]⟩] 166)) := (Below.refl _ _).alloc (Nat.le_refl _) _
  have r0 := heap_alloc_new w (.cells #[.string ⟨#[]⟩, .string ⟨#[]⟩] 166)
  have HG := Lib.hid (fun W => l03Signs_any l W hl)
  subst hs
  obtain ⟨s, HSS⟩ : ∃ s : ByteArray, Hid (⟨l.toArray⟩ = s) := ⟨_, Lib.hid rfl⟩
  simp only [HSS.out] at HG h42 h0 h1 b62 b60 ⊢
  generalize lmOk l = q at HG ⊢
  go_enter Tryz.func136, Tryz.ntmps136
  go_wp2_with fail
  refine (HG.out _).mono ?_
  rintro e w4 ⟨x, y, rfl, hxy, hb4⟩
  have B4 := B0.trans (hb4.mono B0.size)
  obtain ⟨c0, c1, f1⟩ := cellsD (keepB r0 hb4)
  go_wp2_with fail
  refine bodyPost_ret (v := .tuple #[.agg #[.string x, .string y], .bool q]) ?_ rfl ⟨_, _, rfl, hxy, ?_⟩
  · simp [results, Tryz.results136, go_sem, c0, c1]
  · exact below_res2 B4 (Nat.le_refl _) _ _

set_option maxRecDepth 100000 in
set_option maxHeartbeats 4000000 in
theorem part_s4 (s : ByteArray) (l : List UInt8) (hs : s = ⟨l.toArray⟩) (w : World) (hl : l.length ≤ 1048000) (h42 : (s.toList == [42]) = false) (h1 : 1 < s.size) (b94 : (((s[0]'(by omega)).toNat : Int) == 94) = false) (b126 : (((s[0]'(by omega)).toNat : Int) == 126) = false) (b62 : (((s[0]'(by omega)).toNat : Int) == 62) = false) (b60 : (((s[0]'(by omega)).toNat : Int) == 60) = true) :
    Calls Tryz.prog 136 #[.string s] w (AltIs w (lmOk l) (lmB l)) := by
  have B0 : Below w.heap.size w (w.alloc (.cells #[.string ⟨#[]⟩, .string ⟨#[]⟩] 166)) := (Below.refl _ _).alloc (Nat.le_refl _) _
  have r0 := heap_alloc_new w (.cells #[.string ⟨#[]⟩, .string ⟨#[]⟩] 166)
  have HG := Lib.hid (fun W => l03Signs_any l W hl)
  subst hs
  obtain ⟨s, HSS⟩ : ∃ s : ByteArray, Hid (⟨l.toArray⟩ = s) := ⟨_, Lib.hid rfl⟩
  simp only [HSS.out] at HG h42 h1 b94 b126 b62 b60 ⊢
  generalize lmOk l = q at HG ⊢
  go_enter Tryz.func136, Tryz.ntmps136
  go_wp2_with fail
  refine (HG.out _).mono ?_
  rintro e w4 ⟨x, y, rfl, hxy, hb4⟩
  have B4 := B0.trans (hb4.mono B0.size)
  obtain ⟨c0, c1, f1⟩ := cellsD (keepB r0 hb4)
  go_wp2_with fail
  refine bodyPost_ret (v := .tuple #[.agg #[.string x, .string y], .bool q]) ?_ rfl ⟨_, _, rfl, hxy, ?_⟩
  · simp [results, Tryz.results136, go_sem, c0, c1]
  · exact below_res2 B4 (Nat.le_refl _) _ _

theorem byte_is {c : UInt8} {k : Int} (h : (c.toNat : Int) = k) : (((c.toNat : Int)) == k) = true := by simpa using h
theorem part_one {l : List UInt8} {w w' : World} {e : Ending} (ha : altOk l = false) (h : tlOk l = false) (hh : AltIs w (tlOk l) (tlB l) e w') : AltIs w (altOk l) (altB l) e w' := by
  rw [ha]; rw [h] at hh; exact hh.no
set_option maxRecDepth 100000 in
theorem lone_94 : altOk [94] = false ∧ tlOk [94] = false := by
  have h1 : readOk [] = false := readOk_nil
  have h2 : tlOk [94] = false := by
    rw [(tl_eq [94]).1, if_pos (by decide)]
    exact fromOk_bad (by decide +kernel)
  exact ⟨by rw [(alt_caret []).1]; exact fromOk_bad h1, h2⟩
set_option maxRecDepth 100000 in
theorem lone_126 : altOk [126] = false ∧ tlOk [126] = false := by
  have h1 : readOk [] = false := readOk_nil
  have h2 : tlOk [126] = false := by
    rw [(tl_eq [126]).1, if_pos (by decide)]
    exact fromOk_bad (by decide +kernel)
  exact ⟨by rw [(alt_tilde []).1]; exact fromOk_bad h1, h2⟩
theorem AltIs.plain {l : List UInt8} {w w' : World} {e : Ending} (h : plainA l) (hh : AltIs w (tlOk l) (tlB l) e w') : AltIs w (altOk l) (altB l) e w' := by
  obtain ⟨e1, e2⟩ := alt_plain h
  obtain ⟨x, y, he, hxy, hb⟩ := hh
  exact ⟨x, y, by rw [e1]; exact he, fun hk => by rw [e2 hk]; exact hxy (by rw [← e1]; exact hk), hb⟩
theorem AltIs.as {w w' : World} {ok ok' : Bool} {b b' : Bd} {e : Ending} (h1 : ok' = ok) (h2 : b' = b) (h : AltIs w ok b e w') : AltIs w ok' b' e w' := by subst h1 h2; exact h
set_option maxRecDepth 100000 in
theorem l03Part_any (l : List UInt8) (w : World) (hl : l.length ≤ 1048000) : Calls Tryz.prog 136 #[.string ⟨l.toArray⟩] w (AltIs w (altOk l) (altB l)) := by
  by_cases h42 : l = [42]
  · subst h42
    exact (part_star ⟨#[42]⟩ w (by rw [ByteArray.toList_eq]; rfl)).mono fun e w' h => h.as (by unfold altOk; rw [if_pos rfl]) (by unfold altB; rw [if_pos rfl])
  obtain ⟨s, hs⟩ : ∃ s : ByteArray, s = ⟨l.toArray⟩ := ⟨_, rfl⟩
  have e42 := one42 hs h42
  have hz : s.size = l.length := by rw [hs]; exact size_of l
  rw [← hs]
  match l, h42, hs, hz, hl with
  | [], _, hs, hz, hl => exact (part_t0 s [] hs w hl e42 (by rw [hz]; simp)).mono fun e w' h => h.plain ⟨by simp, by simp, by simp, by simp, by simp⟩
  | c :: r, h42, hs, hz, hl =>
    have h0 : 0 < s.size := by rw [hz]; simp
    have hc : s[0]'h0 = c := by subst hs; rfl
    have tst : ∀ d : UInt8, c ≠ d → (((s[0]'h0).toNat : Int) == (d.toNat : Int)) = false := fun d hd => by rw [hc]; exact byte_no hd
    have tst2 : ∀ d : UInt8, c = d → (((s[0]'h0).toNat : Int) == (d.toNat : Int)) = true := fun d hd => by rw [hc, hd]; simp
    by_cases h94 : c = 94
    · subst h94
      cases r with
      | nil => exact (part_t1 s [94] hs w hl e42 (by rw [hz]; simp) h0 (tst 62 (by decide)) (tst 60 (by decide))).mono fun e w' h => part_one lone_94.1 lone_94.2 h
      | cons d t =>
        have h1 : 1 < s.size := by rw [hz]; simp
        have sl : ∀ w, (Instr.slice 9 (.string s) (some (.int .i64 1)) none none).run Tryz.prog w = .ok (.string ⟨(d :: t).toArray⟩) w := fun w => by subst hs; exact slice_from _ _ 1 1 rfl (by omega) (piece_end _ 1) w
        cases hok : readOk (d :: t) with
        | false => exact (part_caret_no s (d :: t) w (by simp at hl ⊢; omega) e42 h1 (tst2 94 rfl) sl hok).mono fun e w' h => (h.no (b' := altB (94 :: d :: t))).as (by rw [(alt_caret _).1, fromOk_bad hok]) rfl
        | true => exact (part_caret_yes s (d :: t) w (by simp at hl ⊢; omega) e42 h1 (tst2 94 rfl) (tst 126 (by decide)) sl hok).mono fun e w' h => h.as (alt_caret _).1 (alt_caret _).2
    by_cases h126 : c = 126
    · subst h126
      cases r with
      | nil => exact (part_t1 s [126] hs w hl e42 (by rw [hz]; simp) h0 (tst 62 (by decide)) (tst 60 (by decide))).mono fun e w' h => part_one lone_126.1 lone_126.2 h
      | cons d t =>
        have h1 : 1 < s.size := by rw [hz]; simp
        have sl : ∀ w, (Instr.slice 9 (.string s) (some (.int .i64 1)) none none).run Tryz.prog w = .ok (.string ⟨(d :: t).toArray⟩) w := fun w => by subst hs; exact slice_from _ _ 1 1 rfl (by omega) (piece_end _ 1) w
        cases hok : readOk (d :: t) with
        | false => exact (part_tilde_no s (d :: t) w (by simp at hl ⊢; omega) e42 h1 (tst 94 (by decide)) (tst2 126 rfl) sl hok).mono fun e w' h => (h.no (b' := altB (126 :: d :: t))).as (by rw [(alt_tilde _).1, fromOk_bad hok]) rfl
        | true => exact (part_tilde_yes s (d :: t) w (by simp at hl ⊢; omega) e42 h1 (tst 94 (by decide)) (tst2 126 rfl) sl hok).mono fun e w' h => h.as (alt_tilde _).1 (alt_tilde _).2
    by_cases h62 : c = 62
    · subst h62
      by_cases h1 : 1 < s.size
      · exact (part_s2 s _ hs w hl e42 h1 (tst 94 (by decide)) (tst 126 (by decide)) (tst2 62 rfl)).mono fun e w' h => h.as (alt_signs (.inl rfl)).1 (alt_signs (.inl rfl)).2
      · exact (part_s1 s _ hs w hl e42 h1 h0 (tst2 62 rfl)).mono fun e w' h => h.as (alt_signs (.inl rfl)).1 (alt_signs (.inl rfl)).2
    by_cases h60 : c = 60
    · subst h60
      by_cases h1 : 1 < s.size
      · exact (part_s4 s _ hs w hl e42 h1 (tst 94 (by decide)) (tst 126 (by decide)) (tst 62 (by decide)) (tst2 60 rfl)).mono fun e w' h => h.as (alt_signs (.inr rfl)).1 (alt_signs (.inr rfl)).2
      · exact (part_s3 s _ hs w hl e42 h1 h0 (tst 62 (by decide)) (tst2 60 rfl)).mono fun e w' h => h.as (alt_signs (.inr rfl)).1 (alt_signs (.inr rfl)).2
    have hp : plainA (c :: r) := ⟨h42, by simpa using h94, by simpa using h126, by simpa using h62, by simpa using h60⟩
    by_cases h1 : 1 < s.size
    · exact (part_t2 s _ hs w hl e42 h1 (tst 94 h94) (tst 126 h126) (tst 62 h62) (tst 60 h60)).mono fun e w' h => h.plain hp
    · exact (part_t1 s _ hs w hl e42 h1 h0 (tst 62 h62) (tst 60 h60)).mono fun e w' h => h.plain hp
end Go.Proofs.YtnodhkjgnegkcaaGreatDoor

namespace Go.Proofs.YtnodhkjgnegkcaaGreatDoor
open Go.RowKit

set_option maxRecDepth 100000 in
set_option maxHeartbeats 4000000 in
theorem alt_star (s : ByteArray) (w : World) (hs : (s.toList == [42]) = true) :
    Calls Tryz.prog 198 #[.string s] w (AltIs w true ([], [])) := by
  have B0 : Below w.heap.size w (w.alloc (.cells #[.string ⟨#[]⟩, .string ⟨#[]⟩] 166)) := (Below.refl _ _).alloc (Nat.le_refl _) _
  go_enter Tryz.func198, Tryz.ntmps198
  go_wp2_with fail
  refine bodyPost_ret (v := .tuple #[.agg #[.string ⟨#[]⟩, .string ⟨#[]⟩], .bool true]) ?_ rfl ⟨_, _, rfl, fun _ => ⟨rfl, rfl⟩, B0⟩
  simp [results, Tryz.results198, go_sem]

set_option maxRecDepth 100000 in
set_option maxHeartbeats 4000000 in
theorem alt_caret' (s : ByteArray) (r : List UInt8) (w : World) (hl : r.length ≤ 1048000) (ht : Tab w) (h42 : (s.toList == [42]) = false) (p94 : ([94] : List UInt8).isPrefixOf s.data.toList = true) (sl : ∀ w, (Instr.slice 9 (.string s) (some (.int .i64 1)) none none).run Tryz.prog w = .ok (.string ⟨r.toArray⟩) w) :
    Calls Tryz.prog 198 #[.string s] w (AltIs w (fromOk r (crt r)) (fromB r (crt r))) := by
  have B0 : Below w.heap.size w (w.alloc (.cells #[.string ⟨#[]⟩, .string ⟨#[]⟩] 166)) := (Below.refl _ _).alloc (Nat.le_refl _) _
  have r0 := heap_alloc_new w (.cells #[.string ⟨#[]⟩, .string ⟨#[]⟩] 166)
  have H94 : Hid (∀ W, Calls Tryz.prog 237 #[.string s, .string ⟨#[94]⟩] W fun e w' => e = .returned (.bool true) ∧ w' = W) := Lib.hid (fun W => (hasPrefix_any s ⟨#[94]⟩ W).mono fun e w' h => ⟨by rw [h.1]; exact congrArg (fun b => Ending.returned (.bool b)) p94, h.2⟩)
  have HF := Lib.hid (fun (W : World) (h : Below w.heap.size w W) => rfCaret_any r W (by omega) (tab_below ht h))
  generalize fromOk r (crt r) = q at HF ⊢
  generalize fromB r (crt r) = fb at HF ⊢
  clear ht hl p94
  go_enter Tryz.func198, Tryz.ntmps198
  go_wp2_with fail
  refine (H94.out _).mono ?_
  rintro e w' ⟨rfl, hw⟩
  subst hw
  go_wp2_with fail
  refine (HF.out _ B0).mono ?_
  rintro e w4 ⟨x, y, rfl, hxy, hb4⟩
  have B4 := B0.trans (hb4.mono B0.size)
  obtain ⟨c0, c1⟩ := two_cells (keepB r0 hb4)
  have f0 := frozen2 (keepB r0 hb4) 0
  have f1 := frozen2 (keepB r0 hb4) 1
  go_wp2_with fail
  refine bodyPost_ret (v := .tuple #[.agg #[.string x, .string y], .bool q]) ?_ rfl ⟨_, _, rfl, hxy, ?_⟩
  · simp [results, Tryz.results198, go_sem, c0, c1]
  · exact below_res2 B4 (Nat.le_refl _) _ _

set_option maxRecDepth 100000 in
set_option maxHeartbeats 4000000 in
theorem alt_tilde' (s : ByteArray) (r : List UInt8) (w : World) (hl : r.length ≤ 1048000) (ht : Tab w) (h42 : (s.toList == [42]) = false) (p94 : ([94] : List UInt8).isPrefixOf s.data.toList = false) (p126 : ([126] : List UInt8).isPrefixOf s.data.toList = true) (sl : ∀ w, (Instr.slice 9 (.string s) (some (.int .i64 1)) none none).run Tryz.prog w = .ok (.string ⟨r.toArray⟩) w) :
    Calls Tryz.prog 198 #[.string s] w (AltIs w (fromOk r 1) (fromB r 1)) := by
  have B0 : Below w.heap.size w (w.alloc (.cells #[.string ⟨#[]⟩, .string ⟨#[]⟩] 166)) := (Below.refl _ _).alloc (Nat.le_refl _) _
  have r0 := heap_alloc_new w (.cells #[.string ⟨#[]⟩, .string ⟨#[]⟩] 166)
  have H94 : Hid (∀ W, Calls Tryz.prog 237 #[.string s, .string ⟨#[94]⟩] W fun e w' => e = .returned (.bool false) ∧ w' = W) := Lib.hid (fun W => (hasPrefix_any s ⟨#[94]⟩ W).mono fun e w' h => ⟨by rw [h.1]; exact congrArg (fun b => Ending.returned (.bool b)) p94, h.2⟩)
  have H126 : Hid (∀ W, Calls Tryz.prog 237 #[.string s, .string ⟨#[126]⟩] W fun e w' => e = .returned (.bool true) ∧ w' = W) := Lib.hid (fun W => (hasPrefix_any s ⟨#[126]⟩ W).mono fun e w' h => ⟨by rw [h.1]; exact congrArg (fun b => Ending.returned (.bool b)) p126, h.2⟩)
  have HF := Lib.hid (fun (W : World) (h : Below w.heap.size w W) => rfTilde_any r W (by omega) (tab_below ht h))
  generalize fromOk r 1 = q at HF ⊢
  generalize fromB r 1 = fb at HF ⊢
  clear ht hl p94 p126
  go_enter Tryz.func198, Tryz.ntmps198
  go_wp2_with fail
  refine (H94.out _).mono ?_
  rintro e w' ⟨rfl, hw⟩
  subst hw
  go_wp2_with fail
  refine (H126.out _).mono ?_
  rintro e w' ⟨rfl, hw⟩
  subst hw
  go_wp2_with fail
  refine (HF.out _ B0).mono ?_
  rintro e w4 ⟨x, y, rfl, hxy, hb4⟩
  have B4 := B0.trans (hb4.mono B0.size)
  obtain ⟨c0, c1⟩ := two_cells (keepB r0 hb4)
  have f0 := frozen2 (keepB r0 hb4) 0
  have f1 := frozen2 (keepB r0 hb4) 1
  go_wp2_with fail
  refine bodyPost_ret (v := .tuple #[.agg #[.string x, .string y], .bool q]) ?_ rfl ⟨_, _, rfl, hxy, ?_⟩
  · simp [results, Tryz.results198, go_sem, c0, c1]
  · exact below_res2 B4 (Nat.le_refl _) _ _

set_option maxRecDepth 100000 in
set_option maxHeartbeats 4000000 in
theorem alt_ge (s : ByteArray) (l : List UInt8) (hs : s = ⟨l.toArray⟩) (w : World) (hl : l.length ≤ 1048000) (ht : Tab w) (m : Int) (hm : w.cell? ⟨0, 0, none⟩ = some (.int .i64 m)) (h42 : (s.toList == [42]) = false) (p94 : ([94] : List UInt8).isPrefixOf s.data.toList = false) (p126 : ([126] : List UInt8).isPrefixOf s.data.toList = false) (p62 : ([62] : List UInt8).isPrefixOf s.data.toList = true) :
    Calls Tryz.prog 198 #[.string s] w (AltIs w (lmOk l) (lmB l)) := by
  have B0 : Below w.heap.size w (w.alloc (.cells #[.string ⟨#[]⟩, .string ⟨#[]⟩] 166)) := (Below.refl _ _).alloc (Nat.le_refl _) _
  have r0 := heap_alloc_new w (.cells #[.string ⟨#[]⟩, .string ⟨#[]⟩] 166)
  have H94 : Hid (∀ W, Calls Tryz.prog 237 #[.string s, .string ⟨#[94]⟩] W fun e w' => e = .returned (.bool false) ∧ w' = W) := Lib.hid (fun W => (hasPrefix_any s ⟨#[94]⟩ W).mono fun e w' h => ⟨by rw [h.1]; exact congrArg (fun b => Ending.returned (.bool b)) p94, h.2⟩)
  have H126 : Hid (∀ W, Calls Tryz.prog 237 #[.string s, .string ⟨#[126]⟩] W fun e w' => e = .returned (.bool false) ∧ w' = W) := Lib.hid (fun W => (hasPrefix_any s ⟨#[126]⟩ W).mono fun e w' h => ⟨by rw [h.1]; exact congrArg (fun b => Ending.returned (.bool b)) p126, h.2⟩)
  have H62 : Hid (∀ W, Calls Tryz.prog 237 #[.string s, .string ⟨#[62]⟩] W fun e w' => e = .returned (.bool true) ∧ w' = W) := Lib.hid (fun W => (hasPrefix_any s ⟨#[62]⟩ W).mono fun e w' h => ⟨by rw [h.1]; exact congrArg (fun b => Ending.returned (.bool b)) p62, h.2⟩)
  have HF := Lib.hid (fun (W : World) (h : Below w.heap.size w W) => readLimits_any l m W hl (tab_below ht h) (keepC h hm))
  rw [← hs] at HF
  generalize lmOk l = q at HF ⊢
  generalize lmB l = fb at HF ⊢
  clear ht hl hs hm p94 p126 p62
  go_enter Tryz.func198, Tryz.ntmps198
  go_wp2_with fail
  refine (H94.out _).mono ?_
  rintro e w' ⟨rfl, hw⟩
  subst hw
  go_wp2_with fail
  refine (H126.out _).mono ?_
  rintro e w' ⟨rfl, hw⟩
  subst hw
  go_wp2_with fail
  refine (H62.out _).mono ?_
  rintro e w' ⟨rfl, hw⟩
  subst hw
  go_wp2_with fail
  refine (HF.out _ B0).mono ?_
  rintro e w4 ⟨x, y, rfl, hxy, hb4⟩
  have B4 := B0.trans (hb4.mono B0.size)
  obtain ⟨c0, c1⟩ := two_cells (keepB r0 hb4)
  have f0 := frozen2 (keepB r0 hb4) 0
  have f1 := frozen2 (keepB r0 hb4) 1
  go_wp2_with fail
  refine bodyPost_ret (v := .tuple #[.agg #[.string x, .string y], .bool q]) ?_ rfl ⟨_, _, rfl, hxy, ?_⟩
  · simp [results, Tryz.results198, go_sem, c0, c1]
  · exact below_res2 B4 (Nat.le_refl _) _ _

set_option maxRecDepth 100000 in
set_option maxHeartbeats 4000000 in
theorem alt_lt (s : ByteArray) (l : List UInt8) (hs : s = ⟨l.toArray⟩) (w : World) (hl : l.length ≤ 1048000) (ht : Tab w) (m : Int) (hm : w.cell? ⟨0, 0, none⟩ = some (.int .i64 m)) (h42 : (s.toList == [42]) = false) (p94 : ([94] : List UInt8).isPrefixOf s.data.toList = false) (p126 : ([126] : List UInt8).isPrefixOf s.data.toList = false) (p62 : ([62] : List UInt8).isPrefixOf s.data.toList = false) (p60 : ([60] : List UInt8).isPrefixOf s.data.toList = true) :
    Calls Tryz.prog 198 #[.string s] w (AltIs w (lmOk l) (lmB l)) := by
  have B0 : Below w.heap.size w (w.alloc (.cells #[.string ⟨#[]⟩, .string ⟨#[]⟩] 166)) := (Below.refl _ _).alloc (Nat.le_refl _) _
  have r0 := heap_alloc_new w (.cells #[.string ⟨#[]⟩, .string ⟨#[]⟩] 166)
  have H94 : Hid (∀ W, Calls Tryz.prog 237 #[.string s, .string ⟨#[94]⟩] W fun e w' => e = .returned (.bool false) ∧ w' = W) := Lib.hid (fun W => (hasPrefix_any s ⟨#[94]⟩ W).mono fun e w' h => ⟨by rw [h.1]; exact congrArg (fun b => Ending.returned (.bool b)) p94, h.2⟩)
  have H126 : Hid (∀ W, Calls Tryz.prog 237 #[.string s, .string ⟨#[126]⟩] W fun e w' => e = .returned (.bool false) ∧ w' = W) := Lib.hid (fun W => (hasPrefix_any s ⟨#[126]⟩ W).mono fun e w' h => ⟨by rw [h.1]; exact congrArg (fun b => Ending.returned (.bool b)) p126, h.2⟩)
  have H62 : Hid (∀ W, Calls Tryz.prog 237 #[.string s, .string ⟨#[62]⟩] W fun e w' => e = .returned (.bool false) ∧ w' = W) := Lib.hid (fun W => (hasPrefix_any s ⟨#[62]⟩ W).mono fun e w' h => ⟨by rw [h.1]; exact congrArg (fun b => Ending.returned (.bool b)) p62, h.2⟩)
  have H60 : Hid (∀ W, Calls Tryz.prog 237 #[.string s, .string ⟨#[60]⟩] W fun e w' => e = .returned (.bool true) ∧ w' = W) := Lib.hid (fun W => (hasPrefix_any s ⟨#[60]⟩ W).mono fun e w' h => ⟨by rw [h.1]; exact congrArg (fun b => Ending.returned (.bool b)) p60, h.2⟩)
  have HF := Lib.hid (fun (W : World) (h : Below w.heap.size w W) => readLimits_any l m W hl (tab_below ht h) (keepC h hm))
  rw [← hs] at HF
  generalize lmOk l = q at HF ⊢
  generalize lmB l = fb at HF ⊢
  clear ht hl hs hm p94 p126 p62 p60
  go_enter Tryz.func198, Tryz.ntmps198
  go_wp2_with fail
  refine (H94.out _).mono ?_
  rintro e w' ⟨rfl, hw⟩
  subst hw
  go_wp2_with fail
  refine (H126.out _).mono ?_
  rintro e w' ⟨rfl, hw⟩
  subst hw
  go_wp2_with fail
  refine (H62.out _).mono ?_
  rintro e w' ⟨rfl, hw⟩
  subst hw
  go_wp2_with fail
  refine (H60.out _).mono ?_
  rintro e w' ⟨rfl, hw⟩
  subst hw
  go_wp2_with fail
  refine (HF.out _ B0).mono ?_
  rintro e w4 ⟨x, y, rfl, hxy, hb4⟩
  have B4 := B0.trans (hb4.mono B0.size)
  obtain ⟨c0, c1⟩ := two_cells (keepB r0 hb4)
  have f0 := frozen2 (keepB r0 hb4) 0
  have f1 := frozen2 (keepB r0 hb4) 1
  go_wp2_with fail
  refine bodyPost_ret (v := .tuple #[.agg #[.string x, .string y], .bool q]) ?_ rfl ⟨_, _, rfl, hxy, ?_⟩
  · simp [results, Tryz.results198, go_sem, c0, c1]
  · exact below_res2 B4 (Nat.le_refl _) _ _

set_option maxRecDepth 100000 in
set_option maxHeartbeats 4000000 in
theorem alt_few (s : ByteArray) (l : List UInt8) (hs : s = ⟨l.toArray⟩) (w : World) (hl : l.length ≤ 1048000) (ht : Tab w) (hc : l.count 46 < 2) (h42 : (s.toList == [42]) = false) (p94 : ([94] : List UInt8).isPrefixOf s.data.toList = false) (p126 : ([126] : List UInt8).isPrefixOf s.data.toList = false) (p62 : ([62] : List UInt8).isPrefixOf s.data.toList = false) (p60 : ([60] : List UInt8).isPrefixOf s.data.toList = false) :
    Calls Tryz.prog 198 #[.string s] w (AltIs w (fromOk (l ++ zrs (l.count 46)) (l.count 46)) (fromB (l ++ zrs (l.count 46)) (l.count 46))) := by
  have B0 : Below w.heap.size w (w.alloc (.cells #[.string ⟨#[]⟩, .string ⟨#[]⟩] 166)) := (Below.refl _ _).alloc (Nat.le_refl _) _
  have r0 := heap_alloc_new w (.cells #[.string ⟨#[]⟩, .string ⟨#[]⟩] 166)
  have H94 : Hid (∀ W, Calls Tryz.prog 237 #[.string s, .string ⟨#[94]⟩] W fun e w' => e = .returned (.bool false) ∧ w' = W) := Lib.hid (fun W => (hasPrefix_any s ⟨#[94]⟩ W).mono fun e w' h => ⟨by rw [h.1]; exact congrArg (fun b => Ending.returned (.bool b)) p94, h.2⟩)
  have H126 : Hid (∀ W, Calls Tryz.prog 237 #[.string s, .string ⟨#[126]⟩] W fun e w' => e = .returned (.bool false) ∧ w' = W) := Lib.hid (fun W => (hasPrefix_any s ⟨#[126]⟩ W).mono fun e w' h => ⟨by rw [h.1]; exact congrArg (fun b => Ending.returned (.bool b)) p126, h.2⟩)
  have H62 : Hid (∀ W, Calls Tryz.prog 237 #[.string s, .string ⟨#[62]⟩] W fun e w' => e = .returned (.bool false) ∧ w' = W) := Lib.hid (fun W => (hasPrefix_any s ⟨#[62]⟩ W).mono fun e w' h => ⟨by rw [h.1]; exact congrArg (fun b => Ending.returned (.bool b)) p62, h.2⟩)
  have H60 : Hid (∀ W, Calls Tryz.prog 237 #[.string s, .string ⟨#[60]⟩] W fun e w' => e = .returned (.bool false) ∧ w' = W) := Lib.hid (fun W => (hasPrefix_any s ⟨#[60]⟩ W).mono fun e w' h => ⟨by rw [h.1]; exact congrArg (fun b => Ending.returned (.bool b)) p60, h.2⟩)
  have HC := Lib.hid (fun W => count_any s 46 W)
  have hcn : s.data.toList.count 46 = l.count 46 := by rw [hs]
  rw [hcn] at HC
  have hcl : l.count 46 ≤ l.length := List.count_le_length
  have HF := Lib.hid (fun (W : World) (h : Below w.heap.size w W) => readPartial_any l W hl (tab_below ht h) hc)
  rw [← hs] at HF
  generalize fromOk (l ++ zrs (l.count 46)) (l.count 46) = q at HF ⊢
  generalize fromB (l ++ zrs (l.count 46)) (l.count 46) = fb at HF ⊢
  generalize l.count 46 = cn at HC hc hcl
  clear ht hl hs hcn p94 p126 p62 p60
  go_enter Tryz.func198, Tryz.ntmps198
  go_wp2_with fail
  refine (H94.out _).mono ?_
  rintro e w' ⟨rfl, hw⟩
  subst hw
  go_wp2_with fail
  refine (H126.out _).mono ?_
  rintro e w' ⟨rfl, hw⟩
  subst hw
  go_wp2_with fail
  refine (H62.out _).mono ?_
  rintro e w' ⟨rfl, hw⟩
  subst hw
  go_wp2_with fail
  refine (H60.out _).mono ?_
  rintro e w' ⟨rfl, hw⟩
  subst hw
  go_wp2_with fail
  refine (HC.out _).mono ?_
  rintro e w' ⟨rfl, hw⟩
  subst hw
  go_wp2_with fail
  refine (HF.out _ B0).mono ?_
  rintro e w4 ⟨x, y, rfl, hxy, hb4⟩
  have B4 := B0.trans (hb4.mono B0.size)
  obtain ⟨c0, c1⟩ := two_cells (keepB r0 hb4)
  have f0 := frozen2 (keepB r0 hb4) 0
  have f1 := frozen2 (keepB r0 hb4) 1
  go_wp2_with fail
  refine bodyPost_ret (v := .tuple #[.agg #[.string x, .string y], .bool q]) ?_ rfl ⟨_, _, rfl, hxy, ?_⟩
  · simp [results, Tryz.results198, go_sem, c0, c1]
  · exact below_res2 B4 (Nat.le_refl _) _ _

set_option maxRecDepth 100000 in
set_option maxHeartbeats 4000000 in
theorem alt_many (s : ByteArray) (l : List UInt8) (hs : s = ⟨l.toArray⟩) (w : World) (hl : l.length ≤ 1048000) (ht : Tab w) (hc : ¬ l.count 46 < 2) (h42 : (s.toList == [42]) = false) (p94 : ([94] : List UInt8).isPrefixOf s.data.toList = false) (p126 : ([126] : List UInt8).isPrefixOf s.data.toList = false) (p62 : ([62] : List UInt8).isPrefixOf s.data.toList = false) (p60 : ([60] : List UInt8).isPrefixOf s.data.toList = false) :
    Calls Tryz.prog 198 #[.string s] w (AltIs w (exOk l) (l, exHigh l)) := by
  have B0 : Below w.heap.size w (w.alloc (.cells #[.string ⟨#[]⟩, .string ⟨#[]⟩] 166)) := (Below.refl _ _).alloc (Nat.le_refl _) _
  have r0 := heap_alloc_new w (.cells #[.string ⟨#[]⟩, .string ⟨#[]⟩] 166)
  have H94 : Hid (∀ W, Calls Tryz.prog 237 #[.string s, .string ⟨#[94]⟩] W fun e w' => e = .returned (.bool false) ∧ w' = W) := Lib.hid (fun W => (hasPrefix_any s ⟨#[94]⟩ W).mono fun e w' h => ⟨by rw [h.1]; exact congrArg (fun b => Ending.returned (.bool b)) p94, h.2⟩)
  have H126 : Hid (∀ W, Calls Tryz.prog 237 #[.string s, .string ⟨#[126]⟩] W fun e w' => e = .returned (.bool false) ∧ w' = W) := Lib.hid (fun W => (hasPrefix_any s ⟨#[126]⟩ W).mono fun e w' h => ⟨by rw [h.1]; exact congrArg (fun b => Ending.returned (.bool b)) p126, h.2⟩)
  have H62 : Hid (∀ W, Calls Tryz.prog 237 #[.string s, .string ⟨#[62]⟩] W fun e w' => e = .returned (.bool false) ∧ w' = W) := Lib.hid (fun W => (hasPrefix_any s ⟨#[62]⟩ W).mono fun e w' h => ⟨by rw [h.1]; exact congrArg (fun b => Ending.returned (.bool b)) p62, h.2⟩)
  have H60 : Hid (∀ W, Calls Tryz.prog 237 #[.string s, .string ⟨#[60]⟩] W fun e w' => e = .returned (.bool false) ∧ w' = W) := Lib.hid (fun W => (hasPrefix_any s ⟨#[60]⟩ W).mono fun e w' h => ⟨by rw [h.1]; exact congrArg (fun b => Ending.returned (.bool b)) p60, h.2⟩)
  have HC := Lib.hid (fun W => count_any s 46 W)
  have hcn : s.data.toList.count 46 = l.count 46 := by rw [hs]
  rw [hcn] at HC
  have hcl : l.count 46 ≤ l.length := List.count_le_length
  have HF := Lib.hid (fun (W : World) (h : Below w.heap.size w W) => rfAbove_any l W (by omega) (tab_below ht h))
  rw [← hs] at HF
  generalize exOk l = q at HF ⊢
  generalize (l, exHigh l) = fb at HF ⊢
  generalize l.count 46 = cn at HC hc hcl
  clear ht hs hcn p94 p126 p62 p60
  go_enter Tryz.func198, Tryz.ntmps198
  go_wp2_with fail
  refine (H94.out _).mono ?_
  rintro e w' ⟨rfl, hw⟩
  subst hw
  go_wp2_with fail
  refine (H126.out _).mono ?_
  rintro e w' ⟨rfl, hw⟩
  subst hw
  go_wp2_with fail
  refine (H62.out _).mono ?_
  rintro e w' ⟨rfl, hw⟩
  subst hw
  go_wp2_with fail
  refine (H60.out _).mono ?_
  rintro e w' ⟨rfl, hw⟩
  subst hw
  go_wp2_with fail
  refine (HC.out _).mono ?_
  rintro e w' ⟨rfl, hw⟩
  subst hw
  go_wp2_with fail
  refine (HF.out _ B0).mono ?_
  rintro e w4 ⟨x, y, rfl, hxy, hb4⟩
  have B4 := B0.trans (hb4.mono B0.size)
  obtain ⟨c0, c1⟩ := two_cells (keepB r0 hb4)
  have f0 := frozen2 (keepB r0 hb4) 0
  have f1 := frozen2 (keepB r0 hb4) 1
  go_wp2_with fail
  refine bodyPost_ret (v := .tuple #[.agg #[.string x, .string y], .bool q]) ?_ rfl ⟨_, _, rfl, hxy, ?_⟩
  · simp [results, Tryz.results198, go_sem, c0, c1]
  · exact below_res2 B4 (Nat.le_refl _) _ _

theorem AltIs.plain2 {l : List UInt8} {w w' : World} {e : Ending} {ok : Bool} {b : Bd} (h : altOk l = ok) (h2 : altB l = b) (hh : AltIs w ok b e w') : AltIs w (altOk l) (altB l) e w' := by subst h h2; exact hh
theorem readAlternative_any (l : List UInt8) (m : Int) (w : World) (hl : l.length ≤ 1048000) (ht : Tab w) (hm : w.cell? ⟨0, 0, none⟩ = some (.int .i64 m)) :
    Calls Tryz.prog 198 #[.string ⟨l.toArray⟩] w (AltIs w (altOk l) (altB l)) := by
  by_cases h42 : l = [42]
  · subst h42
    exact (alt_star ⟨#[42]⟩ w (by rw [ByteArray.toList_eq]; rfl)).mono fun e w' h => h.as (by unfold altOk; rw [if_pos rfl]) (by unfold altB; rw [if_pos rfl])
  obtain ⟨s, hs⟩ : ∃ s : ByteArray, s = ⟨l.toArray⟩ := ⟨_, rfl⟩
  have e42 := one42 hs h42
  have hd : s.data.toList = l := by rw [hs]
  have hz : s.size = l.length := by rw [hs]; exact size_of l
  have pf : ∀ c : UInt8, ([c] : List UInt8).isPrefixOf s.data.toList = decide (l.head? = some c) := fun c => by
    rw [hd]
    cases l with
    | nil => rfl
    | cons x y =>
      by_cases h : c = x
      · subst h; simp [List.isPrefixOf]
      · have h' : ¬ x = c := fun e => h e.symm
        have h1 : (c == x) = false := by simpa using h
        simp [List.isPrefixOf, h1, h']
  rw [← hs]
  have sl : 0 < l.length → ∀ w, (Instr.slice 9 (.string s) (some (.int .i64 1)) none none).run Tryz.prog w = .ok (.string ⟨(l.drop 1).toArray⟩) w := fun h w => by
    have := slice_from s ⟨(l.drop 1).toArray⟩ 1 1 rfl (by omega) (by have := piece_end s 1; rw [hd] at this; exact this) w
    exact this
  by_cases h94 : l.head? = some 94
  · have h0 : 0 < l.length := by cases l with | nil => simp at h94 | cons x y => simp
    refine (alt_caret' s (l.drop 1) w (by simp; omega) ht e42 (by rw [pf]; simpa using h94) (sl h0)).mono fun e w' h => AltIs.plain2 ?_ ?_ h
    · unfold altOk; rw [if_neg h42, if_pos h94]
    · unfold altB; rw [if_neg h42, if_pos h94]
  have q94 : ([94] : List UInt8).isPrefixOf s.data.toList = false := by rw [pf]; simpa using h94
  by_cases h126 : l.head? = some 126
  · have h0 : 0 < l.length := by cases l with | nil => simp at h126 | cons x y => simp
    refine (alt_tilde' s (l.drop 1) w (by simp; omega) ht e42 q94 (by rw [pf]; simpa using h126) (sl h0)).mono fun e w' h => AltIs.plain2 ?_ ?_ h
    · unfold altOk; rw [if_neg h42, if_neg h94, if_pos h126]
    · unfold altB; rw [if_neg h42, if_neg h94, if_pos h126]
  have q126 : ([126] : List UInt8).isPrefixOf s.data.toList = false := by rw [pf]; simpa using h126
  by_cases h62 : l.head? = some 62
  · exact (alt_ge s l hs w hl ht m hm e42 q94 q126 (by rw [pf]; simpa using h62)).mono fun e w' h => h.as (alt_signs (.inl h62)).1 (alt_signs (.inl h62)).2
  have q62 : ([62] : List UInt8).isPrefixOf s.data.toList = false := by rw [pf]; simpa using h62
  by_cases h60 : l.head? = some 60
  · exact (alt_lt s l hs w hl ht m hm e42 q94 q126 q62 (by rw [pf]; simpa using h60)).mono fun e w' h => h.as (alt_signs (.inr h60)).1 (alt_signs (.inr h60)).2
  have q60 : ([60] : List UInt8).isPrefixOf s.data.toList = false := by rw [pf]; simpa using h60
  by_cases hc : l.count 46 < 2
  · refine (alt_few s l hs w hl ht hc e42 q94 q126 q62 q60).mono fun e w' h => AltIs.plain2 ?_ ?_ h
    · unfold altOk; rw [if_neg h42, if_neg h94, if_neg h126, if_neg (by simp [h62, h60]), if_pos hc]
    · unfold altB; rw [if_neg h42, if_neg h94, if_neg h126, if_neg (by simp [h62, h60]), if_pos hc]
  · refine (alt_many s l hs w hl ht hc e42 q94 q126 q62 q60).mono fun e w' h => AltIs.plain2 ?_ ?_ h
    · unfold altOk; rw [if_neg h42, if_neg h94, if_neg h126, if_neg (by simp [h62, h60]), if_neg hc]
    · unfold altB; rw [if_neg h42, if_neg h94, if_neg h126, if_neg (by simp [h62, h60]), if_neg hc]
end Go.Proofs.YtnodhkjgnegkcaaGreatDoor
