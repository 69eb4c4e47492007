/-
  The tests of bounds in a row: impl.testsOf; impl.In.
-/
import Derived.Test.YtjpclglklmlhlabGreatDoorTst1
namespace Go.Proofs.YtjpclglklmlhlabGreatDoor
open Go.RowKit

theorem fninfo : (Tryz.prog.info? 65).map (fun i => (i.zero, i.size, i.bytes)) = some (some .nilFunc, 1, 8) := by kernel_rfl
/-- v is the call's own row of these functions. -/
def Fns (w : World) (base : Nat) (v : Value) (fs : List Value) : Prop := w.ownsRow base 65 1 v fs.length fs
theorem Fns.form {w : World} {base : Nat} {v : Value} {l : List Value} (h : Fns w base v l) : (v = .slice none 0 0 ∧ l = []) ∨ ∃ g cap, v = .slice (some ⟨g, 0, none⟩) l.length cap ∧ base ≤ g ∧ g < w.heap.size := by
  rcases h.2 with ⟨hv, hl⟩ | ⟨g, cap, cur, hv, hb, hh, _⟩
  · left; exact ⟨hv, by simpa using hl⟩
  · right
    refine ⟨g, cap, hv, hb, ?_⟩
    rcases Nat.lt_or_ge g w.heap.size with hlt | hge
    · exact hlt
    · rw [Array.getElem?_eq_none hge] at hh; cases hh
theorem Fns.alloc {w : World} {base : Nat} {v : Value} {l : List Value} (h : Fns w base v l) (o : Obj) : Fns (w.alloc o) base v l := World.ownsRow.alloc h o
theorem Fns.owned {w : World} {base : Nat} {v : Value} {l : List Value} (h : Fns w base v l) : ∀ g, v.ownBlock = some g → base ≤ g := by
  intro g hg
  rcases h.form with ⟨rfl, _⟩ | ⟨g', cap, rfl, hb, _⟩
  · simp [Value.ownBlock] at hg
  · simp [Value.ownBlock] at hg; omega
theorem Fns.below {w w' : World} {base : Nat} {v : Value} {l : List Value} (h : Fns w base v l) (hb : Below w.heap.size w w') : Fns w' base v l :=
  World.ownsRow.kept h (row := none) ⟨hb.os, hb.tape, hb.output, hb.size, fun i hi _ => hb.block i hi⟩ (by
    rcases h.form with ⟨rfl, _⟩ | ⟨g, cap, rfl, _, _⟩
    · left; rfl
    · right; simp [Value.ownBlock])
theorem Fns.cell {w : World} {base : Nat} {l : List Value} {g n cap : Nat} (h : Fns w base (.slice (some ⟨g, 0, none⟩) n cap) l) (k : Nat) (hk : k < l.length) : w.cell? ⟨g, k, none⟩ = some l[k] := by
  have := World.ownsRow.cells (g := g) h rfl k l[k] (by simp [hk])
  have hadd : (⟨g, 0, none⟩ : Addr).add k = ⟨g, k, none⟩ := by unfold Addr.add; split <;> simp_all
  rwa [hadd] at this
theorem Fns.empty (w : World) (base : Nat) (hb : base ≤ w.heap.size) : Fns (w.alloc (.cells #[] 65)) base (.slice (some ⟨w.heap.size, 0, none⟩) 0 0) [] := by
  have h := World.ownsRow_lit (base := base) (e := 65) (size := 1) w #[] 0 hb (by unfold maxLen; omega) (by simp)
  simpa [Fns] using h

theorem run_append_fns (w : World) (ty : TypeId) (base : Nat) (v : Value) (l : List Value) (hown : Fns w base v l) (x : Value) (hx : x.oneCell' = true) (B c : Nat) (t : TypeId) (fr : Nat × Nat)
    (hblk : w.heap[B]? = some (.cells #[x] t fr)) (hlen : l.length + 1 ≤ 16777216) (hbase : base ≤ w.heap.size) :
    ∃ g cap w', (Builtin.append_ #[60, 60] ty #[v, .slice (some ⟨B, 0, none⟩) 1 c]).run Tryz.prog w = .ok (.slice (some ⟨g, 0, none⟩) (l.length + 1) cap) w' ∧ Fns w' base (.slice (some ⟨g, 0, none⟩) (l.length + 1) cap) (l ++ [x]) ∧ w.grownBy w' v.ownBlock ∧ (v.ownBlock = some g ∨ g = w.heap.size) := by
  obtain ⟨i0, hi, hz0, hz1, hz2⟩ := info_parts fninfo
  obtain ⟨g, cap, w', hr, h2, h3, h4, _⟩ := run_append_lies (P := Tryz.prog) w 60 ty base 65 i0 .nilFunc 1 8 Tryz.underlying60 hi hz0 hz1 hz2 rfl (by decide) v l.length l hown
    ⟨B, 0, none⟩ 1 c [x] (by simp) (World.news_of_block hblk) (by intro u hu; simp at hu; subst hu; exact hx) (by omega) (by unfold maxLen; omega) (by omega) hbase _ rfl
  refine ⟨g, cap, w', hr, ?_, h3, h4⟩
  unfold Fns
  rw [List.length_append]
  exact h2

/-- append(tests, f) at a plain region's list. -/
theorem wpList_append_fns {w : World} {ops : Array Oper} {rest : List Oper} {o : Oper} {a : Act} {Q : Exit → Act → World → Prop} (hgd : o.guard = none) (s x : Operand)
    (ho : o.op = .call { callee := .builtin .append, args := #[s, x], argTypes := #[60, 60] })
    (base : Nat) (v : Value) (l : List Value) (hs : a.eval s = v) (hown : Fns w base v l) (y : Value) (hy : y.oneCell' = true) (B c : Nat) (t : TypeId) (fr : Nat × Nat)
    (hx : a.eval x = .slice (some ⟨B, 0, none⟩) 1 c) (hblk : w.heap[B]? = some (.cells #[y] t fr)) (hlen : l.length + 1 ≤ 16777216) (hbase : base ≤ w.heap.size)
    (h : ∀ g cap w', Fns w' base (.slice (some ⟨g, 0, none⟩) (l.length + 1) cap) (l ++ [y]) → w.grownBy w' v.ownBlock → wpList Tryz.prog ops Q rest (a.put o.dst (.slice (some ⟨g, 0, none⟩) (l.length + 1) cap)) w') : wpList Tryz.prog ops Q (o :: rest) a w := by
  refine wpList_plain hgd fun _ hK => ?_
  obtain ⟨g, cap, w', hr, h2, h3, _⟩ := run_append_fns w o.type base v l hown y hy B c t fr hblk hlen hbase
  unfold Oper.wp execOp
  simp only [ho, resolve, invoke, builtin, Sem.run_bind, Sem.run_pure, Result.andThen_ok, List.map_toArray, List.map_cons, List.map_nil, hs, hx, hr]
  exact hK _ _ (h g cap w' h2 h3)

/-- A row of functions that grows leaves a test as it was. -/
theorem TestAt.grown {w w' : World} {base : Nat} {v f : Value} {fs : List Value} {b : Bd} (h : TestAt w f b) (hF : Fns w base v fs) (hg : w.grownBy w' v.ownBlock) : TestAt w' f b := by
  obtain ⟨Bb, Bl, Cb, Cl, uc, tc, uA, tA, e, h1, h2, h3, h4, h5, h6⟩ := h
  have ne : ∀ (B : Nat) (cs : Array Value) (T : TypeId), w.heap[B]? = some (.cells cs T) → T ≠ 65 → some B ≠ v.ownBlock := fun B cs T hB hT => by
    rcases hF.2 with ⟨rfl, _⟩ | ⟨g, cap, cur, rfl, _, hh, _⟩
    · simp [Value.ownBlock]
    · simp only [Value.ownBlock, ne_eq, Option.some.injEq]
      rintro rfl
      rw [hh] at hB
      simp only [Option.some.injEq, Obj.cells.injEq] at hB
      exact hT hB.2.1.symm
  have keep : ∀ (B : Nat) (cs : Array Value) (T : TypeId), w.heap[B]? = some (.cells cs T) → T ≠ 65 → w'.heap[B]? = some (.cells cs T) := fun B cs T hB hT => (hg.block B (lt_of_heap hB) (ne B cs T hB hT)).trans hB
  have keepS : ∀ (u : Value) (ls : List (List UInt8)), Strs w 0 u ls → Strs w' 0 u ls := fun u ls hS => World.ownsRow.kept hS hg (by
    rcases hS.2 with ⟨rfl, _⟩ | ⟨g, cap, cur, rfl, _, hh, _⟩
    · left; rfl
    · right
      have := ne g cur _ hh (by decide)
      simpa [Value.ownBlock] using this)
  exact ⟨Bb, Bl, Cb, Cl, uc, tc, uA, tA, e, keep _ _ _ h1 (by decide), keep _ _ _ h2 (by decide), keep _ _ _ h3 (by decide), keep _ _ _ h4 (by decide), keepS _ _ h5, keepS _ _ h6⟩

/-- The bounds of a range, none where they are none. -/
def goodB (bs : List Bd) : List Bd := if rngOk bs = true then bs else []
/-- The tests fs are those of the bounds bs. -/
def Tests (w : World) (fs : List Value) (bs : List Bd) : Prop := fs.length = bs.length ∧ ∀ (k : Nat) (f : Value) (b : Bd), fs[k]? = some f → bs[k]? = some b → TestAt w f b
theorem Tests.below {w w' : World} {fs : List Value} {bs : List Bd} (h : Tests w fs bs) (hb : Below w.heap.size w w') : Tests w' fs bs := ⟨h.1, fun k f b h1 h2 => (h.2 k f b h1 h2).below hb⟩
theorem Tests.snoc {w : World} {fs : List Value} {bs : List Bd} {f : Value} {b : Bd} (h : Tests w fs bs) (hf : TestAt w f b) : Tests w (fs ++ [f]) (bs ++ [b]) := by
  refine ⟨by simp [h.1], fun k f' b' h1 h2 => ?_⟩
  by_cases hk : k < fs.length
  · rw [List.getElem?_append_left hk] at h1
    rw [List.getElem?_append_left (by rw [← h.1]; exact hk)] at h2
    exact h.2 k f' b' h1 h2
  · rw [List.getElem?_append_right (by omega)] at h1
    rw [List.getElem?_append_right (by rw [← h.1]; omega), ← h.1] at h2
    cases hn : k - fs.length with
    | zero => rw [hn] at h1 h2; simp at h1 h2; subst h1 h2; exact hf
    | succ n => rw [hn] at h1; simp at h1

set_option maxRecDepth 100000 in
set_option maxHeartbeats 2000000 in
theorem testsOf_any (v : Value) (bs : List Bd) (w : World) (hr : RdB w v bs) (hs : SmB bs) :
    Calls Tryz.prog 46 #[v] w fun e w' => ∃ u, e = .returned u ∧ ∃ fs, Fns w' w.heap.size u fs ∧ Tests w' fs (goodB bs) ∧ Below w.heap.size w w' := by
  have HR := Lib.hid hr
  have HS := Lib.hid hs
  have HV := Lib.hid (fun (W : World) (h : Below w.heap.size w W) => implRangeOk_any v bs W (hr.below h) hs)
  obtain ⟨A, ca, rfl, ha⟩ := hr
  have hn : bs.length ≤ 1048576 := by unfold SmB at hs; omega
  clear ha hs
  have F0 := Fns.empty w w.heap.size (Nat.le_refl _)
  have B0 : Below w.heap.size w (w.alloc (.cells #[] 65)) := (Below.refl _ _).alloc (Nat.le_refl _) _
  obtain ⟨ok, HO⟩ : ∃ ok, Hid (rngOk bs = ok) := ⟨_, Lib.hid rfl⟩
  go_enter Tryz.func46, Tryz.ntmps46
  go_wp2_with fail
  refine (HV.out _ B0).mono ?_
  rw [HO.out]
  rintro e w1 ⟨rfl, hb1⟩
  have F1 := F0.below hb1
  have B1 := B0.trans (hb1.mono B0.size)
  clear F0 B0 hb1
  cases ok
  · go_wp2_with fail
    go_ret
    have HX : Hid (goodB bs = []) := Lib.hid (by unfold goodB; rw [HO.out]; rfl)
    exact ⟨_, rfl, [], F1, by rw [HX.out]; exact ⟨rfl, fun k f b h => by simp at h⟩, B1⟩
  go_wp2_with fail
  go_loopw [3, 5, 13] (fun o _ i wr => ∃ (k : Nat) (fs : List Value), k ≤ bs.length ∧ i = .int .i64 k ∧ Fns wr w.heap.size o fs ∧ Tests wr fs (bs.take k) ∧ Below w.heap.size w wr) (fun _ _ i _ => bs.length - (intOf i).toNat)
  case atStart => exact ⟨0, [], Nat.zero_le _, rfl, F1, ⟨by simp, fun k f b h => by simp at h⟩, B1⟩
  case round =>
    obtain ⟨k, fs, hk, rfl, hF, hT, hb⟩ := hrel
    by_cases hlt : k < bs.length
    · have k0 : (0 : Int) ≤ (k : Int) := by omega
      have k1 : (k : Int) < (bs.length : Int) := by omega
      have HG := Lib.hid (smB_get HS.out k hlt)
      obtain ⟨A', ca', hv, ha⟩ := HR.out.below hb
      simp only [Value.slice.injEq] at hv
      obtain ⟨rfl, _, rfl⟩ := hv
      obtain ⟨g, off, rfl, hg, hca⟩ := ha (by omega)
      have d1 : wr.cell? ⟨g, off + k * 2, none⟩ = some (.string ⟨bs[k].1.toArray⟩) := (hca k hlt).1
      have d2 : wr.cell? ⟨g, off + k * 2 + 1, none⟩ = some (.string ⟨bs[k].2.toArray⟩) := (hca k hlt).2
      have B2 : Below w.heap.size w (wr.alloc (.cells #[.string ⟨bs[k].1.toArray⟩, .string ⟨bs[k].2.toArray⟩] 58)) := hb.alloc hb.size _
      have F2 := hF.alloc (.cells #[.string ⟨bs[k].1.toArray⟩, .string ⟨bs[k].2.toArray⟩] 58)
      have T2 := hT.below ((Below.refl wr.heap.size wr).alloc (Nat.le_refl _) (.cells #[.string ⟨bs[k].1.toArray⟩, .string ⟨bs[k].2.toArray⟩] 58))
      have HN : Hid (bs.take k ++ [bs[k]] = bs.take (k + 1)) := Lib.hid (by rw [List.take_succ_eq_append_getElem hlt])
      have lm : fs.length = k := by rw [hT.1]; simp; omega
      clear ha hca F1 B1
      go_wp2_with fail
      refine (testOf_any _ _ _ HG.out.1 HG.out.2).mono ?_
      rintro e w3 ⟨f, rfl, hA, h1c, hb3⟩
      have B3 := B2.trans (hb3.mono B2.size)
      have F3 := F2.below hb3
      have T3 := (T2.below hb3).snoc hA
      rw [HN.out] at T3
      obtain ⟨Bb, Bl, Cb, Cl, _, _, _, _, hfe, _⟩ := id hA
      subst hfe
      clear d1 d2 F2 T2 hT hF hb3 hA
      go_wp2_with (at_builtin; refine wpList_append_fns rfl _ _ rfl w.heap.size _ _ rfl (F3.alloc _) _ h1c w3.heap.size _ _ _ rfl (heap_alloc_new w3 _) (by omega) (by simp; exact Nat.le_succ_of_le B3.size) ?_; intro g2 cap2 w4 F4 hg4)
      have T4 : Tests w4 _ (bs.take (k + 1)) := ⟨T3.1, fun j f b h1 h2 => ((T3.2 j f b h1 h2).below ((Below.refl w3.heap.size w3).alloc (Nat.le_refl _) _)).grown (F3.alloc _) hg4⟩
      have B4 : Below w.heap.size w w4 := by
        refine Below.grown (B3.alloc B3.size _) hg4 ?_ ?_
        · simp; exact Nat.le_succ_of_le B3.size
        · exact F3.owned
      rw [lm] at F4
      go_wp2_with fail
      go_roundw
      case rel => exact ⟨k + 1, _, by omega, by go_num, F4, T4, B4⟩
      case measure => simp [intOf]; omega
    · have HX : Hid (goodB bs = bs) := Lib.hid (by unfold goodB; rw [HO.out]; rfl)
      rw [List.take_of_length_le (by omega)] at hT
      go_wp2_with fail
      go_ret
      exact ⟨_, rfl, fs, hF, by rw [HX.out]; exact hT, hb⟩

set_option maxRecDepth 100000 in
set_option maxHeartbeats 4000000 in
theorem implIn_any (s : ByteArray) (v : Value) (bs : List Bd) (w : World) (hz : s.size ≤ 1048576) (hr : RdB w v bs) (hs : SmB bs) :
    Calls Tryz.prog 35 #[.string s, v] w fun e w' => e = .returned (.bool (inR s.data.toList bs)) ∧ Below w.heap.size w w' := by
  have HTO := Lib.hid (fun (W : World) (h : Below w.heap.size w W) => testsOf_any v bs W (hr.below h) hs)
  have HS := Lib.hid hs
  have HSP : Hid (Sm (readP s.data.toList)) := Lib.hid (readP_Sm (by simpa using hz))
  clear hs
  obtain ⟨ok, HOK⟩ : ∃ z, Hid (readOk s.data.toList = z) := ⟨_, Lib.hid rfl⟩
  obtain ⟨m, HM⟩ : ∃ m, Hid ((readP s.data.toList).length = m) := ⟨_, Lib.hid rfl⟩
  obtain ⟨l0, HL0⟩ : ∃ z, Hid (readA s.data.toList 0 = z) := ⟨_, Lib.hid rfl⟩
  obtain ⟨l1, HL1⟩ : ∃ z, Hid (readA s.data.toList 1 = z) := ⟨_, Lib.hid rfl⟩
  obtain ⟨l2, HL2⟩ : ∃ z, Hid (readA s.data.toList 2 = z) := ⟨_, Lib.hid rfl⟩
  have HI : Hid (inR s.data.toList bs = (ok && rngOk bs && bs.any (takesL s.data.toList))) := Lib.hid (by unfold inR; rw [HOK.out])
  go_enter Tryz.func35, Tryz.ntmps35
  go_wp2_with fail
  refine (implReadVersion_any _ _ hz).mono ?_
  rintro e w1 ⟨u, rfl, hu, hb1⟩
  obtain ⟨uA, uc, rfl⟩ := hu.slice
  rw [HOK.out, HL0.out, HL1.out, HL2.out, HM.out]
  have hRL : RdS w1 (.slice uA m uc) (readP s.data.toList) := by have := RdS.of_strs hu; rw [HM.out] at this; exact this
  have B1 := hb1.alloc hb1.size (.cells #[.int .i64 l0, .int .i64 l1, .int .i64 l2, .slice uA m uc] 51)
  have v1 := heap_alloc_new w1 (.cells #[.int .i64 l0, .int .i64 l1, .int .i64 l2, .slice uA m uc] 51)
  have hR1 := rdS_alloc hRL (.cells #[.int .i64 l0, .int .i64 l1, .int .i64 l2, .slice uA m uc] 51)
  clear hb1 hu hRL
  cases ok
  · have HF : Hid (inR s.data.toList bs = false) := Lib.hid (by rw [HI.out]; rfl)
    go_wp2_with fail
    go_ret
    exact ⟨ret_bool HF.out.symm, B1⟩
  go_wp2_with fail
  refine (HTO.out _ B1).mono ?_
  rintro e w2 ⟨t, rfl, fs, hF, hT, hb2⟩
  have B2 := B1.trans (hb2.mono B1.size)
  have v2 := keepB v1 hb2
  have hR2 := hR1.below hb2
  obtain ⟨cs, HCS⟩ : ∃ cs, Hid ((goodB bs) = cs) := ⟨_, Lib.hid rfl⟩
  rw [HCS.out] at hT
  have HI2 : Hid (inR s.data.toList bs = cs.any (takesL s.data.toList)) := Lib.hid (by
    rw [HI.out, ← HCS.out]
    unfold goodB
    by_cases h : rngOk bs = true
    · rw [if_pos h, h]; rfl
    · rw [if_neg h, Bool.eq_false_iff.2 h]; rfl)
  have HLN : Hid (∀ b ∈ cs, b.1.length ≤ 1048576 ∧ b.2.length ≤ 1048576) := Lib.hid (fun b hb => by
    have hm : b ∈ bs := by
      rw [← HCS.out] at hb
      unfold goodB at hb
      split at hb
      · exact hb
      · cases hb
    have := smB_mem b hm
    have h := HS.out
    unfold SmB at h
    omega)
  have lc : cs.length ≤ 1048576 := by
    have h := HS.out
    rw [← HCS.out]
    unfold SmB at h
    unfold goodB
    split
    · omega
    · simp
  obtain ⟨tA, tc, htv, htc⟩ : ∃ A c, t = .slice A cs.length c ∧ ∀ k (h : k < cs.length), ∃ g f, A = some ⟨g, 0, none⟩ ∧ g < w2.heap.size ∧ w2.cell? ⟨g, k, none⟩ = some f ∧ TestAt w2 f cs[k] := by
    rcases hF.form with ⟨rfl, rfl⟩ | ⟨g, cap, rfl, _, hg⟩
    · have : cs.length = 0 := hT.1.symm
      exact ⟨none, 0, by rw [this], fun k h => by omega⟩
    · refine ⟨_, cap, by rw [hT.1], fun k h => ⟨g, fs[k]'(by rw [hT.1]; exact h), rfl, hg, hF.cell k _, hT.2 k _ _ (List.getElem?_eq_getElem _) (List.getElem?_eq_getElem h)⟩⟩
  subst htv
  have HTC := Lib.hid htc
  have HV2 := Lib.hid v2
  have HR2 := Lib.hid hR2
  clear htc v2 hR2 hT hF hb2 B1 v1 hR1 hr
  go_wp2_with fail
  go_loopw [8, 19] (fun _ i wr => ∃ k : Nat, k ≤ cs.length ∧ i = .int .i64 k ∧ Hid ((cs.take k).any (takesL s.data.toList) = false) ∧ Below w2.heap.size w2 wr) (fun _ i _ => cs.length - (intOf i).toNat)
  case atStart => exact ⟨0, Nat.zero_le _, rfl, Lib.hid (by simp), Below.refl _ _⟩
  case round =>
    obtain ⟨k, hk, rfl, H, hb⟩ := hrel
    by_cases hlt : k < cs.length
    · have k0 : (0 : Int) ≤ (k : Int) := by omega
      have k1 : (k : Int) < (cs.length : Int) := by omega
      obtain ⟨g, f, rfl, hg, hc, hA⟩ := HTC.out k hlt
      have HLK := HLN.out cs[k] (List.getElem_mem hlt)
      obtain ⟨caps, hfe, hcall⟩ := test1_any cs[k] f l0 l1 l2 _ _ wr (hA.below hb) (HR2.out.below hb) HSP.out HLK.1 HLK.2
      obtain ⟨Bb, Bl, Cb, Cl, _, _, _, _, hfe2, _⟩ := id hA
      rw [hfe2] at hfe hc
      simp only [Value.func.injEq, true_and] at hfe
      subst hfe
      have d1 := (hb.cell (p := ⟨g, k, none⟩) hg).trans hc
      obtain ⟨x0, x1, x2, x3⟩ := cells4 (keepB HV2.out hb)
      obtain ⟨tk, HTK⟩ : ∃ z, Hid (takes cs[k] l0 l1 l2 (readP s.data.toList) = z) := ⟨_, Lib.hid rfl⟩
      have HTL : Hid (takesL s.data.toList cs[k] = tk) := Lib.hid (by unfold takesL; rw [HL0.out, HL1.out, HL2.out]; exact HTK.out)
      rw [HTK.out] at hcall
      have HCC := Lib.hid hcall
      clear hcall hA hc hfe2
      go_wp2_with fail
      refine HCC.out.mono ?_
      rintro e w3 ⟨rfl, hb3⟩
      have B3 := hb.trans (hb3.mono hb.size)
      cases tk
      · have HH := Lib.hid (any_take cs _ k hlt H.out HTL.out)
        go_wp2_with fail
        go_roundw
        case rel => exact ⟨k + 1, by omega, by go_num, HH, B3⟩
        case measure => simp [intOf]; omega
      · have HFF : Hid (inR s.data.toList bs = true) := Lib.hid (by rw [HI2.out, any_yes cs _ k hlt HTL.out])
        go_wp2_with fail
        go_ret
        exact ⟨ret_bool HFF.out.symm, B2.trans (B3.mono B2.size)⟩
    · have HFF : Hid (inR s.data.toList bs = false) := Lib.hid (by
        have h := H.out
        rw [List.take_of_length_le (by omega)] at h
        rw [HI2.out, h])
      go_wp2_with fail
      go_ret
      exact ⟨ret_bool HFF.out.symm, B2.trans (hb.mono B2.size)⟩
end Go.Proofs.YtjpclglklmlhlabGreatDoor
