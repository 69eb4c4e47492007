/-
  impl.PutIntegrity returns the integrity text of sums.
-/
import Derived.Test.YtnodhkjgnegkcaaGreatDoorWholeI
import Derived.Test.YtnodhkjgnegkcaaGreatDoorWholeH
import Derived.Test.YtnodhkjgnegkcaaGreatDoorIndexA
import Derived.Test.YtnodhkjgnegkcaaGreatDoorRdIs
import Derived.Deep.QuietTactic
import Derived.BigQuiet
import Derived.Test.YtnodhkjgnegkcaaGreatDoorRdL
import Derived.Test.YtnodhkjgnegkcaaGreatDoorDecM
import Derived.Deep.RegionHeld3
import Derived.Test.YtnodhkjgnegkcaaGreatDoorRdB
import Derived.Test.YtnodhkjgnegkcaaGreatDoorWholeD
import Derived.Test.YtnodhkjgnegkcaaGreatDoorGrw
import Derived.LoopN
import Derived.Test.YtnodhkjgnegkcaaGreatDoorPieces
import Derived.Test.YtnodhkjgnegkcaaGreatDoorWholeB
import Derived.Test.YtnodhkjgnegkcaaGreatDoorWholeF
import Derived.Lib.BufferWrite
import Derived.StillTailTactics
import Derived.WalkKit
import Derived.RangeFuncFrom
import Derived.RangeFuncBox
import Derived.RangeFuncNested
import Derived.Shelf.Strings.Trim
import Derived.Ground.NamesProg
import Derived.Test.YtnodhkjgnegkcaaGreatDoorProg
import Derived.Test.YtnodhkjgnegkcaaGreatDoorStrs
import Derived.Deep.RegionHeldLaw
/-
  The tests of bounds in a row: impl.testsOf; impl.In.
-/
namespace Go.Proofs.YtnodhkjgnegkcaaGreatDoor
open Go.RowKit

theorem fninfo : (Tryz.prog.info? 210).map (fun i => (i.zero, i.size, i.bytes)) = some (some .nilFunc, 1, 8) := by kernel_rfl
/-- v is the call's own row of these functions. -/
def Fns (w : World) (base : Nat) (v : Value) (fs : List Value) : Prop := w.ownsRow base 210 1 v fs.length fs
theorem Fns.form {w : World} {base : Nat} {v : Value} {l : List Value} (h : Fns w base v l) : (v = .slice none 0 0 ∧ l = []) ∨ ∃ g cap, v = .slice (some ⟨g, 0, none⟩) l.length cap ∧ base ≤ g ∧ g < w.heap.size := by
  rcases h.2 with ⟨hv, hl⟩ | ⟨g, cap, cur, hv, hb, hh, _⟩
  · left; exact ⟨hv, by simpa using hl⟩
  · right
    refine ⟨g, cap, hv, hb, ?_⟩
    rcases Nat.lt_or_ge g w.heap.size with hlt | hge
    · exact hlt
    · rw [Array.getElem?_eq_none hge] at hh; cases hh
theorem Fns.alloc {w : World} {base : Nat} {v : Value} {l : List Value} (h : Fns w base v l) (o : Obj) : Fns (w.alloc o) base v l := World.ownsRow.alloc h o
theorem Fns.owned {w : World} {base : Nat} {v : Value} {l : List Value} (h : Fns w base v l) : ∀ g, v.ownBlock = some g → base ≤ g := by
  intro g hg
  rcases h.form with ⟨rfl, _⟩ | ⟨g', cap, rfl, hb, _⟩
  · simp [Value.ownBlock] at hg
  · simp [Value.ownBlock] at hg; omega
theorem Fns.below {w w' : World} {base : Nat} {v : Value} {l : List Value} (h : Fns w base v l) (hb : Below w.heap.size w w') : Fns w' base v l :=
  World.ownsRow.kept h (row := none) ⟨hb.os, hb.tape, hb.output, hb.size, fun i hi _ => hb.block i hi⟩ (by
    rcases h.form with ⟨rfl, _⟩ | ⟨g, cap, rfl, _, _⟩
    · left; rfl
    · right; simp [Value.ownBlock])
theorem Fns.cell {w : World} {base : Nat} {l : List Value} {g n cap : Nat} (h : Fns w base (.slice (some ⟨g, 0, none⟩) n cap) l) (k : Nat) (hk : k < l.length) : w.cell? ⟨g, k, none⟩ = some l[k] := by
  have := World.ownsRow.cells (g := g) h rfl k l[k] (by simp [hk])
  have hadd : (⟨g, 0, none⟩ : Addr).add k = ⟨g, k, none⟩ := by unfold Addr.add; split <;> simp_all
  rwa [hadd] at this
theorem Fns.empty (w : World) (base : Nat) (hb : base ≤ w.heap.size) : Fns (w.alloc (.cells #[] 210)) base (.slice (some ⟨w.heap.size, 0, none⟩) 0 0) [] := by
  have h := World.ownsRow_lit (base := base) (e := 210) (size := 1) w #[] 0 hb (by unfold maxLen; omega) (by simp)
  simpa [Fns] using h

theorem run_append_fns (w : World) (ty : TypeId) (base : Nat) (v : Value) (l : List Value) (hown : Fns w base v l) (x : Value) (hx : x.oneCell' = true) (B c : Nat) (t : TypeId) (fr : Nat × Nat)
    (hblk : w.heap[B]? = some (.cells #[x] t fr)) (hlen : l.length + 1 ≤ 16777216) (hbase : base ≤ w.heap.size) :
    ∃ g cap w', (Builtin.append_ #[214, 214] ty #[v, .slice (some ⟨B, 0, none⟩) 1 c]).run Tryz.prog w = .ok (.slice (some ⟨g, 0, none⟩) (l.length + 1) cap) w' ∧ Fns w' base (.slice (some ⟨g, 0, none⟩) (l.length + 1) cap) (l ++ [x]) ∧ w.grownBy w' v.ownBlock ∧ (v.ownBlock = some g ∨ g = w.heap.size) := by
  obtain ⟨i0, hi, hz0, hz1, hz2⟩ := info_parts fninfo
  obtain ⟨g, cap, w', hr, h2, h3, h4, _⟩ := run_append_lies (P := Tryz.prog) w 214 ty base 210 i0 .nilFunc 1 8 Tryz.underlying214 hi hz0 hz1 hz2 rfl (by decide) v l.length l hown
    ⟨B, 0, none⟩ 1 c [x] (by simp) (World.news_of_block hblk) (by intro u hu; simp at hu; subst hu; exact hx) (by omega) (by unfold maxLen; omega) (by omega) hbase _ rfl
  refine ⟨g, cap, w', hr, ?_, h3, h4⟩
  unfold Fns
  rw [List.length_append]
  exact h2

/-- append(tests, f) at a plain region's list. -/
theorem wpList_append_fns {w : World} {ops : Array Oper} {rest : List Oper} {o : Oper} {a : Act} {Q : Exit → Act → World → Prop} (hgd : o.guard = none) (s x : Operand)
    (ho : o.op = .call { callee := .builtin .append, args := #[s, x], argTypes := #[214, 214] })
    (base : Nat) (v : Value) (l : List Value) (hs : a.eval s = v) (hown : Fns w base v l) (y : Value) (hy : y.oneCell' = true) (B c : Nat) (t : TypeId) (fr : Nat × Nat)
    (hx : a.eval x = .slice (some ⟨B, 0, none⟩) 1 c) (hblk : w.heap[B]? = some (.cells #[y] t fr)) (hlen : l.length + 1 ≤ 16777216) (hbase : base ≤ w.heap.size)
    (h : ∀ g cap w', Fns w' base (.slice (some ⟨g, 0, none⟩) (l.length + 1) cap) (l ++ [y]) → w.grownBy w' v.ownBlock → wpList Tryz.prog ops Q rest (a.put o.dst (.slice (some ⟨g, 0, none⟩) (l.length + 1) cap)) w') : wpList Tryz.prog ops Q (o :: rest) a w := by
  refine wpList_plain hgd fun _ hK => ?_
  obtain ⟨g, cap, w', hr, h2, h3, _⟩ := run_append_fns w o.type base v l hown y hy B c t fr hblk hlen hbase
  unfold Oper.wp execOp
  simp only [ho, resolve, invoke, builtin, Sem.run_bind, Sem.run_pure, Result.andThen_ok, List.map_toArray, List.map_cons, List.map_nil, hs, hx, hr]
  exact hK _ _ (h g cap w' h2 h3)

/-- A row of functions that grows leaves a test as it was. -/
theorem TestAt.grown {w w' : World} {base : Nat} {v f : Value} {fs : List Value} {b : Bd} (h : TestAt w f b) (hF : Fns w base v fs) (hg : w.grownBy w' v.ownBlock) : TestAt w' f b := by
  obtain ⟨Bb, Bl, Cb, Cl, uc, tc, uA, tA, e, h1, h2, h3, h4, h5, h6⟩ := h
  have ne : ∀ (B : Nat) (cs : Array Value) (T : TypeId), w.heap[B]? = some (.cells cs T) → T ≠ 210 → some B ≠ v.ownBlock := fun B cs T hB hT => by
    rcases hF.2 with ⟨rfl, _⟩ | ⟨g, cap, cur, rfl, _, hh, _⟩
    · simp [Value.ownBlock]
    · simp only [Value.ownBlock, ne_eq, Option.some.injEq]
      rintro rfl
      rw [hh] at hB
      simp only [Option.some.injEq, Obj.cells.injEq] at hB
      exact hT hB.2.1.symm
  have keep : ∀ (B : Nat) (cs : Array Value) (T : TypeId), w.heap[B]? = some (.cells cs T) → T ≠ 210 → w'.heap[B]? = some (.cells cs T) := fun B cs T hB hT => (hg.block B (lt_of_heap hB) (ne B cs T hB hT)).trans hB
  have keepS : ∀ (u : Value) (ls : List (List UInt8)), Strs w 0 u ls → Strs w' 0 u ls := fun u ls hS => World.ownsRow.kept hS hg (by
    rcases hS.2 with ⟨rfl, _⟩ | ⟨g, cap, cur, rfl, _, hh, _⟩
    · left; rfl
    · right
      have := ne g cur _ hh (by decide)
      simpa [Value.ownBlock] using this)
  exact ⟨Bb, Bl, Cb, Cl, uc, tc, uA, tA, e, keep _ _ _ h1 (by decide), keep _ _ _ h2 (by decide), keep _ _ _ h3 (by decide), keep _ _ _ h4 (by decide), keepS _ _ h5, keepS _ _ h6⟩

/-- The bounds of a range, none where they are none. -/
def goodB (bs : List Bd) : List Bd := if rngOk bs = true then bs else []
/-- The tests fs are those of the bounds bs. -/
def Tests (w : World) (fs : List Value) (bs : List Bd) : Prop := fs.length = bs.length ∧ ∀ (k : Nat) (f : Value) (b : Bd), fs[k]? = some f → bs[k]? = some b → TestAt w f b
theorem Tests.below {w w' : World} {fs : List Value} {bs : List Bd} (h : Tests w fs bs) (hb : Below w.heap.size w w') : Tests w' fs bs := ⟨h.1, fun k f b h1 h2 => (h.2 k f b h1 h2).below hb⟩
theorem Tests.snoc {w : World} {fs : List Value} {bs : List Bd} {f : Value} {b : Bd} (h : Tests w fs bs) (hf : TestAt w f b) : Tests w (fs ++ [f]) (bs ++ [b]) := by
  refine ⟨by simp [h.1], fun k f' b' h1 h2 => ?_⟩
  by_cases hk : k < fs.length
  · rw [List.getElem?_append_left hk] at h1
    rw [List.getElem?_append_left (by rw [← h.1]; exact hk)] at h2
    exact h.2 k f' b' h1 h2
  · rw [List.getElem?_append_right (by omega)] at h1
    rw [List.getElem?_append_right (by rw [← h.1]; omega), ← h.1] at h2
    cases hn : k - fs.length with
    | zero => rw [hn] at h1 h2; simp at h1 h2; subst h1 h2; exact hf
    | succ n => rw [hn] at h1; simp at h1

set_option maxRecDepth 100000 in
set_option maxHeartbeats 2000000 in
theorem testsOf_any (v : Value) (bs : List Bd) (w : World) (hr : RdB w v bs) (hs : SmB bs) :
    Calls Tryz.prog 200 #[v] w fun e w' => ∃ u, e = .returned u ∧ ∃ fs, Fns w' w.heap.size u fs ∧ Tests w' fs (goodB bs) ∧ Below w.heap.size w w' := by
  have HR := Lib.hid hr
  have HS := Lib.hid hs
  have HV := Lib.hid (fun (W : World) (h : Below w.heap.size w W) => implRangeOk_any v bs W (hr.below h) hs)
  obtain ⟨A, ca, rfl, ha⟩ := hr
  have hn : bs.length ≤ 1048576 := by unfold SmB at hs; omega
  clear ha hs
  have F0 := Fns.empty w w.heap.size (Nat.le_refl _)
  have B0 : Below w.heap.size w (w.alloc (.cells #[] 210)) := (Below.refl _ _).alloc (Nat.le_refl _) _
  obtain ⟨ok, HO⟩ : ∃ ok, Hid (rngOk bs = ok) := ⟨_, Lib.hid rfl⟩
  go_enter Tryz.func200, Tryz.ntmps200
  go_wp2_with fail
  refine (HV.out _ B0).mono ?_
  rw [HO.out]
  rintro e w1 ⟨rfl, hb1⟩
  have F1 := F0.below hb1
  have B1 := B0.trans (hb1.mono B0.size)
  clear F0 B0 hb1
  cases ok
  · go_wp2_with fail
    go_ret
    have HX : Hid (goodB bs = []) := Lib.hid (by unfold goodB; rw [HO.out]; rfl)
    exact ⟨_, rfl, [], F1, by rw [HX.out]; exact ⟨rfl, fun k f b h => by simp at h⟩, B1⟩
  go_wp2_with fail
  go_loopw [3, 5, 13] (fun o _ i wr => ∃ (k : Nat) (fs : List Value), k ≤ bs.length ∧ i = .int .i64 k ∧ Fns wr w.heap.size o fs ∧ Tests wr fs (bs.take k) ∧ Below w.heap.size w wr) (fun _ _ i _ => bs.length - (intOf i).toNat)
  case atStart => exact ⟨0, [], Nat.zero_le _, rfl, F1, ⟨by simp, fun k f b h => by simp at h⟩, B1⟩
  case round =>
    obtain ⟨k, fs, hk, rfl, hF, hT, hb⟩ := hrel
    by_cases hlt : k < bs.length
    · have k0 : (0 : Int) ≤ (k : Int) := by omega
      have k1 : (k : Int) < (bs.length : Int) := by omega
      have HG := Lib.hid (smB_get HS.out k hlt)
      obtain ⟨A', ca', hv, ha⟩ := HR.out.below hb
      simp only [Value.slice.injEq] at hv
      obtain ⟨rfl, _, rfl⟩ := hv
      obtain ⟨g, off, rfl, hg, hca⟩ := ha (by omega)
      have d1 : wr.cell? ⟨g, off + k * 2, none⟩ = some (.string ⟨bs[k].1.toArray⟩) := (hca k hlt).1
      have d2 : wr.cell? ⟨g, off + k * 2 + 1, none⟩ = some (.string ⟨bs[k].2.toArray⟩) := (hca k hlt).2
      have B2 : Below w.heap.size w (wr.alloc (.cells #[.string ⟨bs[k].1.toArray⟩, .string ⟨bs[k].2.toArray⟩] 166)) := hb.alloc hb.size _
      have F2 := hF.alloc (.cells #[.string ⟨bs[k].1.toArray⟩, .string ⟨bs[k].2.toArray⟩] 166)
      have T2 := hT.below ((Below.refl wr.heap.size wr).alloc (Nat.le_refl _) (.cells #[.string ⟨bs[k].1.toArray⟩, .string ⟨bs[k].2.toArray⟩] 166))
      have HN : Hid (bs.take k ++ [bs[k]] = bs.take (k + 1)) := Lib.hid (by rw [List.take_succ_eq_append_getElem hlt])
      have lm : fs.length = k := by rw [hT.1]; simp; omega
      clear ha hca F1 B1
      go_wp2_with fail
      refine (testOf_any _ _ _ HG.out.1 HG.out.2).mono ?_
      rintro e w3 ⟨f, rfl, hA, h1c, hb3⟩
      have B3 := B2.trans (hb3.mono B2.size)
      have F3 := F2.below hb3
      have T3 := (T2.below hb3).snoc hA
      rw [HN.out] at T3
      obtain ⟨Bb, Bl, Cb, Cl, _, _, _, _, hfe, _⟩ := id hA
      subst hfe
      clear d1 d2 F2 T2 hT hF hb3 hA
      go_wp2_with (at_builtin; refine wpList_append_fns rfl _ _ rfl w.heap.size _ _ rfl (F3.alloc _) _ h1c w3.heap.size _ _ _ rfl (heap_alloc_new w3 _) (by omega) (by simp; exact Nat.le_succ_of_le B3.size) ?_; intro g2 cap2 w4 F4 hg4)
      have T4 : Tests w4 _ (bs.take (k + 1)) := ⟨T3.1, fun j f b h1 h2 => ((T3.2 j f b h1 h2).below ((Below.refl w3.heap.size w3).alloc (Nat.le_refl _) _)).grown (F3.alloc _) hg4⟩
      have B4 : Below w.heap.size w w4 := by
        refine Below.grown (B3.alloc B3.size _) hg4 ?_ ?_
        · simp; exact Nat.le_succ_of_le B3.size
        · exact F3.owned
      rw [lm] at F4
      go_wp2_with fail
      go_roundw
      case rel => exact ⟨k + 1, _, by omega, by go_num, F4, T4, B4⟩
      case measure => simp [intOf]; omega
    · have HX : Hid (goodB bs = bs) := Lib.hid (by unfold goodB; rw [HO.out]; rfl)
      rw [List.take_of_length_le (by omega)] at hT
      go_wp2_with fail
      go_ret
      exact ⟨_, rfl, fs, hF, by rw [HX.out]; exact hT, hb⟩

set_option maxRecDepth 100000 in
set_option maxHeartbeats 4000000 in
theorem implIn_any (s : ByteArray) (v : Value) (bs : List Bd) (w : World) (hz : s.size ≤ 1048576) (hr : RdB w v bs) (hs : SmB bs) :
    Calls Tryz.prog 155 #[.string s, v] w fun e w' => e = .returned (.bool (inR s.data.toList bs)) ∧ Below w.heap.size w w' := by
  have HTO := Lib.hid (fun (W : World) (h : Below w.heap.size w W) => testsOf_any v bs W (hr.below h) hs)
  have HS := Lib.hid hs
  have HSP : Hid (Sm (readP s.data.toList)) := Lib.hid (readP_Sm (by simpa using hz))
  clear hs
  obtain ⟨ok, HOK⟩ : ∃ z, Hid (readOk s.data.toList = z) := ⟨_, Lib.hid rfl⟩
  obtain ⟨m, HM⟩ : ∃ m, Hid ((readP s.data.toList).length = m) := ⟨_, Lib.hid rfl⟩
  obtain ⟨l0, HL0⟩ : ∃ z, Hid (readA s.data.toList 0 = z) := ⟨_, Lib.hid rfl⟩
  obtain ⟨l1, HL1⟩ : ∃ z, Hid (readA s.data.toList 1 = z) := ⟨_, Lib.hid rfl⟩
  obtain ⟨l2, HL2⟩ : ∃ z, Hid (readA s.data.toList 2 = z) := ⟨_, Lib.hid rfl⟩
  have HI : Hid (inR s.data.toList bs = (ok && rngOk bs && bs.any (takesL s.data.toList))) := Lib.hid (by unfold inR; rw [HOK.out])
  go_enter Tryz.func155, Tryz.ntmps155
  go_wp2_with fail
  refine (implReadVersion_any _ _ hz).mono ?_
  rintro e w1 ⟨u, rfl, hu, hb1⟩
  obtain ⟨uA, uc, rfl⟩ := hu.slice
  rw [HOK.out, HL0.out, HL1.out, HL2.out, HM.out]
  have hRL : RdS w1 (.slice uA m uc) (readP s.data.toList) := by have := RdS.of_strs hu; rw [HM.out] at this; exact this
  have B1 := hb1.alloc hb1.size (.cells #[.int .i64 l0, .int .i64 l1, .int .i64 l2, .slice uA m uc] 117)
  have v1 := heap_alloc_new w1 (.cells #[.int .i64 l0, .int .i64 l1, .int .i64 l2, .slice uA m uc] 117)
  have hR1 := rdS_alloc hRL (.cells #[.int .i64 l0, .int .i64 l1, .int .i64 l2, .slice uA m uc] 117)
  clear hb1 hu hRL
  cases ok
  · have HF : Hid (inR s.data.toList bs = false) := Lib.hid (by rw [HI.out]; rfl)
    go_wp2_with fail
    go_ret
    exact ⟨ret_bool HF.out.symm, B1⟩
  go_wp2_with fail
  refine (HTO.out _ B1).mono ?_
  rintro e w2 ⟨t, rfl, fs, hF, hT, hb2⟩
  have B2 := B1.trans (hb2.mono B1.size)
  have v2 := keepB v1 hb2
  have hR2 := hR1.below hb2
  obtain ⟨cs, HCS⟩ : ∃ cs, Hid ((goodB bs) = cs) := ⟨_, Lib.hid rfl⟩
  rw [HCS.out] at hT
  have HI2 : Hid (inR s.data.toList bs = cs.any (takesL s.data.toList)) := Lib.hid (by
    rw [HI.out, ← HCS.out]
    unfold goodB
    by_cases h : rngOk bs = true
    · rw [if_pos h, h]; rfl
    · rw [if_neg h, Bool.eq_false_iff.2 h]; rfl)
  have HLN : Hid (∀ b ∈ cs, b.1.length ≤ 1048576 ∧ b.2.length ≤ 1048576) := Lib.hid (fun b hb => by
    have hm : b ∈ bs := by
      rw [← HCS.out] at hb
      unfold goodB at hb
      split at hb
      · exact hb
      · cases hb
    have := smB_mem b hm
    have h := HS.out
    unfold SmB at h
    omega)
  have lc : cs.length ≤ 1048576 := by
    have h := HS.out
    rw [← HCS.out]
    unfold SmB at h
    unfold goodB
    split
    · omega
    · simp
  obtain ⟨tA, tc, htv, htc⟩ : ∃ A c, t = .slice A cs.length c ∧ ∀ k (h : k < cs.length), ∃ g f, A = some ⟨g, 0, none⟩ ∧ g < w2.heap.size ∧ w2.cell? ⟨g, k, none⟩ = some f ∧ TestAt w2 f cs[k] := by
    rcases hF.form with ⟨rfl, rfl⟩ | ⟨g, cap, rfl, _, hg⟩
    · have : cs.length = 0 := hT.1.symm
      exact ⟨none, 0, by rw [this], fun k h => by omega⟩
    · refine ⟨_, cap, by rw [hT.1], fun k h => ⟨g, fs[k]'(by rw [hT.1]; exact h), rfl, hg, hF.cell k _, hT.2 k _ _ (List.getElem?_eq_getElem _) (List.getElem?_eq_getElem h)⟩⟩
  subst htv
  have HTC := Lib.hid htc
  have HV2 := Lib.hid v2
  have HR2 := Lib.hid hR2
  clear htc v2 hR2 hT hF hb2 B1 v1 hR1 hr
  go_wp2_with fail
  go_loopw [8, 19] (fun _ i wr => ∃ k : Nat, k ≤ cs.length ∧ i = .int .i64 k ∧ Hid ((cs.take k).any (takesL s.data.toList) = false) ∧ Below w2.heap.size w2 wr) (fun _ i _ => cs.length - (intOf i).toNat)
  case atStart => exact ⟨0, Nat.zero_le _, rfl, Lib.hid (by simp), Below.refl _ _⟩
  case round =>
    obtain ⟨k, hk, rfl, H, hb⟩ := hrel
    by_cases hlt : k < cs.length
    · have k0 : (0 : Int) ≤ (k : Int) := by omega
      have k1 : (k : Int) < (cs.length : Int) := by omega
      obtain ⟨g, f, rfl, hg, hc, hA⟩ := HTC.out k hlt
      have HLK := HLN.out cs[k] (List.getElem_mem hlt)
      obtain ⟨caps, hfe, hcall⟩ := test1_any cs[k] f l0 l1 l2 _ _ wr (hA.below hb) (HR2.out.below hb) HSP.out HLK.1 HLK.2
      obtain ⟨Bb, Bl, Cb, Cl, _, _, _, _, hfe2, _⟩ := id hA
      rw [hfe2] at hfe hc
      simp only [Value.func.injEq, true_and] at hfe
      subst hfe
      have d1 := (hb.cell (p := ⟨g, k, none⟩) hg).trans hc
      obtain ⟨x0, x1, x2, x3⟩ := cells4 (keepB HV2.out hb)
      obtain ⟨tk, HTK⟩ : ∃ z, Hid (takes cs[k] l0 l1 l2 (readP s.data.toList) = z) := ⟨_, Lib.hid rfl⟩
      have HTL : Hid (takesL s.data.toList cs[k] = tk) := Lib.hid (by unfold takesL; rw [HL0.out, HL1.out, HL2.out]; exact HTK.out)
      rw [HTK.out] at hcall
      have HCC := Lib.hid hcall
      clear hcall hA hc hfe2
      go_wp2_with fail
      refine HCC.out.mono ?_
      rintro e w3 ⟨rfl, hb3⟩
      have B3 := hb.trans (hb3.mono hb.size)
      cases tk
      · have HH := Lib.hid (any_take cs _ k hlt H.out HTL.out)
        go_wp2_with fail
        go_roundw
        case rel => exact ⟨k + 1, by omega, by go_num, HH, B3⟩
        case measure => simp [intOf]; omega
      · have HFF : Hid (inR s.data.toList bs = true) := Lib.hid (by rw [HI2.out, any_yes cs _ k hlt HTL.out])
        go_wp2_with fail
        go_ret
        exact ⟨ret_bool HFF.out.symm, B2.trans (B3.mono B2.size)⟩
    · have HFF : Hid (inR s.data.toList bs = false) := Lib.hid (by
        have h := H.out
        rw [List.take_of_length_le (by omega)] at h
        rw [HI2.out, h])
      go_wp2_with fail
      go_ret
      exact ⟨ret_bool HFF.out.symm, B2.trans (hb.mono B2.size)⟩
end Go.Proofs.YtnodhkjgnegkcaaGreatDoor

/-
  strings.Cut and a cursor at a mark of one byte: no package variable is read.
-/
namespace Go.Proofs.YtnodhkjgnegkcaaGreatDoor
open Go.RowKit

set_option maxRecDepth 100000 in
set_option maxHeartbeats 1000000 in
theorem sliteIndex_one (l : List UInt8) (m : UInt8) (w : World) :
    Calls Tryz.prog 286 #[.string ⟨l.toArray⟩, .string ⟨#[m]⟩] w fun e w' => e = .returned (.int .i64 (Lib.indexByte l m)) ∧ w = w' := by
  have hm0 : (⟨#[m]⟩ : ByteArray).size = 1 := rfl
  by_cases he : l = [m]
  · have e1 : ([m] == l) = true := by rw [he]; simp
    have HD : Hid (Lib.indexByte l m = 0) := Lib.hid (by rw [he]; exact idx_hit [] rfl)
    clear he
    go_enter Tryz.func286, Tryz.ntmps286
    go_wp2_with fail
    go_ret
    exact ⟨ret_int HD.out.symm, rfl⟩
  · have e1 : ([m] == l) = false := by simp; exact fun h => he h.symm
    have hmm : ((m.toNat : Int).toNat).toUInt8 = m := by simp
    have HI := Lib.hid (fun W => sliteIndexByte_any ⟨l.toArray⟩ (m.toNat : Int) W)
    rw [hmm] at HI
    clear he
    go_enter Tryz.func286, Tryz.ntmps286
    go_wp2_with fail
    refine (HI.out _).mono ?_
    rintro e w' ⟨rfl, rfl⟩
    go_wp2_with fail
    go_ret
    exact ⟨rfl, rfl⟩

set_option maxRecDepth 100000 in
set_option maxHeartbeats 1000000 in
theorem cutOne_any (l : List UInt8) (m : UInt8) (w : World) (hl : l.length ≤ 1048576) :
    Calls Tryz.prog 231 #[.string ⟨l.toArray⟩, .string ⟨#[m]⟩] w fun e w' => e = .returned (.tuple #[.string ⟨(cutA m l).toArray⟩, .string ⟨(cutB m l).toArray⟩, .bool (decide (0 ≤ Lib.indexByte l m))]) ∧ ∃ n, w' = w.drewN n := by
  have HI := Lib.hid (fun W => sliteIndex_one l m W)
  have hsz : (⟨l.toArray⟩ : ByteArray).size = l.length := by show l.toArray.size = _; simp
  have hC : Calls Tryz.prog 263 #[.string ⟨l.toArray⟩, .string ⟨#[m]⟩] w fun e w' => e = .returned (.tuple #[.string ⟨(cutA m l).toArray⟩, .string ⟨(cutB m l).toArray⟩, .bool (decide (0 ≤ Lib.indexByte l m))]) ∧ ∃ n, w' = w.drewN n := by
    by_cases h0 : 0 ≤ Lib.indexByte l m
    · obtain ⟨k, hk⟩ : ∃ k : Nat, Lib.indexByte l m = (k : Int) := ⟨(Lib.indexByte l m).toNat, by omega⟩
      have hlt := idx_lt l m
      have HK := Lib.hid hk
      have hA : cutA m l = l.take k := by unfold cutA; rw [if_pos h0, hk]; simp
      have hB : cutB m l = l.drop (k + 1) := by unfold cutB; rw [if_pos h0, hk]; simp
      rw [hA, hB, decide_eq_true h0]
      have e1 := slice_to ⟨l.toArray⟩ ⟨(l.take k).toArray⟩ k (k : Int) rfl (by rw [hsz]; omega) (by have := piece ⟨l.toArray⟩ 0 k; simpa using this)
      have e2 := slice_from ⟨l.toArray⟩ ⟨(l.drop (k + 1)).toArray⟩ (k + 1) ((k : Int) + 1) (by omega) (by rw [hsz]; omega) (by have := piece_end ⟨l.toArray⟩ (k + 1); simpa using this)
      have hkl : k < l.length := by omega
      clear hk h0 hA hB hlt
      go_enter Tryz.func263, Tryz.ntmps263
      go_wp2_with fail
      refine (HI.out _).mono ?_
      rw [HK.out]
      rintro e w' ⟨rfl, rfl⟩
      have x1 : IntKind.i64.wrap ((k : Int) + 1) = (k : Int) + 1 := IntWalk.i64_in _ (by omega)
      have x2 : (0 : Int) ≤ (k : Int) := by omega
      go_wp2_with fail
      go_quiet (fail)
      go_wp2_with fail
      go_ret3
      exact ⟨rfl, _, rfl⟩
    · have hA : cutA m l = l := by unfold cutA; rw [if_neg h0]
      have hB : cutB m l = [] := by unfold cutB; rw [if_neg h0]
      rw [hA, hB, decide_eq_false h0]
      obtain ⟨d, hd⟩ : ∃ d, Lib.indexByte l m = d := ⟨_, rfl⟩
      have HD := Lib.hid hd
      rw [hd] at h0
      clear hd hA hB
      go_enter Tryz.func263, Tryz.ntmps263
      go_wp2_with fail
      refine (HI.out _).mono ?_
      rw [HD.out]
      rintro e w' ⟨rfl, rfl⟩
      go_wp2_with fail
      go_ret3
      exact ⟨rfl, 0, rfl⟩
  have HC := Lib.hid hC
  clear hC HI
  go_enter Tryz.func231, Tryz.ntmps231
  go_wp2_with fail
  refine HC.out.mono ?_
  rintro e w' ⟨rfl, n, rfl⟩
  go_wp2_with fail
  go_ret3
  exact ⟨rfl, _, rfl⟩

set_option maxRecDepth 100000 in
set_option maxHeartbeats 1000000 in
theorem upToOne_any (q : Nat) (T : TypeId) (l : List UInt8) (m : UInt8) (w : World) (hl : l.length ≤ 1048576) (hq : w.heap[q]? = some (.cells #[.string ⟨l.toArray⟩] T)) :
    Calls Tryz.prog 193 #[.pointer (some ⟨q, 0, none⟩), .string ⟨#[m]⟩] w fun e w' => e = .returned (.string ⟨(cutA m l).toArray⟩) ∧ CurTo q T w (cutB m l) w' := by
  have HC := Lib.hid (cutOne_any l m w hl)
  have c0 := cells1 hq
  have f0 := frozen1 hq
  have HQ := Lib.hid hq
  clear hq
  go_enter Tryz.func193, Tryz.ntmps193
  go_wp2_with fail
  refine HC.out.mono ?_
  rintro e w1 ⟨rfl, n, rfl⟩
  go_wp2_with fail
  go_ret
  exact ⟨rfl, heap_one HQ.out _, gr_trans (gr_below (below_drewN _ _ n)) (gr_set _ q 0 _), by simp⟩
end Go.Proofs.YtnodhkjgnegkcaaGreatDoor

/-
  The laws' own helper markText: a mark's text.
-/
namespace Go.Proofs.YtnodhkjgnegkcaaGreatDoor
open Go.RowKit

/-- The k-th mark. -/
def mt (k : Nat) : List UInt8 := 109 :: Lib.decDigits k
theorem dig_val (v : Nat) : bv (digC (v % 10)) = .int .u8 (48 + (v : Int) % 10) := by
  have h : ∀ d : Nat, d < 10 → bv (digC d) = .int .u8 (48 + (d : Int)) := by
    intro d hd
    unfold bv digC
    congr 1
    simp
    omega
  rw [h _ (by omega)]
  congr 1

set_option maxRecDepth 100000 in
set_option maxHeartbeats 1000000 in
theorem markText_any (u : Nat) (w : World) (h1 : 1 ≤ u) (h2 : u ≤ 100000000) :
    Calls Tryz.prog 65 #[.int .i64 (u : Int)] w fun e w' => e = .returned (.string ⟨(mt u).toArray⟩) ∧ Below w.heap.size w w' := by
  go_enter Tryz.func65, Tryz.ntmps65
  go_wp2
  go_loopw [0, 3] (fun m o wr => ∃ (v : Nat) (l : List UInt8), o = .string ⟨l.toArray⟩ ∧ m = .int .i64 (v : Int) ∧ v ≤ u ∧ DecAt u v l ∧ Below w.heap.size w wr) (fun m _ _ => (intOf m).toNat)
  case atStart => exact ⟨u, [], rfl, rfl, Nat.le_refl _, decAt_start u (by omega), Below.refl _ _⟩
  case round =>
    obtain ⟨v, l, rfl, rfl, hvu, H, hb⟩ := hrel
    have hl := decAt_len H (by omega)
    by_cases hv : v = 0
    · subst hv
      obtain rfl := decAt_end H
      clear H
      go_wp2
      go_ret
      exact ⟨congrArg Ending.returned (str_cons _ _), hb⟩
    · have HN := Lib.hid (decAt_step H (by omega))
      have hpos : (0 : Int) < (v : Int) := by omega
      have hcv := (Buf.lit wr w.heap.size [digC (v % 10)] hb.size (by simp)).conv
      have hdv := dig_val v
      simp only [List.map_cons, List.map_nil, hdv, List.length_cons, List.length_nil, Nat.zero_add] at hcv
      clear hdv H hv
      go_wp2
      go_roundw
      case rel => exact ⟨v / 10, _, str_cons _ _, by go_num, by omega, HN.out, hb.alloc hb.size _⟩
      case measure => simp [intOf]; omega
end Go.Proofs.YtnodhkjgnegkcaaGreatDoor

/-
  Lists of pairs of marks.
-/
namespace Go.Proofs.YtnodhkjgnegkcaaGreatDoor

theorem flat2_setLo : ∀ (l : List Bd) (k : Nat) (y : List UInt8) (h : k < l.length), (flat2 l).set (k * 2) (sv y) = flat2 (l.set k (y, l[k].2))
  | [], k, y, h => by simp at h
  | a :: t, 0, y, _ => by simp [flat2]
  | a :: t, k + 1, y, h => by
    have := flat2_setLo t k y (by simpa using h)
    rw [show (k + 1) * 2 = k * 2 + 2 by omega]
    simp [flat2, this]
theorem flat2_setHi : ∀ (l : List Bd) (k : Nat) (y : List UInt8) (h : k < l.length), (flat2 l).set (k * 2 + 1) (sv y) = flat2 (l.set k (l[k].1, y))
  | [], k, y, h => by simp at h
  | a :: t, 0, y, _ => by simp [flat2]
  | a :: t, k + 1, y, h => by
    have := flat2_setHi t k y (by simpa using h)
    rw [show (k + 1) * 2 + 1 = k * 2 + 1 + 2 by omega]
    simp [flat2, this]
/-- The first k bounds marked from s on. -/
def mkB (s k : Nat) (bs : List Bd) : List Bd := (List.range k).map (fun i => (mt (s + 2 * i), mt (s + 2 * i + 1))) ++ bs.drop k
theorem mkB_len (s k : Nat) (bs : List Bd) (h : k ≤ bs.length) : (mkB s k bs).length = bs.length := by simp [mkB]; omega
theorem mkB_zero (s : Nat) (bs : List Bd) : mkB s 0 bs = bs := by simp [mkB]
theorem mkB_set (s k : Nat) (bs : List Bd) (h : k < bs.length) (x : Bd) : ((mkB s k bs).set k x).set k (mt (s + 2 * k), mt (s + 2 * k + 1)) = mkB s (k + 1) bs := by
  apply List.ext_getElem
  · simp [mkB]; omega
  · intro i h1 h2
    simp only [List.set_set]
    rw [List.getElem_set]
    by_cases hi : k = i
    · subst hi
      simp [mkB]
    · rw [if_neg hi]
      simp only [mkB, List.getElem_append, List.length_map, List.length_range]
      by_cases hlt : i < k
      · rw [dif_pos hlt, dif_pos (by omega)]
        simp
      · rw [dif_neg hlt, dif_neg (by omega)]
        simp only [List.getElem_drop]
        congr 1
        omega

theorem mkB_get (s : Nat) (bs : List Bd) (k : Nat) (_h : k < bs.length) (hX : k < (mkB s bs.length bs).length) : (mkB s bs.length bs)[k] = (mt (s + 2 * k), mt (s + 2 * k + 1)) := by
  simp [mkB]
end Go.Proofs.YtnodhkjgnegkcaaGreatDoor

/-
  The laws' own helpers on lists of sums: markSumS writes marks over each field.
-/
namespace Go.Proofs.YtnodhkjgnegkcaaGreatDoor
open Go.RowKit

theorem Sums.setLo {w : World} {base g cap : Nat} {l : List Bd} (h : Sums w base (.slice (some ⟨g, 0, none⟩) l.length cap) l) (k : Nat) (hk : k < l.length) (y : List UInt8) :
    Sums (w.setCell ⟨g, k * 2, none⟩ (sv y)) base (.slice (some ⟨g, 0, none⟩) l.length cap) (l.set k (y, l[k].2)) := by
  unfold Sums at h ⊢
  rw [List.length_set, ← flat2_setLo]
  exact (World.ownsRow.stored h (k * 2) (sv y)).1
theorem Sums.setHi {w : World} {base g cap : Nat} {l : List Bd} (h : Sums w base (.slice (some ⟨g, 0, none⟩) l.length cap) l) (k : Nat) (hk : k < l.length) (y : List UInt8) :
    Sums (w.setCell ⟨g, k * 2 + 1, none⟩ (sv y)) base (.slice (some ⟨g, 0, none⟩) l.length cap) (l.set k (l[k].1, y)) := by
  unfold Sums at h ⊢
  rw [List.length_set, ← flat2_setHi]
  exact (World.ownsRow.stored h (k * 2 + 1) (sv y)).1
theorem Sums.grown {w w' : World} {base : Nat} {v : Value} {l : List Bd} {row : Option Nat} (h : Sums w base v l) (hg : w.grownBy w' row) (hne : ∀ g, v.ownBlock = some g → some g ≠ row) : Sums w' base v l := by
  rcases h.form with ⟨rfl, rfl⟩ | ⟨g, cap, rfl, _, _⟩
  · exact ⟨by simp [flat2], .inl ⟨rfl, rfl⟩⟩
  · exact World.ownsRow.kept h hg (.inr (fun e => hne g rfl (by rw [← e]; rfl)))

set_option maxRecDepth 100000 in
set_option maxHeartbeats 2000000 in
theorem markSumS_gr (w : World) (base g cap s : Nat) (bs : List Bd) (h : Sums w base (.slice (some ⟨g, 0, none⟩) bs.length cap) bs) (hl : bs.length ≤ 2000000) (s1 : 1 ≤ s) (s2 : s ≤ 2000001) :
    Calls Tryz.prog 114 #[.slice (some ⟨g, 0, none⟩) bs.length cap, .int .i64 (s : Int)] w fun e w' => e = .returned (.int .i64 ((s + 2 * bs.length : Nat) : Int)) ∧ Sums w' base (.slice (some ⟨g, 0, none⟩) bs.length cap) (mkB s bs.length bs) ∧ w.grownBy w' (some g) := by
  obtain ⟨E, HE⟩ : ∃ E, Hid (s + 2 * bs.length = E) := ⟨_, Lib.hid rfl⟩
  rw [HE.out]
  go_enter Tryz.func114, Tryz.ntmps114
  go_wp2
  go_loopw [1, 5] (fun u i wr => ∃ k U : Nat, k ≤ bs.length ∧ Hid (U = s + 2 * k) ∧ i = .int .i64 k ∧ u = .int .i64 (U : Int) ∧ Sums wr base (.slice (some ⟨g, 0, none⟩) bs.length cap) (mkB s k bs) ∧ w.grownBy wr (some g)) (fun _ i _ => bs.length - (intOf i).toNat)
  case atStart => exact ⟨0, s, Nat.zero_le _, Lib.hid (by omega), rfl, rfl, by rw [mkB_zero]; exact h, World.grownBy.refl w _⟩
  case round =>
    obtain ⟨k, U, hk, HU, rfl, rfl, hS, hb⟩ := hrel
    have u1 : 1 ≤ U := by have := HU.out; omega
    have u2 : U ≤ 10000000 := by have := HU.out; omega
    by_cases hlt : k < bs.length
    · have k0 : (0 : Int) ≤ (k : Int) := by omega
      have k1 : (k : Int) < (bs.length : Int) := by omega
      have HML := Lib.hid (mkB_len s k bs hk)
      have HMS := Lib.hid (mkB_set s k bs hlt)
      obtain ⟨X, HX⟩ : ∃ X, Hid (mkB s k bs = X) := ⟨_, Lib.hid rfl⟩
      rw [HX.out] at hS
      have hXl : Hid (X.length = bs.length) := Lib.hid (by rw [← HX.out]; exact HML.out)
      have hkX : k < X.length := by rw [hXl.out]; exact hlt
      clear h
      go_wp2_with fail
      refine (markText_any U wr (by omega) (by omega)).mono ?_
      rintro e w2 ⟨rfl, hb2⟩
      have hS2 := hS.below hb2
      rw [← hXl.out] at hS2
      obtain ⟨c2, _⟩ := hS2.cell k hkX
      have f2 : w2.frozen? ⟨g, k * 2, none⟩ = false := World.ownsRow.frozenAt hS2 (k * 2)
      have B2 := gr_trans hb (gr_below hb2)
      have hS3 := hS2.setLo k hkX (mt U)
      have B3 := gr_trans B2 (gr_set w2 g (k * 2) (sv (mt U)))
      go_wp2_with fail
      refine (markText_any (U + 1) _ (by omega) (by omega)).mono ?_
      rintro e w4 ⟨rfl, hb4⟩
      have hS4 := hS3.below hb4
      have B4 := gr_trans B3 (gr_below hb4)
      have hS4' : Sums w4 base (.slice (some ⟨g, 0, none⟩) (X.set k (mt U, X[k].2)).length cap) (X.set k (mt U, X[k].2)) := by rw [List.length_set]; exact hS4
      have hk4 : k < (X.set k (mt U, X[k].2)).length := by rw [List.length_set]; exact hkX
      obtain ⟨_, c4⟩ := hS4.cell k hk4
      have f4 : w4.frozen? ⟨g, k * 2 + 1, none⟩ = false := World.ownsRow.frozenAt hS4' (k * 2 + 1)
      have hS5 := hS4'.setHi k hk4 (mt (U + 1))
      have B5 := gr_trans B4 (gr_set w4 g (k * 2 + 1) (sv (mt (U + 1))))
      have HF : Hid ((X.set k (mt U, X[k].2)).set k ((X.set k (mt U, X[k].2))[k].1, mt (U + 1)) = mkB s (k + 1) bs) := Lib.hid (by
        have := HMS.out (mt U, X[k].2)
        rw [HX.out, ← HU.out] at this
        simpa using this)
      rw [HF.out, List.length_set, hXl.out] at hS5
      clear hS hS2 hS3 hS4 hS4' B2 B3 B4 hb2 hb4
      go_wp2_with fail
      go_roundw
      case rel => exact ⟨k + 1, U + 2, by omega, Lib.hid (by have := HU.out; omega), by go_num, by go_num, hS5, B5⟩
      case measure => simp [intOf]; omega
    · obtain rfl : k = bs.length := by omega
      have HUE : Hid (U = E) := Lib.hid (by rw [HU.out, HE.out])
      clear h
      go_wp2_with fail
      go_ret
      exact ⟨by rw [← HUE.out]; rfl, hS, hb⟩

set_option maxRecDepth 100000 in
set_option maxHeartbeats 1000000 in
theorem markSm_gr (w : World) (base s : Nat) (v : Value) (bs : List Bd) (h : Sums w base v bs) (hl : bs.length ≤ 2000000) (s1 : 1 ≤ s) (s2 : s ≤ 2000001) :
    Calls Tryz.prog 114 #[v, .int .i64 (s : Int)] w fun e w' => e = .returned (.int .i64 ((s + 2 * bs.length : Nat) : Int)) ∧ Sums w' base v (mkB s bs.length bs) ∧ w.grownBy w' v.ownBlock := by
  rcases h.form with ⟨rfl, rfl⟩ | ⟨g, cap, rfl, hg, _⟩
  · go_enter Tryz.func114, Tryz.ntmps114
    go_wp2
    refine wp_loop_rounds 1 ?_
    rw [rounds_succ]; go_wp2
    go_ret
    exact ⟨rfl, h, World.grownBy.refl w _⟩
  · exact markSumS_gr w base g cap s bs h hl s1 s2
end Go.Proofs.YtnodhkjgnegkcaaGreatDoor

/-
  impl.triplesOf hands back an iterator that yields the bytes of a text by threes.
-/
namespace Go.Proofs.YtnodhkjgnegkcaaGreatDoor
open Go.RowKit Go.Shelf
attribute [local go_sem] Oper.semAt_some

/-- A group of three bytes, and how many of them are the text's. -/
structure Tri where
  a : UInt8
  b : UInt8
  c : UInt8
  n : Nat
  h1 : 1 ≤ n
  h3 : n ≤ 3
def triV (x : Tri) : Array Value := #[.agg #[.int .u8 (x.a.toNat : Int), .int .u8 (x.b.toNat : Int), .int .u8 (x.c.toNat : Int)], .int .i64 (x.n : Int)]
def tri (l : List UInt8) (g : Nat) : Tri := ⟨l.getD (3 * g) 0, l.getD (3 * g + 1) 0, l.getD (3 * g + 2) 0, max 1 (min 3 (l.length - 3 * g)), by omega, by omega⟩

def TriAll (l : List UInt8) (ys : List Tri) : Prop := ys = (List.range ((l.length + 2) / 3)).map (tri l)

theorem run_copy3 (w : World) (g : Nat) (s : ByteArray) (cur : Array Value) (t : TypeId) (hg : w.heap[g]? = some (.cells cur t (0, 0))) (hc : cur.size = 3) (Y : Array Value) (m : Nat) (hm : m = min s.size 3)
    (hY : Y.toList = Lib.byteCells (s.data.toList.take 3) ++ cur.toList.drop m) :
    (Builtin.copy_ #[145, 9] 3 #[.slice (some ⟨g, 0, none⟩) 3 3, .string s]).run Tryz.prog w = .ok (.int .i64 (m : Int)) (w.setRow g Y) := by
  obtain ⟨i0, hi, hz0, hz1, hz2⟩ := info_parts u8info
  have hlen : (Lib.byteCells (s.data.toList.take 3)).length = m := by rw [Lib.byteCells_length, hm]; simp [Nat.min_comm]
  have hst := run_storeCells_at Tryz.prog g 0 t (Lib.byteCells (s.data.toList.take 3)) 0 cur w hg (by rw [hlen, hm, hc]; omega) (Lib.byteCells_one _)
  have htk : List.take (Nat.min s.size 3) (List.map (fun b : UInt8 => Value.int IntKind.u8 (b.toNat : Int)) s.data.toList) = Lib.byteCells (s.data.toList.take 3) := by
    unfold Lib.byteCells
    rw [List.map_take]
    by_cases h : s.size ≤ 3
    · rw [show s.size.min 3 = s.size from Nat.min_eq_left h, List.take_of_length_le (by simp), List.take_of_length_le (by simp; omega)]
    · rw [show s.size.min 3 = 3 from Nat.min_eq_right (by omega)]
  have hYe : Y = (List.take 0 cur.toList ++ Lib.byteCells (s.data.toList.take 3) ++ List.drop m cur.toList).toArray := by
    apply Array.ext'
    rw [hY]; simp
  rw [hlen] at hst
  simp only [Nat.add_zero, Nat.zero_add] at hst
  rw [hYe]
  simp [Builtin.copy_, run_underlying Tryz.underlying145, Builtin.lenOf, Builtin.firstCells, sizeOf, typeInfo, hi]
  rw [htk, hst]
  simp [Result.andThen, hm, goInt]
theorem tri_cells (l : List UInt8) (h : 0 < l.length) (z : Value) (m : Nat) (hm : m = min l.length 3) (hz : z = .int .u8 0) :
    Lib.byteCells (l.take 3) ++ [z, z, z].drop m = [.int .u8 ((l.getD 0 0).toNat : Int), .int .u8 ((l.getD 1 0).toNat : Int), .int .u8 ((l.getD 2 0).toNat : Int)] := by
  subst hm hz
  match l, h with
  | [a], _ => rfl
  | [a, b], _ => rfl
  | a :: b :: c :: r, _ =>
    have : min (a :: b :: c :: r).length 3 = 3 := by simp
    rw [this]; rfl

set_option maxHeartbeats 1000000 in
theorem triplesOf_in (n : Nat) (s : ByteArray) (w : World) :
    CallsIn Fence.wide n Tryz.prog 234 #[.string s] w fun e w' => e = .returned (.func (.func 269) #[] #[.pointer (some ⟨w.heap.size, 0, none⟩)]) ∧ w' = w.alloc (.cells #[.string s] 9) := by
  refine callsIn_of_wp Tryz.func234 rfl trivial ?_ rfl
  simp only [Tryz.ntmps234, List.size_toArray, List.length_cons, List.length_nil, Nat.reduceAdd, Nat.reduceSub, Array.replicate_succ, Array.replicate_zero, List.push_toArray, List.append_toArray, List.nil_append, List.cons_append]
  gi_wp2
  go_ret
  exact ⟨rfl, rfl⟩

set_option maxRecDepth 100000 in
set_option maxHeartbeats 2000000 in
theorem triples1_in (n : Nat) (hn : 1 ≤ n) (l Bs : Nat) (s : ByteArray) (hs : s.size ≤ 1048576) (J Jx : List Tri → World → Prop)
    (hY : ∀ pre x W, J pre W → pre.length < (s.size + 2) / 3 → YieldAt Fence.wide (n - 1) Tryz.prog l (triV x) W fun e W' =>
      (e = .returned (.bool true) ∧ J (pre ++ [x]) W' ∧ KpB Bs Bs W W') ∨ (e = .returned (.bool false) ∧ Jx (pre ++ [x]) W'))
    (W : World) (hBs : W.heap[Bs]? = some (.cells #[.string s] 9 (0, 0))) (h0 : J [] W) (hJa : AbidesFrom W.heap.size J) :
    CallsIn Fence.wide n Tryz.prog 269 #[.func (.yield l) #[] #[], .pointer (some ⟨Bs, 0, none⟩)] W fun e W' => (∃ v, e = .returned v) ∧
      ((∃ ys, TriAll s.data.toList ys ∧ J ys W') ∨ (∃ pre, True ∧ Jx pre W')) := by
  have hc1 : W.cell? ⟨Bs, 0, none⟩ = some (.string s) := by simp [World.cell?, hBs]
  refine callsIn_of_wp Tryz.func269 rfl trivial ?_ rfl
  simp only [Tryz.ntmps269, List.size_toArray, List.length_cons, List.length_nil, Nat.reduceAdd, Nat.reduceSub, Array.replicate_succ, Array.replicate_zero, List.push_toArray, List.append_toArray, List.nil_append, List.cons_append]
  gi_wp2
  gi_loopw [3] (fun i wr => ∃ (g I : Nat), I = 3 * g ∧ g ≤ (s.size + 2) / 3 ∧ i = .int .i64 (I : Int) ∧ wr.heap[Bs]? = some (.cells #[.string s] 9 (0, 0)) ∧ J ((List.range g).map (tri s.data.toList)) wr) (fun i _ => s.size + 2 - (intOf i).toNat)
  case atStart => exact ⟨0, 0, rfl, Nat.zero_le _, rfl, hBs, h0⟩
  case round =>
    obtain ⟨g, I, hIg, hg, rfl, g1, hJ⟩ := hrel
    have d1 : wr.cell? ⟨Bs, 0, none⟩ = some (.string s) := by simp [World.cell?, g1]
    by_cases hlt : I < s.size
    · have k0 : (0 : Int) ≤ (I : Int) := by omega
      have k1 : (I : Int) < (s.size : Int) := by omega
      have HI := Lib.hid hIg
      have hI0 : I ≤ 1048576 := by omega
      have HG := Lib.hid hg
      obtain ⟨x, hx⟩ : ∃ x, x = tri s.data.toList g := ⟨_, rfl⟩
      obtain ⟨r, hr⟩ : ∃ r : ByteArray, r = ⟨(s.data.toList.drop I).toArray⟩ := ⟨_, rfl⟩
      have he := slice_from s r I (I : Int) rfl (by omega) (by rw [hr]; exact piece_end s I)
      have hrl : r.data.toList = s.data.toList.drop I := by rw [hr]
      have hrs : r.size = s.size - I := by have := congrArg List.length hrl; simpa using this
      have hxn : x.n = min r.size 3 := by rw [hx, hrs]; simp [tri]; omega
      have hcells : Lib.byteCells (r.data.toList.take 3) ++ [Value.int .u8 0, .int .u8 0, .int .u8 0].drop x.n = [.int .u8 (x.a.toNat : Int), .int .u8 (x.b.toNat : Int), .int .u8 (x.c.toNat : Int)] := by
        rw [tri_cells r.data.toList (by simp; omega) (.int .u8 0) x.n (by rw [hxn]; simp) rfl, hrl, hx]
        simp [tri, List.getD, List.getElem?_drop, hIg]
      have hcp := run_copy3 ((wr.alloc (.cells #[.int .u8 0, .int .u8 0, .int .u8 0] 251)).drew) wr.heap.size r #[.int .u8 0, .int .u8 0, .int .u8 0] 251 (heap_alloc_new wr _) rfl #[.int .u8 (x.a.toNat : Int), .int .u8 (x.b.toNat : Int), .int .u8 (x.c.toNat : Int)] x.n hxn hcells.symm
      have HX := Lib.hid hx
      clear hIg hg hx hr hrl hrs hxn hcells
      have hBl : Bs < wr.heap.size := (Array.getElem?_eq_some_iff.1 g1).1
      have d2 : (wr.alloc (.cells #[.int .u8 0, .int .u8 0, .int .u8 0] 251)).cell? ⟨Bs, 0, none⟩ = some (.string s) := (((Below.refl wr.heap.size wr).alloc (Nat.le_refl _) _).cell (p := ⟨Bs, 0, none⟩) hBl).trans d1
      gi_wp2
      gi_region
      obtain ⟨w4, h4⟩ : ∃ w4, (wr.alloc (.cells #[.int .u8 0, .int .u8 0, .int .u8 0] 251)).drew.setRow wr.heap.size #[.int .u8 (x.a.toNat : Int), .int .u8 (x.b.toNat : Int), .int .u8 (x.c.toNat : Int)] = w4 := ⟨_, rfl⟩
      have hr4 : w4.heap[wr.heap.size]? = some (.cells #[.int .u8 (x.a.toNat : Int), .int .u8 (x.b.toNat : Int), .int .u8 (x.c.toNat : Int)] 251 (0, 0)) := by
        rw [← h4]; exact setRow_heap _ _ _ _ 251 (0, 0) (heap_alloc_new wr _)
      have hg4 : wr.grownBy w4 none := by
        rw [← h4]
        refine ⟨rfl, rfl, rfl, by simp, fun k hk _ => ?_⟩
        exact (setRow_other _ _ _ _ (by omega)).trans (Below.heap_alloc _ _ _ (by omega))
      have g4 : w4.heap[Bs]? = some (.cells #[.string s] 9 (0, 0)) := (hg4.block Bs hBl (by simp)).trans g1
      have hJ4 : J ((List.range g).map (tri s.data.toList)) w4 := hJa _ wr w4 none hJ hg4 (fun r e => by cases e)
      rw [h4]
      clear h4 hcp d1 d2 g1 hJ hg4
      have q0 : w4.cell? ⟨wr.heap.size, 0, none⟩ = some (.int .u8 (x.a.toNat : Int)) := by simp [World.cell?, hr4]
      have q1 : w4.cell? ⟨wr.heap.size, 1, none⟩ = some (.int .u8 (x.b.toNat : Int)) := by simp [World.cell?, hr4]
      have q2 : w4.cell? ⟨wr.heap.size, 2, none⟩ = some (.int .u8 (x.c.toNat : Int)) := by simp [World.cell?, hr4]
      have hyy := hY _ x w4 hJ4 (by have := HG.out; have := HI.out; simp; omega)
      unfold triV at hyy
      obtain ⟨fn, tmps, assign, body, hy, hR⟩ := hyy
      have HR := Lib.hid hR
      clear hR hr4
      gi_wp2
      refine HR.out.mono ?_
      rintro e W3 (⟨rfl, hJ3, hk3⟩ | ⟨rfl, hJx3⟩)
      · gi_wp2
        go_roundw
        case rel => exact ⟨g + 1, I + 3, by rw [HI.out]; omega, by have := HI.out; omega, by go_num, hk3.1.trans g4, by rw [List.range_succ, List.map_append, List.map_cons, List.map_nil, ← HX.out]; exact hJ3⟩
        case measure => simp [intOf]; omega
      · gi_wp2
        refine bodyPost_ret (results_none rfl _ _ _) rfl ?_
        exact ⟨⟨_, rfl⟩, .inr ⟨_, trivial, hJx3⟩⟩
    · have k1 : ¬ (I : Int) < (s.size : Int) := by omega
      have HE : Hid (g = (s.size + 2) / 3) := Lib.hid (by omega)
      clear hIg hg
      gi_wp2
      go_end0
      exact ⟨⟨_, rfl⟩, .inl ⟨_, by unfold TriAll; rw [HE.out]; simp, hJ⟩⟩

/-- The iterator's contract, for a caller. -/
theorem triples_stops (n : Nat) (hn : 1 ≤ n) (Bs : Nat) (s : ByteArray) (hs : s.size ≤ 1048576) (w : World) (h1 : Bs < w.heap.size)
    (hBs : w.heap[Bs]? = some (.cells #[.string s] 9 (0, 0))) :
    SeqStopsK Fence.wide n Tryz.prog 269 #[.pointer (some ⟨Bs, 0, none⟩)] triV (KpB Bs Bs) (TriAll s.data.toList) (fun _ => True) ((s.size + 2) / 3) w := fun l J Jx W hW hJ _ hY h0 =>
  triples1_in n hn l Bs s hs J Jx hY W ((hW.block Bs h1).trans hBs) h0 hJ
end Go.Proofs.YtnodhkjgnegkcaaGreatDoor

/-
  impl.base64Group returns the four signs of three bytes.
-/
namespace Go.Proofs.YtnodhkjgnegkcaaGreatDoor
open Go.RowKit

theorem idx_u8 (n : Nat) (hn : n < 64) (z : Int) (hz : z = (n : Int)) (w : World) : (Instr.index 9 (.string ⟨#[65, 66, 67, 68, 69, 70, 71, 72, 73, 74, 75, 76, 77, 78, 79, 80, 81, 82, 83, 84, 85, 86, 87, 88, 89, 90, 97, 98, 99, 100, 101, 102, 103, 104, 105, 106, 107, 108, 109, 110, 111, 112, 113, 114, 115, 116, 117, 118, 119, 120, 121, 122, 48, 49, 50, 51, 52, 53, 54, 55, 56, 57, 43, 47]⟩) (.int .u8 z)).run Tryz.prog w = .ok (.int .u8 ((sg n).toNat : Int)) w := idx_sg n hn z hz .u8 w

set_option maxRecDepth 100000 in
set_option maxHeartbeats 2000000 in
theorem base64Group_any (a b c : UInt8) (w : World) :
    Calls Tryz.prog 235 #[.agg #[bv a, bv b, bv c]] w fun e w' => e = .returned (.agg #[bv (sg (a.toNat / 4)), bv (sg (a.toNat % 4 * 16 + b.toNat / 16)), bv (sg (b.toNat % 16 * 4 + c.toNat / 64)), bv (sg (c.toNat % 64))]) ∧ Below w.heap.size w w' := by
  unfold bv
  have ha := a.toNat_lt
  have hb := b.toNat_lt
  have hc := c.toNat_lt
  have w1 : IntKind.u8.wrap ((a.toNat : Int) / 4) = (a.toNat : Int) / 4 := wraps_u8 _ (by omega) (by omega)
  have w2 : IntKind.u8.wrap ((b.toNat : Int) / 16) = (b.toNat : Int) / 16 := wraps_u8 _ (by omega) (by omega)
  have w3 : IntKind.u8.wrap ((c.toNat : Int) / 64) = (c.toNat : Int) / 64 := wraps_u8 _ (by omega) (by omega)
  have w4 : IntKind.u8.wrap ((a.toNat : Int) % 4 * 16) = (a.toNat : Int) % 4 * 16 := wraps_u8 _ (by omega) (by omega)
  have w5 : IntKind.u8.wrap ((b.toNat : Int) % 16 * 4) = (b.toNat : Int) % 16 * 4 := wraps_u8 _ (by omega) (by omega)
  have m1 : bits .and .u8 (a.toNat : Int) 3 = (a.toNat : Int) % 4 := bits_mask .u8 8 (by decide) wraps_u8 2 (by decide) _ (by omega) (by omega)
  have m2 : bits .and .u8 (b.toNat : Int) 15 = (b.toNat : Int) % 16 := bits_mask .u8 8 (by decide) wraps_u8 4 (by decide) _ (by omega) (by omega)
  have m3 : bits .and .u8 (c.toNat : Int) 63 = (c.toNat : Int) % 64 := bits_mask .u8 8 (by decide) wraps_u8 6 (by decide) _ (by omega) (by omega)
  have j1 : bits .or .u8 ((a.toNat : Int) % 4 * 16) ((b.toNat : Int) / 16) = (a.toNat : Int) % 4 * 16 + (b.toNat : Int) / 16 := bits_join .u8 8 (by decide) wraps_u8 4 _ _ (by omega) (by omega) (by omega) (by omega) (by omega) (by omega)
  have j2 : bits .or .u8 ((b.toNat : Int) % 16 * 4) ((c.toNat : Int) / 64) = (b.toNat : Int) % 16 * 4 + (c.toNat : Int) / 64 := bits_join .u8 8 (by decide) wraps_u8 2 _ _ (by omega) (by omega) (by omega) (by omega) (by omega) (by omega)
  have x1 := idx_u8 (a.toNat / 4) (by omega) ((a.toNat : Int) / 4) (by omega)
  have x2 := idx_u8 (a.toNat % 4 * 16 + b.toNat / 16) (by omega) ((a.toNat : Int) % 4 * 16 + (b.toNat : Int) / 16) (by omega)
  have x3 := idx_u8 (b.toNat % 16 * 4 + c.toNat / 64) (by omega) ((b.toNat : Int) % 16 * 4 + (c.toNat : Int) / 64) (by omega)
  have x4 := idx_u8 (c.toNat % 64) (by omega) ((c.toNat : Int) % 64) (by omega)
  go_enter Tryz.func235, Tryz.ntmps235
  go_wp2_with fail
  obtain ⟨W, hW⟩ : ∃ W, (w.alloc (.cells #[.int .u8 (a.toNat : Int), .int .u8 (b.toNat : Int), .int .u8 (c.toNat : Int)] 251)).alloc (.cells #[.int .u8 0, .int .u8 0, .int .u8 0, .int .u8 0] 252) = W := ⟨_, rfl⟩
  have hBW : Below w.heap.size w W := by rw [← hW]; exact (((Below.refl _ w).alloc (Nat.le_refl _) _).alloc (by simp) _)
  have h0 : W.heap[w.heap.size]? = some (.cells #[.int .u8 (a.toNat : Int), .int .u8 (b.toNat : Int), .int .u8 (c.toNat : Int)] 251 (0, 0)) := by
    rw [← hW]; exact (Below.heap_alloc _ _ _ (by simp)).trans (heap_alloc_new w _)
  have h1 : W.heap[w.heap.size + 1]? = some (.cells #[.int .u8 0, .int .u8 0, .int .u8 0, .int .u8 0] 252 (0, 0)) := by
    rw [← hW]
    have := heap_alloc_new (w.alloc (.cells #[.int .u8 (a.toNat : Int), .int .u8 (b.toNat : Int), .int .u8 (c.toNat : Int)] 251)) (.cells #[.int .u8 0, .int .u8 0, .int .u8 0, .int .u8 0] 252)
    rwa [World.size_alloc] at this
  rw [hW]
  clear hW
  have c0 : W.cell? ⟨w.heap.size, 0, none⟩ = some (.int .u8 (a.toNat : Int)) := by simp [World.cell?, h0]
  have c1 : W.cell? ⟨w.heap.size, 1, none⟩ = some (.int .u8 (b.toNat : Int)) := by simp [World.cell?, h0]
  have c2 : W.cell? ⟨w.heap.size, 2, none⟩ = some (.int .u8 (c.toNat : Int)) := by simp [World.cell?, h0]
  go_still_tail 27, (by kernel_rfl)
  have e0 : W.cell? ⟨w.heap.size + 1, 0, none⟩ = some (.int .u8 0) := by simp [World.cell?, h1]
  have e1 : W.cell? ⟨w.heap.size + 1, 1, none⟩ = some (.int .u8 0) := by simp [World.cell?, h1]
  have e2 : W.cell? ⟨w.heap.size + 1, 2, none⟩ = some (.int .u8 0) := by simp [World.cell?, h1]
  have e3 : W.cell? ⟨w.heap.size + 1, 3, none⟩ = some (.int .u8 0) := by simp [World.cell?, h1]
  have f0 : W.frozen? ⟨w.heap.size + 1, 0, none⟩ = false := by simp [World.frozen?, h1]
  have f1 : W.frozen? ⟨w.heap.size + 1, 1, none⟩ = false := by simp [World.frozen?, h1]
  have f2 : W.frozen? ⟨w.heap.size + 1, 2, none⟩ = false := by simp [World.frozen?, h1]
  have f3 : W.frozen? ⟨w.heap.size + 1, 3, none⟩ = false := by simp [World.frozen?, h1]
  go_wp2_with fail
  refine bodyPost_ret (v := .agg #[.int .u8 ((sg (a.toNat / 4)).toNat : Int), .int .u8 ((sg (a.toNat % 4 * 16 + b.toNat / 16)).toNat : Int), .int .u8 ((sg (b.toNat % 16 * 4 + c.toNat / 64)).toNat : Int), .int .u8 ((sg (c.toNat % 64)).toNat : Int)]) ?_ rfl ⟨rfl, ?_⟩
  · simp [results, Tryz.f235, go_sem, e0, e1, e2, e3]
  · exact ((((hBW.setCell (p := ⟨w.heap.size + 1, 0, none⟩) (by simp) _).setCell (p := ⟨w.heap.size + 1, 1, none⟩) (by simp) _).setCell (p := ⟨w.heap.size + 1, 2, none⟩) (by simp) _).setCell (p := ⟨w.heap.size + 1, 3, none⟩) (by simp) _).drew
end Go.Proofs.YtnodhkjgnegkcaaGreatDoor

/-
  impl.PutBase64 returns four signs for every three bytes.
-/
namespace Go.Proofs.YtnodhkjgnegkcaaGreatDoor
open Go.RowKit Go.Shelf
attribute [local go_sem] Oper.semAt_some

/-- What PutBase64 has in its box: the signs so far. -/
def BJ (w : World) (ls : List UInt8) (W : World) : Prop :=
  w.heap.size + 3 ≤ W.heap.size ∧ ∃ v, Boxed W (w.heap.size + 1) 145 v ∧ Buf W w.heap.size v ls ∧ (∀ g, v.ownBlock = some g → g ≠ w.heap.size + 1 ∧ g ≠ w.heap.size + 2)
theorem bJ_grown {w : World} {ls : List UInt8} {W W' : World} {row : Option Nat} (h : BJ w ls W) (hg : W.grownBy W' row) (hr : ∀ r, row = some r → ∃ o : Obj, W.heap[r]? = some o ∧ o.isCells = false) : BJ w ls W' := by
  obtain ⟨h4, v, hB, hS, hne⟩ := h
  refine ⟨Nat.le_trans h4 hg.size, v, hB.kept hg (fun e => ?_), World.ownsRow.kept hS hg ?_, hne⟩
  · obtain ⟨o, ho, hc⟩ := hr _ e.symm
    rw [show W.heap[_]? = _ from hB] at ho; cases ho; cases hc
  · rcases hS.2 with ⟨rfl, _⟩ | ⟨g, cap, cur, rfl, _, hh, _⟩
    · left; rfl
    · right
      intro e
      obtain ⟨o, ho, hc⟩ := hr g (by simpa [Value.ownBlock] using e.symm)
      rw [hh] at ho; cases ho; cases hc
def outL (pre : List Tri) : List UInt8 := pre.flatMap fun x => grp ((x.a.toNat * 256 + x.b.toNat) * 256 + x.c.toNat) x.n
theorem outL_snoc (pre : List Tri) (x : Tri) : outL (pre ++ [x]) = outL pre ++ grp ((x.a.toNat * 256 + x.b.toNat) * 256 + x.c.toNat) x.n := by simp [outL]
theorem outL_len (pre : List Tri) : (outL pre).length = 4 * pre.length := by
  induction pre with
  | nil => rfl
  | cons x pre ih => simp only [outL, List.flatMap_cons, List.length_append, List.length_cons] at ih ⊢; rw [ih]; simp [grp]; omega
theorem outL_all (l : List UInt8) (ys : List Tri) (h : TriAll l ys) : outL ys = b64L l := by
  rw [h]
  unfold outL b64L b64G
  rw [List.flatMap_map, List.flatMap_def, List.flatMap_def]
  refine congrArg List.flatten (List.map_congr_left fun g hg => ?_)
  have hg' : g < (l.length + 2) / 3 := by simpa using hg
  have e : max 1 (min 3 (l.length - 3 * g)) = min 3 (l.length - 3 * g) := by omega
  simp only [tri, e, pv, Nat.add_zero, Nat.zero_mul, Nat.zero_add]

/-- The four cells while the last are being filled up with the padding sign. -/
def eqs (n K : Nat) (c0 c1 c2 c3 : UInt8) : Array Value := #[.int .u8 (c0.toNat : Int), .int .u8 (c1.toNat : Int), if n < 2 ∧ 2 < K then .int .u8 61 else .int .u8 (c2.toNat : Int), if n < 3 ∧ 3 < K then .int .u8 61 else .int .u8 (c3.toNat : Int)]
theorem eqs_set (n K : Nat) (c0 c1 c2 c3 : UInt8) (h1 : 1 ≤ n) (hK : n + 1 ≤ K) (h4 : K < 4) : (eqs n K c0 c1 c2 c3).setIfInBounds K (.int .u8 61) = eqs n (K + 1) c0 c1 c2 c3 := by
  obtain rfl | rfl : K = 2 ∨ K = 3 := by omega
  · obtain rfl : n = 1 := by omega
    rfl
  · obtain rfl | rfl : n = 1 ∨ n = 2 := by omega
    · rfl
    · rfl
theorem eqs_start (n : Nat) (c0 c1 c2 c3 : UInt8) : #[.int .u8 (c0.toNat : Int), .int .u8 (c1.toNat : Int), .int .u8 (c2.toNat : Int), .int .u8 (c3.toNat : Int)] = eqs n (n + 1) c0 c1 c2 c3 := by
  unfold eqs
  rw [if_neg (by omega), if_neg (by omega)]
theorem eqs_end (n : Nat) (c0 c1 c2 c3 : UInt8) : (eqs n 4 c0 c1 c2 c3).toList = [c0, c1, if n < 2 then 61 else c2, if n < 3 then 61 else c3].map bv := by
  unfold eqs bv
  by_cases h2 : n < 2
  · have h3 : n < 3 := by omega
    simp [h2, h3]
  · by_cases h3 : n < 3
    · simp [h2, h3]
    · simp [h2, h3]
theorem Buf.grown_none {w w' : World} {base : Nat} {v : Value} {l : List UInt8} (h : Buf w base v l) (hg : w.grownBy w' none) : Buf w' base v l :=
  World.ownsRow.kept h (row := none) hg (by
    rcases h.form with ⟨rfl, _⟩ | ⟨g, cap, rfl, _, _⟩
    · left; rfl
    · right; simp [Value.ownBlock])

theorem run_append_buf2 (w : World) (ty : TypeId) (base : Nat) (v : Value) (l : List UInt8) (hown : Buf w base v l) (ns : List UInt8) (B c : Nat) (cs : Array Value) (t : TypeId) (fr : Nat × Nat)
    (hblk : w.heap[B]? = some (.cells cs t fr)) (hcs : cs.toList = ns.map bv) (hm : 0 < ns.length) (hlen : l.length + ns.length ≤ 16777216) (hbase : base ≤ w.heap.size) :
    ∃ g cap w', (Builtin.append_ #[145, 145] ty #[v, .slice (some ⟨B, 0, none⟩) ns.length c]).run Tryz.prog w = .ok (.slice (some ⟨g, 0, none⟩) (l.length + ns.length) cap) w' ∧ Buf w' base (.slice (some ⟨g, 0, none⟩) (l.length + ns.length) cap) (l ++ ns) ∧ w.grownBy w' v.ownBlock ∧ (v.ownBlock = some g ∨ g = w.heap.size) := by
  obtain ⟨i0, hi, hz0, hz1, hz2⟩ := info_parts u8info
  obtain ⟨g, cap, w', hr, h2, h3, h4, _⟩ := run_append_lies (P := Tryz.prog) w 145 ty base 5 i0 (.int .u8 0) 1 1 Tryz.underlying145 hi hz0 hz1 hz2 rfl (by decide) v l.length (l.map bv) hown
    ⟨B, 0, none⟩ ns.length c (ns.map bv) (by simp) (by rw [← hcs]; exact World.news_of_block hblk) (by intro u hu; obtain ⟨x, _, rfl⟩ := List.mem_map.1 hu; rfl) hm (by unfold maxLen; omega) (by omega) hbase _ rfl
  refine ⟨g, cap, w', hr, ?_, h3, h4⟩
  unfold Buf
  rw [List.length_append, List.map_append]
  exact h2
theorem step_append_bin {F : Fence} {n : Nat} {w : World} {ops : Array Oper} {o : Oper} {a : Act} {K : Act → World → Prop} {Q : Exit → Act → World → Prop} {E : Prop} (hgd : o.guard = none) (s x : Operand)
    (ho : o.op = .call { callee := .builtin .append, args := #[s, x], argTypes := #[145, 145] })
    (base : Nat) (v : Value) (l : List UInt8) (hs : a.eval s = v) (hown : Buf w base v l) (ns : List UInt8) (B m c : Nat) (cs : Array Value) (t : TypeId) (fr : Nat × Nat)
    (hx : a.eval x = .slice (some ⟨B, 0, none⟩) m c) (hmm : ns.length = m) (hblk : w.heap[B]? = some (.cells cs t fr)) (hcs : cs.toList = ns.map bv) (hm : 0 < ns.length) (hlen : l.length + ns.length ≤ 16777216) (hbase : base ≤ w.heap.size)
    (h : ∀ g cap w', Buf w' base (.slice (some ⟨g, 0, none⟩) (l.length + ns.length) cap) (l ++ ns) → w.grownBy w' v.ownBlock → (v.ownBlock = some g ∨ g = w.heap.size) → K (a.put o.dst (.slice (some ⟨g, 0, none⟩) (l.length + ns.length) cap)) w') :
    if Region.wanted o (yielded ops a.tmps) = true then Oper.wpIn F n Tryz.prog o a w K Q else E := by
  subst hmm
  have hw : Region.wanted o (yielded ops a.tmps) = true := by simp [Region.wanted, hgd]
  rw [if_pos hw]
  obtain ⟨g, cap, w', hr, h2, h3, h4⟩ := run_append_buf2 w o.type base v l hown ns B c cs t fr hblk hcs hm hlen hbase
  refine ⟨?_, ?_⟩
  · intro f hf
    simp [Oper.about, ho, resolve, Target.leads, go_sem] at hf
  · rw [Oper.semAt_eq _ _ _ (by intro c hc; rw [ho] at hc; cases hc)]
    unfold execOp
    simp only [ho, resolve, invoke, builtin, Sem.run_bind, Sem.run_pure, Result.andThen_ok, List.map_toArray, List.map_cons, List.map_nil, hs, hx, hr]
    exact h g cap w' h2 h3 h4
theorem b64_end (w W wa w3 : World) (v u : Value) (ls ns : List UInt8) (g cap : Nat) (hu : u = .slice (some ⟨g, 0, none⟩) (ls.length + ns.length) cap) (h4 : w.heap.size + 3 ≤ W.heap.size) (hR : Boxed W (w.heap.size + 1) 145 v) (hS : Buf W w.heap.size v ls)
    (hne : ∀ g, v.ownBlock = some g → g ≠ w.heap.size + 1 ∧ g ≠ w.heap.size + 2) (hB : Below w.heap.size w W) (hga : W.grownBy wa none) (hg3 : wa.grownBy w3 v.ownBlock)
    (hS3 : Buf w3 w.heap.size (.slice (some ⟨g, 0, none⟩) (ls.length + ns.length) cap) (ls ++ ns)) (hg4 : v.ownBlock = some g ∨ g = wa.heap.size) :
    Boxed w3 (w.heap.size + 1) 145 v ∧ KeepsOthers W (w3.setCell ⟨w.heap.size + 1, 0, none⟩ u) ∧ KpB (w.heap.size + 1 + 1) (w.heap.size + 1 + 1) W (w3.setCell ⟨w.heap.size + 1, 0, none⟩ u) ∧
      BJ w (ls ++ ns) (w3.setCell ⟨w.heap.size + 1, 0, none⟩ u) ∧ Below w.heap.size w (w3.setCell ⟨w.heap.size + 1, 0, none⟩ u) := by
  subst hu
  have hs1 : W.heap.size ≤ wa.heap.size := hga.size
  have hs3 : wa.heap.size ≤ w3.heap.size := hg3.size
  have hgne : g ≠ w.heap.size + 1 ∧ g ≠ w.heap.size + 2 := by
    rcases hg4 with h | h
    · exact hne g h
    · omega
  have hG : W.grownBy w3 v.ownBlock := ⟨hg3.os.trans hga.os, hg3.tape.trans hga.tape, hg3.output.trans hga.output, by omega, fun k hk hkn =>
    (hg3.block k (by omega) hkn).trans (hga.block k hk (by simp))⟩
  have hR3 : Boxed w3 (w.heap.size + 1) 145 v := hR.kept hG (fun e => (hne _ e.symm).1 rfl)
  have hK : KeepsOthers W w3 := KeepsOthers.of_grownBy hG (fun j o' ej hj => by
    rcases hS.2 with ⟨rfl, _⟩ | ⟨g', cap', cur, rfl, _, hh, _⟩
    · simp [Value.ownBlock] at ej
    · simp [Value.ownBlock] at ej
      subst ej
      rw [hh] at hj; cases hj; rfl)
  have hBel : Below w.heap.size w w3 := hB.grown hG (by omega) hS.owned
  have k1 : w3.heap[w.heap.size + 1 + 1]? = W.heap[w.heap.size + 1 + 1]? := hG.block _ (by omega) (fun e => (hne _ e.symm).2 (by omega))
  refine ⟨hR3, hK.trans (KeepsOthers.setCell _ _ _), ⟨(Below.heap_setCell _ _ _ _ (by simp)).trans k1, (Below.heap_setCell _ _ _ _ (by simp)).trans k1⟩, ⟨by simp; omega, _, hR3.set _, ?_, ?_⟩, hBel.setCell (p := ⟨w.heap.size + 1, 0, none⟩) (by simp) _⟩
  · exact World.ownsRow.kept hS3 (grownBy_setCell' w3 (w.heap.size + 1) _) (by right; simp [Value.ownBlock]; omega)
  · intro g' hg'
    simp [Value.ownBlock] at hg'
    subst hg'
    exact hgne

set_option maxRecDepth 100000 in
set_option maxHeartbeats 4000000 in
theorem putBase64_in (n : Nat) (hn : 4 ≤ n) (s : ByteArray) (w : World) (hs : s.size ≤ 1048576) :
    CallsIn Fence.wide n Tryz.prog 196 #[.string s] w fun e W' => e = .returned (.string ⟨(b64L s.data.toList).toArray⟩) ∧ Below w.heap.size w W' := by
  have h1 : 1 ≤ n := by omega
  have hn2 : 1 ≤ n - 1 - 1 := by omega
  obtain ⟨C, hC⟩ : ∃ C : Nat, C = (s.size + 2) / 3 * 4 := ⟨_, rfl⟩
  obtain ⟨i0, hi, hz0, hz1, hz2⟩ := info_parts u8info
  obtain ⟨M, hM⟩ : ∃ M, M = madeCells (Value.int .u8 0).cells (C * i0.size) := ⟨_, rfl⟩
  have hMs : M.size = C := by rw [hM, size_madeCells, hz1]; simp
  have hmk : ∀ W : World, (Instr.makeSlice 145 (.int .i64 0) (.int .i64 (C : Int))).run Tryz.prog W = .ok (.slice (some ⟨W.heap.size, 0, none⟩) 0 C) (W.alloc (.cells M 5)) := fun W => by
    have h := run_make (P := Tryz.prog) W 145 5 i0 (.int .u8 0) Tryz.underlying145 hi hz0 .i64 .i64 0 (C : Int) (by omega) (by omega) (by rw [hz2]; omega) (by omega)
    simp only [Int.toNat_natCast] at h
    rw [← hM] at h
    simpa using h
  have hcap : ((s.size : Int) + 2) / 3 * 4 = (C : Int) := by omega
  have hC0 : C ≤ 1398104 := by omega
  clear hM hC
  refine callsIn_of_wp_marks Tryz.func196 rfl trivial ?_ rfl
  simp only [Tryz.ntmps196, List.size_toArray, List.length_cons, List.length_nil, Nat.reduceAdd, Nat.reduceSub, Array.replicate_succ, Array.replicate_zero, List.push_toArray, List.append_toArray, List.nil_append, List.cons_append]
  gi_wp2_with (refine ⟨trivial, ?_⟩; gi_at_call 234; refine (triplesOf_in _ _ _).mono ?_; rintro e w' ⟨rfl, rfl⟩)
  have b1 := Boxed.new (w.alloc (.cells M 5)) 145 (.slice (some ⟨w.heap.size, 0, none⟩) 0 C)
  have b3 := Boxed.new ((w.alloc (.cells M 5)).alloc (.cells #[.slice (some ⟨w.heap.size, 0, none⟩) 0 C] 145)) 9 (.string s)
  simp only [World.size_alloc] at b1 b3
  have hB0 : Below w.heap.size w (((w.alloc (.cells M 5)).alloc (.cells #[.slice (some ⟨w.heap.size, 0, none⟩) 0 C] 145)).alloc (.cells #[.string s] 9)) := (((Below.refl _ w).alloc (Nat.le_refl _) _).alloc (by simp) _).alloc (by simp; omega) _
  have b1' := b1.alloc (.cells #[.string s] 9)
  have hS00 : Buf (w.alloc (.cells M 5)) w.heap.size (.slice (some ⟨w.heap.size, 0, none⟩) 0 C) [] :=
    ⟨rfl, .inr ⟨w.heap.size, C, M, rfl, Nat.le_refl _, heap_alloc_new w _, Nat.zero_le _, by unfold maxLen; omega, by rw [hMs]; omega, by simp⟩⟩
  have hS0 := (hS00.alloc (.cells #[.slice (some ⟨w.heap.size, 0, none⟩) 0 C] 145)).alloc (.cells #[.string s] 9)
  clear b1 hS00
  obtain ⟨W0, hW0⟩ : ∃ W0, (((w.alloc (.cells M 5)).alloc (.cells #[.slice (some ⟨w.heap.size, 0, none⟩) 0 C] 145)).alloc (.cells #[.string s] 9)) = W0 := ⟨_, rfl⟩
  have hsz : W0.heap.size = w.heap.size + 3 := by rw [← hW0]; simp
  rw [hW0] at b1' b3 hS0 hB0 ⊢
  clear hW0
  have HSZ := Lib.hid hsz
  clear hsz hmk hMs hcap
  refine wpIn_rangeFunc_ownH rfl h1 (gf := 269) (lb := #[.pointer (some ⟨w.heap.size + 1 + 1, 0, none⟩)]) rfl trivial (enters_of Tryz.func269 (by kernel_rfl) rfl)
    (triples_stops (n - 1) (by omega) (w.heap.size + 1 + 1) s hs W0 (by rw [HSZ.out]; omega) b3) kpB_t (kpB_b (by rw [HSZ.out]; omega) (by rw [HSZ.out]; omega)) (Below.refl _ _) (fun _ => rfl)
    (fun pre W => BJ w (outL pre) W ∧ Below w.heap.size w W)
    (fun c pre W => False)
    (OwnFrom.and (fun pre W W' row h hg hr => bJ_grown h hg (fun r e => (hr r e).2)) (ownFrom_below (Nat.le_refl _) (by rw [HSZ.out]; omega)))
    (fun c => ownFrom_pure _ _)
    ⟨⟨by rw [HSZ.out]; exact Nat.le_refl _, _, b1', hS0, fun g hg => by simp [Value.ownBlock] at hg; omega⟩, hB0⟩
    (fun x a' W => ∃ Bx, w.heap.size + 3 ≤ Bx ∧ W.heap[Bx]? = some (.cells #[.int .u8 (x.a.toNat : Int), .int .u8 (x.b.toNat : Int), .int .u8 (x.c.toNat : Int)] 251 (0, 0)) ∧
      a' = { tmps := #[.string s, undef, .string ⟨#[]⟩, .pointer (some ⟨w.heap.size + 1, 0, none⟩), .pointer (some ⟨Bx, 0, none⟩), .int .i64 (x.n : Int), undef, undef, .string s, .int .i64 s.size, .int .i64 ((s.size : Int) + 2), .int .i64 (((s.size : Int) + 2) / 3), .int .i64 (C : Int), .slice (some ⟨w.heap.size, 0, none⟩) 0 C, .string s, .func (.func 269) #[] #[.pointer (some ⟨w.heap.size + 1 + 1, 0, none⟩)], .agg #[.int .u8 (x.a.toNat : Int), .int .u8 (x.b.toNat : Int), .int .u8 (x.c.toNat : Int)], .int .i64 (x.n : Int), undef, undef, undef, undef, undef, undef, undef, undef, undef, undef, undef, undef, undef, undef, undef], defers := [] })
    (fun x a' => by
      rintro _ X Y row ⟨Bx, hx1, hx2, hx3⟩ hg hr
      refine ⟨Bx, hx1, (hg.block Bx (Array.getElem?_eq_some_iff.1 hx2).1 (fun e => ?_)).trans hx2, hx3⟩
      obtain ⟨_, o, ho, hc⟩ := hr _ e.symm
      rw [hx2] at ho; cases ho; cases hc)
    ?assign ?body ?done ?stop
  case assign =>
    rintro l pre x W K ⟨hJ, hB⟩ hK
    unfold triV
    gi_wp2
    have hgr := World.grownBy_alloc W (.cells #[.int .u8 (x.a.toNat : Int), .int .u8 (x.b.toNat : Int), .int .u8 (x.c.toNat : Int)] 251) none
    refine hK _ _ ((KeepsOthers.alloc _ _).from _) (KpB.of_grown hgr (by have := hJ.1; omega) (by have := hJ.1; omega) (by simp) (by simp)) ⟨bJ_grown hJ hgr (fun r e => by cases e), hB.alloc hB.size _⟩ ⟨W.heap.size, hJ.1, heap_alloc_new W _, rfl⟩
  case body =>
    rintro l pre x a' W hl hrec ⟨⟨h4, v, hR, hS, hne⟩, hB⟩ ⟨Bx, hBx, hX, rfl⟩ hpl
    have cR := hR.cell
    have fR := hR.frozen
    have q0 : W.cell? ⟨Bx, 0, none⟩ = some (.int .u8 (x.a.toNat : Int)) := by simp [World.cell?, hX]
    have q1 : W.cell? ⟨Bx, 1, none⟩ = some (.int .u8 (x.b.toNat : Int)) := by simp [World.cell?, hX]
    have q2 : W.cell? ⟨Bx, 2, none⟩ = some (.int .u8 (x.c.toNat : Int)) := by simp [World.cell?, hX]
    obtain ⟨c0, hc0⟩ : ∃ c, c = sg (x.a.toNat / 4) := ⟨_, rfl⟩
    obtain ⟨c1, hc1⟩ : ∃ c, c = sg (x.a.toNat % 4 * 16 + x.b.toNat / 16) := ⟨_, rfl⟩
    obtain ⟨c2, hc2⟩ : ∃ c, c = sg (x.b.toNat % 16 * 4 + x.c.toNat / 64) := ⟨_, rfl⟩
    obtain ⟨c3, hc3⟩ : ∃ c, c = sg (x.c.toNat % 64) := ⟨_, rfl⟩
    have HGR : Hid (grp ((x.a.toNat * 256 + x.b.toNat) * 256 + x.c.toNat) x.n = [c0, c1, if x.n < 2 then 61 else c2, if x.n < 3 then 61 else c3]) := Lib.hid (by
      have e1 := x.a.toNat_lt
      have e2 := x.b.toNat_lt
      have e3 := x.c.toNat_lt
      have e4 := x.h1
      have d0 : ((x.a.toNat * 256 + x.b.toNat) * 256 + x.c.toNat) / 262144 % 64 = x.a.toNat / 4 := by omega
      have d1 : ((x.a.toNat * 256 + x.b.toNat) * 256 + x.c.toNat) / 4096 % 64 = x.a.toNat % 4 * 16 + x.b.toNat / 16 := by omega
      have d2 : ((x.a.toNat * 256 + x.b.toNat) * 256 + x.c.toNat) / 64 % 64 = x.b.toNat % 16 * 4 + x.c.toNat / 64 := by omega
      have d3 : ((x.a.toNat * 256 + x.b.toNat) * 256 + x.c.toNat) % 64 = x.c.toNat % 64 := by omega
      unfold grp ch
      rw [if_neg (by omega), if_neg (by omega)]
      simp only [Nat.mul_zero, Nat.sub_zero, Nat.mul_one, Nat.reduceMul, Nat.reduceSub, Nat.reducePow, Nat.div_one, d0, d1, d2, d3, ← hc0, ← hc1, ← hc2, ← hc3])
    have HBG : Hid (∀ W, Calls Tryz.prog 235 #[.agg #[.int .u8 (x.a.toNat : Int), .int .u8 (x.b.toNat : Int), .int .u8 (x.c.toNat : Int)]] W fun e w' => e = .returned (.agg #[.int .u8 (c0.toNat : Int), .int .u8 (c1.toNat : Int), .int .u8 (c2.toNat : Int), .int .u8 (c3.toNat : Int)]) ∧ Below W.heap.size W w') := Lib.hid (fun W => by
      have h := base64Group_any x.a x.b x.c W
      unfold bv at h
      rw [hc0, hc1, hc2, hc3]; exact h)
    clear hc0 hc1 hc2 hc3
    have hn1 := x.h1
    have hn3 := x.h3
    have HPL : Hid ((outL pre).length + 4 ≤ 16777216) := Lib.hid (by rw [outL_len]; omega)
    gi_wp2_with (refine ⟨trivial, ?_⟩; gi_at_call 235; refine (CallsIn.inRound l (callsIn_wide.2 (HBG.out _))).mono ?_; rintro e w1 ⟨rfl, hb1⟩)
    have hgz : W.grownBy (w1.alloc (.cells #[.int .u8 (c0.toNat : Int), .int .u8 (c1.toNat : Int), .int .u8 (c2.toNat : Int), .int .u8 (c3.toNat : Int)] 252)) none :=
      ⟨hb1.os, hb1.tape, hb1.output, by have := hb1.size; simp; omega, fun k hk _ => (Below.heap_alloc _ _ _ (Nat.lt_of_lt_of_le hk hb1.size)).trans (hb1.block k hk)⟩
    have hW1 : W.heap.size ≤ w1.heap.size := hb1.size
    gi_loopw [7] (fun k wr => ∃ K : Nat, x.n + 1 ≤ K ∧ K ≤ 4 ∧ k = .int .i64 (K : Int) ∧ wr.heap[w1.heap.size]? = some (.cells (eqs x.n K c0 c1 c2 c3) 252 (0, 0)) ∧ W.grownBy wr none) (fun k _ => 4 - (intOf k).toNat)
    case atStart => exact ⟨x.n + 1, Nat.le_refl _, by omega, rfl, by rw [← eqs_start]; exact heap_alloc_new w1 _, hgz⟩
    case round =>
      obtain ⟨K, hK1, hK4, rfl, hE, hga⟩ := hrel
      by_cases hlt : K < 4
      · have k1 : (K : Int) < 4 := by omega
        have k0 : (0 : Int) ≤ (K : Int) := by omega
        have hsz4 : (eqs x.n K c0 c1 c2 c3).size = 4 := rfl
        obtain ⟨y, y1⟩ : ∃ y, wr.cell? ⟨w1.heap.size, K, none⟩ = some y := by
          rw [cell_of_row wr w1.heap.size K _ 252 (0, 0) hE]
          exact ⟨_, Array.getElem?_eq_getElem (by rw [hsz4]; exact hlt)⟩
        have y2 : wr.frozen? ⟨w1.heap.size, K, none⟩ = false := frozen_of_row wr w1.heap.size K _ 252 hE
        have HN : Hid ((wr.setCell ⟨w1.heap.size, K, none⟩ (.int .u8 61)).heap[w1.heap.size]? = some (.cells (eqs x.n (K + 1) c0 c1 c2 c3) 252 (0, 0))) := Lib.hid (by
          rw [← eqs_set x.n K c0 c1 c2 c3 hn1 hK1 hlt]
          exact heap_setCell_same wr w1.heap.size K _ 252 _ hE)
        have HG : Hid (W.grownBy (wr.setCell ⟨w1.heap.size, K, none⟩ (.int .u8 61)) none) := Lib.hid ⟨hga.os, hga.tape, hga.output, by have := hga.size; simpa using this, fun k hk _ => (heap_setCell_other wr ⟨w1.heap.size, K, none⟩ k _ (by intro e; simp at e; omega)).trans (hga.block k hk (by simp))⟩
        clear hE hga hsz4
        gi_wp2
        go_roundw
        case rel => exact ⟨K + 1, by omega, by omega, by go_num, HN.out, HG.out⟩
        case measure => simp [intOf]; omega
      · obtain rfl : K = 4 := by omega
        have hRr := hR.kept hga (by simp)
        have cRr := hRr.cell
        have hSr := hS.grown_none hga
        have HCS := Lib.hid (eqs_end x.n c0 c1 c2 c3)
        rw [← HGR.out] at HCS
        have hgd : W.grownBy wr.drew none := ⟨hga.os, hga.tape, hga.output, hga.size, fun k hk h => hga.block k hk h⟩
        have HSI : Hid (w.heap.size ≤ wr.drew.heap.size) := Lib.hid (Nat.le_trans hB.size hga.size)
        gi_wp2
        refine wpIn_region_any (by kernel_rfl) ?_
        change wpAnyIn _ _ _ _ _ _ _ _ _ (World.drew _)
        refine wpAnyIn_ready (rs := [0, 1]) (by kernel_rfl) (by simp) (AllReadyIn.cons rfl (fun K hK => ?_) (AllReadyIn.cons rfl (fun K hK => ?_) AllReadyIn.nil)) <;> go_simp <;> refine hK _ _ ?_ <;> clear hK K
        · refine wpAnyIn_ready (rs := [1]) (by kernel_rfl) (by simp) (AllReadyIn.cons rfl (fun K hK => ?_) AllReadyIn.nil)
          go_simp
          refine hK _ _ ?_
          clear hK K
          refine wpAnyIn_ready (rs := [2]) (by kernel_rfl) (by simp) (AllReadyIn.cons rfl (fun K hK => ?_) AllReadyIn.nil)
          refine step_append_bin rfl _ _ rfl w.heap.size v (outL pre) rfl hSr.drew (grp ((x.a.toNat * 256 + x.b.toNat) * 256 + x.c.toNat) x.n) w1.heap.size 4 4 (eqs x.n 4 c0 c1 c2 c3) 252 (0, 0) rfl rfl hE HCS.out (by simp [grp]) HPL.out HSI.out ?_
          intro g cap w3 hS3 hg3 hg4
          refine hK _ _ ?_
          clear hK K
          have HE := Lib.hid (b64_end w W wr.drew w3 v _ (outL pre) (grp ((x.a.toNat * 256 + x.b.toNat) * 256 + x.c.toNat) x.n) g cap rfl h4 hR hS hne hB hgd hg3 hS3 hg4)
          have c9 := HE.out.1.cell
          have f9 := HE.out.1.frozen
          clear hS3 hg3 hg4
          refine wpAnyIn_ready (rs := [3]) (by kernel_rfl) (by simp) (AllReadyIn.cons rfl (fun K hK => ?_) AllReadyIn.nil)
          go_simp
          refine hK _ _ ?_
          clear hK K
          refine wpAnyIn_done (by kernel_rfl) ?_ _
          have hZ := HE.out.2
          refine ⟨hZ.1.from _, hZ.2.1, ?_, hZ.2.2.2⟩
          rw [outL_snoc]
          exact hZ.2.2.1
        · refine wpAnyIn_ready (rs := [0]) (by kernel_rfl) (by simp) (AllReadyIn.cons rfl (fun K hK => ?_) AllReadyIn.nil)
          go_simp
          refine hK _ _ ?_
          clear hK K
          refine wpAnyIn_ready (rs := [2]) (by kernel_rfl) (by simp) (AllReadyIn.cons rfl (fun K hK => ?_) AllReadyIn.nil)
          refine step_append_bin rfl _ _ rfl w.heap.size v (outL pre) rfl hSr.drew (grp ((x.a.toNat * 256 + x.b.toNat) * 256 + x.c.toNat) x.n) w1.heap.size 4 4 (eqs x.n 4 c0 c1 c2 c3) 252 (0, 0) rfl rfl hE HCS.out (by simp [grp]) HPL.out HSI.out ?_
          intro g cap w3 hS3 hg3 hg4
          refine hK _ _ ?_
          clear hK K
          have HE := Lib.hid (b64_end w W wr.drew w3 v _ (outL pre) (grp ((x.a.toNat * 256 + x.b.toNat) * 256 + x.c.toNat) x.n) g cap rfl h4 hR hS hne hB hgd hg3 hS3 hg4)
          have c9 := HE.out.1.cell
          have f9 := HE.out.1.frozen
          clear hS3 hg3 hg4
          refine wpAnyIn_ready (rs := [3]) (by kernel_rfl) (by simp) (AllReadyIn.cons rfl (fun K hK => ?_) AllReadyIn.nil)
          go_simp
          refine hK _ _ ?_
          clear hK K
          refine wpAnyIn_done (by kernel_rfl) ?_ _
          have hZ := HE.out.2
          refine ⟨hZ.1.from _, hZ.2.1, ?_, hZ.2.2.2⟩
          rw [outL_snoc]
          exact hZ.2.2.1
  case done =>
    rintro D ys W hD hys ⟨⟨h4, v, hR, hS, hne⟩, hB⟩ hK
    rw [outL_all _ _ hys] at hS
    have cR := hR.cell
    have hcv := hS.conv
    clear hys
    gi_wp2
    refine ⟨by simp, .inl ⟨_, _, rfl, run_takeDeferred hK, ?_⟩⟩
    exact ⟨_, by simp [results, Tryz.f196, go_sem], rfl, hB.trans (belowK_b (w := w) (Nat.le_refl _) W D _ _ (by have := HSZ.out; omega) hK rfl rfl)⟩
  case stop =>
    rintro D c pre W hD hpre h hK
    exact h.elim

theorem implPutBase64_any (s : ByteArray) (w : World) (hs : s.size ≤ 1048576) :
    Calls Tryz.prog 196 #[.string s] w fun e W' => e = .returned (.string ⟨(b64L s.data.toList).toArray⟩) ∧ Below w.heap.size w W' :=
  (callsIn_wide (n := 4)).1 (putBase64_in 4 (by omega) s w hs)
end Go.Proofs.YtnodhkjgnegkcaaGreatDoor

/-
  strings.TrimRight and what it calls, as the library lays it, at this seat.
-/
namespace Go.Proofs
open Go.Shelf
def Tryz.laysTrim_ren : Go.Shelf.Ren := ⟨fun | 162 => 232 | 232 => 264 | 227 => 265 | 234 => 266 | 236 => 267 | 228 => 287 | 271 => 288 | 151 => 289 | 120 => 301 | 197 => 291 | 152 => 302 | 260 => 303 | 137 => 233 | 119 => 310 | 224 => 299 | 225 => 298 | 217 => 268 | 266 => 290 | n => n, fun | 9 => 9 | 4 => 4 | 3 => 3 | 5 => 5 | 117 => 266 | 116 => 265 | 0 => 0 | 124 => 269 | 21 => 21 | 105 => 280 | 46 => 148 | 119 => 293 | 139 => 296 | 138 => 295 | n => n, fun | 3 => 1 | 4 => 2 | n => n⟩
theorem Tryz.laysTrim : Go.Proofs.Lays.n162 Tryz.prog Tryz.laysTrim_ren := {
  mixed := by kernel_rfl
  f119 := Tryz.func310.trans (congrArg some (by kernel_rfl))
  f120 := Tryz.func301.trans (congrArg some (by kernel_rfl))
  f137 := Tryz.func233.trans (congrArg some (by kernel_rfl))
  f151 := Tryz.func289.trans (congrArg some (by kernel_rfl))
  f152 := Tryz.func302.trans (congrArg some (by kernel_rfl))
  f162 := Tryz.func232.trans (congrArg some (by kernel_rfl))
  f197 := Tryz.func291.trans (congrArg some (by kernel_rfl))
  f217 := Tryz.func268.trans (congrArg some (by kernel_rfl))
  f224 := Tryz.func299.trans (congrArg some (by kernel_rfl))
  f225 := Tryz.func298.trans (congrArg some (by kernel_rfl))
  f227 := Tryz.func265.trans (congrArg some (by kernel_rfl))
  f228 := Tryz.func287.trans (congrArg some (by kernel_rfl))
  f232 := Tryz.func264.trans (congrArg some (by kernel_rfl))
  f234 := Tryz.func266.trans (congrArg some (by kernel_rfl))
  f236 := Tryz.func267.trans (congrArg some (by kernel_rfl))
  f260 := Tryz.func303.trans (congrArg some (by kernel_rfl))
  f266 := Tryz.func290.trans (congrArg some (by kernel_rfl))
  f271 := Tryz.func288.trans (congrArg some (by kernel_rfl))
  t0 := Tryz.underlying0
  a0 := Tryz.isAgg0
  z0 := Tryz.sizeOf0
  v0 := Tryz.zeroValue0
  t3 := Tryz.underlying3
  a3 := Tryz.isAgg3
  z3 := Tryz.sizeOf3
  v3 := Tryz.zeroValue3
  t4 := Tryz.underlying4
  a4 := Tryz.isAgg4
  z4 := Tryz.sizeOf4
  v4 := Tryz.zeroValue4
  t5 := Tryz.underlying5
  a5 := Tryz.isAgg5
  z5 := Tryz.sizeOf5
  v5 := Tryz.zeroValue5
  t9 := Tryz.underlying9
  a9 := Tryz.isAgg9
  z9 := Tryz.sizeOf9
  v9 := Tryz.zeroValue9
  t21 := Tryz.underlying21
  a21 := Tryz.isAgg21
  z21 := Tryz.sizeOf21
  v21 := Tryz.zeroValue21
  t46 := Tryz.underlying148
  a46 := Tryz.isAgg148
  z46 := Tryz.sizeOf148
  v46 := Tryz.zeroValue148
  t105 := Tryz.underlying280
  a105 := Tryz.isAgg280
  z105 := Tryz.sizeOf280
  v105 := Tryz.zeroValue280
  t116 := Tryz.underlying265
  a116 := Tryz.isAgg265
  z116 := Tryz.sizeOf265
  t117 := Tryz.underlying266
  a117 := Tryz.isAgg266
  z117 := Tryz.sizeOf266
  v117 := Tryz.zeroValue266
  t119 := Tryz.underlying293
  a119 := Tryz.isAgg293
  z119 := Tryz.sizeOf293
  t124 := Tryz.underlying269
  a124 := Tryz.isAgg269
  z124 := Tryz.sizeOf269
  v124 := Tryz.zeroValue269
  t138 := Tryz.underlying295
  a138 := Tryz.isAgg295
  z138 := Tryz.sizeOf295
  v138 := Tryz.zeroValue295
  t139 := Tryz.underlying296
  a139 := Tryz.isAgg296
  z139 := Tryz.sizeOf296
  v139 := Tryz.zeroValue296
  g3 := by kernel_rfl
  g4 := by kernel_rfl }
end Go.Proofs

/-
  impl.GetBase64 decodes a text without its padding and compares.
-/
namespace Go.Proofs.YtnodhkjgnegkcaaGreatDoor
open Go.RowKit

theorem trimRight_any (s : ByteArray) (w : World) (hs : s.size ≤ 1048576) :
    Calls Tryz.prog 232 #[.string s, .string ⟨#[61]⟩] w fun e w' => e = .returned (.string ⟨(Lib.trimRightB s.data.toList 61).toArray⟩) ∧ w' = w := Any.strings_TrimRight_one Tryz.laysTrim s 61 (by decide) w (by omega)

/-- How many bits are held after k signs. -/
def sz (k : Nat) : Nat := match k % 4 with
  | 0 => 0
  | 1 => 6
  | 2 => 4
  | _ => 2
/-- What impl.GetBase64 returns, d being the text without its padding. -/
def getI (l d : List UInt8) : List UInt8 × Bool := if signs d = d.length then (if b64L (dO d d.length) = l then (dO d d.length, true) else ([], false)) else ([], false)

set_option maxRecDepth 100000 in
set_option maxHeartbeats 8000000 in
theorem implGetBase64_any (s : ByteArray) (w : World) (hs : s.size ≤ 1048576) :
    Calls Tryz.prog 194 #[.string s] w fun e w' => e = .returned (.tuple #[.string ⟨(getI s.data.toList (Lib.trimRightB s.data.toList 61)).1.toArray⟩, .bool (getI s.data.toList (Lib.trimRightB s.data.toList 61)).2]) ∧ Below w.heap.size w w' := by
  obtain ⟨D, hD⟩ : ∃ D : ByteArray, D = ⟨(Lib.trimRightB s.data.toList 61).toArray⟩ := ⟨_, rfl⟩
  have hDl : D.data.toList = Lib.trimRightB s.data.toList 61 := by rw [hD]
  have hDs : D.size ≤ 1048576 := by
    have h1 : D.data.toList.length ≤ s.data.toList.length := by
      rw [hDl]
      unfold Lib.trimRightB
      rw [List.length_reverse]
      exact Nat.le_trans (List.dropWhile_sublist _).length_le (by simp)
    simp at h1
    omega
  have HT := Lib.hid (trimRight_any s w hs)
  rw [← hD] at HT
  rw [← hDl]
  clear hD hDl
  obtain ⟨C, hC⟩ : ∃ C : Nat, C = s.size / 4 * 3 := ⟨_, rfl⟩
  obtain ⟨i0, hi, hz0, hz1, hz2⟩ := info_parts u8info
  obtain ⟨M, hM⟩ : ∃ M, M = madeCells (Value.int .u8 0).cells (C * i0.size) := ⟨_, rfl⟩
  have hMs : M.size = C := by rw [hM, size_madeCells, hz1]; simp
  have hmk : ∀ W : World, (Instr.makeSlice 145 (.int .i64 0) (.int .i64 (C : Int))).run Tryz.prog W = .ok (.slice (some ⟨W.heap.size, 0, none⟩) 0 C) (W.alloc (.cells M 5)) := fun W => by
    have h := run_make (P := Tryz.prog) W 145 5 i0 (.int .u8 0) Tryz.underlying145 hi hz0 .i64 .i64 0 (C : Int) (by omega) (by omega) (by rw [hz2]; omega) (by omega)
    simp only [Int.toNat_natCast] at h
    rw [← hM] at h
    simpa using h
  have hcap : (s.size : Int) / 4 * 3 = (C : Int) := by omega
  have hC0 : C ≤ 1398104 := by omega
  clear hM hC
  have hS00 : Buf (w.alloc (.cells M 5)) w.heap.size (.slice (some ⟨w.heap.size, 0, none⟩) 0 C) [] :=
    ⟨rfl, .inr ⟨w.heap.size, C, M, rfl, Nat.le_refl _, heap_alloc_new w _, Nat.zero_le _, by unfold maxLen; omega, by rw [hMs]; omega, by simp⟩⟩
  clear hMs
  go_enter Tryz.func194, Tryz.ntmps194
  go_wp2_with fail
  refine HT.out.mono ?_
  rintro e w1 ⟨rfl, rfl⟩
  go_wp2_with fail
  go_loopw [5, 6, 7, 20] (fun v hd z i wr => ∃ k h zn : Nat, k ≤ D.size ∧ i = .int .i64 (k : Int) ∧ h = dN D.data.toList k % 2 ^ zn ∧ zn = sz k ∧ hd = .int .i64 (h : Int) ∧ z = .int .i64 (zn : Int) ∧ Buf wr w1.heap.size v (dO D.data.toList k) ∧ Below w1.heap.size w1 wr ∧ (∀ j, j < k → 0 ≤ ix (D.data.toList.getD j 0))) (fun _ _ _ i _ => D.size - (intOf i).toNat)
  case atStart => exact ⟨0, 0, 0, Nat.zero_le _, rfl, by simp [dN], rfl, rfl, rfl, hS00, (Below.refl _ _).alloc (Nat.le_refl _) _, fun j hj => by omega⟩
  case round =>
    obtain ⟨k, h, z, hk, rfl, hh, hz, rfl, rfl, hown, hb, hsg⟩ := hrel
    have HSG := Lib.hid hsg
    clear hsg hmk hcap hS00
    by_cases hlt : k < D.size
    · have k0 : (0 : Int) ≤ (k : Int) := by omega
      have k1 : (k : Int) < (D.size : Int) := by omega
      obtain ⟨v, hv⟩ : ∃ v, v = ix D[k] := ⟨_, rfl⟩
      have HI : Hid (Calls Tryz.prog 233 #[.string ⟨sgL.toArray⟩, .int .u8 (D[k].toNat : Int)] wr fun e w' => e = .returned (.int .i64 v) ∧ wr = w') := Lib.hid (by rw [hv]; exact indexByte_any ⟨sgL.toArray⟩ D[k] wr)
      have HZ0 := Lib.hid hz
      have HH0 := Lib.hid hh
      clear hz hh
      go_wp2_with fail
      refine HI.out.mono ?_
      rintro e w2 ⟨rfl, rfl⟩
      have hz := HZ0.out
      have hh := HH0.out
      have hv1 := ix_ge D[k]
      have hv2 := ix_lt D[k]
      rw [← hv] at hv1 hv2
      have HDL : Hid (D.data.toList.length = D.size) := Lib.hid (by simp)
      by_cases hneg : v < 0
      · have HSN : Hid (signs D.data.toList = k) := Lib.hid (signs_at HSG.out (by simp; omega) (fun c hc => by rw [show D.data.toList[k]? = some D[k] by simp [hlt]; rfl] at hc; cases hc; rw [← hv]; exact hneg))
        have HG : Hid (getI s.data.toList D.data.toList = ([], false)) := Lib.hid (by unfold getI; rw [HSN.out, if_neg (by rw [HDL.out]; omega)])
        clear hz hh hv
        go_wp2_with fail
        rw [HG.out]
        go_ret2
        exact ⟨rfl, hb⟩
      · obtain ⟨V, rfl⟩ := Int.eq_ofNat_of_zero_le (show (0 : Int) ≤ v by omega)
        have HV : Hid (ix (D.data.toList.getD k 0) = (V : Int)) := Lib.hid (by rw [byteAt D k hlt]; exact hv.symm)
        have HNX : Hid (dN D.data.toList (k + 1) = dN D.data.toList k * 64 % 16777216 + V) := Lib.hid (by rw [dN, HV.out]; simp)
        have HS2 : Hid (∀ j, j < k + 1 → 0 ≤ ix (D.data.toList.getD j 0)) := Lib.hid (fun j hj => by
          by_cases h : j < k
          · exact HSG.out j h
          · obtain rfl : j = k := by omega
            rw [HV.out]; omega)
        have HLN := Lib.hid (dO_len D.data.toList k)
        clear hv hv1 hneg HI HT
        have hdn : ¬ (V : Int) < 0 := by omega
        obtain ⟨r, hr⟩ : ∃ r, r = k % 4 := ⟨_, rfl⟩
        obtain rfl | rfl | rfl | rfl : r = 0 ∨ r = 1 ∨ r = 2 ∨ r = 3 := by omega
        · obtain rfl : z = 0 := by rw [hz]; simp [sz, ← hr]
          have HR := Lib.hid hr
          have HH : Hid (h = dN D.data.toList k % 1) := Lib.hid hh
          have hhl : h < 1 := by rw [hh]; exact Nat.mod_lt _ (by decide)
          have hz2 : 6 = sz (k + 1) := by simp [sz, show (k + 1) % 4 = 1 by omega]
          have HZ2 := Lib.hid hz2
          have j1 : bits .or .i64 ((h : Int) * 64) (V : Int) = (h : Int) * 64 + (V : Int) := bits_join .i64 32 (by decide) (fun n h0 h1 => IntWalk.i64_in n (by omega)) 6 _ _ (by omega) (by omega) (by omega) (by omega) (by omega) (by omega)
          clear hr hz hh hz2
          have HO : Hid (dO D.data.toList (k + 1) = dO D.data.toList k) := Lib.hid (by rw [dO, if_pos HR.out.symm]; simp)
          have HX : Hid (h * 64 + V = dN D.data.toList (k + 1) % 64) := Lib.hid (by rw [HNX.out]; omega)
          go_wp2_with fail
          go_roundw
          case rel => exact ⟨k + 1, h * 64 + V, 6, by omega, by go_num, HX.out, HZ2.out, by go_num, by go_num, by rw [HO.out]; exact hown, hb, HS2.out⟩
          case measure => simp [intOf]; omega
        · obtain rfl : z = 6 := by rw [hz]; simp [sz, ← hr]
          have HR := Lib.hid hr
          have HH : Hid (h = dN D.data.toList k % 64) := Lib.hid hh
          have hhl : h < 64 := by rw [hh]; exact Nat.mod_lt _ (by decide)
          have hz2 : 4 = sz (k + 1) := by simp [sz, show (k + 1) % 4 = 2 by omega]
          have HZ2 := Lib.hid hz2
          have j1 : bits .or .i64 ((h : Int) * 64) (V : Int) = (h : Int) * 64 + (V : Int) := bits_join .i64 32 (by decide) (fun n h0 h1 => IntWalk.i64_in n (by omega)) 6 _ _ (by omega) (by omega) (by omega) (by omega) (by omega) (by omega)
          clear hr hz hh hz2
          obtain ⟨B, hBE⟩ : ∃ B : UInt8, B = UInt8.ofNat ((dN D.data.toList (k + 1)) / 16 % 256) := ⟨_, rfl⟩
          have HO : Hid (dO D.data.toList (k + 1) = dO D.data.toList k ++ [B]) := Lib.hid (by rw [dO, if_neg (by have := HR.out; omega), show sh k = 4 by unfold sh; have := HR.out; omega, hBE])
          have hB1 : B.toNat = (h * 64 + V) / 16 % 256 := by
            have h1 := HH.out
            have h2 := HNX.out
            rw [hBE]; simp; omega
          have HCB : Hid ([Value.int .u8 (((h : Int) * 64 + (V : Int)) / 16)] = [B].map bv) := Lib.hid (by
            have : ((h : Int) * 64 + (V : Int)) / 16 = (B.toNat : Int) := by rw [hB1]; omega
            rw [this]; rfl)
          have HX : Hid ((h * 64 + V) % 16 = dN D.data.toList (k + 1) % 16) := Lib.hid (by have h1 := HH.out; rw [HNX.out]; omega)
          have m1 : bits .and .i64 ((h : Int) * 64 + (V : Int)) 15 = ((h : Int) * 64 + (V : Int)) % 16 := bits_mask .i64 32 (by decide) (fun n h0 h1 => IntWalk.i64_in n (by omega)) 4 (by decide) _ (by omega) (by omega)
          have HLL : Hid ((dO D.data.toList k).length + 1 ≤ 16777216) := Lib.hid (by have := HLN.out; omega)
          have HBS : Hid (w1.heap.size ≤ wr.heap.size) := Lib.hid hb.size
          clear hBE hB1
          go_wp2_with (at_builtin; refine wpList_append_buf rfl _ _ rfl w1.heap.size _ _ rfl (hown.alloc _) [B] wr.heap.size _ _ _ _ _ rfl rfl (heap_alloc_new wr _) HCB.out (by simp) HLL.out (by simp; exact Nat.le_succ_of_le HBS.out) ?_; intro v' w3 hown3 hb3)
          have HB : Below w1.heap.size w1 w3 := hb.trans (((Below.refl w1.heap.size wr).alloc HBS.out _).trans hb3)
          go_wp2_with fail
          go_roundw
          case rel => exact ⟨k + 1, (h * 64 + V) % 16, 4, by omega, by go_num, HX.out, HZ2.out, by go_num, by go_num, by rw [HO.out]; exact hown3, HB, HS2.out⟩
          case measure => simp [intOf]; omega
        · obtain rfl : z = 4 := by rw [hz]; simp [sz, ← hr]
          have HR := Lib.hid hr
          have HH : Hid (h = dN D.data.toList k % 16) := Lib.hid hh
          have hhl : h < 16 := by rw [hh]; exact Nat.mod_lt _ (by decide)
          have hz2 : 2 = sz (k + 1) := by simp [sz, show (k + 1) % 4 = 3 by omega]
          have HZ2 := Lib.hid hz2
          have j1 : bits .or .i64 ((h : Int) * 64) (V : Int) = (h : Int) * 64 + (V : Int) := bits_join .i64 32 (by decide) (fun n h0 h1 => IntWalk.i64_in n (by omega)) 6 _ _ (by omega) (by omega) (by omega) (by omega) (by omega) (by omega)
          clear hr hz hh hz2
          obtain ⟨B, hBE⟩ : ∃ B : UInt8, B = UInt8.ofNat ((dN D.data.toList (k + 1)) / 4 % 256) := ⟨_, rfl⟩
          have HO : Hid (dO D.data.toList (k + 1) = dO D.data.toList k ++ [B]) := Lib.hid (by rw [dO, if_neg (by have := HR.out; omega), show sh k = 2 by unfold sh; have := HR.out; omega, hBE])
          have hB1 : B.toNat = (h * 64 + V) / 4 % 256 := by
            have h1 := HH.out
            have h2 := HNX.out
            rw [hBE]; simp; omega
          have HCB : Hid ([Value.int .u8 (((h : Int) * 64 + (V : Int)) / 4)] = [B].map bv) := Lib.hid (by
            have : ((h : Int) * 64 + (V : Int)) / 4 = (B.toNat : Int) := by rw [hB1]; omega
            rw [this]; rfl)
          have HX : Hid ((h * 64 + V) % 4 = dN D.data.toList (k + 1) % 4) := Lib.hid (by have h1 := HH.out; rw [HNX.out]; omega)
          have m1 : bits .and .i64 ((h : Int) * 64 + (V : Int)) 3 = ((h : Int) * 64 + (V : Int)) % 4 := bits_mask .i64 32 (by decide) (fun n h0 h1 => IntWalk.i64_in n (by omega)) 2 (by decide) _ (by omega) (by omega)
          have HLL : Hid ((dO D.data.toList k).length + 1 ≤ 16777216) := Lib.hid (by have := HLN.out; omega)
          have HBS : Hid (w1.heap.size ≤ wr.heap.size) := Lib.hid hb.size
          clear hBE hB1
          go_wp2_with (at_builtin; refine wpList_append_buf rfl _ _ rfl w1.heap.size _ _ rfl (hown.alloc _) [B] wr.heap.size _ _ _ _ _ rfl rfl (heap_alloc_new wr _) HCB.out (by simp) HLL.out (by simp; exact Nat.le_succ_of_le HBS.out) ?_; intro v' w3 hown3 hb3)
          have HB : Below w1.heap.size w1 w3 := hb.trans (((Below.refl w1.heap.size wr).alloc HBS.out _).trans hb3)
          go_wp2_with fail
          go_roundw
          case rel => exact ⟨k + 1, (h * 64 + V) % 4, 2, by omega, by go_num, HX.out, HZ2.out, by go_num, by go_num, by rw [HO.out]; exact hown3, HB, HS2.out⟩
          case measure => simp [intOf]; omega
        · obtain rfl : z = 2 := by rw [hz]; simp [sz, ← hr]
          have HR := Lib.hid hr
          have HH : Hid (h = dN D.data.toList k % 4) := Lib.hid hh
          have hhl : h < 4 := by rw [hh]; exact Nat.mod_lt _ (by decide)
          have hz2 : 0 = sz (k + 1) := by simp [sz, show (k + 1) % 4 = 0 by omega]
          have HZ2 := Lib.hid hz2
          have j1 : bits .or .i64 ((h : Int) * 64) (V : Int) = (h : Int) * 64 + (V : Int) := bits_join .i64 32 (by decide) (fun n h0 h1 => IntWalk.i64_in n (by omega)) 6 _ _ (by omega) (by omega) (by omega) (by omega) (by omega) (by omega)
          clear hr hz hh hz2
          obtain ⟨B, hBE⟩ : ∃ B : UInt8, B = UInt8.ofNat ((dN D.data.toList (k + 1)) % 256) := ⟨_, rfl⟩
          have HO : Hid (dO D.data.toList (k + 1) = dO D.data.toList k ++ [B]) := Lib.hid (by rw [dO, if_neg (by have := HR.out; omega), show sh k = 0 by unfold sh; have := HR.out; omega, hBE]; simp)
          have hB1 : B.toNat = (h * 64 + V) % 256 := by
            have h1 := HH.out
            have h2 := HNX.out
            rw [hBE]; simp; omega
          have HCB : Hid ([Value.int .u8 (((h : Int) * 64 + (V : Int)))] = [B].map bv) := Lib.hid (by
            have : ((h : Int) * 64 + (V : Int)) = (B.toNat : Int) := by rw [hB1]; omega
            rw [this]; rfl)
          have HX : Hid ((h * 64 + V) % 1 = dN D.data.toList (k + 1) % 1) := Lib.hid (by have h1 := HH.out; rw [HNX.out]; omega)
          have m1 : bits .and .i64 ((h : Int) * 64 + (V : Int)) 0 = ((h : Int) * 64 + (V : Int)) % 1 := bits_mask .i64 32 (by decide) (fun n h0 h1 => IntWalk.i64_in n (by omega)) 0 (by decide) _ (by omega) (by omega)
          have HLL : Hid ((dO D.data.toList k).length + 1 ≤ 16777216) := Lib.hid (by have := HLN.out; omega)
          have HBS : Hid (w1.heap.size ≤ wr.heap.size) := Lib.hid hb.size
          clear hBE hB1
          go_wp2_with (at_builtin; refine wpList_append_buf rfl _ _ rfl w1.heap.size _ _ rfl (hown.alloc _) [B] wr.heap.size _ _ _ _ _ rfl rfl (heap_alloc_new wr _) HCB.out (by simp) HLL.out (by simp; exact Nat.le_succ_of_le HBS.out) ?_; intro v' w3 hown3 hb3)
          have HB : Below w1.heap.size w1 w3 := hb.trans (((Below.refl w1.heap.size wr).alloc HBS.out _).trans hb3)
          go_wp2_with fail
          go_roundw
          case rel => exact ⟨k + 1, (h * 64 + V) % 1, 0, by omega, by go_num, HX.out, HZ2.out, by go_num, by go_num, by rw [HO.out]; exact hown3, HB, HS2.out⟩
          case measure => simp [intOf]; omega
    · have k1 : ¬ (k : Int) < (D.size : Int) := by omega
      have hke : k = D.size := by omega
      have hcv := hown.conv
      have HDL : Hid (D.data.toList.length = k) := Lib.hid (by simp; omega)
      have HSN : Hid (signs D.data.toList = k) := Lib.hid (signs_at HSG.out (by simp; omega) (fun c hc => by rw [List.getElem?_eq_none (by simp; omega)] at hc; cases hc))
      have HPB := Lib.hid (implPutBase64_any ⟨(dO D.data.toList k).toArray⟩ wr (by show (dO D.data.toList k).toArray.size ≤ _; have := dO_len D.data.toList k; simp; omega))
      clear hk hke hz hh HT
      go_wp2_with fail
      refine HPB.out.mono ?_
      rintro e w5 ⟨rfl, hb5⟩
      have HB5 : Below w1.heap.size w1 w5 := hb.trans (hb5.mono hb.size)
      by_cases heq : b64L (dO D.data.toList k) = s.data.toList
      · have HG : Hid (getI s.data.toList D.data.toList = (dO D.data.toList k, true)) := Lib.hid (by unfold getI; rw [HSN.out, HDL.out, if_pos rfl, if_pos heq])
        have hq : (b64L (dO D.data.toList k) == s.toList) = true := by rw [ByteArray.toList_eq]; simpa using heq
        go_wp2_with fail
        rw [HG.out]
        go_ret2
        exact ⟨rfl, HB5⟩
      · have HG : Hid (getI s.data.toList D.data.toList = ([], false)) := Lib.hid (by unfold getI; rw [HSN.out, HDL.out, if_pos rfl, if_neg heq])
        have hq : (b64L (dO D.data.toList k) == s.toList) = false := by rw [ByteArray.toList_eq]; simpa using heq
        go_wp2_with fail
        rw [HG.out]
        go_ret2
        exact ⟨rfl, HB5⟩
end Go.Proofs.YtnodhkjgnegkcaaGreatDoor

/-
  strings.Join of a list of texts at any text.
-/
namespace Go.Proofs
open Go.Shelf
namespace YtnodhkjgnegkcaaGreatDoor
open Go.RowKit

theorem join_flat (sep x : List UInt8) : ∀ xs : List (List UInt8), Lib.join (x :: xs) sep = x ++ xs.flatMap (fun y => sep ++ y)
  | [] => by simp [Lib.join, List.intercalate]
  | y :: ys => by
    have := join_flat sep y ys
    unfold Lib.join at this ⊢
    simp [List.intercalate] at this ⊢
    rw [this]

theorem joinSep_any (w : World) (base : Nat) (v : Value) (ls : List (List UInt8)) (sep : ByteArray) (h : Strs w base v ls) (hn : ls ≠ []) (hl : ls.length ≤ 16777216) (hj : (Lib.join ls sep.data.toList).length ≤ 140737488355328) :
    Calls Tryz.prog 84 #[v, .string sep] w fun e w' => e = .returned (.string ⟨(Lib.join ls sep.data.toList).toArray⟩) ∧ Below w.heap.size w w' := by
  obtain ⟨g, cap, rfl, _, hg⟩ : ∃ g cap, v = .slice (some ⟨g, 0, none⟩) ls.length cap ∧ base ≤ g ∧ g < w.heap.size := by
    rcases h.form with ⟨_, h'⟩ | h'
    · exact absurd h' hn
    · exact h'
  obtain ⟨hlen, hr⟩ := h
  have hS : Strs w base (.slice (some ⟨g, 0, none⟩) ls.length cap) ls := ⟨hlen, hr⟩
  have hcap : ls.length ≤ cap := by
    rcases hr with ⟨hv, _⟩ | ⟨g', cap', cur, hv, _, _, hc, _⟩
    · cases hv
    · simp only [Value.slice.injEq] at hv; omega
  have hm : (ls.map (fun l => (⟨l.toArray⟩ : ByteArray))).map (fun x => x.data.toList) = ls := by rw [List.map_map]; exact List.map_id'' (fun l => rfl) ls
  have hJ := Any.strings_Join Tryz.laysJoin Tryz.extraJoin g 0 cap (ls.map (fun l => (⟨l.toArray⟩ : ByteArray))) sep w (fun j x hx => by
      rw [List.getElem?_map] at hx
      cases hj : ls[j]? with
      | none => rw [hj] at hx; simp at hx
      | some y =>
        rw [hj] at hx
        simp at hx
        subst hx
        obtain ⟨hl, rfl⟩ := List.getElem?_eq_some_iff.1 hj
        rw [Nat.zero_add]
        exact hS.cell j hl) hg (by simp; omega) (by simpa using hcap) (by rw [hm]; exact hj)
  rw [hm] at hJ
  have e : (ls.map (fun l => (⟨l.toArray⟩ : ByteArray))).length = ls.length := by simp
  rw [e] at hJ
  exact hJ
end YtnodhkjgnegkcaaGreatDoor
end Go.Proofs

/-
  strings.Join of any list of texts of the call's own.
-/
namespace Go.Proofs
open Go.Shelf
namespace YtnodhkjgnegkcaaGreatDoor
open Go.RowKit

theorem joinAll_any (w : World) (base : Nat) (v : Value) (ls : List (List UInt8)) (sep : List UInt8) (h : Strs w base v ls) (hl : ls.length ≤ 16777216) (hj : (Lib.join ls sep).length ≤ 140737488355328) :
    Calls Tryz.prog 84 #[v, .string ⟨sep.toArray⟩] w fun e w' => e = .returned (.string ⟨(Lib.join ls sep).toArray⟩) ∧ Below w.heap.size w w' := by
  by_cases hn : ls = []
  · subst hn
    obtain ⟨A, c, rfl⟩ : ∃ A c, v = .slice A 0 c := by
      rcases h.form with ⟨rfl, _⟩ | ⟨g, cap, rfl, _, _⟩
      · exact ⟨_, _, rfl⟩
      · exact ⟨_, _, rfl⟩
    exact (Any.strings_Join_none Tryz.laysJoin Tryz.extraJoin A c ⟨sep.toArray⟩ w).mono fun e w' h => ⟨h.1, by rw [h.2]; exact Below.refl _ _⟩
  · exact joinSep_any w base v ls ⟨sep.toArray⟩ h hn hl hj
end YtnodhkjgnegkcaaGreatDoor
end Go.Proofs

/-
  A text appended to a list of texts of the call's own, in a region that draws its order.
-/
namespace Go.Proofs.YtnodhkjgnegkcaaGreatDoor
open Go.RowKit

/-- append(out, text) at a step of a region that draws its order. -/
theorem step_append_one {w : World} {ops : Array Oper} {o : Oper} {a : Act} {K : Act → World → Prop} {Q : Exit → Act → World → Prop} {E : Prop} (hgd : o.guard = none) (s x : Operand)
    (ho : o.op = .call { callee := .builtin .append, args := #[s, x], argTypes := #[29, 29] })
    (base : Nat) (v : Value) (l : List (List UInt8)) (hs : a.eval s = v) (hown : Strs w base v l) (y : List UInt8) (B c : Nat) (t : TypeId) (fr : Nat × Nat)
    (hx : a.eval x = .slice (some ⟨B, 0, none⟩) 1 c) (hblk : w.heap[B]? = some (.cells #[sv y] t fr)) (hlen : l.length + 1 ≤ 16777216) (hbase : base ≤ w.heap.size)
    (h : ∀ g cap w', Strs w' base (.slice (some ⟨g, 0, none⟩) (l.length + 1) cap) (l ++ [y]) → w.grownBy w' v.ownBlock → (v.ownBlock = some g ∨ g = w.heap.size) → K (a.put o.dst (.slice (some ⟨g, 0, none⟩) (l.length + 1) cap)) w') :
    if Region.wanted o (yielded ops a.tmps) = true then Oper.wp Tryz.prog o a w K Q else E := by
  have hw : Region.wanted o (yielded ops a.tmps) = true := by simp [Region.wanted, hgd]
  rw [if_pos hw]
  obtain ⟨g, cap, w', hr, h2, h3, h4⟩ := run_append_strs w o.type base v l hown y B c t fr hblk hlen hbase
  unfold Oper.wp execOp
  simp only [ho, resolve, invoke, builtin, Sem.run_bind, Sem.run_pure, Result.andThen_ok, List.map_toArray, List.map_cons, List.map_nil, hs, hx, hr]
  exact h g cap w' h2 h3 h4
end Go.Proofs.YtnodhkjgnegkcaaGreatDoor

namespace Go.Proofs.YtnodhkjgnegkcaaGreatDoor
open Go.RowKit

theorem cells2 {V : World} {B : Nat} {T : TypeId} {v0 v1 : Value} (h : V.heap[B]? = some (.cells #[v0, v1] T)) : V.cell? ⟨B, 0, none⟩ = some v0 ∧ V.cell? ⟨B, 1, none⟩ = some v1 := by
  simp [World.cell?, h]
/-- What impl's three tests say of an Alg. -/
theorem alg_impl (a : List UInt8) : (a = sha1L ∧ algOk a = true) ∨ (a = sha256L ∧ algOk a = true) ∨ (a = sha512L ∧ algOk a = true) ∨ (¬ a = sha1L ∧ ¬ a = sha256L ∧ ¬ a = sha512L ∧ algOk a = false) := by
  by_cases h1 : a = sha1L
  · subst h1; left; exact ⟨rfl, by decide⟩
  · by_cases h2 : a = sha256L
    · subst h2; right; left; exact ⟨rfl, by decide⟩
    · by_cases h3 : a = sha512L
      · subst h3; right; right; left; exact ⟨rfl, by decide⟩
      · right; right; right; exact ⟨h1, h2, h3, by unfold algOk; simp [h1, h2, h3]⟩
theorem wordsB_len (bs : List Bd) : (wordsB bs).length ≤ bs.length := by
  unfold wordsB; rw [List.length_map]; exact List.length_filter_le _ _

set_option maxRecDepth 100000 in
set_option maxHeartbeats 4000000 in
theorem implPutIntegrity_any (v : Value) (bs : List Bd) (w : World) (hr : RdB w v bs) (hs : SmB bs) :
    Calls Tryz.prog 152 #[v] w fun e w' => e = .returned (.string ⟨(intT bs).toArray⟩) ∧ Below w.heap.size w w' := by
  have HR := Lib.hid hr
  have HS := Lib.hid hs
  have hn : bs.length ≤ 1048576 := by unfold SmB at hs; omega
  obtain ⟨A, ca, rfl, _⟩ := hr
  go_enter Tryz.func152, Tryz.ntmps152
  go_wp2_with fail
  go_loopw [3, 5, 9] (fun u _ i wr => ∃ (k : Nat) (ws : List (List UInt8)), k ≤ bs.length ∧ i = .int .i64 k ∧ Strs wr w.heap.size u ws ∧ ws.length ≤ k ∧ Hid (wordsB (bs.take k) = ws) ∧ Below w.heap.size w wr) (fun _ _ i _ => bs.length - (intOf i).toNat)
  case atStart => exact ⟨0, [], Nat.zero_le _, rfl, Strs.empty w _ (Nat.le_refl _), by simp, Lib.hid rfl, (Below.refl _ _).alloc (Nat.le_refl _) _⟩
  case round =>
    obtain ⟨k, ws, hk, rfl, hO, hwl, HO, hb⟩ := hrel
    by_cases hlt : k < bs.length
    · obtain ⟨g, off, rfl, hg, d1, d2⟩ := (HR.out.below hb).at k hlt
      have hl2 : bs[k].1.length + bs[k].2.length ≤ 1048576 := by have := smB_mem bs[k] (List.getElem_mem hlt); have := HS.out; unfold SmB at this; omega
      have hways := alg_impl bs[k].1
      have HT1 := Lib.hid (fun (ha : algOk bs[k].1 = true) => wordsB_more hlt ha)
      have HT3 := Lib.hid (fun (ha : algOk bs[k].1 = false) => wordsB_skip hlt ha)
      have hbl := b64L_le bs[k].2
      obtain ⟨b, HB⟩ : ∃ b, Hid (bs[k] = b) := ⟨_, Lib.hid rfl⟩
      rw [HB.out] at d1 d2 hl2 hways HT1 HT3 hbl
      obtain ⟨al, by_⟩ := b
      simp only at d1 d2 hl2 hways HT1 HT3 hbl
      have k0 : (0 : Int) ≤ (k : Int) := by omega
      have k1 : (k : Int) < (bs.length : Int) := by omega
      have B1 : Below w.heap.size w (wr.alloc (.cells #[.string ⟨al.toArray⟩, .string ⟨by_.toArray⟩] 136)) := hb.alloc hb.size _
      have hO1 := hO.alloc (.cells #[.string ⟨al.toArray⟩, .string ⟨by_.toArray⟩] 136)
      have hbx := heap_alloc_new wr (.cells #[.string ⟨al.toArray⟩, .string ⟨by_.toArray⟩] 136)
      by_cases ha : algOk al = true
      · have HC := Lib.hid (fun W => implPutBase64_any ⟨by_.toArray⟩ W (by show by_.toArray.size ≤ _; simp; omega))
        obtain ⟨E, HE⟩ : ∃ E, Hid (b64L by_ = E) := ⟨_, Lib.hid rfl⟩
        have HC2 : Hid (∀ W, Calls Tryz.prog 196 #[.string ⟨by_.toArray⟩] W fun e w' => e = .returned (.string ⟨E.toArray⟩) ∧ Below W.heap.size W w') := Lib.hid (by have := HC.out; simp only [HE.out] at this; exact this)
        rw [HE.out] at hbl
        obtain ⟨N1, HN1⟩ : ∃ N, Hid (N = al ++ [45]) := ⟨_, Lib.hid rfl⟩
        obtain ⟨N2, HN2⟩ : ∃ N, Hid (N = N1 ++ E) := ⟨_, Lib.hid rfl⟩
        have l1 : N1.length ≤ 1048577 := by rw [HN1.out]; simp; omega
        have HN : Hid (wordsB (bs.take (k + 1)) = ws ++ [N2]) := Lib.hid (by rw [HT1.out ha, HO.out, HN2.out, HN1.out]; show ws ++ [al ++ 45 :: b64L by_] = _; rw [HE.out]; simp)
        have hal : al = sha1L ∨ al = sha256L ∨ al = sha512L := by
          rcases hways with ⟨h, _⟩ | ⟨h, _⟩ | ⟨h, _⟩ | ⟨_, _, _, h⟩
          · exact .inl h
          · exact .inr (.inl h)
          · exact .inr (.inr h)
          · rw [ha] at h; cases h
        have HOW := Lib.hid hO.owned
        have hws : w.heap.size ≤ wr.heap.size := hb.size
        clear ha hways HT1 HT3 HC hO hb
        rcases hal with rfl | rfl | rfl
        all_goals
          have s1 : ∀ W, (Op.stringOp .add ⟨_⟩ ⟨#[45]⟩).run Tryz.prog W = .ok (.string ⟨N1.toArray⟩) W := fun W => by rw [HN1.out]; exact add_lists W _ [45] (by omega) (by simp)
          have s2 : ∀ W, (Op.stringOp .add ⟨N1.toArray⟩ ⟨E.toArray⟩).run Tryz.prog W = .ok (.string ⟨N2.toArray⟩) W := fun W => by rw [HN2.out]; exact add_lists W N1 E (by omega) (by omega)
          first | unfold sha1L at d1 B1 hO1 hbx s1 | unfold sha256L at d1 B1 hO1 hbx s1 | unfold sha512L at d1 B1 hO1 hbx s1
          obtain ⟨x0, x1⟩ := cells2 hbx
          go_wp2_with fail
          go_region_law ((first
            | (go_simp; go_at_call 196; (with_reducible refine (HC2.out _).mono ?_); rintro e w3 ⟨rfl, hb3⟩; have y0 := keepC (W := World.drew _) hb3 x0; have S3 := hO1.drew.below hb3; have z3 : w.heap.size ≤ w3.heap.size := Nat.le_trans B1.size hb3.size)
            | (refine step_append_one (by rfl) _ _ (by rfl) w.heap.size _ _ (by rfl) (S3.alloc _) N2 w3.heap.size 1 _ _ (by rfl) (heap_alloc_new w3 _) (by omega) (by simp; omega) ?_; intro g4 c4 w5 hS5 hg5 hl5)))
          all_goals
            have B3 := (B1.trans (below_drew _ _)).trans (hb3.mono B1.size)
            have B5 := (B3.alloc B3.size _).grown hg5 (by simp; omega) (fun j hj => HOW.out j hj)
            go_wp2_with fail
            go_roundw
            case rel => exact ⟨k + 1, _, by omega, by go_num, hS5, by simp; omega, HN, B5⟩
            case measure => simp [intOf]; omega
      · have ha' : algOk al = false := by simpa using ha
        have HN : Hid (wordsB (bs.take (k + 1)) = ws) := Lib.hid (by rw [HT3.out ha', HO.out])
        obtain ⟨h1, h2, h3⟩ : ¬ al = sha1L ∧ ¬ al = sha256L ∧ ¬ al = sha512L := by
          rcases hways with ⟨_, h⟩ | ⟨_, h⟩ | ⟨_, h⟩ | ⟨h1, h2, h3, _⟩
          · rw [ha'] at h; cases h
          · rw [ha'] at h; cases h
          · rw [ha'] at h; cases h
          · exact ⟨h1, h2, h3⟩
        have q1 : (al == [115, 104, 97, 49]) = false := by simpa [sha1L] using h1
        have q2 : (al == [115, 104, 97, 50, 53, 54]) = false := by simpa [sha256L] using h2
        have q4 : (al == [115, 104, 97, 53, 49, 50]) = false := by simpa [sha512L] using h3
        clear ha ha' hways HT1 HT3 h1 h2 h3
        go_wp2_with fail
        go_roundw
        case rel => exact ⟨k + 1, ws, by omega, by go_num, hO1, by omega, HN, B1⟩
        case measure => simp [intOf]; omega
    · have HE : Hid (intT bs = Lib.join ws [32]) := Lib.hid (by unfold intT; rw [← HO.out, List.take_of_length_le (by omega)])
      have hjl := intT_len bs
      rw [HE.out] at hjl
      have HJ := Lib.hid (joinAll_any wr w.heap.size _ ws [32] hO (by omega) (by have := HS.out; unfold SmB at this; omega))
      obtain ⟨J, HJJ⟩ : ∃ J, Hid (Lib.join ws [32] = J) := ⟨_, Lib.hid rfl⟩
      rw [HJJ.out] at HJ HE
      clear hjl
      go_wp2_with fail
      refine HJ.out.mono ?_
      rintro e w1 ⟨rfl, hb1⟩
      go_wp2_with fail
      go_ret
      exact ⟨ret_str HE.out.symm, hb.trans (hb1.mono hb.size)⟩
end Go.Proofs.YtnodhkjgnegkcaaGreatDoor
