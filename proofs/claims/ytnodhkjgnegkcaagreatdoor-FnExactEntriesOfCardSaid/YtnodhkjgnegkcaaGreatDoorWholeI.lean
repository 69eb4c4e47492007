/-
  The test of a bound, called: impl.testOf$1.
-/
import Derived.Test.YtnodhkjgnegkcaaGreatDoorWholeC
import Derived.Test.YtnodhkjgnegkcaaGreatDoorWholeH
import Derived.Deep.AppendLies
import Derived.Test.YtnodhkjgnegkcaaGreatDoorWholeG
import Derived.Test.YtnodhkjgnegkcaaGreatDoorWholeB
import Derived.Test.YtnodhkjgnegkcaaGreatDoorWholeD
import Derived.Outline
import Derived.RangeFuncFrom
import Derived.RangeFuncBox
import Derived.Test.YtnodhkjgnegkcaaGreatDoorCmpS
import Derived.Deep.RegionWith
import Derived.Test.YtnodhkjgnegkcaaGreatDoorLawB
import Derived.LoopN
import Derived.Test.YtnodhkjgnegkcaaGreatDoorWholeF
/-
  append of a bound onto a row of the call's own.
-/
namespace Go.Proofs.YtnodhkjgnegkcaaGreatDoor
open Go.RowKit

set_option maxRecDepth 100000 in
theorem run_append_bd (w : World) (ty : TypeId) (base : Nat) (v : Value) (l : List Bd) (hown : Bnds w base v l) (x : Bd) (B c : Nat) (t : TypeId) (fr : Nat × Nat)
    (hblk : w.heap[B]? = some (.cells #[sv x.1, sv x.2] t fr)) (hlen : l.length + 1 ≤ 16777216) (hbase : base ≤ w.heap.size) :
    ∃ g cap w', (Builtin.append_ #[111, 111] ty #[v, .slice (some ⟨B, 0, none⟩) 1 c]).run Tryz.prog w = .ok (.slice (some ⟨g, 0, none⟩) (l.length + 1) cap) w' ∧ Bnds w' base (.slice (some ⟨g, 0, none⟩) (l.length + 1) cap) (l ++ [x]) ∧ w.grownBy w' v.ownBlock ∧ (v.ownBlock = some g ∨ g = w.heap.size) := by
  obtain ⟨i0, hi, hz0, hz1, hz2⟩ := info_parts bndinfo
  obtain ⟨g, cap, w', hr, h2, h3, h4, _⟩ := run_append_lies (P := Tryz.prog) w 111 ty base 166 i0 (.agg #[.string ⟨#[]⟩, .string ⟨#[]⟩]) 2 32 Tryz.underlying111 hi hz0 hz1 hz2 rfl (by decide) v l.length (flat2 l) hown
    ⟨B, 0, none⟩ 1 c [sv x.1, sv x.2] (by simp) (World.news_of_block hblk) (by intro u hu; simp at hu; rcases hu with rfl | rfl <;> rfl) (by omega) (by unfold maxLen; omega) (by omega) hbase _ rfl
  refine ⟨g, cap, w', hr, ?_, h3, h4⟩
  unfold Bnds
  rw [List.length_append, flat2_app]
  exact h2
/-- append(bounds, b) at a plain region's list. -/
theorem wpList_append_bd {w : World} {ops : Array Oper} {rest : List Oper} {o : Oper} {a : Act} {Q : Exit → Act → World → Prop} (hgd : o.guard = none) (s x : Operand)
    (ho : o.op = .call { callee := .builtin .append, args := #[s, x], argTypes := #[111, 111] })
    (base : Nat) (v : Value) (l : List Bd) (hs : a.eval s = v) (hown : Bnds w base v l) (y : Bd) (B c : Nat) (t : TypeId) (fr : Nat × Nat)
    (hx : a.eval x = .slice (some ⟨B, 0, none⟩) 1 c) (hblk : w.heap[B]? = some (.cells #[sv y.1, sv y.2] t fr)) (hlen : l.length + 1 ≤ 16777216) (hbase : base ≤ w.heap.size)
    (h : ∀ g cap w', Bnds w' base (.slice (some ⟨g, 0, none⟩) (l.length + 1) cap) (l ++ [y]) → w.grownBy w' v.ownBlock → (v.ownBlock = some g ∨ g = w.heap.size) → wpList Tryz.prog ops Q rest (a.put o.dst (.slice (some ⟨g, 0, none⟩) (l.length + 1) cap)) w') : wpList Tryz.prog ops Q (o :: rest) a w := by
  refine wpList_plain hgd fun _ hK => ?_
  obtain ⟨g, cap, w', hr, h2, h3, h4⟩ := run_append_bd w o.type base v l hown y B c t fr hblk hlen hbase
  unfold Oper.wp execOp
  simp only [ho, resolve, invoke, builtin, Sem.run_bind, Sem.run_pure, Result.andThen_ok, List.map_toArray, List.map_cons, List.map_nil, hs, hx, hr]
  exact hK _ _ (h g cap w' h2 h3 h4)
theorem Bnds.empty (w : World) (base : Nat) (hb : base ≤ w.heap.size) : Bnds (w.alloc (.cells #[] 166)) base (.slice (some ⟨w.heap.size, 0, none⟩) 0 0) [] := by
  have h := World.ownsRow_lit (base := base) (e := 166) (size := 2) w #[] 0 hb (by unfold maxLen; omega) (by simp)
  simpa [Bnds, flat2] using h
theorem Bnds.slice {w : World} {base : Nat} {v : Value} {l : List Bd} (h : Bnds w base v l) : ∃ A c, v = .slice A l.length c := by
  rcases h.form with ⟨rfl, rfl⟩ | ⟨g, cap, rfl, _, _⟩
  · exact ⟨_, _, rfl⟩
  · exact ⟨_, _, rfl⟩
end Go.Proofs.YtnodhkjgnegkcaaGreatDoor

/-
  spec.ReadRange, impl.ReadRange: the bounds of a text.
-/
namespace Go.Proofs.YtnodhkjgnegkcaaGreatDoor
open Go.RowKit

theorem splitK_mem (sep : List UInt8) : ∀ (k : Nat) (s : List UInt8), ∀ x ∈ Lib.splitK sep 0 k s, x.length ≤ s.length
  | 0, s, x, h => by simp [Lib.splitK] at h; simp [h]
  | k + 1, s, x, h => by
    unfold Lib.splitK at h
    split at h
    · simp at h; simp [h]
    · rcases List.mem_cons.1 h with rfl | h
      · simp; omega
      · have := splitK_mem sep k _ x h
        simp at this; omega
theorem rgPs_mem (l : List UInt8) : ∀ x ∈ rgPs l, x.length ≤ l.length := fun x hx => splitK_mem orSep _ l x hx
theorem splitK_len (sep : List UInt8) : ∀ (k : Nat) (s : List UInt8), (Lib.splitK sep 0 k s).length ≤ k + 1
  | 0, s => by simp [Lib.splitK]
  | k + 1, s => by
    unfold Lib.splitK
    split
    · simp
    · have := splitK_len sep k (s.drop ((Lib.index s sep).toNat + sep.length))
      simp; omega
theorem rg_no1 {l : List UInt8} (h : ¬ l.length ≤ 200) : rgOk l = false := by unfold rgOk; rw [decide_eq_false h]; rfl
theorem rg_no2 {l : List UInt8} (h : ¬ (rgPs l).length ≤ 8) : rgOk l = false := by unfold rgOk; rw [decide_eq_false h]; simp
theorem rg_no3 {l : List UInt8} (k : Nat) (hk : k < (rgPs l).length) (h : altOk (rgPs l)[k] = false) : rgOk l = false := by
  unfold rgOk
  have : (rgPs l).all altOk = false := by
    rw [Bool.eq_false_iff]; intro ha
    have := List.all_eq_true.1 ha _ (List.getElem_mem hk)
    rw [h] at this; cases this
  rw [this]; simp
theorem rg_yes {l : List UInt8} (h1 : l.length ≤ 200) (h2 : (rgPs l).length ≤ 8) (h3 : (rgPs l).all altOk = true) : rgOk l = true := by unfold rgOk; simp [h1, h2]; simpa using h3
/-- What ReadRange hands back. -/
def RgIs (w : World) (l : List UInt8) (e : Ending) (w' : World) : Prop := ∃ u, e = .returned (.tuple #[u, .bool (rgOk l)]) ∧ Bnds w' w.heap.size u (rgB l) ∧ Below w.heap.size w w'
theorem rgIs_bad {w w' : World} {l : List UInt8} {u : Value} (h : rgOk l = false) (hS : Bnds w' w.heap.size u []) (hb : Below w.heap.size w w') : RgIs w l (.returned (.tuple #[u, .bool false])) w' :=
  ⟨u, by rw [h], by unfold rgB; rw [if_neg (by rw [h]; simp)]; exact hS, hb⟩
theorem rgIs_good {w w' : World} {l : List UInt8} {u : Value} (h : rgOk l = true) (hS : Bnds w' w.heap.size u ((rgPs l).map altB)) (hb : Below w.heap.size w w') : RgIs w l (.returned (.tuple #[u, .bool true])) w' :=
  ⟨u, by rw [h], by unfold rgB; rw [if_pos h]; exact hS, hb⟩
theorem Bnds.emptyAt (W : World) (base n : Nat) (hn : W.heap.size = n) (hb : base ≤ n) : Bnds (W.alloc (.cells #[] 166)) base (.slice (some ⟨n, 0, none⟩) 0 0) [] := by subst hn; exact Bnds.empty W base hb
theorem own_some {g : Nat} {n c : Nat} : ∀ b, (Value.slice (some ⟨g, 0, none⟩) n c).ownBlock = some b → b = g := fun b h => by simp [Value.ownBlock] at h; exact h.symm

theorem rds_alloc2 {w : World} {base : Nat} {v : Value} {l : List (List UInt8)} (h : Strs w base v l) (o1 o2 : Obj) : Strs ((w.alloc o1).alloc o2) base v l := (h.alloc o1).alloc o2

set_option maxRecDepth 100000 in
set_option maxHeartbeats 4000000 in
theorem specReadRange_any (l : List UInt8) (w : World) (hl : l.length ≤ 1048576) :
    Calls Tryz.prog 88 #[.string ⟨l.toArray⟩] w (RgIs w l) := by
  obtain ⟨s, hs⟩ : ∃ s : ByteArray, s = ⟨l.toArray⟩ := ⟨_, rfl⟩
  have hd : s.data.toList = l := by rw [hs]
  have hz : s.size = l.length := by rw [hs]; exact size_of l
  have HP := Lib.hid (fun (W : World) => l03Parts_any s W (by omega))
  rw [hd] at HP
  rw [← hs]
  have HMEM := Lib.hid (rgPs_mem l)
  have hpl : (rgPs l).length ≤ l.length + 1 + 1048576 := by
    have := splitK_len orSep (Lib.count l orSep) l
    have h2 : Lib.count l orSep ≤ l.length := by
      have := Lib.countB_le ⟨#[32, 124, 124, 32]⟩ (by decide) s.size s (Nat.le_refl _)
      rw [hz] at this
      have e : Lib.countB s ⟨#[32, 124, 124, 32]⟩ = Lib.count l orSep := by rw [← hd]; rfl
      rw [e] at this; exact this
    unfold rgPs Lib.split; omega
  have HN1 := Lib.hid (fun h => rg_no1 (l := l) h)
  have HN2 := Lib.hid (fun h => rg_no2 (l := l) h)
  have HN3 := Lib.hid (fun (k : Nat) (hk : k < (rgPs l).length) h => rg_no3 (l := l) k hk h)
  have HY := Lib.hid (fun h1 h2 h3 => rg_yes (l := l) h1 h2 h3)
  have HB1 := Lib.hid (fun (w' : World) (u : Value) (h : rgOk l = false) (hS : Bnds w' w.heap.size u []) (hb : Below w.heap.size w w') => rgIs_bad h hS hb)
  have HB2 := Lib.hid (fun (w' : World) (u : Value) (h : rgOk l = true) (hS : Bnds w' w.heap.size u ((rgPs l).map altB)) (hb : Below w.heap.size w w') => rgIs_good h hS hb)
  have hL : l.length = s.size := hz.symm
  rw [hL] at HMEM HN1 HY hpl hl
  generalize rgPs l = ps at HP HMEM HN2 HN3 HY HB2 hpl
  generalize rgOk l = ok at HN1 HN2 HN3 HY HB1 HB2
  generalize RgIs w l = RI at HB1 HB2 ⊢
  clear hs hd hz hL
  have B1 : Below w.heap.size w (w.alloc (.cells #[] 166)) := (Below.refl _ _).alloc (Nat.le_refl _) _
  have hown := Bnds.empty w w.heap.size (Nat.le_refl _)
  by_cases hbig : 200 < s.size
  · go_enter Tryz.func88, Tryz.ntmps88
    go_wp2_with fail
    refine (HP.out _).mono ?_
    rintro e w1 ⟨g, cap, rfl, hS, hb1⟩
    go_wp2_with fail
    exact HB1.out _ _ (HN1.out (by omega)) (hown.below hb1) (B1.trans (hb1.mono B1.size))
  by_cases h8 : 8 < ps.length
  · go_enter Tryz.func88, Tryz.ntmps88
    go_wp2_with fail
    refine (HP.out _).mono ?_
    rintro e w1 ⟨g, cap, rfl, hS, hb1⟩
    go_wp2_with fail
    exact HB1.out _ _ (HN2.out (by omega)) (hown.below hb1) (B1.trans (hb1.mono B1.size))
  have HA := Lib.hid (fun (k : Nat) (hk : k < ps.length) (W : World) => l03Part_any ps[k] W (by have := HMEM.out _ (List.getElem_mem hk); omega))
  go_enter Tryz.func88, Tryz.ntmps88
  go_wp2_with fail
  refine (HP.out _).mono ?_
  rintro e w1 ⟨g, cap, rfl, hS, hb1⟩
  have hgw : w.heap.size < g := by have := hS.lo; simp at this; omega
  have B2 := B1.trans (hb1.mono B1.size)
  have hown2 := hown.below hb1
  clear hb1 B1 hown HP
  go_wp2_with fail
  go_loopw [4, 6] (fun v i wr => ∃ k : Nat, k ≤ ps.length ∧ i = .int .i64 k ∧ Bnds wr w.heap.size v ((ps.take k).map altB) ∧ (∀ b, v.ownBlock = some b → b ≠ g) ∧ Hid ((ps.take k).all altOk = true) ∧ Strs wr (w.heap.size + 1) (.slice (some ⟨g, 0, none⟩) ps.length cap) ps ∧ Below w.heap.size w wr) (fun _ i _ => ps.length - (intOf i).toNat)
  case atStart => exact ⟨0, Nat.zero_le _, rfl, by simpa using hown2, fun b hb => by have := own_some b hb; omega, Lib.hid rfl, by simpa using hS, B2⟩
  case round =>
    obtain ⟨k, hk, rfl, hB, hne, HAL, hSr, hb⟩ := hrel
    clear hS hown2 B2
    obtain ⟨V, vc, rfl⟩ := hB.slice
    have hlen : ((ps.take k).map altB).length = k := by simp; omega
    rw [hlen] at hB hne
    by_cases hlt : k < ps.length
    · have d := hSr.cell k hlt
      have k0 : (0 : Int) ≤ (k : Int) := by omega
      have k1 : (k : Int) < (ps.length : Int) := by omega
      have HAK := Lib.hid (fun (W : World) => HA.out k hlt W)
      have HX3 := Lib.hid (HN3.out k hlt)
      have HTK : Hid ((ps.take (k + 1)).map altB = (ps.take k).map altB ++ [altB ps[k]]) := Lib.hid (by rw [List.take_succ_eq_append_getElem hlt, List.map_append]; rfl)
      have HAS : Hid (altOk ps[k] = true → (ps.take (k + 1)).all altOk = true) := Lib.hid (fun h => by rw [List.take_succ_eq_append_getElem hlt, List.all_append, HAL.out]; simp [h])
      generalize altOk ps[k] = ak at HAK HX3 HAS
      generalize altB ps[k] = ab at HAK HTK
      clear HN3 HA
      rw [hlen]
      cases ak with
      | false =>
        go_wp2_with fail
        refine (HAK.out _).mono ?_
        rintro e w3 ⟨x, y, rfl, hxy, hb3⟩
        have B3 := hb.trans (hb3.mono hb.size)
        have B4 := B3.alloc B3.size (.cells #[.string x, .string y] 166)
        go_wp2_with fail
        exact HB1.out _ _ (HX3.out (by trivial)) (Bnds.emptyAt _ _ _ (by simp) (by have := B3.size; omega)) (B4.alloc B4.size _)
      | true =>
        go_wp2_with fail
        refine (HAK.out _).mono ?_
        rintro e w3 ⟨x, y, rfl, hxy, hb3⟩
        obtain ⟨rfl, rfl⟩ := hxy rfl
        have B3 := hb.trans (hb3.mono hb.size)
        have hB3 := hB.below hb3
        have hS3 := hSr.below hb3
        clear hb3 hb hB hSr hxy d
        go_wp2_with (at_builtin; refine wpList_append_bd rfl _ _ rfl w.heap.size _ ((ps.take k).map altB) rfl ((hB3.alloc _).alloc _) ab (w3.heap.size + 1) _ _ _ rfl (heap_new (by simp) _) (by rw [hlen]; omega) (by have := B3.size; simp; omega) ?_; intro g5 cap5 w5 hown5 hb5 hor5)
        have B5 := ((B3.alloc B3.size (.cells #[.string ⟨ab.1.toArray⟩, .string ⟨ab.2.toArray⟩] 166)).alloc (by have := B3.size; simp; omega) (.cells #[.string ⟨ab.1.toArray⟩, .string ⟨ab.2.toArray⟩] 166))
        have B6 := gr_belowN B5 hb5 B5.size (fun b hb => hB3.owned b hb)
        have hS5 := (((rds_alloc2 hS3 _ _)).grown hb5 (fun b hbb e => hne b e.symm (by have := own_some b hbb; exact this)))
        have hg5 : ∀ b, (Value.slice (some ⟨g5, 0, none⟩) (k + 1) cap5).ownBlock = some b → b ≠ g := fun b hbb e => by
          have e1 := own_some b hbb
          rcases hor5 with h5 | h5
          · exact hne g5 h5 (by omega)
          · have hg3 := hS3.block_lt g rfl
            simp at h5; omega
        clear hb5 hor5 B5 B3 hB3 hS3 hne
        go_wp2_with fail
        go_roundw
        case rel => exact ⟨k + 1, by omega, by go_num, by rw [HTK.out]; rw [hlen] at hown5; exact hown5, hg5, Lib.hid (HAS.out (by trivial)), hS5, B6⟩
        case measure => simp [intOf]; omega
    · obtain rfl : k = ps.length := by omega
      have HFIN := Lib.hid (HAL.out)
      rw [List.take_length] at HFIN hB
      go_wp2_with fail
      exact HB2.out _ _ (HY.out (by omega) (by omega) HFIN.out) (by rw [hlen]; exact hB) hb

set_option maxRecDepth 100000 in
set_option maxHeartbeats 4000000 in
theorem implReadRange_any (l : List UInt8) (m : Int) (w : World) (hl : l.length ≤ 1048576) (ht : Tab w) (hm : w.cell? ⟨0, 0, none⟩ = some (.int .i64 m)) :
    Calls Tryz.prog 153 #[.string ⟨l.toArray⟩] w (RgIs w l) := by
  obtain ⟨s, hs⟩ : ∃ s : ByteArray, s = ⟨l.toArray⟩ := ⟨_, rfl⟩
  have hd : s.data.toList = l := by rw [hs]
  have hz : s.size = l.length := by rw [hs]; exact size_of l
  have HP := Lib.hid (fun (W : World) (h : Below w.heap.size w W) => split_any s m W (by omega) (keepC h hm))
  rw [hd] at HP
  rw [← hs]
  have HMEM := Lib.hid (rgPs_mem l)
  have hpl : (rgPs l).length ≤ l.length + 1 + 1048576 := by
    have := splitK_len orSep (Lib.count l orSep) l
    have h2 : Lib.count l orSep ≤ l.length := by
      have := Lib.countB_le ⟨#[32, 124, 124, 32]⟩ (by decide) s.size s (Nat.le_refl _)
      rw [hz] at this
      have e : Lib.countB s ⟨#[32, 124, 124, 32]⟩ = Lib.count l orSep := by rw [← hd]; rfl
      rw [e] at this; exact this
    unfold rgPs Lib.split; omega
  have HN1 := Lib.hid (fun h => rg_no1 (l := l) h)
  have HN2 := Lib.hid (fun h => rg_no2 (l := l) h)
  have HN3 := Lib.hid (fun (k : Nat) (hk : k < (rgPs l).length) h => rg_no3 (l := l) k hk h)
  have HY := Lib.hid (fun h1 h2 h3 => rg_yes (l := l) h1 h2 h3)
  have HB1 := Lib.hid (fun (w' : World) (u : Value) (h : rgOk l = false) (hS : Bnds w' w.heap.size u []) (hb : Below w.heap.size w w') => rgIs_bad h hS hb)
  have HB2 := Lib.hid (fun (w' : World) (u : Value) (h : rgOk l = true) (hS : Bnds w' w.heap.size u ((rgPs l).map altB)) (hb : Below w.heap.size w w') => rgIs_good h hS hb)
  have hL : l.length = s.size := hz.symm
  rw [hL] at HMEM HN1 HY hpl hl
  generalize rgPs l = ps at HP HMEM HN2 HN3 HY HB2 hpl
  generalize rgOk l = ok at HN1 HN2 HN3 HY HB1 HB2
  generalize RgIs w l = RI at HB1 HB2 ⊢
  clear hs hd hz hL
  by_cases hbig : 200 < s.size
  · have B1 : Below w.heap.size w (w.alloc (.cells #[] 166)) := (Below.refl _ _).alloc (Nat.le_refl _) _
    have hown := Bnds.empty w w.heap.size (Nat.le_refl _)
    go_enter Tryz.func153, Tryz.ntmps153
    go_wp2_with fail
    exact HB1.out _ _ (HN1.out (by omega)) hown B1
  have HA := Lib.hid (fun (k : Nat) (hk : k < ps.length) (W : World) (h : Below w.heap.size w W) => readAlternative_any ps[k] m W (by have := HMEM.out _ (List.getElem_mem hk); omega) (tab_below ht h) (keepC h hm))
  have B1 : Below w.heap.size w (w.alloc (.cells #[] 166)) := (Below.refl _ _).alloc (Nat.le_refl _) _
  have hown := Bnds.empty w w.heap.size (Nat.le_refl _)
  clear ht hm
  go_enter Tryz.func153, Tryz.ntmps153
  go_wp2_with fail
  refine (HP.out _ B1).mono ?_
  rintro e w1 ⟨g, cap, rfl, hS, hb1⟩
  have hgw : w.heap.size < g := by have := hS.lo; simp at this; omega
  have B2 := B1.trans (hb1.mono B1.size)
  have hown2 := hown.below hb1
  clear hb1 B1 hown HP
  go_wp2_with fail
  go_loopw [4, 17] (fun v i wr => ∃ k : Nat, k ≤ ps.length ∧ i = .int .i64 k ∧ Bnds wr w.heap.size v ((ps.take k).map altB) ∧ (∀ b, v.ownBlock = some b → b ≠ g) ∧ Hid ((ps.take k).all altOk = true) ∧ Strs wr (w.heap.size + 1) (.slice (some ⟨g, 0, none⟩) ps.length cap) ps ∧ Below w.heap.size w wr ∧ k ≤ 8) (fun _ i _ => ps.length - (intOf i).toNat)
  case atStart => exact ⟨0, Nat.zero_le _, rfl, by simpa using hown2, fun b hb => by have := own_some b hb; omega, Lib.hid rfl, by simpa using hS, B2, by omega⟩
  case round =>
    obtain ⟨k, hk, rfl, hB, hne, HAL, hSr, hb, hk8⟩ := hrel
    clear hS hown2 B2
    obtain ⟨V, vc, rfl⟩ := hB.slice
    have hlen : ((ps.take k).map altB).length = k := by simp; omega
    rw [hlen] at hB hne
    by_cases hlt : k < ps.length
    · have d := hSr.cell k hlt
      have k0 : (0 : Int) ≤ (k : Int) := by omega
      have k1 : (k : Int) < (ps.length : Int) := by omega
      have HAK := Lib.hid (fun (W : World) (h : Below w.heap.size w W) => HA.out k hlt W h)
      have HX3 := Lib.hid (HN3.out k hlt)
      have HTK : Hid ((ps.take (k + 1)).map altB = (ps.take k).map altB ++ [altB ps[k]]) := Lib.hid (by rw [List.take_succ_eq_append_getElem hlt, List.map_append]; rfl)
      have HAS : Hid (altOk ps[k] = true → (ps.take (k + 1)).all altOk = true) := Lib.hid (fun h => by rw [List.take_succ_eq_append_getElem hlt, List.all_append, HAL.out]; simp [h])
      generalize altOk ps[k] = ak at HAK HX3 HAS
      generalize altB ps[k] = ab at HAK HTK
      clear HN3 HA
      rw [hlen]
      cases ak with
      | false =>
        go_wp2_with fail
        refine (HAK.out _ hb).mono ?_
        rintro e w3 ⟨x, y, rfl, hxy, hb3⟩
        have B3 := hb.trans (hb3.mono hb.size)
        have B4 := B3.alloc B3.size (.cells #[.string x, .string y] 166)
        go_wp2_with fail
        exact HB1.out _ _ (HX3.out (by trivial)) (Bnds.emptyAt _ _ _ (by simp) (by have := B3.size; omega)) (B4.alloc B4.size _)
      | true =>
        by_cases hk9 : k = 8
        · have HX8 : Hid (ok = false) := Lib.hid (HN2.out (by omega))
          have b8 : ((k : Int) == 8) = true := by rw [hk9]; rfl
          have HK9 := Lib.hid hk9
          clear hk9
          go_wp2_with fail
          refine (HAK.out _ hb).mono ?_
          rintro e w3 ⟨x, y, rfl, hxy, hb3⟩
          obtain ⟨rfl, rfl⟩ := hxy rfl
          have B3 := hb.trans (hb3.mono hb.size)
          have B4 := B3.alloc B3.size (.cells #[.string ⟨ab.1.toArray⟩, .string ⟨ab.2.toArray⟩] 166)
          go_wp2_with fail
          exact HB1.out _ _ HX8.out (Bnds.emptyAt _ _ _ (by simp) (by have := B3.size; omega)) (B4.alloc B4.size _)
        have b8 : ((k : Int) == 8) = false := int_beq_false (by omega)
        go_wp2_with fail
        refine (HAK.out _ hb).mono ?_
        rintro e w3 ⟨x, y, rfl, hxy, hb3⟩
        obtain ⟨rfl, rfl⟩ := hxy rfl
        have B3 := hb.trans (hb3.mono hb.size)
        have hB3 := hB.below hb3
        have hS3 := hSr.below hb3
        clear hb3 hb hB hSr hxy d
        go_wp2_with (at_builtin; refine wpList_append_bd rfl _ _ rfl w.heap.size _ ((ps.take k).map altB) rfl ((hB3.alloc _).alloc _) ab (w3.heap.size + 1) _ _ _ rfl (heap_new (by simp) _) (by rw [hlen]; omega) (by have := B3.size; simp; omega) ?_; intro g5 cap5 w5 hown5 hb5 hor5)
        have B5 := ((B3.alloc B3.size (.cells #[.string ⟨ab.1.toArray⟩, .string ⟨ab.2.toArray⟩] 166)).alloc (by have := B3.size; simp; omega) (.cells #[.string ⟨ab.1.toArray⟩, .string ⟨ab.2.toArray⟩] 166))
        have B6 := gr_belowN B5 hb5 B5.size (fun b hb => hB3.owned b hb)
        have hS5 := (((rds_alloc2 hS3 _ _)).grown hb5 (fun b hbb e => hne b e.symm (by have := own_some b hbb; exact this)))
        have hg5 : ∀ b, (Value.slice (some ⟨g5, 0, none⟩) (k + 1) cap5).ownBlock = some b → b ≠ g := fun b hbb e => by
          have e1 := own_some b hbb
          rcases hor5 with h5 | h5
          · exact hne g5 h5 (by omega)
          · have hg3 := hS3.block_lt g rfl
            simp at h5; omega
        clear hb5 hor5 B5 B3 hB3 hS3 hne
        go_wp2_with fail
        go_roundw
        case rel => exact ⟨k + 1, by omega, by go_num, by rw [HTK.out]; rw [hlen] at hown5; exact hown5, hg5, Lib.hid (HAS.out (by trivial)), hS5, B6, by omega⟩
        case measure => simp [intOf]; omega
    · obtain rfl : k = ps.length := by omega
      have HFIN := Lib.hid (HAL.out)
      rw [List.take_length] at HFIN hB
      go_wp2_with fail
      exact HB2.out _ _ (HY.out (by omega) (by omega) HFIN.out) (by rw [hlen]; exact hB) hb
end Go.Proofs.YtnodhkjgnegkcaaGreatDoor

/-
  The bounds of a range's text are few and short.
-/
namespace Go.Proofs.YtnodhkjgnegkcaaGreatDoor
open Go.RowKit

theorem smB_bound {bs : List Bd} {M : Nat} (h : ∀ b ∈ bs, b.1.length + b.2.length ≤ M) : smB bs ≤ bs.length * M := by
  induction bs with
  | nil => simp [smB]
  | cons a t ih =>
    have e2 : smB (a :: t) = a.1.length + a.2.length + smB t := by simp [smB]
    have h1 := h a (by simp)
    have h2 := ih (fun b hb => h b (by simp [hb]))
    rw [e2, List.length_cons, Nat.add_mul]; omega
theorem altB_le (l : List UInt8) : (altB l).1.length + (altB l).2.length ≤ 2 * l.length + 400 := by
  have hz : ∀ n, (zrs n).length ≤ 4 := fun n => by unfold zrs; split <;> simp
  unfold altB
  split
  · simp
  · split
    · unfold fromB; have := rsd_le (readA (l.drop 1) 0) (readA (l.drop 1) 1) (readA (l.drop 1) 2) (crt (l.drop 1)); simp only [List.length_drop]; omega
    · split
      · unfold fromB; have := rsd_le (readA (l.drop 1) 0) (readA (l.drop 1) 1) (readA (l.drop 1) 2) 1; simp only [List.length_drop]; omega
      · split
        · unfold lmB
          split
          · have h1 := cutA_le 32 l
            have h2 := cutB_le 32 l
            simp; omega
          · split <;> simp <;> omega
        · split
          · unfold fromB
            have h1 := hz (l.count 46)
            have := rsd_le (readA (l ++ zrs (l.count 46)) 0) (readA (l ++ zrs (l.count 46)) 1) (readA (l ++ zrs (l.count 46)) 2) (l.count 46)
            simp only [List.length_append]; omega
          · have := exHigh_le l
            show l.length + (exHigh l).length ≤ _; omega
theorem rgB_sm (l : List UInt8) : SmB (rgB l) := by
  have h8 := rgB_len l
  have hb : ∀ b ∈ rgB l, b.1.length + b.2.length ≤ 800 := fun b hb => by
    unfold rgB at hb
    split at hb
    · rename_i h
      unfold rgOk at h
      simp only [Bool.and_eq_true, decide_eq_true_eq] at h
      obtain ⟨p, hp, rfl⟩ := List.mem_map.1 hb
      have h1 := rgPs_mem l p hp
      have h2 := altB_le p
      omega
    · cases hb
  have := smB_bound hb
  unfold SmB
  have : (rgB l).length * 800 ≤ 8 * 800 := Nat.mul_le_mul_right _ h8
  omega
/-- Why an entry is not right. -/
theorem en_bad1 {e : En} {k : Nat} (hk : k < e.heads.length) (h : hdAtB e.ver e.heads k = false) : enOk e = false := by
  unfold enOk headsOkL; rw [allTo_bad hk h]; simp
theorem en_bad2 {e : En} {k : Nat} (hk : k < e.needs.length) (h : ndAtB e.needs k = false) : enOk e = false := by
  unfold enOk needsOkL; rw [allTo_bad hk h]; simp
theorem en_end {e : En} (h1 : allTo (hdAtB e.ver e.heads) e.heads.length = true) (h2 : allTo (ndAtB e.needs) e.needs.length = true) :
    enOk e = (inI e.heads.length 1 8 && (readOk e.ver && (getIntOk e.int && plainL e.res))) := by
  have hI : inI (e.heads.length : Int) 1 8 = decide (1 ≤ e.heads.length ∧ e.heads.length ≤ 8) := by
    unfold inI
    rw [Bool.eq_iff_iff]; simp; omega
  have hv : decide (1 ≤ e.heads.length ∧ e.heads.length ≤ 8) = true → readOk e.ver = true := fun h => heads_ver (hs := e.heads) (by unfold headsOkL; rw [h, h1]; rfl)
  unfold enOk needsOkL
  rw [h2, hI]
  unfold headsOkL
  rw [h1]
  cases hd : decide (1 ≤ e.heads.length ∧ e.heads.length ≤ 8)
  · simp
  · rw [hv hd]; cases getIntOk e.int <;> cases plainL e.res <;> rfl
/-- The k-th head's test as the specification makes it, all ahead of it being right. -/
theorem hdAtB_spec {ver : List UInt8} {hs : List Bd} {k : Nat} (hk : k < hs.length) (ha : allTo (hdAtB ver hs) k = true) :
    hdAtB ver hs k = (ndOk hs[k] && (decide (hs[k].1 = (hs[0]'(by omega)).1) && ((decide (k = 0) || Op.bytesLess (bdAt hs (k - 1)).2 hs[k].2) && inR ver (rgB hs[k].2)))) := by
  cases k with
  | zero =>
    rw [hdAtB_zero hk]
    cases ndOk hs[0] <;> cases inR ver (rgB hs[0].2) <;> simp
  | succ j =>
    rw [hdAtB_more hk, bdAt_is (by omega : j + 1 - 1 < hs.length)]
    have hj : j + 1 - 1 = j := by omega
    simp only [hj]
    have hn := heads_name ha j (by omega) (by omega)
    rw [hn]
    have e : ((hs[0]'(by omega)).1 == hs[j + 1].1) = decide (hs[j + 1].1 = (hs[0]'(by omega)).1) := by
      rw [Bool.eq_iff_iff]; simp; exact ⟨Eq.symm, Eq.symm⟩
    rw [e]
    cases ndOk hs[j + 1] <;> cases inR ver (rgB hs[j + 1].2) <;> cases decide (hs[j + 1].1 = (hs[0]'(by omega)).1) <;> cases Op.bytesLess hs[j].2 hs[j + 1].2 <;> simp
end Go.Proofs.YtnodhkjgnegkcaaGreatDoor

/-
  impl.NameOk returns whether a string is a package name, as spec.NameOk does.
-/
namespace Go.Proofs.YtnodhkjgnegkcaaGreatDoor
open Go.RowKit Go.Shelf
attribute [local go_sem] Oper.semAt_some

theorem name_waysI (z : Int) : lowI z = true ∨ (lowI z = false ∧ digI z = true) ∨ (lowI z = false ∧ digI z = false ∧ (z == 46) = true) ∨ (lowI z = false ∧ digI z = false ∧ (z == 46) = false ∧ (z == 95) = true) ∨ (lowI z = false ∧ digI z = false ∧ (z == 46) = false ∧ (z == 95) = false ∧ (z == 45) = true) ∨ (lowI z = false ∧ digI z = false ∧ (z == 46) = false ∧ (z == 95) = false ∧ (z == 45) = false) := by
  cases lowI z <;> cases digI z <;> simp <;> omega
theorem name_yesI {z : Int} (h : lowI z = true ∨ digI z = true ∨ (z == 46) = true ∨ (z == 95) = true ∨ (z == 45) = true) : nameI z = true := by
  unfold lowI digI at h; unfold nameI; simp at h ⊢; omega
theorem name_noI {z : Int} (h : lowI z = false ∧ digI z = false ∧ (z == 46) = false ∧ (z == 95) = false ∧ (z == 45) = false) : nameI z = false := by
  unfold lowI digI at h; unfold nameI; simp at h ⊢; omega

set_option maxRecDepth 100000 in
set_option maxHeartbeats 2000000 in
theorem componentOk_any (q : ByteArray) (w : World) (hq : q.size ≤ 1048576) : Calls Tryz.prog 204 #[.string q] w fun e w' => e = .returned (.bool (compL q.data.toList)) ∧ w = w' := by
  go_enter Tryz.func204, Tryz.ntmps204
  go_wp2
  go_loop [3, 6] (fun _ k => ∃ m : Nat, m ≤ q.size ∧ k = .int .i64 m ∧ Hid ((q.data.toList.take m).all nameB = true)) (fun _ k => q.size - (intOf k).toNat)
  case atStart => exact ⟨0, Nat.zero_le _, rfl, Lib.hid (by simp)⟩
  case round =>
    obtain ⟨m, hm, rfl, HA⟩ := hrel
    by_cases hml : m < q.size
    · have c1 := (byte_lt q[m]).1
      have c2 := (byte_lt q[m]).2
      rcases name_waysI (q[m].toNat : Int) with z | ⟨z, y⟩ | ⟨z, y, z1⟩ | ⟨z, y, z1, z2⟩ | ⟨z, y, z1, z2, z3⟩ | ⟨z, y, z1, z2, z3⟩
      case inl =>
        have HY := Lib.hid (all_go q m nameB hml HA.out (name_yesI (.inl z)))
        have HS := Lib.hid z
        clear z
        go_wp2_with fail
        refine (isLower_any _ _ c2 c1).mono ?_
        rw [HS.out]
        rintro e w' ⟨rfl, rfl⟩
        go_wp2_with (go_at_call 252; fail)
        go_round
        case rel => exact ⟨m + 1, by omega, by go_num, HY⟩
        case measure => simp [intOf]; omega
      case inr.inl =>
        have HY := Lib.hid (all_go q m nameB hml HA.out (name_yesI (.inr (.inl y))))
        have HS := Lib.hid z
        have HT := Lib.hid y
        clear z y
        go_wp2_with fail
        refine (isLower_any _ _ c2 c1).mono ?_
        rw [HS.out]
        rintro e w' ⟨rfl, rfl⟩
        go_wp2_with fail
        refine (isDigit_any _ _ c2 c1).mono ?_
        rw [HT.out]
        rintro e w' ⟨rfl, rfl⟩
        go_wp2_with fail
        go_round
        case rel => exact ⟨m + 1, by omega, by go_num, HY⟩
        case measure => simp [intOf]; omega
      case inr.inr.inr.inr.inr =>
        have HX := Lib.hid (compL_bad (all_no q m nameB hml (name_noI ⟨z, y, z1, z2, z3⟩)))
        have HS := Lib.hid z
        have HT := Lib.hid y
        have y1 := bne_of_beq z1
        have y2 := bne_of_beq z2
        have y3 := bne_of_beq z3
        clear z y z1 z2 z3
        go_wp2_with fail
        refine (isLower_any _ _ c2 c1).mono ?_
        rw [HS.out]
        rintro e w' ⟨rfl, rfl⟩
        go_wp2_with fail
        refine (isDigit_any _ _ c2 c1).mono ?_
        rw [HT.out]
        rintro e w' ⟨rfl, rfl⟩
        go_wp2_with fail
        go_ret
        exact ⟨ret_bool HX.out.symm, rfl⟩
      all_goals
        have HY := Lib.hid (all_go q m nameB hml HA.out (name_yesI (by simp only [z1] at *; first | exact .inr (.inr (.inl trivial)) | exact .inr (.inr (.inr (.inl z2))) | exact .inr (.inr (.inr (.inr z3))))))
        have HS := Lib.hid z
        have HT := Lib.hid y
        have y1 := bne_of_beq z1
        try have y2 := bne_of_beq z2
        try have y3 := bne_of_beq z3
        clear z y z1
        try clear z2
        try clear z3
        go_wp2_with fail
        refine (isLower_any _ _ c2 c1).mono ?_
        rw [HS.out]
        rintro e w' ⟨rfl, rfl⟩
        go_wp2_with fail
        refine (isDigit_any _ _ c2 c1).mono ?_
        rw [HT.out]
        rintro e w' ⟨rfl, rfl⟩
        go_wp2_with fail
        go_round
        case rel => exact ⟨m + 1, by omega, by go_num, HY⟩
        case measure => simp [intOf]; omega
    · have HA2 := HA.out
      rw [take_end q m hml] at HA2
      by_cases hqe : q.data.toList.isEmpty = true
      · have HX := Lib.hid (compL_empty hqe)
        have e9 : q.toList.isEmpty = true := by rw [ByteArray.toList_eq]; exact hqe
        clear hqe HA2
        go_wp2_with fail
        go_ret
        exact ⟨ret_bool HX.out.symm, rfl⟩
      · have hqe' : q.data.toList.isEmpty = false := by simpa using hqe
        have HX := Lib.hid (compL_good hqe' HA2)
        have e9 : q.toList.isEmpty = false := by rw [ByteArray.toList_eq]; exact hqe'
        clear hqe hqe' HA2
        go_wp2_with fail
        go_ret
        exact ⟨ret_bool HX.out.symm, rfl⟩
end Go.Proofs.YtnodhkjgnegkcaaGreatDoor

/-
  impl.NameOk returns whether a string is a package name, as spec.NameOk does.
-/
namespace Go.Proofs.YtnodhkjgnegkcaaGreatDoor
open Go.RowKit Go.Shelf
attribute [local go_sem] Oper.semAt_some

def partsOk (sc : Bool) : List (List UInt8) → Bool
  | [] => true
  | p :: ps => chk sc p && ps.all (chk false)
theorem partsOk_snoc (sc : Bool) (pre : List (List UInt8)) (x : List UInt8) : partsOk sc (pre ++ [x]) = (partsOk sc pre && chk (sc && pre.isEmpty) x) := by
  cases pre with
  | nil => simp [partsOk]
  | cons p ps => simp [partsOk, Bool.and_assoc]
theorem map_empty (pre : List Part) : (pre.map Subtype.val).isEmpty = pre.isEmpty := by cases pre <;> rfl
theorem partsOk_prefix {sc : Bool} {pre P : List (List UInt8)} (h : pre <+: P) (hb : partsOk sc pre = false) : partsOk sc P = false := by
  obtain ⟨t, rfl⟩ := h
  cases pre with
  | nil => simp [partsOk] at hb
  | cons p ps =>
    simp only [partsOk, List.cons_append, List.all_append] at hb ⊢
    rw [Bool.and_eq_false_iff] at hb ⊢
    rcases hb with hb | hb
    · exact .inl hb
    · right; rw [hb]; rfl

set_option maxRecDepth 100000 in
set_option maxHeartbeats 4000000 in
theorem implNameOk_plain (n : Nat) (hn : 4 ≤ n) (s r : ByteArray) (w : World) (h0 : 0 < s.size) (h60 : s.size ≤ 60) (e1 : ((s[0].toNat : Int) == 64) = false) (hsr : r = s) (hr : r.size ≤ 60) :
    CallsIn Fence.wide n Tryz.prog 161 #[.string s] w fun e W' => e = .returned (.bool (partsOk false (cutL 47 r.data.toList))) ∧ Below w.heap.size w W' := by
  have h1 : 1 ≤ n := by omega
  have hn2 : 1 ≤ n - 1 - 1 := by omega
  subst hsr
  have t1 : decide ((r.size : Int) < 1) = false := by simp; omega
  have t2 : decide ((60 : Int) < (r.size : Int)) = false := by simp; omega
  refine callsIn_of_wp_marks Tryz.func161 rfl trivial ?_ rfl
  simp only [Tryz.ntmps161, List.size_toArray, List.length_cons, List.length_nil, Nat.reduceAdd, Nat.reduceSub, Array.replicate_succ, Array.replicate_zero, List.push_toArray, List.append_toArray, List.nil_append, List.cons_append]
  gi_wp2_with (refine ⟨trivial, ?_⟩; gi_at_call 203; refine (partsOf_in _ _ _ _).mono ?_; rintro e w' ⟨rfl, rfl⟩)
  have b1 := Boxed.new w 4 (.bool false)
  have b2 := Boxed.new (w.alloc (.cells #[.bool false] 4)) 4 (.bool false)
  have b3 := Boxed.new ((w.alloc (.cells #[.bool false] 4)).alloc (.cells #[.bool false] 4)) 9 (.string r)
  have b4 := Boxed.new (((w.alloc (.cells #[.bool false] 4)).alloc (.cells #[.bool false] 4)).alloc (.cells #[.string r] 9)) 5 (.int .u8 47)
  simp only [World.size_alloc] at b2 b3 b4
  have hB0 : Below w.heap.size w ((((w.alloc (.cells #[.bool false] 4)).alloc (.cells #[.bool false] 4)).alloc (.cells #[.string r] 9)).alloc (.cells #[.int .u8 47] 5)) := ((((Below.refl _ w).alloc (Nat.le_refl _) _).alloc (by simp) _).alloc (by simp; omega) _).alloc (by simp; omega) _
  have b1' := ((b1.alloc (.cells #[.bool false] 4)).alloc (.cells #[.string r] 9)).alloc (.cells #[.int .u8 47] 5)
  have b2' := (b2.alloc (.cells #[.string r] 9)).alloc (.cells #[.int .u8 47] 5)
  have b3' := b3.alloc (.cells #[.int .u8 47] 5)
  clear b1 b2 b3
  obtain ⟨W0, hW0⟩ : ∃ W0, ((((w.alloc (.cells #[.bool false] 4)).alloc (.cells #[.bool false] 4)).alloc (.cells #[.string r] 9)).alloc (.cells #[.int .u8 47] 5)) = W0 := ⟨_, rfl⟩
  have hsz : W0.heap.size = w.heap.size + 4 := by rw [← hW0]; simp
  rw [hW0] at b1' b2' b3' b4 hB0 ⊢
  clear hW0
  have HSZ := Lib.hid hsz
  clear hsz
  refine wpIn_rangeFunc_ownF rfl h1 (gf := 250) (lb := #[.pointer (some ⟨w.heap.size + 1 + 1, 0, none⟩), .pointer (some ⟨w.heap.size + 1 + 1 + 1, 0, none⟩)]) rfl trivial (enters_of Tryz.func250 (by kernel_rfl) rfl)
    (parts_stops (n - 1) (by omega) (w.heap.size + 1 + 1) (w.heap.size + 1 + 1 + 1) r 47 (by omega) W0 (by rw [HSZ.out]; omega) (by rw [HSZ.out]; omega) b3' b4) kpB_t (kpB_b (by rw [HSZ.out]; omega) (by rw [HSZ.out]; omega)) (Below.refl _ _) (fun _ => rfl)
    (fun pre W => ((partsOk false (pre.map Subtype.val) = true ∧ Boxed W w.heap.size 4 (.bool false)) ∧ Boxed W (w.heap.size + 1) 4 (.bool (false && pre.isEmpty))) ∧ Below w.heap.size w W)
    (fun c pre W => ((c = .ret ∧ partsOk false (pre.map Subtype.val) = false) ∧ Boxed W w.heap.size 4 (.bool false)) ∧ Below w.heap.size w W)
    (OwnFrom.and (OwnFrom.and (OwnFrom.and (ownFrom_pure _ _) (Own.from (boxed_own _ _ _) _)) (Own.from (boxed_own _ _ _) _)) (ownFrom_below (Nat.le_refl _) (by rw [HSZ.out]; omega)))
    (fun c => OwnFrom.and (OwnFrom.and (ownFrom_pure _ _) (Own.from (boxed_own _ _ _) _)) (ownFrom_below (Nat.le_refl _) (by rw [HSZ.out]; omega)))
    ⟨⟨⟨rfl, b1'⟩, b2'⟩, hB0⟩
    (fun x => { tmps := #[.string r, undef, .pointer (some ⟨w.heap.size, 0, none⟩), .pointer (some ⟨w.heap.size + 1, 0, none⟩), .string ⟨x.1.toArray⟩, .string r, .int .i64 r.size, .bool false, .bool false, .string r, .int .i64 r.size, .bool false, .bool false, .string r, .int .u8 r[0].toNat, .bool false, .bool false, undef, undef, .string r, .func (.func 250) #[] #[.pointer (some ⟨w.heap.size + 1 + 1, 0, none⟩), .pointer (some ⟨w.heap.size + 1 + 1 + 1, 0, none⟩)], .string ⟨x.1.toArray⟩, undef, undef, undef, undef, undef, undef, undef, undef, undef, undef, undef], defers := [] }) ?assign ?body ?done ?stop
  case assign =>
    intro l x W K hK
    unfold partV
    gi_wp2
    exact hK
  case body =>
    rintro l pre x W ⟨⟨⟨hg, hR⟩, hC⟩, hB⟩ _
    have HG := Lib.hid hg
    have cR := hR.cell
    have fR := hR.frozen
    have cC := hC.cell
    have fC := hC.frozen
    obtain ⟨b, hbE⟩ : ∃ b : ByteArray, b = ⟨x.1.toArray⟩ := ⟨_, rfl⟩
    have hbl : b.data.toList = x.1 := by rw [hbE]
    have hbs : b.size ≤ 1048576 := by rw [hbE]; show x.1.toArray.size ≤ _; simpa using x.2
    rw [← hbE]
    have HBL := Lib.hid hbl
    have hIE : (false && (pre ++ [x]).isEmpty) = false := by simp
    have HSN : Hid (partsOk false ((pre ++ [x]).map Subtype.val) = chk (false && pre.isEmpty) x.1) := Lib.hid (by rw [List.map_append, List.map_cons, List.map_nil, partsOk_snoc, hg, map_empty]; rfl)
    have HK1 : Hid (∀ u, KpB (w.heap.size + 1 + 1) (w.heap.size + 1 + 1 + 1) W (W.setCell ⟨w.heap.size + 1, 0, none⟩ u)) := Lib.hid (fun u => ⟨Below.heap_setCell _ _ _ _ (by simp), Below.heap_setCell _ _ _ _ (by simp; omega)⟩)
    clear hg hbE hbl
    by_cases hcl : compL b.data.toList = true
    · have HCL := Lib.hid hcl
      by_cases hnm : (b.data.toList == nmL) = true
      · have e2 : (b.toList == [110, 111, 100, 101, 95, 109, 111, 100, 117, 108, 101, 115]) = true := by rw [ByteArray.toList_eq]; exact hnm
        have HCH : Hid (chk (false && pre.isEmpty) x.1 = (false && pre.isEmpty)) := Lib.hid (by rw [← HBL.out]; unfold chk; rw [hcl, hnm]; simp)
        clear hcl hnm
        cases hcur : (false && pre.isEmpty) with
        | true =>
          have HCU : Hid (partsOk false ((pre ++ [x]).map Subtype.val) = true) := Lib.hid (by rw [HSN.out, HCH.out, hcur])
          rw [hcur] at cC hC
          clear hcur
          gi_wp2_with (refine ⟨trivial, ?_⟩; gi_at_call 204; refine (CallsIn.inRound l (callsIn_wide.2 (componentOk_any b _ hbs))).mono ?_; rw [HCL.out]; rintro e w' ⟨rfl, rfl⟩)
          exact ⟨KeepsOthers.setCell _ _ _, HK1.out _, ⟨⟨HCU.out, hR.other (by omega) _⟩, by rw [hIE]; exact hC.set _⟩, hB.setCell (p := ⟨w.heap.size + 1, 0, none⟩) (by simp) _⟩
        | false =>
          have HCU : Hid (partsOk false ((pre ++ [x]).map Subtype.val) = false) := Lib.hid (by rw [HSN.out, HCH.out, hcur])
          rw [hcur] at cC hC
          clear hcur
          gi_wp2_with (refine ⟨trivial, ?_⟩; gi_at_call 204; refine (CallsIn.inRound l (callsIn_wide.2 (componentOk_any b _ hbs))).mono ?_; rw [HCL.out]; rintro e w' ⟨rfl, rfl⟩)
          exact ⟨KeepsOthers.setCell _ _ _, ⟨⟨rfl, HCU.out⟩, hR.set _⟩, hB.setCell (p := ⟨w.heap.size, 0, none⟩) (by simp) _⟩
      · have hnm' : (b.data.toList == nmL) = false := by simpa using hnm
        have e2 : (b.toList == [110, 111, 100, 101, 95, 109, 111, 100, 117, 108, 101, 115]) = false := by rw [ByteArray.toList_eq]; exact hnm'
        have HCU : Hid (partsOk false ((pre ++ [x]).map Subtype.val) = true) := Lib.hid (by rw [HSN.out, ← HBL.out]; unfold chk; rw [hcl, hnm']; simp)
        clear hcl hnm hnm'
        generalize (false && pre.isEmpty) = cur at cC hC
        gi_wp2_with (refine ⟨trivial, ?_⟩; gi_at_call 204; refine (CallsIn.inRound l (callsIn_wide.2 (componentOk_any b _ hbs))).mono ?_; rw [HCL.out]; rintro e w' ⟨rfl, rfl⟩)
        exact ⟨KeepsOthers.setCell _ _ _, HK1.out _, ⟨⟨HCU.out, hR.other (by omega) _⟩, by rw [hIE]; exact hC.set _⟩, hB.setCell (p := ⟨w.heap.size + 1, 0, none⟩) (by simp) _⟩
    · have hcl' : compL b.data.toList = false := by simpa using hcl
      have HCL := Lib.hid hcl'
      have HCU : Hid (partsOk false ((pre ++ [x]).map Subtype.val) = false) := Lib.hid (by rw [HSN.out, ← HBL.out]; unfold chk; rw [hcl']; simp)
      clear hcl hcl'
      generalize (false && pre.isEmpty) = cur at cC hC
      gi_wp2_with (refine ⟨trivial, ?_⟩; gi_at_call 204; refine (CallsIn.inRound l (callsIn_wide.2 (componentOk_any b _ hbs))).mono ?_; rw [HCL.out]; rintro e w' ⟨rfl, rfl⟩)
      exact ⟨KeepsOthers.setCell _ _ _, ⟨⟨rfl, HCU.out⟩, hR.set _⟩, hB.setCell (p := ⟨w.heap.size, 0, none⟩) (by simp) _⟩
  case done =>
    rintro D ys W hD hys ⟨⟨⟨hg, hR⟩, hC⟩, hB⟩ hK
    rw [hys] at hg
    have HG := Lib.hid hg
    clear hg hys
    have cR := hR.cell
    have fR := hR.frozen
    gi_wp2
    have hK' := (KeepsOthers.setCell W ⟨w.heap.size, 0, none⟩ (.bool true)).same D _ hK rfl
    refine ⟨by simp, .inl ⟨_, _, rfl, run_takeDeferred hK', ?_⟩⟩
    have hc5 := cell_kept (hR.set (.bool true)).cell (grownBy_putObj' _ D (.deferred none)) (fun r e => by cases e; exact ⟨_, hK', rfl⟩)
    refine ⟨.bool true, ?_, by rw [HG.out], (hB.setCell (p := ⟨w.heap.size, 0, none⟩) (by simp) _).trans (belowK_b (w := w) (Nat.le_refl _) _ D _ _ (by have := HSZ.out; omega) hK' rfl rfl)⟩
    simp [results, Tryz.f161, go_sem, hc5]
  case stop =>
    rintro D c pre W hD hpre ⟨⟨⟨rfl, hbad⟩, hR⟩, hB⟩ hK
    have HG := Lib.hid (partsOk_prefix hpre hbad)
    clear hpre hbad
    gi_wp2
    refine ⟨by simp, .inl ⟨_, _, rfl, run_takeDeferred hK, ?_⟩⟩
    have hc5 := cell_kept hR.cell (grownBy_putObj' _ D (.deferred none)) (fun r e => by cases e; exact ⟨_, hK, rfl⟩)
    refine ⟨.bool false, ?_, by rw [HG.out], hB.trans (belowK_b (w := w) (Nat.le_refl _) W D _ _ (by have := HSZ.out; omega) hK rfl rfl)⟩
    simp [results, Tryz.f161, go_sem, hc5]

set_option maxRecDepth 100000 in
set_option maxHeartbeats 4000000 in
theorem implNameOk_scoped (n : Nat) (hn : 4 ≤ n) (s r : ByteArray) (w : World) (h0 : 0 < s.size) (h60 : s.size ≤ 60) (e1 : ((s[0].toNat : Int) == 64) = true) (he : ∀ W, (Instr.slice 9 (.string s) (some (.int .i64 1)) none none).run Tryz.prog W = .ok (.string r) W) (hr : r.size ≤ 60) :
    CallsIn Fence.wide n Tryz.prog 161 #[.string s] w fun e W' => e = .returned (.bool (partsOk true (cutL 47 r.data.toList))) ∧ Below w.heap.size w W' := by
  have h1 : 1 ≤ n := by omega
  have hn2 : 1 ≤ n - 1 - 1 := by omega
  have t1 : decide ((s.size : Int) < 1) = false := by simp; omega
  have t2 : decide ((60 : Int) < (s.size : Int)) = false := by simp; omega
  refine callsIn_of_wp_marks Tryz.func161 rfl trivial ?_ rfl
  simp only [Tryz.ntmps161, List.size_toArray, List.length_cons, List.length_nil, Nat.reduceAdd, Nat.reduceSub, Array.replicate_succ, Array.replicate_zero, List.push_toArray, List.append_toArray, List.nil_append, List.cons_append]
  gi_wp2_with (refine ⟨trivial, ?_⟩; gi_at_call 203; refine (partsOf_in _ _ _ _).mono ?_; rintro e w' ⟨rfl, rfl⟩)
  have b1 := Boxed.new w 4 (.bool false)
  have b2 := Boxed.new (w.alloc (.cells #[.bool false] 4)) 4 (.bool true)
  have b3 := Boxed.new ((w.alloc (.cells #[.bool false] 4)).alloc (.cells #[.bool true] 4)) 9 (.string r)
  have b4 := Boxed.new (((w.alloc (.cells #[.bool false] 4)).alloc (.cells #[.bool true] 4)).alloc (.cells #[.string r] 9)) 5 (.int .u8 47)
  simp only [World.size_alloc] at b2 b3 b4
  have hB0 : Below w.heap.size w ((((w.alloc (.cells #[.bool false] 4)).alloc (.cells #[.bool true] 4)).alloc (.cells #[.string r] 9)).alloc (.cells #[.int .u8 47] 5)) := ((((Below.refl _ w).alloc (Nat.le_refl _) _).alloc (by simp) _).alloc (by simp; omega) _).alloc (by simp; omega) _
  have b1' := ((b1.alloc (.cells #[.bool true] 4)).alloc (.cells #[.string r] 9)).alloc (.cells #[.int .u8 47] 5)
  have b2' := (b2.alloc (.cells #[.string r] 9)).alloc (.cells #[.int .u8 47] 5)
  have b3' := b3.alloc (.cells #[.int .u8 47] 5)
  clear b1 b2 b3
  obtain ⟨W0, hW0⟩ : ∃ W0, ((((w.alloc (.cells #[.bool false] 4)).alloc (.cells #[.bool true] 4)).alloc (.cells #[.string r] 9)).alloc (.cells #[.int .u8 47] 5)) = W0 := ⟨_, rfl⟩
  have hsz : W0.heap.size = w.heap.size + 4 := by rw [← hW0]; simp
  rw [hW0] at b1' b2' b3' b4 hB0 ⊢
  clear hW0
  have HSZ := Lib.hid hsz
  clear hsz
  refine wpIn_rangeFunc_ownF rfl h1 (gf := 250) (lb := #[.pointer (some ⟨w.heap.size + 1 + 1, 0, none⟩), .pointer (some ⟨w.heap.size + 1 + 1 + 1, 0, none⟩)]) rfl trivial (enters_of Tryz.func250 (by kernel_rfl) rfl)
    (parts_stops (n - 1) (by omega) (w.heap.size + 1 + 1) (w.heap.size + 1 + 1 + 1) r 47 (by omega) W0 (by rw [HSZ.out]; omega) (by rw [HSZ.out]; omega) b3' b4) kpB_t (kpB_b (by rw [HSZ.out]; omega) (by rw [HSZ.out]; omega)) (Below.refl _ _) (fun _ => rfl)
    (fun pre W => ((partsOk true (pre.map Subtype.val) = true ∧ Boxed W w.heap.size 4 (.bool false)) ∧ Boxed W (w.heap.size + 1) 4 (.bool (true && pre.isEmpty))) ∧ Below w.heap.size w W)
    (fun c pre W => ((c = .ret ∧ partsOk true (pre.map Subtype.val) = false) ∧ Boxed W w.heap.size 4 (.bool false)) ∧ Below w.heap.size w W)
    (OwnFrom.and (OwnFrom.and (OwnFrom.and (ownFrom_pure _ _) (Own.from (boxed_own _ _ _) _)) (Own.from (boxed_own _ _ _) _)) (ownFrom_below (Nat.le_refl _) (by rw [HSZ.out]; omega)))
    (fun c => OwnFrom.and (OwnFrom.and (ownFrom_pure _ _) (Own.from (boxed_own _ _ _) _)) (ownFrom_below (Nat.le_refl _) (by rw [HSZ.out]; omega)))
    ⟨⟨⟨rfl, b1'⟩, b2'⟩, hB0⟩
    (fun x => { tmps := #[.string r, undef, .pointer (some ⟨w.heap.size, 0, none⟩), .pointer (some ⟨w.heap.size + 1, 0, none⟩), .string ⟨x.1.toArray⟩, .string s, .int .i64 s.size, .bool false, .bool false, .string s, .int .i64 s.size, .bool false, .bool false, .string s, .int .u8 s[0].toNat, .bool true, .bool true, .string s, .string r, .string r, .func (.func 250) #[] #[.pointer (some ⟨w.heap.size + 1 + 1, 0, none⟩), .pointer (some ⟨w.heap.size + 1 + 1 + 1, 0, none⟩)], .string ⟨x.1.toArray⟩, undef, undef, undef, undef, undef, undef, undef, undef, undef, undef, undef], defers := [] }) ?assign ?body ?done ?stop
  case assign =>
    intro l x W K hK
    unfold partV
    gi_wp2
    exact hK
  case body =>
    rintro l pre x W ⟨⟨⟨hg, hR⟩, hC⟩, hB⟩ _
    have HG := Lib.hid hg
    have cR := hR.cell
    have fR := hR.frozen
    have cC := hC.cell
    have fC := hC.frozen
    obtain ⟨b, hbE⟩ : ∃ b : ByteArray, b = ⟨x.1.toArray⟩ := ⟨_, rfl⟩
    have hbl : b.data.toList = x.1 := by rw [hbE]
    have hbs : b.size ≤ 1048576 := by rw [hbE]; show x.1.toArray.size ≤ _; simpa using x.2
    rw [← hbE]
    have HBL := Lib.hid hbl
    have hIE : (true && (pre ++ [x]).isEmpty) = false := by simp
    have HSN : Hid (partsOk true ((pre ++ [x]).map Subtype.val) = chk (true && pre.isEmpty) x.1) := Lib.hid (by rw [List.map_append, List.map_cons, List.map_nil, partsOk_snoc, hg, map_empty]; rfl)
    have HK1 : Hid (∀ u, KpB (w.heap.size + 1 + 1) (w.heap.size + 1 + 1 + 1) W (W.setCell ⟨w.heap.size + 1, 0, none⟩ u)) := Lib.hid (fun u => ⟨Below.heap_setCell _ _ _ _ (by simp), Below.heap_setCell _ _ _ _ (by simp; omega)⟩)
    clear hg hbE hbl
    by_cases hcl : compL b.data.toList = true
    · have HCL := Lib.hid hcl
      by_cases hnm : (b.data.toList == nmL) = true
      · have e2 : (b.toList == [110, 111, 100, 101, 95, 109, 111, 100, 117, 108, 101, 115]) = true := by rw [ByteArray.toList_eq]; exact hnm
        have HCH : Hid (chk (true && pre.isEmpty) x.1 = (true && pre.isEmpty)) := Lib.hid (by rw [← HBL.out]; unfold chk; rw [hcl, hnm]; simp)
        clear hcl hnm
        cases hcur : (true && pre.isEmpty) with
        | true =>
          have HCU : Hid (partsOk true ((pre ++ [x]).map Subtype.val) = true) := Lib.hid (by rw [HSN.out, HCH.out, hcur])
          rw [hcur] at cC hC
          clear hcur
          gi_wp2_with (refine ⟨trivial, ?_⟩; gi_at_call 204; refine (CallsIn.inRound l (callsIn_wide.2 (componentOk_any b _ hbs))).mono ?_; rw [HCL.out]; rintro e w' ⟨rfl, rfl⟩)
          exact ⟨KeepsOthers.setCell _ _ _, HK1.out _, ⟨⟨HCU.out, hR.other (by omega) _⟩, by rw [hIE]; exact hC.set _⟩, hB.setCell (p := ⟨w.heap.size + 1, 0, none⟩) (by simp) _⟩
        | false =>
          have HCU : Hid (partsOk true ((pre ++ [x]).map Subtype.val) = false) := Lib.hid (by rw [HSN.out, HCH.out, hcur])
          rw [hcur] at cC hC
          clear hcur
          gi_wp2_with (refine ⟨trivial, ?_⟩; gi_at_call 204; refine (CallsIn.inRound l (callsIn_wide.2 (componentOk_any b _ hbs))).mono ?_; rw [HCL.out]; rintro e w' ⟨rfl, rfl⟩)
          exact ⟨KeepsOthers.setCell _ _ _, ⟨⟨rfl, HCU.out⟩, hR.set _⟩, hB.setCell (p := ⟨w.heap.size, 0, none⟩) (by simp) _⟩
      · have hnm' : (b.data.toList == nmL) = false := by simpa using hnm
        have e2 : (b.toList == [110, 111, 100, 101, 95, 109, 111, 100, 117, 108, 101, 115]) = false := by rw [ByteArray.toList_eq]; exact hnm'
        have HCU : Hid (partsOk true ((pre ++ [x]).map Subtype.val) = true) := Lib.hid (by rw [HSN.out, ← HBL.out]; unfold chk; rw [hcl, hnm']; simp)
        clear hcl hnm hnm'
        generalize (true && pre.isEmpty) = cur at cC hC
        gi_wp2_with (refine ⟨trivial, ?_⟩; gi_at_call 204; refine (CallsIn.inRound l (callsIn_wide.2 (componentOk_any b _ hbs))).mono ?_; rw [HCL.out]; rintro e w' ⟨rfl, rfl⟩)
        exact ⟨KeepsOthers.setCell _ _ _, HK1.out _, ⟨⟨HCU.out, hR.other (by omega) _⟩, by rw [hIE]; exact hC.set _⟩, hB.setCell (p := ⟨w.heap.size + 1, 0, none⟩) (by simp) _⟩
    · have hcl' : compL b.data.toList = false := by simpa using hcl
      have HCL := Lib.hid hcl'
      have HCU : Hid (partsOk true ((pre ++ [x]).map Subtype.val) = false) := Lib.hid (by rw [HSN.out, ← HBL.out]; unfold chk; rw [hcl']; simp)
      clear hcl hcl'
      generalize (true && pre.isEmpty) = cur at cC hC
      gi_wp2_with (refine ⟨trivial, ?_⟩; gi_at_call 204; refine (CallsIn.inRound l (callsIn_wide.2 (componentOk_any b _ hbs))).mono ?_; rw [HCL.out]; rintro e w' ⟨rfl, rfl⟩)
      exact ⟨KeepsOthers.setCell _ _ _, ⟨⟨rfl, HCU.out⟩, hR.set _⟩, hB.setCell (p := ⟨w.heap.size, 0, none⟩) (by simp) _⟩
  case done =>
    rintro D ys W hD hys ⟨⟨⟨hg, hR⟩, hC⟩, hB⟩ hK
    rw [hys] at hg
    have HG := Lib.hid hg
    clear hg hys
    have cR := hR.cell
    have fR := hR.frozen
    gi_wp2
    have hK' := (KeepsOthers.setCell W ⟨w.heap.size, 0, none⟩ (.bool true)).same D _ hK rfl
    refine ⟨by simp, .inl ⟨_, _, rfl, run_takeDeferred hK', ?_⟩⟩
    have hc5 := cell_kept (hR.set (.bool true)).cell (grownBy_putObj' _ D (.deferred none)) (fun r e => by cases e; exact ⟨_, hK', rfl⟩)
    refine ⟨.bool true, ?_, by rw [HG.out], (hB.setCell (p := ⟨w.heap.size, 0, none⟩) (by simp) _).trans (belowK_b (w := w) (Nat.le_refl _) _ D _ _ (by have := HSZ.out; omega) hK' rfl rfl)⟩
    simp [results, Tryz.f161, go_sem, hc5]
  case stop =>
    rintro D c pre W hD hpre ⟨⟨⟨rfl, hbad⟩, hR⟩, hB⟩ hK
    have HG := Lib.hid (partsOk_prefix hpre hbad)
    clear hpre hbad
    gi_wp2
    refine ⟨by simp, .inl ⟨_, _, rfl, run_takeDeferred hK, ?_⟩⟩
    have hc5 := cell_kept hR.cell (grownBy_putObj' _ D (.deferred none)) (fun r e => by cases e; exact ⟨_, hK, rfl⟩)
    refine ⟨.bool false, ?_, by rw [HG.out], hB.trans (belowK_b (w := w) (Nat.le_refl _) W D _ _ (by have := HSZ.out; omega) hK rfl rfl)⟩
    simp [results, Tryz.f161, go_sem, hc5]

/-- What both return. -/
theorem spec_impl (l : List UInt8) (h0 : 0 < l.length) (h60 : l.length ≤ 60) : specN l = if l.head? = some 64 then partsOk true (cutL 47 l.tail) else partsOk false (cutL 47 l) := by
  unfold specN
  rw [decide_eq_true h60, Bool.and_true]
  match l, h0 with
  | c :: t, _ =>
    by_cases hc : c = 64
    · subst hc
      have hcut : cutL 47 (64 :: t) = attach [64] (cutL 47 t) := by rw [cutL, if_neg (by decide)]
      rw [if_pos (show (64 :: t).head? = some 64 from rfl), hcut]
      cases hX : cutL 47 t with
      | nil => exact absurd hX (cutL_ne 47 t)
      | cons p ps =>
        simp only [attach, List.tail_cons]
        rw [hX]
        simp [chkS, partsOk, chk]
    · rw [if_neg (by simpa using hc)]
      cases hX : cutL 47 (c :: t) with
      | nil => exact absurd hX (cutL_ne 47 _)
      | cons p ps =>
        simp only [partsOk]
        have hp : p.head? ≠ some 64 := by
          by_cases h47 : c = 47
          · subst h47
            rw [cutL, if_pos rfl] at hX
            injection hX with hX _
            rw [← hX]; simp
          · rw [cutL, if_neg h47] at hX
            cases hY : cutL 47 t with
            | nil => exact absurd hY (cutL_ne 47 t)
            | cons q qs =>
              rw [hY] at hX
              simp only [attach] at hX
              injection hX with hX _
              rw [← hX]; simpa using hc
        unfold chkS
        rw [if_neg hp]
theorem spec_long (l : List UInt8) (h : l.length = 0 ∨ 60 < l.length) : specN l = false := by
  rcases h with h | h
  · have : l = [] := List.eq_nil_of_length_eq_zero h
    subst this; decide
  · unfold specN
    rw [decide_eq_false (by omega)]; simp

set_option maxRecDepth 100000 in
set_option maxHeartbeats 2000000 in
theorem implNameOk_out (s : ByteArray) (w : World) (h : s.size = 0 ∨ 60 < s.size) :
    CallsIn Fence.wide 4 Tryz.prog 161 #[.string s] w fun e W' => e = .returned (.bool false) ∧ Below w.heap.size w W' := by
  have b1 := Boxed.new w 4 (.bool false)
  have cR := b1.cell
  have fR := b1.frozen
  refine callsIn_of_wp_marks Tryz.func161 rfl trivial ?_ rfl
  simp only [Tryz.ntmps161, List.size_toArray, List.length_cons, List.length_nil, Nat.reduceAdd, Nat.reduceSub, Array.replicate_succ, Array.replicate_zero, List.push_toArray, List.append_toArray, List.nil_append, List.cons_append]
  rcases h with h | h
  · have t1 : decide ((s.size : Int) < 1) = true := by simp; omega
    have HH := Lib.hid h
    clear h
    gi_wp2
    refine ⟨.bool false, ?_, rfl, (Below.refl _ _).alloc (Nat.le_refl _) _⟩
    simp [results, Tryz.f161, go_sem, cR]
  · have t1 : decide ((s.size : Int) < 1) = false := by simp; omega
    have t2 : decide ((60 : Int) < (s.size : Int)) = true := by simp; omega
    clear h
    gi_wp2
    refine ⟨.bool false, ?_, rfl, (Below.refl _ _).alloc (Nat.le_refl _) _⟩
    simp [results, Tryz.f161, go_sem, cR]

theorem implNameOk_any (s : ByteArray) (w : World) :
    Calls Tryz.prog 161 #[.string s] w fun e W' => e = .returned (.bool (specN s.data.toList)) ∧ Below w.heap.size w W' := by
  refine (callsIn_wide (n := 4)).1 ?_
  by_cases h : s.size = 0 ∨ 60 < s.size
  · rw [spec_long s.data.toList (by simpa using h)]
    exact implNameOk_out s w h
  · have h0 : 0 < s.size := by omega
    have h60 : s.size ≤ 60 := by omega
    rw [spec_impl s.data.toList (by simpa using h0) (by simpa using h60)]
    have hd := drop_cons s 0 h0
    simp at hd
    by_cases h64 : s[0] = 64
    · rw [if_pos (by rw [hd]; simpa using h64)]
      have e : s.data.toList.tail = (s.extract 1 s.size).data.toList := by rw [piece_end]; simp
      rw [e]
      exact implNameOk_scoped 4 (by omega) s (s.extract 1 s.size) w h0 h60 (by rw [h64]; rfl) (slice_from s _ 1 1 rfl (by omega) rfl) (by simp; omega)
    · rw [if_neg (by rw [hd]; simpa using h64)]
      exact implNameOk_plain 4 (by omega) s s w h0 h60 (int_beq_false (fun h => h64 (UInt8.toNat_inj.1 (by show _ = (64 : Nat); omega)))) rfl h60
end Go.Proofs.YtnodhkjgnegkcaaGreatDoor

/-
  spec.l08Need, impl.needOk: whether a need is right.
-/
namespace Go.Proofs.YtnodhkjgnegkcaaGreatDoor
open Go.RowKit

set_option maxRecDepth 100000 in
set_option maxHeartbeats 2000000 in
theorem l08Need_any (a b : ByteArray) (w : World) (ha : a.size ≤ 1048576) (hb : b.size ≤ 1048576) :
    Calls Tryz.prog 89 #[.agg #[.string a, .string b]] w fun e w' => e = .returned (.bool (nd2 a b)) ∧ Below w.heap.size w w' := by
  obtain ⟨l, rfl⟩ : ∃ l : List UInt8, b = ⟨l.toArray⟩ := ⟨b.data.toList, bytes_ext (by simp)⟩
  rw [size_of] at hb
  have HR := Lib.hid (fun W => specReadRange_any l W hb)
  have HN := Lib.hid (fun W => specNameOk_any a W ha)
  have HE : Hid (nd2 a ⟨l.toArray⟩ = (specN a.data.toList && rgOk l)) := Lib.hid rfl
  rw [HE.out]
  unfold RgIs at HR
  generalize rgOk l = r at HR ⊢
  generalize specN a.data.toList = q at HN ⊢
  obtain ⟨t, HT⟩ : ∃ t : ByteArray, Hid (⟨l.toArray⟩ = t) := ⟨_, Lib.hid rfl⟩
  rw [HT.out] at HR ⊢
  have B0 : Below w.heap.size w (w.alloc (.cells #[.string a, .string t] 65)) := (Below.refl _ _).alloc (Nat.le_refl _) _
  have b0 := heap_alloc_new w (.cells #[.string a, .string t] 65)
  clear ha hb HE
  cases q
  all_goals
    go_enter Tryz.func89, Tryz.ntmps89
    go_wp2_with fail
    refine (HR.out _).mono ?_
    rintro e w1 ⟨u, rfl, hu, hb1⟩
    obtain ⟨U, uc, rfl⟩ := hu.slice
    have B1 := B0.trans (hb1.mono B0.size)
    obtain ⟨x0, x1⟩ := two_cells (keepB b0 hb1)
    go_wp2_with fail
    refine (HN.out _).mono ?_
    rintro e w2 ⟨rfl, hb2⟩
    go_wp2_with fail
    go_ret
    exact ⟨by first | rfl | (simp; done), B1.trans (hb2.mono B1.size)⟩

set_option maxRecDepth 100000 in
set_option maxHeartbeats 2000000 in
theorem needOk_any (a b : ByteArray) (m : Int) (w : World) (hb : b.size ≤ 1048576) (ht : Tab w) (hm : w.cell? ⟨0, 0, none⟩ = some (.int .i64 m)) :
    Calls Tryz.prog 154 #[.agg #[.string a, .string b]] w fun e w' => e = .returned (.bool (nd2 a b)) ∧ Below w.heap.size w w' := by
  obtain ⟨l, rfl⟩ : ∃ l : List UInt8, b = ⟨l.toArray⟩ := ⟨b.data.toList, bytes_ext (by simp)⟩
  rw [size_of] at hb
  have HR := Lib.hid (fun (W : World) (h : Below w.heap.size w W) => implReadRange_any l m W hb (tab_below ht h) (keepC h hm))
  have HN := Lib.hid (fun W => implNameOk_any a W)
  have HE : Hid (nd2 a ⟨l.toArray⟩ = (specN a.data.toList && rgOk l)) := Lib.hid rfl
  rw [HE.out]
  unfold RgIs at HR
  generalize rgOk l = r at HR ⊢
  generalize specN a.data.toList = q at HN ⊢
  obtain ⟨t, HT⟩ : ∃ t : ByteArray, Hid (⟨l.toArray⟩ = t) := ⟨_, Lib.hid rfl⟩
  rw [HT.out] at HR ⊢
  have B0 : Below w.heap.size w (w.alloc (.cells #[.string a, .string t] 65)) := (Below.refl _ _).alloc (Nat.le_refl _) _
  have b0 := heap_alloc_new w (.cells #[.string a, .string t] 65)
  clear hb HE ht hm
  cases r
  · go_enter Tryz.func154, Tryz.ntmps154
    go_wp2_with fail
    refine (HR.out _ B0).mono ?_
    rintro e w1 ⟨u, rfl, hu, hb1⟩
    obtain ⟨U, uc, rfl⟩ := hu.slice
    have B1 := B0.trans (hb1.mono B0.size)
    obtain ⟨x0, x1⟩ := two_cells (keepB b0 hb1)
    go_wp2_with fail
    go_ret
    exact ⟨by simp, B1⟩
  · go_enter Tryz.func154, Tryz.ntmps154
    go_wp2_with fail
    refine (HR.out _ B0).mono ?_
    rintro e w1 ⟨u, rfl, hu, hb1⟩
    obtain ⟨U, uc, rfl⟩ := hu.slice
    have B1 := B0.trans (hb1.mono B0.size)
    obtain ⟨x0, x1⟩ := two_cells (keepB b0 hb1)
    go_wp2_with fail
    refine (HN.out _).mono ?_
    rintro e w2 ⟨rfl, hb2⟩
    go_wp2_with fail
    go_ret
    exact ⟨by simp, B1.trans (hb2.mono B1.size)⟩

end Go.Proofs.YtnodhkjgnegkcaaGreatDoor

/-
  Whether bounds are a range: impl.RangeOk.
-/
namespace Go.Proofs.YtnodhkjgnegkcaaGreatDoor
open Go.RowKit

set_option maxRecDepth 100000 in
set_option maxHeartbeats 1000000 in
theorem limitOk_any (s : ByteArray) (w : World) (hs : s.size ≤ 1048576) :
    Calls Tryz.prog 280 #[.string s] w fun e w' => e = .returned (.bool (limOk s.data.toList)) ∧ Below w.heap.size w w' := by
  have HC := Lib.hid (implReadVersion_any s w hs)
  obtain ⟨ok, HO⟩ : ∃ ok, Hid (readOk s.data.toList = ok) := ⟨_, Lib.hid rfl⟩
  obtain ⟨r, HR⟩ : ∃ r, Hid (limOk s.data.toList = r) := ⟨_, Lib.hid rfl⟩
  obtain ⟨q, hq, HE⟩ : ∃ q, (s.toList == []) = q ∧ Hid (limOk s.data.toList = (ok || q)) := ⟨_, rfl, Lib.hid (by unfold limOk; rw [HO.out, ByteArray.toList_eq])⟩
  rw [HR.out]
  have HF : Hid (r = (ok || q)) := Lib.hid (HR.out.symm.trans HE.out)
  cases ok <;> cases q
  all_goals
    go_enter Tryz.func280, Tryz.ntmps280
    go_wp2_with fail
    refine HC.out.mono ?_
    rintro e w1 ⟨u, rfl, hu, hb1⟩
    obtain ⟨uA, uc, rfl⟩ := hu.slice
    rw [HO.out]
    go_wp2_with fail
    go_ret
    exact ⟨ret_bool HF.out.symm, by first | exact hb1 | exact hb1.alloc hb1.size _ | exact (hb1.alloc hb1.size _).setCell (p := ⟨w1.heap.size, 0, none⟩) hb1.size _⟩

theorem cells2R {V : World} {B : Nat} {T : TypeId} {v0 v1 : Value} (h : V.heap[B]? = some (.cells #[v0, v1] T)) : V.cell? ⟨B, 0, none⟩ = some v0 ∧ V.cell? ⟨B, 1, none⟩ = some v1 := by
  simp [World.cell?, h]

set_option maxRecDepth 100000 in
set_option maxHeartbeats 2000000 in
theorem implRangeOk_any (v : Value) (bs : List Bd) (w : World) (hr : RdB w v bs) (hs : SmB bs) :
    Calls Tryz.prog 248 #[v] w fun e w' => e = .returned (.bool (rngOk bs)) ∧ Below w.heap.size w w' := by
  have HR := Lib.hid hr
  have HS := Lib.hid hs
  obtain ⟨A, ca, rfl, ha⟩ := hr
  have hn : bs.length ≤ 1048576 := by unfold SmB at hs; omega
  clear ha hs
  by_cases h1 : bs.length < 1
  · have HF : Hid (rngOk bs = false) := Lib.hid (by unfold rngOk inI; simp; omega)
    go_enter Tryz.func248, Tryz.ntmps248
    go_wp2
    go_ret
    exact ⟨ret_bool HF.out.symm, Below.refl _ _⟩
  by_cases h8 : 8 < bs.length
  · have HF : Hid (rngOk bs = false) := Lib.hid (by unfold rngOk inI; simp; omega)
    go_enter Tryz.func248, Tryz.ntmps248
    go_wp2
    go_ret
    exact ⟨ret_bool HF.out.symm, Below.refl _ _⟩
  have HI : Hid (rngOk bs = bs.all bndOk) := Lib.hid (by unfold rngOk; rw [show inI bs.length 1 8 = true by unfold inI; simp; omega]; simp)
  go_enter Tryz.func248, Tryz.ntmps248
  go_wp2
  go_loopw [4, 15] (fun _ i wr => ∃ k : Nat, k ≤ bs.length ∧ i = .int .i64 k ∧ Hid ((bs.take k).all bndOk = true) ∧ Below w.heap.size w wr) (fun _ i _ => bs.length - (intOf i).toNat)
  case atStart => exact ⟨0, Nat.zero_le _, rfl, Lib.hid (by simp), Below.refl _ _⟩
  case round =>
    obtain ⟨k, hk, rfl, H, hb⟩ := hrel
    by_cases hlt : k < bs.length
    · have k0 : (0 : Int) ≤ (k : Int) := by omega
      have k1 : (k : Int) < (bs.length : Int) := by omega
      have HG := Lib.hid (smB_get HS.out k hlt)
      obtain ⟨A', ca', hv, ha⟩ := HR.out.below hb
      simp only [Value.slice.injEq] at hv
      obtain ⟨rfl, _, rfl⟩ := hv
      obtain ⟨g, off, rfl, hg, hca⟩ := ha (by omega)
      have d1 : wr.cell? ⟨g, off + k * 2, none⟩ = some (.string ⟨bs[k].1.toArray⟩) := (hca k hlt).1
      have d2 : wr.cell? ⟨g, off + k * 2 + 1, none⟩ = some (.string ⟨bs[k].2.toArray⟩) := (hca k hlt).2
      obtain ⟨x, HX⟩ : ∃ x, Hid (limOk (⟨bs[k].1.toArray⟩ : ByteArray).data.toList = x) := ⟨_, Lib.hid rfl⟩
      obtain ⟨y, HY⟩ : ∃ y, Hid (limOk (⟨bs[k].2.toArray⟩ : ByteArray).data.toList = y) := ⟨_, Lib.hid rfl⟩
      have HB : Hid (bndOk bs[k] = (x && y)) := Lib.hid (by unfold bndOk; rw [← HX.out, ← HY.out])
      have B0 : Below w.heap.size w (wr.alloc (.cells #[.string ⟨bs[k].1.toArray⟩, .string ⟨bs[k].2.toArray⟩] 166)) := hb.alloc hb.size _
      have b0 := heap_alloc_new wr (.cells #[.string ⟨bs[k].1.toArray⟩, .string ⟨bs[k].2.toArray⟩] 166)
      clear ha hca
      cases x
      · have HF : Hid (rngOk bs = false) := Lib.hid (by rw [HI.out]; exact Bool.eq_false_iff.2 (all_not bs bndOk k hlt (by rw [HB.out]; rfl)))
        go_wp2_with fail
        refine (limitOk_any _ _ HG.out.1).mono ?_
        rw [HX.out]
        rintro e w1 ⟨rfl, hb1⟩
        have B1 := B0.trans (hb1.mono B0.size)
        go_wp2_with fail
        go_ret
        exact ⟨ret_bool HF.out.symm, B1⟩
      · go_wp2_with fail
        refine (limitOk_any _ _ HG.out.1).mono ?_
        rw [HX.out]
        rintro e w1 ⟨rfl, hb1⟩
        have B1 := B0.trans (hb1.mono B0.size)
        have c1 := cells2R (keepB b0 hb1)
        clear d1 d2
        go_wp2_with fail
        refine (limitOk_any _ _ HG.out.2).mono ?_
        rw [HY.out]
        rintro e w2 ⟨rfl, hb2⟩
        have B2 := B1.trans (hb2.mono B1.size)
        cases y
        · have HF : Hid (rngOk bs = false) := Lib.hid (by rw [HI.out]; exact Bool.eq_false_iff.2 (all_not bs bndOk k hlt (by rw [HB.out]; rfl)))
          go_wp2_with fail
          go_ret
          exact ⟨ret_bool HF.out.symm, B2⟩
        · have HN := Lib.hid (all_take bs bndOk k hlt H.out (by rw [HB.out]; rfl))
          go_wp2_with fail
          go_roundw
          case rel => exact ⟨k + 1, by omega, by go_num, HN, B2⟩
          case measure => simp [intOf]; omega
    · have HF : Hid (rngOk bs = true) := Lib.hid (by
        have h := H.out
        rw [List.take_of_length_le (by omega)] at h
        rw [HI.out, h])
      go_wp2_with fail
      go_ret
      exact ⟨ret_bool HF.out.symm, hb⟩
end Go.Proofs.YtnodhkjgnegkcaaGreatDoor

/-
  cmp.Compare at ints, at impl's numbers and texts; cmp.Or at four ints; impl's identifiers compared.
-/
namespace Go.Proofs.YtnodhkjgnegkcaaGreatDoor
open Go.RowKit

set_option maxRecDepth 100000 in
theorem cmpInt_any (a b : Int) (w : World) : Calls Tryz.prog 295 #[.int .i64 a, .int .i64 b] w fun e w' => e = .returned (.int .i64 (cmpI a b)) ∧ w' = w := by
  have qa : (a != a) = false := by simp
  have qb : (b != b) = false := by simp
  rcases (show a < b ∨ (¬ a < b ∧ b < a) ∨ (¬ a < b ∧ ¬ b < a) from by omega) with h | ⟨h, h2⟩ | ⟨h, h2⟩
  · have H : Hid (cmpI a b = -1) := Lib.hid (if_pos h)
    go_enter Tryz.func295, Tryz.ntmps295
    go_wp2
    go_ret
    exact ⟨ret_int H.out.symm, rfl⟩
  · have H : Hid (cmpI a b = 1) := Lib.hid (by unfold cmpI; rw [if_neg h, if_pos h2])
    go_enter Tryz.func295, Tryz.ntmps295
    go_wp2
    go_ret
    exact ⟨ret_int H.out.symm, rfl⟩
  · have H : Hid (cmpI a b = 0) := Lib.hid (by unfold cmpI; rw [if_neg h, if_neg h2])
    go_enter Tryz.func295, Tryz.ntmps295
    go_wp2
    go_ret
    exact ⟨ret_int H.out.symm, rfl⟩

set_option maxRecDepth 100000 in
theorem cmpNum_any (a b : Int) (w : World) : Calls Tryz.prog 342 #[.int .i64 a, .int .i64 b] w fun e w' => e = .returned (.int .i64 (cmpI a b)) ∧ w' = w := by
  have qa : (a != a) = false := by simp
  have qb : (b != b) = false := by simp
  rcases (show a < b ∨ (¬ a < b ∧ b < a) ∨ (¬ a < b ∧ ¬ b < a) from by omega) with h | ⟨h, h2⟩ | ⟨h, h2⟩
  · have H : Hid (cmpI a b = -1) := Lib.hid (if_pos h)
    go_enter Tryz.func342, Tryz.ntmps342
    go_wp2
    go_ret
    exact ⟨ret_int H.out.symm, rfl⟩
  · have H : Hid (cmpI a b = 1) := Lib.hid (by unfold cmpI; rw [if_neg h, if_pos h2])
    go_enter Tryz.func342, Tryz.ntmps342
    go_wp2
    go_ret
    exact ⟨ret_int H.out.symm, rfl⟩
  · have H : Hid (cmpI a b = 0) := Lib.hid (by unfold cmpI; rw [if_neg h, if_neg h2])
    go_enter Tryz.func342, Tryz.ntmps342
    go_wp2
    go_ret
    exact ⟨ret_int H.out.symm, rfl⟩

set_option maxRecDepth 100000 in
theorem cmpText_any (a b : ByteArray) (w : World) : Calls Tryz.prog 346 #[.string a, .string b] w fun e w' => e = .returned (.int .i64 (cmpS a.data.toList b.data.toList)) ∧ w' = w := by
  rcases cmpS_ways a b with ⟨h, h3⟩ | ⟨h, h2, h3⟩ | ⟨h, h2, h3⟩
  all_goals
    have H := Lib.hid h3
    clear h3
    have qa : (a.toList == a.toList) = true := by simp
    have qb : (b.toList == b.toList) = true := by simp
    go_enter Tryz.func346, Tryz.ntmps346
    go_wp2
    go_ret
    exact ⟨ret_int H.out.symm, rfl⟩

theorem asNN (b : Int) (w : World) : (Instr.typeAssert (.iface 284 (.int .i64 b)) 276 284 true).run Tryz.prog w = .ok (.tuple #[.int .i64 b, .bool true]) w := by kernel_rfl
theorem asNT (b : ByteArray) (w : World) : (Instr.typeAssert (.iface 285 (.string b)) 276 284 true).run Tryz.prog w = .ok (.tuple #[.int .i64 0, .bool false]) w := by kernel_rfl
theorem asTT (b : ByteArray) (w : World) : (Instr.typeAssert (.iface 285 (.string b)) 276 285 true).run Tryz.prog w = .ok (.tuple #[.string b, .bool true]) w := by kernel_rfl
theorem asTN (b : Int) (w : World) : (Instr.typeAssert (.iface 284 (.int .i64 b)) 276 285 true).run Tryz.prog w = .ok (.tuple #[.string ⟨#[]⟩, .bool false]) w := by kernel_rfl
set_option maxRecDepth 100000 in
theorem numCompareNum (a b : Int) (w : World) : Calls Tryz.prog 340 #[.int .i64 a, .iface 284 (.int .i64 b)] w fun e w' => e = .returned (.int .i64 (cmpI a b)) ∧ w' = w := by
  have ha := asNN b
  go_enter Tryz.func340, Tryz.ntmps340
  go_wp2_with (go_at_call 342; refine (cmpNum_any _ _ _).mono ?_; rintro e w' ⟨rfl, rfl⟩)
  go_ret
  exact ⟨rfl, rfl⟩
set_option maxRecDepth 100000 in
theorem numCompareText (a : Int) (b : ByteArray) (w : World) : Calls Tryz.prog 340 #[.int .i64 a, .iface 285 (.string b)] w fun e w' => e = .returned (.int .i64 (-1)) ∧ w' = w := by
  have ha := asNT b
  go_enter Tryz.func340, Tryz.ntmps340
  go_wp2_with fail
  go_ret
  exact ⟨rfl, rfl⟩
set_option maxRecDepth 100000 in
theorem textCompareText (a b : ByteArray) (w : World) : Calls Tryz.prog 344 #[.string a, .iface 285 (.string b)] w fun e w' => e = .returned (.int .i64 (cmpS a.data.toList b.data.toList)) ∧ w' = w := by
  have ha := asTT b
  go_enter Tryz.func344, Tryz.ntmps344
  go_wp2_with (go_at_call 346; refine (cmpText_any _ _ _).mono ?_; rintro e w' ⟨rfl, rfl⟩)
  go_ret
  exact ⟨rfl, rfl⟩
set_option maxRecDepth 100000 in
theorem textCompareNum (a : ByteArray) (b : Int) (w : World) : Calls Tryz.prog 344 #[.string a, .iface 284 (.int .i64 b)] w fun e w' => e = .returned (.int .i64 1) ∧ w' = w := by
  have ha := asTN b
  go_enter Tryz.func344, Tryz.ntmps344
  go_wp2_with fail
  go_ret
  exact ⟨rfl, rfl⟩

theorem aheadN (z : Int) (w : World) : (nilAhead 428 284 (.int .i64 z) "loop.example/g00445/impl.compare").run Tryz.prog w = .ok (some false) w := by kernel_rfl
theorem aheadT (s : ByteArray) (w : World) : (nilAhead 428 285 (.string s) "loop.example/g00445/impl.compare").run Tryz.prog w = .ok (some false) w := by kernel_rfl
theorem methN (z : Int) (w : World) : (method 428 284 (.int .i64 z) "loop.example/g00445/impl.compare").run Tryz.prog w = .ok (340, .int .i64 z) w := by kernel_rfl
theorem methT (s : ByteArray) (w : World) : (method 428 285 (.string s) "loop.example/g00445/impl.compare").run Tryz.prog w = .ok (344, .string s) w := by kernel_rfl

set_option maxRecDepth 100000 in
set_option maxHeartbeats 1000000 in
theorem compareIdentifiers_any (a b : ByteArray) (w : World) (ha : a.size ≤ 1048576) (hb : b.size ≤ 1048576) :
    Calls Tryz.prog 307 #[.string a, .string b] w fun e w' => e = .returned (.int .i64 (cmpPart a.data.toList b.data.toList)) ∧ ∃ n, w' = w.drewN n := by
  have HA := Lib.hid (fun W => identifierOf_any a W ha)
  have HB := Lib.hid (fun W => identifierOf_any b W hb)
  clear ha hb
  by_cases hx : 0 ≤ readL a.data.toList <;> by_cases hy : 0 ≤ readL b.data.toList
  · have HF : Hid (cmpPart a.data.toList b.data.toList = cmpI (readL a.data.toList) (readL b.data.toList)) := Lib.hid (by unfold cmpPart; rw [if_pos hx, if_pos hy])
    have HX := Lib.hid (identV_num hx)
    have HY := Lib.hid (identV_num hy)
    have h1 := aheadN (readL a.data.toList)
    have h2 := methN (readL a.data.toList)
    clear hx hy
    go_enter Tryz.func307, Tryz.ntmps307
    go_wp2_with fail
    go_region_with (first | (go_at_call 279; (with_reducible refine (HA.out _).mono ?_); rw [HX.out]; rintro e w' ⟨rfl, rfl⟩) | (go_at_call 279; (with_reducible refine (HB.out _).mono ?_); rw [HY.out]; rintro e w' ⟨rfl, rfl⟩) | (go_at_call 340; (with_reducible refine (numCompareNum _ _ _).mono ?_); rintro e w' ⟨rfl, rfl⟩))
    all_goals
      go_wp2_with fail
      go_ret
      exact ⟨ret_int HF.out.symm, 1, rfl⟩
  · have HF : Hid (cmpPart a.data.toList b.data.toList = -1) := Lib.hid (by unfold cmpPart; rw [if_pos hx, if_neg hy])
    have HX := Lib.hid (identV_num hx)
    have HY := Lib.hid (identV_text hy)
    have h1 := aheadN (readL a.data.toList)
    have h2 := methN (readL a.data.toList)
    clear hx hy
    go_enter Tryz.func307, Tryz.ntmps307
    go_wp2_with fail
    go_region_with (first | (go_at_call 279; (with_reducible refine (HA.out _).mono ?_); rw [HX.out]; rintro e w' ⟨rfl, rfl⟩) | (go_at_call 279; (with_reducible refine (HB.out _).mono ?_); rw [HY.out]; rintro e w' ⟨rfl, rfl⟩) | (go_at_call 340; (with_reducible refine (numCompareText _ _ _).mono ?_); rintro e w' ⟨rfl, rfl⟩))
    all_goals
      go_wp2_with fail
      go_ret
      exact ⟨ret_int HF.out.symm, 1, rfl⟩
  · have HF : Hid (cmpPart a.data.toList b.data.toList = 1) := Lib.hid (by unfold cmpPart; rw [if_neg hx, if_pos hy])
    have HX := Lib.hid (identV_text hx)
    have HY := Lib.hid (identV_num hy)
    have h1 := aheadT a
    have h2 := methT a
    clear hx hy
    go_enter Tryz.func307, Tryz.ntmps307
    go_wp2_with fail
    go_region_with (first | (go_at_call 279; (with_reducible refine (HA.out _).mono ?_); rw [HX.out]; rintro e w' ⟨rfl, rfl⟩) | (go_at_call 279; (with_reducible refine (HB.out _).mono ?_); rw [HY.out]; rintro e w' ⟨rfl, rfl⟩) | (go_at_call 344; (with_reducible refine (textCompareNum _ _ _).mono ?_); rintro e w' ⟨rfl, rfl⟩))
    all_goals
      go_wp2_with fail
      go_ret
      exact ⟨ret_int HF.out.symm, 1, rfl⟩
  · have HF : Hid (cmpPart a.data.toList b.data.toList = cmpS a.data.toList b.data.toList) := Lib.hid (by unfold cmpPart; rw [if_neg hx, if_neg hy])
    have HX := Lib.hid (identV_text hx)
    have HY := Lib.hid (identV_text hy)
    have h1 := aheadT a
    have h2 := methT a
    clear hx hy
    go_enter Tryz.func307, Tryz.ntmps307
    go_wp2_with fail
    go_region_with (first | (go_at_call 279; (with_reducible refine (HA.out _).mono ?_); rw [HX.out]; rintro e w' ⟨rfl, rfl⟩) | (go_at_call 279; (with_reducible refine (HB.out _).mono ?_); rw [HY.out]; rintro e w' ⟨rfl, rfl⟩) | (go_at_call 344; (with_reducible refine (textCompareText _ _ _).mono ?_); rintro e w' ⟨rfl, rfl⟩))
    all_goals
      go_wp2_with fail
      go_ret
      exact ⟨ret_int HF.out.symm, 1, rfl⟩
end Go.Proofs.YtnodhkjgnegkcaaGreatDoor

/-
  slices.CompareFunc at impl's identifiers, comparePre, cmp.Or at four ints.
-/
namespace Go.Proofs.YtnodhkjgnegkcaaGreatDoor
open Go.RowKit

theorem sm_get {ls : List (List UInt8)} (h : ∀ l ∈ ls, l.length ≤ 1048576) (k : Nat) (hk : k < ls.length) : (⟨ls[k].toArray⟩ : ByteArray).size ≤ 1048576 := by
  have := h ls[k] (List.getElem_mem hk)
  show ls[k].toArray.size ≤ _
  simpa using this

set_option maxRecDepth 100000 in
set_option maxHeartbeats 1000000 in
theorem compareFunc_any (va vb : Value) (x y : List (List UInt8)) (w : World) (ha : RdS w va x) (hb : RdS w vb y) (hx : Sm x) (hy : Sm y) :
    Calls Tryz.prog 306 #[va, vb, .func (.func 307) #[] #[]] w fun e w' => e = .returned (.int .i64 (cmpL x y)) ∧ ∃ n, w' = w.drewN n := by
  obtain ⟨A, ca, rfl, ha⟩ := ha
  obtain ⟨B, cb, rfl, hb⟩ := hb
  have hx1 := hx.1
  have hy1 := hy.1
  have HX := Lib.hid hx.2
  have HY := Lib.hid hy.2
  clear hx hy
  go_enter Tryz.func306, Tryz.ntmps306
  go_wp2
  go_loopw [7, 8, 9, 10, 13] (fun _ _ _ _ i wr => ∃ k n : Nat, k ≤ x.length ∧ k ≤ y.length ∧ i = .int .i64 k ∧ wr = w.drewN n ∧ Hid (cmpL x y = cmpL (x.drop k) (y.drop k))) (fun _ _ _ _ i _ => x.length - (intOf i).toNat)
  case atStart => exact ⟨0, 0, Nat.zero_le _, Nat.zero_le _, rfl, rfl, Lib.hid (by simp)⟩
  case round =>
    obtain ⟨k, n, hk, hk', rfl, rfl, H⟩ := hrel
    by_cases hlt : k < x.length
    · obtain ⟨g, off, rfl, _, hca⟩ := ha (by omega)
      have d1 : w.cell? ⟨g, off + k, none⟩ = some (.string ⟨x[k].toArray⟩) := hca k hlt
      have k0 : (0 : Int) ≤ (k : Int) := by omega
      have k1 : (k : Int) < (x.length : Int) := by omega
      by_cases hlt2 : k < y.length
      · obtain ⟨g2, off2, rfl, _, hcb⟩ := hb (by omega)
        have d2 : w.cell? ⟨g2, off2 + k, none⟩ = some (.string ⟨y[k].toArray⟩) := hcb k hlt2
        have k2 : (k : Int) < (y.length : Int) := by omega
        have HC := Lib.hid (fun W => compareIdentifiers_any ⟨x[k].toArray⟩ ⟨y[k].toArray⟩ W (sm_get HX.out k hlt) (sm_get HY.out k hlt2))
        have HS := Lib.hid (cmpL_step hlt hlt2)
        clear ha hb hca hcb
        obtain ⟨z, HZ⟩ : ∃ z, Hid (cmpPart x[k] y[k] = z) := ⟨_, Lib.hid rfl⟩
        by_cases hz : z = 0
        · have hz' : (z != 0) = false := by simp [hz]
          have HN : Hid (cmpL x y = cmpL (x.drop (k + 1)) (y.drop (k + 1))) := Lib.hid (by rw [H.out, HS.out, HZ.out, hz]; rfl)
          clear hz
          go_wp2_with fail
          refine (HC.out _).mono ?_
          rw [show cmpPart (⟨x[k].toArray⟩ : ByteArray).data.toList (⟨y[k].toArray⟩ : ByteArray).data.toList = z from HZ.out]
          rintro e w' ⟨rfl, m, rfl⟩
          go_wp2_with fail
          go_roundw
          case rel => exact ⟨k + 1, n + m, by omega, by omega, by go_num, by simp [World.drewN], HN⟩
          case measure => simp [intOf]; omega
        · have hz' : (z != 0) = true := by simp [hz]
          have HN : Hid (cmpL x y = z) := Lib.hid (by rw [H.out, HS.out, HZ.out]; exact orI_ne _ hz)
          clear hz
          go_wp2_with fail
          refine (HC.out _).mono ?_
          rw [show cmpPart (⟨x[k].toArray⟩ : ByteArray).data.toList (⟨y[k].toArray⟩ : ByteArray).data.toList = z from HZ.out]
          rintro e w' ⟨rfl, m, rfl⟩
          go_wp2_with fail
          go_ret
          exact ⟨ret_int HN.out.symm, n + m, by simp [World.drewN]⟩
      · have HN : Hid (cmpL x y = 1) := Lib.hid (by rw [H.out]; exact cmpL_right hlt hlt2)
        clear ha hb hca
        go_wp2_with fail
        go_ret
        exact ⟨ret_int HN.out.symm, n, rfl⟩
    · clear ha hb
      by_cases hlt2 : k < y.length
      · have HN : Hid (cmpL x y = -1) := Lib.hid (by rw [H.out]; exact cmpL_left hlt hlt2)
        have hl : (x.length : Int) < (y.length : Int) := by omega
        go_wp2_with fail
        go_ret
        exact ⟨ret_int HN.out.symm, n, rfl⟩
      · have HN : Hid (cmpL x y = 0) := Lib.hid (by rw [H.out]; exact cmpL_end hlt hlt2)
        have hl : ¬ (x.length : Int) < (y.length : Int) := by omega
        go_wp2_with fail
        go_ret
        exact ⟨ret_int HN.out.symm, n, rfl⟩

set_option maxRecDepth 100000 in
set_option maxHeartbeats 1000000 in
theorem comparePre_any (va vb : Value) (x y : List (List UInt8)) (w : World) (ha : RdS w va x) (hb : RdS w vb y) (hx : Sm x) (hy : Sm y) :
    Calls Tryz.prog 296 #[va, vb] w fun e w' => e = .returned (.int .i64 (cmpPre x y)) ∧ ∃ n, w' = w.drewN n := by
  have HC := Lib.hid (compareFunc_any va vb x y w ha hb hx hy)
  obtain ⟨A, ca, rfl, _⟩ := ha
  obtain ⟨B, cb, rfl, _⟩ := hb
  have hx1 := hx.1
  have hy1 := hy.1
  by_cases h1 : x = []
  · have HP := Lib.hid (cmpPre_empty (x := x) (y := y) (.inl h1))
    have q1 : ((x.length : Int) == 0) = true := by simp [h1]
    clear h1 hx hy HC
    go_enter Tryz.func296, Tryz.ntmps296
    go_wp2_with (go_at_call 295; refine (cmpInt_any _ _ _).mono ?_; rintro e w' ⟨rfl, rfl⟩)
    go_ret
    exact ⟨ret_int HP.out.symm, 0, rfl⟩
  · have hl1 : 0 < x.length := by cases x <;> simp_all
    have q1 : ((x.length : Int) == 0) = false := int_beq_false (by omega)
    by_cases h2 : y = []
    · have HP := Lib.hid (cmpPre_empty (x := x) (y := y) (.inr h2))
      have q2 : ((y.length : Int) == 0) = true := by simp [h2]
      clear h1 h2 hx hy HC
      go_enter Tryz.func296, Tryz.ntmps296
      go_wp2_with (go_at_call 295; refine (cmpInt_any _ _ _).mono ?_; rintro e w' ⟨rfl, rfl⟩)
      go_ret
      exact ⟨ret_int HP.out.symm, 0, rfl⟩
    · have hl2 : 0 < y.length := by cases y <;> simp_all
      have q2 : ((y.length : Int) == 0) = false := int_beq_false (by omega)
      have HP := Lib.hid (cmpPre_full (x := x) (y := y) (by rintro (h | h); exact h1 h; exact h2 h))
      clear h1 h2 hx hy
      go_enter Tryz.func296, Tryz.ntmps296
      go_wp2_with fail
      refine HC.out.mono ?_
      rintro e w' ⟨rfl, n, rfl⟩
      go_wp2_with fail
      go_ret
      exact ⟨ret_int HP.out.symm, n, rfl⟩

set_option maxRecDepth 100000 in
set_option maxHeartbeats 1000000 in
theorem cmpOr4_any (p q r s : Int) (w : World) (B : Nat) (t : TypeId) (hB : w.heap[B]? = some (.cells #[.int .i64 p, .int .i64 q, .int .i64 r, .int .i64 s] t)) :
    Calls Tryz.prog 294 #[.slice (some ⟨B, 0, none⟩) 4 4] w fun e w' => e = .returned (.int .i64 (orI p (orI q (orI r s)))) ∧ w' = w := by
  have c0 : w.cell? ⟨B, 0, none⟩ = some (.int .i64 p) := by simp [World.cell?, hB]
  have c1 : w.cell? ⟨B, 1, none⟩ = some (.int .i64 q) := by simp [World.cell?, hB]
  have c2 : w.cell? ⟨B, 2, none⟩ = some (.int .i64 r) := by simp [World.cell?, hB]
  have c3 : w.cell? ⟨B, 3, none⟩ = some (.int .i64 s) := by simp [World.cell?, hB]
  clear hB
  by_cases hp : p = 0
  · by_cases hq : q = 0
    · by_cases hr : r = 0
      · have HO : Hid (orI p (orI q (orI r s)) = s) := Lib.hid (by rw [hp, hq, hr]; rfl)
        have q1 : (p != 0) = false := by simp [hp]
        have q2 : (q != 0) = false := by simp [hq]
        have q3 : (r != 0) = false := by simp [hr]
        clear hp hq hr
        by_cases hs : s = 0
        · have HO2 : Hid (orI p (orI q (orI r s)) = 0) := Lib.hid (by rw [HO.out, hs])
          have q4 : (s != 0) = false := by simp [hs]
          clear hs
          go_enter Tryz.func294, Tryz.ntmps294
          go_wp2
          refine wp_loop_rounds 5 ?_
          rw [rounds_succ]; go_wp2
          rw [rounds_succ]; go_wp2
          rw [rounds_succ]; go_wp2
          rw [rounds_succ]; go_wp2
          rw [rounds_succ]; go_wp2
          go_ret
          exact ⟨ret_int HO2.out.symm, rfl⟩
        · have q4 : (s != 0) = true := by simp [hs]
          clear hs
          go_enter Tryz.func294, Tryz.ntmps294
          go_wp2
          refine wp_loop_rounds 4 ?_
          rw [rounds_succ]; go_wp2
          rw [rounds_succ]; go_wp2
          rw [rounds_succ]; go_wp2
          rw [rounds_succ]; go_wp2
          go_ret
          exact ⟨ret_int HO.out.symm, rfl⟩
      · have HO : Hid (orI p (orI q (orI r s)) = r) := Lib.hid (by rw [hp, hq, orI_zero, orI_zero, orI_ne _ hr])
        have q1 : (p != 0) = false := by simp [hp]
        have q2 : (q != 0) = false := by simp [hq]
        have q3 : (r != 0) = true := by simp [hr]
        clear hp hq hr
        go_enter Tryz.func294, Tryz.ntmps294
        go_wp2
        refine wp_loop_rounds 3 ?_
        rw [rounds_succ]; go_wp2
        rw [rounds_succ]; go_wp2
        rw [rounds_succ]; go_wp2
        go_ret
        exact ⟨ret_int HO.out.symm, rfl⟩
    · have HO : Hid (orI p (orI q (orI r s)) = q) := Lib.hid (by rw [hp, orI_zero, orI_ne _ hq])
      have q1 : (p != 0) = false := by simp [hp]
      have q2 : (q != 0) = true := by simp [hq]
      clear hp hq
      go_enter Tryz.func294, Tryz.ntmps294
      go_wp2
      refine wp_loop_rounds 2 ?_
      rw [rounds_succ]; go_wp2
      rw [rounds_succ]; go_wp2
      go_ret
      exact ⟨ret_int HO.out.symm, rfl⟩
  · have HO : Hid (orI p (orI q (orI r s)) = p) := Lib.hid (orI_ne _ hp)
    have q1 : (p != 0) = true := by simp [hp]
    clear hp
    go_enter Tryz.func294, Tryz.ntmps294
    go_wp2
    refine wp_loop_rounds 1 ?_
    rw [rounds_succ]; go_wp2
    go_ret
    exact ⟨ret_int HO.out.symm, rfl⟩
end Go.Proofs.YtnodhkjgnegkcaaGreatDoor

/-
  impl.CompareVersion: how two versions stand.
-/
namespace Go.Proofs.YtnodhkjgnegkcaaGreatDoor
open Go.RowKit

set_option maxRecDepth 100000 in
set_option maxHeartbeats 8000000 in
theorem implCompareVersion_grow (a b c a' b' c' : Int) (va vb : Value) (x y : List (List UInt8)) (w : World) (ha : RdS w va x) (hb : RdS w vb y) (hx : Sm x) (hy : Sm y) :
    Calls Tryz.prog 282 #[.agg #[.int .i64 a, .int .i64 b, .int .i64 c, va], .agg #[.int .i64 a', .int .i64 b', .int .i64 c', vb]] w fun e w' => ∃ q o, e = .returned (.int .i64 (cmpVer a b c x a' b' c' y)) ∧ w' = (((w.alloc (.cells #[.int .i64 a, .int .i64 b, .int .i64 c, va] 117)).alloc (.cells #[.int .i64 a', .int .i64 b', .int .i64 c', vb] 117)).drewN q).alloc o := by
  have HP := Lib.hid (fun (W : World) (h : Below w.heap.size w W) => comparePre_any va vb x y W (ha.below h) (hb.below h) hx hy)
  have HV : Hid (cmpVer a b c x a' b' c' y = orI (cmpI a a') (orI (cmpI b b') (orI (cmpI c c') (cmpPre x y)))) := Lib.hid rfl
  have HB : Below w.heap.size w ((w.alloc (.cells #[.int .i64 a, .int .i64 b, .int .i64 c, va] 117)).alloc (.cells #[.int .i64 a', .int .i64 b', .int .i64 c', vb] 117)) := ((Below.refl _ _).alloc (Nat.le_refl _) _).alloc (by simp) _
  clear ha hb hx hy
  go_enter Tryz.func282, Tryz.ntmps282
  go_wp2_with fail
  have c0 : ((w.alloc (.cells #[.int .i64 a, .int .i64 b, .int .i64 c, va] 117)).alloc (.cells #[.int .i64 a', .int .i64 b', .int .i64 c', vb] 117)).cell? ⟨w.heap.size, 0, none⟩ = some (.int .i64 a) := by simp
  have c1 : ((w.alloc (.cells #[.int .i64 a, .int .i64 b, .int .i64 c, va] 117)).alloc (.cells #[.int .i64 a', .int .i64 b', .int .i64 c', vb] 117)).cell? ⟨w.heap.size, 1, none⟩ = some (.int .i64 b) := by simp
  have c2 : ((w.alloc (.cells #[.int .i64 a, .int .i64 b, .int .i64 c, va] 117)).alloc (.cells #[.int .i64 a', .int .i64 b', .int .i64 c', vb] 117)).cell? ⟨w.heap.size, 2, none⟩ = some (.int .i64 c) := by simp
  have c3 : ((w.alloc (.cells #[.int .i64 a, .int .i64 b, .int .i64 c, va] 117)).alloc (.cells #[.int .i64 a', .int .i64 b', .int .i64 c', vb] 117)).cell? ⟨w.heap.size, 3, none⟩ = some va := by simp
  have e0 : ((w.alloc (.cells #[.int .i64 a, .int .i64 b, .int .i64 c, va] 117)).alloc (.cells #[.int .i64 a', .int .i64 b', .int .i64 c', vb] 117)).cell? ⟨w.heap.size + 1, 0, none⟩ = some (.int .i64 a') := by simp
  have e1 : ((w.alloc (.cells #[.int .i64 a, .int .i64 b, .int .i64 c, va] 117)).alloc (.cells #[.int .i64 a', .int .i64 b', .int .i64 c', vb] 117)).cell? ⟨w.heap.size + 1, 1, none⟩ = some (.int .i64 b') := by simp
  have e2 : ((w.alloc (.cells #[.int .i64 a, .int .i64 b, .int .i64 c, va] 117)).alloc (.cells #[.int .i64 a', .int .i64 b', .int .i64 c', vb] 117)).cell? ⟨w.heap.size + 1, 2, none⟩ = some (.int .i64 c') := by simp
  have e3 : ((w.alloc (.cells #[.int .i64 a, .int .i64 b, .int .i64 c, va] 117)).alloc (.cells #[.int .i64 a', .int .i64 b', .int .i64 c', vb] 117)).cell? ⟨w.heap.size + 1, 3, none⟩ = some vb := by simp
  have l1 : w.heap.size + 1 < ((w.alloc (.cells #[.int .i64 a, .int .i64 b, .int .i64 c, va] 117)).alloc (.cells #[.int .i64 a', .int .i64 b', .int .i64 c', vb] 117)).heap.size := by simp
  obtain ⟨n0, hn0⟩ : ∃ n, n = w.heap.size := ⟨_, rfl⟩
  rw [← hn0] at HB c0 c1 c2 c3 e0 e1 e2 e3 l1 ⊢
  obtain ⟨W, hW⟩ : ∃ W, W = ((w.alloc (.cells #[.int .i64 a, .int .i64 b, .int .i64 c, va] 117)).alloc (.cells #[.int .i64 a', .int .i64 b', .int .i64 c', vb] 117)) := ⟨_, rfl⟩
  rw [← hW] at HB c0 c1 c2 c3 e0 e1 e2 e3 l1 ⊢
  have HW := Lib.hid hW
  clear hW
  have HN0 := Lib.hid hn0
  clear hn0
  go_region_held3 (fun w' => w'.cell? ⟨n0, 0, none⟩ = some (.int .i64 a) ∧ w'.cell? ⟨n0, 1, none⟩ = some (.int .i64 b) ∧ w'.cell? ⟨n0, 2, none⟩ = some (.int .i64 c) ∧ w'.cell? ⟨n0, 3, none⟩ = some va ∧ w'.cell? ⟨n0 + 1, 0, none⟩ = some (.int .i64 a') ∧ w'.cell? ⟨n0 + 1, 1, none⟩ = some (.int .i64 b') ∧ w'.cell? ⟨n0 + 1, 2, none⟩ = some (.int .i64 c') ∧ w'.cell? ⟨n0 + 1, 3, none⟩ = some vb) (first | exact ⟨c0, c1, c2, c3, e0, e1, e2, e3⟩ | go_keep) ((first | (go_at_call 295; (with_reducible refine (cmpInt_any _ _ _).mono ?_); rintro e w' ⟨rfl, rfl⟩) | (go_at_call 296; (with_reducible refine (HP.out _ (by first | exact HN0.out ▸ HB.trans (below_drewN _ _ 1))).mono ?_); rintro e w' ⟨rfl, nq, rfl⟩) | (go_at_call 294; refine (cmpOr4_any _ _ _ _ _ _ _ (heap_alloc_new _ _)).mono ?_; rintro e w' ⟨rfl, rfl⟩)))
  all_goals
    go_wp2_with fail
    go_ret
    exact ⟨1 + nq, _, ret_int HV.out.symm, by rw [← HW.out]⟩

theorem implCompareVersion_any (a b c a' b' c' : Int) (va vb : Value) (x y : List (List UInt8)) (w : World) (ha : RdS w va x) (hb : RdS w vb y) (hx : Sm x) (hy : Sm y) :
    Calls Tryz.prog 282 #[.agg #[.int .i64 a, .int .i64 b, .int .i64 c, va], .agg #[.int .i64 a', .int .i64 b', .int .i64 c', vb]] w fun e w' => e = .returned (.int .i64 (cmpVer a b c x a' b' c' y)) ∧ Below w.heap.size w w' := by
  refine (implCompareVersion_grow a b c a' b' c' va vb x y w ha hb hx hy).mono ?_
  rintro e w' ⟨q, o, rfl, rfl⟩
  exact ⟨rfl, ((((Below.refl _ _).alloc (Nat.le_refl _) _).alloc (by simp) _).trans (below_drewN _ _ q)).alloc (by simp [World.drewN]; omega) _⟩
end Go.Proofs.YtnodhkjgnegkcaaGreatDoor

/-
  The test of a bound: impl.sameNumbers, impl.testOf and what it hands back.
-/
namespace Go.Proofs.YtnodhkjgnegkcaaGreatDoor
open Go.RowKit

theorem cells1T {V : World} {B : Nat} {T : TypeId} {v0 : Value} (h : V.heap[B]? = some (.cells #[v0] T)) : V.cell? ⟨B, 0, none⟩ = some v0 := by
  simp [World.cell?, h]

set_option maxRecDepth 100000 in
set_option maxHeartbeats 1000000 in
theorem sameNumbers_any (a0 a1 a2 b0 b1 b2 : Int) (pA qA : Option Addr) (pn pc qn qc : Nat) (w : World) :
    Calls Tryz.prog 283 #[.agg #[.int .i64 a0, .int .i64 a1, .int .i64 a2, .slice pA pn pc], .agg #[.int .i64 b0, .int .i64 b1, .int .i64 b2, .slice qA qn qc]] w fun e w' => e = .returned (.bool ((b0 == a0) && (b1 == a1) && (b2 == a2))) ∧ Below w.heap.size w w' := by
  have HB : Below w.heap.size w ((w.alloc (.cells #[.int .i64 a0, .int .i64 a1, .int .i64 a2, .slice pA pn pc] 117)).alloc (.cells #[.int .i64 b0, .int .i64 b1, .int .i64 b2, .slice qA qn qc] 117)) := ((Below.refl _ _).alloc (Nat.le_refl _) _).alloc (by simp) _
  obtain ⟨r, HR⟩ : ∃ r, Hid (((b0 == a0) && (b1 == a1) && (b2 == a2)) = r) := ⟨_, Lib.hid rfl⟩
  rw [HR.out]
  by_cases h0 : a0 = b0
  · have q0 : (a0 == b0) = true := by simp [h0]
    have p0 : (b0 == a0) = true := by simp [h0]
    by_cases h1 : a1 = b1
    · have q1 : (a1 == b1) = true := by simp [h1]
      have p1 : (b1 == a1) = true := by simp [h1]
      by_cases h2 : a2 = b2
      · have q2 : (a2 == b2) = true := by simp [h2]
        have p2 : (b2 == a2) = true := by simp [h2]
        have HF : Hid (r = true) := Lib.hid (by rw [← HR.out, p0, p1, p2]; rfl)
        clear h0 h1 h2 p0 p1 p2 HR
        go_enter Tryz.func283, Tryz.ntmps283
        go_wp2_with fail
        go_ret
        exact ⟨ret_bool HF.out.symm, HB⟩
      · have q2 : (a2 == b2) = false := int_beq_false h2
        have p2 : (b2 == a2) = false := int_beq_false (fun e => h2 e.symm)
        have HF : Hid (r = false) := Lib.hid (by rw [← HR.out, p2]; simp)
        clear h0 h1 h2 p0 p1 p2 HR
        go_enter Tryz.func283, Tryz.ntmps283
        go_wp2_with fail
        go_ret
        exact ⟨ret_bool HF.out.symm, HB⟩
    · have q1 : (a1 == b1) = false := int_beq_false h1
      have p1 : (b1 == a1) = false := int_beq_false (fun e => h1 e.symm)
      have HF : Hid (r = false) := Lib.hid (by rw [← HR.out, p1]; simp)
      clear h0 h1 p0 p1 HR
      go_enter Tryz.func283, Tryz.ntmps283
      go_wp2_with fail
      go_ret
      exact ⟨ret_bool HF.out.symm, HB⟩
  · have q0 : (a0 == b0) = false := int_beq_false h0
    have p0 : (b0 == a0) = false := int_beq_false (fun e => h0 e.symm)
    have HF : Hid (r = false) := Lib.hid (by rw [← HR.out, p0]; simp)
    clear h0 p0 HR
    go_enter Tryz.func283, Tryz.ntmps283
    go_wp2_with fail
    go_ret
    exact ⟨ret_bool HF.out.symm, HB⟩

/-- The value f is a test of the bound of these texts. -/
def TestAt (w : World) (f : Value) (b : Bd) : Prop := ∃ (Bb Bl Cb Cl uc tc : Nat) (uA tA : Option Addr), f = .func (.func 281) #[] #[.pointer (some ⟨Bb, 0, none⟩), .pointer (some ⟨Bl, 0, none⟩), .pointer (some ⟨Cb, 0, none⟩), .pointer (some ⟨Cl, 0, none⟩)] ∧
  w.heap[Bb]? = some (.cells #[.bool (readOk b.1)] 4) ∧ w.heap[Bl]? = some (.cells #[.int .i64 (readA b.1 0), .int .i64 (readA b.1 1), .int .i64 (readA b.1 2), .slice uA (readP b.1).length uc] 117) ∧
  w.heap[Cb]? = some (.cells #[.bool (readOk b.2)] 4) ∧ w.heap[Cl]? = some (.cells #[.int .i64 (readA b.2 0), .int .i64 (readA b.2 1), .int .i64 (readA b.2 2), .slice tA (readP b.2).length tc] 117) ∧
  Strs w 0 (.slice uA (readP b.1).length uc) (readP b.1) ∧ Strs w 0 (.slice tA (readP b.2).length tc) (readP b.2)
theorem TestAt.below {w w' : World} {f : Value} {b : Bd} (h : TestAt w f b) (hb : Below w.heap.size w w') : TestAt w' f b := by
  obtain ⟨Bb, Bl, Cb, Cl, uc, tc, uA, tA, e, h1, h2, h3, h4, h5, h6⟩ := h
  exact ⟨Bb, Bl, Cb, Cl, uc, tc, uA, tA, e, keepB h1 hb, keepB h2 hb, keepB h3 hb, keepB h4 hb, h5.below hb, h6.below hb⟩

set_option maxRecDepth 100000 in
set_option maxHeartbeats 1000000 in
theorem testOf_any (x y : ByteArray) (w : World) (sx : x.size ≤ 1048576) (sy : y.size ≤ 1048576) :
    Calls Tryz.prog 249 #[.agg #[.string x, .string y]] w fun e w' => ∃ f, e = .returned f ∧ TestAt w' f (x.data.toList, y.data.toList) ∧ f.oneCell' = true ∧ Below w.heap.size w w' := by
  have B0 : Below w.heap.size w (w.alloc (.cells #[.string x, .string y] 166)) := (Below.refl _ _).alloc (Nat.le_refl _) _
  have b0 := heap_alloc_new w (.cells #[.string x, .string y] 166)
  go_enter Tryz.func249, Tryz.ntmps249
  go_wp2_with fail
  refine (implReadVersion_any _ _ sx).mono ?_
  rintro e w1 ⟨u, rfl, hu, hb1⟩
  obtain ⟨uA, uc, rfl⟩ := hu.slice
  have B1 := B0.trans (hb1.mono B0.size)
  have b1 := keepA (keepA (keepB b0 hb1) (.cells #[.int .i64 (readA x.data.toList 0), .int .i64 (readA x.data.toList 1), .int .i64 (readA x.data.toList 2), .slice uA (readP x.data.toList).length uc] 117)) (.cells #[.bool (readOk x.data.toList)] 4)
  have l1 := keepA (heap_alloc_new w1 (.cells #[.int .i64 (readA x.data.toList 0), .int .i64 (readA x.data.toList 1), .int .i64 (readA x.data.toList 2), .slice uA (readP x.data.toList).length uc] 117)) (.cells #[.bool (readOk x.data.toList)] 4)
  have k1 := heap_new (W := w1.alloc (.cells #[.int .i64 (readA x.data.toList 0), .int .i64 (readA x.data.toList 1), .int .i64 (readA x.data.toList 2), .slice uA (readP x.data.toList).length uc] 117)) (n := w1.heap.size + 1) (by simp) (.cells #[.bool (readOk x.data.toList)] 4)
  have r1 := Strs.alloc (Strs.alloc (hu.weaken (Nat.zero_le _)) (.cells #[.int .i64 (readA x.data.toList 0), .int .i64 (readA x.data.toList 1), .int .i64 (readA x.data.toList 2), .slice uA (readP x.data.toList).length uc] 117)) (.cells #[.bool (readOk x.data.toList)] 4)
  have B1' := (B1.alloc B1.size (.cells #[.int .i64 (readA x.data.toList 0), .int .i64 (readA x.data.toList 1), .int .i64 (readA x.data.toList 2), .slice uA (readP x.data.toList).length uc] 117)).alloc (by simp; have := B1.size; omega) (.cells #[.bool (readOk x.data.toList)] 4)
  obtain ⟨s0, s1⟩ := cellsB b1
  clear B0 b0 hb1 hu B1 b1
  go_wp2_with fail
  refine (implReadVersion_any _ _ sy).mono ?_
  rintro e w2 ⟨t, rfl, ht, hb2⟩
  obtain ⟨tA, tc, rfl⟩ := ht.slice
  have B2 := B1'.trans (hb2.mono B1'.size)
  have l2 := keepA (keepA (keepB l1 hb2) (.cells #[.int .i64 (readA y.data.toList 0), .int .i64 (readA y.data.toList 1), .int .i64 (readA y.data.toList 2), .slice tA (readP y.data.toList).length tc] 117)) (.cells #[.bool (readOk y.data.toList)] 4)
  have k2 := keepA (keepA (keepB k1 hb2) (.cells #[.int .i64 (readA y.data.toList 0), .int .i64 (readA y.data.toList 1), .int .i64 (readA y.data.toList 2), .slice tA (readP y.data.toList).length tc] 117)) (.cells #[.bool (readOk y.data.toList)] 4)
  have r2 := Strs.alloc (Strs.alloc (r1.below hb2) (.cells #[.int .i64 (readA y.data.toList 0), .int .i64 (readA y.data.toList 1), .int .i64 (readA y.data.toList 2), .slice tA (readP y.data.toList).length tc] 117)) (.cells #[.bool (readOk y.data.toList)] 4)
  have l3 := keepA (heap_alloc_new w2 (.cells #[.int .i64 (readA y.data.toList 0), .int .i64 (readA y.data.toList 1), .int .i64 (readA y.data.toList 2), .slice tA (readP y.data.toList).length tc] 117)) (.cells #[.bool (readOk y.data.toList)] 4)
  have k3 := heap_new (W := w2.alloc (.cells #[.int .i64 (readA y.data.toList 0), .int .i64 (readA y.data.toList 1), .int .i64 (readA y.data.toList 2), .slice tA (readP y.data.toList).length tc] 117)) (n := w2.heap.size + 1) (by simp) (.cells #[.bool (readOk y.data.toList)] 4)
  have r3 := Strs.alloc (Strs.alloc (ht.weaken (Nat.zero_le _)) (.cells #[.int .i64 (readA y.data.toList 0), .int .i64 (readA y.data.toList 1), .int .i64 (readA y.data.toList 2), .slice tA (readP y.data.toList).length tc] 117)) (.cells #[.bool (readOk y.data.toList)] 4)
  have B2' := (B2.alloc B2.size (.cells #[.int .i64 (readA y.data.toList 0), .int .i64 (readA y.data.toList 1), .int .i64 (readA y.data.toList 2), .slice tA (readP y.data.toList).length tc] 117)).alloc (by simp; have := B2.size; omega) (.cells #[.bool (readOk y.data.toList)] 4)
  clear s0 s1 l1 k1 r1 B1' hb2 ht B2
  go_wp2_with fail
  go_ret
  exact ⟨_, rfl, ⟨_, _, _, _, _, _, _, _, rfl, k2, l2, k3, l3, r2, r3⟩, rfl, B2'⟩
end Go.Proofs.YtnodhkjgnegkcaaGreatDoor

namespace Go.Proofs.YtnodhkjgnegkcaaGreatDoor
open Go.RowKit

set_option maxRecDepth 100000 in
set_option maxHeartbeats 4000000 in
theorem test1_any (b : Bd) (f0 : Value) (a0 a1 a2 : Int) (vp : Value) (p : List (List UInt8)) (w : World) (hf : TestAt w f0 b) (hr : RdS w vp p) (hp : Sm p) (sx : b.1.length ≤ 1048576) (sy : b.2.length ≤ 1048576) :
    ∃ cs, f0 = .func (.func 281) #[] cs ∧ Calls Tryz.prog 281 (#[.agg #[.int .i64 a0, .int .i64 a1, .int .i64 a2, vp]] ++ cs) w fun e w' => e = .returned (.bool (takes b a0 a1 a2 p)) ∧ Below w.heap.size w w' := by
  obtain ⟨Bb, Bl, Cb, Cl, uc, tc, uA, tA, rfl, kb, lb, kc, lc, hRL, hRH⟩ := hf
  refine ⟨_, rfl, ?_⟩
  have HP := Lib.hid hp
  have HR := Lib.hid (fun (W : World) (h : Below w.heap.size w W) => hr.below h)
  have HRL := Lib.hid (RdS.of_strs hRL)
  have HRH := Lib.hid (RdS.of_strs hRH)
  obtain ⟨pA, pc, rfl, _⟩ := hr
  have hpl := hp.1
  have hL5 := readP_sm b.1
  have HSL : Hid (Sm (readP b.1)) := Lib.hid (readP_Sm sx)
  have HSH : Hid (Sm (readP b.2)) := Lib.hid (readP_Sm sy)
  clear hp hRL hRH
  obtain ⟨r, HRR⟩ : ∃ r, Hid (takes b a0 a1 a2 p = r) := ⟨_, Lib.hid rfl⟩
  rw [HRR.out]
  obtain ⟨okL, HOL⟩ : ∃ z, Hid (readOk b.1 = z) := ⟨_, Lib.hid rfl⟩
  obtain ⟨okH, HOH⟩ : ∃ z, Hid (readOk b.2 = z) := ⟨_, Lib.hid rfl⟩
  obtain ⟨cL, HCL⟩ : ∃ z, Hid (cmpVer a0 a1 a2 p (readA b.1 0) (readA b.1 1) (readA b.1 2) (readP b.1) = z) := ⟨_, Lib.hid rfl⟩
  obtain ⟨cH, HCH⟩ : ∃ z, Hid (cmpVer a0 a1 a2 p (readA b.2 0) (readA b.2 1) (readA b.2 2) (readP b.2) = z) := ⟨_, Lib.hid rfl⟩
  have HT : Hid (r = if (okL && decide (cL < 0)) || (okH && decide (0 ≤ cH)) then false else ((p.length : Int) == 0) || (decide (0 < (readP b.1).length) && ((readA b.1 0 == a0) && (readA b.1 1 == a1) && (readA b.1 2 == a2)))) := Lib.hid (by rw [← HRR.out, ← HOL.out, ← HOH.out, ← HCL.out, ← HCH.out]; rfl)
  have HN : Hid (okL = false → (readP b.1).length = 0) := Lib.hid (fun h => by rw [readP_no (HOL.out.trans h)]; rfl)
  obtain ⟨m, HM⟩ : ∃ m, Hid ((readP b.1).length = m) := ⟨_, Lib.hid rfl⟩
  obtain ⟨mh, HMH⟩ : ∃ m, Hid ((readP b.2).length = m) := ⟨_, Lib.hid rfl⟩
  obtain ⟨l0, HL0⟩ : ∃ z, Hid (readA b.1 0 = z) := ⟨_, Lib.hid rfl⟩
  obtain ⟨l1, HL1⟩ : ∃ z, Hid (readA b.1 1 = z) := ⟨_, Lib.hid rfl⟩
  obtain ⟨l2, HL2⟩ : ∃ z, Hid (readA b.1 2 = z) := ⟨_, Lib.hid rfl⟩
  obtain ⟨h0, HH0⟩ : ∃ z, Hid (readA b.2 0 = z) := ⟨_, Lib.hid rfl⟩
  obtain ⟨h1, HH1⟩ : ∃ z, Hid (readA b.2 1 = z) := ⟨_, Lib.hid rfl⟩
  obtain ⟨h2, HH2⟩ : ∃ z, Hid (readA b.2 2 = z) := ⟨_, Lib.hid rfl⟩
  rw [HM.out] at hL5
  rw [HOL.out] at kb
  rw [HOH.out] at kc
  rw [HL0.out, HL1.out, HL2.out, HM.out] at lb
  rw [HH0.out, HH1.out, HH2.out, HMH.out] at lc
  have HT2 : Hid (r = if (okL && decide (cL < 0)) || (okH && decide (0 ≤ cH)) then false else ((p.length : Int) == 0) || (decide (0 < m) && ((l0 == a0) && (l1 == a1) && (l2 == a2)))) := Lib.hid (by rw [HT.out, HM.out, HL0.out, HL1.out, HL2.out])
  have HN2 : Hid (okL = false → m = 0) := Lib.hid (fun h => by rw [← HM.out]; exact HN.out h)
  clear HT HN HRR
  have B2' : Below w.heap.size w (w.alloc (.cells #[.int .i64 a0, .int .i64 a1, .int .i64 a2, .slice pA p.length pc] 117)) := (Below.refl _ _).alloc (Nat.le_refl _) _
  have v2 := heap_alloc_new w (.cells #[.int .i64 a0, .int .i64 a1, .int .i64 a2, .slice pA p.length pc] 117)
  have kb' := keepA kb (.cells #[.int .i64 a0, .int .i64 a1, .int .i64 a2, .slice pA p.length pc] 117)
  have kc' := keepA kc (.cells #[.int .i64 a0, .int .i64 a1, .int .i64 a2, .slice pA p.length pc] 117)
  have lw := keepA lb (.cells #[.int .i64 a0, .int .i64 a1, .int .i64 a2, .slice pA p.length pc] 117)
  have hh := keepA lc (.cells #[.int .i64 a0, .int .i64 a1, .int .i64 a2, .slice pA p.length pc] 117)
  have CL : ∀ (W : World), Below (w.alloc (.cells #[.int .i64 a0, .int .i64 a1, .int .i64 a2, .slice pA p.length pc] 117)).heap.size (w.alloc (.cells #[.int .i64 a0, .int .i64 a1, .int .i64 a2, .slice pA p.length pc] 117)) W → Calls Tryz.prog 282 #[.agg #[.int .i64 a0, .int .i64 a1, .int .i64 a2, .slice pA p.length pc], .agg #[.int .i64 l0, .int .i64 l1, .int .i64 l2, .slice uA m uc]] W fun e w' => e = .returned (.int .i64 cL) ∧ Below W.heap.size W w' := fun W hW => by
    have hw := B2'.trans (hW.mono B2'.size)
    have hR := HRL.out.below hw
    rw [HM.out] at hR
    have := implCompareVersion_any a0 a1 a2 l0 l1 l2 _ _ p _ W (HR.out W hw) hR HP.out HSL.out
    rw [← HL0.out, ← HL1.out, ← HL2.out, HCL.out] at this
    rw [← HL0.out, ← HL1.out, ← HL2.out]
    exact this
  have CH : ∀ (W : World), Below (w.alloc (.cells #[.int .i64 a0, .int .i64 a1, .int .i64 a2, .slice pA p.length pc] 117)).heap.size (w.alloc (.cells #[.int .i64 a0, .int .i64 a1, .int .i64 a2, .slice pA p.length pc] 117)) W → Calls Tryz.prog 282 #[.agg #[.int .i64 a0, .int .i64 a1, .int .i64 a2, .slice pA p.length pc], .agg #[.int .i64 h0, .int .i64 h1, .int .i64 h2, .slice tA mh tc]] W fun e w' => e = .returned (.int .i64 cH) ∧ Below W.heap.size W w' := fun W hW => by
    have hw := B2'.trans (hW.mono B2'.size)
    have hR := HRH.out.below hw
    rw [HMH.out] at hR
    have := implCompareVersion_any a0 a1 a2 h0 h1 h2 _ _ p _ W (HR.out W hw) hR HP.out HSH.out
    rw [← HH0.out, ← HH1.out, ← HH2.out, HCH.out] at this
    rw [← HH0.out, ← HH1.out, ← HH2.out]
    exact this
  have HCLC := Lib.hid CL
  have HCHC := Lib.hid CH
  clear CL CH kb kc lb lc
  have c0 := cells1T kb'
  have c1 := cells1T kc'
  obtain ⟨x0, x1, x2, x3⟩ := cells4 v2
  obtain ⟨y0, y1, y2, y3⟩ := cells4 lw
  obtain ⟨z0, z1', z2, z3⟩ := cells4 hh
  clear HR HP HSL HSH HOL HOH HCL HCH HM HMH HL0 HL1 HL2 HH0 HH1 HH2 hL5 HRL HRH
  go_enter Tryz.func281, Tryz.ntmps281
  cases okL
  · have m0 : m = 0 := HN2.out rfl
    cases okH
    · skip
      by_cases hpe : p.length = 0
      · have q0 : ((p.length : Int) == 0) = true := by simp [hpe]
        have HF : Hid (r = true) := Lib.hid (by rw [HT2.out]; simp [q0])
        clear hpe
        go_wp2_with fail
        go_ret
        exact ⟨ret_bool HF.out.symm, B2'⟩
      have q0 : ((p.length : Int) == 0) = false := int_beq_false (by omega)
      clear hpe
      have HF : Hid (r = false) := Lib.hid (by rw [HT2.out]; simp [q0, m0])
      go_wp2_with fail
      go_ret
      exact ⟨ret_bool HF.out.symm, B2'⟩
    · go_wp2_with fail
      refine (HCHC.out _ (Below.refl _ _)).mono ?_
      rintro e w3 ⟨rfl, hb3⟩
      have B3 := B2'.trans (hb3.mono B2'.size)
      obtain ⟨x0', x1', x2', x3'⟩ := cells4 (keepB v2 hb3)
      obtain ⟨y0', y1', y2', y3'⟩ := cells4 (keepB lw hb3)
      clear x0 x1 x2 x3 y0 y1 y2 y3 z0 z1' z2 z3 hb3 c0 c1
      by_cases hcH : 0 ≤ cH
      · skip
        have HF : Hid (r = false) := Lib.hid (by rw [HT2.out]; simp [hcH])
        go_wp2_with fail
        go_ret
        exact ⟨ret_bool HF.out.symm, B3⟩
      · skip
        by_cases hpe : p.length = 0
        · have q0 : ((p.length : Int) == 0) = true := by simp [hpe]
          have HF : Hid (r = true) := Lib.hid (by rw [HT2.out]; simp [q0, hcH])
          clear hpe
          go_wp2_with fail
          go_ret
          exact ⟨ret_bool HF.out.symm, B3⟩
        have q0 : ((p.length : Int) == 0) = false := int_beq_false (by omega)
        clear hpe
        have HF : Hid (r = false) := Lib.hid (by rw [HT2.out]; simp [q0, m0, hcH])
        go_wp2_with fail
        go_ret
        exact ⟨ret_bool HF.out.symm, B3⟩
  · go_wp2_with fail
    refine (HCLC.out _ (Below.refl _ _)).mono ?_
    rintro e w3 ⟨rfl, hb3⟩
    have B3 := B2'.trans (hb3.mono B2'.size)
    have c1' := cells1T (keepB kc' hb3)
    obtain ⟨x0', x1', x2', x3'⟩ := cells4 (keepB v2 hb3)
    obtain ⟨y0', y1', y2', y3'⟩ := cells4 (keepB lw hb3)
    obtain ⟨z0', z1'', z2', z3'⟩ := cells4 (keepB hh hb3)
    clear x0 x1 x2 x3 y0 y1 y2 y3 z0 z1' z2 z3 c0 c1
    by_cases hcL : cL < 0
    · skip
      have HF : Hid (r = false) := Lib.hid (by rw [HT2.out]; simp [hcL])
      go_wp2_with fail
      go_ret
      exact ⟨ret_bool HF.out.symm, B3⟩
    cases okH
    · skip
      by_cases hpe : p.length = 0
      · have q0 : ((p.length : Int) == 0) = true := by simp [hpe]
        have HF : Hid (r = true) := Lib.hid (by rw [HT2.out]; simp [q0, hcL])
        clear hpe
        go_wp2_with fail
        go_ret
        exact ⟨ret_bool HF.out.symm, B3⟩
      have q0 : ((p.length : Int) == 0) = false := int_beq_false (by omega)
      clear hpe
      by_cases hme : m = 0
      · have q1 : ¬ (0 : Int) < (m : Int) := by omega
        have HF : Hid (r = false) := Lib.hid (by rw [HT2.out]; simp [q0, hme, hcL])
        clear hme
        go_wp2_with fail
        go_ret
        exact ⟨ret_bool HF.out.symm, B3⟩
      have q1 : (0 : Int) < (m : Int) := by omega
      have q1' : 0 < m := by omega
      clear hme
      have HF : Hid (((l0 == a0) && (l1 == a1) && (l2 == a2)) = r) := Lib.hid (by rw [HT2.out]; simp [q0, q1', hcL])
      go_wp2_with fail
      refine (sameNumbers_any _ _ _ _ _ _ _ _ _ _ _ _ _).mono ?_
      rw [HF.out]
      rintro e w9 ⟨rfl, hb9⟩
      have B9 := B3.trans (hb9.mono B3.size)
      go_wp2_with fail
      go_ret
      exact ⟨rfl, B9⟩
    · go_wp2_with fail
      refine (HCHC.out _ hb3).mono ?_
      rintro e w4 ⟨rfl, hb4⟩
      have B4 := B3.trans (hb4.mono B3.size)
      obtain ⟨x0, x1, x2, x3⟩ := cells4 (keepB (keepB v2 hb3) hb4)
      obtain ⟨y0, y1, y2, y3⟩ := cells4 (keepB (keepB lw hb3) hb4)
      clear x0' x1' x2' x3' y0' y1' y2' y3' z0' z1'' z2' z3' c1' hb3 hb4
      by_cases hcH : 0 ≤ cH
      · skip
        have HF : Hid (r = false) := Lib.hid (by rw [HT2.out]; simp [hcH])
        go_wp2_with fail
        go_ret
        exact ⟨ret_bool HF.out.symm, B4⟩
      · skip
        by_cases hpe : p.length = 0
        · have q0 : ((p.length : Int) == 0) = true := by simp [hpe]
          have HF : Hid (r = true) := Lib.hid (by rw [HT2.out]; simp [q0, hcL, hcH])
          clear hpe
          go_wp2_with fail
          go_ret
          exact ⟨ret_bool HF.out.symm, B4⟩
        have q0 : ((p.length : Int) == 0) = false := int_beq_false (by omega)
        clear hpe
        by_cases hme : m = 0
        · have q1 : ¬ (0 : Int) < (m : Int) := by omega
          have HF : Hid (r = false) := Lib.hid (by rw [HT2.out]; simp [q0, hme, hcH])
          clear hme
          go_wp2_with fail
          go_ret
          exact ⟨ret_bool HF.out.symm, B4⟩
        have q1 : (0 : Int) < (m : Int) := by omega
        have q1' : 0 < m := by omega
        clear hme
        have HF : Hid (((l0 == a0) && (l1 == a1) && (l2 == a2)) = r) := Lib.hid (by rw [HT2.out]; simp [q0, q1', hcL, hcH])
        go_wp2_with fail
        refine (sameNumbers_any _ _ _ _ _ _ _ _ _ _ _ _ _).mono ?_
        rw [HF.out]
        rintro e w9 ⟨rfl, hb9⟩
        have B9 := B4.trans (hb9.mono B4.size)
        go_wp2_with fail
        go_ret
        exact ⟨rfl, B9⟩
end Go.Proofs.YtnodhkjgnegkcaaGreatDoor
