/-
  impl.Holes: what stands between the versions of a range and is not in it.
-/
import Derived.Test.YtjpclglklmlhlabGreatDoorHolS
import Derived.Test.YtjpclglklmlhlabGreatDoorSrtI
import Derived.Test.YtjpclglklmlhlabGreatDoorInI
import Derived.Test.YtjpclglklmlhlabGreatDoorApp
import Derived.Test.YtjpclglklmlhlabGreatDoorMarkS
namespace Go.Proofs.YtjpclglklmlhlabGreatDoor
open Go.RowKit

theorem run_append_texts2 (w : World) (ty : TypeId) (base : Nat) (v : Value) (l : List (List UInt8)) (hown : Strs w base v l) (x : Value) (ls : List (List UInt8)) (hr : RdS w x ls) (hlen : l.length + ls.length ≤ 16777216) (hbase : base ≤ w.heap.size) :
    ∃ v' w', (Builtin.append_ #[22, 22] ty #[v, x]).run Tryz.prog w = .ok v' w' ∧ Strs w' base v' (l ++ ls) ∧ w.grownBy w' v.ownBlock ∧ (v'.ownBlock = v.ownBlock ∨ v'.ownBlock = some w.heap.size) := by
  obtain ⟨i0, hi, hz0, hz1, hz2⟩ := info_parts strinfo
  obtain ⟨A, cap, rfl, hc⟩ := hr
  have fin : ∀ (a : Addr), (∀ j u, (ls.map sv)[j]? = some u → w.cell? (a.add j) = some u) → ∃ v' w', (Builtin.append_ #[22, 22] ty #[v, .slice (some a) ls.length cap]).run Tryz.prog w = .ok v' w' ∧ Strs w' base v' (l ++ ls) ∧ w.grownBy w' v.ownBlock ∧ (v'.ownBlock = v.ownBlock ∨ v'.ownBlock = some w.heap.size) := fun a hn => by
    obtain ⟨v', w', h1, h2, h3, _, h5⟩ := run_append_own_at (P := Tryz.prog) w base 22 ty 9 i0 (.string ⟨#[]⟩) 1 16 Tryz.underlying22 hi hz0 hz1 hz2 rfl (by decide) v l.length (l.map sv) hown
      a ls.length cap (ls.map sv) (by simp) hn (by intro u hu; simp at hu; obtain ⟨_, _, rfl⟩ := hu; rfl) (by unfold maxLen; omega) (by omega) hbase
    refine ⟨v', w', h1, ?_, h3, h5⟩
    unfold Strs
    rw [List.length_append, List.map_append]
    exact h2
  by_cases h0 : ls = []
  · subst h0
    cases A with
    | none => exact ⟨v, w, run_append_none w ty base v l hown cap, by simpa using hown, World.grownBy.refl w _, .inl rfl⟩
    | some a => exact fin a (fun j u h => by simp at h)
  · obtain ⟨g, off, rfl, _, hk⟩ := hc (by cases ls <;> simp_all)
    refine fin _ (fun j u h => ?_)
    rw [List.getElem?_map] at h
    cases hj : ls[j]? with
    | none => rw [hj] at h; simp at h
    | some y =>
      rw [hj] at h
      simp at h
      subst h
      obtain ⟨hl, rfl⟩ := List.getElem?_eq_some_iff.1 hj
      rw [Go.WideShapes.add_plain]
      exact hk j hl
/-- append(out, texts...) at a plain region's list, and where it lies. -/
theorem wpList_append_texts2 {w : World} {ops : Array Oper} {rest : List Oper} {o : Oper} {a : Act} {Q : Exit → Act → World → Prop} (hgd : o.guard = none) (s x : Operand)
    (ho : o.op = .call { callee := .builtin .append, args := #[s, x], argTypes := #[22, 22] })
    (base : Nat) (v : Value) (l : List (List UInt8)) (hs : a.eval s = v) (hown : Strs w base v l) (y : Value) (ls : List (List UInt8)) (hx : a.eval x = y) (hr : RdS w y ls)
    (hlen : l.length + ls.length ≤ 16777216) (hbase : base ≤ w.heap.size)
    (h : ∀ v' w', Strs w' base v' (l ++ ls) → w.grownBy w' v.ownBlock → (v'.ownBlock = v.ownBlock ∨ v'.ownBlock = some w.heap.size) → wpList Tryz.prog ops Q rest (a.put o.dst v') w') : wpList Tryz.prog ops Q (o :: rest) a w := by
  refine wpList_plain hgd fun _ hK => ?_
  obtain ⟨v', w', hr, h2, h3, h4⟩ := run_append_texts2 w o.type base v l hown y ls hr hlen hbase
  unfold Oper.wp execOp
  simp only [ho, resolve, invoke, builtin, Sem.run_bind, Sem.run_pure, Result.andThen_ok, List.map_toArray, List.map_cons, List.map_nil, hs, hx, hr]
  exact hK _ _ (h v' w' h2 h3 h4)
/-- append(out, text) at a plain region's list, and where it lies. -/
theorem wpList_append_strs2 {w : World} {ops : Array Oper} {rest : List Oper} {o : Oper} {a : Act} {Q : Exit → Act → World → Prop} (hgd : o.guard = none) (s x : Operand)
    (ho : o.op = .call { callee := .builtin .append, args := #[s, x], argTypes := #[22, 22] })
    (base : Nat) (v : Value) (l : List (List UInt8)) (hs : a.eval s = v) (hown : Strs w base v l) (y : List UInt8) (B c : Nat) (t : TypeId) (fr : Nat × Nat)
    (hx : a.eval x = .slice (some ⟨B, 0, none⟩) 1 c) (hblk : w.heap[B]? = some (.cells #[sv y] t fr)) (hlen : l.length + 1 ≤ 16777216) (hbase : base ≤ w.heap.size)
    (h : ∀ g cap w', Strs w' base (.slice (some ⟨g, 0, none⟩) (l.length + 1) cap) (l ++ [y]) → w.grownBy w' v.ownBlock → (v.ownBlock = some g ∨ g = w.heap.size) → wpList Tryz.prog ops Q rest (a.put o.dst (.slice (some ⟨g, 0, none⟩) (l.length + 1) cap)) w') : wpList Tryz.prog ops Q (o :: rest) a w := by
  refine wpList_plain hgd fun _ hK => ?_
  obtain ⟨g, cap, w', hr, h2, h3, h4⟩ := run_append_strs w o.type base v l hown y B c t fr hblk hlen hbase
  unfold Oper.wp execOp
  simp only [ho, resolve, invoke, builtin, Sem.run_bind, Sem.run_pure, Result.andThen_ok, List.map_toArray, List.map_cons, List.map_nil, hs, hx, hr]
  exact hK _ _ (h g cap w' h2 h3 h4)

theorem holesGo_step {f : List UInt8 → Bool} {X : List (List UInt8)} {k : Nat} (h : k < X.length) (b : Bool) (wt : List (List UInt8)) :
    holesGo f b wt (X.drop k) = if f X[k] = true then wt ++ holesGo f true [] (X.drop (k + 1)) else if b = true then holesGo f true (wt ++ [X[k]]) (X.drop (k + 1)) else holesGo f false [] (X.drop (k + 1)) := by
  rw [List.drop_eq_getElem_cons h]
  rfl
theorem Strs.cut0 {w : World} {base b cap n : Nat} {B : List (List UInt8)} (h : Strs w base (.slice (some ⟨b, 0, none⟩) n cap) B) (hn : n = B.length) : Strs w base (.slice (some ⟨b, 0, none⟩) 0 cap) [] := by
  subst hn
  exact Strs.cut (A := []) (B := B) (by simpa using h)

set_option maxRecDepth 100000 in
set_option maxHeartbeats 4000000 in
theorem implHoles_any (v vb : Value) (ls : List (List UInt8)) (bs : List Bd) (w : World) (hr : RdS w v ls) (hs : Sm ls) (hrb : RdB w vb bs) (hsb : SmB bs) (ht : Tab w) :
    Calls Tryz.prog 16 #[v, vb] w fun e w' => ∃ out u, e = .returned u ∧ Strs w' w.heap.size u (holesL (inF bs) out) ∧ SortOf ls out ∧ Below w.heap.size w w' := by
  have HS := Lib.hid hs
  have hn := hs.1
  have B0 : Below w.heap.size w ((w.alloc (.cells #[] 9)).alloc (.cells #[] 9)) := ((Below.refl _ _).alloc (Nat.le_refl _) _).alloc (by simp) _
  have HC := Lib.hid (implSortVersions_any v ls _ (hr.below B0) hs (tab_below ht B0))
  have HIN := Lib.hid (fun (W : World) (s : ByteArray) (hb : Below w.heap.size w W) (hz : s.size ≤ 1048576) => implIn_any s vb bs W hz (hrb.below hb) hsb)
  have H0 := (Strs.empty w w.heap.size (Nat.le_refl _)).alloc (.cells #[] 9)
  have W0 := Strs.emptyAt (w.alloc (.cells #[] 9)) w.heap.size (w.heap.size + 1) (by simp) (by omega)
  clear hr hs hrb hsb ht
  obtain ⟨f, HF⟩ : ∃ f, Hid (inF bs = f) := ⟨_, Lib.hid rfl⟩
  rw [HF.out]
  go_enter Tryz.func16, Tryz.ntmps16
  go_wp2_with fail
  refine HC.out.mono ?_
  rintro e w1 ⟨ug, uc, X, rfl, S0, hSO, hb1⟩
  have lo := sortOf_len hSO
  have HSZ : Hid (∀ l ∈ X, l.length ≤ 1048576) := Lib.hid (fun l hl => HS.out.2 l ((hSO.2 l).1 hl).1)
  have HSO := Lib.hid hSO
  have ulo : w.heap.size + 2 ≤ ug := by have := S0.lo; simpa using this
  have X1 := S0.weaken (show w.heap.size ≤ _ from B0.size)
  have H1 := H0.below hb1
  have W1 := W0.below hb1
  have B1 := B0.trans (hb1.mono B0.size)
  clear hSO S0 HC H0 W0 B0 hb1
  go_wp2_with fail
  go_loopw [5, 6, 7, 9, 15, 19, 28] (fun o p b _ i _ _ wr => ∃ (k : Nat) (vh : Value) (gw cw : Nat) (H Wt : List (List UInt8)) (bg : Bool), k ≤ X.length ∧ i = .int .i64 k ∧ vh = o ∧ p = .slice (some ⟨gw, 0, none⟩) Wt.length cw ∧ b = .bool bg ∧
    Strs wr w.heap.size vh H ∧ Strs wr w.heap.size (.slice (some ⟨gw, 0, none⟩) Wt.length cw) Wt ∧ Hid (∀ g, vh.ownBlock = some g → g ≠ gw) ∧ Hid (H ++ holesGo f bg Wt (X.drop k) = holesL f X) ∧ Hid (bg = false → Wt = []) ∧ H.length + Wt.length ≤ k ∧ Below w.heap.size w wr ∧ Strs wr w.heap.size (.slice (some ⟨ug, 0, none⟩) X.length uc) X ∧ Hid (ug ≠ gw ∧ ∀ g, vh.ownBlock = some g → g ≠ ug)) (fun _ _ _ _ i _ _ _ => X.length - (intOf i).toNat)
  case atStart => exact ⟨0, _, _, _, [], [], false, Nat.zero_le _, rfl, rfl, rfl, rfl, H1, W1, Lib.hid (fun g hg => by simp [Value.ownBlock] at hg; omega), Lib.hid (by simp [holesL]), Lib.hid (fun _ => rfl), Nat.le_refl _, B1, X1, Lib.hid ⟨by omega, fun g hg => by simp [Value.ownBlock] at hg; omega⟩⟩
  case round =>
    obtain ⟨k, vh, gw, cw, H, Wt, bg, hk, rfl, rfl, rfl, rfl, hH, hW, HD, HG, HB, hlen, hb, hX, HU⟩ := hrel
    have hn2 : X.length ≤ 1048576 := by omega
    by_cases hlt : k < X.length
    · have k0 : (0 : Int) ≤ (k : Int) := by omega
      have k1 : (k : Int) < (X.length : Int) := by omega
      have HLK : Hid ((⟨X[k].toArray⟩ : ByteArray).size ≤ 1048576) := Lib.hid (by rw [size_of]; exact HSZ.out X[k] (List.getElem_mem hlt))
      have HST := Lib.hid (holesGo_step (f := f) hlt bg Wt)
      have d1 : wr.cell? ⟨ug, k, none⟩ = some (.string ⟨X[k].toArray⟩) := hX.cell k hlt
      obtain ⟨t, HTT⟩ : ∃ t, Hid (f X[k] = t) := ⟨_, Lib.hid rfl⟩
      have HTI : Hid (inR (⟨X[k].toArray⟩ : ByteArray).data.toList bs = t) := Lib.hid (by rw [← HTT.out, ← HF.out]; rfl)
      clear H1 W1 B1 X1
      go_wp2_with fail
      refine (HIN.out _ _ hb HLK.out).mono ?_
      rw [HTI.out]
      rintro e w2 ⟨rfl, hb2⟩
      have hH2 := hH.below hb2
      have hW2 := hW.below hb2
      have hX2 := hX.below hb2
      have b2 := hb.trans (hb2.mono hb.size)
      have b2s := b2.size
      have gwl : gw < w2.heap.size := hW2.block_lt gw rfl
      have ugl : ug < w2.heap.size := hX2.block_lt ug rfl
      have HHL := Lib.hid hH2.block_lt
      clear hH hW hX hb hb2 d1
      cases t
      · cases bg
        · have HG' : Hid (H ++ holesGo f false Wt (X.drop (k + 1)) = holesL f X) := Lib.hid (by
            rw [← HG.out, HST.out, if_neg (by rw [HTT.out]; simp), if_neg (by simp), HB.out rfl])
          go_wp2_with fail
          go_roundw
          case rel => exact ⟨k + 1, vh, gw, cw, H, Wt, false, by omega, by go_num, rfl, rfl, rfl, hH2, hW2, HD, HG', Lib.hid (fun _ => by have := HB.out; simpa using this), by omega, b2, hX2, HU⟩
          case measure => simp [intOf]; omega
        · have HG' : Hid (H ++ holesGo f true (Wt ++ [X[k]]) (X.drop (k + 1)) = holesL f X) := Lib.hid (by
            rw [← HG.out, HST.out, if_neg (by rw [HTT.out]; simp), if_pos rfl])
          have hlO : Wt.length + 1 ≤ 16777216 := by omega
          have HBE : Hid (w.heap.size ≤ (w2.alloc (.cells #[sv X[k]] 9)).heap.size) := Lib.hid (by simp; omega)
          go_wp2_with (at_builtin; refine wpList_append_strs2 rfl _ _ rfl w.heap.size (.slice (some ⟨gw, 0, none⟩) Wt.length cw) Wt rfl (hW2.alloc _) (X[k]) w2.heap.size _ _ _ rfl (heap_alloc_new w2 _) hlO HBE.out ?_; intro g3 c3 w3 hW3 hg3 hl3)
          have hH3 := (hH2.alloc (.cells #[sv X[k]] 9)).grown hg3 (fun g hg e => HD.out g hg (by simpa [Value.ownBlock] using e))
          have hX3 := (hX2.alloc (.cells #[sv X[k]] 9)).grown hg3 (fun g hg e => HU.out.1 ((show ug = g by simpa [Value.ownBlock] using hg).trans (by simpa [Value.ownBlock] using e)))
          have b3 : Below w.heap.size w w3 := Below.grown (b2.alloc b2.size _) hg3 HBE.out (fun g hg => by have := hW2.owned g hg; omega)
          have HD3 : Hid (∀ g, vh.ownBlock = some g → g ≠ g3) := Lib.hid (fun g hg => by
            have a := HD.out g hg
            have b := HHL.out g hg
            rcases hl3 with h | h
            · exact fun e => a (e.trans (show gw = g3 by simpa [Value.ownBlock] using h).symm)
            · simp at h; omega)
          have HU3 : Hid (ug ≠ g3 ∧ ∀ g, vh.ownBlock = some g → g ≠ ug) := Lib.hid ⟨by
            have a := HU.out.1
            rcases hl3 with h | h
            · exact fun e => a (e.trans (show gw = g3 by simpa [Value.ownBlock] using h).symm)
            · simp at h; omega, HU.out.2⟩
          have hlW : (Wt ++ [X[k]]).length = Wt.length + 1 := by simp
          rw [← hlW] at hW3
          clear hH2 hW2 hX2 b2 hg3 hl3
          go_wp2_with fail
          go_roundw
          case rel => exact ⟨k + 1, vh, g3, c3, H, Wt ++ [X[k]], true, by omega, by go_num, rfl, by rw [hlW], rfl, hH3, hW3, HD3, HG', Lib.hid (fun h => by cases h), by rw [hlW]; omega, b3, hX3, HU3⟩
          case measure => simp [intOf]; omega
      · have HG' : Hid ((H ++ Wt) ++ holesGo f true [] (X.drop (k + 1)) = holesL f X) := Lib.hid (by
          rw [← HG.out, HST.out, if_pos HTT.out, List.append_assoc])
        have hlO : H.length + Wt.length ≤ 16777216 := by omega
        go_wp2_with (at_builtin; refine wpList_append_texts2 rfl _ _ rfl w.heap.size vh H rfl hH2 (.slice (some ⟨gw, 0, none⟩) Wt.length cw) Wt rfl (RdS.of_strs hW2) hlO b2s ?_; intro v3 w3 hH3 hg3 hl3)
        have hW3 := hW2.grown hg3 (fun g hg e => by simp only [Value.ownBlock, Option.some.injEq] at hg; exact HD.out g e.symm hg.symm)
        have hX3 := hX2.grown hg3 (fun g hg e => by simp only [Value.ownBlock, Option.some.injEq] at hg; exact HU.out.2 g e.symm hg.symm)
        have b3 : Below w.heap.size w w3 := Below.grown b2 hg3 b2s hH2.owned
        have HD3 : Hid (∀ g, v3.ownBlock = some g → g ≠ gw) := Lib.hid (fun g hg => by
          rcases hl3 with h | h
          · rw [h] at hg; exact HD.out g hg
          · rw [h] at hg; simp at hg; omega)
        have HU3 : Hid (ug ≠ gw ∧ ∀ g, v3.ownBlock = some g → g ≠ ug) := Lib.hid ⟨HU.out.1, fun g hg => by
          rcases hl3 with h | h
          · rw [h] at hg; exact HU.out.2 g hg
          · rw [h] at hg; simp at hg; omega⟩
        have hW4 := hW3.cut0 rfl
        clear hH2 hW2 hX2 b2 hg3 hl3 hW3
        go_wp2_with fail
        go_roundw
        case rel => exact ⟨k + 1, v3, gw, cw, H ++ Wt, [], true, by omega, by go_num, rfl, rfl, rfl, hH3, hW4, HD3, HG', Lib.hid (fun h => by cases h), by simp; omega, b3, hX3, HU3⟩
        case measure => simp [intOf]; omega
    · have k1 : ¬ (k : Int) < (X.length : Int) := by omega
      have HE : Hid (H = holesL f X) := Lib.hid (by
        rw [← HG.out, List.drop_of_length_le (by omega)]
        cases bg <;> simp [holesGo])
      clear H1 W1 B1 X1
      go_wp2_with fail
      go_ret
      exact ⟨X, _, rfl, by rw [← HE.out]; exact hH, HSO.out, hb⟩
end Go.Proofs.YtjpclglklmlhlabGreatDoor
