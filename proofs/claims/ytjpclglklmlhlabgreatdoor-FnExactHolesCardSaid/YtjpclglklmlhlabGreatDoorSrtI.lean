/-
  impl.SortVersions: the versions of a list, in order, each once.
-/
import Derived.Test.YtjpclglklmlhlabGreatDoorSrtR
import Derived.Test.YtjpclglklmlhlabGreatDoorRdI
import Derived.Test.YtjpclglklmlhlabGreatDoorTextI
namespace Go.Proofs.YtjpclglklmlhlabGreatDoor
open Go.RowKit

theorem filter_take {ls : List (List UInt8)} {k : Nat} (h : k < ls.length) : (ls.take (k + 1)).filter readOk = (ls.take k).filter readOk ++ (if readOk ls[k] = true then [ls[k]] else []) := by
  rw [List.take_succ_eq_append_getElem h, List.filter_append]
  congr 1
  by_cases hk : readOk ls[k] = true
  · rw [if_pos hk]; simp [hk]
  · rw [if_neg hk]; simp [hk]
theorem readP_Sm' {l : List UInt8} (h : l.length ≤ 1048576) : Sm (readP l) := by
  unfold readP; split
  · exact tail_sm h
  · exact sm_nil

set_option maxRecDepth 100000 in
set_option maxHeartbeats 4000000 in
theorem implSortVersions_any (v : Value) (ls : List (List UInt8)) (w : World) (hr : RdS w v ls) (hs : Sm ls) (ht : Tab w) :
    Calls Tryz.prog 48 #[v] w fun e w' => ∃ g c out, e = .returned (.slice (some ⟨g, 0, none⟩) out.length c) ∧ Strs w' w.heap.size (.slice (some ⟨g, 0, none⟩) out.length c) out ∧ SortOf ls out ∧ Below w.heap.size w w' := by
  have HR := Lib.hid hr
  have HTB := Lib.hid (fun (W : World) (hb : Below w.heap.size w W) => tab_below ht hb)
  obtain ⟨A, ca, rfl, ha⟩ := hr
  have hn := hs.1
  have HS := Lib.hid hs.2
  clear ha hs ht
  have V0 : VerRow (w.alloc (.cells #[] 51)) w.heap.size (.slice (some ⟨w.heap.size, 0, none⟩) 0 0) [] := ⟨Vers.empty w _ (Nat.le_refl _), fun x hx => by cases hx⟩
  have B0 : Below w.heap.size w (w.alloc (.cells #[] 51)) := (Below.refl _ _).alloc (Nat.le_refl _) _
  go_enter Tryz.func48, Tryz.ntmps48
  go_wp2_with fail
  go_loopw [3, 5, 6, 7, 14] (fun o _ _ _ i wr => ∃ (k : Nat) (X : List VI) (g c : Nat), k ≤ ls.length ∧ i = .int .i64 k ∧ o = .slice (some ⟨g, 0, none⟩) X.length c ∧ VerRow wr w.heap.size (.slice (some ⟨g, 0, none⟩) X.length c) X ∧ Hid (X.map Prod.fst = (ls.take k).filter readOk) ∧ Below w.heap.size w wr) (fun _ _ _ _ i _ => ls.length - (intOf i).toNat)
  case atStart => exact ⟨0, [], _, _, Nat.zero_le _, rfl, rfl, V0, Lib.hid (by simp), B0⟩
  case round =>
    obtain ⟨k, X, g, c, hk, rfl, rfl, hX, HX, hb⟩ := hrel
    have lX : X.length ≤ k := by
      have := congrArg List.length HX.out
      rw [List.length_map] at this
      rw [this]
      exact Nat.le_trans (List.length_filter_le _ _) (by simp; omega)
    by_cases hlt : k < ls.length
    · have k0 : (0 : Int) ≤ (k : Int) := by omega
      have k1 : (k : Int) < (ls.length : Int) := by omega
      have HLK := Lib.hid (HS.out ls[k] (List.getElem_mem hlt))
      have HFT := Lib.hid (filter_take hlt)
      obtain ⟨A', ca', hv, ha⟩ := HR.out.below hb
      simp only [Value.slice.injEq] at hv
      obtain ⟨rfl, _, rfl⟩ := hv
      obtain ⟨gl, off, rfl, hgl, hca⟩ := ha (by omega)
      have d1 : wr.cell? ⟨gl, off + k, none⟩ = some (.string ⟨ls[k].toArray⟩) := hca k hlt
      obtain ⟨ok, HOK⟩ : ∃ z, Hid (readOk (⟨ls[k].toArray⟩ : ByteArray).data.toList = z) := ⟨_, Lib.hid rfl⟩
      obtain ⟨l0, HL0⟩ : ∃ z, Hid (readA (⟨ls[k].toArray⟩ : ByteArray).data.toList 0 = z) := ⟨_, Lib.hid rfl⟩
      obtain ⟨l1, HL1⟩ : ∃ z, Hid (readA (⟨ls[k].toArray⟩ : ByteArray).data.toList 1 = z) := ⟨_, Lib.hid rfl⟩
      obtain ⟨l2, HL2⟩ : ∃ z, Hid (readA (⟨ls[k].toArray⟩ : ByteArray).data.toList 2 = z) := ⟨_, Lib.hid rfl⟩
      clear ha hca V0 B0
      go_wp2_with fail
      refine (implReadVersion_any _ _ (by rw [size_of]; exact HLK.out)).mono ?_
      rintro e w1 ⟨u, rfl, hu, hb1⟩
      have HU : Hid (Strs w1 0 u (readP ls[k])) := Lib.hid (hu.weaken (Nat.zero_le _))
      obtain ⟨uA, uc, hue⟩ := hu.slice
      obtain ⟨m, HM⟩ : ∃ m, Hid ((readP (⟨ls[k].toArray⟩ : ByteArray).data.toList).length = m) := ⟨_, Lib.hid rfl⟩
      rw [HM.out] at hue
      subst hue
      rw [HOK.out, HL0.out, HL1.out, HL2.out]
      have B1 := hb.trans (hb1.mono hb.size)
      have hX1 := hX.below hb1
      clear hX hb1 hu d1
      have B2 := B1.alloc B1.size (.cells #[.int .i64 l0, .int .i64 l1, .int .i64 l2, .slice uA m uc] 51)
      have hX2 := hX1.below ((Below.refl w1.heap.size w1).alloc (Nat.le_refl _) (.cells #[.int .i64 l0, .int .i64 l1, .int .i64 l2, .slice uA m uc] 51))
      cases ok
      · have HX' : Hid (X.map Prod.fst = (ls.take (k + 1)).filter readOk) := Lib.hid (by rw [HFT.out, if_neg (fun h => by have e : readOk ls[k] = false := HOK.out; rw [h] at e; cases e), List.append_nil, HX.out])
        go_wp2_with fail
        go_roundw
        case rel => exact ⟨k + 1, X, g, c, by omega, by go_num, rfl, hX2, HX', B2⟩
        case measure => simp [intOf]; omega
      · have HX' : Hid ((X ++ [(ls[k], Value.slice uA m uc)]).map Prod.fst = (ls.take (k + 1)).filter readOk) := Lib.hid (by rw [HFT.out, if_pos (show readOk ls[k] = true from HOK.out), List.map_append, HX.out]; rfl)
        have B3 := B2.alloc B2.size (.cells #[.int .i64 l0, .int .i64 l1, .int .i64 l2, .slice uA m uc] 51)
        have hX3 := hX2.below ((Below.refl (w1.alloc (.cells #[.int .i64 l0, .int .i64 l1, .int .i64 l2, .slice uA m uc] 51)).heap.size _).alloc (Nat.le_refl _) (.cells #[.int .i64 l0, .int .i64 l1, .int .i64 l2, .slice uA m uc] 51))
        have hU3 := Strs.alloc (Strs.alloc HU.out (.cells #[.int .i64 l0, .int .i64 l1, .int .i64 l2, .slice uA m uc] 51)) (.cells #[.int .i64 l0, .int .i64 l1, .int .i64 l2, .slice uA m uc] 51)
        have h3 := heap_new (W := w1.alloc (.cells #[.int .i64 l0, .int .i64 l1, .int .i64 l2, .slice uA m uc] 51)) (n := w1.heap.size + 1) (by simp) (.cells #[.int .i64 l0, .int .i64 l1, .int .i64 l2, .slice uA m uc] 51)
        have hlX : (X.map cv).length = X.length := by simp
        have B3s := B3.size
        clear B1 B2 hX1 hX2
        go_wp2_with (at_builtin; refine wpList_append_ver rfl _ _ rfl w.heap.size _ _ rfl hX3.1 (w1.heap.size + 1) _ _ _ l0 l1 l2 (.slice uA m uc) rfl rfl h3 (by omega) B3s ?_; intro v4 w4 hV4 hg4)
        have hX4 : VerRow w4 w.heap.size v4 (X ++ [(ls[k], .slice uA m uc)]) := ⟨by
            have e : (X ++ [(ls[k], Value.slice uA m uc)]).map cv = X.map cv ++ [(l0, l1, l2, .slice uA m uc)] := by
              rw [List.map_append]
              show _ ++ [cv (ls[k], .slice uA m uc)] = _
              rw [← HL0.out, ← HL1.out, ← HL2.out]
              rfl
            rw [e]; exact hV4, fun x hx => by
            rcases List.mem_append.1 hx with hx | hx
            · exact (hX3.2 x hx).grownV hX3.1 hg4
            · simp at hx; subst hx; exact hU3.grownV hX3.1 hg4⟩
        have B4 : Below w.heap.size w w4 := Below.grown B3 hg4 B3s hX3.1.owned
        obtain ⟨g4, c4, hv4, _⟩ : ∃ g c, v4 = .slice (some ⟨g, 0, none⟩) (X ++ [(ls[k], Value.slice uA m uc)]).length c ∧ True := by
          rcases hX4.1.form with ⟨_, h⟩ | ⟨g, c, h, _⟩
          · simp at h
          · exact ⟨g, c, by simpa using h, trivial⟩
        subst hv4
        clear hX3 hU3 h3 B3 hV4 hg4
        go_wp2_with fail
        go_roundw
        case rel => exact ⟨k + 1, X ++ [(ls[k], .slice uA m uc)], g4, c4, by omega, by go_num, rfl, hX4, HX', B4⟩
        case measure => simp [intOf]; omega
    · have HXA : Hid (X.map Prod.fst = ls.filter readOk) := Lib.hid (by rw [HX.out, List.take_of_length_le (by omega)])
      have HMX : Hid (∀ x ∈ X, x.1 ∈ ls ∧ readOk x.1 = true) := Lib.hid (fun x hx => by
        have : x.1 ∈ X.map Prod.fst := List.mem_map.2 ⟨x, hx, rfl⟩
        rw [HXA.out] at this
        exact List.mem_filter.1 this)
      have HSX : Hid (∀ x ∈ X, Sm (readP x.1)) := Lib.hid (fun x hx => readP_Sm' (HS.out _ (HMX.out x hx).1))
      have hlX : X.length ≤ 1048576 := by omega
      obtain ⟨i0, hi, hz0, hz1, hz2⟩ := info_parts strinfo
      clear V0 B0
      go_wp2_with fail
      refine (sortFunc_any wr w.heap.size g c X hX hlX HSX.out).mono ?_
      rintro e w5 ⟨rfl, Y, hperm, hsort, hRV, hb5⟩
      have B5 := hb.trans hb5
      have hlY : Y.length = X.length := hperm.length_eq
      have HRV := Lib.hid hRV
      have HPM := Lib.hid hperm
      have HST := Lib.hid hsort
      clear hX hb hb5 hRV hperm hsort
      go_wp2_with (at_make; refine wpList_make_own _ rfl _ _ 22 rfl w5.heap.size 9 i0 (.string ⟨#[]⟩) 1 Tryz.underlying22 hi hz0 hz1 .i64 .i64 _ X.length rfl rfl rfl (by rw [hz2]; omega) (by unfold maxLen; omega) (Nat.le_refl _) ?_; intro w6 hown6 hg6)
      have hS6 : Strs w6 w5.heap.size (.slice (some ⟨w5.heap.size, 0, none⟩) 0 X.length) [] := hown6
      have hb6 : Below w5.heap.size w5 w6 := (Below.refl _ _).grown hg6 (Nat.le_refl _) (by simp)
      clear hown6 hg6 hi hz0 hz1 hz2
      go_loopw [8, 10, 36] (fun o _ i wr => ∃ k g2 c2 : Nat, k ≤ Y.length ∧ i = .int .i64 k ∧ o = .slice (some ⟨g2, 0, none⟩) k c2 ∧ Strs wr w5.heap.size (.slice (some ⟨g2, 0, none⟩) k c2) ((Y.take k).map Prod.fst) ∧ Below w5.heap.size w5 wr) (fun _ _ i _ => Y.length - (intOf i).toNat)
      case atStart => exact ⟨0, _, _, Nat.zero_le _, rfl, rfl, by simpa using hS6, hb6⟩
      case round =>
        obtain ⟨j, g2, c2, hj, rfl, rfl, hS, hb⟩ := hrel
        have B7 := B5.trans (hb.mono B5.size)
        have LM : Hid (((Y.take j).map Prod.fst).length = j) := Lib.hid (by simp; omega)
        by_cases hlt : j < Y.length
        · have k0 : (0 : Int) ≤ (j : Int) := by omega
          have k1 : (j : Int) < (X.length : Int) := by omega
          obtain ⟨A', c', hv, hcell⟩ := HRV.out.below hb
          simp only [Value.slice.injEq] at hv
          obtain ⟨rfl, -, rfl⟩ := hv
          obtain ⟨g', hA, hg', d0, d1, d2, d3, hSt⟩ := hcell j hlt
          simp only [Option.some.injEq, Addr.mk.injEq, and_true] at hA
          subst hA
          obtain ⟨uA, uc, hue⟩ := hSt.slice
          have HMY := HMX.out Y[j] (HPM.out.mem_iff.1 (List.getElem_mem hlt))
          have HVT : Hid (verText (readA Y[j].1 0) (readA Y[j].1 1) (readA Y[j].1 2) (readP Y[j].1) = Y[j].1) := Lib.hid (vt_text HMY.2)
          have HSY : Hid (Sm (readP Y[j].1)) := Lib.hid (readP_Sm' (HS.out _ HMY.1))
          have HN : Hid ((Y.take j).map Prod.fst ++ [Y[j].1] = (Y.take (j + 1)).map Prod.fst) := Lib.hid (by rw [List.take_succ_eq_append_getElem hlt, List.map_append]; rfl)
          rw [hue] at d3 hSt
          obtain ⟨m, HM⟩ : ∃ m, Hid ((readP Y[j].1).length = m) := ⟨_, Lib.hid rfl⟩
          rw [HM.out] at d3 hSt
          obtain ⟨l0, HL0⟩ : ∃ z, Hid (readA Y[j].1 0 = z) := ⟨_, Lib.hid rfl⟩
          obtain ⟨l1, HL1⟩ : ∃ z, Hid (readA Y[j].1 1 = z) := ⟨_, Lib.hid rfl⟩
          obtain ⟨l2, HL2⟩ : ∃ z, Hid (readA Y[j].1 2 = z) := ⟨_, Lib.hid rfl⟩
          rw [HL0.out] at d0
          rw [HL1.out] at d1
          rw [HL2.out] at d2
          have HV2 : Hid (verText l0 l1 l2 (readP Y[j].1) = Y[j].1) := Lib.hid (by rw [← HL0.out, ← HL1.out, ← HL2.out]; exact HVT.out)
          have B8 := B7.alloc B7.size (.cells #[.int .i64 l0, .int .i64 l1, .int .i64 l2, .slice uA m uc] 51)
          have b8 := hb.alloc hb.size (.cells #[.int .i64 l0, .int .i64 l1, .int .i64 l2, .slice uA m uc] 51)
          have hS8 := hS.alloc (.cells #[.int .i64 l0, .int .i64 l1, .int .i64 l2, .slice uA m uc] 51)
          have hU8 := hSt.alloc (.cells #[.int .i64 l0, .int .i64 l1, .int .i64 l2, .slice uA m uc] 51)
          have hT8 := HTB.out _ B8
          clear hcell hue HMY hS6 hb6
          go_wp2_with fail
          refine (implVersionText_any l0 l1 l2 0 _ (readP Y[j].1) _ hU8 HSY.out hT8).mono ?_
          rw [HV2.out]
          rintro e w9 ⟨rfl, hb9⟩
          have hS9 := hS8.below hb9
          have b9 := b8.trans (hb9.mono b8.size)
          clear hS8 hb9 d0 d1 d2 d3 hSt hU8 hT8 b8 B8 hS
          have HLE : Hid (((Y.take j).map Prod.fst).length + 1 ≤ 16777216) := Lib.hid (by rw [LM.out]; omega)
          have HBE : Hid (w5.heap.size ≤ (w9.alloc (.cells #[sv Y[j].1] 9)).heap.size) := Lib.hid (by simp; exact Nat.le_succ_of_le b9.size)
          go_wp2_with (at_builtin; refine wpList_append_strs rfl _ _ rfl w5.heap.size _ _ rfl (hS9.alloc _) (Y[j].1) w9.heap.size _ _ _ rfl (heap_alloc_new w9 _) HLE.out HBE.out ?_; intro g3 c3 w10 hown10 hb10)
          have b10 := b9.trans (((Below.refl w5.heap.size w9).alloc b9.size _).trans hb10)
          rw [LM.out] at hown10
          go_wp2_with fail
          go_roundw
          case rel => exact ⟨j + 1, g3, c3, by omega, by go_num, by rw [show min j X.length = j by omega], by rw [← HN.out]; exact hown10, b10⟩
          case measure => simp [intOf]; omega
        · have hSe : Strs wr w5.heap.size (.slice (some ⟨g2, 0, none⟩) (Y.map Prod.fst).length c2) (Y.map Prod.fst) := by
            have : j = Y.length := by omega
            subst this
            rw [List.take_length] at hS
            rw [List.length_map]
            exact hS
          have hjl : j = (Y.map Prod.fst).length := by simp; omega
          have HSO : Hid (SortOf ls (Lib.compact (Y.map Prod.fst))) := Lib.hid (sortOf_compact (fun t => by
              have : t ∈ Y.map Prod.fst ↔ t ∈ X.map Prod.fst := (HPM.out.map Prod.fst).mem_iff
              rw [this, HXA.out, List.mem_filter]) (fun a b hab hbl => by
              simp only [List.getElem_map]
              exact HST.out a b hab (by simpa using hbl)))
          have hml : (Y.map Prod.fst).length ≤ 1048576 := by simp; omega
          have k1 : ¬ (j : Int) < (X.length : Int) := by omega
          have HCA := compact_any wr w5.heap.size g2 c2 (Y.map Prod.fst) hSe hml
          rw [← hjl] at HCA
          have HCB := Lib.hid HCA
          clear hjl hSe hml hS6 hb6 hS HCA
          go_wp2_with fail
          refine HCB.out.mono ?_
          rintro e w7 ⟨g3, c3, rfl, hS7, hb7⟩
          have B9 := B7.trans (hb7.mono B5.size)
          go_wp2_with fail
          go_ret
          exact ⟨g3, c3, _, rfl, hS7.weaken B5.size, HSO.out, B9⟩
end Go.Proofs.YtjpclglklmlhlabGreatDoor
