/-
  The walk of the law FnExactSetField.
-/
import Derived.Test.YtongpnknmgbhjaaSfH
import Derived.Deep.RegionWith
import Derived.Deep.DeepCutAuto
namespace Go.Proofs.Ytongpnknmgbhjaa
open Go.RowKit

set_option maxRecDepth 100000 in
set_option maxHeartbeats 16000000 in
theorem exSetField (t : Tb) (va : Value) (f : Fd) (fa : Value) (w : World) (ht : RdFs w va t.fields) (ft : TbFits t) (hf : RdS w fa f.list) (ff : FdFits f) :
    Calls Try.prog 3 #[tbV t va, fdV f fa] w fun e w' => e = .returned (.bool true) ∧ Below w.heap.size w w' := by
  have HZ := Lib.hid (fun (W : World) (h : Below w.heap.size w W) => szTable_any t va 1048576 W (ht.below h) (by omega) (by omega) ft)
  have HT0 := Lib.hid (fun (hg : SmTb t) (W : World) (h : Below w.heap.size w W) => toTable_any t va W (ht.below h) hg)
  obtain ⟨z, HX⟩ : ∃ z, Hid (szTb 1048576 t = z) := ⟨_, Lib.hid rfl⟩
  have HZF := Lib.hid (fun (z0 : 0 ≤ z) (z1 : z ≤ 1048576) (W : World) (h : Below w.heap.size w W) => szField_any f fa z W (hf.below h) z0 z1 ff)
  have HF0 := Lib.hid (fun (hg : SmFd f) (W : World) (h : Below w.heap.size w W) => toField_any f fa W (hf.below h) hg)
  obtain ⟨z2, HX2⟩ : ∃ z2, Hid (szF z f = z2) := ⟨_, Lib.hid rfl⟩
  obtain ⟨B, cb, rfl⟩ := ht.slice
  obtain ⟨D, cd, rfl⟩ := hf.slice
  unfold tbV fdV at *
  clear ht ft hf ff
  have J0 : ArgTF w w t (.slice B t.fields.length cb) f (.slice D f.list.length cd) ((w.alloc (.cells #[.string ⟨t.name.toArray⟩, .slice B t.fields.length cb] 24)).alloc (.cells #[.string ⟨f.key.toArray⟩, .string ⟨f.text.toArray⟩, .slice D f.list.length cd, .bool f.isl] 27)) :=
    ⟨keepA (heap_alloc_new w _) _, heap_new (W := w.alloc (.cells #[.string ⟨t.name.toArray⟩, .slice B t.fields.length cb] 24)) (n := w.heap.size + 1) (by simp) _, ((Below.refl _ _).alloc (Nat.le_refl _) _).alloc (by simp) _, ((Below.refl _ _).alloc (Nat.le_refl _) _).alloc (by simp) _⟩
  by_cases hz : z < 0
  · go_enter Try.func3, Try.ntmps3
    go_wp2_with fail
    refine (HZ.out _ J0.bel).mono ?_
    rw [HX.out]
    rintro e w1 ⟨rfl, hb1⟩
    go_wp2_with fail
    go_ret
    exact ⟨rfl, J0.bel.trans (hb1.mono J0.bel.size)⟩
  obtain ⟨HS0, hz0, hz1⟩ := szTb_good (t := t) (left := 1048576) (by omega) (by omega) (by rw [HX.out]; exact hz)
  rw [HX.out] at hz0 hz1
  by_cases hq : z2 < 0
  · go_enter Try.func3, Try.ntmps3
    go_wp2_with fail
    refine (HZ.out _ J0.bel).mono ?_
    rw [HX.out]
    rintro e w1 ⟨rfl, hb1⟩
    have J1 := J0.below hb1
    obtain ⟨y0, y1, y2, y3⟩ := cells4 J1.2.1
    clear hb1
    go_wp2_with fail
    refine (HZF.out hz0 hz1 _ J1.bel).mono ?_
    rw [HX2.out]
    rintro e w2 ⟨rfl, hb2⟩
    go_wp2_with fail
    go_ret
    exact ⟨rfl, J1.bel.trans (hb2.mono J1.bel.size)⟩
  have HSF0 := (szF_good (f := f) hz1 hz0 (by rw [HX2.out]; exact hq)).1
  have HS := Lib.hid HS0
  have HSF := Lib.hid HSF0
  have HT := Lib.hid (HT0.out HS0)
  have HF := Lib.hid (HF0.out HSF0)
  have HSP := Lib.hid (fun (W : World) (a c : Value) (h1 : RdFs W a t.fields) (h2 : RdS W c f.list) => specSetField_any t a f c W h1 HS.out h2 HSF.out)
  have HIM := Lib.hid (fun (W : World) (g ca : Nat) (D' : Option Addr) (c' : Nat) (h1 : RdFs W (.slice (some ⟨g, 0, none⟩) t.fields.length ca) t.fields) (h2 : RdS W (.slice D' f.list.length c') f.list) (hc : t.fields.length ≤ ca) => implSetFieldD_any t.name t.fields g 0 ca f D' c' W h1 hc HS.out h2 HSF.out)
  unfold SfIs tbV fdV at HSP
  unfold tbV fdV at HIM
  simp only at HIM
  clear HT0 HF0 HS0 HSF0
  go_enter Try.func3, Try.ntmps3
  go_wp2_with fail
  refine (HZ.out _ J0.bel).mono ?_
  rw [HX.out]
  rintro e w1 ⟨rfl, hb1⟩
  have J1 := J0.below hb1
  obtain ⟨y0, y1, y2, y3⟩ := cells4 J1.2.1
  clear hb1 HZ J0
  go_wp2_with fail
  refine (HZF.out hz0 hz1 _ J1.bel).mono ?_
  rw [HX2.out]
  rintro e w2 ⟨rfl, hb2⟩
  have J2 := (J1.below hb2).here
  clear hb2 HZF J1 y0 y1 y2 y3
  obtain ⟨y0, y1, y2, y3⟩ := cells4 J2.2.1
  obtain ⟨x0, x1⟩ := cellsG J2.1
  have l2 := lt_of_heap J2.1
  have l2' := lt_of_heap J2.2.1
  go_upto_region 8 with fail
  go_cut [6] (fun s wx => ∃ u g, s = .pointer (some ⟨g, 0, none⟩) ∧ wx.heap[g]? = some (.cells #[.string ⟨t.name.toArray⟩, u] 32) ∧ Hid (RdFs wx u (setF t.fields f)) ∧ ArgTF w w2 t (.slice B t.fields.length cb) f (.slice D f.list.length cd) wx)
  case first =>
    have JD : ArgTF w w2 t (.slice B t.fields.length cb) f (.slice D f.list.length cd) w2.drew := J2.drew
    have JE : ArgTF w w2 t (.slice B t.fields.length cb) f (.slice D f.list.length cd) (w2.alloc (.cells #[.string ⟨#[]⟩, .slice none 0 0] 32)).drew := (J2.alloc _).drew
    go_region_with (first
      | (go_at_call 11; (with_reducible refine (HT.out _ (by first | exact JD.bel | exact JE.bel | exact Jb.bel | exact (Jb.alloc _).bel)).mono ?_); rintro e wa ⟨ua, rfl, hGa, hba⟩; obtain ⟨Da, fa', rfl, _, _⟩ := hGa.slice; have ra := hGa.room; have Ja : ArgTF w w2 t (.slice B t.fields.length cb) f (.slice D f.list.length cd) wa := (by first | exact JD.below hba | exact JE.below hba | exact Jb.below hba | exact (Jb.alloc _).below hba); obtain ⟨m0, m1, m2, m3⟩ := cells4 Ja.2.1; have la := lt_of_heap Ja.1; have la' := lt_of_heap Ja.2.1; have Ga := RdFs.of_own hGa; (try (first | have Za := keepB (show (w2.alloc (.cells #[.string ⟨#[]⟩, .slice none 0 0] 32)).drew.heap[w2.heap.size]? = some (.cells #[.string ⟨#[]⟩, .slice none 0 0] 32) from heap_alloc_new w2 _) hba | have Za := keepB (heap_alloc_new wb _) hba | have Za := keepB Zb hba)); (try (have Sb2 : RdS wa (.slice (some ⟨gb, 0, none⟩) f.list.length cb') f.list := by first | exact Sb.below hba | exact (Sb.below ((Below.refl _ _).alloc (Nat.le_refl _) _)).below hba)))
      | (go_at_call 12; (with_reducible refine (HF.out _ (by first | exact JD.bel | exact JE.bel | exact Ja.bel | exact (Ja.alloc _).bel)).mono ?_); rintro e wb ⟨gb, cb', rfl, hSb, hbb⟩; have Jb : ArgTF w w2 t (.slice B t.fields.length cb) f (.slice D f.list.length cd) wb := (by first | exact JD.below hbb | exact JE.below hbb | exact Ja.below hbb | exact (Ja.alloc _).below hbb); obtain ⟨n0, n1⟩ := cellsG Jb.1; have lb := lt_of_heap Jb.1; have lb' := lt_of_heap Jb.2.1; have Sb := RdS.of_strs hSb; (try (first | have Zb := keepB (show (w2.alloc (.cells #[.string ⟨#[]⟩, .slice none 0 0] 32)).drew.heap[w2.heap.size]? = some (.cells #[.string ⟨#[]⟩, .slice none 0 0] 32) from heap_alloc_new w2 _) hbb | have Zb := keepB (heap_alloc_new wa _) hbb | have Zb := keepB Za hbb)); (try (have Ga2 : RdFs wb (.slice (some ⟨Da, 0, none⟩) t.fields.length fa') t.fields := by first | exact Ga.below hbb | exact (Ga.below ((Below.refl _ _).alloc (Nat.le_refl _) _)).below hbb)))
      | (go_at_call 10; refine (HSP.out _ _ _ (by first | exact Ga | exact Ga2 | exact Ga.below ((Below.refl _ _).alloc (Nat.le_refl _) _) | exact Ga2.below ((Below.refl _ _).alloc (Nat.le_refl _) _)) (by first | exact Sb | exact Sb2 | exact Sb.below ((Below.refl _ _).alloc (Nat.le_refl _) _) | exact Sb2.below ((Below.refl _ _).alloc (Nat.le_refl _) _))).mono ?_; rintro e w3 ⟨ux, lo, rfl, ⟨R3, hlo⟩, hb3⟩; obtain ⟨K3, kc3, rfl⟩ := R3.slice; have J3 : ArgTF w w2 t (.slice B t.fields.length cb) f (.slice D f.list.length cd) w3 := (by first | exact Ja.below hb3 | exact (Ja.alloc _).below hb3 | exact Jb.below hb3 | exact (Jb.alloc _).below hb3); (try (first | have Z3 := keepB (heap_alloc_new wa _) hb3 | have Z3 := keepB (heap_alloc_new wb _) hb3 | have Z3 := keepB Za hb3 | have Z3 := keepB Zb hb3)); (try (obtain ⟨z0, z1⟩ := cellsG Z3; have zf := frozenG Z3; have zl := lt_of_heap Z3))))
    all_goals
      have sa := Ja.anc.size
      have sb := Jb.anc.size
      go_wp2_with fail
      go_meet
      first
        | exact ⟨_, _, rfl, heap_alloc_new w3 _, Lib.hid (R3.rd.below ((Below.refl _ _).alloc (Nat.le_refl _) _)), J3.alloc _⟩
        | exact ⟨_, _, rfl, set2G Z3 _ _, Lib.hid ((R3.far _ _ _ (by first | omega | (simp at hlo; omega) | (have := lt_of_heap Za; omega) | (have := lt_of_heap Zb; omega))).far _ _ _ (by first | omega | (simp at hlo; omega) | (have := lt_of_heap Za; omega) | (have := lt_of_heap Zb; omega))).rd, J3.set2 _ (by omega) (by omega) _ _⟩
  case rest =>
    obtain ⟨v0, g6, rfl, p6, HR6, J5⟩ := hcut
    have J6 := J5.here
    obtain ⟨V6, hV6⟩ : ∃ V6 : World, V6 = wc := ⟨_, rfl⟩
    subst hV6
    have l6 := lt_of_heap J6.2.1
    have HP6 := Lib.hid p6
    have HJ6 := Lib.hid J6
    clear J5 J2 x0 x1 y0 y1 y2 y3 l2 l2'
    obtain ⟨K6, k6, rfl⟩ := HR6.out.slice
    have HR0 := HR6
    obtain ⟨x0, x1⟩ := cellsG J6.1
    go_wp2_with fail
    refine (HT.out _ J6.bel).mono ?_
    rintro e w7 ⟨u7, rfl, hG7, hb7⟩
    have P7 := FdsS.of_own hG7
    obtain ⟨D7, e7, rfl, _, _⟩ := hG7.slice
    have room := hG7.room
    have J7 := J6.below hb7
    have A7 : Below w7.heap.size w7 (w7.alloc (.cells #[.string ⟨t.name.toArray⟩, .slice (some ⟨D7, 0, none⟩) t.fields.length e7] 32)) := ((Below.refl _ _).alloc (Nat.le_refl _) _)
    have J8 := J7.below A7
    have p8 := heap_alloc_new w7 (.cells #[.string ⟨t.name.toArray⟩, .slice (some ⟨D7, 0, none⟩) t.fields.length e7] 32)
    have G8 := hG7.below A7
    have P8 := P7.below A7 (Nat.le_refl _)
    have R6 := Lib.hid (HR6.out.below (hb7.trans (A7.mono hb7.size)))
    have k8 := keepB p6 (hb7.trans (A7.mono hb7.size))
    have z67 := hb7.size
    have z8 : (w7.alloc (.cells #[.string ⟨t.name.toArray⟩, .slice (some ⟨D7, 0, none⟩) t.fields.length e7] 32)).heap.size = w7.heap.size + 1 := by simp
    obtain ⟨y0, y1, y2, y3⟩ := cells4 J8.2.1
    clear hG7 hb7 P7 J6 J7 A7 x0 x1 p6 HR6
    have HZ8 := Lib.hid z8
    clear z8
    obtain ⟨hi, hhi⟩ : ∃ hi, hi = w7.heap.size := ⟨_, rfl⟩
    rw [← hhi] at P8 z67
    go_wp2_with fail
    refine (HF.out _ J8.bel).mono ?_
    rintro e w9 ⟨g9, c9, rfl, S9, hb9⟩
    have A9 : Below w9.heap.size w9 (w9.alloc (.cells #[.string ⟨f.key.toArray⟩, .string ⟨f.text.toArray⟩, .slice (some ⟨g9, 0, none⟩) f.list.length c9, .bool f.isl] 35)) := ((Below.refl _ _).alloc (Nat.le_refl _) _)
    have b10 := hb9.trans (A9.mono hb9.size)
    have J10 := J8.below b10
    have p10 := keepB p8 b10
    have q10 := heap_alloc_new w9 (.cells #[.string ⟨f.key.toArray⟩, .string ⟨f.text.toArray⟩, .slice (some ⟨g9, 0, none⟩) f.list.length c9, .bool f.isl] 35)
    have G10 := G8.below b10
    have P10 := P8.below b10 (by rw [HZ8.out]; omega)
    have S10 := S9.below A9
    have r9 : hi < g9 ∧ g9 < w9.heap.size := ⟨by have := S9.owned g9 rfl; rw [HZ8.out] at this; omega, S9.block_lt g9 rfl⟩
    have R10 := Lib.hid (R6.out.below b10)
    have k10 := keepB k8 b10
    have z10 : (w9.alloc (.cells #[.string ⟨f.key.toArray⟩, .string ⟨f.text.toArray⟩, .slice (some ⟨g9, 0, none⟩) f.list.length c9, .bool f.isl] 35)).heap.size = w9.heap.size + 1 := by simp
    have z89 : w7.heap.size + 1 ≤ w9.heap.size := by have := hb9.size; rw [HZ8.out] at this; omega
    obtain ⟨x0, x1⟩ := cellsG p10
    obtain ⟨m0, m1, m2, m3⟩ := cells4 q10
    clear hb9 A9 b10 J8 p8 G8 P8 S9 R6 k8 y0 y1 y2 y3
    have HZ10 := Lib.hid z10
    clear z10
    go_wp2_with fail
    refine (HIM.out _ _ _ _ _ (RdFs.of_own G10) (RdS.of_strs S10) room).mono ?_
    rintro e w11 ⟨v11, rfl, F11, hb11⟩
    obtain ⟨lo, hlo⟩ : ∃ lo, lo = w9.heap.size + 1 := ⟨_, rfl⟩
    rw [HZ10.out, ← hlo] at F11
    rcases F11.open with ⟨_, h0⟩ | ⟨G, cap, x, rfl, hbG, HC, HL, HA0, Hx0⟩
    · exact absurd h0 (setF_ne t.fields f)
    have hGi : G < w11.heap.size := by obtain ⟨cur, hc, _⟩ := HC; exact lt_of_heap hc
    have HLi := Lib.hid (fun (j : Nat) (hj : j < (setF t.fields f).length) (g : Nat) (hg : (x j).2.ownBlock = some g) => (show lo ≤ g ∧ g < w11.heap.size from ⟨(HL j hj).owned g hg, (HL j hj).block_lt g hg⟩))
    have HA := Lib.hid HA0
    have Hx := Lib.hid Hx0
    have HSM := Lib.hid (setF_small HS.out.fields HSF.out)
    have HSH := Lib.hid (setF_short (f := f) HS.out.fields)
    have HN := Lib.hid (fun (j : Nat) (hj : j < (setF t.fields f).length) => (show (x j).1.list.length ≤ 1048600 from by rw [Hx.out j hj]; have := (HSM.out _ (List.getElem_mem hj)).list; omega))
    have HW := Lib.hid (cntX_small HS.out.fields HSF.out Hx.out)
    clear HA0 Hx0 F11
    have A11 : Below w11.heap.size w11 (w11.alloc (.cells #[.string ⟨t.name.toArray⟩, .slice (some ⟨G, 0, none⟩) (setF t.fields f).length cap] 32)) := ((Below.refl _ _).alloc (Nat.le_refl _) _)
    have b12 := hb11.trans (A11.mono hb11.size)
    have J12 := J10.below b12
    have p12 := keepB p10 b12
    have q12 := keepB q10 b12
    have s12 := heap_alloc_new w11 (.cells #[.string ⟨t.name.toArray⟩, .slice (some ⟨G, 0, none⟩) (setF t.fields f).length cap] 32)
    have G12 := G10.below b12
    have P12 := P10.below b12 (by rw [HZ10.out]; omega)
    have S12 := S10.below b12
    have R12 := Lib.hid (R10.out.below b12)
    have k12 := keepB k10 b12
    have C12 := Lib.hid (HC.below A11)
    have L12 := Lib.hid (ListsX.below HL A11)
    have z911 : lo ≤ w11.heap.size := by have := hb11.size; rw [HZ10.out] at this; omega
    obtain ⟨n0, n1⟩ := cellsG s12
    obtain ⟨n2, n3⟩ := cellsG k12
    clear hb11 A11 b12 J10 p10 q10 G10 P10 S10 R10 k10 HC HL x0 x1 m0 m1 m2 m3 HZ8 HZ10
    go_wp2_with fail
    refine (eqTable_long ⟨t.name, setF t.fields f⟩ _ _ _ (RdFs.of_x C12.out L12.out Hx.out) R12.out HSH.out HSM.out).mono ?_
    rintro e w13 ⟨rfl, hb13⟩
    have J13 := J12.below hb13
    have p13 := keepB p12 hb13
    have q13 := keepB q12 hb13
    have s13 := keepB s12 hb13
    have G13 := G12.below hb13
    have P13 := P12.mk (Mk.of_below hb13 (by have := lt_of_heap s12; omega))
    have S13 := S12.below hb13
    have R13 := Lib.hid (R12.out.below hb13)
    have k13 := keepB k12 hb13
    have C13 := Lib.hid (C12.out.below hb13)
    have L13 := Lib.hid (L12.out.below hb13)
    have z1113 : w11.heap.size < w13.heap.size := Nat.lt_of_lt_of_le (lt_of_heap s12) hb13.size
    clear hb13 J12 p12 q12 s12 G12 P12 S12 R12 k12 C12 L12 n0 n1 n2 n3
    obtain ⟨x0, x1⟩ := cellsG J13.1
    obtain ⟨y0, y1⟩ := cellsG p13
    have HQ := Lib.hid (fun (W : World) (h : Below w13.heap.size w13 W) (b' : Value) (r2 : RdFs W b' t.fields) => eqTable_same t _ b' W ((RdFs.of_own G13).below h) r2 HS.out)
    go_upto_region 14 with fail
    go_cut [44] (fun s wx => s = .bool false ∧ Below w13.heap.size w13 wx)
    case first =>
      go_region_with (first | (go_at_call 11; refine (HT.out _ (J13.bel.trans (below_drewN _ _ 1))).mono ?_; rintro e wc' ⟨uc, rfl, hGc, hbc⟩; obtain ⟨Dc, ec, rfl, _, _⟩ := hGc.slice; obtain ⟨z0, z1⟩ := cellsG (keepB (W := w13.drewN 1) p13 hbc)) | (go_at_call 14; refine (HQ.out _ ((below_drewN _ _ 1).trans (hbc.mono (Nat.le_refl _))) _ (RdFs.of_own hGc)).mono ?_; rintro e wd ⟨rfl, hbd⟩))
      all_goals
        go_wp2_with fail
        go_meet
        exact ⟨rfl, (below_drewN _ _ 1).trans ((hbc.trans (hbd.mono hbc.size)).mono (Nat.le_refl _))⟩
    case rest =>
      obtain ⟨rfl, hb14⟩ := hcut
      obtain ⟨V14, hV14⟩ : ∃ V14 : World, V14 = wc := ⟨_, rfl⟩
      subst hV14
      have J14 := J13.below hb14
      have p14 := keepB p13 hb14
      have q14 := keepB q13 hb14
      have s14 := keepB s13 hb14
      have P14 := P13.mk (Mk.of_below hb14 (by omega))
      have S14 := S13.below hb14
      have C14 := Lib.hid (C13.out.below hb14)
      have L14 := Lib.hid (L13.out.below hb14)
      have z1114 : w11.heap.size < V14.heap.size := Nat.lt_of_lt_of_le z1113 hb14.size
      clear hb14 J13 p13 q13 s13 G13 P13 S13 R13 k13 C13 L13 x0 x1 y0 y1 HQ z1113
      obtain ⟨x0, x1, x2, x3⟩ := cells4 J14.2.1
      obtain ⟨y0, y1, y2, y3⟩ := cells4 q14
      have HQ := Lib.hid (fun (W : World) (h : Below V14.heap.size V14 W) (b' : Value) (r2 : RdS W b' f.list) => eqField_same f _ b' W ((RdS.of_strs S14).below h) r2 HSF.out)
      go_upto_region 16 with fail
      go_cut [49] (fun s wx => s = .bool false ∧ Below V14.heap.size V14 wx)
      case first =>
        go_region_with (first | (go_at_call 12; refine (HF.out _ (J14.bel.trans (below_drewN _ _ 1))).mono ?_; rintro e wc' ⟨gc, ec, rfl, Sc, hbc⟩; obtain ⟨z0, z1, z3, z4⟩ := cells4 (keepB (W := V14.drewN 1) q14 hbc)) | (go_at_call 15; refine (HQ.out _ ((below_drewN _ _ 1).trans (hbc.mono (Nat.le_refl _))) _ (RdS.of_strs Sc)).mono ?_; rintro e wd ⟨rfl, hbd⟩))
        all_goals
          go_wp2_with fail
          go_meet
          exact ⟨rfl, (below_drewN _ _ 1).trans ((hbc.trans (hbd.mono hbc.size)).mono (Nat.le_refl _))⟩
      case rest =>
        obtain ⟨rfl, hb16⟩ := hcut
        obtain ⟨V16, hV16⟩ : ∃ V16 : World, V16 = wc := ⟨_, rfl⟩
        subst hV16
        have T16 := J14.anc.trans (hb16.mono J14.anc.size)
        have p16 := keepB p14 hb16
        have q16 := keepB q14 hb16
        have s16 := keepB s14 hb16
        have P16 := P14.mk (Mk.of_below hb16 (by omega))
        have S16 := S14.below hb16
        have C16 := Lib.hid (C14.out.below hb16)
        have L16 := Lib.hid (L14.out.below hb16)
        have z1116 : w11.heap.size < V16.heap.size := Nat.lt_of_lt_of_le z1114 hb16.size
        have HMK := Lib.hid (markTable_v V6.heap.size hi _ t _ P16 (by omega) HS.out)
        unfold tbV at HMK
        clear hb16 J14 p14 q14 s14 P14 S14 C14 L14 x0 x1 x2 x3 y0 y1 y2 y3 HQ z1114 P16
        obtain ⟨x0, x1⟩ := cellsG p16
        go_wp2_with fail
        refine HMK.out.mono ?_
        rintro e w17 ⟨zm, rfl, zm1, zm2, hm17⟩
        have T17 := belowMk T16 hm17 (Nat.le_refl _) T16.size
        have q17 := (hm17.out _ (lt_of_heap q16) (.inr (by omega))).trans q16
        have s17 := (hm17.out _ (lt_of_heap s16) (.inr (by omega))).trans s16
        have S17 := S16.mk hm17 (fun g hg => .inr (have h : g9 = g := (by simpa [Value.ownBlock] using hg); by omega))
        have C17 := Lib.hid (C16.out.keep (fun o ho => (hm17.out _ (lt_of_heap ho) (.inr (by omega))).trans ho))
        have L17 := Lib.hid (L16.out.mk hm17 (fun j hj g hg => .inr (by have := HLi.out j hj g hg; omega)))
        have HMF := Lib.hid (markField_v zm zm1 (by omega) f _ _ _ S17 (by have := HSF.out.list; omega))
        unfold fdV at HMF
        obtain ⟨kk, HKK⟩ : ∃ kk, Hid (zm + f.list.length = kk) := ⟨_, Lib.hid rfl⟩
        rw [HKK.out] at HMF
        clear hm17 T16 p16 q16 s16 S16 C16 L16 x0 x1 HMK
        obtain ⟨y0, y1, y2, y3⟩ := cells4 q17
        go_wp2_with fail
        refine HMF.out.mono ?_
        rintro e w18 ⟨rfl, hg18⟩
        have T18 := gr_belowN T17 hg18 T17.size (fun g hg => (have h : g9 = g := (by simpa [Value.ownBlock] using hg); by omega))
        have s18 := gr_heap hg18 s17 (fun e => (have h : w11.heap.size = g9 := (by simpa [Value.ownBlock] using e); by omega))
        have C18 := Lib.hid (C17.out.grown hg18 (fun e => (have h : G = g9 := (by simpa [Value.ownBlock] using e); by omega)))
        have L18 := Lib.hid (L17.out.grown hg18 (fun j hj g hg e => (have h := HLi.out j hj g hg; have h2 : g = g9 := (by simpa [Value.ownBlock] using e); by omega)))
        have k18 := keepB HP6.out T18
        have R18 := Lib.hid (HR0.out.below T18)
        have q1 : ¬ ((kk : Int) < 0) := by omega
        clear T17 q17 s17 S17 C17 L17 HMF y0 y1 y2 y3 hg18
        obtain ⟨x0, x1⟩ := cellsG s18
        obtain ⟨y0, y1⟩ := cellsG k18
        go_wp2_with fail
        refine (eqTable_long ⟨t.name, setF t.fields f⟩ _ _ _ (RdFs.of_x C18.out L18.out Hx.out) R18.out HSH.out HSM.out).mono ?_
        rintro e w19 ⟨rfl, hb19⟩
        have T19 := T18.trans (hb19.mono T18.size)
        have s19 := keepB s18 hb19
        have C19 := Lib.hid (C18.out.below hb19)
        have L19 := Lib.hid (L18.out.below hb19)
        have HMX := Lib.hid (markTable_x t.name w19 lo G (setF t.fields f).length cap x C19.out L19.out HA.out hbG HSH.out HN.out HW.out)
        obtain ⟨mm, HMM⟩ : ∃ mm, Hid (1 + cntX x (setF t.fields f).length = mm) := ⟨_, Lib.hid rfl⟩
        rw [HMM.out] at HMX
        clear T18 s18 C18 L18 k18 R18 hb19 x0 x1 y0 y1
        obtain ⟨x0, x1⟩ := cellsG s19
        go_wp2_with fail
        refine HMX.out.mono ?_
        rintro e w20 ⟨rfl, C20, L20, hb20, ho20⟩
        have T20 := T19.trans (hb20.mono (by omega))
        have s20 := ho20.2 _ _ s19 (by omega) (fun j hj e => by have := HLi.out j hj _ e; omega)
        have HHT := Lib.hid (fun (W : World) (h : Below w20.heap.size w20 W) => heldTable_x t.name W lo G (setF t.fields f).length cap x (C20.below h) (ListsX.below L20 h) HSH.out HN.out HW.out)
        rw [HMM.out] at HHT
        have q2 : ¬ ((mm : Int) < 0) := by omega
        have q3 : ((mm : Int) != (mm : Int)) = false := int_bne_false rfl
        clear T19 s19 C19 L19 HMX C20 L20 hb20 ho20 x0 x1
        obtain ⟨x0, x1⟩ := cellsG s20
        go_wp2_with fail
        refine (HHT.out _ (Below.refl _ _)).mono ?_
        rintro e w21 ⟨rfl, hb21⟩
        have J21 := (HJ6.out.below (T20.trans (hb21.mono T20.size))).here
        have T21 := T20.trans (hb21.mono T20.size)
        have s21 := keepB s20 hb21
        clear x0 x1 T20 s20
        obtain ⟨y0, y1, y2, y3⟩ := cells4 J21.2.1
        obtain ⟨x0, x1⟩ := cellsG J21.1
        have l2 := lt_of_heap J21.1
        have l2' := lt_of_heap J21.2.1
        go_upto_region 31 with fail
        go_cut [13] (fun s wx => ∃ u g, s = .pointer (some ⟨g, 0, none⟩) ∧ wx.heap[g]? = some (.cells #[.string ⟨t.name.toArray⟩, u] 32) ∧ Hid (RdFs wx u (setF t.fields f)) ∧ ArgTF w w21 t (.slice B t.fields.length cb) f (.slice D f.list.length cd) wx)
        case first =>
          have JD : ArgTF w w21 t (.slice B t.fields.length cb) f (.slice D f.list.length cd) w21.drew := J21.drew
          have JE : ArgTF w w21 t (.slice B t.fields.length cb) f (.slice D f.list.length cd) (w21.alloc (.cells #[.string ⟨#[]⟩, .slice none 0 0] 32)).drew := (J21.alloc _).drew
          go_region_with (first
            | (go_at_call 11; (with_reducible refine (HT.out _ (by first | exact JD.bel | exact JE.bel | exact Jb.bel | exact (Jb.alloc _).bel)).mono ?_); rintro e wa ⟨ua, rfl, hGa, hba⟩; obtain ⟨Da, fa', rfl, _, _⟩ := hGa.slice; have ra := hGa.room; have Ja : ArgTF w w21 t (.slice B t.fields.length cb) f (.slice D f.list.length cd) wa := (by first | exact JD.below hba | exact JE.below hba | exact Jb.below hba | exact (Jb.alloc _).below hba); obtain ⟨m0, m1, m2, m3⟩ := cells4 Ja.2.1; have la := lt_of_heap Ja.1; have la' := lt_of_heap Ja.2.1; have Ga := RdFs.of_own hGa; (try (first | have Za := keepB (show (w21.alloc (.cells #[.string ⟨#[]⟩, .slice none 0 0] 32)).drew.heap[w21.heap.size]? = some (.cells #[.string ⟨#[]⟩, .slice none 0 0] 32) from heap_alloc_new w21 _) hba | have Za := keepB (heap_alloc_new wb _) hba | have Za := keepB Zb hba)); (try (have Sb2 : RdS wa (.slice (some ⟨gb, 0, none⟩) f.list.length cb') f.list := by first | exact Sb.below hba | exact (Sb.below ((Below.refl _ _).alloc (Nat.le_refl _) _)).below hba)))
            | (go_at_call 12; (with_reducible refine (HF.out _ (by first | exact JD.bel | exact JE.bel | exact Ja.bel | exact (Ja.alloc _).bel)).mono ?_); rintro e wb ⟨gb, cb', rfl, hSb, hbb⟩; have Jb : ArgTF w w21 t (.slice B t.fields.length cb) f (.slice D f.list.length cd) wb := (by first | exact JD.below hbb | exact JE.below hbb | exact Ja.below hbb | exact (Ja.alloc _).below hbb); obtain ⟨n0, n1⟩ := cellsG Jb.1; have lb := lt_of_heap Jb.1; have lb' := lt_of_heap Jb.2.1; have Sb := RdS.of_strs hSb; (try (first | have Zb := keepB (show (w21.alloc (.cells #[.string ⟨#[]⟩, .slice none 0 0] 32)).drew.heap[w21.heap.size]? = some (.cells #[.string ⟨#[]⟩, .slice none 0 0] 32) from heap_alloc_new w21 _) hbb | have Zb := keepB (heap_alloc_new wa _) hbb | have Zb := keepB Za hbb)); (try (have Ga2 : RdFs wb (.slice (some ⟨Da, 0, none⟩) t.fields.length fa') t.fields := by first | exact Ga.below hbb | exact (Ga.below ((Below.refl _ _).alloc (Nat.le_refl _) _)).below hbb)))
            | (go_at_call 13; refine (HIM.out _ _ _ _ _ (by first | exact Ga | exact Ga2 | exact Ga.below ((Below.refl _ _).alloc (Nat.le_refl _) _) | exact Ga2.below ((Below.refl _ _).alloc (Nat.le_refl _) _)) (by first | exact Sb | exact Sb2 | exact Sb.below ((Below.refl _ _).alloc (Nat.le_refl _) _) | exact Sb2.below ((Below.refl _ _).alloc (Nat.le_refl _) _)) ra).mono ?_; rintro e w3 ⟨ux, rfl, R3', hb3⟩; obtain ⟨lo', hlo', R3⟩ : ∃ lo', lo' = _ ∧ FsD w3 lo' _ _ := ⟨_, rfl, R3'⟩; have hlo := Nat.le_of_eq hlo'.symm; obtain ⟨K3, kc3, rfl⟩ := R3.slice; have J3 : ArgTF w w21 t (.slice B t.fields.length cb) f (.slice D f.list.length cd) w3 := (by first | exact Ja.below hb3 | exact (Ja.alloc _).below hb3 | exact Jb.below hb3 | exact (Jb.alloc _).below hb3); (try (first | have Z3 := keepB (heap_alloc_new wa _) hb3 | have Z3 := keepB (heap_alloc_new wb _) hb3 | have Z3 := keepB Za hb3 | have Z3 := keepB Zb hb3)); (try (obtain ⟨z0, z1⟩ := cellsG Z3; have zf := frozenG Z3; have zl := lt_of_heap Z3))))
          all_goals
            have sa := Ja.anc.size
            have sb := Jb.anc.size
            go_wp2_with fail
            go_meet
            first
              | exact ⟨_, _, rfl, heap_alloc_new w3 _, Lib.hid (R3.rd.below ((Below.refl _ _).alloc (Nat.le_refl _) _)), J3.alloc _⟩
              | exact ⟨_, _, rfl, set2G Z3 _ _, Lib.hid ((R3.far _ _ _ (by first | omega | (simp at hlo; omega) | (have := lt_of_heap Za; omega) | (have := lt_of_heap Zb; omega))).far _ _ _ (by first | omega | (simp at hlo; omega) | (have := lt_of_heap Za; omega) | (have := lt_of_heap Zb; omega))).rd, J3.set2 _ (by omega) (by omega) _ _⟩
        case rest =>
          obtain ⟨v3, g3, rfl, p22, HR22, J22⟩ := hcut
          obtain ⟨K9, k9, rfl⟩ := HR22.out.slice
          have T22 := T21.trans (J22.anc.mono T21.size)
          have s22 := keepB s21 J22.anc
          have k22 := keepB HP6.out T22
          have R22 := Lib.hid (HR0.out.below T22)
          have b22 := hb21.trans (J22.anc.mono hb21.size)
          clear x0 x1 y0 y1 y2 y3 s21 T21 J21 hb21 l2 l2'
          obtain ⟨x0, x1⟩ := cellsG p22
          obtain ⟨y0, y1⟩ := cellsG k22
          go_wp2_with fail
          refine (eqTable_long ⟨t.name, setF t.fields f⟩ _ _ _ HR22.out R22.out HSH.out HSM.out).mono ?_
          rintro e w23 ⟨rfl, hb23⟩
          have s23 := keepB s22 hb23
          have B23 := J22.bel.trans (hb23.mono J22.bel.size)
          have b23 := b22.trans (hb23.mono b22.size)
          clear x0 x1 y0 y1 s22 hb23 k22 p22
          obtain ⟨x0, x1⟩ := cellsG s23
          go_wp2_with fail
          refine (HHT.out _ b23).mono ?_
          rintro e w24 ⟨rfl, hb24⟩
          have B24 := B23.trans (hb24.mono B23.size)
          go_wp2_with fail
          go_ret
          exact ⟨rfl, B24⟩
end Go.Proofs.Ytongpnknmgbhjaa
