/-
  spec.GetIntegrity hands back the list of right sums whose text a text is, or none.
-/
import Derived.Test.YtcfkhfbhmjfhdaaDoorIntR
import Derived.Test.YtcfkhfbhmjfhdaaDoorIntS
import Derived.Test.YtcfkhfbhmjfhdaaDoorPkS
import Derived.Test.YtcfkhfbhmjfhdaaDoorAppSm
import Derived.Test.YtcfkhfbhmjfhdaaDoorGrw
import Derived.Test.YtcfkhfbhmjfhdaaDoorWordsS
namespace Go.Proofs.YtcfkhfbhmjfhdaaDoor
open Go.RowKit

/-- What GetIntegrity hands back. -/
def giL (l : List UInt8) : List Bd := if getIntOk l = true then sumsI l else []
theorem giL_no {l : List UInt8} (h : getIntOk l = false) : giL l = [] := if_neg (by rw [h]; simp)
theorem giL_yes {l : List UInt8} (h : getIntOk l = true) : giL l = sumsI l := if_pos h
def GiIs (w : World) (l : List UInt8) (e : Ending) (w' : World) : Prop := ∃ v, e = .returned (.tuple #[v, .bool (getIntOk l)]) ∧ Sums w' w.heap.size v (giL l) ∧ Below w.heap.size w w'

theorem noH1_hit {bs : List Bd} {k : Nat} (h : k < bs.length) (e : bs[k].1 = h1L) : noH1 bs = false := by
  cases hn : noH1 bs with
  | false => rfl
  | true =>
    unfold noH1 at hn
    rw [List.all_eq_true] at hn
    have := hn bs[k] (List.getElem_mem h)
    rw [e] at this; simp at this
theorem noH1_end {bs : List Bd} (h : ∀ k (h : k < bs.length), ¬ bs[k].1 = h1L) : noH1 bs = true := by
  unfold noH1
  rw [List.all_eq_true]
  intro b hb
  obtain ⟨k, hk, rfl⟩ := List.mem_iff_getElem.1 hb
  simpa using h k hk
theorem xName : specN [120] = true := by decide +kernel
theorem zVer : exOk [48, 46, 48, 46, 48] = true := by decide +kernel
theorem eSrc : plainL [] = true := by decide +kernel

set_option maxRecDepth 100000 in
set_option maxHeartbeats 2000000 in
theorem l05Right_any (v : Value) (bs : List Bd) (w : World) (hr : RdB w v bs) (hs : SmB bs) :
    Calls Tryd.prog 29 #[v] w fun e w' => e = .returned (.bool (noH1 bs && sumsOkL bs)) ∧ Below w.heap.size w w' := by
  have HP := Lib.hid (fun (W : World) (hb : Below w.heap.size w W) => specPackOkG_any ⟨[120], [48, 46, 48, 46, 48], [], bs, false, []⟩ v (.slice none 0 0) W (hr.below hb) (rdS_nil W) (by simp) (by simp) (by simp) hs)
  have HPK : Hid (pkOk ⟨[120], [48, 46, 48, 46, 48], [], bs, false, []⟩ = sumsOkL bs) := Lib.hid (by unfold pkOk; rw [xName, zVer, eSrc]; simp)
  simp only [HPK.out] at HP
  have HR := Lib.hid hr
  have hn : bs.length ≤ 1048576 := by unfold SmB at hs; omega
  obtain ⟨A, ca, rfl, _⟩ := hr
  have HH := Lib.hid (fun (k : Nat) (h : k < bs.length) (e : bs[k].1 = h1L) => noH1_hit h e)
  have HE := Lib.hid (noH1_end (bs := bs))
  obtain ⟨x, HX⟩ : ∃ x, Hid (noH1 bs = x) := ⟨_, Lib.hid rfl⟩
  obtain ⟨y, HY⟩ : ∃ y, Hid (sumsOkL bs = y) := ⟨_, Lib.hid rfl⟩
  simp only [HX.out] at HH HE
  simp only [HY.out] at HP
  rw [HX.out, HY.out]
  clear hs
  go_enter Tryd.func29, Tryd.ntmps29
  go_wp2_with fail
  go_loopw [3] (fun i wr => ∃ k : Nat, k ≤ bs.length ∧ i = .int .i64 k ∧ Hid (∀ j (h : j < bs.length), j < k → ¬ bs[j].1 = h1L) ∧ Below w.heap.size w wr) (fun i _ => bs.length - (intOf i).toNat)
  case atStart => exact ⟨0, Nat.zero_le _, rfl, Lib.hid (fun j _ h => by omega), Below.refl _ _⟩
  case round =>
    obtain ⟨k, hk, rfl, HK, hb⟩ := hrel
    by_cases hlt : k < bs.length
    · obtain ⟨g, off, rfl, hg, d1, d2⟩ := (HR.out.below hb).at k hlt
      have HH2 := Lib.hid (HH.out k hlt)
      have HK2 := Lib.hid (fun (h : ¬ bs[k].1 = h1L) => (show ∀ j (h : j < bs.length), j < k + 1 → ¬ bs[j].1 = h1L from fun j hj hjk => by
        by_cases e : j = k
        · subst e; exact h
        · exact HK.out j hj (by omega)))
      obtain ⟨al, HAL⟩ : ∃ al, Hid (bs[k].1 = al) := ⟨_, Lib.hid rfl⟩
      rw [HAL.out] at d1
      simp only [HAL.out] at HH2 HK2
      have k0 : (0 : Int) ≤ (k : Int) := by omega
      have k1 : (k : Int) < (bs.length : Int) := by omega
      clear d2
      by_cases he : al = h1L
      · have HF : Hid (x = false) := Lib.hid (HH2.out he)
        subst he
        unfold h1L at d1
        go_wp2_with fail
        go_ret
        exact ⟨ret_bool (by rw [HF.out]; rfl), hb⟩
      · have HN := Lib.hid (HK2.out he)
        have q1 : (al == [104, 49]) = false := by simpa [h1L] using he
        clear he
        go_wp2_with fail
        go_roundw
        case rel => exact ⟨k + 1, by omega, by go_num, HN, hb⟩
        case measure => simp [intOf]; omega
    · have HT : Hid (x = true) := Lib.hid (HE.out (fun j hj => HK.out j hj (by omega)))
      go_wp2_with fail
      refine (HP.out _ hb).mono ?_
      rintro e w1 ⟨rfl, hb1⟩
      go_wp2_with fail
      go_ret
      exact ⟨ret_bool (by rw [HT.out]; rfl), hb.trans (hb1.mono hb.size)⟩

theorem giIs_no {w w' : World} {l : List UInt8} (n : Nat) (hn : w'.heap.size = n) (h : getIntOk l = false) (hb : Below w.heap.size w w') : GiIs w l (.returned (.tuple #[.slice (some ⟨n, 0, none⟩) 0 0, .bool false])) (w'.alloc (.cells #[] 57)) :=
  ⟨_, by rw [h], by rw [giL_no h]; exact Sums.emptyAt w' _ n hn (by have := hb.size; omega), hb.alloc hb.size _⟩
theorem giIs_yes {w w' : World} {l : List UInt8} {v : Value} {out : List Bd} (h : getIntOk l = true) (ho : out = sumsI l) (hS : Sums w' w.heap.size v out) (hb : Below w.heap.size w w') : GiIs w l (.returned (.tuple #[v, .bool true])) w' :=
  ⟨_, by rw [h], by rw [giL_yes h, ← ho]; exact hS, hb⟩
theorem map_take_succ {ws : List (List UInt8)} {k : Nat} (h : k < ws.length) : (ws.take (k + 1)).map wordR = (ws.take k).map wordR ++ [wordR ws[k]] := by
  rw [List.take_succ_eq_append_getElem h, List.map_append]; rfl
theorem cutA_take {m : UInt8} {l : List UInt8} {k : Nat} (h : Lib.indexByte l m = (k : Int)) : cutA m l = l.take k := by unfold cutA; rw [if_pos (by omega), h]; simp
theorem cutB_drop {m : UInt8} {l : List UInt8} {k : Nat} (h : Lib.indexByte l m = (k : Int)) : cutB m l = l.drop (k + 1) := by unfold cutB; rw [if_pos (by omega), h]; simp

set_option maxRecDepth 100000 in
set_option maxHeartbeats 8000000 in
theorem specGetIntegrity_any (l : List UInt8) (w : World) (hl : l.length ≤ 1048576) :
    Calls Tryd.prog 11 #[.string ⟨l.toArray⟩] w (GiIs w l) := by
  have HWD : Hid (∀ W, Calls Tryd.prog 26 #[.string ⟨l.toArray⟩] W fun e W' => ∃ g cap, e = .returned (.slice (some ⟨g, 0, none⟩) (cutL 32 l).length cap) ∧ Strs W' W.heap.size (.slice (some ⟨g, 0, none⟩) (cutL 32 l).length cap) (cutL 32 l) ∧ Below W.heap.size W W') := Lib.hid (fun W => specWords_any ⟨l.toArray⟩ W (by show l.toArray.size ≤ _; simp; omega))
  have HNO := Lib.hid (fun (n : Nat) (w' : World) (hn : w'.heap.size = n) (h : getIntOk l = false) (hb : Below w.heap.size w w') => giIs_no (l := l) n hn h hb)
  have HYES := Lib.hid (fun (w' : World) (v : Value) (out : List Bd) (h : getIntOk l = true) (ho : out = sumsI l) (hS : Sums w' w.heap.size v out) (hb : Below w.heap.size w w') => giIs_yes (l := l) h ho hS hb)
  have HBAD := Lib.hid (fun (hn : l ≠ []) (p : List UInt8) (hp : p ∈ cutL 32 l) (hg : wordG p = false) => bad_word hn hp hg)
  have HGOOD := Lib.hid (fun (hn : l ≠ []) (hg : ∀ p ∈ cutL 32 l, wordG p = true) => (⟨sumsI_words hn hg, words_sm hl hn hg⟩ : sumsI l = (cutL 32 l).map wordR ∧ SmB ((cutL 32 l).map wordR)))
  have HNIL := Lib.hid (show l = [] → sumsI l = [] ∧ cutL 32 l = [[]] from fun h => by subst h; exact ⟨sumsI_nil, rfl⟩)
  have HLAST := Lib.hid (last_test l)
  have hwl := cutL_le 32 l
  have HML := Lib.hid (fun p hp => cutL_mem_le 32 l p hp)
  obtain ⟨ws, HWS⟩ : ∃ ws, Hid (cutL 32 l = ws) := ⟨_, Lib.hid rfl⟩
  simp only [HWS.out] at HWD HBAD HGOOD HNIL hwl HML
  obtain ⟨ok, HOK⟩ : ∃ ok, Hid (getIntOk l = ok) := ⟨_, Lib.hid rfl⟩
  have B0 : Below w.heap.size w (w.alloc (.cells #[] 57)) := (Below.refl _ _).alloc (Nat.le_refl _) _
  have S0 : Sums (w.alloc (.cells #[] 57)) w.heap.size (.slice (some ⟨w.heap.size, 0, none⟩) 0 0) [] := Sums.emptyAt w _ _ rfl (Nat.le_refl _)
  go_enter Tryd.func11, Tryd.ntmps11
  go_wp2_with fail
  refine (HWD.out _).mono ?_
  rintro e w1 ⟨gW, cW, rfl, SW, hb1⟩
  have B1 := B0.trans (hb1.mono B0.size)
  have S1 := S0.below hb1
  have x0 : w.heap.size < gW := by have := SW.lo; simp at this; omega
  clear hb1 S0 B0
  go_wp2_with fail
  go_loopw [4, 6, 7, 8, 9] (fun u i _ _ _ wr => ∃ (k : Nat) (out : List Bd), k ≤ ws.length ∧ i = .int .i64 k ∧ Hid (out = (ws.take k).map wordR) ∧ out.length ≤ k ∧ Sums wr w.heap.size u out ∧ (∀ g, u.ownBlock = some g → g ≠ gW) ∧ Strs wr w.heap.size (.slice (some ⟨gW, 0, none⟩) ws.length cW) ws ∧ Below w.heap.size w wr ∧ Hid (∀ p ∈ ws.take k, wordG p = true) ∧ (l = [] → k = 0)) (fun _ i _ _ _ _ => ws.length - (intOf i).toNat)
  case atStart => exact ⟨0, [], Nat.zero_le _, rfl, Lib.hid (by simp), by simp, S1, fun g hg => by simp only [Value.ownBlock, Option.some.injEq] at hg; omega, SW.weaken (by simp), B1, Lib.hid (by simp), fun _ => rfl⟩
  case round =>
    obtain ⟨k, out, hk, rfl, HO, hol, hS, hne, hW, hb, HG, hz⟩ := hrel
    clear S1 SW B1
    have hend : (¬ k < ws.length ∨ l = []) → out = sumsI l ∧ SmB out := fun h => by
      by_cases hn : l = []
      · have hk0 := hz hn
        subst hk0
        rw [HO.out, (HNIL.out hn).1]
        exact ⟨by simp, by simp [SmB, smB]⟩
      · have hke : k = ws.length := by
          rcases h with h | h
          · omega
          · exact absurd h hn
        obtain ⟨e1, e2⟩ := HGOOD.out hn (fun p hp => HG.out p (by rw [hke, List.take_length]; exact hp))
        rw [HO.out, hke, List.take_length, e1]
        exact ⟨rfl, e2⟩
    by_cases hx : ¬ k < ws.length ∨ l = []
    · obtain ⟨hoI, hsm⟩ := hend hx
      have HT := Lib.hid hoI
      have HL2 := Lib.hid HLAST.out
      rw [← hoI, HOK.out] at HL2
      have HR := Lib.hid (fun W v (h : RdB W v out) => l05Right_any v out W h hsm)
      have HP := Lib.hid (fun W v (h : RdB W v out) => specPutIntegrity_any v out W h hsm)
      obtain ⟨a, HA⟩ : ∃ a, Hid ((noH1 out && sumsOkL out) = a) := ⟨_, Lib.hid rfl⟩
      obtain ⟨t, HTT⟩ : ∃ t, Hid (intT out = t) := ⟨_, Lib.hid rfl⟩
      simp only [HA.out] at HR HL2
      simp only [HTT.out] at HP HL2
      clear hoI
      obtain ⟨U, cu, rfl⟩ := hS.slice
      have hexit : (¬ (k : Int) < (ws.length : Int)) ∨ ((k : Int) < (ws.length : Int) ∧ l = []) := by
        rcases hx with h | h
        · left; omega
        · by_cases hk' : k < ws.length
          · right; exact ⟨by omega, h⟩
          · left; omega
      clear hx hend hz
      rcases hexit with hexit | ⟨hexit, hl0⟩
      · cases a with
        | false =>
          have HF : Hid (getIntOk l = false) := Lib.hid (by rw [HOK.out, ← HL2.out]; rfl)
          go_wp2_with fail
          refine (HR.out _ _ (RdB.of_sums hS)).mono ?_
          rintro e w2 ⟨rfl, hb2⟩
          go_wp2_with fail
          go_ret2
          exact HNO.out _ _ rfl HF.out (hb.trans (hb2.mono hb.size))
        | true =>
          go_wp2_with fail
          refine (HR.out _ _ (RdB.of_sums hS)).mono ?_
          rintro e w2 ⟨rfl, hb2⟩
          have B2 := hb.trans (hb2.mono hb.size)
          have S2 := hS.below hb2
          go_wp2_with fail
          refine (HP.out _ _ (RdB.of_sums S2)).mono ?_
          rintro e w3 ⟨rfl, hb3⟩
          have B3 := B2.trans (hb3.mono B2.size)
          have S3 := S2.below hb3
          by_cases ht : t = l
          · have HF : Hid (getIntOk l = true) := Lib.hid (by rw [HOK.out, ← HL2.out, ht]; simp)
            have q1 : (t == l) = true := by rw [ht]; simp
            clear ht
            go_wp2_with fail
            go_ret2
            exact HYES.out _ _ out HF.out HT.out S3 B3
          · have q1 : (t == l) = false := by simpa using ht
            have HF : Hid (getIntOk l = false) := Lib.hid (by rw [HOK.out, ← HL2.out, q1]; rfl)
            clear ht
            go_wp2_with fail
            go_ret2
            exact HNO.out _ _ rfl HF.out B3
      · subst hl0
        cases a with
        | false =>
          have HF : Hid (getIntOk [] = false) := Lib.hid (by rw [HOK.out, ← HL2.out]; rfl)
          go_wp2_with fail
          refine (HR.out _ _ (RdB.of_sums hS)).mono ?_
          rintro e w2 ⟨rfl, hb2⟩
          go_wp2_with fail
          go_ret2
          exact HNO.out _ _ rfl HF.out (hb.trans (hb2.mono hb.size))
        | true =>
          go_wp2_with fail
          refine (HR.out _ _ (RdB.of_sums hS)).mono ?_
          rintro e w2 ⟨rfl, hb2⟩
          have B2 := hb.trans (hb2.mono hb.size)
          have S2 := hS.below hb2
          go_wp2_with fail
          refine (HP.out _ _ (RdB.of_sums S2)).mono ?_
          rintro e w3 ⟨rfl, hb3⟩
          have B3 := B2.trans (hb3.mono B2.size)
          have S3 := S2.below hb3
          by_cases ht : t = []
          · have HF : Hid (getIntOk [] = true) := Lib.hid (by rw [HOK.out, ← HL2.out, ht]; rfl)
            have q1 : (t == []) = true := by rw [ht]; rfl
            clear ht
            go_wp2_with fail
            go_ret2
            exact HYES.out _ _ out HF.out HT.out S3 B3
          · have q1 : (t == []) = false := by simpa using ht
            have HF : Hid (getIntOk [] = false) := Lib.hid (by rw [HOK.out, ← HL2.out, q1]; rfl)
            clear ht
            go_wp2_with fail
            go_ret2
            exact HNO.out _ _ rfl HF.out B3
    · obtain ⟨hlt, hln⟩ : k < ws.length ∧ l ≠ [] := ⟨by omega, fun h => hx (.inr h)⟩
      have hln2 : (l == []) = false := by simpa using hln
      have HB2 := Lib.hid (HBAD.out hln ws[k] (List.getElem_mem hlt))
      have HN2 := Lib.hid (map_take_succ hlt)
      have HG2 : Hid (wordG ws[k] = true → ∀ p ∈ ws.take (k + 1), wordG p = true) := Lib.hid (fun h p hp => by
        rw [List.take_succ_eq_append_getElem hlt] at hp
        rcases List.mem_append.1 hp with h1 | h1
        · exact HG.out p h1
        · simp at h1; subst h1; exact h)
      have hpl := HML.out ws[k] (List.getElem_mem hlt)
      have c1 := hW.cell k hlt
      have hlt45 := idx_lt ws[k] 45
      obtain ⟨p, HP⟩ : ∃ p, Hid (ws[k] = p) := ⟨_, Lib.hid rfl⟩
      simp only [HP.out] at HB2 HN2 HG2 hpl c1 hlt45
      have c1' : wr.cell? ⟨gW, k, none⟩ = some (.string ⟨p.toArray⟩) := c1
      have k0 : (0 : Int) ≤ (k : Int) := by omega
      have k1 : (k : Int) < (ws.length : Int) := by omega
      have HAT : Hid (∀ W, Calls Tryd.prog 27 #[.string ⟨p.toArray⟩, .int .u8 45] W fun e w' => e = .returned (.int .i64 (Lib.indexByte p 45)) ∧ W = w') := Lib.hid (fun W => l01At_any ⟨p.toArray⟩ 45 W (by show p.toArray.size ≤ maxLen; unfold maxLen; simp; omega))
      have HCB := Lib.hid (fun (j : Nat) (h : Lib.indexByte p 45 = (j : Int)) => (⟨cutA_take h, cutB_drop h⟩ : cutA 45 p = p.take j ∧ cutB 45 p = p.drop (j + 1)))
      have HWG : Hid (wordG p = (decide (0 ≤ Lib.indexByte p 45) && (getB (cutB 45 p)).2)) := Lib.hid rfl
      have HWR : Hid (wordR p = (cutA 45 p, (getB (cutB 45 p)).1)) := Lib.hid rfl
      obtain ⟨z, HZ⟩ : ∃ z, Hid (Lib.indexByte p 45 = z) := ⟨_, Lib.hid rfl⟩
      simp only [HZ.out] at HAT HCB HWG hlt45
      clear c1 hend hx hln hz
      by_cases h0 : 0 ≤ z
      · obtain ⟨j, rfl⟩ : ∃ j : Nat, z = (j : Int) := ⟨z.toNat, by omega⟩
        obtain ⟨eA, eB⟩ := HCB.out j rfl
        have hjl : j < p.length := by omega
        have hsz : (⟨p.toArray⟩ : ByteArray).size = p.length := by show p.toArray.size = _; simp
        have e1 := slice_from ⟨p.toArray⟩ ⟨(p.drop (j + 1)).toArray⟩ (j + 1) ((j : Int) + 1) (by omega) (by rw [hsz]; omega) (by have := piece_end ⟨p.toArray⟩ (j + 1); simpa using this)
        have x1 : IntKind.i64.wrap ((j : Int) + 1) = (j : Int) + 1 := IntWalk.i64_in _ (by omega)
        have e2 := slice_to ⟨p.toArray⟩ ⟨(p.take j).toArray⟩ j (j : Int) rfl (by rw [hsz]; omega) (by have := piece ⟨p.toArray⟩ 0 j; simpa using this)
        rw [← eB] at e1
        rw [← eA] at e2
        have hbl : (cutB 45 p).length ≤ p.length := by rw [eB]; simp
        have HB64 : Hid (∀ W, Calls Tryd.prog 28 #[.string ⟨(cutB 45 p).toArray⟩] W fun e w' => e = .returned (.tuple #[.string ⟨(getB (cutB 45 p)).1.toArray⟩, .bool (getB (cutB 45 p)).2]) ∧ Below W.heap.size W w') := Lib.hid (fun W => specGetBase64_any ⟨(cutB 45 p).toArray⟩ W (by show (cutB 45 p).toArray.size ≤ _; simp; omega))
        have hz1 : ¬ (j : Int) < 0 := by omega
        rw [decide_eq_true h0, Bool.true_and] at HWG
        obtain ⟨cb, HCBB⟩ : ∃ cb, Hid (cutB 45 p = cb) := ⟨_, Lib.hid rfl⟩
        obtain ⟨ca, HCA⟩ : ∃ ca, Hid (cutA 45 p = ca) := ⟨_, Lib.hid rfl⟩
        rw [HCBB.out] at e1 hbl HB64 HWG HWR
        rw [HCA.out] at e2 HWR
        rcases hgb : getB cb with ⟨by_, okb⟩
        rw [hgb] at HB64 HWG HWR
        clear hgb eA eB h0 hsz
        cases okb with
        | false =>
          have HF : Hid (getIntOk l = false) := Lib.hid (HB2.out HWG.out)
          go_wp2_with fail
          refine (HAT.out _).mono ?_
          rintro e w2 ⟨rfl, rfl⟩
          go_wp2_with fail
          refine (HB64.out _).mono ?_
          rintro e w3 ⟨rfl, hb3⟩
          go_wp2_with fail
          go_ret2
          exact HNO.out _ _ rfl HF.out (hb.trans (hb3.mono hb.size))
        | true =>
          have HN3 : Hid ((ws.take (k + 1)).map wordR = out ++ [(ca, by_)]) := Lib.hid (by rw [HN2.out, ← HO.out, HWR.out])
          have HG3 := Lib.hid (HG2.out HWG.out)
          have hws : w.heap.size ≤ wr.heap.size := hb.size
          have hgw : gW < wr.heap.size := hW.block_lt gW rfl
          have HOW := Lib.hid hS.owned
          go_wp2_with fail
          refine (HAT.out _).mono ?_
          rintro e w2 ⟨rfl, rfl⟩
          go_wp2_with fail
          refine (HB64.out _).mono ?_
          rintro e w3 ⟨rfl, hb3⟩
          have B3 := hb.trans (hb3.mono hb.size)
          have S3 := hS.below hb3
          have W3 := hW.below hb3
          have c3 := keepC hb3 c1'
          have hs3 : w.heap.size ≤ w3.heap.size := B3.size
          have hg3 : gW < w3.heap.size := Nat.lt_of_lt_of_le hgw hb3.size
          clear hS hW hb hb3 c1' hws hgw
          go_wp2_with (at_builtin; refine wpList_append_sums rfl _ _ rfl w.heap.size _ _ rfl (S3.alloc _) (ca, by_) w3.heap.size 1 _ _ rfl (heap_alloc_new w3 _) (by omega) (by simp; omega) ?_; intro g4 c4 w4 S4 hg4 hl4)
          have B4 := (B3.alloc hs3 _).grown hg4 (by simp; omega) (fun j hj => HOW.out j hj)
          have W4 := (W3.alloc (.cells #[.string ⟨ca.toArray⟩, .string ⟨by_.toArray⟩] 57)).grown hg4 (fun g hg e => by simp only [Value.ownBlock, Option.some.injEq] at hg; exact hne g e.symm hg.symm)
          go_roundw
          case rel =>
            refine ⟨k + 1, out ++ [(ca, by_)], by omega, by go_num, Lib.hid HN3.out.symm, by simp; omega, by simpa using S4, ?_, W4, B4, HG3, fun h => absurd h (by simpa using hln2)⟩
            intro g hg
            simp only [Value.ownBlock, Option.some.injEq] at hg
            subst hg
            rcases hl4 with hl4 | hl4
            · exact hne _ hl4
            · rw [hl4]; simp; omega
          case measure => simp [intOf]; omega
      · have HF : Hid (getIntOk l = false) := Lib.hid (HB2.out (by rw [HWG.out, decide_eq_false h0]; rfl))
        have hz1 : z < 0 := by omega
        clear h0
        go_wp2_with fail
        refine (HAT.out _).mono ?_
        rintro e w2 ⟨rfl, rfl⟩
        go_wp2_with fail
        go_ret2
        exact HNO.out _ _ rfl HF.out hb
end Go.Proofs.YtcfkhfbhmjfhdaaDoor
