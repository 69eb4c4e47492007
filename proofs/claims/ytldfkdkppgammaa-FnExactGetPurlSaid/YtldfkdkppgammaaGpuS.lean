/-
  spec.GetPurl: the kind, name and version of a package URL.
-/
import Derived.Test.YtldfkdkppgammaaPurG
import Derived.Test.YtldfkdkppgammaaPurlS
namespace Go.Proofs.Ytldfkdkppgammaa
open Go.RowKit

theorem lastK_form (c : UInt8) (l : List UInt8) : ∀ k, k ≤ l.length → (lastK l c k = -1 ∧ noM c (l.take k)) ∨ ∃ i : Nat, i < k ∧ lastK l c k = (i : Int) ∧ l.getD i 0 = c ∧ noM c ((l.take k).drop (i + 1))
  | 0, _ => .inl ⟨rfl, by simp; exact noM_nil c⟩
  | k + 1, h => by
    have ih := lastK_form c l k (by omega)
    have hk : k < l.length := by omega
    have hg : l.getD k 0 = l[k] := by rw [List.getD_eq_getElem?_getD, List.getElem?_eq_getElem hk]; rfl
    have ht : l.take (k + 1) = l.take k ++ [l[k]] := List.take_succ_eq_append_getElem hk
    by_cases hc : l.getD k 0 = c
    · right
      refine ⟨k, by omega, by unfold lastK; rw [if_pos hc], hc, ?_⟩
      rw [List.drop_of_length_le (by simp; omega)]
      exact noM_nil c
    · have e : lastK l c (k + 1) = lastK l c k := by conv => lhs; unfold lastK
                                                     rw [if_neg hc]
      have hx : noM c [l[k]] := fun x hx => by simp at hx; subst hx; rw [← hg]; exact hc
      rcases ih with ⟨h1, h2⟩ | ⟨i, hi, h1, h2, h3⟩
      · left; rw [e, ht]; exact ⟨h1, noM_app h2 hx⟩
      · right
        refine ⟨i, by omega, by rw [e]; exact h1, h2, ?_⟩
        rw [ht, List.drop_append_of_le_length (by simp; omega)]
        exact noM_app h3 hx
/-- What stands before the last at, and what behind it. -/
theorem key_form (s : ByteArray) : (s.data.toList = (keyA s).data.toList ++ 64 :: (keyB s).data.toList ∧ noM 64 (keyB s).data.toList) ∨ (noM 64 s.data.toList ∧ (keyA s).data.toList = [] ∧ (keyB s).data.toList = []) := by
  have hl : s.data.toList.length = s.size := by simp
  rcases lastK_form 64 s.data.toList s.size (by omega) with ⟨h1, h2⟩ | ⟨i, hi, h1, h2, h3⟩
  · right
    rw [List.take_of_length_le (by omega)] at h2
    rw [keyA_miss (by rw [h1]; omega), keyB_miss (by rw [h1]; omega)]
    exact ⟨h2, rfl, rfl⟩
  · left
    rw [keyA_hit h1, keyB_hit h1, piece_end, piece]
    rw [List.take_of_length_le (by omega)] at h3
    refine ⟨?_, h3⟩
    have : s.data.toList.drop i = 64 :: s.data.toList.drop (i + 1) := by
      rw [List.drop_eq_getElem_cons (by omega)]
      congr 1
      rw [← h2, List.getD_eq_getElem?_getD, List.getElem?_eq_getElem (by omega)]; rfl
    show s.data.toList = (s.data.toList.take i).drop 0 ++ 64 :: s.data.toList.drop (i + 1)
    rw [← this, List.drop_zero, List.take_append_drop]
theorem key_len (s : ByteArray) : (keyA s).data.toList.length ≤ s.size ∧ (keyB s).data.toList.length ≤ s.size := by
  have hl : s.data.toList.length = s.size := by simp
  rcases key_form s with ⟨h, _⟩ | ⟨_, h1, h2⟩
  · have := congrArg List.length h
    simp only [List.length_append, List.length_cons] at this
    omega
  · rw [h1, h2]; simp

/-- spec.GetPercent, whatever it says of the text. -/
theorem specPct_text (l : List UInt8) (w : World) (hl : l.length ≤ 1048576) :
    Calls Try.prog 80 #[.string ⟨l.toArray⟩] w fun e w' => e = .returned (.tuple #[.string ⟨(decP l).toArray⟩, .bool (pctS l).isSome]) ∧ Below w.heap.size w w' := by
  refine (specGetPercent_any ⟨l.toArray⟩ w (by show l.toArray.size ≤ _; simp; omega)).mono ?_
  rintro e w' ⟨rfl, hb⟩
  refine ⟨?_, hb⟩
  show Ending.returned (optText (pctS l)) = _
  unfold decP
  cases pctS l <;> rfl

theorem nameP_one (ps : List (List UInt8)) (h : 0 < ps.length) : nameP (ps.take 1) = decP ps[0] := by
  cases ps with
  | nil => simp at h
  | cons x l => simp [nameP, join_one]
theorem nameP_more (ps : List (List UInt8)) {j : Nat} (h : j < ps.length) (hj : 0 < j) : nameP (ps.take (j + 1)) = nameP (ps.take j) ++ [47] ++ decP ps[j] := by
  unfold nameP
  rw [List.take_succ_eq_append_getElem h, List.map_append, List.map_cons, List.map_nil, join_snoc]
  intro e
  have := congrArg List.length e
  rw [List.length_map, List.length_take, List.length_nil] at this
  omega
theorem all_more (ps : List (List UInt8)) (f : List UInt8 → Bool) {j : Nat} (h : j < ps.length) : (ps.take (j + 1)).all f = ((ps.take j).all f && f ps[j]) := by
  rw [List.take_succ_eq_append_getElem h, List.all_append, List.all_cons, List.all_nil, Bool.and_true]
/-- No kind below k fits. -/
def noneK (s a b : List UInt8) (k : Nat) : Prop := ∀ j : Nat, j < k → ¬ purlL (j : Int) a b = s
theorem noneK_zero (s a b : List UInt8) : noneK s a b 0 := fun j h => by omega
theorem noneK_succ {s a b : List UInt8} {k : Nat} (h : noneK s a b k) (hk : ¬ purlL (k : Int) a b = s) : noneK s a b (k + 1) := fun j hj => by
  rcases Nat.lt_or_ge j k with h1 | h1
  · exact h j h1
  · have : j = k := by omega
    subst this; exact hk
theorem kindAt_at {s a b : List UInt8} {k : Nat} (h : noneK s a b k) (hk : k < 4) (he : purlL (k : Int) a b = s) : kindAt s a b = k := by
  have n0 : 0 < k → ¬ purlL 0 a b = s := fun hj => h 0 hj
  have n1 : 1 < k → ¬ purlL 1 a b = s := fun hj => h 1 hj
  have n2 : 2 < k → ¬ purlL 2 a b = s := fun hj => h 2 hj
  unfold kindAt
  obtain rfl | rfl | rfl | rfl : k = 0 ∨ k = 1 ∨ k = 2 ∨ k = 3 := by omega
  · rw [if_pos (show purlL 0 a b = s from he)]; rfl
  · rw [if_neg (n0 (by omega)), if_pos (show purlL 1 a b = s from he)]; rfl
  · rw [if_neg (n0 (by omega)), if_neg (n1 (by omega)), if_pos (show purlL 2 a b = s from he)]; rfl
  · rw [if_neg (n0 (by omega)), if_neg (n1 (by omega)), if_neg (n2 (by omega)), if_pos (show purlL 3 a b = s from he)]; rfl
theorem kindAt_none {s a b : List UInt8} {k : Nat} (h : noneK s a b k) (hk : 4 ≤ k) : kindAt s a b = -1 := by
  have n0 : ¬ purlL 0 a b = s := h 0 (by omega)
  have n1 : ¬ purlL 1 a b = s := h 1 (by omega)
  have n2 : ¬ purlL 2 a b = s := h 2 (by omega)
  have n3 : ¬ purlL 3 a b = s := h 3 (by omega)
  unfold kindAt; rw [if_neg n0, if_neg n1, if_neg n2, if_neg n3]
def trpV (t : Trp) : Value := .tuple #[.int .i64 t.1, .string ⟨t.2.1.toArray⟩, .string ⟨t.2.2.toArray⟩]

set_option maxRecDepth 100000 in
set_option maxHeartbeats 4000000 in
theorem specGetPurl_any (s : ByteArray) (w : World) (hs : s.size ≤ 1048576) :
    Calls Try.prog 36 #[.string s] w fun e w' => e = .returned (trpV (getS s.data.toList (keyA s).data.toList (keyB s).data.toList)) ∧ Below w.heap.size w w' := by
  have HK := Lib.hid (specSplitKey_any s w hs)
  obtain ⟨hA, hB⟩ := key_len s
  obtain ⟨h, Hh⟩ : ∃ h, Hid ((keyA s).data.toList = h) := ⟨_, Lib.hid rfl⟩
  obtain ⟨t, Ht⟩ : ∃ t, Hid ((keyB s).data.toList = t) := ⟨_, Lib.hid rfl⟩
  have ea : keyA s = ⟨h.toArray⟩ := bytes_ext (by rw [Hh.out])
  have eb : keyB s = ⟨t.toArray⟩ := bytes_ext (by rw [Ht.out])
  rw [ea, eb] at HK
  rw [Hh.out, Ht.out]
  rw [Hh.out] at hA
  rw [Ht.out] at hB
  clear ea eb Hh Ht
  obtain ⟨r, HR⟩ : ∃ r, Hid (getS s.data.toList h t = r) := ⟨_, Lib.hid rfl⟩
  rw [HR.out]
  have HP := Lib.hid (fun (l : List UInt8) (hl : l.length ≤ 1048576) W => specPct_text l W hl)
  have HC : Hid (∀ W, Calls Try.prog 73 #[.string ⟨h.toArray⟩, .int .u8 47] W fun e w' => ∃ g cap, e = .returned (.slice (some ⟨g, 0, none⟩) (cutL 47 h).length cap) ∧ Strs w' W.heap.size (.slice (some ⟨g, 0, none⟩) (cutL 47 h).length cap) (cutL 47 h) ∧ Below W.heap.size W w') := Lib.hid (fun W => l01Cut_any ⟨h.toArray⟩ 47 W (by show h.toArray.size ≤ _; simp; omega))
  have hjl := tail_jl h
  have hpl := cutL_len_le 47 h
  have hdl := pctS_le t
  obtain ⟨p0, ps, HPS⟩ : ∃ p0 ps, Hid (cutL 47 h = p0 :: ps) := by
    cases hc : cutL 47 h with
    | nil => exact absurd hc (cutL_ne 47 h)
    | cons x l => exact ⟨x, l, Lib.hid rfl⟩
  rw [HPS.out] at hjl hpl
  simp only [HPS.out] at HC
  simp only [List.tail_cons, List.length_cons] at hjl hpl HC
  have HRR : Hid (r = getS s.data.toList h t ∧ (cutL 47 h).tail = ps) := Lib.hid ⟨HR.out.symm, by rw [HPS.out]; rfl⟩
  have HV := Lib.hid (HP.out t (by omega))
  obtain ⟨ok0, HO0⟩ : ∃ o, Hid ((pctS t).isSome = o) := ⟨_, Lib.hid rfl⟩
  obtain ⟨ver, HVE⟩ : ∃ v, Hid (decP t = v) := ⟨_, Lib.hid rfl⟩
  simp only [HO0.out, HVE.out] at HV
  have hvl : ver.length ≤ 1048576 := by rw [← HVE.out]; show ((pctS t).getD []).length ≤ _; omega
  clear hdl HPS
  go_enter Try.func36, Try.ntmps36
  go_wp2_with fail
  refine HK.out.mono ?_
  rintro e w1 ⟨rfl, B1⟩
  go_wp2_with fail
  refine (HV.out _).mono ?_
  rintro e w2 ⟨rfl, hb2⟩
  have B2 := B1.trans (hb2.mono B1.size)
  clear B1 hb2 HV HK
  go_wp2_with fail
  refine (HC.out _).mono ?_
  rintro e w3 ⟨g, cap, rfl, hS, hb3⟩
  have B3 := B2.trans (hb3.mono B2.size)
  clear B2 hb3 HC
  go_wp2_with fail
  go_loopw [8, 10, 11, 12, 13] (fun o nm i _ _ wr => ∃ (j I : Nat) (ok : Bool) (out : List UInt8), I = j + 1 ∧ j ≤ ps.length ∧ i = .int .i64 (I : Int) ∧ o = .bool ok ∧ nm = .string ⟨out.toArray⟩ ∧ Hid (nameP (ps.take j) = out) ∧ Hid (ok = (ok0 && (ps.take j).all fun p => (pctS p).isSome)) ∧ Below w3.heap.size w3 wr) (fun _ _ i _ _ _ => ps.length + 1 - (intOf i).toNat)
  case atStart => exact ⟨0, 1, ok0, [], rfl, Nat.zero_le _, rfl, rfl, rfl, Lib.hid (by simp [nameP, Lib.join, List.intercalate]), Lib.hid (by simp), Below.refl _ _⟩
  case round =>
    obtain ⟨j, I, ok, out, hI, hj, rfl, rfl, rfl, HN, HO, hbr⟩ := hrel
    have hol : out.length ≤ 1048576 := by rw [← HN.out]; have := nameP_len ps j; omega
    have HI := Lib.hid hI
    have hI1 : I ≤ 1048600 := by omega
    by_cases hlt : j < ps.length
    · have hSr := hS.below hbr
      have d1 : wr.cell? ⟨g, I, none⟩ = some (.string ⟨ps[j].toArray⟩) := by rw [HI.out]; exact hSr.cell (j + 1) (by simp; omega)
      have hp : ps[j].length ≤ 1048576 := by have := jl_mem ps[j] (List.getElem_mem hlt); omega
      have HQ := Lib.hid (HP.out ps[j] hp)
      have hdl : (decP ps[j]).length ≤ 1048576 := by have := pctS_le ps[j]; show ((pctS ps[j]).getD []).length ≤ _; omega
      have HA := Lib.hid (all_more ps (fun p => (pctS p).isSome) hlt)
      have HN1 := Lib.hid (fun (hj : 0 < j) => nameP_more ps hlt hj)
      have HN0 := Lib.hid (fun (_ : j = 0) => nameP_one ps (by omega))
      obtain ⟨fine, HF⟩ : ∃ f, Hid ((pctS ps[j]).isSome = f) := ⟨_, Lib.hid rfl⟩
      obtain ⟨E, HE⟩ : ∃ E, Hid (decP ps[j] = E) := ⟨_, Lib.hid rfl⟩
      simp only [HF.out, HE.out] at HQ
      rw [HE.out] at hdl
      have k0 : (0 : Int) ≤ (I : Int) := by omega
      have k1 : (I : Int) < ((ps.length + 1 : Nat) : Int) := by omega
      have k2 : I < ps.length + 1 := by omega
      have HO2 : Hid ((ok && fine) = (ok0 && (ps.take (j + 1)).all fun p => (pctS p).isSome)) := Lib.hid (by rw [HA.out, HO.out, HF.out, Bool.and_assoc])
      clear hSr hp HA hI
      by_cases hj0 : j = 0
      · have HNN : Hid (nameP (ps.take (j + 1)) = E) := Lib.hid (by subst hj0; rw [HN0.out rfl]; exact HE.out)
        have HOE : Hid (out = []) := Lib.hid (by rw [← HN.out, hj0]; simp [nameP, Lib.join, List.intercalate])
        have hg : ¬ (1 : Int) < (I : Int) := by have := HI.out; omega
        obtain rfl := HOE.out
        have s1 : ∀ W, (Op.stringOp .add ⟨#[]⟩ ⟨E.toArray⟩).run Try.prog W = .ok (.string ⟨E.toArray⟩) W := fun W => by have := add_lists W [] E (by simp) (by omega); simpa using this
        clear hj0 HN0 HN1 HOE
        cases ok
        all_goals
          go_wp2_with fail
          refine (HQ.out _).mono ?_
          rintro e w4 ⟨rfl, hb4⟩
          have HB := hbr.trans (hb4.mono hbr.size)
          go_wp2_with fail
          go_roundw
          case rel => exact ⟨j + 1, I + 1, _, E, by rw [HI.out], by omega, by go_num, rfl, rfl, HNN, HO2, HB⟩
          case measure => simp [intOf]; omega
      · have HNN : Hid (nameP (ps.take (j + 1)) = out ++ [47] ++ E) := Lib.hid (by rw [HN1.out (by omega), HN.out]; rw [HE.out])
        have hg : (1 : Int) < (I : Int) := by have := HI.out; omega
        obtain ⟨N1, HNA⟩ : ∃ N, Hid (N = out ++ [47]) := ⟨_, Lib.hid rfl⟩
        obtain ⟨N2, HNB⟩ : ∃ N, Hid (N = N1 ++ E) := ⟨_, Lib.hid rfl⟩
        have l1 : N1.length ≤ 1048577 := by rw [HNA.out]; simp; omega
        have s0 : ∀ W, (Op.stringOp .add ⟨out.toArray⟩ ⟨#[47]⟩).run Try.prog W = .ok (.string ⟨N1.toArray⟩) W := fun W => by rw [HNA.out]; exact add_lists W out [47] (by omega) (by simp)
        have s1 : ∀ W, (Op.stringOp .add ⟨N1.toArray⟩ ⟨E.toArray⟩).run Try.prog W = .ok (.string ⟨N2.toArray⟩) W := fun W => by rw [HNB.out]; exact add_lists W N1 E (by omega) (by omega)
        have HN2 : Hid (nameP (ps.take (j + 1)) = N2) := Lib.hid (by rw [HNN.out, HNB.out, HNA.out])
        clear hj0 HN0 HN1
        cases ok
        all_goals
          go_wp2_with fail
          refine (HQ.out _).mono ?_
          rintro e w4 ⟨rfl, hb4⟩
          have HB := hbr.trans (hb4.mono hbr.size)
          go_wp2_with fail
          go_roundw
          case rel => exact ⟨j + 1, I + 1, _, N2, by rw [HI.out], by omega, by go_num, rfl, rfl, HN2, HO2, HB⟩
          case measure => simp [intOf]; omega
    · have HNA : Hid (nameP ps = out) := Lib.hid (by rw [← HN.out, List.take_of_length_le (by omega)])
      have HOA : Hid (ok = (ok0 && ps.all fun p => (pctS p).isSome)) := Lib.hid (by rw [HO.out, List.take_of_length_le (by omega)])
      have hg : ¬ (I : Int) < ((ps.length + 1 : Nat) : Int) := by omega
      have hg2 : ¬ I < ps.length + 1 := by omega
      have HB := Lib.hid (B3.trans (hbr.mono B3.size))
      have HX : Hid (r = if ok = true ∧ s.data.toList ≠ [] then (if kindAt s.data.toList out ver = -1 then noTrp else (kindAt s.data.toList out ver, out, ver)) else noTrp) := Lib.hid (by
        rw [HRR.out.1]; unfold getS; rw [HRR.out.2, HNA.out, HVE.out, HO0.out, ← HOA.out])
      have HT := Lib.hid (fun (k : Int) W => specPutPurl_any k out ver W hol hvl)
      clear hI HO HN HNA HOA hS hbr B3 HI
      by_cases hgood : ok = true ∧ s.data.toList ≠ []
      · obtain ⟨rfl, hne⟩ := hgood
        have HX2 : Hid (r = if kindAt s.data.toList out ver = -1 then noTrp else (kindAt s.data.toList out ver, out, ver)) := Lib.hid (by rw [HX.out, if_pos ⟨rfl, hne⟩])
        have ne1 : s.toList.isEmpty = false := by rw [ByteArray.toList_eq]; exact (str_beq_nil hne).1
        have ne2 : (s.toList == []) = false := by rw [ByteArray.toList_eq]; exact (str_beq_nil hne).2
        clear hne HX
        go_wp2_with fail
        obtain ⟨V, hV⟩ : ∃ V, wr = V := ⟨_, rfl⟩
        rw [hV] at HB ⊢
        clear hV
        go_loopw [14] (fun n wq => ∃ k : Nat, k ≤ 4 ∧ n = .int .i64 k ∧ Hid (noneK s.data.toList out ver k) ∧ Below V.heap.size V wq) (fun n _ => 4 - (intOf n).toNat)
        case atStart => exact ⟨0, Nat.zero_le _, rfl, Lib.hid (noneK_zero _ _ _), Below.refl _ _⟩
        case round =>
          obtain ⟨k, hk, rfl, HNK, hbq⟩ := hrel
          by_cases hk4 : k < 4
          · have HTT := Lib.hid (HT.out (k : Int))
            by_cases he : purlL (k : Int) out ver = s.data.toList
            · have HKA : Hid (r = ((k : Int), out, ver)) := Lib.hid (by rw [HX2.out, kindAt_at HNK.out hk4 he, if_neg (by omega)])
              have q1 : (purlL (k : Int) out ver == s.toList) = true := by rw [he, ByteArray.toList_eq]; simp
              obtain ⟨x, HXX⟩ : ∃ x, Hid (purlL (k : Int) out ver = x) := ⟨_, Lib.hid rfl⟩
              simp only [HXX.out] at HTT
              rw [HXX.out] at q1
              clear he
              go_wp2_with fail
              refine (HTT.out _).mono ?_
              rintro e w5 ⟨rfl, hb5⟩
              have HB5 := hbq.trans (hb5.mono hbq.size)
              go_wp2_with fail
              go_ret3
              exact ⟨by rw [HKA.out]; rfl, HB.out.trans (HB5.mono HB.out.size)⟩
            · have HN2 := Lib.hid (noneK_succ HNK.out he)
              have q1 : (purlL (k : Int) out ver == s.toList) = false := by rw [ByteArray.toList_eq]; simpa using he
              obtain ⟨x, HXX⟩ : ∃ x, Hid (purlL (k : Int) out ver = x) := ⟨_, Lib.hid rfl⟩
              simp only [HXX.out] at HTT
              rw [HXX.out] at q1
              clear he
              go_wp2_with fail
              refine (HTT.out _).mono ?_
              rintro e w5 ⟨rfl, hb5⟩
              have HB5 := hbq.trans (hb5.mono hbq.size)
              go_wp2_with fail
              go_roundw
              case rel => exact ⟨k + 1, by omega, by go_num, HN2, HB5⟩
              case measure => simp [intOf]; omega
          · have HKA : Hid (r = noTrp) := Lib.hid (by rw [HX2.out, kindAt_none HNK.out (by omega), if_pos rfl])
            go_wp2_with fail
            go_ret3
            exact ⟨by rw [HKA.out]; rfl, HB.out.trans (hbq.mono HB.out.size)⟩
      · have HKA : Hid (r = noTrp) := Lib.hid (by rw [HX.out, if_neg hgood])
        have hc : ok = false ∨ (ok = true ∧ s.data.toList = []) := by
          cases ok
          · exact .inl rfl
          · right; exact ⟨rfl, Classical.byContradiction fun hn => hgood ⟨rfl, hn⟩⟩
        clear hgood HX
        rcases hc with rfl | ⟨rfl, hz⟩
        · go_wp2_with fail
          go_loop [14] (fun n => ∃ k : Nat, k ≤ 4 ∧ n = .int .i64 k) (fun n => 4 - (intOf n).toNat)
          case atStart => exact ⟨0, Nat.zero_le _, rfl⟩
          case round =>
            obtain ⟨k, hk, rfl⟩ := hrel
            by_cases hk4 : k < 4
            · go_wp2_with fail
              go_round
              case rel => exact ⟨k + 1, by omega, by go_num⟩
              case measure => simp [intOf]; omega
            · go_wp2_with fail
              go_ret3
              exact ⟨by rw [HKA.out]; rfl, HB.out⟩
        · have z1 : s.toList.isEmpty = true := by rw [ByteArray.toList_eq, hz]; rfl
          have z2 : (s.toList == []) = true := by rw [ByteArray.toList_eq, hz]; rfl
          clear hz
          go_wp2_with fail
          go_loop [14] (fun n => ∃ k : Nat, k ≤ 4 ∧ n = .int .i64 k) (fun n => 4 - (intOf n).toNat)
          case atStart => exact ⟨0, Nat.zero_le _, rfl⟩
          case round =>
            obtain ⟨k, hk, rfl⟩ := hrel
            by_cases hk4 : k < 4
            · go_wp2_with fail
              go_round
              case rel => exact ⟨k + 1, by omega, by go_num⟩
              case measure => simp [intOf]; omega
            · go_wp2_with fail
              go_ret3
              exact ⟨by rw [HKA.out]; rfl, HB.out⟩
end Go.Proofs.Ytldfkdkppgammaa
