/-
  impl.GetPercent and spec.GetPercent both return the string whose percent encoding a text is, and whether there is one.
-/
import Derived.Test.YtldfkdkppgammaaPairs
import Derived.Test.YtldfkdkppgammaaPercent
namespace Go.Proofs.Ytldfkdkppgammaa
open Go.RowKit

def upperL : List UInt8 := [48, 49, 50, 51, 52, 53, 54, 55, 56, 57, 65, 66, 67, 68, 69, 70]
def upperD : ByteArray := ⟨#[48, 49, 50, 51, 52, 53, 54, 55, 56, 57, 65, 66, 67, 68, 69, 70]⟩
def safeB (c : UInt8) : Bool := safeI (c.toNat : Int)

/-- As impl reads: no lenience. -/
def pctG : List UInt8 → Option (List UInt8)
  | [] => some []
  | c :: l => if safeB c = true then (pctG l).map (c :: ·) else if c = 37 then
      match l with
      | a :: b :: r => match pairV upperL a b with
        | some v => if safeB v = true then none else (pctG r).map (v :: ·)
        | none => none
      | _ => none
    else none
/-- As spec reads, ahead of its look back. -/
def lenG : List UInt8 → Option (List UInt8)
  | [] => some []
  | c :: l => if c = 37 then
      match l with
      | a :: b :: r => match pairV upperL a b with
        | some v => (lenG r).map (v :: ·)
        | none => none
      | _ => none
    else (lenG l).map (c :: ·)

theorem pctG_cons (c : UInt8) (l : List UInt8) : pctG (c :: l) = if safeB c = true then (pctG l).map (c :: ·) else if c = 37 then
      match l with
      | a :: b :: r => match pairV upperL a b with
        | some v => if safeB v = true then none else (pctG r).map (v :: ·)
        | none => none
      | _ => none
    else none := by
  match l with
  | [] => rfl
  | [_] => rfl
  | _ :: _ :: _ => rfl
theorem lenG_cons (c : UInt8) (l : List UInt8) : lenG (c :: l) = if c = 37 then
      match l with
      | a :: b :: r => match pairV upperL a b with
        | some v => (lenG r).map (v :: ·)
        | none => none
      | _ => none
    else (lenG l).map (c :: ·) := by
  match l with
  | [] => rfl
  | [_] => rfl
  | _ :: _ :: _ => rfl

theorem idx_get (D : List UInt8) (c : UInt8) (h : 0 ≤ Lib.indexByte D c) : D.getD (Lib.indexByte D c).toNat 0 = c := by
  induction D with
  | nil => simp [Lib.indexByte] at h
  | cons b l ih =>
    by_cases hb : b = c
    · rw [idx_hit l hb]; simp [hb]
    · rw [idx_miss l hb] at h ⊢
      by_cases h1 : Lib.indexByte l c = -1
      · simp [h1] at h
      · rw [if_neg h1] at h ⊢
        have := idx_ge l c
        have e : (Lib.indexByte l c + 1).toNat = (Lib.indexByte l c).toNat + 1 := by omega
        rw [e, List.getD_cons_succ]
        exact ih (by omega)
theorem pair_inv {a b v : UInt8} (h : pairV upperL a b = some v) : hexU (v.toNat / 16) = a ∧ hexU (v.toNat % 16) = b := by
  unfold pairV at h
  split at h
  · cases h
  · rename_i hn
    injection h with h
    have ha := idx_get upperL a (by omega)
    have hb := idx_get upperL b (by omega)
    have la := idx_lt upperL a
    have lb := idx_lt upperL b
    have l16 : upperL.length = 16 := rfl
    rw [l16] at la lb
    have hv : v.toNat = 16 * (Lib.indexByte upperL a).toNat + (Lib.indexByte upperL b).toNat := by
      rw [← h]; simp; omega
    have e1 : v.toNat / 16 = (Lib.indexByte upperL a).toNat := by omega
    have e2 : v.toNat % 16 = (Lib.indexByte upperL b).toNat := by omega
    rw [e1, e2]
    exact ⟨ha, hb⟩
theorem safe37 : safeB 37 = false := by decide
theorem pctB_safe {c : UInt8} (h : safeB c = true) : pctB c = [c] := by exact if_pos h
theorem pctB_not {c : UInt8} (h : ¬ safeB c = true) : pctB c = [37, hexU (c.toNat / 16), hexU (c.toNat % 16)] := by exact if_neg h

theorem pct_same : ∀ (n : Nat) (l : List UInt8), l.length ≤ n → pctG l = (lenG l).bind fun o => if pctL o = l then some o else none := by
  intro n
  induction n with
  | zero => intro l h; have : l = [] := List.eq_nil_of_length_eq_zero (by omega); subst this; rfl
  | succ n ih =>
    intro l hl
    match l, hl with
    | [], _ => rfl
    | c :: l, hl =>
      simp at hl
      by_cases hs : safeB c = true
      · have hc : c ≠ 37 := by rintro rfl; rw [safe37] at hs; cases hs
        rw [pctG_cons, if_pos hs, lenG_cons, if_neg hc, ih l (by omega)]
        cases lenG l with
        | none => rfl
        | some o =>
          simp only [Option.bind_some, Option.map_some]
          by_cases ho : pctL o = l
          · rw [if_pos ho, if_pos (by simp [pctL, pctB_safe hs, ho])]; rfl
          · rw [if_neg ho, if_neg (by simp [pctL, pctB_safe hs, ho])]; rfl
      · by_cases hc : c = 37
        · subst hc
          rw [pctG_cons, if_neg hs, if_pos rfl, lenG_cons, if_pos rfl]
          match l, hl with
          | [], _ => rfl
          | [_], _ => rfl
          | a :: b :: r, hl =>
            simp at hl
            simp only
            cases hp : pairV upperL a b with
            | none => rfl
            | some v =>
              simp only
              obtain ⟨e1, e2⟩ := pair_inv hp
              rw [ih r (by omega)]
              by_cases hv : safeB v = true
              · rw [if_pos hv]
                have hv37 : v ≠ 37 := by rintro rfl; rw [safe37] at hv; cases hv
                cases lenG r with
                | none => rfl
                | some o =>
                  simp only [Option.map_some, Option.bind_some]
                  rw [if_neg (by simp [pctL, pctB_safe hv, hv37])]
              · rw [if_neg hv]
                cases lenG r with
                | none => rfl
                | some o =>
                  simp only [Option.map_some, Option.bind_some]
                  by_cases ho : pctL o = r
                  · rw [if_pos ho, if_pos (by simp [pctL, pctB_not hv, e1, e2, ho])]; rfl
                  · rw [if_neg ho, if_neg (by simp [pctL, pctB_not hv, e1, e2, ho])]; rfl
        · rw [pctG_cons, if_neg hs, if_neg hc, lenG_cons, if_neg hc]
          cases lenG l with
          | none => rfl
          | some o =>
            simp only [Option.map_some, Option.bind_some]
            rw [if_neg (by simp [pctL, pctB_not hs]; intro h; exact absurd h.symm hc)]

/-- A reader that has read k bytes of l and has out. -/
def ReadAt (G : List UInt8 → Option (List UInt8)) (l : List UInt8) (k : Nat) (out : List UInt8) : Prop := G l = (G (l.drop k)).map (out ++ ·) ∧ out.length ≤ k
theorem readAt_zero (G : List UInt8 → Option (List UInt8)) (l : List UInt8) : ReadAt G l 0 [] := by unfold ReadAt; simp
theorem readAt_step {G : List UInt8 → Option (List UInt8)} {l : List UInt8} {k m : Nat} {out : List UInt8} {c : UInt8} (h : ReadAt G l k out) (hm : 1 ≤ m) (hg : G (l.drop k) = (G (l.drop (k + m))).map (c :: ·)) : ReadAt G l (k + m) (out ++ [c]) := by
  refine ⟨?_, by have := h.2; simp; omega⟩
  rw [h.1, hg, Option.map_map]
  congr 1
  funext x; simp
theorem readAt_none {G : List UInt8 → Option (List UInt8)} {l : List UInt8} {k : Nat} {out : List UInt8} (h : ReadAt G l k out) (hg : G (l.drop k) = none) : G l = none := by rw [h.1, hg]; rfl
theorem readAt_end {G : List UInt8 → Option (List UInt8)} {l : List UInt8} {k : Nat} {out : List UInt8} (h : ReadAt G l k out) (hg : G (l.drop k) = some []) : G l = some out := by rw [h.1, hg]; simp

theorem pctG_safe {s : ByteArray} {k : Nat} (h : k < s.size) (hs : safeB s[k] = true) : pctG (s.data.toList.drop k) = (pctG (s.data.toList.drop (k + 1))).map (s[k] :: ·) := by
  rw [drop_cons s k h, pctG_cons, if_pos hs]
theorem pctG_other {s : ByteArray} {k : Nat} (h : k < s.size) (hs : ¬ safeB s[k] = true) (hc : ¬ s[k] = 37) : pctG (s.data.toList.drop k) = none := by
  rw [drop_cons s k h, pctG_cons, if_neg hs, if_neg hc]
theorem pctG_bad {s : ByteArray} {k : Nat} (h : k < s.size) (hs : ¬ safeB s[k] = true) (hp : hexAtV upperL s.data.toList (k + 1) = none) : pctG (s.data.toList.drop k) = none := by
  rw [drop_cons s k h, pctG_cons, if_neg hs]
  unfold hexAtV at hp
  split
  · match hd : s.data.toList.drop (k + 1) with
    | [] => rfl
    | [_] => rfl
    | a :: b :: r => rw [hd] at hp; simp only at hp; simp only [hp]
  · rfl
theorem pctG_pair {s : ByteArray} {k : Nat} {v : UInt8} (h : k < s.size) (hs : ¬ safeB s[k] = true) (hc : s[k] = 37) (hp : hexAtV upperL s.data.toList (k + 1) = some v) : pctG (s.data.toList.drop k) = if safeB v = true then none else (pctG (s.data.toList.drop (k + 3))).map (v :: ·) := by
  rw [drop_cons s k h, pctG_cons, if_neg hs, if_pos hc]
  unfold hexAtV at hp
  match hd : s.data.toList.drop (k + 1) with
  | [] => rw [hd] at hp; cases hp
  | [_] => rw [hd] at hp; cases hp
  | a :: b :: r =>
    rw [hd] at hp
    simp only at hp
    simp only [hp]
    have e : s.data.toList.drop (k + 3) = (s.data.toList.drop (k + 1)).drop 2 := by rw [List.drop_drop]
    rw [e, hd]; rfl
theorem hexAtV_some {D : List UInt8} {s : ByteArray} {i : Nat} {v : UInt8} (h : hexAtV D s.data.toList i = some v) : i + 2 ≤ s.size := by
  rcases Nat.lt_or_ge s.size (i + 2) with hlt | hge
  · rw [hexAtV_short D s i hlt] at h; cases h
  · exact hge

set_option maxHeartbeats 2000000 in
theorem implGetPercent_any (s : ByteArray) (w : World) (hs : s.size ≤ 1048576) :
    Calls Try.prog 114 #[.string s] w fun e w' => e = .returned (optText (pctG s.data.toList)) ∧ Below w.heap.size w w' := by
  obtain ⟨i0, hi, hz0, hz1, hz2⟩ := info_parts u8info
  go_enter Try.func114, Try.ntmps114
  go_wp2_with (at_make; refine wpList_make_own _ rfl _ _ 59 rfl w.heap.size 5 i0 (.int .u8 0) 1 Try.underlying59 hi hz0 hz1 .i64 .i64 _ s.size rfl rfl (by omega) (by rw [hz2]; omega) (by unfold maxLen; omega) (Nat.le_refl _) ?_; intro w1 hown1 hg1)
  have hb1 : Below w.heap.size w w1 := (Below.refl _ _).grown hg1 (Nat.le_refl _) (by simp)
  go_loopw [4, 5, 6, 7, 8] (fun v n _ _ _ wr => ∃ (k : Nat) (out : List UInt8), k ≤ s.size ∧ n = .int .i64 k ∧ Buf wr w.heap.size v out ∧ Below w.heap.size w wr ∧ ReadAt pctG s.data.toList k out) (fun _ n _ _ _ _ => s.size - (intOf n).toNat)
  case atStart => exact ⟨0, [], Nat.zero_le _, rfl, hown1, hb1, readAt_zero _ _⟩
  case round =>
    obtain ⟨k, out, hk, rfl, hown, hb, HP⟩ := hrel
    by_cases hlt : k < s.size
    · have HL := Lib.hid HP.2
      by_cases hsf : safeB s[k] = true
      · have HN := Lib.hid (readAt_step HP (by omega) (pctG_safe hlt hsf))
        have HS : Hid (safeI (s[k].toNat : Int) = true) := Lib.hid hsf
        clear HP hsf
        go_wp2_with fail
        refine (unescaped_any _ _ (byte_lt s[k]).2 (byte_lt s[k]).1).mono ?_
        rw [HS.out]
        rintro e w' ⟨rfl, rfl⟩
        go_wp2_with (at_builtin; refine wpList_append_buf rfl _ _ rfl w.heap.size _ _ rfl (hown.alloc _) [s[k]] wr.heap.size _ _ _ _ _ rfl rfl (heap_alloc_new wr _) (by simp [bv]) (by simp) (by have := HL.out; simp; omega) (by simp; exact Nat.le_succ_of_le hb.size) ?_; intro v' w2 hown2 hb2)
        have HB := hb.trans (((Below.refl w.heap.size wr).alloc hb.size _).trans hb2)
        go_wp2
        go_roundw
        case rel => exact ⟨k + 1, _, by omega, by go_num, hown2, HB, HN.out⟩
        case measure => simp [intOf]; omega
      · have hcall := hexAt_any s upperD (k + 1) wr hs (by omega) rfl
        have hD : upperD.data.toList = upperL := rfl
        rw [hD] at hcall
        have hq : (((k + 1 : Nat) : Int)) = (k : Int) + 1 := by omega
        rw [hq] at hcall
        have HS : Hid (safeI (s[k].toNat : Int) = false) := Lib.hid (by simpa [safeB] using hsf)
        by_cases hc : s[k] = 37
        · have hne : ((s[k].toNat : Int) != 37) = false := by rw [hc]; rfl
          cases hpv : hexAtV upperL s.data.toList (k + 1) with
          | none =>
            rw [hpv] at hcall
            have HN := Lib.hid (readAt_none HP (pctG_bad hlt hsf hpv))
            have HC := Lib.hid hcall
            clear hcall hpv HP hsf hc hq hD
            go_wp2_with fail
            refine (unescaped_any _ _ (byte_lt s[k]).2 (byte_lt s[k]).1).mono ?_
            rw [HS.out]
            rintro e w' ⟨rfl, rfl⟩
            go_wp2_with fail
            refine HC.out.mono ?_
            rintro e w' ⟨rfl, rfl⟩
            unfold optByte
            go_wp2_with (go_at_call 112; fail)
            go_ret2
            exact ⟨by rw [HN.out]; rfl, hb⟩
          | some v =>
            rw [hpv] at hcall
            have hpp := pctG_pair hlt hsf hc hpv
            have hv2 := hexAtV_some hpv
            by_cases hsv : safeB v = true
            · have HN := Lib.hid (readAt_none HP (by rw [hpp, if_pos hsv]))
              have HC := Lib.hid hcall
              have HV : Hid (safeI (v.toNat : Int) = true) := Lib.hid hsv
              clear hcall hpv HP hsf hc hpp hsv hq hD
              go_wp2_with fail
              refine (unescaped_any _ _ (byte_lt s[k]).2 (byte_lt s[k]).1).mono ?_
              rw [HS.out]
              rintro e w' ⟨rfl, rfl⟩
              go_wp2_with fail
              refine HC.out.mono ?_
              rintro e w' ⟨rfl, rfl⟩
              unfold optByte
              go_wp2_with fail
              refine (unescaped_any _ _ (byte_lt v).2 (byte_lt v).1).mono ?_
              rw [HV.out]
              rintro e w' ⟨rfl, rfl⟩
              go_wp2_with fail
              go_ret2
              exact ⟨by rw [HN.out]; rfl, hb⟩
            · have HN := Lib.hid (readAt_step (m := 3) (c := v) HP (by omega) (by rw [hpp, if_neg hsv]))
              have HC := Lib.hid hcall
              have HV : Hid (safeI (v.toNat : Int) = false) := Lib.hid (by simpa [safeB] using hsv)
              clear hcall hpv HP hsf hc hpp hsv hq hD
              go_wp2_with fail
              refine (unescaped_any _ _ (byte_lt s[k]).2 (byte_lt s[k]).1).mono ?_
              rw [HS.out]
              rintro e w' ⟨rfl, rfl⟩
              go_wp2_with fail
              refine HC.out.mono ?_
              rintro e w' ⟨rfl, rfl⟩
              unfold optByte
              go_wp2_with fail
              refine (unescaped_any _ _ (byte_lt v).2 (byte_lt v).1).mono ?_
              rw [HV.out]
              rintro e w' ⟨rfl, rfl⟩
              go_wp2_with (at_builtin; refine wpList_append_buf rfl _ _ rfl w.heap.size _ _ rfl (hown.alloc _) [v] wr.heap.size _ _ _ _ _ rfl rfl (heap_alloc_new wr _) (by simp [bv]) (by simp) (by have := HL.out; simp; omega) (by simp; exact Nat.le_succ_of_le hb.size) ?_; intro v' w2 hown2 hb2)
              have HB := hb.trans (((Below.refl w.heap.size wr).alloc hb.size _).trans hb2)
              go_wp2
              go_roundw
              case rel => exact ⟨k + 3, _, by omega, by go_num, hown2, HB, HN.out⟩
              case measure => simp [intOf]; omega
        · have hne : ((s[k].toNat : Int) != 37) = true := int_bne_true (fun h => hc (UInt8.toNat_inj.1 (by show _ = (37 : Nat); omega)))
          have HN := Lib.hid (readAt_none HP (pctG_other hlt hsf hc))
          generalize hexAtV upperL s.data.toList (k + 1) = r at hcall
          have HC := Lib.hid hcall
          clear hcall HP hsf hc hq hD
          cases r with
          | none =>
            go_wp2_with fail
            refine (unescaped_any _ _ (byte_lt s[k]).2 (byte_lt s[k]).1).mono ?_
            rw [HS.out]
            rintro e w' ⟨rfl, rfl⟩
            go_wp2_with fail
            refine HC.out.mono ?_
            rintro e w' ⟨rfl, rfl⟩
            unfold optByte
            go_wp2_with (go_at_call 112; fail)
            go_ret2
            exact ⟨by rw [HN.out]; rfl, hb⟩
          | some v =>
            go_wp2_with fail
            refine (unescaped_any _ _ (byte_lt s[k]).2 (byte_lt s[k]).1).mono ?_
            rw [HS.out]
            rintro e w' ⟨rfl, rfl⟩
            go_wp2_with fail
            refine HC.out.mono ?_
            rintro e w' ⟨rfl, rfl⟩
            unfold optByte
            go_wp2_with (go_at_call 112; fail)
            go_ret2
            exact ⟨by rw [HN.out]; rfl, hb⟩
    · have hcv := hown.conv
      have HN := Lib.hid (readAt_end HP (by rw [drop_end s k hlt]; rfl))
      clear HP
      go_wp2
      go_ret2
      exact ⟨by rw [HN.out]; rfl, hb⟩
end Go.Proofs.Ytldfkdkppgammaa
