/-
  impl.ReadDec and spec.ReadDec both return the number that a string is the decimal text of, if it has 1 to 9 digits and no leading zero, else -1.
-/
import Derived.Test.YtnodhkjgnegkcaaGreatDoorDec
namespace Go.Proofs.YtnodhkjgnegkcaaGreatDoor
open Go.RowKit

def isDig (c : UInt8) : Bool := decide (48 ≤ (c.toNat : Int) ∧ (c.toNat : Int) ≤ 57)
def numF (n : Nat) : List UInt8 → Nat
  | [] => n
  | c :: l => numF (n * 10 + (c.toNat - 48)) l
def numL (l : List UInt8) : Nat := numF 0 l
theorem numF_app (n : Nat) (a b : List UInt8) : numF n (a ++ b) = numF (numF n a) b := by
  induction a generalizing n with
  | nil => rfl
  | cons c l ih => exact ih _
theorem numL_snoc (a : List UInt8) (c : UInt8) : numL (a ++ [c]) = numL a * 10 + (c.toNat - 48) := by unfold numL; rw [numF_app]; rfl
theorem dig_le {c : UInt8} (h : isDig c = true) : 48 ≤ c.toNat ∧ c.toNat ≤ 57 := by unfold isDig at h; simp at h; omega
theorem snoc_cases (l : List UInt8) : l = [] ∨ ∃ a c, l = a ++ [c] := by
  rcases List.eq_nil_or_concat l with h | ⟨a, c, h⟩
  · exact .inl h
  · exact .inr ⟨a, c, by simpa using h⟩
theorem numL_lt : ∀ (n : Nat) (l : List UInt8), l.length = n → l.all isDig = true → numL l < 10 ^ n
  | 0, l, h, _ => by
    have : l = [] := List.eq_nil_of_length_eq_zero h
    subst this; decide
  | n + 1, l, h, ha => by
    rcases snoc_cases l with rfl | ⟨a, c, rfl⟩
    · simp at h
    · simp at h
      rw [List.all_append] at ha
      simp at ha
      have ih := numL_lt n a h (by simpa using ha.1)
      have hc := dig_le ha.2
      rw [numL_snoc, Nat.pow_succ]
      omega
theorem digC_of {c : UInt8} (h : isDig c = true) : UInt8.ofNat (48 + (c.toNat - 48)) = c := by
  have := dig_le h
  apply UInt8.toNat_inj.1
  simp
  omega
theorem dec_head : ∀ (u : Nat) (t : List UInt8), Lib.decDigits u = 48 :: t → u = 0 ∧ t = [] := by
  intro u
  induction u using Nat.strongRecOn with
  | _ u ih =>
    intro t h
    by_cases h10 : u < 10
    · rw [Lib.decDigits_one h10] at h
      injection h with h1 h2
      refine ⟨?_, h2.symm⟩
      have := congrArg UInt8.toNat h1
      simp at this
      omega
    · rw [Lib.decDigits, dif_neg h10] at h
      match hd : Lib.decDigits (u / 10), h with
      | [], h =>
        have := Lib.decDigits_length (u / 10)
        rw [hd] at this
        have := Lib.nDigits_pos (u / 10)
        simp at *
        omega
      | c :: t', h =>
        simp at h
        rw [h.1] at hd
        have := (ih (u / 10) (by omega) t' hd).1
        omega
theorem dec_of : ∀ (n : Nat) (l : List UInt8), l.length = n → l ≠ [] → l.all isDig = true → (l.head? = some 48 → l = [48]) → Lib.decDigits (numL l) = l := by
  intro n
  induction n with
  | zero => intro l h hne; exact absurd (List.eq_nil_of_length_eq_zero h) hne
  | succ n ih =>
    intro l h hne ha hz
    rcases snoc_cases l with rfl | ⟨a, c, rfl⟩
    · exact absurd rfl hne
    · rw [List.all_append] at ha
      simp at ha
      simp at h
      have hc := dig_le ha.2
      by_cases hae : a = []
      · subst hae
        rw [numL_snoc]
        have h0 : numL [] = 0 := rfl
        rw [h0, Lib.decDigits_one (by omega)]
        simp
        have := digC_of ha.2
        simpa using this
      · have hh : (a ++ [c]).head? = a.head? := by cases a <;> simp_all
        have hne48 : a.head? ≠ some 48 := by
          intro h48
          have := hz (by rw [hh]; exact h48)
          have hl := congrArg List.length this
          simp at hl
          exact hae hl
        have e := ih a h hae (by simpa using ha.1) (fun h48 => absurd h48 hne48)
        have hpos : numL a ≠ 0 := by
          intro h0
          rw [h0, Lib.decDigits_one (by decide)] at e
          exact hne48 (by rw [← e]; rfl)
        rw [numL_snoc, Lib.decDigits, dif_neg (by omega)]
        have e1 : (numL a * 10 + (c.toNat - 48)) / 10 = numL a := by omega
        have e2 : (numL a * 10 + (c.toNat - 48)) % 10 = c.toNat - 48 := by omega
        rw [e1, e2, e, digC_of ha.2]

/-- What both return. -/
def readL (l : List UInt8) : Int := if l ≠ [] ∧ l.length ≤ 9 ∧ l.all isDig = true ∧ Lib.decDigits (numL l) = l then (numL l : Int) else -1
theorem readL_bad {l : List UInt8} (h : ¬ (l ≠ [] ∧ l.length ≤ 9 ∧ l.all isDig = true ∧ Lib.decDigits (numL l) = l)) : readL l = -1 := if_neg h
theorem all_false (s : ByteArray) (k : Nat) (p : UInt8 → Bool) (h : k < s.size) (hb : p s[k] = false) : ¬ s.data.toList.all p = true := by
  intro ha
  have hm : s[k] ∈ s.data.toList := by
    have : s[k] = s.data.toList[k]'(by simpa using h) := rfl
    rw [this]; exact List.getElem_mem _
  have := List.all_eq_true.1 ha _ hm
  rw [hb] at this
  cases this
theorem all_next (s : ByteArray) (k : Nat) (p : UInt8 → Bool) (h : k < s.size) (ha : (s.data.toList.take k).all p = true) (hb : p s[k] = true) : (s.data.toList.take (k + 1)).all p = true := by
  rw [take_snoc s k h, List.all_append, ha]; simp [hb]
theorem dig_ways (c : UInt8) : (c.toNat : Int) < 48 ∨ 57 < (c.toNat : Int) ∨ (48 ≤ (c.toNat : Int) ∧ (c.toNat : Int) ≤ 57) := by omega
theorem dig_no {c : UInt8} (h : (c.toNat : Int) < 48 ∨ 57 < (c.toNat : Int)) : isDig c = false := by unfold isDig; simp; omega
theorem dig_yes {c : UInt8} (h : 48 ≤ (c.toNat : Int) ∧ (c.toNat : Int) ≤ 57) : isDig c = true := by unfold isDig; simp; omega
theorem num_bound {l : List UInt8} (ha : l.all isDig = true) (h : l.length ≤ 8) : numL l ≤ 99999999 := by
  have := numL_lt l.length l rfl ha
  have h2 : 10 ^ l.length ≤ 10 ^ 8 := Nat.pow_le_pow_right (by decide) h
  omega

set_option maxRecDepth 100000 in
set_option maxHeartbeats 2000000 in
theorem specReadDec_any (s : ByteArray) (w : World) (hs : s.size ≤ 1048576) :
    Calls Tryz.prog 142 #[.string s] w fun e w' => e = .returned (.int .i64 (readL s.data.toList)) ∧ w = w' := by
  go_enter Tryz.func142, Tryz.ntmps142
  go_wp2
  go_loop [3, 4] (fun n i => ∃ k : Nat, k ≤ s.size ∧ i = .int .i64 k ∧ n = .int .i64 (numL (s.data.toList.take k)) ∧ (0 < k → s.size ≤ 9) ∧ Hid ((s.data.toList.take k).all isDig = true)) (fun _ n => s.size - (intOf n).toNat)
  case atStart => exact ⟨0, Nat.zero_le _, rfl, rfl, fun h => absurd h (by omega), Lib.hid (by simp)⟩
  case round =>
    obtain ⟨k, hk, rfl, rfl, h9, H⟩ := hrel
    by_cases hlt : k < s.size
    · by_cases hlen : s.size ≤ 9
      · have hb : numL (s.data.toList.take k) ≤ 99999999 := num_bound H.out (by simp; omega)
        have HN : Hid (numL (s.data.toList.take (k + 1)) = numL (s.data.toList.take k) * 10 + (s[k].toNat - 48)) := Lib.hid (by rw [take_snoc s k hlt, numL_snoc])
        generalize numL (s.data.toList.take k) = m at hb HN ⊢
        rcases dig_ways s[k] with h | h | h
        · have HH := Lib.hid (readL_bad (fun h' => all_false s k isDig hlt (dig_no (.inl h)) h'.2.2.1))
          have b2 := (byte_lt s[k]).2
          clear h9
          go_wp2
          go_ret
          exact ⟨ret_int HH.out.symm, rfl⟩
        · have HH := Lib.hid (readL_bad (fun h' => all_false s k isDig hlt (dig_no (.inr h)) h'.2.2.1))
          have b1 := (byte_lt s[k]).1
          clear h9
          go_wp2
          go_ret
          exact ⟨ret_int HH.out.symm, rfl⟩
        · have HH := Lib.hid (all_next s k isDig hlt H.out (dig_yes h))
          obtain ⟨h1, h2⟩ := h
          clear h9
          go_wp2
          go_round
          case rel => exact ⟨k + 1, by omega, by go_num, by rw [HN.out]; go_num, fun _ => hlen, HH⟩
          case measure => simp [intOf]; omega
      · have HH := Lib.hid (readL_bad (l := s.data.toList) (fun h' => hlen (by simpa using h'.2.1)))
        clear h9
        rcases dig_ways s[k] with h | h | h
        · have b2 := (byte_lt s[k]).2
          go_wp2
          go_ret
          exact ⟨ret_int HH.out.symm, rfl⟩
        · have b1 := (byte_lt s[k]).1
          go_wp2
          go_ret
          exact ⟨ret_int HH.out.symm, rfl⟩
        · obtain ⟨h1, h2⟩ := h
          go_wp2
          go_ret
          exact ⟨ret_int HH.out.symm, rfl⟩
    · rw [take_end s k hlt]
      have H2 := H.out
      rw [take_end s k hlt] at H2
      have HH := Lib.hid H2
      clear H H2
      by_cases he : s.size = 0
      · have hnil : s.data.toList = [] := List.eq_nil_of_length_eq_zero (by simpa using he)
        have e1 : s.toList.isEmpty = true := by rw [ByteArray.toList_eq, hnil]; rfl
        have HR := Lib.hid (readL_bad (l := s.data.toList) (fun h' => h'.1 hnil))
        clear he hnil h9
        go_wp2_with (go_at_call 189; fail)
        go_ret
        exact ⟨ret_int HR.out.symm, rfl⟩
      · have h9' := h9 (by omega)
        clear h9
        have hne : s.data.toList ≠ [] := fun h => he (by have := congrArg List.length h; simpa using this)
        have e1 : s.toList.isEmpty = false := by rw [ByteArray.toList_eq]; simpa using hne
        have hnb : numL s.data.toList < 10 ^ s.data.toList.length := numL_lt _ _ rfl HH.out
        have hp : 10 ^ s.data.toList.length ≤ 10 ^ 9 := Nat.pow_le_pow_right (by decide) (by simpa using h9')
        have hb : numL s.data.toList ≤ 999999999 := by omega
        clear hnb hp
        have hit : Lib.itoa (numL s.data.toList : Int) = Lib.decDigits (numL s.data.toList) := by unfold Lib.itoa; rw [if_neg (by omega)]; simp
        by_cases hd : Lib.decDigits (numL s.data.toList) = s.data.toList
        · have e2 : (Lib.itoa (numL s.data.toList : Int) == s.toList) = true := by rw [hit, ByteArray.toList_eq, hd]; simp
          have HR : Hid (readL s.data.toList = (numL s.data.toList : Int)) := Lib.hid (if_pos ⟨hne, by simpa using h9', HH.out, hd⟩)
          clear hd hit hne
          generalize numL s.data.toList = m at hb HR e2 ⊢
          go_wp2_with (go_at_call 189; refine (specDecText_any _ _ (by omega) (by omega)).mono ?_; rintro e w' ⟨rfl, rfl⟩)
          go_ret
          exact ⟨ret_int HR.out.symm, rfl⟩
        · have e2 : (Lib.itoa (numL s.data.toList : Int) == s.toList) = false := by rw [hit, ByteArray.toList_eq]; simpa using hd
          have HR := Lib.hid (readL_bad (l := s.data.toList) (fun h' => hd h'.2.2.2))
          clear hd hit hne
          generalize numL s.data.toList = m at hb e2 ⊢
          go_wp2_with (go_at_call 189; refine (specDecText_any _ _ (by omega) (by omega)).mono ?_; rintro e w' ⟨rfl, rfl⟩)
          go_ret
          exact ⟨ret_int HR.out.symm, rfl⟩

set_option maxRecDepth 100000 in
set_option maxHeartbeats 2000000 in
theorem implReadDec_any (s : ByteArray) (w : World) (hs : s.size ≤ 1048576) :
    Calls Tryz.prog 246 #[.string s] w fun e w' => e = .returned (.int .i64 (readL s.data.toList)) ∧ w = w' := by
  by_cases he : s.size = 0
  · have hnil : s.data.toList = [] := List.eq_nil_of_length_eq_zero (by simpa using he)
    have e1 : s.toList.isEmpty = true := by rw [ByteArray.toList_eq, hnil]; rfl
    have HR := Lib.hid (readL_bad (l := s.data.toList) (fun h' => h'.1 hnil))
    clear he hnil
    go_enter Tryz.func246, Tryz.ntmps246
    go_wp2
    go_ret
    exact ⟨ret_int HR.out.symm, rfl⟩
  · have hne : s.data.toList ≠ [] := fun h => he (by have := congrArg List.length h; simpa using this)
    have e1 : s.toList.isEmpty = false := by rw [ByteArray.toList_eq]; simpa using hne
    by_cases h9 : 9 < s.size
    · have HR := Lib.hid (readL_bad (l := s.data.toList) (fun h' => by have := h'.2.1; simp at this; omega))
      clear he hne
      go_enter Tryz.func246, Tryz.ntmps246
      go_wp2
      go_ret
      exact ⟨ret_int HR.out.symm, rfl⟩
    · have h0 : 0 < s.size := by omega
      by_cases hz : s[0] = 48 ∧ s.data.toList ≠ [48]
      · have e2 : ((s[0].toNat : Int) == 48) = true := by rw [hz.1]; rfl
        have e3 : (s.toList == [48]) = false := by rw [ByteArray.toList_eq]; simpa using hz.2
        have HR := Lib.hid (readL_bad (l := s.data.toList) (fun h' => hz.2 (by
          have hd := drop_cons s 0 h0
          rw [hz.1] at hd
          simp at hd
          have := dec_head (numL s.data.toList) _ (h'.2.2.2.trans hd)
          rw [hd, this.2])))
        clear he hne hz
        go_enter Tryz.func246, Tryz.ntmps246
        go_wp2
        go_ret
        exact ⟨ret_int HR.out.symm, rfl⟩
      · have hgood : s.data.toList.head? = some 48 → s.data.toList = [48] := by
          intro hh
          have hd := drop_cons s 0 h0
          simp at hd
          rw [hd] at hh
          simp at hh
          exact Classical.byContradiction fun hn => hz ⟨hh, hn⟩
        have HG := Lib.hid hgood
        have HNE := Lib.hid hne
        have hd9 : decide ((9 : Int) < (s.size : Int)) = false := by simp; omega
        have e23 : ((s[0].toNat : Int) == 48) = false ∨ (((s[0].toNat : Int) == 48) = true ∧ (s.toList == [48]) = true) := by
          by_cases h48 : s[0] = 48
          · right
            refine ⟨by rw [h48]; rfl, ?_⟩
            rw [ByteArray.toList_eq]
            have : s.data.toList = [48] := Classical.byContradiction fun hn => hz ⟨h48, hn⟩
            rw [this]; rfl
          · left
            exact int_beq_false (fun h => h48 (UInt8.toNat_inj.1 (by show _ = (48 : Nat); omega)))
        clear hgood hz he hne
        rcases e23 with e2 | ⟨e2, e3⟩
        all_goals
          go_enter Tryz.func246, Tryz.ntmps246
          go_wp2
          go_loop [3, 4, 23] (fun n _ i => ∃ k : Nat, k ≤ s.size ∧ i = .int .i64 k ∧ n = .int .i64 (numL (s.data.toList.take k)) ∧ Hid ((s.data.toList.take k).all isDig = true)) (fun _ _ n => s.size - (intOf n).toNat)
          case atStart => exact ⟨0, Nat.zero_le _, rfl, rfl, Lib.hid (by simp)⟩
          case round =>
            obtain ⟨k, hk, rfl, rfl, H⟩ := hrel
            by_cases hlt : k < s.size
            · have hb : numL (s.data.toList.take k) ≤ 99999999 := num_bound H.out (by simp; omega)
              have HN : Hid (numL (s.data.toList.take (k + 1)) = numL (s.data.toList.take k) * 10 + (s[k].toNat - 48)) := Lib.hid (by rw [take_snoc s k hlt, numL_snoc])
              generalize numL (s.data.toList.take k) = m at hb HN ⊢
              rcases dig_ways s[k] with h | h | h
              · have HH := Lib.hid (readL_bad (fun h' => all_false s k isDig hlt (dig_no (.inl h)) h'.2.2.1))
                have b2 := (byte_lt s[k]).2
                go_wp2
                go_ret
                exact ⟨ret_int HH.out.symm, rfl⟩
              · have HH := Lib.hid (readL_bad (fun h' => all_false s k isDig hlt (dig_no (.inr h)) h'.2.2.1))
                have b1 := (byte_lt s[k]).1
                have d1 : decide ((s[k].toNat : Int) ≤ 57) = false := by simp; omega
                go_wp2
                go_ret
                exact ⟨ret_int HH.out.symm, rfl⟩
              · have HH := Lib.hid (all_next s k isDig hlt H.out (dig_yes h))
                obtain ⟨h1, h2⟩ := h
                go_wp2
                go_round
                case rel => exact ⟨k + 1, by omega, by go_num, by rw [HN.out]; go_num, HH⟩
                case measure => simp [intOf]; omega
            · have H2 := H.out
              rw [take_end s k hlt] at H2 ⊢
              have HR : Hid (readL s.data.toList = (numL s.data.toList : Int)) := Lib.hid (if_pos ⟨HNE.out, by simp; omega, H2, dec_of _ _ rfl HNE.out H2 HG.out⟩)
              clear H H2
              go_wp2
              go_ret
              exact ⟨ret_int HR.out.symm, rfl⟩
end Go.Proofs.YtnodhkjgnegkcaaGreatDoor
