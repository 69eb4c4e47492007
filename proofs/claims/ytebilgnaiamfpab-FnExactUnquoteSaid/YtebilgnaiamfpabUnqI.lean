/-
  impl.Unquote returns the string whose quoted form stands at a place of a text, and the place behind it.
-/
import Derived.Test.YtebilgnaiamfpabUnq
namespace Go.Proofs.Ytebilgnaiamfpab
open Go.RowKit

def optQ : Option (UInt8 × Nat) → Value
  | none => .tuple #[.int .u8 0, .int .i64 0]
  | some (v, n) => .tuple #[.int .u8 (v.toNat : Int), .int .i64 (n : Int)]
theorem byte_is {c : UInt8} (n : Nat) (hn : n < 256) (h : (c.toNat : Int) = (n : Int)) : c = UInt8.ofNat n := (byte_eq hn).2 h
theorem byte_not {c : UInt8} (n : Nat) (hn : n < 256) (h : ¬ (c.toNat : Int) = (n : Int)) : ¬ c = UInt8.ofNat n := fun e => h ((byte_eq hn).1 e)
theorem pair2_at (s : List UInt8) (i : Nat) : pair2 (s.drop i) = hexAtV lowerL s i := rfl

set_option maxRecDepth 100000 in
set_option maxHeartbeats 4000000 in
theorem quotedAt_any (s : ByteArray) (i : Nat) (w : World) (hs : s.size ≤ 1048576) (hi : i < s.size) :
    Calls Try.prog 22 #[.string s, .int .i64 (i : Int)] w fun e w' => e = .returned (optQ (qAt (s.data.toList.drop i))) ∧ w = w' := by
  have b1 := (byte_lt s[i]).1
  have b2 := (byte_lt s[i]).2
  by_cases h92 : (s[i].toNat : Int) = 92
  · have q0 : ((s[i].toNat : Int) != 92) = false := int_bne_false h92
    have hc : s[i] = 92 := byte_is 92 (by omega) h92
    by_cases hend : i + 1 = s.size
    · have HV : Hid (qAt (s.data.toList.drop i) = none) := Lib.hid (by rw [drop_cons s i hi, drop_end s (i + 1) (by omega), hc]; rfl)
      have q1 : ((i : Int) + 1 == (s.size : Int)) = true := int_beq_true (by omega)
      clear h92 hc hend
      go_enter Try.func22, Try.ntmps22
      go_wp2_with fail
      go_ret2
      exact ⟨by rw [HV.out]; rfl, rfl⟩
    · have h1 : i + 1 < s.size := by omega
      have q1 : ((i : Int) + 1 == (s.size : Int)) = false := int_beq_false (by omega)
      have HD : Hid (s.data.toList.drop i = 92 :: s[i + 1] :: s.data.toList.drop (i + 2)) := Lib.hid (by rw [drop_cons s i hi, drop_cons s (i + 1) h1, hc])
      have d1 := (byte_lt s[i + 1]).1
      have d2 := (byte_lt s[i + 1]).2
      clear h92 hc hend
      by_cases h34 : (s[i + 1].toNat : Int) = 34
      · have hd : s[i + 1] = 34 := byte_is 34 (by omega) h34
        have HV : Hid (qAt (s.data.toList.drop i) = some (s[i + 1], 2)) := Lib.hid (by rw [HD.out]; simp [qAt, hd])
        have q2 : ((s[i + 1].toNat : Int) == 34) = true := int_beq_true h34
        clear h34 hd
        go_enter Try.func22, Try.ntmps22
        go_wp2_with fail
        go_ret2
        exact ⟨by rw [HV.out]; rfl, rfl⟩
      · have q2 : ((s[i + 1].toNat : Int) == 34) = false := int_beq_false h34
        have n34 : ¬ s[i + 1] = 34 := byte_not 34 (by omega) h34
        clear h34
        by_cases h92 : (s[i + 1].toNat : Int) = 92
        · have hd : s[i + 1] = 92 := byte_is 92 (by omega) h92
          have HV : Hid (qAt (s.data.toList.drop i) = some (s[i + 1], 2)) := Lib.hid (by rw [HD.out]; simp [qAt, hd])
          have q3 : ((s[i + 1].toNat : Int) == 92) = true := int_beq_true h92
          clear h92 hd n34
          go_enter Try.func22, Try.ntmps22
          go_wp2_with fail
          go_ret2
          exact ⟨by rw [HV.out]; rfl, rfl⟩
        · have q3 : ((s[i + 1].toNat : Int) == 92) = false := int_beq_false h92
          have n92 : ¬ s[i + 1] = 92 := byte_not 92 (by omega) h92
          clear h92
          by_cases h110 : (s[i + 1].toNat : Int) = 110
          · have hd : s[i + 1] = 110 := byte_is 110 (by omega) h110
            have HV : Hid (qAt (s.data.toList.drop i) = some (10, 2)) := Lib.hid (by rw [HD.out]; simp [qAt, hd])
            have q4 : ((s[i + 1].toNat : Int) == 110) = true := int_beq_true h110
            clear h110 hd n34 n92
            go_enter Try.func22, Try.ntmps22
            go_wp2_with fail
            go_ret2
            exact ⟨by rw [HV.out]; rfl, rfl⟩
          · have q4 : ((s[i + 1].toNat : Int) == 110) = false := int_beq_false h110
            have n110 : ¬ s[i + 1] = 110 := byte_not 110 (by omega) h110
            clear h110
            by_cases h120 : (s[i + 1].toNat : Int) = 120
            · have hd : s[i + 1] = 120 := byte_is 120 (by omega) h120
              have q5 : ((s[i + 1].toNat : Int) == 120) = true := int_beq_true h120
              have hcall := hexAt_any s lowerD (i + 2) w hs (by omega) rfl
              have hD : lowerD.data.toList = lowerL := rfl
              have hq : (((i + 2 : Nat) : Int)) = (i : Int) + 2 := by omega
              rw [hD, hq] at hcall
              have HX : Hid (qAt (s.data.toList.drop i) = match hexAtV lowerL s.data.toList (i + 2) with
                | some v => if qhexB v = true then some (v, 4) else none
                | none => none) := Lib.hid (by rw [HD.out, ← pair2_at]; simp [qAt, hd]; rfl)
              clear h120 hd n34 n92 n110 hD hq
              cases hpv : hexAtV lowerL s.data.toList (i + 2) with
              | none =>
                rw [hpv] at hcall
                have HV : Hid (qAt (s.data.toList.drop i) = none) := Lib.hid (by rw [HX.out, hpv])
                have HC := Lib.hid hcall
                clear hcall hpv
                go_enter Try.func22, Try.ntmps22
                go_wp2_with fail
                refine HC.out.mono ?_
                rintro e w' ⟨rfl, rfl⟩
                unfold optByte
                go_wp2_with (go_at_call 20; fail)
                go_ret2
                exact ⟨by rw [HV.out]; rfl, rfl⟩
              | some v =>
                rw [hpv] at hcall
                have HC := Lib.hid hcall
                by_cases hqv : qhexB v = true
                · have HV : Hid (qAt (s.data.toList.drop i) = some (v, 4)) := Lib.hid (by rw [HX.out, hpv]; simp [hqv])
                  have HQ : Hid (qhex (v.toNat : Int) = true) := Lib.hid hqv
                  clear hcall hpv hqv
                  go_enter Try.func22, Try.ntmps22
                  go_wp2_with fail
                  refine HC.out.mono ?_
                  rintro e w' ⟨rfl, rfl⟩
                  unfold optByte
                  go_wp2_with fail
                  refine (quotedHex_any _ _ (byte_lt v).2 (byte_lt v).1).mono ?_
                  rw [HQ.out]
                  rintro e w' ⟨rfl, rfl⟩
                  go_wp2_with fail
                  go_ret2
                  exact ⟨by rw [HV.out]; rfl, rfl⟩
                · have HV : Hid (qAt (s.data.toList.drop i) = none) := Lib.hid (by rw [HX.out, hpv]; simp [hqv])
                  have HQ : Hid (qhex (v.toNat : Int) = false) := Lib.hid (by simpa [qhexB] using hqv)
                  clear hcall hpv hqv
                  go_enter Try.func22, Try.ntmps22
                  go_wp2_with fail
                  refine HC.out.mono ?_
                  rintro e w' ⟨rfl, rfl⟩
                  unfold optByte
                  go_wp2_with fail
                  refine (quotedHex_any _ _ (byte_lt v).2 (byte_lt v).1).mono ?_
                  rw [HQ.out]
                  rintro e w' ⟨rfl, rfl⟩
                  go_wp2_with fail
                  go_ret2
                  exact ⟨by rw [HV.out]; rfl, rfl⟩
            · have q5 : ((s[i + 1].toNat : Int) == 120) = false := int_beq_false h120
              have n120 : ¬ s[i + 1] = 120 := byte_not 120 (by omega) h120
              have HV : Hid (qAt (s.data.toList.drop i) = none) := Lib.hid (by rw [HD.out]; simp [qAt, n34, n92, n110, n120])
              clear h120 n34 n92 n110 n120
              go_enter Try.func22, Try.ntmps22
              go_wp2_with fail
              go_ret2
              exact ⟨by rw [HV.out]; rfl, rfl⟩
  · have q0 : ((s[i].toNat : Int) != 92) = true := int_bne_true h92
    have n92 : ¬ s[i] = 92 := byte_not 92 (by omega) h92
    clear h92
    by_cases h10 : (s[i].toNat : Int) = 10
    · have hc : s[i] = 10 := byte_is 10 (by omega) h10
      have HV : Hid (qAt (s.data.toList.drop i) = none) := Lib.hid (by rw [drop_cons s i hi]; simp [qAt, hc])
      have q1 : ((s[i].toNat : Int) == 10) = true := int_beq_true h10
      clear h10 hc n92
      go_enter Try.func22, Try.ntmps22
      go_wp2_with (go_at_call 20; fail)
      go_ret2
      exact ⟨by rw [HV.out]; rfl, rfl⟩
    · have q1 : ((s[i].toNat : Int) == 10) = false := int_beq_false h10
      have n10 : ¬ s[i] = 10 := byte_not 10 (by omega) h10
      clear h10
      by_cases hqv : qhexB s[i] = true
      · have HV : Hid (qAt (s.data.toList.drop i) = none) := Lib.hid (by rw [drop_cons s i hi]; simp [qAt, n92, n10, hqv])
        have HQ : Hid (qhex (s[i].toNat : Int) = true) := Lib.hid hqv
        clear n92 n10 hqv
        go_enter Try.func22, Try.ntmps22
        go_wp2_with fail
        refine (quotedHex_any _ _ b2 b1).mono ?_
        rw [HQ.out]
        rintro e w' ⟨rfl, rfl⟩
        go_wp2_with fail
        go_ret2
        exact ⟨by rw [HV.out]; rfl, rfl⟩
      · have HV : Hid (qAt (s.data.toList.drop i) = some (s[i], 1)) := Lib.hid (by rw [drop_cons s i hi]; simp [qAt, n92, n10, hqv])
        have HQ : Hid (qhex (s[i].toNat : Int) = false) := Lib.hid (by simpa [qhexB] using hqv)
        clear n92 n10 hqv
        go_enter Try.func22, Try.ntmps22
        go_wp2_with fail
        refine (quotedHex_any _ _ b2 b1).mono ?_
        rw [HQ.out]
        rintro e w' ⟨rfl, rfl⟩
        go_wp2_with fail
        go_ret2
        exact ⟨by rw [HV.out]; rfl, rfl⟩

def unqV (r : Option (List UInt8 × Nat)) (i : Int) : Value := match r with
  | none => .tuple #[.string ⟨#[]⟩, .int .i64 (-1)]
  | some p => .tuple #[.string ⟨p.1.toArray⟩, .int .i64 (i + 1 + (p.2 : Int))]
/-- What both return at place i. -/
def unqT (step : List UInt8 → Option (UInt8 × Nat)) (l : List UInt8) (i : Int) : Option (List UInt8 × Nat) :=
  if 0 ≤ i ∧ i < l.length ∧ l.getD i.toNat 0 = 34 then unqG step (l.drop (i.toNat + 1)) else none

/-- A reader that stands at k, began behind the quote at i, and has out. -/
def UnqAt (step : List UInt8 → Option (UInt8 × Nat)) (l : List UInt8) (i k : Nat) (out : List UInt8) : Prop :=
  unqG step (l.drop (i + 1)) = (unqG step (l.drop k)).map (fun p => (out ++ p.1, p.2 + (k - (i + 1)))) ∧ out.length + (i + 1) ≤ k
theorem unqAt_start (step : List UInt8 → Option (UInt8 × Nat)) (l : List UInt8) (i : Nat) : UnqAt step l i (i + 1) [] := by
  refine ⟨?_, by simp⟩
  cases unqG step (l.drop (i + 1)) <;> simp
theorem unqAt_step {step : List UInt8 → Option (UInt8 × Nat)} {s : ByteArray} {i k n : Nat} {out : List UInt8} {v : UInt8} (h : UnqAt step s.data.toList i k out) (hk : k < s.size) (h34 : ¬ s[k] = 34) (hst : step (s.data.toList.drop k) = some (v, n)) (hn : 1 ≤ n) : UnqAt step s.data.toList i (k + n) (out ++ [v]) := by
  refine ⟨?_, by have := h.2; simp; omega⟩
  have h2 := h.2
  rw [h.1]
  have e : unqG step (s.data.toList.drop k) = (unqG step (s.data.toList.drop (k + n))).map fun p => (v :: p.1, p.2 + n) := by
    rw [drop_cons s k hk] at hst ⊢
    rw [unqG_cons, if_neg h34, hst]
    simp only
    rw [List.drop_drop, show k + 1 + (n - 1) = k + n from by omega]
  rw [e, Option.map_map]
  congr 1
  funext p
  simp
  omega
theorem unqAt_bad {step : List UInt8 → Option (UInt8 × Nat)} {s : ByteArray} {i k : Nat} {out : List UInt8} (h : UnqAt step s.data.toList i k out) (hk : k < s.size) (h34 : ¬ s[k] = 34) (hst : step (s.data.toList.drop k) = none) : unqG step (s.data.toList.drop (i + 1)) = none := by
  rw [h.1]
  rw [drop_cons s k hk] at hst ⊢
  rw [unqG_cons, if_neg h34, hst]; rfl
theorem unqAt_quote {step : List UInt8 → Option (UInt8 × Nat)} {s : ByteArray} {i k : Nat} {out : List UInt8} (h : UnqAt step s.data.toList i k out) (hk : k < s.size) (h34 : s[k] = 34) : unqG step (s.data.toList.drop (i + 1)) = some (out, 1 + (k - (i + 1))) := by
  rw [h.1, drop_cons s k hk, unqG_cons, if_pos h34]; simp
theorem unqAt_end {step : List UInt8 → Option (UInt8 × Nat)} {s : ByteArray} {i k : Nat} {out : List UInt8} (h : UnqAt step s.data.toList i k out) (hk : ¬ k < s.size) : unqG step (s.data.toList.drop (i + 1)) = none := by
  rw [h.1, drop_end s k hk, unqG_nil]; rfl
theorem qAt_bd {s : ByteArray} {k n : Nat} {v : UInt8} (hk : k < s.size) (h34 : ¬ s[k] = 34) (h : qAt (s.data.toList.drop k) = some (v, n)) : 1 ≤ n ∧ k + n ≤ s.size := by
  rw [drop_cons s k hk] at h
  rcases qAt_iff s[k] (s.data.toList.drop (k + 1)) h34 with ⟨v', n', h1, _, hn, hle, _⟩ | ⟨h1, _⟩
  · rw [h1] at h
    injection h with h
    injection h with _ h
    subst h
    simp at hle
    omega
  · rw [h1] at h; cases h
theorem unqT_out {step : List UInt8 → Option (UInt8 × Nat)} {l : List UInt8} {i : Int} (h : ¬ (0 ≤ i ∧ i < l.length ∧ l.getD i.toNat 0 = 34)) : unqT step l i = none := if_neg h
theorem unqT_in {step : List UInt8 → Option (UInt8 × Nat)} {s : ByteArray} {i : Nat} (h : i < s.size) (h34 : s[i] = 34) : unqT step s.data.toList (i : Int) = unqG step (s.data.toList.drop (i + 1)) := by
  refine (if_pos ⟨by omega, by simp; omega, ?_⟩).trans (by simp)
  rw [Int.toNat_natCast, List.getD_eq_getElem?_getD, List.getElem?_eq_getElem (by simpa using h)]
  exact h34
theorem getD_byte' (s : ByteArray) (k : Nat) (h : k < s.size) : s.data.toList.getD k 0 = s[k] := by
  rw [List.getD_eq_getElem?_getD, List.getElem?_eq_getElem (by simpa using h)]; rfl

set_option maxRecDepth 100000 in
set_option maxHeartbeats 4000000 in
theorem implUnquote_any (s : ByteArray) (i : Int) (w : World) (hs : s.size ≤ 1048576) (h0 : -9223372036854775808 ≤ i) (h1 : i ≤ 9223372036854775807) :
    Calls Try.prog 12 #[.string s, .int .i64 i] w fun e w' => e = .returned (unqV (unqT qAt s.data.toList i) i) ∧ Below w.heap.size w w' := by
  by_cases hneg : i < 0
  · have HV := Lib.hid (unqT_out (step := qAt) (l := s.data.toList) (i := i) (by omega))
    go_enter Try.func12, Try.ntmps12
    go_wp2_with fail
    go_ret2
    exact ⟨by rw [HV.out]; rfl, Below.refl _ _⟩
  · by_cases hge : (s.size : Int) ≤ i
    · have HV := Lib.hid (unqT_out (step := qAt) (l := s.data.toList) (i := i) (by simp; omega))
      go_enter Try.func12, Try.ntmps12
      go_wp2_with fail
      go_ret2
      exact ⟨by rw [HV.out]; rfl, Below.refl _ _⟩
    · obtain ⟨n, rfl⟩ := Int.eq_ofNat_of_zero_le (show 0 ≤ i by omega)
      have hn : n < s.size := by omega
      clear hneg
      by_cases hq : (s[n].toNat : Int) = 34
      · have hc : s[n] = 34 := byte_is 34 (by omega) hq
        have q0 : ((s[n].toNat : Int) != 34) = false := int_bne_false hq
        have HT := Lib.hid (unqT_in (step := qAt) hn hc)
        clear hq hc
        have g0 : ¬ (n : Int) < 0 := by omega
        have t0 : decide ((n : Int) < 0) = false := by simp
        have t1 : decide ((s.size : Int) ≤ (n : Int)) = false := by simp; omega
        go_enter Try.func12, Try.ntmps12
        go_wp2_with fail
        go_loopw [6, 7, 8, 9] (fun v k _ _ wr => ∃ (j : Nat) (out : List UInt8), j ≤ s.size ∧ k = .int .i64 j ∧ Buf wr w.heap.size v out ∧ Below w.heap.size w wr ∧ UnqAt qAt s.data.toList n j out) (fun _ k _ _ _ => s.size - (intOf k).toNat)
        case atStart => exact ⟨n + 1, [], by omega, by go_num, Buf.empty w _ (Nat.le_refl _), (Below.refl _ _).alloc (Nat.le_refl _) _, unqAt_start _ _ _⟩
        case round =>
          obtain ⟨j, out, hj, rfl, hown, hb, HP⟩ := hrel
          by_cases hlt : j < s.size
          · by_cases h34 : (s[j].toNat : Int) = 34
            · have hc : s[j] = 34 := byte_is 34 (by omega) h34
              have q1 : ((s[j].toNat : Int) != 34) = false := int_bne_false h34
              have q2 : ((j : Int) == (s.size : Int)) = false := int_beq_false (by omega)
              have hv := unqAt_quote HP hlt hc
              have hl := HP.2
              have HV : Hid (unqV (unqT qAt s.data.toList (n : Int)) (n : Int) = .tuple #[.string ⟨out.toArray⟩, .int .i64 ((j : Int) + 1)]) := Lib.hid (by
                rw [HT.out, hv]
                show Value.tuple #[.string ⟨out.toArray⟩, .int .i64 ((n : Int) + 1 + ((1 + (j - (n + 1)) : Nat) : Int))] = _
                rw [show (n : Int) + 1 + ((1 + (j - (n + 1)) : Nat) : Int) = (j : Int) + 1 from by omega])
              have hcv := hown.conv
              clear h34 hc hv hl HP
              go_wp2_with fail
              go_ret2
              exact ⟨by rw [HV.out]; rfl, hb⟩
            · have n34 : ¬ s[j] = 34 := byte_not 34 (by omega) h34
              have q1 : ((s[j].toNat : Int) != 34) = true := int_bne_true h34
              have hcall := quotedAt_any s j wr hs hlt
              have hl := HP.2
              clear h34
              cases hst : qAt (s.data.toList.drop j) with
              | none =>
                rw [hst] at hcall
                have HV : Hid (unqV (unqT qAt s.data.toList (n : Int)) (n : Int) = .tuple #[.string ⟨#[]⟩, .int .i64 (-1)]) := Lib.hid (by rw [HT.out, unqAt_bad HP hlt n34 hst]; rfl)
                have HC := Lib.hid hcall
                clear hst HP n34 hcall hl
                go_wp2_with fail
                refine HC.out.mono ?_
                rintro e w' ⟨rfl, rfl⟩
                unfold optQ
                go_wp2_with fail
                go_ret2
                exact ⟨by rw [HV.out]; rfl, hb⟩
              | some p =>
                obtain ⟨v, m⟩ := p
                rw [hst] at hcall
                obtain ⟨m1, m2⟩ := qAt_bd hlt n34 hst
                have HN := Lib.hid (unqAt_step HP hlt n34 hst m1)
                have HC := Lib.hid hcall
                have qm : ((m : Int) == 0) = false := int_beq_false (by omega)
                have HL : Hid (out.length ≤ 1048576) := Lib.hid (by omega)
                clear hst HP n34 hcall hl
                go_wp2_with fail
                refine HC.out.mono ?_
                rintro e w' ⟨rfl, rfl⟩
                unfold optQ
                go_wp2_with (at_builtin; refine wpList_append_buf rfl _ _ rfl w.heap.size _ _ rfl (hown.alloc _) [v] wr.heap.size _ _ _ _ _ rfl rfl (heap_alloc_new wr _) (by simp [bv]) (by simp) (by have := HL.out; simp; omega) (by simp; exact Nat.le_succ_of_le hb.size) ?_; intro v' w2 hown2 hb2)
                have HB := hb.trans (((Below.refl w.heap.size wr).alloc hb.size _).trans hb2)
                go_wp2
                go_roundw
                case rel => exact ⟨j + m, _, m2, by go_num, hown2, HB, HN.out⟩
                case measure => simp [intOf]; omega
          · obtain rfl : j = s.size := by omega
            have HV : Hid (unqV (unqT qAt s.data.toList (n : Int)) (n : Int) = .tuple #[.string ⟨#[]⟩, .int .i64 (-1)]) := Lib.hid (by rw [HT.out, unqAt_end HP hlt]; rfl)
            clear HP
            go_wp2_with fail
            go_ret2
            exact ⟨by rw [HV.out]; rfl, hb⟩
      · have HV := Lib.hid (unqT_out (step := qAt) (l := s.data.toList) (i := (n : Int)) (fun h => hq (by
          have := h.2.2
          rw [Int.toNat_natCast, getD_byte' s n hn] at this
          rw [this]; rfl)))
        have q0 : ((s[n].toNat : Int) != 34) = true := int_bne_true hq
        clear hq
        go_enter Try.func12, Try.ntmps12
        go_wp2_with fail
        go_ret2
        exact ⟨by rw [HV.out]; rfl, Below.refl _ _⟩
end Go.Proofs.Ytebilgnaiamfpab
