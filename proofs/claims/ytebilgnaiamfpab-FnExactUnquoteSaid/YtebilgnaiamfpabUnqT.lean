/-
  spec.Unquote as a whole: the same as impl.Unquote.
-/
import Derived.Test.YtebilgnaiamfpabUnqS
import Derived.Deep.RegionHeld3
import Derived.Deep.QuietTactic
import Derived.BigQuiet
namespace Go.Proofs.Ytebilgnaiamfpab
open Go.RowKit

theorem lAt_bd {s : ByteArray} {k n : Nat} {v : UInt8} (hk : k < s.size) (h : lAt (s.data.toList.drop k) = some (v, n)) : 1 ≤ n ∧ k + n ≤ s.size := by
  have hlen : (s.data.toList.drop k).length = s.size - k := by simp
  rw [drop_cons s k hk] at h hlen
  generalize s.data.toList.drop (k + 1) = r at h hlen
  generalize s[k] = c at h hlen
  simp at hlen
  by_cases hc : c = 92
  · subst hc
    match r, h, hlen with
    | [], h, _ => simp [lAt] at h
    | d :: t, h, hlen =>
      simp at hlen
      by_cases h1 : d = 34 ∨ d = 92
      · simp [lAt, h1] at h; obtain ⟨_, rfl⟩ := h; omega
      · by_cases h2 : d = 110
        · simp [lAt, h2] at h; obtain ⟨_, rfl⟩ := h; omega
        · by_cases h3 : d = 120
          · match t, h, hlen with
            | [], h, _ => simp [lAt, h3, pair2] at h
            | [_], h, _ => simp [lAt, h3, pair2] at h
            | a :: b :: u, h, hlen =>
              simp at hlen
              cases hp : pairV lowerL a b with
              | none => simp [lAt, h3, pair2, hp] at h
              | some v' => simp [lAt, h3, pair2, hp] at h; obtain ⟨_, rfl⟩ := h; omega
          · simp [lAt, h1, h2, h3] at h
  · simp [lAt, hc] at h; obtain ⟨_, rfl⟩ := h; omega

theorem lAt_92 {s : ByteArray} {k : Nat} (hk : k < s.size) (hc : s[k] = 92) : lAt (s.data.toList.drop k) = lAt (92 :: s.data.toList.drop (k + 1)) := by rw [drop_cons s k hk, hc]
theorem lAt_raw {s : ByteArray} {k : Nat} (hk : k < s.size) (hc : ¬ s[k] = 92) : lAt (s.data.toList.drop k) = some (s[k], 1) := by rw [drop_cons s k hk]; simp [lAt, hc]

theorem look_back (s : ByteArray) (i j : Nat) (out : List UInt8) (hi : i < s.size) (h34 : s[i] = 34) (hij : i + 1 ≤ j) :
    (quoteT out = (s.extract i (j + 1)).data.toList) ↔ quoteL out ++ [34] = (s.data.toList.drop (i + 1)).take (1 + (j - (i + 1))) := by
  rw [Lib.extract_data, drop_cons s i hi, h34, show j + 1 - i = (1 + (j - (i + 1))) + 1 from by omega, List.take_succ_cons]
  unfold quoteT
  simp

set_option maxRecDepth 100000 in
set_option maxHeartbeats 1500000 in
theorem specUnquote_any (s : ByteArray) (i : Int) (w : World) (hs : s.size ≤ 1048576) (h0 : -9223372036854775808 ≤ i) (h1 : i ≤ 9223372036854775807) :
    Calls Try.prog 11 #[.string s, .int .i64 i] w fun e w' => e = .returned (unqV (unqT qAt s.data.toList i) i) ∧ Below w.heap.size w w' := by
  by_cases hneg : i < 0
  · have HV := Lib.hid (unqT_out (step := qAt) (l := s.data.toList) (i := i) (by omega))
    go_enter Try.func11, Try.ntmps11
    go_wp2_with fail
    go_ret2
    exact ⟨by rw [HV.out]; rfl, Below.refl _ _⟩
  · by_cases hge : (s.size : Int) ≤ i
    · have HV := Lib.hid (unqT_out (step := qAt) (l := s.data.toList) (i := i) (by simp; omega))
      go_enter Try.func11, Try.ntmps11
      go_wp2_with fail
      go_ret2
      exact ⟨by rw [HV.out]; rfl, Below.refl _ _⟩
    · obtain ⟨n, rfl⟩ := Int.eq_ofNat_of_zero_le (show 0 ≤ i by omega)
      have hn : n < s.size := by omega
      clear hneg
      by_cases hq : (s[n].toNat : Int) = 34
      · have hc : s[n] = 34 := byte_is 34 (by omega) hq
        have q0 : ((s[n].toNat : Int) != 34) = false := int_bne_false hq
        have HT : Hid (unqT qAt s.data.toList (n : Int) = (unqG lAt (s.data.toList.drop (n + 1))).bind fun p => if quoteL p.1 ++ [34] = (s.data.toList.drop (n + 1)).take p.2 then some p else none) := Lib.hid ((unqT_in (step := qAt) hn hc).trans (unq_same _ _ (Nat.le_refl _)))
        have H34 := Lib.hid hc
        clear hq hc
        have g0 : ¬ (n : Int) < 0 := by omega
        have t0 : decide ((n : Int) < 0) = false := by simp
        have t1 : decide ((s.size : Int) ≤ (n : Int)) = false := by simp; omega
        go_enter Try.func11, Try.ntmps11
        go_wp2_with fail
        go_loopw [6, 7, 8, 9] (fun o k _ _ wr => ∃ (j : Nat) (out : List UInt8), j ≤ s.size ∧ k = .int .i64 j ∧ o = .string ⟨out.toArray⟩ ∧ Below w.heap.size w wr ∧ UnqAt lAt s.data.toList n j out) (fun _ k _ _ _ => s.size - (intOf k).toNat)
        case atStart => exact ⟨n + 1, [], by omega, by go_num, rfl, Below.refl _ _, unqAt_start _ _ _⟩
        case round =>
          obtain ⟨j, out, hj, rfl, rfl, hb, HP⟩ := hrel
          have hl := HP.2
          by_cases hlt : j < s.size
          · by_cases h34 : (s[j].toNat : Int) = 34
            · have hc : s[j] = 34 := byte_is 34 (by omega) h34
              have q1 : ((s[j].toNat : Int) != 34) = false := int_bne_false h34
              have q2 : decide ((s.size : Int) ≤ (j : Int)) = false := by simp; omega
              have q2n : decide (s.size ≤ j) = false := by simp; omega
              have q2m : (j : Int) < (s.size : Int) := by omega
              have q3 : IntKind.i64.wrap ((j : Int) + 1) = (j : Int) + 1 := IntWalk.i64_in _ (by omega)
              have hv := unqAt_quote HP hlt hc
              have hlb := look_back s n j out hn H34.out (by omega)
              have he := slice_str s _ n (j + 1) (n : Int) ((j : Int) + 1) rfl (by omega) (by omega) (by omega) rfl
              have hcall := fun W => specQuote_any ⟨out.toArray⟩ W (by show out.toArray.size ≤ _; simp; omega)
              have HC := Lib.hid hcall
              clear hcall
              by_cases hp : quoteT out = (s.extract n (j + 1)).data.toList
              · have e2 : (quoteT out == (s.extract n (j + 1)).toList) = true := by rw [ByteArray.toList_eq, hp]; simp
                have HV : Hid (unqV (unqT qAt s.data.toList (n : Int)) (n : Int) = .tuple #[.string ⟨out.toArray⟩, .int .i64 ((j : Int) + 1)]) := Lib.hid (by
                  rw [HT.out, hv]
                  simp only [Option.bind_some]
                  rw [if_pos (hlb.1 hp)]
                  show Value.tuple #[.string ⟨out.toArray⟩, .int .i64 ((n : Int) + 1 + ((1 + (j - (n + 1)) : Nat) : Int))] = _
                  rw [show (n : Int) + 1 + ((1 + (j - (n + 1)) : Nat) : Int) = (j : Int) + 1 from by omega])
                clear h34 hc hv HP hp hlb
                go_wp2_with fail
                go_region_held3 (fun _ => True) (trivial) ((first | (go_at_call 9; refine (HC.out _).mono ?_; rintro e w1 ⟨rfl, hb1⟩)))
                all_goals
                  go_wp2_with fail
                  go_ret2
                  exact ⟨by rw [HV.out]; rfl, hb.drew.trans (hb1.mono hb.size)⟩
              · have e2 : (quoteT out == (s.extract n (j + 1)).toList) = false := by rw [ByteArray.toList_eq]; simpa using hp
                have HV : Hid (unqV (unqT qAt s.data.toList (n : Int)) (n : Int) = .tuple #[.string ⟨#[]⟩, .int .i64 (-1)]) := Lib.hid (by
                  rw [HT.out, hv]
                  simp only [Option.bind_some]
                  rw [if_neg (fun h => hp (hlb.2 h))]; rfl)
                clear h34 hc hv HP hp hlb
                go_wp2_with fail
                go_region_held3 (fun _ => True) (trivial) ((first | (go_at_call 9; refine (HC.out _).mono ?_; rintro e w1 ⟨rfl, hb1⟩)))
                all_goals
                  go_wp2_with fail
                  go_ret2
                  exact ⟨by rw [HV.out]; rfl, hb.drew.trans (hb1.mono hb.size)⟩
            · have n34 : ¬ s[j] = 34 := byte_not 34 (by omega) h34
              have q1 : ((s[j].toNat : Int) != 34) = true := int_bne_true h34
              have he := slice_str s _ j (j + 1) (j : Int) ((j : Int) + 1) rfl (by omega) (by omega) (by omega) (extract_one s j hlt)
              clear h34
              by_cases h92 : (s[j].toNat : Int) = 92
              · have hc : s[j] = 92 := byte_is 92 (by omega) h92
                have q2 : ((s[j].toNat : Int) == 92) = true := int_beq_true h92
                have hcall := l01Escape_any s j wr hs (by omega)
                rw [← lAt_92 hlt hc] at hcall
                cases hst : lAt (s.data.toList.drop j) with
                | none =>
                  rw [hst] at hcall
                  have HV : Hid (unqV (unqT qAt s.data.toList (n : Int)) (n : Int) = .tuple #[.string ⟨#[]⟩, .int .i64 (-1)]) := Lib.hid (by rw [HT.out, unqAt_bad HP hlt n34 hst]; rfl)
                  have HC := Lib.hid hcall
                  clear hst HP n34 hcall h92 hc
                  go_wp2_with fail
                  refine HC.out.mono ?_
                  rintro e w1 ⟨rfl, hb1⟩
                  unfold escV
                  go_wp2_with fail
                  go_ret2
                  exact ⟨by rw [HV.out]; rfl, hb.trans (hb1.mono hb.size)⟩
                | some p =>
                  obtain ⟨v, m⟩ := p
                  rw [hst] at hcall
                  obtain ⟨m1, m2⟩ := lAt_bd hlt hst
                  have HN := Lib.hid (unqAt_step HP hlt n34 hst m1)
                  have HC := Lib.hid hcall
                  have qm : ¬ (j : Int) + (m : Int) < 0 := by omega
                  clear hst HP n34 hcall h92 hc
                  go_wp2_with fail
                  refine HC.out.mono ?_
                  rintro e w1 ⟨rfl, hb1⟩
                  unfold escV
                  have HB := hb.trans (hb1.mono hb.size)
                  go_wp2_with fail
                  go_roundw
                  case rel => exact ⟨j + m, _, m2, by go_num, str_add out [v], HB, HN.out⟩
                  case measure => simp [intOf]; omega
              · have hc : ¬ s[j] = 92 := byte_not 92 (by omega) h92
                have q2 : ((s[j].toNat : Int) == 92) = false := int_beq_false h92
                have HN := Lib.hid (unqAt_step HP hlt n34 (lAt_raw hlt hc) (by omega))
                clear HP n34 h92 hc
                go_wp2_with fail
                go_roundw
                case rel => exact ⟨j + 1, _, by omega, by go_num, str_add out [s[j]], hb, HN.out⟩
                case measure => simp [intOf]; omega
          · have q2 : decide ((s.size : Int) ≤ (j : Int)) = true := by simp; omega
            have q2n : decide (s.size ≤ j) = true := by simp; omega
            have HV : Hid (unqV (unqT qAt s.data.toList (n : Int)) (n : Int) = .tuple #[.string ⟨#[]⟩, .int .i64 (-1)]) := Lib.hid (by rw [HT.out, unqAt_end HP hlt]; rfl)
            clear HP
            go_wp2_with fail
            go_quiet (fail)
            go_wp2_with fail
            go_ret2
            exact ⟨by rw [HV.out]; rfl, ⟨hb.os, hb.tape, hb.output, hb.size, hb.block⟩⟩
      · have HV := Lib.hid (unqT_out (step := qAt) (l := s.data.toList) (i := (n : Int)) (fun h => hq (by
          have := h.2.2
          rw [Int.toNat_natCast, getD_byte' s n hn] at this
          rw [this]; rfl)))
        have q0 : ((s[n].toNat : Int) != 34) = true := int_bne_true hq
        clear hq
        go_enter Try.func11, Try.ntmps11
        go_wp2_with fail
        go_ret2
        exact ⟨by rw [HV.out]; rfl, Below.refl _ _⟩
end Go.Proofs.Ytebilgnaiamfpab
