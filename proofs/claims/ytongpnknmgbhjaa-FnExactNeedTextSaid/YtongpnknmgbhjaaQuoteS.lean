/-
  spec.Quote returns the quoted form of every string.
-/
import Derived.Test.YtongpnknmgbhjaaQuote
import Derived.Test.YtongpnknmgbhjaaStr
namespace Go.Proofs.Ytongpnknmgbhjaa
open Go.RowKit

set_option maxRecDepth 100000 in
set_option maxHeartbeats 4000000 in
theorem specQuote_any (s : ByteArray) (w : World) (hs : s.size ≤ 1048600) :
    Calls Try.prog 54 #[.string s] w fun e w' => e = .returned (.string ⟨(quoteT s.data.toList).toArray⟩) ∧ Below w.heap.size w w' := by
  go_enter Try.func54, Try.ntmps54
  go_wp2
  go_loopw [3, 4] (fun v n wr => ∃ k : Nat, k ≤ s.size ∧ n = .int .i64 k ∧ Buf wr w.heap.size v (34 :: quoteL (s.data.toList.take k)) ∧ Below w.heap.size w wr) (fun _ n _ => s.size - (intOf n).toNat)
  case atStart => exact ⟨0, Nat.zero_le _, rfl, Buf.lit w w.heap.size [34] (Nat.le_refl _) (by simp), (Below.refl _ _).alloc (Nat.le_refl _) _⟩
  case round =>
    obtain ⟨k, hk, rfl, hown, hb⟩ := hrel
    have HL := Lib.hid (quote_bound s k hs hk)
    by_cases hlt : k < s.size
    · have b1 := (byte_lt s[k]).1
      have b2 := (byte_lt s[k]).2
      rcases quote_ways s[k] with h | h | h | h | h | h
      case inl | inr.inl =>
        have HN := Lib.hid (quote_step s k hlt _ (quoteB_esc (by omega)))
        have hq : ((s[k].toNat : Int) == 34) = true ∨ (((s[k].toNat : Int) == 34) = false ∧ ((s[k].toNat : Int) == 92) = true) := by simp; omega
        clear h
        rcases hq with q1 | ⟨q1, q2⟩
        all_goals
          go_wp2_with (at_builtin; refine wpList_append_buf rfl _ _ rfl w.heap.size _ _ rfl (hown.alloc _) [92, s[k]] wr.heap.size _ _ _ _ _ rfl rfl (heap_alloc_new wr _) (by simp [bv]) (by simp) (by have := HL.out; simp at this ⊢; omega) (by simp; exact Nat.le_succ_of_le hb.size) ?_; intro v' w2 hown2 hb2)
          have HB := hb.trans (((Below.refl w.heap.size wr).alloc hb.size _).trans hb2)
          go_wp2
          go_roundw
          case rel => exact ⟨k + 1, by omega, by go_num, by rw [HN.out]; exact hown2, HB⟩
          case measure => simp [intOf]; omega
      case inr.inr.inl =>
        have HN := Lib.hid (quote_step s k hlt _ (quoteB_nl h))
        have q1 : ((s[k].toNat : Int) == 34) = false := int_beq_false (by omega)
        have q2 : ((s[k].toNat : Int) == 92) = false := int_beq_false (by omega)
        have q3 : ((s[k].toNat : Int) == 10) = true := int_beq_true h
        clear h
        go_wp2_with (at_builtin; refine wpList_append_buf rfl _ _ rfl w.heap.size _ _ rfl (hown.alloc _) [92, 110] wr.heap.size _ _ _ _ _ rfl rfl (heap_alloc_new wr _) (by rfl) (by simp) (by have := HL.out; simp at this ⊢; omega) (by simp; exact Nat.le_succ_of_le hb.size) ?_; intro v' w2 hown2 hb2)
        have HB := hb.trans (((Below.refl w.heap.size wr).alloc hb.size _).trans hb2)
        go_wp2
        go_roundw
        case rel => exact ⟨k + 1, by omega, by go_num, by rw [HN.out]; exact hown2, HB⟩
        case measure => simp [intOf]; omega
      case inr.inr.inr.inl | inr.inr.inr.inr.inl =>
        have hh : ((s[k].toNat : Int) < 32 ∧ ¬ (s[k].toNat : Int) = 10) ∨ 126 < (s[k].toNat : Int) := by omega
        have HN := Lib.hid (quote_step s k hlt _ (quoteB_hex hh))
        have q1 : ((s[k].toNat : Int) == 34) = false := int_beq_false (by omega)
        have q2 : ((s[k].toNat : Int) == 92) = false := int_beq_false (by omega)
        have q3 : ((s[k].toNat : Int) == 10) = false := int_beq_false (by omega)
        have he := slice_str s _ k (k + 1) (k : Int) ((k : Int) + 1) rfl (by omega) (by omega) (by omega) (extract_one s k hlt)
        have hq4 : (s[k].toNat : Int) < 32 ∨ (¬ (s[k].toNat : Int) < 32 ∧ 126 < (s[k].toNat : Int)) := by omega
        clear h hh
        rcases hq4 with q4 | ⟨q4, q5⟩
        all_goals
          go_wp2_with (first
            | (go_at_call 76; refine (specPutHex_any ⟨#[s[k]]⟩ _ (by show 1 ≤ 1048576; omega)).mono ?_; rintro e w3 ⟨rfl, hb3⟩; have hown3 := hown2.below hb3; have hlen3 := hb3.size)
            | (at_builtin; refine wpList_append_buf rfl _ _ rfl w.heap.size _ _ rfl (hown.alloc _) [92, 120] wr.heap.size _ _ _ _ _ rfl rfl (heap_alloc_new wr _) (by rfl) (by simp) (by have := HL.out; simp at this ⊢; omega) (by simp; exact Nat.le_succ_of_le hb.size) ?_; intro v' w2 hown2 hb2)
            | (at_builtin; refine wpList_append_buf_str rfl _ _ rfl w.heap.size _ _ rfl hown3 [hexC (s[k].toNat / 16), hexC (s[k].toNat % 16)] rfl (by have := HL.out; simp at this ⊢; omega) (Nat.le_trans (Nat.le_trans hb.size (by have := hb2.size; simp at this; omega)) hlen3) ?_; intro v4 w4 hown4 hb4))
          have HB2 := hb.trans (((Below.refl w.heap.size wr).alloc hb.size _).trans hb2)
          have HB := (HB2.trans (hb3.mono HB2.size)).trans hb4
          go_wp2
          go_roundw
          case rel => exact ⟨k + 1, by omega, by go_num, by rw [HN.out]; simpa using hown4, HB⟩
          case measure => simp [intOf]; omega
      case inr.inr.inr.inr.inr =>
        have HN := Lib.hid (quote_step s k hlt _ (quoteB_plain h))
        have q1 : ((s[k].toNat : Int) == 34) = false := int_beq_false (by omega)
        have q2 : ((s[k].toNat : Int) == 92) = false := int_beq_false (by omega)
        have q3 : ((s[k].toNat : Int) == 10) = false := int_beq_false (by omega)
        have q4 : ¬ (s[k].toNat : Int) < 32 := by omega
        have q5 : ¬ 126 < (s[k].toNat : Int) := by omega
        clear h
        go_wp2_with (at_builtin; refine wpList_append_buf rfl _ _ rfl w.heap.size _ _ rfl (hown.alloc _) [s[k]] wr.heap.size _ _ _ _ _ rfl rfl (heap_alloc_new wr _) (by simp [bv]) (by simp) (by have := HL.out; simp at this ⊢; omega) (by simp; exact Nat.le_succ_of_le hb.size) ?_; intro v' w2 hown2 hb2)
        have HB := hb.trans (((Below.refl w.heap.size wr).alloc hb.size _).trans hb2)
        go_wp2
        go_roundw
        case rel => exact ⟨k + 1, by omega, by go_num, by rw [HN.out]; exact hown2, HB⟩
        case measure => simp [intOf]; omega
    · have HE := Lib.hid (quote_end s k hlt)
      go_wp2_with (at_builtin; refine wpList_append_buf rfl _ _ rfl w.heap.size _ _ rfl (hown.alloc _) [34] wr.heap.size _ _ _ _ _ rfl rfl (heap_alloc_new wr _) (by rfl) (by simp) (by have := HL.out; simp at this ⊢; omega) (by simp; exact Nat.le_succ_of_le hb.size) ?_; intro v' w2 hown2 hb2; have hcv := hown2.conv; rw [HE.out] at hcv)
      have HB := hb.trans (((Below.refl w.heap.size wr).alloc hb.size _).trans hb2)
      go_wp2
      go_ret
      exact ⟨rfl, HB⟩
end Go.Proofs.Ytongpnknmgbhjaa
