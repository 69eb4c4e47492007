/-
  impl.Quote and spec.Quote both return the quoted form of every string.
-/
import Derived.Test.YtongpnknmgbhjaaBytesStr
import Derived.Test.YtongpnknmgbhjaaHex
import Derived.Laws.DeepStrings4
import Derived.Deep.DeepMust
namespace Go.Proofs.Ytongpnknmgbhjaa
open Go.RowKit

def quoteB (c : UInt8) : List UInt8 :=
  if (c.toNat : Int) = 34 ∨ (c.toNat : Int) = 92 then [92, c] else if (c.toNat : Int) = 10 then [92, 110]
  else if (c.toNat : Int) < 32 ∨ 126 < (c.toNat : Int) then [92, 120, hexC (c.toNat / 16), hexC (c.toNat % 16)] else [c]
def quoteL : List UInt8 → List UInt8
  | [] => []
  | c :: l => quoteB c ++ quoteL l
def quoteT (l : List UInt8) : List UInt8 := 34 :: quoteL l ++ [34]
theorem quoteL_app (a b : List UInt8) : quoteL (a ++ b) = quoteL a ++ quoteL b := by
  induction a with
  | nil => rfl
  | cons c l ih => simp [quoteL, ih]
theorem quoteB_len (c : UInt8) : (quoteB c).length ≤ 4 := by
  unfold quoteB
  split
  · simp
  · split
    · simp
    · split <;> simp
theorem quoteL_len (l : List UInt8) : (quoteL l).length ≤ 4 * l.length := by
  induction l with
  | nil => simp [quoteL]
  | cons c l ih => have := quoteB_len c; simp [quoteL]; omega
theorem quote_step (s : ByteArray) (k : Nat) (h : k < s.size) (x : List UInt8) (hx : quoteB s[k] = x) : 34 :: quoteL (s.data.toList.take (k + 1)) = (34 :: quoteL (s.data.toList.take k)) ++ x := by
  rw [take_snoc s k h, quoteL_app]; simp [quoteL, hx]
theorem quote_bound (s : ByteArray) (k : Nat) (hs : s.size ≤ 1048600) (hk : k ≤ s.size) : (34 :: quoteL (s.data.toList.take k)).length + 4 ≤ 16777216 := by
  have h := quoteL_len (s.data.toList.take k)
  have h2 : (s.data.toList.take k).length ≤ k := List.length_take_le _ _
  simp; omega
theorem quote_ways (c : UInt8) : (c.toNat : Int) = 34 ∨ (c.toNat : Int) = 92 ∨ (c.toNat : Int) = 10 ∨ ((c.toNat : Int) < 32 ∧ ¬ (c.toNat : Int) = 10) ∨ 126 < (c.toNat : Int) ∨ (32 ≤ (c.toNat : Int) ∧ (c.toNat : Int) ≤ 126 ∧ ¬ (c.toNat : Int) = 34 ∧ ¬ (c.toNat : Int) = 92) := by omega
theorem quoteB_esc {c : UInt8} (h : (c.toNat : Int) = 34 ∨ (c.toNat : Int) = 92) : quoteB c = [92, c] := if_pos h
theorem quoteB_nl {c : UInt8} (h : (c.toNat : Int) = 10) : quoteB c = [92, 110] := by unfold quoteB; rw [if_neg (by omega), if_pos h]
theorem quoteB_hex {c : UInt8} (h : ((c.toNat : Int) < 32 ∧ ¬ (c.toNat : Int) = 10) ∨ 126 < (c.toNat : Int)) : quoteB c = [92, 120, hexC (c.toNat / 16), hexC (c.toNat % 16)] := by unfold quoteB; rw [if_neg (by omega), if_neg (by omega), if_pos (by omega)]
theorem quoteB_plain {c : UInt8} (h : 32 ≤ (c.toNat : Int) ∧ (c.toNat : Int) ≤ 126 ∧ ¬ (c.toNat : Int) = 34 ∧ ¬ (c.toNat : Int) = 92) : quoteB c = [c] := by unfold quoteB; rw [if_neg (by omega), if_neg (by omega), if_neg (by omega)]

def qhex (z : Int) : Bool := decide ((z < 32 ∧ ¬ z = 10) ∨ 126 < z)
set_option maxRecDepth 100000 in
set_option maxHeartbeats 1000000 in
theorem quotedHex_any (z : Int) (w : World) (h0 : 0 ≤ z) (h1 : z < 256) : Calls Try.prog 77 #[.int .u8 z] w fun e w' => e = .returned (.bool (qhex z)) ∧ w = w' := by
  by_cases hn : z = 10
  · subst hn
    go_enter Try.func77, Try.ntmps77
    go_wp2
    go_ret
    exact ⟨rfl, rfl⟩
  · have hne : (z != 10) = true := int_bne_true hn
    by_cases ha : z < 32
    · have H : Hid (qhex z = true) := Lib.hid (by unfold qhex; simp; omega)
      clear hn
      go_enter Try.func77, Try.ntmps77
      go_wp2
      go_ret
      exact ⟨ret_bool H.out.symm, rfl⟩
    · by_cases hb : 127 ≤ z
      · have H : Hid (qhex z = true) := Lib.hid (by unfold qhex; simp; omega)
        clear hn
        go_enter Try.func77, Try.ntmps77
        go_wp2
        go_ret
        exact ⟨ret_bool (by first | exact H.out.symm | (rw [H.out]; simp; omega)), rfl⟩
      · have H : Hid (qhex z = false) := Lib.hid (by unfold qhex; simp; omega)
        clear hn
        go_enter Try.func77, Try.ntmps77
        go_wp2
        go_ret
        exact ⟨ret_bool (by first | exact H.out.symm | (rw [H.out]; simp; omega)), rfl⟩

theorem quote_end (s : ByteArray) (k : Nat) (h : ¬ k < s.size) : (34 :: quoteL (s.data.toList.take k)) ++ [34] = quoteT s.data.toList := by rw [take_end s k h]; rfl

set_option maxRecDepth 100000 in
set_option maxHeartbeats 4000000 in
theorem implQuote_any (s : ByteArray) (w : World) (hs : s.size ≤ 1048600) :
    Calls Try.prog 56 #[.string s] w fun e w' => e = .returned (.string ⟨(quoteT s.data.toList).toArray⟩) ∧ Below w.heap.size w w' := by
  obtain ⟨i0, hi, hz0, hz1, hz2⟩ := info_parts u8info
  go_enter Try.func56, Try.ntmps56
  go_wp2_with (first | (at_make; refine wpList_make_own _ rfl _ _ 105 rfl w.heap.size 5 i0 (.int .u8 0) 1 Try.underlying105 hi hz0 hz1 .i64 .i64 _ (s.size + 2) rfl rfl (by omega) (by rw [hz2]; omega) (by unfold maxLen; omega) (Nat.le_refl _) ?_; intro w1 hown1 hg1; have hb1 : Below w.heap.size w w1 := (Below.refl _ _).grown hg1 (Nat.le_refl _) (by simp); have hB1 : Buf w1 w.heap.size (.slice (some ⟨w.heap.size, 0, none⟩) 0 (s.size + 2)) [] := hown1; clear hown1 hg1) | (at_builtin; go_must (refine wpList_append_buf rfl _ _ rfl w.heap.size _ [] rfl (hB1.alloc _) [34] w1.heap.size _ _ _ _ _ rfl rfl (heap_alloc_new w1 _) (by rfl) (by simp) (by simp) (by simp; exact Nat.le_succ_of_le hb1.size) ?_); intro v2 w2 hown2 hb2))
  have hb3 := hb1.trans (((Below.refl w.heap.size w1).alloc hb1.size _).trans hb2)
  go_loopw [3, 4, 5, 15] (fun v _ _ n wr => ∃ k : Nat, k ≤ s.size ∧ n = .int .i64 k ∧ Buf wr w.heap.size v (34 :: quoteL (s.data.toList.take k)) ∧ Below w.heap.size w wr) (fun _ _ _ n _ => s.size - (intOf n).toNat)
  case atStart => exact ⟨0, Nat.zero_le _, rfl, hown2, hb3⟩
  case round =>
    obtain ⟨k, hk, rfl, hown, hb⟩ := hrel
    clear hB1 hb1 hown2 hb2 hb3
    have HL := Lib.hid (quote_bound s k hs hk)
    by_cases hlt : k < s.size
    · have b1 := (byte_lt s[k]).1
      have b2 := (byte_lt s[k]).2
      rcases quote_ways s[k] with h | h | h | h | h | h
      case inl | inr.inl =>
        have HN := Lib.hid (quote_step s k hlt _ (quoteB_esc (by omega)))
        have hq : ((s[k].toNat : Int) == 34) = true ∨ (((s[k].toNat : Int) == 34) = false ∧ ((s[k].toNat : Int) == 92) = true) := by simp; omega
        clear h
        rcases hq with q1 | ⟨q1, q2⟩
        all_goals
          go_wp2_with (at_builtin; refine wpList_append_buf rfl _ _ rfl w.heap.size _ _ rfl (hown.alloc _) [92, s[k]] wr.heap.size _ _ _ _ _ rfl rfl (heap_alloc_new wr _) (by simp [bv]) (by simp) (by have := HL.out; simp at this ⊢; omega) (by simp; exact Nat.le_succ_of_le hb.size) ?_; intro v' w2 hown2 hb2)
          have HB := hb.trans (((Below.refl w.heap.size wr).alloc hb.size _).trans hb2)
          go_wp2
          go_roundw
          case rel => exact ⟨k + 1, by omega, by go_num, by rw [HN.out]; exact hown2, HB⟩
          case measure => simp [intOf]; omega
      case inr.inr.inl =>
        have HN := Lib.hid (quote_step s k hlt _ (quoteB_nl h))
        have q1 : ((s[k].toNat : Int) == 34) = false := int_beq_false (by omega)
        have q2 : ((s[k].toNat : Int) == 92) = false := int_beq_false (by omega)
        have q3 : ((s[k].toNat : Int) == 10) = true := int_beq_true h
        clear h
        go_wp2_with (at_builtin; refine wpList_append_buf rfl _ _ rfl w.heap.size _ _ rfl (hown.alloc _) [92, 110] wr.heap.size _ _ _ _ _ rfl rfl (heap_alloc_new wr _) (by rfl) (by simp) (by have := HL.out; simp at this ⊢; omega) (by simp; exact Nat.le_succ_of_le hb.size) ?_; intro v' w2 hown2 hb2)
        have HB := hb.trans (((Below.refl w.heap.size wr).alloc hb.size _).trans hb2)
        go_wp2
        go_roundw
        case rel => exact ⟨k + 1, by omega, by go_num, by rw [HN.out]; exact hown2, HB⟩
        case measure => simp [intOf]; omega
      case inr.inr.inr.inl | inr.inr.inr.inr.inl =>
        have hh : ((s[k].toNat : Int) < 32 ∧ ¬ (s[k].toNat : Int) = 10) ∨ 126 < (s[k].toNat : Int) := by omega
        have HN := Lib.hid (quote_step s k hlt _ (quoteB_hex hh))
        have q1 : ((s[k].toNat : Int) == 34) = false := int_beq_false (by omega)
        have q2 : ((s[k].toNat : Int) == 92) = false := int_beq_false (by omega)
        have q3 : ((s[k].toNat : Int) == 10) = false := int_beq_false (by omega)
        have HQ : Hid (qhex (s[k].toNat : Int) = true) := Lib.hid (by unfold qhex; simpa using hh)
        have x1 := idx_lower (s[k].toNat / 16) (by have := s[k].toNat_lt; omega) ((s[k].toNat : Int) / 16) (by omega)
        have x2 := idx_lower (s[k].toNat % 16) (by omega) ((s[k].toNat : Int) % 16) (by omega)
        have x3 := and15 s[k]
        clear h hh
        go_wp2_with fail
        refine (quotedHex_any _ _ b2 b1).mono ?_
        rw [HQ.out]
        rintro e w' ⟨rfl, rfl⟩
        go_wp2_with fail
        go_region_law ((refine step_append_buf (by rfl) _ _ (by rfl) w.heap.size _ _ (by rfl) (hown.alloc _).drew [92, 120, hexC (s[k].toNat / 16), hexC (s[k].toNat % 16)] wr.heap.size _ _ _ _ _ (by rfl) (by rfl) (heap_alloc_new wr _) (by simp [bv]) (by simp) HL.out (by simp; exact Nat.le_succ_of_le hb.size) ?_; intro v' w2 hown2 hb2))
        all_goals
          have HB := hb.trans (((Below.refl w.heap.size wr).alloc hb.size _).drew.trans hb2)
          go_wp2
          go_roundw
          case rel => exact ⟨k + 1, by omega, by go_num, by rw [HN.out]; exact hown2, HB⟩
          case measure => simp [intOf]; omega
      case inr.inr.inr.inr.inr =>
        have HN := Lib.hid (quote_step s k hlt _ (quoteB_plain h))
        have q1 : ((s[k].toNat : Int) == 34) = false := int_beq_false (by omega)
        have q2 : ((s[k].toNat : Int) == 92) = false := int_beq_false (by omega)
        have q3 : ((s[k].toNat : Int) == 10) = false := int_beq_false (by omega)
        have HQ : Hid (qhex (s[k].toNat : Int) = false) := Lib.hid (by unfold qhex; simp; omega)
        clear h
        go_wp2_with fail
        refine (quotedHex_any _ _ b2 b1).mono ?_
        rw [HQ.out]
        rintro e w' ⟨rfl, rfl⟩
        go_wp2_with (at_builtin; refine wpList_append_buf rfl _ _ rfl w.heap.size _ _ rfl (hown.alloc _) [s[k]] wr.heap.size _ _ _ _ _ rfl rfl (heap_alloc_new wr _) (by simp [bv]) (by simp) (by have := HL.out; simp at this ⊢; omega) (by simp; exact Nat.le_succ_of_le hb.size) ?_; intro v' w2 hown2 hb2)
        have HB := hb.trans (((Below.refl w.heap.size wr).alloc hb.size _).trans hb2)
        go_wp2
        go_roundw
        case rel => exact ⟨k + 1, by omega, by go_num, by rw [HN.out]; exact hown2, HB⟩
        case measure => simp [intOf]; omega
    · have HE := Lib.hid (quote_end s k hlt)
      go_wp2_with (at_builtin; refine wpList_append_buf rfl _ _ rfl w.heap.size _ _ rfl (hown.alloc _) [34] wr.heap.size _ _ _ _ _ rfl rfl (heap_alloc_new wr _) (by rfl) (by simp) (by have := HL.out; simp at this ⊢; omega) (by simp; exact Nat.le_succ_of_le hb.size) ?_; intro v' w2 hown2 hb2; have hcv := hown2.conv; rw [HE.out] at hcv)
      have HB := hb.trans (((Below.refl w.heap.size wr).alloc hb.size _).trans hb2)
      go_wp2
      go_ret
      exact ⟨rfl, HB⟩
end Go.Proofs.Ytongpnknmgbhjaa
