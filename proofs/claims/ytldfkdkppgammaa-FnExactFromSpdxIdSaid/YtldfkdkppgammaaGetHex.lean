/-
  impl.GetHex returns the bytes of pairs of lower-case digits and whether the text is made of such pairs.
-/
import Derived.Test.YtldfkdkppgammaaPairs
namespace Go.Proofs.Ytldfkdkppgammaa
open Go.RowKit

set_option maxHeartbeats 1000000 in
theorem implGetHex_any (s : ByteArray) (w : World) (hs : s.size ≤ 1048576) :
    Calls Try.prog 87 #[.string s] w fun e w' => e = .returned (optText (pairsL lowerL s.data.toList)) ∧ Below w.heap.size w w' := by
  obtain ⟨i0, hi, hz0, hz1, hz2⟩ := info_parts u8info
  go_enter Try.func87, Try.ntmps87
  go_wp2_with (at_make; refine wpList_make_own _ rfl _ _ 59 rfl w.heap.size 5 i0 (.int .u8 0) 1 Try.underlying59 hi hz0 hz1 .i64 .i64 _ (s.size / 2) rfl rfl (by omega) (by rw [hz2]; omega) (by unfold maxLen; omega) (Nat.le_refl _) ?_; intro w1 hown1 hg1)
  have hb1 : Below w.heap.size w w1 := (Below.refl _ _).grown hg1 (Nat.le_refl _) (by simp)
  go_loopw [4, 5, 6, 7] (fun v n _ _ wr => ∃ (k : Nat) (out : List UInt8), k ≤ s.size ∧ n = .int .i64 k ∧ Buf wr w.heap.size v out ∧ Below w.heap.size w wr ∧ PairsAt lowerL s.data.toList k out) (fun _ n _ _ _ => s.size - (intOf n).toNat)
  case atStart => exact ⟨0, [], Nat.zero_le _, rfl, hown1, hb1, pairsAt_zero _ _⟩
  case round =>
    obtain ⟨k, out, hk, rfl, hown, hb, HP⟩ := hrel
    by_cases hlt : k < s.size
    · have hcall := hexAt_any s lowerD k wr hs (by omega) rfl
      by_cases h1 : k + 1 < s.size
      · rw [hexAtV_at _ s k h1] at hcall
        have hD : lowerD.data.toList = lowerL := rfl
        rw [hD] at hcall
        cases hpv : pairV lowerL s[k] s[k + 1] with
        | none =>
          rw [hpv] at hcall
          have HN := Lib.hid (pairsAt_bad HP h1 hpv)
          have HC := Lib.hid hcall
          clear hcall hpv HP
          go_wp2_with fail
          refine HC.out.mono ?_
          rintro e w' ⟨rfl, rfl⟩
          unfold optByte
          go_wp2
          go_ret2
          exact ⟨by rw [HN.out]; rfl, hb⟩
        | some c =>
          rw [hpv] at hcall
          have HN := Lib.hid (pairsAt_step HP h1 hpv)
          have HL := Lib.hid HP.2
          have HC := Lib.hid hcall
          clear hcall hpv HP
          go_wp2_with fail
          refine HC.out.mono ?_
          rintro e w' ⟨rfl, rfl⟩
          unfold optByte
          go_wp2_with (at_builtin; refine wpList_append_buf rfl _ _ rfl w.heap.size _ _ rfl (hown.alloc _) [c] wr.heap.size _ _ _ _ _ rfl rfl (heap_alloc_new wr _) (by simp [bv]) (by simp) (by have := HL.out; simp; omega) (by simp; exact Nat.le_succ_of_le hb.size) ?_; intro v' w2 hown2 hb2)
          have HB := hb.trans (((Below.refl w.heap.size wr).alloc hb.size _).trans hb2)
          go_wp2
          go_roundw
          case rel => exact ⟨k + 2, out ++ [c], by omega, by go_num, hown2, HB, HN.out⟩
          case measure => simp [intOf]; omega
      · rw [hexAtV_short _ s k (by omega)] at hcall
        have HN := Lib.hid (pairsAt_odd HP (by omega))
        have HC := Lib.hid hcall
        clear hcall HP
        go_wp2_with fail
        refine HC.out.mono ?_
        rintro e w' ⟨rfl, rfl⟩
        unfold optByte
        go_wp2
        go_ret2
        exact ⟨by rw [HN.out]; rfl, hb⟩
    · have hcv := hown.conv
      have HN := Lib.hid (pairsAt_end HP hlt)
      clear HP
      go_wp2
      go_ret2
      exact ⟨by rw [HN.out]; rfl, hb⟩

end Go.Proofs.Ytldfkdkppgammaa
