/-
  impl.PutPercent returns the percent encoding of every byte.
-/
import Derived.Test.YtldfkdkppgammaaPercent
namespace Go.Proofs.Ytldfkdkppgammaa
open Go.RowKit

set_option maxHeartbeats 2000000 in
theorem implPutPercent_any (s : ByteArray) (w : World) (hs : s.size ≤ 1048576) :
    Calls Try.prog 78 #[.string s] w fun e w' => e = .returned (.string ⟨(pctL s.data.toList).toArray⟩) ∧ Below w.heap.size w w' := by
  obtain ⟨i0, hi, hz0, hz1, hz2⟩ := info_parts u8info
  go_enter Try.func78, Try.ntmps78
  go_wp2_with (at_make; refine wpList_make_own _ rfl _ _ 59 rfl w.heap.size 5 i0 (.int .u8 0) 1 Try.underlying59 hi hz0 hz1 .i64 .i64 _ s.size rfl rfl (by omega) (by rw [hz2]; omega) (by unfold maxLen; omega) (Nat.le_refl _) ?_; intro w1 hown1 hg1)
  have hb1 : Below w.heap.size w w1 := (Below.refl _ _).grown hg1 (Nat.le_refl _) (by simp)
  go_loopw [3, 4, 5, 11] (fun v _ _ n wr => ∃ k : Nat, k ≤ s.size ∧ n = .int .i64 k ∧ Buf wr w.heap.size v (pctL (s.data.toList.take k)) ∧ Below w.heap.size w wr) (fun _ _ _ n _ => s.size - (intOf n).toNat)
  case atStart => exact ⟨0, Nat.zero_le _, rfl, hown1, hb1⟩
  case round =>
    obtain ⟨k, hk, rfl, hown, hb⟩ := hrel
    by_cases hlt : k < s.size
    · have hl := pctL_len (s.data.toList.take k)
      have hlk : (s.data.toList.take k).length ≤ k := List.length_take_le _ _
      have HL : Hid ((pctL (s.data.toList.take k)).length + 3 ≤ 16777216) := Lib.hid (by omega)
      clear hl hlk
      have k0 : (0 : Int) ≤ (k : Int) := by omega
      have k1 : (k : Int) < (s.size : Int) := by omega
      by_cases hsf : safeI (s[k].toNat : Int) = true
      · have HN : Hid (pctL (s.data.toList.take (k + 1)) = pctL (s.data.toList.take k) ++ [s[k]]) := Lib.hid (by rw [take_snoc s k hlt, pctL_app]; simp [pctL, pctB, hsf])
        have HS := Lib.hid hsf
        clear hsf
        go_wp2_with fail
        refine (unescaped_any _ _ (byte_lt s[k]).2 (byte_lt s[k]).1).mono ?_
        rw [HS.out]
        rintro e w' ⟨rfl, rfl⟩
        go_wp2_with (at_builtin; refine wpList_append_buf rfl _ _ rfl w.heap.size _ _ rfl (hown.alloc _) [s[k]] wr.heap.size _ _ _ _ _ rfl rfl (heap_alloc_new wr _) (by simp [bv]) (by simp) (by have := HL.out; simp; omega) (by simp; exact Nat.le_succ_of_le hb.size) ?_; intro v' w2 hown2 hb2)
        have HB := hb.trans (((Below.refl w.heap.size wr).alloc hb.size _).trans hb2)
        go_wp2
        go_roundw
        case rel => exact ⟨k + 1, by omega, by go_num, by rw [HN.out]; exact hown2, HB⟩
        case measure => simp [intOf]; omega
      · have hsf' : safeI (s[k].toNat : Int) = false := by simpa using hsf
        have HN : Hid (pctL (s.data.toList.take (k + 1)) = pctL (s.data.toList.take k) ++ [37, hexU (s[k].toNat / 16), hexU (s[k].toNat % 16)]) := Lib.hid (by rw [take_snoc s k hlt, pctL_app]; simp [pctL, pctB, hsf])
        have HS := Lib.hid hsf'
        clear hsf hsf'
        have x1 := idx_upper (s[k].toNat / 16) (by have := s[k].toNat_lt; omega) ((s[k].toNat : Int) / 16) (by omega)
        have x2 := idx_upper (s[k].toNat % 16) (by omega) ((s[k].toNat : Int) % 16) (by omega)
        have x3 := and15 s[k]
        go_wp2_with fail
        refine (unescaped_any _ _ (byte_lt s[k]).2 (byte_lt s[k]).1).mono ?_
        rw [HS.out]
        rintro e w' ⟨rfl, rfl⟩
        go_wp2_with fail
        go_region_law ((refine step_append_buf (by rfl) _ _ (by rfl) w.heap.size _ _ (by rfl) (hown.alloc _).drew [37, hexU (s[k].toNat / 16), hexU (s[k].toNat % 16)] wr.heap.size _ _ _ _ _ (by rfl) (by rfl) (heap_alloc_new wr _) (by simp [bv]) (by simp) HL.out (by simp; exact Nat.le_succ_of_le hb.size) ?_; intro v' w2 hown2 hb2))
        all_goals
          have HB := hb.trans (((Below.refl w.heap.size wr).alloc hb.size _).drew.trans hb2)
          go_wp2
          go_roundw
          case rel => exact ⟨k + 1, by omega, by go_num, by rw [HN.out]; exact hown2, HB⟩
          case measure => simp [intOf]; omega
    · have hcv := hown.conv
      rw [take_end s k hlt] at hcv
      go_wp2
      go_ret
      exact ⟨rfl, hb⟩

end Go.Proofs.Ytldfkdkppgammaa
