/-
  impl.SpdxId returns the identifier of every key.
-/
import Derived.Test.YtldfkdkppgammaaSpdS
import Derived.Test.YtldfkdkppgammaaHexI
import Derived.Test.YtldfkdkppgammaaBufM
import Derived.Test.YtldfkdkppgammaaCharU
namespace Go.Proofs.Ytldfkdkppgammaa
open Go.RowKit

theorem id_impl (z : Int) : idI z = (lowI z || uppI z || digI z || (z == 46)) := by
  rw [Bool.eq_iff_iff]; unfold idI lowI uppI digI; simp; omega
theorem str_add3 (x y : UInt8) : Value.string ((⟨#[45]⟩ ++ ⟨#[x, y]⟩) ++ ⟨#[45]⟩) = .string ⟨[45, x, y, 45].toArray⟩ := by
  apply congrArg; apply bytes_ext; simp [ByteArray.data_append]
/-- What the four tests of a byte may say. -/
theorem id_tests (a b c d : Bool) : a = true ∨ (a = false ∧ b = true) ∨ (a = false ∧ b = false ∧ c = true) ∨ (a = false ∧ b = false ∧ c = false ∧ d = true) ∨ (a = false ∧ b = false ∧ c = false ∧ d = false) := by
  cases a <;> cases b <;> cases c <;> cases d <;> simp

set_option maxRecDepth 100000 in
set_option maxHeartbeats 2000000 in
theorem implSpdxId_any (s : ByteArray) (w : World) (hs : s.size ≤ 1048576) :
    Calls Try.prog 14 #[.string s] w fun e w' => e = .returned (.string ⟨(idT s.data.toList).toArray⟩) ∧ Below w.heap.size w w' := by
  have kc := fun (w : World) (C : Array Value) (n c : Nat) => Lib.run_convert_bytes_const (P := Try.prog) w 59 5 C n c Try.underlying59 Try.underlying5
  go_enter Try.func14, Try.ntmps14
  go_wp2
  go_loopw [3, 4, 5, 10] (fun v _ _ n wr => ∃ k : Nat, k ≤ s.size ∧ n = .int .i64 k ∧ BufM wr w.heap.size v (idT (s.data.toList.take k)) ∧ Below w.heap.size w wr) (fun _ _ _ n _ => s.size - (intOf n).toNat)
  case atStart => exact ⟨0, Nat.zero_le _, rfl, BufM.marked w w.heap.size idP (Nat.le_refl _) _, (Below.refl _ _).alloc (Nat.le_refl _) _⟩
  case round =>
    obtain ⟨k, hk, rfl, hown, hb⟩ := hrel
    clear kc
    have HL := Lib.hid (id_bound s k hs hk)
    by_cases hlt : k < s.size
    · have b1 := (byte_lt s[k]).1
      have b2 := (byte_lt s[k]).2
      have hid := id_impl (s[k].toNat : Int)
      have HH : Hid (∀ W, Calls Try.prog 45 #[.string ⟨#[s[k]]⟩] W fun e w' => e = .returned (.string ⟨#[hexC (s[k].toNat / 16), hexC (s[k].toNat % 16)]⟩) ∧ Below W.heap.size W w') := Lib.hid (fun W => implPutHex_any ⟨#[s[k]]⟩ W (by show 1 ≤ 1048576; omega))
      have he := slice_str s _ k (k + 1) (k : Int) ((k : Int) + 1) rfl (by omega) (by omega) (by omega) (extract_one s k hlt)
      have k0 : (0 : Int) ≤ (k : Int) := by omega
      have k1 : (k : Int) < (s.size : Int) := by omega
      rcases id_tests (lowI (s[k].toNat : Int)) (uppI (s[k].toNat : Int)) (digI (s[k].toNat : Int)) ((s[k].toNat : Int) == 46) with h1 | ⟨h1, h2⟩ | ⟨h1, h2, h3⟩ | ⟨h1, h2, h3, h4⟩ | ⟨h1, h2, h3, h4⟩
      · rw [h1] at hid
        have HN := Lib.hid (id_step s k hlt _ (idB_safe (by rw [hid]; rfl)))
        have H1 := Lib.hid h1
        clear h1 hid
        go_wp2_with (first
          | (go_at_call 42; refine (isLower_any _ _ b2 b1).mono ?_; rw [H1.out]; rintro e w1 ⟨rfl, rfl⟩)
          | (at_builtin; refine wpList_append_bufM rfl _ _ rfl w.heap.size _ _ rfl (hown.alloc _) [s[k]] wr.heap.size _ _ _ _ _ rfl rfl (heap_alloc_new wr _) (by simp [bv]) (by simp) (by have := HL.out; simp; omega) (by simp; exact Nat.le_succ_of_le hb.size) ?_; intro v' w2 hown2 hb2))
        have HB := hb.trans (((Below.refl w.heap.size wr).alloc hb.size _).trans hb2)
        go_roundw
        case rel => exact ⟨k + 1, by omega, by go_num, by rw [HN.out]; exact .inl hown2, HB⟩
        case measure => simp [intOf]; omega
      · rw [h1, h2] at hid
        have HN := Lib.hid (id_step s k hlt _ (idB_safe (by rw [hid]; rfl)))
        have H1 := Lib.hid h1
        have H2 := Lib.hid h2
        clear h1 h2 hid
        go_wp2_with (first
          | (go_at_call 42; refine (isLower_any _ _ b2 b1).mono ?_; rw [H1.out]; rintro e w1 ⟨rfl, rfl⟩)
          | (go_at_call 43; refine (isUpper_any _ _ b2 b1).mono ?_; rw [H2.out]; rintro e w1 ⟨rfl, rfl⟩)
          | (at_builtin; refine wpList_append_bufM rfl _ _ rfl w.heap.size _ _ rfl (hown.alloc _) [s[k]] wr.heap.size _ _ _ _ _ rfl rfl (heap_alloc_new wr _) (by simp [bv]) (by simp) (by have := HL.out; simp; omega) (by simp; exact Nat.le_succ_of_le hb.size) ?_; intro v' w2 hown2 hb2))
        have HB := hb.trans (((Below.refl w.heap.size wr).alloc hb.size _).trans hb2)
        go_roundw
        case rel => exact ⟨k + 1, by omega, by go_num, by rw [HN.out]; exact .inl hown2, HB⟩
        case measure => simp [intOf]; omega
      · rw [h1, h2, h3] at hid
        have HN := Lib.hid (id_step s k hlt _ (idB_safe (by rw [hid]; rfl)))
        have H1 := Lib.hid h1
        have H2 := Lib.hid h2
        have H3 := Lib.hid h3
        clear h1 h2 h3 hid
        go_wp2_with (first
          | (go_at_call 42; refine (isLower_any _ _ b2 b1).mono ?_; rw [H1.out]; rintro e w1 ⟨rfl, rfl⟩)
          | (go_at_call 43; refine (isUpper_any _ _ b2 b1).mono ?_; rw [H2.out]; rintro e w1 ⟨rfl, rfl⟩)
          | (go_at_call 44; refine (isDigit_any _ _ b2 b1).mono ?_; rw [H3.out]; rintro e w1 ⟨rfl, rfl⟩)
          | (at_builtin; refine wpList_append_bufM rfl _ _ rfl w.heap.size _ _ rfl (hown.alloc _) [s[k]] wr.heap.size _ _ _ _ _ rfl rfl (heap_alloc_new wr _) (by simp [bv]) (by simp) (by have := HL.out; simp; omega) (by simp; exact Nat.le_succ_of_le hb.size) ?_; intro v' w2 hown2 hb2))
        have HB := hb.trans (((Below.refl w.heap.size wr).alloc hb.size _).trans hb2)
        go_roundw
        case rel => exact ⟨k + 1, by omega, by go_num, by rw [HN.out]; exact .inl hown2, HB⟩
        case measure => simp [intOf]; omega
      · rw [h1, h2, h3, h4] at hid
        have HN := Lib.hid (id_step s k hlt _ (idB_safe (by rw [hid]; rfl)))
        have H1 := Lib.hid h1
        have H2 := Lib.hid h2
        have H3 := Lib.hid h3
        clear h1 h2 h3 hid
        go_wp2_with (first
          | (go_at_call 42; refine (isLower_any _ _ b2 b1).mono ?_; rw [H1.out]; rintro e w1 ⟨rfl, rfl⟩)
          | (go_at_call 43; refine (isUpper_any _ _ b2 b1).mono ?_; rw [H2.out]; rintro e w1 ⟨rfl, rfl⟩)
          | (go_at_call 44; refine (isDigit_any _ _ b2 b1).mono ?_; rw [H3.out]; rintro e w1 ⟨rfl, rfl⟩)
          | (at_builtin; refine wpList_append_bufM rfl _ _ rfl w.heap.size _ _ rfl (hown.alloc _) [s[k]] wr.heap.size _ _ _ _ _ rfl rfl (heap_alloc_new wr _) (by simp [bv]) (by simp) (by have := HL.out; simp; omega) (by simp; exact Nat.le_succ_of_le hb.size) ?_; intro v' w2 hown2 hb2))
        have HB := hb.trans (((Below.refl w.heap.size wr).alloc hb.size _).trans hb2)
        go_roundw
        case rel => exact ⟨k + 1, by omega, by go_num, by rw [HN.out]; exact .inl hown2, HB⟩
        case measure => simp [intOf]; omega
      · rw [h1, h2, h3, h4] at hid
        have HN := Lib.hid (id_step s k hlt _ (idB_not (by rw [hid]; rfl)))
        have H1 := Lib.hid h1
        have H2 := Lib.hid h2
        have H3 := Lib.hid h3
        clear h1 h2 h3 hid
        go_wp2_with (first
          | (go_at_call 42; refine (isLower_any _ _ b2 b1).mono ?_; rw [H1.out]; rintro e w1 ⟨rfl, rfl⟩)
          | (go_at_call 43; refine (isUpper_any _ _ b2 b1).mono ?_; rw [H2.out]; rintro e w1 ⟨rfl, rfl⟩)
          | (go_at_call 44; refine (isDigit_any _ _ b2 b1).mono ?_; rw [H3.out]; rintro e w1 ⟨rfl, rfl⟩)
          | (go_at_call 45; refine (HH.out _).mono ?_; rintro e w3 ⟨rfl, hb3⟩; have hown3 := hown.below hb3)
          | (at_builtin; refine wpList_append_bufM_str rfl _ _ rfl w.heap.size _ _ rfl hown3 [45, hexC (s[k].toNat / 16), hexC (s[k].toNat % 16), 45] (str_add3 _ _) (by simp) (by have := HL.out; simp; omega) (Nat.le_trans hb.size hb3.size) ?_; intro v' w4 hown4 hb4))
        have HB := (hb.trans (hb3.mono hb.size)).trans hb4
        go_roundw
        case rel => exact ⟨k + 1, by omega, by go_num, by rw [HN.out]; exact .inl hown4, HB⟩
        case measure => simp [intOf]; omega
    · have hcv := hown.conv
      rw [take_end s k hlt] at hcv
      go_wp2
      go_ret
      exact ⟨rfl, hb⟩
end Go.Proofs.Ytldfkdkppgammaa
