/-
  spec.SpdxId returns the identifier of every key.
-/
import Derived.Test.YtldfkdkppgammaaSpdM
import Derived.Test.YtldfkdkppgammaaHex
import Derived.Test.YtldfkdkppgammaaStr
import Derived.Test.YtldfkdkppgammaaCharG
namespace Go.Proofs.Ytldfkdkppgammaa
open Go.RowKit

theorem id_spec (z : Int) : idI z = (lettI z || greatI z || (z == 46)) := by
  rw [Bool.eq_iff_iff]; unfold idI lettI greatI; simp; omega
theorem str_add4 (a : List UInt8) (x y : UInt8) : Value.string (((⟨a.toArray⟩ ++ ⟨#[45]⟩) ++ ⟨#[x, y]⟩) ++ ⟨#[45]⟩) = .string ⟨(a ++ [45, x, y, 45]).toArray⟩ := by
  apply congrArg; apply bytes_ext; simp [ByteArray.data_append]

set_option maxRecDepth 100000 in
set_option maxHeartbeats 2000000 in
theorem specSpdxId_any (s : ByteArray) (w : World) (hs : s.size ≤ 1048576) :
    Calls Try.prog 13 #[.string s] w fun e w' => e = .returned (.string ⟨(idT s.data.toList).toArray⟩) ∧ Below w.heap.size w w' := by
  go_enter Try.func13, Try.ntmps13
  go_wp2
  go_loopw [3, 4] (fun o n wr => ∃ (k : Nat) (out : List UInt8), k ≤ s.size ∧ n = .int .i64 k ∧ o = .string ⟨out.toArray⟩ ∧ out.length ≤ 4 * k + 8 ∧ Hid (idT (s.data.toList.take k) = out) ∧ Below w.heap.size w wr) (fun _ n _ => s.size - (intOf n).toNat)
  case atStart => exact ⟨0, idP, Nat.zero_le _, rfl, rfl, by simp [idP], Lib.hid rfl, Below.refl _ _⟩
  case round =>
    obtain ⟨k, out, hk, rfl, rfl, hol, HO, hb⟩ := hrel
    by_cases hlt : k < s.size
    · have he := slice_str s _ k (k + 1) (k : Int) ((k : Int) + 1) rfl (by omega) (by omega) (by omega) (extract_one s k hlt)
      have b1 := (byte_lt s[k]).1
      have b2 := (byte_lt s[k]).2
      have hid := id_spec (s[k].toNat : Int)
      have HH : Hid (∀ W, Calls Try.prog 41 #[.string ⟨#[s[k]]⟩] W fun e w' => e = .returned (.string ⟨#[hexC (s[k].toNat / 16), hexC (s[k].toNat % 16)]⟩) ∧ Below W.heap.size W w') := Lib.hid (fun W => specPutHex_any ⟨#[s[k]]⟩ W (by show 1 ≤ 1048576; omega))
      have k0 : (0 : Int) ≤ (k : Int) := by omega
      have k1 : (k : Int) < (s.size : Int) := by omega
      rcases (show lettI (s[k].toNat : Int) = true ∨ (lettI (s[k].toNat : Int) = false ∧ greatI (s[k].toNat : Int) = true) ∨ (lettI (s[k].toNat : Int) = false ∧ greatI (s[k].toNat : Int) = false) from by cases lettI (s[k].toNat : Int) <;> cases greatI (s[k].toNat : Int) <;> simp) with h1 | ⟨h1, h2⟩ | ⟨h1, h2⟩
      · rw [h1] at hid
        have HN := Lib.hid (id_step s k hlt _ (idB_safe (by rw [hid]; rfl)))
        have H1 := Lib.hid h1
        clear h1 hid
        go_wp2_with fail
        refine (l01Letter_any _ _ b2 b1).mono ?_
        rw [H1.out]
        rintro e w1 ⟨rfl, rfl⟩
        go_wp2_with fail
        go_roundw
        case rel => exact ⟨k + 1, out ++ [s[k]], by omega, by go_num, str_add out [s[k]], by simp; omega, Lib.hid (by rw [HN.out, HO.out]), hb⟩
        case measure => simp [intOf]; omega
      · rw [h1, h2] at hid
        have HN := Lib.hid (id_step s k hlt _ (idB_safe (by rw [hid]; rfl)))
        have H1 := Lib.hid h1
        have H2 := Lib.hid h2
        clear h1 h2 hid
        go_wp2_with fail
        refine (l01Letter_any _ _ b2 b1).mono ?_
        rw [H1.out]
        rintro e w1 ⟨rfl, rfl⟩
        go_wp2_with fail
        refine (l01Great_any _ _ b2 b1).mono ?_
        rw [H2.out]
        rintro e w1 ⟨rfl, rfl⟩
        go_wp2_with fail
        go_roundw
        case rel => exact ⟨k + 1, out ++ [s[k]], by omega, by go_num, str_add out [s[k]], by simp; omega, Lib.hid (by rw [HN.out, HO.out]), hb⟩
        case measure => simp [intOf]; omega
      · rw [h1, h2] at hid
        have H1 := Lib.hid h1
        have H2 := Lib.hid h2
        by_cases hd : (s[k].toNat : Int) = 46
        · have q : ((s[k].toNat : Int) == 46) = true := int_beq_true hd
          rw [q] at hid
          have HN := Lib.hid (id_step s k hlt _ (idB_safe (by rw [hid]; rfl)))
          clear h1 h2 hid hd
          go_wp2_with fail
          refine (l01Letter_any _ _ b2 b1).mono ?_
          rw [H1.out]
          rintro e w1 ⟨rfl, rfl⟩
          go_wp2_with fail
          refine (l01Great_any _ _ b2 b1).mono ?_
          rw [H2.out]
          rintro e w1 ⟨rfl, rfl⟩
          go_wp2_with fail
          go_roundw
          case rel => exact ⟨k + 1, out ++ [s[k]], by omega, by go_num, str_add out [s[k]], by simp; omega, Lib.hid (by rw [HN.out, HO.out]), hb⟩
          case measure => simp [intOf]; omega
        · have q : ((s[k].toNat : Int) == 46) = false := int_beq_false hd
          rw [q] at hid
          have HN := Lib.hid (id_step s k hlt _ (idB_not (by rw [hid]; rfl)))
          clear h1 h2 hid hd
          go_wp2_with fail
          refine (l01Letter_any _ _ b2 b1).mono ?_
          rw [H1.out]
          rintro e w1 ⟨rfl, rfl⟩
          go_wp2_with fail
          refine (l01Great_any _ _ b2 b1).mono ?_
          rw [H2.out]
          rintro e w1 ⟨rfl, rfl⟩
          go_wp2_with fail
          refine (HH.out _).mono ?_
          rintro e w2 ⟨rfl, hb2⟩
          have HB := hb.trans (hb2.mono hb.size)
          go_wp2_with fail
          go_roundw
          case rel => exact ⟨k + 1, out ++ [45, hexC (s[k].toNat / 16), hexC (s[k].toNat % 16), 45], by omega, by go_num, str_add4 out _ _, by simp; omega, Lib.hid (by rw [HN.out, HO.out]), HB⟩
          case measure => simp [intOf]; omega
    · have HE : Hid (idT s.data.toList = out) := Lib.hid (by rw [← HO.out, take_end s k hlt])
      go_wp2
      go_ret
      exact ⟨ret_str HE.out.symm, hb⟩
end Go.Proofs.Ytldfkdkppgammaa
