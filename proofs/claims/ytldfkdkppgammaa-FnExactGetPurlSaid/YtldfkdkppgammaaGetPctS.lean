/-
  spec.GetPercent returns the string whose percent encoding a text is, and whether there is one.
-/
import Derived.Test.YtldfkdkppgammaaGetPct
import Derived.Test.YtldfkdkppgammaaStr
namespace Go.Proofs.Ytldfkdkppgammaa
open Go.RowKit

theorem lenG_plain {s : ByteArray} {k : Nat} (h : k < s.size) (hc : ¬ s[k] = 37) : lenG (s.data.toList.drop k) = (lenG (s.data.toList.drop (k + 1))).map (s[k] :: ·) := by
  rw [drop_cons s k h, lenG_cons, if_neg hc]
theorem lenG_short {s : ByteArray} {k : Nat} (h : k < s.size) (hc : s[k] = 37) (h2 : s.size < k + 3) : lenG (s.data.toList.drop k) = none := by
  rw [drop_cons s k h, lenG_cons, if_pos hc]
  have hl : (s.data.toList.drop (k + 1)).length < 2 := by simp; omega
  match hd : s.data.toList.drop (k + 1) with
  | [] => rfl
  | [_] => rfl
  | a :: b :: r => rw [hd] at hl; simp at hl; omega
theorem lenG_pair {s : ByteArray} {k : Nat} (h : k + 2 < s.size) (hc : s[k] = 37) : lenG (s.data.toList.drop k) = match pairV upperL s[k + 1] s[k + 2] with
    | some v => (lenG (s.data.toList.drop (k + 3))).map (v :: ·)
    | none => none := by
  rw [drop_cons s k (by omega), lenG_cons, if_pos hc, drop_cons s (k + 1) (by omega), drop_cons s (k + 2) h]
  rfl

def pctS (l : List UInt8) : Option (List UInt8) := (lenG l).bind fun o => if pctL o = l then some o else none

set_option maxHeartbeats 2000000 in
theorem specGetPercent_any (s : ByteArray) (w : World) (hs : s.size ≤ 1048576) :
    Calls Try.prog 80 #[.string s] w fun e w' => e = .returned (optText (pctS s.data.toList)) ∧ Below w.heap.size w w' := by
  go_enter Try.func80, Try.ntmps80
  go_wp2
  go_loopw [4, 5, 6, 7] (fun o n _ _ wr => ∃ (k : Nat) (out : List UInt8), k ≤ s.size ∧ n = .int .i64 k ∧ o = .string ⟨out.toArray⟩ ∧ Below w.heap.size w wr ∧ ReadAt lenG s.data.toList k out) (fun _ n _ _ _ => s.size - (intOf n).toNat)
  case atStart => exact ⟨0, [], Nat.zero_le _, rfl, rfl, Below.refl _ _, readAt_zero _ _⟩
  case round =>
    obtain ⟨k, out, hk, rfl, rfl, hb, HP⟩ := hrel
    have hol := HP.2
    by_cases hlt : k < s.size
    · by_cases hc : s[k] = 37
      · have hne : ((s[k].toNat : Int) != 37) = false := by rw [hc]; rfl
        by_cases h3 : s.size < k + 3
        · have HN : Hid (pctS s.data.toList = none) := Lib.hid (by unfold pctS; rw [readAt_none HP (lenG_short hlt hc h3)]; rfl)
          have t3 : (s.size : Int) - 3 < (k : Int) := by omega
          clear HP hc
          go_wp2_with fail
          go_ret2
          exact ⟨by rw [HN.out]; rfl, hb⟩
        · have t3 : ¬ (s.size : Int) - 3 < (k : Int) := by omega
          have hk2 : k + 2 < s.size := by omega
          have hcall := l01Pairs_any ⟨#[s[k + 1], s[k + 2]]⟩ upperD wr (by show 2 ≤ 1048576; omega) rfl
          have hD : upperD.data.toList = upperL := rfl
          rw [hD] at hcall
          have he := slice_str s _ (k + 1) (k + 3) ((k : Int) + 1) ((k : Int) + 3) (by omega) (by omega) (by omega) (by omega) (extract_two s k hk2)
          have hlp := lenG_pair hk2 hc
          cases hpv : pairV upperL s[k + 1] s[k + 2] with
          | none =>
            have HN : Hid (pctS s.data.toList = none) := Lib.hid (by unfold pctS; rw [readAt_none HP (by rw [hlp, hpv])]; rfl)
            have hpl : pairsL upperL [s[k + 1], s[k + 2]] = none := by simp [pairsL, hpv]
            have HC : Hid (Calls Try.prog 84 #[.string ⟨#[s[k + 1], s[k + 2]]⟩, .string upperD] wr (PairsEnd none wr)) := Lib.hid (by rw [← hpl]; exact hcall)
            clear HP hc hcall hlp hpv hpl hD
            go_wp2_with fail
            refine HC.out.mono ?_
            rintro e w1 ⟨⟨x, rfl, _⟩, hb1⟩
            go_wp2_with fail
            go_ret2
            exact ⟨by rw [HN.out]; rfl, hb.trans (hb1.mono hb.size)⟩
          | some v =>
            have HN := Lib.hid (readAt_step (m := 3) (c := v) HP (by omega) (by rw [hlp, hpv]))
            have hpl : pairsL upperL [s[k + 1], s[k + 2]] = some [v] := by simp [pairsL, hpv]
            have HC : Hid (Calls Try.prog 84 #[.string ⟨#[s[k + 1], s[k + 2]]⟩, .string upperD] wr (PairsEnd (some [v]) wr)) := Lib.hid (by rw [← hpl]; exact hcall)
            clear HP hc hcall hlp hpv hpl hD
            go_wp2_with fail
            refine HC.out.mono ?_
            rintro e w1 ⟨⟨x, rfl, hx⟩, hb1⟩
            obtain rfl := hx [v] rfl
            clear hx
            have HB := hb.trans (hb1.mono hb.size)
            go_wp2_with fail
            go_roundw
            case rel => exact ⟨k + 3, _, by omega, by go_num, str_add out [v], HB, HN.out⟩
            case measure => simp [intOf]; omega
      · have hne : ((s[k].toNat : Int) != 37) = true := int_bne_true (fun h => hc (UInt8.toNat_inj.1 (by show _ = (37 : Nat); omega)))
        have HN := Lib.hid (readAt_step HP (by omega) (lenG_plain hlt hc))
        have he := slice_str s _ k (k + 1) (k : Int) ((k : Int) + 1) rfl (by omega) (by omega) (by omega) (extract_one s k hlt)
        clear HP hc
        go_wp2_with fail
        go_roundw
        case rel => exact ⟨k + 1, _, by omega, by go_num, str_add out [s[k]], hb, HN.out⟩
        case measure => simp [intOf]; omega
    · have hG := readAt_end HP (by rw [drop_end s k hlt]; rfl)
      have hcall := specPutPercent_any ⟨out.toArray⟩ wr (by show out.toArray.size ≤ _; simp; omega)
      have HC := Lib.hid hcall
      clear HP hcall
      by_cases hp : pctL out = s.data.toList
      · have HN : Hid (pctS s.data.toList = some out) := Lib.hid (by unfold pctS; rw [hG]; simp [hp])
        have e2 : (pctL out == s.toList) = true := by rw [ByteArray.toList_eq, hp]; simp
        clear hG hp
        go_wp2_with fail
        refine HC.out.mono ?_
        rintro e w1 ⟨rfl, hb1⟩
        go_wp2_with fail
        go_ret2
        exact ⟨by rw [HN.out]; rfl, hb.trans (hb1.mono hb.size)⟩
      · have HN : Hid (pctS s.data.toList = none) := Lib.hid (by unfold pctS; rw [hG]; simp [hp])
        have e2 : (pctL out == s.toList) = false := by rw [ByteArray.toList_eq]; simpa using hp
        clear hG hp
        go_wp2_with fail
        refine HC.out.mono ?_
        rintro e w1 ⟨rfl, hb1⟩
        go_wp2_with fail
        go_ret2
        exact ⟨by rw [HN.out]; rfl, hb.trans (hb1.mono hb.size)⟩
end Go.Proofs.Ytldfkdkppgammaa
