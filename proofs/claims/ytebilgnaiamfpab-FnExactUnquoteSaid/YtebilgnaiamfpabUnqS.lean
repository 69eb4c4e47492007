/-
  spec.Unquote returns the string whose quoted form stands at a place of a text, and the place behind it.
-/
import Derived.Test.YtebilgnaiamfpabUnqI
import Derived.Test.YtebilgnaiamfpabQuoteS
namespace Go.Proofs.Ytebilgnaiamfpab
open Go.RowKit

def escV (r : Option (UInt8 × Nat)) (k : Int) : Value := match r with
  | none => .tuple #[.string ⟨#[]⟩, .int .i64 (-1)]
  | some p => .tuple #[.string ⟨#[p.1]⟩, .int .i64 (k + (p.2 : Int))]

set_option maxRecDepth 100000 in
set_option maxHeartbeats 4000000 in
theorem l01Escape_any (s : ByteArray) (k : Nat) (w : World) (hs : s.size ≤ 1048576) (hk : k + 1 ≤ s.size) :
    Calls Try.prog 21 #[.string s, .int .i64 ((k : Int) + 1)] w fun e w' => e = .returned (escV (lAt (92 :: s.data.toList.drop (k + 1))) (k : Int)) ∧ Below w.heap.size w w' := by
  have g0 : (0 : Int) ≤ (k : Int) + 1 := by omega
  by_cases hend : k + 1 = s.size
  · have HV : Hid (lAt (92 :: s.data.toList.drop (k + 1)) = none) := Lib.hid (by rw [drop_end s (k + 1) (by omega)]; rfl)
    have q1 : decide ((s.size : Int) ≤ (k : Int) + 1) = true := by simp; omega
    clear hend
    go_enter Try.func21, Try.ntmps21
    go_wp2_with fail
    go_ret2
    exact ⟨by rw [HV.out]; rfl, Below.refl _ _⟩
  · have h1 : k + 1 < s.size := by omega
    have q1 : decide ((s.size : Int) ≤ (k : Int) + 1) = false := by simp; omega
    have q1' : (k : Int) + 1 < (s.size : Int) := by omega
    have HD : Hid (s.data.toList.drop (k + 1) = s[k + 1] :: s.data.toList.drop (k + 2)) := Lib.hid (drop_cons s (k + 1) h1)
    have d1 := (byte_lt s[k + 1]).1
    have d2 := (byte_lt s[k + 1]).2
    have t1 : ((k : Int) + 1).toNat = k + 1 := by omega
    clear hend
    by_cases h110 : (s[k + 1].toNat : Int) = 110
    · have hd : s[k + 1] = 110 := byte_is 110 (by omega) h110
      have HV : Hid (lAt (92 :: s.data.toList.drop (k + 1)) = some (10, 2)) := Lib.hid (by rw [HD.out]; simp [lAt, hd])
      have q4 : ((s[k + 1].toNat : Int) == 110) = true := int_beq_true h110
      clear h110 hd
      go_enter Try.func21, Try.ntmps21
      go_wp2_with fail
      go_ret2
      refine ⟨?_, Below.refl _ _⟩
      rw [HV.out]
      exact congrArg (fun z : Int => Ending.returned (.tuple #[.string ⟨#[10]⟩, .int .i64 z])) (by omega)
    · have q4 : ((s[k + 1].toNat : Int) == 110) = false := int_beq_false h110
      have n110 : ¬ s[k + 1] = 110 := byte_not 110 (by omega) h110
      clear h110
      by_cases h120 : (s[k + 1].toNat : Int) = 120
      · have hd : s[k + 1] = 120 := byte_is 120 (by omega) h120
        have q5 : ((s[k + 1].toNat : Int) == 120) = true := int_beq_true h120
        have q6 : ((s[k + 1].toNat : Int) == 34) = false := int_beq_false (by omega)
        have q7 : ((s[k + 1].toNat : Int) == 92) = false := int_beq_false (by omega)
        have HX : Hid (lAt (92 :: s.data.toList.drop (k + 1)) = match pair2 (s.data.toList.drop (k + 2)) with
          | some v => some (v, 4)
          | none => none) := Lib.hid (by rw [HD.out]; simp [lAt, hd]; rfl)
        clear h120 hd n110
        by_cases h3 : k + 3 < s.size
        · have hp2 : pair2 (s.data.toList.drop (k + 2)) = pairV lowerL s[k + 2] s[k + 3] := by rw [drop_cons s (k + 2) (by omega), drop_cons s (k + 3) h3]; rfl
          have q8 : (k : Int) + 1 + 3 ≤ (s.size : Int) := by omega
          have he := slice_str s _ (k + 2) (k + 4) ((k : Int) + 1 + 1) ((k : Int) + 1 + 3) (by omega) (by omega) (by omega) (by omega) (extract_two s (k + 1) (by omega))
          have hcall := specGetHex_any ⟨#[s[k + 2], s[k + 3]]⟩ w (by show 2 ≤ 1048576; omega)
          cases hpv : pairV lowerL s[k + 2] s[k + 3] with
          | none =>
            have hpl : pairsL lowerL [s[k + 2], s[k + 3]] = none := by simp [pairsL, hpv]
            have HC : Hid (Calls Try.prog 32 #[.string ⟨#[s[k + 2], s[k + 3]]⟩] w fun e w' => e = .returned (optText none) ∧ Below w.heap.size w w') := Lib.hid (by rw [← hpl]; exact hcall)
            have HV : Hid (lAt (92 :: s.data.toList.drop (k + 1)) = none) := Lib.hid (by rw [HX.out, hp2, hpv])
            clear hcall hpv hpl hp2
            go_enter Try.func21, Try.ntmps21
            go_wp2_with fail
            refine HC.out.mono ?_
            rintro e w1 ⟨rfl, hb1⟩
            unfold optText
            go_wp2_with fail
            go_ret2
            exact ⟨by rw [HV.out]; rfl, hb1⟩
          | some v =>
            have hpl : pairsL lowerL [s[k + 2], s[k + 3]] = some [v] := by simp [pairsL, hpv]
            have HC : Hid (Calls Try.prog 32 #[.string ⟨#[s[k + 2], s[k + 3]]⟩] w fun e w' => e = .returned (optText (some [v])) ∧ Below w.heap.size w w') := Lib.hid (by rw [← hpl]; exact hcall)
            have HV : Hid (lAt (92 :: s.data.toList.drop (k + 1)) = some (v, 4)) := Lib.hid (by rw [HX.out, hp2, hpv])
            clear hcall hpv hpl hp2
            go_enter Try.func21, Try.ntmps21
            go_wp2_with fail
            refine HC.out.mono ?_
            rintro e w1 ⟨rfl, hb1⟩
            unfold optText
            go_wp2_with fail
            go_ret2
            refine ⟨?_, hb1⟩
            rw [HV.out]
            exact congrArg (fun z : Int => Ending.returned (.tuple #[.string ⟨#[v]⟩, .int .i64 z])) (by omega)
        · have hp2 : pair2 (s.data.toList.drop (k + 2)) = none := hexAtV_short lowerL s (k + 2) (by omega)
          have HV : Hid (lAt (92 :: s.data.toList.drop (k + 1)) = none) := Lib.hid (by rw [HX.out, hp2])
          have q8 : decide ((k : Int) + 1 + 3 ≤ (s.size : Int)) = false := by simp; omega
          clear hp2
          go_enter Try.func21, Try.ntmps21
          go_wp2_with fail
          go_ret2
          exact ⟨by rw [HV.out]; rfl, Below.refl _ _⟩
      · have q5 : ((s[k + 1].toNat : Int) == 120) = false := int_beq_false h120
        have n120 : ¬ s[k + 1] = 120 := byte_not 120 (by omega) h120
        clear h120
        have he := slice_str s _ (k + 1) (k + 2) ((k : Int) + 1) ((k : Int) + 1 + 1) (by omega) (by omega) (by omega) (by omega) (extract_one s (k + 1) h1)
        by_cases h34 : (s[k + 1].toNat : Int) = 34 ∨ (s[k + 1].toNat : Int) = 92
        · have hd : s[k + 1] = 34 ∨ s[k + 1] = 92 := by
            rcases h34 with h | h
            · exact .inl (byte_is 34 (by omega) h)
            · exact .inr (byte_is 92 (by omega) h)
          have HV : Hid (lAt (92 :: s.data.toList.drop (k + 1)) = some (s[k + 1], 2)) := Lib.hid (by rw [HD.out]; simp [lAt, hd])
          have hq : ((s[k + 1].toNat : Int) == 34) = true ∨ (((s[k + 1].toNat : Int) == 34) = false ∧ ((s[k + 1].toNat : Int) == 92) = true) := by simp; omega
          clear h34 hd n110 n120
          rcases hq with q6 | ⟨q6, q7⟩
          all_goals
            go_enter Try.func21, Try.ntmps21
            go_wp2_with fail
            go_ret2
            refine ⟨?_, Below.refl _ _⟩
            rw [HV.out]
            exact congrArg (fun z : Int => Ending.returned (.tuple #[.string ⟨#[s[k + 1]]⟩, .int .i64 z])) (by omega)
        · have n34 : ¬ s[k + 1] = 34 := byte_not 34 (by omega) (by omega)
          have n92 : ¬ s[k + 1] = 92 := byte_not 92 (by omega) (by omega)
          have q6 : ((s[k + 1].toNat : Int) == 34) = false := int_beq_false (by omega)
          have q7 : ((s[k + 1].toNat : Int) == 92) = false := int_beq_false (by omega)
          have HV : Hid (lAt (92 :: s.data.toList.drop (k + 1)) = none) := Lib.hid (by rw [HD.out]; simp [lAt, n34, n92, n110, n120])
          clear h34 n34 n92 n110 n120
          go_enter Try.func21, Try.ntmps21
          go_wp2_with fail
          go_ret2
          exact ⟨by rw [HV.out]; rfl, Below.refl _ _⟩
end Go.Proofs.Ytebilgnaiamfpab
