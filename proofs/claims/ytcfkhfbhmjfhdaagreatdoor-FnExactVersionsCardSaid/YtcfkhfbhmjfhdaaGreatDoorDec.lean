/-
  spec.DecText returns the decimal text of every int.
-/
import Derived.Test.YtcfkhfbhmjfhdaaGreatDoorRows
import Derived.Test.YtcfkhfbhmjfhdaaGreatDoorBase
import Derived.Test.YtcfkhfbhmjfhdaaGreatDoorStr
import Derived.Lib.ItoaLen
namespace Go.Proofs.YtcfkhfbhmjfhdaaGreatDoor
open Go.RowKit

/-- The digit d as a byte. -/
def digC (d : Nat) : UInt8 := UInt8.ofNat (48 + d)
/-- What is known when v is left of u and l is written. -/
def DecAt (u v : Nat) (l : List UInt8) : Prop := (v = 0 ∧ l = Lib.decDigits u) ∨ (0 < v ∧ Lib.decDigits u = Lib.decDigits v ++ l)
theorem decAt_start (u : Nat) (h : 0 < u) : DecAt u u [] := .inr ⟨h, by simp⟩
theorem decAt_len {u v : Nat} {l : List UInt8} (h : DecAt u v l) (hu : u < 18446744073709551616) : l.length ≤ 20 := by
  have := Lib.nDigits_le20 u hu
  rw [← Lib.decDigits_length] at this
  rcases h with ⟨_, rfl⟩ | ⟨_, h⟩
  · exact this
  · rw [h] at this; simp at this; omega
theorem decAt_step {u v : Nat} {l : List UInt8} (h : DecAt u v l) (hv : 0 < v) : DecAt u (v / 10) (digC (v % 10) :: l) := by
  rcases h with ⟨h0, _⟩ | ⟨_, h⟩
  · omega
  · by_cases h10 : v < 10
    · left
      refine ⟨by omega, ?_⟩
      rw [h, Lib.decDigits_one h10, Nat.mod_eq_of_lt h10]; rfl
    · right
      refine ⟨by omega, ?_⟩
      rw [h, Lib.decDigits, dif_neg h10, List.append_assoc]; rfl
theorem decAt_end {u : Nat} {l : List UInt8} (h : DecAt u 0 l) : l = Lib.decDigits u := by
  rcases h with ⟨_, h⟩ | ⟨h, _⟩
  · exact h
  · omega

theorem one_digit (d : Nat) (hd : d < 10) (z : Int) (hz : z = (d : Int)) (w : World) : (Instr.slice 9 (.string ⟨#[48, 49, 50, 51, 52, 53, 54, 55, 56, 57]⟩) (some (.int .i64 z)) (some (.int .i64 (z + 1))) none).run Tryz.prog w = .ok (.string ⟨#[digC d]⟩) w := by
  subst hz
  obtain rfl | rfl | rfl | rfl | rfl | rfl | rfl | rfl | rfl | rfl : d = 0 ∨ d = 1 ∨ d = 2 ∨ d = 3 ∨ d = 4 ∨ d = 5 ∨ d = 6 ∨ d = 7 ∨ d = 8 ∨ d = 9 := by omega
  all_goals kernel_rfl

set_option maxHeartbeats 1000000 in
theorem decText_pos (u : Nat) (w : World) (h : 0 < u) (hu : (u : Int) ≤ 9223372036854775807) :
    Calls Tryz.prog 95 #[.int .i64 (u : Int)] w fun e w' => e = .returned (.string ⟨(Lib.decDigits u).toArray⟩) ∧ w = w' := by
  have hne : ((u : Int) == 0) = false := by simp; omega
  go_enter Tryz.func95, Tryz.ntmps95
  go_wp2
  go_loop [3, 4, 5] (fun o m _ => ∃ (v : Nat) (l : List UInt8), o = .string ⟨l.toArray⟩ ∧ m = .int .i64 (v : Int) ∧ v ≤ u ∧ DecAt u v l) (fun _ m _ => (intOf m).toNat)
  case atStart => exact ⟨u, [], rfl, rfl, Nat.le_refl _, decAt_start u h⟩
  case round =>
    obtain ⟨v, l, rfl, rfl, hvu, H⟩ := hrel
    by_cases hv : v = 0
    · subst hv
      obtain rfl := decAt_end H
      clear H
      go_wp2
      go_ret
      exact ⟨rfl, rfl⟩
    · have hvn : ((v : Int) != 0) = true := by simp; exact hv
      have hl := decAt_len H (by omega)
      have HN := Lib.hid (decAt_step H (by omega))
      have x1 := one_digit (v % 10) (by omega) ((v : Int) % 10) (by omega)
      have d0 : ¬ (v : Int) % 10 < 0 := by omega
      clear H
      go_wp2
      go_round
      case rel => exact ⟨v / 10, _, str_cons _ _, by go_num, by omega, HN.out⟩
      case measure => simp [intOf]; omega

theorem neg_tmod10 (v : Nat) : (-(v : Int)).tmod 10 = -((v : Int) % 10) := by rw [Int.neg_tmod, Int.tmod_eq_emod_of_nonneg (by omega)]
theorem neg_tdiv10 (v : Nat) : (-(v : Int)).tdiv 10 = -((v / 10 : Nat) : Int) := by rw [Int.neg_tdiv, Int.tdiv_eq_ediv_of_nonneg (by omega)]; simp

set_option maxHeartbeats 1000000 in
theorem decText_neg (u : Nat) (w : World) (h : 0 < u) (hu : (u : Int) ≤ 9223372036854775808) :
    Calls Tryz.prog 95 #[.int .i64 (-(u : Int))] w fun e w' => e = .returned (.string ⟨(45 :: Lib.decDigits u).toArray⟩) ∧ w = w' := by
  have hne : (-(u : Int) == 0) = false := by simp; omega
  go_enter Tryz.func95, Tryz.ntmps95
  go_wp2
  go_loop [3, 4, 5] (fun o m _ => ∃ (v : Nat) (l : List UInt8), o = .string ⟨l.toArray⟩ ∧ m = .int .i64 (-(v : Int)) ∧ v ≤ u ∧ DecAt u v l) (fun _ m _ => (-(intOf m)).toNat)
  case atStart => exact ⟨u, [], rfl, rfl, Nat.le_refl _, decAt_start u h⟩
  case round =>
    obtain ⟨v, l, rfl, rfl, hvu, H⟩ := hrel
    have hl := decAt_len H (by omega)
    by_cases hv : v = 0
    · subst hv
      obtain rfl := decAt_end H
      clear H
      have hlt : -(u : Int) < 0 := by omega
      go_wp2
      go_ret
      exact ⟨congrArg Ending.returned (str_cons _ _), rfl⟩
    · have hvn : (-(v : Int) != 0) = true := by simp; exact hv
      have HN := Lib.hid (decAt_step H (by omega))
      have x1 := one_digit (v % 10) (by omega) ((v : Int) % 10) (by omega)
      have x3 := neg_tmod10 v
      have x4 := neg_tdiv10 v
      clear H
      by_cases hd : -((v : Int) % 10) < 0
      · go_wp2
        go_round
        case rel => exact ⟨v / 10, _, str_cons _ _, by go_num, by omega, HN.out⟩
        case measure => simp [intOf]; omega
      · have x5 := one_digit (v % 10) (by omega) (-((v : Int) % 10)) (by omega)
        go_wp2
        go_round
        case rel => exact ⟨v / 10, _, str_cons _ _, by go_num, by omega, HN.out⟩
        case measure => simp [intOf]; omega

theorem specDecText_any (n : Int) (w : World) (h0 : -9223372036854775808 ≤ n) (h1 : n ≤ 9223372036854775807) :
    Calls Tryz.prog 95 #[.int .i64 n] w fun e w' => e = .returned (.string ⟨(Lib.itoa n).toArray⟩) ∧ w = w' := by
  by_cases hz : n = 0
  · subst hz
    go_enter Tryz.func95, Tryz.ntmps95
    go_wp2
    go_ret
    exact ⟨ret_str (by unfold Lib.itoa; rw [if_neg (by omega), Lib.decDigits_one (by decide)]; rfl), rfl⟩
  · by_cases hn : n < 0
    · obtain ⟨u, rfl⟩ : ∃ u : Nat, n = -(u : Int) := ⟨n.natAbs, by omega⟩
      refine (decText_neg u w (by omega) (by omega)).mono ?_
      rintro e w' ⟨rfl, rfl⟩
      exact ⟨ret_str (by unfold Lib.itoa; rw [if_pos hn]; simp), rfl⟩
    · obtain ⟨u, rfl⟩ : ∃ u : Nat, n = (u : Int) := ⟨n.natAbs, by omega⟩
      refine (decText_pos u w (by omega) (by omega)).mono ?_
      rintro e w' ⟨rfl, rfl⟩
      exact ⟨ret_str (by unfold Lib.itoa; rw [if_neg hn]; simp), rfl⟩
end Go.Proofs.YtcfkhfbhmjfhdaaGreatDoor
