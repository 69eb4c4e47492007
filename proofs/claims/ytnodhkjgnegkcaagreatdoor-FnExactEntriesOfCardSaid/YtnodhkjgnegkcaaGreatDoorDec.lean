/-
  spec.DecText returns the decimal text of every int.
-/
import Derived.Test.YtnodhkjgnegkcaaGreatDoorDecM
import Derived.Test.YtnodhkjgnegkcaaGreatDoorBase
import Derived.Test.YtnodhkjgnegkcaaGreatDoorStr
namespace Go.Proofs.YtnodhkjgnegkcaaGreatDoor
open Go.RowKit

set_option maxHeartbeats 1000000 in
theorem decText_pos (u : Nat) (w : World) (h : 0 < u) (hu : (u : Int) ≤ 9223372036854775807) :
    Calls Tryz.prog 189 #[.int .i64 (u : Int)] w fun e w' => e = .returned (.string ⟨(Lib.decDigits u).toArray⟩) ∧ w = w' := by
  have hne : ((u : Int) == 0) = false := by simp; omega
  go_enter Tryz.func189, Tryz.ntmps189
  go_wp2
  go_loop [3, 4, 5] (fun o m _ => ∃ (v : Nat) (l : List UInt8), o = .string ⟨l.toArray⟩ ∧ m = .int .i64 (v : Int) ∧ v ≤ u ∧ DecAt u v l) (fun _ m _ => (intOf m).toNat)
  case atStart => exact ⟨u, [], rfl, rfl, Nat.le_refl _, decAt_start u h⟩
  case round =>
    obtain ⟨v, l, rfl, rfl, hvu, H⟩ := hrel
    by_cases hv : v = 0
    · subst hv
      obtain rfl := decAt_end H
      clear H
      go_wp2
      go_ret
      exact ⟨rfl, rfl⟩
    · have hvn : ((v : Int) != 0) = true := by simp; exact hv
      have hl := decAt_len H (by omega)
      have HN := Lib.hid (decAt_step H (by omega))
      have x1 := one_digit (v % 10) (by omega) ((v : Int) % 10) (by omega)
      have d0 : ¬ (v : Int) % 10 < 0 := by omega
      clear H
      go_wp2
      go_round
      case rel => exact ⟨v / 10, _, str_cons _ _, by go_num, by omega, HN.out⟩
      case measure => simp [intOf]; omega

theorem neg_tmod10 (v : Nat) : (-(v : Int)).tmod 10 = -((v : Int) % 10) := by rw [Int.neg_tmod, Int.tmod_eq_emod_of_nonneg (by omega)]
theorem neg_tdiv10 (v : Nat) : (-(v : Int)).tdiv 10 = -((v / 10 : Nat) : Int) := by rw [Int.neg_tdiv, Int.tdiv_eq_ediv_of_nonneg (by omega)]; simp

set_option maxHeartbeats 1000000 in
theorem decText_neg (u : Nat) (w : World) (h : 0 < u) (hu : (u : Int) ≤ 9223372036854775808) :
    Calls Tryz.prog 189 #[.int .i64 (-(u : Int))] w fun e w' => e = .returned (.string ⟨(45 :: Lib.decDigits u).toArray⟩) ∧ w = w' := by
  have hne : (-(u : Int) == 0) = false := by simp; omega
  go_enter Tryz.func189, Tryz.ntmps189
  go_wp2
  go_loop [3, 4, 5] (fun o m _ => ∃ (v : Nat) (l : List UInt8), o = .string ⟨l.toArray⟩ ∧ m = .int .i64 (-(v : Int)) ∧ v ≤ u ∧ DecAt u v l) (fun _ m _ => (-(intOf m)).toNat)
  case atStart => exact ⟨u, [], rfl, rfl, Nat.le_refl _, decAt_start u h⟩
  case round =>
    obtain ⟨v, l, rfl, rfl, hvu, H⟩ := hrel
    have hl := decAt_len H (by omega)
    by_cases hv : v = 0
    · subst hv
      obtain rfl := decAt_end H
      clear H
      have hlt : -(u : Int) < 0 := by omega
      go_wp2
      go_ret
      exact ⟨congrArg Ending.returned (str_cons _ _), rfl⟩
    · have hvn : (-(v : Int) != 0) = true := by simp; exact hv
      have HN := Lib.hid (decAt_step H (by omega))
      have x1 := one_digit (v % 10) (by omega) ((v : Int) % 10) (by omega)
      have x3 := neg_tmod10 v
      have x4 := neg_tdiv10 v
      clear H
      by_cases hd : -((v : Int) % 10) < 0
      · go_wp2
        go_round
        case rel => exact ⟨v / 10, _, str_cons _ _, by go_num, by omega, HN.out⟩
        case measure => simp [intOf]; omega
      · have x5 := one_digit (v % 10) (by omega) (-((v : Int) % 10)) (by omega)
        go_wp2
        go_round
        case rel => exact ⟨v / 10, _, str_cons _ _, by go_num, by omega, HN.out⟩
        case measure => simp [intOf]; omega

theorem specDecText_any (n : Int) (w : World) (h0 : -9223372036854775808 ≤ n) (h1 : n ≤ 9223372036854775807) :
    Calls Tryz.prog 189 #[.int .i64 n] w fun e w' => e = .returned (.string ⟨(Lib.itoa n).toArray⟩) ∧ w = w' := by
  by_cases hz : n = 0
  · subst hz
    go_enter Tryz.func189, Tryz.ntmps189
    go_wp2
    go_ret
    exact ⟨ret_str (by unfold Lib.itoa; rw [if_neg (by omega), Lib.decDigits_one (by decide)]; rfl), rfl⟩
  · by_cases hn : n < 0
    · obtain ⟨u, rfl⟩ : ∃ u : Nat, n = -(u : Int) := ⟨n.natAbs, by omega⟩
      refine (decText_neg u w (by omega) (by omega)).mono ?_
      rintro e w' ⟨rfl, rfl⟩
      exact ⟨ret_str (by unfold Lib.itoa; rw [if_pos hn]; simp), rfl⟩
    · obtain ⟨u, rfl⟩ : ∃ u : Nat, n = (u : Int) := ⟨n.natAbs, by omega⟩
      refine (decText_pos u w (by omega) (by omega)).mono ?_
      rintro e w' ⟨rfl, rfl⟩
      exact ⟨ret_str (by unfold Lib.itoa; rw [if_neg hn]; simp), rfl⟩
end Go.Proofs.YtnodhkjgnegkcaaGreatDoor
