/-
  impl.NameOk returns whether a string is a package name, as spec.NameOk does.
-/
import Derived.Test.YtldfkdkppgammaaParts
import Derived.Test.YtldfkdkppgammaaNameS
import Derived.Test.YtldfkdkppgammaaCharI
import Derived.Outline
namespace Go.Proofs.Ytldfkdkppgammaa
open Go.RowKit Go.Shelf
attribute [local go_sem] Oper.semAt_some

theorem name_waysI (z : Int) : lowI z = true ∨ (lowI z = false ∧ digI z = true) ∨ (lowI z = false ∧ digI z = false ∧ (z == 46) = true) ∨ (lowI z = false ∧ digI z = false ∧ (z == 46) = false ∧ (z == 95) = true) ∨ (lowI z = false ∧ digI z = false ∧ (z == 46) = false ∧ (z == 95) = false ∧ (z == 45) = true) ∨ (lowI z = false ∧ digI z = false ∧ (z == 46) = false ∧ (z == 95) = false ∧ (z == 45) = false) := by
  cases lowI z <;> cases digI z <;> simp <;> omega
theorem name_yesI {z : Int} (h : lowI z = true ∨ digI z = true ∨ (z == 46) = true ∨ (z == 95) = true ∨ (z == 45) = true) : nameI z = true := by
  unfold lowI digI at h; unfold nameI; simp at h ⊢; omega
theorem name_noI {z : Int} (h : lowI z = false ∧ digI z = false ∧ (z == 46) = false ∧ (z == 95) = false ∧ (z == 45) = false) : nameI z = false := by
  unfold lowI digI at h; unfold nameI; simp at h ⊢; omega

set_option maxRecDepth 100000 in
set_option maxHeartbeats 2000000 in
theorem componentOk_any (q : ByteArray) (w : World) (hq : q.size ≤ 1048576) : Calls Try.prog 110 #[.string q] w fun e w' => e = .returned (.bool (compL q.data.toList)) ∧ w = w' := by
  go_enter Try.func110, Try.ntmps110
  go_wp2
  go_loop [3, 6] (fun _ k => ∃ m : Nat, m ≤ q.size ∧ k = .int .i64 m ∧ Hid ((q.data.toList.take m).all nameB = true)) (fun _ k => q.size - (intOf k).toNat)
  case atStart => exact ⟨0, Nat.zero_le _, rfl, Lib.hid (by simp)⟩
  case round =>
    obtain ⟨m, hm, rfl, HA⟩ := hrel
    by_cases hml : m < q.size
    · have c1 := (byte_lt q[m]).1
      have c2 := (byte_lt q[m]).2
      rcases name_waysI (q[m].toNat : Int) with z | ⟨z, y⟩ | ⟨z, y, z1⟩ | ⟨z, y, z1, z2⟩ | ⟨z, y, z1, z2, z3⟩ | ⟨z, y, z1, z2, z3⟩
      case inl =>
        have HY := Lib.hid (all_go q m nameB hml HA.out (name_yesI (.inl z)))
        have HS := Lib.hid z
        clear z
        go_wp2_with fail
        refine (isLower_any _ _ c2 c1).mono ?_
        rw [HS.out]
        rintro e w' ⟨rfl, rfl⟩
        go_wp2_with (go_at_call 44; fail)
        go_round
        case rel => exact ⟨m + 1, by omega, by go_num, HY⟩
        case measure => simp [intOf]; omega
      case inr.inl =>
        have HY := Lib.hid (all_go q m nameB hml HA.out (name_yesI (.inr (.inl y))))
        have HS := Lib.hid z
        have HT := Lib.hid y
        clear z y
        go_wp2_with fail
        refine (isLower_any _ _ c2 c1).mono ?_
        rw [HS.out]
        rintro e w' ⟨rfl, rfl⟩
        go_wp2_with fail
        refine (isDigit_any _ _ c2 c1).mono ?_
        rw [HT.out]
        rintro e w' ⟨rfl, rfl⟩
        go_wp2_with fail
        go_round
        case rel => exact ⟨m + 1, by omega, by go_num, HY⟩
        case measure => simp [intOf]; omega
      case inr.inr.inr.inr.inr =>
        have HX := Lib.hid (compL_bad (all_no q m nameB hml (name_noI ⟨z, y, z1, z2, z3⟩)))
        have HS := Lib.hid z
        have HT := Lib.hid y
        have y1 := bne_of_beq z1
        have y2 := bne_of_beq z2
        have y3 := bne_of_beq z3
        clear z y z1 z2 z3
        go_wp2_with fail
        refine (isLower_any _ _ c2 c1).mono ?_
        rw [HS.out]
        rintro e w' ⟨rfl, rfl⟩
        go_wp2_with fail
        refine (isDigit_any _ _ c2 c1).mono ?_
        rw [HT.out]
        rintro e w' ⟨rfl, rfl⟩
        go_wp2_with fail
        go_ret
        exact ⟨ret_bool HX.out.symm, rfl⟩
      all_goals
        have HY := Lib.hid (all_go q m nameB hml HA.out (name_yesI (by simp only [z1] at *; first | exact .inr (.inr (.inl trivial)) | exact .inr (.inr (.inr (.inl z2))) | exact .inr (.inr (.inr (.inr z3))))))
        have HS := Lib.hid z
        have HT := Lib.hid y
        have y1 := bne_of_beq z1
        try have y2 := bne_of_beq z2
        try have y3 := bne_of_beq z3
        clear z y z1
        try clear z2
        try clear z3
        go_wp2_with fail
        refine (isLower_any _ _ c2 c1).mono ?_
        rw [HS.out]
        rintro e w' ⟨rfl, rfl⟩
        go_wp2_with fail
        refine (isDigit_any _ _ c2 c1).mono ?_
        rw [HT.out]
        rintro e w' ⟨rfl, rfl⟩
        go_wp2_with fail
        go_round
        case rel => exact ⟨m + 1, by omega, by go_num, HY⟩
        case measure => simp [intOf]; omega
    · have HA2 := HA.out
      rw [take_end q m hml] at HA2
      by_cases hqe : q.data.toList.isEmpty = true
      · have HX := Lib.hid (compL_empty hqe)
        have e9 : q.toList.isEmpty = true := by rw [ByteArray.toList_eq]; exact hqe
        clear hqe HA2
        go_wp2_with fail
        go_ret
        exact ⟨ret_bool HX.out.symm, rfl⟩
      · have hqe' : q.data.toList.isEmpty = false := by simpa using hqe
        have HX := Lib.hid (compL_good hqe' HA2)
        have e9 : q.toList.isEmpty = false := by rw [ByteArray.toList_eq]; exact hqe'
        clear hqe hqe' HA2
        go_wp2_with fail
        go_ret
        exact ⟨ret_bool HX.out.symm, rfl⟩
end Go.Proofs.Ytldfkdkppgammaa
