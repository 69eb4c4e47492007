/-
  impl.VersionOk: whether a version is right.
-/
import Derived.Test.YtongpnknmgbhjaaGreatDoorPreI
import Derived.Test.YtongpnknmgbhjaaGreatDoorVerS
namespace Go.Proofs.YtongpnknmgbhjaaGreatDoor
open Go.RowKit

set_option maxRecDepth 100000 in
theorem numberOk_any (n : Int) (w : World) : Calls Tryz.prog 227 #[.int .i64 n] w fun e w' => e = .returned (.bool (numOk n)) ∧ w = w' := by
  by_cases h1 : 0 ≤ n
  · by_cases h2 : n ≤ 999999999
    · have H : Hid (numOk n = true) := Lib.hid (by unfold numOk; simp; omega)
      go_enter Tryz.func227, Tryz.ntmps227
      go_wp2
      go_ret
      exact ⟨ret_bool H.out.symm, rfl⟩
    · have H : Hid (numOk n = false) := Lib.hid (by unfold numOk; simp; omega)
      have d1 : decide (n ≤ 999999999) = false := by simpa using h2
      go_enter Tryz.func227, Tryz.ntmps227
      go_wp2
      go_ret
      exact ⟨ret_bool (by first | exact H.out.symm | (rw [H.out]; simp; omega)), rfl⟩
  · have H : Hid (numOk n = false) := Lib.hid (by unfold numOk; simp; omega)
    have d1 : decide (0 ≤ n) = false := by simpa using h1
    go_enter Tryz.func227, Tryz.ntmps227
    go_wp2
    go_ret
    exact ⟨ret_bool (by first | exact H.out.symm | (rw [H.out]; simp; omega)), rfl⟩

theorem sm_size {ls : List (List UInt8)} (h : ∀ l ∈ ls, l.length ≤ 1048576) (k : Nat) (hk : k < ls.length) : (⟨ls[k].toArray⟩ : ByteArray).size ≤ 1048576 := by
  have := h ls[k] (List.getElem_mem hk)
  show ls[k].toArray.size ≤ _
  simpa using this

set_option maxRecDepth 100000 in
set_option maxHeartbeats 2000000 in
theorem implVersionOk_any (a b c : Int) (v : Value) (ls : List (List UInt8)) (w : World) (hr : RdS w v ls) (hs : Sm ls) :
    Calls Tryz.prog 201 #[.agg #[.int .i64 a, .int .i64 b, .int .i64 c, v]] w fun e w' => e = .returned (.bool (verOk a b c ls)) ∧ Below w.heap.size w w' := by
  obtain ⟨A, cap, rfl, hc⟩ := hr
  have hls := hs.1
  have HS := Lib.hid hs.2
  clear hs
  obtain ⟨x, HX⟩ : ∃ x, Hid (numOk a = x) := ⟨_, Lib.hid rfl⟩
  obtain ⟨y, HY⟩ : ∃ x, Hid (numOk b = x) := ⟨_, Lib.hid rfl⟩
  obtain ⟨z, HZ⟩ : ∃ x, Hid (numOk c = x) := ⟨_, Lib.hid rfl⟩
  have HF : Hid (verOk a b c ls = (ls.all preOk && (x && y && z && decide (ls.length ≤ 5)))) := Lib.hid (by unfold verOk; rw [HX.out, HY.out, HZ.out])
  cases x
  · have HG : Hid (verOk a b c ls = false) := Lib.hid (by rw [HF.out]; simp)
    go_enter Tryz.func201, Tryz.ntmps201
    go_wp2_with (go_at_call 227; refine (numberOk_any _ _).mono ?_; (first | rw [HX.out]); rintro e w' ⟨rfl, rfl⟩)
    go_ret
    exact ⟨ret_bool HG.out.symm, (Below.refl _ _).alloc (Nat.le_refl _) _⟩
  cases y
  · have HG : Hid (verOk a b c ls = false) := Lib.hid (by rw [HF.out]; simp)
    go_enter Tryz.func201, Tryz.ntmps201
    go_wp2_with (go_at_call 227; refine (numberOk_any _ _).mono ?_; (first | rw [HX.out] | rw [HY.out]); rintro e w' ⟨rfl, rfl⟩)
    go_ret
    exact ⟨ret_bool HG.out.symm, (Below.refl _ _).alloc (Nat.le_refl _) _⟩
  cases z
  · have HG : Hid (verOk a b c ls = false) := Lib.hid (by rw [HF.out]; simp)
    go_enter Tryz.func201, Tryz.ntmps201
    go_wp2_with (go_at_call 227; refine (numberOk_any _ _).mono ?_; (first | rw [HX.out] | rw [HY.out] | rw [HZ.out]); rintro e w' ⟨rfl, rfl⟩)
    go_ret
    exact ⟨ret_bool HG.out.symm, (Below.refl _ _).alloc (Nat.le_refl _) _⟩
  by_cases h5 : ls.length ≤ 5
  · have HG : Hid (verOk a b c ls = ls.all preOk) := Lib.hid (by rw [HF.out]; simp [h5])
    have d5 : decide ((5 : Int) < (ls.length : Int)) = false := by simp; omega
    clear HF
    go_enter Tryz.func201, Tryz.ntmps201
    go_wp2_with (go_at_call 227; refine (numberOk_any _ _).mono ?_; (first | rw [HX.out] | rw [HY.out] | rw [HZ.out]); rintro e w' ⟨rfl, rfl⟩)
    go_loop [4, 30] (fun _ i => ∃ k : Nat, k ≤ ls.length ∧ i = .int .i64 k ∧ Hid ((ls.take k).all preOk = true)) (fun _ i => ls.length - (intOf i).toNat)
    case atStart => exact ⟨0, Nat.zero_le _, rfl, Lib.hid (by simp)⟩
    case round =>
      obtain ⟨k, hk, rfl, H⟩ := hrel
      by_cases hlt : k < ls.length
      · obtain ⟨g, off, rfl, hg, hca⟩ := hc (by omega)
        have d1 : w.cell? ⟨g, off + k, none⟩ = some (.string ⟨ls[k].toArray⟩) := hca k hlt
        have k0 : (0 : Int) ≤ (k : Int) := by omega
        have k1 : (k : Int) < (ls.length : Int) := by omega
        have hbs := sm_size HS.out k hlt
        have HP := Lib.hid (fun W => identifierOf_any ⟨ls[k].toArray⟩ W hbs)
        clear hc hca
        by_cases hn : 0 ≤ readL ls[k]
        · have HN := Lib.hid (all_take ls preOk k hlt H.out (preOk_num hn))
          have HV := Lib.hid (identV_num (s := ⟨ls[k].toArray⟩) hn)
          go_wp2_with fail
          refine (HP.out _).mono ?_
          rw [HV.out]
          rintro e w' ⟨rfl, rfl⟩
          have hm := meth_validN (readL ls[k])
          go_wp2_with fail
          refine (numValid_any _ _).mono ?_
          rintro e w' ⟨rfl, rfl⟩
          go_wp2_with fail
          go_round
          case rel => exact ⟨k + 1, by omega, by go_num, HN⟩
          case measure => simp [intOf]; omega
        · have HV := Lib.hid (identV_text (s := ⟨ls[k].toArray⟩) hn)
          have HT := Lib.hid (preOk_textOk hn)
          have hm := meth_validT ⟨ls[k].toArray⟩
          by_cases hp : preOk ls[k] = true
          · have HN := Lib.hid (all_take ls preOk k hlt H.out hp)
            have HQ : Hid (textOk (⟨ls[k].toArray⟩ : ByteArray).data.toList = true) := Lib.hid (HT.out.symm.trans hp)
            clear hp hn
            go_wp2_with fail
            refine (HP.out _).mono ?_
            rw [HV.out]
            rintro e w' ⟨rfl, rfl⟩
            go_wp2_with fail
            refine (textValid_any _ _ hbs).mono ?_
            rw [HQ.out]
            rintro e w' ⟨rfl, rfl⟩
            go_wp2_with fail
            go_round
            case rel => exact ⟨k + 1, by omega, by go_num, HN⟩
            case measure => simp [intOf]; omega
          · have HN : Hid (verOk a b c ls = false) := Lib.hid (by rw [HG.out]; exact Bool.eq_false_iff.2 (all_not ls preOk k hlt (by simpa using hp)))
            have HQ : Hid (textOk (⟨ls[k].toArray⟩ : ByteArray).data.toList = false) := Lib.hid (HT.out.symm.trans (by simpa using hp))
            clear hp hn
            go_wp2_with fail
            refine (HP.out _).mono ?_
            rw [HV.out]
            rintro e w' ⟨rfl, rfl⟩
            go_wp2_with fail
            refine (textValid_any _ _ hbs).mono ?_
            rw [HQ.out]
            rintro e w' ⟨rfl, rfl⟩
            go_wp2_with fail
            go_ret
            exact ⟨ret_bool HN.out.symm, (Below.refl _ _).alloc (Nat.le_refl _) _⟩
      · have H2 := H.out
        rw [List.take_of_length_le (by omega)] at H2
        have HN : Hid (verOk a b c ls = true) := Lib.hid (by rw [HG.out]; exact H2)
        clear H H2 hc
        go_wp2_with fail
        go_ret
        exact ⟨ret_bool HN.out.symm, (Below.refl _ _).alloc (Nat.le_refl _) _⟩
  · have HG : Hid (verOk a b c ls = false) := Lib.hid (by rw [HF.out]; simp; omega)
    have d5 : (5 : Int) < (ls.length : Int) := by omega
    clear HF
    go_enter Tryz.func201, Tryz.ntmps201
    go_wp2_with (go_at_call 227; refine (numberOk_any _ _).mono ?_; (first | rw [HX.out] | rw [HY.out] | rw [HZ.out]); rintro e w' ⟨rfl, rfl⟩)
    go_ret
    exact ⟨ret_bool HG.out.symm, (Below.refl _ _).alloc (Nat.le_refl _) _⟩
end Go.Proofs.YtongpnknmgbhjaaGreatDoor
