/-
  spec.VersionOk: whether a version is right.
-/
import Derived.Test.YtnodhkjgnegkcaaGreatDoorPre
import Derived.Test.YtnodhkjgnegkcaaGreatDoorRdL
namespace Go.Proofs.YtnodhkjgnegkcaaGreatDoor
open Go.RowKit

/-- A version as a value. -/
def verV (a b c : Int) (v : Value) : Value := .agg #[.int .i64 a, .int .i64 b, .int .i64 c, v]
theorem all_take {α : Type} (ls : List α) (p : α → Bool) (k : Nat) (h : k < ls.length) (ha : (ls.take k).all p = true) (hb : p ls[k] = true) : (ls.take (k + 1)).all p = true := by
  rw [List.take_succ_eq_append_getElem h, List.all_append, ha]; simp [hb]
theorem all_not {α : Type} (ls : List α) (p : α → Bool) (k : Nat) (h : k < ls.length) (hb : p ls[k] = false) : ¬ ls.all p = true := by
  intro ha
  have := List.all_eq_true.1 ha _ (List.getElem_mem h)
  rw [hb] at this
  cases this
theorem numOk_in (n : Int) : numOk n = inI n 0 999999999 := rfl

set_option maxRecDepth 100000 in
set_option maxHeartbeats 2000000 in
theorem specVersionOk_any (a b c : Int) (v : Value) (ls : List (List UInt8)) (w : World) (hr : RdS w v ls) (hs : Sm ls) :
    Calls Tryz.prog 190 #[.agg #[.int .i64 a, .int .i64 b, .int .i64 c, v]] w fun e w' => e = .returned (.bool (verOk a b c ls)) ∧ Below w.heap.size w w' := by
  obtain ⟨A, cap, rfl, hc⟩ := hr
  have hls := hs.1
  have HS := Lib.hid hs.2
  clear hs
  go_enter Tryz.func190, Tryz.ntmps190
  go_wp2
  go_loop [3] (fun i => ∃ k : Nat, k ≤ ls.length ∧ i = .int .i64 k ∧ Hid ((ls.take k).all preOk = true)) (fun i => ls.length - (intOf i).toNat)
  case atStart => exact ⟨0, Nat.zero_le _, rfl, Lib.hid (by simp)⟩
  case round =>
    obtain ⟨k, hk, rfl, H⟩ := hrel
    by_cases hlt : k < ls.length
    · obtain ⟨g, off, rfl, hg, hca⟩ := hc (by omega)
      have d1 : w.cell? ⟨g, off + k, none⟩ = some (.string ⟨ls[k].toArray⟩) := hca k hlt
      have k0 : (0 : Int) ≤ (k : Int) := by omega
      have k1 : (k : Int) < (ls.length : Int) := by omega
      have HP := Lib.hid (fun W => l02Pre_any ⟨ls[k].toArray⟩ W (by have := HS.out ls[k] (List.getElem_mem hlt); show ls[k].toArray.size ≤ _; simpa using this))
      clear hc hca
      by_cases hp : preOk ls[k] = true
      · have HN := Lib.hid (all_take ls preOk k hlt H.out hp)
        have HQ := Lib.hid hp
        clear hp
        go_wp2_with fail
        refine (HP.out _).mono ?_
        rw [HQ.out]
        rintro e w' ⟨rfl, rfl⟩
        go_wp2_with fail
        go_round
        case rel => exact ⟨k + 1, by omega, by go_num, HN⟩
        case measure => simp [intOf]; omega
      · have HN := Lib.hid (verOk_bad (a := a) (b := b) (c := c) (all_not ls preOk k hlt (by simpa using hp)))
        have HQ : Hid (preOk ls[k] = false) := Lib.hid (by simpa using hp)
        clear hp
        go_wp2_with fail
        refine (HP.out _).mono ?_
        rw [HQ.out]
        rintro e w' ⟨rfl, rfl⟩
        go_wp2_with fail
        go_ret
        exact ⟨ret_bool HN.out.symm, (Below.refl _ _).alloc (Nat.le_refl _) _⟩
    · have H2 := H.out
      rw [List.take_of_length_le (by omega)] at H2
      have HV := Lib.hid (verOk_fin (a := a) (b := b) (c := c) H2)
      clear H H2 hc
      obtain ⟨x, HX⟩ : ∃ x, Hid (inI a 0 999999999 = x) := ⟨_, Lib.hid rfl⟩
      obtain ⟨y, HY⟩ : ∃ x, Hid (inI b 0 999999999 = x) := ⟨_, Lib.hid rfl⟩
      obtain ⟨z, HZ⟩ : ∃ x, Hid (inI c 0 999999999 = x) := ⟨_, Lib.hid rfl⟩
      have HF : Hid (verOk a b c ls = (x && y && z && decide (ls.length ≤ 5))) := Lib.hid (by rw [HV.out, numOk_in, numOk_in, numOk_in, HX.out, HY.out, HZ.out])
      clear HV
      cases x
      · go_wp2_with (go_at_call 93; refine (l01In_any _ _ _ _).mono ?_; (first | rw [HX.out]); rintro e w' ⟨rfl, rfl⟩)
        go_ret
        exact ⟨ret_bool HF.out.symm, (Below.refl _ _).alloc (Nat.le_refl _) _⟩
      · cases y
        · go_wp2_with (go_at_call 93; refine (l01In_any _ _ _ _).mono ?_; (first | rw [HX.out] | rw [HY.out]); rintro e w' ⟨rfl, rfl⟩)
          go_ret
          exact ⟨ret_bool HF.out.symm, (Below.refl _ _).alloc (Nat.le_refl _) _⟩
        · cases z
          · go_wp2_with (go_at_call 93; refine (l01In_any _ _ _ _).mono ?_; (first | rw [HX.out] | rw [HY.out] | rw [HZ.out]); rintro e w' ⟨rfl, rfl⟩)
            go_ret
            exact ⟨ret_bool HF.out.symm, (Below.refl _ _).alloc (Nat.le_refl _) _⟩
          · go_wp2_with (go_at_call 93; refine (l01In_any _ _ _ _).mono ?_; (first | rw [HX.out] | rw [HY.out] | rw [HZ.out]); rintro e w' ⟨rfl, rfl⟩)
            go_ret
            exact ⟨ret_bool (by rw [HF.out]; simp; omega), (Below.refl _ _).alloc (Nat.le_refl _) _⟩
end Go.Proofs.YtnodhkjgnegkcaaGreatDoor
