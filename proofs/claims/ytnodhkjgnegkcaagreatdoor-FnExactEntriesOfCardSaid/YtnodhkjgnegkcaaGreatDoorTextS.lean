/-
  spec.VersionText: the text of a version.
-/
import Derived.Test.YtnodhkjgnegkcaaGreatDoorVerS
import Derived.Test.YtnodhkjgnegkcaaGreatDoorHeap
import Derived.Deep.QuietTactic
import Derived.BigQuiet
namespace Go.Proofs.YtnodhkjgnegkcaaGreatDoor
open Go.RowKit

theorem preText_snoc (ls : List (List UInt8)) (x : List UInt8) : preText (ls ++ [x]) = preText ls ++ ((if ls.length = 0 then 45 else 46) :: x) := by
  cases ls with
  | nil => simp [preText]
  | cons a t => simp [preText]
theorem preText_take {ls : List (List UInt8)} {k : Nat} (h : k < ls.length) : preText (ls.take (k + 1)) = preText (ls.take k) ++ ((if k = 0 then 45 else 46) :: ls[k]) := by
  rw [List.take_succ_eq_append_getElem h, preText_snoc]
  have : (ls.take k).length = k := by simp; omega
  rw [this]
theorem preText_len {ls : List (List UInt8)} (h : ∀ l ∈ ls, l.length ≤ 20) (k : Nat) (hk : k ≤ ls.length) : (preText (ls.take k)).length ≤ 21 * k := by
  induction k with
  | zero => simp [preText]
  | succ k ih =>
    rw [preText_take (by omega)]
    have := h ls[k] (List.getElem_mem (by omega))
    have := ih (by omega)
    simp; omega
theorem verOk_len {a b c : Int} {ls : List (List UInt8)} (h : verOk a b c ls = true) : ∀ l ∈ ls, l.length ≤ 20 := by
  intro l hl
  unfold verOk at h
  simp at h
  have := h.1 l hl
  unfold preOk at this
  simp at this
  omega
theorem verOk_num {a b c : Int} {ls : List (List UInt8)} (h : verOk a b c ls = true) : (0 ≤ a ∧ a ≤ 999999999) ∧ (0 ≤ b ∧ b ≤ 999999999) ∧ (0 ≤ c ∧ c ≤ 999999999) ∧ ls.length ≤ 5 := by
  unfold verOk numOk at h; simp at h; omega
theorem dec_len {n : Int} (h0 : 0 ≤ n) (h1 : n ≤ 999999999) : (dec n).length ≤ 20 := by
  unfold dec Lib.itoa
  rw [if_neg (by omega)]
  have := Lib.nDigits_le20 n.toNat (by omega)
  rw [← Lib.decDigits_length] at this
  simpa using this
theorem decTextQ (n : Int) (W : World) (h0 : 0 ≤ n) (h1 : n ≤ 999999999) : Calls Tryz.prog 189 #[.int .i64 n] W fun e w' => e = .returned (.string ⟨(dec n).toArray⟩) ∧ w' = W :=
  (specDecText_any n W (by omega) (by omega)).mono (fun _ _ h => ⟨h.1, h.2.symm⟩)
def nums (a b c : Int) : List UInt8 := dec a ++ [46] ++ dec b ++ [46] ++ dec c

theorem nums_bytes (a b c : Int) : Value.string (⟨(dec a).toArray⟩ ++ ⟨#[46]⟩ ++ ⟨(dec b).toArray⟩ ++ ⟨#[46]⟩ ++ ⟨(dec c).toArray⟩) = .string ⟨(nums a b c).toArray⟩ :=
  congrArg Value.string (bytes_ext (by simp [nums]))
theorem app3 (x z : List UInt8) (y : UInt8) : Value.string (⟨x.toArray⟩ ++ ⟨#[y]⟩ ++ ⟨z.toArray⟩) = .string ⟨(x ++ y :: z).toArray⟩ :=
  congrArg Value.string (bytes_ext (by simp))
theorem nums_len {a b c : Int} (ha : (dec a).length ≤ 20) (hb : (dec b).length ≤ 20) (hc : (dec c).length ≤ 20) : (nums a b c).length ≤ 62 := by simp [nums]; omega

set_option maxRecDepth 100000 in
set_option maxHeartbeats 2000000 in
theorem specVersionText_any (a b c : Int) (v : Value) (ls : List (List UInt8)) (w : World) (hr : RdS w v ls) (hs : Sm ls) :
    Calls Tryz.prog 143 #[.agg #[.int .i64 a, .int .i64 b, .int .i64 c, v]] w fun e w' => e = .returned (.string ⟨(verText a b c ls).toArray⟩) ∧ Below w.heap.size w w' := by
  have HV := Lib.hid (fun (W : World) (h : Below w.heap.size w W) => specVersionOk_any a b c v ls W (hr.below h) hs)
  have HR := Lib.hid (fun (W : World) (h : Below w.heap.size w W) => hr.below h)
  obtain ⟨A, cap, rfl, hr0⟩ := hr
  have hl := hs.1
  clear hs hr0
  have B1 : Below w.heap.size w (w.alloc (.cells #[.int .i64 a, .int .i64 b, .int .i64 c, .slice A ls.length cap] 117)) := (Below.refl _ _).alloc (Nat.le_refl _) _
  have hA1 := heap_alloc_new w (.cells #[.int .i64 a, .int .i64 b, .int .i64 c, .slice A ls.length cap] 117)
  obtain ⟨ok, HO⟩ : ∃ ok, Hid (verOk a b c ls = ok) := ⟨_, Lib.hid rfl⟩
  cases ok
  · have HT : Hid (verText a b c ls = []) := Lib.hid (by unfold verText; rw [HO.out]; rfl)
    go_enter Tryz.func143, Tryz.ntmps143
    go_wp2_with fail
    refine (HV.out _ B1).mono ?_
    rw [HO.out]
    rintro e w2 ⟨rfl, hb2⟩
    have B2 := B1.trans (hb2.mono B1.size)
    go_wp2_with fail
    go_ret
    exact ⟨ret_str HT.out.symm, B2⟩
  · obtain ⟨⟨a0, a1⟩, ⟨b0, b1⟩, ⟨c0, c1⟩, h5⟩ := verOk_num HO.out
    have HLE := Lib.hid (verOk_len HO.out)
    have la := dec_len a0 a1
    have lb := dec_len b0 b1
    have lc := dec_len c0 c1
    have HT : Hid (verText a b c ls = nums a b c ++ preText ls) := Lib.hid (by unfold verText; rw [HO.out]; rfl)
    go_enter Tryz.func143, Tryz.ntmps143
    go_wp2_with fail
    refine (HV.out _ B1).mono ?_
    rw [HO.out]
    rintro e w2 ⟨rfl, hb2⟩
    have B2 := B1.trans (hb2.mono B1.size)
    have hA2 := keepB hA1 hb2
    clear hA1 hb2 B1
    obtain ⟨p0, p1, p2, p3⟩ := cells4 hA2
    go_wp2_with fail
    go_quiet ((go_at_call 189; exact Calls.quiet_of_same (decTextQ _ _ (by omega) (by omega))))
    go_wp2_with fail
    rw [nums_bytes]
    have ln := nums_len la lb lc
    have HAA := HR.out (w2.drewN nq) (B2.trans (below_drewN _ _ _))
    have q3 : (w2.drewN nq).cell? ⟨w.heap.size, 3, none⟩ = some (.slice A ls.length cap) := p3
    have B3 := B2.trans (below_drewN w.heap.size w2 nq)
    clear p0 p1 p2 p3 hA2 B2 HV HR
    generalize w2.drewN nq = V at *
    generalize nums a b c = N at *
    obtain ⟨A2, cap2, hv2, hca⟩ := HAA
    simp only [Value.slice.injEq, true_and] at hv2
    obtain ⟨rfl, rfl⟩ := hv2
    go_loop [3, 4] (fun o i => ∃ (k : Nat) (X : List UInt8), k ≤ ls.length ∧ i = .int .i64 k ∧ o = .string ⟨X.toArray⟩ ∧ X.length ≤ 62 + 21 * k ∧ Hid (X = N ++ preText (ls.take k))) (fun _ i => ls.length - (intOf i).toNat)
    case atStart => exact ⟨0, N, Nat.zero_le _, rfl, rfl, by omega, Lib.hid (by simp [preText])⟩
    case round =>
      obtain ⟨k, X, hk, rfl, rfl, lX, HX⟩ := hrel
      by_cases hlt : k < ls.length
      · obtain ⟨g, off, rfl, hg, hck⟩ := hca (by omega)
        have d1 : V.cell? ⟨g, off + k, none⟩ = some (.string ⟨ls[k].toArray⟩) := hck k hlt
        have k0 : (0 : Int) ≤ (k : Int) := by omega
        have k1 : (k : Int) < (ls.length : Int) := by omega
        have lk := HLE.out _ (List.getElem_mem hlt)
        have HP := Lib.hid (preText_take hlt)
        clear hca hck
        by_cases hk0 : k = 0
        · have z0 : ((k : Int) == 0) = true := by simp [hk0]
          have HY : Hid (X ++ 45 :: ls[k] = N ++ preText (ls.take (k + 1))) := Lib.hid (by rw [HP.out, HX.out, if_pos hk0, List.append_assoc])
          clear hk0
          go_wp2
          go_round
          case rel => exact ⟨k + 1, X ++ 45 :: ls[k], by omega, by go_num, app3 _ _ _, by simp; omega, HY⟩
          case measure => simp [intOf]; omega
        · have z0 : ((k : Int) == 0) = false := int_beq_false (by omega)
          have HY : Hid (X ++ 46 :: ls[k] = N ++ preText (ls.take (k + 1))) := Lib.hid (by rw [HP.out, HX.out, if_neg hk0, List.append_assoc])
          clear hk0
          go_wp2
          go_round
          case rel => exact ⟨k + 1, X ++ 46 :: ls[k], by omega, by go_num, app3 _ _ _, by simp; omega, HY⟩
          case measure => simp [intOf]; omega
      · have HY : Hid (verText a b c ls = X) := Lib.hid (by rw [HT.out, HX.out, List.take_of_length_le (by omega)])
        clear hca
        go_wp2
        go_ret
        exact ⟨ret_str HY.out.symm, B3⟩
end Go.Proofs.YtnodhkjgnegkcaaGreatDoor
