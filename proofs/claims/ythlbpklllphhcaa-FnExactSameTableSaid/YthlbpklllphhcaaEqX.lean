/-
  Whether two lists of texts, are the same: spec.l04SameTexts, slices.Equal.
-/
import Derived.Test.YthlbpklllphhcaaCopX
namespace Go.Proofs.Ythlbpklllphhcaa
open Go.RowKit

theorem beq_drop {α : Type} [BEq α] (xs bs : List α) (k : Nat) (ha : k < xs.length) (hb : k < bs.length) : (xs.drop k == bs.drop k) = (xs[k] == bs[k] && xs.drop (k + 1) == bs.drop (k + 1)) := by
  rw [List.drop_eq_getElem_cons ha, List.drop_eq_getElem_cons hb]; rfl
theorem beq_len {α : Type} [BEq α] : ∀ (xs bs : List α), xs.length ≠ bs.length → (xs == bs) = false
  | [], [], h => absurd rfl h
  | [], _ :: _, _ => rfl
  | _ :: _, [], _ => rfl
  | a :: xs, b :: bs, h => by
    have ih := beq_len xs bs (fun e => h (by simp [e]))
    show (a == b && xs == bs) = false
    rw [ih, Bool.and_false]
theorem beq_end {α : Type} [BEq α] (xs bs : List α) (k : Nat) (ha : ¬ k < xs.length) (hb : xs.length = bs.length) : (xs.drop k == bs.drop k) = true := by
  rw [List.drop_of_length_le (by omega), List.drop_of_length_le (by omega)]; rfl
/-- What a comparison that stands at k knows. -/
def EqK {α : Type} [BEq α] (xs bs : List α) (k : Nat) : Prop := (xs == bs) = (xs.drop k == bs.drop k)
theorem eqK_zero {α : Type} [BEq α] (xs bs : List α) : EqK xs bs 0 := by unfold EqK; simp
theorem eqK_step {α : Type} [BEq α] {xs bs : List α} {k : Nat} (h : EqK xs bs k) (ha : k < xs.length) (hb : k < bs.length) (he : (xs[k] == bs[k]) = true) : EqK xs bs (k + 1) := by
  unfold EqK at h ⊢; rw [h, beq_drop xs bs k ha hb, he, Bool.true_and]
theorem eqK_bad {α : Type} [BEq α] {xs bs : List α} {k : Nat} (h : EqK xs bs k) (ha : k < xs.length) (hb : k < bs.length) (he : (xs[k] == bs[k]) = false) : (xs == bs) = false := by
  unfold EqK at h; rw [h, beq_drop xs bs k ha hb, he, Bool.false_and]
theorem eqK_end {α : Type} [BEq α] {xs bs : List α} {k : Nat} (h : EqK xs bs k) (ha : ¬ k < xs.length) (hb : xs.length = bs.length) : (xs == bs) = true := by
  unfold EqK at h; rw [h, beq_end xs bs k ha hb]

set_option maxRecDepth 100000 in
set_option maxHeartbeats 2000000 in
theorem l04SameTexts_any (va vb : Value) (xs bs : List (List UInt8)) (w : World) (ha : RdS w va xs) (hb : RdS w vb bs) (la : xs.length ≤ 16777216) (_lb : bs.length ≤ 16777216) :
    Calls Try.prog 66 #[va, vb] w fun e w' => e = .returned (.bool (xs == bs)) ∧ ∃ n, w' = w.drewN n := by
  have HA := Lib.hid ha
  have HB := Lib.hid hb
  obtain ⟨A, ca, rfl, _⟩ := ha
  obtain ⟨B, cb, rfl, _⟩ := hb
  obtain ⟨r, HR⟩ : ∃ r, Hid ((xs == bs) = r) := ⟨_, Lib.hid rfl⟩
  rw [HR.out]
  by_cases hl : xs.length = bs.length
  · have q0 : ((xs.length : Int) != (bs.length : Int)) = false := int_bne_false (by omega)
    have HL := Lib.hid hl
    have lab : xs.length ≤ bs.length := by omega
    have lba : bs.length ≤ xs.length := by omega
    clear hl
    go_enter Try.func66, Try.ntmps66
    go_wp2_with fail
    go_loopw [5] (fun i wr => ∃ k n : Nat, k ≤ xs.length ∧ i = .int .i64 k ∧ EqK xs bs k ∧ wr = w.drewN n) (fun i _ => xs.length - (intOf i).toNat)
    case atStart => exact ⟨0, 0, Nat.zero_le _, rfl, eqK_zero _ _, rfl⟩
    case round =>
      obtain ⟨k, n, hk, rfl, HE, rfl⟩ := hrel
      by_cases hlt : k < xs.length
      · obtain ⟨g, off, rfl, _, d1⟩ := HA.out.at k hlt
        obtain ⟨g2, off2, rfl, _, d2⟩ := HB.out.at k (by omega)
        have k0 : (0 : Int) ≤ (k : Int) := by omega
        have k1 : (k : Int) < (xs.length : Int) := by omega
        have k2 : (k : Int) < (bs.length : Int) := by omega
        cases he : (xs[k] == bs[k]'(by omega)) with
        | true =>
          have HN := Lib.hid (eqK_step HE hlt (by omega) he)
          have q2 : (xs[k] == bs[k]'(by omega)) = true := he
          clear he HE
          go_wp2_with fail
          go_quiet (fail)
          go_wp2_with fail
          go_roundw
          case rel => exact ⟨k + 1, _, by omega, by go_num, HN.out, rfl⟩
          case measure => simp [intOf]; omega
        | false =>
          have HN : Hid (r = false) := Lib.hid (by rw [← HR.out]; exact eqK_bad HE hlt (by omega) he)
          have q2 : (xs[k] == bs[k]'(by omega)) = false := he
          clear he HE
          go_wp2_with fail
          go_quiet (fail)
          go_wp2_with fail
          go_ret
          exact ⟨ret_bool HN.out.symm, n + nq, by simp⟩
      · have HN : Hid (r = true) := Lib.hid (by rw [← HR.out]; exact eqK_end HE hlt HL.out)
        clear HE
        go_wp2_with fail
        go_ret
        exact ⟨ret_bool HN.out.symm, n, rfl⟩
  · have q0 : ((xs.length : Int) != (bs.length : Int)) = true := int_bne_true (by omega)
    have HN : Hid (r = false) := Lib.hid (by rw [← HR.out]; exact beq_len xs bs hl)
    clear hl
    go_enter Try.func66, Try.ntmps66
    go_wp2_with fail
    go_ret
    exact ⟨ret_bool HN.out.symm, 0, rfl⟩

set_option maxRecDepth 100000 in
set_option maxHeartbeats 2000000 in
theorem equalS_any (va vb : Value) (xs bs : List (List UInt8)) (w : World) (ha : RdS w va xs) (hb : RdS w vb bs) (la : xs.length ≤ 16777216) (_lb : bs.length ≤ 16777216) :
    Calls Try.prog 99 #[va, vb] w fun e w' => e = .returned (.bool (xs == bs)) ∧ ∃ n, w' = w.drewN n := by
  have HA := Lib.hid ha
  have HB := Lib.hid hb
  obtain ⟨A, ca, rfl, _⟩ := ha
  obtain ⟨B, cb, rfl, _⟩ := hb
  obtain ⟨r, HR⟩ : ∃ r, Hid ((xs == bs) = r) := ⟨_, Lib.hid rfl⟩
  rw [HR.out]
  by_cases hl : xs.length = bs.length
  · have q0 : ((xs.length : Int) != (bs.length : Int)) = false := int_bne_false (by omega)
    have HL := Lib.hid hl
    have lab : xs.length ≤ bs.length := by omega
    have lba : bs.length ≤ xs.length := by omega
    clear hl
    go_enter Try.func99, Try.ntmps99
    go_wp2_with fail
    go_loopw [5, 13] (fun _ i wr => ∃ k n : Nat, k ≤ xs.length ∧ i = .int .i64 k ∧ EqK xs bs k ∧ wr = w.drewN n) (fun _ i _ => xs.length - (intOf i).toNat)
    case atStart => exact ⟨0, 0, Nat.zero_le _, rfl, eqK_zero _ _, rfl⟩
    case round =>
      obtain ⟨k, n, hk, rfl, HE, rfl⟩ := hrel
      by_cases hlt : k < xs.length
      · obtain ⟨g, off, rfl, _, d1⟩ := HA.out.at k hlt
        obtain ⟨g2, off2, rfl, _, d2⟩ := HB.out.at k (by omega)
        have k0 : (0 : Int) ≤ (k : Int) := by omega
        have k1 : (k : Int) < (xs.length : Int) := by omega
        have k2 : (k : Int) < (bs.length : Int) := by omega
        cases he : (xs[k] == bs[k]'(by omega)) with
        | true =>
          have HN := Lib.hid (eqK_step HE hlt (by omega) he)
          have q2 : (xs[k] == bs[k]'(by omega)) = true := he
          clear he HE
          go_wp2_with fail
          go_quiet (fail)
          go_wp2_with fail
          go_roundw
          case rel => exact ⟨k + 1, _, by omega, by go_num, HN.out, rfl⟩
          case measure => simp [intOf]; omega
        | false =>
          have HN : Hid (r = false) := Lib.hid (by rw [← HR.out]; exact eqK_bad HE hlt (by omega) he)
          have q2 : (xs[k] == bs[k]'(by omega)) = false := he
          clear he HE
          go_wp2_with fail
          go_quiet (fail)
          go_wp2_with fail
          go_ret
          exact ⟨ret_bool HN.out.symm, n + nq, by simp⟩
      · have HN : Hid (r = true) := Lib.hid (by rw [← HR.out]; exact eqK_end HE hlt HL.out)
        clear HE
        go_wp2_with fail
        go_ret
        exact ⟨ret_bool HN.out.symm, n, rfl⟩
  · have q0 : ((xs.length : Int) != (bs.length : Int)) = true := int_bne_true (by omega)
    have HN : Hid (r = false) := Lib.hid (by rw [← HR.out]; exact beq_len xs bs hl)
    clear hl
    go_enter Try.func99, Try.ntmps99
    go_wp2_with fail
    go_ret
    exact ⟨ret_bool HN.out.symm, 0, rfl⟩
end Go.Proofs.Ythlbpklllphhcaa
