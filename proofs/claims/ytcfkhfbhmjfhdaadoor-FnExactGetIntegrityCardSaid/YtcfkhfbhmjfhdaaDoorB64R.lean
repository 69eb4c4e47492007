/-
  Base 64 there and back in plain words: what PutBase64 writes GetBase64 reads as it was.
-/
import Derived.Test.YtcfkhfbhmjfhdaaDoorGetM
namespace Go.Proofs.YtcfkhfbhmjfhdaaDoor

theorem ix_sg_is : ∀ n, n < 64 → ix (sg n) = (n : Int) := by decide +kernel
theorem getD_get {l : List UInt8} {k : Nat} (h : k < l.length) : l.getD k 0 = l[k] := by rw [List.getD_eq_getElem?_getD, List.getElem?_eq_getElem h]; rfl

theorem dN_succ (l : List UInt8) (k : Nat) : dN l (k + 1) = dN l k * 64 % 16777216 + (ix (l.getD k 0)).toNat := rfl
theorem dO_succ (l : List UInt8) (k : Nat) : dO l (k + 1) = dO l k ++ if k % 4 = 0 then [] else [UInt8.ofNat (dN l (k + 1) / 2 ^ sh k % 256)] := rfl
section
variable {l : List UInt8} {q a0 a1 a2 a3 : Nat}
theorem dN_1 (h0 : l.getD (4 * q) 0 = sg a0) (p0 : a0 < 64) : dN l (4 * q + 1) % 64 = a0 := by
  rw [dN_succ l (4 * q), h0, ix_sg_is a0 p0]; omega
theorem dN_2 (h0 : l.getD (4 * q) 0 = sg a0) (h1 : l.getD (4 * q + 1) 0 = sg a1) (p0 : a0 < 64) (p1 : a1 < 64) : dN l (4 * q + 1 + 1) % 4096 = a0 * 64 + a1 := by
  have := dN_1 h0 p0
  rw [dN_succ l (4 * q + 1), h1, ix_sg_is a1 p1]; omega
theorem dN_3 (h0 : l.getD (4 * q) 0 = sg a0) (h1 : l.getD (4 * q + 1) 0 = sg a1) (h2 : l.getD (4 * q + 1 + 1) 0 = sg a2) (p0 : a0 < 64) (p1 : a1 < 64) (p2 : a2 < 64) : dN l (4 * q + 1 + 1 + 1) % 262144 = a0 * 4096 + a1 * 64 + a2 := by
  have := dN_2 h0 h1 p0 p1
  rw [dN_succ l (4 * q + 1 + 1), h2, ix_sg_is a2 p2]; omega
theorem dN_4 (h0 : l.getD (4 * q) 0 = sg a0) (h1 : l.getD (4 * q + 1) 0 = sg a1) (h2 : l.getD (4 * q + 1 + 1) 0 = sg a2) (h3 : l.getD (4 * q + 1 + 1 + 1) 0 = sg a3) (p0 : a0 < 64) (p1 : a1 < 64) (p2 : a2 < 64) (p3 : a3 < 64) : dN l (4 * q + 1 + 1 + 1 + 1) % 16777216 = a0 * 262144 + a1 * 4096 + a2 * 64 + a3 := by
  have := dN_3 h0 h1 h2 p0 p1 p2
  rw [dN_succ l (4 * q + 1 + 1 + 1), h3, ix_sg_is a3 p3]; omega
theorem dO_2 (h0 : l.getD (4 * q) 0 = sg a0) (h1 : l.getD (4 * q + 1) 0 = sg a1) (p0 : a0 < 64) (p1 : a1 < 64) : dO l (4 * q + 1 + 1) = dO l (4 * q) ++ [UInt8.ofNat ((a0 * 64 + a1) / 16 % 256)] := by
  have e := dN_2 h0 h1 p0 p1
  have s : sh (4 * q + 1) = 4 := by unfold sh; omega
  have e2 : dN l (4 * q + 1 + 1) / 16 % 256 = (a0 * 64 + a1) / 16 % 256 := by omega
  rw [dO_succ l (4 * q + 1), dO_succ l (4 * q), if_pos (by omega), if_neg (by omega), s, List.append_nil]
  show _ ++ [UInt8.ofNat (dN l (4 * q + 1 + 1) / 16 % 256)] = _
  rw [e2]
theorem dO_3 (h0 : l.getD (4 * q) 0 = sg a0) (h1 : l.getD (4 * q + 1) 0 = sg a1) (h2 : l.getD (4 * q + 1 + 1) 0 = sg a2) (p0 : a0 < 64) (p1 : a1 < 64) (p2 : a2 < 64) : dO l (4 * q + 1 + 1 + 1) = dO l (4 * q) ++ [UInt8.ofNat ((a0 * 64 + a1) / 16 % 256), UInt8.ofNat ((a1 * 64 + a2) / 4 % 256)] := by
  have e := dN_3 h0 h1 h2 p0 p1 p2
  have s : sh (4 * q + 1 + 1) = 2 := by unfold sh; omega
  have e2 : dN l (4 * q + 1 + 1 + 1) / 4 % 256 = (a1 * 64 + a2) / 4 % 256 := by omega
  rw [dO_succ l (4 * q + 1 + 1), if_neg (by omega), s, dO_2 h0 h1 p0 p1]
  show _ ++ [UInt8.ofNat (dN l (4 * q + 1 + 1 + 1) / 4 % 256)] = _
  rw [e2]; simp
theorem dO_4 (h0 : l.getD (4 * q) 0 = sg a0) (h1 : l.getD (4 * q + 1) 0 = sg a1) (h2 : l.getD (4 * q + 1 + 1) 0 = sg a2) (h3 : l.getD (4 * q + 1 + 1 + 1) 0 = sg a3) (p0 : a0 < 64) (p1 : a1 < 64) (p2 : a2 < 64) (p3 : a3 < 64) : dO l (4 * q + 1 + 1 + 1 + 1) = dO l (4 * q) ++ [UInt8.ofNat ((a0 * 64 + a1) / 16 % 256), UInt8.ofNat ((a1 * 64 + a2) / 4 % 256), UInt8.ofNat ((a2 * 64 + a3) % 256)] := by
  have e := dN_4 h0 h1 h2 h3 p0 p1 p2 p3
  have s : sh (4 * q + 1 + 1 + 1) = 0 := by unfold sh; omega
  have e2 : dN l (4 * q + 1 + 1 + 1 + 1) / 1 % 256 = (a2 * 64 + a3) % 256 := by omega
  rw [dO_succ l (4 * q + 1 + 1 + 1), if_neg (by omega), s, dO_3 h0 h1 h2 p0 p1 p2]
  show _ ++ [UInt8.ofNat (dN l (4 * q + 1 + 1 + 1 + 1) / 1 % 256)] = _
  rw [e2]; simp
end

/-- The signs of a group. -/
theorem b64G_at (x : List UInt8) (Q q j : Nat) (hq : q < Q) (hj : j < 4) : (b64G x Q).getD (4 * q + j) 0 = (grp (pv x (3 * q) 3) (min 3 (x.length - 3 * q))).getD j 0 := by
  induction Q with
  | zero => omega
  | succ Q ih =>
    have hl := b64G_len x Q
    rw [b64G_succ]
    by_cases h : q < Q
    · rw [← ih h, List.getD_eq_getElem?_getD, List.getD_eq_getElem?_getD, List.getElem?_append_left (by omega)]
    · obtain rfl : q = Q := by omega
      rw [List.getD_eq_getElem?_getD, List.getD_eq_getElem?_getD, List.getElem?_append_right (by omega), hl]
      congr 2; omega
theorem b64L_sign (x : List UInt8) (q j : Nat) (hq : q < (x.length + 2) / 3) (hj : j < 4) (hm : j ≤ min 3 (x.length - 3 * q)) : (b64L x).getD (4 * q + j) 0 = sg (pv x (3 * q) 3 / 2 ^ (18 - 6 * j) % 64) := by
  unfold b64L
  rw [b64G_at x _ q j hq hj]
  rcases j with _ | _ | _ | _ | j
  · show ch (pv x (3 * q) 3) (min 3 (x.length - 3 * q)) 0 = _
    unfold ch; rw [if_neg (by omega)]
  · show ch (pv x (3 * q) 3) (min 3 (x.length - 3 * q)) 1 = _
    unfold ch; rw [if_neg (by omega)]
  · show ch (pv x (3 * q) 3) (min 3 (x.length - 3 * q)) 2 = _
    unfold ch; rw [if_neg (by omega)]
  · show ch (pv x (3 * q) 3) (min 3 (x.length - 3 * q)) 3 = _
    unfold ch; rw [if_neg (by omega)]
  · omega
theorem pv3 (x : List UInt8) (i : Nat) : pv x i 3 = (x.getD i 0).toNat * 65536 + (x.getD (i + 1) 0).toNat * 256 + (x.getD (i + 2) 0).toNat := by
  simp only [pv, Nat.add_zero]; omega
theorem byte_back (b : UInt8) (n : Nat) (h : n = b.toNat) : UInt8.ofNat n = b := by subst h; simp
theorem take_more (x : List UInt8) (k : Nat) (h : k < x.length) : x.take (k + 1) = x.take k ++ [x.getD k 0] := by rw [getD_get h, List.take_succ_eq_append_getElem h]

theorem back_one {x : List UInt8} {q : Nat} (hd : dO (b64L x) (4 * q) = x.take (3 * q)) (h : 3 * q < x.length) : dO (b64L x) (4 * q + 1 + 1) = x.take (3 * q + 1) := by
  have b0 := (x.getD (3 * q) 0).toNat_lt
  have b1 := (x.getD (3 * q + 1) 0).toNat_lt
  have b2 := (x.getD (3 * q + 2) 0).toNat_lt
  have hp := pv3 x (3 * q)
  have s0 := b64L_sign x q 0 (by omega) (by omega) (by omega)
  have s1 := b64L_sign x q 1 (by omega) (by omega) (by omega)
  simp only [Nat.reducePow, Nat.reduceSub, Nat.mul_zero, Nat.sub_zero, Nat.add_zero, Nat.mul_one] at s0 s1
  rw [dO_2 s0 s1 (Nat.mod_lt _ (by decide)) (Nat.mod_lt _ (by decide)), hd, take_more x _ h]
  congr 2
  apply byte_back
  omega
theorem back_two {x : List UInt8} {q : Nat} (hd : dO (b64L x) (4 * q) = x.take (3 * q)) (h : 3 * q + 1 < x.length) : dO (b64L x) (4 * q + 1 + 1 + 1) = x.take (3 * q + 1 + 1) := by
  have b0 := (x.getD (3 * q) 0).toNat_lt
  have b1 := (x.getD (3 * q + 1) 0).toNat_lt
  have b2 := (x.getD (3 * q + 2) 0).toNat_lt
  have hp := pv3 x (3 * q)
  have s0 := b64L_sign x q 0 (by omega) (by omega) (by omega)
  have s1 := b64L_sign x q 1 (by omega) (by omega) (by omega)
  have s2 := b64L_sign x q 2 (by omega) (by omega) (by omega)
  simp only [Nat.reducePow, Nat.reduceMul, Nat.reduceSub, Nat.mul_zero, Nat.sub_zero, Nat.add_zero, Nat.mul_one] at s0 s1 s2
  rw [dO_3 s0 s1 s2 (Nat.mod_lt _ (by decide)) (Nat.mod_lt _ (by decide)) (Nat.mod_lt _ (by decide)), hd, take_more x (3 * q + 1) h, take_more x _ (by omega), List.append_assoc]
  congr 1
  show [_, _] = [_, _]
  rw [byte_back (x.getD (3 * q) 0) _ (by omega), byte_back (x.getD (3 * q + 1) 0) _ (by omega)]
theorem back_three {x : List UInt8} {q : Nat} (hd : dO (b64L x) (4 * q) = x.take (3 * q)) (h : 3 * q + 2 < x.length) : dO (b64L x) (4 * q + 1 + 1 + 1 + 1) = x.take (3 * q + 1 + 1 + 1) := by
  have b0 := (x.getD (3 * q) 0).toNat_lt
  have b1 := (x.getD (3 * q + 1) 0).toNat_lt
  have b2 := (x.getD (3 * q + 1 + 1) 0).toNat_lt
  have hp : pv x (3 * q) 3 = (x.getD (3 * q) 0).toNat * 65536 + (x.getD (3 * q + 1) 0).toNat * 256 + (x.getD (3 * q + 1 + 1) 0).toNat := pv3 x (3 * q)
  have s0 := b64L_sign x q 0 (by omega) (by omega) (by omega)
  have s1 := b64L_sign x q 1 (by omega) (by omega) (by omega)
  have s2 := b64L_sign x q 2 (by omega) (by omega) (by omega)
  have s3 := b64L_sign x q 3 (by omega) (by omega) (by omega)
  simp only [Nat.reducePow, Nat.reduceMul, Nat.reduceSub, Nat.mul_zero, Nat.sub_zero, Nat.add_zero, Nat.mul_one, Nat.div_one] at s0 s1 s2 s3
  rw [dO_4 s0 s1 s2 s3 (Nat.mod_lt _ (by decide)) (Nat.mod_lt _ (by decide)) (Nat.mod_lt _ (by decide)) (Nat.mod_lt _ (by decide)), hd, take_more x (3 * q + 1 + 1) h, take_more x (3 * q + 1) (by omega), take_more x _ (by omega), List.append_assoc, List.append_assoc]
  congr 1
  show [_, _, _] = [_, _, _]
  rw [byte_back (x.getD (3 * q) 0) _ (by omega), byte_back (x.getD (3 * q + 1) 0) _ (by omega), byte_back (x.getD (3 * q + 1 + 1) 0) _ (by omega)]
theorem back_groups (x : List UInt8) : ∀ q, 3 * q ≤ x.length → dO (b64L x) (4 * q) = x.take (3 * q)
  | 0, _ => rfl
  | q + 1, h => by
    have ih := back_groups x q (by omega)
    have := back_three ih (by omega)
    rw [show 4 * (q + 1) = 4 * q + 1 + 1 + 1 + 1 by omega, show 3 * (q + 1) = 3 * q + 1 + 1 + 1 by omega]
    exact this
/-- How many signs PutBase64 writes. -/
def sgn (n : Nat) : Nat := 4 * (n / 3) + (if n % 3 = 0 then 0 else n % 3 + 1)
theorem signs_b64 (x : List UInt8) : signs (b64L x) = sgn x.length := by
  have hlen : (b64L x).length = 4 * ((x.length + 2) / 3) := by unfold b64L; exact b64G_len _ _
  apply signs_at
  · intro j hj
    unfold sgn at hj
    have := b64L_sign x (j / 4) (j % 4) (by split at hj <;> omega) (Nat.mod_lt _ (by decide)) (by split at hj <;> omega)
    rw [show 4 * (j / 4) + j % 4 = j by omega] at this
    rw [this, ix_sg_is _ (Nat.mod_lt _ (by decide))]; omega
  · rw [hlen]; unfold sgn; split <;> omega
  · intro c hc
    obtain ⟨hk, hce⟩ := List.getElem?_eq_some_iff.1 hc
    rw [hlen] at hk
    unfold sgn at hk
    have hg : (b64L x).getD (sgn x.length) 0 = c := by rw [List.getD_eq_getElem?_getD, hc]; rfl
    by_cases h0 : x.length % 3 = 0
    · rw [if_pos h0] at hk; omega
    · have h4 : sgn x.length = 4 * (x.length / 3) + (x.length % 3 + 1) := by unfold sgn; rw [if_neg h0]
      rw [if_neg h0] at hk
      rw [h4] at hg
      unfold b64L at hg
      rw [b64G_at x _ _ _ (by omega) (by omega)] at hg
      have hmm : min 3 (x.length - 3 * (x.length / 3)) = x.length % 3 := by omega
      rw [hmm] at hg
      obtain h1 | h2 : x.length % 3 = 1 ∨ x.length % 3 = 2 := by omega
      · rw [h1] at hg
        have : c = 61 := by rw [← hg]; rfl
        rw [this, ix_pad]; omega
      · rw [h2] at hg
        have : c = 61 := by rw [← hg]; rfl
        rw [this, ix_pad]; omega
/-- What was written is read as it was. -/
theorem dO_back (x : List UInt8) : dO (b64L x) (signs (b64L x)) = x := by
  rw [signs_b64]
  have hg := back_groups x (x.length / 3) (by omega)
  unfold sgn
  split
  · rw [Nat.add_zero, hg, List.take_of_length_le (by omega)]
  · rename_i h
    obtain h1 | h2 : x.length % 3 = 1 ∨ x.length % 3 = 2 := by omega
    · rw [h1, show 4 * (x.length / 3) + (1 + 1) = 4 * (x.length / 3) + 1 + 1 by omega, back_one hg (by omega), List.take_of_length_le (by omega)]
    · rw [h2, show 4 * (x.length / 3) + (2 + 1) = 4 * (x.length / 3) + 1 + 1 + 1 by omega, back_two hg (by omega), List.take_of_length_le (by omega)]
theorem get_put64 (x : List UInt8) : getB (b64L x) = (x, true) := by
  unfold getB; rw [dO_back, if_pos rfl]
theorem b64_not (x : List UInt8) (c : UInt8) (hc : ix c < 0) (hp : c ≠ 61) : ∀ d ∈ b64L x, ¬ d = c := by
  intro d hd e
  subst e
  obtain ⟨D, m, hD, hA⟩ := b64L_pad x
  rw [hD, List.mem_append] at hd
  rcases hd with hd | hd
  · have := hA d hd; omega
  · exact hp (List.eq_of_mem_replicate hd)
end Go.Proofs.YtcfkhfbhmjfhdaaDoor
