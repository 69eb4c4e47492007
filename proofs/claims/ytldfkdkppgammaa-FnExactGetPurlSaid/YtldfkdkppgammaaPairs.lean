/-
  impl.hexAt, spec.l01Pairs and spec.GetHex: the bytes of pairs of digits, and whether a text is made of such pairs.
-/
import Derived.Test.YtldfkdkppgammaaBytes
import Derived.Test.YtldfkdkppgammaaIndex
import Derived.Deep.QuietTactic
import Derived.BigQuiet
namespace Go.Proofs.Ytldfkdkppgammaa
open Go.RowKit

/-- The byte of two digits of D. -/
def pairV (D : List UInt8) (a b : UInt8) : Option UInt8 :=
  if Lib.indexByte D a < 0 ∨ Lib.indexByte D b < 0 then none else some (UInt8.ofNat (16 * (Lib.indexByte D a).toNat + (Lib.indexByte D b).toNat))
def pairsL (D : List UInt8) : List UInt8 → Option (List UInt8)
  | [] => some []
  | [_] => none
  | a :: b :: l => match pairV D a b with
    | none => none
    | some c => (pairsL D l).map (c :: ·)

/-- hexAt's answer at place i of s. -/
def hexAtV (D s : List UInt8) (i : Nat) : Option UInt8 := match s.drop i with
  | a :: b :: _ => pairV D a b
  | _ => none
def optByte : Option UInt8 → Value
  | none => .tuple #[.int .u8 0, .bool false]
  | some c => .tuple #[.int .u8 (c.toNat : Int), .bool true]

theorem or_pair : ∀ a : Nat, a < 16 → ∀ b : Nat, b < 16 → bits .or .i64 ((a : Int) * 16) (b : Int) = (a : Int) * 16 + b := by decide +kernel
theorem or_close (xa xb : Int) (a0 : 0 ≤ xa) (a1 : xa < 16) (b0 : 0 ≤ xb) (b1 : xb < 16) : bits .or .i64 (xa * 16) xb % 256 = ((UInt8.ofNat (16 * xa.toNat + xb.toNat)).toNat : Int) := by
  obtain ⟨a, rfl⟩ := Int.eq_ofNat_of_zero_le a0
  obtain ⟨b, rfl⟩ := Int.eq_ofNat_of_zero_le b0
  rw [or_pair a (by omega) b (by omega)]
  simp
  omega
theorem add_close (xa xb : Int) (a0 : 0 ≤ xa) (a1 : xa < 16) (b0 : 0 ≤ xb) (b1 : xb < 16) : 16 * xa + xb = ((UInt8.ofNat (16 * xa.toNat + xb.toNat)).toNat : Int) := by
  obtain ⟨a, rfl⟩ := Int.eq_ofNat_of_zero_le a0
  obtain ⟨b, rfl⟩ := Int.eq_ofNat_of_zero_le b0
  simp
  omega
theorem hexAtV_short (D : List UInt8) (s : ByteArray) (i : Nat) (h : s.size < i + 2) : hexAtV D s.data.toList i = none := by
  unfold hexAtV
  have hl : (s.data.toList.drop i).length < 2 := by simp; omega
  match hd : s.data.toList.drop i with
  | [] => rfl
  | [_] => rfl
  | a :: b :: l => rw [hd] at hl; simp at hl; omega
theorem hexAtV_at (D : List UInt8) (s : ByteArray) (i : Nat) (h : i + 1 < s.size) : hexAtV D s.data.toList i = pairV D s[i] s[i + 1] := by
  unfold hexAtV
  rw [drop_cons s i (by omega), drop_cons s (i + 1) h]

set_option maxHeartbeats 1000000 in
theorem hexAt_any (s D : ByteArray) (i : Nat) (w : World) (hs : s.size ≤ 1048576) (hi : i ≤ s.size) (hD : D.size = 16) :
    Calls Try.prog 115 #[.string s, .int .i64 (i : Int), .string D] w fun e w' => e = .returned (optByte (hexAtV D.data.toList s.data.toList i)) ∧ w = w' := by
  by_cases h2 : s.size < i + 2
  · rw [hexAtV_short _ s i h2]
    have h3 : (s.size : Int) - (i : Int) < 2 := by omega
    go_enter Try.func115, Try.ntmps115
    go_wp2
    go_ret2
    exact ⟨rfl, rfl⟩
  · have h3 : ¬ (s.size : Int) - (i : Int) < 2 := by omega
    have h4 : i + 1 < s.size := by omega
    have h5 : i < s.size := by omega
    rw [hexAtV_at _ s i h4]
    obtain ⟨xa, hxa⟩ : ∃ x, x = Lib.indexByte D.data.toList s[i] := ⟨_, rfl⟩
    obtain ⟨xb, hxb⟩ : ∃ x, x = Lib.indexByte D.data.toList s[i + 1] := ⟨_, rfl⟩
    have a1 := idx_ge D.data.toList s[i]
    have a2 := idx_lt D.data.toList s[i]
    have b1 := idx_ge D.data.toList s[i + 1]
    have b2 := idx_lt D.data.toList s[i + 1]
    rw [← hxa] at a1 a2
    rw [← hxb] at b1 b2
    have hDl : D.data.toList.length = 16 := by simpa using hD
    rw [hDl] at a2 b2
    have HP : Hid (pairV D.data.toList s[i] s[i + 1] = if xa < 0 ∨ xb < 0 then none else some (UInt8.ofNat (16 * xa.toNat + xb.toNat))) := Lib.hid (by unfold pairV; rw [← hxa, ← hxb])
    have HA := Lib.hid hxa
    have HB := Lib.hid hxb
    clear hxa hxb hDl hD
    go_enter Try.func115, Try.ntmps115
    go_wp2_with fail
    refine (indexByte_any D s[i] _).mono ?_
    rintro e w' ⟨rfl, rfl⟩
    rw [← HA.out]
    go_wp2_with fail
    refine (indexByte_any D s[i + 1] _).mono ?_
    rintro e w' ⟨rfl, rfl⟩
    rw [← HB.out]
    by_cases ha : xa < 0
    · go_wp2
      go_ret2
      refine ⟨?_, rfl⟩
      rw [HP.out, if_pos (.inl ha)]; rfl
    · by_cases hb : xb < 0
      · go_wp2
        go_ret2
        refine ⟨?_, rfl⟩
        rw [HP.out, if_pos (.inr hb)]; rfl
      · have HO := Lib.hid (or_close xa xb (by omega) a2 (by omega) b2)
        go_wp2
        go_ret2
        refine ⟨?_, rfl⟩
        rw [HP.out, if_neg (by omega)]
        show Ending.returned (Value.tuple #[Value.int .u8 (bits .or .i64 (xa * 16) xb % 256), .bool true]) = _
        rw [HO.out]; rfl

/-- What pairs are known when the first i bytes are read and have given out. -/
def PairsAt (D l : List UInt8) (i : Nat) (out : List UInt8) : Prop := pairsL D l = (pairsL D (l.drop i)).map (out ++ ·) ∧ out.length ≤ i
theorem pairsAt_zero (D l : List UInt8) : PairsAt D l 0 [] := by
  unfold PairsAt; simp
theorem pairsAt_step {D : List UInt8} {s : ByteArray} {i : Nat} {out : List UInt8} {c : UInt8} (h : PairsAt D s.data.toList i out) (hi : i + 1 < s.size) (hc : pairV D s[i] s[i + 1] = some c) : PairsAt D s.data.toList (i + 2) (out ++ [c]) := by
  refine ⟨?_, by have := h.2; simp; omega⟩
  rw [h.1, drop_cons s i (by omega), drop_cons s (i + 1) hi]
  simp only [pairsL, hc, Option.map_map]
  congr 1
  funext x; simp
theorem pairsAt_bad {D : List UInt8} {s : ByteArray} {i : Nat} {out : List UInt8} (h : PairsAt D s.data.toList i out) (hi : i + 1 < s.size) (hc : pairV D s[i] s[i + 1] = none) : pairsL D s.data.toList = none := by
  rw [h.1, drop_cons s i (by omega), drop_cons s (i + 1) hi]
  simp [pairsL, hc]
theorem pairsAt_odd {D : List UInt8} {s : ByteArray} {i : Nat} {out : List UInt8} (h : PairsAt D s.data.toList i out) (hi : i + 1 = s.size) : pairsL D s.data.toList = none := by
  rw [h.1, drop_cons s i (by omega), drop_end s (i + 1) (by omega)]
  simp [pairsL]
theorem pairsAt_end {D : List UInt8} {s : ByteArray} {i : Nat} {out : List UInt8} (h : PairsAt D s.data.toList i out) (hi : ¬ i < s.size) : pairsL D s.data.toList = some out := by
  rw [h.1, drop_end s i hi]
  simp [pairsL]
def optText : Option (List UInt8) → Value
  | none => .tuple #[.string ⟨#[]⟩, .bool false]
  | some l => .tuple #[.string ⟨l.toArray⟩, .bool true]
def lowerD : ByteArray := ⟨#[48, 49, 50, 51, 52, 53, 54, 55, 56, 57, 97, 98, 99, 100, 101, 102]⟩
def lowerL : List UInt8 := [48, 49, 50, 51, 52, 53, 54, 55, 56, 57, 97, 98, 99, 100, 101, 102]

/-- l01Pairs' answer: where the pairs are right, their bytes and true; else some text and false. -/
def PairsEnd (r : Option (List UInt8)) (w : World) (e : Ending) (w' : World) : Prop :=
  (∃ x : ByteArray, e = .returned (.tuple #[.string x, .bool r.isSome]) ∧ ∀ l, r = some l → x = ⟨l.toArray⟩) ∧ Below w.heap.size w w'

set_option maxRecDepth 100000 in
set_option maxHeartbeats 2000000 in
theorem l01Pairs_any (s D : ByteArray) (w : World) (hs : s.size ≤ 1048576) (hD : D.size = 16) :
    Calls Try.prog 84 #[.string s, .string D] w (PairsEnd (pairsL D.data.toList s.data.toList) w) := by
  have hDm : D.size ≤ maxLen := by unfold maxLen; omega
  go_enter Try.func84, Try.ntmps84
  go_wp2
  go_loopw [6, 7, 8, 9] (fun v n _ _ wr => ∃ (k : Nat) (out : List UInt8), k ≤ s.size ∧ n = .int .i64 k ∧ Buf wr w.heap.size v out ∧ Below w.heap.size w wr ∧ PairsAt D.data.toList s.data.toList k out ∧ k % 2 = 0) (fun _ n _ _ _ => s.size - (intOf n).toNat)
  case atStart => exact ⟨0, [], Nat.zero_le _, rfl, Buf.empty w _ (Nat.le_refl _), (Below.refl _ _).alloc (Nat.le_refl _) _, pairsAt_zero _ _, rfl⟩
  case round =>
    obtain ⟨k, out, hk, rfl, hown, hb, HP, hk2⟩ := hrel
    have HK := Lib.hid hk2
    clear hk2
    by_cases h1 : k + 1 < s.size
    · have hlt : k < s.size := by omega
      obtain ⟨xa, hxa⟩ : ∃ x, x = Lib.indexByte D.data.toList s[k] := ⟨_, rfl⟩
      obtain ⟨xb, hxb⟩ : ∃ x, x = Lib.indexByte D.data.toList s[k + 1] := ⟨_, rfl⟩
      have a1 := idx_ge D.data.toList s[k]
      have a2 := idx_lt D.data.toList s[k]
      have b1 := idx_ge D.data.toList s[k + 1]
      have b2 := idx_lt D.data.toList s[k + 1]
      have hDl : D.data.toList.length = 16 := by simpa using hD
      rw [← hxa, hDl] at a2
      rw [← hxa] at a1
      rw [← hxb, hDl] at b2
      rw [← hxb] at b1
      have HV : Hid (pairV D.data.toList s[k] s[k + 1] = if xa < 0 ∨ xb < 0 then none else some (UInt8.ofNat (16 * xa.toNat + xb.toNat))) := Lib.hid (by unfold pairV; rw [← hxa, ← hxb])
      have HA := Lib.hid hxa
      have HB := Lib.hid hxb
      have HQ : Hid (∀ c W, Calls Try.prog 103 #[.string D, .int .u8 (c.toNat : Int)] W fun e w' => e = .returned (.int .i64 (Lib.indexByte D.data.toList c)) ∧ w' = W) := Lib.hid (fun c W => (l01At_any D c W hDm).mono fun e w' h => ⟨h.1, h.2.symm⟩)
      clear hxa hxb hDl
      have k0 : (0 : Int) ≤ (k : Int) := by omega
      have k1 : (k : Int) < (s.size : Int) := by omega
      have k2 : (k : Int) + 1 < (s.size : Int) := by omega
      have q1 : IntKind.i64.wrap ((k : Int) + 1) = (k : Int) + 1 := IntWalk.i64_in _ (by omega)
      have q2 : (0 : Int) ≤ (k : Int) + 1 := by omega
      have q3 : ((k : Int) + 1).toNat = k + 1 := by omega
      go_wp2_with fail
      go_quiet ((go_at_call 103; exact Calls.quiet_of_same (HQ.out _ _)))
      clear q1
      rw [← HA.out, ← HB.out]
      have hown' : Buf (wr.drewN nq) w.heap.size _ out := hown
      have hb' : Below w.heap.size w (wr.drewN nq) := ⟨hb.os, hb.tape, hb.output, hb.size, hb.block⟩
      generalize wr.drewN nq = wq at hown' hb' ⊢
      clear hown hb
      by_cases ha : xa < 0
      · have HN := Lib.hid (pairsAt_bad HP h1 (by rw [HV.out, if_pos (.inl ha)]))
        clear HP
        go_wp2
        go_ret2
        exact ⟨⟨⟨#[]⟩, by rw [HN.out]; rfl, by rw [HN.out]; simp⟩, hb'⟩
      · by_cases hbn : xb < 0
        · have HN := Lib.hid (pairsAt_bad HP h1 (by rw [HV.out, if_pos (.inr hbn)]))
          clear HP
          go_wp2
          go_ret2
          exact ⟨⟨⟨#[]⟩, by rw [HN.out]; rfl, by rw [HN.out]; simp⟩, hb'⟩
        · have HN := Lib.hid (pairsAt_step HP h1 (by rw [HV.out, if_neg (by omega)]))
          have HL := Lib.hid HP.2
          have HO := Lib.hid (add_close xa xb (by omega) a2 (by omega) b2)
          clear HP
          go_wp2_with (at_builtin; refine wpList_append_buf rfl _ _ rfl w.heap.size _ _ rfl (hown'.alloc _) [UInt8.ofNat (16 * xa.toNat + xb.toNat)] wq.heap.size _ _ _ _ _ rfl rfl (heap_alloc_new wq _) (by rw [List.map_cons, List.map_nil, bv, ← HO.out]) (by simp) (by have := HL.out; simp; omega) (by simp; exact Nat.le_succ_of_le hb'.size) ?_; intro v' w2 hown2 hb2)
          have HB2 := hb'.trans (((Below.refl w.heap.size wq).alloc hb'.size _).trans hb2)
          go_wp2
          go_roundw
          case rel => exact ⟨k + 2, _, by omega, by go_num, hown2, HB2, HN.out, by have := HK.out; omega⟩
          case measure => simp [intOf]; omega
    · have hcv := hown.conv
      by_cases hlt : k < s.size
      · have HN := Lib.hid (pairsAt_odd HP (by omega))
        have hm : (s.size : Int) % 2 = 1 := by have := HK.out; omega
        clear HP
        go_wp2
        go_ret2
        exact ⟨⟨_, by rw [HN.out]; rfl, by rw [HN.out]; simp⟩, hb⟩
      · have HN := Lib.hid (pairsAt_end HP hlt)
        have hm : (s.size : Int) % 2 = 0 := by have := HK.out; omega
        clear HP
        go_wp2
        go_ret2
        exact ⟨⟨_, by rw [HN.out]; rfl, by rw [HN.out]; simp⟩, hb⟩

theorem specGetHex_any (s : ByteArray) (w : World) (hs : s.size ≤ 1048576) :
    Calls Try.prog 46 #[.string s] w fun e w' => e = .returned (optText (pairsL lowerL s.data.toList)) ∧ Below w.heap.size w w' := by
  have hc := l01Pairs_any s lowerD w hs rfl
  have hD : lowerD.data.toList = lowerL := rfl
  rw [hD] at hc
  cases hr : pairsL lowerL s.data.toList with
  | none =>
    rw [hr] at hc
    have HC := Lib.hid hc
    clear hc hr hD
    go_enter Try.func46, Try.ntmps46
    go_wp2_with fail
    refine HC.out.mono ?_
    rintro e w' ⟨⟨x, rfl, _⟩, hb⟩
    go_wp2
    go_ret2
    exact ⟨rfl, hb⟩
  | some l =>
    rw [hr] at hc
    have HC := Lib.hid hc
    clear hc hr hD
    go_enter Try.func46, Try.ntmps46
    go_wp2_with fail
    refine HC.out.mono ?_
    rintro e w' ⟨⟨x, rfl, hx⟩, hb⟩
    obtain rfl := hx l rfl
    go_wp2
    go_ret2
    exact ⟨rfl, hb⟩
end Go.Proofs.Ytldfkdkppgammaa
