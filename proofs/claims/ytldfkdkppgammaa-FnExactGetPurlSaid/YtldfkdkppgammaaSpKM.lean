/-
  The last place of a byte in a text; spec.SplitKey.
-/
import Derived.Test.YtldfkdkppgammaaRows
import Derived.Test.YtldfkdkppgammaaBase
import Derived.Test.YtldfkdkppgammaaPieces
import Derived.Test.YtldfkdkppgammaaRdL
namespace Go.Proofs.Ytldfkdkppgammaa
open Go.RowKit

/-- The last place of c among the first k bytes of l, or -1. -/
def lastK (l : List UInt8) (c : UInt8) : Nat → Int
  | 0 => -1
  | k + 1 => if l.getD k 0 = c then (k : Int) else lastK l c k
theorem lastK_bd (l : List UInt8) (c : UInt8) : ∀ k, -1 ≤ lastK l c k ∧ lastK l c k < k
  | 0 => by simp [lastK]
  | k + 1 => by
    have := lastK_bd l c k
    unfold lastK
    split <;> omega
theorem lastK_take (l : List UInt8) (c : UInt8) (n : Nat) : ∀ k, k ≤ n → k ≤ l.length → lastK (l.take n) c k = lastK l c k
  | 0, _, _ => rfl
  | k + 1, h, hl => by
    unfold lastK
    rw [lastK_take l c n k (by omega) (by omega)]
    have : (l.take n).getD k 0 = l.getD k 0 := by simp [List.getD_eq_getElem?_getD, List.getElem?_take_of_lt (show k < n by omega)]
    rw [this]
theorem getD_byte (s : ByteArray) (k : Nat) (h : k < s.size) : s.data.toList.getD k 0 = s[k] := by
  rw [List.getD_eq_getElem?_getD, List.getElem?_eq_getElem (by simpa using h)]; rfl
theorem lastK_hit {s : ByteArray} {c : UInt8} {k : Nat} (h : k < s.size) (hc : s[k] = c) : lastK s.data.toList c (k + 1) = k := by
  unfold lastK; rw [getD_byte s k h, if_pos hc]
theorem lastK_miss {s : ByteArray} {c : UInt8} {k : Nat} (h : k < s.size) (hc : ¬ s[k] = c) : lastK s.data.toList c (k + 1) = lastK s.data.toList c k := by
  conv => lhs; unfold lastK
  rw [getD_byte s k h, if_neg hc]

/-- The two parts of a key. -/
def keyA (s : ByteArray) : ByteArray := if lastK s.data.toList 64 s.size < 0 then ⟨#[]⟩ else s.extract 0 (lastK s.data.toList 64 s.size).toNat
def keyB (s : ByteArray) : ByteArray := if lastK s.data.toList 64 s.size < 0 then ⟨#[]⟩ else s.extract ((lastK s.data.toList 64 s.size).toNat + 1) s.size
theorem slice_upto (s r : ByteArray) (b : Nat) (zb : Int) (hb : zb = (b : Int)) (h2 : b ≤ s.size) (hr : s.extract 0 b = r) (w : World) :
    (Instr.slice 9 (.string s) none (some (.int .i64 zb)) none).run Try.prog w = .ok (.string r) w := by
  subst hb hr
  have h0 : (0 : Int) ≤ (b : Int) := by omega
  have h3 : (b : Int) ≤ (s.size : Int) := by omega
  have h := run_slice_string_h (P := Try.prog) w 9 s Try.underlying9 .i64 (b : Int) h0 h3
  simpa using h
theorem keyA_hit {s : ByteArray} {k : Nat} (h : lastK s.data.toList 64 s.size = (k : Int)) : keyA s = s.extract 0 k := by unfold keyA; rw [h, if_neg (by omega)]; rfl
theorem keyB_hit {s : ByteArray} {k : Nat} (h : lastK s.data.toList 64 s.size = (k : Int)) : keyB s = s.extract (k + 1) s.size := by unfold keyB; rw [h, if_neg (by omega)]; rfl
theorem keyA_miss {s : ByteArray} (h : lastK s.data.toList 64 s.size < 0) : keyA s = ⟨#[]⟩ := by unfold keyA; rw [if_pos h]
theorem keyB_miss {s : ByteArray} (h : lastK s.data.toList 64 s.size < 0) : keyB s = ⟨#[]⟩ := by unfold keyB; rw [if_pos h]

set_option maxRecDepth 100000 in
set_option maxHeartbeats 1000000 in
theorem specSplitKey_any (s : ByteArray) (w : World) (hs : s.size ≤ 1048576) :
    Calls Try.prog 79 #[.string s] w fun e w' => e = .returned (.tuple #[.string (keyA s), .string (keyB s)]) ∧ Below w.heap.size w w' := by
  obtain ⟨x, HA⟩ : ∃ x, Hid (keyA s = x) := ⟨_, Lib.hid rfl⟩
  obtain ⟨y, HB⟩ : ∃ y, Hid (keyB s = y) := ⟨_, Lib.hid rfl⟩
  rw [HA.out, HB.out]
  go_enter Try.func79, Try.ntmps79
  go_wp2
  go_loop [4] (fun n => ∃ k : Nat, k ≤ s.size ∧ n = .int .i64 ((k : Int) - 1) ∧ Hid (lastK s.data.toList 64 s.size = lastK s.data.toList 64 k)) (fun n => (intOf n + 1).toNat)
  case atStart => exact ⟨s.size, Nat.le_refl _, rfl, Lib.hid rfl⟩
  case round =>
    obtain ⟨k, hk, rfl, H⟩ := hrel
    rcases k with _ | k
    · have HX : Hid (⟨#[]⟩ = x ∧ ⟨#[]⟩ = y) := Lib.hid ⟨by rw [← HA.out]; exact (keyA_miss (by rw [H.out]; show (-1 : Int) < 0; omega)).symm, by rw [← HB.out]; exact (keyB_miss (by rw [H.out]; show (-1 : Int) < 0; omega)).symm⟩
      obtain ⟨rfl, rfl⟩ := HX.out
      go_wp2
      go_ret2
      exact ⟨rfl, Below.refl _ _⟩
    · have hlt : k < s.size := by omega
      rw [show ((k + 1 : Nat) : Int) - 1 = (k : Int) from by omega]
      by_cases hc : s[k] = 64
      · have hb : ((s[k].toNat : Int) == 64) = true := by rw [hc]; rfl
        have hh : lastK s.data.toList 64 s.size = (k : Int) := by rw [H.out, lastK_hit hlt hc]
        have HX : Hid (s.extract 0 k = x ∧ s.extract (k + 1) s.size = y) := Lib.hid ⟨by rw [← HA.out]; exact (keyA_hit hh).symm, by rw [← HB.out]; exact (keyB_hit hh).symm⟩
        obtain ⟨rfl, rfl⟩ := HX.out
        have s1 := fun W => slice_upto s (s.extract 0 k) k (k : Int) rfl (by omega) rfl W
        have s2 := fun W => slice_from s (s.extract (k + 1) s.size) (k + 1) ((k : Int) + 1) (by omega) (by omega) rfl W
        have k0 : (0 : Int) ≤ (k : Int) := by omega
        have k1 : (k : Int) < (s.size : Int) := by omega
        have kw : IntKind.i64.wrap ((k : Int) + 1) = (k : Int) + 1 := IntWalk.i64_in _ (by omega)
        clear hc H hh HX
        go_wp2
        go_region
        go_wp2
        go_ret2
        exact ⟨rfl, below_drewN _ _ 1⟩
      · have hb : ((s[k].toNat : Int) == 64) = false := int_beq_false (fun h => hc (UInt8.toNat_inj.1 (by show s[k].toNat = 64; omega)))
        have HH : Hid (lastK s.data.toList 64 s.size = lastK s.data.toList 64 k) := Lib.hid (by rw [H.out, lastK_miss hlt hc])
        clear hc H
        go_wp2
        go_round
        case rel => exact ⟨k, by omega, rfl, HH⟩
        case measure => simp [intOf]; try omega
end Go.Proofs.Ytldfkdkppgammaa
