/-
  internal/stringslite.IndexByte and spec.l01At both return the first place of a byte in a string, or -1.
-/
import Derived.Test.YtnodhkjgnegkcaaGreatDoorRows
import Derived.Test.YtnodhkjgnegkcaaGreatDoorBase
import Derived.Lib.Bytealg
import Derived.Lib.Walk
namespace Go.Proofs.YtnodhkjgnegkcaaGreatDoor
open Go.RowKit

theorem idx_ge (l : List UInt8) (c : UInt8) : -1 ≤ Lib.indexByte l c := Lib.indexByte_ge l c
theorem idx_lt (l : List UInt8) (c : UInt8) : Lib.indexByte l c < l.length := by
  induction l with
  | nil => simp [Lib.indexByte]
  | cons b l ih =>
    unfold Lib.indexByte
    split
    · simp
    · split
      · simp; omega
      · simp; omega
theorem idx_hit {b c : UInt8} (l : List UInt8) (h : b = c) : Lib.indexByte (b :: l) c = 0 := by simp [Lib.indexByte, h]
theorem idx_miss {b c : UInt8} (l : List UInt8) (h : ¬ b = c) : Lib.indexByte (b :: l) c = if Lib.indexByte l c = -1 then -1 else Lib.indexByte l c + 1 := by simp [Lib.indexByte, h]

/-- What a search that has come to place k without a hit knows. -/
def AtK (l : List UInt8) (c : UInt8) (k : Nat) : Prop := Lib.indexByte l c = if Lib.indexByte (l.drop k) c = -1 then -1 else Lib.indexByte (l.drop k) c + k
theorem atK_zero (l : List UInt8) (c : UInt8) : AtK l c 0 := by unfold AtK; by_cases h : Lib.indexByte l c = -1 <;> simp [h]
theorem atK_miss {s : ByteArray} {c : UInt8} {k : Nat} (h : AtK s.data.toList c k) (hk : k < s.size) (hb : ¬ s[k] = c) : AtK s.data.toList c (k + 1) := by
  unfold AtK at h ⊢
  rw [h, drop_cons s k hk, idx_miss _ hb]
  have := idx_ge (s.data.toList.drop (k + 1)) c
  by_cases h1 : Lib.indexByte (s.data.toList.drop (k + 1)) c = -1
  · rw [if_pos h1]; simp [h1]
  · rw [if_neg h1, if_neg (by omega), if_neg h1]; omega
theorem atK_hit {s : ByteArray} {c : UInt8} {k : Nat} (h : AtK s.data.toList c k) (hk : k < s.size) (hb : s[k] = c) : Lib.indexByte s.data.toList c = k := by
  unfold AtK at h
  rw [h, drop_cons s k hk, idx_hit _ hb]; simp
theorem atK_end {s : ByteArray} {c : UInt8} {k : Nat} (h : AtK s.data.toList c k) (hk : ¬ k < s.size) : Lib.indexByte s.data.toList c = -1 := by
  unfold AtK at h
  rw [h, drop_end s k hk]; simp [Lib.indexByte]

set_option maxHeartbeats 1000000 in
set_option maxRecDepth 100000 in
theorem sliteIndexByte_any (s : ByteArray) (c : Int) (w : World) :
    Calls Tryz.prog 268 #[.string s, .int .u8 c] w fun e w' => e = .returned (.int .i64 (Lib.indexByte s.data.toList c.toNat.toUInt8)) ∧ w = w' := by
  go_enter Tryz.func268, Tryz.ntmps268
  go_wp2
  rw [run_callFunc_extern Tryz.func290 (by kernel_rfl) (by kernel_rfl) (by kernel_rfl) (e := Extern.BytealgIndexByte.indexByte) (by kernel_rfl), Lib.run_indexByteString]
  simp only [Result.andThen]
  rw [Oper.upon_value]
  go_wp2
  go_ret
  exact ⟨rfl, rfl⟩

set_option maxHeartbeats 400000 in
theorem l01At_any (s : ByteArray) (c : UInt8) (w : World) (hs : s.size ≤ maxLen) :
    Calls Tryz.prog 140 #[.string s, .int .u8 (c.toNat : Int)] w fun e w' => e = .returned (.int .i64 (Lib.indexByte s.data.toList c)) ∧ w = w' := by
  unfold maxLen at hs
  go_enter Tryz.func140, Tryz.ntmps140
  go_wp2
  go_loop [5] (fun n => ∃ k : Nat, k ≤ s.size ∧ n = .int .i64 k ∧ AtK s.data.toList c k) (fun n => s.size - (intOf n).toNat)
  case atStart => exact ⟨0, Nat.zero_le _, rfl, atK_zero _ _⟩
  case round =>
    obtain ⟨k, hk, rfl, H⟩ := hrel
    by_cases hlt : k < s.size
    · by_cases hc : s[k] = c
      · have hb : ((s[k].toNat : Int) == (c.toNat : Int)) = true := by rw [hc]; simp
        have HH := Lib.hid (atK_hit H hlt hc)
        clear hc H
        go_wp2
        go_ret
        exact ⟨ret_int HH.out.symm, rfl⟩
      · have hb : ((s[k].toNat : Int) == (c.toNat : Int)) = false := int_beq_false (fun h => hc (UInt8.toNat_inj.1 (by omega)))
        have HH := Lib.hid (atK_miss H hlt hc)
        clear hc H
        go_wp2
        go_round
        case rel => exact ⟨k + 1, by omega, by go_num, HH.out⟩
        case measure => simp [intOf]; omega
    · have HH := Lib.hid (atK_end H hlt)
      clear H
      go_wp2
      go_ret
      exact ⟨ret_int HH.out.symm, rfl⟩
end Go.Proofs.YtnodhkjgnegkcaaGreatDoor
