/-
  Pieces and sums of strings.
-/
import Derived.Test.YtnodhkjgnegkcaaGreatDoorRows
import Derived.Test.YtnodhkjgnegkcaaGreatDoorBase
import Derived.Lib.Strings
import Derived.Laws.DeepStrings4
namespace Go.Proofs.YtnodhkjgnegkcaaGreatDoor
open Go.RowKit

theorem str_add (a b : List UInt8) : Value.string (⟨a.toArray⟩ ++ ⟨b.toArray⟩) = .string ⟨(a ++ b).toArray⟩ := by rw [ByteArray.mk_append_mk]
theorem str_cons (x : UInt8) (b : List UInt8) : Value.string (⟨#[x]⟩ ++ ⟨b.toArray⟩) = .string ⟨(x :: b).toArray⟩ := str_add [x] b
theorem bytes_ext {a b : ByteArray} (h : a.data.toList = b.data.toList) : a = b := Go.WideShapes.bytes_inj h
theorem extract_one (s : ByteArray) (k : Nat) (h : k < s.size) : s.extract k (k + 1) = ⟨#[s[k]]⟩ := by
  apply bytes_ext
  rw [Lib.extract_data, drop_cons s k h, show k + 1 - k = 1 from by omega]; simp
theorem extract_two (s : ByteArray) (k : Nat) (h : k + 2 < s.size) : s.extract (k + 1) (k + 3) = ⟨#[s[k + 1], s[k + 2]]⟩ := by
  apply bytes_ext
  rw [Lib.extract_data, drop_cons s (k + 1) (by omega), drop_cons s (k + 2) h, show k + 3 - (k + 1) = 2 from by omega]; simp
theorem slice_str (s r : ByteArray) (a b : Nat) (za zb : Int) (ha : za = (a : Int)) (hb : zb = (b : Int)) (h1 : a ≤ b) (h2 : b ≤ s.size) (hr : s.extract a b = r) (w : World) :
    (Instr.slice 9 (.string s) (some (.int .i64 za)) (some (.int .i64 zb)) none).run Tryz.prog w = .ok (.string r) w := by
  subst ha hb hr
  rw [run_slice_string_if (h := Tryz.underlying9), if_pos (by omega), if_pos (by omega)]
  simp
end Go.Proofs.YtnodhkjgnegkcaaGreatDoor
