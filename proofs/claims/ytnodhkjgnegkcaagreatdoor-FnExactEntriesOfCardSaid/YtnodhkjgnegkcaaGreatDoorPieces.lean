/-
  A piece of a text by its bounds.
-/
import Derived.Test.YtnodhkjgnegkcaaGreatDoorStr
namespace Go.Proofs.YtnodhkjgnegkcaaGreatDoor
open Go.RowKit

theorem piece (s : ByteArray) (st k : Nat) : s.extract st k = ⟨((s.data.toList.take k).drop st).toArray⟩ := by
  apply bytes_ext
  rw [Lib.extract_data, List.drop_take]
theorem slice_from (s r : ByteArray) (a : Nat) (za : Int) (ha : za = (a : Int)) (h1 : a ≤ s.size) (hr : s.extract a s.size = r) (w : World) :
    (Instr.slice 9 (.string s) (some (.int .i64 za)) none none).run Tryz.prog w = .ok (.string r) w := by
  subst ha hr
  have h0 : (0 : Int) ≤ (a : Int) := by omega
  have h2 : (a : Int) ≤ (s.size : Int) := by omega
  have h := run_slice_string_l (P := Tryz.prog) w 9 s Tryz.underlying9 .i64 (a : Int) h0 h2
  simpa using h
theorem piece_end (s : ByteArray) (st : Nat) : s.extract st s.size = ⟨(s.data.toList.drop st).toArray⟩ := by
  apply bytes_ext
  rw [Lib.extract_data, List.take_of_length_le (by simp)]
end Go.Proofs.YtnodhkjgnegkcaaGreatDoor
