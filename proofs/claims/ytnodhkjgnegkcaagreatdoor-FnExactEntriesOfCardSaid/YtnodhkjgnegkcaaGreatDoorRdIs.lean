/-
  What ReadVersion hands back for a text.
-/
import Derived.Test.YtnodhkjgnegkcaaGreatDoorRdM
import Derived.Test.YtnodhkjgnegkcaaGreatDoorHeap
import Derived.Test.YtnodhkjgnegkcaaGreatDoorPieces
namespace Go.Proofs.YtnodhkjgnegkcaaGreatDoor
open Go.RowKit

def readOk (l : List UInt8) : Bool := match partsL l with
  | [p0, p1, p2] => verOk (readL p0) (readL p1) (readL p2) (tailL l)
  | _ => false
def readA (l : List UInt8) (i : Nat) : Int := if readOk l = true then readL ((partsL l).getD i []) else 0
def readP (l : List UInt8) : List (List UInt8) := if readOk l = true then tailL l else []
theorem readOk_bad {l : List UInt8} (h : (partsL l).length ≠ 3) : readOk l = false := by
  unfold readOk
  split
  · rename_i e; rw [e] at h; simp at h
  · rfl
theorem readOk_of {l p0 p1 p2 : List UInt8} (h : partsL l = [p0, p1, p2]) : readOk l = verOk (readL p0) (readL p1) (readL p2) (tailL l) := by unfold readOk; rw [h]
def ReadIs (w : World) (l : List UInt8) (e : Ending) (w' : World) : Prop := ∃ u, e = .returned (.tuple #[.agg #[.int .i64 (readA l 0), .int .i64 (readA l 1), .int .i64 (readA l 2), u], .bool (readOk l)]) ∧ Strs w' w.heap.size u (readP l) ∧ Below w.heap.size w w'
theorem readIs_bad {w w' : World} {l : List UInt8} (h : readOk l = false) (hb : Below w.heap.size w w') : ReadIs w l (.returned (.tuple #[.agg #[.int .i64 0, .int .i64 0, .int .i64 0, .slice none 0 0], .bool false])) w' :=
  ⟨.slice none 0 0, by simp [readA, h], by simp [readP, h]; exact Strs.nil _ _, hb⟩
theorem readIs_good {w w' : World} {l p0 p1 p2 : List UInt8} {u : Value} (hp : partsL l = [p0, p1, p2]) (h : readOk l = true) (hS : Strs w' w.heap.size u (tailL l)) (hb : Below w.heap.size w w') : ReadIs w l (.returned (.tuple #[.agg #[.int .i64 (readL p0), .int .i64 (readL p1), .int .i64 (readL p2), u], .bool true])) w' :=
  ⟨u, by simp [readA, h, hp], by simp [readP, h]; exact hS, hb⟩
theorem readP_sm (l : List UInt8) : (readP l).length ≤ 5 := by
  unfold readP
  split
  · rename_i h
    unfold readOk at h
    split at h
    · exact (verOk_bd h).2.2.2
    · cases h
  · simp

theorem slice_to (s r : ByteArray) (b : Nat) (zb : Int) (hb : zb = (b : Int)) (h2 : b ≤ s.size) (hr : s.extract 0 b = r) (w : World) :
    (Instr.slice 9 (.string s) none (some (.int .i64 zb)) none).run Tryz.prog w = .ok (.string r) w := by
  subst hb hr
  have h0 : (0 : Int) ≤ (b : Int) := by omega
  have h3 : (b : Int) ≤ (s.size : Int) := by omega
  have h := run_slice_string_h (P := Tryz.prog) w 9 s Tryz.underlying9 .i64 (b : Int) h0 h3
  simpa using h
theorem headL_yes {l : List UInt8} (h : 0 ≤ dash l) : headL l = l.take (dash l).toNat := if_pos h
theorem headL_no {l : List UInt8} (h : ¬ 0 ≤ dash l) : headL l = l := if_neg h
theorem tailL_yes {l : List UInt8} (h : 0 ≤ dash l) : tailL l = cutL 46 (l.drop ((dash l).toNat + 1)) := if_pos h
theorem tailL_no {l : List UInt8} (h : ¬ 0 ≤ dash l) : tailL l = [] := if_neg h
theorem headL_le (l : List UInt8) : (headL l).length ≤ l.length := by unfold headL; split <;> simp <;> omega
theorem tail_sm {l : List UInt8} (h : l.length ≤ 1048576) : Sm (tailL l) := by
  unfold tailL
  split
  · have hd : dash l < l.length := idx_lt l 45
    refine ⟨?_, fun x hx => ?_⟩
    · have := cutL_len_le 46 (l.drop ((dash l).toNat + 1)); simp at this; omega
    · have := cutL_mem_le 46 _ x hx; simp at this; omega
  · exact sm_nil
end Go.Proofs.YtnodhkjgnegkcaaGreatDoor
