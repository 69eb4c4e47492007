/-
  The laws' own helpers on lists of texts: szStringS counts them, toStringS copies them.
-/
import Derived.Test.YtnodhkjgnegkcaaGreatDoorLawB
namespace Go.Proofs.YtnodhkjgnegkcaaGreatDoor
open Go.RowKit

/-- How many texts and letters there are. -/
def smL (ls : List (List UInt8)) : Nat := (ls.map List.length).sum
def szI (left : Int) (ls : List (List UInt8)) : Int := if (ls.length : Int) + (smL ls : Int) ≤ left then left - (ls.length : Int) - (smL ls : Int) else -1
theorem smL_snoc (ls : List (List UInt8)) (k : Nat) (h : k < ls.length) : smL (ls.take (k + 1)) = smL (ls.take k) + ls[k].length := by
  unfold smL; rw [List.take_succ_eq_append_getElem h]; simp only [List.map_append, List.sum_append, List.map_cons, List.map_nil, List.sum_cons, List.sum_nil]; omega
theorem smL_le (ls : List (List UInt8)) (k : Nat) : smL (ls.take k) ≤ smL ls := by
  have : smL ls = smL (ls.take k) + smL (ls.drop k) := by unfold smL; rw [← List.sum_append, ← List.map_append, List.take_append_drop]
  omega
theorem smL_mem {ls : List (List UInt8)} : ∀ l ∈ ls, l.length ≤ smL ls := by
  induction ls with
  | nil => intro l h; cases h
  | cons a t ih =>
    intro l h
    have e : smL (a :: t) = a.length + smL t := by unfold smL; simp
    rcases List.mem_cons.1 h with rfl | h
    · omega
    · have := ih l h; omega
theorem szI_yes {left : Int} {ls : List (List UInt8)} (h : (ls.length : Int) + (smL ls : Int) ≤ left) : szI left ls = left - (ls.length : Int) - (smL ls : Int) := if_pos h
theorem szI_no {left : Int} {ls : List (List UInt8)} (h : ¬ (ls.length : Int) + (smL ls : Int) ≤ left) : szI left ls = -1 := if_neg h
set_option maxRecDepth 100000 in
set_option maxHeartbeats 1000000 in
theorem szStringS_any (v : Value) (ls : List (List UInt8)) (left : Int) (w : World) (hr : RdS w v ls) (h0 : 0 ≤ left) (h1 : left ≤ 1048576) (hn : ls.length ≤ maxLen) (hm : ∀ l ∈ ls, l.length ≤ maxLen) :
    Calls Tryz.prog 21 #[v, .int .i64 left] w fun e w' => e = .returned (.int .i64 (szI left ls)) ∧ w = w' := by
  obtain ⟨A, ca, rfl, ha⟩ := hr
  have HM := Lib.hid hm
  clear hm
  unfold maxLen at hn
  by_cases hl : (ls.length : Int) ≤ left
  · go_enter Tryz.func21, Tryz.ntmps21
    go_wp2
    go_loop [1, 5] (fun m i => ∃ (k : Nat) (z : Int), k ≤ ls.length ∧ i = .int .i64 k ∧ m = .int .i64 z ∧ 0 ≤ z ∧ z ≤ 1048576 ∧ Hid (z = left - (ls.length : Int) - (smL (ls.take k) : Int))) (fun _ i => ls.length - (intOf i).toNat)
    case atStart => exact ⟨0, _, Nat.zero_le _, rfl, rfl, by omega, by omega, Lib.hid (by simp [smL])⟩
    case round =>
      obtain ⟨k, z, hk, rfl, rfl, z0, z1, HZ⟩ := hrel
      by_cases hlt : k < ls.length
      · obtain ⟨g, off, rfl, _, hca⟩ := ha (by omega)
        obtain ⟨b, hb⟩ : ∃ b : ByteArray, b = ⟨ls[k].toArray⟩ := ⟨_, rfl⟩
        have d1 : w.cell? ⟨g, off + k, none⟩ = some (.string b) := by rw [hb]; exact hca k hlt
        have HB : Hid (b.size = ls[k].length) := Lib.hid (by rw [hb]; exact size_of _)
        have hb2 : b.size ≤ 9223372036854775807 := by have := HM.out ls[k] (List.getElem_mem hlt); unfold maxLen at this; have := HB.out; omega
        have k0 : (0 : Int) ≤ (k : Int) := by omega
        have k1 : (k : Int) < (ls.length : Int) := by omega
        have HS := Lib.hid (smL_snoc ls k hlt)
        have HT := Lib.hid (smL_le ls (k + 1))
        clear ha hca hb
        by_cases hz : z - (b.size : Int) < 0
        · have HX : Hid (szI left ls = -1) := Lib.hid (szI_no (by have := HZ.out; have := HS.out; have := HT.out; have := HB.out; omega))
          go_wp2
          go_ret
          exact ⟨ret_int HX.out.symm, rfl⟩
        · go_wp2
          go_round
          case rel => exact ⟨k + 1, _, by omega, by go_num, rfl, by omega, by omega, Lib.hid (by have := HZ.out; have := HS.out; have := HB.out; omega)⟩
          case measure => simp [intOf]; omega
      · have HX : Hid (szI left ls = z) := Lib.hid (by
          have hz := HZ.out
          rw [List.take_of_length_le (by omega)] at hz
          rw [szI_yes (by omega)]; omega)
        clear ha
        go_wp2
        go_ret
        exact ⟨ret_int HX.out.symm, rfl⟩
  · have HX : Hid (szI left ls = -1) := Lib.hid (szI_no (by omega))
    go_enter Tryz.func21, Tryz.ntmps21
    go_wp2
    go_ret
    exact ⟨ret_int HX.out.symm, rfl⟩

/-- The first k texts, then empty ones. -/
def tk (k : Nat) (ls : List (List UInt8)) : List (List UInt8) := ls.take k ++ List.replicate (ls.length - k) []
theorem tk_len (k : Nat) (ls : List (List UInt8)) (h : k ≤ ls.length) : (tk k ls).length = ls.length := by simp [tk]; omega
theorem tk_zero (ls : List (List UInt8)) : tk 0 ls = List.replicate ls.length [] := by simp [tk]
theorem tk_all (ls : List (List UInt8)) : tk ls.length ls = ls := by simp [tk]
theorem tk_set (k : Nat) (ls : List (List UInt8)) (h : k < ls.length) : (tk k ls).set k ls[k] = tk (k + 1) ls := by
  unfold tk
  rw [List.set_append_right _ _ (by simp; omega), List.take_succ_eq_append_getElem h, List.append_assoc]
  congr 1
  have e : ls.length - k = (ls.length - (k + 1)) + 1 := by omega
  have e2 : k - (List.take k ls).length = 0 := by simp; omega
  rw [e2, e, List.replicate_succ]
  rfl
theorem strs_made {w : World} {base : Nat} {v : Value} {n : Nat} (h : w.ownsRow base 9 1 v n (madeCells (Value.string ⟨#[]⟩).cells (n * 1)).toList) : Strs w base v (List.replicate n []) := by
  unfold Strs
  have e : (madeCells (Value.string ⟨#[]⟩).cells (n * 1)).toList = (List.replicate n ([] : List UInt8)).map sv := by
    apply List.ext_getElem?
    intro j
    by_cases hj : j < n
    · simp [madeCells, hj, Nat.mod_one, sv, Value.cells]
    · simp [madeCells, hj]
  rw [← e]
  simpa using h

set_option maxRecDepth 100000 in
set_option maxHeartbeats 1000000 in
theorem toStringS_any (v : Value) (ls : List (List UInt8)) (w : World) (hr : RdS w v ls) (hl : ls.length ≤ 1048576) :
    Calls Tryz.prog 23 #[v] w fun e w' => ∃ g cap, e = .returned (.slice (some ⟨g, 0, none⟩) ls.length cap) ∧ Strs w' w.heap.size (.slice (some ⟨g, 0, none⟩) ls.length cap) ls ∧ Below w.heap.size w w' := by
  have HR := Lib.hid hr
  obtain ⟨A, ca, rfl, ha⟩ := hr
  obtain ⟨i0, hi, hz0, hz1, hz2⟩ := info_parts strinfo
  go_enter Tryz.func23, Tryz.ntmps23
  go_wp2_with (at_make; refine wpList_make_full _ rfl _ _ 29 rfl w.heap.size 9 i0 (.string ⟨#[]⟩) 1 Tryz.underlying29 hi hz0 hz1 .i64 .i64 _ _ ls.length rfl rfl rfl rfl (by rw [hz2]; omega) (by unfold maxLen; omega) (Nat.le_refl _) ?_; intro w1 hown1 hg1)
  have hS1 := strs_made hown1
  have hb1 : Below w.heap.size w w1 := (Below.refl _ _).grown hg1 (Nat.le_refl _) (by simp)
  clear hown1 hg1 hi hz0 hz1 hz2 ha
  go_loopw [4] (fun i wr => ∃ k : Nat, k ≤ ls.length ∧ i = .int .i64 k ∧ Strs wr w.heap.size (.slice (some ⟨w.heap.size, 0, none⟩) ls.length ls.length) (tk k ls) ∧ Below w.heap.size w wr) (fun i _ => ls.length - (intOf i).toNat)
  case atStart => exact ⟨0, Nat.zero_le _, rfl, by rw [tk_zero]; exact hS1, hb1⟩
  case round =>
    obtain ⟨k, hk, rfl, hS, hb⟩ := hrel
    by_cases hlt : k < ls.length
    · obtain ⟨A', ca', hv, ha⟩ := HR.out.below hb
      simp only [Value.slice.injEq] at hv
      obtain ⟨rfl, _, rfl⟩ := hv
      obtain ⟨g, off, rfl, _, hca⟩ := ha (by omega)
      have d1 : wr.cell? ⟨g, off + k, none⟩ = some (.string ⟨ls[k].toArray⟩) := hca k hlt
      have hS' : Strs wr w.heap.size (.slice (some ⟨w.heap.size, 0, none⟩) (tk k ls).length ls.length) (tk k ls) := by rw [tk_len k ls hk]; exact hS
      have c2 : wr.cell? ⟨w.heap.size, k, none⟩ = some (sv ((tk k ls)[k]'(by rw [tk_len k ls hk]; exact hlt))) := hS.cell k _
      have f2 : wr.frozen? ⟨w.heap.size, k, none⟩ = false := World.ownsRow.frozenAt hS' k
      have k0 : (0 : Int) ≤ (k : Int) := by omega
      have k1 : (k : Int) < (ls.length : Int) := by omega
      clear ha hca hS1 hb1
      go_wp2_with fail
      go_roundw
      case rel => exact ⟨k + 1, by omega, by go_num, by have := hS'.set k ls[k]; rw [tk_set k ls hlt, tk_len (k + 1) ls (by omega)] at this; exact this, hb.setCell (p := ⟨w.heap.size, k, none⟩) (Nat.le_refl _) _⟩
      case measure => simp [intOf]; omega
    · obtain rfl : k = ls.length := by omega
      rw [tk_all] at hS
      clear hS1 hb1
      go_wp2_with fail
      go_ret
      exact ⟨_, _, rfl, hS, hb⟩
end Go.Proofs.YtnodhkjgnegkcaaGreatDoor
