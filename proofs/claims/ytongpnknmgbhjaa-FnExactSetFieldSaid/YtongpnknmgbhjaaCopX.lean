/-
  impl.copyTexts copies a list of texts.
-/
import Derived.Test.YtongpnknmgbhjaaHeapC
import Derived.Test.YtongpnknmgbhjaaSmD
import Derived.Test.YtongpnknmgbhjaaClone
import Derived.Test.YtongpnknmgbhjaaAppOne
import Derived.Deep.RegionHeld3
namespace Go.Proofs.Ytongpnknmgbhjaa
open Go.RowKit

theorem RdS.at {w : World} {A : Option Addr} {n cap : Nat} {ls : List (List UInt8)} (h : RdS w (.slice A n cap) ls) (k : Nat) (hk : k < ls.length) : ∃ g off, A = some ⟨g, off, none⟩ ∧ g < w.heap.size ∧ w.cell? ⟨g, off + k, none⟩ = some (.string ⟨ls[k].toArray⟩) := by
  obtain ⟨A', ca', hv, ha⟩ := h
  simp only [Value.slice.injEq] at hv
  obtain ⟨rfl, _, rfl⟩ := hv
  obtain ⟨g, off, hA, hg, hc⟩ := ha (by omega)
  exact ⟨g, off, hA, hg, hc k hk⟩

set_option maxRecDepth 100000 in
set_option maxHeartbeats 2000000 in
theorem copyTexts_any (v : Value) (ls : List (List UInt8)) (w : World) (hr : RdS w v ls) (hs : Sm ls) :
    Calls Try.prog 74 #[v] w fun e w' => ∃ u, e = .returned u ∧ Strs w' w.heap.size u ls ∧ Below w.heap.size w w' := by
  obtain ⟨i0, hi, hz0, hz1, hz2⟩ := info_parts strinfo
  have HR := Lib.hid hr
  have hl := hs.1
  have HS := Lib.hid hs.2
  obtain ⟨A, ca, rfl, _⟩ := hr
  clear hs
  go_enter Try.func74, Try.ntmps74
  go_wp2_with (at_make; refine wpList_make_own _ rfl _ _ 25 rfl w.heap.size 9 i0 (.string ⟨#[]⟩) 1 Try.underlying25 hi hz0 hz1 .i64 .i64 _ ls.length rfl rfl (by omega) (by rw [hz2]; omega) (by unfold maxLen; omega) (Nat.le_refl _) ?_; intro w1 hown1 hg1)
  have hb1 : Below w.heap.size w w1 := (Below.refl _ _).grown hg1 (Nat.le_refl _) (by simp)
  have hS1 : Strs w1 w.heap.size (.slice (some ⟨w.heap.size, 0, none⟩) 0 ls.length) [] := hown1
  clear hown1 hg1 hi hz0 hz1 hz2
  go_loopw [3, 5, 11] (fun u _ i wr => ∃ k : Nat, k ≤ ls.length ∧ i = .int .i64 k ∧ Strs wr w.heap.size u (ls.take k) ∧ Below w.heap.size w wr) (fun _ _ i _ => ls.length - (intOf i).toNat)
  case atStart => exact ⟨0, Nat.zero_le _, rfl, hS1, hb1⟩
  case round =>
    obtain ⟨k, hk, rfl, hO, hb⟩ := hrel
    clear hS1 hb1
    by_cases hlt : k < ls.length
    · obtain ⟨g, off, rfl, hg, d1⟩ := (HR.out.below hb).at k hlt
      have HK := Lib.hid (fun W => clone_any ⟨ls[k].toArray⟩ W (by rw [size_of]; exact HS.out _ (List.getElem_mem hlt)))
      have HN := Lib.hid (List.take_succ_eq_append_getElem hlt)
      have HOW := Lib.hid hO.owned
      have hws : w.heap.size ≤ wr.heap.size := hb.size
      have hll : Hid ((ls.take k).length + 1 ≤ 16777216) := Lib.hid (by simp; omega)
      have k0 : (0 : Int) ≤ (k : Int) := by omega
      have k1 : (k : Int) < (ls.length : Int) := by omega
      go_wp2_with (first
        | (go_at_call 46; (with_reducible refine (HK.out _).mono ?_); rintro e w2 ⟨rfl, hb2⟩; have S2 := hO.below hb2; have z2 : w.heap.size ≤ w2.heap.size := Nat.le_trans hws hb2.size)
        | (at_builtin; refine wpList_append_strs rfl _ _ rfl w.heap.size _ _ rfl (S2.alloc _) ls[k] w2.heap.size _ _ _ rfl (heap_alloc_new w2 _) hll.out (by simp; omega) ?_; intro g4 c4 w4 hS4 hb4))
      have B2 := hb.trans (hb2.mono hb.size)
      have B4 := (B2.alloc B2.size (.cells #[.string ⟨ls[k].toArray⟩] 9)).trans hb4
      go_roundw
      case rel => exact ⟨k + 1, by omega, by go_num, by rw [HN.out]; rw [List.length_take_of_le (by omega)] at hS4; exact hS4, B4⟩
      case measure => simp [intOf]; omega
    · rw [List.take_of_length_le (by omega)] at hO
      go_wp2_with fail
      go_ret
      exact ⟨_, rfl, hO, hb⟩
end Go.Proofs.Ytongpnknmgbhjaa
