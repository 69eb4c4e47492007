/-
  The keys of a list of fields: listOf.texts by a closure that reads a field's key.
-/
import Derived.Test.YthlbpklllphhcaaFdM
import Derived.Test.YthlbpklllphhcaaCopX
namespace Go.Proofs.Ythlbpklllphhcaa
open Go.RowKit

set_option maxRecDepth 100000 in
set_option maxHeartbeats 2000000 in
theorem keyC_any (f : Fd) (a : Value) (w : World) (ha : RdS w a f.list) :
    Calls Try.prog 111 #[fdV f a] w fun e w' => e = .returned (.string ⟨f.key.toArray⟩) ∧ Below w.heap.size w w' := by
  obtain ⟨A1, c1, rfl⟩ := ha.slice
  unfold fdV
  have B0 : Below w.heap.size w (w.alloc (.cells #[.string ⟨f.key.toArray⟩, .string ⟨f.text.toArray⟩, .slice A1 f.list.length c1, .bool f.isl] 47)) := (Below.refl _ _).alloc (Nat.le_refl _) _
  clear ha
  go_enter Try.func111, Try.ntmps111
  go_wp2_with fail
  go_ret
  exact ⟨rfl, B0⟩

set_option maxRecDepth 100000 in
set_option maxHeartbeats 2000000 in
theorem fieldKeys_any (v : Value) (fs : List Fd) (w : World) (hr : RdFs w v fs) (hl : fs.length ≤ 1048576) :
    Calls Try.prog 110 #[v, .func (.func 111) #[] #[]] w fun e w' => ∃ u, e = .returned u ∧ Strs w' w.heap.size u (fs.map (·.key)) ∧ Below w.heap.size w w' := by
  obtain ⟨i0, hi, hz0, hz1, hz2⟩ := info_parts strinfo
  have HR := Lib.hid hr
  obtain ⟨A, ca, rfl, _⟩ := hr
  go_enter Try.func110, Try.ntmps110
  go_wp2_with (at_make; refine wpList_make_own _ rfl _ _ 22 rfl w.heap.size 9 i0 (.string ⟨#[]⟩) 1 Try.underlying22 hi hz0 hz1 .i64 .i64 _ fs.length rfl rfl (by omega) (by rw [hz2]; omega) (by unfold maxLen; omega) (Nat.le_refl _) ?_; intro w1 hown1 hg1)
  have hb1 : Below w.heap.size w w1 := (Below.refl _ _).grown hg1 (Nat.le_refl _) (by simp)
  have hS1 : Strs w1 w.heap.size (.slice (some ⟨w.heap.size, 0, none⟩) 0 fs.length) [] := hown1
  clear hown1 hg1 hi hz0 hz1 hz2
  go_loopw [5, 7, 13] (fun u _ i wr => ∃ k : Nat, k ≤ fs.length ∧ i = .int .i64 k ∧ Strs wr w.heap.size u ((fs.take k).map (·.key)) ∧ Below w.heap.size w wr) (fun _ _ i _ => fs.length - (intOf i).toNat)
  case atStart => exact ⟨0, Nat.zero_le _, rfl, hS1, hb1⟩
  case round =>
    obtain ⟨k, hk, rfl, hO, hb⟩ := hrel
    clear hS1 hb1
    by_cases hlt : k < fs.length
    · obtain ⟨g, off, rfl, hg, a, d0, d1, d2, d3, ra⟩ := (HR.out.below hb).at k hlt
      have HK := Lib.hid (fun (W : World) (h : Below wr.heap.size wr W) => keyC_any fs[k] a W (ra.below h))
      obtain ⟨A1, c1, rfl⟩ := ra.slice
      have HN := Lib.hid (show (fs.take (k + 1)).map (·.key) = (fs.take k).map (·.key) ++ [fs[k].key] by rw [List.take_succ_eq_append_getElem hlt, List.map_append]; rfl)
      have HOW := Lib.hid hO.owned
      have hws : w.heap.size ≤ wr.heap.size := hb.size
      have hll : Hid (((fs.take k).map (·.key)).length + 1 ≤ 16777216) := Lib.hid (by simp; omega)
      have hlen : Hid (((fs.take k).map (·.key)).length = k) := Lib.hid (by simp; omega)
      have k0 : (0 : Int) ≤ (k : Int) := by omega
      have k1 : (k : Int) < (fs.length : Int) := by omega
      have Bp : Below wr.heap.size wr (wr.alloc (.cells #[.string ⟨fs[k].key.toArray⟩, .string ⟨fs[k].text.toArray⟩, .slice A1 fs[k].list.length c1, .bool fs[k].isl] 47)) := (Below.refl _ _).alloc (Nat.le_refl _) _
      generalize fs[k] = fd at d0 d1 d2 d3 ra HK HN Bp
      generalize (fs.take k).map (·.key) = ks at hO HN HOW hll hlen
      clear ra
      go_wp2_with fail
      refine (HK.out _ Bp).mono ?_
      rintro e w2 ⟨rfl, hb2⟩
      have B2 := Bp.trans (hb2.mono Bp.size)
      have S2 := hO.below B2
      have C2 := hb.trans (B2.mono hb.size)
      have z2 : w.heap.size ≤ w2.heap.size := C2.size
      go_wp2_with (at_builtin; refine wpList_append_strs rfl _ _ rfl w.heap.size _ _ rfl (S2.alloc _) fd.key w2.heap.size _ _ _ rfl (heap_alloc_new w2 _) hll.out (by simp; omega) ?_; intro g4 c4 w4 hS4 hb4)
      have B4 := (C2.alloc C2.size (.cells #[.string ⟨fd.key.toArray⟩] 9)).trans hb4
      go_roundw
      case rel => exact ⟨k + 1, by omega, by go_num, by rw [HN.out]; exact hS4, B4⟩
      case measure => simp [intOf]; omega
    · rw [List.take_of_length_le (by omega)] at hO
      go_wp2_with fail
      go_ret
      exact ⟨_, rfl, hO, hb⟩
end Go.Proofs.Ythlbpklllphhcaa
