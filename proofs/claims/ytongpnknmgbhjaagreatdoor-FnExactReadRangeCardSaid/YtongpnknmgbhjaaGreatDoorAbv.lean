/-
  impl.above: the version below which one is alone.
-/
import Derived.Test.YtongpnknmgbhjaaGreatDoorRas
import Derived.Test.YtongpnknmgbhjaaGreatDoorCct
namespace Go.Proofs.YtongpnknmgbhjaaGreatDoor
open Go.RowKit

theorem set_grown (w : World) (g k : Nat) (x : Value) : w.grownBy (w.setCell ⟨g, k, none⟩ x) (some g) := ⟨rfl, rfl, rfl, by simp, fun j _ hj => heap_setCell_other w ⟨g, k, none⟩ j x (fun e => hj (by simp [e]))⟩
theorem two_cells {V : World} {B : Nat} {T : TypeId} {v0 v1 : Value} (h : V.heap[B]? = some (.cells #[v0, v1] T)) : V.cell? ⟨B, 0, none⟩ = some v0 ∧ V.cell? ⟨B, 1, none⟩ = some v1 := by simp [World.cell?, h]
/-- What impl.above hands back. -/
def abvL (a b c : Int) (ls : List (List UInt8)) : List UInt8 := if ls = [] then verText a b (c + 1) [[48]] else verText a b c (ls ++ [[48]])

set_option maxRecDepth 100000 in
set_option maxHeartbeats 4000000 in
theorem above_any (a b c : Int) (v : Value) (ls : List (List UInt8)) (w : World) (hr : RdS w v ls) (hv : verOk a b c ls = true) (ht : Tab w) :
    Calls Tryz.prog 113 #[.agg #[.int .i64 a, .int .i64 b, .int .i64 c, v]] w fun e w' => e = .returned (.string ⟨(abvL a b c ls).toArray⟩) ∧ Below w.heap.size w w' := by
  have hn := verOk_num hv
  have HLE := Lib.hid (verOk_len hv)
  have HR := Lib.hid hr
  obtain ⟨A, cap, rfl, _⟩ := hr
  by_cases hz : ls = []
  · subst hz
    have HX := Lib.hid (fun (W : World) (h : Below w.heap.size w W) => raised_any a b c A 0 cap W (tab_below ht h) (by omega))
    have HT : Hid (abvL a b c [] = verText a b (c + 1) [[48]]) := Lib.hid (if_pos rfl)
    rw [HT.out]
    clear ht HR hv hn HLE
    go_enter Tryz.func113, Tryz.ntmps113
    go_wp2_with fail
    refine (HX.out _ ((Below.refl _ _).alloc (Nat.le_refl _) _)).mono ?_
    rintro e w5 ⟨rfl, hb5⟩
    go_wp2_with fail
    go_ret
    exact ⟨rfl, ((Below.refl _ _).alloc (Nat.le_refl _) _).trans (hb5.mono (by simp))⟩
  · have HT : Hid (abvL a b c ls = verText a b c (ls ++ [[48]])) := Lib.hid (if_neg hz)
    rw [HT.out]
    have hpos : 0 < ls.length := List.length_pos_iff.2 hz
    have HV := Lib.hid (fun (u : Value) (q : Nat) (W : World) (h : Strs W q u (ls ++ [[48]])) (hb : Below w.heap.size w W) => implVersionText_any a b c q u (ls ++ [[48]]) W h ⟨by simp; omega, fun x hx => by
      rcases List.mem_append.1 hx with h' | h'
      · have := HLE.out x h'; omega
      · simp at h'; subst h'; simp⟩ (tab_below ht hb))
    obtain ⟨t, HTT⟩ : ∃ t, Hid (verText a b c (ls ++ [[48]]) = t) := ⟨_, Lib.hid rfl⟩
    simp only [HTT.out] at HV
    rw [HTT.out]
    have nz : ((ls.length : Int) == 0) = false := int_beq_false (by omega)
    have B3 := below_three w (.cells #[.int .i64 a, .int .i64 b, .int .i64 c, .slice A ls.length cap] 127) (.cells #[.string ⟨#[48]⟩] 9) (.cells #[.slice A ls.length cap, .slice (some ⟨w.heap.size + 1, 0, none⟩) 1 1] 22)
    have HC := Lib.hid (fun (W : World) (hb : Below w.heap.size w W) (v2 : Value) (e0 : W.cell? ⟨w.heap.size + 1 + 1, 0, none⟩ = some (.slice A ls.length cap)) (e1 : W.cell? ⟨w.heap.size + 1 + 1, 1, none⟩ = some v2) (h2 : RdS W v2 [[48]]) => concat2_any (w.heap.size + 1 + 1) _ v2 ls [[48]] W e0 e1 (HR.out.below hb) h2 (by omega) (by simp) (by simp))
    have hne : ls ++ [[48]] ≠ [] := by simp
    clear ht hz hv hn HLE HR HTT
    generalize ls ++ [[48]] = L at HV HC hne
    go_enter Tryz.func113, Tryz.ntmps113
    go_wp2_with fail
    refine (HC.out _ B3 (.slice (some ⟨w.heap.size + 1, 0, none⟩) 1 1) (two_cells (heap_new (by simp) _)).1 (two_cells (heap_new (by simp) _)).2 (rdS_alloc (RdS.of_strs (strs_z _ _ (by simp) [48])) _)).mono ?_
    rintro e w5 ⟨u, rfl, hS, hb5⟩
    have B5 := B3.trans (hb5.mono (by simp; omega))
    obtain ⟨g, cp, rfl, hbg, hlt⟩ : ∃ g cp, u = .slice (some ⟨g, 0, none⟩) L.length cp ∧ w.heap.size + 1 + 1 < g ∧ g < w5.heap.size := by
      rcases hS.form with ⟨_, h⟩ | ⟨g, cp, h1, h2, h3⟩
      · exact absurd h hne
      · exact ⟨g, cp, h1, by simp at h2; omega, h3⟩
    have n5 : w5.heap[w.heap.size]? = some (.cells #[.int .i64 a, .int .i64 b, .int .i64 c, .slice A ls.length cap] 127) := keepB (keepA (keepA (heap_alloc_new w _) _) _) hb5
    obtain ⟨q0, q1, q2, q3⟩ := cells4 n5
    have f3 := frozen4 n5 3
    have hs5 : w.heap.size < w5.heap.size := lt_of_heap n5
    have HS6 : Hid (Strs (w5.setCell ⟨w.heap.size, 3, none⟩ (.slice (some ⟨g, 0, none⟩) L.length cp)) _ (.slice (some ⟨g, 0, none⟩) L.length cp) L) := Lib.hid (World.ownsRow.kept hS (set_grown w5 w.heap.size 3 _) (by right; simp [Value.ownBlock]; omega))
    have B6 := B5.setCell (p := ⟨w.heap.size, 3, none⟩) (Nat.le_refl _) (.slice (some ⟨g, 0, none⟩) L.length cp)
    clear hS hb5 B5
    go_wp2_with fail
    refine (HV.out _ _ _ HS6.out B6).mono ?_
    rintro e w7 ⟨rfl, hb7⟩
    go_wp2_with fail
    go_ret
    exact ⟨rfl, B6.trans (hb7.mono (by simp; omega))⟩
end Go.Proofs.YtongpnknmgbhjaaGreatDoor
