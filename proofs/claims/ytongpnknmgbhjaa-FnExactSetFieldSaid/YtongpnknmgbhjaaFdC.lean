/-
  impl.copyField copies a field.
-/
import Derived.Test.YtongpnknmgbhjaaFdI
import Derived.Test.YtongpnknmgbhjaaCopX
import Derived.Deep.RegionHeld3
namespace Go.Proofs.Ytongpnknmgbhjaa
open Go.RowKit

theorem SmFd.sm {f : Fd} (h : SmFd f) : Sm f.list := by
  have := h.list
  exact ⟨by omega, fun l hl => by have := smL_mem l hl; omega⟩
theorem keep4 {W V : World} {A : Nat} {v0 v1 v2 v3 : Value} (hb : Below W.heap.size W V) (h : W.cell? ⟨A, 0, none⟩ = some v0 ∧ W.cell? ⟨A, 1, none⟩ = some v1 ∧ W.cell? ⟨A, 2, none⟩ = some v2 ∧ W.cell? ⟨A, 3, none⟩ = some v3) : V.cell? ⟨A, 0, none⟩ = some v0 ∧ V.cell? ⟨A, 1, none⟩ = some v1 ∧ V.cell? ⟨A, 2, none⟩ = some v2 ∧ V.cell? ⟨A, 3, none⟩ = some v3 := ⟨keepC hb h.1, keepC hb h.2.1, keepC hb h.2.2.1, keepC hb h.2.2.2⟩
theorem far4 {V : World} {g B : Nat} (hq : B ≠ g) (o : Nat) (y0 y1 y2 y3 : Value) : ((((V.setCell ⟨g, 0, none⟩ y0).setCell ⟨g, 1, none⟩ y1).setCell ⟨g, 2, none⟩ y2).setCell ⟨g, 3, none⟩ y3).cell? ⟨B, o, none⟩ = V.cell? ⟨B, o, none⟩ := by
  have e : ((((V.setCell ⟨g, 0, none⟩ y0).setCell ⟨g, 1, none⟩ y1).setCell ⟨g, 2, none⟩ y2).setCell ⟨g, 3, none⟩ y3).heap[B]? = V.heap[B]? :=
    (heap_setCell_other _ ⟨g, 3, none⟩ B y3 hq).trans ((heap_setCell_other _ ⟨g, 2, none⟩ B y2 hq).trans ((heap_setCell_other _ ⟨g, 1, none⟩ B y1 hq).trans (heap_setCell_other _ ⟨g, 0, none⟩ B y0 hq)))
  unfold World.cell?
  simp only [e]

set_option maxRecDepth 100000 in
set_option maxHeartbeats 4000000 in
theorem copyField_any (f : Fd) (a : Value) (w : World) (ha : RdS w a f.list) (hs : SmFd f) :
    Calls Try.prog 48 #[fdV f a] w fun e w' => ∃ u, e = .returned (fdV f u) ∧ Strs w' w.heap.size u f.list ∧ Below w.heap.size w w' := by
  have HC := Lib.hid (fun (W : World) (h : Below w.heap.size w W) => copyTexts_any a f.list W (ha.below h) hs.sm)
  obtain ⟨A, ca, rfl⟩ := ha.slice
  obtain ⟨ky, tx, ls, il⟩ := f
  have HK := Lib.hid (fun W => clone_any ⟨ky.toArray⟩ W (by rw [size_of]; exact hs.texts.1))
  have HT := Lib.hid (fun W => clone_any ⟨tx.toArray⟩ W (by rw [size_of]; exact hs.texts.2))
  unfold fdV
  simp only at HC ⊢
  clear ha hs
  have B0 : Below w.heap.size w ((w.alloc (.cells #[.string ⟨ky.toArray⟩, .string ⟨tx.toArray⟩, .slice A ls.length ca, .bool il] 35)).alloc (.cells #[.string ⟨#[]⟩, .string ⟨#[]⟩, .slice none 0 0, .bool false] 35)) := ((Below.refl _ _).alloc (Nat.le_refl _) _).alloc (by simp) _
  have b0 := keepA (heap_alloc_new w (.cells #[.string ⟨ky.toArray⟩, .string ⟨tx.toArray⟩, .slice A ls.length ca, .bool il] 35)) (.cells #[.string ⟨#[]⟩, .string ⟨#[]⟩, .slice none 0 0, .bool false] 35)
  have b1 := heap_new (W := w.alloc (.cells #[.string ⟨ky.toArray⟩, .string ⟨tx.toArray⟩, .slice A ls.length ca, .bool il] 35)) (n := w.heap.size + 1) (by simp) (.cells #[.string ⟨#[]⟩, .string ⟨#[]⟩, .slice none 0 0, .bool false] 35)
  go_enter Try.func48, Try.ntmps48
  go_wp2_with fail
  generalize (w.alloc (.cells #[.string ⟨ky.toArray⟩, .string ⟨tx.toArray⟩, .slice A ls.length ca, .bool il] 35)).alloc (.cells #[.string ⟨#[]⟩, .string ⟨#[]⟩, .slice none 0 0, .bool false] 35) = W0 at B0 b0 b1 ⊢
  obtain ⟨x0, x1, x2, x3⟩ := cells4 b0
  have BD := B0.trans (below_drew w.heap.size W0)
  have xd : W0.drew.cell? ⟨w.heap.size, 0, none⟩ = some (.string ⟨ky.toArray⟩) ∧ W0.drew.cell? ⟨w.heap.size, 1, none⟩ = some (.string ⟨tx.toArray⟩) ∧ W0.drew.cell? ⟨w.heap.size, 2, none⟩ = some (.slice A ls.length ca) ∧ W0.drew.cell? ⟨w.heap.size, 3, none⟩ = some (.bool il) := ⟨x0, x1, x2, x3⟩
  have bD : W0.drew.heap[w.heap.size + 1]? = some (.cells #[.string ⟨#[]⟩, .string ⟨#[]⟩, .slice none 0 0, .bool false] 35) := b1
  have hne : w.heap.size ≠ w.heap.size + 1 := Nat.ne_of_lt (Nat.lt_succ_self _)
  go_region_held3 (fun W => W.cell? ⟨w.heap.size, 0, none⟩ = some (.string ⟨ky.toArray⟩) ∧ W.cell? ⟨w.heap.size, 1, none⟩ = some (.string ⟨tx.toArray⟩) ∧ W.cell? ⟨w.heap.size, 2, none⟩ = some (.slice A ls.length ca) ∧ W.cell? ⟨w.heap.size, 3, none⟩ = some (.bool il)) (first | (with_reducible exact xd) | (with_reducible assumption) | (with_reducible exact ⟨(far4 hne _ _ _ _ _).trans pk.1, (far4 hne _ _ _ _ _).trans pk.2.1, (far4 hne _ _ _ _ _).trans pk.2.2.1, (far4 hne _ _ _ _ _).trans pk.2.2.2⟩) | (with_reducible exact keep4 hb2 (by assumption)) | (with_reducible exact keep4 hb3 (by assumption)) | (with_reducible exact keep4 hb4 (by assumption))) ((first
    | (go_at_call 46; (with_reducible refine (HK.out _).mono ?_); rintro e w2 ⟨rfl, hb2⟩; have B2 := (show Below w.heap.size w w2 from (by with_reducible first | exact BD.trans (hb2.mono BD.size) | exact B3.trans (hb2.mono B3.size) | exact B4.trans (hb2.mono B4.size))); have pk := keep4 (A := w.heap.size) (v0 := .string ⟨ky.toArray⟩) (v1 := .string ⟨tx.toArray⟩) (v2 := .slice A ls.length ca) (v3 := .bool il) hb2 (by with_reducible assumption); have y2 := (show w2.heap[w.heap.size + 1]? = some (.cells #[.string ⟨#[]⟩, .string ⟨#[]⟩, .slice none 0 0, .bool false] 35) from (by with_reducible first | exact keepB bD hb2 | exact keepB y3 hb2 | exact keepB y4 hb2)); obtain ⟨z0, z1, z2, z3⟩ := cells4 y2; have fz := frozen4 y2)
    | (go_at_call 46; (with_reducible refine (HT.out _).mono ?_); rintro e w3 ⟨rfl, hb3⟩; have B3 := (show Below w.heap.size w w3 from (by with_reducible first | exact BD.trans (hb3.mono BD.size) | exact B2.trans (hb3.mono B2.size) | exact B4.trans (hb3.mono B4.size))); have pk := keep4 (A := w.heap.size) (v0 := .string ⟨ky.toArray⟩) (v1 := .string ⟨tx.toArray⟩) (v2 := .slice A ls.length ca) (v3 := .bool il) hb3 (by with_reducible assumption); have y3 := (show w3.heap[w.heap.size + 1]? = some (.cells #[.string ⟨#[]⟩, .string ⟨#[]⟩, .slice none 0 0, .bool false] 35) from (by with_reducible first | exact keepB bD hb3 | exact keepB y2 hb3 | exact keepB y4 hb3)); obtain ⟨z0, z1, z2, z3⟩ := cells4 y3; have fz := frozen4 y3)
    | (go_at_call 74; (with_reducible refine (HC.out _ (by with_reducible first | exact B2 | exact B3 | exact BD)).mono ?_); rintro e w4 ⟨u, rfl, hS4, hb4⟩; have B4 := (show Below w.heap.size w w4 from (by with_reducible first | exact B3.trans (hb4.mono B3.size) | exact B2.trans (hb4.mono B2.size) | exact BD.trans (hb4.mono BD.size))); have pk := keep4 (A := w.heap.size) (v0 := .string ⟨ky.toArray⟩) (v1 := .string ⟨tx.toArray⟩) (v2 := .slice A ls.length ca) (v3 := .bool il) hb4 (by with_reducible assumption); have y4 := (show w4.heap[w.heap.size + 1]? = some (.cells #[.string ⟨#[]⟩, .string ⟨#[]⟩, .slice none 0 0, .bool false] 35) from (by with_reducible first | exact keepB y3 hb4 | exact keepB y2 hb4 | exact keepB bD hb4)); obtain ⟨z0, z1, z2, z3⟩ := cells4 y4; have fz := frozen4 y4; have hO := (show ∀ g, u.ownBlock = some g → g ≠ w.heap.size + 1 from fun g hg e => Nat.lt_irrefl _ (Nat.lt_of_lt_of_le (lt_of_heap (by with_reducible first | exact y3 | exact y2 | exact bD)) (e ▸ hS4.owned g hg))); have hSB := hS4.weaken (base' := w.heap.size) (by with_reducible first | exact B3.size | exact B2.size | exact BD.size); obtain ⟨U, uc, rfl⟩ := hS4.slice)))
  all_goals
    go_wp2_with fail
    refine bodyPost_ret (v := .agg #[.string ⟨ky.toArray⟩, .string ⟨tx.toArray⟩, .slice U ls.length uc, .bool il]) ?_ rfl ⟨_, rfl, ?_, ?_⟩
    · simp [results, Try.results48, go_sem, z0, z1, z2, z3]
    · exact ((((show Strs _ w.heap.size (.slice U ls.length uc) ls from (by with_reducible first | exact hSB | exact hSB.below hb2 | exact hSB.below hb3 | exact (hSB.below hb2).below hb3 | exact (hSB.below hb3).below hb2)).setFar _ _ _ hO).setFar _ _ _ hO).setFar _ _ _ hO).setFar _ _ _ hO
    · exact ((((show Below w.heap.size w _ from (by with_reducible first | exact B4 | exact B3 | exact B2)).setCell (Nat.le_succ _) _).setCell (Nat.le_succ _) _).setCell (Nat.le_succ _) _).setCell (Nat.le_succ _) _
end Go.Proofs.Ytongpnknmgbhjaa
