/-
  impl.FieldOf.
-/
import Derived.Test.YthlbpklllphhcaaFdC
namespace Go.Proofs.Ythlbpklllphhcaa
open Go.RowKit

/-- What FieldOf hands back. -/
def FoIs (r : Fd) (ok : Bool) (w : World) (e : Ending) (w' : World) : Prop := ∃ u, e = .returned (.tuple #[fdV r u, .bool ok]) ∧ Strs w' w.heap.size u r.list ∧ Below w.heap.size w w'

set_option maxRecDepth 100000 in
set_option maxHeartbeats 4000000 in
theorem implFieldOf_any (t : Tb) (v : Value) (key : List UInt8) (w : World) (hp : RdFs w v t.fields) (hs : SmTb t) :
    Calls Try.prog 31 #[tbV t v, .string ⟨key.toArray⟩] w (FoIs (fieldOf t.fields key).1 (fieldOf t.fields key).2 w) := by
  have HC := Lib.hid (fun (W : World) (h : Below w.heap.size w W) => fieldAt_any t v key W (hp.below h) hs)
  have HR := Lib.hid hp
  have HS := Lib.hid hs.fields
  have hl : t.fields.length ≤ 1048576 := by have := hs.fields; unfold SmFs at this; omega
  obtain ⟨A, ca, rfl⟩ := hp.slice
  obtain ⟨tn, fs⟩ := t
  unfold tbV at *
  simp only at HC HR HS hl ⊢
  clear hp hs
  have B0 : Below w.heap.size w ((w.alloc (.cells #[.string ⟨tn.toArray⟩, .slice A fs.length ca] 52)).alloc (.cells #[.string ⟨#[]⟩, .string ⟨#[]⟩, .slice none 0 0, .bool false] 47)) := ((Below.refl _ _).alloc (Nat.le_refl _) _).alloc (by simp) _
  have b0 := keepA (heap_alloc_new w (.cells #[.string ⟨tn.toArray⟩, .slice A fs.length ca] 52)) (.cells #[.string ⟨#[]⟩, .string ⟨#[]⟩, .slice none 0 0, .bool false] 47)
  have b1 := heap_new (W := w.alloc (.cells #[.string ⟨tn.toArray⟩, .slice A fs.length ca] 52)) (n := w.heap.size + 1) (by simp) (.cells #[.string ⟨#[]⟩, .string ⟨#[]⟩, .slice none 0 0, .bool false] 47)
  have hcs := findF_cases fs key
  obtain ⟨z, HZ⟩ : ∃ z, Hid (findF fs key = z) := ⟨_, Lib.hid rfl⟩
  obtain ⟨rr, HRR⟩ : ∃ rr, Hid (fieldOf fs key = rr) := ⟨_, Lib.hid rfl⟩
  simp only [HZ.out, HRR.out] at hcs HC ⊢
  rcases hcs with ⟨rfl, rfl⟩ | ⟨k, hk, rfl, rfl⟩
  · go_enter Try.func31, Try.ntmps31
    go_wp2_with fail
    refine (HC.out _ B0).mono ?_
    rintro e w1 ⟨rfl, hb1⟩
    have y1 := keepB b1 hb1
    have B1 := B0.trans (hb1.mono B0.size)
    obtain ⟨x0, x1, x2, x3⟩ := cells4 y1
    have fz := frozen4 y1
    go_wp2_with fail
    refine bodyPost_ret (v := .tuple #[.agg #[.string ⟨#[]⟩, .string ⟨#[]⟩, .slice none 0 0, .bool false], .bool false]) ?_ rfl ⟨_, rfl, Strs.nil _ _, ?_⟩
    · simp [results, Try.results31, go_sem, x0, x1, x2, x3]
    · exact (((B1.setCell (Nat.le_succ _) _).setCell (Nat.le_succ _) _).setCell (Nat.le_succ _) _).setCell (Nat.le_succ _) _
  · have k0 : (0 : Int) ≤ (k : Int) := by omega
    have k1 : (k : Int) < (fs.length : Int) := by omega
    go_enter Try.func31, Try.ntmps31
    go_wp2_with fail
    refine (HC.out _ B0).mono ?_
    rintro e w1 ⟨rfl, hb1⟩
    have y0 := keepB b0 hb1
    have y1 := keepB b1 hb1
    have B1 := B0.trans (hb1.mono B0.size)
    obtain ⟨x0, x1⟩ := cellsG y0
    obtain ⟨g, off, rfl, hg, a, d0, d1, d2, d3, ra⟩ := (HR.out.below B1).at k hk
    have HCP := Lib.hid (copyField_any fs[k] a w1 ra (HS.out.get k hk))
    have hsz : w.heap.size + 1 < w1.heap.size := lt_of_heap y1
    obtain ⟨A1, c1, rfl⟩ := ra.slice
    clear ra hb1 b0 b1 B0
    go_wp2_with fail
    refine HCP.out.mono ?_
    rintro e w2 ⟨u, rfl, hS, hb2⟩
    have z1 := keepB y1 hb2
    have B2 := B1.trans (hb2.mono B1.size)
    have hO : ∀ g, u.ownBlock = some g → g ≠ w.heap.size + 1 := fun g hg => by have := hS.owned g hg; omega
    have hSB := hS.weaken (base' := w.heap.size) B1.size
    obtain ⟨U, uc, rfl⟩ := hS.slice
    obtain ⟨q0, q1, q2, q3⟩ := cells4 z1
    have fz := frozen4 z1
    clear hS hb2 y0 y1 d0 d1 d2 d3 x0 x1
    go_wp2_with fail
    refine bodyPost_ret (v := .tuple #[.agg #[.string ⟨fs[k].key.toArray⟩, .string ⟨fs[k].text.toArray⟩, .slice U fs[k].list.length uc, .bool fs[k].isl], .bool true]) ?_ rfl ⟨_, rfl, ?_, ?_⟩
    · simp [results, Try.results31, go_sem, q0, q1, q2, q3]
    · exact (((hSB.setFar _ _ _ hO).setFar _ _ _ hO).setFar _ _ _ hO).setFar _ _ _ hO
    · exact (((B2.setCell (Nat.le_succ _) _).setCell (Nat.le_succ _) _).setCell (Nat.le_succ _) _).setCell (Nat.le_succ _) _
end Go.Proofs.Ythlbpklllphhcaa
