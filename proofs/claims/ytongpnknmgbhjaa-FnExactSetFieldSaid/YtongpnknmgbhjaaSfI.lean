/-
  impl.SetField.
-/
import Derived.Test.YtongpnknmgbhjaaFdW
import Derived.Test.YtongpnknmgbhjaaFdI
namespace Go.Proofs.Ytongpnknmgbhjaa
open Go.RowKit

theorem FsRow.weaken {w : World} {base base' : Nat} {v : Value} {fs : List Fd} (h : FsRow w base v fs) (hb : base' ≤ base) : FsRow w base' v fs := by
  obtain ⟨qs, h1, h2, h3⟩ := h
  refine ⟨qs, h1, ⟨h2.1, ?_⟩, fun q hq => ⟨(h3 q hq).1.weaken hb, (h3 q hq).2⟩⟩
  rcases h2.2 with h | ⟨g, cap, cur, hv, hg, hh, hr⟩
  · exact .inl h
  · exact .inr ⟨g, cap, cur, hv, Nat.le_trans hb hg, hh, hr⟩
theorem setF_eq (fs : List Fd) (f : Fd) : fs.take (atF fs f.key) ++ [f] ++ fs.drop (atF fs f.key + 1) = setF fs f := by
  have h := atF_le fs f.key
  unfold setF
  split
  · rename_i h1
    rw [List.set_eq_take_append_cons_drop, if_pos h1]; simp
  · rename_i h1
    rw [List.take_of_length_le (by omega), List.drop_eq_nil_of_le (by omega)]; simp
theorem setF_small {fs : List Fd} {f : Fd} (hs : SmFs fs) (hf : SmFd f) : ∀ x ∈ setF fs f, SmFd x := by
  intro x hx
  rw [← setF_eq] at hx
  have mem : ∀ y ∈ fs, SmFd y := fun y hy => by obtain ⟨k, hk, rfl⟩ := List.mem_iff_getElem.1 hy; exact hs.get k hk
  rcases List.mem_append.1 hx with hx | hx
  · rcases List.mem_append.1 hx with hx | hx
    · exact mem x (List.mem_of_mem_take hx)
    · simp at hx; subst hx; exact hf
  · exact mem x (List.mem_of_mem_drop hx)
theorem findF_at (fs : List Fd) (key : List UInt8) : (findF fs key = -1 ∧ atF fs key = fs.length) ∨ (findF fs key = (atF fs key : Int) ∧ atF fs key < fs.length) := by
  unfold findF atF
  cases h : fs.findIdx? (fun f => f.key == key) with
  | none => left; simp
  | some k => right; obtain ⟨hk, _⟩ := List.findIdx?_eq_some_iff_getElem.1 h; simp; exact hk

set_option maxRecDepth 100000 in
set_option maxHeartbeats 4000000 in
theorem implSetField_any (tn : List UInt8) (fs : List Fd) (g off ca : Nat) (f : Fd) (B : Option Addr) (cb : Nat) (w : World) (hr : RdFs w (.slice (some ⟨g, off, none⟩) fs.length ca) fs) (hca : fs.length ≤ ca) (hs : SmTb ⟨tn, fs⟩) (hf : RdS w (.slice B f.list.length cb) f.list) (sf : SmFd f) :
    Calls Try.prog 13 #[tbV ⟨tn, fs⟩ (.slice (some ⟨g, off, none⟩) fs.length ca), fdV f (.slice B f.list.length cb)] w fun e w' => ∃ u, e = .returned (tbV ⟨tn, fs⟩ u) ∧ FsRow w' w.heap.size u (setF fs f) ∧ Below w.heap.size w w' := by
  have hl : fs.length ≤ 1048576 := by have := hs.fields; unfold SmFs at this; simp only at this; omega
  have HI := Lib.hid (fun (W : World) (h : Below w.heap.size w W) => fieldAt_any ⟨tn, fs⟩ (.slice (some ⟨g, off, none⟩) fs.length ca) f.key W (hr.below h) hs)
  have HW := Lib.hid (fun (W : World) (h : Below w.heap.size w W) => withFields_any g off ca (atF fs f.key) fs f B cb W (hr.below h) hca hl (atF_le _ _) (hf.below h))
  have HN := Lib.hid (fun W => clone_any ⟨tn.toArray⟩ W (by rw [size_of]; exact hs.name))
  have HC := Lib.hid (fun (u : Value) (W : World) (h : RdFs W u (setF fs f)) => copiedFields_any u (setF fs f) W h (by rw [setF_len]; split <;> omega) (setF_small hs.fields sf))
  have hcs := findF_at fs f.key
  simp only [setF_eq] at HW
  unfold tbV fdV at *
  simp only at HI hcs
  clear hr hs hf sf hl hca
  have B0 : Below w.heap.size w (((w.alloc (.cells #[.string ⟨tn.toArray⟩, .slice (some ⟨g, off, none⟩) fs.length ca] 32)).alloc (.cells #[.string ⟨f.key.toArray⟩, .string ⟨f.text.toArray⟩, .slice B f.list.length cb, .bool f.isl] 35)).alloc (.cells #[.string ⟨#[]⟩, .slice none 0 0] 32)) := (((Below.refl _ _).alloc (Nat.le_refl _) _).alloc (by simp) _).alloc (by simp; omega) _
  have b0 := keepA (keepA (heap_alloc_new w (.cells #[.string ⟨tn.toArray⟩, .slice (some ⟨g, off, none⟩) fs.length ca] 32)) (.cells #[.string ⟨f.key.toArray⟩, .string ⟨f.text.toArray⟩, .slice B f.list.length cb, .bool f.isl] 35)) (.cells #[.string ⟨#[]⟩, .slice none 0 0] 32)
  have b1 := keepA (heap_new (W := w.alloc (.cells #[.string ⟨tn.toArray⟩, .slice (some ⟨g, off, none⟩) fs.length ca] 32)) (n := w.heap.size + 1) (by simp) (.cells #[.string ⟨f.key.toArray⟩, .string ⟨f.text.toArray⟩, .slice B f.list.length cb, .bool f.isl] 35)) (.cells #[.string ⟨#[]⟩, .slice none 0 0] 32)
  have b2 := heap_new (W := (w.alloc (.cells #[.string ⟨tn.toArray⟩, .slice (some ⟨g, off, none⟩) fs.length ca] 32)).alloc (.cells #[.string ⟨f.key.toArray⟩, .string ⟨f.text.toArray⟩, .slice B f.list.length cb, .bool f.isl] 35)) (n := w.heap.size + 1 + 1) (by simp) (.cells #[.string ⟨#[]⟩, .slice none 0 0] 32)
  go_enter Try.func13, Try.ntmps13
  go_wp2_with fail
  generalize ((w.alloc (.cells #[.string ⟨tn.toArray⟩, .slice (some ⟨g, off, none⟩) fs.length ca] 32)).alloc (.cells #[.string ⟨f.key.toArray⟩, .string ⟨f.text.toArray⟩, .slice B f.list.length cb, .bool f.isl] 35)).alloc (.cells #[.string ⟨#[]⟩, .slice none 0 0] 32) = W0 at B0 b0 b1 b2 ⊢
  refine (HI.out _ B0).mono ?_
  rintro e w1 ⟨rfl, hb1⟩
  have y0 := keepB b0 hb1
  have y1 := keepB b1 hb1
  have y2 := keepB b2 hb1
  have B1 := B0.trans (hb1.mono B0.size)
  obtain ⟨x0, x1⟩ := cellsG y0
  obtain ⟨z0, z1, z2, z3⟩ := cells4 y1
  generalize findF fs f.key = r at hcs ⊢
  generalize atF fs f.key = m at hcs HW
  clear b0 b1 b2 B0
  rcases hcs with ⟨rfl, rfl⟩ | ⟨rfl, hm⟩
  all_goals
    go_wp2_with fail
    refine (HW.out _ B1).mono ?_
    rintro e w2 ⟨u, rfl, hU, hb2⟩
    have v0 := keepB y0 hb2
    have v2 := keepB y2 hb2
    have B2 := B1.trans (hb2.mono B1.size)
    obtain ⟨p0, p1⟩ := cellsG v0
    go_wp2_with fail
    refine (HN.out _).mono ?_
    rintro e w3 ⟨rfl, hb3⟩
    have B3 := B2.trans (hb3.mono B2.size)
    have u2 := keepB v2 hb3
    have hU3 := hU.below hb3
    go_wp2_with fail
    refine (HC.out u _ hU3).mono ?_
    rintro e w4 ⟨r, rfl, hR, hb4⟩
    have B4 := B3.trans (hb4.mono B3.size)
    have t2 := keepB u2 hb4
    have l2 := lt_of_heap u2
    obtain ⟨q0, q1⟩ := cellsG t2
    have fz := frozenG t2
    have l4 := lt_of_heap t2
    obtain ⟨K, kc, rfl⟩ := hR.slice
    go_wp2_with fail
    refine bodyPost_ret (v := .agg #[.string ⟨tn.toArray⟩, .slice K (setF fs f).length kc]) ?_ rfl ⟨_, rfl, ?_, (B4.setCell (by show w.heap.size ≤ w.heap.size + 1 + 1; omega) _).setCell (by show w.heap.size ≤ w.heap.size + 1 + 1; omega) _⟩
    · simp [results, Try.results13, go_sem, q0, q1]
    · exact ((hR.far _ _ _ l2).far _ _ _ l2).weaken B3.size
end Go.Proofs.Ytongpnknmgbhjaa
