/-
  What the walk of FnExactSetField leans on: the arguments' own variables, marks with their counts, the weights of a list with one field set.
-/
import Derived.Test.YtongpnknmgbhjaaSfS
import Derived.Test.YtongpnknmgbhjaaSfD
import Derived.Test.YtongpnknmgbhjaaFdE
import Derived.Test.YtongpnknmgbhjaaMkX
import Derived.Test.YtongpnknmgbhjaaMkF
namespace Go.Proofs.Ytongpnknmgbhjaa
open Go.RowKit

/-- The arguments' own variables as the law found them; nothing older than A has been written. -/
def ArgTF (w A : World) (t : Tb) (va : Value) (f : Fd) (fa : Value) (W : World) : Prop := W.heap[w.heap.size]? = some (.cells #[.string ⟨t.name.toArray⟩, va] 24) ∧ W.heap[w.heap.size + 1]? = some (.cells #[.string ⟨f.key.toArray⟩, .string ⟨f.text.toArray⟩, fa, .bool f.isl] 27) ∧ Below w.heap.size w W ∧ Below A.heap.size A W
theorem ArgTF.bel {w A : World} {t : Tb} {va : Value} {f : Fd} {fa : Value} {W : World} (h : ArgTF w A t va f fa W) : Below w.heap.size w W := h.2.2.1
theorem ArgTF.anc {w A : World} {t : Tb} {va : Value} {f : Fd} {fa : Value} {W : World} (h : ArgTF w A t va f fa W) : Below A.heap.size A W := h.2.2.2
theorem ArgTF.below {w A : World} {t : Tb} {va : Value} {f : Fd} {fa : Value} {W V : World} (h : ArgTF w A t va f fa W) (hb : Below W.heap.size W V) : ArgTF w A t va f fa V := ⟨keepB h.1 hb, keepB h.2.1 hb, h.bel.trans (hb.mono h.bel.size), h.anc.trans (hb.mono h.anc.size)⟩
theorem ArgTF.alloc {w A : World} {t : Tb} {va : Value} {f : Fd} {fa : Value} {W : World} (h : ArgTF w A t va f fa W) (o : Obj) : ArgTF w A t va f fa (W.alloc o) := h.below ((Below.refl _ _).alloc (Nat.le_refl _) o)
theorem ArgTF.here {w A : World} {t : Tb} {va : Value} {f : Fd} {fa : Value} {W : World} (h : ArgTF w A t va f fa W) : ArgTF w W t va f fa W := ⟨h.1, h.2.1, h.bel, Below.refl _ _⟩
theorem ArgTF.drew {w A : World} {t : Tb} {va : Value} {f : Fd} {fa : Value} {W : World} (h : ArgTF w A t va f fa W) : ArgTF w A t va f fa W.drew := h.below (below_drew _ _)
theorem ArgTF.set2 {w A : World} {t : Tb} {va : Value} {f : Fd} {fa : Value} {W : World} (h : ArgTF w A t va f fa W) (n : Nat) (hA : A.heap.size ≤ n) (hw : w.heap.size + 1 < n) (x0 x1 : Value) : ArgTF w A t va f fa ((W.setCell ⟨n, 0, none⟩ x0).setCell ⟨n, 1, none⟩ x1) :=
  ⟨heap_other (heap_other h.1 _ (by omega)) _ (by omega), heap_other (heap_other h.2.1 _ (by omega)) _ (by omega), (h.bel.setCell (by show w.heap.size ≤ n; omega) _).setCell (by show w.heap.size ≤ n; omega) _, (h.anc.setCell (by show A.heap.size ≤ n; omega) _).setCell (by show A.heap.size ≤ n; omega) _⟩
theorem set2G {V : World} {B : Nat} {T : TypeId} {v0 v1 : Value} (h : V.heap[B]? = some (.cells #[v0, v1] T)) (x0 x1 : Value) : ((V.setCell ⟨B, 0, none⟩ x0).setCell ⟨B, 1, none⟩ x1).heap[B]? = some (.cells #[x0, x1] T) := by
  have h1 := heap_setN (k := 0) h x0
  have h2 := heap_setN (k := 1) h1 x1
  simpa using h2

theorem FdsOwn.room {w : World} {base G c : Nat} {fs : List Fd} (h : FdsOwn w base (.slice (some ⟨G, 0, none⟩) fs.length c) fs) : fs.length ≤ c := by
  obtain ⟨G', cap', qs, hv, h1, h2, rfl, h4, h5⟩ := h
  simp only [Value.slice.injEq, Option.some.injEq, Addr.mk.injEq, and_true] at hv
  obtain ⟨rfl, _, rfl⟩ := hv
  rcases h4.2 with ⟨h0, _⟩ | ⟨g', cap', cur, hv, _, hh, hn, _, hsz, htk⟩
  · cases h0
  · simp only [Value.slice.injEq, Option.some.injEq, Addr.mk.injEq, and_true] at hv
    obtain ⟨_, _, rfl⟩ := hv
    simpa using hn
theorem smF_set (fs : List Fd) (k : Nat) (f : Fd) : smF (fs.set k f) ≤ smF fs + wF f := by
  induction fs generalizing k with
  | nil => simp [smF]
  | cons a l ih =>
    cases k with
    | zero => simp [smF]; omega
    | succ k => have := ih k; simp [smF] at this ⊢; omega
theorem smF_setF (fs : List Fd) (f : Fd) : smF (setF fs f) ≤ smF fs + wF f := by
  unfold setF
  split
  · exact smF_set _ _ _
  · simp [smF]
theorem cntX_of {fs : List Fd} {x : Nat → FdV} (hx : ∀ j (h : j < fs.length), (x j).1 = fs[j]) : ∀ k, k ≤ fs.length → cntX x k = cntF fs k
  | 0, _ => rfl
  | k + 1, h => by
    have ih := cntX_of hx k (by omega)
    unfold cntX cntF
    rw [ih, hx k (by omega), fs_getD (by omega : k < fs.length)]
theorem cntX_small {fs : List Fd} {f : Fd} {x : Nat → FdV} (hs : SmFs fs) (hf : SmFd f) (hx : ∀ j (h : j < (setF fs f).length), (x j).1 = (setF fs f)[j]) (k : Nat) (hk : k ≤ (setF fs f).length) : cntX x k ≤ 10000000 := by
  rw [cntX_of hx k hk]
  have h1 := cntF_le (setF fs f) k hk
  have h2 := smF_le (setF fs f) k
  have h3 := smF_setF fs f
  have h4 := setF_len fs f
  unfold SmFs at hs
  unfold SmFd at hf
  split at h4 <;> omega
theorem setF_short {fs : List Fd} {f : Fd} (hs : SmFs fs) : (setF fs f).length ≤ 1048600 := by
  have h4 := setF_len fs f
  unfold SmFs at hs
  split at h4 <;> omega
theorem setF_ne (fs : List Fd) (f : Fd) : setF fs f ≠ [] := by
  intro h
  have h4 := setF_len fs f
  rw [h] at h4
  have := atF_le fs f.key
  simp at h4
  split at h4 <;> omega

set_option maxRecDepth 100000 in
set_option maxHeartbeats 2000000 in
theorem markTable_v (lo hi : Nat) (v : Value) (t : Tb) (w : World) (hp : FdsS w lo hi v t.fields) (hw : hi ≤ w.heap.size) (hs : SmTb t) :
    Calls Try.prog 16 #[tbV t v, .int .i64 1] w fun e w' => ∃ z : Nat, e = .returned (.int .i64 (z : Int)) ∧ 1 ≤ z ∧ z ≤ 10000001 ∧ Mk lo hi w w' := by
  obtain ⟨A, ca, hv⟩ : ∃ A ca, v = .slice A t.fields.length ca := by obtain ⟨G, cap, cur, hv, _⟩ := hp; exact ⟨_, _, hv⟩
  subst hv
  unfold tbV
  have B0 : Below w.heap.size w (w.alloc (.cells #[.string ⟨t.name.toArray⟩, .slice A t.fields.length ca] 32)) := (Below.refl _ _).alloc (Nat.le_refl _) _
  have M0 : Mk lo hi w (w.alloc (.cells #[.string ⟨t.name.toArray⟩, .slice A t.fields.length ca] 32)) := Mk.of_below B0 hw
  have HP := Lib.hid (markFieldS_w lo hi 1 (.slice A t.fields.length ca) t.fields _ (hp.mk M0) (by have := M0.size; omega) hs.fields (by omega) (by omega))
  have HC := Lib.hid (cntF_small hs.fields t.fields.length (Nat.le_refl _))
  clear hp hs
  go_enter Try.func16, Try.ntmps16
  go_wp2_with fail
  refine HP.out.mono ?_
  rintro e w1 ⟨z, rfl, hm1, hzz⟩
  have z1 : 1 ≤ z := by omega
  have z2 : z ≤ 10000001 := by have := HC.out; omega
  clear hzz
  go_wp2_with fail
  go_ret
  exact ⟨z, rfl, z1, z2, M0.trans hm1⟩

set_option maxRecDepth 100000 in
set_option maxHeartbeats 1000000 in
theorem markField_v (s : Nat) (s1 : 1 ≤ s) (s2 : s ≤ 20000000) (f : Fd) (w : World) (base : Nat) (v : Value) (h : Strs w base v f.list) (hl : f.list.length ≤ 2000000) :
    Calls Try.prog 17 #[fdV f v, .int .i64 (s : Int)] w fun e w' => e = .returned (.int .i64 ((s + f.list.length : Nat) : Int)) ∧ w.grownBy w' v.ownBlock := by
  have HC := Lib.hid (markN_gr s s1 s2 _ base v f.list (h.alloc (.cells #[.string ⟨f.key.toArray⟩, .string ⟨f.text.toArray⟩, v, .bool f.isl] 35)) hl)
  unfold fdV
  go_enter Try.func17, Try.ntmps17
  go_wp2_with fail
  refine HC.out.mono ?_
  rintro e w' ⟨rfl, hS, hb⟩
  go_wp2_with fail
  go_ret
  exact ⟨rfl, gr_trans (gr_alloc _ _ _) hb⟩
end Go.Proofs.Ytongpnknmgbhjaa
