/-
  The cursor of the program: upTo reads as far as a mark, done tells whether all is read.
-/
import Derived.Test.YtldfkdkppgammaaLaysCut
import Derived.Test.YtldfkdkppgammaaSpdM
import Derived.Test.YtldfkdkppgammaaHeap
import Derived.Test.YtldfkdkppgammaaGrw
import Derived.Test.YtldfkdkppgammaaBytesStr
namespace Go.Proofs.Ytldfkdkppgammaa
open Go.RowKit

theorem index_one (m : UInt8) : ∀ l : List UInt8, Lib.index l [m] = Lib.indexByte l m
  | [] => rfl
  | c :: l => by
    have ih := index_one m l
    unfold Lib.index
    by_cases h : c = m
    · subst h; simp [Lib.indexByte]
    · rw [idx_miss l h, ih]
      have : ([m].isPrefixOf (c :: l)) = false := by simp [List.isPrefixOf]; exact fun e => h e.symm
      rw [if_neg (by rw [this]; simp)]
      simp
theorem cut_one (m : UInt8) (l : List UInt8) : (Lib.cut l [m]).1 = cutA m l ∧ (Lib.cut l [m]).2.1 = cutB m l := by
  unfold Lib.cut cutA cutB
  rw [index_one]
  split <;> simp

/-- strings.Cut at any mark: the cell of MaxLen holds some number. -/
theorem cut_any (s sep : List UInt8) (m : Int) (w : World) (hs : s.length ≤ 1048576) (hm : w.cell? ⟨0, 0, none⟩ = some (.int .i64 m)) :
    Calls Try.prog 107 #[.string ⟨s.toArray⟩, .string ⟨sep.toArray⟩] w fun e w' => e = .returned (.tuple #[.string ⟨(Lib.cut s sep).1.toArray⟩, .string ⟨(Lib.cut s sep).2.1.toArray⟩, .bool (Lib.cut s sep).2.2]) ∧ ∃ n, w' = w.drewN n :=
  Any.strings_Cut { Try.laysCut with } ⟨s.toArray⟩ ⟨sep.toArray⟩ m w (by show s.toArray.size < _; simp; omega) hm

theorem cells1 {V : World} {B : Nat} {T : TypeId} {v0 : Value} (h : V.heap[B]? = some (.cells #[v0] T)) : V.cell? ⟨B, 0, none⟩ = some v0 := by simp [World.cell?, h]
theorem frozen1 {V : World} {B : Nat} {T : TypeId} {v0 : Value} (h : V.heap[B]? = some (.cells #[v0] T)) (o : Nat) : V.frozen? ⟨B, o, none⟩ = false := by simp [World.frozen?, h]
theorem heap_one {V : World} {B : Nat} {T : TypeId} {v0 : Value} (h : V.heap[B]? = some (.cells #[v0] T)) (x : Value) : (V.setCell ⟨B, 0, none⟩ x).heap[B]? = some (.cells #[x] T) := by
  rw [heap_setCell_same V B 0 #[v0] T x h]; rfl
theorem far_text {V : World} {q G : Nat} {T : TypeId} {l : List UInt8} {m : Int} (h : V.heap[q]? = some (.cells #[.string ⟨l.toArray⟩] T)) (hm : V.cell? ⟨G, 0, none⟩ = some (.int .i64 m)) : G ≠ q := by
  rintro rfl
  rw [cells1 h] at hm
  cases hm

/-- What upTo leaves: the rest in the cursor's cell, all else as it was. -/
def CurTo (q : Nat) (T : TypeId) (w : World) (r : List UInt8) (w' : World) : Prop := w'.heap[q]? = some (.cells #[.string ⟨r.toArray⟩] T) ∧ w.grownBy w' (some q) ∧ w'.heap.size = w.heap.size
theorem CurTo.max {q : Nat} {T T' : TypeId} {w w' : World} {r l : List UInt8} {m : Int} (h : CurTo q T w r w') (hq : w.heap[q]? = some (.cells #[.string ⟨l.toArray⟩] T')) (hm : w.cell? ⟨0, 0, none⟩ = some (.int .i64 m)) : w'.cell? ⟨0, 0, none⟩ = some (.int .i64 m) :=
  h.2.1.cell hm (fun e => far_text hq hm (by cases e; rfl))
theorem Buf.far {w w' : World} {base : Nat} {v : Value} {l : List UInt8} {q : Nat} (h : Buf w base v l) (hg : w.grownBy w' (some q)) (hq : q < base) : Buf w' base v l :=
  World.ownsRow.kept h hg (by
    rcases h.form with ⟨rfl, _⟩ | ⟨g, cap, rfl, hb, _⟩
    · left; rfl
    · right; simp [Value.ownBlock]; omega)

set_option maxRecDepth 100000 in
set_option maxHeartbeats 1000000 in
theorem upTo_any (q : Nat) (T : TypeId) (l sep : List UInt8) (m : Int) (w : World) (hl : l.length ≤ 1048576) (hq : w.heap[q]? = some (.cells #[.string ⟨l.toArray⟩] T)) (hm : w.cell? ⟨0, 0, none⟩ = some (.int .i64 m)) :
    Calls Try.prog 85 #[.pointer (some ⟨q, 0, none⟩), .string ⟨sep.toArray⟩] w fun e w' => e = .returned (.string ⟨(Lib.cut l sep).1.toArray⟩) ∧ CurTo q T w (Lib.cut l sep).2.1 w' := by
  have HC := Lib.hid (cut_any l sep m w hl hm)
  have c0 := cells1 hq
  have f0 := frozen1 hq
  have HQ := Lib.hid hq
  clear hq hm
  go_enter Try.func85, Try.ntmps85
  go_wp2_with fail
  refine HC.out.mono ?_
  rintro e w1 ⟨rfl, n, rfl⟩
  go_wp2_with fail
  go_ret
  exact ⟨rfl, heap_one HQ.out _, gr_trans (gr_below (below_drewN _ _ n)) (gr_set _ q 0 _), by simp⟩

set_option maxRecDepth 100000 in
set_option maxHeartbeats 1000000 in
theorem done_any (q : Nat) (T : TypeId) (l : List UInt8) (w : World) (hq : w.heap[q]? = some (.cells #[.string ⟨l.toArray⟩] T)) :
    Calls Try.prog 86 #[.pointer (some ⟨q, 0, none⟩)] w fun e w' => e = .returned (.bool l.isEmpty) ∧ w = w' := by
  have c0 := cells1 hq
  clear hq
  go_enter Try.func86, Try.ntmps86
  go_wp2_with fail
  go_ret
  exact ⟨rfl, rfl⟩
end Go.Proofs.Ytldfkdkppgammaa
