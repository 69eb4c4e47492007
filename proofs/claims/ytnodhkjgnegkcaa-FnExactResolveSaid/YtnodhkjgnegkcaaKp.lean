/-
  Two boxes that an iterator reads lie as they lay.
-/
import Derived.RangeFuncNested
import Derived.RangeFuncBound
import Derived.RangeFuncCalls
import Derived.RangeFuncLeaves
import Derived.Shelf.Abstract
import Derived.Shelf.RegionOpen
import Derived.WalkKit
import Derived.OwnWalkIn
import Derived.TacticsInMore
import Derived.LoopNIn
import Derived.LoopIn
import Derived.Sort.QuietIn
import Derived.Test.YtnodhkjgnegkcaaStr
namespace Go.Proofs.Ytnodhkjgnegkcaa
open Go.RowKit Go.Shelf

/-- The two boxes that the iterator reads lie as they lay. -/
def KpB (Bs Bm : Nat) (A B : World) : Prop := B.heap[Bs]? = A.heap[Bs]? ∧ B.heap[Bm]? = A.heap[Bm]?
theorem KpB.refl (Bs Bm : Nat) (A : World) : KpB Bs Bm A A := ⟨rfl, rfl⟩
theorem kpB_t {Bs Bm : Nat} {A B C : World} (h : KpB Bs Bm A B) (k : KpB Bs Bm B C) : KpB Bs Bm A C := ⟨k.1.trans h.1, k.2.trans h.2⟩
theorem KpB.of_grown {Bs Bm : Nat} {A B : World} {row : Option Nat} (hg : A.grownBy B row) (h1 : Bs < A.heap.size) (h2 : Bm < A.heap.size) (n1 : some Bs ≠ row) (n2 : some Bm ≠ row) : KpB Bs Bm A B := ⟨hg.block Bs h1 n1, hg.block Bm h2 n2⟩
theorem KpB.of_below {Bs Bm n : Nat} {A B : World} (h : Below n A B) (h1 : Bs < n) (h2 : Bm < n) : KpB Bs Bm A B := ⟨h.block Bs h1, h.block Bm h2⟩
theorem kpB_b {Bs Bm : Nat} {w : World} (h1 : Bs < w.heap.size) (h2 : Bm < w.heap.size) (W : World) (l : Nat) (o o' : Obj) (hl : w.heap.size ≤ l) (h : W.heap[l]? = some o) (_ : o.isCells = false) (_ : o.isWalk = false) : KpB Bs Bm W (W.putObj l o') := by
  have hlt := (Array.getElem?_eq_some_iff.1 h).1
  exact KpB.of_grown (grownBy_putObj' W l o') (by omega) (by omega) (fun e => by cases e; omega) (fun e => by cases e; omega)

theorem grown_drewN (W : World) (n : Nat) : W.grownBy (W.drewN n) none := ⟨rfl, rfl, rfl, Nat.le_refl _, fun _ _ _ => rfl⟩
end Go.Proofs.Ytnodhkjgnegkcaa
