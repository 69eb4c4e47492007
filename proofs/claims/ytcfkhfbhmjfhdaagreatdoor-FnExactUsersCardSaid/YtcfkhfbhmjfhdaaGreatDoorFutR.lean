/-
  A region that draws its order, whose operations only read and whose callees only make memory: one walk in the order of the text, in the class of all worlds that have grown from here.
-/
import Derived.Test.YtcfkhfbhmjfhdaaGreatDoorHeap
import Derived.Deep.QuietTactic
import Derived.BigQuiet
namespace Go.Proofs.YtcfkhfbhmjfhdaaGreatDoor
open Go.RowKit

/-- A world that has grown from w. -/
structure Fut (w : World) where
  out : World
  bel : Below w.heap.size w out
instance (w : World) : Nonempty (Fut w) := ⟨⟨w, Below.refl _ _⟩⟩
theorem fut_cell {w : World} {A o : Nat} {v : Value} (h : w.cell? ⟨A, o, none⟩ = some v) (F : Fut w) : F.out.cell? ⟨A, o, none⟩ = some v := keepC F.bel h
theorem fut_call {P : Program} {f : FuncId} {args : Array Value} {w : World} {F : Fut w} {v : Value}
    (h : Calls P f args F.out fun e w' => e = .returned v ∧ Below F.out.heap.size F.out w') : Calls P f args F.out fun e w'' => e = .returned v ∧ ∃ F' : Fut w, w'' = F'.out :=
  h.mono fun _ _ ⟨he, hb⟩ => ⟨he, ⟨_, F.bel.trans (hb.mono F.bel.size)⟩, rfl⟩
theorem wp_region_fut {P : Program} {id : Nat} {Q : Exit → Act → World → Prop} {a : Act} {w : World} {l : List Oper} (hm : P.follows .mixedOrders = true) (hB : Region.lexB .any l.toArray = true)
    (h : wpQuiet P l.toArray (fun w' => ∃ F : Fut w, w' = F.out) (fun a' => ∀ w', (∃ F : Fut w, w' = F.out) → Q .normal a' w') l a) : (Code.region id l.toArray true).wp P Q a w :=
  wp_region_quiet (C := fun w' => ∃ F : Fut w, w' = F.out) hm hB ⟨⟨_, below_drew _ w⟩, rfl⟩ (by simpa using h)
end Go.Proofs.YtcfkhfbhmjfhdaaGreatDoor
