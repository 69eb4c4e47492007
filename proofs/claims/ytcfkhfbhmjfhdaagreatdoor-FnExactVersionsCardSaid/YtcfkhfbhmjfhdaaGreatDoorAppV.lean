/-
  append(versions, v): a struct of four cells onto a row of the call's own.
-/
import Derived.Test.YtcfkhfbhmjfhdaaGreatDoorLawB
import Derived.Lib.SliceRun
namespace Go.Proofs.YtcfkhfbhmjfhdaaGreatDoor
open Go.RowKit

theorem verinfo : (Tryz.prog.info? 74).map (fun i => (i.zero, i.size, i.bytes)) = some (some (.agg #[.int .i64 0, .int .i64 0, .int .i64 0, .slice none 0 0]), 4, 48) := by kernel_rfl

/-- A version's four cells. -/
def vc4 (p : Int × Int × Int × Value) : List Value := [.int .i64 p.1, .int .i64 p.2.1, .int .i64 p.2.2.1, p.2.2.2]
def flat4 (l : List (Int × Int × Int × Value)) : List Value := l.flatMap vc4
theorem flat4_app (l m : List (Int × Int × Int × Value)) : flat4 (l ++ m) = flat4 l ++ flat4 m := by simp [flat4]
theorem flat4_len (l : List (Int × Int × Int × Value)) : (flat4 l).length = l.length * 4 := by
  induction l with
  | nil => rfl
  | cons a l ih => simp only [flat4, List.flatMap_cons, List.length_append, List.length_cons] at ih ⊢; simp only [vc4, List.length_cons, List.length_nil]; omega

/-- v is the call's own row of these versions. -/
def Vers (w : World) (base : Nat) (v : Value) (l : List (Int × Int × Int × Value)) : Prop := w.ownsRow base 74 4 v l.length (flat4 l)

theorem run_append_ver (w : World) (ty : TypeId) (base : Nat) (v : Value) (l : List (Int × Int × Int × Value)) (hown : Vers w base v l) (B c : Nat) (T : TypeId) (fr : Nat × Nat) (x y z : Int) (s : Value) (hs : s.oneCell' = true)
    (hB : w.heap[B]? = some (.cells #[.int .i64 x, .int .i64 y, .int .i64 z, s] T fr)) (hlen : l.length + 1 ≤ 16777216) (hbase : base ≤ w.heap.size) :
    ∃ v' w', (Builtin.append_ #[78, 78] ty #[v, .slice (some ⟨B, 0, none⟩) 1 c]).run Tryz.prog w = .ok v' w' ∧ Vers w' base v' (l ++ [(x, y, z, s)]) ∧ w.grownBy w' v.ownBlock := by
  obtain ⟨i0, hi, hz0, hz1, hz2⟩ := info_parts verinfo
  obtain ⟨v', w', h1, h2, h3, _, _⟩ := run_append_own_at (P := Tryz.prog) w base 78 ty 74 i0 _ 4 48 Tryz.underlying78 hi hz0 hz1 hz2 rfl (by decide) v l.length (flat4 l) hown
    ⟨B, 0, none⟩ 1 c [.int .i64 x, .int .i64 y, .int .i64 z, s] (by rfl)
    (by
      intro j u hj
      rw [Go.WideShapes.add_plain]
      match j, hj with
      | 0, hj | 1, hj | 2, hj | 3, hj => simp at hj; subst hj; simp [World.cell?, hB]
      | n + 4, hj => simp at hj)
    (by intro u hu; simp at hu; rcases hu with rfl | rfl | rfl | rfl <;> first | rfl | exact hs) (by unfold maxLen; omega) (by omega) hbase
  refine ⟨v', w', h1, ?_, h3⟩
  unfold Vers
  rw [flat4_app, List.length_append]
  exact h2
end Go.Proofs.YtcfkhfbhmjfhdaaGreatDoor
