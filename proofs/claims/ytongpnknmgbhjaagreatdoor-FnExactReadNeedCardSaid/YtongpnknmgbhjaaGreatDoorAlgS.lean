/-
  spec.l04Long: how many bytes a sum of an algorithm has; texts put together.
-/
import Derived.Test.YtongpnknmgbhjaaGreatDoorHeap
import Derived.Deep.RegionHeld3
import Derived.Laws.DeepStrings4
import Derived.Test.YtongpnknmgbhjaaGreatDoorAlgM
namespace Go.Proofs.YtongpnknmgbhjaaGreatDoor
open Go.RowKit

/-- Two texts put together. -/
theorem add_lists (W : World) (x y : List UInt8) (hx : x.length ≤ 1073741824) (hy : y.length ≤ 1073741824) : (Op.stringOp .add ⟨x.toArray⟩ ⟨y.toArray⟩).run Tryz.prog W = .ok (.string ⟨(x ++ y).toArray⟩) W := by
  rw [run_string_add_sum W _ _ (by simp [ByteArray.size]; omega), ByteArray.mk_append_mk]
set_option maxRecDepth 100000 in
theorem l04Long_any (a : List UInt8) (w : World) : Calls Tryz.prog 145 #[.string ⟨a.toArray⟩] w fun e w' => e = .returned (.int .i64 (longI a)) ∧ w = w' := by
  by_cases h1 : a = sha1L
  · subst h1
    go_enter Tryz.func145, Tryz.ntmps145
    go_wp2
    go_ret
    exact ⟨rfl, rfl⟩
  · by_cases h2 : a = sha256L
    · subst h2
      go_enter Tryz.func145, Tryz.ntmps145
      go_wp2
      go_ret
      exact ⟨rfl, rfl⟩
    · by_cases h0 : a = h1L
      · subst h0
        go_enter Tryz.func145, Tryz.ntmps145
        go_wp2
        go_ret
        exact ⟨rfl, rfl⟩
      · by_cases h3 : a = sha512L
        · subst h3
          go_enter Tryz.func145, Tryz.ntmps145
          go_wp2
          go_ret
          exact ⟨rfl, rfl⟩
        · have HX : Hid (longI a = -1) := Lib.hid (by unfold longI; rw [if_neg h1, if_neg h2, if_neg h0, if_neg h3])
          have q1 : (a == [115, 104, 97, 49]) = false := by simpa [sha1L] using h1
          have q2 : (a == [115, 104, 97, 50, 53, 54]) = false := by simpa [sha256L] using h2
          have q3 : (a == [104, 49]) = false := by simpa [h1L] using h0
          have q4 : (a == [115, 104, 97, 53, 49, 50]) = false := by simpa [sha512L] using h3
          clear h1 h2 h0 h3
          go_enter Tryz.func145, Tryz.ntmps145
          go_wp2
          go_ret
          exact ⟨ret_int HX.out.symm, rfl⟩

theorem RdB.at {w : World} {A : Option Addr} {n cap : Nat} {bs : List Bd} (h : RdB w (.slice A n cap) bs) (k : Nat) (hk : k < bs.length) : ∃ g off, A = some ⟨g, off, none⟩ ∧ g < w.heap.size ∧ w.cell? ⟨g, off + k * 2, none⟩ = some (.string ⟨bs[k].1.toArray⟩) ∧ w.cell? ⟨g, off + k * 2 + 1, none⟩ = some (.string ⟨bs[k].2.toArray⟩) := by
  obtain ⟨A', ca', hv, ha⟩ := h
  simp only [Value.slice.injEq] at hv
  obtain ⟨rfl, _, rfl⟩ := hv
  obtain ⟨g, off, hA, hg, hc⟩ := ha (by omega)
  exact ⟨g, off, hA, hg, (hc k hk).1, (hc k hk).2⟩
theorem keep2 {W V : World} {A B o p : Nat} {v u : Value} (hb : Below W.heap.size W V) (h : W.cell? ⟨A, o, none⟩ = some v ∧ W.cell? ⟨B, p, none⟩ = some u) : V.cell? ⟨A, o, none⟩ = some v ∧ V.cell? ⟨B, p, none⟩ = some u := ⟨keepC hb h.1, keepC hb h.2⟩

end Go.Proofs.YtongpnknmgbhjaaGreatDoor
