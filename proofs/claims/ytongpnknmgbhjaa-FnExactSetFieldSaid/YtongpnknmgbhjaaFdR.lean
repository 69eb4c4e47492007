/-
  Fields that read as a row of cells; append to a foreign list that has no room, and of a foreign list behind an own row.
-/
import Derived.Test.YtongpnknmgbhjaaFdCp
namespace Go.Proofs.Ytongpnknmgbhjaa
open Go.RowKit

theorem flatF_append (l m : List FdV) : flatF (l ++ m) = flatF l ++ flatF m := by
  induction l with
  | nil => rfl
  | cons a t ih => simp only [List.cons_append, flatF, ih]
theorem flatF_one {l : List FdV} (h : ∀ q ∈ l, q.2.oneCell' = true) : ∀ u ∈ flatF l, u.oneCell' = true := by
  induction l with
  | nil => intro u hu; cases hu
  | cons a t ih =>
    intro u hu
    simp only [flatF, List.mem_cons] at hu
    rcases hu with rfl | rfl | rfl | rfl | hu
    · rfl
    · rfl
    · exact h a (by simp)
    · rfl
    · exact ih (fun q hq => h q (by simp [hq])) u hu
theorem rows_of {w : World} {g : Nat} : ∀ (fs : List Fd) (off : Nat), (∀ k (h : k < fs.length), FdAt w g (off + k * 4) fs[k]) → ∃ qs : List FdV, qs.map (·.1) = fs ∧ (∀ j u, (flatF qs)[j]? = some u → w.cell? ⟨g, off + j, none⟩ = some u) ∧ ∀ q ∈ qs, RdS w q.2 q.1.list
  | [], off, _ => ⟨[], rfl, fun j u h => by simp [flatF] at h, fun q h => by cases h⟩
  | f :: t, off, h => by
    obtain ⟨a, c0, c1, c2, c3, ra⟩ := h 0 (by simp)
    obtain ⟨qs, h1, h2, h3⟩ := rows_of t (off + 4) (fun k hk => by
      have := h (k + 1) (by simpa using hk)
      rw [show off + (k + 1) * 4 = off + 4 + k * 4 by omega] at this
      simpa using this)
    simp only [Nat.zero_mul, Nat.add_zero, List.getElem_cons_zero] at c0 c1 c2 c3 ra
    refine ⟨(f, a) :: qs, by simp [h1], fun j u hj => ?_, fun q hq => ?_⟩
    · match j, hj with
      | 0, hj => simp [flatF] at hj; subst hj; exact c0
      | 1, hj => simp [flatF] at hj; subst hj; exact c1
      | 2, hj => simp [flatF] at hj; subst hj; exact c2
      | 3, hj => simp [flatF] at hj; subst hj; exact c3
      | j + 4, hj =>
        have := h2 j u (by simpa [flatF] using hj)
        rw [show off + (j + 4) = off + 4 + j by omega]
        exact this
    · rcases List.mem_cons.1 hq with rfl | hq
      · exact ra
      · exact h3 q hq
theorem RdS.one {w : World} {v : Value} {ls : List (List UInt8)} (h : RdS w v ls) : v.oneCell' = true := by obtain ⟨A, c, rfl, _⟩ := h; rfl

set_option maxRecDepth 100000 in
/-- append(l[:n:n], f): a new row that holds what lay in l, then f. -/
theorem run_append_full (w : World) (ty : TypeId) (g off : Nat) (l : List FdV) (hl : ∀ j u, (flatF l)[j]? = some u → w.cell? ⟨g, off + j, none⟩ = some u) (x : FdV) (B c : Nat) (t : TypeId) (fr : Nat × Nat)
    (hblk : w.heap[B]? = some (.cells #[.string ⟨x.1.key.toArray⟩, .string ⟨x.1.text.toArray⟩, x.2, .bool x.1.isl] t fr)) (hlen : l.length + 1 ≤ 2097152) :
    ∃ cap w', (Builtin.append_ #[75, 75] ty #[.slice (some ⟨g, off, none⟩) l.length l.length, .slice (some ⟨B, 0, none⟩) 1 c]).run Try.prog w = .ok (.slice (some ⟨w.heap.size, 0, none⟩) (l.length + 1) cap) w' ∧ Fields w' w.heap.size (.slice (some ⟨w.heap.size, 0, none⟩) (l.length + 1) cap) (l ++ [x]) ∧ Below w.heap.size w w' := by
  obtain ⟨i0, hi, hz0, hz1, hz2⟩ := info_parts fdinfo
  have hadd : ∀ j, (⟨g, off, none⟩ : Addr).add j = ⟨g, off + j, none⟩ := fun j => by unfold Addr.add; split <;> simp_all
  have hr := run_append_grow (P := Try.prog) w 75 ty 35 i0 (.agg #[.string ⟨#[]⟩, .string ⟨#[]⟩, .slice none 0 0, .bool false]) Try.underlying75 hi hz0
    ⟨g, off, none⟩ l.length l.length (flatF l) (by rw [flatF_len, hz1]) (fun j u h => by rw [hadd]; exact hl j u h)
    ⟨B, 0, none⟩ 1 c [.string ⟨x.1.key.toArray⟩, .string ⟨x.1.text.toArray⟩, x.2, .bool x.1.isl] (by rw [hz1]; rfl) (World.news_of_block hblk) (by omega) (by omega) (growslice_fits (by omega) (by rw [hz2]; omega))
  have hge := grownCap_ge w (l.length + 1) l.length 35
  have hcm : grownCap w (l.length + 1) l.length 35 ≤ maxLen := grownCap_le_maxLen w (l.length + 1) l.length 35 (by unfold maxLen; omega)
  refine ⟨_, _, hr, ?_, (below_drew w.heap.size w).alloc (Nat.le_refl _) _⟩
  unfold Fields
  rw [List.length_append]
  refine ⟨?_, .inr ⟨w.heap.size, _, _, rfl, Nat.le_refl _, heap_alloc_new w.drew _, ?_, hcm, ?_, ?_⟩⟩
  · rw [flatF_len, List.length_append]
  · simpa using hge
  · simp only [Array.size_append, List.size_toArray, size_zeroCells, flatF_len]
    simp [Value.cells]
    omega
  · rw [flatF_app]
    simp only [Array.toList_append, List.append_assoc]
    rw [← List.append_assoc]
    have e : (l.length + [x].length) * 4 = (flatF l ++ [.string ⟨x.1.key.toArray⟩, .string ⟨x.1.text.toArray⟩, x.2, .bool x.1.isl]).length := by simp [flatF_len]; omega
    rw [e]
    exact List.take_left
end Go.Proofs.Ytongpnknmgbhjaa
