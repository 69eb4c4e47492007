/-
  Lines of both sides return the parts between line ends, without an empty last one.
-/
import Derived.Test.YtebilgnaiamfpaaWords
namespace Go.Proofs.Ytebilgnaiamfpaa
open Go.RowKit

/-- The lines: the parts, the last left out where it is empty. -/
def linesL (l : List UInt8) : List (List UInt8) := if (cutL 10 l)[(cutL 10 l).length - 1]? = some [] then (cutL 10 l).dropLast else cutL 10 l

theorem linesL_le (l : List UInt8) : (linesL l).length ≤ l.length + 1 := by
  have := cutL_le 10 l
  unfold linesL
  split
  · simp; omega
  · exact this

/-- The first n of the texts, in the same row. -/
theorem Strs.cut {w : World} {base g n cap : Nat} {ls : List (List UInt8)} (h : Strs w base (.slice (some ⟨g, 0, none⟩) n cap) ls) (k : Nat) (hk : k ≤ ls.length) :
    Strs w base (.slice (some ⟨g, 0, none⟩) (ls.take k).length cap) (ls.take k) := by
  unfold Strs at h ⊢
  rcases h.2 with ⟨h', _⟩ | ⟨g', cap', cur, h', hb, hg, hnc, hcm, hcs, htake⟩
  · cases h'
  · simp only [Value.slice.injEq, Option.some.injEq, Addr.mk.injEq, and_true] at h'
    obtain ⟨rfl, hn, rfl⟩ := h'
    have hl : (ls.take k).length = k := by simp; omega
    refine ⟨by simp, .inr ⟨g, cap, cur, rfl, hb, hg, by omega, hcm, hcs, ?_⟩⟩
    rw [hl, List.map_take, ← htake, List.take_take]
    congr 1
    omega
theorem Strs.room {w : World} {base g n cap : Nat} {ls : List (List UInt8)} (h : Strs w base (.slice (some ⟨g, 0, none⟩) n cap) ls) : ls.length ≤ cap ∧ n = ls.length := by
  rcases h.2 with ⟨h', _⟩ | ⟨g', cap', cur, h', hb, hg, hnc, hcm, hcs, htake⟩
  · cases h'
  · simp only [Value.slice.injEq, Option.some.injEq, Addr.mk.injEq, and_true] at h'
    obtain ⟨rfl, hn, rfl⟩ := h'
    exact ⟨hnc, hn⟩

set_option maxRecDepth 100000 in
theorem specLines_any (s : ByteArray) (w : World) (hs : s.size ≤ 1048576) :
    Calls Try.prog 24 #[.string s] w fun e W' => ∃ g cap, e = .returned (.slice (some ⟨g, 0, none⟩) (linesL s.data.toList).length cap) ∧ Strs W' w.heap.size (.slice (some ⟨g, 0, none⟩) (linesL s.data.toList).length cap) (linesL s.data.toList) ∧ Below w.heap.size w W' := by
  have HLE := Lib.hid (cutL_le 10 s.data.toList)
  have HL : Hid (linesL s.data.toList = if (cutL 10 s.data.toList)[(cutL 10 s.data.toList).length - 1]? = some [] then (cutL 10 s.data.toList).dropLast else cutL 10 s.data.toList) := Lib.hid rfl
  have hne := cutL_ne 10 s.data.toList
  have HC := Lib.hid (l01Cut_any s 10 w hs)
  generalize linesL s.data.toList = L at HL ⊢
  generalize cutL 10 s.data.toList = ls at HLE HL HC hne
  have hpos : 0 < ls.length := List.length_pos_iff.2 hne
  obtain ⟨b, hb0⟩ : ∃ b : ByteArray, b = ⟨(ls[ls.length - 1]'(by omega)).toArray⟩ := ⟨_, rfl⟩
  have HBL : Hid (ls[ls.length - 1]? = some b.data.toList) := Lib.hid (by rw [hb0]; simp)
  go_enter Try.func24, Try.ntmps24
  go_wp2_with fail
  refine HC.out.mono ?_
  rintro e w1 ⟨g, cap, rfl, hS, hb⟩
  have hlast : w1.cell? ⟨g, ls.length - 1, none⟩ = some (.string b) := by
    have := hS.cell (ls.length - 1) (by omega)
    rw [hb0, this]; rfl
  have hroom := hS.room.1
  obtain ⟨k, hk⟩ : ∃ k, k = ls.length - 1 := ⟨_, rfl⟩
  rw [← hk] at hlast
  have qw : wrap64 ((ls.length : Int) - 1) = (k : Int) := by
    have h1 := HLE.out
    simp at h1
    have : (ls.length : Int) - 1 = (k : Int) := by omega
    rw [this]
    unfold wrap64
    omega
  have q0 : (0 : Int) ≤ (k : Int) := by omega
  have q1 : (k : Int) < (ls.length : Int) := by omega
  have q2 : (k : Int) ≤ (cap : Int) := by omega
  have HK := Lib.hid hk
  clear hb0 hk
  go_wp2_with fail
  · rename_i hE
    have hE' : b.data.toList = [] := by rw [ByteArray.toList_eq] at hE; simpa using hE
    have hL : L = ls.take k := by rw [HL.out, HBL.out, hE', if_pos rfl, List.dropLast_eq_take, HK.out]
    have hl : (ls.take k).length = k := by have := HK.out; simp; omega
    have hC := hS.cut k (by have := HK.out; omega)
    go_ret
    refine ⟨g, cap, ?_, ?_, hb⟩
    · rw [hL, hl]; rfl
    · rw [hL]; exact hC
  · rename_i hE
    have hE' : b.data.toList ≠ [] := by rw [ByteArray.toList_eq] at hE; simpa using hE
    have hL : L = ls := by rw [HL.out, HBL.out, if_neg (by simpa using hE')]
    go_ret
    refine ⟨g, cap, ?_, ?_, hb⟩
    · rw [hL]; rfl
    · rw [hL]; exact hS

set_option maxRecDepth 100000 in
theorem implLines_any (s : ByteArray) (w : World) (hs : s.size ≤ 1048576) :
    Calls Try.prog 25 #[.string s] w fun e W' => ∃ g cap, e = .returned (.slice (some ⟨g, 0, none⟩) (linesL s.data.toList).length cap) ∧ Strs W' w.heap.size (.slice (some ⟨g, 0, none⟩) (linesL s.data.toList).length cap) (linesL s.data.toList) ∧ Below w.heap.size w W' := by
  have HLE := Lib.hid (cutL_le 10 s.data.toList)
  have HL : Hid (linesL s.data.toList = if (cutL 10 s.data.toList)[(cutL 10 s.data.toList).length - 1]? = some [] then (cutL 10 s.data.toList).dropLast else cutL 10 s.data.toList) := Lib.hid rfl
  have hne := cutL_ne 10 s.data.toList
  have HC := Lib.hid (splitAt_any s 10 w hs)
  generalize linesL s.data.toList = L at HL ⊢
  generalize cutL 10 s.data.toList = ls at HLE HL HC hne
  have hpos : 0 < ls.length := List.length_pos_iff.2 hne
  obtain ⟨b, hb0⟩ : ∃ b : ByteArray, b = ⟨(ls[ls.length - 1]'(by omega)).toArray⟩ := ⟨_, rfl⟩
  have HBL : Hid (ls[ls.length - 1]? = some b.data.toList) := Lib.hid (by rw [hb0]; simp)
  go_enter Try.func25, Try.ntmps25
  go_wp2_with fail
  refine HC.out.mono ?_
  rintro e w1 ⟨g, cap, rfl, hS, hb⟩
  have hlast : w1.cell? ⟨g, ls.length - 1, none⟩ = some (.string b) := by
    have := hS.cell (ls.length - 1) (by omega)
    rw [hb0, this]; rfl
  have hroom := hS.room.1
  obtain ⟨k, hk⟩ : ∃ k, k = ls.length - 1 := ⟨_, rfl⟩
  rw [← hk] at hlast
  have qw : wrap64 ((ls.length : Int) - 1) = (k : Int) := by
    have h1 := HLE.out
    simp at h1
    have : (ls.length : Int) - 1 = (k : Int) := by omega
    rw [this]
    unfold wrap64
    omega
  have q0 : (0 : Int) ≤ (k : Int) := by omega
  have q1 : (k : Int) < (ls.length : Int) := by omega
  have q2 : (k : Int) ≤ (cap : Int) := by omega
  have HK := Lib.hid hk
  clear hb0 hk
  go_wp2_with fail
  · rename_i hE
    have hE' : b.data.toList = [] := by rw [ByteArray.toList_eq] at hE; simpa using hE
    have hL : L = ls.take k := by rw [HL.out, HBL.out, hE', if_pos rfl, List.dropLast_eq_take, HK.out]
    have hl : (ls.take k).length = k := by have := HK.out; simp; omega
    have hC := hS.cut k (by have := HK.out; omega)
    go_ret
    refine ⟨g, cap, ?_, ?_, hb⟩
    · rw [hL, hl]; rfl
    · rw [hL]; exact hC
  · rename_i hE
    have hE' : b.data.toList ≠ [] := by rw [ByteArray.toList_eq] at hE; simpa using hE
    have hL : L = ls := by rw [HL.out, HBL.out, if_neg (by simpa using hE')]
    go_ret
    refine ⟨g, cap, ?_, ?_, hb⟩
    · rw [hL]; rfl
    · rw [hL]; exact hS
end Go.Proofs.Ytebilgnaiamfpaa
