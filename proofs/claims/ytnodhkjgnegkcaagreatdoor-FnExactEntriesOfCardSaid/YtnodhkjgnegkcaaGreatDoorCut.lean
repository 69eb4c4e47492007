/-
  The parts of a text between a byte; spec.l01Cut returns them.
-/
import Derived.Test.YtnodhkjgnegkcaaGreatDoorStrs
import Derived.Test.YtnodhkjgnegkcaaGreatDoorPieces
namespace Go.Proofs.YtnodhkjgnegkcaaGreatDoor
open Go.RowKit

def attach (p : List UInt8) : List (List UInt8) → List (List UInt8)
  | [] => [p]
  | q :: qs => (p ++ q) :: qs
def cutL (m : UInt8) : List UInt8 → List (List UInt8)
  | [] => [[]]
  | c :: l => if c = m then [] :: cutL m l else attach [c] (cutL m l)
theorem attach_attach (p q : List UInt8) (X : List (List UInt8)) : attach p (attach q X) = attach (p ++ q) X := by cases X <;> simp [attach]
theorem attach_ne (p : List UInt8) (X : List (List UInt8)) : attach p X ≠ [] := by cases X <;> simp [attach]
theorem cutL_ne (m : UInt8) (l : List UInt8) : cutL m l ≠ [] := by
  cases l with
  | nil => simp [cutL]
  | cons c l => unfold cutL; split; · simp
                exact attach_ne _ _
theorem attach_nil {X : List (List UInt8)} (h : X ≠ []) : attach [] X = X := by cases X <;> simp_all [attach]

/-- A cutter that stands at k, began its part at st, and has done. -/
def CutAt (m : UInt8) (l : List UInt8) (k st : Nat) (done : List (List UInt8)) : Prop :=
  cutL m l = done ++ attach ((l.take k).drop st) (cutL m (l.drop k)) ∧ st ≤ k ∧ done.length ≤ k
theorem cutAt_zero (m : UInt8) (l : List UInt8) : CutAt m l 0 0 [] := ⟨by simp [attach_nil (cutL_ne m l)], by omega, by simp⟩
theorem cutAt_pass {m : UInt8} {s : ByteArray} {k st : Nat} {done : List (List UInt8)} (h : CutAt m s.data.toList k st done) (hk : k < s.size) (hm : ¬ s[k] = m) : CutAt m s.data.toList (k + 1) st done := by
  obtain ⟨h1, h2, h3⟩ := h
  refine ⟨?_, by omega, by omega⟩
  rw [h1, drop_cons s k hk, take_snoc s k hk]
  rw [cutL, if_neg hm, attach_attach, List.drop_append_of_le_length (by simp; omega)]
theorem cutAt_mark {m : UInt8} {s : ByteArray} {k st : Nat} {done : List (List UInt8)} (h : CutAt m s.data.toList k st done) (hk : k < s.size) (hm : s[k] = m) : CutAt m s.data.toList (k + 1) (k + 1) (done ++ [(s.data.toList.take k).drop st]) := by
  obtain ⟨h1, h2, h3⟩ := h
  refine ⟨?_, by omega, by simp; omega⟩
  rw [h1, drop_cons s k hk]
  rw [cutL, if_pos hm]
  have e : (s.data.toList.take (k + 1)).drop (k + 1) = [] := List.drop_of_length_le (by simp; omega)
  rw [e, attach_nil (cutL_ne _ _)]
  simp [attach]
theorem cutAt_end {m : UInt8} {s : ByteArray} {k st : Nat} {done : List (List UInt8)} (h : CutAt m s.data.toList k st done) (hk : ¬ k < s.size) : cutL m s.data.toList = done ++ [s.data.toList.drop st] := by
  obtain ⟨h1, _, _⟩ := h
  rw [h1, drop_end s k hk, take_end s k hk]; simp [cutL, attach]

set_option maxHeartbeats 1000000 in
theorem l01Cut_any (s : ByteArray) (m : UInt8) (w : World) (hs : s.size ≤ 1048576) :
    Calls Tryz.prog 141 #[.string s, .int .u8 (m.toNat : Int)] w fun e w' => ∃ g cap, e = .returned (.slice (some ⟨g, 0, none⟩) (cutL m s.data.toList).length cap) ∧ Strs w' w.heap.size (.slice (some ⟨g, 0, none⟩) (cutL m s.data.toList).length cap) (cutL m s.data.toList) ∧ Below w.heap.size w w' := by
  go_enter Tryz.func141, Tryz.ntmps141
  go_wp2
  go_loopw [5, 6, 7] (fun v f n wr => ∃ (k st : Nat) (done : List (List UInt8)), k ≤ s.size ∧ n = .int .i64 k ∧ f = .int .i64 st ∧ Strs wr w.heap.size v done ∧ Below w.heap.size w wr ∧ CutAt m s.data.toList k st done) (fun _ _ n _ => s.size - (intOf n).toNat)
  case atStart => exact ⟨0, 0, [], Nat.zero_le _, rfl, rfl, Strs.empty w _ (Nat.le_refl _), (Below.refl _ _).alloc (Nat.le_refl _) _, cutAt_zero _ _⟩
  case round =>
    obtain ⟨k, st, done, hk, rfl, rfl, hown, hb, HP⟩ := hrel
    have hst := HP.2.1
    have hdl := HP.2.2
    by_cases hlt : k < s.size
    · by_cases hc : s[k] = m
      · have hb1 : ((s[k].toNat : Int) == (m.toNat : Int)) = true := by rw [hc]; simp
        have HN := Lib.hid (cutAt_mark HP hlt hc)
        have he := slice_str s _ st k (st : Int) (k : Int) rfl rfl (by omega) (by omega) (piece s st k)
        clear HP hc
        go_wp2_with (at_builtin; refine wpList_append_strs rfl _ _ rfl w.heap.size _ _ rfl (hown.alloc _) ((s.data.toList.take k).drop st) wr.heap.size _ _ _ rfl (heap_alloc_new wr _) (by omega) (by simp; exact Nat.le_succ_of_le hb.size) ?_; intro g cap w2 hown2 hb2)
        have HB := hb.trans (((Below.refl w.heap.size wr).alloc hb.size _).trans hb2)
        go_wp2
        go_roundw
        case rel => exact ⟨k + 1, k + 1, _, by omega, by go_num, by go_num, hown2, HB, HN.out⟩
        case measure => simp [intOf]; omega
      · have hb1 : ((s[k].toNat : Int) == (m.toNat : Int)) = false := int_beq_false (fun h => hc (UInt8.toNat_inj.1 (by omega)))
        have HN := Lib.hid (cutAt_pass HP hlt hc)
        clear HP hc
        go_wp2
        go_roundw
        case rel => exact ⟨k + 1, st, done, by omega, by go_num, rfl, hown, hb, HN.out⟩
        case measure => simp [intOf]; omega
    · have HN := Lib.hid (cutAt_end HP hlt)
      have he := slice_from s _ st (st : Int) rfl (by omega) (piece_end s st)
      clear HP
      go_wp2_with (at_builtin; refine wpList_append_strs rfl _ _ rfl w.heap.size _ _ rfl (hown.alloc _) (s.data.toList.drop st) wr.heap.size _ _ _ rfl (heap_alloc_new wr _) (by omega) (by simp; exact Nat.le_succ_of_le hb.size) ?_; intro g cap w2 hown2 hb2)
      have HB := hb.trans (((Below.refl w.heap.size wr).alloc hb.size _).trans hb2)
      go_wp2
      go_ret
      refine ⟨g, cap, ?_, ?_, HB⟩
      · rw [HN.out]; simp
      · rw [HN.out]; simpa using hown2
end Go.Proofs.YtnodhkjgnegkcaaGreatDoor
