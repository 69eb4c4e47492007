/-
  The laws' own helpers on lists of bounds: markBoundS writes marks over each field.
-/
import Derived.Test.YtjpclglklmlhlabGreatDoorLawBd
import Derived.Test.YtjpclglklmlhlabGreatDoorMarkS
namespace Go.Proofs.YtjpclglklmlhlabGreatDoor
open Go.RowKit

theorem flat2_setLo : ∀ (l : List Bd) (k : Nat) (y : List UInt8) (h : k < l.length), (flat2 l).set (k * 2) (sv y) = flat2 (l.set k (y, l[k].2))
  | [], k, y, h => by simp at h
  | a :: t, 0, y, _ => by simp [flat2]
  | a :: t, k + 1, y, h => by
    have := flat2_setLo t k y (by simpa using h)
    rw [show (k + 1) * 2 = k * 2 + 2 by omega]
    simp [flat2, this]
theorem flat2_setHi : ∀ (l : List Bd) (k : Nat) (y : List UInt8) (h : k < l.length), (flat2 l).set (k * 2 + 1) (sv y) = flat2 (l.set k (l[k].1, y))
  | [], k, y, h => by simp at h
  | a :: t, 0, y, _ => by simp [flat2]
  | a :: t, k + 1, y, h => by
    have := flat2_setHi t k y (by simpa using h)
    rw [show (k + 1) * 2 + 1 = k * 2 + 1 + 2 by omega]
    simp [flat2, this]
theorem Bnds.setLo {w : World} {base g cap : Nat} {l : List Bd} (h : Bnds w base (.slice (some ⟨g, 0, none⟩) l.length cap) l) (k : Nat) (hk : k < l.length) (y : List UInt8) :
    Bnds (w.setCell ⟨g, k * 2, none⟩ (sv y)) base (.slice (some ⟨g, 0, none⟩) l.length cap) (l.set k (y, l[k].2)) := by
  unfold Bnds at h ⊢
  rw [List.length_set, ← flat2_setLo]
  exact (World.ownsRow.stored h (k * 2) (sv y)).1
theorem Bnds.setHi {w : World} {base g cap : Nat} {l : List Bd} (h : Bnds w base (.slice (some ⟨g, 0, none⟩) l.length cap) l) (k : Nat) (hk : k < l.length) (y : List UInt8) :
    Bnds (w.setCell ⟨g, k * 2 + 1, none⟩ (sv y)) base (.slice (some ⟨g, 0, none⟩) l.length cap) (l.set k (l[k].1, y)) := by
  unfold Bnds at h ⊢
  rw [List.length_set, ← flat2_setHi]
  exact (World.ownsRow.stored h (k * 2 + 1) (sv y)).1
theorem Bnds.grown {w w' : World} {base : Nat} {v : Value} {l : List Bd} {row : Option Nat} (h : Bnds w base v l) (hg : w.grownBy w' row) (hne : ∀ g, v.ownBlock = some g → some g ≠ row) : Bnds w' base v l := by
  rcases h.form with ⟨rfl, rfl⟩ | ⟨g, cap, rfl, _, _⟩
  · exact ⟨by simp [flat2], .inl ⟨rfl, rfl⟩⟩
  · exact World.ownsRow.kept h hg (.inr (fun e => hne g rfl (by rw [← e]; rfl)))

/-- The first k bounds marked from s on. -/
def mkB (s k : Nat) (bs : List Bd) : List Bd := (List.range k).map (fun i => (mt (s + 2 * i), mt (s + 2 * i + 1))) ++ bs.drop k
theorem mkB_len (s k : Nat) (bs : List Bd) (h : k ≤ bs.length) : (mkB s k bs).length = bs.length := by simp [mkB]; omega
theorem mkB_zero (s : Nat) (bs : List Bd) : mkB s 0 bs = bs := by simp [mkB]
theorem mkB_set (s k : Nat) (bs : List Bd) (h : k < bs.length) (x : Bd) : ((mkB s k bs).set k x).set k (mt (s + 2 * k), mt (s + 2 * k + 1)) = mkB s (k + 1) bs := by
  apply List.ext_getElem
  · simp [mkB]; omega
  · intro i h1 h2
    simp only [List.set_set]
    rw [List.getElem_set]
    by_cases hi : k = i
    · subst hi
      simp [mkB]
    · rw [if_neg hi]
      simp only [mkB, List.getElem_append, List.length_map, List.length_range]
      by_cases hlt : i < k
      · rw [dif_pos hlt, dif_pos (by omega)]
        simp
      · rw [dif_neg hlt, dif_neg (by omega)]
        simp only [List.getElem_drop]
        congr 1
        omega

set_option maxRecDepth 100000 in
set_option maxHeartbeats 2000000 in
theorem markBoundS_gr (w : World) (base g cap s : Nat) (bs : List Bd) (h : Bnds w base (.slice (some ⟨g, 0, none⟩) bs.length cap) bs) (hl : bs.length ≤ 2000000) (s1 : 1 ≤ s) (s2 : s ≤ 2000001) :
    Calls Tryz.prog 18 #[.slice (some ⟨g, 0, none⟩) bs.length cap, .int .i64 (s : Int)] w fun e w' => e = .returned (.int .i64 ((s + 2 * bs.length : Nat) : Int)) ∧ Bnds w' base (.slice (some ⟨g, 0, none⟩) bs.length cap) (mkB s bs.length bs) ∧ w.grownBy w' (some g) := by
  obtain ⟨E, HE⟩ : ∃ E, Hid (s + 2 * bs.length = E) := ⟨_, Lib.hid rfl⟩
  rw [HE.out]
  go_enter Tryz.func18, Tryz.ntmps18
  go_wp2
  go_loopw [1, 5] (fun u i wr => ∃ k U : Nat, k ≤ bs.length ∧ Hid (U = s + 2 * k) ∧ i = .int .i64 k ∧ u = .int .i64 (U : Int) ∧ Bnds wr base (.slice (some ⟨g, 0, none⟩) bs.length cap) (mkB s k bs) ∧ w.grownBy wr (some g)) (fun _ i _ => bs.length - (intOf i).toNat)
  case atStart => exact ⟨0, s, Nat.zero_le _, Lib.hid (by omega), rfl, rfl, by rw [mkB_zero]; exact h, World.grownBy.refl w _⟩
  case round =>
    obtain ⟨k, U, hk, HU, rfl, rfl, hS, hb⟩ := hrel
    have u1 : 1 ≤ U := by have := HU.out; omega
    have u2 : U ≤ 10000000 := by have := HU.out; omega
    by_cases hlt : k < bs.length
    · have k0 : (0 : Int) ≤ (k : Int) := by omega
      have k1 : (k : Int) < (bs.length : Int) := by omega
      have HML := Lib.hid (mkB_len s k bs hk)
      have HMS := Lib.hid (mkB_set s k bs hlt)
      obtain ⟨X, HX⟩ : ∃ X, Hid (mkB s k bs = X) := ⟨_, Lib.hid rfl⟩
      rw [HX.out] at hS
      have hXl : Hid (X.length = bs.length) := Lib.hid (by rw [← HX.out]; exact HML.out)
      have hkX : k < X.length := by rw [hXl.out]; exact hlt
      clear h
      go_wp2_with fail
      refine (markText_any U wr (by omega) (by omega)).mono ?_
      rintro e w2 ⟨rfl, hb2⟩
      have hS2 := hS.below hb2
      rw [← hXl.out] at hS2
      obtain ⟨c2, _⟩ := hS2.cell k hkX
      have f2 : w2.frozen? ⟨g, k * 2, none⟩ = false := World.ownsRow.frozenAt hS2 (k * 2)
      have B2 := gr_trans hb (gr_below hb2)
      have hS3 := hS2.setLo k hkX (mt U)
      have B3 := gr_trans B2 (gr_set w2 g (k * 2) (sv (mt U)))
      go_wp2_with fail
      refine (markText_any (U + 1) _ (by omega) (by omega)).mono ?_
      rintro e w4 ⟨rfl, hb4⟩
      have hS4 := hS3.below hb4
      have B4 := gr_trans B3 (gr_below hb4)
      have hS4' : Bnds w4 base (.slice (some ⟨g, 0, none⟩) (X.set k (mt U, X[k].2)).length cap) (X.set k (mt U, X[k].2)) := by rw [List.length_set]; exact hS4
      have hk4 : k < (X.set k (mt U, X[k].2)).length := by rw [List.length_set]; exact hkX
      obtain ⟨_, c4⟩ := hS4.cell k hk4
      have f4 : w4.frozen? ⟨g, k * 2 + 1, none⟩ = false := World.ownsRow.frozenAt hS4' (k * 2 + 1)
      have hS5 := hS4'.setHi k hk4 (mt (U + 1))
      have B5 := gr_trans B4 (gr_set w4 g (k * 2 + 1) (sv (mt (U + 1))))
      have HF : Hid ((X.set k (mt U, X[k].2)).set k ((X.set k (mt U, X[k].2))[k].1, mt (U + 1)) = mkB s (k + 1) bs) := Lib.hid (by
        have := HMS.out (mt U, X[k].2)
        rw [HX.out, ← HU.out] at this
        simpa using this)
      rw [HF.out, List.length_set, hXl.out] at hS5
      clear hS hS2 hS3 hS4 hS4' B2 B3 B4 hb2 hb4
      go_wp2_with fail
      go_roundw
      case rel => exact ⟨k + 1, U + 2, by omega, Lib.hid (by have := HU.out; omega), by go_num, by go_num, hS5, B5⟩
      case measure => simp [intOf]; omega
    · obtain rfl : k = bs.length := by omega
      have HUE : Hid (U = E) := Lib.hid (by rw [HU.out, HE.out])
      clear h
      go_wp2_with fail
      go_ret
      exact ⟨by rw [← HUE.out]; rfl, hS, hb⟩

set_option maxRecDepth 100000 in
set_option maxHeartbeats 1000000 in
theorem markB_gr (w : World) (base s : Nat) (v : Value) (bs : List Bd) (h : Bnds w base v bs) (hl : bs.length ≤ 2000000) (s1 : 1 ≤ s) (s2 : s ≤ 2000001) :
    Calls Tryz.prog 18 #[v, .int .i64 (s : Int)] w fun e w' => e = .returned (.int .i64 ((s + 2 * bs.length : Nat) : Int)) ∧ Bnds w' base v (mkB s bs.length bs) ∧ w.grownBy w' v.ownBlock := by
  rcases h.form with ⟨rfl, rfl⟩ | ⟨g, cap, rfl, hg, _⟩
  · go_enter Tryz.func18, Tryz.ntmps18
    go_wp2
    refine wp_loop_rounds 1 ?_
    rw [rounds_succ]; go_wp2
    go_ret
    exact ⟨rfl, h, World.grownBy.refl w _⟩
  · exact markBoundS_gr w base g cap s bs h hl s1 s2
end Go.Proofs.YtjpclglklmlhlabGreatDoor
