/-
  Whether a tree's own parts are right (all but its kids), in plain words, and spec.l06Own.
-/
import Derived.Test.YthlbpklllphhcaaKyD
import Derived.Test.YthlbpklllphhcaaTrL
import Derived.Test.YthlbpklllphhcaaIxT
import Derived.Test.YthlbpklllphhcaaCharN
namespace Go.Proofs.Ythlbpklllphhcaa
open Go.RowKit

/-- The own parts of a tree, the keys tested by ky. -/
def ndB (ky : List (List UInt8) → Bool) (t : Tr) : Bool :=
  if t.kind = 0 ∨ t.kind = 1 ∨ t.kind = 2 then (decide (t.keys.length = 0) && decide (t.kids.length = 0)) && (decide (t.n = 0) && t.s.isEmpty)
  else if t.kind = 3 then (decide (t.keys.length = 0) && decide (t.kids.length = 0)) && (t.s.isEmpty && inI t.n 0 999999999)
  else if t.kind = 4 then (decide (t.keys.length = 0) && decide (t.kids.length = 0)) && decide (t.n = 0)
  else if t.kind = 5 then decide (t.keys.length = 0) && (decide (t.n = 0) && t.s.isEmpty)
  else if t.kind = 6 then decide (t.keys.length = t.kids.length) && (decide (t.n = 0) && (t.s.isEmpty && ky t.keys))
  else false
def ownB (t : Tr) : Bool := ndB kysOk t
def nodeB (t : Tr) : Bool := ndB (fun ls => decide ls.Nodup) t
theorem ndB_flat {ky : List (List UInt8) → Bool} {t : Tr} (h : t.kind = 0 ∨ t.kind = 1 ∨ t.kind = 2) : ndB ky t = ((decide (t.keys.length = 0) && decide (t.kids.length = 0)) && (decide (t.n = 0) && t.s.isEmpty)) := by unfold ndB; rw [if_pos h]
theorem ndB_int {ky : List (List UInt8) → Bool} {t : Tr} (h : t.kind = 3) : ndB ky t = ((decide (t.keys.length = 0) && decide (t.kids.length = 0)) && (t.s.isEmpty && inI t.n 0 999999999)) := by unfold ndB; rw [if_neg (by omega), if_pos h]
theorem ndB_text {ky : List (List UInt8) → Bool} {t : Tr} (h : t.kind = 4) : ndB ky t = ((decide (t.keys.length = 0) && decide (t.kids.length = 0)) && decide (t.n = 0)) := by unfold ndB; rw [if_neg (by omega), if_neg (by omega), if_pos h]
theorem ndB_list {ky : List (List UInt8) → Bool} {t : Tr} (h : t.kind = 5) : ndB ky t = (decide (t.keys.length = 0) && (decide (t.n = 0) && t.s.isEmpty)) := by unfold ndB; rw [if_neg (by omega), if_neg (by omega), if_neg (by omega), if_pos h]
theorem ndB_map {ky : List (List UInt8) → Bool} {t : Tr} (h : t.kind = 6) : ndB ky t = (decide (t.keys.length = t.kids.length) && (decide (t.n = 0) && (t.s.isEmpty && ky t.keys))) := by unfold ndB; rw [if_neg (by omega), if_neg (by omega), if_neg (by omega), if_neg (by omega), if_pos h]
theorem ndB_none {ky : List (List UInt8) → Bool} {t : Tr} (h : ¬ (0 ≤ t.kind ∧ t.kind ≤ 6)) : ndB ky t = false := by unfold ndB; rw [if_neg (by omega), if_neg (by omega), if_neg (by omega), if_neg (by omega), if_neg (by omega)]

set_option maxRecDepth 100000 in
set_option maxHeartbeats 8000000 in
theorem l06Own_any (t : Tr) (b kv : Value) (B : Option Addr) (cb base : Nat) (w : World) (hb : Strs w base b t.keys) (hkv : kv = .slice B t.kids.length cb) (hl : t.keys.length ≤ 1048576) (hk : t.kids.length ≤ 1048576) :
    Calls Try.prog 100 #[trV t b kv] w fun e w' => e = .returned (.bool (ownB t)) ∧ Below w.heap.size w w' := by
  subst hkv
  have HKY := Lib.hid (fun (o : Obj) => l06Keys_any b t.keys _ base (hb.alloc o) hl)
  obtain ⟨A, ca, rfl⟩ := hb.slice
  clear hb
  have H0 := Lib.hid (fun h => ndB_flat (ky := kysOk) (t := t) h)
  have H3 := Lib.hid (fun h => ndB_int (ky := kysOk) (t := t) h)
  have H4 := Lib.hid (fun h => ndB_text (ky := kysOk) (t := t) h)
  have H5 := Lib.hid (fun h => ndB_list (ky := kysOk) (t := t) h)
  have H6 := Lib.hid (fun h => ndB_map (ky := kysOk) (t := t) h)
  have H7 := Lib.hid (fun h => ndB_none (ky := kysOk) (t := t) h)
  obtain ⟨r, HR⟩ : ∃ r, Hid (ownB t = r) := ⟨_, Lib.hid rfl⟩
  have HRR : Hid (ndB kysOk t = r) := HR
  rw [HR.out]
  simp only [HRR.out] at H0 H3 H4 H5 H6 H7
  clear HRR HR
  obtain ⟨kd, n, s, keys, kids⟩ := t
  simp only [Tr.kind, Tr.n, Tr.s, Tr.keys, Tr.kids, trV] at *
  have BP : ∀ o : Obj, Below w.heap.size w (w.alloc o) := fun o => (Below.refl _ _).alloc (Nat.le_refl _) o
  obtain ⟨L, HL⟩ : ∃ L, Hid (keys.length = L) := ⟨_, Lib.hid rfl⟩
  obtain ⟨M, HM⟩ : ∃ M, Hid (kids.length = M) := ⟨_, Lib.hid rfl⟩
  obtain ⟨y, HY⟩ : ∃ y, Hid (kysOk keys = y) := ⟨_, Lib.hid rfl⟩
  simp only [HL.out, HM.out, HY.out] at *
  clear HL HM HY
  have hkd : kd = 0 ∨ kd = 1 ∨ kd = 2 ∨ kd = 3 ∨ kd = 4 ∨ kd = 5 ∨ kd = 6 ∨ (¬ (0 ≤ kd ∧ kd ≤ 6)) := by omega
  have hL : L = 0 ∨ (¬ L = 0 ∧ ((L : Int) == 0) = false) := by
    rcases Nat.eq_zero_or_pos L with h | h
    · exact .inl h
    · exact .inr ⟨by omega, int_beq_false (by omega)⟩
  have hM : M = 0 ∨ (¬ M = 0 ∧ ((M : Int) == 0) = false) := by
    rcases Nat.eq_zero_or_pos M with h | h
    · exact .inl h
    · exact .inr ⟨by omega, int_beq_false (by omega)⟩
  rcases hkd with rfl | rfl | rfl | rfl | rfl | rfl | rfl | hkd
  · have HE := Lib.hid (H0.out (by omega))
    clear H0 H3 H4 H5 H6 H7 HKY
    rcases hL with rfl | ⟨hLn, qL⟩
    · rcases hM with rfl | ⟨hMn, qM⟩
      · skip
        by_cases hn : n = 0
        · subst hn
          cases s with
          | nil =>
            have HX : Hid (r = true) := Lib.hid (by rw [HE.out]; simp)
            clear HE
            go_enter Try.func100, Try.ntmps100
            go_wp2_with fail
            go_ret
            exact ⟨ret_bool HX.out.symm, BP _⟩
          | cons c tl =>
            have HX : Hid (r = false) := Lib.hid (by rw [HE.out]; simp)
            clear HE
            go_enter Try.func100, Try.ntmps100
            go_wp2_with fail
            go_ret
            exact ⟨ret_bool HX.out.symm, BP _⟩
        · have qn : (n == 0) = false := by simpa using hn
          have HX : Hid (r = false) := Lib.hid (by rw [HE.out]; simp [hn])
          clear HE
          go_enter Try.func100, Try.ntmps100
          go_wp2_with fail
          go_ret
          exact ⟨ret_bool HX.out.symm, BP _⟩
      · skip
        have HX : Hid (r = false) := Lib.hid (by rw [HE.out]; simp [hMn])
        clear HE
        go_enter Try.func100, Try.ntmps100
        go_wp2_with fail
        go_ret
        exact ⟨ret_bool HX.out.symm, BP _⟩
    · skip
      have HX : Hid (r = false) := Lib.hid (by rw [HE.out]; simp [hLn])
      clear HE
      go_enter Try.func100, Try.ntmps100
      go_wp2_with fail
      go_ret
      exact ⟨ret_bool HX.out.symm, BP _⟩
  · have HE := Lib.hid (H0.out (by omega))
    clear H0 H3 H4 H5 H6 H7 HKY
    rcases hL with rfl | ⟨hLn, qL⟩
    · rcases hM with rfl | ⟨hMn, qM⟩
      · skip
        by_cases hn : n = 0
        · subst hn
          cases s with
          | nil =>
            have HX : Hid (r = true) := Lib.hid (by rw [HE.out]; simp)
            clear HE
            go_enter Try.func100, Try.ntmps100
            go_wp2_with fail
            go_ret
            exact ⟨ret_bool HX.out.symm, BP _⟩
          | cons c tl =>
            have HX : Hid (r = false) := Lib.hid (by rw [HE.out]; simp)
            clear HE
            go_enter Try.func100, Try.ntmps100
            go_wp2_with fail
            go_ret
            exact ⟨ret_bool HX.out.symm, BP _⟩
        · have qn : (n == 0) = false := by simpa using hn
          have HX : Hid (r = false) := Lib.hid (by rw [HE.out]; simp [hn])
          clear HE
          go_enter Try.func100, Try.ntmps100
          go_wp2_with fail
          go_ret
          exact ⟨ret_bool HX.out.symm, BP _⟩
      · skip
        have HX : Hid (r = false) := Lib.hid (by rw [HE.out]; simp [hMn])
        clear HE
        go_enter Try.func100, Try.ntmps100
        go_wp2_with fail
        go_ret
        exact ⟨ret_bool HX.out.symm, BP _⟩
    · skip
      have HX : Hid (r = false) := Lib.hid (by rw [HE.out]; simp [hLn])
      clear HE
      go_enter Try.func100, Try.ntmps100
      go_wp2_with fail
      go_ret
      exact ⟨ret_bool HX.out.symm, BP _⟩
  · have HE := Lib.hid (H0.out (by omega))
    clear H0 H3 H4 H5 H6 H7 HKY
    rcases hL with rfl | ⟨hLn, qL⟩
    · rcases hM with rfl | ⟨hMn, qM⟩
      · skip
        by_cases hn : n = 0
        · subst hn
          cases s with
          | nil =>
            have HX : Hid (r = true) := Lib.hid (by rw [HE.out]; simp)
            clear HE
            go_enter Try.func100, Try.ntmps100
            go_wp2_with fail
            go_ret
            exact ⟨ret_bool HX.out.symm, BP _⟩
          | cons c tl =>
            have HX : Hid (r = false) := Lib.hid (by rw [HE.out]; simp)
            clear HE
            go_enter Try.func100, Try.ntmps100
            go_wp2_with fail
            go_ret
            exact ⟨ret_bool HX.out.symm, BP _⟩
        · have qn : (n == 0) = false := by simpa using hn
          have HX : Hid (r = false) := Lib.hid (by rw [HE.out]; simp [hn])
          clear HE
          go_enter Try.func100, Try.ntmps100
          go_wp2_with fail
          go_ret
          exact ⟨ret_bool HX.out.symm, BP _⟩
      · skip
        have HX : Hid (r = false) := Lib.hid (by rw [HE.out]; simp [hMn])
        clear HE
        go_enter Try.func100, Try.ntmps100
        go_wp2_with fail
        go_ret
        exact ⟨ret_bool HX.out.symm, BP _⟩
    · skip
      have HX : Hid (r = false) := Lib.hid (by rw [HE.out]; simp [hLn])
      clear HE
      go_enter Try.func100, Try.ntmps100
      go_wp2_with fail
      go_ret
      exact ⟨ret_bool HX.out.symm, BP _⟩
  · have HE := Lib.hid (H3.out rfl)
    clear H0 H3 H4 H5 H6 H7 HKY
    rcases hL with rfl | ⟨hLn, qL⟩
    · rcases hM with rfl | ⟨hMn, qM⟩
      · skip
        cases s with
        | nil =>
          have HX : Hid (r = inI n 0 999999999) := Lib.hid (by rw [HE.out]; simp)
          clear HE
          go_enter Try.func100, Try.ntmps100
          go_wp2_with fail
          refine (l01In_any n 0 999999999 _).mono ?_
          rintro e w1 ⟨rfl, rfl⟩
          go_wp2_with fail
          go_ret
          exact ⟨ret_bool HX.out.symm, BP _⟩
        | cons c tl =>
          have HX : Hid (r = false) := Lib.hid (by rw [HE.out]; simp)
          clear HE
          go_enter Try.func100, Try.ntmps100
          go_wp2_with fail
          go_ret
          exact ⟨ret_bool HX.out.symm, BP _⟩
      · skip
        have HX : Hid (r = false) := Lib.hid (by rw [HE.out]; simp [hMn])
        clear HE
        go_enter Try.func100, Try.ntmps100
        go_wp2_with fail
        go_ret
        exact ⟨ret_bool HX.out.symm, BP _⟩
    · skip
      have HX : Hid (r = false) := Lib.hid (by rw [HE.out]; simp [hLn])
      clear HE
      go_enter Try.func100, Try.ntmps100
      go_wp2_with fail
      go_ret
      exact ⟨ret_bool HX.out.symm, BP _⟩
  · have HE := Lib.hid (H4.out rfl)
    clear H0 H3 H4 H5 H6 H7 HKY
    rcases hL with rfl | ⟨hLn, qL⟩
    · rcases hM with rfl | ⟨hMn, qM⟩
      · skip
        by_cases hn : n = 0
        · subst hn
          have HX : Hid (r = true) := Lib.hid (by rw [HE.out]; simp)
          clear HE
          go_enter Try.func100, Try.ntmps100
          go_wp2_with fail
          go_ret
          exact ⟨ret_bool HX.out.symm, BP _⟩
        · have qn : (n == 0) = false := by simpa using hn
          have HX : Hid (r = false) := Lib.hid (by rw [HE.out]; simp [hn])
          clear HE
          go_enter Try.func100, Try.ntmps100
          go_wp2_with fail
          go_ret
          exact ⟨ret_bool HX.out.symm, BP _⟩
      · skip
        have HX : Hid (r = false) := Lib.hid (by rw [HE.out]; simp [hMn])
        clear HE
        go_enter Try.func100, Try.ntmps100
        go_wp2_with fail
        go_ret
        exact ⟨ret_bool HX.out.symm, BP _⟩
    · skip
      have HX : Hid (r = false) := Lib.hid (by rw [HE.out]; simp [hLn])
      clear HE
      go_enter Try.func100, Try.ntmps100
      go_wp2_with fail
      go_ret
      exact ⟨ret_bool HX.out.symm, BP _⟩
  · have HE := Lib.hid (H5.out rfl)
    clear H0 H3 H4 H5 H6 H7 HKY
    rcases hL with rfl | ⟨hLn, qL⟩
    · rcases hM with rfl | ⟨hMn, qM⟩
      · skip
        by_cases hn : n = 0
        · subst hn
          cases s with
          | nil =>
            have HX : Hid (r = true) := Lib.hid (by rw [HE.out]; simp)
            clear HE
            go_enter Try.func100, Try.ntmps100
            go_wp2_with fail
            go_ret
            exact ⟨ret_bool HX.out.symm, BP _⟩
          | cons c tl =>
            have HX : Hid (r = false) := Lib.hid (by rw [HE.out]; simp)
            clear HE
            go_enter Try.func100, Try.ntmps100
            go_wp2_with fail
            go_ret
            exact ⟨ret_bool HX.out.symm, BP _⟩
        · have qn : (n == 0) = false := by simpa using hn
          have HX : Hid (r = false) := Lib.hid (by rw [HE.out]; simp [hn])
          clear HE
          go_enter Try.func100, Try.ntmps100
          go_wp2_with fail
          go_ret
          exact ⟨ret_bool HX.out.symm, BP _⟩
      · skip
        by_cases hn : n = 0
        · subst hn
          cases s with
          | nil =>
            have HX : Hid (r = true) := Lib.hid (by rw [HE.out]; simp)
            clear HE
            go_enter Try.func100, Try.ntmps100
            go_wp2_with fail
            go_ret
            exact ⟨ret_bool HX.out.symm, BP _⟩
          | cons c tl =>
            have HX : Hid (r = false) := Lib.hid (by rw [HE.out]; simp)
            clear HE
            go_enter Try.func100, Try.ntmps100
            go_wp2_with fail
            go_ret
            exact ⟨ret_bool HX.out.symm, BP _⟩
        · have qn : (n == 0) = false := by simpa using hn
          have HX : Hid (r = false) := Lib.hid (by rw [HE.out]; simp [hn])
          clear HE
          go_enter Try.func100, Try.ntmps100
          go_wp2_with fail
          go_ret
          exact ⟨ret_bool HX.out.symm, BP _⟩
    · skip
      have HX : Hid (r = false) := Lib.hid (by rw [HE.out]; simp [hLn])
      clear HE
      go_enter Try.func100, Try.ntmps100
      go_wp2_with fail
      go_ret
      exact ⟨ret_bool HX.out.symm, BP _⟩
  · have HE := Lib.hid (H6.out rfl)
    clear H0 H3 H4 H5 H6 H7
    by_cases hLM : L = M
    · subst hLM
      rcases hL with rfl | ⟨hLn, qL⟩
      · skip
        by_cases hn : n = 0
        · subst hn
          cases s with
          | nil =>
            have HX : Hid (r = y) := Lib.hid (by rw [HE.out]; simp)
            clear HE
            go_enter Try.func100, Try.ntmps100
            go_wp2_with fail
            refine (HKY.out _).mono ?_
            rintro e w1 ⟨rfl, m, rfl⟩
            go_wp2_with fail
            go_ret
            exact ⟨ret_bool HX.out.symm, (BP _).trans (below_drewN _ _ m)⟩
          | cons c tl =>
            have HX : Hid (r = false) := Lib.hid (by rw [HE.out]; simp)
            clear HE
            go_enter Try.func100, Try.ntmps100
            go_wp2_with fail
            go_ret
            exact ⟨ret_bool HX.out.symm, BP _⟩
        · have qn : (n == 0) = false := by simpa using hn
          have HX : Hid (r = false) := Lib.hid (by rw [HE.out]; simp [hn])
          clear HE
          go_enter Try.func100, Try.ntmps100
          go_wp2_with fail
          go_ret
          exact ⟨ret_bool HX.out.symm, BP _⟩
      · skip
        by_cases hn : n = 0
        · subst hn
          cases s with
          | nil =>
            have HX : Hid (r = y) := Lib.hid (by rw [HE.out]; simp)
            clear HE
            go_enter Try.func100, Try.ntmps100
            go_wp2_with fail
            refine (HKY.out _).mono ?_
            rintro e w1 ⟨rfl, m, rfl⟩
            go_wp2_with fail
            go_ret
            exact ⟨ret_bool HX.out.symm, (BP _).trans (below_drewN _ _ m)⟩
          | cons c tl =>
            have HX : Hid (r = false) := Lib.hid (by rw [HE.out]; simp)
            clear HE
            go_enter Try.func100, Try.ntmps100
            go_wp2_with fail
            go_ret
            exact ⟨ret_bool HX.out.symm, BP _⟩
        · have qn : (n == 0) = false := by simpa using hn
          have HX : Hid (r = false) := Lib.hid (by rw [HE.out]; simp [hn])
          clear HE
          go_enter Try.func100, Try.ntmps100
          go_wp2_with fail
          go_ret
          exact ⟨ret_bool HX.out.symm, BP _⟩
    · have qLM : ((L : Int) == (M : Int)) = false := int_beq_false (by omega)
      rcases hL with rfl | ⟨hLn, qL⟩
      · rcases hM with rfl | ⟨hMn, qM⟩
        · exact absurd rfl hLM
        · skip
          have HX : Hid (r = false) := Lib.hid (by rw [HE.out]; simp [hLM])
          clear HE
          go_enter Try.func100, Try.ntmps100
          go_wp2_with fail
          go_ret
          exact ⟨ret_bool HX.out.symm, BP _⟩
      · skip
        have HX : Hid (r = false) := Lib.hid (by rw [HE.out]; simp [hLM])
        clear HE
        go_enter Try.func100, Try.ntmps100
        go_wp2_with fail
        go_ret
        exact ⟨ret_bool HX.out.symm, BP _⟩
  · have HE := Lib.hid (H7.out hkd)
    have k0 : (kd == 0) = false := int_beq_false (by omega)
    have k1 : (kd == 1) = false := int_beq_false (by omega)
    have k2 : (kd == 2) = false := int_beq_false (by omega)
    have k3 : (kd == 3) = false := int_beq_false (by omega)
    have k4 : (kd == 4) = false := int_beq_false (by omega)
    have k5 : (kd == 5) = false := int_beq_false (by omega)
    have k6 : (kd == 6) = false := int_beq_false (by omega)
    clear H0 H3 H4 H5 H6 H7 HKY hkd
    rcases hL with rfl | ⟨hLn, qL⟩
    · rcases hM with rfl | ⟨hMn, qM⟩
      · skip
        have HX : Hid (r = false) := Lib.hid HE.out
        clear HE
        go_enter Try.func100, Try.ntmps100
        go_wp2_with fail
        go_ret
        exact ⟨ret_bool HX.out.symm, BP _⟩
      · skip
        have HX : Hid (r = false) := Lib.hid HE.out
        clear HE
        go_enter Try.func100, Try.ntmps100
        go_wp2_with fail
        go_ret
        exact ⟨ret_bool HX.out.symm, BP _⟩
    · skip
      have HX : Hid (r = false) := Lib.hid HE.out
      clear HE
      go_enter Try.func100, Try.ntmps100
      go_wp2_with fail
      go_ret
      exact ⟨ret_bool HX.out.symm, BP _⟩
end Go.Proofs.Ythlbpklllphhcaa
