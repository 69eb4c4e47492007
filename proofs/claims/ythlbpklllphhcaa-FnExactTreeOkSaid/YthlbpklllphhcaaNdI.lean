/-
  impl.nodeOk: whether a tree's own parts are right.
-/
import Derived.Test.YthlbpklllphhcaaNdM
import Derived.Test.YthlbpklllphhcaaDst
namespace Go.Proofs.Ythlbpklllphhcaa
open Go.RowKit

set_option maxRecDepth 100000 in
set_option maxHeartbeats 8000000 in
theorem nodeOk_any (t : Tr) (b kv : Value) (B : Option Addr) (cb : Nat) (w : World) (hb : RdS w b t.keys) (hkv : kv = .slice B t.kids.length cb) (hl : t.keys.length ≤ 1048576) (hm : ∀ l ∈ t.keys, l.length ≤ 1048576) (hk : t.kids.length ≤ 1048576) :
    Calls Try.prog 101 #[trV t b kv] w fun e w' => e = .returned (.bool (nodeB t)) ∧ Below w.heap.size w w' := by
  subst hkv
  obtain ⟨y, HY⟩ : ∃ y, Hid (decide t.keys.Nodup = y) := ⟨_, Lib.hid rfl⟩
  have HKY : Hid (∀ (W : World) (h : Below w.heap.size w W), Calls Try.prog 109 #[b] W fun e w' => e = .returned (.bool y) ∧ Below W.heap.size W w') := Lib.hid (fun W h => by rw [← HY.out]; exact distinct_any b t.keys W (hb.below h) hl hm)
  obtain ⟨A, ca, hbv⟩ : ∃ A c, b = .slice A t.keys.length c := by obtain ⟨A, c, h, _⟩ := hb; exact ⟨A, c, h⟩
  subst hbv
  clear hb hm
  have H0 := Lib.hid (fun h => ndB_flat (ky := fun ls => decide ls.Nodup) (t := t) h)
  have H3 := Lib.hid (fun h => ndB_int (ky := fun ls => decide ls.Nodup) (t := t) h)
  have H4 := Lib.hid (fun h => ndB_text (ky := fun ls => decide ls.Nodup) (t := t) h)
  have H5 := Lib.hid (fun h => ndB_list (ky := fun ls => decide ls.Nodup) (t := t) h)
  have H6 : Hid (t.kind = 6 → ndB (fun ls => decide ls.Nodup) t = (decide (t.keys.length = t.kids.length) && (decide (t.n = 0) && (t.s.isEmpty && y)))) := Lib.hid (fun h => by rw [ndB_map h, HY.out])
  have H7 := Lib.hid (fun h => ndB_none (ky := fun ls => decide ls.Nodup) (t := t) h)
  obtain ⟨r, HR⟩ : ∃ r, Hid (nodeB t = r) := ⟨_, Lib.hid rfl⟩
  have HRR : ndB (fun ls => decide ls.Nodup) t = r := HR.out
  rw [HR.out]
  rw [HRR] at H0 H3 H4 H5 H6 H7
  clear HRR HR HY
  obtain ⟨kd, n, s, keys, kids⟩ := t
  simp only [Tr.kind, Tr.n, Tr.s, Tr.keys, Tr.kids, trV] at *
  have BP : ∀ o : Obj, Below w.heap.size w (w.alloc o) := fun o => (Below.refl _ _).alloc (Nat.le_refl _) o
  obtain ⟨L, HL⟩ : ∃ L, Hid (keys.length = L) := ⟨_, Lib.hid rfl⟩
  obtain ⟨M, HM⟩ : ∃ M, Hid (kids.length = M) := ⟨_, Lib.hid rfl⟩
  simp only [HL.out, HM.out] at *
  clear HL HM
  have hkd : kd = 0 ∨ kd = 1 ∨ kd = 2 ∨ kd = 3 ∨ kd = 4 ∨ kd = 5 ∨ kd = 6 ∨ (¬ (0 ≤ kd ∧ kd ≤ 6)) := by omega
  have hL : L = 0 ∨ (¬ L = 0 ∧ ((L : Int) == 0) = false) := by
    rcases Nat.eq_zero_or_pos L with h | h
    · exact .inl h
    · exact .inr ⟨by omega, int_beq_false (by omega)⟩
  have hM : M = 0 ∨ (¬ M = 0 ∧ ((M : Int) == 0) = false) := by
    rcases Nat.eq_zero_or_pos M with h | h
    · exact .inl h
    · exact .inr ⟨by omega, int_beq_false (by omega)⟩
  rcases hkd with rfl | rfl | rfl | rfl | rfl | rfl | rfl | hkd
  · have HE := Lib.hid (H0.out (by omega))
    clear H0 H3 H4 H5 H6 H7 HKY
    by_cases hn : n = 0
    · subst hn
      cases s with
      | nil =>
        rcases hL with rfl | ⟨hLn, qL⟩
        · rcases hM with rfl | ⟨hMn, qM⟩
          · skip
            have HX : Hid (r = true) := Lib.hid (by rw [HE.out]; simp)
            clear HE
            go_enter Try.func101, Try.ntmps101
            go_wp2_with fail
            go_ret
            exact ⟨ret_bool HX.out.symm, BP _⟩
          · skip
            have HX : Hid (r = false) := Lib.hid (by rw [HE.out]; simp [hMn])
            clear HE
            go_enter Try.func101, Try.ntmps101
            go_wp2_with fail
            go_ret
            exact ⟨ret_bool HX.out.symm, BP _⟩
        · skip
          have HX : Hid (r = false) := Lib.hid (by rw [HE.out]; simp [hLn])
          clear HE
          go_enter Try.func101, Try.ntmps101
          go_wp2_with fail
          go_ret
          exact ⟨ret_bool HX.out.symm, BP _⟩
      | cons c tl =>
        have HX : Hid (r = false) := Lib.hid (by rw [HE.out]; simp)
        clear HE
        go_enter Try.func101, Try.ntmps101
        go_wp2_with fail
        go_ret
        exact ⟨ret_bool HX.out.symm, BP _⟩
    · have qn : (n == 0) = false := by simpa using hn
      have HX : Hid (r = false) := Lib.hid (by rw [HE.out]; simp [hn])
      clear HE
      go_enter Try.func101, Try.ntmps101
      go_wp2_with fail
      go_ret
      exact ⟨ret_bool HX.out.symm, BP _⟩
  · have HE := Lib.hid (H0.out (by omega))
    clear H0 H3 H4 H5 H6 H7 HKY
    by_cases hn : n = 0
    · subst hn
      cases s with
      | nil =>
        rcases hL with rfl | ⟨hLn, qL⟩
        · rcases hM with rfl | ⟨hMn, qM⟩
          · skip
            have HX : Hid (r = true) := Lib.hid (by rw [HE.out]; simp)
            clear HE
            go_enter Try.func101, Try.ntmps101
            go_wp2_with fail
            go_ret
            exact ⟨ret_bool HX.out.symm, BP _⟩
          · skip
            have HX : Hid (r = false) := Lib.hid (by rw [HE.out]; simp [hMn])
            clear HE
            go_enter Try.func101, Try.ntmps101
            go_wp2_with fail
            go_ret
            exact ⟨ret_bool HX.out.symm, BP _⟩
        · skip
          have HX : Hid (r = false) := Lib.hid (by rw [HE.out]; simp [hLn])
          clear HE
          go_enter Try.func101, Try.ntmps101
          go_wp2_with fail
          go_ret
          exact ⟨ret_bool HX.out.symm, BP _⟩
      | cons c tl =>
        have HX : Hid (r = false) := Lib.hid (by rw [HE.out]; simp)
        clear HE
        go_enter Try.func101, Try.ntmps101
        go_wp2_with fail
        go_ret
        exact ⟨ret_bool HX.out.symm, BP _⟩
    · have qn : (n == 0) = false := by simpa using hn
      have HX : Hid (r = false) := Lib.hid (by rw [HE.out]; simp [hn])
      clear HE
      go_enter Try.func101, Try.ntmps101
      go_wp2_with fail
      go_ret
      exact ⟨ret_bool HX.out.symm, BP _⟩
  · have HE := Lib.hid (H0.out (by omega))
    clear H0 H3 H4 H5 H6 H7 HKY
    by_cases hn : n = 0
    · subst hn
      cases s with
      | nil =>
        rcases hL with rfl | ⟨hLn, qL⟩
        · rcases hM with rfl | ⟨hMn, qM⟩
          · skip
            have HX : Hid (r = true) := Lib.hid (by rw [HE.out]; simp)
            clear HE
            go_enter Try.func101, Try.ntmps101
            go_wp2_with fail
            go_ret
            exact ⟨ret_bool HX.out.symm, BP _⟩
          · skip
            have HX : Hid (r = false) := Lib.hid (by rw [HE.out]; simp [hMn])
            clear HE
            go_enter Try.func101, Try.ntmps101
            go_wp2_with fail
            go_ret
            exact ⟨ret_bool HX.out.symm, BP _⟩
        · skip
          have HX : Hid (r = false) := Lib.hid (by rw [HE.out]; simp [hLn])
          clear HE
          go_enter Try.func101, Try.ntmps101
          go_wp2_with fail
          go_ret
          exact ⟨ret_bool HX.out.symm, BP _⟩
      | cons c tl =>
        have HX : Hid (r = false) := Lib.hid (by rw [HE.out]; simp)
        clear HE
        go_enter Try.func101, Try.ntmps101
        go_wp2_with fail
        go_ret
        exact ⟨ret_bool HX.out.symm, BP _⟩
    · have qn : (n == 0) = false := by simpa using hn
      have HX : Hid (r = false) := Lib.hid (by rw [HE.out]; simp [hn])
      clear HE
      go_enter Try.func101, Try.ntmps101
      go_wp2_with fail
      go_ret
      exact ⟨ret_bool HX.out.symm, BP _⟩
  · have HE := Lib.hid (H3.out rfl)
    clear H0 H3 H4 H5 H6 H7 HKY
    by_cases h1 : n < 0
    · have hI : inI n 0 999999999 = false := by unfold inI; simp; omega
      have HX : Hid (r = false) := Lib.hid (by rw [HE.out]; simp [hI])
      clear HE
      go_enter Try.func101, Try.ntmps101
      go_wp2_with fail
      go_ret
      exact ⟨ret_bool HX.out.symm, BP _⟩
    by_cases h2 : 999999999 < n
    · have hI : inI n 0 999999999 = false := by unfold inI; simp; omega
      have HX : Hid (r = false) := Lib.hid (by rw [HE.out]; simp [hI])
      clear HE
      go_enter Try.func101, Try.ntmps101
      go_wp2_with fail
      go_ret
      exact ⟨ret_bool HX.out.symm, BP _⟩
    have hI : inI n 0 999999999 = true := by unfold inI; simp; omega
    replace HE := Lib.hid (by have := HE.out; rw [hI] at this; exact this)
    cases s with
    | nil =>
      rcases hL with rfl | ⟨hLn, qL⟩
      · rcases hM with rfl | ⟨hMn, qM⟩
        · skip
          have HX : Hid (r = true) := Lib.hid (by rw [HE.out]; simp)
          clear HE
          go_enter Try.func101, Try.ntmps101
          go_wp2_with fail
          go_ret
          exact ⟨ret_bool HX.out.symm, BP _⟩
        · skip
          have HX : Hid (r = false) := Lib.hid (by rw [HE.out]; simp [hMn])
          clear HE
          go_enter Try.func101, Try.ntmps101
          go_wp2_with fail
          go_ret
          exact ⟨ret_bool HX.out.symm, BP _⟩
      · skip
        have HX : Hid (r = false) := Lib.hid (by rw [HE.out]; simp [hLn])
        clear HE
        go_enter Try.func101, Try.ntmps101
        go_wp2_with fail
        go_ret
        exact ⟨ret_bool HX.out.symm, BP _⟩
    | cons c tl =>
      have HX : Hid (r = false) := Lib.hid (by rw [HE.out]; simp)
      clear HE
      go_enter Try.func101, Try.ntmps101
      go_wp2_with fail
      go_ret
      exact ⟨ret_bool HX.out.symm, BP _⟩
  · have HE := Lib.hid (H4.out rfl)
    clear H0 H3 H4 H5 H6 H7 HKY
    by_cases hn : n = 0
    · subst hn
      rcases hL with rfl | ⟨hLn, qL⟩
      · rcases hM with rfl | ⟨hMn, qM⟩
        · skip
          have HX : Hid (r = true) := Lib.hid (by rw [HE.out]; simp)
          clear HE
          go_enter Try.func101, Try.ntmps101
          go_wp2_with fail
          go_ret
          exact ⟨ret_bool HX.out.symm, BP _⟩
        · skip
          have HX : Hid (r = false) := Lib.hid (by rw [HE.out]; simp [hMn])
          clear HE
          go_enter Try.func101, Try.ntmps101
          go_wp2_with fail
          go_ret
          exact ⟨ret_bool HX.out.symm, BP _⟩
      · skip
        have HX : Hid (r = false) := Lib.hid (by rw [HE.out]; simp [hLn])
        clear HE
        go_enter Try.func101, Try.ntmps101
        go_wp2_with fail
        go_ret
        exact ⟨ret_bool HX.out.symm, BP _⟩
    · have qn : (n == 0) = false := by simpa using hn
      have HX : Hid (r = false) := Lib.hid (by rw [HE.out]; simp [hn])
      clear HE
      go_enter Try.func101, Try.ntmps101
      go_wp2_with fail
      go_ret
      exact ⟨ret_bool HX.out.symm, BP _⟩
  · have HE := Lib.hid (H5.out rfl)
    clear H0 H3 H4 H5 H6 H7 HKY
    by_cases hn : n = 0
    · subst hn
      cases s with
      | nil =>
        rcases hL with rfl | ⟨hLn, qL⟩
        · skip
          have HX : Hid (r = true) := Lib.hid (by rw [HE.out]; simp)
          clear HE
          go_enter Try.func101, Try.ntmps101
          go_wp2_with fail
          go_ret
          exact ⟨ret_bool HX.out.symm, BP _⟩
        · skip
          have HX : Hid (r = false) := Lib.hid (by rw [HE.out]; simp [hLn])
          clear HE
          go_enter Try.func101, Try.ntmps101
          go_wp2_with fail
          go_ret
          exact ⟨ret_bool HX.out.symm, BP _⟩
      | cons c tl =>
        have HX : Hid (r = false) := Lib.hid (by rw [HE.out]; simp)
        clear HE
        go_enter Try.func101, Try.ntmps101
        go_wp2_with fail
        go_ret
        exact ⟨ret_bool HX.out.symm, BP _⟩
    · have qn : (n == 0) = false := by simpa using hn
      have HX : Hid (r = false) := Lib.hid (by rw [HE.out]; simp [hn])
      clear HE
      go_enter Try.func101, Try.ntmps101
      go_wp2_with fail
      go_ret
      exact ⟨ret_bool HX.out.symm, BP _⟩
  · have HE := Lib.hid (H6.out rfl)
    clear H0 H3 H4 H5 H6 H7 hL hM
    by_cases hLM : L = M
    · subst hLM
      cases y
      · skip
        have HX : Hid (r = false) := Lib.hid (by rw [HE.out]; simp)
        clear HE
        go_enter Try.func101, Try.ntmps101
        go_wp2_with fail
        refine (HKY.out _ (BP _)).mono ?_
        rintro e w1 ⟨rfl, hb1⟩
        have x1 := keepB (heap_alloc_new w _) hb1
        obtain ⟨x10, x11, x12, x13, x14⟩ := cells5 x1
        have xf := frozen5 x1
        have B1 := (BP _).trans (hb1.mono (BP _).size)
        go_wp2_with fail
        go_ret
        exact ⟨ret_bool HX.out.symm, by first | exact B1 | exact (B1.setCell (Nat.le_refl _) _).setCell (Nat.le_refl _) _⟩
      · skip
        by_cases hn : n = 0
        · subst hn
          cases s with
          | nil =>
            have HX : Hid (r = true) := Lib.hid (by rw [HE.out]; simp)
            clear HE
            go_enter Try.func101, Try.ntmps101
            go_wp2_with fail
            refine (HKY.out _ (BP _)).mono ?_
            rintro e w1 ⟨rfl, hb1⟩
            have x1 := keepB (heap_alloc_new w _) hb1
            obtain ⟨x10, x11, x12, x13, x14⟩ := cells5 x1
            have xf := frozen5 x1
            have B1 := (BP _).trans (hb1.mono (BP _).size)
            go_wp2_with fail
            go_ret
            exact ⟨ret_bool HX.out.symm, by first | exact B1 | exact (B1.setCell (Nat.le_refl _) _).setCell (Nat.le_refl _) _⟩
          | cons c tl =>
            have HX : Hid (r = false) := Lib.hid (by rw [HE.out]; simp)
            clear HE
            go_enter Try.func101, Try.ntmps101
            go_wp2_with fail
            refine (HKY.out _ (BP _)).mono ?_
            rintro e w1 ⟨rfl, hb1⟩
            have x1 := keepB (heap_alloc_new w _) hb1
            obtain ⟨x10, x11, x12, x13, x14⟩ := cells5 x1
            have xf := frozen5 x1
            have B1 := (BP _).trans (hb1.mono (BP _).size)
            go_wp2_with fail
            go_ret
            exact ⟨ret_bool HX.out.symm, by first | exact B1 | exact (B1.setCell (Nat.le_refl _) _).setCell (Nat.le_refl _) _⟩
        · have qn : (n == 0) = false := by simpa using hn
          have HX : Hid (r = false) := Lib.hid (by rw [HE.out]; simp [hn])
          clear HE
          go_enter Try.func101, Try.ntmps101
          go_wp2_with fail
          refine (HKY.out _ (BP _)).mono ?_
          rintro e w1 ⟨rfl, hb1⟩
          have x1 := keepB (heap_alloc_new w _) hb1
          obtain ⟨x10, x11, x12, x13, x14⟩ := cells5 x1
          have xf := frozen5 x1
          have B1 := (BP _).trans (hb1.mono (BP _).size)
          go_wp2_with fail
          go_ret
          exact ⟨ret_bool HX.out.symm, by first | exact B1 | exact (B1.setCell (Nat.le_refl _) _).setCell (Nat.le_refl _) _⟩
    · have qLM : ((L : Int) != (M : Int)) = true := int_bne_true (by omega)
      have HX : Hid (r = false) := Lib.hid (by rw [HE.out]; simp [hLM])
      clear HE
      go_enter Try.func101, Try.ntmps101
      go_wp2_with fail
      go_ret
      exact ⟨ret_bool HX.out.symm, BP _⟩
  · have HE := Lib.hid (H7.out hkd)
    have k0 : (kd == 0) = false := int_beq_false (by omega)
    have k1 : (kd == 1) = false := int_beq_false (by omega)
    have k2 : (kd == 2) = false := int_beq_false (by omega)
    have k3 : (kd == 3) = false := int_beq_false (by omega)
    have k4 : (kd == 4) = false := int_beq_false (by omega)
    have k5 : (kd == 5) = false := int_beq_false (by omega)
    have k6 : (kd == 6) = false := int_beq_false (by omega)
    clear H0 H3 H4 H5 H6 H7 HKY hkd
    have HX : Hid (r = false) := Lib.hid HE.out
    clear HE
    go_enter Try.func101, Try.ntmps101
    go_wp2_with fail
    go_ret
    exact ⟨ret_bool HX.out.symm, BP _⟩
end Go.Proofs.Ythlbpklllphhcaa
