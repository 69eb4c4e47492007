/-
  spec.NameOk returns whether a string is a package name.
-/
import Derived.Test.YtcfkhfbhmjfhdaaGreatDoorCut
import Derived.Test.YtcfkhfbhmjfhdaaGreatDoorChar
namespace Go.Proofs.YtcfkhfbhmjfhdaaGreatDoor
open Go.RowKit

def nameI (z : Int) : Bool := decide ((97 ≤ z ∧ z ≤ 122) ∨ (48 ≤ z ∧ z ≤ 57) ∨ z = 46 ∨ z = 95 ∨ z = 45)
def nameB (c : UInt8) : Bool := nameI (c.toNat : Int)
def nmL : List UInt8 := [110, 111, 100, 101, 95, 109, 111, 100, 117, 108, 101, 115]
def compL (l : List UInt8) : Bool := !l.isEmpty && l.all nameB
def chk (sc : Bool) (p : List UInt8) : Bool := compL p && (sc || !(p == nmL))
def chkS (p : List UInt8) : Bool := if p.head? = some 64 then compL p.tail else chk false p
def specN (l : List UInt8) : Bool := (match cutL 47 l with
  | [] => true
  | p :: ps => chkS p && ps.all (chk false)) && decide (l.length ≤ 60)

theorem name_ways (z : Int) : lettI z = true ∨ (lettI z = false ∧ (z == 46) = true) ∨ (lettI z = false ∧ (z == 46) = false ∧ (z == 95) = true) ∨ (lettI z = false ∧ (z == 46) = false ∧ (z == 95) = false ∧ (z == 45) = true) ∨ (lettI z = false ∧ (z == 46) = false ∧ (z == 95) = false ∧ (z == 45) = false) := by
  cases lettI z <;> simp <;> omega
theorem name_yes {z : Int} (h : lettI z = true ∨ (z == 46) = true ∨ (z == 95) = true ∨ (z == 45) = true) : nameI z = true := by
  unfold lettI at h; unfold nameI; simp at h ⊢; omega
theorem name_no {z : Int} (h : lettI z = false ∧ (z == 46) = false ∧ (z == 95) = false ∧ (z == 45) = false) : nameI z = false := by
  unfold lettI at h; unfold nameI; simp at h ⊢; omega
theorem bne_of_beq {z c : Int} {b : Bool} (h : (z == c) = b) : (z != c) = !b := by unfold bne; rw [h]

theorem all_no (s : ByteArray) (k : Nat) (p : UInt8 → Bool) (h : k < s.size) (hb : p s[k] = false) : s.data.toList.all p = false := by
  rw [List.all_eq_false]
  have hm : s[k] ∈ s.data.toList := by
    have : s[k] = s.data.toList[k]'(by simpa using h) := rfl
    rw [this]; exact List.getElem_mem _
  exact ⟨_, hm, by simp [hb]⟩
theorem all_go (s : ByteArray) (k : Nat) (p : UInt8 → Bool) (h : k < s.size) (ha : (s.data.toList.take k).all p = true) (hb : p s[k] = true) : (s.data.toList.take (k + 1)).all p = true := by
  rw [take_snoc s k h, List.all_append, ha]; simp [hb]

/-- The first j parts are right. -/
def okS (j : Nat) (p : List UInt8) : Bool := if j = 0 then chkS p else chk false p
def UpTo (P : List (List UInt8)) (j : Nat) : Prop := ∀ t, t < j → okS t (P.getD t []) = true
theorem upTo_next {P : List (List UInt8)} {j : Nat} (h : UpTo P j) (hj : okS j (P.getD j []) = true) : UpTo P (j + 1) := fun t ht => by
  rcases Nat.lt_or_ge t j with h1 | h1
  · exact h t h1
  · obtain rfl : t = j := by omega
    exact hj
theorem specN_bad {l : List UInt8} {j : Nat} (hj : j < (cutL 47 l).length) (h : okS j ((cutL 47 l).getD j []) = false) : specN l = false := by
  unfold specN
  rw [Bool.and_eq_false_iff]; left
  cases hP : cutL 47 l with
  | nil => rw [hP] at hj; simp at hj
  | cons p ps =>
    rw [hP] at h hj
    simp only
    rw [Bool.and_eq_false_iff]
    cases j with
    | zero => left; simpa [okS] using h
    | succ j =>
      right
      simp [okS] at h
      simp at hj
      rw [List.all_eq_false]
      refine ⟨ps[j], List.getElem_mem _, ?_⟩
      simpa [hj] using h
theorem specN_end {l : List UInt8} (h : UpTo (cutL 47 l) (cutL 47 l).length) : specN l = decide (l.length ≤ 60) := by
  unfold specN
  cases hP : cutL 47 l with
  | nil => simp
  | cons p ps =>
    rw [hP] at h
    have h0 := h 0 (by simp)
    simp [okS] at h0
    have hr : ps.all (chk false) = true := by
      rw [List.all_eq_true]
      intro x hx
      obtain ⟨t, ht, rfl⟩ := List.mem_iff_getElem.1 hx
      have := h (t + 1) (by simp; omega)
      simpa [okS, ht] using this
    simp only
    rw [h0, hr]; simp

theorem attach_len (p : List UInt8) {X : List (List UInt8)} (h : X ≠ []) : (attach p X).length = X.length := by cases X <;> simp_all [attach]
theorem cutL_len (m : UInt8) (l : List UInt8) : (cutL m l).length ≤ l.length + 1 := by
  induction l with
  | nil => simp [cutL]
  | cons c l ih =>
    unfold cutL
    split
    · simp; omega
    · rw [attach_len _ (cutL_ne m l)]; simp; omega
theorem part_len (m : UInt8) (l : List UInt8) : ∀ p ∈ cutL m l, p.length ≤ l.length := by
  induction l with
  | nil => intro p hp; simp [cutL] at hp; subst hp; simp
  | cons c l ih =>
    intro p hp
    unfold cutL at hp
    split at hp
    · rcases List.mem_cons.1 hp with rfl | h
      · simp
      · have := ih p h; simp; omega
    · cases hX : cutL m l with
      | nil => exact absurd hX (cutL_ne m l)
      | cons q qs =>
        rw [hX] at hp
        simp [attach] at hp
        rcases hp with rfl | h
        · have := ih q (by rw [hX]; simp); simp; omega
        · have := ih p (by rw [hX]; simp [h]); simp; omega
theorem compL_empty {l : List UInt8} (h : l.isEmpty = true) : compL l = false := by unfold compL; rw [h]; rfl
theorem compL_bad {l : List UInt8} (h : l.all nameB = false) : compL l = false := by unfold compL; rw [h]; simp
theorem compL_good {l : List UInt8} (h : l.isEmpty = false) (h2 : l.all nameB = true) : compL l = true := by unfold compL; rw [h, h2]; rfl
theorem chk_of {p : List UInt8} (h : (p == nmL) = false) : chk false p = compL p := by unfold chk; rw [h]; simp
theorem chk_nm {p : List UInt8} (h : (p == nmL) = true) (j : Nat) : okS j p = false := by
  have : p = nmL := by simpa using h
  subst this
  unfold okS
  split <;> decide

set_option maxRecDepth 100000 in
set_option maxHeartbeats 4000000 in
theorem specNameOk_any (s : ByteArray) (w : World) (hs : s.size ≤ 1048576) :
    Calls Tryz.prog 39 #[.string s] w fun e w' => e = .returned (.bool (specN s.data.toList)) ∧ Below w.heap.size w w' := by
  go_enter Tryz.func39, Tryz.ntmps39
  go_wp2_with fail
  refine (l01Cut_any s 47 _ hs).mono ?_
  rintro e w1 ⟨g, cap, rfl, hown, hb⟩
  have hcell := fun j hj => hown.cell (g := g) j hj
  have hPl : (cutL 47 s.data.toList).length ≤ 1048577 := by have := cutL_len 47 s.data.toList; simp at this; omega
  obtain ⟨P, HPE⟩ : ∃ P, Hid (P = cutL 47 s.data.toList) := ⟨_, Lib.hid rfl⟩
  rw [← HPE.out] at hcell hPl ⊢
  clear hown
  go_wp2_with fail
  go_loop [4, 5, 6] (fun i _ _ => ∃ j : Nat, j ≤ P.length ∧ i = .int .i64 j ∧ UpTo P j) (fun i _ _ => P.length - (intOf i).toNat)
  case atStart => exact ⟨0, Nat.zero_le _, rfl, fun t ht => absurd ht (by omega)⟩
  case round =>
    obtain ⟨j, hj, rfl, H⟩ := hrel
    by_cases hlt : j < P.length
    · obtain ⟨b, hbE⟩ : ∃ b : ByteArray, b = ⟨P[j].toArray⟩ := ⟨_, rfl⟩
      have hc : w1.cell? ⟨g, j, none⟩ = some (.string b) := by rw [hbE]; exact hcell j hlt
      have HB : Hid (b.data.toList = P.getD j []) := Lib.hid (by rw [hbE]; simp [hlt])
      have HSZ : Hid (b.size ≤ 1048576) := Lib.hid (by
        have hmem : P[j] ∈ cutL 47 s.data.toList := by rw [← HPE.out]; exact List.getElem_mem _
        have := part_len 47 s.data.toList _ hmem
        have e : b.size = P[j].length := by rw [hbE]; show P[j].toArray.size = _; simp
        simp at this
        omega)
      clear hbE hcell
      by_cases hnm : (b.data.toList == nmL) = true
      · have e1 : (b.toList == [110, 111, 100, 101, 95, 109, 111, 100, 117, 108, 101, 115]) = true := by rw [ByteArray.toList_eq]; exact hnm
        have HV : Hid (specN s.data.toList = false) := Lib.hid (specN_bad (j := j) (by rw [← HPE.out]; exact hlt) (by rw [← HPE.out, ← HB.out]; exact chk_nm hnm j))
        clear hnm H
        go_wp2_with fail
        go_ret
        exact ⟨ret_bool HV.out.symm, hb⟩
      · have hnm' : (b.data.toList == nmL) = false := by simpa using hnm
        have e1 : (b.toList == [110, 111, 100, 101, 95, 109, 111, 100, 117, 108, 101, 115]) = false := by rw [ByteArray.toList_eq]; exact hnm'
        have hways : ∃ q : ByteArray, q.size ≤ b.size ∧ okS j b.data.toList = compL q.data.toList ∧
            ((((j : Int) == 0) = true ∧ (∃ h0 : 0 < b.size, ((b[0].toNat : Int) == 64) = true) ∧ (∀ W, (Instr.slice 9 (.string b) (some (.int .i64 1)) none none).run Tryz.prog W = .ok (.string q) W)) ∨
             (q = b ∧ (((j : Int) == 0) = false ∨ (((j : Int) == 0) = true ∧ ¬ 0 < b.size) ∨ (((j : Int) == 0) = true ∧ ∃ h0 : 0 < b.size, ((b[0].toNat : Int) == 64) = false)))) := by
          by_cases hj0 : j = 0
          · by_cases hb0 : 0 < b.size
            · have hd := drop_cons b 0 hb0
              simp at hd
              by_cases h64 : b[0] = 64
              · refine ⟨b.extract 1 b.size, by simp, ?_, .inl ⟨by simp [hj0], ⟨hb0, by rw [h64]; rfl⟩, slice_from b _ 1 1 rfl (by omega) rfl⟩⟩
                unfold okS chkS
                rw [if_pos hj0, hd, h64, piece_end]
                simp
              · refine ⟨b, Nat.le_refl _, ?_, .inr ⟨rfl, .inr (.inr ⟨by simp [hj0], hb0, int_beq_false (fun h => h64 (UInt8.toNat_inj.1 (by show _ = (64 : Nat); omega)))⟩)⟩⟩
                unfold okS chkS
                rw [if_pos hj0, if_neg (by rw [hd]; simpa using h64), chk_of hnm']
            · refine ⟨b, Nat.le_refl _, ?_, .inr ⟨rfl, .inr (.inl ⟨by simp [hj0], hb0⟩)⟩⟩
              have hz : b.size = 0 := by omega
              have hnil : b.data.toList = [] := List.eq_nil_of_length_eq_zero (by simpa using hz)
              unfold okS chkS
              rw [if_pos hj0, hnil]; rfl
          · refine ⟨b, Nat.le_refl _, ?_, .inr ⟨rfl, .inl (int_beq_false (fun h => hj0 (Int.ofNat.inj h)))⟩⟩
            unfold okS
            rw [if_neg hj0, chk_of hnm']
        obtain ⟨q, hqs, hok, hway⟩ := hways
        have HOK : Hid (okS j (P.getD j []) = compL q.data.toList) := Lib.hid (by rw [← HB.out]; exact hok)
        have HBAD : Hid (compL q.data.toList = false → specN s.data.toList = false) := Lib.hid (fun hcl => specN_bad (j := j) (by rw [← HPE.out]; exact hlt) (by rw [← HPE.out, HOK.out, hcl]))
        have HUP : Hid (compL q.data.toList = true → UpTo P (j + 1)) := Lib.hid (fun hcl => upTo_next H (by rw [HOK.out, hcl]))
        have hql : q.size ≤ 1048576 := Nat.le_trans hqs HSZ.out
        clear hnm hnm' hok H hqs
        have hway2 : (((j : Int) == 0) = true ∧ (∃ h0 : 0 < b.size, ((b[0].toNat : Int) == 64) = true) ∧ (∀ W, (Instr.slice 9 (.string b) (some (.int .i64 1)) none none).run Tryz.prog W = .ok (.string q) W)) ∨ (q = b ∧ ((j : Int) == 0) = false) ∨ (q = b ∧ ((j : Int) == 0) = true ∧ ¬ 0 < b.size) ∨ (q = b ∧ ((j : Int) == 0) = true ∧ ∃ h0 : 0 < b.size, ((b[0].toNat : Int) == 64) = false) := by
          rcases hway with h | ⟨h, h' | h' | h'⟩
          · exact .inl h
          · exact .inr (.inl ⟨h, h'⟩)
          · exact .inr (.inr (.inl ⟨h, h'⟩))
          · exact .inr (.inr (.inr ⟨h, h'⟩))
        clear hway
        rcases hway2 with ⟨e2, ⟨h0, e3⟩, he⟩ | ⟨rfl, e2⟩ | ⟨rfl, e2, h0⟩ | ⟨rfl, e2, h0, e3⟩
        all_goals
          go_wp2_with fail
          go_loop [6] (fun k => ∃ m : Nat, m ≤ q.size ∧ k = .int .i64 m ∧ Hid ((q.data.toList.take m).all nameB = true)) (fun k => q.size - (intOf k).toNat)
          case atStart => exact ⟨0, Nat.zero_le _, rfl, Lib.hid (by simp)⟩
          case round =>
            obtain ⟨m, hm, rfl, HA⟩ := hrel
            by_cases hml : m < q.size
            · have c1 := (byte_lt q[m]).1
              have c2 := (byte_lt q[m]).2
              rcases name_ways (q[m].toNat : Int) with z | ⟨z, z1⟩ | ⟨z, z1, z2⟩ | ⟨z, z1, z2, z3⟩ | ⟨z, z1, z2, z3⟩
              · have HY := Lib.hid (all_go q m nameB hml HA.out (name_yes (.inl z)))
                have HS := Lib.hid z
                clear z
                go_wp2_with fail
                refine (l01Letter_any _ _ c2 c1).mono ?_
                rw [HS.out]
                rintro e w' ⟨rfl, rfl⟩
                go_wp2_with fail
                go_round
                case rel => exact ⟨m + 1, by omega, by go_num, HY⟩
                case measure => simp [intOf]; omega
              · have HY := Lib.hid (all_go q m nameB hml HA.out (name_yes (.inr (.inl z1))))
                have HS := Lib.hid z
                have y1 := bne_of_beq z1
                clear z z1
                go_wp2_with fail
                refine (l01Letter_any _ _ c2 c1).mono ?_
                rw [HS.out]
                rintro e w' ⟨rfl, rfl⟩
                go_wp2_with fail
                go_round
                case rel => exact ⟨m + 1, by omega, by go_num, HY⟩
                case measure => simp [intOf]; omega
              · have HY := Lib.hid (all_go q m nameB hml HA.out (name_yes (.inr (.inr (.inl z2)))))
                have HS := Lib.hid z
                have y1 := bne_of_beq z1
                have y2 := bne_of_beq z2
                clear z z1 z2
                go_wp2_with fail
                refine (l01Letter_any _ _ c2 c1).mono ?_
                rw [HS.out]
                rintro e w' ⟨rfl, rfl⟩
                go_wp2_with fail
                go_round
                case rel => exact ⟨m + 1, by omega, by go_num, HY⟩
                case measure => simp [intOf]; omega
              · have HY := Lib.hid (all_go q m nameB hml HA.out (name_yes (.inr (.inr (.inr z3)))))
                have HS := Lib.hid z
                have y1 := bne_of_beq z1
                have y2 := bne_of_beq z2
                have y3 := bne_of_beq z3
                clear z z1 z2 z3
                go_wp2_with fail
                refine (l01Letter_any _ _ c2 c1).mono ?_
                rw [HS.out]
                rintro e w' ⟨rfl, rfl⟩
                go_wp2_with fail
                go_round
                case rel => exact ⟨m + 1, by omega, by go_num, HY⟩
                case measure => simp [intOf]; omega
              · have HX : Hid (specN s.data.toList = false) := Lib.hid (HBAD.out (compL_bad (all_no q m nameB hml (name_no ⟨z, z1, z2, z3⟩))))
                have HS := Lib.hid z
                have y1 := bne_of_beq z1
                have y2 := bne_of_beq z2
                have y3 := bne_of_beq z3
                clear z z1 z2 z3
                go_wp2_with fail
                refine (l01Letter_any _ _ c2 c1).mono ?_
                rw [HS.out]
                rintro e w' ⟨rfl, rfl⟩
                go_wp2_with fail
                go_ret
                exact ⟨ret_bool HX.out.symm, hb⟩
            · have HA2 := HA.out
              rw [take_end q m hml] at HA2
              by_cases hqe : q.data.toList.isEmpty = true
              · have HX : Hid (specN s.data.toList = false) := Lib.hid (HBAD.out (compL_empty hqe))
                have e9 : q.toList.isEmpty = true := by rw [ByteArray.toList_eq]; exact hqe
                clear hqe HA2
                go_wp2_with fail
                go_ret
                exact ⟨ret_bool HX.out.symm, hb⟩
              · have hqe' : q.data.toList.isEmpty = false := by simpa using hqe
                have HX := Lib.hid (HUP.out (compL_good hqe' HA2))
                have e9 : q.toList.isEmpty = false := by rw [ByteArray.toList_eq]; exact hqe'
                clear hqe hqe' HA2
                go_wp2_with fail
                go_round
                case rel => exact ⟨j + 1, by omega, by go_num, HX.out⟩
                case measure => simp [intOf]; omega
    · have HV : Hid (specN s.data.toList = decide (s.size ≤ 60)) := Lib.hid (by
        rw [specN_end (by rw [← HPE.out]; have hjl : j = P.length := (by omega); rw [← hjl]; exact H)]; simp)
      clear H hcell
      by_cases h60 : s.size ≤ 60
      · have d60 : decide (s.size ≤ 60) = true := by simpa using h60
        go_wp2_with fail
        go_ret
        exact ⟨ret_bool (by rw [HV.out, d60]; simp; omega), hb⟩
      · have d60 : decide (s.size ≤ 60) = false := by simpa using h60
        go_wp2_with fail
        go_ret
        exact ⟨ret_bool (by rw [HV.out, d60]; simp; omega), hb⟩
end Go.Proofs.YtcfkhfbhmjfhdaaGreatDoor
