/-
  impl.readFrom with each of the functions that readAlternative and readPartial hand to it.
-/
import Derived.Test.YtongpnknmgbhjaaGreatDoorRows
import Derived.Test.YtongpnknmgbhjaaGreatDoorBase
import Derived.Test.YtongpnknmgbhjaaGreatDoorPieces
import Derived.Test.YtongpnknmgbhjaaGreatDoorRdL
import Derived.Test.YtongpnknmgbhjaaGreatDoorCut
import Derived.Test.YtongpnknmgbhjaaGreatDoorChar
import Derived.Test.YtongpnknmgbhjaaGreatDoorWholeB
import Derived.Test.YtongpnknmgbhjaaGreatDoorCharN
import Derived.Test.YtongpnknmgbhjaaGreatDoorRrM
import Derived.Test.YtongpnknmgbhjaaGreatDoorRas
import Derived.Test.YtongpnknmgbhjaaGreatDoorWholeA
import Derived.Lib.SliceRun
import Derived.Deep.RegionHeld3
/-
  The last place of a byte in a text.
-/
namespace Go.Proofs.YtongpnknmgbhjaaGreatDoor
open Go.RowKit

/-- The last place of c among the first k bytes of l, or -1. -/
def lastK (l : List UInt8) (c : UInt8) : Nat → Int
  | 0 => -1
  | k + 1 => if l.getD k 0 = c then (k : Int) else lastK l c k
theorem lastK_bd (l : List UInt8) (c : UInt8) : ∀ k, -1 ≤ lastK l c k ∧ lastK l c k < k
  | 0 => by simp [lastK]
  | k + 1 => by
    have := lastK_bd l c k
    unfold lastK
    split <;> omega
theorem lastK_take (l : List UInt8) (c : UInt8) (n : Nat) : ∀ k, k ≤ n → k ≤ l.length → lastK (l.take n) c k = lastK l c k
  | 0, _, _ => rfl
  | k + 1, h, hl => by
    unfold lastK
    rw [lastK_take l c n k (by omega) (by omega)]
    have : (l.take n).getD k 0 = l.getD k 0 := by simp [List.getD_eq_getElem?_getD, List.getElem?_take_of_lt (show k < n by omega)]
    rw [this]
theorem getD_byte (s : ByteArray) (k : Nat) (h : k < s.size) : s.data.toList.getD k 0 = s[k] := by
  rw [List.getD_eq_getElem?_getD, List.getElem?_eq_getElem (by simpa using h)]; rfl
theorem lastK_hit {s : ByteArray} {c : UInt8} {k : Nat} (h : k < s.size) (hc : s[k] = c) : lastK s.data.toList c (k + 1) = k := by
  unfold lastK; rw [getD_byte s k h, if_pos hc]
theorem lastK_miss {s : ByteArray} {c : UInt8} {k : Nat} (h : k < s.size) (hc : ¬ s[k] = c) : lastK s.data.toList c (k + 1) = lastK s.data.toList c k := by
  conv => lhs; unfold lastK
  rw [getD_byte s k h, if_neg hc]

/-- The two parts of a key. -/
def keyA (s : ByteArray) : ByteArray := if lastK s.data.toList 64 s.size < 0 then ⟨#[]⟩ else s.extract 0 (lastK s.data.toList 64 s.size).toNat
def keyB (s : ByteArray) : ByteArray := if lastK s.data.toList 64 s.size < 0 then ⟨#[]⟩ else s.extract ((lastK s.data.toList 64 s.size).toNat + 1) s.size
theorem slice_upto (s r : ByteArray) (b : Nat) (zb : Int) (hb : zb = (b : Int)) (h2 : b ≤ s.size) (hr : s.extract 0 b = r) (w : World) :
    (Instr.slice 9 (.string s) none (some (.int .i64 zb)) none).run Tryz.prog w = .ok (.string r) w := by
  subst hb hr
  have h0 : (0 : Int) ≤ (b : Int) := by omega
  have h3 : (b : Int) ≤ (s.size : Int) := by omega
  have h := run_slice_string_h (P := Tryz.prog) w 9 s Tryz.underlying9 .i64 (b : Int) h0 h3
  simpa using h
theorem keyA_hit {s : ByteArray} {k : Nat} (h : lastK s.data.toList 64 s.size = (k : Int)) : keyA s = s.extract 0 k := by unfold keyA; rw [h, if_neg (by omega)]; rfl
theorem keyB_hit {s : ByteArray} {k : Nat} (h : lastK s.data.toList 64 s.size = (k : Int)) : keyB s = s.extract (k + 1) s.size := by unfold keyB; rw [h, if_neg (by omega)]; rfl
theorem keyA_miss {s : ByteArray} (h : lastK s.data.toList 64 s.size < 0) : keyA s = ⟨#[]⟩ := by unfold keyA; rw [if_pos h]
theorem keyB_miss {s : ByteArray} (h : lastK s.data.toList 64 s.size < 0) : keyB s = ⟨#[]⟩ := by unfold keyB; rw [if_pos h]

end Go.Proofs.YtongpnknmgbhjaaGreatDoor

/-
  spec.NameOk returns whether a string is a package name.
-/
namespace Go.Proofs.YtongpnknmgbhjaaGreatDoor
open Go.RowKit

def nameI (z : Int) : Bool := decide ((97 ≤ z ∧ z ≤ 122) ∨ (48 ≤ z ∧ z ≤ 57) ∨ z = 46 ∨ z = 95 ∨ z = 45)
def nameB (c : UInt8) : Bool := nameI (c.toNat : Int)
def nmL : List UInt8 := [110, 111, 100, 101, 95, 109, 111, 100, 117, 108, 101, 115]
def compL (l : List UInt8) : Bool := !l.isEmpty && l.all nameB
def chk (sc : Bool) (p : List UInt8) : Bool := compL p && (sc || !(p == nmL))
def chkS (p : List UInt8) : Bool := if p.head? = some 64 then compL p.tail else chk false p
def specN (l : List UInt8) : Bool := (match cutL 47 l with
  | [] => true
  | p :: ps => chkS p && ps.all (chk false)) && decide (l.length ≤ 60)

theorem name_ways (z : Int) : lettI z = true ∨ (lettI z = false ∧ (z == 46) = true) ∨ (lettI z = false ∧ (z == 46) = false ∧ (z == 95) = true) ∨ (lettI z = false ∧ (z == 46) = false ∧ (z == 95) = false ∧ (z == 45) = true) ∨ (lettI z = false ∧ (z == 46) = false ∧ (z == 95) = false ∧ (z == 45) = false) := by
  cases lettI z <;> simp <;> omega
theorem name_yes {z : Int} (h : lettI z = true ∨ (z == 46) = true ∨ (z == 95) = true ∨ (z == 45) = true) : nameI z = true := by
  unfold lettI at h; unfold nameI; simp at h ⊢; omega
theorem name_no {z : Int} (h : lettI z = false ∧ (z == 46) = false ∧ (z == 95) = false ∧ (z == 45) = false) : nameI z = false := by
  unfold lettI at h; unfold nameI; simp at h ⊢; omega
theorem bne_of_beq {z c : Int} {b : Bool} (h : (z == c) = b) : (z != c) = !b := by unfold bne; rw [h]

theorem all_no (s : ByteArray) (k : Nat) (p : UInt8 → Bool) (h : k < s.size) (hb : p s[k] = false) : s.data.toList.all p = false := by
  rw [List.all_eq_false]
  have hm : s[k] ∈ s.data.toList := by
    have : s[k] = s.data.toList[k]'(by simpa using h) := rfl
    rw [this]; exact List.getElem_mem _
  exact ⟨_, hm, by simp [hb]⟩
theorem all_go (s : ByteArray) (k : Nat) (p : UInt8 → Bool) (h : k < s.size) (ha : (s.data.toList.take k).all p = true) (hb : p s[k] = true) : (s.data.toList.take (k + 1)).all p = true := by
  rw [take_snoc s k h, List.all_append, ha]; simp [hb]

/-- The first j parts are right. -/
def okS (j : Nat) (p : List UInt8) : Bool := if j = 0 then chkS p else chk false p
def UpTo (P : List (List UInt8)) (j : Nat) : Prop := ∀ t, t < j → okS t (P.getD t []) = true
theorem upTo_next {P : List (List UInt8)} {j : Nat} (h : UpTo P j) (hj : okS j (P.getD j []) = true) : UpTo P (j + 1) := fun t ht => by
  rcases Nat.lt_or_ge t j with h1 | h1
  · exact h t h1
  · obtain rfl : t = j := by omega
    exact hj
theorem specN_bad {l : List UInt8} {j : Nat} (hj : j < (cutL 47 l).length) (h : okS j ((cutL 47 l).getD j []) = false) : specN l = false := by
  unfold specN
  rw [Bool.and_eq_false_iff]; left
  cases hP : cutL 47 l with
  | nil => rw [hP] at hj; simp at hj
  | cons p ps =>
    rw [hP] at h hj
    simp only
    rw [Bool.and_eq_false_iff]
    cases j with
    | zero => left; simpa [okS] using h
    | succ j =>
      right
      simp [okS] at h
      simp at hj
      rw [List.all_eq_false]
      refine ⟨ps[j], List.getElem_mem _, ?_⟩
      simpa [hj] using h
theorem specN_end {l : List UInt8} (h : UpTo (cutL 47 l) (cutL 47 l).length) : specN l = decide (l.length ≤ 60) := by
  unfold specN
  cases hP : cutL 47 l with
  | nil => simp
  | cons p ps =>
    rw [hP] at h
    have h0 := h 0 (by simp)
    simp [okS] at h0
    have hr : ps.all (chk false) = true := by
      rw [List.all_eq_true]
      intro x hx
      obtain ⟨t, ht, rfl⟩ := List.mem_iff_getElem.1 hx
      have := h (t + 1) (by simp; omega)
      simpa [okS, ht] using this
    simp only
    rw [h0, hr]; simp

theorem attach_len (p : List UInt8) {X : List (List UInt8)} (h : X ≠ []) : (attach p X).length = X.length := by cases X <;> simp_all [attach]
theorem cutL_len (m : UInt8) (l : List UInt8) : (cutL m l).length ≤ l.length + 1 := by
  induction l with
  | nil => simp [cutL]
  | cons c l ih =>
    unfold cutL
    split
    · simp; omega
    · rw [attach_len _ (cutL_ne m l)]; simp; omega
theorem part_len (m : UInt8) (l : List UInt8) : ∀ p ∈ cutL m l, p.length ≤ l.length := by
  induction l with
  | nil => intro p hp; simp [cutL] at hp; subst hp; simp
  | cons c l ih =>
    intro p hp
    unfold cutL at hp
    split at hp
    · rcases List.mem_cons.1 hp with rfl | h
      · simp
      · have := ih p h; simp; omega
    · cases hX : cutL m l with
      | nil => exact absurd hX (cutL_ne m l)
      | cons q qs =>
        rw [hX] at hp
        simp [attach] at hp
        rcases hp with rfl | h
        · have := ih q (by rw [hX]; simp); simp; omega
        · have := ih p (by rw [hX]; simp [h]); simp; omega
theorem compL_empty {l : List UInt8} (h : l.isEmpty = true) : compL l = false := by unfold compL; rw [h]; rfl
theorem compL_bad {l : List UInt8} (h : l.all nameB = false) : compL l = false := by unfold compL; rw [h]; simp
theorem compL_good {l : List UInt8} (h : l.isEmpty = false) (h2 : l.all nameB = true) : compL l = true := by unfold compL; rw [h, h2]; rfl
theorem chk_of {p : List UInt8} (h : (p == nmL) = false) : chk false p = compL p := by unfold chk; rw [h]; simp
theorem chk_nm {p : List UInt8} (h : (p == nmL) = true) (j : Nat) : okS j p = false := by
  have : p = nmL := by simpa using h
  subst this
  unfold okS
  split <;> decide

set_option maxRecDepth 100000 in
set_option maxHeartbeats 4000000 in
theorem specNameOk_any (s : ByteArray) (w : World) (hs : s.size ≤ 1048576) :
    Calls Tryz.prog 114 #[.string s] w fun e w' => e = .returned (.bool (specN s.data.toList)) ∧ Below w.heap.size w w' := by
  go_enter Tryz.func114, Tryz.ntmps114
  go_wp2_with fail
  refine (l01Cut_any s 47 _ hs).mono ?_
  rintro e w1 ⟨g, cap, rfl, hown, hb⟩
  have hcell := fun j hj => hown.cell (g := g) j hj
  have hPl : (cutL 47 s.data.toList).length ≤ 1048577 := by have := cutL_len 47 s.data.toList; simp at this; omega
  obtain ⟨P, HPE⟩ : ∃ P, Hid (P = cutL 47 s.data.toList) := ⟨_, Lib.hid rfl⟩
  rw [← HPE.out] at hcell hPl ⊢
  clear hown
  go_wp2_with fail
  go_loop [4, 5, 6] (fun i _ _ => ∃ j : Nat, j ≤ P.length ∧ i = .int .i64 j ∧ UpTo P j) (fun i _ _ => P.length - (intOf i).toNat)
  case atStart => exact ⟨0, Nat.zero_le _, rfl, fun t ht => absurd ht (by omega)⟩
  case round =>
    obtain ⟨j, hj, rfl, H⟩ := hrel
    by_cases hlt : j < P.length
    · obtain ⟨b, hbE⟩ : ∃ b : ByteArray, b = ⟨P[j].toArray⟩ := ⟨_, rfl⟩
      have hc : w1.cell? ⟨g, j, none⟩ = some (.string b) := by rw [hbE]; exact hcell j hlt
      have HB : Hid (b.data.toList = P.getD j []) := Lib.hid (by rw [hbE]; simp [hlt])
      have HSZ : Hid (b.size ≤ 1048576) := Lib.hid (by
        have hmem : P[j] ∈ cutL 47 s.data.toList := by rw [← HPE.out]; exact List.getElem_mem _
        have := part_len 47 s.data.toList _ hmem
        have e : b.size = P[j].length := by rw [hbE]; show P[j].toArray.size = _; simp
        simp at this
        omega)
      clear hbE hcell
      by_cases hnm : (b.data.toList == nmL) = true
      · have e1 : (b.toList == [110, 111, 100, 101, 95, 109, 111, 100, 117, 108, 101, 115]) = true := by rw [ByteArray.toList_eq]; exact hnm
        have HV : Hid (specN s.data.toList = false) := Lib.hid (specN_bad (j := j) (by rw [← HPE.out]; exact hlt) (by rw [← HPE.out, ← HB.out]; exact chk_nm hnm j))
        clear hnm H
        go_wp2_with fail
        go_ret
        exact ⟨ret_bool HV.out.symm, hb⟩
      · have hnm' : (b.data.toList == nmL) = false := by simpa using hnm
        have e1 : (b.toList == [110, 111, 100, 101, 95, 109, 111, 100, 117, 108, 101, 115]) = false := by rw [ByteArray.toList_eq]; exact hnm'
        have hways : ∃ q : ByteArray, q.size ≤ b.size ∧ okS j b.data.toList = compL q.data.toList ∧
            ((((j : Int) == 0) = true ∧ (∃ h0 : 0 < b.size, ((b[0].toNat : Int) == 64) = true) ∧ (∀ W, (Instr.slice 9 (.string b) (some (.int .i64 1)) none none).run Tryz.prog W = .ok (.string q) W)) ∨
             (q = b ∧ (((j : Int) == 0) = false ∨ (((j : Int) == 0) = true ∧ ¬ 0 < b.size) ∨ (((j : Int) == 0) = true ∧ ∃ h0 : 0 < b.size, ((b[0].toNat : Int) == 64) = false)))) := by
          by_cases hj0 : j = 0
          · by_cases hb0 : 0 < b.size
            · have hd := drop_cons b 0 hb0
              simp at hd
              by_cases h64 : b[0] = 64
              · refine ⟨b.extract 1 b.size, by simp, ?_, .inl ⟨by simp [hj0], ⟨hb0, by rw [h64]; rfl⟩, slice_from b _ 1 1 rfl (by omega) rfl⟩⟩
                unfold okS chkS
                rw [if_pos hj0, hd, h64, piece_end]
                simp
              · refine ⟨b, Nat.le_refl _, ?_, .inr ⟨rfl, .inr (.inr ⟨by simp [hj0], hb0, int_beq_false (fun h => h64 (UInt8.toNat_inj.1 (by show _ = (64 : Nat); omega)))⟩)⟩⟩
                unfold okS chkS
                rw [if_pos hj0, if_neg (by rw [hd]; simpa using h64), chk_of hnm']
            · refine ⟨b, Nat.le_refl _, ?_, .inr ⟨rfl, .inr (.inl ⟨by simp [hj0], hb0⟩)⟩⟩
              have hz : b.size = 0 := by omega
              have hnil : b.data.toList = [] := List.eq_nil_of_length_eq_zero (by simpa using hz)
              unfold okS chkS
              rw [if_pos hj0, hnil]; rfl
          · refine ⟨b, Nat.le_refl _, ?_, .inr ⟨rfl, .inl (int_beq_false (fun h => hj0 (Int.ofNat.inj h)))⟩⟩
            unfold okS
            rw [if_neg hj0, chk_of hnm']
        obtain ⟨q, hqs, hok, hway⟩ := hways
        have HOK : Hid (okS j (P.getD j []) = compL q.data.toList) := Lib.hid (by rw [← HB.out]; exact hok)
        have HBAD : Hid (compL q.data.toList = false → specN s.data.toList = false) := Lib.hid (fun hcl => specN_bad (j := j) (by rw [← HPE.out]; exact hlt) (by rw [← HPE.out, HOK.out, hcl]))
        have HUP : Hid (compL q.data.toList = true → UpTo P (j + 1)) := Lib.hid (fun hcl => upTo_next H (by rw [HOK.out, hcl]))
        have hql : q.size ≤ 1048576 := Nat.le_trans hqs HSZ.out
        clear hnm hnm' hok H hqs
        have hway2 : (((j : Int) == 0) = true ∧ (∃ h0 : 0 < b.size, ((b[0].toNat : Int) == 64) = true) ∧ (∀ W, (Instr.slice 9 (.string b) (some (.int .i64 1)) none none).run Tryz.prog W = .ok (.string q) W)) ∨ (q = b ∧ ((j : Int) == 0) = false) ∨ (q = b ∧ ((j : Int) == 0) = true ∧ ¬ 0 < b.size) ∨ (q = b ∧ ((j : Int) == 0) = true ∧ ∃ h0 : 0 < b.size, ((b[0].toNat : Int) == 64) = false) := by
          rcases hway with h | ⟨h, h' | h' | h'⟩
          · exact .inl h
          · exact .inr (.inl ⟨h, h'⟩)
          · exact .inr (.inr (.inl ⟨h, h'⟩))
          · exact .inr (.inr (.inr ⟨h, h'⟩))
        clear hway
        rcases hway2 with ⟨e2, ⟨h0, e3⟩, he⟩ | ⟨rfl, e2⟩ | ⟨rfl, e2, h0⟩ | ⟨rfl, e2, h0, e3⟩
        all_goals
          go_wp2_with fail
          go_loop [6] (fun k => ∃ m : Nat, m ≤ q.size ∧ k = .int .i64 m ∧ Hid ((q.data.toList.take m).all nameB = true)) (fun k => q.size - (intOf k).toNat)
          case atStart => exact ⟨0, Nat.zero_le _, rfl, Lib.hid (by simp)⟩
          case round =>
            obtain ⟨m, hm, rfl, HA⟩ := hrel
            by_cases hml : m < q.size
            · have c1 := (byte_lt q[m]).1
              have c2 := (byte_lt q[m]).2
              rcases name_ways (q[m].toNat : Int) with z | ⟨z, z1⟩ | ⟨z, z1, z2⟩ | ⟨z, z1, z2, z3⟩ | ⟨z, z1, z2, z3⟩
              · have HY := Lib.hid (all_go q m nameB hml HA.out (name_yes (.inl z)))
                have HS := Lib.hid z
                clear z
                go_wp2_with fail
                refine (l01Letter_any _ _ c2 c1).mono ?_
                rw [HS.out]
                rintro e w' ⟨rfl, rfl⟩
                go_wp2_with fail
                go_round
                case rel => exact ⟨m + 1, by omega, by go_num, HY⟩
                case measure => simp [intOf]; omega
              · have HY := Lib.hid (all_go q m nameB hml HA.out (name_yes (.inr (.inl z1))))
                have HS := Lib.hid z
                have y1 := bne_of_beq z1
                clear z z1
                go_wp2_with fail
                refine (l01Letter_any _ _ c2 c1).mono ?_
                rw [HS.out]
                rintro e w' ⟨rfl, rfl⟩
                go_wp2_with fail
                go_round
                case rel => exact ⟨m + 1, by omega, by go_num, HY⟩
                case measure => simp [intOf]; omega
              · have HY := Lib.hid (all_go q m nameB hml HA.out (name_yes (.inr (.inr (.inl z2)))))
                have HS := Lib.hid z
                have y1 := bne_of_beq z1
                have y2 := bne_of_beq z2
                clear z z1 z2
                go_wp2_with fail
                refine (l01Letter_any _ _ c2 c1).mono ?_
                rw [HS.out]
                rintro e w' ⟨rfl, rfl⟩
                go_wp2_with fail
                go_round
                case rel => exact ⟨m + 1, by omega, by go_num, HY⟩
                case measure => simp [intOf]; omega
              · have HY := Lib.hid (all_go q m nameB hml HA.out (name_yes (.inr (.inr (.inr z3)))))
                have HS := Lib.hid z
                have y1 := bne_of_beq z1
                have y2 := bne_of_beq z2
                have y3 := bne_of_beq z3
                clear z z1 z2 z3
                go_wp2_with fail
                refine (l01Letter_any _ _ c2 c1).mono ?_
                rw [HS.out]
                rintro e w' ⟨rfl, rfl⟩
                go_wp2_with fail
                go_round
                case rel => exact ⟨m + 1, by omega, by go_num, HY⟩
                case measure => simp [intOf]; omega
              · have HX : Hid (specN s.data.toList = false) := Lib.hid (HBAD.out (compL_bad (all_no q m nameB hml (name_no ⟨z, z1, z2, z3⟩))))
                have HS := Lib.hid z
                have y1 := bne_of_beq z1
                have y2 := bne_of_beq z2
                have y3 := bne_of_beq z3
                clear z z1 z2 z3
                go_wp2_with fail
                refine (l01Letter_any _ _ c2 c1).mono ?_
                rw [HS.out]
                rintro e w' ⟨rfl, rfl⟩
                go_wp2_with fail
                go_ret
                exact ⟨ret_bool HX.out.symm, hb⟩
            · have HA2 := HA.out
              rw [take_end q m hml] at HA2
              by_cases hqe : q.data.toList.isEmpty = true
              · have HX : Hid (specN s.data.toList = false) := Lib.hid (HBAD.out (compL_empty hqe))
                have e9 : q.toList.isEmpty = true := by rw [ByteArray.toList_eq]; exact hqe
                clear hqe HA2
                go_wp2_with fail
                go_ret
                exact ⟨ret_bool HX.out.symm, hb⟩
              · have hqe' : q.data.toList.isEmpty = false := by simpa using hqe
                have HX := Lib.hid (HUP.out (compL_good hqe' HA2))
                have e9 : q.toList.isEmpty = false := by rw [ByteArray.toList_eq]; exact hqe'
                clear hqe hqe' HA2
                go_wp2_with fail
                go_round
                case rel => exact ⟨j + 1, by omega, by go_num, HX.out⟩
                case measure => simp [intOf]; omega
    · have HV : Hid (specN s.data.toList = decide (s.size ≤ 60)) := Lib.hid (by
        rw [specN_end (by rw [← HPE.out]; have hjl : j = P.length := (by omega); rw [← hjl]; exact H)]; simp)
      clear H hcell
      by_cases h60 : s.size ≤ 60
      · have d60 : decide (s.size ≤ 60) = true := by simpa using h60
        go_wp2_with fail
        go_ret
        exact ⟨ret_bool (by rw [HV.out, d60]; simp; omega), hb⟩
      · have d60 : decide (s.size ≤ 60) = false := by simpa using h60
        go_wp2_with fail
        go_ret
        exact ⟨ret_bool (by rw [HV.out, d60]; simp; omega), hb⟩
end Go.Proofs.YtongpnknmgbhjaaGreatDoor

/-
  Reading a need in plain words: a range's text bears no @, so the last @ parts a need.
-/
namespace Go.Proofs.YtongpnknmgbhjaaGreatDoor
open Go.RowKit

theorem index_parts {s sep : List UInt8} {i : Nat} (h : Lib.index s sep = i) : s = s.take i ++ (sep ++ s.drop (i + sep.length)) := by
  rcases Lib.index_spec s sep with ⟨h1, _⟩ | ⟨j, h1, _, h3, _⟩
  · rw [h1] at h; omega
  · have hj : j = i := by rw [h1] at h; omega
    subst hj
    unfold Lib.occAt at h3
    obtain ⟨t, ht⟩ := List.isPrefixOf_iff_prefix.1 h3
    have : t = s.drop (j + sep.length) := by rw [← List.drop_drop, ← ht]; simp
    rw [← this, ht, List.take_append_drop]
theorem splitK_has {x : UInt8} {sep : List UInt8} (hx : x ∉ sep) : ∀ (k : Nat) (s : List UInt8), x ∈ s → ∃ p ∈ Lib.splitK sep 0 k s, x ∈ p
  | 0, s, h => ⟨s, by simp [Lib.splitK], h⟩
  | k + 1, s, h => by
    unfold Lib.splitK
    split
    · exact ⟨s, by simp, h⟩
    · rename_i hm
      have hg := Lib.index_ge s sep
      obtain ⟨i, hi⟩ : ∃ i : Nat, Lib.index s sep = i := ⟨(Lib.index s sep).toNat, by have : Lib.index s sep ≠ -1 := fun e => hm (beq_iff_eq.2 e); omega⟩
      have hp := index_parts hi
      rw [hi]
      rw [hp] at h
      rcases List.mem_append.1 h with h | h
      · exact ⟨_, List.mem_cons_self, by simpa using h⟩
      · rcases List.mem_append.1 h with h | h
        · exact absurd h hx
        · obtain ⟨p, hp1, hp2⟩ := splitK_has hx k (s.drop (i + sep.length)) h
          exact ⟨p, List.mem_cons_of_mem _ (by simpa using hp1), hp2⟩
theorem v64 : vch 64 = false := by decide
theorem read64 {l : List UInt8} (h : readOk l = true) : (64 : UInt8) ∉ l := readOk_none h v64
theorem from64 {l : List UInt8} {p : Int} (h : fromOk l p = true) : (64 : UInt8) ∉ l := by unfold fromOk at h; simp at h; exact read64 h.1
theorem ge64 {l : List UInt8} (h : (geP l && readOk (l.drop 2)) = true) : (64 : UInt8) ∉ l := by
  simp only [Bool.and_eq_true] at h
  obtain ⟨h1, h2⟩ := h
  unfold geP at h1
  obtain ⟨t, rfl⟩ := List.isPrefixOf_iff_prefix.1 h1
  have := read64 h2
  simpa using this
theorem lt64 {l : List UInt8} (h : (ltP l && readOk (l.drop 1)) = true) : (64 : UInt8) ∉ l := by
  simp only [Bool.and_eq_true] at h
  obtain ⟨h1, h2⟩ := h
  unfold ltP at h1
  obtain ⟨t, rfl⟩ := List.isPrefixOf_iff_prefix.1 h1
  have := read64 h2
  simpa using this
theorem lm64 {l : List UInt8} (h : lmOk l = true) : (64 : UInt8) ∉ l := by
  unfold lmOk at h
  split at h
  · rename_i hi
    simp only [Bool.and_eq_true] at h
    have h1 := ge64 (l := cutA 32 l) (by simp only [Bool.and_eq_true]; exact h.1)
    have h2 := lt64 (l := cutB 32 l) (by simp only [Bool.and_eq_true]; exact h.2)
    have hs := idx_split 32 l hi
    intro hm
    rw [hs] at hm
    unfold cutA at h1; rw [if_pos hi] at h1
    unfold cutB at h2; rw [if_pos hi] at h2
    rcases List.mem_append.1 hm with hm | hm
    · exact h1 hm
    · rcases List.mem_cons.1 hm with hm | hm
      · exact absurd hm (by decide)
      · exact h2 hm
  · simp only [Bool.or_eq_true] at h
    rcases h with h | h
    · exact ge64 h
    · exact lt64 h
theorem head_drop {l : List UInt8} {c : UInt8} (h : l.head? = some c) : l = c :: l.drop 1 := by
  cases l with
  | nil => simp at h
  | cons x y => simp at h; subst h; rfl
theorem alt64 {l : List UInt8} (h : altOk l = true) : (64 : UInt8) ∉ l := by
  unfold altOk at h
  split at h
  · rename_i e; rw [e]; decide
  · split at h
    · rename_i e; rw [head_drop e]; have := from64 h; simpa using this
    · split at h
      · rename_i e; rw [head_drop e]; have := from64 h; simpa using this
      · split at h
        · exact lm64 h
        · split at h
          · have := from64 h; intro hm; exact this (by simp [hm])
          · unfold exOk at h; simp at h; exact read64 h.1
/-- A range's text bears no @. -/
theorem rg64 {l : List UInt8} (h : rgOk l = true) : (64 : UInt8) ∉ l := by
  intro hm
  unfold rgOk at h
  simp only [Bool.and_eq_true] at h
  obtain ⟨p, hp, hx⟩ := splitK_has (x := 64) (sep := orSep) (by decide) (Lib.count l orSep) l hm
  exact alt64 (List.all_eq_true.1 h.2.2 p hp) hx

/-- Whether two texts are a need's. -/
def nd2 (a b : ByteArray) : Bool := specN a.data.toList && rgOk b.data.toList
/-- Whether a text is a need's, and its parts. -/
def nrOk (s : ByteArray) : Bool := nd2 (keyA s) (keyB s)
def nrA (s : ByteArray) : ByteArray := if nrOk s = true then keyA s else ⟨#[]⟩
def nrB (s : ByteArray) : ByteArray := if nrOk s = true then keyB s else ⟨#[]⟩
/-- A need's parts are parted at k. -/
def gd (s : ByteArray) (k : Nat) : Bool := if h : k < s.size then (s[k] == 64) && nd2 (s.extract 0 k) (s.extract (k + 1) s.size) else false
theorem lastK_at {s : ByteArray} {k : Nat} (hk : k < s.size) (hc : s[k] = 64) (hn : (64 : UInt8) ∉ (s.extract (k + 1) s.size).data.toList) : ∀ n, k + 1 ≤ n → n ≤ s.size → lastK s.data.toList 64 n = k
  | 0, h, _ => by omega
  | n + 1, h, hl => by
    by_cases he : n = k
    · subst he; exact lastK_hit hk hc
    · have hne : ¬ s[n]'(by omega) = 64 := fun e => hn (by
        have : (s.extract (k + 1) s.size).data.toList = (s.data.toList.drop (k + 1)) := by rw [piece_end]
        rw [this]
        have hl2 : n < s.data.toList.length := by simpa using (by omega : n < s.size)
        have h3 : s.data.toList[n] = 64 := e
        rw [← h3]
        exact List.mem_iff_getElem.2 ⟨n - (k + 1), by simp; simp at hl2; omega, by simp [show k + 1 + (n - (k + 1)) = n by omega]⟩)
      rw [lastK_miss (by omega) hne]
      exact lastK_at hk hc hn n (by omega) (by omega)
theorem gd_yes {s : ByteArray} {k : Nat} (h : gd s k = true) : nrOk s = true ∧ nrA s = s.extract 0 k ∧ nrB s = s.extract (k + 1) s.size := by
  unfold gd at h
  split at h
  · rename_i hk
    simp only [Bool.and_eq_true, beq_iff_eq] at h
    obtain ⟨hc, hn⟩ := h
    have h64 : (64 : UInt8) ∉ (s.extract (k + 1) s.size).data.toList := by
      unfold nd2 at hn; simp only [Bool.and_eq_true] at hn; exact rg64 hn.2
    have hl := lastK_at hk hc h64 s.size (by omega) (Nat.le_refl _)
    have ha := keyA_hit hl
    have hb := keyB_hit hl
    have hok : nrOk s = true := by unfold nrOk; rw [ha, hb]; exact hn
    exact ⟨hok, by unfold nrA; rw [if_pos hok, ha], by unfold nrB; rw [if_pos hok, hb]⟩
  · cases h
theorem specN_nil : specN [] = false := by decide
theorem lastK_is {s : ByteArray} : ∀ n, n ≤ s.size → ∀ k : Nat, lastK s.data.toList 64 n = k → ∃ h : k < s.size, s[k] = 64
  | 0, _, k, h => by simp [lastK] at h
  | n + 1, hn, k, h => by
    by_cases hc : s[n]'(by omega) = 64
    · rw [lastK_hit (by omega) hc] at h
      have : n = k := by omega
      subst this; exact ⟨by omega, hc⟩
    · rw [lastK_miss (by omega) hc] at h
      exact lastK_is n (by omega) k h
theorem gd_none {s : ByteArray} (h : ∀ j, 1 ≤ j → j < s.size → gd s j = false) : nrOk s = false := by
  cases ho : nrOk s with
  | false => rfl
  | true =>
    exfalso
    have hb := lastK_bd s.data.toList 64 s.size
    by_cases hl : lastK s.data.toList 64 s.size < 0
    · unfold nrOk nd2 at ho
      rw [keyA_miss hl] at ho
      have e : (⟨#[]⟩ : ByteArray).data.toList = [] := rfl
      rw [e, specN_nil] at ho; cases ho
    · obtain ⟨k, hk⟩ : ∃ k : Nat, lastK s.data.toList 64 s.size = k := ⟨(lastK s.data.toList 64 s.size).toNat, by omega⟩
      obtain ⟨hlt, hc⟩ := lastK_is s.size (Nat.le_refl _) k hk
      have ha := keyA_hit hk
      have hbb := keyB_hit hk
      by_cases h0 : k = 0
      · unfold nrOk nd2 at ho
        rw [ha, h0] at ho
        have e : (s.extract 0 0).data.toList = [] := by rw [Lib.extract_data]; simp
        rw [e, specN_nil] at ho; cases ho
      · have hg := h k (by omega) hlt
        unfold gd at hg
        rw [dif_pos hlt, hc] at hg
        unfold nrOk at ho
        rw [ha, hbb] at ho
        rw [ho] at hg; simp at hg
/-- What ReadNeed hands back. -/
def NrIs (w : World) (s : ByteArray) (e : Ending) (w' : World) : Prop := e = .returned (.tuple #[.agg #[.string (nrA s), .string (nrB s)], .bool (nrOk s)]) ∧ Below w.heap.size w w'
theorem nrIs_no {w w' : World} {s : ByteArray} (h : nrOk s = false) (hb : Below w.heap.size w w') : NrIs w s (.returned (.tuple #[.agg #[.string ⟨#[]⟩, .string ⟨#[]⟩], .bool false])) w' := by
  refine ⟨?_, hb⟩
  unfold nrA nrB; rw [h]; rfl
end Go.Proofs.YtongpnknmgbhjaaGreatDoor

/-
  impl.raised at each number, impl.leadingPart, the functions that are handed to readFrom.
-/
namespace Go.Proofs.YtongpnknmgbhjaaGreatDoor
open Go.RowKit

theorem three_cells {V : World} {B : Nat} {T : TypeId} {v0 v1 v2 : Value} (h : V.heap[B]? = some (.cells #[v0, v1, v2] T)) (j : Nat) (hj : j < 3) : (V.cell? ⟨B, j, none⟩).isSome = true ∧ V.frozen? ⟨B, j, none⟩ = false := by
  have : j = 0 ∨ j = 1 ∨ j = 2 := by omega
  rcases this with rfl | rfl | rfl <;> simp [World.cell?, World.frozen?, h]
theorem clear_0 (a b c : Int) (w : World) (o : Obj) (n : Nat) (hn : n = w.heap.size + 1) : (Builtin.clear_ #[101] 0 #[.slice (some ⟨n, 1, none⟩) 2 2]).run Tryz.prog ((w.alloc o).alloc (.cells #[.int .i64 (a + 1), .int .i64 b, .int .i64 c] 177)) = .ok (.tuple #[]) ((w.alloc o).alloc (.cells #[.int .i64 (a + 1), .int .i64 0, .int .i64 0] 177)) := by
  subst hn
  have e : w.heap.size + 1 = (w.alloc o).heap.size := by simp
  rw [e]
  generalize w.alloc o = W
  have hb := heap_alloc_new W (.cells #[.int .i64 (a + 1), .int .i64 b, .int .i64 c] 177)
  have h := Lib.run_clear_slice (P := Tryz.prog) (W.alloc (.cells #[.int .i64 (a + 1), .int .i64 b, .int .i64 c] 177)) 101 3 0 (.int .i64 0) Tryz.underlying101 Tryz.zeroValue3 rfl rfl W.heap.size 1 2 2 (by decide) (fun j hj => (three_cells hb _ (by omega)).1) (fun j hj => (three_cells hb _ (by omega)).2)
  rw [h]
  simp only [List.replicate, World.setCells]
  rw [World.setCell_alloc_at _ _ _ _ _ rfl, World.setCell_alloc_at _ _ _ _ _ rfl]
  rfl
theorem clear_1 (a b c : Int) (w : World) (o : Obj) (n : Nat) (hn : n = w.heap.size + 1) : (Builtin.clear_ #[101] 0 #[.slice (some ⟨n, 2, none⟩) 1 1]).run Tryz.prog ((w.alloc o).alloc (.cells #[.int .i64 a, .int .i64 (b + 1), .int .i64 c] 177)) = .ok (.tuple #[]) ((w.alloc o).alloc (.cells #[.int .i64 a, .int .i64 (b + 1), .int .i64 0] 177)) := by
  subst hn
  have e : w.heap.size + 1 = (w.alloc o).heap.size := by simp
  rw [e]
  generalize w.alloc o = W
  have hb := heap_alloc_new W (.cells #[.int .i64 a, .int .i64 (b + 1), .int .i64 c] 177)
  have h := Lib.run_clear_slice (P := Tryz.prog) (W.alloc (.cells #[.int .i64 a, .int .i64 (b + 1), .int .i64 c] 177)) 101 3 0 (.int .i64 0) Tryz.underlying101 Tryz.zeroValue3 rfl rfl W.heap.size 2 1 1 (by decide) (fun j hj => (three_cells hb _ (by omega)).1) (fun j hj => (three_cells hb _ (by omega)).2)
  rw [h]
  simp only [List.replicate, World.setCells]
  rw [World.setCell_alloc_at _ _ _ _ _ rfl]
  rfl

set_option maxRecDepth 100000 in
set_option maxHeartbeats 4000000 in
theorem raised_0 (a b c : Int) (A : Option Addr) (n cap : Nat) (w : World) (ht : Tab w) (hc : 0 ≤ a ∧ a ≤ 999999999) :
    Calls Tryz.prog 107 #[.agg #[.int .i64 a, .int .i64 b, .int .i64 c, .slice A n cap], .int .i64 0] w fun e w' => e = .returned (.string ⟨(rsd a b c 0).toArray⟩) ∧ Below w.heap.size w w' := by
  have HT := Lib.hid (fun (v : Value) (q : Nat) (W : World) (h : Strs W q v [[48]]) (hb : Below w.heap.size w W) => implVersionText_any (a + 1) 0 0 q v [[48]] W h sm_zz (tab_below ht hb))
  have HE : Hid (rsd a b c 0 = verText (a + 1) 0 0 [[48]]) := Lib.hid rfl
  rw [HE.out]
  obtain ⟨t, HTT⟩ : ∃ t, Hid (verText (a + 1) 0 0 [[48]] = t) := ⟨_, Lib.hid rfl⟩
  simp only [HTT.out] at HT
  rw [HTT.out]
  clear ht
  have cw : IntKind.i64.wrap (a + 1) = a + 1 := IntWalk.i64_in _ (by omega)
  have hcl := clear_0 a b c w (.cells #[.int .i64 a, .int .i64 b, .int .i64 c, .slice A n cap] 127) (w.heap.size + 1) rfl
  go_enter Tryz.func107, Tryz.ntmps107
  go_wp2_with fail
  refine (HT.out _ (w.heap.size + 1 + 1) _ (strs_z _ _ (by simp) [48]) (below_three _ _ _ _)).mono ?_
  rintro e w5 ⟨rfl, hb5⟩
  go_wp2_with fail
  go_ret
  exact ⟨rfl, (below_three _ _ _ _).trans (hb5.mono (by simp; omega))⟩

set_option maxRecDepth 100000 in
set_option maxHeartbeats 4000000 in
theorem raised_1 (a b c : Int) (A : Option Addr) (n cap : Nat) (w : World) (ht : Tab w) (hc : 0 ≤ b ∧ b ≤ 999999999) :
    Calls Tryz.prog 107 #[.agg #[.int .i64 a, .int .i64 b, .int .i64 c, .slice A n cap], .int .i64 1] w fun e w' => e = .returned (.string ⟨(rsd a b c 1).toArray⟩) ∧ Below w.heap.size w w' := by
  have HT := Lib.hid (fun (v : Value) (q : Nat) (W : World) (h : Strs W q v [[48]]) (hb : Below w.heap.size w W) => implVersionText_any a (b + 1) 0 q v [[48]] W h sm_zz (tab_below ht hb))
  have HE : Hid (rsd a b c 1 = verText a (b + 1) 0 [[48]]) := Lib.hid rfl
  rw [HE.out]
  obtain ⟨t, HTT⟩ : ∃ t, Hid (verText a (b + 1) 0 [[48]] = t) := ⟨_, Lib.hid rfl⟩
  simp only [HTT.out] at HT
  rw [HTT.out]
  clear ht
  have cw : IntKind.i64.wrap (b + 1) = b + 1 := IntWalk.i64_in _ (by omega)
  have hcl := clear_1 a b c w (.cells #[.int .i64 a, .int .i64 b, .int .i64 c, .slice A n cap] 127) (w.heap.size + 1) rfl
  go_enter Tryz.func107, Tryz.ntmps107
  go_wp2_with fail
  refine (HT.out _ (w.heap.size + 1 + 1) _ (strs_z _ _ (by simp) [48]) (below_three _ _ _ _)).mono ?_
  rintro e w5 ⟨rfl, hb5⟩
  go_wp2_with fail
  go_ret
  exact ⟨rfl, (below_three _ _ _ _).trans (hb5.mono (by simp; omega))⟩

theorem raised_part (a b c p : Int) (A : Option Addr) (n cap : Nat) (w : World) (ht : Tab w) (hv : verOk a b c [] = true) (hp : inI p 0 2 = true) :
    Calls Tryz.prog 107 #[.agg #[.int .i64 a, .int .i64 b, .int .i64 c, .slice A n cap], .int .i64 p] w fun e w' => e = .returned (.string ⟨(rsd a b c p).toArray⟩) ∧ Below w.heap.size w w' := by
  obtain ⟨ha, hb, hc, _⟩ := verOk_num hv
  rcases inI_ways hp with rfl | rfl | rfl
  · exact raised_0 a b c A n cap w ht ha
  · exact raised_1 a b c A n cap w ht hb
  · exact raised_any a b c A n cap w ht hc

set_option maxRecDepth 100000 in
set_option maxHeartbeats 1000000 in
theorem leadingPart_any (a b c : Int) (A : Option Addr) (n cap : Nat) (w : World) :
    Calls Tryz.prog 108 #[.agg #[.int .i64 a, .int .i64 b, .int .i64 c, .slice A n cap]] w fun e w' => e = .returned (.int .i64 (if 0 < a then 0 else if 0 < b then 1 else 2)) ∧ Below w.heap.size w w' := by
  have B0 : Below w.heap.size w (w.alloc (.cells #[.int .i64 a, .int .i64 b, .int .i64 c, .slice A n cap] 127)) := (Below.refl _ _).alloc (Nat.le_refl _) _
  by_cases h0 : 0 < a
  · rw [if_pos h0]
    go_enter Tryz.func108, Tryz.ntmps108
    go_wp2_with fail
    go_ret
    exact ⟨rfl, B0⟩
  · rw [if_neg h0]
    by_cases h1 : 0 < b
    · rw [if_pos h1]
      go_enter Tryz.func108, Tryz.ntmps108
      go_wp2_with fail
      go_ret
      exact ⟨rfl, B0⟩
    · rw [if_neg h1]
      go_enter Tryz.func108, Tryz.ntmps108
      go_wp2_with fail
      go_ret
      exact ⟨rfl, B0⟩

set_option maxRecDepth 100000 in
set_option maxHeartbeats 2000000 in
theorem fnTilde_any (a b c : Int) (A : Option Addr) (n cap : Nat) (w : World) (ht : Tab w) (hv : verOk a b c [] = true) :
    Calls Tryz.prog 109 #[.agg #[.int .i64 a, .int .i64 b, .int .i64 c, .slice A n cap]] w fun e w' => e = .returned (.string ⟨(rsd a b c 1).toArray⟩) ∧ Below w.heap.size w w' := by
  have HR := Lib.hid (fun W (h : Below w.heap.size w W) => raised_part a b c 1 A n cap W (tab_below ht h) hv (by decide))
  generalize rsd a b c 1 = t at HR ⊢
  have B0 : Below w.heap.size w (w.alloc (.cells #[.int .i64 a, .int .i64 b, .int .i64 c, .slice A n cap] 127)) := (Below.refl _ _).alloc (Nat.le_refl _) _
  clear ht hv
  go_enter Tryz.func109, Tryz.ntmps109
  go_wp2_with fail
  refine (HR.out _ B0).mono ?_
  rintro e w5 ⟨rfl, hb5⟩
  go_wp2_with fail
  go_ret
  exact ⟨rfl, B0.trans (hb5.mono B0.size)⟩

set_option maxRecDepth 100000 in
set_option maxHeartbeats 2000000 in
theorem fnPartial_any (a b c p : Int) (Q : Nat) (A : Option Addr) (n cap : Nat) (w : World) (ht : Tab w) (hv : verOk a b c [] = true) (hp : inI p 0 2 = true) (hq : w.cell? ⟨Q, 0, none⟩ = some (.int .i64 p)) :
    Calls Tryz.prog 168 #[.agg #[.int .i64 a, .int .i64 b, .int .i64 c, .slice A n cap], .pointer (some ⟨Q, 0, none⟩)] w fun e w' => e = .returned (.string ⟨(rsd a b c p).toArray⟩) ∧ Below w.heap.size w w' := by
  have HR := Lib.hid (fun W (h : Below w.heap.size w W) => raised_part a b c p A n cap W (tab_below ht h) hv hp)
  generalize rsd a b c p = t at HR ⊢
  have B0 : Below w.heap.size w (w.alloc (.cells #[.int .i64 a, .int .i64 b, .int .i64 c, .slice A n cap] 127)) := (Below.refl _ _).alloc (Nat.le_refl _) _
  have hlt := cell_in hq
  clear ht hv hp
  go_enter Tryz.func168, Tryz.ntmps168
  go_wp2_with fail
  refine (HR.out _ B0).mono ?_
  rintro e w5 ⟨rfl, hb5⟩
  go_wp2_with fail
  go_ret
  exact ⟨rfl, B0.trans (hb5.mono B0.size)⟩

set_option maxRecDepth 100000 in
set_option maxHeartbeats 2000000 in
theorem fnCaret_any (a b c : Int) (A : Option Addr) (n cap : Nat) (w : World) (ht : Tab w) (hv : verOk a b c [] = true) :
    Calls Tryz.prog 106 #[.agg #[.int .i64 a, .int .i64 b, .int .i64 c, .slice A n cap]] w fun e w' => e = .returned (.string ⟨(rsd a b c (if 0 < a then 0 else if 0 < b then 1 else 2)).toArray⟩) ∧ Below w.heap.size w w' := by
  have hin : inI (if 0 < a then 0 else if 0 < b then 1 else 2) 0 2 = true := by unfold inI; split <;> (try split) <;> decide
  have HL := Lib.hid (fun W => leadingPart_any a b c A n cap W)
  obtain ⟨p, HP⟩ : ∃ p : Int, Hid ((if 0 < a then 0 else if 0 < b then 1 else 2) = p) := ⟨_, Lib.hid rfl⟩
  simp only [HP.out] at HL hin ⊢
  have HR := Lib.hid (fun W (h : Below w.heap.size w W) => raised_part a b c p A n cap W (tab_below ht h) hv hin)
  generalize rsd a b c p = t at HR ⊢
  have B0 : Below w.heap.size w (w.alloc (.cells #[.int .i64 a, .int .i64 b, .int .i64 c, .slice A n cap] 127)) := (Below.refl _ _).alloc (Nat.le_refl _) _
  have b0 := heap_alloc_new w (.cells #[.int .i64 a, .int .i64 b, .int .i64 c, .slice A n cap] 127)
  have BV : Below w.heap.size w (w.alloc (.cells #[.int .i64 a, .int .i64 b, .int .i64 c, .slice A n cap] 127)).drew := B0.trans (below_drewN _ _ 1)
  obtain ⟨p0, p1, p2, p3⟩ := cells4 b0
  clear ht hv hin
  go_enter Tryz.func106, Tryz.ntmps106
  go_wp2_with fail
  go_region_held3 (fun W => W.cell? ⟨w.heap.size, 0, none⟩ = some (.int .i64 a) ∧ W.cell? ⟨w.heap.size, 1, none⟩ = some (.int .i64 b) ∧ W.cell? ⟨w.heap.size, 2, none⟩ = some (.int .i64 c) ∧ W.cell? ⟨w.heap.size, 3, none⟩ = some (.slice A n cap)) (first | exact ⟨p0, p1, p2, p3⟩ | go_keep) ((first
    | (go_at_call 108; (with_reducible refine (HL.out _).mono ?_); rintro e w5 ⟨rfl, hb5⟩; have B5 := BV.trans (hb5.mono BV.size); have v5 := keepB (W := (w.alloc (.cells #[.int .i64 a, .int .i64 b, .int .i64 c, .slice A n cap] 127)).drew) b0 hb5; obtain ⟨p0, p1, p2, p3⟩ := cells4 v5)
    | (go_at_call 107; (with_reducible refine (HR.out _ B5).mono ?_); rintro e w7 ⟨rfl, hb7⟩; have B7 := B5.trans (hb7.mono B5.size); have v7 := keepB v5 hb7; obtain ⟨p0, p1, p2, p3⟩ := cells4 v7)))
  all_goals
    go_wp2_with fail
    go_ret
    exact ⟨rfl, B7⟩
end Go.Proofs.YtongpnknmgbhjaaGreatDoor

namespace Go.Proofs.YtongpnknmgbhjaaGreatDoor
open Go.RowKit

set_option maxRecDepth 100000 in
set_option maxHeartbeats 4000000 in
theorem rfCaret_no (l : List UInt8) (w : World) (hl : l.length ≤ 1048576) (hok : readOk l = false) :
    Calls Tryz.prog 105 #[.string ⟨l.toArray⟩, .func (.func 106) #[] #[]] w fun e w' => e = .returned (.tuple #[.agg #[.string ⟨#[]⟩, .string ⟨#[]⟩], .bool false]) ∧ Below w.heap.size w w' := by
  have HR := Lib.hid (fun W => readV_any l W hl)
  have B0 : Below w.heap.size w (w.alloc (.cells #[.string ⟨#[]⟩, .string ⟨#[]⟩] 73)) := (Below.refl _ _).alloc (Nat.le_refl _) _
  have r0 := heap_alloc_new w (.cells #[.string ⟨#[]⟩, .string ⟨#[]⟩] 73)
  go_enter Tryz.func105, Tryz.ntmps105
  go_wp2_with fail
  refine (HR.out _).mono ?_
  rintro e w2 ⟨u, rfl, hS, hb⟩
  rw [hok]
  obtain ⟨U, uc, rfl, _⟩ := RdS.of_strs hS
  have B1 := B0.trans (hb.mono (by simp))
  have r1 := keepB r0 hb
  clear hS hb B0 r0
  obtain ⟨c0, c1⟩ := two_cells r1
  have f0 := frozen2 r1 0
  have f1 := frozen2 r1 1
  have hs1 := lt_of_heap r1
  have B2 := (below_res2 B1 (Nat.le_refl _) (.string ⟨#[]⟩) (.string ⟨#[]⟩)).alloc (by simp; omega) (.cells #[.int .i64 (readA l 0), .int .i64 (readA l 1), .int .i64 (readA l 2), .slice U (readP l).length uc] 127)
  obtain ⟨y0, y1⟩ := two_cells (keepA (set2_heap r1 (.string ⟨#[]⟩) (.string ⟨#[]⟩)) (.cells #[.int .i64 (readA l 0), .int .i64 (readA l 1), .int .i64 (readA l 2), .slice U (readP l).length uc] 127))
  go_wp2_with fail
  refine bodyPost_ret (v := .tuple #[.agg #[.string ⟨#[]⟩, .string ⟨#[]⟩], .bool false]) ?_ rfl ⟨rfl, B2⟩
  simp [results, Tryz.results105, go_sem, y0, y1]

set_option maxRecDepth 100000 in
set_option maxHeartbeats 4000000 in
theorem rfCaret_yes (l : List UInt8) (w : World) (hl : l.length ≤ 1048576) (hok : readOk l = true) (ht : Tab w) :
    Calls Tryz.prog 105 #[.string ⟨l.toArray⟩, .func (.func 106) #[] #[]] w fun e w' => e = .returned (.tuple #[.agg #[.string ⟨l.toArray⟩, .string ⟨(rsd (readA l 0) (readA l 1) (readA l 2) (crt l)).toArray⟩], .bool (!(rsd (readA l 0) (readA l 1) (readA l 2) (crt l)).isEmpty)]) ∧ Below w.heap.size w w' := by
  have HR := Lib.hid (fun W => readV_any l W hl)
  have B0 : Below w.heap.size w (w.alloc (.cells #[.string ⟨#[]⟩, .string ⟨#[]⟩] 73)) := (Below.refl _ _).alloc (Nat.le_refl _) _
  have r0 := heap_alloc_new w (.cells #[.string ⟨#[]⟩, .string ⟨#[]⟩] 73)
  obtain ⟨h, HH⟩ : ∃ h, Hid (rsd (readA l 0) (readA l 1) (readA l 2) (crt l) = h) := ⟨_, Lib.hid rfl⟩
  rw [HH.out]
  have HRV := Lib.hid (read_ver hok)
  have HRB := Lib.hid (read_back hok)
  have HRN := Lib.hid (read_num hok)
  have HSM := Lib.hid (sm_readPP l)
  go_enter Tryz.func105, Tryz.ntmps105
  go_wp2_with fail
  refine (HR.out _).mono ?_
  rintro e w2 ⟨u, rfl, hS, hb⟩
  rw [hok]
  have hrd := RdS.of_strs hS
  have B1 := B0.trans (hb.mono (by simp))
  have HV := Lib.hid (fun (W : World) (h : Below w2.heap.size w2 W) => implVersionText_any (readA l 0) (readA l 1) (readA l 2) _ u (readP l) W (hS.below h) HSM.out (tab_below (tab_below ht B1) h))
  have HA := Lib.hid (fun (U : Option Addr) (n cap : Nat) (W : World) (h : Below w2.heap.size w2 W) => fnCaret_any (readA l 0) (readA l 1) (readA l 2) U n cap W (tab_below (tab_below ht B1) h) HRN.out)
  rw [show (if 0 < readA l 0 then (0 : Int) else if 0 < readA l 1 then 1 else 2) = crt l from rfl, HH.out] at HA
  rw [HRB.out] at HV
  obtain ⟨U, uc, rfl, _⟩ := hrd
  have r1 := keepB r0 hb
  clear hS hb B0 r0 ht hok HRV HRB HSM HRN
  have hs1 := lt_of_heap r1
  have BV : Below w2.heap.size w2 ((w2.alloc (.cells #[.int .i64 (readA l 0), .int .i64 (readA l 1), .int .i64 (readA l 2), .slice U (readP l).length uc] 127)).drew) := ((Below.refl _ _).alloc (Nat.le_refl _) _).trans (below_drewN _ _ 1)
  have r2 := keepA r1 (.cells #[.int .i64 (readA l 0), .int .i64 (readA l 1), .int .i64 (readA l 2), .slice U (readP l).length uc] 127)
  have v2 := heap_alloc_new w2 (.cells #[.int .i64 (readA l 0), .int .i64 (readA l 1), .int .i64 (readA l 2), .slice U (readP l).length uc] 127)
  obtain ⟨p0, p1, p2, p3⟩ := cells4 v2
  go_wp2_with fail
  have BW : Below w2.heap.size w2 (((w2.alloc (.cells #[.int .i64 (readA l 0), .int .i64 (readA l 1), .int .i64 (readA l 2), .slice U (readP l).length uc] 127)).alloc (.cells #[.string ⟨#[]⟩, .string ⟨#[]⟩] 73)).drew) := (((Below.refl _ _).alloc (Nat.le_refl _) _).alloc (by simp) _).trans (below_drewN _ _ 1)
  go_region_held3 (fun W => W.cell? ⟨w2.heap.size, 0, none⟩ = some (.int .i64 (readA l 0)) ∧ W.cell? ⟨w2.heap.size, 1, none⟩ = some (.int .i64 (readA l 1)) ∧ W.cell? ⟨w2.heap.size, 2, none⟩ = some (.int .i64 (readA l 2)) ∧ W.cell? ⟨w2.heap.size, 3, none⟩ = some (.slice U (readP l).length uc)) (first | exact ⟨p0, p1, p2, p3⟩ | exact ⟨(cell_far2 hq _ _).trans p0, (cell_far2 hq _ _).trans p1, (cell_far2 hq _ _).trans p2, (cell_far2 hq _ _).trans p3⟩ | go_keep) ((first
    | (go_at_call 162; (with_reducible refine (HV.out _ BV).mono ?_); rintro e w5 ⟨rfl, hb5⟩; have B5 := BV.trans (hb5.mono BV.size); have v5 := (keepB (W := (w2.alloc (.cells #[.int .i64 (readA l 0), .int .i64 (readA l 1), .int .i64 (readA l 2), .slice U (readP l).length uc] 127)).drew) v2 hb5); have r5 := (keepB (W := (w2.alloc (.cells #[.int .i64 (readA l 0), .int .i64 (readA l 1), .int .i64 (readA l 2), .slice U (readP l).length uc] 127)).drew) r2 hb5); obtain ⟨p0, p1, p2, p3⟩ := cells4 v5)
    | (go_at_call 106; (with_reducible refine (HA.out _ _ _ _ B5).mono ?_); rintro e w7 ⟨rfl, hb7⟩; have z7 := keepB z5 hb7; obtain ⟨z0, z1⟩ := two_cells z7; have g0 := frozen2 z7 0; have g1 := frozen2 z7 1; have hq : w2.heap.size ≠ w2.heap.size + 1 := Nat.ne_of_lt (Nat.lt_succ_self _); have B7 := B5.trans (hb7.mono B5.size); have v7 := keepB v5 hb7; have r7 := keepB r5 hb7; obtain ⟨p0, p1, p2, p3⟩ := cells4 v7)
    | (go_at_call 106; (with_reducible refine (HA.out _ _ _ _ B5).mono ?_); rintro e w7 ⟨rfl, hb7⟩; have B7 := B5.trans (hb7.mono B5.size); have v7 := keepB v5 hb7; have r7 := keepB r5 hb7; obtain ⟨p0, p1, p2, p3⟩ := cells4 v7)
    | (go_at_call 106; (with_reducible refine (HA.out _ _ _ _ (B5.alloc B5.size _)).mono ?_); rintro e w7 ⟨rfl, hb7⟩; have B7 := (B5.alloc B5.size (.cells #[.string ⟨#[]⟩, .string ⟨#[]⟩] 73)).trans (hb7.mono (B5.alloc B5.size (.cells #[.string ⟨#[]⟩, .string ⟨#[]⟩] 73)).size); have v5 := keepA v5 (.cells #[.string ⟨#[]⟩, .string ⟨#[]⟩] 73); have r5 := keepA r5 (.cells #[.string ⟨#[]⟩, .string ⟨#[]⟩] 73); have z7 := keepB (heap_alloc_new w5 _) hb7; obtain ⟨z0, z1⟩ := two_cells z7; have g0 := frozen2 z7 0; have g1 := frozen2 z7 1; have hq : w2.heap.size ≠ w5.heap.size := Nat.ne_of_lt (lt_of_heap (keepB (W := (w2.alloc (.cells #[.int .i64 (readA l 0), .int .i64 (readA l 1), .int .i64 (readA l 2), .slice U (readP l).length uc] 127)).drew) v2 hb5)); have v7 := keepB v5 hb7; have r7 := keepB r5 hb7; obtain ⟨p0, p1, p2, p3⟩ := cells4 v7)
    | (go_at_call 162; (with_reducible refine (HV.out _ BW).mono ?_); rintro e w5 ⟨rfl, hb5⟩; have B5 := BW.trans (hb5.mono BW.size); have v5 := (keepB (W := ((w2.alloc (.cells #[.int .i64 (readA l 0), .int .i64 (readA l 1), .int .i64 (readA l 2), .slice U (readP l).length uc] 127)).alloc (.cells #[.string ⟨#[]⟩, .string ⟨#[]⟩] 73)).drew) (keepA v2 (.cells #[.string ⟨#[]⟩, .string ⟨#[]⟩] 73)) hb5); have r5 := (keepB (W := ((w2.alloc (.cells #[.int .i64 (readA l 0), .int .i64 (readA l 1), .int .i64 (readA l 2), .slice U (readP l).length uc] 127)).alloc (.cells #[.string ⟨#[]⟩, .string ⟨#[]⟩] 73)).drew) (keepA r2 (.cells #[.string ⟨#[]⟩, .string ⟨#[]⟩] 73)) hb5); have z5 : w5.heap[w2.heap.size + 1]? = some (.cells #[.string ⟨#[]⟩, .string ⟨#[]⟩] 73) := keepB (W := ((w2.alloc (.cells #[.int .i64 (readA l 0), .int .i64 (readA l 1), .int .i64 (readA l 2), .slice U (readP l).length uc] 127)).alloc (.cells #[.string ⟨#[]⟩, .string ⟨#[]⟩] 73)).drew) (heap_new (W := (w2.alloc (.cells #[.int .i64 (readA l 0), .int .i64 (readA l 1), .int .i64 (readA l 2), .slice U (readP l).length uc] 127))) (by simp) _) hb5; obtain ⟨p0, p1, p2, p3⟩ := cells4 v5)))
  · have zz := heap_alloc_new w7 (.cells #[.string ⟨l.toArray⟩, .string ⟨h.toArray⟩] 73)
    have rr := keepA r7 (.cells #[.string ⟨l.toArray⟩, .string ⟨h.toArray⟩] 73)
    have hQR : w7.heap.size ≠ w.heap.size := by have := lt_of_heap r7; omega
    have BB : Below w.heap.size w (w7.alloc (.cells #[.string ⟨l.toArray⟩, .string ⟨h.toArray⟩] 73)) := (B1.trans (B7.mono B1.size)).alloc (by have := lt_of_heap r7; omega) _
    generalize w7.alloc (.cells #[.string ⟨l.toArray⟩, .string ⟨h.toArray⟩] 73) = W8 at zz rr BB ⊢
    generalize w7.heap.size = Q at zz hQR ⊢
    clear p0 p1 p2 p3 v7 r7 B7 hb7 v5 r5 B5 hb5 HV HA BV BW v2 r2
    by_cases hh : h = []
    · subst hh
      obtain ⟨z0, z1⟩ := two_cells zz
      obtain ⟨y0, y1⟩ := two_cells rr
      have f0 := frozen2 rr 0
      have f1 := frozen2 rr 1
      go_wp2_with fail
      go_region
      all_goals go_wp2_with fail
      all_goals
        obtain ⟨x0, x1⟩ := two_cells (V := ((W8.setCell ⟨w.heap.size, 0, none⟩ (.string ⟨l.toArray⟩)).setCell ⟨w.heap.size, 1, none⟩ (.string ⟨#[]⟩)).drew) (set2_heap rr (.string ⟨l.toArray⟩) (.string ⟨#[]⟩))
        refine bodyPost_ret (v := .tuple #[.agg #[.string ⟨l.toArray⟩, .string ⟨#[]⟩], .bool false]) ?_ rfl ⟨rfl, (below_res2 BB (Nat.le_refl _) (.string ⟨l.toArray⟩) (.string ⟨#[]⟩)).trans (below_drewN _ _ 1)⟩
        simp [results, Tryz.results105, go_sem, x0, x1]
    · have n1 : (h == []) = false := by simpa using hh
      have n2 : (h != []) = true := by simpa using hh
      have HE : Hid (Ending.returned (.tuple #[.agg #[.string ⟨l.toArray⟩, .string ⟨h.toArray⟩], .bool true]) = Ending.returned (.tuple #[.agg #[.string ⟨l.toArray⟩, .string ⟨h.toArray⟩], .bool (!h.isEmpty)])) := Lib.hid (by cases h with | nil => exact absurd rfl hh | cons x y => rfl)
      clear hh
      obtain ⟨z0, z1⟩ := two_cells zz
      obtain ⟨y0, y1⟩ := two_cells rr
      have f0 := frozen2 rr 0
      have f1 := frozen2 rr 1
      go_wp2_with fail
      go_region
      all_goals go_wp2_with fail
      all_goals
        obtain ⟨x0, x1⟩ := two_cells (V := ((W8.setCell ⟨w.heap.size, 0, none⟩ (.string ⟨l.toArray⟩)).setCell ⟨w.heap.size, 1, none⟩ (.string ⟨h.toArray⟩)).drew) (set2_heap rr (.string ⟨l.toArray⟩) (.string ⟨h.toArray⟩))
        refine bodyPost_ret (v := .tuple #[.agg #[.string ⟨l.toArray⟩, .string ⟨h.toArray⟩], .bool true]) ?_ rfl ⟨HE.out, (below_res2 BB (Nat.le_refl _) (.string ⟨l.toArray⟩) (.string ⟨h.toArray⟩)).trans (below_drewN _ _ 1)⟩
        simp [results, Tryz.results105, go_sem, x0, x1]
  · have zz := set2_heap z7 (.string ⟨l.toArray⟩) (.string ⟨h.toArray⟩)
    have hQR : w5.heap.size ≠ w.heap.size := by have := lt_of_heap (keepB (W := (w2.alloc (.cells #[.int .i64 (readA l 0), .int .i64 (readA l 1), .int .i64 (readA l 2), .slice U (readP l).length uc] 127)).drew) r2 hb5); omega
    have rr := (heap_far2 hQR.symm (.string ⟨l.toArray⟩) (.string ⟨h.toArray⟩)).trans r7
    have BB : Below w.heap.size w ((w7.setCell ⟨w5.heap.size, 0, none⟩ (.string ⟨l.toArray⟩)).setCell ⟨w5.heap.size, 1, none⟩ (.string ⟨h.toArray⟩)) := below_res2 (B1.trans (B7.mono B1.size)) (by have := lt_of_heap (keepB (W := (w2.alloc (.cells #[.int .i64 (readA l 0), .int .i64 (readA l 1), .int .i64 (readA l 2), .slice U (readP l).length uc] 127)).drew) r2 hb5); omega) _ _
    generalize (w7.setCell ⟨w5.heap.size, 0, none⟩ (.string ⟨l.toArray⟩)).setCell ⟨w5.heap.size, 1, none⟩ (.string ⟨h.toArray⟩) = W8 at zz rr BB ⊢
    generalize w5.heap.size = Q at zz hQR ⊢
    clear p0 p1 p2 p3 v7 r7 B7 hb7 v5 r5 B5 hb5 HV HA BV BW v2 r2
    by_cases hh : h = []
    · subst hh
      obtain ⟨z0, z1⟩ := two_cells zz
      obtain ⟨y0, y1⟩ := two_cells rr
      have f0 := frozen2 rr 0
      have f1 := frozen2 rr 1
      go_wp2_with fail
      go_region
      all_goals go_wp2_with fail
      all_goals
        obtain ⟨x0, x1⟩ := two_cells (V := ((W8.setCell ⟨w.heap.size, 0, none⟩ (.string ⟨l.toArray⟩)).setCell ⟨w.heap.size, 1, none⟩ (.string ⟨#[]⟩)).drew) (set2_heap rr (.string ⟨l.toArray⟩) (.string ⟨#[]⟩))
        refine bodyPost_ret (v := .tuple #[.agg #[.string ⟨l.toArray⟩, .string ⟨#[]⟩], .bool false]) ?_ rfl ⟨rfl, (below_res2 BB (Nat.le_refl _) (.string ⟨l.toArray⟩) (.string ⟨#[]⟩)).trans (below_drewN _ _ 1)⟩
        simp [results, Tryz.results105, go_sem, x0, x1]
    · have n1 : (h == []) = false := by simpa using hh
      have n2 : (h != []) = true := by simpa using hh
      have HE : Hid (Ending.returned (.tuple #[.agg #[.string ⟨l.toArray⟩, .string ⟨h.toArray⟩], .bool true]) = Ending.returned (.tuple #[.agg #[.string ⟨l.toArray⟩, .string ⟨h.toArray⟩], .bool (!h.isEmpty)])) := Lib.hid (by cases h with | nil => exact absurd rfl hh | cons x y => rfl)
      clear hh
      obtain ⟨z0, z1⟩ := two_cells zz
      obtain ⟨y0, y1⟩ := two_cells rr
      have f0 := frozen2 rr 0
      have f1 := frozen2 rr 1
      go_wp2_with fail
      go_region
      all_goals go_wp2_with fail
      all_goals
        obtain ⟨x0, x1⟩ := two_cells (V := ((W8.setCell ⟨w.heap.size, 0, none⟩ (.string ⟨l.toArray⟩)).setCell ⟨w.heap.size, 1, none⟩ (.string ⟨h.toArray⟩)).drew) (set2_heap rr (.string ⟨l.toArray⟩) (.string ⟨h.toArray⟩))
        refine bodyPost_ret (v := .tuple #[.agg #[.string ⟨l.toArray⟩, .string ⟨h.toArray⟩], .bool true]) ?_ rfl ⟨HE.out, (below_res2 BB (Nat.le_refl _) (.string ⟨l.toArray⟩) (.string ⟨h.toArray⟩)).trans (below_drewN _ _ 1)⟩
        simp [results, Tryz.results105, go_sem, x0, x1]
  · have zz := set2_heap z7 (.string ⟨l.toArray⟩) (.string ⟨h.toArray⟩)
    have hQR : (w2.heap.size + 1) ≠ w.heap.size := by omega
    have rr := (heap_far2 hQR.symm (.string ⟨l.toArray⟩) (.string ⟨h.toArray⟩)).trans r7
    have BB : Below w.heap.size w ((w7.setCell ⟨(w2.heap.size + 1), 0, none⟩ (.string ⟨l.toArray⟩)).setCell ⟨(w2.heap.size + 1), 1, none⟩ (.string ⟨h.toArray⟩)) := below_res2 (B1.trans (B7.mono B1.size)) (by omega) _ _
    generalize (w7.setCell ⟨(w2.heap.size + 1), 0, none⟩ (.string ⟨l.toArray⟩)).setCell ⟨(w2.heap.size + 1), 1, none⟩ (.string ⟨h.toArray⟩) = W8 at zz rr BB ⊢
    generalize w2.heap.size + 1 = Q at zz hQR ⊢
    clear p0 p1 p2 p3 v7 r7 B7 hb7 v5 r5 B5 hb5 HV HA BV BW v2 r2
    by_cases hh : h = []
    · subst hh
      obtain ⟨z0, z1⟩ := two_cells zz
      obtain ⟨y0, y1⟩ := two_cells rr
      have f0 := frozen2 rr 0
      have f1 := frozen2 rr 1
      go_wp2_with fail
      go_region
      all_goals go_wp2_with fail
      all_goals
        obtain ⟨x0, x1⟩ := two_cells (V := ((W8.setCell ⟨w.heap.size, 0, none⟩ (.string ⟨l.toArray⟩)).setCell ⟨w.heap.size, 1, none⟩ (.string ⟨#[]⟩)).drew) (set2_heap rr (.string ⟨l.toArray⟩) (.string ⟨#[]⟩))
        refine bodyPost_ret (v := .tuple #[.agg #[.string ⟨l.toArray⟩, .string ⟨#[]⟩], .bool false]) ?_ rfl ⟨rfl, (below_res2 BB (Nat.le_refl _) (.string ⟨l.toArray⟩) (.string ⟨#[]⟩)).trans (below_drewN _ _ 1)⟩
        simp [results, Tryz.results105, go_sem, x0, x1]
    · have n1 : (h == []) = false := by simpa using hh
      have n2 : (h != []) = true := by simpa using hh
      have HE : Hid (Ending.returned (.tuple #[.agg #[.string ⟨l.toArray⟩, .string ⟨h.toArray⟩], .bool true]) = Ending.returned (.tuple #[.agg #[.string ⟨l.toArray⟩, .string ⟨h.toArray⟩], .bool (!h.isEmpty)])) := Lib.hid (by cases h with | nil => exact absurd rfl hh | cons x y => rfl)
      clear hh
      obtain ⟨z0, z1⟩ := two_cells zz
      obtain ⟨y0, y1⟩ := two_cells rr
      have f0 := frozen2 rr 0
      have f1 := frozen2 rr 1
      go_wp2_with fail
      go_region
      all_goals go_wp2_with fail
      all_goals
        obtain ⟨x0, x1⟩ := two_cells (V := ((W8.setCell ⟨w.heap.size, 0, none⟩ (.string ⟨l.toArray⟩)).setCell ⟨w.heap.size, 1, none⟩ (.string ⟨h.toArray⟩)).drew) (set2_heap rr (.string ⟨l.toArray⟩) (.string ⟨h.toArray⟩))
        refine bodyPost_ret (v := .tuple #[.agg #[.string ⟨l.toArray⟩, .string ⟨h.toArray⟩], .bool true]) ?_ rfl ⟨HE.out, (below_res2 BB (Nat.le_refl _) (.string ⟨l.toArray⟩) (.string ⟨h.toArray⟩)).trans (below_drewN _ _ 1)⟩
        simp [results, Tryz.results105, go_sem, x0, x1]
set_option maxRecDepth 100000 in
set_option maxHeartbeats 4000000 in
theorem rfTilde_no (l : List UInt8) (w : World) (hl : l.length ≤ 1048576) (hok : readOk l = false) :
    Calls Tryz.prog 105 #[.string ⟨l.toArray⟩, .func (.func 109) #[] #[]] w fun e w' => e = .returned (.tuple #[.agg #[.string ⟨#[]⟩, .string ⟨#[]⟩], .bool false]) ∧ Below w.heap.size w w' := by
  have HR := Lib.hid (fun W => readV_any l W hl)
  have B0 : Below w.heap.size w (w.alloc (.cells #[.string ⟨#[]⟩, .string ⟨#[]⟩] 73)) := (Below.refl _ _).alloc (Nat.le_refl _) _
  have r0 := heap_alloc_new w (.cells #[.string ⟨#[]⟩, .string ⟨#[]⟩] 73)
  go_enter Tryz.func105, Tryz.ntmps105
  go_wp2_with fail
  refine (HR.out _).mono ?_
  rintro e w2 ⟨u, rfl, hS, hb⟩
  rw [hok]
  obtain ⟨U, uc, rfl, _⟩ := RdS.of_strs hS
  have B1 := B0.trans (hb.mono (by simp))
  have r1 := keepB r0 hb
  clear hS hb B0 r0
  obtain ⟨c0, c1⟩ := two_cells r1
  have f0 := frozen2 r1 0
  have f1 := frozen2 r1 1
  have hs1 := lt_of_heap r1
  have B2 := (below_res2 B1 (Nat.le_refl _) (.string ⟨#[]⟩) (.string ⟨#[]⟩)).alloc (by simp; omega) (.cells #[.int .i64 (readA l 0), .int .i64 (readA l 1), .int .i64 (readA l 2), .slice U (readP l).length uc] 127)
  obtain ⟨y0, y1⟩ := two_cells (keepA (set2_heap r1 (.string ⟨#[]⟩) (.string ⟨#[]⟩)) (.cells #[.int .i64 (readA l 0), .int .i64 (readA l 1), .int .i64 (readA l 2), .slice U (readP l).length uc] 127))
  go_wp2_with fail
  refine bodyPost_ret (v := .tuple #[.agg #[.string ⟨#[]⟩, .string ⟨#[]⟩], .bool false]) ?_ rfl ⟨rfl, B2⟩
  simp [results, Tryz.results105, go_sem, y0, y1]

set_option maxRecDepth 100000 in
set_option maxHeartbeats 4000000 in
theorem rfTilde_yes (l : List UInt8) (w : World) (hl : l.length ≤ 1048576) (hok : readOk l = true) (ht : Tab w) :
    Calls Tryz.prog 105 #[.string ⟨l.toArray⟩, .func (.func 109) #[] #[]] w fun e w' => e = .returned (.tuple #[.agg #[.string ⟨l.toArray⟩, .string ⟨(rsd (readA l 0) (readA l 1) (readA l 2) 1).toArray⟩], .bool (!(rsd (readA l 0) (readA l 1) (readA l 2) 1).isEmpty)]) ∧ Below w.heap.size w w' := by
  have HR := Lib.hid (fun W => readV_any l W hl)
  have B0 : Below w.heap.size w (w.alloc (.cells #[.string ⟨#[]⟩, .string ⟨#[]⟩] 73)) := (Below.refl _ _).alloc (Nat.le_refl _) _
  have r0 := heap_alloc_new w (.cells #[.string ⟨#[]⟩, .string ⟨#[]⟩] 73)
  obtain ⟨h, HH⟩ : ∃ h, Hid (rsd (readA l 0) (readA l 1) (readA l 2) 1 = h) := ⟨_, Lib.hid rfl⟩
  rw [HH.out]
  have HRV := Lib.hid (read_ver hok)
  have HRB := Lib.hid (read_back hok)
  have HRN := Lib.hid (read_num hok)
  have HSM := Lib.hid (sm_readPP l)
  go_enter Tryz.func105, Tryz.ntmps105
  go_wp2_with fail
  refine (HR.out _).mono ?_
  rintro e w2 ⟨u, rfl, hS, hb⟩
  rw [hok]
  have hrd := RdS.of_strs hS
  have B1 := B0.trans (hb.mono (by simp))
  have HV := Lib.hid (fun (W : World) (h : Below w2.heap.size w2 W) => implVersionText_any (readA l 0) (readA l 1) (readA l 2) _ u (readP l) W (hS.below h) HSM.out (tab_below (tab_below ht B1) h))
  have HA := Lib.hid (fun (U : Option Addr) (n cap : Nat) (W : World) (h : Below w2.heap.size w2 W) => fnTilde_any (readA l 0) (readA l 1) (readA l 2) U n cap W (tab_below (tab_below ht B1) h) HRN.out)
  rw [HH.out] at HA
  rw [HRB.out] at HV
  obtain ⟨U, uc, rfl, _⟩ := hrd
  have r1 := keepB r0 hb
  clear hS hb B0 r0 ht hok HRV HRB HSM HRN
  have hs1 := lt_of_heap r1
  have BV : Below w2.heap.size w2 ((w2.alloc (.cells #[.int .i64 (readA l 0), .int .i64 (readA l 1), .int .i64 (readA l 2), .slice U (readP l).length uc] 127)).drew) := ((Below.refl _ _).alloc (Nat.le_refl _) _).trans (below_drewN _ _ 1)
  have r2 := keepA r1 (.cells #[.int .i64 (readA l 0), .int .i64 (readA l 1), .int .i64 (readA l 2), .slice U (readP l).length uc] 127)
  have v2 := heap_alloc_new w2 (.cells #[.int .i64 (readA l 0), .int .i64 (readA l 1), .int .i64 (readA l 2), .slice U (readP l).length uc] 127)
  obtain ⟨p0, p1, p2, p3⟩ := cells4 v2
  go_wp2_with fail
  have BW : Below w2.heap.size w2 (((w2.alloc (.cells #[.int .i64 (readA l 0), .int .i64 (readA l 1), .int .i64 (readA l 2), .slice U (readP l).length uc] 127)).alloc (.cells #[.string ⟨#[]⟩, .string ⟨#[]⟩] 73)).drew) := (((Below.refl _ _).alloc (Nat.le_refl _) _).alloc (by simp) _).trans (below_drewN _ _ 1)
  go_region_held3 (fun W => W.cell? ⟨w2.heap.size, 0, none⟩ = some (.int .i64 (readA l 0)) ∧ W.cell? ⟨w2.heap.size, 1, none⟩ = some (.int .i64 (readA l 1)) ∧ W.cell? ⟨w2.heap.size, 2, none⟩ = some (.int .i64 (readA l 2)) ∧ W.cell? ⟨w2.heap.size, 3, none⟩ = some (.slice U (readP l).length uc)) (first | exact ⟨p0, p1, p2, p3⟩ | exact ⟨(cell_far2 hq _ _).trans p0, (cell_far2 hq _ _).trans p1, (cell_far2 hq _ _).trans p2, (cell_far2 hq _ _).trans p3⟩ | go_keep) ((first
    | (go_at_call 162; (with_reducible refine (HV.out _ BV).mono ?_); rintro e w5 ⟨rfl, hb5⟩; have B5 := BV.trans (hb5.mono BV.size); have v5 := (keepB (W := (w2.alloc (.cells #[.int .i64 (readA l 0), .int .i64 (readA l 1), .int .i64 (readA l 2), .slice U (readP l).length uc] 127)).drew) v2 hb5); have r5 := (keepB (W := (w2.alloc (.cells #[.int .i64 (readA l 0), .int .i64 (readA l 1), .int .i64 (readA l 2), .slice U (readP l).length uc] 127)).drew) r2 hb5); obtain ⟨p0, p1, p2, p3⟩ := cells4 v5)
    | (go_at_call 109; (with_reducible refine (HA.out _ _ _ _ B5).mono ?_); rintro e w7 ⟨rfl, hb7⟩; have z7 := keepB z5 hb7; obtain ⟨z0, z1⟩ := two_cells z7; have g0 := frozen2 z7 0; have g1 := frozen2 z7 1; have hq : w2.heap.size ≠ w2.heap.size + 1 := Nat.ne_of_lt (Nat.lt_succ_self _); have B7 := B5.trans (hb7.mono B5.size); have v7 := keepB v5 hb7; have r7 := keepB r5 hb7; obtain ⟨p0, p1, p2, p3⟩ := cells4 v7)
    | (go_at_call 109; (with_reducible refine (HA.out _ _ _ _ B5).mono ?_); rintro e w7 ⟨rfl, hb7⟩; have B7 := B5.trans (hb7.mono B5.size); have v7 := keepB v5 hb7; have r7 := keepB r5 hb7; obtain ⟨p0, p1, p2, p3⟩ := cells4 v7)
    | (go_at_call 109; (with_reducible refine (HA.out _ _ _ _ (B5.alloc B5.size _)).mono ?_); rintro e w7 ⟨rfl, hb7⟩; have B7 := (B5.alloc B5.size (.cells #[.string ⟨#[]⟩, .string ⟨#[]⟩] 73)).trans (hb7.mono (B5.alloc B5.size (.cells #[.string ⟨#[]⟩, .string ⟨#[]⟩] 73)).size); have v5 := keepA v5 (.cells #[.string ⟨#[]⟩, .string ⟨#[]⟩] 73); have r5 := keepA r5 (.cells #[.string ⟨#[]⟩, .string ⟨#[]⟩] 73); have z7 := keepB (heap_alloc_new w5 _) hb7; obtain ⟨z0, z1⟩ := two_cells z7; have g0 := frozen2 z7 0; have g1 := frozen2 z7 1; have hq : w2.heap.size ≠ w5.heap.size := Nat.ne_of_lt (lt_of_heap (keepB (W := (w2.alloc (.cells #[.int .i64 (readA l 0), .int .i64 (readA l 1), .int .i64 (readA l 2), .slice U (readP l).length uc] 127)).drew) v2 hb5)); have v7 := keepB v5 hb7; have r7 := keepB r5 hb7; obtain ⟨p0, p1, p2, p3⟩ := cells4 v7)
    | (go_at_call 162; (with_reducible refine (HV.out _ BW).mono ?_); rintro e w5 ⟨rfl, hb5⟩; have B5 := BW.trans (hb5.mono BW.size); have v5 := (keepB (W := ((w2.alloc (.cells #[.int .i64 (readA l 0), .int .i64 (readA l 1), .int .i64 (readA l 2), .slice U (readP l).length uc] 127)).alloc (.cells #[.string ⟨#[]⟩, .string ⟨#[]⟩] 73)).drew) (keepA v2 (.cells #[.string ⟨#[]⟩, .string ⟨#[]⟩] 73)) hb5); have r5 := (keepB (W := ((w2.alloc (.cells #[.int .i64 (readA l 0), .int .i64 (readA l 1), .int .i64 (readA l 2), .slice U (readP l).length uc] 127)).alloc (.cells #[.string ⟨#[]⟩, .string ⟨#[]⟩] 73)).drew) (keepA r2 (.cells #[.string ⟨#[]⟩, .string ⟨#[]⟩] 73)) hb5); have z5 : w5.heap[w2.heap.size + 1]? = some (.cells #[.string ⟨#[]⟩, .string ⟨#[]⟩] 73) := keepB (W := ((w2.alloc (.cells #[.int .i64 (readA l 0), .int .i64 (readA l 1), .int .i64 (readA l 2), .slice U (readP l).length uc] 127)).alloc (.cells #[.string ⟨#[]⟩, .string ⟨#[]⟩] 73)).drew) (heap_new (W := (w2.alloc (.cells #[.int .i64 (readA l 0), .int .i64 (readA l 1), .int .i64 (readA l 2), .slice U (readP l).length uc] 127))) (by simp) _) hb5; obtain ⟨p0, p1, p2, p3⟩ := cells4 v5)))
  · have zz := heap_alloc_new w7 (.cells #[.string ⟨l.toArray⟩, .string ⟨h.toArray⟩] 73)
    have rr := keepA r7 (.cells #[.string ⟨l.toArray⟩, .string ⟨h.toArray⟩] 73)
    have hQR : w7.heap.size ≠ w.heap.size := by have := lt_of_heap r7; omega
    have BB : Below w.heap.size w (w7.alloc (.cells #[.string ⟨l.toArray⟩, .string ⟨h.toArray⟩] 73)) := (B1.trans (B7.mono B1.size)).alloc (by have := lt_of_heap r7; omega) _
    generalize w7.alloc (.cells #[.string ⟨l.toArray⟩, .string ⟨h.toArray⟩] 73) = W8 at zz rr BB ⊢
    generalize w7.heap.size = Q at zz hQR ⊢
    clear p0 p1 p2 p3 v7 r7 B7 hb7 v5 r5 B5 hb5 HV HA BV BW v2 r2
    by_cases hh : h = []
    · subst hh
      obtain ⟨z0, z1⟩ := two_cells zz
      obtain ⟨y0, y1⟩ := two_cells rr
      have f0 := frozen2 rr 0
      have f1 := frozen2 rr 1
      go_wp2_with fail
      go_region
      all_goals go_wp2_with fail
      all_goals
        obtain ⟨x0, x1⟩ := two_cells (V := ((W8.setCell ⟨w.heap.size, 0, none⟩ (.string ⟨l.toArray⟩)).setCell ⟨w.heap.size, 1, none⟩ (.string ⟨#[]⟩)).drew) (set2_heap rr (.string ⟨l.toArray⟩) (.string ⟨#[]⟩))
        refine bodyPost_ret (v := .tuple #[.agg #[.string ⟨l.toArray⟩, .string ⟨#[]⟩], .bool false]) ?_ rfl ⟨rfl, (below_res2 BB (Nat.le_refl _) (.string ⟨l.toArray⟩) (.string ⟨#[]⟩)).trans (below_drewN _ _ 1)⟩
        simp [results, Tryz.results105, go_sem, x0, x1]
    · have n1 : (h == []) = false := by simpa using hh
      have n2 : (h != []) = true := by simpa using hh
      have HE : Hid (Ending.returned (.tuple #[.agg #[.string ⟨l.toArray⟩, .string ⟨h.toArray⟩], .bool true]) = Ending.returned (.tuple #[.agg #[.string ⟨l.toArray⟩, .string ⟨h.toArray⟩], .bool (!h.isEmpty)])) := Lib.hid (by cases h with | nil => exact absurd rfl hh | cons x y => rfl)
      clear hh
      obtain ⟨z0, z1⟩ := two_cells zz
      obtain ⟨y0, y1⟩ := two_cells rr
      have f0 := frozen2 rr 0
      have f1 := frozen2 rr 1
      go_wp2_with fail
      go_region
      all_goals go_wp2_with fail
      all_goals
        obtain ⟨x0, x1⟩ := two_cells (V := ((W8.setCell ⟨w.heap.size, 0, none⟩ (.string ⟨l.toArray⟩)).setCell ⟨w.heap.size, 1, none⟩ (.string ⟨h.toArray⟩)).drew) (set2_heap rr (.string ⟨l.toArray⟩) (.string ⟨h.toArray⟩))
        refine bodyPost_ret (v := .tuple #[.agg #[.string ⟨l.toArray⟩, .string ⟨h.toArray⟩], .bool true]) ?_ rfl ⟨HE.out, (below_res2 BB (Nat.le_refl _) (.string ⟨l.toArray⟩) (.string ⟨h.toArray⟩)).trans (below_drewN _ _ 1)⟩
        simp [results, Tryz.results105, go_sem, x0, x1]
  · have zz := set2_heap z7 (.string ⟨l.toArray⟩) (.string ⟨h.toArray⟩)
    have hQR : w5.heap.size ≠ w.heap.size := by have := lt_of_heap (keepB (W := (w2.alloc (.cells #[.int .i64 (readA l 0), .int .i64 (readA l 1), .int .i64 (readA l 2), .slice U (readP l).length uc] 127)).drew) r2 hb5); omega
    have rr := (heap_far2 hQR.symm (.string ⟨l.toArray⟩) (.string ⟨h.toArray⟩)).trans r7
    have BB : Below w.heap.size w ((w7.setCell ⟨w5.heap.size, 0, none⟩ (.string ⟨l.toArray⟩)).setCell ⟨w5.heap.size, 1, none⟩ (.string ⟨h.toArray⟩)) := below_res2 (B1.trans (B7.mono B1.size)) (by have := lt_of_heap (keepB (W := (w2.alloc (.cells #[.int .i64 (readA l 0), .int .i64 (readA l 1), .int .i64 (readA l 2), .slice U (readP l).length uc] 127)).drew) r2 hb5); omega) _ _
    generalize (w7.setCell ⟨w5.heap.size, 0, none⟩ (.string ⟨l.toArray⟩)).setCell ⟨w5.heap.size, 1, none⟩ (.string ⟨h.toArray⟩) = W8 at zz rr BB ⊢
    generalize w5.heap.size = Q at zz hQR ⊢
    clear p0 p1 p2 p3 v7 r7 B7 hb7 v5 r5 B5 hb5 HV HA BV BW v2 r2
    by_cases hh : h = []
    · subst hh
      obtain ⟨z0, z1⟩ := two_cells zz
      obtain ⟨y0, y1⟩ := two_cells rr
      have f0 := frozen2 rr 0
      have f1 := frozen2 rr 1
      go_wp2_with fail
      go_region
      all_goals go_wp2_with fail
      all_goals
        obtain ⟨x0, x1⟩ := two_cells (V := ((W8.setCell ⟨w.heap.size, 0, none⟩ (.string ⟨l.toArray⟩)).setCell ⟨w.heap.size, 1, none⟩ (.string ⟨#[]⟩)).drew) (set2_heap rr (.string ⟨l.toArray⟩) (.string ⟨#[]⟩))
        refine bodyPost_ret (v := .tuple #[.agg #[.string ⟨l.toArray⟩, .string ⟨#[]⟩], .bool false]) ?_ rfl ⟨rfl, (below_res2 BB (Nat.le_refl _) (.string ⟨l.toArray⟩) (.string ⟨#[]⟩)).trans (below_drewN _ _ 1)⟩
        simp [results, Tryz.results105, go_sem, x0, x1]
    · have n1 : (h == []) = false := by simpa using hh
      have n2 : (h != []) = true := by simpa using hh
      have HE : Hid (Ending.returned (.tuple #[.agg #[.string ⟨l.toArray⟩, .string ⟨h.toArray⟩], .bool true]) = Ending.returned (.tuple #[.agg #[.string ⟨l.toArray⟩, .string ⟨h.toArray⟩], .bool (!h.isEmpty)])) := Lib.hid (by cases h with | nil => exact absurd rfl hh | cons x y => rfl)
      clear hh
      obtain ⟨z0, z1⟩ := two_cells zz
      obtain ⟨y0, y1⟩ := two_cells rr
      have f0 := frozen2 rr 0
      have f1 := frozen2 rr 1
      go_wp2_with fail
      go_region
      all_goals go_wp2_with fail
      all_goals
        obtain ⟨x0, x1⟩ := two_cells (V := ((W8.setCell ⟨w.heap.size, 0, none⟩ (.string ⟨l.toArray⟩)).setCell ⟨w.heap.size, 1, none⟩ (.string ⟨h.toArray⟩)).drew) (set2_heap rr (.string ⟨l.toArray⟩) (.string ⟨h.toArray⟩))
        refine bodyPost_ret (v := .tuple #[.agg #[.string ⟨l.toArray⟩, .string ⟨h.toArray⟩], .bool true]) ?_ rfl ⟨HE.out, (below_res2 BB (Nat.le_refl _) (.string ⟨l.toArray⟩) (.string ⟨h.toArray⟩)).trans (below_drewN _ _ 1)⟩
        simp [results, Tryz.results105, go_sem, x0, x1]
  · have zz := set2_heap z7 (.string ⟨l.toArray⟩) (.string ⟨h.toArray⟩)
    have hQR : (w2.heap.size + 1) ≠ w.heap.size := by omega
    have rr := (heap_far2 hQR.symm (.string ⟨l.toArray⟩) (.string ⟨h.toArray⟩)).trans r7
    have BB : Below w.heap.size w ((w7.setCell ⟨(w2.heap.size + 1), 0, none⟩ (.string ⟨l.toArray⟩)).setCell ⟨(w2.heap.size + 1), 1, none⟩ (.string ⟨h.toArray⟩)) := below_res2 (B1.trans (B7.mono B1.size)) (by omega) _ _
    generalize (w7.setCell ⟨(w2.heap.size + 1), 0, none⟩ (.string ⟨l.toArray⟩)).setCell ⟨(w2.heap.size + 1), 1, none⟩ (.string ⟨h.toArray⟩) = W8 at zz rr BB ⊢
    generalize w2.heap.size + 1 = Q at zz hQR ⊢
    clear p0 p1 p2 p3 v7 r7 B7 hb7 v5 r5 B5 hb5 HV HA BV BW v2 r2
    by_cases hh : h = []
    · subst hh
      obtain ⟨z0, z1⟩ := two_cells zz
      obtain ⟨y0, y1⟩ := two_cells rr
      have f0 := frozen2 rr 0
      have f1 := frozen2 rr 1
      go_wp2_with fail
      go_region
      all_goals go_wp2_with fail
      all_goals
        obtain ⟨x0, x1⟩ := two_cells (V := ((W8.setCell ⟨w.heap.size, 0, none⟩ (.string ⟨l.toArray⟩)).setCell ⟨w.heap.size, 1, none⟩ (.string ⟨#[]⟩)).drew) (set2_heap rr (.string ⟨l.toArray⟩) (.string ⟨#[]⟩))
        refine bodyPost_ret (v := .tuple #[.agg #[.string ⟨l.toArray⟩, .string ⟨#[]⟩], .bool false]) ?_ rfl ⟨rfl, (below_res2 BB (Nat.le_refl _) (.string ⟨l.toArray⟩) (.string ⟨#[]⟩)).trans (below_drewN _ _ 1)⟩
        simp [results, Tryz.results105, go_sem, x0, x1]
    · have n1 : (h == []) = false := by simpa using hh
      have n2 : (h != []) = true := by simpa using hh
      have HE : Hid (Ending.returned (.tuple #[.agg #[.string ⟨l.toArray⟩, .string ⟨h.toArray⟩], .bool true]) = Ending.returned (.tuple #[.agg #[.string ⟨l.toArray⟩, .string ⟨h.toArray⟩], .bool (!h.isEmpty)])) := Lib.hid (by cases h with | nil => exact absurd rfl hh | cons x y => rfl)
      clear hh
      obtain ⟨z0, z1⟩ := two_cells zz
      obtain ⟨y0, y1⟩ := two_cells rr
      have f0 := frozen2 rr 0
      have f1 := frozen2 rr 1
      go_wp2_with fail
      go_region
      all_goals go_wp2_with fail
      all_goals
        obtain ⟨x0, x1⟩ := two_cells (V := ((W8.setCell ⟨w.heap.size, 0, none⟩ (.string ⟨l.toArray⟩)).setCell ⟨w.heap.size, 1, none⟩ (.string ⟨h.toArray⟩)).drew) (set2_heap rr (.string ⟨l.toArray⟩) (.string ⟨h.toArray⟩))
        refine bodyPost_ret (v := .tuple #[.agg #[.string ⟨l.toArray⟩, .string ⟨h.toArray⟩], .bool true]) ?_ rfl ⟨HE.out, (below_res2 BB (Nat.le_refl _) (.string ⟨l.toArray⟩) (.string ⟨h.toArray⟩)).trans (below_drewN _ _ 1)⟩
        simp [results, Tryz.results105, go_sem, x0, x1]
set_option maxRecDepth 100000 in
set_option maxHeartbeats 4000000 in
theorem rfPartial_no (l : List UInt8) (Q : Nat) (w : World) (hl : l.length ≤ 1048576) (hok : readOk l = false) :
    Calls Tryz.prog 105 #[.string ⟨l.toArray⟩, .func (.func 168) #[] #[.pointer (some ⟨Q, 0, none⟩)]] w fun e w' => e = .returned (.tuple #[.agg #[.string ⟨#[]⟩, .string ⟨#[]⟩], .bool false]) ∧ Below w.heap.size w w' := by
  have HR := Lib.hid (fun W => readV_any l W hl)
  have B0 : Below w.heap.size w (w.alloc (.cells #[.string ⟨#[]⟩, .string ⟨#[]⟩] 73)) := (Below.refl _ _).alloc (Nat.le_refl _) _
  have r0 := heap_alloc_new w (.cells #[.string ⟨#[]⟩, .string ⟨#[]⟩] 73)
  go_enter Tryz.func105, Tryz.ntmps105
  go_wp2_with fail
  refine (HR.out _).mono ?_
  rintro e w2 ⟨u, rfl, hS, hb⟩
  rw [hok]
  obtain ⟨U, uc, rfl, _⟩ := RdS.of_strs hS
  have B1 := B0.trans (hb.mono (by simp))
  have r1 := keepB r0 hb
  clear hS hb B0 r0
  obtain ⟨c0, c1⟩ := two_cells r1
  have f0 := frozen2 r1 0
  have f1 := frozen2 r1 1
  have hs1 := lt_of_heap r1
  have B2 := (below_res2 B1 (Nat.le_refl _) (.string ⟨#[]⟩) (.string ⟨#[]⟩)).alloc (by simp; omega) (.cells #[.int .i64 (readA l 0), .int .i64 (readA l 1), .int .i64 (readA l 2), .slice U (readP l).length uc] 127)
  obtain ⟨y0, y1⟩ := two_cells (keepA (set2_heap r1 (.string ⟨#[]⟩) (.string ⟨#[]⟩)) (.cells #[.int .i64 (readA l 0), .int .i64 (readA l 1), .int .i64 (readA l 2), .slice U (readP l).length uc] 127))
  go_wp2_with fail
  refine bodyPost_ret (v := .tuple #[.agg #[.string ⟨#[]⟩, .string ⟨#[]⟩], .bool false]) ?_ rfl ⟨rfl, B2⟩
  simp [results, Tryz.results105, go_sem, y0, y1]

set_option maxRecDepth 100000 in
set_option maxHeartbeats 4000000 in
theorem rfPartial_yes (l : List UInt8) (p : Int) (Q : Nat) (w : World) (hl : l.length ≤ 1048576) (hok : readOk l = true) (ht : Tab w) (hp : inI p 0 2 = true) (hQ : w.cell? ⟨Q, 0, none⟩ = some (.int .i64 p)) :
    Calls Tryz.prog 105 #[.string ⟨l.toArray⟩, .func (.func 168) #[] #[.pointer (some ⟨Q, 0, none⟩)]] w fun e w' => e = .returned (.tuple #[.agg #[.string ⟨l.toArray⟩, .string ⟨(rsd (readA l 0) (readA l 1) (readA l 2) p).toArray⟩], .bool (!(rsd (readA l 0) (readA l 1) (readA l 2) p).isEmpty)]) ∧ Below w.heap.size w w' := by
  have HR := Lib.hid (fun W => readV_any l W hl)
  have B0 : Below w.heap.size w (w.alloc (.cells #[.string ⟨#[]⟩, .string ⟨#[]⟩] 73)) := (Below.refl _ _).alloc (Nat.le_refl _) _
  have r0 := heap_alloc_new w (.cells #[.string ⟨#[]⟩, .string ⟨#[]⟩] 73)
  obtain ⟨h, HH⟩ : ∃ h, Hid (rsd (readA l 0) (readA l 1) (readA l 2) p = h) := ⟨_, Lib.hid rfl⟩
  rw [HH.out]
  have HRV := Lib.hid (read_ver hok)
  have HRB := Lib.hid (read_back hok)
  have HRN := Lib.hid (read_num hok)
  have HSM := Lib.hid (sm_readPP l)
  go_enter Tryz.func105, Tryz.ntmps105
  go_wp2_with fail
  refine (HR.out _).mono ?_
  rintro e w2 ⟨u, rfl, hS, hb⟩
  rw [hok]
  have hrd := RdS.of_strs hS
  have B1 := B0.trans (hb.mono (by simp))
  have HV := Lib.hid (fun (W : World) (h : Below w2.heap.size w2 W) => implVersionText_any (readA l 0) (readA l 1) (readA l 2) _ u (readP l) W (hS.below h) HSM.out (tab_below (tab_below ht B1) h))
  have HA := Lib.hid (fun (U : Option Addr) (n cap : Nat) (W : World) (h : Below w2.heap.size w2 W) => fnPartial_any (readA l 0) (readA l 1) (readA l 2) p Q U n cap W (tab_below (tab_below ht B1) h) HRN.out hp (keepC (B1.trans (h.mono B1.size)) hQ))
  rw [HH.out] at HA
  rw [HRB.out] at HV
  obtain ⟨U, uc, rfl, _⟩ := hrd
  have r1 := keepB r0 hb
  clear hS hb B0 r0 ht hok hp hQ HRV HRB HSM HRN
  have hs1 := lt_of_heap r1
  have BV : Below w2.heap.size w2 ((w2.alloc (.cells #[.int .i64 (readA l 0), .int .i64 (readA l 1), .int .i64 (readA l 2), .slice U (readP l).length uc] 127)).drew) := ((Below.refl _ _).alloc (Nat.le_refl _) _).trans (below_drewN _ _ 1)
  have r2 := keepA r1 (.cells #[.int .i64 (readA l 0), .int .i64 (readA l 1), .int .i64 (readA l 2), .slice U (readP l).length uc] 127)
  have v2 := heap_alloc_new w2 (.cells #[.int .i64 (readA l 0), .int .i64 (readA l 1), .int .i64 (readA l 2), .slice U (readP l).length uc] 127)
  obtain ⟨p0, p1, p2, p3⟩ := cells4 v2
  go_wp2_with fail
  have BW : Below w2.heap.size w2 (((w2.alloc (.cells #[.int .i64 (readA l 0), .int .i64 (readA l 1), .int .i64 (readA l 2), .slice U (readP l).length uc] 127)).alloc (.cells #[.string ⟨#[]⟩, .string ⟨#[]⟩] 73)).drew) := (((Below.refl _ _).alloc (Nat.le_refl _) _).alloc (by simp) _).trans (below_drewN _ _ 1)
  go_region_held3 (fun W => W.cell? ⟨w2.heap.size, 0, none⟩ = some (.int .i64 (readA l 0)) ∧ W.cell? ⟨w2.heap.size, 1, none⟩ = some (.int .i64 (readA l 1)) ∧ W.cell? ⟨w2.heap.size, 2, none⟩ = some (.int .i64 (readA l 2)) ∧ W.cell? ⟨w2.heap.size, 3, none⟩ = some (.slice U (readP l).length uc)) (first | exact ⟨p0, p1, p2, p3⟩ | exact ⟨(cell_far2 hq _ _).trans p0, (cell_far2 hq _ _).trans p1, (cell_far2 hq _ _).trans p2, (cell_far2 hq _ _).trans p3⟩ | go_keep) ((first
    | (go_at_call 162; (with_reducible refine (HV.out _ BV).mono ?_); rintro e w5 ⟨rfl, hb5⟩; have B5 := BV.trans (hb5.mono BV.size); have v5 := (keepB (W := (w2.alloc (.cells #[.int .i64 (readA l 0), .int .i64 (readA l 1), .int .i64 (readA l 2), .slice U (readP l).length uc] 127)).drew) v2 hb5); have r5 := (keepB (W := (w2.alloc (.cells #[.int .i64 (readA l 0), .int .i64 (readA l 1), .int .i64 (readA l 2), .slice U (readP l).length uc] 127)).drew) r2 hb5); obtain ⟨p0, p1, p2, p3⟩ := cells4 v5)
    | (go_at_call 168; (with_reducible refine (HA.out _ _ _ _ B5).mono ?_); rintro e w7 ⟨rfl, hb7⟩; have z7 := keepB z5 hb7; obtain ⟨z0, z1⟩ := two_cells z7; have g0 := frozen2 z7 0; have g1 := frozen2 z7 1; have hq : w2.heap.size ≠ w2.heap.size + 1 := Nat.ne_of_lt (Nat.lt_succ_self _); have B7 := B5.trans (hb7.mono B5.size); have v7 := keepB v5 hb7; have r7 := keepB r5 hb7; obtain ⟨p0, p1, p2, p3⟩ := cells4 v7)
    | (go_at_call 168; (with_reducible refine (HA.out _ _ _ _ B5).mono ?_); rintro e w7 ⟨rfl, hb7⟩; have B7 := B5.trans (hb7.mono B5.size); have v7 := keepB v5 hb7; have r7 := keepB r5 hb7; obtain ⟨p0, p1, p2, p3⟩ := cells4 v7)
    | (go_at_call 168; (with_reducible refine (HA.out _ _ _ _ (B5.alloc B5.size _)).mono ?_); rintro e w7 ⟨rfl, hb7⟩; have B7 := (B5.alloc B5.size (.cells #[.string ⟨#[]⟩, .string ⟨#[]⟩] 73)).trans (hb7.mono (B5.alloc B5.size (.cells #[.string ⟨#[]⟩, .string ⟨#[]⟩] 73)).size); have v5 := keepA v5 (.cells #[.string ⟨#[]⟩, .string ⟨#[]⟩] 73); have r5 := keepA r5 (.cells #[.string ⟨#[]⟩, .string ⟨#[]⟩] 73); have z7 := keepB (heap_alloc_new w5 _) hb7; obtain ⟨z0, z1⟩ := two_cells z7; have g0 := frozen2 z7 0; have g1 := frozen2 z7 1; have hq : w2.heap.size ≠ w5.heap.size := Nat.ne_of_lt (lt_of_heap (keepB (W := (w2.alloc (.cells #[.int .i64 (readA l 0), .int .i64 (readA l 1), .int .i64 (readA l 2), .slice U (readP l).length uc] 127)).drew) v2 hb5)); have v7 := keepB v5 hb7; have r7 := keepB r5 hb7; obtain ⟨p0, p1, p2, p3⟩ := cells4 v7)
    | (go_at_call 162; (with_reducible refine (HV.out _ BW).mono ?_); rintro e w5 ⟨rfl, hb5⟩; have B5 := BW.trans (hb5.mono BW.size); have v5 := (keepB (W := ((w2.alloc (.cells #[.int .i64 (readA l 0), .int .i64 (readA l 1), .int .i64 (readA l 2), .slice U (readP l).length uc] 127)).alloc (.cells #[.string ⟨#[]⟩, .string ⟨#[]⟩] 73)).drew) (keepA v2 (.cells #[.string ⟨#[]⟩, .string ⟨#[]⟩] 73)) hb5); have r5 := (keepB (W := ((w2.alloc (.cells #[.int .i64 (readA l 0), .int .i64 (readA l 1), .int .i64 (readA l 2), .slice U (readP l).length uc] 127)).alloc (.cells #[.string ⟨#[]⟩, .string ⟨#[]⟩] 73)).drew) (keepA r2 (.cells #[.string ⟨#[]⟩, .string ⟨#[]⟩] 73)) hb5); have z5 : w5.heap[w2.heap.size + 1]? = some (.cells #[.string ⟨#[]⟩, .string ⟨#[]⟩] 73) := keepB (W := ((w2.alloc (.cells #[.int .i64 (readA l 0), .int .i64 (readA l 1), .int .i64 (readA l 2), .slice U (readP l).length uc] 127)).alloc (.cells #[.string ⟨#[]⟩, .string ⟨#[]⟩] 73)).drew) (heap_new (W := (w2.alloc (.cells #[.int .i64 (readA l 0), .int .i64 (readA l 1), .int .i64 (readA l 2), .slice U (readP l).length uc] 127))) (by simp) _) hb5; obtain ⟨p0, p1, p2, p3⟩ := cells4 v5)))
  · have zz := heap_alloc_new w7 (.cells #[.string ⟨l.toArray⟩, .string ⟨h.toArray⟩] 73)
    have rr := keepA r7 (.cells #[.string ⟨l.toArray⟩, .string ⟨h.toArray⟩] 73)
    have hQR : w7.heap.size ≠ w.heap.size := by have := lt_of_heap r7; omega
    have BB : Below w.heap.size w (w7.alloc (.cells #[.string ⟨l.toArray⟩, .string ⟨h.toArray⟩] 73)) := (B1.trans (B7.mono B1.size)).alloc (by have := lt_of_heap r7; omega) _
    generalize w7.alloc (.cells #[.string ⟨l.toArray⟩, .string ⟨h.toArray⟩] 73) = W8 at zz rr BB ⊢
    generalize w7.heap.size = Q at zz hQR ⊢
    clear p0 p1 p2 p3 v7 r7 B7 hb7 v5 r5 B5 hb5 HV HA BV BW v2 r2
    by_cases hh : h = []
    · subst hh
      obtain ⟨z0, z1⟩ := two_cells zz
      obtain ⟨y0, y1⟩ := two_cells rr
      have f0 := frozen2 rr 0
      have f1 := frozen2 rr 1
      go_wp2_with fail
      go_region
      all_goals go_wp2_with fail
      all_goals
        obtain ⟨x0, x1⟩ := two_cells (V := ((W8.setCell ⟨w.heap.size, 0, none⟩ (.string ⟨l.toArray⟩)).setCell ⟨w.heap.size, 1, none⟩ (.string ⟨#[]⟩)).drew) (set2_heap rr (.string ⟨l.toArray⟩) (.string ⟨#[]⟩))
        refine bodyPost_ret (v := .tuple #[.agg #[.string ⟨l.toArray⟩, .string ⟨#[]⟩], .bool false]) ?_ rfl ⟨rfl, (below_res2 BB (Nat.le_refl _) (.string ⟨l.toArray⟩) (.string ⟨#[]⟩)).trans (below_drewN _ _ 1)⟩
        simp [results, Tryz.results105, go_sem, x0, x1]
    · have n1 : (h == []) = false := by simpa using hh
      have n2 : (h != []) = true := by simpa using hh
      have HE : Hid (Ending.returned (.tuple #[.agg #[.string ⟨l.toArray⟩, .string ⟨h.toArray⟩], .bool true]) = Ending.returned (.tuple #[.agg #[.string ⟨l.toArray⟩, .string ⟨h.toArray⟩], .bool (!h.isEmpty)])) := Lib.hid (by cases h with | nil => exact absurd rfl hh | cons x y => rfl)
      clear hh
      obtain ⟨z0, z1⟩ := two_cells zz
      obtain ⟨y0, y1⟩ := two_cells rr
      have f0 := frozen2 rr 0
      have f1 := frozen2 rr 1
      go_wp2_with fail
      go_region
      all_goals go_wp2_with fail
      all_goals
        obtain ⟨x0, x1⟩ := two_cells (V := ((W8.setCell ⟨w.heap.size, 0, none⟩ (.string ⟨l.toArray⟩)).setCell ⟨w.heap.size, 1, none⟩ (.string ⟨h.toArray⟩)).drew) (set2_heap rr (.string ⟨l.toArray⟩) (.string ⟨h.toArray⟩))
        refine bodyPost_ret (v := .tuple #[.agg #[.string ⟨l.toArray⟩, .string ⟨h.toArray⟩], .bool true]) ?_ rfl ⟨HE.out, (below_res2 BB (Nat.le_refl _) (.string ⟨l.toArray⟩) (.string ⟨h.toArray⟩)).trans (below_drewN _ _ 1)⟩
        simp [results, Tryz.results105, go_sem, x0, x1]
  · have zz := set2_heap z7 (.string ⟨l.toArray⟩) (.string ⟨h.toArray⟩)
    have hQR : w5.heap.size ≠ w.heap.size := by have := lt_of_heap (keepB (W := (w2.alloc (.cells #[.int .i64 (readA l 0), .int .i64 (readA l 1), .int .i64 (readA l 2), .slice U (readP l).length uc] 127)).drew) r2 hb5); omega
    have rr := (heap_far2 hQR.symm (.string ⟨l.toArray⟩) (.string ⟨h.toArray⟩)).trans r7
    have BB : Below w.heap.size w ((w7.setCell ⟨w5.heap.size, 0, none⟩ (.string ⟨l.toArray⟩)).setCell ⟨w5.heap.size, 1, none⟩ (.string ⟨h.toArray⟩)) := below_res2 (B1.trans (B7.mono B1.size)) (by have := lt_of_heap (keepB (W := (w2.alloc (.cells #[.int .i64 (readA l 0), .int .i64 (readA l 1), .int .i64 (readA l 2), .slice U (readP l).length uc] 127)).drew) r2 hb5); omega) _ _
    generalize (w7.setCell ⟨w5.heap.size, 0, none⟩ (.string ⟨l.toArray⟩)).setCell ⟨w5.heap.size, 1, none⟩ (.string ⟨h.toArray⟩) = W8 at zz rr BB ⊢
    generalize w5.heap.size = Q at zz hQR ⊢
    clear p0 p1 p2 p3 v7 r7 B7 hb7 v5 r5 B5 hb5 HV HA BV BW v2 r2
    by_cases hh : h = []
    · subst hh
      obtain ⟨z0, z1⟩ := two_cells zz
      obtain ⟨y0, y1⟩ := two_cells rr
      have f0 := frozen2 rr 0
      have f1 := frozen2 rr 1
      go_wp2_with fail
      go_region
      all_goals go_wp2_with fail
      all_goals
        obtain ⟨x0, x1⟩ := two_cells (V := ((W8.setCell ⟨w.heap.size, 0, none⟩ (.string ⟨l.toArray⟩)).setCell ⟨w.heap.size, 1, none⟩ (.string ⟨#[]⟩)).drew) (set2_heap rr (.string ⟨l.toArray⟩) (.string ⟨#[]⟩))
        refine bodyPost_ret (v := .tuple #[.agg #[.string ⟨l.toArray⟩, .string ⟨#[]⟩], .bool false]) ?_ rfl ⟨rfl, (below_res2 BB (Nat.le_refl _) (.string ⟨l.toArray⟩) (.string ⟨#[]⟩)).trans (below_drewN _ _ 1)⟩
        simp [results, Tryz.results105, go_sem, x0, x1]
    · have n1 : (h == []) = false := by simpa using hh
      have n2 : (h != []) = true := by simpa using hh
      have HE : Hid (Ending.returned (.tuple #[.agg #[.string ⟨l.toArray⟩, .string ⟨h.toArray⟩], .bool true]) = Ending.returned (.tuple #[.agg #[.string ⟨l.toArray⟩, .string ⟨h.toArray⟩], .bool (!h.isEmpty)])) := Lib.hid (by cases h with | nil => exact absurd rfl hh | cons x y => rfl)
      clear hh
      obtain ⟨z0, z1⟩ := two_cells zz
      obtain ⟨y0, y1⟩ := two_cells rr
      have f0 := frozen2 rr 0
      have f1 := frozen2 rr 1
      go_wp2_with fail
      go_region
      all_goals go_wp2_with fail
      all_goals
        obtain ⟨x0, x1⟩ := two_cells (V := ((W8.setCell ⟨w.heap.size, 0, none⟩ (.string ⟨l.toArray⟩)).setCell ⟨w.heap.size, 1, none⟩ (.string ⟨h.toArray⟩)).drew) (set2_heap rr (.string ⟨l.toArray⟩) (.string ⟨h.toArray⟩))
        refine bodyPost_ret (v := .tuple #[.agg #[.string ⟨l.toArray⟩, .string ⟨h.toArray⟩], .bool true]) ?_ rfl ⟨HE.out, (below_res2 BB (Nat.le_refl _) (.string ⟨l.toArray⟩) (.string ⟨h.toArray⟩)).trans (below_drewN _ _ 1)⟩
        simp [results, Tryz.results105, go_sem, x0, x1]
  · have zz := set2_heap z7 (.string ⟨l.toArray⟩) (.string ⟨h.toArray⟩)
    have hQR : (w2.heap.size + 1) ≠ w.heap.size := by omega
    have rr := (heap_far2 hQR.symm (.string ⟨l.toArray⟩) (.string ⟨h.toArray⟩)).trans r7
    have BB : Below w.heap.size w ((w7.setCell ⟨(w2.heap.size + 1), 0, none⟩ (.string ⟨l.toArray⟩)).setCell ⟨(w2.heap.size + 1), 1, none⟩ (.string ⟨h.toArray⟩)) := below_res2 (B1.trans (B7.mono B1.size)) (by omega) _ _
    generalize (w7.setCell ⟨(w2.heap.size + 1), 0, none⟩ (.string ⟨l.toArray⟩)).setCell ⟨(w2.heap.size + 1), 1, none⟩ (.string ⟨h.toArray⟩) = W8 at zz rr BB ⊢
    generalize w2.heap.size + 1 = Q at zz hQR ⊢
    clear p0 p1 p2 p3 v7 r7 B7 hb7 v5 r5 B5 hb5 HV HA BV BW v2 r2
    by_cases hh : h = []
    · subst hh
      obtain ⟨z0, z1⟩ := two_cells zz
      obtain ⟨y0, y1⟩ := two_cells rr
      have f0 := frozen2 rr 0
      have f1 := frozen2 rr 1
      go_wp2_with fail
      go_region
      all_goals go_wp2_with fail
      all_goals
        obtain ⟨x0, x1⟩ := two_cells (V := ((W8.setCell ⟨w.heap.size, 0, none⟩ (.string ⟨l.toArray⟩)).setCell ⟨w.heap.size, 1, none⟩ (.string ⟨#[]⟩)).drew) (set2_heap rr (.string ⟨l.toArray⟩) (.string ⟨#[]⟩))
        refine bodyPost_ret (v := .tuple #[.agg #[.string ⟨l.toArray⟩, .string ⟨#[]⟩], .bool false]) ?_ rfl ⟨rfl, (below_res2 BB (Nat.le_refl _) (.string ⟨l.toArray⟩) (.string ⟨#[]⟩)).trans (below_drewN _ _ 1)⟩
        simp [results, Tryz.results105, go_sem, x0, x1]
    · have n1 : (h == []) = false := by simpa using hh
      have n2 : (h != []) = true := by simpa using hh
      have HE : Hid (Ending.returned (.tuple #[.agg #[.string ⟨l.toArray⟩, .string ⟨h.toArray⟩], .bool true]) = Ending.returned (.tuple #[.agg #[.string ⟨l.toArray⟩, .string ⟨h.toArray⟩], .bool (!h.isEmpty)])) := Lib.hid (by cases h with | nil => exact absurd rfl hh | cons x y => rfl)
      clear hh
      obtain ⟨z0, z1⟩ := two_cells zz
      obtain ⟨y0, y1⟩ := two_cells rr
      have f0 := frozen2 rr 0
      have f1 := frozen2 rr 1
      go_wp2_with fail
      go_region
      all_goals go_wp2_with fail
      all_goals
        obtain ⟨x0, x1⟩ := two_cells (V := ((W8.setCell ⟨w.heap.size, 0, none⟩ (.string ⟨l.toArray⟩)).setCell ⟨w.heap.size, 1, none⟩ (.string ⟨h.toArray⟩)).drew) (set2_heap rr (.string ⟨l.toArray⟩) (.string ⟨h.toArray⟩))
        refine bodyPost_ret (v := .tuple #[.agg #[.string ⟨l.toArray⟩, .string ⟨h.toArray⟩], .bool true]) ?_ rfl ⟨HE.out, (below_res2 BB (Nat.le_refl _) (.string ⟨l.toArray⟩) (.string ⟨h.toArray⟩)).trans (below_drewN _ _ 1)⟩
        simp [results, Tryz.results105, go_sem, x0, x1]
theorem rf_is {w w' : World} {l : List UInt8} {p : Int} {e : Ending} (hok : readOk l = true) (h : e = .returned (.tuple #[.agg #[.string ⟨l.toArray⟩, .string ⟨(rsd (readA l 0) (readA l 1) (readA l 2) p).toArray⟩], .bool (!(rsd (readA l 0) (readA l 1) (readA l 2) p).isEmpty)]) ∧ Below w.heap.size w w') : AltIs w (fromOk l p) (fromB l p) e w' := by
  obtain ⟨rfl, hb⟩ := h
  rw [fromOk_of hok]
  exact ⟨_, _, rfl, fun _ => ⟨rfl, rfl⟩, hb⟩
theorem rf_not {w w' : World} {l : List UInt8} {p : Int} {e : Ending} (hok : readOk l = false) (h : e = .returned (.tuple #[.agg #[.string ⟨#[]⟩, .string ⟨#[]⟩], .bool false]) ∧ Below w.heap.size w w') : AltIs w (fromOk l p) (fromB l p) e w' := by
  obtain ⟨rfl, hb⟩ := h
  rw [fromOk_bad hok]
  exact ⟨_, _, rfl, fun h => (by cases h), hb⟩
theorem rfCaret_any (l : List UInt8) (w : World) (hl : l.length ≤ 1048576) (ht : Tab w) : Calls Tryz.prog 105 #[.string ⟨l.toArray⟩, .func (.func 106) #[] #[]] w (AltIs w (fromOk l (crt l)) (fromB l (crt l))) := by
  cases hok : readOk l with
  | true => exact (rfCaret_yes l w hl hok ht).mono fun e w' h => rf_is hok h
  | false => exact (rfCaret_no l w hl hok).mono fun e w' h => rf_not hok h
theorem rfTilde_any (l : List UInt8) (w : World) (hl : l.length ≤ 1048576) (ht : Tab w) : Calls Tryz.prog 105 #[.string ⟨l.toArray⟩, .func (.func 109) #[] #[]] w (AltIs w (fromOk l 1) (fromB l 1)) := by
  cases hok : readOk l with
  | true => exact (rfTilde_yes l w hl hok ht).mono fun e w' h => rf_is hok h
  | false => exact (rfTilde_no l w hl hok).mono fun e w' h => rf_not hok h
theorem rfPartial_any (l : List UInt8) (p : Int) (Q : Nat) (w : World) (hl : l.length ≤ 1048576) (ht : Tab w) (hp : inI p 0 2 = true) (hQ : w.cell? ⟨Q, 0, none⟩ = some (.int .i64 p)) : Calls Tryz.prog 105 #[.string ⟨l.toArray⟩, .func (.func 168) #[] #[.pointer (some ⟨Q, 0, none⟩)]] w (AltIs w (fromOk l p) (fromB l p)) := by
  cases hok : readOk l with
  | true => exact (rfPartial_yes l p Q w hl hok ht hp hQ).mono fun e w' h => rf_is hok h
  | false => exact (rfPartial_no l Q w hl hok).mono fun e w' h => rf_not hok h
theorem rfAbove_any (l : List UInt8) (w : World) (hl : l.length ≤ 1048576) (ht : Tab w) : Calls Tryz.prog 105 #[.string ⟨l.toArray⟩, .func (.func 113) #[] #[]] w (AltIs w (exOk l) (l, exHigh l)) := by
  cases hok : readOk l with
  | true => exact (readFrom_yes l w hl hok ht).mono fun e w' h => by obtain ⟨rfl, hb⟩ := h; rw [exOk_of hok]; exact ⟨_, _, rfl, fun _ => ⟨rfl, rfl⟩, hb⟩
  | false => exact (readFrom_no l w hl hok).mono fun e w' h => by obtain ⟨rfl, hb⟩ := h; rw [exOk_bad hok]; exact ⟨_, _, rfl, fun h => (by cases h), hb⟩
end Go.Proofs.YtongpnknmgbhjaaGreatDoor
