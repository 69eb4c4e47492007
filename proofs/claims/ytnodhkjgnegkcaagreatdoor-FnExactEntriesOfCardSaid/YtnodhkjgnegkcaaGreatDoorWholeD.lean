/-
  The laws' own helpers on lists of packs and on graphs: szPackS, toPackS, eqPackS, szGraph, toGraph, eqGraph.
-/
import Derived.Test.YtnodhkjgnegkcaaGreatDoorRows
import Derived.Test.YtnodhkjgnegkcaaGreatDoorBase
import Derived.Test.YtnodhkjgnegkcaaGreatDoorPieces
import Derived.Test.YtnodhkjgnegkcaaGreatDoorRdL
import Derived.Test.YtnodhkjgnegkcaaGreatDoorCut
import Derived.Test.YtnodhkjgnegkcaaGreatDoorChar
import Derived.Test.YtnodhkjgnegkcaaGreatDoorWholeC
import Derived.Test.YtnodhkjgnegkcaaGreatDoorCharN
import Derived.Test.YtnodhkjgnegkcaaGreatDoorLawB
import Derived.Test.YtnodhkjgnegkcaaGreatDoorRdB
import Derived.Deep.RegionWith
import Derived.Test.YtnodhkjgnegkcaaGreatDoorHeapD
/-
  The last place of a byte in a text.
-/
namespace Go.Proofs.YtnodhkjgnegkcaaGreatDoor
open Go.RowKit

/-- The last place of c among the first k bytes of l, or -1. -/
def lastK (l : List UInt8) (c : UInt8) : Nat → Int
  | 0 => -1
  | k + 1 => if l.getD k 0 = c then (k : Int) else lastK l c k
theorem lastK_bd (l : List UInt8) (c : UInt8) : ∀ k, -1 ≤ lastK l c k ∧ lastK l c k < k
  | 0 => by simp [lastK]
  | k + 1 => by
    have := lastK_bd l c k
    unfold lastK
    split <;> omega
theorem lastK_take (l : List UInt8) (c : UInt8) (n : Nat) : ∀ k, k ≤ n → k ≤ l.length → lastK (l.take n) c k = lastK l c k
  | 0, _, _ => rfl
  | k + 1, h, hl => by
    unfold lastK
    rw [lastK_take l c n k (by omega) (by omega)]
    have : (l.take n).getD k 0 = l.getD k 0 := by simp [List.getD_eq_getElem?_getD, List.getElem?_take_of_lt (show k < n by omega)]
    rw [this]
theorem getD_byte (s : ByteArray) (k : Nat) (h : k < s.size) : s.data.toList.getD k 0 = s[k] := by
  rw [List.getD_eq_getElem?_getD, List.getElem?_eq_getElem (by simpa using h)]; rfl
theorem lastK_hit {s : ByteArray} {c : UInt8} {k : Nat} (h : k < s.size) (hc : s[k] = c) : lastK s.data.toList c (k + 1) = k := by
  unfold lastK; rw [getD_byte s k h, if_pos hc]
theorem lastK_miss {s : ByteArray} {c : UInt8} {k : Nat} (h : k < s.size) (hc : ¬ s[k] = c) : lastK s.data.toList c (k + 1) = lastK s.data.toList c k := by
  conv => lhs; unfold lastK
  rw [getD_byte s k h, if_neg hc]

/-- The two parts of a key. -/
def keyA (s : ByteArray) : ByteArray := if lastK s.data.toList 64 s.size < 0 then ⟨#[]⟩ else s.extract 0 (lastK s.data.toList 64 s.size).toNat
def keyB (s : ByteArray) : ByteArray := if lastK s.data.toList 64 s.size < 0 then ⟨#[]⟩ else s.extract ((lastK s.data.toList 64 s.size).toNat + 1) s.size
theorem slice_upto (s r : ByteArray) (b : Nat) (zb : Int) (hb : zb = (b : Int)) (h2 : b ≤ s.size) (hr : s.extract 0 b = r) (w : World) :
    (Instr.slice 9 (.string s) none (some (.int .i64 zb)) none).run Tryz.prog w = .ok (.string r) w := by
  subst hb hr
  have h0 : (0 : Int) ≤ (b : Int) := by omega
  have h3 : (b : Int) ≤ (s.size : Int) := by omega
  have h := run_slice_string_h (P := Tryz.prog) w 9 s Tryz.underlying9 .i64 (b : Int) h0 h3
  simpa using h
theorem keyA_hit {s : ByteArray} {k : Nat} (h : lastK s.data.toList 64 s.size = (k : Int)) : keyA s = s.extract 0 k := by unfold keyA; rw [h, if_neg (by omega)]; rfl
theorem keyB_hit {s : ByteArray} {k : Nat} (h : lastK s.data.toList 64 s.size = (k : Int)) : keyB s = s.extract (k + 1) s.size := by unfold keyB; rw [h, if_neg (by omega)]; rfl
theorem keyA_miss {s : ByteArray} (h : lastK s.data.toList 64 s.size < 0) : keyA s = ⟨#[]⟩ := by unfold keyA; rw [if_pos h]
theorem keyB_miss {s : ByteArray} (h : lastK s.data.toList 64 s.size < 0) : keyB s = ⟨#[]⟩ := by unfold keyB; rw [if_pos h]

end Go.Proofs.YtnodhkjgnegkcaaGreatDoor

/-
  spec.NameOk returns whether a string is a package name.
-/
namespace Go.Proofs.YtnodhkjgnegkcaaGreatDoor
open Go.RowKit

def nameI (z : Int) : Bool := decide ((97 ≤ z ∧ z ≤ 122) ∨ (48 ≤ z ∧ z ≤ 57) ∨ z = 46 ∨ z = 95 ∨ z = 45)
def nameB (c : UInt8) : Bool := nameI (c.toNat : Int)
def nmL : List UInt8 := [110, 111, 100, 101, 95, 109, 111, 100, 117, 108, 101, 115]
def compL (l : List UInt8) : Bool := !l.isEmpty && l.all nameB
def chk (sc : Bool) (p : List UInt8) : Bool := compL p && (sc || !(p == nmL))
def chkS (p : List UInt8) : Bool := if p.head? = some 64 then compL p.tail else chk false p
def specN (l : List UInt8) : Bool := (match cutL 47 l with
  | [] => true
  | p :: ps => chkS p && ps.all (chk false)) && decide (l.length ≤ 60)

theorem name_ways (z : Int) : lettI z = true ∨ (lettI z = false ∧ (z == 46) = true) ∨ (lettI z = false ∧ (z == 46) = false ∧ (z == 95) = true) ∨ (lettI z = false ∧ (z == 46) = false ∧ (z == 95) = false ∧ (z == 45) = true) ∨ (lettI z = false ∧ (z == 46) = false ∧ (z == 95) = false ∧ (z == 45) = false) := by
  cases lettI z <;> simp <;> omega
theorem name_yes {z : Int} (h : lettI z = true ∨ (z == 46) = true ∨ (z == 95) = true ∨ (z == 45) = true) : nameI z = true := by
  unfold lettI at h; unfold nameI; simp at h ⊢; omega
theorem name_no {z : Int} (h : lettI z = false ∧ (z == 46) = false ∧ (z == 95) = false ∧ (z == 45) = false) : nameI z = false := by
  unfold lettI at h; unfold nameI; simp at h ⊢; omega
theorem bne_of_beq {z c : Int} {b : Bool} (h : (z == c) = b) : (z != c) = !b := by unfold bne; rw [h]

theorem all_no (s : ByteArray) (k : Nat) (p : UInt8 → Bool) (h : k < s.size) (hb : p s[k] = false) : s.data.toList.all p = false := by
  rw [List.all_eq_false]
  have hm : s[k] ∈ s.data.toList := by
    have : s[k] = s.data.toList[k]'(by simpa using h) := rfl
    rw [this]; exact List.getElem_mem _
  exact ⟨_, hm, by simp [hb]⟩
theorem all_go (s : ByteArray) (k : Nat) (p : UInt8 → Bool) (h : k < s.size) (ha : (s.data.toList.take k).all p = true) (hb : p s[k] = true) : (s.data.toList.take (k + 1)).all p = true := by
  rw [take_snoc s k h, List.all_append, ha]; simp [hb]

/-- The first j parts are right. -/
def okS (j : Nat) (p : List UInt8) : Bool := if j = 0 then chkS p else chk false p
def UpTo (P : List (List UInt8)) (j : Nat) : Prop := ∀ t, t < j → okS t (P.getD t []) = true
theorem upTo_next {P : List (List UInt8)} {j : Nat} (h : UpTo P j) (hj : okS j (P.getD j []) = true) : UpTo P (j + 1) := fun t ht => by
  rcases Nat.lt_or_ge t j with h1 | h1
  · exact h t h1
  · obtain rfl : t = j := by omega
    exact hj
theorem specN_bad {l : List UInt8} {j : Nat} (hj : j < (cutL 47 l).length) (h : okS j ((cutL 47 l).getD j []) = false) : specN l = false := by
  unfold specN
  rw [Bool.and_eq_false_iff]; left
  cases hP : cutL 47 l with
  | nil => rw [hP] at hj; simp at hj
  | cons p ps =>
    rw [hP] at h hj
    simp only
    rw [Bool.and_eq_false_iff]
    cases j with
    | zero => left; simpa [okS] using h
    | succ j =>
      right
      simp [okS] at h
      simp at hj
      rw [List.all_eq_false]
      refine ⟨ps[j], List.getElem_mem _, ?_⟩
      simpa [hj] using h
theorem specN_end {l : List UInt8} (h : UpTo (cutL 47 l) (cutL 47 l).length) : specN l = decide (l.length ≤ 60) := by
  unfold specN
  cases hP : cutL 47 l with
  | nil => simp
  | cons p ps =>
    rw [hP] at h
    have h0 := h 0 (by simp)
    simp [okS] at h0
    have hr : ps.all (chk false) = true := by
      rw [List.all_eq_true]
      intro x hx
      obtain ⟨t, ht, rfl⟩ := List.mem_iff_getElem.1 hx
      have := h (t + 1) (by simp; omega)
      simpa [okS, ht] using this
    simp only
    rw [h0, hr]; simp

theorem attach_len (p : List UInt8) {X : List (List UInt8)} (h : X ≠ []) : (attach p X).length = X.length := by cases X <;> simp_all [attach]
theorem cutL_len (m : UInt8) (l : List UInt8) : (cutL m l).length ≤ l.length + 1 := by
  induction l with
  | nil => simp [cutL]
  | cons c l ih =>
    unfold cutL
    split
    · simp; omega
    · rw [attach_len _ (cutL_ne m l)]; simp; omega
theorem part_len (m : UInt8) (l : List UInt8) : ∀ p ∈ cutL m l, p.length ≤ l.length := by
  induction l with
  | nil => intro p hp; simp [cutL] at hp; subst hp; simp
  | cons c l ih =>
    intro p hp
    unfold cutL at hp
    split at hp
    · rcases List.mem_cons.1 hp with rfl | h
      · simp
      · have := ih p h; simp; omega
    · cases hX : cutL m l with
      | nil => exact absurd hX (cutL_ne m l)
      | cons q qs =>
        rw [hX] at hp
        simp [attach] at hp
        rcases hp with rfl | h
        · have := ih q (by rw [hX]; simp); simp; omega
        · have := ih p (by rw [hX]; simp [h]); simp; omega
theorem compL_empty {l : List UInt8} (h : l.isEmpty = true) : compL l = false := by unfold compL; rw [h]; rfl
theorem compL_bad {l : List UInt8} (h : l.all nameB = false) : compL l = false := by unfold compL; rw [h]; simp
theorem compL_good {l : List UInt8} (h : l.isEmpty = false) (h2 : l.all nameB = true) : compL l = true := by unfold compL; rw [h, h2]; rfl
theorem chk_of {p : List UInt8} (h : (p == nmL) = false) : chk false p = compL p := by unfold chk; rw [h]; simp
theorem chk_nm {p : List UInt8} (h : (p == nmL) = true) (j : Nat) : okS j p = false := by
  have : p = nmL := by simpa using h
  subst this
  unfold okS
  split <;> decide

set_option maxRecDepth 100000 in
set_option maxHeartbeats 4000000 in
theorem specNameOk_any (s : ByteArray) (w : World) (hs : s.size ≤ 1048576) :
    Calls Tryz.prog 137 #[.string s] w fun e w' => e = .returned (.bool (specN s.data.toList)) ∧ Below w.heap.size w w' := by
  go_enter Tryz.func137, Tryz.ntmps137
  go_wp2_with fail
  refine (l01Cut_any s 47 _ hs).mono ?_
  rintro e w1 ⟨g, cap, rfl, hown, hb⟩
  have hcell := fun j hj => hown.cell (g := g) j hj
  have hPl : (cutL 47 s.data.toList).length ≤ 1048577 := by have := cutL_len 47 s.data.toList; simp at this; omega
  obtain ⟨P, HPE⟩ : ∃ P, Hid (P = cutL 47 s.data.toList) := ⟨_, Lib.hid rfl⟩
  rw [← HPE.out] at hcell hPl ⊢
  clear hown
  go_wp2_with fail
  go_loop [4, 5, 6] (fun i _ _ => ∃ j : Nat, j ≤ P.length ∧ i = .int .i64 j ∧ UpTo P j) (fun i _ _ => P.length - (intOf i).toNat)
  case atStart => exact ⟨0, Nat.zero_le _, rfl, fun t ht => absurd ht (by omega)⟩
  case round =>
    obtain ⟨j, hj, rfl, H⟩ := hrel
    by_cases hlt : j < P.length
    · obtain ⟨b, hbE⟩ : ∃ b : ByteArray, b = ⟨P[j].toArray⟩ := ⟨_, rfl⟩
      have hc : w1.cell? ⟨g, j, none⟩ = some (.string b) := by rw [hbE]; exact hcell j hlt
      have HB : Hid (b.data.toList = P.getD j []) := Lib.hid (by rw [hbE]; simp [hlt])
      have HSZ : Hid (b.size ≤ 1048576) := Lib.hid (by
        have hmem : P[j] ∈ cutL 47 s.data.toList := by rw [← HPE.out]; exact List.getElem_mem _
        have := part_len 47 s.data.toList _ hmem
        have e : b.size = P[j].length := by rw [hbE]; show P[j].toArray.size = _; simp
        simp at this
        omega)
      clear hbE hcell
      by_cases hnm : (b.data.toList == nmL) = true
      · have e1 : (b.toList == [110, 111, 100, 101, 95, 109, 111, 100, 117, 108, 101, 115]) = true := by rw [ByteArray.toList_eq]; exact hnm
        have HV : Hid (specN s.data.toList = false) := Lib.hid (specN_bad (j := j) (by rw [← HPE.out]; exact hlt) (by rw [← HPE.out, ← HB.out]; exact chk_nm hnm j))
        clear hnm H
        go_wp2_with fail
        go_ret
        exact ⟨ret_bool HV.out.symm, hb⟩
      · have hnm' : (b.data.toList == nmL) = false := by simpa using hnm
        have e1 : (b.toList == [110, 111, 100, 101, 95, 109, 111, 100, 117, 108, 101, 115]) = false := by rw [ByteArray.toList_eq]; exact hnm'
        have hways : ∃ q : ByteArray, q.size ≤ b.size ∧ okS j b.data.toList = compL q.data.toList ∧
            ((((j : Int) == 0) = true ∧ (∃ h0 : 0 < b.size, ((b[0].toNat : Int) == 64) = true) ∧ (∀ W, (Instr.slice 9 (.string b) (some (.int .i64 1)) none none).run Tryz.prog W = .ok (.string q) W)) ∨
             (q = b ∧ (((j : Int) == 0) = false ∨ (((j : Int) == 0) = true ∧ ¬ 0 < b.size) ∨ (((j : Int) == 0) = true ∧ ∃ h0 : 0 < b.size, ((b[0].toNat : Int) == 64) = false)))) := by
          by_cases hj0 : j = 0
          · by_cases hb0 : 0 < b.size
            · have hd := drop_cons b 0 hb0
              simp at hd
              by_cases h64 : b[0] = 64
              · refine ⟨b.extract 1 b.size, by simp, ?_, .inl ⟨by simp [hj0], ⟨hb0, by rw [h64]; rfl⟩, slice_from b _ 1 1 rfl (by omega) rfl⟩⟩
                unfold okS chkS
                rw [if_pos hj0, hd, h64, piece_end]
                simp
              · refine ⟨b, Nat.le_refl _, ?_, .inr ⟨rfl, .inr (.inr ⟨by simp [hj0], hb0, int_beq_false (fun h => h64 (UInt8.toNat_inj.1 (by show _ = (64 : Nat); omega)))⟩)⟩⟩
                unfold okS chkS
                rw [if_pos hj0, if_neg (by rw [hd]; simpa using h64), chk_of hnm']
            · refine ⟨b, Nat.le_refl _, ?_, .inr ⟨rfl, .inr (.inl ⟨by simp [hj0], hb0⟩)⟩⟩
              have hz : b.size = 0 := by omega
              have hnil : b.data.toList = [] := List.eq_nil_of_length_eq_zero (by simpa using hz)
              unfold okS chkS
              rw [if_pos hj0, hnil]; rfl
          · refine ⟨b, Nat.le_refl _, ?_, .inr ⟨rfl, .inl (int_beq_false (fun h => hj0 (Int.ofNat.inj h)))⟩⟩
            unfold okS
            rw [if_neg hj0, chk_of hnm']
        obtain ⟨q, hqs, hok, hway⟩ := hways
        have HOK : Hid (okS j (P.getD j []) = compL q.data.toList) := Lib.hid (by rw [← HB.out]; exact hok)
        have HBAD : Hid (compL q.data.toList = false → specN s.data.toList = false) := Lib.hid (fun hcl => specN_bad (j := j) (by rw [← HPE.out]; exact hlt) (by rw [← HPE.out, HOK.out, hcl]))
        have HUP : Hid (compL q.data.toList = true → UpTo P (j + 1)) := Lib.hid (fun hcl => upTo_next H (by rw [HOK.out, hcl]))
        have hql : q.size ≤ 1048576 := Nat.le_trans hqs HSZ.out
        clear hnm hnm' hok H hqs
        have hway2 : (((j : Int) == 0) = true ∧ (∃ h0 : 0 < b.size, ((b[0].toNat : Int) == 64) = true) ∧ (∀ W, (Instr.slice 9 (.string b) (some (.int .i64 1)) none none).run Tryz.prog W = .ok (.string q) W)) ∨ (q = b ∧ ((j : Int) == 0) = false) ∨ (q = b ∧ ((j : Int) == 0) = true ∧ ¬ 0 < b.size) ∨ (q = b ∧ ((j : Int) == 0) = true ∧ ∃ h0 : 0 < b.size, ((b[0].toNat : Int) == 64) = false) := by
          rcases hway with h | ⟨h, h' | h' | h'⟩
          · exact .inl h
          · exact .inr (.inl ⟨h, h'⟩)
          · exact .inr (.inr (.inl ⟨h, h'⟩))
          · exact .inr (.inr (.inr ⟨h, h'⟩))
        clear hway
        rcases hway2 with ⟨e2, ⟨h0, e3⟩, he⟩ | ⟨rfl, e2⟩ | ⟨rfl, e2, h0⟩ | ⟨rfl, e2, h0, e3⟩
        all_goals
          go_wp2_with fail
          go_loop [6] (fun k => ∃ m : Nat, m ≤ q.size ∧ k = .int .i64 m ∧ Hid ((q.data.toList.take m).all nameB = true)) (fun k => q.size - (intOf k).toNat)
          case atStart => exact ⟨0, Nat.zero_le _, rfl, Lib.hid (by simp)⟩
          case round =>
            obtain ⟨m, hm, rfl, HA⟩ := hrel
            by_cases hml : m < q.size
            · have c1 := (byte_lt q[m]).1
              have c2 := (byte_lt q[m]).2
              rcases name_ways (q[m].toNat : Int) with z | ⟨z, z1⟩ | ⟨z, z1, z2⟩ | ⟨z, z1, z2, z3⟩ | ⟨z, z1, z2, z3⟩
              · have HY := Lib.hid (all_go q m nameB hml HA.out (name_yes (.inl z)))
                have HS := Lib.hid z
                clear z
                go_wp2_with fail
                refine (l01Letter_any _ _ c2 c1).mono ?_
                rw [HS.out]
                rintro e w' ⟨rfl, rfl⟩
                go_wp2_with fail
                go_round
                case rel => exact ⟨m + 1, by omega, by go_num, HY⟩
                case measure => simp [intOf]; omega
              · have HY := Lib.hid (all_go q m nameB hml HA.out (name_yes (.inr (.inl z1))))
                have HS := Lib.hid z
                have y1 := bne_of_beq z1
                clear z z1
                go_wp2_with fail
                refine (l01Letter_any _ _ c2 c1).mono ?_
                rw [HS.out]
                rintro e w' ⟨rfl, rfl⟩
                go_wp2_with fail
                go_round
                case rel => exact ⟨m + 1, by omega, by go_num, HY⟩
                case measure => simp [intOf]; omega
              · have HY := Lib.hid (all_go q m nameB hml HA.out (name_yes (.inr (.inr (.inl z2)))))
                have HS := Lib.hid z
                have y1 := bne_of_beq z1
                have y2 := bne_of_beq z2
                clear z z1 z2
                go_wp2_with fail
                refine (l01Letter_any _ _ c2 c1).mono ?_
                rw [HS.out]
                rintro e w' ⟨rfl, rfl⟩
                go_wp2_with fail
                go_round
                case rel => exact ⟨m + 1, by omega, by go_num, HY⟩
                case measure => simp [intOf]; omega
              · have HY := Lib.hid (all_go q m nameB hml HA.out (name_yes (.inr (.inr (.inr z3)))))
                have HS := Lib.hid z
                have y1 := bne_of_beq z1
                have y2 := bne_of_beq z2
                have y3 := bne_of_beq z3
                clear z z1 z2 z3
                go_wp2_with fail
                refine (l01Letter_any _ _ c2 c1).mono ?_
                rw [HS.out]
                rintro e w' ⟨rfl, rfl⟩
                go_wp2_with fail
                go_round
                case rel => exact ⟨m + 1, by omega, by go_num, HY⟩
                case measure => simp [intOf]; omega
              · have HX : Hid (specN s.data.toList = false) := Lib.hid (HBAD.out (compL_bad (all_no q m nameB hml (name_no ⟨z, z1, z2, z3⟩))))
                have HS := Lib.hid z
                have y1 := bne_of_beq z1
                have y2 := bne_of_beq z2
                have y3 := bne_of_beq z3
                clear z z1 z2 z3
                go_wp2_with fail
                refine (l01Letter_any _ _ c2 c1).mono ?_
                rw [HS.out]
                rintro e w' ⟨rfl, rfl⟩
                go_wp2_with fail
                go_ret
                exact ⟨ret_bool HX.out.symm, hb⟩
            · have HA2 := HA.out
              rw [take_end q m hml] at HA2
              by_cases hqe : q.data.toList.isEmpty = true
              · have HX : Hid (specN s.data.toList = false) := Lib.hid (HBAD.out (compL_empty hqe))
                have e9 : q.toList.isEmpty = true := by rw [ByteArray.toList_eq]; exact hqe
                clear hqe HA2
                go_wp2_with fail
                go_ret
                exact ⟨ret_bool HX.out.symm, hb⟩
              · have hqe' : q.data.toList.isEmpty = false := by simpa using hqe
                have HX := Lib.hid (HUP.out (compL_good hqe' HA2))
                have e9 : q.toList.isEmpty = false := by rw [ByteArray.toList_eq]; exact hqe'
                clear hqe hqe' HA2
                go_wp2_with fail
                go_round
                case rel => exact ⟨j + 1, by omega, by go_num, HX.out⟩
                case measure => simp [intOf]; omega
    · have HV : Hid (specN s.data.toList = decide (s.size ≤ 60)) := Lib.hid (by
        rw [specN_end (by rw [← HPE.out]; have hjl : j = P.length := (by omega); rw [← hjl]; exact H)]; simp)
      clear H hcell
      by_cases h60 : s.size ≤ 60
      · have d60 : decide (s.size ≤ 60) = true := by simpa using h60
        go_wp2_with fail
        go_ret
        exact ⟨ret_bool (by rw [HV.out, d60]; simp; omega), hb⟩
      · have d60 : decide (s.size ≤ 60) = false := by simpa using h60
        go_wp2_with fail
        go_ret
        exact ⟨ret_bool (by rw [HV.out, d60]; simp; omega), hb⟩
end Go.Proofs.YtnodhkjgnegkcaaGreatDoor

/-
  Reading a need in plain words: a range's text bears no @, so the last @ parts a need.
-/
namespace Go.Proofs.YtnodhkjgnegkcaaGreatDoor
open Go.RowKit

theorem index_parts {s sep : List UInt8} {i : Nat} (h : Lib.index s sep = i) : s = s.take i ++ (sep ++ s.drop (i + sep.length)) := by
  rcases Lib.index_spec s sep with ⟨h1, _⟩ | ⟨j, h1, _, h3, _⟩
  · rw [h1] at h; omega
  · have hj : j = i := by rw [h1] at h; omega
    subst hj
    unfold Lib.occAt at h3
    obtain ⟨t, ht⟩ := List.isPrefixOf_iff_prefix.1 h3
    have : t = s.drop (j + sep.length) := by rw [← List.drop_drop, ← ht]; simp
    rw [← this, ht, List.take_append_drop]
theorem splitK_has {x : UInt8} {sep : List UInt8} (hx : x ∉ sep) : ∀ (k : Nat) (s : List UInt8), x ∈ s → ∃ p ∈ Lib.splitK sep 0 k s, x ∈ p
  | 0, s, h => ⟨s, by simp [Lib.splitK], h⟩
  | k + 1, s, h => by
    unfold Lib.splitK
    split
    · exact ⟨s, by simp, h⟩
    · rename_i hm
      have hg := Lib.index_ge s sep
      obtain ⟨i, hi⟩ : ∃ i : Nat, Lib.index s sep = i := ⟨(Lib.index s sep).toNat, by have : Lib.index s sep ≠ -1 := fun e => hm (beq_iff_eq.2 e); omega⟩
      have hp := index_parts hi
      rw [hi]
      rw [hp] at h
      rcases List.mem_append.1 h with h | h
      · exact ⟨_, List.mem_cons_self, by simpa using h⟩
      · rcases List.mem_append.1 h with h | h
        · exact absurd h hx
        · obtain ⟨p, hp1, hp2⟩ := splitK_has hx k (s.drop (i + sep.length)) h
          exact ⟨p, List.mem_cons_of_mem _ (by simpa using hp1), hp2⟩
theorem v64 : vch 64 = false := by decide
theorem read64 {l : List UInt8} (h : readOk l = true) : (64 : UInt8) ∉ l := readOk_none h v64
theorem from64 {l : List UInt8} {p : Int} (h : fromOk l p = true) : (64 : UInt8) ∉ l := by unfold fromOk at h; simp at h; exact read64 h.1
theorem ge64 {l : List UInt8} (h : (geP l && readOk (l.drop 2)) = true) : (64 : UInt8) ∉ l := by
  simp only [Bool.and_eq_true] at h
  obtain ⟨h1, h2⟩ := h
  unfold geP at h1
  obtain ⟨t, rfl⟩ := List.isPrefixOf_iff_prefix.1 h1
  have := read64 h2
  simpa using this
theorem lt64 {l : List UInt8} (h : (ltP l && readOk (l.drop 1)) = true) : (64 : UInt8) ∉ l := by
  simp only [Bool.and_eq_true] at h
  obtain ⟨h1, h2⟩ := h
  unfold ltP at h1
  obtain ⟨t, rfl⟩ := List.isPrefixOf_iff_prefix.1 h1
  have := read64 h2
  simpa using this
theorem lm64 {l : List UInt8} (h : lmOk l = true) : (64 : UInt8) ∉ l := by
  unfold lmOk at h
  split at h
  · rename_i hi
    simp only [Bool.and_eq_true] at h
    have h1 := ge64 (l := cutA 32 l) (by simp only [Bool.and_eq_true]; exact h.1)
    have h2 := lt64 (l := cutB 32 l) (by simp only [Bool.and_eq_true]; exact h.2)
    have hs := idx_split 32 l hi
    intro hm
    rw [hs] at hm
    unfold cutA at h1; rw [if_pos hi] at h1
    unfold cutB at h2; rw [if_pos hi] at h2
    rcases List.mem_append.1 hm with hm | hm
    · exact h1 hm
    · rcases List.mem_cons.1 hm with hm | hm
      · exact absurd hm (by decide)
      · exact h2 hm
  · simp only [Bool.or_eq_true] at h
    rcases h with h | h
    · exact ge64 h
    · exact lt64 h
theorem head_drop {l : List UInt8} {c : UInt8} (h : l.head? = some c) : l = c :: l.drop 1 := by
  cases l with
  | nil => simp at h
  | cons x y => simp at h; subst h; rfl
theorem alt64 {l : List UInt8} (h : altOk l = true) : (64 : UInt8) ∉ l := by
  unfold altOk at h
  split at h
  · rename_i e; rw [e]; decide
  · split at h
    · rename_i e; rw [head_drop e]; have := from64 h; simpa using this
    · split at h
      · rename_i e; rw [head_drop e]; have := from64 h; simpa using this
      · split at h
        · exact lm64 h
        · split at h
          · have := from64 h; intro hm; exact this (by simp [hm])
          · unfold exOk at h; simp at h; exact read64 h.1
/-- A range's text bears no @. -/
theorem rg64 {l : List UInt8} (h : rgOk l = true) : (64 : UInt8) ∉ l := by
  intro hm
  unfold rgOk at h
  simp only [Bool.and_eq_true] at h
  obtain ⟨p, hp, hx⟩ := splitK_has (x := 64) (sep := orSep) (by decide) (Lib.count l orSep) l hm
  exact alt64 (List.all_eq_true.1 h.2.2 p hp) hx

/-- Whether two texts are a need's. -/
def nd2 (a b : ByteArray) : Bool := specN a.data.toList && rgOk b.data.toList
/-- Whether a text is a need's, and its parts. -/
def nrOk (s : ByteArray) : Bool := nd2 (keyA s) (keyB s)
def nrA (s : ByteArray) : ByteArray := if nrOk s = true then keyA s else ⟨#[]⟩
def nrB (s : ByteArray) : ByteArray := if nrOk s = true then keyB s else ⟨#[]⟩
/-- A need's parts are parted at k. -/
def gd (s : ByteArray) (k : Nat) : Bool := if h : k < s.size then (s[k] == 64) && nd2 (s.extract 0 k) (s.extract (k + 1) s.size) else false
theorem lastK_at {s : ByteArray} {k : Nat} (hk : k < s.size) (hc : s[k] = 64) (hn : (64 : UInt8) ∉ (s.extract (k + 1) s.size).data.toList) : ∀ n, k + 1 ≤ n → n ≤ s.size → lastK s.data.toList 64 n = k
  | 0, h, _ => by omega
  | n + 1, h, hl => by
    by_cases he : n = k
    · subst he; exact lastK_hit hk hc
    · have hne : ¬ s[n]'(by omega) = 64 := fun e => hn (by
        have : (s.extract (k + 1) s.size).data.toList = (s.data.toList.drop (k + 1)) := by rw [piece_end]
        rw [this]
        have hl2 : n < s.data.toList.length := by simpa using (by omega : n < s.size)
        have h3 : s.data.toList[n] = 64 := e
        rw [← h3]
        exact List.mem_iff_getElem.2 ⟨n - (k + 1), by simp; simp at hl2; omega, by simp [show k + 1 + (n - (k + 1)) = n by omega]⟩)
      rw [lastK_miss (by omega) hne]
      exact lastK_at hk hc hn n (by omega) (by omega)
theorem gd_yes {s : ByteArray} {k : Nat} (h : gd s k = true) : nrOk s = true ∧ nrA s = s.extract 0 k ∧ nrB s = s.extract (k + 1) s.size := by
  unfold gd at h
  split at h
  · rename_i hk
    simp only [Bool.and_eq_true, beq_iff_eq] at h
    obtain ⟨hc, hn⟩ := h
    have h64 : (64 : UInt8) ∉ (s.extract (k + 1) s.size).data.toList := by
      unfold nd2 at hn; simp only [Bool.and_eq_true] at hn; exact rg64 hn.2
    have hl := lastK_at hk hc h64 s.size (by omega) (Nat.le_refl _)
    have ha := keyA_hit hl
    have hb := keyB_hit hl
    have hok : nrOk s = true := by unfold nrOk; rw [ha, hb]; exact hn
    exact ⟨hok, by unfold nrA; rw [if_pos hok, ha], by unfold nrB; rw [if_pos hok, hb]⟩
  · cases h
theorem specN_nil : specN [] = false := by decide
theorem lastK_is {s : ByteArray} : ∀ n, n ≤ s.size → ∀ k : Nat, lastK s.data.toList 64 n = k → ∃ h : k < s.size, s[k] = 64
  | 0, _, k, h => by simp [lastK] at h
  | n + 1, hn, k, h => by
    by_cases hc : s[n]'(by omega) = 64
    · rw [lastK_hit (by omega) hc] at h
      have : n = k := by omega
      subst this; exact ⟨by omega, hc⟩
    · rw [lastK_miss (by omega) hc] at h
      exact lastK_is n (by omega) k h
theorem gd_none {s : ByteArray} (h : ∀ j, 1 ≤ j → j < s.size → gd s j = false) : nrOk s = false := by
  cases ho : nrOk s with
  | false => rfl
  | true =>
    exfalso
    have hb := lastK_bd s.data.toList 64 s.size
    by_cases hl : lastK s.data.toList 64 s.size < 0
    · unfold nrOk nd2 at ho
      rw [keyA_miss hl] at ho
      have e : (⟨#[]⟩ : ByteArray).data.toList = [] := rfl
      rw [e, specN_nil] at ho; cases ho
    · obtain ⟨k, hk⟩ : ∃ k : Nat, lastK s.data.toList 64 s.size = k := ⟨(lastK s.data.toList 64 s.size).toNat, by omega⟩
      obtain ⟨hlt, hc⟩ := lastK_is s.size (Nat.le_refl _) k hk
      have ha := keyA_hit hk
      have hbb := keyB_hit hk
      by_cases h0 : k = 0
      · unfold nrOk nd2 at ho
        rw [ha, h0] at ho
        have e : (s.extract 0 0).data.toList = [] := by rw [Lib.extract_data]; simp
        rw [e, specN_nil] at ho; cases ho
      · have hg := h k (by omega) hlt
        unfold gd at hg
        rw [dif_pos hlt, hc] at hg
        unfold nrOk at ho
        rw [ha, hbb] at ho
        rw [ho] at hg; simp at hg
/-- What ReadNeed hands back. -/
def NrIs (w : World) (s : ByteArray) (e : Ending) (w' : World) : Prop := e = .returned (.tuple #[.agg #[.string (nrA s), .string (nrB s)], .bool (nrOk s)]) ∧ Below w.heap.size w w'
theorem nrIs_no {w w' : World} {s : ByteArray} (h : nrOk s = false) (hb : Below w.heap.size w w') : NrIs w s (.returned (.tuple #[.agg #[.string ⟨#[]⟩, .string ⟨#[]⟩], .bool false])) w' := by
  refine ⟨?_, hb⟩
  unfold nrA nrB; rw [h]; rfl
end Go.Proofs.YtnodhkjgnegkcaaGreatDoor

/-
  The laws' own helpers on lists of texts: szStringS counts them, toStringS copies them.
-/
namespace Go.Proofs.YtnodhkjgnegkcaaGreatDoor
open Go.RowKit

/-- How many texts and letters there are. -/
def smL (ls : List (List UInt8)) : Nat := (ls.map List.length).sum
def szI (left : Int) (ls : List (List UInt8)) : Int := if (ls.length : Int) + (smL ls : Int) ≤ left then left - (ls.length : Int) - (smL ls : Int) else -1
theorem smL_snoc (ls : List (List UInt8)) (k : Nat) (h : k < ls.length) : smL (ls.take (k + 1)) = smL (ls.take k) + ls[k].length := by
  unfold smL; rw [List.take_succ_eq_append_getElem h]; simp only [List.map_append, List.sum_append, List.map_cons, List.map_nil, List.sum_cons, List.sum_nil]; omega
theorem smL_le (ls : List (List UInt8)) (k : Nat) : smL (ls.take k) ≤ smL ls := by
  have : smL ls = smL (ls.take k) + smL (ls.drop k) := by unfold smL; rw [← List.sum_append, ← List.map_append, List.take_append_drop]
  omega
theorem smL_mem {ls : List (List UInt8)} : ∀ l ∈ ls, l.length ≤ smL ls := by
  induction ls with
  | nil => intro l h; cases h
  | cons a t ih =>
    intro l h
    have e : smL (a :: t) = a.length + smL t := by unfold smL; simp
    rcases List.mem_cons.1 h with rfl | h
    · omega
    · have := ih l h; omega
theorem szI_yes {left : Int} {ls : List (List UInt8)} (h : (ls.length : Int) + (smL ls : Int) ≤ left) : szI left ls = left - (ls.length : Int) - (smL ls : Int) := if_pos h
theorem szI_no {left : Int} {ls : List (List UInt8)} (h : ¬ (ls.length : Int) + (smL ls : Int) ≤ left) : szI left ls = -1 := if_neg h
set_option maxRecDepth 100000 in
set_option maxHeartbeats 1000000 in
theorem szStringS_any (v : Value) (ls : List (List UInt8)) (left : Int) (w : World) (hr : RdS w v ls) (h0 : 0 ≤ left) (h1 : left ≤ 1048576) (hn : ls.length ≤ maxLen) (hm : ∀ l ∈ ls, l.length ≤ maxLen) :
    Calls Tryz.prog 21 #[v, .int .i64 left] w fun e w' => e = .returned (.int .i64 (szI left ls)) ∧ w = w' := by
  obtain ⟨A, ca, rfl, ha⟩ := hr
  have HM := Lib.hid hm
  clear hm
  unfold maxLen at hn
  by_cases hl : (ls.length : Int) ≤ left
  · go_enter Tryz.func21, Tryz.ntmps21
    go_wp2
    go_loop [1, 5] (fun m i => ∃ (k : Nat) (z : Int), k ≤ ls.length ∧ i = .int .i64 k ∧ m = .int .i64 z ∧ 0 ≤ z ∧ z ≤ 1048576 ∧ Hid (z = left - (ls.length : Int) - (smL (ls.take k) : Int))) (fun _ i => ls.length - (intOf i).toNat)
    case atStart => exact ⟨0, _, Nat.zero_le _, rfl, rfl, by omega, by omega, Lib.hid (by simp [smL])⟩
    case round =>
      obtain ⟨k, z, hk, rfl, rfl, z0, z1, HZ⟩ := hrel
      by_cases hlt : k < ls.length
      · obtain ⟨g, off, rfl, _, hca⟩ := ha (by omega)
        obtain ⟨b, hb⟩ : ∃ b : ByteArray, b = ⟨ls[k].toArray⟩ := ⟨_, rfl⟩
        have d1 : w.cell? ⟨g, off + k, none⟩ = some (.string b) := by rw [hb]; exact hca k hlt
        have HB : Hid (b.size = ls[k].length) := Lib.hid (by rw [hb]; exact size_of _)
        have hb2 : b.size ≤ 9223372036854775807 := by have := HM.out ls[k] (List.getElem_mem hlt); unfold maxLen at this; have := HB.out; omega
        have k0 : (0 : Int) ≤ (k : Int) := by omega
        have k1 : (k : Int) < (ls.length : Int) := by omega
        have HS := Lib.hid (smL_snoc ls k hlt)
        have HT := Lib.hid (smL_le ls (k + 1))
        clear ha hca hb
        by_cases hz : z - (b.size : Int) < 0
        · have HX : Hid (szI left ls = -1) := Lib.hid (szI_no (by have := HZ.out; have := HS.out; have := HT.out; have := HB.out; omega))
          go_wp2
          go_ret
          exact ⟨ret_int HX.out.symm, rfl⟩
        · go_wp2
          go_round
          case rel => exact ⟨k + 1, _, by omega, by go_num, rfl, by omega, by omega, Lib.hid (by have := HZ.out; have := HS.out; have := HB.out; omega)⟩
          case measure => simp [intOf]; omega
      · have HX : Hid (szI left ls = z) := Lib.hid (by
          have hz := HZ.out
          rw [List.take_of_length_le (by omega)] at hz
          rw [szI_yes (by omega)]; omega)
        clear ha
        go_wp2
        go_ret
        exact ⟨ret_int HX.out.symm, rfl⟩
  · have HX : Hid (szI left ls = -1) := Lib.hid (szI_no (by omega))
    go_enter Tryz.func21, Tryz.ntmps21
    go_wp2
    go_ret
    exact ⟨ret_int HX.out.symm, rfl⟩

/-- The first k texts, then empty ones. -/
def tk (k : Nat) (ls : List (List UInt8)) : List (List UInt8) := ls.take k ++ List.replicate (ls.length - k) []
theorem tk_len (k : Nat) (ls : List (List UInt8)) (h : k ≤ ls.length) : (tk k ls).length = ls.length := by simp [tk]; omega
theorem tk_zero (ls : List (List UInt8)) : tk 0 ls = List.replicate ls.length [] := by simp [tk]
theorem tk_all (ls : List (List UInt8)) : tk ls.length ls = ls := by simp [tk]
theorem tk_set (k : Nat) (ls : List (List UInt8)) (h : k < ls.length) : (tk k ls).set k ls[k] = tk (k + 1) ls := by
  unfold tk
  rw [List.set_append_right _ _ (by simp; omega), List.take_succ_eq_append_getElem h, List.append_assoc]
  congr 1
  have e : ls.length - k = (ls.length - (k + 1)) + 1 := by omega
  have e2 : k - (List.take k ls).length = 0 := by simp; omega
  rw [e2, e, List.replicate_succ]
  rfl
theorem strs_made {w : World} {base : Nat} {v : Value} {n : Nat} (h : w.ownsRow base 9 1 v n (madeCells (Value.string ⟨#[]⟩).cells (n * 1)).toList) : Strs w base v (List.replicate n []) := by
  unfold Strs
  have e : (madeCells (Value.string ⟨#[]⟩).cells (n * 1)).toList = (List.replicate n ([] : List UInt8)).map sv := by
    apply List.ext_getElem?
    intro j
    by_cases hj : j < n
    · simp [madeCells, hj, Nat.mod_one, sv, Value.cells]
    · simp [madeCells, hj]
  rw [← e]
  simpa using h

set_option maxRecDepth 100000 in
set_option maxHeartbeats 1000000 in
theorem toStringS_any (v : Value) (ls : List (List UInt8)) (w : World) (hr : RdS w v ls) (hl : ls.length ≤ 1048576) :
    Calls Tryz.prog 23 #[v] w fun e w' => ∃ g cap, e = .returned (.slice (some ⟨g, 0, none⟩) ls.length cap) ∧ Strs w' w.heap.size (.slice (some ⟨g, 0, none⟩) ls.length cap) ls ∧ Below w.heap.size w w' := by
  have HR := Lib.hid hr
  obtain ⟨A, ca, rfl, ha⟩ := hr
  obtain ⟨i0, hi, hz0, hz1, hz2⟩ := info_parts strinfo
  go_enter Tryz.func23, Tryz.ntmps23
  go_wp2_with (at_make; refine wpList_make_full _ rfl _ _ 29 rfl w.heap.size 9 i0 (.string ⟨#[]⟩) 1 Tryz.underlying29 hi hz0 hz1 .i64 .i64 _ _ ls.length rfl rfl rfl rfl (by rw [hz2]; omega) (by unfold maxLen; omega) (Nat.le_refl _) ?_; intro w1 hown1 hg1)
  have hS1 := strs_made hown1
  have hb1 : Below w.heap.size w w1 := (Below.refl _ _).grown hg1 (Nat.le_refl _) (by simp)
  clear hown1 hg1 hi hz0 hz1 hz2 ha
  go_loopw [4] (fun i wr => ∃ k : Nat, k ≤ ls.length ∧ i = .int .i64 k ∧ Strs wr w.heap.size (.slice (some ⟨w.heap.size, 0, none⟩) ls.length ls.length) (tk k ls) ∧ Below w.heap.size w wr) (fun i _ => ls.length - (intOf i).toNat)
  case atStart => exact ⟨0, Nat.zero_le _, rfl, by rw [tk_zero]; exact hS1, hb1⟩
  case round =>
    obtain ⟨k, hk, rfl, hS, hb⟩ := hrel
    by_cases hlt : k < ls.length
    · obtain ⟨A', ca', hv, ha⟩ := HR.out.below hb
      simp only [Value.slice.injEq] at hv
      obtain ⟨rfl, _, rfl⟩ := hv
      obtain ⟨g, off, rfl, _, hca⟩ := ha (by omega)
      have d1 : wr.cell? ⟨g, off + k, none⟩ = some (.string ⟨ls[k].toArray⟩) := hca k hlt
      have hS' : Strs wr w.heap.size (.slice (some ⟨w.heap.size, 0, none⟩) (tk k ls).length ls.length) (tk k ls) := by rw [tk_len k ls hk]; exact hS
      have c2 : wr.cell? ⟨w.heap.size, k, none⟩ = some (sv ((tk k ls)[k]'(by rw [tk_len k ls hk]; exact hlt))) := hS.cell k _
      have f2 : wr.frozen? ⟨w.heap.size, k, none⟩ = false := World.ownsRow.frozenAt hS' k
      have k0 : (0 : Int) ≤ (k : Int) := by omega
      have k1 : (k : Int) < (ls.length : Int) := by omega
      clear ha hca hS1 hb1
      go_wp2_with fail
      go_roundw
      case rel => exact ⟨k + 1, by omega, by go_num, by have := hS'.set k ls[k]; rw [tk_set k ls hlt, tk_len (k + 1) ls (by omega)] at this; exact this, hb.setCell (p := ⟨w.heap.size, k, none⟩) (Nat.le_refl _) _⟩
      case measure => simp [intOf]; omega
    · obtain rfl : k = ls.length := by omega
      rw [tk_all] at hS
      clear hS1 hb1
      go_wp2_with fail
      go_ret
      exact ⟨_, _, rfl, hS, hb⟩
end Go.Proofs.YtnodhkjgnegkcaaGreatDoor

/-
  A pack and a list of packs in plain words, and what reads as them in memory.
-/
namespace Go.Proofs.YtnodhkjgnegkcaaGreatDoor
open Go.RowKit

/-- A pack: its name, version and source, its sums, whether it is dev, what it needs. -/
structure Pk where
  name : List UInt8
  ver : List UInt8
  src : List UInt8
  sums : List Bd
  dev : Bool
  needs : List (List UInt8)
instance : Inhabited Pk := ⟨⟨[], [], [], [], false, []⟩⟩

/-- The six cells from o on in block g read as the pack p. -/
def PkAt (w : World) (g o : Nat) (p : Pk) : Prop := ∃ a b, w.cell? ⟨g, o, none⟩ = some (.string ⟨p.name.toArray⟩) ∧ w.cell? ⟨g, o + 1, none⟩ = some (.string ⟨p.ver.toArray⟩) ∧ w.cell? ⟨g, o + 2, none⟩ = some (.string ⟨p.src.toArray⟩) ∧ w.cell? ⟨g, o + 3, none⟩ = some a ∧ w.cell? ⟨g, o + 4, none⟩ = some (.bool p.dev) ∧ w.cell? ⟨g, o + 5, none⟩ = some b ∧ RdB w a p.sums ∧ RdS w b p.needs
/-- The value v reads as the packs ps. -/
def RdPs (w : World) (v : Value) (ps : List Pk) : Prop := ∃ A cap, v = .slice A ps.length cap ∧ (0 < ps.length → ∃ g off, A = some ⟨g, off, none⟩ ∧ g < w.heap.size ∧ ∀ k (h : k < ps.length), PkAt w g (off + k * 6) ps[k])
theorem PkAt.below {w w' : World} {g o : Nat} {p : Pk} (h : PkAt w g o p) (hb : Below w.heap.size w w') : PkAt w' g o p := by
  obtain ⟨a, b, h0, h1, h2, h3, h4, h5, ra, rb⟩ := h
  exact ⟨a, b, keepC hb h0, keepC hb h1, keepC hb h2, keepC hb h3, keepC hb h4, keepC hb h5, ra.below hb, rb.below hb⟩
theorem RdPs.below {w w' : World} {v : Value} {ps : List Pk} (h : RdPs w v ps) (hb : Below w.heap.size w w') : RdPs w' v ps := by
  obtain ⟨A, cap, hv, hc⟩ := h
  refine ⟨A, cap, hv, fun h0 => ?_⟩
  obtain ⟨g, off, hA, hg, hk⟩ := hc h0
  exact ⟨g, off, hA, Nat.lt_of_lt_of_le hg hb.size, fun k h => (hk k h).below hb⟩
theorem rdPs_nil (w : World) : RdPs w (.slice none 0 0) [] := ⟨none, 0, rfl, fun h => absurd h (by simp)⟩
/-- A part of a list that reads. -/
theorem RdPs.at {w : World} {A : Option Addr} {n cap : Nat} {ps : List Pk} (h : RdPs w (.slice A n cap) ps) (k : Nat) (hk : k < ps.length) : ∃ g off, A = some ⟨g, off, none⟩ ∧ g < w.heap.size ∧ PkAt w g (off + k * 6) ps[k] := by
  obtain ⟨A', ca', hv, ha⟩ := h
  simp only [Value.slice.injEq] at hv
  obtain ⟨rfl, _, rfl⟩ := hv
  obtain ⟨g, off, hA, hg, hc⟩ := ha (by omega)
  exact ⟨g, off, hA, hg, hc k hk⟩
theorem RdPs.len {w : World} {A : Option Addr} {n cap : Nat} {ps : List Pk} (h : RdPs w (.slice A n cap) ps) : n = ps.length := by
  obtain ⟨A', ca', hv, ha⟩ := h
  simp only [Value.slice.injEq] at hv
  exact hv.2.1
theorem RdS.slice {w : World} {v : Value} {ls : List (List UInt8)} (h : RdS w v ls) : ∃ A c, v = .slice A ls.length c := by
  obtain ⟨A, c, rfl, _⟩ := h; exact ⟨A, c, rfl⟩
theorem RdB.slice {w : World} {v : Value} {ls : List Bd} (h : RdB w v ls) : ∃ A c, v = .slice A ls.length c := by
  obtain ⟨A, c, rfl, _⟩ := h; exact ⟨A, c, rfl⟩

theorem cells6 {V : World} {B : Nat} {T : TypeId} {v0 v1 v2 v3 v4 v5 : Value} (h : V.heap[B]? = some (.cells #[v0, v1, v2, v3, v4, v5] T)) :
    V.cell? ⟨B, 0, none⟩ = some v0 ∧ V.cell? ⟨B, 1, none⟩ = some v1 ∧ V.cell? ⟨B, 2, none⟩ = some v2 ∧ V.cell? ⟨B, 3, none⟩ = some v3 ∧ V.cell? ⟨B, 4, none⟩ = some v4 ∧ V.cell? ⟨B, 5, none⟩ = some v5 := by
  simp [World.cell?, h]

/-! Weights. -/
def wB (bs : List Bd) : Nat := bs.length + smB bs
def wL (ls : List (List UInt8)) : Nat := ls.length + smL ls
def wP (p : Pk) : Nat := p.name.length + p.ver.length + p.src.length + wB p.sums + wL p.needs
def szP (left : Int) (p : Pk) : Int := if (wP p : Int) ≤ left then left - (wP p : Int) else -1
/-- How much is in packs. -/
def smP (ps : List Pk) : Nat := (ps.map wP).sum
def szPs (left : Int) (ps : List Pk) : Int := if (ps.length : Int) + (smP ps : Int) ≤ left then left - (ps.length : Int) - (smP ps : Int) else -1
theorem smP_snoc (ps : List Pk) (k : Nat) (h : k < ps.length) : smP (ps.take (k + 1)) = smP (ps.take k) + wP ps[k] := by
  unfold smP; rw [List.take_succ_eq_append_getElem h]; simp only [List.map_append, List.sum_append, List.map_cons, List.map_nil, List.sum_cons, List.sum_nil]; omega
theorem smP_le (ps : List Pk) (k : Nat) : smP (ps.take k) ≤ smP ps := by
  have : smP ps = smP (ps.take k) + smP (ps.drop k) := by unfold smP; rw [← List.sum_append, ← List.map_append, List.take_append_drop]
  omega
theorem smP_mem {ps : List Pk} : ∀ p ∈ ps, wP p ≤ smP ps := by
  induction ps with
  | nil => intro l h; cases h
  | cons a t ih =>
    intro l h
    have e : smP (a :: t) = wP a + smP t := by unfold smP; simp
    rcases List.mem_cons.1 h with rfl | h
    · omega
    · have := ih l h; omega
theorem szPs_yes {left : Int} {ps : List Pk} (h : (ps.length : Int) + (smP ps : Int) ≤ left) : szPs left ps = left - (ps.length : Int) - (smP ps : Int) := if_pos h
theorem szPs_no {left : Int} {ps : List Pk} (h : ¬ (ps.length : Int) + (smP ps : Int) ≤ left) : szPs left ps = -1 := if_neg h
theorem szP_yes {left : Int} {p : Pk} (h : (wP p : Int) ≤ left) : szP left p = left - (wP p : Int) := if_pos h
theorem szP_no {left : Int} {p : Pk} (h : ¬ (wP p : Int) ≤ left) : szP left p = -1 := if_neg h
/-- Every text and list of a pack is as long as a slice may be. -/
def PkFits (p : Pk) : Prop := p.name.length ≤ maxLen ∧ p.ver.length ≤ maxLen ∧ p.src.length ≤ maxLen ∧ p.sums.length ≤ maxLen ∧ (∀ b ∈ p.sums, b.1.length ≤ maxLen ∧ b.2.length ≤ maxLen) ∧ p.needs.length ≤ maxLen ∧ ∀ l ∈ p.needs, l.length ≤ maxLen
/-- A small pack; small packs. -/
def SmPk (p : Pk) : Prop := wP p ≤ 1048576
def SmPs (ps : List Pk) : Prop := ps.length + smP ps ≤ 1048576
theorem SmPs.get {ps : List Pk} (h : SmPs ps) (k : Nat) (hk : k < ps.length) : SmPk ps[k] := by
  have := smP_mem ps[k] (List.getElem_mem hk)
  unfold SmPs at h; unfold SmPk; omega
theorem SmPk.sums {p : Pk} (h : SmPk p) : SmB p.sums := by unfold SmPk wP wB wL at h; unfold SmB; omega
theorem SmPk.needs {p : Pk} (h : SmPk p) : p.needs.length + smL p.needs ≤ 1048576 := by unfold SmPk wP wB wL at h; omega
theorem SmPk.texts {p : Pk} (h : SmPk p) : p.name.length ≤ 1048576 ∧ p.ver.length ≤ 1048576 ∧ p.src.length ≤ 1048576 := by unfold SmPk wP wB wL at h; omega
end Go.Proofs.YtnodhkjgnegkcaaGreatDoor

/-
  A row of sums of the call's own.
-/
namespace Go.Proofs.YtnodhkjgnegkcaaGreatDoor
open Go.RowKit

/-- v is the call's own row of these sums. -/
def Sums (w : World) (base : Nat) (v : Value) (bs : List Bd) : Prop := w.ownsRow base 136 2 v bs.length (flat2 bs)

theorem suminfo : (Tryz.prog.info? 136).map (fun i => (i.zero, i.size, i.bytes)) = some (some (.agg #[.string ⟨#[]⟩, .string ⟨#[]⟩]), 2, 32) := by kernel_rfl

theorem Sums.form {w : World} {base : Nat} {v : Value} {l : List Bd} (h : Sums w base v l) : (v = .slice none 0 0 ∧ l = []) ∨ ∃ g cap, v = .slice (some ⟨g, 0, none⟩) l.length cap ∧ base ≤ g ∧ g < w.heap.size := by
  rcases h.2 with ⟨hv, hl⟩ | ⟨g, cap, cur, hv, hb, hh, _⟩
  · left
    refine ⟨hv, ?_⟩
    cases l with
    | nil => rfl
    | cons a t => simp at hl
  · right
    refine ⟨g, cap, hv, hb, ?_⟩
    rcases Nat.lt_or_ge g w.heap.size with hlt | hge
    · exact hlt
    · rw [Array.getElem?_eq_none hge] at hh; cases hh
theorem Sums.alloc {w : World} {base : Nat} {v : Value} {l : List Bd} (h : Sums w base v l) (o : Obj) : Sums (w.alloc o) base v l := World.ownsRow.alloc h o
theorem Sums.owned {w : World} {base : Nat} {v : Value} {l : List Bd} (h : Sums w base v l) : ∀ g, v.ownBlock = some g → base ≤ g := by
  intro g hg
  rcases h.form with ⟨rfl, _⟩ | ⟨g', cap, rfl, hb, _⟩
  · simp [Value.ownBlock] at hg
  · simp [Value.ownBlock] at hg; omega
theorem Sums.below {w w' : World} {base : Nat} {v : Value} {l : List Bd} (h : Sums w base v l) (hb : Below w.heap.size w w') : Sums w' base v l :=
  World.ownsRow.kept h (row := none) ⟨hb.os, hb.tape, hb.output, hb.size, fun i hi _ => hb.block i hi⟩ (by
    rcases h.form with ⟨rfl, _⟩ | ⟨g, cap, rfl, _, _⟩
    · left; rfl
    · right; simp [Value.ownBlock])
theorem Sums.cell {w : World} {base : Nat} {l : List Bd} {g n cap : Nat} (h : Sums w base (.slice (some ⟨g, 0, none⟩) n cap) l) (k : Nat) (hk : k < l.length) : w.cell? ⟨g, k * 2, none⟩ = some (sv l[k].1) ∧ w.cell? ⟨g, k * 2 + 1, none⟩ = some (sv l[k].2) := by
  have hadd : ∀ j, (⟨g, 0, none⟩ : Addr).add j = ⟨g, j, none⟩ := fun j => by unfold Addr.add; split <;> simp_all
  obtain ⟨e0, e1⟩ := flat2_get l k hk
  have h0 := World.ownsRow.cells (g := g) h rfl (k * 2) _ e0
  have h1 := World.ownsRow.cells (g := g) h rfl (k * 2 + 1) _ e1
  rw [hadd] at h0 h1
  exact ⟨h0, h1⟩
theorem RdB.of_sums {w : World} {base : Nat} {v : Value} {bs : List Bd} (h : Sums w base v bs) : RdB w v bs := by
  rcases h.form with ⟨rfl, rfl⟩ | ⟨g, cap, rfl, _, hg⟩
  · exact ⟨none, 0, rfl, fun h => absurd h (by simp)⟩
  · exact ⟨_, cap, rfl, fun _ => ⟨g, 0, rfl, hg, fun k hk => by rw [Nat.zero_add]; exact h.cell k hk⟩⟩
theorem Sums.set {w : World} {base g cap : Nat} {l : List Bd} (h : Sums w base (.slice (some ⟨g, 0, none⟩) l.length cap) l) (k : Nat) (x : Bd) :
    Sums ((w.setCell ⟨g, k * 2, none⟩ (sv x.1)).setCell ⟨g, k * 2 + 1, none⟩ (sv x.2)) base (.slice (some ⟨g, 0, none⟩) (l.set k x).length cap) (l.set k x) := by
  unfold Sums at h ⊢
  rw [List.length_set, ← flat2_set]
  exact (World.ownsRow.stored (World.ownsRow.stored h (k * 2) (sv x.1)).1 (k * 2 + 1) (sv x.2)).1
end Go.Proofs.YtnodhkjgnegkcaaGreatDoor

/-
  The laws' own comparison of lists of sums.
-/
namespace Go.Proofs.YtnodhkjgnegkcaaGreatDoor
open Go.RowKit

set_option maxRecDepth 100000 in
set_option maxHeartbeats 1000000 in
theorem eqSum_same (b c : ByteArray) (w : World) :
    Calls Tryz.prog 207 #[.agg #[.string b, .string c], .agg #[.string b, .string c]] w fun e w' => e = .returned (.bool true) ∧ Below w.heap.size w w' := by
  go_enter Tryz.func207, Tryz.ntmps207
  go_wp2_with fail
  go_ret
  exact ⟨rfl, ((Below.refl _ _).alloc (Nat.le_refl _) _).alloc (by simp) _⟩

set_option maxRecDepth 100000 in
set_option maxHeartbeats 1000000 in
theorem eqSumS_same (va vb : Value) (bs : List Bd) (w : World) (ha : RdB w va bs) (hb : RdB w vb bs) (hl : bs.length ≤ 16777216) :
    Calls Tryz.prog 163 #[va, vb] w fun e w' => e = .returned (.bool true) ∧ Below w.heap.size w w' := by
  have HA := Lib.hid ha
  have HB := Lib.hid hb
  obtain ⟨A, ca, rfl, ha⟩ := ha
  obtain ⟨B, cb, rfl, hb⟩ := hb
  have q0 : ((bs.length : Int) != (bs.length : Int)) = false := int_bne_false rfl
  clear ha hb
  go_enter Tryz.func163, Tryz.ntmps163
  go_wp2_with fail
  go_loopw [5] (fun i wr => ∃ k : Nat, k ≤ bs.length ∧ i = .int .i64 k ∧ Below w.heap.size w wr) (fun i _ => bs.length - (intOf i).toNat)
  case atStart => exact ⟨0, Nat.zero_le _, rfl, Below.refl _ _⟩
  case round =>
    obtain ⟨k, hk, rfl, hw⟩ := hrel
    by_cases hlt : k < bs.length
    · obtain ⟨A', ca', hv, ha⟩ := HA.out.below hw
      simp only [Value.slice.injEq] at hv
      obtain ⟨rfl, _, rfl⟩ := hv
      obtain ⟨B', cb', hv, hb⟩ := HB.out.below hw
      simp only [Value.slice.injEq] at hv
      obtain ⟨rfl, _, rfl⟩ := hv
      obtain ⟨g, off, rfl, _, hca⟩ := ha (by omega)
      obtain ⟨g2, off2, rfl, _, hcb⟩ := hb (by omega)
      have d1 : wr.cell? ⟨g, off + k * 2, none⟩ = some (.string ⟨bs[k].1.toArray⟩) := (hca k hlt).1
      have d2 : wr.cell? ⟨g, off + k * 2 + 1, none⟩ = some (.string ⟨bs[k].2.toArray⟩) := (hca k hlt).2
      have d3 : wr.cell? ⟨g2, off2 + k * 2, none⟩ = some (.string ⟨bs[k].1.toArray⟩) := (hcb k hlt).1
      have d4 : wr.cell? ⟨g2, off2 + k * 2 + 1, none⟩ = some (.string ⟨bs[k].2.toArray⟩) := (hcb k hlt).2
      have k0 : (0 : Int) ≤ (k : Int) := by omega
      have k1 : (k : Int) < (bs.length : Int) := by omega
      clear ha hb hca hcb
      go_wp2_with fail
      go_region_with (first | (go_at_call 207; refine (eqSum_same _ _ _).mono ?_; rintro e w1 ⟨rfl, hb1⟩))
      all_goals
        go_wp2_with fail
        go_roundw
        case rel => exact ⟨k + 1, by omega, by go_num, hw.trans ((below_drewN _ _ 1).trans (hb1.mono (by first | exact Nat.le_refl _ | exact hw.size)))⟩
        case measure => simp [intOf]; omega
    · go_wp2_with fail
      go_ret
      exact ⟨rfl, hw⟩
end Go.Proofs.YtnodhkjgnegkcaaGreatDoor

/-
  Rows of sums of the call's own, and the laws' own helpers on lists of sums: szSumS counts them, toSumS copies them, eqSumS compares them.
-/
namespace Go.Proofs.YtnodhkjgnegkcaaGreatDoor
open Go.RowKit

set_option maxRecDepth 100000 in
set_option maxHeartbeats 1000000 in
theorem szSum_any (b c : ByteArray) (left : Int) (w : World) (h0 : 0 ≤ left) (h1 : left ≤ 1048576) (hb : b.size ≤ maxLen) (hc : c.size ≤ maxLen) :
    Calls Tryz.prog 201 #[.agg #[.string b, .string c], .int .i64 left] w fun e w' => e = .returned (.int .i64 (off2 left b.size c.size)) ∧ Below w.heap.size w w' := by
  unfold maxLen at hb hc
  by_cases hx : left - (b.size : Int) < 0
  · have HX : Hid (off2 left b.size c.size = -1) := Lib.hid (by unfold off2; rw [if_pos hx])
    go_enter Tryz.func201, Tryz.ntmps201
    go_wp2
    go_ret
    exact ⟨ret_int HX.out.symm, (Below.refl _ _).alloc (Nat.le_refl _) _⟩
  · by_cases hy : left - (b.size : Int) - (c.size : Int) < 0
    · have HX : Hid (off2 left b.size c.size = -1) := Lib.hid (by unfold off2; rw [if_neg hx, if_pos hy])
      go_enter Tryz.func201, Tryz.ntmps201
      go_wp2
      go_ret
      exact ⟨ret_int HX.out.symm, (Below.refl _ _).alloc (Nat.le_refl _) _⟩
    · have HX : Hid (off2 left b.size c.size = left - b.size - c.size) := Lib.hid (by unfold off2; rw [if_neg hx, if_neg hy])
      go_enter Tryz.func201, Tryz.ntmps201
      go_wp2
      go_ret
      exact ⟨ret_int HX.out.symm, (Below.refl _ _).alloc (Nat.le_refl _) _⟩

set_option maxRecDepth 100000 in
set_option maxHeartbeats 1000000 in
theorem szSumS_any (v : Value) (bs : List Bd) (left : Int) (w : World) (hr : RdB w v bs) (h0 : 0 ≤ left) (h1 : left ≤ 1048576) (hn : bs.length ≤ maxLen) (hm : ∀ b ∈ bs, b.1.length ≤ maxLen ∧ b.2.length ≤ maxLen) :
    Calls Tryz.prog 157 #[v, .int .i64 left] w fun e w' => e = .returned (.int .i64 (szB left bs)) ∧ Below w.heap.size w w' := by
  have HR := Lib.hid hr
  obtain ⟨A, ca, rfl, ha⟩ := hr
  have HM := Lib.hid hm
  clear hm ha
  unfold maxLen at hn
  by_cases hl : (bs.length : Int) ≤ left
  · go_enter Tryz.func157, Tryz.ntmps157
    go_wp2
    go_loopw [1, 5] (fun m i wr => ∃ (k : Nat) (z : Int), k ≤ bs.length ∧ i = .int .i64 k ∧ m = .int .i64 z ∧ 0 ≤ z ∧ z ≤ 1048576 ∧ Hid (z = left - (bs.length : Int) - (smB (bs.take k) : Int)) ∧ Below w.heap.size w wr) (fun _ i _ => bs.length - (intOf i).toNat)
    case atStart => exact ⟨0, _, Nat.zero_le _, rfl, rfl, by omega, by omega, Lib.hid (by simp [smB]), Below.refl _ _⟩
    case round =>
      obtain ⟨k, z, hk, rfl, rfl, z0, z1, HZ, hb⟩ := hrel
      by_cases hlt : k < bs.length
      · obtain ⟨A', ca', hv, ha⟩ := HR.out.below hb
        simp only [Value.slice.injEq] at hv
        obtain ⟨rfl, _, rfl⟩ := hv
        obtain ⟨g, off, rfl, _, hca⟩ := ha (by omega)
        obtain ⟨x, hx⟩ : ∃ x : ByteArray, x = ⟨bs[k].1.toArray⟩ := ⟨_, rfl⟩
        obtain ⟨y, hy⟩ : ∃ y : ByteArray, y = ⟨bs[k].2.toArray⟩ := ⟨_, rfl⟩
        have d1 : wr.cell? ⟨g, off + k * 2, none⟩ = some (.string x) := by rw [hx]; exact (hca k hlt).1
        have d2 : wr.cell? ⟨g, off + k * 2 + 1, none⟩ = some (.string y) := by rw [hy]; exact (hca k hlt).2
        have HX : Hid (x.size = bs[k].1.length) := Lib.hid (by rw [hx]; exact size_of _)
        have HY : Hid (y.size = bs[k].2.length) := Lib.hid (by rw [hy]; exact size_of _)
        have HC := Lib.hid (fun W => szSum_any x y z W z0 z1 (by have := (HM.out bs[k] (List.getElem_mem hlt)).1; have := HX.out; omega) (by have := (HM.out bs[k] (List.getElem_mem hlt)).2; have := HY.out; omega))
        have k0 : (0 : Int) ≤ (k : Int) := by omega
        have k1 : (k : Int) < (bs.length : Int) := by omega
        have HS := Lib.hid (smB_snoc bs k hlt)
        have HT := Lib.hid (smB_le bs (k + 1))
        clear ha hca hx hy
        by_cases hz : z - (x.size : Int) - (y.size : Int) < 0
        · have HO : Hid (off2 z x.size y.size = -1) := Lib.hid (by unfold off2; by_cases hq : z - (x.size : Int) < 0; exact if_pos hq; rw [if_neg hq]; exact if_pos hz)
          have HW : Hid (szB left bs = -1) := Lib.hid (szB_no (by have := HZ.out; have := HS.out; have := HT.out; have := HX.out; have := HY.out; omega))
          go_wp2_with fail
          refine (HC.out _).mono ?_
          rw [HO.out]
          rintro e w1 ⟨rfl, hb1⟩
          have B1 := hb.trans (hb1.mono hb.size)
          go_wp2_with fail
          go_ret
          exact ⟨ret_int HW.out.symm, B1⟩
        · have HO : Hid (off2 z x.size y.size = z - (x.size : Int) - (y.size : Int)) := Lib.hid (by unfold off2; rw [if_neg (by omega), if_neg hz])
          go_wp2_with fail
          refine (HC.out _).mono ?_
          rw [HO.out]
          rintro e w1 ⟨rfl, hb1⟩
          have B1 := hb.trans (hb1.mono hb.size)
          go_wp2_with fail
          go_roundw
          case rel => exact ⟨k + 1, _, by omega, by go_num, rfl, by omega, by omega, Lib.hid (by have := HZ.out; have := HS.out; have := HX.out; have := HY.out; omega), B1⟩
          case measure => simp [intOf]; omega
      · have HX : Hid (szB left bs = z) := Lib.hid (by
          have hz := HZ.out
          rw [List.take_of_length_le (by omega)] at hz
          rw [szB_yes (by omega)]; omega)
        go_wp2_with fail
        go_ret
        exact ⟨ret_int HX.out.symm, hb⟩
  · have HX : Hid (szB left bs = -1) := Lib.hid (szB_no (by omega))
    go_enter Tryz.func157, Tryz.ntmps157
    go_wp2
    go_ret
    exact ⟨ret_int HX.out.symm, Below.refl _ _⟩

set_option maxRecDepth 100000 in
set_option maxHeartbeats 1000000 in
theorem toSum_any (b c : ByteArray) (w : World) :
    Calls Tryz.prog 202 #[.agg #[.string b, .string c]] w fun e w' => e = .returned (.agg #[.string b, .string c]) ∧ Below w.heap.size w w' := by
  go_enter Tryz.func202, Tryz.ntmps202
  go_wp2_with fail
  refine bodyPost_ret (v := .agg #[.string b, .string c]) ?_ rfl ⟨rfl, ?_⟩
  · simp [results, Tryz.results202, go_sem]
  · exact (((Below.refl _ _).alloc (Nat.le_refl _) _).alloc (by simp) _).alloc (by simp; omega) _

theorem sums_made {w : World} {base : Nat} {v : Value} {n : Nat} (h : w.ownsRow base 136 2 v n (madeCells (Value.agg #[.string ⟨#[]⟩, .string ⟨#[]⟩]).cells (n * 2)).toList) : Sums w base v (List.replicate n ([], [])) := by
  unfold Sums
  have e : (madeCells (Value.agg #[.string ⟨#[]⟩, .string ⟨#[]⟩]).cells (n * 2)).toList = flat2 (List.replicate n ([], [])) := by
    rw [flat2_rep]
    apply List.ext_getElem?
    intro j
    by_cases hj : j < n * 2
    · rcases Nat.mod_two_eq_zero_or_one j with h2 | h2 <;> simp [madeCells, hj, sv, Value.cells, h2]
    · simp [madeCells, hj]
  rw [← e]
  simpa using h

set_option maxRecDepth 100000 in
set_option maxHeartbeats 1000000 in
theorem toSumS_any (v : Value) (bs : List Bd) (w : World) (hr : RdB w v bs) (hl : bs.length ≤ 1048576) :
    Calls Tryz.prog 160 #[v] w fun e w' => ∃ g cap, e = .returned (.slice (some ⟨g, 0, none⟩) bs.length cap) ∧ Sums w' w.heap.size (.slice (some ⟨g, 0, none⟩) bs.length cap) bs ∧ Below w.heap.size w w' := by
  have HR := Lib.hid hr
  obtain ⟨A, ca, rfl, ha⟩ := hr
  obtain ⟨i0, hi, hz0, hz1, hz2⟩ := info_parts suminfo
  go_enter Tryz.func160, Tryz.ntmps160
  go_wp2_with (at_make; refine wpList_make_full _ rfl _ _ 76 rfl w.heap.size 136 i0 (.agg #[.string ⟨#[]⟩, .string ⟨#[]⟩]) 2 Tryz.underlying76 hi hz0 hz1 .i64 .i64 _ _ bs.length rfl rfl rfl rfl (by rw [hz2]; omega) (by unfold maxLen; omega) (Nat.le_refl _) ?_; intro w1 hown1 hg1)
  have hS1 := sums_made hown1
  have hb1 : Below w.heap.size w w1 := (Below.refl _ _).grown hg1 (Nat.le_refl _) (by simp)
  clear hown1 hg1 hi hz0 hz1 hz2 ha
  go_loopw [4] (fun i wr => ∃ k : Nat, k ≤ bs.length ∧ i = .int .i64 k ∧ Sums wr w.heap.size (.slice (some ⟨w.heap.size, 0, none⟩) bs.length bs.length) (tkB k bs) ∧ Below w.heap.size w wr) (fun i _ => bs.length - (intOf i).toNat)
  case atStart => exact ⟨0, Nat.zero_le _, rfl, by rw [tkB_zero]; exact hS1, hb1⟩
  case round =>
    obtain ⟨k, hk, rfl, hS, hb⟩ := hrel
    by_cases hlt : k < bs.length
    · obtain ⟨A', ca', hv, ha⟩ := HR.out.below hb
      simp only [Value.slice.injEq] at hv
      obtain ⟨rfl, _, rfl⟩ := hv
      obtain ⟨g, off, rfl, _, hca⟩ := ha (by omega)
      have d1 : wr.cell? ⟨g, off + k * 2, none⟩ = some (.string ⟨bs[k].1.toArray⟩) := (hca k hlt).1
      have d2 : wr.cell? ⟨g, off + k * 2 + 1, none⟩ = some (.string ⟨bs[k].2.toArray⟩) := (hca k hlt).2
      have k0 : (0 : Int) ≤ (k : Int) := by omega
      have k1 : (k : Int) < (bs.length : Int) := by omega
      clear ha hca hS1 hb1
      go_wp2_with fail
      refine (toSum_any _ _ _).mono ?_
      rintro e w2 ⟨rfl, hb2⟩
      have hS2 := hS.below hb2
      have hS' : Sums w2 w.heap.size (.slice (some ⟨w.heap.size, 0, none⟩) (tkB k bs).length bs.length) (tkB k bs) := by rw [tkB_len k bs hk]; exact hS2
      obtain ⟨c2, c3⟩ := hS2.cell k (by rw [tkB_len k bs hk]; exact hlt)
      have f2 : ∀ j, w2.frozen? ⟨w.heap.size, j, none⟩ = false := fun j => World.ownsRow.frozenAt hS' j
      have B2 := hb.trans (hb2.mono hb.size)
      clear hS hb hb2 d1 d2
      go_wp2_with fail
      go_roundw
      case rel => exact ⟨k + 1, by omega, by go_num, by have := hS'.set k bs[k]; rw [tkB_set k bs hlt, tkB_len (k + 1) bs (by omega)] at this; exact this, (B2.setCell (p := ⟨w.heap.size, k * 2, none⟩) (Nat.le_refl _) _).setCell (p := ⟨w.heap.size, k * 2 + 1, none⟩) (Nat.le_refl _) _⟩
      case measure => simp [intOf]; omega
    · obtain rfl : k = bs.length := by omega
      rw [tkB_all] at hS
      clear hS1 hb1
      go_wp2_with fail
      go_ret
      exact ⟨_, _, rfl, hS, hb⟩

end Go.Proofs.YtnodhkjgnegkcaaGreatDoor

/-
  laws.eqStringS: a list of texts is the same as itself.
-/
namespace Go.Proofs.YtnodhkjgnegkcaaGreatDoor
open Go.RowKit

set_option maxRecDepth 100000 in
set_option maxHeartbeats 1000000 in
theorem eqStringS_same (va vb : Value) (ls : List (List UInt8)) (w : World) (ha : RdS w va ls) (hb : RdS w vb ls) (hl : ls.length ≤ 16777216) :
    Calls Tryz.prog 25 #[va, vb] w fun e w' => e = .returned (.bool true) ∧ ∃ n, w' = w.drewN n := by
  obtain ⟨A, ca, rfl, ha⟩ := ha
  obtain ⟨B, cb, rfl, hb⟩ := hb
  have q0 : ((ls.length : Int) != (ls.length : Int)) = false := int_bne_false rfl
  go_enter Tryz.func25, Tryz.ntmps25
  go_wp2
  go_loopw [5] (fun i wr => ∃ k n : Nat, k ≤ ls.length ∧ i = .int .i64 k ∧ wr = w.drewN n) (fun i _ => ls.length - (intOf i).toNat)
  case atStart => exact ⟨0, 0, Nat.zero_le _, rfl, rfl⟩
  case round =>
    obtain ⟨k, n, hk, rfl, rfl⟩ := hrel
    by_cases hlt : k < ls.length
    · obtain ⟨g, off, rfl, _, hca⟩ := ha (by omega)
      obtain ⟨g2, off2, rfl, _, hcb⟩ := hb (by omega)
      have d1 : w.cell? ⟨g, off + k, none⟩ = some (.string ⟨ls[k].toArray⟩) := hca k hlt
      have d2 : w.cell? ⟨g2, off2 + k, none⟩ = some (.string ⟨ls[k].toArray⟩) := hcb k hlt
      have k0 : (0 : Int) ≤ (k : Int) := by omega
      have k1 : (k : Int) < (ls.length : Int) := by omega
      clear ha hb hca hcb
      go_wp2_with fail
      go_quiet (fail)
      go_wp2_with fail
      go_roundw
      case rel => exact ⟨k + 1, _, by omega, by go_num, rfl⟩
      case measure => simp [intOf]; omega
    · clear ha hb
      go_wp2_with fail
      go_ret
      exact ⟨rfl, n, rfl⟩
end Go.Proofs.YtnodhkjgnegkcaaGreatDoor

/-
  The laws' own helpers on a pack: szPack counts it, toPack copies it, eqPack compares it with itself.
-/
namespace Go.Proofs.YtnodhkjgnegkcaaGreatDoor
open Go.RowKit

set_option maxRecDepth 100000 in
set_option maxHeartbeats 2000000 in
theorem szPack_any (p : Pk) (a b : Value) (left : Int) (w : World) (ha : RdB w a p.sums) (hb : RdS w b p.needs) (h0 : 0 ≤ left) (h1 : left ≤ 1048576) (hf : PkFits p) :
    Calls Tryz.prog 102 #[.agg #[.string ⟨p.name.toArray⟩, .string ⟨p.ver.toArray⟩, .string ⟨p.src.toArray⟩, a, .bool p.dev, b], .int .i64 left] w fun e w' => e = .returned (.int .i64 (szP left p)) ∧ Below w.heap.size w w' := by
  obtain ⟨f1, f2, f3, f4, f5, f6, f7⟩ := hf
  have HA := Lib.hid (fun (W : World) (h : Below w.heap.size w W) (z : Int) (z0 : 0 ≤ z) (z1 : z ≤ 1048576) => szSumS_any a p.sums z W (ha.below h) z0 z1 f4 f5)
  have HB := Lib.hid (fun (W : World) (h : Below w.heap.size w W) (z : Int) (z0 : 0 ≤ z) (z1 : z ≤ 1048576) => szStringS_any b p.needs z W (hb.below h) z0 z1 f6 f7)
  obtain ⟨A, ca, rfl⟩ := ha.slice
  obtain ⟨B, cb, rfl⟩ := hb.slice
  obtain ⟨x, hx⟩ : ∃ x : ByteArray, x = ⟨p.name.toArray⟩ := ⟨_, rfl⟩
  obtain ⟨y, hy⟩ : ∃ y : ByteArray, y = ⟨p.ver.toArray⟩ := ⟨_, rfl⟩
  obtain ⟨s, hs⟩ : ∃ s : ByteArray, s = ⟨p.src.toArray⟩ := ⟨_, rfl⟩
  have sx : x.size = p.name.length := by rw [hx]; exact size_of _
  have sy : y.size = p.ver.length := by rw [hy]; exact size_of _
  have ss : s.size = p.src.length := by rw [hs]; exact size_of _
  have HW : Hid (wP p = x.size + y.size + s.size + (p.sums.length + smB p.sums) + (p.needs.length + smL p.needs)) := Lib.hid (by rw [sx, sy, ss]; rfl)
  rw [← hx, ← hy, ← hs]
  have hx2 : x.size ≤ 9223372036854775807 := by unfold maxLen at f1; omega
  have hy2 : y.size ≤ 9223372036854775807 := by unfold maxLen at f2; omega
  have hs2 : s.size ≤ 9223372036854775807 := by unfold maxLen at f3; omega
  have B0 : Below w.heap.size w (w.alloc (.cells #[.string x, .string y, .string s, .slice A p.sums.length ca, .bool p.dev, .slice B p.needs.length cb] 132)) := (Below.refl _ _).alloc (Nat.le_refl _) _
  have b0 := heap_alloc_new w (.cells #[.string x, .string y, .string s, .slice A p.sums.length ca, .bool p.dev, .slice B p.needs.length cb] 132)
  clear ha hb f1 f2 f3 f4 f5 f6 f7 sx sy ss hx hy hs
  by_cases q1 : left - (x.size : Int) < 0
  · have HX : Hid (szP left p = -1) := Lib.hid (szP_no (by have := HW.out; omega))
    go_enter Tryz.func102, Tryz.ntmps102
    go_wp2_with fail
    go_ret
    exact ⟨ret_int HX.out.symm, B0⟩
  by_cases q2 : left - (x.size : Int) - (y.size : Int) < 0
  · have HX : Hid (szP left p = -1) := Lib.hid (szP_no (by have := HW.out; omega))
    go_enter Tryz.func102, Tryz.ntmps102
    go_wp2_with fail
    go_ret
    exact ⟨ret_int HX.out.symm, B0⟩
  by_cases q3 : left - (x.size : Int) - (y.size : Int) - (s.size : Int) < 0
  · have HX : Hid (szP left p = -1) := Lib.hid (szP_no (by have := HW.out; omega))
    go_enter Tryz.func102, Tryz.ntmps102
    go_wp2_with fail
    go_ret
    exact ⟨ret_int HX.out.symm, B0⟩
  obtain ⟨z, HZ⟩ : ∃ z, Hid (szB (left - (x.size : Int) - (y.size : Int) - (s.size : Int)) p.sums = z) := ⟨_, Lib.hid rfl⟩
  by_cases q4 : z < 0
  · have HX : Hid (szP left p = -1) := Lib.hid (szP_no (by have := HW.out; have := HZ.out; unfold szB at this; split at this <;> omega))
    go_enter Tryz.func102, Tryz.ntmps102
    go_wp2_with fail
    refine (HA.out _ B0 _ (by omega) (by omega)).mono ?_
    rw [HZ.out]
    rintro e w1 ⟨rfl, hb1⟩
    have B1 := B0.trans (hb1.mono B0.size)
    go_wp2_with fail
    go_ret
    exact ⟨ret_int HX.out.symm, B1⟩
  have hz : z ≤ 1048576 := by have := HZ.out; unfold szB at this; split at this <;> omega
  have HY : Hid (z = left - (x.size : Int) - (y.size : Int) - (s.size : Int) - ((p.sums.length : Int) + smB p.sums)) := Lib.hid (by have := HZ.out; unfold szB at this; split at this <;> omega)
  obtain ⟨u, HU⟩ : ∃ u, Hid (szI z p.needs = u) := ⟨_, Lib.hid rfl⟩
  by_cases q5 : u < 0
  · have HX : Hid (szP left p = -1) := Lib.hid (szP_no (by have := HW.out; have := HY.out; have := HU.out; unfold szI at this; split at this <;> omega))
    go_enter Tryz.func102, Tryz.ntmps102
    go_wp2_with fail
    refine (HA.out _ B0 _ (by omega) (by omega)).mono ?_
    rw [HZ.out]
    rintro e w1 ⟨rfl, hb1⟩
    have B1 := B0.trans (hb1.mono B0.size)
    have c1 := cells6 (keepB b0 hb1)
    go_wp2_with fail
    refine (HB.out _ B1 _ (by omega) (by omega)).mono ?_
    rw [HU.out]
    rintro e w2 ⟨rfl, rfl⟩
    go_wp2_with fail
    go_ret
    exact ⟨ret_int HX.out.symm, B1⟩
  have HX : Hid (szP left p = u) := Lib.hid (by
    have h1 := HW.out; have h2 := HY.out; have h3 := HU.out
    unfold szI at h3
    split at h3
    · rw [szP_yes (by omega)]; omega
    · omega)
  go_enter Tryz.func102, Tryz.ntmps102
  go_wp2_with fail
  refine (HA.out _ B0 _ (by omega) (by omega)).mono ?_
  rw [HZ.out]
  rintro e w1 ⟨rfl, hb1⟩
  have B1 := B0.trans (hb1.mono B0.size)
  have c1 := cells6 (keepB b0 hb1)
  go_wp2_with fail
  refine (HB.out _ B1 _ (by omega) (by omega)).mono ?_
  rw [HU.out]
  rintro e w2 ⟨rfl, rfl⟩
  go_wp2_with fail
  go_ret
  exact ⟨ret_int HX.out.symm, B1⟩
end Go.Proofs.YtnodhkjgnegkcaaGreatDoor

/-
  The laws' own helpers on a pack: toPack copies it, eqPack compares it with itself.
-/
namespace Go.Proofs.YtnodhkjgnegkcaaGreatDoor
open Go.RowKit

theorem Sums.other {w : World} {base g n cap : Nat} {l : List Bd} (h : Sums w base (.slice (some ⟨g, 0, none⟩) n cap) l) (b o : Nat) (x : Value) (hne : b ≠ g) : Sums (w.setCell ⟨b, o, none⟩ x) base (.slice (some ⟨g, 0, none⟩) n cap) l :=
  World.ownsRow.kept h (row := some b) ⟨rfl, rfl, rfl, by simp, fun k _ hk => heap_setCell_other w ⟨b, o, none⟩ k x (fun e => hk (by simp [e]))⟩ (by right; simp [Value.ownBlock]; omega)
theorem Sums.weaken {w : World} {base base' : Nat} {v : Value} {l : List Bd} (h : Sums w base v l) (hb : base' ≤ base) : Sums w base' v l := by
  refine ⟨h.1, ?_⟩
  rcases h.2 with h | ⟨g, cap, cur, hv, hg, hh, hr⟩
  · exact .inl h
  · exact .inr ⟨g, cap, cur, hv, Nat.le_trans hb hg, hh, hr⟩

theorem frozen6 {V : World} {B : Nat} {T : TypeId} {v0 v1 v2 v3 v4 v5 : Value} (h : V.heap[B]? = some (.cells #[v0, v1, v2, v3, v4, v5] T)) : ∀ o, V.frozen? ⟨B, o, none⟩ = false := by
  intro o; simp [World.frozen?, h]
theorem Sums.block_lt {w : World} {base g n cap : Nat} {l : List Bd} (h : Sums w base (.slice (some ⟨g, 0, none⟩) n cap) l) : g < w.heap.size := by
  rcases h.form with ⟨hv, _⟩ | ⟨g', cap', hv, _, hl⟩
  · simp at hv
  · simp only [Value.slice.injEq, Option.some.injEq, Addr.mk.injEq] at hv; omega
theorem Sums.lo {w : World} {base g n cap : Nat} {l : List Bd} (h : Sums w base (.slice (some ⟨g, 0, none⟩) n cap) l) : base ≤ g := h.owned g rfl

set_option maxRecDepth 100000 in
set_option maxHeartbeats 2000000 in
theorem toPack_any (p : Pk) (a b : Value) (w : World) (ha : RdB w a p.sums) (hb : RdS w b p.needs) (hp : SmPk p) :
    Calls Tryz.prog 106 #[.agg #[.string ⟨p.name.toArray⟩, .string ⟨p.ver.toArray⟩, .string ⟨p.src.toArray⟩, a, .bool p.dev, b]] w fun e w' => ∃ g1 c1 g2 c2, e = .returned (.agg #[.string ⟨p.name.toArray⟩, .string ⟨p.ver.toArray⟩, .string ⟨p.src.toArray⟩, .slice (some ⟨g1, 0, none⟩) p.sums.length c1, .bool p.dev, .slice (some ⟨g2, 0, none⟩) p.needs.length c2]) ∧ Sums w' w.heap.size (.slice (some ⟨g1, 0, none⟩) p.sums.length c1) p.sums ∧ Strs w' w.heap.size (.slice (some ⟨g2, 0, none⟩) p.needs.length c2) p.needs ∧ g1 ≠ g2 ∧ Below w.heap.size w w' := by
  have HA := Lib.hid (fun (W : World) (h : Below w.heap.size w W) => toSumS_any a p.sums W (ha.below h) (by have := hp.sums; unfold SmB at this; omega))
  have HB := Lib.hid (fun (W : World) (h : Below w.heap.size w W) => toStringS_any b p.needs W (hb.below h) (by have := hp.needs; omega))
  obtain ⟨A, ca, rfl⟩ := ha.slice
  obtain ⟨B, cb, rfl⟩ := hb.slice
  clear ha hb
  go_enter Tryz.func106, Tryz.ntmps106
  go_wp2_with fail
  refine (HA.out _ ?_).mono ?_
  · exact (((Below.refl _ _).alloc (Nat.le_refl _) _).alloc (by simp) _).alloc (by simp; omega) _
  rintro e w1 ⟨g1, c1, rfl, hS1, hb1⟩
  have b0 := keepB (keepA (keepA (heap_alloc_new w _) _) _) hb1
  have b1 := keepB (keepA (heap_new (n := w.heap.size + 1) (by simp) _) _) hb1
  have b2 := keepB (heap_new (n := w.heap.size + 1 + 1) (by simp) _) hb1
  have B1 : Below w.heap.size w w1 := ((((Below.refl _ w).alloc (Nat.le_refl _) _).alloc (by simp) _).alloc (by simp; omega) _).trans (hb1.mono (by simp; omega))
  have hz1 : w.heap.size + 3 ≤ w1.heap.size := by have := hb1.size; simp at this; omega
  have hg1 : w.heap.size + 3 ≤ g1 := by have := hS1.lo; simp at this; omega
  have hS1' := hS1.weaken (base' := w.heap.size) (by simp; omega)
  have c0 := cells6 b0
  have c2 := cells6 b2
  have f2 := frozen6 b2
  clear hb1 hS1
  go_wp2_with fail
  refine (HB.out _ ((B1.setCell (p := ⟨w.heap.size + 1 + 1, 3, none⟩) (by simp; omega) _).setCell (p := ⟨w.heap.size + 1 + 1, 4, none⟩) (by simp; omega) _)).mono ?_
  rintro e w2 ⟨g2, c2', rfl, hS2, hb2⟩
  have d0 := keepB (heap_other (heap_other b0 _ (by omega : w.heap.size + 1 + 1 ≠ w.heap.size)) _ (by omega)) hb2
  have d1 := keepB (heap_other (heap_other b1 _ (by omega : w.heap.size + 1 + 1 ≠ w.heap.size + 1)) _ (by omega)) hb2
  have d2 := keepB (heap_setN (heap_setN b2 _) _) hb2
  have B2 : Below w.heap.size w w2 := ((B1.setCell (p := ⟨w.heap.size + 1 + 1, 3, none⟩) (by simp; omega) _).setCell (p := ⟨w.heap.size + 1 + 1, 4, none⟩) (by simp; omega) _).trans (hb2.mono (by simp; omega))
  have hg2 : w1.heap.size ≤ g2 := by have := hS2.lo; simpa using this
  have hl1 : g1 < w1.heap.size := hS1'.block_lt
  have hS3 := ((hS1'.other (w.heap.size + 1 + 1) 3 (.slice (some ⟨g1, 0, none⟩) p.sums.length c1) (by omega)).other (w.heap.size + 1 + 1) 4 (.bool p.dev) (by omega)).below hb2
  have hS4 := hS2.weaken (base' := w.heap.size) (by simp; omega)
  clear hb2 hS2 hS1' b0 b1 b2 c0 c2 f2 B1
  have e0 := cells6 d0
  have e1 := cells6 d1
  have e2 := cells6 d2
  have f1 := frozen6 d1
  have f2 := frozen6 d2
  go_wp2_with fail
  refine bodyPost_ret (v := .agg #[.string ⟨p.name.toArray⟩, .string ⟨p.ver.toArray⟩, .string ⟨p.src.toArray⟩, .slice (some ⟨g1, 0, none⟩) p.sums.length c1, .bool p.dev, .slice (some ⟨g2, 0, none⟩) p.needs.length c2']) ?_ rfl ⟨g1, c1, g2, c2', rfl, ?_, ?_, by omega, ?_⟩
  · simp [results, Tryz.results106, go_sem, e1]
  · exact ((((((hS3.other _ _ _ (by omega)).other _ _ _ (by omega)).other _ _ _ (by omega)).other _ _ _ (by omega)).other _ _ _ (by omega)).other _ _ _ (by omega)).other _ _ _ (by omega)
  · exact ((((((hS4.other _ _ _ (by omega)).other _ _ _ (by omega)).other _ _ _ (by omega)).other _ _ _ (by omega)).other _ _ _ (by omega)).other _ _ _ (by omega)).other _ _ _ (by omega)
  · exact ((((((B2.setCell (by simp; omega) _).setCell (by simp) _).setCell (by simp) _).setCell (by simp) _).setCell (by simp) _).setCell (by simp) _).setCell (by simp) _

set_option maxRecDepth 100000 in
set_option maxHeartbeats 2000000 in
theorem eqPack_same (p : Pk) (a b a' b' : Value) (w : World) (ha : RdB w a p.sums) (hb : RdS w b p.needs) (ha' : RdB w a' p.sums) (hb' : RdS w b' p.needs) (hp : SmPk p) :
    Calls Tryz.prog 111 #[.agg #[.string ⟨p.name.toArray⟩, .string ⟨p.ver.toArray⟩, .string ⟨p.src.toArray⟩, a, .bool p.dev, b], .agg #[.string ⟨p.name.toArray⟩, .string ⟨p.ver.toArray⟩, .string ⟨p.src.toArray⟩, a', .bool p.dev, b']] w fun e w' => e = .returned (.bool true) ∧ Below w.heap.size w w' := by
  have HA := Lib.hid (fun (W : World) (h : Below w.heap.size w W) => eqSumS_same a a' p.sums W (ha.below h) (ha'.below h) (by have := hp.sums; unfold SmB at this; omega))
  have HB := Lib.hid (fun (W : World) (h : Below w.heap.size w W) => eqStringS_same b b' p.needs W (hb.below h) (hb'.below h) (by have := hp.needs; omega))
  obtain ⟨A, ca, rfl⟩ := ha.slice
  obtain ⟨B, cb, rfl⟩ := hb.slice
  obtain ⟨A', ca', rfl⟩ := ha'.slice
  obtain ⟨B', cb', rfl⟩ := hb'.slice
  clear ha hb ha' hb'
  obtain ⟨dv, hdv⟩ : ∃ dv, dv = p.dev := ⟨_, rfl⟩
  rw [← hdv]
  have q0 : (dv != dv) = false := by cases dv <;> rfl
  clear hdv
  go_enter Tryz.func111, Tryz.ntmps111
  go_wp2_with fail
  refine (HA.out _ (((Below.refl _ _).alloc (Nat.le_refl _) _).alloc (by simp) _)).mono ?_
  rintro e w1 ⟨rfl, hb1⟩
  have b0 := keepB (keepA (heap_alloc_new w _) _) hb1
  have b1 := keepB (heap_new (n := w.heap.size + 1) (by simp) _) hb1
  have B1 : Below w.heap.size w w1 := (((Below.refl _ w).alloc (Nat.le_refl _) _).alloc (by simp) _).trans (hb1.mono (by simp; omega))
  have c0 := cells6 b0
  have c1 := cells6 b1
  clear hb1
  go_wp2_with fail
  refine (HB.out _ B1).mono ?_
  rintro e w2 ⟨rfl, n, rfl⟩
  go_wp2_with fail
  go_ret
  exact ⟨rfl, B1.trans (below_drewN _ _ n)⟩
end Go.Proofs.YtnodhkjgnegkcaaGreatDoor

/-
  Rows of packs of the call's own.
-/
namespace Go.Proofs.YtnodhkjgnegkcaaGreatDoor
open Go.RowKit

/-- A pack with the values of its two lists. -/
abbrev PkV := Pk × Value × Value
/-- A list of packs as cells. -/
def flatP : List PkV → List Value
  | [] => []
  | q :: t => .string ⟨q.1.name.toArray⟩ :: .string ⟨q.1.ver.toArray⟩ :: .string ⟨q.1.src.toArray⟩ :: q.2.1 :: .bool q.1.dev :: q.2.2 :: flatP t
theorem flatP_len (l : List PkV) : (flatP l).length = l.length * 6 := by
  induction l with
  | nil => rfl
  | cons a t ih => simp only [flatP, List.length_cons, ih]; omega
theorem flatP_get : ∀ (l : List PkV) (k : Nat) (h : k < l.length), (flatP l)[k * 6]? = some (.string ⟨l[k].1.name.toArray⟩) ∧ (flatP l)[k * 6 + 1]? = some (.string ⟨l[k].1.ver.toArray⟩) ∧ (flatP l)[k * 6 + 2]? = some (.string ⟨l[k].1.src.toArray⟩) ∧ (flatP l)[k * 6 + 3]? = some l[k].2.1 ∧ (flatP l)[k * 6 + 4]? = some (.bool l[k].1.dev) ∧ (flatP l)[k * 6 + 5]? = some l[k].2.2
  | [], k, h => by simp at h
  | a :: t, 0, _ => by simp [flatP]
  | a :: t, k + 1, h => by
    have := flatP_get t k (by simpa using h)
    rw [show (k + 1) * 6 = k * 6 + 6 by omega, show k * 6 + 6 + 1 = (k * 6 + 1) + 6 by omega, show k * 6 + 6 + 2 = (k * 6 + 2) + 6 by omega, show k * 6 + 6 + 3 = (k * 6 + 3) + 6 by omega, show k * 6 + 6 + 4 = (k * 6 + 4) + 6 by omega, show k * 6 + 6 + 5 = (k * 6 + 5) + 6 by omega]
    simpa [flatP] using this
/-- Six cells stored. -/
def set6 (l : List Value) (o : Nat) (q : PkV) : List Value := (((((l.set o (.string ⟨q.1.name.toArray⟩)).set (o + 1) (.string ⟨q.1.ver.toArray⟩)).set (o + 2) (.string ⟨q.1.src.toArray⟩)).set (o + 3) q.2.1).set (o + 4) (.bool q.1.dev)).set (o + 5) q.2.2
theorem flatP_set : ∀ (l : List PkV) (k : Nat) (x : PkV), set6 (flatP l) (k * 6) x = flatP (l.set k x)
  | [], k, x => by simp [flatP, set6]
  | a :: t, 0, x => by simp [flatP, set6]
  | a :: t, k + 1, x => by
    have := flatP_set t k x
    unfold set6 at this ⊢
    rw [show (k + 1) * 6 = k * 6 + 6 by omega, show k * 6 + 6 + 1 = (k * 6 + 1) + 6 by omega, show k * 6 + 6 + 2 = (k * 6 + 2) + 6 by omega, show k * 6 + 6 + 3 = (k * 6 + 3) + 6 by omega, show k * 6 + 6 + 4 = (k * 6 + 4) + 6 by omega, show k * 6 + 6 + 5 = (k * 6 + 5) + 6 by omega]
    simp [flatP, this]

/-- v is the call's own row of these packs. -/
def Packs (w : World) (base : Nat) (v : Value) (qs : List PkV) : Prop := w.ownsRow base 78 6 v qs.length (flatP qs)
theorem pkinfo : (Tryz.prog.info? 78).map (fun i => (i.zero, i.size, i.bytes)) = some (some (.agg #[.string ⟨#[]⟩, .string ⟨#[]⟩, .string ⟨#[]⟩, .slice none 0 0, .bool false, .slice none 0 0]), 6, 104) := by kernel_rfl
/-- The two lists of a pack are the call's own, in blocks from lo on. -/
def PkOwn (w : World) (lo : Nat) (q : PkV) : Prop := Sums w lo q.2.1 q.1.sums ∧ Strs w lo q.2.2 q.1.needs
theorem Packs.below {w w' : World} {base g n cap : Nat} {l : List PkV} (h : Packs w base (.slice (some ⟨g, 0, none⟩) n cap) l) (hb : Below w.heap.size w w') : Packs w' base (.slice (some ⟨g, 0, none⟩) n cap) l :=
  World.ownsRow.kept h (row := none) ⟨hb.os, hb.tape, hb.output, hb.size, fun i hi _ => hb.block i hi⟩ (by right; simp [Value.ownBlock])
theorem PkOwn.below {w w' : World} {lo : Nat} {q : PkV} (h : PkOwn w lo q) (hb : Below w.heap.size w w') : PkOwn w' lo q := ⟨h.1.below hb, h.2.below hb⟩
theorem Packs.cell {w : World} {base : Nat} {l : List PkV} {g n cap : Nat} (h : Packs w base (.slice (some ⟨g, 0, none⟩) n cap) l) (k : Nat) (hk : k < l.length) : w.cell? ⟨g, k * 6, none⟩ = some (.string ⟨l[k].1.name.toArray⟩) ∧ w.cell? ⟨g, k * 6 + 1, none⟩ = some (.string ⟨l[k].1.ver.toArray⟩) ∧ w.cell? ⟨g, k * 6 + 2, none⟩ = some (.string ⟨l[k].1.src.toArray⟩) ∧ w.cell? ⟨g, k * 6 + 3, none⟩ = some l[k].2.1 ∧ w.cell? ⟨g, k * 6 + 4, none⟩ = some (.bool l[k].1.dev) ∧ w.cell? ⟨g, k * 6 + 5, none⟩ = some l[k].2.2 := by
  have hadd : ∀ j, (⟨g, 0, none⟩ : Addr).add j = ⟨g, j, none⟩ := fun j => by unfold Addr.add; split <;> simp_all
  obtain ⟨e0, e1, e2, e3, e4, e5⟩ := flatP_get l k hk
  have h0 := World.ownsRow.cells (g := g) h rfl (k * 6) _ e0
  have h1 := World.ownsRow.cells (g := g) h rfl (k * 6 + 1) _ e1
  have h2 := World.ownsRow.cells (g := g) h rfl (k * 6 + 2) _ e2
  have h3 := World.ownsRow.cells (g := g) h rfl (k * 6 + 3) _ e3
  have h4 := World.ownsRow.cells (g := g) h rfl (k * 6 + 4) _ e4
  have h5 := World.ownsRow.cells (g := g) h rfl (k * 6 + 5) _ e5
  rw [hadd] at h0 h1 h2 h3 h4 h5
  exact ⟨h0, h1, h2, h3, h4, h5⟩
/-- A pack stored at its place. -/
def put6 (w : World) (g o : Nat) (q : PkV) : World := (((((w.setCell ⟨g, o, none⟩ (.string ⟨q.1.name.toArray⟩)).setCell ⟨g, o + 1, none⟩ (.string ⟨q.1.ver.toArray⟩)).setCell ⟨g, o + 2, none⟩ (.string ⟨q.1.src.toArray⟩)).setCell ⟨g, o + 3, none⟩ q.2.1).setCell ⟨g, o + 4, none⟩ (.bool q.1.dev)).setCell ⟨g, o + 5, none⟩ q.2.2
theorem Packs.set {w : World} {base g cap : Nat} {l : List PkV} (h : Packs w base (.slice (some ⟨g, 0, none⟩) l.length cap) l) (k : Nat) (x : PkV) :
    Packs (put6 w g (k * 6) x) base (.slice (some ⟨g, 0, none⟩) (l.set k x).length cap) (l.set k x) := by
  unfold Packs at h ⊢
  rw [List.length_set, ← flatP_set]
  exact (World.ownsRow.stored (World.ownsRow.stored (World.ownsRow.stored (World.ownsRow.stored (World.ownsRow.stored (World.ownsRow.stored h (k * 6) _).1 (k * 6 + 1) _).1 (k * 6 + 2) _).1 (k * 6 + 3) _).1 (k * 6 + 4) _).1 (k * 6 + 5) _).1
theorem Sums.nil (w : World) (base : Nat) : Sums w base (.slice none 0 0) [] := ⟨by simp [flat2], .inl ⟨rfl, rfl⟩⟩
theorem Sums.otherV {w : World} {base : Nat} {v : Value} {l : List Bd} (h : Sums w base v l) (b o : Nat) (x : Value) (hne : b < base) : Sums (w.setCell ⟨b, o, none⟩ x) base v l := by
  rcases h.form with ⟨rfl, rfl⟩ | ⟨g, cap, rfl, hg, _⟩
  · exact Sums.nil _ _
  · exact h.other b o x (by omega)
theorem PkOwn.other {w : World} {lo : Nat} {q : PkV} (h : PkOwn w lo q) (b o : Nat) (x : Value) (hne : b < lo) : PkOwn (w.setCell ⟨b, o, none⟩ x) lo q := ⟨h.1.otherV b o x hne, h.2.otherV b o x hne⟩
theorem PkOwn.put6 {w : World} {lo : Nat} {q : PkV} (h : PkOwn w lo q) (b o : Nat) (x : PkV) (hne : b < lo) : PkOwn (put6 w b o x) lo q :=
  (((((h.other _ _ _ hne).other _ _ _ hne).other _ _ _ hne).other _ _ _ hne).other _ _ _ hne).other _ _ _ hne
theorem below_put6 {n : Nat} {W V : World} {g o : Nat} {q : PkV} (h : Below n W V) (hg : n ≤ g) : Below n W (put6 V g o q) :=
  (((((h.setCell (p := ⟨g, o, none⟩) hg _).setCell (p := ⟨g, o + 1, none⟩) hg _).setCell (p := ⟨g, o + 2, none⟩) hg _).setCell (p := ⟨g, o + 3, none⟩) hg _).setCell (p := ⟨g, o + 4, none⟩) hg _).setCell (p := ⟨g, o + 5, none⟩) hg _

/-- The call's own list of packs, with all that hangs on it. -/
def PksOwn (w : World) (base : Nat) (v : Value) (ps : List Pk) : Prop := ∃ G cap qs, v = .slice (some ⟨G, 0, none⟩) ps.length cap ∧ base ≤ G ∧ G < w.heap.size ∧ qs.map (·.1) = ps ∧ Packs w base (.slice (some ⟨G, 0, none⟩) ps.length cap) qs ∧ ∀ q ∈ qs, PkOwn w (G + 1) q
theorem PksOwn.below {w w' : World} {base : Nat} {v : Value} {ps : List Pk} (h : PksOwn w base v ps) (hb : Below w.heap.size w w') : PksOwn w' base v ps := by
  obtain ⟨G, cap, qs, hv, h1, h2, h3, h4, h5⟩ := h
  exact ⟨G, cap, qs, hv, h1, Nat.lt_of_lt_of_le h2 hb.size, h3, h4.below hb, fun q hq => (h5 q hq).below hb⟩
theorem RdPs.of_own {w : World} {base : Nat} {v : Value} {ps : List Pk} (h : PksOwn w base v ps) : RdPs w v ps := by
  obtain ⟨G, cap, qs, rfl, h1, h2, rfl, h4, h5⟩ := h
  refine ⟨some ⟨G, 0, none⟩, cap, by simp, fun _ => ⟨G, 0, rfl, h2, fun k hk => ?_⟩⟩
  simp at hk
  obtain ⟨c0, c1, c2, c3, c4, c5⟩ := h4.cell k hk
  have ho := h5 qs[k] (List.getElem_mem hk)
  rw [Nat.zero_add]
  simp only [List.getElem_map]
  exact ⟨qs[k].2.1, qs[k].2.2, c0, c1, c2, c3, c4, c5, RdB.of_sums ho.1, RdS.of_strs ho.2⟩

/-- The first k packs with their values, then empty ones. -/
def zq : PkV := (⟨[], [], [], [], false, []⟩, .slice none 0 0, .slice none 0 0)
def tkP (qs : List PkV) (n : Nat) : List PkV := qs ++ List.replicate (n - qs.length) zq
theorem tkP_len (qs : List PkV) (n : Nat) (h : qs.length ≤ n) : (tkP qs n).length = n := by simp [tkP]; omega
theorem tkP_set (qs : List PkV) (n : Nat) (h : qs.length < n) (q : PkV) : (tkP qs n).set qs.length q = tkP (qs ++ [q]) n := by
  unfold tkP
  rw [List.set_append_right _ _ (by simp)]
  have e : n - qs.length = (n - (qs ++ [q]).length) + 1 := by simp; omega
  rw [e, List.replicate_succ, List.append_assoc]
  simp
theorem flatP_rep : ∀ n : Nat, flatP (List.replicate n zq) = (List.replicate n [Value.string ⟨#[]⟩, .string ⟨#[]⟩, .string ⟨#[]⟩, .slice none 0 0, .bool false, .slice none 0 0]).flatten
  | 0 => rfl
  | n + 1 => by
    rw [List.replicate_succ, List.replicate_succ, List.flatten_cons, ← flatP_rep n]
    simp [flatP, zq]
theorem packs_made {w : World} {base : Nat} {v : Value} {n : Nat} (h : w.ownsRow base 78 6 v n (madeCells (Value.agg #[.string ⟨#[]⟩, .string ⟨#[]⟩, .string ⟨#[]⟩, .slice none 0 0, .bool false, .slice none 0 0]).cells (n * 6)).toList) : Packs w base v (List.replicate n zq) := by
  unfold Packs
  have e : (madeCells (Value.agg #[.string ⟨#[]⟩, .string ⟨#[]⟩, .string ⟨#[]⟩, .slice none 0 0, .bool false, .slice none 0 0]).cells (n * 6)).toList = flatP (List.replicate n zq) := by
    apply List.ext_getElem?
    intro j
    by_cases hj : j < n * 6
    · obtain ⟨k, r, hr, rfl⟩ : ∃ k r, r < 6 ∧ j = k * 6 + r := ⟨j / 6, j % 6, by omega, by omega⟩
      have hk : k < (List.replicate n zq).length := by simp; omega
      obtain ⟨e0, e1, e2, e3, e4, e5⟩ := flatP_get (List.replicate n zq) k hk
      simp only [List.getElem_replicate] at e0 e1 e2 e3 e4 e5
      have hm : (k * 6 + r) % 6 = r := by omega
      match r, hr with
      | 0, _ => rw [Nat.add_zero] at *; rw [e0]; simp [madeCells, hj, Value.cells, zq]
      | 1, _ => rw [e1]; simp [madeCells, hj, Value.cells, hm, zq]
      | 2, _ => rw [e2]; simp [madeCells, hj, Value.cells, hm, zq]
      | 3, _ => rw [e3]; simp [madeCells, hj, Value.cells, hm, zq]
      | 4, _ => rw [e4]; simp [madeCells, hj, Value.cells, hm, zq]
      | 5, _ => rw [e5]; simp [madeCells, hj, Value.cells, hm, zq]
    · rw [List.getElem?_eq_none (by simp [madeCells]; omega), List.getElem?_eq_none (by rw [flatP_len]; simp; omega)]
  rw [← e]
  simpa using h
end Go.Proofs.YtnodhkjgnegkcaaGreatDoor

namespace Go.Proofs.YtnodhkjgnegkcaaGreatDoor
open Go.RowKit

set_option maxRecDepth 100000 in
set_option maxHeartbeats 2000000 in
theorem szPackS_any (v : Value) (ps : List Pk) (left : Int) (w : World) (hr : RdPs w v ps) (h0 : 0 ≤ left) (h1 : left ≤ 1048576) (hn : ps.length ≤ maxLen) (hm : ∀ p ∈ ps, PkFits p) :
    Calls Tryz.prog 50 #[v, .int .i64 left] w fun e w' => e = .returned (.int .i64 (szPs left ps)) ∧ Below w.heap.size w w' := by
  have HR := Lib.hid hr
  obtain ⟨A, ca, rfl, ha⟩ := hr
  have HM := Lib.hid hm
  clear hm ha
  unfold maxLen at hn
  by_cases hl : (ps.length : Int) ≤ left
  · go_enter Tryz.func50, Tryz.ntmps50
    go_wp2
    go_loopw [1, 5] (fun m i wr => ∃ (k : Nat) (z : Int), k ≤ ps.length ∧ i = .int .i64 k ∧ m = .int .i64 z ∧ 0 ≤ z ∧ z ≤ 1048576 ∧ Hid (z = left - (ps.length : Int) - (smP (ps.take k) : Int)) ∧ Below w.heap.size w wr) (fun _ i _ => ps.length - (intOf i).toNat)
    case atStart => exact ⟨0, _, Nat.zero_le _, rfl, rfl, by omega, by omega, Lib.hid (by simp [smP]), Below.refl _ _⟩
    case round =>
      obtain ⟨k, z, hk, rfl, rfl, z0, z1, HZ, hb⟩ := hrel
      by_cases hlt : k < ps.length
      · obtain ⟨g, off, rfl, _, a, b, d0, d1, d2, d3, d4, d5, ra, rb⟩ := (HR.out.below hb).at k hlt
        have HC := Lib.hid (szPack_any ps[k] a b z wr ra rb z0 z1 (HM.out ps[k] (List.getElem_mem hlt)))
        obtain ⟨A1, c1, rfl⟩ := ra.slice
        obtain ⟨A2, c2, rfl⟩ := rb.slice
        have k0 : (0 : Int) ≤ (k : Int) := by omega
        have k1 : (k : Int) < (ps.length : Int) := by omega
        have HS := Lib.hid (smP_snoc ps k hlt)
        have HT := Lib.hid (smP_le ps (k + 1))
        clear ra rb
        by_cases hz : (wP ps[k] : Int) ≤ z
        · have HO := Lib.hid (szP_yes hz)
          have hz2 : (0 : Int) ≤ z - (wP ps[k] : Int) := by omega
          have hz3 : z - (wP ps[k] : Int) ≤ 1048576 := by omega
          obtain ⟨y, hy⟩ : ∃ y, y = z - (wP ps[k] : Int) := ⟨_, rfl⟩
          rw [← hy] at HO hz2 hz3
          go_wp2_with fail
          refine HC.out.mono ?_
          rw [HO.out]
          rintro e w1 ⟨rfl, hb1⟩
          have B1 := hb.trans (hb1.mono hb.size)
          go_wp2_with fail
          go_roundw
          case rel => exact ⟨k + 1, _, by omega, by go_num, rfl, by omega, by omega, Lib.hid (by have := HZ.out; have := HS.out; omega), B1⟩
          case measure => simp [intOf]; omega
        · have HO := Lib.hid (szP_no hz)
          have HW : Hid (szPs left ps = -1) := Lib.hid (szPs_no (by have := HZ.out; have := HS.out; have := HT.out; omega))
          go_wp2_with fail
          refine HC.out.mono ?_
          rw [HO.out]
          rintro e w1 ⟨rfl, hb1⟩
          have B1 := hb.trans (hb1.mono hb.size)
          go_wp2_with fail
          go_ret
          exact ⟨ret_int HW.out.symm, B1⟩
      · have HX : Hid (szPs left ps = z) := Lib.hid (by
          have hz := HZ.out
          rw [List.take_of_length_le (by omega)] at hz
          rw [szPs_yes (by omega)]; omega)
        go_wp2_with fail
        go_ret
        exact ⟨ret_int HX.out.symm, hb⟩
  · have HX : Hid (szPs left ps = -1) := Lib.hid (szPs_no (by omega))
    go_enter Tryz.func50, Tryz.ntmps50
    go_wp2
    go_ret
    exact ⟨ret_int HX.out.symm, Below.refl _ _⟩

set_option maxRecDepth 100000 in
set_option maxHeartbeats 2000000 in
theorem toPackS_any (v : Value) (ps : List Pk) (w : World) (hr : RdPs w v ps) (hs : SmPs ps) :
    Calls Tryz.prog 53 #[v] w fun e w' => ∃ u, e = .returned u ∧ PksOwn w' w.heap.size u ps ∧ Below w.heap.size w w' := by
  have HR := Lib.hid hr
  have HS := Lib.hid hs
  have hl : ps.length ≤ 1048576 := by unfold SmPs at hs; omega
  obtain ⟨A, ca, rfl, ha⟩ := hr
  obtain ⟨i0, hi, hz0, hz1, hz2⟩ := info_parts pkinfo
  go_enter Tryz.func53, Tryz.ntmps53
  go_wp2_with (at_make; refine wpList_make_full _ rfl _ _ 35 rfl w.heap.size 78 i0 (.agg #[.string ⟨#[]⟩, .string ⟨#[]⟩, .string ⟨#[]⟩, .slice none 0 0, .bool false, .slice none 0 0]) 6 Tryz.underlying35 hi hz0 hz1 .i64 .i64 _ _ ps.length rfl rfl rfl rfl (by rw [hz2]; omega) (by unfold maxLen; omega) (Nat.le_refl _) ?_; intro w1 hown1 hg1)
  have hS1 := packs_made hown1
  have hb1 : Below w.heap.size w w1 := (Below.refl _ _).grown hg1 (Nat.le_refl _) (by simp)
  have hz3 : w.heap.size < w1.heap.size := by
    rcases hown1.2 with ⟨hv, _⟩ | ⟨g, cap, cur, hv, hb, hh, _⟩
    · cases hv
    · simp only [Value.slice.injEq, Option.some.injEq, Addr.mk.injEq] at hv
      have := lt_of_heap hh; omega
  clear hown1 hg1 hi hz0 hz1 hz2 ha hs
  go_loopw [4] (fun i wr => ∃ (k : Nat) (qs : List PkV), k ≤ ps.length ∧ i = .int .i64 k ∧ qs.map (·.1) = ps.take k ∧ Packs wr w.heap.size (.slice (some ⟨w.heap.size, 0, none⟩) ps.length ps.length) (tkP qs ps.length) ∧ Hid (∀ q ∈ qs, PkOwn wr (w.heap.size + 1) q) ∧ Below w.heap.size w wr ∧ w.heap.size < wr.heap.size) (fun i _ => ps.length - (intOf i).toNat)
  case atStart => exact ⟨0, [], Nat.zero_le _, rfl, by simp, by simpa [tkP] using hS1, Lib.hid (fun q h => by cases h), hb1, hz3⟩
  case round =>
    obtain ⟨k, qs, hk, rfl, hq, hS, HQ, hb, hgt⟩ := hrel
    have hqk : qs.length = k := by have := congrArg List.length hq; simp at this; omega
    by_cases hlt : k < ps.length
    · obtain ⟨g, off, rfl, _, a, b, d0, d1, d2, d3, d4, d5, ra, rb⟩ := (HR.out.below hb).at k hlt
      have HC := Lib.hid (toPack_any ps[k] a b wr ra rb (HS.out.get k hlt))
      obtain ⟨A1, c1, rfl⟩ := ra.slice
      obtain ⟨A2, c2, rfl⟩ := rb.slice
      have k0 : (0 : Int) ≤ (k : Int) := by omega
      have k1 : (k : Int) < (ps.length : Int) := by omega
      clear ra rb hS1 hb1 hz3
      go_wp2_with fail
      refine HC.out.mono ?_
      rintro e w2 ⟨g1, e1, g2, e2, rfl, hA, hB, hne, hb2⟩
      have hS2 := hS.below hb2
      have hS' : Packs w2 w.heap.size (.slice (some ⟨w.heap.size, 0, none⟩) (tkP qs ps.length).length ps.length) (tkP qs ps.length) := by rw [tkP_len qs _ (by omega)]; exact hS2
      obtain ⟨f0, f1, f2, f3, f4, f5⟩ := hS2.cell k (by rw [tkP_len qs _ (by omega)]; exact hlt)
      have fz : ∀ j, w2.frozen? ⟨w.heap.size, j, none⟩ = false := fun j => World.ownsRow.frozenAt hS' j
      have B2 := hb.trans (hb2.mono hb.size)
      have hq' : (qs ++ [(ps[k], (Value.slice (some ⟨g1, 0, none⟩) ps[k].sums.length e1, Value.slice (some ⟨g2, 0, none⟩) ps[k].needs.length e2))]).map (·.1) = ps.take (k + 1) := by
        rw [List.map_append, hq, List.take_succ_eq_append_getElem hlt]; rfl
      have HQ2 : Hid (∀ q ∈ qs ++ [(ps[k], (Value.slice (some ⟨g1, 0, none⟩) ps[k].sums.length e1, Value.slice (some ⟨g2, 0, none⟩) ps[k].needs.length e2))], PkOwn w2 (w.heap.size + 1) q) := Lib.hid (by
        intro q hq
        rcases List.mem_append.1 hq with h | h
        · exact (HQ.out q h).below hb2
        · simp at h; subst h; exact ⟨hA.weaken (by omega), hB.weaken (by omega)⟩)
      have hgt2 : w.heap.size < w2.heap.size := Nat.lt_of_lt_of_le hgt hb2.size
      have HP := Lib.hid (hS'.set k (ps[k], (Value.slice (some ⟨g1, 0, none⟩) ps[k].sums.length e1, Value.slice (some ⟨g2, 0, none⟩) ps[k].needs.length e2)))
      have HT := Lib.hid (by have := tkP_set qs ps.length (by omega) (ps[k], (Value.slice (some ⟨g1, 0, none⟩) ps[k].sums.length e1, Value.slice (some ⟨g2, 0, none⟩) ps[k].needs.length e2)); rw [hqk] at this; exact this)
      have HQ3 := Lib.hid (fun q h => (HQ2.out q h).put6 w.heap.size (k * 6) (ps[k], (Value.slice (some ⟨g1, 0, none⟩) ps[k].sums.length e1, Value.slice (some ⟨g2, 0, none⟩) ps[k].needs.length e2)) (by omega))
      have HB3 := Lib.hid (below_put6 (o := k * 6) (q := (ps[k], (Value.slice (some ⟨g1, 0, none⟩) ps[k].sums.length e1, Value.slice (some ⟨g2, 0, none⟩) ps[k].needs.length e2))) B2 (Nat.le_refl _))
      rw [HT.out, tkP_len _ _ (by simp; omega)] at HP
      simp only [put6] at HP HQ3 HB3
      clear hS hb hb2 d0 d1 d2 d3 d4 d5 HQ hA hB hS' HQ2 B2 HT HC
      go_wp2_with fail
      go_roundw
      case rel => exact ⟨k + 1, _, by omega, by go_num, hq', HP.out, HQ3, HB3.out, by simp only [World.size_setCell]; exact hgt2⟩
      case measure => simp [intOf]; omega
    · obtain rfl : k = ps.length := by omega
      clear hS1 hb1
      go_wp2_with fail
      go_ret
      refine ⟨_, rfl, ⟨w.heap.size, _, qs, rfl, Nat.le_refl _, hgt, by rw [hq]; simp, ?_, HQ.out⟩, hb⟩
      simpa [tkP, hqk] using hS

set_option maxRecDepth 100000 in
set_option maxHeartbeats 2000000 in
theorem eqPackS_same (va vb : Value) (ps : List Pk) (w : World) (ha : RdPs w va ps) (hb : RdPs w vb ps) (hs : SmPs ps) :
    Calls Tryz.prog 58 #[va, vb] w fun e w' => e = .returned (.bool true) ∧ Below w.heap.size w w' := by
  have HA := Lib.hid ha
  have HB := Lib.hid hb
  have HS := Lib.hid hs
  have hl : ps.length ≤ 1048576 := by unfold SmPs at hs; omega
  obtain ⟨A, ca, rfl, ha⟩ := ha
  obtain ⟨B, cb, rfl, hb⟩ := hb
  have q0 : ((ps.length : Int) != (ps.length : Int)) = false := int_bne_false rfl
  clear ha hb hs
  go_enter Tryz.func58, Tryz.ntmps58
  go_wp2_with fail
  go_loopw [5] (fun i wr => ∃ k : Nat, k ≤ ps.length ∧ i = .int .i64 k ∧ Below w.heap.size w wr) (fun i _ => ps.length - (intOf i).toNat)
  case atStart => exact ⟨0, Nat.zero_le _, rfl, Below.refl _ _⟩
  case round =>
    obtain ⟨k, hk, rfl, hw⟩ := hrel
    by_cases hlt : k < ps.length
    · obtain ⟨g, off, rfl, hg, a, b, d0, d1, d2, d3, d4, d5, ra, rb⟩ := (HA.out.below hw).at k hlt
      obtain ⟨g', off', rfl, hg', a', b', e0, e1, e2, e3, e4, e5, ra', rb'⟩ := (HB.out.below hw).at k hlt
      have HC := Lib.hid (fun (W : World) (h : Below wr.heap.size wr W) => eqPack_same ps[k] a b a' b' W (ra.below h) (rb.below h) (ra'.below h) (rb'.below h) (HS.out.get k hlt))
      obtain ⟨A1, c1, rfl⟩ := ra.slice
      obtain ⟨A2, c2, rfl⟩ := rb.slice
      obtain ⟨A3, c3, rfl⟩ := ra'.slice
      obtain ⟨A4, c4, rfl⟩ := rb'.slice
      have k0 : (0 : Int) ≤ (k : Int) := by omega
      have k1 : (k : Int) < (ps.length : Int) := by omega
      clear ra rb ra' rb'
      go_wp2_with fail
      go_region_with (first | (go_at_call 111; refine (HC.out _ (below_drewN _ _ 1)).mono ?_; rintro e w1 ⟨rfl, hb1⟩))
      all_goals
        go_wp2_with fail
        go_roundw
        case rel => exact ⟨k + 1, by omega, by go_num, hw.trans ((below_drewN _ _ 1).trans (hb1.mono (by first | exact Nat.le_refl _ | exact hw.size)))⟩
        case measure => simp [intOf]; omega
    · go_wp2_with fail
      go_ret
      exact ⟨rfl, hw⟩
end Go.Proofs.YtnodhkjgnegkcaaGreatDoor
