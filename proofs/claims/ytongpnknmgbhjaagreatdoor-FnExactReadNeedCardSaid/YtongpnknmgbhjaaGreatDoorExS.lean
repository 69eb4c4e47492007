/-
  spec.Exact: the bound of one version alone.
-/
import Derived.Test.YtongpnknmgbhjaaGreatDoorExM
import Derived.Test.YtongpnknmgbhjaaGreatDoorNextS
import Derived.Test.YtongpnknmgbhjaaGreatDoorCmpW
import Derived.Test.YtongpnknmgbhjaaGreatDoorRdS
import Derived.Test.YtongpnknmgbhjaaGreatDoorAlgS
namespace Go.Proofs.YtongpnknmgbhjaaGreatDoor
open Go.RowKit

theorem sm_z : Sm [[48]] := ⟨by simp, fun l h => by simp at h; subst h; simp⟩
theorem sm_readP (l : List UInt8) : Sm (readP l) := by
  have h5 := readP_sm l
  refine ⟨by omega, fun x hx => ?_⟩
  unfold readP at hx
  split at hx
  · rename_i h
    have hv := read_ver h
    have : readP l = tailL l := by simp [readP, h]
    rw [← this] at hx
    have := verOk_len hv x hx
    omega
  · cases hx
theorem next_plus {a b c : Int} (h : verOk a b c [] = true) : (c < 999999999 → nextN a b c [] 2 = (a, b, c + 1)) ∧ (¬ c < 999999999 → nextN a b c [] 2 = (a, b, c)) ∧ nextL a b c [] 2 = [] := by
  have hx : nxt a b c [] 2 = (a, b, c + 1) := by unfold nxt; simp
  have hn : nextOk a b c [] 2 = verOk a b (c + 1) [] := nextOk_of h (by decide) hx
  rw [(plus_ok h).2] at hn
  refine ⟨fun hc => ?_, fun hc => ?_, ?_⟩
  · rw [(next_good (by rw [hn]; exact decide_eq_true hc)).1, hx]
  · rw [(next_same (by rw [hn]; exact decide_eq_false hc)).1]
  · unfold nextL; split <;> rfl
theorem cmp_plus (a b c : Int) : ¬ cmpVer a b (c + 1) [] a b c [] = 0 := by
  unfold cmpVer
  rw [cmpI_same, cmpI_same, orI_zero, orI_zero]
  have : cmpI (c + 1) c = 1 := by unfold cmpI; rw [if_neg (by omega), if_pos (by omega)]
  rw [this, orI_ne _ (by omega)]
  omega
theorem cmp_self (a b c : Int) : cmpVer a b c [] a b c [] = 0 := by
  unfold cmpVer
  rw [cmpI_same, cmpI_same, cmpI_same, orI_zero, orI_zero, orI_zero]
  rfl

theorem rdS_lit1 (W : World) (n : Nat) (hn : W.heap.size = n) (x : List UInt8) (T : TypeId) : RdS (W.alloc (.cells #[.string ⟨x.toArray⟩] T)) (.slice (some ⟨n, 0, none⟩) 1 1) [x] := by
  subst hn
  refine ⟨_, 1, rfl, fun _ => ⟨W.heap.size, 0, rfl, by simp, fun k hk => ?_⟩⟩
  have hk0 : k = 0 := by simp at hk; omega
  subst hk0
  have hc : ∀ (V : World) (n : Nat) (v : Value), V.heap[n]? = some (.cells #[v] T) → V.cell? ⟨n, 0, none⟩ = some v := fun V n v h => by simp [World.cell?, h]
  exact hc _ _ _ (heap_alloc_new W (.cells #[.string ⟨x.toArray⟩] T))

set_option maxRecDepth 100000 in
set_option maxHeartbeats 4000000 in
theorem l03Below_yes (a b c : Int) (A : Option Addr) (n cap : Nat) (w : World) (hv : verOk a b c [] = true) (hc : c < 999999999) :
    Calls Tryz.prog 155 #[.agg #[.int .i64 a, .int .i64 b, .int .i64 c, .slice A n cap], .int .i64 2] w fun e w' => e = .returned (.tuple #[.string ⟨(verText a b (c + 1) [[48]]).toArray⟩, .bool true]) ∧ Below w.heap.size w w' := by
  obtain ⟨hN, _, hL⟩ := next_plus hv
  have HX := Lib.hid (fun (v : Value) (W : World) (h : RdS W v []) => specNext_any a b c 2 v [] W h sm_nil a b (c + 1) [] (hN hc) hL)
  have HC := Lib.hid (fun (va vb : Value) (W : World) (h1 : RdS W va []) (h2 : RdS W vb []) => specCompareVersion_any a b (c + 1) a b c va vb [] [] W h1 h2 sm_nil sm_nil)
  have hcp := cmp_plus a b c
  obtain ⟨z, HZ⟩ : ∃ z, Hid (cmpVer a b (c + 1) [] a b c [] = z) := ⟨_, Lib.hid rfl⟩
  simp only [HZ.out] at HC
  rw [HZ.out] at hcp
  have hz : (z == 0) = false := int_beq_false hcp
  have HT := Lib.hid (fun (v : Value) (W : World) (h : RdS W v [[48]]) => specVersionText_any a b (c + 1) v [[48]] W h sm_z)
  obtain ⟨t, HTT⟩ : ∃ t, Hid (verText a b (c + 1) [[48]] = t) := ⟨_, Lib.hid rfl⟩
  simp only [HTT.out] at HT
  rw [HTT.out]
  clear hN hL hv hcp
  have B0 : Below w.heap.size w ((w.alloc (.cells #[.int .i64 a, .int .i64 b, .int .i64 c, .slice (some ⟨w.heap.size + 1, 0, none⟩) 0 0] 127)).alloc (.cells #[] 9)) := ((Below.refl _ _).alloc (Nat.le_refl _) _).alloc (by simp) _
  have bx := keepA (heap_alloc_new w (.cells #[.int .i64 a, .int .i64 b, .int .i64 c, .slice (some ⟨w.heap.size + 1, 0, none⟩) 0 0] 127)) (.cells #[] 9)
  have hr0 : ∀ (W : World), RdS W (.slice (some ⟨w.heap.size + 1, 0, none⟩) 0 0) [] := fun W => ⟨_, _, rfl, fun h => by simp at h⟩
  go_enter Tryz.func155, Tryz.ntmps155
  go_wp2_with fail
  refine (HX.out _ _ (hr0 _)).mono ?_
  rintro e w1 ⟨u, rfl, hu, hb1⟩
  obtain ⟨U, uc, rfl⟩ := hu.slice
  have B1 := B0.trans (hb1.mono B0.size)
  have b1 := keepB bx hb1
  have hu1 : ∀ W, RdS W (.slice U 0 uc) [] := fun W => ⟨_, _, rfl, fun h => by simp at h⟩
  have hs1 : w.heap.size ≤ w1.heap.size := B1.size
  clear hb1 bx B0 hu
  have B2 : Below w.heap.size w (w1.alloc (.cells #[.int .i64 a, .int .i64 b, .int .i64 (c + 1), .slice U 0 uc] 127)) := B1.alloc B1.size _
  have b2 := keepA b1 (.cells #[.int .i64 a, .int .i64 b, .int .i64 (c + 1), .slice U 0 uc] 127)
  have n2 := heap_alloc_new w1 (.cells #[.int .i64 a, .int .i64 b, .int .i64 (c + 1), .slice U 0 uc] 127)
  obtain ⟨p0, p1, p2, p3⟩ := cells4 b2
  go_wp2_with fail
  refine (HC.out _ _ _ (hu1 _) (hr0 _)).mono ?_
  rintro e w3 ⟨rfl, hb3⟩
  have B3 := B2.trans (hb3.mono B2.size)
  have n3 := keepB n2 hb3
  clear hb3 B2 b2 n2 p0 p1 p2 p3 b1 B1
  obtain ⟨q0, q1, q2, q3⟩ := cells4 n3
  have f3 := frozen4 n3 3
  have hs4 : w1.heap.size < w3.heap.size := lt_of_heap n3
  go_wp2_with fail
  refine (HT.out _ _ (rdS_lit1 _ _ (by simp) [48] _)).mono ?_
  rintro e w5 ⟨rfl, hb5⟩
  have B4 := (B3.setCell (p := ⟨w1.heap.size, 3, none⟩) hs1 (.slice (some ⟨w3.heap.size, 0, none⟩) 1 1)).alloc (by simp; omega) (.cells #[.string ⟨#[48]⟩] 9)
  go_wp2_with fail
  go_ret2
  exact ⟨rfl, B4.trans (hb5.mono (by simp; omega))⟩

set_option maxRecDepth 100000 in
set_option maxHeartbeats 4000000 in
theorem l03Below_no (a b c : Int) (A : Option Addr) (n cap : Nat) (w : World) (hv : verOk a b c [] = true) (hc : ¬ c < 999999999) :
    Calls Tryz.prog 155 #[.agg #[.int .i64 a, .int .i64 b, .int .i64 c, .slice A n cap], .int .i64 2] w fun e w' => e = .returned (.tuple #[.string ⟨#[]⟩, .bool false]) ∧ Below w.heap.size w w' := by
  obtain ⟨_, hN, hL⟩ := next_plus hv
  have HX := Lib.hid (fun (v : Value) (W : World) (h : RdS W v []) => specNext_any a b c 2 v [] W h sm_nil a b c [] (hN hc) hL)
  have HC := Lib.hid (fun (va vb : Value) (W : World) (h1 : RdS W va []) (h2 : RdS W vb []) => specCompareVersion_any a b c a b c va vb [] [] W h1 h2 sm_nil sm_nil)
  simp only [cmp_self] at HC
  clear hN hL hv
  have B0 : Below w.heap.size w ((w.alloc (.cells #[.int .i64 a, .int .i64 b, .int .i64 c, .slice (some ⟨w.heap.size + 1, 0, none⟩) 0 0] 127)).alloc (.cells #[] 9)) := ((Below.refl _ _).alloc (Nat.le_refl _) _).alloc (by simp) _
  have bx := keepA (heap_alloc_new w (.cells #[.int .i64 a, .int .i64 b, .int .i64 c, .slice (some ⟨w.heap.size + 1, 0, none⟩) 0 0] 127)) (.cells #[] 9)
  have hr0 : ∀ (W : World), RdS W (.slice (some ⟨w.heap.size + 1, 0, none⟩) 0 0) [] := fun W => ⟨_, _, rfl, fun h => by simp at h⟩
  go_enter Tryz.func155, Tryz.ntmps155
  go_wp2_with fail
  refine (HX.out _ _ (hr0 _)).mono ?_
  rintro e w1 ⟨u, rfl, hu, hb1⟩
  obtain ⟨U, uc, rfl⟩ := hu.slice
  have B1 := B0.trans (hb1.mono B0.size)
  have b1 := keepB bx hb1
  have hu1 : ∀ W, RdS W (.slice U 0 uc) [] := fun W => ⟨_, _, rfl, fun h => by simp at h⟩
  clear hb1 bx B0 hu
  have B2 : Below w.heap.size w (w1.alloc (.cells #[.int .i64 a, .int .i64 b, .int .i64 c, .slice U 0 uc] 127)) := B1.alloc B1.size _
  have b2 := keepA b1 (.cells #[.int .i64 a, .int .i64 b, .int .i64 c, .slice U 0 uc] 127)
  obtain ⟨p0, p1, p2, p3⟩ := cells4 b2
  go_wp2_with fail
  refine (HC.out _ _ _ (hu1 _) (hr0 _)).mono ?_
  rintro e w3 ⟨rfl, hb3⟩
  go_wp2_with fail
  go_ret2
  exact ⟨rfl, B2.trans (hb3.mono B2.size)⟩

theorem cellsD {V : World} {B : Nat} {T : TypeId} {v0 v1 : Value} (h : V.heap[B]? = some (.cells #[v0, v1] T)) : V.cell? ⟨B, 0, none⟩ = some v0 ∧ V.cell? ⟨B, 1, none⟩ = some v1 ∧ ∀ o, V.frozen? ⟨B, o, none⟩ = false := by
  refine ⟨by simp [World.cell?, h], by simp [World.cell?, h], fun o => by simp [World.frozen?, h]⟩
/-- What l03Alone hands back. -/
def aloneV (ok : Bool) (l hi : List UInt8) : Value := .tuple #[.agg #[.string ⟨(if ok = true then l else []).toArray⟩, .string ⟨(if ok = true then hi else []).toArray⟩], .bool ok]

set_option maxRecDepth 100000 in
set_option maxHeartbeats 4000000 in
theorem l03Alone_any (l : List UInt8) (w : World) (hl : l.length ≤ 1048576) :
    Calls Tryz.prog 101 #[.string ⟨l.toArray⟩] w fun e w' => e = .returned (aloneV (exOk l) l (exHigh l)) ∧ Below w.heap.size w w' := by
  have HV : Hid (∀ W, Calls Tryz.prog 97 #[.string ⟨l.toArray⟩] W (ReadIs W l)) := Lib.hid (fun W => specReadVersion_any ⟨l.toArray⟩ W (by show l.toArray.size ≤ _; simp; omega))
  have B0 : Below w.heap.size w (w.alloc (.cells #[.string ⟨#[]⟩, .string ⟨#[]⟩] 73)) := (Below.refl _ _).alloc (Nat.le_refl _) _
  have bx := heap_alloc_new w (.cells #[.string ⟨#[]⟩, .string ⟨#[]⟩] 73)
  cases hok : readOk l with
  | false =>
    rw [exOk_bad hok]
    have HO := Lib.hid hok
    clear hok
    go_enter Tryz.func101, Tryz.ntmps101
    go_wp2_with fail
    refine (HV.out _).mono ?_
    rintro e w1 ⟨u, rfl, hu, hb1⟩
    obtain ⟨U, uc, rfl⟩ := hu.slice
    rw [HO.out]
    have B1 := B0.trans (hb1.mono B0.size)
    have b1 := keepB bx hb1
    have B2 := B1.alloc B1.size (.cells #[.int .i64 (readA l 0), .int .i64 (readA l 1), .int .i64 (readA l 2), .slice U (readP l).length uc] 127)
    obtain ⟨c0, c1, f1⟩ := cellsD (keepA b1 (.cells #[.int .i64 (readA l 0), .int .i64 (readA l 1), .int .i64 (readA l 2), .slice U (readP l).length uc] 127))
    go_wp2_with fail
    refine bodyPost_ret (v := aloneV false l (exHigh l)) ?_ rfl ⟨rfl, ?_⟩
    · simp [results, Tryz.results101, go_sem, aloneV, c0, c1]
    · exact (B2.setCell (p := ⟨w.heap.size, 0, none⟩) (Nat.le_refl _) _).setCell (p := ⟨w.heap.size, 1, none⟩) (Nat.le_refl _) _
  | true =>
    have HO := Lib.hid hok
    have HEX := Lib.hid (exOk_of hok)
    obtain ⟨l2, HL2⟩ : ∃ l2, Hid (l2 = l ++ [46, 48]) := ⟨_, Lib.hid rfl⟩
    have hl2 : l2.length ≤ 1048576 := by have h2 : l.length ≤ 200 := (by have := read_back hok; rw [← this]; exact verText_le); rw [HL2.out]; simp; omega
    have HV2 : Hid (∀ W, Calls Tryz.prog 97 #[.string ⟨l2.toArray⟩] W (ReadIs W l2)) := Lib.hid (fun W => specReadVersion_any ⟨l2.toArray⟩ W (by show l2.toArray.size ≤ _; simp; omega))
    have hvr := read_ver hok
    by_cases hp : readP l = []
    · have HPE := Lib.hid hp
      have HM := Lib.hid (plain_empty hok hp)
      have HH := Lib.hid (plain_high hp)
      rw [hp] at hvr
      by_cases hc : readA l 2 < 999999999
      · have HXX : Hid (exOk l = true) := Lib.hid (by rw [HEX.out, HM.out, decide_eq_true hc]; rfl)
        rw [HXX.out]
        have HB := Lib.hid (fun (U : Option Addr) (n cap : Nat) W => l03Below_yes (readA l 0) (readA l 1) (readA l 2) U n cap W hvr hc)
        rw [← HH.out] at HB
        obtain ⟨hi, HHI⟩ : ∃ hi, Hid (exHigh l = hi) := ⟨_, Lib.hid rfl⟩
        simp only [HHI.out] at HB
        rw [HHI.out]
        clear hok hp hc hvr
        go_enter Tryz.func101, Tryz.ntmps101
        go_wp2_with fail
        refine (HV.out _).mono ?_
        rintro e w1 ⟨u, rfl, hu, hb1⟩
        obtain ⟨U, uc, rfl⟩ := hu.slice
        rw [HO.out, HPE.out]
        have B1 := B0.trans (hb1.mono B0.size)
        have b1 := keepB bx hb1
        have B2 := B1.alloc B1.size (.cells #[.int .i64 (readA l 0), .int .i64 (readA l 1), .int .i64 (readA l 2), .slice U 0 uc] 127)
        have b2 := keepA b1 (.cells #[.int .i64 (readA l 0), .int .i64 (readA l 1), .int .i64 (readA l 2), .slice U 0 uc] 127)
        clear hb1 bx B0 hu b1 B1
        go_wp2_with fail
        refine (HB.out _ _ _ _).mono ?_
        rintro e w3 ⟨rfl, hb3⟩
        have B3 := B2.trans (hb3.mono B2.size)
        obtain ⟨c0, c1, f1⟩ := cellsD (keepB b2 hb3)
        go_wp2_with fail
        refine bodyPost_ret (v := aloneV true l hi) ?_ rfl ⟨rfl, ?_⟩
        · simp [results, Tryz.results101, go_sem, aloneV, c0, c1]
        · exact (B3.setCell (p := ⟨w.heap.size, 0, none⟩) (Nat.le_refl _) _).setCell (p := ⟨w.heap.size, 1, none⟩) (Nat.le_refl _) _
      · have HXX : Hid (exOk l = false) := Lib.hid (by rw [HEX.out, HM.out, decide_eq_false hc]; rfl)
        rw [HXX.out]
        have HB := Lib.hid (fun (U : Option Addr) (n cap : Nat) W => l03Below_no (readA l 0) (readA l 1) (readA l 2) U n cap W hvr hc)
        obtain ⟨hi, HHI⟩ : ∃ hi, Hid (exHigh l = hi) := ⟨_, Lib.hid rfl⟩
        rw [HHI.out]
        clear hok hp hc hvr
        go_enter Tryz.func101, Tryz.ntmps101
        go_wp2_with fail
        refine (HV.out _).mono ?_
        rintro e w1 ⟨u, rfl, hu, hb1⟩
        obtain ⟨U, uc, rfl⟩ := hu.slice
        rw [HO.out, HPE.out]
        have B1 := B0.trans (hb1.mono B0.size)
        have b1 := keepB bx hb1
        have B2 := B1.alloc B1.size (.cells #[.int .i64 (readA l 0), .int .i64 (readA l 1), .int .i64 (readA l 2), .slice U 0 uc] 127)
        have b2 := keepA b1 (.cells #[.int .i64 (readA l 0), .int .i64 (readA l 1), .int .i64 (readA l 2), .slice U 0 uc] 127)
        clear hb1 bx B0 hu b1 B1
        go_wp2_with fail
        refine (HB.out _ _ _ _).mono ?_
        rintro e w3 ⟨rfl, hb3⟩
        have B3 := B2.trans (hb3.mono B2.size)
        obtain ⟨c0, c1, f1⟩ := cellsD (keepB b2 hb3)
        go_wp2_with fail
        refine bodyPost_ret (v := aloneV false l hi) ?_ rfl ⟨rfl, ?_⟩
        · simp [results, Tryz.results101, go_sem, aloneV, c0, c1]
        · exact (B3.setCell (p := ⟨w.heap.size, 0, none⟩) (Nat.le_refl _) _).setCell (p := ⟨w.heap.size, 1, none⟩) (Nat.le_refl _) _
    · have HMO := Lib.hid (more_ok hok hp)
      have HMT := Lib.hid (more_text hok hp)
      rw [← HL2.out] at HMO HMT
      have hpl : ¬ (readP l).length = 0 := fun e => hp (List.eq_nil_of_length_eq_zero e)
      have h5 := readP_sm l
      have s1 : ∀ W, (Op.stringOp .add ⟨l.toArray⟩ ⟨#[46, 48]⟩).run Tryz.prog W = .ok (.string ⟨l2.toArray⟩) W := fun W => by rw [HL2.out]; exact add_lists W l [46, 48] (by omega) (by simp)
      obtain ⟨n, HNN⟩ : ∃ n, Hid ((readP l).length = n) := ⟨_, Lib.hid rfl⟩
      rw [HNN.out] at hpl h5
      have hg : (0 : Int) < (n : Int) := by omega
      cases he : (exHigh l).isEmpty with
      | true =>
        have HXX : Hid (exOk l = false) := Lib.hid (by rw [HEX.out, he]; rfl)
        have HOO : Hid (readOk l2 = false) := Lib.hid (by rw [HMO.out, he]; rfl)
        rw [HXX.out]
        obtain ⟨hi, HHI⟩ : ∃ hi, Hid (exHigh l = hi) := ⟨_, Lib.hid rfl⟩
        rw [HHI.out]
        clear hok hp hvr he HMT
        go_enter Tryz.func101, Tryz.ntmps101
        go_wp2_with fail
        refine (HV.out _).mono ?_
        rintro e w1 ⟨u, rfl, hu, hb1⟩
        obtain ⟨U, uc, rfl⟩ := hu.slice
        rw [HO.out, HNN.out]
        have B1 := B0.trans (hb1.mono B0.size)
        have b1 := keepB bx hb1
        have B2 := B1.alloc B1.size (.cells #[.int .i64 (readA l 0), .int .i64 (readA l 1), .int .i64 (readA l 2), .slice U n uc] 127)
        have b2 := keepA b1 (.cells #[.int .i64 (readA l 0), .int .i64 (readA l 1), .int .i64 (readA l 2), .slice U n uc] 127)
        clear hb1 bx B0 hu b1 B1
        go_wp2_with fail
        refine (HV2.out _).mono ?_
        rintro e w3 ⟨u3, rfl, hu3, hb3⟩
        obtain ⟨U3, uc3, rfl⟩ := hu3.slice
        rw [HOO.out]
        have B3 := B2.trans (hb3.mono B2.size)
        obtain ⟨c0, c1, f1⟩ := cellsD (keepB b2 hb3)
        go_wp2_with fail
        refine bodyPost_ret (v := aloneV false l hi) ?_ rfl ⟨rfl, ?_⟩
        · simp [results, Tryz.results101, go_sem, aloneV, c0, c1]
        · exact (B3.setCell (p := ⟨w.heap.size, 0, none⟩) (Nat.le_refl _) _).setCell (p := ⟨w.heap.size, 1, none⟩) (Nat.le_refl _) _
      | false =>
        have HXX : Hid (exOk l = true) := Lib.hid (by rw [HEX.out, he]; rfl)
        have HOO : Hid (readOk l2 = true) := Lib.hid (by rw [HMO.out, he]; rfl)
        have HHH : Hid (exHigh l = l2) := Lib.hid (HMT.out he)
        rw [HXX.out, HHH.out]
        clear hok hp hvr he HMT
        go_enter Tryz.func101, Tryz.ntmps101
        go_wp2_with fail
        refine (HV.out _).mono ?_
        rintro e w1 ⟨u, rfl, hu, hb1⟩
        obtain ⟨U, uc, rfl⟩ := hu.slice
        rw [HO.out, HNN.out]
        have B1 := B0.trans (hb1.mono B0.size)
        have b1 := keepB bx hb1
        have B2 := B1.alloc B1.size (.cells #[.int .i64 (readA l 0), .int .i64 (readA l 1), .int .i64 (readA l 2), .slice U n uc] 127)
        have b2 := keepA b1 (.cells #[.int .i64 (readA l 0), .int .i64 (readA l 1), .int .i64 (readA l 2), .slice U n uc] 127)
        clear hb1 bx B0 hu b1 B1
        go_wp2_with fail
        refine (HV2.out _).mono ?_
        rintro e w3 ⟨u3, rfl, hu3, hb3⟩
        obtain ⟨U3, uc3, rfl⟩ := hu3.slice
        rw [HOO.out]
        have B3 := B2.trans (hb3.mono B2.size)
        obtain ⟨c0, c1, f1⟩ := cellsD (keepB b2 hb3)
        go_wp2_with fail
        refine bodyPost_ret (v := aloneV true l l2) ?_ rfl ⟨rfl, ?_⟩
        · simp [results, Tryz.results101, go_sem, aloneV, c0, c1]
        · exact (B3.setCell (p := ⟨w.heap.size, 0, none⟩) (Nat.le_refl _) _).setCell (p := ⟨w.heap.size, 1, none⟩) (Nat.le_refl _) _

/-- What Exact hands back: a row of its own with the bounds. -/
def ExactIs (w : World) (l : List UInt8) (e : Ending) (w' : World) : Prop := ∃ g, e = .returned (.slice (some ⟨g, 0, none⟩) (exB l).length (exB l).length) ∧ w.heap.size ≤ g ∧ w'.heap[g]? = some (.cells (flat2 (exB l)).toArray 73) ∧ Below w.heap.size w w'

set_option maxRecDepth 100000 in
set_option maxHeartbeats 2000000 in
theorem specExact_any (l : List UInt8) (w : World) (hl : l.length ≤ 1048576) : Calls Tryz.prog 146 #[.string ⟨l.toArray⟩] w (ExactIs w l) := by
  have HA := Lib.hid (l03Alone_any l w hl)
  cases ho : exOk l with
  | false =>
    rw [ho] at HA
    have HX := Lib.hid (exB_no ho)
    clear ho
    go_enter Tryz.func146, Tryz.ntmps146
    go_wp2_with fail
    refine HA.out.mono ?_
    rintro e w1 ⟨rfl, hb1⟩
    unfold aloneV
    go_wp2_with fail
    go_ret
    refine ⟨w1.heap.size + 1, by rw [HX.out]; rfl, by have := hb1.size; omega, ?_, (hb1.alloc hb1.size _).alloc (by have := hb1.size; simp; omega) _⟩
    rw [HX.out]
    exact heap_new (by simp) _
  | true =>
    rw [ho] at HA
    have HX := Lib.hid (exB_yes ho)
    obtain ⟨hi, HHI⟩ : ∃ hi, Hid (exHigh l = hi) := ⟨_, Lib.hid rfl⟩
    rw [HHI.out] at HA HX
    clear ho
    go_enter Tryz.func146, Tryz.ntmps146
    go_wp2_with fail
    refine HA.out.mono ?_
    rintro e w1 ⟨rfl, hb1⟩
    unfold aloneV
    go_wp2_with fail
    go_ret
    refine ⟨w1.heap.size + 1, by rw [HX.out]; rfl, by have := hb1.size; omega, ?_, (hb1.alloc hb1.size _).alloc (by have := hb1.size; simp; omega) _⟩
    rw [HX.out]
    exact heap_new (by simp) _
end Go.Proofs.YtongpnknmgbhjaaGreatDoor
