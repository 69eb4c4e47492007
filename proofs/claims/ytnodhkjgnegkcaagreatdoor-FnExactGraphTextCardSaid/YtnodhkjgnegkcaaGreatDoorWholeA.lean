/-
  spec.l04Keys: whether texts are ascending, and each one of a graph's keys.
-/
import Derived.Test.YtnodhkjgnegkcaaGreatDoorHeap
import Derived.Deep.RegionHeld3
import Derived.Laws.DeepStrings4
import Derived.Test.YtnodhkjgnegkcaaGreatDoorAlgM
import Derived.Test.YtnodhkjgnegkcaaGreatDoorExM
import Derived.Test.YtnodhkjgnegkcaaGreatDoorNextS
import Derived.Test.YtnodhkjgnegkcaaGreatDoorCmpW
import Derived.Test.YtnodhkjgnegkcaaGreatDoorRdS
import Derived.Test.YtnodhkjgnegkcaaGreatDoorCut
import Derived.Test.YtnodhkjgnegkcaaGreatDoorChar
import Derived.Test.YtnodhkjgnegkcaaGreatDoorRows
import Derived.Test.YtnodhkjgnegkcaaGreatDoorBase
import Derived.Test.YtnodhkjgnegkcaaGreatDoorSmsM
import Derived.Test.YtnodhkjgnegkcaaGreatDoorPk
import Derived.Test.YtnodhkjgnegkcaaGreatDoorFindM
import Derived.Deep.QuietTactic
import Derived.BigQuiet
/-
  spec.l04Long: how many bytes a sum of an algorithm has; texts put together.
-/
namespace Go.Proofs.YtnodhkjgnegkcaaGreatDoor
open Go.RowKit

/-- Two texts put together. -/
theorem add_lists (W : World) (x y : List UInt8) (hx : x.length ≤ 1073741824) (hy : y.length ≤ 1073741824) : (Op.stringOp .add ⟨x.toArray⟩ ⟨y.toArray⟩).run Tryz.prog W = .ok (.string ⟨(x ++ y).toArray⟩) W := by
  rw [run_string_add_sum W _ _ (by simp [ByteArray.size]; omega), ByteArray.mk_append_mk]
set_option maxRecDepth 100000 in
theorem l04Long_any (a : List UInt8) (w : World) : Calls Tryz.prog 158 #[.string ⟨a.toArray⟩] w fun e w' => e = .returned (.int .i64 (longI a)) ∧ w = w' := by
  by_cases h1 : a = sha1L
  · subst h1
    go_enter Tryz.func158, Tryz.ntmps158
    go_wp2
    go_ret
    exact ⟨rfl, rfl⟩
  · by_cases h2 : a = sha256L
    · subst h2
      go_enter Tryz.func158, Tryz.ntmps158
      go_wp2
      go_ret
      exact ⟨rfl, rfl⟩
    · by_cases h0 : a = h1L
      · subst h0
        go_enter Tryz.func158, Tryz.ntmps158
        go_wp2
        go_ret
        exact ⟨rfl, rfl⟩
      · by_cases h3 : a = sha512L
        · subst h3
          go_enter Tryz.func158, Tryz.ntmps158
          go_wp2
          go_ret
          exact ⟨rfl, rfl⟩
        · have HX : Hid (longI a = -1) := Lib.hid (by unfold longI; rw [if_neg h1, if_neg h2, if_neg h0, if_neg h3])
          have q1 : (a == [115, 104, 97, 49]) = false := by simpa [sha1L] using h1
          have q2 : (a == [115, 104, 97, 50, 53, 54]) = false := by simpa [sha256L] using h2
          have q3 : (a == [104, 49]) = false := by simpa [h1L] using h0
          have q4 : (a == [115, 104, 97, 53, 49, 50]) = false := by simpa [sha512L] using h3
          clear h1 h2 h0 h3
          go_enter Tryz.func158, Tryz.ntmps158
          go_wp2
          go_ret
          exact ⟨ret_int HX.out.symm, rfl⟩

theorem RdB.at {w : World} {A : Option Addr} {n cap : Nat} {bs : List Bd} (h : RdB w (.slice A n cap) bs) (k : Nat) (hk : k < bs.length) : ∃ g off, A = some ⟨g, off, none⟩ ∧ g < w.heap.size ∧ w.cell? ⟨g, off + k * 2, none⟩ = some (.string ⟨bs[k].1.toArray⟩) ∧ w.cell? ⟨g, off + k * 2 + 1, none⟩ = some (.string ⟨bs[k].2.toArray⟩) := by
  obtain ⟨A', ca', hv, ha⟩ := h
  simp only [Value.slice.injEq] at hv
  obtain ⟨rfl, _, rfl⟩ := hv
  obtain ⟨g, off, hA, hg, hc⟩ := ha (by omega)
  exact ⟨g, off, hA, hg, (hc k hk).1, (hc k hk).2⟩
theorem keep2 {W V : World} {A B o p : Nat} {v u : Value} (hb : Below W.heap.size W V) (h : W.cell? ⟨A, o, none⟩ = some v ∧ W.cell? ⟨B, p, none⟩ = some u) : V.cell? ⟨A, o, none⟩ = some v ∧ V.cell? ⟨B, p, none⟩ = some u := ⟨keepC hb h.1, keepC hb h.2⟩

end Go.Proofs.YtnodhkjgnegkcaaGreatDoor

/-
  spec.Exact: the bound of one version alone.
-/
namespace Go.Proofs.YtnodhkjgnegkcaaGreatDoor
open Go.RowKit

theorem sm_z : Sm [[48]] := ⟨by simp, fun l h => by simp at h; subst h; simp⟩
theorem sm_readP (l : List UInt8) : Sm (readP l) := by
  have h5 := readP_sm l
  refine ⟨by omega, fun x hx => ?_⟩
  unfold readP at hx
  split at hx
  · rename_i h
    have hv := read_ver h
    have : readP l = tailL l := by simp [readP, h]
    rw [← this] at hx
    have := verOk_len hv x hx
    omega
  · cases hx
theorem next_plus {a b c : Int} (h : verOk a b c [] = true) : (c < 999999999 → nextN a b c [] 2 = (a, b, c + 1)) ∧ (¬ c < 999999999 → nextN a b c [] 2 = (a, b, c)) ∧ nextL a b c [] 2 = [] := by
  have hx : nxt a b c [] 2 = (a, b, c + 1) := by unfold nxt; simp
  have hn : nextOk a b c [] 2 = verOk a b (c + 1) [] := nextOk_of h (by decide) hx
  rw [(plus_ok h).2] at hn
  refine ⟨fun hc => ?_, fun hc => ?_, ?_⟩
  · rw [(next_good (by rw [hn]; exact decide_eq_true hc)).1, hx]
  · rw [(next_same (by rw [hn]; exact decide_eq_false hc)).1]
  · unfold nextL; split <;> rfl
theorem cmp_plus (a b c : Int) : ¬ cmpVer a b (c + 1) [] a b c [] = 0 := by
  unfold cmpVer
  rw [cmpI_same, cmpI_same, orI_zero, orI_zero]
  have : cmpI (c + 1) c = 1 := by unfold cmpI; rw [if_neg (by omega), if_pos (by omega)]
  rw [this, orI_ne _ (by omega)]
  omega
theorem cmp_self (a b c : Int) : cmpVer a b c [] a b c [] = 0 := by
  unfold cmpVer
  rw [cmpI_same, cmpI_same, cmpI_same, orI_zero, orI_zero, orI_zero]
  rfl

theorem rdS_lit1 (W : World) (n : Nat) (hn : W.heap.size = n) (x : List UInt8) (T : TypeId) : RdS (W.alloc (.cells #[.string ⟨x.toArray⟩] T)) (.slice (some ⟨n, 0, none⟩) 1 1) [x] := by
  subst hn
  refine ⟨_, 1, rfl, fun _ => ⟨W.heap.size, 0, rfl, by simp, fun k hk => ?_⟩⟩
  have hk0 : k = 0 := by simp at hk; omega
  subst hk0
  have hc : ∀ (V : World) (n : Nat) (v : Value), V.heap[n]? = some (.cells #[v] T) → V.cell? ⟨n, 0, none⟩ = some v := fun V n v h => by simp [World.cell?, h]
  exact hc _ _ _ (heap_alloc_new W (.cells #[.string ⟨x.toArray⟩] T))

set_option maxRecDepth 100000 in
set_option maxHeartbeats 4000000 in
theorem l03Below_yes (a b c : Int) (A : Option Addr) (n cap : Nat) (w : World) (hv : verOk a b c [] = true) (hc : c < 999999999) :
    Calls Tryz.prog 227 #[.agg #[.int .i64 a, .int .i64 b, .int .i64 c, .slice A n cap], .int .i64 2] w fun e w' => e = .returned (.tuple #[.string ⟨(verText a b (c + 1) [[48]]).toArray⟩, .bool true]) ∧ Below w.heap.size w w' := by
  obtain ⟨hN, _, hL⟩ := next_plus hv
  have HX := Lib.hid (fun (v : Value) (W : World) (h : RdS W v []) => specNext_any a b c 2 v [] W h sm_nil a b (c + 1) [] (hN hc) hL)
  have HC := Lib.hid (fun (va vb : Value) (W : World) (h1 : RdS W va []) (h2 : RdS W vb []) => specCompareVersion_any a b (c + 1) a b c va vb [] [] W h1 h2 sm_nil sm_nil)
  have hcp := cmp_plus a b c
  obtain ⟨z, HZ⟩ : ∃ z, Hid (cmpVer a b (c + 1) [] a b c [] = z) := ⟨_, Lib.hid rfl⟩
  simp only [HZ.out] at HC
  rw [HZ.out] at hcp
  have hz : (z == 0) = false := int_beq_false hcp
  have HT := Lib.hid (fun (v : Value) (W : World) (h : RdS W v [[48]]) => specVersionText_any a b (c + 1) v [[48]] W h sm_z)
  obtain ⟨t, HTT⟩ : ∃ t, Hid (verText a b (c + 1) [[48]] = t) := ⟨_, Lib.hid rfl⟩
  simp only [HTT.out] at HT
  rw [HTT.out]
  clear hN hL hv hcp
  have B0 : Below w.heap.size w ((w.alloc (.cells #[.int .i64 a, .int .i64 b, .int .i64 c, .slice (some ⟨w.heap.size + 1, 0, none⟩) 0 0] 117)).alloc (.cells #[] 9)) := ((Below.refl _ _).alloc (Nat.le_refl _) _).alloc (by simp) _
  have bx := keepA (heap_alloc_new w (.cells #[.int .i64 a, .int .i64 b, .int .i64 c, .slice (some ⟨w.heap.size + 1, 0, none⟩) 0 0] 117)) (.cells #[] 9)
  have hr0 : ∀ (W : World), RdS W (.slice (some ⟨w.heap.size + 1, 0, none⟩) 0 0) [] := fun W => ⟨_, _, rfl, fun h => by simp at h⟩
  go_enter Tryz.func227, Tryz.ntmps227
  go_wp2_with fail
  refine (HX.out _ _ (hr0 _)).mono ?_
  rintro e w1 ⟨u, rfl, hu, hb1⟩
  obtain ⟨U, uc, rfl⟩ := hu.slice
  have B1 := B0.trans (hb1.mono B0.size)
  have b1 := keepB bx hb1
  have hu1 : ∀ W, RdS W (.slice U 0 uc) [] := fun W => ⟨_, _, rfl, fun h => by simp at h⟩
  have hs1 : w.heap.size ≤ w1.heap.size := B1.size
  clear hb1 bx B0 hu
  have B2 : Below w.heap.size w (w1.alloc (.cells #[.int .i64 a, .int .i64 b, .int .i64 (c + 1), .slice U 0 uc] 117)) := B1.alloc B1.size _
  have b2 := keepA b1 (.cells #[.int .i64 a, .int .i64 b, .int .i64 (c + 1), .slice U 0 uc] 117)
  have n2 := heap_alloc_new w1 (.cells #[.int .i64 a, .int .i64 b, .int .i64 (c + 1), .slice U 0 uc] 117)
  obtain ⟨p0, p1, p2, p3⟩ := cells4 b2
  go_wp2_with fail
  refine (HC.out _ _ _ (hu1 _) (hr0 _)).mono ?_
  rintro e w3 ⟨rfl, hb3⟩
  have B3 := B2.trans (hb3.mono B2.size)
  have n3 := keepB n2 hb3
  clear hb3 B2 b2 n2 p0 p1 p2 p3 b1 B1
  obtain ⟨q0, q1, q2, q3⟩ := cells4 n3
  have f3 := frozen4 n3 3
  have hs4 : w1.heap.size < w3.heap.size := lt_of_heap n3
  go_wp2_with fail
  refine (HT.out _ _ (rdS_lit1 _ _ (by simp) [48] _)).mono ?_
  rintro e w5 ⟨rfl, hb5⟩
  have B4 := (B3.setCell (p := ⟨w1.heap.size, 3, none⟩) hs1 (.slice (some ⟨w3.heap.size, 0, none⟩) 1 1)).alloc (by simp; omega) (.cells #[.string ⟨#[48]⟩] 9)
  go_wp2_with fail
  go_ret2
  exact ⟨rfl, B4.trans (hb5.mono (by simp; omega))⟩

set_option maxRecDepth 100000 in
set_option maxHeartbeats 4000000 in
theorem l03Below_no (a b c : Int) (A : Option Addr) (n cap : Nat) (w : World) (hv : verOk a b c [] = true) (hc : ¬ c < 999999999) :
    Calls Tryz.prog 227 #[.agg #[.int .i64 a, .int .i64 b, .int .i64 c, .slice A n cap], .int .i64 2] w fun e w' => e = .returned (.tuple #[.string ⟨#[]⟩, .bool false]) ∧ Below w.heap.size w w' := by
  obtain ⟨_, hN, hL⟩ := next_plus hv
  have HX := Lib.hid (fun (v : Value) (W : World) (h : RdS W v []) => specNext_any a b c 2 v [] W h sm_nil a b c [] (hN hc) hL)
  have HC := Lib.hid (fun (va vb : Value) (W : World) (h1 : RdS W va []) (h2 : RdS W vb []) => specCompareVersion_any a b c a b c va vb [] [] W h1 h2 sm_nil sm_nil)
  simp only [cmp_self] at HC
  clear hN hL hv
  have B0 : Below w.heap.size w ((w.alloc (.cells #[.int .i64 a, .int .i64 b, .int .i64 c, .slice (some ⟨w.heap.size + 1, 0, none⟩) 0 0] 117)).alloc (.cells #[] 9)) := ((Below.refl _ _).alloc (Nat.le_refl _) _).alloc (by simp) _
  have bx := keepA (heap_alloc_new w (.cells #[.int .i64 a, .int .i64 b, .int .i64 c, .slice (some ⟨w.heap.size + 1, 0, none⟩) 0 0] 117)) (.cells #[] 9)
  have hr0 : ∀ (W : World), RdS W (.slice (some ⟨w.heap.size + 1, 0, none⟩) 0 0) [] := fun W => ⟨_, _, rfl, fun h => by simp at h⟩
  go_enter Tryz.func227, Tryz.ntmps227
  go_wp2_with fail
  refine (HX.out _ _ (hr0 _)).mono ?_
  rintro e w1 ⟨u, rfl, hu, hb1⟩
  obtain ⟨U, uc, rfl⟩ := hu.slice
  have B1 := B0.trans (hb1.mono B0.size)
  have b1 := keepB bx hb1
  have hu1 : ∀ W, RdS W (.slice U 0 uc) [] := fun W => ⟨_, _, rfl, fun h => by simp at h⟩
  clear hb1 bx B0 hu
  have B2 : Below w.heap.size w (w1.alloc (.cells #[.int .i64 a, .int .i64 b, .int .i64 c, .slice U 0 uc] 117)) := B1.alloc B1.size _
  have b2 := keepA b1 (.cells #[.int .i64 a, .int .i64 b, .int .i64 c, .slice U 0 uc] 117)
  obtain ⟨p0, p1, p2, p3⟩ := cells4 b2
  go_wp2_with fail
  refine (HC.out _ _ _ (hu1 _) (hr0 _)).mono ?_
  rintro e w3 ⟨rfl, hb3⟩
  go_wp2_with fail
  go_ret2
  exact ⟨rfl, B2.trans (hb3.mono B2.size)⟩

theorem cellsD {V : World} {B : Nat} {T : TypeId} {v0 v1 : Value} (h : V.heap[B]? = some (.cells #[v0, v1] T)) : V.cell? ⟨B, 0, none⟩ = some v0 ∧ V.cell? ⟨B, 1, none⟩ = some v1 ∧ ∀ o, V.frozen? ⟨B, o, none⟩ = false := by
  refine ⟨by simp [World.cell?, h], by simp [World.cell?, h], fun o => by simp [World.frozen?, h]⟩
/-- What l03Alone hands back. -/
def aloneV (ok : Bool) (l hi : List UInt8) : Value := .tuple #[.agg #[.string ⟨(if ok = true then l else []).toArray⟩, .string ⟨(if ok = true then hi else []).toArray⟩], .bool ok]

set_option maxRecDepth 100000 in
set_option maxHeartbeats 4000000 in
theorem l03Alone_any (l : List UInt8) (w : World) (hl : l.length ≤ 1048576) :
    Calls Tryz.prog 184 #[.string ⟨l.toArray⟩] w fun e w' => e = .returned (aloneV (exOk l) l (exHigh l)) ∧ Below w.heap.size w w' := by
  have HV : Hid (∀ W, Calls Tryz.prog 91 #[.string ⟨l.toArray⟩] W (ReadIs W l)) := Lib.hid (fun W => specReadVersion_any ⟨l.toArray⟩ W (by show l.toArray.size ≤ _; simp; omega))
  have B0 : Below w.heap.size w (w.alloc (.cells #[.string ⟨#[]⟩, .string ⟨#[]⟩] 166)) := (Below.refl _ _).alloc (Nat.le_refl _) _
  have bx := heap_alloc_new w (.cells #[.string ⟨#[]⟩, .string ⟨#[]⟩] 166)
  cases hok : readOk l with
  | false =>
    rw [exOk_bad hok]
    have HO := Lib.hid hok
    clear hok
    go_enter Tryz.func184, Tryz.ntmps184
    go_wp2_with fail
    refine (HV.out _).mono ?_
    rintro e w1 ⟨u, rfl, hu, hb1⟩
    obtain ⟨U, uc, rfl⟩ := hu.slice
    rw [HO.out]
    have B1 := B0.trans (hb1.mono B0.size)
    have b1 := keepB bx hb1
    have B2 := B1.alloc B1.size (.cells #[.int .i64 (readA l 0), .int .i64 (readA l 1), .int .i64 (readA l 2), .slice U (readP l).length uc] 117)
    obtain ⟨c0, c1, f1⟩ := cellsD (keepA b1 (.cells #[.int .i64 (readA l 0), .int .i64 (readA l 1), .int .i64 (readA l 2), .slice U (readP l).length uc] 117))
    go_wp2_with fail
    refine bodyPost_ret (v := aloneV false l (exHigh l)) ?_ rfl ⟨rfl, ?_⟩
    · simp [results, Tryz.results184, go_sem, aloneV, c0, c1]
    · exact (B2.setCell (p := ⟨w.heap.size, 0, none⟩) (Nat.le_refl _) _).setCell (p := ⟨w.heap.size, 1, none⟩) (Nat.le_refl _) _
  | true =>
    have HO := Lib.hid hok
    have HEX := Lib.hid (exOk_of hok)
    obtain ⟨l2, HL2⟩ : ∃ l2, Hid (l2 = l ++ [46, 48]) := ⟨_, Lib.hid rfl⟩
    have hl2 : l2.length ≤ 1048576 := by have h2 : l.length ≤ 200 := (by have := read_back hok; rw [← this]; exact verText_le); rw [HL2.out]; simp; omega
    have HV2 : Hid (∀ W, Calls Tryz.prog 91 #[.string ⟨l2.toArray⟩] W (ReadIs W l2)) := Lib.hid (fun W => specReadVersion_any ⟨l2.toArray⟩ W (by show l2.toArray.size ≤ _; simp; omega))
    have hvr := read_ver hok
    by_cases hp : readP l = []
    · have HPE := Lib.hid hp
      have HM := Lib.hid (plain_empty hok hp)
      have HH := Lib.hid (plain_high hp)
      rw [hp] at hvr
      by_cases hc : readA l 2 < 999999999
      · have HXX : Hid (exOk l = true) := Lib.hid (by rw [HEX.out, HM.out, decide_eq_true hc]; rfl)
        rw [HXX.out]
        have HB := Lib.hid (fun (U : Option Addr) (n cap : Nat) W => l03Below_yes (readA l 0) (readA l 1) (readA l 2) U n cap W hvr hc)
        rw [← HH.out] at HB
        obtain ⟨hi, HHI⟩ : ∃ hi, Hid (exHigh l = hi) := ⟨_, Lib.hid rfl⟩
        simp only [HHI.out] at HB
        rw [HHI.out]
        clear hok hp hc hvr
        go_enter Tryz.func184, Tryz.ntmps184
        go_wp2_with fail
        refine (HV.out _).mono ?_
        rintro e w1 ⟨u, rfl, hu, hb1⟩
        obtain ⟨U, uc, rfl⟩ := hu.slice
        rw [HO.out, HPE.out]
        have B1 := B0.trans (hb1.mono B0.size)
        have b1 := keepB bx hb1
        have B2 := B1.alloc B1.size (.cells #[.int .i64 (readA l 0), .int .i64 (readA l 1), .int .i64 (readA l 2), .slice U 0 uc] 117)
        have b2 := keepA b1 (.cells #[.int .i64 (readA l 0), .int .i64 (readA l 1), .int .i64 (readA l 2), .slice U 0 uc] 117)
        clear hb1 bx B0 hu b1 B1
        go_wp2_with fail
        refine (HB.out _ _ _ _).mono ?_
        rintro e w3 ⟨rfl, hb3⟩
        have B3 := B2.trans (hb3.mono B2.size)
        obtain ⟨c0, c1, f1⟩ := cellsD (keepB b2 hb3)
        go_wp2_with fail
        refine bodyPost_ret (v := aloneV true l hi) ?_ rfl ⟨rfl, ?_⟩
        · simp [results, Tryz.results184, go_sem, aloneV, c0, c1]
        · exact (B3.setCell (p := ⟨w.heap.size, 0, none⟩) (Nat.le_refl _) _).setCell (p := ⟨w.heap.size, 1, none⟩) (Nat.le_refl _) _
      · have HXX : Hid (exOk l = false) := Lib.hid (by rw [HEX.out, HM.out, decide_eq_false hc]; rfl)
        rw [HXX.out]
        have HB := Lib.hid (fun (U : Option Addr) (n cap : Nat) W => l03Below_no (readA l 0) (readA l 1) (readA l 2) U n cap W hvr hc)
        obtain ⟨hi, HHI⟩ : ∃ hi, Hid (exHigh l = hi) := ⟨_, Lib.hid rfl⟩
        rw [HHI.out]
        clear hok hp hc hvr
        go_enter Tryz.func184, Tryz.ntmps184
        go_wp2_with fail
        refine (HV.out _).mono ?_
        rintro e w1 ⟨u, rfl, hu, hb1⟩
        obtain ⟨U, uc, rfl⟩ := hu.slice
        rw [HO.out, HPE.out]
        have B1 := B0.trans (hb1.mono B0.size)
        have b1 := keepB bx hb1
        have B2 := B1.alloc B1.size (.cells #[.int .i64 (readA l 0), .int .i64 (readA l 1), .int .i64 (readA l 2), .slice U 0 uc] 117)
        have b2 := keepA b1 (.cells #[.int .i64 (readA l 0), .int .i64 (readA l 1), .int .i64 (readA l 2), .slice U 0 uc] 117)
        clear hb1 bx B0 hu b1 B1
        go_wp2_with fail
        refine (HB.out _ _ _ _).mono ?_
        rintro e w3 ⟨rfl, hb3⟩
        have B3 := B2.trans (hb3.mono B2.size)
        obtain ⟨c0, c1, f1⟩ := cellsD (keepB b2 hb3)
        go_wp2_with fail
        refine bodyPost_ret (v := aloneV false l hi) ?_ rfl ⟨rfl, ?_⟩
        · simp [results, Tryz.results184, go_sem, aloneV, c0, c1]
        · exact (B3.setCell (p := ⟨w.heap.size, 0, none⟩) (Nat.le_refl _) _).setCell (p := ⟨w.heap.size, 1, none⟩) (Nat.le_refl _) _
    · have HMO := Lib.hid (more_ok hok hp)
      have HMT := Lib.hid (more_text hok hp)
      rw [← HL2.out] at HMO HMT
      have hpl : ¬ (readP l).length = 0 := fun e => hp (List.eq_nil_of_length_eq_zero e)
      have h5 := readP_sm l
      have s1 : ∀ W, (Op.stringOp .add ⟨l.toArray⟩ ⟨#[46, 48]⟩).run Tryz.prog W = .ok (.string ⟨l2.toArray⟩) W := fun W => by rw [HL2.out]; exact add_lists W l [46, 48] (by omega) (by simp)
      obtain ⟨n, HNN⟩ : ∃ n, Hid ((readP l).length = n) := ⟨_, Lib.hid rfl⟩
      rw [HNN.out] at hpl h5
      have hg : (0 : Int) < (n : Int) := by omega
      cases he : (exHigh l).isEmpty with
      | true =>
        have HXX : Hid (exOk l = false) := Lib.hid (by rw [HEX.out, he]; rfl)
        have HOO : Hid (readOk l2 = false) := Lib.hid (by rw [HMO.out, he]; rfl)
        rw [HXX.out]
        obtain ⟨hi, HHI⟩ : ∃ hi, Hid (exHigh l = hi) := ⟨_, Lib.hid rfl⟩
        rw [HHI.out]
        clear hok hp hvr he HMT
        go_enter Tryz.func184, Tryz.ntmps184
        go_wp2_with fail
        refine (HV.out _).mono ?_
        rintro e w1 ⟨u, rfl, hu, hb1⟩
        obtain ⟨U, uc, rfl⟩ := hu.slice
        rw [HO.out, HNN.out]
        have B1 := B0.trans (hb1.mono B0.size)
        have b1 := keepB bx hb1
        have B2 := B1.alloc B1.size (.cells #[.int .i64 (readA l 0), .int .i64 (readA l 1), .int .i64 (readA l 2), .slice U n uc] 117)
        have b2 := keepA b1 (.cells #[.int .i64 (readA l 0), .int .i64 (readA l 1), .int .i64 (readA l 2), .slice U n uc] 117)
        clear hb1 bx B0 hu b1 B1
        go_wp2_with fail
        refine (HV2.out _).mono ?_
        rintro e w3 ⟨u3, rfl, hu3, hb3⟩
        obtain ⟨U3, uc3, rfl⟩ := hu3.slice
        rw [HOO.out]
        have B3 := B2.trans (hb3.mono B2.size)
        obtain ⟨c0, c1, f1⟩ := cellsD (keepB b2 hb3)
        go_wp2_with fail
        refine bodyPost_ret (v := aloneV false l hi) ?_ rfl ⟨rfl, ?_⟩
        · simp [results, Tryz.results184, go_sem, aloneV, c0, c1]
        · exact (B3.setCell (p := ⟨w.heap.size, 0, none⟩) (Nat.le_refl _) _).setCell (p := ⟨w.heap.size, 1, none⟩) (Nat.le_refl _) _
      | false =>
        have HXX : Hid (exOk l = true) := Lib.hid (by rw [HEX.out, he]; rfl)
        have HOO : Hid (readOk l2 = true) := Lib.hid (by rw [HMO.out, he]; rfl)
        have HHH : Hid (exHigh l = l2) := Lib.hid (HMT.out he)
        rw [HXX.out, HHH.out]
        clear hok hp hvr he HMT
        go_enter Tryz.func184, Tryz.ntmps184
        go_wp2_with fail
        refine (HV.out _).mono ?_
        rintro e w1 ⟨u, rfl, hu, hb1⟩
        obtain ⟨U, uc, rfl⟩ := hu.slice
        rw [HO.out, HNN.out]
        have B1 := B0.trans (hb1.mono B0.size)
        have b1 := keepB bx hb1
        have B2 := B1.alloc B1.size (.cells #[.int .i64 (readA l 0), .int .i64 (readA l 1), .int .i64 (readA l 2), .slice U n uc] 117)
        have b2 := keepA b1 (.cells #[.int .i64 (readA l 0), .int .i64 (readA l 1), .int .i64 (readA l 2), .slice U n uc] 117)
        clear hb1 bx B0 hu b1 B1
        go_wp2_with fail
        refine (HV2.out _).mono ?_
        rintro e w3 ⟨u3, rfl, hu3, hb3⟩
        obtain ⟨U3, uc3, rfl⟩ := hu3.slice
        rw [HOO.out]
        have B3 := B2.trans (hb3.mono B2.size)
        obtain ⟨c0, c1, f1⟩ := cellsD (keepB b2 hb3)
        go_wp2_with fail
        refine bodyPost_ret (v := aloneV true l l2) ?_ rfl ⟨rfl, ?_⟩
        · simp [results, Tryz.results184, go_sem, aloneV, c0, c1]
        · exact (B3.setCell (p := ⟨w.heap.size, 0, none⟩) (Nat.le_refl _) _).setCell (p := ⟨w.heap.size, 1, none⟩) (Nat.le_refl _) _

/-- What Exact hands back: a row of its own with the bounds. -/
def ExactIs (w : World) (l : List UInt8) (e : Ending) (w' : World) : Prop := ∃ g, e = .returned (.slice (some ⟨g, 0, none⟩) (exB l).length (exB l).length) ∧ w.heap.size ≤ g ∧ w'.heap[g]? = some (.cells (flat2 (exB l)).toArray 166) ∧ Below w.heap.size w w'

set_option maxRecDepth 100000 in
set_option maxHeartbeats 2000000 in
theorem specExact_any (l : List UInt8) (w : World) (hl : l.length ≤ 1048576) : Calls Tryz.prog 159 #[.string ⟨l.toArray⟩] w (ExactIs w l) := by
  have HA := Lib.hid (l03Alone_any l w hl)
  cases ho : exOk l with
  | false =>
    rw [ho] at HA
    have HX := Lib.hid (exB_no ho)
    clear ho
    go_enter Tryz.func159, Tryz.ntmps159
    go_wp2_with fail
    refine HA.out.mono ?_
    rintro e w1 ⟨rfl, hb1⟩
    unfold aloneV
    go_wp2_with fail
    go_ret
    refine ⟨w1.heap.size + 1, by rw [HX.out]; rfl, by have := hb1.size; omega, ?_, (hb1.alloc hb1.size _).alloc (by have := hb1.size; simp; omega) _⟩
    rw [HX.out]
    exact heap_new (by simp) _
  | true =>
    rw [ho] at HA
    have HX := Lib.hid (exB_yes ho)
    obtain ⟨hi, HHI⟩ : ∃ hi, Hid (exHigh l = hi) := ⟨_, Lib.hid rfl⟩
    rw [HHI.out] at HA HX
    clear ho
    go_enter Tryz.func159, Tryz.ntmps159
    go_wp2_with fail
    refine HA.out.mono ?_
    rintro e w1 ⟨rfl, hb1⟩
    unfold aloneV
    go_wp2_with fail
    go_ret
    refine ⟨w1.heap.size + 1, by rw [HX.out]; rfl, by have := hb1.size; omega, ?_, (hb1.alloc hb1.size _).alloc (by have := hb1.size; simp; omega) _⟩
    rw [HX.out]
    exact heap_new (by simp) _
end Go.Proofs.YtnodhkjgnegkcaaGreatDoor

/-
  spec.NameOk returns whether a string is a package name.
-/
namespace Go.Proofs.YtnodhkjgnegkcaaGreatDoor
open Go.RowKit

def nameI (z : Int) : Bool := decide ((97 ≤ z ∧ z ≤ 122) ∨ (48 ≤ z ∧ z ≤ 57) ∨ z = 46 ∨ z = 95 ∨ z = 45)
def nameB (c : UInt8) : Bool := nameI (c.toNat : Int)
def nmL : List UInt8 := [110, 111, 100, 101, 95, 109, 111, 100, 117, 108, 101, 115]
def compL (l : List UInt8) : Bool := !l.isEmpty && l.all nameB
def chk (sc : Bool) (p : List UInt8) : Bool := compL p && (sc || !(p == nmL))
def chkS (p : List UInt8) : Bool := if p.head? = some 64 then compL p.tail else chk false p
def specN (l : List UInt8) : Bool := (match cutL 47 l with
  | [] => true
  | p :: ps => chkS p && ps.all (chk false)) && decide (l.length ≤ 60)

theorem name_ways (z : Int) : lettI z = true ∨ (lettI z = false ∧ (z == 46) = true) ∨ (lettI z = false ∧ (z == 46) = false ∧ (z == 95) = true) ∨ (lettI z = false ∧ (z == 46) = false ∧ (z == 95) = false ∧ (z == 45) = true) ∨ (lettI z = false ∧ (z == 46) = false ∧ (z == 95) = false ∧ (z == 45) = false) := by
  cases lettI z <;> simp <;> omega
theorem name_yes {z : Int} (h : lettI z = true ∨ (z == 46) = true ∨ (z == 95) = true ∨ (z == 45) = true) : nameI z = true := by
  unfold lettI at h; unfold nameI; simp at h ⊢; omega
theorem name_no {z : Int} (h : lettI z = false ∧ (z == 46) = false ∧ (z == 95) = false ∧ (z == 45) = false) : nameI z = false := by
  unfold lettI at h; unfold nameI; simp at h ⊢; omega
theorem bne_of_beq {z c : Int} {b : Bool} (h : (z == c) = b) : (z != c) = !b := by unfold bne; rw [h]

theorem all_no (s : ByteArray) (k : Nat) (p : UInt8 → Bool) (h : k < s.size) (hb : p s[k] = false) : s.data.toList.all p = false := by
  rw [List.all_eq_false]
  have hm : s[k] ∈ s.data.toList := by
    have : s[k] = s.data.toList[k]'(by simpa using h) := rfl
    rw [this]; exact List.getElem_mem _
  exact ⟨_, hm, by simp [hb]⟩
theorem all_go (s : ByteArray) (k : Nat) (p : UInt8 → Bool) (h : k < s.size) (ha : (s.data.toList.take k).all p = true) (hb : p s[k] = true) : (s.data.toList.take (k + 1)).all p = true := by
  rw [take_snoc s k h, List.all_append, ha]; simp [hb]

/-- The first j parts are right. -/
def okS (j : Nat) (p : List UInt8) : Bool := if j = 0 then chkS p else chk false p
def UpTo (P : List (List UInt8)) (j : Nat) : Prop := ∀ t, t < j → okS t (P.getD t []) = true
theorem upTo_next {P : List (List UInt8)} {j : Nat} (h : UpTo P j) (hj : okS j (P.getD j []) = true) : UpTo P (j + 1) := fun t ht => by
  rcases Nat.lt_or_ge t j with h1 | h1
  · exact h t h1
  · obtain rfl : t = j := by omega
    exact hj
theorem specN_bad {l : List UInt8} {j : Nat} (hj : j < (cutL 47 l).length) (h : okS j ((cutL 47 l).getD j []) = false) : specN l = false := by
  unfold specN
  rw [Bool.and_eq_false_iff]; left
  cases hP : cutL 47 l with
  | nil => rw [hP] at hj; simp at hj
  | cons p ps =>
    rw [hP] at h hj
    simp only
    rw [Bool.and_eq_false_iff]
    cases j with
    | zero => left; simpa [okS] using h
    | succ j =>
      right
      simp [okS] at h
      simp at hj
      rw [List.all_eq_false]
      refine ⟨ps[j], List.getElem_mem _, ?_⟩
      simpa [hj] using h
theorem specN_end {l : List UInt8} (h : UpTo (cutL 47 l) (cutL 47 l).length) : specN l = decide (l.length ≤ 60) := by
  unfold specN
  cases hP : cutL 47 l with
  | nil => simp
  | cons p ps =>
    rw [hP] at h
    have h0 := h 0 (by simp)
    simp [okS] at h0
    have hr : ps.all (chk false) = true := by
      rw [List.all_eq_true]
      intro x hx
      obtain ⟨t, ht, rfl⟩ := List.mem_iff_getElem.1 hx
      have := h (t + 1) (by simp; omega)
      simpa [okS, ht] using this
    simp only
    rw [h0, hr]; simp

theorem attach_len (p : List UInt8) {X : List (List UInt8)} (h : X ≠ []) : (attach p X).length = X.length := by cases X <;> simp_all [attach]
theorem cutL_len (m : UInt8) (l : List UInt8) : (cutL m l).length ≤ l.length + 1 := by
  induction l with
  | nil => simp [cutL]
  | cons c l ih =>
    unfold cutL
    split
    · simp; omega
    · rw [attach_len _ (cutL_ne m l)]; simp; omega
theorem part_len (m : UInt8) (l : List UInt8) : ∀ p ∈ cutL m l, p.length ≤ l.length := by
  induction l with
  | nil => intro p hp; simp [cutL] at hp; subst hp; simp
  | cons c l ih =>
    intro p hp
    unfold cutL at hp
    split at hp
    · rcases List.mem_cons.1 hp with rfl | h
      · simp
      · have := ih p h; simp; omega
    · cases hX : cutL m l with
      | nil => exact absurd hX (cutL_ne m l)
      | cons q qs =>
        rw [hX] at hp
        simp [attach] at hp
        rcases hp with rfl | h
        · have := ih q (by rw [hX]; simp); simp; omega
        · have := ih p (by rw [hX]; simp [h]); simp; omega
theorem compL_empty {l : List UInt8} (h : l.isEmpty = true) : compL l = false := by unfold compL; rw [h]; rfl
theorem compL_bad {l : List UInt8} (h : l.all nameB = false) : compL l = false := by unfold compL; rw [h]; simp
theorem compL_good {l : List UInt8} (h : l.isEmpty = false) (h2 : l.all nameB = true) : compL l = true := by unfold compL; rw [h, h2]; rfl
theorem chk_of {p : List UInt8} (h : (p == nmL) = false) : chk false p = compL p := by unfold chk; rw [h]; simp
theorem chk_nm {p : List UInt8} (h : (p == nmL) = true) (j : Nat) : okS j p = false := by
  have : p = nmL := by simpa using h
  subst this
  unfold okS
  split <;> decide

set_option maxRecDepth 100000 in
set_option maxHeartbeats 4000000 in
theorem specNameOk_any (s : ByteArray) (w : World) (hs : s.size ≤ 1048576) :
    Calls Tryz.prog 137 #[.string s] w fun e w' => e = .returned (.bool (specN s.data.toList)) ∧ Below w.heap.size w w' := by
  go_enter Tryz.func137, Tryz.ntmps137
  go_wp2_with fail
  refine (l01Cut_any s 47 _ hs).mono ?_
  rintro e w1 ⟨g, cap, rfl, hown, hb⟩
  have hcell := fun j hj => hown.cell (g := g) j hj
  have hPl : (cutL 47 s.data.toList).length ≤ 1048577 := by have := cutL_len 47 s.data.toList; simp at this; omega
  obtain ⟨P, HPE⟩ : ∃ P, Hid (P = cutL 47 s.data.toList) := ⟨_, Lib.hid rfl⟩
  rw [← HPE.out] at hcell hPl ⊢
  clear hown
  go_wp2_with fail
  go_loop [4, 5, 6] (fun i _ _ => ∃ j : Nat, j ≤ P.length ∧ i = .int .i64 j ∧ UpTo P j) (fun i _ _ => P.length - (intOf i).toNat)
  case atStart => exact ⟨0, Nat.zero_le _, rfl, fun t ht => absurd ht (by omega)⟩
  case round =>
    obtain ⟨j, hj, rfl, H⟩ := hrel
    by_cases hlt : j < P.length
    · obtain ⟨b, hbE⟩ : ∃ b : ByteArray, b = ⟨P[j].toArray⟩ := ⟨_, rfl⟩
      have hc : w1.cell? ⟨g, j, none⟩ = some (.string b) := by rw [hbE]; exact hcell j hlt
      have HB : Hid (b.data.toList = P.getD j []) := Lib.hid (by rw [hbE]; simp [hlt])
      have HSZ : Hid (b.size ≤ 1048576) := Lib.hid (by
        have hmem : P[j] ∈ cutL 47 s.data.toList := by rw [← HPE.out]; exact List.getElem_mem _
        have := part_len 47 s.data.toList _ hmem
        have e : b.size = P[j].length := by rw [hbE]; show P[j].toArray.size = _; simp
        simp at this
        omega)
      clear hbE hcell
      by_cases hnm : (b.data.toList == nmL) = true
      · have e1 : (b.toList == [110, 111, 100, 101, 95, 109, 111, 100, 117, 108, 101, 115]) = true := by rw [ByteArray.toList_eq]; exact hnm
        have HV : Hid (specN s.data.toList = false) := Lib.hid (specN_bad (j := j) (by rw [← HPE.out]; exact hlt) (by rw [← HPE.out, ← HB.out]; exact chk_nm hnm j))
        clear hnm H
        go_wp2_with fail
        go_ret
        exact ⟨ret_bool HV.out.symm, hb⟩
      · have hnm' : (b.data.toList == nmL) = false := by simpa using hnm
        have e1 : (b.toList == [110, 111, 100, 101, 95, 109, 111, 100, 117, 108, 101, 115]) = false := by rw [ByteArray.toList_eq]; exact hnm'
        have hways : ∃ q : ByteArray, q.size ≤ b.size ∧ okS j b.data.toList = compL q.data.toList ∧
            ((((j : Int) == 0) = true ∧ (∃ h0 : 0 < b.size, ((b[0].toNat : Int) == 64) = true) ∧ (∀ W, (Instr.slice 9 (.string b) (some (.int .i64 1)) none none).run Tryz.prog W = .ok (.string q) W)) ∨
             (q = b ∧ (((j : Int) == 0) = false ∨ (((j : Int) == 0) = true ∧ ¬ 0 < b.size) ∨ (((j : Int) == 0) = true ∧ ∃ h0 : 0 < b.size, ((b[0].toNat : Int) == 64) = false)))) := by
          by_cases hj0 : j = 0
          · by_cases hb0 : 0 < b.size
            · have hd := drop_cons b 0 hb0
              simp at hd
              by_cases h64 : b[0] = 64
              · refine ⟨b.extract 1 b.size, by simp, ?_, .inl ⟨by simp [hj0], ⟨hb0, by rw [h64]; rfl⟩, slice_from b _ 1 1 rfl (by omega) rfl⟩⟩
                unfold okS chkS
                rw [if_pos hj0, hd, h64, piece_end]
                simp
              · refine ⟨b, Nat.le_refl _, ?_, .inr ⟨rfl, .inr (.inr ⟨by simp [hj0], hb0, int_beq_false (fun h => h64 (UInt8.toNat_inj.1 (by show _ = (64 : Nat); omega)))⟩)⟩⟩
                unfold okS chkS
                rw [if_pos hj0, if_neg (by rw [hd]; simpa using h64), chk_of hnm']
            · refine ⟨b, Nat.le_refl _, ?_, .inr ⟨rfl, .inr (.inl ⟨by simp [hj0], hb0⟩)⟩⟩
              have hz : b.size = 0 := by omega
              have hnil : b.data.toList = [] := List.eq_nil_of_length_eq_zero (by simpa using hz)
              unfold okS chkS
              rw [if_pos hj0, hnil]; rfl
          · refine ⟨b, Nat.le_refl _, ?_, .inr ⟨rfl, .inl (int_beq_false (fun h => hj0 (Int.ofNat.inj h)))⟩⟩
            unfold okS
            rw [if_neg hj0, chk_of hnm']
        obtain ⟨q, hqs, hok, hway⟩ := hways
        have HOK : Hid (okS j (P.getD j []) = compL q.data.toList) := Lib.hid (by rw [← HB.out]; exact hok)
        have HBAD : Hid (compL q.data.toList = false → specN s.data.toList = false) := Lib.hid (fun hcl => specN_bad (j := j) (by rw [← HPE.out]; exact hlt) (by rw [← HPE.out, HOK.out, hcl]))
        have HUP : Hid (compL q.data.toList = true → UpTo P (j + 1)) := Lib.hid (fun hcl => upTo_next H (by rw [HOK.out, hcl]))
        have hql : q.size ≤ 1048576 := Nat.le_trans hqs HSZ.out
        clear hnm hnm' hok H hqs
        have hway2 : (((j : Int) == 0) = true ∧ (∃ h0 : 0 < b.size, ((b[0].toNat : Int) == 64) = true) ∧ (∀ W, (Instr.slice 9 (.string b) (some (.int .i64 1)) none none).run Tryz.prog W = .ok (.string q) W)) ∨ (q = b ∧ ((j : Int) == 0) = false) ∨ (q = b ∧ ((j : Int) == 0) = true ∧ ¬ 0 < b.size) ∨ (q = b ∧ ((j : Int) == 0) = true ∧ ∃ h0 : 0 < b.size, ((b[0].toNat : Int) == 64) = false) := by
          rcases hway with h | ⟨h, h' | h' | h'⟩
          · exact .inl h
          · exact .inr (.inl ⟨h, h'⟩)
          · exact .inr (.inr (.inl ⟨h, h'⟩))
          · exact .inr (.inr (.inr ⟨h, h'⟩))
        clear hway
        rcases hway2 with ⟨e2, ⟨h0, e3⟩, he⟩ | ⟨rfl, e2⟩ | ⟨rfl, e2, h0⟩ | ⟨rfl, e2, h0, e3⟩
        all_goals
          go_wp2_with fail
          go_loop [6] (fun k => ∃ m : Nat, m ≤ q.size ∧ k = .int .i64 m ∧ Hid ((q.data.toList.take m).all nameB = true)) (fun k => q.size - (intOf k).toNat)
          case atStart => exact ⟨0, Nat.zero_le _, rfl, Lib.hid (by simp)⟩
          case round =>
            obtain ⟨m, hm, rfl, HA⟩ := hrel
            by_cases hml : m < q.size
            · have c1 := (byte_lt q[m]).1
              have c2 := (byte_lt q[m]).2
              rcases name_ways (q[m].toNat : Int) with z | ⟨z, z1⟩ | ⟨z, z1, z2⟩ | ⟨z, z1, z2, z3⟩ | ⟨z, z1, z2, z3⟩
              · have HY := Lib.hid (all_go q m nameB hml HA.out (name_yes (.inl z)))
                have HS := Lib.hid z
                clear z
                go_wp2_with fail
                refine (l01Letter_any _ _ c2 c1).mono ?_
                rw [HS.out]
                rintro e w' ⟨rfl, rfl⟩
                go_wp2_with fail
                go_round
                case rel => exact ⟨m + 1, by omega, by go_num, HY⟩
                case measure => simp [intOf]; omega
              · have HY := Lib.hid (all_go q m nameB hml HA.out (name_yes (.inr (.inl z1))))
                have HS := Lib.hid z
                have y1 := bne_of_beq z1
                clear z z1
                go_wp2_with fail
                refine (l01Letter_any _ _ c2 c1).mono ?_
                rw [HS.out]
                rintro e w' ⟨rfl, rfl⟩
                go_wp2_with fail
                go_round
                case rel => exact ⟨m + 1, by omega, by go_num, HY⟩
                case measure => simp [intOf]; omega
              · have HY := Lib.hid (all_go q m nameB hml HA.out (name_yes (.inr (.inr (.inl z2)))))
                have HS := Lib.hid z
                have y1 := bne_of_beq z1
                have y2 := bne_of_beq z2
                clear z z1 z2
                go_wp2_with fail
                refine (l01Letter_any _ _ c2 c1).mono ?_
                rw [HS.out]
                rintro e w' ⟨rfl, rfl⟩
                go_wp2_with fail
                go_round
                case rel => exact ⟨m + 1, by omega, by go_num, HY⟩
                case measure => simp [intOf]; omega
              · have HY := Lib.hid (all_go q m nameB hml HA.out (name_yes (.inr (.inr (.inr z3)))))
                have HS := Lib.hid z
                have y1 := bne_of_beq z1
                have y2 := bne_of_beq z2
                have y3 := bne_of_beq z3
                clear z z1 z2 z3
                go_wp2_with fail
                refine (l01Letter_any _ _ c2 c1).mono ?_
                rw [HS.out]
                rintro e w' ⟨rfl, rfl⟩
                go_wp2_with fail
                go_round
                case rel => exact ⟨m + 1, by omega, by go_num, HY⟩
                case measure => simp [intOf]; omega
              · have HX : Hid (specN s.data.toList = false) := Lib.hid (HBAD.out (compL_bad (all_no q m nameB hml (name_no ⟨z, z1, z2, z3⟩))))
                have HS := Lib.hid z
                have y1 := bne_of_beq z1
                have y2 := bne_of_beq z2
                have y3 := bne_of_beq z3
                clear z z1 z2 z3
                go_wp2_with fail
                refine (l01Letter_any _ _ c2 c1).mono ?_
                rw [HS.out]
                rintro e w' ⟨rfl, rfl⟩
                go_wp2_with fail
                go_ret
                exact ⟨ret_bool HX.out.symm, hb⟩
            · have HA2 := HA.out
              rw [take_end q m hml] at HA2
              by_cases hqe : q.data.toList.isEmpty = true
              · have HX : Hid (specN s.data.toList = false) := Lib.hid (HBAD.out (compL_empty hqe))
                have e9 : q.toList.isEmpty = true := by rw [ByteArray.toList_eq]; exact hqe
                clear hqe HA2
                go_wp2_with fail
                go_ret
                exact ⟨ret_bool HX.out.symm, hb⟩
              · have hqe' : q.data.toList.isEmpty = false := by simpa using hqe
                have HX := Lib.hid (HUP.out (compL_good hqe' HA2))
                have e9 : q.toList.isEmpty = false := by rw [ByteArray.toList_eq]; exact hqe'
                clear hqe hqe' HA2
                go_wp2_with fail
                go_round
                case rel => exact ⟨j + 1, by omega, by go_num, HX.out⟩
                case measure => simp [intOf]; omega
    · have HV : Hid (specN s.data.toList = decide (s.size ≤ 60)) := Lib.hid (by
        rw [specN_end (by rw [← HPE.out]; have hjl : j = P.length := (by omega); rw [← hjl]; exact H)]; simp)
      clear H hcell
      by_cases h60 : s.size ≤ 60
      · have d60 : decide (s.size ≤ 60) = true := by simpa using h60
        go_wp2_with fail
        go_ret
        exact ⟨ret_bool (by rw [HV.out, d60]; simp; omega), hb⟩
      · have d60 : decide (s.size ≤ 60) = false := by simpa using h60
        go_wp2_with fail
        go_ret
        exact ⟨ret_bool (by rw [HV.out, d60]; simp; omega), hb⟩
end Go.Proofs.YtnodhkjgnegkcaaGreatDoor

/-
  For every string of at most maxLen bytes, spec.PlainOk returns whether all bytes are plain and there are at most 100.
-/
namespace Go.Proofs.YtnodhkjgnegkcaaGreatDoor
open Go.RowKit

def plainB (c : UInt8) : Bool := decide (33 ≤ (c.toNat : Int) ∧ (c.toNat : Int) ≤ 126 ∧ ¬ (c.toNat : Int) = 34 ∧ ¬ (c.toNat : Int) = 39 ∧ ¬ (c.toNat : Int) = 44 ∧ ¬ (c.toNat : Int) = 92)
def plainL (l : List UInt8) : Bool := l.all plainB && decide (l.length ≤ 100)

theorem plain_bad (s : ByteArray) (k : Nat) (h : k < s.size) (hb : plainB s[k] = false) : plainL s.data.toList = false := by
  have hm : s[k] ∈ s.data.toList := by
    have : s[k] = s.data.toList[k]'(by simpa using h) := rfl
    rw [this]; exact List.getElem_mem _
  unfold plainL
  rw [Bool.and_eq_false_iff]; left
  rw [List.all_eq_false]
  exact ⟨_, hm, by simp [hb]⟩
theorem plain_ways (c : UInt8) : (c.toNat : Int) < 33 ∨ 126 < (c.toNat : Int) ∨ (c.toNat : Int) = 34 ∨ (c.toNat : Int) = 39 ∨ (c.toNat : Int) = 44 ∨ (c.toNat : Int) = 92 ∨ plainB c = true := by
  by_cases h : plainB c = true
  · simp [h]
  · unfold plainB at h; simp at h; omega
theorem plain_not {c : UInt8} (h : (c.toNat : Int) < 33 ∨ 126 < (c.toNat : Int) ∨ (c.toNat : Int) = 34 ∨ (c.toNat : Int) = 39 ∨ (c.toNat : Int) = 44 ∨ (c.toNat : Int) = 92) : plainB c = false := by
  unfold plainB; simp; omega
theorem plain_yes {c : UInt8} (h : plainB c = true) : 33 ≤ (c.toNat : Int) ∧ (c.toNat : Int) ≤ 126 ∧ ((c.toNat : Int) == 34) = false ∧ ((c.toNat : Int) == 39) = false ∧ ((c.toNat : Int) == 44) = false ∧ ((c.toNat : Int) == 92) = false := by
  unfold plainB at h; simp only [decide_eq_true_eq] at h
  exact ⟨h.1, h.2.1, int_beq_false h.2.2.1, int_beq_false h.2.2.2.1, int_beq_false h.2.2.2.2.1, int_beq_false h.2.2.2.2.2⟩
theorem all_step (s : ByteArray) (k : Nat) (p : UInt8 → Bool) (h : k < s.size) (ha : (s.data.toList.take k).all p = true) (hb : p s[k] = true) : (s.data.toList.take (k + 1)).all p = true := by
  rw [take_snoc s k h, List.all_append, ha]; simp [hb]

set_option maxRecDepth 100000 in
set_option maxHeartbeats 1000000 in
theorem specPlainOk_any (s : ByteArray) (w : World) (hs : s.size ≤ maxLen) :
    Calls Tryz.prog 94 #[.string s] w fun e w' => e = .returned (.bool (plainL s.data.toList)) ∧ w = w' := by
  unfold maxLen at hs
  go_enter Tryz.func94, Tryz.ntmps94
  go_wp2
  go_loop [3] (fun n => ∃ k : Nat, k ≤ s.size ∧ n = .int .i64 k ∧ Hid ((s.data.toList.take k).all plainB = true)) (fun n => s.size - (intOf n).toNat)
  case atStart => exact ⟨0, Nat.zero_le _, rfl, Lib.hid (by simp)⟩
  case round =>
    obtain ⟨k, hk, rfl, H⟩ := hrel
    by_cases hlt : k < s.size
    · rcases plain_ways s[k] with h | h | h | h | h | h | h
      case inr.inr.inr.inr.inr.inr =>
        obtain ⟨h1, h2, h3, h4, h5, h6⟩ := plain_yes h
        have HH := Lib.hid h
        clear h
        go_wp2
        go_round
        case rel => exact ⟨k + 1, by omega, by go_num, Lib.hid (all_step s k _ hlt H.out HH.out)⟩
        case measure => simp [intOf]; omega
      case inl =>
        have HH := Lib.hid (plain_bad s k hlt (plain_not (by omega)))
        have b2 := (byte_lt s[k]).2
        go_wp2
        go_ret
        exact ⟨ret_bool HH.out.symm, rfl⟩
      case inr.inl =>
        have HH := Lib.hid (plain_bad s k hlt (plain_not (by omega)))
        have b1 := (byte_lt s[k]).1
        go_wp2
        go_ret
        exact ⟨ret_bool HH.out.symm, rfl⟩
      all_goals
        have HH := Lib.hid (plain_bad s k hlt (plain_not (by omega)))
        go_wp2
        go_ret
        exact ⟨ret_bool HH.out.symm, rfl⟩
    · have HH : Hid (plainL s.data.toList = decide (s.size ≤ 100)) := Lib.hid (by
        have := H.out
        rw [take_end s k hlt] at this
        unfold plainL; rw [this]; simp)
      by_cases hl : s.size ≤ 100
      · have hl2 : s.size < 20000 := by omega
        go_wp2
        go_ret
        exact ⟨ret_bool (by rw [HH.out]; simp [hl]; omega), rfl⟩
      · go_wp2
        go_ret
        exact ⟨ret_bool (by rw [HH.out]; simp [hl]), rfl⟩
end Go.Proofs.YtnodhkjgnegkcaaGreatDoor

/-
  spec.PackOk: whether a pack is right.
-/
namespace Go.Proofs.YtnodhkjgnegkcaaGreatDoor
open Go.RowKit

/-- A right pack. -/
def pkOk (p : Pk) : Bool := sumsOkL p.sums && (specN p.name && (exOk p.ver && plainL p.src))
theorem RdB.at2 {w : World} {A : Option Addr} {n cap : Nat} {bs : List Bd} (h : RdB w (.slice A n cap) bs) (k : Nat) (hk : k + 1 < bs.length) : ∃ g off, A = some ⟨g, off, none⟩ ∧ w.cell? ⟨g, off + k * 2, none⟩ = some (.string ⟨(bs[k]'(by omega)).1.toArray⟩) ∧ w.cell? ⟨g, off + (k + 1) * 2, none⟩ = some (.string ⟨bs[k + 1].1.toArray⟩) ∧ w.cell? ⟨g, off + (k + 1) * 2 + 1, none⟩ = some (.string ⟨bs[k + 1].2.toArray⟩) := by
  obtain ⟨A', ca', hv, ha⟩ := h
  simp only [Value.slice.injEq] at hv
  obtain ⟨rfl, _, rfl⟩ := hv
  obtain ⟨g, off, hA, hg, hc⟩ := ha (by omega)
  exact ⟨g, off, hA, (hc k (by omega)).1, (hc (k + 1) hk).1, (hc (k + 1) hk).2⟩

theorem exB_len (l : List UInt8) : (exB l).length = if exOk l = true then 1 else 0 := by unfold exB; split <;> rfl
theorem specExact_len (l : List UInt8) (w : World) (hl : l.length ≤ 1048576) : Calls Tryz.prog 159 #[.string ⟨l.toArray⟩] w fun e w' => ∃ g n, n = (if exOk l = true then 1 else 0) ∧ e = .returned (.slice (some ⟨g, 0, none⟩) n n) ∧ Below w.heap.size w w' :=
  (specExact_any l w hl).mono fun e w' ⟨g, he, _, _, hb⟩ => ⟨g, _, rfl, by rw [← exB_len]; exact he, hb⟩

set_option maxRecDepth 100000 in
set_option maxHeartbeats 4000000 in
theorem specPackOkG_any (p : Pk) (a b : Value) (w : World) (ha : RdB w a p.sums) (hb : RdS w b p.needs) (t1 : p.name.length ≤ 1048576) (t2 : p.ver.length ≤ 1048576) (t3 : p.src.length ≤ 1048576) (hsm : SmB p.sums) :
    Calls Tryz.prog 103 #[.agg #[.string ⟨p.name.toArray⟩, .string ⟨p.ver.toArray⟩, .string ⟨p.src.toArray⟩, a, .bool p.dev, b]] w fun e w' => e = .returned (.bool (pkOk p)) ∧ Below w.heap.size w w' := by
  have HA := Lib.hid ha
  have HSM := Lib.hid hsm
  have hn : p.sums.length ≤ 1048576 := by unfold SmB at hsm; omega
  have HN : Hid (∀ W, Calls Tryz.prog 137 #[.string ⟨p.name.toArray⟩] W fun e w' => e = .returned (.bool (specN p.name)) ∧ Below W.heap.size W w') := Lib.hid (fun W => specNameOk_any ⟨p.name.toArray⟩ W (by show p.name.toArray.size ≤ _; simp; omega))
  have HE := Lib.hid (fun W => specExact_len p.ver W t2)
  have HP : Hid (∀ W, Calls Tryz.prog 94 #[.string ⟨p.src.toArray⟩] W fun e w' => e = .returned (.bool (plainL p.src)) ∧ W = w') := Lib.hid (fun W => specPlainOk_any ⟨p.src.toArray⟩ W (by show p.src.toArray.size ≤ maxLen; unfold maxLen; simp; omega))
  obtain ⟨A, ca, rfl⟩ := ha.slice
  obtain ⟨B, cb, rfl⟩ := hb.slice
  obtain ⟨r, HR⟩ : ∃ r, Hid (pkOk p = r) := ⟨_, Lib.hid rfl⟩
  rw [HR.out]
  obtain ⟨x, HXX⟩ : ∃ x, Hid (specN p.name = x) := ⟨_, Lib.hid rfl⟩
  obtain ⟨y, HYY⟩ : ∃ y, Hid (exOk p.ver = y) := ⟨_, Lib.hid rfl⟩
  obtain ⟨z, HZZ⟩ : ∃ z, Hid (plainL p.src = z) := ⟨_, Lib.hid rfl⟩
  have HRR : Hid (r = (sumsOkL p.sums && (x && (y && z)))) := Lib.hid (by rw [← HR.out]; unfold pkOk; rw [HXX.out, HYY.out, HZZ.out])
  simp only [HXX.out] at HN
  simp only [HYY.out] at HE
  simp only [HZZ.out] at HP
  clear ha hb hsm
  obtain ⟨pn, pv, ps, bs, pd, pe⟩ := p
  simp only at HA HSM hn HN HE HP HRR t1 t2 t3 ⊢
  have B0 : Below w.heap.size w (w.alloc (.cells #[.string ⟨pn.toArray⟩, .string ⟨pv.toArray⟩, .string ⟨ps.toArray⟩, .slice A bs.length ca, .bool pd, .slice B pe.length cb] 78)) := (Below.refl _ _).alloc (Nat.le_refl _) _
  have bx := heap_alloc_new w (.cells #[.string ⟨pn.toArray⟩, .string ⟨pv.toArray⟩, .string ⟨ps.toArray⟩, .slice A bs.length ca, .bool pd, .slice B pe.length cb] 78)
  go_enter Tryz.func103, Tryz.ntmps103
  go_wp2_with fail
  go_loopw [3] (fun i wr => ∃ k : Nat, k ≤ bs.length ∧ i = .int .i64 k ∧ Hid (sumsTo bs k = true) ∧ Below w.heap.size w wr ∧ wr.heap[w.heap.size]? = some (.cells #[.string ⟨pn.toArray⟩, .string ⟨pv.toArray⟩, .string ⟨ps.toArray⟩, .slice A bs.length ca, .bool pd, .slice B pe.length cb] 78)) (fun i _ => bs.length - (intOf i).toNat)
  case atStart => exact ⟨0, Nat.zero_le _, rfl, Lib.hid rfl, B0, bx⟩
  case round =>
    obtain ⟨k, hk, rfl, HT, hbr, hbx⟩ := hrel
    clear B0 bx
    obtain ⟨x0, x1, x2, x3, x4, x5⟩ := cells6 hbx
    by_cases hlt : k < bs.length
    · have k0 : (0 : Int) ≤ (k : Int) := by omega
      have k1 : (k : Int) < (bs.length : Int) := by omega
      have hbl : bs[k].2.length ≤ 1048576 := by have := smB_mem bs[k] (List.getElem_mem hlt); have := HSM.out; unfold SmB at this; omega
      obtain ⟨g, off, rfl, _, d1, d2⟩ := (HA.out.below hbr).at k hlt
      have HL := Lib.hid (fun W => l04Long_any bs[k].1 W)
      have hlb := longI_bd bs[k].1
      have HQ := Lib.hid (fun (h : sumAt bs k = false) => (show r = false by rw [HRR.out, sums_bad hlt h]; rfl))
      obtain ⟨u, HU⟩ : ∃ u, Hid (longI bs[k].1 = u) := ⟨_, Lib.hid rfl⟩
      simp only [HU.out] at HL
      rw [HU.out] at hlb
      have HZ0 := Lib.hid (fun (h : k = 0) => (show sumAt bs k = decide (u = (bs[k].2.length : Int)) by subst h; rw [← HU.out]; exact sumAt_zero hlt))
      have HZ1 := Lib.hid (fun (j : Nat) (h : k = j + 1) => (show sumAt bs k = (decide (u = (bs[k].2.length : Int)) && Op.bytesLess (bs[j]'(by omega)).1 bs[k].1) by subst h; rw [← HU.out]; exact sumAt_more hlt))
      have HTT := Lib.hid (fun (h : sumAt bs k = true) => sums_step HT.out h)
      have HAR := Lib.hid (HA.out.below hbr)
      obtain ⟨al, HAL⟩ : ∃ al, Hid (bs[k].1 = al) := ⟨_, Lib.hid rfl⟩
      obtain ⟨by_, HBY⟩ : ∃ by_, Hid (bs[k].2 = by_) := ⟨_, Lib.hid rfl⟩
      rw [HAL.out] at d1
      rw [HBY.out] at d2 hbl
      simp only [HAL.out] at HL HZ1
      simp only [HBY.out] at HZ0 HZ1
      have HLQ : Hid (∀ W, Calls Tryz.prog 158 #[.string ⟨al.toArray⟩] W fun e w' => e = .returned (.int .i64 u) ∧ w' = W) := Lib.hid (fun W => (HL.out W).mono fun e w' h => ⟨h.1, h.2.symm⟩)
      clear HL
      by_cases hq : u = (by_.length : Int)
      · have q1 : (u != (by_.length : Int)) = false := int_bne_false hq
        by_cases hz : k = 0
        · have HN2 := Lib.hid (HTT.out (by rw [HZ0.out hz]; exact decide_eq_true hq))
          have g0 : ¬ (0 : Int) < (k : Int) := by omega
          have g1 : decide (0 < k) = false := by simp; omega
          clear hq hz HQ HZ0 HZ1 HTT
          go_wp2_with fail
          go_quiet ((go_at_call 158; exact Calls.quiet_of_same (HLQ.out _)))
          go_wp2_with fail
          go_roundw
          case rel => exact ⟨k + 1, by omega, by go_num, HN2, hbr.trans (below_drewN _ _ _), keepB hbx (below_drewN _ _ _)⟩
          case measure => simp [intOf]; omega
        · obtain ⟨j, hj⟩ : ∃ j, k = j + 1 := ⟨k - 1, by omega⟩
          have HZ2 := Lib.hid (HZ1.out j hj)
          have hjl : j < bs.length := by omega
          obtain ⟨g', off', hge, _, e1, e2⟩ := HAR.out.at j hjl
          clear e2
          simp only [Option.some.injEq, Addr.mk.injEq, and_true] at hge
          obtain ⟨rfl, rfl⟩ := hge
          have jw : IntKind.i64.wrap ((k : Int) - 1) = (j : Int) := by rw [show (k : Int) - 1 = (j : Int) by omega]; exact IntWalk.i64_in _ (by omega)
          have g0 : (0 : Int) < (k : Int) := by omega
          have g1 : decide (0 < k) = true := by simp; omega
          have j0 : (0 : Int) ≤ (j : Int) := by omega
          have j1 : (j : Int) < (bs.length : Int) := by omega
          obtain ⟨pr, HPR⟩ : ∃ pr, Hid (bs[j].1 = pr) := ⟨_, Lib.hid rfl⟩
          rw [HPR.out] at e1 HZ2
          cases hl : Op.bytesLess pr al with
          | true =>
            have HN2 := Lib.hid (HTT.out (by rw [HZ2.out, hl, decide_eq_true hq]; rfl))
            clear hq hz HQ HZ0 HZ1 HTT hj HZ2 HAR
            go_wp2_with fail
            go_quiet ((go_at_call 158; exact Calls.quiet_of_same (HLQ.out _)))
            go_wp2_with fail
            go_roundw
            case rel => exact ⟨k + 1, by omega, by go_num, HN2, hbr.trans (below_drewN _ _ _), keepB hbx (below_drewN _ _ _)⟩
            case measure => simp [intOf]; omega
          | false =>
            have HX := Lib.hid (HQ.out (by rw [HZ2.out, hl, Bool.and_false]))
            clear hq hz HQ HZ0 HZ1 HTT hj HZ2 HAR
            go_wp2_with fail
            go_quiet ((go_at_call 158; exact Calls.quiet_of_same (HLQ.out _)))
            go_wp2_with fail
            go_ret
            exact ⟨ret_bool HX.out.symm, hbr.trans (below_drewN _ _ _)⟩
      · have q1 : (u != (by_.length : Int)) = true := int_bne_true hq
        have HX : Hid (r = false) := Lib.hid (by
          apply HQ.out
          by_cases hz : k = 0
          · rw [HZ0.out hz]; exact decide_eq_false hq
          · rw [HZ1.out (k - 1) (by omega), decide_eq_false hq]; rfl)
        clear hq HQ HZ0 HZ1 HTT HAR
        go_wp2_with fail
        go_quiet ((go_at_call 158; exact Calls.quiet_of_same (HLQ.out _)))
        go_wp2_with fail
        go_ret
        exact ⟨ret_bool HX.out.symm, hbr.trans (below_drewN _ _ _)⟩
    · have HOK : Hid (r = (x && (y && z))) := Lib.hid (by rw [HRR.out, sums_end HT.out (by omega), Bool.true_and])
      cases x with
      | false =>
        go_wp2_with fail
        refine (HN.out _).mono ?_
        rintro e w1 ⟨rfl, hb1⟩
        go_wp2_with fail
        go_ret
        exact ⟨ret_bool HOK.out.symm, hbr.trans (hb1.mono hbr.size)⟩
      | true =>
        cases y with
        | false =>
          go_wp2_with fail
          refine (HN.out _).mono ?_
          rintro e w1 ⟨rfl, hb1⟩
          have B1 := hbr.trans (hb1.mono hbr.size)
          obtain ⟨y0, y1, y2, y3, y4, y5⟩ := cells6 (keepB hbx hb1)
          go_wp2_with fail
          refine (HE.out _).mono ?_
          rintro e w2 ⟨gg, nn, hnn, rfl, hb2⟩
          obtain rfl : nn = 0 := hnn
          go_wp2_with fail
          go_ret
          exact ⟨ret_bool HOK.out.symm, B1.trans (hb2.mono B1.size)⟩
        | true =>
          go_wp2_with fail
          refine (HN.out _).mono ?_
          rintro e w1 ⟨rfl, hb1⟩
          have B1 := hbr.trans (hb1.mono hbr.size)
          have hb1x := keepB hbx hb1
          obtain ⟨y0, y1, y2, y3, y4, y5⟩ := cells6 hb1x
          go_wp2_with fail
          refine (HE.out _).mono ?_
          rintro e w2 ⟨gg, nn, hnn, rfl, hb2⟩
          obtain rfl : nn = 1 := hnn
          have B2 := B1.trans (hb2.mono B1.size)
          obtain ⟨z0, z1, z2, z3, z4, z5⟩ := cells6 (keepB hb1x hb2)
          go_wp2_with fail
          refine (HP.out _).mono ?_
          rintro e w3 ⟨rfl, rfl⟩
          go_wp2_with fail
          go_ret
          exact ⟨ret_bool (by rw [HOK.out]; simp), B2⟩
theorem specPackOk_any (p : Pk) (a b : Value) (w : World) (ha : RdB w a p.sums) (hb : RdS w b p.needs) (hp : SmPk p) :
    Calls Tryz.prog 103 #[.agg #[.string ⟨p.name.toArray⟩, .string ⟨p.ver.toArray⟩, .string ⟨p.src.toArray⟩, a, .bool p.dev, b]] w fun e w' => e = .returned (.bool (pkOk p)) ∧ Below w.heap.size w w' :=
  specPackOkG_any p a b w ha hb hp.texts.1 hp.texts.2.1 hp.texts.2.2 hp.sums
end Go.Proofs.YtnodhkjgnegkcaaGreatDoor

/-
  A graph is right in plain words.
-/
namespace Go.Proofs.YtnodhkjgnegkcaaGreatDoor

/-- Are the first n all so? -/
def allTo (f : Nat → Bool) : Nat → Bool
  | 0 => true
  | n + 1 => allTo f n && f n
theorem allTo_bad {f : Nat → Bool} {k : Nat} : ∀ {n : Nat}, k < n → f k = false → allTo f n = false
  | 0, h, _ => by omega
  | n + 1, h, hb => by
    unfold allTo
    by_cases e : k = n
    · subst e; rw [hb, Bool.and_false]
    · rw [allTo_bad (n := n) (by omega) hb, Bool.false_and]
theorem allTo_step {f : Nat → Bool} {k : Nat} (h : allTo f k = true) (hb : f k = true) : allTo f (k + 1) = true := by unfold allTo; rw [h, hb]; rfl
theorem allTo_get {f : Nat → Bool} : ∀ {n : Nat}, allTo f n = true → ∀ k, k < n → f k = true
  | 0, _, k, h => by omega
  | n + 1, h, k, hk => by
    unfold allTo at h
    simp only [Bool.and_eq_true] at h
    by_cases e : k = n
    · subst e; exact h.2
    · exact allTo_get h.1 k (by omega)
theorem allTo_and (f g : Nat → Bool) : ∀ n, allTo (fun k => f k && g k) n = (allTo f n && allTo g n)
  | 0 => rfl
  | n + 1 => by
    unfold allTo
    rw [allTo_and f g n]
    cases allTo f n <;> cases allTo g n <;> cases f n <;> cases g n <;> rfl
theorem allTo_congr {f g : Nat → Bool} : ∀ {n : Nat}, (∀ k, k < n → f k = g k) → allTo f n = allTo g n
  | 0, _ => rfl
  | n + 1, h => by unfold allTo; rw [allTo_congr (n := n) (fun k hk => h k (by omega)), h n (by omega)]
theorem ls_at {ls : List (List UInt8)} {k : Nat} (h : k < ls.length) : ls.getD k [] = ls[k] := by rw [List.getD_eq_getElem?_getD, List.getElem?_eq_getElem h]; rfl
theorem ps_at {ps : List Pk} {k : Nat} (h : k < ps.length) : ps.getD k default = ps[k] := by rw [List.getD_eq_getElem?_getD, List.getElem?_eq_getElem h]; rfl

/-- Is the k-th text a key of one of these, and behind the one ahead of it? -/
def keyAtB (ps : List Pk) (ls : List (List UInt8)) (k : Nat) : Bool := decide (0 ≤ findP ps (ls.getD k [])) && (decide (k = 0) || Op.bytesLess (ls.getD (k - 1) []) (ls.getD k []))
/-- Are texts ascending, and each one of a graph's keys? -/
def keysOkL (ps : List Pk) (ls : List (List UInt8)) : Bool := allTo (keyAtB ps ls) ls.length
theorem keyAtB_zero {ps : List Pk} {ls : List (List UInt8)} (h : 0 < ls.length) : keyAtB ps ls 0 = decide (0 ≤ findP ps ls[0]) := by unfold keyAtB; rw [ls_at h]; simp
theorem keyAtB_more {ps : List Pk} {ls : List (List UInt8)} {k : Nat} (h : k + 1 < ls.length) : keyAtB ps ls (k + 1) = (decide (0 ≤ findP ps ls[k + 1]) && Op.bytesLess (ls[k]'(by omega)) ls[k + 1]) := by
  unfold keyAtB; rw [ls_at h, show k + 1 - 1 = k by omega, ls_at (by omega : k < ls.length)]; simp
theorem findP_ge (ps : List Pk) (key : List UInt8) : -1 ≤ findP ps key := by unfold findP; split <;> omega
theorem findP_lt (ps : List Pk) (key : List UInt8) : findP ps key < ps.length := by
  unfold findP
  split
  · rename_i i h
    have := (List.findIdx?_eq_some_iff_getElem.1 h).1
    omega
  · omega
theorem findP_mem (ps : List Pk) (key : List UInt8) : 0 ≤ findP ps key ↔ key ∈ ps.map keyOf := by
  unfold findP
  split
  · rename_i i h
    obtain ⟨hi, he, _⟩ := List.findIdx?_eq_some_iff_getElem.1 h
    constructor
    · intro _; rw [List.mem_map]; exact ⟨ps[i], List.getElem_mem hi, by simpa using he⟩
    · intro _; omega
  · rename_i h
    rw [List.findIdx?_eq_none_iff] at h
    constructor
    · intro h0; omega
    · intro hm
      obtain ⟨p, hp, he⟩ := List.mem_map.1 hm
      have := h p hp
      rw [he] at this; simp at this
/-- Is the k-th pack's key behind the one ahead of it? -/
def upAt (ps : List Pk) (k : Nat) : Bool := decide (k = 0) || Op.bytesLess (keyOf (ps.getD (k - 1) default)) (keyOf (ps.getD k default))
/-- Is the k-th pack right? -/
def pkAtB (ps : List Pk) (k : Nat) : Bool := pkOk (ps.getD k default) && upAt ps k
def ndAt (ps : List Pk) (k : Nat) : Bool := keysOkL ps (ps.getD k default).needs
/-- Is a graph right? -/
def grOk (ts : List (List UInt8)) (ps : List Pk) : Bool := allTo (fun k => pkAtB ps k && ndAt ps k) ps.length && (decide (ps.length ≤ 40) && keysOkL ps ts)
theorem grOk_parts (ts : List (List UInt8)) (ps : List Pk) : grOk ts ps = (decide (ps.length ≤ 40) && (allTo (pkAtB ps) ps.length && (allTo (ndAt ps) ps.length && keysOkL ps ts))) := by
  unfold grOk
  rw [allTo_and]
  cases allTo (pkAtB ps) ps.length <;> cases allTo (ndAt ps) ps.length <;> cases decide (ps.length ≤ 40) <;> simp
theorem upAt_zero (ps : List Pk) : upAt ps 0 = true := rfl
theorem upAt_more {ps : List Pk} {k : Nat} (h : k + 1 < ps.length) : upAt ps (k + 1) = Op.bytesLess (keyOf (ps[k]'(by omega))) (keyOf ps[k + 1]) := by
  unfold upAt; rw [ps_at h, show k + 1 - 1 = k by omega, ps_at (by omega : k < ps.length)]; simp
end Go.Proofs.YtnodhkjgnegkcaaGreatDoor

/-
  A list of texts that reads: each of its cells.
-/
namespace Go.Proofs.YtnodhkjgnegkcaaGreatDoor
open Go.RowKit

theorem rdS_at {w : World} {A : Option Addr} {n cap : Nat} {ls : List (List UInt8)} (h : RdS w (.slice A n cap) ls) (k : Nat) (hk : k < ls.length) : ∃ g off, A = some ⟨g, off, none⟩ ∧ g < w.heap.size ∧ ∀ j (hj : j < ls.length), w.cell? ⟨g, off + j, none⟩ = some (.string ⟨ls[j].toArray⟩) := by
  obtain ⟨A', ca', hv, ha⟩ := h
  simp only [Value.slice.injEq] at hv
  obtain ⟨rfl, _, rfl⟩ := hv
  obtain ⟨g, off, hA, hg, hc⟩ := ha (by omega)
  exact ⟨g, off, hA, hg, fun j hj => hc j hj⟩
end Go.Proofs.YtnodhkjgnegkcaaGreatDoor

/-
  A region that draws its order, whose operations only read and whose callees only make memory: one walk in the order of the text, in the class of all worlds that have grown from here.
-/
namespace Go.Proofs.YtnodhkjgnegkcaaGreatDoor
open Go.RowKit

/-- A world that has grown from w. -/
structure Fut (w : World) where
  out : World
  bel : Below w.heap.size w out
instance (w : World) : Nonempty (Fut w) := ⟨⟨w, Below.refl _ _⟩⟩
theorem fut_cell {w : World} {A o : Nat} {v : Value} (h : w.cell? ⟨A, o, none⟩ = some v) (F : Fut w) : F.out.cell? ⟨A, o, none⟩ = some v := keepC F.bel h
theorem fut_call {P : Program} {f : FuncId} {args : Array Value} {w : World} {F : Fut w} {v : Value}
    (h : Calls P f args F.out fun e w' => e = .returned v ∧ Below F.out.heap.size F.out w') : Calls P f args F.out fun e w'' => e = .returned v ∧ ∃ F' : Fut w, w'' = F'.out :=
  h.mono fun _ _ ⟨he, hb⟩ => ⟨he, ⟨_, F.bel.trans (hb.mono F.bel.size)⟩, rfl⟩
theorem wp_region_fut {P : Program} {id : Nat} {Q : Exit → Act → World → Prop} {a : Act} {w : World} {l : List Oper} (hm : P.follows .mixedOrders = true) (hB : Region.lexB .any l.toArray = true)
    (h : wpQuiet P l.toArray (fun w' => ∃ F : Fut w, w' = F.out) (fun a' => ∀ w', (∃ F : Fut w, w' = F.out) → Q .normal a' w') l a) : (Code.region id l.toArray true).wp P Q a w :=
  wp_region_quiet (C := fun w' => ∃ F : Fut w, w' = F.out) hm hB ⟨⟨_, below_drew _ w⟩, rfl⟩ (by simpa using h)
end Go.Proofs.YtnodhkjgnegkcaaGreatDoor

namespace Go.Proofs.YtnodhkjgnegkcaaGreatDoor
open Go.RowKit

set_option maxRecDepth 100000 in
set_option maxHeartbeats 2000000 in
theorem l04Keys_any (T : Option Addr) (tn tc : Nat) (vp vl : Value) (ps : List Pk) (ls : List (List UInt8)) (w : World) (hp : RdPs w vp ps) (hs : SmPs ps) (hl : RdS w vl ls) (hll : ls.length ≤ 1048576) :
    Calls Tryz.prog 104 #[.agg #[.slice T tn tc, vp], vl] w fun e w' => e = .returned (.bool (keysOkL ps ls)) ∧ Below w.heap.size w w' := by
  have HF := Lib.hid (fun (W : World) (h : Below w.heap.size w W) (key : List UInt8) => specFind_any T tn tc vp ps key W (hp.below h) hs)
  have HR := Lib.hid hl
  obtain ⟨P, cp, rfl, _⟩ := hp
  obtain ⟨A, ca, rfl, _⟩ := hl
  obtain ⟨r, HRR⟩ : ∃ r, Hid (keysOkL ps ls = r) := ⟨_, Lib.hid rfl⟩
  rw [HRR.out]
  have B0 : Below w.heap.size w (w.alloc (.cells #[.slice T tn tc, .slice P ps.length cp] 37)) := (Below.refl _ _).alloc (Nat.le_refl _) _
  have b0 := heap_alloc_new w (.cells #[.slice T tn tc, .slice P ps.length cp] 37)
  clear hs
  go_enter Tryz.func104, Tryz.ntmps104
  go_wp2_with fail
  go_loopw [5] (fun i wr => ∃ k : Nat, k ≤ ls.length ∧ i = .int .i64 k ∧ Hid (allTo (keyAtB ps ls) k = true) ∧ Below w.heap.size w wr ∧ wr.heap[w.heap.size]? = some (.cells #[.slice T tn tc, .slice P ps.length cp] 37)) (fun i _ => ls.length - (intOf i).toNat)
  case atStart => exact ⟨0, Nat.zero_le _, rfl, Lib.hid rfl, B0, b0⟩
  case round =>
    obtain ⟨k, hk, rfl, HT, hb, hbox⟩ := hrel
    obtain ⟨x0, x1⟩ := cellsG hbox
    clear B0 b0
    by_cases hlt : k < ls.length
    · obtain ⟨g, off, rfl, hg, hc⟩ := rdS_at (HR.out.below hb) k hlt
      have d1 := hc k hlt
      have k0 : (0 : Int) ≤ (k : Int) := by omega
      have k1 : (k : Int) < (ls.length : Int) := by omega
      have HFK := Lib.hid (fun (W : World) (h : Below w.heap.size w W) => HF.out W h ls[k])
      have HQ := Lib.hid (fun (h : keyAtB ps ls k = false) => (show r = false by rw [← HRR.out]; exact allTo_bad hlt h))
      have HTT := Lib.hid (fun (h : keyAtB ps ls k = true) => allTo_step HT.out h)
      have HZ0 := Lib.hid (fun (h : k = 0) => (show keyAtB ps ls k = decide (0 ≤ findP ps ls[k]) by subst h; exact keyAtB_zero hlt))
      have HZ1 := Lib.hid (fun (j : Nat) (h : k = j + 1) => (show keyAtB ps ls k = (decide (0 ≤ findP ps ls[k]) && Op.bytesLess (ls[j]'(by omega)) ls[k]) by subst h; exact keyAtB_more hlt))
      obtain ⟨f, HFF⟩ : ∃ f, Hid (findP ps ls[k] = f) := ⟨_, Lib.hid rfl⟩
      simp only [HFF.out] at HFK HZ0 HZ1
      obtain ⟨cur, HCU⟩ : ∃ cur, Hid (ls[k] = cur) := ⟨_, Lib.hid rfl⟩
      simp only [HCU.out] at HFK HZ1 d1
      have HBX := Lib.hid hbox
      have z0 := fut_cell x0
      have z1 := fut_cell x1
      have z2 := fut_cell d1
      by_cases hf : f < 0
      · have qf : decide (f < 0) = true := decide_eq_true hf
        have HX : Hid (r = false) := Lib.hid (HQ.out (by
          by_cases hz : k = 0
          · rw [HZ0.out hz]; exact decide_eq_false (by omega)
          · rw [HZ1.out (k - 1) (by omega), decide_eq_false (by omega)]; rfl))
        clear HQ HTT HZ0 HZ1 hc hbox
        go_wp2_with fail
        refine wp_region_fut (by kernel_rfl) (by kernel_rfl) ?_
        repeat (first | go_big_quiet_skip | (go_big_quiet_want; go_big_quiet_op; first | go_big_quiet_on | go_big_quiet_call ((go_at_call 59; exact fut_call (HFK.out _ (hb.trans (Below.mono (Fut.bel _) hb.size)))))))
        refine wpQuiet_nil ?_
        rintro _ ⟨⟨w1, hb1⟩, rfl⟩
        have B1 := hb.trans (hb1.mono hb.size)
        go_wp2_with fail
        go_ret
        exact ⟨ret_bool HX.out.symm, B1⟩
      · have qf : decide (f < 0) = false := decide_eq_false hf
        by_cases hz : k = 0
        · have HN2 := Lib.hid (HTT.out (by rw [HZ0.out hz]; exact decide_eq_true (by omega)))
          have g0 : ¬ (0 : Int) < (k : Int) := by omega
          have g1 : decide (0 < k) = false := by simp; omega
          clear hz HQ HTT HZ0 HZ1 hc hbox
          go_wp2_with fail
          refine wp_region_fut (by kernel_rfl) (by kernel_rfl) ?_
          repeat (first | go_big_quiet_skip | (go_big_quiet_want; go_big_quiet_op; first | go_big_quiet_on | go_big_quiet_call ((go_at_call 59; exact fut_call (HFK.out _ (hb.trans (Below.mono (Fut.bel _) hb.size)))))))
          refine wpQuiet_nil ?_
          rintro _ ⟨⟨w1, hb1⟩, rfl⟩
          have B1 := hb.trans (hb1.mono hb.size)
          have b1 := keepB HBX.out hb1
          go_wp2_with fail
          go_roundw
          case rel => exact ⟨k + 1, by omega, by go_num, HN2, B1, b1⟩
          case measure => simp [intOf]; omega
        · obtain ⟨j, hj⟩ : ∃ j, k = j + 1 := ⟨k - 1, by omega⟩
          have HZ2 := Lib.hid (HZ1.out j hj)
          have hjl : j < ls.length := by omega
          have e1 := hc j hjl
          have jw : IntKind.i64.wrap ((k : Int) - 1) = (j : Int) := by rw [show (k : Int) - 1 = (j : Int) by omega]; exact IntWalk.i64_in _ (by omega)
          have g0 : (0 : Int) < (k : Int) := by omega
          have g1 : decide (0 < k) = true := by simp; omega
          have j0 : (0 : Int) ≤ (j : Int) := by omega
          have j1 : (j : Int) < (ls.length : Int) := by omega
          obtain ⟨pr, HPR⟩ : ∃ pr, Hid (ls[j] = pr) := ⟨_, Lib.hid rfl⟩
          rw [HPR.out] at e1 HZ2
          have z3 := fut_cell e1
          cases hl : Op.bytesLess pr cur with
          | true =>
            have HN2 := Lib.hid (HTT.out (by rw [HZ2.out, hl, decide_eq_true (by omega)]; rfl))
            clear hz HQ HTT HZ0 HZ1 HZ2 hc hbox hj
            go_wp2_with fail
            refine wp_region_fut (by kernel_rfl) (by kernel_rfl) ?_
            repeat (first | go_big_quiet_skip | (go_big_quiet_want; go_big_quiet_op; first | go_big_quiet_on | go_big_quiet_call ((go_at_call 59; exact fut_call (HFK.out _ (hb.trans (Below.mono (Fut.bel _) hb.size)))))))
            refine wpQuiet_nil ?_
            rintro _ ⟨⟨w1, hb1⟩, rfl⟩
            have B1 := hb.trans (hb1.mono hb.size)
            have b1 := keepB HBX.out hb1
            go_wp2_with fail
            go_roundw
            case rel => exact ⟨k + 1, by omega, by go_num, HN2, B1, b1⟩
            case measure => simp [intOf]; omega
          | false =>
            have HX := Lib.hid (HQ.out (by rw [HZ2.out, hl, Bool.and_false]))
            clear hz HQ HTT HZ0 HZ1 HZ2 hc hbox hj
            go_wp2_with fail
            refine wp_region_fut (by kernel_rfl) (by kernel_rfl) ?_
            repeat (first | go_big_quiet_skip | (go_big_quiet_want; go_big_quiet_op; first | go_big_quiet_on | go_big_quiet_call ((go_at_call 59; exact fut_call (HFK.out _ (hb.trans (Below.mono (Fut.bel _) hb.size)))))))
            refine wpQuiet_nil ?_
            rintro _ ⟨⟨w1, hb1⟩, rfl⟩
            have B1 := hb.trans (hb1.mono hb.size)
            go_wp2_with fail
            go_ret
            exact ⟨ret_bool HX.out.symm, B1⟩
    · have HX : Hid (r = true) := Lib.hid (by rw [← HRR.out]; have := HT.out; rw [show k = ls.length by omega] at this; exact this)
      go_wp2_with fail
      go_ret
      exact ⟨ret_bool HX.out.symm, hb⟩
end Go.Proofs.YtnodhkjgnegkcaaGreatDoor
