/-
  slices.CompareFunc at impl's identifiers, comparePre, cmp.Or at four ints.
-/
import Derived.Test.YtcfkhfbhmjfhdaaGreatDoorCmpI
import Derived.Test.YtcfkhfbhmjfhdaaGreatDoorLawB
import Derived.LoopN
namespace Go.Proofs.YtcfkhfbhmjfhdaaGreatDoor
open Go.RowKit

theorem sm_get {ls : List (List UInt8)} (h : ∀ l ∈ ls, l.length ≤ 1048576) (k : Nat) (hk : k < ls.length) : (⟨ls[k].toArray⟩ : ByteArray).size ≤ 1048576 := by
  have := h ls[k] (List.getElem_mem hk)
  show ls[k].toArray.size ≤ _
  simpa using this

set_option maxRecDepth 100000 in
set_option maxHeartbeats 1000000 in
theorem compareFunc_any (va vb : Value) (x y : List (List UInt8)) (w : World) (ha : RdS w va x) (hb : RdS w vb y) (hx : Sm x) (hy : Sm y) :
    Calls Tryz.prog 113 #[va, vb, .func (.func 114) #[] #[]] w fun e w' => e = .returned (.int .i64 (cmpL x y)) ∧ ∃ n, w' = w.drewN n := by
  obtain ⟨A, ca, rfl, ha⟩ := ha
  obtain ⟨B, cb, rfl, hb⟩ := hb
  have hx1 := hx.1
  have hy1 := hy.1
  have HX := Lib.hid hx.2
  have HY := Lib.hid hy.2
  clear hx hy
  go_enter Tryz.func113, Tryz.ntmps113
  go_wp2
  go_loopw [7, 8, 9, 10, 13] (fun _ _ _ _ i wr => ∃ k n : Nat, k ≤ x.length ∧ k ≤ y.length ∧ i = .int .i64 k ∧ wr = w.drewN n ∧ Hid (cmpL x y = cmpL (x.drop k) (y.drop k))) (fun _ _ _ _ i _ => x.length - (intOf i).toNat)
  case atStart => exact ⟨0, 0, Nat.zero_le _, Nat.zero_le _, rfl, rfl, Lib.hid (by simp)⟩
  case round =>
    obtain ⟨k, n, hk, hk', rfl, rfl, H⟩ := hrel
    by_cases hlt : k < x.length
    · obtain ⟨g, off, rfl, _, hca⟩ := ha (by omega)
      have d1 : w.cell? ⟨g, off + k, none⟩ = some (.string ⟨x[k].toArray⟩) := hca k hlt
      have k0 : (0 : Int) ≤ (k : Int) := by omega
      have k1 : (k : Int) < (x.length : Int) := by omega
      by_cases hlt2 : k < y.length
      · obtain ⟨g2, off2, rfl, _, hcb⟩ := hb (by omega)
        have d2 : w.cell? ⟨g2, off2 + k, none⟩ = some (.string ⟨y[k].toArray⟩) := hcb k hlt2
        have k2 : (k : Int) < (y.length : Int) := by omega
        have HC := Lib.hid (fun W => compareIdentifiers_any ⟨x[k].toArray⟩ ⟨y[k].toArray⟩ W (sm_get HX.out k hlt) (sm_get HY.out k hlt2))
        have HS := Lib.hid (cmpL_step hlt hlt2)
        clear ha hb hca hcb
        obtain ⟨z, HZ⟩ : ∃ z, Hid (cmpPart x[k] y[k] = z) := ⟨_, Lib.hid rfl⟩
        by_cases hz : z = 0
        · have hz' : (z != 0) = false := by simp [hz]
          have HN : Hid (cmpL x y = cmpL (x.drop (k + 1)) (y.drop (k + 1))) := Lib.hid (by rw [H.out, HS.out, HZ.out, hz]; rfl)
          clear hz
          go_wp2_with fail
          refine (HC.out _).mono ?_
          rw [show cmpPart (⟨x[k].toArray⟩ : ByteArray).data.toList (⟨y[k].toArray⟩ : ByteArray).data.toList = z from HZ.out]
          rintro e w' ⟨rfl, m, rfl⟩
          go_wp2_with fail
          go_roundw
          case rel => exact ⟨k + 1, n + m, by omega, by omega, by go_num, by simp [World.drewN], HN⟩
          case measure => simp [intOf]; omega
        · have hz' : (z != 0) = true := by simp [hz]
          have HN : Hid (cmpL x y = z) := Lib.hid (by rw [H.out, HS.out, HZ.out]; exact orI_ne _ hz)
          clear hz
          go_wp2_with fail
          refine (HC.out _).mono ?_
          rw [show cmpPart (⟨x[k].toArray⟩ : ByteArray).data.toList (⟨y[k].toArray⟩ : ByteArray).data.toList = z from HZ.out]
          rintro e w' ⟨rfl, m, rfl⟩
          go_wp2_with fail
          go_ret
          exact ⟨ret_int HN.out.symm, n + m, by simp [World.drewN]⟩
      · have HN : Hid (cmpL x y = 1) := Lib.hid (by rw [H.out]; exact cmpL_right hlt hlt2)
        clear ha hb hca
        go_wp2_with fail
        go_ret
        exact ⟨ret_int HN.out.symm, n, rfl⟩
    · clear ha hb
      by_cases hlt2 : k < y.length
      · have HN : Hid (cmpL x y = -1) := Lib.hid (by rw [H.out]; exact cmpL_left hlt hlt2)
        have hl : (x.length : Int) < (y.length : Int) := by omega
        go_wp2_with fail
        go_ret
        exact ⟨ret_int HN.out.symm, n, rfl⟩
      · have HN : Hid (cmpL x y = 0) := Lib.hid (by rw [H.out]; exact cmpL_end hlt hlt2)
        have hl : ¬ (x.length : Int) < (y.length : Int) := by omega
        go_wp2_with fail
        go_ret
        exact ⟨ret_int HN.out.symm, n, rfl⟩

set_option maxRecDepth 100000 in
set_option maxHeartbeats 1000000 in
theorem comparePre_any (va vb : Value) (x y : List (List UInt8)) (w : World) (ha : RdS w va x) (hb : RdS w vb y) (hx : Sm x) (hy : Sm y) :
    Calls Tryz.prog 83 #[va, vb] w fun e w' => e = .returned (.int .i64 (cmpPre x y)) ∧ ∃ n, w' = w.drewN n := by
  have HC := Lib.hid (compareFunc_any va vb x y w ha hb hx hy)
  obtain ⟨A, ca, rfl, _⟩ := ha
  obtain ⟨B, cb, rfl, _⟩ := hb
  have hx1 := hx.1
  have hy1 := hy.1
  by_cases h1 : x = []
  · have HP := Lib.hid (cmpPre_empty (x := x) (y := y) (.inl h1))
    have q1 : ((x.length : Int) == 0) = true := by simp [h1]
    clear h1 hx hy HC
    go_enter Tryz.func83, Tryz.ntmps83
    go_wp2_with (go_at_call 82; refine (cmpInt_any _ _ _).mono ?_; rintro e w' ⟨rfl, rfl⟩)
    go_ret
    exact ⟨ret_int HP.out.symm, 0, rfl⟩
  · have hl1 : 0 < x.length := by cases x <;> simp_all
    have q1 : ((x.length : Int) == 0) = false := int_beq_false (by omega)
    by_cases h2 : y = []
    · have HP := Lib.hid (cmpPre_empty (x := x) (y := y) (.inr h2))
      have q2 : ((y.length : Int) == 0) = true := by simp [h2]
      clear h1 h2 hx hy HC
      go_enter Tryz.func83, Tryz.ntmps83
      go_wp2_with (go_at_call 82; refine (cmpInt_any _ _ _).mono ?_; rintro e w' ⟨rfl, rfl⟩)
      go_ret
      exact ⟨ret_int HP.out.symm, 0, rfl⟩
    · have hl2 : 0 < y.length := by cases y <;> simp_all
      have q2 : ((y.length : Int) == 0) = false := int_beq_false (by omega)
      have HP := Lib.hid (cmpPre_full (x := x) (y := y) (by rintro (h | h); exact h1 h; exact h2 h))
      clear h1 h2 hx hy
      go_enter Tryz.func83, Tryz.ntmps83
      go_wp2_with fail
      refine HC.out.mono ?_
      rintro e w' ⟨rfl, n, rfl⟩
      go_wp2_with fail
      go_ret
      exact ⟨ret_int HP.out.symm, n, rfl⟩

set_option maxRecDepth 100000 in
set_option maxHeartbeats 1000000 in
theorem cmpOr4_any (p q r s : Int) (w : World) (B : Nat) (t : TypeId) (hB : w.heap[B]? = some (.cells #[.int .i64 p, .int .i64 q, .int .i64 r, .int .i64 s] t)) :
    Calls Tryz.prog 81 #[.slice (some ⟨B, 0, none⟩) 4 4] w fun e w' => e = .returned (.int .i64 (orI p (orI q (orI r s)))) ∧ w' = w := by
  have c0 : w.cell? ⟨B, 0, none⟩ = some (.int .i64 p) := by simp [World.cell?, hB]
  have c1 : w.cell? ⟨B, 1, none⟩ = some (.int .i64 q) := by simp [World.cell?, hB]
  have c2 : w.cell? ⟨B, 2, none⟩ = some (.int .i64 r) := by simp [World.cell?, hB]
  have c3 : w.cell? ⟨B, 3, none⟩ = some (.int .i64 s) := by simp [World.cell?, hB]
  clear hB
  by_cases hp : p = 0
  · by_cases hq : q = 0
    · by_cases hr : r = 0
      · have HO : Hid (orI p (orI q (orI r s)) = s) := Lib.hid (by rw [hp, hq, hr]; rfl)
        have q1 : (p != 0) = false := by simp [hp]
        have q2 : (q != 0) = false := by simp [hq]
        have q3 : (r != 0) = false := by simp [hr]
        clear hp hq hr
        by_cases hs : s = 0
        · have HO2 : Hid (orI p (orI q (orI r s)) = 0) := Lib.hid (by rw [HO.out, hs])
          have q4 : (s != 0) = false := by simp [hs]
          clear hs
          go_enter Tryz.func81, Tryz.ntmps81
          go_wp2
          refine wp_loop_rounds 5 ?_
          rw [rounds_succ]; go_wp2
          rw [rounds_succ]; go_wp2
          rw [rounds_succ]; go_wp2
          rw [rounds_succ]; go_wp2
          rw [rounds_succ]; go_wp2
          go_ret
          exact ⟨ret_int HO2.out.symm, rfl⟩
        · have q4 : (s != 0) = true := by simp [hs]
          clear hs
          go_enter Tryz.func81, Tryz.ntmps81
          go_wp2
          refine wp_loop_rounds 4 ?_
          rw [rounds_succ]; go_wp2
          rw [rounds_succ]; go_wp2
          rw [rounds_succ]; go_wp2
          rw [rounds_succ]; go_wp2
          go_ret
          exact ⟨ret_int HO.out.symm, rfl⟩
      · have HO : Hid (orI p (orI q (orI r s)) = r) := Lib.hid (by rw [hp, hq, orI_zero, orI_zero, orI_ne _ hr])
        have q1 : (p != 0) = false := by simp [hp]
        have q2 : (q != 0) = false := by simp [hq]
        have q3 : (r != 0) = true := by simp [hr]
        clear hp hq hr
        go_enter Tryz.func81, Tryz.ntmps81
        go_wp2
        refine wp_loop_rounds 3 ?_
        rw [rounds_succ]; go_wp2
        rw [rounds_succ]; go_wp2
        rw [rounds_succ]; go_wp2
        go_ret
        exact ⟨ret_int HO.out.symm, rfl⟩
    · have HO : Hid (orI p (orI q (orI r s)) = q) := Lib.hid (by rw [hp, orI_zero, orI_ne _ hq])
      have q1 : (p != 0) = false := by simp [hp]
      have q2 : (q != 0) = true := by simp [hq]
      clear hp hq
      go_enter Tryz.func81, Tryz.ntmps81
      go_wp2
      refine wp_loop_rounds 2 ?_
      rw [rounds_succ]; go_wp2
      rw [rounds_succ]; go_wp2
      go_ret
      exact ⟨ret_int HO.out.symm, rfl⟩
  · have HO : Hid (orI p (orI q (orI r s)) = p) := Lib.hid (orI_ne _ hp)
    have q1 : (p != 0) = true := by simp [hp]
    clear hp
    go_enter Tryz.func81, Tryz.ntmps81
    go_wp2
    refine wp_loop_rounds 1 ?_
    rw [rounds_succ]; go_wp2
    go_ret
    exact ⟨ret_int HO.out.symm, rfl⟩
end Go.Proofs.YtcfkhfbhmjfhdaaGreatDoor
