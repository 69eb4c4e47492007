/-
  impl.CompareVersion: how two versions stand.
-/
import Derived.Test.YtcfkhfbhmjfhdaaGreatDoorCmpF
namespace Go.Proofs.YtcfkhfbhmjfhdaaGreatDoor
open Go.RowKit

set_option maxRecDepth 100000 in
set_option maxHeartbeats 8000000 in
theorem implCompareVersion_grow (a b c a' b' c' : Int) (va vb : Value) (x y : List (List UInt8)) (w : World) (ha : RdS w va x) (hb : RdS w vb y) (hx : Sm x) (hy : Sm y) :
    Calls Tryz.prog 55 #[.agg #[.int .i64 a, .int .i64 b, .int .i64 c, va], .agg #[.int .i64 a', .int .i64 b', .int .i64 c', vb]] w fun e w' => ∃ q o, e = .returned (.int .i64 (cmpVer a b c x a' b' c' y)) ∧ w' = (((w.alloc (.cells #[.int .i64 a, .int .i64 b, .int .i64 c, va] 74)).alloc (.cells #[.int .i64 a', .int .i64 b', .int .i64 c', vb] 74)).drewN q).alloc o := by
  have HP := Lib.hid (fun (W : World) (h : Below w.heap.size w W) => comparePre_any va vb x y W (ha.below h) (hb.below h) hx hy)
  have HV : Hid (cmpVer a b c x a' b' c' y = orI (cmpI a a') (orI (cmpI b b') (orI (cmpI c c') (cmpPre x y)))) := Lib.hid rfl
  have HB : Below w.heap.size w ((w.alloc (.cells #[.int .i64 a, .int .i64 b, .int .i64 c, va] 74)).alloc (.cells #[.int .i64 a', .int .i64 b', .int .i64 c', vb] 74)) := ((Below.refl _ _).alloc (Nat.le_refl _) _).alloc (by simp) _
  clear ha hb hx hy
  go_enter Tryz.func55, Tryz.ntmps55
  go_wp2_with fail
  have c0 : ((w.alloc (.cells #[.int .i64 a, .int .i64 b, .int .i64 c, va] 74)).alloc (.cells #[.int .i64 a', .int .i64 b', .int .i64 c', vb] 74)).cell? ⟨w.heap.size, 0, none⟩ = some (.int .i64 a) := by simp
  have c1 : ((w.alloc (.cells #[.int .i64 a, .int .i64 b, .int .i64 c, va] 74)).alloc (.cells #[.int .i64 a', .int .i64 b', .int .i64 c', vb] 74)).cell? ⟨w.heap.size, 1, none⟩ = some (.int .i64 b) := by simp
  have c2 : ((w.alloc (.cells #[.int .i64 a, .int .i64 b, .int .i64 c, va] 74)).alloc (.cells #[.int .i64 a', .int .i64 b', .int .i64 c', vb] 74)).cell? ⟨w.heap.size, 2, none⟩ = some (.int .i64 c) := by simp
  have c3 : ((w.alloc (.cells #[.int .i64 a, .int .i64 b, .int .i64 c, va] 74)).alloc (.cells #[.int .i64 a', .int .i64 b', .int .i64 c', vb] 74)).cell? ⟨w.heap.size, 3, none⟩ = some va := by simp
  have e0 : ((w.alloc (.cells #[.int .i64 a, .int .i64 b, .int .i64 c, va] 74)).alloc (.cells #[.int .i64 a', .int .i64 b', .int .i64 c', vb] 74)).cell? ⟨w.heap.size + 1, 0, none⟩ = some (.int .i64 a') := by simp
  have e1 : ((w.alloc (.cells #[.int .i64 a, .int .i64 b, .int .i64 c, va] 74)).alloc (.cells #[.int .i64 a', .int .i64 b', .int .i64 c', vb] 74)).cell? ⟨w.heap.size + 1, 1, none⟩ = some (.int .i64 b') := by simp
  have e2 : ((w.alloc (.cells #[.int .i64 a, .int .i64 b, .int .i64 c, va] 74)).alloc (.cells #[.int .i64 a', .int .i64 b', .int .i64 c', vb] 74)).cell? ⟨w.heap.size + 1, 2, none⟩ = some (.int .i64 c') := by simp
  have e3 : ((w.alloc (.cells #[.int .i64 a, .int .i64 b, .int .i64 c, va] 74)).alloc (.cells #[.int .i64 a', .int .i64 b', .int .i64 c', vb] 74)).cell? ⟨w.heap.size + 1, 3, none⟩ = some vb := by simp
  have l1 : w.heap.size + 1 < ((w.alloc (.cells #[.int .i64 a, .int .i64 b, .int .i64 c, va] 74)).alloc (.cells #[.int .i64 a', .int .i64 b', .int .i64 c', vb] 74)).heap.size := by simp
  obtain ⟨n0, hn0⟩ : ∃ n, n = w.heap.size := ⟨_, rfl⟩
  rw [← hn0] at HB c0 c1 c2 c3 e0 e1 e2 e3 l1 ⊢
  obtain ⟨W, hW⟩ : ∃ W, W = ((w.alloc (.cells #[.int .i64 a, .int .i64 b, .int .i64 c, va] 74)).alloc (.cells #[.int .i64 a', .int .i64 b', .int .i64 c', vb] 74)) := ⟨_, rfl⟩
  rw [← hW] at HB c0 c1 c2 c3 e0 e1 e2 e3 l1 ⊢
  have HW := Lib.hid hW
  clear hW
  have HN0 := Lib.hid hn0
  clear hn0
  go_region_held3 (fun w' => w'.cell? ⟨n0, 0, none⟩ = some (.int .i64 a) ∧ w'.cell? ⟨n0, 1, none⟩ = some (.int .i64 b) ∧ w'.cell? ⟨n0, 2, none⟩ = some (.int .i64 c) ∧ w'.cell? ⟨n0, 3, none⟩ = some va ∧ w'.cell? ⟨n0 + 1, 0, none⟩ = some (.int .i64 a') ∧ w'.cell? ⟨n0 + 1, 1, none⟩ = some (.int .i64 b') ∧ w'.cell? ⟨n0 + 1, 2, none⟩ = some (.int .i64 c') ∧ w'.cell? ⟨n0 + 1, 3, none⟩ = some vb) (first | exact ⟨c0, c1, c2, c3, e0, e1, e2, e3⟩ | go_keep) ((first | (go_at_call 82; (with_reducible refine (cmpInt_any _ _ _).mono ?_); rintro e w' ⟨rfl, rfl⟩) | (go_at_call 83; (with_reducible refine (HP.out _ (by first | exact HN0.out ▸ HB.trans (below_drewN _ _ 1))).mono ?_); rintro e w' ⟨rfl, nq, rfl⟩) | (go_at_call 81; refine (cmpOr4_any _ _ _ _ _ _ _ (heap_alloc_new _ _)).mono ?_; rintro e w' ⟨rfl, rfl⟩)))
  all_goals
    go_wp2_with fail
    go_ret
    exact ⟨1 + nq, _, ret_int HV.out.symm, by rw [← HW.out]⟩

theorem implCompareVersion_any (a b c a' b' c' : Int) (va vb : Value) (x y : List (List UInt8)) (w : World) (ha : RdS w va x) (hb : RdS w vb y) (hx : Sm x) (hy : Sm y) :
    Calls Tryz.prog 55 #[.agg #[.int .i64 a, .int .i64 b, .int .i64 c, va], .agg #[.int .i64 a', .int .i64 b', .int .i64 c', vb]] w fun e w' => e = .returned (.int .i64 (cmpVer a b c x a' b' c' y)) ∧ Below w.heap.size w w' := by
  refine (implCompareVersion_grow a b c a' b' c' va vb x y w ha hb hx hy).mono ?_
  rintro e w' ⟨q, o, rfl, rfl⟩
  exact ⟨rfl, ((((Below.refl _ _).alloc (Nat.le_refl _) _).alloc (by simp) _).trans (below_drewN _ _ q)).alloc (by simp [World.drewN]; omega) _⟩
end Go.Proofs.YtcfkhfbhmjfhdaaGreatDoor
