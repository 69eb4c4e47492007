/-
  A text bent by a draw: l01Bent.
-/
import Derived.Test.YtjhkfokjfniniaaGreatDoorDrwB
import Derived.Test.YtjhkfokjfniniaaGreatDoorRdIs
import Derived.Deep.RegionHeld3
namespace Go.Proofs.YtjhkfokjfniniaaGreatDoor
open Go.RowKit

theorem CurAt.alloc {w : World} {N p : Nat} (h : CurAt w N p) (o : Obj) : CurAt (w.alloc o) N p := h.below ((Below.refl _ _).alloc (Nat.le_refl _) _)
theorem rdS_new (W : World) (ls : List (List UInt8)) : RdS (W.alloc (.cells (ls.map sv).toArray 9)) (.slice (some ⟨W.heap.size, 0, none⟩) ls.length ls.length) ls :=
  ⟨_, _, rfl, fun _ => ⟨W.heap.size, 0, rfl, by simp, fun k hk => by
    have e := heap_alloc_new W (.cells (ls.map sv).toArray 9)
    rw [Nat.zero_add]
    unfold World.cell?
    simp only [e]
    simp [hk]⟩⟩
/-- One of a list of texts that is made for it is drawn. -/
theorem pick_new (p : Nat) (ls : List (List UInt8)) (W : World) (N : Nat) (h : CurAt W N p) (hne : 0 < ls.length) (hl : ls.length ≤ 256) :
    Calls Tryz.prog 56 #[.pointer (some ⟨p, 0, none⟩), .slice (some ⟨W.heap.size, 0, none⟩) ls.length ls.length] (W.alloc (.cells (ls.map sv).toArray 9)) fun e w' => ∃ x, e = .returned (.string ⟨x.toArray⟩) ∧ x ∈ ls ∧ CurAt w' N p ∧ W.grownBy w' (some p) := by
  have hlt := h.lt
  refine (l01Pick_any p _ ls _ N (h.alloc _) (rdS_new W ls) hne hl (fun A c e a ea => ?_)).mono ?_
  · simp only [Value.slice.injEq] at e
    rw [← e.1] at ea
    cases ea
    simp
    omega
  · rintro e w' ⟨x, he, hx, hC, hg⟩
    exact ⟨x, he, hx, hC, gr_trans (gr_alloc W _ _) hg⟩
theorem pick_drew (p : Nat) (ls : List (List UInt8)) (W : World) (N : Nat) (h : CurAt W N p) (hne : 0 < ls.length) (hl : ls.length ≤ 256) :
    Calls Tryz.prog 56 #[.pointer (some ⟨p, 0, none⟩), .slice (some ⟨W.heap.size, 0, none⟩) ls.length ls.length] (W.alloc (.cells (ls.map sv).toArray 9)).drew fun e w' => ∃ x, e = .returned (.string ⟨x.toArray⟩) ∧ x ∈ ls ∧ CurAt w' N p ∧ W.grownBy w' (some p) := by
  have hlt := h.lt
  refine (l01Pick_any p _ ls _ N ((h.alloc _).below (below_drew _ _)) ((rdS_new W ls).below (below_drew _ _)) hne hl (fun A c e a ea => ?_)).mono ?_
  · simp only [Value.slice.injEq] at e
    rw [← e.1] at ea
    cases ea
    simp
    omega
  · rintro e w' ⟨x, he, hx, hC, hg⟩
    exact ⟨x, he, hx, hC, gr_trans (gr_trans (gr_alloc W _ _) (gr_below (below_drew _ _))) hg⟩
def bent1 : List (List UInt8) := [[48], [32], [255], [34], [10], [97], [44], [61]]
theorem bent1_len : ∀ x ∈ bent1, x.length ≤ 1 := by decide
def bent2 : List (List UInt8) := [[48], [65], [0], [57], [93], [92]]
theorem bent2_len : ∀ x ∈ bent2, x.length ≤ 1 := by decide

set_option maxRecDepth 100000 in
set_option maxHeartbeats 2000000 in
theorem l01Bent_any (p : Nat) (s : ByteArray) (w : World) (N : Nat) (h : CurAt w N p) (hs : s.size ≤ 1000000) :
    Calls Tryz.prog 33 #[.pointer (some ⟨p, 0, none⟩), .string s] w fun e w' => ∃ x : List UInt8, e = .returned (.string ⟨x.toArray⟩) ∧ x.length ≤ s.size + 1 ∧ CurAt w' N p ∧ w.grownBy w' (some p) := by
  have HQ := Lib.hid (fun (W : World) (n : Int) (hC : CurAt W N p) (hn : n ≤ 2147483648) => l01Below_any p n W N hC hn)
  go_enter Tryz.func33, Tryz.ntmps33
  go_wp2_with fail
  refine (HQ.out _ _ h (by omega)).mono ?_
  rintro e w1 ⟨i, rfl, hi, _, hC1, hg1⟩
  have hil : i ≤ s.size := by have := hi (by omega); omega
  clear h hi
  go_wp2_with fail
  refine (HQ.out _ _ hC1 (by omega)).mono ?_
  rintro e w2 ⟨j, rfl, hj, _, hC2, hg2⟩
  have g2 := gr_trans hg1 hg2
  clear hC1 hg1 hg2 hj
  have he := slice_to s _ i (i : Int) rfl (by omega) (piece s 0 i)
  by_cases j0 : j = 0
  · have q0 : ((j : Int) == 0) = true := by simp [j0]
    clear j0
    go_wp2_with fail
    go_ret
    exact ⟨_, rfl, by simp; omega, hC2, g2⟩
  have q0 : ((j : Int) == 0) = false := int_beq_false (by omega)
  by_cases j1 : j = 1
  · have q1 : ((j : Int) == 1) = true := by simp [j1]
    have hf := slice_from s _ i (i : Int) rfl hil (piece_end s i)
    obtain ⟨P, HP⟩ : ∃ P, Hid ((s.data.toList.take i).drop 0 = P) := ⟨_, Lib.hid rfl⟩
    obtain ⟨R, HR⟩ : ∃ R, Hid (s.data.toList.drop i = R) := ⟨_, Lib.hid rfl⟩
    have lP : P.length ≤ i := by rw [← HP.out]; simp; omega
    have lR : R.length ≤ s.size - i := by rw [← HR.out]; simp
    rw [HP.out] at he
    rw [HR.out] at hf
    have HPK : Hid (Calls Tryz.prog 56 #[.pointer (some ⟨p, 0, none⟩), .slice (some ⟨w2.heap.size, 0, none⟩) 8 8] (w2.alloc (.cells #[.string ⟨#[48]⟩, .string ⟨#[32]⟩, .string ⟨#[255]⟩, .string ⟨#[34]⟩, .string ⟨#[10]⟩, .string ⟨#[97]⟩, .string ⟨#[44]⟩, .string ⟨#[61]⟩] 9)).drew fun e w' => ∃ x : List UInt8, e = .returned (.string ⟨x.toArray⟩) ∧ x.length ≤ 1 ∧ CurAt w' N p ∧ w2.grownBy w' (some p)) := Lib.hid ((pick_drew p bent1 w2 N hC2 (by decide) (by decide)).mono (fun e w' ⟨x, he, hx, h1, h2⟩ => ⟨x, he, bent1_len x hx, h1, h2⟩))
    have HSA : Hid (∀ (x : List UInt8) (W : World), x.length ≤ 1 → (Op.stringOp .add ⟨P.toArray⟩ ⟨x.toArray⟩).run Tryz.prog W = .ok (.string ⟨(P ++ x).toArray⟩) W) := Lib.hid (fun x W hx => run_string_add_lists W P x (by omega) (by omega))
    have HSB : Hid (∀ (x : List UInt8) (W : World), x.length ≤ 1 → (Op.stringOp .add ⟨(P ++ x).toArray⟩ ⟨R.toArray⟩).run Tryz.prog W = .ok (.string ⟨(P ++ x ++ R).toArray⟩) W) := Lib.hid (fun x W hx => run_string_add_lists W (P ++ x) R (by simp; omega) (by omega))
    clear j1 j0
    go_wp2_with fail
    go_region_held3 (fun _ => True) (trivial) ((first | (go_at_call 56; (with_reducible refine HPK.out.mono ?_); rintro e w3 ⟨x, rfl, hx, hC3, hg3⟩; have sA := fun W => HSA.out x W hx; have sB := fun W => HSB.out x W hx)))
    go_wp2_with fail
    go_ret
    exact ⟨P ++ (x ++ R), rfl, by simp; omega, hC3, gr_trans g2 hg3⟩
  have q1 : ((j : Int) == 1) = false := int_beq_false (by omega)
  by_cases j2 : j = 2
  · have q2 : ((j : Int) == 2) = true := by simp [j2]
    by_cases hlt : i < s.size
    · have k1 : (i : Int) < (s.size : Int) := by omega
      have hf := slice_from s _ (i + 1) ((i : Int) + 1) (by omega) (by omega) (piece_end s (i + 1))
      obtain ⟨P, HP⟩ : ∃ P, Hid ((s.data.toList.take i).drop 0 = P) := ⟨_, Lib.hid rfl⟩
      obtain ⟨R, HR⟩ : ∃ R, Hid (s.data.toList.drop (i + 1) = R) := ⟨_, Lib.hid rfl⟩
      have lP : P.length ≤ i := by rw [← HP.out]; simp; omega
      have lR : R.length ≤ s.size - i := by rw [← HR.out]; simp; omega
      rw [HP.out] at he
      rw [HR.out] at hf
      have HPK : Hid (Calls Tryz.prog 56 #[.pointer (some ⟨p, 0, none⟩), .slice (some ⟨w2.heap.size, 0, none⟩) 6 6] (w2.alloc (.cells #[.string ⟨#[48]⟩, .string ⟨#[65]⟩, .string ⟨#[0]⟩, .string ⟨#[57]⟩, .string ⟨#[93]⟩, .string ⟨#[92]⟩] 9)).drew fun e w' => ∃ x : List UInt8, e = .returned (.string ⟨x.toArray⟩) ∧ x.length ≤ 1 ∧ CurAt w' N p ∧ w2.grownBy w' (some p)) := Lib.hid ((pick_drew p bent2 w2 N hC2 (by decide) (by decide)).mono (fun e w' ⟨x, he, hx, h1, h2⟩ => ⟨x, he, bent2_len x hx, h1, h2⟩))
      have HSA : Hid (∀ (x : List UInt8) (W : World), x.length ≤ 1 → (Op.stringOp .add ⟨P.toArray⟩ ⟨x.toArray⟩).run Tryz.prog W = .ok (.string ⟨(P ++ x).toArray⟩) W) := Lib.hid (fun x W hx => run_string_add_lists W P x (by omega) (by omega))
      have HSB : Hid (∀ (x : List UInt8) (W : World), x.length ≤ 1 → (Op.stringOp .add ⟨(P ++ x).toArray⟩ ⟨R.toArray⟩).run Tryz.prog W = .ok (.string ⟨(P ++ x ++ R).toArray⟩) W) := Lib.hid (fun x W hx => run_string_add_lists W (P ++ x) R (by simp; omega) (by omega))
      have wz : IntKind.i64.wrap ((i : Int) + 1) = (i : Int) + 1 := IntWalk.i64_in _ (by omega)
      clear j2 j1 j0
      go_wp2_with fail
      go_region_held3 (fun _ => True) (trivial) ((first | (go_at_call 56; (with_reducible refine HPK.out.mono ?_); rintro e w3 ⟨x, rfl, hx, hC3, hg3⟩; have sA := fun W => HSA.out x W hx; have sB := fun W => HSB.out x W hx)))
      go_wp2_with fail
      go_ret
      exact ⟨P ++ (x ++ R), rfl, by simp; omega, hC3, gr_trans g2 hg3⟩
    · have k1 : ¬ (i : Int) < (s.size : Int) := by omega
      clear j2 j1 j0
      go_wp2_with fail
      go_ret
      exact ⟨s.data.toList, by simp, by simp, hC2, g2⟩
  have q2 : ((j : Int) == 2) = false := int_beq_false (by omega)
  go_wp2_with fail
  go_ret
  exact ⟨s.data.toList, by simp, by simp, hC2, g2⟩
end Go.Proofs.YtjhkfokjfniniaaGreatDoor
