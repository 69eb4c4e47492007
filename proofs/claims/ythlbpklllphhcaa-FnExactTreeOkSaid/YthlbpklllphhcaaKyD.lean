/-
  spec.l06Keys: whether no two keys of a tree are alike, and there are no more than 600.
-/
import Derived.Test.YthlbpklllphhcaaHasA
import Derived.Test.YthlbpklllphhcaaHeapC
import Derived.Deep.QuietTactic
import Derived.BigQuiet
namespace Go.Proofs.Ythlbpklllphhcaa
open Go.RowKit

theorem Strs.roomy {w : World} {base : Nat} {A : Option Addr} {n c : Nat} {ls : List (List UInt8)} (h : Strs w base (.slice A n c) ls) : n = ls.length ∧ n ≤ c := by
  rcases h.2 with ⟨hv, hl⟩ | ⟨g, cap, cur, hv, _, _, hn, _⟩
  · have hl0 : ls.length = 0 := hl
    simp only [Value.slice.injEq] at hv
    omega
  · simp only [Value.slice.injEq] at hv; omega
/-- Right keys, as the specification tests them. -/
def kysOk (ls : List (List UInt8)) : Bool := decide ls.Nodup && decide (ls.length ≤ 600)
theorem kys_bad {ls : List (List UInt8)} {k : Nat} (h : k < ls.length) (hm : ls[k] ∈ ls.take k) : kysOk ls = false := by
  have : ¬ ls.Nodup := fun hn => by
    rw [List.nodup_iff_pairwise_ne] at hn
    obtain ⟨j, hj, e⟩ := List.mem_take_iff_getElem.1 hm
    exact List.pairwise_iff_getElem.1 hn j k (by omega) h (by omega) e
  unfold kysOk; rw [decide_eq_false this]; rfl
theorem kys_step {ls : List (List UInt8)} {k : Nat} (h : k < ls.length) (hn : (ls.take k).Nodup) (hm : ls[k] ∉ ls.take k) : (ls.take (k + 1)).Nodup := by
  rw [List.take_succ_eq_append_getElem h, List.nodup_append]
  refine ⟨hn, by simp, fun a ha b hb => ?_⟩
  simp at hb
  subst hb
  exact fun e => hm (e ▸ ha)

set_option maxRecDepth 100000 in
set_option maxHeartbeats 2000000 in
theorem l06Keys_any (v : Value) (ls : List (List UInt8)) (w : World) (base : Nat) (h : Strs w base v ls) (hl : ls.length ≤ 1048576) :
    Calls Try.prog 118 #[v] w fun e w' => e = .returned (.bool (kysOk ls)) ∧ ∃ n, w' = w.drewN n := by
  have HR := Lib.hid (RdS.of_strs h)
  obtain ⟨A, ca, rfl⟩ := h.slice
  have hcap := h.roomy.2
  obtain ⟨r, HRR⟩ : ∃ r, Hid (kysOk ls = r) := ⟨_, Lib.hid rfl⟩
  rw [HRR.out]
  clear h
  go_enter Try.func118, Try.ntmps118
  go_wp2_with fail
  go_loopw [3] (fun i wr => ∃ k n : Nat, k ≤ ls.length ∧ i = .int .i64 k ∧ Hid (ls.take k).Nodup ∧ wr = w.drewN n) (fun i _ => ls.length - (intOf i).toNat)
  case atStart => exact ⟨0, 0, Nat.zero_le _, rfl, Lib.hid (by simp), rfl⟩
  case round =>
    obtain ⟨k, n, hk, rfl, HD, rfl⟩ := hrel
    by_cases hlt : k < ls.length
    · obtain ⟨A', c', hv, ha⟩ := HR.out
      simp only [Value.slice.injEq] at hv
      obtain ⟨rfl, _, rfl⟩ := hv
      obtain ⟨g, off, rfl, hg, hc⟩ := ha (by omega)
      have d1 : w.cell? ⟨g, off + k, none⟩ = some (.string ⟨ls[k].toArray⟩) := hc k hlt
      have HT : Hid (∀ W : World, Below w.heap.size w W → RdS W (.slice (some ⟨g, off, none⟩) k ca) (ls.take k)) := Lib.hid (fun W hW => by
        have hkl : (ls.take k).length = k := by simp; omega
        refine ⟨_, ca, by rw [hkl], fun h0 => ⟨g, off, rfl, Nat.lt_of_lt_of_le hg hW.size, fun j hj => ?_⟩⟩
        have hj2 : j < ls.length := by omega
        have := keepC hW (hc j hj2)
        rw [this]; simp)
      have k0 : (0 : Int) ≤ (k : Int) := by omega
      have k1 : (k : Int) < (ls.length : Int) := by omega
      have kc : (k : Int) ≤ (ca : Int) := by omega
      have HQ := Lib.hid (fun (m : Nat) => l04Has_any (.slice (some ⟨g, off, none⟩) k ca) (ls.take k) ls[k] (w.drewN m) (HT.out _ (below_drewN _ _ m)) (by simp; omega))
      clear ha hc
      by_cases hm : ls[k] ∈ ls.take k
      · have HX : Hid (r = false) := Lib.hid (by rw [← HRR.out]; exact kys_bad hlt hm)
        have HQ2 : Hid (∀ m : Nat, Calls Try.prog 124 #[.slice (some ⟨g, off, none⟩) k ca, .string ⟨ls[k].toArray⟩] (w.drewN m) fun e w' => e = .returned (.bool true) ∧ w' = w.drewN m) := Lib.hid (fun m => by have := HQ.out m; rw [decide_eq_true hm] at this; exact this)
        clear hm HQ
        go_wp2_with fail
        go_quiet ((go_at_call 124; exact (HQ2.out _).mono (fun e w' h => ⟨h.1, _, h.2⟩)))
        go_wp2_with fail
        go_ret
        exact ⟨ret_bool HX.out.symm, n + nq, by simp⟩
      · have HX := Lib.hid (kys_step hlt HD.out hm)
        have HQ2 : Hid (∀ m : Nat, Calls Try.prog 124 #[.slice (some ⟨g, off, none⟩) k ca, .string ⟨ls[k].toArray⟩] (w.drewN m) fun e w' => e = .returned (.bool false) ∧ w' = w.drewN m) := Lib.hid (fun m => by have := HQ.out m; rw [decide_eq_false hm] at this; exact this)
        clear hm HQ
        go_wp2_with fail
        go_quiet ((go_at_call 124; exact (HQ2.out _).mono (fun e w' h => ⟨h.1, _, h.2⟩)))
        go_wp2_with fail
        go_roundw
        case rel => exact ⟨k + 1, _, by omega, by go_num, HX, rfl⟩
        case measure => simp [intOf]; omega
    · have HX : Hid (r = decide ((ls.length : Int) ≤ 600)) := Lib.hid (by
        have := HD.out
        rw [List.take_of_length_le (by omega)] at this
        rw [← HRR.out]
        unfold kysOk
        rw [decide_eq_true this, Bool.true_and]
        congr 1
        apply propext
        omega)
      go_wp2_with fail
      go_ret
      exact ⟨ret_bool HX.out.symm, n, rfl⟩
end Go.Proofs.Ythlbpklllphhcaa
