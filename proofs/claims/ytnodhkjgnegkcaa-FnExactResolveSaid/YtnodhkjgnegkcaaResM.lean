/-
  Which entry bears a head, in plain words; spec.Resolve.
-/
import Derived.Test.YtnodhkjgnegkcaaEnL
import Derived.Deep.QuietTactic
import Derived.BigQuiet
namespace Go.Proofs.Ytnodhkjgnegkcaa
open Go.RowKit

/-- The first entry from k on that bears the head n, counted from k. -/
def resE (n : Bd) : List En → Nat → Int
  | [], _ => -1
  | e :: es, k => if n ∈ e.heads then (k : Int) else resE n es (k + 1)
/-- The first entry that bears n, from entry k on. -/
def resK (es : List En) (n : Bd) (k : Nat) : Int := resE n (es.drop k) k
theorem resK_end (es : List En) (n : Bd) : resK es n es.length = -1 := by unfold resK; rw [List.drop_eq_nil_of_le (Nat.le_refl _)]; rfl
theorem resK_hit {es : List En} {n : Bd} {k : Nat} (hk : k < es.length) (h : n ∈ es[k].heads) : resK es n k = k := by
  unfold resK; rw [List.drop_eq_getElem_cons hk]; unfold resE; rw [if_pos h]
theorem resK_miss {es : List En} {n : Bd} {k : Nat} (hk : k < es.length) (h : n ∉ es[k].heads) : resK es n k = resK es n (k + 1) := by
  unfold resK; rw [List.drop_eq_getElem_cons hk]; conv => lhs; unfold resE; rw [if_neg h]
theorem resE_lt (n : Bd) : ∀ (es : List En) (k : Nat), -1 ≤ resE n es k ∧ resE n es k < (k + es.length : Nat) + 1
  | [], k => by unfold resE; simp; omega
  | e :: es, k => by
    have := resE_lt n es (k + 1)
    unfold resE; split <;> simp at * <;> omega
theorem drop_miss {n : Bd} {l : List Bd} {m : Nat} (hm : m < l.length) (h : l[m] ≠ n) : n ∈ l.drop m ↔ n ∈ l.drop (m + 1) := by
  rw [List.drop_eq_getElem_cons hm, List.mem_cons]
  exact ⟨fun h' => h'.resolve_left (fun e => h e.symm), .inr⟩
theorem drop_hit {n : Bd} {l : List Bd} {m : Nat} (hm : m < l.length) (h : l[m] = n) : n ∈ l := h ▸ List.getElem_mem hm
theorem RdB.atR {w : World} {A : Option Addr} {n cap : Nat} {bs : List Bd} (h : RdB w (.slice A n cap) bs) (k : Nat) (hk : k < bs.length) : ∃ g off, A = some ⟨g, off, none⟩ ∧ g < w.heap.size ∧ w.cell? ⟨g, off + k * 2, none⟩ = some (.string ⟨bs[k].1.toArray⟩) ∧ w.cell? ⟨g, off + k * 2 + 1, none⟩ = some (.string ⟨bs[k].2.toArray⟩) := by
  obtain ⟨A', ca', hv, ha⟩ := h
  simp only [Value.slice.injEq] at hv
  obtain ⟨rfl, _, rfl⟩ := hv
  obtain ⟨g, off, hA, hg, hc⟩ := ha (by omega)
  exact ⟨g, off, hA, hg, hc k hk⟩

set_option maxRecDepth 100000 in
set_option maxHeartbeats 4000000 in
theorem specResolve_any (v : Value) (es : List En) (n : Bd) (w : World) (hr : RdEs w v es) (hl : es.length ≤ 1048576) (hs : ∀ e ∈ es, e.heads.length ≤ 1048576) :
    Calls Try.prog 9 #[v, .agg #[.string ⟨n.1.toArray⟩, .string ⟨n.2.toArray⟩]] w fun e w' => e = .returned (.int .i64 (resK es n 0)) ∧ Below w.heap.size w w' := by
  obtain ⟨n1, n2⟩ := n
  simp only
  have HR := Lib.hid hr
  have HS := Lib.hid hs
  obtain ⟨A, ca, rfl, _⟩ := hr
  have B0 : Below w.heap.size w (w.alloc (.cells #[.string ⟨n1.toArray⟩, .string ⟨n2.toArray⟩] 30)) := (Below.refl _ _).alloc (Nat.le_refl _) _
  have b0 := heap_alloc_new w (.cells #[.string ⟨n1.toArray⟩, .string ⟨n2.toArray⟩] 30)
  clear hs
  go_enter Try.func9, Try.ntmps9
  go_wp2_with fail
  generalize w.alloc (.cells #[.string ⟨n1.toArray⟩, .string ⟨n2.toArray⟩] 30) = W0 at B0 b0 ⊢
  go_loopw [5] (fun i wr => ∃ k : Nat, k ≤ es.length ∧ i = .int .i64 k ∧ wr.heap[w.heap.size]? = some (.cells #[.string ⟨n1.toArray⟩, .string ⟨n2.toArray⟩] 30) ∧ Below w.heap.size w wr ∧ Hid (resK es (n1, n2) 0 = resK es (n1, n2) k)) (fun i _ => es.length - (intOf i).toNat)
  case atStart => exact ⟨0, Nat.zero_le _, rfl, b0, B0, Lib.hid rfl⟩
  case round =>
    obtain ⟨k, hk, rfl, hb, hB, HK⟩ := hrel
    clear b0 B0
    by_cases hlt : k < es.length
    · obtain ⟨g, off, rfl, hg, a0, a1, d0, d1, d2, d3, d4, r0, r1⟩ := (HR.out.below hB).at k hlt
      have hnl := HS.out _ (List.getElem_mem hlt)
      have HRB := Lib.hid r0
      obtain ⟨A1, c1, rfl, _⟩ := r0
      obtain ⟨nl, HNL⟩ : ∃ nl, Hid (es[k].heads.length = nl) := ⟨_, Lib.hid rfl⟩
      rw [HNL.out] at d0 hnl HRB
      have k0 : (0 : Int) ≤ (k : Int) := by omega
      have k1 : (k : Int) < (es.length : Int) := by omega
      obtain ⟨x0, x1⟩ := cellsG hb
      clear d1 d2 d3 d4 r1
      go_wp2_with fail
      go_loopw [6] (fun j W => ∃ m : Nat, m ≤ nl ∧ j = .int .i64 m ∧ Below wr.heap.size wr W ∧ Hid ((n1, n2) ∈ es[k].heads ↔ (n1, n2) ∈ es[k].heads.drop m)) (fun j _ => nl - (intOf j).toNat)
      case atStart => exact ⟨0, Nat.zero_le _, rfl, Below.refl _ _, Lib.hid (by simp)⟩
      case round =>
        obtain ⟨m, hm, rfl, hW, HM⟩ := hrel
        have hb2 := keepB hb hW
        obtain ⟨y0, y1⟩ := cellsG hb2
        have d2 := keepC hW d0
        have gW := Nat.lt_of_lt_of_le hg hW.size
        by_cases hmt : m < nl
        · have hmt' : m < es[k].heads.length := by rw [HNL.out]; exact hmt
          obtain ⟨g2, off2, rfl, hg2, e0, e1⟩ := RdB.atR (HRB.out.below hW) m hmt'
          have m0 : (0 : Int) ≤ (m : Int) := by omega
          have m1 : (m : Int) < (nl : Int) := by omega
          obtain ⟨pr, HP⟩ : ∃ pr, Hid (es[k].heads[m] = pr) := ⟨_, Lib.hid rfl⟩
          rw [HP.out] at e0 e1
          obtain ⟨q1, q2⟩ := pr
          simp only at e0 e1
          have HX := Lib.hid (resK_hit (n := (n1, n2)) hlt)
          by_cases c1 : q1 = n1
          · by_cases c2 : q2 = n2
            · subst c1 c2
              have HY : Hid (resK es (q1, q2) 0 = k) := Lib.hid (HK.out.trans (HX.out (drop_hit hmt' HP.out)))
              clear HX HM HK HP hmt'
              go_wp2_with fail
              go_quiet (fail)
              go_wp2_with fail
              go_ret
              exact ⟨by rw [HY.out]; rfl, (hB.trans (hW.mono hB.size)).trans (below_drewN _ _ _)⟩
            · subst c1
              have HY := Lib.hid (HM.out.trans (drop_miss hmt' (by rw [HP.out]; intro h; exact c2 (by injection h))))
              clear HX HM HP hmt'
              go_wp2_with fail
              go_quiet (fail)
              go_wp2_with fail
              go_roundw
              case rel => exact ⟨m + 1, by omega, by go_num, hW.trans (below_drewN _ _ _), HY⟩
              case measure => simp [intOf]; omega
          · have HY := Lib.hid (HM.out.trans (drop_miss hmt' (by rw [HP.out]; intro h; exact c1 (by injection h))))
            clear HX HM HP hmt'
            go_wp2_with fail
            go_quiet (fail)
            go_wp2_with fail
            go_roundw
            case rel => exact ⟨m + 1, by omega, by go_num, hW.trans (below_drewN _ _ _), HY⟩
            case measure => simp [intOf]; omega
        · obtain rfl : m = nl := by omega
          have HY : Hid (resK es (n1, n2) 0 = resK es (n1, n2) (k + 1)) := Lib.hid (HK.out.trans (resK_miss hlt (fun h => by have h' := HM.out.1 h; rw [List.drop_eq_nil_of_le (by rw [HNL.out]; exact Nat.le_refl _)] at h'; cases h')))
          clear HM HK
          go_wp2_with fail
          go_roundw
          case rel => exact ⟨k + 1, by omega, by go_num, hb2, hB.trans (hW.mono hB.size), HY⟩
          case measure => simp [intOf]; omega
    · obtain rfl : k = es.length := by omega
      go_wp2_with fail
      go_ret
      exact ⟨by rw [HK.out, resK_end]; rfl, hB⟩
end Go.Proofs.Ytnodhkjgnegkcaa
