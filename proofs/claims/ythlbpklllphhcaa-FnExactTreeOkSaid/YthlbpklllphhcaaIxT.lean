/-
  Where a key stands in a tree: slices.Index, the program's valueAt, the specification's l06At.
-/
import Derived.Test.YthlbpklllphhcaaTrM
namespace Go.Proofs.Ythlbpklllphhcaa
open Go.RowKit

/-- The first place of a text in a list, the list's length where there is none. -/
def ixS (s : List UInt8) (ls : List (List UInt8)) : Nat := ls.findIdx (fun x => x == s)
theorem ixS_at {s : List UInt8} {ls : List (List UInt8)} {k : Nat} (h : k < ls.length) (he : ls[k] = s) (hn : s ∉ ls.take k) : ixS s ls = k := by
  unfold ixS
  rw [List.findIdx_eq h]
  refine ⟨by simpa using he, fun j hj => ?_⟩
  have : s ≠ ls[j] := fun e => hn (by rw [e, List.mem_take_iff_getElem]; exact ⟨j, by omega, rfl⟩)
  simpa using fun e : ls[j] = s => this e.symm
theorem ixS_no {s : List UInt8} {ls : List (List UInt8)} (hn : s ∉ ls) : ixS s ls = ls.length := by
  unfold ixS
  rw [List.findIdx_eq_length]
  intro x hx
  simpa using fun e : x = s => hn (by rw [← e]; exact hx)
theorem ixS_out {s : List UInt8} {ls : List (List UInt8)} {m : Nat} (hn : s ∉ ls.take m) : m ≤ ixS s ls ∨ ls.length ≤ ixS s ls := by
  by_cases h : ixS s ls < ls.length
  · left
    have hp : ls[ixS s ls] = s := by
      have := List.findIdx_getElem (xs := ls) (p := fun x => x == s) (w := h)
      have h2 : (ls[List.findIdx (fun x => x == s) ls]) = s := by simpa using this
      exact h2
    by_cases hm : m ≤ ixS s ls
    · exact hm
    · exfalso
      exact hn (by rw [List.mem_take_iff_getElem]; exact ⟨ixS s ls, by omega, hp⟩)
  · right; omega
theorem not_mem_take_next {ls : List (List UInt8)} {s : List UInt8} {k : Nat} (h : k < ls.length) (hn : s ∉ ls.take k) (hne : ls[k] ≠ s) : s ∉ ls.take (k + 1) := by
  rw [List.take_succ_eq_append_getElem h, List.mem_append]
  rintro (h1 | h1)
  · exact hn h1
  · simp at h1; exact hne h1.symm
/-- The place of a key that has a kid, or -1. -/
def atT (t : Tr) (s : List UInt8) : Int := if t.kind = 6 ∧ ixS s t.keys < t.keys.length ∧ ixS s t.keys < t.kids.length then (ixS s t.keys : Int) else -1

set_option maxRecDepth 100000 in
set_option maxHeartbeats 1000000 in
theorem indexT_any (v : Value) (ls : List (List UInt8)) (s : List UInt8) (w : World) (hr : RdS w v ls) (hl : ls.length ≤ 16777216) :
    Calls Try.prog 94 #[v, .string ⟨s.toArray⟩] w fun e w' => e = .returned (.int .i64 (if ixS s ls < ls.length then (ixS s ls : Int) else -1)) ∧ w' = w := by
  obtain ⟨A, ca, rfl, ha⟩ := hr
  obtain ⟨r, HR⟩ : ∃ r, Hid ((if ixS s ls < ls.length then (ixS s ls : Int) else -1) = r) := ⟨_, Lib.hid rfl⟩
  rw [HR.out]
  go_enter Try.func94, Try.ntmps94
  go_wp2
  go_loopw [5, 8] (fun _ i wr => ∃ k : Nat, k ≤ ls.length ∧ i = .int .i64 k ∧ Hid (s ∉ ls.take k) ∧ wr = w) (fun _ i _ => ls.length - (intOf i).toNat)
  case atStart => exact ⟨0, Nat.zero_le _, rfl, Lib.hid (by simp), rfl⟩
  case round =>
    obtain ⟨k, hk, rfl, HN, rfl⟩ := hrel
    by_cases hlt : k < ls.length
    · obtain ⟨g, off, rfl, _, hca⟩ := ha (by omega)
      have d1 : wr.cell? ⟨g, off + k, none⟩ = some (.string ⟨ls[k].toArray⟩) := hca k hlt
      have k0 : (0 : Int) ≤ (k : Int) := by omega
      have k1 : (k : Int) < (ls.length : Int) := by omega
      clear ha hca
      by_cases he : ls[k] = s
      · have HT : Hid (r = (k : Int)) := Lib.hid (by rw [← HR.out, ixS_at hlt he HN.out, if_pos hlt])
        have q2 : (s == ls[k]) = true := by rw [he]; simp
        clear he
        go_wp2_with fail
        go_ret
        exact ⟨ret_int HT.out.symm, rfl⟩
      · have HN2 := Lib.hid (not_mem_take_next hlt HN.out he)
        have q2 : (s == ls[k]) = false := by simp; exact fun h => he h.symm
        clear he
        go_wp2_with fail
        go_roundw
        case rel => exact ⟨k + 1, by omega, by go_num, HN2, trivial⟩
        case measure => simp [intOf]; omega
    · have HT : Hid (r = -1) := Lib.hid (by
        have := HN.out
        rw [List.take_of_length_le (by omega)] at this
        rw [← HR.out, ixS_no this, if_neg (by omega)])
      clear ha
      go_wp2_with fail
      go_ret
      exact ⟨ret_int HT.out.symm, rfl⟩

/-- The tree as a value. -/
abbrev trV (t : Tr) (b kv : Value) : Value := .agg #[.int .i64 t.kind, .int .i64 t.n, .string ⟨t.s.toArray⟩, b, kv]
set_option maxRecDepth 100000 in
set_option maxHeartbeats 1000000 in
theorem valueAt_any (t : Tr) (s : List UInt8) (A B : Option Addr) (ca cb : Nat) (w : World) (hr : RdS w (.slice A t.keys.length ca) t.keys) (hl : t.keys.length ≤ 16777216) (hm : t.kids.length ≤ 16777216) :
    Calls Try.prog 55 #[trV t (.slice A t.keys.length ca) (.slice B t.kids.length cb), .string ⟨s.toArray⟩] w fun e w' => e = .returned (.int .i64 (atT t s)) ∧ Below w.heap.size w w' := by
  have HI := Lib.hid (fun (W : World) (h : Below w.heap.size w W) => indexT_any (.slice A t.keys.length ca) t.keys s W (hr.below h) hl)
  obtain ⟨r, HR⟩ : ∃ r, Hid (atT t s = r) := ⟨_, Lib.hid rfl⟩
  rw [HR.out]
  obtain ⟨kd, hkd⟩ : ∃ x, x = t.kind := ⟨_, rfl⟩
  unfold trV
  rw [← hkd]
  obtain ⟨z, HZ⟩ : ∃ z, Hid ((if ixS s t.keys < t.keys.length then (ixS s t.keys : Int) else -1) = z) := ⟨_, Lib.hid rfl⟩
  rw [HZ.out] at HI
  have HK := Lib.hid hkd
  clear hkd hr
  by_cases q : kd = 6
  · have q1 : (kd != 6) = false := by simp [q]
    have HQ := Lib.hid q
    clear q
    go_enter Try.func55, Try.ntmps55
    go_wp2_with fail
    refine (HI.out _ ((Below.refl _ _).alloc (Nat.le_refl _) _)).mono ?_
    rintro e w1 ⟨rfl, rfl⟩
    have Bw : Below w.heap.size w (w.alloc (.cells #[.int .i64 kd, .int .i64 t.n, .string ⟨t.s.toArray⟩, .slice A t.keys.length ca, .slice B t.kids.length cb] 30)) := (Below.refl _ _).alloc (Nat.le_refl _) _
    by_cases q3 : z ≥ (t.kids.length : Int)
    · have HX : Hid (r = -1) := Lib.hid (by
        have hz := HZ.out
        rw [← HR.out]
        unfold atT
        split at hz
        · rw [if_neg (by omega)]
        · omega)
      go_wp2_with fail
      go_ret
      exact ⟨ret_int HX.out.symm, Bw⟩
    · have HX : Hid (r = z) := Lib.hid (by
        have hz := HZ.out
        have hk := HK.out
        have hq := HQ.out
        rw [← HR.out]
        unfold atT
        split at hz
        · rw [if_pos ⟨by omega, by assumption, by omega⟩]; exact hz
        · rw [if_neg (by omega)]; exact hz)
      go_wp2_with fail
      go_ret
      exact ⟨ret_int HX.out.symm, Bw⟩
  · have q1 : (kd != 6) = true := by simp [q]
    have HX : Hid (r = -1) := Lib.hid (by
      have hk := HK.out
      rw [← HR.out]
      unfold atT
      rw [if_neg (by omega)])
    clear q
    go_enter Try.func55, Try.ntmps55
    go_wp2_with fail
    go_ret
    exact ⟨ret_int HX.out.symm, (Below.refl _ _).alloc (Nat.le_refl _) _⟩

set_option maxRecDepth 100000 in
set_option maxHeartbeats 1000000 in
theorem l06At_any (t : Tr) (s : List UInt8) (A B : Option Addr) (ca cb : Nat) (w : World) (hr : RdS w (.slice A t.keys.length ca) t.keys) (hl : t.keys.length ≤ 16777216) :
    Calls Try.prog 59 #[trV t (.slice A t.keys.length ca) (.slice B t.kids.length cb), .string ⟨s.toArray⟩] w fun e w' => e = .returned (.int .i64 (atT t s)) ∧ Below w.heap.size w w' := by
  have HS := Lib.hid (fun (W : World) (h : Below w.heap.size w W) => hr.below h)
  obtain ⟨r, HR⟩ : ∃ r, Hid (atT t s = r) := ⟨_, Lib.hid rfl⟩
  rw [HR.out]
  obtain ⟨kd, hkd⟩ : ∃ x, x = t.kind := ⟨_, rfl⟩
  unfold trV
  rw [← hkd]
  have HK := Lib.hid hkd
  have Bw : Below w.heap.size w (w.alloc (.cells #[.int .i64 kd, .int .i64 t.n, .string ⟨t.s.toArray⟩, .slice A t.keys.length ca, .slice B t.kids.length cb] 30)) := (Below.refl _ _).alloc (Nat.le_refl _) _
  have bw := heap_alloc_new w (.cells #[.int .i64 kd, .int .i64 t.n, .string ⟨t.s.toArray⟩, .slice A t.keys.length ca, .slice B t.kids.length cb] 30)
  obtain ⟨x0, x1, x2, x3, x4⟩ := cells5 bw
  have HD := Lib.hid (HS.out _ Bw)
  clear hkd hr
  go_enter Try.func59, Try.ntmps59
  go_wp2_with fail
  go_loopw [5] (fun i wr => ∃ k : Nat, k ≤ t.keys.length ∧ k ≤ t.kids.length ∧ i = .int .i64 k ∧ Hid (s ∉ t.keys.take k) ∧ wr = w.alloc (.cells #[.int .i64 kd, .int .i64 t.n, .string ⟨t.s.toArray⟩, .slice A t.keys.length ca, .slice B t.kids.length cb] 30)) (fun i _ => t.keys.length - (intOf i).toNat)
  case atStart => exact ⟨0, Nat.zero_le _, Nat.zero_le _, rfl, Lib.hid (by simp), rfl⟩
  case round =>
    obtain ⟨k, hk, hk2, rfl, HN, rfl⟩ := hrel
    have k0 : (0 : Int) ≤ (k : Int) := by omega
    by_cases hlt : k < t.keys.length
    · have k1 : (k : Int) < (t.keys.length : Int) := by omega
      by_cases hlt2 : k < t.kids.length
      · have k2 : (k : Int) < (t.kids.length : Int) := by omega
        by_cases q : kd = 6
        · have q1 : (kd == 6) = true := by simp [q]
          have HQ := Lib.hid q
          clear q
          obtain ⟨A', c', hv, ha⟩ := HD.out
          simp only [Value.slice.injEq] at hv
          obtain ⟨rfl, _, rfl⟩ := hv
          obtain ⟨g, off, rfl, _, hca⟩ := ha (by omega)
          have d1 := hca k hlt
          simp only [sv] at d1
          clear ha hca
          by_cases he : t.keys[k] = s
          · have HT : Hid (r = (k : Int)) := Lib.hid (by
              have hk := HK.out
              have hq := HQ.out
              rw [← HR.out]
              unfold atT
              rw [ixS_at hlt he HN.out, if_pos ⟨by omega, hlt, hlt2⟩])
            have q2 : (t.keys[k] == s) = true := by rw [he]; simp
            clear he
            go_wp2_with fail
            go_ret
            exact ⟨ret_int HT.out.symm, Bw⟩
          · have HN2 := Lib.hid (not_mem_take_next hlt HN.out he)
            have q2 : (t.keys[k] == s) = false := by simpa using he
            clear he
            go_wp2_with fail
            go_roundw
            case rel => exact ⟨k + 1, by omega, by omega, by go_num, HN2, trivial⟩
            case measure => simp [intOf]; omega
        · have q1 : (kd == 6) = false := by simp [q]
          have HT : Hid (r = -1) := Lib.hid (by
            have hk := HK.out
            rw [← HR.out]
            unfold atT
            rw [if_neg (by omega)])
          clear q
          go_wp2_with fail
          go_ret
          exact ⟨ret_int HT.out.symm, Bw⟩
      · have k2 : ¬ (k : Int) < (t.kids.length : Int) := by omega
        have HT : Hid (r = -1) := Lib.hid (by
          have h := ixS_out HN.out
          rw [← HR.out]
          unfold atT
          rw [if_neg (by omega)])
        go_wp2_with fail
        go_ret
        exact ⟨ret_int HT.out.symm, Bw⟩
    · have k1 : ¬ (k : Int) < (t.keys.length : Int) := by omega
      have HT : Hid (r = -1) := Lib.hid (by
        have h := ixS_out HN.out
        rw [← HR.out]
        unfold atT
        rw [if_neg (by omega)])
      go_wp2_with fail
      go_ret
      exact ⟨ret_int HT.out.symm, Bw⟩
end Go.Proofs.Ythlbpklllphhcaa
