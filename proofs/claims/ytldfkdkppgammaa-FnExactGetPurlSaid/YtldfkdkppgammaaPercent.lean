/-
  spec.PutPercent returns the percent encoding of every byte.
-/
import Derived.Test.YtldfkdkppgammaaBytes
namespace Go.Proofs.Ytldfkdkppgammaa
open Go.RowKit

def safeI (z : Int) : Bool := decide ((97 ≤ z ∧ z ≤ 122) ∨ (65 ≤ z ∧ z ≤ 90) ∨ (48 ≤ z ∧ z ≤ 57) ∨ z = 46 ∨ z = 95 ∨ z = 45 ∨ z = 126)
def pctB (c : UInt8) : List UInt8 := if safeI (c.toNat : Int) = true then [c] else [37, hexU (c.toNat / 16), hexU (c.toNat % 16)]
def pctL : List UInt8 → List UInt8
  | [] => []
  | c :: l => pctB c ++ pctL l
theorem pctL_app (a b : List UInt8) : pctL (a ++ b) = pctL a ++ pctL b := by
  induction a with
  | nil => rfl
  | cons c l ih => simp [pctL, ih]
theorem pctB_len (c : UInt8) : (pctB c).length ≤ 3 := by unfold pctB; split <;> simp
theorem pctL_len (l : List UInt8) : (pctL l).length ≤ 3 * l.length := by
  induction l with
  | nil => simp [pctL]
  | cons c l ih => have := pctB_len c; simp [pctL]; omega

theorem safe_ways (z : Int) : (97 ≤ z ∧ z ≤ 122) ∨ (65 ≤ z ∧ z ≤ 90) ∨ (48 ≤ z ∧ z ≤ 57) ∨ z = 46 ∨ z = 95 ∨ z = 45 ∨ z = 126 ∨ safeI z = false := by
  by_cases h : safeI z = false
  · simp [h]
  · unfold safeI at h; simp at h; omega
theorem safe_yes {z : Int} (h : (97 ≤ z ∧ z ≤ 122) ∨ (65 ≤ z ∧ z ≤ 90) ∨ (48 ≤ z ∧ z ≤ 57) ∨ z = 46 ∨ z = 95 ∨ z = 45 ∨ z = 126) : safeI z = true := by unfold safeI; simp; omega
theorem safe_no {z : Int} (h : safeI z = false) : (z < 97 ∨ 122 < z) ∧ (z < 65 ∨ 90 < z) ∧ (z < 48 ∨ 57 < z) ∧ (z == 46) = false ∧ (z == 95) = false ∧ (z == 45) = false ∧ (z == 126) = false := by
  unfold safeI at h; simp at h; simp; omega

set_option maxRecDepth 100000 in
set_option maxHeartbeats 1000000 in
theorem unescaped_any (z : Int) (w : World) (h0 : 0 ≤ z) (h1 : z < 256) : Calls Try.prog 112 #[.int .u8 z] w fun e w' => e = .returned (.bool (safeI z)) ∧ w = w' := by
  rcases safe_ways z with ⟨a, b⟩ | ⟨a, b⟩ | ⟨a, b⟩ | h | h | h | h | h
  case inl | inr.inl | inr.inr.inl =>
    have H := Lib.hid (safe_yes (z := z) (by omega))
    go_enter Try.func112, Try.ntmps112
    go_wp2
    go_ret
    exact ⟨ret_bool H.out.symm, rfl⟩
  case inr.inr.inr.inr.inr.inr.inr =>
    obtain ⟨c1, c2, c3, e1, e2, e3, e4⟩ := safe_no h
    have H := Lib.hid h
    clear h
    rcases c1 with c1 | c1 <;> rcases c2 with c2 | c2 <;> rcases c3 with c3 | c3 <;> first | omega | skip
    all_goals
      go_enter Try.func112, Try.ntmps112
      go_wp2
      go_ret
      exact ⟨ret_bool (by first | exact H.out.symm | (rw [H.out]; simp; omega)), rfl⟩
  all_goals
    subst h
    go_enter Try.func112, Try.ntmps112
    go_wp2
    go_ret
    exact ⟨rfl, rfl⟩

set_option maxRecDepth 100000 in
set_option maxHeartbeats 1000000 in
theorem l01Safe_any (z : Int) (w : World) (h0 : 0 ≤ z) (h1 : z < 256) : Calls Try.prog 106 #[.int .u8 z] w fun e w' => e = .returned (.bool (safeI z)) ∧ w = w' := by
  rcases safe_ways z with ⟨a, b⟩ | ⟨a, b⟩ | ⟨a, b⟩ | h | h | h | h | h
  case inl | inr.inl | inr.inr.inl =>
    have H := Lib.hid (safe_yes (z := z) (by omega))
    go_enter Try.func106, Try.ntmps106
    go_wp2
    go_ret
    exact ⟨ret_bool H.out.symm, rfl⟩
  case inr.inr.inr.inr.inr.inr.inr =>
    obtain ⟨c1, c2, c3, e1, e2, e3, e4⟩ := safe_no h
    have H := Lib.hid h
    clear h
    rcases c1 with c1 | c1 <;> rcases c2 with c2 | c2 <;> rcases c3 with c3 | c3 <;> first | omega | skip
    all_goals
      go_enter Try.func106, Try.ntmps106
      go_wp2
      go_ret
      exact ⟨ret_bool (by first | exact H.out.symm | (rw [H.out]; simp; omega)), rfl⟩
  all_goals
    subst h
    go_enter Try.func106, Try.ntmps106
    go_wp2
    go_ret
    exact ⟨rfl, rfl⟩

set_option maxHeartbeats 2000000 in
theorem specPutPercent_any (s : ByteArray) (w : World) (hs : s.size ≤ 1048576) :
    Calls Try.prog 74 #[.string s] w fun e w' => e = .returned (.string ⟨(pctL s.data.toList).toArray⟩) ∧ Below w.heap.size w w' := by
  go_enter Try.func74, Try.ntmps74
  go_wp2
  go_loopw [3, 4] (fun v n wr => ∃ k : Nat, k ≤ s.size ∧ n = .int .i64 k ∧ Buf wr w.heap.size v (pctL (s.data.toList.take k)) ∧ Below w.heap.size w wr) (fun _ n _ => s.size - (intOf n).toNat)
  case atStart => exact ⟨0, Nat.zero_le _, rfl, Buf.empty w _ (Nat.le_refl _), (Below.refl _ _).alloc (Nat.le_refl _) _⟩
  case round =>
    obtain ⟨k, hk, rfl, hown, hb⟩ := hrel
    by_cases hlt : k < s.size
    · have hl := pctL_len (s.data.toList.take k)
      have hlk : (s.data.toList.take k).length ≤ k := List.length_take_le _ _
      have HL : Hid ((pctL (s.data.toList.take k)).length + 3 ≤ 16777216) := Lib.hid (by omega)
      clear hl hlk
      have k0 : (0 : Int) ≤ (k : Int) := by omega
      have k1 : (k : Int) < (s.size : Int) := by omega
      by_cases hsf : safeI (s[k].toNat : Int) = true
      · have HN : Hid (pctL (s.data.toList.take (k + 1)) = pctL (s.data.toList.take k) ++ [s[k]]) := Lib.hid (by rw [take_snoc s k hlt, pctL_app]; simp [pctL, pctB, hsf])
        have HS := Lib.hid hsf
        clear hsf
        go_wp2_with fail
        refine (l01Safe_any _ _ (byte_lt s[k]).2 (byte_lt s[k]).1).mono ?_
        rw [HS.out]
        rintro e w' ⟨rfl, rfl⟩
        go_wp2_with (at_builtin; refine wpList_append_buf rfl _ _ rfl w.heap.size _ _ rfl (hown.alloc _) [s[k]] wr.heap.size _ _ _ _ _ rfl rfl (heap_alloc_new wr _) (by simp [bv]) (by simp) (by have := HL.out; simp; omega) (by simp; exact Nat.le_succ_of_le hb.size) ?_; intro v' w2 hown2 hb2)
        have HB := hb.trans (((Below.refl w.heap.size wr).alloc hb.size _).trans hb2)
        go_wp2
        go_roundw
        case rel => exact ⟨k + 1, by omega, by go_num, by rw [HN.out]; exact hown2, HB⟩
        case measure => simp [intOf]; omega
      · have hsf' : safeI (s[k].toNat : Int) = false := by simpa using hsf
        have HN : Hid (pctL (s.data.toList.take (k + 1)) = pctL (s.data.toList.take k) ++ [37, hexU (s[k].toNat / 16), hexU (s[k].toNat % 16)]) := Lib.hid (by rw [take_snoc s k hlt, pctL_app]; simp [pctL, pctB, hsf])
        have HS := Lib.hid hsf'
        clear hsf hsf'
        have x1 := idx_upper (s[k].toNat / 16) (by have := s[k].toNat_lt; omega) ((s[k].toNat : Int) / 16) (by omega)
        have x2 := idx_upper (s[k].toNat % 16) (by omega) ((s[k].toNat : Int) % 16) (by omega)
        have x3 := wrap_div16 s[k]
        have x4 := tmod16 s[k]
        go_wp2_with fail
        refine (l01Safe_any _ _ (byte_lt s[k]).2 (byte_lt s[k]).1).mono ?_
        rw [HS.out]
        rintro e w' ⟨rfl, rfl⟩
        go_wp2_with fail
        go_region_law ((refine step_append_buf (by rfl) _ _ (by rfl) w.heap.size _ _ (by rfl) (hown.alloc _).drew [37, hexU (s[k].toNat / 16), hexU (s[k].toNat % 16)] wr.heap.size _ _ _ _ _ (by rfl) (by rfl) (heap_alloc_new wr _) (by simp [bv]) (by simp) HL.out (by simp; exact Nat.le_succ_of_le hb.size) ?_; intro v' w2 hown2 hb2))
        all_goals
          have HB := hb.trans (((Below.refl w.heap.size wr).alloc hb.size _).drew.trans hb2)
          go_wp2
          go_roundw
          case rel => exact ⟨k + 1, by omega, by go_num, by rw [HN.out]; exact hown2, HB⟩
          case measure => simp [intOf]; omega
    · have hcv := hown.conv
      rw [take_end s k hlt] at hcv
      go_wp2
      go_ret
      exact ⟨rfl, hb⟩
end Go.Proofs.Ytldfkdkppgammaa
