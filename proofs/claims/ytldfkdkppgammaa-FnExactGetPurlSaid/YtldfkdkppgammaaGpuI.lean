/-
  The reader of package URLs: its kind, its version.
-/
import Derived.Test.YtldfkdkppgammaaPurG
import Derived.Test.YtldfkdkppgammaaCur
namespace Go.Proofs.Ytldfkdkppgammaa
open Go.RowKit

/-- No kind below k has the name. -/
def noneN (l : List UInt8) (k : Nat) : Prop := ∀ j : Nat, j < k → ¬ kindL (j : Int) = l
theorem noneN_zero (l : List UInt8) : noneN l 0 := fun j h => by omega
theorem noneN_succ {l : List UInt8} {k : Nat} (h : noneN l k) (hk : ¬ kindL (k : Int) = l) : noneN l (k + 1) := fun j hj => by
  rcases Nat.lt_or_ge j k with h1 | h1
  · exact h j h1
  · have : j = k := by omega
    subst this; exact hk
theorem kindOf_at {l : List UInt8} {k : Nat} (h : noneN l k) (hk : k < 4) (he : kindL (k : Int) = l) : kindOfI l = k := by
  have n0 : 0 < k → ¬ kindL 0 = l := fun hj => h 0 hj
  have n1 : 1 < k → ¬ kindL 1 = l := fun hj => h 1 hj
  have n2 : 2 < k → ¬ kindL 2 = l := fun hj => h 2 hj
  unfold kindOfI
  obtain rfl | rfl | rfl | rfl : k = 0 ∨ k = 1 ∨ k = 2 ∨ k = 3 := by omega
  · rw [if_pos (show kindL 0 = l from he)]; rfl
  · rw [if_neg (n0 (by omega)), if_pos (show kindL 1 = l from he)]; rfl
  · rw [if_neg (n0 (by omega)), if_neg (n1 (by omega)), if_pos (show kindL 2 = l from he)]; rfl
  · rw [if_neg (n0 (by omega)), if_neg (n1 (by omega)), if_neg (n2 (by omega)), if_pos (show kindL 3 = l from he)]; rfl
theorem kindOf_none {l : List UInt8} {k : Nat} (h : noneN l k) (hk : 4 ≤ k) : kindOfI l = -1 := by
  have n0 : ¬ kindL 0 = l := h 0 (by omega)
  have n1 : ¬ kindL 1 = l := h 1 (by omega)
  have n2 : ¬ kindL 2 = l := h 2 (by omega)
  have n3 : ¬ kindL 3 = l := h 3 (by omega)
  unfold kindOfI; rw [if_neg n0, if_neg n1, if_neg n2, if_neg n3]

set_option maxRecDepth 100000 in
set_option maxHeartbeats 1000000 in
theorem kindOf_any (l : List UInt8) (w : World) : Calls Try.prog 113 #[.string ⟨l.toArray⟩] w fun e w' => e = .returned (.int .i64 (kindOfI l)) ∧ w = w' := by
  obtain ⟨r, HR⟩ : ∃ r, Hid (kindOfI l = r) := ⟨_, Lib.hid rfl⟩
  rw [HR.out]
  go_enter Try.func113, Try.ntmps113
  go_wp2_with fail
  go_loop [3, 4] (fun _ n => ∃ k : Nat, k ≤ 4 ∧ n = .int .i64 k ∧ Hid (noneN l k)) (fun _ n => 4 - (intOf n).toNat)
  case atStart => exact ⟨0, Nat.zero_le _, rfl, Lib.hid (noneN_zero l)⟩
  case round =>
    obtain ⟨k, hk, rfl, HN⟩ := hrel
    by_cases hk4 : k < 4
    · have HK := Lib.hid (implKindName_any (k : Int) w)
      by_cases he : kindL (k : Int) = l
      · have HX : Hid (r = (k : Int)) := Lib.hid (by rw [← HR.out]; exact kindOf_at HN.out hk4 he)
        have q : (kindL (k : Int) == l) = true := by simpa using he
        obtain ⟨x, HXX⟩ : ∃ x, Hid (kindL (k : Int) = x) := ⟨_, Lib.hid rfl⟩
        rw [HXX.out] at HK q
        clear he
        go_wp2_with fail
        refine HK.out.mono ?_
        rintro e w1 ⟨rfl, rfl⟩
        go_wp2_with fail
        go_ret
        exact ⟨ret_int HX.out.symm, rfl⟩
      · have HN2 := Lib.hid (noneN_succ HN.out he)
        have q : (kindL (k : Int) == l) = false := by simpa using he
        obtain ⟨x, HXX⟩ : ∃ x, Hid (kindL (k : Int) = x) := ⟨_, Lib.hid rfl⟩
        rw [HXX.out] at HK q
        clear he
        go_wp2_with fail
        refine HK.out.mono ?_
        rintro e w1 ⟨rfl, rfl⟩
        go_wp2_with fail
        go_round
        case rel => exact ⟨k + 1, by omega, by go_num, HN2⟩
        case measure => simp [intOf]; omega
    · have HX : Hid (r = -1) := Lib.hid (by rw [← HR.out]; exact kindOf_none HN.out (by omega))
      go_wp2_with fail
      go_ret
      exact ⟨ret_int HX.out.symm, rfl⟩

theorem CurTo.trans {q : Nat} {T : TypeId} {w w1 w2 : World} {r r' : List UInt8} (h : CurTo q T w r w1) (k : CurTo q T w1 r' w2) : CurTo q T w r' w2 := ⟨k.1, gr_trans h.2.1 k.2.1, k.2.2.trans h.2.2⟩

set_option maxRecDepth 100000 in
set_option maxHeartbeats 1000000 in
theorem kind_any (q : Nat) (T : TypeId) (l : List UInt8) (m : Int) (w : World) (hl : l.length ≤ 1048576) (hq : w.heap[q]? = some (.cells #[.string ⟨l.toArray⟩] T)) (hm : w.cell? ⟨0, 0, none⟩ = some (.int .i64 m)) :
    Calls Try.prog 81 #[.pointer (some ⟨q, 0, none⟩)] w fun e w' => e = .returned (.int .i64 (kindOfI (cutA 47 (Lib.cut l pkgL).2.1))) ∧ CurTo q T w (cutB 47 (Lib.cut l pkgL).2.1) w' := by
  have HU := Lib.hid (upTo_any q T l pkgL m w hl hq hm)
  have hRl := cut_le l pkgL
  obtain ⟨R, HR⟩ : ∃ R, Hid ((Lib.cut l pkgL).2.1 = R) := ⟨_, Lib.hid rfl⟩
  rw [HR.out] at hRl HU
  rw [HR.out]
  go_enter Try.func81, Try.ntmps81
  go_wp2_with fail
  refine HU.out.mono ?_
  rintro e w1 ⟨rfl, hu1⟩
  have HU2 := Lib.hid (upTo_any q T R [47] m w1 (by omega) hu1.1 (hu1.max hq hm))
  rw [(cut_one 47 R).1, (cut_one 47 R).2] at HU2
  have HU1 := Lib.hid hu1
  have HK := Lib.hid (fun W => kindOf_any (cutA 47 R) W)
  obtain ⟨z, HZ⟩ : ∃ z, Hid (kindOfI (cutA 47 R) = z) := ⟨_, Lib.hid rfl⟩
  simp only [HZ.out] at HK
  clear hu1 HU hq hm
  go_wp2_with fail
  refine HU2.out.mono ?_
  rintro e w2 ⟨rfl, hu2⟩
  have HU3 := Lib.hid (HU1.out.trans hu2)
  clear hu2
  go_wp2_with fail
  refine (HK.out _).mono ?_
  rintro e w3 ⟨rfl, rfl⟩
  go_wp2_with fail
  go_ret
  exact ⟨ret_int HZ.out.symm, HU3.out⟩

/-- impl.GetPercent, whatever it says of the text. -/
theorem implPct_text (l : List UInt8) (w : World) (hl : l.length ≤ 1048576) :
    Calls Try.prog 114 #[.string ⟨l.toArray⟩] w fun e w' => e = .returned (.tuple #[.string ⟨(decP l).toArray⟩, .bool (pctS l).isSome]) ∧ Below w.heap.size w w' := by
  refine (implGetPercent_any ⟨l.toArray⟩ w (by show l.toArray.size ≤ _; simp; omega)).mono ?_
  rintro e w' ⟨rfl, hb⟩
  refine ⟨?_, hb⟩
  show Ending.returned (optText (pctG l)) = _
  rw [pct_both]
  unfold decP
  cases pctS l <;> rfl

set_option maxRecDepth 100000 in
set_option maxHeartbeats 1000000 in
theorem version_any (q : Nat) (T : TypeId) (l : List UInt8) (w : World) (hl : l.length ≤ 1048576) (hq : w.heap[q]? = some (.cells #[.string ⟨l.toArray⟩] T)) :
    Calls Try.prog 83 #[.pointer (some ⟨q, 0, none⟩)] w fun e w' => e = .returned (.string ⟨(decP l).toArray⟩) ∧ Below w.heap.size w w' := by
  have c0 := cells1 hq
  have HP := Lib.hid (implPct_text l w hl)
  clear hq
  go_enter Try.func83, Try.ntmps83
  go_wp2_with fail
  refine HP.out.mono ?_
  rintro e w1 ⟨rfl, hb1⟩
  go_wp2_with fail
  go_ret
  exact ⟨rfl, hb1⟩
end Go.Proofs.Ytldfkdkppgammaa
