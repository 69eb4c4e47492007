/-
  A need's key and its text: spec.l08Key, impl.needKey, spec.NeedText, impl.NeedText.
-/
import Derived.Test.YtongpnknmgbhjaaQuoteS
import Derived.Test.YtongpnknmgbhjaaLawB
namespace Go.Proofs.Ytongpnknmgbhjaa
open Go.RowKit

/-- A need's key: its name, @ and its range. -/
def ndKey (a b : ByteArray) : ByteArray := ⟨(a.data.toList ++ 64 :: b.data.toList).toArray⟩
theorem ndKey_size (a b : ByteArray) : (ndKey a b).size = a.size + 1 + b.size := by
  unfold ndKey; rw [size_of]; simp; omega

set_option maxRecDepth 100000 in
set_option maxHeartbeats 1000000 in
theorem l08Key_any (a b : ByteArray) (w : World) (h : a.size + b.size ≤ 1048576) :
    Calls Try.prog 55 #[.agg #[.string a, .string b]] w fun e w' => e = .returned (.string (ndKey a b)) ∧ Below w.heap.size w w' := by
  go_enter Try.func55, Try.ntmps55
  go_wp2_with fail
  go_ret
  exact ⟨congrArg Ending.returned (congrArg Value.string (bytes_ext (by simp [ndKey]))), (Below.refl _ _).alloc (Nat.le_refl _) _⟩
set_option maxRecDepth 100000 in
set_option maxHeartbeats 1000000 in
theorem needKey_any (a b : ByteArray) (w : World) (h : a.size + b.size ≤ 1048576) :
    Calls Try.prog 57 #[.agg #[.string a, .string b]] w fun e w' => e = .returned (.string (ndKey a b)) ∧ Below w.heap.size w w' := by
  go_enter Try.func57, Try.ntmps57
  go_wp2_with fail
  go_ret
  exact ⟨congrArg Ending.returned (congrArg Value.string (bytes_ext (by simp [ndKey]))), (Below.refl _ _).alloc (Nat.le_refl _) _⟩

set_option maxRecDepth 100000 in
set_option maxHeartbeats 1000000 in
theorem specNeedText_any (a b : ByteArray) (w : World) (h : a.size + b.size ≤ 1048576) :
    Calls Try.prog 20 #[.agg #[.string a, .string b]] w fun e w' => e = .returned (.string ⟨(quoteT (ndKey a b).data.toList).toArray⟩) ∧ Below w.heap.size w w' := by
  have hz := ndKey_size a b
  have HK := Lib.hid (fun W => l08Key_any a b W h)
  have HQ := Lib.hid (fun W => specQuote_any (ndKey a b) W (by omega))
  have B0 : Below w.heap.size w (w.alloc (.cells #[.string a, .string b] 46)) := (Below.refl _ _).alloc (Nat.le_refl _) _
  clear hz h
  go_enter Try.func20, Try.ntmps20
  go_wp2_with fail
  refine (HK.out _).mono ?_
  rintro e w1 ⟨rfl, hb1⟩
  have B1 := B0.trans (hb1.mono B0.size)
  go_wp2_with fail
  refine (HQ.out _).mono ?_
  rintro e w2 ⟨rfl, hb2⟩
  go_wp2_with fail
  go_ret
  exact ⟨rfl, B1.trans (hb2.mono B1.size)⟩
set_option maxRecDepth 100000 in
set_option maxHeartbeats 1000000 in
theorem implNeedText_any (a b : ByteArray) (w : World) (h : a.size + b.size ≤ 1048576) :
    Calls Try.prog 22 #[.agg #[.string a, .string b]] w fun e w' => e = .returned (.string ⟨(quoteT (ndKey a b).data.toList).toArray⟩) ∧ Below w.heap.size w w' := by
  have hz := ndKey_size a b
  have HK := Lib.hid (fun W => needKey_any a b W h)
  have HQ := Lib.hid (fun W => implQuote_any (ndKey a b) W (by omega))
  have B0 : Below w.heap.size w (w.alloc (.cells #[.string a, .string b] 46)) := (Below.refl _ _).alloc (Nat.le_refl _) _
  clear hz h
  go_enter Try.func22, Try.ntmps22
  go_wp2_with fail
  refine (HK.out _).mono ?_
  rintro e w1 ⟨rfl, hb1⟩
  have B1 := B0.trans (hb1.mono B0.size)
  go_wp2_with fail
  refine (HQ.out _).mono ?_
  rintro e w2 ⟨rfl, hb2⟩
  go_wp2_with fail
  go_ret
  exact ⟨rfl, B1.trans (hb2.mono B1.size)⟩
end Go.Proofs.Ytongpnknmgbhjaa
