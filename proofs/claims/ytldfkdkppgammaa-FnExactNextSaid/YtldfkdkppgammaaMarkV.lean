/-
  The laws' own helpers on versions: markVersion writes marks over its identifiers, heldVersion reads them.
-/
import Derived.Test.YtldfkdkppgammaaLawV
import Derived.Test.YtldfkdkppgammaaMarkS
import Derived.LoopN
namespace Go.Proofs.Ytldfkdkppgammaa
open Go.RowKit
set_option maxRecDepth 100000 in
set_option maxHeartbeats 1000000 in
theorem markVersion_any (a b c : Int) (w : World) (base : Nat) (v : Value) (ls : List (List UInt8)) (h : Strs w base v ls) (hb0 : base ≤ w.heap.size) (hl : ls.length ≤ 2000000) :
    Calls Try.prog 32 #[.agg #[.int .i64 a, .int .i64 b, .int .i64 c, v], .int .i64 1] w fun e w' => e = .returned (.int .i64 ((ls.length + 1 : Nat) : Int)) ∧ Strs w' base v (mks ls.length ls) ∧ Below base w w' := by
  have HC := Lib.hid (markS_any _ base v ls (h.alloc (.cells #[.int .i64 a, .int .i64 b, .int .i64 c, v] 47)) (by simp; omega) hl)
  go_enter Try.func32, Try.ntmps32
  go_wp2_with fail
  refine HC.out.mono ?_
  rintro e w' ⟨rfl, hS, hb⟩
  go_wp2_with fail
  go_ret
  exact ⟨rfl, hS, ((Below.refl _ _).alloc hb0 _).trans hb⟩
set_option maxRecDepth 100000 in
set_option maxHeartbeats 1000000 in
theorem heldVersion_any (a b c : Int) (w : World) (base : Nat) (v : Value) (ls : List (List UInt8)) (h : Strs w base v (mks ls.length ls)) (hl : ls.length ≤ 2000000) :
    Calls Try.prog 33 #[.agg #[.int .i64 a, .int .i64 b, .int .i64 c, v], .int .i64 1] w fun e w' => e = .returned (.int .i64 ((ls.length + 1 : Nat) : Int)) ∧ Below w.heap.size w w' := by
  have HC := Lib.hid (heldS_any _ base v ls (h.alloc (.cells #[.int .i64 a, .int .i64 b, .int .i64 c, v] 47)) hl)
  go_enter Try.func33, Try.ntmps33
  go_wp2_with fail
  refine HC.out.mono ?_
  rintro e w' ⟨rfl, hb⟩
  go_wp2_with fail
  go_ret
  exact ⟨rfl, ((Below.refl _ _).alloc (Nat.le_refl _) _).trans (hb.mono (by simp))⟩

set_option maxRecDepth 100000 in
set_option maxHeartbeats 1000000 in
theorem markVersion_gr (a b c : Int) (w : World) (base : Nat) (v : Value) (ls : List (List UInt8)) (h : Strs w base v ls) (hl : ls.length ≤ 2000000) :
    Calls Try.prog 32 #[.agg #[.int .i64 a, .int .i64 b, .int .i64 c, v], .int .i64 1] w fun e w' => e = .returned (.int .i64 ((ls.length + 1 : Nat) : Int)) ∧ Strs w' base v (mks ls.length ls) ∧ w.grownBy w' v.ownBlock := by
  have HC := Lib.hid (markS_gr _ base v ls (h.alloc (.cells #[.int .i64 a, .int .i64 b, .int .i64 c, v] 47)) hl)
  go_enter Try.func32, Try.ntmps32
  go_wp2_with fail
  refine HC.out.mono ?_
  rintro e w' ⟨rfl, hS, hb⟩
  go_wp2_with fail
  go_ret
  exact ⟨rfl, hS, gr_trans (gr_alloc _ _ _) hb⟩
end Go.Proofs.Ytldfkdkppgammaa
