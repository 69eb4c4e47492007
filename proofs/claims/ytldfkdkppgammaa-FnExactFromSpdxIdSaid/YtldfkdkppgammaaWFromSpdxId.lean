/-
  The walk of the law FnExactFromSpdxId.
-/
import Derived.Test.YtldfkdkppgammaaFrmS
import Derived.Test.YtldfkdkppgammaaFrmI
namespace Go.Proofs.Ytldfkdkppgammaa
open Go.RowKit

set_option maxRecDepth 100000 in
set_option maxHeartbeats 1000000 in
theorem exFromSpdxId (s : ByteArray) (w : World) (hs : s.size ≤ maxLen) (m : Int) (hm : w.cell? ⟨0, 0, none⟩ = some (.int .i64 m)) :
    Calls Try.prog 5 #[.string s] w fun e w' => e = .returned (.bool true) ∧ Below w.heap.size w w' := by
  unfold maxLen at hs
  by_cases hbig : 1048576 < s.size
  · go_enter Try.func5, Try.ntmps5
    go_wp2_with fail
    go_ret
    exact ⟨rfl, Below.refl _ _⟩
  · have H1 := Lib.hid (specFromSpdxId_any s w (by omega))
    have hc := fun (W : World) (h : Below w.heap.size w W) => implFromSpdxId_any s.data.toList m W (by simp; omega) (keepC h hm)
    have e : (⟨s.data.toList.toArray⟩ : ByteArray) = s := bytes_ext (by simp)
    rw [e] at hc
    have H2 := Lib.hid hc
    clear hc e hm
    obtain ⟨x, HX⟩ : ∃ x, Hid (fromS s.data.toList = x) := ⟨_, Lib.hid rfl⟩
    rw [HX.out] at H1
    simp only [HX.out] at H2
    go_enter Try.func5, Try.ntmps5
    go_wp2_with fail
    refine H1.out.mono ?_
    rintro e w1 ⟨rfl, hb1⟩
    go_wp2_with fail
    refine (H2.out _ hb1).mono ?_
    rintro e w2 ⟨rfl, hb2⟩
    go_wp2_with fail
    go_ret
    exact ⟨rfl, hb1.trans (hb2.mono hb1.size)⟩
end Go.Proofs.Ytldfkdkppgammaa
