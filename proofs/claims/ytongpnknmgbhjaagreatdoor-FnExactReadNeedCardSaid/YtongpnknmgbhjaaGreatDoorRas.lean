/-
  impl.raised at the third number.
-/
import Derived.Test.YtongpnknmgbhjaaGreatDoorTextI
import Derived.Test.YtongpnknmgbhjaaGreatDoorExM
namespace Go.Proofs.YtongpnknmgbhjaaGreatDoor
open Go.RowKit

theorem strs_z (W : World) (n : Nat) (hn : W.heap.size = n) (x : List UInt8) : Strs (W.alloc (.cells #[.string ⟨x.toArray⟩] 9)) n (.slice (some ⟨n, 0, none⟩) 1 1) [x] := by
  subst hn
  have h := World.ownsRow_lit (base := W.heap.size) (e := 9) (size := 1) W #[.string ⟨x.toArray⟩] 1 (Nat.le_refl _) (by unfold maxLen; omega) (by simp)
  simpa [Strs, sv] using h
theorem sm_zz : Sm [[48]] := ⟨by simp, fun l h => by simp at h; subst h; simp⟩

theorem below_three (w : World) (o1 o2 o3 : Obj) : Below w.heap.size w (((w.alloc o1).alloc o2).alloc o3) := (((Below.refl _ _).alloc (Nat.le_refl _) _).alloc (by simp) _).alloc (by simp; omega) _
theorem clear_none (W : World) (A : Addr) : (Builtin.clear_ #[101] 0 #[.slice (some A) 0 0]).run Tryz.prog W = .ok (.tuple #[]) W := by
  simp [Builtin.clear_, run_underlying Tryz.underlying101]

set_option maxRecDepth 100000 in
set_option maxHeartbeats 4000000 in
theorem raised_any (a b c : Int) (A : Option Addr) (n cap : Nat) (w : World) (ht : Tab w) (hc : 0 ≤ c ∧ c ≤ 999999999) :
    Calls Tryz.prog 107 #[.agg #[.int .i64 a, .int .i64 b, .int .i64 c, .slice A n cap], .int .i64 2] w fun e w' => e = .returned (.string ⟨(verText a b (c + 1) [[48]]).toArray⟩) ∧ Below w.heap.size w w' := by
  have HT := Lib.hid (fun (v : Value) (q : Nat) (W : World) (h : Strs W q v [[48]]) (hb : Below w.heap.size w W) => implVersionText_any a b (c + 1) q v [[48]] W h sm_zz (tab_below ht hb))
  obtain ⟨t, HTT⟩ : ∃ t, Hid (verText a b (c + 1) [[48]] = t) := ⟨_, Lib.hid rfl⟩
  simp only [HTT.out] at HT
  rw [HTT.out]
  clear ht
  have cw : IntKind.i64.wrap (c + 1) = c + 1 := IntWalk.i64_in _ (by omega)
  have hcl := clear_none
  go_enter Tryz.func107, Tryz.ntmps107
  go_wp2_with fail
  refine (HT.out _ (w.heap.size + 1 + 1) _ (strs_z _ _ (by simp) [48]) (below_three _ _ _ _)).mono ?_
  rintro e w5 ⟨rfl, hb5⟩
  go_wp2_with fail
  go_ret
  exact ⟨rfl, (below_three _ _ _ _).trans (hb5.mono (by simp; omega))⟩
end Go.Proofs.YtongpnknmgbhjaaGreatDoor
