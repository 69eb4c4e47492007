/-
  A pack's key: spec.KeyOf, impl.KeyOf.
-/
import Derived.Test.YtnodhkjgnegkcaaGreatDoorPk
namespace Go.Proofs.YtnodhkjgnegkcaaGreatDoor
open Go.RowKit

/-- A pack's key: its name, @ and its version. -/
def keyOf (p : Pk) : List UInt8 := p.name ++ 64 :: p.ver
theorem str_of {x : ByteArray} {l : List UInt8} (h : x.data.toList = l) : Value.string x = .string ⟨l.toArray⟩ := congrArg Value.string (bytes_ext (by simpa using h))

set_option maxRecDepth 100000 in
set_option maxHeartbeats 1000000 in
theorem specKeyOf_any (p : Pk) (a b : Value) (w : World) (ha : RdB w a p.sums) (hb : RdS w b p.needs) (hp : SmPk p) :
    Calls Tryz.prog 73 #[.agg #[.string ⟨p.name.toArray⟩, .string ⟨p.ver.toArray⟩, .string ⟨p.src.toArray⟩, a, .bool p.dev, b]] w fun e w' => e = .returned (.string ⟨(keyOf p).toArray⟩) ∧ Below w.heap.size w w' := by
  obtain ⟨A, ca, rfl⟩ := ha.slice
  obtain ⟨B, cb, rfl⟩ := hb.slice
  obtain ⟨t1, t2, _⟩ := hp.texts
  obtain ⟨x, hx⟩ : ∃ x : ByteArray, x = ⟨p.name.toArray⟩ := ⟨_, rfl⟩
  obtain ⟨y, hy⟩ : ∃ y : ByteArray, y = ⟨p.ver.toArray⟩ := ⟨_, rfl⟩
  have sx : x.size = p.name.length := by rw [hx]; exact size_of _
  have sy : y.size = p.ver.length := by rw [hy]; exact size_of _
  have HXL : Hid (x.data.toList = p.name) := Lib.hid (by rw [hx])
  have HYL : Hid (y.data.toList = p.ver) := Lib.hid (by rw [hy])
  rw [← hx, ← hy]
  clear hx hy ha hb
  go_enter Tryz.func73, Tryz.ntmps73
  go_wp2_with fail
  go_ret
  exact ⟨congrArg Ending.returned (str_of (by unfold keyOf; simp [HXL.out, HYL.out])), (Below.refl _ _).alloc (Nat.le_refl _) _⟩

set_option maxRecDepth 100000 in
set_option maxHeartbeats 1000000 in
theorem implKeyOf_any (p : Pk) (a b : Value) (w : World) (ha : RdB w a p.sums) (hb : RdS w b p.needs) (hp : SmPk p) :
    Calls Tryz.prog 63 #[.agg #[.string ⟨p.name.toArray⟩, .string ⟨p.ver.toArray⟩, .string ⟨p.src.toArray⟩, a, .bool p.dev, b]] w fun e w' => e = .returned (.string ⟨(keyOf p).toArray⟩) ∧ Below w.heap.size w w' := by
  obtain ⟨A, ca, rfl⟩ := ha.slice
  obtain ⟨B, cb, rfl⟩ := hb.slice
  obtain ⟨t1, t2, _⟩ := hp.texts
  obtain ⟨x, hx⟩ : ∃ x : ByteArray, x = ⟨p.name.toArray⟩ := ⟨_, rfl⟩
  obtain ⟨y, hy⟩ : ∃ y : ByteArray, y = ⟨p.ver.toArray⟩ := ⟨_, rfl⟩
  have sx : x.size = p.name.length := by rw [hx]; exact size_of _
  have sy : y.size = p.ver.length := by rw [hy]; exact size_of _
  have HXL : Hid (x.data.toList = p.name) := Lib.hid (by rw [hx])
  have HYL : Hid (y.data.toList = p.ver) := Lib.hid (by rw [hy])
  rw [← hx, ← hy]
  clear hx hy ha hb
  go_enter Tryz.func63, Tryz.ntmps63
  go_wp2_with fail
  go_ret
  exact ⟨congrArg Ending.returned (str_of (by unfold keyOf; simp [HXL.out, HYL.out])), (Below.refl _ _).alloc (Nat.le_refl _) _⟩
end Go.Proofs.YtnodhkjgnegkcaaGreatDoor
