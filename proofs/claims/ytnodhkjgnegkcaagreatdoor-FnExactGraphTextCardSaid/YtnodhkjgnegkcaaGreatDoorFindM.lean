/-
  The index of the first pack with a key: spec.Find.
-/
import Derived.Test.YtnodhkjgnegkcaaGreatDoorGrL
import Derived.Test.YtnodhkjgnegkcaaGreatDoorKeyO
import Derived.Deep.RegionWith
namespace Go.Proofs.YtnodhkjgnegkcaaGreatDoor
open Go.RowKit

/-- The index of the first pack with a key, or -1. -/
def findP (ps : List Pk) (key : List UInt8) : Int := match ps.findIdx? (fun p => keyOf p == key) with
  | some i => (i : Int)
  | none => -1
/-- None of the first k packs has the key. -/
def noneP (ps : List Pk) (key : List UInt8) (k : Nat) : Prop := ∀ p ∈ ps.take k, keyOf p ≠ key
theorem noneP_zero (ps : List Pk) (key : List UInt8) : noneP ps key 0 := by intro p h; simp at h
theorem noneP_succ {ps : List Pk} {key : List UInt8} {k : Nat} (h : noneP ps key k) (hk : k < ps.length) (he : keyOf ps[k] ≠ key) : noneP ps key (k + 1) := by
  intro p hp
  rw [List.take_succ_eq_append_getElem hk] at hp
  rcases List.mem_append.1 hp with h1 | h1
  · exact h p h1
  · simp at h1; subst h1; exact he
theorem findP_hit {ps : List Pk} {key : List UInt8} {k : Nat} (h : noneP ps key k) (hk : k < ps.length) (he : keyOf ps[k] = key) : findP ps key = k := by
  have : ps.findIdx? (fun p => keyOf p == key) = some k := by
    rw [List.findIdx?_eq_some_iff_getElem]
    refine ⟨hk, by simpa using he, fun j hj => ?_⟩
    have := h ps[j] (by rw [List.mem_take_iff_getElem]; exact ⟨j, by omega, rfl⟩)
    simpa using this
  unfold findP; rw [this]
theorem findP_miss {ps : List Pk} {key : List UInt8} {k : Nat} (h : noneP ps key k) (hk : ps.length ≤ k) : findP ps key = -1 := by
  have : ps.findIdx? (fun p => keyOf p == key) = none := by
    rw [List.findIdx?_eq_none_iff]
    intro p hp
    have := h p (by rw [List.take_of_length_le hk]; exact hp)
    simpa using this
  unfold findP; rw [this]
theorem SmPk.key {p : Pk} (h : SmPk p) : (keyOf p).length ≤ 1048577 := by
  have : p.name.length + p.ver.length ≤ 1048576 := by unfold SmPk wP at h; omega
  unfold keyOf; simp; omega

set_option maxRecDepth 100000 in
set_option maxHeartbeats 2000000 in
theorem specFind_any (T : Option Addr) (tn tc : Nat) (vp : Value) (ps : List Pk) (key : List UInt8) (w : World) (hp : RdPs w vp ps) (hs : SmPs ps) :
    Calls Tryz.prog 59 #[.agg #[.slice T tn tc, vp], .string ⟨key.toArray⟩] w fun e w' => e = .returned (.int .i64 (findP ps key)) ∧ Below w.heap.size w w' := by
  have HR := Lib.hid hp
  have HS := Lib.hid hs
  have hl : ps.length ≤ 1048576 := by unfold SmPs at hs; omega
  obtain ⟨A, ca, rfl, ha⟩ := hp
  clear ha hs
  obtain ⟨r, HF⟩ : ∃ r, Hid (findP ps key = r) := ⟨_, Lib.hid rfl⟩
  rw [HF.out]
  have B0 : Below w.heap.size w (w.alloc (.cells #[.slice T tn tc, .slice A ps.length ca] 37)) := (Below.refl _ _).alloc (Nat.le_refl _) _
  have b0 := heap_alloc_new w (.cells #[.slice T tn tc, .slice A ps.length ca] 37)
  go_enter Tryz.func59, Tryz.ntmps59
  go_wp2_with fail
  go_loopw [5] (fun i wr => ∃ k : Nat, k ≤ ps.length ∧ i = .int .i64 k ∧ Hid (noneP ps key k) ∧ Below w.heap.size w wr ∧ wr.heap[w.heap.size]? = some (.cells #[.slice T tn tc, .slice A ps.length ca] 37)) (fun i _ => ps.length - (intOf i).toNat)
  case atStart => exact ⟨0, Nat.zero_le _, rfl, Lib.hid (noneP_zero _ _), B0, b0⟩
  case round =>
    obtain ⟨k, hk, rfl, HN, hb, hbox⟩ := hrel
    obtain ⟨x0, x1⟩ := cellsG hbox
    by_cases hlt : k < ps.length
    · obtain ⟨g, off, rfl, hg, a, b, d0, d1, d2, d3, d4, d5, ra, rb⟩ := (HR.out.below hb).at k hlt
      have HC := Lib.hid (specKeyOf_any ps[k] a b wr ra rb (HS.out.get k hlt))
      obtain ⟨A1, c1, rfl⟩ := ra.slice
      obtain ⟨A2, c2, rfl⟩ := rb.slice
      have k0 : (0 : Int) ≤ (k : Int) := by omega
      have k1 : (k : Int) < (ps.length : Int) := by omega
      have HBX := Lib.hid hbox
      clear ra rb B0 b0 hbox
      by_cases he : keyOf ps[k] = key
      · have HX : Hid (r = (k : Int)) := Lib.hid (by rw [← HF.out]; exact findP_hit HN.out hlt he)
        have q1 : ((⟨(keyOf ps[k]).toArray⟩ : ByteArray).toList == (⟨key.toArray⟩ : ByteArray).toList) = true := by rw [he]; simp
        have q2 : (keyOf ps[k] == key) = true := by rw [he]; simp
        clear he
        go_wp2_with fail
        refine HC.out.mono ?_
        rintro e w1 ⟨rfl, hb1⟩
        have B1 := hb.trans (hb1.mono hb.size)
        go_wp2_with fail
        go_ret
        exact ⟨ret_int HX.out.symm, B1⟩
      · have HN2 := Lib.hid (noneP_succ HN.out hlt he)
        have q1 : ((⟨(keyOf ps[k]).toArray⟩ : ByteArray).toList == (⟨key.toArray⟩ : ByteArray).toList) = false := by rw [ByteArray.toList_eq, ByteArray.toList_eq]; simpa using he
        have q2 : (keyOf ps[k] == key) = false := by simpa using he
        clear he
        go_wp2_with fail
        refine HC.out.mono ?_
        rintro e w1 ⟨rfl, hb1⟩
        have B1 := hb.trans (hb1.mono hb.size)
        have y1 := keepB HBX.out hb1
        go_wp2_with fail
        go_roundw
        case rel => exact ⟨k + 1, by omega, by go_num, HN2, B1, y1⟩
        case measure => simp [intOf]; omega
    · have HX : Hid (r = -1) := Lib.hid (by rw [← HF.out]; exact findP_miss HN.out (by omega))
      clear B0 b0
      go_wp2_with fail
      go_ret
      exact ⟨ret_int HX.out.symm, hb⟩

end Go.Proofs.YtnodhkjgnegkcaaGreatDoor
