/-
  Whether bounds are a range: spec.RangeOk.
-/
import Derived.Test.YtjpclglklmlhlabGreatDoorLawBd
import Derived.Test.YtjpclglklmlhlabGreatDoorRdS
namespace Go.Proofs.YtjpclglklmlhlabGreatDoor
open Go.RowKit

/-- A bound's text is a version's, or empty. -/
def limOk (l : List UInt8) : Bool := readOk l || l == []
def bndOk (b : Bd) : Bool := limOk b.1 && limOk b.2
/-- Whether bounds are a range. -/
def rngOk (bs : List Bd) : Bool := bs.all bndOk && inI bs.length 1 8
theorem smB_get {bs : List Bd} (h : SmB bs) (k : Nat) (hk : k < bs.length) : (⟨bs[k].1.toArray⟩ : ByteArray).size ≤ 1048576 ∧ (⟨bs[k].2.toArray⟩ : ByteArray).size ≤ 1048576 := by
  have := smB_mem bs[k] (List.getElem_mem hk)
  rw [size_of, size_of]
  unfold SmB at h
  omega

set_option maxRecDepth 100000 in
set_option maxHeartbeats 1000000 in
theorem l03Is_any (s : ByteArray) (w : World) (hs : s.size ≤ 1048576) :
    Calls Tryz.prog 65 #[.string s] w fun e w' => e = .returned (.bool (limOk s.data.toList)) ∧ Below w.heap.size w w' := by
  have HC := Lib.hid (specReadVersion_any s w hs)
  obtain ⟨ok, HO⟩ : ∃ ok, Hid (readOk s.data.toList = ok) := ⟨_, Lib.hid rfl⟩
  obtain ⟨r, HR⟩ : ∃ r, Hid (limOk s.data.toList = r) := ⟨_, Lib.hid rfl⟩
  obtain ⟨q, hq, HE⟩ : ∃ q, (s.toList == []) = q ∧ Hid (limOk s.data.toList = (ok || q)) := ⟨_, rfl, Lib.hid (by unfold limOk; rw [HO.out, ByteArray.toList_eq])⟩
  rw [HR.out]
  have HF : Hid (r = (ok || q)) := Lib.hid (HR.out.symm.trans HE.out)
  cases ok <;> cases q
  all_goals
    go_enter Tryz.func65, Tryz.ntmps65
    go_wp2_with fail
    refine HC.out.mono ?_
    rintro e w1 ⟨u, rfl, hu, hb1⟩
    obtain ⟨uA, uc, rfl⟩ := hu.slice
    rw [HO.out]
    go_wp2_with fail
    go_ret
    exact ⟨ret_bool HF.out.symm, by first | exact hb1 | exact hb1.alloc hb1.size _ | exact (hb1.alloc hb1.size _).setCell (p := ⟨w1.heap.size, 0, none⟩) hb1.size _⟩

set_option maxRecDepth 100000 in
set_option maxHeartbeats 2000000 in
theorem specRangeOk_any (v : Value) (bs : List Bd) (w : World) (hr : RdB w v bs) (hs : SmB bs) :
    Calls Tryz.prog 30 #[v] w fun e w' => e = .returned (.bool (rngOk bs)) ∧ Below w.heap.size w w' := by
  have HR := Lib.hid hr
  have HS := Lib.hid hs
  obtain ⟨A, ca, rfl, ha⟩ := hr
  have hn : bs.length ≤ 1048576 := by unfold SmB at hs; omega
  clear ha hs
  go_enter Tryz.func30, Tryz.ntmps30
  go_wp2_with fail
  go_loopw [3] (fun i wr => ∃ k : Nat, k ≤ bs.length ∧ i = .int .i64 k ∧ Hid ((bs.take k).all bndOk = true) ∧ Below w.heap.size w wr) (fun i _ => bs.length - (intOf i).toNat)
  case atStart => exact ⟨0, Nat.zero_le _, rfl, Lib.hid (by simp), Below.refl _ _⟩
  case round =>
    obtain ⟨k, hk, rfl, H, hb⟩ := hrel
    by_cases hlt : k < bs.length
    · have k0 : (0 : Int) ≤ (k : Int) := by omega
      have k1 : (k : Int) < (bs.length : Int) := by omega
      have HG := Lib.hid (smB_get HS.out k hlt)
      have HD := Lib.hid (fun (W : World) (h : Below w.heap.size w W) => (HR.out.below h))
      obtain ⟨A', ca', hv, ha⟩ := HR.out.below hb
      simp only [Value.slice.injEq] at hv
      obtain ⟨rfl, _, rfl⟩ := hv
      obtain ⟨g, off, rfl, hg, hca⟩ := ha (by omega)
      have d1 : wr.cell? ⟨g, off + k * 2, none⟩ = some (.string ⟨bs[k].1.toArray⟩) := (hca k hlt).1
      have HD2 : Hid (wr.cell? ⟨g, off + k * 2 + 1, none⟩ = some (.string ⟨bs[k].2.toArray⟩)) := Lib.hid (hca k hlt).2
      obtain ⟨x, HX⟩ : ∃ x, Hid (limOk (⟨bs[k].1.toArray⟩ : ByteArray).data.toList = x) := ⟨_, Lib.hid rfl⟩
      obtain ⟨y, HY⟩ : ∃ y, Hid (limOk (⟨bs[k].2.toArray⟩ : ByteArray).data.toList = y) := ⟨_, Lib.hid rfl⟩
      have HB : Hid (bndOk bs[k] = (x && y)) := Lib.hid (by unfold bndOk; rw [← HX.out, ← HY.out])
      clear ha hca
      cases x
      · have HF : Hid (rngOk bs = false) := Lib.hid (by unfold rngOk; rw [Bool.eq_false_iff.2 (all_not bs bndOk k hlt (by rw [HB.out]; rfl))]; rfl)
        go_wp2_with fail
        refine (l03Is_any _ _ HG.out.1).mono ?_
        rw [HX.out]
        rintro e w1 ⟨rfl, hb1⟩
        have B1 := hb.trans (hb1.mono hb.size)
        go_wp2_with fail
        go_ret
        exact ⟨ret_bool HF.out.symm, B1⟩
      · go_wp2_with fail
        refine (l03Is_any _ _ HG.out.1).mono ?_
        rw [HX.out]
        rintro e w1 ⟨rfl, hb1⟩
        have B1 := hb.trans (hb1.mono hb.size)
        have d2 := (hb1.cell (p := ⟨g, off + k * 2 + 1, none⟩) hg).trans HD2.out
        go_wp2_with fail
        refine (l03Is_any _ _ HG.out.2).mono ?_
        rw [HY.out]
        rintro e w2 ⟨rfl, hb2⟩
        have B2 := B1.trans (hb2.mono B1.size)
        cases y
        · have HF : Hid (rngOk bs = false) := Lib.hid (by unfold rngOk; rw [Bool.eq_false_iff.2 (all_not bs bndOk k hlt (by rw [HB.out]; rfl))]; rfl)
          go_wp2_with fail
          go_ret
          exact ⟨ret_bool HF.out.symm, B2⟩
        · have HN := Lib.hid (all_take bs bndOk k hlt H.out (by rw [HB.out]; rfl))
          go_wp2_with fail
          go_roundw
          case rel => exact ⟨k + 1, by omega, by go_num, HN, B2⟩
          case measure => simp [intOf]; omega
    · have HF : Hid (rngOk bs = inI bs.length 1 8) := Lib.hid (by
        have h := H.out
        rw [List.take_of_length_le (by omega)] at h
        unfold rngOk; rw [h]; rfl)
      go_wp2_with fail
      refine (l01In_any _ _ _ _).mono ?_
      rintro e w1 ⟨rfl, rfl⟩
      go_wp2_with fail
      go_ret
      exact ⟨ret_bool HF.out.symm, hb⟩
end Go.Proofs.YtjpclglklmlhlabGreatDoor
