/-
  Whether bounds are a range: impl.RangeOk.
-/
import Derived.Test.YtjpclglklmlhlabGreatDoorRngS
import Derived.Test.YtjpclglklmlhlabGreatDoorRdI
namespace Go.Proofs.YtjpclglklmlhlabGreatDoor
open Go.RowKit

set_option maxRecDepth 100000 in
set_option maxHeartbeats 1000000 in
theorem limitOk_any (s : ByteArray) (w : World) (hs : s.size ≤ 1048576) :
    Calls Tryz.prog 64 #[.string s] w fun e w' => e = .returned (.bool (limOk s.data.toList)) ∧ Below w.heap.size w w' := by
  have HC := Lib.hid (implReadVersion_any s w hs)
  obtain ⟨ok, HO⟩ : ∃ ok, Hid (readOk s.data.toList = ok) := ⟨_, Lib.hid rfl⟩
  obtain ⟨r, HR⟩ : ∃ r, Hid (limOk s.data.toList = r) := ⟨_, Lib.hid rfl⟩
  obtain ⟨q, hq, HE⟩ : ∃ q, (s.toList == []) = q ∧ Hid (limOk s.data.toList = (ok || q)) := ⟨_, rfl, Lib.hid (by unfold limOk; rw [HO.out, ByteArray.toList_eq])⟩
  rw [HR.out]
  have HF : Hid (r = (ok || q)) := Lib.hid (HR.out.symm.trans HE.out)
  cases ok <;> cases q
  all_goals
    go_enter Tryz.func64, Tryz.ntmps64
    go_wp2_with fail
    refine HC.out.mono ?_
    rintro e w1 ⟨u, rfl, hu, hb1⟩
    obtain ⟨uA, uc, rfl⟩ := hu.slice
    rw [HO.out]
    go_wp2_with fail
    go_ret
    exact ⟨ret_bool HF.out.symm, by first | exact hb1 | exact hb1.alloc hb1.size _ | exact (hb1.alloc hb1.size _).setCell (p := ⟨w1.heap.size, 0, none⟩) hb1.size _⟩

theorem cells2 {V : World} {B : Nat} {T : TypeId} {v0 v1 : Value} (h : V.heap[B]? = some (.cells #[v0, v1] T)) : V.cell? ⟨B, 0, none⟩ = some v0 ∧ V.cell? ⟨B, 1, none⟩ = some v1 := by
  simp [World.cell?, h]

set_option maxRecDepth 100000 in
set_option maxHeartbeats 2000000 in
theorem implRangeOk_any (v : Value) (bs : List Bd) (w : World) (hr : RdB w v bs) (hs : SmB bs) :
    Calls Tryz.prog 29 #[v] w fun e w' => e = .returned (.bool (rngOk bs)) ∧ Below w.heap.size w w' := by
  have HR := Lib.hid hr
  have HS := Lib.hid hs
  obtain ⟨A, ca, rfl, ha⟩ := hr
  have hn : bs.length ≤ 1048576 := by unfold SmB at hs; omega
  clear ha hs
  by_cases h1 : bs.length < 1
  · have HF : Hid (rngOk bs = false) := Lib.hid (by unfold rngOk inI; simp; omega)
    go_enter Tryz.func29, Tryz.ntmps29
    go_wp2
    go_ret
    exact ⟨ret_bool HF.out.symm, Below.refl _ _⟩
  by_cases h8 : 8 < bs.length
  · have HF : Hid (rngOk bs = false) := Lib.hid (by unfold rngOk inI; simp; omega)
    go_enter Tryz.func29, Tryz.ntmps29
    go_wp2
    go_ret
    exact ⟨ret_bool HF.out.symm, Below.refl _ _⟩
  have HI : Hid (rngOk bs = bs.all bndOk) := Lib.hid (by unfold rngOk; rw [show inI bs.length 1 8 = true by unfold inI; simp; omega]; simp)
  go_enter Tryz.func29, Tryz.ntmps29
  go_wp2
  go_loopw [4, 15] (fun _ i wr => ∃ k : Nat, k ≤ bs.length ∧ i = .int .i64 k ∧ Hid ((bs.take k).all bndOk = true) ∧ Below w.heap.size w wr) (fun _ i _ => bs.length - (intOf i).toNat)
  case atStart => exact ⟨0, Nat.zero_le _, rfl, Lib.hid (by simp), Below.refl _ _⟩
  case round =>
    obtain ⟨k, hk, rfl, H, hb⟩ := hrel
    by_cases hlt : k < bs.length
    · have k0 : (0 : Int) ≤ (k : Int) := by omega
      have k1 : (k : Int) < (bs.length : Int) := by omega
      have HG := Lib.hid (smB_get HS.out k hlt)
      obtain ⟨A', ca', hv, ha⟩ := HR.out.below hb
      simp only [Value.slice.injEq] at hv
      obtain ⟨rfl, _, rfl⟩ := hv
      obtain ⟨g, off, rfl, hg, hca⟩ := ha (by omega)
      have d1 : wr.cell? ⟨g, off + k * 2, none⟩ = some (.string ⟨bs[k].1.toArray⟩) := (hca k hlt).1
      have d2 : wr.cell? ⟨g, off + k * 2 + 1, none⟩ = some (.string ⟨bs[k].2.toArray⟩) := (hca k hlt).2
      obtain ⟨x, HX⟩ : ∃ x, Hid (limOk (⟨bs[k].1.toArray⟩ : ByteArray).data.toList = x) := ⟨_, Lib.hid rfl⟩
      obtain ⟨y, HY⟩ : ∃ y, Hid (limOk (⟨bs[k].2.toArray⟩ : ByteArray).data.toList = y) := ⟨_, Lib.hid rfl⟩
      have HB : Hid (bndOk bs[k] = (x && y)) := Lib.hid (by unfold bndOk; rw [← HX.out, ← HY.out])
      have B0 : Below w.heap.size w (wr.alloc (.cells #[.string ⟨bs[k].1.toArray⟩, .string ⟨bs[k].2.toArray⟩] 58)) := hb.alloc hb.size _
      have b0 := heap_alloc_new wr (.cells #[.string ⟨bs[k].1.toArray⟩, .string ⟨bs[k].2.toArray⟩] 58)
      clear ha hca
      cases x
      · have HF : Hid (rngOk bs = false) := Lib.hid (by rw [HI.out]; exact Bool.eq_false_iff.2 (all_not bs bndOk k hlt (by rw [HB.out]; rfl)))
        go_wp2_with fail
        refine (limitOk_any _ _ HG.out.1).mono ?_
        rw [HX.out]
        rintro e w1 ⟨rfl, hb1⟩
        have B1 := B0.trans (hb1.mono B0.size)
        go_wp2_with fail
        go_ret
        exact ⟨ret_bool HF.out.symm, B1⟩
      · go_wp2_with fail
        refine (limitOk_any _ _ HG.out.1).mono ?_
        rw [HX.out]
        rintro e w1 ⟨rfl, hb1⟩
        have B1 := B0.trans (hb1.mono B0.size)
        have c1 := cells2 (keepB b0 hb1)
        clear d1 d2
        go_wp2_with fail
        refine (limitOk_any _ _ HG.out.2).mono ?_
        rw [HY.out]
        rintro e w2 ⟨rfl, hb2⟩
        have B2 := B1.trans (hb2.mono B1.size)
        cases y
        · have HF : Hid (rngOk bs = false) := Lib.hid (by rw [HI.out]; exact Bool.eq_false_iff.2 (all_not bs bndOk k hlt (by rw [HB.out]; rfl)))
          go_wp2_with fail
          go_ret
          exact ⟨ret_bool HF.out.symm, B2⟩
        · have HN := Lib.hid (all_take bs bndOk k hlt H.out (by rw [HB.out]; rfl))
          go_wp2_with fail
          go_roundw
          case rel => exact ⟨k + 1, by omega, by go_num, HN, B2⟩
          case measure => simp [intOf]; omega
    · have HF : Hid (rngOk bs = true) := Lib.hid (by
        have h := H.out
        rw [List.take_of_length_le (by omega)] at h
        rw [HI.out, h])
      go_wp2_with fail
      go_ret
      exact ⟨ret_bool HF.out.symm, hb⟩
end Go.Proofs.YtjpclglklmlhlabGreatDoor
