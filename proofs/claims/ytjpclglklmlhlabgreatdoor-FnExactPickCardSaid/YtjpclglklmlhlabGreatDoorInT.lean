/-
  Whether a range takes a version's text: spec.In.
-/
import Derived.Test.YtjpclglklmlhlabGreatDoorInS
import Derived.Deep.RegionWith
namespace Go.Proofs.YtjpclglklmlhlabGreatDoor
open Go.RowKit

/-- Whether the range bs takes the version of the text l. -/
def takesL (l : List UInt8) (b : Bd) : Bool := takes b (readA l 0) (readA l 1) (readA l 2) (readP l)
def inR (l : List UInt8) (bs : List Bd) : Bool := readOk l && rngOk bs && bs.any (takesL l)
theorem any_take {α : Type} (ls : List α) (p : α → Bool) (k : Nat) (h : k < ls.length) (ha : (ls.take k).any p = false) (hb : p ls[k] = false) : (ls.take (k + 1)).any p = false := by
  rw [List.take_succ_eq_append_getElem h, List.any_append, ha]; simp [hb]
theorem any_yes {α : Type} (ls : List α) (p : α → Bool) (k : Nat) (h : k < ls.length) (hb : p ls[k] = true) : ls.any p = true := by
  rw [List.any_eq_true]; exact ⟨ls[k], List.getElem_mem h, hb⟩

set_option maxRecDepth 100000 in
set_option maxHeartbeats 4000000 in
theorem specIn_any (s : ByteArray) (v : Value) (bs : List Bd) (w : World) (hz : s.size ≤ 1048576) (hr : RdB w v bs) (hs : SmB bs) :
    Calls Tryz.prog 36 #[.string s, v] w fun e w' => e = .returned (.bool (inR s.data.toList bs)) ∧ Below w.heap.size w w' := by
  have HR := Lib.hid hr
  have HS := Lib.hid hs
  have HV := Lib.hid (fun (W : World) (h : Below w.heap.size w W) => specRangeOk_any v bs W (hr.below h) hs)
  obtain ⟨A, ca, rfl, ha⟩ := hr
  have hn : bs.length ≤ 1048576 := by unfold SmB at hs; omega
  have HSP : Hid (Sm (readP s.data.toList)) := Lib.hid (readP_Sm (by simpa using hz))
  clear ha hs
  obtain ⟨rk, HRK⟩ : ∃ z, Hid (rngOk bs = z) := ⟨_, Lib.hid rfl⟩
  obtain ⟨ok, HOK⟩ : ∃ z, Hid (readOk s.data.toList = z) := ⟨_, Lib.hid rfl⟩
  obtain ⟨m, HM⟩ : ∃ m, Hid ((readP s.data.toList).length = m) := ⟨_, Lib.hid rfl⟩
  obtain ⟨l0, HL0⟩ : ∃ z, Hid (readA s.data.toList 0 = z) := ⟨_, Lib.hid rfl⟩
  obtain ⟨l1, HL1⟩ : ∃ z, Hid (readA s.data.toList 1 = z) := ⟨_, Lib.hid rfl⟩
  obtain ⟨l2, HL2⟩ : ∃ z, Hid (readA s.data.toList 2 = z) := ⟨_, Lib.hid rfl⟩
  have HI : Hid (inR s.data.toList bs = (ok && rk && bs.any (takesL s.data.toList))) := Lib.hid (by unfold inR; rw [HOK.out, HRK.out])
  go_enter Tryz.func36, Tryz.ntmps36
  go_wp2_with fail
  refine (specReadVersion_any _ _ hz).mono ?_
  rintro e w1 ⟨u, rfl, hu, hb1⟩
  obtain ⟨uA, uc, rfl⟩ := hu.slice
  rw [HOK.out, HL0.out, HL1.out, HL2.out, HM.out]
  have hRL : RdS w1 (.slice uA m uc) (readP s.data.toList) := by have := RdS.of_strs hu; rw [HM.out] at this; exact this
  have B1 := hb1.alloc hb1.size (.cells #[.int .i64 l0, .int .i64 l1, .int .i64 l2, .slice uA m uc] 51)
  have v1 := heap_alloc_new w1 (.cells #[.int .i64 l0, .int .i64 l1, .int .i64 l2, .slice uA m uc] 51)
  have hR1 := rdS_alloc hRL (.cells #[.int .i64 l0, .int .i64 l1, .int .i64 l2, .slice uA m uc] 51)
  have HV1 := Lib.hid v1
  have HR1 := Lib.hid hR1
  clear hb1 hu hRL v1 hR1
  go_wp2_with fail
  go_loopw [7] (fun i wr => ∃ k : Nat, k ≤ bs.length ∧ i = .int .i64 k ∧ Hid (ok = true → rk = true → (bs.take k).any (takesL s.data.toList) = false) ∧ Below (w1.heap.size + 1) (w1.alloc (.cells #[.int .i64 l0, .int .i64 l1, .int .i64 l2, .slice uA m uc] 51)) wr) (fun i _ => bs.length - (intOf i).toNat)
  case atStart => exact ⟨0, Nat.zero_le _, rfl, Lib.hid (by simp), Below.refl _ _⟩
  case round =>
    obtain ⟨k, hk, rfl, H, hb⟩ := hrel
    have hbw : Below w.heap.size w wr := B1.trans (hb.mono (by have := B1.size; simp at this; omega))
    have hbs : w1.heap.size + 1 ≤ wr.heap.size := by have := hb.size; simpa using this
    by_cases hlt : k < bs.length
    · have k0 : (0 : Int) ≤ (k : Int) := by omega
      have k1 : (k : Int) < (bs.length : Int) := by omega
      have HG := Lib.hid (smB_get HS.out k hlt)
      cases ok
      · have HH : Hid (false = true → rk = true → (bs.take (k + 1)).any (takesL s.data.toList) = false) := Lib.hid (fun h => by cases h)
        go_wp2_with fail
        go_region
        all_goals
          go_wp2_with fail
          go_roundw
          case rel => exact ⟨k + 1, by omega, by go_num, HH, hb.trans (below_drewN _ _ 1)⟩
          case measure => simp [intOf]; omega
      · cases rk
        · go_wp2_with fail
          first | go_region_with (first | (go_at_call 30; refine (HV.out _ (hbw.trans (below_drewN _ _ 1))).mono ?_; rw [HRK.out]; rintro e w2 ⟨rfl, hb2⟩)) | fail
          all_goals
            go_wp2_with fail
            go_roundw
            case rel => exact ⟨k + 1, by omega, by go_num, Lib.hid (fun _ h => by cases h), (hb.trans (below_drewN _ _ 1)).trans (hb2.mono hbs)⟩
            case measure => simp [intOf]; omega
        · obtain ⟨tk, HTK⟩ : ∃ z, Hid (takes ((⟨bs[k].1.toArray⟩ : ByteArray).data.toList, (⟨bs[k].2.toArray⟩ : ByteArray).data.toList) l0 l1 l2 (readP s.data.toList) = z) := ⟨_, Lib.hid rfl⟩
          have HTL : Hid (takesL s.data.toList bs[k] = tk) := Lib.hid (by unfold takesL; rw [HL0.out, HL1.out, HL2.out]; exact HTK.out)
          have HCE : Hid (∀ W : World, Below (w1.heap.size + 1) (w1.alloc (.cells #[.int .i64 l0, .int .i64 l1, .int .i64 l2, .slice uA m uc] 51)) W → (∃ g off, A = some ⟨g, off, none⟩ ∧ W.cell? ⟨g, off + k * 2, none⟩ = some (.string ⟨bs[k].1.toArray⟩) ∧ W.cell? ⟨g, off + k * 2 + 1, none⟩ = some (.string ⟨bs[k].2.toArray⟩)) ∧ W.heap[w1.heap.size]? = some (.cells #[.int .i64 l0, .int .i64 l1, .int .i64 l2, .slice uA m uc] 51)) := Lib.hid (fun W hW => by
            have hw : Below w.heap.size w W := B1.trans (hW.mono (by have := B1.size; simp at this; omega))
            obtain ⟨A', ca', hv, ha⟩ := HR.out.below hw
            simp only [Value.slice.injEq] at hv
            obtain ⟨rfl, _, rfl⟩ := hv
            obtain ⟨g, off, rfl, hg, hca⟩ := ha (by omega)
            exact ⟨⟨g, off, rfl, (hca k hlt).1, (hca k hlt).2⟩, (hW.block _ (by simp)).trans HV1.out⟩)
          obtain ⟨⟨g, off, hA, _, _⟩, _⟩ := HCE.out _ hb
          subst hA
          have HCF : Hid (∀ W : World, Below (w1.heap.size + 1) (w1.alloc (.cells #[.int .i64 l0, .int .i64 l1, .int .i64 l2, .slice uA m uc] 51)) W → W.cell? ⟨g, off + k * 2, none⟩ = some (.string ⟨bs[k].1.toArray⟩) ∧ W.cell? ⟨g, off + k * 2 + 1, none⟩ = some (.string ⟨bs[k].2.toArray⟩)) := Lib.hid (fun W hW => by
            obtain ⟨⟨g', off', hA, e1, e2⟩, _⟩ := HCE.out W hW
            simp only [Option.some.injEq, Addr.mk.injEq, and_true] at hA
            obtain ⟨rfl, rfl⟩ := hA
            exact ⟨e1, e2⟩)
          have HCL : Hid (∀ W : World, Below (w1.heap.size + 1) (w1.alloc (.cells #[.int .i64 l0, .int .i64 l1, .int .i64 l2, .slice uA m uc] 51)) W → Calls Tryz.prog 69 #[.agg #[.string ⟨bs[k].1.toArray⟩, .string ⟨bs[k].2.toArray⟩], .agg #[.int .i64 l0, .int .i64 l1, .int .i64 l2, .slice uA m uc]] W fun e w' => e = .returned (.bool tk) ∧ Below W.heap.size W w') := Lib.hid (fun W hW => by
            have := l03Takes_any ⟨bs[k].1.toArray⟩ ⟨bs[k].2.toArray⟩ l0 l1 l2 _ _ W (HR1.out.below (hW.mono (by simp))) HSP.out HG.out.1 HG.out.2
            rw [HTK.out] at this
            exact this)
          have hbd := hb.trans (below_drewN (w1.heap.size + 1) wr 1)
          go_wp2_with fail
          go_region_with (first | (go_at_call 30; refine (HV.out _ (hbw.trans (below_drewN _ _ 1))).mono ?_; rw [HRK.out]; rintro e w2 ⟨rfl, hb2⟩; have hB2 := hbd.trans (hb2.mono hbs); obtain ⟨d1, d2⟩ := HCF.out _ hB2; obtain ⟨x0, x1, x2, x3⟩ := cells4 (HCE.out _ hB2).2) | (go_at_call 69; refine (HCL.out _ hB2).mono ?_; rintro e w3 ⟨rfl, hb3⟩))
          all_goals
            have hB3 := hB2.trans (hb3.mono (Nat.le_trans hbs hb2.size))
            cases tk
            · have HH : Hid ((bs.take (k + 1)).any (takesL s.data.toList) = false) := Lib.hid (any_take bs _ k hlt (H.out (by trivial) (by trivial)) HTL.out)
              go_wp2_with fail
              go_roundw
              case rel => exact ⟨k + 1, by omega, by go_num, Lib.hid (fun _ _ => HH.out), hB3⟩
              case measure => simp [intOf]; omega
            · have HF : Hid (inR s.data.toList bs = true) := Lib.hid (by rw [HI.out, any_yes bs _ k hlt HTL.out]; rfl)
              go_wp2_with fail
              go_ret
              exact ⟨ret_bool HF.out.symm, B1.trans (hB3.mono (by have := B1.size; simp at this; omega))⟩
    · have HF : Hid (inR s.data.toList bs = false) := Lib.hid (by
        rw [HI.out]
        have h := H.out
        rw [List.take_of_length_le (by omega)] at h
        cases ok
        · rfl
        · cases rk
          · rfl
          · rw [h rfl rfl]; rfl)
      go_wp2_with fail
      go_ret
      exact ⟨ret_bool HF.out.symm, hbw⟩
end Go.Proofs.YtjpclglklmlhlabGreatDoor
