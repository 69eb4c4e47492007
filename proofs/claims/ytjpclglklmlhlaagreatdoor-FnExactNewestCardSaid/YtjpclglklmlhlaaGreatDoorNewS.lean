/-
  spec.Newest: the last of the sorted versions without a dash, else the last.
-/
import Derived.Test.YtjpclglklmlhlaaGreatDoorNewM
import Derived.Test.YtjpclglklmlhlaaGreatDoorSortS
namespace Go.Proofs.YtjpclglklmlhlaaGreatDoor
open Go.RowKit

set_option maxRecDepth 100000 in
set_option maxHeartbeats 4000000 in
theorem specNewest_any (v : Value) (ls : List (List UInt8)) (w : World) (hr : RdS w v ls) (hs : Sm ls) :
    Calls Tryz.prog 18 #[v] w fun e w' => ∃ out, e = .returned (.string ⟨(newestL out).toArray⟩) ∧ SortOf ls out ∧ Below w.heap.size w w' := by
  have HS := Lib.hid hs
  have hn := hs.1
  have HC := Lib.hid (specSortVersions_any v ls w hr hs)
  clear hr hs
  go_enter Tryz.func18, Tryz.ntmps18
  go_wp2_with fail
  refine HC.out.mono ?_
  rintro e w1 ⟨u, out, rfl, S0, hSO, hb1⟩
  have lo := sortOf_len hSO
  have HSZ : Hid (∀ l ∈ out, l.length ≤ 1048576) := Lib.hid (fun l hl => HS.out.2 l ((hSO.2 l).1 hl).1)
  have HSO := Lib.hid hSO
  have HRD := Lib.hid (RdS.of_strs S0)
  obtain ⟨uA, uc, rfl⟩ := S0.slice
  clear hSO S0 HC
  go_wp2_with fail
  go_loopw [4, 5] (fun b i wr => ∃ (k : Nat), k ≤ out.length ∧ i = .int .i64 k ∧ b = .string ⟨(lastSt (out.take k)).toArray⟩ ∧ wr = w1) (fun _ i _ => out.length - (intOf i).toNat)
  case atStart => exact ⟨0, Nat.zero_le _, rfl, rfl, rfl⟩
  case round =>
    obtain ⟨k, hk, rfl, rfl, rfl⟩ := hrel
    by_cases hlt : k < out.length
    · have k0 : (0 : Int) ≤ (k : Int) := by omega
      have k1 : (k : Int) < (out.length : Int) := by omega
      have HLK := Lib.hid (HSZ.out out[k] (List.getElem_mem hlt))
      have HLT := Lib.hid (lastSt_take hlt)
      have HLM : Hid ((⟨out[k].toArray⟩ : ByteArray).size ≤ maxLen) := Lib.hid (by rw [size_of]; have := HLK.out; unfold maxLen; omega)
      obtain ⟨A', ca', hv, ha⟩ := HRD.out
      simp only [Value.slice.injEq] at hv
      obtain ⟨rfl, _, rfl⟩ := hv
      obtain ⟨gl, off, rfl, hgl, hca⟩ := ha (by omega)
      have d1 : wr.cell? ⟨gl, off + k, none⟩ = some (.string ⟨out[k].toArray⟩) := hca k hlt
      obtain ⟨d, HD⟩ : ∃ d, Hid (Lib.indexByte (⟨out[k].toArray⟩ : ByteArray).data.toList 45 = d) := ⟨_, Lib.hid rfl⟩
      clear ha hca
      go_wp2_with fail
      refine (l01At_any _ 45 _ HLM.out).mono ?_
      rw [HD.out]
      rintro e w2 ⟨rfl, rfl⟩
      by_cases hd : d < 0
      · have HN : Hid (lastSt (out.take (k + 1)) = out[k]) := Lib.hid (by rw [HLT.out, if_pos]; unfold stb dash; have e : Lib.indexByte out[k] 45 = d := HD.out; rw [e]; simpa using hd)
        go_wp2_with fail
        go_roundw
        case rel => exact ⟨k + 1, by omega, by go_num, by rw [HN.out], trivial⟩
        case measure => simp [intOf]; omega
      · have HN : Hid (lastSt (out.take (k + 1)) = lastSt (out.take k)) := Lib.hid (by rw [HLT.out, if_neg]; unfold stb dash; have e : Lib.indexByte out[k] 45 = d := HD.out; rw [e]; simpa using hd)
        go_wp2_with fail
        go_roundw
        case rel => exact ⟨k + 1, by omega, by go_num, by rw [HN.out], trivial⟩
        case measure => simp [intOf]; omega
    · have HX : Hid (lastSt (out.take k) = lastSt out) := Lib.hid (by rw [List.take_of_length_le (by omega)])
      rw [HX.out]
      obtain ⟨z, HZ⟩ : ∃ z, Hid (lastSt out = z) := ⟨_, Lib.hid rfl⟩
      rw [HZ.out]
      by_cases hz : z = []
      · by_cases h0 : 0 < out.length
        · have q0 : (0 : Int) < (out.length : Int) := by omega
          have q1 : ((⟨z.toArray⟩ : ByteArray).toList == []) = true := by rw [hz, ByteArray.toList_eq]; rfl
          obtain ⟨m, hm⟩ : ∃ m : Nat, out.length = m + 1 := ⟨out.length - 1, by omega⟩
          have hmo : m < out.length := by omega
          have HN : Hid (newestL out = out[m]) := Lib.hid (by rw [newest_none (HZ.out.trans hz) h0, lastD_get h0]; simp only [hm, Nat.add_sub_cancel])
          obtain ⟨A', ca', hv, ha⟩ := HRD.out
          simp only [Value.slice.injEq] at hv
          obtain ⟨rfl, _, rfl⟩ := hv
          obtain ⟨gl, off, rfl, hgl, hca⟩ := ha (by omega)
          have d1 : wr.cell? ⟨gl, off + m, none⟩ = some (.string ⟨out[m].toArray⟩) := hca m hmo
          have e1 : (out.length : Int) - 1 = (m : Int) := by omega
          have k0 : (0 : Int) ≤ (m : Int) := by omega
          have k1 : (m : Int) < (out.length : Int) := by omega
          have k2 : ¬ (k : Int) < (out.length : Int) := by omega
          clear ha hca h0 hm
          go_wp2_with fail
          go_ret
          exact ⟨out, by rw [HN.out]; rfl, HSO.out, hb1⟩
        · have q0 : ¬ (0 : Int) < (out.length : Int) := by omega
          have q1 : ((⟨z.toArray⟩ : ByteArray).toList == []) = true := by rw [hz, ByteArray.toList_eq]; rfl
          have HN : Hid (newestL out = []) := Lib.hid (by unfold newestL; rw [if_neg (fun h => h0 h.2), HZ.out, hz])
          have k2 : ¬ (k : Int) < (out.length : Int) := by omega
          go_wp2_with fail
          go_ret
          exact ⟨out, by rw [HN.out]; rfl, HSO.out, hb1⟩
      · have q1 : ((⟨z.toArray⟩ : ByteArray).toList == []) = false := by rw [ByteArray.toList_eq]; simpa using hz
        have HN : Hid (newestL out = z) := Lib.hid (newest_some HZ.out hz)
        have k2 : ¬ (k : Int) < (out.length : Int) := by omega
        go_wp2_with fail
        go_ret
        exact ⟨out, by rw [HN.out]; rfl, HSO.out, hb1⟩
end Go.Proofs.YtjpclglklmlhlaaGreatDoor
