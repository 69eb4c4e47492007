/-
  impl.headsOf hands back an iterator that yields the heads of all entries, each with its entry's place.
-/
import Derived.Test.YtnodhkjgnegkcaaGreatDoorWholeE
import Derived.Test.YtnodhkjgnegkcaaGreatDoorWholeA
import Derived.Deep.QuietTactic
import Derived.BigQuiet
import Derived.Laws.Cover1
import Derived.Test.YtnodhkjgnegkcaaGreatDoorWholeG
import Derived.Test.YtnodhkjgnegkcaaGreatDoorWholeJ
import Derived.Test.YtnodhkjgnegkcaaGreatDoorWholeB
import Derived.Deep.RegionHeldLaw
import Derived.Test.YtnodhkjgnegkcaaGreatDoorRows
import Derived.Test.YtnodhkjgnegkcaaGreatDoorBase
import Derived.Test.YtnodhkjgnegkcaaGreatDoorHeap
import Derived.Test.YtnodhkjgnegkcaaGreatDoorWholeI
import Derived.Test.YtnodhkjgnegkcaaGreatDoorWholeF
import Derived.Test.YtnodhkjgnegkcaaGreatDoorCharN
import Derived.Test.YtnodhkjgnegkcaaGreatDoorLawB
/-
  impl.sumsOk: whether sums are right.
-/
namespace Go.Proofs.YtnodhkjgnegkcaaGreatDoor
open Go.RowKit

set_option maxRecDepth 100000 in
theorem sumSize_any (a : List UInt8) (w : World) : Calls Tryz.prog 195 #[.string ⟨a.toArray⟩] w fun e w' => e = .returned (.int .i64 (sizeI a)) ∧ w = w' := by
  by_cases h1 : a = sha1L
  · subst h1
    go_enter Tryz.func195, Tryz.ntmps195
    go_wp2
    go_ret
    exact ⟨rfl, rfl⟩
  · by_cases h2 : a = sha256L
    · subst h2
      go_enter Tryz.func195, Tryz.ntmps195
      go_wp2
      go_ret
      exact ⟨rfl, rfl⟩
    · by_cases h0 : a = h1L
      · subst h0
        go_enter Tryz.func195, Tryz.ntmps195
        go_wp2
        go_ret
        exact ⟨rfl, rfl⟩
      · by_cases h3 : a = sha512L
        · subst h3
          go_enter Tryz.func195, Tryz.ntmps195
          go_wp2
          go_ret
          exact ⟨rfl, rfl⟩
        · have HX : Hid (sizeI a = 0) := Lib.hid (by unfold sizeI longI; rw [if_neg h1, if_neg h2, if_neg h0, if_neg h3]; rfl)
          have q1 : (a == [115, 104, 97, 49]) = false := by simpa [sha1L] using h1
          have q2 : (a == [115, 104, 97, 50, 53, 54]) = false := by simpa [sha256L] using h2
          have q3 : (a == [104, 49]) = false := by simpa [h1L] using h0
          have q4 : (a == [115, 104, 97, 53, 49, 50]) = false := by simpa [sha512L] using h3
          clear h1 h2 h0 h3
          go_enter Tryz.func195, Tryz.ntmps195
          go_wp2
          go_ret
          exact ⟨ret_int HX.out.symm, rfl⟩

set_option maxRecDepth 100000 in
set_option maxHeartbeats 4000000 in
theorem sumsOkG_any (v : Value) (bs : List Bd) (w : World) (ha : RdB w v bs) (hn : bs.length ≤ 1048577) (hsm : ∀ b ∈ bs, b.2.length ≤ 1048577) :
    Calls Tryz.prog 151 #[v] w fun e w' => e = .returned (.bool (sumsOkL bs)) ∧ Below w.heap.size w w' := by
  have HA := Lib.hid ha
  have HSM := Lib.hid hsm
  obtain ⟨A, ca, rfl, _⟩ := ha
  obtain ⟨r, HR⟩ : ∃ r, Hid (sumsOkL bs = r) := ⟨_, Lib.hid rfl⟩
  rw [HR.out]
  clear hsm
  go_enter Tryz.func151, Tryz.ntmps151
  go_wp2_with fail
  go_loopw [3, 4, 5, 8] (fun _ _ _ i wr => ∃ k : Nat, k ≤ bs.length ∧ i = .int .i64 k ∧ Hid (sumsTo bs k = true) ∧ Below w.heap.size w wr) (fun _ _ _ i _ => bs.length - (intOf i).toNat)
  case atStart => exact ⟨0, Nat.zero_le _, rfl, Lib.hid rfl, Below.refl _ _⟩
  case round =>
    obtain ⟨k, hk, rfl, HT, hbr⟩ := hrel
    by_cases hlt : k < bs.length
    · have k0 : (0 : Int) ≤ (k : Int) := by omega
      have k1 : (k : Int) < (bs.length : Int) := by omega
      have hbl : bs[k].2.length ≤ 1048577 := HSM.out bs[k] (List.getElem_mem hlt)
      obtain ⟨g, off, rfl, hgl, d1, d2⟩ := (HA.out.below hbr).at k hlt
      have HL := Lib.hid (fun W => sumSize_any bs[k].1 W)
      have hlb := longI_bd bs[k].1
      have HQ := Lib.hid (fun (h : sumAt bs k = false) => (show r = false by rw [← HR.out, sums_bad hlt h]))
      have HSB := Lib.hid (size_bad (a := bs[k].1))
      have HSG := Lib.hid (size_good (a := bs[k].1))
      obtain ⟨u, HU⟩ : ∃ u, Hid (longI bs[k].1 = u) := ⟨_, Lib.hid rfl⟩
      obtain ⟨sz, HSZ⟩ : ∃ u, Hid (sizeI bs[k].1 = u) := ⟨_, Lib.hid rfl⟩
      simp only [HSZ.out] at HL
      rw [HU.out] at hlb
      rw [HSZ.out, HU.out] at HSB HSG
      have HZ0 := Lib.hid (fun (h : k = 0) => (show sumAt bs k = decide (u = (bs[k].2.length : Int)) by subst h; rw [← HU.out]; exact sumAt_zero hlt))
      have HZ1 := Lib.hid (fun (j : Nat) (h : k = j + 1) => (show sumAt bs k = (decide (u = (bs[k].2.length : Int)) && Op.bytesLess (bs[j]'(by omega)).1 bs[k].1) by subst h; rw [← HU.out]; exact sumAt_more hlt))
      have HTT := Lib.hid (fun (h : sumAt bs k = true) => sums_step HT.out h)
      have HAR := Lib.hid (HA.out.below hbr)
      obtain ⟨al, HAL⟩ : ∃ al, Hid (bs[k].1 = al) := ⟨_, Lib.hid rfl⟩
      obtain ⟨by_, HBY⟩ : ∃ by_, Hid (bs[k].2 = by_) := ⟨_, Lib.hid rfl⟩
      rw [HAL.out] at d1
      rw [HBY.out] at d2 hbl
      simp only [HAL.out] at HL HZ1
      simp only [HBY.out] at HZ0 HZ1
      have B1 : Below w.heap.size w (wr.alloc (.cells #[.string ⟨al.toArray⟩, .string ⟨by_.toArray⟩] 136)) := hbr.alloc hbr.size _
      have HBAD : Hid (¬ u = (by_.length : Int) → r = false) := Lib.hid (fun hq => by
        apply HQ.out
        by_cases hz : k = 0
        · rw [HZ0.out hz]; exact decide_eq_false hq
        · rw [HZ1.out (k - 1) (by omega), decide_eq_false hq]; rfl)
      by_cases hs0 : sz = 0
      · have HX : Hid (r = false) := Lib.hid (HBAD.out (HSB.out hs0 _))
        have q0 : (sz == 0) = true := int_beq_true hs0
        clear hs0 HQ HZ0 HZ1 HTT HAR HBAD HSB HSG
        go_wp2_with fail
        refine (HL.out _).mono ?_
        rintro e w1 ⟨rfl, rfl⟩
        go_wp2_with fail
        go_quiet (fail)
        go_wp2_with fail
        go_ret
        exact ⟨ret_bool HX.out.symm, B1.trans (below_drewN _ _ _)⟩
      · have q0 : (sz == 0) = false := int_beq_false hs0
        have hsu := HSG.out hs0
        by_cases hq : u = (by_.length : Int)
        · have q1 : ((by_.length : Int) != sz) = false := int_bne_false (by omega)
          by_cases hz : k = 0
          · have HN2 := Lib.hid (HTT.out (by rw [HZ0.out hz]; exact decide_eq_true hq))
            have g0 : ¬ (0 : Int) < (k : Int) := by omega
            have g1 : decide (0 < k) = false := by simp; omega
            clear hs0 hsu hq hz HQ HZ0 HZ1 HTT HAR HBAD HSB HSG
            go_wp2_with fail
            refine (HL.out _).mono ?_
            rintro e w1 ⟨rfl, rfl⟩
            go_wp2_with fail
            go_quiet (fail)
            go_wp2_with fail
            go_roundw
            case rel => exact ⟨k + 1, by omega, by go_num, HN2, B1.trans (below_drewN _ _ _)⟩
            case measure => simp [intOf]; omega
          · obtain ⟨j, hj⟩ : ∃ j, k = j + 1 := ⟨k - 1, by omega⟩
            have HZ2 := Lib.hid (HZ1.out j hj)
            have hjl : j < bs.length := by omega
            obtain ⟨g', off', hge, _, e1, e2⟩ := HAR.out.at j hjl
            clear e2
            simp only [Option.some.injEq, Addr.mk.injEq, and_true] at hge
            obtain ⟨rfl, rfl⟩ := hge
            have jw : IntKind.i64.wrap ((k : Int) - 1) = (j : Int) := by rw [show (k : Int) - 1 = (j : Int) by omega]; exact IntWalk.i64_in _ (by omega)
            have g0 : (0 : Int) < (k : Int) := by omega
            have g1 : decide (0 < k) = true := by simp; omega
            have j0 : (0 : Int) ≤ (j : Int) := by omega
            have j1 : (j : Int) < (bs.length : Int) := by omega
            obtain ⟨pr, HPR⟩ : ∃ pr, Hid (bs[j].1 = pr) := ⟨_, Lib.hid rfl⟩
            rw [HPR.out] at e1 HZ2
            have e1' := keepC ((Below.refl _ wr).alloc (Nat.le_refl _) (.cells #[.string ⟨al.toArray⟩, .string ⟨by_.toArray⟩] 136)) e1
            cases hl : Op.bytesLess pr al with
            | true =>
              have HN2 := Lib.hid (HTT.out (by rw [HZ2.out, hl, decide_eq_true hq]; rfl))
              clear hs0 hsu hq hz HQ HZ0 HZ1 HTT hj HZ2 HAR HBAD HSB HSG
              go_wp2_with fail
              refine (HL.out _).mono ?_
              rintro e w1 ⟨rfl, rfl⟩
              go_wp2_with fail
              go_quiet (fail)
              go_wp2_with fail
              go_roundw
              case rel => exact ⟨k + 1, by omega, by go_num, HN2, B1.trans (below_drewN _ _ _)⟩
              case measure => simp [intOf]; omega
            | false =>
              have HX := Lib.hid (HQ.out (by rw [HZ2.out, hl, Bool.and_false]))
              clear hs0 hsu hq hz HQ HZ0 HZ1 HTT hj HZ2 HAR HBAD HSB HSG
              go_wp2_with fail
              refine (HL.out _).mono ?_
              rintro e w1 ⟨rfl, rfl⟩
              go_wp2_with fail
              go_quiet (fail)
              go_wp2_with fail
              go_ret
              exact ⟨ret_bool HX.out.symm, B1.trans (below_drewN _ _ _)⟩
        · have q1 : ((by_.length : Int) != sz) = true := int_bne_true (by omega)
          have HX : Hid (r = false) := Lib.hid (HBAD.out hq)
          clear hs0 hsu hq HQ HZ0 HZ1 HTT HAR HBAD HSB HSG
          go_wp2_with fail
          refine (HL.out _).mono ?_
          rintro e w1 ⟨rfl, rfl⟩
          go_wp2_with fail
          go_quiet (fail)
          go_wp2_with fail
          go_ret
          exact ⟨ret_bool HX.out.symm, B1.trans (below_drewN _ _ _)⟩
    · have HOK : Hid (r = true) := Lib.hid (by rw [← HR.out, sums_end HT.out (by omega)])
      go_wp2_with fail
      go_ret
      exact ⟨ret_bool HOK.out.symm, hbr⟩
theorem sumsOk_any (v : Value) (bs : List Bd) (w : World) (ha : RdB w v bs) (hsm : SmB bs) :
    Calls Tryz.prog 151 #[v] w fun e w' => e = .returned (.bool (sumsOkL bs)) ∧ Below w.heap.size w w' := by
  unfold SmB at hsm
  exact sumsOkG_any v bs w ha (by omega) (fun b hb => by have := smB_mem b hb; omega)
end Go.Proofs.YtnodhkjgnegkcaaGreatDoor

/-
  impl.GetIntegrity hands back the list of right sums whose text a text is, or none.
-/
namespace Go.Proofs.YtnodhkjgnegkcaaGreatDoor
open Go.RowKit

/-- How much a cursor has still to read. -/
def restOf (w : World) (q : Nat) : Nat := match w.cell? ⟨q, 0, none⟩ with
  | some (.string b) => b.size
  | _ => 0
theorem restOf_is {w : World} {q : Nat} {T : TypeId} {l : List UInt8} (h : w.heap[q]? = some (.cells #[.string ⟨l.toArray⟩] T)) : restOf w q = l.length := by
  unfold restOf; rw [cells1 h]; show l.toArray.size = _; simp

theorem implGetBase64_is (l : List UInt8) (w : World) (hl : l.length ≤ 1048576) :
    Calls Tryz.prog 194 #[.string ⟨l.toArray⟩] w fun e w' => e = .returned (.tuple #[.string ⟨(getB l).1.toArray⟩, .bool (getB l).2]) ∧ Below w.heap.size w w' := by
  have h := implGetBase64_any ⟨l.toArray⟩ w (by show l.toArray.size ≤ _; simp; omega)
  have hj : getI l (Lib.trimRightB l 61) = getB l := get_join _ _ rfl
  have hd : (⟨l.toArray⟩ : ByteArray).data.toList = l := by simp
  rw [hd, hj] at h
  exact h

/-- What a reader of sums knows with rest before it and out behind it. -/
def SumAt (R rest : List UInt8) (out : List Bd) : Prop := sumsI R = out ++ sumsI rest ∧ out.length + rest.length ≤ R.length
theorem sumAt_start (R : List UInt8) : SumAt R R [] := ⟨by simp, by simp⟩
theorem sumAt_end {R : List UInt8} {out : List Bd} (h : SumAt R [] out) : sumsI R = out := by rw [h.1, sumsI_nil]; simp
theorem sumAt_step {R rest : List UInt8} {out : List Bd} (h : SumAt R rest out) (hn : rest ≠ []) : SumAt R (cutB 32 rest) (out ++ [wordR (cutA 32 rest)]) := by
  have d := cutB_lt 32 hn
  refine ⟨?_, by have := h.2; simp; omega⟩
  rw [h.1]
  unfold sumsI
  rw [sumsR_step hn (Nat.le_refl _), sumsR_more (rest.length - 1) (cutB 32 rest).length _ (by omega) (Nat.le_refl _)]
  simp
theorem sumsI_small (R : List UInt8) : (sumsI R).length ≤ R.length ∧ ∀ b ∈ sumsI R, b.2.length ≤ R.length := by
  refine ⟨sumsR_len _ _, ?_⟩
  unfold sumsI
  rw [sumsR_map]
  intro b hb
  obtain ⟨p, hp, rfl⟩ := List.mem_map.1 hb
  have h1 := word_le p
  have h2 := smL_mem p hp
  have h3 := (curW_len R.length R).1
  omega

theorem gr_new {w W V : World} {r : Option Nat} {B : Nat} (h : w.grownBy W r) (hg : W.grownBy V (some B)) (hB : w.heap.size ≤ B) : w.grownBy V r :=
  ⟨hg.os.trans h.os, hg.tape.trans h.tape, hg.output.trans h.output, Nat.le_trans h.size hg.size, fun k hk hn => (hg.block k (Nat.lt_of_lt_of_le hk h.size) (by simp; omega)).trans (h.block k hk hn)⟩

set_option maxRecDepth 100000 in
set_option maxHeartbeats 1000000 in
theorem sum_any (q : Nat) (T : TypeId) (l : List UInt8) (w : World) (hl : l.length ≤ 1048576) (hq : w.heap[q]? = some (.cells #[.string ⟨l.toArray⟩] T)) :
    Calls Tryz.prog 150 #[.pointer (some ⟨q, 0, none⟩)] w fun e w' => e = .returned (.agg #[.string ⟨(wordR (cutA 32 l)).1.toArray⟩, .string ⟨(wordR (cutA 32 l)).2.toArray⟩]) ∧ w'.heap[q]? = some (.cells #[.string ⟨(cutB 32 l).toArray⟩] T) ∧ w.grownBy w' (some q) := by
  have hqs := lt_of_heap hq
  have hq0 := keepA hq (.cells #[.string ⟨#[]⟩, .string ⟨#[]⟩] 136)
  have HU := Lib.hid (upToOne_any q T l 32 _ hl hq0)
  have hal : (cutA 32 l).length ≤ l.length := by have := cut_len 32 l; omega
  have HWR : Hid (wordR (cutA 32 l) = (cutA 45 (cutA 32 l), (getB (cutB 45 (cutA 32 l))).1)) := Lib.hid rfl
  rw [HWR.out]
  obtain ⟨p, HP⟩ : ∃ p, Hid (cutA 32 l = p) := ⟨_, Lib.hid rfl⟩
  rw [HP.out] at HU hal
  rw [HP.out]
  obtain ⟨r, HR⟩ : ∃ r, Hid (cutB 32 l = r) := ⟨_, Lib.hid rfl⟩
  rw [HR.out] at HU
  rw [HR.out]
  have hbl : (cutB 45 p).length ≤ p.length := cutB_le 45 p
  have HU2 := Lib.hid (fun (B : Nat) (W : World) (h : W.heap[B]? = some (.cells #[.string ⟨p.toArray⟩] 181)) => upToOne_any B 181 p 45 W (by omega) h)
  have HG := Lib.hid (fun W => implGetBase64_is (cutB 45 p) W (by omega))
  have hca : (cutA 45 p).length ≤ p.length := by have := cut_len 45 p; omega
  have HC := Lib.hid (fun W => clone_any ⟨(cutA 45 p).toArray⟩ W (by show (cutA 45 p).toArray.size ≤ _; simp; omega))
  obtain ⟨a, HA⟩ : ∃ a, Hid (cutA 45 p = a) := ⟨_, Lib.hid rfl⟩
  obtain ⟨b, HB⟩ : ∃ b, Hid (cutB 45 p = b) := ⟨_, Lib.hid rfl⟩
  simp only [HA.out, HB.out] at HU2 HG HC
  rw [HA.out, HB.out]
  rcases hgb : getB b with ⟨by_, okb⟩
  rw [hgb] at HG
  have h0 := heap_alloc_new w (.cells #[.string ⟨#[]⟩, .string ⟨#[]⟩] 136)
  clear hgb hq hq0
  go_enter Tryz.func150, Tryz.ntmps150
  go_wp2_with fail
  refine HU.out.mono ?_
  rintro e w1 ⟨rfl, hu1⟩
  have h1 := gr_heap hu1.2.1 h0 (by simp; omega)
  have hq1 := hu1.1
  have hg1 : w.grownBy w1 (some q) := gr_trans (gr_alloc w _ _) hu1.2.1
  have hs1 : w.heap.size < w1.heap.size := by have := hu1.2.2; simp at this; omega
  have b1 := heap_alloc_new w1 (.cells #[.string ⟨p.toArray⟩] 181)
  have h1a := keepA h1 (.cells #[.string ⟨p.toArray⟩] 181)
  have hq1a := keepA hq1 (.cells #[.string ⟨p.toArray⟩] 181)
  have hg1a : w.grownBy (w1.alloc (.cells #[.string ⟨p.toArray⟩] 181)) (some q) := gr_trans hg1 (gr_alloc w1 _ _)
  clear hu1 h0
  go_wp2_with fail
  refine (HU2.out _ _ b1).mono ?_
  rintro e w2 ⟨rfl, hu2⟩
  have h2 := gr_heap hu2.2.1 h1a (by simp; omega)
  have hq2 := gr_heap hu2.2.1 hq1a (by simp; omega)
  have hg2 := gr_new hg1a hu2.2.1 (by omega)
  have c2 := cells1 hu2.1
  clear hu2 h1 hq1 hg1 b1 h1a hq1a hg1a
  go_wp2_with fail
  refine (HG.out _).mono ?_
  rintro e w3 ⟨rfl, hb3⟩
  have h3 := keepB h2 hb3
  have hq3 := keepB hq2 hb3
  have hg3 := gr_trans hg2 (gr_below hb3)
  clear h2 hq2 hg2 hb3 c2
  go_wp2_with fail
  refine (HC.out _).mono ?_
  rintro e w4 ⟨rfl, hb4⟩
  have h4 := keepB h3 hb4
  have hq4 := keepB hq3 hb4
  have hg4 := gr_trans hg3 (gr_below hb4)
  obtain ⟨c0, c1, f0⟩ := cellsD h4
  have hne : w.heap.size ≠ q := by omega
  clear h3 hq3 hg3 hb4
  go_wp2_with fail
  refine bodyPost_ret (v := .agg #[.string ⟨a.toArray⟩, .string ⟨by_.toArray⟩]) ?_ rfl ⟨rfl, ?_, ?_⟩
  · simp [results, Tryz.results150, go_sem, c0, c1]
  · exact heap_other (heap_other hq4 _ hne) _ hne
  · exact gr_new (gr_new hg4 (gr_set _ w.heap.size 0 _) (Nat.le_refl _)) (gr_set _ w.heap.size 1 _) (Nat.le_refl _)

set_option maxRecDepth 100000 in
set_option maxHeartbeats 2000000 in
theorem implGetIntegrity_any (l : List UInt8) (w : World) (hl : l.length ≤ 1048576) :
    Calls Tryz.prog 96 #[.string ⟨l.toArray⟩] w (GiIs w l) := by
  have HNO := Lib.hid (fun (n : Nat) (w' : World) (hn : w'.heap.size = n) (h : getIntOk l = false) (hb : Below w.heap.size w w') => giIs_no (l := l) n hn h hb)
  have HYES := Lib.hid (fun (w' : World) (v : Value) (out : List Bd) (h : getIntOk l = true) (ho : out = sumsI l) (hS : Sums w' w.heap.size v out) (hb : Below w.heap.size w w') => giIs_yes (l := l) h ho hS hb)
  have HSM := Lib.hid (sumsI_small l)
  have HSB := Lib.hid (sumsI_sm hl)
  have HGO : Hid (getIntOk l = (sumsOkL (sumsI l) && (intT (sumsI l) == l))) := Lib.hid rfl
  have hlen : l.length ≤ 1048576 := hl
  have S0 : Sums ((w.alloc (.cells #[] 136)).alloc (.cells #[.string ⟨l.toArray⟩] 183)) w.heap.size (.slice (some ⟨w.heap.size, 0, none⟩) 0 0) [] := (Sums.emptyAt w _ _ rfl (Nat.le_refl _)).alloc _
  have B0 : Below w.heap.size w ((w.alloc (.cells #[] 136)).alloc (.cells #[.string ⟨l.toArray⟩] 183)) := ((Below.refl _ _).alloc (Nat.le_refl _) _).alloc (by simp) _
  have q0 : ((w.alloc (.cells #[] 136)).alloc (.cells #[.string ⟨l.toArray⟩] 183)).heap[w.heap.size + 1]? = some (.cells #[.string ⟨l.toArray⟩] 183) := heap_new (by simp) _
  go_enter Tryz.func96, Tryz.ntmps96
  go_wp2_with fail
  go_loopw [4] (fun u wr => ∃ (rest : List UInt8) (out : List Bd), Sums wr w.heap.size u out ∧ (∀ g, u.ownBlock = some g → g ≠ w.heap.size + 1) ∧ wr.heap[w.heap.size + 1]? = some (.cells #[.string ⟨rest.toArray⟩] 183) ∧ Below w.heap.size w wr ∧ SumAt l rest out) (fun _ wr => restOf wr (w.heap.size + 1))
  case atStart => exact ⟨l, [], S0, fun g hg => by simp only [Value.ownBlock, Option.some.injEq] at hg; omega, q0, B0, sumAt_start l⟩
  case round =>
    obtain ⟨rest, out, hS, hne, hq, hb, HK⟩ := hrel
    clear S0 B0 q0
    have hrl : rest.length ≤ 1048576 := by have := HK.2; omega
    have hol : out.length + rest.length ≤ 1048576 := by have := HK.2; omega
    have HD := Lib.hid (done_any (w.heap.size + 1) 183 rest wr hq)
    by_cases hn : rest = []
    · subst hn
      have hoI := sumAt_end HK
      have HT : Hid (out = sumsI l) := Lib.hid hoI.symm
      rw [hoI] at HSM HSB HGO
      have HR := Lib.hid (fun (W : World) (v : Value) (h : RdB W v out) => sumsOkG_any v out W h (by have := HSM.out.1; omega) (fun b hb => by have := HSM.out.2 b hb; omega))
      have HP := Lib.hid (fun (W : World) (v : Value) (h : RdB W v out) (hk : sumsOkL out = true) => implPutIntegrity_any v out W h (HSB.out hk))
      obtain ⟨a, HA⟩ : ∃ a, Hid (sumsOkL out = a) := ⟨_, Lib.hid rfl⟩
      obtain ⟨t, HTT⟩ : ∃ t, Hid (intT out = t) := ⟨_, Lib.hid rfl⟩
      simp only [HA.out] at HR HP HGO
      simp only [HTT.out] at HP HGO
      obtain ⟨U, cu, rfl⟩ := hS.slice
      clear HK hoI HSM HSB
      cases a with
      | false =>
        have HF : Hid (getIntOk l = false) := Lib.hid (by rw [HGO.out]; rfl)
        go_wp2_with fail
        refine HD.out.mono ?_
        rintro e w1 ⟨rfl, rfl⟩
        go_wp2_with fail
        refine (HR.out _ _ (RdB.of_sums hS)).mono ?_
        rintro e w2 ⟨rfl, hb2⟩
        go_wp2_with fail
        go_ret2
        exact HNO.out _ _ rfl HF.out (hb.trans (hb2.mono hb.size))
      | true =>
        go_wp2_with fail
        refine HD.out.mono ?_
        rintro e w1 ⟨rfl, rfl⟩
        go_wp2_with fail
        refine (HR.out _ _ (RdB.of_sums hS)).mono ?_
        rintro e w2 ⟨rfl, hb2⟩
        have B2 := hb.trans (hb2.mono hb.size)
        have S2 := hS.below hb2
        go_wp2_with fail
        refine (HP.out _ _ (RdB.of_sums S2) trivial).mono ?_
        rintro e w3 ⟨rfl, hb3⟩
        have B3 := B2.trans (hb3.mono B2.size)
        have S3 := S2.below hb3
        by_cases ht : t = l
        · have HF : Hid (getIntOk l = true) := Lib.hid (by rw [HGO.out, ht]; simp)
          have q1 : (t == l) = true := by rw [ht]; simp
          clear ht
          go_wp2_with fail
          go_ret2
          exact HYES.out _ _ out HF.out HT.out S3 B3
        · have q1 : (t == l) = false := by simpa using ht
          have HF : Hid (getIntOk l = false) := Lib.hid (by rw [HGO.out, q1]; rfl)
          clear ht
          go_wp2_with fail
          go_ret2
          exact HNO.out _ _ rfl HF.out B3
    · have HE := Lib.hid (sumAt_step HK hn)
      have hne1 : rest.isEmpty = false := by cases rest <;> simp_all
      have hlt := cutB_lt 32 hn
      have HX := Lib.hid (restOf_is hq)
      have HS := Lib.hid (sum_any (w.heap.size + 1) 183 rest wr hrl hq)
      have hws : w.heap.size < wr.heap.size := by have := lt_of_heap hq; omega
      have hrne : 1 ≤ rest.length := by cases rest <;> simp_all
      have HOW := Lib.hid hS.owned
      rcases hw : wordR (cutA 32 rest) with ⟨x1, x2⟩
      rw [hw] at HE HS
      obtain ⟨rb, HRB⟩ : ∃ rb, Hid (cutB 32 rest = rb) := ⟨_, Lib.hid rfl⟩
      rw [HRB.out] at HE HS hlt
      clear hn hw HK HSM HSB HGO HNO HYES
      go_wp2_with fail
      refine HD.out.mono ?_
      rintro e w1 ⟨rfl, rfl⟩
      go_wp2_with fail
      refine HS.out.mono ?_
      rintro e w2 ⟨rfl, hq2, hg2⟩
      have S2 := hS.grown hg2 (fun g hg e => hne g hg (by cases e; rfl))
      have B2 := hb.grown hg2 hb.size (fun j hj => by cases hj; omega)
      have hs2 : w.heap.size ≤ w2.heap.size := B2.size
      have hl2 := lt_of_heap hq2
      clear hS hb hg2 hq
      go_wp2_with (at_builtin; refine wpList_append_sums rfl _ _ rfl w.heap.size _ _ rfl (S2.alloc _) (x1, x2) w2.heap.size 1 _ _ rfl (heap_alloc_new w2 _) (by omega) (by simp; omega) ?_; intro g4 c4 w4 S4 hg4 hl4)
      have B4 := (B2.alloc hs2 _).grown hg4 (by simp; omega) (fun j hj => HOW.out j hj)
      have hq4 := gr_heap hg4 (keepA hq2 (.cells #[.string ⟨x1.toArray⟩, .string ⟨x2.toArray⟩] 136)) (fun e => hne _ e.symm rfl)
      have HY := Lib.hid (restOf_is hq4)
      go_roundw
      case rel =>
        refine ⟨rb, out ++ [(x1, x2)], by simpa using S4, ?_, hq4, B4, HE.out⟩
        intro g hg
        simp only [Value.ownBlock, Option.some.injEq] at hg
        subst hg
        rcases hl4 with hl4 | hl4
        · exact hne _ hl4
        · rw [hl4]; simp; omega
      case measure => rw [HX.out, HY.out]; omega
end Go.Proofs.YtnodhkjgnegkcaaGreatDoor

/-
  For every string of at most maxLen bytes, impl.PlainOk and spec.PlainOk both return whether all bytes are plain and there are at most 100.
-/
namespace Go.Proofs.YtnodhkjgnegkcaaGreatDoor
open Go.RowKit

set_option maxHeartbeats 1000000 in
theorem implPlainOk_any (s : ByteArray) (w : World) (hs : s.size ≤ maxLen) :
    Calls Tryz.prog 98 #[.string s] w fun e w' => e = .returned (.bool (plainL s.data.toList)) ∧ w = w' := by
  unfold maxLen at hs
  by_cases hl : 100 < s.size
  · go_enter Tryz.func98, Tryz.ntmps98
    go_wp2
    go_ret
    refine ⟨ret_bool ?_, rfl⟩
    unfold plainL; simp; intro _; exact hl
  · go_enter Tryz.func98, Tryz.ntmps98
    go_wp2
    go_loop [3, 4, 10] (fun _ _ n => ∃ k : Nat, k ≤ s.size ∧ n = .int .i64 k ∧ Hid ((s.data.toList.take k).all plainB = true)) (fun _ _ n => s.size - (intOf n).toNat)
    case atStart => exact ⟨0, Nat.zero_le _, rfl, Lib.hid (by simp)⟩
    case round =>
      obtain ⟨k, hk, rfl, H⟩ := hrel
      by_cases hlt : k < s.size
      · rcases plain_ways s[k] with h | h | h | h | h | h | h
        case inr.inr.inr.inr.inr.inr =>
          obtain ⟨h1, h2, h3, h4, h5, h6⟩ := plain_yes h
          have HH := Lib.hid h
          clear h
          go_wp2
          go_round
          case rel => exact ⟨k + 1, by omega, by go_num, Lib.hid (all_step s k _ hlt H.out HH.out)⟩
          case measure => simp [intOf]; omega
        all_goals
          have HH := Lib.hid (plain_bad s k hlt (plain_not (by omega)))
          go_wp2
          go_ret
          exact ⟨ret_bool HH.out.symm, rfl⟩
      · go_wp2
        go_ret
        refine ⟨ret_bool ?_, rfl⟩
        have := H.out
        rw [take_end s k hlt] at this
        unfold plainL; rw [this]; simp; omega

end Go.Proofs.YtnodhkjgnegkcaaGreatDoor

/-
  A region that draws its order, whose operations only read and whose callees only make memory: one walk in the order of the text, in the class of all worlds that have grown from here.
-/
namespace Go.Proofs.YtnodhkjgnegkcaaGreatDoor
open Go.RowKit

/-- A world that has grown from w. -/
structure Fut (w : World) where
  out : World
  bel : Below w.heap.size w out
instance (w : World) : Nonempty (Fut w) := ⟨⟨w, Below.refl _ _⟩⟩
theorem fut_cell {w : World} {A o : Nat} {v : Value} (h : w.cell? ⟨A, o, none⟩ = some v) (F : Fut w) : F.out.cell? ⟨A, o, none⟩ = some v := keepC F.bel h
theorem fut_call {P : Program} {f : FuncId} {args : Array Value} {w : World} {F : Fut w} {v : Value}
    (h : Calls P f args F.out fun e w' => e = .returned v ∧ Below F.out.heap.size F.out w') : Calls P f args F.out fun e w'' => e = .returned v ∧ ∃ F' : Fut w, w'' = F'.out :=
  h.mono fun _ _ ⟨he, hb⟩ => ⟨he, ⟨_, F.bel.trans (hb.mono F.bel.size)⟩, rfl⟩
theorem wp_region_fut {P : Program} {id : Nat} {Q : Exit → Act → World → Prop} {a : Act} {w : World} {l : List Oper} (hm : P.follows .mixedOrders = true) (hB : Region.lexB .any l.toArray = true)
    (h : wpQuiet P l.toArray (fun w' => ∃ F : Fut w, w' = F.out) (fun a' => ∀ w', (∃ F : Fut w, w' = F.out) → Q .normal a' w') l a) : (Code.region id l.toArray true).wp P Q a w :=
  wp_region_quiet (C := fun w' => ∃ F : Fut w, w' = F.out) hm hB ⟨⟨_, below_drew _ w⟩, rfl⟩ (by simpa using h)
end Go.Proofs.YtnodhkjgnegkcaaGreatDoor

/-
  impl.needsOk, impl.headsOk, impl.entryOk: whether an entry is right.
-/
namespace Go.Proofs.YtnodhkjgnegkcaaGreatDoor
open Go.RowKit

theorem needs_bad {ns : List Bd} {k : Nat} (hk : k < ns.length) (h : ndAtB ns k = false) : needsOkL ns = false := allTo_bad hk h
theorem heads_bad {ver : List UInt8} {hs : List Bd} {k : Nat} (hk : k < hs.length) (h : hdAtB ver hs k = false) : headsOkL ver hs = false := by
  unfold headsOkL; rw [allTo_bad hk h, Bool.and_false]

set_option maxRecDepth 100000 in
set_option maxHeartbeats 8000000 in
theorem needsOk_any (v : Value) (ns : List Bd) (q : Int) (w : World) (hr : RdB w v ns) (hs : ns.length + smB ns ≤ 1048576) (ht : Tab w) (hq : w.cell? ⟨0, 0, none⟩ = some (.int .i64 q)) :
    Calls Tryz.prog 99 #[v] w fun x w' => x = .returned (.bool (needsOkL ns)) ∧ Below w.heap.size w w' := by
  have HB := Lib.hid hr
  have HMN : Hid (∀ b ∈ ns, b.1.length ≤ 1048576 ∧ b.2.length ≤ 1048576) := Lib.hid (fun b hb => by have := smB_mem b hb; omega)
  have hnn : ns.length ≤ 1048576 := by omega
  have HND := Lib.hid (fun (b : Bd) (W : World) (h : Below w.heap.size w W) (h2 : b.2.length ≤ 1048576) => needOk_any ⟨b.1.toArray⟩ ⟨b.2.toArray⟩ q W (by rw [size_of]; exact h2) (tab_below ht h) (keepC h hq))
  obtain ⟨B, cb, rfl⟩ := rdB_slice hr
  obtain ⟨r, HR⟩ : ∃ r, Hid (needsOkL ns = r) := ⟨_, Lib.hid rfl⟩
  rw [HR.out]
  clear hr hs ht hq
  go_enter Tryz.func99, Tryz.ntmps99
  go_wp2_with fail
  go_loopw [3, 4, 7] (fun _ _ i wr => ∃ m : Nat, m ≤ ns.length ∧ i = .int .i64 m ∧ Hid (allTo (ndAtB ns) m = true) ∧ Below w.heap.size w wr) (fun _ _ i _ => ns.length - (intOf i).toNat)
  case atStart => exact ⟨0, Nat.zero_le _, rfl, Lib.hid rfl, Below.refl _ _⟩
  case round =>
    obtain ⟨m, hm, rfl, HU, hb5⟩ := hrel
    by_cases hmt : m < ns.length
    · have HRW := Lib.hid (HB.out.below hb5)
      obtain ⟨g, off, rfl, hg, d0, d1⟩ := RdB.atR HRW.out m hmt
      have hsz := HMN.out _ (List.getElem_mem hmt)
      have HBAD := Lib.hid (fun (h : ndAtB ns m = false) => (show r = false by rw [← HR.out]; exact needs_bad hmt h))
      have HGO := Lib.hid (fun (h : ndAtB ns m = true) => allTo_step HU.out h)
      have HEQ0 := Lib.hid (fun (h : m = 0) => (show ndAtB ns m = ndOk ns[m] by subst h; exact ndAtB_zero hmt))
      have HEQ1 := Lib.hid (fun (j : Nat) (h : m = j + 1) => (show ndAtB ns m = (ndOk ns[m] && Op.bytesLess (ns[j]'(by omega)).1 ns[m].1) by subst h; exact ndAtB_more hmt))
      have k0 : (0 : Int) ≤ (m : Int) := by omega
      have k1 : (m : Int) < (ns.length : Int) := by omega
      obtain ⟨nd, HNDD⟩ : ∃ b, Hid (ndOk ns[m] = b) := ⟨_, Lib.hid rfl⟩
      have HFB := Lib.hid (fun (h : nd = false) => (show ndAtB ns m = false by unfold ndAtB; rw [bdAt_is hmt, HNDD.out, h]; rfl))
      have HDJ := Lib.hid (fun (j : Nat) (h : j < ns.length) => (RdB.atR HRW.out j h))
      simp only [HNDD.out] at HEQ0 HEQ1
      obtain ⟨nk, HKK⟩ : ∃ x, Hid (ns[m].1 = x) := ⟨_, Lib.hid rfl⟩
      obtain ⟨rk, HRK⟩ : ∃ x, Hid (ns[m].2 = x) := ⟨_, Lib.hid rfl⟩
      have hs2 : rk.length ≤ 1048576 := by rw [← HRK.out]; exact hsz.2
      rw [HKK.out] at d0
      rw [HRK.out] at d1
      simp only [HKK.out] at HEQ1
      have BA : Below wr.heap.size wr (wr.alloc (.cells #[.string ⟨nk.toArray⟩, .string ⟨rk.toArray⟩] 65)) := (Below.refl _ _).alloc (Nat.le_refl _) _
      have ba := heap_alloc_new wr (.cells #[.string ⟨nk.toArray⟩, .string ⟨rk.toArray⟩] 65)
      have BW := hb5.trans (BA.mono hb5.size)
      obtain ⟨m0, m1⟩ := cellsG ba
      have HNK2 : Hid (∀ F : Fut (wr.alloc (.cells #[.string ⟨nk.toArray⟩, .string ⟨rk.toArray⟩] 65)), Calls Tryz.prog 154 #[.agg #[.string ⟨nk.toArray⟩, .string ⟨rk.toArray⟩]] F.out fun x w' => x = .returned (.bool nd) ∧ Below F.out.heap.size F.out w') := Lib.hid (fun F => by
        have := HND.out (nk, rk) F.out (BW.trans (F.bel.mono BW.size)) hs2
        rw [← HNDD.out, show ns[m] = (nk, rk) from Prod.ext HKK.out HRK.out]; exact this)
      have e0 := fut_cell m0
      have e1 := fut_cell m1
      have HDF := Lib.hid (fun (j : Nat) (x : List UInt8) (h : wr.cell? ⟨g, off + j * 2, none⟩ = some (.string ⟨x.toArray⟩)) => fut_cell (keepC BA h))
      have HBW := Lib.hid BW
      clear m0 m1 ba BW hsz hs2
      cases nd with
      | false =>
        have HX : Hid (r = false) := Lib.hid (HBAD.out (HFB.out rfl))
        clear HBAD HGO HEQ0 HEQ1 HDJ HFB HDF BA
        go_wp2_with fail
        refine wp_region_fut (by kernel_rfl) (by kernel_rfl) ?_
        repeat (first | go_big_quiet_skip | (go_big_quiet_want; go_big_quiet_op; first | go_big_quiet_on | go_big_quiet_call ((go_at_call 154; exact fut_call (HNK2.out _)))))
        refine wpQuiet_nil ?_
        rintro _ ⟨⟨w3, hb3⟩, rfl⟩
        go_wp2_with fail
        go_ret
        exact ⟨ret_bool HX.out.symm, HBW.out.trans (hb3.mono HBW.out.size)⟩
      | true =>
        by_cases hz : m = 0
        · have g1 : decide ((0 : Int) < (m : Int)) = false := by simp; omega
          have g2 : decide (0 < m) = false := by simp; omega
          have HN2 := Lib.hid (HGO.out (HEQ0.out hz))
          clear HBAD HGO HEQ0 HEQ1 HDJ HFB HDF BA hz
          go_wp2_with fail
          refine wp_region_fut (by kernel_rfl) (by kernel_rfl) ?_
          repeat (first | go_big_quiet_skip | (go_big_quiet_want; go_big_quiet_op; first | go_big_quiet_on | go_big_quiet_call ((go_at_call 154; exact fut_call (HNK2.out _)))))
          refine wpQuiet_nil ?_
          rintro _ ⟨⟨w3, hb3⟩, rfl⟩
          have B3 := HBW.out.trans (hb3.mono HBW.out.size)
          go_wp2_with fail
          go_roundw
          case rel => exact ⟨m + 1, by omega, by go_num, HN2, B3⟩
          case measure => simp [intOf]; omega
        · obtain ⟨j, hj⟩ : ∃ j, m = j + 1 := ⟨m - 1, by omega⟩
          have hjl : j < ns.length := by omega
          obtain ⟨g1', off1, hge, _, dj, _⟩ := HDJ.out j hjl
          simp only [Option.some.injEq, Addr.mk.injEq, and_true] at hge
          obtain ⟨rfl, rfl⟩ := hge
          have HZ2 := Lib.hid (HEQ1.out j hj)
          obtain ⟨pv, HPV⟩ : ∃ x, Hid (ns[j].1 = x) := ⟨_, Lib.hid rfl⟩
          rw [HPV.out] at dj
          rw [HPV.out] at HZ2
          have hp := HDF.out j pv dj
          have jw : IntKind.i64.wrap ((m : Int) - 1) = (j : Int) := by rw [show (m : Int) - 1 = (j : Int) by omega]; exact IntWalk.i64_in _ (by omega)
          have g0 : (0 : Int) < (m : Int) := by omega
          have g1 : decide (0 < m) = true := by simp; omega
          have j0 : (0 : Int) ≤ (j : Int) := by omega
          have j1 : (j : Int) < (ns.length : Int) := by omega
          have HJ := Lib.hid hj
          clear HEQ0 HEQ1 HDJ HFB HDF BA hz hj dj
          cases hl : Op.bytesLess pv nk with
          | false =>
            have HX := Lib.hid (HBAD.out (by rw [HZ2.out, hl]; rfl))
            clear HZ2 HBAD HGO
            go_wp2_with fail
            refine wp_region_fut (by kernel_rfl) (by kernel_rfl) ?_
            repeat (first | go_big_quiet_skip | (go_big_quiet_want; go_big_quiet_op; first | go_big_quiet_on | go_big_quiet_call ((go_at_call 154; exact fut_call (HNK2.out _)))))
            refine wpQuiet_nil ?_
            rintro _ ⟨⟨w3, hb3⟩, rfl⟩
            go_wp2_with fail
            go_ret
            exact ⟨ret_bool HX.out.symm, HBW.out.trans (hb3.mono HBW.out.size)⟩
          | true =>
            have HN2 := Lib.hid (HGO.out (by rw [HZ2.out, hl]; rfl))
            clear HZ2 HBAD HGO
            go_wp2_with fail
            refine wp_region_fut (by kernel_rfl) (by kernel_rfl) ?_
            repeat (first | go_big_quiet_skip | (go_big_quiet_want; go_big_quiet_op; first | go_big_quiet_on | go_big_quiet_call ((go_at_call 154; exact fut_call (HNK2.out _)))))
            refine wpQuiet_nil ?_
            rintro _ ⟨⟨w3, hb3⟩, rfl⟩
            have B3 := HBW.out.trans (hb3.mono HBW.out.size)
            go_wp2_with fail
            go_roundw
            case rel => exact ⟨m + 1, by omega, by go_num, HN2, B3⟩
            case measure => simp [intOf]; omega
    · have HX : Hid (r = true) := Lib.hid (by have := HU.out; rw [show m = ns.length by omega] at this; rw [← HR.out]; exact this)
      have m2 : ¬ (m : Int) < (ns.length : Int) := by omega
      go_wp2_with fail
      go_ret
      exact ⟨ret_bool HX.out.symm, hb5⟩

set_option maxRecDepth 100000 in
set_option maxHeartbeats 8000000 in
theorem headsOk_any (v : Value) (hs : List Bd) (ver : List UInt8) (q : Int) (w : World) (hr : RdB w v hs) (hsm : hs.length + smB hs ≤ 1048576) (hv : ver.length ≤ 1048576) (ht : Tab w) (hq : w.cell? ⟨0, 0, none⟩ = some (.int .i64 q)) :
    Calls Tryz.prog 97 #[v, .string ⟨ver.toArray⟩] w fun x w' => x = .returned (.bool (headsOkL ver hs)) ∧ Below w.heap.size w w' := by
  have HA := Lib.hid hr
  have HMH : Hid (∀ b ∈ hs, b.1.length ≤ 1048576 ∧ b.2.length ≤ 1048576) := Lib.hid (fun b hb => by have := smB_mem b hb; omega)
  have hnh : hs.length ≤ 1048576 := by omega
  have HND := Lib.hid (fun (b : Bd) (W : World) (h : Below w.heap.size w W) (h2 : b.2.length ≤ 1048576) => needOk_any ⟨b.1.toArray⟩ ⟨b.2.toArray⟩ q W (by rw [size_of]; exact h2) (tab_below ht h) (keepC h hq))
  have HRD := Lib.hid (fun (l : List UInt8) (W : World) (h : Below w.heap.size w W) (h2 : l.length ≤ 1048576) => implReadRange_any l q W h2 (tab_below ht h) (keepC h hq))
  have HIN := Lib.hid (fun (W : World) (u : Value) (l : List UInt8) (h : RdB W u (rgB l)) => implIn_any ⟨ver.toArray⟩ u (rgB l) W (by rw [size_of]; exact hv) h (rgB_sm l))
  obtain ⟨A, ca, rfl⟩ := rdB_slice hr
  obtain ⟨r, HR⟩ : ∃ r, Hid (headsOkL ver hs = r) := ⟨_, Lib.hid rfl⟩
  rw [HR.out]
  clear hr hsm hv ht hq
  by_cases h1 : hs.length < 1
  · have HX : Hid (r = false) := Lib.hid (by rw [← HR.out]; unfold headsOkL; rw [decide_eq_false (by omega)]; rfl)
    have q1 : (hs.length : Int) < 1 := by omega
    have q2 : decide (hs.length < 1) = true := decide_eq_true h1
    go_enter Tryz.func97, Tryz.ntmps97
    go_wp2_with fail
    go_ret
    exact ⟨ret_bool HX.out.symm, Below.refl _ _⟩
  by_cases h8 : 8 < hs.length
  · have HX : Hid (r = false) := Lib.hid (by rw [← HR.out]; unfold headsOkL; rw [decide_eq_false (by omega)]; rfl)
    have q1 : ¬ (hs.length : Int) < 1 := by omega
    have q2 : decide (hs.length < 1) = false := decide_eq_false h1
    have q3 : (8 : Int) < (hs.length : Int) := by omega
    have q4 : decide (8 < hs.length) = true := decide_eq_true h8
    go_enter Tryz.func97, Tryz.ntmps97
    go_wp2_with fail
    go_ret
    exact ⟨ret_bool HX.out.symm, Below.refl _ _⟩
  have HLEN : Hid (decide (1 ≤ hs.length ∧ hs.length ≤ 8) = true) := Lib.hid (decide_eq_true (by omega))
  have q1 : ¬ (hs.length : Int) < 1 := by omega
  have q2 : decide (hs.length < 1) = false := decide_eq_false h1
  have q3 : ¬ (8 : Int) < (hs.length : Int) := by omega
  have q4 : decide (8 < hs.length) = false := decide_eq_false h8
  clear h1 h8
  go_enter Tryz.func97, Tryz.ntmps97
  go_wp2_with fail
  clear q1 q2 q3 q4
  go_loopw [5, 6, 7, 8, 19] (fun _ _ _ _ i wr => ∃ k : Nat, k ≤ hs.length ∧ i = .int .i64 k ∧ Hid (allTo (hdAtB ver hs) k = true) ∧ Below w.heap.size w wr) (fun _ _ _ _ i _ => hs.length - (intOf i).toNat)
  case atStart => exact ⟨0, Nat.zero_le _, rfl, Lib.hid rfl, Below.refl _ _⟩
  case round =>
    obtain ⟨k, hk, rfl, HT, hb⟩ := hrel
    by_cases hlt : k < hs.length
    · have HRW := Lib.hid (HA.out.below hb)
      obtain ⟨g, off, rfl, hg, d0, d1⟩ := RdB.atR HRW.out k hlt
      have hsz := HMH.out _ (List.getElem_mem hlt)
      have HBAD := Lib.hid (fun (h : hdAtB ver hs k = false) => (show r = false by rw [← HR.out]; exact heads_bad hlt h))
      have HGO := Lib.hid (fun (h : hdAtB ver hs k = true) => allTo_step HT.out h)
      have HEQ0 := Lib.hid (fun (h : k = 0) => (show hdAtB ver hs k = (ndOk hs[k] && inR ver (rgB hs[k].2)) by subst h; exact hdAtB_zero hlt))
      have HEQ1 := Lib.hid (fun (j : Nat) (h : k = j + 1) => (show hdAtB ver hs k = ((ndOk hs[k] && inR ver (rgB hs[k].2)) && ((hs[j]'(by omega)).1 == hs[k].1 && Op.bytesLess (hs[j]'(by omega)).2 hs[k].2)) by subst h; exact hdAtB_more hlt))
      have HEQB : Hid ((ndOk hs[k] && inR ver (rgB hs[k].2)) = false → hdAtB ver hs k = false) := Lib.hid (fun h => by unfold hdAtB; rw [bdAt_is hlt, h]; rfl)
      have k0 : (0 : Int) ≤ (k : Int) := by omega
      have k1 : (k : Int) < (hs.length : Int) := by omega
      have HDJ := Lib.hid (fun (j : Nat) (h : j < hs.length) => (RdB.atR HRW.out j h))
      obtain ⟨nd, HNDD⟩ : ∃ b, Hid (ndOk hs[k] = b) := ⟨_, Lib.hid rfl⟩
      obtain ⟨ib, HIB⟩ : ∃ b, Hid (inR ver (rgB hs[k].2) = b) := ⟨_, Lib.hid rfl⟩
      have HIN2 : Hid (∀ (W : World) (u : Value), RdB W u (rgB hs[k].2) → Calls Tryz.prog 155 #[.string ⟨ver.toArray⟩, u] W fun x w' => x = .returned (.bool ib) ∧ Below W.heap.size W w') := Lib.hid (fun W u h => by rw [← HIB.out]; exact HIN.out W u _ h)
      simp only [HNDD.out, HIB.out] at HEQ0 HEQ1 HEQB
      obtain ⟨nk, HKK⟩ : ∃ x, Hid (hs[k].1 = x) := ⟨_, Lib.hid rfl⟩
      obtain ⟨rk, HRK⟩ : ∃ x, Hid (hs[k].2 = x) := ⟨_, Lib.hid rfl⟩
      have hs2 : rk.length ≤ 1048576 := by rw [← HRK.out]; exact hsz.2
      rw [HKK.out] at d0
      rw [HRK.out] at d1
      simp only [HKK.out, HRK.out] at HEQ1 HIN2
      have BA : Below wr.heap.size wr (wr.alloc (.cells #[.string ⟨nk.toArray⟩, .string ⟨rk.toArray⟩] 65)) := (Below.refl _ _).alloc (Nat.le_refl _) _
      have ba := heap_alloc_new wr (.cells #[.string ⟨nk.toArray⟩, .string ⟨rk.toArray⟩] 65)
      have BW := hb.trans (BA.mono hb.size)
      obtain ⟨m0, m1⟩ := cellsG ba
      have HRG := Lib.hid (HRD.out rk _ BW hs2)
      have HNK2 : Hid (∀ W, Below w.heap.size w W → Calls Tryz.prog 154 #[.agg #[.string ⟨nk.toArray⟩, .string ⟨rk.toArray⟩]] W fun x w' => x = .returned (.bool nd) ∧ Below W.heap.size W w') := Lib.hid (fun W h => by
        have := HND.out (nk, rk) W h hs2
        rw [← HNDD.out, show hs[k] = (nk, rk) from Prod.ext HKK.out HRK.out]; exact this)
      clear hsz hs2
      go_wp2_with fail
      refine HRG.out.mono ?_
      rintro _ w2 ⟨u, rfl, hBn, hb2⟩
      have B2 := BA.trans (hb2.mono BA.size)
      have b2 := keepB ba hb2
      have hRB := RdB.of_bnds hBn
      obtain ⟨Au, cu, rfl⟩ := rdB_slice hRB
      have BW2 := BW.trans (hb2.mono BW.size)
      obtain ⟨m0, m1⟩ := cellsG b2
      clear ba hb2 hBn BW BA HRG
      cases nd with
      | false =>
        have HX : Hid (r = false) := Lib.hid (HBAD.out (HEQB.out rfl))
        clear HBAD HGO HEQ0 HEQ1 HEQB
        go_wp2_with fail
        refine (HNK2.out _ BW2).mono ?_
        rintro _ w3 ⟨rfl, hb3⟩
        go_wp2_with fail
        go_ret
        exact ⟨ret_bool HX.out.symm, BW2.trans (hb3.mono BW2.size)⟩
      | true =>
        cases ib with
        | false =>
          have HX : Hid (r = false) := Lib.hid (HBAD.out (HEQB.out rfl))
          clear HBAD HGO HEQ0 HEQ1 HEQB
          go_wp2_with fail
          refine (HNK2.out _ BW2).mono ?_
          rintro _ w3 ⟨rfl, hb3⟩
          have B3 := BW2.trans (hb3.mono BW2.size)
          have hRB3 := hRB.below hb3
          go_wp2_with fail
          refine (HIN2.out _ _ hRB3).mono ?_
          rintro _ w4 ⟨rfl, hb4⟩
          go_wp2_with fail
          go_ret
          exact ⟨ret_bool HX.out.symm, B3.trans (hb4.mono B3.size)⟩
        | true =>
          go_wp2_with fail
          refine (HNK2.out _ BW2).mono ?_
          rintro _ w3 ⟨rfl, hb3⟩
          have B3 := BW2.trans (hb3.mono BW2.size)
          have hRB3 := hRB.below hb3
          have B23 := B2.trans (hb3.mono B2.size)
          have b3 := keepB b2 hb3
          clear hb3 BW2 hRB B2 b2
          go_wp2_with fail
          refine (HIN2.out _ _ hRB3).mono ?_
          rintro _ w4 ⟨rfl, hb4⟩
          have B4 := B3.trans (hb4.mono B3.size)
          have B24 := B23.trans (hb4.mono B23.size)
          have b4 := keepB b3 hb4
          obtain ⟨n0, n1⟩ := cellsG b4
          have e0 := fut_cell n0
          have e1 := fut_cell n1
          clear hb4 B3 B23 b3 hRB3 m0 m1 n0 n1
          by_cases hz : k = 0
          · have g1 : decide ((0 : Int) < (k : Int)) = false := by simp; omega
            have g2 : decide (0 < k) = false := by simp; omega
            have HN2 := Lib.hid (HGO.out (HEQ0.out hz))
            clear HBAD HGO HEQ0 HEQ1 HEQB HDJ hz
            go_wp2_with fail
            refine wp_region_fut (by kernel_rfl) (by kernel_rfl) ?_
            repeat (first | go_big_quiet_skip | (go_big_quiet_want; go_big_quiet_op; go_big_quiet_on))
            refine wpQuiet_nil ?_
            rintro _ ⟨⟨w5, hb5⟩, rfl⟩
            have B5 := B4.trans (hb5.mono B4.size)
            go_wp2_with fail
            go_roundw
            case rel => exact ⟨k + 1, by omega, by go_num, HN2, B5⟩
            case measure => simp [intOf]; omega
          · obtain ⟨j, hj⟩ : ∃ j, k = j + 1 := ⟨k - 1, by omega⟩
            have hjl : j < hs.length := by omega
            obtain ⟨g1', off1, hge, _, dj0, dj1⟩ := HDJ.out j hjl
            simp only [Option.some.injEq, Addr.mk.injEq, and_true] at hge
            obtain ⟨rfl, rfl⟩ := hge
            have HZ2 := Lib.hid (HEQ1.out j hj)
            obtain ⟨pn, HPN⟩ : ∃ x, Hid (hs[j].1 = x) := ⟨_, Lib.hid rfl⟩
            obtain ⟨pv, HPV⟩ : ∃ x, Hid (hs[j].2 = x) := ⟨_, Lib.hid rfl⟩
            rw [HPN.out] at dj0
            rw [HPV.out] at dj1
            simp only [HPN.out, HPV.out] at HZ2
            have hp0 := fut_cell (keepC B24 dj0)
            have hp1 := fut_cell (keepC B24 dj1)
            have jw : IntKind.i64.wrap ((k : Int) - 1) = (j : Int) := by rw [show (k : Int) - 1 = (j : Int) by omega]; exact IntWalk.i64_in _ (by omega)
            have g0 : (0 : Int) < (k : Int) := by omega
            have g1 : decide (0 < k) = true := by simp; omega
            have j0 : (0 : Int) ≤ (j : Int) := by omega
            have j1 : (j : Int) < (hs.length : Int) := by omega
            have HJ := Lib.hid hj
            clear HEQ0 HEQ1 HEQB HDJ hz hj dj0 dj1
            by_cases hc : pn = nk
            · have q1 : (pn == nk) = true := by simpa using hc
              have q2 : (pn != nk) = false := by rw [bne, q1]; rfl
              cases hl : Op.bytesLess pv rk with
              | false =>
                have HX := Lib.hid (HBAD.out (by rw [HZ2.out, q1, hl]; rfl))
                clear HZ2 HBAD HGO hc
                go_wp2_with fail
                refine wp_region_fut (by kernel_rfl) (by kernel_rfl) ?_
                repeat (first | go_big_quiet_skip | (go_big_quiet_want; go_big_quiet_op; go_big_quiet_on))
                refine wpQuiet_nil ?_
                rintro _ ⟨⟨w5, hb5⟩, rfl⟩
                go_wp2_with fail
                go_ret
                exact ⟨ret_bool HX.out.symm, B4.trans (hb5.mono B4.size)⟩
              | true =>
                have HN2 := Lib.hid (HGO.out (by rw [HZ2.out, q1, hl]; rfl))
                clear HZ2 HBAD HGO hc
                go_wp2_with fail
                refine wp_region_fut (by kernel_rfl) (by kernel_rfl) ?_
                repeat (first | go_big_quiet_skip | (go_big_quiet_want; go_big_quiet_op; go_big_quiet_on))
                refine wpQuiet_nil ?_
                rintro _ ⟨⟨w5, hb5⟩, rfl⟩
                have B5 := B4.trans (hb5.mono B4.size)
                go_wp2_with fail
                go_roundw
                case rel => exact ⟨k + 1, by omega, by go_num, HN2, B5⟩
                case measure => simp [intOf]; omega
            · have q1 : (pn == nk) = false := by simpa using hc
              have q2 : (pn != nk) = true := by rw [bne, q1]; rfl
              have HX := Lib.hid (HBAD.out (by rw [HZ2.out, q1]; rfl))
              clear HZ2 HBAD HGO hc
              go_wp2_with fail
              refine wp_region_fut (by kernel_rfl) (by kernel_rfl) ?_
              repeat (first | go_big_quiet_skip | (go_big_quiet_want; go_big_quiet_op; go_big_quiet_on))
              refine wpQuiet_nil ?_
              rintro _ ⟨⟨w5, hb5⟩, rfl⟩
              go_wp2_with fail
              go_ret
              exact ⟨ret_bool HX.out.symm, B4.trans (hb5.mono B4.size)⟩
    · have HX : Hid (r = true) := Lib.hid (by have := HT.out; rw [show k = hs.length by omega] at this; rw [← HR.out]; unfold headsOkL; rw [HLEN.out, this]; rfl)
      have m2 : ¬ (k : Int) < (hs.length : Int) := by omega
      go_wp2_with fail
      go_ret
      exact ⟨ret_bool HX.out.symm, hb⟩

set_option maxRecDepth 100000 in
set_option maxHeartbeats 4000000 in
theorem entryOk_any (e : En) (a0 a1 : Value) (q : Int) (w : World) (ha0 : RdB w a0 e.heads) (ha1 : RdB w a1 e.needs) (hs : SmEn e) (ht : Tab w) (hq : w.cell? ⟨0, 0, none⟩ = some (.int .i64 q)) :
    Calls Tryz.prog 45 #[enV e a0 a1] w fun x w' => x = .returned (.bool (enOk e)) ∧ Below w.heap.size w w' := by
  have HGI0 := Lib.hid (fun W => implGetIntegrity_any e.int W hs.int)
  have HHD0 := Lib.hid (fun (W : World) (h : Below w.heap.size w W) => headsOk_any a0 e.heads e.ver q W (ha0.below h) hs.heads hs.ver (tab_below ht h) (keepC h hq))
  have HND0 := Lib.hid (fun (W : World) (h : Below w.heap.size w W) => needsOk_any a1 e.needs q W (ha1.below h) hs.needs (tab_below ht h) (keepC h hq))
  have hsr := hs.res
  have HPL0 := Lib.hid (fun W => implPlainOk_any ⟨e.res.toArray⟩ W (by rw [size_of]; unfold maxLen; omega))
  obtain ⟨A, ca, rfl⟩ := rdB_slice ha0
  obtain ⟨B, cb, rfl⟩ := rdB_slice ha1
  obtain ⟨gi, HGII⟩ : ∃ x, Hid (getIntOk e.int = x) := ⟨_, Lib.hid rfl⟩
  obtain ⟨hd, HHDD⟩ : ∃ x, Hid (headsOkL e.ver e.heads = x) := ⟨_, Lib.hid rfl⟩
  obtain ⟨pl, HPLL⟩ : ∃ x, Hid (plainL e.res = x) := ⟨_, Lib.hid rfl⟩
  obtain ⟨nd, HNDD⟩ : ∃ x, Hid (needsOkL e.needs = x) := ⟨_, Lib.hid rfl⟩
  have HE3 : Hid (enOk e = (gi && (hd && (pl && nd)))) := Lib.hid (by unfold enOk; rw [HGII.out, HHDD.out, HPLL.out, HNDD.out])
  rw [HE3.out]
  have HGI2 : Hid (∀ W, Calls Tryz.prog 96 #[.string ⟨e.int.toArray⟩] W fun x w' => ∃ v, x = .returned (.tuple #[v, .bool gi]) ∧ Sums w' W.heap.size v (giL e.int) ∧ Below W.heap.size W w') := Lib.hid (fun W => by rw [← HGII.out]; exact HGI0.out W)
  have HPL2 : Hid (∀ W, Calls Tryz.prog 98 #[.string ⟨e.res.toArray⟩] W fun x w' => x = .returned (.bool pl) ∧ W = w') := Lib.hid (fun W => by rw [← HPLL.out]; exact HPL0.out W)
  simp only [HHDD.out] at HHD0
  simp only [HNDD.out] at HND0
  unfold enV
  have B0 : Below w.heap.size w (w.alloc (.cells #[.slice A e.heads.length ca, .string ⟨e.ver.toArray⟩, .string ⟨e.res.toArray⟩, .string ⟨e.int.toArray⟩, .slice B e.needs.length cb] 62)) := (Below.refl _ _).alloc (Nat.le_refl _) _
  have b0 := heap_alloc_new w (.cells #[.slice A e.heads.length ca, .string ⟨e.ver.toArray⟩, .string ⟨e.res.toArray⟩, .string ⟨e.int.toArray⟩, .slice B e.needs.length cb] 62)
  obtain ⟨x0, x1, x2, x3, x4⟩ := cells5 b0
  clear ha0 ha1 hs ht hq hsr HGI0 HPL0 HE3
  go_enter Tryz.func45, Tryz.ntmps45
  go_wp2_with fail
  refine (HGI2.out _).mono ?_
  rintro _ w1 ⟨u1, rfl, hu1, hb1⟩
  have B1 := B0.trans (hb1.mono B0.size)
  have b1 := keepB b0 hb1
  obtain ⟨y0, y1, y2, y3, y4⟩ := cells5 b1
  clear hb1 B0 b0 x0 x1 x2 x3 x4 hu1
  cases gi with
  | false =>
    go_wp2_with fail
    go_ret
    exact ⟨rfl, B1⟩
  | true =>
    go_wp2_with fail
    refine (HHD0.out _ B1).mono ?_
    rintro _ w2 ⟨rfl, hb2⟩
    have B2 := B1.trans (hb2.mono B1.size)
    have b2 := keepB b1 hb2
    obtain ⟨z0, z1, z2, z3, z4⟩ := cells5 b2
    clear hb2 B1 b1 y0 y1 y2 y3 y4
    cases hd with
    | false =>
      go_wp2_with fail
      go_ret
      exact ⟨rfl, B2⟩
    | true =>
      go_wp2_with fail
      refine (HPL2.out _).mono ?_
      rintro _ _ ⟨rfl, rfl⟩
      cases pl with
      | false =>
        go_wp2_with fail
        go_ret
        exact ⟨rfl, B2⟩
      | true =>
        go_wp2_with fail
        refine (HND0.out _ B2).mono ?_
        rintro _ w3 ⟨rfl, hb3⟩
        go_wp2_with fail
        go_ret
        exact ⟨by simp, B2.trans (hb3.mono B2.size)⟩
end Go.Proofs.YtnodhkjgnegkcaaGreatDoor

/-
  spec.l08Entry: whether an entry is right.
-/
namespace Go.Proofs.YtnodhkjgnegkcaaGreatDoor
open Go.RowKit

set_option maxRecDepth 100000 in
set_option maxHeartbeats 8000000 in
theorem l08Entry_any (e : En) (a0 a1 : Value) (w : World) (ha0 : RdB w a0 e.heads) (ha1 : RdB w a1 e.needs) (hs : SmEn e) :
    Calls Tryz.prog 41 #[enV e a0 a1] w fun x w' => x = .returned (.bool (enOk e)) ∧ Below w.heap.size w w' := by
  have HA := Lib.hid ha0
  have HB := Lib.hid ha1
  have hsh := hs.heads
  have hsn := hs.needs
  have hsv := hs.ver
  have hsr := hs.res
  have hsi := hs.int
  have HMH : Hid (∀ b ∈ e.heads, b.1.length ≤ 1048576 ∧ b.2.length ≤ 1048576) := Lib.hid (fun b hb => by have := smB_mem b hb; omega)
  have HMN : Hid (∀ b ∈ e.needs, b.1.length ≤ 1048576 ∧ b.2.length ≤ 1048576) := Lib.hid (fun b hb => by have := smB_mem b hb; omega)
  have hnh : e.heads.length ≤ 1048576 := by omega
  have hnn : e.needs.length ≤ 1048576 := by omega
  obtain ⟨A, ca, rfl⟩ := rdB_slice ha0
  obtain ⟨B, cb, rfl⟩ := rdB_slice ha1
  obtain ⟨r, HR⟩ : ∃ r, Hid (enOk e = r) := ⟨_, Lib.hid rfl⟩
  rw [HR.out]
  have HRV := Lib.hid (fun W => specReadVersion_any ⟨e.ver.toArray⟩ W (by rw [size_of]; exact hsv))
  have HGI := Lib.hid (fun W => specGetIntegrity_any e.int W hsi)
  have HPL := Lib.hid (fun W => specPlainOk_any ⟨e.res.toArray⟩ W (by rw [size_of]; unfold maxLen; omega))
  have HIN := Lib.hid (fun (W : World) (v : Value) (l : List UInt8) (h : RdB W v (rgB l)) => specIn_any ⟨e.ver.toArray⟩ v (rgB l) W (by rw [size_of]; exact hsv) h (rgB_sm l))
  have HND := Lib.hid (fun (b : Bd) (W : World) (h : b.1.length ≤ 1048576 ∧ b.2.length ≤ 1048576) => l08Need_any ⟨b.1.toArray⟩ ⟨b.2.toArray⟩ W (by rw [size_of]; exact h.1) (by rw [size_of]; exact h.2))
  have HEND := Lib.hid (fun (h1 : allTo (hdAtB e.ver e.heads) e.heads.length = true) (h2 : allTo (ndAtB e.needs) e.needs.length = true) => HR.out.symm.trans (en_end h1 h2))
  unfold enV
  have B0 : Below w.heap.size w (w.alloc (.cells #[.slice A e.heads.length ca, .string ⟨e.ver.toArray⟩, .string ⟨e.res.toArray⟩, .string ⟨e.int.toArray⟩, .slice B e.needs.length cb] 62)) := (Below.refl _ _).alloc (Nat.le_refl _) _
  have b0 := heap_alloc_new w (.cells #[.slice A e.heads.length ca, .string ⟨e.ver.toArray⟩, .string ⟨e.res.toArray⟩, .string ⟨e.int.toArray⟩, .slice B e.needs.length cb] 62)
  obtain ⟨bxo, HBXO⟩ : ∃ o : Obj, Hid (o = .cells #[.slice A e.heads.length ca, .string ⟨e.ver.toArray⟩, .string ⟨e.res.toArray⟩, .string ⟨e.int.toArray⟩, .slice B e.needs.length cb] 62) := ⟨_, Lib.hid rfl⟩
  clear ha0 ha1 hs hsh hsn hsv hsr hsi
  go_enter Tryz.func41, Tryz.ntmps41
  go_wp2_with fail
  go_loopw [3, 4, 5, 6] (fun i _ _ _ wr => ∃ k : Nat, k ≤ e.heads.length ∧ i = .int .i64 k ∧ Hid (allTo (hdAtB e.ver e.heads) k = true) ∧ Below w.heap.size w wr ∧ wr.heap[w.heap.size]? = some (.cells #[.slice A e.heads.length ca, .string ⟨e.ver.toArray⟩, .string ⟨e.res.toArray⟩, .string ⟨e.int.toArray⟩, .slice B e.needs.length cb] 62)) (fun i _ _ _ _ => e.heads.length - (intOf i).toNat)
  case atStart => exact ⟨0, Nat.zero_le _, rfl, Lib.hid rfl, B0, b0⟩
  case round =>
    obtain ⟨k, hk, rfl, HT, hb, bx⟩ := hrel
    obtain ⟨x0, x1, x2, x3, x4⟩ := cells5 bx
    have HBX := Lib.hid bx
    clear B0 b0
    by_cases hlt : k < e.heads.length
    · have HRW := Lib.hid (HA.out.below hb)
      obtain ⟨g, off, rfl, hg, d0, d1⟩ := RdB.atR HRW.out k hlt
      obtain ⟨g0, off0, hge, _, d2, _⟩ := RdB.atR HRW.out 0 (by omega)
      simp only [Option.some.injEq, Addr.mk.injEq, and_true] at hge
      obtain ⟨rfl, rfl⟩ := hge
      rw [Nat.zero_mul, Nat.add_zero] at d2
      have hsz := HMH.out _ (List.getElem_mem hlt)
      have HRG := Lib.hid (fun W => specReadRange_any e.heads[k].2 W hsz.2)
      have HNK := Lib.hid (fun W => HND.out e.heads[k] W hsz)
      have HEQ := Lib.hid (hdAtB_spec hlt HT.out)
      have HBAD := Lib.hid (fun (h : hdAtB e.ver e.heads k = false) => (show r = false by rw [← HR.out]; exact en_bad1 hlt h))
      have HGO := Lib.hid (fun (h : hdAtB e.ver e.heads k = true) => allTo_step HT.out h)
      have k0 : (0 : Int) ≤ (k : Int) := by omega
      have k1 : (k : Int) < (e.heads.length : Int) := by omega
      obtain ⟨nd, HNDD⟩ : ∃ b, Hid (ndOk e.heads[k] = b) := ⟨_, Lib.hid rfl⟩
      have HNK2 : Hid (∀ W, Calls Tryz.prog 89 #[.agg #[.string ⟨e.heads[k].1.toArray⟩, .string ⟨e.heads[k].2.toArray⟩]] W fun x w' => x = .returned (.bool nd) ∧ Below W.heap.size W w') := Lib.hid (fun W => by rw [← HNDD.out]; exact HNK.out W)
      obtain ⟨ib, HIB⟩ : ∃ b, Hid (inR e.ver (rgB e.heads[k].2) = b) := ⟨_, Lib.hid rfl⟩
      have HIN2 : Hid (∀ (W : World) (v : Value), RdB W v (rgB e.heads[k].2) → Calls Tryz.prog 90 #[.string ⟨e.ver.toArray⟩, v] W fun x w' => x = .returned (.bool ib) ∧ Below W.heap.size W w') := Lib.hid (fun W v h => by rw [← HIB.out]; exact HIN.out W v _ h)
      have HD1 : Hid (∃ pv : List UInt8, (0 < k → wr.cell? ⟨g, off + (k - 1) * 2 + 1, none⟩ = some (.string ⟨pv.toArray⟩)) ∧ bdAt e.heads (k - 1) = ((bdAt e.heads (k - 1)).1, pv)) := Lib.hid (by
        by_cases h : 0 < k
        · obtain ⟨g1, off1, hge, _, _, d⟩ := RdB.atR HRW.out (k - 1) (by omega)
          simp only [Option.some.injEq, Addr.mk.injEq, and_true] at hge
          obtain ⟨rfl, rfl⟩ := hge
          exact ⟨_, fun _ => d, by rw [bdAt_is (by omega : k - 1 < e.heads.length)]⟩
        · exact ⟨(bdAt e.heads (k - 1)).2, fun h' => absurd h' h, rfl⟩)
      obtain ⟨pv, hpv, hpe⟩ := HD1.out
      have hpe2 : (bdAt e.heads (k - 1)).2 = pv := by rw [hpe]
      simp only [hpe2, HNDD.out, HIB.out] at HEQ
      clear hpe hpe2 HD1 HND HIN HNK
      obtain ⟨nk, HKK⟩ : ∃ x, Hid (e.heads[k].1 = x) := ⟨_, Lib.hid rfl⟩
      obtain ⟨rk, HRK⟩ : ∃ x, Hid (e.heads[k].2 = x) := ⟨_, Lib.hid rfl⟩
      obtain ⟨n0, HN0⟩ : ∃ x, Hid ((e.heads[0]'(by omega)).1 = x) := ⟨_, Lib.hid rfl⟩
      rw [HKK.out] at d0
      rw [HRK.out] at d1
      rw [HN0.out] at d2
      simp only [HKK.out, HRK.out, HN0.out] at HEQ HNK2 HRG HIN2
      have hz1 : (wr.alloc (.cells #[.string ⟨nk.toArray⟩, .string ⟨rk.toArray⟩] 65)).heap.size = wr.heap.size + 1 := by simp
      have BA : Below wr.heap.size wr (wr.alloc (.cells #[.string ⟨nk.toArray⟩, .string ⟨rk.toArray⟩] 65)) := (Below.refl _ _).alloc (Nat.le_refl _) _
      have ba := heap_alloc_new wr (.cells #[.string ⟨nk.toArray⟩, .string ⟨rk.toArray⟩] 65)
      obtain ⟨m0, m1⟩ := cellsG ba
      have HZ1 := Lib.hid hz1
      clear hz1
      go_wp2_with fail
      refine (HRG.out _).mono ?_
      rintro _ w2 ⟨u, rfl, hBn, hb2⟩
      have B2 := BA.trans (hb2.mono BA.size)
      have b2 := keepB ba hb2
      have hRB := RdB.of_bnds hBn
      obtain ⟨Au, cu, rfl⟩ := rdB_slice hRB
      obtain ⟨m0, m1⟩ := cellsG b2
      have y0 := fut_cell (keepC B2 x0)
      have y1 := fut_cell (keepC B2 x1)
      have e0 := fut_cell (keepC B2 d0)
      have e2 := fut_cell (keepC B2 d2)
      have hh0 := fut_cell m0
      have hh1 := fut_cell m1
      have hpv2 : Hid (0 < k → ∀ F : Fut w2, F.out.cell? ⟨g, off + (k - 1) * 2 + 1, none⟩ = some (.string ⟨pv.toArray⟩)) := Lib.hid (fun h => fut_cell (keepC B2 (hpv h)))
      have HIN3 := Lib.hid (fun (F : Fut w2) => HIN2.out F.out _ (hRB.below F.bel))
      have HTB := Lib.hid (hb.trans (B2.mono hb.size))
      have HB2 := Lib.hid B2
      have HBXK := Lib.hid (keepB HBX.out B2)
      clear B2 b2 hRB m0 m1 hBn hb2 BA ba x0 x1 x2 x3 x4 d0 d1 d2 hpv bx HRG
      cases nd with
      | false =>
        have HX : Hid (r = false) := Lib.hid (HBAD.out (by rw [HEQ.out]; rfl))
        clear HEQ HBAD HGO hpv2
        go_wp2_with fail
        refine wp_region_fut (by kernel_rfl) (by kernel_rfl) ?_
        repeat (first | go_big_quiet_skip | (go_big_quiet_want; go_big_quiet_op; first | go_big_quiet_on | go_big_quiet_call ((go_at_call 89; exact fut_call (HNK2.out _)))))
        refine wpQuiet_nil ?_
        rintro _ ⟨⟨w3, hb3⟩, rfl⟩
        go_wp2_with fail
        go_ret
        exact ⟨ret_bool HX.out.symm, HTB.out.trans (hb3.mono HTB.out.size)⟩
      | true =>
        by_cases hc : nk = n0
        · have q1 : (nk == n0) = true := by simpa using hc
          have q2 : (nk != n0) = false := by rw [bne, q1]; rfl
          by_cases hz : k = 0
          · have g1 : decide ((0 : Int) < (k : Int)) = false := by simp; omega
            have g2 : decide (0 < k) = false := by simp; omega
            have HE2 : Hid (hdAtB e.ver e.heads k = ib) := Lib.hid (by rw [HEQ.out, decide_eq_true hc, decide_eq_true hz]; rfl)
            clear HEQ hc hz hpv2
            cases ib with
            | false =>
              have HX := Lib.hid (HBAD.out HE2.out)
              clear HE2 HBAD HGO
              go_wp2_with fail
              refine wp_region_fut (by kernel_rfl) (by kernel_rfl) ?_
              repeat (first | go_big_quiet_skip | (go_big_quiet_want; go_big_quiet_op; first | go_big_quiet_on | go_big_quiet_call (first | (go_at_call 89; exact fut_call (HNK2.out _)) | (go_at_call 90; exact fut_call (HIN3.out _)))))
              refine wpQuiet_nil ?_
              rintro _ ⟨⟨w3, hb3⟩, rfl⟩
              go_wp2_with fail
              go_ret
              exact ⟨ret_bool HX.out.symm, HTB.out.trans (hb3.mono HTB.out.size)⟩
            | true =>
              have HN2 := Lib.hid (HGO.out HE2.out)
              clear HE2 HBAD HGO
              go_wp2_with fail
              refine wp_region_fut (by kernel_rfl) (by kernel_rfl) ?_
              repeat (first | go_big_quiet_skip | (go_big_quiet_want; go_big_quiet_op; first | go_big_quiet_on | go_big_quiet_call (first | (go_at_call 89; exact fut_call (HNK2.out _)) | (go_at_call 90; exact fut_call (HIN3.out _)))))
              refine wpQuiet_nil ?_
              rintro _ ⟨⟨w3, hb3⟩, rfl⟩
              have B3 := HTB.out.trans (hb3.mono HTB.out.size)
              have b3 := keepB HBXK.out hb3
              go_wp2_with fail
              go_roundw
              case rel => exact ⟨k + 1, by omega, by go_num, HN2, B3, b3⟩
              case measure => simp [intOf]; omega
          · obtain ⟨j, hj⟩ : ∃ j, k = j + 1 := ⟨k - 1, by omega⟩
            have hp := hpv2.out (by omega)
            rw [show k - 1 = j by omega] at hp
            have jw : IntKind.i64.wrap ((k : Int) - 1) = (j : Int) := by rw [show (k : Int) - 1 = (j : Int) by omega]; exact IntWalk.i64_in _ (by omega)
            have g0 : (0 : Int) < (k : Int) := by omega
            have g1 : decide (0 < k) = true := by simp; omega
            have j0 : (0 : Int) ≤ (j : Int) := by omega
            have j1 : (j : Int) < (e.heads.length : Int) := by omega
            have HJ := Lib.hid hj
            have HE2 : Hid (hdAtB e.ver e.heads k = (Op.bytesLess pv rk && ib)) := Lib.hid (by rw [HEQ.out, decide_eq_true hc, decide_eq_false hz]; rfl)
            clear HEQ hc hz hpv2 hj
            cases hl : Op.bytesLess pv rk with
            | false =>
              have HX := Lib.hid (HBAD.out (by rw [HE2.out, hl]; rfl))
              clear HE2 HBAD HGO
              go_wp2_with fail
              refine wp_region_fut (by kernel_rfl) (by kernel_rfl) ?_
              repeat (first | go_big_quiet_skip | (go_big_quiet_want; go_big_quiet_op; first | go_big_quiet_on | go_big_quiet_call (first | (go_at_call 89; exact fut_call (HNK2.out _)) | (go_at_call 90; exact fut_call (HIN3.out _)))))
              refine wpQuiet_nil ?_
              rintro _ ⟨⟨w3, hb3⟩, rfl⟩
              go_wp2_with fail
              go_ret
              exact ⟨ret_bool HX.out.symm, HTB.out.trans (hb3.mono HTB.out.size)⟩
            | true =>
              cases ib with
              | false =>
                have HX := Lib.hid (HBAD.out (by rw [HE2.out, hl]; rfl))
                clear HE2 HBAD HGO
                go_wp2_with fail
                refine wp_region_fut (by kernel_rfl) (by kernel_rfl) ?_
                repeat (first | go_big_quiet_skip | (go_big_quiet_want; go_big_quiet_op; first | go_big_quiet_on | go_big_quiet_call (first | (go_at_call 89; exact fut_call (HNK2.out _)) | (go_at_call 90; exact fut_call (HIN3.out _)))))
                refine wpQuiet_nil ?_
                rintro _ ⟨⟨w3, hb3⟩, rfl⟩
                go_wp2_with fail
                go_ret
                exact ⟨ret_bool HX.out.symm, HTB.out.trans (hb3.mono HTB.out.size)⟩
              | true =>
                have HN2 := Lib.hid (HGO.out (by rw [HE2.out, hl]; rfl))
                clear HE2 HBAD HGO
                go_wp2_with fail
                refine wp_region_fut (by kernel_rfl) (by kernel_rfl) ?_
                repeat (first | go_big_quiet_skip | (go_big_quiet_want; go_big_quiet_op; first | go_big_quiet_on | go_big_quiet_call (first | (go_at_call 89; exact fut_call (HNK2.out _)) | (go_at_call 90; exact fut_call (HIN3.out _)))))
                refine wpQuiet_nil ?_
                rintro _ ⟨⟨w3, hb3⟩, rfl⟩
                have B3 := HTB.out.trans (hb3.mono HTB.out.size)
                have b3 := keepB HBXK.out hb3
                go_wp2_with fail
                go_roundw
                case rel => exact ⟨k + 1, by omega, by go_num, HN2, B3, b3⟩
                case measure => simp [intOf]; omega
        · have q1 : (nk == n0) = false := by simpa using hc
          have q2 : (nk != n0) = true := by rw [bne, q1]; rfl
          have HX : Hid (r = false) := Lib.hid (HBAD.out (by rw [HEQ.out, decide_eq_false hc]; rfl))
          clear HEQ HBAD HGO hpv2 hc
          go_wp2_with fail
          refine wp_region_fut (by kernel_rfl) (by kernel_rfl) ?_
          repeat (first | go_big_quiet_skip | (go_big_quiet_want; go_big_quiet_op; first | go_big_quiet_on | go_big_quiet_call ((go_at_call 89; exact fut_call (HNK2.out _)))))
          refine wpQuiet_nil ?_
          rintro _ ⟨⟨w3, hb3⟩, rfl⟩
          go_wp2_with fail
          go_ret
          exact ⟨ret_bool HX.out.symm, HTB.out.trans (hb3.mono HTB.out.size)⟩
    · have HT2 : Hid (allTo (hdAtB e.ver e.heads) e.heads.length = true) := Lib.hid (by have := HT.out; rw [show k = e.heads.length by omega] at this; exact this)
      have k2 : ¬ (k : Int) < (e.heads.length : Int) := by omega
      clear HT hlt HBX HIN HMH
      go_wp2_with fail
      go_loopw [7] (fun i W => ∃ m : Nat, m ≤ e.needs.length ∧ i = .int .i64 m ∧ Hid (allTo (ndAtB e.needs) m = true) ∧ Below w.heap.size w W ∧ W.heap[w.heap.size]? = some (.cells #[.slice A e.heads.length ca, .string ⟨e.ver.toArray⟩, .string ⟨e.res.toArray⟩, .string ⟨e.int.toArray⟩, .slice B e.needs.length cb] 62)) (fun i _ => e.needs.length - (intOf i).toNat)
      case atStart => exact ⟨0, Nat.zero_le _, rfl, Lib.hid rfl, hb, bx⟩
      case round =>
        obtain ⟨m, hm, rfl, HU, hb5, bx5⟩ := hrel
        clear hb bx x0 x1 x2 x3 x4
        obtain ⟨x0, x1, x2, x3, x4⟩ := cells5 bx5
        by_cases hmt : m < e.needs.length
        · have HRW := Lib.hid (HB.out.below hb5)
          obtain ⟨g, off, rfl, hg, d0, d1⟩ := RdB.atR HRW.out m hmt
          have hsz := HMN.out _ (List.getElem_mem hmt)
          have HNK := Lib.hid (fun W => HND.out e.needs[m] W hsz)
          have HBAD := Lib.hid (fun (h : ndAtB e.needs m = false) => (show r = false by rw [← HR.out]; exact en_bad2 hmt h))
          have HGO := Lib.hid (fun (h : ndAtB e.needs m = true) => allTo_step HU.out h)
          have HEQ0 := Lib.hid (fun (h : m = 0) => (show ndAtB e.needs m = ndOk e.needs[m] by subst h; exact ndAtB_zero hmt))
          have HEQ1 := Lib.hid (fun (j : Nat) (h : m = j + 1) => (show ndAtB e.needs m = (ndOk e.needs[m] && Op.bytesLess (e.needs[j]'(by omega)).1 e.needs[m].1) by subst h; exact ndAtB_more hmt))
          have k0 : (0 : Int) ≤ (m : Int) := by omega
          have k1 : (m : Int) < (e.needs.length : Int) := by omega
          obtain ⟨nd, HNDD⟩ : ∃ b, Hid (ndOk e.needs[m] = b) := ⟨_, Lib.hid rfl⟩
          have HNK2 : Hid (∀ W, Calls Tryz.prog 89 #[.agg #[.string ⟨e.needs[m].1.toArray⟩, .string ⟨e.needs[m].2.toArray⟩]] W fun x w' => x = .returned (.bool nd) ∧ Below W.heap.size W w') := Lib.hid (fun W => by rw [← HNDD.out]; exact HNK.out W)
          have HFB := Lib.hid (fun (h : nd = false) => (show ndAtB e.needs m = false by unfold ndAtB; rw [bdAt_is hmt, HNDD.out, h]; rfl))
          have HDJ := Lib.hid (fun (j : Nat) (h : j < e.needs.length) => (RdB.atR HRW.out j h))
          simp only [HNDD.out] at HEQ0 HEQ1
          obtain ⟨nk, HKK⟩ : ∃ x, Hid (e.needs[m].1 = x) := ⟨_, Lib.hid rfl⟩
          obtain ⟨rk, HRK⟩ : ∃ x, Hid (e.needs[m].2 = x) := ⟨_, Lib.hid rfl⟩
          rw [HKK.out] at d0
          rw [HRK.out] at d1
          simp only [HKK.out] at HEQ1
          simp only [HKK.out, HRK.out] at HNK2
          have y4 := fut_cell x4
          have e0 := fut_cell d0
          have e1 := fut_cell d1
          have HBX5 := Lib.hid bx5
          clear HNK x0 x1 x2 x3 d0 d1 bx5
          cases nd with
          | false =>
            have HX : Hid (r = false) := Lib.hid (HBAD.out (HFB.out rfl))
            clear HBAD HGO HEQ0 HEQ1 HDJ HFB
            go_wp2_with fail
            refine wp_region_fut (by kernel_rfl) (by kernel_rfl) ?_
            repeat (first | go_big_quiet_skip | (go_big_quiet_want; go_big_quiet_op; first | go_big_quiet_on | go_big_quiet_call ((go_at_call 89; exact fut_call (HNK2.out _)))))
            refine wpQuiet_nil ?_
            rintro _ ⟨⟨w3, hb3⟩, rfl⟩
            go_wp2_with fail
            go_ret
            exact ⟨ret_bool HX.out.symm, hb5.trans (hb3.mono hb5.size)⟩
          | true =>
            by_cases hz : m = 0
            · have g1 : decide ((0 : Int) < (m : Int)) = false := by simp; omega
              have g2 : decide (0 < m) = false := by simp; omega
              have HN2 := Lib.hid (HGO.out (HEQ0.out hz))
              clear HBAD HGO HEQ0 HEQ1 HDJ HFB hz
              go_wp2_with fail
              refine wp_region_fut (by kernel_rfl) (by kernel_rfl) ?_
              repeat (first | go_big_quiet_skip | (go_big_quiet_want; go_big_quiet_op; first | go_big_quiet_on | go_big_quiet_call ((go_at_call 89; exact fut_call (HNK2.out _)))))
              refine wpQuiet_nil ?_
              rintro _ ⟨⟨w3, hb3⟩, rfl⟩
              have B3 := hb5.trans (hb3.mono hb5.size)
              have b3 := keepB HBX5.out hb3
              go_wp2_with fail
              go_roundw
              case rel => exact ⟨m + 1, by omega, by go_num, HN2, B3, b3⟩
              case measure => simp [intOf]; omega
            · obtain ⟨j, hj⟩ : ∃ j, m = j + 1 := ⟨m - 1, by omega⟩
              have hjl : j < e.needs.length := by omega
              obtain ⟨g1', off1, hge, _, dj, _⟩ := HDJ.out j hjl
              simp only [Option.some.injEq, Addr.mk.injEq, and_true] at hge
              obtain ⟨rfl, rfl⟩ := hge
              have HZ2 := Lib.hid (HEQ1.out j hj)
              obtain ⟨pv, HPV⟩ : ∃ x, Hid (e.needs[j].1 = x) := ⟨_, Lib.hid rfl⟩
              rw [HPV.out] at dj
              rw [HPV.out] at HZ2
              have hp := fut_cell dj
              have jw : IntKind.i64.wrap ((m : Int) - 1) = (j : Int) := by rw [show (m : Int) - 1 = (j : Int) by omega]; exact IntWalk.i64_in _ (by omega)
              have g0 : (0 : Int) < (m : Int) := by omega
              have g1 : decide (0 < m) = true := by simp; omega
              have j0 : (0 : Int) ≤ (j : Int) := by omega
              have j1 : (j : Int) < (e.needs.length : Int) := by omega
              have HJ := Lib.hid hj
              clear HEQ0 HEQ1 HDJ HFB hz hj dj
              cases hl : Op.bytesLess pv nk with
              | false =>
                have HX := Lib.hid (HBAD.out (by rw [HZ2.out, hl]; rfl))
                clear HZ2 HBAD HGO
                go_wp2_with fail
                refine wp_region_fut (by kernel_rfl) (by kernel_rfl) ?_
                repeat (first | go_big_quiet_skip | (go_big_quiet_want; go_big_quiet_op; first | go_big_quiet_on | go_big_quiet_call ((go_at_call 89; exact fut_call (HNK2.out _)))))
                refine wpQuiet_nil ?_
                rintro _ ⟨⟨w3, hb3⟩, rfl⟩
                go_wp2_with fail
                go_ret
                exact ⟨ret_bool HX.out.symm, hb5.trans (hb3.mono hb5.size)⟩
              | true =>
                have HN2 := Lib.hid (HGO.out (by rw [HZ2.out, hl]; rfl))
                clear HZ2 HBAD HGO
                go_wp2_with fail
                refine wp_region_fut (by kernel_rfl) (by kernel_rfl) ?_
                repeat (first | go_big_quiet_skip | (go_big_quiet_want; go_big_quiet_op; first | go_big_quiet_on | go_big_quiet_call ((go_at_call 89; exact fut_call (HNK2.out _)))))
                refine wpQuiet_nil ?_
                rintro _ ⟨⟨w3, hb3⟩, rfl⟩
                have B3 := hb5.trans (hb3.mono hb5.size)
                have b3 := keepB HBX5.out hb3
                go_wp2_with fail
                go_roundw
                case rel => exact ⟨m + 1, by omega, by go_num, HN2, B3, b3⟩
                case measure => simp [intOf]; omega
        · have HU2 : Hid (allTo (ndAtB e.needs) e.needs.length = true) := Lib.hid (by have := HU.out; rw [show m = e.needs.length by omega] at this; exact this)
          have m2 : ¬ (m : Int) < (e.needs.length : Int) := by omega
          obtain ⟨rv, HRVV⟩ : ∃ x, Hid (readOk e.ver = x) := ⟨_, Lib.hid rfl⟩
          obtain ⟨gi, HGII⟩ : ∃ x, Hid (getIntOk e.int = x) := ⟨_, Lib.hid rfl⟩
          obtain ⟨pl, HPLL⟩ : ∃ x, Hid (plainL e.res = x) := ⟨_, Lib.hid rfl⟩
          obtain ⟨li, HLI⟩ : ∃ x, Hid (inI (e.heads.length : Int) 1 8 = x) := ⟨_, Lib.hid rfl⟩
          have HE3 : Hid (r = (li && (rv && (gi && pl)))) := Lib.hid (by rw [HEND.out HT2.out HU2.out, HRVV.out, HGII.out, HPLL.out, HLI.out])
          have HRV2 : Hid (∃ va vb vc vp, ∀ W, Calls Tryz.prog 91 #[.string ⟨e.ver.toArray⟩] W fun x w' => ∃ u, x = .returned (.tuple #[.agg #[.int .i64 va, .int .i64 vb, .int .i64 vc, u], .bool rv]) ∧ Strs w' W.heap.size u vp ∧ Below W.heap.size W w') := Lib.hid ⟨readA e.ver 0, readA e.ver 1, readA e.ver 2, readP e.ver, fun W => by rw [← HRVV.out]; exact HRV.out W⟩
          obtain ⟨va, vb, vc, vp, hV⟩ := HRV2.out
          have HV := Lib.hid hV
          have HGI2 : Hid (∀ W, Calls Tryz.prog 92 #[.string ⟨e.int.toArray⟩] W fun x w' => ∃ v, x = .returned (.tuple #[v, .bool gi]) ∧ Sums w' W.heap.size v (giL e.int) ∧ Below W.heap.size W w') := Lib.hid (fun W => by rw [← HGII.out]; exact HGI.out W)
          have HPL2 : Hid (∀ W, Calls Tryz.prog 94 #[.string ⟨e.res.toArray⟩] W fun x w' => x = .returned (.bool pl) ∧ W = w') := Lib.hid (fun W => by rw [← HPLL.out]; exact HPL.out W)
          have HLI2 : Hid (∀ W, Calls Tryz.prog 93 #[.int .i64 (e.heads.length : Int), .int .i64 1, .int .i64 8] W fun x w' => x = .returned (.bool li) ∧ W = w') := Lib.hid (fun W => by rw [← HLI.out]; exact l01In_any _ 1 8 W)
          clear HRV2 hV HRV HGI HPL HT2 HU2 HU hmt HND HMN HEND
          go_wp2_with fail
          refine (HV.out _).mono ?_
          rintro _ w3 ⟨u3, rfl, hu3, hb3⟩
          obtain ⟨A3, c3, rfl⟩ := (RdS.of_strs hu3).slice
          have B3 := (hb5.trans (hb3.mono hb5.size)).alloc (Nat.le_trans hb5.size hb3.size) (.cells #[.int .i64 va, .int .i64 vb, .int .i64 vc, .slice A3 vp.length c3] 117)
          have b3 := keepA (keepB bx5 hb3) (.cells #[.int .i64 va, .int .i64 vb, .int .i64 vc, .slice A3 vp.length c3] 117)
          obtain ⟨y0, y1, y2, y3, y4⟩ := cells5 b3
          clear hb3 hu3 hb5 bx5 x0 x1 x2 x3 x4
          go_wp2_with fail
          refine (HGI2.out _).mono ?_
          rintro _ w4 ⟨u4, rfl, hu4, hb4⟩
          have B4 := B3.trans (hb4.mono B3.size)
          have b4 := keepB b3 hb4
          obtain ⟨z0, z1, z2, z3, z4⟩ := cells5 b4
          clear hb4 b3 B3 y0 y1 y2 y3 y4 hu4
          cases li with
          | false =>
            have HX : Hid (r = false) := Lib.hid HE3.out
            clear HE3
            go_wp2_with fail
            refine (HLI2.out _).mono ?_
            rintro _ _ ⟨rfl, rfl⟩
            go_wp2_with fail
            go_ret
            exact ⟨ret_bool HX.out.symm, B4⟩
          | true =>
            cases rv with
            | false =>
              have HX : Hid (r = false) := Lib.hid HE3.out
              clear HE3
              go_wp2_with fail
              refine (HLI2.out _).mono ?_
              rintro _ _ ⟨rfl, rfl⟩
              go_wp2_with fail
              go_ret
              exact ⟨ret_bool HX.out.symm, B4⟩
            | true =>
              cases gi with
              | false =>
                have HX : Hid (r = false) := Lib.hid HE3.out
                clear HE3
                go_wp2_with fail
                refine (HLI2.out _).mono ?_
                rintro _ _ ⟨rfl, rfl⟩
                go_wp2_with fail
                go_ret
                exact ⟨ret_bool HX.out.symm, B4⟩
              | true =>
                have HX : Hid (r = pl) := Lib.hid HE3.out
                clear HE3
                go_wp2_with fail
                refine (HLI2.out _).mono ?_
                rintro _ _ ⟨rfl, rfl⟩
                go_wp2_with fail
                refine (HPL2.out _).mono ?_
                rintro _ _ ⟨rfl, rfl⟩
                go_wp2_with fail
                go_ret
                exact ⟨ret_bool HX.out.symm, B4⟩
end Go.Proofs.YtnodhkjgnegkcaaGreatDoor

/-
  A need's key: spec.l08Key, impl.needKey.
-/
namespace Go.Proofs.YtnodhkjgnegkcaaGreatDoor
open Go.RowKit

/-- A need's key: its name, @ and its range. -/
def ndKey (a b : ByteArray) : ByteArray := ⟨(a.data.toList ++ 64 :: b.data.toList).toArray⟩
theorem ndKey_size (a b : ByteArray) : (ndKey a b).size = a.size + 1 + b.size := by
  unfold ndKey; rw [size_of]; simp; omega

set_option maxRecDepth 100000 in
set_option maxHeartbeats 1000000 in
theorem l08Key_any (a b : ByteArray) (w : World) (h : a.size + b.size ≤ 1048576) :
    Calls Tryz.prog 42 #[.agg #[.string a, .string b]] w fun e w' => e = .returned (.string (ndKey a b)) ∧ Below w.heap.size w w' := by
  go_enter Tryz.func42, Tryz.ntmps42
  go_wp2_with fail
  go_ret
  exact ⟨congrArg Ending.returned (congrArg Value.string (bytes_ext (by simp [ndKey]))), (Below.refl _ _).alloc (Nat.le_refl _) _⟩
set_option maxRecDepth 100000 in
set_option maxHeartbeats 1000000 in
theorem needKey_any (a b : ByteArray) (w : World) (h : a.size + b.size ≤ 1048576) :
    Calls Tryz.prog 46 #[.agg #[.string a, .string b]] w fun e w' => e = .returned (.string (ndKey a b)) ∧ Below w.heap.size w w' := by
  go_enter Tryz.func46, Tryz.ntmps46
  go_wp2_with fail
  go_ret
  exact ⟨congrArg Ending.returned (congrArg Value.string (bytes_ext (by simp [ndKey]))), (Below.refl _ _).alloc (Nat.le_refl _) _⟩
end Go.Proofs.YtnodhkjgnegkcaaGreatDoor

/-
  spec.EntriesOf: whether entries are right.
-/
namespace Go.Proofs.YtnodhkjgnegkcaaGreatDoor
open Go.RowKit

def eoAt (es : List En) (k : Nat) : Bool := enAtB es k && hdResB es k
theorem eoL_all (es : List En) : eoL es = (decide (es.length ≤ 40) && allTo (eoAt es) es.length) := rfl
theorem eo_bad {es : List En} {k : Nat} (hk : k < es.length) (h : eoAt es k = false) : eoL es = false := by rw [eoL_all, allTo_bad hk h, Bool.and_false]
theorem en_heads {e : En} (h : enOk e = true) : 0 < e.heads.length := by
  unfold enOk headsOkL at h
  simp only [Bool.and_eq_true, decide_eq_true_eq] at h
  omega
theorem eoAt_en {es : List En} {k : Nat} (hk : k < es.length) (h : eoAt es k = true) : enOk es[k] = true := by
  unfold eoAt enAtB at h
  rw [es_at hk] at h
  simp only [Bool.and_eq_true] at h
  exact h.1.1
theorem hdRes_is {es : List En} {k : Nat} (hk : k < es.length) : hdResB es k = es[k].heads.all (fun h => resK es h 0 == (k : Int)) := by unfold hdResB; rw [es_at hk]
theorem all_bad {α : Type} {l : List α} {p : α → Bool} {m : Nat} (hm : m < l.length) (h : p l[m] = false) : l.all p = false := by
  rw [List.all_eq_false]; exact ⟨l[m], List.getElem_mem hm, by rw [h]; decide⟩
theorem all_more {α : Type} {l : List α} {p : α → Bool} {m : Nat} (hm : m < l.length) (h0 : (l.take m).all p = true) (h : p l[m] = true) : (l.take (m + 1)).all p = true := by
  rw [List.take_succ_eq_append_getElem hm, List.all_append, h0]; simp [h]
theorem keyE_is {e : En} (h : 0 < e.heads.length) : keyE e = (e.heads[0]).1 ++ (64 : UInt8) :: (e.heads[0]).2 := by unfold keyE ndKeyL; rw [bdAt_is h]
theorem SmEn.head {e : En} (h : SmEn e) (k : Nat) (hk : k < e.heads.length) : e.heads[k].1.length + e.heads[k].2.length ≤ 1048576 := by
  have h1 := h.heads
  have h2 := smB_mem e.heads[k] (List.getElem_mem hk)
  omega

set_option maxRecDepth 100000 in
set_option maxHeartbeats 8000000 in
theorem specEntriesOf_any (v : Value) (es : List En) (w : World) (hr : RdEs w v es) (hs : SmEs es) :
    Calls Tryz.prog 12 #[v] w fun x w' => x = .returned (.bool (eoL es)) ∧ Below w.heap.size w w' := by
  have HR := Lib.hid hr
  have HS := Lib.hid hs
  have hl : es.length ≤ 1048576 := by unfold SmEs at hs; omega
  have hh : ∀ e ∈ es, e.heads.length ≤ 1048576 := fun e he => by
    obtain ⟨k, hk, rfl⟩ := List.mem_iff_getElem.1 he
    have := (hs.get k hk).heads; omega
  have HRES := Lib.hid (fun (W : World) (h : Below w.heap.size w W) (n : Bd) => specResolve_any v es n W (hr.below h) hl hh)
  obtain ⟨A, ca, rfl⟩ := hr.slice
  obtain ⟨r, HRR⟩ : ∃ r, Hid (eoL es = r) := ⟨_, Lib.hid rfl⟩
  rw [HRR.out]
  have HL := Lib.hid hl
  clear hr hs hh hl
  go_enter Tryz.func12, Tryz.ntmps12
  go_wp2_with fail
  go_loopw [3, 4] (fun i _ wr => ∃ k : Nat, k ≤ es.length ∧ i = .int .i64 k ∧ Hid (allTo (eoAt es) k = true) ∧ Below w.heap.size w wr) (fun i _ _ => es.length - (intOf i).toNat)
  case atStart => exact ⟨0, Nat.zero_le _, rfl, Lib.hid rfl, Below.refl _ _⟩
  case round =>
    obtain ⟨k, hk, rfl, HT, hb⟩ := hrel
    have hl := HL.out
    by_cases hlt : k < es.length
    · have HRW := Lib.hid (HR.out.below hb)
      obtain ⟨g, off, rfl, hg, a0, a1, d0, d1, d2, d3, d4, r0, r1⟩ := HRW.out.at k hlt
      have hnl : es[k].heads.length ≤ 1048576 := by have := (HS.out.get k hlt).heads; omega
      have HEN := Lib.hid (fun (F : Fut wr) => l08Entry_any es[k] a0 a1 F.out (r0.below F.bel) (r1.below F.bel) (HS.out.get k hlt))
      have HRB := Lib.hid (fun (W : World) (h : Below wr.heap.size wr W) => r0.below h)
      have HBAD := Lib.hid (fun (h : eoAt es k = false) => (show r = false by rw [← HRR.out]; exact eo_bad hlt h))
      have HGO := Lib.hid (fun (h : eoAt es k = true) => allTo_step HT.out h)
      obtain ⟨A1, c1, rfl⟩ := rdB_slice r0
      obtain ⟨A2, c2, rfl⟩ := rdB_slice r1
      have y0 := fut_cell d0
      have y1 := fut_cell d1
      have y2 := fut_cell d2
      have y3 := fut_cell d3
      have y4 := fut_cell d4
      have k0 : (0 : Int) ≤ (k : Int) := by omega
      have k1 : (k : Int) < (es.length : Int) := by omega
      unfold enV at HEN
      obtain ⟨en, HENN⟩ : ∃ b, Hid (enOk es[k] = b) := ⟨_, Lib.hid rfl⟩
      simp only [HENN.out] at HEN
      have HD0 := Lib.hid d0
      clear r0 r1 d1 d2 d3 d4 d0
      cases en with
      | false =>
        have HX : Hid (r = false) := Lib.hid (HBAD.out (by unfold eoAt enAtB; rw [es_at hlt, HENN.out]; rfl))
        clear HBAD HGO
        go_wp2_with fail
        refine wp_region_fut (by kernel_rfl) (by kernel_rfl) ?_
        repeat (first | go_big_quiet_skip | (go_big_quiet_want; go_big_quiet_op; first | go_big_quiet_on | go_big_quiet_call ((go_at_call 41; exact fut_call (HEN.out _)))))
        refine wpQuiet_nil ?_
        rintro _ ⟨⟨w3, hb3⟩, rfl⟩
        go_wp2_with fail
        go_ret
        exact ⟨ret_bool HX.out.symm, hb.trans (hb3.mono hb.size)⟩
      | true =>
        have h1 := en_heads HENN.out
        obtain ⟨gh, oh, rfl, hgh, p0, p1⟩ := RdB.atR (HRB.out wr (Below.refl _ _)) 0 h1
        rw [Nat.zero_mul, Nat.add_zero] at p0 p1
        have f0 := fut_cell p0
        have f1 := fut_cell p1
        have HK := Lib.hid (fun (F : Fut wr) => l08Key_any ⟨es[k].heads[0].1.toArray⟩ ⟨es[k].heads[0].2.toArray⟩ F.out (by rw [size_of, size_of]; exact (HS.out.get k hlt).head 0 h1))
        have HKE := Lib.hid (keyE_is h1)
        have hnl0 : (0 : Int) < (es[k].heads.length : Int) := by omega
        obtain ⟨ka, HKA⟩ : ∃ x : ByteArray, Hid (ndKey ⟨es[k].heads[0].1.toArray⟩ ⟨es[k].heads[0].2.toArray⟩ = x) := ⟨_, Lib.hid rfl⟩
        have HKL : Hid (ka.data.toList = keyE es[k]) := Lib.hid (by rw [← HKA.out, HKE.out]; simp [ndKey])
        simp only [HKA.out] at HK
        clear HKE p0 p1
        have key : Hid ((enAtB es k = false ∧ r = false) ∨ enAtB es k = true) := Lib.hid (by
          cases h : enAtB es k with
          | true => exact .inr rfl
          | false => exact .inl ⟨rfl, HBAD.out (by unfold eoAt; rw [h]; rfl)⟩)
        have HEA : Hid (enAtB es k = (decide (k = 0) || Op.bytesLess (keyE (es.getD (k - 1) default)) (keyE es[k]))) := Lib.hid (by unfold enAtB; rw [es_at hlt, HENN.out]; rfl)
        by_cases hz : k = 0
        · have HEK : Hid (enAtB es k = true) := Lib.hid (by rw [HEA.out, decide_eq_true hz]; rfl)
          have g1 : decide ((0 : Int) < (k : Int)) = false := by simp; omega
          have g2 : decide (0 < k) = false := by simp; omega
          clear hz HEA key
          go_wp2_with fail
          refine wp_region_fut (by kernel_rfl) (by kernel_rfl) ?_
          repeat (first | go_big_quiet_skip | (go_big_quiet_want; go_big_quiet_op; first | go_big_quiet_on | go_big_quiet_call ((go_at_call 41; exact fut_call (HEN.out _)))))
          refine wpQuiet_nil ?_
          rintro _ ⟨⟨w3, hb3⟩, rfl⟩
          have B3 := hb.trans (hb3.mono hb.size)
          have D0 := keepC hb3 HD0.out
          clear f0 f1 y0 y1 y2 y3 y4 g1 g2
          go_wp2_with fail
          go_loopw [4] (fun i W => ∃ m : Nat, m ≤ es[k].heads.length ∧ i = .int .i64 m ∧ Hid ((es[k].heads.take m).all (fun h => resK es h 0 == (k : Int)) = true) ∧ Below wr.heap.size wr W) (fun i _ => es[k].heads.length - (intOf i).toNat)
          case atStart => exact ⟨0, Nat.zero_le _, rfl, Lib.hid rfl, hb3⟩
          case round =>
            obtain ⟨m, hm, rfl, HM, hb5⟩ := hrel
            clear D0
            have D5 := keepC hb5 HD0.out
            by_cases hmt : m < es[k].heads.length
            · obtain ⟨gm, om, hge, _, n0, n1⟩ := RdB.atR (HRB.out _ hb5) m hmt
              simp only [Option.some.injEq, Addr.mk.injEq, and_true] at hge
              obtain ⟨rfl, rfl⟩ := hge
              have HRS := Lib.hid (HRES.out _ (hb.trans (hb5.mono hb.size)) es[k].heads[m])
              obtain ⟨zz, HZZ⟩ : ∃ z, Hid (resK es es[k].heads[m] 0 = z) := ⟨_, Lib.hid rfl⟩
              simp only [HZZ.out] at HRS
              have m0 : (0 : Int) ≤ (m : Int) := by omega
              have m1 : (m : Int) < (es[k].heads.length : Int) := by omega
              by_cases hzk : zz = (k : Int)
              · have q1 : (zz != (k : Int)) = false := by simp [hzk]
                have HM2 : Hid ((es[k].heads.take (m + 1)).all (fun h => resK es h 0 == (k : Int)) = true) := Lib.hid (all_more hmt HM.out (by rw [HZZ.out, hzk]; simp))
                clear hzk
                go_wp2_with fail
                refine HRS.out.mono ?_
                rintro _ w6 ⟨rfl, hb6⟩
                have B6 := hb5.trans (hb6.mono hb5.size)
                go_wp2_with fail
                go_roundw
                case rel => exact ⟨m + 1, by omega, by go_num, HM2, B6⟩
                case measure => simp [intOf]; omega
              · have q1 : (zz != (k : Int)) = true := by simpa using hzk
                have HX : Hid (r = false) := Lib.hid (HBAD.out (by unfold eoAt; rw [hdRes_is hlt, all_bad hmt (by rw [HZZ.out]; simpa using hzk), Bool.and_false]))
                clear hzk
                go_wp2_with fail
                refine HRS.out.mono ?_
                rintro _ w6 ⟨rfl, hb6⟩
                go_wp2_with fail
                go_ret
                exact ⟨ret_bool HX.out.symm, (hb.trans (hb5.mono hb.size)).trans (hb6.mono (Nat.le_trans hb.size hb5.size))⟩
            · have HN2 := Lib.hid (HGO.out (by
                have := HM.out
                rw [List.take_of_length_le (by omega)] at this
                unfold eoAt
                rw [HEK.out, hdRes_is hlt, this]; rfl))
              have m2 : ¬ (m : Int) < (es[k].heads.length : Int) := by omega
              have B5 := hb.trans (hb5.mono hb.size)
              go_wp2_with fail
              go_roundw
              case rel => exact ⟨k + 1, by omega, by go_num, HN2, B5⟩
              case measure => simp [intOf]; omega
        · obtain ⟨j, hj⟩ : ∃ j, k = j + 1 := ⟨k - 1, by omega⟩
          have hjl : j < es.length := by omega
          have hje : enOk es[j] = true := eoAt_en hjl (allTo_get HT.out j (by omega))
          have hj1 := en_heads hje
          obtain ⟨gj, oj, hge, _, b0, b1, e0, e1, e2, e3, e4, s0, s1⟩ := HRW.out.at j hjl
          simp only [Option.some.injEq, Addr.mk.injEq, and_true] at hge
          obtain ⟨rfl, rfl⟩ := hge
          have HSJ := Lib.hid s0
          obtain ⟨A3, c3, rfl⟩ := rdB_slice s0
          obtain ⟨gq, oq, rfl, hgq, q0, q1⟩ := RdB.atR HSJ.out 0 hj1
          rw [Nat.zero_mul, Nat.add_zero] at q0 q1
          have u0 := fut_cell e0
          have u1 := fut_cell q0
          have u2 := fut_cell q1
          have HKJ := Lib.hid (fun (F : Fut wr) => l08Key_any ⟨es[j].heads[0].1.toArray⟩ ⟨es[j].heads[0].2.toArray⟩ F.out (by rw [size_of, size_of]; exact (HS.out.get j hjl).head 0 hj1))
          have HJE := Lib.hid (keyE_is hj1)
          obtain ⟨kb, HKB⟩ : ∃ x : ByteArray, Hid (ndKey ⟨es[j].heads[0].1.toArray⟩ ⟨es[j].heads[0].2.toArray⟩ = x) := ⟨_, Lib.hid rfl⟩
          have HJL : Hid (kb.data.toList = keyE es[j]) := Lib.hid (by rw [← HKB.out, HJE.out]; simp [ndKey])
          simp only [HKB.out] at HKJ
          have hjn0 : (0 : Int) < (es[j].heads.length : Int) := by omega
          have jw : IntKind.i64.wrap ((k : Int) - 1) = (j : Int) := by rw [show (k : Int) - 1 = (j : Int) by omega]; exact IntWalk.i64_in _ (by omega)
          have g0 : (0 : Int) < (k : Int) := by omega
          have g1 : decide (0 < k) = true := by simp; omega
          have j0 : (0 : Int) ≤ (j : Int) := by omega
          have j1 : (j : Int) < (es.length : Int) := by omega
          have HEA2 : Hid (enAtB es k = Op.bytesLess kb.data.toList ka.data.toList) := Lib.hid (by rw [HEA.out, decide_eq_false hz, show k - 1 = j by omega, es_at hjl, HKL.out, HJL.out]; rfl)
          have HJ := Lib.hid hj
          clear HEA hz hj e0 e1 e2 e3 e4 s0 s1 q0 q1 HJE hje
          cases hl2 : Op.bytesLess kb.toList ka.toList with
          | false =>
            have HX : Hid (r = false) := Lib.hid (by
              rw [ByteArray.toList_eq, ByteArray.toList_eq] at hl2
              rcases key.out with h | h
              · exact h.2
              · rw [HEA2.out, hl2] at h; cases h)
            clear key HEA2 HBAD HGO
            go_wp2_with fail
            refine wp_region_fut (by kernel_rfl) (by kernel_rfl) ?_
            repeat (first | go_big_quiet_skip | (go_big_quiet_want; go_big_quiet_op; first | go_big_quiet_on | go_big_quiet_call (first | (go_at_call 41; exact fut_call (HEN.out _)) | (go_at_call 42; exact fut_call (HKJ.out _)) | (go_at_call 42; exact fut_call (HK.out _)))))
            refine wpQuiet_nil ?_
            rintro _ ⟨⟨w3, hb3⟩, rfl⟩
            go_wp2_with fail
            go_ret
            exact ⟨ret_bool HX.out.symm, hb.trans (hb3.mono hb.size)⟩
          | true =>
            have HEK : Hid (enAtB es k = true) := Lib.hid (by rw [HEA2.out, ← ByteArray.toList_eq, ← ByteArray.toList_eq]; exact hl2)
            clear key HEA2
            go_wp2_with fail
            refine wp_region_fut (by kernel_rfl) (by kernel_rfl) ?_
            repeat (first | go_big_quiet_skip | (go_big_quiet_want; go_big_quiet_op; first | go_big_quiet_on | go_big_quiet_call (first | (go_at_call 41; exact fut_call (HEN.out _)) | (go_at_call 42; exact fut_call (HKJ.out _)) | (go_at_call 42; exact fut_call (HK.out _)))))
            refine wpQuiet_nil ?_
            rintro _ ⟨⟨w3, hb3⟩, rfl⟩
            have B3 := hb.trans (hb3.mono hb.size)
            have D0 := keepC hb3 HD0.out
            clear f0 f1 y0 y1 y2 y3 y4 u0 u1 u2 g0 g1 hl2
            go_wp2_with fail
            go_loopw [4] (fun i W => ∃ m : Nat, m ≤ es[k].heads.length ∧ i = .int .i64 m ∧ Hid ((es[k].heads.take m).all (fun h => resK es h 0 == (k : Int)) = true) ∧ Below wr.heap.size wr W) (fun i _ => es[k].heads.length - (intOf i).toNat)
            case atStart => exact ⟨0, Nat.zero_le _, rfl, Lib.hid rfl, hb3⟩
            case round =>
              obtain ⟨m, hm, rfl, HM, hb5⟩ := hrel
              clear D0
              have D5 := keepC hb5 HD0.out
              by_cases hmt : m < es[k].heads.length
              · obtain ⟨gm, om, hge, _, n0, n1⟩ := RdB.atR (HRB.out _ hb5) m hmt
                simp only [Option.some.injEq, Addr.mk.injEq, and_true] at hge
                obtain ⟨rfl, rfl⟩ := hge
                have HRS := Lib.hid (HRES.out _ (hb.trans (hb5.mono hb.size)) es[k].heads[m])
                obtain ⟨zz, HZZ⟩ : ∃ z, Hid (resK es es[k].heads[m] 0 = z) := ⟨_, Lib.hid rfl⟩
                simp only [HZZ.out] at HRS
                have m0 : (0 : Int) ≤ (m : Int) := by omega
                have m1 : (m : Int) < (es[k].heads.length : Int) := by omega
                by_cases hzk : zz = (k : Int)
                · have q1 : (zz != (k : Int)) = false := by simp [hzk]
                  have HM2 : Hid ((es[k].heads.take (m + 1)).all (fun h => resK es h 0 == (k : Int)) = true) := Lib.hid (all_more hmt HM.out (by rw [HZZ.out, hzk]; simp))
                  clear hzk
                  go_wp2_with fail
                  refine HRS.out.mono ?_
                  rintro _ w6 ⟨rfl, hb6⟩
                  have B6 := hb5.trans (hb6.mono hb5.size)
                  go_wp2_with fail
                  go_roundw
                  case rel => exact ⟨m + 1, by omega, by go_num, HM2, B6⟩
                  case measure => simp [intOf]; omega
                · have q1 : (zz != (k : Int)) = true := by simpa using hzk
                  have HX : Hid (r = false) := Lib.hid (HBAD.out (by unfold eoAt; rw [hdRes_is hlt, all_bad hmt (by rw [HZZ.out]; simpa using hzk), Bool.and_false]))
                  clear hzk
                  go_wp2_with fail
                  refine HRS.out.mono ?_
                  rintro _ w6 ⟨rfl, hb6⟩
                  go_wp2_with fail
                  go_ret
                  exact ⟨ret_bool HX.out.symm, (hb.trans (hb5.mono hb.size)).trans (hb6.mono (Nat.le_trans hb.size hb5.size))⟩
              · have HN2 := Lib.hid (HGO.out (by
                  have := HM.out
                  rw [List.take_of_length_le (by omega)] at this
                  unfold eoAt
                  rw [HEK.out, hdRes_is hlt, this]; rfl))
                have m2 : ¬ (m : Int) < (es[k].heads.length : Int) := by omega
                have B5 := hb.trans (hb5.mono hb.size)
                go_wp2_with fail
                go_roundw
                case rel => exact ⟨k + 1, by omega, by go_num, HN2, B5⟩
                case measure => simp [intOf]; omega
    · have HX : Hid (r = decide (es.length ≤ 40)) := Lib.hid (by
        have := HT.out
        rw [show k = es.length by omega] at this
        rw [← HRR.out, eoL_all, this, Bool.and_true])
      have k2 : ¬ (k : Int) < (es.length : Int) := by omega
      by_cases h40 : es.length ≤ 40
      · have HX2 : Hid (r = true) := Lib.hid (by rw [HX.out, decide_eq_true h40])
        have q1 : (es.length : Int) ≤ 40 := by omega
        go_wp2_with fail
        go_ret
        exact ⟨ret_bool HX2.out.symm, hb⟩
      · have HX2 : Hid (r = false) := Lib.hid (by rw [HX.out, decide_eq_false h40])
        have q1 : ¬ (es.length : Int) ≤ 40 := by omega
        go_wp2_with fail
        go_ret
        exact ⟨ret_bool HX2.out.symm, hb⟩
end Go.Proofs.YtnodhkjgnegkcaaGreatDoor

namespace Go.Proofs.YtnodhkjgnegkcaaGreatDoor
open Go.RowKit Go.Shelf
attribute [local go_sem] Oper.semAt_some

abbrev HdP := Nat × Bd
def hdV (x : HdP) : Array Value := #[.int .i64 (x.1 : Int), .agg #[.string ⟨x.2.1.toArray⟩, .string ⟨x.2.2.toArray⟩]]
def hdF (es : List En) (i : Nat) : List HdP := (es.getD i default).heads.map fun h => (i, h)
/-- All heads as far as head m of entry k. -/
def hdTo (es : List En) (k m : Nat) : List HdP := (List.range k).flatMap (hdF es) ++ (hdF es k).take m
def hdAll (es : List En) : List HdP := (List.range es.length).flatMap (hdF es)
theorem es_getD {es : List En} {k : Nat} (h : k < es.length) : es.getD k default = es[k] := by rw [List.getD_eq_getElem?_getD, List.getElem?_eq_getElem h]; rfl
theorem hdF_at {es : List En} {k : Nat} (h : k < es.length) : hdF es k = es[k].heads.map fun h => (k, h) := by unfold hdF; rw [es_getD h]
theorem hdTo_next {es : List En} {k : Nat} (h : k < es.length) : hdTo es k es[k].heads.length = hdTo es (k + 1) 0 := by
  unfold hdTo
  rw [List.take_of_length_le (by rw [hdF_at h]; simp), List.range_succ, List.flatMap_append]
  simp
theorem hdTo_step {es : List En} {k m : Nat} (h : k < es.length) (hm : m < es[k].heads.length) : hdTo es k (m + 1) = hdTo es k m ++ [(k, es[k].heads[m])] := by
  unfold hdTo
  rw [List.take_succ_eq_append_getElem (by rw [hdF_at h]; simpa using hm), List.append_assoc]
  congr 3
  simp [hdF_at h]
theorem hdTo_end (es : List En) : hdTo es es.length 0 = hdAll es := by unfold hdTo hdAll; simp
theorem range_parts {n k : Nat} (h : k < n) : List.range n = List.range k ++ k :: (List.range n).drop (k + 1) := by
  have h1 := (List.take_append_drop k (List.range n)).symm
  rw [List.drop_eq_getElem_cons (by simpa using h), List.take_range, Nat.min_eq_left (by omega)] at h1
  simpa using h1
theorem hdTo_pre {es : List En} {k : Nat} (m : Nat) (h : k < es.length) : hdTo es k m <+: hdAll es := by
  unfold hdTo hdAll
  rw [range_parts h, List.flatMap_append, List.flatMap_cons]
  refine ⟨(hdF es k).drop m ++ ((List.range es.length).drop (k + 1)).flatMap (hdF es), ?_⟩
  rw [List.append_assoc, ← List.append_assoc ((hdF es k).take m), List.take_append_drop]

/-- Nothing that is older than n0 has been written. -/
def KpO (n0 : Nat) (A B : World) : Prop := ∀ b, b < n0 → B.heap[b]? = A.heap[b]?
theorem KpO.refl (n0 : Nat) (A : World) : KpO n0 A A := fun _ _ => rfl
theorem kpO_t {n0 : Nat} {A B C : World} (h : KpO n0 A B) (k : KpO n0 B C) : KpO n0 A C := fun b hb => (k b hb).trans (h b hb)
theorem KpO.of_grown {n0 : Nat} {A B : World} {row : Option Nat} (hg : A.grownBy B row) (h1 : n0 ≤ A.heap.size) (hr : ∀ r, row = some r → n0 ≤ r) : KpO n0 A B := fun b hb => hg.block b (by omega) (fun e => by have := hr b e.symm; omega)
theorem KpO.of_below {n0 n : Nat} {A B : World} (h : Below n A B) (h1 : n0 ≤ n) : KpO n0 A B := fun b hb => h.block b (by omega)
theorem kpO_b {n0 : Nat} {w : World} (h1 : n0 ≤ w.heap.size) (W : World) (l : Nat) (o o' : Obj) (hl : w.heap.size ≤ l) (h : W.heap[l]? = some o) (_ : o.isCells = false) (_ : o.isWalk = false) : KpO n0 W (W.putObj l o') := by
  have hlt := (Array.getElem?_eq_some_iff.1 h).1
  exact KpO.of_grown (grownBy_putObj' W l o') (by omega) (fun r e => by cases e; omega)
theorem KpO.size {A B : World} (h : KpO A.heap.size A B) : A.heap.size ≤ B.heap.size := by
  rcases Nat.eq_zero_or_pos A.heap.size with h0 | h0
  · omega
  · have h1 := h (A.heap.size - 1) (by omega)
    rw [Array.getElem?_eq_getElem (by omega : A.heap.size - 1 < A.heap.size)] at h1
    have := lt_of_heap h1
    omega
theorem cell_heap {V W : World} (e : V.heap = W.heap) (a : Addr) : V.cell? a = W.cell? a := by unfold World.cell?; rw [e]
theorem KpO.rdEs {A B : World} {v : Value} {es : List En} (h : KpO A.heap.size A B) (hr : RdEs A v es) : RdEs B v es := by
  obtain ⟨V, hV, hb⟩ : ∃ V : World, V.heap = B.heap ∧ Below A.heap.size A V := ⟨{ A with heap := B.heap }, rfl, rfl, rfl, rfl, h.size, fun b hb => h b hb⟩
  have h2 := hr.below hb
  unfold RdEs EnAt RdB at h2 ⊢
  simp only [cell_heap hV, hV] at h2
  exact h2
theorem KpO.rdB {A B : World} {v : Value} {bs : List Bd} (h : KpO A.heap.size A B) (hr : RdB A v bs) : RdB B v bs := by
  obtain ⟨V, hV, hb⟩ : ∃ V : World, V.heap = B.heap ∧ Below A.heap.size A V := ⟨{ A with heap := B.heap }, rfl, rfl, rfl, rfl, h.size, fun b hb => h b hb⟩
  have h2 := hr.below hb
  unfold RdB at h2 ⊢
  simp only [cell_heap hV, hV] at h2
  exact h2
theorem KpO.cell {A B : World} {g o : Nat} {x : Value} (h : KpO A.heap.size A B) (hg : g < A.heap.size) (hc : A.cell? ⟨g, o, none⟩ = some x) : B.cell? ⟨g, o, none⟩ = some x := by
  rw [← hc]; unfold World.cell?; rw [h g hg]

set_option maxHeartbeats 1000000 in
theorem headsOf_in (n : Nat) (A : Option Addr) (len cap : Nat) (w : World) :
    CallsIn Fence.wide n Tryz.prog 47 #[.slice A len cap] w fun e w' => e = .returned (.func (.func 100) #[] #[.pointer (some ⟨w.heap.size, 0, none⟩)]) ∧ w' = w.alloc (.cells #[.slice A len cap] 25) := by
  refine callsIn_of_wp Tryz.func47 rfl trivial ?_ rfl
  simp only [Tryz.ntmps47, List.size_toArray, List.length_cons, List.length_nil, Nat.reduceAdd, Nat.reduceSub, Array.replicate_succ, Array.replicate_zero, List.push_toArray, List.append_toArray, List.nil_append, List.cons_append]
  gi_wp2
  go_ret
  exact ⟨rfl, rfl⟩

set_option maxRecDepth 100000 in
set_option maxHeartbeats 4000000 in
theorem heads1_in (n : Nat) (hn : 1 ≤ n) (l Bs : Nat) (A : Option Addr) (cap : Nat) (es : List En) (w0 : World) (hr : RdEs w0 (.slice A es.length cap) es) (hl : es.length ≤ 1048576) (hs : ∀ e ∈ es, e.heads.length ≤ 1048576)
    (J Jx : List HdP → World → Prop)
    (hY : ∀ pre x W, J pre W → pre.length < (hdAll es).length → x ∈ hdAll es → YieldAt Fence.wide (n - 1) Tryz.prog l (hdV x) W fun e W' =>
      (e = .returned (.bool true) ∧ J (pre ++ [x]) W' ∧ KpO w0.heap.size W W') ∨ (e = .returned (.bool false) ∧ Jx (pre ++ [x]) W'))
    (W : World) (hW : KpO w0.heap.size w0 W) (hB1 : W.heap[Bs]? = some (.cells #[.slice A es.length cap] 25 (0, 0))) (h0 : J [] W) (hJa : AbidesFrom W.heap.size J) :
    CallsIn Fence.wide n Tryz.prog 100 #[.func (.yield l) #[] #[], .pointer (some ⟨Bs, 0, none⟩)] W fun e W' => (∃ v, e = .returned v) ∧
      ((∃ ys, ys = hdAll es ∧ J ys W') ∨ (∃ pre, pre <+: hdAll es ∧ Jx pre W')) := by
  have hc1 : W.cell? ⟨Bs, 0, none⟩ = some (.slice A es.length cap) := by simp [World.cell?, hB1]
  have HR := Lib.hid hr
  have HS := Lib.hid hs
  clear hr hs hB1
  refine callsIn_of_wp Tryz.func100 rfl trivial ?_ rfl
  simp only [Tryz.ntmps100, List.size_toArray, List.length_cons, List.length_nil, Nat.reduceAdd, Nat.reduceSub, Array.replicate_succ, Array.replicate_zero, List.push_toArray, List.append_toArray, List.nil_append, List.cons_append]
  gi_wp2
  gi_loopw [9] (fun i wr => ∃ k : Nat, k ≤ es.length ∧ i = .int .i64 (k : Int) ∧ KpO w0.heap.size w0 wr ∧ J (hdTo es k 0) wr) (fun i _ => es.length - (intOf i).toNat)
  case atStart => exact ⟨0, Nat.zero_le _, rfl, hW, by simpa [hdTo] using h0⟩
  case round =>
    obtain ⟨k, hk, rfl, hK, hJ⟩ := hrel
    by_cases hlt : k < es.length
    · obtain ⟨g, off, rfl, hg, a0, a1, d0, d1, d2, d3, d4, r0, r1⟩ := HR.out.at k hlt
      have hnl := HS.out _ (List.getElem_mem hlt)
      obtain ⟨A1, c1, rfl⟩ := rdB_slice r0
      obtain ⟨A2, c2, rfl⟩ := rdB_slice r1
      have HRB := Lib.hid (fun (V : World) (h : KpO w0.heap.size w0 V) => h.rdB r0)
      have k0 : (0 : Int) ≤ (k : Int) := by omega
      have k1 : (k : Int) < (es.length : Int) := by omega
      obtain ⟨nl, HNL⟩ : ∃ nl, Hid (es[k].heads.length = nl) := ⟨_, Lib.hid rfl⟩
      rw [HNL.out] at hnl HRB d0
      replace d0 := hK.cell hg d0
      replace d1 := hK.cell hg d1
      replace d2 := hK.cell hg d2
      replace d3 := hK.cell hg d3
      replace d4 := hK.cell hg d4
      have HJ1 : Hid (J (hdTo es k 0) (wr.alloc (.cells #[.slice A1 nl c1, .string ⟨es[k].ver.toArray⟩, .string ⟨es[k].res.toArray⟩, .string ⟨es[k].int.toArray⟩, .slice A2 es[k].needs.length c2] 62))) := Lib.hid (hJa _ wr _ none hJ (gr_alloc _ _ _) (fun r e => by cases e))
      have HK1 : Hid (KpO w0.heap.size w0 (wr.alloc (.cells #[.slice A1 nl c1, .string ⟨es[k].ver.toArray⟩, .string ⟨es[k].res.toArray⟩, .string ⟨es[k].int.toArray⟩, .slice A2 es[k].needs.length c2] 62))) := Lib.hid (kpO_t hK (KpO.of_grown (gr_alloc _ _ none) hK.size (fun r e => by cases e)))
      clear r0 r1 hJ
      gi_wp2
      gi_loopw [17] (fun j V => ∃ m : Nat, m ≤ nl ∧ j = .int .i64 (m : Int) ∧ KpO w0.heap.size w0 V ∧ J (hdTo es k m) V) (fun j _ => nl - (intOf j).toNat)
      case atStart => exact ⟨0, Nat.zero_le _, rfl, HK1.out, HJ1.out⟩
      case round =>
        rename_i wq _
        obtain ⟨m, hm, rfl, hK2, hJ2⟩ := hrel
        clear HJ1 HK1 d0 d1 d2 d3 d4 hK
        by_cases hmt : m < nl
        · have hmt' : m < es[k].heads.length := by rw [HNL.out]; exact hmt
          obtain ⟨g2, off2, rfl, hg2, e0, e1⟩ := RdB.atR (HRB.out _ hK2) m hmt'
          have m0 : (0 : Int) ≤ (m : Int) := by omega
          have m1 : (m : Int) < (nl : Int) := by omega
          have hJ3 : J (hdTo es k m) (wr.alloc (.cells #[.string ⟨es[k].heads[m].1.toArray⟩, .string ⟨es[k].heads[m].2.toArray⟩] 65)) := hJa _ wr _ none hJ2 (gr_alloc _ _ _) (fun r e => by cases e)
          have HK3 : Hid (KpO w0.heap.size w0 (wr.alloc (.cells #[.string ⟨es[k].heads[m].1.toArray⟩, .string ⟨es[k].heads[m].2.toArray⟩] 65))) := Lib.hid (kpO_t hK2 (KpO.of_grown (gr_alloc _ _ none) hK2.size (fun r e => by cases e)))
          have HTK := Lib.hid (hdTo_step hlt hmt')
          have HPR := Lib.hid (hdTo_pre (m + 1) hlt)
          have hyy := hY (hdTo es k m) (k, es[k].heads[m]) _ hJ3 (by have h1 := HPR.out.length_le; have h2 := congrArg List.length HTK.out; simp at h2; omega) (HPR.out.subset (by rw [HTK.out]; simp))
          rw [← HTK.out] at hyy
          unfold hdV at hyy
          obtain ⟨fn, tmps, assign, body, hy, hR⟩ := hyy
          have HR2 := Lib.hid hR
          clear hR hJ2 hJ3 hK2
          gi_wp2
          refine HR2.out.mono ?_
          rintro e W3 (⟨rfl, hJ4, hK4⟩ | ⟨rfl, hJx4⟩)
          · gi_wp2
            go_roundw
            case rel => exact ⟨m + 1, by omega, by go_num, kpO_t HK3.out hK4, hJ4⟩
            case measure => simp [intOf]; omega
          · gi_wp2
            refine bodyPost_ret (results_none rfl _ _ _) rfl ?_
            exact ⟨⟨_, rfl⟩, .inr ⟨_, HPR.out, hJx4⟩⟩
        · have hJ3 : J (hdTo es (k + 1) 0) wr := by
            rw [← hdTo_next hlt, HNL.out, show nl = m by omega]; exact hJ2
          clear hJ2
          gi_wp2
          go_roundw
          case rel => exact ⟨k + 1, by omega, by go_num, hK2, hJ3⟩
          case measure => simp [intOf]; omega
    · have hJ3 : J (hdAll es) wr := by
        rw [← hdTo_end, show es.length = k by omega]; exact hJ
      have k2 : ¬ (k : Int) < (es.length : Int) := by omega
      clear hJ
      gi_wp2
      go_end0
      first | exact ⟨⟨_, rfl⟩, .inl ⟨_, rfl, hJ3⟩⟩ | exact ⟨⟨_, rfl⟩, .inl hJ3⟩

/-- The iterator's contract, for a caller. -/
theorem heads_stops (n : Nat) (hn : 1 ≤ n) (Bs : Nat) (A : Option Addr) (cap : Nat) (es : List En) (w : World) (hr : RdEs w (.slice A es.length cap) es) (hl : es.length ≤ 1048576) (hs : ∀ e ∈ es, e.heads.length ≤ 1048576)
    (hB0 : w.heap[Bs]? = some (.cells #[.slice A es.length cap] 25 (0, 0))) :
    SeqStopsK Fence.wide n Tryz.prog 100 #[.pointer (some ⟨Bs, 0, none⟩)] hdV (KpO w.heap.size) (fun ys => ys = hdAll es) (fun pre => pre <+: hdAll es) (hdAll es).length w := fun l J Jx W hW hJ _ hY h0 =>
  heads1_in n hn l Bs A cap es w hr hl hs J Jx (fun pre x W1 h1 h2 _ => hY pre x W1 h1 h2) W (KpO.of_below hW (Nat.le_refl _)) ((hW.block Bs (lt_of_heap hB0)).trans hB0) h0 hJ
abbrev HdT (es : List En) := {x : HdP // x ∈ hdAll es}
/-- The same where what the entries lie in is older than the world in which the iterator starts; what it yields is among the heads. -/
theorem heads_stopsT (n : Nat) (hn : 1 ≤ n) (Bs : Nat) (A : Option Addr) (cap : Nat) (es : List En) (w0 w : World) (hr : RdEs w0 (.slice A es.length cap) es) (hl : es.length ≤ 1048576) (hs : ∀ e ∈ es, e.heads.length ≤ 1048576)
    (hk : KpO w0.heap.size w0 w) (hB0 : w.heap[Bs]? = some (.cells #[.slice A es.length cap] 25 (0, 0))) :
    SeqStopsK Fence.wide n Tryz.prog 100 #[.pointer (some ⟨Bs, 0, none⟩)] (fun x : HdT es => hdV x.1) (KpO w0.heap.size) (fun ys => ys.map Subtype.val = hdAll es) (fun pre => pre.map Subtype.val <+: hdAll es) (hdAll es).length w := by
  intro l J Jx W hW hJ _ hY h0
  refine (heads1_in n hn l Bs A cap es w0 hr hl hs (fun ls W => ∃ lt : List (HdT es), lt.map Subtype.val = ls ∧ J lt W) (fun ls W => ∃ lt : List (HdT es), lt.map Subtype.val = ls ∧ Jx lt W)
    (fun pre x W1 ⟨lt, e, hj⟩ hlen hmem => ?_) W (kpO_t hk (KpO.of_below hW hk.size)) ((hW.block Bs (lt_of_heap hB0)).trans hB0) ⟨[], rfl, h0⟩ (fun ls W1 W2 row ⟨lt, e, hj⟩ hg hr => ⟨lt, e, hJ lt W1 W2 row hj hg hr⟩)).mono ?_
  · obtain ⟨fn, tmps, assign, body, hy, hR⟩ := hY lt ⟨x, hmem⟩ W1 hj (by rw [← e] at hlen; simpa using hlen)
    refine ⟨fn, tmps, assign, body, hy, hR.mono ?_⟩
    rintro e' W' (⟨h1, h2, h3⟩ | ⟨h1, h2⟩)
    · exact .inl ⟨h1, ⟨lt ++ [⟨x, hmem⟩], by simp [e], h2⟩, h3⟩
    · exact .inr ⟨h1, ⟨lt ++ [⟨x, hmem⟩], by simp [e], h2⟩⟩
  · rintro e W' ⟨hv, h⟩
    refine ⟨hv, ?_⟩
    rcases h with ⟨ys, hy, lt, e, hj⟩ | ⟨pre, hp, lt, e, hj⟩
    · exact .inl ⟨lt, e.trans hy, hj⟩
    · exact .inr ⟨lt, (congrArg (· <+: hdAll es) e).mpr hp, hj⟩
end Go.Proofs.YtnodhkjgnegkcaaGreatDoor
