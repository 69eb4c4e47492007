/-
  strings.Cut, as the library lays it, at this seat.
-/
import Derived.Test.YtnodhkjgnegkcaaGreatDoorWholeD
import Derived.Test.YtnodhkjgnegkcaaGreatDoorWholeF
import Derived.Test.YtnodhkjgnegkcaaGreatDoorWholeE
import Derived.Test.YtnodhkjgnegkcaaGreatDoorGrw
import Derived.Test.YtnodhkjgnegkcaaGreatDoorWholeC
import Derived.Test.YtnodhkjgnegkcaaGreatDoorWholeB
import Derived.Lib.SliceRun
import Derived.Deep.RegionHeld3
import Derived.Shelf.Strings.Prefix
import Derived.Ground.NamesProg
import Derived.Test.YtnodhkjgnegkcaaGreatDoorProg
import Derived.Shelf.Strings.SplitShaped
import Derived.Shelf.Strings.Repeat
import Derived.Shelf.Strings.Shaped
/-
  A sum appended to a list of sums of the call's own.
-/
namespace Go.Proofs.YtnodhkjgnegkcaaGreatDoor
open Go.RowKit

theorem run_append_sums (w : World) (ty : TypeId) (base : Nat) (v : Value) (l : List Bd) (hown : Sums w base v l) (x : Bd) (B c : Nat) (t : TypeId) (fr : Nat × Nat)
    (hblk : w.heap[B]? = some (.cells #[sv x.1, sv x.2] t fr)) (hlen : l.length + 1 ≤ 16777216) (hbase : base ≤ w.heap.size) :
    ∃ g cap w', (Builtin.append_ #[76, 76] ty #[v, .slice (some ⟨B, 0, none⟩) 1 c]).run Tryz.prog w = .ok (.slice (some ⟨g, 0, none⟩) (l.length + 1) cap) w' ∧ Sums w' base (.slice (some ⟨g, 0, none⟩) (l.length + 1) cap) (l ++ [x]) ∧ w.grownBy w' v.ownBlock ∧ (v.ownBlock = some g ∨ g = w.heap.size) := by
  obtain ⟨i0, hi, hz0, hz1, hz2⟩ := info_parts suminfo
  obtain ⟨g, cap, w', hr, h2, h3, h4, _⟩ := run_append_lies (P := Tryz.prog) w 76 ty base 136 i0 (.agg #[.string ⟨#[]⟩, .string ⟨#[]⟩]) 2 32 Tryz.underlying76 hi hz0 hz1 hz2 rfl (by decide) v l.length (flat2 l) hown
    ⟨B, 0, none⟩ 1 c [sv x.1, sv x.2] (by simp) (World.news_of_block hblk) (by intro u hu; simp at hu; rcases hu with rfl | rfl <;> rfl) (by omega) (by unfold maxLen; omega) (by omega) hbase _ rfl
  refine ⟨g, cap, w', hr, ?_, h3, h4⟩
  unfold Sums
  rw [List.length_append, flat2_app]
  exact h2

/-- append(out, sum) at a plain region's list. -/
theorem wpList_append_sums {w : World} {ops : Array Oper} {rest : List Oper} {o : Oper} {a : Act} {Q : Exit → Act → World → Prop} (hgd : o.guard = none) (s x : Operand)
    (ho : o.op = .call { callee := .builtin .append, args := #[s, x], argTypes := #[76, 76] })
    (base : Nat) (v : Value) (l : List Bd) (hs : a.eval s = v) (hown : Sums w base v l) (y : Bd) (B c : Nat) (t : TypeId) (fr : Nat × Nat)
    (hx : a.eval x = .slice (some ⟨B, 0, none⟩) 1 c) (hblk : w.heap[B]? = some (.cells #[sv y.1, sv y.2] t fr)) (hlen : l.length + 1 ≤ 16777216) (hbase : base ≤ w.heap.size)
    (h : ∀ g cap w', Sums w' base (.slice (some ⟨g, 0, none⟩) (l.length + 1) cap) (l ++ [y]) → w.grownBy w' v.ownBlock → (v.ownBlock = some g ∨ g = w.heap.size) → wpList Tryz.prog ops Q rest (a.put o.dst (.slice (some ⟨g, 0, none⟩) (l.length + 1) cap)) w') : wpList Tryz.prog ops Q (o :: rest) a w := by
  refine wpList_plain hgd fun _ hK => ?_
  obtain ⟨g, cap, w', hr, h2, h3, h4⟩ := run_append_sums w o.type base v l hown y B c t fr hblk hlen hbase
  unfold Oper.wp execOp
  simp only [ho, resolve, invoke, builtin, Sem.run_bind, Sem.run_pure, Result.andThen_ok, List.map_toArray, List.map_cons, List.map_nil, hs, hx, hr]
  exact hK _ _ (h g cap w' h2 h3 h4)
theorem Sums.emptyAt (W : World) (base n : Nat) (hn : W.heap.size = n) (hb : base ≤ n) : Sums (W.alloc (.cells #[] 136)) base (.slice (some ⟨n, 0, none⟩) 0 0) [] := by
  subst hn
  have h := World.ownsRow_lit (base := base) (e := 136) (size := 2) W #[] 0 hb (by unfold maxLen; omega) (by simp)
  simpa [Sums, flat2] using h
theorem Sums.slice {w : World} {base : Nat} {v : Value} {l : List Bd} (h : Sums w base v l) : ∃ A c, v = .slice A l.length c := by
  rcases h.form with ⟨rfl, rfl⟩ | ⟨g, cap, rfl, _⟩
  · exact ⟨none, 0, rfl⟩
  · exact ⟨_, _, rfl⟩
end Go.Proofs.YtnodhkjgnegkcaaGreatDoor

/-
  spec.GetIntegrity hands back the list of right sums whose text a text is, or none.
-/
namespace Go.Proofs.YtnodhkjgnegkcaaGreatDoor
open Go.RowKit

/-- What GetIntegrity hands back. -/
def giL (l : List UInt8) : List Bd := if getIntOk l = true then sumsI l else []
theorem giL_no {l : List UInt8} (h : getIntOk l = false) : giL l = [] := if_neg (by rw [h]; simp)
theorem giL_yes {l : List UInt8} (h : getIntOk l = true) : giL l = sumsI l := if_pos h
def GiIs (w : World) (l : List UInt8) (e : Ending) (w' : World) : Prop := ∃ v, e = .returned (.tuple #[v, .bool (getIntOk l)]) ∧ Sums w' w.heap.size v (giL l) ∧ Below w.heap.size w w'

theorem noH1_hit {bs : List Bd} {k : Nat} (h : k < bs.length) (e : bs[k].1 = h1L) : noH1 bs = false := by
  cases hn : noH1 bs with
  | false => rfl
  | true =>
    unfold noH1 at hn
    rw [List.all_eq_true] at hn
    have := hn bs[k] (List.getElem_mem h)
    rw [e] at this; simp at this
theorem noH1_end {bs : List Bd} (h : ∀ k (h : k < bs.length), ¬ bs[k].1 = h1L) : noH1 bs = true := by
  unfold noH1
  rw [List.all_eq_true]
  intro b hb
  obtain ⟨k, hk, rfl⟩ := List.mem_iff_getElem.1 hb
  simpa using h k hk
theorem xName : specN [120] = true := by decide +kernel
theorem zVer : exOk [48, 46, 48, 46, 48] = true := by decide +kernel
theorem eSrc : plainL [] = true := by decide +kernel

set_option maxRecDepth 100000 in
set_option maxHeartbeats 2000000 in
theorem l05Right_any (v : Value) (bs : List Bd) (w : World) (hr : RdB w v bs) (hs : SmB bs) :
    Calls Tryz.prog 146 #[v] w fun e w' => e = .returned (.bool (noH1 bs && sumsOkL bs)) ∧ Below w.heap.size w w' := by
  have HP := Lib.hid (fun (W : World) (hb : Below w.heap.size w W) => specPackOkG_any ⟨[120], [48, 46, 48, 46, 48], [], bs, false, []⟩ v (.slice none 0 0) W (hr.below hb) (rdS_nil W) (by simp) (by simp) (by simp) hs)
  have HPK : Hid (pkOk ⟨[120], [48, 46, 48, 46, 48], [], bs, false, []⟩ = sumsOkL bs) := Lib.hid (by unfold pkOk; rw [xName, zVer, eSrc]; simp)
  simp only [HPK.out] at HP
  have HR := Lib.hid hr
  have hn : bs.length ≤ 1048576 := by unfold SmB at hs; omega
  obtain ⟨A, ca, rfl, _⟩ := hr
  have HH := Lib.hid (fun (k : Nat) (h : k < bs.length) (e : bs[k].1 = h1L) => noH1_hit h e)
  have HE := Lib.hid (noH1_end (bs := bs))
  obtain ⟨x, HX⟩ : ∃ x, Hid (noH1 bs = x) := ⟨_, Lib.hid rfl⟩
  obtain ⟨y, HY⟩ : ∃ y, Hid (sumsOkL bs = y) := ⟨_, Lib.hid rfl⟩
  simp only [HX.out] at HH HE
  simp only [HY.out] at HP
  rw [HX.out, HY.out]
  clear hs
  go_enter Tryz.func146, Tryz.ntmps146
  go_wp2_with fail
  go_loopw [3] (fun i wr => ∃ k : Nat, k ≤ bs.length ∧ i = .int .i64 k ∧ Hid (∀ j (h : j < bs.length), j < k → ¬ bs[j].1 = h1L) ∧ Below w.heap.size w wr) (fun i _ => bs.length - (intOf i).toNat)
  case atStart => exact ⟨0, Nat.zero_le _, rfl, Lib.hid (fun j _ h => by omega), Below.refl _ _⟩
  case round =>
    obtain ⟨k, hk, rfl, HK, hb⟩ := hrel
    by_cases hlt : k < bs.length
    · obtain ⟨g, off, rfl, hg, d1, d2⟩ := (HR.out.below hb).at k hlt
      have HH2 := Lib.hid (HH.out k hlt)
      have HK2 := Lib.hid (fun (h : ¬ bs[k].1 = h1L) => (show ∀ j (h : j < bs.length), j < k + 1 → ¬ bs[j].1 = h1L from fun j hj hjk => by
        by_cases e : j = k
        · subst e; exact h
        · exact HK.out j hj (by omega)))
      obtain ⟨al, HAL⟩ : ∃ al, Hid (bs[k].1 = al) := ⟨_, Lib.hid rfl⟩
      rw [HAL.out] at d1
      simp only [HAL.out] at HH2 HK2
      have k0 : (0 : Int) ≤ (k : Int) := by omega
      have k1 : (k : Int) < (bs.length : Int) := by omega
      clear d2
      by_cases he : al = h1L
      · have HF : Hid (x = false) := Lib.hid (HH2.out he)
        subst he
        unfold h1L at d1
        go_wp2_with fail
        go_ret
        exact ⟨ret_bool (by rw [HF.out]; rfl), hb⟩
      · have HN := Lib.hid (HK2.out he)
        have q1 : (al == [104, 49]) = false := by simpa [h1L] using he
        clear he
        go_wp2_with fail
        go_roundw
        case rel => exact ⟨k + 1, by omega, by go_num, HN, hb⟩
        case measure => simp [intOf]; omega
    · have HT : Hid (x = true) := Lib.hid (HE.out (fun j hj => HK.out j hj (by omega)))
      go_wp2_with fail
      refine (HP.out _ hb).mono ?_
      rintro e w1 ⟨rfl, hb1⟩
      go_wp2_with fail
      go_ret
      exact ⟨ret_bool (by rw [HT.out]; rfl), hb.trans (hb1.mono hb.size)⟩

theorem giIs_no {w w' : World} {l : List UInt8} (n : Nat) (hn : w'.heap.size = n) (h : getIntOk l = false) (hb : Below w.heap.size w w') : GiIs w l (.returned (.tuple #[.slice (some ⟨n, 0, none⟩) 0 0, .bool false])) (w'.alloc (.cells #[] 136)) :=
  ⟨_, by rw [h], by rw [giL_no h]; exact Sums.emptyAt w' _ n hn (by have := hb.size; omega), hb.alloc hb.size _⟩
theorem giIs_yes {w w' : World} {l : List UInt8} {v : Value} {out : List Bd} (h : getIntOk l = true) (ho : out = sumsI l) (hS : Sums w' w.heap.size v out) (hb : Below w.heap.size w w') : GiIs w l (.returned (.tuple #[v, .bool true])) w' :=
  ⟨_, by rw [h], by rw [giL_yes h, ← ho]; exact hS, hb⟩
theorem map_take_succ {ws : List (List UInt8)} {k : Nat} (h : k < ws.length) : (ws.take (k + 1)).map wordR = (ws.take k).map wordR ++ [wordR ws[k]] := by
  rw [List.take_succ_eq_append_getElem h, List.map_append]; rfl
theorem cutA_take {m : UInt8} {l : List UInt8} {k : Nat} (h : Lib.indexByte l m = (k : Int)) : cutA m l = l.take k := by unfold cutA; rw [if_pos (by omega), h]; simp
theorem cutB_drop {m : UInt8} {l : List UInt8} {k : Nat} (h : Lib.indexByte l m = (k : Int)) : cutB m l = l.drop (k + 1) := by unfold cutB; rw [if_pos (by omega), h]; simp

set_option maxRecDepth 100000 in
set_option maxHeartbeats 8000000 in
theorem specGetIntegrity_any (l : List UInt8) (w : World) (hl : l.length ≤ 1048576) :
    Calls Tryz.prog 92 #[.string ⟨l.toArray⟩] w (GiIs w l) := by
  have HWD : Hid (∀ W, Calls Tryz.prog 144 #[.string ⟨l.toArray⟩] W fun e W' => ∃ g cap, e = .returned (.slice (some ⟨g, 0, none⟩) (cutL 32 l).length cap) ∧ Strs W' W.heap.size (.slice (some ⟨g, 0, none⟩) (cutL 32 l).length cap) (cutL 32 l) ∧ Below W.heap.size W W') := Lib.hid (fun W => specWords_any ⟨l.toArray⟩ W (by show l.toArray.size ≤ _; simp; omega))
  have HNO := Lib.hid (fun (n : Nat) (w' : World) (hn : w'.heap.size = n) (h : getIntOk l = false) (hb : Below w.heap.size w w') => giIs_no (l := l) n hn h hb)
  have HYES := Lib.hid (fun (w' : World) (v : Value) (out : List Bd) (h : getIntOk l = true) (ho : out = sumsI l) (hS : Sums w' w.heap.size v out) (hb : Below w.heap.size w w') => giIs_yes (l := l) h ho hS hb)
  have HBAD := Lib.hid (fun (hn : l ≠ []) (p : List UInt8) (hp : p ∈ cutL 32 l) (hg : wordG p = false) => bad_word hn hp hg)
  have HGOOD := Lib.hid (fun (hn : l ≠ []) (hg : ∀ p ∈ cutL 32 l, wordG p = true) => (⟨sumsI_words hn hg, words_sm hl hn hg⟩ : sumsI l = (cutL 32 l).map wordR ∧ SmB ((cutL 32 l).map wordR)))
  have HNIL := Lib.hid (show l = [] → sumsI l = [] ∧ cutL 32 l = [[]] from fun h => by subst h; exact ⟨sumsI_nil, rfl⟩)
  have HLAST := Lib.hid (last_test l)
  have hwl := cutL_le 32 l
  have HML := Lib.hid (fun p hp => cutL_mem_le 32 l p hp)
  obtain ⟨ws, HWS⟩ : ∃ ws, Hid (cutL 32 l = ws) := ⟨_, Lib.hid rfl⟩
  simp only [HWS.out] at HWD HBAD HGOOD HNIL hwl HML
  obtain ⟨ok, HOK⟩ : ∃ ok, Hid (getIntOk l = ok) := ⟨_, Lib.hid rfl⟩
  have B0 : Below w.heap.size w (w.alloc (.cells #[] 136)) := (Below.refl _ _).alloc (Nat.le_refl _) _
  have S0 : Sums (w.alloc (.cells #[] 136)) w.heap.size (.slice (some ⟨w.heap.size, 0, none⟩) 0 0) [] := Sums.emptyAt w _ _ rfl (Nat.le_refl _)
  go_enter Tryz.func92, Tryz.ntmps92
  go_wp2_with fail
  refine (HWD.out _).mono ?_
  rintro e w1 ⟨gW, cW, rfl, SW, hb1⟩
  have B1 := B0.trans (hb1.mono B0.size)
  have S1 := S0.below hb1
  have x0 : w.heap.size < gW := by have := SW.lo; simp at this; omega
  clear hb1 S0 B0
  go_wp2_with fail
  go_loopw [4, 6, 7, 8, 9] (fun u i _ _ _ wr => ∃ (k : Nat) (out : List Bd), k ≤ ws.length ∧ i = .int .i64 k ∧ Hid (out = (ws.take k).map wordR) ∧ out.length ≤ k ∧ Sums wr w.heap.size u out ∧ (∀ g, u.ownBlock = some g → g ≠ gW) ∧ Strs wr w.heap.size (.slice (some ⟨gW, 0, none⟩) ws.length cW) ws ∧ Below w.heap.size w wr ∧ Hid (∀ p ∈ ws.take k, wordG p = true) ∧ (l = [] → k = 0)) (fun _ i _ _ _ _ => ws.length - (intOf i).toNat)
  case atStart => exact ⟨0, [], Nat.zero_le _, rfl, Lib.hid (by simp), by simp, S1, fun g hg => by simp only [Value.ownBlock, Option.some.injEq] at hg; omega, SW.weaken (by simp), B1, Lib.hid (by simp), fun _ => rfl⟩
  case round =>
    obtain ⟨k, out, hk, rfl, HO, hol, hS, hne, hW, hb, HG, hz⟩ := hrel
    clear S1 SW B1
    have hend : (¬ k < ws.length ∨ l = []) → out = sumsI l ∧ SmB out := fun h => by
      by_cases hn : l = []
      · have hk0 := hz hn
        subst hk0
        rw [HO.out, (HNIL.out hn).1]
        exact ⟨by simp, by simp [SmB, smB]⟩
      · have hke : k = ws.length := by
          rcases h with h | h
          · omega
          · exact absurd h hn
        obtain ⟨e1, e2⟩ := HGOOD.out hn (fun p hp => HG.out p (by rw [hke, List.take_length]; exact hp))
        rw [HO.out, hke, List.take_length, e1]
        exact ⟨rfl, e2⟩
    by_cases hx : ¬ k < ws.length ∨ l = []
    · obtain ⟨hoI, hsm⟩ := hend hx
      have HT := Lib.hid hoI
      have HL2 := Lib.hid HLAST.out
      rw [← hoI, HOK.out] at HL2
      have HR := Lib.hid (fun W v (h : RdB W v out) => l05Right_any v out W h hsm)
      have HP := Lib.hid (fun W v (h : RdB W v out) => specPutIntegrity_any v out W h hsm)
      obtain ⟨a, HA⟩ : ∃ a, Hid ((noH1 out && sumsOkL out) = a) := ⟨_, Lib.hid rfl⟩
      obtain ⟨t, HTT⟩ : ∃ t, Hid (intT out = t) := ⟨_, Lib.hid rfl⟩
      simp only [HA.out] at HR HL2
      simp only [HTT.out] at HP HL2
      clear hoI
      obtain ⟨U, cu, rfl⟩ := hS.slice
      have hexit : (¬ (k : Int) < (ws.length : Int)) ∨ ((k : Int) < (ws.length : Int) ∧ l = []) := by
        rcases hx with h | h
        · left; omega
        · by_cases hk' : k < ws.length
          · right; exact ⟨by omega, h⟩
          · left; omega
      clear hx hend hz
      rcases hexit with hexit | ⟨hexit, hl0⟩
      · cases a with
        | false =>
          have HF : Hid (getIntOk l = false) := Lib.hid (by rw [HOK.out, ← HL2.out]; rfl)
          go_wp2_with fail
          refine (HR.out _ _ (RdB.of_sums hS)).mono ?_
          rintro e w2 ⟨rfl, hb2⟩
          go_wp2_with fail
          go_ret2
          exact HNO.out _ _ rfl HF.out (hb.trans (hb2.mono hb.size))
        | true =>
          go_wp2_with fail
          refine (HR.out _ _ (RdB.of_sums hS)).mono ?_
          rintro e w2 ⟨rfl, hb2⟩
          have B2 := hb.trans (hb2.mono hb.size)
          have S2 := hS.below hb2
          go_wp2_with fail
          refine (HP.out _ _ (RdB.of_sums S2)).mono ?_
          rintro e w3 ⟨rfl, hb3⟩
          have B3 := B2.trans (hb3.mono B2.size)
          have S3 := S2.below hb3
          by_cases ht : t = l
          · have HF : Hid (getIntOk l = true) := Lib.hid (by rw [HOK.out, ← HL2.out, ht]; simp)
            have q1 : (t == l) = true := by rw [ht]; simp
            clear ht
            go_wp2_with fail
            go_ret2
            exact HYES.out _ _ out HF.out HT.out S3 B3
          · have q1 : (t == l) = false := by simpa using ht
            have HF : Hid (getIntOk l = false) := Lib.hid (by rw [HOK.out, ← HL2.out, q1]; rfl)
            clear ht
            go_wp2_with fail
            go_ret2
            exact HNO.out _ _ rfl HF.out B3
      · subst hl0
        cases a with
        | false =>
          have HF : Hid (getIntOk [] = false) := Lib.hid (by rw [HOK.out, ← HL2.out]; rfl)
          go_wp2_with fail
          refine (HR.out _ _ (RdB.of_sums hS)).mono ?_
          rintro e w2 ⟨rfl, hb2⟩
          go_wp2_with fail
          go_ret2
          exact HNO.out _ _ rfl HF.out (hb.trans (hb2.mono hb.size))
        | true =>
          go_wp2_with fail
          refine (HR.out _ _ (RdB.of_sums hS)).mono ?_
          rintro e w2 ⟨rfl, hb2⟩
          have B2 := hb.trans (hb2.mono hb.size)
          have S2 := hS.below hb2
          go_wp2_with fail
          refine (HP.out _ _ (RdB.of_sums S2)).mono ?_
          rintro e w3 ⟨rfl, hb3⟩
          have B3 := B2.trans (hb3.mono B2.size)
          have S3 := S2.below hb3
          by_cases ht : t = []
          · have HF : Hid (getIntOk [] = true) := Lib.hid (by rw [HOK.out, ← HL2.out, ht]; rfl)
            have q1 : (t == []) = true := by rw [ht]; rfl
            clear ht
            go_wp2_with fail
            go_ret2
            exact HYES.out _ _ out HF.out HT.out S3 B3
          · have q1 : (t == []) = false := by simpa using ht
            have HF : Hid (getIntOk [] = false) := Lib.hid (by rw [HOK.out, ← HL2.out, q1]; rfl)
            clear ht
            go_wp2_with fail
            go_ret2
            exact HNO.out _ _ rfl HF.out B3
    · obtain ⟨hlt, hln⟩ : k < ws.length ∧ l ≠ [] := ⟨by omega, fun h => hx (.inr h)⟩
      have hln2 : (l == []) = false := by simpa using hln
      have HB2 := Lib.hid (HBAD.out hln ws[k] (List.getElem_mem hlt))
      have HN2 := Lib.hid (map_take_succ hlt)
      have HG2 : Hid (wordG ws[k] = true → ∀ p ∈ ws.take (k + 1), wordG p = true) := Lib.hid (fun h p hp => by
        rw [List.take_succ_eq_append_getElem hlt] at hp
        rcases List.mem_append.1 hp with h1 | h1
        · exact HG.out p h1
        · simp at h1; subst h1; exact h)
      have hpl := HML.out ws[k] (List.getElem_mem hlt)
      have c1 := hW.cell k hlt
      have hlt45 := idx_lt ws[k] 45
      obtain ⟨p, HP⟩ : ∃ p, Hid (ws[k] = p) := ⟨_, Lib.hid rfl⟩
      simp only [HP.out] at HB2 HN2 HG2 hpl c1 hlt45
      have c1' : wr.cell? ⟨gW, k, none⟩ = some (.string ⟨p.toArray⟩) := c1
      have k0 : (0 : Int) ≤ (k : Int) := by omega
      have k1 : (k : Int) < (ws.length : Int) := by omega
      have HAT : Hid (∀ W, Calls Tryz.prog 140 #[.string ⟨p.toArray⟩, .int .u8 45] W fun e w' => e = .returned (.int .i64 (Lib.indexByte p 45)) ∧ W = w') := Lib.hid (fun W => l01At_any ⟨p.toArray⟩ 45 W (by show p.toArray.size ≤ maxLen; unfold maxLen; simp; omega))
      have HCB := Lib.hid (fun (j : Nat) (h : Lib.indexByte p 45 = (j : Int)) => (⟨cutA_take h, cutB_drop h⟩ : cutA 45 p = p.take j ∧ cutB 45 p = p.drop (j + 1)))
      have HWG : Hid (wordG p = (decide (0 ≤ Lib.indexByte p 45) && (getB (cutB 45 p)).2)) := Lib.hid rfl
      have HWR : Hid (wordR p = (cutA 45 p, (getB (cutB 45 p)).1)) := Lib.hid rfl
      obtain ⟨z, HZ⟩ : ∃ z, Hid (Lib.indexByte p 45 = z) := ⟨_, Lib.hid rfl⟩
      simp only [HZ.out] at HAT HCB HWG hlt45
      clear c1 hend hx hln hz
      by_cases h0 : 0 ≤ z
      · obtain ⟨j, rfl⟩ : ∃ j : Nat, z = (j : Int) := ⟨z.toNat, by omega⟩
        obtain ⟨eA, eB⟩ := HCB.out j rfl
        have hjl : j < p.length := by omega
        have hsz : (⟨p.toArray⟩ : ByteArray).size = p.length := by show p.toArray.size = _; simp
        have e1 := slice_from ⟨p.toArray⟩ ⟨(p.drop (j + 1)).toArray⟩ (j + 1) ((j : Int) + 1) (by omega) (by rw [hsz]; omega) (by have := piece_end ⟨p.toArray⟩ (j + 1); simpa using this)
        have x1 : IntKind.i64.wrap ((j : Int) + 1) = (j : Int) + 1 := IntWalk.i64_in _ (by omega)
        have e2 := slice_to ⟨p.toArray⟩ ⟨(p.take j).toArray⟩ j (j : Int) rfl (by rw [hsz]; omega) (by have := piece ⟨p.toArray⟩ 0 j; simpa using this)
        rw [← eB] at e1
        rw [← eA] at e2
        have hbl : (cutB 45 p).length ≤ p.length := by rw [eB]; simp
        have HB64 : Hid (∀ W, Calls Tryz.prog 145 #[.string ⟨(cutB 45 p).toArray⟩] W fun e w' => e = .returned (.tuple #[.string ⟨(getB (cutB 45 p)).1.toArray⟩, .bool (getB (cutB 45 p)).2]) ∧ Below W.heap.size W w') := Lib.hid (fun W => specGetBase64_any ⟨(cutB 45 p).toArray⟩ W (by show (cutB 45 p).toArray.size ≤ _; simp; omega))
        have hz1 : ¬ (j : Int) < 0 := by omega
        rw [decide_eq_true h0, Bool.true_and] at HWG
        obtain ⟨cb, HCBB⟩ : ∃ cb, Hid (cutB 45 p = cb) := ⟨_, Lib.hid rfl⟩
        obtain ⟨ca, HCA⟩ : ∃ ca, Hid (cutA 45 p = ca) := ⟨_, Lib.hid rfl⟩
        rw [HCBB.out] at e1 hbl HB64 HWG HWR
        rw [HCA.out] at e2 HWR
        rcases hgb : getB cb with ⟨by_, okb⟩
        rw [hgb] at HB64 HWG HWR
        clear hgb eA eB h0 hsz
        cases okb with
        | false =>
          have HF : Hid (getIntOk l = false) := Lib.hid (HB2.out HWG.out)
          go_wp2_with fail
          refine (HAT.out _).mono ?_
          rintro e w2 ⟨rfl, rfl⟩
          go_wp2_with fail
          refine (HB64.out _).mono ?_
          rintro e w3 ⟨rfl, hb3⟩
          go_wp2_with fail
          go_ret2
          exact HNO.out _ _ rfl HF.out (hb.trans (hb3.mono hb.size))
        | true =>
          have HN3 : Hid ((ws.take (k + 1)).map wordR = out ++ [(ca, by_)]) := Lib.hid (by rw [HN2.out, ← HO.out, HWR.out])
          have HG3 := Lib.hid (HG2.out HWG.out)
          have hws : w.heap.size ≤ wr.heap.size := hb.size
          have hgw : gW < wr.heap.size := hW.block_lt gW rfl
          have HOW := Lib.hid hS.owned
          go_wp2_with fail
          refine (HAT.out _).mono ?_
          rintro e w2 ⟨rfl, rfl⟩
          go_wp2_with fail
          refine (HB64.out _).mono ?_
          rintro e w3 ⟨rfl, hb3⟩
          have B3 := hb.trans (hb3.mono hb.size)
          have S3 := hS.below hb3
          have W3 := hW.below hb3
          have c3 := keepC hb3 c1'
          have hs3 : w.heap.size ≤ w3.heap.size := B3.size
          have hg3 : gW < w3.heap.size := Nat.lt_of_lt_of_le hgw hb3.size
          clear hS hW hb hb3 c1' hws hgw
          go_wp2_with (at_builtin; refine wpList_append_sums rfl _ _ rfl w.heap.size _ _ rfl (S3.alloc _) (ca, by_) w3.heap.size 1 _ _ rfl (heap_alloc_new w3 _) (by omega) (by simp; omega) ?_; intro g4 c4 w4 S4 hg4 hl4)
          have B4 := (B3.alloc hs3 _).grown hg4 (by simp; omega) (fun j hj => HOW.out j hj)
          have W4 := (W3.alloc (.cells #[.string ⟨ca.toArray⟩, .string ⟨by_.toArray⟩] 136)).grown hg4 (fun g hg e => by simp only [Value.ownBlock, Option.some.injEq] at hg; exact hne g e.symm hg.symm)
          go_roundw
          case rel =>
            refine ⟨k + 1, out ++ [(ca, by_)], by omega, by go_num, Lib.hid HN3.out.symm, by simp; omega, by simpa using S4, ?_, W4, B4, HG3, fun h => absurd h (by simpa using hln2)⟩
            intro g hg
            simp only [Value.ownBlock, Option.some.injEq] at hg
            subst hg
            rcases hl4 with hl4 | hl4
            · exact hne _ hl4
            · rw [hl4]; simp; omega
          case measure => simp [intOf]; omega
      · have HF : Hid (getIntOk l = false) := Lib.hid (HB2.out (by rw [HWG.out, decide_eq_false h0]; rfl))
        have hz1 : z < 0 := by omega
        clear h0
        go_wp2_with fail
        refine (HAT.out _).mono ?_
        rintro e w2 ⟨rfl, rfl⟩
        go_wp2_with fail
        go_ret2
        exact HNO.out _ _ rfl HF.out hb
end Go.Proofs.YtnodhkjgnegkcaaGreatDoor

/-
  Right entries in plain words.
-/
namespace Go.Proofs.YtnodhkjgnegkcaaGreatDoor
open Go.RowKit

/-- A right need. -/
def ndOk (b : Bd) : Bool := specN b.1 && rgOk b.2
def bdAt (hs : List Bd) (k : Nat) : Bd := hs.getD k ([], [])
theorem bdAt_is {hs : List Bd} {k : Nat} (h : k < hs.length) : bdAt hs k = hs[k] := getD_at h
/-- Is the k-th head right, and behind the one ahead of it? -/
def hdAtB (ver : List UInt8) (hs : List Bd) (k : Nat) : Bool := (ndOk (bdAt hs k) && inR ver (rgB (bdAt hs k).2)) && (decide (k = 0) || ((bdAt hs (k - 1)).1 == (bdAt hs k).1 && Op.bytesLess (bdAt hs (k - 1)).2 (bdAt hs k).2))
def headsOkL (ver : List UInt8) (hs : List Bd) : Bool := decide (1 ≤ hs.length ∧ hs.length ≤ 8) && allTo (hdAtB ver hs) hs.length
def ndAtB (ns : List Bd) (k : Nat) : Bool := ndOk (bdAt ns k) && (decide (k = 0) || Op.bytesLess (bdAt ns (k - 1)).1 (bdAt ns k).1)
def needsOkL (ns : List Bd) : Bool := allTo (ndAtB ns) ns.length
/-- A right entry. -/
def enOk (e : En) : Bool := getIntOk e.int && (headsOkL e.ver e.heads && (plainL e.res && needsOkL e.needs))
def ndKeyL (b : Bd) : List UInt8 := b.1 ++ 64 :: b.2
def keyE (e : En) : List UInt8 := ndKeyL (bdAt e.heads 0)
def enAtB (es : List En) (k : Nat) : Bool := enOk (es.getD k default) && (decide (k = 0) || Op.bytesLess (keyE (es.getD (k - 1) default)) (keyE (es.getD k default)))
def hdResB (es : List En) (k : Nat) : Bool := (es.getD k default).heads.all fun h => resK es h 0 == (k : Int)
/-- Right entries. -/
def eoL (es : List En) : Bool := decide (es.length ≤ 40) && allTo (fun k => enAtB es k && hdResB es k) es.length
def headKeys (es : List En) : List (List UInt8) := (es.flatMap (·.heads)).map ndKeyL

theorem hdAtB_zero {ver : List UInt8} {hs : List Bd} (h : 0 < hs.length) : hdAtB ver hs 0 = (ndOk hs[0] && inR ver (rgB hs[0].2)) := by unfold hdAtB; rw [bdAt_is h]; simp
theorem hdAtB_more {ver : List UInt8} {hs : List Bd} {k : Nat} (h : k + 1 < hs.length) : hdAtB ver hs (k + 1) = ((ndOk hs[k + 1] && inR ver (rgB hs[k + 1].2)) && ((hs[k]'(by omega)).1 == hs[k + 1].1 && Op.bytesLess (hs[k]'(by omega)).2 hs[k + 1].2)) := by
  unfold hdAtB; rw [bdAt_is h, show k + 1 - 1 = k by omega, bdAt_is (by omega : k < hs.length)]; simp
theorem ndAtB_zero {ns : List Bd} (h : 0 < ns.length) : ndAtB ns 0 = ndOk ns[0] := by unfold ndAtB; rw [bdAt_is h]; simp
theorem ndAtB_more {ns : List Bd} {k : Nat} (h : k + 1 < ns.length) : ndAtB ns (k + 1) = (ndOk ns[k + 1] && Op.bytesLess (ns[k]'(by omega)).1 ns[k + 1].1) := by
  unfold ndAtB; rw [bdAt_is h, show k + 1 - 1 = k by omega, bdAt_is (by omega : k < ns.length)]; simp
theorem es_at {es : List En} {k : Nat} (h : k < es.length) : es.getD k default = es[k] := by rw [List.getD_eq_getElem?_getD, List.getElem?_eq_getElem h]; rfl
theorem enAtB_zero {es : List En} (h : 0 < es.length) : enAtB es 0 = enOk es[0] := by unfold enAtB; rw [es_at h]; simp
theorem enAtB_more {es : List En} {k : Nat} (h : k + 1 < es.length) : enAtB es (k + 1) = (enOk es[k + 1] && Op.bytesLess (keyE (es[k]'(by omega))) (keyE es[k + 1])) := by
  unfold enAtB; rw [es_at h, show k + 1 - 1 = k by omega, es_at (by omega : k < es.length)]; simp
/-- The names of right heads are one name. -/
theorem heads_name {ver : List UInt8} {hs : List Bd} : ∀ {n : Nat}, allTo (hdAtB ver hs) n = true → ∀ k (_ : k < n) (hl : k < hs.length), hs[k].1 = (hs[0]'(by omega)).1
  | _, _, 0, _, _ => rfl
  | n, h, k + 1, hk', hl => by
    have h1 := allTo_get h (k + 1) hk'
    rw [hdAtB_more hl] at h1
    simp only [Bool.and_eq_true, beq_iff_eq] at h1
    rw [← h1.2.1]; exact heads_name h k (by omega) (by omega)
theorem heads_ver {ver : List UInt8} {hs : List Bd} (h : headsOkL ver hs = true) : readOk ver = true := by
  unfold headsOkL at h
  simp only [Bool.and_eq_true, decide_eq_true_eq] at h
  have h1 := allTo_get h.2 0 (by omega)
  rw [hdAtB_zero (by omega)] at h1
  unfold inR at h1
  simp only [Bool.and_eq_true] at h1
  exact h1.2.1.1
theorem heads_nd {ver : List UInt8} {hs : List Bd} (h : headsOkL ver hs = true) : ∀ b ∈ hs, ndOk b = true := by
  unfold headsOkL at h
  simp only [Bool.and_eq_true] at h
  intro b hb
  obtain ⟨k, hk, rfl⟩ := List.mem_iff_getElem.1 hb
  have h1 := allTo_get h.2 k hk
  unfold hdAtB at h1
  simp only [Bool.and_eq_true] at h1
  rw [← bdAt_is hk]; exact h1.1.1
theorem lt_pair {ver : List UInt8} {hs : List Bd} (h : headsOkL ver hs = true) : hs.Pairwise fun a b => a ≠ b := by
  unfold headsOkL at h
  simp only [Bool.and_eq_true] at h
  have adj : ∀ k (hk : k + 1 < hs.length), Op.bytesLess (hs[k]'(by omega)).2 hs[k + 1].2 = true := fun k hk => by
    have h1 := allTo_get h.2 (k + 1) hk
    rw [hdAtB_more hk] at h1
    simp only [Bool.and_eq_true] at h1
    exact h1.2.2
  have all : ∀ d i (hd : i + d + 1 < hs.length), Op.bytesLess (hs[i]'(by omega)).2 hs[i + d + 1].2 = true := fun d => by
    induction d with
    | zero => intro i hd; exact adj i hd
    | succ d ih => intro i hd; exact bl_trans _ _ _ (ih i (by omega)) (adj (i + d + 1) hd)
  rw [List.pairwise_iff_getElem]
  intro i j hi hj hij e
  obtain ⟨d, rfl⟩ : ∃ d, j = i + d + 1 := ⟨j - i - 1, by omega⟩
  have := all d i hj
  rw [e, bl_irrefl] at this; cases this
theorem app64 : ∀ {a b c d : List UInt8}, (64 : UInt8) ∉ b → (64 : UInt8) ∉ d → a ++ 64 :: b = c ++ 64 :: d → a = c ∧ b = d
  | [], b, [], d, _, _, h => ⟨rfl, by simpa using h⟩
  | [], b, x :: c, d, hb, _, h => by
    simp at h
    exact absurd (by rw [h.2]; simp) hb
  | x :: a, b, [], d, _, hd, h => by
    simp at h
    exact absurd (by rw [← h.2]; simp) hd
  | x :: a, b, y :: c, d, hb, hd, h => by
    simp at h
    obtain ⟨rfl, h⟩ := h
    obtain ⟨rfl, rfl⟩ := app64 hb hd h
    exact ⟨rfl, rfl⟩
theorem key_eq {a b : Bd} (ha : ndOk a = true) (hb : ndOk b = true) (h : ndKeyL a = ndKeyL b) : a = b := by
  unfold ndOk at ha hb
  simp only [Bool.and_eq_true] at ha hb
  obtain ⟨h1, h2⟩ := app64 (rg64 ha.2) (rg64 hb.2) h
  exact Prod.ext h1 h2
theorem resE_ge (n : Bd) : ∀ (es : List En) (k j : Nat) (hj : j < es.length), n ∈ es[j].heads → (k : Int) ≤ resE n es k ∧ resE n es k ≤ (k + j : Nat)
  | e :: es, k, j, hj, h => by
    unfold resE
    by_cases hc : n ∈ e.heads
    · rw [if_pos hc]; omega
    · rw [if_neg hc]
      cases j with
      | zero => exact absurd h hc
      | succ j =>
        have := resE_ge n es (k + 1) j (by simpa using hj) (by simpa using h)
        omega
theorem resE_at (n : Bd) : ∀ (es : List En) (k j : Nat) (hj : j < es.length), n ∈ es[j].heads → (∀ i (hi : i < j), n ∉ (es[i]'(by omega)).heads) → resE n es k = (k + j : Nat)
  | e :: es, k, j, hj, h, hn => by
    unfold resE
    cases j with
    | zero => rw [if_pos (by simpa using h)]; simp
    | succ j =>
      rw [if_neg (by simpa using hn 0 (by omega))]
      have := resE_at n es (k + 1) j (by simpa using hj) (by simpa using h) (fun i hi => by simpa using hn (i + 1) (by omega))
      rw [this]; omega
theorem res_is {es : List En} {n : Bd} {k : Nat} (hk : k < es.length) (h : n ∈ es[k].heads) : resK es n 0 = (k : Int) ↔ ∀ i (hi : i < k), n ∉ (es[i]'(by omega)).heads := by
  constructor
  · intro e i hi hm
    have := (resE_ge n es 0 i (by omega) hm).2
    unfold resK at e
    simp only [List.drop_zero] at e
    rw [e] at this; omega
  · intro hn
    unfold resK
    simp only [List.drop_zero]
    rw [resE_at n es 0 k hk h hn]; simp
theorem eo_distinct {es : List En} (h : allTo (enAtB es) es.length = true) : decide (headKeys es).Nodup = allTo (hdResB es) es.length := by
  have hen : ∀ k (hk : k < es.length), headsOkL es[k].ver es[k].heads = true := fun k hk => by
    have h1 := allTo_get h k hk
    unfold enAtB at h1
    rw [es_at hk] at h1
    unfold enOk at h1
    simp only [Bool.and_eq_true] at h1
    exact h1.1.2.1
  have hpair : (headKeys es).Nodup ↔ es.Pairwise (fun a b => ∀ x ∈ a.heads, ∀ y ∈ b.heads, x ≠ y) := by
    unfold headKeys List.Nodup
    rw [List.pairwise_map, List.pairwise_flatMap]
    constructor
    · rintro ⟨_, h2⟩
      exact h2.imp fun hab x hx y hy e => hab x hx y hy (by rw [e])
    · intro h2
      have hnd : ∀ a ∈ es, ∀ b ∈ a.heads, ndOk b = true := fun a ha => by
        obtain ⟨k, hk, rfl⟩ := List.mem_iff_getElem.1 ha
        exact heads_nd (hen k hk)
      refine ⟨fun a ha => ?_, ?_⟩
      · have hp : a.heads.Pairwise fun x y => x ≠ y := by
          obtain ⟨k, hk, rfl⟩ := List.mem_iff_getElem.1 ha
          exact lt_pair (hen k hk)
        exact (List.Pairwise.and_mem.1 hp).imp fun ⟨hx, hy, hne⟩ e => hne (key_eq (hnd a ha _ hx) (hnd a ha _ hy) e)
      · exact (List.Pairwise.and_mem.1 h2).imp fun ⟨ha, hb, hab⟩ x hx y hy e => hab x hx y hy (key_eq (hnd _ ha _ hx) (hnd _ hb _ hy) e)
  rw [Bool.eq_iff_iff, decide_eq_true_eq, hpair, List.pairwise_iff_getElem]
  constructor
  · intro hp
    have hall : ∀ n, n ≤ es.length → allTo (hdResB es) n = true := fun n => by
      induction n with
      | zero => intro _; rfl
      | succ n ih =>
        intro hn
        refine allTo_step (ih (by omega)) ?_
        unfold hdResB
        rw [es_at (by omega : n < es.length), List.all_eq_true]
        intro x hx
        rw [beq_iff_eq]
        exact (res_is (by omega) hx).2 (fun i hi hm => hp i n (by omega) (by omega) hi x hm x hx rfl)
    exact hall _ (Nat.le_refl _)
  · intro ha i j hi hj hij x hx y hy e
    subst e
    have h1 := allTo_get ha j hj
    unfold hdResB at h1
    rw [es_at hj, List.all_eq_true] at h1
    have h2 := h1 x hy
    rw [beq_iff_eq] at h2
    exact (res_is hj hy).1 h2 i hij hx
theorem eoL_parts (es : List En) : eoL es = (decide (es.length ≤ 40) && (allTo (enAtB es) es.length && decide (headKeys es).Nodup)) := by
  unfold eoL
  rw [allTo_and]
  by_cases h : allTo (enAtB es) es.length = true
  · rw [h, eo_distinct h]
  · have h' : allTo (enAtB es) es.length = false := by simpa using h
    rw [h']; simp
end Go.Proofs.YtnodhkjgnegkcaaGreatDoor

/-
  impl.raised at each number, impl.leadingPart, the functions that are handed to readFrom.
-/
namespace Go.Proofs.YtnodhkjgnegkcaaGreatDoor
open Go.RowKit

theorem three_cells {V : World} {B : Nat} {T : TypeId} {v0 v1 v2 : Value} (h : V.heap[B]? = some (.cells #[v0, v1, v2] T)) (j : Nat) (hj : j < 3) : (V.cell? ⟨B, j, none⟩).isSome = true ∧ V.frozen? ⟨B, j, none⟩ = false := by
  have : j = 0 ∨ j = 1 ∨ j = 2 := by omega
  rcases this with rfl | rfl | rfl <;> simp [World.cell?, World.frozen?, h]
theorem clear_0 (a b c : Int) (w : World) (o : Obj) (n : Nat) (hn : n = w.heap.size + 1) : (Builtin.clear_ #[87] 0 #[.slice (some ⟨n, 1, none⟩) 2 2]).run Tryz.prog ((w.alloc o).alloc (.cells #[.int .i64 (a + 1), .int .i64 b, .int .i64 c] 272)) = .ok (.tuple #[]) ((w.alloc o).alloc (.cells #[.int .i64 (a + 1), .int .i64 0, .int .i64 0] 272)) := by
  subst hn
  have e : w.heap.size + 1 = (w.alloc o).heap.size := by simp
  rw [e]
  generalize w.alloc o = W
  have hb := heap_alloc_new W (.cells #[.int .i64 (a + 1), .int .i64 b, .int .i64 c] 272)
  have h := Lib.run_clear_slice (P := Tryz.prog) (W.alloc (.cells #[.int .i64 (a + 1), .int .i64 b, .int .i64 c] 272)) 87 3 0 (.int .i64 0) Tryz.underlying87 Tryz.zeroValue3 rfl rfl W.heap.size 1 2 2 (by decide) (fun j hj => (three_cells hb _ (by omega)).1) (fun j hj => (three_cells hb _ (by omega)).2)
  rw [h]
  simp only [List.replicate, World.setCells]
  rw [World.setCell_alloc_at _ _ _ _ _ rfl, World.setCell_alloc_at _ _ _ _ _ rfl]
  rfl
theorem clear_1 (a b c : Int) (w : World) (o : Obj) (n : Nat) (hn : n = w.heap.size + 1) : (Builtin.clear_ #[87] 0 #[.slice (some ⟨n, 2, none⟩) 1 1]).run Tryz.prog ((w.alloc o).alloc (.cells #[.int .i64 a, .int .i64 (b + 1), .int .i64 c] 272)) = .ok (.tuple #[]) ((w.alloc o).alloc (.cells #[.int .i64 a, .int .i64 (b + 1), .int .i64 0] 272)) := by
  subst hn
  have e : w.heap.size + 1 = (w.alloc o).heap.size := by simp
  rw [e]
  generalize w.alloc o = W
  have hb := heap_alloc_new W (.cells #[.int .i64 a, .int .i64 (b + 1), .int .i64 c] 272)
  have h := Lib.run_clear_slice (P := Tryz.prog) (W.alloc (.cells #[.int .i64 a, .int .i64 (b + 1), .int .i64 c] 272)) 87 3 0 (.int .i64 0) Tryz.underlying87 Tryz.zeroValue3 rfl rfl W.heap.size 2 1 1 (by decide) (fun j hj => (three_cells hb _ (by omega)).1) (fun j hj => (three_cells hb _ (by omega)).2)
  rw [h]
  simp only [List.replicate, World.setCells]
  rw [World.setCell_alloc_at _ _ _ _ _ rfl]
  rfl

set_option maxRecDepth 100000 in
set_option maxHeartbeats 4000000 in
theorem raised_0 (a b c : Int) (A : Option Addr) (n cap : Nat) (w : World) (ht : Tab w) (hc : 0 ≤ a ∧ a ≤ 999999999) :
    Calls Tryz.prog 239 #[.agg #[.int .i64 a, .int .i64 b, .int .i64 c, .slice A n cap], .int .i64 0] w fun e w' => e = .returned (.string ⟨(rsd a b c 0).toArray⟩) ∧ Below w.heap.size w w' := by
  have HT := Lib.hid (fun (v : Value) (q : Nat) (W : World) (h : Strs W q v [[48]]) (hb : Below w.heap.size w W) => implVersionText_any (a + 1) 0 0 q v [[48]] W h sm_zz (tab_below ht hb))
  have HE : Hid (rsd a b c 0 = verText (a + 1) 0 0 [[48]]) := Lib.hid rfl
  rw [HE.out]
  obtain ⟨t, HTT⟩ : ∃ t, Hid (verText (a + 1) 0 0 [[48]] = t) := ⟨_, Lib.hid rfl⟩
  simp only [HTT.out] at HT
  rw [HTT.out]
  clear ht
  have cw : IntKind.i64.wrap (a + 1) = a + 1 := IntWalk.i64_in _ (by omega)
  have hcl := clear_0 a b c w (.cells #[.int .i64 a, .int .i64 b, .int .i64 c, .slice A n cap] 117) (w.heap.size + 1) rfl
  go_enter Tryz.func239, Tryz.ntmps239
  go_wp2_with fail
  refine (HT.out _ (w.heap.size + 1 + 1) _ (strs_z _ _ (by simp) [48]) (below_three _ _ _ _)).mono ?_
  rintro e w5 ⟨rfl, hb5⟩
  go_wp2_with fail
  go_ret
  exact ⟨rfl, (below_three _ _ _ _).trans (hb5.mono (by simp; omega))⟩

set_option maxRecDepth 100000 in
set_option maxHeartbeats 4000000 in
theorem raised_1 (a b c : Int) (A : Option Addr) (n cap : Nat) (w : World) (ht : Tab w) (hc : 0 ≤ b ∧ b ≤ 999999999) :
    Calls Tryz.prog 239 #[.agg #[.int .i64 a, .int .i64 b, .int .i64 c, .slice A n cap], .int .i64 1] w fun e w' => e = .returned (.string ⟨(rsd a b c 1).toArray⟩) ∧ Below w.heap.size w w' := by
  have HT := Lib.hid (fun (v : Value) (q : Nat) (W : World) (h : Strs W q v [[48]]) (hb : Below w.heap.size w W) => implVersionText_any a (b + 1) 0 q v [[48]] W h sm_zz (tab_below ht hb))
  have HE : Hid (rsd a b c 1 = verText a (b + 1) 0 [[48]]) := Lib.hid rfl
  rw [HE.out]
  obtain ⟨t, HTT⟩ : ∃ t, Hid (verText a (b + 1) 0 [[48]] = t) := ⟨_, Lib.hid rfl⟩
  simp only [HTT.out] at HT
  rw [HTT.out]
  clear ht
  have cw : IntKind.i64.wrap (b + 1) = b + 1 := IntWalk.i64_in _ (by omega)
  have hcl := clear_1 a b c w (.cells #[.int .i64 a, .int .i64 b, .int .i64 c, .slice A n cap] 117) (w.heap.size + 1) rfl
  go_enter Tryz.func239, Tryz.ntmps239
  go_wp2_with fail
  refine (HT.out _ (w.heap.size + 1 + 1) _ (strs_z _ _ (by simp) [48]) (below_three _ _ _ _)).mono ?_
  rintro e w5 ⟨rfl, hb5⟩
  go_wp2_with fail
  go_ret
  exact ⟨rfl, (below_three _ _ _ _).trans (hb5.mono (by simp; omega))⟩

theorem raised_part (a b c p : Int) (A : Option Addr) (n cap : Nat) (w : World) (ht : Tab w) (hv : verOk a b c [] = true) (hp : inI p 0 2 = true) :
    Calls Tryz.prog 239 #[.agg #[.int .i64 a, .int .i64 b, .int .i64 c, .slice A n cap], .int .i64 p] w fun e w' => e = .returned (.string ⟨(rsd a b c p).toArray⟩) ∧ Below w.heap.size w w' := by
  obtain ⟨ha, hb, hc, _⟩ := verOk_num hv
  rcases inI_ways hp with rfl | rfl | rfl
  · exact raised_0 a b c A n cap w ht ha
  · exact raised_1 a b c A n cap w ht hb
  · exact raised_any a b c A n cap w ht hc

set_option maxRecDepth 100000 in
set_option maxHeartbeats 1000000 in
theorem leadingPart_any (a b c : Int) (A : Option Addr) (n cap : Nat) (w : World) :
    Calls Tryz.prog 240 #[.agg #[.int .i64 a, .int .i64 b, .int .i64 c, .slice A n cap]] w fun e w' => e = .returned (.int .i64 (if 0 < a then 0 else if 0 < b then 1 else 2)) ∧ Below w.heap.size w w' := by
  have B0 : Below w.heap.size w (w.alloc (.cells #[.int .i64 a, .int .i64 b, .int .i64 c, .slice A n cap] 117)) := (Below.refl _ _).alloc (Nat.le_refl _) _
  by_cases h0 : 0 < a
  · rw [if_pos h0]
    go_enter Tryz.func240, Tryz.ntmps240
    go_wp2_with fail
    go_ret
    exact ⟨rfl, B0⟩
  · rw [if_neg h0]
    by_cases h1 : 0 < b
    · rw [if_pos h1]
      go_enter Tryz.func240, Tryz.ntmps240
      go_wp2_with fail
      go_ret
      exact ⟨rfl, B0⟩
    · rw [if_neg h1]
      go_enter Tryz.func240, Tryz.ntmps240
      go_wp2_with fail
      go_ret
      exact ⟨rfl, B0⟩

set_option maxRecDepth 100000 in
set_option maxHeartbeats 2000000 in
theorem fnTilde_any (a b c : Int) (A : Option Addr) (n cap : Nat) (w : World) (ht : Tab w) (hv : verOk a b c [] = true) :
    Calls Tryz.prog 241 #[.agg #[.int .i64 a, .int .i64 b, .int .i64 c, .slice A n cap]] w fun e w' => e = .returned (.string ⟨(rsd a b c 1).toArray⟩) ∧ Below w.heap.size w w' := by
  have HR := Lib.hid (fun W (h : Below w.heap.size w W) => raised_part a b c 1 A n cap W (tab_below ht h) hv (by decide))
  generalize rsd a b c 1 = t at HR ⊢
  have B0 : Below w.heap.size w (w.alloc (.cells #[.int .i64 a, .int .i64 b, .int .i64 c, .slice A n cap] 117)) := (Below.refl _ _).alloc (Nat.le_refl _) _
  clear ht hv
  go_enter Tryz.func241, Tryz.ntmps241
  go_wp2_with fail
  refine (HR.out _ B0).mono ?_
  rintro e w5 ⟨rfl, hb5⟩
  go_wp2_with fail
  go_ret
  exact ⟨rfl, B0.trans (hb5.mono B0.size)⟩

set_option maxRecDepth 100000 in
set_option maxHeartbeats 2000000 in
theorem fnPartial_any (a b c p : Int) (Q : Nat) (A : Option Addr) (n cap : Nat) (w : World) (ht : Tab w) (hv : verOk a b c [] = true) (hp : inI p 0 2 = true) (hq : w.cell? ⟨Q, 0, none⟩ = some (.int .i64 p)) :
    Calls Tryz.prog 277 #[.agg #[.int .i64 a, .int .i64 b, .int .i64 c, .slice A n cap], .pointer (some ⟨Q, 0, none⟩)] w fun e w' => e = .returned (.string ⟨(rsd a b c p).toArray⟩) ∧ Below w.heap.size w w' := by
  have HR := Lib.hid (fun W (h : Below w.heap.size w W) => raised_part a b c p A n cap W (tab_below ht h) hv hp)
  generalize rsd a b c p = t at HR ⊢
  have B0 : Below w.heap.size w (w.alloc (.cells #[.int .i64 a, .int .i64 b, .int .i64 c, .slice A n cap] 117)) := (Below.refl _ _).alloc (Nat.le_refl _) _
  have hlt := cell_in hq
  clear ht hv hp
  go_enter Tryz.func277, Tryz.ntmps277
  go_wp2_with fail
  refine (HR.out _ B0).mono ?_
  rintro e w5 ⟨rfl, hb5⟩
  go_wp2_with fail
  go_ret
  exact ⟨rfl, B0.trans (hb5.mono B0.size)⟩

set_option maxRecDepth 100000 in
set_option maxHeartbeats 2000000 in
theorem fnCaret_any (a b c : Int) (A : Option Addr) (n cap : Nat) (w : World) (ht : Tab w) (hv : verOk a b c [] = true) :
    Calls Tryz.prog 238 #[.agg #[.int .i64 a, .int .i64 b, .int .i64 c, .slice A n cap]] w fun e w' => e = .returned (.string ⟨(rsd a b c (if 0 < a then 0 else if 0 < b then 1 else 2)).toArray⟩) ∧ Below w.heap.size w w' := by
  have hin : inI (if 0 < a then 0 else if 0 < b then 1 else 2) 0 2 = true := by unfold inI; split <;> (try split) <;> decide
  have HL := Lib.hid (fun W => leadingPart_any a b c A n cap W)
  obtain ⟨p, HP⟩ : ∃ p : Int, Hid ((if 0 < a then 0 else if 0 < b then 1 else 2) = p) := ⟨_, Lib.hid rfl⟩
  simp only [HP.out] at HL hin ⊢
  have HR := Lib.hid (fun W (h : Below w.heap.size w W) => raised_part a b c p A n cap W (tab_below ht h) hv hin)
  generalize rsd a b c p = t at HR ⊢
  have B0 : Below w.heap.size w (w.alloc (.cells #[.int .i64 a, .int .i64 b, .int .i64 c, .slice A n cap] 117)) := (Below.refl _ _).alloc (Nat.le_refl _) _
  have b0 := heap_alloc_new w (.cells #[.int .i64 a, .int .i64 b, .int .i64 c, .slice A n cap] 117)
  have BV : Below w.heap.size w (w.alloc (.cells #[.int .i64 a, .int .i64 b, .int .i64 c, .slice A n cap] 117)).drew := B0.trans (below_drewN _ _ 1)
  obtain ⟨p0, p1, p2, p3⟩ := cells4 b0
  clear ht hv hin
  go_enter Tryz.func238, Tryz.ntmps238
  go_wp2_with fail
  go_region_held3 (fun W => W.cell? ⟨w.heap.size, 0, none⟩ = some (.int .i64 a) ∧ W.cell? ⟨w.heap.size, 1, none⟩ = some (.int .i64 b) ∧ W.cell? ⟨w.heap.size, 2, none⟩ = some (.int .i64 c) ∧ W.cell? ⟨w.heap.size, 3, none⟩ = some (.slice A n cap)) (first | exact ⟨p0, p1, p2, p3⟩ | go_keep) ((first
    | (go_at_call 240; (with_reducible refine (HL.out _).mono ?_); rintro e w5 ⟨rfl, hb5⟩; have B5 := BV.trans (hb5.mono BV.size); have v5 := keepB (W := (w.alloc (.cells #[.int .i64 a, .int .i64 b, .int .i64 c, .slice A n cap] 117)).drew) b0 hb5; obtain ⟨p0, p1, p2, p3⟩ := cells4 v5)
    | (go_at_call 239; (with_reducible refine (HR.out _ B5).mono ?_); rintro e w7 ⟨rfl, hb7⟩; have B7 := B5.trans (hb7.mono B5.size); have v7 := keepB v5 hb7; obtain ⟨p0, p1, p2, p3⟩ := cells4 v7)))
  all_goals
    go_wp2_with fail
    go_ret
    exact ⟨rfl, B7⟩
end Go.Proofs.YtnodhkjgnegkcaaGreatDoor

/-
  impl.readFrom with each of the functions that readAlternative and readPartial hand to it.
-/
namespace Go.Proofs.YtnodhkjgnegkcaaGreatDoor
open Go.RowKit

set_option maxRecDepth 100000 in
set_option maxHeartbeats 4000000 in
theorem rfCaret_no (l : List UInt8) (w : World) (hl : l.length ≤ 1048576) (hok : readOk l = false) :
    Calls Tryz.prog 205 #[.string ⟨l.toArray⟩, .func (.func 238) #[] #[]] w fun e w' => e = .returned (.tuple #[.agg #[.string ⟨#[]⟩, .string ⟨#[]⟩], .bool false]) ∧ Below w.heap.size w w' := by
  have HR := Lib.hid (fun W => readV_any l W hl)
  have B0 : Below w.heap.size w (w.alloc (.cells #[.string ⟨#[]⟩, .string ⟨#[]⟩] 166)) := (Below.refl _ _).alloc (Nat.le_refl _) _
  have r0 := heap_alloc_new w (.cells #[.string ⟨#[]⟩, .string ⟨#[]⟩] 166)
  go_enter Tryz.func205, Tryz.ntmps205
  go_wp2_with fail
  refine (HR.out _).mono ?_
  rintro e w2 ⟨u, rfl, hS, hb⟩
  rw [hok]
  obtain ⟨U, uc, rfl, _⟩ := RdS.of_strs hS
  have B1 := B0.trans (hb.mono (by simp))
  have r1 := keepB r0 hb
  clear hS hb B0 r0
  obtain ⟨c0, c1⟩ := two_cells r1
  have f0 := frozen2 r1 0
  have f1 := frozen2 r1 1
  have hs1 := lt_of_heap r1
  have B2 := (below_res2 B1 (Nat.le_refl _) (.string ⟨#[]⟩) (.string ⟨#[]⟩)).alloc (by simp; omega) (.cells #[.int .i64 (readA l 0), .int .i64 (readA l 1), .int .i64 (readA l 2), .slice U (readP l).length uc] 117)
  obtain ⟨y0, y1⟩ := two_cells (keepA (set2_heap r1 (.string ⟨#[]⟩) (.string ⟨#[]⟩)) (.cells #[.int .i64 (readA l 0), .int .i64 (readA l 1), .int .i64 (readA l 2), .slice U (readP l).length uc] 117))
  go_wp2_with fail
  refine bodyPost_ret (v := .tuple #[.agg #[.string ⟨#[]⟩, .string ⟨#[]⟩], .bool false]) ?_ rfl ⟨rfl, B2⟩
  simp [results, Tryz.results205, go_sem, y0, y1]

set_option maxRecDepth 100000 in
set_option maxHeartbeats 4000000 in
theorem rfCaret_yes (l : List UInt8) (w : World) (hl : l.length ≤ 1048576) (hok : readOk l = true) (ht : Tab w) :
    Calls Tryz.prog 205 #[.string ⟨l.toArray⟩, .func (.func 238) #[] #[]] w fun e w' => e = .returned (.tuple #[.agg #[.string ⟨l.toArray⟩, .string ⟨(rsd (readA l 0) (readA l 1) (readA l 2) (crt l)).toArray⟩], .bool (!(rsd (readA l 0) (readA l 1) (readA l 2) (crt l)).isEmpty)]) ∧ Below w.heap.size w w' := by
  have HR := Lib.hid (fun W => readV_any l W hl)
  have B0 : Below w.heap.size w (w.alloc (.cells #[.string ⟨#[]⟩, .string ⟨#[]⟩] 166)) := (Below.refl _ _).alloc (Nat.le_refl _) _
  have r0 := heap_alloc_new w (.cells #[.string ⟨#[]⟩, .string ⟨#[]⟩] 166)
  obtain ⟨h, HH⟩ : ∃ h, Hid (rsd (readA l 0) (readA l 1) (readA l 2) (crt l) = h) := ⟨_, Lib.hid rfl⟩
  rw [HH.out]
  have HRV := Lib.hid (read_ver hok)
  have HRB := Lib.hid (read_back hok)
  have HRN := Lib.hid (read_num hok)
  have HSM := Lib.hid (sm_readPP l)
  go_enter Tryz.func205, Tryz.ntmps205
  go_wp2_with fail
  refine (HR.out _).mono ?_
  rintro e w2 ⟨u, rfl, hS, hb⟩
  rw [hok]
  have hrd := RdS.of_strs hS
  have B1 := B0.trans (hb.mono (by simp))
  have HV := Lib.hid (fun (W : World) (h : Below w2.heap.size w2 W) => implVersionText_any (readA l 0) (readA l 1) (readA l 2) _ u (readP l) W (hS.below h) HSM.out (tab_below (tab_below ht B1) h))
  have HA := Lib.hid (fun (U : Option Addr) (n cap : Nat) (W : World) (h : Below w2.heap.size w2 W) => fnCaret_any (readA l 0) (readA l 1) (readA l 2) U n cap W (tab_below (tab_below ht B1) h) HRN.out)
  rw [show (if 0 < readA l 0 then (0 : Int) else if 0 < readA l 1 then 1 else 2) = crt l from rfl, HH.out] at HA
  rw [HRB.out] at HV
  obtain ⟨U, uc, rfl, _⟩ := hrd
  have r1 := keepB r0 hb
  clear hS hb B0 r0 ht hok HRV HRB HSM HRN
  have hs1 := lt_of_heap r1
  have BV : Below w2.heap.size w2 ((w2.alloc (.cells #[.int .i64 (readA l 0), .int .i64 (readA l 1), .int .i64 (readA l 2), .slice U (readP l).length uc] 117)).drew) := ((Below.refl _ _).alloc (Nat.le_refl _) _).trans (below_drewN _ _ 1)
  have r2 := keepA r1 (.cells #[.int .i64 (readA l 0), .int .i64 (readA l 1), .int .i64 (readA l 2), .slice U (readP l).length uc] 117)
  have v2 := heap_alloc_new w2 (.cells #[.int .i64 (readA l 0), .int .i64 (readA l 1), .int .i64 (readA l 2), .slice U (readP l).length uc] 117)
  obtain ⟨p0, p1, p2, p3⟩ := cells4 v2
  go_wp2_with fail
  have BW : Below w2.heap.size w2 (((w2.alloc (.cells #[.int .i64 (readA l 0), .int .i64 (readA l 1), .int .i64 (readA l 2), .slice U (readP l).length uc] 117)).alloc (.cells #[.string ⟨#[]⟩, .string ⟨#[]⟩] 166)).drew) := (((Below.refl _ _).alloc (Nat.le_refl _) _).alloc (by simp) _).trans (below_drewN _ _ 1)
  go_region_held3 (fun W => W.cell? ⟨w2.heap.size, 0, none⟩ = some (.int .i64 (readA l 0)) ∧ W.cell? ⟨w2.heap.size, 1, none⟩ = some (.int .i64 (readA l 1)) ∧ W.cell? ⟨w2.heap.size, 2, none⟩ = some (.int .i64 (readA l 2)) ∧ W.cell? ⟨w2.heap.size, 3, none⟩ = some (.slice U (readP l).length uc)) (first | exact ⟨p0, p1, p2, p3⟩ | exact ⟨(cell_far2 hq _ _).trans p0, (cell_far2 hq _ _).trans p1, (cell_far2 hq _ _).trans p2, (cell_far2 hq _ _).trans p3⟩ | go_keep) ((first
    | (go_at_call 253; (with_reducible refine (HV.out _ BV).mono ?_); rintro e w5 ⟨rfl, hb5⟩; have B5 := BV.trans (hb5.mono BV.size); have v5 := (keepB (W := (w2.alloc (.cells #[.int .i64 (readA l 0), .int .i64 (readA l 1), .int .i64 (readA l 2), .slice U (readP l).length uc] 117)).drew) v2 hb5); have r5 := (keepB (W := (w2.alloc (.cells #[.int .i64 (readA l 0), .int .i64 (readA l 1), .int .i64 (readA l 2), .slice U (readP l).length uc] 117)).drew) r2 hb5); obtain ⟨p0, p1, p2, p3⟩ := cells4 v5)
    | (go_at_call 238; (with_reducible refine (HA.out _ _ _ _ B5).mono ?_); rintro e w7 ⟨rfl, hb7⟩; have z7 := keepB z5 hb7; obtain ⟨z0, z1⟩ := two_cells z7; have g0 := frozen2 z7 0; have g1 := frozen2 z7 1; have hq : w2.heap.size ≠ w2.heap.size + 1 := Nat.ne_of_lt (Nat.lt_succ_self _); have B7 := B5.trans (hb7.mono B5.size); have v7 := keepB v5 hb7; have r7 := keepB r5 hb7; obtain ⟨p0, p1, p2, p3⟩ := cells4 v7)
    | (go_at_call 238; (with_reducible refine (HA.out _ _ _ _ B5).mono ?_); rintro e w7 ⟨rfl, hb7⟩; have B7 := B5.trans (hb7.mono B5.size); have v7 := keepB v5 hb7; have r7 := keepB r5 hb7; obtain ⟨p0, p1, p2, p3⟩ := cells4 v7)
    | (go_at_call 238; (with_reducible refine (HA.out _ _ _ _ (B5.alloc B5.size _)).mono ?_); rintro e w7 ⟨rfl, hb7⟩; have B7 := (B5.alloc B5.size (.cells #[.string ⟨#[]⟩, .string ⟨#[]⟩] 166)).trans (hb7.mono (B5.alloc B5.size (.cells #[.string ⟨#[]⟩, .string ⟨#[]⟩] 166)).size); have v5 := keepA v5 (.cells #[.string ⟨#[]⟩, .string ⟨#[]⟩] 166); have r5 := keepA r5 (.cells #[.string ⟨#[]⟩, .string ⟨#[]⟩] 166); have z7 := keepB (heap_alloc_new w5 _) hb7; obtain ⟨z0, z1⟩ := two_cells z7; have g0 := frozen2 z7 0; have g1 := frozen2 z7 1; have hq : w2.heap.size ≠ w5.heap.size := Nat.ne_of_lt (lt_of_heap (keepB (W := (w2.alloc (.cells #[.int .i64 (readA l 0), .int .i64 (readA l 1), .int .i64 (readA l 2), .slice U (readP l).length uc] 117)).drew) v2 hb5)); have v7 := keepB v5 hb7; have r7 := keepB r5 hb7; obtain ⟨p0, p1, p2, p3⟩ := cells4 v7)
    | (go_at_call 253; (with_reducible refine (HV.out _ BW).mono ?_); rintro e w5 ⟨rfl, hb5⟩; have B5 := BW.trans (hb5.mono BW.size); have v5 := (keepB (W := ((w2.alloc (.cells #[.int .i64 (readA l 0), .int .i64 (readA l 1), .int .i64 (readA l 2), .slice U (readP l).length uc] 117)).alloc (.cells #[.string ⟨#[]⟩, .string ⟨#[]⟩] 166)).drew) (keepA v2 (.cells #[.string ⟨#[]⟩, .string ⟨#[]⟩] 166)) hb5); have r5 := (keepB (W := ((w2.alloc (.cells #[.int .i64 (readA l 0), .int .i64 (readA l 1), .int .i64 (readA l 2), .slice U (readP l).length uc] 117)).alloc (.cells #[.string ⟨#[]⟩, .string ⟨#[]⟩] 166)).drew) (keepA r2 (.cells #[.string ⟨#[]⟩, .string ⟨#[]⟩] 166)) hb5); have z5 : w5.heap[w2.heap.size + 1]? = some (.cells #[.string ⟨#[]⟩, .string ⟨#[]⟩] 166) := keepB (W := ((w2.alloc (.cells #[.int .i64 (readA l 0), .int .i64 (readA l 1), .int .i64 (readA l 2), .slice U (readP l).length uc] 117)).alloc (.cells #[.string ⟨#[]⟩, .string ⟨#[]⟩] 166)).drew) (heap_new (W := (w2.alloc (.cells #[.int .i64 (readA l 0), .int .i64 (readA l 1), .int .i64 (readA l 2), .slice U (readP l).length uc] 117))) (by simp) _) hb5; obtain ⟨p0, p1, p2, p3⟩ := cells4 v5)))
  · have zz := heap_alloc_new w7 (.cells #[.string ⟨l.toArray⟩, .string ⟨h.toArray⟩] 166)
    have rr := keepA r7 (.cells #[.string ⟨l.toArray⟩, .string ⟨h.toArray⟩] 166)
    have hQR : w7.heap.size ≠ w.heap.size := by have := lt_of_heap r7; omega
    have BB : Below w.heap.size w (w7.alloc (.cells #[.string ⟨l.toArray⟩, .string ⟨h.toArray⟩] 166)) := (B1.trans (B7.mono B1.size)).alloc (by have := lt_of_heap r7; omega) _
    generalize w7.alloc (.cells #[.string ⟨l.toArray⟩, .string ⟨h.toArray⟩] 166) = W8 at zz rr BB ⊢
    generalize w7.heap.size = Q at zz hQR ⊢
    clear p0 p1 p2 p3 v7 r7 B7 hb7 v5 r5 B5 hb5 HV HA BV BW v2 r2
    by_cases hh : h = []
    · subst hh
      obtain ⟨z0, z1⟩ := two_cells zz
      obtain ⟨y0, y1⟩ := two_cells rr
      have f0 := frozen2 rr 0
      have f1 := frozen2 rr 1
      go_wp2_with fail
      go_region
      all_goals go_wp2_with fail
      all_goals
        obtain ⟨x0, x1⟩ := two_cells (V := ((W8.setCell ⟨w.heap.size, 0, none⟩ (.string ⟨l.toArray⟩)).setCell ⟨w.heap.size, 1, none⟩ (.string ⟨#[]⟩)).drew) (set2_heap rr (.string ⟨l.toArray⟩) (.string ⟨#[]⟩))
        refine bodyPost_ret (v := .tuple #[.agg #[.string ⟨l.toArray⟩, .string ⟨#[]⟩], .bool false]) ?_ rfl ⟨rfl, (below_res2 BB (Nat.le_refl _) (.string ⟨l.toArray⟩) (.string ⟨#[]⟩)).trans (below_drewN _ _ 1)⟩
        simp [results, Tryz.results205, go_sem, x0, x1]
    · have n1 : (h == []) = false := by simpa using hh
      have n2 : (h != []) = true := by simpa using hh
      have HE : Hid (Ending.returned (.tuple #[.agg #[.string ⟨l.toArray⟩, .string ⟨h.toArray⟩], .bool true]) = Ending.returned (.tuple #[.agg #[.string ⟨l.toArray⟩, .string ⟨h.toArray⟩], .bool (!h.isEmpty)])) := Lib.hid (by cases h with | nil => exact absurd rfl hh | cons x y => rfl)
      clear hh
      obtain ⟨z0, z1⟩ := two_cells zz
      obtain ⟨y0, y1⟩ := two_cells rr
      have f0 := frozen2 rr 0
      have f1 := frozen2 rr 1
      go_wp2_with fail
      go_region
      all_goals go_wp2_with fail
      all_goals
        obtain ⟨x0, x1⟩ := two_cells (V := ((W8.setCell ⟨w.heap.size, 0, none⟩ (.string ⟨l.toArray⟩)).setCell ⟨w.heap.size, 1, none⟩ (.string ⟨h.toArray⟩)).drew) (set2_heap rr (.string ⟨l.toArray⟩) (.string ⟨h.toArray⟩))
        refine bodyPost_ret (v := .tuple #[.agg #[.string ⟨l.toArray⟩, .string ⟨h.toArray⟩], .bool true]) ?_ rfl ⟨HE.out, (below_res2 BB (Nat.le_refl _) (.string ⟨l.toArray⟩) (.string ⟨h.toArray⟩)).trans (below_drewN _ _ 1)⟩
        simp [results, Tryz.results205, go_sem, x0, x1]
  · have zz := set2_heap z7 (.string ⟨l.toArray⟩) (.string ⟨h.toArray⟩)
    have hQR : w5.heap.size ≠ w.heap.size := by have := lt_of_heap (keepB (W := (w2.alloc (.cells #[.int .i64 (readA l 0), .int .i64 (readA l 1), .int .i64 (readA l 2), .slice U (readP l).length uc] 117)).drew) r2 hb5); omega
    have rr := (heap_far2 hQR.symm (.string ⟨l.toArray⟩) (.string ⟨h.toArray⟩)).trans r7
    have BB : Below w.heap.size w ((w7.setCell ⟨w5.heap.size, 0, none⟩ (.string ⟨l.toArray⟩)).setCell ⟨w5.heap.size, 1, none⟩ (.string ⟨h.toArray⟩)) := below_res2 (B1.trans (B7.mono B1.size)) (by have := lt_of_heap (keepB (W := (w2.alloc (.cells #[.int .i64 (readA l 0), .int .i64 (readA l 1), .int .i64 (readA l 2), .slice U (readP l).length uc] 117)).drew) r2 hb5); omega) _ _
    generalize (w7.setCell ⟨w5.heap.size, 0, none⟩ (.string ⟨l.toArray⟩)).setCell ⟨w5.heap.size, 1, none⟩ (.string ⟨h.toArray⟩) = W8 at zz rr BB ⊢
    generalize w5.heap.size = Q at zz hQR ⊢
    clear p0 p1 p2 p3 v7 r7 B7 hb7 v5 r5 B5 hb5 HV HA BV BW v2 r2
    by_cases hh : h = []
    · subst hh
      obtain ⟨z0, z1⟩ := two_cells zz
      obtain ⟨y0, y1⟩ := two_cells rr
      have f0 := frozen2 rr 0
      have f1 := frozen2 rr 1
      go_wp2_with fail
      go_region
      all_goals go_wp2_with fail
      all_goals
        obtain ⟨x0, x1⟩ := two_cells (V := ((W8.setCell ⟨w.heap.size, 0, none⟩ (.string ⟨l.toArray⟩)).setCell ⟨w.heap.size, 1, none⟩ (.string ⟨#[]⟩)).drew) (set2_heap rr (.string ⟨l.toArray⟩) (.string ⟨#[]⟩))
        refine bodyPost_ret (v := .tuple #[.agg #[.string ⟨l.toArray⟩, .string ⟨#[]⟩], .bool false]) ?_ rfl ⟨rfl, (below_res2 BB (Nat.le_refl _) (.string ⟨l.toArray⟩) (.string ⟨#[]⟩)).trans (below_drewN _ _ 1)⟩
        simp [results, Tryz.results205, go_sem, x0, x1]
    · have n1 : (h == []) = false := by simpa using hh
      have n2 : (h != []) = true := by simpa using hh
      have HE : Hid (Ending.returned (.tuple #[.agg #[.string ⟨l.toArray⟩, .string ⟨h.toArray⟩], .bool true]) = Ending.returned (.tuple #[.agg #[.string ⟨l.toArray⟩, .string ⟨h.toArray⟩], .bool (!h.isEmpty)])) := Lib.hid (by cases h with | nil => exact absurd rfl hh | cons x y => rfl)
      clear hh
      obtain ⟨z0, z1⟩ := two_cells zz
      obtain ⟨y0, y1⟩ := two_cells rr
      have f0 := frozen2 rr 0
      have f1 := frozen2 rr 1
      go_wp2_with fail
      go_region
      all_goals go_wp2_with fail
      all_goals
        obtain ⟨x0, x1⟩ := two_cells (V := ((W8.setCell ⟨w.heap.size, 0, none⟩ (.string ⟨l.toArray⟩)).setCell ⟨w.heap.size, 1, none⟩ (.string ⟨h.toArray⟩)).drew) (set2_heap rr (.string ⟨l.toArray⟩) (.string ⟨h.toArray⟩))
        refine bodyPost_ret (v := .tuple #[.agg #[.string ⟨l.toArray⟩, .string ⟨h.toArray⟩], .bool true]) ?_ rfl ⟨HE.out, (below_res2 BB (Nat.le_refl _) (.string ⟨l.toArray⟩) (.string ⟨h.toArray⟩)).trans (below_drewN _ _ 1)⟩
        simp [results, Tryz.results205, go_sem, x0, x1]
  · have zz := set2_heap z7 (.string ⟨l.toArray⟩) (.string ⟨h.toArray⟩)
    have hQR : (w2.heap.size + 1) ≠ w.heap.size := by omega
    have rr := (heap_far2 hQR.symm (.string ⟨l.toArray⟩) (.string ⟨h.toArray⟩)).trans r7
    have BB : Below w.heap.size w ((w7.setCell ⟨(w2.heap.size + 1), 0, none⟩ (.string ⟨l.toArray⟩)).setCell ⟨(w2.heap.size + 1), 1, none⟩ (.string ⟨h.toArray⟩)) := below_res2 (B1.trans (B7.mono B1.size)) (by omega) _ _
    generalize (w7.setCell ⟨(w2.heap.size + 1), 0, none⟩ (.string ⟨l.toArray⟩)).setCell ⟨(w2.heap.size + 1), 1, none⟩ (.string ⟨h.toArray⟩) = W8 at zz rr BB ⊢
    generalize w2.heap.size + 1 = Q at zz hQR ⊢
    clear p0 p1 p2 p3 v7 r7 B7 hb7 v5 r5 B5 hb5 HV HA BV BW v2 r2
    by_cases hh : h = []
    · subst hh
      obtain ⟨z0, z1⟩ := two_cells zz
      obtain ⟨y0, y1⟩ := two_cells rr
      have f0 := frozen2 rr 0
      have f1 := frozen2 rr 1
      go_wp2_with fail
      go_region
      all_goals go_wp2_with fail
      all_goals
        obtain ⟨x0, x1⟩ := two_cells (V := ((W8.setCell ⟨w.heap.size, 0, none⟩ (.string ⟨l.toArray⟩)).setCell ⟨w.heap.size, 1, none⟩ (.string ⟨#[]⟩)).drew) (set2_heap rr (.string ⟨l.toArray⟩) (.string ⟨#[]⟩))
        refine bodyPost_ret (v := .tuple #[.agg #[.string ⟨l.toArray⟩, .string ⟨#[]⟩], .bool false]) ?_ rfl ⟨rfl, (below_res2 BB (Nat.le_refl _) (.string ⟨l.toArray⟩) (.string ⟨#[]⟩)).trans (below_drewN _ _ 1)⟩
        simp [results, Tryz.results205, go_sem, x0, x1]
    · have n1 : (h == []) = false := by simpa using hh
      have n2 : (h != []) = true := by simpa using hh
      have HE : Hid (Ending.returned (.tuple #[.agg #[.string ⟨l.toArray⟩, .string ⟨h.toArray⟩], .bool true]) = Ending.returned (.tuple #[.agg #[.string ⟨l.toArray⟩, .string ⟨h.toArray⟩], .bool (!h.isEmpty)])) := Lib.hid (by cases h with | nil => exact absurd rfl hh | cons x y => rfl)
      clear hh
      obtain ⟨z0, z1⟩ := two_cells zz
      obtain ⟨y0, y1⟩ := two_cells rr
      have f0 := frozen2 rr 0
      have f1 := frozen2 rr 1
      go_wp2_with fail
      go_region
      all_goals go_wp2_with fail
      all_goals
        obtain ⟨x0, x1⟩ := two_cells (V := ((W8.setCell ⟨w.heap.size, 0, none⟩ (.string ⟨l.toArray⟩)).setCell ⟨w.heap.size, 1, none⟩ (.string ⟨h.toArray⟩)).drew) (set2_heap rr (.string ⟨l.toArray⟩) (.string ⟨h.toArray⟩))
        refine bodyPost_ret (v := .tuple #[.agg #[.string ⟨l.toArray⟩, .string ⟨h.toArray⟩], .bool true]) ?_ rfl ⟨HE.out, (below_res2 BB (Nat.le_refl _) (.string ⟨l.toArray⟩) (.string ⟨h.toArray⟩)).trans (below_drewN _ _ 1)⟩
        simp [results, Tryz.results205, go_sem, x0, x1]
set_option maxRecDepth 100000 in
set_option maxHeartbeats 4000000 in
theorem rfTilde_no (l : List UInt8) (w : World) (hl : l.length ≤ 1048576) (hok : readOk l = false) :
    Calls Tryz.prog 205 #[.string ⟨l.toArray⟩, .func (.func 241) #[] #[]] w fun e w' => e = .returned (.tuple #[.agg #[.string ⟨#[]⟩, .string ⟨#[]⟩], .bool false]) ∧ Below w.heap.size w w' := by
  have HR := Lib.hid (fun W => readV_any l W hl)
  have B0 : Below w.heap.size w (w.alloc (.cells #[.string ⟨#[]⟩, .string ⟨#[]⟩] 166)) := (Below.refl _ _).alloc (Nat.le_refl _) _
  have r0 := heap_alloc_new w (.cells #[.string ⟨#[]⟩, .string ⟨#[]⟩] 166)
  go_enter Tryz.func205, Tryz.ntmps205
  go_wp2_with fail
  refine (HR.out _).mono ?_
  rintro e w2 ⟨u, rfl, hS, hb⟩
  rw [hok]
  obtain ⟨U, uc, rfl, _⟩ := RdS.of_strs hS
  have B1 := B0.trans (hb.mono (by simp))
  have r1 := keepB r0 hb
  clear hS hb B0 r0
  obtain ⟨c0, c1⟩ := two_cells r1
  have f0 := frozen2 r1 0
  have f1 := frozen2 r1 1
  have hs1 := lt_of_heap r1
  have B2 := (below_res2 B1 (Nat.le_refl _) (.string ⟨#[]⟩) (.string ⟨#[]⟩)).alloc (by simp; omega) (.cells #[.int .i64 (readA l 0), .int .i64 (readA l 1), .int .i64 (readA l 2), .slice U (readP l).length uc] 117)
  obtain ⟨y0, y1⟩ := two_cells (keepA (set2_heap r1 (.string ⟨#[]⟩) (.string ⟨#[]⟩)) (.cells #[.int .i64 (readA l 0), .int .i64 (readA l 1), .int .i64 (readA l 2), .slice U (readP l).length uc] 117))
  go_wp2_with fail
  refine bodyPost_ret (v := .tuple #[.agg #[.string ⟨#[]⟩, .string ⟨#[]⟩], .bool false]) ?_ rfl ⟨rfl, B2⟩
  simp [results, Tryz.results205, go_sem, y0, y1]

set_option maxRecDepth 100000 in
set_option maxHeartbeats 4000000 in
theorem rfTilde_yes (l : List UInt8) (w : World) (hl : l.length ≤ 1048576) (hok : readOk l = true) (ht : Tab w) :
    Calls Tryz.prog 205 #[.string ⟨l.toArray⟩, .func (.func 241) #[] #[]] w fun e w' => e = .returned (.tuple #[.agg #[.string ⟨l.toArray⟩, .string ⟨(rsd (readA l 0) (readA l 1) (readA l 2) 1).toArray⟩], .bool (!(rsd (readA l 0) (readA l 1) (readA l 2) 1).isEmpty)]) ∧ Below w.heap.size w w' := by
  have HR := Lib.hid (fun W => readV_any l W hl)
  have B0 : Below w.heap.size w (w.alloc (.cells #[.string ⟨#[]⟩, .string ⟨#[]⟩] 166)) := (Below.refl _ _).alloc (Nat.le_refl _) _
  have r0 := heap_alloc_new w (.cells #[.string ⟨#[]⟩, .string ⟨#[]⟩] 166)
  obtain ⟨h, HH⟩ : ∃ h, Hid (rsd (readA l 0) (readA l 1) (readA l 2) 1 = h) := ⟨_, Lib.hid rfl⟩
  rw [HH.out]
  have HRV := Lib.hid (read_ver hok)
  have HRB := Lib.hid (read_back hok)
  have HRN := Lib.hid (read_num hok)
  have HSM := Lib.hid (sm_readPP l)
  go_enter Tryz.func205, Tryz.ntmps205
  go_wp2_with fail
  refine (HR.out _).mono ?_
  rintro e w2 ⟨u, rfl, hS, hb⟩
  rw [hok]
  have hrd := RdS.of_strs hS
  have B1 := B0.trans (hb.mono (by simp))
  have HV := Lib.hid (fun (W : World) (h : Below w2.heap.size w2 W) => implVersionText_any (readA l 0) (readA l 1) (readA l 2) _ u (readP l) W (hS.below h) HSM.out (tab_below (tab_below ht B1) h))
  have HA := Lib.hid (fun (U : Option Addr) (n cap : Nat) (W : World) (h : Below w2.heap.size w2 W) => fnTilde_any (readA l 0) (readA l 1) (readA l 2) U n cap W (tab_below (tab_below ht B1) h) HRN.out)
  rw [HH.out] at HA
  rw [HRB.out] at HV
  obtain ⟨U, uc, rfl, _⟩ := hrd
  have r1 := keepB r0 hb
  clear hS hb B0 r0 ht hok HRV HRB HSM HRN
  have hs1 := lt_of_heap r1
  have BV : Below w2.heap.size w2 ((w2.alloc (.cells #[.int .i64 (readA l 0), .int .i64 (readA l 1), .int .i64 (readA l 2), .slice U (readP l).length uc] 117)).drew) := ((Below.refl _ _).alloc (Nat.le_refl _) _).trans (below_drewN _ _ 1)
  have r2 := keepA r1 (.cells #[.int .i64 (readA l 0), .int .i64 (readA l 1), .int .i64 (readA l 2), .slice U (readP l).length uc] 117)
  have v2 := heap_alloc_new w2 (.cells #[.int .i64 (readA l 0), .int .i64 (readA l 1), .int .i64 (readA l 2), .slice U (readP l).length uc] 117)
  obtain ⟨p0, p1, p2, p3⟩ := cells4 v2
  go_wp2_with fail
  have BW : Below w2.heap.size w2 (((w2.alloc (.cells #[.int .i64 (readA l 0), .int .i64 (readA l 1), .int .i64 (readA l 2), .slice U (readP l).length uc] 117)).alloc (.cells #[.string ⟨#[]⟩, .string ⟨#[]⟩] 166)).drew) := (((Below.refl _ _).alloc (Nat.le_refl _) _).alloc (by simp) _).trans (below_drewN _ _ 1)
  go_region_held3 (fun W => W.cell? ⟨w2.heap.size, 0, none⟩ = some (.int .i64 (readA l 0)) ∧ W.cell? ⟨w2.heap.size, 1, none⟩ = some (.int .i64 (readA l 1)) ∧ W.cell? ⟨w2.heap.size, 2, none⟩ = some (.int .i64 (readA l 2)) ∧ W.cell? ⟨w2.heap.size, 3, none⟩ = some (.slice U (readP l).length uc)) (first | exact ⟨p0, p1, p2, p3⟩ | exact ⟨(cell_far2 hq _ _).trans p0, (cell_far2 hq _ _).trans p1, (cell_far2 hq _ _).trans p2, (cell_far2 hq _ _).trans p3⟩ | go_keep) ((first
    | (go_at_call 253; (with_reducible refine (HV.out _ BV).mono ?_); rintro e w5 ⟨rfl, hb5⟩; have B5 := BV.trans (hb5.mono BV.size); have v5 := (keepB (W := (w2.alloc (.cells #[.int .i64 (readA l 0), .int .i64 (readA l 1), .int .i64 (readA l 2), .slice U (readP l).length uc] 117)).drew) v2 hb5); have r5 := (keepB (W := (w2.alloc (.cells #[.int .i64 (readA l 0), .int .i64 (readA l 1), .int .i64 (readA l 2), .slice U (readP l).length uc] 117)).drew) r2 hb5); obtain ⟨p0, p1, p2, p3⟩ := cells4 v5)
    | (go_at_call 241; (with_reducible refine (HA.out _ _ _ _ B5).mono ?_); rintro e w7 ⟨rfl, hb7⟩; have z7 := keepB z5 hb7; obtain ⟨z0, z1⟩ := two_cells z7; have g0 := frozen2 z7 0; have g1 := frozen2 z7 1; have hq : w2.heap.size ≠ w2.heap.size + 1 := Nat.ne_of_lt (Nat.lt_succ_self _); have B7 := B5.trans (hb7.mono B5.size); have v7 := keepB v5 hb7; have r7 := keepB r5 hb7; obtain ⟨p0, p1, p2, p3⟩ := cells4 v7)
    | (go_at_call 241; (with_reducible refine (HA.out _ _ _ _ B5).mono ?_); rintro e w7 ⟨rfl, hb7⟩; have B7 := B5.trans (hb7.mono B5.size); have v7 := keepB v5 hb7; have r7 := keepB r5 hb7; obtain ⟨p0, p1, p2, p3⟩ := cells4 v7)
    | (go_at_call 241; (with_reducible refine (HA.out _ _ _ _ (B5.alloc B5.size _)).mono ?_); rintro e w7 ⟨rfl, hb7⟩; have B7 := (B5.alloc B5.size (.cells #[.string ⟨#[]⟩, .string ⟨#[]⟩] 166)).trans (hb7.mono (B5.alloc B5.size (.cells #[.string ⟨#[]⟩, .string ⟨#[]⟩] 166)).size); have v5 := keepA v5 (.cells #[.string ⟨#[]⟩, .string ⟨#[]⟩] 166); have r5 := keepA r5 (.cells #[.string ⟨#[]⟩, .string ⟨#[]⟩] 166); have z7 := keepB (heap_alloc_new w5 _) hb7; obtain ⟨z0, z1⟩ := two_cells z7; have g0 := frozen2 z7 0; have g1 := frozen2 z7 1; have hq : w2.heap.size ≠ w5.heap.size := Nat.ne_of_lt (lt_of_heap (keepB (W := (w2.alloc (.cells #[.int .i64 (readA l 0), .int .i64 (readA l 1), .int .i64 (readA l 2), .slice U (readP l).length uc] 117)).drew) v2 hb5)); have v7 := keepB v5 hb7; have r7 := keepB r5 hb7; obtain ⟨p0, p1, p2, p3⟩ := cells4 v7)
    | (go_at_call 253; (with_reducible refine (HV.out _ BW).mono ?_); rintro e w5 ⟨rfl, hb5⟩; have B5 := BW.trans (hb5.mono BW.size); have v5 := (keepB (W := ((w2.alloc (.cells #[.int .i64 (readA l 0), .int .i64 (readA l 1), .int .i64 (readA l 2), .slice U (readP l).length uc] 117)).alloc (.cells #[.string ⟨#[]⟩, .string ⟨#[]⟩] 166)).drew) (keepA v2 (.cells #[.string ⟨#[]⟩, .string ⟨#[]⟩] 166)) hb5); have r5 := (keepB (W := ((w2.alloc (.cells #[.int .i64 (readA l 0), .int .i64 (readA l 1), .int .i64 (readA l 2), .slice U (readP l).length uc] 117)).alloc (.cells #[.string ⟨#[]⟩, .string ⟨#[]⟩] 166)).drew) (keepA r2 (.cells #[.string ⟨#[]⟩, .string ⟨#[]⟩] 166)) hb5); have z5 : w5.heap[w2.heap.size + 1]? = some (.cells #[.string ⟨#[]⟩, .string ⟨#[]⟩] 166) := keepB (W := ((w2.alloc (.cells #[.int .i64 (readA l 0), .int .i64 (readA l 1), .int .i64 (readA l 2), .slice U (readP l).length uc] 117)).alloc (.cells #[.string ⟨#[]⟩, .string ⟨#[]⟩] 166)).drew) (heap_new (W := (w2.alloc (.cells #[.int .i64 (readA l 0), .int .i64 (readA l 1), .int .i64 (readA l 2), .slice U (readP l).length uc] 117))) (by simp) _) hb5; obtain ⟨p0, p1, p2, p3⟩ := cells4 v5)))
  · have zz := heap_alloc_new w7 (.cells #[.string ⟨l.toArray⟩, .string ⟨h.toArray⟩] 166)
    have rr := keepA r7 (.cells #[.string ⟨l.toArray⟩, .string ⟨h.toArray⟩] 166)
    have hQR : w7.heap.size ≠ w.heap.size := by have := lt_of_heap r7; omega
    have BB : Below w.heap.size w (w7.alloc (.cells #[.string ⟨l.toArray⟩, .string ⟨h.toArray⟩] 166)) := (B1.trans (B7.mono B1.size)).alloc (by have := lt_of_heap r7; omega) _
    generalize w7.alloc (.cells #[.string ⟨l.toArray⟩, .string ⟨h.toArray⟩] 166) = W8 at zz rr BB ⊢
    generalize w7.heap.size = Q at zz hQR ⊢
    clear p0 p1 p2 p3 v7 r7 B7 hb7 v5 r5 B5 hb5 HV HA BV BW v2 r2
    by_cases hh : h = []
    · subst hh
      obtain ⟨z0, z1⟩ := two_cells zz
      obtain ⟨y0, y1⟩ := two_cells rr
      have f0 := frozen2 rr 0
      have f1 := frozen2 rr 1
      go_wp2_with fail
      go_region
      all_goals go_wp2_with fail
      all_goals
        obtain ⟨x0, x1⟩ := two_cells (V := ((W8.setCell ⟨w.heap.size, 0, none⟩ (.string ⟨l.toArray⟩)).setCell ⟨w.heap.size, 1, none⟩ (.string ⟨#[]⟩)).drew) (set2_heap rr (.string ⟨l.toArray⟩) (.string ⟨#[]⟩))
        refine bodyPost_ret (v := .tuple #[.agg #[.string ⟨l.toArray⟩, .string ⟨#[]⟩], .bool false]) ?_ rfl ⟨rfl, (below_res2 BB (Nat.le_refl _) (.string ⟨l.toArray⟩) (.string ⟨#[]⟩)).trans (below_drewN _ _ 1)⟩
        simp [results, Tryz.results205, go_sem, x0, x1]
    · have n1 : (h == []) = false := by simpa using hh
      have n2 : (h != []) = true := by simpa using hh
      have HE : Hid (Ending.returned (.tuple #[.agg #[.string ⟨l.toArray⟩, .string ⟨h.toArray⟩], .bool true]) = Ending.returned (.tuple #[.agg #[.string ⟨l.toArray⟩, .string ⟨h.toArray⟩], .bool (!h.isEmpty)])) := Lib.hid (by cases h with | nil => exact absurd rfl hh | cons x y => rfl)
      clear hh
      obtain ⟨z0, z1⟩ := two_cells zz
      obtain ⟨y0, y1⟩ := two_cells rr
      have f0 := frozen2 rr 0
      have f1 := frozen2 rr 1
      go_wp2_with fail
      go_region
      all_goals go_wp2_with fail
      all_goals
        obtain ⟨x0, x1⟩ := two_cells (V := ((W8.setCell ⟨w.heap.size, 0, none⟩ (.string ⟨l.toArray⟩)).setCell ⟨w.heap.size, 1, none⟩ (.string ⟨h.toArray⟩)).drew) (set2_heap rr (.string ⟨l.toArray⟩) (.string ⟨h.toArray⟩))
        refine bodyPost_ret (v := .tuple #[.agg #[.string ⟨l.toArray⟩, .string ⟨h.toArray⟩], .bool true]) ?_ rfl ⟨HE.out, (below_res2 BB (Nat.le_refl _) (.string ⟨l.toArray⟩) (.string ⟨h.toArray⟩)).trans (below_drewN _ _ 1)⟩
        simp [results, Tryz.results205, go_sem, x0, x1]
  · have zz := set2_heap z7 (.string ⟨l.toArray⟩) (.string ⟨h.toArray⟩)
    have hQR : w5.heap.size ≠ w.heap.size := by have := lt_of_heap (keepB (W := (w2.alloc (.cells #[.int .i64 (readA l 0), .int .i64 (readA l 1), .int .i64 (readA l 2), .slice U (readP l).length uc] 117)).drew) r2 hb5); omega
    have rr := (heap_far2 hQR.symm (.string ⟨l.toArray⟩) (.string ⟨h.toArray⟩)).trans r7
    have BB : Below w.heap.size w ((w7.setCell ⟨w5.heap.size, 0, none⟩ (.string ⟨l.toArray⟩)).setCell ⟨w5.heap.size, 1, none⟩ (.string ⟨h.toArray⟩)) := below_res2 (B1.trans (B7.mono B1.size)) (by have := lt_of_heap (keepB (W := (w2.alloc (.cells #[.int .i64 (readA l 0), .int .i64 (readA l 1), .int .i64 (readA l 2), .slice U (readP l).length uc] 117)).drew) r2 hb5); omega) _ _
    generalize (w7.setCell ⟨w5.heap.size, 0, none⟩ (.string ⟨l.toArray⟩)).setCell ⟨w5.heap.size, 1, none⟩ (.string ⟨h.toArray⟩) = W8 at zz rr BB ⊢
    generalize w5.heap.size = Q at zz hQR ⊢
    clear p0 p1 p2 p3 v7 r7 B7 hb7 v5 r5 B5 hb5 HV HA BV BW v2 r2
    by_cases hh : h = []
    · subst hh
      obtain ⟨z0, z1⟩ := two_cells zz
      obtain ⟨y0, y1⟩ := two_cells rr
      have f0 := frozen2 rr 0
      have f1 := frozen2 rr 1
      go_wp2_with fail
      go_region
      all_goals go_wp2_with fail
      all_goals
        obtain ⟨x0, x1⟩ := two_cells (V := ((W8.setCell ⟨w.heap.size, 0, none⟩ (.string ⟨l.toArray⟩)).setCell ⟨w.heap.size, 1, none⟩ (.string ⟨#[]⟩)).drew) (set2_heap rr (.string ⟨l.toArray⟩) (.string ⟨#[]⟩))
        refine bodyPost_ret (v := .tuple #[.agg #[.string ⟨l.toArray⟩, .string ⟨#[]⟩], .bool false]) ?_ rfl ⟨rfl, (below_res2 BB (Nat.le_refl _) (.string ⟨l.toArray⟩) (.string ⟨#[]⟩)).trans (below_drewN _ _ 1)⟩
        simp [results, Tryz.results205, go_sem, x0, x1]
    · have n1 : (h == []) = false := by simpa using hh
      have n2 : (h != []) = true := by simpa using hh
      have HE : Hid (Ending.returned (.tuple #[.agg #[.string ⟨l.toArray⟩, .string ⟨h.toArray⟩], .bool true]) = Ending.returned (.tuple #[.agg #[.string ⟨l.toArray⟩, .string ⟨h.toArray⟩], .bool (!h.isEmpty)])) := Lib.hid (by cases h with | nil => exact absurd rfl hh | cons x y => rfl)
      clear hh
      obtain ⟨z0, z1⟩ := two_cells zz
      obtain ⟨y0, y1⟩ := two_cells rr
      have f0 := frozen2 rr 0
      have f1 := frozen2 rr 1
      go_wp2_with fail
      go_region
      all_goals go_wp2_with fail
      all_goals
        obtain ⟨x0, x1⟩ := two_cells (V := ((W8.setCell ⟨w.heap.size, 0, none⟩ (.string ⟨l.toArray⟩)).setCell ⟨w.heap.size, 1, none⟩ (.string ⟨h.toArray⟩)).drew) (set2_heap rr (.string ⟨l.toArray⟩) (.string ⟨h.toArray⟩))
        refine bodyPost_ret (v := .tuple #[.agg #[.string ⟨l.toArray⟩, .string ⟨h.toArray⟩], .bool true]) ?_ rfl ⟨HE.out, (below_res2 BB (Nat.le_refl _) (.string ⟨l.toArray⟩) (.string ⟨h.toArray⟩)).trans (below_drewN _ _ 1)⟩
        simp [results, Tryz.results205, go_sem, x0, x1]
  · have zz := set2_heap z7 (.string ⟨l.toArray⟩) (.string ⟨h.toArray⟩)
    have hQR : (w2.heap.size + 1) ≠ w.heap.size := by omega
    have rr := (heap_far2 hQR.symm (.string ⟨l.toArray⟩) (.string ⟨h.toArray⟩)).trans r7
    have BB : Below w.heap.size w ((w7.setCell ⟨(w2.heap.size + 1), 0, none⟩ (.string ⟨l.toArray⟩)).setCell ⟨(w2.heap.size + 1), 1, none⟩ (.string ⟨h.toArray⟩)) := below_res2 (B1.trans (B7.mono B1.size)) (by omega) _ _
    generalize (w7.setCell ⟨(w2.heap.size + 1), 0, none⟩ (.string ⟨l.toArray⟩)).setCell ⟨(w2.heap.size + 1), 1, none⟩ (.string ⟨h.toArray⟩) = W8 at zz rr BB ⊢
    generalize w2.heap.size + 1 = Q at zz hQR ⊢
    clear p0 p1 p2 p3 v7 r7 B7 hb7 v5 r5 B5 hb5 HV HA BV BW v2 r2
    by_cases hh : h = []
    · subst hh
      obtain ⟨z0, z1⟩ := two_cells zz
      obtain ⟨y0, y1⟩ := two_cells rr
      have f0 := frozen2 rr 0
      have f1 := frozen2 rr 1
      go_wp2_with fail
      go_region
      all_goals go_wp2_with fail
      all_goals
        obtain ⟨x0, x1⟩ := two_cells (V := ((W8.setCell ⟨w.heap.size, 0, none⟩ (.string ⟨l.toArray⟩)).setCell ⟨w.heap.size, 1, none⟩ (.string ⟨#[]⟩)).drew) (set2_heap rr (.string ⟨l.toArray⟩) (.string ⟨#[]⟩))
        refine bodyPost_ret (v := .tuple #[.agg #[.string ⟨l.toArray⟩, .string ⟨#[]⟩], .bool false]) ?_ rfl ⟨rfl, (below_res2 BB (Nat.le_refl _) (.string ⟨l.toArray⟩) (.string ⟨#[]⟩)).trans (below_drewN _ _ 1)⟩
        simp [results, Tryz.results205, go_sem, x0, x1]
    · have n1 : (h == []) = false := by simpa using hh
      have n2 : (h != []) = true := by simpa using hh
      have HE : Hid (Ending.returned (.tuple #[.agg #[.string ⟨l.toArray⟩, .string ⟨h.toArray⟩], .bool true]) = Ending.returned (.tuple #[.agg #[.string ⟨l.toArray⟩, .string ⟨h.toArray⟩], .bool (!h.isEmpty)])) := Lib.hid (by cases h with | nil => exact absurd rfl hh | cons x y => rfl)
      clear hh
      obtain ⟨z0, z1⟩ := two_cells zz
      obtain ⟨y0, y1⟩ := two_cells rr
      have f0 := frozen2 rr 0
      have f1 := frozen2 rr 1
      go_wp2_with fail
      go_region
      all_goals go_wp2_with fail
      all_goals
        obtain ⟨x0, x1⟩ := two_cells (V := ((W8.setCell ⟨w.heap.size, 0, none⟩ (.string ⟨l.toArray⟩)).setCell ⟨w.heap.size, 1, none⟩ (.string ⟨h.toArray⟩)).drew) (set2_heap rr (.string ⟨l.toArray⟩) (.string ⟨h.toArray⟩))
        refine bodyPost_ret (v := .tuple #[.agg #[.string ⟨l.toArray⟩, .string ⟨h.toArray⟩], .bool true]) ?_ rfl ⟨HE.out, (below_res2 BB (Nat.le_refl _) (.string ⟨l.toArray⟩) (.string ⟨h.toArray⟩)).trans (below_drewN _ _ 1)⟩
        simp [results, Tryz.results205, go_sem, x0, x1]
set_option maxRecDepth 100000 in
set_option maxHeartbeats 4000000 in
theorem rfPartial_no (l : List UInt8) (Q : Nat) (w : World) (hl : l.length ≤ 1048576) (hok : readOk l = false) :
    Calls Tryz.prog 205 #[.string ⟨l.toArray⟩, .func (.func 277) #[] #[.pointer (some ⟨Q, 0, none⟩)]] w fun e w' => e = .returned (.tuple #[.agg #[.string ⟨#[]⟩, .string ⟨#[]⟩], .bool false]) ∧ Below w.heap.size w w' := by
  have HR := Lib.hid (fun W => readV_any l W hl)
  have B0 : Below w.heap.size w (w.alloc (.cells #[.string ⟨#[]⟩, .string ⟨#[]⟩] 166)) := (Below.refl _ _).alloc (Nat.le_refl _) _
  have r0 := heap_alloc_new w (.cells #[.string ⟨#[]⟩, .string ⟨#[]⟩] 166)
  go_enter Tryz.func205, Tryz.ntmps205
  go_wp2_with fail
  refine (HR.out _).mono ?_
  rintro e w2 ⟨u, rfl, hS, hb⟩
  rw [hok]
  obtain ⟨U, uc, rfl, _⟩ := RdS.of_strs hS
  have B1 := B0.trans (hb.mono (by simp))
  have r1 := keepB r0 hb
  clear hS hb B0 r0
  obtain ⟨c0, c1⟩ := two_cells r1
  have f0 := frozen2 r1 0
  have f1 := frozen2 r1 1
  have hs1 := lt_of_heap r1
  have B2 := (below_res2 B1 (Nat.le_refl _) (.string ⟨#[]⟩) (.string ⟨#[]⟩)).alloc (by simp; omega) (.cells #[.int .i64 (readA l 0), .int .i64 (readA l 1), .int .i64 (readA l 2), .slice U (readP l).length uc] 117)
  obtain ⟨y0, y1⟩ := two_cells (keepA (set2_heap r1 (.string ⟨#[]⟩) (.string ⟨#[]⟩)) (.cells #[.int .i64 (readA l 0), .int .i64 (readA l 1), .int .i64 (readA l 2), .slice U (readP l).length uc] 117))
  go_wp2_with fail
  refine bodyPost_ret (v := .tuple #[.agg #[.string ⟨#[]⟩, .string ⟨#[]⟩], .bool false]) ?_ rfl ⟨rfl, B2⟩
  simp [results, Tryz.results205, go_sem, y0, y1]

set_option maxRecDepth 100000 in
set_option maxHeartbeats 4000000 in
theorem rfPartial_yes (l : List UInt8) (p : Int) (Q : Nat) (w : World) (hl : l.length ≤ 1048576) (hok : readOk l = true) (ht : Tab w) (hp : inI p 0 2 = true) (hQ : w.cell? ⟨Q, 0, none⟩ = some (.int .i64 p)) :
    Calls Tryz.prog 205 #[.string ⟨l.toArray⟩, .func (.func 277) #[] #[.pointer (some ⟨Q, 0, none⟩)]] w fun e w' => e = .returned (.tuple #[.agg #[.string ⟨l.toArray⟩, .string ⟨(rsd (readA l 0) (readA l 1) (readA l 2) p).toArray⟩], .bool (!(rsd (readA l 0) (readA l 1) (readA l 2) p).isEmpty)]) ∧ Below w.heap.size w w' := by
  have HR := Lib.hid (fun W => readV_any l W hl)
  have B0 : Below w.heap.size w (w.alloc (.cells #[.string ⟨#[]⟩, .string ⟨#[]⟩] 166)) := (Below.refl _ _).alloc (Nat.le_refl _) _
  have r0 := heap_alloc_new w (.cells #[.string ⟨#[]⟩, .string ⟨#[]⟩] 166)
  obtain ⟨h, HH⟩ : ∃ h, Hid (rsd (readA l 0) (readA l 1) (readA l 2) p = h) := ⟨_, Lib.hid rfl⟩
  rw [HH.out]
  have HRV := Lib.hid (read_ver hok)
  have HRB := Lib.hid (read_back hok)
  have HRN := Lib.hid (read_num hok)
  have HSM := Lib.hid (sm_readPP l)
  go_enter Tryz.func205, Tryz.ntmps205
  go_wp2_with fail
  refine (HR.out _).mono ?_
  rintro e w2 ⟨u, rfl, hS, hb⟩
  rw [hok]
  have hrd := RdS.of_strs hS
  have B1 := B0.trans (hb.mono (by simp))
  have HV := Lib.hid (fun (W : World) (h : Below w2.heap.size w2 W) => implVersionText_any (readA l 0) (readA l 1) (readA l 2) _ u (readP l) W (hS.below h) HSM.out (tab_below (tab_below ht B1) h))
  have HA := Lib.hid (fun (U : Option Addr) (n cap : Nat) (W : World) (h : Below w2.heap.size w2 W) => fnPartial_any (readA l 0) (readA l 1) (readA l 2) p Q U n cap W (tab_below (tab_below ht B1) h) HRN.out hp (keepC (B1.trans (h.mono B1.size)) hQ))
  rw [HH.out] at HA
  rw [HRB.out] at HV
  obtain ⟨U, uc, rfl, _⟩ := hrd
  have r1 := keepB r0 hb
  clear hS hb B0 r0 ht hok hp hQ HRV HRB HSM HRN
  have hs1 := lt_of_heap r1
  have BV : Below w2.heap.size w2 ((w2.alloc (.cells #[.int .i64 (readA l 0), .int .i64 (readA l 1), .int .i64 (readA l 2), .slice U (readP l).length uc] 117)).drew) := ((Below.refl _ _).alloc (Nat.le_refl _) _).trans (below_drewN _ _ 1)
  have r2 := keepA r1 (.cells #[.int .i64 (readA l 0), .int .i64 (readA l 1), .int .i64 (readA l 2), .slice U (readP l).length uc] 117)
  have v2 := heap_alloc_new w2 (.cells #[.int .i64 (readA l 0), .int .i64 (readA l 1), .int .i64 (readA l 2), .slice U (readP l).length uc] 117)
  obtain ⟨p0, p1, p2, p3⟩ := cells4 v2
  go_wp2_with fail
  have BW : Below w2.heap.size w2 (((w2.alloc (.cells #[.int .i64 (readA l 0), .int .i64 (readA l 1), .int .i64 (readA l 2), .slice U (readP l).length uc] 117)).alloc (.cells #[.string ⟨#[]⟩, .string ⟨#[]⟩] 166)).drew) := (((Below.refl _ _).alloc (Nat.le_refl _) _).alloc (by simp) _).trans (below_drewN _ _ 1)
  go_region_held3 (fun W => W.cell? ⟨w2.heap.size, 0, none⟩ = some (.int .i64 (readA l 0)) ∧ W.cell? ⟨w2.heap.size, 1, none⟩ = some (.int .i64 (readA l 1)) ∧ W.cell? ⟨w2.heap.size, 2, none⟩ = some (.int .i64 (readA l 2)) ∧ W.cell? ⟨w2.heap.size, 3, none⟩ = some (.slice U (readP l).length uc)) (first | exact ⟨p0, p1, p2, p3⟩ | exact ⟨(cell_far2 hq _ _).trans p0, (cell_far2 hq _ _).trans p1, (cell_far2 hq _ _).trans p2, (cell_far2 hq _ _).trans p3⟩ | go_keep) ((first
    | (go_at_call 253; (with_reducible refine (HV.out _ BV).mono ?_); rintro e w5 ⟨rfl, hb5⟩; have B5 := BV.trans (hb5.mono BV.size); have v5 := (keepB (W := (w2.alloc (.cells #[.int .i64 (readA l 0), .int .i64 (readA l 1), .int .i64 (readA l 2), .slice U (readP l).length uc] 117)).drew) v2 hb5); have r5 := (keepB (W := (w2.alloc (.cells #[.int .i64 (readA l 0), .int .i64 (readA l 1), .int .i64 (readA l 2), .slice U (readP l).length uc] 117)).drew) r2 hb5); obtain ⟨p0, p1, p2, p3⟩ := cells4 v5)
    | (go_at_call 277; (with_reducible refine (HA.out _ _ _ _ B5).mono ?_); rintro e w7 ⟨rfl, hb7⟩; have z7 := keepB z5 hb7; obtain ⟨z0, z1⟩ := two_cells z7; have g0 := frozen2 z7 0; have g1 := frozen2 z7 1; have hq : w2.heap.size ≠ w2.heap.size + 1 := Nat.ne_of_lt (Nat.lt_succ_self _); have B7 := B5.trans (hb7.mono B5.size); have v7 := keepB v5 hb7; have r7 := keepB r5 hb7; obtain ⟨p0, p1, p2, p3⟩ := cells4 v7)
    | (go_at_call 277; (with_reducible refine (HA.out _ _ _ _ B5).mono ?_); rintro e w7 ⟨rfl, hb7⟩; have B7 := B5.trans (hb7.mono B5.size); have v7 := keepB v5 hb7; have r7 := keepB r5 hb7; obtain ⟨p0, p1, p2, p3⟩ := cells4 v7)
    | (go_at_call 277; (with_reducible refine (HA.out _ _ _ _ (B5.alloc B5.size _)).mono ?_); rintro e w7 ⟨rfl, hb7⟩; have B7 := (B5.alloc B5.size (.cells #[.string ⟨#[]⟩, .string ⟨#[]⟩] 166)).trans (hb7.mono (B5.alloc B5.size (.cells #[.string ⟨#[]⟩, .string ⟨#[]⟩] 166)).size); have v5 := keepA v5 (.cells #[.string ⟨#[]⟩, .string ⟨#[]⟩] 166); have r5 := keepA r5 (.cells #[.string ⟨#[]⟩, .string ⟨#[]⟩] 166); have z7 := keepB (heap_alloc_new w5 _) hb7; obtain ⟨z0, z1⟩ := two_cells z7; have g0 := frozen2 z7 0; have g1 := frozen2 z7 1; have hq : w2.heap.size ≠ w5.heap.size := Nat.ne_of_lt (lt_of_heap (keepB (W := (w2.alloc (.cells #[.int .i64 (readA l 0), .int .i64 (readA l 1), .int .i64 (readA l 2), .slice U (readP l).length uc] 117)).drew) v2 hb5)); have v7 := keepB v5 hb7; have r7 := keepB r5 hb7; obtain ⟨p0, p1, p2, p3⟩ := cells4 v7)
    | (go_at_call 253; (with_reducible refine (HV.out _ BW).mono ?_); rintro e w5 ⟨rfl, hb5⟩; have B5 := BW.trans (hb5.mono BW.size); have v5 := (keepB (W := ((w2.alloc (.cells #[.int .i64 (readA l 0), .int .i64 (readA l 1), .int .i64 (readA l 2), .slice U (readP l).length uc] 117)).alloc (.cells #[.string ⟨#[]⟩, .string ⟨#[]⟩] 166)).drew) (keepA v2 (.cells #[.string ⟨#[]⟩, .string ⟨#[]⟩] 166)) hb5); have r5 := (keepB (W := ((w2.alloc (.cells #[.int .i64 (readA l 0), .int .i64 (readA l 1), .int .i64 (readA l 2), .slice U (readP l).length uc] 117)).alloc (.cells #[.string ⟨#[]⟩, .string ⟨#[]⟩] 166)).drew) (keepA r2 (.cells #[.string ⟨#[]⟩, .string ⟨#[]⟩] 166)) hb5); have z5 : w5.heap[w2.heap.size + 1]? = some (.cells #[.string ⟨#[]⟩, .string ⟨#[]⟩] 166) := keepB (W := ((w2.alloc (.cells #[.int .i64 (readA l 0), .int .i64 (readA l 1), .int .i64 (readA l 2), .slice U (readP l).length uc] 117)).alloc (.cells #[.string ⟨#[]⟩, .string ⟨#[]⟩] 166)).drew) (heap_new (W := (w2.alloc (.cells #[.int .i64 (readA l 0), .int .i64 (readA l 1), .int .i64 (readA l 2), .slice U (readP l).length uc] 117))) (by simp) _) hb5; obtain ⟨p0, p1, p2, p3⟩ := cells4 v5)))
  · have zz := heap_alloc_new w7 (.cells #[.string ⟨l.toArray⟩, .string ⟨h.toArray⟩] 166)
    have rr := keepA r7 (.cells #[.string ⟨l.toArray⟩, .string ⟨h.toArray⟩] 166)
    have hQR : w7.heap.size ≠ w.heap.size := by have := lt_of_heap r7; omega
    have BB : Below w.heap.size w (w7.alloc (.cells #[.string ⟨l.toArray⟩, .string ⟨h.toArray⟩] 166)) := (B1.trans (B7.mono B1.size)).alloc (by have := lt_of_heap r7; omega) _
    generalize w7.alloc (.cells #[.string ⟨l.toArray⟩, .string ⟨h.toArray⟩] 166) = W8 at zz rr BB ⊢
    generalize w7.heap.size = Q at zz hQR ⊢
    clear p0 p1 p2 p3 v7 r7 B7 hb7 v5 r5 B5 hb5 HV HA BV BW v2 r2
    by_cases hh : h = []
    · subst hh
      obtain ⟨z0, z1⟩ := two_cells zz
      obtain ⟨y0, y1⟩ := two_cells rr
      have f0 := frozen2 rr 0
      have f1 := frozen2 rr 1
      go_wp2_with fail
      go_region
      all_goals go_wp2_with fail
      all_goals
        obtain ⟨x0, x1⟩ := two_cells (V := ((W8.setCell ⟨w.heap.size, 0, none⟩ (.string ⟨l.toArray⟩)).setCell ⟨w.heap.size, 1, none⟩ (.string ⟨#[]⟩)).drew) (set2_heap rr (.string ⟨l.toArray⟩) (.string ⟨#[]⟩))
        refine bodyPost_ret (v := .tuple #[.agg #[.string ⟨l.toArray⟩, .string ⟨#[]⟩], .bool false]) ?_ rfl ⟨rfl, (below_res2 BB (Nat.le_refl _) (.string ⟨l.toArray⟩) (.string ⟨#[]⟩)).trans (below_drewN _ _ 1)⟩
        simp [results, Tryz.results205, go_sem, x0, x1]
    · have n1 : (h == []) = false := by simpa using hh
      have n2 : (h != []) = true := by simpa using hh
      have HE : Hid (Ending.returned (.tuple #[.agg #[.string ⟨l.toArray⟩, .string ⟨h.toArray⟩], .bool true]) = Ending.returned (.tuple #[.agg #[.string ⟨l.toArray⟩, .string ⟨h.toArray⟩], .bool (!h.isEmpty)])) := Lib.hid (by cases h with | nil => exact absurd rfl hh | cons x y => rfl)
      clear hh
      obtain ⟨z0, z1⟩ := two_cells zz
      obtain ⟨y0, y1⟩ := two_cells rr
      have f0 := frozen2 rr 0
      have f1 := frozen2 rr 1
      go_wp2_with fail
      go_region
      all_goals go_wp2_with fail
      all_goals
        obtain ⟨x0, x1⟩ := two_cells (V := ((W8.setCell ⟨w.heap.size, 0, none⟩ (.string ⟨l.toArray⟩)).setCell ⟨w.heap.size, 1, none⟩ (.string ⟨h.toArray⟩)).drew) (set2_heap rr (.string ⟨l.toArray⟩) (.string ⟨h.toArray⟩))
        refine bodyPost_ret (v := .tuple #[.agg #[.string ⟨l.toArray⟩, .string ⟨h.toArray⟩], .bool true]) ?_ rfl ⟨HE.out, (below_res2 BB (Nat.le_refl _) (.string ⟨l.toArray⟩) (.string ⟨h.toArray⟩)).trans (below_drewN _ _ 1)⟩
        simp [results, Tryz.results205, go_sem, x0, x1]
  · have zz := set2_heap z7 (.string ⟨l.toArray⟩) (.string ⟨h.toArray⟩)
    have hQR : w5.heap.size ≠ w.heap.size := by have := lt_of_heap (keepB (W := (w2.alloc (.cells #[.int .i64 (readA l 0), .int .i64 (readA l 1), .int .i64 (readA l 2), .slice U (readP l).length uc] 117)).drew) r2 hb5); omega
    have rr := (heap_far2 hQR.symm (.string ⟨l.toArray⟩) (.string ⟨h.toArray⟩)).trans r7
    have BB : Below w.heap.size w ((w7.setCell ⟨w5.heap.size, 0, none⟩ (.string ⟨l.toArray⟩)).setCell ⟨w5.heap.size, 1, none⟩ (.string ⟨h.toArray⟩)) := below_res2 (B1.trans (B7.mono B1.size)) (by have := lt_of_heap (keepB (W := (w2.alloc (.cells #[.int .i64 (readA l 0), .int .i64 (readA l 1), .int .i64 (readA l 2), .slice U (readP l).length uc] 117)).drew) r2 hb5); omega) _ _
    generalize (w7.setCell ⟨w5.heap.size, 0, none⟩ (.string ⟨l.toArray⟩)).setCell ⟨w5.heap.size, 1, none⟩ (.string ⟨h.toArray⟩) = W8 at zz rr BB ⊢
    generalize w5.heap.size = Q at zz hQR ⊢
    clear p0 p1 p2 p3 v7 r7 B7 hb7 v5 r5 B5 hb5 HV HA BV BW v2 r2
    by_cases hh : h = []
    · subst hh
      obtain ⟨z0, z1⟩ := two_cells zz
      obtain ⟨y0, y1⟩ := two_cells rr
      have f0 := frozen2 rr 0
      have f1 := frozen2 rr 1
      go_wp2_with fail
      go_region
      all_goals go_wp2_with fail
      all_goals
        obtain ⟨x0, x1⟩ := two_cells (V := ((W8.setCell ⟨w.heap.size, 0, none⟩ (.string ⟨l.toArray⟩)).setCell ⟨w.heap.size, 1, none⟩ (.string ⟨#[]⟩)).drew) (set2_heap rr (.string ⟨l.toArray⟩) (.string ⟨#[]⟩))
        refine bodyPost_ret (v := .tuple #[.agg #[.string ⟨l.toArray⟩, .string ⟨#[]⟩], .bool false]) ?_ rfl ⟨rfl, (below_res2 BB (Nat.le_refl _) (.string ⟨l.toArray⟩) (.string ⟨#[]⟩)).trans (below_drewN _ _ 1)⟩
        simp [results, Tryz.results205, go_sem, x0, x1]
    · have n1 : (h == []) = false := by simpa using hh
      have n2 : (h != []) = true := by simpa using hh
      have HE : Hid (Ending.returned (.tuple #[.agg #[.string ⟨l.toArray⟩, .string ⟨h.toArray⟩], .bool true]) = Ending.returned (.tuple #[.agg #[.string ⟨l.toArray⟩, .string ⟨h.toArray⟩], .bool (!h.isEmpty)])) := Lib.hid (by cases h with | nil => exact absurd rfl hh | cons x y => rfl)
      clear hh
      obtain ⟨z0, z1⟩ := two_cells zz
      obtain ⟨y0, y1⟩ := two_cells rr
      have f0 := frozen2 rr 0
      have f1 := frozen2 rr 1
      go_wp2_with fail
      go_region
      all_goals go_wp2_with fail
      all_goals
        obtain ⟨x0, x1⟩ := two_cells (V := ((W8.setCell ⟨w.heap.size, 0, none⟩ (.string ⟨l.toArray⟩)).setCell ⟨w.heap.size, 1, none⟩ (.string ⟨h.toArray⟩)).drew) (set2_heap rr (.string ⟨l.toArray⟩) (.string ⟨h.toArray⟩))
        refine bodyPost_ret (v := .tuple #[.agg #[.string ⟨l.toArray⟩, .string ⟨h.toArray⟩], .bool true]) ?_ rfl ⟨HE.out, (below_res2 BB (Nat.le_refl _) (.string ⟨l.toArray⟩) (.string ⟨h.toArray⟩)).trans (below_drewN _ _ 1)⟩
        simp [results, Tryz.results205, go_sem, x0, x1]
  · have zz := set2_heap z7 (.string ⟨l.toArray⟩) (.string ⟨h.toArray⟩)
    have hQR : (w2.heap.size + 1) ≠ w.heap.size := by omega
    have rr := (heap_far2 hQR.symm (.string ⟨l.toArray⟩) (.string ⟨h.toArray⟩)).trans r7
    have BB : Below w.heap.size w ((w7.setCell ⟨(w2.heap.size + 1), 0, none⟩ (.string ⟨l.toArray⟩)).setCell ⟨(w2.heap.size + 1), 1, none⟩ (.string ⟨h.toArray⟩)) := below_res2 (B1.trans (B7.mono B1.size)) (by omega) _ _
    generalize (w7.setCell ⟨(w2.heap.size + 1), 0, none⟩ (.string ⟨l.toArray⟩)).setCell ⟨(w2.heap.size + 1), 1, none⟩ (.string ⟨h.toArray⟩) = W8 at zz rr BB ⊢
    generalize w2.heap.size + 1 = Q at zz hQR ⊢
    clear p0 p1 p2 p3 v7 r7 B7 hb7 v5 r5 B5 hb5 HV HA BV BW v2 r2
    by_cases hh : h = []
    · subst hh
      obtain ⟨z0, z1⟩ := two_cells zz
      obtain ⟨y0, y1⟩ := two_cells rr
      have f0 := frozen2 rr 0
      have f1 := frozen2 rr 1
      go_wp2_with fail
      go_region
      all_goals go_wp2_with fail
      all_goals
        obtain ⟨x0, x1⟩ := two_cells (V := ((W8.setCell ⟨w.heap.size, 0, none⟩ (.string ⟨l.toArray⟩)).setCell ⟨w.heap.size, 1, none⟩ (.string ⟨#[]⟩)).drew) (set2_heap rr (.string ⟨l.toArray⟩) (.string ⟨#[]⟩))
        refine bodyPost_ret (v := .tuple #[.agg #[.string ⟨l.toArray⟩, .string ⟨#[]⟩], .bool false]) ?_ rfl ⟨rfl, (below_res2 BB (Nat.le_refl _) (.string ⟨l.toArray⟩) (.string ⟨#[]⟩)).trans (below_drewN _ _ 1)⟩
        simp [results, Tryz.results205, go_sem, x0, x1]
    · have n1 : (h == []) = false := by simpa using hh
      have n2 : (h != []) = true := by simpa using hh
      have HE : Hid (Ending.returned (.tuple #[.agg #[.string ⟨l.toArray⟩, .string ⟨h.toArray⟩], .bool true]) = Ending.returned (.tuple #[.agg #[.string ⟨l.toArray⟩, .string ⟨h.toArray⟩], .bool (!h.isEmpty)])) := Lib.hid (by cases h with | nil => exact absurd rfl hh | cons x y => rfl)
      clear hh
      obtain ⟨z0, z1⟩ := two_cells zz
      obtain ⟨y0, y1⟩ := two_cells rr
      have f0 := frozen2 rr 0
      have f1 := frozen2 rr 1
      go_wp2_with fail
      go_region
      all_goals go_wp2_with fail
      all_goals
        obtain ⟨x0, x1⟩ := two_cells (V := ((W8.setCell ⟨w.heap.size, 0, none⟩ (.string ⟨l.toArray⟩)).setCell ⟨w.heap.size, 1, none⟩ (.string ⟨h.toArray⟩)).drew) (set2_heap rr (.string ⟨l.toArray⟩) (.string ⟨h.toArray⟩))
        refine bodyPost_ret (v := .tuple #[.agg #[.string ⟨l.toArray⟩, .string ⟨h.toArray⟩], .bool true]) ?_ rfl ⟨HE.out, (below_res2 BB (Nat.le_refl _) (.string ⟨l.toArray⟩) (.string ⟨h.toArray⟩)).trans (below_drewN _ _ 1)⟩
        simp [results, Tryz.results205, go_sem, x0, x1]
theorem rf_is {w w' : World} {l : List UInt8} {p : Int} {e : Ending} (hok : readOk l = true) (h : e = .returned (.tuple #[.agg #[.string ⟨l.toArray⟩, .string ⟨(rsd (readA l 0) (readA l 1) (readA l 2) p).toArray⟩], .bool (!(rsd (readA l 0) (readA l 1) (readA l 2) p).isEmpty)]) ∧ Below w.heap.size w w') : AltIs w (fromOk l p) (fromB l p) e w' := by
  obtain ⟨rfl, hb⟩ := h
  rw [fromOk_of hok]
  exact ⟨_, _, rfl, fun _ => ⟨rfl, rfl⟩, hb⟩
theorem rf_not {w w' : World} {l : List UInt8} {p : Int} {e : Ending} (hok : readOk l = false) (h : e = .returned (.tuple #[.agg #[.string ⟨#[]⟩, .string ⟨#[]⟩], .bool false]) ∧ Below w.heap.size w w') : AltIs w (fromOk l p) (fromB l p) e w' := by
  obtain ⟨rfl, hb⟩ := h
  rw [fromOk_bad hok]
  exact ⟨_, _, rfl, fun h => (by cases h), hb⟩
theorem rfCaret_any (l : List UInt8) (w : World) (hl : l.length ≤ 1048576) (ht : Tab w) : Calls Tryz.prog 205 #[.string ⟨l.toArray⟩, .func (.func 238) #[] #[]] w (AltIs w (fromOk l (crt l)) (fromB l (crt l))) := by
  cases hok : readOk l with
  | true => exact (rfCaret_yes l w hl hok ht).mono fun e w' h => rf_is hok h
  | false => exact (rfCaret_no l w hl hok).mono fun e w' h => rf_not hok h
theorem rfTilde_any (l : List UInt8) (w : World) (hl : l.length ≤ 1048576) (ht : Tab w) : Calls Tryz.prog 205 #[.string ⟨l.toArray⟩, .func (.func 241) #[] #[]] w (AltIs w (fromOk l 1) (fromB l 1)) := by
  cases hok : readOk l with
  | true => exact (rfTilde_yes l w hl hok ht).mono fun e w' h => rf_is hok h
  | false => exact (rfTilde_no l w hl hok).mono fun e w' h => rf_not hok h
theorem rfPartial_any (l : List UInt8) (p : Int) (Q : Nat) (w : World) (hl : l.length ≤ 1048576) (ht : Tab w) (hp : inI p 0 2 = true) (hQ : w.cell? ⟨Q, 0, none⟩ = some (.int .i64 p)) : Calls Tryz.prog 205 #[.string ⟨l.toArray⟩, .func (.func 277) #[] #[.pointer (some ⟨Q, 0, none⟩)]] w (AltIs w (fromOk l p) (fromB l p)) := by
  cases hok : readOk l with
  | true => exact (rfPartial_yes l p Q w hl hok ht hp hQ).mono fun e w' h => rf_is hok h
  | false => exact (rfPartial_no l Q w hl hok).mono fun e w' h => rf_not hok h
theorem rfAbove_any (l : List UInt8) (w : World) (hl : l.length ≤ 1048576) (ht : Tab w) : Calls Tryz.prog 205 #[.string ⟨l.toArray⟩, .func (.func 206) #[] #[]] w (AltIs w (exOk l) (l, exHigh l)) := by
  cases hok : readOk l with
  | true => exact (readFrom_yes l w hl hok ht).mono fun e w' h => by obtain ⟨rfl, hb⟩ := h; rw [exOk_of hok]; exact ⟨_, _, rfl, fun _ => ⟨rfl, rfl⟩, hb⟩
  | false => exact (readFrom_no l w hl hok).mono fun e w' h => by obtain ⟨rfl, hb⟩ := h; rw [exOk_bad hok]; exact ⟨_, _, rfl, fun h => (by cases h), hb⟩
end Go.Proofs.YtnodhkjgnegkcaaGreatDoor

/-
  strings.HasPrefix and what it calls, as the library lays it, at this seat.
-/
namespace Go.Proofs
open Go.Shelf
def Tryz.laysPre_ren : Go.Shelf.Ren := ⟨fun | 99 => 237 | 206 => 272 | n => n, fun | 9 => 9 | 4 => 4 | 3 => 3 | n => n, fun | n => n⟩
theorem Tryz.laysPre : Go.Proofs.Lays.n99 Tryz.prog Tryz.laysPre_ren := {
  mixed := by kernel_rfl
  f99 := Tryz.func237.trans (congrArg some (by kernel_rfl))
  f206 := Tryz.func272.trans (congrArg some (by kernel_rfl))
  t3 := Tryz.underlying3
  a3 := Tryz.isAgg3
  z3 := Tryz.sizeOf3
  v3 := Tryz.zeroValue3
  t4 := Tryz.underlying4
  a4 := Tryz.isAgg4
  z4 := Tryz.sizeOf4
  v4 := Tryz.zeroValue4
  t9 := Tryz.underlying9
  a9 := Tryz.isAgg9
  z9 := Tryz.sizeOf9
  v9 := Tryz.zeroValue9 }
end Go.Proofs

/-
  strings.Split and what it calls, as the library lays it, at this seat.
-/
namespace Go.Proofs
open Go.Shelf
def Tryz.laysSplit_ren : Go.Shelf.Ren := ⟨fun | 146 => 197 | 221 => 236 | 268 => 270 | 138 => 243 | 143 => 271 | 195 => 274 | 197 => 291 | 218 => 275 | 219 => 286 | 260 => 303 | 217 => 268 | 225 => 298 | 224 => 299 | 267 => 300 | 266 => 290 | 314 => 309 | n => n, fun | 9 => 9 | 31 => 29 | 3 => 3 | 4 => 4 | 0 => 0 | 105 => 280 | 21 => 21 | 5 => 5 | 46 => 148 | 119 => 293 | 139 => 296 | 138 => 295 | 146 => 224 | 51 => 202 | n => n, fun | 1 => 0 | 3 => 1 | 4 => 2 | n => n⟩
theorem Tryz.laysSplit : Go.Proofs.LaysM.n146 Tryz.prog Tryz.laysSplit_ren := {
  mixed := by kernel_rfl
  f138 := Tryz.func243.trans (congrArg some (by kernel_rfl))
  f143 := Tryz.func271.trans (congrArg some (by kernel_rfl))
  f146 := Tryz.func197.trans (congrArg some (by kernel_rfl))
  f195 := Tryz.func274.trans (congrArg some (by kernel_rfl))
  f197 := Tryz.func291.trans (congrArg some (by kernel_rfl))
  f217 := Tryz.func268.trans (congrArg some (by kernel_rfl))
  f218 := Tryz.func275.trans (congrArg some (by kernel_rfl))
  f219 := Tryz.func286.trans (congrArg some (by kernel_rfl))
  f221 := Tryz.func236.trans (congrArg some (by kernel_rfl))
  f224 := Tryz.func299.trans (congrArg some (by kernel_rfl))
  f225 := Tryz.func298.trans (congrArg some (by kernel_rfl))
  f260 := Tryz.func303.trans (congrArg some (by kernel_rfl))
  f266 := Tryz.func290.trans (congrArg some (by kernel_rfl))
  f267 := Tryz.func300.trans (congrArg some (by kernel_rfl))
  f268 := Tryz.func270.trans (congrArg some (by kernel_rfl))
  f314 := Tryz.func309.trans (congrArg some (by kernel_rfl))
  t0 := Tryz.underlying0
  a0 := Tryz.isAgg0
  z0 := Tryz.sizeOf0
  v0 := Tryz.zeroValue0
  t3 := Tryz.underlying3
  a3 := Tryz.isAgg3
  z3 := Tryz.sizeOf3
  v3 := Tryz.zeroValue3
  t4 := Tryz.underlying4
  a4 := Tryz.isAgg4
  z4 := Tryz.sizeOf4
  v4 := Tryz.zeroValue4
  t5 := Tryz.underlying5
  a5 := Tryz.isAgg5
  z5 := Tryz.sizeOf5
  v5 := Tryz.zeroValue5
  t9 := Tryz.underlying9
  a9 := Tryz.isAgg9
  z9 := Tryz.sizeOf9
  v9 := Tryz.zeroValue9
  t21 := Tryz.underlying21
  a21 := Tryz.isAgg21
  z21 := Tryz.sizeOf21
  v21 := Tryz.zeroValue21
  t31 := Tryz.underlying29
  a31 := Tryz.isAgg29
  z31 := Tryz.sizeOf29
  v31 := Tryz.zeroValue29
  t46 := Tryz.underlying148
  a46 := Tryz.isAgg148
  z46 := Tryz.sizeOf148
  v46 := Tryz.zeroValue148
  t51 := Tryz.underlying202
  a51 := Tryz.isAgg202
  z51 := Tryz.sizeOf202
  v51 := Tryz.zeroValue202
  t105 := Tryz.underlying280
  a105 := Tryz.isAgg280
  z105 := Tryz.sizeOf280
  v105 := Tryz.zeroValue280
  t119 := Tryz.underlying293
  a119 := Tryz.isAgg293
  z119 := Tryz.sizeOf293
  t138 := Tryz.underlying295
  a138 := Tryz.isAgg295
  z138 := Tryz.sizeOf295
  v138 := Tryz.zeroValue295
  t139 := Tryz.underlying296
  a139 := Tryz.isAgg296
  z139 := Tryz.sizeOf296
  v139 := Tryz.zeroValue296
  t146 := Tryz.underlying224
  a146 := Tryz.isAgg224
  z146 := Tryz.sizeOf224
  v146 := Tryz.zeroValue224
  g1 := by kernel_rfl
  g3 := by kernel_rfl
  g4 := by kernel_rfl
  i0 := by kernel_rfl
  i3 := by kernel_rfl
  i4 := by kernel_rfl
  i5 := by kernel_rfl
  i9 := by kernel_rfl
  i21 := by kernel_rfl
  i31 := by kernel_rfl
  i46 := by kernel_rfl
  i51 := by kernel_rfl
  i105 := by kernel_rfl
  i138 := by kernel_rfl
  i139 := by kernel_rfl
  i146 := by kernel_rfl
  m1 := by kernel_rfl
  s1_3 := fun w h => Go.Proofs.cell_of_shapedOpen_int (zero := #[.int .i64 0]) (t := 3) h (of_decide_eq_true (by kernel_rfl)) (by kernel_rfl) rfl (by kernel_rfl) (by kernel_rfl) Tryz.underlying3
  m3 := by kernel_rfl
  m4 := by kernel_rfl }
end Go.Proofs

/-
  strings.Repeat and what it calls, as the library lays it, at this seat.
-/
namespace Go.Proofs
open Go.Shelf
def Tryz.laysRepeat_ren : Go.Shelf.Ren := ⟨fun | 105 => 276 | 212 => 164 | 99 => 237 | 165 => 127 | 166 => 128 | 170 => 293 | 169 => 129 | 263 => 208 | 264 => 209 | 206 => 272 | 240 => 178 | 241 => 179 | 276 => 225 | 277 => 226 | n => n, fun | 9 => 9 | 3 => 3 | 4 => 4 | 20 => 20 | 0 => 0 | 46 => 148 | 109 => 191 | 5 => 5 | 72 => 154 | 76 => 157 | 51 => 202 | 146 => 224 | 53 => 204 | 148 => 226 | 70 => 152 | 37 => 145 | 75 => 156 | 127 => 205 | 164 => 240 | 80 => 159 | n => n, fun | n => n⟩
theorem Tryz.laysRepeat : Go.Proofs.Lays.n105 Tryz.prog Tryz.laysRepeat_ren := {
  mixed := by kernel_rfl
  f99 := Tryz.func237.trans (congrArg some (by kernel_rfl))
  f105 := Tryz.func276.trans (congrArg some (by kernel_rfl))
  f165 := Tryz.func127.trans (congrArg some (by kernel_rfl))
  f166 := Tryz.func128.trans (congrArg some (by kernel_rfl))
  f169 := Tryz.func129.trans (congrArg some (by kernel_rfl))
  f170 := Tryz.func293.trans (congrArg some (by kernel_rfl))
  f206 := Tryz.func272.trans (congrArg some (by kernel_rfl))
  f212 := Tryz.func164.trans (congrArg some (by kernel_rfl))
  f240 := Tryz.func178.trans (congrArg some (by kernel_rfl))
  f241 := Tryz.func179.trans (congrArg some (by kernel_rfl))
  f263 := Tryz.func208.trans (congrArg some (by kernel_rfl))
  f264 := Tryz.func209.trans (congrArg some (by kernel_rfl))
  f276 := Tryz.func225.trans (congrArg some (by kernel_rfl))
  f277 := Tryz.func226.trans (congrArg some (by kernel_rfl))
  t0 := Tryz.underlying0
  a0 := Tryz.isAgg0
  z0 := Tryz.sizeOf0
  v0 := Tryz.zeroValue0
  t3 := Tryz.underlying3
  a3 := Tryz.isAgg3
  z3 := Tryz.sizeOf3
  v3 := Tryz.zeroValue3
  t4 := Tryz.underlying4
  a4 := Tryz.isAgg4
  z4 := Tryz.sizeOf4
  v4 := Tryz.zeroValue4
  t5 := Tryz.underlying5
  a5 := Tryz.isAgg5
  z5 := Tryz.sizeOf5
  v5 := Tryz.zeroValue5
  t9 := Tryz.underlying9
  a9 := Tryz.isAgg9
  z9 := Tryz.sizeOf9
  v9 := Tryz.zeroValue9
  t20 := Tryz.underlying20
  a20 := Tryz.isAgg20
  z20 := Tryz.sizeOf20
  v20 := Tryz.zeroValue20
  t37 := Tryz.underlying145
  a37 := Tryz.isAgg145
  z37 := Tryz.sizeOf145
  v37 := Tryz.zeroValue145
  t46 := Tryz.underlying148
  a46 := Tryz.isAgg148
  z46 := Tryz.sizeOf148
  v46 := Tryz.zeroValue148
  t51 := Tryz.underlying202
  a51 := Tryz.isAgg202
  z51 := Tryz.sizeOf202
  v51 := Tryz.zeroValue202
  t53 := Tryz.underlying204
  a53 := Tryz.isAgg204
  z53 := Tryz.sizeOf204
  v53 := Tryz.zeroValue204
  t70 := Tryz.underlying152
  a70 := Tryz.isAgg152
  z70 := Tryz.sizeOf152
  v70 := Tryz.zeroValue152
  t72 := Tryz.underlying154
  a72 := Tryz.isAgg154
  z72 := Tryz.sizeOf154
  v72 := Tryz.zeroValue154
  t75 := Tryz.underlying156
  a75 := Tryz.isAgg156
  z75 := Tryz.sizeOf156
  v75 := Tryz.zeroValue156
  t76 := Tryz.underlying157
  a76 := Tryz.isAgg157
  z76 := Tryz.sizeOf157
  v76 := Tryz.zeroValue157
  t109 := Tryz.underlying191
  a109 := Tryz.isAgg191
  z109 := Tryz.sizeOf191
  v109 := Tryz.zeroValue191
  t127 := Tryz.underlying205
  a127 := Tryz.isAgg205
  z127 := Tryz.sizeOf205
  v127 := Tryz.zeroValue205
  t146 := Tryz.underlying224
  a146 := Tryz.isAgg224
  z146 := Tryz.sizeOf224
  v146 := Tryz.zeroValue224
  t148 := Tryz.underlying226
  a148 := Tryz.isAgg226
  z148 := Tryz.sizeOf226
  v148 := Tryz.zeroValue226
  t164 := Tryz.underlying240
  a164 := Tryz.isAgg240
  z164 := Tryz.sizeOf240
  v164 := Tryz.zeroValue240 }
end Go.Proofs

namespace Go.Proofs
open Go.Shelf
def Tryz.laysCut_ren : Go.Shelf.Ren := ⟨fun | 145 => 231 | 220 => 263 | 219 => 286 | 217 => 268 | 225 => 298 | 224 => 299 | 267 => 300 | 266 => 290 | 314 => 309 | n => n, fun | 9 => 9 | 4 => 4 | 59 => 245 | 3 => 3 | 5 => 5 | 46 => 148 | 146 => 224 | 51 => 202 | n => n, fun | 1 => 0 | n => n⟩
theorem Tryz.laysCut : Go.Proofs.LaysM.n145 Tryz.prog Tryz.laysCut_ren := {
  mixed := by kernel_rfl
  f145 := Tryz.func231.trans (congrArg some (by kernel_rfl))
  f217 := Tryz.func268.trans (congrArg some (by kernel_rfl))
  f219 := Tryz.func286.trans (congrArg some (by kernel_rfl))
  f220 := Tryz.func263.trans (congrArg some (by kernel_rfl))
  f224 := Tryz.func299.trans (congrArg some (by kernel_rfl))
  f225 := Tryz.func298.trans (congrArg some (by kernel_rfl))
  f266 := Tryz.func290.trans (congrArg some (by kernel_rfl))
  f267 := Tryz.func300.trans (congrArg some (by kernel_rfl))
  f314 := Tryz.func309.trans (congrArg some (by kernel_rfl))
  t3 := Tryz.underlying3
  a3 := Tryz.isAgg3
  z3 := Tryz.sizeOf3
  v3 := Tryz.zeroValue3
  t4 := Tryz.underlying4
  a4 := Tryz.isAgg4
  z4 := Tryz.sizeOf4
  v4 := Tryz.zeroValue4
  t5 := Tryz.underlying5
  a5 := Tryz.isAgg5
  z5 := Tryz.sizeOf5
  v5 := Tryz.zeroValue5
  t9 := Tryz.underlying9
  a9 := Tryz.isAgg9
  z9 := Tryz.sizeOf9
  v9 := Tryz.zeroValue9
  t46 := Tryz.underlying148
  a46 := Tryz.isAgg148
  z46 := Tryz.sizeOf148
  v46 := Tryz.zeroValue148
  t51 := Tryz.underlying202
  a51 := Tryz.isAgg202
  z51 := Tryz.sizeOf202
  v51 := Tryz.zeroValue202
  t59 := Tryz.underlying245
  a59 := Tryz.isAgg245
  z59 := Tryz.sizeOf245
  v59 := Tryz.zeroValue245
  t146 := Tryz.underlying224
  a146 := Tryz.isAgg224
  z146 := Tryz.sizeOf224
  v146 := Tryz.zeroValue224
  g1 := by kernel_rfl
  i3 := by kernel_rfl
  i4 := by kernel_rfl
  i5 := by kernel_rfl
  i9 := by kernel_rfl
  i46 := by kernel_rfl
  i51 := by kernel_rfl
  i59 := by kernel_rfl
  i146 := by kernel_rfl
  m1 := by kernel_rfl
  s1_3 := fun w h => Go.Proofs.cell_of_shapedOpen_int (zero := #[.int .i64 0]) (t := 3) h (of_decide_eq_true (by kernel_rfl)) (by kernel_rfl) rfl (by kernel_rfl) (by kernel_rfl) Tryz.underlying3 }
end Go.Proofs
