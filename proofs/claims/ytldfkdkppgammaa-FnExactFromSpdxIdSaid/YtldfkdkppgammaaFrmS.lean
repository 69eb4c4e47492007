/-
  spec.FromSpdxId returns the key whose identifier a text is, or the empty text.
-/
import Derived.Test.YtldfkdkppgammaaSpdS
import Derived.Test.YtldfkdkppgammaaPieces
namespace Go.Proofs.Ytldfkdkppgammaa
open Go.RowKit

/-- A reader that stands at k of l and has out. -/
def IdAt (l : List UInt8) (k : Nat) (out : List UInt8) : Prop := idG (l.drop 8) = (idG (l.drop k)).map (out ++ ·) ∧ out.length ≤ k
theorem idAt_start (l : List UInt8) : IdAt l 8 [] := by unfold IdAt; simp
theorem idAt_step {l : List UInt8} {k m : Nat} {out : List UInt8} {c : UInt8} (h : IdAt l k out) (hm : 1 ≤ m) (hg : idG (l.drop k) = (idG (l.drop (k + m))).map (c :: ·)) : IdAt l (k + m) (out ++ [c]) := by
  refine ⟨?_, by have := h.2; simp; omega⟩
  rw [h.1, hg, Option.map_map]
  congr 1
  funext x; simp
theorem idAt_none {l : List UInt8} {k : Nat} {out : List UInt8} (h : IdAt l k out) (hg : idG (l.drop k) = none) : idG (l.drop 8) = none := by rw [h.1, hg]; rfl
theorem idAt_end {l : List UInt8} {k : Nat} {out : List UInt8} (h : IdAt l k out) (hg : idG (l.drop k) = some []) : idG (l.drop 8) = some out := by rw [h.1, hg]; simp
theorem idG_plain {s : ByteArray} {k : Nat} (h : k < s.size) (hc : ¬ s[k] = 45) : idG (s.data.toList.drop k) = (idG (s.data.toList.drop (k + 1))).map (s[k] :: ·) := by
  rw [drop_cons s k h, idG_cons, if_neg hc]
theorem idG_short {s : ByteArray} {k : Nat} (h : k < s.size) (hc : s[k] = 45) (h2 : s.size ≤ k + 3) : idG (s.data.toList.drop k) = none := by
  rw [drop_cons s k h, idG_cons, if_pos hc]
  have hl : (s.data.toList.drop (k + 1)).length < 3 := by simp; omega
  match hd : s.data.toList.drop (k + 1) with
  | [] => rfl
  | [_] => rfl
  | [_, _] => rfl
  | a :: b :: c :: r => rw [hd] at hl; simp at hl; omega
theorem idG_pair {s : ByteArray} {k : Nat} (h : k + 3 < s.size) (hc : s[k] = 45) : idG (s.data.toList.drop k) = match pairV lowerL s[k + 1] s[k + 2] with
    | some v => (idG (s.data.toList.drop (k + 4))).map (v :: ·)
    | none => none := by
  rw [drop_cons s k (by omega), idG_cons, if_pos hc, drop_cons s (k + 1) (by omega), drop_cons s (k + 2) (by omega), drop_cons s (k + 3) h]
  rfl
theorem fromS_bad {l : List UInt8} (h : ¬ l.take 8 = idP) : fromS l = [] := by unfold fromS; rw [if_neg h]
theorem fromS_none {l : List UInt8} (h : idG (l.drop 8) = none) : fromS l = [] := by unfold fromS; rw [h]; split <;> rfl
theorem fromS_some {l k : List UInt8} (h : l.take 8 = idP) (hk : idG (l.drop 8) = some k) : fromS l = if idT k = l then k else [] := by unfold fromS; rw [if_pos h, hk]

set_option maxRecDepth 100000 in
set_option maxHeartbeats 2000000 in
theorem specFromSpdxId_any (s : ByteArray) (w : World) (hs : s.size ≤ 1048576) :
    Calls Try.prog 15 #[.string s] w fun e w' => e = .returned (.string ⟨(fromS s.data.toList).toArray⟩) ∧ Below w.heap.size w w' := by
  obtain ⟨r, HR⟩ : ∃ r, Hid (fromS s.data.toList = r) := ⟨_, Lib.hid rfl⟩
  rw [HR.out]
  by_cases h8 : s.size < 8
  · have HX : Hid (r = []) := Lib.hid (by
      rw [← HR.out]
      apply fromS_bad
      intro h
      have := congrArg List.length h
      simp [idP] at this
      omega)
    go_enter Try.func15, Try.ntmps15
    go_wp2
    go_ret
    exact ⟨ret_str HX.out.symm, Below.refl _ _⟩
  have h8' : ¬ (s.size : Int) < 8 := by omega
  have s1 := fun W => slice_str s _ 0 8 0 8 rfl rfl (by omega) (by omega) (piece s 0 8) W
  have s2 : ∀ W, (Instr.slice 9 (.string s) none (some (.int .i64 8)) none).run Try.prog W = .ok (.string ⟨(s.data.toList.take 8).toArray⟩) W := fun W => by
    have h := run_slice_string_h (P := Try.prog) W 9 s Try.underlying9 .i64 8 (by omega) (by omega)
    rw [show (8 : Int).toNat = 8 from rfl, piece s 0 8] at h
    simpa using h
  clear s1
  by_cases hp : s.data.toList.take 8 = idP
  · have q : (s.data.toList.take 8 == [83, 80, 68, 88, 82, 101, 102, 45]) = true := by rw [hp]; rfl
    have HP0 := Lib.hid hp
    clear hp
    go_enter Try.func15, Try.ntmps15
    go_wp2
    clear s2 q
    go_loopw [3, 4, 5, 6] (fun o n _ _ wr => ∃ (k : Nat) (out : List UInt8), k ≤ s.size ∧ n = .int .i64 k ∧ o = .string ⟨out.toArray⟩ ∧ Below w.heap.size w wr ∧ IdAt s.data.toList k out) (fun _ n _ _ _ => s.size - (intOf n).toNat)
    case atStart => exact ⟨8, [], by omega, rfl, rfl, Below.refl _ _, idAt_start _⟩
    case round =>
      obtain ⟨k, out, hk, rfl, rfl, hb, HP⟩ := hrel
      have hol := HP.2
      by_cases hlt : k < s.size
      · by_cases hc : s[k] = 45
        · have hne : ((s[k].toNat : Int) != 45) = false := by rw [hc]; rfl
          by_cases h3 : s.size ≤ k + 3
          · have HN : Hid (r = []) := Lib.hid (by rw [← HR.out]; exact fromS_none (idAt_none HP (idG_short hlt hc h3)))
            have t3 : (s.size : Int) ≤ (k : Int) + 3 := by omega
            clear HP hc
            go_wp2_with fail
            go_ret
            exact ⟨ret_str HN.out.symm, hb⟩
          · have t3 : ¬ (s.size : Int) ≤ (k : Int) + 3 := by omega
            have hk3 : k + 3 < s.size := by omega
            have hcall := fun W => specGetHex_any ⟨#[s[k + 1], s[k + 2]]⟩ W (by show 2 ≤ 1048576; omega)
            have he := slice_str s _ (k + 1) (k + 3) ((k : Int) + 1) ((k : Int) + 3) (by omega) (by omega) (by omega) (by omega) (extract_two s k (by omega))
            have hlp := idG_pair hk3 hc
            cases hpv : pairV lowerL s[k + 1] s[k + 2] with
            | none =>
              have HN : Hid (r = []) := Lib.hid (by rw [← HR.out]; exact fromS_none (idAt_none HP (by rw [hlp, hpv])))
              have hpl : pairsL lowerL [s[k + 1], s[k + 2]] = none := by simp [pairsL, hpv]
              have HC : Hid (∀ W, Calls Try.prog 46 #[.string ⟨#[s[k + 1], s[k + 2]]⟩] W fun e w' => e = .returned (optText none) ∧ Below W.heap.size W w') := Lib.hid (by rw [← hpl]; exact hcall)
              clear HP hc hcall hlp hpv hpl
              go_wp2_with fail
              refine (HC.out _).mono ?_
              rintro e w1 ⟨rfl, hb1⟩
              unfold optText
              go_wp2_with fail
              go_ret
              exact ⟨ret_str HN.out.symm, hb.trans (hb1.mono hb.size)⟩
            | some v =>
              have HN := Lib.hid (idAt_step (m := 4) (c := v) HP (by omega) (by rw [hlp, hpv]))
              have hpl : pairsL lowerL [s[k + 1], s[k + 2]] = some [v] := by simp [pairsL, hpv]
              have HC : Hid (∀ W, Calls Try.prog 46 #[.string ⟨#[s[k + 1], s[k + 2]]⟩] W fun e w' => e = .returned (optText (some [v])) ∧ Below W.heap.size W w') := Lib.hid (by rw [← hpl]; exact hcall)
              clear HP hc hcall hlp hpv hpl
              go_wp2_with fail
              refine (HC.out _).mono ?_
              rintro e w1 ⟨rfl, hb1⟩
              unfold optText
              have HB := hb.trans (hb1.mono hb.size)
              go_wp2_with fail
              go_roundw
              case rel => exact ⟨k + 4, _, by omega, by go_num, str_add out [v], HB, HN.out⟩
              case measure => simp [intOf]; omega
        · have hne : ((s[k].toNat : Int) != 45) = true := int_bne_true (fun h => hc (UInt8.toNat_inj.1 (by show _ = (45 : Nat); omega)))
          have HN := Lib.hid (idAt_step HP (by omega) (idG_plain hlt hc))
          have he := slice_str s _ k (k + 1) (k : Int) ((k : Int) + 1) rfl (by omega) (by omega) (by omega) (extract_one s k hlt)
          clear HP hc
          go_wp2_with fail
          go_roundw
          case rel => exact ⟨k + 1, _, by omega, by go_num, str_add out [s[k]], hb, HN.out⟩
          case measure => simp [intOf]; omega
      · have hG := idAt_end HP (by rw [drop_end s k hlt]; rfl)
        have hcall := specSpdxId_any ⟨out.toArray⟩ wr (by show out.toArray.size ≤ _; simp; omega)
        have HC := Lib.hid hcall
        clear HP hcall
        by_cases hp : idT out = s.data.toList
        · have HN : Hid (r = out) := Lib.hid (by rw [← HR.out, fromS_some HP0.out hG, if_pos hp])
          have e2 : (idT out == s.toList) = true := by rw [ByteArray.toList_eq, hp]; simp
          clear hG hp
          go_wp2_with fail
          refine HC.out.mono ?_
          rintro e w1 ⟨rfl, hb1⟩
          go_wp2_with fail
          go_ret
          exact ⟨ret_str HN.out.symm, hb.trans (hb1.mono hb.size)⟩
        · have HN : Hid (r = []) := Lib.hid (by rw [← HR.out, fromS_some HP0.out hG, if_neg hp])
          have e2 : (idT out == s.toList) = false := by rw [ByteArray.toList_eq]; simpa using hp
          clear hG hp
          go_wp2_with fail
          refine HC.out.mono ?_
          rintro e w1 ⟨rfl, hb1⟩
          go_wp2_with fail
          go_ret
          exact ⟨ret_str HN.out.symm, hb.trans (hb1.mono hb.size)⟩
  · have q : (s.data.toList.take 8 == [83, 80, 68, 88, 82, 101, 102, 45]) = false := by simpa [idP] using hp
    have HX : Hid (r = []) := Lib.hid (by rw [← HR.out]; exact fromS_bad hp)
    clear hp
    go_enter Try.func15, Try.ntmps15
    go_wp2
    go_ret
    exact ⟨ret_str HX.out.symm, Below.refl _ _⟩
end Go.Proofs.Ytldfkdkppgammaa
