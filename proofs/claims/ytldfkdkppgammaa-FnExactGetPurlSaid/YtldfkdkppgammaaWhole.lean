/-
  At every argument the law FnExactGetPurl returns true and leaves its arguments as they were. No condition.
-/
import Derived.Test.YtldfkdkppgammaaRdIs
import Derived.Deep.QuietTactic
import Derived.BigQuiet
import Derived.Test.YtldfkdkppgammaaBase
import Derived.Test.YtldfkdkppgammaaRows
import Derived.Test.YtldfkdkppgammaaVerM
import Derived.Test.YtldfkdkppgammaaVerS
import Derived.Test.YtldfkdkppgammaaSplit
import Derived.Deep.RegionHeld3
import Derived.Test.YtldfkdkppgammaaParts
import Derived.Test.YtldfkdkppgammaaNameS
import Derived.Outline
import Derived.RangeFuncFrom
import Derived.RangeFuncBox
import Derived.Test.YtldfkdkppgammaaPercent
import Derived.Test.YtldfkdkppgammaaPurlS
import Derived.Test.YtldfkdkppgammaaJoinB
import Derived.Test.YtldfkdkppgammaaGpuS
import Derived.Test.YtldfkdkppgammaaGpuN
import Derived.WalkKit
import Derived.ProofKit
import Derived.OpenShut
import Derived.ShutString
import Derived.ChangeOld
import Derived.Below
import Derived.Carry
import Derived.HandedShaped
/-
  strings.Cut at a dash.
-/
namespace Go.Proofs.Ytldfkdkppgammaa
open Go.RowKit

set_option maxRecDepth 100000 in
set_option maxHeartbeats 1000000 in
theorem sliteIndex_dash (s : ByteArray) (w : World) (_hs : s.size ≤ 1048576) :
    Calls Try.prog 127 #[.string s, .string ⟨#[45]⟩] w fun e w' => e = .returned (.int .i64 (dash s.data.toList)) ∧ w = w' := by
  by_cases he : s.data.toList = [45]
  · have e1 : ([45] == s.toList) = true := by rw [ByteArray.toList_eq, he]; rfl
    have HD : Hid (dash s.data.toList = 0) := Lib.hid (by rw [he]; rfl)
    clear he
    go_enter Try.func127, Try.ntmps127
    go_wp2_with fail
    go_ret
    exact ⟨ret_int HD.out.symm, rfl⟩
  · have e1 : ([45] == s.toList) = false := by rw [ByteArray.toList_eq]; simp; exact fun h => he h.symm
    clear he
    go_enter Try.func127, Try.ntmps127
    go_wp2_with fail
    refine (sliteIndexByte_any s 45 _).mono ?_
    rintro e w' ⟨rfl, rfl⟩
    rw [show Lib.indexByte s.data.toList (Int.toNat 45).toUInt8 = dash s.data.toList from rfl]
    go_wp2_with fail
    go_ret
    exact ⟨rfl, rfl⟩

set_option maxRecDepth 100000 in
set_option maxHeartbeats 1000000 in
theorem cutDash_yes (s : ByteArray) (w : World) (hs : s.size ≤ 1048576) (k : Nat) (hk : k < s.size) (hd : dash s.data.toList = (k : Int)) :
    Calls Try.prog 107 #[.string s, .string ⟨#[45]⟩] w fun e w' => e = .returned (.tuple #[.string ⟨(s.data.toList.take k).toArray⟩, .string ⟨(s.data.toList.drop (k + 1)).toArray⟩, .bool true]) ∧ ∃ n, w' = w.drewN n := by
  have HI := Lib.hid (sliteIndex_dash s w hs)
  have HD := Lib.hid hd
  clear hd
  have e1 := slice_to s _ k (k : Int) rfl (by omega) (piece s 0 k)
  have e2 := slice_from s _ (k + 1) ((k : Int) + 1) (by omega) (by omega) (piece_end s (k + 1))
  have hC : Calls Try.prog 122 #[.string s, .string ⟨#[45]⟩] w fun e w' => e = .returned (.tuple #[.string ⟨(s.data.toList.take k).toArray⟩, .string ⟨(s.data.toList.drop (k + 1)).toArray⟩, .bool true]) ∧ ∃ n, w' = w.drewN n := by
    go_enter Try.func122, Try.ntmps122
    go_wp2_with fail
    refine HI.out.mono ?_
    rw [HD.out]
    rintro e w' ⟨rfl, rfl⟩
    have x1 : IntKind.i64.wrap ((k : Int) + 1) = (k : Int) + 1 := IntWalk.i64_in _ (by omega)
    have x2 : (0 : Int) ≤ (k : Int) := by omega
    go_wp2_with fail
    go_quiet (fail)
    go_wp2_with fail
    go_ret3
    exact ⟨rfl, _, rfl⟩
  have HC := Lib.hid hC
  clear hC e1 e2 HI
  go_enter Try.func107, Try.ntmps107
  go_wp2_with fail
  refine HC.out.mono ?_
  rintro e w' ⟨rfl, n, rfl⟩
  go_wp2_with fail
  go_ret3
  exact ⟨rfl, _, rfl⟩

set_option maxRecDepth 100000 in
set_option maxHeartbeats 1000000 in
theorem cutDash_no (s : ByteArray) (w : World) (hs : s.size ≤ 1048576) (d : Int) (hn : ¬ 0 ≤ d) (hd : dash s.data.toList = d) :
    Calls Try.prog 107 #[.string s, .string ⟨#[45]⟩] w fun e w' => e = .returned (.tuple #[.string s, .string ⟨#[]⟩, .bool false]) ∧ w = w' := by
  have HI := Lib.hid (sliteIndex_dash s w hs)
  have HD := Lib.hid hd
  clear hd
  have hC : Calls Try.prog 122 #[.string s, .string ⟨#[45]⟩] w fun e w' => e = .returned (.tuple #[.string s, .string ⟨#[]⟩, .bool false]) ∧ w = w' := by
    go_enter Try.func122, Try.ntmps122
    go_wp2_with fail
    refine HI.out.mono ?_
    rw [HD.out]
    rintro e w' ⟨rfl, rfl⟩
    go_wp2_with fail
    go_ret3
    exact ⟨rfl, rfl⟩
  have HC := Lib.hid hC
  clear hC HI
  go_enter Try.func107, Try.ntmps107
  go_wp2_with fail
  refine HC.out.mono ?_
  rintro e w' ⟨rfl, rfl⟩
  go_wp2_with fail
  go_ret3
  exact ⟨rfl, rfl⟩
end Go.Proofs.Ytldfkdkppgammaa

/-
  impl.isLower, impl.isDigit: what kind a byte is.
-/
namespace Go.Proofs.Ytldfkdkppgammaa
open Go.RowKit

def lowI (z : Int) : Bool := decide (97 ≤ z ∧ z ≤ 122)
def digI (z : Int) : Bool := decide (48 ≤ z ∧ z ≤ 57)
set_option maxRecDepth 100000 in
theorem isLower_any (z : Int) (w : World) (h0 : 0 ≤ z) (h1 : z < 256) : Calls Try.prog 42 #[.int .u8 z] w fun e w' => e = .returned (.bool (lowI z)) ∧ w = w' := by
  rcases (show (97 ≤ z ∧ z ≤ 122) ∨ z < 97 ∨ 122 < z from by omega) with ⟨a, b⟩ | a | a
  · have H : Hid (lowI z = true) := Lib.hid (by unfold lowI; simp; omega)
    go_enter Try.func42, Try.ntmps42
    go_wp2
    go_ret
    exact ⟨ret_bool H.out.symm, rfl⟩
  all_goals
    have H : Hid (lowI z = false) := Lib.hid (by unfold lowI; simp; omega)
    go_enter Try.func42, Try.ntmps42
    go_wp2
    go_ret
    exact ⟨ret_bool (by first | exact H.out.symm | (rw [H.out]; simp; omega)), rfl⟩
set_option maxRecDepth 100000 in
theorem isDigit_any (z : Int) (w : World) (h0 : 0 ≤ z) (h1 : z < 256) : Calls Try.prog 44 #[.int .u8 z] w fun e w' => e = .returned (.bool (digI z)) ∧ w = w' := by
  rcases (show (48 ≤ z ∧ z ≤ 57) ∨ z < 48 ∨ 57 < z from by omega) with ⟨a, b⟩ | a | a
  · have H : Hid (digI z = true) := Lib.hid (by unfold digI; simp; omega)
    go_enter Try.func44, Try.ntmps44
    go_wp2
    go_ret
    exact ⟨ret_bool H.out.symm, rfl⟩
  all_goals
    have H : Hid (digI z = false) := Lib.hid (by unfold digI; simp; omega)
    go_enter Try.func44, Try.ntmps44
    go_wp2
    go_ret
    exact ⟨ret_bool (by first | exact H.out.symm | (rw [H.out]; simp; omega)), rfl⟩
end Go.Proofs.Ytldfkdkppgammaa

/-
  impl.isUpper: whether a byte is a great letter.
-/
namespace Go.Proofs.Ytldfkdkppgammaa
open Go.RowKit

def uppI (z : Int) : Bool := decide (65 ≤ z ∧ z ≤ 90)
set_option maxRecDepth 100000 in
theorem isUpper_any (z : Int) (w : World) (h0 : 0 ≤ z) (h1 : z < 256) : Calls Try.prog 43 #[.int .u8 z] w fun e w' => e = .returned (.bool (uppI z)) ∧ w = w' := by
  rcases (show (65 ≤ z ∧ z ≤ 90) ∨ z < 65 ∨ 90 < z from by omega) with ⟨a, b⟩ | a | a
  · have H : Hid (uppI z = true) := Lib.hid (by unfold uppI; simp; omega)
    go_enter Try.func43, Try.ntmps43
    go_wp2
    go_ret
    exact ⟨ret_bool H.out.symm, rfl⟩
  all_goals
    have H : Hid (uppI z = false) := Lib.hid (by unfold uppI; simp; omega)
    go_enter Try.func43, Try.ntmps43
    go_wp2
    go_ret
    exact ⟨ret_bool (by first | exact H.out.symm | (rw [H.out]; simp; omega)), rfl⟩
end Go.Proofs.Ytldfkdkppgammaa

/-
  impl's identifiers: what identifierOf hands back, and whether it is right.
-/
namespace Go.Proofs.Ytldfkdkppgammaa
open Go.RowKit

/-- What identifierOf hands back for a text. -/
def identV (s : ByteArray) : Value := if 0 ≤ readL s.data.toList then .iface 132 (.int .i64 (readL s.data.toList)) else .iface 133 (.string s)
theorem identV_num {s : ByteArray} (h : 0 ≤ readL s.data.toList) : identV s = .iface 132 (.int .i64 (readL s.data.toList)) := if_pos h
theorem identV_text {s : ByteArray} (h : ¬ 0 ≤ readL s.data.toList) : identV s = .iface 133 (.string s) := if_neg h

set_option maxRecDepth 100000 in
set_option maxHeartbeats 1000000 in
theorem identifierOf_any (s : ByteArray) (w : World) (hs : s.size ≤ 1048576) :
    Calls Try.prog 101 #[.string s] w fun e w' => e = .returned (identV s) ∧ w = w' := by
  by_cases hr : 0 ≤ readL s.data.toList
  · have HV := Lib.hid (identV_num hr)
    go_enter Try.func101, Try.ntmps101
    go_wp2_with fail
    refine (implReadDec_any s _ hs).mono ?_
    generalize readL s.data.toList = m at HV hr ⊢
    rintro e w' ⟨rfl, rfl⟩
    go_wp2_with fail
    go_ret
    exact ⟨congrArg Ending.returned HV.out.symm, rfl⟩
  · have HV := Lib.hid (identV_text hr)
    go_enter Try.func101, Try.ntmps101
    go_wp2_with fail
    refine (implReadDec_any s _ hs).mono ?_
    generalize readL s.data.toList = m at hr ⊢
    rintro e w' ⟨rfl, rfl⟩
    go_wp2_with fail
    go_ret
    exact ⟨congrArg Ending.returned HV.out.symm, rfl⟩

theorem preText_ways (z : Int) : (lowI z = true ∧ uppI z = false ∧ digI z = false) ∨ (lowI z = false ∧ uppI z = true ∧ digI z = false) ∨ (lowI z = false ∧ uppI z = false ∧ digI z = true) ∨ (lowI z = false ∧ uppI z = false ∧ digI z = false ∧ (z != 45) = false) ∨ (lowI z = false ∧ uppI z = false ∧ digI z = false ∧ (z != 45) = true) := by
  unfold lowI uppI digI; simp; omega
theorem preI_yes {z : Int} (h : lowI z = true ∨ uppI z = true ∨ digI z = true ∨ (z != 45) = false) : preI z = true := by
  unfold lowI uppI digI at h; unfold preI; simp at h ⊢; omega
theorem preI_no {z : Int} (h : lowI z = false ∧ uppI z = false ∧ digI z = false ∧ (z != 45) = true) : preI z = false := by
  unfold lowI uppI digI at h; unfold preI; simp at h ⊢; omega
theorem digI_isDig (c : UInt8) : digI (c.toNat : Int) = isDig c := rfl
theorem all_snoc (s : ByteArray) (k : Nat) (p : UInt8 → Bool) (h : k < s.size) : (s.data.toList.take (k + 1)).all p = ((s.data.toList.take k).all p && p s[k]) := by
  rw [take_snoc s k h, List.all_append]; simp

def textOk (l : List UInt8) : Bool := l.all preB && (decide (1 ≤ l.length) && decide (l.length ≤ 20)) && !(l.all isDig)
theorem preOk_textOk {l : List UInt8} (h : ¬ 0 ≤ readL l) : preOk l = textOk l := preOk_text h
set_option maxRecDepth 100000 in
set_option maxHeartbeats 2000000 in
theorem textValid_any (s : ByteArray) (w : World) (hs : s.size ≤ 1048576) :
    Calls Try.prog 153 #[.string s] w fun e w' => e = .returned (.bool (textOk s.data.toList)) ∧ w = w' := by
  have hsz : s.data.toList.length = s.size := by simp
  by_cases hl : 1 ≤ s.size ∧ s.size ≤ 20
  · obtain ⟨hl1, hl2⟩ := hl
    have h20 : decide ((20 : Int) < (s.size : Int)) = false := by simp; omega
    have HT : Hid (textOk s.data.toList = (s.data.toList.all preB && !(s.data.toList.all isDig))) := Lib.hid (by unfold textOk; rw [hsz]; simp [hl1, hl2])
    clear hsz
    go_enter Try.func153, Try.ntmps153
    go_wp2
    go_loop [3, 4, 5, 16] (fun d _ _ i => ∃ (k : Nat) (b : Bool), k ≤ s.size ∧ i = .int .i64 k ∧ d = .bool b ∧ Hid ((s.data.toList.take k).all preB = true) ∧ Hid ((s.data.toList.take k).all isDig = b)) (fun _ _ _ i => s.size - (intOf i).toNat)
    case atStart => exact ⟨0, true, Nat.zero_le _, rfl, rfl, Lib.hid (by simp), Lib.hid (by simp)⟩
    case round =>
      obtain ⟨k, b, hk, rfl, rfl, H, HD⟩ := hrel
      by_cases hlt : k < s.size
      · have c1 := (byte_lt s[k]).1
        have c2 := (byte_lt s[k]).2
        have HS := Lib.hid (all_snoc s k isDig hlt)
        have HDI := Lib.hid (digI_isDig s[k])
        rcases preText_ways (s[k].toNat : Int) with ⟨z, y, x⟩ | ⟨z, y, x⟩ | ⟨z, y, x⟩ | ⟨z, y, x, u⟩ | ⟨z, y, x, u⟩
        case inr.inr.inr.inr =>
          have HX : Hid (textOk s.data.toList = false) := Lib.hid (by rw [HT.out, Bool.eq_false_iff.2 (all_false s k preB hlt (preI_no ⟨z, y, x, u⟩))]; rfl)
          have HZ := Lib.hid z
          have HY := Lib.hid y
          have HW := Lib.hid x
          clear z y x
          go_wp2_with (first | (go_at_call 42; refine (isLower_any _ _ c2 c1).mono ?_; rw [HZ.out]; rintro e w' ⟨rfl, rfl⟩) | (go_at_call 43; refine (isUpper_any _ _ c2 c1).mono ?_; rw [HY.out]; rintro e w' ⟨rfl, rfl⟩) | (go_at_call 44; refine (isDigit_any _ _ c2 c1).mono ?_; rw [HW.out]; rintro e w' ⟨rfl, rfl⟩))
          go_ret
          exact ⟨ret_bool HX.out.symm, rfl⟩
        all_goals
          have HP : Hid ((s.data.toList.take (k + 1)).all preB = true) := Lib.hid (all_next s k preB hlt H.out (preI_yes (by first | exact .inl z | exact .inr (.inl y) | exact .inr (.inr (.inl x)) | exact .inr (.inr (.inr u)))))
          have HZ := Lib.hid z
          have HY := Lib.hid y
          have HW := Lib.hid x
          clear z y x
          cases b
          all_goals
            go_wp2_with (first | (go_at_call 42; refine (isLower_any _ _ c2 c1).mono ?_; rw [HZ.out]; rintro e w' ⟨rfl, rfl⟩) | (go_at_call 43; refine (isUpper_any _ _ c2 c1).mono ?_; rw [HY.out]; rintro e w' ⟨rfl, rfl⟩) | (go_at_call 44; refine (isDigit_any _ _ c2 c1).mono ?_; rw [HW.out]; rintro e w' ⟨rfl, rfl⟩))
            go_round
            case rel => exact ⟨k + 1, _, by omega, by go_num, rfl, HP, Lib.hid (by rw [HS.out, HD.out, ← HDI.out, HW.out]; rfl)⟩
            case measure => simp [intOf]; omega
      · have H2 := H.out
        have H3 := HD.out
        rw [take_end s k hlt] at H2 H3
        have HX : Hid (textOk s.data.toList = !b) := Lib.hid (by rw [HT.out, H2, H3]; rfl)
        clear H HD H2 H3
        go_wp2
        go_ret
        exact ⟨ret_bool HX.out.symm, rfl⟩
  · have HX : Hid (textOk s.data.toList = false) := Lib.hid (by unfold textOk; rw [hsz]; simp; omega)
    rw [HX.out]
    clear hsz HX
    by_cases h1 : s.size < 1
    · go_enter Try.func153, Try.ntmps153
      go_wp2
      go_ret
      exact ⟨rfl, rfl⟩
    · have h20 : 20 < s.size := by omega
      have h1' : decide ((s.size : Int) < 1) = false := by simp; omega
      clear hl
      go_enter Try.func153, Try.ntmps153
      go_wp2
      go_ret
      exact ⟨rfl, rfl⟩

set_option maxRecDepth 100000 in
theorem numValid_any (z : Int) (w : World) : Calls Try.prog 151 #[.int .i64 z] w fun e w' => e = .returned (.bool true) ∧ w = w' := by
  go_enter Try.func151, Try.ntmps151
  go_wp2
  go_ret
  exact ⟨rfl, rfl⟩

theorem meth_validN (z : Int) (w : World) : (method 255 132 (.int .i64 z) "loop.example/g00445/impl.valid").run Try.prog w = .ok (151, .int .i64 z) w := by kernel_rfl
theorem meth_validT (s : ByteArray) (w : World) : (method 255 133 (.string s) "loop.example/g00445/impl.valid").run Try.prog w = .ok (153, .string s) w := by kernel_rfl
end Go.Proofs.Ytldfkdkppgammaa

/-
  impl.VersionOk: whether a version is right.
-/
namespace Go.Proofs.Ytldfkdkppgammaa
open Go.RowKit

set_option maxRecDepth 100000 in
theorem numberOk_any (n : Int) (w : World) : Calls Try.prog 100 #[.int .i64 n] w fun e w' => e = .returned (.bool (numOk n)) ∧ w = w' := by
  by_cases h1 : 0 ≤ n
  · by_cases h2 : n ≤ 999999999
    · have H : Hid (numOk n = true) := Lib.hid (by unfold numOk; simp; omega)
      go_enter Try.func100, Try.ntmps100
      go_wp2
      go_ret
      exact ⟨ret_bool H.out.symm, rfl⟩
    · have H : Hid (numOk n = false) := Lib.hid (by unfold numOk; simp; omega)
      have d1 : decide (n ≤ 999999999) = false := by simpa using h2
      go_enter Try.func100, Try.ntmps100
      go_wp2
      go_ret
      exact ⟨ret_bool (by first | exact H.out.symm | (rw [H.out]; simp; omega)), rfl⟩
  · have H : Hid (numOk n = false) := Lib.hid (by unfold numOk; simp; omega)
    have d1 : decide (0 ≤ n) = false := by simpa using h1
    go_enter Try.func100, Try.ntmps100
    go_wp2
    go_ret
    exact ⟨ret_bool (by first | exact H.out.symm | (rw [H.out]; simp; omega)), rfl⟩

theorem sm_size {ls : List (List UInt8)} (h : ∀ l ∈ ls, l.length ≤ 1048576) (k : Nat) (hk : k < ls.length) : (⟨ls[k].toArray⟩ : ByteArray).size ≤ 1048576 := by
  have := h ls[k] (List.getElem_mem hk)
  show ls[k].toArray.size ≤ _
  simpa using this

set_option maxRecDepth 100000 in
set_option maxHeartbeats 2000000 in
theorem implVersionOk_any (a b c : Int) (v : Value) (ls : List (List UInt8)) (w : World) (hr : RdS w v ls) (hs : Sm ls) :
    Calls Try.prog 68 #[.agg #[.int .i64 a, .int .i64 b, .int .i64 c, v]] w fun e w' => e = .returned (.bool (verOk a b c ls)) ∧ Below w.heap.size w w' := by
  obtain ⟨A, cap, rfl, hc⟩ := hr
  have hls := hs.1
  have HS := Lib.hid hs.2
  clear hs
  obtain ⟨x, HX⟩ : ∃ x, Hid (numOk a = x) := ⟨_, Lib.hid rfl⟩
  obtain ⟨y, HY⟩ : ∃ x, Hid (numOk b = x) := ⟨_, Lib.hid rfl⟩
  obtain ⟨z, HZ⟩ : ∃ x, Hid (numOk c = x) := ⟨_, Lib.hid rfl⟩
  have HF : Hid (verOk a b c ls = (ls.all preOk && (x && y && z && decide (ls.length ≤ 5)))) := Lib.hid (by unfold verOk; rw [HX.out, HY.out, HZ.out])
  cases x
  · have HG : Hid (verOk a b c ls = false) := Lib.hid (by rw [HF.out]; simp)
    go_enter Try.func68, Try.ntmps68
    go_wp2_with (go_at_call 100; refine (numberOk_any _ _).mono ?_; (first | rw [HX.out]); rintro e w' ⟨rfl, rfl⟩)
    go_ret
    exact ⟨ret_bool HG.out.symm, (Below.refl _ _).alloc (Nat.le_refl _) _⟩
  cases y
  · have HG : Hid (verOk a b c ls = false) := Lib.hid (by rw [HF.out]; simp)
    go_enter Try.func68, Try.ntmps68
    go_wp2_with (go_at_call 100; refine (numberOk_any _ _).mono ?_; (first | rw [HX.out] | rw [HY.out]); rintro e w' ⟨rfl, rfl⟩)
    go_ret
    exact ⟨ret_bool HG.out.symm, (Below.refl _ _).alloc (Nat.le_refl _) _⟩
  cases z
  · have HG : Hid (verOk a b c ls = false) := Lib.hid (by rw [HF.out]; simp)
    go_enter Try.func68, Try.ntmps68
    go_wp2_with (go_at_call 100; refine (numberOk_any _ _).mono ?_; (first | rw [HX.out] | rw [HY.out] | rw [HZ.out]); rintro e w' ⟨rfl, rfl⟩)
    go_ret
    exact ⟨ret_bool HG.out.symm, (Below.refl _ _).alloc (Nat.le_refl _) _⟩
  by_cases h5 : ls.length ≤ 5
  · have HG : Hid (verOk a b c ls = ls.all preOk) := Lib.hid (by rw [HF.out]; simp [h5])
    have d5 : decide ((5 : Int) < (ls.length : Int)) = false := by simp; omega
    clear HF
    go_enter Try.func68, Try.ntmps68
    go_wp2_with (go_at_call 100; refine (numberOk_any _ _).mono ?_; (first | rw [HX.out] | rw [HY.out] | rw [HZ.out]); rintro e w' ⟨rfl, rfl⟩)
    go_loop [4, 30] (fun _ i => ∃ k : Nat, k ≤ ls.length ∧ i = .int .i64 k ∧ Hid ((ls.take k).all preOk = true)) (fun _ i => ls.length - (intOf i).toNat)
    case atStart => exact ⟨0, Nat.zero_le _, rfl, Lib.hid (by simp)⟩
    case round =>
      obtain ⟨k, hk, rfl, H⟩ := hrel
      by_cases hlt : k < ls.length
      · obtain ⟨g, off, rfl, hg, hca⟩ := hc (by omega)
        have d1 : w.cell? ⟨g, off + k, none⟩ = some (.string ⟨ls[k].toArray⟩) := hca k hlt
        have k0 : (0 : Int) ≤ (k : Int) := by omega
        have k1 : (k : Int) < (ls.length : Int) := by omega
        have hbs := sm_size HS.out k hlt
        have HP := Lib.hid (fun W => identifierOf_any ⟨ls[k].toArray⟩ W hbs)
        clear hc hca
        by_cases hn : 0 ≤ readL ls[k]
        · have HN := Lib.hid (all_take ls preOk k hlt H.out (preOk_num hn))
          have HV := Lib.hid (identV_num (s := ⟨ls[k].toArray⟩) hn)
          go_wp2_with fail
          refine (HP.out _).mono ?_
          rw [HV.out]
          rintro e w' ⟨rfl, rfl⟩
          have hm := meth_validN (readL ls[k])
          go_wp2_with fail
          refine (numValid_any _ _).mono ?_
          rintro e w' ⟨rfl, rfl⟩
          go_wp2_with fail
          go_round
          case rel => exact ⟨k + 1, by omega, by go_num, HN⟩
          case measure => simp [intOf]; omega
        · have HV := Lib.hid (identV_text (s := ⟨ls[k].toArray⟩) hn)
          have HT := Lib.hid (preOk_textOk hn)
          have hm := meth_validT ⟨ls[k].toArray⟩
          by_cases hp : preOk ls[k] = true
          · have HN := Lib.hid (all_take ls preOk k hlt H.out hp)
            have HQ : Hid (textOk (⟨ls[k].toArray⟩ : ByteArray).data.toList = true) := Lib.hid (HT.out.symm.trans hp)
            clear hp hn
            go_wp2_with fail
            refine (HP.out _).mono ?_
            rw [HV.out]
            rintro e w' ⟨rfl, rfl⟩
            go_wp2_with fail
            refine (textValid_any _ _ hbs).mono ?_
            rw [HQ.out]
            rintro e w' ⟨rfl, rfl⟩
            go_wp2_with fail
            go_round
            case rel => exact ⟨k + 1, by omega, by go_num, HN⟩
            case measure => simp [intOf]; omega
          · have HN : Hid (verOk a b c ls = false) := Lib.hid (by rw [HG.out]; exact Bool.eq_false_iff.2 (all_not ls preOk k hlt (by simpa using hp)))
            have HQ : Hid (textOk (⟨ls[k].toArray⟩ : ByteArray).data.toList = false) := Lib.hid (HT.out.symm.trans (by simpa using hp))
            clear hp hn
            go_wp2_with fail
            refine (HP.out _).mono ?_
            rw [HV.out]
            rintro e w' ⟨rfl, rfl⟩
            go_wp2_with fail
            refine (textValid_any _ _ hbs).mono ?_
            rw [HQ.out]
            rintro e w' ⟨rfl, rfl⟩
            go_wp2_with fail
            go_ret
            exact ⟨ret_bool HN.out.symm, (Below.refl _ _).alloc (Nat.le_refl _) _⟩
      · have H2 := H.out
        rw [List.take_of_length_le (by omega)] at H2
        have HN : Hid (verOk a b c ls = true) := Lib.hid (by rw [HG.out]; exact H2)
        clear H H2 hc
        go_wp2_with fail
        go_ret
        exact ⟨ret_bool HN.out.symm, (Below.refl _ _).alloc (Nat.le_refl _) _⟩
  · have HG : Hid (verOk a b c ls = false) := Lib.hid (by rw [HF.out]; simp; omega)
    have d5 : (5 : Int) < (ls.length : Int) := by omega
    clear HF
    go_enter Try.func68, Try.ntmps68
    go_wp2_with (go_at_call 100; refine (numberOk_any _ _).mono ?_; (first | rw [HX.out] | rw [HY.out] | rw [HZ.out]); rintro e w' ⟨rfl, rfl⟩)
    go_ret
    exact ⟨ret_bool HG.out.symm, (Below.refl _ _).alloc (Nat.le_refl _) _⟩
end Go.Proofs.Ytldfkdkppgammaa

/-
  impl.ReadVersion: a version out of its text.
-/
namespace Go.Proofs.Ytldfkdkppgammaa
open Go.RowKit

theorem keep3 {W V : World} {g : Nat} {v0 v1 v2 : Value} (hb : Below W.heap.size W V) (h : W.cell? ⟨g, 0, none⟩ = some v0 ∧ W.cell? ⟨g, 1, none⟩ = some v1 ∧ W.cell? ⟨g, 2, none⟩ = some v2) : V.cell? ⟨g, 0, none⟩ = some v0 ∧ V.cell? ⟨g, 1, none⟩ = some v1 ∧ V.cell? ⟨g, 2, none⟩ = some v2 := ⟨keepC hb h.1, keepC hb h.2.1, keepC hb h.2.2⟩

set_option maxRecDepth 100000 in
set_option maxHeartbeats 4000000 in
theorem implReadVersion_any (s : ByteArray) (w : World) (hs : s.size ≤ 1048576) :
    Calls Try.prog 75 #[.string s] w (ReadIs w s.data.toList) := by
  have HSZ : Hid (s.data.toList.length ≤ 1048576) := Lib.hid (by simpa using hs)
  have r0 := heap_alloc_new w (.cells #[.int .i64 0, .int .i64 0, .int .i64 0, .slice none 0 0] 47)
  have B0 : Below w.heap.size w (w.alloc (.cells #[.int .i64 0, .int .i64 0, .int .i64 0, .slice none 0 0] 47)) := (Below.refl _ _).alloc (Nat.le_refl _) _
  obtain ⟨d, HD⟩ : ∃ d, Hid (dash s.data.toList = d) := ⟨_, Lib.hid rfl⟩
  by_cases hd : 0 ≤ d
  · have hdl : d < s.size := by have := idx_lt s.data.toList 45; have h2 : Lib.indexByte s.data.toList 45 = d := HD.out; rw [h2] at this; simpa using this
    obtain ⟨k, rfl⟩ : ∃ k : Nat, d = (k : Int) := ⟨d.toNat, by omega⟩
    have HTL : Hid (cutL 46 (⟨(s.data.toList.drop (k + 1)).toArray⟩ : ByteArray).data.toList = tailL s.data.toList) := Lib.hid (by rw [tailL_yes (by rw [HD.out]; exact hd), HD.out]; rfl)
    have HQ2 : Hid (cutL 46 (⟨(s.data.toList.take k).toArray⟩ : ByteArray).data.toList = partsL s.data.toList) := Lib.hid (by unfold partsL; rw [headL_yes (by rw [HD.out]; exact hd), HD.out]; rfl)
    go_enter Try.func75, Try.ntmps75
    go_wp2_with fail
    refine (cutDash_yes s _ hs k (by omega) HD.out).mono ?_
    rintro e w1 ⟨rfl, nq, rfl⟩
    have B1 := B0.trans (below_drewN _ _ nq)
    have r1 := keepB r0 (below_drewN _ _ nq)
    clear r0 B0
    go_wp2_with fail
    refine (splitAt_any _ 46 _ (by rw [size_of]; simp <;> omega)).mono ?_
    rintro e w2 ⟨gn, cn, rfl, hSn, hb2⟩
    rw [HQ2.out] at hSn ⊢
    have r2 := keepB r1 hb2
    have B2 := B1.trans (hb2.mono B1.size)
    clear r1 hb2
    by_cases h3 : (partsL s.data.toList).length = 3
    · obtain ⟨p0, p1, p2, hp⟩ := len3 h3
      have HPP := Lib.hid hp
      have mm : ∀ x ∈ partsL s.data.toList, x.length ≤ 1048576 := fun x hx => by have h1 := cutL_mem_le 46 (headL s.data.toList) x hx; have h2 := headL_le s.data.toList; have h3 := HSZ.out; omega
      have m0 := mm p0 (by rw [hp]; simp)
      have m1 := mm p1 (by rw [hp]; simp)
      have m2 := mm p2 (by rw [hp]; simp)
      have x0 : w2.cell? ⟨gn, 0, none⟩ = some (.string ⟨p0.toArray⟩) := by rw [hp] at hSn; exact hSn.cell 0 (by simp)
      have x1 : w2.cell? ⟨gn, 1, none⟩ = some (.string ⟨p1.toArray⟩) := by rw [hp] at hSn; exact hSn.cell 1 (by simp)
      have x2 : w2.cell? ⟨gn, 2, none⟩ = some (.string ⟨p2.toArray⟩) := by rw [hp] at hSn; exact hSn.cell 2 (by simp)
      have HR := Lib.hid (readOk_of hp)
      rw [h3]
      clear mm hp h3
      obtain ⟨z0, HZ0⟩ : ∃ z, Hid (readL p0 = z) := ⟨_, Lib.hid rfl⟩
      obtain ⟨z1, HZ1⟩ : ∃ z, Hid (readL p1 = z) := ⟨_, Lib.hid rfl⟩
      obtain ⟨z2, HZ2⟩ : ∃ z, Hid (readL p2 = z) := ⟨_, Lib.hid rfl⟩
      have HD0 := Lib.hid (fun W => (implReadDec_any ⟨p0.toArray⟩ W (by rw [size_of]; exact m0)).mono (fun e w' h => (⟨by rw [h.1, show readL (⟨p0.toArray⟩ : ByteArray).data.toList = z0 from HZ0.out], h.2⟩ : e = .returned (.int .i64 z0) ∧ W = w')))
      have HD1 := Lib.hid (fun W => (implReadDec_any ⟨p1.toArray⟩ W (by rw [size_of]; exact m1)).mono (fun e w' h => (⟨by rw [h.1, show readL (⟨p1.toArray⟩ : ByteArray).data.toList = z1 from HZ1.out], h.2⟩ : e = .returned (.int .i64 z1) ∧ W = w')))
      have HD2 := Lib.hid (fun W => (implReadDec_any ⟨p2.toArray⟩ W (by rw [size_of]; exact m2)).mono (fun e w' h => (⟨by rw [h.1, show readL (⟨p2.toArray⟩ : ByteArray).data.toList = z2 from HZ2.out], h.2⟩ : e = .returned (.int .i64 z2) ∧ W = w')))
      go_wp2_with fail
      have ba : ∀ (W : World) (o : Obj), Below W.heap.size W (W.alloc o) := fun W o => (Below.refl _ _).alloc (Nat.le_refl _) _
      have HBA := Lib.hid ba
      clear ba
      go_region_held3 (fun W' => W'.cell? ⟨gn, 0, none⟩ = some (.string ⟨p0.toArray⟩) ∧ W'.cell? ⟨gn, 1, none⟩ = some (.string ⟨p1.toArray⟩) ∧ W'.cell? ⟨gn, 2, none⟩ = some (.string ⟨p2.toArray⟩)) (first | exact ⟨x0, x1, x2⟩ | assumption | exact keep3 (HBA.out _ _) (by assumption) | go_keep) ((first | (go_at_call 109; (with_reducible refine (HD0.out _).mono ?_); rintro e w' ⟨rfl, rfl⟩) | (go_at_call 109; (with_reducible refine (HD1.out _).mono ?_); rintro e w' ⟨rfl, rfl⟩) | (go_at_call 109; (with_reducible refine (HD2.out _).mono ?_); rintro e w' ⟨rfl, rfl⟩)))
      all_goals
        go_wp2_with fail
        have v3 : (w2.alloc (.cells #[.int .i64 z0, .int .i64 z1, .int .i64 z2, .slice none 0 0] 47)).drew.heap[w2.heap.size]? = some (.cells #[.int .i64 z0, .int .i64 z1, .int .i64 z2, .slice none 0 0] 47) := heap_alloc_new w2 _
        have r3 : (w2.alloc (.cells #[.int .i64 z0, .int .i64 z1, .int .i64 z2, .slice none 0 0] 47)).drew.heap[w.heap.size]? = some (.cells #[.int .i64 0, .int .i64 0, .int .i64 0, .slice none 0 0] 47) := keepA r2 _
        have B3 := (B2.alloc B2.size (.cells #[.int .i64 z0, .int .i64 z1, .int .i64 z2, .slice none 0 0] 47)).trans (below_drew w.heap.size _)
        have lo : w.heap.size < w2.heap.size := lt_of_heap r2
        clear r2 B2 x0 x1 x2
        refine (splitAt_any _ 46 _ (by rw [size_of]; simp <;> omega)).mono ?_
        rintro e w4 ⟨gp, cp, rfl, hSp, hb4⟩
        rw [HTL.out] at hSp ⊢
        have v4 := keepB v3 hb4
        have r4 := keepB r3 hb4
        have B4 := B3.trans (hb4.mono B3.size)
        have glo : w2.heap.size + 1 ≤ gp := by have := hSp.lo; simpa using this
        obtain ⟨q0, q1, q2, q3⟩ := cells4 v4
        have f3 := frozen4 v4 3
        have v5 := heap_set3 v4 (.slice (some ⟨gp, 0, none⟩) (tailL s.data.toList).length cp)
        have r5 := heap_other (g := w2.heap.size) (o := 3) r4 (.slice (some ⟨gp, 0, none⟩) (tailL s.data.toList).length cp) (by omega)
        have B5 := B4.setCell (p := ⟨w2.heap.size, 3, none⟩) (by show w.heap.size ≤ w2.heap.size; omega) (.slice (some ⟨gp, 0, none⟩) (tailL s.data.toList).length cp)
        have hS5 := (hSp.weaken (base' := w2.heap.size + 1) (by simp)).other w2.heap.size 3 (.slice (some ⟨gp, 0, none⟩) (tailL s.data.toList).length cp) (by omega)
        obtain ⟨i0, i1, i2, i3⟩ := cells4 v5
        go_wp2_with fail
        clear v3 v4 r3 r4 B3 B4 hSp hb4 q0 q1 q2 q3 f3 i0 i1 i2 i3
        refine (implVersionOk_any z0 z1 z2 _ (tailL s.data.toList) _ (RdS.of_strs hS5) (tail_sm HSZ.out)).mono ?_
        obtain ⟨ok, HO⟩ : ∃ ok, Hid (verOk z0 z1 z2 (tailL s.data.toList) = ok) := ⟨_, Lib.hid rfl⟩
        rw [HO.out]
        rintro e w6 ⟨rfl, hb6⟩
        have v6 := keepB v5 hb6
        have r6 := keepB r5 hb6
        have B6 := B5.trans (hb6.mono B5.size)
        have hS6 := hS5.below hb6
        have hw := hS5.owned
        have HOK : Hid (readOk s.data.toList = ok) := Lib.hid (by rw [HR.out, HZ0.out, HZ1.out, HZ2.out]; exact HO.out)
        clear v5 r5 B5 hS5 hb6
        cases ok
        · skip
          obtain ⟨q0, q1, q2, q3⟩ := cells4 r6
          have f0 := frozen4 r6 0
          have f1 := frozen4 r6 1
          have f2 := frozen4 r6 2
          have f3 := frozen4 r6 3
          go_wp2_with fail
          refine bodyPost_ret (v := .tuple #[.agg #[.int .i64 0, .int .i64 0, .int .i64 0, .slice none 0 0], .bool false]) ?_ rfl (readIs_bad HOK.out (below_result B6 (by omega) _ _ _ _))
          simp [results, Try.results75, go_sem, q0, q1, q2, q3]
        · skip
          obtain ⟨p0', p1', p2', p3'⟩ := cells4 v6
          obtain ⟨q0, q1, q2, q3⟩ := cells4 r6
          have f0 := frozen4 r6 0
          have f1 := frozen4 r6 1
          have f2 := frozen4 r6 2
          have f3 := frozen4 r6 3
          go_wp2_with fail
          refine bodyPost_ret (v := .tuple #[.agg #[.int .i64 (z0), .int .i64 (z1), .int .i64 (z2), .slice (some ⟨gp, 0, none⟩) (tailL s.data.toList).length cp], .bool true]) ?_ rfl (by rw [← HZ0.out, ← HZ1.out, ← HZ2.out]; exact readIs_good HPP.out HOK.out (strs_result (hS6.weaken (by omega)) (fun g h => by have := hw g h; omega) _ _ _ _) (below_result B6 (by omega) _ _ _ _))
          simp [results, Try.results75, go_sem, q0, q1, q2, q3]
    · have HOK := Lib.hid (readOk_bad h3)
      have q9 : (((partsL s.data.toList).length : Int) != 3) = true := int_bne_true (by omega)
      clear h3
      obtain ⟨q0, q1, q2, q3⟩ := cells4 r2
      have f0 := frozen4 r2 0
      have f1 := frozen4 r2 1
      have f2 := frozen4 r2 2
      have f3 := frozen4 r2 3
      go_wp2_with fail
      refine bodyPost_ret (v := .tuple #[.agg #[.int .i64 0, .int .i64 0, .int .i64 0, .slice none 0 0], .bool false]) ?_ rfl (readIs_bad HOK.out (below_result B2 (by omega) _ _ _ _))
      simp [results, Try.results75, go_sem, q0, q1, q2, q3]
  · have hdn : ¬ 0 ≤ dash s.data.toList := by rw [HD.out]; exact hd
    have HQ2 : Hid (cutL 46 s.data.toList = partsL s.data.toList) := Lib.hid (by unfold partsL; rw [headL_no hdn])
    have HTL := Lib.hid (tailL_no hdn)
    clear hdn
    go_enter Try.func75, Try.ntmps75
    go_wp2_with fail
    refine (cutDash_no s _ hs d (by omega) HD.out).mono ?_
    rintro e w1 ⟨rfl, rfl⟩
    go_wp2_with fail
    refine (splitAt_any s 46 _ hs).mono ?_
    rintro e w2 ⟨gn, cn, rfl, hSn, hb2⟩
    rw [HQ2.out] at hSn ⊢
    have r2 := keepB r0 hb2
    have B2 := B0.trans (hb2.mono B0.size)
    clear r0 hb2 B0
    by_cases h3 : (partsL s.data.toList).length = 3
    · obtain ⟨p0, p1, p2, hp⟩ := len3 h3
      have HPP := Lib.hid hp
      have mm : ∀ x ∈ partsL s.data.toList, x.length ≤ 1048576 := fun x hx => by have h1 := cutL_mem_le 46 (headL s.data.toList) x hx; have h2 := headL_le s.data.toList; have h3 := HSZ.out; omega
      have m0 := mm p0 (by rw [hp]; simp)
      have m1 := mm p1 (by rw [hp]; simp)
      have m2 := mm p2 (by rw [hp]; simp)
      have x0 : w2.cell? ⟨gn, 0, none⟩ = some (.string ⟨p0.toArray⟩) := by rw [hp] at hSn; exact hSn.cell 0 (by simp)
      have x1 : w2.cell? ⟨gn, 1, none⟩ = some (.string ⟨p1.toArray⟩) := by rw [hp] at hSn; exact hSn.cell 1 (by simp)
      have x2 : w2.cell? ⟨gn, 2, none⟩ = some (.string ⟨p2.toArray⟩) := by rw [hp] at hSn; exact hSn.cell 2 (by simp)
      have HR := Lib.hid (readOk_of hp)
      rw [h3]
      clear mm hp h3
      obtain ⟨z0, HZ0⟩ : ∃ z, Hid (readL p0 = z) := ⟨_, Lib.hid rfl⟩
      obtain ⟨z1, HZ1⟩ : ∃ z, Hid (readL p1 = z) := ⟨_, Lib.hid rfl⟩
      obtain ⟨z2, HZ2⟩ : ∃ z, Hid (readL p2 = z) := ⟨_, Lib.hid rfl⟩
      have HD0 := Lib.hid (fun W => (implReadDec_any ⟨p0.toArray⟩ W (by rw [size_of]; exact m0)).mono (fun e w' h => (⟨by rw [h.1, show readL (⟨p0.toArray⟩ : ByteArray).data.toList = z0 from HZ0.out], h.2⟩ : e = .returned (.int .i64 z0) ∧ W = w')))
      have HD1 := Lib.hid (fun W => (implReadDec_any ⟨p1.toArray⟩ W (by rw [size_of]; exact m1)).mono (fun e w' h => (⟨by rw [h.1, show readL (⟨p1.toArray⟩ : ByteArray).data.toList = z1 from HZ1.out], h.2⟩ : e = .returned (.int .i64 z1) ∧ W = w')))
      have HD2 := Lib.hid (fun W => (implReadDec_any ⟨p2.toArray⟩ W (by rw [size_of]; exact m2)).mono (fun e w' h => (⟨by rw [h.1, show readL (⟨p2.toArray⟩ : ByteArray).data.toList = z2 from HZ2.out], h.2⟩ : e = .returned (.int .i64 z2) ∧ W = w')))
      go_wp2_with fail
      have ba : ∀ (W : World) (o : Obj), Below W.heap.size W (W.alloc o) := fun W o => (Below.refl _ _).alloc (Nat.le_refl _) _
      have HBA := Lib.hid ba
      clear ba
      go_region_held3 (fun W' => W'.cell? ⟨gn, 0, none⟩ = some (.string ⟨p0.toArray⟩) ∧ W'.cell? ⟨gn, 1, none⟩ = some (.string ⟨p1.toArray⟩) ∧ W'.cell? ⟨gn, 2, none⟩ = some (.string ⟨p2.toArray⟩)) (first | exact ⟨x0, x1, x2⟩ | assumption | exact keep3 (HBA.out _ _) (by assumption) | go_keep) ((first | (go_at_call 109; (with_reducible refine (HD0.out _).mono ?_); rintro e w' ⟨rfl, rfl⟩) | (go_at_call 109; (with_reducible refine (HD1.out _).mono ?_); rintro e w' ⟨rfl, rfl⟩) | (go_at_call 109; (with_reducible refine (HD2.out _).mono ?_); rintro e w' ⟨rfl, rfl⟩)))
      all_goals
        go_wp2_with fail
        have v3 : (w2.alloc (.cells #[.int .i64 z0, .int .i64 z1, .int .i64 z2, .slice none 0 0] 47)).drew.heap[w2.heap.size]? = some (.cells #[.int .i64 z0, .int .i64 z1, .int .i64 z2, .slice none 0 0] 47) := heap_alloc_new w2 _
        have r3 : (w2.alloc (.cells #[.int .i64 z0, .int .i64 z1, .int .i64 z2, .slice none 0 0] 47)).drew.heap[w.heap.size]? = some (.cells #[.int .i64 0, .int .i64 0, .int .i64 0, .slice none 0 0] 47) := keepA r2 _
        have B3 := (B2.alloc B2.size (.cells #[.int .i64 z0, .int .i64 z1, .int .i64 z2, .slice none 0 0] 47)).trans (below_drew w.heap.size _)
        have lo : w.heap.size < w2.heap.size := lt_of_heap r2
        clear r2 B2 x0 x1 x2
        have hS5 : Strs (w2.alloc (.cells #[.int .i64 z0, .int .i64 z1, .int .i64 z2, .slice none 0 0] 47)).drew (w2.heap.size + 1) (.slice none 0 0) (tailL s.data.toList) := by rw [HTL.out]; exact Strs.nil _ _
        have v5 := v3
        have r5 := r3
        have B5 := B3
        clear v3 r3 B3
        refine (implVersionOk_any z0 z1 z2 _ (tailL s.data.toList) _ (RdS.of_strs hS5) (tail_sm HSZ.out)).mono ?_
        obtain ⟨ok, HO⟩ : ∃ ok, Hid (verOk z0 z1 z2 (tailL s.data.toList) = ok) := ⟨_, Lib.hid rfl⟩
        rw [HO.out]
        rintro e w6 ⟨rfl, hb6⟩
        have v6 := keepB v5 hb6
        have r6 := keepB r5 hb6
        have B6 := B5.trans (hb6.mono B5.size)
        have hS6 := hS5.below hb6
        have hw := hS5.owned
        have HOK : Hid (readOk s.data.toList = ok) := Lib.hid (by rw [HR.out, HZ0.out, HZ1.out, HZ2.out]; exact HO.out)
        clear v5 r5 B5 hS5 hb6
        cases ok
        · skip
          obtain ⟨q0, q1, q2, q3⟩ := cells4 r6
          have f0 := frozen4 r6 0
          have f1 := frozen4 r6 1
          have f2 := frozen4 r6 2
          have f3 := frozen4 r6 3
          go_wp2_with fail
          refine bodyPost_ret (v := .tuple #[.agg #[.int .i64 0, .int .i64 0, .int .i64 0, .slice none 0 0], .bool false]) ?_ rfl (readIs_bad HOK.out (below_result B6 (by omega) _ _ _ _))
          simp [results, Try.results75, go_sem, q0, q1, q2, q3]
        · skip
          obtain ⟨p0', p1', p2', p3'⟩ := cells4 v6
          obtain ⟨q0, q1, q2, q3⟩ := cells4 r6
          have f0 := frozen4 r6 0
          have f1 := frozen4 r6 1
          have f2 := frozen4 r6 2
          have f3 := frozen4 r6 3
          go_wp2_with fail
          refine bodyPost_ret (v := .tuple #[.agg #[.int .i64 (z0), .int .i64 (z1), .int .i64 (z2), .slice none 0 0], .bool true]) ?_ rfl (by rw [← HZ0.out, ← HZ1.out, ← HZ2.out]; exact readIs_good HPP.out HOK.out (strs_result (hS6.weaken (by omega)) (fun g h => by have := hw g h; omega) _ _ _ _) (below_result B6 (by omega) _ _ _ _))
          simp [results, Try.results75, go_sem, q0, q1, q2, q3]
    · have HOK := Lib.hid (readOk_bad h3)
      have q9 : (((partsL s.data.toList).length : Int) != 3) = true := int_bne_true (by omega)
      clear h3
      obtain ⟨q0, q1, q2, q3⟩ := cells4 r2
      have f0 := frozen4 r2 0
      have f1 := frozen4 r2 1
      have f2 := frozen4 r2 2
      have f3 := frozen4 r2 3
      go_wp2_with fail
      refine bodyPost_ret (v := .tuple #[.agg #[.int .i64 0, .int .i64 0, .int .i64 0, .slice none 0 0], .bool false]) ?_ rfl (readIs_bad HOK.out (below_result B2 (by omega) _ _ _ _))
      simp [results, Try.results75, go_sem, q0, q1, q2, q3]
end Go.Proofs.Ytldfkdkppgammaa

/-
  impl.NameOk returns whether a string is a package name, as spec.NameOk does.
-/
namespace Go.Proofs.Ytldfkdkppgammaa
open Go.RowKit Go.Shelf
attribute [local go_sem] Oper.semAt_some

theorem name_waysI (z : Int) : lowI z = true ∨ (lowI z = false ∧ digI z = true) ∨ (lowI z = false ∧ digI z = false ∧ (z == 46) = true) ∨ (lowI z = false ∧ digI z = false ∧ (z == 46) = false ∧ (z == 95) = true) ∨ (lowI z = false ∧ digI z = false ∧ (z == 46) = false ∧ (z == 95) = false ∧ (z == 45) = true) ∨ (lowI z = false ∧ digI z = false ∧ (z == 46) = false ∧ (z == 95) = false ∧ (z == 45) = false) := by
  cases lowI z <;> cases digI z <;> simp <;> omega
theorem name_yesI {z : Int} (h : lowI z = true ∨ digI z = true ∨ (z == 46) = true ∨ (z == 95) = true ∨ (z == 45) = true) : nameI z = true := by
  unfold lowI digI at h; unfold nameI; simp at h ⊢; omega
theorem name_noI {z : Int} (h : lowI z = false ∧ digI z = false ∧ (z == 46) = false ∧ (z == 95) = false ∧ (z == 45) = false) : nameI z = false := by
  unfold lowI digI at h; unfold nameI; simp at h ⊢; omega

set_option maxRecDepth 100000 in
set_option maxHeartbeats 2000000 in
theorem componentOk_any (q : ByteArray) (w : World) (hq : q.size ≤ 1048576) : Calls Try.prog 110 #[.string q] w fun e w' => e = .returned (.bool (compL q.data.toList)) ∧ w = w' := by
  go_enter Try.func110, Try.ntmps110
  go_wp2
  go_loop [3, 6] (fun _ k => ∃ m : Nat, m ≤ q.size ∧ k = .int .i64 m ∧ Hid ((q.data.toList.take m).all nameB = true)) (fun _ k => q.size - (intOf k).toNat)
  case atStart => exact ⟨0, Nat.zero_le _, rfl, Lib.hid (by simp)⟩
  case round =>
    obtain ⟨m, hm, rfl, HA⟩ := hrel
    by_cases hml : m < q.size
    · have c1 := (byte_lt q[m]).1
      have c2 := (byte_lt q[m]).2
      rcases name_waysI (q[m].toNat : Int) with z | ⟨z, y⟩ | ⟨z, y, z1⟩ | ⟨z, y, z1, z2⟩ | ⟨z, y, z1, z2, z3⟩ | ⟨z, y, z1, z2, z3⟩
      case inl =>
        have HY := Lib.hid (all_go q m nameB hml HA.out (name_yesI (.inl z)))
        have HS := Lib.hid z
        clear z
        go_wp2_with fail
        refine (isLower_any _ _ c2 c1).mono ?_
        rw [HS.out]
        rintro e w' ⟨rfl, rfl⟩
        go_wp2_with (go_at_call 44; fail)
        go_round
        case rel => exact ⟨m + 1, by omega, by go_num, HY⟩
        case measure => simp [intOf]; omega
      case inr.inl =>
        have HY := Lib.hid (all_go q m nameB hml HA.out (name_yesI (.inr (.inl y))))
        have HS := Lib.hid z
        have HT := Lib.hid y
        clear z y
        go_wp2_with fail
        refine (isLower_any _ _ c2 c1).mono ?_
        rw [HS.out]
        rintro e w' ⟨rfl, rfl⟩
        go_wp2_with fail
        refine (isDigit_any _ _ c2 c1).mono ?_
        rw [HT.out]
        rintro e w' ⟨rfl, rfl⟩
        go_wp2_with fail
        go_round
        case rel => exact ⟨m + 1, by omega, by go_num, HY⟩
        case measure => simp [intOf]; omega
      case inr.inr.inr.inr.inr =>
        have HX := Lib.hid (compL_bad (all_no q m nameB hml (name_noI ⟨z, y, z1, z2, z3⟩)))
        have HS := Lib.hid z
        have HT := Lib.hid y
        have y1 := bne_of_beq z1
        have y2 := bne_of_beq z2
        have y3 := bne_of_beq z3
        clear z y z1 z2 z3
        go_wp2_with fail
        refine (isLower_any _ _ c2 c1).mono ?_
        rw [HS.out]
        rintro e w' ⟨rfl, rfl⟩
        go_wp2_with fail
        refine (isDigit_any _ _ c2 c1).mono ?_
        rw [HT.out]
        rintro e w' ⟨rfl, rfl⟩
        go_wp2_with fail
        go_ret
        exact ⟨ret_bool HX.out.symm, rfl⟩
      all_goals
        have HY := Lib.hid (all_go q m nameB hml HA.out (name_yesI (by simp only [z1] at *; first | exact .inr (.inr (.inl trivial)) | exact .inr (.inr (.inr (.inl z2))) | exact .inr (.inr (.inr (.inr z3))))))
        have HS := Lib.hid z
        have HT := Lib.hid y
        have y1 := bne_of_beq z1
        try have y2 := bne_of_beq z2
        try have y3 := bne_of_beq z3
        clear z y z1
        try clear z2
        try clear z3
        go_wp2_with fail
        refine (isLower_any _ _ c2 c1).mono ?_
        rw [HS.out]
        rintro e w' ⟨rfl, rfl⟩
        go_wp2_with fail
        refine (isDigit_any _ _ c2 c1).mono ?_
        rw [HT.out]
        rintro e w' ⟨rfl, rfl⟩
        go_wp2_with fail
        go_round
        case rel => exact ⟨m + 1, by omega, by go_num, HY⟩
        case measure => simp [intOf]; omega
    · have HA2 := HA.out
      rw [take_end q m hml] at HA2
      by_cases hqe : q.data.toList.isEmpty = true
      · have HX := Lib.hid (compL_empty hqe)
        have e9 : q.toList.isEmpty = true := by rw [ByteArray.toList_eq]; exact hqe
        clear hqe HA2
        go_wp2_with fail
        go_ret
        exact ⟨ret_bool HX.out.symm, rfl⟩
      · have hqe' : q.data.toList.isEmpty = false := by simpa using hqe
        have HX := Lib.hid (compL_good hqe' HA2)
        have e9 : q.toList.isEmpty = false := by rw [ByteArray.toList_eq]; exact hqe'
        clear hqe hqe' HA2
        go_wp2_with fail
        go_ret
        exact ⟨ret_bool HX.out.symm, rfl⟩
end Go.Proofs.Ytldfkdkppgammaa

/-
  impl.NameOk returns whether a string is a package name, as spec.NameOk does.
-/
namespace Go.Proofs.Ytldfkdkppgammaa
open Go.RowKit Go.Shelf
attribute [local go_sem] Oper.semAt_some

def partsOk (sc : Bool) : List (List UInt8) → Bool
  | [] => true
  | p :: ps => chk sc p && ps.all (chk false)
theorem partsOk_snoc (sc : Bool) (pre : List (List UInt8)) (x : List UInt8) : partsOk sc (pre ++ [x]) = (partsOk sc pre && chk (sc && pre.isEmpty) x) := by
  cases pre with
  | nil => simp [partsOk]
  | cons p ps => simp [partsOk, Bool.and_assoc]
theorem map_empty (pre : List Part) : (pre.map Subtype.val).isEmpty = pre.isEmpty := by cases pre <;> rfl
theorem partsOk_prefix {sc : Bool} {pre P : List (List UInt8)} (h : pre <+: P) (hb : partsOk sc pre = false) : partsOk sc P = false := by
  obtain ⟨t, rfl⟩ := h
  cases pre with
  | nil => simp [partsOk] at hb
  | cons p ps =>
    simp only [partsOk, List.cons_append, List.all_append] at hb ⊢
    rw [Bool.and_eq_false_iff] at hb ⊢
    rcases hb with hb | hb
    · exact .inl hb
    · right; rw [hb]; rfl

set_option maxRecDepth 100000 in
set_option maxHeartbeats 4000000 in
theorem implNameOk_plain (n : Nat) (hn : 4 ≤ n) (s r : ByteArray) (w : World) (h0 : 0 < s.size) (h60 : s.size ≤ 60) (e1 : ((s[0].toNat : Int) == 64) = false) (hsr : r = s) (hr : r.size ≤ 60) :
    CallsIn Fence.wide n Try.prog 76 #[.string s] w fun e W' => e = .returned (.bool (partsOk false (cutL 47 r.data.toList))) ∧ Below w.heap.size w W' := by
  have h1 : 1 ≤ n := by omega
  have hn2 : 1 ≤ n - 1 - 1 := by omega
  subst hsr
  have t1 : decide ((r.size : Int) < 1) = false := by simp; omega
  have t2 : decide ((60 : Int) < (r.size : Int)) = false := by simp; omega
  refine callsIn_of_wp_marks Try.func76 rfl trivial ?_ rfl
  simp only [Try.ntmps76, List.size_toArray, List.length_cons, List.length_nil, Nat.reduceAdd, Nat.reduceSub, Array.replicate_succ, Array.replicate_zero, List.push_toArray, List.append_toArray, List.nil_append, List.cons_append]
  gi_wp2_with (refine ⟨trivial, ?_⟩; gi_at_call 77; refine (partsOf_in _ _ _ _).mono ?_; rintro e w' ⟨rfl, rfl⟩)
  have b1 := Boxed.new w 4 (.bool false)
  have b2 := Boxed.new (w.alloc (.cells #[.bool false] 4)) 4 (.bool false)
  have b3 := Boxed.new ((w.alloc (.cells #[.bool false] 4)).alloc (.cells #[.bool false] 4)) 9 (.string r)
  have b4 := Boxed.new (((w.alloc (.cells #[.bool false] 4)).alloc (.cells #[.bool false] 4)).alloc (.cells #[.string r] 9)) 5 (.int .u8 47)
  simp only [World.size_alloc] at b2 b3 b4
  have hB0 : Below w.heap.size w ((((w.alloc (.cells #[.bool false] 4)).alloc (.cells #[.bool false] 4)).alloc (.cells #[.string r] 9)).alloc (.cells #[.int .u8 47] 5)) := ((((Below.refl _ w).alloc (Nat.le_refl _) _).alloc (by simp) _).alloc (by simp; omega) _).alloc (by simp; omega) _
  have b1' := ((b1.alloc (.cells #[.bool false] 4)).alloc (.cells #[.string r] 9)).alloc (.cells #[.int .u8 47] 5)
  have b2' := (b2.alloc (.cells #[.string r] 9)).alloc (.cells #[.int .u8 47] 5)
  have b3' := b3.alloc (.cells #[.int .u8 47] 5)
  clear b1 b2 b3
  obtain ⟨W0, hW0⟩ : ∃ W0, ((((w.alloc (.cells #[.bool false] 4)).alloc (.cells #[.bool false] 4)).alloc (.cells #[.string r] 9)).alloc (.cells #[.int .u8 47] 5)) = W0 := ⟨_, rfl⟩
  have hsz : W0.heap.size = w.heap.size + 4 := by rw [← hW0]; simp
  rw [hW0] at b1' b2' b3' b4 hB0 ⊢
  clear hW0
  have HSZ := Lib.hid hsz
  clear hsz
  refine wpIn_rangeFunc_ownF rfl h1 (gf := 111) (lb := #[.pointer (some ⟨w.heap.size + 1 + 1, 0, none⟩), .pointer (some ⟨w.heap.size + 1 + 1 + 1, 0, none⟩)]) rfl trivial (enters_of Try.func111 (by kernel_rfl) rfl)
    (parts_stops (n - 1) (by omega) (w.heap.size + 1 + 1) (w.heap.size + 1 + 1 + 1) r 47 (by omega) W0 (by rw [HSZ.out]; omega) (by rw [HSZ.out]; omega) b3' b4) kpB_t (kpB_b (by rw [HSZ.out]; omega) (by rw [HSZ.out]; omega)) (Below.refl _ _) (fun _ => rfl)
    (fun pre W => ((partsOk false (pre.map Subtype.val) = true ∧ Boxed W w.heap.size 4 (.bool false)) ∧ Boxed W (w.heap.size + 1) 4 (.bool (false && pre.isEmpty))) ∧ Below w.heap.size w W)
    (fun c pre W => ((c = .ret ∧ partsOk false (pre.map Subtype.val) = false) ∧ Boxed W w.heap.size 4 (.bool false)) ∧ Below w.heap.size w W)
    (OwnFrom.and (OwnFrom.and (OwnFrom.and (ownFrom_pure _ _) (Own.from (boxed_own _ _ _) _)) (Own.from (boxed_own _ _ _) _)) (ownFrom_below (Nat.le_refl _) (by rw [HSZ.out]; omega)))
    (fun c => OwnFrom.and (OwnFrom.and (ownFrom_pure _ _) (Own.from (boxed_own _ _ _) _)) (ownFrom_below (Nat.le_refl _) (by rw [HSZ.out]; omega)))
    ⟨⟨⟨rfl, b1'⟩, b2'⟩, hB0⟩
    (fun x => { tmps := #[.string r, undef, .pointer (some ⟨w.heap.size, 0, none⟩), .pointer (some ⟨w.heap.size + 1, 0, none⟩), .string ⟨x.1.toArray⟩, .string r, .int .i64 r.size, .bool false, .bool false, .string r, .int .i64 r.size, .bool false, .bool false, .string r, .int .u8 r[0].toNat, .bool false, .bool false, undef, undef, .string r, .func (.func 111) #[] #[.pointer (some ⟨w.heap.size + 1 + 1, 0, none⟩), .pointer (some ⟨w.heap.size + 1 + 1 + 1, 0, none⟩)], .string ⟨x.1.toArray⟩, undef, undef, undef, undef, undef, undef, undef, undef, undef, undef, undef], defers := [] }) ?assign ?body ?done ?stop
  case assign =>
    intro l x W K hK
    unfold partV
    gi_wp2
    exact hK
  case body =>
    rintro l pre x W ⟨⟨⟨hg, hR⟩, hC⟩, hB⟩ _
    have HG := Lib.hid hg
    have cR := hR.cell
    have fR := hR.frozen
    have cC := hC.cell
    have fC := hC.frozen
    obtain ⟨b, hbE⟩ : ∃ b : ByteArray, b = ⟨x.1.toArray⟩ := ⟨_, rfl⟩
    have hbl : b.data.toList = x.1 := by rw [hbE]
    have hbs : b.size ≤ 1048576 := by rw [hbE]; show x.1.toArray.size ≤ _; simpa using x.2
    rw [← hbE]
    have HBL := Lib.hid hbl
    have hIE : (false && (pre ++ [x]).isEmpty) = false := by simp
    have HSN : Hid (partsOk false ((pre ++ [x]).map Subtype.val) = chk (false && pre.isEmpty) x.1) := Lib.hid (by rw [List.map_append, List.map_cons, List.map_nil, partsOk_snoc, hg, map_empty]; rfl)
    have HK1 : Hid (∀ u, KpB (w.heap.size + 1 + 1) (w.heap.size + 1 + 1 + 1) W (W.setCell ⟨w.heap.size + 1, 0, none⟩ u)) := Lib.hid (fun u => ⟨Below.heap_setCell _ _ _ _ (by simp), Below.heap_setCell _ _ _ _ (by simp; omega)⟩)
    clear hg hbE hbl
    by_cases hcl : compL b.data.toList = true
    · have HCL := Lib.hid hcl
      by_cases hnm : (b.data.toList == nmL) = true
      · have e2 : (b.toList == [110, 111, 100, 101, 95, 109, 111, 100, 117, 108, 101, 115]) = true := by rw [ByteArray.toList_eq]; exact hnm
        have HCH : Hid (chk (false && pre.isEmpty) x.1 = (false && pre.isEmpty)) := Lib.hid (by rw [← HBL.out]; unfold chk; rw [hcl, hnm]; simp)
        clear hcl hnm
        cases hcur : (false && pre.isEmpty) with
        | true =>
          have HCU : Hid (partsOk false ((pre ++ [x]).map Subtype.val) = true) := Lib.hid (by rw [HSN.out, HCH.out, hcur])
          rw [hcur] at cC hC
          clear hcur
          gi_wp2_with (refine ⟨trivial, ?_⟩; gi_at_call 110; refine (CallsIn.inRound l (callsIn_wide.2 (componentOk_any b _ hbs))).mono ?_; rw [HCL.out]; rintro e w' ⟨rfl, rfl⟩)
          exact ⟨KeepsOthers.setCell _ _ _, HK1.out _, ⟨⟨HCU.out, hR.other (by omega) _⟩, by rw [hIE]; exact hC.set _⟩, hB.setCell (p := ⟨w.heap.size + 1, 0, none⟩) (by simp) _⟩
        | false =>
          have HCU : Hid (partsOk false ((pre ++ [x]).map Subtype.val) = false) := Lib.hid (by rw [HSN.out, HCH.out, hcur])
          rw [hcur] at cC hC
          clear hcur
          gi_wp2_with (refine ⟨trivial, ?_⟩; gi_at_call 110; refine (CallsIn.inRound l (callsIn_wide.2 (componentOk_any b _ hbs))).mono ?_; rw [HCL.out]; rintro e w' ⟨rfl, rfl⟩)
          exact ⟨KeepsOthers.setCell _ _ _, ⟨⟨rfl, HCU.out⟩, hR.set _⟩, hB.setCell (p := ⟨w.heap.size, 0, none⟩) (by simp) _⟩
      · have hnm' : (b.data.toList == nmL) = false := by simpa using hnm
        have e2 : (b.toList == [110, 111, 100, 101, 95, 109, 111, 100, 117, 108, 101, 115]) = false := by rw [ByteArray.toList_eq]; exact hnm'
        have HCU : Hid (partsOk false ((pre ++ [x]).map Subtype.val) = true) := Lib.hid (by rw [HSN.out, ← HBL.out]; unfold chk; rw [hcl, hnm']; simp)
        clear hcl hnm hnm'
        generalize (false && pre.isEmpty) = cur at cC hC
        gi_wp2_with (refine ⟨trivial, ?_⟩; gi_at_call 110; refine (CallsIn.inRound l (callsIn_wide.2 (componentOk_any b _ hbs))).mono ?_; rw [HCL.out]; rintro e w' ⟨rfl, rfl⟩)
        exact ⟨KeepsOthers.setCell _ _ _, HK1.out _, ⟨⟨HCU.out, hR.other (by omega) _⟩, by rw [hIE]; exact hC.set _⟩, hB.setCell (p := ⟨w.heap.size + 1, 0, none⟩) (by simp) _⟩
    · have hcl' : compL b.data.toList = false := by simpa using hcl
      have HCL := Lib.hid hcl'
      have HCU : Hid (partsOk false ((pre ++ [x]).map Subtype.val) = false) := Lib.hid (by rw [HSN.out, ← HBL.out]; unfold chk; rw [hcl']; simp)
      clear hcl hcl'
      generalize (false && pre.isEmpty) = cur at cC hC
      gi_wp2_with (refine ⟨trivial, ?_⟩; gi_at_call 110; refine (CallsIn.inRound l (callsIn_wide.2 (componentOk_any b _ hbs))).mono ?_; rw [HCL.out]; rintro e w' ⟨rfl, rfl⟩)
      exact ⟨KeepsOthers.setCell _ _ _, ⟨⟨rfl, HCU.out⟩, hR.set _⟩, hB.setCell (p := ⟨w.heap.size, 0, none⟩) (by simp) _⟩
  case done =>
    rintro D ys W hD hys ⟨⟨⟨hg, hR⟩, hC⟩, hB⟩ hK
    rw [hys] at hg
    have HG := Lib.hid hg
    clear hg hys
    have cR := hR.cell
    have fR := hR.frozen
    gi_wp2
    have hK' := (KeepsOthers.setCell W ⟨w.heap.size, 0, none⟩ (.bool true)).same D _ hK rfl
    refine ⟨by simp, .inl ⟨_, _, rfl, run_takeDeferred hK', ?_⟩⟩
    have hc5 := cell_kept (hR.set (.bool true)).cell (grownBy_putObj' _ D (.deferred none)) (fun r e => by cases e; exact ⟨_, hK', rfl⟩)
    refine ⟨.bool true, ?_, by rw [HG.out], (hB.setCell (p := ⟨w.heap.size, 0, none⟩) (by simp) _).trans (belowK_b (w := w) (Nat.le_refl _) _ D _ _ (by have := HSZ.out; omega) hK' rfl rfl)⟩
    simp [results, Try.f76, go_sem, hc5]
  case stop =>
    rintro D c pre W hD hpre ⟨⟨⟨rfl, hbad⟩, hR⟩, hB⟩ hK
    have HG := Lib.hid (partsOk_prefix hpre hbad)
    clear hpre hbad
    gi_wp2
    refine ⟨by simp, .inl ⟨_, _, rfl, run_takeDeferred hK, ?_⟩⟩
    have hc5 := cell_kept hR.cell (grownBy_putObj' _ D (.deferred none)) (fun r e => by cases e; exact ⟨_, hK, rfl⟩)
    refine ⟨.bool false, ?_, by rw [HG.out], hB.trans (belowK_b (w := w) (Nat.le_refl _) W D _ _ (by have := HSZ.out; omega) hK rfl rfl)⟩
    simp [results, Try.f76, go_sem, hc5]

set_option maxRecDepth 100000 in
set_option maxHeartbeats 4000000 in
theorem implNameOk_scoped (n : Nat) (hn : 4 ≤ n) (s r : ByteArray) (w : World) (h0 : 0 < s.size) (h60 : s.size ≤ 60) (e1 : ((s[0].toNat : Int) == 64) = true) (he : ∀ W, (Instr.slice 9 (.string s) (some (.int .i64 1)) none none).run Try.prog W = .ok (.string r) W) (hr : r.size ≤ 60) :
    CallsIn Fence.wide n Try.prog 76 #[.string s] w fun e W' => e = .returned (.bool (partsOk true (cutL 47 r.data.toList))) ∧ Below w.heap.size w W' := by
  have h1 : 1 ≤ n := by omega
  have hn2 : 1 ≤ n - 1 - 1 := by omega
  have t1 : decide ((s.size : Int) < 1) = false := by simp; omega
  have t2 : decide ((60 : Int) < (s.size : Int)) = false := by simp; omega
  refine callsIn_of_wp_marks Try.func76 rfl trivial ?_ rfl
  simp only [Try.ntmps76, List.size_toArray, List.length_cons, List.length_nil, Nat.reduceAdd, Nat.reduceSub, Array.replicate_succ, Array.replicate_zero, List.push_toArray, List.append_toArray, List.nil_append, List.cons_append]
  gi_wp2_with (refine ⟨trivial, ?_⟩; gi_at_call 77; refine (partsOf_in _ _ _ _).mono ?_; rintro e w' ⟨rfl, rfl⟩)
  have b1 := Boxed.new w 4 (.bool false)
  have b2 := Boxed.new (w.alloc (.cells #[.bool false] 4)) 4 (.bool true)
  have b3 := Boxed.new ((w.alloc (.cells #[.bool false] 4)).alloc (.cells #[.bool true] 4)) 9 (.string r)
  have b4 := Boxed.new (((w.alloc (.cells #[.bool false] 4)).alloc (.cells #[.bool true] 4)).alloc (.cells #[.string r] 9)) 5 (.int .u8 47)
  simp only [World.size_alloc] at b2 b3 b4
  have hB0 : Below w.heap.size w ((((w.alloc (.cells #[.bool false] 4)).alloc (.cells #[.bool true] 4)).alloc (.cells #[.string r] 9)).alloc (.cells #[.int .u8 47] 5)) := ((((Below.refl _ w).alloc (Nat.le_refl _) _).alloc (by simp) _).alloc (by simp; omega) _).alloc (by simp; omega) _
  have b1' := ((b1.alloc (.cells #[.bool true] 4)).alloc (.cells #[.string r] 9)).alloc (.cells #[.int .u8 47] 5)
  have b2' := (b2.alloc (.cells #[.string r] 9)).alloc (.cells #[.int .u8 47] 5)
  have b3' := b3.alloc (.cells #[.int .u8 47] 5)
  clear b1 b2 b3
  obtain ⟨W0, hW0⟩ : ∃ W0, ((((w.alloc (.cells #[.bool false] 4)).alloc (.cells #[.bool true] 4)).alloc (.cells #[.string r] 9)).alloc (.cells #[.int .u8 47] 5)) = W0 := ⟨_, rfl⟩
  have hsz : W0.heap.size = w.heap.size + 4 := by rw [← hW0]; simp
  rw [hW0] at b1' b2' b3' b4 hB0 ⊢
  clear hW0
  have HSZ := Lib.hid hsz
  clear hsz
  refine wpIn_rangeFunc_ownF rfl h1 (gf := 111) (lb := #[.pointer (some ⟨w.heap.size + 1 + 1, 0, none⟩), .pointer (some ⟨w.heap.size + 1 + 1 + 1, 0, none⟩)]) rfl trivial (enters_of Try.func111 (by kernel_rfl) rfl)
    (parts_stops (n - 1) (by omega) (w.heap.size + 1 + 1) (w.heap.size + 1 + 1 + 1) r 47 (by omega) W0 (by rw [HSZ.out]; omega) (by rw [HSZ.out]; omega) b3' b4) kpB_t (kpB_b (by rw [HSZ.out]; omega) (by rw [HSZ.out]; omega)) (Below.refl _ _) (fun _ => rfl)
    (fun pre W => ((partsOk true (pre.map Subtype.val) = true ∧ Boxed W w.heap.size 4 (.bool false)) ∧ Boxed W (w.heap.size + 1) 4 (.bool (true && pre.isEmpty))) ∧ Below w.heap.size w W)
    (fun c pre W => ((c = .ret ∧ partsOk true (pre.map Subtype.val) = false) ∧ Boxed W w.heap.size 4 (.bool false)) ∧ Below w.heap.size w W)
    (OwnFrom.and (OwnFrom.and (OwnFrom.and (ownFrom_pure _ _) (Own.from (boxed_own _ _ _) _)) (Own.from (boxed_own _ _ _) _)) (ownFrom_below (Nat.le_refl _) (by rw [HSZ.out]; omega)))
    (fun c => OwnFrom.and (OwnFrom.and (ownFrom_pure _ _) (Own.from (boxed_own _ _ _) _)) (ownFrom_below (Nat.le_refl _) (by rw [HSZ.out]; omega)))
    ⟨⟨⟨rfl, b1'⟩, b2'⟩, hB0⟩
    (fun x => { tmps := #[.string r, undef, .pointer (some ⟨w.heap.size, 0, none⟩), .pointer (some ⟨w.heap.size + 1, 0, none⟩), .string ⟨x.1.toArray⟩, .string s, .int .i64 s.size, .bool false, .bool false, .string s, .int .i64 s.size, .bool false, .bool false, .string s, .int .u8 s[0].toNat, .bool true, .bool true, .string s, .string r, .string r, .func (.func 111) #[] #[.pointer (some ⟨w.heap.size + 1 + 1, 0, none⟩), .pointer (some ⟨w.heap.size + 1 + 1 + 1, 0, none⟩)], .string ⟨x.1.toArray⟩, undef, undef, undef, undef, undef, undef, undef, undef, undef, undef, undef], defers := [] }) ?assign ?body ?done ?stop
  case assign =>
    intro l x W K hK
    unfold partV
    gi_wp2
    exact hK
  case body =>
    rintro l pre x W ⟨⟨⟨hg, hR⟩, hC⟩, hB⟩ _
    have HG := Lib.hid hg
    have cR := hR.cell
    have fR := hR.frozen
    have cC := hC.cell
    have fC := hC.frozen
    obtain ⟨b, hbE⟩ : ∃ b : ByteArray, b = ⟨x.1.toArray⟩ := ⟨_, rfl⟩
    have hbl : b.data.toList = x.1 := by rw [hbE]
    have hbs : b.size ≤ 1048576 := by rw [hbE]; show x.1.toArray.size ≤ _; simpa using x.2
    rw [← hbE]
    have HBL := Lib.hid hbl
    have hIE : (true && (pre ++ [x]).isEmpty) = false := by simp
    have HSN : Hid (partsOk true ((pre ++ [x]).map Subtype.val) = chk (true && pre.isEmpty) x.1) := Lib.hid (by rw [List.map_append, List.map_cons, List.map_nil, partsOk_snoc, hg, map_empty]; rfl)
    have HK1 : Hid (∀ u, KpB (w.heap.size + 1 + 1) (w.heap.size + 1 + 1 + 1) W (W.setCell ⟨w.heap.size + 1, 0, none⟩ u)) := Lib.hid (fun u => ⟨Below.heap_setCell _ _ _ _ (by simp), Below.heap_setCell _ _ _ _ (by simp; omega)⟩)
    clear hg hbE hbl
    by_cases hcl : compL b.data.toList = true
    · have HCL := Lib.hid hcl
      by_cases hnm : (b.data.toList == nmL) = true
      · have e2 : (b.toList == [110, 111, 100, 101, 95, 109, 111, 100, 117, 108, 101, 115]) = true := by rw [ByteArray.toList_eq]; exact hnm
        have HCH : Hid (chk (true && pre.isEmpty) x.1 = (true && pre.isEmpty)) := Lib.hid (by rw [← HBL.out]; unfold chk; rw [hcl, hnm]; simp)
        clear hcl hnm
        cases hcur : (true && pre.isEmpty) with
        | true =>
          have HCU : Hid (partsOk true ((pre ++ [x]).map Subtype.val) = true) := Lib.hid (by rw [HSN.out, HCH.out, hcur])
          rw [hcur] at cC hC
          clear hcur
          gi_wp2_with (refine ⟨trivial, ?_⟩; gi_at_call 110; refine (CallsIn.inRound l (callsIn_wide.2 (componentOk_any b _ hbs))).mono ?_; rw [HCL.out]; rintro e w' ⟨rfl, rfl⟩)
          exact ⟨KeepsOthers.setCell _ _ _, HK1.out _, ⟨⟨HCU.out, hR.other (by omega) _⟩, by rw [hIE]; exact hC.set _⟩, hB.setCell (p := ⟨w.heap.size + 1, 0, none⟩) (by simp) _⟩
        | false =>
          have HCU : Hid (partsOk true ((pre ++ [x]).map Subtype.val) = false) := Lib.hid (by rw [HSN.out, HCH.out, hcur])
          rw [hcur] at cC hC
          clear hcur
          gi_wp2_with (refine ⟨trivial, ?_⟩; gi_at_call 110; refine (CallsIn.inRound l (callsIn_wide.2 (componentOk_any b _ hbs))).mono ?_; rw [HCL.out]; rintro e w' ⟨rfl, rfl⟩)
          exact ⟨KeepsOthers.setCell _ _ _, ⟨⟨rfl, HCU.out⟩, hR.set _⟩, hB.setCell (p := ⟨w.heap.size, 0, none⟩) (by simp) _⟩
      · have hnm' : (b.data.toList == nmL) = false := by simpa using hnm
        have e2 : (b.toList == [110, 111, 100, 101, 95, 109, 111, 100, 117, 108, 101, 115]) = false := by rw [ByteArray.toList_eq]; exact hnm'
        have HCU : Hid (partsOk true ((pre ++ [x]).map Subtype.val) = true) := Lib.hid (by rw [HSN.out, ← HBL.out]; unfold chk; rw [hcl, hnm']; simp)
        clear hcl hnm hnm'
        generalize (true && pre.isEmpty) = cur at cC hC
        gi_wp2_with (refine ⟨trivial, ?_⟩; gi_at_call 110; refine (CallsIn.inRound l (callsIn_wide.2 (componentOk_any b _ hbs))).mono ?_; rw [HCL.out]; rintro e w' ⟨rfl, rfl⟩)
        exact ⟨KeepsOthers.setCell _ _ _, HK1.out _, ⟨⟨HCU.out, hR.other (by omega) _⟩, by rw [hIE]; exact hC.set _⟩, hB.setCell (p := ⟨w.heap.size + 1, 0, none⟩) (by simp) _⟩
    · have hcl' : compL b.data.toList = false := by simpa using hcl
      have HCL := Lib.hid hcl'
      have HCU : Hid (partsOk true ((pre ++ [x]).map Subtype.val) = false) := Lib.hid (by rw [HSN.out, ← HBL.out]; unfold chk; rw [hcl']; simp)
      clear hcl hcl'
      generalize (true && pre.isEmpty) = cur at cC hC
      gi_wp2_with (refine ⟨trivial, ?_⟩; gi_at_call 110; refine (CallsIn.inRound l (callsIn_wide.2 (componentOk_any b _ hbs))).mono ?_; rw [HCL.out]; rintro e w' ⟨rfl, rfl⟩)
      exact ⟨KeepsOthers.setCell _ _ _, ⟨⟨rfl, HCU.out⟩, hR.set _⟩, hB.setCell (p := ⟨w.heap.size, 0, none⟩) (by simp) _⟩
  case done =>
    rintro D ys W hD hys ⟨⟨⟨hg, hR⟩, hC⟩, hB⟩ hK
    rw [hys] at hg
    have HG := Lib.hid hg
    clear hg hys
    have cR := hR.cell
    have fR := hR.frozen
    gi_wp2
    have hK' := (KeepsOthers.setCell W ⟨w.heap.size, 0, none⟩ (.bool true)).same D _ hK rfl
    refine ⟨by simp, .inl ⟨_, _, rfl, run_takeDeferred hK', ?_⟩⟩
    have hc5 := cell_kept (hR.set (.bool true)).cell (grownBy_putObj' _ D (.deferred none)) (fun r e => by cases e; exact ⟨_, hK', rfl⟩)
    refine ⟨.bool true, ?_, by rw [HG.out], (hB.setCell (p := ⟨w.heap.size, 0, none⟩) (by simp) _).trans (belowK_b (w := w) (Nat.le_refl _) _ D _ _ (by have := HSZ.out; omega) hK' rfl rfl)⟩
    simp [results, Try.f76, go_sem, hc5]
  case stop =>
    rintro D c pre W hD hpre ⟨⟨⟨rfl, hbad⟩, hR⟩, hB⟩ hK
    have HG := Lib.hid (partsOk_prefix hpre hbad)
    clear hpre hbad
    gi_wp2
    refine ⟨by simp, .inl ⟨_, _, rfl, run_takeDeferred hK, ?_⟩⟩
    have hc5 := cell_kept hR.cell (grownBy_putObj' _ D (.deferred none)) (fun r e => by cases e; exact ⟨_, hK, rfl⟩)
    refine ⟨.bool false, ?_, by rw [HG.out], hB.trans (belowK_b (w := w) (Nat.le_refl _) W D _ _ (by have := HSZ.out; omega) hK rfl rfl)⟩
    simp [results, Try.f76, go_sem, hc5]

/-- What both return. -/
theorem spec_impl (l : List UInt8) (h0 : 0 < l.length) (h60 : l.length ≤ 60) : specN l = if l.head? = some 64 then partsOk true (cutL 47 l.tail) else partsOk false (cutL 47 l) := by
  unfold specN
  rw [decide_eq_true h60, Bool.and_true]
  match l, h0 with
  | c :: t, _ =>
    by_cases hc : c = 64
    · subst hc
      have hcut : cutL 47 (64 :: t) = attach [64] (cutL 47 t) := by rw [cutL, if_neg (by decide)]
      rw [if_pos (show (64 :: t).head? = some 64 from rfl), hcut]
      cases hX : cutL 47 t with
      | nil => exact absurd hX (cutL_ne 47 t)
      | cons p ps =>
        simp only [attach, List.tail_cons]
        rw [hX]
        simp [chkS, partsOk, chk]
    · rw [if_neg (by simpa using hc)]
      cases hX : cutL 47 (c :: t) with
      | nil => exact absurd hX (cutL_ne 47 _)
      | cons p ps =>
        simp only [partsOk]
        have hp : p.head? ≠ some 64 := by
          by_cases h47 : c = 47
          · subst h47
            rw [cutL, if_pos rfl] at hX
            injection hX with hX _
            rw [← hX]; simp
          · rw [cutL, if_neg h47] at hX
            cases hY : cutL 47 t with
            | nil => exact absurd hY (cutL_ne 47 t)
            | cons q qs =>
              rw [hY] at hX
              simp only [attach] at hX
              injection hX with hX _
              rw [← hX]; simpa using hc
        unfold chkS
        rw [if_neg hp]
theorem spec_long (l : List UInt8) (h : l.length = 0 ∨ 60 < l.length) : specN l = false := by
  rcases h with h | h
  · have : l = [] := List.eq_nil_of_length_eq_zero h
    subst this; decide
  · unfold specN
    rw [decide_eq_false (by omega)]; simp

set_option maxRecDepth 100000 in
set_option maxHeartbeats 2000000 in
theorem implNameOk_out (s : ByteArray) (w : World) (h : s.size = 0 ∨ 60 < s.size) :
    CallsIn Fence.wide 4 Try.prog 76 #[.string s] w fun e W' => e = .returned (.bool false) ∧ Below w.heap.size w W' := by
  have b1 := Boxed.new w 4 (.bool false)
  have cR := b1.cell
  have fR := b1.frozen
  refine callsIn_of_wp_marks Try.func76 rfl trivial ?_ rfl
  simp only [Try.ntmps76, List.size_toArray, List.length_cons, List.length_nil, Nat.reduceAdd, Nat.reduceSub, Array.replicate_succ, Array.replicate_zero, List.push_toArray, List.append_toArray, List.nil_append, List.cons_append]
  rcases h with h | h
  · have t1 : decide ((s.size : Int) < 1) = true := by simp; omega
    have HH := Lib.hid h
    clear h
    gi_wp2
    refine ⟨.bool false, ?_, rfl, (Below.refl _ _).alloc (Nat.le_refl _) _⟩
    simp [results, Try.f76, go_sem, cR]
  · have t1 : decide ((s.size : Int) < 1) = false := by simp; omega
    have t2 : decide ((60 : Int) < (s.size : Int)) = true := by simp; omega
    clear h
    gi_wp2
    refine ⟨.bool false, ?_, rfl, (Below.refl _ _).alloc (Nat.le_refl _) _⟩
    simp [results, Try.f76, go_sem, cR]

theorem implNameOk_any (s : ByteArray) (w : World) :
    Calls Try.prog 76 #[.string s] w fun e W' => e = .returned (.bool (specN s.data.toList)) ∧ Below w.heap.size w W' := by
  refine (callsIn_wide (n := 4)).1 ?_
  by_cases h : s.size = 0 ∨ 60 < s.size
  · rw [spec_long s.data.toList (by simpa using h)]
    exact implNameOk_out s w h
  · have h0 : 0 < s.size := by omega
    have h60 : s.size ≤ 60 := by omega
    rw [spec_impl s.data.toList (by simpa using h0) (by simpa using h60)]
    have hd := drop_cons s 0 h0
    simp at hd
    by_cases h64 : s[0] = 64
    · rw [if_pos (by rw [hd]; simpa using h64)]
      have e : s.data.toList.tail = (s.extract 1 s.size).data.toList := by rw [piece_end]; simp
      rw [e]
      exact implNameOk_scoped 4 (by omega) s (s.extract 1 s.size) w h0 h60 (by rw [h64]; rfl) (slice_from s _ 1 1 rfl (by omega) rfl) (by simp; omega)
    · rw [if_neg (by rw [hd]; simpa using h64)]
      exact implNameOk_plain 4 (by omega) s s w h0 h60 (int_beq_false (fun h => h64 (UInt8.toNat_inj.1 (by show _ = (64 : Nat); omega)))) rfl h60
end Go.Proofs.Ytldfkdkppgammaa

/-
  impl.PutPercent returns the percent encoding of every byte.
-/
namespace Go.Proofs.Ytldfkdkppgammaa
open Go.RowKit

set_option maxHeartbeats 2000000 in
theorem implPutPercent_any (s : ByteArray) (w : World) (hs : s.size ≤ 1048576) :
    Calls Try.prog 78 #[.string s] w fun e w' => e = .returned (.string ⟨(pctL s.data.toList).toArray⟩) ∧ Below w.heap.size w w' := by
  obtain ⟨i0, hi, hz0, hz1, hz2⟩ := info_parts u8info
  go_enter Try.func78, Try.ntmps78
  go_wp2_with (at_make; refine wpList_make_own _ rfl _ _ 59 rfl w.heap.size 5 i0 (.int .u8 0) 1 Try.underlying59 hi hz0 hz1 .i64 .i64 _ s.size rfl rfl (by omega) (by rw [hz2]; omega) (by unfold maxLen; omega) (Nat.le_refl _) ?_; intro w1 hown1 hg1)
  have hb1 : Below w.heap.size w w1 := (Below.refl _ _).grown hg1 (Nat.le_refl _) (by simp)
  go_loopw [3, 4, 5, 11] (fun v _ _ n wr => ∃ k : Nat, k ≤ s.size ∧ n = .int .i64 k ∧ Buf wr w.heap.size v (pctL (s.data.toList.take k)) ∧ Below w.heap.size w wr) (fun _ _ _ n _ => s.size - (intOf n).toNat)
  case atStart => exact ⟨0, Nat.zero_le _, rfl, hown1, hb1⟩
  case round =>
    obtain ⟨k, hk, rfl, hown, hb⟩ := hrel
    by_cases hlt : k < s.size
    · have hl := pctL_len (s.data.toList.take k)
      have hlk : (s.data.toList.take k).length ≤ k := List.length_take_le _ _
      have HL : Hid ((pctL (s.data.toList.take k)).length + 3 ≤ 16777216) := Lib.hid (by omega)
      clear hl hlk
      have k0 : (0 : Int) ≤ (k : Int) := by omega
      have k1 : (k : Int) < (s.size : Int) := by omega
      by_cases hsf : safeI (s[k].toNat : Int) = true
      · have HN : Hid (pctL (s.data.toList.take (k + 1)) = pctL (s.data.toList.take k) ++ [s[k]]) := Lib.hid (by rw [take_snoc s k hlt, pctL_app]; simp [pctL, pctB, hsf])
        have HS := Lib.hid hsf
        clear hsf
        go_wp2_with fail
        refine (unescaped_any _ _ (byte_lt s[k]).2 (byte_lt s[k]).1).mono ?_
        rw [HS.out]
        rintro e w' ⟨rfl, rfl⟩
        go_wp2_with (at_builtin; refine wpList_append_buf rfl _ _ rfl w.heap.size _ _ rfl (hown.alloc _) [s[k]] wr.heap.size _ _ _ _ _ rfl rfl (heap_alloc_new wr _) (by simp [bv]) (by simp) (by have := HL.out; simp; omega) (by simp; exact Nat.le_succ_of_le hb.size) ?_; intro v' w2 hown2 hb2)
        have HB := hb.trans (((Below.refl w.heap.size wr).alloc hb.size _).trans hb2)
        go_wp2
        go_roundw
        case rel => exact ⟨k + 1, by omega, by go_num, by rw [HN.out]; exact hown2, HB⟩
        case measure => simp [intOf]; omega
      · have hsf' : safeI (s[k].toNat : Int) = false := by simpa using hsf
        have HN : Hid (pctL (s.data.toList.take (k + 1)) = pctL (s.data.toList.take k) ++ [37, hexU (s[k].toNat / 16), hexU (s[k].toNat % 16)]) := Lib.hid (by rw [take_snoc s k hlt, pctL_app]; simp [pctL, pctB, hsf])
        have HS := Lib.hid hsf'
        clear hsf hsf'
        have x1 := idx_upper (s[k].toNat / 16) (by have := s[k].toNat_lt; omega) ((s[k].toNat : Int) / 16) (by omega)
        have x2 := idx_upper (s[k].toNat % 16) (by omega) ((s[k].toNat : Int) % 16) (by omega)
        have x3 := and15 s[k]
        go_wp2_with fail
        refine (unescaped_any _ _ (byte_lt s[k]).2 (byte_lt s[k]).1).mono ?_
        rw [HS.out]
        rintro e w' ⟨rfl, rfl⟩
        go_wp2_with fail
        go_region_law ((refine step_append_buf (by rfl) _ _ (by rfl) w.heap.size _ _ (by rfl) (hown.alloc _).drew [37, hexU (s[k].toNat / 16), hexU (s[k].toNat % 16)] wr.heap.size _ _ _ _ _ (by rfl) (by rfl) (heap_alloc_new wr _) (by simp [bv]) (by simp) HL.out (by simp; exact Nat.le_succ_of_le hb.size) ?_; intro v' w2 hown2 hb2))
        all_goals
          have HB := hb.trans (((Below.refl w.heap.size wr).alloc hb.size _).drew.trans hb2)
          go_wp2
          go_roundw
          case rel => exact ⟨k + 1, by omega, by go_num, by rw [HN.out]; exact hown2, HB⟩
          case measure => simp [intOf]; omega
    · have hcv := hown.conv
      rw [take_end s k hlt] at hcv
      go_wp2
      go_ret
      exact ⟨rfl, hb⟩

end Go.Proofs.Ytldfkdkppgammaa

/-
  impl.PutPurl returns the package URL.
-/
namespace Go.Proofs.Ytldfkdkppgammaa
open Go.RowKit Go.Shelf
attribute [local go_sem] Oper.semAt_some

theorem spJ_ownF (w : World) (B : Nat) (f : Part → List UInt8) : OwnFrom B (fun (pre : List Part) W => SpJ w (pre.map f) W) := by
  rintro pre W W' row ⟨h4, v, hB, hS, hne⟩ hg hr
  refine ⟨Nat.le_trans h4 hg.size, v, hB.kept hg (fun e => ?_), World.ownsRow.kept hS hg ?_, hne⟩
  · obtain ⟨_, o, ho, hc⟩ := hr _ e.symm
    rw [show W.heap[_]? = _ from hB] at ho; cases ho; cases hc
  · rcases hS.2 with ⟨rfl, _⟩ | ⟨g, cap, cur, rfl, _, hh, _⟩
    · left; rfl
    · right
      intro e
      obtain ⟨_, o, ho, hc⟩ := hr g (by simpa [Value.ownBlock] using e.symm)
      rw [hh] at ho; cases ho; cases hc

set_option maxRecDepth 100000 in
set_option maxHeartbeats 4000000 in
theorem putPurl_in (n : Nat) (hn : 4 ≤ n) (k : Int) (a b : List UInt8) (w : World) (ha : a.length ≤ 60) (hb : b.length ≤ 1048576) (hk : kindL k ≠ []) (hm : specN a = true) (hv : readOk b = true) :
    CallsIn Fence.wide n Try.prog 35 #[.int .i64 k, .string ⟨a.toArray⟩, .string ⟨b.toArray⟩] w fun e W' => e = .returned (.string ⟨(purlT k a b).toArray⟩) ∧ Below w.heap.size w W' := by
  have h1 : 1 ≤ n := by omega
  have hn2 : 1 ≤ n - 1 - 1 := by omega
  have hkl := kindL_len k
  have HV : Hid (Calls Try.prog 75 #[.string ⟨b.toArray⟩] w (ReadIs w b)) := Lib.hid (implReadVersion_any ⟨b.toArray⟩ w (by show b.toArray.size ≤ _; simp; omega))
  have HN : Hid (∀ W, Calls Try.prog 76 #[.string ⟨a.toArray⟩] W fun e w' => e = .returned (.bool (specN a)) ∧ Below W.heap.size W w') := Lib.hid (fun W => implNameOk_any ⟨a.toArray⟩ W)
  have HK := Lib.hid (fun W => implKindName_any k W)
  have HVV := Lib.hid hv
  simp only [hm] at HN
  obtain ⟨K, HKK⟩ : ∃ K, Hid (kindL k = K) := ⟨_, Lib.hid rfl⟩
  simp only [HKK.out] at HK
  rw [HKK.out] at hk hkl
  obtain ⟨e1, e2⟩ := str_beq_nil hk
  have HR : Hid (purlT k a b = [112, 107, 103, 58] ++ K ++ pctP (cutL 47 a) ++ 64 :: pctL b) := Lib.hid (by unfold purlT; rw [HKK.out])
  clear hk hm hv
  refine callsIn_of_wp_marks Try.func35 rfl trivial ?_ rfl
  simp only [Try.ntmps35, List.size_toArray, List.length_cons, List.length_nil, Nat.reduceAdd, Nat.reduceSub, Array.replicate_succ, Array.replicate_zero, List.push_toArray, List.append_toArray, List.nil_append, List.cons_append]
  gi_wp2_with (refine ⟨trivial, ?_⟩; gi_at_call 12; refine (callsIn_wide.2 (HK.out _)).mono ?_; rintro e w0 ⟨rfl, rfl⟩)
  gi_wp2_with (refine ⟨trivial, ?_⟩; gi_at_call 75; refine (callsIn_wide.2 HV.out).mono ?_; rintro e w1 ⟨u, rfl, hu, hb1⟩; obtain ⟨A, c, rfl⟩ := hu.slice; rw [HVV.out])
  gi_wp2_with (refine ⟨trivial, ?_⟩; gi_at_call 76; refine (callsIn_wide.2 (HN.out _)).mono ?_; rintro e w2 ⟨rfl, hb2⟩)
  gi_wp2_with (refine ⟨trivial, ?_⟩; gi_at_call 77; refine (partsOf_in _ _ _ _).mono ?_; rintro e w' ⟨rfl, rfl⟩)
  have BA := hb1.alloc hb1.size (.cells #[.int .i64 (readA b 0), .int .i64 (readA b 1), .int .i64 (readA b 2), .slice A (readP b).length c] 47)
  have BB := BA.trans (hb2.mono BA.size)
  clear hu hb1 hb2 BA HV HN HK e1 e2
  have b1 := Boxed.new (w2.alloc (.cells #[] 9)) 33 (.slice (some ⟨w2.heap.size, 0, none⟩) 0 0)
  have b3 := Boxed.new ((w2.alloc (.cells #[] 9)).alloc (.cells #[.slice (some ⟨w2.heap.size, 0, none⟩) 0 0] 33)) 9 (.string ⟨a.toArray⟩)
  have b4 := Boxed.new (((w2.alloc (.cells #[] 9)).alloc (.cells #[.slice (some ⟨w2.heap.size, 0, none⟩) 0 0] 33)).alloc (.cells #[.string ⟨a.toArray⟩] 9)) 5 (.int .u8 47)
  simp only [World.size_alloc] at b1 b3 b4
  have hB0 : Below w2.heap.size w2 ((((w2.alloc (.cells #[] 9)).alloc (.cells #[.slice (some ⟨w2.heap.size, 0, none⟩) 0 0] 33)).alloc (.cells #[.string ⟨a.toArray⟩] 9)).alloc (.cells #[.int .u8 47] 5)) := ((((Below.refl _ w2).alloc (Nat.le_refl _) _).alloc (by simp) _).alloc (by simp; omega) _).alloc (by simp; omega) _
  have b1' := (b1.alloc (.cells #[.string ⟨a.toArray⟩] 9)).alloc (.cells #[.int .u8 47] 5)
  have b3' := b3.alloc (.cells #[.int .u8 47] 5)
  have hS0 := (((Strs.empty w2 w2.heap.size (Nat.le_refl _)).alloc (.cells #[.slice (some ⟨w2.heap.size, 0, none⟩) 0 0] 33)).alloc (.cells #[.string ⟨a.toArray⟩] 9)).alloc (.cells #[.int .u8 47] 5)
  clear b1 b3
  obtain ⟨W0, hW0⟩ : ∃ W0, ((((w2.alloc (.cells #[] 9)).alloc (.cells #[.slice (some ⟨w2.heap.size, 0, none⟩) 0 0] 33)).alloc (.cells #[.string ⟨a.toArray⟩] 9)).alloc (.cells #[.int .u8 47] 5)) = W0 := ⟨_, rfl⟩
  have hsz : W0.heap.size = w2.heap.size + 4 := by rw [← hW0]; simp
  rw [hW0] at b1' b3' b4 hS0 hB0 ⊢
  clear hW0
  have HSZ := Lib.hid hsz
  clear hsz
  refine wpIn_rangeFunc_ownF rfl h1 (gf := 111) (lb := #[.pointer (some ⟨w2.heap.size + 1 + 1, 0, none⟩), .pointer (some ⟨w2.heap.size + 1 + 1 + 1, 0, none⟩)]) rfl trivial (enters_of Try.func111 (by kernel_rfl) rfl)
    (parts_stops (n - 1) (by omega) (w2.heap.size + 1 + 1) (w2.heap.size + 1 + 1 + 1) ⟨a.toArray⟩ 47 (by show a.toArray.size ≤ _; simp; omega) W0 (by rw [HSZ.out]; omega) (by rw [HSZ.out]; omega) b3' b4) kpB_t (kpB_b (by rw [HSZ.out]; omega) (by rw [HSZ.out]; omega)) (Below.refl _ _) (fun _ => rfl)
    (fun pre W => SpJ w2 (pre.map fun x => pctL x.1) W ∧ Below w2.heap.size w2 W)
    (fun c pre W => False)
    (OwnFrom.and (spJ_ownF w2 _ _) (ownFrom_below (Nat.le_refl _) (by rw [HSZ.out]; omega)))
    (fun c => ownFrom_pure _ _)
    ⟨⟨by rw [HSZ.out]; exact Nat.le_refl _, _, b1', hS0, fun g hg => by simp [Value.ownBlock] at hg; omega⟩, hB0⟩
    (fun x => { tmps := #[.int .i64 k, .string ⟨a.toArray⟩, .string ⟨b.toArray⟩, undef, undef, undef, .string ⟨#[]⟩, .string ⟨K.toArray⟩, .pointer (some ⟨w1.heap.size, 0, none⟩), .bool true, .pointer (some ⟨w2.heap.size + 1, 0, none⟩), .string ⟨x.1.toArray⟩, .int .i64 k, .string ⟨K.toArray⟩, .tuple #[.agg #[.int .i64 (readA b 0), .int .i64 (readA b 1), .int .i64 (readA b 2), .slice A (readP b).length c], .bool true], .string ⟨b.toArray⟩, .tuple #[.agg #[.int .i64 (readA b 0), .int .i64 (readA b 1), .int .i64 (readA b 2), .slice A (readP b).length c], .bool true], .agg #[.int .i64 (readA b 0), .int .i64 (readA b 1), .int .i64 (readA b 2), .slice A (readP b).length c], .bool true, .string ⟨K.toArray⟩, .bool false, .bool false, .string ⟨a.toArray⟩, .bool true, .bool false, .bool false, .bool false, .bool true, .bool false, .bool false, .slice (some ⟨w2.heap.size, 0, none⟩) 0 0, .string ⟨a.toArray⟩, .func (.func 111) #[] #[.pointer (some ⟨w2.heap.size + 1 + 1, 0, none⟩), .pointer (some ⟨w2.heap.size + 1 + 1 + 1, 0, none⟩)], .string ⟨x.1.toArray⟩, undef, undef, undef, undef, undef, undef, undef, undef, undef, undef, undef, undef, undef, undef, undef], defers := [] }) ?assign ?body ?done ?stop
  case assign =>
    intro l x W K hK
    unfold partV
    gi_wp2
    exact hK
  case body =>
    rintro l pre x W ⟨⟨h4, v, hR, hS, hne⟩, hB⟩ hpl
    have cR := hR.cell
    have fR := hR.frozen
    obtain ⟨E, HEE⟩ : ∃ E, Hid (pctL x.1 = E) := ⟨_, Lib.hid rfl⟩
    gi_wp2
    have hlt : w2.heap.size + 1 < W.drew.heap.size := hR.lt
    have cR' : W.drew.cell? ⟨w2.heap.size + 1, 0, none⟩ = some v := cR
    have fR' : W.drew.frozen? ⟨w2.heap.size + 1, 0, none⟩ = false := fR
    have hCl : CallsIn _ _ Try.prog 78 #[.string ⟨x.1.toArray⟩] W.drew fun e w' => e = .returned (.string ⟨(pctL x.1).toArray⟩) ∧ Below W.drew.heap.size W.drew w' := CallsIn.inRound (n := n - 1 - 1 - 1) l (callsIn_wide.2 (implPutPercent_any ⟨x.1.toArray⟩ W.drew (by show x.1.toArray.size ≤ _; simpa using x.2)))
    rw [HEE.out] at hCl
    have HCL := Lib.hid hCl
    clear hCl
    refine wpIn_region_any (by kernel_rfl) ?_
    change wpAnyIn _ _ _ _ _ _ _ _ _ (World.drew _)
    have HPL : Hid ((pre.map fun x => pctL x.1).length + 1 ≤ 16777216) := Lib.hid (by
      have hs2 : (⟨a.toArray⟩ : ByteArray).size = a.length := size_of a
      rw [hs2] at hpl
      simp; omega)
    refine wpAnyIn_ready (rs := [0, 1]) (by kernel_rfl) (by simp) (AllReadyIn.cons rfl (fun K hK => ?_) (AllReadyIn.cons rfl (fun K hK => ?_) AllReadyIn.nil)) <;> go_simp <;> refine hK _ _ ?_ <;> clear hK K
    · refine wpAnyIn_ready (rs := [1]) (by kernel_rfl) (by simp) (AllReadyIn.cons rfl (fun K hK => ?_) AllReadyIn.nil)
      go_simp
      refine hK _ _ ?_
      clear hK K
      refine wpAnyIn_ready (rs := [2]) (by kernel_rfl) (by simp) (AllReadyIn.cons rfl (fun K hK => ?_) AllReadyIn.nil)
      go_simp
      refine ⟨trivial, ?_⟩
      refine HCL.out.mono ?_
      rintro e w3 ⟨rfl, hb3⟩
      refine hK _ _ ?_
      clear hK K
      obtain ⟨c1, hlt1⟩ := keep_cell hb3 hlt cR'
      have HSI : Hid (w2.heap.size ≤ (w3.alloc (.cells #[.string ⟨E.toArray⟩] 9)).heap.size) := Lib.hid (by have := hb3.size; simp at this ⊢; omega)
      refine wpAnyIn_ready (rs := [3]) (by kernel_rfl) (by simp) (AllReadyIn.cons rfl (fun K hK => ?_) AllReadyIn.nil)
      go_simp
      refine hK _ _ ?_
      clear hK K
      refine wpAnyIn_ready (rs := [4]) (by kernel_rfl) (by simp) (AllReadyIn.cons rfl (fun K hK => ?_) AllReadyIn.nil)
      refine step_append_in rfl _ _ rfl w2.heap.size v (pre.map fun x => pctL x.1) rfl ((hS.drew.below hb3).alloc _) E w3.heap.size 1 _ _ rfl (heap_alloc_new w3 _) HPL.out HSI.out ?_
      intro g cap w4 hS4 hg4 hg5
      refine hK _ _ ?_
      clear hK K
      have HE := Lib.hid (spl_end w2 W w3 w4 v _ _ _ g cap h4 hR hS hne hB hb3 hg4 hS4 hg5)
      have c3 := HE.out.1.cell
      have f3 := HE.out.1.frozen
      clear hS4 hg4 hg5
      refine wpAnyIn_ready (rs := [5]) (by kernel_rfl) (by simp) (AllReadyIn.cons rfl (fun K hK => ?_) AllReadyIn.nil)
      go_simp
      refine hK _ _ ?_
      clear hK K
      refine wpAnyIn_done (by kernel_rfl) ?_ _
      have hE := HE.out.2
      simp only [List.length_map] at hE
      refine ⟨hE.1, hE.2.1, ?_, hE.2.2.2⟩
      rw [List.map_append, List.map_cons, List.map_nil, HEE.out]
      exact hE.2.2.1
    · refine wpAnyIn_ready (rs := [0, 2]) (by kernel_rfl) (by simp) (AllReadyIn.cons rfl (fun K hK => ?_) (AllReadyIn.cons rfl (fun K hK => ?_) AllReadyIn.nil)) <;> go_simp
      · refine hK _ _ ?_
        clear hK K
        refine wpAnyIn_ready (rs := [2]) (by kernel_rfl) (by simp) (AllReadyIn.cons rfl (fun K hK => ?_) AllReadyIn.nil)
        go_simp
        refine ⟨trivial, ?_⟩
        refine HCL.out.mono ?_
        rintro e w3 ⟨rfl, hb3⟩
        refine hK _ _ ?_
        clear hK K
        obtain ⟨c1, hlt1⟩ := keep_cell hb3 hlt cR'
        have HSI : Hid (w2.heap.size ≤ (w3.alloc (.cells #[.string ⟨E.toArray⟩] 9)).heap.size) := Lib.hid (by have := hb3.size; simp at this ⊢; omega)
        refine wpAnyIn_ready (rs := [3]) (by kernel_rfl) (by simp) (AllReadyIn.cons rfl (fun K hK => ?_) AllReadyIn.nil)
        go_simp
        refine hK _ _ ?_
        clear hK K
        refine wpAnyIn_ready (rs := [4]) (by kernel_rfl) (by simp) (AllReadyIn.cons rfl (fun K hK => ?_) AllReadyIn.nil)
        refine step_append_in rfl _ _ rfl w2.heap.size v (pre.map fun x => pctL x.1) rfl ((hS.drew.below hb3).alloc _) E w3.heap.size 1 _ _ rfl (heap_alloc_new w3 _) HPL.out HSI.out ?_
        intro g cap w4 hS4 hg4 hg5
        refine hK _ _ ?_
        clear hK K
        have HE := Lib.hid (spl_end w2 W w3 w4 v _ _ _ g cap h4 hR hS hne hB hb3 hg4 hS4 hg5)
        have c3 := HE.out.1.cell
        have f3 := HE.out.1.frozen
        clear hS4 hg4 hg5
        refine wpAnyIn_ready (rs := [5]) (by kernel_rfl) (by simp) (AllReadyIn.cons rfl (fun K hK => ?_) AllReadyIn.nil)
        go_simp
        refine hK _ _ ?_
        clear hK K
        refine wpAnyIn_done (by kernel_rfl) ?_ _
        have hE := HE.out.2
        simp only [List.length_map] at hE
        refine ⟨hE.1, hE.2.1, ?_, hE.2.2.2⟩
        rw [List.map_append, List.map_cons, List.map_nil, HEE.out]
        exact hE.2.2.1
      · refine ⟨trivial, ?_⟩
        refine HCL.out.mono ?_
        rintro e w3 ⟨rfl, hb3⟩
        refine hK _ _ ?_
        clear hK K
        obtain ⟨c1, hlt1⟩ := keep_cell hb3 hlt cR'
        have HSI : Hid (w2.heap.size ≤ (w3.alloc (.cells #[.string ⟨E.toArray⟩] 9)).heap.size) := Lib.hid (by have := hb3.size; simp at this ⊢; omega)
        refine wpAnyIn_ready (rs := [0, 3]) (by kernel_rfl) (by simp) (AllReadyIn.cons rfl (fun K hK => ?_) (AllReadyIn.cons rfl (fun K hK => ?_) AllReadyIn.nil)) <;> go_simp <;> refine hK _ _ ?_ <;> clear hK K
        · refine wpAnyIn_ready (rs := [3]) (by kernel_rfl) (by simp) (AllReadyIn.cons rfl (fun K hK => ?_) AllReadyIn.nil)
          go_simp
          refine hK _ _ ?_
          clear hK K
          refine wpAnyIn_ready (rs := [4]) (by kernel_rfl) (by simp) (AllReadyIn.cons rfl (fun K hK => ?_) AllReadyIn.nil)
          refine step_append_in rfl _ _ rfl w2.heap.size v (pre.map fun x => pctL x.1) rfl ((hS.drew.below hb3).alloc _) E w3.heap.size 1 _ _ rfl (heap_alloc_new w3 _) HPL.out HSI.out ?_
          intro g cap w4 hS4 hg4 hg5
          refine hK _ _ ?_
          clear hK K
          have HE := Lib.hid (spl_end w2 W w3 w4 v _ _ _ g cap h4 hR hS hne hB hb3 hg4 hS4 hg5)
          have c3 := HE.out.1.cell
          have f3 := HE.out.1.frozen
          clear hS4 hg4 hg5
          refine wpAnyIn_ready (rs := [5]) (by kernel_rfl) (by simp) (AllReadyIn.cons rfl (fun K hK => ?_) AllReadyIn.nil)
          go_simp
          refine hK _ _ ?_
          clear hK K
          refine wpAnyIn_done (by kernel_rfl) ?_ _
          have hE := HE.out.2
          simp only [List.length_map] at hE
          refine ⟨hE.1, hE.2.1, ?_, hE.2.2.2⟩
          rw [List.map_append, List.map_cons, List.map_nil, HEE.out]
          exact hE.2.2.1
        · have c2 : (w3.alloc (.cells #[.string ⟨E.toArray⟩] 9)).cell? ⟨w2.heap.size + 1, 0, none⟩ = some v := (keep_cell ((Below.refl _ w3).alloc (Nat.le_refl _) _) hlt1 c1).1
          refine wpAnyIn_ready (rs := [0]) (by kernel_rfl) (by simp) (AllReadyIn.cons rfl (fun K hK => ?_) AllReadyIn.nil)
          go_simp
          refine hK _ _ ?_
          clear hK K
          refine wpAnyIn_ready (rs := [4]) (by kernel_rfl) (by simp) (AllReadyIn.cons rfl (fun K hK => ?_) AllReadyIn.nil)
          refine step_append_in rfl _ _ rfl w2.heap.size v (pre.map fun x => pctL x.1) rfl ((hS.drew.below hb3).alloc _) E w3.heap.size 1 _ _ rfl (heap_alloc_new w3 _) HPL.out HSI.out ?_
          intro g cap w4 hS4 hg4 hg5
          refine hK _ _ ?_
          clear hK K
          have HE := Lib.hid (spl_end w2 W w3 w4 v _ _ _ g cap h4 hR hS hne hB hb3 hg4 hS4 hg5)
          have c3 := HE.out.1.cell
          have f3 := HE.out.1.frozen
          clear hS4 hg4 hg5
          refine wpAnyIn_ready (rs := [5]) (by kernel_rfl) (by simp) (AllReadyIn.cons rfl (fun K hK => ?_) AllReadyIn.nil)
          go_simp
          refine hK _ _ ?_
          clear hK K
          refine wpAnyIn_done (by kernel_rfl) ?_ _
          have hE := HE.out.2
          simp only [List.length_map] at hE
          refine ⟨hE.1, hE.2.1, ?_, hE.2.2.2⟩
          rw [List.map_append, List.map_cons, List.map_nil, HEE.out]
          exact hE.2.2.1
  case done =>
    rintro D ys W hD hys ⟨⟨h4, v, hR, hS, hne⟩, hB⟩ hK
    have hyl : (ys.map fun x => pctL x.1) = (cutL 47 a).map pctL := by
      have : cutL 47 a = ys.map Subtype.val := hys.symm
      rw [this, List.map_map]; rfl
    rw [hyl] at hS
    have cR := hR.cell
    have hLl : (cutL 47 a).length ≤ 61 := by have := cutL_len_le 47 a; omega
    have hpp := pctP_len (ls := cutL 47 a) (fun l hl => by have := cutL_mem_le 47 a l hl; omega) 61
    rw [pctP_all (by omega)] at hpp
    have HJE := Lib.hid (join_pct (cutL 47 a) (cutL_ne 47 a))
    have hjl : (Lib.join ((cutL 47 a).map pctL) [47]).length ≤ 11041 := by have := congrArg List.length HJE.out; simp at this; omega
    have HJ := Lib.hid (joinAll_any W w2.heap.size v ((cutL 47 a).map pctL) [47] hS (by simp; omega) (by omega))
    have HP : Hid (∀ W, Calls Try.prog 78 #[.string ⟨b.toArray⟩] W fun e w' => e = .returned (.string ⟨(pctL b).toArray⟩) ∧ Below W.heap.size W w') := Lib.hid (fun W => implPutPercent_any ⟨b.toArray⟩ W (by show b.toArray.size ≤ _; simp; omega))
    have hbp := pctL_len b
    obtain ⟨J, HJJ⟩ : ∃ J, Hid (Lib.join ((cutL 47 a).map pctL) [47] = J) := ⟨_, Lib.hid rfl⟩
    obtain ⟨E, HEE⟩ : ∃ E, Hid (pctL b = E) := ⟨_, Lib.hid rfl⟩
    rw [HJJ.out] at hjl HJ HJE
    rw [HEE.out] at hbp
    simp only [HEE.out] at HP
    obtain ⟨N1, HN1⟩ : ∃ N, Hid (N = [112, 107, 103, 58] ++ K) := ⟨_, Lib.hid rfl⟩
    obtain ⟨N2, HN2⟩ : ∃ N, Hid (N = N1 ++ [47]) := ⟨_, Lib.hid rfl⟩
    obtain ⟨N3, HN3⟩ : ∃ N, Hid (N = N2 ++ J) := ⟨_, Lib.hid rfl⟩
    obtain ⟨N4, HN4⟩ : ∃ N, Hid (N = N3 ++ [64]) := ⟨_, Lib.hid rfl⟩
    obtain ⟨N5, HN5⟩ : ∃ N, Hid (N = N4 ++ E) := ⟨_, Lib.hid rfl⟩
    have l1 : N1.length ≤ 10 := by rw [HN1.out]; simp; omega
    have l2 : N2.length ≤ 11 := by rw [HN2.out]; simp; omega
    have l3 : N3.length ≤ 11100 := by rw [HN3.out]; simp; omega
    have l4 : N4.length ≤ 11101 := by rw [HN4.out]; simp; omega
    have s1 : ∀ W, (Op.stringOp .add ⟨#[112, 107, 103, 58]⟩ ⟨K.toArray⟩).run Try.prog W = .ok (.string ⟨N1.toArray⟩) W := fun W => by rw [HN1.out]; exact add_lists W [112, 107, 103, 58] K (by simp) (by omega)
    have s2 : ∀ W, (Op.stringOp .add ⟨N1.toArray⟩ ⟨#[47]⟩).run Try.prog W = .ok (.string ⟨N2.toArray⟩) W := fun W => by rw [HN2.out]; exact add_lists W N1 [47] (by omega) (by simp)
    have s3 : ∀ W, (Op.stringOp .add ⟨N2.toArray⟩ ⟨J.toArray⟩).run Try.prog W = .ok (.string ⟨N3.toArray⟩) W := fun W => by rw [HN3.out]; exact add_lists W N2 J (by omega) (by omega)
    have s4 : ∀ W, (Op.stringOp .add ⟨N3.toArray⟩ ⟨#[64]⟩).run Try.prog W = .ok (.string ⟨N4.toArray⟩) W := fun W => by rw [HN4.out]; exact add_lists W N3 [64] (by omega) (by simp)
    have s5 : ∀ W, (Op.stringOp .add ⟨N4.toArray⟩ ⟨E.toArray⟩).run Try.prog W = .ok (.string ⟨N5.toArray⟩) W := fun W => by rw [HN5.out]; exact add_lists W N4 E (by omega) (by omega)
    have HX : Hid (purlT k a b = N5) := Lib.hid (by rw [HR.out, HN5.out, HN4.out, HN3.out, HN2.out, HN1.out, ← HJE.out, HEE.out]; simp)
    have HDD := Lib.hid hD
    clear hyl hS hne hpp hys HR
    gi_wp2_with (refine ⟨trivial, ?_⟩; gi_at_call 53; refine (callsIn_wide.2 HJ.out).mono ?_; rintro e w3 ⟨rfl, hb3⟩)
    gi_wp2_with (refine ⟨trivial, ?_⟩; gi_at_call 78; refine (callsIn_wide.2 (HP.out _)).mono ?_; rintro e w4 ⟨rfl, hb4⟩)
    have hK4 := keepB (keepB hK hb3) hb4
    refine ⟨by simp, .inl ⟨_, _, rfl, run_takeDeferred hK4, ?_⟩⟩
    have hB3 := hB.trans (hb3.mono hB.size)
    have hB4 := hB3.trans (hb4.mono hB3.size)
    refine ⟨_, by simp [results, Try.f35, go_sem]; rfl, by rw [HX.out], ?_⟩
    exact BB.trans ((hB4.trans (belowK_b (w := w2) (Nat.le_refl _) w4 D _ _ (by have := HSZ.out; omega) hK4 rfl rfl)).mono BB.size)
  case stop =>
    rintro D c pre W hD hpre h hK
    exact h.elim
end Go.Proofs.Ytldfkdkppgammaa

/-
  impl.PutPurl at every argument; the walk of the law FnExactPutPurl.
-/
namespace Go.Proofs.Ytldfkdkppgammaa
open Go.RowKit Go.Shelf
attribute [local go_sem] Oper.semAt_some

set_option maxRecDepth 100000 in
set_option maxHeartbeats 4000000 in
theorem putPurl_out (k : Int) (a b : List UInt8) (w : World) (hb : b.length ≤ 1048576) (K : List UInt8) (m v : Bool) (hK : kindL k = K) (hm : specN a = m) (hv : readOk b = v) (hbad : K = [] ∨ (K ≠ [] ∧ m = false) ∨ (K ≠ [] ∧ m = true ∧ v = false)) :
    CallsIn Fence.wide 4 Try.prog 35 #[.int .i64 k, .string ⟨a.toArray⟩, .string ⟨b.toArray⟩] w fun e W' => e = .returned (.string ⟨#[]⟩) ∧ Below w.heap.size w W' := by
  have HV : Hid (Calls Try.prog 75 #[.string ⟨b.toArray⟩] w (ReadIs w b)) := Lib.hid (implReadVersion_any ⟨b.toArray⟩ w (by show b.toArray.size ≤ _; simp; omega))
  have HN : Hid (∀ W, Calls Try.prog 76 #[.string ⟨a.toArray⟩] W fun e w' => e = .returned (.bool (specN a)) ∧ Below W.heap.size W w') := Lib.hid (fun W => implNameOk_any ⟨a.toArray⟩ W)
  have HK := Lib.hid (fun W => implKindName_any k W)
  have HVV := Lib.hid hv
  simp only [hm] at HN
  simp only [hK] at HK
  clear hK hm hv
  refine callsIn_of_wp_marks Try.func35 rfl trivial ?_ rfl
  simp only [Try.ntmps35, List.size_toArray, List.length_cons, List.length_nil, Nat.reduceAdd, Nat.reduceSub, Array.replicate_succ, Array.replicate_zero, List.push_toArray, List.append_toArray, List.nil_append, List.cons_append]
  rcases hbad with rfl | ⟨hk, rfl⟩ | ⟨hk, rfl, rfl⟩
  · gi_wp2_with (refine ⟨trivial, ?_⟩; gi_at_call 12; refine (callsIn_wide.2 (HK.out _)).mono ?_; rintro e w0 ⟨rfl, rfl⟩)
    gi_wp2_with (refine ⟨trivial, ?_⟩; gi_at_call 75; refine (callsIn_wide.2 HV.out).mono ?_; rintro e w1 ⟨u, rfl, hu, hb1⟩; obtain ⟨A, c, rfl⟩ := hu.slice)
    refine ⟨trivial, ?_⟩
    gi_wp2
    refine ⟨.string ⟨#[]⟩, ?_, rfl, hb1.alloc hb1.size _⟩
    simp [results, Try.f35, go_sem]
  · obtain ⟨e1, e2⟩ := str_beq_nil hk
    clear hk
    gi_wp2_with (refine ⟨trivial, ?_⟩; gi_at_call 12; refine (callsIn_wide.2 (HK.out _)).mono ?_; rintro e w0 ⟨rfl, rfl⟩)
    gi_wp2_with (refine ⟨trivial, ?_⟩; gi_at_call 75; refine (callsIn_wide.2 HV.out).mono ?_; rintro e w1 ⟨u, rfl, hu, hb1⟩; obtain ⟨A, c, rfl⟩ := hu.slice)
    gi_wp2_with (refine ⟨trivial, ?_⟩; gi_at_call 76; refine (callsIn_wide.2 (HN.out _)).mono ?_; rintro e w2 ⟨rfl, hb2⟩)
    have BA := hb1.alloc hb1.size (.cells #[.int .i64 (readA b 0), .int .i64 (readA b 1), .int .i64 (readA b 2), .slice A (readP b).length c] 47)
    refine ⟨.string ⟨#[]⟩, ?_, rfl, BA.trans (hb2.mono BA.size)⟩
    simp [results, Try.f35, go_sem]
  · obtain ⟨e1, e2⟩ := str_beq_nil hk
    clear hk
    gi_wp2_with (refine ⟨trivial, ?_⟩; gi_at_call 12; refine (callsIn_wide.2 (HK.out _)).mono ?_; rintro e w0 ⟨rfl, rfl⟩)
    gi_wp2_with (refine ⟨trivial, ?_⟩; gi_at_call 75; refine (callsIn_wide.2 HV.out).mono ?_; rintro e w1 ⟨u, rfl, hu, hb1⟩; obtain ⟨A, c, rfl⟩ := hu.slice; rw [HVV.out])
    gi_wp2_with (refine ⟨trivial, ?_⟩; gi_at_call 76; refine (callsIn_wide.2 (HN.out _)).mono ?_; rintro e w2 ⟨rfl, hb2⟩)
    have BA := hb1.alloc hb1.size (.cells #[.int .i64 (readA b 0), .int .i64 (readA b 1), .int .i64 (readA b 2), .slice A (readP b).length c] 47)
    refine ⟨.string ⟨#[]⟩, ?_, rfl, BA.trans (hb2.mono BA.size)⟩
    simp [results, Try.f35, go_sem]

theorem implPutPurl_any (k : Int) (a b : List UInt8) (w : World) (hb : b.length ≤ 1048576) :
    Calls Try.prog 35 #[.int .i64 k, .string ⟨a.toArray⟩, .string ⟨b.toArray⟩] w fun e w' => e = .returned (.string ⟨(purlL k a b).toArray⟩) ∧ Below w.heap.size w w' := by
  refine (callsIn_wide (n := 4)).1 ?_
  by_cases hk : kindL k = []
  · rw [purl_kind a b hk]; exact putPurl_out k a b w hb _ _ _ hk rfl rfl (.inl rfl)
  · cases hm : specN a with
    | false => rw [purl_name k b hm]; exact putPurl_out k a b w hb _ _ _ rfl hm rfl (.inr (.inl ⟨hk, rfl⟩))
    | true =>
      cases hv : readOk b with
      | false => rw [purl_ver k a hv]; exact putPurl_out k a b w hb _ _ _ rfl hm hv (.inr (.inr ⟨hk, rfl, rfl⟩))
      | true => rw [purl_yes hk hm hv]; exact putPurl_in 4 (by omega) k a b w (specN_60 hm) hb hk hm hv

set_option maxRecDepth 100000 in
set_option maxHeartbeats 1000000 in
theorem exPutPurl (k : Int) (s t : ByteArray) (w : World) (_ : (Lit.int .i64 k).wf = true) (hs : s.size ≤ maxLen) (ht : t.size ≤ maxLen) :
    Calls Try.prog 9 #[.int .i64 k, .string s, .string t] w fun e w' => e = .returned (.bool true) ∧ Below w.heap.size w w' := by
  unfold maxLen at hs ht
  by_cases hbig : 1048576 < s.size
  · go_enter Try.func9, Try.ntmps9
    go_wp2_with fail
    go_ret
    exact ⟨rfl, Below.refl _ _⟩
  by_cases hbig2 : 1048576 < t.size
  · go_enter Try.func9, Try.ntmps9
    go_wp2_with fail
    go_ret
    exact ⟨rfl, Below.refl _ _⟩
  have e1 : (⟨s.data.toList.toArray⟩ : ByteArray) = s := bytes_ext (by simp)
  have e2 : (⟨t.data.toList.toArray⟩ : ByteArray) = t := bytes_ext (by simp)
  have h1 := specPutPurl_any k s.data.toList t.data.toList w (by simp; omega) (by simp; omega)
  have h2 := fun W => implPutPurl_any k s.data.toList t.data.toList W (by simp; omega)
  rw [e1, e2] at h1
  simp only [e1, e2] at h2
  obtain ⟨x, HX⟩ : ∃ x, Hid (purlL k s.data.toList t.data.toList = x) := ⟨_, Lib.hid rfl⟩
  rw [HX.out] at h1
  simp only [HX.out] at h2
  have H1 := Lib.hid h1
  have H2 := Lib.hid h2
  clear h1 h2 e1 e2
  go_enter Try.func9, Try.ntmps9
  go_wp2_with fail
  refine H1.out.mono ?_
  rintro e w1 ⟨rfl, hb1⟩
  go_wp2_with fail
  refine (H2.out _).mono ?_
  rintro e w2 ⟨rfl, hb2⟩
  go_wp2_with fail
  go_ret
  exact ⟨rfl, hb1.trans (hb2.mono hb1.size)⟩
end Go.Proofs.Ytldfkdkppgammaa

/-
  impl.GetPurl; the walk of the law FnExactGetPurl.
-/
namespace Go.Proofs.Ytldfkdkppgammaa
open Go.RowKit

theorem name_any (q : Nat) (T : TypeId) (l : List UInt8) (m : Int) (w : World) (hl : l.length ≤ 1048576) (hq : w.heap[q]? = some (.cells #[.string ⟨l.toArray⟩] T)) (hm : w.cell? ⟨0, 0, none⟩ = some (.int .i64 m)) :
    Calls Try.prog 82 #[.pointer (some ⟨q, 0, none⟩)] w fun e W' => e = .returned (.string ⟨(nameP (cutL 47 (cutA 64 l))).toArray⟩) ∧ W'.heap[q]? = some (.cells #[.string ⟨(cutB 64 l).toArray⟩] T) ∧ w.grownBy W' (some q) :=
  (callsIn_wide (n := 4)).1 (name_in 4 (by omega) q T l m w hl hq hm)
theorem far_all {w w' : World} {q G : Nat} {T : TypeId} {l : List UInt8} {m : Int} (hg : w.grownBy w' (some q)) (hq : w.heap[q]? = some (.cells #[.string ⟨l.toArray⟩] T)) (hm : w.cell? ⟨G, 0, none⟩ = some (.int .i64 m)) : w'.cell? ⟨G, 0, none⟩ = some (.int .i64 m) :=
  hg.cell hm (fun e => far_text hq hm (by cases e; rfl))

set_option maxRecDepth 100000 in
set_option maxHeartbeats 2000000 in
theorem implGetPurl_any (l : List UInt8) (m : Int) (w : World) (hl : l.length ≤ 1048576) (hm : w.cell? ⟨0, 0, none⟩ = some (.int .i64 m)) :
    Calls Try.prog 37 #[.string ⟨l.toArray⟩] w fun e w' => e = .returned (trpV (getI l (Lib.cut l pkgL).2.1)) ∧ Below w.heap.size w w' := by
  have B0 : Below w.heap.size w (w.alloc (.cells #[.string ⟨l.toArray⟩] 95)) := (Below.refl _ _).alloc (Nat.le_refl _) _
  have hq0 := heap_alloc_new w (.cells #[.string ⟨l.toArray⟩] 95)
  have hm0 := keepC B0 hm
  have HK := Lib.hid (kind_any w.heap.size 95 l m _ hl hq0 hm0)
  have hRl := cut_le l pkgL
  obtain ⟨R, HR⟩ : ∃ R, Hid ((Lib.cut l pkgL).2.1 = R) := ⟨_, Lib.hid rfl⟩
  rw [HR.out] at hRl HK
  rw [HR.out]
  have c1 := cut_len 47 R
  have c2 := cut_len 64 (cutB 47 R)
  have HX : Hid (getI l R = if l = [] ∨ ¬ purlL (kindOfI (cutA 47 R)) (nameP (cutL 47 (cutA 64 (cutB 47 R)))) (decP (cutB 64 (cutB 47 R))) = l then noTrp else (kindOfI (cutA 47 R), nameP (cutL 47 (cutA 64 (cutB 47 R))), decP (cutB 64 (cutB 47 R)))) := Lib.hid rfl
  have hnl : (nameP (cutL 47 (cutA 64 (cutB 47 R)))).length ≤ 1048577 := by
    have a1 := join_jl 47 ((cutL 47 (cutA 64 (cutB 47 R))).map decP)
    have a2 := jl_map decP pctS_le (cutL 47 (cutA 64 (cutB 47 R)))
    have a3 := jl_cutL 47 (cutA 64 (cutB 47 R))
    show (Lib.join ((cutL 47 (cutA 64 (cutB 47 R))).map decP) [47]).length ≤ _
    omega
  have hvl : (decP (cutB 64 (cutB 47 R))).length ≤ 1048576 := by have := pctS_le (cutB 64 (cutB 47 R)); show ((pctS (cutB 64 (cutB 47 R))).getD []).length ≤ _; omega
  have HN0 := Lib.hid (fun (W : World) (h1 : W.heap[w.heap.size]? = some (.cells #[.string ⟨(cutB 47 R).toArray⟩] 95)) (h2 : W.cell? ⟨0, 0, none⟩ = some (.int .i64 m)) => name_any w.heap.size 95 (cutB 47 R) m W (by omega) h1 h2)
  have HV0 := Lib.hid (fun (W : World) (h1 : W.heap[w.heap.size]? = some (.cells #[.string ⟨(cutB 64 (cutB 47 R)).toArray⟩] 95)) => version_any w.heap.size 95 (cutB 64 (cutB 47 R)) W (by omega) h1)
  obtain ⟨z, HZ⟩ : ∃ z, Hid (kindOfI (cutA 47 R) = z) := ⟨_, Lib.hid rfl⟩
  obtain ⟨nm, HNM⟩ : ∃ x, Hid (nameP (cutL 47 (cutA 64 (cutB 47 R))) = x) := ⟨_, Lib.hid rfl⟩
  obtain ⟨vr, HVR⟩ : ∃ x, Hid (decP (cutB 64 (cutB 47 R)) = x) := ⟨_, Lib.hid rfl⟩
  obtain ⟨r2, HR2⟩ : ∃ x, Hid (cutB 47 R = x) := ⟨_, Lib.hid rfl⟩
  obtain ⟨r3, HR3⟩ : ∃ x, Hid (cutB 64 (cutB 47 R) = x) := ⟨_, Lib.hid rfl⟩
  rw [HZ.out, HNM.out, HVR.out] at HX
  rw [HNM.out] at hnl
  rw [HVR.out] at hvl
  simp only [HNM.out] at HN0
  simp only [HR3.out] at HN0
  simp only [HVR.out] at HV0
  simp only [HR3.out] at HV0
  simp only [HR2.out] at HN0
  rw [HZ.out, HR2.out] at HK
  have HP := Lib.hid (fun W => implPutPurl_any z nm vr W hvl)
  clear c1 c2
  obtain ⟨res, HRES⟩ : ∃ x, Hid (getI l R = x) := ⟨_, Lib.hid rfl⟩
  rw [HRES.out] at HX
  rw [HRES.out]
  by_cases h0 : l = []
  · have HY : Hid (res = noTrp) := Lib.hid (by rw [HX.out, if_pos (.inl h0)])
    subst h0
    go_enter Try.func37, Try.ntmps37
    go_wp2_with fail
    refine HK.out.mono ?_
    rintro e w1 ⟨rfl, hu1⟩
    have hm1 := far_all hu1.2.1 hq0 hm0
    have B1 := B0.grown hu1.2.1 (by simp) (fun j h => by cases h; exact Nat.le_refl _)
    have hq1 := hu1.1
    have hs1 : w.heap.size ≤ w1.heap.size := B1.size
    clear hu1 hq0 hm0 B0 HK
    go_wp2_with fail
    refine (HN0.out _ hq1 hm1).mono ?_
    rintro e w2 ⟨rfl, hq2, hg2⟩
    have B2 := B1.grown hg2 hs1 (fun j h => by cases h; exact Nat.le_refl _)
    clear hg2 B1 hq1 hm1
    go_wp2_with fail
    refine (HV0.out _ hq2).mono ?_
    rintro e w3 ⟨rfl, hb3⟩
    have B3 := B2.trans (hb3.mono B2.size)
    go_wp2_with fail
    go_ret3
    exact ⟨by rw [HY.out]; rfl, B3⟩
  · obtain ⟨e1, e2⟩ := str_beq_nil h0
    by_cases he : purlL z nm vr = l
    · have HY : Hid (res = (z, nm, vr)) := Lib.hid (by rw [HX.out, if_neg (by intro h; rcases h with h | h; exact h0 h; exact h he)])
      have q : (purlL z nm vr == l) = true := by simpa using he
      obtain ⟨x, HXX⟩ : ∃ x, Hid (purlL z nm vr = x) := ⟨_, Lib.hid rfl⟩
      simp only [HXX.out] at HP
      rw [HXX.out] at q
      clear he h0
      go_enter Try.func37, Try.ntmps37
      go_wp2_with fail
      refine HK.out.mono ?_
      rintro e w1 ⟨rfl, hu1⟩
      have hm1 := far_all hu1.2.1 hq0 hm0
      have B1 := B0.grown hu1.2.1 (by simp) (fun j h => by cases h; exact Nat.le_refl _)
      have hq1 := hu1.1
      have hs1 : w.heap.size ≤ w1.heap.size := B1.size
      clear hu1 hq0 hm0 B0 HK
      go_wp2_with fail
      refine (HN0.out _ hq1 hm1).mono ?_
      rintro e w2 ⟨rfl, hq2, hg2⟩
      have B2 := B1.grown hg2 hs1 (fun j h => by cases h; exact Nat.le_refl _)
      clear hg2 B1 hq1 hm1
      go_wp2_with fail
      refine (HV0.out _ hq2).mono ?_
      rintro e w3 ⟨rfl, hb3⟩
      have B3 := B2.trans (hb3.mono B2.size)
      clear B2 hb3 hq2
      go_wp2_with fail
      refine (HP.out _).mono ?_
      rintro e w4 ⟨rfl, hb4⟩
      go_wp2_with fail
      go_ret3
      exact ⟨by rw [HY.out]; rfl, B3.trans (hb4.mono B3.size)⟩
    · have HY : Hid (res = noTrp) := Lib.hid (by rw [HX.out, if_pos (.inr he)])
      have q : (purlL z nm vr == l) = false := by simpa using he
      obtain ⟨x, HXX⟩ : ∃ x, Hid (purlL z nm vr = x) := ⟨_, Lib.hid rfl⟩
      simp only [HXX.out] at HP
      rw [HXX.out] at q
      clear he h0
      go_enter Try.func37, Try.ntmps37
      go_wp2_with fail
      refine HK.out.mono ?_
      rintro e w1 ⟨rfl, hu1⟩
      have hm1 := far_all hu1.2.1 hq0 hm0
      have B1 := B0.grown hu1.2.1 (by simp) (fun j h => by cases h; exact Nat.le_refl _)
      have hq1 := hu1.1
      have hs1 : w.heap.size ≤ w1.heap.size := B1.size
      clear hu1 hq0 hm0 B0 HK
      go_wp2_with fail
      refine (HN0.out _ hq1 hm1).mono ?_
      rintro e w2 ⟨rfl, hq2, hg2⟩
      have B2 := B1.grown hg2 hs1 (fun j h => by cases h; exact Nat.le_refl _)
      clear hg2 B1 hq1 hm1
      go_wp2_with fail
      refine (HV0.out _ hq2).mono ?_
      rintro e w3 ⟨rfl, hb3⟩
      have B3 := B2.trans (hb3.mono B2.size)
      clear B2 hb3 hq2
      go_wp2_with fail
      refine (HP.out _).mono ?_
      rintro e w4 ⟨rfl, hb4⟩
      go_wp2_with fail
      go_ret3
      exact ⟨by rw [HY.out]; rfl, B3.trans (hb4.mono B3.size)⟩

set_option maxRecDepth 100000 in
set_option maxHeartbeats 1000000 in
theorem exGetPurl (s : ByteArray) (w : World) (hs : s.size ≤ maxLen) (m : Int) (hm : w.cell? ⟨0, 0, none⟩ = some (.int .i64 m)) :
    Calls Try.prog 10 #[.string s] w fun e w' => e = .returned (.bool true) ∧ Below w.heap.size w w' := by
  unfold maxLen at hs
  by_cases hbig : 1048576 < s.size
  · go_enter Try.func10, Try.ntmps10
    go_wp2_with fail
    go_ret
    exact ⟨rfl, Below.refl _ _⟩
  · have h1 := specGetPurl_any s w (by omega)
    have hc := fun (W : World) (h : Below w.heap.size w W) => implGetPurl_any s.data.toList m W (by simp; omega) (keepC h hm)
    have e : (⟨s.data.toList.toArray⟩ : ByteArray) = s := bytes_ext (by simp)
    rw [e] at hc
    rw [← get_same (key_form s) rfl] at h1
    obtain ⟨⟨z, x, y⟩, HX⟩ : ∃ t, Hid (getI s.data.toList (Lib.cut s.data.toList pkgL).2.1 = t) := ⟨_, Lib.hid rfl⟩
    rw [HX.out] at h1
    simp only [HX.out] at hc
    unfold trpV at h1 hc
    simp only at h1 hc
    have H1 := Lib.hid h1
    have H2 := Lib.hid hc
    have q0 : (z != z) = false := int_bne_false rfl
    clear h1 hc e hm
    go_enter Try.func10, Try.ntmps10
    go_wp2_with fail
    refine H1.out.mono ?_
    rintro e w1 ⟨rfl, hb1⟩
    go_wp2_with fail
    refine (H2.out _ hb1).mono ?_
    rintro e w2 ⟨rfl, hb2⟩
    go_wp2_with fail
    go_ret
    exact ⟨rfl, hb1.trans (hb2.mono hb1.size)⟩
end Go.Proofs.Ytldfkdkppgammaa

namespace Go.Proofs.Ytldfkdkppgammaa.fnExactGetPurl
open Go.ChangeShapes Go.WideShapes Go.ChangeAt Go.RowKit
open Go.ChangeMaps (open_string shut_string)
set_option linter.unusedVariables false

theorem own : ownKnob Try.prog.godebug = none := by kernel_rfl
theorem laidOut : laidOutB Try.prog = true := by kernel_rfl

set_option maxRecDepth 100000 in
theorem lifted (os : Os) (started : os.Started) (H : Type) (enc : TypeId × Value → H) :
    ReturnsInHanded {} Try.checked os 10 .any (Rows.fnExactGetPurlSpec.pre6 enc Try.prog Try.f10 Rows.fnExactGetPurlRow.domain false) (Rows.fnExactGetPurlSpec.post enc Try.prog Try.f10 false true false false) := by
  refine returnsInHanded_of_change_shaped (C := Try.checked) own started (by kernel_rfl) Try.func10
    (ChangeSpec.witness6 (enc := enc) (C := Try.checked) false ⟨#[], #[.string ByteArray.empty], []⟩ 8 (by kernel_rfl) (by kernel_rfl) (by kernel_rfl) (by kernel_rfl)) ?_
  intro W base args ds gs before hval0 hW hcnd _ hsh _
  obtain ⟨m, hm0⟩ := Try.laysCut.s1_3 W hsh
  have hm : W.cell? ⟨0, 0, none⟩ = some (.int .i64 m) := hm0
  have hval : ∀ (j : Nat) t v, Try.f10.params[j]? = some t → args[j]? = some v → Value.okWide Try.prog W .any base t v := hval0
  have hW' := hW
  obtain ⟨p, q, hA0, hV, rfl, hfz, hnd⟩ := hW
  have hA : DataW.TrodAll enc Try.prog W 0 (fun _ => true) true Try.f10.params.toList args.toList ds p := hA0
  rw [Try.params10] at hA hval
  obtain ⟨v0, vs0, d0, ds0, mp0, mq0, hargs, rfl, rfl, h0, r0⟩ := trodAll_cons hA
  obtain ⟨rfl, rfl, rfl⟩ := trodAll_nil r0
  obtain rfl : args = #[v0] := by cases args; simp_all
  obtain ⟨rfl, rfl⟩ := trodVars_none hV
  obtain ⟨a0, rfl, rfl, rfl, w0⟩ := open_string Try.underlying9 (hval 0 9 v0 rfl rfl) h0
  clear hA0 hval0
  refine (exGetPurl a0 W w0 m hm).mono fun e W' ⟨he, bel⟩ => ?_
  subst he
  exact ⟨_, rfl, _, _, _, [], _, [], hW', trodAll_mk1 (shut_bool Try.underlying4 _), (trodAll_cons_mk (shut_string Try.underlying9 w0) trodAll_mk0), rfl, bel.frame _, fun h => by cases h⟩

theorem over : Rows.fnExactGetPurlRow.holds Try.pinned (OpenSpec.ofChange Rows.fnExactGetPurlSpec) :=
  OpenClaim.holds_of_wide 10 Try.f10 rfl rfl rfl rfl rfl rfl rfl ⟨rfl, rfl, rfl, rfl, rfl⟩ rfl rfl rfl rfl rfl (by kernel_rfl) Try.func10 (by kernel_rfl)
    (of_decide_eq_true (by kernel_rfl)) (by unfold Func.isWrapper; first | (rw [if_pos (by decide +kernel)]; kernel_rfl) | (rw [if_neg (by decide +kernel)]; exact ⟨rfl, rfl⟩))
    (fun os started H enc _ => lifted os started H enc)

end Go.Proofs.Ytldfkdkppgammaa.fnExactGetPurl

namespace Go.Proofs.Ytldfkdkppgammaa
theorem fnExactGetPurl_proved : Rows.FnExactGetPurlSaid := fnExactGetPurl.over
#print axioms fnExactGetPurl_proved
end Go.Proofs.Ytldfkdkppgammaa
