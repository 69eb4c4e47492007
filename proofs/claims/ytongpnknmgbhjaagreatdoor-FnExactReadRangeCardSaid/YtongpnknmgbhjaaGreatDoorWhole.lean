/-
  At every argument the law FnExactReadRange returns true and leaves its arguments as they were, the five listed tables lying as the program's text lays them (the tie is given). No other condition.
-/
import Derived.Test.YtongpnknmgbhjaaGreatDoorRdB
import Derived.Test.YtongpnknmgbhjaaGreatDoorHeap
import Derived.Deep.RegionHeld3
import Derived.Laws.DeepStrings4
import Derived.Test.YtongpnknmgbhjaaGreatDoorWholeB
import Derived.Test.YtongpnknmgbhjaaGreatDoorCmpM
import Derived.Laws.Cover1
import Derived.Test.YtongpnknmgbhjaaGreatDoorLawB
import Derived.LoopN
import Derived.StillTailTactics
import Derived.Deep.QuietTactic
import Derived.BigQuiet
import Derived.Test.YtongpnknmgbhjaaGreatDoorRdIs
import Derived.Test.YtongpnknmgbhjaaGreatDoorTextS
import Derived.Test.YtongpnknmgbhjaaGreatDoorExM
import Derived.Test.YtongpnknmgbhjaaGreatDoorNextS
import Derived.Test.YtongpnknmgbhjaaGreatDoorRrM
import Derived.Test.YtongpnknmgbhjaaGreatDoorCharN
import Derived.Test.YtongpnknmgbhjaaGreatDoorCut
import Derived.Deep.RegionWith
import Derived.Test.YtongpnknmgbhjaaGreatDoorRows
import Derived.Test.YtongpnknmgbhjaaGreatDoorBase
import Derived.Laws.OwnMore
import Derived.Laws.IdiomStrings
import Derived.Maps.AppendAt
import Derived.Laws.BitsAllLaws
import Derived.Deep.RegionLaw
import Derived.Deep.AppendLies
import Derived.Laws.BitsLemmas
import Derived.Lib.AppendStr
import Derived.Test.YtongpnknmgbhjaaGreatDoorCutM
import Derived.Lib.IndexMore
import Derived.Test.YtongpnknmgbhjaaGreatDoorRdL
import Derived.Test.YtongpnknmgbhjaaGreatDoorDecM
import Derived.Test.YtongpnknmgbhjaaGreatDoorTie
import Derived.Test.YtongpnknmgbhjaaGreatDoorCards
import Derived.WalkKit
import Derived.ProofKit
import Derived.OpenShut
import Derived.ShutString
import Derived.ChangeOld
import Derived.Below
import Derived.ChangeVars
import Derived.LaidLaws
import Derived.MakeChecks
import Derived.Stop.LaidErr
import Derived.SevenTiedAt
import Derived.Carry
import Derived.Test.YtongpnknmgbhjaaGreatDoorAndSh
/-
  The algorithms of sums in plain words.
-/
namespace Go.Proofs.YtongpnknmgbhjaaGreatDoor

def sha1L : List UInt8 := [115, 104, 97, 49]
def sha256L : List UInt8 := [115, 104, 97, 50, 53, 54]
def sha512L : List UInt8 := [115, 104, 97, 53, 49, 50]
def h1L : List UInt8 := [104, 49]
/-- A sum that an integrity text tells. -/
def algOk (a : List UInt8) : Bool := a == sha1L || a == sha256L || a == sha512L
/-- How many bytes a sum has, or -1. -/
def longI (a : List UInt8) : Int := if a = sha1L then 20 else if a = sha256L then 32 else if a = h1L then 32 else if a = sha512L then 64 else -1
end Go.Proofs.YtongpnknmgbhjaaGreatDoor

/-
  spec.l04Long: how many bytes a sum of an algorithm has; texts put together.
-/
namespace Go.Proofs.YtongpnknmgbhjaaGreatDoor
open Go.RowKit

/-- Two texts put together. -/
theorem add_lists (W : World) (x y : List UInt8) (hx : x.length ≤ 1073741824) (hy : y.length ≤ 1073741824) : (Op.stringOp .add ⟨x.toArray⟩ ⟨y.toArray⟩).run Tryz.prog W = .ok (.string ⟨(x ++ y).toArray⟩) W := by
  rw [run_string_add_sum W _ _ (by simp [ByteArray.size]; omega), ByteArray.mk_append_mk]
set_option maxRecDepth 100000 in
theorem l04Long_any (a : List UInt8) (w : World) : Calls Tryz.prog 145 #[.string ⟨a.toArray⟩] w fun e w' => e = .returned (.int .i64 (longI a)) ∧ w = w' := by
  by_cases h1 : a = sha1L
  · subst h1
    go_enter Tryz.func145, Tryz.ntmps145
    go_wp2
    go_ret
    exact ⟨rfl, rfl⟩
  · by_cases h2 : a = sha256L
    · subst h2
      go_enter Tryz.func145, Tryz.ntmps145
      go_wp2
      go_ret
      exact ⟨rfl, rfl⟩
    · by_cases h0 : a = h1L
      · subst h0
        go_enter Tryz.func145, Tryz.ntmps145
        go_wp2
        go_ret
        exact ⟨rfl, rfl⟩
      · by_cases h3 : a = sha512L
        · subst h3
          go_enter Tryz.func145, Tryz.ntmps145
          go_wp2
          go_ret
          exact ⟨rfl, rfl⟩
        · have HX : Hid (longI a = -1) := Lib.hid (by unfold longI; rw [if_neg h1, if_neg h2, if_neg h0, if_neg h3])
          have q1 : (a == [115, 104, 97, 49]) = false := by simpa [sha1L] using h1
          have q2 : (a == [115, 104, 97, 50, 53, 54]) = false := by simpa [sha256L] using h2
          have q3 : (a == [104, 49]) = false := by simpa [h1L] using h0
          have q4 : (a == [115, 104, 97, 53, 49, 50]) = false := by simpa [sha512L] using h3
          clear h1 h2 h0 h3
          go_enter Tryz.func145, Tryz.ntmps145
          go_wp2
          go_ret
          exact ⟨ret_int HX.out.symm, rfl⟩

theorem RdB.at {w : World} {A : Option Addr} {n cap : Nat} {bs : List Bd} (h : RdB w (.slice A n cap) bs) (k : Nat) (hk : k < bs.length) : ∃ g off, A = some ⟨g, off, none⟩ ∧ g < w.heap.size ∧ w.cell? ⟨g, off + k * 2, none⟩ = some (.string ⟨bs[k].1.toArray⟩) ∧ w.cell? ⟨g, off + k * 2 + 1, none⟩ = some (.string ⟨bs[k].2.toArray⟩) := by
  obtain ⟨A', ca', hv, ha⟩ := h
  simp only [Value.slice.injEq] at hv
  obtain ⟨rfl, _, rfl⟩ := hv
  obtain ⟨g, off, hA, hg, hc⟩ := ha (by omega)
  exact ⟨g, off, hA, hg, (hc k hk).1, (hc k hk).2⟩
theorem keep2 {W V : World} {A B o p : Nat} {v u : Value} (hb : Below W.heap.size W V) (h : W.cell? ⟨A, o, none⟩ = some v ∧ W.cell? ⟨B, p, none⟩ = some u) : V.cell? ⟨A, o, none⟩ = some v ∧ V.cell? ⟨B, p, none⟩ = some u := ⟨keepC hb h.1, keepC hb h.2⟩

end Go.Proofs.YtongpnknmgbhjaaGreatDoor

/-
  impl.readPartial, impl.readLimit, impl.readLimits.
-/
namespace Go.Proofs.YtongpnknmgbhjaaGreatDoor
open Go.RowKit

theorem one_cell {V : World} {B : Nat} {T : TypeId} {v0 : Value} (h : V.heap[B]? = some (.cells #[v0] T)) : V.cell? ⟨B, 0, none⟩ = some v0 := by simp [World.cell?, h]
set_option maxRecDepth 100000 in
set_option maxHeartbeats 4000000 in
theorem readPartial_0 (l : List UInt8) (w : World) (hl : l.length ≤ 1048000) (ht : Tab w) (hc : l.count 46 = 0) :
    Calls Tryz.prog 112 #[.string ⟨l.toArray⟩] w (AltIs w (fromOk (l ++ [46, 48, 46, 48]) 0) (fromB (l ++ [46, 48, 46, 48]) 0)) := by
  have HC := Lib.hid (fun W => count_any ⟨l.toArray⟩ 46 W)
  have hcc : ((⟨l.toArray⟩ : ByteArray).data.toList.count 46 : Nat) = 0 := hc
  simp only [hcc] at HC
  have hrep : (Lib.repeatL (⟨#[46, 48]⟩ : ByteArray).data.toList 2) = [46, 48, 46, 48] := by decide
  have HN := Lib.hid (fun W => repeat_any ⟨#[46, 48]⟩ 2 W (by omega) (by decide))
  simp only [hrep] at HN
  have s1 : ∀ W, (Op.stringOp .add ⟨l.toArray⟩ ⟨([46, 48, 46, 48] : List UInt8).toArray⟩).run Tryz.prog W = .ok (.string ⟨(l ++ [46, 48, 46, 48]).toArray⟩) W := fun W => add_lists W l [46, 48, 46, 48] (by omega) (by simp)
  have hll : (l ++ [46, 48, 46, 48]).length ≤ 1048576 := by simp; omega
  have B0 : Below w.heap.size w (w.alloc (.cells #[.string ⟨#[]⟩, .string ⟨#[]⟩] 73)) := (Below.refl _ _).alloc (Nat.le_refl _) _
  have B1 := B0.alloc B0.size (.cells #[.int .i64 0] 3)
  have r1 := keepA (heap_alloc_new w (.cells #[.string ⟨#[]⟩, .string ⟨#[]⟩] 73)) (.cells #[.int .i64 0] 3)
  have q1 := heap_new (W := w.alloc (.cells #[.string ⟨#[]⟩, .string ⟨#[]⟩] 73)) (n := w.heap.size + 1) (by simp) (.cells #[.int .i64 0] 3)
  have HF := Lib.hid (fun (W : World) (h : Below w.heap.size w W) (hQ : W.cell? ⟨w.heap.size + 1, 0, none⟩ = some (.int .i64 0)) => rfPartial_any (l ++ [46, 48, 46, 48]) 0 (w.heap.size + 1) W hll (tab_below ht h) (by decide) hQ)
  generalize fromOk (l ++ [46, 48, 46, 48]) 0 = q at HF ⊢
  generalize fromB (l ++ [46, 48, 46, 48]) 0 = fb at HF ⊢
  generalize l ++ [46, 48, 46, 48] = L at HF s1 hll
  clear hc hcc hll ht hl
  go_enter Tryz.func112, Tryz.ntmps112
  go_wp2_with fail
  refine (HC.out _).mono ?_
  rintro e w2 ⟨rfl, hw2⟩
  subst hw2
  go_wp2_with fail
  refine (HN.out _).mono ?_
  rintro e w3 ⟨rfl, hb3⟩
  have B3 := B1.trans (hb3.mono B1.size)
  have r3 := keepB r1 hb3
  have q3 := keepB q1 hb3
  clear hb3 r1 q1 B1 B0
  go_wp2_with fail
  refine (HF.out _ B3 (one_cell q3)).mono ?_
  rintro e w5 ⟨x, y, rfl, hxy, hb5⟩
  have B5 := B3.trans (hb5.mono B3.size)
  obtain ⟨c0, c1⟩ := two_cells (keepB r3 hb5)
  have f0 := frozen2 (keepB r3 hb5) 0
  have f1 := frozen2 (keepB r3 hb5) 1
  go_wp2_with fail
  refine bodyPost_ret (v := .tuple #[.agg #[.string x, .string y], .bool q]) ?_ rfl ⟨_, _, rfl, hxy, ?_⟩
  · simp [results, Tryz.results112, go_sem, c0, c1]
  · exact below_res2 B5 (Nat.le_refl _) _ _

set_option maxRecDepth 100000 in
set_option maxHeartbeats 4000000 in
theorem readPartial_1 (l : List UInt8) (w : World) (hl : l.length ≤ 1048000) (ht : Tab w) (hc : l.count 46 = 1) :
    Calls Tryz.prog 112 #[.string ⟨l.toArray⟩] w (AltIs w (fromOk (l ++ [46, 48]) 1) (fromB (l ++ [46, 48]) 1)) := by
  have HC := Lib.hid (fun W => count_any ⟨l.toArray⟩ 46 W)
  have hcc : ((⟨l.toArray⟩ : ByteArray).data.toList.count 46 : Nat) = 1 := hc
  simp only [hcc] at HC
  have hrep : (Lib.repeatL (⟨#[46, 48]⟩ : ByteArray).data.toList 1) = [46, 48] := by decide
  have HN := Lib.hid (fun W => repeat_any ⟨#[46, 48]⟩ 1 W (by omega) (by decide))
  simp only [hrep] at HN
  have s1 : ∀ W, (Op.stringOp .add ⟨l.toArray⟩ ⟨([46, 48] : List UInt8).toArray⟩).run Tryz.prog W = .ok (.string ⟨(l ++ [46, 48]).toArray⟩) W := fun W => add_lists W l [46, 48] (by omega) (by simp)
  have hll : (l ++ [46, 48]).length ≤ 1048576 := by simp; omega
  have B0 : Below w.heap.size w (w.alloc (.cells #[.string ⟨#[]⟩, .string ⟨#[]⟩] 73)) := (Below.refl _ _).alloc (Nat.le_refl _) _
  have B1 := B0.alloc B0.size (.cells #[.int .i64 1] 3)
  have r1 := keepA (heap_alloc_new w (.cells #[.string ⟨#[]⟩, .string ⟨#[]⟩] 73)) (.cells #[.int .i64 1] 3)
  have q1 := heap_new (W := w.alloc (.cells #[.string ⟨#[]⟩, .string ⟨#[]⟩] 73)) (n := w.heap.size + 1) (by simp) (.cells #[.int .i64 1] 3)
  have HF := Lib.hid (fun (W : World) (h : Below w.heap.size w W) (hQ : W.cell? ⟨w.heap.size + 1, 0, none⟩ = some (.int .i64 1)) => rfPartial_any (l ++ [46, 48]) 1 (w.heap.size + 1) W hll (tab_below ht h) (by decide) hQ)
  generalize fromOk (l ++ [46, 48]) 1 = q at HF ⊢
  generalize fromB (l ++ [46, 48]) 1 = fb at HF ⊢
  generalize l ++ [46, 48] = L at HF s1 hll
  clear hc hcc hll ht hl
  go_enter Tryz.func112, Tryz.ntmps112
  go_wp2_with fail
  refine (HC.out _).mono ?_
  rintro e w2 ⟨rfl, hw2⟩
  subst hw2
  go_wp2_with fail
  refine (HN.out _).mono ?_
  rintro e w3 ⟨rfl, hb3⟩
  have B3 := B1.trans (hb3.mono B1.size)
  have r3 := keepB r1 hb3
  have q3 := keepB q1 hb3
  clear hb3 r1 q1 B1 B0
  go_wp2_with fail
  refine (HF.out _ B3 (one_cell q3)).mono ?_
  rintro e w5 ⟨x, y, rfl, hxy, hb5⟩
  have B5 := B3.trans (hb5.mono B3.size)
  obtain ⟨c0, c1⟩ := two_cells (keepB r3 hb5)
  have f0 := frozen2 (keepB r3 hb5) 0
  have f1 := frozen2 (keepB r3 hb5) 1
  go_wp2_with fail
  refine bodyPost_ret (v := .tuple #[.agg #[.string x, .string y], .bool q]) ?_ rfl ⟨_, _, rfl, hxy, ?_⟩
  · simp [results, Tryz.results112, go_sem, c0, c1]
  · exact below_res2 B5 (Nat.le_refl _) _ _

theorem readPartial_any (l : List UInt8) (w : World) (hl : l.length ≤ 1048000) (ht : Tab w) (hc : l.count 46 < 2) :
    Calls Tryz.prog 112 #[.string ⟨l.toArray⟩] w (AltIs w (fromOk (l ++ zrs (l.count 46)) (l.count 46)) (fromB (l ++ zrs (l.count 46)) (l.count 46))) := by
  have h : l.count 46 = 0 ∨ l.count 46 = 1 := by omega
  rcases h with h | h
  · rw [h]; exact readPartial_0 l w hl ht h
  · rw [h]; exact readPartial_1 l w hl ht h

/-- What a limit reads as: the version behind the mark, or nothing. -/
def lmT (p l : List UInt8) : List UInt8 := if p.isPrefixOf l = true ∧ readOk (l.drop p.length) = true then l.drop p.length else []
theorem lmT_yes {p l : List UInt8} (h1 : p.isPrefixOf l = true) (h2 : readOk (l.drop p.length) = true) : lmT p l = l.drop p.length := if_pos ⟨h1, h2⟩
theorem lmT_no1 {p l : List UInt8} (h1 : p.isPrefixOf l = false) : lmT p l = [] := if_neg (by rw [h1]; simp)
theorem lmT_no2 {p l : List UInt8} (h2 : readOk (l.drop p.length) = false) : lmT p l = [] := if_neg (by rw [h2]; simp)
set_option maxRecDepth 100000 in
set_option maxHeartbeats 4000000 in
theorem readLimit_any (l p : List UInt8) (w : World) (hl : l.length ≤ 1048000) (ht : Tab w) :
    Calls Tryz.prog 164 #[.string ⟨l.toArray⟩, .string ⟨p.toArray⟩] w fun e w' => e = .returned (.string ⟨(lmT p l).toArray⟩) ∧ Below w.heap.size w w' := by
  have HR := Lib.hid (fun (m : List UInt8) (h : m.length ≤ 1048000) W => readV_any m W (by omega))
  cases hp : p.isPrefixOf l with
  | false =>
    rw [lmT_no1 hp]
    have HC := Lib.hid (fun W => cutPrefix_no ⟨l.toArray⟩ ⟨p.toArray⟩ W hp)
    cases hok : readOk l
    all_goals
      have HO := Lib.hid hok
      clear hok hp ht
      go_enter Tryz.func164, Tryz.ntmps164
      go_wp2_with fail
      refine (HC.out _).mono ?_
      rintro e w1 ⟨rfl, hw1⟩
      subst hw1
      go_wp2_with fail
      refine (HR.out _ hl _).mono ?_
      rintro e w2 ⟨u, rfl, hu, hb2⟩
      obtain ⟨U, uc, rfl⟩ := hu.slice
      rw [HO.out]
      go_wp2_with fail
      go_ret
      exact ⟨rfl, hb2.alloc hb2.size _⟩
  | true =>
    have hle : p.length ≤ l.length := (List.isPrefixOf_iff_prefix.1 hp).length_le
    have HC := Lib.hid (fun W => cutPrefix_yes ⟨l.toArray⟩ ⟨p.toArray⟩ ⟨(l.drop p.length).toArray⟩ W hp (by
      have := piece_end (⟨l.toArray⟩ : ByteArray) p.length
      rw [size_of p]; exact this))
    cases hok : readOk (l.drop p.length) with
    | false =>
      rw [lmT_no2 hok]
      have hl2 : (l.drop p.length).length ≤ 1048000 := by simp; omega
      generalize l.drop p.length = d at HC hok hl2
      have HO := Lib.hid hok
      clear hok hp ht hle
      go_enter Tryz.func164, Tryz.ntmps164
      go_wp2_with fail
      refine (HC.out _).mono ?_
      rintro e w1 ⟨rfl, hw1⟩
      subst hw1
      go_wp2_with fail
      refine (HR.out _ hl2 _).mono ?_
      rintro e w2 ⟨u, rfl, hu, hb2⟩
      obtain ⟨U, uc, rfl⟩ := hu.slice
      rw [HO.out]
      go_wp2_with fail
      go_ret
      exact ⟨rfl, hb2.alloc hb2.size _⟩
    | true =>
      rw [lmT_yes hp hok]
      have hl2 : (l.drop p.length).length ≤ 1048000 := by simp; omega
      generalize l.drop p.length = d at HC hok hl2
      have HO := Lib.hid hok
      have HBK := Lib.hid (read_back hok)
      have HSM := Lib.hid (sm_readPP d)
      have HV := Lib.hid (fun (q : Nat) (u : Value) (W : World) (hS : Strs W q u (readP d)) (h : Below w.heap.size w W) => implVersionText_any (readA d 0) (readA d 1) (readA d 2) q u (readP d) W hS HSM.out (tab_below ht h))
      rw [HBK.out] at HV
      clear hok hp ht hle HBK HSM
      go_enter Tryz.func164, Tryz.ntmps164
      go_wp2_with fail
      refine (HC.out _).mono ?_
      rintro e w1 ⟨rfl, hw1⟩
      subst hw1
      go_wp2_with fail
      refine (HR.out _ hl2 _).mono ?_
      rintro e w2 ⟨u, rfl, hu, hb2⟩
      obtain ⟨U, uc, rfl⟩ := hu.slice
      rw [HO.out]
      have hu3 := hu.alloc (.cells #[.int .i64 (readA d 0), .int .i64 (readA d 1), .int .i64 (readA d 2), .slice U (readP d).length uc] 127)
      have B3 := hb2.alloc hb2.size (.cells #[.int .i64 (readA d 0), .int .i64 (readA d 1), .int .i64 (readA d 2), .slice U (readP d).length uc] 127)
      go_wp2_with fail
      refine (HV.out _ _ _ hu3 B3).mono ?_
      rintro e w4 ⟨rfl, hb4⟩
      go_wp2_with fail
      go_ret
      exact ⟨rfl, B3.trans (hb4.mono B3.size)⟩
end Go.Proofs.YtongpnknmgbhjaaGreatDoor

/-
  spec.l02Less, l02Texts, l02Part: how two numbers, two texts, two identifiers stand.
-/
namespace Go.Proofs.YtongpnknmgbhjaaGreatDoor
open Go.RowKit

set_option maxRecDepth 100000 in
theorem l02Less_any (a b : Int) (w : World) : Calls Tryz.prog 220 #[.int .i64 a, .int .i64 b] w fun e w' => e = .returned (.int .i64 (cmpI a b)) ∧ w' = w := by
  rcases (show a < b ∨ (¬ a < b ∧ b < a) ∨ (¬ a < b ∧ ¬ b < a) from by omega) with h | ⟨h, h2⟩ | ⟨h, h2⟩
  · have H : Hid (cmpI a b = -1) := Lib.hid (if_pos h)
    go_enter Tryz.func220, Tryz.ntmps220
    go_wp2
    go_ret
    exact ⟨ret_int H.out.symm, rfl⟩
  · have H : Hid (cmpI a b = 1) := Lib.hid (by unfold cmpI; rw [if_neg h, if_pos h2])
    go_enter Tryz.func220, Tryz.ntmps220
    go_wp2
    go_ret
    exact ⟨ret_int H.out.symm, rfl⟩
  · have H : Hid (cmpI a b = 0) := Lib.hid (by unfold cmpI; rw [if_neg h, if_neg h2])
    go_enter Tryz.func220, Tryz.ntmps220
    go_wp2
    go_ret
    exact ⟨ret_int H.out.symm, rfl⟩

theorem cmpS_ways (a b : ByteArray) : (Op.bytesLess a.toList b.toList = true ∧ cmpS a.data.toList b.data.toList = -1) ∨ (Op.bytesLess a.toList b.toList = false ∧ (a.toList == b.toList) = true ∧ cmpS a.data.toList b.data.toList = 0) ∨ (Op.bytesLess a.toList b.toList = false ∧ (a.toList == b.toList) = false ∧ cmpS a.data.toList b.data.toList = 1) := by
  rw [ByteArray.toList_eq, ByteArray.toList_eq]
  unfold cmpS
  cases h : Op.bytesLess a.data.toList b.data.toList
  · by_cases e : a.data.toList = b.data.toList
    · right; left; simp [e]
    · right; right; simp [e]; intro h'; exact e (by rw [h'])
  · left; simp

set_option maxRecDepth 100000 in
theorem l02Texts_any (a b : ByteArray) (w : World) : Calls Tryz.prog 239 #[.string a, .string b] w fun e w' => e = .returned (.int .i64 (cmpS a.data.toList b.data.toList)) ∧ w' = w := by
  rcases cmpS_ways a b with ⟨h, h3⟩ | ⟨h, h2, h3⟩ | ⟨h, h2, h3⟩
  all_goals
    have H := Lib.hid h3
    clear h3
    go_enter Tryz.func239, Tryz.ntmps239
    go_wp2
    go_ret
    exact ⟨ret_int H.out.symm, rfl⟩

set_option maxRecDepth 100000 in
set_option maxHeartbeats 1000000 in
theorem l02Part_any (a b : ByteArray) (w : World) (ha : a.size ≤ 1048576) (hb : b.size ≤ 1048576) :
    Calls Tryz.prog 221 #[.string a, .string b] w fun e w' => e = .returned (.int .i64 (cmpPart a.data.toList b.data.toList)) ∧ w' = w := by
  have HA := Lib.hid (fun W => specReadDec_any a W ha)
  have HB := Lib.hid (fun W => specReadDec_any b W hb)
  have HP : Hid (cmpPart a.data.toList b.data.toList = if 0 ≤ readL a.data.toList then (if 0 ≤ readL b.data.toList then cmpI (readL a.data.toList) (readL b.data.toList) else -1) else (if 0 ≤ readL b.data.toList then 1 else cmpS a.data.toList b.data.toList)) := Lib.hid rfl
  obtain ⟨x, HX⟩ : ∃ x, Hid (readL a.data.toList = x) := ⟨_, Lib.hid rfl⟩
  obtain ⟨y, HY⟩ : ∃ x, Hid (readL b.data.toList = x) := ⟨_, Lib.hid rfl⟩
  have HQ : Hid (cmpPart a.data.toList b.data.toList = if 0 ≤ x then (if 0 ≤ y then cmpI x y else -1) else (if 0 ≤ y then 1 else cmpS a.data.toList b.data.toList)) := Lib.hid (by rw [HP.out, HX.out, HY.out])
  clear HP ha hb
  by_cases hx : 0 ≤ x <;> by_cases hy : 0 ≤ y
  all_goals
    have HR := HQ.out
    simp only [hx, hy, if_true, if_false] at HR
    have HF := Lib.hid HR
    clear HR
    try have dx : decide (0 ≤ x) = false := decide_eq_false hx
    try have dy : decide (0 ≤ y) = false := decide_eq_false hy
    go_enter Tryz.func221, Tryz.ntmps221
    go_wp2_with fail
    refine (HA.out _).mono ?_
    rw [HX.out]
    rintro e w' ⟨rfl, rfl⟩
    go_wp2_with fail
    refine (HB.out _).mono ?_
    rw [HY.out]
    rintro e w' ⟨rfl, rfl⟩
    go_wp2_with (first | (go_at_call 220; refine (l02Less_any _ _ _).mono ?_; rintro e w' ⟨rfl, rfl⟩) | (go_at_call 239; refine (l02Texts_any _ _ _).mono ?_; rintro e w' ⟨rfl, rfl⟩))
    go_ret
    exact ⟨ret_int HF.out.symm, rfl⟩
end Go.Proofs.YtongpnknmgbhjaaGreatDoor

/-
  spec.CompareVersion: how two versions stand.
-/
namespace Go.Proofs.YtongpnknmgbhjaaGreatDoor
open Go.RowKit

set_option maxRecDepth 100000 in
set_option maxHeartbeats 4000000 in
theorem specCompareVersion_any (a b c a' b' c' : Int) (va vb : Value) (x y : List (List UInt8)) (w : World) (ha : RdS w va x) (hb : RdS w vb y) (hx : Sm x) (hy : Sm y) :
    Calls Tryz.prog 195 #[.agg #[.int .i64 a, .int .i64 b, .int .i64 c, va], .agg #[.int .i64 a', .int .i64 b', .int .i64 c', vb]] w fun e w' => e = .returned (.int .i64 (cmpVer a b c x a' b' c' y)) ∧ Below w.heap.size w w' := by
  have HV : Hid (cmpVer a b c x a' b' c' y = orI (cmpI a a') (orI (cmpI b b') (orI (cmpI c c') (cmpPre x y)))) := Lib.hid rfl
  obtain ⟨A, ca, rfl, ha⟩ := ha
  obtain ⟨B, cb, rfl, hb⟩ := hb
  have hx1 := hx.1
  have hy1 := hy.1
  have HX := Lib.hid hx.2
  have HY := Lib.hid hy.2
  clear hx hy
  obtain ⟨p, HP⟩ : ∃ z, Hid (cmpI a a' = z) := ⟨_, Lib.hid rfl⟩
  obtain ⟨q, HQ⟩ : ∃ z, Hid (cmpI b b' = z) := ⟨_, Lib.hid rfl⟩
  obtain ⟨r, HR⟩ : ∃ z, Hid (cmpI c c' = z) := ⟨_, Lib.hid rfl⟩
  have HV2 : Hid (cmpVer a b c x a' b' c' y = orI p (orI q (orI r (cmpPre x y)))) := Lib.hid (by rw [HV.out, HP.out, HQ.out, HR.out])
  have L1 : ∀ W, Calls Tryz.prog 220 #[.int .i64 a, .int .i64 a'] W fun e w' => e = .returned (.int .i64 p) ∧ w' = W := fun W => by have := l02Less_any a a' W; rw [HP.out] at this; exact this
  have L2 : ∀ W, Calls Tryz.prog 220 #[.int .i64 b, .int .i64 b'] W fun e w' => e = .returned (.int .i64 q) ∧ w' = W := fun W => by have := l02Less_any b b' W; rw [HQ.out] at this; exact this
  have L3 : ∀ W, Calls Tryz.prog 220 #[.int .i64 c, .int .i64 c'] W fun e w' => e = .returned (.int .i64 r) ∧ w' = W := fun W => by have := l02Less_any c c' W; rw [HR.out] at this; exact this
  have HL1 := Lib.hid L1
  have HL2 := Lib.hid L2
  have HL3 := Lib.hid L3
  clear L1 L2 L3 HV
  have HB : Below w.heap.size w ((w.alloc (.cells #[.int .i64 a, .int .i64 b, .int .i64 c, .slice A x.length ca] 127)).alloc (.cells #[.int .i64 a', .int .i64 b', .int .i64 c', .slice B y.length cb] 127)) := ((Below.refl _ _).alloc (Nat.le_refl _) _).alloc (by simp) _
  go_enter Tryz.func195, Tryz.ntmps195
  go_wp2_with fail
  have c0 : ((w.alloc (.cells #[.int .i64 a, .int .i64 b, .int .i64 c, .slice A x.length ca] 127)).alloc (.cells #[.int .i64 a', .int .i64 b', .int .i64 c', .slice B y.length cb] 127)).cell? ⟨w.heap.size, 0, none⟩ = some (.int .i64 a) := by simp
  have c1 : ((w.alloc (.cells #[.int .i64 a, .int .i64 b, .int .i64 c, .slice A x.length ca] 127)).alloc (.cells #[.int .i64 a', .int .i64 b', .int .i64 c', .slice B y.length cb] 127)).cell? ⟨w.heap.size, 1, none⟩ = some (.int .i64 b) := by simp
  have c2 : ((w.alloc (.cells #[.int .i64 a, .int .i64 b, .int .i64 c, .slice A x.length ca] 127)).alloc (.cells #[.int .i64 a', .int .i64 b', .int .i64 c', .slice B y.length cb] 127)).cell? ⟨w.heap.size, 2, none⟩ = some (.int .i64 c) := by simp
  have c3 : ((w.alloc (.cells #[.int .i64 a, .int .i64 b, .int .i64 c, .slice A x.length ca] 127)).alloc (.cells #[.int .i64 a', .int .i64 b', .int .i64 c', .slice B y.length cb] 127)).cell? ⟨w.heap.size, 3, none⟩ = some (.slice A x.length ca) := by simp
  have e0 : ((w.alloc (.cells #[.int .i64 a, .int .i64 b, .int .i64 c, .slice A x.length ca] 127)).alloc (.cells #[.int .i64 a', .int .i64 b', .int .i64 c', .slice B y.length cb] 127)).cell? ⟨w.heap.size + 1, 0, none⟩ = some (.int .i64 a') := by simp
  have e1 : ((w.alloc (.cells #[.int .i64 a, .int .i64 b, .int .i64 c, .slice A x.length ca] 127)).alloc (.cells #[.int .i64 a', .int .i64 b', .int .i64 c', .slice B y.length cb] 127)).cell? ⟨w.heap.size + 1, 1, none⟩ = some (.int .i64 b') := by simp
  have e2 : ((w.alloc (.cells #[.int .i64 a, .int .i64 b, .int .i64 c, .slice A x.length ca] 127)).alloc (.cells #[.int .i64 a', .int .i64 b', .int .i64 c', .slice B y.length cb] 127)).cell? ⟨w.heap.size + 1, 2, none⟩ = some (.int .i64 c') := by simp
  have e3 : ((w.alloc (.cells #[.int .i64 a, .int .i64 b, .int .i64 c, .slice A x.length ca] 127)).alloc (.cells #[.int .i64 a', .int .i64 b', .int .i64 c', .slice B y.length cb] 127)).cell? ⟨w.heap.size + 1, 3, none⟩ = some (.slice B y.length cb) := by simp
  have l1 : w.heap.size + 1 < ((w.alloc (.cells #[.int .i64 a, .int .i64 b, .int .i64 c, .slice A x.length ca] 127)).alloc (.cells #[.int .i64 a', .int .i64 b', .int .i64 c', .slice B y.length cb] 127)).heap.size := by simp
  obtain ⟨n0, hn0⟩ : ∃ n, n = w.heap.size := ⟨_, rfl⟩
  rw [← hn0] at HB c0 c1 c2 c3 e0 e1 e2 e3 l1 ⊢
  obtain ⟨W, hW⟩ : ∃ W, W = ((w.alloc (.cells #[.int .i64 a, .int .i64 b, .int .i64 c, .slice A x.length ca] 127)).alloc (.cells #[.int .i64 a', .int .i64 b', .int .i64 c', .slice B y.length cb] 127)) := ⟨_, rfl⟩
  rw [← hW] at HB c0 c1 c2 c3 e0 e1 e2 e3 l1 ⊢
  have HW := Lib.hid hW
  clear hW
  have HN0 := Lib.hid hn0
  clear hn0
  go_region_held3 (fun w' => w'.cell? ⟨n0, 0, none⟩ = some (.int .i64 a) ∧ w'.cell? ⟨n0, 1, none⟩ = some (.int .i64 b) ∧ w'.cell? ⟨n0, 2, none⟩ = some (.int .i64 c) ∧ w'.cell? ⟨n0, 3, none⟩ = some (.slice A x.length ca) ∧ w'.cell? ⟨n0 + 1, 0, none⟩ = some (.int .i64 a') ∧ w'.cell? ⟨n0 + 1, 1, none⟩ = some (.int .i64 b') ∧ w'.cell? ⟨n0 + 1, 2, none⟩ = some (.int .i64 c') ∧ w'.cell? ⟨n0 + 1, 3, none⟩ = some (.slice B y.length cb)) (first | exact ⟨c0, c1, c2, c3, e0, e1, e2, e3⟩ | go_keep) ((first | (go_at_call 220; (with_reducible refine (HL1.out _).mono ?_); rintro e w' ⟨rfl, rfl⟩) | (go_at_call 220; (with_reducible refine (HL2.out _).mono ?_); rintro e w' ⟨rfl, rfl⟩) | (go_at_call 220; (with_reducible refine (HL3.out _).mono ?_); rintro e w' ⟨rfl, rfl⟩)))
  go_wp2_with fail
  have o0 : (W.alloc (.cells #[.int .i64 p, .int .i64 q, .int .i64 r] 3)).drew.cell? ⟨W.heap.size, 0, none⟩ = some (.int .i64 p) := by simp
  have o1 : (W.alloc (.cells #[.int .i64 p, .int .i64 q, .int .i64 r] 3)).drew.cell? ⟨W.heap.size, 1, none⟩ = some (.int .i64 q) := by simp
  have o2 : (W.alloc (.cells #[.int .i64 p, .int .i64 q, .int .i64 r] 3)).drew.cell? ⟨W.heap.size, 2, none⟩ = some (.int .i64 r) := by simp
  have BN : Below W.heap.size W (W.alloc (.cells #[.int .i64 p, .int .i64 q, .int .i64 r] 3)).drew := ((Below.refl _ W).alloc (Nat.le_refl _) _).trans (below_drewN _ _ 1)
  have f3 := (BN.cell (p := ⟨n0, 3, none⟩) (by show n0 < _; omega)).trans c3
  have g3 := (BN.cell (p := ⟨n0 + 1, 3, none⟩) l1).trans e3
  have BV := HB.trans (BN.mono (by omega))
  clear c0 c1 c2 c3 e0 e1 e2 e3 BN HL1 HL2 HL3 HB
  generalize (W.alloc (.cells #[.int .i64 p, .int .i64 q, .int .i64 r] 3)).drew = V at o0 o1 o2 f3 g3 BV ⊢
  obtain ⟨m0, hm0⟩ : ∃ m, m = W.heap.size := ⟨_, rfl⟩
  rw [← hm0] at o0 o1 o2 ⊢
  clear hm0 l1
  rw [HN0.out] at BV
  by_cases hp : p = 0
  · by_cases hq : q = 0
    · by_cases hr : r = 0
      · have HO : Hid (cmpVer a b c x a' b' c' y = cmpPre x y) := Lib.hid (by rw [HV2.out, hp, hq, hr]; rfl)
        have q1 : (p != 0) = false := by simp [hp]
        have q2 : (q != 0) = false := by simp [hq]
        have q3 : (r != 0) = false := by simp [hr]
        clear hp hq hr HV2
        by_cases h1 : x = []
        · have HE : Hid (cmpVer a b c x a' b' c' y = cmpI y.length x.length) := Lib.hid (HO.out.trans (cmpPre_empty (.inl h1)))
          have t1 : ((x.length : Int) == 0) = true := by simp [h1]
          clear h1 ha hb
          refine wp_loop_rounds 4 ?_
          rw [rounds_succ]; go_wp2
          rw [rounds_succ]; go_wp2
          rw [rounds_succ]; go_wp2
          rw [rounds_succ]
          go_wp2_with (go_at_call 220; refine (l02Less_any _ _ _).mono ?_; rintro e w' ⟨rfl, rfl⟩)
          go_ret
          exact ⟨ret_int HE.out.symm, BV⟩
        · have hl1 : 0 < x.length := by cases x <;> simp_all
          have t1 : ((x.length : Int) == 0) = false := int_beq_false (by omega)
          by_cases h2 : y = []
          · have HE : Hid (cmpVer a b c x a' b' c' y = cmpI y.length x.length) := Lib.hid (HO.out.trans (cmpPre_empty (.inr h2)))
            have t2 : ((y.length : Int) == 0) = true := by simp [h2]
            clear h1 h2 ha hb
            refine wp_loop_rounds 4 ?_
            rw [rounds_succ]; go_wp2
            rw [rounds_succ]; go_wp2
            rw [rounds_succ]; go_wp2
            rw [rounds_succ]
            go_wp2_with (go_at_call 220; refine (l02Less_any _ _ _).mono ?_; rintro e w' ⟨rfl, rfl⟩)
            go_ret
            exact ⟨ret_int HE.out.symm, BV⟩
          · have hl2 : 0 < y.length := by cases y <;> simp_all
            have t2 : ((y.length : Int) == 0) = false := int_beq_false (by omega)
            have HE : Hid (cmpVer a b c x a' b' c' y = cmpL x y) := Lib.hid (HO.out.trans (cmpPre_full (by rintro (h | h); exact h1 h; exact h2 h)))
            clear h1 h2
            obtain ⟨g, off, rfl, hg, hca⟩ := ha hl1
            obtain ⟨g2, off2, rfl, hg2, hcb⟩ := hb hl2
            have HCA : Hid (∀ k (h : k < x.length), V.cell? ⟨g, off + k, none⟩ = some (.string ⟨x[k].toArray⟩)) := Lib.hid (fun k h => (BV.cell (p := ⟨g, off + k, none⟩) hg).trans (hca k h))
            have HCB : Hid (∀ k (h : k < y.length), V.cell? ⟨g2, off2 + k, none⟩ = some (.string ⟨y[k].toArray⟩)) := Lib.hid (fun k h => (BV.cell (p := ⟨g2, off2 + k, none⟩) hg2).trans (hcb k h))
            clear ha hb hca hcb hg hg2
            refine wp_loop_rounds 4 ?_
            rw [rounds_succ]; go_wp2
            rw [rounds_succ]; go_wp2
            rw [rounds_succ]; go_wp2
            rw [rounds_succ]; go_wp2
            go_loopw [7, 8] (fun i _ wr => ∃ k n : Nat, k ≤ x.length ∧ k ≤ y.length ∧ i = .int .i64 k ∧ wr = V.drewN n ∧ Hid (cmpL x y = cmpL (x.drop k) (y.drop k))) (fun i _ _ => x.length - (intOf i).toNat)
            case atStart => exact ⟨0, 0, Nat.zero_le _, Nat.zero_le _, rfl, rfl, Lib.hid (by simp)⟩
            case round =>
              obtain ⟨k, n, hk, hk', rfl, hwr, H⟩ := hrel
              clear o0 o1 o2 q1 q2 q3 t1 t2
              have f4 : wr.cell? ⟨n0, 3, none⟩ = some (.slice (some ⟨g, off, none⟩) x.length ca) := by rw [hwr]; exact f3
              have g4 : wr.cell? ⟨n0 + 1, 3, none⟩ = some (.slice (some ⟨g2, off2, none⟩) y.length cb) := by rw [hwr]; exact g3
              have HWR := Lib.hid hwr
              have BW : Below w.heap.size w wr := by rw [hwr]; exact BV.trans (below_drewN _ _ _)
              clear hwr
              by_cases hlt : k < x.length ∧ k < y.length
              · obtain ⟨j1, j2⟩ := hlt
                have d1 : wr.cell? ⟨g, off + k, none⟩ = some (.string ⟨x[k].toArray⟩) := by rw [HWR.out]; exact HCA.out k j1
                have d2 : wr.cell? ⟨g2, off2 + k, none⟩ = some (.string ⟨y[k].toArray⟩) := by rw [HWR.out]; exact HCB.out k j2
                have k0 : (0 : Int) ≤ (k : Int) := by omega
                have k1 : (k : Int) < (x.length : Int) := by omega
                have k2 : (k : Int) < (y.length : Int) := by omega
                have HS := Lib.hid (cmpL_step j1 j2)
                obtain ⟨z, HZ⟩ : ∃ z, Hid (cmpPart x[k] y[k] = z) := ⟨_, Lib.hid rfl⟩
                have hP : ∀ W, Calls Tryz.prog 221 #[.string ⟨x[k].toArray⟩, .string ⟨y[k].toArray⟩] W fun e w' => e = .returned (.int .i64 z) ∧ w' = W := fun W => by
                  have := l02Part_any ⟨x[k].toArray⟩ ⟨y[k].toArray⟩ W (by rw [size_of]; exact HX.out _ (List.getElem_mem j1)) (by rw [size_of]; exact HY.out _ (List.getElem_mem j2))
                  rw [show cmpPart (⟨x[k].toArray⟩ : ByteArray).data.toList (⟨y[k].toArray⟩ : ByteArray).data.toList = z from HZ.out] at this
                  exact this
                have HP2 := Lib.hid hP
                clear hP
                by_cases hz : z = 0
                · have hz' : (z != 0) = false := by simp [hz]
                  have HN : Hid (cmpL x y = cmpL (x.drop (k + 1)) (y.drop (k + 1))) := Lib.hid (by rw [H.out, HS.out, HZ.out, hz]; rfl)
                  clear hz
                  go_wp2_with fail
                  go_quiet ((go_at_call 221; exact Calls.quiet_of_same (HP2.out _)))
                  go_wp2_with fail
                  go_roundw
                  case rel => exact ⟨k + 1, n + nq, by omega, by omega, by go_num, by rw [HWR.out]; simp [World.drewN]; omega, HN⟩
                  case measure => simp [intOf]; omega
                · have hz' : (z != 0) = true := by simp [hz]
                  have HN : Hid (cmpVer a b c x a' b' c' y = z) := Lib.hid (by rw [HE.out, H.out, HS.out, HZ.out]; exact orI_ne _ hz)
                  clear hz
                  go_wp2_with fail
                  go_quiet ((go_at_call 221; exact Calls.quiet_of_same (HP2.out _)))
                  go_wp2_with fail
                  go_ret
                  exact ⟨ret_int HN.out.symm, BW.trans (below_drewN _ _ _)⟩
              · have HN : Hid (cmpVer a b c x a' b' c' y = cmpI x.length y.length) := Lib.hid (by rw [HE.out, H.out]; exact cmpL_len hk hk' hlt)
                by_cases j1 : k < x.length
                · have j2 : ¬ k < y.length := by omega
                  have j3 : decide (k < y.length) = false := decide_eq_false j2
                  have k1 : (k : Int) < (x.length : Int) := by omega
                  clear hlt
                  go_wp2_with (go_at_call 220; refine (l02Less_any _ _ _).mono ?_; rintro e w' ⟨rfl, rfl⟩)
                  go_ret
                  exact ⟨ret_int HN.out.symm, BW⟩
                · have j2 : decide ((k : Int) < (x.length : Int)) = false := by simp; omega
                  clear hlt
                  go_wp2_with (go_at_call 220; refine (l02Less_any _ _ _).mono ?_; rintro e w' ⟨rfl, rfl⟩)
                  go_ret
                  exact ⟨ret_int HN.out.symm, BW⟩
      · have HO : Hid (cmpVer a b c x a' b' c' y = r) := Lib.hid (by rw [HV2.out, hp, hq, orI_zero, orI_zero, orI_ne _ hr])
        have q1 : (p != 0) = false := by simp [hp]
        have q2 : (q != 0) = false := by simp [hq]
        have q3 : (r != 0) = true := by simp [hr]
        clear hp hq hr HV2 ha hb
        refine wp_loop_rounds 3 ?_
        rw [rounds_succ]; go_wp2
        rw [rounds_succ]; go_wp2
        rw [rounds_succ]; go_wp2
        go_ret
        exact ⟨ret_int HO.out.symm, BV⟩
    · have HO : Hid (cmpVer a b c x a' b' c' y = q) := Lib.hid (by rw [HV2.out, hp, orI_zero, orI_ne _ hq])
      have q1 : (p != 0) = false := by simp [hp]
      have q2 : (q != 0) = true := by simp [hq]
      clear hp hq HV2 ha hb
      refine wp_loop_rounds 2 ?_
      rw [rounds_succ]; go_wp2
      rw [rounds_succ]; go_wp2
      go_ret
      exact ⟨ret_int HO.out.symm, BV⟩
  · have HO : Hid (cmpVer a b c x a' b' c' y = p) := Lib.hid (by rw [HV2.out, orI_ne _ hp])
    have q1 : (p != 0) = true := by simp [hp]
    clear hp HV2 ha hb
    refine wp_loop_rounds 1 ?_
    rw [rounds_succ]; go_wp2
    go_ret
    exact ⟨ret_int HO.out.symm, BV⟩
end Go.Proofs.YtongpnknmgbhjaaGreatDoor

/-
  spec.ReadVersion: a version out of its text.
-/
namespace Go.Proofs.YtongpnknmgbhjaaGreatDoor
open Go.RowKit

set_option maxRecDepth 100000 in
set_option maxHeartbeats 4000000 in
theorem specReadVersion_any (s : ByteArray) (w : World) (hs : s.size ≤ 1048576) :
    Calls Tryz.prog 97 #[.string s] w (ReadIs w s.data.toList) := by
  have HSZ : Hid (s.data.toList.length ≤ 1048576) := Lib.hid (by simpa using hs)
  have hA := l01At_any s 45 ((w.alloc (.cells #[.int .i64 0, .int .i64 0, .int .i64 0, .slice none 0 0] 127)).alloc (.cells #[.int .i64 0, .int .i64 0, .int .i64 0, .slice none 0 0] 127)) (by unfold maxLen; omega)
  have HA := Lib.hid hA
  clear hA
  have r0 := keepA (heap_alloc_new w (.cells #[.int .i64 0, .int .i64 0, .int .i64 0, .slice none 0 0] 127)) (.cells #[.int .i64 0, .int .i64 0, .int .i64 0, .slice none 0 0] 127)
  have v0 := heap_new (W := w.alloc (.cells #[.int .i64 0, .int .i64 0, .int .i64 0, .slice none 0 0] 127)) (n := w.heap.size + 1) (by simp) (.cells #[.int .i64 0, .int .i64 0, .int .i64 0, .slice none 0 0] 127)
  have B0 : Below w.heap.size w ((w.alloc (.cells #[.int .i64 0, .int .i64 0, .int .i64 0, .slice none 0 0] 127)).alloc (.cells #[.int .i64 0, .int .i64 0, .int .i64 0, .slice none 0 0] 127)) := ((Below.refl _ _).alloc (Nat.le_refl _) _).alloc (by simp) _
  obtain ⟨d, HD⟩ : ∃ d, Hid (dash s.data.toList = d) := ⟨_, Lib.hid rfl⟩
  by_cases hd : 0 ≤ d
  · have hdl : d < s.size := by have := idx_lt s.data.toList 45; have h2 : Lib.indexByte s.data.toList 45 = d := HD.out; rw [h2] at this; simpa using this
    obtain ⟨k, rfl⟩ : ∃ k : Nat, d = (k : Int) := ⟨d.toNat, by omega⟩
    have HH : Hid (headL s.data.toList = s.data.toList.take k) := Lib.hid (by rw [headL_yes (by rw [HD.out]; exact hd), HD.out]; rfl)
    have HTL : Hid (tailL s.data.toList = cutL 46 (s.data.toList.drop (k + 1))) := Lib.hid (by rw [tailL_yes (by rw [HD.out]; exact hd), HD.out]; rfl)
    have e1 := slice_to s _ k (k : Int) rfl (by omega) (piece s 0 k)
    have e2 := slice_from s _ (k + 1) ((k : Int) + 1) (by omega) (by omega) (piece_end s (k + 1))
    go_enter Tryz.func97, Tryz.ntmps97
    go_wp2_with fail
    refine HA.out.mono ?_
    rw [show Lib.indexByte s.data.toList 45 = (k : Int) from HD.out]
    rintro e w' ⟨rfl, rfl⟩
    go_wp2_with fail
    refine (l01Cut_any _ 46 _ (by rw [size_of]; simp <;> omega)).mono ?_
    rintro e w1 ⟨gp, cp, rfl, hSp, hb1⟩
    have HQ : Hid (cutL 46 (⟨(s.data.toList.drop (k + 1)).toArray⟩ : ByteArray).data.toList = tailL s.data.toList) := Lib.hid HTL.out.symm
    rw [HQ.out] at hSp ⊢
    have r1 := keepB r0 hb1
    have v1 := keepB v0 hb1
    have B1 := B0.trans (hb1.mono B0.size)
    have glo : w.heap.size + 2 ≤ gp := by have := hSp.lo; simpa using this
    obtain ⟨q0, q1, q2, q3⟩ := cells4 v1
    have f3 := frozen4 v1 3
    go_wp2_with fail
    have HQ2 : Hid (cutL 46 (⟨(s.data.toList.take k).toArray⟩ : ByteArray).data.toList = partsL s.data.toList) := Lib.hid (by unfold partsL; rw [HH.out])
    have r1' := heap_other (g := w.heap.size + 1) (o := 3) r1 (.slice (some ⟨gp, 0, none⟩) (tailL s.data.toList).length cp) (by omega)
    have v1' := heap_set3 v1 (.slice (some ⟨gp, 0, none⟩) (tailL s.data.toList).length cp)
    have B1' := B1.setCell (p := ⟨w.heap.size + 1, 3, none⟩) (Nat.le_succ _) (.slice (some ⟨gp, 0, none⟩) (tailL s.data.toList).length cp)
    have hSp1 := (hSp.weaken (base' := w.heap.size + 2) (by simp)).other (w.heap.size + 1) 3 (.slice (some ⟨gp, 0, none⟩) (tailL s.data.toList).length cp) (by omega)
    refine (l01Cut_any _ 46 _ (by rw [size_of]; simp <;> omega)).mono ?_
    rintro e w2 ⟨gn, cn, rfl, hSn, hb2⟩
    rw [HQ2.out] at hSn ⊢
    have r2 := keepB r1' hb2
    have v2 := keepB v1' hb2
    have B2 := B1'.trans (hb2.mono B1'.size)
    have hSp2 := hSp1.below hb2
    have lo2 : w.heap.size + 2 ≤ (w1.setCell ⟨w.heap.size + 1, 3, none⟩ (.slice (some ⟨gp, 0, none⟩) (tailL s.data.toList).length cp)).heap.size := by have := lt_of_heap v1'; omega
    clear r0 v0 B0 r1 v1 B1 r1' v1' B1' hSp hSp1 hb1 hb2 q0 q1 q2 q3 f3 HA e1 e2
    have gnlo : w.heap.size + 2 ≤ gn := by have := hSn.lo; simpa using Nat.le_trans lo2 this
    by_cases h3 : (partsL s.data.toList).length = 3
    · obtain ⟨p0, p1, p2, hp⟩ := len3 h3
      have HPP := Lib.hid hp
      have mm : ∀ x ∈ partsL s.data.toList, x.length ≤ 1048576 := fun x hx => by have h1 := cutL_mem_le 46 (headL s.data.toList) x hx; have h2 := headL_le s.data.toList; have h3 := HSZ.out; omega
      have m0 := mm p0 (by rw [hp]; simp)
      have m1 := mm p1 (by rw [hp]; simp)
      have m2 := mm p2 (by rw [hp]; simp)
      have x0 : w2.cell? ⟨gn, 0, none⟩ = some (.string ⟨p0.toArray⟩) := by rw [hp] at hSn; exact hSn.cell 0 (by simp)
      have x1 : w2.cell? ⟨gn, 1, none⟩ = some (.string ⟨p1.toArray⟩) := by rw [hp] at hSn; exact hSn.cell 1 (by simp)
      have x2 : w2.cell? ⟨gn, 2, none⟩ = some (.string ⟨p2.toArray⟩) := by rw [hp] at hSn; exact hSn.cell 2 (by simp)
      have HR := Lib.hid (readOk_of hp)
      have HTX := Lib.hid (read_text hp)
      have HTN := Lib.hid (read_ok hp)
      rw [h3]
      clear mm hp h3
      have gne : gn ≠ w.heap.size + 1 := by omega
      obtain ⟨u0, u1, u2, u3⟩ := cells4 v2
      have f0 := frozen4 v2 0
      go_wp2_with fail
      refine (specReadDec_any ⟨p0.toArray⟩ _ (by rw [size_of]; exact m0)).mono ?_
      rintro e w' ⟨rfl, rfl⟩
      obtain ⟨z0, HZ0⟩ : ∃ z, Hid (readL p0 = z) := ⟨_, Lib.hid rfl⟩
      rw [show readL (⟨p0.toArray⟩ : ByteArray).data.toList = z0 from HZ0.out]
      have v3 := heap_set0 v2 (.int .i64 z0)
      have r3 := heap_other (g := w.heap.size + 1) (o := 0) r2 (.int .i64 z0) (by omega)
      have y1 := (World.cell?_setCell_far w2 ⟨w.heap.size + 1, 0, none⟩ ⟨gn, 1, none⟩ (.int .i64 z0) (Ne.symm gne)).trans x1
      have y2 := (World.cell?_setCell_far w2 ⟨w.heap.size + 1, 0, none⟩ ⟨gn, 2, none⟩ (.int .i64 z0) (Ne.symm gne)).trans x2
      have f1 := frozen4 v3 1
      obtain ⟨t0, t1, t2, t3⟩ := cells4 v3
      go_wp2_with fail
      refine (specReadDec_any ⟨p1.toArray⟩ _ (by rw [size_of]; exact m1)).mono ?_
      rintro e w' ⟨rfl, rfl⟩
      obtain ⟨z1, HZ1⟩ : ∃ z, Hid (readL p1 = z) := ⟨_, Lib.hid rfl⟩
      rw [show readL (⟨p1.toArray⟩ : ByteArray).data.toList = z1 from HZ1.out]
      have v4 := heap_set1 v3 (.int .i64 z1)
      have r4 := heap_other (g := w.heap.size + 1) (o := 1) r3 (.int .i64 z1) (by omega)
      have yy2 := (World.cell?_setCell_far _ ⟨w.heap.size + 1, 1, none⟩ ⟨gn, 2, none⟩ (.int .i64 z1) (Ne.symm gne)).trans y2
      have f2 := frozen4 v4 2
      clear t0 t1 t2 t3 f0
      obtain ⟨t0, t1, t2, t3⟩ := cells4 v4
      go_wp2_with fail
      refine (specReadDec_any ⟨p2.toArray⟩ _ (by rw [size_of]; exact m2)).mono ?_
      rintro e w' ⟨rfl, rfl⟩
      obtain ⟨z2, HZ2⟩ : ∃ z, Hid (readL p2 = z) := ⟨_, Lib.hid rfl⟩
      rw [show readL (⟨p2.toArray⟩ : ByteArray).data.toList = z2 from HZ2.out]
      have v5 := heap_set2 v4 (.int .i64 z2)
      have r5 := heap_other (g := w.heap.size + 1) (o := 2) r4 (.int .i64 z2) (by omega)
      have B5 := ((B2.setCell (p := ⟨w.heap.size + 1, 0, none⟩) (Nat.le_succ _) (.int .i64 z0)).setCell (p := ⟨w.heap.size + 1, 1, none⟩) (Nat.le_succ _) (.int .i64 z1)).setCell (p := ⟨w.heap.size + 1, 2, none⟩) (Nat.le_succ _) (.int .i64 z2)
      have hS5 := (((hSp2.other (w.heap.size + 1) 0 (.int .i64 z0) (by omega)).other (w.heap.size + 1) 1 (.int .i64 z1) (by omega)).other (w.heap.size + 1) 2 (.int .i64 z2) (by omega))
      obtain ⟨i0, i1, i2, i3⟩ := cells4 v5
      go_wp2_with fail
      clear t0 t1 t2 t3 i0 i1 i2 i3 u0 u1 u2 u3 f1 f2 x0 x1 x2 y1 y2 yy2 v2 v3 v4 r2 r3 r4 B2
      generalize ((w2.setCell ⟨w.heap.size + 1, 0, none⟩ (.int .i64 z0)).setCell ⟨w.heap.size + 1, 1, none⟩ (.int .i64 z1)).setCell ⟨w.heap.size + 1, 2, none⟩ (.int .i64 z2) = W5 at *
      refine (specVersionText_any z0 z1 z2 _ (tailL s.data.toList) _ (RdS.of_strs hS5) (tail_sm HSZ.out)).mono ?_
      rintro e w6 ⟨rfl, hb6⟩
      have v6 := keepB v5 hb6
      have r6 := keepB r5 hb6
      have B6 := B5.trans (hb6.mono B5.size)
      have hS6 := hS5.below hb6
      have hw := hS5.owned
      clear v5 r5 B5 hS5 hb6
      by_cases hv : verOk z0 z1 z2 (tailL s.data.toList) = true
      · have HE : Hid (verText z0 z1 z2 (tailL s.data.toList) = s.data.toList) := Lib.hid (by have := HTX.out; rw [HZ0.out, HZ1.out, HZ2.out] at this; exact this hv)
        have HOK : Hid (readOk s.data.toList = true) := Lib.hid (by rw [HR.out, HZ0.out, HZ1.out, HZ2.out]; exact hv)
        have e9 : ((verText z0 z1 z2 (tailL s.data.toList)) == s.toList) = true := by rw [HE.out, ByteArray.toList_eq]; simp
        clear hv
        obtain ⟨p0', p1', p2', p3'⟩ := cells4 v6
        obtain ⟨q0, q1, q2, q3⟩ := cells4 r6
        have f0 := frozen4 r6 0
        have f1 := frozen4 r6 1
        have f2 := frozen4 r6 2
        have f3 := frozen4 r6 3
        go_wp2_with fail
        refine bodyPost_ret (v := .tuple #[.agg #[.int .i64 (z0), .int .i64 (z1), .int .i64 (z2), .slice (some ⟨gp, 0, none⟩) (tailL s.data.toList).length cp], .bool true]) ?_ rfl (by rw [← HZ0.out, ← HZ1.out, ← HZ2.out]; exact readIs_good HPP.out HOK.out (strs_result (hS6.weaken (by omega)) (fun g h => by have := hw g h; omega) _ _ _ _) (below_result B6 (by omega) _ _ _ _))
        simp [results, Tryz.results97, go_sem, q0, q1, q2, q3]
      · have HE : Hid (¬ verText z0 z1 z2 (tailL s.data.toList) = s.data.toList) := Lib.hid (by have := HTN.out; rw [HZ0.out, HZ1.out, HZ2.out] at this; exact this hv)
        have HOK : Hid (readOk s.data.toList = false) := Lib.hid (by rw [HR.out, HZ0.out, HZ1.out, HZ2.out]; simpa using hv)
        have e9 : ((verText z0 z1 z2 (tailL s.data.toList)) == s.toList) = false := by rw [ByteArray.toList_eq]; simpa using HE.out
        clear hv
        obtain ⟨q0, q1, q2, q3⟩ := cells4 r6
        have f0 := frozen4 r6 0
        have f1 := frozen4 r6 1
        have f2 := frozen4 r6 2
        have f3 := frozen4 r6 3
        go_wp2_with fail
        refine bodyPost_ret (v := .tuple #[.agg #[.int .i64 0, .int .i64 0, .int .i64 0, .slice none 0 0], .bool false]) ?_ rfl (readIs_bad HOK.out (below_result B6 (by omega) _ _ _ _))
        simp [results, Tryz.results97, go_sem, q0, q1, q2, q3]
    · have HOK := Lib.hid (readOk_bad h3)
      have q9 : (((partsL s.data.toList).length : Int) != 3) = true := int_bne_true (by omega)
      clear h3
      obtain ⟨q0, q1, q2, q3⟩ := cells4 r2
      have f0 := frozen4 r2 0
      have f1 := frozen4 r2 1
      have f2 := frozen4 r2 2
      have f3 := frozen4 r2 3
      go_wp2_with fail
      refine bodyPost_ret (v := .tuple #[.agg #[.int .i64 0, .int .i64 0, .int .i64 0, .slice none 0 0], .bool false]) ?_ rfl (readIs_bad HOK.out (below_result B2 (by omega) _ _ _ _))
      simp [results, Tryz.results97, go_sem, q0, q1, q2, q3]
  · have hdn : ¬ 0 ≤ dash s.data.toList := by rw [HD.out]; exact hd
    have HQ2 : Hid (cutL 46 s.data.toList = partsL s.data.toList) := Lib.hid (by unfold partsL; rw [headL_no hdn])
    have HTL := Lib.hid (tailL_no hdn)
    clear hdn
    go_enter Tryz.func97, Tryz.ntmps97
    go_wp2_with fail
    refine HA.out.mono ?_
    rw [show Lib.indexByte s.data.toList 45 = d from HD.out]
    rintro e w' ⟨rfl, rfl⟩
    go_wp2_with fail
    refine (l01Cut_any s 46 _ hs).mono ?_
    rintro e w2 ⟨gn, cn, rfl, hSn, hb2⟩
    rw [HQ2.out] at hSn ⊢
    have r2 := keepB r0 hb2
    have v2 := keepB v0 hb2
    have B2 := B0.trans (hb2.mono B0.size)
    have lo2 : w.heap.size + 2 ≤ ((w.alloc (.cells #[.int .i64 0, .int .i64 0, .int .i64 0, .slice none 0 0] 127)).alloc (.cells #[.int .i64 0, .int .i64 0, .int .i64 0, .slice none 0 0] 127)).heap.size := by simp
    clear r0 v0 B0 hb2 HA
    have gnlo : w.heap.size + 2 ≤ gn := by have := hSn.lo; simpa using Nat.le_trans lo2 this
    by_cases h3 : (partsL s.data.toList).length = 3
    · obtain ⟨p0, p1, p2, hp⟩ := len3 h3
      have HPP := Lib.hid hp
      have mm : ∀ x ∈ partsL s.data.toList, x.length ≤ 1048576 := fun x hx => by have h1 := cutL_mem_le 46 (headL s.data.toList) x hx; have h2 := headL_le s.data.toList; have h3 := HSZ.out; omega
      have m0 := mm p0 (by rw [hp]; simp)
      have m1 := mm p1 (by rw [hp]; simp)
      have m2 := mm p2 (by rw [hp]; simp)
      have x0 : w2.cell? ⟨gn, 0, none⟩ = some (.string ⟨p0.toArray⟩) := by rw [hp] at hSn; exact hSn.cell 0 (by simp)
      have x1 : w2.cell? ⟨gn, 1, none⟩ = some (.string ⟨p1.toArray⟩) := by rw [hp] at hSn; exact hSn.cell 1 (by simp)
      have x2 : w2.cell? ⟨gn, 2, none⟩ = some (.string ⟨p2.toArray⟩) := by rw [hp] at hSn; exact hSn.cell 2 (by simp)
      have HR := Lib.hid (readOk_of hp)
      have HTX := Lib.hid (read_text hp)
      have HTN := Lib.hid (read_ok hp)
      rw [h3]
      clear mm hp h3
      have gne : gn ≠ w.heap.size + 1 := by omega
      obtain ⟨u0, u1, u2, u3⟩ := cells4 v2
      have f0 := frozen4 v2 0
      go_wp2_with fail
      refine (specReadDec_any ⟨p0.toArray⟩ _ (by rw [size_of]; exact m0)).mono ?_
      rintro e w' ⟨rfl, rfl⟩
      obtain ⟨z0, HZ0⟩ : ∃ z, Hid (readL p0 = z) := ⟨_, Lib.hid rfl⟩
      rw [show readL (⟨p0.toArray⟩ : ByteArray).data.toList = z0 from HZ0.out]
      have v3 := heap_set0 v2 (.int .i64 z0)
      have r3 := heap_other (g := w.heap.size + 1) (o := 0) r2 (.int .i64 z0) (by omega)
      have y1 := (World.cell?_setCell_far w2 ⟨w.heap.size + 1, 0, none⟩ ⟨gn, 1, none⟩ (.int .i64 z0) (Ne.symm gne)).trans x1
      have y2 := (World.cell?_setCell_far w2 ⟨w.heap.size + 1, 0, none⟩ ⟨gn, 2, none⟩ (.int .i64 z0) (Ne.symm gne)).trans x2
      have f1 := frozen4 v3 1
      obtain ⟨t0, t1, t2, t3⟩ := cells4 v3
      go_wp2_with fail
      refine (specReadDec_any ⟨p1.toArray⟩ _ (by rw [size_of]; exact m1)).mono ?_
      rintro e w' ⟨rfl, rfl⟩
      obtain ⟨z1, HZ1⟩ : ∃ z, Hid (readL p1 = z) := ⟨_, Lib.hid rfl⟩
      rw [show readL (⟨p1.toArray⟩ : ByteArray).data.toList = z1 from HZ1.out]
      have v4 := heap_set1 v3 (.int .i64 z1)
      have r4 := heap_other (g := w.heap.size + 1) (o := 1) r3 (.int .i64 z1) (by omega)
      have yy2 := (World.cell?_setCell_far _ ⟨w.heap.size + 1, 1, none⟩ ⟨gn, 2, none⟩ (.int .i64 z1) (Ne.symm gne)).trans y2
      have f2 := frozen4 v4 2
      clear t0 t1 t2 t3 f0
      obtain ⟨t0, t1, t2, t3⟩ := cells4 v4
      go_wp2_with fail
      refine (specReadDec_any ⟨p2.toArray⟩ _ (by rw [size_of]; exact m2)).mono ?_
      rintro e w' ⟨rfl, rfl⟩
      obtain ⟨z2, HZ2⟩ : ∃ z, Hid (readL p2 = z) := ⟨_, Lib.hid rfl⟩
      rw [show readL (⟨p2.toArray⟩ : ByteArray).data.toList = z2 from HZ2.out]
      have v5 := heap_set2 v4 (.int .i64 z2)
      have r5 := heap_other (g := w.heap.size + 1) (o := 2) r4 (.int .i64 z2) (by omega)
      have B5 := ((B2.setCell (p := ⟨w.heap.size + 1, 0, none⟩) (Nat.le_succ _) (.int .i64 z0)).setCell (p := ⟨w.heap.size + 1, 1, none⟩) (Nat.le_succ _) (.int .i64 z1)).setCell (p := ⟨w.heap.size + 1, 2, none⟩) (Nat.le_succ _) (.int .i64 z2)
      have hS5 : Strs (((w2.setCell ⟨w.heap.size + 1, 0, none⟩ (.int .i64 z0)).setCell ⟨w.heap.size + 1, 1, none⟩ (.int .i64 z1)).setCell ⟨w.heap.size + 1, 2, none⟩ (.int .i64 z2)) (w.heap.size + 2) (.slice none 0 0) (tailL s.data.toList) := by rw [HTL.out]; exact Strs.nil _ _
      obtain ⟨i0, i1, i2, i3⟩ := cells4 v5
      go_wp2_with fail
      clear t0 t1 t2 t3 i0 i1 i2 i3 u0 u1 u2 u3 f1 f2 x0 x1 x2 y1 y2 yy2 v2 v3 v4 r2 r3 r4 B2
      generalize ((w2.setCell ⟨w.heap.size + 1, 0, none⟩ (.int .i64 z0)).setCell ⟨w.heap.size + 1, 1, none⟩ (.int .i64 z1)).setCell ⟨w.heap.size + 1, 2, none⟩ (.int .i64 z2) = W5 at *
      refine (specVersionText_any z0 z1 z2 _ (tailL s.data.toList) _ (RdS.of_strs hS5) (tail_sm HSZ.out)).mono ?_
      rintro e w6 ⟨rfl, hb6⟩
      have v6 := keepB v5 hb6
      have r6 := keepB r5 hb6
      have B6 := B5.trans (hb6.mono B5.size)
      have hS6 := hS5.below hb6
      have hw := hS5.owned
      clear v5 r5 B5 hS5 hb6
      by_cases hv : verOk z0 z1 z2 (tailL s.data.toList) = true
      · have HE : Hid (verText z0 z1 z2 (tailL s.data.toList) = s.data.toList) := Lib.hid (by have := HTX.out; rw [HZ0.out, HZ1.out, HZ2.out] at this; exact this hv)
        have HOK : Hid (readOk s.data.toList = true) := Lib.hid (by rw [HR.out, HZ0.out, HZ1.out, HZ2.out]; exact hv)
        have e9 : ((verText z0 z1 z2 (tailL s.data.toList)) == s.toList) = true := by rw [HE.out, ByteArray.toList_eq]; simp
        clear hv
        obtain ⟨p0', p1', p2', p3'⟩ := cells4 v6
        obtain ⟨q0, q1, q2, q3⟩ := cells4 r6
        have f0 := frozen4 r6 0
        have f1 := frozen4 r6 1
        have f2 := frozen4 r6 2
        have f3 := frozen4 r6 3
        go_wp2_with fail
        refine bodyPost_ret (v := .tuple #[.agg #[.int .i64 (z0), .int .i64 (z1), .int .i64 (z2), .slice none 0 0], .bool true]) ?_ rfl (by rw [← HZ0.out, ← HZ1.out, ← HZ2.out]; exact readIs_good HPP.out HOK.out (strs_result (hS6.weaken (by omega)) (fun g h => by have := hw g h; omega) _ _ _ _) (below_result B6 (by omega) _ _ _ _))
        simp [results, Tryz.results97, go_sem, q0, q1, q2, q3]
      · have HE : Hid (¬ verText z0 z1 z2 (tailL s.data.toList) = s.data.toList) := Lib.hid (by have := HTN.out; rw [HZ0.out, HZ1.out, HZ2.out] at this; exact this hv)
        have HOK : Hid (readOk s.data.toList = false) := Lib.hid (by rw [HR.out, HZ0.out, HZ1.out, HZ2.out]; simpa using hv)
        have e9 : ((verText z0 z1 z2 (tailL s.data.toList)) == s.toList) = false := by rw [ByteArray.toList_eq]; simpa using HE.out
        clear hv
        obtain ⟨q0, q1, q2, q3⟩ := cells4 r6
        have f0 := frozen4 r6 0
        have f1 := frozen4 r6 1
        have f2 := frozen4 r6 2
        have f3 := frozen4 r6 3
        go_wp2_with fail
        refine bodyPost_ret (v := .tuple #[.agg #[.int .i64 0, .int .i64 0, .int .i64 0, .slice none 0 0], .bool false]) ?_ rfl (readIs_bad HOK.out (below_result B6 (by omega) _ _ _ _))
        simp [results, Tryz.results97, go_sem, q0, q1, q2, q3]
    · have HOK := Lib.hid (readOk_bad h3)
      have q9 : (((partsL s.data.toList).length : Int) != 3) = true := int_bne_true (by omega)
      clear h3
      obtain ⟨q0, q1, q2, q3⟩ := cells4 r2
      have f0 := frozen4 r2 0
      have f1 := frozen4 r2 1
      have f2 := frozen4 r2 2
      have f3 := frozen4 r2 3
      go_wp2_with fail
      refine bodyPost_ret (v := .tuple #[.agg #[.int .i64 0, .int .i64 0, .int .i64 0, .slice none 0 0], .bool false]) ?_ rfl (readIs_bad HOK.out (below_result B2 (by omega) _ _ _ _))
      simp [results, Tryz.results97, go_sem, q0, q1, q2, q3]
end Go.Proofs.YtongpnknmgbhjaaGreatDoor

/-
  spec.Exact: the bound of one version alone.
-/
namespace Go.Proofs.YtongpnknmgbhjaaGreatDoor
open Go.RowKit

theorem sm_z : Sm [[48]] := ⟨by simp, fun l h => by simp at h; subst h; simp⟩
theorem sm_readP (l : List UInt8) : Sm (readP l) := by
  have h5 := readP_sm l
  refine ⟨by omega, fun x hx => ?_⟩
  unfold readP at hx
  split at hx
  · rename_i h
    have hv := read_ver h
    have : readP l = tailL l := by simp [readP, h]
    rw [← this] at hx
    have := verOk_len hv x hx
    omega
  · cases hx
theorem next_plus {a b c : Int} (h : verOk a b c [] = true) : (c < 999999999 → nextN a b c [] 2 = (a, b, c + 1)) ∧ (¬ c < 999999999 → nextN a b c [] 2 = (a, b, c)) ∧ nextL a b c [] 2 = [] := by
  have hx : nxt a b c [] 2 = (a, b, c + 1) := by unfold nxt; simp
  have hn : nextOk a b c [] 2 = verOk a b (c + 1) [] := nextOk_of h (by decide) hx
  rw [(plus_ok h).2] at hn
  refine ⟨fun hc => ?_, fun hc => ?_, ?_⟩
  · rw [(next_good (by rw [hn]; exact decide_eq_true hc)).1, hx]
  · rw [(next_same (by rw [hn]; exact decide_eq_false hc)).1]
  · unfold nextL; split <;> rfl
theorem cmp_plus (a b c : Int) : ¬ cmpVer a b (c + 1) [] a b c [] = 0 := by
  unfold cmpVer
  rw [cmpI_same, cmpI_same, orI_zero, orI_zero]
  have : cmpI (c + 1) c = 1 := by unfold cmpI; rw [if_neg (by omega), if_pos (by omega)]
  rw [this, orI_ne _ (by omega)]
  omega
theorem cmp_self (a b c : Int) : cmpVer a b c [] a b c [] = 0 := by
  unfold cmpVer
  rw [cmpI_same, cmpI_same, cmpI_same, orI_zero, orI_zero, orI_zero]
  rfl

theorem rdS_lit1 (W : World) (n : Nat) (hn : W.heap.size = n) (x : List UInt8) (T : TypeId) : RdS (W.alloc (.cells #[.string ⟨x.toArray⟩] T)) (.slice (some ⟨n, 0, none⟩) 1 1) [x] := by
  subst hn
  refine ⟨_, 1, rfl, fun _ => ⟨W.heap.size, 0, rfl, by simp, fun k hk => ?_⟩⟩
  have hk0 : k = 0 := by simp at hk; omega
  subst hk0
  have hc : ∀ (V : World) (n : Nat) (v : Value), V.heap[n]? = some (.cells #[v] T) → V.cell? ⟨n, 0, none⟩ = some v := fun V n v h => by simp [World.cell?, h]
  exact hc _ _ _ (heap_alloc_new W (.cells #[.string ⟨x.toArray⟩] T))

set_option maxRecDepth 100000 in
set_option maxHeartbeats 4000000 in
theorem l03Below_yes (a b c : Int) (A : Option Addr) (n cap : Nat) (w : World) (hv : verOk a b c [] = true) (hc : c < 999999999) :
    Calls Tryz.prog 155 #[.agg #[.int .i64 a, .int .i64 b, .int .i64 c, .slice A n cap], .int .i64 2] w fun e w' => e = .returned (.tuple #[.string ⟨(verText a b (c + 1) [[48]]).toArray⟩, .bool true]) ∧ Below w.heap.size w w' := by
  obtain ⟨hN, _, hL⟩ := next_plus hv
  have HX := Lib.hid (fun (v : Value) (W : World) (h : RdS W v []) => specNext_any a b c 2 v [] W h sm_nil a b (c + 1) [] (hN hc) hL)
  have HC := Lib.hid (fun (va vb : Value) (W : World) (h1 : RdS W va []) (h2 : RdS W vb []) => specCompareVersion_any a b (c + 1) a b c va vb [] [] W h1 h2 sm_nil sm_nil)
  have hcp := cmp_plus a b c
  obtain ⟨z, HZ⟩ : ∃ z, Hid (cmpVer a b (c + 1) [] a b c [] = z) := ⟨_, Lib.hid rfl⟩
  simp only [HZ.out] at HC
  rw [HZ.out] at hcp
  have hz : (z == 0) = false := int_beq_false hcp
  have HT := Lib.hid (fun (v : Value) (W : World) (h : RdS W v [[48]]) => specVersionText_any a b (c + 1) v [[48]] W h sm_z)
  obtain ⟨t, HTT⟩ : ∃ t, Hid (verText a b (c + 1) [[48]] = t) := ⟨_, Lib.hid rfl⟩
  simp only [HTT.out] at HT
  rw [HTT.out]
  clear hN hL hv hcp
  have B0 : Below w.heap.size w ((w.alloc (.cells #[.int .i64 a, .int .i64 b, .int .i64 c, .slice (some ⟨w.heap.size + 1, 0, none⟩) 0 0] 127)).alloc (.cells #[] 9)) := ((Below.refl _ _).alloc (Nat.le_refl _) _).alloc (by simp) _
  have bx := keepA (heap_alloc_new w (.cells #[.int .i64 a, .int .i64 b, .int .i64 c, .slice (some ⟨w.heap.size + 1, 0, none⟩) 0 0] 127)) (.cells #[] 9)
  have hr0 : ∀ (W : World), RdS W (.slice (some ⟨w.heap.size + 1, 0, none⟩) 0 0) [] := fun W => ⟨_, _, rfl, fun h => by simp at h⟩
  go_enter Tryz.func155, Tryz.ntmps155
  go_wp2_with fail
  refine (HX.out _ _ (hr0 _)).mono ?_
  rintro e w1 ⟨u, rfl, hu, hb1⟩
  obtain ⟨U, uc, rfl⟩ := hu.slice
  have B1 := B0.trans (hb1.mono B0.size)
  have b1 := keepB bx hb1
  have hu1 : ∀ W, RdS W (.slice U 0 uc) [] := fun W => ⟨_, _, rfl, fun h => by simp at h⟩
  have hs1 : w.heap.size ≤ w1.heap.size := B1.size
  clear hb1 bx B0 hu
  have B2 : Below w.heap.size w (w1.alloc (.cells #[.int .i64 a, .int .i64 b, .int .i64 (c + 1), .slice U 0 uc] 127)) := B1.alloc B1.size _
  have b2 := keepA b1 (.cells #[.int .i64 a, .int .i64 b, .int .i64 (c + 1), .slice U 0 uc] 127)
  have n2 := heap_alloc_new w1 (.cells #[.int .i64 a, .int .i64 b, .int .i64 (c + 1), .slice U 0 uc] 127)
  obtain ⟨p0, p1, p2, p3⟩ := cells4 b2
  go_wp2_with fail
  refine (HC.out _ _ _ (hu1 _) (hr0 _)).mono ?_
  rintro e w3 ⟨rfl, hb3⟩
  have B3 := B2.trans (hb3.mono B2.size)
  have n3 := keepB n2 hb3
  clear hb3 B2 b2 n2 p0 p1 p2 p3 b1 B1
  obtain ⟨q0, q1, q2, q3⟩ := cells4 n3
  have f3 := frozen4 n3 3
  have hs4 : w1.heap.size < w3.heap.size := lt_of_heap n3
  go_wp2_with fail
  refine (HT.out _ _ (rdS_lit1 _ _ (by simp) [48] _)).mono ?_
  rintro e w5 ⟨rfl, hb5⟩
  have B4 := (B3.setCell (p := ⟨w1.heap.size, 3, none⟩) hs1 (.slice (some ⟨w3.heap.size, 0, none⟩) 1 1)).alloc (by simp; omega) (.cells #[.string ⟨#[48]⟩] 9)
  go_wp2_with fail
  go_ret2
  exact ⟨rfl, B4.trans (hb5.mono (by simp; omega))⟩

set_option maxRecDepth 100000 in
set_option maxHeartbeats 4000000 in
theorem l03Below_no (a b c : Int) (A : Option Addr) (n cap : Nat) (w : World) (hv : verOk a b c [] = true) (hc : ¬ c < 999999999) :
    Calls Tryz.prog 155 #[.agg #[.int .i64 a, .int .i64 b, .int .i64 c, .slice A n cap], .int .i64 2] w fun e w' => e = .returned (.tuple #[.string ⟨#[]⟩, .bool false]) ∧ Below w.heap.size w w' := by
  obtain ⟨_, hN, hL⟩ := next_plus hv
  have HX := Lib.hid (fun (v : Value) (W : World) (h : RdS W v []) => specNext_any a b c 2 v [] W h sm_nil a b c [] (hN hc) hL)
  have HC := Lib.hid (fun (va vb : Value) (W : World) (h1 : RdS W va []) (h2 : RdS W vb []) => specCompareVersion_any a b c a b c va vb [] [] W h1 h2 sm_nil sm_nil)
  simp only [cmp_self] at HC
  clear hN hL hv
  have B0 : Below w.heap.size w ((w.alloc (.cells #[.int .i64 a, .int .i64 b, .int .i64 c, .slice (some ⟨w.heap.size + 1, 0, none⟩) 0 0] 127)).alloc (.cells #[] 9)) := ((Below.refl _ _).alloc (Nat.le_refl _) _).alloc (by simp) _
  have bx := keepA (heap_alloc_new w (.cells #[.int .i64 a, .int .i64 b, .int .i64 c, .slice (some ⟨w.heap.size + 1, 0, none⟩) 0 0] 127)) (.cells #[] 9)
  have hr0 : ∀ (W : World), RdS W (.slice (some ⟨w.heap.size + 1, 0, none⟩) 0 0) [] := fun W => ⟨_, _, rfl, fun h => by simp at h⟩
  go_enter Tryz.func155, Tryz.ntmps155
  go_wp2_with fail
  refine (HX.out _ _ (hr0 _)).mono ?_
  rintro e w1 ⟨u, rfl, hu, hb1⟩
  obtain ⟨U, uc, rfl⟩ := hu.slice
  have B1 := B0.trans (hb1.mono B0.size)
  have b1 := keepB bx hb1
  have hu1 : ∀ W, RdS W (.slice U 0 uc) [] := fun W => ⟨_, _, rfl, fun h => by simp at h⟩
  clear hb1 bx B0 hu
  have B2 : Below w.heap.size w (w1.alloc (.cells #[.int .i64 a, .int .i64 b, .int .i64 c, .slice U 0 uc] 127)) := B1.alloc B1.size _
  have b2 := keepA b1 (.cells #[.int .i64 a, .int .i64 b, .int .i64 c, .slice U 0 uc] 127)
  obtain ⟨p0, p1, p2, p3⟩ := cells4 b2
  go_wp2_with fail
  refine (HC.out _ _ _ (hu1 _) (hr0 _)).mono ?_
  rintro e w3 ⟨rfl, hb3⟩
  go_wp2_with fail
  go_ret2
  exact ⟨rfl, B2.trans (hb3.mono B2.size)⟩

theorem cellsD {V : World} {B : Nat} {T : TypeId} {v0 v1 : Value} (h : V.heap[B]? = some (.cells #[v0, v1] T)) : V.cell? ⟨B, 0, none⟩ = some v0 ∧ V.cell? ⟨B, 1, none⟩ = some v1 ∧ ∀ o, V.frozen? ⟨B, o, none⟩ = false := by
  refine ⟨by simp [World.cell?, h], by simp [World.cell?, h], fun o => by simp [World.frozen?, h]⟩
/-- What l03Alone hands back. -/
def aloneV (ok : Bool) (l hi : List UInt8) : Value := .tuple #[.agg #[.string ⟨(if ok = true then l else []).toArray⟩, .string ⟨(if ok = true then hi else []).toArray⟩], .bool ok]

set_option maxRecDepth 100000 in
set_option maxHeartbeats 4000000 in
theorem l03Alone_any (l : List UInt8) (w : World) (hl : l.length ≤ 1048576) :
    Calls Tryz.prog 101 #[.string ⟨l.toArray⟩] w fun e w' => e = .returned (aloneV (exOk l) l (exHigh l)) ∧ Below w.heap.size w w' := by
  have HV : Hid (∀ W, Calls Tryz.prog 97 #[.string ⟨l.toArray⟩] W (ReadIs W l)) := Lib.hid (fun W => specReadVersion_any ⟨l.toArray⟩ W (by show l.toArray.size ≤ _; simp; omega))
  have B0 : Below w.heap.size w (w.alloc (.cells #[.string ⟨#[]⟩, .string ⟨#[]⟩] 73)) := (Below.refl _ _).alloc (Nat.le_refl _) _
  have bx := heap_alloc_new w (.cells #[.string ⟨#[]⟩, .string ⟨#[]⟩] 73)
  cases hok : readOk l with
  | false =>
    rw [exOk_bad hok]
    have HO := Lib.hid hok
    clear hok
    go_enter Tryz.func101, Tryz.ntmps101
    go_wp2_with fail
    refine (HV.out _).mono ?_
    rintro e w1 ⟨u, rfl, hu, hb1⟩
    obtain ⟨U, uc, rfl⟩ := hu.slice
    rw [HO.out]
    have B1 := B0.trans (hb1.mono B0.size)
    have b1 := keepB bx hb1
    have B2 := B1.alloc B1.size (.cells #[.int .i64 (readA l 0), .int .i64 (readA l 1), .int .i64 (readA l 2), .slice U (readP l).length uc] 127)
    obtain ⟨c0, c1, f1⟩ := cellsD (keepA b1 (.cells #[.int .i64 (readA l 0), .int .i64 (readA l 1), .int .i64 (readA l 2), .slice U (readP l).length uc] 127))
    go_wp2_with fail
    refine bodyPost_ret (v := aloneV false l (exHigh l)) ?_ rfl ⟨rfl, ?_⟩
    · simp [results, Tryz.results101, go_sem, aloneV, c0, c1]
    · exact (B2.setCell (p := ⟨w.heap.size, 0, none⟩) (Nat.le_refl _) _).setCell (p := ⟨w.heap.size, 1, none⟩) (Nat.le_refl _) _
  | true =>
    have HO := Lib.hid hok
    have HEX := Lib.hid (exOk_of hok)
    obtain ⟨l2, HL2⟩ : ∃ l2, Hid (l2 = l ++ [46, 48]) := ⟨_, Lib.hid rfl⟩
    have hl2 : l2.length ≤ 1048576 := by have h2 : l.length ≤ 200 := (by have := read_back hok; rw [← this]; exact verText_le); rw [HL2.out]; simp; omega
    have HV2 : Hid (∀ W, Calls Tryz.prog 97 #[.string ⟨l2.toArray⟩] W (ReadIs W l2)) := Lib.hid (fun W => specReadVersion_any ⟨l2.toArray⟩ W (by show l2.toArray.size ≤ _; simp; omega))
    have hvr := read_ver hok
    by_cases hp : readP l = []
    · have HPE := Lib.hid hp
      have HM := Lib.hid (plain_empty hok hp)
      have HH := Lib.hid (plain_high hp)
      rw [hp] at hvr
      by_cases hc : readA l 2 < 999999999
      · have HXX : Hid (exOk l = true) := Lib.hid (by rw [HEX.out, HM.out, decide_eq_true hc]; rfl)
        rw [HXX.out]
        have HB := Lib.hid (fun (U : Option Addr) (n cap : Nat) W => l03Below_yes (readA l 0) (readA l 1) (readA l 2) U n cap W hvr hc)
        rw [← HH.out] at HB
        obtain ⟨hi, HHI⟩ : ∃ hi, Hid (exHigh l = hi) := ⟨_, Lib.hid rfl⟩
        simp only [HHI.out] at HB
        rw [HHI.out]
        clear hok hp hc hvr
        go_enter Tryz.func101, Tryz.ntmps101
        go_wp2_with fail
        refine (HV.out _).mono ?_
        rintro e w1 ⟨u, rfl, hu, hb1⟩
        obtain ⟨U, uc, rfl⟩ := hu.slice
        rw [HO.out, HPE.out]
        have B1 := B0.trans (hb1.mono B0.size)
        have b1 := keepB bx hb1
        have B2 := B1.alloc B1.size (.cells #[.int .i64 (readA l 0), .int .i64 (readA l 1), .int .i64 (readA l 2), .slice U 0 uc] 127)
        have b2 := keepA b1 (.cells #[.int .i64 (readA l 0), .int .i64 (readA l 1), .int .i64 (readA l 2), .slice U 0 uc] 127)
        clear hb1 bx B0 hu b1 B1
        go_wp2_with fail
        refine (HB.out _ _ _ _).mono ?_
        rintro e w3 ⟨rfl, hb3⟩
        have B3 := B2.trans (hb3.mono B2.size)
        obtain ⟨c0, c1, f1⟩ := cellsD (keepB b2 hb3)
        go_wp2_with fail
        refine bodyPost_ret (v := aloneV true l hi) ?_ rfl ⟨rfl, ?_⟩
        · simp [results, Tryz.results101, go_sem, aloneV, c0, c1]
        · exact (B3.setCell (p := ⟨w.heap.size, 0, none⟩) (Nat.le_refl _) _).setCell (p := ⟨w.heap.size, 1, none⟩) (Nat.le_refl _) _
      · have HXX : Hid (exOk l = false) := Lib.hid (by rw [HEX.out, HM.out, decide_eq_false hc]; rfl)
        rw [HXX.out]
        have HB := Lib.hid (fun (U : Option Addr) (n cap : Nat) W => l03Below_no (readA l 0) (readA l 1) (readA l 2) U n cap W hvr hc)
        obtain ⟨hi, HHI⟩ : ∃ hi, Hid (exHigh l = hi) := ⟨_, Lib.hid rfl⟩
        rw [HHI.out]
        clear hok hp hc hvr
        go_enter Tryz.func101, Tryz.ntmps101
        go_wp2_with fail
        refine (HV.out _).mono ?_
        rintro e w1 ⟨u, rfl, hu, hb1⟩
        obtain ⟨U, uc, rfl⟩ := hu.slice
        rw [HO.out, HPE.out]
        have B1 := B0.trans (hb1.mono B0.size)
        have b1 := keepB bx hb1
        have B2 := B1.alloc B1.size (.cells #[.int .i64 (readA l 0), .int .i64 (readA l 1), .int .i64 (readA l 2), .slice U 0 uc] 127)
        have b2 := keepA b1 (.cells #[.int .i64 (readA l 0), .int .i64 (readA l 1), .int .i64 (readA l 2), .slice U 0 uc] 127)
        clear hb1 bx B0 hu b1 B1
        go_wp2_with fail
        refine (HB.out _ _ _ _).mono ?_
        rintro e w3 ⟨rfl, hb3⟩
        have B3 := B2.trans (hb3.mono B2.size)
        obtain ⟨c0, c1, f1⟩ := cellsD (keepB b2 hb3)
        go_wp2_with fail
        refine bodyPost_ret (v := aloneV false l hi) ?_ rfl ⟨rfl, ?_⟩
        · simp [results, Tryz.results101, go_sem, aloneV, c0, c1]
        · exact (B3.setCell (p := ⟨w.heap.size, 0, none⟩) (Nat.le_refl _) _).setCell (p := ⟨w.heap.size, 1, none⟩) (Nat.le_refl _) _
    · have HMO := Lib.hid (more_ok hok hp)
      have HMT := Lib.hid (more_text hok hp)
      rw [← HL2.out] at HMO HMT
      have hpl : ¬ (readP l).length = 0 := fun e => hp (List.eq_nil_of_length_eq_zero e)
      have h5 := readP_sm l
      have s1 : ∀ W, (Op.stringOp .add ⟨l.toArray⟩ ⟨#[46, 48]⟩).run Tryz.prog W = .ok (.string ⟨l2.toArray⟩) W := fun W => by rw [HL2.out]; exact add_lists W l [46, 48] (by omega) (by simp)
      obtain ⟨n, HNN⟩ : ∃ n, Hid ((readP l).length = n) := ⟨_, Lib.hid rfl⟩
      rw [HNN.out] at hpl h5
      have hg : (0 : Int) < (n : Int) := by omega
      cases he : (exHigh l).isEmpty with
      | true =>
        have HXX : Hid (exOk l = false) := Lib.hid (by rw [HEX.out, he]; rfl)
        have HOO : Hid (readOk l2 = false) := Lib.hid (by rw [HMO.out, he]; rfl)
        rw [HXX.out]
        obtain ⟨hi, HHI⟩ : ∃ hi, Hid (exHigh l = hi) := ⟨_, Lib.hid rfl⟩
        rw [HHI.out]
        clear hok hp hvr he HMT
        go_enter Tryz.func101, Tryz.ntmps101
        go_wp2_with fail
        refine (HV.out _).mono ?_
        rintro e w1 ⟨u, rfl, hu, hb1⟩
        obtain ⟨U, uc, rfl⟩ := hu.slice
        rw [HO.out, HNN.out]
        have B1 := B0.trans (hb1.mono B0.size)
        have b1 := keepB bx hb1
        have B2 := B1.alloc B1.size (.cells #[.int .i64 (readA l 0), .int .i64 (readA l 1), .int .i64 (readA l 2), .slice U n uc] 127)
        have b2 := keepA b1 (.cells #[.int .i64 (readA l 0), .int .i64 (readA l 1), .int .i64 (readA l 2), .slice U n uc] 127)
        clear hb1 bx B0 hu b1 B1
        go_wp2_with fail
        refine (HV2.out _).mono ?_
        rintro e w3 ⟨u3, rfl, hu3, hb3⟩
        obtain ⟨U3, uc3, rfl⟩ := hu3.slice
        rw [HOO.out]
        have B3 := B2.trans (hb3.mono B2.size)
        obtain ⟨c0, c1, f1⟩ := cellsD (keepB b2 hb3)
        go_wp2_with fail
        refine bodyPost_ret (v := aloneV false l hi) ?_ rfl ⟨rfl, ?_⟩
        · simp [results, Tryz.results101, go_sem, aloneV, c0, c1]
        · exact (B3.setCell (p := ⟨w.heap.size, 0, none⟩) (Nat.le_refl _) _).setCell (p := ⟨w.heap.size, 1, none⟩) (Nat.le_refl _) _
      | false =>
        have HXX : Hid (exOk l = true) := Lib.hid (by rw [HEX.out, he]; rfl)
        have HOO : Hid (readOk l2 = true) := Lib.hid (by rw [HMO.out, he]; rfl)
        have HHH : Hid (exHigh l = l2) := Lib.hid (HMT.out he)
        rw [HXX.out, HHH.out]
        clear hok hp hvr he HMT
        go_enter Tryz.func101, Tryz.ntmps101
        go_wp2_with fail
        refine (HV.out _).mono ?_
        rintro e w1 ⟨u, rfl, hu, hb1⟩
        obtain ⟨U, uc, rfl⟩ := hu.slice
        rw [HO.out, HNN.out]
        have B1 := B0.trans (hb1.mono B0.size)
        have b1 := keepB bx hb1
        have B2 := B1.alloc B1.size (.cells #[.int .i64 (readA l 0), .int .i64 (readA l 1), .int .i64 (readA l 2), .slice U n uc] 127)
        have b2 := keepA b1 (.cells #[.int .i64 (readA l 0), .int .i64 (readA l 1), .int .i64 (readA l 2), .slice U n uc] 127)
        clear hb1 bx B0 hu b1 B1
        go_wp2_with fail
        refine (HV2.out _).mono ?_
        rintro e w3 ⟨u3, rfl, hu3, hb3⟩
        obtain ⟨U3, uc3, rfl⟩ := hu3.slice
        rw [HOO.out]
        have B3 := B2.trans (hb3.mono B2.size)
        obtain ⟨c0, c1, f1⟩ := cellsD (keepB b2 hb3)
        go_wp2_with fail
        refine bodyPost_ret (v := aloneV true l l2) ?_ rfl ⟨rfl, ?_⟩
        · simp [results, Tryz.results101, go_sem, aloneV, c0, c1]
        · exact (B3.setCell (p := ⟨w.heap.size, 0, none⟩) (Nat.le_refl _) _).setCell (p := ⟨w.heap.size, 1, none⟩) (Nat.le_refl _) _

/-- What Exact hands back: a row of its own with the bounds. -/
def ExactIs (w : World) (l : List UInt8) (e : Ending) (w' : World) : Prop := ∃ g, e = .returned (.slice (some ⟨g, 0, none⟩) (exB l).length (exB l).length) ∧ w.heap.size ≤ g ∧ w'.heap[g]? = some (.cells (flat2 (exB l)).toArray 73) ∧ Below w.heap.size w w'

set_option maxRecDepth 100000 in
set_option maxHeartbeats 2000000 in
theorem specExact_any (l : List UInt8) (w : World) (hl : l.length ≤ 1048576) : Calls Tryz.prog 146 #[.string ⟨l.toArray⟩] w (ExactIs w l) := by
  have HA := Lib.hid (l03Alone_any l w hl)
  cases ho : exOk l with
  | false =>
    rw [ho] at HA
    have HX := Lib.hid (exB_no ho)
    clear ho
    go_enter Tryz.func146, Tryz.ntmps146
    go_wp2_with fail
    refine HA.out.mono ?_
    rintro e w1 ⟨rfl, hb1⟩
    unfold aloneV
    go_wp2_with fail
    go_ret
    refine ⟨w1.heap.size + 1, by rw [HX.out]; rfl, by have := hb1.size; omega, ?_, (hb1.alloc hb1.size _).alloc (by have := hb1.size; simp; omega) _⟩
    rw [HX.out]
    exact heap_new (by simp) _
  | true =>
    rw [ho] at HA
    have HX := Lib.hid (exB_yes ho)
    obtain ⟨hi, HHI⟩ : ∃ hi, Hid (exHigh l = hi) := ⟨_, Lib.hid rfl⟩
    rw [HHI.out] at HA HX
    clear ho
    go_enter Tryz.func146, Tryz.ntmps146
    go_wp2_with fail
    refine HA.out.mono ?_
    rintro e w1 ⟨rfl, hb1⟩
    unfold aloneV
    go_wp2_with fail
    go_ret
    refine ⟨w1.heap.size + 1, by rw [HX.out]; rfl, by have := hb1.size; omega, ?_, (hb1.alloc hb1.size _).alloc (by have := hb1.size; simp; omega) _⟩
    rw [HX.out]
    exact heap_new (by simp) _
end Go.Proofs.YtongpnknmgbhjaaGreatDoor

/-
  spec.l03Below at each part, l03From, l03Caret, l03Short: the bounds that begin with a version.
-/
namespace Go.Proofs.YtongpnknmgbhjaaGreatDoor
open Go.RowKit

set_option maxRecDepth 100000 in
set_option maxHeartbeats 4000000 in
theorem l03Below_part (a b c p : Int) (A : Option Addr) (n cap : Nat) (w : World) (hv : verOk a b c [] = true) (hp : inI p 0 2 = true) :
    Calls Tryz.prog 155 #[.agg #[.int .i64 a, .int .i64 b, .int .i64 c, .slice A n cap], .int .i64 p] w fun e w' => e = .returned (.tuple #[.string ⟨(rsd a b c p).toArray⟩, .bool (!(rsd a b c p).isEmpty)]) ∧ Below w.heap.size w w' := by
  obtain ⟨hY, hN, hL⟩ := next_step hv hp
  obtain ⟨x, y, z, hx⟩ : ∃ x y z, nxt a b c [] p = (x, y, z) := ⟨_, _, _, rfl⟩
  have HE := Lib.hid (rsd_empty a b c p)
  have HT0 : Hid (rsd a b c p = verText x y z [[48]]) := Lib.hid (by unfold rsd; rw [hx])
  rw [hx] at HE hY hN
  simp only at HE hY hN
  have hr0 : ∀ (W : World), RdS W (.slice (some ⟨w.heap.size + 1, 0, none⟩) 0 0) [] := fun W => ⟨_, _, rfl, fun h => by simp at h⟩
  have B0 : Below w.heap.size w ((w.alloc (.cells #[.int .i64 a, .int .i64 b, .int .i64 c, .slice (some ⟨w.heap.size + 1, 0, none⟩) 0 0] 127)).alloc (.cells #[] 9)) := ((Below.refl _ _).alloc (Nat.le_refl _) _).alloc (by simp) _
  have bx := keepA (heap_alloc_new w (.cells #[.int .i64 a, .int .i64 b, .int .i64 c, .slice (some ⟨w.heap.size + 1, 0, none⟩) 0 0] 127)) (.cells #[] 9)
  cases hok : verOk x y z [] with
  | true =>
    obtain ⟨hN2, hcp⟩ := hY hok
    have HX := Lib.hid (fun (v : Value) (W : World) (h : RdS W v []) => specNext_any a b c p v [] W h sm_nil x y z [] hN2 hL)
    have HC := Lib.hid (fun (va vb : Value) (W : World) (h1 : RdS W va []) (h2 : RdS W vb []) => specCompareVersion_any x y z a b c va vb [] [] W h1 h2 sm_nil sm_nil)
    obtain ⟨q, HZ⟩ : ∃ q, Hid (cmpVer x y z [] a b c [] = q) := ⟨_, Lib.hid rfl⟩
    simp only [HZ.out] at HC
    rw [HZ.out] at hcp
    have hz : (q == 0) = false := int_beq_false hcp
    have HT := Lib.hid (fun (v : Value) (W : World) (h : RdS W v [[48]]) => specVersionText_any x y z v [[48]] W h sm_z)
    have HB : Hid (Ending.returned (.tuple #[.string ⟨(verText x y z [[48]]).toArray⟩, .bool true]) = Ending.returned (.tuple #[.string ⟨(rsd a b c p).toArray⟩, .bool (!(rsd a b c p).isEmpty)])) := Lib.hid (by rw [HE.out, hok, HT0.out]; rfl)
    rw [← HB.out]
    obtain ⟨t, HTT⟩ : ∃ t, Hid (verText x y z [[48]] = t) := ⟨_, Lib.hid rfl⟩
    simp only [HTT.out] at HT
    rw [HTT.out]
    clear hN hY hN2 hL hv hcp hp hx HE HT0 HB hok
    go_enter Tryz.func155, Tryz.ntmps155
    go_wp2_with fail
    refine (HX.out _ _ (hr0 _)).mono ?_
    rintro e w1 ⟨u, rfl, hu, hb1⟩
    obtain ⟨U, uc, rfl⟩ := hu.slice
    have B1 := B0.trans (hb1.mono B0.size)
    have b1 := keepB bx hb1
    have hu1 : ∀ W, RdS W (.slice U 0 uc) [] := fun W => ⟨_, _, rfl, fun h => by simp at h⟩
    have hs1 : w.heap.size ≤ w1.heap.size := B1.size
    clear hb1 bx B0 hu
    have B2 : Below w.heap.size w (w1.alloc (.cells #[.int .i64 x, .int .i64 y, .int .i64 z, .slice U 0 uc] 127)) := B1.alloc B1.size _
    have b2 := keepA b1 (.cells #[.int .i64 x, .int .i64 y, .int .i64 z, .slice U 0 uc] 127)
    have n2 := heap_alloc_new w1 (.cells #[.int .i64 x, .int .i64 y, .int .i64 z, .slice U 0 uc] 127)
    obtain ⟨p0, p1, p2, p3⟩ := cells4 b2
    go_wp2_with fail
    refine (HC.out _ _ _ (hu1 _) (hr0 _)).mono ?_
    rintro e w3 ⟨rfl, hb3⟩
    have B3 := B2.trans (hb3.mono B2.size)
    have n3 := keepB n2 hb3
    clear hb3 B2 b2 n2 p0 p1 p2 p3 b1 B1
    obtain ⟨q0, q1, q2, q3⟩ := cells4 n3
    have f3 := frozen4 n3 3
    have hs4 : w1.heap.size < w3.heap.size := lt_of_heap n3
    go_wp2_with fail
    refine (HT.out _ _ (rdS_lit1 _ _ (by simp) [48] _)).mono ?_
    rintro e w5 ⟨rfl, hb5⟩
    have B4 := (B3.setCell (p := ⟨w1.heap.size, 3, none⟩) hs1 (.slice (some ⟨w3.heap.size, 0, none⟩) 1 1)).alloc (by simp; omega) (.cells #[.string ⟨#[48]⟩] 9)
    go_wp2_with fail
    go_ret2
    exact ⟨rfl, B4.trans (hb5.mono (by simp; omega))⟩
  | false =>
    have hN2 := hN hok
    have HX := Lib.hid (fun (v : Value) (W : World) (h : RdS W v []) => specNext_any a b c p v [] W h sm_nil a b c [] hN2 hL)
    have HC := Lib.hid (fun (va vb : Value) (W : World) (h1 : RdS W va []) (h2 : RdS W vb []) => specCompareVersion_any a b c a b c va vb [] [] W h1 h2 sm_nil sm_nil)
    simp only [cmp_self] at HC
    have HB : Hid (Ending.returned (.tuple #[.string ⟨#[]⟩, .bool false]) = Ending.returned (.tuple #[.string ⟨(rsd a b c p).toArray⟩, .bool (!(rsd a b c p).isEmpty)])) := Lib.hid (by
      have he : rsd a b c p = [] := List.isEmpty_iff.1 (by rw [HE.out, hok]; rfl)
      rw [he]; rfl)
    rw [← HB.out]
    clear hN hY hN2 hL hv hp hx HE HT0 HB hok
    go_enter Tryz.func155, Tryz.ntmps155
    go_wp2_with fail
    refine (HX.out _ _ (hr0 _)).mono ?_
    rintro e w1 ⟨u, rfl, hu, hb1⟩
    obtain ⟨U, uc, rfl⟩ := hu.slice
    have B1 := B0.trans (hb1.mono B0.size)
    have b1 := keepB bx hb1
    have hu1 : ∀ W, RdS W (.slice U 0 uc) [] := fun W => ⟨_, _, rfl, fun h => by simp at h⟩
    clear hb1 bx B0 hu
    have B2 : Below w.heap.size w (w1.alloc (.cells #[.int .i64 a, .int .i64 b, .int .i64 c, .slice U 0 uc] 127)) := B1.alloc B1.size _
    have b2 := keepA b1 (.cells #[.int .i64 a, .int .i64 b, .int .i64 c, .slice U 0 uc] 127)
    obtain ⟨p0, p1, p2, p3⟩ := cells4 b2
    go_wp2_with fail
    refine (HC.out _ _ _ (hu1 _) (hr0 _)).mono ?_
    rintro e w3 ⟨rfl, hb3⟩
    go_wp2_with fail
    go_ret2
    exact ⟨rfl, B2.trans (hb3.mono B2.size)⟩

/-- The two cells of a result of two texts and a Bool, read at the return. -/
theorem alt_ret {w w' : World} {ok : Bool} {b : Bd} {x y : ByteArray} (h : ok = true → x = ⟨b.1.toArray⟩ ∧ y = ⟨b.2.toArray⟩) (hb : Below w.heap.size w w') : AltIs w ok b (.returned (.tuple #[.agg #[.string x, .string y], .bool ok])) w' := ⟨x, y, rfl, h, hb⟩

set_option maxRecDepth 100000 in
set_option maxHeartbeats 4000000 in
theorem l03From_any (l : List UInt8) (a b c p : Int) (A : Option Addr) (n cap : Nat) (w : World) (hv : verOk a b c [] = true) (hp : inI p 0 2 = true) :
    Calls Tryz.prog 98 #[.string ⟨l.toArray⟩, .agg #[.int .i64 a, .int .i64 b, .int .i64 c, .slice A n cap], .int .i64 p] w (AltIs w (!(rsd a b c p).isEmpty) (l, rsd a b c p)) := by
  have HB := Lib.hid (fun W => l03Below_part a b c p A n cap W hv hp)
  obtain ⟨hi, HH⟩ : ∃ hi, Hid (rsd a b c p = hi) := ⟨_, Lib.hid rfl⟩
  simp only [HH.out] at HB
  rw [HH.out]
  clear hv hp
  have B0 : Below w.heap.size w ((w.alloc (.cells #[.int .i64 a, .int .i64 b, .int .i64 c, .slice A n cap] 127)).alloc (.cells #[.string ⟨#[]⟩, .string ⟨#[]⟩] 73)) := ((Below.refl _ _).alloc (Nat.le_refl _) _).alloc (by simp) _
  have r0 := heap_new (W := w.alloc (.cells #[.int .i64 a, .int .i64 b, .int .i64 c, .slice A n cap] 127)) (n := w.heap.size + 1) (by simp) (.cells #[.string ⟨#[]⟩, .string ⟨#[]⟩] 73)
  cases he : hi.isEmpty with
  | true =>
    rw [he] at HB
    clear he
    go_enter Tryz.func98, Tryz.ntmps98
    go_wp2_with fail
    refine (HB.out _).mono ?_
    rintro e w1 ⟨rfl, hb1⟩
    have B1 := B0.trans (hb1.mono B0.size)
    obtain ⟨c0, c1, f1⟩ := cellsD (keepB r0 hb1)
    go_wp2_with fail
    refine bodyPost_ret (v := .tuple #[.agg #[.string ⟨#[]⟩, .string ⟨#[]⟩], .bool false]) ?_ rfl ⟨_, _, rfl, fun h => (by cases h), ?_⟩
    · simp [results, Tryz.results98, go_sem, c0, c1]
    · exact (B1.setCell (p := ⟨w.heap.size + 1, 0, none⟩) (Nat.le_succ _) _).setCell (p := ⟨w.heap.size + 1, 1, none⟩) (Nat.le_succ _) _
  | false =>
    rw [he] at HB
    clear he
    go_enter Tryz.func98, Tryz.ntmps98
    go_wp2_with fail
    refine (HB.out _).mono ?_
    rintro e w1 ⟨rfl, hb1⟩
    have B1 := B0.trans (hb1.mono B0.size)
    obtain ⟨c0, c1, f1⟩ := cellsD (keepB r0 hb1)
    go_wp2_with fail
    refine bodyPost_ret (v := .tuple #[.agg #[.string ⟨l.toArray⟩, .string ⟨hi.toArray⟩], .bool true]) ?_ rfl ⟨_, _, rfl, fun _ => ⟨rfl, rfl⟩, ?_⟩
    · simp [results, Tryz.results98, go_sem, c0, c1]
    · exact (B1.setCell (p := ⟨w.heap.size + 1, 0, none⟩) (Nat.le_succ _) _).setCell (p := ⟨w.heap.size + 1, 1, none⟩) (Nat.le_succ _) _

set_option maxRecDepth 100000 in
set_option maxHeartbeats 1000000 in
theorem l03Caret_any (a b c : Int) (A : Option Addr) (n cap : Nat) (w : World) :
    Calls Tryz.prog 99 #[.agg #[.int .i64 a, .int .i64 b, .int .i64 c, .slice A n cap]] w fun e w' => e = .returned (.int .i64 (if 0 < a then 0 else if 0 < b then 1 else 2)) ∧ Below w.heap.size w w' := by
  have B0 : Below w.heap.size w (w.alloc (.cells #[.int .i64 a, .int .i64 b, .int .i64 c, .slice A n cap] 127)) := (Below.refl _ _).alloc (Nat.le_refl _) _
  by_cases h0 : 0 < a
  · rw [if_pos h0]
    go_enter Tryz.func99, Tryz.ntmps99
    go_wp2_with fail
    go_ret
    exact ⟨rfl, B0⟩
  · rw [if_neg h0]
    by_cases h1 : 0 < b
    · rw [if_pos h1]
      go_enter Tryz.func99, Tryz.ntmps99
      go_wp2_with fail
      go_ret
      exact ⟨rfl, B0⟩
    · rw [if_neg h1]
      go_enter Tryz.func99, Tryz.ntmps99
      go_wp2_with fail
      go_ret
      exact ⟨rfl, B0⟩

set_option maxRecDepth 100000 in
set_option maxHeartbeats 4000000 in
theorem l03Short_0 (l : List UInt8) (w : World) (hl : l.length ≤ 1048000) (hc : l.count 46 = 0) :
    Calls Tryz.prog 102 #[.string ⟨l.toArray⟩] w (AltIs w (fromOk (l ++ [46, 48, 46, 48]) 0) (fromB (l ++ [46, 48, 46, 48]) 0)) := by
  have hcut := cutL_count 46 l
  rw [hc] at hcut
  have HCUT := Lib.hid (fun W => l01Cut_any ⟨l.toArray⟩ 46 W (by rw [size_of]; omega))
  simp only [hcut] at HCUT
  have HPRE : Hid (readP (l ++ [46, 48, 46, 48]) = []) := Lib.hid (by have := few_pre (l := l) (by omega); rw [hc] at this; exact this)
  have s1 : ∀ W, (Op.stringOp .add ⟨l.toArray⟩ ⟨#[46, 48]⟩).run Tryz.prog W = .ok (.string ⟨(l ++ [46, 48]).toArray⟩) W := fun W => add_lists W l [46, 48] (by omega) (by simp)
  have s2 : ∀ W, (Op.stringOp .add ⟨l.toArray⟩ ⟨#[46, 48, 46, 48]⟩).run Tryz.prog W = .ok (.string ⟨(l ++ [46, 48, 46, 48]).toArray⟩) W := fun W => add_lists W l [46, 48, 46, 48] (by omega) (by simp)
  obtain ⟨L, HL⟩ : ∃ L, Hid (l ++ [46, 48, 46, 48] = L) := ⟨_, Lib.hid rfl⟩
  obtain ⟨M, HM⟩ : ∃ M, Hid (l ++ [46, 48] = M) := ⟨_, Lib.hid rfl⟩
  rw [HL.out] at HPRE ⊢
  simp only [HL.out, HM.out] at s1 s2
  have HV : Hid (∀ W, Calls Tryz.prog 97 #[.string ⟨L.toArray⟩] W (ReadIs W L)) := Lib.hid (fun W => specReadVersion_any ⟨L.toArray⟩ W (by rw [← HL.out, size_of]; simp; omega))
  have B0 : Below w.heap.size w (w.alloc (.cells #[.string ⟨#[]⟩, .string ⟨#[]⟩] 73)) := (Below.refl _ _).alloc (Nat.le_refl _) _
  have r0 := heap_alloc_new w (.cells #[.string ⟨#[]⟩, .string ⟨#[]⟩] 73)
  have HIN := Lib.hid (fun (W : World) => l01In_any 1 1 2 W)
  have hin : inI 1 1 2 = true := by decide
  simp only [hin] at HIN
  have hl2 := hl
  clear hl hc hcut
  cases hok : readOk L with
  | false =>
    have HO := Lib.hid hok
    rw [fromOk_bad hok]
    clear hok
    go_enter Tryz.func102, Tryz.ntmps102
    go_wp2_with fail
    refine (HCUT.out _).mono ?_
    rintro e w1 ⟨g, cap, rfl, hS, hb1⟩
    have B1 := B0.trans (hb1.mono B0.size)
    have r1 := keepB r0 hb1
    clear hb1 hS r0 B0
    go_wp2_with fail
    refine (HV.out _).mono ?_
    rintro e w2 ⟨u, rfl, hu, hb2⟩
    obtain ⟨U, uc, rfl⟩ := hu.slice
    rw [HO.out]
    have B2 := B1.trans (hb2.mono B1.size)
    have r2 := keepB r1 hb2
    obtain ⟨c0, c1, f1⟩ := cellsD r2
    have hlt := lt_of_heap r2
    have B3 := (below_res2 B2 (Nat.le_refl _) (.string ⟨#[]⟩) (.string ⟨#[]⟩)).alloc (by simpa using B2.size) (.cells #[.int .i64 (readA L 0), .int .i64 (readA L 1), .int .i64 (readA L 2), .slice U (readP L).length uc] 127)
    obtain ⟨y0, y1⟩ := two_cells (keepA (set2_heap r2 (.string ⟨#[]⟩) (.string ⟨#[]⟩)) (.cells #[.int .i64 (readA L 0), .int .i64 (readA L 1), .int .i64 (readA L 2), .slice U (readP L).length uc] 127))
    go_wp2_with fail
    refine bodyPost_ret (v := .tuple #[.agg #[.string ⟨#[]⟩, .string ⟨#[]⟩], .bool false]) ?_ rfl ⟨_, _, rfl, fun h => (by cases h), ?_⟩
    · simp [results, Tryz.results102, go_sem, y0, y1]
    · exact B3
  | true =>
    have HO := Lib.hid hok
    have HRN := read_num hok
    rw [fromOk_of hok]
    clear hok
    have HB := Lib.hid (fun (A : Option Addr) (n cap : Nat) W => l03Below_part (readA L 0) (readA L 1) (readA L 2) 0 A n cap W HRN (by decide))
    unfold fromB
    obtain ⟨hi, HH⟩ : ∃ hi, Hid (rsd (readA L 0) (readA L 1) (readA L 2) 0 = hi) := ⟨_, Lib.hid rfl⟩
    simp only [HH.out] at HB ⊢
    clear HRN
    cases he : hi.isEmpty with
    | true =>
      rw [he] at HB
      clear he
      go_enter Tryz.func102, Tryz.ntmps102
      go_wp2_with fail
      refine (HCUT.out _).mono ?_
      rintro e w1 ⟨g, cap, rfl, hS, hb1⟩
      have B1 := B0.trans (hb1.mono B0.size)
      have r1 := keepB r0 hb1
      clear hb1 hS r0 B0
      go_wp2_with fail
      refine (HV.out _).mono ?_
      rintro e w2 ⟨u, rfl, hu, hb2⟩
      obtain ⟨U, uc, rfl⟩ := hu.slice
      rw [HO.out, HPRE.out]
      have B2 := B1.trans (hb2.mono B1.size)
      have r2 := keepB r1 hb2
      have B3 := B2.alloc B2.size (.cells #[.int .i64 (readA L 0), .int .i64 (readA L 1), .int .i64 (readA L 2), .slice U 0 uc] 127)
      have r3 := keepA r2 (.cells #[.int .i64 (readA L 0), .int .i64 (readA L 1), .int .i64 (readA L 2), .slice U 0 uc] 127)
      have v3 := heap_alloc_new w2 (.cells #[.int .i64 (readA L 0), .int .i64 (readA L 1), .int .i64 (readA L 2), .slice U 0 uc] 127)
      clear hb2 B1 r1 hu
      go_wp2_with fail
      refine (HIN.out _).mono ?_
      rintro e w4 ⟨rfl, rfl⟩
      go_wp2_with fail
      refine (HB.out _ _ _ _).mono ?_
      rintro e w5 ⟨rfl, hb5⟩
      have B5 := B3.trans (hb5.mono B3.size)
      obtain ⟨c0, c1, f1⟩ := cellsD (keepB r3 hb5)
      go_wp2_with fail
      refine bodyPost_ret (v := .tuple #[.agg #[.string ⟨#[]⟩, .string ⟨#[]⟩], .bool false]) ?_ rfl ⟨_, _, rfl, fun h => (by cases h), ?_⟩
      · simp [results, Tryz.results102, go_sem, c0, c1]
      · exact (B5.setCell (p := ⟨w.heap.size, 0, none⟩) (Nat.le_refl _) _).setCell (p := ⟨w.heap.size, 1, none⟩) (Nat.le_refl _) _
    | false =>
      rw [he] at HB
      clear he
      go_enter Tryz.func102, Tryz.ntmps102
      go_wp2_with fail
      refine (HCUT.out _).mono ?_
      rintro e w1 ⟨g, cap, rfl, hS, hb1⟩
      have B1 := B0.trans (hb1.mono B0.size)
      have r1 := keepB r0 hb1
      clear hb1 hS r0 B0
      go_wp2_with fail
      refine (HV.out _).mono ?_
      rintro e w2 ⟨u, rfl, hu, hb2⟩
      obtain ⟨U, uc, rfl⟩ := hu.slice
      rw [HO.out, HPRE.out]
      have B2 := B1.trans (hb2.mono B1.size)
      have r2 := keepB r1 hb2
      have B3 := B2.alloc B2.size (.cells #[.int .i64 (readA L 0), .int .i64 (readA L 1), .int .i64 (readA L 2), .slice U 0 uc] 127)
      have r3 := keepA r2 (.cells #[.int .i64 (readA L 0), .int .i64 (readA L 1), .int .i64 (readA L 2), .slice U 0 uc] 127)
      have v3 := heap_alloc_new w2 (.cells #[.int .i64 (readA L 0), .int .i64 (readA L 1), .int .i64 (readA L 2), .slice U 0 uc] 127)
      clear hb2 B1 r1 hu
      go_wp2_with fail
      refine (HIN.out _).mono ?_
      rintro e w4 ⟨rfl, rfl⟩
      go_wp2_with fail
      refine (HB.out _ _ _ _).mono ?_
      rintro e w5 ⟨rfl, hb5⟩
      have B5 := B3.trans (hb5.mono B3.size)
      obtain ⟨c0, c1, f1⟩ := cellsD (keepB r3 hb5)
      go_wp2_with fail
      refine bodyPost_ret (v := .tuple #[.agg #[.string ⟨L.toArray⟩, .string ⟨hi.toArray⟩], .bool true]) ?_ rfl ⟨_, _, rfl, fun _ => ⟨rfl, rfl⟩, ?_⟩
      · simp [results, Tryz.results102, go_sem, c0, c1]
      · exact (B5.setCell (p := ⟨w.heap.size, 0, none⟩) (Nat.le_refl _) _).setCell (p := ⟨w.heap.size, 1, none⟩) (Nat.le_refl _) _

set_option maxRecDepth 100000 in
set_option maxHeartbeats 4000000 in
theorem l03Short_1 (l : List UInt8) (w : World) (hl : l.length ≤ 1048000) (hc : l.count 46 = 1) :
    Calls Tryz.prog 102 #[.string ⟨l.toArray⟩] w (AltIs w (fromOk (l ++ [46, 48]) 1) (fromB (l ++ [46, 48]) 1)) := by
  have hcut := cutL_count 46 l
  rw [hc] at hcut
  have HCUT := Lib.hid (fun W => l01Cut_any ⟨l.toArray⟩ 46 W (by rw [size_of]; omega))
  simp only [hcut] at HCUT
  have HPRE : Hid (readP (l ++ [46, 48]) = []) := Lib.hid (by have := few_pre (l := l) (by omega); rw [hc] at this; exact this)
  have s1 : ∀ W, (Op.stringOp .add ⟨l.toArray⟩ ⟨#[46, 48]⟩).run Tryz.prog W = .ok (.string ⟨(l ++ [46, 48]).toArray⟩) W := fun W => add_lists W l [46, 48] (by omega) (by simp)
  have s2 : ∀ W, (Op.stringOp .add ⟨l.toArray⟩ ⟨#[46, 48, 46, 48]⟩).run Tryz.prog W = .ok (.string ⟨(l ++ [46, 48, 46, 48]).toArray⟩) W := fun W => add_lists W l [46, 48, 46, 48] (by omega) (by simp)
  obtain ⟨L, HL⟩ : ∃ L, Hid (l ++ [46, 48] = L) := ⟨_, Lib.hid rfl⟩
  obtain ⟨M, HM⟩ : ∃ M, Hid (l ++ [46, 48, 46, 48] = M) := ⟨_, Lib.hid rfl⟩
  rw [HL.out] at HPRE ⊢
  simp only [HL.out, HM.out] at s1 s2
  have HV : Hid (∀ W, Calls Tryz.prog 97 #[.string ⟨L.toArray⟩] W (ReadIs W L)) := Lib.hid (fun W => specReadVersion_any ⟨L.toArray⟩ W (by rw [← HL.out, size_of]; simp; omega))
  have B0 : Below w.heap.size w (w.alloc (.cells #[.string ⟨#[]⟩, .string ⟨#[]⟩] 73)) := (Below.refl _ _).alloc (Nat.le_refl _) _
  have r0 := heap_alloc_new w (.cells #[.string ⟨#[]⟩, .string ⟨#[]⟩] 73)
  have HIN := Lib.hid (fun (W : World) => l01In_any 2 1 2 W)
  have hin : inI 2 1 2 = true := by decide
  simp only [hin] at HIN
  have hl2 := hl
  clear hl hc hcut
  cases hok : readOk L with
  | false =>
    have HO := Lib.hid hok
    rw [fromOk_bad hok]
    clear hok
    go_enter Tryz.func102, Tryz.ntmps102
    go_wp2_with fail
    refine (HCUT.out _).mono ?_
    rintro e w1 ⟨g, cap, rfl, hS, hb1⟩
    have B1 := B0.trans (hb1.mono B0.size)
    have r1 := keepB r0 hb1
    clear hb1 hS r0 B0
    go_wp2_with fail
    refine (HV.out _).mono ?_
    rintro e w2 ⟨u, rfl, hu, hb2⟩
    obtain ⟨U, uc, rfl⟩ := hu.slice
    rw [HO.out]
    have B2 := B1.trans (hb2.mono B1.size)
    have r2 := keepB r1 hb2
    obtain ⟨c0, c1, f1⟩ := cellsD r2
    have hlt := lt_of_heap r2
    have B3 := (below_res2 B2 (Nat.le_refl _) (.string ⟨#[]⟩) (.string ⟨#[]⟩)).alloc (by simpa using B2.size) (.cells #[.int .i64 (readA L 0), .int .i64 (readA L 1), .int .i64 (readA L 2), .slice U (readP L).length uc] 127)
    obtain ⟨y0, y1⟩ := two_cells (keepA (set2_heap r2 (.string ⟨#[]⟩) (.string ⟨#[]⟩)) (.cells #[.int .i64 (readA L 0), .int .i64 (readA L 1), .int .i64 (readA L 2), .slice U (readP L).length uc] 127))
    go_wp2_with fail
    refine bodyPost_ret (v := .tuple #[.agg #[.string ⟨#[]⟩, .string ⟨#[]⟩], .bool false]) ?_ rfl ⟨_, _, rfl, fun h => (by cases h), ?_⟩
    · simp [results, Tryz.results102, go_sem, y0, y1]
    · exact B3
  | true =>
    have HO := Lib.hid hok
    have HRN := read_num hok
    rw [fromOk_of hok]
    clear hok
    have HB := Lib.hid (fun (A : Option Addr) (n cap : Nat) W => l03Below_part (readA L 0) (readA L 1) (readA L 2) 1 A n cap W HRN (by decide))
    unfold fromB
    obtain ⟨hi, HH⟩ : ∃ hi, Hid (rsd (readA L 0) (readA L 1) (readA L 2) 1 = hi) := ⟨_, Lib.hid rfl⟩
    simp only [HH.out] at HB ⊢
    clear HRN
    cases he : hi.isEmpty with
    | true =>
      rw [he] at HB
      clear he
      go_enter Tryz.func102, Tryz.ntmps102
      go_wp2_with fail
      refine (HCUT.out _).mono ?_
      rintro e w1 ⟨g, cap, rfl, hS, hb1⟩
      have B1 := B0.trans (hb1.mono B0.size)
      have r1 := keepB r0 hb1
      clear hb1 hS r0 B0
      go_wp2_with fail
      refine (HV.out _).mono ?_
      rintro e w2 ⟨u, rfl, hu, hb2⟩
      obtain ⟨U, uc, rfl⟩ := hu.slice
      rw [HO.out, HPRE.out]
      have B2 := B1.trans (hb2.mono B1.size)
      have r2 := keepB r1 hb2
      have B3 := B2.alloc B2.size (.cells #[.int .i64 (readA L 0), .int .i64 (readA L 1), .int .i64 (readA L 2), .slice U 0 uc] 127)
      have r3 := keepA r2 (.cells #[.int .i64 (readA L 0), .int .i64 (readA L 1), .int .i64 (readA L 2), .slice U 0 uc] 127)
      have v3 := heap_alloc_new w2 (.cells #[.int .i64 (readA L 0), .int .i64 (readA L 1), .int .i64 (readA L 2), .slice U 0 uc] 127)
      clear hb2 B1 r1 hu
      go_wp2_with fail
      refine (HIN.out _).mono ?_
      rintro e w4 ⟨rfl, rfl⟩
      go_wp2_with fail
      refine (HB.out _ _ _ _).mono ?_
      rintro e w5 ⟨rfl, hb5⟩
      have B5 := B3.trans (hb5.mono B3.size)
      obtain ⟨c0, c1, f1⟩ := cellsD (keepB r3 hb5)
      go_wp2_with fail
      refine bodyPost_ret (v := .tuple #[.agg #[.string ⟨#[]⟩, .string ⟨#[]⟩], .bool false]) ?_ rfl ⟨_, _, rfl, fun h => (by cases h), ?_⟩
      · simp [results, Tryz.results102, go_sem, c0, c1]
      · exact (B5.setCell (p := ⟨w.heap.size, 0, none⟩) (Nat.le_refl _) _).setCell (p := ⟨w.heap.size, 1, none⟩) (Nat.le_refl _) _
    | false =>
      rw [he] at HB
      clear he
      go_enter Tryz.func102, Tryz.ntmps102
      go_wp2_with fail
      refine (HCUT.out _).mono ?_
      rintro e w1 ⟨g, cap, rfl, hS, hb1⟩
      have B1 := B0.trans (hb1.mono B0.size)
      have r1 := keepB r0 hb1
      clear hb1 hS r0 B0
      go_wp2_with fail
      refine (HV.out _).mono ?_
      rintro e w2 ⟨u, rfl, hu, hb2⟩
      obtain ⟨U, uc, rfl⟩ := hu.slice
      rw [HO.out, HPRE.out]
      have B2 := B1.trans (hb2.mono B1.size)
      have r2 := keepB r1 hb2
      have B3 := B2.alloc B2.size (.cells #[.int .i64 (readA L 0), .int .i64 (readA L 1), .int .i64 (readA L 2), .slice U 0 uc] 127)
      have r3 := keepA r2 (.cells #[.int .i64 (readA L 0), .int .i64 (readA L 1), .int .i64 (readA L 2), .slice U 0 uc] 127)
      have v3 := heap_alloc_new w2 (.cells #[.int .i64 (readA L 0), .int .i64 (readA L 1), .int .i64 (readA L 2), .slice U 0 uc] 127)
      clear hb2 B1 r1 hu
      go_wp2_with fail
      refine (HIN.out _).mono ?_
      rintro e w4 ⟨rfl, rfl⟩
      go_wp2_with fail
      refine (HB.out _ _ _ _).mono ?_
      rintro e w5 ⟨rfl, hb5⟩
      have B5 := B3.trans (hb5.mono B3.size)
      obtain ⟨c0, c1, f1⟩ := cellsD (keepB r3 hb5)
      go_wp2_with fail
      refine bodyPost_ret (v := .tuple #[.agg #[.string ⟨L.toArray⟩, .string ⟨hi.toArray⟩], .bool true]) ?_ rfl ⟨_, _, rfl, fun _ => ⟨rfl, rfl⟩, ?_⟩
      · simp [results, Tryz.results102, go_sem, c0, c1]
      · exact (B5.setCell (p := ⟨w.heap.size, 0, none⟩) (Nat.le_refl _) _).setCell (p := ⟨w.heap.size, 1, none⟩) (Nat.le_refl _) _

set_option maxRecDepth 100000 in
set_option maxHeartbeats 4000000 in
theorem l03Short_many (l : List UInt8) (w : World) (hl : l.length ≤ 1048000) (hc : 2 ≤ l.count 46) :
    Calls Tryz.prog 102 #[.string ⟨l.toArray⟩] w (AltIs w false ([], [])) := by
  have hcut := cutL_count 46 l
  have HCUT := Lib.hid (fun W => l01Cut_any ⟨l.toArray⟩ 46 W (by rw [size_of]; omega))
  have hcl : l.count 46 ≤ l.length := List.count_le_length
  obtain ⟨c, HC⟩ : ∃ c, c = l.count 46 + 1 := ⟨_, rfl⟩
  rw [← HC] at hcut
  simp only [hcut] at HCUT
  have s1 : ∀ W, (Op.stringOp .add ⟨l.toArray⟩ ⟨#[46, 48]⟩).run Tryz.prog W = .ok (.string ⟨(l ++ [46, 48]).toArray⟩) W := fun W => add_lists W l [46, 48] (by omega) (by simp)
  obtain ⟨L, HL⟩ : ∃ L, Hid (l ++ [46, 48] = L) := ⟨_, Lib.hid rfl⟩
  simp only [HL.out] at s1
  have HV : Hid (∀ W, Calls Tryz.prog 97 #[.string ⟨L.toArray⟩] W (ReadIs W L)) := Lib.hid (fun W => specReadVersion_any ⟨L.toArray⟩ W (by rw [← HL.out, size_of]; simp; omega))
  have B0 : Below w.heap.size w (w.alloc (.cells #[.string ⟨#[]⟩, .string ⟨#[]⟩] 73)) := (Below.refl _ _).alloc (Nat.le_refl _) _
  have r0 := heap_alloc_new w (.cells #[.string ⟨#[]⟩, .string ⟨#[]⟩] 73)
  have HIN := Lib.hid (fun (W : World) => l01In_any (c : Int) 1 2 W)
  have hin : inI (c : Int) 1 2 = false := by unfold inI; simp; omega
  simp only [hin] at HIN
  have n1 : ((c : Int) == 1) = false := int_beq_false (by omega)
  have hc3 : c ≤ 1048577 := by omega
  clear hl hc hcut hin hcl HC
  cases hok : readOk L
  all_goals
    have HO := Lib.hid hok
    clear hok
    go_enter Tryz.func102, Tryz.ntmps102
    go_wp2_with fail
    refine (HCUT.out _).mono ?_
    rintro e w1 ⟨g, cap, rfl, hS, hb1⟩
    have B1 := B0.trans (hb1.mono B0.size)
    have r1 := keepB r0 hb1
    clear hb1 hS r0 B0
    go_wp2_with fail
    refine (HV.out _).mono ?_
    rintro e w2 ⟨u, rfl, hu, hb2⟩
    obtain ⟨U, uc, rfl⟩ := hu.slice
    rw [HO.out]
    have B2 := B1.trans (hb2.mono B1.size)
    have r2 := keepB r1 hb2
    obtain ⟨c0, c1, f1⟩ := cellsD r2
    have hlt := lt_of_heap r2
    have B3 := (below_res2 B2 (Nat.le_refl _) (.string ⟨#[]⟩) (.string ⟨#[]⟩)).alloc (by simpa using B2.size) (.cells #[.int .i64 (readA L 0), .int .i64 (readA L 1), .int .i64 (readA L 2), .slice U (readP L).length uc] 127)
    obtain ⟨y0, y1⟩ := two_cells (keepA (set2_heap r2 (.string ⟨#[]⟩) (.string ⟨#[]⟩)) (.cells #[.int .i64 (readA L 0), .int .i64 (readA L 1), .int .i64 (readA L 2), .slice U (readP L).length uc] 127))
    go_wp2_with (first | (go_at_call 121; refine (HIN.out _).mono ?_; rintro e w4 ⟨rfl, rfl⟩))
    refine bodyPost_ret (v := .tuple #[.agg #[.string ⟨#[]⟩, .string ⟨#[]⟩], .bool false]) ?_ rfl ⟨_, _, rfl, fun h => (by cases h), ?_⟩
    · simp [results, Tryz.results102, go_sem, y0, y1]
    · exact B3
end Go.Proofs.YtongpnknmgbhjaaGreatDoor

/-
  spec.Words returns the parts between spaces.
-/
namespace Go.Proofs.YtongpnknmgbhjaaGreatDoor
open Go.RowKit

/-- How many parts there can be. -/
theorem cutL_le (m : UInt8) (l : List UInt8) : (cutL m l).length ≤ l.length + 1 := by
  induction l with
  | nil => simp [cutL]
  | cons c l ih =>
    unfold cutL
    split
    · simp; omega
    · cases h : cutL m l with
      | nil => simp [attach]
      | cons q qs => rw [h] at ih; simp [attach] at ih ⊢; omega

theorem specWords_any (s : ByteArray) (w : World) (hs : s.size ≤ 1048576) :
    Calls Tryz.prog 156 #[.string s] w fun e W' => ∃ g cap, e = .returned (.slice (some ⟨g, 0, none⟩) (cutL 32 s.data.toList).length cap) ∧ Strs W' w.heap.size (.slice (some ⟨g, 0, none⟩) (cutL 32 s.data.toList).length cap) (cutL 32 s.data.toList) ∧ Below w.heap.size w W' := by
  go_enter Tryz.func156, Tryz.ntmps156
  go_wp2_with fail
  refine (l01Cut_any s 32 w hs).mono ?_
  rintro e w1 ⟨g, cap, rfl, hS, hb⟩
  go_wp2_with fail
  go_ret
  exact ⟨g, cap, rfl, hS, hb⟩
end Go.Proofs.YtongpnknmgbhjaaGreatDoor

/-
  A row of bounds of the call's own.
-/
namespace Go.Proofs.YtongpnknmgbhjaaGreatDoor
open Go.RowKit

/-- v is the call's own row of these bounds. -/
def Bnds (w : World) (base : Nat) (v : Value) (bs : List Bd) : Prop := w.ownsRow base 73 2 v bs.length (flat2 bs)

theorem bndinfo : (Tryz.prog.info? 73).map (fun i => (i.zero, i.size, i.bytes)) = some (some (.agg #[.string ⟨#[]⟩, .string ⟨#[]⟩]), 2, 32) := by kernel_rfl

theorem Bnds.form {w : World} {base : Nat} {v : Value} {l : List Bd} (h : Bnds w base v l) : (v = .slice none 0 0 ∧ l = []) ∨ ∃ g cap, v = .slice (some ⟨g, 0, none⟩) l.length cap ∧ base ≤ g ∧ g < w.heap.size := by
  rcases h.2 with ⟨hv, hl⟩ | ⟨g, cap, cur, hv, hb, hh, _⟩
  · left
    refine ⟨hv, ?_⟩
    cases l with
    | nil => rfl
    | cons a t => simp at hl
  · right
    refine ⟨g, cap, hv, hb, ?_⟩
    rcases Nat.lt_or_ge g w.heap.size with hlt | hge
    · exact hlt
    · rw [Array.getElem?_eq_none hge] at hh; cases hh
theorem Bnds.alloc {w : World} {base : Nat} {v : Value} {l : List Bd} (h : Bnds w base v l) (o : Obj) : Bnds (w.alloc o) base v l := World.ownsRow.alloc h o
theorem Bnds.owned {w : World} {base : Nat} {v : Value} {l : List Bd} (h : Bnds w base v l) : ∀ g, v.ownBlock = some g → base ≤ g := by
  intro g hg
  rcases h.form with ⟨rfl, _⟩ | ⟨g', cap, rfl, hb, _⟩
  · simp [Value.ownBlock] at hg
  · simp [Value.ownBlock] at hg; omega
theorem Bnds.below {w w' : World} {base : Nat} {v : Value} {l : List Bd} (h : Bnds w base v l) (hb : Below w.heap.size w w') : Bnds w' base v l :=
  World.ownsRow.kept h (row := none) ⟨hb.os, hb.tape, hb.output, hb.size, fun i hi _ => hb.block i hi⟩ (by
    rcases h.form with ⟨rfl, _⟩ | ⟨g, cap, rfl, _, _⟩
    · left; rfl
    · right; simp [Value.ownBlock])
theorem Bnds.cell {w : World} {base : Nat} {l : List Bd} {g n cap : Nat} (h : Bnds w base (.slice (some ⟨g, 0, none⟩) n cap) l) (k : Nat) (hk : k < l.length) : w.cell? ⟨g, k * 2, none⟩ = some (sv l[k].1) ∧ w.cell? ⟨g, k * 2 + 1, none⟩ = some (sv l[k].2) := by
  have hadd : ∀ j, (⟨g, 0, none⟩ : Addr).add j = ⟨g, j, none⟩ := fun j => by unfold Addr.add; split <;> simp_all
  obtain ⟨e0, e1⟩ := flat2_get l k hk
  have h0 := World.ownsRow.cells (g := g) h rfl (k * 2) _ e0
  have h1 := World.ownsRow.cells (g := g) h rfl (k * 2 + 1) _ e1
  rw [hadd] at h0 h1
  exact ⟨h0, h1⟩
theorem RdB.of_bnds {w : World} {base : Nat} {v : Value} {bs : List Bd} (h : Bnds w base v bs) : RdB w v bs := by
  rcases h.form with ⟨rfl, rfl⟩ | ⟨g, cap, rfl, _, hg⟩
  · exact ⟨none, 0, rfl, fun h => absurd h (by simp)⟩
  · exact ⟨_, cap, rfl, fun _ => ⟨g, 0, rfl, hg, fun k hk => by rw [Nat.zero_add]; exact h.cell k hk⟩⟩
theorem Bnds.set {w : World} {base g cap : Nat} {l : List Bd} (h : Bnds w base (.slice (some ⟨g, 0, none⟩) l.length cap) l) (k : Nat) (x : Bd) :
    Bnds ((w.setCell ⟨g, k * 2, none⟩ (sv x.1)).setCell ⟨g, k * 2 + 1, none⟩ (sv x.2)) base (.slice (some ⟨g, 0, none⟩) (l.set k x).length cap) (l.set k x) := by
  unfold Bnds at h ⊢
  rw [List.length_set, ← flat2_set]
  exact (World.ownsRow.stored (World.ownsRow.stored h (k * 2) (sv x.1)).1 (k * 2 + 1) (sv x.2)).1
end Go.Proofs.YtongpnknmgbhjaaGreatDoor

/-
  Whether bounds are a range: spec.RangeOk.
-/
namespace Go.Proofs.YtongpnknmgbhjaaGreatDoor
open Go.RowKit

/-- A bound's text is a version's, or empty. -/
def limOk (l : List UInt8) : Bool := readOk l || l == []
def bndOk (b : Bd) : Bool := limOk b.1 && limOk b.2
/-- Whether bounds are a range. -/
def rngOk (bs : List Bd) : Bool := bs.all bndOk && inI bs.length 1 8
theorem smB_get {bs : List Bd} (h : SmB bs) (k : Nat) (hk : k < bs.length) : (⟨bs[k].1.toArray⟩ : ByteArray).size ≤ 1048576 ∧ (⟨bs[k].2.toArray⟩ : ByteArray).size ≤ 1048576 := by
  have := smB_mem bs[k] (List.getElem_mem hk)
  rw [size_of, size_of]
  unfold SmB at h
  omega

set_option maxRecDepth 100000 in
set_option maxHeartbeats 1000000 in
theorem l03Is_any (s : ByteArray) (w : World) (hs : s.size ≤ 1048576) :
    Calls Tryz.prog 196 #[.string s] w fun e w' => e = .returned (.bool (limOk s.data.toList)) ∧ Below w.heap.size w w' := by
  have HC := Lib.hid (specReadVersion_any s w hs)
  obtain ⟨ok, HO⟩ : ∃ ok, Hid (readOk s.data.toList = ok) := ⟨_, Lib.hid rfl⟩
  obtain ⟨r, HR⟩ : ∃ r, Hid (limOk s.data.toList = r) := ⟨_, Lib.hid rfl⟩
  obtain ⟨q, hq, HE⟩ : ∃ q, (s.toList == []) = q ∧ Hid (limOk s.data.toList = (ok || q)) := ⟨_, rfl, Lib.hid (by unfold limOk; rw [HO.out, ByteArray.toList_eq])⟩
  rw [HR.out]
  have HF : Hid (r = (ok || q)) := Lib.hid (HR.out.symm.trans HE.out)
  cases ok <;> cases q
  all_goals
    go_enter Tryz.func196, Tryz.ntmps196
    go_wp2_with fail
    refine HC.out.mono ?_
    rintro e w1 ⟨u, rfl, hu, hb1⟩
    obtain ⟨uA, uc, rfl⟩ := hu.slice
    rw [HO.out]
    go_wp2_with fail
    go_ret
    exact ⟨ret_bool HF.out.symm, by first | exact hb1 | exact hb1.alloc hb1.size _ | exact (hb1.alloc hb1.size _).setCell (p := ⟨w1.heap.size, 0, none⟩) hb1.size _⟩

set_option maxRecDepth 100000 in
set_option maxHeartbeats 2000000 in
theorem specRangeOk_any (v : Value) (bs : List Bd) (w : World) (hr : RdB w v bs) (hs : SmB bs) :
    Calls Tryz.prog 157 #[v] w fun e w' => e = .returned (.bool (rngOk bs)) ∧ Below w.heap.size w w' := by
  have HR := Lib.hid hr
  have HS := Lib.hid hs
  obtain ⟨A, ca, rfl, ha⟩ := hr
  have hn : bs.length ≤ 1048576 := by unfold SmB at hs; omega
  clear ha hs
  go_enter Tryz.func157, Tryz.ntmps157
  go_wp2_with fail
  go_loopw [3] (fun i wr => ∃ k : Nat, k ≤ bs.length ∧ i = .int .i64 k ∧ Hid ((bs.take k).all bndOk = true) ∧ Below w.heap.size w wr) (fun i _ => bs.length - (intOf i).toNat)
  case atStart => exact ⟨0, Nat.zero_le _, rfl, Lib.hid (by simp), Below.refl _ _⟩
  case round =>
    obtain ⟨k, hk, rfl, H, hb⟩ := hrel
    by_cases hlt : k < bs.length
    · have k0 : (0 : Int) ≤ (k : Int) := by omega
      have k1 : (k : Int) < (bs.length : Int) := by omega
      have HG := Lib.hid (smB_get HS.out k hlt)
      have HD := Lib.hid (fun (W : World) (h : Below w.heap.size w W) => (HR.out.below h))
      obtain ⟨A', ca', hv, ha⟩ := HR.out.below hb
      simp only [Value.slice.injEq] at hv
      obtain ⟨rfl, _, rfl⟩ := hv
      obtain ⟨g, off, rfl, hg, hca⟩ := ha (by omega)
      have d1 : wr.cell? ⟨g, off + k * 2, none⟩ = some (.string ⟨bs[k].1.toArray⟩) := (hca k hlt).1
      have HD2 : Hid (wr.cell? ⟨g, off + k * 2 + 1, none⟩ = some (.string ⟨bs[k].2.toArray⟩)) := Lib.hid (hca k hlt).2
      obtain ⟨x, HX⟩ : ∃ x, Hid (limOk (⟨bs[k].1.toArray⟩ : ByteArray).data.toList = x) := ⟨_, Lib.hid rfl⟩
      obtain ⟨y, HY⟩ : ∃ y, Hid (limOk (⟨bs[k].2.toArray⟩ : ByteArray).data.toList = y) := ⟨_, Lib.hid rfl⟩
      have HB : Hid (bndOk bs[k] = (x && y)) := Lib.hid (by unfold bndOk; rw [← HX.out, ← HY.out])
      clear ha hca
      cases x
      · have HF : Hid (rngOk bs = false) := Lib.hid (by unfold rngOk; rw [Bool.eq_false_iff.2 (all_not bs bndOk k hlt (by rw [HB.out]; rfl))]; rfl)
        go_wp2_with fail
        refine (l03Is_any _ _ HG.out.1).mono ?_
        rw [HX.out]
        rintro e w1 ⟨rfl, hb1⟩
        have B1 := hb.trans (hb1.mono hb.size)
        go_wp2_with fail
        go_ret
        exact ⟨ret_bool HF.out.symm, B1⟩
      · go_wp2_with fail
        refine (l03Is_any _ _ HG.out.1).mono ?_
        rw [HX.out]
        rintro e w1 ⟨rfl, hb1⟩
        have B1 := hb.trans (hb1.mono hb.size)
        have d2 := (hb1.cell (p := ⟨g, off + k * 2 + 1, none⟩) hg).trans HD2.out
        go_wp2_with fail
        refine (l03Is_any _ _ HG.out.2).mono ?_
        rw [HY.out]
        rintro e w2 ⟨rfl, hb2⟩
        have B2 := B1.trans (hb2.mono B1.size)
        cases y
        · have HF : Hid (rngOk bs = false) := Lib.hid (by unfold rngOk; rw [Bool.eq_false_iff.2 (all_not bs bndOk k hlt (by rw [HB.out]; rfl))]; rfl)
          go_wp2_with fail
          go_ret
          exact ⟨ret_bool HF.out.symm, B2⟩
        · have HN := Lib.hid (all_take bs bndOk k hlt H.out (by rw [HB.out]; rfl))
          go_wp2_with fail
          go_roundw
          case rel => exact ⟨k + 1, by omega, by go_num, HN, B2⟩
          case measure => simp [intOf]; omega
    · have HF : Hid (rngOk bs = inI bs.length 1 8) := Lib.hid (by
        have h := H.out
        rw [List.take_of_length_le (by omega)] at h
        unfold rngOk; rw [h]; rfl)
      go_wp2_with fail
      refine (l01In_any _ _ _ _).mono ?_
      rintro e w1 ⟨rfl, rfl⟩
      go_wp2_with fail
      go_ret
      exact ⟨ret_bool HF.out.symm, hb⟩
end Go.Proofs.YtongpnknmgbhjaaGreatDoor

/-
  spec.l03Signs: the bound of >= and <.
-/
namespace Go.Proofs.YtongpnknmgbhjaaGreatDoor
open Go.RowKit

def geA (x : List UInt8) : Bool := decide (2 < x.length) && geP x
def ltA (x : List UInt8) : Bool := decide (1 < x.length) && ltP x
theorem geA_form {x : List UInt8} (h : geA x = true) : ∃ y, y ≠ [] ∧ x = 62 :: 61 :: y := by
  unfold geA geP at h
  simp at h
  obtain ⟨h1, t, rfl⟩ := h
  exact ⟨t, fun e => by subst e; simp at h1, rfl⟩
theorem ltA_form {x : List UInt8} (h : ltA x = true) : ∃ y, y ≠ [] ∧ x = 60 :: y := by
  unfold ltA ltP at h
  simp at h
  obtain ⟨h1, t, rfl⟩ := h
  exact ⟨t, fun e => by subst e; simp at h1, rfl⟩
theorem cutL_none {m : UInt8} : ∀ {l : List UInt8}, m ∉ l → cutL m l = [l]
  | [], _ => rfl
  | c :: l, h => by
    have hc : ¬ c = m := fun e => h (by simp [e])
    rw [cutL_cons, if_neg hc, cutL_none (fun hm => h (by simp [hm]))]; rfl
theorem cutL_hit {m : UInt8} {l : List UInt8} (h : 0 ≤ Lib.indexByte l m) : cutL m l = cutA m l :: cutL m (cutB m l) ∧ m ∉ cutA m l := by
  induction l with
  | nil => simp [Lib.indexByte] at h
  | cons c l ih =>
    by_cases hc : c = m
    · subst hc
      rw [cutL_cons, if_pos rfl, cutA_hit, cutB_hit]
      exact ⟨rfl, by simp⟩
    · rw [cutL_cons, if_neg hc, cutA_miss l hc, cutB_miss l hc]
      rw [idx_miss l hc] at h
      by_cases h1 : Lib.indexByte l m = -1
      · rw [if_pos h1] at h; omega
      · have hg := idx_ge l m
        obtain ⟨i1, i2⟩ := ih (by omega)
        rw [i1]
        refine ⟨rfl, ?_⟩
        simp
        exact ⟨fun e => hc e.symm, i2⟩
theorem idx_none {m : UInt8} : ∀ {l : List UInt8}, ¬ 0 ≤ Lib.indexByte l m → m ∉ l
  | [], _ => by simp
  | c :: l, h => by
    by_cases hc : c = m
    · rw [idx_hit l hc] at h; omega
    · rw [idx_miss l hc] at h
      have hg := idx_ge l m
      have : ¬ 0 ≤ Lib.indexByte l m := by
        by_cases h1 : Lib.indexByte l m = -1
        · omega
        · rw [if_neg h1] at h; omega
      have := idx_none this
      simp
      exact ⟨fun e => hc e.symm, this⟩
theorem idx_some {m : UInt8} : ∀ {l : List UInt8}, m ∈ l → 0 ≤ Lib.indexByte l m := by
  intro l h
  by_cases h0 : 0 ≤ Lib.indexByte l m
  · exact h0
  · exact absurd h (idx_none h0)
-- the forms
theorem geA_P {x : List UInt8} (h : readOk (x.drop 2) = true) : geP x = geA x := by
  unfold geA
  have : 2 < x.length := by
    rcases Nat.lt_or_ge 2 x.length with h' | h'
    · exact h'
    · rw [List.drop_eq_nil_of_le h', readOk_nil] at h; cases h
  rw [decide_eq_true this, Bool.true_and]
theorem ltA_P {x : List UInt8} (h : readOk (x.drop 1) = true) : ltP x = ltA x := by
  unfold ltA
  have : 1 < x.length := by
    rcases Nat.lt_or_ge 1 x.length with h' | h'
    · exact h'
    · rw [List.drop_eq_nil_of_le h', readOk_nil] at h; cases h
  rw [decide_eq_true this, Bool.true_and]
theorem ge_and (x : List UInt8) : (geP x && readOk (x.drop 2)) = (geA x && readOk (x.drop 2)) := by
  cases h : readOk (x.drop 2) with
  | true => rw [geA_P h]
  | false => simp
theorem lt_and (x : List UInt8) : (ltP x && readOk (x.drop 1)) = (ltA x && readOk (x.drop 1)) := by
  cases h : readOk (x.drop 1) with
  | true => rw [ltA_P h]
  | false => simp
theorem ge_lt {x : List UInt8} (h : geA x = true) : ltA x = false := by
  obtain ⟨y, _, rfl⟩ := geA_form h
  simp [ltA, ltP, List.isPrefixOf]
theorem lm_one {l : List UInt8} (h : cutL 32 l = [l]) : lmOk l = (if geA l = true then readOk (l.drop 2) else ltA l && readOk (l.drop 1)) ∧ (lmOk l = true → lmB l = if geA l = true then (l.drop 2, []) else ([], l.drop 1)) := by
  have hi : ¬ 0 ≤ Lib.indexByte l 32 := fun h0 => by
    have := (cutL_hit h0).1; rw [h] at this
    have hne := cutL_ne 32 (cutB 32 l)
    simp at this
    exact hne this.2
  unfold lmOk lmB
  rw [if_neg hi, if_neg hi, ge_and, lt_and]
  cases hg : geA l with
  | true => rw [ge_lt hg]; cases hr : readOk (l.drop 2) <;> simp
  | false => simp
theorem cutL_one {l y : List UInt8} (h : cutL 32 l = [y]) : y = l := by
  have := join_cut 32 l; rw [h] at this; simpa [joinL] using this
theorem lm_two {l x y : List UInt8} (h : cutL 32 l = [x, y]) : lmOk l = (geA x && readOk (x.drop 2) && (ltA y && readOk (y.drop 1))) ∧ lmB l = (x.drop 2, y.drop 1) := by
  have hi : 0 ≤ Lib.indexByte l 32 := by
    by_cases h0 : 0 ≤ Lib.indexByte l 32
    · exact h0
    · have := cutL_none (idx_none h0); rw [h] at this; simp at this
  have e := (cutL_hit hi).1
  rw [h] at e
  simp only [List.cons.injEq] at e
  have e1 := e.1
  have e2 := cutL_one e.2.symm
  unfold lmOk lmB
  rw [if_pos hi, if_pos hi, ge_and, lt_and, ← e1, ← e2]
  exact ⟨rfl, rfl⟩
theorem lm_many {l x y z : List UInt8} {t : List (List UInt8)} (h : cutL 32 l = x :: y :: z :: t) : lmOk l = false := by
  have hi : 0 ≤ Lib.indexByte l 32 := by
    by_cases h0 : 0 ≤ Lib.indexByte l 32
    · exact h0
    · have := cutL_none (idx_none h0); rw [h] at this; simp at this
  have e := (cutL_hit hi).1
  rw [h] at e
  simp only [List.cons.injEq] at e
  have hm : (32 : UInt8) ∈ cutB 32 l := by
    by_cases h0 : (32 : UInt8) ∈ cutB 32 l
    · exact h0
    · have := cutL_none h0; rw [this] at e; simp at e
  unfold lmOk
  rw [if_pos hi]
  have : (ltP (cutB 32 l) && readOk ((cutB 32 l).drop 1)) = false := by
    rw [lt_and]
    cases hl : ltA (cutB 32 l) with
    | false => rfl
    | true =>
      obtain ⟨u, _, hu⟩ := ltA_form hl
      rw [hu] at hm ⊢
      have h2 : (32 : UInt8) ∈ u := by simpa using hm
      cases hr : readOk u with
      | false => simp [hr]
      | true => exact absurd h2 (readOk_none hr (by decide))
  rw [this, Bool.and_false]
theorem rng_one (a b : List UInt8) : rngOk [(a, b)] = (limOk a && limOk b) := by
  unfold rngOk bndOk inI; simp
theorem lim_nil : limOk [] = true := by unfold limOk; simp
theorem lim_ne {a : List UInt8} (h : a ≠ []) : limOk a = readOk a := by
  unfold limOk
  have : (a == []) = false := by simpa using h
  rw [this, Bool.or_false]
theorem rdB_lit (W : World) (n : Nat) (hn : W.heap.size = n) (a b : List UInt8) (T : TypeId) : RdB (W.alloc (.cells #[.string ⟨a.toArray⟩, .string ⟨b.toArray⟩] T)) (.slice (some ⟨n, 0, none⟩) 1 1) [(a, b)] := by
  subst hn
  refine ⟨_, 1, rfl, fun _ => ⟨W.heap.size, 0, rfl, by simp, fun k hk => ?_⟩⟩
  have hk0 : k = 0 := by simp at hk; omega
  subst hk0
  exact two_cells (heap_alloc_new W (.cells #[.string ⟨a.toArray⟩, .string ⟨b.toArray⟩] T))
theorem smB_one' {a b : List UInt8} (h : a.length + b.length ≤ 1048000) : SmB [(a, b)] := by unfold SmB; simp [smB]; omega
/-- Facts of a part: how its first bytes test. -/
theorem ge_yes {s : ByteArray} {x : List UInt8} (hs : s = ⟨x.toArray⟩) (h : geA x = true) : 2 < s.size ∧ (∀ w, (Instr.slice 9 (.string s) none (some (.int .i64 2)) none).run Tryz.prog w = .ok (.string ⟨#[62, 61]⟩) w) ∧ (∀ w, (Instr.slice 9 (.string s) (some (.int .i64 2)) none none).run Tryz.prog w = .ok (.string ⟨(x.drop 2).toArray⟩) w) ∧ x.drop 2 ≠ [] := by
  obtain ⟨y, hy, rfl⟩ := geA_form h
  subst hs
  have hl : 0 < y.length := List.length_pos_iff.2 hy
  refine ⟨by rw [size_of]; simp; omega, fun w => slice_to _ _ 2 2 rfl (by rw [size_of]; simp) (bytes_ext (by simp)) w, fun w => slice_from _ _ 2 2 rfl (by rw [size_of]; simp) (piece_end _ 2) w, by simpa using hy⟩
theorem ge_no {s : ByteArray} {x : List UInt8} (hs : s = ⟨x.toArray⟩) (h : geA x = false) : ¬ 2 < s.size ∨ 2 < s.size ∧ ∃ z : ByteArray, (∀ w, (Instr.slice 9 (.string s) none (some (.int .i64 2)) none).run Tryz.prog w = .ok (.string z) w) ∧ (z.toList == [62, 61]) = false := by
  subst hs
  rcases Nat.lt_or_ge 2 (⟨x.toArray⟩ : ByteArray).size with h2 | h2
  · right
    refine ⟨h2, (⟨x.toArray⟩ : ByteArray).extract 0 2, fun w => slice_to _ _ 2 2 rfl (by omega) rfl w, ?_⟩
    rw [size_of] at h2
    unfold geA geP at h
    rw [decide_eq_true h2, Bool.true_and] at h
    rw [ByteArray.toList_eq]
    match x, h2, h with
    | a :: b :: c :: t, _, h =>
      simp [List.isPrefixOf] at h ⊢
      exact fun e1 e2 => h e1.symm e2.symm
  · left; omega
theorem lt_yes {s : ByteArray} {x : List UInt8} (hs : s = ⟨x.toArray⟩) (h : ltA x = true) : ∃ h1 : 1 < s.size, (((s[0]'(by omega)).toNat : Int) == 60) = true ∧ (∀ w, (Instr.slice 9 (.string s) (some (.int .i64 1)) none none).run Tryz.prog w = .ok (.string ⟨(x.drop 1).toArray⟩) w) ∧ x.drop 1 ≠ [] := by
  obtain ⟨y, hy, rfl⟩ := ltA_form h
  subst hs
  have hl : 0 < y.length := List.length_pos_iff.2 hy
  refine ⟨by rw [size_of]; simp; omega, rfl, fun w => slice_from _ _ 1 1 rfl (by rw [size_of]; simp) (piece_end _ 1) w, by simpa using hy⟩
theorem lt_no {s : ByteArray} {x : List UInt8} (hs : s = ⟨x.toArray⟩) (h : ltA x = false) : ¬ 1 < s.size ∨ ∃ h1 : 1 < s.size, (((s[0]'(by omega)).toNat : Int) == 60) = false := by
  subst hs
  rcases Nat.lt_or_ge 1 (⟨x.toArray⟩ : ByteArray).size with h2 | h2
  · right
    refine ⟨h2, ?_⟩
    rw [size_of] at h2
    unfold ltA ltP at h
    rw [decide_eq_true h2, Bool.true_and] at h
    match x, h2, h with
    | a :: b :: t, _, h =>
      have ha : a ≠ 60 := fun e => by subst e; simp at h
      refine int_beq_false (fun e => ha (UInt8.toNat_inj.1 ?_))
      have : ((a.toNat : Int)) = 60 := e
      simpa using (by omega : a.toNat = 60)
  · left; omega

set_option maxRecDepth 100000 in
set_option maxHeartbeats 4000000 in
theorem sg_A (l : List UInt8) (w : World) (hl : l.length ≤ 1048000) (h1 : cutL 32 l = [l]) (hg : geA l = true) :
    Calls Tryz.prog 100 #[.string ⟨l.toArray⟩] w (AltIs w (lmOk l) (lmB l)) := by
  have HW := Lib.hid (fun W => specWords_any ⟨l.toArray⟩ W (by rw [size_of]; omega))
  have B0 : Below w.heap.size w (w.alloc (.cells #[.string ⟨#[]⟩, .string ⟨#[]⟩] 73)) := (Below.refl _ _).alloc (Nat.le_refl _) _
  have r0 := heap_alloc_new w (.cells #[.string ⟨#[]⟩, .string ⟨#[]⟩] 73)
  obtain ⟨s0, hs0⟩ : ∃ s0 : ByteArray, s0 = ⟨(l).toArray⟩ := ⟨_, rfl⟩
  have HS0 := Lib.hid hs0
  obtain ⟨q1, q2⟩ := lm_one h1
  rw [if_pos hg] at q1
  rw [if_pos hg] at q2
  obtain ⟨g1, g2, g3, g4⟩ := ge_yes hs0 hg
  have HRG := Lib.hid (fun (W : World) (v : Value) (h : RdB W v [(l.drop 2, [])]) => specRangeOk_any v [(l.drop 2, [])] W h (smB_one' (by simp; omega)))
  rw [rng_one, lim_nil, Bool.and_true, lim_ne g4, ← q1] at HRG
  simp only [h1, List.length_cons, List.length_nil] at HW
  generalize l.drop 2 = lo at g3 g4 HRG q2
  have HQ := Lib.hid q2
  clear q1 q2 h1 hg hl g4 hs0
  generalize lmOk l = q at HRG HQ ⊢
  go_enter Tryz.func100, Tryz.ntmps100
  go_wp2_with fail
  refine (HW.out _).mono ?_
  rintro e w1 ⟨g, cap, rfl, hS, hb1⟩
  have B1 := B0.trans (hb1.mono B0.size)
  have r1 := keepB r0 hb1
  have d0 : w1.cell? ⟨g, 0, none⟩ = some (.string s0) := by rw [HS0.out]; exact hS.cell 0 (by simp)
  have hg2 : g < w1.heap.size := cell_in d0
  clear hS
  have hgl : g ≤ w1.heap.size := by omega
  clear hb1 r0 B0
  go_wp2_with fail
  refine wp_loop_rounds 4 ?_
  rw [rounds_succ]
  go_wp2_with fail
  rw [rounds_succ]
  go_wp2_with fail
  refine (HRG.out _ _ (rdB_lit _ _ (by simp) _ _ _)).mono ?_
  rintro e w4 ⟨rfl, hb4⟩
  have BB := (((B1.alloc B1.size (.cells #[.string ⟨lo.toArray⟩, .string ⟨#[]⟩] 73)).alloc (by have := B1.size; simp; omega) (.cells #[.string ⟨lo.toArray⟩, .string ⟨#[]⟩] 73)).trans (hb4.mono (by have := B1.size; simp; omega)))
  obtain ⟨c0, c1, f1⟩ := cellsD (keepB (keepA (keepA r1 (.cells #[.string ⟨lo.toArray⟩, .string ⟨#[]⟩] 73)) (.cells #[.string ⟨lo.toArray⟩, .string ⟨#[]⟩] 73)) hb4)
  obtain ⟨x0, x1⟩ := two_cells (keepB (keepA (heap_alloc_new w1 (.cells #[.string ⟨lo.toArray⟩, .string ⟨#[]⟩] 73)) (.cells #[.string ⟨lo.toArray⟩, .string ⟨#[]⟩] 73)) hb4)
  clear hb4 B1 r1 HRG
  cases q
  · go_wp2_with fail
    refine bodyPost_ret (v := .tuple #[.agg #[.string ⟨#[]⟩, .string ⟨#[]⟩], .bool false]) ?_ rfl ⟨_, _, rfl, fun h => (by cases h), ?_⟩
    · simp [results, Tryz.results100, go_sem, c0, c1]
    · exact below_res2 BB (Nat.le_refl _) _ _
  · go_wp2_with fail
    refine bodyPost_ret (v := .tuple #[.agg #[.string ⟨lo.toArray⟩, .string ⟨#[]⟩], .bool true]) ?_ rfl ⟨_, _, rfl, fun _ => (by rw [HQ.out (by trivial)]; exact ⟨rfl, rfl⟩), ?_⟩
    · simp [results, Tryz.results100, go_sem, c0, c1]
    · exact below_res2 BB (Nat.le_refl _) _ _

set_option maxRecDepth 100000 in
set_option maxHeartbeats 4000000 in
theorem sg_B (l : List UInt8) (w : World) (hl : l.length ≤ 1048000) (h1 : cutL 32 l = [l]) (hg : geA l = false) (ht : ltA l = true) :
    Calls Tryz.prog 100 #[.string ⟨l.toArray⟩] w (AltIs w (lmOk l) (lmB l)) := by
  have HW := Lib.hid (fun W => specWords_any ⟨l.toArray⟩ W (by rw [size_of]; omega))
  have B0 : Below w.heap.size w (w.alloc (.cells #[.string ⟨#[]⟩, .string ⟨#[]⟩] 73)) := (Below.refl _ _).alloc (Nat.le_refl _) _
  have r0 := heap_alloc_new w (.cells #[.string ⟨#[]⟩, .string ⟨#[]⟩] 73)
  obtain ⟨s0, hs0⟩ : ∃ s0 : ByteArray, s0 = ⟨(l).toArray⟩ := ⟨_, rfl⟩
  have HS0 := Lib.hid hs0
  obtain ⟨q1, q2⟩ := lm_one h1
  rw [if_neg (by rw [hg]; simp), ht, Bool.true_and] at q1
  rw [if_neg (by rw [hg]; simp)] at q2
  obtain ⟨t1, t2, t3, t4⟩ := lt_yes hs0 ht
  have hgn := ge_no hs0 hg
  have HRG := Lib.hid (fun (W : World) (v : Value) (h : RdB W v [([], l.drop 1)]) => specRangeOk_any v [([], l.drop 1)] W h (smB_one' (by simp; omega)))
  rw [rng_one, lim_nil, Bool.true_and, lim_ne t4, ← q1] at HRG
  simp only [h1, List.length_cons, List.length_nil] at HW
  generalize l.drop 1 = hi at t3 t4 HRG q2
  have HQ := Lib.hid q2
  clear q1 q2 h1 hg hl t4 hs0 ht
  generalize lmOk l = q at HRG HQ ⊢
  rcases hgn with g1 | ⟨g1, z, g2, g3⟩
  all_goals
    go_enter Tryz.func100, Tryz.ntmps100
    go_wp2_with fail
    refine (HW.out _).mono ?_
    rintro e w1 ⟨g, cap, rfl, hS, hb1⟩
    have B1 := B0.trans (hb1.mono B0.size)
    have r1 := keepB r0 hb1
    have d0 : w1.cell? ⟨g, 0, none⟩ = some (.string s0) := by rw [HS0.out]; exact hS.cell 0 (by simp)
    have hg2 : g < w1.heap.size := cell_in d0
    clear hS
    have hgl : g ≤ w1.heap.size := by omega
    clear hb1 r0 B0
    go_wp2_with fail
    refine wp_loop_rounds 4 ?_
    rw [rounds_succ]
    go_wp2_with fail
    rw [rounds_succ]
    go_wp2_with fail
    refine (HRG.out _ _ (rdB_lit _ _ (by simp) _ _ _)).mono ?_
    rintro e w4 ⟨rfl, hb4⟩
    have BB := (((B1.alloc B1.size (.cells #[.string ⟨#[]⟩, .string ⟨hi.toArray⟩] 73)).alloc (by have := B1.size; simp; omega) (.cells #[.string ⟨#[]⟩, .string ⟨hi.toArray⟩] 73)).trans (hb4.mono (by have := B1.size; simp; omega)))
    obtain ⟨c0, c1, f1⟩ := cellsD (keepB (keepA (keepA r1 (.cells #[.string ⟨#[]⟩, .string ⟨hi.toArray⟩] 73)) (.cells #[.string ⟨#[]⟩, .string ⟨hi.toArray⟩] 73)) hb4)
    obtain ⟨x0, x1⟩ := two_cells (keepB (keepA (heap_alloc_new w1 (.cells #[.string ⟨#[]⟩, .string ⟨hi.toArray⟩] 73)) (.cells #[.string ⟨#[]⟩, .string ⟨hi.toArray⟩] 73)) hb4)
    clear hb4 B1 r1 HRG
    cases q
    · go_wp2_with fail
      refine bodyPost_ret (v := .tuple #[.agg #[.string ⟨#[]⟩, .string ⟨#[]⟩], .bool false]) ?_ rfl ⟨_, _, rfl, fun h => (by cases h), ?_⟩
      · simp [results, Tryz.results100, go_sem, c0, c1]
      · exact below_res2 BB (Nat.le_refl _) _ _
    · go_wp2_with fail
      refine bodyPost_ret (v := .tuple #[.agg #[.string ⟨#[]⟩, .string ⟨hi.toArray⟩], .bool true]) ?_ rfl ⟨_, _, rfl, fun _ => (by rw [HQ.out (by trivial)]; exact ⟨rfl, rfl⟩), ?_⟩
      · simp [results, Tryz.results100, go_sem, c0, c1]
      · exact below_res2 BB (Nat.le_refl _) _ _

set_option maxRecDepth 100000 in
set_option maxHeartbeats 4000000 in
theorem sg_C (l : List UInt8) (w : World) (hl : l.length ≤ 1048000) (h1 : cutL 32 l = [l]) (hg : geA l = false) (ht : ltA l = false) :
    Calls Tryz.prog 100 #[.string ⟨l.toArray⟩] w (AltIs w (lmOk l) (lmB l)) := by
  have HW := Lib.hid (fun W => specWords_any ⟨l.toArray⟩ W (by rw [size_of]; omega))
  have B0 : Below w.heap.size w (w.alloc (.cells #[.string ⟨#[]⟩, .string ⟨#[]⟩] 73)) := (Below.refl _ _).alloc (Nat.le_refl _) _
  have r0 := heap_alloc_new w (.cells #[.string ⟨#[]⟩, .string ⟨#[]⟩] 73)
  obtain ⟨s0, hs0⟩ : ∃ s0 : ByteArray, s0 = ⟨(l).toArray⟩ := ⟨_, rfl⟩
  have HS0 := Lib.hid hs0
  obtain ⟨q1, q2⟩ := lm_one h1
  rw [if_neg (by rw [hg]; simp), ht, Bool.false_and] at q1
  rw [q1]
  have htn := lt_no hs0 ht
  have hgn := ge_no hs0 hg
  simp only [h1, List.length_cons, List.length_nil] at HW
  clear q1 q2 h1 hg hl hs0 ht
  rcases hgn with g1 | ⟨g1, z, g2, g3⟩ <;> rcases htn with t1 | ⟨t1, t2⟩
  all_goals try (exfalso; omega)
  all_goals
    go_enter Tryz.func100, Tryz.ntmps100
    go_wp2_with fail
    refine (HW.out _).mono ?_
    rintro e w1 ⟨g, cap, rfl, hS, hb1⟩
    have B1 := B0.trans (hb1.mono B0.size)
    have r1 := keepB r0 hb1
    have d0 : w1.cell? ⟨g, 0, none⟩ = some (.string s0) := by rw [HS0.out]; exact hS.cell 0 (by simp)
    have hg2 : g < w1.heap.size := cell_in d0
    clear hS
    obtain ⟨c0, c1, f1⟩ := cellsD r1
    have hlt := lt_of_heap r1
    have B3 := (below_res2 B1 (Nat.le_refl _) (.string ⟨#[]⟩) (.string ⟨#[]⟩)).alloc (by simpa using B1.size) (.cells #[.string ⟨#[]⟩, .string ⟨#[]⟩] 73)
    obtain ⟨y0, y1⟩ := two_cells (keepA (set2_heap r1 (.string ⟨#[]⟩) (.string ⟨#[]⟩)) (.cells #[.string ⟨#[]⟩, .string ⟨#[]⟩] 73))
    clear B1 r1
    have hgl : g ≤ w1.heap.size := by omega
    clear hb1 r0 B0
    go_wp2_with fail
    refine wp_loop_rounds 4 ?_
    rw [rounds_succ]
    go_wp2_with fail
    refine bodyPost_ret (v := .tuple #[.agg #[.string ⟨#[]⟩, .string ⟨#[]⟩], .bool false]) ?_ rfl ⟨_, _, rfl, fun h => (by cases h), ?_⟩
    · simp [results, Tryz.results100, go_sem, y0, y1]
    · exact B3

set_option maxRecDepth 100000 in
set_option maxHeartbeats 4000000 in
theorem sg_D (l : List UInt8) (w : World) (hl : l.length ≤ 1048000) (x y : List UInt8) (h1 : cutL 32 l = [x, y]) (hg : geA x = true) (ht : ltA y = true) :
    Calls Tryz.prog 100 #[.string ⟨l.toArray⟩] w (AltIs w (lmOk l) (lmB l)) := by
  have HW := Lib.hid (fun W => specWords_any ⟨l.toArray⟩ W (by rw [size_of]; omega))
  have B0 : Below w.heap.size w (w.alloc (.cells #[.string ⟨#[]⟩, .string ⟨#[]⟩] 73)) := (Below.refl _ _).alloc (Nat.le_refl _) _
  have r0 := heap_alloc_new w (.cells #[.string ⟨#[]⟩, .string ⟨#[]⟩] 73)
  obtain ⟨s0, hs0⟩ : ∃ s0 : ByteArray, s0 = ⟨(x).toArray⟩ := ⟨_, rfl⟩
  have HS0 := Lib.hid hs0
  obtain ⟨s1, hs1⟩ : ∃ s1 : ByteArray, s1 = ⟨(y).toArray⟩ := ⟨_, rfl⟩
  have HS1 := Lib.hid hs1
  obtain ⟨q1, q2⟩ := lm_two h1
  rw [hg, ht, Bool.true_and, Bool.true_and] at q1
  obtain ⟨g1, g2, g3, g4⟩ := ge_yes hs0 hg
  obtain ⟨t1, t2, t3, t4⟩ := lt_yes hs1 ht
  have hxl : x.length + y.length ≤ l.length := by
    have := join_cut 32 l; rw [h1] at this; simp [joinL] at this; rw [← this]; simp
  have HRG := Lib.hid (fun (W : World) (v : Value) (h : RdB W v [(x.drop 2, y.drop 1)]) => specRangeOk_any v [(x.drop 2, y.drop 1)] W h (smB_one' (by simp; omega)))
  rw [rng_one, lim_ne g4, lim_ne t4, ← q1] at HRG
  simp only [h1, List.length_cons, List.length_nil] at HW
  have s1n := ge_no hs1 (by cases hh : geA y with | false => rfl | true => rw [ge_lt hh] at ht; cases ht)
  generalize x.drop 2 = lo at g3 g4 HRG q2
  generalize y.drop 1 = hi at t3 t4 HRG q2
  have HQ : Hid (lmOk l = true → lmB l = (lo, hi)) := Lib.hid (fun _ => q2)
  clear q1 q2 h1 hg hl t4 g4 hs0 hs1 ht hxl s1n
  generalize lmOk l = q at HRG HQ ⊢
  go_enter Tryz.func100, Tryz.ntmps100
  go_wp2_with fail
  refine (HW.out _).mono ?_
  rintro e w1 ⟨g, cap, rfl, hS, hb1⟩
  have B1 := B0.trans (hb1.mono B0.size)
  have r1 := keepB r0 hb1
  have d0 : w1.cell? ⟨g, 0, none⟩ = some (.string s0) := by rw [HS0.out]; exact hS.cell 0 (by simp)
  have d1 : w1.cell? ⟨g, 1, none⟩ = some (.string s1) := by rw [HS1.out]; exact hS.cell 1 (by simp)
  have hg2 : g < w1.heap.size := cell_in d0
  clear hS
  have hgl : g ≤ w1.heap.size := by omega
  clear hb1 r0 B0
  go_wp2_with fail
  refine wp_loop_rounds 4 ?_
  rw [rounds_succ]
  go_wp2_with fail
  rw [rounds_succ]
  go_wp2_with fail
  rw [rounds_succ]
  go_wp2_with fail
  refine (HRG.out _ _ (rdB_lit _ _ (by simp) _ _ _)).mono ?_
  rintro e w4 ⟨rfl, hb4⟩
  have BB := (((B1.alloc B1.size (.cells #[.string ⟨lo.toArray⟩, .string ⟨hi.toArray⟩] 73)).alloc (by have := B1.size; simp; omega) (.cells #[.string ⟨lo.toArray⟩, .string ⟨hi.toArray⟩] 73)).trans (hb4.mono (by have := B1.size; simp; omega)))
  obtain ⟨c0, c1, f1⟩ := cellsD (keepB (keepA (keepA r1 (.cells #[.string ⟨lo.toArray⟩, .string ⟨hi.toArray⟩] 73)) (.cells #[.string ⟨lo.toArray⟩, .string ⟨hi.toArray⟩] 73)) hb4)
  obtain ⟨x0, x1⟩ := two_cells (keepB (keepA (heap_alloc_new w1 (.cells #[.string ⟨lo.toArray⟩, .string ⟨hi.toArray⟩] 73)) (.cells #[.string ⟨lo.toArray⟩, .string ⟨hi.toArray⟩] 73)) hb4)
  clear hb4 B1 r1 HRG
  cases q
  · go_wp2_with fail
    refine bodyPost_ret (v := .tuple #[.agg #[.string ⟨#[]⟩, .string ⟨#[]⟩], .bool false]) ?_ rfl ⟨_, _, rfl, fun h => (by cases h), ?_⟩
    · simp [results, Tryz.results100, go_sem, c0, c1]
    · exact below_res2 BB (Nat.le_refl _) _ _
  · go_wp2_with fail
    refine bodyPost_ret (v := .tuple #[.agg #[.string ⟨lo.toArray⟩, .string ⟨hi.toArray⟩], .bool true]) ?_ rfl ⟨_, _, rfl, fun _ => (by rw [HQ.out (by trivial)]; exact ⟨rfl, rfl⟩), ?_⟩
    · simp [results, Tryz.results100, go_sem, c0, c1]
    · exact below_res2 BB (Nat.le_refl _) _ _

set_option maxRecDepth 100000 in
set_option maxHeartbeats 4000000 in
theorem sg_E (l : List UInt8) (w : World) (hl : l.length ≤ 1048000) (x y : List UInt8) (h1 : cutL 32 l = [x, y]) (hg : geA x = true) (ht : ltA y = false) :
    Calls Tryz.prog 100 #[.string ⟨l.toArray⟩] w (AltIs w (lmOk l) (lmB l)) := by
  have HW := Lib.hid (fun W => specWords_any ⟨l.toArray⟩ W (by rw [size_of]; omega))
  have B0 : Below w.heap.size w (w.alloc (.cells #[.string ⟨#[]⟩, .string ⟨#[]⟩] 73)) := (Below.refl _ _).alloc (Nat.le_refl _) _
  have r0 := heap_alloc_new w (.cells #[.string ⟨#[]⟩, .string ⟨#[]⟩] 73)
  obtain ⟨s0, hs0⟩ : ∃ s0 : ByteArray, s0 = ⟨(x).toArray⟩ := ⟨_, rfl⟩
  have HS0 := Lib.hid hs0
  obtain ⟨s1, hs1⟩ : ∃ s1 : ByteArray, s1 = ⟨(y).toArray⟩ := ⟨_, rfl⟩
  have HS1 := Lib.hid hs1
  obtain ⟨q1, q2⟩ := lm_two h1
  rw [ht, Bool.false_and, Bool.and_false] at q1
  rw [q1]
  obtain ⟨g1, g2, g3, g4⟩ := ge_yes hs0 hg
  have htn := lt_no hs1 ht
  simp only [h1, List.length_cons, List.length_nil] at HW
  generalize x.drop 2 = lo at g3 g4 q2
  clear q1 q2 h1 hg hl g4 hs0 hs1 ht
  rcases htn with t1 | ⟨t1, t2⟩
  all_goals
    go_enter Tryz.func100, Tryz.ntmps100
    go_wp2_with fail
    refine (HW.out _).mono ?_
    rintro e w1 ⟨g, cap, rfl, hS, hb1⟩
    have B1 := B0.trans (hb1.mono B0.size)
    have r1 := keepB r0 hb1
    have d0 : w1.cell? ⟨g, 0, none⟩ = some (.string s0) := by rw [HS0.out]; exact hS.cell 0 (by simp)
    have d1 : w1.cell? ⟨g, 1, none⟩ = some (.string s1) := by rw [HS1.out]; exact hS.cell 1 (by simp)
    have hg2 : g < w1.heap.size := cell_in d0
    clear hS
    obtain ⟨c0, c1, f1⟩ := cellsD r1
    have hlt := lt_of_heap r1
    have B3 := (below_res2 B1 (Nat.le_refl _) (.string ⟨#[]⟩) (.string ⟨#[]⟩)).alloc (by simpa using B1.size) (.cells #[.string ⟨lo.toArray⟩, .string ⟨#[]⟩] 73)
    obtain ⟨y0, y1⟩ := two_cells (keepA (set2_heap r1 (.string ⟨#[]⟩) (.string ⟨#[]⟩)) (.cells #[.string ⟨lo.toArray⟩, .string ⟨#[]⟩] 73))
    clear B1 r1
    have hgl : g ≤ w1.heap.size := by omega
    clear hb1 r0 B0
    go_wp2_with fail
    refine wp_loop_rounds 4 ?_
    rw [rounds_succ]
    go_wp2_with fail
    rw [rounds_succ]
    go_wp2_with fail
    refine bodyPost_ret (v := .tuple #[.agg #[.string ⟨#[]⟩, .string ⟨#[]⟩], .bool false]) ?_ rfl ⟨_, _, rfl, fun h => (by cases h), ?_⟩
    · simp [results, Tryz.results100, go_sem, y0, y1]
    · exact B3

set_option maxRecDepth 100000 in
set_option maxHeartbeats 4000000 in
theorem sg_F (l : List UInt8) (w : World) (hl : l.length ≤ 1048000) (x y : List UInt8) (t : List (List UInt8)) (h1 : cutL 32 l = x :: y :: t) (hg : geA x = false) :
    Calls Tryz.prog 100 #[.string ⟨l.toArray⟩] w (AltIs w (lmOk l) (lmB l)) := by
  have HW := Lib.hid (fun W => specWords_any ⟨l.toArray⟩ W (by rw [size_of]; omega))
  have B0 : Below w.heap.size w (w.alloc (.cells #[.string ⟨#[]⟩, .string ⟨#[]⟩] 73)) := (Below.refl _ _).alloc (Nat.le_refl _) _
  have r0 := heap_alloc_new w (.cells #[.string ⟨#[]⟩, .string ⟨#[]⟩] 73)
  obtain ⟨s0, hs0⟩ : ∃ s0 : ByteArray, s0 = ⟨(x).toArray⟩ := ⟨_, rfl⟩
  have HS0 := Lib.hid hs0
  have q1 : lmOk l = false := by
    cases t with
    | nil => rw [(lm_two h1).1, hg, Bool.false_and, Bool.false_and]
    | cons z t => exact lm_many h1
  rw [q1]
  have hgn := ge_no hs0 hg
  have hnl : (cutL 32 l).length ≤ l.length + 1 := cutL_le 32 l
  rw [h1] at hnl
  obtain ⟨N, HN⟩ : ∃ N, Hid ((x :: y :: t).length = N) := ⟨_, Lib.hid rfl⟩
  have hN : 2 ≤ N := by rw [← HN.out]; simp
  simp only [h1, HN.out] at HW
  rw [HN.out] at hnl
  have n1 : ((0 : Int) == (N : Int) - 1) = false := int_beq_false (by omega)
  clear q1 h1 hg hs0
  rcases hgn with g1 | ⟨g1, z, g2, g3⟩
  all_goals
    go_enter Tryz.func100, Tryz.ntmps100
    go_wp2_with fail
    refine (HW.out _).mono ?_
    rintro e w1 ⟨g, cap, rfl, hS, hb1⟩
    have B1 := B0.trans (hb1.mono B0.size)
    have r1 := keepB r0 hb1
    have d0 : w1.cell? ⟨g, 0, none⟩ = some (.string s0) := by rw [HS0.out]; exact hS.cell 0 (by simp)
    have hg2 : g < w1.heap.size := cell_in d0
    clear hS
    obtain ⟨c0, c1, f1⟩ := cellsD r1
    have hlt := lt_of_heap r1
    have B3 := (below_res2 B1 (Nat.le_refl _) (.string ⟨#[]⟩) (.string ⟨#[]⟩)).alloc (by simpa using B1.size) (.cells #[.string ⟨#[]⟩, .string ⟨#[]⟩] 73)
    obtain ⟨y0, y1⟩ := two_cells (keepA (set2_heap r1 (.string ⟨#[]⟩) (.string ⟨#[]⟩)) (.cells #[.string ⟨#[]⟩, .string ⟨#[]⟩] 73))
    clear B1 r1
    have hgl : g ≤ w1.heap.size := by omega
    clear hb1 r0 B0
    go_wp2_with fail
    refine wp_loop_rounds 4 ?_
    rw [rounds_succ]
    go_wp2_with fail
    refine bodyPost_ret (v := .tuple #[.agg #[.string ⟨#[]⟩, .string ⟨#[]⟩], .bool false]) ?_ rfl ⟨_, _, rfl, fun h => (by cases h), ?_⟩
    · simp [results, Tryz.results100, go_sem, y0, y1]
    · exact B3

set_option maxRecDepth 100000 in
set_option maxHeartbeats 4000000 in
theorem sg_G (l : List UInt8) (w : World) (hl : l.length ≤ 1048000) (x y z : List UInt8) (t : List (List UInt8)) (h1 : cutL 32 l = x :: y :: z :: t) (hg : geA x = true) :
    Calls Tryz.prog 100 #[.string ⟨l.toArray⟩] w (AltIs w (lmOk l) (lmB l)) := by
  have HW := Lib.hid (fun W => specWords_any ⟨l.toArray⟩ W (by rw [size_of]; omega))
  have B0 : Below w.heap.size w (w.alloc (.cells #[.string ⟨#[]⟩, .string ⟨#[]⟩] 73)) := (Below.refl _ _).alloc (Nat.le_refl _) _
  have r0 := heap_alloc_new w (.cells #[.string ⟨#[]⟩, .string ⟨#[]⟩] 73)
  obtain ⟨s0, hs0⟩ : ∃ s0 : ByteArray, s0 = ⟨(x).toArray⟩ := ⟨_, rfl⟩
  have HS0 := Lib.hid hs0
  rw [lm_many h1]
  obtain ⟨g1, g2, g3, g4⟩ := ge_yes hs0 hg
  have hnl : (cutL 32 l).length ≤ l.length + 1 := cutL_le 32 l
  rw [h1] at hnl
  obtain ⟨N, HN⟩ : ∃ N, Hid ((x :: y :: z :: t).length = N) := ⟨_, Lib.hid rfl⟩
  have hN : 3 ≤ N := by rw [← HN.out]; simp
  simp only [h1, HN.out] at HW
  rw [HN.out] at hnl
  have n1 : ((1 : Int) == (N : Int) - 1) = false := int_beq_false (by omega)
  generalize x.drop 2 = lo at g3 g4
  clear h1 hg hs0 g4
  go_enter Tryz.func100, Tryz.ntmps100
  go_wp2_with fail
  refine (HW.out _).mono ?_
  rintro e w1 ⟨g, cap, rfl, hS, hb1⟩
  have B1 := B0.trans (hb1.mono B0.size)
  have r1 := keepB r0 hb1
  have d0 : w1.cell? ⟨g, 0, none⟩ = some (.string s0) := by rw [HS0.out]; exact hS.cell 0 (by simp)
  have hg2 : g < w1.heap.size := cell_in d0
  clear hS
  obtain ⟨c0, c1, f1⟩ := cellsD r1
  have hlt := lt_of_heap r1
  have B3 := (below_res2 B1 (Nat.le_refl _) (.string ⟨#[]⟩) (.string ⟨#[]⟩)).alloc (by simpa using B1.size) (.cells #[.string ⟨lo.toArray⟩, .string ⟨#[]⟩] 73)
  obtain ⟨y0, y1⟩ := two_cells (keepA (set2_heap r1 (.string ⟨#[]⟩) (.string ⟨#[]⟩)) (.cells #[.string ⟨lo.toArray⟩, .string ⟨#[]⟩] 73))
  clear B1 r1
  have hgl : g ≤ w1.heap.size := by omega
  clear hb1 r0 B0
  go_wp2_with fail
  refine wp_loop_rounds 4 ?_
  rw [rounds_succ]
  go_wp2_with fail
  rw [rounds_succ]
  go_wp2_with fail
  refine bodyPost_ret (v := .tuple #[.agg #[.string ⟨#[]⟩, .string ⟨#[]⟩], .bool false]) ?_ rfl ⟨_, _, rfl, fun h => (by cases h), ?_⟩
  · simp [results, Tryz.results100, go_sem, y0, y1]
  · exact B3

theorem l03Signs_any (l : List UInt8) (w : World) (hl : l.length ≤ 1048000) : Calls Tryz.prog 100 #[.string ⟨l.toArray⟩] w (AltIs w (lmOk l) (lmB l)) := by
  match h : cutL 32 l with
  | [] => exact absurd h (cutL_ne 32 l)
  | [x] =>
    obtain rfl := cutL_one h
    cases hg : geA x with
    | true => exact sg_A x w hl h hg
    | false =>
      cases ht : ltA x with
      | true => exact sg_B x w hl h hg ht
      | false => exact sg_C x w hl h hg ht
  | [x, y] =>
    cases hg : geA x with
    | false => exact sg_F l w hl x y [] h hg
    | true =>
      cases ht : ltA y with
      | true => exact sg_D l w hl x y h hg ht
      | false => exact sg_E l w hl x y h hg ht
  | x :: y :: z :: t =>
    cases hg : geA x with
    | false => exact sg_F l w hl x y (z :: t) h hg
    | true => exact sg_G l w hl x y z t h hg
end Go.Proofs.YtongpnknmgbhjaaGreatDoor

/-
  A byte buffer of the call's own: what it owns as a list of bytes, and the string that it is turned into.
-/
namespace Go.Proofs.YtongpnknmgbhjaaGreatDoor
open Go.RowKit

/-- A byte as a value. -/
def bv (c : UInt8) : Value := .int .u8 (c.toNat : Int)
/-- The value v owns just the bytes l, in blocks from base on. -/
def Buf (w : World) (base : Nat) (v : Value) (l : List UInt8) : Prop := w.ownsRow base 5 1 v l.length (l.map bv)

theorem u8info : (Tryz.prog.info? 5).map (fun i => (i.zero, i.size, i.bytes)) = some (some (.int .u8 0), 1, 1) := by kernel_rfl

theorem Buf.form {w : World} {base : Nat} {v : Value} {l : List UInt8} (h : Buf w base v l) : (v = .slice none 0 0 ∧ l = []) ∨ ∃ g cap, v = .slice (some ⟨g, 0, none⟩) l.length cap ∧ base ≤ g ∧ g < w.heap.size := by
  rcases h.2 with ⟨hv, hl⟩ | ⟨g, cap, cur, hv, hb, hh, _⟩
  · left; exact ⟨hv, by simpa using hl⟩
  · right
    refine ⟨g, cap, hv, hb, ?_⟩
    rcases Nat.lt_or_ge g w.heap.size with hlt | hge
    · exact hlt
    · rw [Array.getElem?_eq_none hge] at hh; cases hh

theorem Buf.conv {w : World} {base : Nat} {v : Value} {l : List UInt8} (h : Buf w base v l) : (convert 138 9 v).run Tryz.prog w = .ok (.string ⟨l.toArray⟩) w := by
  rcases h.form with ⟨rfl, rfl⟩ | ⟨g, cap, rfl, _, _⟩
  · rw [run_convert_bytes_string w 138 9 5 none 0 0 Tryz.underlying138 Tryz.underlying5 Tryz.underlying9]
    rfl
  · refine run_convert_bytes_back w 138 9 5 ⟨g, 0, none⟩ cap l Tryz.underlying138 Tryz.underlying5 Tryz.underlying9 ?_
    intro j hj
    exact World.ownsRow.cells (g := g) h rfl j _ (by simp [bv, hj])

theorem Buf.alloc {w : World} {base : Nat} {v : Value} {l : List UInt8} (h : Buf w base v l) (o : Obj) : Buf (w.alloc o) base v l := World.ownsRow.alloc h o
theorem Buf.drew {w : World} {base : Nat} {v : Value} {l : List UInt8} (h : Buf w base v l) : Buf w.drew base v l := World.ownsRow.drew h
theorem Buf.owned {w : World} {base : Nat} {v : Value} {l : List UInt8} (h : Buf w base v l) : ∀ g, v.ownBlock = some g → base ≤ g := by
  intro g hg
  rcases h.form with ⟨rfl, _⟩ | ⟨g', cap, rfl, hb, _⟩
  · simp [Value.ownBlock] at hg
  · simp [Value.ownBlock] at hg; omega

theorem run_append_buf (w : World) (ty : TypeId) (base : Nat) (v : Value) (l : List UInt8) (hown : Buf w base v l) (ns : List UInt8) (B c : Nat) (cs : Array Value) (t : TypeId) (fr : Nat × Nat)
    (hblk : w.heap[B]? = some (.cells cs t fr)) (hcs : cs.toList = ns.map bv) (hm : 0 < ns.length) (hlen : l.length + ns.length ≤ 16777216) (hbase : base ≤ w.heap.size) :
    ∃ v' w', (Builtin.append_ #[138, 138] ty #[v, .slice (some ⟨B, 0, none⟩) ns.length c]).run Tryz.prog w = .ok v' w' ∧ Buf w' base v' (l ++ ns) ∧ Below base w w' := by
  obtain ⟨i0, hi, hz0, hz1, hz2⟩ := info_parts u8info
  obtain ⟨g, cap, w', hr, h2, h3, _, _⟩ := run_append_lies (P := Tryz.prog) w 138 ty base 5 i0 (.int .u8 0) 1 1 Tryz.underlying138 hi hz0 hz1 hz2 rfl (by decide) v l.length (l.map bv) hown
    ⟨B, 0, none⟩ ns.length c (ns.map bv) (by simp) (by rw [← hcs]; exact World.news_of_block hblk) (by intro u hu; obtain ⟨x, _, rfl⟩ := List.mem_map.1 hu; rfl) hm (by unfold maxLen; omega) (by omega) hbase _ rfl
  refine ⟨_, w', hr, ?_, (Below.refl base w).grown h3 hbase hown.owned⟩
  unfold Buf
  rw [List.length_append, List.map_append]
  exact h2

theorem wp_append_buf {w : World} {o : Oper} {a : Act} {K : Act → World → Prop} {Q : Exit → Act → World → Prop} (s x : Operand)
    (ho : o.op = .call { callee := .builtin .append, args := #[s, x], argTypes := #[138, 138] })
    (base : Nat) (v : Value) (l : List UInt8) (hs : a.eval s = v) (hown : Buf w base v l) (ns : List UInt8) (B m c : Nat) (cs : Array Value) (t : TypeId) (fr : Nat × Nat)
    (hx : a.eval x = .slice (some ⟨B, 0, none⟩) m c) (hmm : ns.length = m) (hblk : w.heap[B]? = some (.cells cs t fr)) (hcs : cs.toList = ns.map bv) (hm : 0 < ns.length) (hlen : l.length + ns.length ≤ 16777216) (hbase : base ≤ w.heap.size)
    (h : ∀ v' w', Buf w' base v' (l ++ ns) → Below base w w' → K (a.put o.dst v') w') : o.wp Tryz.prog a w K Q := by
  subst hmm
  obtain ⟨v', w', hr, h2, h3⟩ := run_append_buf w o.type base v l hown ns B c cs t fr hblk hcs hm hlen hbase
  unfold Oper.wp execOp
  simp only [ho, resolve, invoke, builtin, Sem.run_bind, Sem.run_pure, Result.andThen_ok, List.map_toArray, List.map_cons, List.map_nil, hs, hx, hr]
  exact h v' w' h2 h3

/-- append(out, bytes) at a plain region's list. -/
theorem wpList_append_buf {w : World} {ops : Array Oper} {rest : List Oper} {o : Oper} {a : Act} {Q : Exit → Act → World → Prop} (hgd : o.guard = none) (s x : Operand)
    (ho : o.op = .call { callee := .builtin .append, args := #[s, x], argTypes := #[138, 138] })
    (base : Nat) (v : Value) (l : List UInt8) (hs : a.eval s = v) (hown : Buf w base v l) (ns : List UInt8) (B m c : Nat) (cs : Array Value) (t : TypeId) (fr : Nat × Nat)
    (hx : a.eval x = .slice (some ⟨B, 0, none⟩) m c) (hmm : ns.length = m) (hblk : w.heap[B]? = some (.cells cs t fr)) (hcs : cs.toList = ns.map bv) (hm : 0 < ns.length) (hlen : l.length + ns.length ≤ 16777216) (hbase : base ≤ w.heap.size)
    (h : ∀ v' w', Buf w' base v' (l ++ ns) → Below base w w' → wpList Tryz.prog ops Q rest (a.put o.dst v') w') : wpList Tryz.prog ops Q (o :: rest) a w :=
  wpList_plain hgd fun _ hK => wp_append_buf s x ho base v l hs hown ns B m c cs t fr hx hmm hblk hcs hm hlen hbase fun v' w' h2 h3 => hK _ _ (h v' w' h2 h3)

/-- append(out, bytes) at a step of a region that draws its order. -/
theorem step_append_buf {w : World} {ops : Array Oper} {o : Oper} {a : Act} {K : Act → World → Prop} {Q : Exit → Act → World → Prop} {E : Prop} (hgd : o.guard = none) (s x : Operand)
    (ho : o.op = .call { callee := .builtin .append, args := #[s, x], argTypes := #[138, 138] })
    (base : Nat) (v : Value) (l : List UInt8) (hs : a.eval s = v) (hown : Buf w base v l) (ns : List UInt8) (B m c : Nat) (cs : Array Value) (t : TypeId) (fr : Nat × Nat)
    (hx : a.eval x = .slice (some ⟨B, 0, none⟩) m c) (hmm : ns.length = m) (hblk : w.heap[B]? = some (.cells cs t fr)) (hcs : cs.toList = ns.map bv) (hm : 0 < ns.length) (hlen : l.length + ns.length ≤ 16777216) (hbase : base ≤ w.heap.size)
    (h : ∀ v' w', Buf w' base v' (l ++ ns) → Below base w w' → K (a.put o.dst v') w') :
    if Region.wanted o (yielded ops a.tmps) = true then Oper.wp Tryz.prog o a w K Q else E := by
  have hw : Region.wanted o (yielded ops a.tmps) = true := by simp [Region.wanted, hgd]
  rw [if_pos hw]
  exact wp_append_buf s x ho base v l hs hown ns B m c cs t fr hx hmm hblk hcs hm hlen hbase h

def hexC (n : Nat) : UInt8 := ([48, 49, 50, 51, 52, 53, 54, 55, 56, 57, 97, 98, 99, 100, 101, 102] : List UInt8).getD n 0
def hexU (n : Nat) : UInt8 := ([48, 49, 50, 51, 52, 53, 54, 55, 56, 57, 65, 66, 67, 68, 69, 70] : List UInt8).getD n 0
theorem idx_lower (n : Nat) (hn : n < 16) (z : Int) (hz : z = (n : Int)) (w : World) : (Instr.index 9 (.string ⟨#[48, 49, 50, 51, 52, 53, 54, 55, 56, 57, 97, 98, 99, 100, 101, 102]⟩) (.int .u8 z)).run Tryz.prog w = .ok (.int .u8 ((hexC n).toNat : Int)) w := by
  subst hz
  obtain rfl | rfl | rfl | rfl | rfl | rfl | rfl | rfl | rfl | rfl | rfl | rfl | rfl | rfl | rfl | rfl : n = 0 ∨ n = 1 ∨ n = 2 ∨ n = 3 ∨ n = 4 ∨ n = 5 ∨ n = 6 ∨ n = 7 ∨ n = 8 ∨ n = 9 ∨ n = 10 ∨ n = 11 ∨ n = 12 ∨ n = 13 ∨ n = 14 ∨ n = 15 := by omega
  all_goals kernel_rfl
theorem idx_upper (n : Nat) (hn : n < 16) (z : Int) (hz : z = (n : Int)) (w : World) : (Instr.index 9 (.string ⟨#[48, 49, 50, 51, 52, 53, 54, 55, 56, 57, 65, 66, 67, 68, 69, 70]⟩) (.int .u8 z)).run Tryz.prog w = .ok (.int .u8 ((hexU n).toNat : Int)) w := by
  subst hz
  obtain rfl | rfl | rfl | rfl | rfl | rfl | rfl | rfl | rfl | rfl | rfl | rfl | rfl | rfl | rfl | rfl : n = 0 ∨ n = 1 ∨ n = 2 ∨ n = 3 ∨ n = 4 ∨ n = 5 ∨ n = 6 ∨ n = 7 ∨ n = 8 ∨ n = 9 ∨ n = 10 ∨ n = 11 ∨ n = 12 ∨ n = 13 ∨ n = 14 ∨ n = 15 := by omega
  all_goals kernel_rfl
theorem and15 (c : UInt8) : bits .and .u8 (c.toNat : Int) 15 = (c.toNat : Int) % 16 := by
  have h : ∀ n : Nat, n < 256 → bits .and .u8 (n : Int) 15 = (n : Int) % 16 := by decide +kernel
  exact h _ c.toNat_lt

theorem Buf.lit (w : World) (base : Nat) (l : List UInt8) (hb : base ≤ w.heap.size) (hl : l.length ≤ 16777216) : Buf (w.alloc (.cells (l.map bv).toArray 5)) base (.slice (some ⟨w.heap.size, 0, none⟩) l.length l.length) l := by
  have h := World.ownsRow_lit (base := base) (e := 5) (size := 1) w (l.map bv).toArray l.length hb (by unfold maxLen; omega) (by simp)
  simpa [Buf] using h
theorem Buf.empty (w : World) (base : Nat) (hb : base ≤ w.heap.size) : Buf (w.alloc (.cells #[] 5)) base (.slice (some ⟨w.heap.size, 0, none⟩) 0 0) [] := Buf.lit w base [] hb (by simp)

theorem wrap_div16 (c : UInt8) : IntKind.u8.wrap ((c.toNat : Int) / 16) = (c.toNat : Int) / 16 := by
  have h : ∀ n : Nat, n < 256 → IntKind.u8.wrap ((n : Int) / 16) = (n : Int) / 16 := by decide +kernel
  exact h _ c.toNat_lt

theorem tmod16 (c : UInt8) : (c.toNat : Int).tmod 16 = (c.toNat : Int) % 16 := Int.tmod_eq_emod_of_nonneg (by omega)

end Go.Proofs.YtongpnknmgbhjaaGreatDoor

/-
  A string appended to a byte buffer of the call's own.
-/
namespace Go.Proofs.YtongpnknmgbhjaaGreatDoor
open Go.RowKit

theorem wpList_append_buf_str {w : World} {ops : Array Oper} {rest : List Oper} {o : Oper} {a : Act} {Q : Exit → Act → World → Prop} (hgd : o.guard = none) (s x : Operand)
    (ho : o.op = .call { callee := .builtin .append, args := #[s, x], argTypes := #[138, 9] })
    (base : Nat) (v : Value) (l : List UInt8) (hs : a.eval s = v) (hown : Buf w base v l) (ns : List UInt8) (hx : a.eval x = .string ⟨ns.toArray⟩) (hlen : l.length + ns.length ≤ 16777216) (hbase : base ≤ w.heap.size)
    (h : ∀ v' w', Buf w' base v' (l ++ ns) → Below base w w' → wpList Tryz.prog ops Q rest (a.put o.dst v') w') : wpList Tryz.prog ops Q (o :: rest) a w := by
  obtain ⟨i0, hi, hz0, hz1, hz2⟩ := info_parts u8info
  have hsz : (⟨ns.toArray⟩ : ByteArray).size = ns.length := by show ns.toArray.size = _; simp
  refine Lib.wpList_append_own_string _ hgd s x 138 9 ho base 5 i0 Tryz.underlying138 Tryz.underlying9 hi hz0 hz1 hz2 v l.length (l.map bv) hs hown ⟨ns.toArray⟩ hx (by rw [hsz]; unfold maxLen; omega) (by rw [hsz]; omega) hbase ?_
  intro v' w' h2 h3 _
  refine h v' w' ?_ ((Below.refl base w).grown h3 hbase hown.owned)
  unfold Buf
  rw [hsz] at h2
  rw [List.length_append, List.map_append]
  exact h2

/-- A buffer is kept by whatever leaves all old blocks as they were. -/
theorem Buf.below {w w' : World} {base : Nat} {v : Value} {l : List UInt8} (h : Buf w base v l) (hb : Below w.heap.size w w') : Buf w' base v l :=
  World.ownsRow.kept h (row := none) ⟨hb.os, hb.tape, hb.output, hb.size, fun i hi _ => hb.block i hi⟩ (by
    rcases h.form with ⟨rfl, _⟩ | ⟨g, cap, rfl, _, _⟩
    · left; rfl
    · right; simp [Value.ownBlock])
end Go.Proofs.YtongpnknmgbhjaaGreatDoor

/-
  A cursor over a text in a cell: what it leaves.
-/
namespace Go.Proofs.YtongpnknmgbhjaaGreatDoor
open Go.RowKit

theorem index_one (m : UInt8) : ∀ l : List UInt8, Lib.index l [m] = Lib.indexByte l m
  | [] => rfl
  | c :: l => by
    have ih := index_one m l
    unfold Lib.index
    by_cases h : c = m
    · subst h; simp [Lib.indexByte]
    · rw [idx_miss l h, ih]
      have : ([m].isPrefixOf (c :: l)) = false := by simp [List.isPrefixOf]; exact fun e => h e.symm
      rw [if_neg (by rw [this]; simp)]
      simp
theorem cut_one (m : UInt8) (l : List UInt8) : (Lib.cut l [m]).1 = cutA m l ∧ (Lib.cut l [m]).2.1 = cutB m l := by
  unfold Lib.cut cutA cutB
  rw [index_one]
  split <;> simp

theorem cells1 {V : World} {B : Nat} {T : TypeId} {v0 : Value} (h : V.heap[B]? = some (.cells #[v0] T)) : V.cell? ⟨B, 0, none⟩ = some v0 := by simp [World.cell?, h]
theorem frozen1 {V : World} {B : Nat} {T : TypeId} {v0 : Value} (h : V.heap[B]? = some (.cells #[v0] T)) (o : Nat) : V.frozen? ⟨B, o, none⟩ = false := by simp [World.frozen?, h]
theorem heap_one {V : World} {B : Nat} {T : TypeId} {v0 : Value} (h : V.heap[B]? = some (.cells #[v0] T)) (x : Value) : (V.setCell ⟨B, 0, none⟩ x).heap[B]? = some (.cells #[x] T) := by
  rw [heap_setCell_same V B 0 #[v0] T x h]; rfl
/-- What upTo leaves: the rest in the cursor's cell, all else as it was. -/
def CurTo (q : Nat) (T : TypeId) (w : World) (r : List UInt8) (w' : World) : Prop := w'.heap[q]? = some (.cells #[.string ⟨r.toArray⟩] T) ∧ w.grownBy w' (some q) ∧ w'.heap.size = w.heap.size
theorem Buf.far {w w' : World} {base : Nat} {v : Value} {l : List UInt8} {q : Nat} (h : Buf w base v l) (hg : w.grownBy w' (some q)) (hq : q < base) : Buf w' base v l :=
  World.ownsRow.kept h hg (by
    rcases h.form with ⟨rfl, _⟩ | ⟨g, cap, rfl, hb, _⟩
    · left; rfl
    · right; simp [Value.ownBlock]; omega)

set_option maxRecDepth 100000 in
set_option maxHeartbeats 1000000 in
theorem done_any (q : Nat) (T : TypeId) (l : List UInt8) (w : World) (hq : w.heap[q]? = some (.cells #[.string ⟨l.toArray⟩] T)) :
    Calls Tryz.prog 180 #[.pointer (some ⟨q, 0, none⟩)] w fun e w' => e = .returned (.bool l.isEmpty) ∧ w = w' := by
  have c0 := cells1 hq
  clear hq
  go_enter Tryz.func180, Tryz.ntmps180
  go_wp2_with fail
  go_ret
  exact ⟨rfl, rfl⟩
end Go.Proofs.YtongpnknmgbhjaaGreatDoor

/-
  impl.readLimits: the bound of >= and <.
-/
namespace Go.Proofs.YtongpnknmgbhjaaGreatDoor
open Go.RowKit

theorem lmT_ge (l : List UInt8) : (!(lmT [62, 61] l).isEmpty) = (geP l && readOk (l.drop 2)) ∧ ((lmT [62, 61] l) ≠ [] → lmT [62, 61] l = l.drop 2) := by
  unfold geP
  cases h1 : ([62, 61] : List UInt8).isPrefixOf l with
  | false => rw [lmT_no1 h1]; simp
  | true =>
    cases h2 : readOk (l.drop 2) with
    | false => rw [lmT_no2 (p := [62, 61]) h2]; simp
    | true =>
      rw [lmT_yes h1 h2]
      refine ⟨?_, fun _ => rfl⟩
      cases h3 : l.drop 2 with
      | nil => rw [h3, readOk_nil] at h2; cases h2
      | cons x y => simp
theorem lmT_lt (l : List UInt8) : (!(lmT [60] l).isEmpty) = (ltP l && readOk (l.drop 1)) ∧ ((lmT [60] l) ≠ [] → lmT [60] l = l.drop 1) := by
  unfold ltP
  cases h1 : ([60] : List UInt8).isPrefixOf l with
  | false => rw [lmT_no1 h1]; simp
  | true =>
    cases h2 : readOk (l.drop 1) with
    | false => rw [lmT_no2 (p := [60]) h2]; simp
    | true =>
      rw [lmT_yes h1 h2]
      refine ⟨?_, fun _ => rfl⟩
      cases h3 : l.drop 1 with
      | nil => rw [h3, readOk_nil] at h2; cases h2
      | cons x y => simp
theorem ge_lt_no {l : List UInt8} (h : lmT [62, 61] l ≠ []) : lmT [60] l = [] := by
  have h1 : ([62, 61] : List UInt8).isPrefixOf l = true := by
    cases h1 : ([62, 61] : List UInt8).isPrefixOf l with
    | true => rfl
    | false => exact absurd (lmT_no1 h1) h
  obtain ⟨t, rfl⟩ := List.isPrefixOf_iff_prefix.1 h1
  exact lmT_no1 (by simp [List.isPrefixOf])
theorem cut_both {l : List UInt8} (h : 0 ≤ Lib.indexByte l 32) : (Lib.cut l [32]).1 = cutA 32 l ∧ (Lib.cut l [32]).2.1 = cutB 32 l ∧ (Lib.cut l [32]).2.2 = true := by
  refine ⟨(cut_one 32 l).1, (cut_one 32 l).2, ?_⟩
  unfold Lib.cut; rw [index_one, if_pos h]
theorem cut_alone {l : List UInt8} (h : ¬ 0 ≤ Lib.indexByte l 32) : (Lib.cut l [32]).1 = l ∧ (Lib.cut l [32]).2.1 = [] ∧ (Lib.cut l [32]).2.2 = false := by
  unfold Lib.cut; rw [index_one, if_neg h]; exact ⟨rfl, rfl, rfl⟩
theorem cutA_le (m : UInt8) (l : List UInt8) : (cutA m l).length ≤ l.length := by have := cut_len m l; omega

theorem ne_empty {l : List UInt8} (h : l ≠ []) : l.isEmpty = false := by cases l with
  | nil => exact absurd rfl h
  | cons x y => rfl
set_option maxRecDepth 100000 in
set_option maxHeartbeats 4000000 in
theorem limits_both (l f g : List UInt8) (m : Int) (w : World) (hl : l.length ≤ 1048000) (hf : f.length ≤ 1048000) (hg : g.length ≤ 1048000) (ht : Tab w) (hm : w.cell? ⟨0, 0, none⟩ = some (.int .i64 m))
    (h1 : (Lib.cut l [32]).1 = f) (h2 : (Lib.cut l [32]).2.1 = g) (h3 : (Lib.cut l [32]).2.2 = true) (lo hi : List UInt8) (hlo : lmT [62, 61] f = lo) (hhi : lmT [60] g = hi) :
    Calls Tryz.prog 110 #[.string ⟨l.toArray⟩] w (AltIs w ((!lo.isEmpty) && (!hi.isEmpty)) (lo, hi)) := by
  have B0 : Below w.heap.size w (w.alloc (.cells #[.string ⟨#[]⟩, .string ⟨#[]⟩] 73)) := (Below.refl _ _).alloc (Nat.le_refl _) _
  have r0 := heap_alloc_new w (.cells #[.string ⟨#[]⟩, .string ⟨#[]⟩] 73)
  have HC := Lib.hid (fun (W : World) (h : Below w.heap.size w W) => cutSp_any l m W (by omega) (keepC h hm))
  rw [h1, h2, h3] at HC
  have HG := Lib.hid (fun (W : World) (h : Below w.heap.size w W) => readLimit_any f [62, 61] W hf (tab_below ht h))
  rw [hlo] at HG
  have HL := Lib.hid (fun (W : World) (h : Below w.heap.size w W) => readLimit_any g [60] W hg (tab_below ht h))
  rw [hhi] at HL
  clear h1 h2 h3 hlo hhi ht hm hl hf hg
  go_enter Tryz.func110, Tryz.ntmps110
  go_wp2_with fail
  refine (HC.out _ B0).mono ?_
  rintro e w1 ⟨rfl, n, hw1⟩
  have B1 : Below w.heap.size w w1 := by rw [hw1]; exact B0.trans (below_drewN _ _ n)
  have r1 : w1.heap[w.heap.size]? = some (.cells #[.string ⟨#[]⟩, .string ⟨#[]⟩] 73) := by rw [hw1]; exact r0
  clear hw1 r0 B0
  go_wp2_with fail
  refine (HG.out _ B1).mono ?_
  rintro e w2 ⟨rfl, hb2⟩
  have B2 := B1.trans (hb2.mono B1.size)
  have r2 := keepB r1 hb2
  have B3 := B2.alloc B2.size (.cells #[.string ⟨lo.toArray⟩, .string ⟨#[]⟩] 73)
  have r3 := keepA r2 (.cells #[.string ⟨lo.toArray⟩, .string ⟨#[]⟩] 73)
  have z3 := heap_alloc_new w2 (.cells #[.string ⟨lo.toArray⟩, .string ⟨#[]⟩] 73)
  have hs2 := lt_of_heap r2
  clear hb2 r1 B1 r2 B2
  go_wp2_with fail
  refine (HL.out _ B3).mono ?_
  rintro e w4 ⟨rfl, hb4⟩
  have B4 := B3.trans (hb4.mono B3.size)
  have r4 := keepB r3 hb4
  have z4 := keepB z3 hb4
  generalize w2.heap.size = Q at z4 hs2 ⊢
  have rr := heap_other (o := 1) r4 (.string ⟨hi.toArray⟩) (g := Q) (by omega)
  have zz := Lib.heap_setCell_same (i := 1) z4 (.string ⟨hi.toArray⟩)
  have BB := B4.setCell (p := ⟨Q, 1, none⟩) (Nat.le_of_lt hs2) (.string ⟨hi.toArray⟩)
  obtain ⟨v0, v1⟩ := two_cells z4
  have g1 := frozen2 z4 1
  clear hb4 r3 z3 B3 B4
  have hQR : Q ≠ w.heap.size := by omega
  have zz : (w4.setCell ⟨Q, 1, none⟩ (.string ⟨hi.toArray⟩)).heap[Q]? = some (.cells #[.string ⟨lo.toArray⟩, .string ⟨hi.toArray⟩] 73) := by simpa using zz
  obtain ⟨z0, z1⟩ := two_cells zz
  obtain ⟨y0, y1⟩ := two_cells rr
  have f0 := frozen2 rr 0
  have f1 := frozen2 rr 1
  clear r4 z4
  by_cases hl0 : lo = [] <;> by_cases hh0 : hi = []
  · subst hl0
    subst hh0
    have HE : Hid (((!([] : List UInt8).isEmpty) && (!([] : List UInt8).isEmpty)) = false) := Lib.hid (by rfl)
    go_wp2_with fail
    go_region
    all_goals go_wp2_with fail
    all_goals
      obtain ⟨x0, x1⟩ := two_cells (V := (((w4.setCell ⟨Q, 1, none⟩ (.string ⟨#[]⟩)).setCell ⟨w.heap.size, 0, none⟩ (.string ⟨#[]⟩)).setCell ⟨w.heap.size, 1, none⟩ (.string ⟨#[]⟩)).drew) (set2_heap rr (.string ⟨#[]⟩) (.string ⟨#[]⟩))
      refine bodyPost_ret (v := .tuple #[.agg #[.string ⟨#[]⟩, .string ⟨#[]⟩], .bool false]) ?_ rfl ⟨_, _, (by rw [HE.out]), fun _ => ⟨rfl, rfl⟩, (below_res2 BB (Nat.le_refl _) (.string ⟨#[]⟩) (.string ⟨#[]⟩)).trans (below_drewN _ _ 1)⟩
      simp [results, Tryz.results110, go_sem, x0, x1]
  · subst hl0
    have m1 : (hi == []) = false := by simpa using hh0
    have m2 : (hi != []) = true := by simpa using hh0
    have HE : Hid (((!([] : List UInt8).isEmpty) && (!(hi : List UInt8).isEmpty)) = false) := Lib.hid (by rw [ne_empty hh0]; rfl)
    clear hh0
    go_wp2_with fail
    go_region
    all_goals go_wp2_with fail
    all_goals
      obtain ⟨x0, x1⟩ := two_cells (V := (((w4.setCell ⟨Q, 1, none⟩ (.string ⟨hi.toArray⟩)).setCell ⟨w.heap.size, 0, none⟩ (.string ⟨#[]⟩)).setCell ⟨w.heap.size, 1, none⟩ (.string ⟨hi.toArray⟩)).drew) (set2_heap rr (.string ⟨#[]⟩) (.string ⟨hi.toArray⟩))
      refine bodyPost_ret (v := .tuple #[.agg #[.string ⟨#[]⟩, .string ⟨hi.toArray⟩], .bool false]) ?_ rfl ⟨_, _, (by rw [HE.out]), fun _ => ⟨rfl, rfl⟩, (below_res2 BB (Nat.le_refl _) (.string ⟨#[]⟩) (.string ⟨hi.toArray⟩)).trans (below_drewN _ _ 1)⟩
      simp [results, Tryz.results110, go_sem, x0, x1]
  · have n1 : (lo == []) = false := by simpa using hl0
    have n2 : (lo != []) = true := by simpa using hl0
    subst hh0
    have HE : Hid (((!(lo : List UInt8).isEmpty) && (!([] : List UInt8).isEmpty)) = false) := Lib.hid (by rw [ne_empty hl0]; rfl)
    clear hl0
    go_wp2_with fail
    go_region
    all_goals go_wp2_with fail
    all_goals
      obtain ⟨x0, x1⟩ := two_cells (V := (((w4.setCell ⟨Q, 1, none⟩ (.string ⟨#[]⟩)).setCell ⟨w.heap.size, 0, none⟩ (.string ⟨lo.toArray⟩)).setCell ⟨w.heap.size, 1, none⟩ (.string ⟨#[]⟩)).drew) (set2_heap rr (.string ⟨lo.toArray⟩) (.string ⟨#[]⟩))
      refine bodyPost_ret (v := .tuple #[.agg #[.string ⟨lo.toArray⟩, .string ⟨#[]⟩], .bool false]) ?_ rfl ⟨_, _, (by rw [HE.out]), fun _ => ⟨rfl, rfl⟩, (below_res2 BB (Nat.le_refl _) (.string ⟨lo.toArray⟩) (.string ⟨#[]⟩)).trans (below_drewN _ _ 1)⟩
      simp [results, Tryz.results110, go_sem, x0, x1]
  · have n1 : (lo == []) = false := by simpa using hl0
    have n2 : (lo != []) = true := by simpa using hl0
    have m1 : (hi == []) = false := by simpa using hh0
    have m2 : (hi != []) = true := by simpa using hh0
    have HE : Hid (((!(lo : List UInt8).isEmpty) && (!(hi : List UInt8).isEmpty)) = true) := Lib.hid (by rw [ne_empty hl0, ne_empty hh0]; rfl)
    clear hl0 hh0
    go_wp2_with fail
    go_region
    all_goals go_wp2_with fail
    all_goals
      obtain ⟨x0, x1⟩ := two_cells (V := (((w4.setCell ⟨Q, 1, none⟩ (.string ⟨hi.toArray⟩)).setCell ⟨w.heap.size, 0, none⟩ (.string ⟨lo.toArray⟩)).setCell ⟨w.heap.size, 1, none⟩ (.string ⟨hi.toArray⟩)).drew) (set2_heap rr (.string ⟨lo.toArray⟩) (.string ⟨hi.toArray⟩))
      refine bodyPost_ret (v := .tuple #[.agg #[.string ⟨lo.toArray⟩, .string ⟨hi.toArray⟩], .bool true]) ?_ rfl ⟨_, _, (by rw [HE.out]), fun _ => ⟨rfl, rfl⟩, (below_res2 BB (Nat.le_refl _) (.string ⟨lo.toArray⟩) (.string ⟨hi.toArray⟩)).trans (below_drewN _ _ 1)⟩
      simp [results, Tryz.results110, go_sem, x0, x1]

set_option maxRecDepth 100000 in
set_option maxHeartbeats 4000000 in
theorem limits_alone (l f g : List UInt8) (m : Int) (w : World) (hl : l.length ≤ 1048000) (hf : f.length ≤ 1048000) (_hg : g.length ≤ 1048000) (ht : Tab w) (hm : w.cell? ⟨0, 0, none⟩ = some (.int .i64 m))
    (h1 : (Lib.cut l [32]).1 = f) (h2 : (Lib.cut l [32]).2.1 = g) (h3 : (Lib.cut l [32]).2.2 = false) (lo hi : List UInt8) (hlo : lmT [62, 61] f = lo) (hhi : lmT [60] f = hi) :
    Calls Tryz.prog 110 #[.string ⟨l.toArray⟩] w (AltIs w ((!lo.isEmpty) || (!hi.isEmpty)) (lo, hi)) := by
  have B0 : Below w.heap.size w (w.alloc (.cells #[.string ⟨#[]⟩, .string ⟨#[]⟩] 73)) := (Below.refl _ _).alloc (Nat.le_refl _) _
  have r0 := heap_alloc_new w (.cells #[.string ⟨#[]⟩, .string ⟨#[]⟩] 73)
  have HC := Lib.hid (fun (W : World) (h : Below w.heap.size w W) => cutSp_any l m W (by omega) (keepC h hm))
  rw [h1, h2, h3] at HC
  have HG := Lib.hid (fun (W : World) (h : Below w.heap.size w W) => readLimit_any f [62, 61] W hf (tab_below ht h))
  rw [hlo] at HG
  have HL := Lib.hid (fun (W : World) (h : Below w.heap.size w W) => readLimit_any f [60] W hf (tab_below ht h))
  rw [hhi] at HL
  clear h1 h2 h3 hlo hhi ht hm hl hf _hg
  go_enter Tryz.func110, Tryz.ntmps110
  go_wp2_with fail
  refine (HC.out _ B0).mono ?_
  rintro e w1 ⟨rfl, n, hw1⟩
  have B1 : Below w.heap.size w w1 := by rw [hw1]; exact B0.trans (below_drewN _ _ n)
  have r1 : w1.heap[w.heap.size]? = some (.cells #[.string ⟨#[]⟩, .string ⟨#[]⟩] 73) := by rw [hw1]; exact r0
  clear hw1 r0 B0
  go_wp2_with fail
  refine (HG.out _ B1).mono ?_
  rintro e w2 ⟨rfl, hb2⟩
  have B2 := B1.trans (hb2.mono B1.size)
  have r2 := keepB r1 hb2
  have B3 := B2.alloc B2.size (.cells #[.string ⟨lo.toArray⟩, .string ⟨#[]⟩] 73)
  have r3 := keepA r2 (.cells #[.string ⟨lo.toArray⟩, .string ⟨#[]⟩] 73)
  have z3 := heap_alloc_new w2 (.cells #[.string ⟨lo.toArray⟩, .string ⟨#[]⟩] 73)
  have hs2 := lt_of_heap r2
  clear hb2 r1 B1 r2 B2
  go_wp2_with fail
  refine (HL.out _ B3).mono ?_
  rintro e w4 ⟨rfl, hb4⟩
  have B4 := B3.trans (hb4.mono B3.size)
  have r4 := keepB r3 hb4
  have z4 := keepB z3 hb4
  generalize w2.heap.size = Q at z4 hs2 ⊢
  have rr := heap_other (o := 1) r4 (.string ⟨hi.toArray⟩) (g := Q) (by omega)
  have zz := Lib.heap_setCell_same (i := 1) z4 (.string ⟨hi.toArray⟩)
  have BB := B4.setCell (p := ⟨Q, 1, none⟩) (Nat.le_of_lt hs2) (.string ⟨hi.toArray⟩)
  obtain ⟨v0, v1⟩ := two_cells z4
  have g1 := frozen2 z4 1
  clear hb4 r3 z3 B3 B4
  have hQR : Q ≠ w.heap.size := by omega
  have zz : (w4.setCell ⟨Q, 1, none⟩ (.string ⟨hi.toArray⟩)).heap[Q]? = some (.cells #[.string ⟨lo.toArray⟩, .string ⟨hi.toArray⟩] 73) := by simpa using zz
  obtain ⟨z0, z1⟩ := two_cells zz
  obtain ⟨y0, y1⟩ := two_cells rr
  have f0 := frozen2 rr 0
  have f1 := frozen2 rr 1
  clear r4 z4
  by_cases hl0 : lo = [] <;> by_cases hh0 : hi = []
  · subst hl0
    subst hh0
    have HE : Hid (((!([] : List UInt8).isEmpty) || (!([] : List UInt8).isEmpty)) = false) := Lib.hid (by rfl)
    go_wp2_with fail
    go_region
    all_goals go_wp2_with fail
    all_goals
      obtain ⟨x0, x1⟩ := two_cells (V := (((w4.setCell ⟨Q, 1, none⟩ (.string ⟨#[]⟩)).setCell ⟨w.heap.size, 0, none⟩ (.string ⟨#[]⟩)).setCell ⟨w.heap.size, 1, none⟩ (.string ⟨#[]⟩)).drew) (set2_heap rr (.string ⟨#[]⟩) (.string ⟨#[]⟩))
      refine bodyPost_ret (v := .tuple #[.agg #[.string ⟨#[]⟩, .string ⟨#[]⟩], .bool false]) ?_ rfl ⟨_, _, (by rw [HE.out]), fun _ => ⟨rfl, rfl⟩, (below_res2 BB (Nat.le_refl _) (.string ⟨#[]⟩) (.string ⟨#[]⟩)).trans (below_drewN _ _ 1)⟩
      simp [results, Tryz.results110, go_sem, x0, x1]
  · subst hl0
    have m1 : (hi == []) = false := by simpa using hh0
    have m2 : (hi != []) = true := by simpa using hh0
    have HE : Hid (((!([] : List UInt8).isEmpty) || (!(hi : List UInt8).isEmpty)) = true) := Lib.hid (by rw [ne_empty hh0]; rfl)
    clear hh0
    go_wp2_with fail
    go_region
    all_goals go_wp2_with fail
    all_goals
      obtain ⟨x0, x1⟩ := two_cells (V := (((w4.setCell ⟨Q, 1, none⟩ (.string ⟨hi.toArray⟩)).setCell ⟨w.heap.size, 0, none⟩ (.string ⟨#[]⟩)).setCell ⟨w.heap.size, 1, none⟩ (.string ⟨hi.toArray⟩)).drew) (set2_heap rr (.string ⟨#[]⟩) (.string ⟨hi.toArray⟩))
      refine bodyPost_ret (v := .tuple #[.agg #[.string ⟨#[]⟩, .string ⟨hi.toArray⟩], .bool true]) ?_ rfl ⟨_, _, (by rw [HE.out]), fun _ => ⟨rfl, rfl⟩, (below_res2 BB (Nat.le_refl _) (.string ⟨#[]⟩) (.string ⟨hi.toArray⟩)).trans (below_drewN _ _ 1)⟩
      simp [results, Tryz.results110, go_sem, x0, x1]
  · have n1 : (lo == []) = false := by simpa using hl0
    have n2 : (lo != []) = true := by simpa using hl0
    subst hh0
    have HE : Hid (((!(lo : List UInt8).isEmpty) || (!([] : List UInt8).isEmpty)) = true) := Lib.hid (by rw [ne_empty hl0]; rfl)
    clear hl0
    go_wp2_with fail
    go_region
    all_goals go_wp2_with fail
    all_goals
      obtain ⟨x0, x1⟩ := two_cells (V := (((w4.setCell ⟨Q, 1, none⟩ (.string ⟨#[]⟩)).setCell ⟨w.heap.size, 0, none⟩ (.string ⟨lo.toArray⟩)).setCell ⟨w.heap.size, 1, none⟩ (.string ⟨#[]⟩)).drew) (set2_heap rr (.string ⟨lo.toArray⟩) (.string ⟨#[]⟩))
      refine bodyPost_ret (v := .tuple #[.agg #[.string ⟨lo.toArray⟩, .string ⟨#[]⟩], .bool true]) ?_ rfl ⟨_, _, (by rw [HE.out]), fun _ => ⟨rfl, rfl⟩, (below_res2 BB (Nat.le_refl _) (.string ⟨lo.toArray⟩) (.string ⟨#[]⟩)).trans (below_drewN _ _ 1)⟩
      simp [results, Tryz.results110, go_sem, x0, x1]
  · have n1 : (lo == []) = false := by simpa using hl0
    have n2 : (lo != []) = true := by simpa using hl0
    have m1 : (hi == []) = false := by simpa using hh0
    have m2 : (hi != []) = true := by simpa using hh0
    have HE : Hid (((!(lo : List UInt8).isEmpty) || (!(hi : List UInt8).isEmpty)) = true) := Lib.hid (by rw [ne_empty hl0, ne_empty hh0]; rfl)
    clear hl0 hh0
    go_wp2_with fail
    go_region
    all_goals go_wp2_with fail
    all_goals
      obtain ⟨x0, x1⟩ := two_cells (V := (((w4.setCell ⟨Q, 1, none⟩ (.string ⟨hi.toArray⟩)).setCell ⟨w.heap.size, 0, none⟩ (.string ⟨lo.toArray⟩)).setCell ⟨w.heap.size, 1, none⟩ (.string ⟨hi.toArray⟩)).drew) (set2_heap rr (.string ⟨lo.toArray⟩) (.string ⟨hi.toArray⟩))
      refine bodyPost_ret (v := .tuple #[.agg #[.string ⟨lo.toArray⟩, .string ⟨hi.toArray⟩], .bool true]) ?_ rfl ⟨_, _, (by rw [HE.out]), fun _ => ⟨rfl, rfl⟩, (below_res2 BB (Nat.le_refl _) (.string ⟨lo.toArray⟩) (.string ⟨hi.toArray⟩)).trans (below_drewN _ _ 1)⟩
      simp [results, Tryz.results110, go_sem, x0, x1]


theorem readLimits_any (l : List UInt8) (m : Int) (w : World) (hl : l.length ≤ 1048000) (ht : Tab w) (hm : w.cell? ⟨0, 0, none⟩ = some (.int .i64 m)) :
    Calls Tryz.prog 110 #[.string ⟨l.toArray⟩] w (AltIs w (lmOk l) (lmB l)) := by
  by_cases hi : 0 ≤ Lib.indexByte l 32
  · obtain ⟨e1, e2, e3⟩ := cut_both hi
    refine (limits_both l (cutA 32 l) (cutB 32 l) m w hl (by have := cutA_le 32 l; omega) (by have := cutB_le 32 l; omega) ht hm e1 e2 e3 _ _ rfl rfl).mono fun e w' h => ?_
    obtain ⟨x, y, he, hxy, hb⟩ := h
    obtain ⟨a1, a2⟩ := lmT_ge (cutA 32 l)
    obtain ⟨b1, b2⟩ := lmT_lt (cutB 32 l)
    have hok : lmOk l = ((!(lmT [62, 61] (cutA 32 l)).isEmpty) && (!(lmT [60] (cutB 32 l)).isEmpty)) := by unfold lmOk; rw [if_pos hi, a1, b1]
    refine ⟨x, y, by rw [hok]; exact he, fun hk => ?_, hb⟩
    rw [hok] at hk
    have hh := hxy hk
    simp only [Bool.and_eq_true, Bool.not_eq_true', List.isEmpty_eq_false_iff] at hk
    unfold lmB; rw [if_pos hi]
    rw [a2 hk.1, b2 hk.2] at hh
    exact hh
  · obtain ⟨e1, e2, e3⟩ := cut_alone hi
    refine (limits_alone l l [] m w hl hl (by simp) ht hm e1 e2 e3 _ _ rfl rfl).mono fun e w' h => ?_
    obtain ⟨x, y, he, hxy, hb⟩ := h
    obtain ⟨a1, a2⟩ := lmT_ge l
    obtain ⟨b1, b2⟩ := lmT_lt l
    have hok : lmOk l = ((!(lmT [62, 61] l).isEmpty) || (!(lmT [60] l).isEmpty)) := by unfold lmOk; rw [if_neg hi, a1, b1]
    refine ⟨x, y, by rw [hok]; exact he, fun hk => ?_, hb⟩
    rw [hok] at hk
    have hh := hxy hk
    unfold lmB; rw [if_neg hi, ← a1]
    by_cases hz : lmT [62, 61] l = []
    · rw [hz] at hk hh ⊢
      simp at hk
      rw [b2 hk] at hh
      simpa using hh
    · rw [ge_lt_no hz, a2 hz] at hh
      rw [ne_empty hz]
      simpa using hh
end Go.Proofs.YtongpnknmgbhjaaGreatDoor

/-
  spec.l03Part: one alternative of a range.
-/
namespace Go.Proofs.YtongpnknmgbhjaaGreatDoor
open Go.RowKit

theorem AltIs.no {w w' : World} {b b' : Bd} {e : Ending} (h : AltIs w false b e w') : AltIs w false b' e w' := by
  obtain ⟨x, y, he, _, hb⟩ := h
  exact ⟨x, y, he, fun h => (by cases h), hb⟩
def shOk (l : List UInt8) : Bool := decide (l.count 46 < 2) && fromOk (l ++ zrs (l.count 46)) (l.count 46)
def shB (l : List UInt8) : Bd := fromB (l ++ zrs (l.count 46)) (l.count 46)
theorem l03Short_any (l : List UInt8) (w : World) (hl : l.length ≤ 1048000) : Calls Tryz.prog 102 #[.string ⟨l.toArray⟩] w (AltIs w (shOk l) (shB l)) := by
  rcases Nat.lt_or_ge (l.count 46) 2 with h | h
  · have hc : l.count 46 = 0 ∨ l.count 46 = 1 := by omega
    unfold shOk shB
    rcases hc with hc | hc
    · rw [hc]; exact l03Short_0 l w hl hc
    · rw [hc]; exact l03Short_1 l w hl hc
  · have : shOk l = false := by unfold shOk; rw [decide_eq_false (by omega)]; rfl
    rw [this]
    exact (l03Short_many l w hl h).mono fun e w' h => h.no
def tlOk (l : List UInt8) : Bool := exOk l || shOk l
def tlB (l : List UInt8) : Bd := if exOk l = true then (l, exHigh l) else shB l
theorem tl_eq (l : List UInt8) : tlOk l = (if l.count 46 < 2 then fromOk (l ++ zrs (l.count 46)) (l.count 46) else exOk l) ∧ (tlOk l = true → tlB l = if l.count 46 < 2 then fromB (l ++ zrs (l.count 46)) (l.count 46) else (l, exHigh l)) := by
  unfold tlOk tlB shOk shB
  by_cases h : l.count 46 < 2
  · rw [few_noEx h, if_pos h, if_pos h, decide_eq_true h]; simp
  · rw [if_neg h, if_neg h, decide_eq_false h]
    cases exOk l <;> simp
/-- A text that has none of the signs ahead. -/
def plainA (l : List UInt8) : Prop := l ≠ [42] ∧ l.head? ≠ some 94 ∧ l.head? ≠ some 126 ∧ l.head? ≠ some 62 ∧ l.head? ≠ some 60
theorem alt_plain {l : List UInt8} (h : plainA l) : altOk l = tlOk l ∧ (altOk l = true → altB l = tlB l) := by
  obtain ⟨h1, h2, h3, h4, h5⟩ := h
  obtain ⟨e1, e2⟩ := tl_eq l
  have ha : altOk l = tlOk l := by unfold altOk; rw [if_neg h1, if_neg h2, if_neg h3, if_neg (by simp [h4, h5]), e1]
  refine ⟨ha, fun hh => ?_⟩
  rw [ha] at hh
  unfold altB; rw [if_neg h1, if_neg h2, if_neg h3, if_neg (by simp [h4, h5]), e2 hh]
theorem alt_caret (r : List UInt8) : altOk (94 :: r) = fromOk r (crt r) ∧ altB (94 :: r) = fromB r (crt r) := by
  unfold altOk altB; simp
theorem alt_tilde (r : List UInt8) : altOk (126 :: r) = fromOk r 1 ∧ altB (126 :: r) = fromB r 1 := by
  unfold altOk altB; simp
theorem alt_signs {l : List UInt8} (h : l.head? = some 62 ∨ l.head? = some 60) : altOk l = lmOk l ∧ altB l = lmB l := by
  have h1 : l ≠ [42] := fun e => by subst e; simp at h
  have h2 : l.head? ≠ some 94 := fun e => by rw [e] at h; simp at h
  have h3 : l.head? ≠ some 126 := fun e => by rw [e] at h; simp at h
  unfold altOk altB; rw [if_neg h1, if_neg h2, if_neg h3, if_pos h, if_neg h1, if_neg h2, if_neg h3, if_pos h]; exact ⟨rfl, rfl⟩
theorem crt_in (l : List UInt8) : inI (crt l) 0 2 = true := by unfold crt inI; split <;> (try split) <;> decide
theorem byte_no {c d : UInt8} (h : c ≠ d) : (((c.toNat : Int)) == (d.toNat : Int)) = false := int_beq_false (fun e => h (UInt8.toNat_inj.1 (by omega)))
theorem one42 {s : ByteArray} {l : List UInt8} (hs : s = ⟨l.toArray⟩) (h : l ≠ [42]) : (s.toList == [42]) = false := by
  subst hs
  rw [ByteArray.toList_eq]
  simpa using h

set_option maxRecDepth 100000 in
set_option maxHeartbeats 4000000 in
theorem part_star (s : ByteArray) (w : World) (hs : (s.toList == [42]) = true) :
    Calls Tryz.prog 51 #[.string s] w (AltIs w true ([], [])) := by
  have B0 : Below w.heap.size w (w.alloc (.cells #[.string ⟨#[]⟩, .string ⟨#[]⟩] 73)) := (Below.refl _ _).alloc (Nat.le_refl _) _
  go_enter Tryz.func51, Tryz.ntmps51
  go_wp2_with fail
  refine bodyPost_ret (v := .tuple #[.agg #[.string ⟨#[]⟩, .string ⟨#[]⟩], .bool true]) ?_ rfl ⟨_, _, rfl, fun _ => ⟨rfl, rfl⟩, B0⟩
  simp [results, Tryz.results51, go_sem]

set_option maxRecDepth 100000 in
set_option maxHeartbeats 4000000 in
theorem part_caret_no (s : ByteArray) (r : List UInt8) (w : World) (hl : r.length ≤ 1048000) (h42 : (s.toList == [42]) = false) (h1 : 1 < s.size) (b94 : (((s[0]'(by omega)).toNat : Int) == 94) = true) (sl : ∀ w, (Instr.slice 9 (.string s) (some (.int .i64 1)) none none).run Tryz.prog w = .ok (.string ⟨r.toArray⟩) w) (hok : readOk r = false) :
    Calls Tryz.prog 51 #[.string s] w (AltIs w false ([], [])) := by
  have B0 : Below w.heap.size w (w.alloc (.cells #[.string ⟨#[]⟩, .string ⟨#[]⟩] 73)) := (Below.refl _ _).alloc (Nat.le_refl _) _
  have r0 := heap_alloc_new w (.cells #[.string ⟨#[]⟩, .string ⟨#[]⟩] 73)
  have HV : Hid (∀ W, Calls Tryz.prog 97 #[.string ⟨r.toArray⟩] W (ReadIs W r)) := Lib.hid (fun W => specReadVersion_any ⟨r.toArray⟩ W (by rw [size_of]; omega))
  have HO := Lib.hid hok
  clear hok
  go_enter Tryz.func51, Tryz.ntmps51
  go_wp2_with fail
  refine (HV.out _).mono ?_
  rintro e w2 ⟨u, rfl, hu, hb2⟩
  obtain ⟨U, uc, rfl⟩ := hu.slice
  rw [HO.out]
  have B2 := B0.trans (hb2.mono B0.size)
  have r2 := keepB r0 hb2
  have hlt := lt_of_heap r2
  obtain ⟨c0, c1, f1⟩ := cellsD r2
  have B3 := (below_res2 B2 (Nat.le_refl _) (.string ⟨#[]⟩) (.string ⟨#[]⟩)).alloc (by simpa using B2.size) (.cells #[.int .i64 (readA r 0), .int .i64 (readA r 1), .int .i64 (readA r 2), .slice U (readP r).length uc] 127)
  obtain ⟨y0, y1⟩ := two_cells (keepA (set2_heap r2 (.string ⟨#[]⟩) (.string ⟨#[]⟩)) (.cells #[.int .i64 (readA r 0), .int .i64 (readA r 1), .int .i64 (readA r 2), .slice U (readP r).length uc] 127))
  go_wp2_with fail
  refine bodyPost_ret (v := .tuple #[.agg #[.string ⟨#[]⟩, .string ⟨#[]⟩], .bool false]) ?_ rfl ⟨_, _, rfl, fun h => (by cases h), ?_⟩
  · simp [results, Tryz.results51, go_sem, y0, y1]
  · exact B3

set_option maxRecDepth 100000 in
set_option maxHeartbeats 4000000 in
theorem part_caret_yes (s : ByteArray) (r : List UInt8) (w : World) (hl : r.length ≤ 1048000) (h42 : (s.toList == [42]) = false) (h1 : 1 < s.size) (b94 : (((s[0]'(by omega)).toNat : Int) == 94) = true) (b126 : (((s[0]'(by omega)).toNat : Int) == 126) = false) (sl : ∀ w, (Instr.slice 9 (.string s) (some (.int .i64 1)) none none).run Tryz.prog w = .ok (.string ⟨r.toArray⟩) w) (hok : readOk r = true) :
    Calls Tryz.prog 51 #[.string s] w (AltIs w (fromOk r (crt r)) (fromB r (crt r))) := by
  have B0 : Below w.heap.size w (w.alloc (.cells #[.string ⟨#[]⟩, .string ⟨#[]⟩] 73)) := (Below.refl _ _).alloc (Nat.le_refl _) _
  have r0 := heap_alloc_new w (.cells #[.string ⟨#[]⟩, .string ⟨#[]⟩] 73)
  have HV : Hid (∀ W, Calls Tryz.prog 97 #[.string ⟨r.toArray⟩] W (ReadIs W r)) := Lib.hid (fun W => specReadVersion_any ⟨r.toArray⟩ W (by rw [size_of]; omega))
  have HO := Lib.hid hok
  have HRN := read_num hok
  have HC := Lib.hid (fun (A : Option Addr) (n cap : Nat) W => l03Caret_any (readA r 0) (readA r 1) (readA r 2) A n cap W)
  rw [fromOk_of hok]
  unfold fromB
  have HF := Lib.hid (fun (A : Option Addr) (n cap : Nat) W => l03From_any r (readA r 0) (readA r 1) (readA r 2) (crt r) A n cap W HRN (crt_in r))
  obtain ⟨p, HP⟩ : ∃ p : Int, Hid ((crt r) = p) := ⟨_, Lib.hid rfl⟩
  rw [show (if 0 < readA r 0 then (0 : Int) else if 0 < readA r 1 then 1 else 2) = crt r from rfl] at HC
  simp only [HP.out] at HF HC ⊢
  obtain ⟨hi, HH⟩ : ∃ hi, Hid (rsd (readA r 0) (readA r 1) (readA r 2) p = hi) := ⟨_, Lib.hid rfl⟩
  simp only [HH.out] at HF ⊢
  obtain ⟨q, HQ⟩ : ∃ q, Hid ((!hi.isEmpty) = q) := ⟨_, Lib.hid rfl⟩
  rw [HQ.out] at HF ⊢
  clear HRN hok
  go_enter Tryz.func51, Tryz.ntmps51
  go_wp2_with fail
  refine (HV.out _).mono ?_
  rintro e w2 ⟨u, rfl, hu, hb2⟩
  obtain ⟨U, uc, rfl⟩ := hu.slice
  rw [HO.out]
  have B2 := B0.trans (hb2.mono B0.size)
  have r2 := keepB r0 hb2
  have v3 := heap_alloc_new w2 (.cells #[.int .i64 (readA r 0), .int .i64 (readA r 1), .int .i64 (readA r 2), .slice U (readP r).length uc] 127)
  have r3 := keepA r2 (.cells #[.int .i64 (readA r 0), .int .i64 (readA r 1), .int .i64 (readA r 2), .slice U (readP r).length uc] 127)
  obtain ⟨p0, p1, p2, p3⟩ := cells4 v3
  have BV : Below w.heap.size w ((w2.alloc (.cells #[.int .i64 (readA r 0), .int .i64 (readA r 1), .int .i64 (readA r 2), .slice U (readP r).length uc] 127)).drew) := (B2.alloc B2.size _).trans (below_drewN _ _ 1)
  clear hb2 hu
  go_wp2_with fail
  go_region_held3 (fun W => W.cell? ⟨w2.heap.size, 0, none⟩ = some (.int .i64 (readA r 0)) ∧ W.cell? ⟨w2.heap.size, 1, none⟩ = some (.int .i64 (readA r 1)) ∧ W.cell? ⟨w2.heap.size, 2, none⟩ = some (.int .i64 (readA r 2)) ∧ W.cell? ⟨w2.heap.size, 3, none⟩ = some (.slice U (readP r).length uc)) (first | exact ⟨p0, p1, p2, p3⟩ | exact ⟨(cell_far2 hq _ _).trans p0, (cell_far2 hq _ _).trans p1, (cell_far2 hq _ _).trans p2, (cell_far2 hq _ _).trans p3⟩ | go_keep) ((first
    | (go_at_call 99; (with_reducible refine (HC.out _ _ _ _).mono ?_); rintro e w5 ⟨rfl, hb5⟩; have B5 := BV.trans (hb5.mono BV.size); have v5 := keepB (W := (w2.alloc (.cells #[.int .i64 (readA r 0), .int .i64 (readA r 1), .int .i64 (readA r 2), .slice U (readP r).length uc] 127)).drew) v3 hb5; have r5 := keepB (W := (w2.alloc (.cells #[.int .i64 (readA r 0), .int .i64 (readA r 1), .int .i64 (readA r 2), .slice U (readP r).length uc] 127)).drew) r3 hb5; obtain ⟨p0, p1, p2, p3⟩ := cells4 v5)
    | (go_at_call 98; (with_reducible refine (HF.out _ _ _ _).mono ?_); rintro e w7 ⟨x, y, rfl, hxy, hb7⟩; have B7 := B5.trans (hb7.mono B5.size); have v7 := keepB v5 hb7; have r7 := keepB r5 hb7; have hq : w2.heap.size ≠ w.heap.size := Nat.ne_of_gt (lt_of_heap r2); obtain ⟨c0, c1, f1⟩ := cellsD r7; obtain ⟨p0, p1, p2, p3⟩ := cells4 v7)))
  all_goals
    go_wp2_with fail
    refine bodyPost_ret (v := .tuple #[.agg #[.string x, .string y], .bool q]) ?_ rfl ⟨_, _, rfl, hxy, ?_⟩
    · simp [results, Tryz.results51, go_sem, c0, c1]
    · exact below_res2 B7 (Nat.le_refl _) _ _

set_option maxRecDepth 100000 in
set_option maxHeartbeats 4000000 in
theorem part_tilde_no (s : ByteArray) (r : List UInt8) (w : World) (hl : r.length ≤ 1048000) (h42 : (s.toList == [42]) = false) (h1 : 1 < s.size) (b94 : (((s[0]'(by omega)).toNat : Int) == 94) = false) (b126 : (((s[0]'(by omega)).toNat : Int) == 126) = true) (sl : ∀ w, (Instr.slice 9 (.string s) (some (.int .i64 1)) none none).run Tryz.prog w = .ok (.string ⟨r.toArray⟩) w) (hok : readOk r = false) :
    Calls Tryz.prog 51 #[.string s] w (AltIs w false ([], [])) := by
  have B0 : Below w.heap.size w (w.alloc (.cells #[.string ⟨#[]⟩, .string ⟨#[]⟩] 73)) := (Below.refl _ _).alloc (Nat.le_refl _) _
  have r0 := heap_alloc_new w (.cells #[.string ⟨#[]⟩, .string ⟨#[]⟩] 73)
  have HV : Hid (∀ W, Calls Tryz.prog 97 #[.string ⟨r.toArray⟩] W (ReadIs W r)) := Lib.hid (fun W => specReadVersion_any ⟨r.toArray⟩ W (by rw [size_of]; omega))
  have HO := Lib.hid hok
  clear hok
  go_enter Tryz.func51, Tryz.ntmps51
  go_wp2_with fail
  refine (HV.out _).mono ?_
  rintro e w2 ⟨u, rfl, hu, hb2⟩
  obtain ⟨U, uc, rfl⟩ := hu.slice
  rw [HO.out]
  have B2 := B0.trans (hb2.mono B0.size)
  have r2 := keepB r0 hb2
  have hlt := lt_of_heap r2
  obtain ⟨c0, c1, f1⟩ := cellsD r2
  have B3 := (below_res2 B2 (Nat.le_refl _) (.string ⟨#[]⟩) (.string ⟨#[]⟩)).alloc (by simpa using B2.size) (.cells #[.int .i64 (readA r 0), .int .i64 (readA r 1), .int .i64 (readA r 2), .slice U (readP r).length uc] 127)
  obtain ⟨y0, y1⟩ := two_cells (keepA (set2_heap r2 (.string ⟨#[]⟩) (.string ⟨#[]⟩)) (.cells #[.int .i64 (readA r 0), .int .i64 (readA r 1), .int .i64 (readA r 2), .slice U (readP r).length uc] 127))
  go_wp2_with fail
  refine bodyPost_ret (v := .tuple #[.agg #[.string ⟨#[]⟩, .string ⟨#[]⟩], .bool false]) ?_ rfl ⟨_, _, rfl, fun h => (by cases h), ?_⟩
  · simp [results, Tryz.results51, go_sem, y0, y1]
  · exact B3

set_option maxRecDepth 100000 in
set_option maxHeartbeats 4000000 in
theorem part_tilde_yes (s : ByteArray) (r : List UInt8) (w : World) (hl : r.length ≤ 1048000) (h42 : (s.toList == [42]) = false) (h1 : 1 < s.size) (b94 : (((s[0]'(by omega)).toNat : Int) == 94) = false) (b126 : (((s[0]'(by omega)).toNat : Int) == 126) = true) (sl : ∀ w, (Instr.slice 9 (.string s) (some (.int .i64 1)) none none).run Tryz.prog w = .ok (.string ⟨r.toArray⟩) w) (hok : readOk r = true) :
    Calls Tryz.prog 51 #[.string s] w (AltIs w (fromOk r 1) (fromB r 1)) := by
  have B0 : Below w.heap.size w (w.alloc (.cells #[.string ⟨#[]⟩, .string ⟨#[]⟩] 73)) := (Below.refl _ _).alloc (Nat.le_refl _) _
  have r0 := heap_alloc_new w (.cells #[.string ⟨#[]⟩, .string ⟨#[]⟩] 73)
  have HV : Hid (∀ W, Calls Tryz.prog 97 #[.string ⟨r.toArray⟩] W (ReadIs W r)) := Lib.hid (fun W => specReadVersion_any ⟨r.toArray⟩ W (by rw [size_of]; omega))
  have HO := Lib.hid hok
  have HRN := read_num hok
  rw [fromOk_of hok]
  unfold fromB
  have HF := Lib.hid (fun (A : Option Addr) (n cap : Nat) W => l03From_any r (readA r 0) (readA r 1) (readA r 2) 1 A n cap W HRN (by decide))
  obtain ⟨p, HP⟩ : ∃ p : Int, Hid (1 = p) := ⟨_, Lib.hid rfl⟩
  skip
  obtain ⟨hi, HH⟩ : ∃ hi, Hid (rsd (readA r 0) (readA r 1) (readA r 2) 1 = hi) := ⟨_, Lib.hid rfl⟩
  simp only [HH.out] at HF ⊢
  obtain ⟨q, HQ⟩ : ∃ q, Hid ((!hi.isEmpty) = q) := ⟨_, Lib.hid rfl⟩
  rw [HQ.out] at HF ⊢
  clear HRN hok
  go_enter Tryz.func51, Tryz.ntmps51
  go_wp2_with fail
  refine (HV.out _).mono ?_
  rintro e w2 ⟨u, rfl, hu, hb2⟩
  obtain ⟨U, uc, rfl⟩ := hu.slice
  rw [HO.out]
  have B2 := B0.trans (hb2.mono B0.size)
  have r2 := keepB r0 hb2
  have v3 := heap_alloc_new w2 (.cells #[.int .i64 (readA r 0), .int .i64 (readA r 1), .int .i64 (readA r 2), .slice U (readP r).length uc] 127)
  have r3 := keepA r2 (.cells #[.int .i64 (readA r 0), .int .i64 (readA r 1), .int .i64 (readA r 2), .slice U (readP r).length uc] 127)
  obtain ⟨p0, p1, p2, p3⟩ := cells4 v3
  have BV : Below w.heap.size w ((w2.alloc (.cells #[.int .i64 (readA r 0), .int .i64 (readA r 1), .int .i64 (readA r 2), .slice U (readP r).length uc] 127)).drew) := (B2.alloc B2.size _).trans (below_drewN _ _ 1)
  clear hb2 hu
  go_wp2_with fail
  go_region_held3 (fun W => W.cell? ⟨w2.heap.size, 0, none⟩ = some (.int .i64 (readA r 0)) ∧ W.cell? ⟨w2.heap.size, 1, none⟩ = some (.int .i64 (readA r 1)) ∧ W.cell? ⟨w2.heap.size, 2, none⟩ = some (.int .i64 (readA r 2)) ∧ W.cell? ⟨w2.heap.size, 3, none⟩ = some (.slice U (readP r).length uc)) (first | exact ⟨p0, p1, p2, p3⟩ | exact ⟨(cell_far2 hq _ _).trans p0, (cell_far2 hq _ _).trans p1, (cell_far2 hq _ _).trans p2, (cell_far2 hq _ _).trans p3⟩ | go_keep) ((first
    | (go_at_call 98; (with_reducible refine (HF.out _ _ _ _).mono ?_); rintro e w7 ⟨x, y, rfl, hxy, hb7⟩; have B7 := BV.trans (hb7.mono BV.size); have v7 := keepB (W := (w2.alloc (.cells #[.int .i64 (readA r 0), .int .i64 (readA r 1), .int .i64 (readA r 2), .slice U (readP r).length uc] 127)).drew) v3 hb7; have r7 := keepB (W := (w2.alloc (.cells #[.int .i64 (readA r 0), .int .i64 (readA r 1), .int .i64 (readA r 2), .slice U (readP r).length uc] 127)).drew) r3 hb7; have hq : w2.heap.size ≠ w.heap.size := Nat.ne_of_gt (lt_of_heap r2); obtain ⟨c0, c1, f1⟩ := cellsD r7; obtain ⟨p0, p1, p2, p3⟩ := cells4 v7)))
  all_goals
    go_wp2_with fail
    refine bodyPost_ret (v := .tuple #[.agg #[.string x, .string y], .bool q]) ?_ rfl ⟨_, _, rfl, hxy, ?_⟩
    · simp [results, Tryz.results51, go_sem, c0, c1]
    · exact below_res2 B7 (Nat.le_refl _) _ _

set_option maxRecDepth 100000 in
set_option maxHeartbeats 4000000 in
theorem part_t0 (s : ByteArray) (l : List UInt8) (hs : s = ⟨l.toArray⟩) (w : World) (hl : l.length ≤ 1048000) (h42 : (s.toList == [42]) = false) (h0 : ¬ 0 < s.size) :
    Calls Tryz.prog 51 #[.string s] w (AltIs w (tlOk l) (tlB l)) := by
  have B0 : Below w.heap.size w (w.alloc (.cells #[.string ⟨#[]⟩, .string ⟨#[]⟩] 73)) := (Below.refl _ _).alloc (Nat.le_refl _) _
  have r0 := heap_alloc_new w (.cells #[.string ⟨#[]⟩, .string ⟨#[]⟩] 73)
  have HA := Lib.hid (fun W => l03Alone_any l W (by omega))
  have HS := Lib.hid (fun W => l03Short_any l W hl)
  subst hs
  unfold tlOk tlB
  obtain ⟨hi, HH⟩ : ∃ hi, Hid (exHigh l = hi) := ⟨_, Lib.hid rfl⟩
  simp only [HH.out] at HA ⊢
  obtain ⟨s, HSS⟩ : ∃ s : ByteArray, Hid (⟨l.toArray⟩ = s) := ⟨_, Lib.hid rfl⟩
  simp only [HSS.out] at HA HS h42 h0 ⊢
  generalize exOk l = ok at HA ⊢
  generalize shB l = sb at HS ⊢
  generalize shOk l = so at HS ⊢
  cases ok
  · go_enter Tryz.func51, Tryz.ntmps51
    go_wp2_with fail
    refine (HA.out _).mono ?_
    rintro e w2 ⟨rfl, hb2⟩
    unfold aloneV
    have B2 := B0.trans (hb2.mono B0.size)
    have r2 := keepB r0 hb2
    have B3 := B2.alloc B2.size (.cells #[.string ⟨#[]⟩, .string ⟨#[]⟩] 73)
    have r3 := keepA r2 (.cells #[.string ⟨#[]⟩, .string ⟨#[]⟩] 73)
    clear hb2 B0 r0 B2 r2
    go_wp2_with fail
    refine (HS.out _).mono ?_
    rintro e w4 ⟨x, y, rfl, hxy, hb4⟩
    have B4 := B3.trans (hb4.mono B3.size)
    obtain ⟨c0, c1, f1⟩ := cellsD (keepB r3 hb4)
    go_wp2_with fail
    refine bodyPost_ret (v := .tuple #[.agg #[.string x, .string y], .bool so]) ?_ rfl ⟨_, _, rfl, hxy, ?_⟩
    · simp [results, Tryz.results51, go_sem, c0, c1]
    · exact below_res2 B4 (Nat.le_refl _) _ _
  · go_enter Tryz.func51, Tryz.ntmps51
    go_wp2_with fail
    refine (HA.out _).mono ?_
    rintro e w2 ⟨rfl, hb2⟩
    unfold aloneV
    have B2 := B0.trans (hb2.mono B0.size)
    have r2 := keepB r0 hb2
    obtain ⟨c0, c1, f1⟩ := cellsD r2
    have hlt := lt_of_heap r2
    have B3 := (below_res2 B2 (Nat.le_refl _) (.string s) (.string ⟨hi.toArray⟩)).alloc (by simpa using B2.size) (.cells #[.string s, .string ⟨hi.toArray⟩] 73)
    obtain ⟨y0, y1⟩ := two_cells (keepA (set2_heap r2 (.string s) (.string ⟨hi.toArray⟩)) (.cells #[.string s, .string ⟨hi.toArray⟩] 73))
    simp only [if_true, HSS.out]
    go_wp2_with fail
    refine bodyPost_ret (v := .tuple #[.agg #[.string s, .string ⟨hi.toArray⟩], .bool true]) ?_ rfl ⟨_, _, rfl, fun _ => ⟨HSS.out.symm, rfl⟩, ?_⟩
    · simp [results, Tryz.results51, go_sem, y0, y1]
    · exact B3

set_option maxRecDepth 100000 in
set_option maxHeartbeats 4000000 in
theorem part_t1 (s : ByteArray) (l : List UInt8) (hs : s = ⟨l.toArray⟩) (w : World) (hl : l.length ≤ 1048000) (h42 : (s.toList == [42]) = false) (h1 : ¬ 1 < s.size) (h0 : 0 < s.size) (b62 : (((s[0]'(by omega)).toNat : Int) == 62) = false) (b60 : (((s[0]'(by omega)).toNat : Int) == 60) = false) :
    Calls Tryz.prog 51 #[.string s] w (AltIs w (tlOk l) (tlB l)) := by
  have B0 : Below w.heap.size w (w.alloc (.cells #[.string ⟨#[]⟩, .string ⟨#[]⟩] 73)) := (Below.refl _ _).alloc (Nat.le_refl _) _
  have r0 := heap_alloc_new w (.cells #[.string ⟨#[]⟩, .string ⟨#[]⟩] 73)
  have HA := Lib.hid (fun W => l03Alone_any l W (by omega))
  have HS := Lib.hid (fun W => l03Short_any l W hl)
  subst hs
  unfold tlOk tlB
  obtain ⟨hi, HH⟩ : ∃ hi, Hid (exHigh l = hi) := ⟨_, Lib.hid rfl⟩
  simp only [HH.out] at HA ⊢
  obtain ⟨s, HSS⟩ : ∃ s : ByteArray, Hid (⟨l.toArray⟩ = s) := ⟨_, Lib.hid rfl⟩
  simp only [HSS.out] at HA HS h42 h0 h1 b62 b60 ⊢
  generalize exOk l = ok at HA ⊢
  generalize shB l = sb at HS ⊢
  generalize shOk l = so at HS ⊢
  cases ok
  · go_enter Tryz.func51, Tryz.ntmps51
    go_wp2_with fail
    refine (HA.out _).mono ?_
    rintro e w2 ⟨rfl, hb2⟩
    unfold aloneV
    have B2 := B0.trans (hb2.mono B0.size)
    have r2 := keepB r0 hb2
    have B3 := B2.alloc B2.size (.cells #[.string ⟨#[]⟩, .string ⟨#[]⟩] 73)
    have r3 := keepA r2 (.cells #[.string ⟨#[]⟩, .string ⟨#[]⟩] 73)
    clear hb2 B0 r0 B2 r2
    go_wp2_with fail
    refine (HS.out _).mono ?_
    rintro e w4 ⟨x, y, rfl, hxy, hb4⟩
    have B4 := B3.trans (hb4.mono B3.size)
    obtain ⟨c0, c1, f1⟩ := cellsD (keepB r3 hb4)
    go_wp2_with fail
    refine bodyPost_ret (v := .tuple #[.agg #[.string x, .string y], .bool so]) ?_ rfl ⟨_, _, rfl, hxy, ?_⟩
    · simp [results, Tryz.results51, go_sem, c0, c1]
    · exact below_res2 B4 (Nat.le_refl _) _ _
  · go_enter Tryz.func51, Tryz.ntmps51
    go_wp2_with fail
    refine (HA.out _).mono ?_
    rintro e w2 ⟨rfl, hb2⟩
    unfold aloneV
    have B2 := B0.trans (hb2.mono B0.size)
    have r2 := keepB r0 hb2
    obtain ⟨c0, c1, f1⟩ := cellsD r2
    have hlt := lt_of_heap r2
    have B3 := (below_res2 B2 (Nat.le_refl _) (.string s) (.string ⟨hi.toArray⟩)).alloc (by simpa using B2.size) (.cells #[.string s, .string ⟨hi.toArray⟩] 73)
    obtain ⟨y0, y1⟩ := two_cells (keepA (set2_heap r2 (.string s) (.string ⟨hi.toArray⟩)) (.cells #[.string s, .string ⟨hi.toArray⟩] 73))
    simp only [if_true, HSS.out]
    go_wp2_with fail
    refine bodyPost_ret (v := .tuple #[.agg #[.string s, .string ⟨hi.toArray⟩], .bool true]) ?_ rfl ⟨_, _, rfl, fun _ => ⟨HSS.out.symm, rfl⟩, ?_⟩
    · simp [results, Tryz.results51, go_sem, y0, y1]
    · exact B3

set_option maxRecDepth 100000 in
set_option maxHeartbeats 4000000 in
theorem part_t2 (s : ByteArray) (l : List UInt8) (hs : s = ⟨l.toArray⟩) (w : World) (hl : l.length ≤ 1048000) (h42 : (s.toList == [42]) = false) (h1 : 1 < s.size) (b94 : (((s[0]'(by omega)).toNat : Int) == 94) = false) (b126 : (((s[0]'(by omega)).toNat : Int) == 126) = false) (b62 : (((s[0]'(by omega)).toNat : Int) == 62) = false) (b60 : (((s[0]'(by omega)).toNat : Int) == 60) = false) :
    Calls Tryz.prog 51 #[.string s] w (AltIs w (tlOk l) (tlB l)) := by
  have B0 : Below w.heap.size w (w.alloc (.cells #[.string ⟨#[]⟩, .string ⟨#[]⟩] 73)) := (Below.refl _ _).alloc (Nat.le_refl _) _
  have r0 := heap_alloc_new w (.cells #[.string ⟨#[]⟩, .string ⟨#[]⟩] 73)
  have HA := Lib.hid (fun W => l03Alone_any l W (by omega))
  have HS := Lib.hid (fun W => l03Short_any l W hl)
  subst hs
  unfold tlOk tlB
  obtain ⟨hi, HH⟩ : ∃ hi, Hid (exHigh l = hi) := ⟨_, Lib.hid rfl⟩
  simp only [HH.out] at HA ⊢
  obtain ⟨s, HSS⟩ : ∃ s : ByteArray, Hid (⟨l.toArray⟩ = s) := ⟨_, Lib.hid rfl⟩
  simp only [HSS.out] at HA HS h42 h1 b94 b126 b62 b60 ⊢
  generalize exOk l = ok at HA ⊢
  generalize shB l = sb at HS ⊢
  generalize shOk l = so at HS ⊢
  cases ok
  · go_enter Tryz.func51, Tryz.ntmps51
    go_wp2_with fail
    refine (HA.out _).mono ?_
    rintro e w2 ⟨rfl, hb2⟩
    unfold aloneV
    have B2 := B0.trans (hb2.mono B0.size)
    have r2 := keepB r0 hb2
    have B3 := B2.alloc B2.size (.cells #[.string ⟨#[]⟩, .string ⟨#[]⟩] 73)
    have r3 := keepA r2 (.cells #[.string ⟨#[]⟩, .string ⟨#[]⟩] 73)
    clear hb2 B0 r0 B2 r2
    go_wp2_with fail
    refine (HS.out _).mono ?_
    rintro e w4 ⟨x, y, rfl, hxy, hb4⟩
    have B4 := B3.trans (hb4.mono B3.size)
    obtain ⟨c0, c1, f1⟩ := cellsD (keepB r3 hb4)
    go_wp2_with fail
    refine bodyPost_ret (v := .tuple #[.agg #[.string x, .string y], .bool so]) ?_ rfl ⟨_, _, rfl, hxy, ?_⟩
    · simp [results, Tryz.results51, go_sem, c0, c1]
    · exact below_res2 B4 (Nat.le_refl _) _ _
  · go_enter Tryz.func51, Tryz.ntmps51
    go_wp2_with fail
    refine (HA.out _).mono ?_
    rintro e w2 ⟨rfl, hb2⟩
    unfold aloneV
    have B2 := B0.trans (hb2.mono B0.size)
    have r2 := keepB r0 hb2
    obtain ⟨c0, c1, f1⟩ := cellsD r2
    have hlt := lt_of_heap r2
    have B3 := (below_res2 B2 (Nat.le_refl _) (.string s) (.string ⟨hi.toArray⟩)).alloc (by simpa using B2.size) (.cells #[.string s, .string ⟨hi.toArray⟩] 73)
    obtain ⟨y0, y1⟩ := two_cells (keepA (set2_heap r2 (.string s) (.string ⟨hi.toArray⟩)) (.cells #[.string s, .string ⟨hi.toArray⟩] 73))
    simp only [if_true, HSS.out]
    go_wp2_with fail
    refine bodyPost_ret (v := .tuple #[.agg #[.string s, .string ⟨hi.toArray⟩], .bool true]) ?_ rfl ⟨_, _, rfl, fun _ => ⟨HSS.out.symm, rfl⟩, ?_⟩
    · simp [results, Tryz.results51, go_sem, y0, y1]
    · exact B3

set_option maxRecDepth 100000 in
set_option maxHeartbeats 4000000 in
theorem part_s1 (s : ByteArray) (l : List UInt8) (hs : s = ⟨l.toArray⟩) (w : World) (hl : l.length ≤ 1048000) (h42 : (s.toList == [42]) = false) (h1 : ¬ 1 < s.size) (h0 : 0 < s.size) (b62 : (((s[0]'(by omega)).toNat : Int) == 62) = true) :
    Calls Tryz.prog 51 #[.string s] w (AltIs w (lmOk l) (lmB l)) := by
  have B0 : Below w.heap.size w (w.alloc (.cells #[.string ⟨#[]⟩, .string ⟨#[]⟩] 73)) := (Below.refl _ _).alloc (Nat.le_refl _) _
  have r0 := heap_alloc_new w (.cells #[.string ⟨#[]⟩, .string ⟨#[]⟩] 73)
  have HG := Lib.hid (fun W => l03Signs_any l W hl)
  subst hs
  obtain ⟨s, HSS⟩ : ∃ s : ByteArray, Hid (⟨l.toArray⟩ = s) := ⟨_, Lib.hid rfl⟩
  simp only [HSS.out] at HG h42 h0 h1 b62 ⊢
  generalize lmOk l = q at HG ⊢
  go_enter Tryz.func51, Tryz.ntmps51
  go_wp2_with fail
  refine (HG.out _).mono ?_
  rintro e w4 ⟨x, y, rfl, hxy, hb4⟩
  have B4 := B0.trans (hb4.mono B0.size)
  obtain ⟨c0, c1, f1⟩ := cellsD (keepB r0 hb4)
  go_wp2_with fail
  refine bodyPost_ret (v := .tuple #[.agg #[.string x, .string y], .bool q]) ?_ rfl ⟨_, _, rfl, hxy, ?_⟩
  · simp [results, Tryz.results51, go_sem, c0, c1]
  · exact below_res2 B4 (Nat.le_refl _) _ _

set_option maxRecDepth 100000 in
set_option maxHeartbeats 4000000 in
theorem part_s2 (s : ByteArray) (l : List UInt8) (hs : s = ⟨l.toArray⟩) (w : World) (hl : l.length ≤ 1048000) (h42 : (s.toList == [42]) = false) (h1 : 1 < s.size) (b94 : (((s[0]'(by omega)).toNat : Int) == 94) = false) (b126 : (((s[0]'(by omega)).toNat : Int) == 126) = false) (b62 : (((s[0]'(by omega)).toNat : Int) == 62) = true) :
    Calls Tryz.prog 51 #[.string s] w (AltIs w (lmOk l) (lmB l)) := by
  have B0 : Below w.heap.size w (w.alloc (.cells #[.string ⟨#[]⟩, .string ⟨#[]⟩] 73)) := (Below.refl _ _).alloc (Nat.le_refl _) _
  have r0 := heap_alloc_new w (.cells #[.string ⟨#[]⟩, .string ⟨#[]⟩] 73)
  have HG := Lib.hid (fun W => l03Signs_any l W hl)
  subst hs
  obtain ⟨s, HSS⟩ : ∃ s : ByteArray, Hid (⟨l.toArray⟩ = s) := ⟨_, Lib.hid rfl⟩
  simp only [HSS.out] at HG h42 h1 b94 b126 b62 ⊢
  generalize lmOk l = q at HG ⊢
  go_enter Tryz.func51, Tryz.ntmps51
  go_wp2_with fail
  refine (HG.out _).mono ?_
  rintro e w4 ⟨x, y, rfl, hxy, hb4⟩
  have B4 := B0.trans (hb4.mono B0.size)
  obtain ⟨c0, c1, f1⟩ := cellsD (keepB r0 hb4)
  go_wp2_with fail
  refine bodyPost_ret (v := .tuple #[.agg #[.string x, .string y], .bool q]) ?_ rfl ⟨_, _, rfl, hxy, ?_⟩
  · simp [results, Tryz.results51, go_sem, c0, c1]
  · exact below_res2 B4 (Nat.le_refl _) _ _

set_option maxRecDepth 100000 in
set_option maxHeartbeats 4000000 in
theorem part_s3 (s : ByteArray) (l : List UInt8) (hs : s = ⟨l.toArray⟩) (w : World) (hl : l.length ≤ 1048000) (h42 : (s.toList == [42]) = false) (h1 : ¬ 1 < s.size) (h0 : 0 < s.size) (b62 : (((s[0]'(by omega)).toNat : Int) == 62) = false) (b60 : (((s[0]'(by omega)).toNat : Int) == 60) = true) :
    Calls Tryz.prog 51 #[.string s] w (AltIs w (lmOk l) (lmB l)) := by
  have B0 : Below w.heap.size w (w.alloc (.cells #[.string ⟨#[]⟩, .string ⟨#[]⟩] 73)) := (Below.refl _ _).alloc (Nat.le_refl _) _
  have r0 := heap_alloc_new w (.cells #[.string ⟨#[]⟩, .string ⟨#[]⟩] 73)
  have HG := Lib.hid (fun W => l03Signs_any l W hl)
  subst hs
  obtain ⟨s, HSS⟩ : ∃ s : ByteArray, Hid (⟨l.toArray⟩ = s) := ⟨_, Lib.hid rfl⟩
  simp only [HSS.out] at HG h42 h0 h1 b62 b60 ⊢
  generalize lmOk l = q at HG ⊢
  go_enter Tryz.func51, Tryz.ntmps51
  go_wp2_with fail
  refine (HG.out _).mono ?_
  rintro e w4 ⟨x, y, rfl, hxy, hb4⟩
  have B4 := B0.trans (hb4.mono B0.size)
  obtain ⟨c0, c1, f1⟩ := cellsD (keepB r0 hb4)
  go_wp2_with fail
  refine bodyPost_ret (v := .tuple #[.agg #[.string x, .string y], .bool q]) ?_ rfl ⟨_, _, rfl, hxy, ?_⟩
  · simp [results, Tryz.results51, go_sem, c0, c1]
  · exact below_res2 B4 (Nat.le_refl _) _ _

set_option maxRecDepth 100000 in
set_option maxHeartbeats 4000000 in
theorem part_s4 (s : ByteArray) (l : List UInt8) (hs : s = ⟨l.toArray⟩) (w : World) (hl : l.length ≤ 1048000) (h42 : (s.toList == [42]) = false) (h1 : 1 < s.size) (b94 : (((s[0]'(by omega)).toNat : Int) == 94) = false) (b126 : (((s[0]'(by omega)).toNat : Int) == 126) = false) (b62 : (((s[0]'(by omega)).toNat : Int) == 62) = false) (b60 : (((s[0]'(by omega)).toNat : Int) == 60) = true) :
    Calls Tryz.prog 51 #[.string s] w (AltIs w (lmOk l) (lmB l)) := by
  have B0 : Below w.heap.size w (w.alloc (.cells #[.string ⟨#[]⟩, .string ⟨#[]⟩] 73)) := (Below.refl _ _).alloc (Nat.le_refl _) _
  have r0 := heap_alloc_new w (.cells #[.string ⟨#[]⟩, .string ⟨#[]⟩] 73)
  have HG := Lib.hid (fun W => l03Signs_any l W hl)
  subst hs
  obtain ⟨s, HSS⟩ : ∃ s : ByteArray, Hid (⟨l.toArray⟩ = s) := ⟨_, Lib.hid rfl⟩
  simp only [HSS.out] at HG h42 h1 b94 b126 b62 b60 ⊢
  generalize lmOk l = q at HG ⊢
  go_enter Tryz.func51, Tryz.ntmps51
  go_wp2_with fail
  refine (HG.out _).mono ?_
  rintro e w4 ⟨x, y, rfl, hxy, hb4⟩
  have B4 := B0.trans (hb4.mono B0.size)
  obtain ⟨c0, c1, f1⟩ := cellsD (keepB r0 hb4)
  go_wp2_with fail
  refine bodyPost_ret (v := .tuple #[.agg #[.string x, .string y], .bool q]) ?_ rfl ⟨_, _, rfl, hxy, ?_⟩
  · simp [results, Tryz.results51, go_sem, c0, c1]
  · exact below_res2 B4 (Nat.le_refl _) _ _

theorem byte_is {c : UInt8} {k : Int} (h : (c.toNat : Int) = k) : (((c.toNat : Int)) == k) = true := by simpa using h
theorem part_one {l : List UInt8} {w w' : World} {e : Ending} (ha : altOk l = false) (h : tlOk l = false) (hh : AltIs w (tlOk l) (tlB l) e w') : AltIs w (altOk l) (altB l) e w' := by
  rw [ha]; rw [h] at hh; exact hh.no
set_option maxRecDepth 100000 in
theorem lone_94 : altOk [94] = false ∧ tlOk [94] = false := by
  have h1 : readOk [] = false := readOk_nil
  have h2 : tlOk [94] = false := by
    rw [(tl_eq [94]).1, if_pos (by decide)]
    exact fromOk_bad (by decide +kernel)
  exact ⟨by rw [(alt_caret []).1]; exact fromOk_bad h1, h2⟩
set_option maxRecDepth 100000 in
theorem lone_126 : altOk [126] = false ∧ tlOk [126] = false := by
  have h1 : readOk [] = false := readOk_nil
  have h2 : tlOk [126] = false := by
    rw [(tl_eq [126]).1, if_pos (by decide)]
    exact fromOk_bad (by decide +kernel)
  exact ⟨by rw [(alt_tilde []).1]; exact fromOk_bad h1, h2⟩
theorem AltIs.plain {l : List UInt8} {w w' : World} {e : Ending} (h : plainA l) (hh : AltIs w (tlOk l) (tlB l) e w') : AltIs w (altOk l) (altB l) e w' := by
  obtain ⟨e1, e2⟩ := alt_plain h
  obtain ⟨x, y, he, hxy, hb⟩ := hh
  exact ⟨x, y, by rw [e1]; exact he, fun hk => by rw [e2 hk]; exact hxy (by rw [← e1]; exact hk), hb⟩
theorem AltIs.as {w w' : World} {ok ok' : Bool} {b b' : Bd} {e : Ending} (h1 : ok' = ok) (h2 : b' = b) (h : AltIs w ok b e w') : AltIs w ok' b' e w' := by subst h1 h2; exact h
set_option maxRecDepth 100000 in
theorem l03Part_any (l : List UInt8) (w : World) (hl : l.length ≤ 1048000) : Calls Tryz.prog 51 #[.string ⟨l.toArray⟩] w (AltIs w (altOk l) (altB l)) := by
  by_cases h42 : l = [42]
  · subst h42
    exact (part_star ⟨#[42]⟩ w (by rw [ByteArray.toList_eq]; rfl)).mono fun e w' h => h.as (by unfold altOk; rw [if_pos rfl]) (by unfold altB; rw [if_pos rfl])
  obtain ⟨s, hs⟩ : ∃ s : ByteArray, s = ⟨l.toArray⟩ := ⟨_, rfl⟩
  have e42 := one42 hs h42
  have hz : s.size = l.length := by rw [hs]; exact size_of l
  rw [← hs]
  match l, h42, hs, hz, hl with
  | [], _, hs, hz, hl => exact (part_t0 s [] hs w hl e42 (by rw [hz]; simp)).mono fun e w' h => h.plain ⟨by simp, by simp, by simp, by simp, by simp⟩
  | c :: r, h42, hs, hz, hl =>
    have h0 : 0 < s.size := by rw [hz]; simp
    have hc : s[0]'h0 = c := by subst hs; rfl
    have tst : ∀ d : UInt8, c ≠ d → (((s[0]'h0).toNat : Int) == (d.toNat : Int)) = false := fun d hd => by rw [hc]; exact byte_no hd
    have tst2 : ∀ d : UInt8, c = d → (((s[0]'h0).toNat : Int) == (d.toNat : Int)) = true := fun d hd => by rw [hc, hd]; simp
    by_cases h94 : c = 94
    · subst h94
      cases r with
      | nil => exact (part_t1 s [94] hs w hl e42 (by rw [hz]; simp) h0 (tst 62 (by decide)) (tst 60 (by decide))).mono fun e w' h => part_one lone_94.1 lone_94.2 h
      | cons d t =>
        have h1 : 1 < s.size := by rw [hz]; simp
        have sl : ∀ w, (Instr.slice 9 (.string s) (some (.int .i64 1)) none none).run Tryz.prog w = .ok (.string ⟨(d :: t).toArray⟩) w := fun w => by subst hs; exact slice_from _ _ 1 1 rfl (by omega) (piece_end _ 1) w
        cases hok : readOk (d :: t) with
        | false => exact (part_caret_no s (d :: t) w (by simp at hl ⊢; omega) e42 h1 (tst2 94 rfl) sl hok).mono fun e w' h => (h.no (b' := altB (94 :: d :: t))).as (by rw [(alt_caret _).1, fromOk_bad hok]) rfl
        | true => exact (part_caret_yes s (d :: t) w (by simp at hl ⊢; omega) e42 h1 (tst2 94 rfl) (tst 126 (by decide)) sl hok).mono fun e w' h => h.as (alt_caret _).1 (alt_caret _).2
    by_cases h126 : c = 126
    · subst h126
      cases r with
      | nil => exact (part_t1 s [126] hs w hl e42 (by rw [hz]; simp) h0 (tst 62 (by decide)) (tst 60 (by decide))).mono fun e w' h => part_one lone_126.1 lone_126.2 h
      | cons d t =>
        have h1 : 1 < s.size := by rw [hz]; simp
        have sl : ∀ w, (Instr.slice 9 (.string s) (some (.int .i64 1)) none none).run Tryz.prog w = .ok (.string ⟨(d :: t).toArray⟩) w := fun w => by subst hs; exact slice_from _ _ 1 1 rfl (by omega) (piece_end _ 1) w
        cases hok : readOk (d :: t) with
        | false => exact (part_tilde_no s (d :: t) w (by simp at hl ⊢; omega) e42 h1 (tst 94 (by decide)) (tst2 126 rfl) sl hok).mono fun e w' h => (h.no (b' := altB (126 :: d :: t))).as (by rw [(alt_tilde _).1, fromOk_bad hok]) rfl
        | true => exact (part_tilde_yes s (d :: t) w (by simp at hl ⊢; omega) e42 h1 (tst 94 (by decide)) (tst2 126 rfl) sl hok).mono fun e w' h => h.as (alt_tilde _).1 (alt_tilde _).2
    by_cases h62 : c = 62
    · subst h62
      by_cases h1 : 1 < s.size
      · exact (part_s2 s _ hs w hl e42 h1 (tst 94 (by decide)) (tst 126 (by decide)) (tst2 62 rfl)).mono fun e w' h => h.as (alt_signs (.inl rfl)).1 (alt_signs (.inl rfl)).2
      · exact (part_s1 s _ hs w hl e42 h1 h0 (tst2 62 rfl)).mono fun e w' h => h.as (alt_signs (.inl rfl)).1 (alt_signs (.inl rfl)).2
    by_cases h60 : c = 60
    · subst h60
      by_cases h1 : 1 < s.size
      · exact (part_s4 s _ hs w hl e42 h1 (tst 94 (by decide)) (tst 126 (by decide)) (tst 62 (by decide)) (tst2 60 rfl)).mono fun e w' h => h.as (alt_signs (.inr rfl)).1 (alt_signs (.inr rfl)).2
      · exact (part_s3 s _ hs w hl e42 h1 h0 (tst 62 (by decide)) (tst2 60 rfl)).mono fun e w' h => h.as (alt_signs (.inr rfl)).1 (alt_signs (.inr rfl)).2
    have hp : plainA (c :: r) := ⟨h42, by simpa using h94, by simpa using h126, by simpa using h62, by simpa using h60⟩
    by_cases h1 : 1 < s.size
    · exact (part_t2 s _ hs w hl e42 h1 (tst 94 h94) (tst 126 h126) (tst 62 h62) (tst 60 h60)).mono fun e w' h => h.plain hp
    · exact (part_t1 s _ hs w hl e42 h1 h0 (tst 62 h62) (tst 60 h60)).mono fun e w' h => h.plain hp
end Go.Proofs.YtongpnknmgbhjaaGreatDoor

/-
  impl.readAlternative: one alternative of a range.
-/
namespace Go.Proofs.YtongpnknmgbhjaaGreatDoor
open Go.RowKit

set_option maxRecDepth 100000 in
set_option maxHeartbeats 4000000 in
theorem alt_star (s : ByteArray) (w : World) (hs : (s.toList == [42]) = true) :
    Calls Tryz.prog 53 #[.string s] w (AltIs w true ([], [])) := by
  have B0 : Below w.heap.size w (w.alloc (.cells #[.string ⟨#[]⟩, .string ⟨#[]⟩] 73)) := (Below.refl _ _).alloc (Nat.le_refl _) _
  go_enter Tryz.func53, Tryz.ntmps53
  go_wp2_with fail
  refine bodyPost_ret (v := .tuple #[.agg #[.string ⟨#[]⟩, .string ⟨#[]⟩], .bool true]) ?_ rfl ⟨_, _, rfl, fun _ => ⟨rfl, rfl⟩, B0⟩
  simp [results, Tryz.results53, go_sem]

set_option maxRecDepth 100000 in
set_option maxHeartbeats 4000000 in
theorem alt_caret' (s : ByteArray) (r : List UInt8) (w : World) (hl : r.length ≤ 1048000) (ht : Tab w) (h42 : (s.toList == [42]) = false) (p94 : ([94] : List UInt8).isPrefixOf s.data.toList = true) (sl : ∀ w, (Instr.slice 9 (.string s) (some (.int .i64 1)) none none).run Tryz.prog w = .ok (.string ⟨r.toArray⟩) w) :
    Calls Tryz.prog 53 #[.string s] w (AltIs w (fromOk r (crt r)) (fromB r (crt r))) := by
  have B0 : Below w.heap.size w (w.alloc (.cells #[.string ⟨#[]⟩, .string ⟨#[]⟩] 73)) := (Below.refl _ _).alloc (Nat.le_refl _) _
  have r0 := heap_alloc_new w (.cells #[.string ⟨#[]⟩, .string ⟨#[]⟩] 73)
  have H94 : Hid (∀ W, Calls Tryz.prog 104 #[.string s, .string ⟨#[94]⟩] W fun e w' => e = .returned (.bool true) ∧ w' = W) := Lib.hid (fun W => (hasPrefix_any s ⟨#[94]⟩ W).mono fun e w' h => ⟨by rw [h.1]; exact congrArg (fun b => Ending.returned (.bool b)) p94, h.2⟩)
  have HF := Lib.hid (fun (W : World) (h : Below w.heap.size w W) => rfCaret_any r W (by omega) (tab_below ht h))
  generalize fromOk r (crt r) = q at HF ⊢
  generalize fromB r (crt r) = fb at HF ⊢
  clear ht hl p94
  go_enter Tryz.func53, Tryz.ntmps53
  go_wp2_with fail
  refine (H94.out _).mono ?_
  rintro e w' ⟨rfl, hw⟩
  subst hw
  go_wp2_with fail
  refine (HF.out _ B0).mono ?_
  rintro e w4 ⟨x, y, rfl, hxy, hb4⟩
  have B4 := B0.trans (hb4.mono B0.size)
  obtain ⟨c0, c1⟩ := two_cells (keepB r0 hb4)
  have f0 := frozen2 (keepB r0 hb4) 0
  have f1 := frozen2 (keepB r0 hb4) 1
  go_wp2_with fail
  refine bodyPost_ret (v := .tuple #[.agg #[.string x, .string y], .bool q]) ?_ rfl ⟨_, _, rfl, hxy, ?_⟩
  · simp [results, Tryz.results53, go_sem, c0, c1]
  · exact below_res2 B4 (Nat.le_refl _) _ _

set_option maxRecDepth 100000 in
set_option maxHeartbeats 4000000 in
theorem alt_tilde' (s : ByteArray) (r : List UInt8) (w : World) (hl : r.length ≤ 1048000) (ht : Tab w) (h42 : (s.toList == [42]) = false) (p94 : ([94] : List UInt8).isPrefixOf s.data.toList = false) (p126 : ([126] : List UInt8).isPrefixOf s.data.toList = true) (sl : ∀ w, (Instr.slice 9 (.string s) (some (.int .i64 1)) none none).run Tryz.prog w = .ok (.string ⟨r.toArray⟩) w) :
    Calls Tryz.prog 53 #[.string s] w (AltIs w (fromOk r 1) (fromB r 1)) := by
  have B0 : Below w.heap.size w (w.alloc (.cells #[.string ⟨#[]⟩, .string ⟨#[]⟩] 73)) := (Below.refl _ _).alloc (Nat.le_refl _) _
  have r0 := heap_alloc_new w (.cells #[.string ⟨#[]⟩, .string ⟨#[]⟩] 73)
  have H94 : Hid (∀ W, Calls Tryz.prog 104 #[.string s, .string ⟨#[94]⟩] W fun e w' => e = .returned (.bool false) ∧ w' = W) := Lib.hid (fun W => (hasPrefix_any s ⟨#[94]⟩ W).mono fun e w' h => ⟨by rw [h.1]; exact congrArg (fun b => Ending.returned (.bool b)) p94, h.2⟩)
  have H126 : Hid (∀ W, Calls Tryz.prog 104 #[.string s, .string ⟨#[126]⟩] W fun e w' => e = .returned (.bool true) ∧ w' = W) := Lib.hid (fun W => (hasPrefix_any s ⟨#[126]⟩ W).mono fun e w' h => ⟨by rw [h.1]; exact congrArg (fun b => Ending.returned (.bool b)) p126, h.2⟩)
  have HF := Lib.hid (fun (W : World) (h : Below w.heap.size w W) => rfTilde_any r W (by omega) (tab_below ht h))
  generalize fromOk r 1 = q at HF ⊢
  generalize fromB r 1 = fb at HF ⊢
  clear ht hl p94 p126
  go_enter Tryz.func53, Tryz.ntmps53
  go_wp2_with fail
  refine (H94.out _).mono ?_
  rintro e w' ⟨rfl, hw⟩
  subst hw
  go_wp2_with fail
  refine (H126.out _).mono ?_
  rintro e w' ⟨rfl, hw⟩
  subst hw
  go_wp2_with fail
  refine (HF.out _ B0).mono ?_
  rintro e w4 ⟨x, y, rfl, hxy, hb4⟩
  have B4 := B0.trans (hb4.mono B0.size)
  obtain ⟨c0, c1⟩ := two_cells (keepB r0 hb4)
  have f0 := frozen2 (keepB r0 hb4) 0
  have f1 := frozen2 (keepB r0 hb4) 1
  go_wp2_with fail
  refine bodyPost_ret (v := .tuple #[.agg #[.string x, .string y], .bool q]) ?_ rfl ⟨_, _, rfl, hxy, ?_⟩
  · simp [results, Tryz.results53, go_sem, c0, c1]
  · exact below_res2 B4 (Nat.le_refl _) _ _

set_option maxRecDepth 100000 in
set_option maxHeartbeats 4000000 in
theorem alt_ge (s : ByteArray) (l : List UInt8) (hs : s = ⟨l.toArray⟩) (w : World) (hl : l.length ≤ 1048000) (ht : Tab w) (m : Int) (hm : w.cell? ⟨0, 0, none⟩ = some (.int .i64 m)) (h42 : (s.toList == [42]) = false) (p94 : ([94] : List UInt8).isPrefixOf s.data.toList = false) (p126 : ([126] : List UInt8).isPrefixOf s.data.toList = false) (p62 : ([62] : List UInt8).isPrefixOf s.data.toList = true) :
    Calls Tryz.prog 53 #[.string s] w (AltIs w (lmOk l) (lmB l)) := by
  have B0 : Below w.heap.size w (w.alloc (.cells #[.string ⟨#[]⟩, .string ⟨#[]⟩] 73)) := (Below.refl _ _).alloc (Nat.le_refl _) _
  have r0 := heap_alloc_new w (.cells #[.string ⟨#[]⟩, .string ⟨#[]⟩] 73)
  have H94 : Hid (∀ W, Calls Tryz.prog 104 #[.string s, .string ⟨#[94]⟩] W fun e w' => e = .returned (.bool false) ∧ w' = W) := Lib.hid (fun W => (hasPrefix_any s ⟨#[94]⟩ W).mono fun e w' h => ⟨by rw [h.1]; exact congrArg (fun b => Ending.returned (.bool b)) p94, h.2⟩)
  have H126 : Hid (∀ W, Calls Tryz.prog 104 #[.string s, .string ⟨#[126]⟩] W fun e w' => e = .returned (.bool false) ∧ w' = W) := Lib.hid (fun W => (hasPrefix_any s ⟨#[126]⟩ W).mono fun e w' h => ⟨by rw [h.1]; exact congrArg (fun b => Ending.returned (.bool b)) p126, h.2⟩)
  have H62 : Hid (∀ W, Calls Tryz.prog 104 #[.string s, .string ⟨#[62]⟩] W fun e w' => e = .returned (.bool true) ∧ w' = W) := Lib.hid (fun W => (hasPrefix_any s ⟨#[62]⟩ W).mono fun e w' h => ⟨by rw [h.1]; exact congrArg (fun b => Ending.returned (.bool b)) p62, h.2⟩)
  have HF := Lib.hid (fun (W : World) (h : Below w.heap.size w W) => readLimits_any l m W hl (tab_below ht h) (keepC h hm))
  rw [← hs] at HF
  generalize lmOk l = q at HF ⊢
  generalize lmB l = fb at HF ⊢
  clear ht hl hs hm p94 p126 p62
  go_enter Tryz.func53, Tryz.ntmps53
  go_wp2_with fail
  refine (H94.out _).mono ?_
  rintro e w' ⟨rfl, hw⟩
  subst hw
  go_wp2_with fail
  refine (H126.out _).mono ?_
  rintro e w' ⟨rfl, hw⟩
  subst hw
  go_wp2_with fail
  refine (H62.out _).mono ?_
  rintro e w' ⟨rfl, hw⟩
  subst hw
  go_wp2_with fail
  refine (HF.out _ B0).mono ?_
  rintro e w4 ⟨x, y, rfl, hxy, hb4⟩
  have B4 := B0.trans (hb4.mono B0.size)
  obtain ⟨c0, c1⟩ := two_cells (keepB r0 hb4)
  have f0 := frozen2 (keepB r0 hb4) 0
  have f1 := frozen2 (keepB r0 hb4) 1
  go_wp2_with fail
  refine bodyPost_ret (v := .tuple #[.agg #[.string x, .string y], .bool q]) ?_ rfl ⟨_, _, rfl, hxy, ?_⟩
  · simp [results, Tryz.results53, go_sem, c0, c1]
  · exact below_res2 B4 (Nat.le_refl _) _ _

set_option maxRecDepth 100000 in
set_option maxHeartbeats 4000000 in
theorem alt_lt (s : ByteArray) (l : List UInt8) (hs : s = ⟨l.toArray⟩) (w : World) (hl : l.length ≤ 1048000) (ht : Tab w) (m : Int) (hm : w.cell? ⟨0, 0, none⟩ = some (.int .i64 m)) (h42 : (s.toList == [42]) = false) (p94 : ([94] : List UInt8).isPrefixOf s.data.toList = false) (p126 : ([126] : List UInt8).isPrefixOf s.data.toList = false) (p62 : ([62] : List UInt8).isPrefixOf s.data.toList = false) (p60 : ([60] : List UInt8).isPrefixOf s.data.toList = true) :
    Calls Tryz.prog 53 #[.string s] w (AltIs w (lmOk l) (lmB l)) := by
  have B0 : Below w.heap.size w (w.alloc (.cells #[.string ⟨#[]⟩, .string ⟨#[]⟩] 73)) := (Below.refl _ _).alloc (Nat.le_refl _) _
  have r0 := heap_alloc_new w (.cells #[.string ⟨#[]⟩, .string ⟨#[]⟩] 73)
  have H94 : Hid (∀ W, Calls Tryz.prog 104 #[.string s, .string ⟨#[94]⟩] W fun e w' => e = .returned (.bool false) ∧ w' = W) := Lib.hid (fun W => (hasPrefix_any s ⟨#[94]⟩ W).mono fun e w' h => ⟨by rw [h.1]; exact congrArg (fun b => Ending.returned (.bool b)) p94, h.2⟩)
  have H126 : Hid (∀ W, Calls Tryz.prog 104 #[.string s, .string ⟨#[126]⟩] W fun e w' => e = .returned (.bool false) ∧ w' = W) := Lib.hid (fun W => (hasPrefix_any s ⟨#[126]⟩ W).mono fun e w' h => ⟨by rw [h.1]; exact congrArg (fun b => Ending.returned (.bool b)) p126, h.2⟩)
  have H62 : Hid (∀ W, Calls Tryz.prog 104 #[.string s, .string ⟨#[62]⟩] W fun e w' => e = .returned (.bool false) ∧ w' = W) := Lib.hid (fun W => (hasPrefix_any s ⟨#[62]⟩ W).mono fun e w' h => ⟨by rw [h.1]; exact congrArg (fun b => Ending.returned (.bool b)) p62, h.2⟩)
  have H60 : Hid (∀ W, Calls Tryz.prog 104 #[.string s, .string ⟨#[60]⟩] W fun e w' => e = .returned (.bool true) ∧ w' = W) := Lib.hid (fun W => (hasPrefix_any s ⟨#[60]⟩ W).mono fun e w' h => ⟨by rw [h.1]; exact congrArg (fun b => Ending.returned (.bool b)) p60, h.2⟩)
  have HF := Lib.hid (fun (W : World) (h : Below w.heap.size w W) => readLimits_any l m W hl (tab_below ht h) (keepC h hm))
  rw [← hs] at HF
  generalize lmOk l = q at HF ⊢
  generalize lmB l = fb at HF ⊢
  clear ht hl hs hm p94 p126 p62 p60
  go_enter Tryz.func53, Tryz.ntmps53
  go_wp2_with fail
  refine (H94.out _).mono ?_
  rintro e w' ⟨rfl, hw⟩
  subst hw
  go_wp2_with fail
  refine (H126.out _).mono ?_
  rintro e w' ⟨rfl, hw⟩
  subst hw
  go_wp2_with fail
  refine (H62.out _).mono ?_
  rintro e w' ⟨rfl, hw⟩
  subst hw
  go_wp2_with fail
  refine (H60.out _).mono ?_
  rintro e w' ⟨rfl, hw⟩
  subst hw
  go_wp2_with fail
  refine (HF.out _ B0).mono ?_
  rintro e w4 ⟨x, y, rfl, hxy, hb4⟩
  have B4 := B0.trans (hb4.mono B0.size)
  obtain ⟨c0, c1⟩ := two_cells (keepB r0 hb4)
  have f0 := frozen2 (keepB r0 hb4) 0
  have f1 := frozen2 (keepB r0 hb4) 1
  go_wp2_with fail
  refine bodyPost_ret (v := .tuple #[.agg #[.string x, .string y], .bool q]) ?_ rfl ⟨_, _, rfl, hxy, ?_⟩
  · simp [results, Tryz.results53, go_sem, c0, c1]
  · exact below_res2 B4 (Nat.le_refl _) _ _

set_option maxRecDepth 100000 in
set_option maxHeartbeats 4000000 in
theorem alt_few (s : ByteArray) (l : List UInt8) (hs : s = ⟨l.toArray⟩) (w : World) (hl : l.length ≤ 1048000) (ht : Tab w) (hc : l.count 46 < 2) (h42 : (s.toList == [42]) = false) (p94 : ([94] : List UInt8).isPrefixOf s.data.toList = false) (p126 : ([126] : List UInt8).isPrefixOf s.data.toList = false) (p62 : ([62] : List UInt8).isPrefixOf s.data.toList = false) (p60 : ([60] : List UInt8).isPrefixOf s.data.toList = false) :
    Calls Tryz.prog 53 #[.string s] w (AltIs w (fromOk (l ++ zrs (l.count 46)) (l.count 46)) (fromB (l ++ zrs (l.count 46)) (l.count 46))) := by
  have B0 : Below w.heap.size w (w.alloc (.cells #[.string ⟨#[]⟩, .string ⟨#[]⟩] 73)) := (Below.refl _ _).alloc (Nat.le_refl _) _
  have r0 := heap_alloc_new w (.cells #[.string ⟨#[]⟩, .string ⟨#[]⟩] 73)
  have H94 : Hid (∀ W, Calls Tryz.prog 104 #[.string s, .string ⟨#[94]⟩] W fun e w' => e = .returned (.bool false) ∧ w' = W) := Lib.hid (fun W => (hasPrefix_any s ⟨#[94]⟩ W).mono fun e w' h => ⟨by rw [h.1]; exact congrArg (fun b => Ending.returned (.bool b)) p94, h.2⟩)
  have H126 : Hid (∀ W, Calls Tryz.prog 104 #[.string s, .string ⟨#[126]⟩] W fun e w' => e = .returned (.bool false) ∧ w' = W) := Lib.hid (fun W => (hasPrefix_any s ⟨#[126]⟩ W).mono fun e w' h => ⟨by rw [h.1]; exact congrArg (fun b => Ending.returned (.bool b)) p126, h.2⟩)
  have H62 : Hid (∀ W, Calls Tryz.prog 104 #[.string s, .string ⟨#[62]⟩] W fun e w' => e = .returned (.bool false) ∧ w' = W) := Lib.hid (fun W => (hasPrefix_any s ⟨#[62]⟩ W).mono fun e w' h => ⟨by rw [h.1]; exact congrArg (fun b => Ending.returned (.bool b)) p62, h.2⟩)
  have H60 : Hid (∀ W, Calls Tryz.prog 104 #[.string s, .string ⟨#[60]⟩] W fun e w' => e = .returned (.bool false) ∧ w' = W) := Lib.hid (fun W => (hasPrefix_any s ⟨#[60]⟩ W).mono fun e w' h => ⟨by rw [h.1]; exact congrArg (fun b => Ending.returned (.bool b)) p60, h.2⟩)
  have HC := Lib.hid (fun W => count_any s 46 W)
  have hcn : s.data.toList.count 46 = l.count 46 := by rw [hs]
  rw [hcn] at HC
  have hcl : l.count 46 ≤ l.length := List.count_le_length
  have HF := Lib.hid (fun (W : World) (h : Below w.heap.size w W) => readPartial_any l W hl (tab_below ht h) hc)
  rw [← hs] at HF
  generalize fromOk (l ++ zrs (l.count 46)) (l.count 46) = q at HF ⊢
  generalize fromB (l ++ zrs (l.count 46)) (l.count 46) = fb at HF ⊢
  generalize l.count 46 = cn at HC hc hcl
  clear ht hl hs hcn p94 p126 p62 p60
  go_enter Tryz.func53, Tryz.ntmps53
  go_wp2_with fail
  refine (H94.out _).mono ?_
  rintro e w' ⟨rfl, hw⟩
  subst hw
  go_wp2_with fail
  refine (H126.out _).mono ?_
  rintro e w' ⟨rfl, hw⟩
  subst hw
  go_wp2_with fail
  refine (H62.out _).mono ?_
  rintro e w' ⟨rfl, hw⟩
  subst hw
  go_wp2_with fail
  refine (H60.out _).mono ?_
  rintro e w' ⟨rfl, hw⟩
  subst hw
  go_wp2_with fail
  refine (HC.out _).mono ?_
  rintro e w' ⟨rfl, hw⟩
  subst hw
  go_wp2_with fail
  refine (HF.out _ B0).mono ?_
  rintro e w4 ⟨x, y, rfl, hxy, hb4⟩
  have B4 := B0.trans (hb4.mono B0.size)
  obtain ⟨c0, c1⟩ := two_cells (keepB r0 hb4)
  have f0 := frozen2 (keepB r0 hb4) 0
  have f1 := frozen2 (keepB r0 hb4) 1
  go_wp2_with fail
  refine bodyPost_ret (v := .tuple #[.agg #[.string x, .string y], .bool q]) ?_ rfl ⟨_, _, rfl, hxy, ?_⟩
  · simp [results, Tryz.results53, go_sem, c0, c1]
  · exact below_res2 B4 (Nat.le_refl _) _ _

set_option maxRecDepth 100000 in
set_option maxHeartbeats 4000000 in
theorem alt_many (s : ByteArray) (l : List UInt8) (hs : s = ⟨l.toArray⟩) (w : World) (hl : l.length ≤ 1048000) (ht : Tab w) (hc : ¬ l.count 46 < 2) (h42 : (s.toList == [42]) = false) (p94 : ([94] : List UInt8).isPrefixOf s.data.toList = false) (p126 : ([126] : List UInt8).isPrefixOf s.data.toList = false) (p62 : ([62] : List UInt8).isPrefixOf s.data.toList = false) (p60 : ([60] : List UInt8).isPrefixOf s.data.toList = false) :
    Calls Tryz.prog 53 #[.string s] w (AltIs w (exOk l) (l, exHigh l)) := by
  have B0 : Below w.heap.size w (w.alloc (.cells #[.string ⟨#[]⟩, .string ⟨#[]⟩] 73)) := (Below.refl _ _).alloc (Nat.le_refl _) _
  have r0 := heap_alloc_new w (.cells #[.string ⟨#[]⟩, .string ⟨#[]⟩] 73)
  have H94 : Hid (∀ W, Calls Tryz.prog 104 #[.string s, .string ⟨#[94]⟩] W fun e w' => e = .returned (.bool false) ∧ w' = W) := Lib.hid (fun W => (hasPrefix_any s ⟨#[94]⟩ W).mono fun e w' h => ⟨by rw [h.1]; exact congrArg (fun b => Ending.returned (.bool b)) p94, h.2⟩)
  have H126 : Hid (∀ W, Calls Tryz.prog 104 #[.string s, .string ⟨#[126]⟩] W fun e w' => e = .returned (.bool false) ∧ w' = W) := Lib.hid (fun W => (hasPrefix_any s ⟨#[126]⟩ W).mono fun e w' h => ⟨by rw [h.1]; exact congrArg (fun b => Ending.returned (.bool b)) p126, h.2⟩)
  have H62 : Hid (∀ W, Calls Tryz.prog 104 #[.string s, .string ⟨#[62]⟩] W fun e w' => e = .returned (.bool false) ∧ w' = W) := Lib.hid (fun W => (hasPrefix_any s ⟨#[62]⟩ W).mono fun e w' h => ⟨by rw [h.1]; exact congrArg (fun b => Ending.returned (.bool b)) p62, h.2⟩)
  have H60 : Hid (∀ W, Calls Tryz.prog 104 #[.string s, .string ⟨#[60]⟩] W fun e w' => e = .returned (.bool false) ∧ w' = W) := Lib.hid (fun W => (hasPrefix_any s ⟨#[60]⟩ W).mono fun e w' h => ⟨by rw [h.1]; exact congrArg (fun b => Ending.returned (.bool b)) p60, h.2⟩)
  have HC := Lib.hid (fun W => count_any s 46 W)
  have hcn : s.data.toList.count 46 = l.count 46 := by rw [hs]
  rw [hcn] at HC
  have hcl : l.count 46 ≤ l.length := List.count_le_length
  have HF := Lib.hid (fun (W : World) (h : Below w.heap.size w W) => rfAbove_any l W (by omega) (tab_below ht h))
  rw [← hs] at HF
  generalize exOk l = q at HF ⊢
  generalize (l, exHigh l) = fb at HF ⊢
  generalize l.count 46 = cn at HC hc hcl
  clear ht hs hcn p94 p126 p62 p60
  go_enter Tryz.func53, Tryz.ntmps53
  go_wp2_with fail
  refine (H94.out _).mono ?_
  rintro e w' ⟨rfl, hw⟩
  subst hw
  go_wp2_with fail
  refine (H126.out _).mono ?_
  rintro e w' ⟨rfl, hw⟩
  subst hw
  go_wp2_with fail
  refine (H62.out _).mono ?_
  rintro e w' ⟨rfl, hw⟩
  subst hw
  go_wp2_with fail
  refine (H60.out _).mono ?_
  rintro e w' ⟨rfl, hw⟩
  subst hw
  go_wp2_with fail
  refine (HC.out _).mono ?_
  rintro e w' ⟨rfl, hw⟩
  subst hw
  go_wp2_with fail
  refine (HF.out _ B0).mono ?_
  rintro e w4 ⟨x, y, rfl, hxy, hb4⟩
  have B4 := B0.trans (hb4.mono B0.size)
  obtain ⟨c0, c1⟩ := two_cells (keepB r0 hb4)
  have f0 := frozen2 (keepB r0 hb4) 0
  have f1 := frozen2 (keepB r0 hb4) 1
  go_wp2_with fail
  refine bodyPost_ret (v := .tuple #[.agg #[.string x, .string y], .bool q]) ?_ rfl ⟨_, _, rfl, hxy, ?_⟩
  · simp [results, Tryz.results53, go_sem, c0, c1]
  · exact below_res2 B4 (Nat.le_refl _) _ _

theorem AltIs.plain2 {l : List UInt8} {w w' : World} {e : Ending} {ok : Bool} {b : Bd} (h : altOk l = ok) (h2 : altB l = b) (hh : AltIs w ok b e w') : AltIs w (altOk l) (altB l) e w' := by subst h h2; exact hh
theorem readAlternative_any (l : List UInt8) (m : Int) (w : World) (hl : l.length ≤ 1048000) (ht : Tab w) (hm : w.cell? ⟨0, 0, none⟩ = some (.int .i64 m)) :
    Calls Tryz.prog 53 #[.string ⟨l.toArray⟩] w (AltIs w (altOk l) (altB l)) := by
  by_cases h42 : l = [42]
  · subst h42
    exact (alt_star ⟨#[42]⟩ w (by rw [ByteArray.toList_eq]; rfl)).mono fun e w' h => h.as (by unfold altOk; rw [if_pos rfl]) (by unfold altB; rw [if_pos rfl])
  obtain ⟨s, hs⟩ : ∃ s : ByteArray, s = ⟨l.toArray⟩ := ⟨_, rfl⟩
  have e42 := one42 hs h42
  have hd : s.data.toList = l := by rw [hs]
  have hz : s.size = l.length := by rw [hs]; exact size_of l
  have pf : ∀ c : UInt8, ([c] : List UInt8).isPrefixOf s.data.toList = decide (l.head? = some c) := fun c => by
    rw [hd]
    cases l with
    | nil => rfl
    | cons x y =>
      by_cases h : c = x
      · subst h; simp [List.isPrefixOf]
      · have h' : ¬ x = c := fun e => h e.symm
        have h1 : (c == x) = false := by simpa using h
        simp [List.isPrefixOf, h1, h']
  rw [← hs]
  have sl : 0 < l.length → ∀ w, (Instr.slice 9 (.string s) (some (.int .i64 1)) none none).run Tryz.prog w = .ok (.string ⟨(l.drop 1).toArray⟩) w := fun h w => by
    have := slice_from s ⟨(l.drop 1).toArray⟩ 1 1 rfl (by omega) (by have := piece_end s 1; rw [hd] at this; exact this) w
    exact this
  by_cases h94 : l.head? = some 94
  · have h0 : 0 < l.length := by cases l with | nil => simp at h94 | cons x y => simp
    refine (alt_caret' s (l.drop 1) w (by simp; omega) ht e42 (by rw [pf]; simpa using h94) (sl h0)).mono fun e w' h => AltIs.plain2 ?_ ?_ h
    · unfold altOk; rw [if_neg h42, if_pos h94]
    · unfold altB; rw [if_neg h42, if_pos h94]
  have q94 : ([94] : List UInt8).isPrefixOf s.data.toList = false := by rw [pf]; simpa using h94
  by_cases h126 : l.head? = some 126
  · have h0 : 0 < l.length := by cases l with | nil => simp at h126 | cons x y => simp
    refine (alt_tilde' s (l.drop 1) w (by simp; omega) ht e42 q94 (by rw [pf]; simpa using h126) (sl h0)).mono fun e w' h => AltIs.plain2 ?_ ?_ h
    · unfold altOk; rw [if_neg h42, if_neg h94, if_pos h126]
    · unfold altB; rw [if_neg h42, if_neg h94, if_pos h126]
  have q126 : ([126] : List UInt8).isPrefixOf s.data.toList = false := by rw [pf]; simpa using h126
  by_cases h62 : l.head? = some 62
  · exact (alt_ge s l hs w hl ht m hm e42 q94 q126 (by rw [pf]; simpa using h62)).mono fun e w' h => h.as (alt_signs (.inl h62)).1 (alt_signs (.inl h62)).2
  have q62 : ([62] : List UInt8).isPrefixOf s.data.toList = false := by rw [pf]; simpa using h62
  by_cases h60 : l.head? = some 60
  · exact (alt_lt s l hs w hl ht m hm e42 q94 q126 q62 (by rw [pf]; simpa using h60)).mono fun e w' h => h.as (alt_signs (.inr h60)).1 (alt_signs (.inr h60)).2
  have q60 : ([60] : List UInt8).isPrefixOf s.data.toList = false := by rw [pf]; simpa using h60
  by_cases hc : l.count 46 < 2
  · refine (alt_few s l hs w hl ht hc e42 q94 q126 q62 q60).mono fun e w' h => AltIs.plain2 ?_ ?_ h
    · unfold altOk; rw [if_neg h42, if_neg h94, if_neg h126, if_neg (by simp [h62, h60]), if_pos hc]
    · unfold altB; rw [if_neg h42, if_neg h94, if_neg h126, if_neg (by simp [h62, h60]), if_pos hc]
  · refine (alt_many s l hs w hl ht hc e42 q94 q126 q62 q60).mono fun e w' h => AltIs.plain2 ?_ ?_ h
    · unfold altOk; rw [if_neg h42, if_neg h94, if_neg h126, if_neg (by simp [h62, h60]), if_neg hc]
    · unfold altB; rw [if_neg h42, if_neg h94, if_neg h126, if_neg (by simp [h62, h60]), if_neg hc]
end Go.Proofs.YtongpnknmgbhjaaGreatDoor

/-
  append of a bound onto a row of the call's own.
-/
namespace Go.Proofs.YtongpnknmgbhjaaGreatDoor
open Go.RowKit

set_option maxRecDepth 100000 in
theorem run_append_bd (w : World) (ty : TypeId) (base : Nat) (v : Value) (l : List Bd) (hown : Bnds w base v l) (x : Bd) (B c : Nat) (t : TypeId) (fr : Nat × Nat)
    (hblk : w.heap[B]? = some (.cells #[sv x.1, sv x.2] t fr)) (hlen : l.length + 1 ≤ 16777216) (hbase : base ≤ w.heap.size) :
    ∃ g cap w', (Builtin.append_ #[34, 34] ty #[v, .slice (some ⟨B, 0, none⟩) 1 c]).run Tryz.prog w = .ok (.slice (some ⟨g, 0, none⟩) (l.length + 1) cap) w' ∧ Bnds w' base (.slice (some ⟨g, 0, none⟩) (l.length + 1) cap) (l ++ [x]) ∧ w.grownBy w' v.ownBlock ∧ (v.ownBlock = some g ∨ g = w.heap.size) := by
  obtain ⟨i0, hi, hz0, hz1, hz2⟩ := info_parts bndinfo
  obtain ⟨g, cap, w', hr, h2, h3, h4, _⟩ := run_append_lies (P := Tryz.prog) w 34 ty base 73 i0 (.agg #[.string ⟨#[]⟩, .string ⟨#[]⟩]) 2 32 Tryz.underlying34 hi hz0 hz1 hz2 rfl (by decide) v l.length (flat2 l) hown
    ⟨B, 0, none⟩ 1 c [sv x.1, sv x.2] (by simp) (World.news_of_block hblk) (by intro u hu; simp at hu; rcases hu with rfl | rfl <;> rfl) (by omega) (by unfold maxLen; omega) (by omega) hbase _ rfl
  refine ⟨g, cap, w', hr, ?_, h3, h4⟩
  unfold Bnds
  rw [List.length_append, flat2_app]
  exact h2
/-- append(bounds, b) at a plain region's list. -/
theorem wpList_append_bd {w : World} {ops : Array Oper} {rest : List Oper} {o : Oper} {a : Act} {Q : Exit → Act → World → Prop} (hgd : o.guard = none) (s x : Operand)
    (ho : o.op = .call { callee := .builtin .append, args := #[s, x], argTypes := #[34, 34] })
    (base : Nat) (v : Value) (l : List Bd) (hs : a.eval s = v) (hown : Bnds w base v l) (y : Bd) (B c : Nat) (t : TypeId) (fr : Nat × Nat)
    (hx : a.eval x = .slice (some ⟨B, 0, none⟩) 1 c) (hblk : w.heap[B]? = some (.cells #[sv y.1, sv y.2] t fr)) (hlen : l.length + 1 ≤ 16777216) (hbase : base ≤ w.heap.size)
    (h : ∀ g cap w', Bnds w' base (.slice (some ⟨g, 0, none⟩) (l.length + 1) cap) (l ++ [y]) → w.grownBy w' v.ownBlock → (v.ownBlock = some g ∨ g = w.heap.size) → wpList Tryz.prog ops Q rest (a.put o.dst (.slice (some ⟨g, 0, none⟩) (l.length + 1) cap)) w') : wpList Tryz.prog ops Q (o :: rest) a w := by
  refine wpList_plain hgd fun _ hK => ?_
  obtain ⟨g, cap, w', hr, h2, h3, h4⟩ := run_append_bd w o.type base v l hown y B c t fr hblk hlen hbase
  unfold Oper.wp execOp
  simp only [ho, resolve, invoke, builtin, Sem.run_bind, Sem.run_pure, Result.andThen_ok, List.map_toArray, List.map_cons, List.map_nil, hs, hx, hr]
  exact hK _ _ (h g cap w' h2 h3 h4)
theorem Bnds.empty (w : World) (base : Nat) (hb : base ≤ w.heap.size) : Bnds (w.alloc (.cells #[] 73)) base (.slice (some ⟨w.heap.size, 0, none⟩) 0 0) [] := by
  have h := World.ownsRow_lit (base := base) (e := 73) (size := 2) w #[] 0 hb (by unfold maxLen; omega) (by simp)
  simpa [Bnds, flat2] using h
theorem Bnds.slice {w : World} {base : Nat} {v : Value} {l : List Bd} (h : Bnds w base v l) : ∃ A c, v = .slice A l.length c := by
  rcases h.form with ⟨rfl, rfl⟩ | ⟨g, cap, rfl, _, _⟩
  · exact ⟨_, _, rfl⟩
  · exact ⟨_, _, rfl⟩
end Go.Proofs.YtongpnknmgbhjaaGreatDoor

/-
  spec.ReadRange, impl.ReadRange: the bounds of a text.
-/
namespace Go.Proofs.YtongpnknmgbhjaaGreatDoor
open Go.RowKit

theorem splitK_mem (sep : List UInt8) : ∀ (k : Nat) (s : List UInt8), ∀ x ∈ Lib.splitK sep 0 k s, x.length ≤ s.length
  | 0, s, x, h => by simp [Lib.splitK] at h; simp [h]
  | k + 1, s, x, h => by
    unfold Lib.splitK at h
    split at h
    · simp at h; simp [h]
    · rcases List.mem_cons.1 h with rfl | h
      · simp; omega
      · have := splitK_mem sep k _ x h
        simp at this; omega
theorem rgPs_mem (l : List UInt8) : ∀ x ∈ rgPs l, x.length ≤ l.length := fun x hx => splitK_mem orSep _ l x hx
theorem splitK_len (sep : List UInt8) : ∀ (k : Nat) (s : List UInt8), (Lib.splitK sep 0 k s).length ≤ k + 1
  | 0, s => by simp [Lib.splitK]
  | k + 1, s => by
    unfold Lib.splitK
    split
    · simp
    · have := splitK_len sep k (s.drop ((Lib.index s sep).toNat + sep.length))
      simp; omega
theorem rg_no1 {l : List UInt8} (h : ¬ l.length ≤ 200) : rgOk l = false := by unfold rgOk; rw [decide_eq_false h]; rfl
theorem rg_no2 {l : List UInt8} (h : ¬ (rgPs l).length ≤ 8) : rgOk l = false := by unfold rgOk; rw [decide_eq_false h]; simp
theorem rg_no3 {l : List UInt8} (k : Nat) (hk : k < (rgPs l).length) (h : altOk (rgPs l)[k] = false) : rgOk l = false := by
  unfold rgOk
  have : (rgPs l).all altOk = false := by
    rw [Bool.eq_false_iff]; intro ha
    have := List.all_eq_true.1 ha _ (List.getElem_mem hk)
    rw [h] at this; cases this
  rw [this]; simp
theorem rg_yes {l : List UInt8} (h1 : l.length ≤ 200) (h2 : (rgPs l).length ≤ 8) (h3 : (rgPs l).all altOk = true) : rgOk l = true := by unfold rgOk; simp [h1, h2]; simpa using h3
/-- What ReadRange hands back. -/
def RgIs (w : World) (l : List UInt8) (e : Ending) (w' : World) : Prop := ∃ u, e = .returned (.tuple #[u, .bool (rgOk l)]) ∧ Bnds w' w.heap.size u (rgB l) ∧ Below w.heap.size w w'
theorem rgIs_bad {w w' : World} {l : List UInt8} {u : Value} (h : rgOk l = false) (hS : Bnds w' w.heap.size u []) (hb : Below w.heap.size w w') : RgIs w l (.returned (.tuple #[u, .bool false])) w' :=
  ⟨u, by rw [h], by unfold rgB; rw [if_neg (by rw [h]; simp)]; exact hS, hb⟩
theorem rgIs_good {w w' : World} {l : List UInt8} {u : Value} (h : rgOk l = true) (hS : Bnds w' w.heap.size u ((rgPs l).map altB)) (hb : Below w.heap.size w w') : RgIs w l (.returned (.tuple #[u, .bool true])) w' :=
  ⟨u, by rw [h], by unfold rgB; rw [if_pos h]; exact hS, hb⟩
theorem Bnds.emptyAt (W : World) (base n : Nat) (hn : W.heap.size = n) (hb : base ≤ n) : Bnds (W.alloc (.cells #[] 73)) base (.slice (some ⟨n, 0, none⟩) 0 0) [] := by subst hn; exact Bnds.empty W base hb
theorem own_some {g : Nat} {n c : Nat} : ∀ b, (Value.slice (some ⟨g, 0, none⟩) n c).ownBlock = some b → b = g := fun b h => by simp [Value.ownBlock] at h; exact h.symm

theorem rds_alloc2 {w : World} {base : Nat} {v : Value} {l : List (List UInt8)} (h : Strs w base v l) (o1 o2 : Obj) : Strs ((w.alloc o1).alloc o2) base v l := (h.alloc o1).alloc o2

set_option maxRecDepth 100000 in
set_option maxHeartbeats 4000000 in
theorem specReadRange_any (l : List UInt8) (w : World) (hl : l.length ≤ 1048576) :
    Calls Tryz.prog 15 #[.string ⟨l.toArray⟩] w (RgIs w l) := by
  obtain ⟨s, hs⟩ : ∃ s : ByteArray, s = ⟨l.toArray⟩ := ⟨_, rfl⟩
  have hd : s.data.toList = l := by rw [hs]
  have hz : s.size = l.length := by rw [hs]; exact size_of l
  have HP := Lib.hid (fun (W : World) => l03Parts_any s W (by omega))
  rw [hd] at HP
  rw [← hs]
  have HMEM := Lib.hid (rgPs_mem l)
  have hpl : (rgPs l).length ≤ l.length + 1 + 1048576 := by
    have := splitK_len orSep (Lib.count l orSep) l
    have h2 : Lib.count l orSep ≤ l.length := by
      have := Lib.countB_le ⟨#[32, 124, 124, 32]⟩ (by decide) s.size s (Nat.le_refl _)
      rw [hz] at this
      have e : Lib.countB s ⟨#[32, 124, 124, 32]⟩ = Lib.count l orSep := by rw [← hd]; rfl
      rw [e] at this; exact this
    unfold rgPs Lib.split; omega
  have HN1 := Lib.hid (fun h => rg_no1 (l := l) h)
  have HN2 := Lib.hid (fun h => rg_no2 (l := l) h)
  have HN3 := Lib.hid (fun (k : Nat) (hk : k < (rgPs l).length) h => rg_no3 (l := l) k hk h)
  have HY := Lib.hid (fun h1 h2 h3 => rg_yes (l := l) h1 h2 h3)
  have HB1 := Lib.hid (fun (w' : World) (u : Value) (h : rgOk l = false) (hS : Bnds w' w.heap.size u []) (hb : Below w.heap.size w w') => rgIs_bad h hS hb)
  have HB2 := Lib.hid (fun (w' : World) (u : Value) (h : rgOk l = true) (hS : Bnds w' w.heap.size u ((rgPs l).map altB)) (hb : Below w.heap.size w w') => rgIs_good h hS hb)
  have hL : l.length = s.size := hz.symm
  rw [hL] at HMEM HN1 HY hpl hl
  generalize rgPs l = ps at HP HMEM HN2 HN3 HY HB2 hpl
  generalize rgOk l = ok at HN1 HN2 HN3 HY HB1 HB2
  generalize RgIs w l = RI at HB1 HB2 ⊢
  clear hs hd hz hL
  have B1 : Below w.heap.size w (w.alloc (.cells #[] 73)) := (Below.refl _ _).alloc (Nat.le_refl _) _
  have hown := Bnds.empty w w.heap.size (Nat.le_refl _)
  by_cases hbig : 200 < s.size
  · go_enter Tryz.func15, Tryz.ntmps15
    go_wp2_with fail
    refine (HP.out _).mono ?_
    rintro e w1 ⟨g, cap, rfl, hS, hb1⟩
    go_wp2_with fail
    exact HB1.out _ _ (HN1.out (by omega)) (hown.below hb1) (B1.trans (hb1.mono B1.size))
  by_cases h8 : 8 < ps.length
  · go_enter Tryz.func15, Tryz.ntmps15
    go_wp2_with fail
    refine (HP.out _).mono ?_
    rintro e w1 ⟨g, cap, rfl, hS, hb1⟩
    go_wp2_with fail
    exact HB1.out _ _ (HN2.out (by omega)) (hown.below hb1) (B1.trans (hb1.mono B1.size))
  have HA := Lib.hid (fun (k : Nat) (hk : k < ps.length) (W : World) => l03Part_any ps[k] W (by have := HMEM.out _ (List.getElem_mem hk); omega))
  go_enter Tryz.func15, Tryz.ntmps15
  go_wp2_with fail
  refine (HP.out _).mono ?_
  rintro e w1 ⟨g, cap, rfl, hS, hb1⟩
  have hgw : w.heap.size < g := by have := hS.lo; simp at this; omega
  have B2 := B1.trans (hb1.mono B1.size)
  have hown2 := hown.below hb1
  clear hb1 B1 hown HP
  go_wp2_with fail
  go_loopw [4, 6] (fun v i wr => ∃ k : Nat, k ≤ ps.length ∧ i = .int .i64 k ∧ Bnds wr w.heap.size v ((ps.take k).map altB) ∧ (∀ b, v.ownBlock = some b → b ≠ g) ∧ Hid ((ps.take k).all altOk = true) ∧ Strs wr (w.heap.size + 1) (.slice (some ⟨g, 0, none⟩) ps.length cap) ps ∧ Below w.heap.size w wr) (fun _ i _ => ps.length - (intOf i).toNat)
  case atStart => exact ⟨0, Nat.zero_le _, rfl, by simpa using hown2, fun b hb => by have := own_some b hb; omega, Lib.hid rfl, by simpa using hS, B2⟩
  case round =>
    obtain ⟨k, hk, rfl, hB, hne, HAL, hSr, hb⟩ := hrel
    clear hS hown2 B2
    obtain ⟨V, vc, rfl⟩ := hB.slice
    have hlen : ((ps.take k).map altB).length = k := by simp; omega
    rw [hlen] at hB hne
    by_cases hlt : k < ps.length
    · have d := hSr.cell k hlt
      have k0 : (0 : Int) ≤ (k : Int) := by omega
      have k1 : (k : Int) < (ps.length : Int) := by omega
      have HAK := Lib.hid (fun (W : World) => HA.out k hlt W)
      have HX3 := Lib.hid (HN3.out k hlt)
      have HTK : Hid ((ps.take (k + 1)).map altB = (ps.take k).map altB ++ [altB ps[k]]) := Lib.hid (by rw [List.take_succ_eq_append_getElem hlt, List.map_append]; rfl)
      have HAS : Hid (altOk ps[k] = true → (ps.take (k + 1)).all altOk = true) := Lib.hid (fun h => by rw [List.take_succ_eq_append_getElem hlt, List.all_append, HAL.out]; simp [h])
      generalize altOk ps[k] = ak at HAK HX3 HAS
      generalize altB ps[k] = ab at HAK HTK
      clear HN3 HA
      rw [hlen]
      cases ak with
      | false =>
        go_wp2_with fail
        refine (HAK.out _).mono ?_
        rintro e w3 ⟨x, y, rfl, hxy, hb3⟩
        have B3 := hb.trans (hb3.mono hb.size)
        have B4 := B3.alloc B3.size (.cells #[.string x, .string y] 73)
        go_wp2_with fail
        exact HB1.out _ _ (HX3.out (by trivial)) (Bnds.emptyAt _ _ _ (by simp) (by have := B3.size; omega)) (B4.alloc B4.size _)
      | true =>
        go_wp2_with fail
        refine (HAK.out _).mono ?_
        rintro e w3 ⟨x, y, rfl, hxy, hb3⟩
        obtain ⟨rfl, rfl⟩ := hxy rfl
        have B3 := hb.trans (hb3.mono hb.size)
        have hB3 := hB.below hb3
        have hS3 := hSr.below hb3
        clear hb3 hb hB hSr hxy d
        go_wp2_with (at_builtin; refine wpList_append_bd rfl _ _ rfl w.heap.size _ ((ps.take k).map altB) rfl ((hB3.alloc _).alloc _) ab (w3.heap.size + 1) _ _ _ rfl (heap_new (by simp) _) (by rw [hlen]; omega) (by have := B3.size; simp; omega) ?_; intro g5 cap5 w5 hown5 hb5 hor5)
        have B5 := ((B3.alloc B3.size (.cells #[.string ⟨ab.1.toArray⟩, .string ⟨ab.2.toArray⟩] 73)).alloc (by have := B3.size; simp; omega) (.cells #[.string ⟨ab.1.toArray⟩, .string ⟨ab.2.toArray⟩] 73))
        have B6 := gr_belowN B5 hb5 B5.size (fun b hb => hB3.owned b hb)
        have hS5 := (((rds_alloc2 hS3 _ _)).grown hb5 (fun b hbb e => hne b e.symm (by have := own_some b hbb; exact this)))
        have hg5 : ∀ b, (Value.slice (some ⟨g5, 0, none⟩) (k + 1) cap5).ownBlock = some b → b ≠ g := fun b hbb e => by
          have e1 := own_some b hbb
          rcases hor5 with h5 | h5
          · exact hne g5 h5 (by omega)
          · have hg3 := hS3.block_lt g rfl
            simp at h5; omega
        clear hb5 hor5 B5 B3 hB3 hS3 hne
        go_wp2_with fail
        go_roundw
        case rel => exact ⟨k + 1, by omega, by go_num, by rw [HTK.out]; rw [hlen] at hown5; exact hown5, hg5, Lib.hid (HAS.out (by trivial)), hS5, B6⟩
        case measure => simp [intOf]; omega
    · obtain rfl : k = ps.length := by omega
      have HFIN := Lib.hid (HAL.out)
      rw [List.take_length] at HFIN hB
      go_wp2_with fail
      exact HB2.out _ _ (HY.out (by omega) (by omega) HFIN.out) (by rw [hlen]; exact hB) hb

set_option maxRecDepth 100000 in
set_option maxHeartbeats 4000000 in
theorem implReadRange_any (l : List UInt8) (m : Int) (w : World) (hl : l.length ≤ 1048576) (ht : Tab w) (hm : w.cell? ⟨0, 0, none⟩ = some (.int .i64 m)) :
    Calls Tryz.prog 16 #[.string ⟨l.toArray⟩] w (RgIs w l) := by
  obtain ⟨s, hs⟩ : ∃ s : ByteArray, s = ⟨l.toArray⟩ := ⟨_, rfl⟩
  have hd : s.data.toList = l := by rw [hs]
  have hz : s.size = l.length := by rw [hs]; exact size_of l
  have HP := Lib.hid (fun (W : World) (h : Below w.heap.size w W) => split_any s m W (by omega) (keepC h hm))
  rw [hd] at HP
  rw [← hs]
  have HMEM := Lib.hid (rgPs_mem l)
  have hpl : (rgPs l).length ≤ l.length + 1 + 1048576 := by
    have := splitK_len orSep (Lib.count l orSep) l
    have h2 : Lib.count l orSep ≤ l.length := by
      have := Lib.countB_le ⟨#[32, 124, 124, 32]⟩ (by decide) s.size s (Nat.le_refl _)
      rw [hz] at this
      have e : Lib.countB s ⟨#[32, 124, 124, 32]⟩ = Lib.count l orSep := by rw [← hd]; rfl
      rw [e] at this; exact this
    unfold rgPs Lib.split; omega
  have HN1 := Lib.hid (fun h => rg_no1 (l := l) h)
  have HN2 := Lib.hid (fun h => rg_no2 (l := l) h)
  have HN3 := Lib.hid (fun (k : Nat) (hk : k < (rgPs l).length) h => rg_no3 (l := l) k hk h)
  have HY := Lib.hid (fun h1 h2 h3 => rg_yes (l := l) h1 h2 h3)
  have HB1 := Lib.hid (fun (w' : World) (u : Value) (h : rgOk l = false) (hS : Bnds w' w.heap.size u []) (hb : Below w.heap.size w w') => rgIs_bad h hS hb)
  have HB2 := Lib.hid (fun (w' : World) (u : Value) (h : rgOk l = true) (hS : Bnds w' w.heap.size u ((rgPs l).map altB)) (hb : Below w.heap.size w w') => rgIs_good h hS hb)
  have hL : l.length = s.size := hz.symm
  rw [hL] at HMEM HN1 HY hpl hl
  generalize rgPs l = ps at HP HMEM HN2 HN3 HY HB2 hpl
  generalize rgOk l = ok at HN1 HN2 HN3 HY HB1 HB2
  generalize RgIs w l = RI at HB1 HB2 ⊢
  clear hs hd hz hL
  by_cases hbig : 200 < s.size
  · have B1 : Below w.heap.size w (w.alloc (.cells #[] 73)) := (Below.refl _ _).alloc (Nat.le_refl _) _
    have hown := Bnds.empty w w.heap.size (Nat.le_refl _)
    go_enter Tryz.func16, Tryz.ntmps16
    go_wp2_with fail
    exact HB1.out _ _ (HN1.out (by omega)) hown B1
  have HA := Lib.hid (fun (k : Nat) (hk : k < ps.length) (W : World) (h : Below w.heap.size w W) => readAlternative_any ps[k] m W (by have := HMEM.out _ (List.getElem_mem hk); omega) (tab_below ht h) (keepC h hm))
  have B1 : Below w.heap.size w (w.alloc (.cells #[] 73)) := (Below.refl _ _).alloc (Nat.le_refl _) _
  have hown := Bnds.empty w w.heap.size (Nat.le_refl _)
  clear ht hm
  go_enter Tryz.func16, Tryz.ntmps16
  go_wp2_with fail
  refine (HP.out _ B1).mono ?_
  rintro e w1 ⟨g, cap, rfl, hS, hb1⟩
  have hgw : w.heap.size < g := by have := hS.lo; simp at this; omega
  have B2 := B1.trans (hb1.mono B1.size)
  have hown2 := hown.below hb1
  clear hb1 B1 hown HP
  go_wp2_with fail
  go_loopw [4, 17] (fun v i wr => ∃ k : Nat, k ≤ ps.length ∧ i = .int .i64 k ∧ Bnds wr w.heap.size v ((ps.take k).map altB) ∧ (∀ b, v.ownBlock = some b → b ≠ g) ∧ Hid ((ps.take k).all altOk = true) ∧ Strs wr (w.heap.size + 1) (.slice (some ⟨g, 0, none⟩) ps.length cap) ps ∧ Below w.heap.size w wr ∧ k ≤ 8) (fun _ i _ => ps.length - (intOf i).toNat)
  case atStart => exact ⟨0, Nat.zero_le _, rfl, by simpa using hown2, fun b hb => by have := own_some b hb; omega, Lib.hid rfl, by simpa using hS, B2, by omega⟩
  case round =>
    obtain ⟨k, hk, rfl, hB, hne, HAL, hSr, hb, hk8⟩ := hrel
    clear hS hown2 B2
    obtain ⟨V, vc, rfl⟩ := hB.slice
    have hlen : ((ps.take k).map altB).length = k := by simp; omega
    rw [hlen] at hB hne
    by_cases hlt : k < ps.length
    · have d := hSr.cell k hlt
      have k0 : (0 : Int) ≤ (k : Int) := by omega
      have k1 : (k : Int) < (ps.length : Int) := by omega
      have HAK := Lib.hid (fun (W : World) (h : Below w.heap.size w W) => HA.out k hlt W h)
      have HX3 := Lib.hid (HN3.out k hlt)
      have HTK : Hid ((ps.take (k + 1)).map altB = (ps.take k).map altB ++ [altB ps[k]]) := Lib.hid (by rw [List.take_succ_eq_append_getElem hlt, List.map_append]; rfl)
      have HAS : Hid (altOk ps[k] = true → (ps.take (k + 1)).all altOk = true) := Lib.hid (fun h => by rw [List.take_succ_eq_append_getElem hlt, List.all_append, HAL.out]; simp [h])
      generalize altOk ps[k] = ak at HAK HX3 HAS
      generalize altB ps[k] = ab at HAK HTK
      clear HN3 HA
      rw [hlen]
      cases ak with
      | false =>
        go_wp2_with fail
        refine (HAK.out _ hb).mono ?_
        rintro e w3 ⟨x, y, rfl, hxy, hb3⟩
        have B3 := hb.trans (hb3.mono hb.size)
        have B4 := B3.alloc B3.size (.cells #[.string x, .string y] 73)
        go_wp2_with fail
        exact HB1.out _ _ (HX3.out (by trivial)) (Bnds.emptyAt _ _ _ (by simp) (by have := B3.size; omega)) (B4.alloc B4.size _)
      | true =>
        by_cases hk9 : k = 8
        · have HX8 : Hid (ok = false) := Lib.hid (HN2.out (by omega))
          have b8 : ((k : Int) == 8) = true := by rw [hk9]; rfl
          have HK9 := Lib.hid hk9
          clear hk9
          go_wp2_with fail
          refine (HAK.out _ hb).mono ?_
          rintro e w3 ⟨x, y, rfl, hxy, hb3⟩
          obtain ⟨rfl, rfl⟩ := hxy rfl
          have B3 := hb.trans (hb3.mono hb.size)
          have B4 := B3.alloc B3.size (.cells #[.string ⟨ab.1.toArray⟩, .string ⟨ab.2.toArray⟩] 73)
          go_wp2_with fail
          exact HB1.out _ _ HX8.out (Bnds.emptyAt _ _ _ (by simp) (by have := B3.size; omega)) (B4.alloc B4.size _)
        have b8 : ((k : Int) == 8) = false := int_beq_false (by omega)
        go_wp2_with fail
        refine (HAK.out _ hb).mono ?_
        rintro e w3 ⟨x, y, rfl, hxy, hb3⟩
        obtain ⟨rfl, rfl⟩ := hxy rfl
        have B3 := hb.trans (hb3.mono hb.size)
        have hB3 := hB.below hb3
        have hS3 := hSr.below hb3
        clear hb3 hb hB hSr hxy d
        go_wp2_with (at_builtin; refine wpList_append_bd rfl _ _ rfl w.heap.size _ ((ps.take k).map altB) rfl ((hB3.alloc _).alloc _) ab (w3.heap.size + 1) _ _ _ rfl (heap_new (by simp) _) (by rw [hlen]; omega) (by have := B3.size; simp; omega) ?_; intro g5 cap5 w5 hown5 hb5 hor5)
        have B5 := ((B3.alloc B3.size (.cells #[.string ⟨ab.1.toArray⟩, .string ⟨ab.2.toArray⟩] 73)).alloc (by have := B3.size; simp; omega) (.cells #[.string ⟨ab.1.toArray⟩, .string ⟨ab.2.toArray⟩] 73))
        have B6 := gr_belowN B5 hb5 B5.size (fun b hb => hB3.owned b hb)
        have hS5 := (((rds_alloc2 hS3 _ _)).grown hb5 (fun b hbb e => hne b e.symm (by have := own_some b hbb; exact this)))
        have hg5 : ∀ b, (Value.slice (some ⟨g5, 0, none⟩) (k + 1) cap5).ownBlock = some b → b ≠ g := fun b hbb e => by
          have e1 := own_some b hbb
          rcases hor5 with h5 | h5
          · exact hne g5 h5 (by omega)
          · have hg3 := hS3.block_lt g rfl
            simp at h5; omega
        clear hb5 hor5 B5 B3 hB3 hS3 hne
        go_wp2_with fail
        go_roundw
        case rel => exact ⟨k + 1, by omega, by go_num, by rw [HTK.out]; rw [hlen] at hown5; exact hown5, hg5, Lib.hid (HAS.out (by trivial)), hS5, B6, by omega⟩
        case measure => simp [intOf]; omega
    · obtain rfl : k = ps.length := by omega
      have HFIN := Lib.hid (HAL.out)
      rw [List.take_length] at HFIN hB
      go_wp2_with fail
      exact HB2.out _ _ (HY.out (by omega) (by omega) HFIN.out) (by rw [hlen]; exact hB) hb
end Go.Proofs.YtongpnknmgbhjaaGreatDoor

/-
  The laws' own helper markText: a mark's text.
-/
namespace Go.Proofs.YtongpnknmgbhjaaGreatDoor
open Go.RowKit

/-- The k-th mark. -/
def mt (k : Nat) : List UInt8 := 109 :: Lib.decDigits k
theorem dig_val (v : Nat) : bv (digC (v % 10)) = .int .u8 (48 + (v : Int) % 10) := by
  have h : ∀ d : Nat, d < 10 → bv (digC d) = .int .u8 (48 + (d : Int)) := by
    intro d hd
    unfold bv digC
    congr 1
    simp
    omega
  rw [h _ (by omega)]
  congr 1

set_option maxRecDepth 100000 in
set_option maxHeartbeats 1000000 in
theorem markText_any (u : Nat) (w : World) (h1 : 1 ≤ u) (h2 : u ≤ 100000000) :
    Calls Tryz.prog 55 #[.int .i64 (u : Int)] w fun e w' => e = .returned (.string ⟨(mt u).toArray⟩) ∧ Below w.heap.size w w' := by
  go_enter Tryz.func55, Tryz.ntmps55
  go_wp2
  go_loopw [0, 3] (fun m o wr => ∃ (v : Nat) (l : List UInt8), o = .string ⟨l.toArray⟩ ∧ m = .int .i64 (v : Int) ∧ v ≤ u ∧ DecAt u v l ∧ Below w.heap.size w wr) (fun m _ _ => (intOf m).toNat)
  case atStart => exact ⟨u, [], rfl, rfl, Nat.le_refl _, decAt_start u (by omega), Below.refl _ _⟩
  case round =>
    obtain ⟨v, l, rfl, rfl, hvu, H, hb⟩ := hrel
    have hl := decAt_len H (by omega)
    by_cases hv : v = 0
    · subst hv
      obtain rfl := decAt_end H
      clear H
      go_wp2
      go_ret
      exact ⟨congrArg Ending.returned (str_cons _ _), hb⟩
    · have HN := Lib.hid (decAt_step H (by omega))
      have hpos : (0 : Int) < (v : Int) := by omega
      have hcv := (Buf.lit wr w.heap.size [digC (v % 10)] hb.size (by simp)).conv
      have hdv := dig_val v
      simp only [List.map_cons, List.map_nil, hdv, List.length_cons, List.length_nil, Nat.zero_add] at hcv
      clear hdv H hv
      go_wp2
      go_roundw
      case rel => exact ⟨v / 10, _, str_cons _ _, by go_num, by omega, HN.out, hb.alloc hb.size _⟩
      case measure => simp [intOf]; omega
end Go.Proofs.YtongpnknmgbhjaaGreatDoor

/-
  Lists of pairs of marks.
-/
namespace Go.Proofs.YtongpnknmgbhjaaGreatDoor

theorem flat2_setLo : ∀ (l : List Bd) (k : Nat) (y : List UInt8) (h : k < l.length), (flat2 l).set (k * 2) (sv y) = flat2 (l.set k (y, l[k].2))
  | [], k, y, h => by simp at h
  | a :: t, 0, y, _ => by simp [flat2]
  | a :: t, k + 1, y, h => by
    have := flat2_setLo t k y (by simpa using h)
    rw [show (k + 1) * 2 = k * 2 + 2 by omega]
    simp [flat2, this]
theorem flat2_setHi : ∀ (l : List Bd) (k : Nat) (y : List UInt8) (h : k < l.length), (flat2 l).set (k * 2 + 1) (sv y) = flat2 (l.set k (l[k].1, y))
  | [], k, y, h => by simp at h
  | a :: t, 0, y, _ => by simp [flat2]
  | a :: t, k + 1, y, h => by
    have := flat2_setHi t k y (by simpa using h)
    rw [show (k + 1) * 2 + 1 = k * 2 + 1 + 2 by omega]
    simp [flat2, this]
/-- The first k bounds marked from s on. -/
def mkB (s k : Nat) (bs : List Bd) : List Bd := (List.range k).map (fun i => (mt (s + 2 * i), mt (s + 2 * i + 1))) ++ bs.drop k
theorem mkB_len (s k : Nat) (bs : List Bd) (h : k ≤ bs.length) : (mkB s k bs).length = bs.length := by simp [mkB]; omega
theorem mkB_zero (s : Nat) (bs : List Bd) : mkB s 0 bs = bs := by simp [mkB]
theorem mkB_set (s k : Nat) (bs : List Bd) (h : k < bs.length) (x : Bd) : ((mkB s k bs).set k x).set k (mt (s + 2 * k), mt (s + 2 * k + 1)) = mkB s (k + 1) bs := by
  apply List.ext_getElem
  · simp [mkB]; omega
  · intro i h1 h2
    simp only [List.set_set]
    rw [List.getElem_set]
    by_cases hi : k = i
    · subst hi
      simp [mkB]
    · rw [if_neg hi]
      simp only [mkB, List.getElem_append, List.length_map, List.length_range]
      by_cases hlt : i < k
      · rw [dif_pos hlt, dif_pos (by omega)]
        simp
      · rw [dif_neg hlt, dif_neg (by omega)]
        simp only [List.getElem_drop]
        congr 1
        omega

theorem mkB_get (s : Nat) (bs : List Bd) (k : Nat) (_h : k < bs.length) (hX : k < (mkB s bs.length bs).length) : (mkB s bs.length bs)[k] = (mt (s + 2 * k), mt (s + 2 * k + 1)) := by
  simp [mkB]
end Go.Proofs.YtongpnknmgbhjaaGreatDoor

/-
  The laws' own helpers on lists of bounds: markBoundS writes marks over each field.
-/
namespace Go.Proofs.YtongpnknmgbhjaaGreatDoor
open Go.RowKit

theorem Bnds.setLo {w : World} {base g cap : Nat} {l : List Bd} (h : Bnds w base (.slice (some ⟨g, 0, none⟩) l.length cap) l) (k : Nat) (hk : k < l.length) (y : List UInt8) :
    Bnds (w.setCell ⟨g, k * 2, none⟩ (sv y)) base (.slice (some ⟨g, 0, none⟩) l.length cap) (l.set k (y, l[k].2)) := by
  unfold Bnds at h ⊢
  rw [List.length_set, ← flat2_setLo]
  exact (World.ownsRow.stored h (k * 2) (sv y)).1
theorem Bnds.setHi {w : World} {base g cap : Nat} {l : List Bd} (h : Bnds w base (.slice (some ⟨g, 0, none⟩) l.length cap) l) (k : Nat) (hk : k < l.length) (y : List UInt8) :
    Bnds (w.setCell ⟨g, k * 2 + 1, none⟩ (sv y)) base (.slice (some ⟨g, 0, none⟩) l.length cap) (l.set k (l[k].1, y)) := by
  unfold Bnds at h ⊢
  rw [List.length_set, ← flat2_setHi]
  exact (World.ownsRow.stored h (k * 2 + 1) (sv y)).1
theorem Bnds.grown {w w' : World} {base : Nat} {v : Value} {l : List Bd} {row : Option Nat} (h : Bnds w base v l) (hg : w.grownBy w' row) (hne : ∀ g, v.ownBlock = some g → some g ≠ row) : Bnds w' base v l := by
  rcases h.form with ⟨rfl, rfl⟩ | ⟨g, cap, rfl, _, _⟩
  · exact ⟨by simp [flat2], .inl ⟨rfl, rfl⟩⟩
  · exact World.ownsRow.kept h hg (.inr (fun e => hne g rfl (by rw [← e]; rfl)))

set_option maxRecDepth 100000 in
set_option maxHeartbeats 2000000 in
theorem markBoundS_gr (w : World) (base g cap s : Nat) (bs : List Bd) (h : Bnds w base (.slice (some ⟨g, 0, none⟩) bs.length cap) bs) (hl : bs.length ≤ 2000000) (s1 : 1 ≤ s) (s2 : s ≤ 2000001) :
    Calls Tryz.prog 18 #[.slice (some ⟨g, 0, none⟩) bs.length cap, .int .i64 (s : Int)] w fun e w' => e = .returned (.int .i64 ((s + 2 * bs.length : Nat) : Int)) ∧ Bnds w' base (.slice (some ⟨g, 0, none⟩) bs.length cap) (mkB s bs.length bs) ∧ w.grownBy w' (some g) := by
  obtain ⟨E, HE⟩ : ∃ E, Hid (s + 2 * bs.length = E) := ⟨_, Lib.hid rfl⟩
  rw [HE.out]
  go_enter Tryz.func18, Tryz.ntmps18
  go_wp2
  go_loopw [1, 5] (fun u i wr => ∃ k U : Nat, k ≤ bs.length ∧ Hid (U = s + 2 * k) ∧ i = .int .i64 k ∧ u = .int .i64 (U : Int) ∧ Bnds wr base (.slice (some ⟨g, 0, none⟩) bs.length cap) (mkB s k bs) ∧ w.grownBy wr (some g)) (fun _ i _ => bs.length - (intOf i).toNat)
  case atStart => exact ⟨0, s, Nat.zero_le _, Lib.hid (by omega), rfl, rfl, by rw [mkB_zero]; exact h, World.grownBy.refl w _⟩
  case round =>
    obtain ⟨k, U, hk, HU, rfl, rfl, hS, hb⟩ := hrel
    have u1 : 1 ≤ U := by have := HU.out; omega
    have u2 : U ≤ 10000000 := by have := HU.out; omega
    by_cases hlt : k < bs.length
    · have k0 : (0 : Int) ≤ (k : Int) := by omega
      have k1 : (k : Int) < (bs.length : Int) := by omega
      have HML := Lib.hid (mkB_len s k bs hk)
      have HMS := Lib.hid (mkB_set s k bs hlt)
      obtain ⟨X, HX⟩ : ∃ X, Hid (mkB s k bs = X) := ⟨_, Lib.hid rfl⟩
      rw [HX.out] at hS
      have hXl : Hid (X.length = bs.length) := Lib.hid (by rw [← HX.out]; exact HML.out)
      have hkX : k < X.length := by rw [hXl.out]; exact hlt
      clear h
      go_wp2_with fail
      refine (markText_any U wr (by omega) (by omega)).mono ?_
      rintro e w2 ⟨rfl, hb2⟩
      have hS2 := hS.below hb2
      rw [← hXl.out] at hS2
      obtain ⟨c2, _⟩ := hS2.cell k hkX
      have f2 : w2.frozen? ⟨g, k * 2, none⟩ = false := World.ownsRow.frozenAt hS2 (k * 2)
      have B2 := gr_trans hb (gr_below hb2)
      have hS3 := hS2.setLo k hkX (mt U)
      have B3 := gr_trans B2 (gr_set w2 g (k * 2) (sv (mt U)))
      go_wp2_with fail
      refine (markText_any (U + 1) _ (by omega) (by omega)).mono ?_
      rintro e w4 ⟨rfl, hb4⟩
      have hS4 := hS3.below hb4
      have B4 := gr_trans B3 (gr_below hb4)
      have hS4' : Bnds w4 base (.slice (some ⟨g, 0, none⟩) (X.set k (mt U, X[k].2)).length cap) (X.set k (mt U, X[k].2)) := by rw [List.length_set]; exact hS4
      have hk4 : k < (X.set k (mt U, X[k].2)).length := by rw [List.length_set]; exact hkX
      obtain ⟨_, c4⟩ := hS4.cell k hk4
      have f4 : w4.frozen? ⟨g, k * 2 + 1, none⟩ = false := World.ownsRow.frozenAt hS4' (k * 2 + 1)
      have hS5 := hS4'.setHi k hk4 (mt (U + 1))
      have B5 := gr_trans B4 (gr_set w4 g (k * 2 + 1) (sv (mt (U + 1))))
      have HF : Hid ((X.set k (mt U, X[k].2)).set k ((X.set k (mt U, X[k].2))[k].1, mt (U + 1)) = mkB s (k + 1) bs) := Lib.hid (by
        have := HMS.out (mt U, X[k].2)
        rw [HX.out, ← HU.out] at this
        simpa using this)
      rw [HF.out, List.length_set, hXl.out] at hS5
      clear hS hS2 hS3 hS4 hS4' B2 B3 B4 hb2 hb4
      go_wp2_with fail
      go_roundw
      case rel => exact ⟨k + 1, U + 2, by omega, Lib.hid (by have := HU.out; omega), by go_num, by go_num, hS5, B5⟩
      case measure => simp [intOf]; omega
    · obtain rfl : k = bs.length := by omega
      have HUE : Hid (U = E) := Lib.hid (by rw [HU.out, HE.out])
      clear h
      go_wp2_with fail
      go_ret
      exact ⟨by rw [← HUE.out]; rfl, hS, hb⟩

set_option maxRecDepth 100000 in
set_option maxHeartbeats 1000000 in
theorem markB_gr (w : World) (base s : Nat) (v : Value) (bs : List Bd) (h : Bnds w base v bs) (hl : bs.length ≤ 2000000) (s1 : 1 ≤ s) (s2 : s ≤ 2000001) :
    Calls Tryz.prog 18 #[v, .int .i64 (s : Int)] w fun e w' => e = .returned (.int .i64 ((s + 2 * bs.length : Nat) : Int)) ∧ Bnds w' base v (mkB s bs.length bs) ∧ w.grownBy w' v.ownBlock := by
  rcases h.form with ⟨rfl, rfl⟩ | ⟨g, cap, rfl, hg, _⟩
  · go_enter Tryz.func18, Tryz.ntmps18
    go_wp2
    refine wp_loop_rounds 1 ?_
    rw [rounds_succ]; go_wp2
    go_ret
    exact ⟨rfl, h, World.grownBy.refl w _⟩
  · exact markBoundS_gr w base g cap s bs h hl s1 s2
end Go.Proofs.YtongpnknmgbhjaaGreatDoor

/-
  The laws' own helpers on lists of bounds: heldBoundS reads the marks over each field.
-/
namespace Go.Proofs.YtongpnknmgbhjaaGreatDoor
open Go.RowKit

theorem Bnds.lt {w : World} {base g n cap : Nat} {l : List Bd} (h : Bnds w base (.slice (some ⟨g, 0, none⟩) n cap) l) : g < w.heap.size := by
  rcases h.form with ⟨h', _⟩ | ⟨g', cap', h', _, hg'⟩
  · cases h'
  · simp only [Value.slice.injEq, Option.some.injEq, Addr.mk.injEq, and_true] at h'
    rw [h'.1]; exact hg'

set_option maxRecDepth 100000 in
set_option maxHeartbeats 2000000 in
theorem heldBoundS_gr (w : World) (base g cap s : Nat) (bs : List Bd) (h : Bnds w base (.slice (some ⟨g, 0, none⟩) bs.length cap) (mkB s bs.length bs)) (hl : bs.length ≤ 2000000) (s1 : 1 ≤ s) (s2 : s ≤ 2000001) :
    Calls Tryz.prog 19 #[.slice (some ⟨g, 0, none⟩) bs.length cap, .int .i64 (s : Int)] w fun e w' => e = .returned (.int .i64 ((s + 2 * bs.length : Nat) : Int)) ∧ Below w.heap.size w w' := by
  obtain ⟨E, HE⟩ : ∃ E, Hid (s + 2 * bs.length = E) := ⟨_, Lib.hid rfl⟩
  rw [HE.out]
  have HC : Hid (∀ (W : World) (k U : Nat), k < bs.length → U = s + 2 * k → Bnds W base (.slice (some ⟨g, 0, none⟩) bs.length cap) (mkB s bs.length bs) → W.cell? ⟨g, k * 2, none⟩ = some (.string ⟨(mt U).toArray⟩) ∧ W.cell? ⟨g, k * 2 + 1, none⟩ = some (.string ⟨(mt (U + 1)).toArray⟩)) := Lib.hid (fun W k U hk hU hW => by
    have hX : k < (mkB s bs.length bs).length := by rw [mkB_len s bs.length bs (Nat.le_refl _)]; exact hk
    obtain ⟨e0, e1⟩ := hW.cell k hX
    rw [mkB_get s bs k hk hX] at e0 e1
    subst hU
    exact ⟨e0, e1⟩)
  obtain ⟨X, HX⟩ : ∃ X, Hid (mkB s bs.length bs = X) := ⟨_, Lib.hid rfl⟩
  rw [HX.out] at h
  simp only [HX.out] at HC
  go_enter Tryz.func19, Tryz.ntmps19
  go_wp2
  go_loopw [1, 5] (fun u i wr => ∃ k U : Nat, k ≤ bs.length ∧ Hid (U = s + 2 * k) ∧ i = .int .i64 k ∧ u = .int .i64 (U : Int) ∧ Bnds wr base (.slice (some ⟨g, 0, none⟩) bs.length cap) X ∧ Below w.heap.size w wr) (fun _ i _ => bs.length - (intOf i).toNat)
  case atStart => exact ⟨0, s, Nat.zero_le _, Lib.hid (by omega), rfl, rfl, h, Below.refl _ _⟩
  case round =>
    obtain ⟨k, U, hk, HU, rfl, rfl, hS, hb⟩ := hrel
    have u1 : 1 ≤ U := by have := HU.out; omega
    have u2 : U ≤ 10000000 := by have := HU.out; omega
    by_cases hlt : k < bs.length
    · have k0 : (0 : Int) ≤ (k : Int) := by omega
      have k1 : (k : Int) < (bs.length : Int) := by omega
      have HM := Lib.hid (fun W => markText_any U W (by omega) (by omega))
      have HM2 := Lib.hid (fun W => markText_any (U + 1) W (by omega) (by omega))
      have HC2 := Lib.hid (fun W hW => HC.out W k U hlt HU.out hW)
      clear h
      obtain ⟨c1, _⟩ := HC2.out wr hS
      have g1 : g < wr.heap.size := hS.lt
      go_wp2_with fail
      go_region_held3 (fun W => W.cell? ⟨g, k * 2, none⟩ = some (.string ⟨(mt U).toArray⟩) ∧ g < W.heap.size) (first | exact ⟨c1, g1⟩ | (refine ⟨?_, ?_⟩ <;> assumption) | exact keep_cell hb1 (by assumption) (by assumption)) ((first | (go_at_call 55; refine (HM.out _).mono ?_; rintro e w1 ⟨rfl, hb1⟩)))
      have hS1 := (hS.below (below_drewN _ _ 1)).below hb1
      have B1 := (hb.trans (below_drewN _ _ 1)).trans (hb1.mono hb.size)
      obtain ⟨_, c2⟩ := HC2.out _ hS1
      have g2 : g < w1.heap.size := hS1.lt
      clear c1 g1 hS hb hb1
      go_wp2_with fail
      go_region_held3 (fun W => W.cell? ⟨g, k * 2 + 1, none⟩ = some (.string ⟨(mt (U + 1)).toArray⟩) ∧ g < W.heap.size) (first | exact ⟨c2, g2⟩ | (refine ⟨?_, ?_⟩ <;> assumption) | exact keep_cell hb2 (by assumption) (by assumption)) ((first | (go_at_call 55; refine (HM2.out _).mono ?_; rintro e w2 ⟨rfl, hb2⟩)))
      have hS2 := (hS1.below (below_drewN _ _ 1)).below hb2
      have B2 := (B1.trans (below_drewN _ _ 1)).trans (hb2.mono B1.size)
      go_wp2_with fail
      go_roundw
      case rel => exact ⟨k + 1, U + 2, by omega, Lib.hid (by have := HU.out; omega), by go_num, by go_num, hS2, B2⟩
      case measure => simp [intOf]; omega
    · obtain rfl : k = bs.length := by omega
      have HUE : Hid (U = E) := Lib.hid (by rw [HU.out, HE.out])
      clear h
      go_wp2_with fail
      go_ret
      exact ⟨by rw [← HUE.out]; rfl, hb⟩

set_option maxRecDepth 100000 in
set_option maxHeartbeats 1000000 in
theorem heldB_any (w : World) (base s : Nat) (v : Value) (bs : List Bd) (h : Bnds w base v (mkB s bs.length bs)) (hl : bs.length ≤ 2000000) (s1 : 1 ≤ s) (s2 : s ≤ 2000001) :
    Calls Tryz.prog 19 #[v, .int .i64 (s : Int)] w fun e w' => e = .returned (.int .i64 ((s + 2 * bs.length : Nat) : Int)) ∧ Below w.heap.size w w' := by
  rcases h.form with ⟨rfl, h0⟩ | ⟨g, cap, rfl, hg, _⟩
  · have : bs = [] := by
      have := mkB_len s bs.length bs (Nat.le_refl _)
      rw [h0] at this
      exact List.eq_nil_of_length_eq_zero this.symm
    subst this
    go_enter Tryz.func19, Tryz.ntmps19
    go_wp2
    refine wp_loop_rounds 1 ?_
    rw [rounds_succ]; go_wp2
    go_ret
    exact ⟨rfl, Below.refl _ _⟩
  · rw [mkB_len s bs.length bs (Nat.le_refl _)] at h ⊢
    exact heldBoundS_gr w base g cap s bs h hl s1 s2
end Go.Proofs.YtongpnknmgbhjaaGreatDoor

/-
  The laws' own comparison of lists of bounds.
-/
namespace Go.Proofs.YtongpnknmgbhjaaGreatDoor
open Go.RowKit

set_option maxRecDepth 100000 in
set_option maxHeartbeats 1000000 in
theorem eqBound_same (b c : ByteArray) (w : World) :
    Calls Tryz.prog 54 #[.agg #[.string b, .string c], .agg #[.string b, .string c]] w fun e w' => e = .returned (.bool true) ∧ Below w.heap.size w w' := by
  go_enter Tryz.func54, Tryz.ntmps54
  go_wp2_with fail
  go_ret
  exact ⟨rfl, ((Below.refl _ _).alloc (Nat.le_refl _) _).alloc (by simp) _⟩

set_option maxRecDepth 100000 in
set_option maxHeartbeats 1000000 in
theorem eqBoundS_same (va vb : Value) (bs : List Bd) (w : World) (ha : RdB w va bs) (hb : RdB w vb bs) (hl : bs.length ≤ 16777216) :
    Calls Tryz.prog 17 #[va, vb] w fun e w' => e = .returned (.bool true) ∧ Below w.heap.size w w' := by
  have HA := Lib.hid ha
  have HB := Lib.hid hb
  obtain ⟨A, ca, rfl, ha⟩ := ha
  obtain ⟨B, cb, rfl, hb⟩ := hb
  have q0 : ((bs.length : Int) != (bs.length : Int)) = false := int_bne_false rfl
  clear ha hb
  go_enter Tryz.func17, Tryz.ntmps17
  go_wp2_with fail
  go_loopw [5] (fun i wr => ∃ k : Nat, k ≤ bs.length ∧ i = .int .i64 k ∧ Below w.heap.size w wr) (fun i _ => bs.length - (intOf i).toNat)
  case atStart => exact ⟨0, Nat.zero_le _, rfl, Below.refl _ _⟩
  case round =>
    obtain ⟨k, hk, rfl, hw⟩ := hrel
    by_cases hlt : k < bs.length
    · obtain ⟨A', ca', hv, ha⟩ := HA.out.below hw
      simp only [Value.slice.injEq] at hv
      obtain ⟨rfl, _, rfl⟩ := hv
      obtain ⟨B', cb', hv, hb⟩ := HB.out.below hw
      simp only [Value.slice.injEq] at hv
      obtain ⟨rfl, _, rfl⟩ := hv
      obtain ⟨g, off, rfl, _, hca⟩ := ha (by omega)
      obtain ⟨g2, off2, rfl, _, hcb⟩ := hb (by omega)
      have d1 : wr.cell? ⟨g, off + k * 2, none⟩ = some (.string ⟨bs[k].1.toArray⟩) := (hca k hlt).1
      have d2 : wr.cell? ⟨g, off + k * 2 + 1, none⟩ = some (.string ⟨bs[k].2.toArray⟩) := (hca k hlt).2
      have d3 : wr.cell? ⟨g2, off2 + k * 2, none⟩ = some (.string ⟨bs[k].1.toArray⟩) := (hcb k hlt).1
      have d4 : wr.cell? ⟨g2, off2 + k * 2 + 1, none⟩ = some (.string ⟨bs[k].2.toArray⟩) := (hcb k hlt).2
      have k0 : (0 : Int) ≤ (k : Int) := by omega
      have k1 : (k : Int) < (bs.length : Int) := by omega
      clear ha hb hca hcb
      go_wp2_with fail
      go_region_with (first | (go_at_call 54; refine (eqBound_same _ _ _).mono ?_; rintro e w1 ⟨rfl, hb1⟩))
      all_goals
        go_wp2_with fail
        go_roundw
        case rel => exact ⟨k + 1, by omega, by go_num, hw.trans ((below_drewN _ _ 1).trans (hb1.mono (by first | exact Nat.le_refl _ | exact hw.size)))⟩
        case measure => simp [intOf]; omega
    · go_wp2_with fail
      go_ret
      exact ⟨rfl, hw⟩
end Go.Proofs.YtongpnknmgbhjaaGreatDoor

/-
  The walk of the law FnExactReadRange.
-/
namespace Go.Proofs.YtongpnknmgbhjaaGreatDoor
open Go.RowKit

theorem Bnds.ltv {w : World} {base : Nat} {v : Value} {l : List Bd} (h : Bnds w base v l) : ∀ g, v.ownBlock = some g → g < w.heap.size := by
  intro g hg
  rcases h.form with ⟨rfl, _⟩ | ⟨g', cap, rfl, _, hl⟩
  · simp [Value.ownBlock] at hg
  · simp [Value.ownBlock] at hg; omega
set_option maxRecDepth 100000 in
set_option maxHeartbeats 4000000 in
theorem exReadRange (a0 : ByteArray) (w : World) (w0 : a0.size ≤ maxLen) (m : Int) (hm : w.cell? ⟨0, 0, none⟩ = some (.int .i64 m)) (ht : Tab w) :
    Calls Tryz.prog 4 #[.string a0] w fun e w' => e = .returned (.bool true) ∧ Below w.heap.size w w' := by
  obtain ⟨l, rfl⟩ : ∃ l : List UInt8, a0 = ⟨l.toArray⟩ := ⟨a0.data.toList, bytes_ext (by simp)⟩
  rw [size_of] at w0
  have hsz := size_of l
  by_cases hbig : 1048576 < l.length
  · rw [← hsz] at hbig
    clear ht hm
    go_enter Tryz.func4, Tryz.ntmps4
    go_wp2_with fail
    go_ret
    exact ⟨rfl, Below.refl _ _⟩
  · have hs : l.length ≤ 1048576 := by omega
    have HSp := Lib.hid (fun W => specReadRange_any l W hs)
    have HIm := Lib.hid (fun (W : World) (h : Below w.heap.size w W) => implReadRange_any l m W hs (tab_below ht h) (keepC h hm))
    unfold RgIs at HSp HIm
    have h1 := rgB_len l
    obtain ⟨bs, HB⟩ : ∃ bs, Hid (rgB l = bs) := ⟨_, Lib.hid rfl⟩
    simp only [HB.out] at HSp HIm h1
    generalize rgOk l = ok at HSp HIm
    have hbig2 : ¬ 1048576 < (⟨l.toArray⟩ : ByteArray).size := by rw [hsz]; exact hbig
    have q0 : (ok != ok) = false := by cases ok <;> rfl
    clear ht hm hbig hsz
    go_enter Tryz.func4, Tryz.ntmps4
    go_wp2_with fail
    refine (HSp.out _).mono ?_
    rintro e w1 ⟨u0, rfl, S0, B1⟩
    have x1 := S0.ltv
    obtain ⟨A0, c0, rfl⟩ := S0.slice
    go_wp2_with fail
    refine (HIm.out _ B1).mono ?_
    rintro e w2 ⟨u1, rfl, Sg, hb2⟩
    have B2 := B1.trans (hb2.mono B1.size)
    have S02 := S0.below hb2
    have y0 := Sg.owned
    obtain ⟨A1, c1, rfl⟩ := Sg.slice
    clear S0 hb2
    go_wp2_with fail
    refine (eqBoundS_same _ _ bs _ (RdB.of_bnds Sg) (RdB.of_bnds S02) (by omega)).mono ?_
    rintro e w3 ⟨rfl, hb3⟩
    have B3 := B2.trans (hb3.mono B2.size)
    have S03 := S02.below hb3
    have Sg3 := Sg.below hb3
    clear S02 Sg hb3 B2
    go_wp2_with fail
    refine (markB_gr _ _ 1 _ bs Sg3 (by omega) (by omega) (by omega)).mono ?_
    rintro e w4 ⟨rfl, Sg4, hg4⟩
    have B4 := gr_belowN B3 hg4 B3.size (fun g hg => by have := y0 g hg; have := B1.size; omega)
    have S04 := S03.grown hg4 (fun g hg e => by have := x1 g hg; have := y0 g e.symm; omega)
    clear S03 Sg3 hg4 B3
    obtain ⟨M, HM⟩ : ∃ M, Hid (1 + 2 * bs.length = M) := ⟨_, Lib.hid rfl⟩
    rw [HM.out]
    go_wp2_with fail
    refine (heldB_any _ _ 1 _ bs Sg4 (by omega) (by omega) (by omega)).mono ?_
    rintro e w5 ⟨rfl, hb5⟩
    rw [HM.out]
    have B5 := B4.trans (hb5.mono B4.size)
    have S05 := S04.below hb5
    have Sg5 := Sg4.below hb5
    clear S04 Sg4 hb5 B4
    have q2 : ¬ ((M : Int) < 0) := by omega
    have q3 : ((M : Int) != (M : Int)) = false := int_bne_false rfl
    go_wp2_with fail
    refine (HIm.out _ B5).mono ?_
    rintro e w6 ⟨u6, rfl, S6, hb6⟩
    have B6 := B5.trans (hb6.mono B5.size)
    have S06 := S05.below hb6
    have Sg6 := Sg5.below hb6
    obtain ⟨A6, c6, rfl⟩ := S6.slice
    clear S05 Sg5 hb6 B5
    go_wp2_with fail
    refine (eqBoundS_same _ _ bs _ (RdB.of_bnds S6) (RdB.of_bnds S06) (by omega)).mono ?_
    rintro e w7 ⟨rfl, hb7⟩
    have B7 := B6.trans (hb7.mono B6.size)
    have Sg7 := Sg6.below hb7
    clear S06 Sg6 S6 hb7 B6
    go_wp2_with fail
    refine (heldB_any _ _ 1 _ bs Sg7 (by omega) (by omega) (by omega)).mono ?_
    rintro e w8 ⟨rfl, hb8⟩
    rw [HM.out]
    have B8 := B7.trans (hb8.mono B7.size)
    go_wp2_with fail
    go_ret
    exact ⟨rfl, B8⟩
end Go.Proofs.YtongpnknmgbhjaaGreatDoor

namespace Go.Proofs.YtongpnknmgbhjaaGreatDoor.fnExactReadRange
open Go.ChangeShapes Go.WideShapes Go.ChangeAt Go.RowKit
open Go.ChangeMaps (open_string shut_string)
set_option linter.unusedVariables false

theorem own : ownKnob Tryz.prog.godebug = none := by kernel_rfl
theorem laidOut : laidOutB Tryz.prog = true := by kernel_rfl

/-- A table's cells, off its datum. -/
def cell1 : DataW Unit → Value
  | .lit (.int k n) => Value.int k n
  | .lit (.string l) => Value.string ⟨l.toArray⟩
  | _ => .bool false
def tabCells : DataW Unit → Array Value
  | .agg l => (l.flatMap fun
    | .agg m => m.map cell1
    | d => [cell1 d]).toArray
  | _ => #[]
def putCells (cs : Array Value) : Obj → Obj
  | .cells _ t fr => .cells cs t fr
  | o => o
/-- A start that fits: the settled world, the tables laid. -/
noncomputable def laidWorld (os : Os) : World :=
  { World.holding Tryz.prog os ⟨#[], #[], []⟩ with heap := ((((((World.holding Tryz.prog os ⟨#[], #[], []⟩).heap.modify 4 (putCells (tabCells Rows.laid_math_bits_deBruijn32tab))).modify 5 (putCells (tabCells Rows.laid_math_bits_deBruijn64tab))).modify 3 (putCells (tabCells Rows.laid_internal_strconv_uint64pow10))).modify 2 (putCells (tabCells Rows.laid_unicode_utf8_acceptRanges))).modify 1 (putCells (tabCells Rows.laid_unicode_utf8_first))) }
theorem laid_met (os : Os) (args : Array Value) : laidMetH Tryz.prog Rows.fnExactReadRangeRow.laid ((laidWorld os).forCall (fun _ _ => 0) ⟨#[], args, []⟩).memory := by
  rw [MakeChecks.laidMetH_plain _ _ _ (by kernel_rfl)]
  exact laidMet_of_run' 8 (by kernel_rfl) (by kernel_rfl)

set_option maxRecDepth 100000 in
theorem lifted (os : Os) (started : os.Started) (H : Type) (enc : TypeId × Value → H) :
    ReturnsInHanded {} Tryz.checked os 4 .any (fun w args => (Rows.fnExactReadRangeSpec.pre enc Tryz.prog Tryz.f4 [] false w args ∧ laidMetH Tryz.prog Rows.fnExactReadRangeRow.laid w) ∧ sizedMet enc Tryz.prog Tryz.f4 (OpenSpec.ofChange Rows.fnExactReadRangeSpec) false w args)
      (Rows.fnExactReadRangeSpec.post enc Tryz.prog Tryz.f4 false true false false) := by
  refine handed_and_shaped (C := Tryz.checked) (X := fun w _ => laidMetH Tryz.prog Rows.fnExactReadRangeRow.laid w) (fun _ _ _ hh h => h.of_heap hh) own started (by kernel_rfl) Tryz.func4
    (ChangeSpec.witness_at (enc := enc) (C := Tryz.checked) (os := os) (X := fun w _ => laidMetH Tryz.prog Rows.fnExactReadRangeRow.laid w) false (laidWorld os) #[.string ByteArray.empty] 8 rfl (by kernel_rfl) (by kernel_rfl) (by kernel_rfl) (by kernel_rfl) (by kernel_rfl) (laid_met os _)) ?_
  intro W base args ds gs before hval0 hW hL hsh
  obtain ⟨m, hm0⟩ := Tryz.laysCut.s1_3 W hsh
  have hm : W.cell? ⟨0, 0, none⟩ = some (.int .i64 m) := hm0
  have hval : ∀ (j : Nat) t v, Tryz.f4.params[j]? = some t → args[j]? = some v → Value.okWide Tryz.prog W .any base t v := hval0
  have hW' := hW
  obtain ⟨p, q, hA0, hV, rfl, hfz, hnd⟩ := hW
  have hA : DataW.TrodAll enc Tryz.prog W 0 (fun _ => true) true Tryz.f4.params.toList args.toList ds p := hA0
  rw [Tryz.params4] at hA hval
  obtain ⟨v0, vs0, d0, ds0, mp0, mq0, hargs, rfl, rfl, h0, r0⟩ := trodAll_cons hA
  obtain ⟨rfl, rfl, rfl⟩ := trodAll_nil r0
  obtain rfl : args = #[v0] := by cases args; simp_all
  obtain ⟨rfl, rfl⟩ := trodVars_none hV
  obtain ⟨a0, rfl, rfl, rfl, w0⟩ := open_string Tryz.underlying9 (hval 0 9 v0 rfl rfl) h0
  clear hA0 hval0
  rw [MakeChecks.laidMetH_plain _ _ _ (by kernel_rfl)] at hL
  have hL1 : laidMet Tryz.prog Rows.fnExactReadRangeRow.laid W := hL
  unfold Rows.fnExactReadRangeRow at hL1
  have hL3 : laidMet Tryz.prog [("internal/strconv.uint64pow10", Lib.tabData .u64 Lib.pow10Tab), ("unicode/utf8.acceptRanges", Rows.laid_unicode_utf8_acceptRanges), ("unicode/utf8.first", Rows.laid_unicode_utf8_first)] W := hL1.tail.tail
  have htab : Lib.TabIs Tryz.prog W "internal/strconv.uint64pow10" .u64 Lib.pow10Tab :=
    Lib.tabIs_of_head (g := 3) (t := 266) (e := 219) (n := 20) (by kernel_rfl) (by kernel_rfl) Tryz.underlying266 Tryz.underlying219 (by kernel_rfl) (by kernel_rfl) hL3
  refine (exReadRange a0 W w0 m hm htab).mono fun e W' ⟨he, bel⟩ => ?_
  subst he
  exact ⟨_, rfl, _, _, _, [], _, [], hW', trodAll_mk1 (shut_bool Tryz.underlying4 _), (trodAll_cons_mk (shut_string Tryz.underlying9 w0) trodAll_mk0), rfl, bel.frame _, fun h => by cases h⟩

theorem over : Rows.fnExactReadRangeRow.holds Tryz.pinned (OpenSpec.ofChange Rows.fnExactReadRangeSpec) :=
  OpenClaim.holds_of_wide 4 Tryz.f4 rfl rfl rfl rfl rfl rfl rfl ⟨rfl, rfl, rfl, rfl, rfl⟩ rfl rfl rfl rfl rfl (by kernel_rfl) Tryz.func4 (by kernel_rfl)
    (of_decide_eq_true (by kernel_rfl)) (by unfold Func.isWrapper; first | (rw [if_pos (by decide +kernel)]; kernel_rfl) | (rw [if_neg (by decide +kernel)]; exact ⟨rfl, rfl⟩))
    (fun os started H enc _ => lifted os started H enc)

end Go.Proofs.YtongpnknmgbhjaaGreatDoor.fnExactReadRange

namespace Go.Proofs.YtongpnknmgbhjaaGreatDoor
theorem fnExactReadRange_proved : Rows.FnExactReadRangeCardSaid :=
  Claim7.holds_tied_plain_at .later [] [.data, .data, .data, .data, .pinned] true Rows.fnExactReadRangeCard.stood.harness true
    fnExactReadRange.over (fun _ h => by cases h) (by kernel_rfl) (fun _ h => by cases h) fnExactReadRange_row_tie rfl ⟨rfl, rfl⟩ (by kernel_rfl) rfl
    (fun f fn hf hfn => by
      obtain rfl : f = 4 := Option.some.inj ((show Tryz.prog.funcNamed Rows.fnExactReadRangeRow.func = some 4 by kernel_rfl).symm.trans hf) |>.symm
      obtain rfl : fn = Tryz.f4 := (Option.some.inj (Tryz.func4.symm.trans hfn)).symm
      exact ⟨by kernel_rfl, fun j t ht => by
        rw [Tryz.params4] at ht
        have h3 : t = 9 := by
          rcases j with _ | j
          · simpa using ht.symm
          · simp at ht
        subst h3
        exact (show Tryz.prog.wantsStandIn 9 = false by kernel_rfl)⟩)
    (by kernel_rfl)
#print axioms fnExactReadRange_proved
end Go.Proofs.YtongpnknmgbhjaaGreatDoor
