/-
  impl.splitAt returns the parts of a text between a byte.
-/
import Derived.Test.YtnodhkjgnegkcaaGreatDoorIndexA
import Derived.Test.YtnodhkjgnegkcaaGreatDoorExM
import Derived.Test.YtnodhkjgnegkcaaGreatDoorNextS
import Derived.Test.YtnodhkjgnegkcaaGreatDoorCmpM
import Derived.Lib.SplitLaws
import Derived.Shelf.Strings.OnBuilder
import Derived.Ground.NamesProg
import Derived.Test.YtnodhkjgnegkcaaGreatDoorProg
import Derived.Test.YtnodhkjgnegkcaaGreatDoorRdL
import Derived.Test.YtnodhkjgnegkcaaGreatDoorVerM
import Derived.Test.YtnodhkjgnegkcaaGreatDoorBase
import Derived.Test.YtnodhkjgnegkcaaGreatDoorRows
import Derived.Test.YtnodhkjgnegkcaaGreatDoorVerS
import Derived.Shelf.Strconv.Itoa3
import Derived.Test.YtnodhkjgnegkcaaGreatDoorDec
import Derived.Lib.AppendIntMem
import Derived.Test.YtnodhkjgnegkcaaGreatDoorTextS
import Derived.Deep.RegionHeld3
import Derived.Test.YtnodhkjgnegkcaaGreatDoorApp
import Derived.Test.YtnodhkjgnegkcaaGreatDoorHeap
import Derived.Lib.AppendZeros
import Derived.Test.YtnodhkjgnegkcaaGreatDoorRdIs
import Derived.Deep.QuietTactic
import Derived.BigQuiet
import Derived.RangeFuncNested
import Derived.RangeFuncBound
import Derived.RangeFuncCalls
import Derived.RangeFuncLeaves
import Derived.Shelf.Abstract
import Derived.Shelf.RegionOpen
import Derived.WalkKit
import Derived.OwnWalkIn
import Derived.TacticsInMore
import Derived.LoopNIn
import Derived.LoopIn
import Derived.Sort.QuietIn
import Derived.Test.YtnodhkjgnegkcaaGreatDoorStr
import Derived.Test.YtnodhkjgnegkcaaGreatDoorCut
import Derived.Shelf.Strconv.Clone
import Derived.Outline
import Derived.RangeFuncFrom
import Derived.RangeFuncBox
import Derived.Stop.RegionWithIn
/-
  What stands before the first mark of a text, and what behind it.
-/
namespace Go.Proofs.YtnodhkjgnegkcaaGreatDoor

/-- What stands before the first m, and what behind it. -/
def cutA (m : UInt8) (l : List UInt8) : List UInt8 := if 0 ≤ Lib.indexByte l m then l.take (Lib.indexByte l m).toNat else l
def cutB (m : UInt8) (l : List UInt8) : List UInt8 := if 0 ≤ Lib.indexByte l m then l.drop ((Lib.indexByte l m).toNat + 1) else []
theorem cutA_nil (m : UInt8) : cutA m [] = [] := by unfold cutA; split <;> simp
theorem cutB_nil (m : UInt8) : cutB m [] = [] := by unfold cutB; split <;> simp
theorem cutA_hit (m : UInt8) (l : List UInt8) : cutA m (m :: l) = [] := by unfold cutA; rw [idx_hit l rfl]; simp
theorem cutB_hit (m : UInt8) (l : List UInt8) : cutB m (m :: l) = l := by unfold cutB; rw [idx_hit l rfl]; simp
theorem cutA_miss {m c : UInt8} (l : List UInt8) (h : ¬ c = m) : cutA m (c :: l) = c :: cutA m l := by
  have hg := idx_ge l m
  unfold cutA
  rw [idx_miss l h]
  by_cases h1 : Lib.indexByte l m = -1
  · rw [if_pos h1, if_neg (by omega), if_neg (by omega)]
  · rw [if_neg h1, if_pos (by omega), if_pos (by omega), show (Lib.indexByte l m + 1).toNat = (Lib.indexByte l m).toNat + 1 by omega]; rfl
theorem cutB_miss {m c : UInt8} (l : List UInt8) (h : ¬ c = m) : cutB m (c :: l) = cutB m l := by
  have hg := idx_ge l m
  unfold cutB
  rw [idx_miss l h]
  by_cases h1 : Lib.indexByte l m = -1
  · rw [if_pos h1, if_neg (by omega), if_neg (by omega)]
  · rw [if_neg h1, if_pos (by omega), if_pos (by omega), show (Lib.indexByte l m + 1).toNat + 1 = (Lib.indexByte l m).toNat + 1 + 1 by omega]; rfl
theorem cut_len (m : UInt8) : ∀ l : List UInt8, (cutA m l).length + (cutB m l).length ≤ l.length
  | [] => by rw [cutA_nil, cutB_nil]; simp
  | c :: l => by
    have ih := cut_len m l
    by_cases h : c = m
    · subst h; rw [cutA_hit, cutB_hit]; simp
    · rw [cutA_miss l h, cutB_miss l h]; simp; omega
theorem cutB_lt (m : UInt8) {l : List UInt8} (h : l ≠ []) : (cutB m l).length < l.length := by
  cases l with
  | nil => exact absurd rfl h
  | cons c l =>
    by_cases h : c = m
    · subst h; rw [cutB_hit]; simp
    · rw [cutB_miss l h]; have := cut_len m l; simp; omega
theorem cutB_le (m : UInt8) (l : List UInt8) : (cutB m l).length ≤ l.length := by have := cut_len m l; omega

end Go.Proofs.YtnodhkjgnegkcaaGreatDoor

/-
  Reading a range in plain words: one alternative, the alternatives of a text.
-/
namespace Go.Proofs.YtnodhkjgnegkcaaGreatDoor
open Go.RowKit

/-- A byte that may stand in a version's text. -/
def vch (c : UInt8) : Bool := preB c || c == 46
theorem vch_pre {c : UInt8} (h : preB c = true) : vch c = true := by unfold vch; rw [h]; rfl
theorem decDig_all (u : Nat) : (Lib.decDigits u).all isDig = true := by
  have dg : ∀ k : Nat, k < 10 → isDig (UInt8.ofNat (48 + k)) = true := by decide
  induction u using Nat.strongRecOn with
  | ind u ih =>
    rw [Lib.decDigits]
    split
    · rename_i h
      have h1 : ([UInt8.ofNat (48 + u)] : List UInt8).all isDig = (isDig (UInt8.ofNat (48 + u)) && true) := rfl
      rw [h1, dg u h]; rfl
    · rename_i h
      have h1 : ([UInt8.ofNat (48 + u % 10)] : List UInt8).all isDig = (isDig (UInt8.ofNat (48 + u % 10)) && true) := rfl
      rw [List.all_append, ih (u / 10) (by omega), h1, dg (u % 10) (by omega)]; rfl
theorem dec_dig {n : Int} (h0 : 0 ≤ n) : (dec n).all isDig = true := by
  unfold dec Lib.itoa; rw [if_neg (by omega)]; exact decDig_all _
theorem dec_vch {n : Int} (h0 : 0 ≤ n) : ∀ x ∈ dec n, vch x = true := by
  intro x hx
  have h : (dec n).all isDig = true := dec_dig h0
  exact vch_pre (dig_pre (List.all_eq_true.1 h x hx))
theorem preText_vch : ∀ {ls : List (List UInt8)}, ls.all preOk = true → ∀ x ∈ preText ls, vch x = true
  | [], _, x, hx => by simp [preText] at hx
  | l :: ls, h, x, hx => by
    have hall : ∀ y ∈ l :: ls, ∀ z ∈ y, vch z = true := fun y hy z hz => by
      have := List.all_eq_true.1 h y hy
      unfold preOk at this
      simp at this
      exact vch_pre (this.1.1 z hz)
    simp only [preText, List.mem_append, List.mem_cons, List.mem_flatMap] at hx
    rcases hx with (rfl | hx) | ⟨y, hy, rfl | hx⟩
    · decide
    · exact hall l (by simp) x hx
    · decide
    · exact hall y (by simp [hy]) x hx
theorem verText_vch {a b c : Int} {ls : List (List UInt8)} : ∀ x ∈ verText a b c ls, vch x = true := by
  intro x hx
  unfold verText at hx
  split at hx
  · rename_i h
    obtain ⟨ha, hb, hc, _⟩ := verOk_num h
    have hp : ls.all preOk = true := by unfold verOk at h; simp at h; simpa using h.1
    unfold verTextOf at hx
    simp only [List.mem_append, List.mem_singleton] at hx
    rcases hx with ((((hx | rfl) | hx) | rfl) | hx) | hx
    · exact dec_vch ha.1 x hx
    · decide
    · exact dec_vch hb.1 x hx
    · decide
    · exact dec_vch hc.1 x hx
    · exact preText_vch hp x hx
  · cases hx
/-- A version's text bears no other bytes. -/
theorem readOk_vch {l : List UInt8} (h : readOk l = true) : ∀ x ∈ l, vch x = true := by
  intro x hx
  rw [← read_back h] at hx
  exact verText_vch x hx
theorem readOk_none {l : List UInt8} (h : readOk l = true) {c : UInt8} (hc : vch c = false) : c ∉ l := fun hm => by
  have := readOk_vch h c hm; rw [hc] at this; cases this
theorem readOk_nil : readOk [] = false := by decide

theorem cutL_count (m : UInt8) : ∀ l : List UInt8, (cutL m l).length = l.count m + 1
  | [] => by simp [cutL]
  | c :: l => by
    have ih := cutL_count m l
    rw [cutL_cons]
    split
    · rename_i h; subst h; simp [ih]
    · rename_i h
      rw [List.count_cons_of_ne (by simpa using h), ← ih]
      cases hx : cutL m l with
      | nil => exact absurd hx (cutL_ne m l)
      | cons y ys => simp [attach]
theorem headL_count (l : List UInt8) : (headL l).count 46 ≤ l.count 46 := by
  unfold headL
  split
  · exact (List.take_sublist _ _).count_le 46
  · exact Nat.le_refl _
theorem readOk_points {l : List UInt8} (h : readOk l = true) : (headL l).count 46 = 2 := by
  obtain ⟨p0, p1, p2, hp, _⟩ := readOk_form h
  have := cutL_count 46 (headL l)
  unfold partsL at hp
  rw [hp] at this
  simp at this
  omega
/-- A text of less than two points is no version. -/
theorem few_no {l : List UInt8} (h : l.count 46 < 2) : readOk l = false := by
  cases hr : readOk l with
  | false => rfl
  | true => have := readOk_points hr; have := headL_count l; omega
theorem few_noEx {l : List UInt8} (h : l.count 46 < 2) : exOk l = false := exOk_bad (few_no h)
/-- What is put behind a partial version. -/
def zrs (n : Nat) : List UInt8 := if n = 0 then [46, 48, 46, 48] else [46, 48]
theorem zrs_dash (n : Nat) : (45 : UInt8) ∉ zrs n := by unfold zrs; split <;> decide
theorem idx_app_no {c : UInt8} {z : List UInt8} (hz : c ∉ z) : ∀ l : List UInt8, 0 ≤ Lib.indexByte (l ++ z) c → 0 ≤ Lib.indexByte l c
  | [], h => by
    exfalso
    rw [List.nil_append] at h
    have hs := idx_split c z h
    exact hz (by rw [hs]; simp)
  | b :: l, h => by
    by_cases hb : b = c
    · rw [idx_hit l hb]; omega
    · rw [List.cons_append, idx_miss _ hb] at h
      rw [idx_miss _ hb]
      by_cases h1 : Lib.indexByte (l ++ z) c = -1
      · rw [if_pos h1] at h; omega
      · have hg := idx_ge (l ++ z) c
        have := idx_app_no hz l (by omega)
        rw [if_neg (by omega)]; omega
/-- A partial version has no identifiers, with its zeros behind. -/
theorem few_pre {l : List UInt8} (h : l.count 46 < 2) : readP (l ++ zrs (l.count 46)) = [] := by
  cases hr : readOk (l ++ zrs (l.count 46)) with
  | false => simp [readP, hr]
  | true =>
    have hp : readP (l ++ zrs (l.count 46)) = tailL (l ++ zrs (l.count 46)) := by simp [readP, hr]
    rw [hp]
    by_cases hd : 0 ≤ dash (l ++ zrs (l.count 46))
    · exfalso
      have hl : 0 ≤ dash l := idx_app_no (zrs_dash _) l hd
      have he : dash (l ++ zrs (l.count 46)) = dash l := idx_app 45 _ l hl
      have hlt : dash l < l.length := idx_lt l 45
      have h2 := readOk_points hr
      rw [headL_yes hd, he, List.take_append_of_le_length (by omega)] at h2
      have := (List.take_sublist (dash l).toNat l).count_le 46
      omega
    · exact tailL_no hd

/-- The text of the next version of a part, Pre 0. -/
def rsd (a b c p : Int) : List UInt8 := verText (nxt a b c [] p).1 (nxt a b c [] p).2.1 (nxt a b c [] p).2.2 [[48]]
theorem rsd_le (a b c p : Int) : (rsd a b c p).length ≤ 200 := verText_le
theorem z48all : (([[48]] : List (List UInt8)).all preOk) = true := by rw [List.all_cons, z48ok]; rfl
theorem ver_z (a b c : Int) : verOk a b c [[48]] = verOk a b c [] := by
  have e1 := verOk_fin (a := a) (b := b) (c := c) z48all
  have e2 := verOk_fin (a := a) (b := b) (c := c) (ls := []) rfl
  rw [e1, e2]
  simp
theorem rsd_empty (a b c p : Int) : (rsd a b c p).isEmpty = !(verOk (nxt a b c [] p).1 (nxt a b c [] p).2.1 (nxt a b c [] p).2.2 []) := by
  unfold rsd; rw [verText_empty, ver_z]
/-- The next of a version without identifiers, told whole. -/
theorem next_step {a b c : Int} (h : verOk a b c [] = true) {p : Int} (hp : inI p 0 2 = true) : (verOk (nxt a b c [] p).1 (nxt a b c [] p).2.1 (nxt a b c [] p).2.2 [] = true → nextN a b c [] p = nxt a b c [] p ∧ cmpVer (nxt a b c [] p).1 (nxt a b c [] p).2.1 (nxt a b c [] p).2.2 [] a b c [] ≠ 0) ∧
    (verOk (nxt a b c [] p).1 (nxt a b c [] p).2.1 (nxt a b c [] p).2.2 [] = false → nextN a b c [] p = (a, b, c)) ∧ nextL a b c [] p = [] := by
  have hn : nextOk a b c [] p = verOk (nxt a b c [] p).1 (nxt a b c [] p).2.1 (nxt a b c [] p).2.2 [] := nextOk_of h hp rfl
  refine ⟨fun hy => ⟨(next_good (by rw [hn]; exact hy)).1, ?_⟩, fun hy => (next_same (by rw [hn]; exact hy)).1, ?_⟩
  · obtain ⟨ha, hb, hc, _⟩ := verOk_num h
    have g : ∀ x y : Int, x ≠ y → cmpI x y ≠ 0 := fun x y hxy => by unfold cmpI; split <;> (try split) <;> omega
    rcases inI_ways hp with rfl | rfl | rfl
    · have e : nxt a b c [] 0 = (a + 1, 0, 0) := rfl
      rw [e]; simp only; unfold cmpVer
      rw [orI_ne _ (g _ _ (by omega))]; exact g _ _ (by omega)
    · have e : nxt a b c [] 1 = (a, b + 1, 0) := rfl
      rw [e]; simp only; unfold cmpVer
      rw [cmpI_same, orI_zero, orI_ne _ (g _ _ (by omega))]; exact g _ _ (by omega)
    · have e : nxt a b c [] 2 = (a, b, c + 1) := rfl
      rw [e]; simp only; unfold cmpVer
      rw [cmpI_same, orI_zero, cmpI_same, orI_zero, orI_ne _ (g _ _ (by omega))]; exact g _ _ (by omega)
  · unfold nextL; split <;> rfl
theorem read_num {l : List UInt8} (h : readOk l = true) : verOk (readA l 0) (readA l 1) (readA l 2) [] = true := by
  have hv := read_ver h
  obtain ⟨ha, hb, hc, _⟩ := verOk_num hv
  rw [verOk_fin rfl]
  unfold numOk
  simp
  omega

def fromOk (l : List UInt8) (p : Int) : Bool := readOk l && !(rsd (readA l 0) (readA l 1) (readA l 2) p).isEmpty
def fromB (l : List UInt8) (p : Int) : Bd := (l, rsd (readA l 0) (readA l 1) (readA l 2) p)
theorem fromOk_bad {l : List UInt8} {p : Int} (h : readOk l = false) : fromOk l p = false := by unfold fromOk; rw [h]; rfl
theorem fromOk_of {l : List UInt8} {p : Int} (h : readOk l = true) : fromOk l p = !(rsd (readA l 0) (readA l 1) (readA l 2) p).isEmpty := by unfold fromOk; rw [h]; rfl
/-- The part that a ^ lets grow no further. -/
def crt (l : List UInt8) : Int := if 0 < readA l 0 then 0 else if 0 < readA l 1 then 1 else 2
def geP (l : List UInt8) : Bool := [62, 61].isPrefixOf l
def ltP (l : List UInt8) : Bool := [60].isPrefixOf l
def lmOk (l : List UInt8) : Bool := if 0 ≤ Lib.indexByte l 32 then geP (cutA 32 l) && readOk ((cutA 32 l).drop 2) && (ltP (cutB 32 l) && readOk ((cutB 32 l).drop 1)) else geP l && readOk (l.drop 2) || ltP l && readOk (l.drop 1)
def lmB (l : List UInt8) : Bd := if 0 ≤ Lib.indexByte l 32 then ((cutA 32 l).drop 2, (cutB 32 l).drop 1) else if geP l && readOk (l.drop 2) then (l.drop 2, []) else ([], l.drop 1)
/-- One alternative: whether it is one, and its bound. -/
def altOk (l : List UInt8) : Bool :=
  if l = [42] then true else if l.head? = some 94 then fromOk (l.drop 1) (crt (l.drop 1)) else if l.head? = some 126 then fromOk (l.drop 1) 1
  else if l.head? = some 62 ∨ l.head? = some 60 then lmOk l else if l.count 46 < 2 then fromOk (l ++ zrs (l.count 46)) (l.count 46) else exOk l
def altB (l : List UInt8) : Bd :=
  if l = [42] then ([], []) else if l.head? = some 94 then fromB (l.drop 1) (crt (l.drop 1)) else if l.head? = some 126 then fromB (l.drop 1) 1
  else if l.head? = some 62 ∨ l.head? = some 60 then lmB l else if l.count 46 < 2 then fromB (l ++ zrs (l.count 46)) (l.count 46) else (l, exHigh l)
def orSep : List UInt8 := [32, 124, 124, 32]
def rgPs (l : List UInt8) : List (List UInt8) := Lib.split l orSep
/-- Whether a text is a range, and its bounds. -/
def rgOk (l : List UInt8) : Bool := decide (l.length ≤ 200) && (decide ((rgPs l).length ≤ 8) && (rgPs l).all altOk)
def rgB (l : List UInt8) : List Bd := if rgOk l = true then (rgPs l).map altB else []
theorem rgB_len (l : List UInt8) : (rgB l).length ≤ 8 := by
  unfold rgB
  split
  · rename_i h; unfold rgOk at h; simp at h; simpa using h.2.1
  · simp

/-- What a reader of one alternative hands back. -/
def AltIs (w : World) (ok : Bool) (b : Bd) (e : Ending) (w' : World) : Prop := ∃ x y : ByteArray, e = .returned (.tuple #[.agg #[.string x, .string y], .bool ok]) ∧ (ok = true → x = ⟨b.1.toArray⟩ ∧ y = ⟨b.2.toArray⟩) ∧ Below w.heap.size w w'

theorem split_none {s sep : List UInt8} (h : Lib.index s sep = -1) : Lib.split s sep = [s] := by
  unfold Lib.split; rw [Lib.count_miss h]; rfl
theorem split_hit {s sep : List UInt8} {i : Nat} (hne : sep ≠ []) (h : Lib.index s sep = i) : Lib.split s sep = s.take i :: Lib.split (s.drop (i + sep.length)) sep := by
  unfold Lib.split
  rw [Lib.count_hit hne h, Nat.add_comm 1]
  have hm : ¬ (Lib.index s sep == -1) = true := fun e => by have := beq_iff_eq.1 e; omega
  rw [Lib.splitK, if_neg hm, h]
  simp
theorem rgPs_ne (l : List UInt8) : rgPs l ≠ [] := by
  unfold rgPs
  rcases Lib.index_spec l orSep with ⟨h, _⟩ | ⟨i, h, _⟩
  · rw [split_none h]; simp
  · rw [split_hit (by decide) h]; simp
end Go.Proofs.YtnodhkjgnegkcaaGreatDoor

/-
  strings.Join and what it calls, as the library lays it, at this seat.
-/
namespace Go.Proofs
open Go.Shelf
def Tryz.laysJoin_ren : Go.Shelf.Ren := ⟨fun | 156 => 84 | 165 => 127 | 166 => 128 | 169 => 129 | 240 => 178 | 241 => 179 | 276 => 225 | 277 => 226 | n => n, fun | 31 => 29 | 9 => 9 | 3 => 3 | 4 => 4 | 0 => 0 | 20 => 20 | 72 => 154 | 76 => 157 | 70 => 152 | 37 => 145 | 75 => 156 | 127 => 205 | 164 => 240 | 5 => 5 | 80 => 159 | n => n, fun | n => n⟩
theorem Tryz.laysJoin : Go.Proofs.Lays.n156 Tryz.prog Tryz.laysJoin_ren := {
  mixed := by kernel_rfl
  f156 := Tryz.func84.trans (congrArg some (by kernel_rfl))
  f165 := Tryz.func127.trans (congrArg some (by kernel_rfl))
  f166 := Tryz.func128.trans (congrArg some (by kernel_rfl))
  f169 := Tryz.func129.trans (congrArg some (by kernel_rfl))
  f240 := Tryz.func178.trans (congrArg some (by kernel_rfl))
  f241 := Tryz.func179.trans (congrArg some (by kernel_rfl))
  f276 := Tryz.func225.trans (congrArg some (by kernel_rfl))
  f277 := Tryz.func226.trans (congrArg some (by kernel_rfl))
  t0 := Tryz.underlying0
  a0 := Tryz.isAgg0
  z0 := Tryz.sizeOf0
  v0 := Tryz.zeroValue0
  t3 := Tryz.underlying3
  a3 := Tryz.isAgg3
  z3 := Tryz.sizeOf3
  v3 := Tryz.zeroValue3
  t4 := Tryz.underlying4
  a4 := Tryz.isAgg4
  z4 := Tryz.sizeOf4
  v4 := Tryz.zeroValue4
  t9 := Tryz.underlying9
  a9 := Tryz.isAgg9
  z9 := Tryz.sizeOf9
  v9 := Tryz.zeroValue9
  t20 := Tryz.underlying20
  a20 := Tryz.isAgg20
  z20 := Tryz.sizeOf20
  v20 := Tryz.zeroValue20
  t31 := Tryz.underlying29
  a31 := Tryz.isAgg29
  z31 := Tryz.sizeOf29
  v31 := Tryz.zeroValue29
  t37 := Tryz.underlying145
  a37 := Tryz.isAgg145
  z37 := Tryz.sizeOf145
  v37 := Tryz.zeroValue145
  t70 := Tryz.underlying152
  a70 := Tryz.isAgg152
  z70 := Tryz.sizeOf152
  v70 := Tryz.zeroValue152
  t72 := Tryz.underlying154
  a72 := Tryz.isAgg154
  z72 := Tryz.sizeOf154
  v72 := Tryz.zeroValue154
  t75 := Tryz.underlying156
  a75 := Tryz.isAgg156
  z75 := Tryz.sizeOf156
  v75 := Tryz.zeroValue156
  t76 := Tryz.underlying157
  a76 := Tryz.isAgg157
  z76 := Tryz.sizeOf157
  v76 := Tryz.zeroValue157
  t127 := Tryz.underlying205
  a127 := Tryz.isAgg205
  z127 := Tryz.sizeOf205
  v127 := Tryz.zeroValue205
  t164 := Tryz.underlying240
  a164 := Tryz.isAgg240
  z164 := Tryz.sizeOf240
  v164 := Tryz.zeroValue240 }
end Go.Proofs

/-
  strings.Join of a list of texts at a dot.
-/
namespace Go.Proofs
open Go.Shelf
theorem Tryz.extraJoin : Builder.Extra Tryz.prog Tryz.laysJoin_ren where
  sizeBuilder := by kernel_rfl
  liesBuilder := by kernel_rfl
  t5 := Tryz.underlying5
  a5 := Tryz.isAgg5
  z5 := Tryz.sizeOf5
  v5 := Tryz.zeroValue5
  infoByte := by kernel_rfl
  cellsByte := by kernel_rfl
  sizeByte := by kernel_rfl
  neB5 := by decide
namespace YtnodhkjgnegkcaaGreatDoor
open Go.RowKit

theorem inter_flat (x : List UInt8) : ∀ xs : List (List UInt8), Lib.join (x :: xs) [46] = x ++ xs.flatMap (fun y => 46 :: y)
  | [] => by simp [Lib.join, List.intercalate]
  | y :: ys => by
    have := inter_flat y ys
    unfold Lib.join at this ⊢
    simp [List.intercalate] at this ⊢
    rw [this]
theorem join_pre {ls : List (List UInt8)} (h : ls ≠ []) : preText ls = 45 :: Lib.join ls [46] := by
  cases ls with
  | nil => exact absurd rfl h
  | cons x xs => rw [inter_flat]; rfl
theorem flat_len (ls : List (List UInt8)) (h : ∀ l ∈ ls, l.length ≤ 20) : (ls.flatMap (fun y => (46 : UInt8) :: y)).length ≤ 21 * ls.length := by
  induction ls with
  | nil => simp
  | cons x xs ih =>
    have := ih (fun l hl => h l (by simp [hl]))
    have := h x (by simp)
    simp only [List.flatMap_cons, List.length_append, List.length_cons]
    omega
theorem join_len {ls : List (List UInt8)} (h : ∀ l ∈ ls, l.length ≤ 20) (h5 : ls.length ≤ 5) : (Lib.join ls [46]).length ≤ 200 := by
  cases ls with
  | nil => simp [Lib.join_nil]
  | cons x xs =>
    rw [inter_flat]
    have := flat_len xs (fun l hl => h l (by simp [hl]))
    have := h x (by simp)
    simp at h5
    rw [List.length_append]
    omega

theorem joinDot_any (w : World) (base g cap : Nat) (ls : List (List UInt8)) (h : Strs w base (.slice (some ⟨g, 0, none⟩) ls.length cap) ls) (h20 : ∀ l ∈ ls, l.length ≤ 20) (h5 : ls.length ≤ 5) :
    Calls Tryz.prog 84 #[.slice (some ⟨g, 0, none⟩) ls.length cap, .string ⟨#[46]⟩] w fun e w' => e = .returned (.string ⟨(Lib.join ls [46]).toArray⟩) ∧ Below w.heap.size w w' := by
  obtain ⟨hlen, hr⟩ := h
  have hS : Strs w base (.slice (some ⟨g, 0, none⟩) ls.length cap) ls := ⟨hlen, hr⟩
  have hcap : ls.length ≤ cap := by
    rcases hr with ⟨hv, _⟩ | ⟨g', cap', cur, hv, _, _, hc, _⟩
    · cases hv
    · simp only [Value.slice.injEq] at hv; omega
  have hg : g < w.heap.size := by
    rcases hS.form with ⟨h', _⟩ | ⟨g', cap', h', _, hg'⟩
    · cases h'
    · simp only [Value.slice.injEq, Option.some.injEq, Addr.mk.injEq, and_true] at h'
      rw [h'.1]; exact hg'
  have hm : (ls.map (fun l => (⟨l.toArray⟩ : ByteArray))).map (fun x => x.data.toList) = ls := by rw [List.map_map]; exact List.map_id'' (fun l => rfl) ls
  have hJ := Any.strings_Join Tryz.laysJoin Tryz.extraJoin g 0 cap (ls.map (fun l => (⟨l.toArray⟩ : ByteArray))) ⟨#[46]⟩ w (fun j x hx => by
      rw [List.getElem?_map] at hx
      cases hj : ls[j]? with
      | none => rw [hj] at hx; simp at hx
      | some y =>
        rw [hj] at hx
        simp at hx
        subst hx
        obtain ⟨hl, rfl⟩ := List.getElem?_eq_some_iff.1 hj
        rw [Nat.zero_add]
        exact hS.cell j hl) hg (by simp; omega) (by simpa using hcap) (by rw [hm]; have := join_len h20 h5; show (Lib.join ls [46]).length ≤ _; omega)
  rw [hm] at hJ
  have e : (ls.map (fun l => (⟨l.toArray⟩ : ByteArray))).length = ls.length := by simp
  rw [e] at hJ
  exact hJ
end YtnodhkjgnegkcaaGreatDoor
end Go.Proofs

/-
  impl.isLower, impl.isDigit: what kind a byte is.
-/
namespace Go.Proofs.YtnodhkjgnegkcaaGreatDoor
open Go.RowKit

def lowI (z : Int) : Bool := decide (97 ≤ z ∧ z ≤ 122)
def digI (z : Int) : Bool := decide (48 ≤ z ∧ z ≤ 57)
set_option maxRecDepth 100000 in
theorem isLower_any (z : Int) (w : World) (h0 : 0 ≤ z) (h1 : z < 256) : Calls Tryz.prog 251 #[.int .u8 z] w fun e w' => e = .returned (.bool (lowI z)) ∧ w = w' := by
  rcases (show (97 ≤ z ∧ z ≤ 122) ∨ z < 97 ∨ 122 < z from by omega) with ⟨a, b⟩ | a | a
  · have H : Hid (lowI z = true) := Lib.hid (by unfold lowI; simp; omega)
    go_enter Tryz.func251, Tryz.ntmps251
    go_wp2
    go_ret
    exact ⟨ret_bool H.out.symm, rfl⟩
  all_goals
    have H : Hid (lowI z = false) := Lib.hid (by unfold lowI; simp; omega)
    go_enter Tryz.func251, Tryz.ntmps251
    go_wp2
    go_ret
    exact ⟨ret_bool (by first | exact H.out.symm | (rw [H.out]; simp; omega)), rfl⟩
set_option maxRecDepth 100000 in
theorem isDigit_any (z : Int) (w : World) (h0 : 0 ≤ z) (h1 : z < 256) : Calls Tryz.prog 252 #[.int .u8 z] w fun e w' => e = .returned (.bool (digI z)) ∧ w = w' := by
  rcases (show (48 ≤ z ∧ z ≤ 57) ∨ z < 48 ∨ 57 < z from by omega) with ⟨a, b⟩ | a | a
  · have H : Hid (digI z = true) := Lib.hid (by unfold digI; simp; omega)
    go_enter Tryz.func252, Tryz.ntmps252
    go_wp2
    go_ret
    exact ⟨ret_bool H.out.symm, rfl⟩
  all_goals
    have H : Hid (digI z = false) := Lib.hid (by unfold digI; simp; omega)
    go_enter Tryz.func252, Tryz.ntmps252
    go_wp2
    go_ret
    exact ⟨ret_bool (by first | exact H.out.symm | (rw [H.out]; simp; omega)), rfl⟩
end Go.Proofs.YtnodhkjgnegkcaaGreatDoor

/-
  impl.isUpper: whether a byte is a great letter.
-/
namespace Go.Proofs.YtnodhkjgnegkcaaGreatDoor
open Go.RowKit

def uppI (z : Int) : Bool := decide (65 ≤ z ∧ z ≤ 90)
set_option maxRecDepth 100000 in
theorem isUpper_any (z : Int) (w : World) (h0 : 0 ≤ z) (h1 : z < 256) : Calls Tryz.prog 347 #[.int .u8 z] w fun e w' => e = .returned (.bool (uppI z)) ∧ w = w' := by
  rcases (show (65 ≤ z ∧ z ≤ 90) ∨ z < 65 ∨ 90 < z from by omega) with ⟨a, b⟩ | a | a
  · have H : Hid (uppI z = true) := Lib.hid (by unfold uppI; simp; omega)
    go_enter Tryz.func347, Tryz.ntmps347
    go_wp2
    go_ret
    exact ⟨ret_bool H.out.symm, rfl⟩
  all_goals
    have H : Hid (uppI z = false) := Lib.hid (by unfold uppI; simp; omega)
    go_enter Tryz.func347, Tryz.ntmps347
    go_wp2
    go_ret
    exact ⟨ret_bool (by first | exact H.out.symm | (rw [H.out]; simp; omega)), rfl⟩
end Go.Proofs.YtnodhkjgnegkcaaGreatDoor

/-
  impl's identifiers: what identifierOf hands back, and whether it is right.
-/
namespace Go.Proofs.YtnodhkjgnegkcaaGreatDoor
open Go.RowKit

/-- What identifierOf hands back for a text. -/
def identV (s : ByteArray) : Value := if 0 ≤ readL s.data.toList then .iface 284 (.int .i64 (readL s.data.toList)) else .iface 285 (.string s)
theorem identV_num {s : ByteArray} (h : 0 ≤ readL s.data.toList) : identV s = .iface 284 (.int .i64 (readL s.data.toList)) := if_pos h
theorem identV_text {s : ByteArray} (h : ¬ 0 ≤ readL s.data.toList) : identV s = .iface 285 (.string s) := if_neg h

set_option maxRecDepth 100000 in
set_option maxHeartbeats 1000000 in
theorem identifierOf_any (s : ByteArray) (w : World) (hs : s.size ≤ 1048576) :
    Calls Tryz.prog 279 #[.string s] w fun e w' => e = .returned (identV s) ∧ w = w' := by
  by_cases hr : 0 ≤ readL s.data.toList
  · have HV := Lib.hid (identV_num hr)
    go_enter Tryz.func279, Tryz.ntmps279
    go_wp2_with fail
    refine (implReadDec_any s _ hs).mono ?_
    generalize readL s.data.toList = m at HV hr ⊢
    rintro e w' ⟨rfl, rfl⟩
    go_wp2_with fail
    go_ret
    exact ⟨congrArg Ending.returned HV.out.symm, rfl⟩
  · have HV := Lib.hid (identV_text hr)
    go_enter Tryz.func279, Tryz.ntmps279
    go_wp2_with fail
    refine (implReadDec_any s _ hs).mono ?_
    generalize readL s.data.toList = m at hr ⊢
    rintro e w' ⟨rfl, rfl⟩
    go_wp2_with fail
    go_ret
    exact ⟨congrArg Ending.returned HV.out.symm, rfl⟩

theorem preText_ways (z : Int) : (lowI z = true ∧ uppI z = false ∧ digI z = false) ∨ (lowI z = false ∧ uppI z = true ∧ digI z = false) ∨ (lowI z = false ∧ uppI z = false ∧ digI z = true) ∨ (lowI z = false ∧ uppI z = false ∧ digI z = false ∧ (z != 45) = false) ∨ (lowI z = false ∧ uppI z = false ∧ digI z = false ∧ (z != 45) = true) := by
  unfold lowI uppI digI; simp; omega
theorem preI_yes {z : Int} (h : lowI z = true ∨ uppI z = true ∨ digI z = true ∨ (z != 45) = false) : preI z = true := by
  unfold lowI uppI digI at h; unfold preI; simp at h ⊢; omega
theorem preI_no {z : Int} (h : lowI z = false ∧ uppI z = false ∧ digI z = false ∧ (z != 45) = true) : preI z = false := by
  unfold lowI uppI digI at h; unfold preI; simp at h ⊢; omega
theorem digI_isDig (c : UInt8) : digI (c.toNat : Int) = isDig c := rfl
theorem all_snoc (s : ByteArray) (k : Nat) (p : UInt8 → Bool) (h : k < s.size) : (s.data.toList.take (k + 1)).all p = ((s.data.toList.take k).all p && p s[k]) := by
  rw [take_snoc s k h, List.all_append]; simp

def textOk (l : List UInt8) : Bool := l.all preB && (decide (1 ≤ l.length) && decide (l.length ≤ 20)) && !(l.all isDig)
theorem preOk_textOk {l : List UInt8} (h : ¬ 0 ≤ readL l) : preOk l = textOk l := preOk_text h
set_option maxRecDepth 100000 in
set_option maxHeartbeats 2000000 in
theorem textValid_any (s : ByteArray) (w : World) (hs : s.size ≤ 1048576) :
    Calls Tryz.prog 345 #[.string s] w fun e w' => e = .returned (.bool (textOk s.data.toList)) ∧ w = w' := by
  have hsz : s.data.toList.length = s.size := by simp
  by_cases hl : 1 ≤ s.size ∧ s.size ≤ 20
  · obtain ⟨hl1, hl2⟩ := hl
    have h20 : decide ((20 : Int) < (s.size : Int)) = false := by simp; omega
    have HT : Hid (textOk s.data.toList = (s.data.toList.all preB && !(s.data.toList.all isDig))) := Lib.hid (by unfold textOk; rw [hsz]; simp [hl1, hl2])
    clear hsz
    go_enter Tryz.func345, Tryz.ntmps345
    go_wp2
    go_loop [3, 4, 5, 16] (fun d _ _ i => ∃ (k : Nat) (b : Bool), k ≤ s.size ∧ i = .int .i64 k ∧ d = .bool b ∧ Hid ((s.data.toList.take k).all preB = true) ∧ Hid ((s.data.toList.take k).all isDig = b)) (fun _ _ _ i => s.size - (intOf i).toNat)
    case atStart => exact ⟨0, true, Nat.zero_le _, rfl, rfl, Lib.hid (by simp), Lib.hid (by simp)⟩
    case round =>
      obtain ⟨k, b, hk, rfl, rfl, H, HD⟩ := hrel
      by_cases hlt : k < s.size
      · have c1 := (byte_lt s[k]).1
        have c2 := (byte_lt s[k]).2
        have HS := Lib.hid (all_snoc s k isDig hlt)
        have HDI := Lib.hid (digI_isDig s[k])
        rcases preText_ways (s[k].toNat : Int) with ⟨z, y, x⟩ | ⟨z, y, x⟩ | ⟨z, y, x⟩ | ⟨z, y, x, u⟩ | ⟨z, y, x, u⟩
        case inr.inr.inr.inr =>
          have HX : Hid (textOk s.data.toList = false) := Lib.hid (by rw [HT.out, Bool.eq_false_iff.2 (all_false s k preB hlt (preI_no ⟨z, y, x, u⟩))]; rfl)
          have HZ := Lib.hid z
          have HY := Lib.hid y
          have HW := Lib.hid x
          clear z y x
          go_wp2_with (first | (go_at_call 251; refine (isLower_any _ _ c2 c1).mono ?_; rw [HZ.out]; rintro e w' ⟨rfl, rfl⟩) | (go_at_call 347; refine (isUpper_any _ _ c2 c1).mono ?_; rw [HY.out]; rintro e w' ⟨rfl, rfl⟩) | (go_at_call 252; refine (isDigit_any _ _ c2 c1).mono ?_; rw [HW.out]; rintro e w' ⟨rfl, rfl⟩))
          go_ret
          exact ⟨ret_bool HX.out.symm, rfl⟩
        all_goals
          have HP : Hid ((s.data.toList.take (k + 1)).all preB = true) := Lib.hid (all_next s k preB hlt H.out (preI_yes (by first | exact .inl z | exact .inr (.inl y) | exact .inr (.inr (.inl x)) | exact .inr (.inr (.inr u)))))
          have HZ := Lib.hid z
          have HY := Lib.hid y
          have HW := Lib.hid x
          clear z y x
          cases b
          all_goals
            go_wp2_with (first | (go_at_call 251; refine (isLower_any _ _ c2 c1).mono ?_; rw [HZ.out]; rintro e w' ⟨rfl, rfl⟩) | (go_at_call 347; refine (isUpper_any _ _ c2 c1).mono ?_; rw [HY.out]; rintro e w' ⟨rfl, rfl⟩) | (go_at_call 252; refine (isDigit_any _ _ c2 c1).mono ?_; rw [HW.out]; rintro e w' ⟨rfl, rfl⟩))
            go_round
            case rel => exact ⟨k + 1, _, by omega, by go_num, rfl, HP, Lib.hid (by rw [HS.out, HD.out, ← HDI.out, HW.out]; rfl)⟩
            case measure => simp [intOf]; omega
      · have H2 := H.out
        have H3 := HD.out
        rw [take_end s k hlt] at H2 H3
        have HX : Hid (textOk s.data.toList = !b) := Lib.hid (by rw [HT.out, H2, H3]; rfl)
        clear H HD H2 H3
        go_wp2
        go_ret
        exact ⟨ret_bool HX.out.symm, rfl⟩
  · have HX : Hid (textOk s.data.toList = false) := Lib.hid (by unfold textOk; rw [hsz]; simp; omega)
    rw [HX.out]
    clear hsz HX
    by_cases h1 : s.size < 1
    · go_enter Tryz.func345, Tryz.ntmps345
      go_wp2
      go_ret
      exact ⟨rfl, rfl⟩
    · have h20 : 20 < s.size := by omega
      have h1' : decide ((s.size : Int) < 1) = false := by simp; omega
      clear hl
      go_enter Tryz.func345, Tryz.ntmps345
      go_wp2
      go_ret
      exact ⟨rfl, rfl⟩

set_option maxRecDepth 100000 in
theorem numValid_any (z : Int) (w : World) : Calls Tryz.prog 341 #[.int .i64 z] w fun e w' => e = .returned (.bool true) ∧ w = w' := by
  go_enter Tryz.func341, Tryz.ntmps341
  go_wp2
  go_ret
  exact ⟨rfl, rfl⟩

theorem meth_validN (z : Int) (w : World) : (method 428 284 (.int .i64 z) "loop.example/g00445/impl.valid").run Tryz.prog w = .ok (341, .int .i64 z) w := by kernel_rfl
theorem meth_validT (s : ByteArray) (w : World) : (method 428 285 (.string s) "loop.example/g00445/impl.valid").run Tryz.prog w = .ok (345, .string s) w := by kernel_rfl
end Go.Proofs.YtnodhkjgnegkcaaGreatDoor

/-
  impl.VersionOk: whether a version is right.
-/
namespace Go.Proofs.YtnodhkjgnegkcaaGreatDoor
open Go.RowKit

set_option maxRecDepth 100000 in
theorem numberOk_any (n : Int) (w : World) : Calls Tryz.prog 278 #[.int .i64 n] w fun e w' => e = .returned (.bool (numOk n)) ∧ w = w' := by
  by_cases h1 : 0 ≤ n
  · by_cases h2 : n ≤ 999999999
    · have H : Hid (numOk n = true) := Lib.hid (by unfold numOk; simp; omega)
      go_enter Tryz.func278, Tryz.ntmps278
      go_wp2
      go_ret
      exact ⟨ret_bool H.out.symm, rfl⟩
    · have H : Hid (numOk n = false) := Lib.hid (by unfold numOk; simp; omega)
      have d1 : decide (n ≤ 999999999) = false := by simpa using h2
      go_enter Tryz.func278, Tryz.ntmps278
      go_wp2
      go_ret
      exact ⟨ret_bool (by first | exact H.out.symm | (rw [H.out]; simp; omega)), rfl⟩
  · have H : Hid (numOk n = false) := Lib.hid (by unfold numOk; simp; omega)
    have d1 : decide (0 ≤ n) = false := by simpa using h1
    go_enter Tryz.func278, Tryz.ntmps278
    go_wp2
    go_ret
    exact ⟨ret_bool (by first | exact H.out.symm | (rw [H.out]; simp; omega)), rfl⟩

theorem sm_size {ls : List (List UInt8)} (h : ∀ l ∈ ls, l.length ≤ 1048576) (k : Nat) (hk : k < ls.length) : (⟨ls[k].toArray⟩ : ByteArray).size ≤ 1048576 := by
  have := h ls[k] (List.getElem_mem hk)
  show ls[k].toArray.size ≤ _
  simpa using this

set_option maxRecDepth 100000 in
set_option maxHeartbeats 2000000 in
theorem implVersionOk_any (a b c : Int) (v : Value) (ls : List (List UInt8)) (w : World) (hr : RdS w v ls) (hs : Sm ls) :
    Calls Tryz.prog 247 #[.agg #[.int .i64 a, .int .i64 b, .int .i64 c, v]] w fun e w' => e = .returned (.bool (verOk a b c ls)) ∧ Below w.heap.size w w' := by
  obtain ⟨A, cap, rfl, hc⟩ := hr
  have hls := hs.1
  have HS := Lib.hid hs.2
  clear hs
  obtain ⟨x, HX⟩ : ∃ x, Hid (numOk a = x) := ⟨_, Lib.hid rfl⟩
  obtain ⟨y, HY⟩ : ∃ x, Hid (numOk b = x) := ⟨_, Lib.hid rfl⟩
  obtain ⟨z, HZ⟩ : ∃ x, Hid (numOk c = x) := ⟨_, Lib.hid rfl⟩
  have HF : Hid (verOk a b c ls = (ls.all preOk && (x && y && z && decide (ls.length ≤ 5)))) := Lib.hid (by unfold verOk; rw [HX.out, HY.out, HZ.out])
  cases x
  · have HG : Hid (verOk a b c ls = false) := Lib.hid (by rw [HF.out]; simp)
    go_enter Tryz.func247, Tryz.ntmps247
    go_wp2_with (go_at_call 278; refine (numberOk_any _ _).mono ?_; (first | rw [HX.out]); rintro e w' ⟨rfl, rfl⟩)
    go_ret
    exact ⟨ret_bool HG.out.symm, (Below.refl _ _).alloc (Nat.le_refl _) _⟩
  cases y
  · have HG : Hid (verOk a b c ls = false) := Lib.hid (by rw [HF.out]; simp)
    go_enter Tryz.func247, Tryz.ntmps247
    go_wp2_with (go_at_call 278; refine (numberOk_any _ _).mono ?_; (first | rw [HX.out] | rw [HY.out]); rintro e w' ⟨rfl, rfl⟩)
    go_ret
    exact ⟨ret_bool HG.out.symm, (Below.refl _ _).alloc (Nat.le_refl _) _⟩
  cases z
  · have HG : Hid (verOk a b c ls = false) := Lib.hid (by rw [HF.out]; simp)
    go_enter Tryz.func247, Tryz.ntmps247
    go_wp2_with (go_at_call 278; refine (numberOk_any _ _).mono ?_; (first | rw [HX.out] | rw [HY.out] | rw [HZ.out]); rintro e w' ⟨rfl, rfl⟩)
    go_ret
    exact ⟨ret_bool HG.out.symm, (Below.refl _ _).alloc (Nat.le_refl _) _⟩
  by_cases h5 : ls.length ≤ 5
  · have HG : Hid (verOk a b c ls = ls.all preOk) := Lib.hid (by rw [HF.out]; simp [h5])
    have d5 : decide ((5 : Int) < (ls.length : Int)) = false := by simp; omega
    clear HF
    go_enter Tryz.func247, Tryz.ntmps247
    go_wp2_with (go_at_call 278; refine (numberOk_any _ _).mono ?_; (first | rw [HX.out] | rw [HY.out] | rw [HZ.out]); rintro e w' ⟨rfl, rfl⟩)
    go_loop [4, 30] (fun _ i => ∃ k : Nat, k ≤ ls.length ∧ i = .int .i64 k ∧ Hid ((ls.take k).all preOk = true)) (fun _ i => ls.length - (intOf i).toNat)
    case atStart => exact ⟨0, Nat.zero_le _, rfl, Lib.hid (by simp)⟩
    case round =>
      obtain ⟨k, hk, rfl, H⟩ := hrel
      by_cases hlt : k < ls.length
      · obtain ⟨g, off, rfl, hg, hca⟩ := hc (by omega)
        have d1 : w.cell? ⟨g, off + k, none⟩ = some (.string ⟨ls[k].toArray⟩) := hca k hlt
        have k0 : (0 : Int) ≤ (k : Int) := by omega
        have k1 : (k : Int) < (ls.length : Int) := by omega
        have hbs := sm_size HS.out k hlt
        have HP := Lib.hid (fun W => identifierOf_any ⟨ls[k].toArray⟩ W hbs)
        clear hc hca
        by_cases hn : 0 ≤ readL ls[k]
        · have HN := Lib.hid (all_take ls preOk k hlt H.out (preOk_num hn))
          have HV := Lib.hid (identV_num (s := ⟨ls[k].toArray⟩) hn)
          go_wp2_with fail
          refine (HP.out _).mono ?_
          rw [HV.out]
          rintro e w' ⟨rfl, rfl⟩
          have hm := meth_validN (readL ls[k])
          go_wp2_with fail
          refine (numValid_any _ _).mono ?_
          rintro e w' ⟨rfl, rfl⟩
          go_wp2_with fail
          go_round
          case rel => exact ⟨k + 1, by omega, by go_num, HN⟩
          case measure => simp [intOf]; omega
        · have HV := Lib.hid (identV_text (s := ⟨ls[k].toArray⟩) hn)
          have HT := Lib.hid (preOk_textOk hn)
          have hm := meth_validT ⟨ls[k].toArray⟩
          by_cases hp : preOk ls[k] = true
          · have HN := Lib.hid (all_take ls preOk k hlt H.out hp)
            have HQ : Hid (textOk (⟨ls[k].toArray⟩ : ByteArray).data.toList = true) := Lib.hid (HT.out.symm.trans hp)
            clear hp hn
            go_wp2_with fail
            refine (HP.out _).mono ?_
            rw [HV.out]
            rintro e w' ⟨rfl, rfl⟩
            go_wp2_with fail
            refine (textValid_any _ _ hbs).mono ?_
            rw [HQ.out]
            rintro e w' ⟨rfl, rfl⟩
            go_wp2_with fail
            go_round
            case rel => exact ⟨k + 1, by omega, by go_num, HN⟩
            case measure => simp [intOf]; omega
          · have HN : Hid (verOk a b c ls = false) := Lib.hid (by rw [HG.out]; exact Bool.eq_false_iff.2 (all_not ls preOk k hlt (by simpa using hp)))
            have HQ : Hid (textOk (⟨ls[k].toArray⟩ : ByteArray).data.toList = false) := Lib.hid (HT.out.symm.trans (by simpa using hp))
            clear hp hn
            go_wp2_with fail
            refine (HP.out _).mono ?_
            rw [HV.out]
            rintro e w' ⟨rfl, rfl⟩
            go_wp2_with fail
            refine (textValid_any _ _ hbs).mono ?_
            rw [HQ.out]
            rintro e w' ⟨rfl, rfl⟩
            go_wp2_with fail
            go_ret
            exact ⟨ret_bool HN.out.symm, (Below.refl _ _).alloc (Nat.le_refl _) _⟩
      · have H2 := H.out
        rw [List.take_of_length_le (by omega)] at H2
        have HN : Hid (verOk a b c ls = true) := Lib.hid (by rw [HG.out]; exact H2)
        clear H H2 hc
        go_wp2_with fail
        go_ret
        exact ⟨ret_bool HN.out.symm, (Below.refl _ _).alloc (Nat.le_refl _) _⟩
  · have HG : Hid (verOk a b c ls = false) := Lib.hid (by rw [HF.out]; simp; omega)
    have d5 : (5 : Int) < (ls.length : Int) := by omega
    clear HF
    go_enter Tryz.func247, Tryz.ntmps247
    go_wp2_with (go_at_call 278; refine (numberOk_any _ _).mono ?_; (first | rw [HX.out] | rw [HY.out] | rw [HZ.out]); rintro e w' ⟨rfl, rfl⟩)
    go_ret
    exact ⟨ret_bool HG.out.symm, (Below.refl _ _).alloc (Nat.le_refl _) _⟩
end Go.Proofs.YtnodhkjgnegkcaaGreatDoor

/-
  strconv.Itoa and what it calls, as the library lays it, at this seat.
-/
namespace Go.Proofs
open Go.Shelf
def Tryz.laysItoa_ren : Go.Shelf.Ren := ⟨fun | 171 => 297 | 243 => 308 | 246 => 311 | 283 => 312 | 284 => 313 | 285 => 314 | 286 => 315 | 129 => 176 | 317 => 316 | 318 => 317 | 319 => 318 | 320 => 319 | 337 => 320 | 338 => 321 | n => n, fun | 3 => 3 | 9 => 9 | 2 => 2 | 4 => 4 | 171 => 299 | 0 => 0 | 53 => 204 | 37 => 145 | 5 => 5 | 173 => 301 | 212 => 304 | 51 => 202 | 20 => 20 | 213 => 305 | 46 => 148 | 232 => 306 | 233 => 307 | n => n, fun | 17 => 3 | 18 => 4 | 19 => 5 | n => n⟩
theorem Tryz.laysItoa : Go.Proofs.LaysM.n171 Tryz.prog Tryz.laysItoa_ren := {
  mixed := by kernel_rfl
  f129 := Tryz.func176.trans (congrArg some (by kernel_rfl))
  f171 := Tryz.func297.trans (congrArg some (by kernel_rfl))
  f243 := Tryz.func308.trans (congrArg some (by kernel_rfl))
  f246 := Tryz.func311.trans (congrArg some (by kernel_rfl))
  f283 := Tryz.func312.trans (congrArg some (by kernel_rfl))
  f284 := Tryz.func313.trans (congrArg some (by kernel_rfl))
  f285 := Tryz.func314.trans (congrArg some (by kernel_rfl))
  f286 := Tryz.func315.trans (congrArg some (by kernel_rfl))
  f317 := Tryz.func316.trans (congrArg some (by kernel_rfl))
  f318 := Tryz.func317.trans (congrArg some (by kernel_rfl))
  f319 := Tryz.func318.trans (congrArg some (by kernel_rfl))
  f320 := Tryz.func319.trans (congrArg some (by kernel_rfl))
  f337 := Tryz.func320.trans (congrArg some (by kernel_rfl))
  f338 := Tryz.func321.trans (congrArg some (by kernel_rfl))
  t0 := Tryz.underlying0
  a0 := Tryz.isAgg0
  z0 := Tryz.sizeOf0
  v0 := Tryz.zeroValue0
  t2 := Tryz.underlying2
  a2 := Tryz.isAgg2
  z2 := Tryz.sizeOf2
  v2 := Tryz.zeroValue2
  t3 := Tryz.underlying3
  a3 := Tryz.isAgg3
  z3 := Tryz.sizeOf3
  v3 := Tryz.zeroValue3
  t4 := Tryz.underlying4
  a4 := Tryz.isAgg4
  z4 := Tryz.sizeOf4
  v4 := Tryz.zeroValue4
  t5 := Tryz.underlying5
  a5 := Tryz.isAgg5
  z5 := Tryz.sizeOf5
  v5 := Tryz.zeroValue5
  t9 := Tryz.underlying9
  a9 := Tryz.isAgg9
  z9 := Tryz.sizeOf9
  v9 := Tryz.zeroValue9
  t20 := Tryz.underlying20
  a20 := Tryz.isAgg20
  z20 := Tryz.sizeOf20
  v20 := Tryz.zeroValue20
  t37 := Tryz.underlying145
  a37 := Tryz.isAgg145
  z37 := Tryz.sizeOf145
  v37 := Tryz.zeroValue145
  t46 := Tryz.underlying148
  a46 := Tryz.isAgg148
  z46 := Tryz.sizeOf148
  v46 := Tryz.zeroValue148
  t51 := Tryz.underlying202
  a51 := Tryz.isAgg202
  z51 := Tryz.sizeOf202
  v51 := Tryz.zeroValue202
  t53 := Tryz.underlying204
  a53 := Tryz.isAgg204
  z53 := Tryz.sizeOf204
  v53 := Tryz.zeroValue204
  t171 := Tryz.underlying299
  a171 := Tryz.isAgg299
  z171 := Tryz.sizeOf299
  v171 := Tryz.zeroValue299
  t173 := Tryz.underlying301
  a173 := Tryz.isAgg301
  z173 := Tryz.sizeOf301
  v173 := Tryz.zeroValue301
  t212 := Tryz.underlying304
  a212 := Tryz.isAgg304
  z212 := Tryz.sizeOf304
  v212 := Tryz.zeroValue304
  t213 := Tryz.underlying305
  a213 := Tryz.isAgg305
  z213 := Tryz.sizeOf305
  t232 := Tryz.underlying306
  a232 := Tryz.isAgg306
  z232 := Tryz.sizeOf306
  v232 := Tryz.zeroValue306
  t233 := Tryz.underlying307
  a233 := Tryz.isAgg307
  z233 := Tryz.sizeOf307
  v233 := Tryz.zeroValue307
  g17 := by kernel_rfl
  g18 := by kernel_rfl
  g19 := by kernel_rfl
  i0 := by kernel_rfl
  i2 := by kernel_rfl
  i3 := by kernel_rfl
  i4 := by kernel_rfl
  i5 := by kernel_rfl
  i9 := by kernel_rfl
  i20 := by kernel_rfl
  i37 := by kernel_rfl
  i46 := by kernel_rfl
  i51 := by kernel_rfl
  i53 := by kernel_rfl
  i171 := by kernel_rfl
  i173 := by kernel_rfl
  i212 := by kernel_rfl
  i232 := by kernel_rfl
  i233 := by kernel_rfl
  m17 := by kernel_rfl
  m18 := by kernel_rfl
  m19 := by kernel_rfl }
end Go.Proofs

/-
  impl.DecText returns the decimal text of every int, where the table of powers lies as the library lays it.
-/
namespace Go.Proofs.YtnodhkjgnegkcaaGreatDoor
open Go.RowKit

theorem itoa_any (n : Int) (h0 : -9223372036854775808 ≤ n) (h1 : n ≤ 9223372036854775807) (w : World) (htab : Lib.TabIs Tryz.prog w "internal/strconv.uint64pow10" .u64 Lib.pow10Tab) :
    Calls Tryz.prog 297 #[.int .i64 n] w fun e w' => e = .returned (.string ⟨(Lib.itoa n).toArray⟩) ∧ Below w.heap.size w w' := by
  refine (Any.strconv_Itoa Tryz.laysItoa n h0 h1 w htab).mono ?_
  rintro e w' ⟨rfl, k, os, rfl⟩
  exact ⟨rfl, Lib.below_grow _ w (Nat.le_refl _) k os⟩
theorem implDecText_any (n : Int) (h0 : -9223372036854775808 ≤ n) (h1 : n ≤ 9223372036854775807) (w : World) (htab : Lib.TabIs Tryz.prog w "internal/strconv.uint64pow10" .u64 Lib.pow10Tab) :
    Calls Tryz.prog 284 #[.int .i64 n] w fun e w' => e = .returned (.string ⟨(Lib.itoa n).toArray⟩) ∧ Below w.heap.size w w' := by
  go_enter Tryz.func284, Tryz.ntmps284
  go_wp2_with fail
  refine (itoa_any n h0 h1 w htab).mono ?_
  rintro e w1 ⟨rfl, hb⟩
  go_wp2_with fail
  go_ret
  exact ⟨rfl, hb⟩
end Go.Proofs.YtnodhkjgnegkcaaGreatDoor

/-
  impl.VersionText: the text of a version.
-/
namespace Go.Proofs.YtnodhkjgnegkcaaGreatDoor
open Go.RowKit

/-- The table of powers lies as the library lays it. -/
abbrev Tab (w : World) : Prop := Lib.TabIs Tryz.prog w "internal/strconv.uint64pow10" .u64 Lib.pow10Tab
theorem tab_below {w w' : World} (h : Tab w) (hb : Below w.heap.size w w') : Tab w' := by
  unfold Tab Lib.TabIs World.var? at h ⊢
  have hg : Tryz.prog.globalNamed "internal/strconv.uint64pow10" = some 3 := by kernel_rfl
  simp only [hg, Option.bind_some] at h ⊢
  have hlt : 3 < w.heap.size := by
    rcases Nat.lt_or_ge 3 w.heap.size with h' | h'
    · exact h'
    · rw [Array.getElem?_eq_none h'] at h; simp at h
  rw [hb.block _ hlt]
  exact h
/-- Three cells and the table, in a later world. -/
theorem keepT {W V : World} {A : Nat} {v0 v1 v2 : Value} (hb : Below W.heap.size W V) (h : W.cell? ⟨A, 0, none⟩ = some v0 ∧ W.cell? ⟨A, 1, none⟩ = some v1 ∧ W.cell? ⟨A, 2, none⟩ = some v2 ∧ Tab W) : V.cell? ⟨A, 0, none⟩ = some v0 ∧ V.cell? ⟨A, 1, none⟩ = some v1 ∧ V.cell? ⟨A, 2, none⟩ = some v2 ∧ Tab V :=
  ⟨keepC hb h.1, keepC hb h.2.1, keepC hb h.2.2.1, tab_below h.2.2.2 hb⟩

set_option maxRecDepth 100000 in
set_option maxHeartbeats 4000000 in
theorem implVersionText_any (a b c : Int) (base : Nat) (v : Value) (ls : List (List UInt8)) (w : World) (hr : Strs w base v ls) (hs : Sm ls) (ht : Tab w) :
    Calls Tryz.prog 253 #[.agg #[.int .i64 a, .int .i64 b, .int .i64 c, v]] w fun e w' => e = .returned (.string ⟨(verText a b c ls).toArray⟩) ∧ Below w.heap.size w w' := by
  have HV := Lib.hid (fun (W : World) (h : Below w.heap.size w W) => implVersionOk_any a b c v ls W ((RdS.of_strs hr).below h) hs)
  have B1 : Below w.heap.size w (w.alloc (.cells #[.int .i64 a, .int .i64 b, .int .i64 c, v] 117)) := (Below.refl _ _).alloc (Nat.le_refl _) _
  have hA1 := heap_alloc_new w (.cells #[.int .i64 a, .int .i64 b, .int .i64 c, v] 117)
  have HSS := Lib.hid (fun (W : World) (h : Below w.heap.size w W) => hr.below h)
  have HTT := Lib.hid (fun (W : World) (h : Below w.heap.size w W) => tab_below ht h)
  obtain ⟨ok, HO⟩ : ∃ ok, Hid (verOk a b c ls = ok) := ⟨_, Lib.hid rfl⟩
  have hl := hs.1
  have hform := hr.form
  clear hr hs ht
  cases ok
  · have HT : Hid (verText a b c ls = []) := Lib.hid (by unfold verText; rw [HO.out]; rfl)
    go_enter Tryz.func253, Tryz.ntmps253
    go_wp2_with fail
    refine (HV.out _ B1).mono ?_
    rw [HO.out]
    rintro e w2 ⟨rfl, hb2⟩
    have B2 := B1.trans (hb2.mono B1.size)
    go_wp2_with fail
    go_ret
    exact ⟨ret_str HT.out.symm, B2⟩
  · obtain ⟨⟨a0, a1⟩, ⟨b0, b1⟩, ⟨c0, c1⟩, h5⟩ := verOk_num HO.out
    have HLE := Lib.hid (verOk_len HO.out)
    have la := dec_len a0 a1
    have lb := dec_len b0 b1
    have lc := dec_len c0 c1
    have HT : Hid (verText a b c ls = nums a b c ++ preText ls) := Lib.hid (by unfold verText; rw [HO.out]; rfl)
    go_enter Tryz.func253, Tryz.ntmps253
    go_wp2_with fail
    refine (HV.out _ B1).mono ?_
    rw [HO.out]
    rintro e w2 ⟨rfl, hb2⟩
    have B2 := B1.trans (hb2.mono B1.size)
    have hA2 := keepB hA1 hb2
    clear hA1 hb2 B1
    obtain ⟨p0, p1, p2, p3⟩ := cells4 hA2
    have tb : Tab w2.drew := HTT.out _ (B2.trans (below_drew _ _))
    obtain ⟨Da, HDa⟩ : ∃ D, Hid (dec a = D) := ⟨_, Lib.hid rfl⟩
    obtain ⟨Db, HDb⟩ : ∃ D, Hid (dec b = D) := ⟨_, Lib.hid rfl⟩
    obtain ⟨Dc, HDc⟩ : ∃ D, Hid (dec c = D) := ⟨_, Lib.hid rfl⟩
    rw [HDa.out] at la
    rw [HDb.out] at lb
    rw [HDc.out] at lc
    obtain ⟨N1, HN1⟩ : ∃ N, Hid (N = Da ++ [46]) := ⟨_, Lib.hid rfl⟩
    obtain ⟨N2, HN2⟩ : ∃ N, Hid (N = N1 ++ Db) := ⟨_, Lib.hid rfl⟩
    obtain ⟨N3, HN3⟩ : ∃ N, Hid (N = N2 ++ [46]) := ⟨_, Lib.hid rfl⟩
    obtain ⟨N4, HN4⟩ : ∃ N, Hid (N = N3 ++ Dc) := ⟨_, Lib.hid rfl⟩
    have l1 : N1.length ≤ 21 := by rw [HN1.out]; simp; omega
    have l2 : N2.length ≤ 41 := by rw [HN2.out]; simp; omega
    have l3 : N3.length ≤ 42 := by rw [HN3.out]; simp; omega
    have l4 : N4.length ≤ 62 := by rw [HN4.out]; simp; omega
    have HNN : Hid (nums a b c = N4) := Lib.hid (by rw [HN4.out, HN3.out, HN2.out, HN1.out]; unfold nums; rw [HDa.out, HDb.out, HDc.out])
    have s1 : ∀ W, (Op.stringOp .add ⟨Da.toArray⟩ ⟨#[46]⟩).run Tryz.prog W = .ok (.string ⟨N1.toArray⟩) W := fun W => by rw [HN1.out]; exact run_string_add_lists W Da [46] (by omega) (by simp)
    have s2 : ∀ W, (Op.stringOp .add ⟨N1.toArray⟩ ⟨Db.toArray⟩).run Tryz.prog W = .ok (.string ⟨N2.toArray⟩) W := fun W => by rw [HN2.out]; exact run_string_add_lists W N1 Db (by omega) (by omega)
    have s3 : ∀ W, (Op.stringOp .add ⟨N2.toArray⟩ ⟨#[46]⟩).run Tryz.prog W = .ok (.string ⟨N3.toArray⟩) W := fun W => by rw [HN3.out]; exact run_string_add_lists W N2 [46] (by omega) (by simp)
    have s4 : ∀ W, (Op.stringOp .add ⟨N3.toArray⟩ ⟨Dc.toArray⟩).run Tryz.prog W = .ok (.string ⟨N4.toArray⟩) W := fun W => by rw [HN4.out]; exact run_string_add_lists W N3 Dc (by omega) (by omega)
    have HDT1 := Lib.hid (fun (W : World) (ht : Tab W) => (show Calls Tryz.prog 284 #[.int .i64 a] W fun e w' => e = .returned (.string ⟨Da.toArray⟩) ∧ Below W.heap.size W w' from HDa.out ▸ implDecText_any a (by omega) (by omega) W ht))
    have HDT2 := Lib.hid (fun (W : World) (ht : Tab W) => (show Calls Tryz.prog 284 #[.int .i64 b] W fun e w' => e = .returned (.string ⟨Db.toArray⟩) ∧ Below W.heap.size W w' from HDb.out ▸ implDecText_any b (by omega) (by omega) W ht))
    have HDT3 := Lib.hid (fun (W : World) (ht : Tab W) => (show Calls Tryz.prog 284 #[.int .i64 c] W fun e w' => e = .returned (.string ⟨Dc.toArray⟩) ∧ Below W.heap.size W w' from HDc.out ▸ implDecText_any c (by omega) (by omega) W ht))
    go_wp2_with fail
    go_region_held3 (fun W' => W'.cell? ⟨w.heap.size, 0, none⟩ = some (.int .i64 a) ∧ W'.cell? ⟨w.heap.size, 1, none⟩ = some (.int .i64 b) ∧ W'.cell? ⟨w.heap.size, 2, none⟩ = some (.int .i64 c) ∧ Tab W') (first | exact ⟨p0, p1, p2, tb⟩ | assumption | exact keepT hb5 (by assumption) | exact keepT hb4 (by assumption) | exact keepT hb3 (by assumption)) ((first | (go_at_call 284; (with_reducible refine (HDT1.out _ (by exact tb)).mono ?_); rintro e w3 ⟨rfl, hb3⟩; have tb3 := tab_below tb hb3) | (go_at_call 284; (with_reducible refine (HDT2.out _ (by exact tb3)).mono ?_); rintro e w4 ⟨rfl, hb4⟩; have tb4 := tab_below tb3 hb4) | (go_at_call 284; (with_reducible refine (HDT3.out _ (by exact tb4)).mono ?_); rintro e w5 ⟨rfl, hb5⟩)))
    have hA5 := keepB (keepB (keepB (W := w2.drew) hA2 hb3) hb4) hb5
    have BD := B2.trans (below_drew w.heap.size w2)
    have B3 := BD.trans (hb3.mono BD.size)
    have B4 := B3.trans (hb4.mono B3.size)
    have B5 := B4.trans (hb5.mono B4.size)
    clear hA2 p0 p1 p2 p3 hb3 hb4 hb5 BD B3 B4 tb tb3 tb4 s1 s2 s3 s4 B2
    obtain ⟨p0, p1, p2, p3⟩ := cells4 hA5
    rcases hform with ⟨rfl, rfl⟩ | ⟨g, cap, rfl, hgb, hgl⟩
    · have HE : Hid (verText a b c [] = N4) := Lib.hid (by rw [HT.out, HNN.out]; simp [preText])
      go_wp2_with fail
      go_ret
      exact ⟨ret_str HE.out.symm, B5⟩
    · by_cases h0 : ls = []
      · have HE : Hid (verText a b c ls = N4) := Lib.hid (by rw [HT.out, HNN.out, h0]; simp [preText])
        have z0 : ¬ (0 : Int) < (ls.length : Int) := by rw [h0]; simp
        clear h0
        go_wp2_with fail
        go_ret
        exact ⟨ret_str HE.out.symm, B5⟩
      · have hpos : (0 : Int) < (ls.length : Int) := by have : 0 < ls.length := by cases ls <;> simp_all
                                                        omega
        have HE : Hid (verText a b c ls = N4 ++ (45 :: Lib.join ls [46])) := Lib.hid (by rw [HT.out, HNN.out, join_pre h0])
        have hjl := join_len HLE.out h5
        clear h0
        obtain ⟨J, HJ⟩ : ∃ J, Hid (Lib.join ls [46] = J) := ⟨_, Lib.hid rfl⟩
        rw [HJ.out] at hjl
        go_wp2_with fail
        refine (joinDot_any w5 base g cap ls (HSS.out _ B5) HLE.out h5).mono ?_
        rw [HJ.out]
        rintro e w6 ⟨rfl, hb6⟩
        have B6 := B5.trans (hb6.mono B5.size)
        go_wp2_with fail
        go_ret
        refine ⟨?_, B6⟩
        rw [HE.out, HJ.out]
        exact congrArg Ending.returned (congrArg Value.string (bytes_ext (by simp)))
end Go.Proofs.YtnodhkjgnegkcaaGreatDoor

/-
  impl.raised at the third number.
-/
namespace Go.Proofs.YtnodhkjgnegkcaaGreatDoor
open Go.RowKit

theorem strs_z (W : World) (n : Nat) (hn : W.heap.size = n) (x : List UInt8) : Strs (W.alloc (.cells #[.string ⟨x.toArray⟩] 9)) n (.slice (some ⟨n, 0, none⟩) 1 1) [x] := by
  subst hn
  have h := World.ownsRow_lit (base := W.heap.size) (e := 9) (size := 1) W #[.string ⟨x.toArray⟩] 1 (Nat.le_refl _) (by unfold maxLen; omega) (by simp)
  simpa [Strs, sv] using h
theorem sm_zz : Sm [[48]] := ⟨by simp, fun l h => by simp at h; subst h; simp⟩

theorem below_three (w : World) (o1 o2 o3 : Obj) : Below w.heap.size w (((w.alloc o1).alloc o2).alloc o3) := (((Below.refl _ _).alloc (Nat.le_refl _) _).alloc (by simp) _).alloc (by simp; omega) _
theorem clear_none (W : World) (A : Addr) : (Builtin.clear_ #[87] 0 #[.slice (some A) 0 0]).run Tryz.prog W = .ok (.tuple #[]) W := by
  simp [Builtin.clear_, run_underlying Tryz.underlying87]

set_option maxRecDepth 100000 in
set_option maxHeartbeats 4000000 in
theorem raised_any (a b c : Int) (A : Option Addr) (n cap : Nat) (w : World) (ht : Tab w) (hc : 0 ≤ c ∧ c ≤ 999999999) :
    Calls Tryz.prog 239 #[.agg #[.int .i64 a, .int .i64 b, .int .i64 c, .slice A n cap], .int .i64 2] w fun e w' => e = .returned (.string ⟨(verText a b (c + 1) [[48]]).toArray⟩) ∧ Below w.heap.size w w' := by
  have HT := Lib.hid (fun (v : Value) (q : Nat) (W : World) (h : Strs W q v [[48]]) (hb : Below w.heap.size w W) => implVersionText_any a b (c + 1) q v [[48]] W h sm_zz (tab_below ht hb))
  obtain ⟨t, HTT⟩ : ∃ t, Hid (verText a b (c + 1) [[48]] = t) := ⟨_, Lib.hid rfl⟩
  simp only [HTT.out] at HT
  rw [HTT.out]
  clear ht
  have cw : IntKind.i64.wrap (c + 1) = c + 1 := IntWalk.i64_in _ (by omega)
  have hcl := clear_none
  go_enter Tryz.func239, Tryz.ntmps239
  go_wp2_with fail
  refine (HT.out _ (w.heap.size + 1 + 1) _ (strs_z _ _ (by simp) [48]) (below_three _ _ _ _)).mono ?_
  rintro e w5 ⟨rfl, hb5⟩
  go_wp2_with fail
  go_ret
  exact ⟨rfl, (below_three _ _ _ _).trans (hb5.mono (by simp; omega))⟩
end Go.Proofs.YtnodhkjgnegkcaaGreatDoor

/-
  slices.Concat of two rows of texts.
-/
namespace Go.Proofs.YtnodhkjgnegkcaaGreatDoor
open Go.RowKit

set_option maxRecDepth 100000 in
set_option maxHeartbeats 4000000 in
theorem growNil_any (n : Nat) (w : World) (h0 : 0 < n) (hn : n ≤ 4194304) :
    Calls Tryz.prog 109 #[.slice none 0 0, .int .i64 (n : Int)] w fun e w' => ∃ v, e = .returned v ∧ Strs w' w.heap.size v [] ∧ Below w.heap.size w w' := by
  obtain ⟨i0, hi, hz0, hz1, hz2⟩ := info_parts strinfo
  have hr := fun ty => Lib.run_append_nil_zeros (P := Tryz.prog) w 29 3 ty 9 i0 (.string ⟨#[]⟩) .i64 .i64 Tryz.underlying29 Tryz.underlying3 hi hz0 n h0 (by omega) (by omega) (by rw [hz2]; omega)
  have hge := grownCap_ge w n 0 9
  have hle := grownCap_le_maxLen w n 0 9 (by unfold maxLen; omega)
  obtain ⟨G, hG⟩ : ∃ G, grownCap w n 0 9 = G := ⟨_, rfl⟩
  rw [hG] at hge hle
  simp only [hG] at hr
  have hsz : (Builtin.zeroCells (Value.string ⟨#[]⟩).cells n ++ Builtin.zeroCells (Value.string ⟨#[]⟩).cells (G - n)).size = G * 1 := by
    rw [Array.size_append, size_zeroCells, size_zeroCells]
    simp [Value.cells]
    omega
  obtain ⟨C, hC⟩ : ∃ C, Builtin.zeroCells (Value.string ⟨#[]⟩).cells n ++ Builtin.zeroCells (Value.string ⟨#[]⟩).cells (G - n) = C := ⟨_, rfl⟩
  rw [hC] at hsz
  simp only [hC] at hr
  have HO : Hid (Strs (w.drew.alloc (.cells C 9)) w.heap.size (.slice (some ⟨w.heap.size, 0, none⟩) 0 G) []) := Lib.hid (by
    have := World.ownsRow_made (base := w.heap.size) (e := 9) (size := 1) w.drew C G (by simp) hle hsz
    simpa [Strs] using this)
  have HB : Hid (Below w.heap.size w (w.drew.alloc (.cells C 9))) := Lib.hid ((below_drewN _ _ 1).alloc (by simp) _)
  clear hC hsz hG hi hz0 hz1 hz2
  have hm : G ≤ 9223372036854775807 := by unfold maxLen at hle; omega
  have g1 : ¬ ((n : Int) < 0) := by omega
  have g2 : (0 : Int) < (n : Int) := by omega
  have g3 : IntKind.i64.wrap ((n : Int) - 0) = n := by rw [Int.sub_zero]; exact IntWalk.i64_in _ (by omega)
  go_enter Tryz.func109, Tryz.ntmps109
  go_wp2_with (at_builtin; refine Lib.wpList_append_run _ rfl _ _ _ _ rfl _ _ rfl rfl _ _ (hr _) ?_)
  all_goals (go_ret; exact ⟨_, rfl, HO.out, HB.out⟩)

set_option maxRecDepth 100000 in
set_option maxHeartbeats 4000000 in
theorem concat2_any (q : Nat) (v1 v2 : Value) (l1 l2 : List (List UInt8)) (w : World) (e0 : w.cell? ⟨q, 0, none⟩ = some v1) (e1 : w.cell? ⟨q, 1, none⟩ = some v2) (h1 : RdS w v1 l1) (h2 : RdS w v2 l2) (n1 : l1.length ≤ 1048576) (n2 : l2.length ≤ 1048576) (n0 : 0 < l1.length + l2.length) :
    Calls Tryz.prog 56 #[.slice (some ⟨q, 0, none⟩) 2 2] w fun e w' => ∃ v, e = .returned v ∧ Strs w' w.heap.size v (l1 ++ l2) ∧ Below w.heap.size w w' := by
  have H1 := Lib.hid h1
  have H2 := Lib.hid h2
  have HG := Lib.hid (growNil_any (l1.length + l2.length) w n0 (by omega))
  simp only [Int.natCast_add] at HG
  obtain ⟨A1, c1, rfl, _⟩ := h1
  obtain ⟨A2, c2, rfl, _⟩ := h2
  have w1 : IntKind.i64.wrap (0 + (l1.length : Int)) = l1.length := by rw [Int.zero_add]; exact IntWalk.i64_in _ (by omega)
  have w2 : IntKind.i64.wrap ((l1.length : Int) + (l2.length : Int)) = (l1.length : Int) + (l2.length : Int) := IntWalk.i64_in _ (by omega)
  have s1 : ¬ ((l1.length : Int) < 0) := by omega
  have s2 : ¬ ((l1.length : Int) + (l2.length : Int) < 0) := by omega
  go_enter Tryz.func56, Tryz.ntmps56
  go_wp2_with fail
  go_loopw [3, 5, 11] (fun s _ i wr => w = wr ∧ ((i = .int .i64 0 ∧ s = .int .i64 0) ∨ (i = .int .i64 1 ∧ s = .int .i64 l1.length) ∨ (i = .int .i64 2 ∧ s = .int .i64 ((l1.length : Int) + (l2.length : Int))))) (fun _ _ i _ => 2 - (intOf i).toNat)
  case atStart => exact ⟨rfl, .inl ⟨rfl, rfl⟩⟩
  case round =>
    obtain ⟨rfl, ⟨rfl, rfl⟩ | ⟨rfl, rfl⟩ | ⟨rfl, rfl⟩⟩ := hrel
    · go_wp2_with fail
      go_roundw
      case rel => exact ⟨trivial, .inr (.inl ⟨rfl, rfl⟩)⟩
      case measure => simp [intOf]
    · go_wp2_with fail
      go_roundw
      case rel => exact ⟨trivial, .inr (.inr ⟨rfl, rfl⟩)⟩
      case measure => simp [intOf]
    · go_wp2_with fail
      refine HG.out.mono ?_
      rintro e w3 ⟨v, rfl, hS, hb⟩
      go_wp2_with fail
      go_loopw [6, 8, 27] (fun v _ i W => Below w.heap.size w W ∧ ((i = .int .i64 0 ∧ Strs W w.heap.size v []) ∨ (i = .int .i64 1 ∧ Strs W w.heap.size v l1) ∨ (i = .int .i64 2 ∧ Strs W w.heap.size v (l1 ++ l2)))) (fun _ _ i _ => 2 - (intOf i).toNat)
      case atStart => exact ⟨hb, .inl ⟨rfl, hS⟩⟩
      case round =>
        obtain ⟨hbw, hor⟩ := hrel
        have hsz := hbw.size
        have d0 := keepC hbw e0
        have d1 := keepC hbw e1
        have r1 := H1.out.below hbw
        have r2 := H2.out.below hbw
        obtain ⟨rfl, hT⟩ | ⟨rfl, hT⟩ | ⟨rfl, hT⟩ := hor
        · go_wp2_with (at_builtin; refine wpList_append_texts rfl _ _ rfl w.heap.size _ [] rfl hT _ l1 rfl r1 (by simp; omega) hsz ?_; intro v' w5 hS5 hg5)
          have B5 := hbw.grown hg5 hsz (fun g h => hT.owned g h)
          go_roundw
          case rel => exact ⟨B5, .inr (.inl ⟨rfl, hS5⟩)⟩
          case measure => simp [intOf]
        · go_wp2_with (at_builtin; refine wpList_append_texts rfl _ _ rfl w.heap.size _ l1 rfl hT _ l2 rfl r2 (by omega) hsz ?_; intro v' w5 hS5 hg5)
          have B5 := hbw.grown hg5 hsz (fun g h => hT.owned g h)
          go_roundw
          case rel => exact ⟨B5, .inr (.inr ⟨rfl, hS5⟩)⟩
          case measure => simp [intOf]
        · go_wp2_with fail
          go_ret
          exact ⟨_, rfl, hT, hbw⟩
end Go.Proofs.YtnodhkjgnegkcaaGreatDoor

/-
  impl.above: the version below which one is alone.
-/
namespace Go.Proofs.YtnodhkjgnegkcaaGreatDoor
open Go.RowKit

theorem set_grown (w : World) (g k : Nat) (x : Value) : w.grownBy (w.setCell ⟨g, k, none⟩ x) (some g) := ⟨rfl, rfl, rfl, by simp, fun j _ hj => heap_setCell_other w ⟨g, k, none⟩ j x (fun e => hj (by simp [e]))⟩
theorem two_cells {V : World} {B : Nat} {T : TypeId} {v0 v1 : Value} (h : V.heap[B]? = some (.cells #[v0, v1] T)) : V.cell? ⟨B, 0, none⟩ = some v0 ∧ V.cell? ⟨B, 1, none⟩ = some v1 := by simp [World.cell?, h]
/-- What impl.above hands back. -/
def abvL (a b c : Int) (ls : List (List UInt8)) : List UInt8 := if ls = [] then verText a b (c + 1) [[48]] else verText a b c (ls ++ [[48]])

set_option maxRecDepth 100000 in
set_option maxHeartbeats 4000000 in
theorem above_any (a b c : Int) (v : Value) (ls : List (List UInt8)) (w : World) (hr : RdS w v ls) (hv : verOk a b c ls = true) (ht : Tab w) :
    Calls Tryz.prog 206 #[.agg #[.int .i64 a, .int .i64 b, .int .i64 c, v]] w fun e w' => e = .returned (.string ⟨(abvL a b c ls).toArray⟩) ∧ Below w.heap.size w w' := by
  have hn := verOk_num hv
  have HLE := Lib.hid (verOk_len hv)
  have HR := Lib.hid hr
  obtain ⟨A, cap, rfl, _⟩ := hr
  by_cases hz : ls = []
  · subst hz
    have HX := Lib.hid (fun (W : World) (h : Below w.heap.size w W) => raised_any a b c A 0 cap W (tab_below ht h) (by omega))
    have HT : Hid (abvL a b c [] = verText a b (c + 1) [[48]]) := Lib.hid (if_pos rfl)
    rw [HT.out]
    clear ht HR hv hn HLE
    go_enter Tryz.func206, Tryz.ntmps206
    go_wp2_with fail
    refine (HX.out _ ((Below.refl _ _).alloc (Nat.le_refl _) _)).mono ?_
    rintro e w5 ⟨rfl, hb5⟩
    go_wp2_with fail
    go_ret
    exact ⟨rfl, ((Below.refl _ _).alloc (Nat.le_refl _) _).trans (hb5.mono (by simp))⟩
  · have HT : Hid (abvL a b c ls = verText a b c (ls ++ [[48]])) := Lib.hid (if_neg hz)
    rw [HT.out]
    have hpos : 0 < ls.length := List.length_pos_iff.2 hz
    have HV := Lib.hid (fun (u : Value) (q : Nat) (W : World) (h : Strs W q u (ls ++ [[48]])) (hb : Below w.heap.size w W) => implVersionText_any a b c q u (ls ++ [[48]]) W h ⟨by simp; omega, fun x hx => by
      rcases List.mem_append.1 hx with h' | h'
      · have := HLE.out x h'; omega
      · simp at h'; subst h'; simp⟩ (tab_below ht hb))
    obtain ⟨t, HTT⟩ : ∃ t, Hid (verText a b c (ls ++ [[48]]) = t) := ⟨_, Lib.hid rfl⟩
    simp only [HTT.out] at HV
    rw [HTT.out]
    have nz : ((ls.length : Int) == 0) = false := int_beq_false (by omega)
    have B3 := below_three w (.cells #[.int .i64 a, .int .i64 b, .int .i64 c, .slice A ls.length cap] 117) (.cells #[.string ⟨#[48]⟩] 9) (.cells #[.slice A ls.length cap, .slice (some ⟨w.heap.size + 1, 0, none⟩) 1 1] 29)
    have HC := Lib.hid (fun (W : World) (hb : Below w.heap.size w W) (v2 : Value) (e0 : W.cell? ⟨w.heap.size + 1 + 1, 0, none⟩ = some (.slice A ls.length cap)) (e1 : W.cell? ⟨w.heap.size + 1 + 1, 1, none⟩ = some v2) (h2 : RdS W v2 [[48]]) => concat2_any (w.heap.size + 1 + 1) _ v2 ls [[48]] W e0 e1 (HR.out.below hb) h2 (by omega) (by simp) (by simp))
    have hne : ls ++ [[48]] ≠ [] := by simp
    clear ht hz hv hn HLE HR HTT
    generalize ls ++ [[48]] = L at HV HC hne
    go_enter Tryz.func206, Tryz.ntmps206
    go_wp2_with fail
    refine (HC.out _ B3 (.slice (some ⟨w.heap.size + 1, 0, none⟩) 1 1) (two_cells (heap_new (by simp) _)).1 (two_cells (heap_new (by simp) _)).2 (rdS_alloc (RdS.of_strs (strs_z _ _ (by simp) [48])) _)).mono ?_
    rintro e w5 ⟨u, rfl, hS, hb5⟩
    have B5 := B3.trans (hb5.mono (by simp; omega))
    obtain ⟨g, cp, rfl, hbg, hlt⟩ : ∃ g cp, u = .slice (some ⟨g, 0, none⟩) L.length cp ∧ w.heap.size + 1 + 1 < g ∧ g < w5.heap.size := by
      rcases hS.form with ⟨_, h⟩ | ⟨g, cp, h1, h2, h3⟩
      · exact absurd h hne
      · exact ⟨g, cp, h1, by simp at h2; omega, h3⟩
    have n5 : w5.heap[w.heap.size]? = some (.cells #[.int .i64 a, .int .i64 b, .int .i64 c, .slice A ls.length cap] 117) := keepB (keepA (keepA (heap_alloc_new w _) _) _) hb5
    obtain ⟨q0, q1, q2, q3⟩ := cells4 n5
    have f3 := frozen4 n5 3
    have hs5 : w.heap.size < w5.heap.size := lt_of_heap n5
    have HS6 : Hid (Strs (w5.setCell ⟨w.heap.size, 3, none⟩ (.slice (some ⟨g, 0, none⟩) L.length cp)) _ (.slice (some ⟨g, 0, none⟩) L.length cp) L) := Lib.hid (World.ownsRow.kept hS (set_grown w5 w.heap.size 3 _) (by right; simp [Value.ownBlock]; omega))
    have B6 := B5.setCell (p := ⟨w.heap.size, 3, none⟩) (Nat.le_refl _) (.slice (some ⟨g, 0, none⟩) L.length cp)
    clear hS hb5 B5
    go_wp2_with fail
    refine (HV.out _ _ _ HS6.out B6).mono ?_
    rintro e w7 ⟨rfl, hb7⟩
    go_wp2_with fail
    go_ret
    exact ⟨rfl, B6.trans (hb7.mono (by simp; omega))⟩
end Go.Proofs.YtnodhkjgnegkcaaGreatDoor

/-
  strings.Cut at a dash.
-/
namespace Go.Proofs.YtnodhkjgnegkcaaGreatDoor
open Go.RowKit

set_option maxRecDepth 100000 in
set_option maxHeartbeats 1000000 in
theorem sliteIndex_dash (s : ByteArray) (w : World) (_hs : s.size ≤ 1048576) :
    Calls Tryz.prog 286 #[.string s, .string ⟨#[45]⟩] w fun e w' => e = .returned (.int .i64 (dash s.data.toList)) ∧ w = w' := by
  by_cases he : s.data.toList = [45]
  · have e1 : ([45] == s.toList) = true := by rw [ByteArray.toList_eq, he]; rfl
    have HD : Hid (dash s.data.toList = 0) := Lib.hid (by rw [he]; rfl)
    clear he
    go_enter Tryz.func286, Tryz.ntmps286
    go_wp2_with fail
    go_ret
    exact ⟨ret_int HD.out.symm, rfl⟩
  · have e1 : ([45] == s.toList) = false := by rw [ByteArray.toList_eq]; simp; exact fun h => he h.symm
    clear he
    go_enter Tryz.func286, Tryz.ntmps286
    go_wp2_with fail
    refine (sliteIndexByte_any s 45 _).mono ?_
    rintro e w' ⟨rfl, rfl⟩
    rw [show Lib.indexByte s.data.toList (Int.toNat 45).toUInt8 = dash s.data.toList from rfl]
    go_wp2_with fail
    go_ret
    exact ⟨rfl, rfl⟩

set_option maxRecDepth 100000 in
set_option maxHeartbeats 1000000 in
theorem cutDash_yes (s : ByteArray) (w : World) (hs : s.size ≤ 1048576) (k : Nat) (hk : k < s.size) (hd : dash s.data.toList = (k : Int)) :
    Calls Tryz.prog 231 #[.string s, .string ⟨#[45]⟩] w fun e w' => e = .returned (.tuple #[.string ⟨(s.data.toList.take k).toArray⟩, .string ⟨(s.data.toList.drop (k + 1)).toArray⟩, .bool true]) ∧ ∃ n, w' = w.drewN n := by
  have HI := Lib.hid (sliteIndex_dash s w hs)
  have HD := Lib.hid hd
  clear hd
  have e1 := slice_to s _ k (k : Int) rfl (by omega) (piece s 0 k)
  have e2 := slice_from s _ (k + 1) ((k : Int) + 1) (by omega) (by omega) (piece_end s (k + 1))
  have hC : Calls Tryz.prog 263 #[.string s, .string ⟨#[45]⟩] w fun e w' => e = .returned (.tuple #[.string ⟨(s.data.toList.take k).toArray⟩, .string ⟨(s.data.toList.drop (k + 1)).toArray⟩, .bool true]) ∧ ∃ n, w' = w.drewN n := by
    go_enter Tryz.func263, Tryz.ntmps263
    go_wp2_with fail
    refine HI.out.mono ?_
    rw [HD.out]
    rintro e w' ⟨rfl, rfl⟩
    have x1 : IntKind.i64.wrap ((k : Int) + 1) = (k : Int) + 1 := IntWalk.i64_in _ (by omega)
    have x2 : (0 : Int) ≤ (k : Int) := by omega
    go_wp2_with fail
    go_quiet (fail)
    go_wp2_with fail
    go_ret3
    exact ⟨rfl, _, rfl⟩
  have HC := Lib.hid hC
  clear hC e1 e2 HI
  go_enter Tryz.func231, Tryz.ntmps231
  go_wp2_with fail
  refine HC.out.mono ?_
  rintro e w' ⟨rfl, n, rfl⟩
  go_wp2_with fail
  go_ret3
  exact ⟨rfl, _, rfl⟩

set_option maxRecDepth 100000 in
set_option maxHeartbeats 1000000 in
theorem cutDash_no (s : ByteArray) (w : World) (hs : s.size ≤ 1048576) (d : Int) (hn : ¬ 0 ≤ d) (hd : dash s.data.toList = d) :
    Calls Tryz.prog 231 #[.string s, .string ⟨#[45]⟩] w fun e w' => e = .returned (.tuple #[.string s, .string ⟨#[]⟩, .bool false]) ∧ w = w' := by
  have HI := Lib.hid (sliteIndex_dash s w hs)
  have HD := Lib.hid hd
  clear hd
  have hC : Calls Tryz.prog 263 #[.string s, .string ⟨#[45]⟩] w fun e w' => e = .returned (.tuple #[.string s, .string ⟨#[]⟩, .bool false]) ∧ w = w' := by
    go_enter Tryz.func263, Tryz.ntmps263
    go_wp2_with fail
    refine HI.out.mono ?_
    rw [HD.out]
    rintro e w' ⟨rfl, rfl⟩
    go_wp2_with fail
    go_ret3
    exact ⟨rfl, rfl⟩
  have HC := Lib.hid hC
  clear hC HI
  go_enter Tryz.func231, Tryz.ntmps231
  go_wp2_with fail
  refine HC.out.mono ?_
  rintro e w' ⟨rfl, rfl⟩
  go_wp2_with fail
  go_ret3
  exact ⟨rfl, rfl⟩
end Go.Proofs.YtnodhkjgnegkcaaGreatDoor

/-
  Two boxes that an iterator reads lie as they lay.
-/
namespace Go.Proofs.YtnodhkjgnegkcaaGreatDoor
open Go.RowKit Go.Shelf

/-- The two boxes that the iterator reads lie as they lay. -/
def KpB (Bs Bm : Nat) (A B : World) : Prop := B.heap[Bs]? = A.heap[Bs]? ∧ B.heap[Bm]? = A.heap[Bm]?
theorem KpB.refl (Bs Bm : Nat) (A : World) : KpB Bs Bm A A := ⟨rfl, rfl⟩
theorem kpB_t {Bs Bm : Nat} {A B C : World} (h : KpB Bs Bm A B) (k : KpB Bs Bm B C) : KpB Bs Bm A C := ⟨k.1.trans h.1, k.2.trans h.2⟩
theorem KpB.of_grown {Bs Bm : Nat} {A B : World} {row : Option Nat} (hg : A.grownBy B row) (h1 : Bs < A.heap.size) (h2 : Bm < A.heap.size) (n1 : some Bs ≠ row) (n2 : some Bm ≠ row) : KpB Bs Bm A B := ⟨hg.block Bs h1 n1, hg.block Bm h2 n2⟩
theorem KpB.of_below {Bs Bm n : Nat} {A B : World} (h : Below n A B) (h1 : Bs < n) (h2 : Bm < n) : KpB Bs Bm A B := ⟨h.block Bs h1, h.block Bm h2⟩
theorem kpB_b {Bs Bm : Nat} {w : World} (h1 : Bs < w.heap.size) (h2 : Bm < w.heap.size) (W : World) (l : Nat) (o o' : Obj) (hl : w.heap.size ≤ l) (h : W.heap[l]? = some o) (_ : o.isCells = false) (_ : o.isWalk = false) : KpB Bs Bm W (W.putObj l o') := by
  have hlt := (Array.getElem?_eq_some_iff.1 h).1
  exact KpB.of_grown (grownBy_putObj' W l o') (by omega) (by omega) (fun e => by cases e; omega) (fun e => by cases e; omega)

theorem grown_drewN (W : World) (n : Nat) : W.grownBy (W.drewN n) none := ⟨rfl, rfl, rfl, Nat.le_refl _, fun _ _ _ => rfl⟩
end Go.Proofs.YtnodhkjgnegkcaaGreatDoor

/-
  impl.partsOf hands back an iterator that yields the parts of a text between a byte.
-/
namespace Go.Proofs.YtnodhkjgnegkcaaGreatDoor
open Go.RowKit Go.Shelf
attribute [local go_sem] Oper.semAt_some

/-- A part: a text that is not too long. -/
abbrev Part := { x : List UInt8 // x.length ≤ 1048576 }
def partV (x : Part) : Array Value := #[.string ⟨x.1.toArray⟩]
set_option maxHeartbeats 1000000 in
theorem partsOf_in (n : Nat) (s : ByteArray) (m : Int) (w : World) :
    CallsIn Fence.wide n Tryz.prog 203 #[.string s, .int .u8 m] w fun e w' => e = .returned (.func (.func 250) #[] #[.pointer (some ⟨w.heap.size, 0, none⟩), .pointer (some ⟨w.heap.size + 1, 0, none⟩)]) ∧ w' = (w.alloc (.cells #[.string s] 9)).alloc (.cells #[.int .u8 m] 5) := by
  refine callsIn_of_wp Tryz.func203 rfl trivial ?_ rfl
  simp only [Tryz.ntmps203, List.size_toArray, List.length_cons, List.length_nil, Nat.reduceAdd, Nat.reduceSub, Array.replicate_succ, Array.replicate_zero, List.push_toArray, List.append_toArray, List.nil_append, List.cons_append]
  gi_wp2
  go_ret
  exact ⟨rfl, rfl⟩


set_option maxRecDepth 100000 in
set_option maxHeartbeats 2000000 in
theorem parts1_in (n : Nat) (hn : 1 ≤ n) (l Bs Bm : Nat) (s : ByteArray) (m : UInt8) (hs : s.size ≤ 1048576) (J Jx : List Part → World → Prop)
    (hY : ∀ pre x W, J pre W → pre.length < s.size + 1 → YieldAt Fence.wide (n - 1) Tryz.prog l (partV x) W fun e W' =>
      (e = .returned (.bool true) ∧ J (pre ++ [x]) W' ∧ KpB Bs Bm W W') ∨ (e = .returned (.bool false) ∧ Jx (pre ++ [x]) W'))
    (W : World) (hBs : W.heap[Bs]? = some (.cells #[.string s] 9 (0, 0))) (hBm : W.heap[Bm]? = some (.cells #[.int .u8 (m.toNat : Int)] 5 (0, 0))) (h0 : J [] W) (hJa : AbidesFrom W.heap.size J) :
    CallsIn Fence.wide n Tryz.prog 250 #[.func (.yield l) #[] #[], .pointer (some ⟨Bs, 0, none⟩), .pointer (some ⟨Bm, 0, none⟩)] W fun e W' => (∃ v, e = .returned v) ∧
      ((∃ ys, ys.map Subtype.val = cutL m s.data.toList ∧ J ys W') ∨ (∃ pre, pre.map Subtype.val <+: cutL m s.data.toList ∧ Jx pre W')) := by
  have hc1 : W.cell? ⟨Bs, 0, none⟩ = some (.string s) := by simp [World.cell?, hBs]
  refine callsIn_of_wp Tryz.func250 rfl trivial ?_ rfl
  simp only [Tryz.ntmps250, List.size_toArray, List.length_cons, List.length_nil, Nat.reduceAdd, Nat.reduceSub, Array.replicate_succ, Array.replicate_zero, List.push_toArray, List.append_toArray, List.nil_append, List.cons_append]
  gi_wp2
  gi_loopw [4, 5, 8] (fun f _ i wr => ∃ (k st : Nat) (pre : List Part), k ≤ s.size ∧ i = .int .i64 k ∧ f = .int .i64 st ∧ CutAt m s.data.toList k st (pre.map Subtype.val) ∧ wr.heap[Bs]? = some (.cells #[.string s] 9 (0, 0)) ∧ wr.heap[Bm]? = some (.cells #[.int .u8 (m.toNat : Int)] 5 (0, 0)) ∧ J pre wr) (fun _ _ i _ => s.size - (intOf i).toNat)
  case atStart => exact ⟨0, 0, [], Nat.zero_le _, rfl, rfl, cutAt_zero _ _, hBs, hBm, h0⟩
  case round =>
    obtain ⟨k, st, pre, hk, rfl, rfl, HP, g1, g2, hJ⟩ := hrel
    have hst := HP.2.1
    have hdl := HP.2.2
    have d1 : wr.cell? ⟨Bs, 0, none⟩ = some (.string s) := by simp [World.cell?, g1]
    have d2 : wr.cell? ⟨Bm, 0, none⟩ = some (.int .u8 (m.toNat : Int)) := by simp [World.cell?, g2]
    by_cases hlt : k < s.size
    · have k0 : (0 : Int) ≤ (k : Int) := by omega
      have k1 : (k : Int) < (s.size : Int) := by omega
      gi_wp2
      gi_quiet (fail)
      have hJ2 : J pre (wr.drewN nq) := hJa pre wr _ none hJ (grown_drewN wr nq) (fun r e => by cases e)
      have g1' : (wr.drewN nq).heap[Bs]? = some (.cells #[.string s] 9 (0, 0)) := g1
      have g2' : (wr.drewN nq).heap[Bm]? = some (.cells #[.int .u8 (m.toNat : Int)] 5 (0, 0)) := g2
      have d1' : (wr.drewN nq).cell? ⟨Bs, 0, none⟩ = some (.string s) := d1
      generalize wr.drewN nq = wq at hJ2 g1' g2' d1' ⊢
      clear d1 d2 g1 g2 hJ
      by_cases hc : s[k] = m
      · have hb1 : ((s[k].toNat : Int) != (m.toNat : Int)) = false := by rw [hc]; simp
        have HN := Lib.hid (cutAt_mark HP hlt hc)
        have he := slice_str s _ st k (st : Int) (k : Int) rfl rfl (by omega) (by omega) (piece s st k)
        obtain ⟨x, hx⟩ : ∃ x : Part, x.1 = (s.data.toList.take k).drop st := ⟨⟨(s.data.toList.take k).drop st, by simp; omega⟩, rfl⟩
        rw [← hx] at he
        have HX := Lib.hid hx
        have hyy := hY pre x wq hJ2 (by have := hdl; simp at this; omega)
        unfold partV at hyy
        obtain ⟨fn, tmps, assign, body, hy, hR⟩ := hyy
        have HPRE : Hid ((pre ++ [x]).map Subtype.val <+: cutL m s.data.toList) := Lib.hid (by rw [HN.out.1, List.map_append, ← HX.out]; exact List.prefix_append _ _)
        have HR := Lib.hid hR
        clear HP hc hx hdl hR
        gi_wp2
        refine HR.out.mono ?_
        rintro e W3 (⟨rfl, hJ3, hk3⟩ | ⟨rfl, hJx3⟩)
        · gi_wp2
          go_roundw
          case rel => exact ⟨k + 1, k + 1, pre ++ [x], by omega, by go_num, by go_num, by rw [List.map_append]; have := HN.out; rw [← HX.out] at this; exact this, hk3.1.trans g1', hk3.2.trans g2', hJ3⟩
          case measure => simp [intOf]; omega
        · gi_wp2
          refine bodyPost_ret (results_none rfl _ _ _) rfl ?_
          exact ⟨⟨_, rfl⟩, .inr ⟨pre ++ [x], HPRE.out, hJx3⟩⟩
      · have hb1 : ((s[k].toNat : Int) != (m.toNat : Int)) = true := int_bne_true (fun h => hc (UInt8.toNat_inj.1 (by omega)))
        have HN := Lib.hid (cutAt_pass HP hlt hc)
        clear HP hc
        gi_wp2
        go_roundw
        case rel => exact ⟨k + 1, st, pre, by omega, by go_num, rfl, HN.out, g1', g2', hJ2⟩
        case measure => simp [intOf]; omega
    · have HN := Lib.hid (cutAt_end HP hlt)
      have he := slice_from s _ st (st : Int) rfl (by omega) (piece_end s st)
      obtain ⟨x, hx⟩ : ∃ x : Part, x.1 = s.data.toList.drop st := ⟨⟨s.data.toList.drop st, by simp; omega⟩, rfl⟩
      rw [← hx] at he
      have HX := Lib.hid hx
      have hyy := hY pre x wr hJ (by have := hdl; simp at this; omega)
      unfold partV at hyy
      obtain ⟨fn, tmps, assign, body, hy, hR⟩ := hyy
      have HALL : Hid ((pre ++ [x]).map Subtype.val = cutL m s.data.toList) := Lib.hid (by rw [HN.out, List.map_append, ← HX.out]; rfl)
      have HR := Lib.hid hR
      clear HP hx hdl hR
      gi_wp2
      refine HR.out.mono ?_
      rintro e W3 (⟨rfl, hJ3, hk3⟩ | ⟨rfl, hJx3⟩)
      · gi_wp2
        go_end0
        exact ⟨⟨_, rfl⟩, .inl ⟨pre ++ [x], HALL.out, hJ3⟩⟩
      · gi_wp2
        go_end0
        exact ⟨⟨_, rfl⟩, .inr ⟨pre ++ [x], by rw [HALL.out]; exact List.prefix_rfl, hJx3⟩⟩

/-- The iterator's contract, for a caller. -/
theorem parts_stops (n : Nat) (hn : 1 ≤ n) (Bs Bm : Nat) (s : ByteArray) (m : UInt8) (hs : s.size ≤ 1048576) (w : World) (h1 : Bs < w.heap.size) (h2 : Bm < w.heap.size)
    (hBs : w.heap[Bs]? = some (.cells #[.string s] 9 (0, 0))) (hBm : w.heap[Bm]? = some (.cells #[.int .u8 (m.toNat : Int)] 5 (0, 0))) :
    SeqStopsK Fence.wide n Tryz.prog 250 #[.pointer (some ⟨Bs, 0, none⟩), .pointer (some ⟨Bm, 0, none⟩)] partV (KpB Bs Bm) (fun ys => ys.map Subtype.val = cutL m s.data.toList) (fun pre => pre.map Subtype.val <+: cutL m s.data.toList) (s.size + 1) w := fun l J Jx W hW hJ _ hY h0 =>
  parts1_in n hn l Bs Bm s m hs J Jx hY W ((hW.block Bs h1).trans hBs) ((hW.block Bm h2).trans hBm) h0 hJ
end Go.Proofs.YtnodhkjgnegkcaaGreatDoor

/-
  strings.Clone and what it calls, as the library lays it, at this seat.
-/
namespace Go.Proofs
open Go.Shelf
def Tryz.lays316_ren : Go.Shelf.Ren := ⟨fun | 316 => 165 | n => n, fun | 9 => 9 | 3 => 3 | 4 => 4 | 37 => 145 | 0 => 0 | 127 => 205 | 5 => 5 | n => n, fun | n => n⟩
theorem Tryz.lays316 : Go.Proofs.LaysM.n316 Tryz.prog Tryz.lays316_ren := {
  mixed := by kernel_rfl
  f316 := Tryz.func165.trans (congrArg some (by kernel_rfl))
  t0 := Tryz.underlying0
  a0 := Tryz.isAgg0
  z0 := Tryz.sizeOf0
  v0 := Tryz.zeroValue0
  t3 := Tryz.underlying3
  a3 := Tryz.isAgg3
  z3 := Tryz.sizeOf3
  v3 := Tryz.zeroValue3
  t4 := Tryz.underlying4
  a4 := Tryz.isAgg4
  z4 := Tryz.sizeOf4
  v4 := Tryz.zeroValue4
  t9 := Tryz.underlying9
  a9 := Tryz.isAgg9
  z9 := Tryz.sizeOf9
  v9 := Tryz.zeroValue9
  t37 := Tryz.underlying145
  a37 := Tryz.isAgg145
  z37 := Tryz.sizeOf145
  v37 := Tryz.zeroValue145
  t127 := Tryz.underlying205
  a127 := Tryz.isAgg205
  z127 := Tryz.sizeOf205
  v127 := Tryz.zeroValue205
  t5 := Tryz.underlying5
  a5 := Tryz.isAgg5
  z5 := Tryz.sizeOf5
  v5 := Tryz.zeroValue5
  i0 := by kernel_rfl
  i3 := by kernel_rfl
  i4 := by kernel_rfl
  i5 := by kernel_rfl
  i9 := by kernel_rfl
  i37 := by kernel_rfl
  i127 := by kernel_rfl }
end Go.Proofs

/-
  strings.Clone returns the same bytes.
-/
namespace Go.Proofs
open Go.Shelf
namespace YtnodhkjgnegkcaaGreatDoor
open Go.RowKit
theorem slClone_any (s : ByteArray) (w : World) (hs : s.size ≤ 1048576) :
    Calls Tryz.prog 165 #[.string s] w fun e w' => e = .returned (.string s) ∧ Below w.heap.size w w' := Any.stringslite_Clone Tryz.lays316 s w (by omega)
theorem clone_any (s : ByteArray) (w : World) (hs : s.size ≤ 1048576) :
    Calls Tryz.prog 115 #[.string s] w fun e w' => e = .returned (.string s) ∧ Below w.heap.size w w' := by
  go_enter Tryz.func115, Tryz.ntmps115
  go_wp2_with (go_at_call 165; refine (slClone_any _ _ hs).mono ?_; rintro e w' ⟨rfl, hb⟩)
  go_ret
  exact ⟨rfl, hb⟩
end YtnodhkjgnegkcaaGreatDoor
end Go.Proofs

namespace Go.Proofs.YtnodhkjgnegkcaaGreatDoor
open Go.RowKit Go.Shelf
attribute [local go_sem] Oper.semAt_some

/-- What splitAt has in its box: the parts so far. -/
def SpJ (w : World) (ls : List (List UInt8)) (W : World) : Prop :=
  w.heap.size + 4 ≤ W.heap.size ∧ ∃ v, Boxed W (w.heap.size + 1) 29 v ∧ Strs W w.heap.size v ls ∧ (∀ g, v.ownBlock = some g → g ≠ w.heap.size + 1 ∧ g ≠ w.heap.size + 2 ∧ g ≠ w.heap.size + 3)
theorem spJ_own (w : World) (B : Nat) : OwnFrom B (fun (pre : List Part) W => SpJ w (pre.map Subtype.val) W) := by
  rintro pre W W' row ⟨h4, v, hB, hS, hne⟩ hg hr
  refine ⟨Nat.le_trans h4 hg.size, v, hB.kept hg (fun e => ?_), World.ownsRow.kept hS hg ?_, hne⟩
  · obtain ⟨_, o, ho, hc⟩ := hr _ e.symm
    rw [show W.heap[_]? = _ from hB] at ho; cases ho; cases hc
  · rcases hS.2 with ⟨rfl, _⟩ | ⟨g, cap, cur, rfl, _, hh, _⟩
    · left; rfl
    · right
      intro e
      obtain ⟨_, o, ho, hc⟩ := hr g (by simpa [Value.ownBlock] using e.symm)
      rw [hh] at ho; cases ho; cases hc

theorem spl_end (w W w1 w3 : World) (v : Value) (ls : List (List UInt8)) (x : List UInt8) (o : Obj) (g cap : Nat) (h4 : w.heap.size + 4 ≤ W.heap.size) (hR : Boxed W (w.heap.size + 1) 29 v) (hS : Strs W w.heap.size v ls)
    (hne : ∀ g, v.ownBlock = some g → g ≠ w.heap.size + 1 ∧ g ≠ w.heap.size + 2 ∧ g ≠ w.heap.size + 3) (hB : Below w.heap.size w W) (hb1 : Below W.drew.heap.size W.drew w1) (hg3 : (w1.alloc o).grownBy w3 v.ownBlock)
    (hS3 : Strs w3 w.heap.size (.slice (some ⟨g, 0, none⟩) (ls.length + 1) cap) (ls ++ [x])) (hg4 : v.ownBlock = some g ∨ g = (w1.alloc o).heap.size) :
    Boxed w3 (w.heap.size + 1) 29 v ∧ KeepsOthers W (w3.setCell ⟨w.heap.size + 1, 0, none⟩ (.slice (some ⟨g, 0, none⟩) (ls.length + 1) cap)) ∧ KpB (w.heap.size + 1 + 1) (w.heap.size + 1 + 1 + 1) W (w3.setCell ⟨w.heap.size + 1, 0, none⟩ (.slice (some ⟨g, 0, none⟩) (ls.length + 1) cap)) ∧
      SpJ w (ls ++ [x]) (w3.setCell ⟨w.heap.size + 1, 0, none⟩ (.slice (some ⟨g, 0, none⟩) (ls.length + 1) cap)) ∧ Below w.heap.size w (w3.setCell ⟨w.heap.size + 1, 0, none⟩ (.slice (some ⟨g, 0, none⟩) (ls.length + 1) cap)) := by
  have hs1 : W.heap.size ≤ w1.heap.size := hb1.size
  have hs3 : w1.heap.size + 1 ≤ w3.heap.size := by have := hg3.size; simpa using this
  have hgne : g ≠ w.heap.size + 1 ∧ g ≠ w.heap.size + 2 ∧ g ≠ w.heap.size + 3 := by
    rcases hg4 with h | h
    · exact hne g h
    · simp at h; omega
  have hG : W.grownBy w3 v.ownBlock := ⟨hg3.os.trans hb1.os, hg3.tape.trans hb1.tape, hg3.output.trans hb1.output, by omega, fun k hk hkn =>
    (hg3.block k (by simp; omega) hkn).trans ((Below.heap_alloc _ _ _ (by omega)).trans (hb1.block k hk))⟩
  have hR3 : Boxed w3 (w.heap.size + 1) 29 v := hR.kept hG (fun e => (hne _ e.symm).1 rfl)
  have hK : KeepsOthers W w3 := KeepsOthers.of_grownBy hG (fun j o' ej hj => by
    rcases hS.2 with ⟨rfl, _⟩ | ⟨g', cap', cur, rfl, _, hh, _⟩
    · simp [Value.ownBlock] at ej
    · simp [Value.ownBlock] at ej
      subst ej
      rw [hh] at hj; cases hj; rfl)
  have hBel : Below w.heap.size w w3 := hB.grown hG (by omega) hS.owned
  have k1 : w3.heap[w.heap.size + 1 + 1]? = W.heap[w.heap.size + 1 + 1]? := hG.block _ (by omega) (fun e => (hne _ e.symm).2.1 (by omega))
  have k2 : w3.heap[w.heap.size + 1 + 1 + 1]? = W.heap[w.heap.size + 1 + 1 + 1]? := hG.block _ (by omega) (fun e => (hne _ e.symm).2.2 (by omega))
  refine ⟨hR3, hK.trans (KeepsOthers.setCell _ _ _), ⟨(Below.heap_setCell _ _ _ _ (by simp)).trans k1, (Below.heap_setCell _ _ _ _ (by simp; omega)).trans k2⟩, ⟨by simp; omega, _, hR3.set _, ?_, ?_⟩, hBel.setCell (p := ⟨w.heap.size + 1, 0, none⟩) (by simp) _⟩
  · exact World.ownsRow.kept hS3 (grownBy_setCell' w3 (w.heap.size + 1) _) (by right; simp [Value.ownBlock]; omega)
  · intro g' hg'
    simp [Value.ownBlock] at hg'
    subst hg'
    exact hgne

theorem step_append_in {F : Fence} {n : Nat} {w : World} {ops : Array Oper} {o : Oper} {a : Act} {K : Act → World → Prop} {Q : Exit → Act → World → Prop} {E : Prop} (hgd : o.guard = none) (s x : Operand)
    (ho : o.op = .call { callee := .builtin .append, args := #[s, x], argTypes := #[29, 29] })
    (base : Nat) (v : Value) (l : List (List UInt8)) (hs : a.eval s = v) (hown : Strs w base v l) (y : List UInt8) (B c : Nat) (t : TypeId) (fr : Nat × Nat)
    (hx : a.eval x = .slice (some ⟨B, 0, none⟩) 1 c) (hblk : w.heap[B]? = some (.cells #[sv y] t fr)) (hlen : l.length + 1 ≤ 16777216) (hbase : base ≤ w.heap.size)
    (h : ∀ g cap w', Strs w' base (.slice (some ⟨g, 0, none⟩) (l.length + 1) cap) (l ++ [y]) → w.grownBy w' v.ownBlock → (v.ownBlock = some g ∨ g = w.heap.size) → K (a.put o.dst (.slice (some ⟨g, 0, none⟩) (l.length + 1) cap)) w') :
    if Region.wanted o (yielded ops a.tmps) = true then Oper.wpIn F n Tryz.prog o a w K Q else E := by
  have hw : Region.wanted o (yielded ops a.tmps) = true := by simp [Region.wanted, hgd]
  rw [if_pos hw]
  obtain ⟨g, cap, w', hr, h2, h3, h4⟩ := run_append_strs w o.type base v l hown y B c t fr hblk hlen hbase
  refine ⟨?_, ?_⟩
  · intro f hf
    simp [Oper.about, ho, resolve, Target.leads, go_sem] at hf
  · rw [Oper.semAt_eq _ _ _ (by intro c hc; rw [ho] at hc; cases hc)]
    unfold execOp
    simp only [ho, resolve, invoke, builtin, Sem.run_bind, Sem.run_pure, Result.andThen_ok, List.map_toArray, List.map_cons, List.map_nil, hs, hx, hr]
    exact h g cap w' h2 h3 h4

set_option maxRecDepth 100000 in
set_option maxHeartbeats 4000000 in
theorem splitAt_in (n : Nat) (hn : 4 ≤ n) (s : ByteArray) (m : UInt8) (w : World) (hs : s.size ≤ 1048576) :
    CallsIn Fence.wide n Tryz.prog 245 #[.string s, .int .u8 (m.toNat : Int)] w fun e W' => ∃ g cap, e = .returned (.slice (some ⟨g, 0, none⟩) (cutL m s.data.toList).length cap) ∧ Strs W' w.heap.size (.slice (some ⟨g, 0, none⟩) (cutL m s.data.toList).length cap) (cutL m s.data.toList) ∧ Below w.heap.size w W' := by
  have h1 : 1 ≤ n := by omega
  have hn2 : 1 ≤ n - 1 - 1 := by omega
  refine callsIn_of_wp_marks Tryz.func245 rfl trivial ?_ rfl
  simp only [Tryz.ntmps245, List.size_toArray, List.length_cons, List.length_nil, Nat.reduceAdd, Nat.reduceSub, Array.replicate_succ, Array.replicate_zero, List.push_toArray, List.append_toArray, List.nil_append, List.cons_append]
  gi_wp2_with (refine ⟨trivial, ?_⟩; gi_at_call 203; refine (partsOf_in _ _ _ _).mono ?_; rintro e w' ⟨rfl, rfl⟩)
  have b1 := Boxed.new (w.alloc (.cells #[] 9)) 29 (.slice (some ⟨w.heap.size, 0, none⟩) 0 0)
  have b3 := Boxed.new ((w.alloc (.cells #[] 9)).alloc (.cells #[.slice (some ⟨w.heap.size, 0, none⟩) 0 0] 29)) 9 (.string s)
  have b4 := Boxed.new (((w.alloc (.cells #[] 9)).alloc (.cells #[.slice (some ⟨w.heap.size, 0, none⟩) 0 0] 29)).alloc (.cells #[.string s] 9)) 5 (.int .u8 (m.toNat : Int))
  simp only [World.size_alloc] at b1 b3 b4
  have hB0 : Below w.heap.size w ((((w.alloc (.cells #[] 9)).alloc (.cells #[.slice (some ⟨w.heap.size, 0, none⟩) 0 0] 29)).alloc (.cells #[.string s] 9)).alloc (.cells #[.int .u8 (m.toNat : Int)] 5)) := ((((Below.refl _ w).alloc (Nat.le_refl _) _).alloc (by simp) _).alloc (by simp; omega) _).alloc (by simp; omega) _
  have b1' := (b1.alloc (.cells #[.string s] 9)).alloc (.cells #[.int .u8 (m.toNat : Int)] 5)
  have b3' := b3.alloc (.cells #[.int .u8 (m.toNat : Int)] 5)
  have hS0 := (((Strs.empty w w.heap.size (Nat.le_refl _)).alloc (.cells #[.slice (some ⟨w.heap.size, 0, none⟩) 0 0] 29)).alloc (.cells #[.string s] 9)).alloc (.cells #[.int .u8 (m.toNat : Int)] 5)
  clear b1 b3
  obtain ⟨W0, hW0⟩ : ∃ W0, ((((w.alloc (.cells #[] 9)).alloc (.cells #[.slice (some ⟨w.heap.size, 0, none⟩) 0 0] 29)).alloc (.cells #[.string s] 9)).alloc (.cells #[.int .u8 (m.toNat : Int)] 5)) = W0 := ⟨_, rfl⟩
  have hsz : W0.heap.size = w.heap.size + 4 := by rw [← hW0]; simp
  rw [hW0] at b1' b3' b4 hS0 hB0 ⊢
  clear hW0
  have HSZ := Lib.hid hsz
  clear hsz
  refine wpIn_rangeFunc_ownF rfl h1 (gf := 250) (lb := #[.pointer (some ⟨w.heap.size + 1 + 1, 0, none⟩), .pointer (some ⟨w.heap.size + 1 + 1 + 1, 0, none⟩)]) rfl trivial (enters_of Tryz.func250 (by kernel_rfl) rfl)
    (parts_stops (n - 1) (by omega) (w.heap.size + 1 + 1) (w.heap.size + 1 + 1 + 1) s m hs W0 (by rw [HSZ.out]; omega) (by rw [HSZ.out]; omega) b3' b4) kpB_t (kpB_b (by rw [HSZ.out]; omega) (by rw [HSZ.out]; omega)) (Below.refl _ _) (fun _ => rfl)
    (fun pre W => SpJ w (pre.map Subtype.val) W ∧ Below w.heap.size w W)
    (fun c pre W => False)
    (OwnFrom.and (spJ_own w _) (ownFrom_below (Nat.le_refl _) (by rw [HSZ.out]; omega)))
    (fun c => ownFrom_pure _ _)
    ⟨⟨by rw [HSZ.out]; exact Nat.le_refl _, _, b1', hS0, fun g hg => by simp [Value.ownBlock] at hg; omega⟩, hB0⟩
    (fun x => { tmps := #[.string s, .int .u8 (m.toNat : Int), undef, undef, .slice none 0 0, .pointer (some ⟨w.heap.size + 1, 0, none⟩), .string ⟨x.1.toArray⟩, .slice (some ⟨w.heap.size, 0, none⟩) 0 0, .string s, .int .u8 (m.toNat : Int), .func (.func 250) #[] #[.pointer (some ⟨w.heap.size + 1 + 1, 0, none⟩), .pointer (some ⟨w.heap.size + 1 + 1 + 1, 0, none⟩)], .string ⟨x.1.toArray⟩, undef, undef, undef, undef, undef, undef], defers := [] }) ?assign ?body ?done ?stop
  case assign =>
    intro l x W K hK
    unfold partV
    gi_wp2
    exact hK
  case body =>
    rintro l pre x W ⟨⟨h4, v, hR, hS, hne⟩, hB⟩ hpl
    have cR := hR.cell
    have fR := hR.frozen
    obtain ⟨b, hbE⟩ : ∃ b : ByteArray, b = ⟨x.1.toArray⟩ := ⟨_, rfl⟩
    have hbl : b.data.toList = x.1 := by rw [hbE]
    have hbs : b.size ≤ 1048576 := by rw [hbE]; show x.1.toArray.size ≤ _; simpa using x.2
    rw [← hbE]
    have HBL := Lib.hid hbl
    clear hbE hbl
    gi_wp2
    have hlt : w.heap.size + 1 < W.drew.heap.size := hR.lt
    have cR' : W.drew.cell? ⟨w.heap.size + 1, 0, none⟩ = some v := cR
    have fR' : W.drew.frozen? ⟨w.heap.size + 1, 0, none⟩ = false := fR
    have hCl := CallsIn.inRound (n := n - 1 - 1 - 1) l (callsIn_wide.2 (clone_any b W.drew hbs))
    have HCL := Lib.hid hCl
    clear hCl
    refine wpIn_region_any (by kernel_rfl) ?_
    change wpAnyIn _ _ _ _ _ _ _ _ _ (World.drew _)
    have HPL : Hid ((pre.map Subtype.val).length + 1 ≤ 16777216) := Lib.hid (by simp; omega)
    refine wpAnyIn_ready (rs := [0, 1]) (by kernel_rfl) (by simp) (AllReadyIn.cons rfl (fun K hK => ?_) (AllReadyIn.cons rfl (fun K hK => ?_) AllReadyIn.nil)) <;> go_simp <;> refine hK _ _ ?_ <;> clear hK K
    · refine wpAnyIn_ready (rs := [1]) (by kernel_rfl) (by simp) (AllReadyIn.cons rfl (fun K hK => ?_) AllReadyIn.nil)
      go_simp
      refine hK _ _ ?_
      clear hK K
      refine wpAnyIn_ready (rs := [2]) (by kernel_rfl) (by simp) (AllReadyIn.cons rfl (fun K hK => ?_) AllReadyIn.nil)
      go_simp
      refine ⟨trivial, ?_⟩
      refine HCL.out.mono ?_
      rintro e w1 ⟨rfl, hb1⟩
      refine hK _ _ ?_
      clear hK K
      obtain ⟨c1, hlt1⟩ := keep_cell hb1 hlt cR'
      have HSI : Hid (w.heap.size ≤ (w1.alloc (.cells #[.string b] 9)).heap.size) := Lib.hid (by have := hb1.size; simp at this ⊢; omega)
      refine wpAnyIn_ready (rs := [3]) (by kernel_rfl) (by simp) (AllReadyIn.cons rfl (fun K hK => ?_) AllReadyIn.nil)
      go_simp
      refine hK _ _ ?_
      clear hK K
      refine wpAnyIn_ready (rs := [4]) (by kernel_rfl) (by simp) (AllReadyIn.cons rfl (fun K hK => ?_) AllReadyIn.nil)
      refine step_append_in rfl _ _ rfl w.heap.size v (pre.map Subtype.val) rfl ((hS.drew.below hb1).alloc _) b.data.toList w1.heap.size 1 _ _ rfl (heap_alloc_new w1 _) HPL.out HSI.out ?_
      intro g cap w3 hS3 hg3 hg4
      refine hK _ _ ?_
      clear hK K
      rw [HBL.out] at hS3
      have HE := Lib.hid (spl_end w W w1 w3 v _ _ _ g cap h4 hR hS hne hB hb1 hg3 hS3 hg4)
      have c3 := HE.out.1.cell
      have f3 := HE.out.1.frozen
      clear hS3 hg3 hg4
      refine wpAnyIn_ready (rs := [5]) (by kernel_rfl) (by simp) (AllReadyIn.cons rfl (fun K hK => ?_) AllReadyIn.nil)
      go_simp
      refine hK _ _ ?_
      clear hK K
      refine wpAnyIn_done (by kernel_rfl) ?_ _
      have hE := HE.out.2
      simp only [List.length_map] at hE
      refine ⟨hE.1, hE.2.1, ?_, hE.2.2.2⟩
      rw [List.map_append]
      exact hE.2.2.1
    · refine wpAnyIn_ready (rs := [0, 2]) (by kernel_rfl) (by simp) (AllReadyIn.cons rfl (fun K hK => ?_) (AllReadyIn.cons rfl (fun K hK => ?_) AllReadyIn.nil)) <;> go_simp
      · refine hK _ _ ?_
        clear hK K
        refine wpAnyIn_ready (rs := [2]) (by kernel_rfl) (by simp) (AllReadyIn.cons rfl (fun K hK => ?_) AllReadyIn.nil)
        go_simp
        refine ⟨trivial, ?_⟩
        refine HCL.out.mono ?_
        rintro e w1 ⟨rfl, hb1⟩
        refine hK _ _ ?_
        clear hK K
        obtain ⟨c1, hlt1⟩ := keep_cell hb1 hlt cR'
        have HSI : Hid (w.heap.size ≤ (w1.alloc (.cells #[.string b] 9)).heap.size) := Lib.hid (by have := hb1.size; simp at this ⊢; omega)
        refine wpAnyIn_ready (rs := [3]) (by kernel_rfl) (by simp) (AllReadyIn.cons rfl (fun K hK => ?_) AllReadyIn.nil)
        go_simp
        refine hK _ _ ?_
        clear hK K
        refine wpAnyIn_ready (rs := [4]) (by kernel_rfl) (by simp) (AllReadyIn.cons rfl (fun K hK => ?_) AllReadyIn.nil)
        refine step_append_in rfl _ _ rfl w.heap.size v (pre.map Subtype.val) rfl ((hS.drew.below hb1).alloc _) b.data.toList w1.heap.size 1 _ _ rfl (heap_alloc_new w1 _) HPL.out HSI.out ?_
        intro g cap w3 hS3 hg3 hg4
        refine hK _ _ ?_
        clear hK K
        rw [HBL.out] at hS3
        have HE := Lib.hid (spl_end w W w1 w3 v _ _ _ g cap h4 hR hS hne hB hb1 hg3 hS3 hg4)
        have c3 := HE.out.1.cell
        have f3 := HE.out.1.frozen
        clear hS3 hg3 hg4
        refine wpAnyIn_ready (rs := [5]) (by kernel_rfl) (by simp) (AllReadyIn.cons rfl (fun K hK => ?_) AllReadyIn.nil)
        go_simp
        refine hK _ _ ?_
        clear hK K
        refine wpAnyIn_done (by kernel_rfl) ?_ _
        have hE := HE.out.2
        simp only [List.length_map] at hE
        refine ⟨hE.1, hE.2.1, ?_, hE.2.2.2⟩
        rw [List.map_append]
        exact hE.2.2.1
      · refine ⟨trivial, ?_⟩
        refine HCL.out.mono ?_
        rintro e w1 ⟨rfl, hb1⟩
        refine hK _ _ ?_
        clear hK K
        obtain ⟨c1, hlt1⟩ := keep_cell hb1 hlt cR'
        have HSI : Hid (w.heap.size ≤ (w1.alloc (.cells #[.string b] 9)).heap.size) := Lib.hid (by have := hb1.size; simp at this ⊢; omega)
        refine wpAnyIn_ready (rs := [0, 3]) (by kernel_rfl) (by simp) (AllReadyIn.cons rfl (fun K hK => ?_) (AllReadyIn.cons rfl (fun K hK => ?_) AllReadyIn.nil)) <;> go_simp <;> refine hK _ _ ?_ <;> clear hK K
        · refine wpAnyIn_ready (rs := [3]) (by kernel_rfl) (by simp) (AllReadyIn.cons rfl (fun K hK => ?_) AllReadyIn.nil)
          go_simp
          refine hK _ _ ?_
          clear hK K
          refine wpAnyIn_ready (rs := [4]) (by kernel_rfl) (by simp) (AllReadyIn.cons rfl (fun K hK => ?_) AllReadyIn.nil)
          refine step_append_in rfl _ _ rfl w.heap.size v (pre.map Subtype.val) rfl ((hS.drew.below hb1).alloc _) b.data.toList w1.heap.size 1 _ _ rfl (heap_alloc_new w1 _) HPL.out HSI.out ?_
          intro g cap w3 hS3 hg3 hg4
          refine hK _ _ ?_
          clear hK K
          rw [HBL.out] at hS3
          have HE := Lib.hid (spl_end w W w1 w3 v _ _ _ g cap h4 hR hS hne hB hb1 hg3 hS3 hg4)
          have c3 := HE.out.1.cell
          have f3 := HE.out.1.frozen
          clear hS3 hg3 hg4
          refine wpAnyIn_ready (rs := [5]) (by kernel_rfl) (by simp) (AllReadyIn.cons rfl (fun K hK => ?_) AllReadyIn.nil)
          go_simp
          refine hK _ _ ?_
          clear hK K
          refine wpAnyIn_done (by kernel_rfl) ?_ _
          have hE := HE.out.2
          simp only [List.length_map] at hE
          refine ⟨hE.1, hE.2.1, ?_, hE.2.2.2⟩
          rw [List.map_append]
          exact hE.2.2.1
        · have c2 : (w1.alloc (.cells #[.string b] 9)).cell? ⟨w.heap.size + 1, 0, none⟩ = some v := (keep_cell ((Below.refl _ w1).alloc (Nat.le_refl _) _) hlt1 c1).1
          refine wpAnyIn_ready (rs := [0]) (by kernel_rfl) (by simp) (AllReadyIn.cons rfl (fun K hK => ?_) AllReadyIn.nil)
          go_simp
          refine hK _ _ ?_
          clear hK K
          refine wpAnyIn_ready (rs := [4]) (by kernel_rfl) (by simp) (AllReadyIn.cons rfl (fun K hK => ?_) AllReadyIn.nil)
          refine step_append_in rfl _ _ rfl w.heap.size v (pre.map Subtype.val) rfl ((hS.drew.below hb1).alloc _) b.data.toList w1.heap.size 1 _ _ rfl (heap_alloc_new w1 _) HPL.out HSI.out ?_
          intro g cap w3 hS3 hg3 hg4
          refine hK _ _ ?_
          clear hK K
          rw [HBL.out] at hS3
          have HE := Lib.hid (spl_end w W w1 w3 v _ _ _ g cap h4 hR hS hne hB hb1 hg3 hS3 hg4)
          have c3 := HE.out.1.cell
          have f3 := HE.out.1.frozen
          clear hS3 hg3 hg4
          refine wpAnyIn_ready (rs := [5]) (by kernel_rfl) (by simp) (AllReadyIn.cons rfl (fun K hK => ?_) AllReadyIn.nil)
          go_simp
          refine hK _ _ ?_
          clear hK K
          refine wpAnyIn_done (by kernel_rfl) ?_ _
          have hE := HE.out.2
          simp only [List.length_map] at hE
          refine ⟨hE.1, hE.2.1, ?_, hE.2.2.2⟩
          rw [List.map_append]
          exact hE.2.2.1
  case done =>
    rintro D ys W hD hys ⟨⟨h4, v, hR, hS, hne⟩, hB⟩ hK
    rw [hys] at hS
    have cR := hR.cell
    gi_wp2
    refine ⟨by simp, .inl ⟨_, _, rfl, run_takeDeferred hK, ?_⟩⟩
    have hS' := World.ownsRow.kept hS (grownBy_putObj' W D (.deferred none)) (row := some D) (by
      rcases hS.2 with ⟨rfl, _⟩ | ⟨g', cap', cur, rfl, _, hh, _⟩
      · left; rfl
      · right
        simp only [Value.ownBlock]
        intro e; cases e
        rw [hK] at hh; cases hh)
    rcases hS.form with ⟨_, h⟩ | ⟨g, cap, rfl, _, _⟩
    · exact absurd h (cutL_ne _ _)
    · exact ⟨_, by simp [results, Tryz.f245, go_sem], g, cap, rfl, hS', hB.trans (belowK_b (w := w) (Nat.le_refl _) W D _ _ (by have := HSZ.out; omega) hK rfl rfl)⟩
  case stop =>
    rintro D c pre W hD hpre h hK
    exact h.elim

theorem splitAt_any (s : ByteArray) (m : UInt8) (w : World) (hs : s.size ≤ 1048576) :
    Calls Tryz.prog 245 #[.string s, .int .u8 (m.toNat : Int)] w fun e W' => ∃ g cap, e = .returned (.slice (some ⟨g, 0, none⟩) (cutL m s.data.toList).length cap) ∧ Strs W' w.heap.size (.slice (some ⟨g, 0, none⟩) (cutL m s.data.toList).length cap) (cutL m s.data.toList) ∧ Below w.heap.size w W' :=
  (callsIn_wide (n := 4)).1 (splitAt_in 4 (by omega) s m w hs)
end Go.Proofs.YtnodhkjgnegkcaaGreatDoor
