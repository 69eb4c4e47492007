/-
  At every argument the law FnExactHoles returns true and leaves its arguments as they were, the three listed tables lying as the program's text lays them (the tie is given). No other condition.
-/
import Derived.Test.YtjpclglklmlhlabGreatDoorRdL
import Derived.Deep.Strs
import Derived.Lib.SmallJoins
import Derived.OpenShut
import Derived.Test.YtjpclglklmlhlabGreatDoorBnd
import Derived.Deep.SlicePairs
import Derived.Test.YtjpclglklmlhlabGreatDoorSortM
import Derived.Test.YtjpclglklmlhlabGreatDoorSortS
import Derived.Test.YtjpclglklmlhlabGreatDoorInT
import Derived.Shelf.SlSortCmp.WholeK
import Derived.Shelf.SlGeneric
import Derived.Ground.SlsfProg
import Derived.Test.YtjpclglklmlhlabGreatDoorProg
import Derived.Test.YtjpclglklmlhlabGreatDoorLawB
import Derived.Lib.SliceRun
import Derived.Test.YtjpclglklmlhlabGreatDoorCmpI
import Derived.LoopN
import Derived.Lib.SlicesCompact
import Derived.Shelf.Slices.Cells
import Derived.Ground.NamesProg
import Derived.Shelf.Strings.OnBuilder
import Derived.Test.YtjpclglklmlhlabGreatDoorVerM
import Derived.Shelf.Strconv.Itoa3
import Derived.Test.YtjpclglklmlhlabGreatDoorDec
import Derived.Lib.AppendIntMem
import Derived.Test.YtjpclglklmlhlabGreatDoorTextS
import Derived.Test.YtjpclglklmlhlabGreatDoorVerI
import Derived.Deep.RegionHeld3
import Derived.Test.YtjpclglklmlhlabGreatDoorRdI
import Derived.Test.YtjpclglklmlhlabGreatDoorRngS
import Derived.Test.YtjpclglklmlhlabGreatDoorRows
import Derived.Test.YtjpclglklmlhlabGreatDoorBase
import Derived.Laws.OwnMore
import Derived.Laws.IdiomStrings
import Derived.Maps.AppendAt
import Derived.Laws.BitsAllLaws
import Derived.Deep.RegionLaw
import Derived.Deep.AppendLies
import Derived.Laws.BitsLemmas
import Derived.Lib.AppendStr
import Derived.Deep.QuietTactic
import Derived.BigQuiet
import Derived.Test.YtjpclglklmlhlabGreatDoorApp
import Derived.Test.YtjpclglklmlhlabGreatDoorLawBd
import Derived.Test.YtjpclglklmlhlabGreatDoorTie
import Derived.Test.YtjpclglklmlhlabGreatDoorCards
import Derived.WalkKit
import Derived.ProofKit
import Derived.ShutString
import Derived.ChangeOld
import Derived.Below
import Derived.ChangeVars
import Derived.LaidLaws
import Derived.MakeChecks
import Derived.Stop.LaidErr
import Derived.SevenTiedAt
import Derived.Carry
/-
  Arguments opened: a list of texts.
-/
namespace Go.Proofs.YtjpclglklmlhlabGreatDoor
open Go.ChangeShapes Go.WideShapes Go.RowKit Go.Deep Go.Joins

section
variable {H : Type} {enc : TypeId × Value → H} {W : World} {spare : Nat → Bool} {held : Bool}

theorem cell_lt {w : World} {g o : Nat} {v : Value} (h : w.cell? ⟨g, o, none⟩ = some v) : g < w.heap.size := by
  rcases Nat.lt_or_ge g w.heap.size with hlt | hge
  · exact hlt
  · unfold World.cell? at h
    simp only at h
    rw [Array.getElem?_eq_none hge] at h
    cases h

set_option maxRecDepth 100000 in
theorem open_texts {fuel : Nat} {v : Value} {x : DataW H × List MemPlace} (h : DataW.trod enc Tryz.prog W 0 spare held fuel 22 [v] = some x) :
    ∃ ls, RdS W v ls ∧ ls.length ≤ maxLen ∧ ∀ l ∈ ls, l.length ≤ maxLen := by
  rcases open_strs Tryz.underlying22 Tryz.underlying9 (by kernel_rfl) h with ⟨hcs, _⟩ | ⟨a, len, cap, m, Sx, hcs, _, hl, hm, hmm, _, hc⟩
  · simp at hcs
    subst hcs
    exact ⟨[], ⟨none, 0, rfl, fun h => absurd h (by simp)⟩, by simp, fun l hl => by cases hl⟩
  · simp at hcs
    subst hcs
    have hlm : len ≤ m := by rw [hmm]; split <;> omega
    refine ⟨(List.range len).map (fun i => (Sx i).data.toList), ⟨some a, cap, by simp, fun h0 => ?_⟩, by simp; omega, ?_⟩
    · simp at h0
      obtain ⟨b, off, spot⟩ := a
      have hspot : spot = none := by simpa [Addr.add] using World.cell?_spot (hc 0 (by omega)).1
      subst hspot
      have h1 : ∀ k, k < len → W.cell? ⟨b, off + k, none⟩ = some (.string (Sx k)) := fun k hk => by rw [← Go.WideShapes.add_plain]; exact (hc k (by omega)).1
      refine ⟨b, off, rfl, cell_lt (h1 0 h0), fun k hk => ?_⟩
      simp at hk
      rw [h1 k hk]
      simp [sv]
    · intro l hl
      simp at hl
      obtain ⟨i, hi, rfl⟩ := hl
      have := (hc i (by omega)).2
      simpa using this

set_option maxRecDepth 100000 in
theorem open_textsV {r : Reach} {b0 : Nat} {v : Value} {d : DataW H} {p : List MemPlace} (hv : Value.okWide Tryz.prog W r b0 22 v) (h : DataW.Trod enc Tryz.prog W 0 spare held 22 v d p) :
    ∃ ls, RdS W v ls ∧ ls.length ≤ maxLen ∧ ∀ l ∈ ls, l.length ≤ maxLen := by
  obtain ⟨a, len, cap, rfl⟩ := okWide_slice Tryz.underlying22 hv
  obtain ⟨fuel, hf⟩ := h
  exact open_texts (by simpa [Value.cells] using hf)

end
end Go.Proofs.YtjpclglklmlhlabGreatDoor

/-
  Arguments opened: a list of bounds.
-/
namespace Go.Proofs.YtjpclglklmlhlabGreatDoor
open Go.ChangeShapes Go.WideShapes Go.RowKit Go.Deep Go.Joins

section
variable {H : Type} {enc : TypeId × Value → H} {W : World} {spare : Nat → Bool} {held : Bool}

theorem open_bounds {fuel : Nat} {v : Value} {x : DataW H × List MemPlace} (h : DataW.trod enc Tryz.prog W 0 spare held fuel 23 [v] = some x) :
    ∃ bs, RdB W v bs ∧ bs.length ≤ maxLen ∧ ∀ b ∈ bs, b.1.length ≤ maxLen ∧ b.2.length ≤ maxLen := by
  rcases open_slice_pairs Tryz.underlying23 Tryz.underlying57 (by kernel_rfl) rfl rfl (by kernel_rfl) (by kernel_rfl) h with ⟨hcs, _⟩ | ⟨a, len, cap, m, n, V0, V1, D0, D1, P0, P1, hcs, _, hl, hm, hmm, _, hc⟩
  · simp at hcs
    subst hcs
    exact ⟨[], ⟨none, 0, rfl, fun h => absurd h (by simp)⟩, by simp, fun l hl => by cases hl⟩
  · simp at hcs
    subst hcs
    have hlm : len ≤ m := by rw [hmm]; split <;> omega
    have each : ∀ i, i < m → ∃ q : ByteArray × ByteArray, W.cell? (a.add (i * 2)) = some (.string q.1) ∧ W.cell? (a.add (i * 2 + 1)) = some (.string q.2) ∧ q.1.size ≤ maxLen ∧ q.2.size ≤ maxLen := fun i hi => by
      obtain ⟨e0, e1, t0, t1⟩ := hc i hi
      obtain ⟨s0, h1, _, h3⟩ := DataW.trod_string Tryz.underlying9 t0
      obtain ⟨s1, g1, _, g3⟩ := DataW.trod_string Tryz.underlying9 t1
      simp at h1 g1
      exact ⟨(s0, s1), by rw [e0, h1], by rw [e1, g1], h3, g3⟩
    obtain ⟨Q, hQ⟩ := choose_lt each
    refine ⟨(List.range len).map (fun i => ((Q i).1.data.toList, (Q i).2.data.toList)), ⟨some a, cap, by simp, fun h0 => ?_⟩, by simp; omega, ?_⟩
    · simp at h0
      obtain ⟨b, off, spot⟩ := a
      have hspot : spot = none := by simpa [Addr.add] using World.cell?_spot (hQ 0 (by omega)).1
      subst hspot
      have h1 : ∀ k, k < len → W.cell? ⟨b, off + k * 2, none⟩ = some (.string (Q k).1) ∧ W.cell? ⟨b, off + k * 2 + 1, none⟩ = some (.string (Q k).2) := fun k hk => by
        obtain ⟨e0, e1, _, _⟩ := hQ k (by omega)
        rw [Go.WideShapes.add_plain] at e0 e1
        exact ⟨e0, by rw [Nat.add_assoc]; exact e1⟩
      refine ⟨b, off, rfl, cell_in (h1 0 h0).1, fun k hk => ?_⟩
      simp at hk
      rw [(h1 k hk).1, (h1 k hk).2]
      simp [sv]
    · intro l hl
      simp at hl
      obtain ⟨i, hi, rfl⟩ := hl
      obtain ⟨_, _, s0, s1⟩ := hQ i (by omega)
      exact ⟨by simpa using s0, by simpa using s1⟩

set_option maxRecDepth 100000 in
theorem open_boundsV {r : Reach} {b0 : Nat} {v : Value} {d : DataW H} {p : List MemPlace} (hv : Value.okWide Tryz.prog W r b0 23 v) (h : DataW.Trod enc Tryz.prog W 0 spare held 23 v d p) :
    ∃ bs, RdB W v bs ∧ bs.length ≤ maxLen ∧ ∀ b ∈ bs, b.1.length ≤ maxLen ∧ b.2.length ≤ maxLen := by
  obtain ⟨a, len, cap, rfl⟩ := okWide_slice Tryz.underlying23 hv
  obtain ⟨fuel, hf⟩ := h
  exact open_bounds (by simpa [Value.cells] using hf)
end
end Go.Proofs.YtjpclglklmlhlabGreatDoor

/-
  The holes of a list in plain words: what a test refuses between what it takes. Of no program.
-/
namespace Go.Proofs.YtjpclglklmlhlabGreatDoor
open Go.RowKit

/-- What is refused, told once something taken follows. -/
def holesGo (f : List UInt8 → Bool) : Bool → List (List UInt8) → List (List UInt8) → List (List UInt8)
  | _, _, [] => []
  | b, wt, x :: xs => if f x = true then wt ++ holesGo f true [] xs else if b = true then holesGo f true (wt ++ [x]) xs else holesGo f false [] xs
def lastR (f : List UInt8 → Bool) : List (List UInt8) → Int
  | [] => -1
  | x :: r => if f x = true then (r.length : Int) else lastR f r
/-- The place of the last that is taken, -1 where there is none. -/
def lastV (f : List UInt8 → Bool) (X : List (List UInt8)) : Int := lastR f X.reverse
theorem lastV_snoc (f : List UInt8 → Bool) (X : List (List UInt8)) (x : List UInt8) : lastV f (X ++ [x]) = if f x = true then (X.length : Int) else lastV f X := by
  simp [lastV, lastR]
theorem lastR_ge (f : List UInt8 → Bool) : ∀ X, -1 ≤ lastR f X
  | [] => by simp [lastR]
  | x :: r => by have := lastR_ge f r; unfold lastR; split <;> omega
theorem lastR_lt (f : List UInt8 → Bool) : ∀ X, lastR f X < X.length
  | [] => by simp [lastR]
  | x :: r => by have := lastR_lt f r; unfold lastR; simp only [List.length_cons]; split <;> omega
theorem lastV_ge (f : List UInt8 → Bool) (X : List (List UInt8)) : -1 ≤ lastV f X := lastR_ge f _
theorem lastV_lt (f : List UInt8 → Bool) (X : List (List UInt8)) : lastV f X < X.length := by have := lastR_lt f X.reverse; simpa [lastV] using this
theorem lastR_app (f : List UInt8 → Bool) (y : List UInt8) : ∀ r, lastR f (r ++ [y]) = if 0 ≤ lastR f r then lastR f r + 1 else if f y = true then 0 else -1
  | [] => by simp [lastR]
  | x :: r => by
    simp only [List.cons_append, lastR, lastR_app f y r]
    by_cases hx : f x = true
    · simp [hx]
    · simp [hx]
theorem lastV_cons (f : List UInt8 → Bool) (y : List UInt8) (ys : List (List UInt8)) : lastV f (y :: ys) = if 0 ≤ lastV f ys then lastV f ys + 1 else if f y = true then 0 else -1 := by
  unfold lastV
  rw [List.reverse_cons, lastR_app]
theorem lastV_take {f : List UInt8 → Bool} {X : List (List UInt8)} {k : Nat} (h : k < X.length) : lastV f (X.take (k + 1)) = if f X[k] = true then (k : Int) else lastV f (X.take k) := by
  rw [List.take_succ_eq_append_getElem h, lastV_snoc, List.length_take, Nat.min_eq_left (by omega)]
def refd (f : List UInt8 → Bool) (X : List (List UInt8)) : List (List UInt8) := X.filter (fun x => !f x)
theorem refd_snoc (f : List UInt8 → Bool) (X : List (List UInt8)) (x : List UInt8) : refd f (X ++ [x]) = if f x = true then refd f X else refd f X ++ [x] := by
  unfold refd
  rw [List.filter_append]
  by_cases hx : f x = true <;> simp [hx]
theorem holesGo_true (f : List UInt8 → Bool) : ∀ (Y wt : List (List UInt8)), holesGo f true wt Y = if 0 ≤ lastV f Y then wt ++ refd f (Y.take (lastV f Y).toNat) else []
  | [], wt => by simp [holesGo, lastV, lastR]
  | y :: ys, wt => by
    have hl := lastV_cons f y ys
    by_cases hy : f y = true
    · rw [show holesGo f true wt (y :: ys) = wt ++ holesGo f true [] ys by simp [holesGo, hy], holesGo_true f ys []]
      by_cases h : 0 ≤ lastV f ys
      · rw [if_pos h] at hl ⊢
        rw [hl, if_pos (by omega), show (lastV f ys + 1).toNat = (lastV f ys).toNat + 1 by omega]
        simp [refd, hy]
      · rw [if_neg h, if_pos hy] at hl
        rw [if_neg h, hl]
        simp [refd]
    · rw [show holesGo f true wt (y :: ys) = holesGo f true (wt ++ [y]) ys by simp [holesGo, hy], holesGo_true f ys (wt ++ [y])]
      by_cases h : 0 ≤ lastV f ys
      · rw [if_pos h] at hl ⊢
        rw [hl, if_pos (by omega), show (lastV f ys + 1).toNat = (lastV f ys).toNat + 1 by omega]
        simp [refd, hy]
      · rw [if_neg h, if_neg hy] at hl
        rw [if_neg h, hl, if_neg (by omega)]
theorem holesGo_first (f : List UInt8 → Bool) : ∀ X : List (List UInt8), holesGo f false [] X = refd f ((X.take (lastV f X).toNat).drop (X.findIdx f))
  | [] => by simp [holesGo, refd]
  | x :: xs => by
    have hl := lastV_cons f x xs
    by_cases hx : f x = true
    · rw [show holesGo f false [] (x :: xs) = holesGo f true [] xs by simp [holesGo, hx], holesGo_true]
      have e : (x :: xs).findIdx f = 0 := by simp [List.findIdx_cons, hx]
      rw [e, List.drop_zero]
      by_cases h : 0 ≤ lastV f xs
      · rw [if_pos h] at hl ⊢
        rw [hl, show (lastV f xs + 1).toNat = (lastV f xs).toNat + 1 by omega]
        simp [refd, hx]
      · rw [if_neg h, if_pos hx] at hl
        rw [if_neg h, hl]
        simp [refd]
    · rw [show holesGo f false [] (x :: xs) = holesGo f false [] xs by simp [holesGo, hx], holesGo_first f xs]
      have e : (x :: xs).findIdx f = xs.findIdx f + 1 := by simp [List.findIdx_cons, hx]
      rw [e]
      by_cases h : 0 ≤ lastV f xs
      · rw [if_pos h] at hl
        rw [hl, show (lastV f xs + 1).toNat = (lastV f xs).toNat + 1 by omega]
        simp
      · rw [if_neg h, if_neg hx] at hl
        rw [hl, show (lastV f xs).toNat = 0 by omega]
        simp
/-- What stands in front of the k-th, counted from the first that is taken. -/
def firstI (f : List UInt8 → Bool) (X : List (List UInt8)) (k : Nat) : Nat := if X.findIdx f < k then X.findIdx f else X.length
theorem firstI_yes {f : List UInt8 → Bool} {X : List (List UInt8)} {k : Nat} (h : k < X.length) (hf : f X[k] = true) : firstI f X (k + 1) = if k < firstI f X k then k else firstI f X k := by
  have h1 : X.findIdx f ≤ k := by
    apply Nat.le_of_not_lt
    intro hlt
    have := List.not_of_lt_findIdx hlt
    simp [hf] at this
  unfold firstI
  rw [if_pos (by omega)]
  by_cases h2 : X.findIdx f < k
  · rw [if_pos h2, if_neg (by omega)]
  · rw [if_neg h2, if_pos h]; omega
theorem firstI_no {f : List UInt8 → Bool} {X : List (List UInt8)} {k : Nat} (h : k < X.length) (hf : f X[k] = false) : firstI f X (k + 1) = firstI f X k := by
  have h1 : X.findIdx f ≠ k := by
    intro e
    have := List.findIdx_getElem (w := show X.findIdx f < X.length by omega)
    simp only [e] at this
    rw [hf] at this
    cases this
  unfold firstI
  by_cases h2 : X.findIdx f < k
  · rw [if_pos h2, if_pos (by omega)]
  · rw [if_neg h2, if_neg (by omega)]
theorem firstI_end (f : List UInt8 → Bool) (X : List (List UInt8)) : firstI f X X.length = X.findIdx f := by
  have := List.findIdx_le_length (p := f) (xs := X)
  unfold firstI
  split <;> omega
theorem firstI_le (f : List UInt8 → Bool) (X : List (List UInt8)) (k : Nat) : firstI f X k ≤ X.length := by
  have := List.findIdx_le_length (p := f) (xs := X)
  unfold firstI
  split <;> omega
theorem drop_take_snoc {X : List (List UInt8)} {a k : Nat} (h : k < X.length) (ha : a ≤ k) : (X.take (k + 1)).drop a = (X.take k).drop a ++ [X[k]] := by
  rw [List.take_succ_eq_append_getElem h, List.drop_append_of_le_length (by simp; omega)]
def holesL (f : List UInt8 → Bool) (X : List (List UInt8)) : List (List UInt8) := holesGo f false [] X
theorem holes_end {f : List UInt8 → Bool} {X : List (List UInt8)} {i : Nat} (h1 : ¬ (i : Int) < lastV f X) (h2 : (i : Int) ≤ lastV f X ∨ i = X.findIdx f) : refd f ((X.take i).drop (X.findIdx f)) = holesL f X := by
  unfold holesL
  rw [holesGo_first]
  rcases h2 with h | h
  · rw [show (lastV f X).toNat = i by omega]
  · congr 1
    rw [← h, List.drop_of_length_le (by simp; omega), List.drop_of_length_le (by simp; omega)]
theorem holesL_len (f : List UInt8 → Bool) (X : List (List UInt8)) : (holesL f X).length ≤ X.length := by
  unfold holesL
  rw [holesGo_first]
  exact Nat.le_trans (List.length_filter_le _ _) (by simp; omega)
end Go.Proofs.YtjpclglklmlhlabGreatDoor

/-
  spec.Holes: what stands between the versions of a range and is not in it.
-/
namespace Go.Proofs.YtjpclglklmlhlabGreatDoor
open Go.RowKit

/-- Whether a range takes a text. -/
def inF (bs : List Bd) (l : List UInt8) : Bool := inR l bs

set_option maxRecDepth 100000 in
set_option maxHeartbeats 4000000 in
theorem specHoles_any (v vb : Value) (ls : List (List UInt8)) (bs : List Bd) (w : World) (hr : RdS w v ls) (hs : Sm ls) (hrb : RdB w vb bs) (hsb : SmB bs) :
    Calls Tryz.prog 15 #[v, vb] w fun e w' => ∃ out u, e = .returned u ∧ Strs w' w.heap.size u (holesL (inF bs) out) ∧ SortOf ls out ∧ Below w.heap.size w w' := by
  have HS := Lib.hid hs
  have hn := hs.1
  have HC := Lib.hid (specSortVersions_any v ls w hr hs)
  have HIN := Lib.hid (fun (W : World) (s : ByteArray) (hb : Below w.heap.size w W) (hz : s.size ≤ 1048576) => specIn_any s vb bs W hz (hrb.below hb) hsb)
  clear hr hs hrb hsb
  obtain ⟨f, HF⟩ : ∃ f, Hid (inF bs = f) := ⟨_, Lib.hid rfl⟩
  rw [HF.out]
  go_enter Tryz.func15, Tryz.ntmps15
  go_wp2_with fail
  refine HC.out.mono ?_
  rintro e w1 ⟨u, X, rfl, S0, hSO, hb1⟩
  have lo := sortOf_len hSO
  have HSZ : Hid (∀ l ∈ X, l.length ≤ 1048576) := Lib.hid (fun l hl => HS.out.2 l ((hSO.2 l).1 hl).1)
  have HSO := Lib.hid hSO
  have HRD := Lib.hid (RdS.of_strs S0)
  obtain ⟨uA, uc, rfl⟩ := S0.slice
  have HB1 := Lib.hid hb1
  clear hSO S0 HC
  go_wp2_with fail
  go_loopw [6, 7, 8] (fun a b i wr => ∃ (k F : Nat) (L : Int), k ≤ X.length ∧ i = .int .i64 k ∧ a = .int .i64 (F : Int) ∧ b = .int .i64 L ∧ Hid (F = firstI f X k) ∧ Hid (L = lastV f (X.take k)) ∧ Below w1.heap.size w1 wr) (fun _ _ i _ => X.length - (intOf i).toNat)
  case atStart => exact ⟨0, X.length, -1, Nat.zero_le _, rfl, rfl, rfl, Lib.hid (by simp [firstI]), Lib.hid (by simp [lastV, lastR]), Below.refl _ _⟩
  case round =>
    obtain ⟨k, F, L, hk, rfl, rfl, rfl, HFI, HLA, hb⟩ := hrel
    have L1 : -1 ≤ L := by rw [HLA.out]; exact lastV_ge _ _
    have L2 : L < 1048577 := by have := lastV_lt f (X.take k); rw [← HLA.out] at this; simp at this; omega
    have F1 : F ≤ 1048576 := by have := firstI_le f X k; rw [← HFI.out] at this; omega
    by_cases hlt : k < X.length
    · have k0 : (0 : Int) ≤ (k : Int) := by omega
      have k1 : (k : Int) < (X.length : Int) := by omega
      have HLK : Hid ((⟨X[k].toArray⟩ : ByteArray).size ≤ 1048576) := Lib.hid (by rw [size_of]; exact HSZ.out X[k] (List.getElem_mem hlt))
      have HLT := Lib.hid (lastV_take (f := f) hlt)
      obtain ⟨A', ca', hv, ha⟩ := HRD.out.below hb
      simp only [Value.slice.injEq] at hv
      obtain ⟨rfl, _, rfl⟩ := hv
      obtain ⟨gl, off, rfl, hgl, hca⟩ := ha (by omega)
      have d1 : wr.cell? ⟨gl, off + k, none⟩ = some (.string ⟨X[k].toArray⟩) := hca k hlt
      have hbw : Below w.heap.size w wr := HB1.out.trans (hb.mono HB1.out.size)
      obtain ⟨t, HTT⟩ : ∃ t, Hid (f X[k] = t) := ⟨_, Lib.hid rfl⟩
      have HTI : Hid (inR (⟨X[k].toArray⟩ : ByteArray).data.toList bs = t) := Lib.hid (by rw [← HTT.out, ← HF.out]; rfl)
      clear ha hca
      go_wp2_with fail
      refine (HIN.out _ _ hbw HLK.out).mono ?_
      rw [HTI.out]
      rintro e w2 ⟨rfl, hb2⟩
      have hb3 := hb.trans (hb2.mono hb.size)
      cases t
      · have HF2 : Hid (F = firstI f X (k + 1)) := Lib.hid (by rw [firstI_no hlt HTT.out]; exact HFI.out)
        have HL2 : Hid (L = lastV f (X.take (k + 1))) := Lib.hid (by rw [HLT.out, if_neg (by rw [HTT.out]; simp)]; exact HLA.out)
        go_wp2_with fail
        go_roundw
        case rel => exact ⟨k + 1, F, L, by omega, by go_num, rfl, rfl, HF2, HL2, hb3⟩
        case measure => simp [intOf]; omega
      · have HL2 : Hid ((k : Int) = lastV f (X.take (k + 1))) := Lib.hid (by rw [HLT.out, if_pos HTT.out])
        by_cases hF : k < F
        · have HF2 : Hid (k = firstI f X (k + 1)) := Lib.hid (by rw [firstI_yes hlt HTT.out, ← HFI.out, if_pos hF])
          have q1 : (k : Int) < (F : Int) := by omega
          go_wp2_with fail
          go_roundw
          case rel => exact ⟨k + 1, k, k, by omega, by go_num, rfl, rfl, HF2, HL2, hb3⟩
          case measure => simp [intOf]; omega
        · have HF2 : Hid (F = firstI f X (k + 1)) := Lib.hid (by rw [firstI_yes hlt HTT.out, ← HFI.out, if_neg hF])
          have q1 : ¬ (k : Int) < (F : Int) := by omega
          go_wp2_with fail
          go_roundw
          case rel => exact ⟨k + 1, F, k, by omega, by go_num, rfl, rfl, HF2, HL2, hb3⟩
          case measure => simp [intOf]; omega
    · obtain ⟨V, rfl⟩ : ∃ V, V = wr := ⟨_, rfl⟩
      have k1 : ¬ (k : Int) < (X.length : Int) := by omega
      have HFE : Hid (F = X.findIdx f) := Lib.hid (by rw [HFI.out, show k = X.length by omega, firstI_end])
      have HLE : Hid (L = lastV f X) := Lib.hid (by rw [HLA.out, List.take_of_length_le (by omega)])
      have L3 : L < X.length := by rw [HLE.out]; exact lastV_lt _ _
      have hbw : Below w.heap.size w V := HB1.out.trans (hb.mono HB1.out.size)
      have HB2 := Lib.hid hb
      have HB3 := Lib.hid hbw
      have hS0 := Strs.empty V V.heap.size (Nat.le_refl _)
      have hb5 : Below V.heap.size V (V.alloc (.cells #[] 9)) := (Below.refl _ _).alloc (Nat.le_refl _) _
      clear hb hbw
      go_wp2_with fail
      go_loopw [9, 10] (fun o i W => ∃ (j g c : Nat), F ≤ j ∧ Hid ((j : Int) ≤ L ∨ j = F) ∧ i = .int .i64 j ∧ o = .slice (some ⟨g, 0, none⟩) (refd f ((X.take j).drop F)).length c ∧ Strs W V.heap.size (.slice (some ⟨g, 0, none⟩) (refd f ((X.take j).drop F)).length c) (refd f ((X.take j).drop F)) ∧ Below V.heap.size V W) (fun _ i _ => (L - intOf i).toNat)
      case atStart => exact ⟨F, _, 0, Nat.le_refl _, Lib.hid (.inr rfl), rfl, by rw [List.drop_of_length_le (by simp; omega)]; rfl, by rw [List.drop_of_length_le (by simp; omega)]; exact hS0, hb5⟩
      case round =>
        obtain ⟨j, g, c, hj, HJ, rfl, rfl, hS, hb⟩ := hrel
        have hbW := HB3.out.trans (hb.mono HB3.out.size)
        have hb1W := HB2.out.trans (hb.mono HB2.out.size)
        obtain ⟨O, HO⟩ : ∃ O, Hid (refd f ((X.take j).drop F) = O) := ⟨_, Lib.hid rfl⟩
        rw [HO.out] at hS ⊢
        have jb : j ≤ 1048577 := by rcases HJ.out with h | h <;> omega
        have lO : O.length ≤ 1048576 := by
          rw [← HO.out]
          exact Nat.le_trans (List.length_filter_le _ _) (by simp; omega)
        by_cases hlt : (j : Int) < L
        · have hjX : j < X.length := by omega
          have k0 : (0 : Int) ≤ (j : Int) := by omega
          have k1 : (j : Int) < (X.length : Int) := by omega
          have HLK : Hid ((⟨X[j].toArray⟩ : ByteArray).size ≤ 1048576) := Lib.hid (by rw [size_of]; exact HSZ.out X[j] (List.getElem_mem hjX))
          have HDT := Lib.hid (drop_take_snoc hjX hj)
          obtain ⟨A', ca', hv, ha⟩ := HRD.out.below hb1W
          simp only [Value.slice.injEq] at hv
          obtain ⟨rfl, _, rfl⟩ := hv
          obtain ⟨gl, off, rfl, hgl, hca⟩ := ha (by omega)
          have d1 : wr.cell? ⟨gl, off + j, none⟩ = some (.string ⟨X[j].toArray⟩) := hca j hjX
          obtain ⟨t, HTT⟩ : ∃ t, Hid (f X[j] = t) := ⟨_, Lib.hid rfl⟩
          have HTI : Hid (inR (⟨X[j].toArray⟩ : ByteArray).data.toList bs = t) := Lib.hid (by rw [← HTT.out, ← HF.out]; rfl)
          clear ha hca hS0 hb5
          go_wp2_with fail
          refine (HIN.out _ _ hbW HLK.out).mono ?_
          rw [HTI.out]
          rintro e w5 ⟨rfl, hb6⟩
          have d2 := keepC hb6 d1
          have hS5 := hS.below hb6
          have hb7 := hb.trans (hb6.mono hb.size)
          clear d1 hS hb hb6 hbW hb1W
          cases t
          · have HN : Hid (refd f ((X.take (j + 1)).drop F) = O ++ [X[j]]) := Lib.hid (by rw [HDT.out, refd_snoc, if_neg (by rw [HTT.out]; simp), HO.out])
            have HBE : Hid (V.heap.size ≤ (w5.alloc (.cells #[sv X[j]] 9)).heap.size) := Lib.hid (by simp; exact Nat.le_succ_of_le hb7.size)
            have hlO : O.length + 1 ≤ 16777216 := by omega
            go_wp2_with (at_builtin; refine wpList_append_strs rfl _ _ rfl V.heap.size _ _ rfl (hS5.alloc _) (X[j]) w5.heap.size _ _ _ rfl (heap_alloc_new w5 _) hlO HBE.out ?_; intro g3 c3 w6 hown6 hb8)
            have b8 := hb7.trans (((Below.refl V.heap.size w5).alloc hb7.size _).trans hb8)
            have hl6 : (O ++ [X[j]]).length = O.length + 1 := by simp
            go_wp2_with fail
            go_roundw
            case rel => exact ⟨j + 1, g3, c3, by omega, Lib.hid (.inl (by omega)), by go_num, by rw [HN.out, hl6], by rw [HN.out, hl6]; exact hown6, b8⟩
            case measure => simp [intOf]; omega
          · have HN : Hid (refd f ((X.take (j + 1)).drop F) = O) := Lib.hid (by rw [HDT.out, refd_snoc, if_pos HTT.out, HO.out])
            go_wp2_with fail
            go_roundw
            case rel => exact ⟨j + 1, g, c, by omega, Lib.hid (.inl (by omega)), by go_num, by rw [HN.out], by rw [HN.out]; exact hS5, hb7⟩
            case measure => simp [intOf]; omega
        · have HEND : Hid (O = holesL f X) := Lib.hid (by
            rw [← HO.out, HFE.out]
            refine holes_end (by rw [← HLE.out]; exact hlt) ?_
            rw [← HLE.out, ← HFE.out]
            exact HJ.out)
          clear hS0 hb5
          go_wp2_with fail
          go_ret
          exact ⟨X, _, rfl, by rw [← HEND.out]; exact hS.weaken HB3.out.size, HSO.out, hbW⟩
end Go.Proofs.YtjpclglklmlhlabGreatDoor

/-
  slices.SortFunc, as the library lays it, at versions, at this seat.
-/
namespace Go.Proofs
open Go.Shelf
def Tryz.laysSort_ren : Go.Shelf.Ren := ⟨fun | 6 => 81 | 15 => 124 | 14 => 123 | 28 => 155 | 29 => 156 | 20 => 147 | 21 => 148 | 22 => 149 | 23 => 150 | 24 => 151 | 25 => 152 | 26 => 153 | 27 => 154 | 46 => 169 | 47 => 170 | 48 => 171 | 49 => 172 | 50 => 173 | 57 => 184 | n => n, fun | 22 => 94 | 24 => 51 | 25 => 54 | 3 => 3 | 39 => 136 | 0 => 0 | 53 => 159 | 55 => 161 | 4 => 4 | 46 => 152 | 45 => 151 | 50 => 156 | 5 => 5 | 9 => 9 | 66 => 172 | 70 => 176 | 76 => 183 | 77 => 184 | n => n, fun | n => n⟩
theorem Tryz.laysSort : Go.Proofs.SlLaysF0.n6 Tryz.prog Tryz.laysSort_ren := {
  mixed := by kernel_rfl
  f6 := ⟨Tryz.f81.name, by decide, Tryz.func81.trans (congrArg some (by kernel_rfl))⟩
  f14 := ⟨Tryz.f123.name, by decide, Tryz.func123.trans (congrArg some (by kernel_rfl))⟩
  f15 := Tryz.func124.trans (congrArg some (by kernel_rfl))
  f20 := ⟨Tryz.f147.name, by decide, Tryz.func147.trans (congrArg some (by kernel_rfl))⟩
  f21 := ⟨Tryz.f148.name, by decide, Tryz.func148.trans (congrArg some (by kernel_rfl))⟩
  f22 := ⟨Tryz.f149.name, by decide, Tryz.func149.trans (congrArg some (by kernel_rfl))⟩
  f23 := ⟨Tryz.f150.name, by decide, Tryz.func150.trans (congrArg some (by kernel_rfl))⟩
  f24 := ⟨Tryz.f151.name, by decide, Tryz.func151.trans (congrArg some (by kernel_rfl))⟩
  f25 := ⟨Tryz.f152.name, by decide, Tryz.func152.trans (congrArg some (by kernel_rfl))⟩
  f26 := ⟨Tryz.f153.name, by decide, Tryz.func153.trans (congrArg some (by kernel_rfl))⟩
  f27 := ⟨Tryz.f154.name, by decide, Tryz.func154.trans (congrArg some (by kernel_rfl))⟩
  f28 := Tryz.func155.trans (congrArg some (by kernel_rfl))
  f29 := Tryz.func156.trans (congrArg some (by kernel_rfl))
  f46 := ⟨Tryz.f169.name, by decide, Tryz.func169.trans (congrArg some (by kernel_rfl))⟩
  f47 := Tryz.func170.trans (congrArg some (by kernel_rfl))
  f48 := Tryz.func171.trans (congrArg some (by kernel_rfl))
  f49 := ⟨Tryz.f172.name, by decide, Tryz.func172.trans (congrArg some (by kernel_rfl))⟩
  f50 := ⟨Tryz.f173.name, by decide, Tryz.func173.trans (congrArg some (by kernel_rfl))⟩
  f57 := ⟨Tryz.f184.name, by decide, Tryz.func184.trans (congrArg some (by kernel_rfl))⟩
  t0 := Tryz.underlying0
  a0 := Tryz.isAgg0
  z0 := Tryz.sizeOf0
  v0 := Tryz.zeroValue0
  t3 := Tryz.underlying3
  a3 := Tryz.isAgg3
  z3 := Tryz.sizeOf3
  v3 := Tryz.zeroValue3
  t4 := Tryz.underlying4
  a4 := Tryz.isAgg4
  z4 := Tryz.sizeOf4
  v4 := Tryz.zeroValue4
  t5 := Tryz.underlying5
  a5 := Tryz.isAgg5
  z5 := Tryz.sizeOf5
  v5 := Tryz.zeroValue5
  t9 := Tryz.underlying9
  a9 := Tryz.isAgg9
  z9 := Tryz.sizeOf9
  v9 := Tryz.zeroValue9
  t22 := Tryz.underlying94
  a22 := Tryz.isAgg94
  z22 := Tryz.sizeOf94
  v22 := Tryz.zeroValue94
  t25 := Tryz.underlying54
  a25 := Tryz.isAgg54
  z25 := Tryz.sizeOf54
  v25 := Tryz.zeroValue54
  t39 := Tryz.underlying136
  a39 := Tryz.isAgg136
  z39 := Tryz.sizeOf136
  v39 := Tryz.zeroValue136
  t45 := Tryz.underlying151
  a45 := Tryz.isAgg151
  z45 := Tryz.sizeOf151
  v45 := Tryz.zeroValue151
  t46 := Tryz.underlying152
  a46 := Tryz.isAgg152
  z46 := Tryz.sizeOf152
  v46 := Tryz.zeroValue152
  t50 := Tryz.underlying156
  a50 := Tryz.isAgg156
  z50 := Tryz.sizeOf156
  v50 := Tryz.zeroValue156
  t53 := Tryz.underlying159
  a53 := Tryz.isAgg159
  z53 := Tryz.sizeOf159
  v53 := Tryz.zeroValue159
  t55 := Tryz.underlying161
  a55 := Tryz.isAgg161
  z55 := Tryz.sizeOf161
  v55 := Tryz.zeroValue161
  t66 := Tryz.underlying172
  a66 := Tryz.isAgg172
  z66 := Tryz.sizeOf172
  v66 := Tryz.zeroValue172
  t70 := Tryz.underlying176
  a70 := Tryz.isAgg176
  z70 := Tryz.sizeOf176
  v70 := Tryz.zeroValue176
  t76 := Tryz.underlying183
  a76 := Tryz.isAgg183
  z76 := Tryz.sizeOf183
  v76 := Tryz.zeroValue183
  t77 := Tryz.underlying184
  a77 := Tryz.isAgg184
  z77 := Tryz.sizeOf184
  v77 := Tryz.zeroValue184 }
end Go.Proofs

/-
  append(versions, v): a struct of four cells onto a row of the call's own.
-/
namespace Go.Proofs.YtjpclglklmlhlabGreatDoor
open Go.RowKit

theorem verinfo : (Tryz.prog.info? 51).map (fun i => (i.zero, i.size, i.bytes)) = some (some (.agg #[.int .i64 0, .int .i64 0, .int .i64 0, .slice none 0 0]), 4, 48) := by kernel_rfl

/-- A version's four cells. -/
def vc4 (p : Int × Int × Int × Value) : List Value := [.int .i64 p.1, .int .i64 p.2.1, .int .i64 p.2.2.1, p.2.2.2]
def flat4 (l : List (Int × Int × Int × Value)) : List Value := l.flatMap vc4
theorem flat4_app (l m : List (Int × Int × Int × Value)) : flat4 (l ++ m) = flat4 l ++ flat4 m := by simp [flat4]
theorem flat4_len (l : List (Int × Int × Int × Value)) : (flat4 l).length = l.length * 4 := by
  induction l with
  | nil => rfl
  | cons a l ih => simp only [flat4, List.flatMap_cons, List.length_append, List.length_cons] at ih ⊢; simp only [vc4, List.length_cons, List.length_nil]; omega

/-- v is the call's own row of these versions. -/
def Vers (w : World) (base : Nat) (v : Value) (l : List (Int × Int × Int × Value)) : Prop := w.ownsRow base 51 4 v l.length (flat4 l)

theorem run_append_ver (w : World) (ty : TypeId) (base : Nat) (v : Value) (l : List (Int × Int × Int × Value)) (hown : Vers w base v l) (B c : Nat) (T : TypeId) (fr : Nat × Nat) (x y z : Int) (s : Value) (hs : s.oneCell' = true)
    (hB : w.heap[B]? = some (.cells #[.int .i64 x, .int .i64 y, .int .i64 z, s] T fr)) (hlen : l.length + 1 ≤ 16777216) (hbase : base ≤ w.heap.size) :
    ∃ v' w', (Builtin.append_ #[94, 94] ty #[v, .slice (some ⟨B, 0, none⟩) 1 c]).run Tryz.prog w = .ok v' w' ∧ Vers w' base v' (l ++ [(x, y, z, s)]) ∧ w.grownBy w' v.ownBlock := by
  obtain ⟨i0, hi, hz0, hz1, hz2⟩ := info_parts verinfo
  obtain ⟨v', w', h1, h2, h3, _, _⟩ := run_append_own_at (P := Tryz.prog) w base 94 ty 51 i0 _ 4 48 Tryz.underlying94 hi hz0 hz1 hz2 rfl (by decide) v l.length (flat4 l) hown
    ⟨B, 0, none⟩ 1 c [.int .i64 x, .int .i64 y, .int .i64 z, s] (by rfl)
    (by
      intro j u hj
      rw [Go.WideShapes.add_plain]
      match j, hj with
      | 0, hj | 1, hj | 2, hj | 3, hj => simp at hj; subst hj; simp [World.cell?, hB]
      | n + 4, hj => simp at hj)
    (by intro u hu; simp at hu; rcases hu with rfl | rfl | rfl | rfl <;> first | rfl | exact hs) (by unfold maxLen; omega) (by omega) hbase
  refine ⟨v', w', h1, ?_, h3⟩
  unfold Vers
  rw [flat4_app, List.length_append]
  exact h2
end Go.Proofs.YtjpclglklmlhlabGreatDoor

/-
  slices.CompareFunc at impl's identifiers, comparePre, cmp.Or at four ints.
-/
namespace Go.Proofs.YtjpclglklmlhlabGreatDoor
open Go.RowKit

theorem sm_get {ls : List (List UInt8)} (h : ∀ l ∈ ls, l.length ≤ 1048576) (k : Nat) (hk : k < ls.length) : (⟨ls[k].toArray⟩ : ByteArray).size ≤ 1048576 := by
  have := h ls[k] (List.getElem_mem hk)
  show ls[k].toArray.size ≤ _
  simpa using this

set_option maxRecDepth 100000 in
set_option maxHeartbeats 1000000 in
theorem compareFunc_any (va vb : Value) (x y : List (List UInt8)) (w : World) (ha : RdS w va x) (hb : RdS w vb y) (hx : Sm x) (hy : Sm y) :
    Calls Tryz.prog 117 #[va, vb, .func (.func 118) #[] #[]] w fun e w' => e = .returned (.int .i64 (cmpL x y)) ∧ ∃ n, w' = w.drewN n := by
  obtain ⟨A, ca, rfl, ha⟩ := ha
  obtain ⟨B, cb, rfl, hb⟩ := hb
  have hx1 := hx.1
  have hy1 := hy.1
  have HX := Lib.hid hx.2
  have HY := Lib.hid hy.2
  clear hx hy
  go_enter Tryz.func117, Tryz.ntmps117
  go_wp2
  go_loopw [7, 8, 9, 10, 13] (fun _ _ _ _ i wr => ∃ k n : Nat, k ≤ x.length ∧ k ≤ y.length ∧ i = .int .i64 k ∧ wr = w.drewN n ∧ Hid (cmpL x y = cmpL (x.drop k) (y.drop k))) (fun _ _ _ _ i _ => x.length - (intOf i).toNat)
  case atStart => exact ⟨0, 0, Nat.zero_le _, Nat.zero_le _, rfl, rfl, Lib.hid (by simp)⟩
  case round =>
    obtain ⟨k, n, hk, hk', rfl, rfl, H⟩ := hrel
    by_cases hlt : k < x.length
    · obtain ⟨g, off, rfl, _, hca⟩ := ha (by omega)
      have d1 : w.cell? ⟨g, off + k, none⟩ = some (.string ⟨x[k].toArray⟩) := hca k hlt
      have k0 : (0 : Int) ≤ (k : Int) := by omega
      have k1 : (k : Int) < (x.length : Int) := by omega
      by_cases hlt2 : k < y.length
      · obtain ⟨g2, off2, rfl, _, hcb⟩ := hb (by omega)
        have d2 : w.cell? ⟨g2, off2 + k, none⟩ = some (.string ⟨y[k].toArray⟩) := hcb k hlt2
        have k2 : (k : Int) < (y.length : Int) := by omega
        have HC := Lib.hid (fun W => compareIdentifiers_any ⟨x[k].toArray⟩ ⟨y[k].toArray⟩ W (sm_get HX.out k hlt) (sm_get HY.out k hlt2))
        have HS := Lib.hid (cmpL_step hlt hlt2)
        clear ha hb hca hcb
        obtain ⟨z, HZ⟩ : ∃ z, Hid (cmpPart x[k] y[k] = z) := ⟨_, Lib.hid rfl⟩
        by_cases hz : z = 0
        · have hz' : (z != 0) = false := by simp [hz]
          have HN : Hid (cmpL x y = cmpL (x.drop (k + 1)) (y.drop (k + 1))) := Lib.hid (by rw [H.out, HS.out, HZ.out, hz]; rfl)
          clear hz
          go_wp2_with fail
          refine (HC.out _).mono ?_
          rw [show cmpPart (⟨x[k].toArray⟩ : ByteArray).data.toList (⟨y[k].toArray⟩ : ByteArray).data.toList = z from HZ.out]
          rintro e w' ⟨rfl, m, rfl⟩
          go_wp2_with fail
          go_roundw
          case rel => exact ⟨k + 1, n + m, by omega, by omega, by go_num, by simp [World.drewN], HN⟩
          case measure => simp [intOf]; omega
        · have hz' : (z != 0) = true := by simp [hz]
          have HN : Hid (cmpL x y = z) := Lib.hid (by rw [H.out, HS.out, HZ.out]; exact orI_ne _ hz)
          clear hz
          go_wp2_with fail
          refine (HC.out _).mono ?_
          rw [show cmpPart (⟨x[k].toArray⟩ : ByteArray).data.toList (⟨y[k].toArray⟩ : ByteArray).data.toList = z from HZ.out]
          rintro e w' ⟨rfl, m, rfl⟩
          go_wp2_with fail
          go_ret
          exact ⟨ret_int HN.out.symm, n + m, by simp [World.drewN]⟩
      · have HN : Hid (cmpL x y = 1) := Lib.hid (by rw [H.out]; exact cmpL_right hlt hlt2)
        clear ha hb hca
        go_wp2_with fail
        go_ret
        exact ⟨ret_int HN.out.symm, n, rfl⟩
    · clear ha hb
      by_cases hlt2 : k < y.length
      · have HN : Hid (cmpL x y = -1) := Lib.hid (by rw [H.out]; exact cmpL_left hlt hlt2)
        have hl : (x.length : Int) < (y.length : Int) := by omega
        go_wp2_with fail
        go_ret
        exact ⟨ret_int HN.out.symm, n, rfl⟩
      · have HN : Hid (cmpL x y = 0) := Lib.hid (by rw [H.out]; exact cmpL_end hlt hlt2)
        have hl : ¬ (x.length : Int) < (y.length : Int) := by omega
        go_wp2_with fail
        go_ret
        exact ⟨ret_int HN.out.symm, n, rfl⟩

set_option maxRecDepth 100000 in
set_option maxHeartbeats 1000000 in
theorem comparePre_any (va vb : Value) (x y : List (List UInt8)) (w : World) (ha : RdS w va x) (hb : RdS w vb y) (hx : Sm x) (hy : Sm y) :
    Calls Tryz.prog 77 #[va, vb] w fun e w' => e = .returned (.int .i64 (cmpPre x y)) ∧ ∃ n, w' = w.drewN n := by
  have HC := Lib.hid (compareFunc_any va vb x y w ha hb hx hy)
  obtain ⟨A, ca, rfl, _⟩ := ha
  obtain ⟨B, cb, rfl, _⟩ := hb
  have hx1 := hx.1
  have hy1 := hy.1
  by_cases h1 : x = []
  · have HP := Lib.hid (cmpPre_empty (x := x) (y := y) (.inl h1))
    have q1 : ((x.length : Int) == 0) = true := by simp [h1]
    clear h1 hx hy HC
    go_enter Tryz.func77, Tryz.ntmps77
    go_wp2_with (go_at_call 76; refine (cmpInt_any _ _ _).mono ?_; rintro e w' ⟨rfl, rfl⟩)
    go_ret
    exact ⟨ret_int HP.out.symm, 0, rfl⟩
  · have hl1 : 0 < x.length := by cases x <;> simp_all
    have q1 : ((x.length : Int) == 0) = false := int_beq_false (by omega)
    by_cases h2 : y = []
    · have HP := Lib.hid (cmpPre_empty (x := x) (y := y) (.inr h2))
      have q2 : ((y.length : Int) == 0) = true := by simp [h2]
      clear h1 h2 hx hy HC
      go_enter Tryz.func77, Tryz.ntmps77
      go_wp2_with (go_at_call 76; refine (cmpInt_any _ _ _).mono ?_; rintro e w' ⟨rfl, rfl⟩)
      go_ret
      exact ⟨ret_int HP.out.symm, 0, rfl⟩
    · have hl2 : 0 < y.length := by cases y <;> simp_all
      have q2 : ((y.length : Int) == 0) = false := int_beq_false (by omega)
      have HP := Lib.hid (cmpPre_full (x := x) (y := y) (by rintro (h | h); exact h1 h; exact h2 h))
      clear h1 h2 hx hy
      go_enter Tryz.func77, Tryz.ntmps77
      go_wp2_with fail
      refine HC.out.mono ?_
      rintro e w' ⟨rfl, n, rfl⟩
      go_wp2_with fail
      go_ret
      exact ⟨ret_int HP.out.symm, n, rfl⟩

set_option maxRecDepth 100000 in
set_option maxHeartbeats 1000000 in
theorem cmpOr4_any (p q r s : Int) (w : World) (B : Nat) (t : TypeId) (hB : w.heap[B]? = some (.cells #[.int .i64 p, .int .i64 q, .int .i64 r, .int .i64 s] t)) :
    Calls Tryz.prog 75 #[.slice (some ⟨B, 0, none⟩) 4 4] w fun e w' => e = .returned (.int .i64 (orI p (orI q (orI r s)))) ∧ w' = w := by
  have c0 : w.cell? ⟨B, 0, none⟩ = some (.int .i64 p) := by simp [World.cell?, hB]
  have c1 : w.cell? ⟨B, 1, none⟩ = some (.int .i64 q) := by simp [World.cell?, hB]
  have c2 : w.cell? ⟨B, 2, none⟩ = some (.int .i64 r) := by simp [World.cell?, hB]
  have c3 : w.cell? ⟨B, 3, none⟩ = some (.int .i64 s) := by simp [World.cell?, hB]
  clear hB
  by_cases hp : p = 0
  · by_cases hq : q = 0
    · by_cases hr : r = 0
      · have HO : Hid (orI p (orI q (orI r s)) = s) := Lib.hid (by rw [hp, hq, hr]; rfl)
        have q1 : (p != 0) = false := by simp [hp]
        have q2 : (q != 0) = false := by simp [hq]
        have q3 : (r != 0) = false := by simp [hr]
        clear hp hq hr
        by_cases hs : s = 0
        · have HO2 : Hid (orI p (orI q (orI r s)) = 0) := Lib.hid (by rw [HO.out, hs])
          have q4 : (s != 0) = false := by simp [hs]
          clear hs
          go_enter Tryz.func75, Tryz.ntmps75
          go_wp2
          refine wp_loop_rounds 5 ?_
          rw [rounds_succ]; go_wp2
          rw [rounds_succ]; go_wp2
          rw [rounds_succ]; go_wp2
          rw [rounds_succ]; go_wp2
          rw [rounds_succ]; go_wp2
          go_ret
          exact ⟨ret_int HO2.out.symm, rfl⟩
        · have q4 : (s != 0) = true := by simp [hs]
          clear hs
          go_enter Tryz.func75, Tryz.ntmps75
          go_wp2
          refine wp_loop_rounds 4 ?_
          rw [rounds_succ]; go_wp2
          rw [rounds_succ]; go_wp2
          rw [rounds_succ]; go_wp2
          rw [rounds_succ]; go_wp2
          go_ret
          exact ⟨ret_int HO.out.symm, rfl⟩
      · have HO : Hid (orI p (orI q (orI r s)) = r) := Lib.hid (by rw [hp, hq, orI_zero, orI_zero, orI_ne _ hr])
        have q1 : (p != 0) = false := by simp [hp]
        have q2 : (q != 0) = false := by simp [hq]
        have q3 : (r != 0) = true := by simp [hr]
        clear hp hq hr
        go_enter Tryz.func75, Tryz.ntmps75
        go_wp2
        refine wp_loop_rounds 3 ?_
        rw [rounds_succ]; go_wp2
        rw [rounds_succ]; go_wp2
        rw [rounds_succ]; go_wp2
        go_ret
        exact ⟨ret_int HO.out.symm, rfl⟩
    · have HO : Hid (orI p (orI q (orI r s)) = q) := Lib.hid (by rw [hp, orI_zero, orI_ne _ hq])
      have q1 : (p != 0) = false := by simp [hp]
      have q2 : (q != 0) = true := by simp [hq]
      clear hp hq
      go_enter Tryz.func75, Tryz.ntmps75
      go_wp2
      refine wp_loop_rounds 2 ?_
      rw [rounds_succ]; go_wp2
      rw [rounds_succ]; go_wp2
      go_ret
      exact ⟨ret_int HO.out.symm, rfl⟩
  · have HO : Hid (orI p (orI q (orI r s)) = p) := Lib.hid (orI_ne _ hp)
    have q1 : (p != 0) = true := by simp [hp]
    clear hp
    go_enter Tryz.func75, Tryz.ntmps75
    go_wp2
    refine wp_loop_rounds 1 ?_
    rw [rounds_succ]; go_wp2
    go_ret
    exact ⟨ret_int HO.out.symm, rfl⟩
end Go.Proofs.YtjpclglklmlhlabGreatDoor

/-
  impl.CompareVersion: how two versions stand.
-/
namespace Go.Proofs.YtjpclglklmlhlabGreatDoor
open Go.RowKit

set_option maxRecDepth 100000 in
set_option maxHeartbeats 8000000 in
theorem implCompareVersion_grow (a b c a' b' c' : Int) (va vb : Value) (x y : List (List UInt8)) (w : World) (ha : RdS w va x) (hb : RdS w vb y) (hx : Sm x) (hy : Sm y) :
    Calls Tryz.prog 42 #[.agg #[.int .i64 a, .int .i64 b, .int .i64 c, va], .agg #[.int .i64 a', .int .i64 b', .int .i64 c', vb]] w fun e w' => ∃ q o, e = .returned (.int .i64 (cmpVer a b c x a' b' c' y)) ∧ w' = (((w.alloc (.cells #[.int .i64 a, .int .i64 b, .int .i64 c, va] 51)).alloc (.cells #[.int .i64 a', .int .i64 b', .int .i64 c', vb] 51)).drewN q).alloc o := by
  have HP := Lib.hid (fun (W : World) (h : Below w.heap.size w W) => comparePre_any va vb x y W (ha.below h) (hb.below h) hx hy)
  have HV : Hid (cmpVer a b c x a' b' c' y = orI (cmpI a a') (orI (cmpI b b') (orI (cmpI c c') (cmpPre x y)))) := Lib.hid rfl
  have HB : Below w.heap.size w ((w.alloc (.cells #[.int .i64 a, .int .i64 b, .int .i64 c, va] 51)).alloc (.cells #[.int .i64 a', .int .i64 b', .int .i64 c', vb] 51)) := ((Below.refl _ _).alloc (Nat.le_refl _) _).alloc (by simp) _
  clear ha hb hx hy
  go_enter Tryz.func42, Tryz.ntmps42
  go_wp2_with fail
  have c0 : ((w.alloc (.cells #[.int .i64 a, .int .i64 b, .int .i64 c, va] 51)).alloc (.cells #[.int .i64 a', .int .i64 b', .int .i64 c', vb] 51)).cell? ⟨w.heap.size, 0, none⟩ = some (.int .i64 a) := by simp
  have c1 : ((w.alloc (.cells #[.int .i64 a, .int .i64 b, .int .i64 c, va] 51)).alloc (.cells #[.int .i64 a', .int .i64 b', .int .i64 c', vb] 51)).cell? ⟨w.heap.size, 1, none⟩ = some (.int .i64 b) := by simp
  have c2 : ((w.alloc (.cells #[.int .i64 a, .int .i64 b, .int .i64 c, va] 51)).alloc (.cells #[.int .i64 a', .int .i64 b', .int .i64 c', vb] 51)).cell? ⟨w.heap.size, 2, none⟩ = some (.int .i64 c) := by simp
  have c3 : ((w.alloc (.cells #[.int .i64 a, .int .i64 b, .int .i64 c, va] 51)).alloc (.cells #[.int .i64 a', .int .i64 b', .int .i64 c', vb] 51)).cell? ⟨w.heap.size, 3, none⟩ = some va := by simp
  have e0 : ((w.alloc (.cells #[.int .i64 a, .int .i64 b, .int .i64 c, va] 51)).alloc (.cells #[.int .i64 a', .int .i64 b', .int .i64 c', vb] 51)).cell? ⟨w.heap.size + 1, 0, none⟩ = some (.int .i64 a') := by simp
  have e1 : ((w.alloc (.cells #[.int .i64 a, .int .i64 b, .int .i64 c, va] 51)).alloc (.cells #[.int .i64 a', .int .i64 b', .int .i64 c', vb] 51)).cell? ⟨w.heap.size + 1, 1, none⟩ = some (.int .i64 b') := by simp
  have e2 : ((w.alloc (.cells #[.int .i64 a, .int .i64 b, .int .i64 c, va] 51)).alloc (.cells #[.int .i64 a', .int .i64 b', .int .i64 c', vb] 51)).cell? ⟨w.heap.size + 1, 2, none⟩ = some (.int .i64 c') := by simp
  have e3 : ((w.alloc (.cells #[.int .i64 a, .int .i64 b, .int .i64 c, va] 51)).alloc (.cells #[.int .i64 a', .int .i64 b', .int .i64 c', vb] 51)).cell? ⟨w.heap.size + 1, 3, none⟩ = some vb := by simp
  have l1 : w.heap.size + 1 < ((w.alloc (.cells #[.int .i64 a, .int .i64 b, .int .i64 c, va] 51)).alloc (.cells #[.int .i64 a', .int .i64 b', .int .i64 c', vb] 51)).heap.size := by simp
  obtain ⟨n0, hn0⟩ : ∃ n, n = w.heap.size := ⟨_, rfl⟩
  rw [← hn0] at HB c0 c1 c2 c3 e0 e1 e2 e3 l1 ⊢
  obtain ⟨W, hW⟩ : ∃ W, W = ((w.alloc (.cells #[.int .i64 a, .int .i64 b, .int .i64 c, va] 51)).alloc (.cells #[.int .i64 a', .int .i64 b', .int .i64 c', vb] 51)) := ⟨_, rfl⟩
  rw [← hW] at HB c0 c1 c2 c3 e0 e1 e2 e3 l1 ⊢
  have HW := Lib.hid hW
  clear hW
  have HN0 := Lib.hid hn0
  clear hn0
  go_region_held3 (fun w' => w'.cell? ⟨n0, 0, none⟩ = some (.int .i64 a) ∧ w'.cell? ⟨n0, 1, none⟩ = some (.int .i64 b) ∧ w'.cell? ⟨n0, 2, none⟩ = some (.int .i64 c) ∧ w'.cell? ⟨n0, 3, none⟩ = some va ∧ w'.cell? ⟨n0 + 1, 0, none⟩ = some (.int .i64 a') ∧ w'.cell? ⟨n0 + 1, 1, none⟩ = some (.int .i64 b') ∧ w'.cell? ⟨n0 + 1, 2, none⟩ = some (.int .i64 c') ∧ w'.cell? ⟨n0 + 1, 3, none⟩ = some vb) (first | exact ⟨c0, c1, c2, c3, e0, e1, e2, e3⟩ | go_keep) ((first | (go_at_call 76; (with_reducible refine (cmpInt_any _ _ _).mono ?_); rintro e w' ⟨rfl, rfl⟩) | (go_at_call 77; (with_reducible refine (HP.out _ (by first | exact HN0.out ▸ HB.trans (below_drewN _ _ 1))).mono ?_); rintro e w' ⟨rfl, nq, rfl⟩) | (go_at_call 75; refine (cmpOr4_any _ _ _ _ _ _ _ (heap_alloc_new _ _)).mono ?_; rintro e w' ⟨rfl, rfl⟩)))
  all_goals
    go_wp2_with fail
    go_ret
    exact ⟨1 + nq, _, ret_int HV.out.symm, by rw [← HW.out]⟩

theorem implCompareVersion_any (a b c a' b' c' : Int) (va vb : Value) (x y : List (List UInt8)) (w : World) (ha : RdS w va x) (hb : RdS w vb y) (hx : Sm x) (hy : Sm y) :
    Calls Tryz.prog 42 #[.agg #[.int .i64 a, .int .i64 b, .int .i64 c, va], .agg #[.int .i64 a', .int .i64 b', .int .i64 c', vb]] w fun e w' => e = .returned (.int .i64 (cmpVer a b c x a' b' c' y)) ∧ Below w.heap.size w w' := by
  refine (implCompareVersion_grow a b c a' b' c' va vb x y w ha hb hx hy).mono ?_
  rintro e w' ⟨q, o, rfl, rfl⟩
  exact ⟨rfl, ((((Below.refl _ _).alloc (Nat.le_refl _) _).alloc (by simp) _).trans (below_drewN _ _ q)).alloc (by simp [World.drewN]; omega) _⟩
end Go.Proofs.YtjpclglklmlhlabGreatDoor

/-
  Equal neighbours of a list in order struck: the list of its versions, each once.
-/
namespace Go.Proofs.YtjpclglklmlhlabGreatDoor
open Go.RowKit

theorem cmpT_anti {s t : List UInt8} (h1 : cmpT s t ≤ 0) (h2 : cmpT t s ≤ 0) : cmpT s t = 0 := by
  have := cmp_T.1 s t; omega
theorem get!_of {T : List (List UInt8)} {m : Nat} (h : m < T.length) : T.toArray[m]! = T[m] := by
  rw [getElem!_pos T.toArray m (by simpa using h)]; simp
theorem compact_inv {T : List (List UInt8)} (hok : ∀ t ∈ T, readOk t = true) (hs : ∀ i j (_ : i < j) (hj : j < T.length), cmpT (T[i]'(by omega)) T[j] ≤ 0) :
    ∀ m, m ≤ T.length → Up (Lib.compactUpTo T.toArray m) ∧ ∀ t, t ∈ Lib.compactUpTo T.toArray m ↔ t ∈ T.take m
  | 0, _ => ⟨by simp [Lib.compactUpTo, Up], fun t => by simp [Lib.compactUpTo]⟩
  | m + 1, hm => by
    obtain ⟨hu, hmem⟩ := compact_inv hok hs m (by omega)
    have hlt : m < T.length := by omega
    rw [Lib.compactUpTo_succ, get!_of hlt]
    have htake : T.take (m + 1) = T.take m ++ [T[m]] := List.take_succ_eq_append_getElem hlt
    by_cases hk : Lib.keeps T.toArray m = true
    · rw [if_pos hk]
      refine ⟨?_, fun t => by rw [htake, List.mem_append, List.mem_append, hmem t]⟩
      unfold Up at hu ⊢
      rw [List.pairwise_append]
      refine ⟨hu, by simp, fun t ht x hx => ?_⟩
      simp at hx
      subst hx
      obtain ⟨i, hi, rfl⟩ := List.mem_take_iff_getElem.1 ((hmem t).1 ht)
      have hi' : i < m := by omega
      have h1 := hs i m hi' hlt
      suffices hne : ¬ cmpT T[i] T[m] = 0 by omega
      intro h0
      have heq : T[i] = T[m] := (cmpT_zero (hok _ (List.getElem_mem _)) (hok _ (List.getElem_mem _))).1 h0
      have hprev : T[m - 1]'(by omega) = T[m] := by
        by_cases hd : i = m - 1
        · subst hd; exact heq
        · have a1 := hs i (m - 1) (by omega) (by omega)
          have a2 := hs (m - 1) m (by omega) hlt
          rw [heq] at a1
          exact (cmpT_zero (hok _ (List.getElem_mem _)) (hok _ (List.getElem_mem _))).1 (cmpT_anti a2 a1)
      unfold Lib.keeps at hk
      rw [decide_eq_true_eq] at hk
      rcases hk with h | h
      · omega
      · exact h (by rw [get!_of hlt, get!_of (show m - 1 < T.length by omega), hprev])
    · rw [if_neg hk, List.append_nil]
      refine ⟨hu, fun t => ?_⟩
      rw [hmem t, htake, List.mem_append]
      refine ⟨Or.inl, fun h => h.elim id (fun h => ?_)⟩
      simp at h
      subst h
      unfold Lib.keeps at hk
      rw [decide_eq_true_eq] at hk
      have hm0 : m ≠ 0 := fun h => hk (Or.inl h)
      have he : T[m] = T[m - 1]'(by omega) := by
        by_cases h : T.toArray[m]! = T.toArray[m - 1]!
        · rwa [get!_of hlt, get!_of (show m - 1 < T.length by omega)] at h
        · exact absurd (Or.inr h) hk
      rw [he]
      exact List.mem_take_iff_getElem.2 ⟨m - 1, by omega, rfl⟩
theorem sortOf_compact {ls T : List (List UInt8)} (hT : ∀ t, t ∈ T ↔ t ∈ ls ∧ readOk t = true) (hs : ∀ i j (_ : i < j) (hj : j < T.length), cmpT (T[i]'(by omega)) T[j] ≤ 0) : SortOf ls (Lib.compact T) := by
  have h := compact_inv (fun t ht => ((hT t).1 ht).2) hs T.length (Nat.le_refl _)
  refine ⟨h.1, fun t => ?_⟩
  have := h.2 t
  rw [List.take_length] at this
  exact this.trans (hT t)
end Go.Proofs.YtjpclglklmlhlabGreatDoor

/-
  slices.SortFunc at a row of versions: the row holds the same versions, in order.
-/
namespace Go.Proofs.YtjpclglklmlhlabGreatDoor
open Go.RowKit
open Go.Sort (SWO PermIn SortedIn HoldsK flatK grow)

/-- A version by its text, and the value of its identifiers. -/
abbrev VI := List UInt8 × Value
def cv (x : VI) : Int × Int × Int × Value := (readA x.1 0, readA x.1 1, readA x.1 2, x.2)
def vi (X : List VI) (i : Nat) : VI := X.getD i ([], .slice none 0 0)
def encI (X : List VI) (i : Nat) : List Value := vc4 (cv (vi X i))
/-- v is the call's own row of these versions, and their identifiers lie where they say. -/
def VerRow (w : World) (base : Nat) (v : Value) (X : List VI) : Prop := Vers w base v (X.map cv) ∧ ∀ x ∈ X, Strs w 0 x.2 (readP x.1)
/-- The value v reads as these versions. -/
def RdV (w : World) (v : Value) (X : List VI) : Prop := ∃ A cap, v = .slice A X.length cap ∧ ∀ k (h : k < X.length), ∃ g, A = some ⟨g, 0, none⟩ ∧ g < w.heap.size ∧ w.cell? ⟨g, k * 4, none⟩ = some (.int .i64 (readA X[k].1 0)) ∧ w.cell? ⟨g, k * 4 + 1, none⟩ = some (.int .i64 (readA X[k].1 1)) ∧ w.cell? ⟨g, k * 4 + 2, none⟩ = some (.int .i64 (readA X[k].1 2)) ∧ w.cell? ⟨g, k * 4 + 3, none⟩ = some X[k].2 ∧ Strs w 0 X[k].2 (readP X[k].1)
theorem RdV.below {w w' : World} {v : Value} {X : List VI} (h : RdV w v X) (hb : Below w.heap.size w w') : RdV w' v X := by
  obtain ⟨A, cap, hv, hc⟩ := h
  refine ⟨A, cap, hv, fun k hk => ?_⟩
  obtain ⟨g, hA, hg, h0, h1, h2, h3, h4⟩ := hc k hk
  exact ⟨g, hA, Nat.lt_of_lt_of_le hg hb.size, keepC hb h0, keepC hb h1, keepC hb h2, keepC hb h3, h4.below hb⟩

theorem flat4_get : ∀ (L : List (Int × Int × Int × Value)) (k j : Nat) (h : k < L.length), j < 4 → (flat4 L)[k * 4 + j]? = (vc4 L[k])[j]?
  | [], k, j, h, _ => by simp at h
  | a :: t, 0, j, _, hj => by
    rw [show 0 * 4 + j = j by omega]
    show (vc4 a ++ flat4 t)[j]? = _
    rw [List.getElem?_append_left (by simpa [vc4] using hj)]
    rfl
  | a :: t, k + 1, j, h, hj => by
    have := flat4_get t k j (by simpa using h) hj
    show (vc4 a ++ flat4 t)[(k + 1) * 4 + j]? = _
    rw [List.getElem?_append_right (by simp [vc4]; omega)]
    simp only [vc4, List.length_cons, List.length_nil]
    rw [show (k + 1) * 4 + j - (0 + 1 + 1 + 1 + 1) = k * 4 + j by omega, this]
    rfl

theorem sw_heap (enc : Nat → List Value) (k : Nat) (w : World) (g off m : Nat) (dk : Array Nat) (os : Array Obj) (b : Nat) (hb : b < w.heap.size) (hne : b ≠ g) : (sortWorldK enc k w g off m dk os).heap[b]? = w.heap[b]? := by
  unfold sortWorldK
  rw [Go.Sort.heap_grow_old _ _ (by rw [Go.Sort.size_putRowK]; exact hb)]
  unfold Go.Sort.putRowK Go.Sort.putRow Go.Sort.mapBlock Go.Sort.ahead
  show (w.heap.modify g _)[b]? = _
  rw [Array.getElem?_modify, if_neg (fun e => hne e.symm)]
theorem sw_grown (enc : Nat → List Value) (k : Nat) (w : World) (g off m : Nat) (dk : Array Nat) (os : Array Obj) : w.grownBy (sortWorldK enc k w g off m dk os) (some g) :=
  ⟨rfl, rfl, rfl, size_sortWorldK_c enc k w g off m dk os, fun b hb hne => sw_heap enc k w g off m dk os b hb (fun e => hne (by rw [e]))⟩

theorem alloc3 (W : World) (o1 o2 o : Obj) (q : Nat) : (((W.alloc o1).alloc o2).drewN q).alloc o = grow (W.drewN q) #[o1, o2, o] := by
  rw [Go.Sort.alloc_eq_grow, Go.Sort.alloc_eq_grow, Go.Sort.alloc_eq_grow, Go.Sort.grow_grow]
  show grow (grow (W.drewN q) (#[o1] ++ #[o2])) #[o] = _
  rw [Go.Sort.grow_grow]
  rfl
theorem swo_T (X : List VI) : SWO (ltOf fun i j : Nat => cmpT (vi X i).1 (vi X j).1) where
  irrefl x := by
    have := cmp_T.1 (vi X x).1 (vi X x).1
    unfold ltOf; simp; omega
  trans x y z h1 h2 := by
    unfold ltOf at *
    simp at *
    exact cmpT_lt_trans h1 (by omega)
  ntrans x y z h1 h2 := by
    unfold ltOf at *
    simp at *
    have a := cmp_T.1 (vi X x).1 (vi X y).1
    have b := cmp_T.1 (vi X y).1 (vi X z).1
    have c := cmp_T.1 (vi X x).1 (vi X z).1
    have := cmp_T.2 (vi X z).1 (vi X y).1 (vi X x).1 (by omega) (by omega)
    omega

theorem vi_of {X : List VI} {p : VI → Prop} (h : ∀ x ∈ X, p x) (h0 : p ([], .slice none 0 0)) (i : Nat) : p (vi X i) := by
  unfold vi
  rw [List.getD_eq_getElem?_getD]
  cases hi : X[i]? with
  | none => exact h0
  | some x => exact h x (List.mem_of_getElem? hi)
theorem vi_get {X : List VI} {i : Nat} (h : i < X.length) : vi X i = X[i] := by unfold vi; simp [h]

set_option maxRecDepth 100000 in
set_option maxHeartbeats 1000000 in
theorem sortFunc_any (w : World) (base g cap : Nat) (X : List VI) (h : VerRow w base (.slice (some ⟨g, 0, none⟩) X.length cap) X) (hn : X.length ≤ 1048576) (hsm : ∀ x ∈ X, Sm (readP x.1)) :
    Calls Tryz.prog 81 #[.slice (some ⟨g, 0, none⟩) X.length cap, .func (.func 42) #[] #[]] w fun e w' => e = .returned (.tuple #[]) ∧ ∃ Y : List VI, Y.Perm X ∧ (∀ i j (_ : i < j) (hj : j < Y.length), cmpT (Y[i]'(by omega)).1 Y[j].1 ≤ 0) ∧ RdV w' (.slice (some ⟨g, 0, none⟩) X.length cap) Y ∧ Below base w w' := by
  obtain ⟨hV, hP⟩ := h
  obtain ⟨cur, hg, hbase⟩ : ∃ cur, w.heap[g]? = some (.cells cur 51) ∧ base ≤ g := by
    rcases hV.2 with ⟨hv, _⟩ | ⟨g', cap', cur, hv, hb, hh, _⟩
    · cases hv
    · simp only [Value.slice.injEq, Option.some.injEq, Addr.mk.injEq, and_true] at hv
      obtain ⟨rfl, _, _⟩ := hv
      exact ⟨cur, hh, hb⟩
  have hlt := lt_of_heap hg
  have keepS : ∀ (w' : World) (u : Value) (ls : List (List UInt8)), w.grownBy w' (some g) → Strs w 0 u ls → Strs w' 0 u ls := fun w' u ls hgr hS => World.ownsRow.kept hS hgr (by
    rcases hS.2 with ⟨rfl, _⟩ | ⟨g', cap', cur', rfl, _, hh, _⟩
    · left; rfl
    · right
      simp only [Value.ownBlock, ne_eq, Option.some.injEq]
      rintro rfl
      rw [hg] at hh
      simp only [Option.some.injEq, Obj.cells.injEq] at hh
      exact absurd hh.2.1 (by decide))
  have hStr : ∀ i, Strs w 0 (vi X i).2 (readP (vi X i).1) := vi_of (p := fun x => Strs w 0 x.2 (readP x.1)) hP (Strs.nil w 0)
  have hSm : ∀ i, Sm (readP (vi X i).1) := vi_of (p := fun x => Sm (readP x.1)) hsm sm_nil
  have hH : HoldsK (encI X) 4 w g 0 (Array.range X.length) := by
    intro j hj
    rw [Go.Sort.size_flatK, Array.size_range] at hj
    refine ⟨?_, World.ownsRow.frozenAt (base := base) (e := 51) (size := 4) (n := X.length) (cap := cap) (xs := flat4 (X.map cv)) (by have := hV; unfold Vers at this; rw [List.length_map] at this; exact this) _⟩
    rw [Go.Sort.get_flatK _ _ _ _ (by simpa using hj), Nat.zero_add]
    have hk : j / 4 < X.length := by omega
    have hd : (Array.range X.length)[j / 4]! = j / 4 := by rw [getElem!_pos _ _ (by simpa using hk)]; simp
    rw [hd]
    have hf := flat4_get (X.map cv) (j / 4) (j % 4) (by simpa using hk) (by omega)
    rw [show j / 4 * 4 + j % 4 = j by omega] at hf
    have hm : j % 4 < (encI X (j / 4)).length := by show j % 4 < 4; omega
    have := World.ownsRow.cells (g := g) hV rfl j ((encI X (j / 4))[j % 4]!) (by
      have e : vc4 ((X.map cv)[j / 4]'(by simpa using hk)) = encI X (j / 4) := by unfold encI; rw [vi_get hk, List.getElem_map]
      have e2 : (encI X (j / 4))[j % 4]! = (encI X (j / 4))[j % 4] := getElem!_pos (encI X (j / 4)) (j % 4) hm
      rw [hf, e, e2, List.getElem?_eq_getElem hm])
    rw [Go.WideShapes.add_plain, Nat.zero_add] at this
    exact this
  have hcmp : CmpLays Tryz.prog 42 #[] (encI X) 4 (fun i j : Nat => cmpT (vi X i).1 (vi X j).1) g 0 (Array.range X.length).size w := fun m os dk _ x y => by
    have hgr := sw_grown (encI X) 4 w g 0 m dk os
    have := implCompareVersion_grow (readA (vi X x).1 0) (readA (vi X x).1 1) (readA (vi X x).1 2) (readA (vi X y).1 0) (readA (vi X y).1 1) (readA (vi X y).1 2) (vi X x).2 (vi X y).2 (readP (vi X x).1) (readP (vi X y).1) _ (RdS.of_strs (keepS _ _ _ hgr (hStr x))) (RdS.of_strs (keepS _ _ _ hgr (hStr y))) (hSm x) (hSm y)
    exact this.mono fun e w' ⟨q, o, he, hw⟩ => ⟨he, q, _, hw.trans (alloc3 _ _ _ _ _)⟩
  have eg : ∀ args w, (callFunc 42 args).run Tryz.prog w = .ok (.enter 42 args) w := enters_of Tryz.func42 (by kernel_rfl) rfl
  have hcon := AnyQ.slices_SortFunc Tryz.laysSort 4 Tryz.isAgg51 Tryz.sizeOf51 (encI X) (fun _ => rfl) (fun x v hv => by
    obtain ⟨uA, uc, hu⟩ := (hStr x).slice
    simp [encI, vc4, cv] at hv
    rcases hv with rfl | rfl | rfl | rfl
    · rfl
    · rfl
    · rfl
    · rw [hu]; rfl) _ (swo_T X) 42 #[] g 0 cap (Array.range X.length) w eg hcmp hH hlt (by simp; omega)
  rw [Array.size_range] at hcon
  refine hcon.mono ?_
  rintro e w' ⟨rfl, d', n, os, hp, hs, rfl⟩
  have hsz : d'.size = X.length := by have := hp.1; simpa using this
  have hperm : d'.toList.Perm (List.range X.length) := by
    have := hp.2.2
    rw [← hsz, Array.extract_size] at this
    rw [hsz] at this
    have e : (Array.range X.length).extract 0 X.length = Array.range X.length := by simp
    rw [e] at this
    simpa using this
  have hY : ((List.range X.length).map (vi X)) = X := by
    apply List.ext_getElem (by simp)
    intro i h1 h2
    simp at h1
    simp [vi_get h1]
  have hH' := holdsK_sortWorldK_c (encI X) 4 w g 0 (Array.range X.length) d' n os hH hlt (by simpa using hsz)
  have hgr := sw_grown (encI X) 4 w g 0 n d' os
  have gd : ∀ i (h : i < d'.size), d'[i]! = d'[i] := fun i h => getElem!_pos d' i h
  refine ⟨rfl, d'.toList.map (vi X), ?_, ?_, ?_, ?_⟩
  · have := hperm.map (vi X); rwa [hY] at this
  · intro i j hij hj
    simp at hj
    have := hs i j (Nat.zero_le _) hij (by omega)
    unfold ltOf at this
    simp at this
    rw [gd i (by omega), gd j hj] at this
    have c := cmp_T.1 (vi X d'[i]).1 (vi X d'[j]).1
    simp
    omega
  · refine ⟨some ⟨g, 0, none⟩, cap, by simp [hsz], fun k hk => ?_⟩
    simp at hk
    have hc : ∀ r, r < 4 → (sortWorldK (encI X) 4 w g 0 n d' os).cell? ⟨g, k * 4 + r, none⟩ = some ((encI X d'[k])[r]!) := fun r hr => by
      have := (hH' (k * 4 + r) (by rw [Go.Sort.size_flatK]; omega)).1
      rw [Go.Sort.get_flatK _ _ _ _ (by omega), Nat.zero_add, show (k * 4 + r) / 4 = k by omega, show (k * 4 + r) % 4 = r by omega, gd k hk] at this
      exact this
    simp only [List.getElem_map, Array.getElem_toList]
    exact ⟨g, rfl, Nat.lt_of_lt_of_le hlt hgr.size, hc 0 (by omega), hc 1 (by omega), hc 2 (by omega), hc 3 (by omega), keepS _ _ _ hgr (hStr _)⟩
  · exact (Below.refl base w).grown hgr (by omega) (fun g' hg' => by cases hg'; exact hbase)
end Go.Proofs.YtjpclglklmlhlabGreatDoor

/-
  slices.Compact at texts, as the library lays it, at this seat.
-/
namespace Go.Proofs
open Go.Shelf
def Tryz.laysCompact_ren : Go.Shelf.Ren := ⟨fun | 194 => 83 | n => n, fun | 31 => 22 | 9 => 9 | 3 => 3 | 4 => 4 | 0 => 0 | n => n, fun | n => n⟩
theorem Tryz.laysCompact : Go.Proofs.Lays.n194 Tryz.prog Tryz.laysCompact_ren := {
  mixed := by kernel_rfl
  f194 := Tryz.func83.trans (congrArg some (by kernel_rfl))
  t0 := Tryz.underlying0
  a0 := Tryz.isAgg0
  z0 := Tryz.sizeOf0
  v0 := Tryz.zeroValue0
  t3 := Tryz.underlying3
  a3 := Tryz.isAgg3
  z3 := Tryz.sizeOf3
  v3 := Tryz.zeroValue3
  t4 := Tryz.underlying4
  a4 := Tryz.isAgg4
  z4 := Tryz.sizeOf4
  v4 := Tryz.zeroValue4
  t9 := Tryz.underlying9
  a9 := Tryz.isAgg9
  z9 := Tryz.sizeOf9
  v9 := Tryz.zeroValue9
  t31 := Tryz.underlying22
  a31 := Tryz.isAgg22
  z31 := Tryz.sizeOf22
  v31 := Tryz.zeroValue22 }
end Go.Proofs

/-
  Rows of versions and of texts: append of a version; slices.Compact of a row of texts.
-/
namespace Go.Proofs.YtjpclglklmlhlabGreatDoor
open Go.RowKit

/-- append(versions, v) at a plain region's list. -/
theorem wpList_append_ver {w : World} {ops : Array Oper} {rest : List Oper} {o : Oper} {a : Act} {Q : Exit → Act → World → Prop} (hgd : o.guard = none) (s x : Operand)
    (ho : o.op = .call { callee := .builtin .append, args := #[s, x], argTypes := #[94, 94] })
    (base : Nat) (v : Value) (l : List (Int × Int × Int × Value)) (hs : a.eval s = v) (hown : Vers w base v l) (B c : Nat) (T : TypeId) (fr : Nat × Nat) (p q r : Int) (u : Value) (hu : u.oneCell' = true)
    (hx : a.eval x = .slice (some ⟨B, 0, none⟩) 1 c) (hB : w.heap[B]? = some (.cells #[.int .i64 p, .int .i64 q, .int .i64 r, u] T fr)) (hlen : l.length + 1 ≤ 16777216) (hbase : base ≤ w.heap.size)
    (h : ∀ v' w', Vers w' base v' (l ++ [(p, q, r, u)]) → w.grownBy w' v.ownBlock → wpList Tryz.prog ops Q rest (a.put o.dst v') w') : wpList Tryz.prog ops Q (o :: rest) a w := by
  refine wpList_plain hgd fun _ hK => ?_
  obtain ⟨v', w', hr, h2, h3⟩ := run_append_ver w o.type base v l hown B c T fr p q r u hu hB hlen hbase
  unfold Oper.wp execOp
  simp only [ho, resolve, invoke, builtin, Sem.run_bind, Sem.run_pure, Result.andThen_ok, List.map_toArray, List.map_cons, List.map_nil, hs, hx, hr]
  exact hK _ _ (h v' w' h2 h3)

theorem Vers.form {w : World} {base : Nat} {v : Value} {l : List (Int × Int × Int × Value)} (h : Vers w base v l) : (v = .slice none 0 0 ∧ l = []) ∨ ∃ g cap, v = .slice (some ⟨g, 0, none⟩) l.length cap ∧ base ≤ g ∧ g < w.heap.size := by
  rcases h.2 with ⟨hv, hl⟩ | ⟨g, cap, cur, hv, hb, hh, _⟩
  · left; exact ⟨hv, List.length_eq_zero_iff.1 hl⟩
  · right; exact ⟨g, cap, hv, hb, (Array.getElem?_eq_some_iff.1 hh).1⟩
theorem Vers.owned {w : World} {base : Nat} {v : Value} {l : List (Int × Int × Int × Value)} (h : Vers w base v l) : ∀ g, v.ownBlock = some g → base ≤ g := by
  intro g hg
  rcases h.form with ⟨rfl, _⟩ | ⟨g', cap, rfl, hb, _⟩
  · simp [Value.ownBlock] at hg
  · simp [Value.ownBlock] at hg; omega
theorem Vers.below {w w' : World} {base : Nat} {v : Value} {l : List (Int × Int × Int × Value)} (h : Vers w base v l) (hb : Below w.heap.size w w') : Vers w' base v l :=
  World.ownsRow.kept h (row := none) ⟨hb.os, hb.tape, hb.output, hb.size, fun i hi _ => hb.block i hi⟩ (by
    rcases h.form with ⟨rfl, _⟩ | ⟨g, cap, rfl, _, _⟩
    · left; rfl
    · right; simp [Value.ownBlock])
theorem Vers.empty (w : World) (base : Nat) (hb : base ≤ w.heap.size) : Vers (w.alloc (.cells #[] 51)) base (.slice (some ⟨w.heap.size, 0, none⟩) 0 0) [] := by
  have h := World.ownsRow_lit (base := base) (e := 51) (size := 4) w #[] 0 hb (by unfold maxLen; omega) (by simp)
  simpa [Vers, flat4] using h
theorem VerRow.below {w w' : World} {base : Nat} {v : Value} {X : List VI} (h : VerRow w base v X) (hb : Below w.heap.size w w') : VerRow w' base v X := ⟨h.1.below hb, fun x hx => (h.2 x hx).below hb⟩
/-- A row of versions that grows leaves texts as they were. -/
theorem Strs.grownV {w w' : World} {base : Nat} {v u : Value} {l : List (Int × Int × Int × Value)} {ls : List (List UInt8)} (h : Strs w 0 u ls) (hV : Vers w base v l) (hg : w.grownBy w' v.ownBlock) : Strs w' 0 u ls :=
  World.ownsRow.kept h hg (by
    rcases h.2 with ⟨rfl, _⟩ | ⟨g', cap', cur', rfl, _, hh, _⟩
    · left; rfl
    · right
      rcases hV.2 with ⟨rfl, _⟩ | ⟨g, cap, cur, rfl, _, hgg, _⟩
      · simp [Value.ownBlock]
      · simp only [Value.ownBlock, ne_eq, Option.some.injEq]
        rintro rfl
        rw [hgg] at hh
        simp only [Option.some.injEq, Obj.cells.injEq] at hh
        exact absurd hh.2.1 (by decide))

/-- A run of stores into a row of texts. -/
theorem Strs.setMany {base b cap : Nat} : ∀ (vs : List (List UInt8)) (k : Nat) (L : List (List UInt8)) (w : World), Strs w base (.slice (some ⟨b, 0, none⟩) L.length cap) L → k + vs.length ≤ L.length →
    Strs (w.setCells b k (vs.map sv)) base (.slice (some ⟨b, 0, none⟩) L.length cap) (L.take k ++ vs ++ L.drop (k + vs.length))
  | [], k, L, w, h, _ => by simpa [World.setCells] using h
  | x :: vs, k, L, w, h, hk => by
    simp only [List.length_cons] at hk
    have h1 := h.set k x
    have h2 := Strs.setMany vs (k + 1) (L.set k x) _ h1 (by simp; omega)
    rw [List.length_set] at h2
    have e : (L.set k x).take (k + 1) ++ vs ++ (L.set k x).drop (k + 1 + vs.length) = L.take k ++ (x :: vs) ++ L.drop (k + (x :: vs).length) := by
      rw [List.drop_set_of_lt (by omega)]
      rw [List.take_succ_eq_append_getElem (by simp; omega), List.take_set_of_le (by omega), List.getElem_set_self]
      simp only [List.append_assoc, List.cons_append, List.nil_append, List.length_cons]
      rw [show k + 1 + vs.length = k + (vs.length + 1) by omega]
    rw [e] at h2
    exact h2
theorem below_setCells {n b : Nat} {w0 : World} (hb : n ≤ b) : ∀ (vs : List Value) (k : Nat) (w : World), Below n w0 w → Below n w0 (w.setCells b k vs)
  | [], _, _, h => h
  | v :: r, k, _, h => below_setCells hb r (k + 1) _ (h.setCell (p := ⟨b, k, none⟩) hb v)
theorem Strs.cut {w : World} {base b cap : Nat} {A B : List (List UInt8)} (h : Strs w base (.slice (some ⟨b, 0, none⟩) (A ++ B).length cap) (A ++ B)) : Strs w base (.slice (some ⟨b, 0, none⟩) A.length cap) A := by
  rcases h.2 with ⟨hv, _⟩ | ⟨g, cap', cur, hv, hb, hh, hc, hm, hs, ht⟩
  · cases hv
  · refine ⟨by simp, .inr ⟨g, cap', cur, ?_, hb, hh, ?_, hm, hs, ?_⟩⟩
    · simp only [Value.slice.injEq] at hv; rw [hv.1, hv.2.2]
    · simp at hc; omega
    · have := congrArg (List.take A.length) ht
      rw [List.take_take] at this
      simp only [Nat.mul_one, List.length_append, List.map_append] at this ⊢
      rw [show min A.length (A.length + B.length) = A.length by omega] at this
      rw [this, List.take_append_of_le_length (by simp), List.take_of_length_le (by simp)]

theorem compact_any (w : World) (base b cap : Nat) (T : List (List UInt8)) (h : Strs w base (.slice (some ⟨b, 0, none⟩) T.length cap) T) (hn : T.length ≤ 1048576) :
    Calls Tryz.prog 83 #[.slice (some ⟨b, 0, none⟩) T.length cap] w fun e w' => ∃ g c, e = .returned (.slice (some ⟨g, 0, none⟩) (Lib.compact T).length c) ∧ Strs w' base (.slice (some ⟨g, 0, none⟩) (Lib.compact T).length c) (Lib.compact T) ∧ Below base w w' := by
  obtain ⟨hb, hcap⟩ : base ≤ b ∧ T.length ≤ cap := by
    rcases h.2 with ⟨hv, _⟩ | ⟨g, cap', cur, hv, hb, _, hc, _⟩
    · cases hv
    · simp only [Value.slice.injEq, Option.some.injEq, Addr.mk.injEq, and_true] at hv
      omega
  have hSx : Lib.strsOf (fun i => (⟨(T.getD i []).toArray⟩ : ByteArray)) T.length = T := by
    unfold Lib.strsOf
    apply List.ext_getElem (by simp)
    intro i h1 h2
    simp [h2]
  have hcon := Any.slices_Compact_string_cells Tryz.laysCompact b 0 T.length cap (fun i => (⟨(T.getD i []).toArray⟩ : ByteArray)) w (by omega) hcap (fun i hi => by
      rw [Nat.zero_add, h.cell i hi]
      simp [sv, hi]) (fun j _ => by rw [Nat.zero_add]; exact World.ownsRow.frozenAt h j)
  rw [hSx] at hcon
  refine hcon.mono ?_
  rintro e w' ⟨rfl, q, rfl⟩
  have hle := Lib.compact_length_le T
  have hl : (Lib.compact T ++ List.replicate (T.length - (Lib.compact T).length) []).length = T.length := by simp; omega
  have h2 := Strs.setMany (Lib.compact T ++ List.replicate (T.length - (Lib.compact T).length) []) 0 T (w.drewN q) (h.below (below_drewN _ _ q)) (by omega)
  rw [List.take_zero, List.nil_append, Nat.zero_add, hl, List.drop_length, List.append_nil] at h2
  have h3 : Strs ((w.drewN q).setCells b 0 ((Lib.compact T ++ List.replicate (T.length - (Lib.compact T).length) []).map sv)) base (.slice (some ⟨b, 0, none⟩) (Lib.compact T ++ List.replicate (T.length - (Lib.compact T).length) []).length cap) (Lib.compact T ++ List.replicate (T.length - (Lib.compact T).length) []) := by rw [hl]; exact h2
  exact ⟨b, cap, rfl, h3.cut, below_setCells hb _ _ _ (below_drewN _ _ q)⟩
end Go.Proofs.YtjpclglklmlhlabGreatDoor

/-
  strings.Join, as the library lays it, at this seat.
-/
namespace Go.Proofs
open Go.Shelf
def Tryz.laysJoin_ren : Go.Shelf.Ren := ⟨fun | 156 => 54 | 165 => 87 | 166 => 88 | 169 => 89 | 240 => 127 | 241 => 128 | 276 => 158 | 277 => 159 | n => n, fun | 31 => 22 | 9 => 9 | 3 => 3 | 4 => 4 | 0 => 0 | 20 => 20 | 72 => 103 | 76 => 107 | 70 => 101 | 37 => 35 | 75 => 106 | 127 => 138 | 164 => 162 | 5 => 5 | 80 => 109 | n => n, fun | n => n⟩
theorem Tryz.laysJoin : Go.Proofs.Lays.n156 Tryz.prog Tryz.laysJoin_ren := {
  mixed := by kernel_rfl
  f156 := Tryz.func54.trans (congrArg some (by kernel_rfl))
  f165 := Tryz.func87.trans (congrArg some (by kernel_rfl))
  f166 := Tryz.func88.trans (congrArg some (by kernel_rfl))
  f169 := Tryz.func89.trans (congrArg some (by kernel_rfl))
  f240 := Tryz.func127.trans (congrArg some (by kernel_rfl))
  f241 := Tryz.func128.trans (congrArg some (by kernel_rfl))
  f276 := Tryz.func158.trans (congrArg some (by kernel_rfl))
  f277 := Tryz.func159.trans (congrArg some (by kernel_rfl))
  t0 := Tryz.underlying0
  a0 := Tryz.isAgg0
  z0 := Tryz.sizeOf0
  v0 := Tryz.zeroValue0
  t3 := Tryz.underlying3
  a3 := Tryz.isAgg3
  z3 := Tryz.sizeOf3
  v3 := Tryz.zeroValue3
  t4 := Tryz.underlying4
  a4 := Tryz.isAgg4
  z4 := Tryz.sizeOf4
  v4 := Tryz.zeroValue4
  t9 := Tryz.underlying9
  a9 := Tryz.isAgg9
  z9 := Tryz.sizeOf9
  v9 := Tryz.zeroValue9
  t20 := Tryz.underlying20
  a20 := Tryz.isAgg20
  z20 := Tryz.sizeOf20
  v20 := Tryz.zeroValue20
  t31 := Tryz.underlying22
  a31 := Tryz.isAgg22
  z31 := Tryz.sizeOf22
  v31 := Tryz.zeroValue22
  t37 := Tryz.underlying35
  a37 := Tryz.isAgg35
  z37 := Tryz.sizeOf35
  v37 := Tryz.zeroValue35
  t70 := Tryz.underlying101
  a70 := Tryz.isAgg101
  z70 := Tryz.sizeOf101
  v70 := Tryz.zeroValue101
  t72 := Tryz.underlying103
  a72 := Tryz.isAgg103
  z72 := Tryz.sizeOf103
  v72 := Tryz.zeroValue103
  t75 := Tryz.underlying106
  a75 := Tryz.isAgg106
  z75 := Tryz.sizeOf106
  v75 := Tryz.zeroValue106
  t76 := Tryz.underlying107
  a76 := Tryz.isAgg107
  z76 := Tryz.sizeOf107
  v76 := Tryz.zeroValue107
  t127 := Tryz.underlying138
  a127 := Tryz.isAgg138
  z127 := Tryz.sizeOf138
  v127 := Tryz.zeroValue138
  t164 := Tryz.underlying162
  a164 := Tryz.isAgg162
  z164 := Tryz.sizeOf162
  v164 := Tryz.zeroValue162 }
end Go.Proofs

/-
  strings.Join of a list of texts at a dot.
-/
namespace Go.Proofs
open Go.Shelf
theorem Tryz.extraJoin : Builder.Extra Tryz.prog Tryz.laysJoin_ren where
  sizeBuilder := by kernel_rfl
  liesBuilder := by kernel_rfl
  t5 := Tryz.underlying5
  a5 := Tryz.isAgg5
  z5 := Tryz.sizeOf5
  v5 := Tryz.zeroValue5
  infoByte := by kernel_rfl
  cellsByte := by kernel_rfl
  sizeByte := by kernel_rfl
  neB5 := by decide
namespace YtjpclglklmlhlabGreatDoor
open Go.RowKit

theorem inter_flat (x : List UInt8) : ∀ xs : List (List UInt8), Lib.join (x :: xs) [46] = x ++ xs.flatMap (fun y => 46 :: y)
  | [] => by simp [Lib.join, List.intercalate]
  | y :: ys => by
    have := inter_flat y ys
    unfold Lib.join at this ⊢
    simp [List.intercalate] at this ⊢
    rw [this]
theorem join_pre {ls : List (List UInt8)} (h : ls ≠ []) : preText ls = 45 :: Lib.join ls [46] := by
  cases ls with
  | nil => exact absurd rfl h
  | cons x xs => rw [inter_flat]; rfl
theorem flat_len (ls : List (List UInt8)) (h : ∀ l ∈ ls, l.length ≤ 20) : (ls.flatMap (fun y => (46 : UInt8) :: y)).length ≤ 21 * ls.length := by
  induction ls with
  | nil => simp
  | cons x xs ih =>
    have := ih (fun l hl => h l (by simp [hl]))
    have := h x (by simp)
    simp only [List.flatMap_cons, List.length_append, List.length_cons]
    omega
theorem join_len {ls : List (List UInt8)} (h : ∀ l ∈ ls, l.length ≤ 20) (h5 : ls.length ≤ 5) : (Lib.join ls [46]).length ≤ 200 := by
  cases ls with
  | nil => simp [Lib.join_nil]
  | cons x xs =>
    rw [inter_flat]
    have := flat_len xs (fun l hl => h l (by simp [hl]))
    have := h x (by simp)
    simp at h5
    rw [List.length_append]
    omega

theorem joinDot_any (w : World) (base g cap : Nat) (ls : List (List UInt8)) (h : Strs w base (.slice (some ⟨g, 0, none⟩) ls.length cap) ls) (h20 : ∀ l ∈ ls, l.length ≤ 20) (h5 : ls.length ≤ 5) :
    Calls Tryz.prog 54 #[.slice (some ⟨g, 0, none⟩) ls.length cap, .string ⟨#[46]⟩] w fun e w' => e = .returned (.string ⟨(Lib.join ls [46]).toArray⟩) ∧ Below w.heap.size w w' := by
  obtain ⟨hlen, hr⟩ := h
  have hS : Strs w base (.slice (some ⟨g, 0, none⟩) ls.length cap) ls := ⟨hlen, hr⟩
  have hcap : ls.length ≤ cap := by
    rcases hr with ⟨hv, _⟩ | ⟨g', cap', cur, hv, _, _, hc, _⟩
    · cases hv
    · simp only [Value.slice.injEq] at hv; omega
  have hg : g < w.heap.size := by
    rcases hS.form with ⟨h', _⟩ | ⟨g', cap', h', _, hg'⟩
    · cases h'
    · simp only [Value.slice.injEq, Option.some.injEq, Addr.mk.injEq, and_true] at h'
      rw [h'.1]; exact hg'
  have hm : (ls.map (fun l => (⟨l.toArray⟩ : ByteArray))).map (fun x => x.data.toList) = ls := by rw [List.map_map]; exact List.map_id'' (fun l => rfl) ls
  have hJ := Any.strings_Join Tryz.laysJoin Tryz.extraJoin g 0 cap (ls.map (fun l => (⟨l.toArray⟩ : ByteArray))) ⟨#[46]⟩ w (fun j x hx => by
      rw [List.getElem?_map] at hx
      cases hj : ls[j]? with
      | none => rw [hj] at hx; simp at hx
      | some y =>
        rw [hj] at hx
        simp at hx
        subst hx
        obtain ⟨hl, rfl⟩ := List.getElem?_eq_some_iff.1 hj
        rw [Nat.zero_add]
        exact hS.cell j hl) hg (by simp; omega) (by simpa using hcap) (by rw [hm]; have := join_len h20 h5; show (Lib.join ls [46]).length ≤ _; omega)
  rw [hm] at hJ
  have e : (ls.map (fun l => (⟨l.toArray⟩ : ByteArray))).length = ls.length := by simp
  rw [e] at hJ
  exact hJ
end YtjpclglklmlhlabGreatDoor
end Go.Proofs

/-
  strconv.Itoa, as the library lays it, at this seat.
-/
namespace Go.Proofs
open Go.Shelf
def Tryz.laysItoa_ren : Go.Shelf.Ren := ⟨fun | 171 => 157 | 243 => 174 | 246 => 185 | 283 => 186 | 284 => 187 | 285 => 188 | 286 => 189 | 129 => 156 | 317 => 190 | 318 => 191 | 319 => 192 | 320 => 193 | 337 => 194 | 338 => 195 | n => n, fun | 3 => 3 | 9 => 9 | 2 => 2 | 4 => 4 | 171 => 191 | 0 => 0 | 53 => 161 | 37 => 35 | 5 => 5 | 173 => 193 | 212 => 196 | 51 => 159 | 20 => 20 | 213 => 197 | 46 => 136 | 232 => 198 | 233 => 199 | n => n, fun | 17 => 3 | 18 => 4 | 19 => 5 | n => n⟩
theorem Tryz.laysItoa : Go.Proofs.LaysM.n171 Tryz.prog Tryz.laysItoa_ren := {
  mixed := by kernel_rfl
  f129 := Tryz.func156.trans (congrArg some (by kernel_rfl))
  f171 := Tryz.func157.trans (congrArg some (by kernel_rfl))
  f243 := Tryz.func174.trans (congrArg some (by kernel_rfl))
  f246 := Tryz.func185.trans (congrArg some (by kernel_rfl))
  f283 := Tryz.func186.trans (congrArg some (by kernel_rfl))
  f284 := Tryz.func187.trans (congrArg some (by kernel_rfl))
  f285 := Tryz.func188.trans (congrArg some (by kernel_rfl))
  f286 := Tryz.func189.trans (congrArg some (by kernel_rfl))
  f317 := Tryz.func190.trans (congrArg some (by kernel_rfl))
  f318 := Tryz.func191.trans (congrArg some (by kernel_rfl))
  f319 := Tryz.func192.trans (congrArg some (by kernel_rfl))
  f320 := Tryz.func193.trans (congrArg some (by kernel_rfl))
  f337 := Tryz.func194.trans (congrArg some (by kernel_rfl))
  f338 := Tryz.func195.trans (congrArg some (by kernel_rfl))
  t0 := Tryz.underlying0
  a0 := Tryz.isAgg0
  z0 := Tryz.sizeOf0
  v0 := Tryz.zeroValue0
  t2 := Tryz.underlying2
  a2 := Tryz.isAgg2
  z2 := Tryz.sizeOf2
  v2 := Tryz.zeroValue2
  t3 := Tryz.underlying3
  a3 := Tryz.isAgg3
  z3 := Tryz.sizeOf3
  v3 := Tryz.zeroValue3
  t4 := Tryz.underlying4
  a4 := Tryz.isAgg4
  z4 := Tryz.sizeOf4
  v4 := Tryz.zeroValue4
  t5 := Tryz.underlying5
  a5 := Tryz.isAgg5
  z5 := Tryz.sizeOf5
  v5 := Tryz.zeroValue5
  t9 := Tryz.underlying9
  a9 := Tryz.isAgg9
  z9 := Tryz.sizeOf9
  v9 := Tryz.zeroValue9
  t20 := Tryz.underlying20
  a20 := Tryz.isAgg20
  z20 := Tryz.sizeOf20
  v20 := Tryz.zeroValue20
  t37 := Tryz.underlying35
  a37 := Tryz.isAgg35
  z37 := Tryz.sizeOf35
  v37 := Tryz.zeroValue35
  t46 := Tryz.underlying136
  a46 := Tryz.isAgg136
  z46 := Tryz.sizeOf136
  v46 := Tryz.zeroValue136
  t51 := Tryz.underlying159
  a51 := Tryz.isAgg159
  z51 := Tryz.sizeOf159
  v51 := Tryz.zeroValue159
  t53 := Tryz.underlying161
  a53 := Tryz.isAgg161
  z53 := Tryz.sizeOf161
  v53 := Tryz.zeroValue161
  t171 := Tryz.underlying191
  a171 := Tryz.isAgg191
  z171 := Tryz.sizeOf191
  v171 := Tryz.zeroValue191
  t173 := Tryz.underlying193
  a173 := Tryz.isAgg193
  z173 := Tryz.sizeOf193
  v173 := Tryz.zeroValue193
  t212 := Tryz.underlying196
  a212 := Tryz.isAgg196
  z212 := Tryz.sizeOf196
  v212 := Tryz.zeroValue196
  t213 := Tryz.underlying197
  a213 := Tryz.isAgg197
  z213 := Tryz.sizeOf197
  t232 := Tryz.underlying198
  a232 := Tryz.isAgg198
  z232 := Tryz.sizeOf198
  v232 := Tryz.zeroValue198
  t233 := Tryz.underlying199
  a233 := Tryz.isAgg199
  z233 := Tryz.sizeOf199
  v233 := Tryz.zeroValue199
  g17 := by kernel_rfl
  g18 := by kernel_rfl
  g19 := by kernel_rfl
  i0 := by kernel_rfl
  i2 := by kernel_rfl
  i3 := by kernel_rfl
  i4 := by kernel_rfl
  i5 := by kernel_rfl
  i9 := by kernel_rfl
  i20 := by kernel_rfl
  i37 := by kernel_rfl
  i46 := by kernel_rfl
  i51 := by kernel_rfl
  i53 := by kernel_rfl
  i171 := by kernel_rfl
  i173 := by kernel_rfl
  i212 := by kernel_rfl
  i232 := by kernel_rfl
  i233 := by kernel_rfl
  m17 := by kernel_rfl
  m18 := by kernel_rfl
  m19 := by kernel_rfl }
end Go.Proofs

/-
  impl.DecText returns the decimal text of every int, where the table of powers lies as the library lays it.
-/
namespace Go.Proofs.YtjpclglklmlhlabGreatDoor
open Go.RowKit

theorem itoa_any (n : Int) (h0 : -9223372036854775808 ≤ n) (h1 : n ≤ 9223372036854775807) (w : World) (htab : Lib.TabIs Tryz.prog w "internal/strconv.uint64pow10" .u64 Lib.pow10Tab) :
    Calls Tryz.prog 157 #[.int .i64 n] w fun e w' => e = .returned (.string ⟨(Lib.itoa n).toArray⟩) ∧ Below w.heap.size w w' := by
  refine (Any.strconv_Itoa Tryz.laysItoa n h0 h1 w htab).mono ?_
  rintro e w' ⟨rfl, k, os, rfl⟩
  exact ⟨rfl, Lib.below_grow _ w (Nat.le_refl _) k os⟩
theorem implDecText_any (n : Int) (h0 : -9223372036854775808 ≤ n) (h1 : n ≤ 9223372036854775807) (w : World) (htab : Lib.TabIs Tryz.prog w "internal/strconv.uint64pow10" .u64 Lib.pow10Tab) :
    Calls Tryz.prog 125 #[.int .i64 n] w fun e w' => e = .returned (.string ⟨(Lib.itoa n).toArray⟩) ∧ Below w.heap.size w w' := by
  go_enter Tryz.func125, Tryz.ntmps125
  go_wp2_with fail
  refine (itoa_any n h0 h1 w htab).mono ?_
  rintro e w1 ⟨rfl, hb⟩
  go_wp2_with fail
  go_ret
  exact ⟨rfl, hb⟩
end Go.Proofs.YtjpclglklmlhlabGreatDoor

/-
  impl.VersionText: the text of a version.
-/
namespace Go.Proofs.YtjpclglklmlhlabGreatDoor
open Go.RowKit

/-- The table of powers lies as the library lays it. -/
abbrev Tab (w : World) : Prop := Lib.TabIs Tryz.prog w "internal/strconv.uint64pow10" .u64 Lib.pow10Tab
theorem tab_below {w w' : World} (h : Tab w) (hb : Below w.heap.size w w') : Tab w' := by
  unfold Tab Lib.TabIs World.var? at h ⊢
  have hg : Tryz.prog.globalNamed "internal/strconv.uint64pow10" = some 3 := by kernel_rfl
  simp only [hg, Option.bind_some] at h ⊢
  have hlt : 3 < w.heap.size := by
    rcases Nat.lt_or_ge 3 w.heap.size with h' | h'
    · exact h'
    · rw [Array.getElem?_eq_none h'] at h; simp at h
  rw [hb.block _ hlt]
  exact h
/-- Three cells and the table, in a later world. -/
theorem keepT {W V : World} {A : Nat} {v0 v1 v2 : Value} (hb : Below W.heap.size W V) (h : W.cell? ⟨A, 0, none⟩ = some v0 ∧ W.cell? ⟨A, 1, none⟩ = some v1 ∧ W.cell? ⟨A, 2, none⟩ = some v2 ∧ Tab W) : V.cell? ⟨A, 0, none⟩ = some v0 ∧ V.cell? ⟨A, 1, none⟩ = some v1 ∧ V.cell? ⟨A, 2, none⟩ = some v2 ∧ Tab V :=
  ⟨keepC hb h.1, keepC hb h.2.1, keepC hb h.2.2.1, tab_below h.2.2.2 hb⟩

set_option maxRecDepth 100000 in
set_option maxHeartbeats 4000000 in
theorem implVersionText_any (a b c : Int) (base : Nat) (v : Value) (ls : List (List UInt8)) (w : World) (hr : Strs w base v ls) (hs : Sm ls) (ht : Tab w) :
    Calls Tryz.prog 82 #[.agg #[.int .i64 a, .int .i64 b, .int .i64 c, v]] w fun e w' => e = .returned (.string ⟨(verText a b c ls).toArray⟩) ∧ Below w.heap.size w w' := by
  have HV := Lib.hid (fun (W : World) (h : Below w.heap.size w W) => implVersionOk_any a b c v ls W ((RdS.of_strs hr).below h) hs)
  have B1 : Below w.heap.size w (w.alloc (.cells #[.int .i64 a, .int .i64 b, .int .i64 c, v] 51)) := (Below.refl _ _).alloc (Nat.le_refl _) _
  have hA1 := heap_alloc_new w (.cells #[.int .i64 a, .int .i64 b, .int .i64 c, v] 51)
  have HSS := Lib.hid (fun (W : World) (h : Below w.heap.size w W) => hr.below h)
  have HTT := Lib.hid (fun (W : World) (h : Below w.heap.size w W) => tab_below ht h)
  obtain ⟨ok, HO⟩ : ∃ ok, Hid (verOk a b c ls = ok) := ⟨_, Lib.hid rfl⟩
  have hl := hs.1
  have hform := hr.form
  clear hr hs ht
  cases ok
  · have HT : Hid (verText a b c ls = []) := Lib.hid (by unfold verText; rw [HO.out]; rfl)
    go_enter Tryz.func82, Tryz.ntmps82
    go_wp2_with fail
    refine (HV.out _ B1).mono ?_
    rw [HO.out]
    rintro e w2 ⟨rfl, hb2⟩
    have B2 := B1.trans (hb2.mono B1.size)
    go_wp2_with fail
    go_ret
    exact ⟨ret_str HT.out.symm, B2⟩
  · obtain ⟨⟨a0, a1⟩, ⟨b0, b1⟩, ⟨c0, c1⟩, h5⟩ := verOk_num HO.out
    have HLE := Lib.hid (verOk_len HO.out)
    have la := dec_len a0 a1
    have lb := dec_len b0 b1
    have lc := dec_len c0 c1
    have HT : Hid (verText a b c ls = nums a b c ++ preText ls) := Lib.hid (by unfold verText; rw [HO.out]; rfl)
    go_enter Tryz.func82, Tryz.ntmps82
    go_wp2_with fail
    refine (HV.out _ B1).mono ?_
    rw [HO.out]
    rintro e w2 ⟨rfl, hb2⟩
    have B2 := B1.trans (hb2.mono B1.size)
    have hA2 := keepB hA1 hb2
    clear hA1 hb2 B1
    obtain ⟨p0, p1, p2, p3⟩ := cells4 hA2
    have tb : Tab w2.drew := HTT.out _ (B2.trans (below_drew _ _))
    obtain ⟨Da, HDa⟩ : ∃ D, Hid (dec a = D) := ⟨_, Lib.hid rfl⟩
    obtain ⟨Db, HDb⟩ : ∃ D, Hid (dec b = D) := ⟨_, Lib.hid rfl⟩
    obtain ⟨Dc, HDc⟩ : ∃ D, Hid (dec c = D) := ⟨_, Lib.hid rfl⟩
    rw [HDa.out] at la
    rw [HDb.out] at lb
    rw [HDc.out] at lc
    obtain ⟨N1, HN1⟩ : ∃ N, Hid (N = Da ++ [46]) := ⟨_, Lib.hid rfl⟩
    obtain ⟨N2, HN2⟩ : ∃ N, Hid (N = N1 ++ Db) := ⟨_, Lib.hid rfl⟩
    obtain ⟨N3, HN3⟩ : ∃ N, Hid (N = N2 ++ [46]) := ⟨_, Lib.hid rfl⟩
    obtain ⟨N4, HN4⟩ : ∃ N, Hid (N = N3 ++ Dc) := ⟨_, Lib.hid rfl⟩
    have l1 : N1.length ≤ 21 := by rw [HN1.out]; simp; omega
    have l2 : N2.length ≤ 41 := by rw [HN2.out]; simp; omega
    have l3 : N3.length ≤ 42 := by rw [HN3.out]; simp; omega
    have l4 : N4.length ≤ 62 := by rw [HN4.out]; simp; omega
    have HNN : Hid (nums a b c = N4) := Lib.hid (by rw [HN4.out, HN3.out, HN2.out, HN1.out]; unfold nums; rw [HDa.out, HDb.out, HDc.out])
    have s1 : ∀ W, (Op.stringOp .add ⟨Da.toArray⟩ ⟨#[46]⟩).run Tryz.prog W = .ok (.string ⟨N1.toArray⟩) W := fun W => by rw [HN1.out]; exact run_string_add_lists W Da [46] (by omega) (by simp)
    have s2 : ∀ W, (Op.stringOp .add ⟨N1.toArray⟩ ⟨Db.toArray⟩).run Tryz.prog W = .ok (.string ⟨N2.toArray⟩) W := fun W => by rw [HN2.out]; exact run_string_add_lists W N1 Db (by omega) (by omega)
    have s3 : ∀ W, (Op.stringOp .add ⟨N2.toArray⟩ ⟨#[46]⟩).run Tryz.prog W = .ok (.string ⟨N3.toArray⟩) W := fun W => by rw [HN3.out]; exact run_string_add_lists W N2 [46] (by omega) (by simp)
    have s4 : ∀ W, (Op.stringOp .add ⟨N3.toArray⟩ ⟨Dc.toArray⟩).run Tryz.prog W = .ok (.string ⟨N4.toArray⟩) W := fun W => by rw [HN4.out]; exact run_string_add_lists W N3 Dc (by omega) (by omega)
    have HDT1 := Lib.hid (fun (W : World) (ht : Tab W) => (show Calls Tryz.prog 125 #[.int .i64 a] W fun e w' => e = .returned (.string ⟨Da.toArray⟩) ∧ Below W.heap.size W w' from HDa.out ▸ implDecText_any a (by omega) (by omega) W ht))
    have HDT2 := Lib.hid (fun (W : World) (ht : Tab W) => (show Calls Tryz.prog 125 #[.int .i64 b] W fun e w' => e = .returned (.string ⟨Db.toArray⟩) ∧ Below W.heap.size W w' from HDb.out ▸ implDecText_any b (by omega) (by omega) W ht))
    have HDT3 := Lib.hid (fun (W : World) (ht : Tab W) => (show Calls Tryz.prog 125 #[.int .i64 c] W fun e w' => e = .returned (.string ⟨Dc.toArray⟩) ∧ Below W.heap.size W w' from HDc.out ▸ implDecText_any c (by omega) (by omega) W ht))
    go_wp2_with fail
    go_region_held3 (fun W' => W'.cell? ⟨w.heap.size, 0, none⟩ = some (.int .i64 a) ∧ W'.cell? ⟨w.heap.size, 1, none⟩ = some (.int .i64 b) ∧ W'.cell? ⟨w.heap.size, 2, none⟩ = some (.int .i64 c) ∧ Tab W') (first | exact ⟨p0, p1, p2, tb⟩ | assumption | exact keepT hb5 (by assumption) | exact keepT hb4 (by assumption) | exact keepT hb3 (by assumption)) ((first | (go_at_call 125; (with_reducible refine (HDT1.out _ (by exact tb)).mono ?_); rintro e w3 ⟨rfl, hb3⟩; have tb3 := tab_below tb hb3) | (go_at_call 125; (with_reducible refine (HDT2.out _ (by exact tb3)).mono ?_); rintro e w4 ⟨rfl, hb4⟩; have tb4 := tab_below tb3 hb4) | (go_at_call 125; (with_reducible refine (HDT3.out _ (by exact tb4)).mono ?_); rintro e w5 ⟨rfl, hb5⟩)))
    have hA5 := keepB (keepB (keepB (W := w2.drew) hA2 hb3) hb4) hb5
    have BD := B2.trans (below_drew w.heap.size w2)
    have B3 := BD.trans (hb3.mono BD.size)
    have B4 := B3.trans (hb4.mono B3.size)
    have B5 := B4.trans (hb5.mono B4.size)
    clear hA2 p0 p1 p2 p3 hb3 hb4 hb5 BD B3 B4 tb tb3 tb4 s1 s2 s3 s4 B2
    obtain ⟨p0, p1, p2, p3⟩ := cells4 hA5
    rcases hform with ⟨rfl, rfl⟩ | ⟨g, cap, rfl, hgb, hgl⟩
    · have HE : Hid (verText a b c [] = N4) := Lib.hid (by rw [HT.out, HNN.out]; simp [preText])
      go_wp2_with fail
      go_ret
      exact ⟨ret_str HE.out.symm, B5⟩
    · by_cases h0 : ls = []
      · have HE : Hid (verText a b c ls = N4) := Lib.hid (by rw [HT.out, HNN.out, h0]; simp [preText])
        have z0 : ¬ (0 : Int) < (ls.length : Int) := by rw [h0]; simp
        clear h0
        go_wp2_with fail
        go_ret
        exact ⟨ret_str HE.out.symm, B5⟩
      · have hpos : (0 : Int) < (ls.length : Int) := by have : 0 < ls.length := by cases ls <;> simp_all
                                                        omega
        have HE : Hid (verText a b c ls = N4 ++ (45 :: Lib.join ls [46])) := Lib.hid (by rw [HT.out, HNN.out, join_pre h0])
        have hjl := join_len HLE.out h5
        clear h0
        obtain ⟨J, HJ⟩ : ∃ J, Hid (Lib.join ls [46] = J) := ⟨_, Lib.hid rfl⟩
        rw [HJ.out] at hjl
        go_wp2_with fail
        refine (joinDot_any w5 base g cap ls (HSS.out _ B5) HLE.out h5).mono ?_
        rw [HJ.out]
        rintro e w6 ⟨rfl, hb6⟩
        have B6 := B5.trans (hb6.mono B5.size)
        go_wp2_with fail
        go_ret
        refine ⟨?_, B6⟩
        rw [HE.out, HJ.out]
        exact congrArg Ending.returned (congrArg Value.string (bytes_ext (by simp)))
end Go.Proofs.YtjpclglklmlhlabGreatDoor

/-
  impl.SortVersions: the versions of a list, in order, each once.
-/
namespace Go.Proofs.YtjpclglklmlhlabGreatDoor
open Go.RowKit

theorem filter_take {ls : List (List UInt8)} {k : Nat} (h : k < ls.length) : (ls.take (k + 1)).filter readOk = (ls.take k).filter readOk ++ (if readOk ls[k] = true then [ls[k]] else []) := by
  rw [List.take_succ_eq_append_getElem h, List.filter_append]
  congr 1
  by_cases hk : readOk ls[k] = true
  · rw [if_pos hk]; simp [hk]
  · rw [if_neg hk]; simp [hk]
theorem readP_Sm' {l : List UInt8} (h : l.length ≤ 1048576) : Sm (readP l) := by
  unfold readP; split
  · exact tail_sm h
  · exact sm_nil

set_option maxRecDepth 100000 in
set_option maxHeartbeats 4000000 in
theorem implSortVersions_any (v : Value) (ls : List (List UInt8)) (w : World) (hr : RdS w v ls) (hs : Sm ls) (ht : Tab w) :
    Calls Tryz.prog 48 #[v] w fun e w' => ∃ g c out, e = .returned (.slice (some ⟨g, 0, none⟩) out.length c) ∧ Strs w' w.heap.size (.slice (some ⟨g, 0, none⟩) out.length c) out ∧ SortOf ls out ∧ Below w.heap.size w w' := by
  have HR := Lib.hid hr
  have HTB := Lib.hid (fun (W : World) (hb : Below w.heap.size w W) => tab_below ht hb)
  obtain ⟨A, ca, rfl, ha⟩ := hr
  have hn := hs.1
  have HS := Lib.hid hs.2
  clear ha hs ht
  have V0 : VerRow (w.alloc (.cells #[] 51)) w.heap.size (.slice (some ⟨w.heap.size, 0, none⟩) 0 0) [] := ⟨Vers.empty w _ (Nat.le_refl _), fun x hx => by cases hx⟩
  have B0 : Below w.heap.size w (w.alloc (.cells #[] 51)) := (Below.refl _ _).alloc (Nat.le_refl _) _
  go_enter Tryz.func48, Tryz.ntmps48
  go_wp2_with fail
  go_loopw [3, 5, 6, 7, 14] (fun o _ _ _ i wr => ∃ (k : Nat) (X : List VI) (g c : Nat), k ≤ ls.length ∧ i = .int .i64 k ∧ o = .slice (some ⟨g, 0, none⟩) X.length c ∧ VerRow wr w.heap.size (.slice (some ⟨g, 0, none⟩) X.length c) X ∧ Hid (X.map Prod.fst = (ls.take k).filter readOk) ∧ Below w.heap.size w wr) (fun _ _ _ _ i _ => ls.length - (intOf i).toNat)
  case atStart => exact ⟨0, [], _, _, Nat.zero_le _, rfl, rfl, V0, Lib.hid (by simp), B0⟩
  case round =>
    obtain ⟨k, X, g, c, hk, rfl, rfl, hX, HX, hb⟩ := hrel
    have lX : X.length ≤ k := by
      have := congrArg List.length HX.out
      rw [List.length_map] at this
      rw [this]
      exact Nat.le_trans (List.length_filter_le _ _) (by simp; omega)
    by_cases hlt : k < ls.length
    · have k0 : (0 : Int) ≤ (k : Int) := by omega
      have k1 : (k : Int) < (ls.length : Int) := by omega
      have HLK := Lib.hid (HS.out ls[k] (List.getElem_mem hlt))
      have HFT := Lib.hid (filter_take hlt)
      obtain ⟨A', ca', hv, ha⟩ := HR.out.below hb
      simp only [Value.slice.injEq] at hv
      obtain ⟨rfl, _, rfl⟩ := hv
      obtain ⟨gl, off, rfl, hgl, hca⟩ := ha (by omega)
      have d1 : wr.cell? ⟨gl, off + k, none⟩ = some (.string ⟨ls[k].toArray⟩) := hca k hlt
      obtain ⟨ok, HOK⟩ : ∃ z, Hid (readOk (⟨ls[k].toArray⟩ : ByteArray).data.toList = z) := ⟨_, Lib.hid rfl⟩
      obtain ⟨l0, HL0⟩ : ∃ z, Hid (readA (⟨ls[k].toArray⟩ : ByteArray).data.toList 0 = z) := ⟨_, Lib.hid rfl⟩
      obtain ⟨l1, HL1⟩ : ∃ z, Hid (readA (⟨ls[k].toArray⟩ : ByteArray).data.toList 1 = z) := ⟨_, Lib.hid rfl⟩
      obtain ⟨l2, HL2⟩ : ∃ z, Hid (readA (⟨ls[k].toArray⟩ : ByteArray).data.toList 2 = z) := ⟨_, Lib.hid rfl⟩
      clear ha hca V0 B0
      go_wp2_with fail
      refine (implReadVersion_any _ _ (by rw [size_of]; exact HLK.out)).mono ?_
      rintro e w1 ⟨u, rfl, hu, hb1⟩
      have HU : Hid (Strs w1 0 u (readP ls[k])) := Lib.hid (hu.weaken (Nat.zero_le _))
      obtain ⟨uA, uc, hue⟩ := hu.slice
      obtain ⟨m, HM⟩ : ∃ m, Hid ((readP (⟨ls[k].toArray⟩ : ByteArray).data.toList).length = m) := ⟨_, Lib.hid rfl⟩
      rw [HM.out] at hue
      subst hue
      rw [HOK.out, HL0.out, HL1.out, HL2.out]
      have B1 := hb.trans (hb1.mono hb.size)
      have hX1 := hX.below hb1
      clear hX hb1 hu d1
      have B2 := B1.alloc B1.size (.cells #[.int .i64 l0, .int .i64 l1, .int .i64 l2, .slice uA m uc] 51)
      have hX2 := hX1.below ((Below.refl w1.heap.size w1).alloc (Nat.le_refl _) (.cells #[.int .i64 l0, .int .i64 l1, .int .i64 l2, .slice uA m uc] 51))
      cases ok
      · have HX' : Hid (X.map Prod.fst = (ls.take (k + 1)).filter readOk) := Lib.hid (by rw [HFT.out, if_neg (fun h => by have e : readOk ls[k] = false := HOK.out; rw [h] at e; cases e), List.append_nil, HX.out])
        go_wp2_with fail
        go_roundw
        case rel => exact ⟨k + 1, X, g, c, by omega, by go_num, rfl, hX2, HX', B2⟩
        case measure => simp [intOf]; omega
      · have HX' : Hid ((X ++ [(ls[k], Value.slice uA m uc)]).map Prod.fst = (ls.take (k + 1)).filter readOk) := Lib.hid (by rw [HFT.out, if_pos (show readOk ls[k] = true from HOK.out), List.map_append, HX.out]; rfl)
        have B3 := B2.alloc B2.size (.cells #[.int .i64 l0, .int .i64 l1, .int .i64 l2, .slice uA m uc] 51)
        have hX3 := hX2.below ((Below.refl (w1.alloc (.cells #[.int .i64 l0, .int .i64 l1, .int .i64 l2, .slice uA m uc] 51)).heap.size _).alloc (Nat.le_refl _) (.cells #[.int .i64 l0, .int .i64 l1, .int .i64 l2, .slice uA m uc] 51))
        have hU3 := Strs.alloc (Strs.alloc HU.out (.cells #[.int .i64 l0, .int .i64 l1, .int .i64 l2, .slice uA m uc] 51)) (.cells #[.int .i64 l0, .int .i64 l1, .int .i64 l2, .slice uA m uc] 51)
        have h3 := heap_new (W := w1.alloc (.cells #[.int .i64 l0, .int .i64 l1, .int .i64 l2, .slice uA m uc] 51)) (n := w1.heap.size + 1) (by simp) (.cells #[.int .i64 l0, .int .i64 l1, .int .i64 l2, .slice uA m uc] 51)
        have hlX : (X.map cv).length = X.length := by simp
        have B3s := B3.size
        clear B1 B2 hX1 hX2
        go_wp2_with (at_builtin; refine wpList_append_ver rfl _ _ rfl w.heap.size _ _ rfl hX3.1 (w1.heap.size + 1) _ _ _ l0 l1 l2 (.slice uA m uc) rfl rfl h3 (by omega) B3s ?_; intro v4 w4 hV4 hg4)
        have hX4 : VerRow w4 w.heap.size v4 (X ++ [(ls[k], .slice uA m uc)]) := ⟨by
            have e : (X ++ [(ls[k], Value.slice uA m uc)]).map cv = X.map cv ++ [(l0, l1, l2, .slice uA m uc)] := by
              rw [List.map_append]
              show _ ++ [cv (ls[k], .slice uA m uc)] = _
              rw [← HL0.out, ← HL1.out, ← HL2.out]
              rfl
            rw [e]; exact hV4, fun x hx => by
            rcases List.mem_append.1 hx with hx | hx
            · exact (hX3.2 x hx).grownV hX3.1 hg4
            · simp at hx; subst hx; exact hU3.grownV hX3.1 hg4⟩
        have B4 : Below w.heap.size w w4 := Below.grown B3 hg4 B3s hX3.1.owned
        obtain ⟨g4, c4, hv4, _⟩ : ∃ g c, v4 = .slice (some ⟨g, 0, none⟩) (X ++ [(ls[k], Value.slice uA m uc)]).length c ∧ True := by
          rcases hX4.1.form with ⟨_, h⟩ | ⟨g, c, h, _⟩
          · simp at h
          · exact ⟨g, c, by simpa using h, trivial⟩
        subst hv4
        clear hX3 hU3 h3 B3 hV4 hg4
        go_wp2_with fail
        go_roundw
        case rel => exact ⟨k + 1, X ++ [(ls[k], .slice uA m uc)], g4, c4, by omega, by go_num, rfl, hX4, HX', B4⟩
        case measure => simp [intOf]; omega
    · have HXA : Hid (X.map Prod.fst = ls.filter readOk) := Lib.hid (by rw [HX.out, List.take_of_length_le (by omega)])
      have HMX : Hid (∀ x ∈ X, x.1 ∈ ls ∧ readOk x.1 = true) := Lib.hid (fun x hx => by
        have : x.1 ∈ X.map Prod.fst := List.mem_map.2 ⟨x, hx, rfl⟩
        rw [HXA.out] at this
        exact List.mem_filter.1 this)
      have HSX : Hid (∀ x ∈ X, Sm (readP x.1)) := Lib.hid (fun x hx => readP_Sm' (HS.out _ (HMX.out x hx).1))
      have hlX : X.length ≤ 1048576 := by omega
      obtain ⟨i0, hi, hz0, hz1, hz2⟩ := info_parts strinfo
      clear V0 B0
      go_wp2_with fail
      refine (sortFunc_any wr w.heap.size g c X hX hlX HSX.out).mono ?_
      rintro e w5 ⟨rfl, Y, hperm, hsort, hRV, hb5⟩
      have B5 := hb.trans hb5
      have hlY : Y.length = X.length := hperm.length_eq
      have HRV := Lib.hid hRV
      have HPM := Lib.hid hperm
      have HST := Lib.hid hsort
      clear hX hb hb5 hRV hperm hsort
      go_wp2_with (at_make; refine wpList_make_own _ rfl _ _ 22 rfl w5.heap.size 9 i0 (.string ⟨#[]⟩) 1 Tryz.underlying22 hi hz0 hz1 .i64 .i64 _ X.length rfl rfl rfl (by rw [hz2]; omega) (by unfold maxLen; omega) (Nat.le_refl _) ?_; intro w6 hown6 hg6)
      have hS6 : Strs w6 w5.heap.size (.slice (some ⟨w5.heap.size, 0, none⟩) 0 X.length) [] := hown6
      have hb6 : Below w5.heap.size w5 w6 := (Below.refl _ _).grown hg6 (Nat.le_refl _) (by simp)
      clear hown6 hg6 hi hz0 hz1 hz2
      go_loopw [8, 10, 36] (fun o _ i wr => ∃ k g2 c2 : Nat, k ≤ Y.length ∧ i = .int .i64 k ∧ o = .slice (some ⟨g2, 0, none⟩) k c2 ∧ Strs wr w5.heap.size (.slice (some ⟨g2, 0, none⟩) k c2) ((Y.take k).map Prod.fst) ∧ Below w5.heap.size w5 wr) (fun _ _ i _ => Y.length - (intOf i).toNat)
      case atStart => exact ⟨0, _, _, Nat.zero_le _, rfl, rfl, by simpa using hS6, hb6⟩
      case round =>
        obtain ⟨j, g2, c2, hj, rfl, rfl, hS, hb⟩ := hrel
        have B7 := B5.trans (hb.mono B5.size)
        have LM : Hid (((Y.take j).map Prod.fst).length = j) := Lib.hid (by simp; omega)
        by_cases hlt : j < Y.length
        · have k0 : (0 : Int) ≤ (j : Int) := by omega
          have k1 : (j : Int) < (X.length : Int) := by omega
          obtain ⟨A', c', hv, hcell⟩ := HRV.out.below hb
          simp only [Value.slice.injEq] at hv
          obtain ⟨rfl, -, rfl⟩ := hv
          obtain ⟨g', hA, hg', d0, d1, d2, d3, hSt⟩ := hcell j hlt
          simp only [Option.some.injEq, Addr.mk.injEq, and_true] at hA
          subst hA
          obtain ⟨uA, uc, hue⟩ := hSt.slice
          have HMY := HMX.out Y[j] (HPM.out.mem_iff.1 (List.getElem_mem hlt))
          have HVT : Hid (verText (readA Y[j].1 0) (readA Y[j].1 1) (readA Y[j].1 2) (readP Y[j].1) = Y[j].1) := Lib.hid (vt_text HMY.2)
          have HSY : Hid (Sm (readP Y[j].1)) := Lib.hid (readP_Sm' (HS.out _ HMY.1))
          have HN : Hid ((Y.take j).map Prod.fst ++ [Y[j].1] = (Y.take (j + 1)).map Prod.fst) := Lib.hid (by rw [List.take_succ_eq_append_getElem hlt, List.map_append]; rfl)
          rw [hue] at d3 hSt
          obtain ⟨m, HM⟩ : ∃ m, Hid ((readP Y[j].1).length = m) := ⟨_, Lib.hid rfl⟩
          rw [HM.out] at d3 hSt
          obtain ⟨l0, HL0⟩ : ∃ z, Hid (readA Y[j].1 0 = z) := ⟨_, Lib.hid rfl⟩
          obtain ⟨l1, HL1⟩ : ∃ z, Hid (readA Y[j].1 1 = z) := ⟨_, Lib.hid rfl⟩
          obtain ⟨l2, HL2⟩ : ∃ z, Hid (readA Y[j].1 2 = z) := ⟨_, Lib.hid rfl⟩
          rw [HL0.out] at d0
          rw [HL1.out] at d1
          rw [HL2.out] at d2
          have HV2 : Hid (verText l0 l1 l2 (readP Y[j].1) = Y[j].1) := Lib.hid (by rw [← HL0.out, ← HL1.out, ← HL2.out]; exact HVT.out)
          have B8 := B7.alloc B7.size (.cells #[.int .i64 l0, .int .i64 l1, .int .i64 l2, .slice uA m uc] 51)
          have b8 := hb.alloc hb.size (.cells #[.int .i64 l0, .int .i64 l1, .int .i64 l2, .slice uA m uc] 51)
          have hS8 := hS.alloc (.cells #[.int .i64 l0, .int .i64 l1, .int .i64 l2, .slice uA m uc] 51)
          have hU8 := hSt.alloc (.cells #[.int .i64 l0, .int .i64 l1, .int .i64 l2, .slice uA m uc] 51)
          have hT8 := HTB.out _ B8
          clear hcell hue HMY hS6 hb6
          go_wp2_with fail
          refine (implVersionText_any l0 l1 l2 0 _ (readP Y[j].1) _ hU8 HSY.out hT8).mono ?_
          rw [HV2.out]
          rintro e w9 ⟨rfl, hb9⟩
          have hS9 := hS8.below hb9
          have b9 := b8.trans (hb9.mono b8.size)
          clear hS8 hb9 d0 d1 d2 d3 hSt hU8 hT8 b8 B8 hS
          have HLE : Hid (((Y.take j).map Prod.fst).length + 1 ≤ 16777216) := Lib.hid (by rw [LM.out]; omega)
          have HBE : Hid (w5.heap.size ≤ (w9.alloc (.cells #[sv Y[j].1] 9)).heap.size) := Lib.hid (by simp; exact Nat.le_succ_of_le b9.size)
          go_wp2_with (at_builtin; refine wpList_append_strs rfl _ _ rfl w5.heap.size _ _ rfl (hS9.alloc _) (Y[j].1) w9.heap.size _ _ _ rfl (heap_alloc_new w9 _) HLE.out HBE.out ?_; intro g3 c3 w10 hown10 hb10)
          have b10 := b9.trans (((Below.refl w5.heap.size w9).alloc b9.size _).trans hb10)
          rw [LM.out] at hown10
          go_wp2_with fail
          go_roundw
          case rel => exact ⟨j + 1, g3, c3, by omega, by go_num, by rw [show min j X.length = j by omega], by rw [← HN.out]; exact hown10, b10⟩
          case measure => simp [intOf]; omega
        · have hSe : Strs wr w5.heap.size (.slice (some ⟨g2, 0, none⟩) (Y.map Prod.fst).length c2) (Y.map Prod.fst) := by
            have : j = Y.length := by omega
            subst this
            rw [List.take_length] at hS
            rw [List.length_map]
            exact hS
          have hjl : j = (Y.map Prod.fst).length := by simp; omega
          have HSO : Hid (SortOf ls (Lib.compact (Y.map Prod.fst))) := Lib.hid (sortOf_compact (fun t => by
              have : t ∈ Y.map Prod.fst ↔ t ∈ X.map Prod.fst := (HPM.out.map Prod.fst).mem_iff
              rw [this, HXA.out, List.mem_filter]) (fun a b hab hbl => by
              simp only [List.getElem_map]
              exact HST.out a b hab (by simpa using hbl)))
          have hml : (Y.map Prod.fst).length ≤ 1048576 := by simp; omega
          have k1 : ¬ (j : Int) < (X.length : Int) := by omega
          have HCA := compact_any wr w5.heap.size g2 c2 (Y.map Prod.fst) hSe hml
          rw [← hjl] at HCA
          have HCB := Lib.hid HCA
          clear hjl hSe hml hS6 hb6 hS HCA
          go_wp2_with fail
          refine HCB.out.mono ?_
          rintro e w7 ⟨g3, c3, rfl, hS7, hb7⟩
          have B9 := B7.trans (hb7.mono B5.size)
          go_wp2_with fail
          go_ret
          exact ⟨g3, c3, _, rfl, hS7.weaken B5.size, HSO.out, B9⟩
end Go.Proofs.YtjpclglklmlhlabGreatDoor

/-
  Whether bounds are a range: impl.RangeOk.
-/
namespace Go.Proofs.YtjpclglklmlhlabGreatDoor
open Go.RowKit

set_option maxRecDepth 100000 in
set_option maxHeartbeats 1000000 in
theorem limitOk_any (s : ByteArray) (w : World) (hs : s.size ≤ 1048576) :
    Calls Tryz.prog 64 #[.string s] w fun e w' => e = .returned (.bool (limOk s.data.toList)) ∧ Below w.heap.size w w' := by
  have HC := Lib.hid (implReadVersion_any s w hs)
  obtain ⟨ok, HO⟩ : ∃ ok, Hid (readOk s.data.toList = ok) := ⟨_, Lib.hid rfl⟩
  obtain ⟨r, HR⟩ : ∃ r, Hid (limOk s.data.toList = r) := ⟨_, Lib.hid rfl⟩
  obtain ⟨q, hq, HE⟩ : ∃ q, (s.toList == []) = q ∧ Hid (limOk s.data.toList = (ok || q)) := ⟨_, rfl, Lib.hid (by unfold limOk; rw [HO.out, ByteArray.toList_eq])⟩
  rw [HR.out]
  have HF : Hid (r = (ok || q)) := Lib.hid (HR.out.symm.trans HE.out)
  cases ok <;> cases q
  all_goals
    go_enter Tryz.func64, Tryz.ntmps64
    go_wp2_with fail
    refine HC.out.mono ?_
    rintro e w1 ⟨u, rfl, hu, hb1⟩
    obtain ⟨uA, uc, rfl⟩ := hu.slice
    rw [HO.out]
    go_wp2_with fail
    go_ret
    exact ⟨ret_bool HF.out.symm, by first | exact hb1 | exact hb1.alloc hb1.size _ | exact (hb1.alloc hb1.size _).setCell (p := ⟨w1.heap.size, 0, none⟩) hb1.size _⟩

theorem cells2 {V : World} {B : Nat} {T : TypeId} {v0 v1 : Value} (h : V.heap[B]? = some (.cells #[v0, v1] T)) : V.cell? ⟨B, 0, none⟩ = some v0 ∧ V.cell? ⟨B, 1, none⟩ = some v1 := by
  simp [World.cell?, h]

set_option maxRecDepth 100000 in
set_option maxHeartbeats 2000000 in
theorem implRangeOk_any (v : Value) (bs : List Bd) (w : World) (hr : RdB w v bs) (hs : SmB bs) :
    Calls Tryz.prog 29 #[v] w fun e w' => e = .returned (.bool (rngOk bs)) ∧ Below w.heap.size w w' := by
  have HR := Lib.hid hr
  have HS := Lib.hid hs
  obtain ⟨A, ca, rfl, ha⟩ := hr
  have hn : bs.length ≤ 1048576 := by unfold SmB at hs; omega
  clear ha hs
  by_cases h1 : bs.length < 1
  · have HF : Hid (rngOk bs = false) := Lib.hid (by unfold rngOk inI; simp; omega)
    go_enter Tryz.func29, Tryz.ntmps29
    go_wp2
    go_ret
    exact ⟨ret_bool HF.out.symm, Below.refl _ _⟩
  by_cases h8 : 8 < bs.length
  · have HF : Hid (rngOk bs = false) := Lib.hid (by unfold rngOk inI; simp; omega)
    go_enter Tryz.func29, Tryz.ntmps29
    go_wp2
    go_ret
    exact ⟨ret_bool HF.out.symm, Below.refl _ _⟩
  have HI : Hid (rngOk bs = bs.all bndOk) := Lib.hid (by unfold rngOk; rw [show inI bs.length 1 8 = true by unfold inI; simp; omega]; simp)
  go_enter Tryz.func29, Tryz.ntmps29
  go_wp2
  go_loopw [4, 15] (fun _ i wr => ∃ k : Nat, k ≤ bs.length ∧ i = .int .i64 k ∧ Hid ((bs.take k).all bndOk = true) ∧ Below w.heap.size w wr) (fun _ i _ => bs.length - (intOf i).toNat)
  case atStart => exact ⟨0, Nat.zero_le _, rfl, Lib.hid (by simp), Below.refl _ _⟩
  case round =>
    obtain ⟨k, hk, rfl, H, hb⟩ := hrel
    by_cases hlt : k < bs.length
    · have k0 : (0 : Int) ≤ (k : Int) := by omega
      have k1 : (k : Int) < (bs.length : Int) := by omega
      have HG := Lib.hid (smB_get HS.out k hlt)
      obtain ⟨A', ca', hv, ha⟩ := HR.out.below hb
      simp only [Value.slice.injEq] at hv
      obtain ⟨rfl, _, rfl⟩ := hv
      obtain ⟨g, off, rfl, hg, hca⟩ := ha (by omega)
      have d1 : wr.cell? ⟨g, off + k * 2, none⟩ = some (.string ⟨bs[k].1.toArray⟩) := (hca k hlt).1
      have d2 : wr.cell? ⟨g, off + k * 2 + 1, none⟩ = some (.string ⟨bs[k].2.toArray⟩) := (hca k hlt).2
      obtain ⟨x, HX⟩ : ∃ x, Hid (limOk (⟨bs[k].1.toArray⟩ : ByteArray).data.toList = x) := ⟨_, Lib.hid rfl⟩
      obtain ⟨y, HY⟩ : ∃ y, Hid (limOk (⟨bs[k].2.toArray⟩ : ByteArray).data.toList = y) := ⟨_, Lib.hid rfl⟩
      have HB : Hid (bndOk bs[k] = (x && y)) := Lib.hid (by unfold bndOk; rw [← HX.out, ← HY.out])
      have B0 : Below w.heap.size w (wr.alloc (.cells #[.string ⟨bs[k].1.toArray⟩, .string ⟨bs[k].2.toArray⟩] 58)) := hb.alloc hb.size _
      have b0 := heap_alloc_new wr (.cells #[.string ⟨bs[k].1.toArray⟩, .string ⟨bs[k].2.toArray⟩] 58)
      clear ha hca
      cases x
      · have HF : Hid (rngOk bs = false) := Lib.hid (by rw [HI.out]; exact Bool.eq_false_iff.2 (all_not bs bndOk k hlt (by rw [HB.out]; rfl)))
        go_wp2_with fail
        refine (limitOk_any _ _ HG.out.1).mono ?_
        rw [HX.out]
        rintro e w1 ⟨rfl, hb1⟩
        have B1 := B0.trans (hb1.mono B0.size)
        go_wp2_with fail
        go_ret
        exact ⟨ret_bool HF.out.symm, B1⟩
      · go_wp2_with fail
        refine (limitOk_any _ _ HG.out.1).mono ?_
        rw [HX.out]
        rintro e w1 ⟨rfl, hb1⟩
        have B1 := B0.trans (hb1.mono B0.size)
        have c1 := cells2 (keepB b0 hb1)
        clear d1 d2
        go_wp2_with fail
        refine (limitOk_any _ _ HG.out.2).mono ?_
        rw [HY.out]
        rintro e w2 ⟨rfl, hb2⟩
        have B2 := B1.trans (hb2.mono B1.size)
        cases y
        · have HF : Hid (rngOk bs = false) := Lib.hid (by rw [HI.out]; exact Bool.eq_false_iff.2 (all_not bs bndOk k hlt (by rw [HB.out]; rfl)))
          go_wp2_with fail
          go_ret
          exact ⟨ret_bool HF.out.symm, B2⟩
        · have HN := Lib.hid (all_take bs bndOk k hlt H.out (by rw [HB.out]; rfl))
          go_wp2_with fail
          go_roundw
          case rel => exact ⟨k + 1, by omega, by go_num, HN, B2⟩
          case measure => simp [intOf]; omega
    · have HF : Hid (rngOk bs = true) := Lib.hid (by
        have h := H.out
        rw [List.take_of_length_le (by omega)] at h
        rw [HI.out, h])
      go_wp2_with fail
      go_ret
      exact ⟨ret_bool HF.out.symm, hb⟩
end Go.Proofs.YtjpclglklmlhlabGreatDoor

/-
  The test of a bound: impl.sameNumbers, impl.testOf and what it hands back.
-/
namespace Go.Proofs.YtjpclglklmlhlabGreatDoor
open Go.RowKit

theorem cells1 {V : World} {B : Nat} {T : TypeId} {v0 : Value} (h : V.heap[B]? = some (.cells #[v0] T)) : V.cell? ⟨B, 0, none⟩ = some v0 := by
  simp [World.cell?, h]

set_option maxRecDepth 100000 in
set_option maxHeartbeats 1000000 in
theorem sameNumbers_any (a0 a1 a2 b0 b1 b2 : Int) (pA qA : Option Addr) (pn pc qn qc : Nat) (w : World) :
    Calls Tryz.prog 122 #[.agg #[.int .i64 a0, .int .i64 a1, .int .i64 a2, .slice pA pn pc], .agg #[.int .i64 b0, .int .i64 b1, .int .i64 b2, .slice qA qn qc]] w fun e w' => e = .returned (.bool ((b0 == a0) && (b1 == a1) && (b2 == a2))) ∧ Below w.heap.size w w' := by
  have HB : Below w.heap.size w ((w.alloc (.cells #[.int .i64 a0, .int .i64 a1, .int .i64 a2, .slice pA pn pc] 51)).alloc (.cells #[.int .i64 b0, .int .i64 b1, .int .i64 b2, .slice qA qn qc] 51)) := ((Below.refl _ _).alloc (Nat.le_refl _) _).alloc (by simp) _
  obtain ⟨r, HR⟩ : ∃ r, Hid (((b0 == a0) && (b1 == a1) && (b2 == a2)) = r) := ⟨_, Lib.hid rfl⟩
  rw [HR.out]
  by_cases h0 : a0 = b0
  · have q0 : (a0 == b0) = true := by simp [h0]
    have p0 : (b0 == a0) = true := by simp [h0]
    by_cases h1 : a1 = b1
    · have q1 : (a1 == b1) = true := by simp [h1]
      have p1 : (b1 == a1) = true := by simp [h1]
      by_cases h2 : a2 = b2
      · have q2 : (a2 == b2) = true := by simp [h2]
        have p2 : (b2 == a2) = true := by simp [h2]
        have HF : Hid (r = true) := Lib.hid (by rw [← HR.out, p0, p1, p2]; rfl)
        clear h0 h1 h2 p0 p1 p2 HR
        go_enter Tryz.func122, Tryz.ntmps122
        go_wp2_with fail
        go_ret
        exact ⟨ret_bool HF.out.symm, HB⟩
      · have q2 : (a2 == b2) = false := int_beq_false h2
        have p2 : (b2 == a2) = false := int_beq_false (fun e => h2 e.symm)
        have HF : Hid (r = false) := Lib.hid (by rw [← HR.out, p2]; simp)
        clear h0 h1 h2 p0 p1 p2 HR
        go_enter Tryz.func122, Tryz.ntmps122
        go_wp2_with fail
        go_ret
        exact ⟨ret_bool HF.out.symm, HB⟩
    · have q1 : (a1 == b1) = false := int_beq_false h1
      have p1 : (b1 == a1) = false := int_beq_false (fun e => h1 e.symm)
      have HF : Hid (r = false) := Lib.hid (by rw [← HR.out, p1]; simp)
      clear h0 h1 p0 p1 HR
      go_enter Tryz.func122, Tryz.ntmps122
      go_wp2_with fail
      go_ret
      exact ⟨ret_bool HF.out.symm, HB⟩
  · have q0 : (a0 == b0) = false := int_beq_false h0
    have p0 : (b0 == a0) = false := int_beq_false (fun e => h0 e.symm)
    have HF : Hid (r = false) := Lib.hid (by rw [← HR.out, p0]; simp)
    clear h0 p0 HR
    go_enter Tryz.func122, Tryz.ntmps122
    go_wp2_with fail
    go_ret
    exact ⟨ret_bool HF.out.symm, HB⟩

/-- The value f is a test of the bound of these texts. -/
def TestAt (w : World) (f : Value) (b : Bd) : Prop := ∃ (Bb Bl Cb Cl uc tc : Nat) (uA tA : Option Addr), f = .func (.func 121) #[] #[.pointer (some ⟨Bb, 0, none⟩), .pointer (some ⟨Bl, 0, none⟩), .pointer (some ⟨Cb, 0, none⟩), .pointer (some ⟨Cl, 0, none⟩)] ∧
  w.heap[Bb]? = some (.cells #[.bool (readOk b.1)] 4) ∧ w.heap[Bl]? = some (.cells #[.int .i64 (readA b.1 0), .int .i64 (readA b.1 1), .int .i64 (readA b.1 2), .slice uA (readP b.1).length uc] 51) ∧
  w.heap[Cb]? = some (.cells #[.bool (readOk b.2)] 4) ∧ w.heap[Cl]? = some (.cells #[.int .i64 (readA b.2 0), .int .i64 (readA b.2 1), .int .i64 (readA b.2 2), .slice tA (readP b.2).length tc] 51) ∧
  Strs w 0 (.slice uA (readP b.1).length uc) (readP b.1) ∧ Strs w 0 (.slice tA (readP b.2).length tc) (readP b.2)
theorem TestAt.below {w w' : World} {f : Value} {b : Bd} (h : TestAt w f b) (hb : Below w.heap.size w w') : TestAt w' f b := by
  obtain ⟨Bb, Bl, Cb, Cl, uc, tc, uA, tA, e, h1, h2, h3, h4, h5, h6⟩ := h
  exact ⟨Bb, Bl, Cb, Cl, uc, tc, uA, tA, e, keepB h1 hb, keepB h2 hb, keepB h3 hb, keepB h4 hb, h5.below hb, h6.below hb⟩

set_option maxRecDepth 100000 in
set_option maxHeartbeats 1000000 in
theorem testOf_any (x y : ByteArray) (w : World) (sx : x.size ≤ 1048576) (sy : y.size ≤ 1048576) :
    Calls Tryz.prog 79 #[.agg #[.string x, .string y]] w fun e w' => ∃ f, e = .returned f ∧ TestAt w' f (x.data.toList, y.data.toList) ∧ f.oneCell' = true ∧ Below w.heap.size w w' := by
  have B0 : Below w.heap.size w (w.alloc (.cells #[.string x, .string y] 58)) := (Below.refl _ _).alloc (Nat.le_refl _) _
  have b0 := heap_alloc_new w (.cells #[.string x, .string y] 58)
  go_enter Tryz.func79, Tryz.ntmps79
  go_wp2_with fail
  refine (implReadVersion_any _ _ sx).mono ?_
  rintro e w1 ⟨u, rfl, hu, hb1⟩
  obtain ⟨uA, uc, rfl⟩ := hu.slice
  have B1 := B0.trans (hb1.mono B0.size)
  have b1 := keepA (keepA (keepB b0 hb1) (.cells #[.int .i64 (readA x.data.toList 0), .int .i64 (readA x.data.toList 1), .int .i64 (readA x.data.toList 2), .slice uA (readP x.data.toList).length uc] 51)) (.cells #[.bool (readOk x.data.toList)] 4)
  have l1 := keepA (heap_alloc_new w1 (.cells #[.int .i64 (readA x.data.toList 0), .int .i64 (readA x.data.toList 1), .int .i64 (readA x.data.toList 2), .slice uA (readP x.data.toList).length uc] 51)) (.cells #[.bool (readOk x.data.toList)] 4)
  have k1 := heap_new (W := w1.alloc (.cells #[.int .i64 (readA x.data.toList 0), .int .i64 (readA x.data.toList 1), .int .i64 (readA x.data.toList 2), .slice uA (readP x.data.toList).length uc] 51)) (n := w1.heap.size + 1) (by simp) (.cells #[.bool (readOk x.data.toList)] 4)
  have r1 := Strs.alloc (Strs.alloc (hu.weaken (Nat.zero_le _)) (.cells #[.int .i64 (readA x.data.toList 0), .int .i64 (readA x.data.toList 1), .int .i64 (readA x.data.toList 2), .slice uA (readP x.data.toList).length uc] 51)) (.cells #[.bool (readOk x.data.toList)] 4)
  have B1' := (B1.alloc B1.size (.cells #[.int .i64 (readA x.data.toList 0), .int .i64 (readA x.data.toList 1), .int .i64 (readA x.data.toList 2), .slice uA (readP x.data.toList).length uc] 51)).alloc (by simp; have := B1.size; omega) (.cells #[.bool (readOk x.data.toList)] 4)
  obtain ⟨s0, s1⟩ := cellsB b1
  clear B0 b0 hb1 hu B1 b1
  go_wp2_with fail
  refine (implReadVersion_any _ _ sy).mono ?_
  rintro e w2 ⟨t, rfl, ht, hb2⟩
  obtain ⟨tA, tc, rfl⟩ := ht.slice
  have B2 := B1'.trans (hb2.mono B1'.size)
  have l2 := keepA (keepA (keepB l1 hb2) (.cells #[.int .i64 (readA y.data.toList 0), .int .i64 (readA y.data.toList 1), .int .i64 (readA y.data.toList 2), .slice tA (readP y.data.toList).length tc] 51)) (.cells #[.bool (readOk y.data.toList)] 4)
  have k2 := keepA (keepA (keepB k1 hb2) (.cells #[.int .i64 (readA y.data.toList 0), .int .i64 (readA y.data.toList 1), .int .i64 (readA y.data.toList 2), .slice tA (readP y.data.toList).length tc] 51)) (.cells #[.bool (readOk y.data.toList)] 4)
  have r2 := Strs.alloc (Strs.alloc (r1.below hb2) (.cells #[.int .i64 (readA y.data.toList 0), .int .i64 (readA y.data.toList 1), .int .i64 (readA y.data.toList 2), .slice tA (readP y.data.toList).length tc] 51)) (.cells #[.bool (readOk y.data.toList)] 4)
  have l3 := keepA (heap_alloc_new w2 (.cells #[.int .i64 (readA y.data.toList 0), .int .i64 (readA y.data.toList 1), .int .i64 (readA y.data.toList 2), .slice tA (readP y.data.toList).length tc] 51)) (.cells #[.bool (readOk y.data.toList)] 4)
  have k3 := heap_new (W := w2.alloc (.cells #[.int .i64 (readA y.data.toList 0), .int .i64 (readA y.data.toList 1), .int .i64 (readA y.data.toList 2), .slice tA (readP y.data.toList).length tc] 51)) (n := w2.heap.size + 1) (by simp) (.cells #[.bool (readOk y.data.toList)] 4)
  have r3 := Strs.alloc (Strs.alloc (ht.weaken (Nat.zero_le _)) (.cells #[.int .i64 (readA y.data.toList 0), .int .i64 (readA y.data.toList 1), .int .i64 (readA y.data.toList 2), .slice tA (readP y.data.toList).length tc] 51)) (.cells #[.bool (readOk y.data.toList)] 4)
  have B2' := (B2.alloc B2.size (.cells #[.int .i64 (readA y.data.toList 0), .int .i64 (readA y.data.toList 1), .int .i64 (readA y.data.toList 2), .slice tA (readP y.data.toList).length tc] 51)).alloc (by simp; have := B2.size; omega) (.cells #[.bool (readOk y.data.toList)] 4)
  clear s0 s1 l1 k1 r1 B1' hb2 ht B2
  go_wp2_with fail
  go_ret
  exact ⟨_, rfl, ⟨_, _, _, _, _, _, _, _, rfl, k2, l2, k3, l3, r2, r3⟩, rfl, B2'⟩
end Go.Proofs.YtjpclglklmlhlabGreatDoor

/-
  The test of a bound, called: impl.testOf$1.
-/
namespace Go.Proofs.YtjpclglklmlhlabGreatDoor
open Go.RowKit

set_option maxRecDepth 100000 in
set_option maxHeartbeats 4000000 in
theorem test1_any (b : Bd) (f0 : Value) (a0 a1 a2 : Int) (vp : Value) (p : List (List UInt8)) (w : World) (hf : TestAt w f0 b) (hr : RdS w vp p) (hp : Sm p) (sx : b.1.length ≤ 1048576) (sy : b.2.length ≤ 1048576) :
    ∃ cs, f0 = .func (.func 121) #[] cs ∧ Calls Tryz.prog 121 (#[.agg #[.int .i64 a0, .int .i64 a1, .int .i64 a2, vp]] ++ cs) w fun e w' => e = .returned (.bool (takes b a0 a1 a2 p)) ∧ Below w.heap.size w w' := by
  obtain ⟨Bb, Bl, Cb, Cl, uc, tc, uA, tA, rfl, kb, lb, kc, lc, hRL, hRH⟩ := hf
  refine ⟨_, rfl, ?_⟩
  have HP := Lib.hid hp
  have HR := Lib.hid (fun (W : World) (h : Below w.heap.size w W) => hr.below h)
  have HRL := Lib.hid (RdS.of_strs hRL)
  have HRH := Lib.hid (RdS.of_strs hRH)
  obtain ⟨pA, pc, rfl, _⟩ := hr
  have hpl := hp.1
  have hL5 := readP_sm b.1
  have HSL : Hid (Sm (readP b.1)) := Lib.hid (readP_Sm sx)
  have HSH : Hid (Sm (readP b.2)) := Lib.hid (readP_Sm sy)
  clear hp hRL hRH
  obtain ⟨r, HRR⟩ : ∃ r, Hid (takes b a0 a1 a2 p = r) := ⟨_, Lib.hid rfl⟩
  rw [HRR.out]
  obtain ⟨okL, HOL⟩ : ∃ z, Hid (readOk b.1 = z) := ⟨_, Lib.hid rfl⟩
  obtain ⟨okH, HOH⟩ : ∃ z, Hid (readOk b.2 = z) := ⟨_, Lib.hid rfl⟩
  obtain ⟨cL, HCL⟩ : ∃ z, Hid (cmpVer a0 a1 a2 p (readA b.1 0) (readA b.1 1) (readA b.1 2) (readP b.1) = z) := ⟨_, Lib.hid rfl⟩
  obtain ⟨cH, HCH⟩ : ∃ z, Hid (cmpVer a0 a1 a2 p (readA b.2 0) (readA b.2 1) (readA b.2 2) (readP b.2) = z) := ⟨_, Lib.hid rfl⟩
  have HT : Hid (r = if (okL && decide (cL < 0)) || (okH && decide (0 ≤ cH)) then false else ((p.length : Int) == 0) || (decide (0 < (readP b.1).length) && ((readA b.1 0 == a0) && (readA b.1 1 == a1) && (readA b.1 2 == a2)))) := Lib.hid (by rw [← HRR.out, ← HOL.out, ← HOH.out, ← HCL.out, ← HCH.out]; rfl)
  have HN : Hid (okL = false → (readP b.1).length = 0) := Lib.hid (fun h => by rw [readP_no (HOL.out.trans h)]; rfl)
  obtain ⟨m, HM⟩ : ∃ m, Hid ((readP b.1).length = m) := ⟨_, Lib.hid rfl⟩
  obtain ⟨mh, HMH⟩ : ∃ m, Hid ((readP b.2).length = m) := ⟨_, Lib.hid rfl⟩
  obtain ⟨l0, HL0⟩ : ∃ z, Hid (readA b.1 0 = z) := ⟨_, Lib.hid rfl⟩
  obtain ⟨l1, HL1⟩ : ∃ z, Hid (readA b.1 1 = z) := ⟨_, Lib.hid rfl⟩
  obtain ⟨l2, HL2⟩ : ∃ z, Hid (readA b.1 2 = z) := ⟨_, Lib.hid rfl⟩
  obtain ⟨h0, HH0⟩ : ∃ z, Hid (readA b.2 0 = z) := ⟨_, Lib.hid rfl⟩
  obtain ⟨h1, HH1⟩ : ∃ z, Hid (readA b.2 1 = z) := ⟨_, Lib.hid rfl⟩
  obtain ⟨h2, HH2⟩ : ∃ z, Hid (readA b.2 2 = z) := ⟨_, Lib.hid rfl⟩
  rw [HM.out] at hL5
  rw [HOL.out] at kb
  rw [HOH.out] at kc
  rw [HL0.out, HL1.out, HL2.out, HM.out] at lb
  rw [HH0.out, HH1.out, HH2.out, HMH.out] at lc
  have HT2 : Hid (r = if (okL && decide (cL < 0)) || (okH && decide (0 ≤ cH)) then false else ((p.length : Int) == 0) || (decide (0 < m) && ((l0 == a0) && (l1 == a1) && (l2 == a2)))) := Lib.hid (by rw [HT.out, HM.out, HL0.out, HL1.out, HL2.out])
  have HN2 : Hid (okL = false → m = 0) := Lib.hid (fun h => by rw [← HM.out]; exact HN.out h)
  clear HT HN HRR
  have B2' : Below w.heap.size w (w.alloc (.cells #[.int .i64 a0, .int .i64 a1, .int .i64 a2, .slice pA p.length pc] 51)) := (Below.refl _ _).alloc (Nat.le_refl _) _
  have v2 := heap_alloc_new w (.cells #[.int .i64 a0, .int .i64 a1, .int .i64 a2, .slice pA p.length pc] 51)
  have kb' := keepA kb (.cells #[.int .i64 a0, .int .i64 a1, .int .i64 a2, .slice pA p.length pc] 51)
  have kc' := keepA kc (.cells #[.int .i64 a0, .int .i64 a1, .int .i64 a2, .slice pA p.length pc] 51)
  have lw := keepA lb (.cells #[.int .i64 a0, .int .i64 a1, .int .i64 a2, .slice pA p.length pc] 51)
  have hh := keepA lc (.cells #[.int .i64 a0, .int .i64 a1, .int .i64 a2, .slice pA p.length pc] 51)
  have CL : ∀ (W : World), Below (w.alloc (.cells #[.int .i64 a0, .int .i64 a1, .int .i64 a2, .slice pA p.length pc] 51)).heap.size (w.alloc (.cells #[.int .i64 a0, .int .i64 a1, .int .i64 a2, .slice pA p.length pc] 51)) W → Calls Tryz.prog 42 #[.agg #[.int .i64 a0, .int .i64 a1, .int .i64 a2, .slice pA p.length pc], .agg #[.int .i64 l0, .int .i64 l1, .int .i64 l2, .slice uA m uc]] W fun e w' => e = .returned (.int .i64 cL) ∧ Below W.heap.size W w' := fun W hW => by
    have hw := B2'.trans (hW.mono B2'.size)
    have hR := HRL.out.below hw
    rw [HM.out] at hR
    have := implCompareVersion_any a0 a1 a2 l0 l1 l2 _ _ p _ W (HR.out W hw) hR HP.out HSL.out
    rw [← HL0.out, ← HL1.out, ← HL2.out, HCL.out] at this
    rw [← HL0.out, ← HL1.out, ← HL2.out]
    exact this
  have CH : ∀ (W : World), Below (w.alloc (.cells #[.int .i64 a0, .int .i64 a1, .int .i64 a2, .slice pA p.length pc] 51)).heap.size (w.alloc (.cells #[.int .i64 a0, .int .i64 a1, .int .i64 a2, .slice pA p.length pc] 51)) W → Calls Tryz.prog 42 #[.agg #[.int .i64 a0, .int .i64 a1, .int .i64 a2, .slice pA p.length pc], .agg #[.int .i64 h0, .int .i64 h1, .int .i64 h2, .slice tA mh tc]] W fun e w' => e = .returned (.int .i64 cH) ∧ Below W.heap.size W w' := fun W hW => by
    have hw := B2'.trans (hW.mono B2'.size)
    have hR := HRH.out.below hw
    rw [HMH.out] at hR
    have := implCompareVersion_any a0 a1 a2 h0 h1 h2 _ _ p _ W (HR.out W hw) hR HP.out HSH.out
    rw [← HH0.out, ← HH1.out, ← HH2.out, HCH.out] at this
    rw [← HH0.out, ← HH1.out, ← HH2.out]
    exact this
  have HCLC := Lib.hid CL
  have HCHC := Lib.hid CH
  clear CL CH kb kc lb lc
  have c0 := cells1 kb'
  have c1 := cells1 kc'
  obtain ⟨x0, x1, x2, x3⟩ := cells4 v2
  obtain ⟨y0, y1, y2, y3⟩ := cells4 lw
  obtain ⟨z0, z1', z2, z3⟩ := cells4 hh
  clear HR HP HSL HSH HOL HOH HCL HCH HM HMH HL0 HL1 HL2 HH0 HH1 HH2 hL5 HRL HRH
  go_enter Tryz.func121, Tryz.ntmps121
  cases okL
  · have m0 : m = 0 := HN2.out rfl
    cases okH
    · skip
      by_cases hpe : p.length = 0
      · have q0 : ((p.length : Int) == 0) = true := by simp [hpe]
        have HF : Hid (r = true) := Lib.hid (by rw [HT2.out]; simp [q0])
        clear hpe
        go_wp2_with fail
        go_ret
        exact ⟨ret_bool HF.out.symm, B2'⟩
      have q0 : ((p.length : Int) == 0) = false := int_beq_false (by omega)
      clear hpe
      have HF : Hid (r = false) := Lib.hid (by rw [HT2.out]; simp [q0, m0])
      go_wp2_with fail
      go_ret
      exact ⟨ret_bool HF.out.symm, B2'⟩
    · go_wp2_with fail
      refine (HCHC.out _ (Below.refl _ _)).mono ?_
      rintro e w3 ⟨rfl, hb3⟩
      have B3 := B2'.trans (hb3.mono B2'.size)
      obtain ⟨x0', x1', x2', x3'⟩ := cells4 (keepB v2 hb3)
      obtain ⟨y0', y1', y2', y3'⟩ := cells4 (keepB lw hb3)
      clear x0 x1 x2 x3 y0 y1 y2 y3 z0 z1' z2 z3 hb3 c0 c1
      by_cases hcH : 0 ≤ cH
      · skip
        have HF : Hid (r = false) := Lib.hid (by rw [HT2.out]; simp [hcH])
        go_wp2_with fail
        go_ret
        exact ⟨ret_bool HF.out.symm, B3⟩
      · skip
        by_cases hpe : p.length = 0
        · have q0 : ((p.length : Int) == 0) = true := by simp [hpe]
          have HF : Hid (r = true) := Lib.hid (by rw [HT2.out]; simp [q0, hcH])
          clear hpe
          go_wp2_with fail
          go_ret
          exact ⟨ret_bool HF.out.symm, B3⟩
        have q0 : ((p.length : Int) == 0) = false := int_beq_false (by omega)
        clear hpe
        have HF : Hid (r = false) := Lib.hid (by rw [HT2.out]; simp [q0, m0, hcH])
        go_wp2_with fail
        go_ret
        exact ⟨ret_bool HF.out.symm, B3⟩
  · go_wp2_with fail
    refine (HCLC.out _ (Below.refl _ _)).mono ?_
    rintro e w3 ⟨rfl, hb3⟩
    have B3 := B2'.trans (hb3.mono B2'.size)
    have c1' := cells1 (keepB kc' hb3)
    obtain ⟨x0', x1', x2', x3'⟩ := cells4 (keepB v2 hb3)
    obtain ⟨y0', y1', y2', y3'⟩ := cells4 (keepB lw hb3)
    obtain ⟨z0', z1'', z2', z3'⟩ := cells4 (keepB hh hb3)
    clear x0 x1 x2 x3 y0 y1 y2 y3 z0 z1' z2 z3 c0 c1
    by_cases hcL : cL < 0
    · skip
      have HF : Hid (r = false) := Lib.hid (by rw [HT2.out]; simp [hcL])
      go_wp2_with fail
      go_ret
      exact ⟨ret_bool HF.out.symm, B3⟩
    cases okH
    · skip
      by_cases hpe : p.length = 0
      · have q0 : ((p.length : Int) == 0) = true := by simp [hpe]
        have HF : Hid (r = true) := Lib.hid (by rw [HT2.out]; simp [q0, hcL])
        clear hpe
        go_wp2_with fail
        go_ret
        exact ⟨ret_bool HF.out.symm, B3⟩
      have q0 : ((p.length : Int) == 0) = false := int_beq_false (by omega)
      clear hpe
      by_cases hme : m = 0
      · have q1 : ¬ (0 : Int) < (m : Int) := by omega
        have HF : Hid (r = false) := Lib.hid (by rw [HT2.out]; simp [q0, hme, hcL])
        clear hme
        go_wp2_with fail
        go_ret
        exact ⟨ret_bool HF.out.symm, B3⟩
      have q1 : (0 : Int) < (m : Int) := by omega
      have q1' : 0 < m := by omega
      clear hme
      have HF : Hid (((l0 == a0) && (l1 == a1) && (l2 == a2)) = r) := Lib.hid (by rw [HT2.out]; simp [q0, q1', hcL])
      go_wp2_with fail
      refine (sameNumbers_any _ _ _ _ _ _ _ _ _ _ _ _ _).mono ?_
      rw [HF.out]
      rintro e w9 ⟨rfl, hb9⟩
      have B9 := B3.trans (hb9.mono B3.size)
      go_wp2_with fail
      go_ret
      exact ⟨rfl, B9⟩
    · go_wp2_with fail
      refine (HCHC.out _ hb3).mono ?_
      rintro e w4 ⟨rfl, hb4⟩
      have B4 := B3.trans (hb4.mono B3.size)
      obtain ⟨x0, x1, x2, x3⟩ := cells4 (keepB (keepB v2 hb3) hb4)
      obtain ⟨y0, y1, y2, y3⟩ := cells4 (keepB (keepB lw hb3) hb4)
      clear x0' x1' x2' x3' y0' y1' y2' y3' z0' z1'' z2' z3' c1' hb3 hb4
      by_cases hcH : 0 ≤ cH
      · skip
        have HF : Hid (r = false) := Lib.hid (by rw [HT2.out]; simp [hcH])
        go_wp2_with fail
        go_ret
        exact ⟨ret_bool HF.out.symm, B4⟩
      · skip
        by_cases hpe : p.length = 0
        · have q0 : ((p.length : Int) == 0) = true := by simp [hpe]
          have HF : Hid (r = true) := Lib.hid (by rw [HT2.out]; simp [q0, hcL, hcH])
          clear hpe
          go_wp2_with fail
          go_ret
          exact ⟨ret_bool HF.out.symm, B4⟩
        have q0 : ((p.length : Int) == 0) = false := int_beq_false (by omega)
        clear hpe
        by_cases hme : m = 0
        · have q1 : ¬ (0 : Int) < (m : Int) := by omega
          have HF : Hid (r = false) := Lib.hid (by rw [HT2.out]; simp [q0, hme, hcH])
          clear hme
          go_wp2_with fail
          go_ret
          exact ⟨ret_bool HF.out.symm, B4⟩
        have q1 : (0 : Int) < (m : Int) := by omega
        have q1' : 0 < m := by omega
        clear hme
        have HF : Hid (((l0 == a0) && (l1 == a1) && (l2 == a2)) = r) := Lib.hid (by rw [HT2.out]; simp [q0, q1', hcL, hcH])
        go_wp2_with fail
        refine (sameNumbers_any _ _ _ _ _ _ _ _ _ _ _ _ _).mono ?_
        rw [HF.out]
        rintro e w9 ⟨rfl, hb9⟩
        have B9 := B4.trans (hb9.mono B4.size)
        go_wp2_with fail
        go_ret
        exact ⟨rfl, B9⟩
end Go.Proofs.YtjpclglklmlhlabGreatDoor

/-
  The tests of bounds in a row: impl.testsOf; impl.In.
-/
namespace Go.Proofs.YtjpclglklmlhlabGreatDoor
open Go.RowKit

theorem fninfo : (Tryz.prog.info? 65).map (fun i => (i.zero, i.size, i.bytes)) = some (some .nilFunc, 1, 8) := by kernel_rfl
/-- v is the call's own row of these functions. -/
def Fns (w : World) (base : Nat) (v : Value) (fs : List Value) : Prop := w.ownsRow base 65 1 v fs.length fs
theorem Fns.form {w : World} {base : Nat} {v : Value} {l : List Value} (h : Fns w base v l) : (v = .slice none 0 0 ∧ l = []) ∨ ∃ g cap, v = .slice (some ⟨g, 0, none⟩) l.length cap ∧ base ≤ g ∧ g < w.heap.size := by
  rcases h.2 with ⟨hv, hl⟩ | ⟨g, cap, cur, hv, hb, hh, _⟩
  · left; exact ⟨hv, by simpa using hl⟩
  · right
    refine ⟨g, cap, hv, hb, ?_⟩
    rcases Nat.lt_or_ge g w.heap.size with hlt | hge
    · exact hlt
    · rw [Array.getElem?_eq_none hge] at hh; cases hh
theorem Fns.alloc {w : World} {base : Nat} {v : Value} {l : List Value} (h : Fns w base v l) (o : Obj) : Fns (w.alloc o) base v l := World.ownsRow.alloc h o
theorem Fns.owned {w : World} {base : Nat} {v : Value} {l : List Value} (h : Fns w base v l) : ∀ g, v.ownBlock = some g → base ≤ g := by
  intro g hg
  rcases h.form with ⟨rfl, _⟩ | ⟨g', cap, rfl, hb, _⟩
  · simp [Value.ownBlock] at hg
  · simp [Value.ownBlock] at hg; omega
theorem Fns.below {w w' : World} {base : Nat} {v : Value} {l : List Value} (h : Fns w base v l) (hb : Below w.heap.size w w') : Fns w' base v l :=
  World.ownsRow.kept h (row := none) ⟨hb.os, hb.tape, hb.output, hb.size, fun i hi _ => hb.block i hi⟩ (by
    rcases h.form with ⟨rfl, _⟩ | ⟨g, cap, rfl, _, _⟩
    · left; rfl
    · right; simp [Value.ownBlock])
theorem Fns.cell {w : World} {base : Nat} {l : List Value} {g n cap : Nat} (h : Fns w base (.slice (some ⟨g, 0, none⟩) n cap) l) (k : Nat) (hk : k < l.length) : w.cell? ⟨g, k, none⟩ = some l[k] := by
  have := World.ownsRow.cells (g := g) h rfl k l[k] (by simp [hk])
  have hadd : (⟨g, 0, none⟩ : Addr).add k = ⟨g, k, none⟩ := by unfold Addr.add; split <;> simp_all
  rwa [hadd] at this
theorem Fns.empty (w : World) (base : Nat) (hb : base ≤ w.heap.size) : Fns (w.alloc (.cells #[] 65)) base (.slice (some ⟨w.heap.size, 0, none⟩) 0 0) [] := by
  have h := World.ownsRow_lit (base := base) (e := 65) (size := 1) w #[] 0 hb (by unfold maxLen; omega) (by simp)
  simpa [Fns] using h

theorem run_append_fns (w : World) (ty : TypeId) (base : Nat) (v : Value) (l : List Value) (hown : Fns w base v l) (x : Value) (hx : x.oneCell' = true) (B c : Nat) (t : TypeId) (fr : Nat × Nat)
    (hblk : w.heap[B]? = some (.cells #[x] t fr)) (hlen : l.length + 1 ≤ 16777216) (hbase : base ≤ w.heap.size) :
    ∃ g cap w', (Builtin.append_ #[60, 60] ty #[v, .slice (some ⟨B, 0, none⟩) 1 c]).run Tryz.prog w = .ok (.slice (some ⟨g, 0, none⟩) (l.length + 1) cap) w' ∧ Fns w' base (.slice (some ⟨g, 0, none⟩) (l.length + 1) cap) (l ++ [x]) ∧ w.grownBy w' v.ownBlock ∧ (v.ownBlock = some g ∨ g = w.heap.size) := by
  obtain ⟨i0, hi, hz0, hz1, hz2⟩ := info_parts fninfo
  obtain ⟨g, cap, w', hr, h2, h3, h4, _⟩ := run_append_lies (P := Tryz.prog) w 60 ty base 65 i0 .nilFunc 1 8 Tryz.underlying60 hi hz0 hz1 hz2 rfl (by decide) v l.length l hown
    ⟨B, 0, none⟩ 1 c [x] (by simp) (World.news_of_block hblk) (by intro u hu; simp at hu; subst hu; exact hx) (by omega) (by unfold maxLen; omega) (by omega) hbase _ rfl
  refine ⟨g, cap, w', hr, ?_, h3, h4⟩
  unfold Fns
  rw [List.length_append]
  exact h2

/-- append(tests, f) at a plain region's list. -/
theorem wpList_append_fns {w : World} {ops : Array Oper} {rest : List Oper} {o : Oper} {a : Act} {Q : Exit → Act → World → Prop} (hgd : o.guard = none) (s x : Operand)
    (ho : o.op = .call { callee := .builtin .append, args := #[s, x], argTypes := #[60, 60] })
    (base : Nat) (v : Value) (l : List Value) (hs : a.eval s = v) (hown : Fns w base v l) (y : Value) (hy : y.oneCell' = true) (B c : Nat) (t : TypeId) (fr : Nat × Nat)
    (hx : a.eval x = .slice (some ⟨B, 0, none⟩) 1 c) (hblk : w.heap[B]? = some (.cells #[y] t fr)) (hlen : l.length + 1 ≤ 16777216) (hbase : base ≤ w.heap.size)
    (h : ∀ g cap w', Fns w' base (.slice (some ⟨g, 0, none⟩) (l.length + 1) cap) (l ++ [y]) → w.grownBy w' v.ownBlock → wpList Tryz.prog ops Q rest (a.put o.dst (.slice (some ⟨g, 0, none⟩) (l.length + 1) cap)) w') : wpList Tryz.prog ops Q (o :: rest) a w := by
  refine wpList_plain hgd fun _ hK => ?_
  obtain ⟨g, cap, w', hr, h2, h3, _⟩ := run_append_fns w o.type base v l hown y hy B c t fr hblk hlen hbase
  unfold Oper.wp execOp
  simp only [ho, resolve, invoke, builtin, Sem.run_bind, Sem.run_pure, Result.andThen_ok, List.map_toArray, List.map_cons, List.map_nil, hs, hx, hr]
  exact hK _ _ (h g cap w' h2 h3)

/-- A row of functions that grows leaves a test as it was. -/
theorem TestAt.grown {w w' : World} {base : Nat} {v f : Value} {fs : List Value} {b : Bd} (h : TestAt w f b) (hF : Fns w base v fs) (hg : w.grownBy w' v.ownBlock) : TestAt w' f b := by
  obtain ⟨Bb, Bl, Cb, Cl, uc, tc, uA, tA, e, h1, h2, h3, h4, h5, h6⟩ := h
  have ne : ∀ (B : Nat) (cs : Array Value) (T : TypeId), w.heap[B]? = some (.cells cs T) → T ≠ 65 → some B ≠ v.ownBlock := fun B cs T hB hT => by
    rcases hF.2 with ⟨rfl, _⟩ | ⟨g, cap, cur, rfl, _, hh, _⟩
    · simp [Value.ownBlock]
    · simp only [Value.ownBlock, ne_eq, Option.some.injEq]
      rintro rfl
      rw [hh] at hB
      simp only [Option.some.injEq, Obj.cells.injEq] at hB
      exact hT hB.2.1.symm
  have keep : ∀ (B : Nat) (cs : Array Value) (T : TypeId), w.heap[B]? = some (.cells cs T) → T ≠ 65 → w'.heap[B]? = some (.cells cs T) := fun B cs T hB hT => (hg.block B (lt_of_heap hB) (ne B cs T hB hT)).trans hB
  have keepS : ∀ (u : Value) (ls : List (List UInt8)), Strs w 0 u ls → Strs w' 0 u ls := fun u ls hS => World.ownsRow.kept hS hg (by
    rcases hS.2 with ⟨rfl, _⟩ | ⟨g, cap, cur, rfl, _, hh, _⟩
    · left; rfl
    · right
      have := ne g cur _ hh (by decide)
      simpa [Value.ownBlock] using this)
  exact ⟨Bb, Bl, Cb, Cl, uc, tc, uA, tA, e, keep _ _ _ h1 (by decide), keep _ _ _ h2 (by decide), keep _ _ _ h3 (by decide), keep _ _ _ h4 (by decide), keepS _ _ h5, keepS _ _ h6⟩

/-- The bounds of a range, none where they are none. -/
def goodB (bs : List Bd) : List Bd := if rngOk bs = true then bs else []
/-- The tests fs are those of the bounds bs. -/
def Tests (w : World) (fs : List Value) (bs : List Bd) : Prop := fs.length = bs.length ∧ ∀ (k : Nat) (f : Value) (b : Bd), fs[k]? = some f → bs[k]? = some b → TestAt w f b
theorem Tests.below {w w' : World} {fs : List Value} {bs : List Bd} (h : Tests w fs bs) (hb : Below w.heap.size w w') : Tests w' fs bs := ⟨h.1, fun k f b h1 h2 => (h.2 k f b h1 h2).below hb⟩
theorem Tests.snoc {w : World} {fs : List Value} {bs : List Bd} {f : Value} {b : Bd} (h : Tests w fs bs) (hf : TestAt w f b) : Tests w (fs ++ [f]) (bs ++ [b]) := by
  refine ⟨by simp [h.1], fun k f' b' h1 h2 => ?_⟩
  by_cases hk : k < fs.length
  · rw [List.getElem?_append_left hk] at h1
    rw [List.getElem?_append_left (by rw [← h.1]; exact hk)] at h2
    exact h.2 k f' b' h1 h2
  · rw [List.getElem?_append_right (by omega)] at h1
    rw [List.getElem?_append_right (by rw [← h.1]; omega), ← h.1] at h2
    cases hn : k - fs.length with
    | zero => rw [hn] at h1 h2; simp at h1 h2; subst h1 h2; exact hf
    | succ n => rw [hn] at h1; simp at h1

set_option maxRecDepth 100000 in
set_option maxHeartbeats 2000000 in
theorem testsOf_any (v : Value) (bs : List Bd) (w : World) (hr : RdB w v bs) (hs : SmB bs) :
    Calls Tryz.prog 46 #[v] w fun e w' => ∃ u, e = .returned u ∧ ∃ fs, Fns w' w.heap.size u fs ∧ Tests w' fs (goodB bs) ∧ Below w.heap.size w w' := by
  have HR := Lib.hid hr
  have HS := Lib.hid hs
  have HV := Lib.hid (fun (W : World) (h : Below w.heap.size w W) => implRangeOk_any v bs W (hr.below h) hs)
  obtain ⟨A, ca, rfl, ha⟩ := hr
  have hn : bs.length ≤ 1048576 := by unfold SmB at hs; omega
  clear ha hs
  have F0 := Fns.empty w w.heap.size (Nat.le_refl _)
  have B0 : Below w.heap.size w (w.alloc (.cells #[] 65)) := (Below.refl _ _).alloc (Nat.le_refl _) _
  obtain ⟨ok, HO⟩ : ∃ ok, Hid (rngOk bs = ok) := ⟨_, Lib.hid rfl⟩
  go_enter Tryz.func46, Tryz.ntmps46
  go_wp2_with fail
  refine (HV.out _ B0).mono ?_
  rw [HO.out]
  rintro e w1 ⟨rfl, hb1⟩
  have F1 := F0.below hb1
  have B1 := B0.trans (hb1.mono B0.size)
  clear F0 B0 hb1
  cases ok
  · go_wp2_with fail
    go_ret
    have HX : Hid (goodB bs = []) := Lib.hid (by unfold goodB; rw [HO.out]; rfl)
    exact ⟨_, rfl, [], F1, by rw [HX.out]; exact ⟨rfl, fun k f b h => by simp at h⟩, B1⟩
  go_wp2_with fail
  go_loopw [3, 5, 13] (fun o _ i wr => ∃ (k : Nat) (fs : List Value), k ≤ bs.length ∧ i = .int .i64 k ∧ Fns wr w.heap.size o fs ∧ Tests wr fs (bs.take k) ∧ Below w.heap.size w wr) (fun _ _ i _ => bs.length - (intOf i).toNat)
  case atStart => exact ⟨0, [], Nat.zero_le _, rfl, F1, ⟨by simp, fun k f b h => by simp at h⟩, B1⟩
  case round =>
    obtain ⟨k, fs, hk, rfl, hF, hT, hb⟩ := hrel
    by_cases hlt : k < bs.length
    · have k0 : (0 : Int) ≤ (k : Int) := by omega
      have k1 : (k : Int) < (bs.length : Int) := by omega
      have HG := Lib.hid (smB_get HS.out k hlt)
      obtain ⟨A', ca', hv, ha⟩ := HR.out.below hb
      simp only [Value.slice.injEq] at hv
      obtain ⟨rfl, _, rfl⟩ := hv
      obtain ⟨g, off, rfl, hg, hca⟩ := ha (by omega)
      have d1 : wr.cell? ⟨g, off + k * 2, none⟩ = some (.string ⟨bs[k].1.toArray⟩) := (hca k hlt).1
      have d2 : wr.cell? ⟨g, off + k * 2 + 1, none⟩ = some (.string ⟨bs[k].2.toArray⟩) := (hca k hlt).2
      have B2 : Below w.heap.size w (wr.alloc (.cells #[.string ⟨bs[k].1.toArray⟩, .string ⟨bs[k].2.toArray⟩] 58)) := hb.alloc hb.size _
      have F2 := hF.alloc (.cells #[.string ⟨bs[k].1.toArray⟩, .string ⟨bs[k].2.toArray⟩] 58)
      have T2 := hT.below ((Below.refl wr.heap.size wr).alloc (Nat.le_refl _) (.cells #[.string ⟨bs[k].1.toArray⟩, .string ⟨bs[k].2.toArray⟩] 58))
      have HN : Hid (bs.take k ++ [bs[k]] = bs.take (k + 1)) := Lib.hid (by rw [List.take_succ_eq_append_getElem hlt])
      have lm : fs.length = k := by rw [hT.1]; simp; omega
      clear ha hca F1 B1
      go_wp2_with fail
      refine (testOf_any _ _ _ HG.out.1 HG.out.2).mono ?_
      rintro e w3 ⟨f, rfl, hA, h1c, hb3⟩
      have B3 := B2.trans (hb3.mono B2.size)
      have F3 := F2.below hb3
      have T3 := (T2.below hb3).snoc hA
      rw [HN.out] at T3
      obtain ⟨Bb, Bl, Cb, Cl, _, _, _, _, hfe, _⟩ := id hA
      subst hfe
      clear d1 d2 F2 T2 hT hF hb3 hA
      go_wp2_with (at_builtin; refine wpList_append_fns rfl _ _ rfl w.heap.size _ _ rfl (F3.alloc _) _ h1c w3.heap.size _ _ _ rfl (heap_alloc_new w3 _) (by omega) (by simp; exact Nat.le_succ_of_le B3.size) ?_; intro g2 cap2 w4 F4 hg4)
      have T4 : Tests w4 _ (bs.take (k + 1)) := ⟨T3.1, fun j f b h1 h2 => ((T3.2 j f b h1 h2).below ((Below.refl w3.heap.size w3).alloc (Nat.le_refl _) _)).grown (F3.alloc _) hg4⟩
      have B4 : Below w.heap.size w w4 := by
        refine Below.grown (B3.alloc B3.size _) hg4 ?_ ?_
        · simp; exact Nat.le_succ_of_le B3.size
        · exact F3.owned
      rw [lm] at F4
      go_wp2_with fail
      go_roundw
      case rel => exact ⟨k + 1, _, by omega, by go_num, F4, T4, B4⟩
      case measure => simp [intOf]; omega
    · have HX : Hid (goodB bs = bs) := Lib.hid (by unfold goodB; rw [HO.out]; rfl)
      rw [List.take_of_length_le (by omega)] at hT
      go_wp2_with fail
      go_ret
      exact ⟨_, rfl, fs, hF, by rw [HX.out]; exact hT, hb⟩

set_option maxRecDepth 100000 in
set_option maxHeartbeats 4000000 in
theorem implIn_any (s : ByteArray) (v : Value) (bs : List Bd) (w : World) (hz : s.size ≤ 1048576) (hr : RdB w v bs) (hs : SmB bs) :
    Calls Tryz.prog 35 #[.string s, v] w fun e w' => e = .returned (.bool (inR s.data.toList bs)) ∧ Below w.heap.size w w' := by
  have HTO := Lib.hid (fun (W : World) (h : Below w.heap.size w W) => testsOf_any v bs W (hr.below h) hs)
  have HS := Lib.hid hs
  have HSP : Hid (Sm (readP s.data.toList)) := Lib.hid (readP_Sm (by simpa using hz))
  clear hs
  obtain ⟨ok, HOK⟩ : ∃ z, Hid (readOk s.data.toList = z) := ⟨_, Lib.hid rfl⟩
  obtain ⟨m, HM⟩ : ∃ m, Hid ((readP s.data.toList).length = m) := ⟨_, Lib.hid rfl⟩
  obtain ⟨l0, HL0⟩ : ∃ z, Hid (readA s.data.toList 0 = z) := ⟨_, Lib.hid rfl⟩
  obtain ⟨l1, HL1⟩ : ∃ z, Hid (readA s.data.toList 1 = z) := ⟨_, Lib.hid rfl⟩
  obtain ⟨l2, HL2⟩ : ∃ z, Hid (readA s.data.toList 2 = z) := ⟨_, Lib.hid rfl⟩
  have HI : Hid (inR s.data.toList bs = (ok && rngOk bs && bs.any (takesL s.data.toList))) := Lib.hid (by unfold inR; rw [HOK.out])
  go_enter Tryz.func35, Tryz.ntmps35
  go_wp2_with fail
  refine (implReadVersion_any _ _ hz).mono ?_
  rintro e w1 ⟨u, rfl, hu, hb1⟩
  obtain ⟨uA, uc, rfl⟩ := hu.slice
  rw [HOK.out, HL0.out, HL1.out, HL2.out, HM.out]
  have hRL : RdS w1 (.slice uA m uc) (readP s.data.toList) := by have := RdS.of_strs hu; rw [HM.out] at this; exact this
  have B1 := hb1.alloc hb1.size (.cells #[.int .i64 l0, .int .i64 l1, .int .i64 l2, .slice uA m uc] 51)
  have v1 := heap_alloc_new w1 (.cells #[.int .i64 l0, .int .i64 l1, .int .i64 l2, .slice uA m uc] 51)
  have hR1 := rdS_alloc hRL (.cells #[.int .i64 l0, .int .i64 l1, .int .i64 l2, .slice uA m uc] 51)
  clear hb1 hu hRL
  cases ok
  · have HF : Hid (inR s.data.toList bs = false) := Lib.hid (by rw [HI.out]; rfl)
    go_wp2_with fail
    go_ret
    exact ⟨ret_bool HF.out.symm, B1⟩
  go_wp2_with fail
  refine (HTO.out _ B1).mono ?_
  rintro e w2 ⟨t, rfl, fs, hF, hT, hb2⟩
  have B2 := B1.trans (hb2.mono B1.size)
  have v2 := keepB v1 hb2
  have hR2 := hR1.below hb2
  obtain ⟨cs, HCS⟩ : ∃ cs, Hid ((goodB bs) = cs) := ⟨_, Lib.hid rfl⟩
  rw [HCS.out] at hT
  have HI2 : Hid (inR s.data.toList bs = cs.any (takesL s.data.toList)) := Lib.hid (by
    rw [HI.out, ← HCS.out]
    unfold goodB
    by_cases h : rngOk bs = true
    · rw [if_pos h, h]; rfl
    · rw [if_neg h, Bool.eq_false_iff.2 h]; rfl)
  have HLN : Hid (∀ b ∈ cs, b.1.length ≤ 1048576 ∧ b.2.length ≤ 1048576) := Lib.hid (fun b hb => by
    have hm : b ∈ bs := by
      rw [← HCS.out] at hb
      unfold goodB at hb
      split at hb
      · exact hb
      · cases hb
    have := smB_mem b hm
    have h := HS.out
    unfold SmB at h
    omega)
  have lc : cs.length ≤ 1048576 := by
    have h := HS.out
    rw [← HCS.out]
    unfold SmB at h
    unfold goodB
    split
    · omega
    · simp
  obtain ⟨tA, tc, htv, htc⟩ : ∃ A c, t = .slice A cs.length c ∧ ∀ k (h : k < cs.length), ∃ g f, A = some ⟨g, 0, none⟩ ∧ g < w2.heap.size ∧ w2.cell? ⟨g, k, none⟩ = some f ∧ TestAt w2 f cs[k] := by
    rcases hF.form with ⟨rfl, rfl⟩ | ⟨g, cap, rfl, _, hg⟩
    · have : cs.length = 0 := hT.1.symm
      exact ⟨none, 0, by rw [this], fun k h => by omega⟩
    · refine ⟨_, cap, by rw [hT.1], fun k h => ⟨g, fs[k]'(by rw [hT.1]; exact h), rfl, hg, hF.cell k _, hT.2 k _ _ (List.getElem?_eq_getElem _) (List.getElem?_eq_getElem h)⟩⟩
  subst htv
  have HTC := Lib.hid htc
  have HV2 := Lib.hid v2
  have HR2 := Lib.hid hR2
  clear htc v2 hR2 hT hF hb2 B1 v1 hR1 hr
  go_wp2_with fail
  go_loopw [8, 19] (fun _ i wr => ∃ k : Nat, k ≤ cs.length ∧ i = .int .i64 k ∧ Hid ((cs.take k).any (takesL s.data.toList) = false) ∧ Below w2.heap.size w2 wr) (fun _ i _ => cs.length - (intOf i).toNat)
  case atStart => exact ⟨0, Nat.zero_le _, rfl, Lib.hid (by simp), Below.refl _ _⟩
  case round =>
    obtain ⟨k, hk, rfl, H, hb⟩ := hrel
    by_cases hlt : k < cs.length
    · have k0 : (0 : Int) ≤ (k : Int) := by omega
      have k1 : (k : Int) < (cs.length : Int) := by omega
      obtain ⟨g, f, rfl, hg, hc, hA⟩ := HTC.out k hlt
      have HLK := HLN.out cs[k] (List.getElem_mem hlt)
      obtain ⟨caps, hfe, hcall⟩ := test1_any cs[k] f l0 l1 l2 _ _ wr (hA.below hb) (HR2.out.below hb) HSP.out HLK.1 HLK.2
      obtain ⟨Bb, Bl, Cb, Cl, _, _, _, _, hfe2, _⟩ := id hA
      rw [hfe2] at hfe hc
      simp only [Value.func.injEq, true_and] at hfe
      subst hfe
      have d1 := (hb.cell (p := ⟨g, k, none⟩) hg).trans hc
      obtain ⟨x0, x1, x2, x3⟩ := cells4 (keepB HV2.out hb)
      obtain ⟨tk, HTK⟩ : ∃ z, Hid (takes cs[k] l0 l1 l2 (readP s.data.toList) = z) := ⟨_, Lib.hid rfl⟩
      have HTL : Hid (takesL s.data.toList cs[k] = tk) := Lib.hid (by unfold takesL; rw [HL0.out, HL1.out, HL2.out]; exact HTK.out)
      rw [HTK.out] at hcall
      have HCC := Lib.hid hcall
      clear hcall hA hc hfe2
      go_wp2_with fail
      refine HCC.out.mono ?_
      rintro e w3 ⟨rfl, hb3⟩
      have B3 := hb.trans (hb3.mono hb.size)
      cases tk
      · have HH := Lib.hid (any_take cs _ k hlt H.out HTL.out)
        go_wp2_with fail
        go_roundw
        case rel => exact ⟨k + 1, by omega, by go_num, HH, B3⟩
        case measure => simp [intOf]; omega
      · have HFF : Hid (inR s.data.toList bs = true) := Lib.hid (by rw [HI2.out, any_yes cs _ k hlt HTL.out])
        go_wp2_with fail
        go_ret
        exact ⟨ret_bool HFF.out.symm, B2.trans (B3.mono B2.size)⟩
    · have HFF : Hid (inR s.data.toList bs = false) := Lib.hid (by
        have h := H.out
        rw [List.take_of_length_le (by omega)] at h
        rw [HI2.out, h])
      go_wp2_with fail
      go_ret
      exact ⟨ret_bool HFF.out.symm, B2.trans (hb.mono B2.size)⟩
end Go.Proofs.YtjpclglklmlhlabGreatDoor

/-
  A byte buffer of the call's own: what it owns as a list of bytes, and the string that it is turned into.
-/
namespace Go.Proofs.YtjpclglklmlhlabGreatDoor
open Go.RowKit

/-- A byte as a value. -/
def bv (c : UInt8) : Value := .int .u8 (c.toNat : Int)
/-- The value v owns just the bytes l, in blocks from base on. -/
def Buf (w : World) (base : Nat) (v : Value) (l : List UInt8) : Prop := w.ownsRow base 5 1 v l.length (l.map bv)

theorem u8info : (Tryz.prog.info? 5).map (fun i => (i.zero, i.size, i.bytes)) = some (some (.int .u8 0), 1, 1) := by kernel_rfl

theorem Buf.form {w : World} {base : Nat} {v : Value} {l : List UInt8} (h : Buf w base v l) : (v = .slice none 0 0 ∧ l = []) ∨ ∃ g cap, v = .slice (some ⟨g, 0, none⟩) l.length cap ∧ base ≤ g ∧ g < w.heap.size := by
  rcases h.2 with ⟨hv, hl⟩ | ⟨g, cap, cur, hv, hb, hh, _⟩
  · left; exact ⟨hv, by simpa using hl⟩
  · right
    refine ⟨g, cap, hv, hb, ?_⟩
    rcases Nat.lt_or_ge g w.heap.size with hlt | hge
    · exact hlt
    · rw [Array.getElem?_eq_none hge] at hh; cases hh

theorem Buf.conv {w : World} {base : Nat} {v : Value} {l : List UInt8} (h : Buf w base v l) : (convert 35 9 v).run Tryz.prog w = .ok (.string ⟨l.toArray⟩) w := by
  rcases h.form with ⟨rfl, rfl⟩ | ⟨g, cap, rfl, _, _⟩
  · rw [run_convert_bytes_string w 35 9 5 none 0 0 Tryz.underlying35 Tryz.underlying5 Tryz.underlying9]
    rfl
  · refine run_convert_bytes_back w 35 9 5 ⟨g, 0, none⟩ cap l Tryz.underlying35 Tryz.underlying5 Tryz.underlying9 ?_
    intro j hj
    exact World.ownsRow.cells (g := g) h rfl j _ (by simp [bv, hj])

theorem Buf.alloc {w : World} {base : Nat} {v : Value} {l : List UInt8} (h : Buf w base v l) (o : Obj) : Buf (w.alloc o) base v l := World.ownsRow.alloc h o
theorem Buf.drew {w : World} {base : Nat} {v : Value} {l : List UInt8} (h : Buf w base v l) : Buf w.drew base v l := World.ownsRow.drew h
theorem Buf.owned {w : World} {base : Nat} {v : Value} {l : List UInt8} (h : Buf w base v l) : ∀ g, v.ownBlock = some g → base ≤ g := by
  intro g hg
  rcases h.form with ⟨rfl, _⟩ | ⟨g', cap, rfl, hb, _⟩
  · simp [Value.ownBlock] at hg
  · simp [Value.ownBlock] at hg; omega

theorem run_append_buf (w : World) (ty : TypeId) (base : Nat) (v : Value) (l : List UInt8) (hown : Buf w base v l) (ns : List UInt8) (B c : Nat) (cs : Array Value) (t : TypeId) (fr : Nat × Nat)
    (hblk : w.heap[B]? = some (.cells cs t fr)) (hcs : cs.toList = ns.map bv) (hm : 0 < ns.length) (hlen : l.length + ns.length ≤ 16777216) (hbase : base ≤ w.heap.size) :
    ∃ v' w', (Builtin.append_ #[35, 35] ty #[v, .slice (some ⟨B, 0, none⟩) ns.length c]).run Tryz.prog w = .ok v' w' ∧ Buf w' base v' (l ++ ns) ∧ Below base w w' := by
  obtain ⟨i0, hi, hz0, hz1, hz2⟩ := info_parts u8info
  obtain ⟨g, cap, w', hr, h2, h3, _, _⟩ := run_append_lies (P := Tryz.prog) w 35 ty base 5 i0 (.int .u8 0) 1 1 Tryz.underlying35 hi hz0 hz1 hz2 rfl (by decide) v l.length (l.map bv) hown
    ⟨B, 0, none⟩ ns.length c (ns.map bv) (by simp) (by rw [← hcs]; exact World.news_of_block hblk) (by intro u hu; obtain ⟨x, _, rfl⟩ := List.mem_map.1 hu; rfl) hm (by unfold maxLen; omega) (by omega) hbase _ rfl
  refine ⟨_, w', hr, ?_, (Below.refl base w).grown h3 hbase hown.owned⟩
  unfold Buf
  rw [List.length_append, List.map_append]
  exact h2

theorem wp_append_buf {w : World} {o : Oper} {a : Act} {K : Act → World → Prop} {Q : Exit → Act → World → Prop} (s x : Operand)
    (ho : o.op = .call { callee := .builtin .append, args := #[s, x], argTypes := #[35, 35] })
    (base : Nat) (v : Value) (l : List UInt8) (hs : a.eval s = v) (hown : Buf w base v l) (ns : List UInt8) (B m c : Nat) (cs : Array Value) (t : TypeId) (fr : Nat × Nat)
    (hx : a.eval x = .slice (some ⟨B, 0, none⟩) m c) (hmm : ns.length = m) (hblk : w.heap[B]? = some (.cells cs t fr)) (hcs : cs.toList = ns.map bv) (hm : 0 < ns.length) (hlen : l.length + ns.length ≤ 16777216) (hbase : base ≤ w.heap.size)
    (h : ∀ v' w', Buf w' base v' (l ++ ns) → Below base w w' → K (a.put o.dst v') w') : o.wp Tryz.prog a w K Q := by
  subst hmm
  obtain ⟨v', w', hr, h2, h3⟩ := run_append_buf w o.type base v l hown ns B c cs t fr hblk hcs hm hlen hbase
  unfold Oper.wp execOp
  simp only [ho, resolve, invoke, builtin, Sem.run_bind, Sem.run_pure, Result.andThen_ok, List.map_toArray, List.map_cons, List.map_nil, hs, hx, hr]
  exact h v' w' h2 h3

/-- append(out, bytes) at a plain region's list. -/
theorem wpList_append_buf {w : World} {ops : Array Oper} {rest : List Oper} {o : Oper} {a : Act} {Q : Exit → Act → World → Prop} (hgd : o.guard = none) (s x : Operand)
    (ho : o.op = .call { callee := .builtin .append, args := #[s, x], argTypes := #[35, 35] })
    (base : Nat) (v : Value) (l : List UInt8) (hs : a.eval s = v) (hown : Buf w base v l) (ns : List UInt8) (B m c : Nat) (cs : Array Value) (t : TypeId) (fr : Nat × Nat)
    (hx : a.eval x = .slice (some ⟨B, 0, none⟩) m c) (hmm : ns.length = m) (hblk : w.heap[B]? = some (.cells cs t fr)) (hcs : cs.toList = ns.map bv) (hm : 0 < ns.length) (hlen : l.length + ns.length ≤ 16777216) (hbase : base ≤ w.heap.size)
    (h : ∀ v' w', Buf w' base v' (l ++ ns) → Below base w w' → wpList Tryz.prog ops Q rest (a.put o.dst v') w') : wpList Tryz.prog ops Q (o :: rest) a w :=
  wpList_plain hgd fun _ hK => wp_append_buf s x ho base v l hs hown ns B m c cs t fr hx hmm hblk hcs hm hlen hbase fun v' w' h2 h3 => hK _ _ (h v' w' h2 h3)

/-- append(out, bytes) at a step of a region that draws its order. -/
theorem step_append_buf {w : World} {ops : Array Oper} {o : Oper} {a : Act} {K : Act → World → Prop} {Q : Exit → Act → World → Prop} {E : Prop} (hgd : o.guard = none) (s x : Operand)
    (ho : o.op = .call { callee := .builtin .append, args := #[s, x], argTypes := #[35, 35] })
    (base : Nat) (v : Value) (l : List UInt8) (hs : a.eval s = v) (hown : Buf w base v l) (ns : List UInt8) (B m c : Nat) (cs : Array Value) (t : TypeId) (fr : Nat × Nat)
    (hx : a.eval x = .slice (some ⟨B, 0, none⟩) m c) (hmm : ns.length = m) (hblk : w.heap[B]? = some (.cells cs t fr)) (hcs : cs.toList = ns.map bv) (hm : 0 < ns.length) (hlen : l.length + ns.length ≤ 16777216) (hbase : base ≤ w.heap.size)
    (h : ∀ v' w', Buf w' base v' (l ++ ns) → Below base w w' → K (a.put o.dst v') w') :
    if Region.wanted o (yielded ops a.tmps) = true then Oper.wp Tryz.prog o a w K Q else E := by
  have hw : Region.wanted o (yielded ops a.tmps) = true := by simp [Region.wanted, hgd]
  rw [if_pos hw]
  exact wp_append_buf s x ho base v l hs hown ns B m c cs t fr hx hmm hblk hcs hm hlen hbase h

def hexC (n : Nat) : UInt8 := ([48, 49, 50, 51, 52, 53, 54, 55, 56, 57, 97, 98, 99, 100, 101, 102] : List UInt8).getD n 0
def hexU (n : Nat) : UInt8 := ([48, 49, 50, 51, 52, 53, 54, 55, 56, 57, 65, 66, 67, 68, 69, 70] : List UInt8).getD n 0
theorem idx_lower (n : Nat) (hn : n < 16) (z : Int) (hz : z = (n : Int)) (w : World) : (Instr.index 9 (.string ⟨#[48, 49, 50, 51, 52, 53, 54, 55, 56, 57, 97, 98, 99, 100, 101, 102]⟩) (.int .u8 z)).run Tryz.prog w = .ok (.int .u8 ((hexC n).toNat : Int)) w := by
  subst hz
  obtain rfl | rfl | rfl | rfl | rfl | rfl | rfl | rfl | rfl | rfl | rfl | rfl | rfl | rfl | rfl | rfl : n = 0 ∨ n = 1 ∨ n = 2 ∨ n = 3 ∨ n = 4 ∨ n = 5 ∨ n = 6 ∨ n = 7 ∨ n = 8 ∨ n = 9 ∨ n = 10 ∨ n = 11 ∨ n = 12 ∨ n = 13 ∨ n = 14 ∨ n = 15 := by omega
  all_goals kernel_rfl
theorem idx_upper (n : Nat) (hn : n < 16) (z : Int) (hz : z = (n : Int)) (w : World) : (Instr.index 9 (.string ⟨#[48, 49, 50, 51, 52, 53, 54, 55, 56, 57, 65, 66, 67, 68, 69, 70]⟩) (.int .u8 z)).run Tryz.prog w = .ok (.int .u8 ((hexU n).toNat : Int)) w := by
  subst hz
  obtain rfl | rfl | rfl | rfl | rfl | rfl | rfl | rfl | rfl | rfl | rfl | rfl | rfl | rfl | rfl | rfl : n = 0 ∨ n = 1 ∨ n = 2 ∨ n = 3 ∨ n = 4 ∨ n = 5 ∨ n = 6 ∨ n = 7 ∨ n = 8 ∨ n = 9 ∨ n = 10 ∨ n = 11 ∨ n = 12 ∨ n = 13 ∨ n = 14 ∨ n = 15 := by omega
  all_goals kernel_rfl
theorem and15 (c : UInt8) : bits .and .u8 (c.toNat : Int) 15 = (c.toNat : Int) % 16 := by
  have h : ∀ n : Nat, n < 256 → bits .and .u8 (n : Int) 15 = (n : Int) % 16 := by decide +kernel
  exact h _ c.toNat_lt

theorem Buf.lit (w : World) (base : Nat) (l : List UInt8) (hb : base ≤ w.heap.size) (hl : l.length ≤ 16777216) : Buf (w.alloc (.cells (l.map bv).toArray 5)) base (.slice (some ⟨w.heap.size, 0, none⟩) l.length l.length) l := by
  have h := World.ownsRow_lit (base := base) (e := 5) (size := 1) w (l.map bv).toArray l.length hb (by unfold maxLen; omega) (by simp)
  simpa [Buf] using h
theorem Buf.empty (w : World) (base : Nat) (hb : base ≤ w.heap.size) : Buf (w.alloc (.cells #[] 5)) base (.slice (some ⟨w.heap.size, 0, none⟩) 0 0) [] := Buf.lit w base [] hb (by simp)

theorem wrap_div16 (c : UInt8) : IntKind.u8.wrap ((c.toNat : Int) / 16) = (c.toNat : Int) / 16 := by
  have h : ∀ n : Nat, n < 256 → IntKind.u8.wrap ((n : Int) / 16) = (n : Int) / 16 := by decide +kernel
  exact h _ c.toNat_lt

theorem tmod16 (c : UInt8) : (c.toNat : Int).tmod 16 = (c.toNat : Int) % 16 := Int.tmod_eq_emod_of_nonneg (by omega)

end Go.Proofs.YtjpclglklmlhlabGreatDoor

/-
  A string appended to a byte buffer of the call's own.
-/
namespace Go.Proofs.YtjpclglklmlhlabGreatDoor
open Go.RowKit

theorem wpList_append_buf_str {w : World} {ops : Array Oper} {rest : List Oper} {o : Oper} {a : Act} {Q : Exit → Act → World → Prop} (hgd : o.guard = none) (s x : Operand)
    (ho : o.op = .call { callee := .builtin .append, args := #[s, x], argTypes := #[35, 9] })
    (base : Nat) (v : Value) (l : List UInt8) (hs : a.eval s = v) (hown : Buf w base v l) (ns : List UInt8) (hx : a.eval x = .string ⟨ns.toArray⟩) (hlen : l.length + ns.length ≤ 16777216) (hbase : base ≤ w.heap.size)
    (h : ∀ v' w', Buf w' base v' (l ++ ns) → Below base w w' → wpList Tryz.prog ops Q rest (a.put o.dst v') w') : wpList Tryz.prog ops Q (o :: rest) a w := by
  obtain ⟨i0, hi, hz0, hz1, hz2⟩ := info_parts u8info
  have hsz : (⟨ns.toArray⟩ : ByteArray).size = ns.length := by show ns.toArray.size = _; simp
  refine Lib.wpList_append_own_string _ hgd s x 35 9 ho base 5 i0 Tryz.underlying35 Tryz.underlying9 hi hz0 hz1 hz2 v l.length (l.map bv) hs hown ⟨ns.toArray⟩ hx (by rw [hsz]; unfold maxLen; omega) (by rw [hsz]; omega) hbase ?_
  intro v' w' h2 h3 _
  refine h v' w' ?_ ((Below.refl base w).grown h3 hbase hown.owned)
  unfold Buf
  rw [hsz] at h2
  rw [List.length_append, List.map_append]
  exact h2

/-- A buffer is kept by whatever leaves all old blocks as they were. -/
theorem Buf.below {w w' : World} {base : Nat} {v : Value} {l : List UInt8} (h : Buf w base v l) (hb : Below w.heap.size w w') : Buf w' base v l :=
  World.ownsRow.kept h (row := none) ⟨hb.os, hb.tape, hb.output, hb.size, fun i hi _ => hb.block i hi⟩ (by
    rcases h.form with ⟨rfl, _⟩ | ⟨g, cap, rfl, _, _⟩
    · left; rfl
    · right; simp [Value.ownBlock])
end Go.Proofs.YtjpclglklmlhlabGreatDoor

/-
  The laws' own helper markText: a mark's text.
-/
namespace Go.Proofs.YtjpclglklmlhlabGreatDoor
open Go.RowKit

/-- The k-th mark. -/
def mt (k : Nat) : List UInt8 := 109 :: Lib.decDigits k
theorem dig_val (v : Nat) : bv (digC (v % 10)) = .int .u8 (48 + (v : Int) % 10) := by
  have h : ∀ d : Nat, d < 10 → bv (digC d) = .int .u8 (48 + (d : Int)) := by
    intro d hd
    unfold bv digC
    congr 1
    simp
    omega
  rw [h _ (by omega)]
  congr 1

set_option maxRecDepth 100000 in
set_option maxHeartbeats 1000000 in
theorem markText_any (u : Nat) (w : World) (h1 : 1 ≤ u) (h2 : u ≤ 100000000) :
    Calls Tryz.prog 50 #[.int .i64 (u : Int)] w fun e w' => e = .returned (.string ⟨(mt u).toArray⟩) ∧ Below w.heap.size w w' := by
  go_enter Tryz.func50, Tryz.ntmps50
  go_wp2
  go_loopw [0, 3] (fun m o wr => ∃ (v : Nat) (l : List UInt8), o = .string ⟨l.toArray⟩ ∧ m = .int .i64 (v : Int) ∧ v ≤ u ∧ DecAt u v l ∧ Below w.heap.size w wr) (fun m _ _ => (intOf m).toNat)
  case atStart => exact ⟨u, [], rfl, rfl, Nat.le_refl _, decAt_start u (by omega), Below.refl _ _⟩
  case round =>
    obtain ⟨v, l, rfl, rfl, hvu, H, hb⟩ := hrel
    have hl := decAt_len H (by omega)
    by_cases hv : v = 0
    · subst hv
      obtain rfl := decAt_end H
      clear H
      go_wp2
      go_ret
      exact ⟨congrArg Ending.returned (str_cons _ _), hb⟩
    · have HN := Lib.hid (decAt_step H (by omega))
      have hpos : (0 : Int) < (v : Int) := by omega
      have hcv := (Buf.lit wr w.heap.size [digC (v % 10)] hb.size (by simp)).conv
      have hdv := dig_val v
      simp only [List.map_cons, List.map_nil, hdv, List.length_cons, List.length_nil, Nat.zero_add] at hcv
      clear hdv H hv
      go_wp2
      go_roundw
      case rel => exact ⟨v / 10, _, str_cons _ _, by go_num, by omega, HN.out, hb.alloc hb.size _⟩
      case measure => simp [intOf]; omega
end Go.Proofs.YtjpclglklmlhlabGreatDoor

/-
  The laws' own helpers on lists of texts: markStringS writes marks over each, heldStringS reads them.
-/
namespace Go.Proofs.YtjpclglklmlhlabGreatDoor
open Go.RowKit

/-- The first k of n marks, then what stood there. -/
def mks (k : Nat) (ls : List (List UInt8)) : List (List UInt8) := (List.range k).map (fun j => mt (j + 1)) ++ ls.drop k
theorem mks_zero (ls : List (List UInt8)) : mks 0 ls = ls := by simp [mks]
theorem mks_len (k : Nat) (ls : List (List UInt8)) (h : k ≤ ls.length) : (mks k ls).length = ls.length := by simp [mks]; omega
theorem mks_get (k : Nat) (ls : List (List UInt8)) (j : Nat) (hj : j < k) (h : j < (mks k ls).length) : (mks k ls)[j] = mt (j + 1) := by simp [mks, hj]
theorem mks_set (k : Nat) (ls : List (List UInt8)) (h : k < ls.length) : (mks k ls).set k (mt (k + 1)) = mks (k + 1) ls := by
  unfold mks
  rw [List.set_append_right _ _ (by simp)]
  simp only [List.length_map, List.length_range, Nat.sub_self]
  rw [List.range_succ, List.map_append, List.append_assoc]
  congr 1
  rw [List.drop_eq_getElem_cons h]
  rfl

set_option maxRecDepth 100000 in
set_option maxHeartbeats 1000000 in
theorem markStringS_any (w : World) (base g cap : Nat) (ls : List (List UInt8)) (h : Strs w base (.slice (some ⟨g, 0, none⟩) ls.length cap) ls) (hb0 : base ≤ w.heap.size) (hg : base ≤ g) (hl : ls.length ≤ 2000000) :
    Calls Tryz.prog 17 #[.slice (some ⟨g, 0, none⟩) ls.length cap, .int .i64 1] w fun e w' => e = .returned (.int .i64 ((ls.length + 1 : Nat) : Int)) ∧ Strs w' base (.slice (some ⟨g, 0, none⟩) ls.length cap) (mks ls.length ls) ∧ Below base w w' := by
  go_enter Tryz.func17, Tryz.ntmps17
  go_wp2
  go_loopw [1, 5] (fun u i wr => ∃ k : Nat, k ≤ ls.length ∧ i = .int .i64 k ∧ u = .int .i64 ((k + 1 : Nat) : Int) ∧ Strs wr base (.slice (some ⟨g, 0, none⟩) ls.length cap) (mks k ls) ∧ Below base w wr) (fun _ i _ => ls.length - (intOf i).toNat)
  case atStart => exact ⟨0, Nat.zero_le _, rfl, rfl, by rw [mks_zero]; exact h, Below.refl _ _⟩
  case round =>
    obtain ⟨k, hk, rfl, rfl, hS, hb⟩ := hrel
    by_cases hlt : k < ls.length
    · have k0 : (0 : Int) ≤ (k : Int) := by omega
      have k1 : (k : Int) < (ls.length : Int) := by omega
      have hm := markText_any (k + 1) wr (by omega) (by omega)
      have HM := Lib.hid hm
      clear hm h
      go_wp2_with fail
      refine HM.out.mono ?_
      rintro e w2 ⟨rfl, hb2⟩
      have hS2 := hS.below hb2
      have hS2' : Strs w2 base (.slice (some ⟨g, 0, none⟩) (mks k ls).length cap) (mks k ls) := by rw [mks_len k ls hk]; exact hS2
      have c2 : w2.cell? ⟨g, k, none⟩ = some (sv ((mks k ls)[k]'(by rw [mks_len k ls hk]; exact hlt))) := hS2.cell k _
      have f2 : w2.frozen? ⟨g, k, none⟩ = false := World.ownsRow.frozenAt hS2' k
      have HB := hb.trans (hb2.mono (Nat.le_trans hb0 hb.size))
      go_wp2_with fail
      go_roundw
      case rel => exact ⟨k + 1, by omega, by go_num, by go_num, by have := hS2'.set k (mt (k + 1)); rw [mks_set k ls hlt, mks_len (k+1) ls (by omega)] at this; exact this, HB.setCell (p := ⟨g, k, none⟩) hg _⟩
      case measure => simp [intOf]; omega
    · obtain rfl : k = ls.length := by omega
      clear h
      go_wp2_with fail
      go_ret
      exact ⟨rfl, hS, hb⟩

set_option maxRecDepth 100000 in
set_option maxHeartbeats 1000000 in
theorem heldStringS_any (w : World) (base g cap : Nat) (ls : List (List UInt8)) (h : Strs w base (.slice (some ⟨g, 0, none⟩) ls.length cap) (mks ls.length ls)) (hl : ls.length ≤ 2000000) :
    Calls Tryz.prog 19 #[.slice (some ⟨g, 0, none⟩) ls.length cap, .int .i64 1] w fun e w' => e = .returned (.int .i64 ((ls.length + 1 : Nat) : Int)) ∧ Below w.heap.size w w' := by
  go_enter Tryz.func19, Tryz.ntmps19
  go_wp2
  go_loopw [1, 5] (fun u i wr => ∃ k : Nat, k ≤ ls.length ∧ i = .int .i64 k ∧ u = .int .i64 ((k + 1 : Nat) : Int) ∧ Strs wr base (.slice (some ⟨g, 0, none⟩) ls.length cap) (mks ls.length ls) ∧ Below w.heap.size w wr) (fun _ i _ => ls.length - (intOf i).toNat)
  case atStart => exact ⟨0, Nat.zero_le _, rfl, rfl, h, Below.refl _ _⟩
  case round =>
    obtain ⟨k, hk, rfl, rfl, hS, hb⟩ := hrel
    by_cases hlt : k < ls.length
    · have k0 : (0 : Int) ≤ (k : Int) := by omega
      have k1 : (k : Int) < (ls.length : Int) := by omega
      have HM := Lib.hid (fun W => markText_any (k + 1) W (by omega) (by omega))
      clear h
      have HC : Hid (∀ W, Strs W base (.slice (some ⟨g, 0, none⟩) ls.length cap) (mks ls.length ls) → W.cell? ⟨g, k, none⟩ = some (.string ⟨(mt (k + 1)).toArray⟩)) := Lib.hid (fun W hW => by
        have := hW.cell k (by rw [mks_len _ ls (Nat.le_refl _)]; exact hlt)
        rw [mks_get ls.length ls k hlt] at this
        exact this)
      have c1 := HC.out wr hS
      have g1 : g < wr.heap.size := by
        rcases hS.form with ⟨h', _⟩ | ⟨g', cap', h', _, hg'⟩
        · cases h'
        · simp only [Value.slice.injEq, Option.some.injEq, Addr.mk.injEq, and_true] at h'
          rw [h'.1]; exact hg'
      go_wp2_with fail
      go_region_held3 (fun W => W.cell? ⟨g, k, none⟩ = some (.string ⟨(mt (k + 1)).toArray⟩) ∧ g < W.heap.size) (first | exact ⟨c1, g1⟩ | (refine ⟨?_, ?_⟩ <;> assumption) | exact keep_cell hb1 (by assumption) (by assumption)) ((first | (go_at_call 50; refine (HM.out _).mono ?_; rintro e w1 ⟨rfl, hb1⟩)))
      go_wp2_with fail
      have hd : Below w.heap.size w wr.drew := hb.trans ⟨rfl, rfl, rfl, Nat.le_refl _, fun _ _ => rfl⟩
      go_roundw
      case rel => exact ⟨k + 1, by omega, by go_num, by go_num, hS.drew.below hb1, hd.trans (hb1.mono hd.size)⟩
      case measure => simp [intOf]; omega
    · obtain rfl : k = ls.length := by omega
      clear h
      go_wp2_with fail
      go_ret
      exact ⟨rfl, hb⟩
end Go.Proofs.YtjpclglklmlhlabGreatDoor

/-
  The laws' own helpers on lists of texts: markStringS writes marks over each, heldStringS reads them; nil lists too.
-/
namespace Go.Proofs.YtjpclglklmlhlabGreatDoor
open Go.RowKit

set_option maxRecDepth 100000 in
set_option maxHeartbeats 1000000 in
theorem markS_any (w : World) (base : Nat) (v : Value) (ls : List (List UInt8)) (h : Strs w base v ls) (hb0 : base ≤ w.heap.size) (hl : ls.length ≤ 2000000) :
    Calls Tryz.prog 17 #[v, .int .i64 1] w fun e w' => e = .returned (.int .i64 ((ls.length + 1 : Nat) : Int)) ∧ Strs w' base v (mks ls.length ls) ∧ Below base w w' := by
  rcases h.form with ⟨rfl, rfl⟩ | ⟨g, cap, rfl, hg, _⟩
  · go_enter Tryz.func17, Tryz.ntmps17
    go_wp2
    refine wp_loop_rounds 1 ?_
    rw [rounds_succ]; go_wp2
    go_ret
    exact ⟨rfl, h, Below.refl _ _⟩
  · exact markStringS_any w base g cap ls h hb0 hg hl
set_option maxRecDepth 100000 in
set_option maxHeartbeats 1000000 in
theorem heldS_any (w : World) (base : Nat) (v : Value) (ls : List (List UInt8)) (h : Strs w base v (mks ls.length ls)) (hl : ls.length ≤ 2000000) :
    Calls Tryz.prog 19 #[v, .int .i64 1] w fun e w' => e = .returned (.int .i64 ((ls.length + 1 : Nat) : Int)) ∧ Below w.heap.size w w' := by
  rcases h.form with ⟨rfl, h0⟩ | ⟨g, cap, rfl, hg, _⟩
  · have : ls = [] := by
      have := mks_len ls.length ls (Nat.le_refl _)
      rw [h0] at this
      exact List.eq_nil_of_length_eq_zero this.symm
    subst this
    go_enter Tryz.func19, Tryz.ntmps19
    go_wp2
    refine wp_loop_rounds 1 ?_
    rw [rounds_succ]; go_wp2
    go_ret
    exact ⟨rfl, Below.refl _ _⟩
  · rw [mks_len ls.length ls (Nat.le_refl _)] at h ⊢
    exact heldStringS_any w base g cap ls h hl

theorem gr_trans {w w1 w2 : World} {row : Option Nat} (h1 : w.grownBy w1 row) (h2 : w1.grownBy w2 row) : w.grownBy w2 row :=
  ⟨h2.os.trans h1.os, h2.tape.trans h1.tape, h2.output.trans h1.output, Nat.le_trans h1.size h2.size, fun k hk hn => (h2.block k (Nat.lt_of_lt_of_le hk h1.size) hn).trans (h1.block k hk hn)⟩
theorem gr_below {w w2 : World} {row : Option Nat} (hb : Below w.heap.size w w2) : w.grownBy w2 row := ⟨hb.os, hb.tape, hb.output, hb.size, fun k hk _ => hb.block k hk⟩
theorem gr_alloc (w : World) (o : Obj) (row : Option Nat) : w.grownBy (w.alloc o) row := gr_below ((Below.refl _ _).alloc (Nat.le_refl _) _)
theorem gr_set (w : World) (g k : Nat) (x : Value) : w.grownBy (w.setCell ⟨g, k, none⟩ x) (some g) := ⟨rfl, rfl, rfl, by simp, fun j _ hj => heap_setCell_other w ⟨g, k, none⟩ j x (fun e => hj (by simp [e]))⟩
theorem Strs.grown {w w' : World} {base : Nat} {v : Value} {l : List (List UInt8)} {row : Option Nat} (h : Strs w base v l) (hg : w.grownBy w' row) (hne : ∀ g, v.ownBlock = some g → some g ≠ row) : Strs w' base v l := by
  rcases h.form with ⟨rfl, rfl⟩ | ⟨g, cap, rfl, _, _⟩
  · exact ⟨by simp, .inl ⟨rfl, rfl⟩⟩
  · exact World.ownsRow.kept h hg (.inr (fun e => hne g rfl (by rw [← e]; rfl)))
theorem gr_heap {W V : World} {row : Option Nat} {B : Nat} {o : Obj} (hg : W.grownBy V row) (h : W.heap[B]? = some o) (hne : some B ≠ row) : V.heap[B]? = some o := (hg.block B (Array.getElem?_eq_some_iff.1 h).1 hne).trans h
theorem gr_belowN {W V : World} {row : Option Nat} {n : Nat} {w : World} (hb : Below n w W) (hg : W.grownBy V row) (hn : n ≤ W.heap.size) (hr : ∀ g, row = some g → n ≤ g) : Below n w V := hb.grown hg hn hr

set_option maxRecDepth 100000 in
set_option maxHeartbeats 1000000 in
theorem markStringS_gr (w : World) (base g cap : Nat) (ls : List (List UInt8)) (h : Strs w base (.slice (some ⟨g, 0, none⟩) ls.length cap) ls) (hl : ls.length ≤ 2000000) :
    Calls Tryz.prog 17 #[.slice (some ⟨g, 0, none⟩) ls.length cap, .int .i64 1] w fun e w' => e = .returned (.int .i64 ((ls.length + 1 : Nat) : Int)) ∧ Strs w' base (.slice (some ⟨g, 0, none⟩) ls.length cap) (mks ls.length ls) ∧ w.grownBy w' (some g) := by
  go_enter Tryz.func17, Tryz.ntmps17
  go_wp2
  go_loopw [1, 5] (fun u i wr => ∃ k : Nat, k ≤ ls.length ∧ i = .int .i64 k ∧ u = .int .i64 ((k + 1 : Nat) : Int) ∧ Strs wr base (.slice (some ⟨g, 0, none⟩) ls.length cap) (mks k ls) ∧ w.grownBy wr (some g)) (fun _ i _ => ls.length - (intOf i).toNat)
  case atStart => exact ⟨0, Nat.zero_le _, rfl, rfl, by rw [mks_zero]; exact h, World.grownBy.refl w _⟩
  case round =>
    obtain ⟨k, hk, rfl, rfl, hS, hb⟩ := hrel
    by_cases hlt : k < ls.length
    · have k0 : (0 : Int) ≤ (k : Int) := by omega
      have k1 : (k : Int) < (ls.length : Int) := by omega
      have HM := Lib.hid (markText_any (k + 1) wr (by omega) (by omega))
      clear h
      go_wp2_with fail
      refine HM.out.mono ?_
      rintro e w2 ⟨rfl, hb2⟩
      have hS2 := hS.below hb2
      have hS2' : Strs w2 base (.slice (some ⟨g, 0, none⟩) (mks k ls).length cap) (mks k ls) := by rw [mks_len k ls hk]; exact hS2
      have c2 : w2.cell? ⟨g, k, none⟩ = some (sv ((mks k ls)[k]'(by rw [mks_len k ls hk]; exact hlt))) := hS2.cell k _
      have f2 : w2.frozen? ⟨g, k, none⟩ = false := World.ownsRow.frozenAt hS2' k
      have HB := gr_trans hb (gr_below hb2)
      go_wp2_with fail
      go_roundw
      case rel => exact ⟨k + 1, by omega, by go_num, by go_num, by have := hS2'.set k (mt (k + 1)); rw [mks_set k ls hlt, mks_len (k+1) ls (by omega)] at this; exact this, gr_trans HB (gr_set _ _ _ _)⟩
      case measure => simp [intOf]; omega
    · obtain rfl : k = ls.length := by omega
      clear h
      go_wp2_with fail
      go_ret
      exact ⟨rfl, hS, hb⟩

set_option maxRecDepth 100000 in
set_option maxHeartbeats 1000000 in
theorem markS_gr (w : World) (base : Nat) (v : Value) (ls : List (List UInt8)) (h : Strs w base v ls) (hl : ls.length ≤ 2000000) :
    Calls Tryz.prog 17 #[v, .int .i64 1] w fun e w' => e = .returned (.int .i64 ((ls.length + 1 : Nat) : Int)) ∧ Strs w' base v (mks ls.length ls) ∧ w.grownBy w' v.ownBlock := by
  rcases h.form with ⟨rfl, rfl⟩ | ⟨g, cap, rfl, hg, _⟩
  · go_enter Tryz.func17, Tryz.ntmps17
    go_wp2
    refine wp_loop_rounds 1 ?_
    rw [rounds_succ]; go_wp2
    go_ret
    exact ⟨rfl, h, World.grownBy.refl w _⟩
  · exact markStringS_gr w base g cap ls h hl
end Go.Proofs.YtjpclglklmlhlabGreatDoor

/-
  impl.Holes: what stands between the versions of a range and is not in it.
-/
namespace Go.Proofs.YtjpclglklmlhlabGreatDoor
open Go.RowKit

theorem run_append_texts2 (w : World) (ty : TypeId) (base : Nat) (v : Value) (l : List (List UInt8)) (hown : Strs w base v l) (x : Value) (ls : List (List UInt8)) (hr : RdS w x ls) (hlen : l.length + ls.length ≤ 16777216) (hbase : base ≤ w.heap.size) :
    ∃ v' w', (Builtin.append_ #[22, 22] ty #[v, x]).run Tryz.prog w = .ok v' w' ∧ Strs w' base v' (l ++ ls) ∧ w.grownBy w' v.ownBlock ∧ (v'.ownBlock = v.ownBlock ∨ v'.ownBlock = some w.heap.size) := by
  obtain ⟨i0, hi, hz0, hz1, hz2⟩ := info_parts strinfo
  obtain ⟨A, cap, rfl, hc⟩ := hr
  have fin : ∀ (a : Addr), (∀ j u, (ls.map sv)[j]? = some u → w.cell? (a.add j) = some u) → ∃ v' w', (Builtin.append_ #[22, 22] ty #[v, .slice (some a) ls.length cap]).run Tryz.prog w = .ok v' w' ∧ Strs w' base v' (l ++ ls) ∧ w.grownBy w' v.ownBlock ∧ (v'.ownBlock = v.ownBlock ∨ v'.ownBlock = some w.heap.size) := fun a hn => by
    obtain ⟨v', w', h1, h2, h3, _, h5⟩ := run_append_own_at (P := Tryz.prog) w base 22 ty 9 i0 (.string ⟨#[]⟩) 1 16 Tryz.underlying22 hi hz0 hz1 hz2 rfl (by decide) v l.length (l.map sv) hown
      a ls.length cap (ls.map sv) (by simp) hn (by intro u hu; simp at hu; obtain ⟨_, _, rfl⟩ := hu; rfl) (by unfold maxLen; omega) (by omega) hbase
    refine ⟨v', w', h1, ?_, h3, h5⟩
    unfold Strs
    rw [List.length_append, List.map_append]
    exact h2
  by_cases h0 : ls = []
  · subst h0
    cases A with
    | none => exact ⟨v, w, run_append_none w ty base v l hown cap, by simpa using hown, World.grownBy.refl w _, .inl rfl⟩
    | some a => exact fin a (fun j u h => by simp at h)
  · obtain ⟨g, off, rfl, _, hk⟩ := hc (by cases ls <;> simp_all)
    refine fin _ (fun j u h => ?_)
    rw [List.getElem?_map] at h
    cases hj : ls[j]? with
    | none => rw [hj] at h; simp at h
    | some y =>
      rw [hj] at h
      simp at h
      subst h
      obtain ⟨hl, rfl⟩ := List.getElem?_eq_some_iff.1 hj
      rw [Go.WideShapes.add_plain]
      exact hk j hl
/-- append(out, texts...) at a plain region's list, and where it lies. -/
theorem wpList_append_texts2 {w : World} {ops : Array Oper} {rest : List Oper} {o : Oper} {a : Act} {Q : Exit → Act → World → Prop} (hgd : o.guard = none) (s x : Operand)
    (ho : o.op = .call { callee := .builtin .append, args := #[s, x], argTypes := #[22, 22] })
    (base : Nat) (v : Value) (l : List (List UInt8)) (hs : a.eval s = v) (hown : Strs w base v l) (y : Value) (ls : List (List UInt8)) (hx : a.eval x = y) (hr : RdS w y ls)
    (hlen : l.length + ls.length ≤ 16777216) (hbase : base ≤ w.heap.size)
    (h : ∀ v' w', Strs w' base v' (l ++ ls) → w.grownBy w' v.ownBlock → (v'.ownBlock = v.ownBlock ∨ v'.ownBlock = some w.heap.size) → wpList Tryz.prog ops Q rest (a.put o.dst v') w') : wpList Tryz.prog ops Q (o :: rest) a w := by
  refine wpList_plain hgd fun _ hK => ?_
  obtain ⟨v', w', hr, h2, h3, h4⟩ := run_append_texts2 w o.type base v l hown y ls hr hlen hbase
  unfold Oper.wp execOp
  simp only [ho, resolve, invoke, builtin, Sem.run_bind, Sem.run_pure, Result.andThen_ok, List.map_toArray, List.map_cons, List.map_nil, hs, hx, hr]
  exact hK _ _ (h v' w' h2 h3 h4)
/-- append(out, text) at a plain region's list, and where it lies. -/
theorem wpList_append_strs2 {w : World} {ops : Array Oper} {rest : List Oper} {o : Oper} {a : Act} {Q : Exit → Act → World → Prop} (hgd : o.guard = none) (s x : Operand)
    (ho : o.op = .call { callee := .builtin .append, args := #[s, x], argTypes := #[22, 22] })
    (base : Nat) (v : Value) (l : List (List UInt8)) (hs : a.eval s = v) (hown : Strs w base v l) (y : List UInt8) (B c : Nat) (t : TypeId) (fr : Nat × Nat)
    (hx : a.eval x = .slice (some ⟨B, 0, none⟩) 1 c) (hblk : w.heap[B]? = some (.cells #[sv y] t fr)) (hlen : l.length + 1 ≤ 16777216) (hbase : base ≤ w.heap.size)
    (h : ∀ g cap w', Strs w' base (.slice (some ⟨g, 0, none⟩) (l.length + 1) cap) (l ++ [y]) → w.grownBy w' v.ownBlock → (v.ownBlock = some g ∨ g = w.heap.size) → wpList Tryz.prog ops Q rest (a.put o.dst (.slice (some ⟨g, 0, none⟩) (l.length + 1) cap)) w') : wpList Tryz.prog ops Q (o :: rest) a w := by
  refine wpList_plain hgd fun _ hK => ?_
  obtain ⟨g, cap, w', hr, h2, h3, h4⟩ := run_append_strs w o.type base v l hown y B c t fr hblk hlen hbase
  unfold Oper.wp execOp
  simp only [ho, resolve, invoke, builtin, Sem.run_bind, Sem.run_pure, Result.andThen_ok, List.map_toArray, List.map_cons, List.map_nil, hs, hx, hr]
  exact hK _ _ (h g cap w' h2 h3 h4)

theorem holesGo_step {f : List UInt8 → Bool} {X : List (List UInt8)} {k : Nat} (h : k < X.length) (b : Bool) (wt : List (List UInt8)) :
    holesGo f b wt (X.drop k) = if f X[k] = true then wt ++ holesGo f true [] (X.drop (k + 1)) else if b = true then holesGo f true (wt ++ [X[k]]) (X.drop (k + 1)) else holesGo f false [] (X.drop (k + 1)) := by
  rw [List.drop_eq_getElem_cons h]
  rfl
theorem Strs.cut0 {w : World} {base b cap n : Nat} {B : List (List UInt8)} (h : Strs w base (.slice (some ⟨b, 0, none⟩) n cap) B) (hn : n = B.length) : Strs w base (.slice (some ⟨b, 0, none⟩) 0 cap) [] := by
  subst hn
  exact Strs.cut (A := []) (B := B) (by simpa using h)

set_option maxRecDepth 100000 in
set_option maxHeartbeats 4000000 in
theorem implHoles_any (v vb : Value) (ls : List (List UInt8)) (bs : List Bd) (w : World) (hr : RdS w v ls) (hs : Sm ls) (hrb : RdB w vb bs) (hsb : SmB bs) (ht : Tab w) :
    Calls Tryz.prog 16 #[v, vb] w fun e w' => ∃ out u, e = .returned u ∧ Strs w' w.heap.size u (holesL (inF bs) out) ∧ SortOf ls out ∧ Below w.heap.size w w' := by
  have HS := Lib.hid hs
  have hn := hs.1
  have B0 : Below w.heap.size w ((w.alloc (.cells #[] 9)).alloc (.cells #[] 9)) := ((Below.refl _ _).alloc (Nat.le_refl _) _).alloc (by simp) _
  have HC := Lib.hid (implSortVersions_any v ls _ (hr.below B0) hs (tab_below ht B0))
  have HIN := Lib.hid (fun (W : World) (s : ByteArray) (hb : Below w.heap.size w W) (hz : s.size ≤ 1048576) => implIn_any s vb bs W hz (hrb.below hb) hsb)
  have H0 := (Strs.empty w w.heap.size (Nat.le_refl _)).alloc (.cells #[] 9)
  have W0 := Strs.emptyAt (w.alloc (.cells #[] 9)) w.heap.size (w.heap.size + 1) (by simp) (by omega)
  clear hr hs hrb hsb ht
  obtain ⟨f, HF⟩ : ∃ f, Hid (inF bs = f) := ⟨_, Lib.hid rfl⟩
  rw [HF.out]
  go_enter Tryz.func16, Tryz.ntmps16
  go_wp2_with fail
  refine HC.out.mono ?_
  rintro e w1 ⟨ug, uc, X, rfl, S0, hSO, hb1⟩
  have lo := sortOf_len hSO
  have HSZ : Hid (∀ l ∈ X, l.length ≤ 1048576) := Lib.hid (fun l hl => HS.out.2 l ((hSO.2 l).1 hl).1)
  have HSO := Lib.hid hSO
  have ulo : w.heap.size + 2 ≤ ug := by have := S0.lo; simpa using this
  have X1 := S0.weaken (show w.heap.size ≤ _ from B0.size)
  have H1 := H0.below hb1
  have W1 := W0.below hb1
  have B1 := B0.trans (hb1.mono B0.size)
  clear hSO S0 HC H0 W0 B0 hb1
  go_wp2_with fail
  go_loopw [5, 6, 7, 9, 15, 19, 28] (fun o p b _ i _ _ wr => ∃ (k : Nat) (vh : Value) (gw cw : Nat) (H Wt : List (List UInt8)) (bg : Bool), k ≤ X.length ∧ i = .int .i64 k ∧ vh = o ∧ p = .slice (some ⟨gw, 0, none⟩) Wt.length cw ∧ b = .bool bg ∧
    Strs wr w.heap.size vh H ∧ Strs wr w.heap.size (.slice (some ⟨gw, 0, none⟩) Wt.length cw) Wt ∧ Hid (∀ g, vh.ownBlock = some g → g ≠ gw) ∧ Hid (H ++ holesGo f bg Wt (X.drop k) = holesL f X) ∧ Hid (bg = false → Wt = []) ∧ H.length + Wt.length ≤ k ∧ Below w.heap.size w wr ∧ Strs wr w.heap.size (.slice (some ⟨ug, 0, none⟩) X.length uc) X ∧ Hid (ug ≠ gw ∧ ∀ g, vh.ownBlock = some g → g ≠ ug)) (fun _ _ _ _ i _ _ _ => X.length - (intOf i).toNat)
  case atStart => exact ⟨0, _, _, _, [], [], false, Nat.zero_le _, rfl, rfl, rfl, rfl, H1, W1, Lib.hid (fun g hg => by simp [Value.ownBlock] at hg; omega), Lib.hid (by simp [holesL]), Lib.hid (fun _ => rfl), Nat.le_refl _, B1, X1, Lib.hid ⟨by omega, fun g hg => by simp [Value.ownBlock] at hg; omega⟩⟩
  case round =>
    obtain ⟨k, vh, gw, cw, H, Wt, bg, hk, rfl, rfl, rfl, rfl, hH, hW, HD, HG, HB, hlen, hb, hX, HU⟩ := hrel
    have hn2 : X.length ≤ 1048576 := by omega
    by_cases hlt : k < X.length
    · have k0 : (0 : Int) ≤ (k : Int) := by omega
      have k1 : (k : Int) < (X.length : Int) := by omega
      have HLK : Hid ((⟨X[k].toArray⟩ : ByteArray).size ≤ 1048576) := Lib.hid (by rw [size_of]; exact HSZ.out X[k] (List.getElem_mem hlt))
      have HST := Lib.hid (holesGo_step (f := f) hlt bg Wt)
      have d1 : wr.cell? ⟨ug, k, none⟩ = some (.string ⟨X[k].toArray⟩) := hX.cell k hlt
      obtain ⟨t, HTT⟩ : ∃ t, Hid (f X[k] = t) := ⟨_, Lib.hid rfl⟩
      have HTI : Hid (inR (⟨X[k].toArray⟩ : ByteArray).data.toList bs = t) := Lib.hid (by rw [← HTT.out, ← HF.out]; rfl)
      clear H1 W1 B1 X1
      go_wp2_with fail
      refine (HIN.out _ _ hb HLK.out).mono ?_
      rw [HTI.out]
      rintro e w2 ⟨rfl, hb2⟩
      have hH2 := hH.below hb2
      have hW2 := hW.below hb2
      have hX2 := hX.below hb2
      have b2 := hb.trans (hb2.mono hb.size)
      have b2s := b2.size
      have gwl : gw < w2.heap.size := hW2.block_lt gw rfl
      have ugl : ug < w2.heap.size := hX2.block_lt ug rfl
      have HHL := Lib.hid hH2.block_lt
      clear hH hW hX hb hb2 d1
      cases t
      · cases bg
        · have HG' : Hid (H ++ holesGo f false Wt (X.drop (k + 1)) = holesL f X) := Lib.hid (by
            rw [← HG.out, HST.out, if_neg (by rw [HTT.out]; simp), if_neg (by simp), HB.out rfl])
          go_wp2_with fail
          go_roundw
          case rel => exact ⟨k + 1, vh, gw, cw, H, Wt, false, by omega, by go_num, rfl, rfl, rfl, hH2, hW2, HD, HG', Lib.hid (fun _ => by have := HB.out; simpa using this), by omega, b2, hX2, HU⟩
          case measure => simp [intOf]; omega
        · have HG' : Hid (H ++ holesGo f true (Wt ++ [X[k]]) (X.drop (k + 1)) = holesL f X) := Lib.hid (by
            rw [← HG.out, HST.out, if_neg (by rw [HTT.out]; simp), if_pos rfl])
          have hlO : Wt.length + 1 ≤ 16777216 := by omega
          have HBE : Hid (w.heap.size ≤ (w2.alloc (.cells #[sv X[k]] 9)).heap.size) := Lib.hid (by simp; omega)
          go_wp2_with (at_builtin; refine wpList_append_strs2 rfl _ _ rfl w.heap.size (.slice (some ⟨gw, 0, none⟩) Wt.length cw) Wt rfl (hW2.alloc _) (X[k]) w2.heap.size _ _ _ rfl (heap_alloc_new w2 _) hlO HBE.out ?_; intro g3 c3 w3 hW3 hg3 hl3)
          have hH3 := (hH2.alloc (.cells #[sv X[k]] 9)).grown hg3 (fun g hg e => HD.out g hg (by simpa [Value.ownBlock] using e))
          have hX3 := (hX2.alloc (.cells #[sv X[k]] 9)).grown hg3 (fun g hg e => HU.out.1 ((show ug = g by simpa [Value.ownBlock] using hg).trans (by simpa [Value.ownBlock] using e)))
          have b3 : Below w.heap.size w w3 := Below.grown (b2.alloc b2.size _) hg3 HBE.out (fun g hg => by have := hW2.owned g hg; omega)
          have HD3 : Hid (∀ g, vh.ownBlock = some g → g ≠ g3) := Lib.hid (fun g hg => by
            have a := HD.out g hg
            have b := HHL.out g hg
            rcases hl3 with h | h
            · exact fun e => a (e.trans (show gw = g3 by simpa [Value.ownBlock] using h).symm)
            · simp at h; omega)
          have HU3 : Hid (ug ≠ g3 ∧ ∀ g, vh.ownBlock = some g → g ≠ ug) := Lib.hid ⟨by
            have a := HU.out.1
            rcases hl3 with h | h
            · exact fun e => a (e.trans (show gw = g3 by simpa [Value.ownBlock] using h).symm)
            · simp at h; omega, HU.out.2⟩
          have hlW : (Wt ++ [X[k]]).length = Wt.length + 1 := by simp
          rw [← hlW] at hW3
          clear hH2 hW2 hX2 b2 hg3 hl3
          go_wp2_with fail
          go_roundw
          case rel => exact ⟨k + 1, vh, g3, c3, H, Wt ++ [X[k]], true, by omega, by go_num, rfl, by rw [hlW], rfl, hH3, hW3, HD3, HG', Lib.hid (fun h => by cases h), by rw [hlW]; omega, b3, hX3, HU3⟩
          case measure => simp [intOf]; omega
      · have HG' : Hid ((H ++ Wt) ++ holesGo f true [] (X.drop (k + 1)) = holesL f X) := Lib.hid (by
          rw [← HG.out, HST.out, if_pos HTT.out, List.append_assoc])
        have hlO : H.length + Wt.length ≤ 16777216 := by omega
        go_wp2_with (at_builtin; refine wpList_append_texts2 rfl _ _ rfl w.heap.size vh H rfl hH2 (.slice (some ⟨gw, 0, none⟩) Wt.length cw) Wt rfl (RdS.of_strs hW2) hlO b2s ?_; intro v3 w3 hH3 hg3 hl3)
        have hW3 := hW2.grown hg3 (fun g hg e => by simp only [Value.ownBlock, Option.some.injEq] at hg; exact HD.out g e.symm hg.symm)
        have hX3 := hX2.grown hg3 (fun g hg e => by simp only [Value.ownBlock, Option.some.injEq] at hg; exact HU.out.2 g e.symm hg.symm)
        have b3 : Below w.heap.size w w3 := Below.grown b2 hg3 b2s hH2.owned
        have HD3 : Hid (∀ g, v3.ownBlock = some g → g ≠ gw) := Lib.hid (fun g hg => by
          rcases hl3 with h | h
          · rw [h] at hg; exact HD.out g hg
          · rw [h] at hg; simp at hg; omega)
        have HU3 : Hid (ug ≠ gw ∧ ∀ g, v3.ownBlock = some g → g ≠ ug) := Lib.hid ⟨HU.out.1, fun g hg => by
          rcases hl3 with h | h
          · rw [h] at hg; exact HU.out.2 g hg
          · rw [h] at hg; simp at hg; omega⟩
        have hW4 := hW3.cut0 rfl
        clear hH2 hW2 hX2 b2 hg3 hl3 hW3
        go_wp2_with fail
        go_roundw
        case rel => exact ⟨k + 1, v3, gw, cw, H ++ Wt, [], true, by omega, by go_num, rfl, rfl, rfl, hH3, hW4, HD3, HG', Lib.hid (fun h => by cases h), by simp; omega, b3, hX3, HU3⟩
        case measure => simp [intOf]; omega
    · have k1 : ¬ (k : Int) < (X.length : Int) := by omega
      have HE : Hid (H = holesL f X) := Lib.hid (by
        rw [← HG.out, List.drop_of_length_le (by omega)]
        cases bg <;> simp [holesGo])
      clear H1 W1 B1 X1
      go_wp2_with fail
      go_ret
      exact ⟨X, _, rfl, by rw [← HE.out]; exact hH, HSO.out, hb⟩
end Go.Proofs.YtjpclglklmlhlabGreatDoor

/-
  The laws' own helpers on lists of texts: szStringS counts them, toStringS copies them.
-/
namespace Go.Proofs.YtjpclglklmlhlabGreatDoor
open Go.RowKit

/-- How many texts and letters there are. -/
def smL (ls : List (List UInt8)) : Nat := (ls.map List.length).sum
def szI (left : Int) (ls : List (List UInt8)) : Int := if (ls.length : Int) + (smL ls : Int) ≤ left then left - (ls.length : Int) - (smL ls : Int) else -1
theorem smL_snoc (ls : List (List UInt8)) (k : Nat) (h : k < ls.length) : smL (ls.take (k + 1)) = smL (ls.take k) + ls[k].length := by
  unfold smL; rw [List.take_succ_eq_append_getElem h]; simp only [List.map_append, List.sum_append, List.map_cons, List.map_nil, List.sum_cons, List.sum_nil]; omega
theorem smL_le (ls : List (List UInt8)) (k : Nat) : smL (ls.take k) ≤ smL ls := by
  have : smL ls = smL (ls.take k) + smL (ls.drop k) := by unfold smL; rw [← List.sum_append, ← List.map_append, List.take_append_drop]
  omega
theorem smL_mem {ls : List (List UInt8)} : ∀ l ∈ ls, l.length ≤ smL ls := by
  induction ls with
  | nil => intro l h; cases h
  | cons a t ih =>
    intro l h
    have e : smL (a :: t) = a.length + smL t := by unfold smL; simp
    rcases List.mem_cons.1 h with rfl | h
    · omega
    · have := ih l h; omega
theorem szI_yes {left : Int} {ls : List (List UInt8)} (h : (ls.length : Int) + (smL ls : Int) ≤ left) : szI left ls = left - (ls.length : Int) - (smL ls : Int) := if_pos h
theorem szI_no {left : Int} {ls : List (List UInt8)} (h : ¬ (ls.length : Int) + (smL ls : Int) ≤ left) : szI left ls = -1 := if_neg h
set_option maxRecDepth 100000 in
set_option maxHeartbeats 1000000 in
theorem szStringS_any (v : Value) (ls : List (List UInt8)) (left : Int) (w : World) (hr : RdS w v ls) (h0 : 0 ≤ left) (h1 : left ≤ 1048576) (hn : ls.length ≤ maxLen) (hm : ∀ l ∈ ls, l.length ≤ maxLen) :
    Calls Tryz.prog 7 #[v, .int .i64 left] w fun e w' => e = .returned (.int .i64 (szI left ls)) ∧ w = w' := by
  obtain ⟨A, ca, rfl, ha⟩ := hr
  have HM := Lib.hid hm
  clear hm
  unfold maxLen at hn
  by_cases hl : (ls.length : Int) ≤ left
  · go_enter Tryz.func7, Tryz.ntmps7
    go_wp2
    go_loop [1, 5] (fun m i => ∃ (k : Nat) (z : Int), k ≤ ls.length ∧ i = .int .i64 k ∧ m = .int .i64 z ∧ 0 ≤ z ∧ z ≤ 1048576 ∧ Hid (z = left - (ls.length : Int) - (smL (ls.take k) : Int))) (fun _ i => ls.length - (intOf i).toNat)
    case atStart => exact ⟨0, _, Nat.zero_le _, rfl, rfl, by omega, by omega, Lib.hid (by simp [smL])⟩
    case round =>
      obtain ⟨k, z, hk, rfl, rfl, z0, z1, HZ⟩ := hrel
      by_cases hlt : k < ls.length
      · obtain ⟨g, off, rfl, _, hca⟩ := ha (by omega)
        obtain ⟨b, hb⟩ : ∃ b : ByteArray, b = ⟨ls[k].toArray⟩ := ⟨_, rfl⟩
        have d1 : w.cell? ⟨g, off + k, none⟩ = some (.string b) := by rw [hb]; exact hca k hlt
        have HB : Hid (b.size = ls[k].length) := Lib.hid (by rw [hb]; exact size_of _)
        have hb2 : b.size ≤ 9223372036854775807 := by have := HM.out ls[k] (List.getElem_mem hlt); unfold maxLen at this; have := HB.out; omega
        have k0 : (0 : Int) ≤ (k : Int) := by omega
        have k1 : (k : Int) < (ls.length : Int) := by omega
        have HS := Lib.hid (smL_snoc ls k hlt)
        have HT := Lib.hid (smL_le ls (k + 1))
        clear ha hca hb
        by_cases hz : z - (b.size : Int) < 0
        · have HX : Hid (szI left ls = -1) := Lib.hid (szI_no (by have := HZ.out; have := HS.out; have := HT.out; have := HB.out; omega))
          go_wp2
          go_ret
          exact ⟨ret_int HX.out.symm, rfl⟩
        · go_wp2
          go_round
          case rel => exact ⟨k + 1, _, by omega, by go_num, rfl, by omega, by omega, Lib.hid (by have := HZ.out; have := HS.out; have := HB.out; omega)⟩
          case measure => simp [intOf]; omega
      · have HX : Hid (szI left ls = z) := Lib.hid (by
          have hz := HZ.out
          rw [List.take_of_length_le (by omega)] at hz
          rw [szI_yes (by omega)]; omega)
        clear ha
        go_wp2
        go_ret
        exact ⟨ret_int HX.out.symm, rfl⟩
  · have HX : Hid (szI left ls = -1) := Lib.hid (szI_no (by omega))
    go_enter Tryz.func7, Tryz.ntmps7
    go_wp2
    go_ret
    exact ⟨ret_int HX.out.symm, rfl⟩

/-- The first k texts, then empty ones. -/
def tk (k : Nat) (ls : List (List UInt8)) : List (List UInt8) := ls.take k ++ List.replicate (ls.length - k) []
theorem tk_len (k : Nat) (ls : List (List UInt8)) (h : k ≤ ls.length) : (tk k ls).length = ls.length := by simp [tk]; omega
theorem tk_zero (ls : List (List UInt8)) : tk 0 ls = List.replicate ls.length [] := by simp [tk]
theorem tk_all (ls : List (List UInt8)) : tk ls.length ls = ls := by simp [tk]
theorem tk_set (k : Nat) (ls : List (List UInt8)) (h : k < ls.length) : (tk k ls).set k ls[k] = tk (k + 1) ls := by
  unfold tk
  rw [List.set_append_right _ _ (by simp; omega), List.take_succ_eq_append_getElem h, List.append_assoc]
  congr 1
  have e : ls.length - k = (ls.length - (k + 1)) + 1 := by omega
  have e2 : k - (List.take k ls).length = 0 := by simp; omega
  rw [e2, e, List.replicate_succ]
  rfl
theorem strs_made {w : World} {base : Nat} {v : Value} {n : Nat} (h : w.ownsRow base 9 1 v n (madeCells (Value.string ⟨#[]⟩).cells (n * 1)).toList) : Strs w base v (List.replicate n []) := by
  unfold Strs
  have e : (madeCells (Value.string ⟨#[]⟩).cells (n * 1)).toList = (List.replicate n ([] : List UInt8)).map sv := by
    apply List.ext_getElem?
    intro j
    by_cases hj : j < n
    · simp [madeCells, hj, Nat.mod_one, sv, Value.cells]
    · simp [madeCells, hj]
  rw [← e]
  simpa using h

set_option maxRecDepth 100000 in
set_option maxHeartbeats 1000000 in
theorem toStringS_any (v : Value) (ls : List (List UInt8)) (w : World) (hr : RdS w v ls) (hl : ls.length ≤ 1048576) :
    Calls Tryz.prog 10 #[v] w fun e w' => ∃ g cap, e = .returned (.slice (some ⟨g, 0, none⟩) ls.length cap) ∧ Strs w' w.heap.size (.slice (some ⟨g, 0, none⟩) ls.length cap) ls ∧ Below w.heap.size w w' := by
  have HR := Lib.hid hr
  obtain ⟨A, ca, rfl, ha⟩ := hr
  obtain ⟨i0, hi, hz0, hz1, hz2⟩ := info_parts strinfo
  go_enter Tryz.func10, Tryz.ntmps10
  go_wp2_with (at_make; refine wpList_make_full _ rfl _ _ 22 rfl w.heap.size 9 i0 (.string ⟨#[]⟩) 1 Tryz.underlying22 hi hz0 hz1 .i64 .i64 _ _ ls.length rfl rfl rfl rfl (by rw [hz2]; omega) (by unfold maxLen; omega) (Nat.le_refl _) ?_; intro w1 hown1 hg1)
  have hS1 := strs_made hown1
  have hb1 : Below w.heap.size w w1 := (Below.refl _ _).grown hg1 (Nat.le_refl _) (by simp)
  clear hown1 hg1 hi hz0 hz1 hz2 ha
  go_loopw [4] (fun i wr => ∃ k : Nat, k ≤ ls.length ∧ i = .int .i64 k ∧ Strs wr w.heap.size (.slice (some ⟨w.heap.size, 0, none⟩) ls.length ls.length) (tk k ls) ∧ Below w.heap.size w wr) (fun i _ => ls.length - (intOf i).toNat)
  case atStart => exact ⟨0, Nat.zero_le _, rfl, by rw [tk_zero]; exact hS1, hb1⟩
  case round =>
    obtain ⟨k, hk, rfl, hS, hb⟩ := hrel
    by_cases hlt : k < ls.length
    · obtain ⟨A', ca', hv, ha⟩ := HR.out.below hb
      simp only [Value.slice.injEq] at hv
      obtain ⟨rfl, _, rfl⟩ := hv
      obtain ⟨g, off, rfl, _, hca⟩ := ha (by omega)
      have d1 : wr.cell? ⟨g, off + k, none⟩ = some (.string ⟨ls[k].toArray⟩) := hca k hlt
      have hS' : Strs wr w.heap.size (.slice (some ⟨w.heap.size, 0, none⟩) (tk k ls).length ls.length) (tk k ls) := by rw [tk_len k ls hk]; exact hS
      have c2 : wr.cell? ⟨w.heap.size, k, none⟩ = some (sv ((tk k ls)[k]'(by rw [tk_len k ls hk]; exact hlt))) := hS.cell k _
      have f2 : wr.frozen? ⟨w.heap.size, k, none⟩ = false := World.ownsRow.frozenAt hS' k
      have k0 : (0 : Int) ≤ (k : Int) := by omega
      have k1 : (k : Int) < (ls.length : Int) := by omega
      clear ha hca hS1 hb1
      go_wp2_with fail
      go_roundw
      case rel => exact ⟨k + 1, by omega, by go_num, by have := hS'.set k ls[k]; rw [tk_set k ls hlt, tk_len (k + 1) ls (by omega)] at this; exact this, hb.setCell (p := ⟨w.heap.size, k, none⟩) (Nat.le_refl _) _⟩
      case measure => simp [intOf]; omega
    · obtain rfl : k = ls.length := by omega
      rw [tk_all] at hS
      clear hS1 hb1
      go_wp2_with fail
      go_ret
      exact ⟨_, _, rfl, hS, hb⟩
end Go.Proofs.YtjpclglklmlhlabGreatDoor

/-
  The laws' own helpers on lists of bounds: markBoundS writes marks over each field.
-/
namespace Go.Proofs.YtjpclglklmlhlabGreatDoor
open Go.RowKit

theorem flat2_setLo : ∀ (l : List Bd) (k : Nat) (y : List UInt8) (h : k < l.length), (flat2 l).set (k * 2) (sv y) = flat2 (l.set k (y, l[k].2))
  | [], k, y, h => by simp at h
  | a :: t, 0, y, _ => by simp [flat2]
  | a :: t, k + 1, y, h => by
    have := flat2_setLo t k y (by simpa using h)
    rw [show (k + 1) * 2 = k * 2 + 2 by omega]
    simp [flat2, this]
theorem flat2_setHi : ∀ (l : List Bd) (k : Nat) (y : List UInt8) (h : k < l.length), (flat2 l).set (k * 2 + 1) (sv y) = flat2 (l.set k (l[k].1, y))
  | [], k, y, h => by simp at h
  | a :: t, 0, y, _ => by simp [flat2]
  | a :: t, k + 1, y, h => by
    have := flat2_setHi t k y (by simpa using h)
    rw [show (k + 1) * 2 + 1 = k * 2 + 1 + 2 by omega]
    simp [flat2, this]
theorem Bnds.setLo {w : World} {base g cap : Nat} {l : List Bd} (h : Bnds w base (.slice (some ⟨g, 0, none⟩) l.length cap) l) (k : Nat) (hk : k < l.length) (y : List UInt8) :
    Bnds (w.setCell ⟨g, k * 2, none⟩ (sv y)) base (.slice (some ⟨g, 0, none⟩) l.length cap) (l.set k (y, l[k].2)) := by
  unfold Bnds at h ⊢
  rw [List.length_set, ← flat2_setLo]
  exact (World.ownsRow.stored h (k * 2) (sv y)).1
theorem Bnds.setHi {w : World} {base g cap : Nat} {l : List Bd} (h : Bnds w base (.slice (some ⟨g, 0, none⟩) l.length cap) l) (k : Nat) (hk : k < l.length) (y : List UInt8) :
    Bnds (w.setCell ⟨g, k * 2 + 1, none⟩ (sv y)) base (.slice (some ⟨g, 0, none⟩) l.length cap) (l.set k (l[k].1, y)) := by
  unfold Bnds at h ⊢
  rw [List.length_set, ← flat2_setHi]
  exact (World.ownsRow.stored h (k * 2 + 1) (sv y)).1
theorem Bnds.grown {w w' : World} {base : Nat} {v : Value} {l : List Bd} {row : Option Nat} (h : Bnds w base v l) (hg : w.grownBy w' row) (hne : ∀ g, v.ownBlock = some g → some g ≠ row) : Bnds w' base v l := by
  rcases h.form with ⟨rfl, rfl⟩ | ⟨g, cap, rfl, _, _⟩
  · exact ⟨by simp [flat2], .inl ⟨rfl, rfl⟩⟩
  · exact World.ownsRow.kept h hg (.inr (fun e => hne g rfl (by rw [← e]; rfl)))

/-- The first k bounds marked from s on. -/
def mkB (s k : Nat) (bs : List Bd) : List Bd := (List.range k).map (fun i => (mt (s + 2 * i), mt (s + 2 * i + 1))) ++ bs.drop k
theorem mkB_len (s k : Nat) (bs : List Bd) (h : k ≤ bs.length) : (mkB s k bs).length = bs.length := by simp [mkB]; omega
theorem mkB_zero (s : Nat) (bs : List Bd) : mkB s 0 bs = bs := by simp [mkB]
theorem mkB_set (s k : Nat) (bs : List Bd) (h : k < bs.length) (x : Bd) : ((mkB s k bs).set k x).set k (mt (s + 2 * k), mt (s + 2 * k + 1)) = mkB s (k + 1) bs := by
  apply List.ext_getElem
  · simp [mkB]; omega
  · intro i h1 h2
    simp only [List.set_set]
    rw [List.getElem_set]
    by_cases hi : k = i
    · subst hi
      simp [mkB]
    · rw [if_neg hi]
      simp only [mkB, List.getElem_append, List.length_map, List.length_range]
      by_cases hlt : i < k
      · rw [dif_pos hlt, dif_pos (by omega)]
        simp
      · rw [dif_neg hlt, dif_neg (by omega)]
        simp only [List.getElem_drop]
        congr 1
        omega

set_option maxRecDepth 100000 in
set_option maxHeartbeats 2000000 in
theorem markBoundS_gr (w : World) (base g cap s : Nat) (bs : List Bd) (h : Bnds w base (.slice (some ⟨g, 0, none⟩) bs.length cap) bs) (hl : bs.length ≤ 2000000) (s1 : 1 ≤ s) (s2 : s ≤ 2000001) :
    Calls Tryz.prog 18 #[.slice (some ⟨g, 0, none⟩) bs.length cap, .int .i64 (s : Int)] w fun e w' => e = .returned (.int .i64 ((s + 2 * bs.length : Nat) : Int)) ∧ Bnds w' base (.slice (some ⟨g, 0, none⟩) bs.length cap) (mkB s bs.length bs) ∧ w.grownBy w' (some g) := by
  obtain ⟨E, HE⟩ : ∃ E, Hid (s + 2 * bs.length = E) := ⟨_, Lib.hid rfl⟩
  rw [HE.out]
  go_enter Tryz.func18, Tryz.ntmps18
  go_wp2
  go_loopw [1, 5] (fun u i wr => ∃ k U : Nat, k ≤ bs.length ∧ Hid (U = s + 2 * k) ∧ i = .int .i64 k ∧ u = .int .i64 (U : Int) ∧ Bnds wr base (.slice (some ⟨g, 0, none⟩) bs.length cap) (mkB s k bs) ∧ w.grownBy wr (some g)) (fun _ i _ => bs.length - (intOf i).toNat)
  case atStart => exact ⟨0, s, Nat.zero_le _, Lib.hid (by omega), rfl, rfl, by rw [mkB_zero]; exact h, World.grownBy.refl w _⟩
  case round =>
    obtain ⟨k, U, hk, HU, rfl, rfl, hS, hb⟩ := hrel
    have u1 : 1 ≤ U := by have := HU.out; omega
    have u2 : U ≤ 10000000 := by have := HU.out; omega
    by_cases hlt : k < bs.length
    · have k0 : (0 : Int) ≤ (k : Int) := by omega
      have k1 : (k : Int) < (bs.length : Int) := by omega
      have HML := Lib.hid (mkB_len s k bs hk)
      have HMS := Lib.hid (mkB_set s k bs hlt)
      obtain ⟨X, HX⟩ : ∃ X, Hid (mkB s k bs = X) := ⟨_, Lib.hid rfl⟩
      rw [HX.out] at hS
      have hXl : Hid (X.length = bs.length) := Lib.hid (by rw [← HX.out]; exact HML.out)
      have hkX : k < X.length := by rw [hXl.out]; exact hlt
      clear h
      go_wp2_with fail
      refine (markText_any U wr (by omega) (by omega)).mono ?_
      rintro e w2 ⟨rfl, hb2⟩
      have hS2 := hS.below hb2
      rw [← hXl.out] at hS2
      obtain ⟨c2, _⟩ := hS2.cell k hkX
      have f2 : w2.frozen? ⟨g, k * 2, none⟩ = false := World.ownsRow.frozenAt hS2 (k * 2)
      have B2 := gr_trans hb (gr_below hb2)
      have hS3 := hS2.setLo k hkX (mt U)
      have B3 := gr_trans B2 (gr_set w2 g (k * 2) (sv (mt U)))
      go_wp2_with fail
      refine (markText_any (U + 1) _ (by omega) (by omega)).mono ?_
      rintro e w4 ⟨rfl, hb4⟩
      have hS4 := hS3.below hb4
      have B4 := gr_trans B3 (gr_below hb4)
      have hS4' : Bnds w4 base (.slice (some ⟨g, 0, none⟩) (X.set k (mt U, X[k].2)).length cap) (X.set k (mt U, X[k].2)) := by rw [List.length_set]; exact hS4
      have hk4 : k < (X.set k (mt U, X[k].2)).length := by rw [List.length_set]; exact hkX
      obtain ⟨_, c4⟩ := hS4.cell k hk4
      have f4 : w4.frozen? ⟨g, k * 2 + 1, none⟩ = false := World.ownsRow.frozenAt hS4' (k * 2 + 1)
      have hS5 := hS4'.setHi k hk4 (mt (U + 1))
      have B5 := gr_trans B4 (gr_set w4 g (k * 2 + 1) (sv (mt (U + 1))))
      have HF : Hid ((X.set k (mt U, X[k].2)).set k ((X.set k (mt U, X[k].2))[k].1, mt (U + 1)) = mkB s (k + 1) bs) := Lib.hid (by
        have := HMS.out (mt U, X[k].2)
        rw [HX.out, ← HU.out] at this
        simpa using this)
      rw [HF.out, List.length_set, hXl.out] at hS5
      clear hS hS2 hS3 hS4 hS4' B2 B3 B4 hb2 hb4
      go_wp2_with fail
      go_roundw
      case rel => exact ⟨k + 1, U + 2, by omega, Lib.hid (by have := HU.out; omega), by go_num, by go_num, hS5, B5⟩
      case measure => simp [intOf]; omega
    · obtain rfl : k = bs.length := by omega
      have HUE : Hid (U = E) := Lib.hid (by rw [HU.out, HE.out])
      clear h
      go_wp2_with fail
      go_ret
      exact ⟨by rw [← HUE.out]; rfl, hS, hb⟩

set_option maxRecDepth 100000 in
set_option maxHeartbeats 1000000 in
theorem markB_gr (w : World) (base s : Nat) (v : Value) (bs : List Bd) (h : Bnds w base v bs) (hl : bs.length ≤ 2000000) (s1 : 1 ≤ s) (s2 : s ≤ 2000001) :
    Calls Tryz.prog 18 #[v, .int .i64 (s : Int)] w fun e w' => e = .returned (.int .i64 ((s + 2 * bs.length : Nat) : Int)) ∧ Bnds w' base v (mkB s bs.length bs) ∧ w.grownBy w' v.ownBlock := by
  rcases h.form with ⟨rfl, rfl⟩ | ⟨g, cap, rfl, hg, _⟩
  · go_enter Tryz.func18, Tryz.ntmps18
    go_wp2
    refine wp_loop_rounds 1 ?_
    rw [rounds_succ]; go_wp2
    go_ret
    exact ⟨rfl, h, World.grownBy.refl w _⟩
  · exact markBoundS_gr w base g cap s bs h hl s1 s2
end Go.Proofs.YtjpclglklmlhlabGreatDoor

/-
  laws.eqStringS: a list of texts is the same as itself.
-/
namespace Go.Proofs.YtjpclglklmlhlabGreatDoor
open Go.RowKit

set_option maxRecDepth 100000 in
set_option maxHeartbeats 1000000 in
theorem eqStringS_same (va vb : Value) (ls : List (List UInt8)) (w : World) (ha : RdS w va ls) (hb : RdS w vb ls) (hl : ls.length ≤ 16777216) :
    Calls Tryz.prog 13 #[va, vb] w fun e w' => e = .returned (.bool true) ∧ ∃ n, w' = w.drewN n := by
  obtain ⟨A, ca, rfl, ha⟩ := ha
  obtain ⟨B, cb, rfl, hb⟩ := hb
  have q0 : ((ls.length : Int) != (ls.length : Int)) = false := int_bne_false rfl
  go_enter Tryz.func13, Tryz.ntmps13
  go_wp2
  go_loopw [5] (fun i wr => ∃ k n : Nat, k ≤ ls.length ∧ i = .int .i64 k ∧ wr = w.drewN n) (fun i _ => ls.length - (intOf i).toNat)
  case atStart => exact ⟨0, 0, Nat.zero_le _, rfl, rfl⟩
  case round =>
    obtain ⟨k, n, hk, rfl, rfl⟩ := hrel
    by_cases hlt : k < ls.length
    · obtain ⟨g, off, rfl, _, hca⟩ := ha (by omega)
      obtain ⟨g2, off2, rfl, _, hcb⟩ := hb (by omega)
      have d1 : w.cell? ⟨g, off + k, none⟩ = some (.string ⟨ls[k].toArray⟩) := hca k hlt
      have d2 : w.cell? ⟨g2, off2 + k, none⟩ = some (.string ⟨ls[k].toArray⟩) := hcb k hlt
      have k0 : (0 : Int) ≤ (k : Int) := by omega
      have k1 : (k : Int) < (ls.length : Int) := by omega
      clear ha hb hca hcb
      go_wp2_with fail
      go_quiet (fail)
      go_wp2_with fail
      go_roundw
      case rel => exact ⟨k + 1, _, by omega, by go_num, rfl⟩
      case measure => simp [intOf]; omega
    · clear ha hb
      go_wp2_with fail
      go_ret
      exact ⟨rfl, n, rfl⟩
end Go.Proofs.YtjpclglklmlhlabGreatDoor

/-
  The walk of the law FnExactHoles.
-/
namespace Go.Proofs.YtjpclglklmlhlabGreatDoor
open Go.RowKit

theorem szI_Sm2 {ls : List (List UInt8)} (h : szI 1048576 ls ≠ -1) : Sm ls ∧ szI 1048576 ls ≤ 1048576 := by
  unfold szI at h ⊢
  split at h
  · rename_i h'
    rw [if_pos h']
    exact ⟨⟨by omega, fun l hl => by have := smL_mem l hl; omega⟩, by omega⟩
  · exact absurd rfl h

set_option maxRecDepth 100000 in
set_option maxHeartbeats 8000000 in
theorem exHoles (v vb : Value) (ls : List (List UInt8)) (bs : List Bd) (w : World) (hr : RdS w v ls) (hn : ls.length ≤ maxLen) (hm : ∀ l ∈ ls, l.length ≤ maxLen)
    (hrb : RdB w vb bs) (hnb : bs.length ≤ maxLen) (hmb : ∀ b ∈ bs, b.1.length ≤ maxLen ∧ b.2.length ≤ maxLen) (htab : Tab w) :
    Calls Tryz.prog 4 #[v, vb] w fun e w' => e = .returned (.bool true) ∧ Below w.heap.size w w' := by
  have HZ := Lib.hid (szStringS_any v ls 1048576 w hr (by omega) (by omega) hn hm)
  obtain ⟨z, HX⟩ : ∃ z, Hid (szI 1048576 ls = z) := ⟨_, Lib.hid rfl⟩
  by_cases hz : z < 0
  · clear hr hn hm htab hrb hnb hmb
    go_enter Tryz.func4, Tryz.ntmps4
    go_wp2_with fail
    refine HZ.out.mono ?_
    rw [HX.out]
    rintro e w1 ⟨rfl, rfl⟩
    go_wp2_with fail
    go_ret
    exact ⟨rfl, Below.refl _ _⟩
  have HSZ := Lib.hid (szI_Sm2 (ls := ls) (by have := HX.out; omega))
  have hz2 : z ≤ 1048576 := by have := HSZ.out.2; rw [HX.out] at this; exact this
  have HZB := Lib.hid (szBoundS_any vb bs z w hrb (by omega) hz2 hnb hmb)
  obtain ⟨y, HY⟩ : ∃ y, Hid (szB z bs = y) := ⟨_, Lib.hid rfl⟩
  by_cases hy : y < 0
  · clear hr hn hm htab hrb hnb hmb
    go_enter Tryz.func4, Tryz.ntmps4
    go_wp2_with fail
    refine HZ.out.mono ?_
    rw [HX.out]
    rintro e w1 ⟨rfl, rfl⟩
    go_wp2_with fail
    refine HZB.out.mono ?_
    rw [HY.out]
    rintro e w2 ⟨rfl, hb2⟩
    go_wp2_with fail
    go_ret
    exact ⟨rfl, hb2⟩
  have HS := Lib.hid HSZ.out.1
  have HSB := Lib.hid (szB_good (bs := bs) (left := z) hz2 (by have := HY.out; omega))
  have hl : ls.length ≤ 1048576 := HS.out.1
  have hlb : bs.length ≤ 1048576 := by have := HSB.out; unfold SmB at this; omega
  have HT := Lib.hid (fun (W : World) (hb : Below w.heap.size w W) => toStringS_any v ls W (hr.below hb) hl)
  have HTB := Lib.hid (fun (W : World) (hb : Below w.heap.size w W) => toBoundS_any vb bs W (hrb.below hb) hlb)
  have HIM := Lib.hid (fun (W : World) (u t : Value) (hb : Below w.heap.size w W) (h : RdS W u ls) (h2 : RdB W t bs) => implHoles_any u t ls bs W h HS.out h2 HSB.out (tab_below htab hb))
  clear hr hn hm htab hrb hnb hmb
  go_enter Tryz.func4, Tryz.ntmps4
  go_wp2_with fail
  refine HZ.out.mono ?_
  rw [HX.out]
  rintro e w0 ⟨rfl, rfl⟩
  go_wp2_with fail
  refine HZB.out.mono ?_
  rw [HY.out]
  rintro e wa ⟨rfl, Ba⟩
  go_wp2_with fail
  refine (HT.out _ Ba).mono ?_
  rintro e w1 ⟨g1, c1, rfl, hS1, hb1⟩
  have B1 := Ba.trans (hb1.mono Ba.size)
  go_wp2_with fail
  refine (HTB.out _ B1).mono ?_
  rintro e w2 ⟨g1b, c1b, rfl, hS1b, hb2⟩
  have B2 := B1.trans (hb2.mono B1.size)
  go_wp2_with fail
  refine (specHoles_any _ _ ls bs _ (RdS.of_strs (hS1.below hb2)) HS.out (RdB.of_bnds hS1b) HSB.out).mono ?_
  rintro e w3 ⟨X, u0, rfl, S0, hSO, hb3⟩
  have B3 := B2.trans (hb3.mono B2.size)
  have lo := sortOf_len hSO
  have lo2 := holesL_len (inF bs) X
  have HSO := Lib.hid hSO
  have n0 := S0.block_lt
  obtain ⟨out, HOUT⟩ : ∃ out, Hid (holesL (inF bs) X = out) := ⟨_, Lib.hid rfl⟩
  rw [HOUT.out] at S0 lo2
  have lo3 : out.length ≤ 1048576 := by omega
  clear hS1 hS1b hb1 hb2 hb3 B1 B2 Ba hSO HZ HX HZB HY lo lo2
  obtain ⟨A0, c0, rfl⟩ := S0.slice
  go_wp2_with fail
  refine (HT.out _ B3).mono ?_
  rintro e w4 ⟨g2, c2, rfl, Sx, hb4⟩
  have B4 := B3.trans (hb4.mono B3.size)
  have S04 := S0.below hb4
  have x2 : w3.heap.size ≤ g2 := Sx.lo
  have x3 : g2 < w4.heap.size := Sx.block_lt g2 rfl
  clear S0 hb4
  go_wp2_with fail
  refine (HTB.out _ B4).mono ?_
  rintro e w5 ⟨g3, c3, rfl, Bx, hb5⟩
  have B5 := B4.trans (hb5.mono B4.size)
  have S05 := S04.below hb5
  have Sx5 := Sx.below hb5
  have x4 : w4.heap.size ≤ g3 := Bx.owned g3 rfl
  have x5 : g3 < w5.heap.size := by rcases Bx.form with ⟨h, _⟩ | ⟨g, cap, h, _, h2⟩ <;> simp at h; omega
  clear S04 Sx hb5
  go_wp2_with fail
  refine (HIM.out _ _ _ B5 (RdS.of_strs Sx5) (RdB.of_bnds Bx)).mono ?_
  rintro e w6 ⟨X', ug, rfl, Sg, hSO', hb6⟩
  obtain rfl : X' = X := sortOf_unique hSO' HSO.out
  rw [HOUT.out] at Sg
  have B6 := B5.trans (hb6.mono B5.size)
  have S06 := S05.below hb6
  have Sx6 := Sx5.below hb6
  have Bx6 := Bx.below hb6
  have x6 := Sg.owned
  obtain ⟨Ag, cg, rfl⟩ := Sg.slice
  clear S05 Sx5 Bx hb6 hSO'
  go_wp2_with fail
  refine (eqStringS_same _ _ out _ (RdS.of_strs Sg) (RdS.of_strs S06) (by omega)).mono ?_
  rintro e w7 ⟨rfl, n7, rfl⟩
  have B7 := B6.trans (below_drewN _ _ n7)
  have S07 := S06.below (below_drewN _ _ n7)
  have Sx7 := Sx6.below (below_drewN _ _ n7)
  have Bx7 := Bx6.below (below_drewN _ _ n7)
  have Sg7 := Sg.below (below_drewN _ _ n7)
  clear S06 Sx6 Sg Bx6 B6
  go_wp2_with fail
  refine (HT.out _ B7).mono ?_
  rintro e w8 ⟨g8, c8, rfl, S8, hb8⟩
  have B8 := B7.trans (hb8.mono B7.size)
  have S08 := S07.below hb8
  have Sx8 := Sx7.below hb8
  have Bx8 := Bx7.below hb8
  have Sg8 := Sg7.below hb8
  clear S07 Sx7 Sg7 Bx7 hb8 B7
  go_wp2_with fail
  refine (eqStringS_same _ _ ls _ (RdS.of_strs Sx8) (RdS.of_strs S8) (by omega)).mono ?_
  rintro e w9 ⟨rfl, n9, rfl⟩
  have B9 := B8.trans (below_drewN _ _ n9)
  have S09 := S08.below (below_drewN _ _ n9)
  have Sx9 := Sx8.below (below_drewN _ _ n9)
  have Bx9 := Bx8.below (below_drewN _ _ n9)
  have Sg9 := Sg8.below (below_drewN _ _ n9)
  clear S08 Sx8 Sg8 Bx8 B8 S8
  go_wp2_with fail
  refine (HTB.out _ B9).mono ?_
  rintro e w10 ⟨g10, c10, rfl, S10, hb10⟩
  have B10 := B9.trans (hb10.mono B9.size)
  have S010 := S09.below hb10
  have Sx10 := Sx9.below hb10
  have Bx10 := Bx9.below hb10
  have Sg10 := Sg9.below hb10
  clear S09 Sx9 Sg9 Bx9 hb10 B9
  go_wp2_with fail
  refine (eqBoundS_same _ _ bs _ (RdB.of_bnds Bx10) (RdB.of_bnds S10) (by omega)).mono ?_
  rintro e w11 ⟨rfl, hb11⟩
  have B11 := B10.trans (hb11.mono B10.size)
  have S011 := S010.below hb11
  have Sx11 := Sx10.below hb11
  have Bx11 := Bx10.below hb11
  have Sg11 := Sg10.below hb11
  clear S010 Sx10 Sg10 Bx10 hb11 B10 S10
  go_wp2_with fail
  refine (markS_gr _ _ _ ls Sx11 (by omega)).mono ?_
  rintro e w12 ⟨rfl, _, hg12⟩
  have B12 := gr_belowN B11 hg12 B11.size (fun g hg => by simp only [Value.ownBlock, Option.some.injEq] at hg; have := B3.size; omega)
  have S012 := S011.grown hg12 (fun g hg => by have := n0 g hg; simp only [Value.ownBlock, ne_eq, Option.some.injEq]; omega)
  have Bx12 := Bx11.grown hg12 (fun g hg => by simp only [Value.ownBlock, Option.some.injEq] at hg; simp only [Value.ownBlock, ne_eq, Option.some.injEq]; omega)
  have Sg12 := Sg11.grown hg12 (fun g hg => by have := x6 g hg; simp only [Value.ownBlock, ne_eq, Option.some.injEq]; omega)
  clear S011 Sx11 Sg11 Bx11 hg12 B11
  go_wp2_with fail
  refine (markB_gr _ _ (ls.length + 1) _ bs Bx12 (by omega) (by omega) (by omega)).mono ?_
  rintro e w13 ⟨rfl, _, hg13⟩
  have B13 := gr_belowN B12 hg13 B12.size (fun g hg => by simp only [Value.ownBlock, Option.some.injEq] at hg; have := B3.size; omega)
  have S013 := S012.grown hg13 (fun g hg => by have := n0 g hg; simp only [Value.ownBlock, ne_eq, Option.some.injEq]; omega)
  have Sg13 := Sg12.grown hg13 (fun g hg => by have := x6 g hg; simp only [Value.ownBlock, ne_eq, Option.some.injEq]; omega)
  clear S012 Sg12 Bx12 hg13 B12
  obtain ⟨M, HM⟩ : ∃ M, Hid (ls.length + 1 + 2 * bs.length = M) := ⟨_, Lib.hid rfl⟩
  rw [HM.out]
  have q1 : ¬ ((M : Int) < 0) := by omega
  go_wp2_with fail
  refine (eqStringS_same _ _ out _ (RdS.of_strs Sg13) (RdS.of_strs S013) (by omega)).mono ?_
  rintro e w14 ⟨rfl, n14, rfl⟩
  have B14 := B13.trans (below_drewN _ _ n14)
  have S014 := S013.below (below_drewN _ _ n14)
  have Sg14 := Sg13.below (below_drewN _ _ n14)
  clear S013 Sg13 B13
  go_wp2_with fail
  refine (markS_gr _ _ _ out Sg14 (by omega)).mono ?_
  rintro e w15 ⟨rfl, Sg15, hg15⟩
  have B15 := gr_belowN B14 hg15 B14.size (fun g hg => by have := x6 g hg; have := B5.size; omega)
  have S015 := S014.grown hg15 (fun g hg e => by have := n0 g hg; have := x6 g e.symm; have := B3.size; omega)
  clear S014 Sg14 hg15 B14
  go_wp2_with fail
  refine (heldS_any _ _ _ out Sg15 (by omega)).mono ?_
  rintro e w16 ⟨rfl, hb16⟩
  have B16 := B15.trans (hb16.mono B15.size)
  have S016 := S015.below hb16
  have Sg16 := Sg15.below hb16
  clear S015 Sg15 hb16 B15
  have q2 : ¬ (((out.length + 1 : Nat) : Int) < 0) := by omega
  have q3 : (((out.length + 1 : Nat) : Int) != ((out.length + 1 : Nat) : Int)) = false := int_bne_false rfl
  go_wp2_with fail
  refine (HT.out _ B16).mono ?_
  rintro e w17 ⟨g17, c17, rfl, S17, hb17⟩
  have B17 := B16.trans (hb17.mono B16.size)
  have S017 := S016.below hb17
  have Sg17 := Sg16.below hb17
  clear S016 Sg16 hb17 B16
  go_wp2_with fail
  refine (HTB.out _ B17).mono ?_
  rintro e w18 ⟨g18, c18, rfl, S18, hb18⟩
  have B18 := B17.trans (hb18.mono B17.size)
  have S018 := S017.below hb18
  have Sg18 := Sg17.below hb18
  have S1718 := S17.below hb18
  clear S017 Sg17 hb18 B17 S17
  go_wp2_with fail
  refine (HIM.out _ _ _ B18 (RdS.of_strs S1718) (RdB.of_bnds S18)).mono ?_
  rintro e w19 ⟨X2, u19, rfl, S19, hSO2, hb19⟩
  obtain rfl : X2 = X' := sortOf_unique hSO2 HSO.out
  rw [HOUT.out] at S19
  have B19 := B18.trans (hb19.mono B18.size)
  have S019 := S018.below hb19
  have Sg19 := Sg18.below hb19
  clear S018 Sg18 hb19 B18 S18 S1718 hSO2
  obtain ⟨A19, c19, rfl⟩ := S19.slice
  go_wp2_with fail
  refine (eqStringS_same _ _ out _ (RdS.of_strs S19) (RdS.of_strs S019) (by omega)).mono ?_
  rintro e w20 ⟨rfl, n20, rfl⟩
  have B20 := B19.trans (below_drewN _ _ n20)
  have Sg20 := Sg19.below (below_drewN _ _ n20)
  clear S019 Sg19 S19 B19
  go_wp2_with fail
  refine (heldS_any _ _ _ out Sg20 (by omega)).mono ?_
  rintro e w21 ⟨rfl, hb21⟩
  have B21 := B20.trans (hb21.mono B20.size)
  go_wp2_with fail
  go_ret
  exact ⟨rfl, B21⟩
end Go.Proofs.YtjpclglklmlhlabGreatDoor

namespace Go.Proofs.YtjpclglklmlhlabGreatDoor.fnExactHoles
open Go.ChangeShapes Go.WideShapes Go.ChangeAt Go.RowKit
open Go.ChangeMaps (open_string shut_string)
set_option linter.unusedVariables false

theorem own : ownKnob Tryz.prog.godebug = none := by kernel_rfl

theorem laidOut : laidOutB Tryz.prog = true := by kernel_rfl

/-- A table's cells, off its datum. -/
def tabCells : DataW Unit → Array Value
  | .agg l => (l.map fun
    | .lit (.int k n) => Value.int k n
    | _ => .bool false).toArray
  | _ => #[]
def putCells (cs : Array Value) : Obj → Obj
  | .cells _ t fr => .cells cs t fr
  | o => o
/-- A start that fits: the settled world, the tables laid. -/
noncomputable def laidWorld (os : Os) : World :=
  { World.holding Tryz.prog os ⟨#[], #[], []⟩ with heap := (((World.holding Tryz.prog os ⟨#[], #[], []⟩).heap.modify 4 (putCells (tabCells Rows.laid_math_bits_deBruijn32tab))).modify 5 (putCells (tabCells Rows.laid_math_bits_deBruijn64tab))).modify 3 (putCells (tabCells Rows.laid_internal_strconv_uint64pow10)) }
theorem laid_met (os : Os) (args : Array Value) : laidMetH Tryz.prog Rows.fnExactHolesRow.laid ((laidWorld os).forCall (fun _ _ => 0) ⟨#[], args, []⟩).memory := by
  rw [MakeChecks.laidMetH_plain _ _ _ (by kernel_rfl)]
  exact laidMet_of_run' 8 (by kernel_rfl) (by kernel_rfl)

set_option maxRecDepth 100000 in
theorem lifted (os : Os) (started : os.Started) (H : Type) (enc : TypeId × Value → H) :
    ReturnsInHanded {} Tryz.checked os 4 .any (fun w args => (Rows.fnExactHolesSpec.pre enc Tryz.prog Tryz.f4 [] false w args ∧ laidMetH Tryz.prog Rows.fnExactHolesRow.laid w) ∧ sizedMet enc Tryz.prog Tryz.f4 (OpenSpec.ofChange Rows.fnExactHolesSpec) false w args)
      (Rows.fnExactHolesSpec.post enc Tryz.prog Tryz.f4 false true false false) := by
  refine returnsInHanded_of_change_and (C := Tryz.checked) (X := fun w _ => laidMetH Tryz.prog Rows.fnExactHolesRow.laid w) (fun _ _ _ hh h => h.of_heap hh) own started (by kernel_rfl) Tryz.func4
    (ChangeSpec.witness_at (enc := enc) (C := Tryz.checked) (os := os) (X := fun w _ => laidMetH Tryz.prog Rows.fnExactHolesRow.laid w) false (laidWorld os) #[.slice none 0 0, .slice none 0 0] 8 rfl (by kernel_rfl) (by kernel_rfl) (by kernel_rfl) (by kernel_rfl) (by kernel_rfl) (laid_met os _)) ?_
  intro W base args ds gs before hval0 hW _ _ hL _
  have hval : ∀ (j : Nat) t v, Tryz.f4.params[j]? = some t → args[j]? = some v → Value.okWide Tryz.prog W .any base t v := hval0
  have hW' := hW
  obtain ⟨p, q, hA0, hV, rfl, hfz, hnd⟩ := hW
  have hA : DataW.TrodAll enc Tryz.prog W 0 (fun _ => true) true Tryz.f4.params.toList args.toList ds p := hA0
  rw [Tryz.params4] at hA hval
  obtain ⟨v0, vs0, d0, ds0, p0, q0, hargs, rfl, rfl, h0, r0⟩ := trodAll_cons hA
  obtain ⟨v1, vs1, d1, ds1, p1, q1, rfl, rfl, rfl, h1, r1⟩ := trodAll_cons r0
  obtain ⟨rfl, rfl, rfl⟩ := trodAll_nil r1
  obtain rfl : args = #[v0, v1] := by cases args; simp_all
  obtain ⟨rfl, rfl⟩ := trodVars_none hV
  have k0 := h0
  have lt0 : ∀ x ∈ p0, x.block < W.heap.size := by obtain ⟨m, hm⟩ := k0; exact DataW.trod_lt m _ _ _ hm
  obtain ⟨ls0, R0, N0, M0⟩ := open_textsV (hval 0 22 v0 rfl rfl) h0
  have k1 := h1
  have lt1 : ∀ x ∈ p1, x.block < W.heap.size := by obtain ⟨m, hm⟩ := k1; exact DataW.trod_lt m _ _ _ hm
  obtain ⟨bs1, R1, N1, M1⟩ := open_boundsV (hval 1 23 v1 rfl rfl) h1
  clear hA0 hval0
  rw [MakeChecks.laidMetH_plain _ _ _ (by kernel_rfl)] at hL
  have hL1 : laidMet Tryz.prog Rows.fnExactHolesRow.laid W := hL
  unfold Rows.fnExactHolesRow at hL1
  have hL3 : laidMet Tryz.prog [("internal/strconv.uint64pow10", Lib.tabData .u64 Lib.pow10Tab)] W := hL1.tail.tail
  have htab : Lib.TabIs Tryz.prog W "internal/strconv.uint64pow10" .u64 Lib.pow10Tab :=
    Lib.tabIs_of_head (g := 3) (t := 196) (e := 161) (n := 20) (by kernel_rfl) (by kernel_rfl) Tryz.underlying196 Tryz.underlying161 (by kernel_rfl) (by kernel_rfl) hL3
  refine (exHoles v0 v1 ls0 bs1 W R0 N0 M0 R1 N1 M1 htab).mono fun e W' ⟨he, bel⟩ => ?_
  subst he
  exact ⟨_, rfl, _, _, _, [], _, [], hW', trodAll_mk1 (shut_bool Tryz.underlying4 _), (trodAll_cons_mk (Below.trod laidOut (by kernel_rfl) (of_decide_eq_true (by kernel_rfl)) k0 bel lt0) (trodAll_cons_mk (Below.trod laidOut (by kernel_rfl) (of_decide_eq_true (by kernel_rfl)) k1 bel lt1) trodAll_mk0)), rfl, bel.frame _, fun h => by cases h⟩

theorem over : Rows.fnExactHolesRow.holds Tryz.pinned (OpenSpec.ofChange Rows.fnExactHolesSpec) :=
  OpenClaim.holds_of_wide 4 Tryz.f4 rfl rfl rfl rfl rfl rfl rfl ⟨rfl, rfl, rfl, rfl, rfl⟩ rfl rfl rfl rfl rfl (by kernel_rfl) Tryz.func4 (by kernel_rfl)
    (of_decide_eq_true (by kernel_rfl)) (by unfold Func.isWrapper; first | (rw [if_pos (by decide +kernel)]; kernel_rfl) | (rw [if_neg (by decide +kernel)]; exact ⟨rfl, rfl⟩))
    (fun os started H enc _ => lifted os started H enc)

end Go.Proofs.YtjpclglklmlhlabGreatDoor.fnExactHoles

namespace Go.Proofs.YtjpclglklmlhlabGreatDoor
theorem fnExactHoles_proved : Rows.FnExactHolesCardSaid :=
  Claim7.holds_tied_plain_at .later [] [.data, .data, .data] true Rows.fnExactHolesCard.stood.harness true
    fnExactHoles.over (fun _ h => by cases h) (by kernel_rfl) (fun _ h => by cases h) fnExactHoles_row_tie rfl ⟨rfl, rfl⟩ (by kernel_rfl) rfl
    (fun f fn hf hfn => by
      obtain rfl : f = 4 := Option.some.inj ((show Tryz.prog.funcNamed Rows.fnExactHolesRow.func = some 4 by kernel_rfl).symm.trans hf) |>.symm
      obtain rfl : fn = Tryz.f4 := (Option.some.inj (Tryz.func4.symm.trans hfn)).symm
      exact ⟨by kernel_rfl, fun j t ht => by
        rw [Tryz.params4] at ht
        have h3 : t = 22 ∨ t = 23 := by
          rcases j with _ | _ | j
          · left; simpa using ht.symm
          · right; simpa using ht.symm
          · simp at ht
        rcases h3 with rfl | rfl
        · exact (show Tryz.prog.wantsStandIn 22 = false by kernel_rfl)
        · exact (show Tryz.prog.wantsStandIn 23 = false by kernel_rfl)⟩)
    (by kernel_rfl)
#print axioms fnExactHoles_proved
end Go.Proofs.YtjpclglklmlhlabGreatDoor
