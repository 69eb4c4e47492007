/-
  Reading a range in plain words: one alternative, the alternatives of a text.
-/
import Derived.Test.YtongpnknmgbhjaaGreatDoorExM
import Derived.Test.YtongpnknmgbhjaaGreatDoorNextS
import Derived.Test.YtongpnknmgbhjaaGreatDoorCutM
import Derived.Test.YtongpnknmgbhjaaGreatDoorCmpM
import Derived.Lib.SplitLaws
namespace Go.Proofs.YtongpnknmgbhjaaGreatDoor
open Go.RowKit

/-- A byte that may stand in a version's text. -/
def vch (c : UInt8) : Bool := preB c || c == 46
theorem vch_pre {c : UInt8} (h : preB c = true) : vch c = true := by unfold vch; rw [h]; rfl
theorem decDig_all (u : Nat) : (Lib.decDigits u).all isDig = true := by
  have dg : ∀ k : Nat, k < 10 → isDig (UInt8.ofNat (48 + k)) = true := by decide
  induction u using Nat.strongRecOn with
  | ind u ih =>
    rw [Lib.decDigits]
    split
    · rename_i h
      have h1 : ([UInt8.ofNat (48 + u)] : List UInt8).all isDig = (isDig (UInt8.ofNat (48 + u)) && true) := rfl
      rw [h1, dg u h]; rfl
    · rename_i h
      have h1 : ([UInt8.ofNat (48 + u % 10)] : List UInt8).all isDig = (isDig (UInt8.ofNat (48 + u % 10)) && true) := rfl
      rw [List.all_append, ih (u / 10) (by omega), h1, dg (u % 10) (by omega)]; rfl
theorem dec_dig {n : Int} (h0 : 0 ≤ n) : (dec n).all isDig = true := by
  unfold dec Lib.itoa; rw [if_neg (by omega)]; exact decDig_all _
theorem dec_vch {n : Int} (h0 : 0 ≤ n) : ∀ x ∈ dec n, vch x = true := by
  intro x hx
  have h : (dec n).all isDig = true := dec_dig h0
  exact vch_pre (dig_pre (List.all_eq_true.1 h x hx))
theorem preText_vch : ∀ {ls : List (List UInt8)}, ls.all preOk = true → ∀ x ∈ preText ls, vch x = true
  | [], _, x, hx => by simp [preText] at hx
  | l :: ls, h, x, hx => by
    have hall : ∀ y ∈ l :: ls, ∀ z ∈ y, vch z = true := fun y hy z hz => by
      have := List.all_eq_true.1 h y hy
      unfold preOk at this
      simp at this
      exact vch_pre (this.1.1 z hz)
    simp only [preText, List.mem_append, List.mem_cons, List.mem_flatMap] at hx
    rcases hx with (rfl | hx) | ⟨y, hy, rfl | hx⟩
    · decide
    · exact hall l (by simp) x hx
    · decide
    · exact hall y (by simp [hy]) x hx
theorem verText_vch {a b c : Int} {ls : List (List UInt8)} : ∀ x ∈ verText a b c ls, vch x = true := by
  intro x hx
  unfold verText at hx
  split at hx
  · rename_i h
    obtain ⟨ha, hb, hc, _⟩ := verOk_num h
    have hp : ls.all preOk = true := by unfold verOk at h; simp at h; simpa using h.1
    unfold verTextOf at hx
    simp only [List.mem_append, List.mem_singleton] at hx
    rcases hx with ((((hx | rfl) | hx) | rfl) | hx) | hx
    · exact dec_vch ha.1 x hx
    · decide
    · exact dec_vch hb.1 x hx
    · decide
    · exact dec_vch hc.1 x hx
    · exact preText_vch hp x hx
  · cases hx
/-- A version's text bears no other bytes. -/
theorem readOk_vch {l : List UInt8} (h : readOk l = true) : ∀ x ∈ l, vch x = true := by
  intro x hx
  rw [← read_back h] at hx
  exact verText_vch x hx
theorem readOk_none {l : List UInt8} (h : readOk l = true) {c : UInt8} (hc : vch c = false) : c ∉ l := fun hm => by
  have := readOk_vch h c hm; rw [hc] at this; cases this
theorem readOk_nil : readOk [] = false := by decide

theorem cutL_count (m : UInt8) : ∀ l : List UInt8, (cutL m l).length = l.count m + 1
  | [] => by simp [cutL]
  | c :: l => by
    have ih := cutL_count m l
    rw [cutL_cons]
    split
    · rename_i h; subst h; simp [ih]
    · rename_i h
      rw [List.count_cons_of_ne (by simpa using h), ← ih]
      cases hx : cutL m l with
      | nil => exact absurd hx (cutL_ne m l)
      | cons y ys => simp [attach]
theorem headL_count (l : List UInt8) : (headL l).count 46 ≤ l.count 46 := by
  unfold headL
  split
  · exact (List.take_sublist _ _).count_le 46
  · exact Nat.le_refl _
theorem readOk_points {l : List UInt8} (h : readOk l = true) : (headL l).count 46 = 2 := by
  obtain ⟨p0, p1, p2, hp, _⟩ := readOk_form h
  have := cutL_count 46 (headL l)
  unfold partsL at hp
  rw [hp] at this
  simp at this
  omega
/-- A text of less than two points is no version. -/
theorem few_no {l : List UInt8} (h : l.count 46 < 2) : readOk l = false := by
  cases hr : readOk l with
  | false => rfl
  | true => have := readOk_points hr; have := headL_count l; omega
theorem few_noEx {l : List UInt8} (h : l.count 46 < 2) : exOk l = false := exOk_bad (few_no h)
/-- What is put behind a partial version. -/
def zrs (n : Nat) : List UInt8 := if n = 0 then [46, 48, 46, 48] else [46, 48]
theorem zrs_dash (n : Nat) : (45 : UInt8) ∉ zrs n := by unfold zrs; split <;> decide
theorem idx_app_no {c : UInt8} {z : List UInt8} (hz : c ∉ z) : ∀ l : List UInt8, 0 ≤ Lib.indexByte (l ++ z) c → 0 ≤ Lib.indexByte l c
  | [], h => by
    exfalso
    rw [List.nil_append] at h
    have hs := idx_split c z h
    exact hz (by rw [hs]; simp)
  | b :: l, h => by
    by_cases hb : b = c
    · rw [idx_hit l hb]; omega
    · rw [List.cons_append, idx_miss _ hb] at h
      rw [idx_miss _ hb]
      by_cases h1 : Lib.indexByte (l ++ z) c = -1
      · rw [if_pos h1] at h; omega
      · have hg := idx_ge (l ++ z) c
        have := idx_app_no hz l (by omega)
        rw [if_neg (by omega)]; omega
/-- A partial version has no identifiers, with its zeros behind. -/
theorem few_pre {l : List UInt8} (h : l.count 46 < 2) : readP (l ++ zrs (l.count 46)) = [] := by
  cases hr : readOk (l ++ zrs (l.count 46)) with
  | false => simp [readP, hr]
  | true =>
    have hp : readP (l ++ zrs (l.count 46)) = tailL (l ++ zrs (l.count 46)) := by simp [readP, hr]
    rw [hp]
    by_cases hd : 0 ≤ dash (l ++ zrs (l.count 46))
    · exfalso
      have hl : 0 ≤ dash l := idx_app_no (zrs_dash _) l hd
      have he : dash (l ++ zrs (l.count 46)) = dash l := idx_app 45 _ l hl
      have hlt : dash l < l.length := idx_lt l 45
      have h2 := readOk_points hr
      rw [headL_yes hd, he, List.take_append_of_le_length (by omega)] at h2
      have := (List.take_sublist (dash l).toNat l).count_le 46
      omega
    · exact tailL_no hd

/-- The text of the next version of a part, Pre 0. -/
def rsd (a b c p : Int) : List UInt8 := verText (nxt a b c [] p).1 (nxt a b c [] p).2.1 (nxt a b c [] p).2.2 [[48]]
theorem rsd_le (a b c p : Int) : (rsd a b c p).length ≤ 200 := verText_le
theorem z48all : (([[48]] : List (List UInt8)).all preOk) = true := by rw [List.all_cons, z48ok]; rfl
theorem ver_z (a b c : Int) : verOk a b c [[48]] = verOk a b c [] := by
  have e1 := verOk_fin (a := a) (b := b) (c := c) z48all
  have e2 := verOk_fin (a := a) (b := b) (c := c) (ls := []) rfl
  rw [e1, e2]
  simp
theorem rsd_empty (a b c p : Int) : (rsd a b c p).isEmpty = !(verOk (nxt a b c [] p).1 (nxt a b c [] p).2.1 (nxt a b c [] p).2.2 []) := by
  unfold rsd; rw [verText_empty, ver_z]
/-- The next of a version without identifiers, told whole. -/
theorem next_step {a b c : Int} (h : verOk a b c [] = true) {p : Int} (hp : inI p 0 2 = true) : (verOk (nxt a b c [] p).1 (nxt a b c [] p).2.1 (nxt a b c [] p).2.2 [] = true → nextN a b c [] p = nxt a b c [] p ∧ cmpVer (nxt a b c [] p).1 (nxt a b c [] p).2.1 (nxt a b c [] p).2.2 [] a b c [] ≠ 0) ∧
    (verOk (nxt a b c [] p).1 (nxt a b c [] p).2.1 (nxt a b c [] p).2.2 [] = false → nextN a b c [] p = (a, b, c)) ∧ nextL a b c [] p = [] := by
  have hn : nextOk a b c [] p = verOk (nxt a b c [] p).1 (nxt a b c [] p).2.1 (nxt a b c [] p).2.2 [] := nextOk_of h hp rfl
  refine ⟨fun hy => ⟨(next_good (by rw [hn]; exact hy)).1, ?_⟩, fun hy => (next_same (by rw [hn]; exact hy)).1, ?_⟩
  · obtain ⟨ha, hb, hc, _⟩ := verOk_num h
    have g : ∀ x y : Int, x ≠ y → cmpI x y ≠ 0 := fun x y hxy => by unfold cmpI; split <;> (try split) <;> omega
    rcases inI_ways hp with rfl | rfl | rfl
    · have e : nxt a b c [] 0 = (a + 1, 0, 0) := rfl
      rw [e]; simp only; unfold cmpVer
      rw [orI_ne _ (g _ _ (by omega))]; exact g _ _ (by omega)
    · have e : nxt a b c [] 1 = (a, b + 1, 0) := rfl
      rw [e]; simp only; unfold cmpVer
      rw [cmpI_same, orI_zero, orI_ne _ (g _ _ (by omega))]; exact g _ _ (by omega)
    · have e : nxt a b c [] 2 = (a, b, c + 1) := rfl
      rw [e]; simp only; unfold cmpVer
      rw [cmpI_same, orI_zero, cmpI_same, orI_zero, orI_ne _ (g _ _ (by omega))]; exact g _ _ (by omega)
  · unfold nextL; split <;> rfl
theorem read_num {l : List UInt8} (h : readOk l = true) : verOk (readA l 0) (readA l 1) (readA l 2) [] = true := by
  have hv := read_ver h
  obtain ⟨ha, hb, hc, _⟩ := verOk_num hv
  rw [verOk_fin rfl]
  unfold numOk
  simp
  omega

def fromOk (l : List UInt8) (p : Int) : Bool := readOk l && !(rsd (readA l 0) (readA l 1) (readA l 2) p).isEmpty
def fromB (l : List UInt8) (p : Int) : Bd := (l, rsd (readA l 0) (readA l 1) (readA l 2) p)
theorem fromOk_bad {l : List UInt8} {p : Int} (h : readOk l = false) : fromOk l p = false := by unfold fromOk; rw [h]; rfl
theorem fromOk_of {l : List UInt8} {p : Int} (h : readOk l = true) : fromOk l p = !(rsd (readA l 0) (readA l 1) (readA l 2) p).isEmpty := by unfold fromOk; rw [h]; rfl
/-- The part that a ^ lets grow no further. -/
def crt (l : List UInt8) : Int := if 0 < readA l 0 then 0 else if 0 < readA l 1 then 1 else 2
def geP (l : List UInt8) : Bool := [62, 61].isPrefixOf l
def ltP (l : List UInt8) : Bool := [60].isPrefixOf l
def lmOk (l : List UInt8) : Bool := if 0 ≤ Lib.indexByte l 32 then geP (cutA 32 l) && readOk ((cutA 32 l).drop 2) && (ltP (cutB 32 l) && readOk ((cutB 32 l).drop 1)) else geP l && readOk (l.drop 2) || ltP l && readOk (l.drop 1)
def lmB (l : List UInt8) : Bd := if 0 ≤ Lib.indexByte l 32 then ((cutA 32 l).drop 2, (cutB 32 l).drop 1) else if geP l && readOk (l.drop 2) then (l.drop 2, []) else ([], l.drop 1)
/-- One alternative: whether it is one, and its bound. -/
def altOk (l : List UInt8) : Bool :=
  if l = [42] then true else if l.head? = some 94 then fromOk (l.drop 1) (crt (l.drop 1)) else if l.head? = some 126 then fromOk (l.drop 1) 1
  else if l.head? = some 62 ∨ l.head? = some 60 then lmOk l else if l.count 46 < 2 then fromOk (l ++ zrs (l.count 46)) (l.count 46) else exOk l
def altB (l : List UInt8) : Bd :=
  if l = [42] then ([], []) else if l.head? = some 94 then fromB (l.drop 1) (crt (l.drop 1)) else if l.head? = some 126 then fromB (l.drop 1) 1
  else if l.head? = some 62 ∨ l.head? = some 60 then lmB l else if l.count 46 < 2 then fromB (l ++ zrs (l.count 46)) (l.count 46) else (l, exHigh l)
def orSep : List UInt8 := [32, 124, 124, 32]
def rgPs (l : List UInt8) : List (List UInt8) := Lib.split l orSep
/-- Whether a text is a range, and its bounds. -/
def rgOk (l : List UInt8) : Bool := decide (l.length ≤ 200) && (decide ((rgPs l).length ≤ 8) && (rgPs l).all altOk)
def rgB (l : List UInt8) : List Bd := if rgOk l = true then (rgPs l).map altB else []
theorem rgB_len (l : List UInt8) : (rgB l).length ≤ 8 := by
  unfold rgB
  split
  · rename_i h; unfold rgOk at h; simp at h; simpa using h.2.1
  · simp

/-- What a reader of one alternative hands back. -/
def AltIs (w : World) (ok : Bool) (b : Bd) (e : Ending) (w' : World) : Prop := ∃ x y : ByteArray, e = .returned (.tuple #[.agg #[.string x, .string y], .bool ok]) ∧ (ok = true → x = ⟨b.1.toArray⟩ ∧ y = ⟨b.2.toArray⟩) ∧ Below w.heap.size w w'

theorem split_none {s sep : List UInt8} (h : Lib.index s sep = -1) : Lib.split s sep = [s] := by
  unfold Lib.split; rw [Lib.count_miss h]; rfl
theorem split_hit {s sep : List UInt8} {i : Nat} (hne : sep ≠ []) (h : Lib.index s sep = i) : Lib.split s sep = s.take i :: Lib.split (s.drop (i + sep.length)) sep := by
  unfold Lib.split
  rw [Lib.count_hit hne h, Nat.add_comm 1]
  have hm : ¬ (Lib.index s sep == -1) = true := fun e => by have := beq_iff_eq.1 e; omega
  rw [Lib.splitK, if_neg hm, h]
  simp
theorem rgPs_ne (l : List UInt8) : rgPs l ≠ [] := by
  unfold rgPs
  rcases Lib.index_spec l orSep with ⟨h, _⟩ | ⟨i, h, _⟩
  · rw [split_none h]; simp
  · rw [split_hit (by decide) h]; simp
end Go.Proofs.YtongpnknmgbhjaaGreatDoor
