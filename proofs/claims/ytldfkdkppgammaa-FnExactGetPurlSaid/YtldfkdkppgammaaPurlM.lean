/-
  The package URL in plain words.
-/
import Derived.Test.YtldfkdkppgammaaKindN
import Derived.Test.YtldfkdkppgammaaPercent
import Derived.Test.YtldfkdkppgammaaNameS
import Derived.Test.YtldfkdkppgammaaRdIs
import Derived.Lib.Join
namespace Go.Proofs.Ytldfkdkppgammaa
open Go.RowKit

/-- The name's parts as they are written, so many of them. -/
def pctP (ls : List (List UInt8)) : List UInt8 := ls.flatMap fun p => 47 :: pctL p
def purlT (k : Int) (a b : List UInt8) : List UInt8 := [112, 107, 103, 58] ++ kindL k ++ pctP (cutL 47 a) ++ 64 :: pctL b
def purlOk (k : Int) (a b : List UInt8) : Bool := !(kindL k).isEmpty && specN a && readOk b
/-- What PutPurl hands back. -/
def purlL (k : Int) (a b : List UInt8) : List UInt8 := if purlOk k a b = true then purlT k a b else []
theorem purl_kind {k : Int} (a b : List UInt8) (h : kindL k = []) : purlL k a b = [] := by unfold purlL purlOk; simp [h]
theorem purl_name (k : Int) {a : List UInt8} (b : List UInt8) (h : specN a = false) : purlL k a b = [] := by unfold purlL purlOk; simp [h]
theorem purl_ver (k : Int) (a : List UInt8) {b : List UInt8} (h : readOk b = false) : purlL k a b = [] := by unfold purlL purlOk; simp [h]
theorem purl_yes {k : Int} {a b : List UInt8} (h : kindL k ≠ []) (ha : specN a = true) (hb : readOk b = true) : purlL k a b = purlT k a b := by
  unfold purlL purlOk
  have : (kindL k).isEmpty = false := by cases hk : kindL k <;> simp_all
  simp [this, ha, hb]
theorem specN_60 {l : List UInt8} (h : specN l = true) : l.length ≤ 60 := by
  unfold specN at h; simp at h; exact h.2
theorem pctP_snoc {ls : List (List UInt8)} {k : Nat} (h : k < ls.length) : pctP (ls.take (k + 1)) = pctP (ls.take k) ++ 47 :: pctL ls[k] := by
  unfold pctP; rw [List.take_succ_eq_append_getElem h]; simp only [List.flatMap_append, List.flatMap_cons, List.flatMap_nil, List.append_nil]
theorem pctP_zero (ls : List (List UInt8)) : pctP (ls.take 0) = [] := by simp [pctP]
theorem pctP_all {ls : List (List UInt8)} {k : Nat} (h : ¬ k < ls.length) : pctP (ls.take k) = pctP ls := by rw [List.take_of_length_le (by omega)]
theorem pctP_len {ls : List (List UInt8)} (h : ∀ l ∈ ls, l.length ≤ 60) (k : Nat) : (pctP (ls.take k)).length ≤ 181 * k := by
  induction k with
  | zero => simp [pctP]
  | succ k ih =>
    by_cases hk : k < ls.length
    · rw [pctP_snoc hk]
      have := pctL_len ls[k]
      have := h ls[k] (List.getElem_mem hk)
      simp; omega
    · rw [pctP_all (by omega)]; rw [pctP_all hk] at ih; omega
theorem join_pct : ∀ ls : List (List UInt8), ls ≠ [] → 47 :: Lib.join (ls.map pctL) [47] = pctP ls
  | [], h => absurd rfl h
  | [x], _ => by simp [Lib.join, List.intercalate, pctP]
  | x :: y :: l, _ => by
    have ih := join_pct (y :: l) (by simp)
    have e : Lib.join ((x :: y :: l).map pctL) [47] = pctL x ++ (47 :: Lib.join ((y :: l).map pctL) [47]) := by unfold Lib.join; simp [List.intercalate]
    rw [e, ih]
    simp [pctP]
end Go.Proofs.Ytldfkdkppgammaa
