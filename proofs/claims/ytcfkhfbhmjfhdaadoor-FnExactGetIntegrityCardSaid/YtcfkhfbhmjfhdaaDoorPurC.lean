/-
  Texts cut at a mark and joined again, in plain words.
-/
import Derived.Test.YtcfkhfbhmjfhdaaDoorCutM
import Derived.Test.YtcfkhfbhmjfhdaaDoorCut
import Derived.Test.YtcfkhfbhmjfhdaaDoorIntM
namespace Go.Proofs.YtcfkhfbhmjfhdaaDoor

/-- No m in l. -/
def noM (m : UInt8) (l : List UInt8) : Prop := ∀ c ∈ l, ¬ c = m
theorem noM_nil (m : UInt8) : noM m [] := fun c h => by cases h
theorem noM_app {m : UInt8} {a b : List UInt8} (h : noM m a) (k : noM m b) : noM m (a ++ b) := fun c hc => by
  rcases List.mem_append.1 hc with h1 | h1
  · exact h c h1
  · exact k c h1
theorem noM_tail {m c : UInt8} {l : List UInt8} (h : noM m (c :: l)) : noM m l := fun x hx => h x (by simp [hx])
theorem cutA_noM {m : UInt8} : ∀ {l : List UInt8} (r : List UInt8), noM m l → cutA m (l ++ m :: r) = l
  | [], r, _ => cutA_hit m r
  | c :: l, r, h => by rw [List.cons_append, cutA_miss _ (h c (by simp)), cutA_noM r (noM_tail h)]
theorem cutB_noM {m : UInt8} : ∀ {l : List UInt8} (r : List UInt8), noM m l → cutB m (l ++ m :: r) = r
  | [], r, _ => cutB_hit m r
  | c :: l, r, h => by rw [List.cons_append, cutB_miss _ (h c (by simp)), cutB_noM r (noM_tail h)]
theorem cutL_noM {m : UInt8} : ∀ {l : List UInt8}, noM m l → cutL m l = [l]
  | [], _ => rfl
  | c :: l, h => by unfold cutL; rw [if_neg (h c (by simp)), cutL_noM (noM_tail h)]; rfl
theorem cutL_head {m : UInt8} : ∀ {l : List UInt8} (r : List UInt8), noM m l → cutL m (l ++ m :: r) = l :: cutL m r
  | [], r, _ => by rw [List.nil_append]; conv => lhs; unfold cutL
                   rw [if_pos rfl]
  | c :: l, r, h => by
    rw [List.cons_append]
    conv => lhs; unfold cutL
    rw [if_neg (h c (by simp)), cutL_head r (noM_tail h)]
    rfl
theorem cutL_join {m : UInt8} : ∀ (ls : List (List UInt8)), ls ≠ [] → (∀ l ∈ ls, noM m l) → cutL m (Lib.join ls [m]) = ls
  | [], h, _ => absurd rfl h
  | [x], _, h => by rw [join_one, cutL_noM (h x (by simp))]
  | x :: y :: l, _, h => by
    rw [join_cons, List.append_assoc, List.cons_append, List.nil_append, cutL_head _ (h x (by simp)), cutL_join (y :: l) (by simp) (fun z hz => h z (by simp [hz]))]
theorem join_attach (m : UInt8) (p : List UInt8) {X : List (List UInt8)} (h : X ≠ []) : Lib.join (attach p X) [m] = p ++ Lib.join X [m] := by
  cases X with
  | nil => exact absurd rfl h
  | cons x X =>
    cases X with
    | nil => simp [attach, join_one]
    | cons y X => simp [attach, join_cons]
theorem join_cutL (m : UInt8) : ∀ l : List UInt8, Lib.join (cutL m l) [m] = l
  | [] => by simp [cutL, join_one]
  | c :: l => by
    have ih := join_cutL m l
    have hne := cutL_ne m l
    unfold cutL
    split
    · rename_i h
      subst h
      cases hx : cutL c l with
      | nil => exact absurd hx hne
      | cons y ys => rw [hx] at ih; rw [join_cons, ih]; simp
    · rw [join_attach m [c] hne, ih]; rfl
end Go.Proofs.YtcfkhfbhmjfhdaaDoor
