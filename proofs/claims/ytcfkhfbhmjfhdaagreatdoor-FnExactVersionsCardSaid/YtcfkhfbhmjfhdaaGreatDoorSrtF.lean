/-
  slices.SortFunc at a row of versions: the row holds the same versions, in order.
-/
import Derived.Test.YtcfkhfbhmjfhdaaGreatDoorLaysSort
import Derived.Test.YtcfkhfbhmjfhdaaGreatDoorAppV
import Derived.Test.YtcfkhfbhmjfhdaaGreatDoorCmpV
import Derived.Test.YtcfkhfbhmjfhdaaGreatDoorSrtM
namespace Go.Proofs.YtcfkhfbhmjfhdaaGreatDoor
open Go.RowKit
open Go.Sort (SWO PermIn SortedIn HoldsK flatK grow)

/-- A version by its text, and the value of its identifiers. -/
abbrev VI := List UInt8 × Value
def cv (x : VI) : Int × Int × Int × Value := (readA x.1 0, readA x.1 1, readA x.1 2, x.2)
def vi (X : List VI) (i : Nat) : VI := X.getD i ([], .slice none 0 0)
def encI (X : List VI) (i : Nat) : List Value := vc4 (cv (vi X i))
/-- v is the call's own row of these versions, and their identifiers lie where they say. -/
def VerRow (w : World) (base : Nat) (v : Value) (X : List VI) : Prop := Vers w base v (X.map cv) ∧ ∀ x ∈ X, Strs w 0 x.2 (readP x.1)
/-- The value v reads as these versions. -/
def RdV (w : World) (v : Value) (X : List VI) : Prop := ∃ A cap, v = .slice A X.length cap ∧ ∀ k (h : k < X.length), ∃ g, A = some ⟨g, 0, none⟩ ∧ g < w.heap.size ∧ w.cell? ⟨g, k * 4, none⟩ = some (.int .i64 (readA X[k].1 0)) ∧ w.cell? ⟨g, k * 4 + 1, none⟩ = some (.int .i64 (readA X[k].1 1)) ∧ w.cell? ⟨g, k * 4 + 2, none⟩ = some (.int .i64 (readA X[k].1 2)) ∧ w.cell? ⟨g, k * 4 + 3, none⟩ = some X[k].2 ∧ Strs w 0 X[k].2 (readP X[k].1)
theorem RdV.below {w w' : World} {v : Value} {X : List VI} (h : RdV w v X) (hb : Below w.heap.size w w') : RdV w' v X := by
  obtain ⟨A, cap, hv, hc⟩ := h
  refine ⟨A, cap, hv, fun k hk => ?_⟩
  obtain ⟨g, hA, hg, h0, h1, h2, h3, h4⟩ := hc k hk
  exact ⟨g, hA, Nat.lt_of_lt_of_le hg hb.size, keepC hb h0, keepC hb h1, keepC hb h2, keepC hb h3, h4.below hb⟩

theorem flat4_get : ∀ (L : List (Int × Int × Int × Value)) (k j : Nat) (h : k < L.length), j < 4 → (flat4 L)[k * 4 + j]? = (vc4 L[k])[j]?
  | [], k, j, h, _ => by simp at h
  | a :: t, 0, j, _, hj => by
    rw [show 0 * 4 + j = j by omega]
    show (vc4 a ++ flat4 t)[j]? = _
    rw [List.getElem?_append_left (by simpa [vc4] using hj)]
    rfl
  | a :: t, k + 1, j, h, hj => by
    have := flat4_get t k j (by simpa using h) hj
    show (vc4 a ++ flat4 t)[(k + 1) * 4 + j]? = _
    rw [List.getElem?_append_right (by simp [vc4]; omega)]
    simp only [vc4, List.length_cons, List.length_nil]
    rw [show (k + 1) * 4 + j - (0 + 1 + 1 + 1 + 1) = k * 4 + j by omega, this]
    rfl

theorem sw_heap (enc : Nat → List Value) (k : Nat) (w : World) (g off m : Nat) (dk : Array Nat) (os : Array Obj) (b : Nat) (hb : b < w.heap.size) (hne : b ≠ g) : (sortWorldK enc k w g off m dk os).heap[b]? = w.heap[b]? := by
  unfold sortWorldK
  rw [Go.Sort.heap_grow_old _ _ (by rw [Go.Sort.size_putRowK]; exact hb)]
  unfold Go.Sort.putRowK Go.Sort.putRow Go.Sort.mapBlock Go.Sort.ahead
  show (w.heap.modify g _)[b]? = _
  rw [Array.getElem?_modify, if_neg (fun e => hne e.symm)]
theorem sw_grown (enc : Nat → List Value) (k : Nat) (w : World) (g off m : Nat) (dk : Array Nat) (os : Array Obj) : w.grownBy (sortWorldK enc k w g off m dk os) (some g) :=
  ⟨rfl, rfl, rfl, size_sortWorldK_c enc k w g off m dk os, fun b hb hne => sw_heap enc k w g off m dk os b hb (fun e => hne (by rw [e]))⟩

theorem alloc3 (W : World) (o1 o2 o : Obj) (q : Nat) : (((W.alloc o1).alloc o2).drewN q).alloc o = grow (W.drewN q) #[o1, o2, o] := by
  rw [Go.Sort.alloc_eq_grow, Go.Sort.alloc_eq_grow, Go.Sort.alloc_eq_grow, Go.Sort.grow_grow]
  show grow (grow (W.drewN q) (#[o1] ++ #[o2])) #[o] = _
  rw [Go.Sort.grow_grow]
  rfl
theorem swo_T (X : List VI) : SWO (ltOf fun i j : Nat => cmpT (vi X i).1 (vi X j).1) where
  irrefl x := by
    have := cmp_T.1 (vi X x).1 (vi X x).1
    unfold ltOf; simp; omega
  trans x y z h1 h2 := by
    unfold ltOf at *
    simp at *
    exact cmpT_lt_trans h1 (by omega)
  ntrans x y z h1 h2 := by
    unfold ltOf at *
    simp at *
    have a := cmp_T.1 (vi X x).1 (vi X y).1
    have b := cmp_T.1 (vi X y).1 (vi X z).1
    have c := cmp_T.1 (vi X x).1 (vi X z).1
    have := cmp_T.2 (vi X z).1 (vi X y).1 (vi X x).1 (by omega) (by omega)
    omega

theorem vi_of {X : List VI} {p : VI → Prop} (h : ∀ x ∈ X, p x) (h0 : p ([], .slice none 0 0)) (i : Nat) : p (vi X i) := by
  unfold vi
  rw [List.getD_eq_getElem?_getD]
  cases hi : X[i]? with
  | none => exact h0
  | some x => exact h x (List.mem_of_getElem? hi)
theorem vi_get {X : List VI} {i : Nat} (h : i < X.length) : vi X i = X[i] := by unfold vi; simp [h]

set_option maxRecDepth 100000 in
set_option maxHeartbeats 1000000 in
theorem sortFunc_any (w : World) (base g cap : Nat) (X : List VI) (h : VerRow w base (.slice (some ⟨g, 0, none⟩) X.length cap) X) (hn : X.length ≤ 1048576) (hsm : ∀ x ∈ X, Sm (readP x.1)) :
    Calls Tryz.prog 54 #[.slice (some ⟨g, 0, none⟩) X.length cap, .func (.func 55) #[] #[]] w fun e w' => e = .returned (.tuple #[]) ∧ ∃ Y : List VI, Y.Perm X ∧ (∀ i j (_ : i < j) (hj : j < Y.length), cmpT (Y[i]'(by omega)).1 Y[j].1 ≤ 0) ∧ RdV w' (.slice (some ⟨g, 0, none⟩) X.length cap) Y ∧ Below base w w' := by
  obtain ⟨hV, hP⟩ := h
  obtain ⟨cur, hg, hbase⟩ : ∃ cur, w.heap[g]? = some (.cells cur 74) ∧ base ≤ g := by
    rcases hV.2 with ⟨hv, _⟩ | ⟨g', cap', cur, hv, hb, hh, _⟩
    · cases hv
    · simp only [Value.slice.injEq, Option.some.injEq, Addr.mk.injEq, and_true] at hv
      obtain ⟨rfl, _, _⟩ := hv
      exact ⟨cur, hh, hb⟩
  have hlt := lt_of_heap hg
  have keepS : ∀ (w' : World) (u : Value) (ls : List (List UInt8)), w.grownBy w' (some g) → Strs w 0 u ls → Strs w' 0 u ls := fun w' u ls hgr hS => World.ownsRow.kept hS hgr (by
    rcases hS.2 with ⟨rfl, _⟩ | ⟨g', cap', cur', rfl, _, hh, _⟩
    · left; rfl
    · right
      simp only [Value.ownBlock, ne_eq, Option.some.injEq]
      rintro rfl
      rw [hg] at hh
      simp only [Option.some.injEq, Obj.cells.injEq] at hh
      exact absurd hh.2.1 (by decide))
  have hStr : ∀ i, Strs w 0 (vi X i).2 (readP (vi X i).1) := vi_of (p := fun x => Strs w 0 x.2 (readP x.1)) hP (Strs.nil w 0)
  have hSm : ∀ i, Sm (readP (vi X i).1) := vi_of (p := fun x => Sm (readP x.1)) hsm sm_nil
  have hH : HoldsK (encI X) 4 w g 0 (Array.range X.length) := by
    intro j hj
    rw [Go.Sort.size_flatK, Array.size_range] at hj
    refine ⟨?_, World.ownsRow.frozenAt (base := base) (e := 74) (size := 4) (n := X.length) (cap := cap) (xs := flat4 (X.map cv)) (by have := hV; unfold Vers at this; rw [List.length_map] at this; exact this) _⟩
    rw [Go.Sort.get_flatK _ _ _ _ (by simpa using hj), Nat.zero_add]
    have hk : j / 4 < X.length := by omega
    have hd : (Array.range X.length)[j / 4]! = j / 4 := by rw [getElem!_pos _ _ (by simpa using hk)]; simp
    rw [hd]
    have hf := flat4_get (X.map cv) (j / 4) (j % 4) (by simpa using hk) (by omega)
    rw [show j / 4 * 4 + j % 4 = j by omega] at hf
    have hm : j % 4 < (encI X (j / 4)).length := by show j % 4 < 4; omega
    have := World.ownsRow.cells (g := g) hV rfl j ((encI X (j / 4))[j % 4]!) (by
      have e : vc4 ((X.map cv)[j / 4]'(by simpa using hk)) = encI X (j / 4) := by unfold encI; rw [vi_get hk, List.getElem_map]
      have e2 : (encI X (j / 4))[j % 4]! = (encI X (j / 4))[j % 4] := getElem!_pos (encI X (j / 4)) (j % 4) hm
      rw [hf, e, e2, List.getElem?_eq_getElem hm])
    rw [Go.WideShapes.add_plain, Nat.zero_add] at this
    exact this
  have hcmp : CmpLays Tryz.prog 55 #[] (encI X) 4 (fun i j : Nat => cmpT (vi X i).1 (vi X j).1) g 0 (Array.range X.length).size w := fun m os dk _ x y => by
    have hgr := sw_grown (encI X) 4 w g 0 m dk os
    have := implCompareVersion_grow (readA (vi X x).1 0) (readA (vi X x).1 1) (readA (vi X x).1 2) (readA (vi X y).1 0) (readA (vi X y).1 1) (readA (vi X y).1 2) (vi X x).2 (vi X y).2 (readP (vi X x).1) (readP (vi X y).1) _ (RdS.of_strs (keepS _ _ _ hgr (hStr x))) (RdS.of_strs (keepS _ _ _ hgr (hStr y))) (hSm x) (hSm y)
    exact this.mono fun e w' ⟨q, o, he, hw⟩ => ⟨he, q, _, hw.trans (alloc3 _ _ _ _ _)⟩
  have eg : ∀ args w, (callFunc 55 args).run Tryz.prog w = .ok (.enter 55 args) w := enters_of Tryz.func55 (by kernel_rfl) rfl
  have hcon := AnyQ.slices_SortFunc Tryz.laysSort 4 Tryz.isAgg74 Tryz.sizeOf74 (encI X) (fun _ => rfl) (fun x v hv => by
    obtain ⟨uA, uc, hu⟩ := (hStr x).slice
    simp [encI, vc4, cv] at hv
    rcases hv with rfl | rfl | rfl | rfl
    · rfl
    · rfl
    · rfl
    · rw [hu]; rfl) _ (swo_T X) 55 #[] g 0 cap (Array.range X.length) w eg hcmp hH hlt (by simp; omega)
  rw [Array.size_range] at hcon
  refine hcon.mono ?_
  rintro e w' ⟨rfl, d', n, os, hp, hs, rfl⟩
  have hsz : d'.size = X.length := by have := hp.1; simpa using this
  have hperm : d'.toList.Perm (List.range X.length) := by
    have := hp.2.2
    rw [← hsz, Array.extract_size] at this
    rw [hsz] at this
    have e : (Array.range X.length).extract 0 X.length = Array.range X.length := by simp
    rw [e] at this
    simpa using this
  have hY : ((List.range X.length).map (vi X)) = X := by
    apply List.ext_getElem (by simp)
    intro i h1 h2
    simp at h1
    simp [vi_get h1]
  have hH' := holdsK_sortWorldK_c (encI X) 4 w g 0 (Array.range X.length) d' n os hH hlt (by simpa using hsz)
  have hgr := sw_grown (encI X) 4 w g 0 n d' os
  have gd : ∀ i (h : i < d'.size), d'[i]! = d'[i] := fun i h => getElem!_pos d' i h
  refine ⟨rfl, d'.toList.map (vi X), ?_, ?_, ?_, ?_⟩
  · have := hperm.map (vi X); rwa [hY] at this
  · intro i j hij hj
    simp at hj
    have := hs i j (Nat.zero_le _) hij (by omega)
    unfold ltOf at this
    simp at this
    rw [gd i (by omega), gd j hj] at this
    have c := cmp_T.1 (vi X d'[i]).1 (vi X d'[j]).1
    simp
    omega
  · refine ⟨some ⟨g, 0, none⟩, cap, by simp [hsz], fun k hk => ?_⟩
    simp at hk
    have hc : ∀ r, r < 4 → (sortWorldK (encI X) 4 w g 0 n d' os).cell? ⟨g, k * 4 + r, none⟩ = some ((encI X d'[k])[r]!) := fun r hr => by
      have := (hH' (k * 4 + r) (by rw [Go.Sort.size_flatK]; omega)).1
      rw [Go.Sort.get_flatK _ _ _ _ (by omega), Nat.zero_add, show (k * 4 + r) / 4 = k by omega, show (k * 4 + r) % 4 = r by omega, gd k hk] at this
      exact this
    simp only [List.getElem_map, Array.getElem_toList]
    exact ⟨g, rfl, Nat.lt_of_lt_of_le hlt hgr.size, hc 0 (by omega), hc 1 (by omega), hc 2 (by omega), hc 3 (by omega), keepS _ _ _ hgr (hStr _)⟩
  · exact (Below.refl base w).grown hgr (by omega) (fun g' hg' => by cases hg'; exact hbase)
end Go.Proofs.YtcfkhfbhmjfhdaaGreatDoor
