/-
  Marks written over a structure of the call's own, in plain words: within some blocks a text stays a text, a slice the same slice; all else is as it was.
-/
import Derived.Test.YtongpnknmgbhjaaHeapC
import Derived.Test.YtongpnknmgbhjaaMarks
import Derived.Test.YtongpnknmgbhjaaGrw
import Derived.LoopN
namespace Go.Proofs.Ytongpnknmgbhjaa
open Go.RowKit

/-- Where a text stood stands a text, where a slice the same slice, where a bool a bool. -/
def CellTo (v v' : Value) : Prop := match v with
  | .string _ => ∃ s, v' = .string s
  | .slice a n c => v' = .slice a n c
  | .bool _ => ∃ b, v' = .bool b
  | _ => True
theorem CellTo.refl (v : Value) : CellTo v v := by cases v <;> simp [CellTo]
theorem CellTo.trans {a b c : Value} (h1 : CellTo a b) (h2 : CellTo b c) : CellTo a c := by
  cases a with
  | string s => obtain ⟨t, rfl⟩ := h1; exact h2
  | slice x n y => obtain rfl : b = .slice x n y := h1; exact h2
  | bool x => obtain ⟨t, rfl⟩ := h1; exact h2
  | _ => trivial
/-- From w to w' only the blocks from lo on and below hi have changed, by marks. -/
structure Mk (lo hi : Nat) (w w' : World) : Prop where
  os : w'.os = w.os
  tape : w'.tape = w.tape
  output : w'.output = w.output
  size : w.heap.size ≤ w'.heap.size
  out : ∀ b : Nat, b < w.heap.size → (b < lo ∨ hi ≤ b) → w'.heap[b]? = w.heap[b]?
  row : ∀ (b : Nat) (cur : Array Value) (T : TypeId), lo ≤ b → b < hi → w.heap[b]? = some (.cells cur T) → ∃ cur' : Array Value, w'.heap[b]? = some (.cells cur' T) ∧ cur'.size = cur.size ∧ ∀ (i : Nat) (v : Value), cur[i]? = some v → ∃ v', cur'[i]? = some v' ∧ CellTo v v'
theorem Mk.refl (lo hi : Nat) (w : World) : Mk lo hi w w := ⟨rfl, rfl, rfl, Nat.le_refl _, fun _ _ _ => rfl, fun _ cur _ _ _ h => ⟨cur, h, rfl, fun _ v hv => ⟨v, hv, CellTo.refl v⟩⟩⟩
theorem Mk.trans {lo hi : Nat} {w w1 w2 : World} (h1 : Mk lo hi w w1) (h2 : Mk lo hi w1 w2) : Mk lo hi w w2 :=
  ⟨h2.os.trans h1.os, h2.tape.trans h1.tape, h2.output.trans h1.output, Nat.le_trans h1.size h2.size, fun b hb ho => (h2.out b (Nat.lt_of_lt_of_le hb h1.size) ho).trans (h1.out b hb ho), fun b cur T hl hh h => by
    obtain ⟨c1, e1, s1, k1⟩ := h1.row b cur T hl hh h
    obtain ⟨c2, e2, s2, k2⟩ := h2.row b c1 T hl hh e1
    refine ⟨c2, e2, s2.trans s1, fun i v hv => ?_⟩
    obtain ⟨v1, hv1, t1⟩ := k1 i v hv
    obtain ⟨v2, hv2, t2⟩ := k2 i v1 hv1
    exact ⟨v2, hv2, t1.trans t2⟩⟩
theorem Mk.of_below {lo hi : Nat} {w w' : World} (hb : Below w.heap.size w w') (hh : hi ≤ w.heap.size) : Mk lo hi w w' :=
  ⟨hb.os, hb.tape, hb.output, hb.size, fun b hb1 _ => hb.block b hb1, fun b cur T _ h2 h => ⟨cur, (hb.block b (by omega)).trans h, rfl, fun _ v hv => ⟨v, hv, CellTo.refl v⟩⟩⟩
theorem Mk.set {lo hi : Nat} (w : World) (g k : Nat) (x : Value) (hl : lo ≤ g) (hh : g < hi) (hc : ∀ v, w.cell? ⟨g, k, none⟩ = some v → CellTo v x) : Mk lo hi w (w.setCell ⟨g, k, none⟩ x) := by
  refine ⟨rfl, rfl, rfl, by simp, fun b _ ho => heap_setCell_other w ⟨g, k, none⟩ b x (fun e => ?_), fun b cur T h1 h2 h => ?_⟩
  · have : b = g := e
    omega
  · by_cases e : b = g
    · subst e
      refine ⟨cur.setIfInBounds k x, heap_setCell_same w b k cur T x h, by simp, fun i v hv => ?_⟩
      by_cases hik : i = k
      · subst hik
        have hlt : i < cur.size := (Array.getElem?_eq_some_iff.1 hv).1
        refine ⟨x, by simp [hlt], hc v (by simp [World.cell?, h, hv])⟩
      · exact ⟨v, by rw [Array.getElem?_setIfInBounds_ne (fun e => hik e.symm)]; exact hv, CellTo.refl v⟩
    · exact ⟨cur, (heap_setCell_other w ⟨g, k, none⟩ b x e).trans h, rfl, fun _ v hv => ⟨v, hv, CellTo.refl v⟩⟩
theorem Mk.below {lo hi : Nat} {w w' : World} (h : Mk lo hi w w') (hl : lo ≤ w.heap.size) : Below lo w w' := ⟨h.os, h.tape, h.output, h.size, fun b hb => h.out b (by omega) (.inl hb)⟩
theorem belowMk {n lo hi : Nat} {w W V : World} (hb : Below n w W) (h : Mk lo hi W V) (h1 : n ≤ lo) (h2 : n ≤ W.heap.size) : Below n w V :=
  ⟨h.os.trans hb.os, h.tape.trans hb.tape, h.output.trans hb.output, Nat.le_trans hb.size h.size, fun b hlt => (h.out b (by omega) (.inl (by omega))).trans (hb.block b hlt)⟩
theorem Strs.mk {lo hi base : Nat} {w w' : World} {v : Value} {l : List (List UInt8)} (h : Strs w base v l) (hm : Mk lo hi w w') (hf : ∀ g, v.ownBlock = some g → g < lo ∨ hi ≤ g) : Strs w' base v l := by
  rcases h.form with ⟨rfl, rfl⟩ | ⟨g, cap, rfl, hb, hlt⟩
  · exact Strs.nil _ _
  · refine ⟨h.1, ?_⟩
    rcases h.2 with ⟨h0, _⟩ | ⟨g', cap', cur, hv, hg, hh, hr⟩
    · cases h0
    · right
      simp only [Value.slice.injEq, Option.some.injEq, Addr.mk.injEq, and_true] at hv
      obtain ⟨rfl, _, rfl⟩ := hv
      exact ⟨g, cap, cur, rfl, hg, (hm.out g hlt (hf g rfl)).trans hh, hr⟩
/-- The first n cells of block g are texts. -/
def RowS (w : World) (g n : Nat) (T : TypeId) : Prop := ∃ cur, w.heap[g]? = some (.cells cur T) ∧ ∀ i, i < n → ∃ s, cur[i]? = some (.string s)
theorem RowS.mk {lo hi g n : Nat} {T : TypeId} {w w' : World} (h : RowS w g n T) (hm : Mk lo hi w w') (hl : lo ≤ g) (hh : g < hi) : RowS w' g n T := by
  obtain ⟨cur, hc, hs⟩ := h
  obtain ⟨cur', hc', _, hk⟩ := hm.row g cur T hl hh hc
  refine ⟨cur', hc', fun i hi' => ?_⟩
  obtain ⟨s, hs⟩ := hs i hi'
  obtain ⟨v', hv', t⟩ := hk i _ hs
  obtain ⟨s', rfl⟩ := t
  exact ⟨s', hv'⟩
theorem RowS.cell {w : World} {g n : Nat} {T : TypeId} (h : RowS w g n T) (i : Nat) (hi : i < n) : ∃ s, w.cell? ⟨g, i, none⟩ = some (.string s) := by
  obtain ⟨cur, hc, hs⟩ := h
  obtain ⟨s, hs⟩ := hs i hi
  exact ⟨s, by simp [World.cell?, hc, hs]⟩
theorem RowS.frozen {w : World} {g n : Nat} {T : TypeId} (h : RowS w g n T) (i : Nat) : w.frozen? ⟨g, i, none⟩ = false := by
  obtain ⟨cur, hc, _⟩ := h; simp [World.frozen?, hc]
theorem RowS.set {lo hi g n : Nat} {T : TypeId} {w : World} (h : RowS w g n T) (i : Nat) (hi' : i < n) (l : List UInt8) (hl : lo ≤ g) (hh : g < hi) : Mk lo hi w (w.setCell ⟨g, i, none⟩ (sv l)) := by
  obtain ⟨s, hs⟩ := h.cell i hi'
  exact Mk.set w g i _ hl hh (fun v hv => by rw [hs] at hv; cases hv; exact ⟨_, rfl⟩)
theorem rowS_of {w : World} {base g n size cap : Nat} {T : TypeId} {xs : List Value} (h : w.ownsRow base T size (.slice (some ⟨g, 0, none⟩) n cap) n xs) (hx : ∀ v ∈ xs, ∃ s, v = .string s) : RowS w g (n * size) T := by
  obtain ⟨hl, h⟩ := h
  rcases h with ⟨h0, _⟩ | ⟨g', cap', cur, hv, _, hh, h1, h2, h3, h4⟩
  · cases h0
  · simp only [Value.slice.injEq, Option.some.injEq, Addr.mk.injEq, and_true] at hv
    obtain ⟨rfl, _, rfl⟩ := hv
    refine ⟨cur, hh, fun i hi => ?_⟩
    have hlt : i < xs.length := by omega
    have : xs[i]? = cur[i]? := by rw [← h4, List.getElem?_take_of_lt hi]; simp
    obtain ⟨s, hs⟩ := hx xs[i] (List.getElem_mem hlt)
    exact ⟨s, by rw [← this, List.getElem?_eq_getElem hlt, hs]⟩
theorem Strs.rowS {w : World} {base g n cap : Nat} {l : List (List UInt8)} (h : Strs w base (.slice (some ⟨g, 0, none⟩) n cap) l) (hn : n = l.length) : RowS w g n 9 := by
  subst hn
  have := rowS_of h (fun v hv => by obtain ⟨x, _, rfl⟩ := List.mem_map.1 hv; exact ⟨_, rfl⟩)
  simpa using this
set_option maxRecDepth 100000 in
set_option maxHeartbeats 1000000 in
theorem markStringS_w (lo hi g n cap s : Nat) (w : World) (h : RowS w g n 9) (hl : lo ≤ g) (hh : g < hi) (hw : hi ≤ w.heap.size) (hn : n ≤ 2000000) (s1 : 1 ≤ s) (s2 : s ≤ 90000000) :
    Calls Try.prog 52 #[.slice (some ⟨g, 0, none⟩) n cap, .int .i64 (s : Int)] w fun e w' => e = .returned (.int .i64 ((s + n : Nat) : Int)) ∧ Mk lo hi w w' := by
  obtain ⟨E, HE⟩ : ∃ E, Hid (s + n = E) := ⟨_, Lib.hid rfl⟩
  rw [HE.out]
  have HR := Lib.hid h
  clear h
  go_enter Try.func52, Try.ntmps52
  go_wp2
  go_loopw [1, 5] (fun u i wr => ∃ k U : Nat, k ≤ n ∧ Hid (U = s + k) ∧ i = .int .i64 k ∧ u = .int .i64 (U : Int) ∧ Mk lo hi w wr) (fun _ i _ => n - (intOf i).toNat)
  case atStart => exact ⟨0, s, Nat.zero_le _, Lib.hid (by omega), rfl, rfl, Mk.refl _ _ _⟩
  case round =>
    obtain ⟨k, U, hk, HU, rfl, rfl, hM⟩ := hrel
    have u1 : 1 ≤ U := by have := HU.out; omega
    have u2 : U ≤ 92000000 := by have := HU.out; omega
    by_cases hlt : k < n
    · have k0 : (0 : Int) ≤ (k : Int) := by omega
      have k1 : (k : Int) < (n : Int) := by omega
      have hz := hM.size
      go_wp2_with fail
      refine (markText_any U wr (by omega) (by omega)).mono ?_
      rintro e w2 ⟨rfl, hb2⟩
      have M2 := hM.trans (Mk.of_below (lo := lo) (hi := hi) hb2 (by omega))
      have hR2 := HR.out.mk M2 hl hh
      obtain ⟨x, c2⟩ := hR2.cell k hlt
      have f2 := hR2.frozen k
      have M3 := M2.trans (hR2.set k hlt (mt U) hl hh)
      clear hR2 hM M2 hb2
      go_wp2_with fail
      go_roundw
      case rel => exact ⟨k + 1, U + 1, by omega, Lib.hid (by have := HU.out; omega), by go_num, by go_num, M3⟩
      case measure => simp [intOf]; omega
    · obtain rfl : k = n := by omega
      have HUE : Hid (U = E) := Lib.hid (by rw [HU.out, HE.out])
      go_wp2_with fail
      go_ret
      exact ⟨by rw [← HUE.out]; rfl, hM⟩

/-- A lists's address: none, or a row of texts among the blocks from lo on and below hi. -/
def SlR (w : World) (lo hi : Nat) (A : Option Addr) (n size : Nat) (T : TypeId) : Prop := (A = none ∧ n = 0) ∨ ∃ g, A = some ⟨g, 0, none⟩ ∧ lo ≤ g ∧ g < hi ∧ RowS w g (n * size) T
theorem SlR.mk {w w' : World} {lo hi n size : Nat} {A : Option Addr} {T : TypeId} (h : SlR w lo hi A n size T) (hm : Mk lo hi w w') : SlR w' lo hi A n size T := by
  rcases h with h | ⟨g, hA, h1, h2, h3⟩
  · exact .inl h
  · exact .inr ⟨g, hA, h1, h2, h3.mk hm h1 h2⟩
theorem strs_slR {w : World} {lo hi base n cap : Nat} {A : Option Addr} {l : List (List UInt8)} (h : Strs w base (.slice A n cap) l) (hn : n = l.length) (hl : lo ≤ base) (hh : w.heap.size ≤ hi) : SlR w lo hi A n 1 9 := by
  subst hn
  rcases h.form with ⟨hv, rfl⟩ | ⟨g, cap', hv, hb, hg⟩
  · simp only [Value.slice.injEq] at hv; exact .inl ⟨hv.1, rfl⟩
  · simp only [Value.slice.injEq] at hv
    obtain ⟨rfl, _, rfl⟩ := hv
    refine .inr ⟨g, rfl, by omega, by omega, ?_⟩
    rw [Nat.mul_one]; exact h.rowS rfl
set_option maxRecDepth 100000 in
set_option maxHeartbeats 1000000 in
theorem markStringS_r (lo hi n cap s : Nat) (A : Option Addr) (w : World) (h : SlR w lo hi A n 1 9) (hw : hi ≤ w.heap.size) (hn : n ≤ 2000000) (s1 : 1 ≤ s) (s2 : s ≤ 90000000) :
    Calls Try.prog 52 #[.slice A n cap, .int .i64 (s : Int)] w fun e w' => e = .returned (.int .i64 ((s + n : Nat) : Int)) ∧ Mk lo hi w w' := by
  rcases h with ⟨rfl, rfl⟩ | ⟨g, rfl, h1, h2, h3⟩
  · go_enter Try.func52, Try.ntmps52
    go_wp2
    refine wp_loop_rounds 1 ?_
    rw [rounds_succ]; go_wp2
    go_ret
    exact ⟨rfl, Mk.refl _ _ _⟩
  · rw [Nat.mul_one] at h3
    exact markStringS_w lo hi g n cap s w h3 h1 h2 hw hn s1 s2
theorem cellOf {w : World} {G i : Nat} {cur : Array Value} {T : TypeId} {v : Value} (h : w.heap[G]? = some (.cells cur T)) (hv : cur[i]? = some v) : w.cell? ⟨G, i, none⟩ = some v ∧ w.frozen? ⟨G, i, none⟩ = false := by
  constructor
  · simp [World.cell?, h, hv]
  · simp [World.frozen?, h]
end Go.Proofs.Ytongpnknmgbhjaa
