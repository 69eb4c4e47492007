/-
  A text appended to a list of texts of the call's own, in a region that draws its order.
-/
import Derived.Test.YtnodhkjgnegkcaaGreatDoorWholeC
import Derived.Test.YtnodhkjgnegkcaaGreatDoorExM
import Derived.Test.YtnodhkjgnegkcaaGreatDoorApp
import Derived.Test.YtnodhkjgnegkcaaGreatDoorHeap
import Derived.Lib.AppendZeros
import Derived.Test.YtnodhkjgnegkcaaGreatDoorWholeB
import Derived.Deep.RegionHeld3
import Derived.Test.YtnodhkjgnegkcaaGreatDoorWholeA
import Derived.Test.YtnodhkjgnegkcaaGreatDoorSmsM
import Derived.Deep.QuietTactic
import Derived.BigQuiet
import Derived.Laws.Cover1
import Derived.Outline
import Derived.RangeFuncFrom
import Derived.RangeFuncBox
import Derived.Test.YtnodhkjgnegkcaaGreatDoorRows
import Derived.Test.YtnodhkjgnegkcaaGreatDoorBase
import Derived.Test.YtnodhkjgnegkcaaGreatDoorCmpM
import Derived.Test.YtnodhkjgnegkcaaGreatDoorRdM
import Derived.Sort.Walk0
import Derived.Test.YtnodhkjgnegkcaaGreatDoorStrs
/-
  impl.raised at the third number.
-/
namespace Go.Proofs.YtnodhkjgnegkcaaGreatDoor
open Go.RowKit

theorem strs_z (W : World) (n : Nat) (hn : W.heap.size = n) (x : List UInt8) : Strs (W.alloc (.cells #[.string ⟨x.toArray⟩] 9)) n (.slice (some ⟨n, 0, none⟩) 1 1) [x] := by
  subst hn
  have h := World.ownsRow_lit (base := W.heap.size) (e := 9) (size := 1) W #[.string ⟨x.toArray⟩] 1 (Nat.le_refl _) (by unfold maxLen; omega) (by simp)
  simpa [Strs, sv] using h
theorem sm_zz : Sm [[48]] := ⟨by simp, fun l h => by simp at h; subst h; simp⟩

theorem below_three (w : World) (o1 o2 o3 : Obj) : Below w.heap.size w (((w.alloc o1).alloc o2).alloc o3) := (((Below.refl _ _).alloc (Nat.le_refl _) _).alloc (by simp) _).alloc (by simp; omega) _
theorem clear_none (W : World) (A : Addr) : (Builtin.clear_ #[87] 0 #[.slice (some A) 0 0]).run Tryz.prog W = .ok (.tuple #[]) W := by
  simp [Builtin.clear_, run_underlying Tryz.underlying87]

set_option maxRecDepth 100000 in
set_option maxHeartbeats 4000000 in
theorem raised_any (a b c : Int) (A : Option Addr) (n cap : Nat) (w : World) (ht : Tab w) (hc : 0 ≤ c ∧ c ≤ 999999999) :
    Calls Tryz.prog 239 #[.agg #[.int .i64 a, .int .i64 b, .int .i64 c, .slice A n cap], .int .i64 2] w fun e w' => e = .returned (.string ⟨(verText a b (c + 1) [[48]]).toArray⟩) ∧ Below w.heap.size w w' := by
  have HT := Lib.hid (fun (v : Value) (q : Nat) (W : World) (h : Strs W q v [[48]]) (hb : Below w.heap.size w W) => implVersionText_any a b (c + 1) q v [[48]] W h sm_zz (tab_below ht hb))
  obtain ⟨t, HTT⟩ : ∃ t, Hid (verText a b (c + 1) [[48]] = t) := ⟨_, Lib.hid rfl⟩
  simp only [HTT.out] at HT
  rw [HTT.out]
  clear ht
  have cw : IntKind.i64.wrap (c + 1) = c + 1 := IntWalk.i64_in _ (by omega)
  have hcl := clear_none
  go_enter Tryz.func239, Tryz.ntmps239
  go_wp2_with fail
  refine (HT.out _ (w.heap.size + 1 + 1) _ (strs_z _ _ (by simp) [48]) (below_three _ _ _ _)).mono ?_
  rintro e w5 ⟨rfl, hb5⟩
  go_wp2_with fail
  go_ret
  exact ⟨rfl, (below_three _ _ _ _).trans (hb5.mono (by simp; omega))⟩
end Go.Proofs.YtnodhkjgnegkcaaGreatDoor

/-
  slices.Concat of two rows of texts.
-/
namespace Go.Proofs.YtnodhkjgnegkcaaGreatDoor
open Go.RowKit

set_option maxRecDepth 100000 in
set_option maxHeartbeats 4000000 in
theorem growNil_any (n : Nat) (w : World) (h0 : 0 < n) (hn : n ≤ 4194304) :
    Calls Tryz.prog 109 #[.slice none 0 0, .int .i64 (n : Int)] w fun e w' => ∃ v, e = .returned v ∧ Strs w' w.heap.size v [] ∧ Below w.heap.size w w' := by
  obtain ⟨i0, hi, hz0, hz1, hz2⟩ := info_parts strinfo
  have hr := fun ty => Lib.run_append_nil_zeros (P := Tryz.prog) w 29 3 ty 9 i0 (.string ⟨#[]⟩) .i64 .i64 Tryz.underlying29 Tryz.underlying3 hi hz0 n h0 (by omega) (by omega) (by rw [hz2]; omega)
  have hge := grownCap_ge w n 0 9
  have hle := grownCap_le_maxLen w n 0 9 (by unfold maxLen; omega)
  obtain ⟨G, hG⟩ : ∃ G, grownCap w n 0 9 = G := ⟨_, rfl⟩
  rw [hG] at hge hle
  simp only [hG] at hr
  have hsz : (Builtin.zeroCells (Value.string ⟨#[]⟩).cells n ++ Builtin.zeroCells (Value.string ⟨#[]⟩).cells (G - n)).size = G * 1 := by
    rw [Array.size_append, size_zeroCells, size_zeroCells]
    simp [Value.cells]
    omega
  obtain ⟨C, hC⟩ : ∃ C, Builtin.zeroCells (Value.string ⟨#[]⟩).cells n ++ Builtin.zeroCells (Value.string ⟨#[]⟩).cells (G - n) = C := ⟨_, rfl⟩
  rw [hC] at hsz
  simp only [hC] at hr
  have HO : Hid (Strs (w.drew.alloc (.cells C 9)) w.heap.size (.slice (some ⟨w.heap.size, 0, none⟩) 0 G) []) := Lib.hid (by
    have := World.ownsRow_made (base := w.heap.size) (e := 9) (size := 1) w.drew C G (by simp) hle hsz
    simpa [Strs] using this)
  have HB : Hid (Below w.heap.size w (w.drew.alloc (.cells C 9))) := Lib.hid ((below_drewN _ _ 1).alloc (by simp) _)
  clear hC hsz hG hi hz0 hz1 hz2
  have hm : G ≤ 9223372036854775807 := by unfold maxLen at hle; omega
  have g1 : ¬ ((n : Int) < 0) := by omega
  have g2 : (0 : Int) < (n : Int) := by omega
  have g3 : IntKind.i64.wrap ((n : Int) - 0) = n := by rw [Int.sub_zero]; exact IntWalk.i64_in _ (by omega)
  go_enter Tryz.func109, Tryz.ntmps109
  go_wp2_with (at_builtin; refine Lib.wpList_append_run _ rfl _ _ _ _ rfl _ _ rfl rfl _ _ (hr _) ?_)
  all_goals (go_ret; exact ⟨_, rfl, HO.out, HB.out⟩)

set_option maxRecDepth 100000 in
set_option maxHeartbeats 4000000 in
theorem concat2_any (q : Nat) (v1 v2 : Value) (l1 l2 : List (List UInt8)) (w : World) (e0 : w.cell? ⟨q, 0, none⟩ = some v1) (e1 : w.cell? ⟨q, 1, none⟩ = some v2) (h1 : RdS w v1 l1) (h2 : RdS w v2 l2) (n1 : l1.length ≤ 1048576) (n2 : l2.length ≤ 1048576) (n0 : 0 < l1.length + l2.length) :
    Calls Tryz.prog 56 #[.slice (some ⟨q, 0, none⟩) 2 2] w fun e w' => ∃ v, e = .returned v ∧ Strs w' w.heap.size v (l1 ++ l2) ∧ Below w.heap.size w w' := by
  have H1 := Lib.hid h1
  have H2 := Lib.hid h2
  have HG := Lib.hid (growNil_any (l1.length + l2.length) w n0 (by omega))
  simp only [Int.natCast_add] at HG
  obtain ⟨A1, c1, rfl, _⟩ := h1
  obtain ⟨A2, c2, rfl, _⟩ := h2
  have w1 : IntKind.i64.wrap (0 + (l1.length : Int)) = l1.length := by rw [Int.zero_add]; exact IntWalk.i64_in _ (by omega)
  have w2 : IntKind.i64.wrap ((l1.length : Int) + (l2.length : Int)) = (l1.length : Int) + (l2.length : Int) := IntWalk.i64_in _ (by omega)
  have s1 : ¬ ((l1.length : Int) < 0) := by omega
  have s2 : ¬ ((l1.length : Int) + (l2.length : Int) < 0) := by omega
  go_enter Tryz.func56, Tryz.ntmps56
  go_wp2_with fail
  go_loopw [3, 5, 11] (fun s _ i wr => w = wr ∧ ((i = .int .i64 0 ∧ s = .int .i64 0) ∨ (i = .int .i64 1 ∧ s = .int .i64 l1.length) ∨ (i = .int .i64 2 ∧ s = .int .i64 ((l1.length : Int) + (l2.length : Int))))) (fun _ _ i _ => 2 - (intOf i).toNat)
  case atStart => exact ⟨rfl, .inl ⟨rfl, rfl⟩⟩
  case round =>
    obtain ⟨rfl, ⟨rfl, rfl⟩ | ⟨rfl, rfl⟩ | ⟨rfl, rfl⟩⟩ := hrel
    · go_wp2_with fail
      go_roundw
      case rel => exact ⟨trivial, .inr (.inl ⟨rfl, rfl⟩)⟩
      case measure => simp [intOf]
    · go_wp2_with fail
      go_roundw
      case rel => exact ⟨trivial, .inr (.inr ⟨rfl, rfl⟩)⟩
      case measure => simp [intOf]
    · go_wp2_with fail
      refine HG.out.mono ?_
      rintro e w3 ⟨v, rfl, hS, hb⟩
      go_wp2_with fail
      go_loopw [6, 8, 27] (fun v _ i W => Below w.heap.size w W ∧ ((i = .int .i64 0 ∧ Strs W w.heap.size v []) ∨ (i = .int .i64 1 ∧ Strs W w.heap.size v l1) ∨ (i = .int .i64 2 ∧ Strs W w.heap.size v (l1 ++ l2)))) (fun _ _ i _ => 2 - (intOf i).toNat)
      case atStart => exact ⟨hb, .inl ⟨rfl, hS⟩⟩
      case round =>
        obtain ⟨hbw, hor⟩ := hrel
        have hsz := hbw.size
        have d0 := keepC hbw e0
        have d1 := keepC hbw e1
        have r1 := H1.out.below hbw
        have r2 := H2.out.below hbw
        obtain ⟨rfl, hT⟩ | ⟨rfl, hT⟩ | ⟨rfl, hT⟩ := hor
        · go_wp2_with (at_builtin; refine wpList_append_texts rfl _ _ rfl w.heap.size _ [] rfl hT _ l1 rfl r1 (by simp; omega) hsz ?_; intro v' w5 hS5 hg5)
          have B5 := hbw.grown hg5 hsz (fun g h => hT.owned g h)
          go_roundw
          case rel => exact ⟨B5, .inr (.inl ⟨rfl, hS5⟩)⟩
          case measure => simp [intOf]
        · go_wp2_with (at_builtin; refine wpList_append_texts rfl _ _ rfl w.heap.size _ l1 rfl hT _ l2 rfl r2 (by omega) hsz ?_; intro v' w5 hS5 hg5)
          have B5 := hbw.grown hg5 hsz (fun g h => hT.owned g h)
          go_roundw
          case rel => exact ⟨B5, .inr (.inr ⟨rfl, hS5⟩)⟩
          case measure => simp [intOf]
        · go_wp2_with fail
          go_ret
          exact ⟨_, rfl, hT, hbw⟩
end Go.Proofs.YtnodhkjgnegkcaaGreatDoor

/-
  impl.above: the version below which one is alone.
-/
namespace Go.Proofs.YtnodhkjgnegkcaaGreatDoor
open Go.RowKit

theorem set_grown (w : World) (g k : Nat) (x : Value) : w.grownBy (w.setCell ⟨g, k, none⟩ x) (some g) := ⟨rfl, rfl, rfl, by simp, fun j _ hj => heap_setCell_other w ⟨g, k, none⟩ j x (fun e => hj (by simp [e]))⟩
theorem two_cells {V : World} {B : Nat} {T : TypeId} {v0 v1 : Value} (h : V.heap[B]? = some (.cells #[v0, v1] T)) : V.cell? ⟨B, 0, none⟩ = some v0 ∧ V.cell? ⟨B, 1, none⟩ = some v1 := by simp [World.cell?, h]
/-- What impl.above hands back. -/
def abvL (a b c : Int) (ls : List (List UInt8)) : List UInt8 := if ls = [] then verText a b (c + 1) [[48]] else verText a b c (ls ++ [[48]])

set_option maxRecDepth 100000 in
set_option maxHeartbeats 4000000 in
theorem above_any (a b c : Int) (v : Value) (ls : List (List UInt8)) (w : World) (hr : RdS w v ls) (hv : verOk a b c ls = true) (ht : Tab w) :
    Calls Tryz.prog 206 #[.agg #[.int .i64 a, .int .i64 b, .int .i64 c, v]] w fun e w' => e = .returned (.string ⟨(abvL a b c ls).toArray⟩) ∧ Below w.heap.size w w' := by
  have hn := verOk_num hv
  have HLE := Lib.hid (verOk_len hv)
  have HR := Lib.hid hr
  obtain ⟨A, cap, rfl, _⟩ := hr
  by_cases hz : ls = []
  · subst hz
    have HX := Lib.hid (fun (W : World) (h : Below w.heap.size w W) => raised_any a b c A 0 cap W (tab_below ht h) (by omega))
    have HT : Hid (abvL a b c [] = verText a b (c + 1) [[48]]) := Lib.hid (if_pos rfl)
    rw [HT.out]
    clear ht HR hv hn HLE
    go_enter Tryz.func206, Tryz.ntmps206
    go_wp2_with fail
    refine (HX.out _ ((Below.refl _ _).alloc (Nat.le_refl _) _)).mono ?_
    rintro e w5 ⟨rfl, hb5⟩
    go_wp2_with fail
    go_ret
    exact ⟨rfl, ((Below.refl _ _).alloc (Nat.le_refl _) _).trans (hb5.mono (by simp))⟩
  · have HT : Hid (abvL a b c ls = verText a b c (ls ++ [[48]])) := Lib.hid (if_neg hz)
    rw [HT.out]
    have hpos : 0 < ls.length := List.length_pos_iff.2 hz
    have HV := Lib.hid (fun (u : Value) (q : Nat) (W : World) (h : Strs W q u (ls ++ [[48]])) (hb : Below w.heap.size w W) => implVersionText_any a b c q u (ls ++ [[48]]) W h ⟨by simp; omega, fun x hx => by
      rcases List.mem_append.1 hx with h' | h'
      · have := HLE.out x h'; omega
      · simp at h'; subst h'; simp⟩ (tab_below ht hb))
    obtain ⟨t, HTT⟩ : ∃ t, Hid (verText a b c (ls ++ [[48]]) = t) := ⟨_, Lib.hid rfl⟩
    simp only [HTT.out] at HV
    rw [HTT.out]
    have nz : ((ls.length : Int) == 0) = false := int_beq_false (by omega)
    have B3 := below_three w (.cells #[.int .i64 a, .int .i64 b, .int .i64 c, .slice A ls.length cap] 117) (.cells #[.string ⟨#[48]⟩] 9) (.cells #[.slice A ls.length cap, .slice (some ⟨w.heap.size + 1, 0, none⟩) 1 1] 29)
    have HC := Lib.hid (fun (W : World) (hb : Below w.heap.size w W) (v2 : Value) (e0 : W.cell? ⟨w.heap.size + 1 + 1, 0, none⟩ = some (.slice A ls.length cap)) (e1 : W.cell? ⟨w.heap.size + 1 + 1, 1, none⟩ = some v2) (h2 : RdS W v2 [[48]]) => concat2_any (w.heap.size + 1 + 1) _ v2 ls [[48]] W e0 e1 (HR.out.below hb) h2 (by omega) (by simp) (by simp))
    have hne : ls ++ [[48]] ≠ [] := by simp
    clear ht hz hv hn HLE HR HTT
    generalize ls ++ [[48]] = L at HV HC hne
    go_enter Tryz.func206, Tryz.ntmps206
    go_wp2_with fail
    refine (HC.out _ B3 (.slice (some ⟨w.heap.size + 1, 0, none⟩) 1 1) (two_cells (heap_new (by simp) _)).1 (two_cells (heap_new (by simp) _)).2 (rdS_alloc (RdS.of_strs (strs_z _ _ (by simp) [48])) _)).mono ?_
    rintro e w5 ⟨u, rfl, hS, hb5⟩
    have B5 := B3.trans (hb5.mono (by simp; omega))
    obtain ⟨g, cp, rfl, hbg, hlt⟩ : ∃ g cp, u = .slice (some ⟨g, 0, none⟩) L.length cp ∧ w.heap.size + 1 + 1 < g ∧ g < w5.heap.size := by
      rcases hS.form with ⟨_, h⟩ | ⟨g, cp, h1, h2, h3⟩
      · exact absurd h hne
      · exact ⟨g, cp, h1, by simp at h2; omega, h3⟩
    have n5 : w5.heap[w.heap.size]? = some (.cells #[.int .i64 a, .int .i64 b, .int .i64 c, .slice A ls.length cap] 117) := keepB (keepA (keepA (heap_alloc_new w _) _) _) hb5
    obtain ⟨q0, q1, q2, q3⟩ := cells4 n5
    have f3 := frozen4 n5 3
    have hs5 : w.heap.size < w5.heap.size := lt_of_heap n5
    have HS6 : Hid (Strs (w5.setCell ⟨w.heap.size, 3, none⟩ (.slice (some ⟨g, 0, none⟩) L.length cp)) _ (.slice (some ⟨g, 0, none⟩) L.length cp) L) := Lib.hid (World.ownsRow.kept hS (set_grown w5 w.heap.size 3 _) (by right; simp [Value.ownBlock]; omega))
    have B6 := B5.setCell (p := ⟨w.heap.size, 3, none⟩) (Nat.le_refl _) (.slice (some ⟨g, 0, none⟩) L.length cp)
    clear hS hb5 B5
    go_wp2_with fail
    refine (HV.out _ _ _ HS6.out B6).mono ?_
    rintro e w7 ⟨rfl, hb7⟩
    go_wp2_with fail
    go_ret
    exact ⟨rfl, B6.trans (hb7.mono (by simp; omega))⟩
end Go.Proofs.YtnodhkjgnegkcaaGreatDoor

/-
  impl.readFrom with impl.above, impl.Exact.
-/
namespace Go.Proofs.YtnodhkjgnegkcaaGreatDoor
open Go.RowKit

theorem readV_any (l : List UInt8) (W : World) (hl : l.length ≤ 1048576) : Calls Tryz.prog 199 #[.string ⟨l.toArray⟩] W (ReadIs W l) := implReadVersion_any ⟨l.toArray⟩ W (by rw [size_of]; exact hl)
theorem frozen2 {V : World} {B : Nat} {T : TypeId} {v0 v1 : Value} (h : V.heap[B]? = some (.cells #[v0, v1] T)) (o : Nat) : V.frozen? ⟨B, o, none⟩ = false := by
  simp [World.frozen?, h]
theorem below_res2 {n R : Nat} {W V : World} (h : Below n W V) (hR : n ≤ R) (x0 x1 : Value) : Below n W ((V.setCell ⟨R, 0, none⟩ x0).setCell ⟨R, 1, none⟩ x1) := (h.setCell (p := ⟨R, 0, none⟩) hR _).setCell (p := ⟨R, 1, none⟩) hR _
theorem set2_heap {V : World} {B : Nat} {T : TypeId} {v0 v1 : Value} (h : V.heap[B]? = some (.cells #[v0, v1] T)) (x0 x1 : Value) : ((V.setCell ⟨B, 0, none⟩ x0).setCell ⟨B, 1, none⟩ x1).heap[B]? = some (.cells #[x0, x1] T) := by
  have h1 := Lib.heap_setCell_same (i := 0) h x0
  have h2 := Lib.heap_setCell_same (i := 1) h1 x1
  simpa using h2
theorem sm_readPP (l : List UInt8) : Sm (readP l) := by
  have h5 := readP_sm l
  refine ⟨by omega, fun x hx => ?_⟩
  unfold readP at hx
  split at hx
  · rename_i h
    have hv := read_ver h
    have : readP l = tailL l := by simp [readP, h]
    rw [← this] at hx
    have := verOk_len hv x hx
    omega
  · cases hx
theorem cell_far2 {V : World} {B q o : Nat} (h : B ≠ q) (x y : Value) : ((V.setCell ⟨q, 0, none⟩ x).setCell ⟨q, 1, none⟩ y).cell? ⟨B, o, none⟩ = V.cell? ⟨B, o, none⟩ := by
  have e1 := heap_setCell_other V ⟨q, 0, none⟩ B x h
  have e2 := heap_setCell_other (V.setCell ⟨q, 0, none⟩ x) ⟨q, 1, none⟩ B y h
  simp only [World.cell?, e2, e1]
theorem heap_far2 {V : World} {B q : Nat} (h : B ≠ q) (x y : Value) : ((V.setCell ⟨q, 0, none⟩ x).setCell ⟨q, 1, none⟩ y).heap[B]? = V.heap[B]? :=
  (heap_setCell_other (V.setCell ⟨q, 0, none⟩ x) ⟨q, 1, none⟩ B y h).trans (heap_setCell_other V ⟨q, 0, none⟩ B x h)
theorem abv_high {l : List UInt8} : abvL (readA l 0) (readA l 1) (readA l 2) (readP l) = exHigh l := rfl

set_option maxRecDepth 100000 in
set_option maxHeartbeats 4000000 in
theorem readFrom_no (l : List UInt8) (w : World) (hl : l.length ≤ 1048576) (hok : readOk l = false) :
    Calls Tryz.prog 205 #[.string ⟨l.toArray⟩, .func (.func 206) #[] #[]] w fun e w' => e = .returned (.tuple #[.agg #[.string ⟨#[]⟩, .string ⟨#[]⟩], .bool false]) ∧ Below w.heap.size w w' := by
  have HR := Lib.hid (fun W => readV_any l W hl)
  have B0 : Below w.heap.size w (w.alloc (.cells #[.string ⟨#[]⟩, .string ⟨#[]⟩] 166)) := (Below.refl _ _).alloc (Nat.le_refl _) _
  have r0 := heap_alloc_new w (.cells #[.string ⟨#[]⟩, .string ⟨#[]⟩] 166)
  go_enter Tryz.func205, Tryz.ntmps205
  go_wp2_with fail
  refine (HR.out _).mono ?_
  rintro e w2 ⟨u, rfl, hS, hb⟩
  rw [hok]
  obtain ⟨U, uc, rfl, _⟩ := RdS.of_strs hS
  have B1 := B0.trans (hb.mono (by simp))
  have r1 := keepB r0 hb
  clear hS hb B0 r0
  obtain ⟨c0, c1⟩ := two_cells r1
  have f0 := frozen2 r1 0
  have f1 := frozen2 r1 1
  have hs1 := lt_of_heap r1
  have B2 := (below_res2 B1 (Nat.le_refl _) (.string ⟨#[]⟩) (.string ⟨#[]⟩)).alloc (by simp; omega) (.cells #[.int .i64 (readA l 0), .int .i64 (readA l 1), .int .i64 (readA l 2), .slice U (readP l).length uc] 117)
  obtain ⟨y0, y1⟩ := two_cells (keepA (set2_heap r1 (.string ⟨#[]⟩) (.string ⟨#[]⟩)) (.cells #[.int .i64 (readA l 0), .int .i64 (readA l 1), .int .i64 (readA l 2), .slice U (readP l).length uc] 117))
  go_wp2_with fail
  refine bodyPost_ret (v := .tuple #[.agg #[.string ⟨#[]⟩, .string ⟨#[]⟩], .bool false]) ?_ rfl ⟨rfl, B2⟩
  simp [results, Tryz.results205, go_sem, y0, y1]

set_option maxRecDepth 100000 in
set_option maxHeartbeats 4000000 in
theorem readFrom_yes (l : List UInt8) (w : World) (hl : l.length ≤ 1048576) (hok : readOk l = true) (ht : Tab w) :
    Calls Tryz.prog 205 #[.string ⟨l.toArray⟩, .func (.func 206) #[] #[]] w fun e w' => e = .returned (.tuple #[.agg #[.string ⟨l.toArray⟩, .string ⟨(exHigh l).toArray⟩], .bool (!(exHigh l).isEmpty)]) ∧ Below w.heap.size w w' := by
  have HR := Lib.hid (fun W => readV_any l W hl)
  have B0 : Below w.heap.size w (w.alloc (.cells #[.string ⟨#[]⟩, .string ⟨#[]⟩] 166)) := (Below.refl _ _).alloc (Nat.le_refl _) _
  have r0 := heap_alloc_new w (.cells #[.string ⟨#[]⟩, .string ⟨#[]⟩] 166)
  obtain ⟨h, HH⟩ : ∃ h, Hid (exHigh l = h) := ⟨_, Lib.hid rfl⟩
  rw [HH.out]
  have HRV := Lib.hid (read_ver hok)
  have HRB := Lib.hid (read_back hok)
  have HSM := Lib.hid (sm_readPP l)
  go_enter Tryz.func205, Tryz.ntmps205
  go_wp2_with fail
  refine (HR.out _).mono ?_
  rintro e w2 ⟨u, rfl, hS, hb⟩
  rw [hok]
  have hrd := RdS.of_strs hS
  have B1 := B0.trans (hb.mono (by simp))
  have HV := Lib.hid (fun (W : World) (h : Below w2.heap.size w2 W) => implVersionText_any (readA l 0) (readA l 1) (readA l 2) _ u (readP l) W (hS.below h) HSM.out (tab_below (tab_below ht B1) h))
  have HA := Lib.hid (fun (W : World) (h : Below w2.heap.size w2 W) => above_any (readA l 0) (readA l 1) (readA l 2) u (readP l) W (hrd.below h) HRV.out (tab_below (tab_below ht B1) h))
  rw [abv_high, HH.out] at HA
  rw [HRB.out] at HV
  obtain ⟨U, uc, rfl, _⟩ := hrd
  have r1 := keepB r0 hb
  clear hS hb B0 r0 ht hok HRV HRB HSM
  have hs1 := lt_of_heap r1
  have BV : Below w2.heap.size w2 ((w2.alloc (.cells #[.int .i64 (readA l 0), .int .i64 (readA l 1), .int .i64 (readA l 2), .slice U (readP l).length uc] 117)).drew) := ((Below.refl _ _).alloc (Nat.le_refl _) _).trans (below_drewN _ _ 1)
  have r2 := keepA r1 (.cells #[.int .i64 (readA l 0), .int .i64 (readA l 1), .int .i64 (readA l 2), .slice U (readP l).length uc] 117)
  have v2 := heap_alloc_new w2 (.cells #[.int .i64 (readA l 0), .int .i64 (readA l 1), .int .i64 (readA l 2), .slice U (readP l).length uc] 117)
  obtain ⟨p0, p1, p2, p3⟩ := cells4 v2
  go_wp2_with fail
  have BW : Below w2.heap.size w2 (((w2.alloc (.cells #[.int .i64 (readA l 0), .int .i64 (readA l 1), .int .i64 (readA l 2), .slice U (readP l).length uc] 117)).alloc (.cells #[.string ⟨#[]⟩, .string ⟨#[]⟩] 166)).drew) := (((Below.refl _ _).alloc (Nat.le_refl _) _).alloc (by simp) _).trans (below_drewN _ _ 1)
  go_region_held3 (fun W => W.cell? ⟨w2.heap.size, 0, none⟩ = some (.int .i64 (readA l 0)) ∧ W.cell? ⟨w2.heap.size, 1, none⟩ = some (.int .i64 (readA l 1)) ∧ W.cell? ⟨w2.heap.size, 2, none⟩ = some (.int .i64 (readA l 2)) ∧ W.cell? ⟨w2.heap.size, 3, none⟩ = some (.slice U (readP l).length uc)) (first | exact ⟨p0, p1, p2, p3⟩ | exact ⟨(cell_far2 hq _ _).trans p0, (cell_far2 hq _ _).trans p1, (cell_far2 hq _ _).trans p2, (cell_far2 hq _ _).trans p3⟩ | go_keep) ((first
    | (go_at_call 253; (with_reducible refine (HV.out _ BV).mono ?_); rintro e w5 ⟨rfl, hb5⟩; have B5 := BV.trans (hb5.mono BV.size); have v5 := (keepB (W := (w2.alloc (.cells #[.int .i64 (readA l 0), .int .i64 (readA l 1), .int .i64 (readA l 2), .slice U (readP l).length uc] 117)).drew) v2 hb5); have r5 := (keepB (W := (w2.alloc (.cells #[.int .i64 (readA l 0), .int .i64 (readA l 1), .int .i64 (readA l 2), .slice U (readP l).length uc] 117)).drew) r2 hb5); obtain ⟨p0, p1, p2, p3⟩ := cells4 v5)
    | (go_at_call 206; (with_reducible refine (HA.out _ B5).mono ?_); rintro e w7 ⟨rfl, hb7⟩; have z7 := keepB z5 hb7; obtain ⟨z0, z1⟩ := two_cells z7; have g0 := frozen2 z7 0; have g1 := frozen2 z7 1; have hq : w2.heap.size ≠ w2.heap.size + 1 := Nat.ne_of_lt (Nat.lt_succ_self _); have B7 := B5.trans (hb7.mono B5.size); have v7 := keepB v5 hb7; have r7 := keepB r5 hb7; obtain ⟨p0, p1, p2, p3⟩ := cells4 v7)
    | (go_at_call 206; (with_reducible refine (HA.out _ B5).mono ?_); rintro e w7 ⟨rfl, hb7⟩; have B7 := B5.trans (hb7.mono B5.size); have v7 := keepB v5 hb7; have r7 := keepB r5 hb7; obtain ⟨p0, p1, p2, p3⟩ := cells4 v7)
    | (go_at_call 206; (with_reducible refine (HA.out _ (B5.alloc B5.size _)).mono ?_); rintro e w7 ⟨rfl, hb7⟩; have B7 := (B5.alloc B5.size (.cells #[.string ⟨#[]⟩, .string ⟨#[]⟩] 166)).trans (hb7.mono (B5.alloc B5.size (.cells #[.string ⟨#[]⟩, .string ⟨#[]⟩] 166)).size); have v5 := keepA v5 (.cells #[.string ⟨#[]⟩, .string ⟨#[]⟩] 166); have r5 := keepA r5 (.cells #[.string ⟨#[]⟩, .string ⟨#[]⟩] 166); have z7 := keepB (heap_alloc_new w5 _) hb7; obtain ⟨z0, z1⟩ := two_cells z7; have g0 := frozen2 z7 0; have g1 := frozen2 z7 1; have hq : w2.heap.size ≠ w5.heap.size := Nat.ne_of_lt (lt_of_heap (keepB (W := (w2.alloc (.cells #[.int .i64 (readA l 0), .int .i64 (readA l 1), .int .i64 (readA l 2), .slice U (readP l).length uc] 117)).drew) v2 hb5)); have v7 := keepB v5 hb7; have r7 := keepB r5 hb7; obtain ⟨p0, p1, p2, p3⟩ := cells4 v7)
    | (go_at_call 253; (with_reducible refine (HV.out _ BW).mono ?_); rintro e w5 ⟨rfl, hb5⟩; have B5 := BW.trans (hb5.mono BW.size); have v5 := (keepB (W := ((w2.alloc (.cells #[.int .i64 (readA l 0), .int .i64 (readA l 1), .int .i64 (readA l 2), .slice U (readP l).length uc] 117)).alloc (.cells #[.string ⟨#[]⟩, .string ⟨#[]⟩] 166)).drew) (keepA v2 (.cells #[.string ⟨#[]⟩, .string ⟨#[]⟩] 166)) hb5); have r5 := (keepB (W := ((w2.alloc (.cells #[.int .i64 (readA l 0), .int .i64 (readA l 1), .int .i64 (readA l 2), .slice U (readP l).length uc] 117)).alloc (.cells #[.string ⟨#[]⟩, .string ⟨#[]⟩] 166)).drew) (keepA r2 (.cells #[.string ⟨#[]⟩, .string ⟨#[]⟩] 166)) hb5); have z5 : w5.heap[w2.heap.size + 1]? = some (.cells #[.string ⟨#[]⟩, .string ⟨#[]⟩] 166) := keepB (W := ((w2.alloc (.cells #[.int .i64 (readA l 0), .int .i64 (readA l 1), .int .i64 (readA l 2), .slice U (readP l).length uc] 117)).alloc (.cells #[.string ⟨#[]⟩, .string ⟨#[]⟩] 166)).drew) (heap_new (W := (w2.alloc (.cells #[.int .i64 (readA l 0), .int .i64 (readA l 1), .int .i64 (readA l 2), .slice U (readP l).length uc] 117))) (by simp) _) hb5; obtain ⟨p0, p1, p2, p3⟩ := cells4 v5)))
  · have zz := heap_alloc_new w7 (.cells #[.string ⟨l.toArray⟩, .string ⟨h.toArray⟩] 166)
    have rr := keepA r7 (.cells #[.string ⟨l.toArray⟩, .string ⟨h.toArray⟩] 166)
    have hQR : w7.heap.size ≠ w.heap.size := by have := lt_of_heap r7; omega
    have BB : Below w.heap.size w (w7.alloc (.cells #[.string ⟨l.toArray⟩, .string ⟨h.toArray⟩] 166)) := (B1.trans (B7.mono B1.size)).alloc (by have := lt_of_heap r7; omega) _
    generalize w7.alloc (.cells #[.string ⟨l.toArray⟩, .string ⟨h.toArray⟩] 166) = W8 at zz rr BB ⊢
    generalize w7.heap.size = Q at zz hQR ⊢
    clear p0 p1 p2 p3 v7 r7 B7 hb7 v5 r5 B5 hb5 HV HA BV BW v2 r2
    by_cases hh : h = []
    · subst hh
      obtain ⟨z0, z1⟩ := two_cells zz
      obtain ⟨y0, y1⟩ := two_cells rr
      have f0 := frozen2 rr 0
      have f1 := frozen2 rr 1
      go_wp2_with fail
      go_region
      all_goals go_wp2_with fail
      all_goals
        obtain ⟨x0, x1⟩ := two_cells (V := ((W8.setCell ⟨w.heap.size, 0, none⟩ (.string ⟨l.toArray⟩)).setCell ⟨w.heap.size, 1, none⟩ (.string ⟨#[]⟩)).drew) (set2_heap rr (.string ⟨l.toArray⟩) (.string ⟨#[]⟩))
        refine bodyPost_ret (v := .tuple #[.agg #[.string ⟨l.toArray⟩, .string ⟨#[]⟩], .bool false]) ?_ rfl ⟨rfl, (below_res2 BB (Nat.le_refl _) (.string ⟨l.toArray⟩) (.string ⟨#[]⟩)).trans (below_drewN _ _ 1)⟩
        simp [results, Tryz.results205, go_sem, x0, x1]
    · have n1 : (h == []) = false := by simpa using hh
      have n2 : (h != []) = true := by simpa using hh
      have HE : Hid (Ending.returned (.tuple #[.agg #[.string ⟨l.toArray⟩, .string ⟨h.toArray⟩], .bool true]) = Ending.returned (.tuple #[.agg #[.string ⟨l.toArray⟩, .string ⟨h.toArray⟩], .bool (!h.isEmpty)])) := Lib.hid (by cases h with | nil => exact absurd rfl hh | cons x y => rfl)
      clear hh
      obtain ⟨z0, z1⟩ := two_cells zz
      obtain ⟨y0, y1⟩ := two_cells rr
      have f0 := frozen2 rr 0
      have f1 := frozen2 rr 1
      go_wp2_with fail
      go_region
      all_goals go_wp2_with fail
      all_goals
        obtain ⟨x0, x1⟩ := two_cells (V := ((W8.setCell ⟨w.heap.size, 0, none⟩ (.string ⟨l.toArray⟩)).setCell ⟨w.heap.size, 1, none⟩ (.string ⟨h.toArray⟩)).drew) (set2_heap rr (.string ⟨l.toArray⟩) (.string ⟨h.toArray⟩))
        refine bodyPost_ret (v := .tuple #[.agg #[.string ⟨l.toArray⟩, .string ⟨h.toArray⟩], .bool true]) ?_ rfl ⟨HE.out, (below_res2 BB (Nat.le_refl _) (.string ⟨l.toArray⟩) (.string ⟨h.toArray⟩)).trans (below_drewN _ _ 1)⟩
        simp [results, Tryz.results205, go_sem, x0, x1]
  · have zz := set2_heap z7 (.string ⟨l.toArray⟩) (.string ⟨h.toArray⟩)
    have hQR : w5.heap.size ≠ w.heap.size := by have := lt_of_heap (keepB (W := (w2.alloc (.cells #[.int .i64 (readA l 0), .int .i64 (readA l 1), .int .i64 (readA l 2), .slice U (readP l).length uc] 117)).drew) r2 hb5); omega
    have rr := (heap_far2 hQR.symm (.string ⟨l.toArray⟩) (.string ⟨h.toArray⟩)).trans r7
    have BB : Below w.heap.size w ((w7.setCell ⟨w5.heap.size, 0, none⟩ (.string ⟨l.toArray⟩)).setCell ⟨w5.heap.size, 1, none⟩ (.string ⟨h.toArray⟩)) := below_res2 (B1.trans (B7.mono B1.size)) (by have := lt_of_heap (keepB (W := (w2.alloc (.cells #[.int .i64 (readA l 0), .int .i64 (readA l 1), .int .i64 (readA l 2), .slice U (readP l).length uc] 117)).drew) r2 hb5); omega) _ _
    generalize (w7.setCell ⟨w5.heap.size, 0, none⟩ (.string ⟨l.toArray⟩)).setCell ⟨w5.heap.size, 1, none⟩ (.string ⟨h.toArray⟩) = W8 at zz rr BB ⊢
    generalize w5.heap.size = Q at zz hQR ⊢
    clear p0 p1 p2 p3 v7 r7 B7 hb7 v5 r5 B5 hb5 HV HA BV BW v2 r2
    by_cases hh : h = []
    · subst hh
      obtain ⟨z0, z1⟩ := two_cells zz
      obtain ⟨y0, y1⟩ := two_cells rr
      have f0 := frozen2 rr 0
      have f1 := frozen2 rr 1
      go_wp2_with fail
      go_region
      all_goals go_wp2_with fail
      all_goals
        obtain ⟨x0, x1⟩ := two_cells (V := ((W8.setCell ⟨w.heap.size, 0, none⟩ (.string ⟨l.toArray⟩)).setCell ⟨w.heap.size, 1, none⟩ (.string ⟨#[]⟩)).drew) (set2_heap rr (.string ⟨l.toArray⟩) (.string ⟨#[]⟩))
        refine bodyPost_ret (v := .tuple #[.agg #[.string ⟨l.toArray⟩, .string ⟨#[]⟩], .bool false]) ?_ rfl ⟨rfl, (below_res2 BB (Nat.le_refl _) (.string ⟨l.toArray⟩) (.string ⟨#[]⟩)).trans (below_drewN _ _ 1)⟩
        simp [results, Tryz.results205, go_sem, x0, x1]
    · have n1 : (h == []) = false := by simpa using hh
      have n2 : (h != []) = true := by simpa using hh
      have HE : Hid (Ending.returned (.tuple #[.agg #[.string ⟨l.toArray⟩, .string ⟨h.toArray⟩], .bool true]) = Ending.returned (.tuple #[.agg #[.string ⟨l.toArray⟩, .string ⟨h.toArray⟩], .bool (!h.isEmpty)])) := Lib.hid (by cases h with | nil => exact absurd rfl hh | cons x y => rfl)
      clear hh
      obtain ⟨z0, z1⟩ := two_cells zz
      obtain ⟨y0, y1⟩ := two_cells rr
      have f0 := frozen2 rr 0
      have f1 := frozen2 rr 1
      go_wp2_with fail
      go_region
      all_goals go_wp2_with fail
      all_goals
        obtain ⟨x0, x1⟩ := two_cells (V := ((W8.setCell ⟨w.heap.size, 0, none⟩ (.string ⟨l.toArray⟩)).setCell ⟨w.heap.size, 1, none⟩ (.string ⟨h.toArray⟩)).drew) (set2_heap rr (.string ⟨l.toArray⟩) (.string ⟨h.toArray⟩))
        refine bodyPost_ret (v := .tuple #[.agg #[.string ⟨l.toArray⟩, .string ⟨h.toArray⟩], .bool true]) ?_ rfl ⟨HE.out, (below_res2 BB (Nat.le_refl _) (.string ⟨l.toArray⟩) (.string ⟨h.toArray⟩)).trans (below_drewN _ _ 1)⟩
        simp [results, Tryz.results205, go_sem, x0, x1]
  · have zz := set2_heap z7 (.string ⟨l.toArray⟩) (.string ⟨h.toArray⟩)
    have hQR : (w2.heap.size + 1) ≠ w.heap.size := by omega
    have rr := (heap_far2 hQR.symm (.string ⟨l.toArray⟩) (.string ⟨h.toArray⟩)).trans r7
    have BB : Below w.heap.size w ((w7.setCell ⟨(w2.heap.size + 1), 0, none⟩ (.string ⟨l.toArray⟩)).setCell ⟨(w2.heap.size + 1), 1, none⟩ (.string ⟨h.toArray⟩)) := below_res2 (B1.trans (B7.mono B1.size)) (by omega) _ _
    generalize (w7.setCell ⟨(w2.heap.size + 1), 0, none⟩ (.string ⟨l.toArray⟩)).setCell ⟨(w2.heap.size + 1), 1, none⟩ (.string ⟨h.toArray⟩) = W8 at zz rr BB ⊢
    generalize w2.heap.size + 1 = Q at zz hQR ⊢
    clear p0 p1 p2 p3 v7 r7 B7 hb7 v5 r5 B5 hb5 HV HA BV BW v2 r2
    by_cases hh : h = []
    · subst hh
      obtain ⟨z0, z1⟩ := two_cells zz
      obtain ⟨y0, y1⟩ := two_cells rr
      have f0 := frozen2 rr 0
      have f1 := frozen2 rr 1
      go_wp2_with fail
      go_region
      all_goals go_wp2_with fail
      all_goals
        obtain ⟨x0, x1⟩ := two_cells (V := ((W8.setCell ⟨w.heap.size, 0, none⟩ (.string ⟨l.toArray⟩)).setCell ⟨w.heap.size, 1, none⟩ (.string ⟨#[]⟩)).drew) (set2_heap rr (.string ⟨l.toArray⟩) (.string ⟨#[]⟩))
        refine bodyPost_ret (v := .tuple #[.agg #[.string ⟨l.toArray⟩, .string ⟨#[]⟩], .bool false]) ?_ rfl ⟨rfl, (below_res2 BB (Nat.le_refl _) (.string ⟨l.toArray⟩) (.string ⟨#[]⟩)).trans (below_drewN _ _ 1)⟩
        simp [results, Tryz.results205, go_sem, x0, x1]
    · have n1 : (h == []) = false := by simpa using hh
      have n2 : (h != []) = true := by simpa using hh
      have HE : Hid (Ending.returned (.tuple #[.agg #[.string ⟨l.toArray⟩, .string ⟨h.toArray⟩], .bool true]) = Ending.returned (.tuple #[.agg #[.string ⟨l.toArray⟩, .string ⟨h.toArray⟩], .bool (!h.isEmpty)])) := Lib.hid (by cases h with | nil => exact absurd rfl hh | cons x y => rfl)
      clear hh
      obtain ⟨z0, z1⟩ := two_cells zz
      obtain ⟨y0, y1⟩ := two_cells rr
      have f0 := frozen2 rr 0
      have f1 := frozen2 rr 1
      go_wp2_with fail
      go_region
      all_goals go_wp2_with fail
      all_goals
        obtain ⟨x0, x1⟩ := two_cells (V := ((W8.setCell ⟨w.heap.size, 0, none⟩ (.string ⟨l.toArray⟩)).setCell ⟨w.heap.size, 1, none⟩ (.string ⟨h.toArray⟩)).drew) (set2_heap rr (.string ⟨l.toArray⟩) (.string ⟨h.toArray⟩))
        refine bodyPost_ret (v := .tuple #[.agg #[.string ⟨l.toArray⟩, .string ⟨h.toArray⟩], .bool true]) ?_ rfl ⟨HE.out, (below_res2 BB (Nat.le_refl _) (.string ⟨l.toArray⟩) (.string ⟨h.toArray⟩)).trans (below_drewN _ _ 1)⟩
        simp [results, Tryz.results205, go_sem, x0, x1]
end Go.Proofs.YtnodhkjgnegkcaaGreatDoor

/-
  impl.Exact: the bound of one version alone.
-/
namespace Go.Proofs.YtnodhkjgnegkcaaGreatDoor
open Go.RowKit

set_option maxRecDepth 100000 in
set_option maxHeartbeats 4000000 in
theorem implExact_any (l : List UInt8) (w : World) (hl : l.length ≤ 1048576) (ht : Tab w) : Calls Tryz.prog 162 #[.string ⟨l.toArray⟩] w (ExactIs w l) := by
  cases hok : readOk l with
  | false =>
    have HA := Lib.hid (readFrom_no l w hl hok)
    have HX := Lib.hid (exB_no (exOk_bad hok))
    clear hok ht
    go_enter Tryz.func162, Tryz.ntmps162
    go_wp2_with fail
    refine HA.out.mono ?_
    rintro e w1 ⟨rfl, hb1⟩
    go_wp2_with fail
    go_ret
    refine ⟨w1.heap.size + 1, by rw [HX.out]; rfl, by have := hb1.size; omega, ?_, (hb1.alloc hb1.size _).alloc (by have := hb1.size; simp; omega) _⟩
    rw [HX.out]
    exact heap_new (by simp) _
  | true =>
    have HA := Lib.hid (readFrom_yes l w hl hok ht)
    have ho := exOk_of hok
    obtain ⟨hi, HHI⟩ : ∃ hi, Hid (exHigh l = hi) := ⟨_, Lib.hid rfl⟩
    have HY := Lib.hid (fun h => (exB_yes (l := l) h))
    have HN := Lib.hid (fun h => (exB_no (l := l) h))
    rw [HHI.out] at HA ho HY
    clear hok ht
    cases he : hi.isEmpty with
    | true =>
      have HX := Lib.hid (HN.out (by rw [ho, he]; rfl))
      rw [he] at HA
      clear he ho HY HN
      go_enter Tryz.func162, Tryz.ntmps162
      go_wp2_with fail
      refine HA.out.mono ?_
      rintro e w1 ⟨rfl, hb1⟩
      go_wp2_with fail
      go_ret
      refine ⟨w1.heap.size + 1, by rw [HX.out]; rfl, by have := hb1.size; omega, ?_, (hb1.alloc hb1.size _).alloc (by have := hb1.size; simp; omega) _⟩
      rw [HX.out]
      exact heap_new (by simp) _
    | false =>
      have HX := Lib.hid (HY.out (by rw [ho, he]; rfl))
      rw [he] at HA
      clear he ho HY HN
      go_enter Tryz.func162, Tryz.ntmps162
      go_wp2_with fail
      refine HA.out.mono ?_
      rintro e w1 ⟨rfl, hb1⟩
      go_wp2_with fail
      go_ret
      refine ⟨w1.heap.size + 1, by rw [HX.out]; rfl, by have := hb1.size; omega, ?_, (hb1.alloc hb1.size _).alloc (by have := hb1.size; simp; omega) _⟩
      rw [HX.out]
      exact heap_new (by simp) _
end Go.Proofs.YtnodhkjgnegkcaaGreatDoor

/-
  impl.sumsOk: whether sums are right.
-/
namespace Go.Proofs.YtnodhkjgnegkcaaGreatDoor
open Go.RowKit

set_option maxRecDepth 100000 in
theorem sumSize_any (a : List UInt8) (w : World) : Calls Tryz.prog 195 #[.string ⟨a.toArray⟩] w fun e w' => e = .returned (.int .i64 (sizeI a)) ∧ w = w' := by
  by_cases h1 : a = sha1L
  · subst h1
    go_enter Tryz.func195, Tryz.ntmps195
    go_wp2
    go_ret
    exact ⟨rfl, rfl⟩
  · by_cases h2 : a = sha256L
    · subst h2
      go_enter Tryz.func195, Tryz.ntmps195
      go_wp2
      go_ret
      exact ⟨rfl, rfl⟩
    · by_cases h0 : a = h1L
      · subst h0
        go_enter Tryz.func195, Tryz.ntmps195
        go_wp2
        go_ret
        exact ⟨rfl, rfl⟩
      · by_cases h3 : a = sha512L
        · subst h3
          go_enter Tryz.func195, Tryz.ntmps195
          go_wp2
          go_ret
          exact ⟨rfl, rfl⟩
        · have HX : Hid (sizeI a = 0) := Lib.hid (by unfold sizeI longI; rw [if_neg h1, if_neg h2, if_neg h0, if_neg h3]; rfl)
          have q1 : (a == [115, 104, 97, 49]) = false := by simpa [sha1L] using h1
          have q2 : (a == [115, 104, 97, 50, 53, 54]) = false := by simpa [sha256L] using h2
          have q3 : (a == [104, 49]) = false := by simpa [h1L] using h0
          have q4 : (a == [115, 104, 97, 53, 49, 50]) = false := by simpa [sha512L] using h3
          clear h1 h2 h0 h3
          go_enter Tryz.func195, Tryz.ntmps195
          go_wp2
          go_ret
          exact ⟨ret_int HX.out.symm, rfl⟩

set_option maxRecDepth 100000 in
set_option maxHeartbeats 4000000 in
theorem sumsOkG_any (v : Value) (bs : List Bd) (w : World) (ha : RdB w v bs) (hn : bs.length ≤ 1048577) (hsm : ∀ b ∈ bs, b.2.length ≤ 1048577) :
    Calls Tryz.prog 151 #[v] w fun e w' => e = .returned (.bool (sumsOkL bs)) ∧ Below w.heap.size w w' := by
  have HA := Lib.hid ha
  have HSM := Lib.hid hsm
  obtain ⟨A, ca, rfl, _⟩ := ha
  obtain ⟨r, HR⟩ : ∃ r, Hid (sumsOkL bs = r) := ⟨_, Lib.hid rfl⟩
  rw [HR.out]
  clear hsm
  go_enter Tryz.func151, Tryz.ntmps151
  go_wp2_with fail
  go_loopw [3, 4, 5, 8] (fun _ _ _ i wr => ∃ k : Nat, k ≤ bs.length ∧ i = .int .i64 k ∧ Hid (sumsTo bs k = true) ∧ Below w.heap.size w wr) (fun _ _ _ i _ => bs.length - (intOf i).toNat)
  case atStart => exact ⟨0, Nat.zero_le _, rfl, Lib.hid rfl, Below.refl _ _⟩
  case round =>
    obtain ⟨k, hk, rfl, HT, hbr⟩ := hrel
    by_cases hlt : k < bs.length
    · have k0 : (0 : Int) ≤ (k : Int) := by omega
      have k1 : (k : Int) < (bs.length : Int) := by omega
      have hbl : bs[k].2.length ≤ 1048577 := HSM.out bs[k] (List.getElem_mem hlt)
      obtain ⟨g, off, rfl, hgl, d1, d2⟩ := (HA.out.below hbr).at k hlt
      have HL := Lib.hid (fun W => sumSize_any bs[k].1 W)
      have hlb := longI_bd bs[k].1
      have HQ := Lib.hid (fun (h : sumAt bs k = false) => (show r = false by rw [← HR.out, sums_bad hlt h]))
      have HSB := Lib.hid (size_bad (a := bs[k].1))
      have HSG := Lib.hid (size_good (a := bs[k].1))
      obtain ⟨u, HU⟩ : ∃ u, Hid (longI bs[k].1 = u) := ⟨_, Lib.hid rfl⟩
      obtain ⟨sz, HSZ⟩ : ∃ u, Hid (sizeI bs[k].1 = u) := ⟨_, Lib.hid rfl⟩
      simp only [HSZ.out] at HL
      rw [HU.out] at hlb
      rw [HSZ.out, HU.out] at HSB HSG
      have HZ0 := Lib.hid (fun (h : k = 0) => (show sumAt bs k = decide (u = (bs[k].2.length : Int)) by subst h; rw [← HU.out]; exact sumAt_zero hlt))
      have HZ1 := Lib.hid (fun (j : Nat) (h : k = j + 1) => (show sumAt bs k = (decide (u = (bs[k].2.length : Int)) && Op.bytesLess (bs[j]'(by omega)).1 bs[k].1) by subst h; rw [← HU.out]; exact sumAt_more hlt))
      have HTT := Lib.hid (fun (h : sumAt bs k = true) => sums_step HT.out h)
      have HAR := Lib.hid (HA.out.below hbr)
      obtain ⟨al, HAL⟩ : ∃ al, Hid (bs[k].1 = al) := ⟨_, Lib.hid rfl⟩
      obtain ⟨by_, HBY⟩ : ∃ by_, Hid (bs[k].2 = by_) := ⟨_, Lib.hid rfl⟩
      rw [HAL.out] at d1
      rw [HBY.out] at d2 hbl
      simp only [HAL.out] at HL HZ1
      simp only [HBY.out] at HZ0 HZ1
      have B1 : Below w.heap.size w (wr.alloc (.cells #[.string ⟨al.toArray⟩, .string ⟨by_.toArray⟩] 136)) := hbr.alloc hbr.size _
      have HBAD : Hid (¬ u = (by_.length : Int) → r = false) := Lib.hid (fun hq => by
        apply HQ.out
        by_cases hz : k = 0
        · rw [HZ0.out hz]; exact decide_eq_false hq
        · rw [HZ1.out (k - 1) (by omega), decide_eq_false hq]; rfl)
      by_cases hs0 : sz = 0
      · have HX : Hid (r = false) := Lib.hid (HBAD.out (HSB.out hs0 _))
        have q0 : (sz == 0) = true := int_beq_true hs0
        clear hs0 HQ HZ0 HZ1 HTT HAR HBAD HSB HSG
        go_wp2_with fail
        refine (HL.out _).mono ?_
        rintro e w1 ⟨rfl, rfl⟩
        go_wp2_with fail
        go_quiet (fail)
        go_wp2_with fail
        go_ret
        exact ⟨ret_bool HX.out.symm, B1.trans (below_drewN _ _ _)⟩
      · have q0 : (sz == 0) = false := int_beq_false hs0
        have hsu := HSG.out hs0
        by_cases hq : u = (by_.length : Int)
        · have q1 : ((by_.length : Int) != sz) = false := int_bne_false (by omega)
          by_cases hz : k = 0
          · have HN2 := Lib.hid (HTT.out (by rw [HZ0.out hz]; exact decide_eq_true hq))
            have g0 : ¬ (0 : Int) < (k : Int) := by omega
            have g1 : decide (0 < k) = false := by simp; omega
            clear hs0 hsu hq hz HQ HZ0 HZ1 HTT HAR HBAD HSB HSG
            go_wp2_with fail
            refine (HL.out _).mono ?_
            rintro e w1 ⟨rfl, rfl⟩
            go_wp2_with fail
            go_quiet (fail)
            go_wp2_with fail
            go_roundw
            case rel => exact ⟨k + 1, by omega, by go_num, HN2, B1.trans (below_drewN _ _ _)⟩
            case measure => simp [intOf]; omega
          · obtain ⟨j, hj⟩ : ∃ j, k = j + 1 := ⟨k - 1, by omega⟩
            have HZ2 := Lib.hid (HZ1.out j hj)
            have hjl : j < bs.length := by omega
            obtain ⟨g', off', hge, _, e1, e2⟩ := HAR.out.at j hjl
            clear e2
            simp only [Option.some.injEq, Addr.mk.injEq, and_true] at hge
            obtain ⟨rfl, rfl⟩ := hge
            have jw : IntKind.i64.wrap ((k : Int) - 1) = (j : Int) := by rw [show (k : Int) - 1 = (j : Int) by omega]; exact IntWalk.i64_in _ (by omega)
            have g0 : (0 : Int) < (k : Int) := by omega
            have g1 : decide (0 < k) = true := by simp; omega
            have j0 : (0 : Int) ≤ (j : Int) := by omega
            have j1 : (j : Int) < (bs.length : Int) := by omega
            obtain ⟨pr, HPR⟩ : ∃ pr, Hid (bs[j].1 = pr) := ⟨_, Lib.hid rfl⟩
            rw [HPR.out] at e1 HZ2
            have e1' := keepC ((Below.refl _ wr).alloc (Nat.le_refl _) (.cells #[.string ⟨al.toArray⟩, .string ⟨by_.toArray⟩] 136)) e1
            cases hl : Op.bytesLess pr al with
            | true =>
              have HN2 := Lib.hid (HTT.out (by rw [HZ2.out, hl, decide_eq_true hq]; rfl))
              clear hs0 hsu hq hz HQ HZ0 HZ1 HTT hj HZ2 HAR HBAD HSB HSG
              go_wp2_with fail
              refine (HL.out _).mono ?_
              rintro e w1 ⟨rfl, rfl⟩
              go_wp2_with fail
              go_quiet (fail)
              go_wp2_with fail
              go_roundw
              case rel => exact ⟨k + 1, by omega, by go_num, HN2, B1.trans (below_drewN _ _ _)⟩
              case measure => simp [intOf]; omega
            | false =>
              have HX := Lib.hid (HQ.out (by rw [HZ2.out, hl, Bool.and_false]))
              clear hs0 hsu hq hz HQ HZ0 HZ1 HTT hj HZ2 HAR HBAD HSB HSG
              go_wp2_with fail
              refine (HL.out _).mono ?_
              rintro e w1 ⟨rfl, rfl⟩
              go_wp2_with fail
              go_quiet (fail)
              go_wp2_with fail
              go_ret
              exact ⟨ret_bool HX.out.symm, B1.trans (below_drewN _ _ _)⟩
        · have q1 : ((by_.length : Int) != sz) = true := int_bne_true (by omega)
          have HX : Hid (r = false) := Lib.hid (HBAD.out hq)
          clear hs0 hsu hq HQ HZ0 HZ1 HTT HAR HBAD HSB HSG
          go_wp2_with fail
          refine (HL.out _).mono ?_
          rintro e w1 ⟨rfl, rfl⟩
          go_wp2_with fail
          go_quiet (fail)
          go_wp2_with fail
          go_ret
          exact ⟨ret_bool HX.out.symm, B1.trans (below_drewN _ _ _)⟩
    · have HOK : Hid (r = true) := Lib.hid (by rw [← HR.out, sums_end HT.out (by omega)])
      go_wp2_with fail
      go_ret
      exact ⟨ret_bool HOK.out.symm, hbr⟩
theorem sumsOk_any (v : Value) (bs : List Bd) (w : World) (ha : RdB w v bs) (hsm : SmB bs) :
    Calls Tryz.prog 151 #[v] w fun e w' => e = .returned (.bool (sumsOkL bs)) ∧ Below w.heap.size w w' := by
  unfold SmB at hsm
  exact sumsOkG_any v bs w ha (by omega) (fun b hb => by have := smB_mem b hb; omega)
end Go.Proofs.YtnodhkjgnegkcaaGreatDoor

/-
  impl.NameOk returns whether a string is a package name, as spec.NameOk does.
-/
namespace Go.Proofs.YtnodhkjgnegkcaaGreatDoor
open Go.RowKit Go.Shelf
attribute [local go_sem] Oper.semAt_some

theorem name_waysI (z : Int) : lowI z = true ∨ (lowI z = false ∧ digI z = true) ∨ (lowI z = false ∧ digI z = false ∧ (z == 46) = true) ∨ (lowI z = false ∧ digI z = false ∧ (z == 46) = false ∧ (z == 95) = true) ∨ (lowI z = false ∧ digI z = false ∧ (z == 46) = false ∧ (z == 95) = false ∧ (z == 45) = true) ∨ (lowI z = false ∧ digI z = false ∧ (z == 46) = false ∧ (z == 95) = false ∧ (z == 45) = false) := by
  cases lowI z <;> cases digI z <;> simp <;> omega
theorem name_yesI {z : Int} (h : lowI z = true ∨ digI z = true ∨ (z == 46) = true ∨ (z == 95) = true ∨ (z == 45) = true) : nameI z = true := by
  unfold lowI digI at h; unfold nameI; simp at h ⊢; omega
theorem name_noI {z : Int} (h : lowI z = false ∧ digI z = false ∧ (z == 46) = false ∧ (z == 95) = false ∧ (z == 45) = false) : nameI z = false := by
  unfold lowI digI at h; unfold nameI; simp at h ⊢; omega

set_option maxRecDepth 100000 in
set_option maxHeartbeats 2000000 in
theorem componentOk_any (q : ByteArray) (w : World) (hq : q.size ≤ 1048576) : Calls Tryz.prog 204 #[.string q] w fun e w' => e = .returned (.bool (compL q.data.toList)) ∧ w = w' := by
  go_enter Tryz.func204, Tryz.ntmps204
  go_wp2
  go_loop [3, 6] (fun _ k => ∃ m : Nat, m ≤ q.size ∧ k = .int .i64 m ∧ Hid ((q.data.toList.take m).all nameB = true)) (fun _ k => q.size - (intOf k).toNat)
  case atStart => exact ⟨0, Nat.zero_le _, rfl, Lib.hid (by simp)⟩
  case round =>
    obtain ⟨m, hm, rfl, HA⟩ := hrel
    by_cases hml : m < q.size
    · have c1 := (byte_lt q[m]).1
      have c2 := (byte_lt q[m]).2
      rcases name_waysI (q[m].toNat : Int) with z | ⟨z, y⟩ | ⟨z, y, z1⟩ | ⟨z, y, z1, z2⟩ | ⟨z, y, z1, z2, z3⟩ | ⟨z, y, z1, z2, z3⟩
      case inl =>
        have HY := Lib.hid (all_go q m nameB hml HA.out (name_yesI (.inl z)))
        have HS := Lib.hid z
        clear z
        go_wp2_with fail
        refine (isLower_any _ _ c2 c1).mono ?_
        rw [HS.out]
        rintro e w' ⟨rfl, rfl⟩
        go_wp2_with (go_at_call 252; fail)
        go_round
        case rel => exact ⟨m + 1, by omega, by go_num, HY⟩
        case measure => simp [intOf]; omega
      case inr.inl =>
        have HY := Lib.hid (all_go q m nameB hml HA.out (name_yesI (.inr (.inl y))))
        have HS := Lib.hid z
        have HT := Lib.hid y
        clear z y
        go_wp2_with fail
        refine (isLower_any _ _ c2 c1).mono ?_
        rw [HS.out]
        rintro e w' ⟨rfl, rfl⟩
        go_wp2_with fail
        refine (isDigit_any _ _ c2 c1).mono ?_
        rw [HT.out]
        rintro e w' ⟨rfl, rfl⟩
        go_wp2_with fail
        go_round
        case rel => exact ⟨m + 1, by omega, by go_num, HY⟩
        case measure => simp [intOf]; omega
      case inr.inr.inr.inr.inr =>
        have HX := Lib.hid (compL_bad (all_no q m nameB hml (name_noI ⟨z, y, z1, z2, z3⟩)))
        have HS := Lib.hid z
        have HT := Lib.hid y
        have y1 := bne_of_beq z1
        have y2 := bne_of_beq z2
        have y3 := bne_of_beq z3
        clear z y z1 z2 z3
        go_wp2_with fail
        refine (isLower_any _ _ c2 c1).mono ?_
        rw [HS.out]
        rintro e w' ⟨rfl, rfl⟩
        go_wp2_with fail
        refine (isDigit_any _ _ c2 c1).mono ?_
        rw [HT.out]
        rintro e w' ⟨rfl, rfl⟩
        go_wp2_with fail
        go_ret
        exact ⟨ret_bool HX.out.symm, rfl⟩
      all_goals
        have HY := Lib.hid (all_go q m nameB hml HA.out (name_yesI (by simp only [z1] at *; first | exact .inr (.inr (.inl trivial)) | exact .inr (.inr (.inr (.inl z2))) | exact .inr (.inr (.inr (.inr z3))))))
        have HS := Lib.hid z
        have HT := Lib.hid y
        have y1 := bne_of_beq z1
        try have y2 := bne_of_beq z2
        try have y3 := bne_of_beq z3
        clear z y z1
        try clear z2
        try clear z3
        go_wp2_with fail
        refine (isLower_any _ _ c2 c1).mono ?_
        rw [HS.out]
        rintro e w' ⟨rfl, rfl⟩
        go_wp2_with fail
        refine (isDigit_any _ _ c2 c1).mono ?_
        rw [HT.out]
        rintro e w' ⟨rfl, rfl⟩
        go_wp2_with fail
        go_round
        case rel => exact ⟨m + 1, by omega, by go_num, HY⟩
        case measure => simp [intOf]; omega
    · have HA2 := HA.out
      rw [take_end q m hml] at HA2
      by_cases hqe : q.data.toList.isEmpty = true
      · have HX := Lib.hid (compL_empty hqe)
        have e9 : q.toList.isEmpty = true := by rw [ByteArray.toList_eq]; exact hqe
        clear hqe HA2
        go_wp2_with fail
        go_ret
        exact ⟨ret_bool HX.out.symm, rfl⟩
      · have hqe' : q.data.toList.isEmpty = false := by simpa using hqe
        have HX := Lib.hid (compL_good hqe' HA2)
        have e9 : q.toList.isEmpty = false := by rw [ByteArray.toList_eq]; exact hqe'
        clear hqe hqe' HA2
        go_wp2_with fail
        go_ret
        exact ⟨ret_bool HX.out.symm, rfl⟩
end Go.Proofs.YtnodhkjgnegkcaaGreatDoor

/-
  impl.NameOk returns whether a string is a package name, as spec.NameOk does.
-/
namespace Go.Proofs.YtnodhkjgnegkcaaGreatDoor
open Go.RowKit Go.Shelf
attribute [local go_sem] Oper.semAt_some

def partsOk (sc : Bool) : List (List UInt8) → Bool
  | [] => true
  | p :: ps => chk sc p && ps.all (chk false)
theorem partsOk_snoc (sc : Bool) (pre : List (List UInt8)) (x : List UInt8) : partsOk sc (pre ++ [x]) = (partsOk sc pre && chk (sc && pre.isEmpty) x) := by
  cases pre with
  | nil => simp [partsOk]
  | cons p ps => simp [partsOk, Bool.and_assoc]
theorem map_empty (pre : List Part) : (pre.map Subtype.val).isEmpty = pre.isEmpty := by cases pre <;> rfl
theorem partsOk_prefix {sc : Bool} {pre P : List (List UInt8)} (h : pre <+: P) (hb : partsOk sc pre = false) : partsOk sc P = false := by
  obtain ⟨t, rfl⟩ := h
  cases pre with
  | nil => simp [partsOk] at hb
  | cons p ps =>
    simp only [partsOk, List.cons_append, List.all_append] at hb ⊢
    rw [Bool.and_eq_false_iff] at hb ⊢
    rcases hb with hb | hb
    · exact .inl hb
    · right; rw [hb]; rfl

set_option maxRecDepth 100000 in
set_option maxHeartbeats 4000000 in
theorem implNameOk_plain (n : Nat) (hn : 4 ≤ n) (s r : ByteArray) (w : World) (h0 : 0 < s.size) (h60 : s.size ≤ 60) (e1 : ((s[0].toNat : Int) == 64) = false) (hsr : r = s) (hr : r.size ≤ 60) :
    CallsIn Fence.wide n Tryz.prog 161 #[.string s] w fun e W' => e = .returned (.bool (partsOk false (cutL 47 r.data.toList))) ∧ Below w.heap.size w W' := by
  have h1 : 1 ≤ n := by omega
  have hn2 : 1 ≤ n - 1 - 1 := by omega
  subst hsr
  have t1 : decide ((r.size : Int) < 1) = false := by simp; omega
  have t2 : decide ((60 : Int) < (r.size : Int)) = false := by simp; omega
  refine callsIn_of_wp_marks Tryz.func161 rfl trivial ?_ rfl
  simp only [Tryz.ntmps161, List.size_toArray, List.length_cons, List.length_nil, Nat.reduceAdd, Nat.reduceSub, Array.replicate_succ, Array.replicate_zero, List.push_toArray, List.append_toArray, List.nil_append, List.cons_append]
  gi_wp2_with (refine ⟨trivial, ?_⟩; gi_at_call 203; refine (partsOf_in _ _ _ _).mono ?_; rintro e w' ⟨rfl, rfl⟩)
  have b1 := Boxed.new w 4 (.bool false)
  have b2 := Boxed.new (w.alloc (.cells #[.bool false] 4)) 4 (.bool false)
  have b3 := Boxed.new ((w.alloc (.cells #[.bool false] 4)).alloc (.cells #[.bool false] 4)) 9 (.string r)
  have b4 := Boxed.new (((w.alloc (.cells #[.bool false] 4)).alloc (.cells #[.bool false] 4)).alloc (.cells #[.string r] 9)) 5 (.int .u8 47)
  simp only [World.size_alloc] at b2 b3 b4
  have hB0 : Below w.heap.size w ((((w.alloc (.cells #[.bool false] 4)).alloc (.cells #[.bool false] 4)).alloc (.cells #[.string r] 9)).alloc (.cells #[.int .u8 47] 5)) := ((((Below.refl _ w).alloc (Nat.le_refl _) _).alloc (by simp) _).alloc (by simp; omega) _).alloc (by simp; omega) _
  have b1' := ((b1.alloc (.cells #[.bool false] 4)).alloc (.cells #[.string r] 9)).alloc (.cells #[.int .u8 47] 5)
  have b2' := (b2.alloc (.cells #[.string r] 9)).alloc (.cells #[.int .u8 47] 5)
  have b3' := b3.alloc (.cells #[.int .u8 47] 5)
  clear b1 b2 b3
  obtain ⟨W0, hW0⟩ : ∃ W0, ((((w.alloc (.cells #[.bool false] 4)).alloc (.cells #[.bool false] 4)).alloc (.cells #[.string r] 9)).alloc (.cells #[.int .u8 47] 5)) = W0 := ⟨_, rfl⟩
  have hsz : W0.heap.size = w.heap.size + 4 := by rw [← hW0]; simp
  rw [hW0] at b1' b2' b3' b4 hB0 ⊢
  clear hW0
  have HSZ := Lib.hid hsz
  clear hsz
  refine wpIn_rangeFunc_ownF rfl h1 (gf := 250) (lb := #[.pointer (some ⟨w.heap.size + 1 + 1, 0, none⟩), .pointer (some ⟨w.heap.size + 1 + 1 + 1, 0, none⟩)]) rfl trivial (enters_of Tryz.func250 (by kernel_rfl) rfl)
    (parts_stops (n - 1) (by omega) (w.heap.size + 1 + 1) (w.heap.size + 1 + 1 + 1) r 47 (by omega) W0 (by rw [HSZ.out]; omega) (by rw [HSZ.out]; omega) b3' b4) kpB_t (kpB_b (by rw [HSZ.out]; omega) (by rw [HSZ.out]; omega)) (Below.refl _ _) (fun _ => rfl)
    (fun pre W => ((partsOk false (pre.map Subtype.val) = true ∧ Boxed W w.heap.size 4 (.bool false)) ∧ Boxed W (w.heap.size + 1) 4 (.bool (false && pre.isEmpty))) ∧ Below w.heap.size w W)
    (fun c pre W => ((c = .ret ∧ partsOk false (pre.map Subtype.val) = false) ∧ Boxed W w.heap.size 4 (.bool false)) ∧ Below w.heap.size w W)
    (OwnFrom.and (OwnFrom.and (OwnFrom.and (ownFrom_pure _ _) (Own.from (boxed_own _ _ _) _)) (Own.from (boxed_own _ _ _) _)) (ownFrom_below (Nat.le_refl _) (by rw [HSZ.out]; omega)))
    (fun c => OwnFrom.and (OwnFrom.and (ownFrom_pure _ _) (Own.from (boxed_own _ _ _) _)) (ownFrom_below (Nat.le_refl _) (by rw [HSZ.out]; omega)))
    ⟨⟨⟨rfl, b1'⟩, b2'⟩, hB0⟩
    (fun x => { tmps := #[.string r, undef, .pointer (some ⟨w.heap.size, 0, none⟩), .pointer (some ⟨w.heap.size + 1, 0, none⟩), .string ⟨x.1.toArray⟩, .string r, .int .i64 r.size, .bool false, .bool false, .string r, .int .i64 r.size, .bool false, .bool false, .string r, .int .u8 r[0].toNat, .bool false, .bool false, undef, undef, .string r, .func (.func 250) #[] #[.pointer (some ⟨w.heap.size + 1 + 1, 0, none⟩), .pointer (some ⟨w.heap.size + 1 + 1 + 1, 0, none⟩)], .string ⟨x.1.toArray⟩, undef, undef, undef, undef, undef, undef, undef, undef, undef, undef, undef], defers := [] }) ?assign ?body ?done ?stop
  case assign =>
    intro l x W K hK
    unfold partV
    gi_wp2
    exact hK
  case body =>
    rintro l pre x W ⟨⟨⟨hg, hR⟩, hC⟩, hB⟩ _
    have HG := Lib.hid hg
    have cR := hR.cell
    have fR := hR.frozen
    have cC := hC.cell
    have fC := hC.frozen
    obtain ⟨b, hbE⟩ : ∃ b : ByteArray, b = ⟨x.1.toArray⟩ := ⟨_, rfl⟩
    have hbl : b.data.toList = x.1 := by rw [hbE]
    have hbs : b.size ≤ 1048576 := by rw [hbE]; show x.1.toArray.size ≤ _; simpa using x.2
    rw [← hbE]
    have HBL := Lib.hid hbl
    have hIE : (false && (pre ++ [x]).isEmpty) = false := by simp
    have HSN : Hid (partsOk false ((pre ++ [x]).map Subtype.val) = chk (false && pre.isEmpty) x.1) := Lib.hid (by rw [List.map_append, List.map_cons, List.map_nil, partsOk_snoc, hg, map_empty]; rfl)
    have HK1 : Hid (∀ u, KpB (w.heap.size + 1 + 1) (w.heap.size + 1 + 1 + 1) W (W.setCell ⟨w.heap.size + 1, 0, none⟩ u)) := Lib.hid (fun u => ⟨Below.heap_setCell _ _ _ _ (by simp), Below.heap_setCell _ _ _ _ (by simp; omega)⟩)
    clear hg hbE hbl
    by_cases hcl : compL b.data.toList = true
    · have HCL := Lib.hid hcl
      by_cases hnm : (b.data.toList == nmL) = true
      · have e2 : (b.toList == [110, 111, 100, 101, 95, 109, 111, 100, 117, 108, 101, 115]) = true := by rw [ByteArray.toList_eq]; exact hnm
        have HCH : Hid (chk (false && pre.isEmpty) x.1 = (false && pre.isEmpty)) := Lib.hid (by rw [← HBL.out]; unfold chk; rw [hcl, hnm]; simp)
        clear hcl hnm
        cases hcur : (false && pre.isEmpty) with
        | true =>
          have HCU : Hid (partsOk false ((pre ++ [x]).map Subtype.val) = true) := Lib.hid (by rw [HSN.out, HCH.out, hcur])
          rw [hcur] at cC hC
          clear hcur
          gi_wp2_with (refine ⟨trivial, ?_⟩; gi_at_call 204; refine (CallsIn.inRound l (callsIn_wide.2 (componentOk_any b _ hbs))).mono ?_; rw [HCL.out]; rintro e w' ⟨rfl, rfl⟩)
          exact ⟨KeepsOthers.setCell _ _ _, HK1.out _, ⟨⟨HCU.out, hR.other (by omega) _⟩, by rw [hIE]; exact hC.set _⟩, hB.setCell (p := ⟨w.heap.size + 1, 0, none⟩) (by simp) _⟩
        | false =>
          have HCU : Hid (partsOk false ((pre ++ [x]).map Subtype.val) = false) := Lib.hid (by rw [HSN.out, HCH.out, hcur])
          rw [hcur] at cC hC
          clear hcur
          gi_wp2_with (refine ⟨trivial, ?_⟩; gi_at_call 204; refine (CallsIn.inRound l (callsIn_wide.2 (componentOk_any b _ hbs))).mono ?_; rw [HCL.out]; rintro e w' ⟨rfl, rfl⟩)
          exact ⟨KeepsOthers.setCell _ _ _, ⟨⟨rfl, HCU.out⟩, hR.set _⟩, hB.setCell (p := ⟨w.heap.size, 0, none⟩) (by simp) _⟩
      · have hnm' : (b.data.toList == nmL) = false := by simpa using hnm
        have e2 : (b.toList == [110, 111, 100, 101, 95, 109, 111, 100, 117, 108, 101, 115]) = false := by rw [ByteArray.toList_eq]; exact hnm'
        have HCU : Hid (partsOk false ((pre ++ [x]).map Subtype.val) = true) := Lib.hid (by rw [HSN.out, ← HBL.out]; unfold chk; rw [hcl, hnm']; simp)
        clear hcl hnm hnm'
        generalize (false && pre.isEmpty) = cur at cC hC
        gi_wp2_with (refine ⟨trivial, ?_⟩; gi_at_call 204; refine (CallsIn.inRound l (callsIn_wide.2 (componentOk_any b _ hbs))).mono ?_; rw [HCL.out]; rintro e w' ⟨rfl, rfl⟩)
        exact ⟨KeepsOthers.setCell _ _ _, HK1.out _, ⟨⟨HCU.out, hR.other (by omega) _⟩, by rw [hIE]; exact hC.set _⟩, hB.setCell (p := ⟨w.heap.size + 1, 0, none⟩) (by simp) _⟩
    · have hcl' : compL b.data.toList = false := by simpa using hcl
      have HCL := Lib.hid hcl'
      have HCU : Hid (partsOk false ((pre ++ [x]).map Subtype.val) = false) := Lib.hid (by rw [HSN.out, ← HBL.out]; unfold chk; rw [hcl']; simp)
      clear hcl hcl'
      generalize (false && pre.isEmpty) = cur at cC hC
      gi_wp2_with (refine ⟨trivial, ?_⟩; gi_at_call 204; refine (CallsIn.inRound l (callsIn_wide.2 (componentOk_any b _ hbs))).mono ?_; rw [HCL.out]; rintro e w' ⟨rfl, rfl⟩)
      exact ⟨KeepsOthers.setCell _ _ _, ⟨⟨rfl, HCU.out⟩, hR.set _⟩, hB.setCell (p := ⟨w.heap.size, 0, none⟩) (by simp) _⟩
  case done =>
    rintro D ys W hD hys ⟨⟨⟨hg, hR⟩, hC⟩, hB⟩ hK
    rw [hys] at hg
    have HG := Lib.hid hg
    clear hg hys
    have cR := hR.cell
    have fR := hR.frozen
    gi_wp2
    have hK' := (KeepsOthers.setCell W ⟨w.heap.size, 0, none⟩ (.bool true)).same D _ hK rfl
    refine ⟨by simp, .inl ⟨_, _, rfl, run_takeDeferred hK', ?_⟩⟩
    have hc5 := cell_kept (hR.set (.bool true)).cell (grownBy_putObj' _ D (.deferred none)) (fun r e => by cases e; exact ⟨_, hK', rfl⟩)
    refine ⟨.bool true, ?_, by rw [HG.out], (hB.setCell (p := ⟨w.heap.size, 0, none⟩) (by simp) _).trans (belowK_b (w := w) (Nat.le_refl _) _ D _ _ (by have := HSZ.out; omega) hK' rfl rfl)⟩
    simp [results, Tryz.f161, go_sem, hc5]
  case stop =>
    rintro D c pre W hD hpre ⟨⟨⟨rfl, hbad⟩, hR⟩, hB⟩ hK
    have HG := Lib.hid (partsOk_prefix hpre hbad)
    clear hpre hbad
    gi_wp2
    refine ⟨by simp, .inl ⟨_, _, rfl, run_takeDeferred hK, ?_⟩⟩
    have hc5 := cell_kept hR.cell (grownBy_putObj' _ D (.deferred none)) (fun r e => by cases e; exact ⟨_, hK, rfl⟩)
    refine ⟨.bool false, ?_, by rw [HG.out], hB.trans (belowK_b (w := w) (Nat.le_refl _) W D _ _ (by have := HSZ.out; omega) hK rfl rfl)⟩
    simp [results, Tryz.f161, go_sem, hc5]

set_option maxRecDepth 100000 in
set_option maxHeartbeats 4000000 in
theorem implNameOk_scoped (n : Nat) (hn : 4 ≤ n) (s r : ByteArray) (w : World) (h0 : 0 < s.size) (h60 : s.size ≤ 60) (e1 : ((s[0].toNat : Int) == 64) = true) (he : ∀ W, (Instr.slice 9 (.string s) (some (.int .i64 1)) none none).run Tryz.prog W = .ok (.string r) W) (hr : r.size ≤ 60) :
    CallsIn Fence.wide n Tryz.prog 161 #[.string s] w fun e W' => e = .returned (.bool (partsOk true (cutL 47 r.data.toList))) ∧ Below w.heap.size w W' := by
  have h1 : 1 ≤ n := by omega
  have hn2 : 1 ≤ n - 1 - 1 := by omega
  have t1 : decide ((s.size : Int) < 1) = false := by simp; omega
  have t2 : decide ((60 : Int) < (s.size : Int)) = false := by simp; omega
  refine callsIn_of_wp_marks Tryz.func161 rfl trivial ?_ rfl
  simp only [Tryz.ntmps161, List.size_toArray, List.length_cons, List.length_nil, Nat.reduceAdd, Nat.reduceSub, Array.replicate_succ, Array.replicate_zero, List.push_toArray, List.append_toArray, List.nil_append, List.cons_append]
  gi_wp2_with (refine ⟨trivial, ?_⟩; gi_at_call 203; refine (partsOf_in _ _ _ _).mono ?_; rintro e w' ⟨rfl, rfl⟩)
  have b1 := Boxed.new w 4 (.bool false)
  have b2 := Boxed.new (w.alloc (.cells #[.bool false] 4)) 4 (.bool true)
  have b3 := Boxed.new ((w.alloc (.cells #[.bool false] 4)).alloc (.cells #[.bool true] 4)) 9 (.string r)
  have b4 := Boxed.new (((w.alloc (.cells #[.bool false] 4)).alloc (.cells #[.bool true] 4)).alloc (.cells #[.string r] 9)) 5 (.int .u8 47)
  simp only [World.size_alloc] at b2 b3 b4
  have hB0 : Below w.heap.size w ((((w.alloc (.cells #[.bool false] 4)).alloc (.cells #[.bool true] 4)).alloc (.cells #[.string r] 9)).alloc (.cells #[.int .u8 47] 5)) := ((((Below.refl _ w).alloc (Nat.le_refl _) _).alloc (by simp) _).alloc (by simp; omega) _).alloc (by simp; omega) _
  have b1' := ((b1.alloc (.cells #[.bool true] 4)).alloc (.cells #[.string r] 9)).alloc (.cells #[.int .u8 47] 5)
  have b2' := (b2.alloc (.cells #[.string r] 9)).alloc (.cells #[.int .u8 47] 5)
  have b3' := b3.alloc (.cells #[.int .u8 47] 5)
  clear b1 b2 b3
  obtain ⟨W0, hW0⟩ : ∃ W0, ((((w.alloc (.cells #[.bool false] 4)).alloc (.cells #[.bool true] 4)).alloc (.cells #[.string r] 9)).alloc (.cells #[.int .u8 47] 5)) = W0 := ⟨_, rfl⟩
  have hsz : W0.heap.size = w.heap.size + 4 := by rw [← hW0]; simp
  rw [hW0] at b1' b2' b3' b4 hB0 ⊢
  clear hW0
  have HSZ := Lib.hid hsz
  clear hsz
  refine wpIn_rangeFunc_ownF rfl h1 (gf := 250) (lb := #[.pointer (some ⟨w.heap.size + 1 + 1, 0, none⟩), .pointer (some ⟨w.heap.size + 1 + 1 + 1, 0, none⟩)]) rfl trivial (enters_of Tryz.func250 (by kernel_rfl) rfl)
    (parts_stops (n - 1) (by omega) (w.heap.size + 1 + 1) (w.heap.size + 1 + 1 + 1) r 47 (by omega) W0 (by rw [HSZ.out]; omega) (by rw [HSZ.out]; omega) b3' b4) kpB_t (kpB_b (by rw [HSZ.out]; omega) (by rw [HSZ.out]; omega)) (Below.refl _ _) (fun _ => rfl)
    (fun pre W => ((partsOk true (pre.map Subtype.val) = true ∧ Boxed W w.heap.size 4 (.bool false)) ∧ Boxed W (w.heap.size + 1) 4 (.bool (true && pre.isEmpty))) ∧ Below w.heap.size w W)
    (fun c pre W => ((c = .ret ∧ partsOk true (pre.map Subtype.val) = false) ∧ Boxed W w.heap.size 4 (.bool false)) ∧ Below w.heap.size w W)
    (OwnFrom.and (OwnFrom.and (OwnFrom.and (ownFrom_pure _ _) (Own.from (boxed_own _ _ _) _)) (Own.from (boxed_own _ _ _) _)) (ownFrom_below (Nat.le_refl _) (by rw [HSZ.out]; omega)))
    (fun c => OwnFrom.and (OwnFrom.and (ownFrom_pure _ _) (Own.from (boxed_own _ _ _) _)) (ownFrom_below (Nat.le_refl _) (by rw [HSZ.out]; omega)))
    ⟨⟨⟨rfl, b1'⟩, b2'⟩, hB0⟩
    (fun x => { tmps := #[.string r, undef, .pointer (some ⟨w.heap.size, 0, none⟩), .pointer (some ⟨w.heap.size + 1, 0, none⟩), .string ⟨x.1.toArray⟩, .string s, .int .i64 s.size, .bool false, .bool false, .string s, .int .i64 s.size, .bool false, .bool false, .string s, .int .u8 s[0].toNat, .bool true, .bool true, .string s, .string r, .string r, .func (.func 250) #[] #[.pointer (some ⟨w.heap.size + 1 + 1, 0, none⟩), .pointer (some ⟨w.heap.size + 1 + 1 + 1, 0, none⟩)], .string ⟨x.1.toArray⟩, undef, undef, undef, undef, undef, undef, undef, undef, undef, undef, undef], defers := [] }) ?assign ?body ?done ?stop
  case assign =>
    intro l x W K hK
    unfold partV
    gi_wp2
    exact hK
  case body =>
    rintro l pre x W ⟨⟨⟨hg, hR⟩, hC⟩, hB⟩ _
    have HG := Lib.hid hg
    have cR := hR.cell
    have fR := hR.frozen
    have cC := hC.cell
    have fC := hC.frozen
    obtain ⟨b, hbE⟩ : ∃ b : ByteArray, b = ⟨x.1.toArray⟩ := ⟨_, rfl⟩
    have hbl : b.data.toList = x.1 := by rw [hbE]
    have hbs : b.size ≤ 1048576 := by rw [hbE]; show x.1.toArray.size ≤ _; simpa using x.2
    rw [← hbE]
    have HBL := Lib.hid hbl
    have hIE : (true && (pre ++ [x]).isEmpty) = false := by simp
    have HSN : Hid (partsOk true ((pre ++ [x]).map Subtype.val) = chk (true && pre.isEmpty) x.1) := Lib.hid (by rw [List.map_append, List.map_cons, List.map_nil, partsOk_snoc, hg, map_empty]; rfl)
    have HK1 : Hid (∀ u, KpB (w.heap.size + 1 + 1) (w.heap.size + 1 + 1 + 1) W (W.setCell ⟨w.heap.size + 1, 0, none⟩ u)) := Lib.hid (fun u => ⟨Below.heap_setCell _ _ _ _ (by simp), Below.heap_setCell _ _ _ _ (by simp; omega)⟩)
    clear hg hbE hbl
    by_cases hcl : compL b.data.toList = true
    · have HCL := Lib.hid hcl
      by_cases hnm : (b.data.toList == nmL) = true
      · have e2 : (b.toList == [110, 111, 100, 101, 95, 109, 111, 100, 117, 108, 101, 115]) = true := by rw [ByteArray.toList_eq]; exact hnm
        have HCH : Hid (chk (true && pre.isEmpty) x.1 = (true && pre.isEmpty)) := Lib.hid (by rw [← HBL.out]; unfold chk; rw [hcl, hnm]; simp)
        clear hcl hnm
        cases hcur : (true && pre.isEmpty) with
        | true =>
          have HCU : Hid (partsOk true ((pre ++ [x]).map Subtype.val) = true) := Lib.hid (by rw [HSN.out, HCH.out, hcur])
          rw [hcur] at cC hC
          clear hcur
          gi_wp2_with (refine ⟨trivial, ?_⟩; gi_at_call 204; refine (CallsIn.inRound l (callsIn_wide.2 (componentOk_any b _ hbs))).mono ?_; rw [HCL.out]; rintro e w' ⟨rfl, rfl⟩)
          exact ⟨KeepsOthers.setCell _ _ _, HK1.out _, ⟨⟨HCU.out, hR.other (by omega) _⟩, by rw [hIE]; exact hC.set _⟩, hB.setCell (p := ⟨w.heap.size + 1, 0, none⟩) (by simp) _⟩
        | false =>
          have HCU : Hid (partsOk true ((pre ++ [x]).map Subtype.val) = false) := Lib.hid (by rw [HSN.out, HCH.out, hcur])
          rw [hcur] at cC hC
          clear hcur
          gi_wp2_with (refine ⟨trivial, ?_⟩; gi_at_call 204; refine (CallsIn.inRound l (callsIn_wide.2 (componentOk_any b _ hbs))).mono ?_; rw [HCL.out]; rintro e w' ⟨rfl, rfl⟩)
          exact ⟨KeepsOthers.setCell _ _ _, ⟨⟨rfl, HCU.out⟩, hR.set _⟩, hB.setCell (p := ⟨w.heap.size, 0, none⟩) (by simp) _⟩
      · have hnm' : (b.data.toList == nmL) = false := by simpa using hnm
        have e2 : (b.toList == [110, 111, 100, 101, 95, 109, 111, 100, 117, 108, 101, 115]) = false := by rw [ByteArray.toList_eq]; exact hnm'
        have HCU : Hid (partsOk true ((pre ++ [x]).map Subtype.val) = true) := Lib.hid (by rw [HSN.out, ← HBL.out]; unfold chk; rw [hcl, hnm']; simp)
        clear hcl hnm hnm'
        generalize (true && pre.isEmpty) = cur at cC hC
        gi_wp2_with (refine ⟨trivial, ?_⟩; gi_at_call 204; refine (CallsIn.inRound l (callsIn_wide.2 (componentOk_any b _ hbs))).mono ?_; rw [HCL.out]; rintro e w' ⟨rfl, rfl⟩)
        exact ⟨KeepsOthers.setCell _ _ _, HK1.out _, ⟨⟨HCU.out, hR.other (by omega) _⟩, by rw [hIE]; exact hC.set _⟩, hB.setCell (p := ⟨w.heap.size + 1, 0, none⟩) (by simp) _⟩
    · have hcl' : compL b.data.toList = false := by simpa using hcl
      have HCL := Lib.hid hcl'
      have HCU : Hid (partsOk true ((pre ++ [x]).map Subtype.val) = false) := Lib.hid (by rw [HSN.out, ← HBL.out]; unfold chk; rw [hcl']; simp)
      clear hcl hcl'
      generalize (true && pre.isEmpty) = cur at cC hC
      gi_wp2_with (refine ⟨trivial, ?_⟩; gi_at_call 204; refine (CallsIn.inRound l (callsIn_wide.2 (componentOk_any b _ hbs))).mono ?_; rw [HCL.out]; rintro e w' ⟨rfl, rfl⟩)
      exact ⟨KeepsOthers.setCell _ _ _, ⟨⟨rfl, HCU.out⟩, hR.set _⟩, hB.setCell (p := ⟨w.heap.size, 0, none⟩) (by simp) _⟩
  case done =>
    rintro D ys W hD hys ⟨⟨⟨hg, hR⟩, hC⟩, hB⟩ hK
    rw [hys] at hg
    have HG := Lib.hid hg
    clear hg hys
    have cR := hR.cell
    have fR := hR.frozen
    gi_wp2
    have hK' := (KeepsOthers.setCell W ⟨w.heap.size, 0, none⟩ (.bool true)).same D _ hK rfl
    refine ⟨by simp, .inl ⟨_, _, rfl, run_takeDeferred hK', ?_⟩⟩
    have hc5 := cell_kept (hR.set (.bool true)).cell (grownBy_putObj' _ D (.deferred none)) (fun r e => by cases e; exact ⟨_, hK', rfl⟩)
    refine ⟨.bool true, ?_, by rw [HG.out], (hB.setCell (p := ⟨w.heap.size, 0, none⟩) (by simp) _).trans (belowK_b (w := w) (Nat.le_refl _) _ D _ _ (by have := HSZ.out; omega) hK' rfl rfl)⟩
    simp [results, Tryz.f161, go_sem, hc5]
  case stop =>
    rintro D c pre W hD hpre ⟨⟨⟨rfl, hbad⟩, hR⟩, hB⟩ hK
    have HG := Lib.hid (partsOk_prefix hpre hbad)
    clear hpre hbad
    gi_wp2
    refine ⟨by simp, .inl ⟨_, _, rfl, run_takeDeferred hK, ?_⟩⟩
    have hc5 := cell_kept hR.cell (grownBy_putObj' _ D (.deferred none)) (fun r e => by cases e; exact ⟨_, hK, rfl⟩)
    refine ⟨.bool false, ?_, by rw [HG.out], hB.trans (belowK_b (w := w) (Nat.le_refl _) W D _ _ (by have := HSZ.out; omega) hK rfl rfl)⟩
    simp [results, Tryz.f161, go_sem, hc5]

/-- What both return. -/
theorem spec_impl (l : List UInt8) (h0 : 0 < l.length) (h60 : l.length ≤ 60) : specN l = if l.head? = some 64 then partsOk true (cutL 47 l.tail) else partsOk false (cutL 47 l) := by
  unfold specN
  rw [decide_eq_true h60, Bool.and_true]
  match l, h0 with
  | c :: t, _ =>
    by_cases hc : c = 64
    · subst hc
      have hcut : cutL 47 (64 :: t) = attach [64] (cutL 47 t) := by rw [cutL, if_neg (by decide)]
      rw [if_pos (show (64 :: t).head? = some 64 from rfl), hcut]
      cases hX : cutL 47 t with
      | nil => exact absurd hX (cutL_ne 47 t)
      | cons p ps =>
        simp only [attach, List.tail_cons]
        rw [hX]
        simp [chkS, partsOk, chk]
    · rw [if_neg (by simpa using hc)]
      cases hX : cutL 47 (c :: t) with
      | nil => exact absurd hX (cutL_ne 47 _)
      | cons p ps =>
        simp only [partsOk]
        have hp : p.head? ≠ some 64 := by
          by_cases h47 : c = 47
          · subst h47
            rw [cutL, if_pos rfl] at hX
            injection hX with hX _
            rw [← hX]; simp
          · rw [cutL, if_neg h47] at hX
            cases hY : cutL 47 t with
            | nil => exact absurd hY (cutL_ne 47 t)
            | cons q qs =>
              rw [hY] at hX
              simp only [attach] at hX
              injection hX with hX _
              rw [← hX]; simpa using hc
        unfold chkS
        rw [if_neg hp]
theorem spec_long (l : List UInt8) (h : l.length = 0 ∨ 60 < l.length) : specN l = false := by
  rcases h with h | h
  · have : l = [] := List.eq_nil_of_length_eq_zero h
    subst this; decide
  · unfold specN
    rw [decide_eq_false (by omega)]; simp

set_option maxRecDepth 100000 in
set_option maxHeartbeats 2000000 in
theorem implNameOk_out (s : ByteArray) (w : World) (h : s.size = 0 ∨ 60 < s.size) :
    CallsIn Fence.wide 4 Tryz.prog 161 #[.string s] w fun e W' => e = .returned (.bool false) ∧ Below w.heap.size w W' := by
  have b1 := Boxed.new w 4 (.bool false)
  have cR := b1.cell
  have fR := b1.frozen
  refine callsIn_of_wp_marks Tryz.func161 rfl trivial ?_ rfl
  simp only [Tryz.ntmps161, List.size_toArray, List.length_cons, List.length_nil, Nat.reduceAdd, Nat.reduceSub, Array.replicate_succ, Array.replicate_zero, List.push_toArray, List.append_toArray, List.nil_append, List.cons_append]
  rcases h with h | h
  · have t1 : decide ((s.size : Int) < 1) = true := by simp; omega
    have HH := Lib.hid h
    clear h
    gi_wp2
    refine ⟨.bool false, ?_, rfl, (Below.refl _ _).alloc (Nat.le_refl _) _⟩
    simp [results, Tryz.f161, go_sem, cR]
  · have t1 : decide ((s.size : Int) < 1) = false := by simp; omega
    have t2 : decide ((60 : Int) < (s.size : Int)) = true := by simp; omega
    clear h
    gi_wp2
    refine ⟨.bool false, ?_, rfl, (Below.refl _ _).alloc (Nat.le_refl _) _⟩
    simp [results, Tryz.f161, go_sem, cR]

theorem implNameOk_any (s : ByteArray) (w : World) :
    Calls Tryz.prog 161 #[.string s] w fun e W' => e = .returned (.bool (specN s.data.toList)) ∧ Below w.heap.size w W' := by
  refine (callsIn_wide (n := 4)).1 ?_
  by_cases h : s.size = 0 ∨ 60 < s.size
  · rw [spec_long s.data.toList (by simpa using h)]
    exact implNameOk_out s w h
  · have h0 : 0 < s.size := by omega
    have h60 : s.size ≤ 60 := by omega
    rw [spec_impl s.data.toList (by simpa using h0) (by simpa using h60)]
    have hd := drop_cons s 0 h0
    simp at hd
    by_cases h64 : s[0] = 64
    · rw [if_pos (by rw [hd]; simpa using h64)]
      have e : s.data.toList.tail = (s.extract 1 s.size).data.toList := by rw [piece_end]; simp
      rw [e]
      exact implNameOk_scoped 4 (by omega) s (s.extract 1 s.size) w h0 h60 (by rw [h64]; rfl) (slice_from s _ 1 1 rfl (by omega) rfl) (by simp; omega)
    · rw [if_neg (by rw [hd]; simpa using h64)]
      exact implNameOk_plain 4 (by omega) s s w h0 h60 (int_beq_false (fun h => h64 (UInt8.toNat_inj.1 (by show _ = (64 : Nat); omega)))) rfl h60
end Go.Proofs.YtnodhkjgnegkcaaGreatDoor

/-
  For every string of at most maxLen bytes, impl.PlainOk and spec.PlainOk both return whether all bytes are plain and there are at most 100.
-/
namespace Go.Proofs.YtnodhkjgnegkcaaGreatDoor
open Go.RowKit

set_option maxHeartbeats 1000000 in
theorem implPlainOk_any (s : ByteArray) (w : World) (hs : s.size ≤ maxLen) :
    Calls Tryz.prog 98 #[.string s] w fun e w' => e = .returned (.bool (plainL s.data.toList)) ∧ w = w' := by
  unfold maxLen at hs
  by_cases hl : 100 < s.size
  · go_enter Tryz.func98, Tryz.ntmps98
    go_wp2
    go_ret
    refine ⟨ret_bool ?_, rfl⟩
    unfold plainL; simp; intro _; exact hl
  · go_enter Tryz.func98, Tryz.ntmps98
    go_wp2
    go_loop [3, 4, 10] (fun _ _ n => ∃ k : Nat, k ≤ s.size ∧ n = .int .i64 k ∧ Hid ((s.data.toList.take k).all plainB = true)) (fun _ _ n => s.size - (intOf n).toNat)
    case atStart => exact ⟨0, Nat.zero_le _, rfl, Lib.hid (by simp)⟩
    case round =>
      obtain ⟨k, hk, rfl, H⟩ := hrel
      by_cases hlt : k < s.size
      · rcases plain_ways s[k] with h | h | h | h | h | h | h
        case inr.inr.inr.inr.inr.inr =>
          obtain ⟨h1, h2, h3, h4, h5, h6⟩ := plain_yes h
          have HH := Lib.hid h
          clear h
          go_wp2
          go_round
          case rel => exact ⟨k + 1, by omega, by go_num, Lib.hid (all_step s k _ hlt H.out HH.out)⟩
          case measure => simp [intOf]; omega
        all_goals
          have HH := Lib.hid (plain_bad s k hlt (plain_not (by omega)))
          go_wp2
          go_ret
          exact ⟨ret_bool HH.out.symm, rfl⟩
      · go_wp2
        go_ret
        refine ⟨ret_bool ?_, rfl⟩
        have := H.out
        rw [take_end s k hlt] at this
        unfold plainL; rw [this]; simp; omega

end Go.Proofs.YtnodhkjgnegkcaaGreatDoor

/-
  impl.PackOk: whether a pack is right.
-/
namespace Go.Proofs.YtnodhkjgnegkcaaGreatDoor
open Go.RowKit

theorem implExact_len (l : List UInt8) (w : World) (hl : l.length ≤ 1048576) (ht : Tab w) : Calls Tryz.prog 162 #[.string ⟨l.toArray⟩] w fun e w' => ∃ g n, n = (if exOk l = true then 1 else 0) ∧ e = .returned (.slice (some ⟨g, 0, none⟩) n n) ∧ Below w.heap.size w w' :=
  (implExact_any l w hl ht).mono (fun e w' h => by
    obtain ⟨g, rfl, _, _, hb⟩ := h
    exact ⟨g, _, exB_len l, rfl, hb⟩)

set_option maxRecDepth 100000 in
set_option maxHeartbeats 4000000 in
theorem implPackOk_any (p : Pk) (a b : Value) (w : World) (ha : RdB w a p.sums) (hb : RdS w b p.needs) (hp : SmPk p) (ht : Tab w) :
    Calls Tryz.prog 107 #[.agg #[.string ⟨p.name.toArray⟩, .string ⟨p.ver.toArray⟩, .string ⟨p.src.toArray⟩, a, .bool p.dev, b]] w fun e w' => e = .returned (.bool (pkOk p)) ∧ Below w.heap.size w w' := by
  obtain ⟨t1, t2, t3⟩ := hp.texts
  have hsm := hp.sums
  have HN : Hid (∀ W, Calls Tryz.prog 161 #[.string ⟨p.name.toArray⟩] W fun e w' => e = .returned (.bool (specN p.name)) ∧ Below W.heap.size W w') := Lib.hid (fun W => implNameOk_any ⟨p.name.toArray⟩ W)
  have HE := Lib.hid (fun (W : World) (h : Below w.heap.size w W) => implExact_len p.ver W t2 (tab_below ht h))
  have HP : Hid (∀ W, Calls Tryz.prog 98 #[.string ⟨p.src.toArray⟩] W fun e w' => e = .returned (.bool (plainL p.src)) ∧ W = w') := Lib.hid (fun W => implPlainOk_any ⟨p.src.toArray⟩ W (by show p.src.toArray.size ≤ maxLen; unfold maxLen; simp; omega))
  have HS := Lib.hid (fun (W : World) (h : Below w.heap.size w W) => sumsOk_any a p.sums W (ha.below h) hsm)
  obtain ⟨A, ca, rfl⟩ := ha.slice
  obtain ⟨B, cb, rfl⟩ := hb.slice
  obtain ⟨r, HR⟩ : ∃ r, Hid (pkOk p = r) := ⟨_, Lib.hid rfl⟩
  rw [HR.out]
  obtain ⟨x, HXX⟩ : ∃ x, Hid (specN p.name = x) := ⟨_, Lib.hid rfl⟩
  obtain ⟨y, HYY⟩ : ∃ y, Hid (exOk p.ver = y) := ⟨_, Lib.hid rfl⟩
  obtain ⟨z, HZZ⟩ : ∃ z, Hid (plainL p.src = z) := ⟨_, Lib.hid rfl⟩
  obtain ⟨s, HSS⟩ : ∃ s, Hid (sumsOkL p.sums = s) := ⟨_, Lib.hid rfl⟩
  have HRR : Hid (r = (s && (x && (y && z)))) := Lib.hid (by rw [← HR.out]; unfold pkOk; rw [HXX.out, HYY.out, HZZ.out, HSS.out])
  simp only [HXX.out] at HN
  simp only [HYY.out] at HE
  simp only [HZZ.out] at HP
  simp only [HSS.out] at HS
  clear ha hb hp hsm ht HXX HYY HZZ HSS HR
  obtain ⟨pn, pv, ps, bs, pd, pe⟩ := p
  simp only at HN HE HP HS t1 t2 t3 ⊢
  have B0 : Below w.heap.size w (w.alloc (.cells #[.string ⟨pn.toArray⟩, .string ⟨pv.toArray⟩, .string ⟨ps.toArray⟩, .slice A bs.length ca, .bool pd, .slice B pe.length cb] 78)) := (Below.refl _ _).alloc (Nat.le_refl _) _
  have bx := heap_alloc_new w (.cells #[.string ⟨pn.toArray⟩, .string ⟨pv.toArray⟩, .string ⟨ps.toArray⟩, .slice A bs.length ca, .bool pd, .slice B pe.length cb] 78)
  go_enter Tryz.func107, Tryz.ntmps107
  go_wp2_with fail
  refine (HN.out _).mono ?_
  rintro e w1 ⟨rfl, hb1⟩
  have B1 := B0.trans (hb1.mono B0.size)
  have b1 := keepB bx hb1
  obtain ⟨x0, x1, x2, x3, x4, x5⟩ := cells6 b1
  clear B0 bx hb1
  cases x with
  | false =>
    have HF : Hid (r = false) := Lib.hid (by rw [HRR.out]; simp)
    go_wp2_with fail
    go_ret
    exact ⟨ret_bool HF.out.symm, B1⟩
  | true =>
    go_wp2_with fail
    refine (HE.out _ B1).mono ?_
    rintro e w2 ⟨g, n, rfl, rfl, hb2⟩
    have B2 := B1.trans (hb2.mono B1.size)
    have b2 := keepB b1 hb2
    clear x0 x1 x2 x3 x4 x5
    obtain ⟨x0, x1, x2, x3, x4, x5⟩ := cells6 b2
    clear hb2 b1 B1
    cases y with
    | false =>
      have HF : Hid (r = false) := Lib.hid (by rw [HRR.out]; simp)
      go_wp2_with fail
      go_ret
      exact ⟨ret_bool HF.out.symm, B2⟩
    | true =>
      go_wp2_with fail
      refine (HP.out _).mono ?_
      rintro e w3 ⟨rfl, rfl⟩
      cases z with
      | false =>
        have HF : Hid (r = false) := Lib.hid (by rw [HRR.out]; simp)
        go_wp2_with fail
        go_ret
        exact ⟨ret_bool HF.out.symm, B2⟩
      | true =>
        have HF : Hid (r = s) := Lib.hid (by rw [HRR.out]; simp)
        go_wp2_with fail
        refine (HS.out _ B2).mono ?_
        rintro e w4 ⟨rfl, hb4⟩
        go_wp2_with fail
        go_ret
        exact ⟨ret_bool HF.out.symm, B2.trans (hb4.mono B2.size)⟩
end Go.Proofs.YtnodhkjgnegkcaaGreatDoor

/-
  The order of versions is total, in plain words: cmpVer answers the other way round where its arguments change places, 0 just where they are the same (of right versions), and it is transitive. Of no program.
-/
namespace Go.Proofs.YtnodhkjgnegkcaaGreatDoor
open Go.RowKit

theorem cmpI_neg (a b : Int) : cmpI b a = -cmpI a b := by unfold cmpI; split <;> split <;> (try split) <;> omega
theorem cmpI_zero {a b : Int} : cmpI a b = 0 ↔ a = b := by unfold cmpI; split <;> (try split) <;> omega
theorem cmpI_neg_iff {a b : Int} : cmpI a b < 0 ↔ a < b := by unfold cmpI; split <;> (try split) <;> omega
theorem cmpI_trans {a b c : Int} (h : cmpI a b ≤ 0) (h2 : cmpI b c ≤ 0) : cmpI a c ≤ 0 := by unfold cmpI at *; split at h <;> split at h2 <;> (try split at h) <;> (try split at h2) <;> split <;> (try split) <;> omega

theorem bl_irrefl (a : List UInt8) : Op.bytesLess a a = false := by
  induction a with
  | nil => rfl
  | cons x t ih => unfold Op.bytesLess; simp [ih]
theorem bl_asymm : ∀ (a b : List UInt8), Op.bytesLess a b = true → Op.bytesLess b a = false
  | _, [], h => by simp [Op.bytesLess] at h
  | [], _ :: _, _ => by simp [Op.bytesLess]
  | x :: a, y :: b, h => by
    unfold Op.bytesLess at h ⊢
    simp at h ⊢
    rcases h with h | ⟨h, h2⟩
    · refine ⟨by exact UInt8.le_of_lt h, fun e => ?_⟩
      subst e
      exact absurd h (by simp)
    · subst h
      exact ⟨by simp, fun _ => bl_asymm a b h2⟩
theorem bl_total : ∀ (a b : List UInt8), Op.bytesLess a b = true ∨ a = b ∨ Op.bytesLess b a = true
  | [], [] => by simp
  | [], _ :: _ => by simp [Op.bytesLess]
  | _ :: _, [] => by simp [Op.bytesLess]
  | x :: a, y :: b => by
    unfold Op.bytesLess
    simp
    rcases Nat.lt_trichotomy x.toNat y.toNat with h | h | h
    · exact .inl (.inl (UInt8.lt_iff_toNat_lt.2 h))
    · obtain rfl := UInt8.toNat_inj.1 h
      rcases bl_total a b with h | h | h
      · exact .inl (.inr ⟨rfl, h⟩)
      · exact .inr (.inl ⟨rfl, h⟩)
      · exact .inr (.inr (.inr ⟨rfl, h⟩))
    · exact .inr (.inr (.inl (UInt8.lt_iff_toNat_lt.2 h)))
theorem bl_trans : ∀ (a b c : List UInt8), Op.bytesLess a b = true → Op.bytesLess b c = true → Op.bytesLess a c = true
  | _, _, [], _, h2 => by simp [Op.bytesLess] at h2
  | _, [], _ :: _, h, _ => by simp [Op.bytesLess] at h
  | [], _ :: _, _ :: _, _, _ => by simp [Op.bytesLess]
  | x :: a, y :: b, z :: c, h, h2 => by
    unfold Op.bytesLess at h h2 ⊢
    simp at h h2 ⊢
    rcases h with h | ⟨rfl, h⟩
    · rcases h2 with h2 | ⟨rfl, h2⟩
      · exact .inl (UInt8.lt_trans h h2)
      · exact .inl h
    · rcases h2 with h2 | ⟨rfl, h2⟩
      · exact .inl h2
      · exact .inr ⟨rfl, bl_trans a b c h h2⟩

theorem cmpS_neg (a b : List UInt8) : cmpS b a = -cmpS a b := by
  unfold cmpS
  rcases bl_total a b with h | h | h
  · have h2 := bl_asymm a b h
    have h3 : ¬ b = a := fun e => by rw [e, bl_irrefl] at h; cases h
    simp [h, h2, h3]
  · subst h; simp [bl_irrefl]
  · have h2 := bl_asymm b a h
    have h3 : ¬ a = b := fun e => by rw [e, bl_irrefl] at h; cases h
    simp [h, h2, h3]
theorem cmpS_zero {a b : List UInt8} : cmpS a b = 0 ↔ a = b := by
  unfold cmpS
  constructor
  · intro h
    split at h
    · omega
    · split at h
      · assumption
      · omega
  · rintro rfl; simp [bl_irrefl]
theorem cmpS_trans {a b c : List UInt8} (h : cmpS a b ≤ 0) (h2 : cmpS b c ≤ 0) : cmpS a c ≤ 0 := by
  have f : ∀ x y, cmpS x y ≤ 0 → Op.bytesLess x y = true ∨ x = y := fun x y h => by
    unfold cmpS at h
    split at h
    · left; assumption
    · split at h
      · right; assumption
      · omega
  have g : ∀ x y, Op.bytesLess x y = true ∨ x = y → cmpS x y ≤ 0 := fun x y h => by
    unfold cmpS
    rcases h with h | h
    · rw [if_pos h]; omega
    · subst h; rw [bl_irrefl]; simp
  apply g
  rcases f _ _ h with h | rfl
  · rcases f _ _ h2 with h2 | rfl
    · exact .inl (bl_trans _ _ _ h h2)
    · exact .inl h
  · exact f _ _ h2

/-- f compares: the other way round it answers the other way round, and 'not greater' is transitive. -/
def Cmp {α : Type} (f : α → α → Int) : Prop := (∀ a b, f b a = -f a b) ∧ ∀ a b c, f a b ≤ 0 → f b c ≤ 0 → f a c ≤ 0
theorem cmp_I : Cmp cmpI := ⟨cmpI_neg, fun _ _ _ => cmpI_trans⟩
theorem cmp_S : Cmp cmpS := ⟨cmpS_neg, fun _ _ _ => cmpS_trans⟩
theorem Cmp.on {α β : Type} {f : β → β → Int} (h : Cmp f) (g : α → β) : Cmp (fun a b => f (g a) (g b)) := ⟨fun _ _ => h.1 _ _, fun _ _ _ => h.2 _ _ _⟩
theorem orI_neg (x y : Int) : orI (-x) (-y) = -orI x y := by unfold orI; split <;> split <;> omega
theorem orI_zero_iff {x y : Int} : orI x y = 0 ↔ x = 0 ∧ y = 0 := by unfold orI; split <;> omega
/-- One step of an order word by word. -/
theorem lex_trans {α : Type} {f : α → α → Int} (hf : Cmp f) (a b c : α) {p q r : Int} (hy : p ≤ 0 → q ≤ 0 → r ≤ 0) (h1 : orI (f a b) p ≤ 0) (h2 : orI (f b c) q ≤ 0) : orI (f a c) r ≤ 0 := by
  have n1 : f a b ≤ 0 := by unfold orI at h1; split at h1 <;> omega
  have n2 : f b c ≤ 0 := by unfold orI at h2; split at h2 <;> omega
  have n3 := hf.2 a b c n1 n2
  by_cases h0 : f a c = 0
  · have e1 : f c a ≤ 0 := by have := hf.1 a c; omega
    have e2 := hf.2 b c a n2 e1
    have e3 := hf.2 c a b e1 n1
    have m1 := hf.1 a b
    have m2 := hf.1 b c
    have z1 : f a b = 0 := by omega
    have z2 : f b c = 0 := by omega
    rw [z1, orI_zero] at h1
    rw [z2, orI_zero] at h2
    rw [h0, orI_zero]
    exact hy h1 h2
  · rw [orI_ne _ h0]; exact n3
theorem Cmp.lex {α : Type} {f g : α → α → Int} (hf : Cmp f) (hg : Cmp g) : Cmp (fun a b => orI (f a b) (g a b)) :=
  ⟨fun a b => by show orI (f b a) (g b a) = -orI (f a b) (g a b); rw [hf.1, hg.1, orI_neg], fun a b c h1 h2 => lex_trans hf a b c (hg.2 a b c) h1 h2⟩

def clsP (a : List UInt8) : Int := if 0 ≤ readL a then 0 else 1
def valP (a : List UInt8) : Int := if 0 ≤ readL a then readL a else 0
def txtP (a : List UInt8) : List UInt8 := if 0 ≤ readL a then [] else a
theorem cmpPart_eq (a b : List UInt8) : cmpPart a b = orI (cmpI (clsP a) (clsP b)) (orI (cmpI (valP a) (valP b)) (cmpS (txtP a) (txtP b))) := by
  unfold cmpPart clsP valP txtP
  have hs : cmpS [] [] = 0 := rfl
  by_cases ha : 0 ≤ readL a <;> by_cases hb : 0 ≤ readL b <;> simp only [ha, hb, if_true, if_false]
  · rw [cmpI_same, orI_zero, hs]; unfold orI; split <;> omega
  · rfl
  · rfl
  · rw [cmpI_same, orI_zero, cmpI_same, orI_zero]
theorem cmp_Part : Cmp cmpPart := by
  have h := (cmp_I.on clsP).lex ((cmp_I.on valP).lex (cmp_S.on txtP))
  have e : cmpPart = fun a b => orI (cmpI (clsP a) (clsP b)) (orI (cmpI (valP a) (valP b)) (cmpS (txtP a) (txtP b))) := funext fun a => funext fun b => cmpPart_eq a b
  rw [e]; exact h
theorem cmpPart_zero {a b : List UInt8} : cmpPart a b = 0 ↔ a = b := by
  constructor
  · intro h
    rw [cmpPart_eq, orI_zero_iff, orI_zero_iff, cmpI_zero, cmpI_zero, cmpS_zero] at h
    obtain ⟨h1, h2, h3⟩ := h
    unfold clsP at h1
    unfold valP at h2
    unfold txtP at h3
    by_cases ha : 0 ≤ readL a <;> by_cases hb : 0 ≤ readL b <;> simp only [ha, hb, if_true, if_false] at h1 h2 h3
    · rw [← dec_read ha, ← dec_read hb, h2]
    · omega
    · omega
    · exact h3
  · rintro rfl
    have := cmp_Part.1 a a
    omega
theorem cmpL_neg : ∀ x y : List (List UInt8), cmpL y x = -cmpL x y
  | [], [] => rfl
  | [], _ :: _ => rfl
  | _ :: _, [] => rfl
  | a :: x, b :: y => by show orI (cmpPart b a) (cmpL y x) = -orI (cmpPart a b) (cmpL x y); rw [cmp_Part.1, cmpL_neg x y, orI_neg]
theorem cmpL_trans : ∀ x y z : List (List UInt8), cmpL x y ≤ 0 → cmpL y z ≤ 0 → cmpL x z ≤ 0
  | [], [], z, _, h2 => h2
  | [], _ :: _, [], _, _ => by simp [cmpL]
  | [], _ :: _, _ :: _, _, _ => by simp [cmpL]
  | _ :: _, [], _, h, _ => by simp [cmpL] at h
  | _ :: _, _ :: _, [], _, h2 => by simp [cmpL] at h2
  | a :: x, b :: y, c :: z, h, h2 => lex_trans cmp_Part a b c (cmpL_trans x y z) h h2
theorem cmp_L : Cmp cmpL := ⟨cmpL_neg, cmpL_trans⟩
theorem cmpL_zero : ∀ {x y : List (List UInt8)}, cmpL x y = 0 ↔ x = y
  | [], [] => by simp [cmpL]
  | [], _ :: _ => by simp [cmpL]
  | _ :: _, [] => by simp [cmpL]
  | a :: x, b :: y => by
    show orI (cmpPart a b) (cmpL x y) = 0 ↔ _
    rw [orI_zero_iff, cmpPart_zero, cmpL_zero]; simp
def emp (x : List (List UInt8)) : Int := if x = [] then 1 else 0
theorem cmpPre_eq (x y : List (List UInt8)) : cmpPre x y = orI (cmpI (emp x) (emp y)) (cmpL x y) := by
  unfold cmpPre emp
  cases x with
  | nil =>
    cases y with
    | nil => rfl
    | cons b y => simp [cmpI, orI]; omega
  | cons a x =>
    cases y with
    | nil => simp [cmpI, orI]; try omega
    | cons b y => simp [cmpI, orI]
theorem cmp_Pre : Cmp cmpPre := by
  have h := (cmp_I.on emp).lex cmp_L
  have e : cmpPre = fun x y => orI (cmpI (emp x) (emp y)) (cmpL x y) := funext fun a => funext fun b => cmpPre_eq a b
  rw [e]; exact h
theorem cmpPre_zero {x y : List (List UInt8)} : cmpPre x y = 0 ↔ x = y := by
  rw [cmpPre_eq, orI_zero_iff, cmpI_zero, cmpL_zero]
  constructor
  · exact fun h => h.2
  · rintro rfl; exact ⟨rfl, rfl⟩
/-- A version as a tuple. -/
abbrev VT := Int × Int × Int × List (List UInt8)
def cmpV (p q : VT) : Int := cmpVer p.1 p.2.1 p.2.2.1 p.2.2.2 q.1 q.2.1 q.2.2.1 q.2.2.2
theorem cmp_V : Cmp cmpV := by
  have h := (cmp_I.on (fun p : VT => p.1)).lex ((cmp_I.on (fun p : VT => p.2.1)).lex ((cmp_I.on (fun p : VT => p.2.2.1)).lex (cmp_Pre.on (fun p : VT => p.2.2.2))))
  exact h
theorem cmpV_zero {p q : VT} : cmpV p q = 0 ↔ p = q := by
  obtain ⟨a, b, c, x⟩ := p
  obtain ⟨a', b', c', y⟩ := q
  show orI (cmpI a a') (orI (cmpI b b') (orI (cmpI c c') (cmpPre x y))) = 0 ↔ _
  rw [orI_zero_iff, orI_zero_iff, orI_zero_iff, cmpI_zero, cmpI_zero, cmpI_zero, cmpPre_zero]
  simp
end Go.Proofs.YtnodhkjgnegkcaaGreatDoor

/-
  impl.GraphOk: whether a graph is right.
-/
namespace Go.Proofs.YtnodhkjgnegkcaaGreatDoor
open Go.RowKit

/-- The key of the pack ahead, or the empty text. -/
def lastKy (ps : List Pk) (k : Nat) : List UInt8 := if k = 0 then [] else keyOf (ps.getD (k - 1) default)
theorem lastKy_zero (ps : List Pk) : lastKy ps 0 = [] := rfl
theorem lastKy_succ {ps : List Pk} {k : Nat} (h : k < ps.length) : lastKy ps (k + 1) = keyOf ps[k] := by
  unfold lastKy; rw [if_neg (by omega), Nat.add_sub_cancel, ps_at h]
theorem less_nil {l : List UInt8} (h : l ≠ []) : Op.bytesLess [] l = true := by
  cases l with
  | nil => exact absurd rfl h
  | cons a t => rfl
theorem pkAt_is {ps : List Pk} {k : Nat} (h : k < ps.length) : pkAtB ps k = (pkOk ps[k] && Op.bytesLess (lastKy ps k) (keyOf ps[k])) := by
  unfold pkAtB
  rw [ps_at h]
  congr 1
  by_cases hz : k = 0
  · subst hz
    rw [upAt_zero, lastKy_zero, less_nil (by unfold keyOf; simp)]
  · obtain ⟨j, rfl⟩ : ∃ j, k = j + 1 := ⟨k - 1, by omega⟩
    rw [upAt_more h, lastKy_succ (by omega)]
theorem ndAt_is {ps : List Pk} {k : Nat} (h : k < ps.length) : ndAt ps k = keysOkL ps ps[k].needs := by unfold ndAt; rw [ps_at h]
theorem lastKy_len {ps : List Pk} (hs : SmPs ps) (k : Nat) (h : k ≤ ps.length) : (lastKy ps k).length ≤ 1048577 := by
  by_cases hz : k = 0
  · subst hz; rw [lastKy_zero]; simp
  · obtain ⟨j, rfl⟩ : ∃ j, k = j + 1 := ⟨k - 1, by omega⟩
    rw [lastKy_succ (by omega)]; exact SmPk.key (hs.get j (by omega))
theorem needs_le {p : Pk} (h : SmPk p) : p.needs.length ≤ 1048576 ∧ ∀ l ∈ p.needs, l.length ≤ 1048576 := by
  have := h.needs
  exact ⟨by omega, fun l hl => by have := smL_mem l hl; omega⟩

set_option maxRecDepth 100000 in
set_option maxHeartbeats 4000000 in
theorem implGraphOk_any (vt vp : Value) (ts : List (List UInt8)) (ps : List Pk) (w : World) (ht : RdS w vt ts) (hp : RdPs w vp ps) (hs : SmG ts ps) (htab : Tab w) :
    Calls Tryz.prog 54 #[.agg #[vt, vp]] w fun e w' => e = .returned (.bool (grOk ts ps)) ∧ Below w.heap.size w w' := by
  have HSP := Lib.hid hs.2
  have htl : ts.length ≤ 1048576 ∧ ∀ l ∈ ts, l.length ≤ 1048576 := ⟨by have := hs.1; omega, fun l hl => by have := smL_mem l hl; have := hs.1; omega⟩
  have hn : ps.length ≤ 1048576 := by have := hs.2; unfold SmPs at this; omega
  have HR := Lib.hid hp
  have HTB := Lib.hid (fun (W : World) (h : Below w.heap.size w W) => tab_below htab h)
  obtain ⟨T, tc, rfl⟩ := ht.slice
  have HKT := Lib.hid (fun (W : World) (B : Nat) (h : Below w.heap.size w W) (hi : IdxOf W B ps) => keysOk_any (.slice T ts.length tc) ts B ps W (ht.below h) htl.1 htl.2 hi)
  have HIX := Lib.hid (fun (W : World) (h : Below w.heap.size w W) => indexOf_any T ts.length tc vp ps W (hp.below h) hs.2)
  obtain ⟨A, ca, rfl, _⟩ := hp
  obtain ⟨r, HRR⟩ : ∃ r, Hid (grOk ts ps = r) := ⟨_, Lib.hid rfl⟩
  rw [HRR.out]
  obtain ⟨kt, HKTT⟩ : ∃ kt, Hid (keysOkL ps ts = kt) := ⟨_, Lib.hid rfl⟩
  have HPA : Hid (r = (decide (ps.length ≤ 40) && (allTo (pkAtB ps) ps.length && (allTo (ndAt ps) ps.length && kt)))) := Lib.hid (by rw [← HRR.out, grOk_parts, HKTT.out])
  simp only [HKTT.out] at HKT
  have B0 : Below w.heap.size w (w.alloc (.cells #[.slice T ts.length tc, .slice A ps.length ca] 37)) := (Below.refl _ _).alloc (Nat.le_refl _) _
  have b0 := heap_alloc_new w (.cells #[.slice T ts.length tc, .slice A ps.length ca] 37)
  clear ht hs htab htl
  by_cases h40 : ps.length ≤ 40
  · have HPB : Hid (r = (allTo (pkAtB ps) ps.length && (allTo (ndAt ps) ps.length && kt))) := Lib.hid (by rw [HPA.out, decide_eq_true h40]; rfl)
    have q1 : ¬ (40 : Int) < (ps.length : Int) := by omega
    clear h40 HPA
    go_enter Tryz.func54, Tryz.ntmps54
    go_wp2_with fail
    go_loopw [3, 5, 6, 17] (fun u _ _ i wr => ∃ k : Nat, k ≤ ps.length ∧ i = .int .i64 k ∧ u = .string ⟨(lastKy ps k).toArray⟩ ∧ Hid (allTo (pkAtB ps) k = true) ∧ Below w.heap.size w wr ∧ wr.heap[w.heap.size]? = some (.cells #[.slice T ts.length tc, .slice A ps.length ca] 37)) (fun _ _ _ i _ => ps.length - (intOf i).toNat)
    case atStart => exact ⟨0, Nat.zero_le _, rfl, rfl, Lib.hid rfl, B0, b0⟩
    case round =>
      obtain ⟨k, hk, rfl, rfl, HT, hb, hbox⟩ := hrel
      clear B0 b0
      by_cases hlt : k < ps.length
      · obtain ⟨g, off, rfl, hg, a, b, d0, d1, d2, d3, d4, d5, ra, rb⟩ := (HR.out.below hb).at k hlt
        have HKO := Lib.hid (fun (W : World) (h : Below wr.heap.size wr W) => implKeyOf_any ps[k] a b W (ra.below h) (rb.below h) (HSP.out.get k hlt))
        have HPK := Lib.hid (fun (W : World) (h : Below wr.heap.size wr W) => implPackOk_any ps[k] a b W (ra.below h) (rb.below h) (HSP.out.get k hlt) (HTB.out W (hb.trans (h.mono hb.size))))
        have k0 : (0 : Int) ≤ (k : Int) := by omega
        have k1 : (k : Int) < (ps.length : Int) := by omega
        have HQ := Lib.hid (fun (h : pkAtB ps k = false) => (show r = false by rw [HPB.out, allTo_bad hlt h]; rfl))
        have HTT := Lib.hid (fun (h : pkAtB ps k = true) => allTo_step HT.out h)
        have HZ := Lib.hid (pkAt_is hlt)
        have HLS := Lib.hid (lastKy_succ hlt)
        have hkl := SmPk.key (HSP.out.get k hlt)
        have hll := lastKy_len HSP.out k hk
        have Bp : Below wr.heap.size wr (wr.alloc (.cells #[.string ⟨ps[k].name.toArray⟩, .string ⟨ps[k].ver.toArray⟩, .string ⟨ps[k].src.toArray⟩, a, .bool ps[k].dev, b] 78)) := (Below.refl _ _).alloc (Nat.le_refl _) _
        have bp := heap_alloc_new wr (.cells #[.string ⟨ps[k].name.toArray⟩, .string ⟨ps[k].ver.toArray⟩, .string ⟨ps[k].src.toArray⟩, a, .bool ps[k].dev, b] 78)
        obtain ⟨A1, c1, rfl⟩ := ra.slice
        obtain ⟨A2, c2, rfl⟩ := rb.slice
        obtain ⟨y0, y1, y2, y3, y4, y5⟩ := cells6 bp
        obtain ⟨pk, HPKK⟩ : ∃ pk, Hid (pkOk ps[k] = pk) := ⟨_, Lib.hid rfl⟩
        obtain ⟨key, HKE⟩ : ∃ key, Hid (keyOf ps[k] = key) := ⟨_, Lib.hid rfl⟩
        obtain ⟨la, HLA⟩ : ∃ la, Hid (lastKy ps k = la) := ⟨_, Lib.hid rfl⟩
        simp only [HPKK.out] at HPK HZ
        simp only [HKE.out] at HKO HZ HLS hkl
        rw [HLA.out] at HZ hll
        rw [HLA.out]
        have HBX := Lib.hid hbox
        clear ra rb hbox
        cases pk with
        | false =>
          have HX : Hid (r = false) := Lib.hid (HQ.out (by rw [HZ.out]; rfl))
          clear HQ HTT HZ
          go_wp2_with fail
          refine (HKO.out _ Bp).mono ?_
          rintro e w1 ⟨rfl, hb1⟩
          have B1 := Bp.trans (hb1.mono Bp.size)
          obtain ⟨x0, x1, x2, x3, x4, x5⟩ := cells6 (keepB bp hb1)
          go_wp2_with fail
          refine (HPK.out _ B1).mono ?_
          rintro e w2 ⟨rfl, hb2⟩
          have B2 := B1.trans (hb2.mono B1.size)
          go_wp2_with fail
          go_ret
          exact ⟨ret_bool HX.out.symm, hb.trans (B2.mono hb.size)⟩
        | true =>
          cases hl : Op.bytesLess la key with
          | true =>
            have HN2 := Lib.hid (HTT.out (by rw [HZ.out, hl]; rfl))
            have q2 := bl_asymm _ _ hl
            have q3 : (key == la) = false := by
              cases hq : key == la with
              | false => rfl
              | true => have e : key = la := by simpa using hq
                        rw [e, bl_irrefl] at hl; cases hl
            clear HQ HTT HZ
            go_wp2_with fail
            refine (HKO.out _ Bp).mono ?_
            rintro e w1 ⟨rfl, hb1⟩
            have B1 := Bp.trans (hb1.mono Bp.size)
            obtain ⟨x0, x1, x2, x3, x4, x5⟩ := cells6 (keepB bp hb1)
            go_wp2_with fail
            refine (HPK.out _ B1).mono ?_
            rintro e w2 ⟨rfl, hb2⟩
            have B2 := B1.trans (hb2.mono B1.size)
            have b2 := keepB HBX.out B2
            have B3 := hb.trans (B2.mono hb.size)
            clear hb1 hb2 B1 B2 Bp bp hb y0 y1 y2 y3 y4 y5
            go_wp2_with fail
            go_roundw
            case rel => exact ⟨k + 1, by omega, by go_num, by rw [HLS.out], HN2, B3, b2⟩
            case measure => simp [intOf]; omega
          | false =>
            have HX : Hid (r = false) := Lib.hid (HQ.out (by rw [HZ.out, hl]; rfl))
            clear HQ HTT HZ
            by_cases he : key = la
            · have q2 : Op.bytesLess key la = false := by rw [he]; exact bl_irrefl _
              have q3 : (key == la) = true := by simpa using he
              clear he
              go_wp2_with fail
              refine (HKO.out _ Bp).mono ?_
              rintro e w1 ⟨rfl, hb1⟩
              have B1 := Bp.trans (hb1.mono Bp.size)
              obtain ⟨x0, x1, x2, x3, x4, x5⟩ := cells6 (keepB bp hb1)
              go_wp2_with fail
              refine (HPK.out _ B1).mono ?_
              rintro e w2 ⟨rfl, hb2⟩
              have B2 := B1.trans (hb2.mono B1.size)
              go_wp2_with fail
              go_ret
              exact ⟨ret_bool HX.out.symm, hb.trans (B2.mono hb.size)⟩
            · have q2 : Op.bytesLess key la = true := by
                rcases bl_total la key with h | h | h
                · rw [hl] at h; cases h
                · exact absurd h.symm he
                · exact h
              clear he
              go_wp2_with fail
              refine (HKO.out _ Bp).mono ?_
              rintro e w1 ⟨rfl, hb1⟩
              have B1 := Bp.trans (hb1.mono Bp.size)
              obtain ⟨x0, x1, x2, x3, x4, x5⟩ := cells6 (keepB bp hb1)
              go_wp2_with fail
              refine (HPK.out _ B1).mono ?_
              rintro e w2 ⟨rfl, hb2⟩
              have B2 := B1.trans (hb2.mono B1.size)
              go_wp2_with fail
              go_ret
              exact ⟨ret_bool HX.out.symm, hb.trans (B2.mono hb.size)⟩
      · have HPC : Hid (r = (allTo (ndAt ps) ps.length && kt)) := Lib.hid (by rw [HPB.out]; have := HT.out; rw [show k = ps.length by omega] at this; rw [this]; rfl)
        obtain ⟨x0, x1⟩ := cellsG hbox
        have HBX := Lib.hid hbox
        clear HPB HT hbox
        go_wp2_with fail
        refine (HIX.out _ hb).mono ?_
        rintro e w1 ⟨B, rfl, hBl, hI, hb1⟩
        have B1 := hb.trans (hb1.mono hb.size)
        have b1 := keepB HBX.out hb1
        obtain ⟨y0, y1⟩ := cellsG b1
        clear hb hb1 x0 x1
        go_wp2_with fail
        go_loopw [9, 38] (fun _ i wq => ∃ j : Nat, j ≤ ps.length ∧ i = .int .i64 j ∧ Hid (allTo (ndAt ps) j = true) ∧ Below w.heap.size w wq ∧ Below w1.heap.size w1 wq ∧ wq.heap[w.heap.size]? = some (.cells #[.slice T ts.length tc, .slice A ps.length ca] 37)) (fun _ i _ => ps.length - (intOf i).toNat)
        case atStart => exact ⟨0, Nat.zero_le _, rfl, Lib.hid rfl, B1, Below.refl _ _, b1⟩
        case round =>
          obtain ⟨j, hj, rfl, HT2, hb, hbI, hbox⟩ := hrel
          clear B1 b1 y0 y1
          have hIq := hI.below hbI
          by_cases hlj : j < ps.length
          · obtain ⟨g, off, rfl, hg, a, b, d0, d1, d2, d3, d4, d5, ra, rb⟩ := (HR.out.below hb).at j hlj
            have hnl := needs_le (HSP.out.get j hlj)
            have HND := Lib.hid (fun (W : World) (h : Below wr.heap.size wr W) => keysOk_any b ps[j].needs B ps W (rb.below h) hnl.1 hnl.2 (hIq.below h))
            have k0 : (0 : Int) ≤ (j : Int) := by omega
            have k1 : (j : Int) < (ps.length : Int) := by omega
            have HQ := Lib.hid (fun (h : ndAt ps j = false) => (show r = false by rw [HPC.out, allTo_bad hlj h]; rfl))
            have HTT := Lib.hid (fun (h : ndAt ps j = true) => allTo_step HT2.out h)
            have HZ := Lib.hid (ndAt_is hlj)
            have Bp : Below wr.heap.size wr (wr.alloc (.cells #[.string ⟨ps[j].name.toArray⟩, .string ⟨ps[j].ver.toArray⟩, .string ⟨ps[j].src.toArray⟩, a, .bool ps[j].dev, b] 78)) := (Below.refl _ _).alloc (Nat.le_refl _) _
            have bp := heap_alloc_new wr (.cells #[.string ⟨ps[j].name.toArray⟩, .string ⟨ps[j].ver.toArray⟩, .string ⟨ps[j].src.toArray⟩, a, .bool ps[j].dev, b] 78)
            obtain ⟨A1, c1, rfl⟩ := ra.slice
            obtain ⟨A2, c2, rfl⟩ := rb.slice
            obtain ⟨y0, y1, y2, y3, y4, y5⟩ := cells6 bp
            obtain ⟨nd, HNDD⟩ : ∃ nd, Hid (keysOkL ps ps[j].needs = nd) := ⟨_, Lib.hid rfl⟩
            simp only [HNDD.out] at HND HZ
            have HBX2 := Lib.hid hbox
            clear ra rb hbox hIq hnl
            cases nd with
            | false =>
              have HX : Hid (r = false) := Lib.hid (HQ.out HZ.out)
              clear HQ HTT HZ
              go_wp2_with fail
              refine (HND.out _ Bp).mono ?_
              rintro e w3 ⟨rfl, hb3⟩
              have B3 := Bp.trans (hb3.mono Bp.size)
              go_wp2_with fail
              go_ret
              exact ⟨ret_bool HX.out.symm, hb.trans (B3.mono hb.size)⟩
            | true =>
              have HN2 := Lib.hid (HTT.out HZ.out)
              clear HQ HTT HZ
              go_wp2_with fail
              refine (HND.out _ Bp).mono ?_
              rintro e w3 ⟨rfl, hb3⟩
              have B3 := Bp.trans (hb3.mono Bp.size)
              have b3 := keepB HBX2.out B3
              have B4 := hb.trans (B3.mono hb.size)
              have B5 := hbI.trans (B3.mono hbI.size)
              clear hb3 B3 Bp bp hb hbI y0 y1 y2 y3 y4 y5
              go_wp2_with fail
              go_roundw
              case rel => exact ⟨j + 1, by omega, by go_num, HN2, B4, B5, b3⟩
              case measure => simp [intOf]; omega
          · have HX : Hid (r = kt) := Lib.hid (by rw [HPC.out]; have := HT2.out; rw [show j = ps.length by omega] at this; rw [this]; rfl)
            obtain ⟨y0, y1⟩ := cellsG hbox
            go_wp2_with fail
            refine (HKT.out _ _ hb hIq).mono ?_
            rintro e w3 ⟨rfl, hb3⟩
            go_wp2_with fail
            go_ret
            exact ⟨ret_bool HX.out.symm, hb.trans (hb3.mono hb.size)⟩
  · have HX : Hid (r = false) := Lib.hid (by rw [HPA.out, decide_eq_false h40]; rfl)
    have q1 : (40 : Int) < (ps.length : Int) := by omega
    clear h40
    go_enter Tryz.func54, Tryz.ntmps54
    go_wp2_with fail
    go_ret
    exact ⟨ret_bool HX.out.symm, B0⟩
end Go.Proofs.YtnodhkjgnegkcaaGreatDoor

/-
  impl.PutHex returns two lower-case digits for every byte.
-/
namespace Go.Proofs.YtnodhkjgnegkcaaGreatDoor
open Go.RowKit

set_option maxHeartbeats 1000000 in
theorem implPutHex_any (s : ByteArray) (w : World) (hs : s.size ≤ 1048576) :
    Calls Tryz.prog 110 #[.string s] w fun e w' => e = .returned (.string ⟨(hexL s.data.toList).toArray⟩) ∧ Below w.heap.size w w' := by
  obtain ⟨i0, hi, hz0, hz1, hz2⟩ := info_parts u8info
  go_enter Tryz.func110, Tryz.ntmps110
  go_wp2_with (at_make; refine wpList_make_own _ rfl _ _ 145 rfl w.heap.size 5 i0 (.int .u8 0) 1 Tryz.underlying145 hi hz0 hz1 .i64 .i64 _ (2 * s.size) rfl rfl (by omega) (by rw [hz2]; omega) (by unfold maxLen; omega) (Nat.le_refl _) ?_; intro w1 hown1 hg1)
  have hb1 : Below w.heap.size w w1 := (Below.refl _ _).grown hg1 (Nat.le_refl _) (by simp)
  go_loopw [3, 4, 11] (fun v _ n wr => ∃ k : Nat, k ≤ s.size ∧ n = .int .i64 k ∧ Buf wr w.heap.size v (hexL (s.data.toList.take k)) ∧ Below w.heap.size w wr) (fun _ _ n _ => s.size - (intOf n).toNat)
  case atStart => exact ⟨0, Nat.zero_le _, rfl, hown1, hb1⟩
  case round =>
    obtain ⟨k, hk, rfl, hown, hb⟩ := hrel
    by_cases hlt : k < s.size
    · have x1 := idx_lower (s[k].toNat / 16) (by have := s[k].toNat_lt; omega) ((s[k].toNat : Int) / 16) (by omega)
      have x2 := idx_lower (s[k].toNat % 16) (by omega) ((s[k].toNat : Int) % 16) (by omega)
      have x3 := and15 s[k]
      have k0 : (0 : Int) ≤ (k : Int) := by omega
      have k1 : (k : Int) < (s.size : Int) := by omega
      have hl := hexL_len (s.data.toList.take k)
      have hlk : (s.data.toList.take k).length ≤ k := List.length_take_le _ _
      have HL : Hid ((hexL (s.data.toList.take k)).length + 2 ≤ 16777216) := Lib.hid (by omega)
      clear hl hlk
      go_wp2_with fail
      go_region_law ((refine step_append_buf (by rfl) _ _ (by rfl) w.heap.size _ _ (by rfl) (hown.alloc _).drew [hexC (s[k].toNat / 16), hexC (s[k].toNat % 16)] wr.heap.size _ _ _ _ _ (by rfl) (by rfl) (heap_alloc_new wr _) (by simp [bv]) (by simp) HL.out (by simp; exact Nat.le_succ_of_le hb.size) ?_; intro v' w2 hown2 hb2))
      all_goals
        have HB := hb.trans (((Below.refl w.heap.size wr).alloc hb.size _).drew.trans hb2)
        have HN : Hid (Buf w2 w.heap.size v' (hexL (s.data.toList.take (k + 1)))) := Lib.hid (by rw [take_snoc s k hlt, hexL_app]; exact hown2)
        go_wp2
        go_roundw
        case rel => exact ⟨k + 1, by omega, by go_num, HN.out, HB⟩
        case measure => simp [intOf]; omega
    · have hcv := hown.conv
      rw [take_end s k hlt] at hcv
      go_wp2
      go_ret
      exact ⟨rfl, hb⟩
end Go.Proofs.YtnodhkjgnegkcaaGreatDoor

namespace Go.Proofs.YtnodhkjgnegkcaaGreatDoor
open Go.RowKit

/-- append(out, text) at a step of a region that draws its order. -/
theorem step_append_one {w : World} {ops : Array Oper} {o : Oper} {a : Act} {K : Act → World → Prop} {Q : Exit → Act → World → Prop} {E : Prop} (hgd : o.guard = none) (s x : Operand)
    (ho : o.op = .call { callee := .builtin .append, args := #[s, x], argTypes := #[29, 29] })
    (base : Nat) (v : Value) (l : List (List UInt8)) (hs : a.eval s = v) (hown : Strs w base v l) (y : List UInt8) (B c : Nat) (t : TypeId) (fr : Nat × Nat)
    (hx : a.eval x = .slice (some ⟨B, 0, none⟩) 1 c) (hblk : w.heap[B]? = some (.cells #[sv y] t fr)) (hlen : l.length + 1 ≤ 16777216) (hbase : base ≤ w.heap.size)
    (h : ∀ g cap w', Strs w' base (.slice (some ⟨g, 0, none⟩) (l.length + 1) cap) (l ++ [y]) → w.grownBy w' v.ownBlock → (v.ownBlock = some g ∨ g = w.heap.size) → K (a.put o.dst (.slice (some ⟨g, 0, none⟩) (l.length + 1) cap)) w') :
    if Region.wanted o (yielded ops a.tmps) = true then Oper.wp Tryz.prog o a w K Q else E := by
  have hw : Region.wanted o (yielded ops a.tmps) = true := by simp [Region.wanted, hgd]
  rw [if_pos hw]
  obtain ⟨g, cap, w', hr, h2, h3, h4⟩ := run_append_strs w o.type base v l hown y B c t fr hblk hlen hbase
  unfold Oper.wp execOp
  simp only [ho, resolve, invoke, builtin, Sem.run_bind, Sem.run_pure, Result.andThen_ok, List.map_toArray, List.map_cons, List.map_nil, hs, hx, hr]
  exact h g cap w' h2 h3 h4
end Go.Proofs.YtnodhkjgnegkcaaGreatDoor
