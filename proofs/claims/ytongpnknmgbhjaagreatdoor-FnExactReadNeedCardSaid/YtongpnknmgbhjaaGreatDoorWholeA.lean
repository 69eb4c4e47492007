/-
  impl.splitAt returns the parts of a text between a byte.
-/
import Derived.Test.YtongpnknmgbhjaaGreatDoorApp
import Derived.Test.YtongpnknmgbhjaaGreatDoorHeap
import Derived.Lib.AppendZeros
import Derived.Test.YtongpnknmgbhjaaGreatDoorRas
import Derived.Test.YtongpnknmgbhjaaGreatDoorRdIs
import Derived.Deep.QuietTactic
import Derived.BigQuiet
import Derived.RangeFuncNested
import Derived.RangeFuncBound
import Derived.RangeFuncCalls
import Derived.RangeFuncLeaves
import Derived.Shelf.Abstract
import Derived.Shelf.RegionOpen
import Derived.WalkKit
import Derived.OwnWalkIn
import Derived.TacticsInMore
import Derived.LoopNIn
import Derived.LoopIn
import Derived.Sort.QuietIn
import Derived.Test.YtongpnknmgbhjaaGreatDoorStr
import Derived.Test.YtongpnknmgbhjaaGreatDoorCut
import Derived.Shelf.Strconv.Clone
import Derived.Ground.NamesProg
import Derived.Test.YtongpnknmgbhjaaGreatDoorProg
import Derived.Test.YtongpnknmgbhjaaGreatDoorRdL
import Derived.Outline
import Derived.RangeFuncFrom
import Derived.RangeFuncBox
import Derived.Stop.RegionWithIn
/-
  slices.Concat of two rows of texts.
-/
namespace Go.Proofs.YtongpnknmgbhjaaGreatDoor
open Go.RowKit

set_option maxRecDepth 100000 in
set_option maxHeartbeats 4000000 in
theorem growNil_any (n : Nat) (w : World) (h0 : 0 < n) (hn : n ≤ 4194304) :
    Calls Tryz.prog 94 #[.slice none 0 0, .int .i64 (n : Int)] w fun e w' => ∃ v, e = .returned v ∧ Strs w' w.heap.size v [] ∧ Below w.heap.size w w' := by
  obtain ⟨i0, hi, hz0, hz1, hz2⟩ := info_parts strinfo
  have hr := fun ty => Lib.run_append_nil_zeros (P := Tryz.prog) w 22 3 ty 9 i0 (.string ⟨#[]⟩) .i64 .i64 Tryz.underlying22 Tryz.underlying3 hi hz0 n h0 (by omega) (by omega) (by rw [hz2]; omega)
  have hge := grownCap_ge w n 0 9
  have hle := grownCap_le_maxLen w n 0 9 (by unfold maxLen; omega)
  obtain ⟨G, hG⟩ : ∃ G, grownCap w n 0 9 = G := ⟨_, rfl⟩
  rw [hG] at hge hle
  simp only [hG] at hr
  have hsz : (Builtin.zeroCells (Value.string ⟨#[]⟩).cells n ++ Builtin.zeroCells (Value.string ⟨#[]⟩).cells (G - n)).size = G * 1 := by
    rw [Array.size_append, size_zeroCells, size_zeroCells]
    simp [Value.cells]
    omega
  obtain ⟨C, hC⟩ : ∃ C, Builtin.zeroCells (Value.string ⟨#[]⟩).cells n ++ Builtin.zeroCells (Value.string ⟨#[]⟩).cells (G - n) = C := ⟨_, rfl⟩
  rw [hC] at hsz
  simp only [hC] at hr
  have HO : Hid (Strs (w.drew.alloc (.cells C 9)) w.heap.size (.slice (some ⟨w.heap.size, 0, none⟩) 0 G) []) := Lib.hid (by
    have := World.ownsRow_made (base := w.heap.size) (e := 9) (size := 1) w.drew C G (by simp) hle hsz
    simpa [Strs] using this)
  have HB : Hid (Below w.heap.size w (w.drew.alloc (.cells C 9))) := Lib.hid ((below_drewN _ _ 1).alloc (by simp) _)
  clear hC hsz hG hi hz0 hz1 hz2
  have hm : G ≤ 9223372036854775807 := by unfold maxLen at hle; omega
  have g1 : ¬ ((n : Int) < 0) := by omega
  have g2 : (0 : Int) < (n : Int) := by omega
  have g3 : IntKind.i64.wrap ((n : Int) - 0) = n := by rw [Int.sub_zero]; exact IntWalk.i64_in _ (by omega)
  go_enter Tryz.func94, Tryz.ntmps94
  go_wp2_with (at_builtin; refine Lib.wpList_append_run _ rfl _ _ _ _ rfl _ _ rfl rfl _ _ (hr _) ?_)
  all_goals (go_ret; exact ⟨_, rfl, HO.out, HB.out⟩)

set_option maxRecDepth 100000 in
set_option maxHeartbeats 4000000 in
theorem concat2_any (q : Nat) (v1 v2 : Value) (l1 l2 : List (List UInt8)) (w : World) (e0 : w.cell? ⟨q, 0, none⟩ = some v1) (e1 : w.cell? ⟨q, 1, none⟩ = some v2) (h1 : RdS w v1 l1) (h2 : RdS w v2 l2) (n1 : l1.length ≤ 1048576) (n2 : l2.length ≤ 1048576) (n0 : 0 < l1.length + l2.length) :
    Calls Tryz.prog 47 #[.slice (some ⟨q, 0, none⟩) 2 2] w fun e w' => ∃ v, e = .returned v ∧ Strs w' w.heap.size v (l1 ++ l2) ∧ Below w.heap.size w w' := by
  have H1 := Lib.hid h1
  have H2 := Lib.hid h2
  have HG := Lib.hid (growNil_any (l1.length + l2.length) w n0 (by omega))
  simp only [Int.natCast_add] at HG
  obtain ⟨A1, c1, rfl, _⟩ := h1
  obtain ⟨A2, c2, rfl, _⟩ := h2
  have w1 : IntKind.i64.wrap (0 + (l1.length : Int)) = l1.length := by rw [Int.zero_add]; exact IntWalk.i64_in _ (by omega)
  have w2 : IntKind.i64.wrap ((l1.length : Int) + (l2.length : Int)) = (l1.length : Int) + (l2.length : Int) := IntWalk.i64_in _ (by omega)
  have s1 : ¬ ((l1.length : Int) < 0) := by omega
  have s2 : ¬ ((l1.length : Int) + (l2.length : Int) < 0) := by omega
  go_enter Tryz.func47, Tryz.ntmps47
  go_wp2_with fail
  go_loopw [3, 5, 11] (fun s _ i wr => w = wr ∧ ((i = .int .i64 0 ∧ s = .int .i64 0) ∨ (i = .int .i64 1 ∧ s = .int .i64 l1.length) ∨ (i = .int .i64 2 ∧ s = .int .i64 ((l1.length : Int) + (l2.length : Int))))) (fun _ _ i _ => 2 - (intOf i).toNat)
  case atStart => exact ⟨rfl, .inl ⟨rfl, rfl⟩⟩
  case round =>
    obtain ⟨rfl, ⟨rfl, rfl⟩ | ⟨rfl, rfl⟩ | ⟨rfl, rfl⟩⟩ := hrel
    · go_wp2_with fail
      go_roundw
      case rel => exact ⟨trivial, .inr (.inl ⟨rfl, rfl⟩)⟩
      case measure => simp [intOf]
    · go_wp2_with fail
      go_roundw
      case rel => exact ⟨trivial, .inr (.inr ⟨rfl, rfl⟩)⟩
      case measure => simp [intOf]
    · go_wp2_with fail
      refine HG.out.mono ?_
      rintro e w3 ⟨v, rfl, hS, hb⟩
      go_wp2_with fail
      go_loopw [6, 8, 27] (fun v _ i W => Below w.heap.size w W ∧ ((i = .int .i64 0 ∧ Strs W w.heap.size v []) ∨ (i = .int .i64 1 ∧ Strs W w.heap.size v l1) ∨ (i = .int .i64 2 ∧ Strs W w.heap.size v (l1 ++ l2)))) (fun _ _ i _ => 2 - (intOf i).toNat)
      case atStart => exact ⟨hb, .inl ⟨rfl, hS⟩⟩
      case round =>
        obtain ⟨hbw, hor⟩ := hrel
        have hsz := hbw.size
        have d0 := keepC hbw e0
        have d1 := keepC hbw e1
        have r1 := H1.out.below hbw
        have r2 := H2.out.below hbw
        obtain ⟨rfl, hT⟩ | ⟨rfl, hT⟩ | ⟨rfl, hT⟩ := hor
        · go_wp2_with (at_builtin; refine wpList_append_texts rfl _ _ rfl w.heap.size _ [] rfl hT _ l1 rfl r1 (by simp; omega) hsz ?_; intro v' w5 hS5 hg5)
          have B5 := hbw.grown hg5 hsz (fun g h => hT.owned g h)
          go_roundw
          case rel => exact ⟨B5, .inr (.inl ⟨rfl, hS5⟩)⟩
          case measure => simp [intOf]
        · go_wp2_with (at_builtin; refine wpList_append_texts rfl _ _ rfl w.heap.size _ l1 rfl hT _ l2 rfl r2 (by omega) hsz ?_; intro v' w5 hS5 hg5)
          have B5 := hbw.grown hg5 hsz (fun g h => hT.owned g h)
          go_roundw
          case rel => exact ⟨B5, .inr (.inr ⟨rfl, hS5⟩)⟩
          case measure => simp [intOf]
        · go_wp2_with fail
          go_ret
          exact ⟨_, rfl, hT, hbw⟩
end Go.Proofs.YtongpnknmgbhjaaGreatDoor

/-
  impl.above: the version below which one is alone.
-/
namespace Go.Proofs.YtongpnknmgbhjaaGreatDoor
open Go.RowKit

theorem set_grown (w : World) (g k : Nat) (x : Value) : w.grownBy (w.setCell ⟨g, k, none⟩ x) (some g) := ⟨rfl, rfl, rfl, by simp, fun j _ hj => heap_setCell_other w ⟨g, k, none⟩ j x (fun e => hj (by simp [e]))⟩
theorem two_cells {V : World} {B : Nat} {T : TypeId} {v0 v1 : Value} (h : V.heap[B]? = some (.cells #[v0, v1] T)) : V.cell? ⟨B, 0, none⟩ = some v0 ∧ V.cell? ⟨B, 1, none⟩ = some v1 := by simp [World.cell?, h]
/-- What impl.above hands back. -/
def abvL (a b c : Int) (ls : List (List UInt8)) : List UInt8 := if ls = [] then verText a b (c + 1) [[48]] else verText a b c (ls ++ [[48]])

set_option maxRecDepth 100000 in
set_option maxHeartbeats 4000000 in
theorem above_any (a b c : Int) (v : Value) (ls : List (List UInt8)) (w : World) (hr : RdS w v ls) (hv : verOk a b c ls = true) (ht : Tab w) :
    Calls Tryz.prog 113 #[.agg #[.int .i64 a, .int .i64 b, .int .i64 c, v]] w fun e w' => e = .returned (.string ⟨(abvL a b c ls).toArray⟩) ∧ Below w.heap.size w w' := by
  have hn := verOk_num hv
  have HLE := Lib.hid (verOk_len hv)
  have HR := Lib.hid hr
  obtain ⟨A, cap, rfl, _⟩ := hr
  by_cases hz : ls = []
  · subst hz
    have HX := Lib.hid (fun (W : World) (h : Below w.heap.size w W) => raised_any a b c A 0 cap W (tab_below ht h) (by omega))
    have HT : Hid (abvL a b c [] = verText a b (c + 1) [[48]]) := Lib.hid (if_pos rfl)
    rw [HT.out]
    clear ht HR hv hn HLE
    go_enter Tryz.func113, Tryz.ntmps113
    go_wp2_with fail
    refine (HX.out _ ((Below.refl _ _).alloc (Nat.le_refl _) _)).mono ?_
    rintro e w5 ⟨rfl, hb5⟩
    go_wp2_with fail
    go_ret
    exact ⟨rfl, ((Below.refl _ _).alloc (Nat.le_refl _) _).trans (hb5.mono (by simp))⟩
  · have HT : Hid (abvL a b c ls = verText a b c (ls ++ [[48]])) := Lib.hid (if_neg hz)
    rw [HT.out]
    have hpos : 0 < ls.length := List.length_pos_iff.2 hz
    have HV := Lib.hid (fun (u : Value) (q : Nat) (W : World) (h : Strs W q u (ls ++ [[48]])) (hb : Below w.heap.size w W) => implVersionText_any a b c q u (ls ++ [[48]]) W h ⟨by simp; omega, fun x hx => by
      rcases List.mem_append.1 hx with h' | h'
      · have := HLE.out x h'; omega
      · simp at h'; subst h'; simp⟩ (tab_below ht hb))
    obtain ⟨t, HTT⟩ : ∃ t, Hid (verText a b c (ls ++ [[48]]) = t) := ⟨_, Lib.hid rfl⟩
    simp only [HTT.out] at HV
    rw [HTT.out]
    have nz : ((ls.length : Int) == 0) = false := int_beq_false (by omega)
    have B3 := below_three w (.cells #[.int .i64 a, .int .i64 b, .int .i64 c, .slice A ls.length cap] 127) (.cells #[.string ⟨#[48]⟩] 9) (.cells #[.slice A ls.length cap, .slice (some ⟨w.heap.size + 1, 0, none⟩) 1 1] 22)
    have HC := Lib.hid (fun (W : World) (hb : Below w.heap.size w W) (v2 : Value) (e0 : W.cell? ⟨w.heap.size + 1 + 1, 0, none⟩ = some (.slice A ls.length cap)) (e1 : W.cell? ⟨w.heap.size + 1 + 1, 1, none⟩ = some v2) (h2 : RdS W v2 [[48]]) => concat2_any (w.heap.size + 1 + 1) _ v2 ls [[48]] W e0 e1 (HR.out.below hb) h2 (by omega) (by simp) (by simp))
    have hne : ls ++ [[48]] ≠ [] := by simp
    clear ht hz hv hn HLE HR HTT
    generalize ls ++ [[48]] = L at HV HC hne
    go_enter Tryz.func113, Tryz.ntmps113
    go_wp2_with fail
    refine (HC.out _ B3 (.slice (some ⟨w.heap.size + 1, 0, none⟩) 1 1) (two_cells (heap_new (by simp) _)).1 (two_cells (heap_new (by simp) _)).2 (rdS_alloc (RdS.of_strs (strs_z _ _ (by simp) [48])) _)).mono ?_
    rintro e w5 ⟨u, rfl, hS, hb5⟩
    have B5 := B3.trans (hb5.mono (by simp; omega))
    obtain ⟨g, cp, rfl, hbg, hlt⟩ : ∃ g cp, u = .slice (some ⟨g, 0, none⟩) L.length cp ∧ w.heap.size + 1 + 1 < g ∧ g < w5.heap.size := by
      rcases hS.form with ⟨_, h⟩ | ⟨g, cp, h1, h2, h3⟩
      · exact absurd h hne
      · exact ⟨g, cp, h1, by simp at h2; omega, h3⟩
    have n5 : w5.heap[w.heap.size]? = some (.cells #[.int .i64 a, .int .i64 b, .int .i64 c, .slice A ls.length cap] 127) := keepB (keepA (keepA (heap_alloc_new w _) _) _) hb5
    obtain ⟨q0, q1, q2, q3⟩ := cells4 n5
    have f3 := frozen4 n5 3
    have hs5 : w.heap.size < w5.heap.size := lt_of_heap n5
    have HS6 : Hid (Strs (w5.setCell ⟨w.heap.size, 3, none⟩ (.slice (some ⟨g, 0, none⟩) L.length cp)) _ (.slice (some ⟨g, 0, none⟩) L.length cp) L) := Lib.hid (World.ownsRow.kept hS (set_grown w5 w.heap.size 3 _) (by right; simp [Value.ownBlock]; omega))
    have B6 := B5.setCell (p := ⟨w.heap.size, 3, none⟩) (Nat.le_refl _) (.slice (some ⟨g, 0, none⟩) L.length cp)
    clear hS hb5 B5
    go_wp2_with fail
    refine (HV.out _ _ _ HS6.out B6).mono ?_
    rintro e w7 ⟨rfl, hb7⟩
    go_wp2_with fail
    go_ret
    exact ⟨rfl, B6.trans (hb7.mono (by simp; omega))⟩
end Go.Proofs.YtongpnknmgbhjaaGreatDoor

/-
  strings.Cut at a dash.
-/
namespace Go.Proofs.YtongpnknmgbhjaaGreatDoor
open Go.RowKit

set_option maxRecDepth 100000 in
set_option maxHeartbeats 1000000 in
theorem sliteIndex_dash (s : ByteArray) (w : World) (_hs : s.size ≤ 1048576) :
    Calls Tryz.prog 198 #[.string s, .string ⟨#[45]⟩] w fun e w' => e = .returned (.int .i64 (dash s.data.toList)) ∧ w = w' := by
  by_cases he : s.data.toList = [45]
  · have e1 : ([45] == s.toList) = true := by rw [ByteArray.toList_eq, he]; rfl
    have HD : Hid (dash s.data.toList = 0) := Lib.hid (by rw [he]; rfl)
    clear he
    go_enter Tryz.func198, Tryz.ntmps198
    go_wp2_with fail
    go_ret
    exact ⟨ret_int HD.out.symm, rfl⟩
  · have e1 : ([45] == s.toList) = false := by rw [ByteArray.toList_eq]; simp; exact fun h => he h.symm
    clear he
    go_enter Tryz.func198, Tryz.ntmps198
    go_wp2_with fail
    refine (sliteIndexByte_any s 45 _).mono ?_
    rintro e w' ⟨rfl, rfl⟩
    rw [show Lib.indexByte s.data.toList (Int.toNat 45).toUInt8 = dash s.data.toList from rfl]
    go_wp2_with fail
    go_ret
    exact ⟨rfl, rfl⟩

set_option maxRecDepth 100000 in
set_option maxHeartbeats 1000000 in
theorem cutDash_yes (s : ByteArray) (w : World) (hs : s.size ≤ 1048576) (k : Nat) (hk : k < s.size) (hd : dash s.data.toList = (k : Int)) :
    Calls Tryz.prog 163 #[.string s, .string ⟨#[45]⟩] w fun e w' => e = .returned (.tuple #[.string ⟨(s.data.toList.take k).toArray⟩, .string ⟨(s.data.toList.drop (k + 1)).toArray⟩, .bool true]) ∧ ∃ n, w' = w.drewN n := by
  have HI := Lib.hid (sliteIndex_dash s w hs)
  have HD := Lib.hid hd
  clear hd
  have e1 := slice_to s _ k (k : Int) rfl (by omega) (piece s 0 k)
  have e2 := slice_from s _ (k + 1) ((k : Int) + 1) (by omega) (by omega) (piece_end s (k + 1))
  have hC : Calls Tryz.prog 203 #[.string s, .string ⟨#[45]⟩] w fun e w' => e = .returned (.tuple #[.string ⟨(s.data.toList.take k).toArray⟩, .string ⟨(s.data.toList.drop (k + 1)).toArray⟩, .bool true]) ∧ ∃ n, w' = w.drewN n := by
    go_enter Tryz.func203, Tryz.ntmps203
    go_wp2_with fail
    refine HI.out.mono ?_
    rw [HD.out]
    rintro e w' ⟨rfl, rfl⟩
    have x1 : IntKind.i64.wrap ((k : Int) + 1) = (k : Int) + 1 := IntWalk.i64_in _ (by omega)
    have x2 : (0 : Int) ≤ (k : Int) := by omega
    go_wp2_with fail
    go_quiet (fail)
    go_wp2_with fail
    go_ret3
    exact ⟨rfl, _, rfl⟩
  have HC := Lib.hid hC
  clear hC e1 e2 HI
  go_enter Tryz.func163, Tryz.ntmps163
  go_wp2_with fail
  refine HC.out.mono ?_
  rintro e w' ⟨rfl, n, rfl⟩
  go_wp2_with fail
  go_ret3
  exact ⟨rfl, _, rfl⟩

set_option maxRecDepth 100000 in
set_option maxHeartbeats 1000000 in
theorem cutDash_no (s : ByteArray) (w : World) (hs : s.size ≤ 1048576) (d : Int) (hn : ¬ 0 ≤ d) (hd : dash s.data.toList = d) :
    Calls Tryz.prog 163 #[.string s, .string ⟨#[45]⟩] w fun e w' => e = .returned (.tuple #[.string s, .string ⟨#[]⟩, .bool false]) ∧ w = w' := by
  have HI := Lib.hid (sliteIndex_dash s w hs)
  have HD := Lib.hid hd
  clear hd
  have hC : Calls Tryz.prog 203 #[.string s, .string ⟨#[45]⟩] w fun e w' => e = .returned (.tuple #[.string s, .string ⟨#[]⟩, .bool false]) ∧ w = w' := by
    go_enter Tryz.func203, Tryz.ntmps203
    go_wp2_with fail
    refine HI.out.mono ?_
    rw [HD.out]
    rintro e w' ⟨rfl, rfl⟩
    go_wp2_with fail
    go_ret3
    exact ⟨rfl, rfl⟩
  have HC := Lib.hid hC
  clear hC HI
  go_enter Tryz.func163, Tryz.ntmps163
  go_wp2_with fail
  refine HC.out.mono ?_
  rintro e w' ⟨rfl, rfl⟩
  go_wp2_with fail
  go_ret3
  exact ⟨rfl, rfl⟩
end Go.Proofs.YtongpnknmgbhjaaGreatDoor

/-
  Two boxes that an iterator reads lie as they lay.
-/
namespace Go.Proofs.YtongpnknmgbhjaaGreatDoor
open Go.RowKit Go.Shelf

/-- The two boxes that the iterator reads lie as they lay. -/
def KpB (Bs Bm : Nat) (A B : World) : Prop := B.heap[Bs]? = A.heap[Bs]? ∧ B.heap[Bm]? = A.heap[Bm]?
theorem KpB.refl (Bs Bm : Nat) (A : World) : KpB Bs Bm A A := ⟨rfl, rfl⟩
theorem kpB_t {Bs Bm : Nat} {A B C : World} (h : KpB Bs Bm A B) (k : KpB Bs Bm B C) : KpB Bs Bm A C := ⟨k.1.trans h.1, k.2.trans h.2⟩
theorem KpB.of_grown {Bs Bm : Nat} {A B : World} {row : Option Nat} (hg : A.grownBy B row) (h1 : Bs < A.heap.size) (h2 : Bm < A.heap.size) (n1 : some Bs ≠ row) (n2 : some Bm ≠ row) : KpB Bs Bm A B := ⟨hg.block Bs h1 n1, hg.block Bm h2 n2⟩
theorem KpB.of_below {Bs Bm n : Nat} {A B : World} (h : Below n A B) (h1 : Bs < n) (h2 : Bm < n) : KpB Bs Bm A B := ⟨h.block Bs h1, h.block Bm h2⟩
theorem kpB_b {Bs Bm : Nat} {w : World} (h1 : Bs < w.heap.size) (h2 : Bm < w.heap.size) (W : World) (l : Nat) (o o' : Obj) (hl : w.heap.size ≤ l) (h : W.heap[l]? = some o) (_ : o.isCells = false) (_ : o.isWalk = false) : KpB Bs Bm W (W.putObj l o') := by
  have hlt := (Array.getElem?_eq_some_iff.1 h).1
  exact KpB.of_grown (grownBy_putObj' W l o') (by omega) (by omega) (fun e => by cases e; omega) (fun e => by cases e; omega)

theorem grown_drewN (W : World) (n : Nat) : W.grownBy (W.drewN n) none := ⟨rfl, rfl, rfl, Nat.le_refl _, fun _ _ _ => rfl⟩
end Go.Proofs.YtongpnknmgbhjaaGreatDoor

/-
  impl.partsOf hands back an iterator that yields the parts of a text between a byte.
-/
namespace Go.Proofs.YtongpnknmgbhjaaGreatDoor
open Go.RowKit Go.Shelf
attribute [local go_sem] Oper.semAt_some

/-- A part: a text that is not too long. -/
abbrev Part := { x : List UInt8 // x.length ≤ 1048576 }
def partV (x : Part) : Array Value := #[.string ⟨x.1.toArray⟩]
set_option maxHeartbeats 1000000 in
theorem partsOf_in (n : Nat) (s : ByteArray) (m : Int) (w : World) :
    CallsIn Fence.wide n Tryz.prog 172 #[.string s, .int .u8 m] w fun e w' => e = .returned (.func (.func 206) #[] #[.pointer (some ⟨w.heap.size, 0, none⟩), .pointer (some ⟨w.heap.size + 1, 0, none⟩)]) ∧ w' = (w.alloc (.cells #[.string s] 9)).alloc (.cells #[.int .u8 m] 5) := by
  refine callsIn_of_wp Tryz.func172 rfl trivial ?_ rfl
  simp only [Tryz.ntmps172, List.size_toArray, List.length_cons, List.length_nil, Nat.reduceAdd, Nat.reduceSub, Array.replicate_succ, Array.replicate_zero, List.push_toArray, List.append_toArray, List.nil_append, List.cons_append]
  gi_wp2
  go_ret
  exact ⟨rfl, rfl⟩


set_option maxRecDepth 100000 in
set_option maxHeartbeats 2000000 in
theorem parts1_in (n : Nat) (hn : 1 ≤ n) (l Bs Bm : Nat) (s : ByteArray) (m : UInt8) (hs : s.size ≤ 1048576) (J Jx : List Part → World → Prop)
    (hY : ∀ pre x W, J pre W → pre.length < s.size + 1 → YieldAt Fence.wide (n - 1) Tryz.prog l (partV x) W fun e W' =>
      (e = .returned (.bool true) ∧ J (pre ++ [x]) W' ∧ KpB Bs Bm W W') ∨ (e = .returned (.bool false) ∧ Jx (pre ++ [x]) W'))
    (W : World) (hBs : W.heap[Bs]? = some (.cells #[.string s] 9 (0, 0))) (hBm : W.heap[Bm]? = some (.cells #[.int .u8 (m.toNat : Int)] 5 (0, 0))) (h0 : J [] W) (hJa : AbidesFrom W.heap.size J) :
    CallsIn Fence.wide n Tryz.prog 206 #[.func (.yield l) #[] #[], .pointer (some ⟨Bs, 0, none⟩), .pointer (some ⟨Bm, 0, none⟩)] W fun e W' => (∃ v, e = .returned v) ∧
      ((∃ ys, ys.map Subtype.val = cutL m s.data.toList ∧ J ys W') ∨ (∃ pre, pre.map Subtype.val <+: cutL m s.data.toList ∧ Jx pre W')) := by
  have hc1 : W.cell? ⟨Bs, 0, none⟩ = some (.string s) := by simp [World.cell?, hBs]
  refine callsIn_of_wp Tryz.func206 rfl trivial ?_ rfl
  simp only [Tryz.ntmps206, List.size_toArray, List.length_cons, List.length_nil, Nat.reduceAdd, Nat.reduceSub, Array.replicate_succ, Array.replicate_zero, List.push_toArray, List.append_toArray, List.nil_append, List.cons_append]
  gi_wp2
  gi_loopw [4, 5, 8] (fun f _ i wr => ∃ (k st : Nat) (pre : List Part), k ≤ s.size ∧ i = .int .i64 k ∧ f = .int .i64 st ∧ CutAt m s.data.toList k st (pre.map Subtype.val) ∧ wr.heap[Bs]? = some (.cells #[.string s] 9 (0, 0)) ∧ wr.heap[Bm]? = some (.cells #[.int .u8 (m.toNat : Int)] 5 (0, 0)) ∧ J pre wr) (fun _ _ i _ => s.size - (intOf i).toNat)
  case atStart => exact ⟨0, 0, [], Nat.zero_le _, rfl, rfl, cutAt_zero _ _, hBs, hBm, h0⟩
  case round =>
    obtain ⟨k, st, pre, hk, rfl, rfl, HP, g1, g2, hJ⟩ := hrel
    have hst := HP.2.1
    have hdl := HP.2.2
    have d1 : wr.cell? ⟨Bs, 0, none⟩ = some (.string s) := by simp [World.cell?, g1]
    have d2 : wr.cell? ⟨Bm, 0, none⟩ = some (.int .u8 (m.toNat : Int)) := by simp [World.cell?, g2]
    by_cases hlt : k < s.size
    · have k0 : (0 : Int) ≤ (k : Int) := by omega
      have k1 : (k : Int) < (s.size : Int) := by omega
      gi_wp2
      gi_quiet (fail)
      have hJ2 : J pre (wr.drewN nq) := hJa pre wr _ none hJ (grown_drewN wr nq) (fun r e => by cases e)
      have g1' : (wr.drewN nq).heap[Bs]? = some (.cells #[.string s] 9 (0, 0)) := g1
      have g2' : (wr.drewN nq).heap[Bm]? = some (.cells #[.int .u8 (m.toNat : Int)] 5 (0, 0)) := g2
      have d1' : (wr.drewN nq).cell? ⟨Bs, 0, none⟩ = some (.string s) := d1
      generalize wr.drewN nq = wq at hJ2 g1' g2' d1' ⊢
      clear d1 d2 g1 g2 hJ
      by_cases hc : s[k] = m
      · have hb1 : ((s[k].toNat : Int) != (m.toNat : Int)) = false := by rw [hc]; simp
        have HN := Lib.hid (cutAt_mark HP hlt hc)
        have he := slice_str s _ st k (st : Int) (k : Int) rfl rfl (by omega) (by omega) (piece s st k)
        obtain ⟨x, hx⟩ : ∃ x : Part, x.1 = (s.data.toList.take k).drop st := ⟨⟨(s.data.toList.take k).drop st, by simp; omega⟩, rfl⟩
        rw [← hx] at he
        have HX := Lib.hid hx
        have hyy := hY pre x wq hJ2 (by have := hdl; simp at this; omega)
        unfold partV at hyy
        obtain ⟨fn, tmps, assign, body, hy, hR⟩ := hyy
        have HPRE : Hid ((pre ++ [x]).map Subtype.val <+: cutL m s.data.toList) := Lib.hid (by rw [HN.out.1, List.map_append, ← HX.out]; exact List.prefix_append _ _)
        have HR := Lib.hid hR
        clear HP hc hx hdl hR
        gi_wp2
        refine HR.out.mono ?_
        rintro e W3 (⟨rfl, hJ3, hk3⟩ | ⟨rfl, hJx3⟩)
        · gi_wp2
          go_roundw
          case rel => exact ⟨k + 1, k + 1, pre ++ [x], by omega, by go_num, by go_num, by rw [List.map_append]; have := HN.out; rw [← HX.out] at this; exact this, hk3.1.trans g1', hk3.2.trans g2', hJ3⟩
          case measure => simp [intOf]; omega
        · gi_wp2
          refine bodyPost_ret (results_none rfl _ _ _) rfl ?_
          exact ⟨⟨_, rfl⟩, .inr ⟨pre ++ [x], HPRE.out, hJx3⟩⟩
      · have hb1 : ((s[k].toNat : Int) != (m.toNat : Int)) = true := int_bne_true (fun h => hc (UInt8.toNat_inj.1 (by omega)))
        have HN := Lib.hid (cutAt_pass HP hlt hc)
        clear HP hc
        gi_wp2
        go_roundw
        case rel => exact ⟨k + 1, st, pre, by omega, by go_num, rfl, HN.out, g1', g2', hJ2⟩
        case measure => simp [intOf]; omega
    · have HN := Lib.hid (cutAt_end HP hlt)
      have he := slice_from s _ st (st : Int) rfl (by omega) (piece_end s st)
      obtain ⟨x, hx⟩ : ∃ x : Part, x.1 = s.data.toList.drop st := ⟨⟨s.data.toList.drop st, by simp; omega⟩, rfl⟩
      rw [← hx] at he
      have HX := Lib.hid hx
      have hyy := hY pre x wr hJ (by have := hdl; simp at this; omega)
      unfold partV at hyy
      obtain ⟨fn, tmps, assign, body, hy, hR⟩ := hyy
      have HALL : Hid ((pre ++ [x]).map Subtype.val = cutL m s.data.toList) := Lib.hid (by rw [HN.out, List.map_append, ← HX.out]; rfl)
      have HR := Lib.hid hR
      clear HP hx hdl hR
      gi_wp2
      refine HR.out.mono ?_
      rintro e W3 (⟨rfl, hJ3, hk3⟩ | ⟨rfl, hJx3⟩)
      · gi_wp2
        go_end0
        exact ⟨⟨_, rfl⟩, .inl ⟨pre ++ [x], HALL.out, hJ3⟩⟩
      · gi_wp2
        go_end0
        exact ⟨⟨_, rfl⟩, .inr ⟨pre ++ [x], by rw [HALL.out]; exact List.prefix_rfl, hJx3⟩⟩

/-- The iterator's contract, for a caller. -/
theorem parts_stops (n : Nat) (hn : 1 ≤ n) (Bs Bm : Nat) (s : ByteArray) (m : UInt8) (hs : s.size ≤ 1048576) (w : World) (h1 : Bs < w.heap.size) (h2 : Bm < w.heap.size)
    (hBs : w.heap[Bs]? = some (.cells #[.string s] 9 (0, 0))) (hBm : w.heap[Bm]? = some (.cells #[.int .u8 (m.toNat : Int)] 5 (0, 0))) :
    SeqStopsK Fence.wide n Tryz.prog 206 #[.pointer (some ⟨Bs, 0, none⟩), .pointer (some ⟨Bm, 0, none⟩)] partV (KpB Bs Bm) (fun ys => ys.map Subtype.val = cutL m s.data.toList) (fun pre => pre.map Subtype.val <+: cutL m s.data.toList) (s.size + 1) w := fun l J Jx W hW hJ _ hY h0 =>
  parts1_in n hn l Bs Bm s m hs J Jx hY W ((hW.block Bs h1).trans hBs) ((hW.block Bm h2).trans hBm) h0 hJ
end Go.Proofs.YtongpnknmgbhjaaGreatDoor

/-
  strings.Clone and what it calls, as the library lays it, at this seat.
-/
namespace Go.Proofs
open Go.Shelf
def Tryz.lays316_ren : Go.Shelf.Ren := ⟨fun | 316 => 171 | n => n, fun | 9 => 9 | 3 => 3 | 4 => 4 | 37 => 138 | 0 => 0 | 127 => 200 | 5 => 5 | n => n, fun | n => n⟩
theorem Tryz.lays316 : Go.Proofs.LaysM.n316 Tryz.prog Tryz.lays316_ren := {
  mixed := by kernel_rfl
  f316 := Tryz.func171.trans (congrArg some (by kernel_rfl))
  t0 := Tryz.underlying0
  a0 := Tryz.isAgg0
  z0 := Tryz.sizeOf0
  v0 := Tryz.zeroValue0
  t3 := Tryz.underlying3
  a3 := Tryz.isAgg3
  z3 := Tryz.sizeOf3
  v3 := Tryz.zeroValue3
  t4 := Tryz.underlying4
  a4 := Tryz.isAgg4
  z4 := Tryz.sizeOf4
  v4 := Tryz.zeroValue4
  t9 := Tryz.underlying9
  a9 := Tryz.isAgg9
  z9 := Tryz.sizeOf9
  v9 := Tryz.zeroValue9
  t37 := Tryz.underlying138
  a37 := Tryz.isAgg138
  z37 := Tryz.sizeOf138
  v37 := Tryz.zeroValue138
  t127 := Tryz.underlying200
  a127 := Tryz.isAgg200
  z127 := Tryz.sizeOf200
  v127 := Tryz.zeroValue200
  t5 := Tryz.underlying5
  a5 := Tryz.isAgg5
  z5 := Tryz.sizeOf5
  v5 := Tryz.zeroValue5
  i0 := by kernel_rfl
  i3 := by kernel_rfl
  i4 := by kernel_rfl
  i5 := by kernel_rfl
  i9 := by kernel_rfl
  i37 := by kernel_rfl
  i127 := by kernel_rfl }
end Go.Proofs

/-
  strings.Clone returns the same bytes.
-/
namespace Go.Proofs
open Go.Shelf
namespace YtongpnknmgbhjaaGreatDoor
open Go.RowKit
theorem slClone_any (s : ByteArray) (w : World) (hs : s.size ≤ 1048576) :
    Calls Tryz.prog 171 #[.string s] w fun e w' => e = .returned (.string s) ∧ Below w.heap.size w w' := Any.stringslite_Clone Tryz.lays316 s w (by omega)
theorem clone_any (s : ByteArray) (w : World) (hs : s.size ≤ 1048576) :
    Calls Tryz.prog 116 #[.string s] w fun e w' => e = .returned (.string s) ∧ Below w.heap.size w w' := by
  go_enter Tryz.func116, Tryz.ntmps116
  go_wp2_with (go_at_call 171; refine (slClone_any _ _ hs).mono ?_; rintro e w' ⟨rfl, hb⟩)
  go_ret
  exact ⟨rfl, hb⟩
end YtongpnknmgbhjaaGreatDoor
end Go.Proofs

namespace Go.Proofs.YtongpnknmgbhjaaGreatDoor
open Go.RowKit Go.Shelf
attribute [local go_sem] Oper.semAt_some

/-- What splitAt has in its box: the parts so far. -/
def SpJ (w : World) (ls : List (List UInt8)) (W : World) : Prop :=
  w.heap.size + 4 ≤ W.heap.size ∧ ∃ v, Boxed W (w.heap.size + 1) 22 v ∧ Strs W w.heap.size v ls ∧ (∀ g, v.ownBlock = some g → g ≠ w.heap.size + 1 ∧ g ≠ w.heap.size + 2 ∧ g ≠ w.heap.size + 3)
theorem spJ_own (w : World) (B : Nat) : OwnFrom B (fun (pre : List Part) W => SpJ w (pre.map Subtype.val) W) := by
  rintro pre W W' row ⟨h4, v, hB, hS, hne⟩ hg hr
  refine ⟨Nat.le_trans h4 hg.size, v, hB.kept hg (fun e => ?_), World.ownsRow.kept hS hg ?_, hne⟩
  · obtain ⟨_, o, ho, hc⟩ := hr _ e.symm
    rw [show W.heap[_]? = _ from hB] at ho; cases ho; cases hc
  · rcases hS.2 with ⟨rfl, _⟩ | ⟨g, cap, cur, rfl, _, hh, _⟩
    · left; rfl
    · right
      intro e
      obtain ⟨_, o, ho, hc⟩ := hr g (by simpa [Value.ownBlock] using e.symm)
      rw [hh] at ho; cases ho; cases hc

theorem spl_end (w W w1 w3 : World) (v : Value) (ls : List (List UInt8)) (x : List UInt8) (o : Obj) (g cap : Nat) (h4 : w.heap.size + 4 ≤ W.heap.size) (hR : Boxed W (w.heap.size + 1) 22 v) (hS : Strs W w.heap.size v ls)
    (hne : ∀ g, v.ownBlock = some g → g ≠ w.heap.size + 1 ∧ g ≠ w.heap.size + 2 ∧ g ≠ w.heap.size + 3) (hB : Below w.heap.size w W) (hb1 : Below W.drew.heap.size W.drew w1) (hg3 : (w1.alloc o).grownBy w3 v.ownBlock)
    (hS3 : Strs w3 w.heap.size (.slice (some ⟨g, 0, none⟩) (ls.length + 1) cap) (ls ++ [x])) (hg4 : v.ownBlock = some g ∨ g = (w1.alloc o).heap.size) :
    Boxed w3 (w.heap.size + 1) 22 v ∧ KeepsOthers W (w3.setCell ⟨w.heap.size + 1, 0, none⟩ (.slice (some ⟨g, 0, none⟩) (ls.length + 1) cap)) ∧ KpB (w.heap.size + 1 + 1) (w.heap.size + 1 + 1 + 1) W (w3.setCell ⟨w.heap.size + 1, 0, none⟩ (.slice (some ⟨g, 0, none⟩) (ls.length + 1) cap)) ∧
      SpJ w (ls ++ [x]) (w3.setCell ⟨w.heap.size + 1, 0, none⟩ (.slice (some ⟨g, 0, none⟩) (ls.length + 1) cap)) ∧ Below w.heap.size w (w3.setCell ⟨w.heap.size + 1, 0, none⟩ (.slice (some ⟨g, 0, none⟩) (ls.length + 1) cap)) := by
  have hs1 : W.heap.size ≤ w1.heap.size := hb1.size
  have hs3 : w1.heap.size + 1 ≤ w3.heap.size := by have := hg3.size; simpa using this
  have hgne : g ≠ w.heap.size + 1 ∧ g ≠ w.heap.size + 2 ∧ g ≠ w.heap.size + 3 := by
    rcases hg4 with h | h
    · exact hne g h
    · simp at h; omega
  have hG : W.grownBy w3 v.ownBlock := ⟨hg3.os.trans hb1.os, hg3.tape.trans hb1.tape, hg3.output.trans hb1.output, by omega, fun k hk hkn =>
    (hg3.block k (by simp; omega) hkn).trans ((Below.heap_alloc _ _ _ (by omega)).trans (hb1.block k hk))⟩
  have hR3 : Boxed w3 (w.heap.size + 1) 22 v := hR.kept hG (fun e => (hne _ e.symm).1 rfl)
  have hK : KeepsOthers W w3 := KeepsOthers.of_grownBy hG (fun j o' ej hj => by
    rcases hS.2 with ⟨rfl, _⟩ | ⟨g', cap', cur, rfl, _, hh, _⟩
    · simp [Value.ownBlock] at ej
    · simp [Value.ownBlock] at ej
      subst ej
      rw [hh] at hj; cases hj; rfl)
  have hBel : Below w.heap.size w w3 := hB.grown hG (by omega) hS.owned
  have k1 : w3.heap[w.heap.size + 1 + 1]? = W.heap[w.heap.size + 1 + 1]? := hG.block _ (by omega) (fun e => (hne _ e.symm).2.1 (by omega))
  have k2 : w3.heap[w.heap.size + 1 + 1 + 1]? = W.heap[w.heap.size + 1 + 1 + 1]? := hG.block _ (by omega) (fun e => (hne _ e.symm).2.2 (by omega))
  refine ⟨hR3, hK.trans (KeepsOthers.setCell _ _ _), ⟨(Below.heap_setCell _ _ _ _ (by simp)).trans k1, (Below.heap_setCell _ _ _ _ (by simp; omega)).trans k2⟩, ⟨by simp; omega, _, hR3.set _, ?_, ?_⟩, hBel.setCell (p := ⟨w.heap.size + 1, 0, none⟩) (by simp) _⟩
  · exact World.ownsRow.kept hS3 (grownBy_setCell' w3 (w.heap.size + 1) _) (by right; simp [Value.ownBlock]; omega)
  · intro g' hg'
    simp [Value.ownBlock] at hg'
    subst hg'
    exact hgne

theorem step_append_in {F : Fence} {n : Nat} {w : World} {ops : Array Oper} {o : Oper} {a : Act} {K : Act → World → Prop} {Q : Exit → Act → World → Prop} {E : Prop} (hgd : o.guard = none) (s x : Operand)
    (ho : o.op = .call { callee := .builtin .append, args := #[s, x], argTypes := #[22, 22] })
    (base : Nat) (v : Value) (l : List (List UInt8)) (hs : a.eval s = v) (hown : Strs w base v l) (y : List UInt8) (B c : Nat) (t : TypeId) (fr : Nat × Nat)
    (hx : a.eval x = .slice (some ⟨B, 0, none⟩) 1 c) (hblk : w.heap[B]? = some (.cells #[sv y] t fr)) (hlen : l.length + 1 ≤ 16777216) (hbase : base ≤ w.heap.size)
    (h : ∀ g cap w', Strs w' base (.slice (some ⟨g, 0, none⟩) (l.length + 1) cap) (l ++ [y]) → w.grownBy w' v.ownBlock → (v.ownBlock = some g ∨ g = w.heap.size) → K (a.put o.dst (.slice (some ⟨g, 0, none⟩) (l.length + 1) cap)) w') :
    if Region.wanted o (yielded ops a.tmps) = true then Oper.wpIn F n Tryz.prog o a w K Q else E := by
  have hw : Region.wanted o (yielded ops a.tmps) = true := by simp [Region.wanted, hgd]
  rw [if_pos hw]
  obtain ⟨g, cap, w', hr, h2, h3, h4⟩ := run_append_strs w o.type base v l hown y B c t fr hblk hlen hbase
  refine ⟨?_, ?_⟩
  · intro f hf
    simp [Oper.about, ho, resolve, Target.leads, go_sem] at hf
  · rw [Oper.semAt_eq _ _ _ (by intro c hc; rw [ho] at hc; cases hc)]
    unfold execOp
    simp only [ho, resolve, invoke, builtin, Sem.run_bind, Sem.run_pure, Result.andThen_ok, List.map_toArray, List.map_cons, List.map_nil, hs, hx, hr]
    exact h g cap w' h2 h3 h4

set_option maxRecDepth 100000 in
set_option maxHeartbeats 4000000 in
theorem splitAt_in (n : Nat) (hn : 4 ≤ n) (s : ByteArray) (m : UInt8) (w : World) (hs : s.size ≤ 1048576) :
    CallsIn Fence.wide n Tryz.prog 199 #[.string s, .int .u8 (m.toNat : Int)] w fun e W' => ∃ g cap, e = .returned (.slice (some ⟨g, 0, none⟩) (cutL m s.data.toList).length cap) ∧ Strs W' w.heap.size (.slice (some ⟨g, 0, none⟩) (cutL m s.data.toList).length cap) (cutL m s.data.toList) ∧ Below w.heap.size w W' := by
  have h1 : 1 ≤ n := by omega
  have hn2 : 1 ≤ n - 1 - 1 := by omega
  refine callsIn_of_wp_marks Tryz.func199 rfl trivial ?_ rfl
  simp only [Tryz.ntmps199, List.size_toArray, List.length_cons, List.length_nil, Nat.reduceAdd, Nat.reduceSub, Array.replicate_succ, Array.replicate_zero, List.push_toArray, List.append_toArray, List.nil_append, List.cons_append]
  gi_wp2_with (refine ⟨trivial, ?_⟩; gi_at_call 172; refine (partsOf_in _ _ _ _).mono ?_; rintro e w' ⟨rfl, rfl⟩)
  have b1 := Boxed.new (w.alloc (.cells #[] 9)) 22 (.slice (some ⟨w.heap.size, 0, none⟩) 0 0)
  have b3 := Boxed.new ((w.alloc (.cells #[] 9)).alloc (.cells #[.slice (some ⟨w.heap.size, 0, none⟩) 0 0] 22)) 9 (.string s)
  have b4 := Boxed.new (((w.alloc (.cells #[] 9)).alloc (.cells #[.slice (some ⟨w.heap.size, 0, none⟩) 0 0] 22)).alloc (.cells #[.string s] 9)) 5 (.int .u8 (m.toNat : Int))
  simp only [World.size_alloc] at b1 b3 b4
  have hB0 : Below w.heap.size w ((((w.alloc (.cells #[] 9)).alloc (.cells #[.slice (some ⟨w.heap.size, 0, none⟩) 0 0] 22)).alloc (.cells #[.string s] 9)).alloc (.cells #[.int .u8 (m.toNat : Int)] 5)) := ((((Below.refl _ w).alloc (Nat.le_refl _) _).alloc (by simp) _).alloc (by simp; omega) _).alloc (by simp; omega) _
  have b1' := (b1.alloc (.cells #[.string s] 9)).alloc (.cells #[.int .u8 (m.toNat : Int)] 5)
  have b3' := b3.alloc (.cells #[.int .u8 (m.toNat : Int)] 5)
  have hS0 := (((Strs.empty w w.heap.size (Nat.le_refl _)).alloc (.cells #[.slice (some ⟨w.heap.size, 0, none⟩) 0 0] 22)).alloc (.cells #[.string s] 9)).alloc (.cells #[.int .u8 (m.toNat : Int)] 5)
  clear b1 b3
  obtain ⟨W0, hW0⟩ : ∃ W0, ((((w.alloc (.cells #[] 9)).alloc (.cells #[.slice (some ⟨w.heap.size, 0, none⟩) 0 0] 22)).alloc (.cells #[.string s] 9)).alloc (.cells #[.int .u8 (m.toNat : Int)] 5)) = W0 := ⟨_, rfl⟩
  have hsz : W0.heap.size = w.heap.size + 4 := by rw [← hW0]; simp
  rw [hW0] at b1' b3' b4 hS0 hB0 ⊢
  clear hW0
  have HSZ := Lib.hid hsz
  clear hsz
  refine wpIn_rangeFunc_ownF rfl h1 (gf := 206) (lb := #[.pointer (some ⟨w.heap.size + 1 + 1, 0, none⟩), .pointer (some ⟨w.heap.size + 1 + 1 + 1, 0, none⟩)]) rfl trivial (enters_of Tryz.func206 (by kernel_rfl) rfl)
    (parts_stops (n - 1) (by omega) (w.heap.size + 1 + 1) (w.heap.size + 1 + 1 + 1) s m hs W0 (by rw [HSZ.out]; omega) (by rw [HSZ.out]; omega) b3' b4) kpB_t (kpB_b (by rw [HSZ.out]; omega) (by rw [HSZ.out]; omega)) (Below.refl _ _) (fun _ => rfl)
    (fun pre W => SpJ w (pre.map Subtype.val) W ∧ Below w.heap.size w W)
    (fun c pre W => False)
    (OwnFrom.and (spJ_own w _) (ownFrom_below (Nat.le_refl _) (by rw [HSZ.out]; omega)))
    (fun c => ownFrom_pure _ _)
    ⟨⟨by rw [HSZ.out]; exact Nat.le_refl _, _, b1', hS0, fun g hg => by simp [Value.ownBlock] at hg; omega⟩, hB0⟩
    (fun x => { tmps := #[.string s, .int .u8 (m.toNat : Int), undef, undef, .slice none 0 0, .pointer (some ⟨w.heap.size + 1, 0, none⟩), .string ⟨x.1.toArray⟩, .slice (some ⟨w.heap.size, 0, none⟩) 0 0, .string s, .int .u8 (m.toNat : Int), .func (.func 206) #[] #[.pointer (some ⟨w.heap.size + 1 + 1, 0, none⟩), .pointer (some ⟨w.heap.size + 1 + 1 + 1, 0, none⟩)], .string ⟨x.1.toArray⟩, undef, undef, undef, undef, undef, undef], defers := [] }) ?assign ?body ?done ?stop
  case assign =>
    intro l x W K hK
    unfold partV
    gi_wp2
    exact hK
  case body =>
    rintro l pre x W ⟨⟨h4, v, hR, hS, hne⟩, hB⟩ hpl
    have cR := hR.cell
    have fR := hR.frozen
    obtain ⟨b, hbE⟩ : ∃ b : ByteArray, b = ⟨x.1.toArray⟩ := ⟨_, rfl⟩
    have hbl : b.data.toList = x.1 := by rw [hbE]
    have hbs : b.size ≤ 1048576 := by rw [hbE]; show x.1.toArray.size ≤ _; simpa using x.2
    rw [← hbE]
    have HBL := Lib.hid hbl
    clear hbE hbl
    gi_wp2
    have hlt : w.heap.size + 1 < W.drew.heap.size := hR.lt
    have cR' : W.drew.cell? ⟨w.heap.size + 1, 0, none⟩ = some v := cR
    have fR' : W.drew.frozen? ⟨w.heap.size + 1, 0, none⟩ = false := fR
    have hCl := CallsIn.inRound (n := n - 1 - 1 - 1) l (callsIn_wide.2 (clone_any b W.drew hbs))
    have HCL := Lib.hid hCl
    clear hCl
    refine wpIn_region_any (by kernel_rfl) ?_
    change wpAnyIn _ _ _ _ _ _ _ _ _ (World.drew _)
    have HPL : Hid ((pre.map Subtype.val).length + 1 ≤ 16777216) := Lib.hid (by simp; omega)
    refine wpAnyIn_ready (rs := [0, 1]) (by kernel_rfl) (by simp) (AllReadyIn.cons rfl (fun K hK => ?_) (AllReadyIn.cons rfl (fun K hK => ?_) AllReadyIn.nil)) <;> go_simp <;> refine hK _ _ ?_ <;> clear hK K
    · refine wpAnyIn_ready (rs := [1]) (by kernel_rfl) (by simp) (AllReadyIn.cons rfl (fun K hK => ?_) AllReadyIn.nil)
      go_simp
      refine hK _ _ ?_
      clear hK K
      refine wpAnyIn_ready (rs := [2]) (by kernel_rfl) (by simp) (AllReadyIn.cons rfl (fun K hK => ?_) AllReadyIn.nil)
      go_simp
      refine ⟨trivial, ?_⟩
      refine HCL.out.mono ?_
      rintro e w1 ⟨rfl, hb1⟩
      refine hK _ _ ?_
      clear hK K
      obtain ⟨c1, hlt1⟩ := keep_cell hb1 hlt cR'
      have HSI : Hid (w.heap.size ≤ (w1.alloc (.cells #[.string b] 9)).heap.size) := Lib.hid (by have := hb1.size; simp at this ⊢; omega)
      refine wpAnyIn_ready (rs := [3]) (by kernel_rfl) (by simp) (AllReadyIn.cons rfl (fun K hK => ?_) AllReadyIn.nil)
      go_simp
      refine hK _ _ ?_
      clear hK K
      refine wpAnyIn_ready (rs := [4]) (by kernel_rfl) (by simp) (AllReadyIn.cons rfl (fun K hK => ?_) AllReadyIn.nil)
      refine step_append_in rfl _ _ rfl w.heap.size v (pre.map Subtype.val) rfl ((hS.drew.below hb1).alloc _) b.data.toList w1.heap.size 1 _ _ rfl (heap_alloc_new w1 _) HPL.out HSI.out ?_
      intro g cap w3 hS3 hg3 hg4
      refine hK _ _ ?_
      clear hK K
      rw [HBL.out] at hS3
      have HE := Lib.hid (spl_end w W w1 w3 v _ _ _ g cap h4 hR hS hne hB hb1 hg3 hS3 hg4)
      have c3 := HE.out.1.cell
      have f3 := HE.out.1.frozen
      clear hS3 hg3 hg4
      refine wpAnyIn_ready (rs := [5]) (by kernel_rfl) (by simp) (AllReadyIn.cons rfl (fun K hK => ?_) AllReadyIn.nil)
      go_simp
      refine hK _ _ ?_
      clear hK K
      refine wpAnyIn_done (by kernel_rfl) ?_ _
      have hE := HE.out.2
      simp only [List.length_map] at hE
      refine ⟨hE.1, hE.2.1, ?_, hE.2.2.2⟩
      rw [List.map_append]
      exact hE.2.2.1
    · refine wpAnyIn_ready (rs := [0, 2]) (by kernel_rfl) (by simp) (AllReadyIn.cons rfl (fun K hK => ?_) (AllReadyIn.cons rfl (fun K hK => ?_) AllReadyIn.nil)) <;> go_simp
      · refine hK _ _ ?_
        clear hK K
        refine wpAnyIn_ready (rs := [2]) (by kernel_rfl) (by simp) (AllReadyIn.cons rfl (fun K hK => ?_) AllReadyIn.nil)
        go_simp
        refine ⟨trivial, ?_⟩
        refine HCL.out.mono ?_
        rintro e w1 ⟨rfl, hb1⟩
        refine hK _ _ ?_
        clear hK K
        obtain ⟨c1, hlt1⟩ := keep_cell hb1 hlt cR'
        have HSI : Hid (w.heap.size ≤ (w1.alloc (.cells #[.string b] 9)).heap.size) := Lib.hid (by have := hb1.size; simp at this ⊢; omega)
        refine wpAnyIn_ready (rs := [3]) (by kernel_rfl) (by simp) (AllReadyIn.cons rfl (fun K hK => ?_) AllReadyIn.nil)
        go_simp
        refine hK _ _ ?_
        clear hK K
        refine wpAnyIn_ready (rs := [4]) (by kernel_rfl) (by simp) (AllReadyIn.cons rfl (fun K hK => ?_) AllReadyIn.nil)
        refine step_append_in rfl _ _ rfl w.heap.size v (pre.map Subtype.val) rfl ((hS.drew.below hb1).alloc _) b.data.toList w1.heap.size 1 _ _ rfl (heap_alloc_new w1 _) HPL.out HSI.out ?_
        intro g cap w3 hS3 hg3 hg4
        refine hK _ _ ?_
        clear hK K
        rw [HBL.out] at hS3
        have HE := Lib.hid (spl_end w W w1 w3 v _ _ _ g cap h4 hR hS hne hB hb1 hg3 hS3 hg4)
        have c3 := HE.out.1.cell
        have f3 := HE.out.1.frozen
        clear hS3 hg3 hg4
        refine wpAnyIn_ready (rs := [5]) (by kernel_rfl) (by simp) (AllReadyIn.cons rfl (fun K hK => ?_) AllReadyIn.nil)
        go_simp
        refine hK _ _ ?_
        clear hK K
        refine wpAnyIn_done (by kernel_rfl) ?_ _
        have hE := HE.out.2
        simp only [List.length_map] at hE
        refine ⟨hE.1, hE.2.1, ?_, hE.2.2.2⟩
        rw [List.map_append]
        exact hE.2.2.1
      · refine ⟨trivial, ?_⟩
        refine HCL.out.mono ?_
        rintro e w1 ⟨rfl, hb1⟩
        refine hK _ _ ?_
        clear hK K
        obtain ⟨c1, hlt1⟩ := keep_cell hb1 hlt cR'
        have HSI : Hid (w.heap.size ≤ (w1.alloc (.cells #[.string b] 9)).heap.size) := Lib.hid (by have := hb1.size; simp at this ⊢; omega)
        refine wpAnyIn_ready (rs := [0, 3]) (by kernel_rfl) (by simp) (AllReadyIn.cons rfl (fun K hK => ?_) (AllReadyIn.cons rfl (fun K hK => ?_) AllReadyIn.nil)) <;> go_simp <;> refine hK _ _ ?_ <;> clear hK K
        · refine wpAnyIn_ready (rs := [3]) (by kernel_rfl) (by simp) (AllReadyIn.cons rfl (fun K hK => ?_) AllReadyIn.nil)
          go_simp
          refine hK _ _ ?_
          clear hK K
          refine wpAnyIn_ready (rs := [4]) (by kernel_rfl) (by simp) (AllReadyIn.cons rfl (fun K hK => ?_) AllReadyIn.nil)
          refine step_append_in rfl _ _ rfl w.heap.size v (pre.map Subtype.val) rfl ((hS.drew.below hb1).alloc _) b.data.toList w1.heap.size 1 _ _ rfl (heap_alloc_new w1 _) HPL.out HSI.out ?_
          intro g cap w3 hS3 hg3 hg4
          refine hK _ _ ?_
          clear hK K
          rw [HBL.out] at hS3
          have HE := Lib.hid (spl_end w W w1 w3 v _ _ _ g cap h4 hR hS hne hB hb1 hg3 hS3 hg4)
          have c3 := HE.out.1.cell
          have f3 := HE.out.1.frozen
          clear hS3 hg3 hg4
          refine wpAnyIn_ready (rs := [5]) (by kernel_rfl) (by simp) (AllReadyIn.cons rfl (fun K hK => ?_) AllReadyIn.nil)
          go_simp
          refine hK _ _ ?_
          clear hK K
          refine wpAnyIn_done (by kernel_rfl) ?_ _
          have hE := HE.out.2
          simp only [List.length_map] at hE
          refine ⟨hE.1, hE.2.1, ?_, hE.2.2.2⟩
          rw [List.map_append]
          exact hE.2.2.1
        · have c2 : (w1.alloc (.cells #[.string b] 9)).cell? ⟨w.heap.size + 1, 0, none⟩ = some v := (keep_cell ((Below.refl _ w1).alloc (Nat.le_refl _) _) hlt1 c1).1
          refine wpAnyIn_ready (rs := [0]) (by kernel_rfl) (by simp) (AllReadyIn.cons rfl (fun K hK => ?_) AllReadyIn.nil)
          go_simp
          refine hK _ _ ?_
          clear hK K
          refine wpAnyIn_ready (rs := [4]) (by kernel_rfl) (by simp) (AllReadyIn.cons rfl (fun K hK => ?_) AllReadyIn.nil)
          refine step_append_in rfl _ _ rfl w.heap.size v (pre.map Subtype.val) rfl ((hS.drew.below hb1).alloc _) b.data.toList w1.heap.size 1 _ _ rfl (heap_alloc_new w1 _) HPL.out HSI.out ?_
          intro g cap w3 hS3 hg3 hg4
          refine hK _ _ ?_
          clear hK K
          rw [HBL.out] at hS3
          have HE := Lib.hid (spl_end w W w1 w3 v _ _ _ g cap h4 hR hS hne hB hb1 hg3 hS3 hg4)
          have c3 := HE.out.1.cell
          have f3 := HE.out.1.frozen
          clear hS3 hg3 hg4
          refine wpAnyIn_ready (rs := [5]) (by kernel_rfl) (by simp) (AllReadyIn.cons rfl (fun K hK => ?_) AllReadyIn.nil)
          go_simp
          refine hK _ _ ?_
          clear hK K
          refine wpAnyIn_done (by kernel_rfl) ?_ _
          have hE := HE.out.2
          simp only [List.length_map] at hE
          refine ⟨hE.1, hE.2.1, ?_, hE.2.2.2⟩
          rw [List.map_append]
          exact hE.2.2.1
  case done =>
    rintro D ys W hD hys ⟨⟨h4, v, hR, hS, hne⟩, hB⟩ hK
    rw [hys] at hS
    have cR := hR.cell
    gi_wp2
    refine ⟨by simp, .inl ⟨_, _, rfl, run_takeDeferred hK, ?_⟩⟩
    have hS' := World.ownsRow.kept hS (grownBy_putObj' W D (.deferred none)) (row := some D) (by
      rcases hS.2 with ⟨rfl, _⟩ | ⟨g', cap', cur, rfl, _, hh, _⟩
      · left; rfl
      · right
        simp only [Value.ownBlock]
        intro e; cases e
        rw [hK] at hh; cases hh)
    rcases hS.form with ⟨_, h⟩ | ⟨g, cap, rfl, _, _⟩
    · exact absurd h (cutL_ne _ _)
    · exact ⟨_, by simp [results, Tryz.f199, go_sem], g, cap, rfl, hS', hB.trans (belowK_b (w := w) (Nat.le_refl _) W D _ _ (by have := HSZ.out; omega) hK rfl rfl)⟩
  case stop =>
    rintro D c pre W hD hpre h hK
    exact h.elim

theorem splitAt_any (s : ByteArray) (m : UInt8) (w : World) (hs : s.size ≤ 1048576) :
    Calls Tryz.prog 199 #[.string s, .int .u8 (m.toNat : Int)] w fun e W' => ∃ g cap, e = .returned (.slice (some ⟨g, 0, none⟩) (cutL m s.data.toList).length cap) ∧ Strs W' w.heap.size (.slice (some ⟨g, 0, none⟩) (cutL m s.data.toList).length cap) (cutL m s.data.toList) ∧ Below w.heap.size w W' :=
  (callsIn_wide (n := 4)).1 (splitAt_in 4 (by omega) s m w hs)
end Go.Proofs.YtongpnknmgbhjaaGreatDoor
