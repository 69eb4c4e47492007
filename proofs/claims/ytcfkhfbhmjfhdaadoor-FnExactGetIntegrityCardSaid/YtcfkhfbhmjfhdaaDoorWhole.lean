/-
  At every argument the law FnExactGetIntegrity returns true and leaves its arguments as they were, the two listed tables lying as the program's text lays them (the tie is given). No other condition.
-/
import Derived.Test.YtcfkhfbhmjfhdaaDoorBytes
import Derived.Lib.AppendStr
import Derived.Test.YtcfkhfbhmjfhdaaDoorCutM
import Derived.Lib.IndexMore
import Derived.Test.YtcfkhfbhmjfhdaaDoorHeap
import Derived.Test.YtcfkhfbhmjfhdaaDoorGrw
import Derived.Test.YtcfkhfbhmjfhdaaDoorIndexA
import Derived.Test.YtcfkhfbhmjfhdaaDoorRdIs
import Derived.Deep.QuietTactic
import Derived.BigQuiet
import Derived.Test.YtcfkhfbhmjfhdaaDoorRdL
import Derived.Test.YtcfkhfbhmjfhdaaDoorDec
import Derived.Deep.RegionHeld3
import Derived.Test.YtcfkhfbhmjfhdaaDoorRdB
import Derived.Test.YtcfkhfbhmjfhdaaDoorSumB
import Derived.LoopN
import Derived.RangeFuncNested
import Derived.RangeFuncBound
import Derived.RangeFuncCalls
import Derived.RangeFuncLeaves
import Derived.Shelf.Abstract
import Derived.Shelf.RegionOpen
import Derived.WalkKit
import Derived.OwnWalkIn
import Derived.TacticsInMore
import Derived.LoopNIn
import Derived.LoopIn
import Derived.Sort.QuietIn
import Derived.Test.YtcfkhfbhmjfhdaaDoorStr
import Derived.Test.YtcfkhfbhmjfhdaaDoorPieces
import Derived.Test.YtcfkhfbhmjfhdaaDoorB64
import Derived.Lib.BufferWrite
import Derived.StillTailTactics
import Derived.RangeFuncFrom
import Derived.RangeFuncBox
import Derived.Shelf.Strings.Trim
import Derived.Ground.NamesProg
import Derived.Test.YtcfkhfbhmjfhdaaDoorProg
import Derived.Test.YtcfkhfbhmjfhdaaDoorGetB
import Derived.Shelf.Strings.OnBuilder
import Derived.Test.YtcfkhfbhmjfhdaaDoorVerM
import Derived.Test.YtcfkhfbhmjfhdaaDoorStrs
import Derived.Test.YtcfkhfbhmjfhdaaDoorIntS
import Derived.Deep.RegionHeldLaw
import Derived.Test.YtcfkhfbhmjfhdaaDoorSmsM
import Derived.Test.YtcfkhfbhmjfhdaaDoorAlgS
import Derived.Laws.Cover1
import Derived.Shelf.Strconv.Clone
import Derived.Test.YtcfkhfbhmjfhdaaDoorGiS
import Derived.Deep.RegionWith
import Derived.Test.YtcfkhfbhmjfhdaaDoorRows
import Derived.Test.YtcfkhfbhmjfhdaaDoorTie
import Derived.Test.YtcfkhfbhmjfhdaaDoorCards
import Derived.ProofKit
import Derived.OpenShut
import Derived.ShutString
import Derived.ChangeOld
import Derived.Below
import Derived.ChangeVars
import Derived.LaidLaws
import Derived.MakeChecks
import Derived.Stop.LaidErr
import Derived.SevenTiedAt
import Derived.Carry
/-
  A string appended to a byte buffer of the call's own.
-/
namespace Go.Proofs.YtcfkhfbhmjfhdaaDoor
open Go.RowKit

theorem wpList_append_buf_str {w : World} {ops : Array Oper} {rest : List Oper} {o : Oper} {a : Act} {Q : Exit → Act → World → Prop} (hgd : o.guard = none) (s x : Operand)
    (ho : o.op = .call { callee := .builtin .append, args := #[s, x], argTypes := #[82, 9] })
    (base : Nat) (v : Value) (l : List UInt8) (hs : a.eval s = v) (hown : Buf w base v l) (ns : List UInt8) (hx : a.eval x = .string ⟨ns.toArray⟩) (hlen : l.length + ns.length ≤ 16777216) (hbase : base ≤ w.heap.size)
    (h : ∀ v' w', Buf w' base v' (l ++ ns) → Below base w w' → wpList Tryd.prog ops Q rest (a.put o.dst v') w') : wpList Tryd.prog ops Q (o :: rest) a w := by
  obtain ⟨i0, hi, hz0, hz1, hz2⟩ := info_parts u8info
  have hsz : (⟨ns.toArray⟩ : ByteArray).size = ns.length := by show ns.toArray.size = _; simp
  refine Lib.wpList_append_own_string _ hgd s x 82 9 ho base 5 i0 Tryd.underlying82 Tryd.underlying9 hi hz0 hz1 hz2 v l.length (l.map bv) hs hown ⟨ns.toArray⟩ hx (by rw [hsz]; unfold maxLen; omega) (by rw [hsz]; omega) hbase ?_
  intro v' w' h2 h3 _
  refine h v' w' ?_ ((Below.refl base w).grown h3 hbase hown.owned)
  unfold Buf
  rw [hsz] at h2
  rw [List.length_append, List.map_append]
  exact h2

/-- A buffer is kept by whatever leaves all old blocks as they were. -/
theorem Buf.below {w w' : World} {base : Nat} {v : Value} {l : List UInt8} (h : Buf w base v l) (hb : Below w.heap.size w w') : Buf w' base v l :=
  World.ownsRow.kept h (row := none) ⟨hb.os, hb.tape, hb.output, hb.size, fun i hi _ => hb.block i hi⟩ (by
    rcases h.form with ⟨rfl, _⟩ | ⟨g, cap, rfl, _, _⟩
    · left; rfl
    · right; simp [Value.ownBlock])
end Go.Proofs.YtcfkhfbhmjfhdaaDoor

/-
  A cursor over a text in a cell: what it leaves.
-/
namespace Go.Proofs.YtcfkhfbhmjfhdaaDoor
open Go.RowKit

theorem index_one (m : UInt8) : ∀ l : List UInt8, Lib.index l [m] = Lib.indexByte l m
  | [] => rfl
  | c :: l => by
    have ih := index_one m l
    unfold Lib.index
    by_cases h : c = m
    · subst h; simp [Lib.indexByte]
    · rw [idx_miss l h, ih]
      have : ([m].isPrefixOf (c :: l)) = false := by simp [List.isPrefixOf]; exact fun e => h e.symm
      rw [if_neg (by rw [this]; simp)]
      simp
theorem cut_one (m : UInt8) (l : List UInt8) : (Lib.cut l [m]).1 = cutA m l ∧ (Lib.cut l [m]).2.1 = cutB m l := by
  unfold Lib.cut cutA cutB
  rw [index_one]
  split <;> simp

theorem cells1 {V : World} {B : Nat} {T : TypeId} {v0 : Value} (h : V.heap[B]? = some (.cells #[v0] T)) : V.cell? ⟨B, 0, none⟩ = some v0 := by simp [World.cell?, h]
theorem frozen1 {V : World} {B : Nat} {T : TypeId} {v0 : Value} (h : V.heap[B]? = some (.cells #[v0] T)) (o : Nat) : V.frozen? ⟨B, o, none⟩ = false := by simp [World.frozen?, h]
theorem heap_one {V : World} {B : Nat} {T : TypeId} {v0 : Value} (h : V.heap[B]? = some (.cells #[v0] T)) (x : Value) : (V.setCell ⟨B, 0, none⟩ x).heap[B]? = some (.cells #[x] T) := by
  rw [heap_setCell_same V B 0 #[v0] T x h]; rfl
/-- What upTo leaves: the rest in the cursor's cell, all else as it was. -/
def CurTo (q : Nat) (T : TypeId) (w : World) (r : List UInt8) (w' : World) : Prop := w'.heap[q]? = some (.cells #[.string ⟨r.toArray⟩] T) ∧ w.grownBy w' (some q) ∧ w'.heap.size = w.heap.size
theorem Buf.far {w w' : World} {base : Nat} {v : Value} {l : List UInt8} {q : Nat} (h : Buf w base v l) (hg : w.grownBy w' (some q)) (hq : q < base) : Buf w' base v l :=
  World.ownsRow.kept h hg (by
    rcases h.form with ⟨rfl, _⟩ | ⟨g, cap, rfl, hb, _⟩
    · left; rfl
    · right; simp [Value.ownBlock]; omega)

set_option maxRecDepth 100000 in
set_option maxHeartbeats 1000000 in
theorem done_any (q : Nat) (T : TypeId) (l : List UInt8) (w : World) (hq : w.heap[q]? = some (.cells #[.string ⟨l.toArray⟩] T)) :
    Calls Tryd.prog 31 #[.pointer (some ⟨q, 0, none⟩)] w fun e w' => e = .returned (.bool l.isEmpty) ∧ w = w' := by
  have c0 := cells1 hq
  clear hq
  go_enter Tryd.func31, Tryd.ntmps31
  go_wp2_with fail
  go_ret
  exact ⟨rfl, rfl⟩
end Go.Proofs.YtcfkhfbhmjfhdaaDoor

/-
  strings.Cut and a cursor at a mark of one byte: no package variable is read.
-/
namespace Go.Proofs.YtcfkhfbhmjfhdaaDoor
open Go.RowKit

set_option maxRecDepth 100000 in
set_option maxHeartbeats 1000000 in
theorem sliteIndex_one (l : List UInt8) (m : UInt8) (w : World) :
    Calls Tryd.prog 123 #[.string ⟨l.toArray⟩, .string ⟨#[m]⟩] w fun e w' => e = .returned (.int .i64 (Lib.indexByte l m)) ∧ w = w' := by
  have hm0 : (⟨#[m]⟩ : ByteArray).size = 1 := rfl
  by_cases he : l = [m]
  · have e1 : ([m] == l) = true := by rw [he]; simp
    have HD : Hid (Lib.indexByte l m = 0) := Lib.hid (by rw [he]; exact idx_hit [] rfl)
    clear he
    go_enter Tryd.func123, Tryd.ntmps123
    go_wp2_with fail
    go_ret
    exact ⟨ret_int HD.out.symm, rfl⟩
  · have e1 : ([m] == l) = false := by simp; exact fun h => he h.symm
    have hmm : ((m.toNat : Int).toNat).toUInt8 = m := by simp
    have HI := Lib.hid (fun W => sliteIndexByte_any ⟨l.toArray⟩ (m.toNat : Int) W)
    rw [hmm] at HI
    clear he
    go_enter Tryd.func123, Tryd.ntmps123
    go_wp2_with fail
    refine (HI.out _).mono ?_
    rintro e w' ⟨rfl, rfl⟩
    go_wp2_with fail
    go_ret
    exact ⟨rfl, rfl⟩

set_option maxRecDepth 100000 in
set_option maxHeartbeats 1000000 in
theorem cutOne_any (l : List UInt8) (m : UInt8) (w : World) (hl : l.length ≤ 1048576) :
    Calls Tryd.prog 76 #[.string ⟨l.toArray⟩, .string ⟨#[m]⟩] w fun e w' => e = .returned (.tuple #[.string ⟨(cutA m l).toArray⟩, .string ⟨(cutB m l).toArray⟩, .bool (decide (0 ≤ Lib.indexByte l m))]) ∧ ∃ n, w' = w.drewN n := by
  have HI := Lib.hid (fun W => sliteIndex_one l m W)
  have hsz : (⟨l.toArray⟩ : ByteArray).size = l.length := by show l.toArray.size = _; simp
  have hC : Calls Tryd.prog 101 #[.string ⟨l.toArray⟩, .string ⟨#[m]⟩] w fun e w' => e = .returned (.tuple #[.string ⟨(cutA m l).toArray⟩, .string ⟨(cutB m l).toArray⟩, .bool (decide (0 ≤ Lib.indexByte l m))]) ∧ ∃ n, w' = w.drewN n := by
    by_cases h0 : 0 ≤ Lib.indexByte l m
    · obtain ⟨k, hk⟩ : ∃ k : Nat, Lib.indexByte l m = (k : Int) := ⟨(Lib.indexByte l m).toNat, by omega⟩
      have hlt := idx_lt l m
      have HK := Lib.hid hk
      have hA : cutA m l = l.take k := by unfold cutA; rw [if_pos h0, hk]; simp
      have hB : cutB m l = l.drop (k + 1) := by unfold cutB; rw [if_pos h0, hk]; simp
      rw [hA, hB, decide_eq_true h0]
      have e1 := slice_to ⟨l.toArray⟩ ⟨(l.take k).toArray⟩ k (k : Int) rfl (by rw [hsz]; omega) (by have := piece ⟨l.toArray⟩ 0 k; simpa using this)
      have e2 := slice_from ⟨l.toArray⟩ ⟨(l.drop (k + 1)).toArray⟩ (k + 1) ((k : Int) + 1) (by omega) (by rw [hsz]; omega) (by have := piece_end ⟨l.toArray⟩ (k + 1); simpa using this)
      have hkl : k < l.length := by omega
      clear hk h0 hA hB hlt
      go_enter Tryd.func101, Tryd.ntmps101
      go_wp2_with fail
      refine (HI.out _).mono ?_
      rw [HK.out]
      rintro e w' ⟨rfl, rfl⟩
      have x1 : IntKind.i64.wrap ((k : Int) + 1) = (k : Int) + 1 := IntWalk.i64_in _ (by omega)
      have x2 : (0 : Int) ≤ (k : Int) := by omega
      go_wp2_with fail
      go_quiet (fail)
      go_wp2_with fail
      go_ret3
      exact ⟨rfl, _, rfl⟩
    · have hA : cutA m l = l := by unfold cutA; rw [if_neg h0]
      have hB : cutB m l = [] := by unfold cutB; rw [if_neg h0]
      rw [hA, hB, decide_eq_false h0]
      obtain ⟨d, hd⟩ : ∃ d, Lib.indexByte l m = d := ⟨_, rfl⟩
      have HD := Lib.hid hd
      rw [hd] at h0
      clear hd hA hB
      go_enter Tryd.func101, Tryd.ntmps101
      go_wp2_with fail
      refine (HI.out _).mono ?_
      rw [HD.out]
      rintro e w' ⟨rfl, rfl⟩
      go_wp2_with fail
      go_ret3
      exact ⟨rfl, 0, rfl⟩
  have HC := Lib.hid hC
  clear hC HI
  go_enter Tryd.func76, Tryd.ntmps76
  go_wp2_with fail
  refine HC.out.mono ?_
  rintro e w' ⟨rfl, n, rfl⟩
  go_wp2_with fail
  go_ret3
  exact ⟨rfl, _, rfl⟩

set_option maxRecDepth 100000 in
set_option maxHeartbeats 1000000 in
theorem upToOne_any (q : Nat) (T : TypeId) (l : List UInt8) (m : UInt8) (w : World) (hl : l.length ≤ 1048576) (hq : w.heap[q]? = some (.cells #[.string ⟨l.toArray⟩] T)) :
    Calls Tryd.prog 57 #[.pointer (some ⟨q, 0, none⟩), .string ⟨#[m]⟩] w fun e w' => e = .returned (.string ⟨(cutA m l).toArray⟩) ∧ CurTo q T w (cutB m l) w' := by
  have HC := Lib.hid (cutOne_any l m w hl)
  have c0 := cells1 hq
  have f0 := frozen1 hq
  have HQ := Lib.hid hq
  clear hq
  go_enter Tryd.func57, Tryd.ntmps57
  go_wp2_with fail
  refine HC.out.mono ?_
  rintro e w1 ⟨rfl, n, rfl⟩
  go_wp2_with fail
  go_ret
  exact ⟨rfl, heap_one HQ.out _, gr_trans (gr_below (below_drewN _ _ n)) (gr_set _ q 0 _), by simp⟩
end Go.Proofs.YtcfkhfbhmjfhdaaDoor

/-
  The laws' own helper markText: a mark's text.
-/
namespace Go.Proofs.YtcfkhfbhmjfhdaaDoor
open Go.RowKit

/-- The k-th mark. -/
def mt (k : Nat) : List UInt8 := 109 :: Lib.decDigits k
theorem dig_val (v : Nat) : bv (digC (v % 10)) = .int .u8 (48 + (v : Int) % 10) := by
  have h : ∀ d : Nat, d < 10 → bv (digC d) = .int .u8 (48 + (d : Int)) := by
    intro d hd
    unfold bv digC
    congr 1
    simp
    omega
  rw [h _ (by omega)]
  congr 1

set_option maxRecDepth 100000 in
set_option maxHeartbeats 1000000 in
theorem markText_any (u : Nat) (w : World) (h1 : 1 ≤ u) (h2 : u ≤ 100000000) :
    Calls Tryd.prog 25 #[.int .i64 (u : Int)] w fun e w' => e = .returned (.string ⟨(mt u).toArray⟩) ∧ Below w.heap.size w w' := by
  go_enter Tryd.func25, Tryd.ntmps25
  go_wp2
  go_loopw [0, 3] (fun m o wr => ∃ (v : Nat) (l : List UInt8), o = .string ⟨l.toArray⟩ ∧ m = .int .i64 (v : Int) ∧ v ≤ u ∧ DecAt u v l ∧ Below w.heap.size w wr) (fun m _ _ => (intOf m).toNat)
  case atStart => exact ⟨u, [], rfl, rfl, Nat.le_refl _, decAt_start u (by omega), Below.refl _ _⟩
  case round =>
    obtain ⟨v, l, rfl, rfl, hvu, H, hb⟩ := hrel
    have hl := decAt_len H (by omega)
    by_cases hv : v = 0
    · subst hv
      obtain rfl := decAt_end H
      clear H
      go_wp2
      go_ret
      exact ⟨congrArg Ending.returned (str_cons _ _), hb⟩
    · have HN := Lib.hid (decAt_step H (by omega))
      have hpos : (0 : Int) < (v : Int) := by omega
      have hcv := (Buf.lit wr w.heap.size [digC (v % 10)] hb.size (by simp)).conv
      have hdv := dig_val v
      simp only [List.map_cons, List.map_nil, hdv, List.length_cons, List.length_nil, Nat.zero_add] at hcv
      clear hdv H hv
      go_wp2
      go_roundw
      case rel => exact ⟨v / 10, _, str_cons _ _, by go_num, by omega, HN.out, hb.alloc hb.size _⟩
      case measure => simp [intOf]; omega
end Go.Proofs.YtcfkhfbhmjfhdaaDoor

/-
  Lists of pairs of marks.
-/
namespace Go.Proofs.YtcfkhfbhmjfhdaaDoor

theorem flat2_setLo : ∀ (l : List Bd) (k : Nat) (y : List UInt8) (h : k < l.length), (flat2 l).set (k * 2) (sv y) = flat2 (l.set k (y, l[k].2))
  | [], k, y, h => by simp at h
  | a :: t, 0, y, _ => by simp [flat2]
  | a :: t, k + 1, y, h => by
    have := flat2_setLo t k y (by simpa using h)
    rw [show (k + 1) * 2 = k * 2 + 2 by omega]
    simp [flat2, this]
theorem flat2_setHi : ∀ (l : List Bd) (k : Nat) (y : List UInt8) (h : k < l.length), (flat2 l).set (k * 2 + 1) (sv y) = flat2 (l.set k (l[k].1, y))
  | [], k, y, h => by simp at h
  | a :: t, 0, y, _ => by simp [flat2]
  | a :: t, k + 1, y, h => by
    have := flat2_setHi t k y (by simpa using h)
    rw [show (k + 1) * 2 + 1 = k * 2 + 1 + 2 by omega]
    simp [flat2, this]
/-- The first k bounds marked from s on. -/
def mkB (s k : Nat) (bs : List Bd) : List Bd := (List.range k).map (fun i => (mt (s + 2 * i), mt (s + 2 * i + 1))) ++ bs.drop k
theorem mkB_len (s k : Nat) (bs : List Bd) (h : k ≤ bs.length) : (mkB s k bs).length = bs.length := by simp [mkB]; omega
theorem mkB_zero (s : Nat) (bs : List Bd) : mkB s 0 bs = bs := by simp [mkB]
theorem mkB_set (s k : Nat) (bs : List Bd) (h : k < bs.length) (x : Bd) : ((mkB s k bs).set k x).set k (mt (s + 2 * k), mt (s + 2 * k + 1)) = mkB s (k + 1) bs := by
  apply List.ext_getElem
  · simp [mkB]; omega
  · intro i h1 h2
    simp only [List.set_set]
    rw [List.getElem_set]
    by_cases hi : k = i
    · subst hi
      simp [mkB]
    · rw [if_neg hi]
      simp only [mkB, List.getElem_append, List.length_map, List.length_range]
      by_cases hlt : i < k
      · rw [dif_pos hlt, dif_pos (by omega)]
        simp
      · rw [dif_neg hlt, dif_neg (by omega)]
        simp only [List.getElem_drop]
        congr 1
        omega

theorem mkB_get (s : Nat) (bs : List Bd) (k : Nat) (_h : k < bs.length) (hX : k < (mkB s bs.length bs).length) : (mkB s bs.length bs)[k] = (mt (s + 2 * k), mt (s + 2 * k + 1)) := by
  simp [mkB]
end Go.Proofs.YtcfkhfbhmjfhdaaDoor

/-
  The laws' own helpers on lists of sums: markSumS writes marks over each field.
-/
namespace Go.Proofs.YtcfkhfbhmjfhdaaDoor
open Go.RowKit

theorem Sums.setLo {w : World} {base g cap : Nat} {l : List Bd} (h : Sums w base (.slice (some ⟨g, 0, none⟩) l.length cap) l) (k : Nat) (hk : k < l.length) (y : List UInt8) :
    Sums (w.setCell ⟨g, k * 2, none⟩ (sv y)) base (.slice (some ⟨g, 0, none⟩) l.length cap) (l.set k (y, l[k].2)) := by
  unfold Sums at h ⊢
  rw [List.length_set, ← flat2_setLo]
  exact (World.ownsRow.stored h (k * 2) (sv y)).1
theorem Sums.setHi {w : World} {base g cap : Nat} {l : List Bd} (h : Sums w base (.slice (some ⟨g, 0, none⟩) l.length cap) l) (k : Nat) (hk : k < l.length) (y : List UInt8) :
    Sums (w.setCell ⟨g, k * 2 + 1, none⟩ (sv y)) base (.slice (some ⟨g, 0, none⟩) l.length cap) (l.set k (l[k].1, y)) := by
  unfold Sums at h ⊢
  rw [List.length_set, ← flat2_setHi]
  exact (World.ownsRow.stored h (k * 2 + 1) (sv y)).1
theorem Sums.grown {w w' : World} {base : Nat} {v : Value} {l : List Bd} {row : Option Nat} (h : Sums w base v l) (hg : w.grownBy w' row) (hne : ∀ g, v.ownBlock = some g → some g ≠ row) : Sums w' base v l := by
  rcases h.form with ⟨rfl, rfl⟩ | ⟨g, cap, rfl, _, _⟩
  · exact ⟨by simp [flat2], .inl ⟨rfl, rfl⟩⟩
  · exact World.ownsRow.kept h hg (.inr (fun e => hne g rfl (by rw [← e]; rfl)))

set_option maxRecDepth 100000 in
set_option maxHeartbeats 2000000 in
theorem markSumS_gr (w : World) (base g cap s : Nat) (bs : List Bd) (h : Sums w base (.slice (some ⟨g, 0, none⟩) bs.length cap) bs) (hl : bs.length ≤ 2000000) (s1 : 1 ≤ s) (s2 : s ≤ 2000001) :
    Calls Tryd.prog 14 #[.slice (some ⟨g, 0, none⟩) bs.length cap, .int .i64 (s : Int)] w fun e w' => e = .returned (.int .i64 ((s + 2 * bs.length : Nat) : Int)) ∧ Sums w' base (.slice (some ⟨g, 0, none⟩) bs.length cap) (mkB s bs.length bs) ∧ w.grownBy w' (some g) := by
  obtain ⟨E, HE⟩ : ∃ E, Hid (s + 2 * bs.length = E) := ⟨_, Lib.hid rfl⟩
  rw [HE.out]
  go_enter Tryd.func14, Tryd.ntmps14
  go_wp2
  go_loopw [1, 5] (fun u i wr => ∃ k U : Nat, k ≤ bs.length ∧ Hid (U = s + 2 * k) ∧ i = .int .i64 k ∧ u = .int .i64 (U : Int) ∧ Sums wr base (.slice (some ⟨g, 0, none⟩) bs.length cap) (mkB s k bs) ∧ w.grownBy wr (some g)) (fun _ i _ => bs.length - (intOf i).toNat)
  case atStart => exact ⟨0, s, Nat.zero_le _, Lib.hid (by omega), rfl, rfl, by rw [mkB_zero]; exact h, World.grownBy.refl w _⟩
  case round =>
    obtain ⟨k, U, hk, HU, rfl, rfl, hS, hb⟩ := hrel
    have u1 : 1 ≤ U := by have := HU.out; omega
    have u2 : U ≤ 10000000 := by have := HU.out; omega
    by_cases hlt : k < bs.length
    · have k0 : (0 : Int) ≤ (k : Int) := by omega
      have k1 : (k : Int) < (bs.length : Int) := by omega
      have HML := Lib.hid (mkB_len s k bs hk)
      have HMS := Lib.hid (mkB_set s k bs hlt)
      obtain ⟨X, HX⟩ : ∃ X, Hid (mkB s k bs = X) := ⟨_, Lib.hid rfl⟩
      rw [HX.out] at hS
      have hXl : Hid (X.length = bs.length) := Lib.hid (by rw [← HX.out]; exact HML.out)
      have hkX : k < X.length := by rw [hXl.out]; exact hlt
      clear h
      go_wp2_with fail
      refine (markText_any U wr (by omega) (by omega)).mono ?_
      rintro e w2 ⟨rfl, hb2⟩
      have hS2 := hS.below hb2
      rw [← hXl.out] at hS2
      obtain ⟨c2, _⟩ := hS2.cell k hkX
      have f2 : w2.frozen? ⟨g, k * 2, none⟩ = false := World.ownsRow.frozenAt hS2 (k * 2)
      have B2 := gr_trans hb (gr_below hb2)
      have hS3 := hS2.setLo k hkX (mt U)
      have B3 := gr_trans B2 (gr_set w2 g (k * 2) (sv (mt U)))
      go_wp2_with fail
      refine (markText_any (U + 1) _ (by omega) (by omega)).mono ?_
      rintro e w4 ⟨rfl, hb4⟩
      have hS4 := hS3.below hb4
      have B4 := gr_trans B3 (gr_below hb4)
      have hS4' : Sums w4 base (.slice (some ⟨g, 0, none⟩) (X.set k (mt U, X[k].2)).length cap) (X.set k (mt U, X[k].2)) := by rw [List.length_set]; exact hS4
      have hk4 : k < (X.set k (mt U, X[k].2)).length := by rw [List.length_set]; exact hkX
      obtain ⟨_, c4⟩ := hS4.cell k hk4
      have f4 : w4.frozen? ⟨g, k * 2 + 1, none⟩ = false := World.ownsRow.frozenAt hS4' (k * 2 + 1)
      have hS5 := hS4'.setHi k hk4 (mt (U + 1))
      have B5 := gr_trans B4 (gr_set w4 g (k * 2 + 1) (sv (mt (U + 1))))
      have HF : Hid ((X.set k (mt U, X[k].2)).set k ((X.set k (mt U, X[k].2))[k].1, mt (U + 1)) = mkB s (k + 1) bs) := Lib.hid (by
        have := HMS.out (mt U, X[k].2)
        rw [HX.out, ← HU.out] at this
        simpa using this)
      rw [HF.out, List.length_set, hXl.out] at hS5
      clear hS hS2 hS3 hS4 hS4' B2 B3 B4 hb2 hb4
      go_wp2_with fail
      go_roundw
      case rel => exact ⟨k + 1, U + 2, by omega, Lib.hid (by have := HU.out; omega), by go_num, by go_num, hS5, B5⟩
      case measure => simp [intOf]; omega
    · obtain rfl : k = bs.length := by omega
      have HUE : Hid (U = E) := Lib.hid (by rw [HU.out, HE.out])
      clear h
      go_wp2_with fail
      go_ret
      exact ⟨by rw [← HUE.out]; rfl, hS, hb⟩

set_option maxRecDepth 100000 in
set_option maxHeartbeats 1000000 in
theorem markSm_gr (w : World) (base s : Nat) (v : Value) (bs : List Bd) (h : Sums w base v bs) (hl : bs.length ≤ 2000000) (s1 : 1 ≤ s) (s2 : s ≤ 2000001) :
    Calls Tryd.prog 14 #[v, .int .i64 (s : Int)] w fun e w' => e = .returned (.int .i64 ((s + 2 * bs.length : Nat) : Int)) ∧ Sums w' base v (mkB s bs.length bs) ∧ w.grownBy w' v.ownBlock := by
  rcases h.form with ⟨rfl, rfl⟩ | ⟨g, cap, rfl, hg, _⟩
  · go_enter Tryd.func14, Tryd.ntmps14
    go_wp2
    refine wp_loop_rounds 1 ?_
    rw [rounds_succ]; go_wp2
    go_ret
    exact ⟨rfl, h, World.grownBy.refl w _⟩
  · exact markSumS_gr w base g cap s bs h hl s1 s2
end Go.Proofs.YtcfkhfbhmjfhdaaDoor

/-
  Two boxes that an iterator reads lie as they lay.
-/
namespace Go.Proofs.YtcfkhfbhmjfhdaaDoor
open Go.RowKit Go.Shelf

/-- The two boxes that the iterator reads lie as they lay. -/
def KpB (Bs Bm : Nat) (A B : World) : Prop := B.heap[Bs]? = A.heap[Bs]? ∧ B.heap[Bm]? = A.heap[Bm]?
theorem KpB.refl (Bs Bm : Nat) (A : World) : KpB Bs Bm A A := ⟨rfl, rfl⟩
theorem kpB_t {Bs Bm : Nat} {A B C : World} (h : KpB Bs Bm A B) (k : KpB Bs Bm B C) : KpB Bs Bm A C := ⟨k.1.trans h.1, k.2.trans h.2⟩
theorem KpB.of_grown {Bs Bm : Nat} {A B : World} {row : Option Nat} (hg : A.grownBy B row) (h1 : Bs < A.heap.size) (h2 : Bm < A.heap.size) (n1 : some Bs ≠ row) (n2 : some Bm ≠ row) : KpB Bs Bm A B := ⟨hg.block Bs h1 n1, hg.block Bm h2 n2⟩
theorem KpB.of_below {Bs Bm n : Nat} {A B : World} (h : Below n A B) (h1 : Bs < n) (h2 : Bm < n) : KpB Bs Bm A B := ⟨h.block Bs h1, h.block Bm h2⟩
theorem kpB_b {Bs Bm : Nat} {w : World} (h1 : Bs < w.heap.size) (h2 : Bm < w.heap.size) (W : World) (l : Nat) (o o' : Obj) (hl : w.heap.size ≤ l) (h : W.heap[l]? = some o) (_ : o.isCells = false) (_ : o.isWalk = false) : KpB Bs Bm W (W.putObj l o') := by
  have hlt := (Array.getElem?_eq_some_iff.1 h).1
  exact KpB.of_grown (grownBy_putObj' W l o') (by omega) (by omega) (fun e => by cases e; omega) (fun e => by cases e; omega)

theorem grown_drewN (W : World) (n : Nat) : W.grownBy (W.drewN n) none := ⟨rfl, rfl, rfl, Nat.le_refl _, fun _ _ _ => rfl⟩
end Go.Proofs.YtcfkhfbhmjfhdaaDoor

/-
  impl.triplesOf hands back an iterator that yields the bytes of a text by threes.
-/
namespace Go.Proofs.YtcfkhfbhmjfhdaaDoor
open Go.RowKit Go.Shelf
attribute [local go_sem] Oper.semAt_some

/-- A group of three bytes, and how many of them are the text's. -/
structure Tri where
  a : UInt8
  b : UInt8
  c : UInt8
  n : Nat
  h1 : 1 ≤ n
  h3 : n ≤ 3
def triV (x : Tri) : Array Value := #[.agg #[.int .u8 (x.a.toNat : Int), .int .u8 (x.b.toNat : Int), .int .u8 (x.c.toNat : Int)], .int .i64 (x.n : Int)]
def tri (l : List UInt8) (g : Nat) : Tri := ⟨l.getD (3 * g) 0, l.getD (3 * g + 1) 0, l.getD (3 * g + 2) 0, max 1 (min 3 (l.length - 3 * g)), by omega, by omega⟩

def TriAll (l : List UInt8) (ys : List Tri) : Prop := ys = (List.range ((l.length + 2) / 3)).map (tri l)

theorem run_copy3 (w : World) (g : Nat) (s : ByteArray) (cur : Array Value) (t : TypeId) (hg : w.heap[g]? = some (.cells cur t (0, 0))) (hc : cur.size = 3) (Y : Array Value) (m : Nat) (hm : m = min s.size 3)
    (hY : Y.toList = Lib.byteCells (s.data.toList.take 3) ++ cur.toList.drop m) :
    (Builtin.copy_ #[82, 9] 3 #[.slice (some ⟨g, 0, none⟩) 3 3, .string s]).run Tryd.prog w = .ok (.int .i64 (m : Int)) (w.setRow g Y) := by
  obtain ⟨i0, hi, hz0, hz1, hz2⟩ := info_parts u8info
  have hlen : (Lib.byteCells (s.data.toList.take 3)).length = m := by rw [Lib.byteCells_length, hm]; simp [Nat.min_comm]
  have hst := run_storeCells_at Tryd.prog g 0 t (Lib.byteCells (s.data.toList.take 3)) 0 cur w hg (by rw [hlen, hm, hc]; omega) (Lib.byteCells_one _)
  have htk : List.take (Nat.min s.size 3) (List.map (fun b : UInt8 => Value.int IntKind.u8 (b.toNat : Int)) s.data.toList) = Lib.byteCells (s.data.toList.take 3) := by
    unfold Lib.byteCells
    rw [List.map_take]
    by_cases h : s.size ≤ 3
    · rw [show s.size.min 3 = s.size from Nat.min_eq_left h, List.take_of_length_le (by simp), List.take_of_length_le (by simp; omega)]
    · rw [show s.size.min 3 = 3 from Nat.min_eq_right (by omega)]
  have hYe : Y = (List.take 0 cur.toList ++ Lib.byteCells (s.data.toList.take 3) ++ List.drop m cur.toList).toArray := by
    apply Array.ext'
    rw [hY]; simp
  rw [hlen] at hst
  simp only [Nat.add_zero, Nat.zero_add] at hst
  rw [hYe]
  simp [Builtin.copy_, run_underlying Tryd.underlying82, Builtin.lenOf, Builtin.firstCells, sizeOf, typeInfo, hi]
  rw [htk, hst]
  simp [Result.andThen, hm, goInt]
theorem tri_cells (l : List UInt8) (h : 0 < l.length) (z : Value) (m : Nat) (hm : m = min l.length 3) (hz : z = .int .u8 0) :
    Lib.byteCells (l.take 3) ++ [z, z, z].drop m = [.int .u8 ((l.getD 0 0).toNat : Int), .int .u8 ((l.getD 1 0).toNat : Int), .int .u8 ((l.getD 2 0).toNat : Int)] := by
  subst hm hz
  match l, h with
  | [a], _ => rfl
  | [a, b], _ => rfl
  | a :: b :: c :: r, _ =>
    have : min (a :: b :: c :: r).length 3 = 3 := by simp
    rw [this]; rfl

set_option maxHeartbeats 1000000 in
theorem triplesOf_in (n : Nat) (s : ByteArray) (w : World) :
    CallsIn Fence.wide n Tryd.prog 86 #[.string s] w fun e w' => e = .returned (.func (.func 112) #[] #[.pointer (some ⟨w.heap.size, 0, none⟩)]) ∧ w' = w.alloc (.cells #[.string s] 9) := by
  refine callsIn_of_wp Tryd.func86 rfl trivial ?_ rfl
  simp only [Tryd.ntmps86, List.size_toArray, List.length_cons, List.length_nil, Nat.reduceAdd, Nat.reduceSub, Array.replicate_succ, Array.replicate_zero, List.push_toArray, List.append_toArray, List.nil_append, List.cons_append]
  gi_wp2
  go_ret
  exact ⟨rfl, rfl⟩

set_option maxRecDepth 100000 in
set_option maxHeartbeats 2000000 in
theorem triples1_in (n : Nat) (hn : 1 ≤ n) (l Bs : Nat) (s : ByteArray) (hs : s.size ≤ 1048576) (J Jx : List Tri → World → Prop)
    (hY : ∀ pre x W, J pre W → pre.length < (s.size + 2) / 3 → YieldAt Fence.wide (n - 1) Tryd.prog l (triV x) W fun e W' =>
      (e = .returned (.bool true) ∧ J (pre ++ [x]) W' ∧ KpB Bs Bs W W') ∨ (e = .returned (.bool false) ∧ Jx (pre ++ [x]) W'))
    (W : World) (hBs : W.heap[Bs]? = some (.cells #[.string s] 9 (0, 0))) (h0 : J [] W) (hJa : AbidesFrom W.heap.size J) :
    CallsIn Fence.wide n Tryd.prog 112 #[.func (.yield l) #[] #[], .pointer (some ⟨Bs, 0, none⟩)] W fun e W' => (∃ v, e = .returned v) ∧
      ((∃ ys, TriAll s.data.toList ys ∧ J ys W') ∨ (∃ pre, True ∧ Jx pre W')) := by
  have hc1 : W.cell? ⟨Bs, 0, none⟩ = some (.string s) := by simp [World.cell?, hBs]
  refine callsIn_of_wp Tryd.func112 rfl trivial ?_ rfl
  simp only [Tryd.ntmps112, List.size_toArray, List.length_cons, List.length_nil, Nat.reduceAdd, Nat.reduceSub, Array.replicate_succ, Array.replicate_zero, List.push_toArray, List.append_toArray, List.nil_append, List.cons_append]
  gi_wp2
  gi_loopw [3] (fun i wr => ∃ (g I : Nat), I = 3 * g ∧ g ≤ (s.size + 2) / 3 ∧ i = .int .i64 (I : Int) ∧ wr.heap[Bs]? = some (.cells #[.string s] 9 (0, 0)) ∧ J ((List.range g).map (tri s.data.toList)) wr) (fun i _ => s.size + 2 - (intOf i).toNat)
  case atStart => exact ⟨0, 0, rfl, Nat.zero_le _, rfl, hBs, h0⟩
  case round =>
    obtain ⟨g, I, hIg, hg, rfl, g1, hJ⟩ := hrel
    have d1 : wr.cell? ⟨Bs, 0, none⟩ = some (.string s) := by simp [World.cell?, g1]
    by_cases hlt : I < s.size
    · have k0 : (0 : Int) ≤ (I : Int) := by omega
      have k1 : (I : Int) < (s.size : Int) := by omega
      have HI := Lib.hid hIg
      have hI0 : I ≤ 1048576 := by omega
      have HG := Lib.hid hg
      obtain ⟨x, hx⟩ : ∃ x, x = tri s.data.toList g := ⟨_, rfl⟩
      obtain ⟨r, hr⟩ : ∃ r : ByteArray, r = ⟨(s.data.toList.drop I).toArray⟩ := ⟨_, rfl⟩
      have he := slice_from s r I (I : Int) rfl (by omega) (by rw [hr]; exact piece_end s I)
      have hrl : r.data.toList = s.data.toList.drop I := by rw [hr]
      have hrs : r.size = s.size - I := by have := congrArg List.length hrl; simpa using this
      have hxn : x.n = min r.size 3 := by rw [hx, hrs]; simp [tri]; omega
      have hcells : Lib.byteCells (r.data.toList.take 3) ++ [Value.int .u8 0, .int .u8 0, .int .u8 0].drop x.n = [.int .u8 (x.a.toNat : Int), .int .u8 (x.b.toNat : Int), .int .u8 (x.c.toNat : Int)] := by
        rw [tri_cells r.data.toList (by simp; omega) (.int .u8 0) x.n (by rw [hxn]; simp) rfl, hrl, hx]
        simp [tri, List.getD, List.getElem?_drop, hIg]
      have hcp := run_copy3 ((wr.alloc (.cells #[.int .u8 0, .int .u8 0, .int .u8 0] 112)).drew) wr.heap.size r #[.int .u8 0, .int .u8 0, .int .u8 0] 112 (heap_alloc_new wr _) rfl #[.int .u8 (x.a.toNat : Int), .int .u8 (x.b.toNat : Int), .int .u8 (x.c.toNat : Int)] x.n hxn hcells.symm
      have HX := Lib.hid hx
      clear hIg hg hx hr hrl hrs hxn hcells
      have hBl : Bs < wr.heap.size := (Array.getElem?_eq_some_iff.1 g1).1
      have d2 : (wr.alloc (.cells #[.int .u8 0, .int .u8 0, .int .u8 0] 112)).cell? ⟨Bs, 0, none⟩ = some (.string s) := (((Below.refl wr.heap.size wr).alloc (Nat.le_refl _) _).cell (p := ⟨Bs, 0, none⟩) hBl).trans d1
      gi_wp2
      gi_region
      obtain ⟨w4, h4⟩ : ∃ w4, (wr.alloc (.cells #[.int .u8 0, .int .u8 0, .int .u8 0] 112)).drew.setRow wr.heap.size #[.int .u8 (x.a.toNat : Int), .int .u8 (x.b.toNat : Int), .int .u8 (x.c.toNat : Int)] = w4 := ⟨_, rfl⟩
      have hr4 : w4.heap[wr.heap.size]? = some (.cells #[.int .u8 (x.a.toNat : Int), .int .u8 (x.b.toNat : Int), .int .u8 (x.c.toNat : Int)] 112 (0, 0)) := by
        rw [← h4]; exact setRow_heap _ _ _ _ 112 (0, 0) (heap_alloc_new wr _)
      have hg4 : wr.grownBy w4 none := by
        rw [← h4]
        refine ⟨rfl, rfl, rfl, by simp, fun k hk _ => ?_⟩
        exact (setRow_other _ _ _ _ (by omega)).trans (Below.heap_alloc _ _ _ (by omega))
      have g4 : w4.heap[Bs]? = some (.cells #[.string s] 9 (0, 0)) := (hg4.block Bs hBl (by simp)).trans g1
      have hJ4 : J ((List.range g).map (tri s.data.toList)) w4 := hJa _ wr w4 none hJ hg4 (fun r e => by cases e)
      rw [h4]
      clear h4 hcp d1 d2 g1 hJ hg4
      have q0 : w4.cell? ⟨wr.heap.size, 0, none⟩ = some (.int .u8 (x.a.toNat : Int)) := by simp [World.cell?, hr4]
      have q1 : w4.cell? ⟨wr.heap.size, 1, none⟩ = some (.int .u8 (x.b.toNat : Int)) := by simp [World.cell?, hr4]
      have q2 : w4.cell? ⟨wr.heap.size, 2, none⟩ = some (.int .u8 (x.c.toNat : Int)) := by simp [World.cell?, hr4]
      have hyy := hY _ x w4 hJ4 (by have := HG.out; have := HI.out; simp; omega)
      unfold triV at hyy
      obtain ⟨fn, tmps, assign, body, hy, hR⟩ := hyy
      have HR := Lib.hid hR
      clear hR hr4
      gi_wp2
      refine HR.out.mono ?_
      rintro e W3 (⟨rfl, hJ3, hk3⟩ | ⟨rfl, hJx3⟩)
      · gi_wp2
        go_roundw
        case rel => exact ⟨g + 1, I + 3, by rw [HI.out]; omega, by have := HI.out; omega, by go_num, hk3.1.trans g4, by rw [List.range_succ, List.map_append, List.map_cons, List.map_nil, ← HX.out]; exact hJ3⟩
        case measure => simp [intOf]; omega
      · gi_wp2
        refine bodyPost_ret (results_none rfl _ _ _) rfl ?_
        exact ⟨⟨_, rfl⟩, .inr ⟨_, trivial, hJx3⟩⟩
    · have k1 : ¬ (I : Int) < (s.size : Int) := by omega
      have HE : Hid (g = (s.size + 2) / 3) := Lib.hid (by omega)
      clear hIg hg
      gi_wp2
      go_end0
      exact ⟨⟨_, rfl⟩, .inl ⟨_, by unfold TriAll; rw [HE.out]; simp, hJ⟩⟩

/-- The iterator's contract, for a caller. -/
theorem triples_stops (n : Nat) (hn : 1 ≤ n) (Bs : Nat) (s : ByteArray) (hs : s.size ≤ 1048576) (w : World) (h1 : Bs < w.heap.size)
    (hBs : w.heap[Bs]? = some (.cells #[.string s] 9 (0, 0))) :
    SeqStopsK Fence.wide n Tryd.prog 112 #[.pointer (some ⟨Bs, 0, none⟩)] triV (KpB Bs Bs) (TriAll s.data.toList) (fun _ => True) ((s.size + 2) / 3) w := fun l J Jx W hW hJ _ hY h0 =>
  triples1_in n hn l Bs s hs J Jx hY W ((hW.block Bs h1).trans hBs) h0 hJ
end Go.Proofs.YtcfkhfbhmjfhdaaDoor

/-
  impl.base64Group returns the four signs of three bytes.
-/
namespace Go.Proofs.YtcfkhfbhmjfhdaaDoor
open Go.RowKit

theorem idx_u8 (n : Nat) (hn : n < 64) (z : Int) (hz : z = (n : Int)) (w : World) : (Instr.index 9 (.string ⟨#[65, 66, 67, 68, 69, 70, 71, 72, 73, 74, 75, 76, 77, 78, 79, 80, 81, 82, 83, 84, 85, 86, 87, 88, 89, 90, 97, 98, 99, 100, 101, 102, 103, 104, 105, 106, 107, 108, 109, 110, 111, 112, 113, 114, 115, 116, 117, 118, 119, 120, 121, 122, 48, 49, 50, 51, 52, 53, 54, 55, 56, 57, 43, 47]⟩) (.int .u8 z)).run Tryd.prog w = .ok (.int .u8 ((sg n).toNat : Int)) w := idx_sg n hn z hz .u8 w

set_option maxRecDepth 100000 in
set_option maxHeartbeats 2000000 in
theorem base64Group_any (a b c : UInt8) (w : World) :
    Calls Tryd.prog 87 #[.agg #[bv a, bv b, bv c]] w fun e w' => e = .returned (.agg #[bv (sg (a.toNat / 4)), bv (sg (a.toNat % 4 * 16 + b.toNat / 16)), bv (sg (b.toNat % 16 * 4 + c.toNat / 64)), bv (sg (c.toNat % 64))]) ∧ Below w.heap.size w w' := by
  unfold bv
  have ha := a.toNat_lt
  have hb := b.toNat_lt
  have hc := c.toNat_lt
  have w1 : IntKind.u8.wrap ((a.toNat : Int) / 4) = (a.toNat : Int) / 4 := wraps_u8 _ (by omega) (by omega)
  have w2 : IntKind.u8.wrap ((b.toNat : Int) / 16) = (b.toNat : Int) / 16 := wraps_u8 _ (by omega) (by omega)
  have w3 : IntKind.u8.wrap ((c.toNat : Int) / 64) = (c.toNat : Int) / 64 := wraps_u8 _ (by omega) (by omega)
  have w4 : IntKind.u8.wrap ((a.toNat : Int) % 4 * 16) = (a.toNat : Int) % 4 * 16 := wraps_u8 _ (by omega) (by omega)
  have w5 : IntKind.u8.wrap ((b.toNat : Int) % 16 * 4) = (b.toNat : Int) % 16 * 4 := wraps_u8 _ (by omega) (by omega)
  have m1 : bits .and .u8 (a.toNat : Int) 3 = (a.toNat : Int) % 4 := bits_mask .u8 8 (by decide) wraps_u8 2 (by decide) _ (by omega) (by omega)
  have m2 : bits .and .u8 (b.toNat : Int) 15 = (b.toNat : Int) % 16 := bits_mask .u8 8 (by decide) wraps_u8 4 (by decide) _ (by omega) (by omega)
  have m3 : bits .and .u8 (c.toNat : Int) 63 = (c.toNat : Int) % 64 := bits_mask .u8 8 (by decide) wraps_u8 6 (by decide) _ (by omega) (by omega)
  have j1 : bits .or .u8 ((a.toNat : Int) % 4 * 16) ((b.toNat : Int) / 16) = (a.toNat : Int) % 4 * 16 + (b.toNat : Int) / 16 := bits_join .u8 8 (by decide) wraps_u8 4 _ _ (by omega) (by omega) (by omega) (by omega) (by omega) (by omega)
  have j2 : bits .or .u8 ((b.toNat : Int) % 16 * 4) ((c.toNat : Int) / 64) = (b.toNat : Int) % 16 * 4 + (c.toNat : Int) / 64 := bits_join .u8 8 (by decide) wraps_u8 2 _ _ (by omega) (by omega) (by omega) (by omega) (by omega) (by omega)
  have x1 := idx_u8 (a.toNat / 4) (by omega) ((a.toNat : Int) / 4) (by omega)
  have x2 := idx_u8 (a.toNat % 4 * 16 + b.toNat / 16) (by omega) ((a.toNat : Int) % 4 * 16 + (b.toNat : Int) / 16) (by omega)
  have x3 := idx_u8 (b.toNat % 16 * 4 + c.toNat / 64) (by omega) ((b.toNat : Int) % 16 * 4 + (c.toNat : Int) / 64) (by omega)
  have x4 := idx_u8 (c.toNat % 64) (by omega) ((c.toNat : Int) % 64) (by omega)
  go_enter Tryd.func87, Tryd.ntmps87
  go_wp2_with fail
  obtain ⟨W, hW⟩ : ∃ W, (w.alloc (.cells #[.int .u8 (a.toNat : Int), .int .u8 (b.toNat : Int), .int .u8 (c.toNat : Int)] 112)).alloc (.cells #[.int .u8 0, .int .u8 0, .int .u8 0, .int .u8 0] 113) = W := ⟨_, rfl⟩
  have hBW : Below w.heap.size w W := by rw [← hW]; exact (((Below.refl _ w).alloc (Nat.le_refl _) _).alloc (by simp) _)
  have h0 : W.heap[w.heap.size]? = some (.cells #[.int .u8 (a.toNat : Int), .int .u8 (b.toNat : Int), .int .u8 (c.toNat : Int)] 112 (0, 0)) := by
    rw [← hW]; exact (Below.heap_alloc _ _ _ (by simp)).trans (heap_alloc_new w _)
  have h1 : W.heap[w.heap.size + 1]? = some (.cells #[.int .u8 0, .int .u8 0, .int .u8 0, .int .u8 0] 113 (0, 0)) := by
    rw [← hW]
    have := heap_alloc_new (w.alloc (.cells #[.int .u8 (a.toNat : Int), .int .u8 (b.toNat : Int), .int .u8 (c.toNat : Int)] 112)) (.cells #[.int .u8 0, .int .u8 0, .int .u8 0, .int .u8 0] 113)
    rwa [World.size_alloc] at this
  rw [hW]
  clear hW
  have c0 : W.cell? ⟨w.heap.size, 0, none⟩ = some (.int .u8 (a.toNat : Int)) := by simp [World.cell?, h0]
  have c1 : W.cell? ⟨w.heap.size, 1, none⟩ = some (.int .u8 (b.toNat : Int)) := by simp [World.cell?, h0]
  have c2 : W.cell? ⟨w.heap.size, 2, none⟩ = some (.int .u8 (c.toNat : Int)) := by simp [World.cell?, h0]
  go_still_tail 27, (by kernel_rfl)
  have e0 : W.cell? ⟨w.heap.size + 1, 0, none⟩ = some (.int .u8 0) := by simp [World.cell?, h1]
  have e1 : W.cell? ⟨w.heap.size + 1, 1, none⟩ = some (.int .u8 0) := by simp [World.cell?, h1]
  have e2 : W.cell? ⟨w.heap.size + 1, 2, none⟩ = some (.int .u8 0) := by simp [World.cell?, h1]
  have e3 : W.cell? ⟨w.heap.size + 1, 3, none⟩ = some (.int .u8 0) := by simp [World.cell?, h1]
  have f0 : W.frozen? ⟨w.heap.size + 1, 0, none⟩ = false := by simp [World.frozen?, h1]
  have f1 : W.frozen? ⟨w.heap.size + 1, 1, none⟩ = false := by simp [World.frozen?, h1]
  have f2 : W.frozen? ⟨w.heap.size + 1, 2, none⟩ = false := by simp [World.frozen?, h1]
  have f3 : W.frozen? ⟨w.heap.size + 1, 3, none⟩ = false := by simp [World.frozen?, h1]
  go_wp2_with fail
  refine bodyPost_ret (v := .agg #[.int .u8 ((sg (a.toNat / 4)).toNat : Int), .int .u8 ((sg (a.toNat % 4 * 16 + b.toNat / 16)).toNat : Int), .int .u8 ((sg (b.toNat % 16 * 4 + c.toNat / 64)).toNat : Int), .int .u8 ((sg (c.toNat % 64)).toNat : Int)]) ?_ rfl ⟨rfl, ?_⟩
  · simp [results, Tryd.f87, go_sem, e0, e1, e2, e3]
  · exact ((((hBW.setCell (p := ⟨w.heap.size + 1, 0, none⟩) (by simp) _).setCell (p := ⟨w.heap.size + 1, 1, none⟩) (by simp) _).setCell (p := ⟨w.heap.size + 1, 2, none⟩) (by simp) _).setCell (p := ⟨w.heap.size + 1, 3, none⟩) (by simp) _).drew
end Go.Proofs.YtcfkhfbhmjfhdaaDoor

/-
  impl.PutBase64 returns four signs for every three bytes.
-/
namespace Go.Proofs.YtcfkhfbhmjfhdaaDoor
open Go.RowKit Go.Shelf
attribute [local go_sem] Oper.semAt_some

/-- What PutBase64 has in its box: the signs so far. -/
def BJ (w : World) (ls : List UInt8) (W : World) : Prop :=
  w.heap.size + 3 ≤ W.heap.size ∧ ∃ v, Boxed W (w.heap.size + 1) 82 v ∧ Buf W w.heap.size v ls ∧ (∀ g, v.ownBlock = some g → g ≠ w.heap.size + 1 ∧ g ≠ w.heap.size + 2)
theorem bJ_grown {w : World} {ls : List UInt8} {W W' : World} {row : Option Nat} (h : BJ w ls W) (hg : W.grownBy W' row) (hr : ∀ r, row = some r → ∃ o : Obj, W.heap[r]? = some o ∧ o.isCells = false) : BJ w ls W' := by
  obtain ⟨h4, v, hB, hS, hne⟩ := h
  refine ⟨Nat.le_trans h4 hg.size, v, hB.kept hg (fun e => ?_), World.ownsRow.kept hS hg ?_, hne⟩
  · obtain ⟨o, ho, hc⟩ := hr _ e.symm
    rw [show W.heap[_]? = _ from hB] at ho; cases ho; cases hc
  · rcases hS.2 with ⟨rfl, _⟩ | ⟨g, cap, cur, rfl, _, hh, _⟩
    · left; rfl
    · right
      intro e
      obtain ⟨o, ho, hc⟩ := hr g (by simpa [Value.ownBlock] using e.symm)
      rw [hh] at ho; cases ho; cases hc
def outL (pre : List Tri) : List UInt8 := pre.flatMap fun x => grp ((x.a.toNat * 256 + x.b.toNat) * 256 + x.c.toNat) x.n
theorem outL_snoc (pre : List Tri) (x : Tri) : outL (pre ++ [x]) = outL pre ++ grp ((x.a.toNat * 256 + x.b.toNat) * 256 + x.c.toNat) x.n := by simp [outL]
theorem outL_len (pre : List Tri) : (outL pre).length = 4 * pre.length := by
  induction pre with
  | nil => rfl
  | cons x pre ih => simp only [outL, List.flatMap_cons, List.length_append, List.length_cons] at ih ⊢; rw [ih]; simp [grp]; omega
theorem outL_all (l : List UInt8) (ys : List Tri) (h : TriAll l ys) : outL ys = b64L l := by
  rw [h]
  unfold outL b64L b64G
  rw [List.flatMap_map, List.flatMap_def, List.flatMap_def]
  refine congrArg List.flatten (List.map_congr_left fun g hg => ?_)
  have hg' : g < (l.length + 2) / 3 := by simpa using hg
  have e : max 1 (min 3 (l.length - 3 * g)) = min 3 (l.length - 3 * g) := by omega
  simp only [tri, e, pv, Nat.add_zero, Nat.zero_mul, Nat.zero_add]

/-- The four cells while the last are being filled up with the padding sign. -/
def eqs (n K : Nat) (c0 c1 c2 c3 : UInt8) : Array Value := #[.int .u8 (c0.toNat : Int), .int .u8 (c1.toNat : Int), if n < 2 ∧ 2 < K then .int .u8 61 else .int .u8 (c2.toNat : Int), if n < 3 ∧ 3 < K then .int .u8 61 else .int .u8 (c3.toNat : Int)]
theorem eqs_set (n K : Nat) (c0 c1 c2 c3 : UInt8) (h1 : 1 ≤ n) (hK : n + 1 ≤ K) (h4 : K < 4) : (eqs n K c0 c1 c2 c3).setIfInBounds K (.int .u8 61) = eqs n (K + 1) c0 c1 c2 c3 := by
  obtain rfl | rfl : K = 2 ∨ K = 3 := by omega
  · obtain rfl : n = 1 := by omega
    rfl
  · obtain rfl | rfl : n = 1 ∨ n = 2 := by omega
    · rfl
    · rfl
theorem eqs_start (n : Nat) (c0 c1 c2 c3 : UInt8) : #[.int .u8 (c0.toNat : Int), .int .u8 (c1.toNat : Int), .int .u8 (c2.toNat : Int), .int .u8 (c3.toNat : Int)] = eqs n (n + 1) c0 c1 c2 c3 := by
  unfold eqs
  rw [if_neg (by omega), if_neg (by omega)]
theorem eqs_end (n : Nat) (c0 c1 c2 c3 : UInt8) : (eqs n 4 c0 c1 c2 c3).toList = [c0, c1, if n < 2 then 61 else c2, if n < 3 then 61 else c3].map bv := by
  unfold eqs bv
  by_cases h2 : n < 2
  · have h3 : n < 3 := by omega
    simp [h2, h3]
  · by_cases h3 : n < 3
    · simp [h2, h3]
    · simp [h2, h3]
theorem Buf.grown_none {w w' : World} {base : Nat} {v : Value} {l : List UInt8} (h : Buf w base v l) (hg : w.grownBy w' none) : Buf w' base v l :=
  World.ownsRow.kept h (row := none) hg (by
    rcases h.form with ⟨rfl, _⟩ | ⟨g, cap, rfl, _, _⟩
    · left; rfl
    · right; simp [Value.ownBlock])

theorem run_append_buf2 (w : World) (ty : TypeId) (base : Nat) (v : Value) (l : List UInt8) (hown : Buf w base v l) (ns : List UInt8) (B c : Nat) (cs : Array Value) (t : TypeId) (fr : Nat × Nat)
    (hblk : w.heap[B]? = some (.cells cs t fr)) (hcs : cs.toList = ns.map bv) (hm : 0 < ns.length) (hlen : l.length + ns.length ≤ 16777216) (hbase : base ≤ w.heap.size) :
    ∃ g cap w', (Builtin.append_ #[82, 82] ty #[v, .slice (some ⟨B, 0, none⟩) ns.length c]).run Tryd.prog w = .ok (.slice (some ⟨g, 0, none⟩) (l.length + ns.length) cap) w' ∧ Buf w' base (.slice (some ⟨g, 0, none⟩) (l.length + ns.length) cap) (l ++ ns) ∧ w.grownBy w' v.ownBlock ∧ (v.ownBlock = some g ∨ g = w.heap.size) := by
  obtain ⟨i0, hi, hz0, hz1, hz2⟩ := info_parts u8info
  obtain ⟨g, cap, w', hr, h2, h3, h4, _⟩ := run_append_lies (P := Tryd.prog) w 82 ty base 5 i0 (.int .u8 0) 1 1 Tryd.underlying82 hi hz0 hz1 hz2 rfl (by decide) v l.length (l.map bv) hown
    ⟨B, 0, none⟩ ns.length c (ns.map bv) (by simp) (by rw [← hcs]; exact World.news_of_block hblk) (by intro u hu; obtain ⟨x, _, rfl⟩ := List.mem_map.1 hu; rfl) hm (by unfold maxLen; omega) (by omega) hbase _ rfl
  refine ⟨g, cap, w', hr, ?_, h3, h4⟩
  unfold Buf
  rw [List.length_append, List.map_append]
  exact h2
theorem step_append_bin {F : Fence} {n : Nat} {w : World} {ops : Array Oper} {o : Oper} {a : Act} {K : Act → World → Prop} {Q : Exit → Act → World → Prop} {E : Prop} (hgd : o.guard = none) (s x : Operand)
    (ho : o.op = .call { callee := .builtin .append, args := #[s, x], argTypes := #[82, 82] })
    (base : Nat) (v : Value) (l : List UInt8) (hs : a.eval s = v) (hown : Buf w base v l) (ns : List UInt8) (B m c : Nat) (cs : Array Value) (t : TypeId) (fr : Nat × Nat)
    (hx : a.eval x = .slice (some ⟨B, 0, none⟩) m c) (hmm : ns.length = m) (hblk : w.heap[B]? = some (.cells cs t fr)) (hcs : cs.toList = ns.map bv) (hm : 0 < ns.length) (hlen : l.length + ns.length ≤ 16777216) (hbase : base ≤ w.heap.size)
    (h : ∀ g cap w', Buf w' base (.slice (some ⟨g, 0, none⟩) (l.length + ns.length) cap) (l ++ ns) → w.grownBy w' v.ownBlock → (v.ownBlock = some g ∨ g = w.heap.size) → K (a.put o.dst (.slice (some ⟨g, 0, none⟩) (l.length + ns.length) cap)) w') :
    if Region.wanted o (yielded ops a.tmps) = true then Oper.wpIn F n Tryd.prog o a w K Q else E := by
  subst hmm
  have hw : Region.wanted o (yielded ops a.tmps) = true := by simp [Region.wanted, hgd]
  rw [if_pos hw]
  obtain ⟨g, cap, w', hr, h2, h3, h4⟩ := run_append_buf2 w o.type base v l hown ns B c cs t fr hblk hcs hm hlen hbase
  refine ⟨?_, ?_⟩
  · intro f hf
    simp [Oper.about, ho, resolve, Target.leads, go_sem] at hf
  · rw [Oper.semAt_eq _ _ _ (by intro c hc; rw [ho] at hc; cases hc)]
    unfold execOp
    simp only [ho, resolve, invoke, builtin, Sem.run_bind, Sem.run_pure, Result.andThen_ok, List.map_toArray, List.map_cons, List.map_nil, hs, hx, hr]
    exact h g cap w' h2 h3 h4
theorem b64_end (w W wa w3 : World) (v u : Value) (ls ns : List UInt8) (g cap : Nat) (hu : u = .slice (some ⟨g, 0, none⟩) (ls.length + ns.length) cap) (h4 : w.heap.size + 3 ≤ W.heap.size) (hR : Boxed W (w.heap.size + 1) 82 v) (hS : Buf W w.heap.size v ls)
    (hne : ∀ g, v.ownBlock = some g → g ≠ w.heap.size + 1 ∧ g ≠ w.heap.size + 2) (hB : Below w.heap.size w W) (hga : W.grownBy wa none) (hg3 : wa.grownBy w3 v.ownBlock)
    (hS3 : Buf w3 w.heap.size (.slice (some ⟨g, 0, none⟩) (ls.length + ns.length) cap) (ls ++ ns)) (hg4 : v.ownBlock = some g ∨ g = wa.heap.size) :
    Boxed w3 (w.heap.size + 1) 82 v ∧ KeepsOthers W (w3.setCell ⟨w.heap.size + 1, 0, none⟩ u) ∧ KpB (w.heap.size + 1 + 1) (w.heap.size + 1 + 1) W (w3.setCell ⟨w.heap.size + 1, 0, none⟩ u) ∧
      BJ w (ls ++ ns) (w3.setCell ⟨w.heap.size + 1, 0, none⟩ u) ∧ Below w.heap.size w (w3.setCell ⟨w.heap.size + 1, 0, none⟩ u) := by
  subst hu
  have hs1 : W.heap.size ≤ wa.heap.size := hga.size
  have hs3 : wa.heap.size ≤ w3.heap.size := hg3.size
  have hgne : g ≠ w.heap.size + 1 ∧ g ≠ w.heap.size + 2 := by
    rcases hg4 with h | h
    · exact hne g h
    · omega
  have hG : W.grownBy w3 v.ownBlock := ⟨hg3.os.trans hga.os, hg3.tape.trans hga.tape, hg3.output.trans hga.output, by omega, fun k hk hkn =>
    (hg3.block k (by omega) hkn).trans (hga.block k hk (by simp))⟩
  have hR3 : Boxed w3 (w.heap.size + 1) 82 v := hR.kept hG (fun e => (hne _ e.symm).1 rfl)
  have hK : KeepsOthers W w3 := KeepsOthers.of_grownBy hG (fun j o' ej hj => by
    rcases hS.2 with ⟨rfl, _⟩ | ⟨g', cap', cur, rfl, _, hh, _⟩
    · simp [Value.ownBlock] at ej
    · simp [Value.ownBlock] at ej
      subst ej
      rw [hh] at hj; cases hj; rfl)
  have hBel : Below w.heap.size w w3 := hB.grown hG (by omega) hS.owned
  have k1 : w3.heap[w.heap.size + 1 + 1]? = W.heap[w.heap.size + 1 + 1]? := hG.block _ (by omega) (fun e => (hne _ e.symm).2 (by omega))
  refine ⟨hR3, hK.trans (KeepsOthers.setCell _ _ _), ⟨(Below.heap_setCell _ _ _ _ (by simp)).trans k1, (Below.heap_setCell _ _ _ _ (by simp)).trans k1⟩, ⟨by simp; omega, _, hR3.set _, ?_, ?_⟩, hBel.setCell (p := ⟨w.heap.size + 1, 0, none⟩) (by simp) _⟩
  · exact World.ownsRow.kept hS3 (grownBy_setCell' w3 (w.heap.size + 1) _) (by right; simp [Value.ownBlock]; omega)
  · intro g' hg'
    simp [Value.ownBlock] at hg'
    subst hg'
    exact hgne

set_option maxRecDepth 100000 in
set_option maxHeartbeats 4000000 in
theorem putBase64_in (n : Nat) (hn : 4 ≤ n) (s : ByteArray) (w : World) (hs : s.size ≤ 1048576) :
    CallsIn Fence.wide n Tryd.prog 61 #[.string s] w fun e W' => e = .returned (.string ⟨(b64L s.data.toList).toArray⟩) ∧ Below w.heap.size w W' := by
  have h1 : 1 ≤ n := by omega
  have hn2 : 1 ≤ n - 1 - 1 := by omega
  obtain ⟨C, hC⟩ : ∃ C : Nat, C = (s.size + 2) / 3 * 4 := ⟨_, rfl⟩
  obtain ⟨i0, hi, hz0, hz1, hz2⟩ := info_parts u8info
  obtain ⟨M, hM⟩ : ∃ M, M = madeCells (Value.int .u8 0).cells (C * i0.size) := ⟨_, rfl⟩
  have hMs : M.size = C := by rw [hM, size_madeCells, hz1]; simp
  have hmk : ∀ W : World, (Instr.makeSlice 82 (.int .i64 0) (.int .i64 (C : Int))).run Tryd.prog W = .ok (.slice (some ⟨W.heap.size, 0, none⟩) 0 C) (W.alloc (.cells M 5)) := fun W => by
    have h := run_make (P := Tryd.prog) W 82 5 i0 (.int .u8 0) Tryd.underlying82 hi hz0 .i64 .i64 0 (C : Int) (by omega) (by omega) (by rw [hz2]; omega) (by omega)
    simp only [Int.toNat_natCast] at h
    rw [← hM] at h
    simpa using h
  have hcap : ((s.size : Int) + 2) / 3 * 4 = (C : Int) := by omega
  have hC0 : C ≤ 1398104 := by omega
  clear hM hC
  refine callsIn_of_wp_marks Tryd.func61 rfl trivial ?_ rfl
  simp only [Tryd.ntmps61, List.size_toArray, List.length_cons, List.length_nil, Nat.reduceAdd, Nat.reduceSub, Array.replicate_succ, Array.replicate_zero, List.push_toArray, List.append_toArray, List.nil_append, List.cons_append]
  gi_wp2_with (refine ⟨trivial, ?_⟩; gi_at_call 86; refine (triplesOf_in _ _ _).mono ?_; rintro e w' ⟨rfl, rfl⟩)
  have b1 := Boxed.new (w.alloc (.cells M 5)) 82 (.slice (some ⟨w.heap.size, 0, none⟩) 0 C)
  have b3 := Boxed.new ((w.alloc (.cells M 5)).alloc (.cells #[.slice (some ⟨w.heap.size, 0, none⟩) 0 C] 82)) 9 (.string s)
  simp only [World.size_alloc] at b1 b3
  have hB0 : Below w.heap.size w (((w.alloc (.cells M 5)).alloc (.cells #[.slice (some ⟨w.heap.size, 0, none⟩) 0 C] 82)).alloc (.cells #[.string s] 9)) := (((Below.refl _ w).alloc (Nat.le_refl _) _).alloc (by simp) _).alloc (by simp; omega) _
  have b1' := b1.alloc (.cells #[.string s] 9)
  have hS00 : Buf (w.alloc (.cells M 5)) w.heap.size (.slice (some ⟨w.heap.size, 0, none⟩) 0 C) [] :=
    ⟨rfl, .inr ⟨w.heap.size, C, M, rfl, Nat.le_refl _, heap_alloc_new w _, Nat.zero_le _, by unfold maxLen; omega, by rw [hMs]; omega, by simp⟩⟩
  have hS0 := (hS00.alloc (.cells #[.slice (some ⟨w.heap.size, 0, none⟩) 0 C] 82)).alloc (.cells #[.string s] 9)
  clear b1 hS00
  obtain ⟨W0, hW0⟩ : ∃ W0, (((w.alloc (.cells M 5)).alloc (.cells #[.slice (some ⟨w.heap.size, 0, none⟩) 0 C] 82)).alloc (.cells #[.string s] 9)) = W0 := ⟨_, rfl⟩
  have hsz : W0.heap.size = w.heap.size + 3 := by rw [← hW0]; simp
  rw [hW0] at b1' b3 hS0 hB0 ⊢
  clear hW0
  have HSZ := Lib.hid hsz
  clear hsz hmk hMs hcap
  refine wpIn_rangeFunc_ownH rfl h1 (gf := 112) (lb := #[.pointer (some ⟨w.heap.size + 1 + 1, 0, none⟩)]) rfl trivial (enters_of Tryd.func112 (by kernel_rfl) rfl)
    (triples_stops (n - 1) (by omega) (w.heap.size + 1 + 1) s hs W0 (by rw [HSZ.out]; omega) b3) kpB_t (kpB_b (by rw [HSZ.out]; omega) (by rw [HSZ.out]; omega)) (Below.refl _ _) (fun _ => rfl)
    (fun pre W => BJ w (outL pre) W ∧ Below w.heap.size w W)
    (fun c pre W => False)
    (OwnFrom.and (fun pre W W' row h hg hr => bJ_grown h hg (fun r e => (hr r e).2)) (ownFrom_below (Nat.le_refl _) (by rw [HSZ.out]; omega)))
    (fun c => ownFrom_pure _ _)
    ⟨⟨by rw [HSZ.out]; exact Nat.le_refl _, _, b1', hS0, fun g hg => by simp [Value.ownBlock] at hg; omega⟩, hB0⟩
    (fun x a' W => ∃ Bx, w.heap.size + 3 ≤ Bx ∧ W.heap[Bx]? = some (.cells #[.int .u8 (x.a.toNat : Int), .int .u8 (x.b.toNat : Int), .int .u8 (x.c.toNat : Int)] 112 (0, 0)) ∧
      a' = { tmps := #[.string s, undef, .string ⟨#[]⟩, .pointer (some ⟨w.heap.size + 1, 0, none⟩), .pointer (some ⟨Bx, 0, none⟩), .int .i64 (x.n : Int), undef, undef, .string s, .int .i64 s.size, .int .i64 ((s.size : Int) + 2), .int .i64 (((s.size : Int) + 2) / 3), .int .i64 (C : Int), .slice (some ⟨w.heap.size, 0, none⟩) 0 C, .string s, .func (.func 112) #[] #[.pointer (some ⟨w.heap.size + 1 + 1, 0, none⟩)], .agg #[.int .u8 (x.a.toNat : Int), .int .u8 (x.b.toNat : Int), .int .u8 (x.c.toNat : Int)], .int .i64 (x.n : Int), undef, undef, undef, undef, undef, undef, undef, undef, undef, undef, undef, undef, undef, undef, undef], defers := [] })
    (fun x a' => by
      rintro _ X Y row ⟨Bx, hx1, hx2, hx3⟩ hg hr
      refine ⟨Bx, hx1, (hg.block Bx (Array.getElem?_eq_some_iff.1 hx2).1 (fun e => ?_)).trans hx2, hx3⟩
      obtain ⟨_, o, ho, hc⟩ := hr _ e.symm
      rw [hx2] at ho; cases ho; cases hc)
    ?assign ?body ?done ?stop
  case assign =>
    rintro l pre x W K ⟨hJ, hB⟩ hK
    unfold triV
    gi_wp2
    have hgr := World.grownBy_alloc W (.cells #[.int .u8 (x.a.toNat : Int), .int .u8 (x.b.toNat : Int), .int .u8 (x.c.toNat : Int)] 112) none
    refine hK _ _ ((KeepsOthers.alloc _ _).from _) (KpB.of_grown hgr (by have := hJ.1; omega) (by have := hJ.1; omega) (by simp) (by simp)) ⟨bJ_grown hJ hgr (fun r e => by cases e), hB.alloc hB.size _⟩ ⟨W.heap.size, hJ.1, heap_alloc_new W _, rfl⟩
  case body =>
    rintro l pre x a' W hl hrec ⟨⟨h4, v, hR, hS, hne⟩, hB⟩ ⟨Bx, hBx, hX, rfl⟩ hpl
    have cR := hR.cell
    have fR := hR.frozen
    have q0 : W.cell? ⟨Bx, 0, none⟩ = some (.int .u8 (x.a.toNat : Int)) := by simp [World.cell?, hX]
    have q1 : W.cell? ⟨Bx, 1, none⟩ = some (.int .u8 (x.b.toNat : Int)) := by simp [World.cell?, hX]
    have q2 : W.cell? ⟨Bx, 2, none⟩ = some (.int .u8 (x.c.toNat : Int)) := by simp [World.cell?, hX]
    obtain ⟨c0, hc0⟩ : ∃ c, c = sg (x.a.toNat / 4) := ⟨_, rfl⟩
    obtain ⟨c1, hc1⟩ : ∃ c, c = sg (x.a.toNat % 4 * 16 + x.b.toNat / 16) := ⟨_, rfl⟩
    obtain ⟨c2, hc2⟩ : ∃ c, c = sg (x.b.toNat % 16 * 4 + x.c.toNat / 64) := ⟨_, rfl⟩
    obtain ⟨c3, hc3⟩ : ∃ c, c = sg (x.c.toNat % 64) := ⟨_, rfl⟩
    have HGR : Hid (grp ((x.a.toNat * 256 + x.b.toNat) * 256 + x.c.toNat) x.n = [c0, c1, if x.n < 2 then 61 else c2, if x.n < 3 then 61 else c3]) := Lib.hid (by
      have e1 := x.a.toNat_lt
      have e2 := x.b.toNat_lt
      have e3 := x.c.toNat_lt
      have e4 := x.h1
      have d0 : ((x.a.toNat * 256 + x.b.toNat) * 256 + x.c.toNat) / 262144 % 64 = x.a.toNat / 4 := by omega
      have d1 : ((x.a.toNat * 256 + x.b.toNat) * 256 + x.c.toNat) / 4096 % 64 = x.a.toNat % 4 * 16 + x.b.toNat / 16 := by omega
      have d2 : ((x.a.toNat * 256 + x.b.toNat) * 256 + x.c.toNat) / 64 % 64 = x.b.toNat % 16 * 4 + x.c.toNat / 64 := by omega
      have d3 : ((x.a.toNat * 256 + x.b.toNat) * 256 + x.c.toNat) % 64 = x.c.toNat % 64 := by omega
      unfold grp ch
      rw [if_neg (by omega), if_neg (by omega)]
      simp only [Nat.mul_zero, Nat.sub_zero, Nat.mul_one, Nat.reduceMul, Nat.reduceSub, Nat.reducePow, Nat.div_one, d0, d1, d2, d3, ← hc0, ← hc1, ← hc2, ← hc3])
    have HBG : Hid (∀ W, Calls Tryd.prog 87 #[.agg #[.int .u8 (x.a.toNat : Int), .int .u8 (x.b.toNat : Int), .int .u8 (x.c.toNat : Int)]] W fun e w' => e = .returned (.agg #[.int .u8 (c0.toNat : Int), .int .u8 (c1.toNat : Int), .int .u8 (c2.toNat : Int), .int .u8 (c3.toNat : Int)]) ∧ Below W.heap.size W w') := Lib.hid (fun W => by
      have h := base64Group_any x.a x.b x.c W
      unfold bv at h
      rw [hc0, hc1, hc2, hc3]; exact h)
    clear hc0 hc1 hc2 hc3
    have hn1 := x.h1
    have hn3 := x.h3
    have HPL : Hid ((outL pre).length + 4 ≤ 16777216) := Lib.hid (by rw [outL_len]; omega)
    gi_wp2_with (refine ⟨trivial, ?_⟩; gi_at_call 87; refine (CallsIn.inRound l (callsIn_wide.2 (HBG.out _))).mono ?_; rintro e w1 ⟨rfl, hb1⟩)
    have hgz : W.grownBy (w1.alloc (.cells #[.int .u8 (c0.toNat : Int), .int .u8 (c1.toNat : Int), .int .u8 (c2.toNat : Int), .int .u8 (c3.toNat : Int)] 113)) none :=
      ⟨hb1.os, hb1.tape, hb1.output, by have := hb1.size; simp; omega, fun k hk _ => (Below.heap_alloc _ _ _ (Nat.lt_of_lt_of_le hk hb1.size)).trans (hb1.block k hk)⟩
    have hW1 : W.heap.size ≤ w1.heap.size := hb1.size
    gi_loopw [7] (fun k wr => ∃ K : Nat, x.n + 1 ≤ K ∧ K ≤ 4 ∧ k = .int .i64 (K : Int) ∧ wr.heap[w1.heap.size]? = some (.cells (eqs x.n K c0 c1 c2 c3) 113 (0, 0)) ∧ W.grownBy wr none) (fun k _ => 4 - (intOf k).toNat)
    case atStart => exact ⟨x.n + 1, Nat.le_refl _, by omega, rfl, by rw [← eqs_start]; exact heap_alloc_new w1 _, hgz⟩
    case round =>
      obtain ⟨K, hK1, hK4, rfl, hE, hga⟩ := hrel
      by_cases hlt : K < 4
      · have k1 : (K : Int) < 4 := by omega
        have k0 : (0 : Int) ≤ (K : Int) := by omega
        have hsz4 : (eqs x.n K c0 c1 c2 c3).size = 4 := rfl
        obtain ⟨y, y1⟩ : ∃ y, wr.cell? ⟨w1.heap.size, K, none⟩ = some y := by
          rw [cell_of_row wr w1.heap.size K _ 113 (0, 0) hE]
          exact ⟨_, Array.getElem?_eq_getElem (by rw [hsz4]; exact hlt)⟩
        have y2 : wr.frozen? ⟨w1.heap.size, K, none⟩ = false := frozen_of_row wr w1.heap.size K _ 113 hE
        have HN : Hid ((wr.setCell ⟨w1.heap.size, K, none⟩ (.int .u8 61)).heap[w1.heap.size]? = some (.cells (eqs x.n (K + 1) c0 c1 c2 c3) 113 (0, 0))) := Lib.hid (by
          rw [← eqs_set x.n K c0 c1 c2 c3 hn1 hK1 hlt]
          exact heap_setCell_same wr w1.heap.size K _ 113 _ hE)
        have HG : Hid (W.grownBy (wr.setCell ⟨w1.heap.size, K, none⟩ (.int .u8 61)) none) := Lib.hid ⟨hga.os, hga.tape, hga.output, by have := hga.size; simpa using this, fun k hk _ => (heap_setCell_other wr ⟨w1.heap.size, K, none⟩ k _ (by intro e; simp at e; omega)).trans (hga.block k hk (by simp))⟩
        clear hE hga hsz4
        gi_wp2
        go_roundw
        case rel => exact ⟨K + 1, by omega, by omega, by go_num, HN.out, HG.out⟩
        case measure => simp [intOf]; omega
      · obtain rfl : K = 4 := by omega
        have hRr := hR.kept hga (by simp)
        have cRr := hRr.cell
        have hSr := hS.grown_none hga
        have HCS := Lib.hid (eqs_end x.n c0 c1 c2 c3)
        rw [← HGR.out] at HCS
        have hgd : W.grownBy wr.drew none := ⟨hga.os, hga.tape, hga.output, hga.size, fun k hk h => hga.block k hk h⟩
        have HSI : Hid (w.heap.size ≤ wr.drew.heap.size) := Lib.hid (Nat.le_trans hB.size hga.size)
        gi_wp2
        refine wpIn_region_any (by kernel_rfl) ?_
        change wpAnyIn _ _ _ _ _ _ _ _ _ (World.drew _)
        refine wpAnyIn_ready (rs := [0, 1]) (by kernel_rfl) (by simp) (AllReadyIn.cons rfl (fun K hK => ?_) (AllReadyIn.cons rfl (fun K hK => ?_) AllReadyIn.nil)) <;> go_simp <;> refine hK _ _ ?_ <;> clear hK K
        · refine wpAnyIn_ready (rs := [1]) (by kernel_rfl) (by simp) (AllReadyIn.cons rfl (fun K hK => ?_) AllReadyIn.nil)
          go_simp
          refine hK _ _ ?_
          clear hK K
          refine wpAnyIn_ready (rs := [2]) (by kernel_rfl) (by simp) (AllReadyIn.cons rfl (fun K hK => ?_) AllReadyIn.nil)
          refine step_append_bin rfl _ _ rfl w.heap.size v (outL pre) rfl hSr.drew (grp ((x.a.toNat * 256 + x.b.toNat) * 256 + x.c.toNat) x.n) w1.heap.size 4 4 (eqs x.n 4 c0 c1 c2 c3) 113 (0, 0) rfl rfl hE HCS.out (by simp [grp]) HPL.out HSI.out ?_
          intro g cap w3 hS3 hg3 hg4
          refine hK _ _ ?_
          clear hK K
          have HE := Lib.hid (b64_end w W wr.drew w3 v _ (outL pre) (grp ((x.a.toNat * 256 + x.b.toNat) * 256 + x.c.toNat) x.n) g cap rfl h4 hR hS hne hB hgd hg3 hS3 hg4)
          have c9 := HE.out.1.cell
          have f9 := HE.out.1.frozen
          clear hS3 hg3 hg4
          refine wpAnyIn_ready (rs := [3]) (by kernel_rfl) (by simp) (AllReadyIn.cons rfl (fun K hK => ?_) AllReadyIn.nil)
          go_simp
          refine hK _ _ ?_
          clear hK K
          refine wpAnyIn_done (by kernel_rfl) ?_ _
          have hZ := HE.out.2
          refine ⟨hZ.1.from _, hZ.2.1, ?_, hZ.2.2.2⟩
          rw [outL_snoc]
          exact hZ.2.2.1
        · refine wpAnyIn_ready (rs := [0]) (by kernel_rfl) (by simp) (AllReadyIn.cons rfl (fun K hK => ?_) AllReadyIn.nil)
          go_simp
          refine hK _ _ ?_
          clear hK K
          refine wpAnyIn_ready (rs := [2]) (by kernel_rfl) (by simp) (AllReadyIn.cons rfl (fun K hK => ?_) AllReadyIn.nil)
          refine step_append_bin rfl _ _ rfl w.heap.size v (outL pre) rfl hSr.drew (grp ((x.a.toNat * 256 + x.b.toNat) * 256 + x.c.toNat) x.n) w1.heap.size 4 4 (eqs x.n 4 c0 c1 c2 c3) 113 (0, 0) rfl rfl hE HCS.out (by simp [grp]) HPL.out HSI.out ?_
          intro g cap w3 hS3 hg3 hg4
          refine hK _ _ ?_
          clear hK K
          have HE := Lib.hid (b64_end w W wr.drew w3 v _ (outL pre) (grp ((x.a.toNat * 256 + x.b.toNat) * 256 + x.c.toNat) x.n) g cap rfl h4 hR hS hne hB hgd hg3 hS3 hg4)
          have c9 := HE.out.1.cell
          have f9 := HE.out.1.frozen
          clear hS3 hg3 hg4
          refine wpAnyIn_ready (rs := [3]) (by kernel_rfl) (by simp) (AllReadyIn.cons rfl (fun K hK => ?_) AllReadyIn.nil)
          go_simp
          refine hK _ _ ?_
          clear hK K
          refine wpAnyIn_done (by kernel_rfl) ?_ _
          have hZ := HE.out.2
          refine ⟨hZ.1.from _, hZ.2.1, ?_, hZ.2.2.2⟩
          rw [outL_snoc]
          exact hZ.2.2.1
  case done =>
    rintro D ys W hD hys ⟨⟨h4, v, hR, hS, hne⟩, hB⟩ hK
    rw [outL_all _ _ hys] at hS
    have cR := hR.cell
    have hcv := hS.conv
    clear hys
    gi_wp2
    refine ⟨by simp, .inl ⟨_, _, rfl, run_takeDeferred hK, ?_⟩⟩
    exact ⟨_, by simp [results, Tryd.f61, go_sem], rfl, hB.trans (belowK_b (w := w) (Nat.le_refl _) W D _ _ (by have := HSZ.out; omega) hK rfl rfl)⟩
  case stop =>
    rintro D c pre W hD hpre h hK
    exact h.elim

theorem implPutBase64_any (s : ByteArray) (w : World) (hs : s.size ≤ 1048576) :
    Calls Tryd.prog 61 #[.string s] w fun e W' => e = .returned (.string ⟨(b64L s.data.toList).toArray⟩) ∧ Below w.heap.size w W' :=
  (callsIn_wide (n := 4)).1 (putBase64_in 4 (by omega) s w hs)
end Go.Proofs.YtcfkhfbhmjfhdaaDoor

/-
  strings.TrimRight lies in this program.
-/
namespace Go.Proofs
open Go.Shelf
def Tryd.laysTrim_ren : Go.Shelf.Ren := ⟨fun | 162 => 83 | 232 => 107 | 227 => 108 | 234 => 109 | 236 => 110 | 228 => 125 | 271 => 126 | 151 => 127 | 120 => 141 | 197 => 142 | 152 => 143 | 260 => 149 | 137 => 84 | 119 => 150 | 224 => 139 | 225 => 138 | 217 => 111 | 266 => 128 | n => n, fun | 9 => 9 | 4 => 4 | 3 => 3 | 5 => 5 | 117 => 138 | 116 => 137 | 0 => 0 | 124 => 141 | 21 => 21 | 105 => 151 | 46 => 85 | 119 => 179 | 139 => 182 | 138 => 181 | n => n, fun | 3 => 3 | 4 => 4 | n => n⟩
theorem Tryd.laysTrim : Go.Proofs.Lays.n162 Tryd.prog Tryd.laysTrim_ren := {
  mixed := by kernel_rfl
  f119 := Tryd.func150.trans (congrArg some (by kernel_rfl))
  f120 := Tryd.func141.trans (congrArg some (by kernel_rfl))
  f137 := Tryd.func84.trans (congrArg some (by kernel_rfl))
  f151 := Tryd.func127.trans (congrArg some (by kernel_rfl))
  f152 := Tryd.func143.trans (congrArg some (by kernel_rfl))
  f162 := Tryd.func83.trans (congrArg some (by kernel_rfl))
  f197 := Tryd.func142.trans (congrArg some (by kernel_rfl))
  f217 := Tryd.func111.trans (congrArg some (by kernel_rfl))
  f224 := Tryd.func139.trans (congrArg some (by kernel_rfl))
  f225 := Tryd.func138.trans (congrArg some (by kernel_rfl))
  f227 := Tryd.func108.trans (congrArg some (by kernel_rfl))
  f228 := Tryd.func125.trans (congrArg some (by kernel_rfl))
  f232 := Tryd.func107.trans (congrArg some (by kernel_rfl))
  f234 := Tryd.func109.trans (congrArg some (by kernel_rfl))
  f236 := Tryd.func110.trans (congrArg some (by kernel_rfl))
  f260 := Tryd.func149.trans (congrArg some (by kernel_rfl))
  f266 := Tryd.func128.trans (congrArg some (by kernel_rfl))
  f271 := Tryd.func126.trans (congrArg some (by kernel_rfl))
  t0 := Tryd.underlying0
  a0 := Tryd.isAgg0
  z0 := Tryd.sizeOf0
  v0 := Tryd.zeroValue0
  t3 := Tryd.underlying3
  a3 := Tryd.isAgg3
  z3 := Tryd.sizeOf3
  v3 := Tryd.zeroValue3
  t4 := Tryd.underlying4
  a4 := Tryd.isAgg4
  z4 := Tryd.sizeOf4
  v4 := Tryd.zeroValue4
  t5 := Tryd.underlying5
  a5 := Tryd.isAgg5
  z5 := Tryd.sizeOf5
  v5 := Tryd.zeroValue5
  t9 := Tryd.underlying9
  a9 := Tryd.isAgg9
  z9 := Tryd.sizeOf9
  v9 := Tryd.zeroValue9
  t21 := Tryd.underlying21
  a21 := Tryd.isAgg21
  z21 := Tryd.sizeOf21
  v21 := Tryd.zeroValue21
  t46 := Tryd.underlying85
  a46 := Tryd.isAgg85
  z46 := Tryd.sizeOf85
  v46 := Tryd.zeroValue85
  t105 := Tryd.underlying151
  a105 := Tryd.isAgg151
  z105 := Tryd.sizeOf151
  v105 := Tryd.zeroValue151
  t116 := Tryd.underlying137
  a116 := Tryd.isAgg137
  z116 := Tryd.sizeOf137
  t117 := Tryd.underlying138
  a117 := Tryd.isAgg138
  z117 := Tryd.sizeOf138
  v117 := Tryd.zeroValue138
  t119 := Tryd.underlying179
  a119 := Tryd.isAgg179
  z119 := Tryd.sizeOf179
  t124 := Tryd.underlying141
  a124 := Tryd.isAgg141
  z124 := Tryd.sizeOf141
  v124 := Tryd.zeroValue141
  t138 := Tryd.underlying181
  a138 := Tryd.isAgg181
  z138 := Tryd.sizeOf181
  v138 := Tryd.zeroValue181
  t139 := Tryd.underlying182
  a139 := Tryd.isAgg182
  z139 := Tryd.sizeOf182
  v139 := Tryd.zeroValue182
  g3 := by kernel_rfl
  g4 := by kernel_rfl }
end Go.Proofs

/-
  impl.GetBase64 decodes a text without its padding and compares.
-/
namespace Go.Proofs.YtcfkhfbhmjfhdaaDoor
open Go.RowKit

theorem trimRight_any (s : ByteArray) (w : World) (hs : s.size ≤ 1048576) :
    Calls Tryd.prog 83 #[.string s, .string ⟨#[61]⟩] w fun e w' => e = .returned (.string ⟨(Lib.trimRightB s.data.toList 61).toArray⟩) ∧ w' = w := Any.strings_TrimRight_one Tryd.laysTrim s 61 (by decide) w (by omega)

/-- How many bits are held after k signs. -/
def sz (k : Nat) : Nat := match k % 4 with
  | 0 => 0
  | 1 => 6
  | 2 => 4
  | _ => 2
/-- What impl.GetBase64 returns, d being the text without its padding. -/
def getI (l d : List UInt8) : List UInt8 × Bool := if signs d = d.length then (if b64L (dO d d.length) = l then (dO d d.length, true) else ([], false)) else ([], false)

set_option maxRecDepth 100000 in
set_option maxHeartbeats 8000000 in
theorem implGetBase64_any (s : ByteArray) (w : World) (hs : s.size ≤ 1048576) :
    Calls Tryd.prog 58 #[.string s] w fun e w' => e = .returned (.tuple #[.string ⟨(getI s.data.toList (Lib.trimRightB s.data.toList 61)).1.toArray⟩, .bool (getI s.data.toList (Lib.trimRightB s.data.toList 61)).2]) ∧ Below w.heap.size w w' := by
  obtain ⟨D, hD⟩ : ∃ D : ByteArray, D = ⟨(Lib.trimRightB s.data.toList 61).toArray⟩ := ⟨_, rfl⟩
  have hDl : D.data.toList = Lib.trimRightB s.data.toList 61 := by rw [hD]
  have hDs : D.size ≤ 1048576 := by
    have h1 : D.data.toList.length ≤ s.data.toList.length := by
      rw [hDl]
      unfold Lib.trimRightB
      rw [List.length_reverse]
      exact Nat.le_trans (List.dropWhile_sublist _).length_le (by simp)
    simp at h1
    omega
  have HT := Lib.hid (trimRight_any s w hs)
  rw [← hD] at HT
  rw [← hDl]
  clear hD hDl
  obtain ⟨C, hC⟩ : ∃ C : Nat, C = s.size / 4 * 3 := ⟨_, rfl⟩
  obtain ⟨i0, hi, hz0, hz1, hz2⟩ := info_parts u8info
  obtain ⟨M, hM⟩ : ∃ M, M = madeCells (Value.int .u8 0).cells (C * i0.size) := ⟨_, rfl⟩
  have hMs : M.size = C := by rw [hM, size_madeCells, hz1]; simp
  have hmk : ∀ W : World, (Instr.makeSlice 82 (.int .i64 0) (.int .i64 (C : Int))).run Tryd.prog W = .ok (.slice (some ⟨W.heap.size, 0, none⟩) 0 C) (W.alloc (.cells M 5)) := fun W => by
    have h := run_make (P := Tryd.prog) W 82 5 i0 (.int .u8 0) Tryd.underlying82 hi hz0 .i64 .i64 0 (C : Int) (by omega) (by omega) (by rw [hz2]; omega) (by omega)
    simp only [Int.toNat_natCast] at h
    rw [← hM] at h
    simpa using h
  have hcap : (s.size : Int) / 4 * 3 = (C : Int) := by omega
  have hC0 : C ≤ 1398104 := by omega
  clear hM hC
  have hS00 : Buf (w.alloc (.cells M 5)) w.heap.size (.slice (some ⟨w.heap.size, 0, none⟩) 0 C) [] :=
    ⟨rfl, .inr ⟨w.heap.size, C, M, rfl, Nat.le_refl _, heap_alloc_new w _, Nat.zero_le _, by unfold maxLen; omega, by rw [hMs]; omega, by simp⟩⟩
  clear hMs
  go_enter Tryd.func58, Tryd.ntmps58
  go_wp2_with fail
  refine HT.out.mono ?_
  rintro e w1 ⟨rfl, rfl⟩
  go_wp2_with fail
  go_loopw [5, 6, 7, 20] (fun v hd z i wr => ∃ k h zn : Nat, k ≤ D.size ∧ i = .int .i64 (k : Int) ∧ h = dN D.data.toList k % 2 ^ zn ∧ zn = sz k ∧ hd = .int .i64 (h : Int) ∧ z = .int .i64 (zn : Int) ∧ Buf wr w1.heap.size v (dO D.data.toList k) ∧ Below w1.heap.size w1 wr ∧ (∀ j, j < k → 0 ≤ ix (D.data.toList.getD j 0))) (fun _ _ _ i _ => D.size - (intOf i).toNat)
  case atStart => exact ⟨0, 0, 0, Nat.zero_le _, rfl, by simp [dN], rfl, rfl, rfl, hS00, (Below.refl _ _).alloc (Nat.le_refl _) _, fun j hj => by omega⟩
  case round =>
    obtain ⟨k, h, z, hk, rfl, hh, hz, rfl, rfl, hown, hb, hsg⟩ := hrel
    have HSG := Lib.hid hsg
    clear hsg hmk hcap hS00
    by_cases hlt : k < D.size
    · have k0 : (0 : Int) ≤ (k : Int) := by omega
      have k1 : (k : Int) < (D.size : Int) := by omega
      obtain ⟨v, hv⟩ : ∃ v, v = ix D[k] := ⟨_, rfl⟩
      have HI : Hid (Calls Tryd.prog 84 #[.string ⟨sgL.toArray⟩, .int .u8 (D[k].toNat : Int)] wr fun e w' => e = .returned (.int .i64 v) ∧ wr = w') := Lib.hid (by rw [hv]; exact indexByte_any ⟨sgL.toArray⟩ D[k] wr)
      have HZ0 := Lib.hid hz
      have HH0 := Lib.hid hh
      clear hz hh
      go_wp2_with fail
      refine HI.out.mono ?_
      rintro e w2 ⟨rfl, rfl⟩
      have hz := HZ0.out
      have hh := HH0.out
      have hv1 := ix_ge D[k]
      have hv2 := ix_lt D[k]
      rw [← hv] at hv1 hv2
      have HDL : Hid (D.data.toList.length = D.size) := Lib.hid (by simp)
      by_cases hneg : v < 0
      · have HSN : Hid (signs D.data.toList = k) := Lib.hid (signs_at HSG.out (by simp; omega) (fun c hc => by rw [show D.data.toList[k]? = some D[k] by simp [hlt]; rfl] at hc; cases hc; rw [← hv]; exact hneg))
        have HG : Hid (getI s.data.toList D.data.toList = ([], false)) := Lib.hid (by unfold getI; rw [HSN.out, if_neg (by rw [HDL.out]; omega)])
        clear hz hh hv
        go_wp2_with fail
        rw [HG.out]
        go_ret2
        exact ⟨rfl, hb⟩
      · obtain ⟨V, rfl⟩ := Int.eq_ofNat_of_zero_le (show (0 : Int) ≤ v by omega)
        have HV : Hid (ix (D.data.toList.getD k 0) = (V : Int)) := Lib.hid (by rw [byteAt D k hlt]; exact hv.symm)
        have HNX : Hid (dN D.data.toList (k + 1) = dN D.data.toList k * 64 % 16777216 + V) := Lib.hid (by rw [dN, HV.out]; simp)
        have HS2 : Hid (∀ j, j < k + 1 → 0 ≤ ix (D.data.toList.getD j 0)) := Lib.hid (fun j hj => by
          by_cases h : j < k
          · exact HSG.out j h
          · obtain rfl : j = k := by omega
            rw [HV.out]; omega)
        have HLN := Lib.hid (dO_len D.data.toList k)
        clear hv hv1 hneg HI HT
        have hdn : ¬ (V : Int) < 0 := by omega
        obtain ⟨r, hr⟩ : ∃ r, r = k % 4 := ⟨_, rfl⟩
        obtain rfl | rfl | rfl | rfl : r = 0 ∨ r = 1 ∨ r = 2 ∨ r = 3 := by omega
        · obtain rfl : z = 0 := by rw [hz]; simp [sz, ← hr]
          have HR := Lib.hid hr
          have HH : Hid (h = dN D.data.toList k % 1) := Lib.hid hh
          have hhl : h < 1 := by rw [hh]; exact Nat.mod_lt _ (by decide)
          have hz2 : 6 = sz (k + 1) := by simp [sz, show (k + 1) % 4 = 1 by omega]
          have HZ2 := Lib.hid hz2
          have j1 : bits .or .i64 ((h : Int) * 64) (V : Int) = (h : Int) * 64 + (V : Int) := bits_join .i64 32 (by decide) (fun n h0 h1 => IntWalk.i64_in n (by omega)) 6 _ _ (by omega) (by omega) (by omega) (by omega) (by omega) (by omega)
          clear hr hz hh hz2
          have HO : Hid (dO D.data.toList (k + 1) = dO D.data.toList k) := Lib.hid (by rw [dO, if_pos HR.out.symm]; simp)
          have HX : Hid (h * 64 + V = dN D.data.toList (k + 1) % 64) := Lib.hid (by rw [HNX.out]; omega)
          go_wp2_with fail
          go_roundw
          case rel => exact ⟨k + 1, h * 64 + V, 6, by omega, by go_num, HX.out, HZ2.out, by go_num, by go_num, by rw [HO.out]; exact hown, hb, HS2.out⟩
          case measure => simp [intOf]; omega
        · obtain rfl : z = 6 := by rw [hz]; simp [sz, ← hr]
          have HR := Lib.hid hr
          have HH : Hid (h = dN D.data.toList k % 64) := Lib.hid hh
          have hhl : h < 64 := by rw [hh]; exact Nat.mod_lt _ (by decide)
          have hz2 : 4 = sz (k + 1) := by simp [sz, show (k + 1) % 4 = 2 by omega]
          have HZ2 := Lib.hid hz2
          have j1 : bits .or .i64 ((h : Int) * 64) (V : Int) = (h : Int) * 64 + (V : Int) := bits_join .i64 32 (by decide) (fun n h0 h1 => IntWalk.i64_in n (by omega)) 6 _ _ (by omega) (by omega) (by omega) (by omega) (by omega) (by omega)
          clear hr hz hh hz2
          obtain ⟨B, hBE⟩ : ∃ B : UInt8, B = UInt8.ofNat ((dN D.data.toList (k + 1)) / 16 % 256) := ⟨_, rfl⟩
          have HO : Hid (dO D.data.toList (k + 1) = dO D.data.toList k ++ [B]) := Lib.hid (by rw [dO, if_neg (by have := HR.out; omega), show sh k = 4 by unfold sh; have := HR.out; omega, hBE])
          have hB1 : B.toNat = (h * 64 + V) / 16 % 256 := by
            have h1 := HH.out
            have h2 := HNX.out
            rw [hBE]; simp; omega
          have HCB : Hid ([Value.int .u8 (((h : Int) * 64 + (V : Int)) / 16)] = [B].map bv) := Lib.hid (by
            have : ((h : Int) * 64 + (V : Int)) / 16 = (B.toNat : Int) := by rw [hB1]; omega
            rw [this]; rfl)
          have HX : Hid ((h * 64 + V) % 16 = dN D.data.toList (k + 1) % 16) := Lib.hid (by have h1 := HH.out; rw [HNX.out]; omega)
          have m1 : bits .and .i64 ((h : Int) * 64 + (V : Int)) 15 = ((h : Int) * 64 + (V : Int)) % 16 := bits_mask .i64 32 (by decide) (fun n h0 h1 => IntWalk.i64_in n (by omega)) 4 (by decide) _ (by omega) (by omega)
          have HLL : Hid ((dO D.data.toList k).length + 1 ≤ 16777216) := Lib.hid (by have := HLN.out; omega)
          have HBS : Hid (w1.heap.size ≤ wr.heap.size) := Lib.hid hb.size
          clear hBE hB1
          go_wp2_with (at_builtin; refine wpList_append_buf rfl _ _ rfl w1.heap.size _ _ rfl (hown.alloc _) [B] wr.heap.size _ _ _ _ _ rfl rfl (heap_alloc_new wr _) HCB.out (by simp) HLL.out (by simp; exact Nat.le_succ_of_le HBS.out) ?_; intro v' w3 hown3 hb3)
          have HB : Below w1.heap.size w1 w3 := hb.trans (((Below.refl w1.heap.size wr).alloc HBS.out _).trans hb3)
          go_wp2_with fail
          go_roundw
          case rel => exact ⟨k + 1, (h * 64 + V) % 16, 4, by omega, by go_num, HX.out, HZ2.out, by go_num, by go_num, by rw [HO.out]; exact hown3, HB, HS2.out⟩
          case measure => simp [intOf]; omega
        · obtain rfl : z = 4 := by rw [hz]; simp [sz, ← hr]
          have HR := Lib.hid hr
          have HH : Hid (h = dN D.data.toList k % 16) := Lib.hid hh
          have hhl : h < 16 := by rw [hh]; exact Nat.mod_lt _ (by decide)
          have hz2 : 2 = sz (k + 1) := by simp [sz, show (k + 1) % 4 = 3 by omega]
          have HZ2 := Lib.hid hz2
          have j1 : bits .or .i64 ((h : Int) * 64) (V : Int) = (h : Int) * 64 + (V : Int) := bits_join .i64 32 (by decide) (fun n h0 h1 => IntWalk.i64_in n (by omega)) 6 _ _ (by omega) (by omega) (by omega) (by omega) (by omega) (by omega)
          clear hr hz hh hz2
          obtain ⟨B, hBE⟩ : ∃ B : UInt8, B = UInt8.ofNat ((dN D.data.toList (k + 1)) / 4 % 256) := ⟨_, rfl⟩
          have HO : Hid (dO D.data.toList (k + 1) = dO D.data.toList k ++ [B]) := Lib.hid (by rw [dO, if_neg (by have := HR.out; omega), show sh k = 2 by unfold sh; have := HR.out; omega, hBE])
          have hB1 : B.toNat = (h * 64 + V) / 4 % 256 := by
            have h1 := HH.out
            have h2 := HNX.out
            rw [hBE]; simp; omega
          have HCB : Hid ([Value.int .u8 (((h : Int) * 64 + (V : Int)) / 4)] = [B].map bv) := Lib.hid (by
            have : ((h : Int) * 64 + (V : Int)) / 4 = (B.toNat : Int) := by rw [hB1]; omega
            rw [this]; rfl)
          have HX : Hid ((h * 64 + V) % 4 = dN D.data.toList (k + 1) % 4) := Lib.hid (by have h1 := HH.out; rw [HNX.out]; omega)
          have m1 : bits .and .i64 ((h : Int) * 64 + (V : Int)) 3 = ((h : Int) * 64 + (V : Int)) % 4 := bits_mask .i64 32 (by decide) (fun n h0 h1 => IntWalk.i64_in n (by omega)) 2 (by decide) _ (by omega) (by omega)
          have HLL : Hid ((dO D.data.toList k).length + 1 ≤ 16777216) := Lib.hid (by have := HLN.out; omega)
          have HBS : Hid (w1.heap.size ≤ wr.heap.size) := Lib.hid hb.size
          clear hBE hB1
          go_wp2_with (at_builtin; refine wpList_append_buf rfl _ _ rfl w1.heap.size _ _ rfl (hown.alloc _) [B] wr.heap.size _ _ _ _ _ rfl rfl (heap_alloc_new wr _) HCB.out (by simp) HLL.out (by simp; exact Nat.le_succ_of_le HBS.out) ?_; intro v' w3 hown3 hb3)
          have HB : Below w1.heap.size w1 w3 := hb.trans (((Below.refl w1.heap.size wr).alloc HBS.out _).trans hb3)
          go_wp2_with fail
          go_roundw
          case rel => exact ⟨k + 1, (h * 64 + V) % 4, 2, by omega, by go_num, HX.out, HZ2.out, by go_num, by go_num, by rw [HO.out]; exact hown3, HB, HS2.out⟩
          case measure => simp [intOf]; omega
        · obtain rfl : z = 2 := by rw [hz]; simp [sz, ← hr]
          have HR := Lib.hid hr
          have HH : Hid (h = dN D.data.toList k % 4) := Lib.hid hh
          have hhl : h < 4 := by rw [hh]; exact Nat.mod_lt _ (by decide)
          have hz2 : 0 = sz (k + 1) := by simp [sz, show (k + 1) % 4 = 0 by omega]
          have HZ2 := Lib.hid hz2
          have j1 : bits .or .i64 ((h : Int) * 64) (V : Int) = (h : Int) * 64 + (V : Int) := bits_join .i64 32 (by decide) (fun n h0 h1 => IntWalk.i64_in n (by omega)) 6 _ _ (by omega) (by omega) (by omega) (by omega) (by omega) (by omega)
          clear hr hz hh hz2
          obtain ⟨B, hBE⟩ : ∃ B : UInt8, B = UInt8.ofNat ((dN D.data.toList (k + 1)) % 256) := ⟨_, rfl⟩
          have HO : Hid (dO D.data.toList (k + 1) = dO D.data.toList k ++ [B]) := Lib.hid (by rw [dO, if_neg (by have := HR.out; omega), show sh k = 0 by unfold sh; have := HR.out; omega, hBE]; simp)
          have hB1 : B.toNat = (h * 64 + V) % 256 := by
            have h1 := HH.out
            have h2 := HNX.out
            rw [hBE]; simp; omega
          have HCB : Hid ([Value.int .u8 (((h : Int) * 64 + (V : Int)))] = [B].map bv) := Lib.hid (by
            have : ((h : Int) * 64 + (V : Int)) = (B.toNat : Int) := by rw [hB1]; omega
            rw [this]; rfl)
          have HX : Hid ((h * 64 + V) % 1 = dN D.data.toList (k + 1) % 1) := Lib.hid (by have h1 := HH.out; rw [HNX.out]; omega)
          have m1 : bits .and .i64 ((h : Int) * 64 + (V : Int)) 0 = ((h : Int) * 64 + (V : Int)) % 1 := bits_mask .i64 32 (by decide) (fun n h0 h1 => IntWalk.i64_in n (by omega)) 0 (by decide) _ (by omega) (by omega)
          have HLL : Hid ((dO D.data.toList k).length + 1 ≤ 16777216) := Lib.hid (by have := HLN.out; omega)
          have HBS : Hid (w1.heap.size ≤ wr.heap.size) := Lib.hid hb.size
          clear hBE hB1
          go_wp2_with (at_builtin; refine wpList_append_buf rfl _ _ rfl w1.heap.size _ _ rfl (hown.alloc _) [B] wr.heap.size _ _ _ _ _ rfl rfl (heap_alloc_new wr _) HCB.out (by simp) HLL.out (by simp; exact Nat.le_succ_of_le HBS.out) ?_; intro v' w3 hown3 hb3)
          have HB : Below w1.heap.size w1 w3 := hb.trans (((Below.refl w1.heap.size wr).alloc HBS.out _).trans hb3)
          go_wp2_with fail
          go_roundw
          case rel => exact ⟨k + 1, (h * 64 + V) % 1, 0, by omega, by go_num, HX.out, HZ2.out, by go_num, by go_num, by rw [HO.out]; exact hown3, HB, HS2.out⟩
          case measure => simp [intOf]; omega
    · have k1 : ¬ (k : Int) < (D.size : Int) := by omega
      have hke : k = D.size := by omega
      have hcv := hown.conv
      have HDL : Hid (D.data.toList.length = k) := Lib.hid (by simp; omega)
      have HSN : Hid (signs D.data.toList = k) := Lib.hid (signs_at HSG.out (by simp; omega) (fun c hc => by rw [List.getElem?_eq_none (by simp; omega)] at hc; cases hc))
      have HPB := Lib.hid (implPutBase64_any ⟨(dO D.data.toList k).toArray⟩ wr (by show (dO D.data.toList k).toArray.size ≤ _; have := dO_len D.data.toList k; simp; omega))
      clear hk hke hz hh HT
      go_wp2_with fail
      refine HPB.out.mono ?_
      rintro e w5 ⟨rfl, hb5⟩
      have HB5 : Below w1.heap.size w1 w5 := hb.trans (hb5.mono hb.size)
      by_cases heq : b64L (dO D.data.toList k) = s.data.toList
      · have HG : Hid (getI s.data.toList D.data.toList = (dO D.data.toList k, true)) := Lib.hid (by unfold getI; rw [HSN.out, HDL.out, if_pos rfl, if_pos heq])
        have hq : (b64L (dO D.data.toList k) == s.toList) = true := by rw [ByteArray.toList_eq]; simpa using heq
        go_wp2_with fail
        rw [HG.out]
        go_ret2
        exact ⟨rfl, HB5⟩
      · have HG : Hid (getI s.data.toList D.data.toList = ([], false)) := Lib.hid (by unfold getI; rw [HSN.out, HDL.out, if_pos rfl, if_neg heq])
        have hq : (b64L (dO D.data.toList k) == s.toList) = false := by rw [ByteArray.toList_eq]; simpa using heq
        go_wp2_with fail
        rw [HG.out]
        go_ret2
        exact ⟨rfl, HB5⟩
end Go.Proofs.YtcfkhfbhmjfhdaaDoor

/-
  strings.Join, as the library lays it, at this seat.
-/
namespace Go.Proofs
open Go.Shelf
def Tryd.laysJoin_ren : Go.Shelf.Ren := ⟨fun | 156 => 62 | 165 => 88 | 166 => 89 | 169 => 90 | 240 => 113 | 241 => 114 | 276 => 129 | 277 => 130 | n => n, fun | 31 => 32 | 9 => 9 | 3 => 3 | 4 => 4 | 0 => 0 | 20 => 20 | 72 => 117 | 76 => 121 | 70 => 115 | 37 => 82 | 75 => 120 | 127 => 142 | 164 => 154 | 5 => 5 | 80 => 84 | n => n, fun | n => n⟩
theorem Tryd.laysJoin : Go.Proofs.Lays.n156 Tryd.prog Tryd.laysJoin_ren := {
  mixed := by kernel_rfl
  f156 := Tryd.func62.trans (congrArg some (by kernel_rfl))
  f165 := Tryd.func88.trans (congrArg some (by kernel_rfl))
  f166 := Tryd.func89.trans (congrArg some (by kernel_rfl))
  f169 := Tryd.func90.trans (congrArg some (by kernel_rfl))
  f240 := Tryd.func113.trans (congrArg some (by kernel_rfl))
  f241 := Tryd.func114.trans (congrArg some (by kernel_rfl))
  f276 := Tryd.func129.trans (congrArg some (by kernel_rfl))
  f277 := Tryd.func130.trans (congrArg some (by kernel_rfl))
  t0 := Tryd.underlying0
  a0 := Tryd.isAgg0
  z0 := Tryd.sizeOf0
  v0 := Tryd.zeroValue0
  t3 := Tryd.underlying3
  a3 := Tryd.isAgg3
  z3 := Tryd.sizeOf3
  v3 := Tryd.zeroValue3
  t4 := Tryd.underlying4
  a4 := Tryd.isAgg4
  z4 := Tryd.sizeOf4
  v4 := Tryd.zeroValue4
  t9 := Tryd.underlying9
  a9 := Tryd.isAgg9
  z9 := Tryd.sizeOf9
  v9 := Tryd.zeroValue9
  t20 := Tryd.underlying20
  a20 := Tryd.isAgg20
  z20 := Tryd.sizeOf20
  v20 := Tryd.zeroValue20
  t31 := Tryd.underlying32
  a31 := Tryd.isAgg32
  z31 := Tryd.sizeOf32
  v31 := Tryd.zeroValue32
  t37 := Tryd.underlying82
  a37 := Tryd.isAgg82
  z37 := Tryd.sizeOf82
  v37 := Tryd.zeroValue82
  t70 := Tryd.underlying115
  a70 := Tryd.isAgg115
  z70 := Tryd.sizeOf115
  v70 := Tryd.zeroValue115
  t72 := Tryd.underlying117
  a72 := Tryd.isAgg117
  z72 := Tryd.sizeOf117
  v72 := Tryd.zeroValue117
  t75 := Tryd.underlying120
  a75 := Tryd.isAgg120
  z75 := Tryd.sizeOf120
  v75 := Tryd.zeroValue120
  t76 := Tryd.underlying121
  a76 := Tryd.isAgg121
  z76 := Tryd.sizeOf121
  v76 := Tryd.zeroValue121
  t127 := Tryd.underlying142
  a127 := Tryd.isAgg142
  z127 := Tryd.sizeOf142
  v127 := Tryd.zeroValue142
  t164 := Tryd.underlying154
  a164 := Tryd.isAgg154
  z164 := Tryd.sizeOf154
  v164 := Tryd.zeroValue154 }
end Go.Proofs

/-
  strings.Join of a list of texts at a dot.
-/
namespace Go.Proofs
open Go.Shelf
theorem Tryd.extraJoin : Builder.Extra Tryd.prog Tryd.laysJoin_ren where
  sizeBuilder := by kernel_rfl
  liesBuilder := by kernel_rfl
  t5 := Tryd.underlying5
  a5 := Tryd.isAgg5
  z5 := Tryd.sizeOf5
  v5 := Tryd.zeroValue5
  infoByte := by kernel_rfl
  cellsByte := by kernel_rfl
  sizeByte := by kernel_rfl
  neB5 := by decide
namespace YtcfkhfbhmjfhdaaDoor
open Go.RowKit

theorem inter_flat (x : List UInt8) : ∀ xs : List (List UInt8), Lib.join (x :: xs) [46] = x ++ xs.flatMap (fun y => 46 :: y)
  | [] => by simp [Lib.join, List.intercalate]
  | y :: ys => by
    have := inter_flat y ys
    unfold Lib.join at this ⊢
    simp [List.intercalate] at this ⊢
    rw [this]
theorem join_pre {ls : List (List UInt8)} (h : ls ≠ []) : preText ls = 45 :: Lib.join ls [46] := by
  cases ls with
  | nil => exact absurd rfl h
  | cons x xs => rw [inter_flat]; rfl
theorem flat_len (ls : List (List UInt8)) (h : ∀ l ∈ ls, l.length ≤ 20) : (ls.flatMap (fun y => (46 : UInt8) :: y)).length ≤ 21 * ls.length := by
  induction ls with
  | nil => simp
  | cons x xs ih =>
    have := ih (fun l hl => h l (by simp [hl]))
    have := h x (by simp)
    simp only [List.flatMap_cons, List.length_append, List.length_cons]
    omega
theorem join_len {ls : List (List UInt8)} (h : ∀ l ∈ ls, l.length ≤ 20) (h5 : ls.length ≤ 5) : (Lib.join ls [46]).length ≤ 200 := by
  cases ls with
  | nil => simp [Lib.join_nil]
  | cons x xs =>
    rw [inter_flat]
    have := flat_len xs (fun l hl => h l (by simp [hl]))
    have := h x (by simp)
    simp at h5
    rw [List.length_append]
    omega

theorem joinDot_any (w : World) (base g cap : Nat) (ls : List (List UInt8)) (h : Strs w base (.slice (some ⟨g, 0, none⟩) ls.length cap) ls) (h20 : ∀ l ∈ ls, l.length ≤ 20) (h5 : ls.length ≤ 5) :
    Calls Tryd.prog 62 #[.slice (some ⟨g, 0, none⟩) ls.length cap, .string ⟨#[46]⟩] w fun e w' => e = .returned (.string ⟨(Lib.join ls [46]).toArray⟩) ∧ Below w.heap.size w w' := by
  obtain ⟨hlen, hr⟩ := h
  have hS : Strs w base (.slice (some ⟨g, 0, none⟩) ls.length cap) ls := ⟨hlen, hr⟩
  have hcap : ls.length ≤ cap := by
    rcases hr with ⟨hv, _⟩ | ⟨g', cap', cur, hv, _, _, hc, _⟩
    · cases hv
    · simp only [Value.slice.injEq] at hv; omega
  have hg : g < w.heap.size := by
    rcases hS.form with ⟨h', _⟩ | ⟨g', cap', h', _, hg'⟩
    · cases h'
    · simp only [Value.slice.injEq, Option.some.injEq, Addr.mk.injEq, and_true] at h'
      rw [h'.1]; exact hg'
  have hm : (ls.map (fun l => (⟨l.toArray⟩ : ByteArray))).map (fun x => x.data.toList) = ls := by rw [List.map_map]; exact List.map_id'' (fun l => rfl) ls
  have hJ := Any.strings_Join Tryd.laysJoin Tryd.extraJoin g 0 cap (ls.map (fun l => (⟨l.toArray⟩ : ByteArray))) ⟨#[46]⟩ w (fun j x hx => by
      rw [List.getElem?_map] at hx
      cases hj : ls[j]? with
      | none => rw [hj] at hx; simp at hx
      | some y =>
        rw [hj] at hx
        simp at hx
        subst hx
        obtain ⟨hl, rfl⟩ := List.getElem?_eq_some_iff.1 hj
        rw [Nat.zero_add]
        exact hS.cell j hl) hg (by simp; omega) (by simpa using hcap) (by rw [hm]; have := join_len h20 h5; show (Lib.join ls [46]).length ≤ _; omega)
  rw [hm] at hJ
  have e : (ls.map (fun l => (⟨l.toArray⟩ : ByteArray))).length = ls.length := by simp
  rw [e] at hJ
  exact hJ
end YtcfkhfbhmjfhdaaDoor
end Go.Proofs

/-
  strings.Join of a list of texts at any text.
-/
namespace Go.Proofs
open Go.Shelf
namespace YtcfkhfbhmjfhdaaDoor
open Go.RowKit

theorem join_flat (sep x : List UInt8) : ∀ xs : List (List UInt8), Lib.join (x :: xs) sep = x ++ xs.flatMap (fun y => sep ++ y)
  | [] => by simp [Lib.join, List.intercalate]
  | y :: ys => by
    have := join_flat sep y ys
    unfold Lib.join at this ⊢
    simp [List.intercalate] at this ⊢
    rw [this]

theorem joinSep_any (w : World) (base : Nat) (v : Value) (ls : List (List UInt8)) (sep : ByteArray) (h : Strs w base v ls) (hn : ls ≠ []) (hl : ls.length ≤ 16777216) (hj : (Lib.join ls sep.data.toList).length ≤ 140737488355328) :
    Calls Tryd.prog 62 #[v, .string sep] w fun e w' => e = .returned (.string ⟨(Lib.join ls sep.data.toList).toArray⟩) ∧ Below w.heap.size w w' := by
  obtain ⟨g, cap, rfl, _, hg⟩ : ∃ g cap, v = .slice (some ⟨g, 0, none⟩) ls.length cap ∧ base ≤ g ∧ g < w.heap.size := by
    rcases h.form with ⟨_, h'⟩ | h'
    · exact absurd h' hn
    · exact h'
  obtain ⟨hlen, hr⟩ := h
  have hS : Strs w base (.slice (some ⟨g, 0, none⟩) ls.length cap) ls := ⟨hlen, hr⟩
  have hcap : ls.length ≤ cap := by
    rcases hr with ⟨hv, _⟩ | ⟨g', cap', cur, hv, _, _, hc, _⟩
    · cases hv
    · simp only [Value.slice.injEq] at hv; omega
  have hm : (ls.map (fun l => (⟨l.toArray⟩ : ByteArray))).map (fun x => x.data.toList) = ls := by rw [List.map_map]; exact List.map_id'' (fun l => rfl) ls
  have hJ := Any.strings_Join Tryd.laysJoin Tryd.extraJoin g 0 cap (ls.map (fun l => (⟨l.toArray⟩ : ByteArray))) sep w (fun j x hx => by
      rw [List.getElem?_map] at hx
      cases hj : ls[j]? with
      | none => rw [hj] at hx; simp at hx
      | some y =>
        rw [hj] at hx
        simp at hx
        subst hx
        obtain ⟨hl, rfl⟩ := List.getElem?_eq_some_iff.1 hj
        rw [Nat.zero_add]
        exact hS.cell j hl) hg (by simp; omega) (by simpa using hcap) (by rw [hm]; exact hj)
  rw [hm] at hJ
  have e : (ls.map (fun l => (⟨l.toArray⟩ : ByteArray))).length = ls.length := by simp
  rw [e] at hJ
  exact hJ
end YtcfkhfbhmjfhdaaDoor
end Go.Proofs

/-
  strings.Join of any list of texts of the call's own.
-/
namespace Go.Proofs
open Go.Shelf
namespace YtcfkhfbhmjfhdaaDoor
open Go.RowKit

theorem joinAll_any (w : World) (base : Nat) (v : Value) (ls : List (List UInt8)) (sep : List UInt8) (h : Strs w base v ls) (hl : ls.length ≤ 16777216) (hj : (Lib.join ls sep).length ≤ 140737488355328) :
    Calls Tryd.prog 62 #[v, .string ⟨sep.toArray⟩] w fun e w' => e = .returned (.string ⟨(Lib.join ls sep).toArray⟩) ∧ Below w.heap.size w w' := by
  by_cases hn : ls = []
  · subst hn
    obtain ⟨A, c, rfl⟩ : ∃ A c, v = .slice A 0 c := by
      rcases h.form with ⟨rfl, _⟩ | ⟨g, cap, rfl, _, _⟩
      · exact ⟨_, _, rfl⟩
      · exact ⟨_, _, rfl⟩
    exact (Any.strings_Join_none Tryd.laysJoin Tryd.extraJoin A c ⟨sep.toArray⟩ w).mono fun e w' h => ⟨h.1, by rw [h.2]; exact Below.refl _ _⟩
  · exact joinSep_any w base v ls ⟨sep.toArray⟩ h hn hl hj
end YtcfkhfbhmjfhdaaDoor
end Go.Proofs

/-
  A text appended to a list of texts of the call's own, in a region that draws its order.
-/
namespace Go.Proofs.YtcfkhfbhmjfhdaaDoor
open Go.RowKit

/-- append(out, text) at a step of a region that draws its order. -/
theorem step_append_one {w : World} {ops : Array Oper} {o : Oper} {a : Act} {K : Act → World → Prop} {Q : Exit → Act → World → Prop} {E : Prop} (hgd : o.guard = none) (s x : Operand)
    (ho : o.op = .call { callee := .builtin .append, args := #[s, x], argTypes := #[32, 32] })
    (base : Nat) (v : Value) (l : List (List UInt8)) (hs : a.eval s = v) (hown : Strs w base v l) (y : List UInt8) (B c : Nat) (t : TypeId) (fr : Nat × Nat)
    (hx : a.eval x = .slice (some ⟨B, 0, none⟩) 1 c) (hblk : w.heap[B]? = some (.cells #[sv y] t fr)) (hlen : l.length + 1 ≤ 16777216) (hbase : base ≤ w.heap.size)
    (h : ∀ g cap w', Strs w' base (.slice (some ⟨g, 0, none⟩) (l.length + 1) cap) (l ++ [y]) → w.grownBy w' v.ownBlock → (v.ownBlock = some g ∨ g = w.heap.size) → K (a.put o.dst (.slice (some ⟨g, 0, none⟩) (l.length + 1) cap)) w') :
    if Region.wanted o (yielded ops a.tmps) = true then Oper.wp Tryd.prog o a w K Q else E := by
  have hw : Region.wanted o (yielded ops a.tmps) = true := by simp [Region.wanted, hgd]
  rw [if_pos hw]
  obtain ⟨g, cap, w', hr, h2, h3, h4⟩ := run_append_strs w o.type base v l hown y B c t fr hblk hlen hbase
  unfold Oper.wp execOp
  simp only [ho, resolve, invoke, builtin, Sem.run_bind, Sem.run_pure, Result.andThen_ok, List.map_toArray, List.map_cons, List.map_nil, hs, hx, hr]
  exact h g cap w' h2 h3 h4
end Go.Proofs.YtcfkhfbhmjfhdaaDoor

/-
  impl.PutIntegrity returns the integrity text of sums.
-/
namespace Go.Proofs.YtcfkhfbhmjfhdaaDoor
open Go.RowKit

theorem cells2 {V : World} {B : Nat} {T : TypeId} {v0 v1 : Value} (h : V.heap[B]? = some (.cells #[v0, v1] T)) : V.cell? ⟨B, 0, none⟩ = some v0 ∧ V.cell? ⟨B, 1, none⟩ = some v1 := by
  simp [World.cell?, h]
/-- What impl's three tests say of an Alg. -/
theorem alg_impl (a : List UInt8) : (a = sha1L ∧ algOk a = true) ∨ (a = sha256L ∧ algOk a = true) ∨ (a = sha512L ∧ algOk a = true) ∨ (¬ a = sha1L ∧ ¬ a = sha256L ∧ ¬ a = sha512L ∧ algOk a = false) := by
  by_cases h1 : a = sha1L
  · subst h1; left; exact ⟨rfl, by decide⟩
  · by_cases h2 : a = sha256L
    · subst h2; right; left; exact ⟨rfl, by decide⟩
    · by_cases h3 : a = sha512L
      · subst h3; right; right; left; exact ⟨rfl, by decide⟩
      · right; right; right; exact ⟨h1, h2, h3, by unfold algOk; simp [h1, h2, h3]⟩
theorem wordsB_len (bs : List Bd) : (wordsB bs).length ≤ bs.length := by
  unfold wordsB; rw [List.length_map]; exact List.length_filter_le _ _

set_option maxRecDepth 100000 in
set_option maxHeartbeats 4000000 in
theorem implPutIntegrity_any (v : Value) (bs : List Bd) (w : World) (hr : RdB w v bs) (hs : SmB bs) :
    Calls Tryd.prog 34 #[v] w fun e w' => e = .returned (.string ⟨(intT bs).toArray⟩) ∧ Below w.heap.size w w' := by
  have HR := Lib.hid hr
  have HS := Lib.hid hs
  have hn : bs.length ≤ 1048576 := by unfold SmB at hs; omega
  obtain ⟨A, ca, rfl, _⟩ := hr
  go_enter Tryd.func34, Tryd.ntmps34
  go_wp2_with fail
  go_loopw [3, 5, 9] (fun u _ i wr => ∃ (k : Nat) (ws : List (List UInt8)), k ≤ bs.length ∧ i = .int .i64 k ∧ Strs wr w.heap.size u ws ∧ ws.length ≤ k ∧ Hid (wordsB (bs.take k) = ws) ∧ Below w.heap.size w wr) (fun _ _ i _ => bs.length - (intOf i).toNat)
  case atStart => exact ⟨0, [], Nat.zero_le _, rfl, Strs.empty w _ (Nat.le_refl _), by simp, Lib.hid rfl, (Below.refl _ _).alloc (Nat.le_refl _) _⟩
  case round =>
    obtain ⟨k, ws, hk, rfl, hO, hwl, HO, hb⟩ := hrel
    by_cases hlt : k < bs.length
    · obtain ⟨g, off, rfl, hg, d1, d2⟩ := (HR.out.below hb).at k hlt
      have hl2 : bs[k].1.length + bs[k].2.length ≤ 1048576 := by have := smB_mem bs[k] (List.getElem_mem hlt); have := HS.out; unfold SmB at this; omega
      have hways := alg_impl bs[k].1
      have HT1 := Lib.hid (fun (ha : algOk bs[k].1 = true) => wordsB_more hlt ha)
      have HT3 := Lib.hid (fun (ha : algOk bs[k].1 = false) => wordsB_skip hlt ha)
      have hbl := b64L_le bs[k].2
      obtain ⟨b, HB⟩ : ∃ b, Hid (bs[k] = b) := ⟨_, Lib.hid rfl⟩
      rw [HB.out] at d1 d2 hl2 hways HT1 HT3 hbl
      obtain ⟨al, by_⟩ := b
      simp only at d1 d2 hl2 hways HT1 HT3 hbl
      have k0 : (0 : Int) ≤ (k : Int) := by omega
      have k1 : (k : Int) < (bs.length : Int) := by omega
      have B1 : Below w.heap.size w (wr.alloc (.cells #[.string ⟨al.toArray⟩, .string ⟨by_.toArray⟩] 57)) := hb.alloc hb.size _
      have hO1 := hO.alloc (.cells #[.string ⟨al.toArray⟩, .string ⟨by_.toArray⟩] 57)
      have hbx := heap_alloc_new wr (.cells #[.string ⟨al.toArray⟩, .string ⟨by_.toArray⟩] 57)
      by_cases ha : algOk al = true
      · have HC := Lib.hid (fun W => implPutBase64_any ⟨by_.toArray⟩ W (by show by_.toArray.size ≤ _; simp; omega))
        obtain ⟨E, HE⟩ : ∃ E, Hid (b64L by_ = E) := ⟨_, Lib.hid rfl⟩
        have HC2 : Hid (∀ W, Calls Tryd.prog 61 #[.string ⟨by_.toArray⟩] W fun e w' => e = .returned (.string ⟨E.toArray⟩) ∧ Below W.heap.size W w') := Lib.hid (by have := HC.out; simp only [HE.out] at this; exact this)
        rw [HE.out] at hbl
        obtain ⟨N1, HN1⟩ : ∃ N, Hid (N = al ++ [45]) := ⟨_, Lib.hid rfl⟩
        obtain ⟨N2, HN2⟩ : ∃ N, Hid (N = N1 ++ E) := ⟨_, Lib.hid rfl⟩
        have l1 : N1.length ≤ 1048577 := by rw [HN1.out]; simp; omega
        have HN : Hid (wordsB (bs.take (k + 1)) = ws ++ [N2]) := Lib.hid (by rw [HT1.out ha, HO.out, HN2.out, HN1.out]; show ws ++ [al ++ 45 :: b64L by_] = _; rw [HE.out]; simp)
        have hal : al = sha1L ∨ al = sha256L ∨ al = sha512L := by
          rcases hways with ⟨h, _⟩ | ⟨h, _⟩ | ⟨h, _⟩ | ⟨_, _, _, h⟩
          · exact .inl h
          · exact .inr (.inl h)
          · exact .inr (.inr h)
          · rw [ha] at h; cases h
        have HOW := Lib.hid hO.owned
        have hws : w.heap.size ≤ wr.heap.size := hb.size
        clear ha hways HT1 HT3 HC hO hb
        rcases hal with rfl | rfl | rfl
        all_goals
          have s1 : ∀ W, (Op.stringOp .add ⟨_⟩ ⟨#[45]⟩).run Tryd.prog W = .ok (.string ⟨N1.toArray⟩) W := fun W => by rw [HN1.out]; exact add_lists W _ [45] (by omega) (by simp)
          have s2 : ∀ W, (Op.stringOp .add ⟨N1.toArray⟩ ⟨E.toArray⟩).run Tryd.prog W = .ok (.string ⟨N2.toArray⟩) W := fun W => by rw [HN2.out]; exact add_lists W N1 E (by omega) (by omega)
          first | unfold sha1L at d1 B1 hO1 hbx s1 | unfold sha256L at d1 B1 hO1 hbx s1 | unfold sha512L at d1 B1 hO1 hbx s1
          obtain ⟨x0, x1⟩ := cells2 hbx
          go_wp2_with fail
          go_region_law ((first
            | (go_simp; go_at_call 61; (with_reducible refine (HC2.out _).mono ?_); rintro e w3 ⟨rfl, hb3⟩; have y0 := keepC (W := World.drew _) hb3 x0; have S3 := hO1.drew.below hb3; have z3 : w.heap.size ≤ w3.heap.size := Nat.le_trans B1.size hb3.size)
            | (refine step_append_one (by rfl) _ _ (by rfl) w.heap.size _ _ (by rfl) (S3.alloc _) N2 w3.heap.size 1 _ _ (by rfl) (heap_alloc_new w3 _) (by omega) (by simp; omega) ?_; intro g4 c4 w5 hS5 hg5 hl5)))
          all_goals
            have B3 := (B1.trans (below_drew _ _)).trans (hb3.mono B1.size)
            have B5 := (B3.alloc B3.size _).grown hg5 (by simp; omega) (fun j hj => HOW.out j hj)
            go_wp2_with fail
            go_roundw
            case rel => exact ⟨k + 1, _, by omega, by go_num, hS5, by simp; omega, HN, B5⟩
            case measure => simp [intOf]; omega
      · have ha' : algOk al = false := by simpa using ha
        have HN : Hid (wordsB (bs.take (k + 1)) = ws) := Lib.hid (by rw [HT3.out ha', HO.out])
        obtain ⟨h1, h2, h3⟩ : ¬ al = sha1L ∧ ¬ al = sha256L ∧ ¬ al = sha512L := by
          rcases hways with ⟨_, h⟩ | ⟨_, h⟩ | ⟨_, h⟩ | ⟨h1, h2, h3, _⟩
          · rw [ha'] at h; cases h
          · rw [ha'] at h; cases h
          · rw [ha'] at h; cases h
          · exact ⟨h1, h2, h3⟩
        have q1 : (al == [115, 104, 97, 49]) = false := by simpa [sha1L] using h1
        have q2 : (al == [115, 104, 97, 50, 53, 54]) = false := by simpa [sha256L] using h2
        have q4 : (al == [115, 104, 97, 53, 49, 50]) = false := by simpa [sha512L] using h3
        clear ha ha' hways HT1 HT3 h1 h2 h3
        go_wp2_with fail
        go_roundw
        case rel => exact ⟨k + 1, ws, by omega, by go_num, hO1, by omega, HN, B1⟩
        case measure => simp [intOf]; omega
    · have HE : Hid (intT bs = Lib.join ws [32]) := Lib.hid (by unfold intT; rw [← HO.out, List.take_of_length_le (by omega)])
      have hjl := intT_len bs
      rw [HE.out] at hjl
      have HJ := Lib.hid (joinAll_any wr w.heap.size _ ws [32] hO (by omega) (by have := HS.out; unfold SmB at this; omega))
      obtain ⟨J, HJJ⟩ : ∃ J, Hid (Lib.join ws [32] = J) := ⟨_, Lib.hid rfl⟩
      rw [HJJ.out] at HJ HE
      clear hjl
      go_wp2_with fail
      refine HJ.out.mono ?_
      rintro e w1 ⟨rfl, hb1⟩
      go_wp2_with fail
      go_ret
      exact ⟨ret_str HE.out.symm, hb.trans (hb1.mono hb.size)⟩
end Go.Proofs.YtcfkhfbhmjfhdaaDoor

/-
  impl.sumsOk: whether sums are right.
-/
namespace Go.Proofs.YtcfkhfbhmjfhdaaDoor
open Go.RowKit

set_option maxRecDepth 100000 in
theorem sumSize_any (a : List UInt8) (w : World) : Calls Tryd.prog 60 #[.string ⟨a.toArray⟩] w fun e w' => e = .returned (.int .i64 (sizeI a)) ∧ w = w' := by
  by_cases h1 : a = sha1L
  · subst h1
    go_enter Tryd.func60, Tryd.ntmps60
    go_wp2
    go_ret
    exact ⟨rfl, rfl⟩
  · by_cases h2 : a = sha256L
    · subst h2
      go_enter Tryd.func60, Tryd.ntmps60
      go_wp2
      go_ret
      exact ⟨rfl, rfl⟩
    · by_cases h0 : a = h1L
      · subst h0
        go_enter Tryd.func60, Tryd.ntmps60
        go_wp2
        go_ret
        exact ⟨rfl, rfl⟩
      · by_cases h3 : a = sha512L
        · subst h3
          go_enter Tryd.func60, Tryd.ntmps60
          go_wp2
          go_ret
          exact ⟨rfl, rfl⟩
        · have HX : Hid (sizeI a = 0) := Lib.hid (by unfold sizeI longI; rw [if_neg h1, if_neg h2, if_neg h0, if_neg h3]; rfl)
          have q1 : (a == [115, 104, 97, 49]) = false := by simpa [sha1L] using h1
          have q2 : (a == [115, 104, 97, 50, 53, 54]) = false := by simpa [sha256L] using h2
          have q3 : (a == [104, 49]) = false := by simpa [h1L] using h0
          have q4 : (a == [115, 104, 97, 53, 49, 50]) = false := by simpa [sha512L] using h3
          clear h1 h2 h0 h3
          go_enter Tryd.func60, Tryd.ntmps60
          go_wp2
          go_ret
          exact ⟨ret_int HX.out.symm, rfl⟩

set_option maxRecDepth 100000 in
set_option maxHeartbeats 4000000 in
theorem sumsOkG_any (v : Value) (bs : List Bd) (w : World) (ha : RdB w v bs) (hn : bs.length ≤ 1048577) (hsm : ∀ b ∈ bs, b.2.length ≤ 1048577) :
    Calls Tryd.prog 33 #[v] w fun e w' => e = .returned (.bool (sumsOkL bs)) ∧ Below w.heap.size w w' := by
  have HA := Lib.hid ha
  have HSM := Lib.hid hsm
  obtain ⟨A, ca, rfl, _⟩ := ha
  obtain ⟨r, HR⟩ : ∃ r, Hid (sumsOkL bs = r) := ⟨_, Lib.hid rfl⟩
  rw [HR.out]
  clear hsm
  go_enter Tryd.func33, Tryd.ntmps33
  go_wp2_with fail
  go_loopw [3, 4, 5, 8] (fun _ _ _ i wr => ∃ k : Nat, k ≤ bs.length ∧ i = .int .i64 k ∧ Hid (sumsTo bs k = true) ∧ Below w.heap.size w wr) (fun _ _ _ i _ => bs.length - (intOf i).toNat)
  case atStart => exact ⟨0, Nat.zero_le _, rfl, Lib.hid rfl, Below.refl _ _⟩
  case round =>
    obtain ⟨k, hk, rfl, HT, hbr⟩ := hrel
    by_cases hlt : k < bs.length
    · have k0 : (0 : Int) ≤ (k : Int) := by omega
      have k1 : (k : Int) < (bs.length : Int) := by omega
      have hbl : bs[k].2.length ≤ 1048577 := HSM.out bs[k] (List.getElem_mem hlt)
      obtain ⟨g, off, rfl, hgl, d1, d2⟩ := (HA.out.below hbr).at k hlt
      have HL := Lib.hid (fun W => sumSize_any bs[k].1 W)
      have hlb := longI_bd bs[k].1
      have HQ := Lib.hid (fun (h : sumAt bs k = false) => (show r = false by rw [← HR.out, sums_bad hlt h]))
      have HSB := Lib.hid (size_bad (a := bs[k].1))
      have HSG := Lib.hid (size_good (a := bs[k].1))
      obtain ⟨u, HU⟩ : ∃ u, Hid (longI bs[k].1 = u) := ⟨_, Lib.hid rfl⟩
      obtain ⟨sz, HSZ⟩ : ∃ u, Hid (sizeI bs[k].1 = u) := ⟨_, Lib.hid rfl⟩
      simp only [HSZ.out] at HL
      rw [HU.out] at hlb
      rw [HSZ.out, HU.out] at HSB HSG
      have HZ0 := Lib.hid (fun (h : k = 0) => (show sumAt bs k = decide (u = (bs[k].2.length : Int)) by subst h; rw [← HU.out]; exact sumAt_zero hlt))
      have HZ1 := Lib.hid (fun (j : Nat) (h : k = j + 1) => (show sumAt bs k = (decide (u = (bs[k].2.length : Int)) && Op.bytesLess (bs[j]'(by omega)).1 bs[k].1) by subst h; rw [← HU.out]; exact sumAt_more hlt))
      have HTT := Lib.hid (fun (h : sumAt bs k = true) => sums_step HT.out h)
      have HAR := Lib.hid (HA.out.below hbr)
      obtain ⟨al, HAL⟩ : ∃ al, Hid (bs[k].1 = al) := ⟨_, Lib.hid rfl⟩
      obtain ⟨by_, HBY⟩ : ∃ by_, Hid (bs[k].2 = by_) := ⟨_, Lib.hid rfl⟩
      rw [HAL.out] at d1
      rw [HBY.out] at d2 hbl
      simp only [HAL.out] at HL HZ1
      simp only [HBY.out] at HZ0 HZ1
      have B1 : Below w.heap.size w (wr.alloc (.cells #[.string ⟨al.toArray⟩, .string ⟨by_.toArray⟩] 57)) := hbr.alloc hbr.size _
      have HBAD : Hid (¬ u = (by_.length : Int) → r = false) := Lib.hid (fun hq => by
        apply HQ.out
        by_cases hz : k = 0
        · rw [HZ0.out hz]; exact decide_eq_false hq
        · rw [HZ1.out (k - 1) (by omega), decide_eq_false hq]; rfl)
      by_cases hs0 : sz = 0
      · have HX : Hid (r = false) := Lib.hid (HBAD.out (HSB.out hs0 _))
        have q0 : (sz == 0) = true := int_beq_true hs0
        clear hs0 HQ HZ0 HZ1 HTT HAR HBAD HSB HSG
        go_wp2_with fail
        refine (HL.out _).mono ?_
        rintro e w1 ⟨rfl, rfl⟩
        go_wp2_with fail
        go_quiet (fail)
        go_wp2_with fail
        go_ret
        exact ⟨ret_bool HX.out.symm, B1.trans (below_drewN _ _ _)⟩
      · have q0 : (sz == 0) = false := int_beq_false hs0
        have hsu := HSG.out hs0
        by_cases hq : u = (by_.length : Int)
        · have q1 : ((by_.length : Int) != sz) = false := int_bne_false (by omega)
          by_cases hz : k = 0
          · have HN2 := Lib.hid (HTT.out (by rw [HZ0.out hz]; exact decide_eq_true hq))
            have g0 : ¬ (0 : Int) < (k : Int) := by omega
            have g1 : decide (0 < k) = false := by simp; omega
            clear hs0 hsu hq hz HQ HZ0 HZ1 HTT HAR HBAD HSB HSG
            go_wp2_with fail
            refine (HL.out _).mono ?_
            rintro e w1 ⟨rfl, rfl⟩
            go_wp2_with fail
            go_quiet (fail)
            go_wp2_with fail
            go_roundw
            case rel => exact ⟨k + 1, by omega, by go_num, HN2, B1.trans (below_drewN _ _ _)⟩
            case measure => simp [intOf]; omega
          · obtain ⟨j, hj⟩ : ∃ j, k = j + 1 := ⟨k - 1, by omega⟩
            have HZ2 := Lib.hid (HZ1.out j hj)
            have hjl : j < bs.length := by omega
            obtain ⟨g', off', hge, _, e1, e2⟩ := HAR.out.at j hjl
            clear e2
            simp only [Option.some.injEq, Addr.mk.injEq, and_true] at hge
            obtain ⟨rfl, rfl⟩ := hge
            have jw : IntKind.i64.wrap ((k : Int) - 1) = (j : Int) := by rw [show (k : Int) - 1 = (j : Int) by omega]; exact IntWalk.i64_in _ (by omega)
            have g0 : (0 : Int) < (k : Int) := by omega
            have g1 : decide (0 < k) = true := by simp; omega
            have j0 : (0 : Int) ≤ (j : Int) := by omega
            have j1 : (j : Int) < (bs.length : Int) := by omega
            obtain ⟨pr, HPR⟩ : ∃ pr, Hid (bs[j].1 = pr) := ⟨_, Lib.hid rfl⟩
            rw [HPR.out] at e1 HZ2
            have e1' := keepC ((Below.refl _ wr).alloc (Nat.le_refl _) (.cells #[.string ⟨al.toArray⟩, .string ⟨by_.toArray⟩] 57)) e1
            cases hl : Op.bytesLess pr al with
            | true =>
              have HN2 := Lib.hid (HTT.out (by rw [HZ2.out, hl, decide_eq_true hq]; rfl))
              clear hs0 hsu hq hz HQ HZ0 HZ1 HTT hj HZ2 HAR HBAD HSB HSG
              go_wp2_with fail
              refine (HL.out _).mono ?_
              rintro e w1 ⟨rfl, rfl⟩
              go_wp2_with fail
              go_quiet (fail)
              go_wp2_with fail
              go_roundw
              case rel => exact ⟨k + 1, by omega, by go_num, HN2, B1.trans (below_drewN _ _ _)⟩
              case measure => simp [intOf]; omega
            | false =>
              have HX := Lib.hid (HQ.out (by rw [HZ2.out, hl, Bool.and_false]))
              clear hs0 hsu hq hz HQ HZ0 HZ1 HTT hj HZ2 HAR HBAD HSB HSG
              go_wp2_with fail
              refine (HL.out _).mono ?_
              rintro e w1 ⟨rfl, rfl⟩
              go_wp2_with fail
              go_quiet (fail)
              go_wp2_with fail
              go_ret
              exact ⟨ret_bool HX.out.symm, B1.trans (below_drewN _ _ _)⟩
        · have q1 : ((by_.length : Int) != sz) = true := int_bne_true (by omega)
          have HX : Hid (r = false) := Lib.hid (HBAD.out hq)
          clear hs0 hsu hq HQ HZ0 HZ1 HTT HAR HBAD HSB HSG
          go_wp2_with fail
          refine (HL.out _).mono ?_
          rintro e w1 ⟨rfl, rfl⟩
          go_wp2_with fail
          go_quiet (fail)
          go_wp2_with fail
          go_ret
          exact ⟨ret_bool HX.out.symm, B1.trans (below_drewN _ _ _)⟩
    · have HOK : Hid (r = true) := Lib.hid (by rw [← HR.out, sums_end HT.out (by omega)])
      go_wp2_with fail
      go_ret
      exact ⟨ret_bool HOK.out.symm, hbr⟩
theorem sumsOk_any (v : Value) (bs : List Bd) (w : World) (ha : RdB w v bs) (hsm : SmB bs) :
    Calls Tryd.prog 33 #[v] w fun e w' => e = .returned (.bool (sumsOkL bs)) ∧ Below w.heap.size w w' := by
  unfold SmB at hsm
  exact sumsOkG_any v bs w ha (by omega) (fun b hb => by have := smB_mem b hb; omega)
end Go.Proofs.YtcfkhfbhmjfhdaaDoor

/-
  strings.Clone, as the library lays it, at this seat.
-/
namespace Go.Proofs
open Go.Shelf
def Tryd.lays316_ren : Go.Shelf.Ren := ⟨fun | 316 => 85 | n => n, fun | 9 => 9 | 3 => 3 | 4 => 4 | 37 => 82 | 0 => 0 | 127 => 142 | 5 => 5 | n => n, fun | n => n⟩
theorem Tryd.lays316 : Go.Proofs.LaysM.n316 Tryd.prog Tryd.lays316_ren := {
  mixed := by kernel_rfl
  f316 := Tryd.func85.trans (congrArg some (by kernel_rfl))
  t0 := Tryd.underlying0
  a0 := Tryd.isAgg0
  z0 := Tryd.sizeOf0
  v0 := Tryd.zeroValue0
  t3 := Tryd.underlying3
  a3 := Tryd.isAgg3
  z3 := Tryd.sizeOf3
  v3 := Tryd.zeroValue3
  t4 := Tryd.underlying4
  a4 := Tryd.isAgg4
  z4 := Tryd.sizeOf4
  v4 := Tryd.zeroValue4
  t9 := Tryd.underlying9
  a9 := Tryd.isAgg9
  z9 := Tryd.sizeOf9
  v9 := Tryd.zeroValue9
  t37 := Tryd.underlying82
  a37 := Tryd.isAgg82
  z37 := Tryd.sizeOf82
  v37 := Tryd.zeroValue82
  t127 := Tryd.underlying142
  a127 := Tryd.isAgg142
  z127 := Tryd.sizeOf142
  v127 := Tryd.zeroValue142
  t5 := Tryd.underlying5
  a5 := Tryd.isAgg5
  z5 := Tryd.sizeOf5
  v5 := Tryd.zeroValue5
  i0 := by kernel_rfl
  i3 := by kernel_rfl
  i4 := by kernel_rfl
  i5 := by kernel_rfl
  i9 := by kernel_rfl
  i37 := by kernel_rfl
  i127 := by kernel_rfl }
end Go.Proofs

/-
  strings.Clone returns the same bytes.
-/
namespace Go.Proofs
open Go.Shelf
namespace YtcfkhfbhmjfhdaaDoor
open Go.RowKit
theorem slClone_any (s : ByteArray) (w : World) (hs : s.size ≤ 1048576) :
    Calls Tryd.prog 85 #[.string s] w fun e w' => e = .returned (.string s) ∧ Below w.heap.size w w' := Any.stringslite_Clone Tryd.lays316 s w (by omega)
theorem clone_any (s : ByteArray) (w : World) (hs : s.size ≤ 1048576) :
    Calls Tryd.prog 59 #[.string s] w fun e w' => e = .returned (.string s) ∧ Below w.heap.size w w' := by
  go_enter Tryd.func59, Tryd.ntmps59
  go_wp2_with (go_at_call 85; refine (slClone_any _ _ hs).mono ?_; rintro e w' ⟨rfl, hb⟩)
  go_ret
  exact ⟨rfl, hb⟩
end YtcfkhfbhmjfhdaaDoor
end Go.Proofs

/-
  impl.GetIntegrity hands back the list of right sums whose text a text is, or none.
-/
namespace Go.Proofs.YtcfkhfbhmjfhdaaDoor
open Go.RowKit

/-- How much a cursor has still to read. -/
def restOf (w : World) (q : Nat) : Nat := match w.cell? ⟨q, 0, none⟩ with
  | some (.string b) => b.size
  | _ => 0
theorem restOf_is {w : World} {q : Nat} {T : TypeId} {l : List UInt8} (h : w.heap[q]? = some (.cells #[.string ⟨l.toArray⟩] T)) : restOf w q = l.length := by
  unfold restOf; rw [cells1 h]; show l.toArray.size = _; simp

theorem implGetBase64_is (l : List UInt8) (w : World) (hl : l.length ≤ 1048576) :
    Calls Tryd.prog 58 #[.string ⟨l.toArray⟩] w fun e w' => e = .returned (.tuple #[.string ⟨(getB l).1.toArray⟩, .bool (getB l).2]) ∧ Below w.heap.size w w' := by
  have h := implGetBase64_any ⟨l.toArray⟩ w (by show l.toArray.size ≤ _; simp; omega)
  have hj : getI l (Lib.trimRightB l 61) = getB l := get_join _ _ rfl
  have hd : (⟨l.toArray⟩ : ByteArray).data.toList = l := by simp
  rw [hd, hj] at h
  exact h

/-- What a reader of sums knows with rest before it and out behind it. -/
def SumAt (R rest : List UInt8) (out : List Bd) : Prop := sumsI R = out ++ sumsI rest ∧ out.length + rest.length ≤ R.length
theorem sumAt_start (R : List UInt8) : SumAt R R [] := ⟨by simp, by simp⟩
theorem sumAt_end {R : List UInt8} {out : List Bd} (h : SumAt R [] out) : sumsI R = out := by rw [h.1, sumsI_nil]; simp
theorem sumAt_step {R rest : List UInt8} {out : List Bd} (h : SumAt R rest out) (hn : rest ≠ []) : SumAt R (cutB 32 rest) (out ++ [wordR (cutA 32 rest)]) := by
  have d := cutB_lt 32 hn
  refine ⟨?_, by have := h.2; simp; omega⟩
  rw [h.1]
  unfold sumsI
  rw [sumsR_step hn (Nat.le_refl _), sumsR_more (rest.length - 1) (cutB 32 rest).length _ (by omega) (Nat.le_refl _)]
  simp
theorem sumsI_small (R : List UInt8) : (sumsI R).length ≤ R.length ∧ ∀ b ∈ sumsI R, b.2.length ≤ R.length := by
  refine ⟨sumsR_len _ _, ?_⟩
  unfold sumsI
  rw [sumsR_map]
  intro b hb
  obtain ⟨p, hp, rfl⟩ := List.mem_map.1 hb
  have h1 := word_le p
  have h2 := smL_mem p hp
  have h3 := (curW_len R.length R).1
  omega

theorem gr_new {w W V : World} {r : Option Nat} {B : Nat} (h : w.grownBy W r) (hg : W.grownBy V (some B)) (hB : w.heap.size ≤ B) : w.grownBy V r :=
  ⟨hg.os.trans h.os, hg.tape.trans h.tape, hg.output.trans h.output, Nat.le_trans h.size hg.size, fun k hk hn => (hg.block k (Nat.lt_of_lt_of_le hk h.size) (by simp; omega)).trans (h.block k hk hn)⟩

set_option maxRecDepth 100000 in
set_option maxHeartbeats 1000000 in
theorem sum_any (q : Nat) (T : TypeId) (l : List UInt8) (w : World) (hl : l.length ≤ 1048576) (hq : w.heap[q]? = some (.cells #[.string ⟨l.toArray⟩] T)) :
    Calls Tryd.prog 32 #[.pointer (some ⟨q, 0, none⟩)] w fun e w' => e = .returned (.agg #[.string ⟨(wordR (cutA 32 l)).1.toArray⟩, .string ⟨(wordR (cutA 32 l)).2.toArray⟩]) ∧ w'.heap[q]? = some (.cells #[.string ⟨(cutB 32 l).toArray⟩] T) ∧ w.grownBy w' (some q) := by
  have hqs := lt_of_heap hq
  have hq0 := keepA hq (.cells #[.string ⟨#[]⟩, .string ⟨#[]⟩] 57)
  have HU := Lib.hid (upToOne_any q T l 32 _ hl hq0)
  have hal : (cutA 32 l).length ≤ l.length := by have := cut_len 32 l; omega
  have HWR : Hid (wordR (cutA 32 l) = (cutA 45 (cutA 32 l), (getB (cutB 45 (cutA 32 l))).1)) := Lib.hid rfl
  rw [HWR.out]
  obtain ⟨p, HP⟩ : ∃ p, Hid (cutA 32 l = p) := ⟨_, Lib.hid rfl⟩
  rw [HP.out] at HU hal
  rw [HP.out]
  obtain ⟨r, HR⟩ : ∃ r, Hid (cutB 32 l = r) := ⟨_, Lib.hid rfl⟩
  rw [HR.out] at HU
  rw [HR.out]
  have hbl : (cutB 45 p).length ≤ p.length := cutB_le 45 p
  have HU2 := Lib.hid (fun (B : Nat) (W : World) (h : W.heap[B]? = some (.cells #[.string ⟨p.toArray⟩] 61)) => upToOne_any B 61 p 45 W (by omega) h)
  have HG := Lib.hid (fun W => implGetBase64_is (cutB 45 p) W (by omega))
  have hca : (cutA 45 p).length ≤ p.length := by have := cut_len 45 p; omega
  have HC := Lib.hid (fun W => clone_any ⟨(cutA 45 p).toArray⟩ W (by show (cutA 45 p).toArray.size ≤ _; simp; omega))
  obtain ⟨a, HA⟩ : ∃ a, Hid (cutA 45 p = a) := ⟨_, Lib.hid rfl⟩
  obtain ⟨b, HB⟩ : ∃ b, Hid (cutB 45 p = b) := ⟨_, Lib.hid rfl⟩
  simp only [HA.out, HB.out] at HU2 HG HC
  rw [HA.out, HB.out]
  rcases hgb : getB b with ⟨by_, okb⟩
  rw [hgb] at HG
  have h0 := heap_alloc_new w (.cells #[.string ⟨#[]⟩, .string ⟨#[]⟩] 57)
  clear hgb hq hq0
  go_enter Tryd.func32, Tryd.ntmps32
  go_wp2_with fail
  refine HU.out.mono ?_
  rintro e w1 ⟨rfl, hu1⟩
  have h1 := gr_heap hu1.2.1 h0 (by simp; omega)
  have hq1 := hu1.1
  have hg1 : w.grownBy w1 (some q) := gr_trans (gr_alloc w _ _) hu1.2.1
  have hs1 : w.heap.size < w1.heap.size := by have := hu1.2.2; simp at this; omega
  have b1 := heap_alloc_new w1 (.cells #[.string ⟨p.toArray⟩] 61)
  have h1a := keepA h1 (.cells #[.string ⟨p.toArray⟩] 61)
  have hq1a := keepA hq1 (.cells #[.string ⟨p.toArray⟩] 61)
  have hg1a : w.grownBy (w1.alloc (.cells #[.string ⟨p.toArray⟩] 61)) (some q) := gr_trans hg1 (gr_alloc w1 _ _)
  clear hu1 h0
  go_wp2_with fail
  refine (HU2.out _ _ b1).mono ?_
  rintro e w2 ⟨rfl, hu2⟩
  have h2 := gr_heap hu2.2.1 h1a (by simp; omega)
  have hq2 := gr_heap hu2.2.1 hq1a (by simp; omega)
  have hg2 := gr_new hg1a hu2.2.1 (by omega)
  have c2 := cells1 hu2.1
  clear hu2 h1 hq1 hg1 b1 h1a hq1a hg1a
  go_wp2_with fail
  refine (HG.out _).mono ?_
  rintro e w3 ⟨rfl, hb3⟩
  have h3 := keepB h2 hb3
  have hq3 := keepB hq2 hb3
  have hg3 := gr_trans hg2 (gr_below hb3)
  clear h2 hq2 hg2 hb3 c2
  go_wp2_with fail
  refine (HC.out _).mono ?_
  rintro e w4 ⟨rfl, hb4⟩
  have h4 := keepB h3 hb4
  have hq4 := keepB hq3 hb4
  have hg4 := gr_trans hg3 (gr_below hb4)
  obtain ⟨c0, c1, f0⟩ := cellsD h4
  have hne : w.heap.size ≠ q := by omega
  clear h3 hq3 hg3 hb4
  go_wp2_with fail
  refine bodyPost_ret (v := .agg #[.string ⟨a.toArray⟩, .string ⟨by_.toArray⟩]) ?_ rfl ⟨rfl, ?_, ?_⟩
  · simp [results, Tryd.results32, go_sem, c0, c1]
  · exact heap_other (heap_other hq4 _ hne) _ hne
  · exact gr_new (gr_new hg4 (gr_set _ w.heap.size 0 _) (Nat.le_refl _)) (gr_set _ w.heap.size 1 _) (Nat.le_refl _)

set_option maxRecDepth 100000 in
set_option maxHeartbeats 2000000 in
theorem implGetIntegrity_any (l : List UInt8) (w : World) (hl : l.length ≤ 1048576) :
    Calls Tryd.prog 12 #[.string ⟨l.toArray⟩] w (GiIs w l) := by
  have HNO := Lib.hid (fun (n : Nat) (w' : World) (hn : w'.heap.size = n) (h : getIntOk l = false) (hb : Below w.heap.size w w') => giIs_no (l := l) n hn h hb)
  have HYES := Lib.hid (fun (w' : World) (v : Value) (out : List Bd) (h : getIntOk l = true) (ho : out = sumsI l) (hS : Sums w' w.heap.size v out) (hb : Below w.heap.size w w') => giIs_yes (l := l) h ho hS hb)
  have HSM := Lib.hid (sumsI_small l)
  have HSB := Lib.hid (sumsI_sm hl)
  have HGO : Hid (getIntOk l = (sumsOkL (sumsI l) && (intT (sumsI l) == l))) := Lib.hid rfl
  have hlen : l.length ≤ 1048576 := hl
  have S0 : Sums ((w.alloc (.cells #[] 57)).alloc (.cells #[.string ⟨l.toArray⟩] 63)) w.heap.size (.slice (some ⟨w.heap.size, 0, none⟩) 0 0) [] := (Sums.emptyAt w _ _ rfl (Nat.le_refl _)).alloc _
  have B0 : Below w.heap.size w ((w.alloc (.cells #[] 57)).alloc (.cells #[.string ⟨l.toArray⟩] 63)) := ((Below.refl _ _).alloc (Nat.le_refl _) _).alloc (by simp) _
  have q0 : ((w.alloc (.cells #[] 57)).alloc (.cells #[.string ⟨l.toArray⟩] 63)).heap[w.heap.size + 1]? = some (.cells #[.string ⟨l.toArray⟩] 63) := heap_new (by simp) _
  go_enter Tryd.func12, Tryd.ntmps12
  go_wp2_with fail
  go_loopw [4] (fun u wr => ∃ (rest : List UInt8) (out : List Bd), Sums wr w.heap.size u out ∧ (∀ g, u.ownBlock = some g → g ≠ w.heap.size + 1) ∧ wr.heap[w.heap.size + 1]? = some (.cells #[.string ⟨rest.toArray⟩] 63) ∧ Below w.heap.size w wr ∧ SumAt l rest out) (fun _ wr => restOf wr (w.heap.size + 1))
  case atStart => exact ⟨l, [], S0, fun g hg => by simp only [Value.ownBlock, Option.some.injEq] at hg; omega, q0, B0, sumAt_start l⟩
  case round =>
    obtain ⟨rest, out, hS, hne, hq, hb, HK⟩ := hrel
    clear S0 B0 q0
    have hrl : rest.length ≤ 1048576 := by have := HK.2; omega
    have hol : out.length + rest.length ≤ 1048576 := by have := HK.2; omega
    have HD := Lib.hid (done_any (w.heap.size + 1) 63 rest wr hq)
    by_cases hn : rest = []
    · subst hn
      have hoI := sumAt_end HK
      have HT : Hid (out = sumsI l) := Lib.hid hoI.symm
      rw [hoI] at HSM HSB HGO
      have HR := Lib.hid (fun (W : World) (v : Value) (h : RdB W v out) => sumsOkG_any v out W h (by have := HSM.out.1; omega) (fun b hb => by have := HSM.out.2 b hb; omega))
      have HP := Lib.hid (fun (W : World) (v : Value) (h : RdB W v out) (hk : sumsOkL out = true) => implPutIntegrity_any v out W h (HSB.out hk))
      obtain ⟨a, HA⟩ : ∃ a, Hid (sumsOkL out = a) := ⟨_, Lib.hid rfl⟩
      obtain ⟨t, HTT⟩ : ∃ t, Hid (intT out = t) := ⟨_, Lib.hid rfl⟩
      simp only [HA.out] at HR HP HGO
      simp only [HTT.out] at HP HGO
      obtain ⟨U, cu, rfl⟩ := hS.slice
      clear HK hoI HSM HSB
      cases a with
      | false =>
        have HF : Hid (getIntOk l = false) := Lib.hid (by rw [HGO.out]; rfl)
        go_wp2_with fail
        refine HD.out.mono ?_
        rintro e w1 ⟨rfl, rfl⟩
        go_wp2_with fail
        refine (HR.out _ _ (RdB.of_sums hS)).mono ?_
        rintro e w2 ⟨rfl, hb2⟩
        go_wp2_with fail
        go_ret2
        exact HNO.out _ _ rfl HF.out (hb.trans (hb2.mono hb.size))
      | true =>
        go_wp2_with fail
        refine HD.out.mono ?_
        rintro e w1 ⟨rfl, rfl⟩
        go_wp2_with fail
        refine (HR.out _ _ (RdB.of_sums hS)).mono ?_
        rintro e w2 ⟨rfl, hb2⟩
        have B2 := hb.trans (hb2.mono hb.size)
        have S2 := hS.below hb2
        go_wp2_with fail
        refine (HP.out _ _ (RdB.of_sums S2) trivial).mono ?_
        rintro e w3 ⟨rfl, hb3⟩
        have B3 := B2.trans (hb3.mono B2.size)
        have S3 := S2.below hb3
        by_cases ht : t = l
        · have HF : Hid (getIntOk l = true) := Lib.hid (by rw [HGO.out, ht]; simp)
          have q1 : (t == l) = true := by rw [ht]; simp
          clear ht
          go_wp2_with fail
          go_ret2
          exact HYES.out _ _ out HF.out HT.out S3 B3
        · have q1 : (t == l) = false := by simpa using ht
          have HF : Hid (getIntOk l = false) := Lib.hid (by rw [HGO.out, q1]; rfl)
          clear ht
          go_wp2_with fail
          go_ret2
          exact HNO.out _ _ rfl HF.out B3
    · have HE := Lib.hid (sumAt_step HK hn)
      have hne1 : rest.isEmpty = false := by cases rest <;> simp_all
      have hlt := cutB_lt 32 hn
      have HX := Lib.hid (restOf_is hq)
      have HS := Lib.hid (sum_any (w.heap.size + 1) 63 rest wr hrl hq)
      have hws : w.heap.size < wr.heap.size := by have := lt_of_heap hq; omega
      have hrne : 1 ≤ rest.length := by cases rest <;> simp_all
      have HOW := Lib.hid hS.owned
      rcases hw : wordR (cutA 32 rest) with ⟨x1, x2⟩
      rw [hw] at HE HS
      obtain ⟨rb, HRB⟩ : ∃ rb, Hid (cutB 32 rest = rb) := ⟨_, Lib.hid rfl⟩
      rw [HRB.out] at HE HS hlt
      clear hn hw HK HSM HSB HGO HNO HYES
      go_wp2_with fail
      refine HD.out.mono ?_
      rintro e w1 ⟨rfl, rfl⟩
      go_wp2_with fail
      refine HS.out.mono ?_
      rintro e w2 ⟨rfl, hq2, hg2⟩
      have S2 := hS.grown hg2 (fun g hg e => hne g hg (by cases e; rfl))
      have B2 := hb.grown hg2 hb.size (fun j hj => by cases hj; omega)
      have hs2 : w.heap.size ≤ w2.heap.size := B2.size
      have hl2 := lt_of_heap hq2
      clear hS hb hg2 hq
      go_wp2_with (at_builtin; refine wpList_append_sums rfl _ _ rfl w.heap.size _ _ rfl (S2.alloc _) (x1, x2) w2.heap.size 1 _ _ rfl (heap_alloc_new w2 _) (by omega) (by simp; omega) ?_; intro g4 c4 w4 S4 hg4 hl4)
      have B4 := (B2.alloc hs2 _).grown hg4 (by simp; omega) (fun j hj => HOW.out j hj)
      have hq4 := gr_heap hg4 (keepA hq2 (.cells #[.string ⟨x1.toArray⟩, .string ⟨x2.toArray⟩] 57)) (fun e => hne _ e.symm rfl)
      have HY := Lib.hid (restOf_is hq4)
      go_roundw
      case rel =>
        refine ⟨rb, out ++ [(x1, x2)], by simpa using S4, ?_, hq4, B4, HE.out⟩
        intro g hg
        simp only [Value.ownBlock, Option.some.injEq] at hg
        subst hg
        rcases hl4 with hl4 | hl4
        · exact hne _ hl4
        · rw [hl4]; simp; omega
      case measure => rw [HX.out, HY.out]; omega
end Go.Proofs.YtcfkhfbhmjfhdaaDoor

/-
  The laws' own helpers on lists of sums: heldSumS reads the marks over each field.
-/
namespace Go.Proofs.YtcfkhfbhmjfhdaaDoor
open Go.RowKit

theorem Sums.lt {w : World} {base g n cap : Nat} {l : List Bd} (h : Sums w base (.slice (some ⟨g, 0, none⟩) n cap) l) : g < w.heap.size := by
  rcases h.form with ⟨h', _⟩ | ⟨g', cap', h', _, hg'⟩
  · cases h'
  · simp only [Value.slice.injEq, Option.some.injEq, Addr.mk.injEq, and_true] at h'
    rw [h'.1]; exact hg'

set_option maxRecDepth 100000 in
set_option maxHeartbeats 2000000 in
theorem heldSumS_gr (w : World) (base g cap s : Nat) (bs : List Bd) (h : Sums w base (.slice (some ⟨g, 0, none⟩) bs.length cap) (mkB s bs.length bs)) (hl : bs.length ≤ 2000000) (s1 : 1 ≤ s) (s2 : s ≤ 2000001) :
    Calls Tryd.prog 15 #[.slice (some ⟨g, 0, none⟩) bs.length cap, .int .i64 (s : Int)] w fun e w' => e = .returned (.int .i64 ((s + 2 * bs.length : Nat) : Int)) ∧ Below w.heap.size w w' := by
  obtain ⟨E, HE⟩ : ∃ E, Hid (s + 2 * bs.length = E) := ⟨_, Lib.hid rfl⟩
  rw [HE.out]
  have HC : Hid (∀ (W : World) (k U : Nat), k < bs.length → U = s + 2 * k → Sums W base (.slice (some ⟨g, 0, none⟩) bs.length cap) (mkB s bs.length bs) → W.cell? ⟨g, k * 2, none⟩ = some (.string ⟨(mt U).toArray⟩) ∧ W.cell? ⟨g, k * 2 + 1, none⟩ = some (.string ⟨(mt (U + 1)).toArray⟩)) := Lib.hid (fun W k U hk hU hW => by
    have hX : k < (mkB s bs.length bs).length := by rw [mkB_len s bs.length bs (Nat.le_refl _)]; exact hk
    obtain ⟨e0, e1⟩ := hW.cell k hX
    rw [mkB_get s bs k hk hX] at e0 e1
    subst hU
    exact ⟨e0, e1⟩)
  obtain ⟨X, HX⟩ : ∃ X, Hid (mkB s bs.length bs = X) := ⟨_, Lib.hid rfl⟩
  rw [HX.out] at h
  simp only [HX.out] at HC
  go_enter Tryd.func15, Tryd.ntmps15
  go_wp2
  go_loopw [1, 5] (fun u i wr => ∃ k U : Nat, k ≤ bs.length ∧ Hid (U = s + 2 * k) ∧ i = .int .i64 k ∧ u = .int .i64 (U : Int) ∧ Sums wr base (.slice (some ⟨g, 0, none⟩) bs.length cap) X ∧ Below w.heap.size w wr) (fun _ i _ => bs.length - (intOf i).toNat)
  case atStart => exact ⟨0, s, Nat.zero_le _, Lib.hid (by omega), rfl, rfl, h, Below.refl _ _⟩
  case round =>
    obtain ⟨k, U, hk, HU, rfl, rfl, hS, hb⟩ := hrel
    have u1 : 1 ≤ U := by have := HU.out; omega
    have u2 : U ≤ 10000000 := by have := HU.out; omega
    by_cases hlt : k < bs.length
    · have k0 : (0 : Int) ≤ (k : Int) := by omega
      have k1 : (k : Int) < (bs.length : Int) := by omega
      have HM := Lib.hid (fun W => markText_any U W (by omega) (by omega))
      have HM2 := Lib.hid (fun W => markText_any (U + 1) W (by omega) (by omega))
      have HC2 := Lib.hid (fun W hW => HC.out W k U hlt HU.out hW)
      clear h
      obtain ⟨c1, _⟩ := HC2.out wr hS
      have g1 : g < wr.heap.size := hS.lt
      go_wp2_with fail
      go_region_held3 (fun W => W.cell? ⟨g, k * 2, none⟩ = some (.string ⟨(mt U).toArray⟩) ∧ g < W.heap.size) (first | exact ⟨c1, g1⟩ | (refine ⟨?_, ?_⟩ <;> assumption) | exact keep_cell hb1 (by assumption) (by assumption)) ((first | (go_at_call 25; refine (HM.out _).mono ?_; rintro e w1 ⟨rfl, hb1⟩)))
      have hS1 := (hS.below (below_drewN _ _ 1)).below hb1
      have B1 := (hb.trans (below_drewN _ _ 1)).trans (hb1.mono hb.size)
      obtain ⟨_, c2⟩ := HC2.out _ hS1
      have g2 : g < w1.heap.size := hS1.lt
      clear c1 g1 hS hb hb1
      go_wp2_with fail
      go_region_held3 (fun W => W.cell? ⟨g, k * 2 + 1, none⟩ = some (.string ⟨(mt (U + 1)).toArray⟩) ∧ g < W.heap.size) (first | exact ⟨c2, g2⟩ | (refine ⟨?_, ?_⟩ <;> assumption) | exact keep_cell hb2 (by assumption) (by assumption)) ((first | (go_at_call 25; refine (HM2.out _).mono ?_; rintro e w2 ⟨rfl, hb2⟩)))
      have hS2 := (hS1.below (below_drewN _ _ 1)).below hb2
      have B2 := (B1.trans (below_drewN _ _ 1)).trans (hb2.mono B1.size)
      go_wp2_with fail
      go_roundw
      case rel => exact ⟨k + 1, U + 2, by omega, Lib.hid (by have := HU.out; omega), by go_num, by go_num, hS2, B2⟩
      case measure => simp [intOf]; omega
    · obtain rfl : k = bs.length := by omega
      have HUE : Hid (U = E) := Lib.hid (by rw [HU.out, HE.out])
      clear h
      go_wp2_with fail
      go_ret
      exact ⟨by rw [← HUE.out]; rfl, hb⟩

set_option maxRecDepth 100000 in
set_option maxHeartbeats 1000000 in
theorem heldSm_any (w : World) (base s : Nat) (v : Value) (bs : List Bd) (h : Sums w base v (mkB s bs.length bs)) (hl : bs.length ≤ 2000000) (s1 : 1 ≤ s) (s2 : s ≤ 2000001) :
    Calls Tryd.prog 15 #[v, .int .i64 (s : Int)] w fun e w' => e = .returned (.int .i64 ((s + 2 * bs.length : Nat) : Int)) ∧ Below w.heap.size w w' := by
  rcases h.form with ⟨rfl, h0⟩ | ⟨g, cap, rfl, hg, _⟩
  · have : bs = [] := by
      have := mkB_len s bs.length bs (Nat.le_refl _)
      rw [h0] at this
      exact List.eq_nil_of_length_eq_zero this.symm
    subst this
    go_enter Tryd.func15, Tryd.ntmps15
    go_wp2
    refine wp_loop_rounds 1 ?_
    rw [rounds_succ]; go_wp2
    go_ret
    exact ⟨rfl, Below.refl _ _⟩
  · rw [mkB_len s bs.length bs (Nat.le_refl _)] at h ⊢
    exact heldSumS_gr w base g cap s bs h hl s1 s2
end Go.Proofs.YtcfkhfbhmjfhdaaDoor

/-
  The laws' own comparison of lists of sums.
-/
namespace Go.Proofs.YtcfkhfbhmjfhdaaDoor
open Go.RowKit

set_option maxRecDepth 100000 in
set_option maxHeartbeats 1000000 in
theorem eqSum_same (b c : ByteArray) (w : World) :
    Calls Tryd.prog 35 #[.agg #[.string b, .string c], .agg #[.string b, .string c]] w fun e w' => e = .returned (.bool true) ∧ Below w.heap.size w w' := by
  go_enter Tryd.func35, Tryd.ntmps35
  go_wp2_with fail
  go_ret
  exact ⟨rfl, ((Below.refl _ _).alloc (Nat.le_refl _) _).alloc (by simp) _⟩

set_option maxRecDepth 100000 in
set_option maxHeartbeats 1000000 in
theorem eqSumS_same (va vb : Value) (bs : List Bd) (w : World) (ha : RdB w va bs) (hb : RdB w vb bs) (hl : bs.length ≤ 16777216) :
    Calls Tryd.prog 13 #[va, vb] w fun e w' => e = .returned (.bool true) ∧ Below w.heap.size w w' := by
  have HA := Lib.hid ha
  have HB := Lib.hid hb
  obtain ⟨A, ca, rfl, ha⟩ := ha
  obtain ⟨B, cb, rfl, hb⟩ := hb
  have q0 : ((bs.length : Int) != (bs.length : Int)) = false := int_bne_false rfl
  clear ha hb
  go_enter Tryd.func13, Tryd.ntmps13
  go_wp2_with fail
  go_loopw [5] (fun i wr => ∃ k : Nat, k ≤ bs.length ∧ i = .int .i64 k ∧ Below w.heap.size w wr) (fun i _ => bs.length - (intOf i).toNat)
  case atStart => exact ⟨0, Nat.zero_le _, rfl, Below.refl _ _⟩
  case round =>
    obtain ⟨k, hk, rfl, hw⟩ := hrel
    by_cases hlt : k < bs.length
    · obtain ⟨A', ca', hv, ha⟩ := HA.out.below hw
      simp only [Value.slice.injEq] at hv
      obtain ⟨rfl, _, rfl⟩ := hv
      obtain ⟨B', cb', hv, hb⟩ := HB.out.below hw
      simp only [Value.slice.injEq] at hv
      obtain ⟨rfl, _, rfl⟩ := hv
      obtain ⟨g, off, rfl, _, hca⟩ := ha (by omega)
      obtain ⟨g2, off2, rfl, _, hcb⟩ := hb (by omega)
      have d1 : wr.cell? ⟨g, off + k * 2, none⟩ = some (.string ⟨bs[k].1.toArray⟩) := (hca k hlt).1
      have d2 : wr.cell? ⟨g, off + k * 2 + 1, none⟩ = some (.string ⟨bs[k].2.toArray⟩) := (hca k hlt).2
      have d3 : wr.cell? ⟨g2, off2 + k * 2, none⟩ = some (.string ⟨bs[k].1.toArray⟩) := (hcb k hlt).1
      have d4 : wr.cell? ⟨g2, off2 + k * 2 + 1, none⟩ = some (.string ⟨bs[k].2.toArray⟩) := (hcb k hlt).2
      have k0 : (0 : Int) ≤ (k : Int) := by omega
      have k1 : (k : Int) < (bs.length : Int) := by omega
      clear ha hb hca hcb
      go_wp2_with fail
      go_region_with (first | (go_at_call 35; refine (eqSum_same _ _ _).mono ?_; rintro e w1 ⟨rfl, hb1⟩))
      all_goals
        go_wp2_with fail
        go_roundw
        case rel => exact ⟨k + 1, by omega, by go_num, hw.trans ((below_drewN _ _ 1).trans (hb1.mono (by first | exact Nat.le_refl _ | exact hw.size)))⟩
        case measure => simp [intOf]; omega
    · go_wp2_with fail
      go_ret
      exact ⟨rfl, hw⟩
end Go.Proofs.YtcfkhfbhmjfhdaaDoor

/-
  The walk of the law FnExactGetIntegrity.
-/
namespace Go.Proofs.YtcfkhfbhmjfhdaaDoor
open Go.RowKit

theorem giL_len (l : List UInt8) : (giL l).length ≤ l.length := by
  unfold giL; split
  · exact sumsR_len l.length l
  · simp
theorem Sums.blk {w : World} {base : Nat} {v : Value} {l : List Bd} (h : Sums w base v l) : ∀ g, v.ownBlock = some g → g < w.heap.size := by
  intro g hg
  rcases h.form with ⟨rfl, _⟩ | ⟨g', cap, rfl, _, hlt⟩
  · simp [Value.ownBlock] at hg
  · simp only [Value.ownBlock, Option.some.injEq] at hg; omega

set_option maxRecDepth 100000 in
set_option maxHeartbeats 4000000 in
theorem exGetIntegrity (a0 : ByteArray) (w : World) (w0 : a0.size ≤ maxLen) :
    Calls Tryd.prog 4 #[.string a0] w fun e w' => e = .returned (.bool true) ∧ Below w.heap.size w w' := by
  obtain ⟨l, rfl⟩ : ∃ l : List UInt8, a0 = ⟨l.toArray⟩ := ⟨a0.data.toList, bytes_ext (by simp)⟩
  rw [size_of] at w0
  have hsz := size_of l
  by_cases hbig : 1048576 < l.length
  · rw [← hsz] at hbig
    go_enter Tryd.func4, Tryd.ntmps4
    go_wp2_with fail
    go_ret
    exact ⟨rfl, Below.refl _ _⟩
  · have hs : l.length ≤ 1048576 := by omega
    have HSp := Lib.hid (fun W => specGetIntegrity_any l W hs)
    have HIm := Lib.hid (fun W => implGetIntegrity_any l W hs)
    unfold GiIs at HSp HIm
    have h1 := giL_len l
    obtain ⟨bs, HB⟩ : ∃ bs, Hid (giL l = bs) := ⟨_, Lib.hid rfl⟩
    obtain ⟨ok, HOK⟩ : ∃ ok, Hid (getIntOk l = ok) := ⟨_, Lib.hid rfl⟩
    simp only [HB.out, HOK.out] at HSp HIm
    rw [HB.out] at h1
    have qo : (ok != ok) = false := by simp
    have hbig2 : ¬ 1048576 < (⟨l.toArray⟩ : ByteArray).size := by rw [hsz]; exact hbig
    clear hbig hsz
    go_enter Tryd.func4, Tryd.ntmps4
    go_wp2_with fail
    refine (HSp.out _).mono ?_
    rintro e w1 ⟨v0, rfl, S0, B1⟩
    have n0 := S0.blk
    obtain ⟨A0, c0, rfl⟩ := S0.slice
    go_wp2_with fail
    refine (HIm.out _).mono ?_
    rintro e w2 ⟨v1, rfl, Sg, hb2⟩
    have B2 := B1.trans (hb2.mono B1.size)
    have S02 := S0.below hb2
    have y0 := Sg.owned
    obtain ⟨A1, c1, rfl⟩ := Sg.slice
    clear S0 hb2
    go_wp2_with fail
    refine (eqSumS_same _ _ bs _ (RdB.of_sums Sg) (RdB.of_sums S02) (by omega)).mono ?_
    rintro e w3 ⟨rfl, hb3⟩
    have B3 := B2.trans (hb3.mono B2.size)
    have S03 := S02.below hb3
    have Sg3 := Sg.below hb3
    clear S02 Sg hb3 B2
    go_wp2_with fail
    refine (markSm_gr _ _ 1 _ bs Sg3 (by omega) (by omega) (by omega)).mono ?_
    rintro e w4 ⟨rfl, Sg4, hg4⟩
    have B4 := gr_belowN B3 hg4 B3.size (fun g hg => by have := y0 g hg; have := B1.size; omega)
    have S04 := S03.grown hg4 (fun g hg e => by have := n0 g hg; have := y0 g e.symm; omega)
    clear S03 Sg3 hg4 B3
    obtain ⟨M, HM⟩ : ∃ M, Hid (1 + 2 * bs.length = M) := ⟨_, Lib.hid rfl⟩
    rw [HM.out]
    go_wp2_with fail
    refine (heldSm_any _ _ 1 _ bs Sg4 (by omega) (by omega) (by omega)).mono ?_
    rintro e w5 ⟨rfl, hb5⟩
    rw [HM.out]
    have B5 := B4.trans (hb5.mono B4.size)
    have S05 := S04.below hb5
    have Sg5 := Sg4.below hb5
    clear S04 Sg4 hb5 B4
    have q2 : ¬ ((M : Int) < 0) := by omega
    have q3 : ((M : Int) != (M : Int)) = false := int_bne_false rfl
    go_wp2_with fail
    refine (HIm.out _).mono ?_
    rintro e w6 ⟨v6, rfl, S6, hb6⟩
    obtain ⟨A6, c6, rfl⟩ := S6.slice
    have B6 := B5.trans (hb6.mono B5.size)
    have S06 := S05.below hb6
    have Sg6 := Sg5.below hb6
    clear S05 Sg5 hb6 B5
    go_wp2_with fail
    refine (eqSumS_same _ _ bs _ (RdB.of_sums S6) (RdB.of_sums S06) (by omega)).mono ?_
    rintro e w7 ⟨rfl, hb7⟩
    have B7 := B6.trans (hb7.mono B6.size)
    have Sg7 := Sg6.below hb7
    clear S06 Sg6 S6 hb7 B6
    go_wp2_with fail
    refine (heldSm_any _ _ 1 _ bs Sg7 (by omega) (by omega) (by omega)).mono ?_
    rintro e w8 ⟨rfl, hb8⟩
    rw [HM.out]
    have B8 := B7.trans (hb8.mono B7.size)
    go_wp2_with fail
    go_ret
    exact ⟨rfl, B8⟩
end Go.Proofs.YtcfkhfbhmjfhdaaDoor

namespace Go.Proofs.YtcfkhfbhmjfhdaaDoor.fnExactGetIntegrity
open Go.ChangeShapes Go.WideShapes Go.ChangeAt Go.RowKit
open Go.ChangeMaps (open_string shut_string)
set_option linter.unusedVariables false

theorem own : ownKnob Tryd.prog.godebug = none := by kernel_rfl
theorem laidOut : laidOutB Tryd.prog = true := by kernel_rfl

/-- A table's cells, off its datum. -/
def cell1 : DataW Unit → Value
  | .lit (.int k n) => Value.int k n
  | .lit (.string l) => Value.string ⟨l.toArray⟩
  | _ => .bool false
def tabCells : DataW Unit → Array Value
  | .agg l => (l.flatMap fun
    | .agg m => m.map cell1
    | d => [cell1 d]).toArray
  | _ => #[]
def putCells (cs : Array Value) : Obj → Obj
  | .cells _ t fr => .cells cs t fr
  | o => o
/-- A start that fits: the settled world, the tables laid. -/
noncomputable def laidWorld (os : Os) : World :=
  { World.holding Tryd.prog os ⟨#[], #[], []⟩ with heap := (((World.holding Tryd.prog os ⟨#[], #[], []⟩).heap.modify 4 (putCells (tabCells Rows.laid_unicode_utf8_acceptRanges))).modify 3 (putCells (tabCells Rows.laid_unicode_utf8_first))) }
theorem laid_met (os : Os) (args : Array Value) : laidMetH Tryd.prog Rows.fnExactGetIntegrityRow.laid ((laidWorld os).forCall (fun _ _ => 0) ⟨#[], args, []⟩).memory := by
  rw [MakeChecks.laidMetH_plain _ _ _ (by kernel_rfl)]
  exact laidMet_of_run' 8 (by kernel_rfl) (by kernel_rfl)

set_option maxRecDepth 100000 in
theorem lifted (os : Os) (started : os.Started) (H : Type) (enc : TypeId × Value → H) :
    ReturnsInHanded {} Tryd.checked os 4 .any (fun w args => (Rows.fnExactGetIntegritySpec.pre enc Tryd.prog Tryd.f4 [] false w args ∧ laidMetH Tryd.prog Rows.fnExactGetIntegrityRow.laid w) ∧ sizedMet enc Tryd.prog Tryd.f4 (OpenSpec.ofChange Rows.fnExactGetIntegritySpec) false w args)
      (Rows.fnExactGetIntegritySpec.post enc Tryd.prog Tryd.f4 false true false false) := by
  refine returnsInHanded_of_change_and (C := Tryd.checked) (X := fun w _ => laidMetH Tryd.prog Rows.fnExactGetIntegrityRow.laid w) (fun _ _ _ hh h => h.of_heap hh) own started (by kernel_rfl) Tryd.func4
    (ChangeSpec.witness_at (enc := enc) (C := Tryd.checked) (os := os) (X := fun w _ => laidMetH Tryd.prog Rows.fnExactGetIntegrityRow.laid w) false (laidWorld os) #[.string ByteArray.empty] 8 rfl (by kernel_rfl) (by kernel_rfl) (by kernel_rfl) (by kernel_rfl) (by kernel_rfl) (laid_met os _)) ?_
  intro W base args ds gs before hval0 hW _ _ hL _
  have hval : ∀ (j : Nat) t v, Tryd.f4.params[j]? = some t → args[j]? = some v → Value.okWide Tryd.prog W .any base t v := hval0
  have hW' := hW
  obtain ⟨p, q, hA0, hV, rfl, hfz, hnd⟩ := hW
  have hA : DataW.TrodAll enc Tryd.prog W 0 (fun _ => true) true Tryd.f4.params.toList args.toList ds p := hA0
  rw [Tryd.params4] at hA hval
  obtain ⟨v0, vs0, d0, ds0, mp0, mq0, hargs, rfl, rfl, h0, r0⟩ := trodAll_cons hA
  obtain ⟨rfl, rfl, rfl⟩ := trodAll_nil r0
  obtain rfl : args = #[v0] := by cases args; simp_all
  obtain ⟨rfl, rfl⟩ := trodVars_none hV
  obtain ⟨a0, rfl, rfl, rfl, w0⟩ := open_string Tryd.underlying9 (hval 0 9 v0 rfl rfl) h0
  clear hA0 hval0
  refine (exGetIntegrity a0 W w0).mono fun e W' ⟨he, bel⟩ => ?_
  subst he
  exact ⟨_, rfl, _, _, _, [], _, [], hW', trodAll_mk1 (shut_bool Tryd.underlying4 _), (trodAll_cons_mk (shut_string Tryd.underlying9 w0) trodAll_mk0), rfl, bel.frame _, fun h => by cases h⟩

theorem over : Rows.fnExactGetIntegrityRow.holds Tryd.pinned (OpenSpec.ofChange Rows.fnExactGetIntegritySpec) :=
  OpenClaim.holds_of_wide 4 Tryd.f4 rfl rfl rfl rfl rfl rfl rfl ⟨rfl, rfl, rfl, rfl, rfl⟩ rfl rfl rfl rfl rfl (by kernel_rfl) Tryd.func4 (by kernel_rfl)
    (of_decide_eq_true (by kernel_rfl)) (by unfold Func.isWrapper; first | (rw [if_pos (by decide +kernel)]; kernel_rfl) | (rw [if_neg (by decide +kernel)]; exact ⟨rfl, rfl⟩))
    (fun os started H enc _ => lifted os started H enc)

end Go.Proofs.YtcfkhfbhmjfhdaaDoor.fnExactGetIntegrity

namespace Go.Proofs.YtcfkhfbhmjfhdaaDoor
theorem fnExactGetIntegrity_proved : Rows.FnExactGetIntegrityCardSaid :=
  Claim7.holds_tied_plain_at .later [] [.data, .pinned] true Rows.fnExactGetIntegrityCard.stood.harness false
    fnExactGetIntegrity.over (fun _ h => by cases h) (by kernel_rfl) (fun _ h => by cases h) fnExactGetIntegrity_row_tie rfl ⟨rfl, rfl⟩ (by kernel_rfl) rfl
    (fun f fn hf hfn => by
      obtain rfl : f = 4 := Option.some.inj ((show Tryd.prog.funcNamed Rows.fnExactGetIntegrityRow.func = some 4 by kernel_rfl).symm.trans hf) |>.symm
      obtain rfl : fn = Tryd.f4 := (Option.some.inj (Tryd.func4.symm.trans hfn)).symm
      exact ⟨by kernel_rfl, fun j t ht => by
        rw [Tryd.params4] at ht
        have h3 : t = 9 := by
          rcases j with _ | j
          · simpa using ht.symm
          · simp at ht
        subst h3
        exact (show Tryd.prog.wantsStandIn 9 = false by kernel_rfl)⟩)
    (by kernel_rfl)
#print axioms fnExactGetIntegrity_proved
end Go.Proofs.YtcfkhfbhmjfhdaaDoor
