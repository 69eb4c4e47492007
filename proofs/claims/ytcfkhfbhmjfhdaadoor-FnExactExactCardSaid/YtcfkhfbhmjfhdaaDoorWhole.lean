/-
  At every argument the law FnExactExact returns true and leaves its arguments as they were, the three listed tables lying as the program's text lays them (the tie is given). No other condition.
-/
import Derived.Test.YtcfkhfbhmjfhdaaDoorRdF
import Derived.Test.YtcfkhfbhmjfhdaaDoorExS
import Derived.Test.YtcfkhfbhmjfhdaaDoorRdB
import Derived.Test.YtcfkhfbhmjfhdaaDoorBytes
import Derived.Lib.AppendStr
import Derived.Test.YtcfkhfbhmjfhdaaDoorRdL
import Derived.Test.YtcfkhfbhmjfhdaaDoorDec
import Derived.Deep.QuietTactic
import Derived.BigQuiet
import Derived.Deep.RegionHeld3
import Derived.Test.YtcfkhfbhmjfhdaaDoorLawB
import Derived.LoopN
import Derived.Deep.RegionWith
import Derived.Test.YtcfkhfbhmjfhdaaDoorRows
import Derived.Test.YtcfkhfbhmjfhdaaDoorTie
import Derived.Test.YtcfkhfbhmjfhdaaDoorCards
import Derived.WalkKit
import Derived.ProofKit
import Derived.OpenShut
import Derived.ShutString
import Derived.ChangeOld
import Derived.Below
import Derived.ChangeVars
import Derived.LaidLaws
import Derived.MakeChecks
import Derived.Stop.LaidErr
import Derived.SevenTiedAt
import Derived.Carry
/-
  impl.Exact: the bound of one version alone.
-/
namespace Go.Proofs.YtcfkhfbhmjfhdaaDoor
open Go.RowKit

set_option maxRecDepth 100000 in
set_option maxHeartbeats 4000000 in
theorem implExact_any (l : List UInt8) (w : World) (hl : l.length ≤ 1048576) (ht : Tab w) : Calls Tryd.prog 7 #[.string ⟨l.toArray⟩] w (ExactIs w l) := by
  cases hok : readOk l with
  | false =>
    have HA := Lib.hid (readFrom_no l w hl hok)
    have HX := Lib.hid (exB_no (exOk_bad hok))
    clear hok ht
    go_enter Tryd.func7, Tryd.ntmps7
    go_wp2_with fail
    refine HA.out.mono ?_
    rintro e w1 ⟨rfl, hb1⟩
    go_wp2_with fail
    go_ret
    refine ⟨w1.heap.size + 1, by rw [HX.out]; rfl, by have := hb1.size; omega, ?_, (hb1.alloc hb1.size _).alloc (by have := hb1.size; simp; omega) _⟩
    rw [HX.out]
    exact heap_new (by simp) _
  | true =>
    have HA := Lib.hid (readFrom_yes l w hl hok ht)
    have ho := exOk_of hok
    obtain ⟨hi, HHI⟩ : ∃ hi, Hid (exHigh l = hi) := ⟨_, Lib.hid rfl⟩
    have HY := Lib.hid (fun h => (exB_yes (l := l) h))
    have HN := Lib.hid (fun h => (exB_no (l := l) h))
    rw [HHI.out] at HA ho HY
    clear hok ht
    cases he : hi.isEmpty with
    | true =>
      have HX := Lib.hid (HN.out (by rw [ho, he]; rfl))
      rw [he] at HA
      clear he ho HY HN
      go_enter Tryd.func7, Tryd.ntmps7
      go_wp2_with fail
      refine HA.out.mono ?_
      rintro e w1 ⟨rfl, hb1⟩
      go_wp2_with fail
      go_ret
      refine ⟨w1.heap.size + 1, by rw [HX.out]; rfl, by have := hb1.size; omega, ?_, (hb1.alloc hb1.size _).alloc (by have := hb1.size; simp; omega) _⟩
      rw [HX.out]
      exact heap_new (by simp) _
    | false =>
      have HX := Lib.hid (HY.out (by rw [ho, he]; rfl))
      rw [he] at HA
      clear he ho HY HN
      go_enter Tryd.func7, Tryd.ntmps7
      go_wp2_with fail
      refine HA.out.mono ?_
      rintro e w1 ⟨rfl, hb1⟩
      go_wp2_with fail
      go_ret
      refine ⟨w1.heap.size + 1, by rw [HX.out]; rfl, by have := hb1.size; omega, ?_, (hb1.alloc hb1.size _).alloc (by have := hb1.size; simp; omega) _⟩
      rw [HX.out]
      exact heap_new (by simp) _
end Go.Proofs.YtcfkhfbhmjfhdaaDoor

/-
  A row of bounds of the call's own.
-/
namespace Go.Proofs.YtcfkhfbhmjfhdaaDoor
open Go.RowKit

/-- v is the call's own row of these bounds. -/
def Bnds (w : World) (base : Nat) (v : Value) (bs : List Bd) : Prop := w.ownsRow base 45 2 v bs.length (flat2 bs)

theorem bndinfo : (Tryd.prog.info? 45).map (fun i => (i.zero, i.size, i.bytes)) = some (some (.agg #[.string ⟨#[]⟩, .string ⟨#[]⟩]), 2, 32) := by kernel_rfl

theorem Bnds.form {w : World} {base : Nat} {v : Value} {l : List Bd} (h : Bnds w base v l) : (v = .slice none 0 0 ∧ l = []) ∨ ∃ g cap, v = .slice (some ⟨g, 0, none⟩) l.length cap ∧ base ≤ g ∧ g < w.heap.size := by
  rcases h.2 with ⟨hv, hl⟩ | ⟨g, cap, cur, hv, hb, hh, _⟩
  · left
    refine ⟨hv, ?_⟩
    cases l with
    | nil => rfl
    | cons a t => simp at hl
  · right
    refine ⟨g, cap, hv, hb, ?_⟩
    rcases Nat.lt_or_ge g w.heap.size with hlt | hge
    · exact hlt
    · rw [Array.getElem?_eq_none hge] at hh; cases hh
theorem Bnds.alloc {w : World} {base : Nat} {v : Value} {l : List Bd} (h : Bnds w base v l) (o : Obj) : Bnds (w.alloc o) base v l := World.ownsRow.alloc h o
theorem Bnds.owned {w : World} {base : Nat} {v : Value} {l : List Bd} (h : Bnds w base v l) : ∀ g, v.ownBlock = some g → base ≤ g := by
  intro g hg
  rcases h.form with ⟨rfl, _⟩ | ⟨g', cap, rfl, hb, _⟩
  · simp [Value.ownBlock] at hg
  · simp [Value.ownBlock] at hg; omega
theorem Bnds.below {w w' : World} {base : Nat} {v : Value} {l : List Bd} (h : Bnds w base v l) (hb : Below w.heap.size w w') : Bnds w' base v l :=
  World.ownsRow.kept h (row := none) ⟨hb.os, hb.tape, hb.output, hb.size, fun i hi _ => hb.block i hi⟩ (by
    rcases h.form with ⟨rfl, _⟩ | ⟨g, cap, rfl, _, _⟩
    · left; rfl
    · right; simp [Value.ownBlock])
theorem Bnds.cell {w : World} {base : Nat} {l : List Bd} {g n cap : Nat} (h : Bnds w base (.slice (some ⟨g, 0, none⟩) n cap) l) (k : Nat) (hk : k < l.length) : w.cell? ⟨g, k * 2, none⟩ = some (sv l[k].1) ∧ w.cell? ⟨g, k * 2 + 1, none⟩ = some (sv l[k].2) := by
  have hadd : ∀ j, (⟨g, 0, none⟩ : Addr).add j = ⟨g, j, none⟩ := fun j => by unfold Addr.add; split <;> simp_all
  obtain ⟨e0, e1⟩ := flat2_get l k hk
  have h0 := World.ownsRow.cells (g := g) h rfl (k * 2) _ e0
  have h1 := World.ownsRow.cells (g := g) h rfl (k * 2 + 1) _ e1
  rw [hadd] at h0 h1
  exact ⟨h0, h1⟩
theorem RdB.of_bnds {w : World} {base : Nat} {v : Value} {bs : List Bd} (h : Bnds w base v bs) : RdB w v bs := by
  rcases h.form with ⟨rfl, rfl⟩ | ⟨g, cap, rfl, _, hg⟩
  · exact ⟨none, 0, rfl, fun h => absurd h (by simp)⟩
  · exact ⟨_, cap, rfl, fun _ => ⟨g, 0, rfl, hg, fun k hk => by rw [Nat.zero_add]; exact h.cell k hk⟩⟩
theorem Bnds.set {w : World} {base g cap : Nat} {l : List Bd} (h : Bnds w base (.slice (some ⟨g, 0, none⟩) l.length cap) l) (k : Nat) (x : Bd) :
    Bnds ((w.setCell ⟨g, k * 2, none⟩ (sv x.1)).setCell ⟨g, k * 2 + 1, none⟩ (sv x.2)) base (.slice (some ⟨g, 0, none⟩) (l.set k x).length cap) (l.set k x) := by
  unfold Bnds at h ⊢
  rw [List.length_set, ← flat2_set]
  exact (World.ownsRow.stored (World.ownsRow.stored h (k * 2) (sv x.1)).1 (k * 2 + 1) (sv x.2)).1
end Go.Proofs.YtcfkhfbhmjfhdaaDoor

/-
  A string appended to a byte buffer of the call's own.
-/
namespace Go.Proofs.YtcfkhfbhmjfhdaaDoor
open Go.RowKit

theorem wpList_append_buf_str {w : World} {ops : Array Oper} {rest : List Oper} {o : Oper} {a : Act} {Q : Exit → Act → World → Prop} (hgd : o.guard = none) (s x : Operand)
    (ho : o.op = .call { callee := .builtin .append, args := #[s, x], argTypes := #[82, 9] })
    (base : Nat) (v : Value) (l : List UInt8) (hs : a.eval s = v) (hown : Buf w base v l) (ns : List UInt8) (hx : a.eval x = .string ⟨ns.toArray⟩) (hlen : l.length + ns.length ≤ 16777216) (hbase : base ≤ w.heap.size)
    (h : ∀ v' w', Buf w' base v' (l ++ ns) → Below base w w' → wpList Tryd.prog ops Q rest (a.put o.dst v') w') : wpList Tryd.prog ops Q (o :: rest) a w := by
  obtain ⟨i0, hi, hz0, hz1, hz2⟩ := info_parts u8info
  have hsz : (⟨ns.toArray⟩ : ByteArray).size = ns.length := by show ns.toArray.size = _; simp
  refine Lib.wpList_append_own_string _ hgd s x 82 9 ho base 5 i0 Tryd.underlying82 Tryd.underlying9 hi hz0 hz1 hz2 v l.length (l.map bv) hs hown ⟨ns.toArray⟩ hx (by rw [hsz]; unfold maxLen; omega) (by rw [hsz]; omega) hbase ?_
  intro v' w' h2 h3 _
  refine h v' w' ?_ ((Below.refl base w).grown h3 hbase hown.owned)
  unfold Buf
  rw [hsz] at h2
  rw [List.length_append, List.map_append]
  exact h2

/-- A buffer is kept by whatever leaves all old blocks as they were. -/
theorem Buf.below {w w' : World} {base : Nat} {v : Value} {l : List UInt8} (h : Buf w base v l) (hb : Below w.heap.size w w') : Buf w' base v l :=
  World.ownsRow.kept h (row := none) ⟨hb.os, hb.tape, hb.output, hb.size, fun i hi _ => hb.block i hi⟩ (by
    rcases h.form with ⟨rfl, _⟩ | ⟨g, cap, rfl, _, _⟩
    · left; rfl
    · right; simp [Value.ownBlock])
end Go.Proofs.YtcfkhfbhmjfhdaaDoor

/-
  The laws' own helper markText: a mark's text.
-/
namespace Go.Proofs.YtcfkhfbhmjfhdaaDoor
open Go.RowKit

/-- The k-th mark. -/
def mt (k : Nat) : List UInt8 := 109 :: Lib.decDigits k
theorem dig_val (v : Nat) : bv (digC (v % 10)) = .int .u8 (48 + (v : Int) % 10) := by
  have h : ∀ d : Nat, d < 10 → bv (digC d) = .int .u8 (48 + (d : Int)) := by
    intro d hd
    unfold bv digC
    congr 1
    simp
    omega
  rw [h _ (by omega)]
  congr 1

set_option maxRecDepth 100000 in
set_option maxHeartbeats 1000000 in
theorem markText_any (u : Nat) (w : World) (h1 : 1 ≤ u) (h2 : u ≤ 100000000) :
    Calls Tryd.prog 25 #[.int .i64 (u : Int)] w fun e w' => e = .returned (.string ⟨(mt u).toArray⟩) ∧ Below w.heap.size w w' := by
  go_enter Tryd.func25, Tryd.ntmps25
  go_wp2
  go_loopw [0, 3] (fun m o wr => ∃ (v : Nat) (l : List UInt8), o = .string ⟨l.toArray⟩ ∧ m = .int .i64 (v : Int) ∧ v ≤ u ∧ DecAt u v l ∧ Below w.heap.size w wr) (fun m _ _ => (intOf m).toNat)
  case atStart => exact ⟨u, [], rfl, rfl, Nat.le_refl _, decAt_start u (by omega), Below.refl _ _⟩
  case round =>
    obtain ⟨v, l, rfl, rfl, hvu, H, hb⟩ := hrel
    have hl := decAt_len H (by omega)
    by_cases hv : v = 0
    · subst hv
      obtain rfl := decAt_end H
      clear H
      go_wp2
      go_ret
      exact ⟨congrArg Ending.returned (str_cons _ _), hb⟩
    · have HN := Lib.hid (decAt_step H (by omega))
      have hpos : (0 : Int) < (v : Int) := by omega
      have hcv := (Buf.lit wr w.heap.size [digC (v % 10)] hb.size (by simp)).conv
      have hdv := dig_val v
      simp only [List.map_cons, List.map_nil, hdv, List.length_cons, List.length_nil, Nat.zero_add] at hcv
      clear hdv H hv
      go_wp2
      go_roundw
      case rel => exact ⟨v / 10, _, str_cons _ _, by go_num, by omega, HN.out, hb.alloc hb.size _⟩
      case measure => simp [intOf]; omega
end Go.Proofs.YtcfkhfbhmjfhdaaDoor

/-
  Worlds that grow by one row: what is kept.
-/
namespace Go.Proofs.YtcfkhfbhmjfhdaaDoor
open Go.RowKit

theorem gr_trans {w w1 w2 : World} {row : Option Nat} (h1 : w.grownBy w1 row) (h2 : w1.grownBy w2 row) : w.grownBy w2 row :=
  ⟨h2.os.trans h1.os, h2.tape.trans h1.tape, h2.output.trans h1.output, Nat.le_trans h1.size h2.size, fun k hk hn => (h2.block k (Nat.lt_of_lt_of_le hk h1.size) hn).trans (h1.block k hk hn)⟩
theorem gr_below {w w2 : World} {row : Option Nat} (hb : Below w.heap.size w w2) : w.grownBy w2 row := ⟨hb.os, hb.tape, hb.output, hb.size, fun k hk _ => hb.block k hk⟩
theorem gr_alloc (w : World) (o : Obj) (row : Option Nat) : w.grownBy (w.alloc o) row := gr_below ((Below.refl _ _).alloc (Nat.le_refl _) _)
theorem gr_set (w : World) (g k : Nat) (x : Value) : w.grownBy (w.setCell ⟨g, k, none⟩ x) (some g) := ⟨rfl, rfl, rfl, by simp, fun j _ hj => heap_setCell_other w ⟨g, k, none⟩ j x (fun e => hj (by simp [e]))⟩
theorem Strs.grown {w w' : World} {base : Nat} {v : Value} {l : List (List UInt8)} {row : Option Nat} (h : Strs w base v l) (hg : w.grownBy w' row) (hne : ∀ g, v.ownBlock = some g → some g ≠ row) : Strs w' base v l := by
  rcases h.form with ⟨rfl, rfl⟩ | ⟨g, cap, rfl, _, _⟩
  · exact ⟨by simp, .inl ⟨rfl, rfl⟩⟩
  · exact World.ownsRow.kept h hg (.inr (fun e => hne g rfl (by rw [← e]; rfl)))
theorem gr_heap {W V : World} {row : Option Nat} {B : Nat} {o : Obj} (hg : W.grownBy V row) (h : W.heap[B]? = some o) (hne : some B ≠ row) : V.heap[B]? = some o := (hg.block B (Array.getElem?_eq_some_iff.1 h).1 hne).trans h
theorem gr_belowN {W V : World} {row : Option Nat} {n : Nat} {w : World} (hb : Below n w W) (hg : W.grownBy V row) (hn : n ≤ W.heap.size) (hr : ∀ g, row = some g → n ≤ g) : Below n w V := hb.grown hg hn hr

end Go.Proofs.YtcfkhfbhmjfhdaaDoor

/-
  Lists of pairs of marks.
-/
namespace Go.Proofs.YtcfkhfbhmjfhdaaDoor

theorem flat2_setLo : ∀ (l : List Bd) (k : Nat) (y : List UInt8) (h : k < l.length), (flat2 l).set (k * 2) (sv y) = flat2 (l.set k (y, l[k].2))
  | [], k, y, h => by simp at h
  | a :: t, 0, y, _ => by simp [flat2]
  | a :: t, k + 1, y, h => by
    have := flat2_setLo t k y (by simpa using h)
    rw [show (k + 1) * 2 = k * 2 + 2 by omega]
    simp [flat2, this]
theorem flat2_setHi : ∀ (l : List Bd) (k : Nat) (y : List UInt8) (h : k < l.length), (flat2 l).set (k * 2 + 1) (sv y) = flat2 (l.set k (l[k].1, y))
  | [], k, y, h => by simp at h
  | a :: t, 0, y, _ => by simp [flat2]
  | a :: t, k + 1, y, h => by
    have := flat2_setHi t k y (by simpa using h)
    rw [show (k + 1) * 2 + 1 = k * 2 + 1 + 2 by omega]
    simp [flat2, this]
/-- The first k bounds marked from s on. -/
def mkB (s k : Nat) (bs : List Bd) : List Bd := (List.range k).map (fun i => (mt (s + 2 * i), mt (s + 2 * i + 1))) ++ bs.drop k
theorem mkB_len (s k : Nat) (bs : List Bd) (h : k ≤ bs.length) : (mkB s k bs).length = bs.length := by simp [mkB]; omega
theorem mkB_zero (s : Nat) (bs : List Bd) : mkB s 0 bs = bs := by simp [mkB]
theorem mkB_set (s k : Nat) (bs : List Bd) (h : k < bs.length) (x : Bd) : ((mkB s k bs).set k x).set k (mt (s + 2 * k), mt (s + 2 * k + 1)) = mkB s (k + 1) bs := by
  apply List.ext_getElem
  · simp [mkB]; omega
  · intro i h1 h2
    simp only [List.set_set]
    rw [List.getElem_set]
    by_cases hi : k = i
    · subst hi
      simp [mkB]
    · rw [if_neg hi]
      simp only [mkB, List.getElem_append, List.length_map, List.length_range]
      by_cases hlt : i < k
      · rw [dif_pos hlt, dif_pos (by omega)]
        simp
      · rw [dif_neg hlt, dif_neg (by omega)]
        simp only [List.getElem_drop]
        congr 1
        omega

theorem mkB_get (s : Nat) (bs : List Bd) (k : Nat) (_h : k < bs.length) (hX : k < (mkB s bs.length bs).length) : (mkB s bs.length bs)[k] = (mt (s + 2 * k), mt (s + 2 * k + 1)) := by
  simp [mkB]
end Go.Proofs.YtcfkhfbhmjfhdaaDoor

/-
  The laws' own helpers on lists of bounds: markBoundS writes marks over each field.
-/
namespace Go.Proofs.YtcfkhfbhmjfhdaaDoor
open Go.RowKit

theorem Bnds.setLo {w : World} {base g cap : Nat} {l : List Bd} (h : Bnds w base (.slice (some ⟨g, 0, none⟩) l.length cap) l) (k : Nat) (hk : k < l.length) (y : List UInt8) :
    Bnds (w.setCell ⟨g, k * 2, none⟩ (sv y)) base (.slice (some ⟨g, 0, none⟩) l.length cap) (l.set k (y, l[k].2)) := by
  unfold Bnds at h ⊢
  rw [List.length_set, ← flat2_setLo]
  exact (World.ownsRow.stored h (k * 2) (sv y)).1
theorem Bnds.setHi {w : World} {base g cap : Nat} {l : List Bd} (h : Bnds w base (.slice (some ⟨g, 0, none⟩) l.length cap) l) (k : Nat) (hk : k < l.length) (y : List UInt8) :
    Bnds (w.setCell ⟨g, k * 2 + 1, none⟩ (sv y)) base (.slice (some ⟨g, 0, none⟩) l.length cap) (l.set k (l[k].1, y)) := by
  unfold Bnds at h ⊢
  rw [List.length_set, ← flat2_setHi]
  exact (World.ownsRow.stored h (k * 2 + 1) (sv y)).1
theorem Bnds.grown {w w' : World} {base : Nat} {v : Value} {l : List Bd} {row : Option Nat} (h : Bnds w base v l) (hg : w.grownBy w' row) (hne : ∀ g, v.ownBlock = some g → some g ≠ row) : Bnds w' base v l := by
  rcases h.form with ⟨rfl, rfl⟩ | ⟨g, cap, rfl, _, _⟩
  · exact ⟨by simp [flat2], .inl ⟨rfl, rfl⟩⟩
  · exact World.ownsRow.kept h hg (.inr (fun e => hne g rfl (by rw [← e]; rfl)))

set_option maxRecDepth 100000 in
set_option maxHeartbeats 2000000 in
theorem markBoundS_gr (w : World) (base g cap s : Nat) (bs : List Bd) (h : Bnds w base (.slice (some ⟨g, 0, none⟩) bs.length cap) bs) (hl : bs.length ≤ 2000000) (s1 : 1 ≤ s) (s2 : s ≤ 2000001) :
    Calls Tryd.prog 9 #[.slice (some ⟨g, 0, none⟩) bs.length cap, .int .i64 (s : Int)] w fun e w' => e = .returned (.int .i64 ((s + 2 * bs.length : Nat) : Int)) ∧ Bnds w' base (.slice (some ⟨g, 0, none⟩) bs.length cap) (mkB s bs.length bs) ∧ w.grownBy w' (some g) := by
  obtain ⟨E, HE⟩ : ∃ E, Hid (s + 2 * bs.length = E) := ⟨_, Lib.hid rfl⟩
  rw [HE.out]
  go_enter Tryd.func9, Tryd.ntmps9
  go_wp2
  go_loopw [1, 5] (fun u i wr => ∃ k U : Nat, k ≤ bs.length ∧ Hid (U = s + 2 * k) ∧ i = .int .i64 k ∧ u = .int .i64 (U : Int) ∧ Bnds wr base (.slice (some ⟨g, 0, none⟩) bs.length cap) (mkB s k bs) ∧ w.grownBy wr (some g)) (fun _ i _ => bs.length - (intOf i).toNat)
  case atStart => exact ⟨0, s, Nat.zero_le _, Lib.hid (by omega), rfl, rfl, by rw [mkB_zero]; exact h, World.grownBy.refl w _⟩
  case round =>
    obtain ⟨k, U, hk, HU, rfl, rfl, hS, hb⟩ := hrel
    have u1 : 1 ≤ U := by have := HU.out; omega
    have u2 : U ≤ 10000000 := by have := HU.out; omega
    by_cases hlt : k < bs.length
    · have k0 : (0 : Int) ≤ (k : Int) := by omega
      have k1 : (k : Int) < (bs.length : Int) := by omega
      have HML := Lib.hid (mkB_len s k bs hk)
      have HMS := Lib.hid (mkB_set s k bs hlt)
      obtain ⟨X, HX⟩ : ∃ X, Hid (mkB s k bs = X) := ⟨_, Lib.hid rfl⟩
      rw [HX.out] at hS
      have hXl : Hid (X.length = bs.length) := Lib.hid (by rw [← HX.out]; exact HML.out)
      have hkX : k < X.length := by rw [hXl.out]; exact hlt
      clear h
      go_wp2_with fail
      refine (markText_any U wr (by omega) (by omega)).mono ?_
      rintro e w2 ⟨rfl, hb2⟩
      have hS2 := hS.below hb2
      rw [← hXl.out] at hS2
      obtain ⟨c2, _⟩ := hS2.cell k hkX
      have f2 : w2.frozen? ⟨g, k * 2, none⟩ = false := World.ownsRow.frozenAt hS2 (k * 2)
      have B2 := gr_trans hb (gr_below hb2)
      have hS3 := hS2.setLo k hkX (mt U)
      have B3 := gr_trans B2 (gr_set w2 g (k * 2) (sv (mt U)))
      go_wp2_with fail
      refine (markText_any (U + 1) _ (by omega) (by omega)).mono ?_
      rintro e w4 ⟨rfl, hb4⟩
      have hS4 := hS3.below hb4
      have B4 := gr_trans B3 (gr_below hb4)
      have hS4' : Bnds w4 base (.slice (some ⟨g, 0, none⟩) (X.set k (mt U, X[k].2)).length cap) (X.set k (mt U, X[k].2)) := by rw [List.length_set]; exact hS4
      have hk4 : k < (X.set k (mt U, X[k].2)).length := by rw [List.length_set]; exact hkX
      obtain ⟨_, c4⟩ := hS4.cell k hk4
      have f4 : w4.frozen? ⟨g, k * 2 + 1, none⟩ = false := World.ownsRow.frozenAt hS4' (k * 2 + 1)
      have hS5 := hS4'.setHi k hk4 (mt (U + 1))
      have B5 := gr_trans B4 (gr_set w4 g (k * 2 + 1) (sv (mt (U + 1))))
      have HF : Hid ((X.set k (mt U, X[k].2)).set k ((X.set k (mt U, X[k].2))[k].1, mt (U + 1)) = mkB s (k + 1) bs) := Lib.hid (by
        have := HMS.out (mt U, X[k].2)
        rw [HX.out, ← HU.out] at this
        simpa using this)
      rw [HF.out, List.length_set, hXl.out] at hS5
      clear hS hS2 hS3 hS4 hS4' B2 B3 B4 hb2 hb4
      go_wp2_with fail
      go_roundw
      case rel => exact ⟨k + 1, U + 2, by omega, Lib.hid (by have := HU.out; omega), by go_num, by go_num, hS5, B5⟩
      case measure => simp [intOf]; omega
    · obtain rfl : k = bs.length := by omega
      have HUE : Hid (U = E) := Lib.hid (by rw [HU.out, HE.out])
      clear h
      go_wp2_with fail
      go_ret
      exact ⟨by rw [← HUE.out]; rfl, hS, hb⟩

set_option maxRecDepth 100000 in
set_option maxHeartbeats 1000000 in
theorem markB_gr (w : World) (base s : Nat) (v : Value) (bs : List Bd) (h : Bnds w base v bs) (hl : bs.length ≤ 2000000) (s1 : 1 ≤ s) (s2 : s ≤ 2000001) :
    Calls Tryd.prog 9 #[v, .int .i64 (s : Int)] w fun e w' => e = .returned (.int .i64 ((s + 2 * bs.length : Nat) : Int)) ∧ Bnds w' base v (mkB s bs.length bs) ∧ w.grownBy w' v.ownBlock := by
  rcases h.form with ⟨rfl, rfl⟩ | ⟨g, cap, rfl, hg, _⟩
  · go_enter Tryd.func9, Tryd.ntmps9
    go_wp2
    refine wp_loop_rounds 1 ?_
    rw [rounds_succ]; go_wp2
    go_ret
    exact ⟨rfl, h, World.grownBy.refl w _⟩
  · exact markBoundS_gr w base g cap s bs h hl s1 s2
end Go.Proofs.YtcfkhfbhmjfhdaaDoor

/-
  The laws' own helpers on lists of bounds: heldBoundS reads the marks over each field.
-/
namespace Go.Proofs.YtcfkhfbhmjfhdaaDoor
open Go.RowKit

theorem Bnds.lt {w : World} {base g n cap : Nat} {l : List Bd} (h : Bnds w base (.slice (some ⟨g, 0, none⟩) n cap) l) : g < w.heap.size := by
  rcases h.form with ⟨h', _⟩ | ⟨g', cap', h', _, hg'⟩
  · cases h'
  · simp only [Value.slice.injEq, Option.some.injEq, Addr.mk.injEq, and_true] at h'
    rw [h'.1]; exact hg'

set_option maxRecDepth 100000 in
set_option maxHeartbeats 2000000 in
theorem heldBoundS_gr (w : World) (base g cap s : Nat) (bs : List Bd) (h : Bnds w base (.slice (some ⟨g, 0, none⟩) bs.length cap) (mkB s bs.length bs)) (hl : bs.length ≤ 2000000) (s1 : 1 ≤ s) (s2 : s ≤ 2000001) :
    Calls Tryd.prog 10 #[.slice (some ⟨g, 0, none⟩) bs.length cap, .int .i64 (s : Int)] w fun e w' => e = .returned (.int .i64 ((s + 2 * bs.length : Nat) : Int)) ∧ Below w.heap.size w w' := by
  obtain ⟨E, HE⟩ : ∃ E, Hid (s + 2 * bs.length = E) := ⟨_, Lib.hid rfl⟩
  rw [HE.out]
  have HC : Hid (∀ (W : World) (k U : Nat), k < bs.length → U = s + 2 * k → Bnds W base (.slice (some ⟨g, 0, none⟩) bs.length cap) (mkB s bs.length bs) → W.cell? ⟨g, k * 2, none⟩ = some (.string ⟨(mt U).toArray⟩) ∧ W.cell? ⟨g, k * 2 + 1, none⟩ = some (.string ⟨(mt (U + 1)).toArray⟩)) := Lib.hid (fun W k U hk hU hW => by
    have hX : k < (mkB s bs.length bs).length := by rw [mkB_len s bs.length bs (Nat.le_refl _)]; exact hk
    obtain ⟨e0, e1⟩ := hW.cell k hX
    rw [mkB_get s bs k hk hX] at e0 e1
    subst hU
    exact ⟨e0, e1⟩)
  obtain ⟨X, HX⟩ : ∃ X, Hid (mkB s bs.length bs = X) := ⟨_, Lib.hid rfl⟩
  rw [HX.out] at h
  simp only [HX.out] at HC
  go_enter Tryd.func10, Tryd.ntmps10
  go_wp2
  go_loopw [1, 5] (fun u i wr => ∃ k U : Nat, k ≤ bs.length ∧ Hid (U = s + 2 * k) ∧ i = .int .i64 k ∧ u = .int .i64 (U : Int) ∧ Bnds wr base (.slice (some ⟨g, 0, none⟩) bs.length cap) X ∧ Below w.heap.size w wr) (fun _ i _ => bs.length - (intOf i).toNat)
  case atStart => exact ⟨0, s, Nat.zero_le _, Lib.hid (by omega), rfl, rfl, h, Below.refl _ _⟩
  case round =>
    obtain ⟨k, U, hk, HU, rfl, rfl, hS, hb⟩ := hrel
    have u1 : 1 ≤ U := by have := HU.out; omega
    have u2 : U ≤ 10000000 := by have := HU.out; omega
    by_cases hlt : k < bs.length
    · have k0 : (0 : Int) ≤ (k : Int) := by omega
      have k1 : (k : Int) < (bs.length : Int) := by omega
      have HM := Lib.hid (fun W => markText_any U W (by omega) (by omega))
      have HM2 := Lib.hid (fun W => markText_any (U + 1) W (by omega) (by omega))
      have HC2 := Lib.hid (fun W hW => HC.out W k U hlt HU.out hW)
      clear h
      obtain ⟨c1, _⟩ := HC2.out wr hS
      have g1 : g < wr.heap.size := hS.lt
      go_wp2_with fail
      go_region_held3 (fun W => W.cell? ⟨g, k * 2, none⟩ = some (.string ⟨(mt U).toArray⟩) ∧ g < W.heap.size) (first | exact ⟨c1, g1⟩ | (refine ⟨?_, ?_⟩ <;> assumption) | exact keep_cell hb1 (by assumption) (by assumption)) ((first | (go_at_call 25; refine (HM.out _).mono ?_; rintro e w1 ⟨rfl, hb1⟩)))
      have hS1 := (hS.below (below_drewN _ _ 1)).below hb1
      have B1 := (hb.trans (below_drewN _ _ 1)).trans (hb1.mono hb.size)
      obtain ⟨_, c2⟩ := HC2.out _ hS1
      have g2 : g < w1.heap.size := hS1.lt
      clear c1 g1 hS hb hb1
      go_wp2_with fail
      go_region_held3 (fun W => W.cell? ⟨g, k * 2 + 1, none⟩ = some (.string ⟨(mt (U + 1)).toArray⟩) ∧ g < W.heap.size) (first | exact ⟨c2, g2⟩ | (refine ⟨?_, ?_⟩ <;> assumption) | exact keep_cell hb2 (by assumption) (by assumption)) ((first | (go_at_call 25; refine (HM2.out _).mono ?_; rintro e w2 ⟨rfl, hb2⟩)))
      have hS2 := (hS1.below (below_drewN _ _ 1)).below hb2
      have B2 := (B1.trans (below_drewN _ _ 1)).trans (hb2.mono B1.size)
      go_wp2_with fail
      go_roundw
      case rel => exact ⟨k + 1, U + 2, by omega, Lib.hid (by have := HU.out; omega), by go_num, by go_num, hS2, B2⟩
      case measure => simp [intOf]; omega
    · obtain rfl : k = bs.length := by omega
      have HUE : Hid (U = E) := Lib.hid (by rw [HU.out, HE.out])
      clear h
      go_wp2_with fail
      go_ret
      exact ⟨by rw [← HUE.out]; rfl, hb⟩

set_option maxRecDepth 100000 in
set_option maxHeartbeats 1000000 in
theorem heldB_any (w : World) (base s : Nat) (v : Value) (bs : List Bd) (h : Bnds w base v (mkB s bs.length bs)) (hl : bs.length ≤ 2000000) (s1 : 1 ≤ s) (s2 : s ≤ 2000001) :
    Calls Tryd.prog 10 #[v, .int .i64 (s : Int)] w fun e w' => e = .returned (.int .i64 ((s + 2 * bs.length : Nat) : Int)) ∧ Below w.heap.size w w' := by
  rcases h.form with ⟨rfl, h0⟩ | ⟨g, cap, rfl, hg, _⟩
  · have : bs = [] := by
      have := mkB_len s bs.length bs (Nat.le_refl _)
      rw [h0] at this
      exact List.eq_nil_of_length_eq_zero this.symm
    subst this
    go_enter Tryd.func10, Tryd.ntmps10
    go_wp2
    refine wp_loop_rounds 1 ?_
    rw [rounds_succ]; go_wp2
    go_ret
    exact ⟨rfl, Below.refl _ _⟩
  · rw [mkB_len s bs.length bs (Nat.le_refl _)] at h ⊢
    exact heldBoundS_gr w base g cap s bs h hl s1 s2
end Go.Proofs.YtcfkhfbhmjfhdaaDoor

/-
  The laws' own comparison of lists of bounds.
-/
namespace Go.Proofs.YtcfkhfbhmjfhdaaDoor
open Go.RowKit

set_option maxRecDepth 100000 in
set_option maxHeartbeats 1000000 in
theorem eqBound_same (b c : ByteArray) (w : World) :
    Calls Tryd.prog 24 #[.agg #[.string b, .string c], .agg #[.string b, .string c]] w fun e w' => e = .returned (.bool true) ∧ Below w.heap.size w w' := by
  go_enter Tryd.func24, Tryd.ntmps24
  go_wp2_with fail
  go_ret
  exact ⟨rfl, ((Below.refl _ _).alloc (Nat.le_refl _) _).alloc (by simp) _⟩

set_option maxRecDepth 100000 in
set_option maxHeartbeats 1000000 in
theorem eqBoundS_same (va vb : Value) (bs : List Bd) (w : World) (ha : RdB w va bs) (hb : RdB w vb bs) (hl : bs.length ≤ 16777216) :
    Calls Tryd.prog 8 #[va, vb] w fun e w' => e = .returned (.bool true) ∧ Below w.heap.size w w' := by
  have HA := Lib.hid ha
  have HB := Lib.hid hb
  obtain ⟨A, ca, rfl, ha⟩ := ha
  obtain ⟨B, cb, rfl, hb⟩ := hb
  have q0 : ((bs.length : Int) != (bs.length : Int)) = false := int_bne_false rfl
  clear ha hb
  go_enter Tryd.func8, Tryd.ntmps8
  go_wp2_with fail
  go_loopw [5] (fun i wr => ∃ k : Nat, k ≤ bs.length ∧ i = .int .i64 k ∧ Below w.heap.size w wr) (fun i _ => bs.length - (intOf i).toNat)
  case atStart => exact ⟨0, Nat.zero_le _, rfl, Below.refl _ _⟩
  case round =>
    obtain ⟨k, hk, rfl, hw⟩ := hrel
    by_cases hlt : k < bs.length
    · obtain ⟨A', ca', hv, ha⟩ := HA.out.below hw
      simp only [Value.slice.injEq] at hv
      obtain ⟨rfl, _, rfl⟩ := hv
      obtain ⟨B', cb', hv, hb⟩ := HB.out.below hw
      simp only [Value.slice.injEq] at hv
      obtain ⟨rfl, _, rfl⟩ := hv
      obtain ⟨g, off, rfl, _, hca⟩ := ha (by omega)
      obtain ⟨g2, off2, rfl, _, hcb⟩ := hb (by omega)
      have d1 : wr.cell? ⟨g, off + k * 2, none⟩ = some (.string ⟨bs[k].1.toArray⟩) := (hca k hlt).1
      have d2 : wr.cell? ⟨g, off + k * 2 + 1, none⟩ = some (.string ⟨bs[k].2.toArray⟩) := (hca k hlt).2
      have d3 : wr.cell? ⟨g2, off2 + k * 2, none⟩ = some (.string ⟨bs[k].1.toArray⟩) := (hcb k hlt).1
      have d4 : wr.cell? ⟨g2, off2 + k * 2 + 1, none⟩ = some (.string ⟨bs[k].2.toArray⟩) := (hcb k hlt).2
      have k0 : (0 : Int) ≤ (k : Int) := by omega
      have k1 : (k : Int) < (bs.length : Int) := by omega
      clear ha hb hca hcb
      go_wp2_with fail
      go_region_with (first | (go_at_call 24; refine (eqBound_same _ _ _).mono ?_; rintro e w1 ⟨rfl, hb1⟩))
      all_goals
        go_wp2_with fail
        go_roundw
        case rel => exact ⟨k + 1, by omega, by go_num, hw.trans ((below_drewN _ _ 1).trans (hb1.mono (by first | exact Nat.le_refl _ | exact hw.size)))⟩
        case measure => simp [intOf]; omega
    · go_wp2_with fail
      go_ret
      exact ⟨rfl, hw⟩
end Go.Proofs.YtcfkhfbhmjfhdaaDoor

/-
  The walk of the law FnExactExact.
-/
namespace Go.Proofs.YtcfkhfbhmjfhdaaDoor
open Go.RowKit

theorem Bnds.of_heap {w : World} {base g : Nat} {bs : List Bd} (hg : base ≤ g) (hl : bs.length ≤ maxLen) (h : w.heap[g]? = some (.cells (flat2 bs).toArray 45)) : Bnds w base (.slice (some ⟨g, 0, none⟩) bs.length bs.length) bs :=
  ⟨flat2_len bs, .inr ⟨g, bs.length, (flat2 bs).toArray, rfl, hg, h, Nat.le_refl _, hl, by simp [flat2_len], by rw [List.take_of_length_le (by simp [flat2_len])]⟩⟩
theorem exB_le (l : List UInt8) : (exB l).length ≤ 1 := by unfold exB; split <;> simp
theorem ExactIs.bnds {w w' : World} {l : List UInt8} {e : Ending} (h : ExactIs w l e w') : ∃ g, e = .returned (.slice (some ⟨g, 0, none⟩) (exB l).length (exB l).length) ∧ Bnds w' w.heap.size (.slice (some ⟨g, 0, none⟩) (exB l).length (exB l).length) (exB l) ∧ Below w.heap.size w w' := by
  obtain ⟨g, he, hg, hh, hb⟩ := h
  exact ⟨g, he, Bnds.of_heap hg (by have := exB_le l; unfold maxLen; omega) hh, hb⟩

set_option maxRecDepth 100000 in
set_option maxHeartbeats 4000000 in
theorem exExact (a0 : ByteArray) (w : World) (w0 : a0.size ≤ maxLen) (ht : Tab w) :
    Calls Tryd.prog 3 #[.string a0] w fun e w' => e = .returned (.bool true) ∧ Below w.heap.size w w' := by
  obtain ⟨l, rfl⟩ : ∃ l : List UInt8, a0 = ⟨l.toArray⟩ := ⟨a0.data.toList, bytes_ext (by simp)⟩
  rw [size_of] at w0
  have hsz := size_of l
  by_cases hbig : 1048576 < l.length
  · rw [← hsz] at hbig
    clear ht
    go_enter Tryd.func3, Tryd.ntmps3
    go_wp2_with fail
    go_ret
    exact ⟨rfl, Below.refl _ _⟩
  · have hs : l.length ≤ 1048576 := by omega
    have HSp := Lib.hid (fun W => (specExact_any l W hs).mono (fun e w' h => ExactIs.bnds h))
    have HIm := Lib.hid (fun (W : World) (h : Below w.heap.size w W) => (implExact_any l W hs (tab_below ht h)).mono (fun e w' h => ExactIs.bnds h))
    have h1 := exB_le l
    obtain ⟨bs, HB⟩ : ∃ bs, Hid (exB l = bs) := ⟨_, Lib.hid rfl⟩
    simp only [HB.out] at HSp HIm h1
    have hbig2 : ¬ 1048576 < (⟨l.toArray⟩ : ByteArray).size := by rw [hsz]; exact hbig
    clear ht hbig hsz
    go_enter Tryd.func3, Tryd.ntmps3
    go_wp2_with fail
    refine (HSp.out _).mono ?_
    rintro e w1 ⟨g0, rfl, S0, B1⟩
    have x0 := S0.owned g0 rfl
    have x1 := S0.lt
    go_wp2_with fail
    refine (HIm.out _ B1).mono ?_
    rintro e w2 ⟨g1, rfl, Sg, hb2⟩
    have B2 := B1.trans (hb2.mono B1.size)
    have S02 := S0.below hb2
    have y0 := Sg.owned g1 rfl
    have y1 := Sg.lt
    clear S0 hb2
    go_wp2_with fail
    refine (eqBoundS_same _ _ bs _ (RdB.of_bnds Sg) (RdB.of_bnds S02) (by omega)).mono ?_
    rintro e w3 ⟨rfl, hb3⟩
    have B3 := B2.trans (hb3.mono B2.size)
    have S03 := S02.below hb3
    have Sg3 := Sg.below hb3
    clear S02 Sg hb3 B2
    go_wp2_with fail
    refine (markB_gr _ _ 1 _ bs Sg3 (by omega) (by omega) (by omega)).mono ?_
    rintro e w4 ⟨rfl, Sg4, hg4⟩
    have B4 := gr_belowN B3 hg4 B3.size (fun g hg => by simp only [Value.ownBlock, Option.some.injEq] at hg; have := B1.size; omega)
    have S04 := S03.grown hg4 (fun g hg => by simp only [Value.ownBlock, Option.some.injEq] at hg; simp only [Value.ownBlock, ne_eq, Option.some.injEq]; omega)
    clear S03 Sg3 hg4 B3
    obtain ⟨M, HM⟩ : ∃ M, Hid (1 + 2 * bs.length = M) := ⟨_, Lib.hid rfl⟩
    rw [HM.out]
    go_wp2_with fail
    refine (heldB_any _ _ 1 _ bs Sg4 (by omega) (by omega) (by omega)).mono ?_
    rintro e w5 ⟨rfl, hb5⟩
    rw [HM.out]
    have B5 := B4.trans (hb5.mono B4.size)
    have S05 := S04.below hb5
    have Sg5 := Sg4.below hb5
    clear S04 Sg4 hb5 B4
    have q2 : ¬ ((M : Int) < 0) := by omega
    have q3 : ((M : Int) != (M : Int)) = false := int_bne_false rfl
    go_wp2_with fail
    refine (HIm.out _ B5).mono ?_
    rintro e w6 ⟨g6, rfl, S6, hb6⟩
    have B6 := B5.trans (hb6.mono B5.size)
    have S06 := S05.below hb6
    have Sg6 := Sg5.below hb6
    clear S05 Sg5 hb6 B5
    go_wp2_with fail
    refine (eqBoundS_same _ _ bs _ (RdB.of_bnds S6) (RdB.of_bnds S06) (by omega)).mono ?_
    rintro e w7 ⟨rfl, hb7⟩
    have B7 := B6.trans (hb7.mono B6.size)
    have Sg7 := Sg6.below hb7
    clear S06 Sg6 S6 hb7 B6
    go_wp2_with fail
    refine (heldB_any _ _ 1 _ bs Sg7 (by omega) (by omega) (by omega)).mono ?_
    rintro e w8 ⟨rfl, hb8⟩
    rw [HM.out]
    have B8 := B7.trans (hb8.mono B7.size)
    go_wp2_with fail
    go_ret
    exact ⟨rfl, B8⟩
end Go.Proofs.YtcfkhfbhmjfhdaaDoor

namespace Go.Proofs.YtcfkhfbhmjfhdaaDoor.fnExactExact
open Go.ChangeShapes Go.WideShapes Go.ChangeAt Go.RowKit
open Go.ChangeMaps (open_string shut_string)
set_option linter.unusedVariables false

theorem own : ownKnob Tryd.prog.godebug = none := by kernel_rfl
theorem laidOut : laidOutB Tryd.prog = true := by kernel_rfl

/-- A table's cells, off its datum. -/
def cell1 : DataW Unit → Value
  | .lit (.int k n) => Value.int k n
  | .lit (.string l) => Value.string ⟨l.toArray⟩
  | _ => .bool false
def tabCells : DataW Unit → Array Value
  | .agg l => (l.flatMap fun
    | .agg m => m.map cell1
    | d => [cell1 d]).toArray
  | _ => #[]
def putCells (cs : Array Value) : Obj → Obj
  | .cells _ t fr => .cells cs t fr
  | o => o
/-- A start that fits: the settled world, the tables laid. -/
noncomputable def laidWorld (os : Os) : World :=
  { World.holding Tryd.prog os ⟨#[], #[], []⟩ with heap := ((((World.holding Tryd.prog os ⟨#[], #[], []⟩).heap.modify 5 (putCells (tabCells Rows.laid_math_bits_deBruijn32tab))).modify 6 (putCells (tabCells Rows.laid_math_bits_deBruijn64tab))).modify 2 (putCells (tabCells Rows.laid_internal_strconv_uint64pow10))) }
theorem laid_met (os : Os) (args : Array Value) : laidMetH Tryd.prog Rows.fnExactExactRow.laid ((laidWorld os).forCall (fun _ _ => 0) ⟨#[], args, []⟩).memory := by
  rw [MakeChecks.laidMetH_plain _ _ _ (by kernel_rfl)]
  exact laidMet_of_run' 8 (by kernel_rfl) (by kernel_rfl)

set_option maxRecDepth 100000 in
theorem lifted (os : Os) (started : os.Started) (H : Type) (enc : TypeId × Value → H) :
    ReturnsInHanded {} Tryd.checked os 3 .any (fun w args => (Rows.fnExactExactSpec.pre enc Tryd.prog Tryd.f3 [] false w args ∧ laidMetH Tryd.prog Rows.fnExactExactRow.laid w) ∧ sizedMet enc Tryd.prog Tryd.f3 (OpenSpec.ofChange Rows.fnExactExactSpec) false w args)
      (Rows.fnExactExactSpec.post enc Tryd.prog Tryd.f3 false true false false) := by
  refine returnsInHanded_of_change_and (C := Tryd.checked) (X := fun w _ => laidMetH Tryd.prog Rows.fnExactExactRow.laid w) (fun _ _ _ hh h => h.of_heap hh) own started (by kernel_rfl) Tryd.func3
    (ChangeSpec.witness_at (enc := enc) (C := Tryd.checked) (os := os) (X := fun w _ => laidMetH Tryd.prog Rows.fnExactExactRow.laid w) false (laidWorld os) #[.string ByteArray.empty] 8 rfl (by kernel_rfl) (by kernel_rfl) (by kernel_rfl) (by kernel_rfl) (by kernel_rfl) (laid_met os _)) ?_
  intro W base args ds gs before hval0 hW _ _ hL _
  have hval : ∀ (j : Nat) t v, Tryd.f3.params[j]? = some t → args[j]? = some v → Value.okWide Tryd.prog W .any base t v := hval0
  have hW' := hW
  obtain ⟨p, q, hA0, hV, rfl, hfz, hnd⟩ := hW
  have hA : DataW.TrodAll enc Tryd.prog W 0 (fun _ => true) true Tryd.f3.params.toList args.toList ds p := hA0
  rw [Tryd.params3] at hA hval
  obtain ⟨v0, vs0, d0, ds0, mp0, mq0, hargs, rfl, rfl, h0, r0⟩ := trodAll_cons hA
  obtain ⟨rfl, rfl, rfl⟩ := trodAll_nil r0
  obtain rfl : args = #[v0] := by cases args; simp_all
  obtain ⟨rfl, rfl⟩ := trodVars_none hV
  obtain ⟨a0, rfl, rfl, rfl, w0⟩ := open_string Tryd.underlying9 (hval 0 9 v0 rfl rfl) h0
  clear hA0 hval0
  rw [MakeChecks.laidMetH_plain _ _ _ (by kernel_rfl)] at hL
  have hL1 : laidMet Tryd.prog Rows.fnExactExactRow.laid W := hL
  unfold Rows.fnExactExactRow at hL1
  have hL3 : laidMet Tryd.prog [("internal/strconv.uint64pow10", Lib.tabData .u64 Lib.pow10Tab)] W := hL1.tail.tail
  have htab : Lib.TabIs Tryd.prog W "internal/strconv.uint64pow10" .u64 Lib.pow10Tab :=
    Lib.tabIs_of_head (g := 2) (t := 176) (e := 163) (n := 20) (by kernel_rfl) (by kernel_rfl) Tryd.underlying176 Tryd.underlying163 (by kernel_rfl) (by kernel_rfl) hL3
  refine (exExact a0 W w0 htab).mono fun e W' ⟨he, bel⟩ => ?_
  subst he
  exact ⟨_, rfl, _, _, _, [], _, [], hW', trodAll_mk1 (shut_bool Tryd.underlying4 _), (trodAll_cons_mk (shut_string Tryd.underlying9 w0) trodAll_mk0), rfl, bel.frame _, fun h => by cases h⟩

theorem over : Rows.fnExactExactRow.holds Tryd.pinned (OpenSpec.ofChange Rows.fnExactExactSpec) :=
  OpenClaim.holds_of_wide 3 Tryd.f3 rfl rfl rfl rfl rfl rfl rfl ⟨rfl, rfl, rfl, rfl, rfl⟩ rfl rfl rfl rfl rfl (by kernel_rfl) Tryd.func3 (by kernel_rfl)
    (of_decide_eq_true (by kernel_rfl)) (by unfold Func.isWrapper; first | (rw [if_pos (by decide +kernel)]; kernel_rfl) | (rw [if_neg (by decide +kernel)]; exact ⟨rfl, rfl⟩))
    (fun os started H enc _ => lifted os started H enc)

end Go.Proofs.YtcfkhfbhmjfhdaaDoor.fnExactExact

namespace Go.Proofs.YtcfkhfbhmjfhdaaDoor
theorem fnExactExact_proved : Rows.FnExactExactCardSaid :=
  Claim7.holds_tied_plain_at .later [] [.data, .data, .data] true Rows.fnExactExactCard.stood.harness false
    fnExactExact.over (fun _ h => by cases h) (by kernel_rfl) (fun _ h => by cases h) fnExactExact_row_tie rfl ⟨rfl, rfl⟩ (by kernel_rfl) rfl
    (fun f fn hf hfn => by
      obtain rfl : f = 3 := Option.some.inj ((show Tryd.prog.funcNamed Rows.fnExactExactRow.func = some 3 by kernel_rfl).symm.trans hf) |>.symm
      obtain rfl : fn = Tryd.f3 := (Option.some.inj (Tryd.func3.symm.trans hfn)).symm
      exact ⟨by kernel_rfl, fun j t ht => by
        rw [Tryd.params3] at ht
        have h3 : t = 9 := by
          rcases j with _ | j
          · simpa using ht.symm
          · simp at ht
        subst h3
        exact (show Tryd.prog.wantsStandIn 9 = false by kernel_rfl)⟩)
    (by kernel_rfl)
#print axioms fnExactExact_proved
end Go.Proofs.YtcfkhfbhmjfhdaaDoor
