/-
  At every argument the law FnExactGetPurl returns true and leaves its arguments as they were. No condition.
-/
import Derived.Test.YtldfkdkppgammaaBase
import Derived.Test.YtldfkdkppgammaaRows
import Derived.Laws.OwnMore
import Derived.Laws.IdiomStrings
import Derived.Maps.AppendAt
import Derived.Laws.BitsAllLaws
import Derived.Deep.RegionLaw
import Derived.Deep.AppendLies
import Derived.Laws.BitsLemmas
import Derived.Test.YtldfkdkppgammaaCut
import Derived.Test.YtldfkdkppgammaaChar
import Derived.Test.YtldfkdkppgammaaRdIs
import Derived.Lib.Join
import Derived.Test.YtldfkdkppgammaaIndexA
import Derived.Deep.QuietTactic
import Derived.BigQuiet
import Derived.Lib.IndexMore
import Derived.Test.YtldfkdkppgammaaStr
import Derived.Test.YtldfkdkppgammaaPieces
import Derived.Test.YtldfkdkppgammaaRdL
import Derived.Test.YtldfkdkppgammaaHeap
import Derived.Test.YtldfkdkppgammaaVerS
import Derived.Deep.RegionHeld3
import Derived.Laws.DeepStrings4
import Derived.Shelf.Strings.Shaped
import Derived.Ground.NamesProg
import Derived.Test.YtldfkdkppgammaaProg
import Derived.Test.YtldfkdkppgammaaLawB
import Derived.Lib.AppendStr
import Derived.Test.YtldfkdkppgammaaSplit
import Derived.Shelf.Strings.OnBuilder
import Derived.Test.YtldfkdkppgammaaVerM
import Derived.Test.YtldfkdkppgammaaParts
import Derived.Test.YtldfkdkppgammaaCharI
import Derived.Outline
import Derived.RangeFuncFrom
import Derived.RangeFuncBox
import Derived.Test.YtldfkdkppgammaaRdI
import Derived.WalkKit
import Derived.ProofKit
import Derived.OpenShut
import Derived.ShutString
import Derived.ChangeOld
import Derived.Below
import Derived.Carry
import Derived.HandedShaped
/-
  spec.KindName, impl.KindName: the name of a kind.
-/
namespace Go.Proofs.Ytldfkdkppgammaa
open Go.RowKit

/-- The name of a kind. -/
def kindL (k : Int) : List UInt8 := if k = 0 then [110, 112, 109] else if k = 1 then [99, 97, 114, 103, 111] else if k = 2 then [103, 111, 108, 97, 110, 103] else if k = 3 then [112, 121, 112, 105] else []
theorem kindL_no {k : Int} (h : k < 0 ∨ 3 < k) : kindL k = [] := by
  unfold kindL; rw [if_neg (by omega), if_neg (by omega), if_neg (by omega), if_neg (by omega)]
theorem kindL_len (k : Int) : (kindL k).length ≤ 6 := by
  unfold kindL
  split
  · simp
  · split
    · simp
    · split
      · simp
      · split <;> simp

set_option maxRecDepth 100000 in
set_option maxHeartbeats 1000000 in
theorem specKindName_any (k : Int) (w : World) :
    Calls Try.prog 11 #[.int .i64 k] w fun e w' => e = .returned (.string ⟨(kindL k).toArray⟩) ∧ Below w.heap.size w w' := by
  rcases (show k < 0 ∨ 3 < k ∨ k = 0 ∨ k = 1 ∨ k = 2 ∨ k = 3 from by omega) with h | h | rfl | rfl | rfl | rfl
  · have H := Lib.hid (kindL_no (k := k) (by omega))
    rw [H.out]
    have d1 : decide (0 ≤ k) = false := by simp; omega
    go_enter Try.func11, Try.ntmps11
    go_wp2
    go_ret
    exact ⟨rfl, Below.refl _ _⟩
  · have H := Lib.hid (kindL_no (k := k) (by omega))
    rw [H.out]
    have d1 : decide (0 ≤ k) = true := by simp; omega
    have d2 : decide (k ≤ 3) = false := by simp; omega
    have h0 : 0 ≤ k := by omega
    go_enter Try.func11, Try.ntmps11
    go_wp2
    go_ret
    exact ⟨rfl, Below.refl _ _⟩
  all_goals
    go_enter Try.func11, Try.ntmps11
    go_wp2
    go_ret
    exact ⟨rfl, (Below.refl _ _).alloc (Nat.le_refl _) _⟩

set_option maxRecDepth 100000 in
set_option maxHeartbeats 1000000 in
theorem implKindName_any (k : Int) (w : World) :
    Calls Try.prog 12 #[.int .i64 k] w fun e w' => e = .returned (.string ⟨(kindL k).toArray⟩) ∧ w = w' := by
  rcases (show (k < 0 ∨ 3 < k) ∨ k = 0 ∨ k = 1 ∨ k = 2 ∨ k = 3 from by omega) with h | rfl | rfl | rfl | rfl
  · have H := Lib.hid (kindL_no h)
    rw [H.out]
    have d0 : (k == 0) = false := int_beq_false (by omega)
    have d1 : (k == 1) = false := int_beq_false (by omega)
    have d2 : (k == 2) = false := int_beq_false (by omega)
    have d3 : (k == 3) = false := int_beq_false (by omega)
    go_enter Try.func12, Try.ntmps12
    go_wp2
    go_ret
    exact ⟨rfl, rfl⟩
  all_goals
    go_enter Try.func12, Try.ntmps12
    go_wp2
    go_ret
    exact ⟨rfl, rfl⟩
end Go.Proofs.Ytldfkdkppgammaa

/-
  A byte buffer of the call's own: what it owns as a list of bytes, and the string that it is turned into.
-/
namespace Go.Proofs.Ytldfkdkppgammaa
open Go.RowKit

/-- A byte as a value. -/
def bv (c : UInt8) : Value := .int .u8 (c.toNat : Int)
/-- The value v owns just the bytes l, in blocks from base on. -/
def Buf (w : World) (base : Nat) (v : Value) (l : List UInt8) : Prop := w.ownsRow base 5 1 v l.length (l.map bv)

theorem u8info : (Try.prog.info? 5).map (fun i => (i.zero, i.size, i.bytes)) = some (some (.int .u8 0), 1, 1) := by kernel_rfl

theorem Buf.form {w : World} {base : Nat} {v : Value} {l : List UInt8} (h : Buf w base v l) : (v = .slice none 0 0 ∧ l = []) ∨ ∃ g cap, v = .slice (some ⟨g, 0, none⟩) l.length cap ∧ base ≤ g ∧ g < w.heap.size := by
  rcases h.2 with ⟨hv, hl⟩ | ⟨g, cap, cur, hv, hb, hh, _⟩
  · left; exact ⟨hv, by simpa using hl⟩
  · right
    refine ⟨g, cap, hv, hb, ?_⟩
    rcases Nat.lt_or_ge g w.heap.size with hlt | hge
    · exact hlt
    · rw [Array.getElem?_eq_none hge] at hh; cases hh

theorem Buf.conv {w : World} {base : Nat} {v : Value} {l : List UInt8} (h : Buf w base v l) : (convert 59 9 v).run Try.prog w = .ok (.string ⟨l.toArray⟩) w := by
  rcases h.form with ⟨rfl, rfl⟩ | ⟨g, cap, rfl, _, _⟩
  · rw [run_convert_bytes_string w 59 9 5 none 0 0 Try.underlying59 Try.underlying5 Try.underlying9]
    rfl
  · refine run_convert_bytes_back w 59 9 5 ⟨g, 0, none⟩ cap l Try.underlying59 Try.underlying5 Try.underlying9 ?_
    intro j hj
    exact World.ownsRow.cells (g := g) h rfl j _ (by simp [bv, hj])

theorem Buf.alloc {w : World} {base : Nat} {v : Value} {l : List UInt8} (h : Buf w base v l) (o : Obj) : Buf (w.alloc o) base v l := World.ownsRow.alloc h o
theorem Buf.drew {w : World} {base : Nat} {v : Value} {l : List UInt8} (h : Buf w base v l) : Buf w.drew base v l := World.ownsRow.drew h
theorem Buf.owned {w : World} {base : Nat} {v : Value} {l : List UInt8} (h : Buf w base v l) : ∀ g, v.ownBlock = some g → base ≤ g := by
  intro g hg
  rcases h.form with ⟨rfl, _⟩ | ⟨g', cap, rfl, hb, _⟩
  · simp [Value.ownBlock] at hg
  · simp [Value.ownBlock] at hg; omega

theorem run_append_buf (w : World) (ty : TypeId) (base : Nat) (v : Value) (l : List UInt8) (hown : Buf w base v l) (ns : List UInt8) (B c : Nat) (cs : Array Value) (t : TypeId) (fr : Nat × Nat)
    (hblk : w.heap[B]? = some (.cells cs t fr)) (hcs : cs.toList = ns.map bv) (hm : 0 < ns.length) (hlen : l.length + ns.length ≤ 16777216) (hbase : base ≤ w.heap.size) :
    ∃ v' w', (Builtin.append_ #[59, 59] ty #[v, .slice (some ⟨B, 0, none⟩) ns.length c]).run Try.prog w = .ok v' w' ∧ Buf w' base v' (l ++ ns) ∧ Below base w w' := by
  obtain ⟨i0, hi, hz0, hz1, hz2⟩ := info_parts u8info
  obtain ⟨g, cap, w', hr, h2, h3, _, _⟩ := run_append_lies (P := Try.prog) w 59 ty base 5 i0 (.int .u8 0) 1 1 Try.underlying59 hi hz0 hz1 hz2 rfl (by decide) v l.length (l.map bv) hown
    ⟨B, 0, none⟩ ns.length c (ns.map bv) (by simp) (by rw [← hcs]; exact World.news_of_block hblk) (by intro u hu; obtain ⟨x, _, rfl⟩ := List.mem_map.1 hu; rfl) hm (by unfold maxLen; omega) (by omega) hbase _ rfl
  refine ⟨_, w', hr, ?_, (Below.refl base w).grown h3 hbase hown.owned⟩
  unfold Buf
  rw [List.length_append, List.map_append]
  exact h2

theorem wp_append_buf {w : World} {o : Oper} {a : Act} {K : Act → World → Prop} {Q : Exit → Act → World → Prop} (s x : Operand)
    (ho : o.op = .call { callee := .builtin .append, args := #[s, x], argTypes := #[59, 59] })
    (base : Nat) (v : Value) (l : List UInt8) (hs : a.eval s = v) (hown : Buf w base v l) (ns : List UInt8) (B m c : Nat) (cs : Array Value) (t : TypeId) (fr : Nat × Nat)
    (hx : a.eval x = .slice (some ⟨B, 0, none⟩) m c) (hmm : ns.length = m) (hblk : w.heap[B]? = some (.cells cs t fr)) (hcs : cs.toList = ns.map bv) (hm : 0 < ns.length) (hlen : l.length + ns.length ≤ 16777216) (hbase : base ≤ w.heap.size)
    (h : ∀ v' w', Buf w' base v' (l ++ ns) → Below base w w' → K (a.put o.dst v') w') : o.wp Try.prog a w K Q := by
  subst hmm
  obtain ⟨v', w', hr, h2, h3⟩ := run_append_buf w o.type base v l hown ns B c cs t fr hblk hcs hm hlen hbase
  unfold Oper.wp execOp
  simp only [ho, resolve, invoke, builtin, Sem.run_bind, Sem.run_pure, Result.andThen_ok, List.map_toArray, List.map_cons, List.map_nil, hs, hx, hr]
  exact h v' w' h2 h3

/-- append(out, bytes) at a plain region's list. -/
theorem wpList_append_buf {w : World} {ops : Array Oper} {rest : List Oper} {o : Oper} {a : Act} {Q : Exit → Act → World → Prop} (hgd : o.guard = none) (s x : Operand)
    (ho : o.op = .call { callee := .builtin .append, args := #[s, x], argTypes := #[59, 59] })
    (base : Nat) (v : Value) (l : List UInt8) (hs : a.eval s = v) (hown : Buf w base v l) (ns : List UInt8) (B m c : Nat) (cs : Array Value) (t : TypeId) (fr : Nat × Nat)
    (hx : a.eval x = .slice (some ⟨B, 0, none⟩) m c) (hmm : ns.length = m) (hblk : w.heap[B]? = some (.cells cs t fr)) (hcs : cs.toList = ns.map bv) (hm : 0 < ns.length) (hlen : l.length + ns.length ≤ 16777216) (hbase : base ≤ w.heap.size)
    (h : ∀ v' w', Buf w' base v' (l ++ ns) → Below base w w' → wpList Try.prog ops Q rest (a.put o.dst v') w') : wpList Try.prog ops Q (o :: rest) a w :=
  wpList_plain hgd fun _ hK => wp_append_buf s x ho base v l hs hown ns B m c cs t fr hx hmm hblk hcs hm hlen hbase fun v' w' h2 h3 => hK _ _ (h v' w' h2 h3)

/-- append(out, bytes) at a step of a region that draws its order. -/
theorem step_append_buf {w : World} {ops : Array Oper} {o : Oper} {a : Act} {K : Act → World → Prop} {Q : Exit → Act → World → Prop} {E : Prop} (hgd : o.guard = none) (s x : Operand)
    (ho : o.op = .call { callee := .builtin .append, args := #[s, x], argTypes := #[59, 59] })
    (base : Nat) (v : Value) (l : List UInt8) (hs : a.eval s = v) (hown : Buf w base v l) (ns : List UInt8) (B m c : Nat) (cs : Array Value) (t : TypeId) (fr : Nat × Nat)
    (hx : a.eval x = .slice (some ⟨B, 0, none⟩) m c) (hmm : ns.length = m) (hblk : w.heap[B]? = some (.cells cs t fr)) (hcs : cs.toList = ns.map bv) (hm : 0 < ns.length) (hlen : l.length + ns.length ≤ 16777216) (hbase : base ≤ w.heap.size)
    (h : ∀ v' w', Buf w' base v' (l ++ ns) → Below base w w' → K (a.put o.dst v') w') :
    if Region.wanted o (yielded ops a.tmps) = true then Oper.wp Try.prog o a w K Q else E := by
  have hw : Region.wanted o (yielded ops a.tmps) = true := by simp [Region.wanted, hgd]
  rw [if_pos hw]
  exact wp_append_buf s x ho base v l hs hown ns B m c cs t fr hx hmm hblk hcs hm hlen hbase h

def hexC (n : Nat) : UInt8 := ([48, 49, 50, 51, 52, 53, 54, 55, 56, 57, 97, 98, 99, 100, 101, 102] : List UInt8).getD n 0
def hexU (n : Nat) : UInt8 := ([48, 49, 50, 51, 52, 53, 54, 55, 56, 57, 65, 66, 67, 68, 69, 70] : List UInt8).getD n 0
theorem idx_lower (n : Nat) (hn : n < 16) (z : Int) (hz : z = (n : Int)) (w : World) : (Instr.index 9 (.string ⟨#[48, 49, 50, 51, 52, 53, 54, 55, 56, 57, 97, 98, 99, 100, 101, 102]⟩) (.int .u8 z)).run Try.prog w = .ok (.int .u8 ((hexC n).toNat : Int)) w := by
  subst hz
  obtain rfl | rfl | rfl | rfl | rfl | rfl | rfl | rfl | rfl | rfl | rfl | rfl | rfl | rfl | rfl | rfl : n = 0 ∨ n = 1 ∨ n = 2 ∨ n = 3 ∨ n = 4 ∨ n = 5 ∨ n = 6 ∨ n = 7 ∨ n = 8 ∨ n = 9 ∨ n = 10 ∨ n = 11 ∨ n = 12 ∨ n = 13 ∨ n = 14 ∨ n = 15 := by omega
  all_goals kernel_rfl
theorem idx_upper (n : Nat) (hn : n < 16) (z : Int) (hz : z = (n : Int)) (w : World) : (Instr.index 9 (.string ⟨#[48, 49, 50, 51, 52, 53, 54, 55, 56, 57, 65, 66, 67, 68, 69, 70]⟩) (.int .u8 z)).run Try.prog w = .ok (.int .u8 ((hexU n).toNat : Int)) w := by
  subst hz
  obtain rfl | rfl | rfl | rfl | rfl | rfl | rfl | rfl | rfl | rfl | rfl | rfl | rfl | rfl | rfl | rfl : n = 0 ∨ n = 1 ∨ n = 2 ∨ n = 3 ∨ n = 4 ∨ n = 5 ∨ n = 6 ∨ n = 7 ∨ n = 8 ∨ n = 9 ∨ n = 10 ∨ n = 11 ∨ n = 12 ∨ n = 13 ∨ n = 14 ∨ n = 15 := by omega
  all_goals kernel_rfl
theorem and15 (c : UInt8) : bits .and .u8 (c.toNat : Int) 15 = (c.toNat : Int) % 16 := by
  have h : ∀ n : Nat, n < 256 → bits .and .u8 (n : Int) 15 = (n : Int) % 16 := by decide +kernel
  exact h _ c.toNat_lt

theorem Buf.lit (w : World) (base : Nat) (l : List UInt8) (hb : base ≤ w.heap.size) (hl : l.length ≤ 16777216) : Buf (w.alloc (.cells (l.map bv).toArray 5)) base (.slice (some ⟨w.heap.size, 0, none⟩) l.length l.length) l := by
  have h := World.ownsRow_lit (base := base) (e := 5) (size := 1) w (l.map bv).toArray l.length hb (by unfold maxLen; omega) (by simp)
  simpa [Buf] using h
theorem Buf.empty (w : World) (base : Nat) (hb : base ≤ w.heap.size) : Buf (w.alloc (.cells #[] 5)) base (.slice (some ⟨w.heap.size, 0, none⟩) 0 0) [] := Buf.lit w base [] hb (by simp)

theorem wrap_div16 (c : UInt8) : IntKind.u8.wrap ((c.toNat : Int) / 16) = (c.toNat : Int) / 16 := by
  have h : ∀ n : Nat, n < 256 → IntKind.u8.wrap ((n : Int) / 16) = (n : Int) / 16 := by decide +kernel
  exact h _ c.toNat_lt

theorem tmod16 (c : UInt8) : (c.toNat : Int).tmod 16 = (c.toNat : Int) % 16 := Int.tmod_eq_emod_of_nonneg (by omega)

end Go.Proofs.Ytldfkdkppgammaa

/-
  spec.PutPercent returns the percent encoding of every byte.
-/
namespace Go.Proofs.Ytldfkdkppgammaa
open Go.RowKit

def safeI (z : Int) : Bool := decide ((97 ≤ z ∧ z ≤ 122) ∨ (65 ≤ z ∧ z ≤ 90) ∨ (48 ≤ z ∧ z ≤ 57) ∨ z = 46 ∨ z = 95 ∨ z = 45 ∨ z = 126)
def pctB (c : UInt8) : List UInt8 := if safeI (c.toNat : Int) = true then [c] else [37, hexU (c.toNat / 16), hexU (c.toNat % 16)]
def pctL : List UInt8 → List UInt8
  | [] => []
  | c :: l => pctB c ++ pctL l
theorem pctL_app (a b : List UInt8) : pctL (a ++ b) = pctL a ++ pctL b := by
  induction a with
  | nil => rfl
  | cons c l ih => simp [pctL, ih]
theorem pctB_len (c : UInt8) : (pctB c).length ≤ 3 := by unfold pctB; split <;> simp
theorem pctL_len (l : List UInt8) : (pctL l).length ≤ 3 * l.length := by
  induction l with
  | nil => simp [pctL]
  | cons c l ih => have := pctB_len c; simp [pctL]; omega

theorem safe_ways (z : Int) : (97 ≤ z ∧ z ≤ 122) ∨ (65 ≤ z ∧ z ≤ 90) ∨ (48 ≤ z ∧ z ≤ 57) ∨ z = 46 ∨ z = 95 ∨ z = 45 ∨ z = 126 ∨ safeI z = false := by
  by_cases h : safeI z = false
  · simp [h]
  · unfold safeI at h; simp at h; omega
theorem safe_yes {z : Int} (h : (97 ≤ z ∧ z ≤ 122) ∨ (65 ≤ z ∧ z ≤ 90) ∨ (48 ≤ z ∧ z ≤ 57) ∨ z = 46 ∨ z = 95 ∨ z = 45 ∨ z = 126) : safeI z = true := by unfold safeI; simp; omega
theorem safe_no {z : Int} (h : safeI z = false) : (z < 97 ∨ 122 < z) ∧ (z < 65 ∨ 90 < z) ∧ (z < 48 ∨ 57 < z) ∧ (z == 46) = false ∧ (z == 95) = false ∧ (z == 45) = false ∧ (z == 126) = false := by
  unfold safeI at h; simp at h; simp; omega

set_option maxRecDepth 100000 in
set_option maxHeartbeats 1000000 in
theorem unescaped_any (z : Int) (w : World) (h0 : 0 ≤ z) (h1 : z < 256) : Calls Try.prog 112 #[.int .u8 z] w fun e w' => e = .returned (.bool (safeI z)) ∧ w = w' := by
  rcases safe_ways z with ⟨a, b⟩ | ⟨a, b⟩ | ⟨a, b⟩ | h | h | h | h | h
  case inl | inr.inl | inr.inr.inl =>
    have H := Lib.hid (safe_yes (z := z) (by omega))
    go_enter Try.func112, Try.ntmps112
    go_wp2
    go_ret
    exact ⟨ret_bool H.out.symm, rfl⟩
  case inr.inr.inr.inr.inr.inr.inr =>
    obtain ⟨c1, c2, c3, e1, e2, e3, e4⟩ := safe_no h
    have H := Lib.hid h
    clear h
    rcases c1 with c1 | c1 <;> rcases c2 with c2 | c2 <;> rcases c3 with c3 | c3 <;> first | omega | skip
    all_goals
      go_enter Try.func112, Try.ntmps112
      go_wp2
      go_ret
      exact ⟨ret_bool (by first | exact H.out.symm | (rw [H.out]; simp; omega)), rfl⟩
  all_goals
    subst h
    go_enter Try.func112, Try.ntmps112
    go_wp2
    go_ret
    exact ⟨rfl, rfl⟩

set_option maxRecDepth 100000 in
set_option maxHeartbeats 1000000 in
theorem l01Safe_any (z : Int) (w : World) (h0 : 0 ≤ z) (h1 : z < 256) : Calls Try.prog 106 #[.int .u8 z] w fun e w' => e = .returned (.bool (safeI z)) ∧ w = w' := by
  rcases safe_ways z with ⟨a, b⟩ | ⟨a, b⟩ | ⟨a, b⟩ | h | h | h | h | h
  case inl | inr.inl | inr.inr.inl =>
    have H := Lib.hid (safe_yes (z := z) (by omega))
    go_enter Try.func106, Try.ntmps106
    go_wp2
    go_ret
    exact ⟨ret_bool H.out.symm, rfl⟩
  case inr.inr.inr.inr.inr.inr.inr =>
    obtain ⟨c1, c2, c3, e1, e2, e3, e4⟩ := safe_no h
    have H := Lib.hid h
    clear h
    rcases c1 with c1 | c1 <;> rcases c2 with c2 | c2 <;> rcases c3 with c3 | c3 <;> first | omega | skip
    all_goals
      go_enter Try.func106, Try.ntmps106
      go_wp2
      go_ret
      exact ⟨ret_bool (by first | exact H.out.symm | (rw [H.out]; simp; omega)), rfl⟩
  all_goals
    subst h
    go_enter Try.func106, Try.ntmps106
    go_wp2
    go_ret
    exact ⟨rfl, rfl⟩

set_option maxHeartbeats 2000000 in
theorem specPutPercent_any (s : ByteArray) (w : World) (hs : s.size ≤ 1048576) :
    Calls Try.prog 74 #[.string s] w fun e w' => e = .returned (.string ⟨(pctL s.data.toList).toArray⟩) ∧ Below w.heap.size w w' := by
  go_enter Try.func74, Try.ntmps74
  go_wp2
  go_loopw [3, 4] (fun v n wr => ∃ k : Nat, k ≤ s.size ∧ n = .int .i64 k ∧ Buf wr w.heap.size v (pctL (s.data.toList.take k)) ∧ Below w.heap.size w wr) (fun _ n _ => s.size - (intOf n).toNat)
  case atStart => exact ⟨0, Nat.zero_le _, rfl, Buf.empty w _ (Nat.le_refl _), (Below.refl _ _).alloc (Nat.le_refl _) _⟩
  case round =>
    obtain ⟨k, hk, rfl, hown, hb⟩ := hrel
    by_cases hlt : k < s.size
    · have hl := pctL_len (s.data.toList.take k)
      have hlk : (s.data.toList.take k).length ≤ k := List.length_take_le _ _
      have HL : Hid ((pctL (s.data.toList.take k)).length + 3 ≤ 16777216) := Lib.hid (by omega)
      clear hl hlk
      have k0 : (0 : Int) ≤ (k : Int) := by omega
      have k1 : (k : Int) < (s.size : Int) := by omega
      by_cases hsf : safeI (s[k].toNat : Int) = true
      · have HN : Hid (pctL (s.data.toList.take (k + 1)) = pctL (s.data.toList.take k) ++ [s[k]]) := Lib.hid (by rw [take_snoc s k hlt, pctL_app]; simp [pctL, pctB, hsf])
        have HS := Lib.hid hsf
        clear hsf
        go_wp2_with fail
        refine (l01Safe_any _ _ (byte_lt s[k]).2 (byte_lt s[k]).1).mono ?_
        rw [HS.out]
        rintro e w' ⟨rfl, rfl⟩
        go_wp2_with (at_builtin; refine wpList_append_buf rfl _ _ rfl w.heap.size _ _ rfl (hown.alloc _) [s[k]] wr.heap.size _ _ _ _ _ rfl rfl (heap_alloc_new wr _) (by simp [bv]) (by simp) (by have := HL.out; simp; omega) (by simp; exact Nat.le_succ_of_le hb.size) ?_; intro v' w2 hown2 hb2)
        have HB := hb.trans (((Below.refl w.heap.size wr).alloc hb.size _).trans hb2)
        go_wp2
        go_roundw
        case rel => exact ⟨k + 1, by omega, by go_num, by rw [HN.out]; exact hown2, HB⟩
        case measure => simp [intOf]; omega
      · have hsf' : safeI (s[k].toNat : Int) = false := by simpa using hsf
        have HN : Hid (pctL (s.data.toList.take (k + 1)) = pctL (s.data.toList.take k) ++ [37, hexU (s[k].toNat / 16), hexU (s[k].toNat % 16)]) := Lib.hid (by rw [take_snoc s k hlt, pctL_app]; simp [pctL, pctB, hsf])
        have HS := Lib.hid hsf'
        clear hsf hsf'
        have x1 := idx_upper (s[k].toNat / 16) (by have := s[k].toNat_lt; omega) ((s[k].toNat : Int) / 16) (by omega)
        have x2 := idx_upper (s[k].toNat % 16) (by omega) ((s[k].toNat : Int) % 16) (by omega)
        have x3 := wrap_div16 s[k]
        have x4 := tmod16 s[k]
        go_wp2_with fail
        refine (l01Safe_any _ _ (byte_lt s[k]).2 (byte_lt s[k]).1).mono ?_
        rw [HS.out]
        rintro e w' ⟨rfl, rfl⟩
        go_wp2_with fail
        go_region_law ((refine step_append_buf (by rfl) _ _ (by rfl) w.heap.size _ _ (by rfl) (hown.alloc _).drew [37, hexU (s[k].toNat / 16), hexU (s[k].toNat % 16)] wr.heap.size _ _ _ _ _ (by rfl) (by rfl) (heap_alloc_new wr _) (by simp [bv]) (by simp) HL.out (by simp; exact Nat.le_succ_of_le hb.size) ?_; intro v' w2 hown2 hb2))
        all_goals
          have HB := hb.trans (((Below.refl w.heap.size wr).alloc hb.size _).drew.trans hb2)
          go_wp2
          go_roundw
          case rel => exact ⟨k + 1, by omega, by go_num, by rw [HN.out]; exact hown2, HB⟩
          case measure => simp [intOf]; omega
    · have hcv := hown.conv
      rw [take_end s k hlt] at hcv
      go_wp2
      go_ret
      exact ⟨rfl, hb⟩
end Go.Proofs.Ytldfkdkppgammaa

/-
  spec.NameOk returns whether a string is a package name.
-/
namespace Go.Proofs.Ytldfkdkppgammaa
open Go.RowKit

def nameI (z : Int) : Bool := decide ((97 ≤ z ∧ z ≤ 122) ∨ (48 ≤ z ∧ z ≤ 57) ∨ z = 46 ∨ z = 95 ∨ z = 45)
def nameB (c : UInt8) : Bool := nameI (c.toNat : Int)
def nmL : List UInt8 := [110, 111, 100, 101, 95, 109, 111, 100, 117, 108, 101, 115]
def compL (l : List UInt8) : Bool := !l.isEmpty && l.all nameB
def chk (sc : Bool) (p : List UInt8) : Bool := compL p && (sc || !(p == nmL))
def chkS (p : List UInt8) : Bool := if p.head? = some 64 then compL p.tail else chk false p
def specN (l : List UInt8) : Bool := (match cutL 47 l with
  | [] => true
  | p :: ps => chkS p && ps.all (chk false)) && decide (l.length ≤ 60)

theorem name_ways (z : Int) : lettI z = true ∨ (lettI z = false ∧ (z == 46) = true) ∨ (lettI z = false ∧ (z == 46) = false ∧ (z == 95) = true) ∨ (lettI z = false ∧ (z == 46) = false ∧ (z == 95) = false ∧ (z == 45) = true) ∨ (lettI z = false ∧ (z == 46) = false ∧ (z == 95) = false ∧ (z == 45) = false) := by
  cases lettI z <;> simp <;> omega
theorem name_yes {z : Int} (h : lettI z = true ∨ (z == 46) = true ∨ (z == 95) = true ∨ (z == 45) = true) : nameI z = true := by
  unfold lettI at h; unfold nameI; simp at h ⊢; omega
theorem name_no {z : Int} (h : lettI z = false ∧ (z == 46) = false ∧ (z == 95) = false ∧ (z == 45) = false) : nameI z = false := by
  unfold lettI at h; unfold nameI; simp at h ⊢; omega
theorem bne_of_beq {z c : Int} {b : Bool} (h : (z == c) = b) : (z != c) = !b := by unfold bne; rw [h]

theorem all_no (s : ByteArray) (k : Nat) (p : UInt8 → Bool) (h : k < s.size) (hb : p s[k] = false) : s.data.toList.all p = false := by
  rw [List.all_eq_false]
  have hm : s[k] ∈ s.data.toList := by
    have : s[k] = s.data.toList[k]'(by simpa using h) := rfl
    rw [this]; exact List.getElem_mem _
  exact ⟨_, hm, by simp [hb]⟩
theorem all_go (s : ByteArray) (k : Nat) (p : UInt8 → Bool) (h : k < s.size) (ha : (s.data.toList.take k).all p = true) (hb : p s[k] = true) : (s.data.toList.take (k + 1)).all p = true := by
  rw [take_snoc s k h, List.all_append, ha]; simp [hb]

/-- The first j parts are right. -/
def okS (j : Nat) (p : List UInt8) : Bool := if j = 0 then chkS p else chk false p
def UpTo (P : List (List UInt8)) (j : Nat) : Prop := ∀ t, t < j → okS t (P.getD t []) = true
theorem upTo_next {P : List (List UInt8)} {j : Nat} (h : UpTo P j) (hj : okS j (P.getD j []) = true) : UpTo P (j + 1) := fun t ht => by
  rcases Nat.lt_or_ge t j with h1 | h1
  · exact h t h1
  · obtain rfl : t = j := by omega
    exact hj
theorem specN_bad {l : List UInt8} {j : Nat} (hj : j < (cutL 47 l).length) (h : okS j ((cutL 47 l).getD j []) = false) : specN l = false := by
  unfold specN
  rw [Bool.and_eq_false_iff]; left
  cases hP : cutL 47 l with
  | nil => rw [hP] at hj; simp at hj
  | cons p ps =>
    rw [hP] at h hj
    simp only
    rw [Bool.and_eq_false_iff]
    cases j with
    | zero => left; simpa [okS] using h
    | succ j =>
      right
      simp [okS] at h
      simp at hj
      rw [List.all_eq_false]
      refine ⟨ps[j], List.getElem_mem _, ?_⟩
      simpa [hj] using h
theorem specN_end {l : List UInt8} (h : UpTo (cutL 47 l) (cutL 47 l).length) : specN l = decide (l.length ≤ 60) := by
  unfold specN
  cases hP : cutL 47 l with
  | nil => simp
  | cons p ps =>
    rw [hP] at h
    have h0 := h 0 (by simp)
    simp [okS] at h0
    have hr : ps.all (chk false) = true := by
      rw [List.all_eq_true]
      intro x hx
      obtain ⟨t, ht, rfl⟩ := List.mem_iff_getElem.1 hx
      have := h (t + 1) (by simp; omega)
      simpa [okS, ht] using this
    simp only
    rw [h0, hr]; simp

theorem attach_len (p : List UInt8) {X : List (List UInt8)} (h : X ≠ []) : (attach p X).length = X.length := by cases X <;> simp_all [attach]
theorem cutL_len (m : UInt8) (l : List UInt8) : (cutL m l).length ≤ l.length + 1 := by
  induction l with
  | nil => simp [cutL]
  | cons c l ih =>
    unfold cutL
    split
    · simp; omega
    · rw [attach_len _ (cutL_ne m l)]; simp; omega
theorem part_len (m : UInt8) (l : List UInt8) : ∀ p ∈ cutL m l, p.length ≤ l.length := by
  induction l with
  | nil => intro p hp; simp [cutL] at hp; subst hp; simp
  | cons c l ih =>
    intro p hp
    unfold cutL at hp
    split at hp
    · rcases List.mem_cons.1 hp with rfl | h
      · simp
      · have := ih p h; simp; omega
    · cases hX : cutL m l with
      | nil => exact absurd hX (cutL_ne m l)
      | cons q qs =>
        rw [hX] at hp
        simp [attach] at hp
        rcases hp with rfl | h
        · have := ih q (by rw [hX]; simp); simp; omega
        · have := ih p (by rw [hX]; simp [h]); simp; omega
theorem compL_empty {l : List UInt8} (h : l.isEmpty = true) : compL l = false := by unfold compL; rw [h]; rfl
theorem compL_bad {l : List UInt8} (h : l.all nameB = false) : compL l = false := by unfold compL; rw [h]; simp
theorem compL_good {l : List UInt8} (h : l.isEmpty = false) (h2 : l.all nameB = true) : compL l = true := by unfold compL; rw [h, h2]; rfl
theorem chk_of {p : List UInt8} (h : (p == nmL) = false) : chk false p = compL p := by unfold chk; rw [h]; simp
theorem chk_nm {p : List UInt8} (h : (p == nmL) = true) (j : Nat) : okS j p = false := by
  have : p = nmL := by simpa using h
  subst this
  unfold okS
  split <;> decide

set_option maxRecDepth 100000 in
set_option maxHeartbeats 4000000 in
theorem specNameOk_any (s : ByteArray) (w : World) (hs : s.size ≤ 1048576) :
    Calls Try.prog 72 #[.string s] w fun e w' => e = .returned (.bool (specN s.data.toList)) ∧ Below w.heap.size w w' := by
  go_enter Try.func72, Try.ntmps72
  go_wp2_with fail
  refine (l01Cut_any s 47 _ hs).mono ?_
  rintro e w1 ⟨g, cap, rfl, hown, hb⟩
  have hcell := fun j hj => hown.cell (g := g) j hj
  have hPl : (cutL 47 s.data.toList).length ≤ 1048577 := by have := cutL_len 47 s.data.toList; simp at this; omega
  obtain ⟨P, HPE⟩ : ∃ P, Hid (P = cutL 47 s.data.toList) := ⟨_, Lib.hid rfl⟩
  rw [← HPE.out] at hcell hPl ⊢
  clear hown
  go_wp2_with fail
  go_loop [4, 5, 6] (fun i _ _ => ∃ j : Nat, j ≤ P.length ∧ i = .int .i64 j ∧ UpTo P j) (fun i _ _ => P.length - (intOf i).toNat)
  case atStart => exact ⟨0, Nat.zero_le _, rfl, fun t ht => absurd ht (by omega)⟩
  case round =>
    obtain ⟨j, hj, rfl, H⟩ := hrel
    by_cases hlt : j < P.length
    · obtain ⟨b, hbE⟩ : ∃ b : ByteArray, b = ⟨P[j].toArray⟩ := ⟨_, rfl⟩
      have hc : w1.cell? ⟨g, j, none⟩ = some (.string b) := by rw [hbE]; exact hcell j hlt
      have HB : Hid (b.data.toList = P.getD j []) := Lib.hid (by rw [hbE]; simp [hlt])
      have HSZ : Hid (b.size ≤ 1048576) := Lib.hid (by
        have hmem : P[j] ∈ cutL 47 s.data.toList := by rw [← HPE.out]; exact List.getElem_mem _
        have := part_len 47 s.data.toList _ hmem
        have e : b.size = P[j].length := by rw [hbE]; show P[j].toArray.size = _; simp
        simp at this
        omega)
      clear hbE hcell
      by_cases hnm : (b.data.toList == nmL) = true
      · have e1 : (b.toList == [110, 111, 100, 101, 95, 109, 111, 100, 117, 108, 101, 115]) = true := by rw [ByteArray.toList_eq]; exact hnm
        have HV : Hid (specN s.data.toList = false) := Lib.hid (specN_bad (j := j) (by rw [← HPE.out]; exact hlt) (by rw [← HPE.out, ← HB.out]; exact chk_nm hnm j))
        clear hnm H
        go_wp2_with fail
        go_ret
        exact ⟨ret_bool HV.out.symm, hb⟩
      · have hnm' : (b.data.toList == nmL) = false := by simpa using hnm
        have e1 : (b.toList == [110, 111, 100, 101, 95, 109, 111, 100, 117, 108, 101, 115]) = false := by rw [ByteArray.toList_eq]; exact hnm'
        have hways : ∃ q : ByteArray, q.size ≤ b.size ∧ okS j b.data.toList = compL q.data.toList ∧
            ((((j : Int) == 0) = true ∧ (∃ h0 : 0 < b.size, ((b[0].toNat : Int) == 64) = true) ∧ (∀ W, (Instr.slice 9 (.string b) (some (.int .i64 1)) none none).run Try.prog W = .ok (.string q) W)) ∨
             (q = b ∧ (((j : Int) == 0) = false ∨ (((j : Int) == 0) = true ∧ ¬ 0 < b.size) ∨ (((j : Int) == 0) = true ∧ ∃ h0 : 0 < b.size, ((b[0].toNat : Int) == 64) = false)))) := by
          by_cases hj0 : j = 0
          · by_cases hb0 : 0 < b.size
            · have hd := drop_cons b 0 hb0
              simp at hd
              by_cases h64 : b[0] = 64
              · refine ⟨b.extract 1 b.size, by simp, ?_, .inl ⟨by simp [hj0], ⟨hb0, by rw [h64]; rfl⟩, slice_from b _ 1 1 rfl (by omega) rfl⟩⟩
                unfold okS chkS
                rw [if_pos hj0, hd, h64, piece_end]
                simp
              · refine ⟨b, Nat.le_refl _, ?_, .inr ⟨rfl, .inr (.inr ⟨by simp [hj0], hb0, int_beq_false (fun h => h64 (UInt8.toNat_inj.1 (by show _ = (64 : Nat); omega)))⟩)⟩⟩
                unfold okS chkS
                rw [if_pos hj0, if_neg (by rw [hd]; simpa using h64), chk_of hnm']
            · refine ⟨b, Nat.le_refl _, ?_, .inr ⟨rfl, .inr (.inl ⟨by simp [hj0], hb0⟩)⟩⟩
              have hz : b.size = 0 := by omega
              have hnil : b.data.toList = [] := List.eq_nil_of_length_eq_zero (by simpa using hz)
              unfold okS chkS
              rw [if_pos hj0, hnil]; rfl
          · refine ⟨b, Nat.le_refl _, ?_, .inr ⟨rfl, .inl (int_beq_false (fun h => hj0 (Int.ofNat.inj h)))⟩⟩
            unfold okS
            rw [if_neg hj0, chk_of hnm']
        obtain ⟨q, hqs, hok, hway⟩ := hways
        have HOK : Hid (okS j (P.getD j []) = compL q.data.toList) := Lib.hid (by rw [← HB.out]; exact hok)
        have HBAD : Hid (compL q.data.toList = false → specN s.data.toList = false) := Lib.hid (fun hcl => specN_bad (j := j) (by rw [← HPE.out]; exact hlt) (by rw [← HPE.out, HOK.out, hcl]))
        have HUP : Hid (compL q.data.toList = true → UpTo P (j + 1)) := Lib.hid (fun hcl => upTo_next H (by rw [HOK.out, hcl]))
        have hql : q.size ≤ 1048576 := Nat.le_trans hqs HSZ.out
        clear hnm hnm' hok H hqs
        have hway2 : (((j : Int) == 0) = true ∧ (∃ h0 : 0 < b.size, ((b[0].toNat : Int) == 64) = true) ∧ (∀ W, (Instr.slice 9 (.string b) (some (.int .i64 1)) none none).run Try.prog W = .ok (.string q) W)) ∨ (q = b ∧ ((j : Int) == 0) = false) ∨ (q = b ∧ ((j : Int) == 0) = true ∧ ¬ 0 < b.size) ∨ (q = b ∧ ((j : Int) == 0) = true ∧ ∃ h0 : 0 < b.size, ((b[0].toNat : Int) == 64) = false) := by
          rcases hway with h | ⟨h, h' | h' | h'⟩
          · exact .inl h
          · exact .inr (.inl ⟨h, h'⟩)
          · exact .inr (.inr (.inl ⟨h, h'⟩))
          · exact .inr (.inr (.inr ⟨h, h'⟩))
        clear hway
        rcases hway2 with ⟨e2, ⟨h0, e3⟩, he⟩ | ⟨rfl, e2⟩ | ⟨rfl, e2, h0⟩ | ⟨rfl, e2, h0, e3⟩
        all_goals
          go_wp2_with fail
          go_loop [6] (fun k => ∃ m : Nat, m ≤ q.size ∧ k = .int .i64 m ∧ Hid ((q.data.toList.take m).all nameB = true)) (fun k => q.size - (intOf k).toNat)
          case atStart => exact ⟨0, Nat.zero_le _, rfl, Lib.hid (by simp)⟩
          case round =>
            obtain ⟨m, hm, rfl, HA⟩ := hrel
            by_cases hml : m < q.size
            · have c1 := (byte_lt q[m]).1
              have c2 := (byte_lt q[m]).2
              rcases name_ways (q[m].toNat : Int) with z | ⟨z, z1⟩ | ⟨z, z1, z2⟩ | ⟨z, z1, z2, z3⟩ | ⟨z, z1, z2, z3⟩
              · have HY := Lib.hid (all_go q m nameB hml HA.out (name_yes (.inl z)))
                have HS := Lib.hid z
                clear z
                go_wp2_with fail
                refine (l01Letter_any _ _ c2 c1).mono ?_
                rw [HS.out]
                rintro e w' ⟨rfl, rfl⟩
                go_wp2_with fail
                go_round
                case rel => exact ⟨m + 1, by omega, by go_num, HY⟩
                case measure => simp [intOf]; omega
              · have HY := Lib.hid (all_go q m nameB hml HA.out (name_yes (.inr (.inl z1))))
                have HS := Lib.hid z
                have y1 := bne_of_beq z1
                clear z z1
                go_wp2_with fail
                refine (l01Letter_any _ _ c2 c1).mono ?_
                rw [HS.out]
                rintro e w' ⟨rfl, rfl⟩
                go_wp2_with fail
                go_round
                case rel => exact ⟨m + 1, by omega, by go_num, HY⟩
                case measure => simp [intOf]; omega
              · have HY := Lib.hid (all_go q m nameB hml HA.out (name_yes (.inr (.inr (.inl z2)))))
                have HS := Lib.hid z
                have y1 := bne_of_beq z1
                have y2 := bne_of_beq z2
                clear z z1 z2
                go_wp2_with fail
                refine (l01Letter_any _ _ c2 c1).mono ?_
                rw [HS.out]
                rintro e w' ⟨rfl, rfl⟩
                go_wp2_with fail
                go_round
                case rel => exact ⟨m + 1, by omega, by go_num, HY⟩
                case measure => simp [intOf]; omega
              · have HY := Lib.hid (all_go q m nameB hml HA.out (name_yes (.inr (.inr (.inr z3)))))
                have HS := Lib.hid z
                have y1 := bne_of_beq z1
                have y2 := bne_of_beq z2
                have y3 := bne_of_beq z3
                clear z z1 z2 z3
                go_wp2_with fail
                refine (l01Letter_any _ _ c2 c1).mono ?_
                rw [HS.out]
                rintro e w' ⟨rfl, rfl⟩
                go_wp2_with fail
                go_round
                case rel => exact ⟨m + 1, by omega, by go_num, HY⟩
                case measure => simp [intOf]; omega
              · have HX : Hid (specN s.data.toList = false) := Lib.hid (HBAD.out (compL_bad (all_no q m nameB hml (name_no ⟨z, z1, z2, z3⟩))))
                have HS := Lib.hid z
                have y1 := bne_of_beq z1
                have y2 := bne_of_beq z2
                have y3 := bne_of_beq z3
                clear z z1 z2 z3
                go_wp2_with fail
                refine (l01Letter_any _ _ c2 c1).mono ?_
                rw [HS.out]
                rintro e w' ⟨rfl, rfl⟩
                go_wp2_with fail
                go_ret
                exact ⟨ret_bool HX.out.symm, hb⟩
            · have HA2 := HA.out
              rw [take_end q m hml] at HA2
              by_cases hqe : q.data.toList.isEmpty = true
              · have HX : Hid (specN s.data.toList = false) := Lib.hid (HBAD.out (compL_empty hqe))
                have e9 : q.toList.isEmpty = true := by rw [ByteArray.toList_eq]; exact hqe
                clear hqe HA2
                go_wp2_with fail
                go_ret
                exact ⟨ret_bool HX.out.symm, hb⟩
              · have hqe' : q.data.toList.isEmpty = false := by simpa using hqe
                have HX := Lib.hid (HUP.out (compL_good hqe' HA2))
                have e9 : q.toList.isEmpty = false := by rw [ByteArray.toList_eq]; exact hqe'
                clear hqe hqe' HA2
                go_wp2_with fail
                go_round
                case rel => exact ⟨j + 1, by omega, by go_num, HX.out⟩
                case measure => simp [intOf]; omega
    · have HV : Hid (specN s.data.toList = decide (s.size ≤ 60)) := Lib.hid (by
        rw [specN_end (by rw [← HPE.out]; have hjl : j = P.length := (by omega); rw [← hjl]; exact H)]; simp)
      clear H hcell
      by_cases h60 : s.size ≤ 60
      · have d60 : decide (s.size ≤ 60) = true := by simpa using h60
        go_wp2_with fail
        go_ret
        exact ⟨ret_bool (by rw [HV.out, d60]; simp; omega), hb⟩
      · have d60 : decide (s.size ≤ 60) = false := by simpa using h60
        go_wp2_with fail
        go_ret
        exact ⟨ret_bool (by rw [HV.out, d60]; simp; omega), hb⟩
end Go.Proofs.Ytldfkdkppgammaa

/-
  The package URL in plain words.
-/
namespace Go.Proofs.Ytldfkdkppgammaa
open Go.RowKit

/-- The name's parts as they are written, so many of them. -/
def pctP (ls : List (List UInt8)) : List UInt8 := ls.flatMap fun p => 47 :: pctL p
def purlT (k : Int) (a b : List UInt8) : List UInt8 := [112, 107, 103, 58] ++ kindL k ++ pctP (cutL 47 a) ++ 64 :: pctL b
def purlOk (k : Int) (a b : List UInt8) : Bool := !(kindL k).isEmpty && specN a && readOk b
/-- What PutPurl hands back. -/
def purlL (k : Int) (a b : List UInt8) : List UInt8 := if purlOk k a b = true then purlT k a b else []
theorem purl_kind {k : Int} (a b : List UInt8) (h : kindL k = []) : purlL k a b = [] := by unfold purlL purlOk; simp [h]
theorem purl_name (k : Int) {a : List UInt8} (b : List UInt8) (h : specN a = false) : purlL k a b = [] := by unfold purlL purlOk; simp [h]
theorem purl_ver (k : Int) (a : List UInt8) {b : List UInt8} (h : readOk b = false) : purlL k a b = [] := by unfold purlL purlOk; simp [h]
theorem purl_yes {k : Int} {a b : List UInt8} (h : kindL k ≠ []) (ha : specN a = true) (hb : readOk b = true) : purlL k a b = purlT k a b := by
  unfold purlL purlOk
  have : (kindL k).isEmpty = false := by cases hk : kindL k <;> simp_all
  simp [this, ha, hb]
theorem specN_60 {l : List UInt8} (h : specN l = true) : l.length ≤ 60 := by
  unfold specN at h; simp at h; exact h.2
theorem pctP_snoc {ls : List (List UInt8)} {k : Nat} (h : k < ls.length) : pctP (ls.take (k + 1)) = pctP (ls.take k) ++ 47 :: pctL ls[k] := by
  unfold pctP; rw [List.take_succ_eq_append_getElem h]; simp only [List.flatMap_append, List.flatMap_cons, List.flatMap_nil, List.append_nil]
theorem pctP_zero (ls : List (List UInt8)) : pctP (ls.take 0) = [] := by simp [pctP]
theorem pctP_all {ls : List (List UInt8)} {k : Nat} (h : ¬ k < ls.length) : pctP (ls.take k) = pctP ls := by rw [List.take_of_length_le (by omega)]
theorem pctP_len {ls : List (List UInt8)} (h : ∀ l ∈ ls, l.length ≤ 60) (k : Nat) : (pctP (ls.take k)).length ≤ 181 * k := by
  induction k with
  | zero => simp [pctP]
  | succ k ih =>
    by_cases hk : k < ls.length
    · rw [pctP_snoc hk]
      have := pctL_len ls[k]
      have := h ls[k] (List.getElem_mem hk)
      simp; omega
    · rw [pctP_all (by omega)]; rw [pctP_all hk] at ih; omega
theorem join_pct : ∀ ls : List (List UInt8), ls ≠ [] → 47 :: Lib.join (ls.map pctL) [47] = pctP ls
  | [], h => absurd rfl h
  | [x], _ => by simp [Lib.join, List.intercalate, pctP]
  | x :: y :: l, _ => by
    have ih := join_pct (y :: l) (by simp)
    have e : Lib.join ((x :: y :: l).map pctL) [47] = pctL x ++ (47 :: Lib.join ((y :: l).map pctL) [47]) := by unfold Lib.join; simp [List.intercalate]
    rw [e, ih]
    simp [pctP]
end Go.Proofs.Ytldfkdkppgammaa

/-
  strings.IndexByte returns the first place of a byte in a string, or -1.
-/
namespace Go.Proofs.Ytldfkdkppgammaa
open Go.RowKit

theorem indexByte_any (s : ByteArray) (c : UInt8) (w : World) :
    Calls Try.prog 123 #[.string s, .int .u8 (c.toNat : Int)] w fun e w' => e = .returned (.int .i64 (Lib.indexByte s.data.toList c)) ∧ w = w' := by
  go_enter Try.func123, Try.ntmps123
  go_wp2_with fail
  refine (sliteIndexByte_any s (c.toNat : Int) _).mono ?_
  rintro e w' ⟨rfl, rfl⟩
  have hc : ((c.toNat : Int).toNat.toUInt8) = c := by simp
  rw [hc]
  go_wp2
  go_ret
  exact ⟨rfl, rfl⟩
end Go.Proofs.Ytldfkdkppgammaa

/-
  impl.hexAt, spec.l01Pairs and spec.GetHex: the bytes of pairs of digits, and whether a text is made of such pairs.
-/
namespace Go.Proofs.Ytldfkdkppgammaa
open Go.RowKit

/-- The byte of two digits of D. -/
def pairV (D : List UInt8) (a b : UInt8) : Option UInt8 :=
  if Lib.indexByte D a < 0 ∨ Lib.indexByte D b < 0 then none else some (UInt8.ofNat (16 * (Lib.indexByte D a).toNat + (Lib.indexByte D b).toNat))
def pairsL (D : List UInt8) : List UInt8 → Option (List UInt8)
  | [] => some []
  | [_] => none
  | a :: b :: l => match pairV D a b with
    | none => none
    | some c => (pairsL D l).map (c :: ·)

/-- hexAt's answer at place i of s. -/
def hexAtV (D s : List UInt8) (i : Nat) : Option UInt8 := match s.drop i with
  | a :: b :: _ => pairV D a b
  | _ => none
def optByte : Option UInt8 → Value
  | none => .tuple #[.int .u8 0, .bool false]
  | some c => .tuple #[.int .u8 (c.toNat : Int), .bool true]

theorem or_pair : ∀ a : Nat, a < 16 → ∀ b : Nat, b < 16 → bits .or .i64 ((a : Int) * 16) (b : Int) = (a : Int) * 16 + b := by decide +kernel
theorem or_close (xa xb : Int) (a0 : 0 ≤ xa) (a1 : xa < 16) (b0 : 0 ≤ xb) (b1 : xb < 16) : bits .or .i64 (xa * 16) xb % 256 = ((UInt8.ofNat (16 * xa.toNat + xb.toNat)).toNat : Int) := by
  obtain ⟨a, rfl⟩ := Int.eq_ofNat_of_zero_le a0
  obtain ⟨b, rfl⟩ := Int.eq_ofNat_of_zero_le b0
  rw [or_pair a (by omega) b (by omega)]
  simp
  omega
theorem add_close (xa xb : Int) (a0 : 0 ≤ xa) (a1 : xa < 16) (b0 : 0 ≤ xb) (b1 : xb < 16) : 16 * xa + xb = ((UInt8.ofNat (16 * xa.toNat + xb.toNat)).toNat : Int) := by
  obtain ⟨a, rfl⟩ := Int.eq_ofNat_of_zero_le a0
  obtain ⟨b, rfl⟩ := Int.eq_ofNat_of_zero_le b0
  simp
  omega
theorem hexAtV_short (D : List UInt8) (s : ByteArray) (i : Nat) (h : s.size < i + 2) : hexAtV D s.data.toList i = none := by
  unfold hexAtV
  have hl : (s.data.toList.drop i).length < 2 := by simp; omega
  match hd : s.data.toList.drop i with
  | [] => rfl
  | [_] => rfl
  | a :: b :: l => rw [hd] at hl; simp at hl; omega
theorem hexAtV_at (D : List UInt8) (s : ByteArray) (i : Nat) (h : i + 1 < s.size) : hexAtV D s.data.toList i = pairV D s[i] s[i + 1] := by
  unfold hexAtV
  rw [drop_cons s i (by omega), drop_cons s (i + 1) h]

set_option maxHeartbeats 1000000 in
theorem hexAt_any (s D : ByteArray) (i : Nat) (w : World) (hs : s.size ≤ 1048576) (hi : i ≤ s.size) (hD : D.size = 16) :
    Calls Try.prog 115 #[.string s, .int .i64 (i : Int), .string D] w fun e w' => e = .returned (optByte (hexAtV D.data.toList s.data.toList i)) ∧ w = w' := by
  by_cases h2 : s.size < i + 2
  · rw [hexAtV_short _ s i h2]
    have h3 : (s.size : Int) - (i : Int) < 2 := by omega
    go_enter Try.func115, Try.ntmps115
    go_wp2
    go_ret2
    exact ⟨rfl, rfl⟩
  · have h3 : ¬ (s.size : Int) - (i : Int) < 2 := by omega
    have h4 : i + 1 < s.size := by omega
    have h5 : i < s.size := by omega
    rw [hexAtV_at _ s i h4]
    obtain ⟨xa, hxa⟩ : ∃ x, x = Lib.indexByte D.data.toList s[i] := ⟨_, rfl⟩
    obtain ⟨xb, hxb⟩ : ∃ x, x = Lib.indexByte D.data.toList s[i + 1] := ⟨_, rfl⟩
    have a1 := idx_ge D.data.toList s[i]
    have a2 := idx_lt D.data.toList s[i]
    have b1 := idx_ge D.data.toList s[i + 1]
    have b2 := idx_lt D.data.toList s[i + 1]
    rw [← hxa] at a1 a2
    rw [← hxb] at b1 b2
    have hDl : D.data.toList.length = 16 := by simpa using hD
    rw [hDl] at a2 b2
    have HP : Hid (pairV D.data.toList s[i] s[i + 1] = if xa < 0 ∨ xb < 0 then none else some (UInt8.ofNat (16 * xa.toNat + xb.toNat))) := Lib.hid (by unfold pairV; rw [← hxa, ← hxb])
    have HA := Lib.hid hxa
    have HB := Lib.hid hxb
    clear hxa hxb hDl hD
    go_enter Try.func115, Try.ntmps115
    go_wp2_with fail
    refine (indexByte_any D s[i] _).mono ?_
    rintro e w' ⟨rfl, rfl⟩
    rw [← HA.out]
    go_wp2_with fail
    refine (indexByte_any D s[i + 1] _).mono ?_
    rintro e w' ⟨rfl, rfl⟩
    rw [← HB.out]
    by_cases ha : xa < 0
    · go_wp2
      go_ret2
      refine ⟨?_, rfl⟩
      rw [HP.out, if_pos (.inl ha)]; rfl
    · by_cases hb : xb < 0
      · go_wp2
        go_ret2
        refine ⟨?_, rfl⟩
        rw [HP.out, if_pos (.inr hb)]; rfl
      · have HO := Lib.hid (or_close xa xb (by omega) a2 (by omega) b2)
        go_wp2
        go_ret2
        refine ⟨?_, rfl⟩
        rw [HP.out, if_neg (by omega)]
        show Ending.returned (Value.tuple #[Value.int .u8 (bits .or .i64 (xa * 16) xb % 256), .bool true]) = _
        rw [HO.out]; rfl

/-- What pairs are known when the first i bytes are read and have given out. -/
def PairsAt (D l : List UInt8) (i : Nat) (out : List UInt8) : Prop := pairsL D l = (pairsL D (l.drop i)).map (out ++ ·) ∧ out.length ≤ i
theorem pairsAt_zero (D l : List UInt8) : PairsAt D l 0 [] := by
  unfold PairsAt; simp
theorem pairsAt_step {D : List UInt8} {s : ByteArray} {i : Nat} {out : List UInt8} {c : UInt8} (h : PairsAt D s.data.toList i out) (hi : i + 1 < s.size) (hc : pairV D s[i] s[i + 1] = some c) : PairsAt D s.data.toList (i + 2) (out ++ [c]) := by
  refine ⟨?_, by have := h.2; simp; omega⟩
  rw [h.1, drop_cons s i (by omega), drop_cons s (i + 1) hi]
  simp only [pairsL, hc, Option.map_map]
  congr 1
  funext x; simp
theorem pairsAt_bad {D : List UInt8} {s : ByteArray} {i : Nat} {out : List UInt8} (h : PairsAt D s.data.toList i out) (hi : i + 1 < s.size) (hc : pairV D s[i] s[i + 1] = none) : pairsL D s.data.toList = none := by
  rw [h.1, drop_cons s i (by omega), drop_cons s (i + 1) hi]
  simp [pairsL, hc]
theorem pairsAt_odd {D : List UInt8} {s : ByteArray} {i : Nat} {out : List UInt8} (h : PairsAt D s.data.toList i out) (hi : i + 1 = s.size) : pairsL D s.data.toList = none := by
  rw [h.1, drop_cons s i (by omega), drop_end s (i + 1) (by omega)]
  simp [pairsL]
theorem pairsAt_end {D : List UInt8} {s : ByteArray} {i : Nat} {out : List UInt8} (h : PairsAt D s.data.toList i out) (hi : ¬ i < s.size) : pairsL D s.data.toList = some out := by
  rw [h.1, drop_end s i hi]
  simp [pairsL]
def optText : Option (List UInt8) → Value
  | none => .tuple #[.string ⟨#[]⟩, .bool false]
  | some l => .tuple #[.string ⟨l.toArray⟩, .bool true]
def lowerD : ByteArray := ⟨#[48, 49, 50, 51, 52, 53, 54, 55, 56, 57, 97, 98, 99, 100, 101, 102]⟩
def lowerL : List UInt8 := [48, 49, 50, 51, 52, 53, 54, 55, 56, 57, 97, 98, 99, 100, 101, 102]

/-- l01Pairs' answer: where the pairs are right, their bytes and true; else some text and false. -/
def PairsEnd (r : Option (List UInt8)) (w : World) (e : Ending) (w' : World) : Prop :=
  (∃ x : ByteArray, e = .returned (.tuple #[.string x, .bool r.isSome]) ∧ ∀ l, r = some l → x = ⟨l.toArray⟩) ∧ Below w.heap.size w w'

set_option maxRecDepth 100000 in
set_option maxHeartbeats 2000000 in
theorem l01Pairs_any (s D : ByteArray) (w : World) (hs : s.size ≤ 1048576) (hD : D.size = 16) :
    Calls Try.prog 84 #[.string s, .string D] w (PairsEnd (pairsL D.data.toList s.data.toList) w) := by
  have hDm : D.size ≤ maxLen := by unfold maxLen; omega
  go_enter Try.func84, Try.ntmps84
  go_wp2
  go_loopw [6, 7, 8, 9] (fun v n _ _ wr => ∃ (k : Nat) (out : List UInt8), k ≤ s.size ∧ n = .int .i64 k ∧ Buf wr w.heap.size v out ∧ Below w.heap.size w wr ∧ PairsAt D.data.toList s.data.toList k out ∧ k % 2 = 0) (fun _ n _ _ _ => s.size - (intOf n).toNat)
  case atStart => exact ⟨0, [], Nat.zero_le _, rfl, Buf.empty w _ (Nat.le_refl _), (Below.refl _ _).alloc (Nat.le_refl _) _, pairsAt_zero _ _, rfl⟩
  case round =>
    obtain ⟨k, out, hk, rfl, hown, hb, HP, hk2⟩ := hrel
    have HK := Lib.hid hk2
    clear hk2
    by_cases h1 : k + 1 < s.size
    · have hlt : k < s.size := by omega
      obtain ⟨xa, hxa⟩ : ∃ x, x = Lib.indexByte D.data.toList s[k] := ⟨_, rfl⟩
      obtain ⟨xb, hxb⟩ : ∃ x, x = Lib.indexByte D.data.toList s[k + 1] := ⟨_, rfl⟩
      have a1 := idx_ge D.data.toList s[k]
      have a2 := idx_lt D.data.toList s[k]
      have b1 := idx_ge D.data.toList s[k + 1]
      have b2 := idx_lt D.data.toList s[k + 1]
      have hDl : D.data.toList.length = 16 := by simpa using hD
      rw [← hxa, hDl] at a2
      rw [← hxa] at a1
      rw [← hxb, hDl] at b2
      rw [← hxb] at b1
      have HV : Hid (pairV D.data.toList s[k] s[k + 1] = if xa < 0 ∨ xb < 0 then none else some (UInt8.ofNat (16 * xa.toNat + xb.toNat))) := Lib.hid (by unfold pairV; rw [← hxa, ← hxb])
      have HA := Lib.hid hxa
      have HB := Lib.hid hxb
      have HQ : Hid (∀ c W, Calls Try.prog 103 #[.string D, .int .u8 (c.toNat : Int)] W fun e w' => e = .returned (.int .i64 (Lib.indexByte D.data.toList c)) ∧ w' = W) := Lib.hid (fun c W => (l01At_any D c W hDm).mono fun e w' h => ⟨h.1, h.2.symm⟩)
      clear hxa hxb hDl
      have k0 : (0 : Int) ≤ (k : Int) := by omega
      have k1 : (k : Int) < (s.size : Int) := by omega
      have k2 : (k : Int) + 1 < (s.size : Int) := by omega
      have q1 : IntKind.i64.wrap ((k : Int) + 1) = (k : Int) + 1 := IntWalk.i64_in _ (by omega)
      have q2 : (0 : Int) ≤ (k : Int) + 1 := by omega
      have q3 : ((k : Int) + 1).toNat = k + 1 := by omega
      go_wp2_with fail
      go_quiet ((go_at_call 103; exact Calls.quiet_of_same (HQ.out _ _)))
      clear q1
      rw [← HA.out, ← HB.out]
      have hown' : Buf (wr.drewN nq) w.heap.size _ out := hown
      have hb' : Below w.heap.size w (wr.drewN nq) := ⟨hb.os, hb.tape, hb.output, hb.size, hb.block⟩
      generalize wr.drewN nq = wq at hown' hb' ⊢
      clear hown hb
      by_cases ha : xa < 0
      · have HN := Lib.hid (pairsAt_bad HP h1 (by rw [HV.out, if_pos (.inl ha)]))
        clear HP
        go_wp2
        go_ret2
        exact ⟨⟨⟨#[]⟩, by rw [HN.out]; rfl, by rw [HN.out]; simp⟩, hb'⟩
      · by_cases hbn : xb < 0
        · have HN := Lib.hid (pairsAt_bad HP h1 (by rw [HV.out, if_pos (.inr hbn)]))
          clear HP
          go_wp2
          go_ret2
          exact ⟨⟨⟨#[]⟩, by rw [HN.out]; rfl, by rw [HN.out]; simp⟩, hb'⟩
        · have HN := Lib.hid (pairsAt_step HP h1 (by rw [HV.out, if_neg (by omega)]))
          have HL := Lib.hid HP.2
          have HO := Lib.hid (add_close xa xb (by omega) a2 (by omega) b2)
          clear HP
          go_wp2_with (at_builtin; refine wpList_append_buf rfl _ _ rfl w.heap.size _ _ rfl (hown'.alloc _) [UInt8.ofNat (16 * xa.toNat + xb.toNat)] wq.heap.size _ _ _ _ _ rfl rfl (heap_alloc_new wq _) (by rw [List.map_cons, List.map_nil, bv, ← HO.out]) (by simp) (by have := HL.out; simp; omega) (by simp; exact Nat.le_succ_of_le hb'.size) ?_; intro v' w2 hown2 hb2)
          have HB2 := hb'.trans (((Below.refl w.heap.size wq).alloc hb'.size _).trans hb2)
          go_wp2
          go_roundw
          case rel => exact ⟨k + 2, _, by omega, by go_num, hown2, HB2, HN.out, by have := HK.out; omega⟩
          case measure => simp [intOf]; omega
    · have hcv := hown.conv
      by_cases hlt : k < s.size
      · have HN := Lib.hid (pairsAt_odd HP (by omega))
        have hm : (s.size : Int) % 2 = 1 := by have := HK.out; omega
        clear HP
        go_wp2
        go_ret2
        exact ⟨⟨_, by rw [HN.out]; rfl, by rw [HN.out]; simp⟩, hb⟩
      · have HN := Lib.hid (pairsAt_end HP hlt)
        have hm : (s.size : Int) % 2 = 0 := by have := HK.out; omega
        clear HP
        go_wp2
        go_ret2
        exact ⟨⟨_, by rw [HN.out]; rfl, by rw [HN.out]; simp⟩, hb⟩

theorem specGetHex_any (s : ByteArray) (w : World) (hs : s.size ≤ 1048576) :
    Calls Try.prog 46 #[.string s] w fun e w' => e = .returned (optText (pairsL lowerL s.data.toList)) ∧ Below w.heap.size w w' := by
  have hc := l01Pairs_any s lowerD w hs rfl
  have hD : lowerD.data.toList = lowerL := rfl
  rw [hD] at hc
  cases hr : pairsL lowerL s.data.toList with
  | none =>
    rw [hr] at hc
    have HC := Lib.hid hc
    clear hc hr hD
    go_enter Try.func46, Try.ntmps46
    go_wp2_with fail
    refine HC.out.mono ?_
    rintro e w' ⟨⟨x, rfl, _⟩, hb⟩
    go_wp2
    go_ret2
    exact ⟨rfl, hb⟩
  | some l =>
    rw [hr] at hc
    have HC := Lib.hid hc
    clear hc hr hD
    go_enter Try.func46, Try.ntmps46
    go_wp2_with fail
    refine HC.out.mono ?_
    rintro e w' ⟨⟨x, rfl, hx⟩, hb⟩
    obtain rfl := hx l rfl
    go_wp2
    go_ret2
    exact ⟨rfl, hb⟩
end Go.Proofs.Ytldfkdkppgammaa

/-
  The identifier of a key in plain words: how it is written, and how both sides read it.
-/
namespace Go.Proofs.Ytldfkdkppgammaa
open Go.RowKit

/-- A byte that stands for itself in an identifier. -/
def idI (z : Int) : Bool := decide ((97 ≤ z ∧ z ≤ 122) ∨ (48 ≤ z ∧ z ≤ 57) ∨ (65 ≤ z ∧ z ≤ 90) ∨ z = 46)
def idB (c : UInt8) : List UInt8 := if idI (c.toNat : Int) = true then [c] else [45, hexC (c.toNat / 16), hexC (c.toNat % 16), 45]
def idL : List UInt8 → List UInt8
  | [] => []
  | c :: l => idB c ++ idL l
def idP : List UInt8 := [83, 80, 68, 88, 82, 101, 102, 45]
/-- The identifier of a key. -/
def idT (l : List UInt8) : List UInt8 := idP ++ idL l
theorem idL_app (a b : List UInt8) : idL (a ++ b) = idL a ++ idL b := by
  induction a with
  | nil => rfl
  | cons c l ih => simp [idL, ih]
theorem idB_len (c : UInt8) : (idB c).length ≤ 4 := by unfold idB; split <;> simp
theorem idL_len (l : List UInt8) : (idL l).length ≤ 4 * l.length := by
  induction l with
  | nil => simp [idL]
  | cons c l ih => have := idB_len c; simp [idL]; omega
theorem idB_safe {c : UInt8} (h : idI (c.toNat : Int) = true) : idB c = [c] := if_pos h
theorem idB_not {c : UInt8} (h : idI (c.toNat : Int) = false) : idB c = [45, hexC (c.toNat / 16), hexC (c.toNat % 16), 45] := if_neg (by rw [h]; simp)
theorem id_step (s : ByteArray) (k : Nat) (h : k < s.size) (x : List UInt8) (hx : idB s[k] = x) : idT (s.data.toList.take (k + 1)) = idT (s.data.toList.take k) ++ x := by
  unfold idT; rw [take_snoc s k h, idL_app]; simp [idL, hx]
theorem id_bound (s : ByteArray) (k : Nat) (hs : s.size ≤ 1048576) (hk : k ≤ s.size) : (idT (s.data.toList.take k)).length + 4 ≤ 16777216 := by
  have h := idL_len (s.data.toList.take k)
  have h2 : (s.data.toList.take k).length ≤ k := List.length_take_le _ _
  unfold idT idP; simp; omega
theorem idT_len (l : List UInt8) : (idT l).length ≤ 4 * l.length + 8 := by
  have h := idL_len l
  unfold idT idP; simp; omega
theorem id_ways (z : Int) : (97 ≤ z ∧ z ≤ 122) ∨ (48 ≤ z ∧ z ≤ 57) ∨ (65 ≤ z ∧ z ≤ 90) ∨ z = 46 ∨ idI z = false := by
  by_cases h : idI z = false
  · simp [h]
  · unfold idI at h; simp at h; omega
theorem id_yes {z : Int} (h : (97 ≤ z ∧ z ≤ 122) ∨ (48 ≤ z ∧ z ≤ 57) ∨ (65 ≤ z ∧ z ≤ 90) ∨ z = 46) : idI z = true := by unfold idI; simp; omega
theorem id_no {z : Int} (h : idI z = false) : ¬ (97 ≤ z ∧ z ≤ 122) ∧ ¬ (48 ≤ z ∧ z ≤ 57) ∧ ¬ (65 ≤ z ∧ z ≤ 90) ∧ ¬ z = 46 := by
  unfold idI at h; simp at h; omega

/-- The digits of a byte are read as that byte. -/
theorem pair_hex (c : UInt8) : pairV lowerL (hexC (c.toNat / 16)) (hexC (c.toNat % 16)) = some c := by
  have h : ∀ a : Nat, a < 16 → Lib.indexByte lowerL (hexC a) = (a : Int) := by decide +kernel
  have hc := c.toNat_lt
  unfold pairV
  rw [h (c.toNat / 16) (by omega), h (c.toNat % 16) (by omega), if_neg (by omega)]
  congr 1
  apply UInt8.toNat_inj.1
  simp
  omega
theorem hexC_dash (a : Nat) (h : a < 16) : ¬ hexC a = 45 := by
  have : ∀ a : Nat, a < 16 → ¬ hexC a = 45 := by decide +kernel
  exact this a h

/-- As spec reads what stands behind the beginning. -/
def idG : List UInt8 → Option (List UInt8)
  | [] => some []
  | c :: l => if c = 45 then
      match l with
      | a :: b :: _ :: r => match pairV lowerL a b with
        | some v => (idG r).map (v :: ·)
        | none => none
      | _ => none
    else (idG l).map (c :: ·)
theorem idG_cons (c : UInt8) (l : List UInt8) : idG (c :: l) = if c = 45 then
      match l with
      | a :: b :: _ :: r => match pairV lowerL a b with
        | some v => (idG r).map (v :: ·)
        | none => none
      | _ => none
    else (idG l).map (c :: ·) := by
  match l with
  | [] => rfl
  | [_] => rfl
  | [_, _] => rfl
  | _ :: _ :: _ :: _ => rfl
theorem idI45 : idI 45 = false := by decide
theorem safe_dash {c : UInt8} (h : idI (c.toNat : Int) = true) : ¬ c = 45 := by
  rintro rfl
  rw [show ((45 : UInt8).toNat : Int) = 45 from rfl, idI45] at h
  cases h
theorem idG_back : ∀ l : List UInt8, idG (idL l) = some l
  | [] => rfl
  | c :: l => by
    have ih := idG_back l
    by_cases h : idI (c.toNat : Int) = true
    · show idG (idB c ++ idL l) = _
      rw [idB_safe h, List.cons_append, List.nil_append, idG_cons, if_neg (safe_dash h), ih]; rfl
    · have h' : idI (c.toNat : Int) = false := by simpa using h
      show idG (idB c ++ idL l) = _
      rw [idB_not h']
      simp only [List.cons_append, List.nil_append]
      rw [idG_cons, if_pos rfl]
      simp only [pair_hex, ih]
      rfl
theorem idG_le : ∀ (n : Nat) (l : List UInt8), l.length ≤ n → ∀ o, idG l = some o → o.length ≤ l.length := by
  intro n
  induction n with
  | zero =>
    intro l h o ho
    have : l = [] := List.eq_nil_of_length_eq_zero (by omega)
    subst this
    simp [idG] at ho
    subst ho
    simp
  | succ n ih =>
    intro l hl o ho
    match l, hl with
    | [], _ => simp [idG] at ho; subst ho; simp
    | c :: l, hl =>
      simp at hl
      rw [idG_cons] at ho
      by_cases hc : c = 45
      · rw [if_pos hc] at ho
        match l, hl, ho with
        | [], _, ho => cases ho
        | [_], _, ho => cases ho
        | [_, _], _, ho => cases ho
        | a :: b :: x :: r, hl, ho =>
          simp only at ho
          cases hp : pairV lowerL a b with
          | none => rw [hp] at ho; cases ho
          | some v =>
            rw [hp] at ho
            simp only [Option.map_eq_some_iff] at ho
            obtain ⟨t, ht, rfl⟩ := ho
            simp at hl
            have := ih r (by omega) t ht
            simp; omega
      · rw [if_neg hc] at ho
        simp only [Option.map_eq_some_iff] at ho
        obtain ⟨t, ht, rfl⟩ := ho
        have := ih l (by omega) t ht
        simp; omega

/-- What stands before the first m, and what behind it. -/
def cutA (m : UInt8) (l : List UInt8) : List UInt8 := if 0 ≤ Lib.indexByte l m then l.take (Lib.indexByte l m).toNat else l
def cutB (m : UInt8) (l : List UInt8) : List UInt8 := if 0 ≤ Lib.indexByte l m then l.drop ((Lib.indexByte l m).toNat + 1) else []
theorem cutA_nil (m : UInt8) : cutA m [] = [] := by unfold cutA; split <;> simp
theorem cutB_nil (m : UInt8) : cutB m [] = [] := by unfold cutB; split <;> simp
theorem cutA_hit (m : UInt8) (l : List UInt8) : cutA m (m :: l) = [] := by unfold cutA; rw [idx_hit l rfl]; simp
theorem cutB_hit (m : UInt8) (l : List UInt8) : cutB m (m :: l) = l := by unfold cutB; rw [idx_hit l rfl]; simp
theorem cutA_miss {m c : UInt8} (l : List UInt8) (h : ¬ c = m) : cutA m (c :: l) = c :: cutA m l := by
  have hg := idx_ge l m
  unfold cutA
  rw [idx_miss l h]
  by_cases h1 : Lib.indexByte l m = -1
  · rw [if_pos h1, if_neg (by omega), if_neg (by omega)]
  · rw [if_neg h1, if_pos (by omega), if_pos (by omega), show (Lib.indexByte l m + 1).toNat = (Lib.indexByte l m).toNat + 1 by omega]; rfl
theorem cutB_miss {m c : UInt8} (l : List UInt8) (h : ¬ c = m) : cutB m (c :: l) = cutB m l := by
  have hg := idx_ge l m
  unfold cutB
  rw [idx_miss l h]
  by_cases h1 : Lib.indexByte l m = -1
  · rw [if_pos h1, if_neg (by omega), if_neg (by omega)]
  · rw [if_neg h1, if_pos (by omega), if_pos (by omega), show (Lib.indexByte l m + 1).toNat + 1 = (Lib.indexByte l m).toNat + 1 + 1 by omega]; rfl
theorem cut_len (m : UInt8) : ∀ l : List UInt8, (cutA m l).length + (cutB m l).length ≤ l.length
  | [] => by rw [cutA_nil, cutB_nil]; simp
  | c :: l => by
    have ih := cut_len m l
    by_cases h : c = m
    · subst h; rw [cutA_hit, cutB_hit]; simp
    · rw [cutA_miss l h, cutB_miss l h]; simp; omega
theorem cutB_lt (m : UInt8) {l : List UInt8} (h : l ≠ []) : (cutB m l).length < l.length := by
  cases l with
  | nil => exact absurd rfl h
  | cons c l =>
    by_cases h : c = m
    · subst h; rw [cutB_hit]; simp
    · rw [cutB_miss l h]; have := cut_len m l; simp; omega
theorem cutB_le (m : UInt8) (l : List UInt8) : (cutB m l).length ≤ l.length := by have := cut_len m l; omega

/-- What impl reads between the dashes, in turn plain and a code; n bounds the rounds. -/
def idK : Nat → List UInt8 → List UInt8
  | 0, _ => []
  | n + 1, l => if l = [] then [] else cutA 45 l ++ ((pairsL lowerL (cutA 45 (cutB 45 l))).getD [] ++ idK n (cutB 45 (cutB 45 l)))
theorem idK_nil (n : Nat) : idK n [] = [] := by cases n <;> simp [idK]
theorem idK_step {n : Nat} {l : List UInt8} (h : l ≠ []) (hn : l.length ≤ n) : idK n l = cutA 45 l ++ ((pairsL lowerL (cutA 45 (cutB 45 l))).getD [] ++ idK (n - 1) (cutB 45 (cutB 45 l))) := by
  cases n with
  | zero => have : l = [] := List.eq_nil_of_length_eq_zero (by omega); exact absurd this h
  | succ n => simp [idK, h]
theorem idK_more : ∀ (n m : Nat) (l : List UInt8), l.length ≤ n → l.length ≤ m → idK n l = idK m l := by
  intro n
  induction n with
  | zero => intro m l h _; have : l = [] := List.eq_nil_of_length_eq_zero (by omega); subst this; rw [idK_nil, idK_nil]
  | succ n ih =>
    intro m l h1 h2
    by_cases h : l = []
    · subst h; rw [idK_nil, idK_nil]
    · rw [idK_step h h1, idK_step h h2]
      have a := cutB_lt 45 h
      have b := cutB_le 45 (cutB 45 l)
      have e : n + 1 - 1 = n := by omega
      rw [e, ih (m - 1) _ (by omega) (by omega)]
theorem pairs_le (D : List UInt8) : ∀ (n : Nat) (l : List UInt8), l.length ≤ n → ((pairsL D l).getD []).length ≤ l.length := by
  intro n
  induction n with
  | zero => intro l h; have : l = [] := List.eq_nil_of_length_eq_zero (by omega); subst this; simp [pairsL]
  | succ n ih =>
    intro l h
    match l, h with
    | [], _ => simp [pairsL]
    | [_], _ => simp [pairsL]
    | a :: b :: r, h =>
      simp at h
      have := ih r (by omega)
      unfold pairsL
      cases pairV D a b with
      | none => simp
      | some c =>
        cases hp : pairsL D r with
        | none => simp
        | some t => rw [hp] at this; simp at this ⊢; omega
theorem idK_len : ∀ (n : Nat) (l : List UInt8), (idK n l).length ≤ l.length := by
  intro n
  induction n with
  | zero => intro l; simp [idK]
  | succ n ih =>
    intro l
    unfold idK
    split
    · simp
    · have a := cut_len 45 l
      have b := cut_len 45 (cutB 45 l)
      have c := pairs_le lowerL _ (cutA 45 (cutB 45 l)) (Nat.le_refl _)
      have d := ih (cutB 45 (cutB 45 l))
      simp; omega
theorem idK_plain {n : Nat} {c : UInt8} {l : List UInt8} (h : ¬ c = 45) (hn : l.length < n) : idK n (c :: l) = c :: idK n l := by
  rw [idK_step (by simp) (by simp; omega), cutA_miss l h, cutB_miss l h]
  by_cases he : l = []
  · subst he; rw [cutA_nil, cutB_nil, cutA_nil, cutB_nil, idK_nil, idK_nil]; simp [pairsL]
  · have a := cutB_lt 45 he
    have b := cutB_le 45 (cutB 45 l)
    rw [idK_step he (by omega)]
    rfl
theorem idK_code {n : Nat} {a b v : UInt8} {l : List UInt8} (ha : ¬ a = 45) (hb : ¬ b = 45) (hv : pairV lowerL a b = some v) (hn : l.length + 4 ≤ n) : idK n (45 :: a :: b :: 45 :: l) = v :: idK n l := by
  rw [idK_step (by simp) (by simp; omega), cutA_hit, cutB_hit, cutA_miss _ ha, cutA_miss _ hb, cutA_hit, cutB_miss _ ha, cutB_miss _ hb, cutB_hit, idK_more (n - 1) n l (by omega) (by omega)]
  simp [pairsL, hv]
theorem idK_back : ∀ (l : List UInt8) (n : Nat), (idL l).length ≤ n → idK n (idL l) = l
  | [], n, _ => idK_nil n
  | c :: l, n, hn => by
    have e : idL (c :: l) = idB c ++ idL l := rfl
    rw [e] at hn ⊢
    by_cases h : idI (c.toNat : Int) = true
    · rw [idB_safe h] at hn ⊢
      simp at hn
      rw [List.cons_append, List.nil_append, idK_plain (safe_dash h) (by omega), idK_back l n (by omega)]
    · have h' : idI (c.toNat : Int) = false := by simpa using h
      rw [idB_not h'] at hn ⊢
      simp at hn
      simp only [List.cons_append, List.nil_append]
      have hc := c.toNat_lt
      rw [idK_code (hexC_dash _ (by omega)) (hexC_dash _ (by omega)) (pair_hex c) (by omega), idK_back l n (by omega)]

/-- What spec hands back for a text. -/
def fromS (l : List UInt8) : List UInt8 := if l.take 8 = idP then match idG (l.drop 8) with
    | some k => if idT k = l then k else []
    | none => []
  else []
/-- What impl hands back, the rest behind the beginning given. -/
def fromI (l r : List UInt8) : List UInt8 := if idT (idK r.length r) = l then idK r.length r else []
theorem idT_take (k : List UInt8) : (idT k).take 8 = idP := rfl
theorem idT_drop (k : List UInt8) : (idT k).drop 8 = idL k := rfl
theorem fromS_yes {l k : List UInt8} (h : idT k = l) : fromS l = k := by
  subst h
  unfold fromS
  rw [if_pos (idT_take k), idT_drop, idG_back]
  simp
theorem fromS_no {l : List UInt8} (h : ∀ k, ¬ idT k = l) : fromS l = [] := by
  unfold fromS
  split
  · cases idG (l.drop 8) with
    | none => rfl
    | some k => simp [h k]
  · rfl
theorem from_same (l r : List UInt8) (hr : ∀ k, idT k = l → r = idL k) : fromI l r = fromS l := by
  by_cases h : ∃ k, idT k = l
  · obtain ⟨k, hk⟩ := h
    have := hr k hk
    subst this
    rw [fromS_yes hk]
    unfold fromI
    rw [idK_back k _ (Nat.le_refl _), if_pos hk]
  · have h' : ∀ k, ¬ idT k = l := fun k hk => h ⟨k, hk⟩
    rw [fromS_no h']
    unfold fromI
    rw [if_neg (h' _)]
theorem index_pre (p r : List UInt8) (hp : p ≠ []) : Lib.index (p ++ r) p = 0 := by
  cases p with
  | nil => exact absurd rfl hp
  | cons a t =>
    show Lib.index (a :: (t ++ r)) (a :: t) = 0
    unfold Lib.index
    have : (a :: t).isPrefixOf (a :: (t ++ r)) = true := by
      rw [List.isPrefixOf_iff_prefix]
      exact ⟨r, rfl⟩
    rw [if_pos this]
theorem cut_pre (p r : List UInt8) (hp : p ≠ []) : (Lib.cut (p ++ r) p).2.1 = r := by
  unfold Lib.cut
  rw [index_pre p r hp]
  simp
theorem cut_id (k : List UInt8) : (Lib.cut (idT k) idP).2.1 = idL k := cut_pre idP (idL k) (by simp [idP])
theorem cut_le (l p : List UInt8) : (Lib.cut l p).2.1.length ≤ l.length := by
  unfold Lib.cut; split <;> simp
end Go.Proofs.Ytldfkdkppgammaa

/-
  impl.GetPercent and spec.GetPercent both return the string whose percent encoding a text is, and whether there is one.
-/
namespace Go.Proofs.Ytldfkdkppgammaa
open Go.RowKit

def upperL : List UInt8 := [48, 49, 50, 51, 52, 53, 54, 55, 56, 57, 65, 66, 67, 68, 69, 70]
def upperD : ByteArray := ⟨#[48, 49, 50, 51, 52, 53, 54, 55, 56, 57, 65, 66, 67, 68, 69, 70]⟩
def safeB (c : UInt8) : Bool := safeI (c.toNat : Int)

/-- As impl reads: no lenience. -/
def pctG : List UInt8 → Option (List UInt8)
  | [] => some []
  | c :: l => if safeB c = true then (pctG l).map (c :: ·) else if c = 37 then
      match l with
      | a :: b :: r => match pairV upperL a b with
        | some v => if safeB v = true then none else (pctG r).map (v :: ·)
        | none => none
      | _ => none
    else none
/-- As spec reads, ahead of its look back. -/
def lenG : List UInt8 → Option (List UInt8)
  | [] => some []
  | c :: l => if c = 37 then
      match l with
      | a :: b :: r => match pairV upperL a b with
        | some v => (lenG r).map (v :: ·)
        | none => none
      | _ => none
    else (lenG l).map (c :: ·)

theorem pctG_cons (c : UInt8) (l : List UInt8) : pctG (c :: l) = if safeB c = true then (pctG l).map (c :: ·) else if c = 37 then
      match l with
      | a :: b :: r => match pairV upperL a b with
        | some v => if safeB v = true then none else (pctG r).map (v :: ·)
        | none => none
      | _ => none
    else none := by
  match l with
  | [] => rfl
  | [_] => rfl
  | _ :: _ :: _ => rfl
theorem lenG_cons (c : UInt8) (l : List UInt8) : lenG (c :: l) = if c = 37 then
      match l with
      | a :: b :: r => match pairV upperL a b with
        | some v => (lenG r).map (v :: ·)
        | none => none
      | _ => none
    else (lenG l).map (c :: ·) := by
  match l with
  | [] => rfl
  | [_] => rfl
  | _ :: _ :: _ => rfl

theorem idx_get (D : List UInt8) (c : UInt8) (h : 0 ≤ Lib.indexByte D c) : D.getD (Lib.indexByte D c).toNat 0 = c := by
  induction D with
  | nil => simp [Lib.indexByte] at h
  | cons b l ih =>
    by_cases hb : b = c
    · rw [idx_hit l hb]; simp [hb]
    · rw [idx_miss l hb] at h ⊢
      by_cases h1 : Lib.indexByte l c = -1
      · simp [h1] at h
      · rw [if_neg h1] at h ⊢
        have := idx_ge l c
        have e : (Lib.indexByte l c + 1).toNat = (Lib.indexByte l c).toNat + 1 := by omega
        rw [e, List.getD_cons_succ]
        exact ih (by omega)
theorem pair_inv {a b v : UInt8} (h : pairV upperL a b = some v) : hexU (v.toNat / 16) = a ∧ hexU (v.toNat % 16) = b := by
  unfold pairV at h
  split at h
  · cases h
  · rename_i hn
    injection h with h
    have ha := idx_get upperL a (by omega)
    have hb := idx_get upperL b (by omega)
    have la := idx_lt upperL a
    have lb := idx_lt upperL b
    have l16 : upperL.length = 16 := rfl
    rw [l16] at la lb
    have hv : v.toNat = 16 * (Lib.indexByte upperL a).toNat + (Lib.indexByte upperL b).toNat := by
      rw [← h]; simp; omega
    have e1 : v.toNat / 16 = (Lib.indexByte upperL a).toNat := by omega
    have e2 : v.toNat % 16 = (Lib.indexByte upperL b).toNat := by omega
    rw [e1, e2]
    exact ⟨ha, hb⟩
theorem safe37 : safeB 37 = false := by decide
theorem pctB_safe {c : UInt8} (h : safeB c = true) : pctB c = [c] := by exact if_pos h
theorem pctB_not {c : UInt8} (h : ¬ safeB c = true) : pctB c = [37, hexU (c.toNat / 16), hexU (c.toNat % 16)] := by exact if_neg h

theorem pct_same : ∀ (n : Nat) (l : List UInt8), l.length ≤ n → pctG l = (lenG l).bind fun o => if pctL o = l then some o else none := by
  intro n
  induction n with
  | zero => intro l h; have : l = [] := List.eq_nil_of_length_eq_zero (by omega); subst this; rfl
  | succ n ih =>
    intro l hl
    match l, hl with
    | [], _ => rfl
    | c :: l, hl =>
      simp at hl
      by_cases hs : safeB c = true
      · have hc : c ≠ 37 := by rintro rfl; rw [safe37] at hs; cases hs
        rw [pctG_cons, if_pos hs, lenG_cons, if_neg hc, ih l (by omega)]
        cases lenG l with
        | none => rfl
        | some o =>
          simp only [Option.bind_some, Option.map_some]
          by_cases ho : pctL o = l
          · rw [if_pos ho, if_pos (by simp [pctL, pctB_safe hs, ho])]; rfl
          · rw [if_neg ho, if_neg (by simp [pctL, pctB_safe hs, ho])]; rfl
      · by_cases hc : c = 37
        · subst hc
          rw [pctG_cons, if_neg hs, if_pos rfl, lenG_cons, if_pos rfl]
          match l, hl with
          | [], _ => rfl
          | [_], _ => rfl
          | a :: b :: r, hl =>
            simp at hl
            simp only
            cases hp : pairV upperL a b with
            | none => rfl
            | some v =>
              simp only
              obtain ⟨e1, e2⟩ := pair_inv hp
              rw [ih r (by omega)]
              by_cases hv : safeB v = true
              · rw [if_pos hv]
                have hv37 : v ≠ 37 := by rintro rfl; rw [safe37] at hv; cases hv
                cases lenG r with
                | none => rfl
                | some o =>
                  simp only [Option.map_some, Option.bind_some]
                  rw [if_neg (by simp [pctL, pctB_safe hv, hv37])]
              · rw [if_neg hv]
                cases lenG r with
                | none => rfl
                | some o =>
                  simp only [Option.map_some, Option.bind_some]
                  by_cases ho : pctL o = r
                  · rw [if_pos ho, if_pos (by simp [pctL, pctB_not hv, e1, e2, ho])]; rfl
                  · rw [if_neg ho, if_neg (by simp [pctL, pctB_not hv, e1, e2, ho])]; rfl
        · rw [pctG_cons, if_neg hs, if_neg hc, lenG_cons, if_neg hc]
          cases lenG l with
          | none => rfl
          | some o =>
            simp only [Option.map_some, Option.bind_some]
            rw [if_neg (by simp [pctL, pctB_not hs]; intro h; exact absurd h.symm hc)]

/-- A reader that has read k bytes of l and has out. -/
def ReadAt (G : List UInt8 → Option (List UInt8)) (l : List UInt8) (k : Nat) (out : List UInt8) : Prop := G l = (G (l.drop k)).map (out ++ ·) ∧ out.length ≤ k
theorem readAt_zero (G : List UInt8 → Option (List UInt8)) (l : List UInt8) : ReadAt G l 0 [] := by unfold ReadAt; simp
theorem readAt_step {G : List UInt8 → Option (List UInt8)} {l : List UInt8} {k m : Nat} {out : List UInt8} {c : UInt8} (h : ReadAt G l k out) (hm : 1 ≤ m) (hg : G (l.drop k) = (G (l.drop (k + m))).map (c :: ·)) : ReadAt G l (k + m) (out ++ [c]) := by
  refine ⟨?_, by have := h.2; simp; omega⟩
  rw [h.1, hg, Option.map_map]
  congr 1
  funext x; simp
theorem readAt_none {G : List UInt8 → Option (List UInt8)} {l : List UInt8} {k : Nat} {out : List UInt8} (h : ReadAt G l k out) (hg : G (l.drop k) = none) : G l = none := by rw [h.1, hg]; rfl
theorem readAt_end {G : List UInt8 → Option (List UInt8)} {l : List UInt8} {k : Nat} {out : List UInt8} (h : ReadAt G l k out) (hg : G (l.drop k) = some []) : G l = some out := by rw [h.1, hg]; simp

theorem pctG_safe {s : ByteArray} {k : Nat} (h : k < s.size) (hs : safeB s[k] = true) : pctG (s.data.toList.drop k) = (pctG (s.data.toList.drop (k + 1))).map (s[k] :: ·) := by
  rw [drop_cons s k h, pctG_cons, if_pos hs]
theorem pctG_other {s : ByteArray} {k : Nat} (h : k < s.size) (hs : ¬ safeB s[k] = true) (hc : ¬ s[k] = 37) : pctG (s.data.toList.drop k) = none := by
  rw [drop_cons s k h, pctG_cons, if_neg hs, if_neg hc]
theorem pctG_bad {s : ByteArray} {k : Nat} (h : k < s.size) (hs : ¬ safeB s[k] = true) (hp : hexAtV upperL s.data.toList (k + 1) = none) : pctG (s.data.toList.drop k) = none := by
  rw [drop_cons s k h, pctG_cons, if_neg hs]
  unfold hexAtV at hp
  split
  · match hd : s.data.toList.drop (k + 1) with
    | [] => rfl
    | [_] => rfl
    | a :: b :: r => rw [hd] at hp; simp only at hp; simp only [hp]
  · rfl
theorem pctG_pair {s : ByteArray} {k : Nat} {v : UInt8} (h : k < s.size) (hs : ¬ safeB s[k] = true) (hc : s[k] = 37) (hp : hexAtV upperL s.data.toList (k + 1) = some v) : pctG (s.data.toList.drop k) = if safeB v = true then none else (pctG (s.data.toList.drop (k + 3))).map (v :: ·) := by
  rw [drop_cons s k h, pctG_cons, if_neg hs, if_pos hc]
  unfold hexAtV at hp
  match hd : s.data.toList.drop (k + 1) with
  | [] => rw [hd] at hp; cases hp
  | [_] => rw [hd] at hp; cases hp
  | a :: b :: r =>
    rw [hd] at hp
    simp only at hp
    simp only [hp]
    have e : s.data.toList.drop (k + 3) = (s.data.toList.drop (k + 1)).drop 2 := by rw [List.drop_drop]
    rw [e, hd]; rfl
theorem hexAtV_some {D : List UInt8} {s : ByteArray} {i : Nat} {v : UInt8} (h : hexAtV D s.data.toList i = some v) : i + 2 ≤ s.size := by
  rcases Nat.lt_or_ge s.size (i + 2) with hlt | hge
  · rw [hexAtV_short D s i hlt] at h; cases h
  · exact hge

set_option maxHeartbeats 2000000 in
theorem implGetPercent_any (s : ByteArray) (w : World) (hs : s.size ≤ 1048576) :
    Calls Try.prog 114 #[.string s] w fun e w' => e = .returned (optText (pctG s.data.toList)) ∧ Below w.heap.size w w' := by
  obtain ⟨i0, hi, hz0, hz1, hz2⟩ := info_parts u8info
  go_enter Try.func114, Try.ntmps114
  go_wp2_with (at_make; refine wpList_make_own _ rfl _ _ 59 rfl w.heap.size 5 i0 (.int .u8 0) 1 Try.underlying59 hi hz0 hz1 .i64 .i64 _ s.size rfl rfl (by omega) (by rw [hz2]; omega) (by unfold maxLen; omega) (Nat.le_refl _) ?_; intro w1 hown1 hg1)
  have hb1 : Below w.heap.size w w1 := (Below.refl _ _).grown hg1 (Nat.le_refl _) (by simp)
  go_loopw [4, 5, 6, 7, 8] (fun v n _ _ _ wr => ∃ (k : Nat) (out : List UInt8), k ≤ s.size ∧ n = .int .i64 k ∧ Buf wr w.heap.size v out ∧ Below w.heap.size w wr ∧ ReadAt pctG s.data.toList k out) (fun _ n _ _ _ _ => s.size - (intOf n).toNat)
  case atStart => exact ⟨0, [], Nat.zero_le _, rfl, hown1, hb1, readAt_zero _ _⟩
  case round =>
    obtain ⟨k, out, hk, rfl, hown, hb, HP⟩ := hrel
    by_cases hlt : k < s.size
    · have HL := Lib.hid HP.2
      by_cases hsf : safeB s[k] = true
      · have HN := Lib.hid (readAt_step HP (by omega) (pctG_safe hlt hsf))
        have HS : Hid (safeI (s[k].toNat : Int) = true) := Lib.hid hsf
        clear HP hsf
        go_wp2_with fail
        refine (unescaped_any _ _ (byte_lt s[k]).2 (byte_lt s[k]).1).mono ?_
        rw [HS.out]
        rintro e w' ⟨rfl, rfl⟩
        go_wp2_with (at_builtin; refine wpList_append_buf rfl _ _ rfl w.heap.size _ _ rfl (hown.alloc _) [s[k]] wr.heap.size _ _ _ _ _ rfl rfl (heap_alloc_new wr _) (by simp [bv]) (by simp) (by have := HL.out; simp; omega) (by simp; exact Nat.le_succ_of_le hb.size) ?_; intro v' w2 hown2 hb2)
        have HB := hb.trans (((Below.refl w.heap.size wr).alloc hb.size _).trans hb2)
        go_wp2
        go_roundw
        case rel => exact ⟨k + 1, _, by omega, by go_num, hown2, HB, HN.out⟩
        case measure => simp [intOf]; omega
      · have hcall := hexAt_any s upperD (k + 1) wr hs (by omega) rfl
        have hD : upperD.data.toList = upperL := rfl
        rw [hD] at hcall
        have hq : (((k + 1 : Nat) : Int)) = (k : Int) + 1 := by omega
        rw [hq] at hcall
        have HS : Hid (safeI (s[k].toNat : Int) = false) := Lib.hid (by simpa [safeB] using hsf)
        by_cases hc : s[k] = 37
        · have hne : ((s[k].toNat : Int) != 37) = false := by rw [hc]; rfl
          cases hpv : hexAtV upperL s.data.toList (k + 1) with
          | none =>
            rw [hpv] at hcall
            have HN := Lib.hid (readAt_none HP (pctG_bad hlt hsf hpv))
            have HC := Lib.hid hcall
            clear hcall hpv HP hsf hc hq hD
            go_wp2_with fail
            refine (unescaped_any _ _ (byte_lt s[k]).2 (byte_lt s[k]).1).mono ?_
            rw [HS.out]
            rintro e w' ⟨rfl, rfl⟩
            go_wp2_with fail
            refine HC.out.mono ?_
            rintro e w' ⟨rfl, rfl⟩
            unfold optByte
            go_wp2_with (go_at_call 112; fail)
            go_ret2
            exact ⟨by rw [HN.out]; rfl, hb⟩
          | some v =>
            rw [hpv] at hcall
            have hpp := pctG_pair hlt hsf hc hpv
            have hv2 := hexAtV_some hpv
            by_cases hsv : safeB v = true
            · have HN := Lib.hid (readAt_none HP (by rw [hpp, if_pos hsv]))
              have HC := Lib.hid hcall
              have HV : Hid (safeI (v.toNat : Int) = true) := Lib.hid hsv
              clear hcall hpv HP hsf hc hpp hsv hq hD
              go_wp2_with fail
              refine (unescaped_any _ _ (byte_lt s[k]).2 (byte_lt s[k]).1).mono ?_
              rw [HS.out]
              rintro e w' ⟨rfl, rfl⟩
              go_wp2_with fail
              refine HC.out.mono ?_
              rintro e w' ⟨rfl, rfl⟩
              unfold optByte
              go_wp2_with fail
              refine (unescaped_any _ _ (byte_lt v).2 (byte_lt v).1).mono ?_
              rw [HV.out]
              rintro e w' ⟨rfl, rfl⟩
              go_wp2_with fail
              go_ret2
              exact ⟨by rw [HN.out]; rfl, hb⟩
            · have HN := Lib.hid (readAt_step (m := 3) (c := v) HP (by omega) (by rw [hpp, if_neg hsv]))
              have HC := Lib.hid hcall
              have HV : Hid (safeI (v.toNat : Int) = false) := Lib.hid (by simpa [safeB] using hsv)
              clear hcall hpv HP hsf hc hpp hsv hq hD
              go_wp2_with fail
              refine (unescaped_any _ _ (byte_lt s[k]).2 (byte_lt s[k]).1).mono ?_
              rw [HS.out]
              rintro e w' ⟨rfl, rfl⟩
              go_wp2_with fail
              refine HC.out.mono ?_
              rintro e w' ⟨rfl, rfl⟩
              unfold optByte
              go_wp2_with fail
              refine (unescaped_any _ _ (byte_lt v).2 (byte_lt v).1).mono ?_
              rw [HV.out]
              rintro e w' ⟨rfl, rfl⟩
              go_wp2_with (at_builtin; refine wpList_append_buf rfl _ _ rfl w.heap.size _ _ rfl (hown.alloc _) [v] wr.heap.size _ _ _ _ _ rfl rfl (heap_alloc_new wr _) (by simp [bv]) (by simp) (by have := HL.out; simp; omega) (by simp; exact Nat.le_succ_of_le hb.size) ?_; intro v' w2 hown2 hb2)
              have HB := hb.trans (((Below.refl w.heap.size wr).alloc hb.size _).trans hb2)
              go_wp2
              go_roundw
              case rel => exact ⟨k + 3, _, by omega, by go_num, hown2, HB, HN.out⟩
              case measure => simp [intOf]; omega
        · have hne : ((s[k].toNat : Int) != 37) = true := int_bne_true (fun h => hc (UInt8.toNat_inj.1 (by show _ = (37 : Nat); omega)))
          have HN := Lib.hid (readAt_none HP (pctG_other hlt hsf hc))
          generalize hexAtV upperL s.data.toList (k + 1) = r at hcall
          have HC := Lib.hid hcall
          clear hcall HP hsf hc hq hD
          cases r with
          | none =>
            go_wp2_with fail
            refine (unescaped_any _ _ (byte_lt s[k]).2 (byte_lt s[k]).1).mono ?_
            rw [HS.out]
            rintro e w' ⟨rfl, rfl⟩
            go_wp2_with fail
            refine HC.out.mono ?_
            rintro e w' ⟨rfl, rfl⟩
            unfold optByte
            go_wp2_with (go_at_call 112; fail)
            go_ret2
            exact ⟨by rw [HN.out]; rfl, hb⟩
          | some v =>
            go_wp2_with fail
            refine (unescaped_any _ _ (byte_lt s[k]).2 (byte_lt s[k]).1).mono ?_
            rw [HS.out]
            rintro e w' ⟨rfl, rfl⟩
            go_wp2_with fail
            refine HC.out.mono ?_
            rintro e w' ⟨rfl, rfl⟩
            unfold optByte
            go_wp2_with (go_at_call 112; fail)
            go_ret2
            exact ⟨by rw [HN.out]; rfl, hb⟩
    · have hcv := hown.conv
      have HN := Lib.hid (readAt_end HP (by rw [drop_end s k hlt]; rfl))
      clear HP
      go_wp2
      go_ret2
      exact ⟨by rw [HN.out]; rfl, hb⟩
end Go.Proofs.Ytldfkdkppgammaa

/-
  spec.GetPercent returns the string whose percent encoding a text is, and whether there is one.
-/
namespace Go.Proofs.Ytldfkdkppgammaa
open Go.RowKit

theorem lenG_plain {s : ByteArray} {k : Nat} (h : k < s.size) (hc : ¬ s[k] = 37) : lenG (s.data.toList.drop k) = (lenG (s.data.toList.drop (k + 1))).map (s[k] :: ·) := by
  rw [drop_cons s k h, lenG_cons, if_neg hc]
theorem lenG_short {s : ByteArray} {k : Nat} (h : k < s.size) (hc : s[k] = 37) (h2 : s.size < k + 3) : lenG (s.data.toList.drop k) = none := by
  rw [drop_cons s k h, lenG_cons, if_pos hc]
  have hl : (s.data.toList.drop (k + 1)).length < 2 := by simp; omega
  match hd : s.data.toList.drop (k + 1) with
  | [] => rfl
  | [_] => rfl
  | a :: b :: r => rw [hd] at hl; simp at hl; omega
theorem lenG_pair {s : ByteArray} {k : Nat} (h : k + 2 < s.size) (hc : s[k] = 37) : lenG (s.data.toList.drop k) = match pairV upperL s[k + 1] s[k + 2] with
    | some v => (lenG (s.data.toList.drop (k + 3))).map (v :: ·)
    | none => none := by
  rw [drop_cons s k (by omega), lenG_cons, if_pos hc, drop_cons s (k + 1) (by omega), drop_cons s (k + 2) h]
  rfl

def pctS (l : List UInt8) : Option (List UInt8) := (lenG l).bind fun o => if pctL o = l then some o else none

set_option maxHeartbeats 2000000 in
theorem specGetPercent_any (s : ByteArray) (w : World) (hs : s.size ≤ 1048576) :
    Calls Try.prog 80 #[.string s] w fun e w' => e = .returned (optText (pctS s.data.toList)) ∧ Below w.heap.size w w' := by
  go_enter Try.func80, Try.ntmps80
  go_wp2
  go_loopw [4, 5, 6, 7] (fun o n _ _ wr => ∃ (k : Nat) (out : List UInt8), k ≤ s.size ∧ n = .int .i64 k ∧ o = .string ⟨out.toArray⟩ ∧ Below w.heap.size w wr ∧ ReadAt lenG s.data.toList k out) (fun _ n _ _ _ => s.size - (intOf n).toNat)
  case atStart => exact ⟨0, [], Nat.zero_le _, rfl, rfl, Below.refl _ _, readAt_zero _ _⟩
  case round =>
    obtain ⟨k, out, hk, rfl, rfl, hb, HP⟩ := hrel
    have hol := HP.2
    by_cases hlt : k < s.size
    · by_cases hc : s[k] = 37
      · have hne : ((s[k].toNat : Int) != 37) = false := by rw [hc]; rfl
        by_cases h3 : s.size < k + 3
        · have HN : Hid (pctS s.data.toList = none) := Lib.hid (by unfold pctS; rw [readAt_none HP (lenG_short hlt hc h3)]; rfl)
          have t3 : (s.size : Int) - 3 < (k : Int) := by omega
          clear HP hc
          go_wp2_with fail
          go_ret2
          exact ⟨by rw [HN.out]; rfl, hb⟩
        · have t3 : ¬ (s.size : Int) - 3 < (k : Int) := by omega
          have hk2 : k + 2 < s.size := by omega
          have hcall := l01Pairs_any ⟨#[s[k + 1], s[k + 2]]⟩ upperD wr (by show 2 ≤ 1048576; omega) rfl
          have hD : upperD.data.toList = upperL := rfl
          rw [hD] at hcall
          have he := slice_str s _ (k + 1) (k + 3) ((k : Int) + 1) ((k : Int) + 3) (by omega) (by omega) (by omega) (by omega) (extract_two s k hk2)
          have hlp := lenG_pair hk2 hc
          cases hpv : pairV upperL s[k + 1] s[k + 2] with
          | none =>
            have HN : Hid (pctS s.data.toList = none) := Lib.hid (by unfold pctS; rw [readAt_none HP (by rw [hlp, hpv])]; rfl)
            have hpl : pairsL upperL [s[k + 1], s[k + 2]] = none := by simp [pairsL, hpv]
            have HC : Hid (Calls Try.prog 84 #[.string ⟨#[s[k + 1], s[k + 2]]⟩, .string upperD] wr (PairsEnd none wr)) := Lib.hid (by rw [← hpl]; exact hcall)
            clear HP hc hcall hlp hpv hpl hD
            go_wp2_with fail
            refine HC.out.mono ?_
            rintro e w1 ⟨⟨x, rfl, _⟩, hb1⟩
            go_wp2_with fail
            go_ret2
            exact ⟨by rw [HN.out]; rfl, hb.trans (hb1.mono hb.size)⟩
          | some v =>
            have HN := Lib.hid (readAt_step (m := 3) (c := v) HP (by omega) (by rw [hlp, hpv]))
            have hpl : pairsL upperL [s[k + 1], s[k + 2]] = some [v] := by simp [pairsL, hpv]
            have HC : Hid (Calls Try.prog 84 #[.string ⟨#[s[k + 1], s[k + 2]]⟩, .string upperD] wr (PairsEnd (some [v]) wr)) := Lib.hid (by rw [← hpl]; exact hcall)
            clear HP hc hcall hlp hpv hpl hD
            go_wp2_with fail
            refine HC.out.mono ?_
            rintro e w1 ⟨⟨x, rfl, hx⟩, hb1⟩
            obtain rfl := hx [v] rfl
            clear hx
            have HB := hb.trans (hb1.mono hb.size)
            go_wp2_with fail
            go_roundw
            case rel => exact ⟨k + 3, _, by omega, by go_num, str_add out [v], HB, HN.out⟩
            case measure => simp [intOf]; omega
      · have hne : ((s[k].toNat : Int) != 37) = true := int_bne_true (fun h => hc (UInt8.toNat_inj.1 (by show _ = (37 : Nat); omega)))
        have HN := Lib.hid (readAt_step HP (by omega) (lenG_plain hlt hc))
        have he := slice_str s _ k (k + 1) (k : Int) ((k : Int) + 1) rfl (by omega) (by omega) (by omega) (extract_one s k hlt)
        clear HP hc
        go_wp2_with fail
        go_roundw
        case rel => exact ⟨k + 1, _, by omega, by go_num, str_add out [s[k]], hb, HN.out⟩
        case measure => simp [intOf]; omega
    · have hG := readAt_end HP (by rw [drop_end s k hlt]; rfl)
      have hcall := specPutPercent_any ⟨out.toArray⟩ wr (by show out.toArray.size ≤ _; simp; omega)
      have HC := Lib.hid hcall
      clear HP hcall
      by_cases hp : pctL out = s.data.toList
      · have HN : Hid (pctS s.data.toList = some out) := Lib.hid (by unfold pctS; rw [hG]; simp [hp])
        have e2 : (pctL out == s.toList) = true := by rw [ByteArray.toList_eq, hp]; simp
        clear hG hp
        go_wp2_with fail
        refine HC.out.mono ?_
        rintro e w1 ⟨rfl, hb1⟩
        go_wp2_with fail
        go_ret2
        exact ⟨by rw [HN.out]; rfl, hb.trans (hb1.mono hb.size)⟩
      · have HN : Hid (pctS s.data.toList = none) := Lib.hid (by unfold pctS; rw [hG]; simp [hp])
        have e2 : (pctL out == s.toList) = false := by rw [ByteArray.toList_eq]; simpa using hp
        clear hG hp
        go_wp2_with fail
        refine HC.out.mono ?_
        rintro e w1 ⟨rfl, hb1⟩
        go_wp2_with fail
        go_ret2
        exact ⟨by rw [HN.out]; rfl, hb.trans (hb1.mono hb.size)⟩
end Go.Proofs.Ytldfkdkppgammaa

/-
  The last place of a byte in a text; spec.SplitKey.
-/
namespace Go.Proofs.Ytldfkdkppgammaa
open Go.RowKit

/-- The last place of c among the first k bytes of l, or -1. -/
def lastK (l : List UInt8) (c : UInt8) : Nat → Int
  | 0 => -1
  | k + 1 => if l.getD k 0 = c then (k : Int) else lastK l c k
theorem lastK_bd (l : List UInt8) (c : UInt8) : ∀ k, -1 ≤ lastK l c k ∧ lastK l c k < k
  | 0 => by simp [lastK]
  | k + 1 => by
    have := lastK_bd l c k
    unfold lastK
    split <;> omega
theorem lastK_take (l : List UInt8) (c : UInt8) (n : Nat) : ∀ k, k ≤ n → k ≤ l.length → lastK (l.take n) c k = lastK l c k
  | 0, _, _ => rfl
  | k + 1, h, hl => by
    unfold lastK
    rw [lastK_take l c n k (by omega) (by omega)]
    have : (l.take n).getD k 0 = l.getD k 0 := by simp [List.getD_eq_getElem?_getD, List.getElem?_take_of_lt (show k < n by omega)]
    rw [this]
theorem getD_byte (s : ByteArray) (k : Nat) (h : k < s.size) : s.data.toList.getD k 0 = s[k] := by
  rw [List.getD_eq_getElem?_getD, List.getElem?_eq_getElem (by simpa using h)]; rfl
theorem lastK_hit {s : ByteArray} {c : UInt8} {k : Nat} (h : k < s.size) (hc : s[k] = c) : lastK s.data.toList c (k + 1) = k := by
  unfold lastK; rw [getD_byte s k h, if_pos hc]
theorem lastK_miss {s : ByteArray} {c : UInt8} {k : Nat} (h : k < s.size) (hc : ¬ s[k] = c) : lastK s.data.toList c (k + 1) = lastK s.data.toList c k := by
  conv => lhs; unfold lastK
  rw [getD_byte s k h, if_neg hc]

/-- The two parts of a key. -/
def keyA (s : ByteArray) : ByteArray := if lastK s.data.toList 64 s.size < 0 then ⟨#[]⟩ else s.extract 0 (lastK s.data.toList 64 s.size).toNat
def keyB (s : ByteArray) : ByteArray := if lastK s.data.toList 64 s.size < 0 then ⟨#[]⟩ else s.extract ((lastK s.data.toList 64 s.size).toNat + 1) s.size
theorem slice_upto (s r : ByteArray) (b : Nat) (zb : Int) (hb : zb = (b : Int)) (h2 : b ≤ s.size) (hr : s.extract 0 b = r) (w : World) :
    (Instr.slice 9 (.string s) none (some (.int .i64 zb)) none).run Try.prog w = .ok (.string r) w := by
  subst hb hr
  have h0 : (0 : Int) ≤ (b : Int) := by omega
  have h3 : (b : Int) ≤ (s.size : Int) := by omega
  have h := run_slice_string_h (P := Try.prog) w 9 s Try.underlying9 .i64 (b : Int) h0 h3
  simpa using h
theorem keyA_hit {s : ByteArray} {k : Nat} (h : lastK s.data.toList 64 s.size = (k : Int)) : keyA s = s.extract 0 k := by unfold keyA; rw [h, if_neg (by omega)]; rfl
theorem keyB_hit {s : ByteArray} {k : Nat} (h : lastK s.data.toList 64 s.size = (k : Int)) : keyB s = s.extract (k + 1) s.size := by unfold keyB; rw [h, if_neg (by omega)]; rfl
theorem keyA_miss {s : ByteArray} (h : lastK s.data.toList 64 s.size < 0) : keyA s = ⟨#[]⟩ := by unfold keyA; rw [if_pos h]
theorem keyB_miss {s : ByteArray} (h : lastK s.data.toList 64 s.size < 0) : keyB s = ⟨#[]⟩ := by unfold keyB; rw [if_pos h]

set_option maxRecDepth 100000 in
set_option maxHeartbeats 1000000 in
theorem specSplitKey_any (s : ByteArray) (w : World) (hs : s.size ≤ 1048576) :
    Calls Try.prog 79 #[.string s] w fun e w' => e = .returned (.tuple #[.string (keyA s), .string (keyB s)]) ∧ Below w.heap.size w w' := by
  obtain ⟨x, HA⟩ : ∃ x, Hid (keyA s = x) := ⟨_, Lib.hid rfl⟩
  obtain ⟨y, HB⟩ : ∃ y, Hid (keyB s = y) := ⟨_, Lib.hid rfl⟩
  rw [HA.out, HB.out]
  go_enter Try.func79, Try.ntmps79
  go_wp2
  go_loop [4] (fun n => ∃ k : Nat, k ≤ s.size ∧ n = .int .i64 ((k : Int) - 1) ∧ Hid (lastK s.data.toList 64 s.size = lastK s.data.toList 64 k)) (fun n => (intOf n + 1).toNat)
  case atStart => exact ⟨s.size, Nat.le_refl _, rfl, Lib.hid rfl⟩
  case round =>
    obtain ⟨k, hk, rfl, H⟩ := hrel
    rcases k with _ | k
    · have HX : Hid (⟨#[]⟩ = x ∧ ⟨#[]⟩ = y) := Lib.hid ⟨by rw [← HA.out]; exact (keyA_miss (by rw [H.out]; show (-1 : Int) < 0; omega)).symm, by rw [← HB.out]; exact (keyB_miss (by rw [H.out]; show (-1 : Int) < 0; omega)).symm⟩
      obtain ⟨rfl, rfl⟩ := HX.out
      go_wp2
      go_ret2
      exact ⟨rfl, Below.refl _ _⟩
    · have hlt : k < s.size := by omega
      rw [show ((k + 1 : Nat) : Int) - 1 = (k : Int) from by omega]
      by_cases hc : s[k] = 64
      · have hb : ((s[k].toNat : Int) == 64) = true := by rw [hc]; rfl
        have hh : lastK s.data.toList 64 s.size = (k : Int) := by rw [H.out, lastK_hit hlt hc]
        have HX : Hid (s.extract 0 k = x ∧ s.extract (k + 1) s.size = y) := Lib.hid ⟨by rw [← HA.out]; exact (keyA_hit hh).symm, by rw [← HB.out]; exact (keyB_hit hh).symm⟩
        obtain ⟨rfl, rfl⟩ := HX.out
        have s1 := fun W => slice_upto s (s.extract 0 k) k (k : Int) rfl (by omega) rfl W
        have s2 := fun W => slice_from s (s.extract (k + 1) s.size) (k + 1) ((k : Int) + 1) (by omega) (by omega) rfl W
        have k0 : (0 : Int) ≤ (k : Int) := by omega
        have k1 : (k : Int) < (s.size : Int) := by omega
        have kw : IntKind.i64.wrap ((k : Int) + 1) = (k : Int) + 1 := IntWalk.i64_in _ (by omega)
        clear hc H hh HX
        go_wp2
        go_region
        go_wp2
        go_ret2
        exact ⟨rfl, below_drewN _ _ 1⟩
      · have hb : ((s[k].toNat : Int) == 64) = false := int_beq_false (fun h => hc (UInt8.toNat_inj.1 (by show s[k].toNat = 64; omega)))
        have HH : Hid (lastK s.data.toList 64 s.size = lastK s.data.toList 64 k) := Lib.hid (by rw [H.out, lastK_miss hlt hc])
        clear hc H
        go_wp2
        go_round
        case rel => exact ⟨k, by omega, rfl, HH⟩
        case measure => simp [intOf]; try omega
end Go.Proofs.Ytldfkdkppgammaa

/-
  spec.PutBase64 returns four signs for every three bytes.
-/
namespace Go.Proofs.Ytldfkdkppgammaa
open Go.RowKit

def sgL : List UInt8 := [65, 66, 67, 68, 69, 70, 71, 72, 73, 74, 75, 76, 77, 78, 79, 80, 81, 82, 83, 84, 85, 86, 87, 88, 89, 90, 97, 98, 99, 100, 101, 102, 103, 104, 105, 106, 107, 108, 109, 110, 111, 112, 113, 114, 115, 116, 117, 118, 119, 120, 121, 122, 48, 49, 50, 51, 52, 53, 54, 55, 56, 57, 43, 47]
/-- The n-th sign. -/
def sg (n : Nat) : UInt8 := sgL.getD n 0
/-- The number of the first j bytes from i on, zeros where there are none. -/
def pv (l : List UInt8) (i : Nat) : Nat → Nat
  | 0 => 0
  | j + 1 => pv l i j * 256 + (l.getD (i + j) 0).toNat
theorem pv_lt (l : List UInt8) (i j : Nat) : pv l i j < 256 ^ j := by
  induction j with
  | zero => simp [pv]
  | succ j ih =>
    have := (l.getD (i + j) 0).toNat_lt
    simp only [pv, Nat.pow_succ]
    omega
/-- The j-th sign of a group. -/
def ch (n m j : Nat) : UInt8 := if m < j then 61 else sg (n / 2 ^ (18 - 6 * j) % 64)
def grp (n m : Nat) : List UInt8 := [ch n m 0, ch n m 1, ch n m 2, ch n m 3]
/-- The signs of the first q groups. -/
def b64G (l : List UInt8) (q : Nat) : List UInt8 := (List.range q).flatMap fun g => grp (pv l (3 * g) 3) (min 3 (l.length - 3 * g))
theorem b64G_succ (l : List UInt8) (q : Nat) : b64G l (q + 1) = b64G l q ++ grp (pv l (3 * q) 3) (min 3 (l.length - 3 * q)) := by
  unfold b64G
  rw [List.range_succ, List.flatMap_append]
  simp
theorem b64G_len (l : List UInt8) (q : Nat) : (b64G l q).length = 4 * q := by
  induction q with
  | zero => rfl
  | succ q ih => rw [b64G_succ, List.length_append, ih]; simp [grp]; omega
def b64L (l : List UInt8) : List UInt8 := b64G l ((l.length + 2) / 3)

theorem idx_sg (n : Nat) (hn : n < 64) (z : Int) (hz : z = (n : Int)) (k : IntKind) (w : World) : (Instr.index 9 (.string ⟨sgL.toArray⟩) (.int k z)).run Try.prog w = .ok (.int .u8 ((sg n).toNat : Int)) w := by
  subst hz
  have hs : (⟨sgL.toArray⟩ : ByteArray).size = 64 := rfl
  rw [run_index_string (P := Try.prog) w 9 ⟨sgL.toArray⟩ k (n : Int) Try.underlying9, dif_pos ⟨by omega, by rw [hs]; omega⟩]
  congr 3
  have hl : sgL.length = 64 := rfl
  have : sg n = sgL[n]'(by omega) := by
    have hn' : n < sgL.length := by omega
    unfold sg; simp only [List.getD, List.getElem?_eq_getElem hn', Option.getD_some]
  rw [this]
  rfl
theorem i64_and63 (x : Int) (h0 : 0 ≤ x) (h1 : x < 4294967296) : bits .and .i64 x 63 = x % 64 := bits_mask .i64 32 (by decide) (fun n h0 h1 => IntWalk.i64_in n (by omega)) 6 (by decide) x h0 h1
theorem byteAt (s : ByteArray) (k : Nat) (h : k < s.size) : s.data.toList.getD k 0 = s[k] := by
  simp [List.getD, h]; rfl

set_option maxRecDepth 100000 in
set_option maxHeartbeats 2000000 in
theorem specPutBase64_any (s : ByteArray) (w : World) (hs : s.size ≤ 1048576) :
    Calls Try.prog 50 #[.string s] w fun e w' => e = .returned (.string ⟨(b64L s.data.toList).toArray⟩) ∧ Below w.heap.size w w' := by
  go_enter Try.func50, Try.ntmps50
  go_wp2
  go_loopw [3, 5] (fun v i wr => ∃ q I : Nat, I = 3 * q ∧ q ≤ (s.size + 2) / 3 ∧ i = .int .i64 (I : Int) ∧ Buf wr w.heap.size v (b64G s.data.toList q) ∧ Below w.heap.size w wr) (fun _ i _ => s.size + 2 - (intOf i).toNat)
  case atStart => exact ⟨0, 0, rfl, Nat.zero_le _, rfl, Buf.empty w _ (Nat.le_refl _), (Below.refl _ _).alloc (Nat.le_refl _) _⟩
  case round =>
    obtain ⟨q, I, hIq, hq, rfl, hown, hb⟩ := hrel
    have HQ := Lib.hid hIq
    have HQ2 := Lib.hid hq
    have hI0 : I ≤ 1048600 := by omega
    by_cases hlt : I < s.size
    · clear hIq hq
      have k1 : (I : Int) < (s.size : Int) := by omega
      go_wp2_with fail
      go_loop [6, 7, 8] (fun n m k => ∃ j K : Nat, j ≤ 3 ∧ K = I + j ∧ k = .int .i64 (K : Int) ∧ n = .int .i64 ((pv s.data.toList I j : Nat) : Int) ∧ m = .int .i64 ((min j (s.size - I) : Nat) : Int)) (fun _ _ k => s.size + 3 - (intOf k).toNat)
      case atStart => exact ⟨0, I, Nat.zero_le _, rfl, rfl, rfl, rfl⟩
      case round =>
        obtain ⟨j, K, hj, hKj, rfl, rfl, rfl⟩ := hrel
        have hp := pv_lt s.data.toList I j
        by_cases hj3 : j < 3
        · have hpj : pv s.data.toList I j < 65536 := Nat.lt_of_lt_of_le hp (by
            have : (256 : Nat) ^ j ≤ 256 ^ 2 := Nat.pow_le_pow_right (by omega) (by omega)
            simpa using this)
          clear hp
          have c1 : (K : Int) < (I : Int) + 3 := by omega
          by_cases hk : K < s.size
          · have c2 : (K : Int) < (s.size : Int) := by omega
            have c0 : (0 : Int) ≤ (K : Int) := by omega
            have HV : Hid (pv s.data.toList I (j + 1) = pv s.data.toList I j * 256 + s[K].toNat) := Lib.hid (by rw [pv, ← hKj, byteAt s _ hk])
            have hbt := s[K].toNat_lt
            have HM : Hid (min (j + 1) (s.size - I) = j + 1) := Lib.hid (by omega)
            have HK := Lib.hid hKj
            rw [show min j (s.size - I) = j by omega]
            clear hKj
            go_wp2_with fail
            go_round
            case rel => exact ⟨j + 1, K + 1, by omega, by rw [HK.out]; omega, by go_num, by rw [HV.out]; go_num, by rw [HM.out]; go_num⟩
            case measure => simp [intOf]; omega
          · have c2 : ¬ (K : Int) < (s.size : Int) := by omega
            have HV : Hid (pv s.data.toList I (j + 1) = pv s.data.toList I j * 256) := Lib.hid (by
              have : s.data.toList[I + j]? = none := List.getElem?_eq_none (by simp; omega)
              rw [pv, List.getD, this]; rfl)
            have HM : Hid (min (j + 1) (s.size - I) = min j (s.size - I)) := Lib.hid (by omega)
            have HK := Lib.hid hKj
            have hKI : K ≤ I + 3 := by omega
            clear hKj
            go_wp2_with fail
            go_round
            case rel => exact ⟨j + 1, K + 1, by omega, by rw [HK.out]; omega, by go_num, by rw [HV.out]; go_num, by rw [HM.out]⟩
            case measure => simp [intOf]; omega
        · obtain rfl : j = 3 := by omega
          clear hp hj hj3
          have c1 : ¬ (K : Int) < (I : Int) + 3 := by omega
          have hN := pv_lt s.data.toList I 3
          have HNX : Hid (b64G s.data.toList (q + 1) = b64G s.data.toList q ++ grp (pv s.data.toList I 3) (min 3 (s.size - I))) := Lib.hid (by
            have hlen : s.data.toList.length = s.size := by simp
            rw [b64G_succ, hlen, HQ.out])
          have HLN := Lib.hid (b64G_len s.data.toList q)
          obtain ⟨N, hNE⟩ : ∃ N, N = pv s.data.toList I 3 := ⟨_, rfl⟩
          obtain ⟨M, hME⟩ : ∃ M, M = min 3 (s.size - I) := ⟨_, rfl⟩
          rw [← hNE] at hN HNX ⊢
          rw [← hME] at HNX ⊢
          have hM3 : M ≤ 3 := by omega
          have hM1 : 1 ≤ M := by omega
          have hN3 : N < 16777216 := hN
          clear hNE hME hN hKj
          go_wp2_with fail
          go_loopw [3, 9] (fun v k wr => ∃ j : Nat, j ≤ 4 ∧ k = .int .i64 j ∧ Buf wr w.heap.size v (b64G s.data.toList q ++ (grp N M).take j) ∧ Below w.heap.size w wr) (fun _ k _ => 4 - (intOf k).toNat)
          case atStart => exact ⟨0, Nat.zero_le _, rfl, by simpa using hown, hb⟩
          case round =>
            obtain ⟨j, hj, rfl, hown2, hb2⟩ := hrel
            by_cases hj4 : j < 4
            · have HT : Hid ((grp N M).take (j + 1) = (grp N M).take j ++ [ch N M j]) := Lib.hid (by
                obtain rfl | rfl | rfl | rfl : j = 0 ∨ j = 1 ∨ j = 2 ∨ j = 3 := by omega
                all_goals rfl)
              have HLL : Hid ((b64G s.data.toList q ++ (grp N M).take j).length + 1 ≤ 16777216) := Lib.hid (by
                have h1 := HLN.out
                have h2 := HQ2.out
                have h3 : ((grp N M).take j).length ≤ 4 := by simp [grp]; omega
                rw [List.length_append]; omega)
              have HBS : Hid (w.heap.size ≤ wr.heap.size) := Lib.hid hb2.size
              clear hown hb
              by_cases hjm : M < j
              · have d1 : (M : Int) < (j : Int) := by omega
                have HC : Hid (ch N M j = 61) := Lib.hid (by unfold ch; rw [if_pos hjm])
                go_wp2_with (at_builtin; refine wpList_append_buf rfl _ _ rfl w.heap.size _ _ rfl (hown2.alloc _) [61] wr.heap.size _ _ _ _ _ rfl rfl (heap_alloc_new wr _) rfl (by simp) HLL.out (by simp; exact Nat.le_succ_of_le HBS.out) ?_; intro v' w3 hown3 hb3)
                have HB : Below w.heap.size w w3 := hb2.trans (((Below.refl w.heap.size wr).alloc HBS.out _).trans hb3)
                rw [← HC.out, List.append_assoc, ← HT.out] at hown3
                go_wp2_with fail
                go_roundw
                case rel => exact ⟨j + 1, by omega, by go_num, hown3, HB⟩
                case measure => simp [intOf]; omega
              · have d1 : ¬ (M : Int) < (j : Int) := by omega
                obtain rfl | rfl | rfl | rfl : j = 0 ∨ j = 1 ∨ j = 2 ∨ j = 3 := by omega
                · have a1 : bits .and .i64 ((N : Int) / 262144) 63 = (N : Int) / 262144 % 64 := i64_and63 _ (by omega) (by omega)
                  have x1 := idx_sg (N / 262144 % 64) (by omega) ((N : Int) / 262144 % 64) (by omega) .i64
                  unfold sgL at x1
                  have HC : Hid (ch N M 0 = sg (N / 262144 % 64)) := Lib.hid (by unfold ch; rw [if_neg hjm])
                  go_wp2_with (at_builtin; refine wpList_append_buf rfl _ _ rfl w.heap.size _ _ rfl (hown2.alloc _) [sg (N / 262144 % 64)] wr.heap.size _ _ _ _ _ rfl rfl (heap_alloc_new wr _) rfl (by simp) HLL.out (by simp; exact Nat.le_succ_of_le HBS.out) ?_; intro v' w3 hown3 hb3)
                  have HB : Below w.heap.size w w3 := hb2.trans (((Below.refl w.heap.size wr).alloc HBS.out _).trans hb3)
                  rw [← HC.out, List.append_assoc, ← HT.out] at hown3
                  go_wp2_with fail
                  go_roundw
                  case rel => exact ⟨1, by omega, by go_num, hown3, HB⟩
                  case measure => simp [intOf]
                · have a1 : bits .and .i64 ((N : Int) / 4096) 63 = (N : Int) / 4096 % 64 := i64_and63 _ (by omega) (by omega)
                  have x1 := idx_sg (N / 4096 % 64) (by omega) ((N : Int) / 4096 % 64) (by omega) .i64
                  unfold sgL at x1
                  have HC : Hid (ch N M 1 = sg (N / 4096 % 64)) := Lib.hid (by unfold ch; rw [if_neg hjm])
                  go_wp2_with (at_builtin; refine wpList_append_buf rfl _ _ rfl w.heap.size _ _ rfl (hown2.alloc _) [sg (N / 4096 % 64)] wr.heap.size _ _ _ _ _ rfl rfl (heap_alloc_new wr _) rfl (by simp) HLL.out (by simp; exact Nat.le_succ_of_le HBS.out) ?_; intro v' w3 hown3 hb3)
                  have HB : Below w.heap.size w w3 := hb2.trans (((Below.refl w.heap.size wr).alloc HBS.out _).trans hb3)
                  rw [← HC.out, List.append_assoc, ← HT.out] at hown3
                  go_wp2_with fail
                  go_roundw
                  case rel => exact ⟨2, by omega, by go_num, hown3, HB⟩
                  case measure => simp [intOf]
                · have a1 : bits .and .i64 ((N : Int) / 64) 63 = (N : Int) / 64 % 64 := i64_and63 _ (by omega) (by omega)
                  have x1 := idx_sg (N / 64 % 64) (by omega) ((N : Int) / 64 % 64) (by omega) .i64
                  unfold sgL at x1
                  have HC : Hid (ch N M 2 = sg (N / 64 % 64)) := Lib.hid (by unfold ch; rw [if_neg hjm])
                  go_wp2_with (at_builtin; refine wpList_append_buf rfl _ _ rfl w.heap.size _ _ rfl (hown2.alloc _) [sg (N / 64 % 64)] wr.heap.size _ _ _ _ _ rfl rfl (heap_alloc_new wr _) rfl (by simp) HLL.out (by simp; exact Nat.le_succ_of_le HBS.out) ?_; intro v' w3 hown3 hb3)
                  have HB : Below w.heap.size w w3 := hb2.trans (((Below.refl w.heap.size wr).alloc HBS.out _).trans hb3)
                  rw [← HC.out, List.append_assoc, ← HT.out] at hown3
                  go_wp2_with fail
                  go_roundw
                  case rel => exact ⟨3, by omega, by go_num, hown3, HB⟩
                  case measure => simp [intOf]
                · have a1 : bits .and .i64 ((N : Int)) 63 = (N : Int) % 64 := i64_and63 _ (by omega) (by omega)
                  have x1 := idx_sg (N % 64) (by omega) ((N : Int) % 64) (by omega) .i64
                  unfold sgL at x1
                  have HC : Hid (ch N M 3 = sg (N % 64)) := Lib.hid (by unfold ch; rw [if_neg hjm]; simp)
                  go_wp2_with (at_builtin; refine wpList_append_buf rfl _ _ rfl w.heap.size _ _ rfl (hown2.alloc _) [sg (N % 64)] wr.heap.size _ _ _ _ _ rfl rfl (heap_alloc_new wr _) rfl (by simp) HLL.out (by simp; exact Nat.le_succ_of_le HBS.out) ?_; intro v' w3 hown3 hb3)
                  have HB : Below w.heap.size w w3 := hb2.trans (((Below.refl w.heap.size wr).alloc HBS.out _).trans hb3)
                  rw [← HC.out, List.append_assoc, ← HT.out] at hown3
                  go_wp2_with fail
                  go_roundw
                  case rel => exact ⟨4, by omega, by go_num, hown3, HB⟩
                  case measure => simp [intOf]
            · obtain rfl : j = 4 := by omega
              rw [show (grp N M).take 4 = grp N M from rfl, ← HNX.out] at hown2
              clear hown hb
              go_wp2_with fail
              go_roundw
              case rel => exact ⟨_, _, _, _, _, _, _, _, _, _, _, _, _, _, _, _, _, _, _, _, _, _, _, _, _, _, _, _, _, _, _, _, _, _, _, _, _, _, _, _, _, _, _, _, _, _, _, _, _, _, _, _, _, _, ⟨q + 1, I + 3, by rw [HQ.out]; omega, by have := HQ.out; omega, by go_num, hown2, hb2⟩, rfl⟩
              case measure => simp [intOf]; omega
    · have c1 : ¬ (I : Int) < (s.size : Int) := by omega
      have hcv := hown.conv
      have hqe : q = (s.size + 2) / 3 := by omega
      have e : s.data.toList.length = s.size := by simp
      have HE : Hid (b64G s.data.toList q = b64L s.data.toList) := Lib.hid (by rw [b64L, e, hqe])
      clear hqe e hIq hq
      go_wp2_with fail
      go_ret
      rw [← HE.out]
      exact ⟨rfl, hb⟩
end Go.Proofs.Ytldfkdkppgammaa

/-
  A slice that reads as a list of pairs of texts (bounds, sums); plain facts on such lists.
-/
namespace Go.Proofs.Ytldfkdkppgammaa
open Go.RowKit

/-- A bound: its lower text, its upper text. -/
abbrev Bd := List UInt8 × List UInt8
/-- The value v reads as the bounds bs. -/
def RdB (w : World) (v : Value) (bs : List Bd) : Prop := ∃ A cap, v = .slice A bs.length cap ∧ (0 < bs.length → ∃ g off, A = some ⟨g, off, none⟩ ∧ g < w.heap.size ∧ ∀ k (h : k < bs.length), w.cell? ⟨g, off + k * 2, none⟩ = some (sv bs[k].1) ∧ w.cell? ⟨g, off + k * 2 + 1, none⟩ = some (sv bs[k].2))
theorem RdB.below {w w' : World} {v : Value} {bs : List Bd} (h : RdB w v bs) (hb : Below w.heap.size w w') : RdB w' v bs := by
  obtain ⟨A, cap, hv, hc⟩ := h
  refine ⟨A, cap, hv, fun h0 => ?_⟩
  obtain ⟨g, off, hA, hg, hk⟩ := hc h0
  exact ⟨g, off, hA, Nat.lt_of_lt_of_le hg hb.size, fun k h => ⟨(hb.cell (p := ⟨g, off + k * 2, none⟩) hg).trans (hk k h).1, (hb.cell (p := ⟨g, off + k * 2 + 1, none⟩) hg).trans (hk k h).2⟩⟩
theorem rdB_alloc {w : World} {v : Value} {bs : List Bd} (h : RdB w v bs) (o : Obj) : RdB (w.alloc o) v bs := h.below ((Below.refl _ _).alloc (Nat.le_refl _) _)

/-- A list of bounds as cells. -/
def flat2 : List Bd → List Value
  | [] => []
  | p :: t => sv p.1 :: sv p.2 :: flat2 t
theorem flat2_app (l m : List Bd) : flat2 (l ++ m) = flat2 l ++ flat2 m := by
  induction l with
  | nil => rfl
  | cons a t ih => simp [flat2, ih]
theorem flat2_len (l : List Bd) : (flat2 l).length = l.length * 2 := by
  induction l with
  | nil => rfl
  | cons a t ih => simp only [flat2, List.length_cons, ih]; omega
theorem flat2_get : ∀ (l : List Bd) (k : Nat) (h : k < l.length), (flat2 l)[k * 2]? = some (sv l[k].1) ∧ (flat2 l)[k * 2 + 1]? = some (sv l[k].2)
  | [], k, h => by simp at h
  | a :: t, 0, _ => by simp [flat2]
  | a :: t, k + 1, h => by
    have := flat2_get t k (by simpa using h)
    rw [show (k + 1) * 2 = k * 2 + 2 by omega, show k * 2 + 2 + 1 = (k * 2 + 1) + 2 by omega]
    simpa [flat2] using this
theorem flat2_set : ∀ (l : List Bd) (k : Nat) (x : Bd), ((flat2 l).set (k * 2) (sv x.1)).set (k * 2 + 1) (sv x.2) = flat2 (l.set k x)
  | [], k, x => by simp [flat2]
  | a :: t, 0, x => by simp [flat2]
  | a :: t, k + 1, x => by
    have := flat2_set t k x
    rw [show (k + 1) * 2 = k * 2 + 2 by omega, show k * 2 + 2 + 1 = (k * 2 + 1) + 2 by omega]
    simp [flat2, this]

/-- How many letters there are in bounds. -/
def smB (bs : List Bd) : Nat := (bs.map fun p => p.1.length + p.2.length).sum
def szB (left : Int) (bs : List Bd) : Int := if (bs.length : Int) + (smB bs : Int) ≤ left then left - (bs.length : Int) - (smB bs : Int) else -1
theorem smB_snoc (bs : List Bd) (k : Nat) (h : k < bs.length) : smB (bs.take (k + 1)) = smB (bs.take k) + (bs[k].1.length + bs[k].2.length) := by
  unfold smB; rw [List.take_succ_eq_append_getElem h]; simp only [List.map_append, List.sum_append, List.map_cons, List.map_nil, List.sum_cons, List.sum_nil]; omega
theorem smB_le (bs : List Bd) (k : Nat) : smB (bs.take k) ≤ smB bs := by
  have : smB bs = smB (bs.take k) + smB (bs.drop k) := by unfold smB; rw [← List.sum_append, ← List.map_append, List.take_append_drop]
  omega
theorem smB_mem {bs : List Bd} : ∀ b ∈ bs, b.1.length + b.2.length ≤ smB bs := by
  induction bs with
  | nil => intro l h; cases h
  | cons a t ih =>
    intro l h
    have e : smB (a :: t) = a.1.length + a.2.length + smB t := by unfold smB; simp
    rcases List.mem_cons.1 h with rfl | h
    · omega
    · have := ih l h; omega
theorem szB_yes {left : Int} {bs : List Bd} (h : (bs.length : Int) + (smB bs : Int) ≤ left) : szB left bs = left - (bs.length : Int) - (smB bs : Int) := if_pos h
theorem szB_no {left : Int} {bs : List Bd} (h : ¬ (bs.length : Int) + (smB bs : Int) ≤ left) : szB left bs = -1 := if_neg h
/-- No more than so many bounds and letters. -/
def SmB (bs : List Bd) : Prop := bs.length + smB bs ≤ 1048576
theorem szB_good {bs : List Bd} {left : Int} (hl : left ≤ 1048576) (h : szB left bs ≠ -1) : SmB bs := by
  unfold szB at h
  split at h
  · unfold SmB; omega
  · exact absurd rfl h

/-- Two numbers taken off one after the other. -/
def off2 (left : Int) (x y : Nat) : Int := if left - x < 0 then -1 else if left - x - y < 0 then -1 else left - x - y

/-- The first k bounds, then empty ones. -/
def tkB (k : Nat) (bs : List Bd) : List Bd := bs.take k ++ List.replicate (bs.length - k) ([], [])
theorem tkB_len (k : Nat) (bs : List Bd) (h : k ≤ bs.length) : (tkB k bs).length = bs.length := by simp [tkB]; omega
theorem tkB_zero (bs : List Bd) : tkB 0 bs = List.replicate bs.length ([], []) := by simp [tkB]
theorem tkB_all (bs : List Bd) : tkB bs.length bs = bs := by simp [tkB]
theorem tkB_set (k : Nat) (bs : List Bd) (h : k < bs.length) : (tkB k bs).set k bs[k] = tkB (k + 1) bs := by
  unfold tkB
  rw [List.set_append_right _ _ (by simp; omega), List.take_succ_eq_append_getElem h, List.append_assoc]
  congr 1
  have e : bs.length - k = (bs.length - (k + 1)) + 1 := by omega
  have e2 : k - (List.take k bs).length = 0 := by simp; omega
  rw [e2, e, List.replicate_succ]
  rfl
theorem flat2_rep : ∀ n : Nat, flat2 (List.replicate n ([], [])) = (List.replicate (n * 2) (sv []))
  | 0 => rfl
  | n + 1 => by
    rw [List.replicate_succ, show (n + 1) * 2 = n * 2 + 1 + 1 by omega, List.replicate_succ, List.replicate_succ]
    simp [flat2, flat2_rep n]
end Go.Proofs.Ytldfkdkppgammaa

/-
  The integrity text of sums in plain words.
-/
namespace Go.Proofs.Ytldfkdkppgammaa
open Go.RowKit

def sha1L : List UInt8 := [115, 104, 97, 49]
def sha256L : List UInt8 := [115, 104, 97, 50, 53, 54]
def sha512L : List UInt8 := [115, 104, 97, 53, 49, 50]
def h1L : List UInt8 := [104, 49]
/-- A sum that an integrity text tells. -/
def algOk (a : List UInt8) : Bool := a == sha1L || a == sha256L || a == sha512L
/-- How many bytes a sum has, or -1. -/
def longI (a : List UInt8) : Int := if a = sha1L then 20 else if a = sha256L then 32 else if a = h1L then 32 else if a = sha512L then 64 else -1
def wordB (b : Bd) : List UInt8 := b.1 ++ 45 :: b64L b.2
def wordsB (bs : List Bd) : List (List UInt8) := (bs.filter fun b => algOk b.1).map wordB
def intT (bs : List Bd) : List UInt8 := Lib.join (wordsB bs) [32]
theorem wordsB_skip {bs : List Bd} {k : Nat} (h : k < bs.length) (ha : algOk bs[k].1 = false) : wordsB (bs.take (k + 1)) = wordsB (bs.take k) := by
  unfold wordsB; rw [List.take_succ_eq_append_getElem h, List.filter_append]; simp [ha]
theorem wordsB_more {bs : List Bd} {k : Nat} (h : k < bs.length) (ha : algOk bs[k].1 = true) : wordsB (bs.take (k + 1)) = wordsB (bs.take k) ++ [wordB bs[k]] := by
  unfold wordsB; rw [List.take_succ_eq_append_getElem h, List.filter_append]; simp [ha]
theorem join_one (x sep : List UInt8) : Lib.join [x] sep = x := by simp [Lib.join, List.intercalate]
theorem join_cons (x y sep : List UInt8) (l : List (List UInt8)) : Lib.join (x :: y :: l) sep = x ++ sep ++ Lib.join (y :: l) sep := by
  unfold Lib.join; simp [List.intercalate]
theorem join_snoc (sep z : List UInt8) : ∀ l : List (List UInt8), l ≠ [] → Lib.join (l ++ [z]) sep = Lib.join l sep ++ sep ++ z
  | [], h => absurd rfl h
  | [x], _ => by rw [List.cons_append, List.nil_append, join_cons, join_one, join_one]
  | x :: y :: l, _ => by
    have ih := join_snoc sep z (y :: l) (by simp)
    rw [List.cons_append, List.cons_append, join_cons, join_cons, ← List.cons_append, ih]
    simp
theorem wordB_ne (b : Bd) : wordB b ≠ [] := by unfold wordB; simp
theorem join_ne {l : List (List UInt8)} (sep : List UInt8) (h : ∀ x ∈ l, x ≠ []) : Lib.join l sep = [] ↔ l = [] := by
  cases l with
  | nil => simp [Lib.join, List.intercalate]
  | cons x l =>
    have hx := h x (by simp)
    cases l with
    | nil => rw [join_one]; simp [hx]
    | cons y l => rw [join_cons]; simp [hx]
theorem wordsB_ne (bs : List Bd) : ∀ x ∈ wordsB bs, x ≠ [] := by
  intro x hx
  unfold wordsB at hx
  obtain ⟨b, _, rfl⟩ := List.mem_map.1 hx
  exact wordB_ne b
theorem b64L_le (l : List UInt8) : (b64L l).length ≤ 2 * l.length + 4 := by unfold b64L; rw [b64G_len]; omega
theorem wordB_len (b : Bd) : (wordB b).length ≤ 2 * (b.1.length + b.2.length) + 5 := by
  have := b64L_le b.2
  unfold wordB; simp; omega
theorem join_len6 : ∀ l : List Bd, (Lib.join (l.map wordB) [32]).length ≤ 2 * smB l + 6 * l.length
  | [] => by simp [Lib.join, List.intercalate]
  | [b] => by
    have := wordB_len b
    have e : smB [b] = b.1.length + b.2.length := by unfold smB; simp
    rw [List.map_cons, List.map_nil, join_one, e]; simp; omega
  | b :: c :: l => by
    have ih := join_len6 (c :: l)
    have := wordB_len b
    have e : smB (b :: c :: l) = b.1.length + b.2.length + smB (c :: l) := by unfold smB; simp
    rw [List.map_cons, List.map_cons, join_cons, e, ← List.map_cons]
    simp at ih ⊢
    omega
theorem smB_filter (p : Bd → Bool) : ∀ l : List Bd, smB (l.filter p) ≤ smB l
  | [] => by simp
  | b :: l => by
    have ih := smB_filter p l
    have e : smB (b :: l) = b.1.length + b.2.length + smB l := by unfold smB; simp
    rw [List.filter_cons]
    split
    · have e2 : smB (b :: l.filter p) = b.1.length + b.2.length + smB (l.filter p) := by unfold smB; simp
      omega
    · omega
theorem intT_len (bs : List Bd) : (intT bs).length ≤ 2 * smB bs + 6 * bs.length := by
  have h := join_len6 (bs.filter fun b => algOk b.1)
  have h1 := smB_filter (fun b => algOk b.1) bs
  have h2 := List.length_filter_le (fun b : Bd => algOk b.1) bs
  show (Lib.join ((bs.filter fun b => algOk b.1).map wordB) [32]).length ≤ _
  omega
theorem intT_take {bs : List Bd} (h : SmB bs) (k : Nat) : (intT (bs.take k)).length ≤ 8388608 := by
  have h1 := intT_len (bs.take k)
  have h2 := smB_le bs k
  have h3 := List.length_take_le k bs
  have h4 : (bs.take k).length ≤ bs.length := by simp; omega
  unfold SmB at h
  omega
/-- The text so far, one more sum behind it. -/
theorem intT_first {bs : List Bd} {k : Nat} (h : k < bs.length) (ha : algOk bs[k].1 = true) (h0 : intT (bs.take k) = []) : intT (bs.take (k + 1)) = wordB bs[k] := by
  have := (join_ne [32] (wordsB_ne (bs.take k))).1 h0
  unfold intT; rw [wordsB_more h ha, this, List.nil_append, join_one]
theorem intT_next {bs : List Bd} {k : Nat} (h : k < bs.length) (ha : algOk bs[k].1 = true) (h0 : ¬ intT (bs.take k) = []) : intT (bs.take (k + 1)) = intT (bs.take k) ++ [32] ++ wordB bs[k] := by
  have : wordsB (bs.take k) ≠ [] := fun e => h0 ((join_ne [32] (wordsB_ne (bs.take k))).2 e)
  unfold intT; rw [wordsB_more h ha, join_snoc _ _ _ this]
theorem intT_skip {bs : List Bd} {k : Nat} (h : k < bs.length) (ha : algOk bs[k].1 = false) : intT (bs.take (k + 1)) = intT (bs.take k) := by unfold intT; rw [wordsB_skip h ha]
theorem intT_all (bs : List Bd) {k : Nat} (h : ¬ k < bs.length) : intT (bs.take k) = intT bs := by rw [List.take_of_length_le (by omega)]
/-- What spec's two tests say of an Alg. -/
theorem alg_ways (a : List UInt8) : (a = h1L ∧ algOk a = false) ∨ (¬ a = h1L ∧ longI a < 0 ∧ algOk a = false) ∨ (¬ a = h1L ∧ 0 ≤ longI a ∧ algOk a = true) := by
  by_cases h0 : a = h1L
  · subst h0; left; exact ⟨rfl, by decide⟩
  · by_cases h1 : a = sha1L
    · subst h1; right; right; exact ⟨by decide, by decide, by decide⟩
    · by_cases h2 : a = sha256L
      · subst h2; right; right; exact ⟨by decide, by decide, by decide⟩
      · by_cases h3 : a = sha512L
        · subst h3; right; right; exact ⟨by decide, by decide, by decide⟩
        · right; left
          refine ⟨h0, ?_, ?_⟩
          · unfold longI; rw [if_neg h1, if_neg h2, if_neg h0, if_neg h3]; omega
          · unfold algOk; simp [h1, h2, h3]
end Go.Proofs.Ytldfkdkppgammaa

/-
  Reading a package URL in plain words: both readers hand back what was written, and nothing else.
-/
namespace Go.Proofs.Ytldfkdkppgammaa
open Go.RowKit

/-- No m in l. -/
def noM (m : UInt8) (l : List UInt8) : Prop := ∀ c ∈ l, ¬ c = m
theorem noM_nil (m : UInt8) : noM m [] := fun c h => by cases h
theorem noM_app {m : UInt8} {a b : List UInt8} (h : noM m a) (k : noM m b) : noM m (a ++ b) := fun c hc => by
  rcases List.mem_append.1 hc with h1 | h1
  · exact h c h1
  · exact k c h1
theorem noM_tail {m c : UInt8} {l : List UInt8} (h : noM m (c :: l)) : noM m l := fun x hx => h x (by simp [hx])
theorem cutA_noM {m : UInt8} : ∀ {l : List UInt8} (r : List UInt8), noM m l → cutA m (l ++ m :: r) = l
  | [], r, _ => cutA_hit m r
  | c :: l, r, h => by rw [List.cons_append, cutA_miss _ (h c (by simp)), cutA_noM r (noM_tail h)]
theorem cutB_noM {m : UInt8} : ∀ {l : List UInt8} (r : List UInt8), noM m l → cutB m (l ++ m :: r) = r
  | [], r, _ => cutB_hit m r
  | c :: l, r, h => by rw [List.cons_append, cutB_miss _ (h c (by simp)), cutB_noM r (noM_tail h)]
theorem cutL_noM {m : UInt8} : ∀ {l : List UInt8}, noM m l → cutL m l = [l]
  | [], _ => rfl
  | c :: l, h => by unfold cutL; rw [if_neg (h c (by simp)), cutL_noM (noM_tail h)]; rfl
theorem cutL_head {m : UInt8} : ∀ {l : List UInt8} (r : List UInt8), noM m l → cutL m (l ++ m :: r) = l :: cutL m r
  | [], r, _ => by rw [List.nil_append]; conv => lhs; unfold cutL
                   rw [if_pos rfl]
  | c :: l, r, h => by
    rw [List.cons_append]
    conv => lhs; unfold cutL
    rw [if_neg (h c (by simp)), cutL_head r (noM_tail h)]
    rfl
theorem cutL_join {m : UInt8} : ∀ (ls : List (List UInt8)), ls ≠ [] → (∀ l ∈ ls, noM m l) → cutL m (Lib.join ls [m]) = ls
  | [], h, _ => absurd rfl h
  | [x], _, h => by rw [join_one, cutL_noM (h x (by simp))]
  | x :: y :: l, _, h => by
    rw [join_cons, List.append_assoc, List.cons_append, List.nil_append, cutL_head _ (h x (by simp)), cutL_join (y :: l) (by simp) (fun z hz => h z (by simp [hz]))]
theorem join_attach (m : UInt8) (p : List UInt8) {X : List (List UInt8)} (h : X ≠ []) : Lib.join (attach p X) [m] = p ++ Lib.join X [m] := by
  cases X with
  | nil => exact absurd rfl h
  | cons x X =>
    cases X with
    | nil => simp [attach, join_one]
    | cons y X => simp [attach, join_cons]
theorem join_cutL (m : UInt8) : ∀ l : List UInt8, Lib.join (cutL m l) [m] = l
  | [] => by simp [cutL, join_one]
  | c :: l => by
    have ih := join_cutL m l
    have hne := cutL_ne m l
    unfold cutL
    split
    · rename_i h
      subst h
      cases hx : cutL c l with
      | nil => exact absurd hx hne
      | cons y ys => rw [hx] at ih; rw [join_cons, ih]; simp
    · rw [join_attach m [c] hne, ih]; rfl
/-- How long texts are together, one more for each. -/
def jl (ls : List (List UInt8)) : Nat := (ls.map fun l => l.length + 1).sum
theorem join_jl (m : UInt8) : ∀ ls : List (List UInt8), (Lib.join ls [m]).length ≤ jl ls
  | [] => by simp [Lib.join, List.intercalate]
  | [x] => by rw [join_one]; simp [jl]
  | x :: y :: l => by
    have ih := join_jl m (y :: l)
    have e : jl (x :: y :: l) = x.length + 1 + jl (y :: l) := by simp [jl]
    rw [join_cons, e]; simp; omega
theorem jl_cons (x : List UInt8) (l : List (List UInt8)) : jl (x :: l) = x.length + 1 + jl l := by simp [jl]
theorem jl_attach (p : List UInt8) {X : List (List UInt8)} (h : X ≠ []) : jl (attach p X) = p.length + jl X := by
  cases X with
  | nil => exact absurd rfl h
  | cons x X => simp [attach, jl]; omega
theorem jl_cutL (m : UInt8) : ∀ l : List UInt8, jl (cutL m l) = l.length + 1
  | [] => by simp [cutL, jl]
  | c :: l => by
    have ih := jl_cutL m l
    unfold cutL
    split
    · rw [jl_cons, ih]; simp; omega
    · rw [jl_attach _ (cutL_ne m l), ih]; simp; omega
theorem jl_map (f : List UInt8 → List UInt8) (hf : ∀ x, (f x).length ≤ x.length) : ∀ ls : List (List UInt8), jl (ls.map f) ≤ jl ls
  | [] => by simp [jl]
  | x :: l => by have := jl_map f hf l; have := hf x; rw [List.map_cons, jl_cons, jl_cons]; omega
theorem jl_take (ls : List (List UInt8)) (k : Nat) : jl (ls.take k) ≤ jl ls := by
  have : jl ls = jl (ls.take k) + jl (ls.drop k) := by unfold jl; rw [← List.sum_append, ← List.map_append, List.take_append_drop]
  omega
theorem jl_mem {ls : List (List UInt8)} : ∀ x ∈ ls, x.length + 1 ≤ jl ls := by
  induction ls with
  | nil => intro x h; cases h
  | cons a t ih =>
    intro x h
    rw [jl_cons]
    rcases List.mem_cons.1 h with rfl | h
    · omega
    · have := ih x h; omega

/-! Percents. -/
theorem hexU_pair (c : UInt8) : pairV upperL (hexU (c.toNat / 16)) (hexU (c.toNat % 16)) = some c := by
  have h : ∀ a : Nat, a < 16 → Lib.indexByte upperL (hexU a) = (a : Int) := by decide +kernel
  have hc := c.toNat_lt
  unfold pairV
  rw [h (c.toNat / 16) (by omega), h (c.toNat % 16) (by omega), if_neg (by omega)]
  congr 1
  apply UInt8.toNat_inj.1
  simp
  omega
theorem lenG_back : ∀ l : List UInt8, lenG (pctL l) = some l
  | [] => rfl
  | c :: l => by
    have ih := lenG_back l
    by_cases h : safeB c = true
    · show lenG (pctB c ++ pctL l) = _
      have hc : c ≠ 37 := by rintro rfl; rw [safe37] at h; cases h
      rw [pctB_safe h, List.cons_append, List.nil_append, lenG_cons, if_neg hc, ih]; rfl
    · show lenG (pctB c ++ pctL l) = _
      rw [pctB_not h]
      simp only [List.cons_append, List.nil_append]
      rw [lenG_cons, if_pos rfl]
      simp only [hexU_pair, ih]
      rfl
theorem pctS_back (l : List UInt8) : pctS (pctL l) = some l := by unfold pctS; rw [lenG_back]; simp
theorem pct_both (l : List UInt8) : pctG l = pctS l := pct_same l.length l (Nat.le_refl _)
theorem pctS_le (l : List UInt8) : ((pctS l).getD []).length ≤ l.length := by
  cases h : pctS l with
  | none => simp
  | some o =>
    unfold pctS at h
    cases hl : lenG l with
    | none => rw [hl] at h; cases h
    | some q =>
      rw [hl] at h
      simp only [Option.bind_some] at h
      split at h
      · rename_i hq
        cases h
        rw [← hq]
        have : ∀ l : List UInt8, l.length ≤ (pctL l).length := by
          intro l
          induction l with
          | nil => simp [pctL]
          | cons c l ih =>
            have : 1 ≤ (pctB c).length := by unfold pctB; split <;> simp
            simp [pctL]; omega
        simpa using this o
      · cases h
theorem hexU_no (m : UInt8) (hm : m = 47 ∨ m = 64) (a : Nat) (h : a < 16) : ¬ hexU a = m := by
  have h1 : ∀ a : Nat, a < 16 → ¬ hexU a = 47 ∧ ¬ hexU a = 64 := by decide +kernel
  rcases hm with rfl | rfl
  · exact (h1 a h).1
  · exact (h1 a h).2
theorem pctL_noM (m : UInt8) (hm : m = 47 ∨ m = 64) : ∀ l : List UInt8, noM m (pctL l)
  | [] => noM_nil m
  | c :: l => by
    have ih := pctL_noM m hm l
    refine noM_app ?_ ih
    have hc := c.toNat_lt
    by_cases h : safeB c = true
    · rw [pctB_safe h]
      intro x hx
      simp at hx
      subst hx
      rintro rfl
      rcases hm with rfl | rfl
      · exact absurd h (by decide)
      · exact absurd h (by decide)
    · rw [pctB_not h]
      intro x hx
      simp at hx
      rcases hx with rfl | rfl | rfl
      · rcases hm with rfl | rfl <;> decide
      · exact hexU_no m hm _ (by omega)
      · exact hexU_no m hm _ (by omega)

/-! What is read. -/
def decP (p : List UInt8) : List UInt8 := (pctS p).getD []
/-- The parts of a name as they are read. -/
def nameP (ps : List (List UInt8)) : List UInt8 := Lib.join (ps.map decP) [47]
def pkgL : List UInt8 := [112, 107, 103, 58]
def kindOfI (l : List UInt8) : Int := if kindL 0 = l then 0 else if kindL 1 = l then 1 else if kindL 2 = l then 2 else if kindL 3 = l then 3 else -1
/-- The kind with which a name and a version are written so. -/
def kindAt (s a b : List UInt8) : Int := if purlL 0 a b = s then 0 else if purlL 1 a b = s then 1 else if purlL 2 a b = s then 2 else if purlL 3 a b = s then 3 else -1
abbrev Trp := Int × List UInt8 × List UInt8
def noTrp : Trp := (-1, [], [])
/-- What spec hands back: h stands before the last at, t behind it. -/
def getS (s h t : List UInt8) : Trp := if ((pctS t).isSome && (cutL 47 h).tail.all fun p => (pctS p).isSome) = true ∧ s ≠ [] then
    (if kindAt s (nameP (cutL 47 h).tail) (decP t) = -1 then noTrp else (kindAt s (nameP (cutL 47 h).tail) (decP t), nameP (cutL 47 h).tail, decP t)) else noTrp
/-- What impl hands back: r stands behind the beginning. -/
def getI (s r : List UInt8) : Trp :=
  if s = [] ∨ ¬ purlL (kindOfI (cutA 47 r)) (nameP (cutL 47 (cutA 64 (cutB 47 r)))) (decP (cutB 64 (cutB 47 r))) = s then noTrp
  else (kindOfI (cutA 47 r), nameP (cutL 47 (cutA 64 (cutB 47 r))), decP (cutB 64 (cutB 47 r)))
theorem kind_some {k : Int} (h : kindL k ≠ []) : k = 0 ∨ k = 1 ∨ k = 2 ∨ k = 3 := by
  by_cases hk : k < 0 ∨ 3 < k
  · exact absurd (kindL_no hk) h
  · omega
theorem kindOf_back {k : Int} (h : kindL k ≠ []) : kindOfI (kindL k) = k := by
  rcases kind_some h with rfl | rfl | rfl | rfl <;> decide
theorem kind_noM (k : Int) : noM 47 (kindL k) ∧ noM 64 (kindL k) := by
  by_cases h : kindL k = []
  · rw [h]; exact ⟨noM_nil _, noM_nil _⟩
  · rcases kind_some h with rfl | rfl | rfl | rfl
    all_goals exact ⟨by intro c hc; revert c; decide, by intro c hc; revert c; decide⟩
theorem purl_not_nil {k : Int} {a b : List UInt8} (h : purlL k a b ≠ []) : kindL k ≠ [] ∧ specN a = true ∧ readOk b = true := by
  refine ⟨fun e => h (purl_kind a b e), ?_, ?_⟩
  · cases e : specN a with
    | false => exact absurd (purl_name k b e) h
    | true => rfl
  · cases e : readOk b with
    | false => exact absurd (purl_ver k a e) h
    | true => rfl
theorem purlT_form (k : Int) (a b : List UInt8) : purlT k a b = (pkgL ++ kindL k ++ pctP (cutL 47 a)) ++ 64 :: pctL b := rfl
theorem purlT_rest (k : Int) (a b : List UInt8) : purlT k a b = pkgL ++ (kindL k ++ 47 :: (Lib.join ((cutL 47 a).map pctL) [47] ++ 64 :: pctL b)) := by
  rw [purlT_form, ← join_pct (cutL 47 a) (cutL_ne 47 a)]; simp
theorem parts_noM (m : UInt8) (hm : m = 47 ∨ m = 64) (a : List UInt8) : ∀ l ∈ (cutL 47 a).map pctL, noM m l := fun l hl => by
  obtain ⟨p, _, rfl⟩ := List.mem_map.1 hl
  exact pctL_noM m hm p
theorem join_noM {m : UInt8} {sep : List UInt8} (hs : noM m sep) : ∀ ls : List (List UInt8), (∀ l ∈ ls, noM m l) → noM m (Lib.join ls sep)
  | [], _ => by simp [Lib.join, List.intercalate]; exact noM_nil m
  | [x], h => by rw [join_one]; exact h x (by simp)
  | x :: y :: l, h => by
    rw [join_cons]
    exact noM_app (noM_app (h x (by simp)) hs) (join_noM hs (y :: l) (fun z hz => h z (by simp [hz])))
theorem decP_back (l : List UInt8) : decP (pctL l) = l := by unfold decP; rw [pctS_back]; rfl
theorem nameP_back (a : List UInt8) : nameP ((cutL 47 a).map pctL) = a := by
  unfold nameP
  rw [List.map_map]
  have : (decP ∘ pctL) = id := by funext l; exact decP_back l
  rw [this, List.map_id, join_cutL]
theorem head_cut (k : Int) (a : List UInt8) : cutL 47 (pkgL ++ kindL k ++ pctP (cutL 47 a)) = (pkgL ++ kindL k) :: (cutL 47 a).map pctL := by
  rw [← join_pct (cutL 47 a) (cutL_ne 47 a), cutL_head _ (noM_app (by intro c hc; revert c; decide) (kind_noM k).1), cutL_join _ (by simp; exact cutL_ne 47 a) (parts_noM 47 (.inl rfl) a)]
theorem kindAt_back {k : Int} {a b s : List UInt8} (hs : s ≠ []) (h : purlL k a b = s) : kindAt s a b = k := by
  obtain ⟨hk, ha, hb⟩ := purl_not_nil (by rw [h]; exact hs)
  have inj : ∀ j, purlL j a b = s → j = k := fun j hj => by
    obtain ⟨hj0, _, _⟩ := purl_not_nil (by rw [hj]; exact hs)
    rw [← h, purl_yes hj0 ha hb, purl_yes hk ha hb] at hj
    rw [purlT_rest, purlT_rest] at hj
    have e := congrArg (cutA 47) (List.append_cancel_left hj)
    rw [cutA_noM _ (kind_noM j).1, cutA_noM _ (kind_noM k).1] at e
    rw [← kindOf_back hj0, ← kindOf_back hk, e]
  unfold kindAt
  by_cases h0 : purlL 0 a b = s
  · rw [if_pos h0]; exact inj 0 h0
  · rw [if_neg h0]
    by_cases h1 : purlL 1 a b = s
    · rw [if_pos h1]; exact inj 1 h1
    · rw [if_neg h1]
      by_cases h2 : purlL 2 a b = s
      · rw [if_pos h2]; exact inj 2 h2
      · rw [if_neg h2]
        by_cases h3 : purlL 3 a b = s
        · rw [if_pos h3]; exact inj 3 h3
        · exfalso
          rcases kind_some hk with rfl | rfl | rfl | rfl
          · exact h0 h
          · exact h1 h
          · exact h2 h
          · exact h3 h
theorem kindAt_hit {s a b : List UInt8} (h : ¬ kindAt s a b = -1) : purlL (kindAt s a b) a b = s := by
  unfold kindAt at h ⊢
  split
  · assumption
  · rename_i h0
    rw [if_neg h0] at h
    split
    · assumption
    · rename_i h1
      rw [if_neg h1] at h
      split
      · assumption
      · rename_i h2
        rw [if_neg h2] at h
        split
        · assumption
        · rename_i h3; rw [if_neg h3] at h; exact absurd rfl h
theorem getS_yes {s h t a b : List UInt8} {k : Int} (hs : s ≠ []) (hp : purlL k a b = s) (hh : s = h ++ 64 :: t) (ht : noM 64 t) : getS s h t = (k, a, b) := by
  obtain ⟨hk, ha, hb⟩ := purl_not_nil (by rw [hp]; exact hs)
  have hf : purlT k a b = s := by rw [← purl_yes hk ha hb]; exact hp
  have hu : ∀ (x y u v : List UInt8), noM 64 u → noM 64 v → x ++ 64 :: u = y ++ 64 :: v → x = y ∧ u = v := by
    intro x y u v h1 h2 e
    have e' := congrArg List.reverse e
    simp only [List.reverse_append, List.reverse_cons, List.append_assoc, List.cons_append, List.nil_append] at e'
    have r1 : noM 64 u.reverse := fun c hc => h1 c (List.mem_reverse.1 hc)
    have r2 : noM 64 v.reverse := fun c hc => h2 c (List.mem_reverse.1 hc)
    have a1 := congrArg (cutA 64) e'
    have a2 := congrArg (cutB 64) e'
    rw [cutA_noM _ r1, cutA_noM _ r2] at a1
    rw [cutB_noM _ r1, cutB_noM _ r2] at a2
    exact ⟨List.reverse_inj.1 a2, List.reverse_inj.1 a1⟩
  have e : (pkgL ++ kindL k ++ pctP (cutL 47 a)) ++ 64 :: pctL b = h ++ 64 :: t := by rw [← purlT_form, hf, hh]
  obtain ⟨rfl, rfl⟩ := hu _ _ _ _ (pctL_noM 64 (.inr rfl) b) ht e
  unfold getS
  rw [head_cut, List.tail_cons, nameP_back, decP_back, kindAt_back hs hp, pctS_back]
  have hall : ((cutL 47 a).map pctL).all (fun p => (pctS p).isSome) = true := by
    rw [List.all_eq_true]
    intro p hpm
    obtain ⟨q, _, rfl⟩ := List.mem_map.1 hpm
    rw [pctS_back]; rfl
  rw [hall, if_pos ⟨rfl, hs⟩, if_neg (by rcases kind_some hk with rfl | rfl | rfl | rfl <;> decide)]
theorem getS_no {s h t : List UInt8} (hn : ∀ k a b, ¬ (s ≠ [] ∧ purlL k a b = s)) : getS s h t = noTrp := by
  unfold getS
  split
  · rename_i hc
    by_cases hk : kindAt s (nameP (cutL 47 h).tail) (decP t) = -1
    · rw [if_pos hk]
    · exact absurd ⟨hc.2, kindAt_hit hk⟩ (hn _ _ _)
  · rfl
theorem getI_yes {s r a b : List UInt8} {k : Int} (hs : s ≠ []) (hp : purlL k a b = s) (hr : r = (Lib.cut s pkgL).2.1) : getI s r = (k, a, b) := by
  obtain ⟨hk, ha, hb⟩ := purl_not_nil (by rw [hp]; exact hs)
  have hf : purlT k a b = s := by rw [← purl_yes hk ha hb]; exact hp
  have hr' : r = kindL k ++ 47 :: (Lib.join ((cutL 47 a).map pctL) [47] ++ 64 :: pctL b) := by
    rw [hr, ← hf, purlT_rest]; exact cut_pre pkgL _ (by simp [pkgL])
  have j64 : noM 64 (Lib.join ((cutL 47 a).map pctL) [47]) := join_noM (by intro c hc; revert c; decide) _ (parts_noM 64 (.inr rfl) a)
  unfold getI
  rw [hr', cutA_noM _ (kind_noM k).1, cutB_noM _ (kind_noM k).1, cutA_noM _ j64, cutB_noM _ j64, cutL_join _ (by simp; exact cutL_ne 47 a) (parts_noM 47 (.inl rfl) a), kindOf_back hk, nameP_back, decP_back]
  rw [if_neg (by intro h; rcases h with h | h; exact hs h; exact h hp)]
theorem getI_no {s r : List UInt8} (hn : ∀ k a b, ¬ (s ≠ [] ∧ purlL k a b = s)) : getI s r = noTrp := by
  unfold getI
  by_cases h : s = []
  · rw [if_pos (.inl h)]
  · rw [if_pos (.inr (fun e => hn _ _ _ ⟨h, e⟩))]
/-- The two readers agree, where s is parted at its last at or has none. -/
theorem get_same {s h t r : List UInt8} (hp : (s = h ++ 64 :: t ∧ noM 64 t) ∨ (noM 64 s ∧ h = [] ∧ t = [])) (hr : r = (Lib.cut s pkgL).2.1) : getI s r = getS s h t := by
  by_cases hx : ∃ k a b, s ≠ [] ∧ purlL k a b = s
  · obtain ⟨k, a, b, hs, he⟩ := hx
    rcases hp with ⟨h1, h2⟩ | ⟨h1, _, _⟩
    · rw [getI_yes hs he hr, getS_yes hs he h1 h2]
    · exfalso
      obtain ⟨hk, ha, hb⟩ := purl_not_nil (by rw [he]; exact hs)
      rw [← he, purl_yes hk ha hb, purlT_form] at h1
      exact h1 64 (by simp) rfl
  · have hn : ∀ k a b, ¬ (s ≠ [] ∧ purlL k a b = s) := fun k a b h => hx ⟨k, a, b, h.1, h.2⟩
    rw [getI_no hn, getS_no hn]
theorem nameP_len (ps : List (List UInt8)) (k : Nat) : (nameP (ps.take k)).length ≤ jl ps := by
  have h1 := join_jl 47 ((ps.take k).map decP)
  have h2 := jl_map decP pctS_le (ps.take k)
  have h3 := jl_take ps k
  unfold nameP; omega
theorem tail_jl (h : List UInt8) : jl (cutL 47 h).tail ≤ h.length := by
  have e := jl_cutL 47 h
  cases hc : cutL 47 h with
  | nil => exact absurd hc (cutL_ne 47 h)
  | cons x l => rw [hc, jl_cons] at e; simp; omega
end Go.Proofs.Ytldfkdkppgammaa

/-
  spec.VersionText: the text of a version.
-/
namespace Go.Proofs.Ytldfkdkppgammaa
open Go.RowKit

theorem preText_snoc (ls : List (List UInt8)) (x : List UInt8) : preText (ls ++ [x]) = preText ls ++ ((if ls.length = 0 then 45 else 46) :: x) := by
  cases ls with
  | nil => simp [preText]
  | cons a t => simp [preText]
theorem preText_take {ls : List (List UInt8)} {k : Nat} (h : k < ls.length) : preText (ls.take (k + 1)) = preText (ls.take k) ++ ((if k = 0 then 45 else 46) :: ls[k]) := by
  rw [List.take_succ_eq_append_getElem h, preText_snoc]
  have : (ls.take k).length = k := by simp; omega
  rw [this]
theorem preText_len {ls : List (List UInt8)} (h : ∀ l ∈ ls, l.length ≤ 20) (k : Nat) (hk : k ≤ ls.length) : (preText (ls.take k)).length ≤ 21 * k := by
  induction k with
  | zero => simp [preText]
  | succ k ih =>
    rw [preText_take (by omega)]
    have := h ls[k] (List.getElem_mem (by omega))
    have := ih (by omega)
    simp; omega
theorem verOk_len {a b c : Int} {ls : List (List UInt8)} (h : verOk a b c ls = true) : ∀ l ∈ ls, l.length ≤ 20 := by
  intro l hl
  unfold verOk at h
  simp at h
  have := h.1 l hl
  unfold preOk at this
  simp at this
  omega
theorem verOk_num {a b c : Int} {ls : List (List UInt8)} (h : verOk a b c ls = true) : (0 ≤ a ∧ a ≤ 999999999) ∧ (0 ≤ b ∧ b ≤ 999999999) ∧ (0 ≤ c ∧ c ≤ 999999999) ∧ ls.length ≤ 5 := by
  unfold verOk numOk at h; simp at h; omega
theorem dec_len {n : Int} (h0 : 0 ≤ n) (h1 : n ≤ 999999999) : (dec n).length ≤ 20 := by
  unfold dec Lib.itoa
  rw [if_neg (by omega)]
  have := Lib.nDigits_le20 n.toNat (by omega)
  rw [← Lib.decDigits_length] at this
  simpa using this
theorem decTextQ (n : Int) (W : World) (h0 : 0 ≤ n) (h1 : n ≤ 999999999) : Calls Try.prog 121 #[.int .i64 n] W fun e w' => e = .returned (.string ⟨(dec n).toArray⟩) ∧ w' = W :=
  (specDecText_any n W (by omega) (by omega)).mono (fun _ _ h => ⟨h.1, h.2.symm⟩)
def nums (a b c : Int) : List UInt8 := dec a ++ [46] ++ dec b ++ [46] ++ dec c

theorem nums_bytes (a b c : Int) : Value.string (⟨(dec a).toArray⟩ ++ ⟨#[46]⟩ ++ ⟨(dec b).toArray⟩ ++ ⟨#[46]⟩ ++ ⟨(dec c).toArray⟩) = .string ⟨(nums a b c).toArray⟩ :=
  congrArg Value.string (bytes_ext (by simp [nums]))
theorem app3 (x z : List UInt8) (y : UInt8) : Value.string (⟨x.toArray⟩ ++ ⟨#[y]⟩ ++ ⟨z.toArray⟩) = .string ⟨(x ++ y :: z).toArray⟩ :=
  congrArg Value.string (bytes_ext (by simp))
theorem nums_len {a b c : Int} (ha : (dec a).length ≤ 20) (hb : (dec b).length ≤ 20) (hc : (dec c).length ≤ 20) : (nums a b c).length ≤ 62 := by simp [nums]; omega

set_option maxRecDepth 100000 in
set_option maxHeartbeats 2000000 in
theorem specVersionText_any (a b c : Int) (v : Value) (ls : List (List UInt8)) (w : World) (hr : RdS w v ls) (hs : Sm ls) :
    Calls Try.prog 105 #[.agg #[.int .i64 a, .int .i64 b, .int .i64 c, v]] w fun e w' => e = .returned (.string ⟨(verText a b c ls).toArray⟩) ∧ Below w.heap.size w w' := by
  have HV := Lib.hid (fun (W : World) (h : Below w.heap.size w W) => specVersionOk_any a b c v ls W (hr.below h) hs)
  have HR := Lib.hid (fun (W : World) (h : Below w.heap.size w W) => hr.below h)
  obtain ⟨A, cap, rfl, hr0⟩ := hr
  have hl := hs.1
  clear hs hr0
  have B1 : Below w.heap.size w (w.alloc (.cells #[.int .i64 a, .int .i64 b, .int .i64 c, .slice A ls.length cap] 47)) := (Below.refl _ _).alloc (Nat.le_refl _) _
  have hA1 := heap_alloc_new w (.cells #[.int .i64 a, .int .i64 b, .int .i64 c, .slice A ls.length cap] 47)
  obtain ⟨ok, HO⟩ : ∃ ok, Hid (verOk a b c ls = ok) := ⟨_, Lib.hid rfl⟩
  cases ok
  · have HT : Hid (verText a b c ls = []) := Lib.hid (by unfold verText; rw [HO.out]; rfl)
    go_enter Try.func105, Try.ntmps105
    go_wp2_with fail
    refine (HV.out _ B1).mono ?_
    rw [HO.out]
    rintro e w2 ⟨rfl, hb2⟩
    have B2 := B1.trans (hb2.mono B1.size)
    go_wp2_with fail
    go_ret
    exact ⟨ret_str HT.out.symm, B2⟩
  · obtain ⟨⟨a0, a1⟩, ⟨b0, b1⟩, ⟨c0, c1⟩, h5⟩ := verOk_num HO.out
    have HLE := Lib.hid (verOk_len HO.out)
    have la := dec_len a0 a1
    have lb := dec_len b0 b1
    have lc := dec_len c0 c1
    have HT : Hid (verText a b c ls = nums a b c ++ preText ls) := Lib.hid (by unfold verText; rw [HO.out]; rfl)
    go_enter Try.func105, Try.ntmps105
    go_wp2_with fail
    refine (HV.out _ B1).mono ?_
    rw [HO.out]
    rintro e w2 ⟨rfl, hb2⟩
    have B2 := B1.trans (hb2.mono B1.size)
    have hA2 := keepB hA1 hb2
    clear hA1 hb2 B1
    obtain ⟨p0, p1, p2, p3⟩ := cells4 hA2
    go_wp2_with fail
    go_quiet ((go_at_call 121; exact Calls.quiet_of_same (decTextQ _ _ (by omega) (by omega))))
    go_wp2_with fail
    rw [nums_bytes]
    have ln := nums_len la lb lc
    have HAA := HR.out (w2.drewN nq) (B2.trans (below_drewN _ _ _))
    have q3 : (w2.drewN nq).cell? ⟨w.heap.size, 3, none⟩ = some (.slice A ls.length cap) := p3
    have B3 := B2.trans (below_drewN w.heap.size w2 nq)
    clear p0 p1 p2 p3 hA2 B2 HV HR
    generalize w2.drewN nq = V at *
    generalize nums a b c = N at *
    obtain ⟨A2, cap2, hv2, hca⟩ := HAA
    simp only [Value.slice.injEq, true_and] at hv2
    obtain ⟨rfl, rfl⟩ := hv2
    go_loop [3, 4] (fun o i => ∃ (k : Nat) (X : List UInt8), k ≤ ls.length ∧ i = .int .i64 k ∧ o = .string ⟨X.toArray⟩ ∧ X.length ≤ 62 + 21 * k ∧ Hid (X = N ++ preText (ls.take k))) (fun _ i => ls.length - (intOf i).toNat)
    case atStart => exact ⟨0, N, Nat.zero_le _, rfl, rfl, by omega, Lib.hid (by simp [preText])⟩
    case round =>
      obtain ⟨k, X, hk, rfl, rfl, lX, HX⟩ := hrel
      by_cases hlt : k < ls.length
      · obtain ⟨g, off, rfl, hg, hck⟩ := hca (by omega)
        have d1 : V.cell? ⟨g, off + k, none⟩ = some (.string ⟨ls[k].toArray⟩) := hck k hlt
        have k0 : (0 : Int) ≤ (k : Int) := by omega
        have k1 : (k : Int) < (ls.length : Int) := by omega
        have lk := HLE.out _ (List.getElem_mem hlt)
        have HP := Lib.hid (preText_take hlt)
        clear hca hck
        by_cases hk0 : k = 0
        · have z0 : ((k : Int) == 0) = true := by simp [hk0]
          have HY : Hid (X ++ 45 :: ls[k] = N ++ preText (ls.take (k + 1))) := Lib.hid (by rw [HP.out, HX.out, if_pos hk0, List.append_assoc])
          clear hk0
          go_wp2
          go_round
          case rel => exact ⟨k + 1, X ++ 45 :: ls[k], by omega, by go_num, app3 _ _ _, by simp; omega, HY⟩
          case measure => simp [intOf]; omega
        · have z0 : ((k : Int) == 0) = false := int_beq_false (by omega)
          have HY : Hid (X ++ 46 :: ls[k] = N ++ preText (ls.take (k + 1))) := Lib.hid (by rw [HP.out, HX.out, if_neg hk0, List.append_assoc])
          clear hk0
          go_wp2
          go_round
          case rel => exact ⟨k + 1, X ++ 46 :: ls[k], by omega, by go_num, app3 _ _ _, by simp; omega, HY⟩
          case measure => simp [intOf]; omega
      · have HY : Hid (verText a b c ls = X) := Lib.hid (by rw [HT.out, HX.out, List.take_of_length_le (by omega)])
        clear hca
        go_wp2
        go_ret
        exact ⟨ret_str HY.out.symm, B3⟩
end Go.Proofs.Ytldfkdkppgammaa

/-
  spec.ReadVersion: a version out of its text.
-/
namespace Go.Proofs.Ytldfkdkppgammaa
open Go.RowKit

set_option maxRecDepth 100000 in
set_option maxHeartbeats 4000000 in
theorem specReadVersion_any (s : ByteArray) (w : World) (hs : s.size ≤ 1048576) :
    Calls Try.prog 71 #[.string s] w (ReadIs w s.data.toList) := by
  have HSZ : Hid (s.data.toList.length ≤ 1048576) := Lib.hid (by simpa using hs)
  have hA := l01At_any s 45 ((w.alloc (.cells #[.int .i64 0, .int .i64 0, .int .i64 0, .slice none 0 0] 47)).alloc (.cells #[.int .i64 0, .int .i64 0, .int .i64 0, .slice none 0 0] 47)) (by unfold maxLen; omega)
  have HA := Lib.hid hA
  clear hA
  have r0 := keepA (heap_alloc_new w (.cells #[.int .i64 0, .int .i64 0, .int .i64 0, .slice none 0 0] 47)) (.cells #[.int .i64 0, .int .i64 0, .int .i64 0, .slice none 0 0] 47)
  have v0 := heap_new (W := w.alloc (.cells #[.int .i64 0, .int .i64 0, .int .i64 0, .slice none 0 0] 47)) (n := w.heap.size + 1) (by simp) (.cells #[.int .i64 0, .int .i64 0, .int .i64 0, .slice none 0 0] 47)
  have B0 : Below w.heap.size w ((w.alloc (.cells #[.int .i64 0, .int .i64 0, .int .i64 0, .slice none 0 0] 47)).alloc (.cells #[.int .i64 0, .int .i64 0, .int .i64 0, .slice none 0 0] 47)) := ((Below.refl _ _).alloc (Nat.le_refl _) _).alloc (by simp) _
  obtain ⟨d, HD⟩ : ∃ d, Hid (dash s.data.toList = d) := ⟨_, Lib.hid rfl⟩
  by_cases hd : 0 ≤ d
  · have hdl : d < s.size := by have := idx_lt s.data.toList 45; have h2 : Lib.indexByte s.data.toList 45 = d := HD.out; rw [h2] at this; simpa using this
    obtain ⟨k, rfl⟩ : ∃ k : Nat, d = (k : Int) := ⟨d.toNat, by omega⟩
    have HH : Hid (headL s.data.toList = s.data.toList.take k) := Lib.hid (by rw [headL_yes (by rw [HD.out]; exact hd), HD.out]; rfl)
    have HTL : Hid (tailL s.data.toList = cutL 46 (s.data.toList.drop (k + 1))) := Lib.hid (by rw [tailL_yes (by rw [HD.out]; exact hd), HD.out]; rfl)
    have e1 := slice_to s _ k (k : Int) rfl (by omega) (piece s 0 k)
    have e2 := slice_from s _ (k + 1) ((k : Int) + 1) (by omega) (by omega) (piece_end s (k + 1))
    go_enter Try.func71, Try.ntmps71
    go_wp2_with fail
    refine HA.out.mono ?_
    rw [show Lib.indexByte s.data.toList 45 = (k : Int) from HD.out]
    rintro e w' ⟨rfl, rfl⟩
    go_wp2_with fail
    refine (l01Cut_any _ 46 _ (by rw [size_of]; simp <;> omega)).mono ?_
    rintro e w1 ⟨gp, cp, rfl, hSp, hb1⟩
    have HQ : Hid (cutL 46 (⟨(s.data.toList.drop (k + 1)).toArray⟩ : ByteArray).data.toList = tailL s.data.toList) := Lib.hid HTL.out.symm
    rw [HQ.out] at hSp ⊢
    have r1 := keepB r0 hb1
    have v1 := keepB v0 hb1
    have B1 := B0.trans (hb1.mono B0.size)
    have glo : w.heap.size + 2 ≤ gp := by have := hSp.lo; simpa using this
    obtain ⟨q0, q1, q2, q3⟩ := cells4 v1
    have f3 := frozen4 v1 3
    go_wp2_with fail
    have HQ2 : Hid (cutL 46 (⟨(s.data.toList.take k).toArray⟩ : ByteArray).data.toList = partsL s.data.toList) := Lib.hid (by unfold partsL; rw [HH.out])
    have r1' := heap_other (g := w.heap.size + 1) (o := 3) r1 (.slice (some ⟨gp, 0, none⟩) (tailL s.data.toList).length cp) (by omega)
    have v1' := heap_set3 v1 (.slice (some ⟨gp, 0, none⟩) (tailL s.data.toList).length cp)
    have B1' := B1.setCell (p := ⟨w.heap.size + 1, 3, none⟩) (Nat.le_succ _) (.slice (some ⟨gp, 0, none⟩) (tailL s.data.toList).length cp)
    have hSp1 := (hSp.weaken (base' := w.heap.size + 2) (by simp)).other (w.heap.size + 1) 3 (.slice (some ⟨gp, 0, none⟩) (tailL s.data.toList).length cp) (by omega)
    refine (l01Cut_any _ 46 _ (by rw [size_of]; simp <;> omega)).mono ?_
    rintro e w2 ⟨gn, cn, rfl, hSn, hb2⟩
    rw [HQ2.out] at hSn ⊢
    have r2 := keepB r1' hb2
    have v2 := keepB v1' hb2
    have B2 := B1'.trans (hb2.mono B1'.size)
    have hSp2 := hSp1.below hb2
    have lo2 : w.heap.size + 2 ≤ (w1.setCell ⟨w.heap.size + 1, 3, none⟩ (.slice (some ⟨gp, 0, none⟩) (tailL s.data.toList).length cp)).heap.size := by have := lt_of_heap v1'; omega
    clear r0 v0 B0 r1 v1 B1 r1' v1' B1' hSp hSp1 hb1 hb2 q0 q1 q2 q3 f3 HA e1 e2
    have gnlo : w.heap.size + 2 ≤ gn := by have := hSn.lo; simpa using Nat.le_trans lo2 this
    by_cases h3 : (partsL s.data.toList).length = 3
    · obtain ⟨p0, p1, p2, hp⟩ := len3 h3
      have HPP := Lib.hid hp
      have mm : ∀ x ∈ partsL s.data.toList, x.length ≤ 1048576 := fun x hx => by have h1 := cutL_mem_le 46 (headL s.data.toList) x hx; have h2 := headL_le s.data.toList; have h3 := HSZ.out; omega
      have m0 := mm p0 (by rw [hp]; simp)
      have m1 := mm p1 (by rw [hp]; simp)
      have m2 := mm p2 (by rw [hp]; simp)
      have x0 : w2.cell? ⟨gn, 0, none⟩ = some (.string ⟨p0.toArray⟩) := by rw [hp] at hSn; exact hSn.cell 0 (by simp)
      have x1 : w2.cell? ⟨gn, 1, none⟩ = some (.string ⟨p1.toArray⟩) := by rw [hp] at hSn; exact hSn.cell 1 (by simp)
      have x2 : w2.cell? ⟨gn, 2, none⟩ = some (.string ⟨p2.toArray⟩) := by rw [hp] at hSn; exact hSn.cell 2 (by simp)
      have HR := Lib.hid (readOk_of hp)
      have HTX := Lib.hid (read_text hp)
      have HTN := Lib.hid (read_ok hp)
      rw [h3]
      clear mm hp h3
      have gne : gn ≠ w.heap.size + 1 := by omega
      obtain ⟨u0, u1, u2, u3⟩ := cells4 v2
      have f0 := frozen4 v2 0
      go_wp2_with fail
      refine (specReadDec_any ⟨p0.toArray⟩ _ (by rw [size_of]; exact m0)).mono ?_
      rintro e w' ⟨rfl, rfl⟩
      obtain ⟨z0, HZ0⟩ : ∃ z, Hid (readL p0 = z) := ⟨_, Lib.hid rfl⟩
      rw [show readL (⟨p0.toArray⟩ : ByteArray).data.toList = z0 from HZ0.out]
      have v3 := heap_set0 v2 (.int .i64 z0)
      have r3 := heap_other (g := w.heap.size + 1) (o := 0) r2 (.int .i64 z0) (by omega)
      have y1 := (World.cell?_setCell_far w2 ⟨w.heap.size + 1, 0, none⟩ ⟨gn, 1, none⟩ (.int .i64 z0) (Ne.symm gne)).trans x1
      have y2 := (World.cell?_setCell_far w2 ⟨w.heap.size + 1, 0, none⟩ ⟨gn, 2, none⟩ (.int .i64 z0) (Ne.symm gne)).trans x2
      have f1 := frozen4 v3 1
      obtain ⟨t0, t1, t2, t3⟩ := cells4 v3
      go_wp2_with fail
      refine (specReadDec_any ⟨p1.toArray⟩ _ (by rw [size_of]; exact m1)).mono ?_
      rintro e w' ⟨rfl, rfl⟩
      obtain ⟨z1, HZ1⟩ : ∃ z, Hid (readL p1 = z) := ⟨_, Lib.hid rfl⟩
      rw [show readL (⟨p1.toArray⟩ : ByteArray).data.toList = z1 from HZ1.out]
      have v4 := heap_set1 v3 (.int .i64 z1)
      have r4 := heap_other (g := w.heap.size + 1) (o := 1) r3 (.int .i64 z1) (by omega)
      have yy2 := (World.cell?_setCell_far _ ⟨w.heap.size + 1, 1, none⟩ ⟨gn, 2, none⟩ (.int .i64 z1) (Ne.symm gne)).trans y2
      have f2 := frozen4 v4 2
      clear t0 t1 t2 t3 f0
      obtain ⟨t0, t1, t2, t3⟩ := cells4 v4
      go_wp2_with fail
      refine (specReadDec_any ⟨p2.toArray⟩ _ (by rw [size_of]; exact m2)).mono ?_
      rintro e w' ⟨rfl, rfl⟩
      obtain ⟨z2, HZ2⟩ : ∃ z, Hid (readL p2 = z) := ⟨_, Lib.hid rfl⟩
      rw [show readL (⟨p2.toArray⟩ : ByteArray).data.toList = z2 from HZ2.out]
      have v5 := heap_set2 v4 (.int .i64 z2)
      have r5 := heap_other (g := w.heap.size + 1) (o := 2) r4 (.int .i64 z2) (by omega)
      have B5 := ((B2.setCell (p := ⟨w.heap.size + 1, 0, none⟩) (Nat.le_succ _) (.int .i64 z0)).setCell (p := ⟨w.heap.size + 1, 1, none⟩) (Nat.le_succ _) (.int .i64 z1)).setCell (p := ⟨w.heap.size + 1, 2, none⟩) (Nat.le_succ _) (.int .i64 z2)
      have hS5 := (((hSp2.other (w.heap.size + 1) 0 (.int .i64 z0) (by omega)).other (w.heap.size + 1) 1 (.int .i64 z1) (by omega)).other (w.heap.size + 1) 2 (.int .i64 z2) (by omega))
      obtain ⟨i0, i1, i2, i3⟩ := cells4 v5
      go_wp2_with fail
      clear t0 t1 t2 t3 i0 i1 i2 i3 u0 u1 u2 u3 f1 f2 x0 x1 x2 y1 y2 yy2 v2 v3 v4 r2 r3 r4 B2
      generalize ((w2.setCell ⟨w.heap.size + 1, 0, none⟩ (.int .i64 z0)).setCell ⟨w.heap.size + 1, 1, none⟩ (.int .i64 z1)).setCell ⟨w.heap.size + 1, 2, none⟩ (.int .i64 z2) = W5 at *
      refine (specVersionText_any z0 z1 z2 _ (tailL s.data.toList) _ (RdS.of_strs hS5) (tail_sm HSZ.out)).mono ?_
      rintro e w6 ⟨rfl, hb6⟩
      have v6 := keepB v5 hb6
      have r6 := keepB r5 hb6
      have B6 := B5.trans (hb6.mono B5.size)
      have hS6 := hS5.below hb6
      have hw := hS5.owned
      clear v5 r5 B5 hS5 hb6
      by_cases hv : verOk z0 z1 z2 (tailL s.data.toList) = true
      · have HE : Hid (verText z0 z1 z2 (tailL s.data.toList) = s.data.toList) := Lib.hid (by have := HTX.out; rw [HZ0.out, HZ1.out, HZ2.out] at this; exact this hv)
        have HOK : Hid (readOk s.data.toList = true) := Lib.hid (by rw [HR.out, HZ0.out, HZ1.out, HZ2.out]; exact hv)
        have e9 : ((verText z0 z1 z2 (tailL s.data.toList)) == s.toList) = true := by rw [HE.out, ByteArray.toList_eq]; simp
        clear hv
        obtain ⟨p0', p1', p2', p3'⟩ := cells4 v6
        obtain ⟨q0, q1, q2, q3⟩ := cells4 r6
        have f0 := frozen4 r6 0
        have f1 := frozen4 r6 1
        have f2 := frozen4 r6 2
        have f3 := frozen4 r6 3
        go_wp2_with fail
        refine bodyPost_ret (v := .tuple #[.agg #[.int .i64 (z0), .int .i64 (z1), .int .i64 (z2), .slice (some ⟨gp, 0, none⟩) (tailL s.data.toList).length cp], .bool true]) ?_ rfl (by rw [← HZ0.out, ← HZ1.out, ← HZ2.out]; exact readIs_good HPP.out HOK.out (strs_result (hS6.weaken (by omega)) (fun g h => by have := hw g h; omega) _ _ _ _) (below_result B6 (by omega) _ _ _ _))
        simp [results, Try.results71, go_sem, q0, q1, q2, q3]
      · have HE : Hid (¬ verText z0 z1 z2 (tailL s.data.toList) = s.data.toList) := Lib.hid (by have := HTN.out; rw [HZ0.out, HZ1.out, HZ2.out] at this; exact this hv)
        have HOK : Hid (readOk s.data.toList = false) := Lib.hid (by rw [HR.out, HZ0.out, HZ1.out, HZ2.out]; simpa using hv)
        have e9 : ((verText z0 z1 z2 (tailL s.data.toList)) == s.toList) = false := by rw [ByteArray.toList_eq]; simpa using HE.out
        clear hv
        obtain ⟨q0, q1, q2, q3⟩ := cells4 r6
        have f0 := frozen4 r6 0
        have f1 := frozen4 r6 1
        have f2 := frozen4 r6 2
        have f3 := frozen4 r6 3
        go_wp2_with fail
        refine bodyPost_ret (v := .tuple #[.agg #[.int .i64 0, .int .i64 0, .int .i64 0, .slice none 0 0], .bool false]) ?_ rfl (readIs_bad HOK.out (below_result B6 (by omega) _ _ _ _))
        simp [results, Try.results71, go_sem, q0, q1, q2, q3]
    · have HOK := Lib.hid (readOk_bad h3)
      have q9 : (((partsL s.data.toList).length : Int) != 3) = true := int_bne_true (by omega)
      clear h3
      obtain ⟨q0, q1, q2, q3⟩ := cells4 r2
      have f0 := frozen4 r2 0
      have f1 := frozen4 r2 1
      have f2 := frozen4 r2 2
      have f3 := frozen4 r2 3
      go_wp2_with fail
      refine bodyPost_ret (v := .tuple #[.agg #[.int .i64 0, .int .i64 0, .int .i64 0, .slice none 0 0], .bool false]) ?_ rfl (readIs_bad HOK.out (below_result B2 (by omega) _ _ _ _))
      simp [results, Try.results71, go_sem, q0, q1, q2, q3]
  · have hdn : ¬ 0 ≤ dash s.data.toList := by rw [HD.out]; exact hd
    have HQ2 : Hid (cutL 46 s.data.toList = partsL s.data.toList) := Lib.hid (by unfold partsL; rw [headL_no hdn])
    have HTL := Lib.hid (tailL_no hdn)
    clear hdn
    go_enter Try.func71, Try.ntmps71
    go_wp2_with fail
    refine HA.out.mono ?_
    rw [show Lib.indexByte s.data.toList 45 = d from HD.out]
    rintro e w' ⟨rfl, rfl⟩
    go_wp2_with fail
    refine (l01Cut_any s 46 _ hs).mono ?_
    rintro e w2 ⟨gn, cn, rfl, hSn, hb2⟩
    rw [HQ2.out] at hSn ⊢
    have r2 := keepB r0 hb2
    have v2 := keepB v0 hb2
    have B2 := B0.trans (hb2.mono B0.size)
    have lo2 : w.heap.size + 2 ≤ ((w.alloc (.cells #[.int .i64 0, .int .i64 0, .int .i64 0, .slice none 0 0] 47)).alloc (.cells #[.int .i64 0, .int .i64 0, .int .i64 0, .slice none 0 0] 47)).heap.size := by simp
    clear r0 v0 B0 hb2 HA
    have gnlo : w.heap.size + 2 ≤ gn := by have := hSn.lo; simpa using Nat.le_trans lo2 this
    by_cases h3 : (partsL s.data.toList).length = 3
    · obtain ⟨p0, p1, p2, hp⟩ := len3 h3
      have HPP := Lib.hid hp
      have mm : ∀ x ∈ partsL s.data.toList, x.length ≤ 1048576 := fun x hx => by have h1 := cutL_mem_le 46 (headL s.data.toList) x hx; have h2 := headL_le s.data.toList; have h3 := HSZ.out; omega
      have m0 := mm p0 (by rw [hp]; simp)
      have m1 := mm p1 (by rw [hp]; simp)
      have m2 := mm p2 (by rw [hp]; simp)
      have x0 : w2.cell? ⟨gn, 0, none⟩ = some (.string ⟨p0.toArray⟩) := by rw [hp] at hSn; exact hSn.cell 0 (by simp)
      have x1 : w2.cell? ⟨gn, 1, none⟩ = some (.string ⟨p1.toArray⟩) := by rw [hp] at hSn; exact hSn.cell 1 (by simp)
      have x2 : w2.cell? ⟨gn, 2, none⟩ = some (.string ⟨p2.toArray⟩) := by rw [hp] at hSn; exact hSn.cell 2 (by simp)
      have HR := Lib.hid (readOk_of hp)
      have HTX := Lib.hid (read_text hp)
      have HTN := Lib.hid (read_ok hp)
      rw [h3]
      clear mm hp h3
      have gne : gn ≠ w.heap.size + 1 := by omega
      obtain ⟨u0, u1, u2, u3⟩ := cells4 v2
      have f0 := frozen4 v2 0
      go_wp2_with fail
      refine (specReadDec_any ⟨p0.toArray⟩ _ (by rw [size_of]; exact m0)).mono ?_
      rintro e w' ⟨rfl, rfl⟩
      obtain ⟨z0, HZ0⟩ : ∃ z, Hid (readL p0 = z) := ⟨_, Lib.hid rfl⟩
      rw [show readL (⟨p0.toArray⟩ : ByteArray).data.toList = z0 from HZ0.out]
      have v3 := heap_set0 v2 (.int .i64 z0)
      have r3 := heap_other (g := w.heap.size + 1) (o := 0) r2 (.int .i64 z0) (by omega)
      have y1 := (World.cell?_setCell_far w2 ⟨w.heap.size + 1, 0, none⟩ ⟨gn, 1, none⟩ (.int .i64 z0) (Ne.symm gne)).trans x1
      have y2 := (World.cell?_setCell_far w2 ⟨w.heap.size + 1, 0, none⟩ ⟨gn, 2, none⟩ (.int .i64 z0) (Ne.symm gne)).trans x2
      have f1 := frozen4 v3 1
      obtain ⟨t0, t1, t2, t3⟩ := cells4 v3
      go_wp2_with fail
      refine (specReadDec_any ⟨p1.toArray⟩ _ (by rw [size_of]; exact m1)).mono ?_
      rintro e w' ⟨rfl, rfl⟩
      obtain ⟨z1, HZ1⟩ : ∃ z, Hid (readL p1 = z) := ⟨_, Lib.hid rfl⟩
      rw [show readL (⟨p1.toArray⟩ : ByteArray).data.toList = z1 from HZ1.out]
      have v4 := heap_set1 v3 (.int .i64 z1)
      have r4 := heap_other (g := w.heap.size + 1) (o := 1) r3 (.int .i64 z1) (by omega)
      have yy2 := (World.cell?_setCell_far _ ⟨w.heap.size + 1, 1, none⟩ ⟨gn, 2, none⟩ (.int .i64 z1) (Ne.symm gne)).trans y2
      have f2 := frozen4 v4 2
      clear t0 t1 t2 t3 f0
      obtain ⟨t0, t1, t2, t3⟩ := cells4 v4
      go_wp2_with fail
      refine (specReadDec_any ⟨p2.toArray⟩ _ (by rw [size_of]; exact m2)).mono ?_
      rintro e w' ⟨rfl, rfl⟩
      obtain ⟨z2, HZ2⟩ : ∃ z, Hid (readL p2 = z) := ⟨_, Lib.hid rfl⟩
      rw [show readL (⟨p2.toArray⟩ : ByteArray).data.toList = z2 from HZ2.out]
      have v5 := heap_set2 v4 (.int .i64 z2)
      have r5 := heap_other (g := w.heap.size + 1) (o := 2) r4 (.int .i64 z2) (by omega)
      have B5 := ((B2.setCell (p := ⟨w.heap.size + 1, 0, none⟩) (Nat.le_succ _) (.int .i64 z0)).setCell (p := ⟨w.heap.size + 1, 1, none⟩) (Nat.le_succ _) (.int .i64 z1)).setCell (p := ⟨w.heap.size + 1, 2, none⟩) (Nat.le_succ _) (.int .i64 z2)
      have hS5 : Strs (((w2.setCell ⟨w.heap.size + 1, 0, none⟩ (.int .i64 z0)).setCell ⟨w.heap.size + 1, 1, none⟩ (.int .i64 z1)).setCell ⟨w.heap.size + 1, 2, none⟩ (.int .i64 z2)) (w.heap.size + 2) (.slice none 0 0) (tailL s.data.toList) := by rw [HTL.out]; exact Strs.nil _ _
      obtain ⟨i0, i1, i2, i3⟩ := cells4 v5
      go_wp2_with fail
      clear t0 t1 t2 t3 i0 i1 i2 i3 u0 u1 u2 u3 f1 f2 x0 x1 x2 y1 y2 yy2 v2 v3 v4 r2 r3 r4 B2
      generalize ((w2.setCell ⟨w.heap.size + 1, 0, none⟩ (.int .i64 z0)).setCell ⟨w.heap.size + 1, 1, none⟩ (.int .i64 z1)).setCell ⟨w.heap.size + 1, 2, none⟩ (.int .i64 z2) = W5 at *
      refine (specVersionText_any z0 z1 z2 _ (tailL s.data.toList) _ (RdS.of_strs hS5) (tail_sm HSZ.out)).mono ?_
      rintro e w6 ⟨rfl, hb6⟩
      have v6 := keepB v5 hb6
      have r6 := keepB r5 hb6
      have B6 := B5.trans (hb6.mono B5.size)
      have hS6 := hS5.below hb6
      have hw := hS5.owned
      clear v5 r5 B5 hS5 hb6
      by_cases hv : verOk z0 z1 z2 (tailL s.data.toList) = true
      · have HE : Hid (verText z0 z1 z2 (tailL s.data.toList) = s.data.toList) := Lib.hid (by have := HTX.out; rw [HZ0.out, HZ1.out, HZ2.out] at this; exact this hv)
        have HOK : Hid (readOk s.data.toList = true) := Lib.hid (by rw [HR.out, HZ0.out, HZ1.out, HZ2.out]; exact hv)
        have e9 : ((verText z0 z1 z2 (tailL s.data.toList)) == s.toList) = true := by rw [HE.out, ByteArray.toList_eq]; simp
        clear hv
        obtain ⟨p0', p1', p2', p3'⟩ := cells4 v6
        obtain ⟨q0, q1, q2, q3⟩ := cells4 r6
        have f0 := frozen4 r6 0
        have f1 := frozen4 r6 1
        have f2 := frozen4 r6 2
        have f3 := frozen4 r6 3
        go_wp2_with fail
        refine bodyPost_ret (v := .tuple #[.agg #[.int .i64 (z0), .int .i64 (z1), .int .i64 (z2), .slice none 0 0], .bool true]) ?_ rfl (by rw [← HZ0.out, ← HZ1.out, ← HZ2.out]; exact readIs_good HPP.out HOK.out (strs_result (hS6.weaken (by omega)) (fun g h => by have := hw g h; omega) _ _ _ _) (below_result B6 (by omega) _ _ _ _))
        simp [results, Try.results71, go_sem, q0, q1, q2, q3]
      · have HE : Hid (¬ verText z0 z1 z2 (tailL s.data.toList) = s.data.toList) := Lib.hid (by have := HTN.out; rw [HZ0.out, HZ1.out, HZ2.out] at this; exact this hv)
        have HOK : Hid (readOk s.data.toList = false) := Lib.hid (by rw [HR.out, HZ0.out, HZ1.out, HZ2.out]; simpa using hv)
        have e9 : ((verText z0 z1 z2 (tailL s.data.toList)) == s.toList) = false := by rw [ByteArray.toList_eq]; simpa using HE.out
        clear hv
        obtain ⟨q0, q1, q2, q3⟩ := cells4 r6
        have f0 := frozen4 r6 0
        have f1 := frozen4 r6 1
        have f2 := frozen4 r6 2
        have f3 := frozen4 r6 3
        go_wp2_with fail
        refine bodyPost_ret (v := .tuple #[.agg #[.int .i64 0, .int .i64 0, .int .i64 0, .slice none 0 0], .bool false]) ?_ rfl (readIs_bad HOK.out (below_result B6 (by omega) _ _ _ _))
        simp [results, Try.results71, go_sem, q0, q1, q2, q3]
    · have HOK := Lib.hid (readOk_bad h3)
      have q9 : (((partsL s.data.toList).length : Int) != 3) = true := int_bne_true (by omega)
      clear h3
      obtain ⟨q0, q1, q2, q3⟩ := cells4 r2
      have f0 := frozen4 r2 0
      have f1 := frozen4 r2 1
      have f2 := frozen4 r2 2
      have f3 := frozen4 r2 3
      go_wp2_with fail
      refine bodyPost_ret (v := .tuple #[.agg #[.int .i64 0, .int .i64 0, .int .i64 0, .slice none 0 0], .bool false]) ?_ rfl (readIs_bad HOK.out (below_result B2 (by omega) _ _ _ _))
      simp [results, Try.results71, go_sem, q0, q1, q2, q3]
end Go.Proofs.Ytldfkdkppgammaa

/-
  spec.PutIntegrity returns the integrity text of sums.
-/
namespace Go.Proofs.Ytldfkdkppgammaa
open Go.RowKit

/-- Two texts put together. -/
theorem add_lists (W : World) (x y : List UInt8) (hx : x.length ≤ 1073741824) (hy : y.length ≤ 1073741824) : (Op.stringOp .add ⟨x.toArray⟩ ⟨y.toArray⟩).run Try.prog W = .ok (.string ⟨(x ++ y).toArray⟩) W := by
  rw [run_string_add_sum W _ _ (by simp [ByteArray.size]; omega), ByteArray.mk_append_mk]
set_option maxRecDepth 100000 in
theorem l04Long_any (a : List UInt8) (w : World) : Calls Try.prog 49 #[.string ⟨a.toArray⟩] w fun e w' => e = .returned (.int .i64 (longI a)) ∧ w = w' := by
  by_cases h1 : a = sha1L
  · subst h1
    go_enter Try.func49, Try.ntmps49
    go_wp2
    go_ret
    exact ⟨rfl, rfl⟩
  · by_cases h2 : a = sha256L
    · subst h2
      go_enter Try.func49, Try.ntmps49
      go_wp2
      go_ret
      exact ⟨rfl, rfl⟩
    · by_cases h0 : a = h1L
      · subst h0
        go_enter Try.func49, Try.ntmps49
        go_wp2
        go_ret
        exact ⟨rfl, rfl⟩
      · by_cases h3 : a = sha512L
        · subst h3
          go_enter Try.func49, Try.ntmps49
          go_wp2
          go_ret
          exact ⟨rfl, rfl⟩
        · have HX : Hid (longI a = -1) := Lib.hid (by unfold longI; rw [if_neg h1, if_neg h2, if_neg h0, if_neg h3])
          have q1 : (a == [115, 104, 97, 49]) = false := by simpa [sha1L] using h1
          have q2 : (a == [115, 104, 97, 50, 53, 54]) = false := by simpa [sha256L] using h2
          have q3 : (a == [104, 49]) = false := by simpa [h1L] using h0
          have q4 : (a == [115, 104, 97, 53, 49, 50]) = false := by simpa [sha512L] using h3
          clear h1 h2 h0 h3
          go_enter Try.func49, Try.ntmps49
          go_wp2
          go_ret
          exact ⟨ret_int HX.out.symm, rfl⟩

theorem RdB.at {w : World} {A : Option Addr} {n cap : Nat} {bs : List Bd} (h : RdB w (.slice A n cap) bs) (k : Nat) (hk : k < bs.length) : ∃ g off, A = some ⟨g, off, none⟩ ∧ g < w.heap.size ∧ w.cell? ⟨g, off + k * 2, none⟩ = some (.string ⟨bs[k].1.toArray⟩) ∧ w.cell? ⟨g, off + k * 2 + 1, none⟩ = some (.string ⟨bs[k].2.toArray⟩) := by
  obtain ⟨A', ca', hv, ha⟩ := h
  simp only [Value.slice.injEq] at hv
  obtain ⟨rfl, _, rfl⟩ := hv
  obtain ⟨g, off, hA, hg, hc⟩ := ha (by omega)
  exact ⟨g, off, hA, hg, (hc k hk).1, (hc k hk).2⟩
theorem keep2 {W V : World} {A B o p : Nat} {v u : Value} (hb : Below W.heap.size W V) (h : W.cell? ⟨A, o, none⟩ = some v ∧ W.cell? ⟨B, p, none⟩ = some u) : V.cell? ⟨A, o, none⟩ = some v ∧ V.cell? ⟨B, p, none⟩ = some u := ⟨keepC hb h.1, keepC hb h.2⟩

set_option maxRecDepth 100000 in
set_option maxHeartbeats 4000000 in
theorem specPutIntegrity_any (v : Value) (bs : List Bd) (w : World) (hr : RdB w v bs) (hs : SmB bs) :
    Calls Try.prog 18 #[v] w fun e w' => e = .returned (.string ⟨(intT bs).toArray⟩) ∧ Below w.heap.size w w' := by
  have HR := Lib.hid hr
  have HS := Lib.hid hs
  have hn : bs.length ≤ 1048576 := by unfold SmB at hs; omega
  obtain ⟨A, ca, rfl, _⟩ := hr
  obtain ⟨r, HX⟩ : ∃ r, Hid (intT bs = r) := ⟨_, Lib.hid rfl⟩
  rw [HX.out]
  go_enter Try.func18, Try.ntmps18
  go_wp2_with fail
  go_loopw [3, 4] (fun o i wr => ∃ (k : Nat) (out : List UInt8), k ≤ bs.length ∧ i = .int .i64 k ∧ o = .string ⟨out.toArray⟩ ∧ Hid (intT (bs.take k) = out) ∧ Below w.heap.size w wr) (fun _ i _ => bs.length - (intOf i).toNat)
  case atStart => exact ⟨0, [], Nat.zero_le _, rfl, rfl, Lib.hid rfl, Below.refl _ _⟩
  case round =>
    obtain ⟨k, out, hk, rfl, rfl, HO, hb⟩ := hrel
    by_cases hlt : k < bs.length
    · obtain ⟨g, off, rfl, hg, d1, d2⟩ := (HR.out.below hb).at k hlt
      have hl1 := intT_take HS.out k
      rw [HO.out] at hl1
      have hl2 : bs[k].1.length + bs[k].2.length ≤ 1048576 := by have := smB_mem bs[k] (List.getElem_mem hlt); have := HS.out; unfold SmB at this; omega
      have hways := alg_ways bs[k].1
      have HT1 := Lib.hid (fun (ha : algOk bs[k].1 = true) (h0 : intT (bs.take k) = []) => intT_first hlt ha h0)
      have HT2 := Lib.hid (fun (ha : algOk bs[k].1 = true) (h0 : ¬ intT (bs.take k) = []) => intT_next hlt ha h0)
      have HT3 := Lib.hid (fun (ha : algOk bs[k].1 = false) => intT_skip hlt ha)
      have hbl := b64L_le bs[k].2
      obtain ⟨b, HB⟩ : ∃ b, Hid (bs[k] = b) := ⟨_, Lib.hid rfl⟩
      rw [HB.out] at d1 d2 hl2 hways HT1 HT2 HT3 hbl
      obtain ⟨al, by_⟩ := b
      simp only at d1 d2 hl2 hways HT1 HT2 HT3 hbl
      have k0 : (0 : Int) ≤ (k : Int) := by omega
      have k1 : (k : Int) < (bs.length : Int) := by omega
      rcases hways with ⟨h1, ha⟩ | ⟨h1, h2, ha⟩ | ⟨h1, h2, ha⟩
      · have HN := Lib.hid (HT3.out ha)
        subst h1
        clear ha HT1 HT2 HT3
        unfold h1L at d1
        go_wp2_with fail
        go_roundw
        case rel => exact ⟨k + 1, out, by omega, by go_num, rfl, Lib.hid (by rw [HN.out, HO.out]), hb⟩
        case measure => simp [intOf]; omega
      · have HN := Lib.hid (HT3.out ha)
        have q1 : (al == [104, 49]) = false := by simpa [h1L] using h1
        have HL := Lib.hid (l04Long_any al wr)
        obtain ⟨z, HZ⟩ : ∃ z, Hid (longI al = z) := ⟨_, Lib.hid rfl⟩
        rw [HZ.out] at HL h2
        clear ha h1 HT1 HT2 HT3
        go_wp2_with fail
        refine HL.out.mono ?_
        rintro e w1 ⟨rfl, rfl⟩
        go_wp2_with fail
        go_roundw
        case rel => exact ⟨k + 1, out, by omega, by go_num, rfl, Lib.hid (by rw [HN.out, HO.out]), hb⟩
        case measure => simp [intOf]; omega
      · have q1 : (al == [104, 49]) = false := by simpa [h1L] using h1
        have HL := Lib.hid (l04Long_any al wr)
        obtain ⟨z, HZ⟩ : ∃ z, Hid (longI al = z) := ⟨_, Lib.hid rfl⟩
        rw [HZ.out] at HL h2
        have h2' : ¬ z < 0 := by omega
        have HC := Lib.hid (fun W => specPutBase64_any ⟨by_.toArray⟩ W (by show by_.toArray.size ≤ _; simp; omega))
        obtain ⟨E, HE⟩ : ∃ E, Hid (b64L by_ = E) := ⟨_, Lib.hid rfl⟩
        have HC2 : Hid (∀ W, Calls Try.prog 50 #[.string ⟨by_.toArray⟩] W fun e w' => e = .returned (.string ⟨E.toArray⟩) ∧ Below W.heap.size W w') := Lib.hid (by have := HC.out; simp only [HE.out] at this; exact this)
        rw [HE.out] at hbl
        clear h1 HT3 HC
        by_cases h0 : out = []
        · have HN : Hid (intT (bs.take (k + 1)) = al ++ 45 :: E) := Lib.hid (by rw [HT1.out ha (by rw [HO.out, h0])]; show al ++ 45 :: b64L by_ = _; rw [HE.out])
          subst h0
          obtain ⟨N2, HN2⟩ : ∃ N, Hid (N = al ++ [45]) := ⟨_, Lib.hid rfl⟩
          obtain ⟨N3, HN3⟩ : ∃ N, Hid (N = N2 ++ E) := ⟨_, Lib.hid rfl⟩
          have l2 : N2.length ≤ 1048577 := by rw [HN2.out]; simp; omega
          have s1 : ∀ W, (Op.stringOp .add ⟨#[]⟩ ⟨al.toArray⟩).run Try.prog W = .ok (.string ⟨al.toArray⟩) W := fun W => by have := add_lists W [] al (by simp) (by omega); simpa using this
          have s2 : ∀ W, (Op.stringOp .add ⟨al.toArray⟩ ⟨#[45]⟩).run Try.prog W = .ok (.string ⟨N2.toArray⟩) W := fun W => by rw [HN2.out]; exact add_lists W al [45] (by omega) (by simp)
          have s3 : ∀ W, (Op.stringOp .add ⟨N2.toArray⟩ ⟨E.toArray⟩).run Try.prog W = .ok (.string ⟨N3.toArray⟩) W := fun W => by rw [HN3.out]; exact add_lists W N2 E (by omega) (by omega)
          have HNN : Hid (intT (bs.take (k + 1)) = N3) := Lib.hid (by rw [HN.out, HN3.out, HN2.out]; simp)
          clear ha HT1 HT2
          go_wp2_with fail
          refine HL.out.mono ?_
          rintro e w1 ⟨rfl, rfl⟩
          go_wp2_with fail
          go_region_held3 (fun W' => W'.cell? ⟨g, off + k * 2, none⟩ = some (.string ⟨al.toArray⟩) ∧ W'.cell? ⟨g, off + k * 2 + 1, none⟩ = some (.string ⟨by_.toArray⟩)) (first | exact ⟨d1, d2⟩ | assumption | exact keep2 hb3 (by assumption)) ((first | (go_at_call 50; (with_reducible refine (HC2.out _).mono ?_); rintro e w3 ⟨rfl, hb3⟩)))
          all_goals
            have HBB := hb.trans ((below_drewN _ _ 1).trans (hb3.mono hb.size))
            go_wp2_with fail
            go_roundw
            case rel => exact ⟨k + 1, N3, by omega, by go_num, rfl, HNN, HBB⟩
            case measure => simp [intOf]; omega
        · have HN : Hid (intT (bs.take (k + 1)) = out ++ [32] ++ (al ++ 45 :: E)) := Lib.hid (by rw [HT2.out ha (by rw [HO.out]; exact h0), HO.out]; show out ++ [32] ++ (al ++ 45 :: b64L by_) = _; rw [HE.out])
          have z1 : out.isEmpty = false := by cases out <;> simp_all
          have z2 : (out == []) = false := by simpa using h0
          obtain ⟨N0, HN0⟩ : ∃ N, Hid (N = out ++ [32]) := ⟨_, Lib.hid rfl⟩
          obtain ⟨N1, HN1⟩ : ∃ N, Hid (N = N0 ++ al) := ⟨_, Lib.hid rfl⟩
          obtain ⟨N2, HN2⟩ : ∃ N, Hid (N = N1 ++ [45]) := ⟨_, Lib.hid rfl⟩
          obtain ⟨N3, HN3⟩ : ∃ N, Hid (N = N2 ++ E) := ⟨_, Lib.hid rfl⟩
          have l0 : N0.length ≤ 8388609 := by rw [HN0.out]; simp; omega
          have l1 : N1.length ≤ 9437185 := by rw [HN1.out]; simp; omega
          have l2 : N2.length ≤ 9437186 := by rw [HN2.out]; simp; omega
          have s0 : ∀ W, (Op.stringOp .add ⟨out.toArray⟩ ⟨#[32]⟩).run Try.prog W = .ok (.string ⟨N0.toArray⟩) W := fun W => by rw [HN0.out]; exact add_lists W out [32] (by omega) (by simp)
          have s1 : ∀ W, (Op.stringOp .add ⟨N0.toArray⟩ ⟨al.toArray⟩).run Try.prog W = .ok (.string ⟨N1.toArray⟩) W := fun W => by rw [HN1.out]; exact add_lists W N0 al (by omega) (by omega)
          have s2 : ∀ W, (Op.stringOp .add ⟨N1.toArray⟩ ⟨#[45]⟩).run Try.prog W = .ok (.string ⟨N2.toArray⟩) W := fun W => by rw [HN2.out]; exact add_lists W N1 [45] (by omega) (by simp)
          have s3 : ∀ W, (Op.stringOp .add ⟨N2.toArray⟩ ⟨E.toArray⟩).run Try.prog W = .ok (.string ⟨N3.toArray⟩) W := fun W => by rw [HN3.out]; exact add_lists W N2 E (by omega) (by omega)
          have HNN : Hid (intT (bs.take (k + 1)) = N3) := Lib.hid (by rw [HN.out, HN3.out, HN2.out, HN1.out, HN0.out]; simp)
          clear ha HT1 HT2 h0
          go_wp2_with fail
          refine HL.out.mono ?_
          rintro e w1 ⟨rfl, rfl⟩
          go_wp2_with fail
          go_region_held3 (fun W' => W'.cell? ⟨g, off + k * 2, none⟩ = some (.string ⟨al.toArray⟩) ∧ W'.cell? ⟨g, off + k * 2 + 1, none⟩ = some (.string ⟨by_.toArray⟩)) (first | exact ⟨d1, d2⟩ | assumption | exact keep2 hb3 (by assumption)) ((first | (go_at_call 50; (with_reducible refine (HC2.out _).mono ?_); rintro e w3 ⟨rfl, hb3⟩)))
          all_goals
            have HBB := hb.trans ((below_drewN _ _ 1).trans (hb3.mono hb.size))
            go_wp2_with fail
            go_roundw
            case rel => exact ⟨k + 1, N3, by omega, by go_num, rfl, HNN, HBB⟩
            case measure => simp [intOf]; omega
    · have HE : Hid (r = out) := Lib.hid (by rw [← HX.out, ← HO.out, intT_all bs hlt])
      go_wp2_with fail
      go_ret
      exact ⟨ret_str HE.out.symm, hb⟩
end Go.Proofs.Ytldfkdkppgammaa

/-
  spec.PutPurl returns the package URL.
-/
namespace Go.Proofs.Ytldfkdkppgammaa
open Go.RowKit

theorem str_beq_nil {l : List UInt8} (h : l ≠ []) : l.isEmpty = false ∧ (l == []) = false := by cases l <;> simp_all

set_option maxRecDepth 100000 in
set_option maxHeartbeats 4000000 in
theorem specPutPurl_any (k : Int) (a b : List UInt8) (w : World) (ha : a.length ≤ 1048576) (hb : b.length ≤ 1048576) :
    Calls Try.prog 34 #[.int .i64 k, .string ⟨a.toArray⟩, .string ⟨b.toArray⟩] w fun e w' => e = .returned (.string ⟨(purlL k a b).toArray⟩) ∧ Below w.heap.size w w' := by
  have HV : Hid (Calls Try.prog 71 #[.string ⟨b.toArray⟩] w (ReadIs w b)) := Lib.hid (specReadVersion_any ⟨b.toArray⟩ w (by show b.toArray.size ≤ _; simp; omega))
  have HN : Hid (∀ W, Calls Try.prog 72 #[.string ⟨a.toArray⟩] W fun e w' => e = .returned (.bool (specN a)) ∧ Below W.heap.size W w') := Lib.hid (fun W => specNameOk_any ⟨a.toArray⟩ W (by show a.toArray.size ≤ _; simp; omega))
  have HK := Lib.hid (fun W => specKindName_any k W)
  have hkl := kindL_len k
  obtain ⟨r, HR⟩ : ∃ r, Hid (purlL k a b = r) := ⟨_, Lib.hid rfl⟩
  rw [HR.out]
  obtain ⟨K, HKK⟩ : ∃ K, Hid (kindL k = K) := ⟨_, Lib.hid rfl⟩
  simp only [HKK.out] at HK
  rw [HKK.out] at hkl
  obtain ⟨v, HVV⟩ : ∃ v, Hid (readOk b = v) := ⟨_, Lib.hid rfl⟩
  obtain ⟨m, HM⟩ : ∃ m, Hid (specN a = m) := ⟨_, Lib.hid rfl⟩
  simp only [HM.out] at HN
  by_cases hk0 : K = []
  · have HX : Hid (r = []) := Lib.hid (by rw [← HR.out]; exact purl_kind a b (by rw [HKK.out, hk0]))
    subst hk0
    go_enter Try.func34, Try.ntmps34
    go_wp2_with fail
    refine HV.out.mono ?_
    rintro e w1 ⟨u, rfl, hu, hb1⟩
    obtain ⟨A, c, rfl⟩ := hu.slice
    go_wp2_with fail
    refine (HK.out _).mono ?_
    rintro e w2 ⟨rfl, hb2⟩
    have B1 := hb1.alloc hb1.size (.cells #[.int .i64 (readA b 0), .int .i64 (readA b 1), .int .i64 (readA b 2), .slice A (readP b).length c] 47)
    go_wp2_with fail
    go_ret
    exact ⟨ret_str HX.out.symm, B1.trans (hb2.mono B1.size)⟩
  obtain ⟨e1, e2⟩ := str_beq_nil hk0
  cases m with
  | false =>
    have HX : Hid (r = []) := Lib.hid (by rw [← HR.out]; exact purl_name k b HM.out)
    clear hk0
    go_enter Try.func34, Try.ntmps34
    go_wp2_with fail
    refine HV.out.mono ?_
    rintro e w1 ⟨u, rfl, hu, hb1⟩
    obtain ⟨A, c, rfl⟩ := hu.slice
    go_wp2_with fail
    refine (HK.out _).mono ?_
    rintro e w2 ⟨rfl, hb2⟩
    have B1 := hb1.alloc hb1.size (.cells #[.int .i64 (readA b 0), .int .i64 (readA b 1), .int .i64 (readA b 2), .slice A (readP b).length c] 47)
    have B2 := B1.trans (hb2.mono B1.size)
    go_wp2_with fail
    refine (HN.out _).mono ?_
    rintro e w3 ⟨rfl, hb3⟩
    go_wp2_with fail
    go_ret
    exact ⟨ret_str HX.out.symm, B2.trans (hb3.mono B2.size)⟩
  | true =>
    cases v with
    | false =>
      have HX : Hid (r = []) := Lib.hid (by rw [← HR.out]; exact purl_ver k a HVV.out)
      clear hk0
      go_enter Try.func34, Try.ntmps34
      go_wp2_with fail
      refine HV.out.mono ?_
      rintro e w1 ⟨u, rfl, hu, hb1⟩
      obtain ⟨A, c, rfl⟩ := hu.slice
      rw [HVV.out]
      go_wp2_with fail
      refine (HK.out _).mono ?_
      rintro e w2 ⟨rfl, hb2⟩
      have B1 := hb1.alloc hb1.size (.cells #[.int .i64 (readA b 0), .int .i64 (readA b 1), .int .i64 (readA b 2), .slice A (readP b).length c] 47)
      have B2 := B1.trans (hb2.mono B1.size)
      go_wp2_with fail
      refine (HN.out _).mono ?_
      rintro e w3 ⟨rfl, hb3⟩
      go_wp2_with fail
      go_ret
      exact ⟨ret_str HX.out.symm, B2.trans (hb3.mono B2.size)⟩
    | true =>
      have HX : Hid (r = [112, 107, 103, 58] ++ K ++ pctP (cutL 47 a) ++ 64 :: pctL b) := Lib.hid (by rw [← HR.out, purl_yes (by rw [HKK.out]; exact hk0) HM.out HVV.out]; unfold purlT; rw [HKK.out])
      have h60 := specN_60 HM.out
      have HC : Hid (∀ W, Calls Try.prog 73 #[.string ⟨a.toArray⟩, .int .u8 47] W fun e w' => ∃ g cap, e = .returned (.slice (some ⟨g, 0, none⟩) (cutL 47 a).length cap) ∧ Strs w' W.heap.size (.slice (some ⟨g, 0, none⟩) (cutL 47 a).length cap) (cutL 47 a) ∧ Below W.heap.size W w') := Lib.hid (fun W => l01Cut_any ⟨a.toArray⟩ 47 W (by show a.toArray.size ≤ _; simp; omega))
      have HP := Lib.hid (fun (l : List UInt8) (hl : l.length ≤ 1048576) W => (show Calls Try.prog 74 #[.string ⟨l.toArray⟩] W fun e w' => e = .returned (.string ⟨(pctL l).toArray⟩) ∧ Below W.heap.size W w' from specPutPercent_any ⟨l.toArray⟩ W (by show l.toArray.size ≤ _; simp; omega)))
      have hLl : (cutL 47 a).length ≤ 61 := by have := cutL_len_le 47 a; omega
      have HLM : Hid (∀ l ∈ cutL 47 a, l.length ≤ 60) := Lib.hid (fun l hl => by have := cutL_mem_le 47 a l hl; omega)
      have hbp := pctL_len b
      obtain ⟨L, HL⟩ : ∃ L, Hid (cutL 47 a = L) := ⟨_, Lib.hid rfl⟩
      simp only [HL.out] at HC HLM
      rw [HL.out] at hLl HX
      have s0 : ∀ W, (Op.stringOp .add ⟨#[112, 107, 103, 58]⟩ ⟨K.toArray⟩).run Try.prog W = .ok (.string ⟨([112, 107, 103, 58] ++ K).toArray⟩) W := fun W => add_lists W [112, 107, 103, 58] K (by simp) (by omega)
      clear hk0
      go_enter Try.func34, Try.ntmps34
      go_wp2_with fail
      refine HV.out.mono ?_
      rintro e w1 ⟨u, rfl, hu, hb1⟩
      obtain ⟨A, c, rfl⟩ := hu.slice
      rw [HVV.out]
      go_wp2_with fail
      refine (HK.out _).mono ?_
      rintro e w2 ⟨rfl, hb2⟩
      have B1 := hb1.alloc hb1.size (.cells #[.int .i64 (readA b 0), .int .i64 (readA b 1), .int .i64 (readA b 2), .slice A (readP b).length c] 47)
      have B2 := B1.trans (hb2.mono B1.size)
      clear hu hb1 B1 hb2 HV
      go_wp2_with fail
      refine (HN.out _).mono ?_
      rintro e w3 ⟨rfl, hb3⟩
      have B3 := B2.trans (hb3.mono B2.size)
      clear B2 hb3 HN
      go_wp2_with fail
      refine (HK.out _).mono ?_
      rintro e w4 ⟨rfl, hb4⟩
      have B4 := B3.trans (hb4.mono B3.size)
      clear B3 hb4 HK
      go_wp2_with fail
      refine (HC.out _).mono ?_
      rintro e w5 ⟨g, cap, rfl, hS, hb5⟩
      have B5 := B4.trans (hb5.mono B4.size)
      clear B4 hb5 HC s0
      go_wp2_with fail
      go_loopw [9, 11] (fun o i wr => ∃ (j : Nat) (out : List UInt8), j ≤ L.length ∧ i = .int .i64 j ∧ o = .string ⟨out.toArray⟩ ∧ out.length ≤ 10 + 181 * j ∧ Hid ([112, 107, 103, 58] ++ K ++ pctP (L.take j) = out) ∧ Below w5.heap.size w5 wr) (fun _ i _ => L.length - (intOf i).toNat)
      case atStart => exact ⟨0, [112, 107, 103, 58] ++ K, Nat.zero_le _, rfl, rfl, by simp; omega, Lib.hid (by simp [pctP]), Below.refl _ _⟩
      case round =>
        obtain ⟨j, out, hj, rfl, rfl, hol, HO, hbr⟩ := hrel
        by_cases hlt : j < L.length
        · have hSr := hS.below hbr
          have d1 : wr.cell? ⟨g, j, none⟩ = some (.string ⟨L[j].toArray⟩) := hSr.cell j hlt
          have hp := HLM.out L[j] (List.getElem_mem hlt)
          have HQ := Lib.hid (HP.out L[j] (by omega))
          have hpl := pctL_len L[j]
          have HT := Lib.hid (pctP_snoc hlt)
          obtain ⟨E, HE⟩ : ∃ E, Hid (pctL L[j] = E) := ⟨_, Lib.hid rfl⟩
          simp only [HE.out] at HQ
          rw [HE.out] at hpl HT
          obtain ⟨N1, HN1⟩ : ∃ N, Hid (N = out ++ [47]) := ⟨_, Lib.hid rfl⟩
          obtain ⟨N2, HN2⟩ : ∃ N, Hid (N = N1 ++ E) := ⟨_, Lib.hid rfl⟩
          have l1 : N1.length ≤ 11 + 181 * j := by rw [HN1.out]; simp; omega
          have l2 : N2.length ≤ 10 + 181 * (j + 1) := by rw [HN2.out]; simp; omega
          have s1 : ∀ W, (Op.stringOp .add ⟨out.toArray⟩ ⟨#[47]⟩).run Try.prog W = .ok (.string ⟨N1.toArray⟩) W := fun W => by rw [HN1.out]; exact add_lists W out [47] (by omega) (by simp)
          have s2 : ∀ W, (Op.stringOp .add ⟨N1.toArray⟩ ⟨E.toArray⟩).run Try.prog W = .ok (.string ⟨N2.toArray⟩) W := fun W => by rw [HN2.out]; exact add_lists W N1 E (by omega) (by omega)
          have HNN : Hid ([112, 107, 103, 58] ++ K ++ pctP (L.take (j + 1)) = N2) := Lib.hid (by rw [HT.out, HN2.out, HN1.out, ← HO.out]; simp)
          have k0 : (0 : Int) ≤ (j : Int) := by omega
          have k1 : (j : Int) < (L.length : Int) := by omega
          clear hSr hp
          go_wp2_with fail
          refine (HQ.out _).mono ?_
          rintro e w6 ⟨rfl, hb6⟩
          have HB6 := hbr.trans (hb6.mono hbr.size)
          go_wp2_with fail
          go_roundw
          case rel => exact ⟨j + 1, N2, by omega, by go_num, rfl, l2, HNN, HB6⟩
          case measure => simp [intOf]; omega
        · have HQ := Lib.hid (HP.out b hb)
          obtain ⟨E, HE⟩ : ∃ E, Hid (pctL b = E) := ⟨_, Lib.hid rfl⟩
          simp only [HE.out] at HQ
          rw [HE.out] at hbp HX
          obtain ⟨N1, HN1⟩ : ∃ N, Hid (N = out ++ [64]) := ⟨_, Lib.hid rfl⟩
          obtain ⟨N2, HN2⟩ : ∃ N, Hid (N = N1 ++ E) := ⟨_, Lib.hid rfl⟩
          have l1 : N1.length ≤ 12000 := by rw [HN1.out]; simp; omega
          have s1 : ∀ W, (Op.stringOp .add ⟨out.toArray⟩ ⟨#[64]⟩).run Try.prog W = .ok (.string ⟨N1.toArray⟩) W := fun W => by rw [HN1.out]; exact add_lists W out [64] (by omega) (by simp)
          have s2 : ∀ W, (Op.stringOp .add ⟨N1.toArray⟩ ⟨E.toArray⟩).run Try.prog W = .ok (.string ⟨N2.toArray⟩) W := fun W => by rw [HN2.out]; exact add_lists W N1 E (by omega) (by omega)
          have HNN : Hid (r = N2) := Lib.hid (by rw [HX.out, HN2.out, HN1.out, ← HO.out, pctP_all hlt]; simp)
          go_wp2_with fail
          refine (HQ.out _).mono ?_
          rintro e w6 ⟨rfl, hb6⟩
          have HB6 := hbr.trans (hb6.mono hbr.size)
          go_wp2_with fail
          go_ret
          exact ⟨ret_str HNN.out.symm, B5.trans (HB6.mono B5.size)⟩
end Go.Proofs.Ytldfkdkppgammaa

/-
  spec.GetPurl: the kind, name and version of a package URL.
-/
namespace Go.Proofs.Ytldfkdkppgammaa
open Go.RowKit

theorem lastK_form (c : UInt8) (l : List UInt8) : ∀ k, k ≤ l.length → (lastK l c k = -1 ∧ noM c (l.take k)) ∨ ∃ i : Nat, i < k ∧ lastK l c k = (i : Int) ∧ l.getD i 0 = c ∧ noM c ((l.take k).drop (i + 1))
  | 0, _ => .inl ⟨rfl, by simp; exact noM_nil c⟩
  | k + 1, h => by
    have ih := lastK_form c l k (by omega)
    have hk : k < l.length := by omega
    have hg : l.getD k 0 = l[k] := by rw [List.getD_eq_getElem?_getD, List.getElem?_eq_getElem hk]; rfl
    have ht : l.take (k + 1) = l.take k ++ [l[k]] := List.take_succ_eq_append_getElem hk
    by_cases hc : l.getD k 0 = c
    · right
      refine ⟨k, by omega, by unfold lastK; rw [if_pos hc], hc, ?_⟩
      rw [List.drop_of_length_le (by simp; omega)]
      exact noM_nil c
    · have e : lastK l c (k + 1) = lastK l c k := by conv => lhs; unfold lastK
                                                     rw [if_neg hc]
      have hx : noM c [l[k]] := fun x hx => by simp at hx; subst hx; rw [← hg]; exact hc
      rcases ih with ⟨h1, h2⟩ | ⟨i, hi, h1, h2, h3⟩
      · left; rw [e, ht]; exact ⟨h1, noM_app h2 hx⟩
      · right
        refine ⟨i, by omega, by rw [e]; exact h1, h2, ?_⟩
        rw [ht, List.drop_append_of_le_length (by simp; omega)]
        exact noM_app h3 hx
/-- What stands before the last at, and what behind it. -/
theorem key_form (s : ByteArray) : (s.data.toList = (keyA s).data.toList ++ 64 :: (keyB s).data.toList ∧ noM 64 (keyB s).data.toList) ∨ (noM 64 s.data.toList ∧ (keyA s).data.toList = [] ∧ (keyB s).data.toList = []) := by
  have hl : s.data.toList.length = s.size := by simp
  rcases lastK_form 64 s.data.toList s.size (by omega) with ⟨h1, h2⟩ | ⟨i, hi, h1, h2, h3⟩
  · right
    rw [List.take_of_length_le (by omega)] at h2
    rw [keyA_miss (by rw [h1]; omega), keyB_miss (by rw [h1]; omega)]
    exact ⟨h2, rfl, rfl⟩
  · left
    rw [keyA_hit h1, keyB_hit h1, piece_end, piece]
    rw [List.take_of_length_le (by omega)] at h3
    refine ⟨?_, h3⟩
    have : s.data.toList.drop i = 64 :: s.data.toList.drop (i + 1) := by
      rw [List.drop_eq_getElem_cons (by omega)]
      congr 1
      rw [← h2, List.getD_eq_getElem?_getD, List.getElem?_eq_getElem (by omega)]; rfl
    show s.data.toList = (s.data.toList.take i).drop 0 ++ 64 :: s.data.toList.drop (i + 1)
    rw [← this, List.drop_zero, List.take_append_drop]
theorem key_len (s : ByteArray) : (keyA s).data.toList.length ≤ s.size ∧ (keyB s).data.toList.length ≤ s.size := by
  have hl : s.data.toList.length = s.size := by simp
  rcases key_form s with ⟨h, _⟩ | ⟨_, h1, h2⟩
  · have := congrArg List.length h
    simp only [List.length_append, List.length_cons] at this
    omega
  · rw [h1, h2]; simp

/-- spec.GetPercent, whatever it says of the text. -/
theorem specPct_text (l : List UInt8) (w : World) (hl : l.length ≤ 1048576) :
    Calls Try.prog 80 #[.string ⟨l.toArray⟩] w fun e w' => e = .returned (.tuple #[.string ⟨(decP l).toArray⟩, .bool (pctS l).isSome]) ∧ Below w.heap.size w w' := by
  refine (specGetPercent_any ⟨l.toArray⟩ w (by show l.toArray.size ≤ _; simp; omega)).mono ?_
  rintro e w' ⟨rfl, hb⟩
  refine ⟨?_, hb⟩
  show Ending.returned (optText (pctS l)) = _
  unfold decP
  cases pctS l <;> rfl

theorem nameP_one (ps : List (List UInt8)) (h : 0 < ps.length) : nameP (ps.take 1) = decP ps[0] := by
  cases ps with
  | nil => simp at h
  | cons x l => simp [nameP, join_one]
theorem nameP_more (ps : List (List UInt8)) {j : Nat} (h : j < ps.length) (hj : 0 < j) : nameP (ps.take (j + 1)) = nameP (ps.take j) ++ [47] ++ decP ps[j] := by
  unfold nameP
  rw [List.take_succ_eq_append_getElem h, List.map_append, List.map_cons, List.map_nil, join_snoc]
  intro e
  have := congrArg List.length e
  rw [List.length_map, List.length_take, List.length_nil] at this
  omega
theorem all_more (ps : List (List UInt8)) (f : List UInt8 → Bool) {j : Nat} (h : j < ps.length) : (ps.take (j + 1)).all f = ((ps.take j).all f && f ps[j]) := by
  rw [List.take_succ_eq_append_getElem h, List.all_append, List.all_cons, List.all_nil, Bool.and_true]
/-- No kind below k fits. -/
def noneK (s a b : List UInt8) (k : Nat) : Prop := ∀ j : Nat, j < k → ¬ purlL (j : Int) a b = s
theorem noneK_zero (s a b : List UInt8) : noneK s a b 0 := fun j h => by omega
theorem noneK_succ {s a b : List UInt8} {k : Nat} (h : noneK s a b k) (hk : ¬ purlL (k : Int) a b = s) : noneK s a b (k + 1) := fun j hj => by
  rcases Nat.lt_or_ge j k with h1 | h1
  · exact h j h1
  · have : j = k := by omega
    subst this; exact hk
theorem kindAt_at {s a b : List UInt8} {k : Nat} (h : noneK s a b k) (hk : k < 4) (he : purlL (k : Int) a b = s) : kindAt s a b = k := by
  have n0 : 0 < k → ¬ purlL 0 a b = s := fun hj => h 0 hj
  have n1 : 1 < k → ¬ purlL 1 a b = s := fun hj => h 1 hj
  have n2 : 2 < k → ¬ purlL 2 a b = s := fun hj => h 2 hj
  unfold kindAt
  obtain rfl | rfl | rfl | rfl : k = 0 ∨ k = 1 ∨ k = 2 ∨ k = 3 := by omega
  · rw [if_pos (show purlL 0 a b = s from he)]; rfl
  · rw [if_neg (n0 (by omega)), if_pos (show purlL 1 a b = s from he)]; rfl
  · rw [if_neg (n0 (by omega)), if_neg (n1 (by omega)), if_pos (show purlL 2 a b = s from he)]; rfl
  · rw [if_neg (n0 (by omega)), if_neg (n1 (by omega)), if_neg (n2 (by omega)), if_pos (show purlL 3 a b = s from he)]; rfl
theorem kindAt_none {s a b : List UInt8} {k : Nat} (h : noneK s a b k) (hk : 4 ≤ k) : kindAt s a b = -1 := by
  have n0 : ¬ purlL 0 a b = s := h 0 (by omega)
  have n1 : ¬ purlL 1 a b = s := h 1 (by omega)
  have n2 : ¬ purlL 2 a b = s := h 2 (by omega)
  have n3 : ¬ purlL 3 a b = s := h 3 (by omega)
  unfold kindAt; rw [if_neg n0, if_neg n1, if_neg n2, if_neg n3]
def trpV (t : Trp) : Value := .tuple #[.int .i64 t.1, .string ⟨t.2.1.toArray⟩, .string ⟨t.2.2.toArray⟩]

set_option maxRecDepth 100000 in
set_option maxHeartbeats 4000000 in
theorem specGetPurl_any (s : ByteArray) (w : World) (hs : s.size ≤ 1048576) :
    Calls Try.prog 36 #[.string s] w fun e w' => e = .returned (trpV (getS s.data.toList (keyA s).data.toList (keyB s).data.toList)) ∧ Below w.heap.size w w' := by
  have HK := Lib.hid (specSplitKey_any s w hs)
  obtain ⟨hA, hB⟩ := key_len s
  obtain ⟨h, Hh⟩ : ∃ h, Hid ((keyA s).data.toList = h) := ⟨_, Lib.hid rfl⟩
  obtain ⟨t, Ht⟩ : ∃ t, Hid ((keyB s).data.toList = t) := ⟨_, Lib.hid rfl⟩
  have ea : keyA s = ⟨h.toArray⟩ := bytes_ext (by rw [Hh.out])
  have eb : keyB s = ⟨t.toArray⟩ := bytes_ext (by rw [Ht.out])
  rw [ea, eb] at HK
  rw [Hh.out, Ht.out]
  rw [Hh.out] at hA
  rw [Ht.out] at hB
  clear ea eb Hh Ht
  obtain ⟨r, HR⟩ : ∃ r, Hid (getS s.data.toList h t = r) := ⟨_, Lib.hid rfl⟩
  rw [HR.out]
  have HP := Lib.hid (fun (l : List UInt8) (hl : l.length ≤ 1048576) W => specPct_text l W hl)
  have HC : Hid (∀ W, Calls Try.prog 73 #[.string ⟨h.toArray⟩, .int .u8 47] W fun e w' => ∃ g cap, e = .returned (.slice (some ⟨g, 0, none⟩) (cutL 47 h).length cap) ∧ Strs w' W.heap.size (.slice (some ⟨g, 0, none⟩) (cutL 47 h).length cap) (cutL 47 h) ∧ Below W.heap.size W w') := Lib.hid (fun W => l01Cut_any ⟨h.toArray⟩ 47 W (by show h.toArray.size ≤ _; simp; omega))
  have hjl := tail_jl h
  have hpl := cutL_len_le 47 h
  have hdl := pctS_le t
  obtain ⟨p0, ps, HPS⟩ : ∃ p0 ps, Hid (cutL 47 h = p0 :: ps) := by
    cases hc : cutL 47 h with
    | nil => exact absurd hc (cutL_ne 47 h)
    | cons x l => exact ⟨x, l, Lib.hid rfl⟩
  rw [HPS.out] at hjl hpl
  simp only [HPS.out] at HC
  simp only [List.tail_cons, List.length_cons] at hjl hpl HC
  have HRR : Hid (r = getS s.data.toList h t ∧ (cutL 47 h).tail = ps) := Lib.hid ⟨HR.out.symm, by rw [HPS.out]; rfl⟩
  have HV := Lib.hid (HP.out t (by omega))
  obtain ⟨ok0, HO0⟩ : ∃ o, Hid ((pctS t).isSome = o) := ⟨_, Lib.hid rfl⟩
  obtain ⟨ver, HVE⟩ : ∃ v, Hid (decP t = v) := ⟨_, Lib.hid rfl⟩
  simp only [HO0.out, HVE.out] at HV
  have hvl : ver.length ≤ 1048576 := by rw [← HVE.out]; show ((pctS t).getD []).length ≤ _; omega
  clear hdl HPS
  go_enter Try.func36, Try.ntmps36
  go_wp2_with fail
  refine HK.out.mono ?_
  rintro e w1 ⟨rfl, B1⟩
  go_wp2_with fail
  refine (HV.out _).mono ?_
  rintro e w2 ⟨rfl, hb2⟩
  have B2 := B1.trans (hb2.mono B1.size)
  clear B1 hb2 HV HK
  go_wp2_with fail
  refine (HC.out _).mono ?_
  rintro e w3 ⟨g, cap, rfl, hS, hb3⟩
  have B3 := B2.trans (hb3.mono B2.size)
  clear B2 hb3 HC
  go_wp2_with fail
  go_loopw [8, 10, 11, 12, 13] (fun o nm i _ _ wr => ∃ (j I : Nat) (ok : Bool) (out : List UInt8), I = j + 1 ∧ j ≤ ps.length ∧ i = .int .i64 (I : Int) ∧ o = .bool ok ∧ nm = .string ⟨out.toArray⟩ ∧ Hid (nameP (ps.take j) = out) ∧ Hid (ok = (ok0 && (ps.take j).all fun p => (pctS p).isSome)) ∧ Below w3.heap.size w3 wr) (fun _ _ i _ _ _ => ps.length + 1 - (intOf i).toNat)
  case atStart => exact ⟨0, 1, ok0, [], rfl, Nat.zero_le _, rfl, rfl, rfl, Lib.hid (by simp [nameP, Lib.join, List.intercalate]), Lib.hid (by simp), Below.refl _ _⟩
  case round =>
    obtain ⟨j, I, ok, out, hI, hj, rfl, rfl, rfl, HN, HO, hbr⟩ := hrel
    have hol : out.length ≤ 1048576 := by rw [← HN.out]; have := nameP_len ps j; omega
    have HI := Lib.hid hI
    have hI1 : I ≤ 1048600 := by omega
    by_cases hlt : j < ps.length
    · have hSr := hS.below hbr
      have d1 : wr.cell? ⟨g, I, none⟩ = some (.string ⟨ps[j].toArray⟩) := by rw [HI.out]; exact hSr.cell (j + 1) (by simp; omega)
      have hp : ps[j].length ≤ 1048576 := by have := jl_mem ps[j] (List.getElem_mem hlt); omega
      have HQ := Lib.hid (HP.out ps[j] hp)
      have hdl : (decP ps[j]).length ≤ 1048576 := by have := pctS_le ps[j]; show ((pctS ps[j]).getD []).length ≤ _; omega
      have HA := Lib.hid (all_more ps (fun p => (pctS p).isSome) hlt)
      have HN1 := Lib.hid (fun (hj : 0 < j) => nameP_more ps hlt hj)
      have HN0 := Lib.hid (fun (_ : j = 0) => nameP_one ps (by omega))
      obtain ⟨fine, HF⟩ : ∃ f, Hid ((pctS ps[j]).isSome = f) := ⟨_, Lib.hid rfl⟩
      obtain ⟨E, HE⟩ : ∃ E, Hid (decP ps[j] = E) := ⟨_, Lib.hid rfl⟩
      simp only [HF.out, HE.out] at HQ
      rw [HE.out] at hdl
      have k0 : (0 : Int) ≤ (I : Int) := by omega
      have k1 : (I : Int) < ((ps.length + 1 : Nat) : Int) := by omega
      have k2 : I < ps.length + 1 := by omega
      have HO2 : Hid ((ok && fine) = (ok0 && (ps.take (j + 1)).all fun p => (pctS p).isSome)) := Lib.hid (by rw [HA.out, HO.out, HF.out, Bool.and_assoc])
      clear hSr hp HA hI
      by_cases hj0 : j = 0
      · have HNN : Hid (nameP (ps.take (j + 1)) = E) := Lib.hid (by subst hj0; rw [HN0.out rfl]; exact HE.out)
        have HOE : Hid (out = []) := Lib.hid (by rw [← HN.out, hj0]; simp [nameP, Lib.join, List.intercalate])
        have hg : ¬ (1 : Int) < (I : Int) := by have := HI.out; omega
        obtain rfl := HOE.out
        have s1 : ∀ W, (Op.stringOp .add ⟨#[]⟩ ⟨E.toArray⟩).run Try.prog W = .ok (.string ⟨E.toArray⟩) W := fun W => by have := add_lists W [] E (by simp) (by omega); simpa using this
        clear hj0 HN0 HN1 HOE
        cases ok
        all_goals
          go_wp2_with fail
          refine (HQ.out _).mono ?_
          rintro e w4 ⟨rfl, hb4⟩
          have HB := hbr.trans (hb4.mono hbr.size)
          go_wp2_with fail
          go_roundw
          case rel => exact ⟨j + 1, I + 1, _, E, by rw [HI.out], by omega, by go_num, rfl, rfl, HNN, HO2, HB⟩
          case measure => simp [intOf]; omega
      · have HNN : Hid (nameP (ps.take (j + 1)) = out ++ [47] ++ E) := Lib.hid (by rw [HN1.out (by omega), HN.out]; rw [HE.out])
        have hg : (1 : Int) < (I : Int) := by have := HI.out; omega
        obtain ⟨N1, HNA⟩ : ∃ N, Hid (N = out ++ [47]) := ⟨_, Lib.hid rfl⟩
        obtain ⟨N2, HNB⟩ : ∃ N, Hid (N = N1 ++ E) := ⟨_, Lib.hid rfl⟩
        have l1 : N1.length ≤ 1048577 := by rw [HNA.out]; simp; omega
        have s0 : ∀ W, (Op.stringOp .add ⟨out.toArray⟩ ⟨#[47]⟩).run Try.prog W = .ok (.string ⟨N1.toArray⟩) W := fun W => by rw [HNA.out]; exact add_lists W out [47] (by omega) (by simp)
        have s1 : ∀ W, (Op.stringOp .add ⟨N1.toArray⟩ ⟨E.toArray⟩).run Try.prog W = .ok (.string ⟨N2.toArray⟩) W := fun W => by rw [HNB.out]; exact add_lists W N1 E (by omega) (by omega)
        have HN2 : Hid (nameP (ps.take (j + 1)) = N2) := Lib.hid (by rw [HNN.out, HNB.out, HNA.out])
        clear hj0 HN0 HN1
        cases ok
        all_goals
          go_wp2_with fail
          refine (HQ.out _).mono ?_
          rintro e w4 ⟨rfl, hb4⟩
          have HB := hbr.trans (hb4.mono hbr.size)
          go_wp2_with fail
          go_roundw
          case rel => exact ⟨j + 1, I + 1, _, N2, by rw [HI.out], by omega, by go_num, rfl, rfl, HN2, HO2, HB⟩
          case measure => simp [intOf]; omega
    · have HNA : Hid (nameP ps = out) := Lib.hid (by rw [← HN.out, List.take_of_length_le (by omega)])
      have HOA : Hid (ok = (ok0 && ps.all fun p => (pctS p).isSome)) := Lib.hid (by rw [HO.out, List.take_of_length_le (by omega)])
      have hg : ¬ (I : Int) < ((ps.length + 1 : Nat) : Int) := by omega
      have hg2 : ¬ I < ps.length + 1 := by omega
      have HB := Lib.hid (B3.trans (hbr.mono B3.size))
      have HX : Hid (r = if ok = true ∧ s.data.toList ≠ [] then (if kindAt s.data.toList out ver = -1 then noTrp else (kindAt s.data.toList out ver, out, ver)) else noTrp) := Lib.hid (by
        rw [HRR.out.1]; unfold getS; rw [HRR.out.2, HNA.out, HVE.out, HO0.out, ← HOA.out])
      have HT := Lib.hid (fun (k : Int) W => specPutPurl_any k out ver W hol hvl)
      clear hI HO HN HNA HOA hS hbr B3 HI
      by_cases hgood : ok = true ∧ s.data.toList ≠ []
      · obtain ⟨rfl, hne⟩ := hgood
        have HX2 : Hid (r = if kindAt s.data.toList out ver = -1 then noTrp else (kindAt s.data.toList out ver, out, ver)) := Lib.hid (by rw [HX.out, if_pos ⟨rfl, hne⟩])
        have ne1 : s.toList.isEmpty = false := by rw [ByteArray.toList_eq]; exact (str_beq_nil hne).1
        have ne2 : (s.toList == []) = false := by rw [ByteArray.toList_eq]; exact (str_beq_nil hne).2
        clear hne HX
        go_wp2_with fail
        obtain ⟨V, hV⟩ : ∃ V, wr = V := ⟨_, rfl⟩
        rw [hV] at HB ⊢
        clear hV
        go_loopw [14] (fun n wq => ∃ k : Nat, k ≤ 4 ∧ n = .int .i64 k ∧ Hid (noneK s.data.toList out ver k) ∧ Below V.heap.size V wq) (fun n _ => 4 - (intOf n).toNat)
        case atStart => exact ⟨0, Nat.zero_le _, rfl, Lib.hid (noneK_zero _ _ _), Below.refl _ _⟩
        case round =>
          obtain ⟨k, hk, rfl, HNK, hbq⟩ := hrel
          by_cases hk4 : k < 4
          · have HTT := Lib.hid (HT.out (k : Int))
            by_cases he : purlL (k : Int) out ver = s.data.toList
            · have HKA : Hid (r = ((k : Int), out, ver)) := Lib.hid (by rw [HX2.out, kindAt_at HNK.out hk4 he, if_neg (by omega)])
              have q1 : (purlL (k : Int) out ver == s.toList) = true := by rw [he, ByteArray.toList_eq]; simp
              obtain ⟨x, HXX⟩ : ∃ x, Hid (purlL (k : Int) out ver = x) := ⟨_, Lib.hid rfl⟩
              simp only [HXX.out] at HTT
              rw [HXX.out] at q1
              clear he
              go_wp2_with fail
              refine (HTT.out _).mono ?_
              rintro e w5 ⟨rfl, hb5⟩
              have HB5 := hbq.trans (hb5.mono hbq.size)
              go_wp2_with fail
              go_ret3
              exact ⟨by rw [HKA.out]; rfl, HB.out.trans (HB5.mono HB.out.size)⟩
            · have HN2 := Lib.hid (noneK_succ HNK.out he)
              have q1 : (purlL (k : Int) out ver == s.toList) = false := by rw [ByteArray.toList_eq]; simpa using he
              obtain ⟨x, HXX⟩ : ∃ x, Hid (purlL (k : Int) out ver = x) := ⟨_, Lib.hid rfl⟩
              simp only [HXX.out] at HTT
              rw [HXX.out] at q1
              clear he
              go_wp2_with fail
              refine (HTT.out _).mono ?_
              rintro e w5 ⟨rfl, hb5⟩
              have HB5 := hbq.trans (hb5.mono hbq.size)
              go_wp2_with fail
              go_roundw
              case rel => exact ⟨k + 1, by omega, by go_num, HN2, HB5⟩
              case measure => simp [intOf]; omega
          · have HKA : Hid (r = noTrp) := Lib.hid (by rw [HX2.out, kindAt_none HNK.out (by omega), if_pos rfl])
            go_wp2_with fail
            go_ret3
            exact ⟨by rw [HKA.out]; rfl, HB.out.trans (hbq.mono HB.out.size)⟩
      · have HKA : Hid (r = noTrp) := Lib.hid (by rw [HX.out, if_neg hgood])
        have hc : ok = false ∨ (ok = true ∧ s.data.toList = []) := by
          cases ok
          · exact .inl rfl
          · right; exact ⟨rfl, Classical.byContradiction fun hn => hgood ⟨rfl, hn⟩⟩
        clear hgood HX
        rcases hc with rfl | ⟨rfl, hz⟩
        · go_wp2_with fail
          go_loop [14] (fun n => ∃ k : Nat, k ≤ 4 ∧ n = .int .i64 k) (fun n => 4 - (intOf n).toNat)
          case atStart => exact ⟨0, Nat.zero_le _, rfl⟩
          case round =>
            obtain ⟨k, hk, rfl⟩ := hrel
            by_cases hk4 : k < 4
            · go_wp2_with fail
              go_round
              case rel => exact ⟨k + 1, by omega, by go_num⟩
              case measure => simp [intOf]; omega
            · go_wp2_with fail
              go_ret3
              exact ⟨by rw [HKA.out]; rfl, HB.out⟩
        · have z1 : s.toList.isEmpty = true := by rw [ByteArray.toList_eq, hz]; rfl
          have z2 : (s.toList == []) = true := by rw [ByteArray.toList_eq, hz]; rfl
          clear hz
          go_wp2_with fail
          go_loop [14] (fun n => ∃ k : Nat, k ≤ 4 ∧ n = .int .i64 k) (fun n => 4 - (intOf n).toNat)
          case atStart => exact ⟨0, Nat.zero_le _, rfl⟩
          case round =>
            obtain ⟨k, hk, rfl⟩ := hrel
            by_cases hk4 : k < 4
            · go_wp2_with fail
              go_round
              case rel => exact ⟨k + 1, by omega, by go_num⟩
              case measure => simp [intOf]; omega
            · go_wp2_with fail
              go_ret3
              exact ⟨by rw [HKA.out]; rfl, HB.out⟩
end Go.Proofs.Ytldfkdkppgammaa

/-
  strings.Cut, as the library lays it, at this seat.
-/
namespace Go.Proofs
open Go.Shelf
def Try.laysCut_ren : Go.Shelf.Ren := ⟨fun | 145 => 107 | 220 => 122 | 219 => 127 | 217 => 128 | 225 => 129 | 224 => 130 | 267 => 131 | 266 => 132 | 314 => 133 | n => n, fun | 9 => 9 | 4 => 4 | 59 => 124 | 3 => 3 | 5 => 5 | 46 => 97 | 146 => 140 | 51 => 139 | n => n, fun | 1 => 0 | n => n⟩
theorem Try.laysCut : Go.Proofs.LaysM.n145 Try.prog Try.laysCut_ren := {
  mixed := by kernel_rfl
  f145 := Try.func107.trans (congrArg some (by kernel_rfl))
  f217 := Try.func128.trans (congrArg some (by kernel_rfl))
  f219 := Try.func127.trans (congrArg some (by kernel_rfl))
  f220 := Try.func122.trans (congrArg some (by kernel_rfl))
  f224 := Try.func130.trans (congrArg some (by kernel_rfl))
  f225 := Try.func129.trans (congrArg some (by kernel_rfl))
  f266 := Try.func132.trans (congrArg some (by kernel_rfl))
  f267 := Try.func131.trans (congrArg some (by kernel_rfl))
  f314 := Try.func133.trans (congrArg some (by kernel_rfl))
  t3 := Try.underlying3
  a3 := Try.isAgg3
  z3 := Try.sizeOf3
  v3 := Try.zeroValue3
  t4 := Try.underlying4
  a4 := Try.isAgg4
  z4 := Try.sizeOf4
  v4 := Try.zeroValue4
  t5 := Try.underlying5
  a5 := Try.isAgg5
  z5 := Try.sizeOf5
  v5 := Try.zeroValue5
  t9 := Try.underlying9
  a9 := Try.isAgg9
  z9 := Try.sizeOf9
  v9 := Try.zeroValue9
  t46 := Try.underlying97
  a46 := Try.isAgg97
  z46 := Try.sizeOf97
  v46 := Try.zeroValue97
  t51 := Try.underlying139
  a51 := Try.isAgg139
  z51 := Try.sizeOf139
  v51 := Try.zeroValue139
  t59 := Try.underlying124
  a59 := Try.isAgg124
  z59 := Try.sizeOf124
  v59 := Try.zeroValue124
  t146 := Try.underlying140
  a146 := Try.isAgg140
  z146 := Try.sizeOf140
  v146 := Try.zeroValue140
  g1 := by kernel_rfl
  i3 := by kernel_rfl
  i4 := by kernel_rfl
  i5 := by kernel_rfl
  i9 := by kernel_rfl
  i46 := by kernel_rfl
  i51 := by kernel_rfl
  i59 := by kernel_rfl
  i146 := by kernel_rfl
  m1 := by kernel_rfl
  s1_3 := fun w h => Go.Proofs.cell_of_shapedOpen_int (zero := #[.int .i64 0]) (t := 3) h (of_decide_eq_true (by kernel_rfl)) (by kernel_rfl) rfl (by kernel_rfl) (by kernel_rfl) Try.underlying3 }
end Go.Proofs

/-
  Worlds that grow by one row: what is kept.
-/
namespace Go.Proofs.Ytldfkdkppgammaa
open Go.RowKit

theorem gr_trans {w w1 w2 : World} {row : Option Nat} (h1 : w.grownBy w1 row) (h2 : w1.grownBy w2 row) : w.grownBy w2 row :=
  ⟨h2.os.trans h1.os, h2.tape.trans h1.tape, h2.output.trans h1.output, Nat.le_trans h1.size h2.size, fun k hk hn => (h2.block k (Nat.lt_of_lt_of_le hk h1.size) hn).trans (h1.block k hk hn)⟩
theorem gr_below {w w2 : World} {row : Option Nat} (hb : Below w.heap.size w w2) : w.grownBy w2 row := ⟨hb.os, hb.tape, hb.output, hb.size, fun k hk _ => hb.block k hk⟩
theorem gr_alloc (w : World) (o : Obj) (row : Option Nat) : w.grownBy (w.alloc o) row := gr_below ((Below.refl _ _).alloc (Nat.le_refl _) _)
theorem gr_set (w : World) (g k : Nat) (x : Value) : w.grownBy (w.setCell ⟨g, k, none⟩ x) (some g) := ⟨rfl, rfl, rfl, by simp, fun j _ hj => heap_setCell_other w ⟨g, k, none⟩ j x (fun e => hj (by simp [e]))⟩
theorem Strs.grown {w w' : World} {base : Nat} {v : Value} {l : List (List UInt8)} {row : Option Nat} (h : Strs w base v l) (hg : w.grownBy w' row) (hne : ∀ g, v.ownBlock = some g → some g ≠ row) : Strs w' base v l := by
  rcases h.form with ⟨rfl, rfl⟩ | ⟨g, cap, rfl, _, _⟩
  · exact ⟨by simp, .inl ⟨rfl, rfl⟩⟩
  · exact World.ownsRow.kept h hg (.inr (fun e => hne g rfl (by rw [← e]; rfl)))
theorem gr_heap {W V : World} {row : Option Nat} {B : Nat} {o : Obj} (hg : W.grownBy V row) (h : W.heap[B]? = some o) (hne : some B ≠ row) : V.heap[B]? = some o := (hg.block B (Array.getElem?_eq_some_iff.1 h).1 hne).trans h
theorem gr_belowN {W V : World} {row : Option Nat} {n : Nat} {w : World} (hb : Below n w W) (hg : W.grownBy V row) (hn : n ≤ W.heap.size) (hr : ∀ g, row = some g → n ≤ g) : Below n w V := hb.grown hg hn hr

end Go.Proofs.Ytldfkdkppgammaa

/-
  A string appended to a byte buffer of the call's own.
-/
namespace Go.Proofs.Ytldfkdkppgammaa
open Go.RowKit

theorem wpList_append_buf_str {w : World} {ops : Array Oper} {rest : List Oper} {o : Oper} {a : Act} {Q : Exit → Act → World → Prop} (hgd : o.guard = none) (s x : Operand)
    (ho : o.op = .call { callee := .builtin .append, args := #[s, x], argTypes := #[59, 9] })
    (base : Nat) (v : Value) (l : List UInt8) (hs : a.eval s = v) (hown : Buf w base v l) (ns : List UInt8) (hx : a.eval x = .string ⟨ns.toArray⟩) (hlen : l.length + ns.length ≤ 16777216) (hbase : base ≤ w.heap.size)
    (h : ∀ v' w', Buf w' base v' (l ++ ns) → Below base w w' → wpList Try.prog ops Q rest (a.put o.dst v') w') : wpList Try.prog ops Q (o :: rest) a w := by
  obtain ⟨i0, hi, hz0, hz1, hz2⟩ := info_parts u8info
  have hsz : (⟨ns.toArray⟩ : ByteArray).size = ns.length := by show ns.toArray.size = _; simp
  refine Lib.wpList_append_own_string _ hgd s x 59 9 ho base 5 i0 Try.underlying59 Try.underlying9 hi hz0 hz1 hz2 v l.length (l.map bv) hs hown ⟨ns.toArray⟩ hx (by rw [hsz]; unfold maxLen; omega) (by rw [hsz]; omega) hbase ?_
  intro v' w' h2 h3 _
  refine h v' w' ?_ ((Below.refl base w).grown h3 hbase hown.owned)
  unfold Buf
  rw [hsz] at h2
  rw [List.length_append, List.map_append]
  exact h2

/-- A buffer is kept by whatever leaves all old blocks as they were. -/
theorem Buf.below {w w' : World} {base : Nat} {v : Value} {l : List UInt8} (h : Buf w base v l) (hb : Below w.heap.size w w') : Buf w' base v l :=
  World.ownsRow.kept h (row := none) ⟨hb.os, hb.tape, hb.output, hb.size, fun i hi _ => hb.block i hi⟩ (by
    rcases h.form with ⟨rfl, _⟩ | ⟨g, cap, rfl, _, _⟩
    · left; rfl
    · right; simp [Value.ownBlock])
end Go.Proofs.Ytldfkdkppgammaa

/-
  The cursor of the program: upTo reads as far as a mark, done tells whether all is read.
-/
namespace Go.Proofs.Ytldfkdkppgammaa
open Go.RowKit

theorem index_one (m : UInt8) : ∀ l : List UInt8, Lib.index l [m] = Lib.indexByte l m
  | [] => rfl
  | c :: l => by
    have ih := index_one m l
    unfold Lib.index
    by_cases h : c = m
    · subst h; simp [Lib.indexByte]
    · rw [idx_miss l h, ih]
      have : ([m].isPrefixOf (c :: l)) = false := by simp [List.isPrefixOf]; exact fun e => h e.symm
      rw [if_neg (by rw [this]; simp)]
      simp
theorem cut_one (m : UInt8) (l : List UInt8) : (Lib.cut l [m]).1 = cutA m l ∧ (Lib.cut l [m]).2.1 = cutB m l := by
  unfold Lib.cut cutA cutB
  rw [index_one]
  split <;> simp

/-- strings.Cut at any mark: the cell of MaxLen holds some number. -/
theorem cut_any (s sep : List UInt8) (m : Int) (w : World) (hs : s.length ≤ 1048576) (hm : w.cell? ⟨0, 0, none⟩ = some (.int .i64 m)) :
    Calls Try.prog 107 #[.string ⟨s.toArray⟩, .string ⟨sep.toArray⟩] w fun e w' => e = .returned (.tuple #[.string ⟨(Lib.cut s sep).1.toArray⟩, .string ⟨(Lib.cut s sep).2.1.toArray⟩, .bool (Lib.cut s sep).2.2]) ∧ ∃ n, w' = w.drewN n :=
  Any.strings_Cut { Try.laysCut with } ⟨s.toArray⟩ ⟨sep.toArray⟩ m w (by show s.toArray.size < _; simp; omega) hm

theorem cells1 {V : World} {B : Nat} {T : TypeId} {v0 : Value} (h : V.heap[B]? = some (.cells #[v0] T)) : V.cell? ⟨B, 0, none⟩ = some v0 := by simp [World.cell?, h]
theorem frozen1 {V : World} {B : Nat} {T : TypeId} {v0 : Value} (h : V.heap[B]? = some (.cells #[v0] T)) (o : Nat) : V.frozen? ⟨B, o, none⟩ = false := by simp [World.frozen?, h]
theorem heap_one {V : World} {B : Nat} {T : TypeId} {v0 : Value} (h : V.heap[B]? = some (.cells #[v0] T)) (x : Value) : (V.setCell ⟨B, 0, none⟩ x).heap[B]? = some (.cells #[x] T) := by
  rw [heap_setCell_same V B 0 #[v0] T x h]; rfl
theorem far_text {V : World} {q G : Nat} {T : TypeId} {l : List UInt8} {m : Int} (h : V.heap[q]? = some (.cells #[.string ⟨l.toArray⟩] T)) (hm : V.cell? ⟨G, 0, none⟩ = some (.int .i64 m)) : G ≠ q := by
  rintro rfl
  rw [cells1 h] at hm
  cases hm

/-- What upTo leaves: the rest in the cursor's cell, all else as it was. -/
def CurTo (q : Nat) (T : TypeId) (w : World) (r : List UInt8) (w' : World) : Prop := w'.heap[q]? = some (.cells #[.string ⟨r.toArray⟩] T) ∧ w.grownBy w' (some q) ∧ w'.heap.size = w.heap.size
theorem CurTo.max {q : Nat} {T T' : TypeId} {w w' : World} {r l : List UInt8} {m : Int} (h : CurTo q T w r w') (hq : w.heap[q]? = some (.cells #[.string ⟨l.toArray⟩] T')) (hm : w.cell? ⟨0, 0, none⟩ = some (.int .i64 m)) : w'.cell? ⟨0, 0, none⟩ = some (.int .i64 m) :=
  h.2.1.cell hm (fun e => far_text hq hm (by cases e; rfl))
theorem Buf.far {w w' : World} {base : Nat} {v : Value} {l : List UInt8} {q : Nat} (h : Buf w base v l) (hg : w.grownBy w' (some q)) (hq : q < base) : Buf w' base v l :=
  World.ownsRow.kept h hg (by
    rcases h.form with ⟨rfl, _⟩ | ⟨g, cap, rfl, hb, _⟩
    · left; rfl
    · right; simp [Value.ownBlock]; omega)

set_option maxRecDepth 100000 in
set_option maxHeartbeats 1000000 in
theorem upTo_any (q : Nat) (T : TypeId) (l sep : List UInt8) (m : Int) (w : World) (hl : l.length ≤ 1048576) (hq : w.heap[q]? = some (.cells #[.string ⟨l.toArray⟩] T)) (hm : w.cell? ⟨0, 0, none⟩ = some (.int .i64 m)) :
    Calls Try.prog 85 #[.pointer (some ⟨q, 0, none⟩), .string ⟨sep.toArray⟩] w fun e w' => e = .returned (.string ⟨(Lib.cut l sep).1.toArray⟩) ∧ CurTo q T w (Lib.cut l sep).2.1 w' := by
  have HC := Lib.hid (cut_any l sep m w hl hm)
  have c0 := cells1 hq
  have f0 := frozen1 hq
  have HQ := Lib.hid hq
  clear hq hm
  go_enter Try.func85, Try.ntmps85
  go_wp2_with fail
  refine HC.out.mono ?_
  rintro e w1 ⟨rfl, n, rfl⟩
  go_wp2_with fail
  go_ret
  exact ⟨rfl, heap_one HQ.out _, gr_trans (gr_below (below_drewN _ _ n)) (gr_set _ q 0 _), by simp⟩

set_option maxRecDepth 100000 in
set_option maxHeartbeats 1000000 in
theorem done_any (q : Nat) (T : TypeId) (l : List UInt8) (w : World) (hq : w.heap[q]? = some (.cells #[.string ⟨l.toArray⟩] T)) :
    Calls Try.prog 86 #[.pointer (some ⟨q, 0, none⟩)] w fun e w' => e = .returned (.bool l.isEmpty) ∧ w = w' := by
  have c0 := cells1 hq
  clear hq
  go_enter Try.func86, Try.ntmps86
  go_wp2_with fail
  go_ret
  exact ⟨rfl, rfl⟩
end Go.Proofs.Ytldfkdkppgammaa

/-
  The reader of package URLs: its kind, its version.
-/
namespace Go.Proofs.Ytldfkdkppgammaa
open Go.RowKit

/-- No kind below k has the name. -/
def noneN (l : List UInt8) (k : Nat) : Prop := ∀ j : Nat, j < k → ¬ kindL (j : Int) = l
theorem noneN_zero (l : List UInt8) : noneN l 0 := fun j h => by omega
theorem noneN_succ {l : List UInt8} {k : Nat} (h : noneN l k) (hk : ¬ kindL (k : Int) = l) : noneN l (k + 1) := fun j hj => by
  rcases Nat.lt_or_ge j k with h1 | h1
  · exact h j h1
  · have : j = k := by omega
    subst this; exact hk
theorem kindOf_at {l : List UInt8} {k : Nat} (h : noneN l k) (hk : k < 4) (he : kindL (k : Int) = l) : kindOfI l = k := by
  have n0 : 0 < k → ¬ kindL 0 = l := fun hj => h 0 hj
  have n1 : 1 < k → ¬ kindL 1 = l := fun hj => h 1 hj
  have n2 : 2 < k → ¬ kindL 2 = l := fun hj => h 2 hj
  unfold kindOfI
  obtain rfl | rfl | rfl | rfl : k = 0 ∨ k = 1 ∨ k = 2 ∨ k = 3 := by omega
  · rw [if_pos (show kindL 0 = l from he)]; rfl
  · rw [if_neg (n0 (by omega)), if_pos (show kindL 1 = l from he)]; rfl
  · rw [if_neg (n0 (by omega)), if_neg (n1 (by omega)), if_pos (show kindL 2 = l from he)]; rfl
  · rw [if_neg (n0 (by omega)), if_neg (n1 (by omega)), if_neg (n2 (by omega)), if_pos (show kindL 3 = l from he)]; rfl
theorem kindOf_none {l : List UInt8} {k : Nat} (h : noneN l k) (hk : 4 ≤ k) : kindOfI l = -1 := by
  have n0 : ¬ kindL 0 = l := h 0 (by omega)
  have n1 : ¬ kindL 1 = l := h 1 (by omega)
  have n2 : ¬ kindL 2 = l := h 2 (by omega)
  have n3 : ¬ kindL 3 = l := h 3 (by omega)
  unfold kindOfI; rw [if_neg n0, if_neg n1, if_neg n2, if_neg n3]

set_option maxRecDepth 100000 in
set_option maxHeartbeats 1000000 in
theorem kindOf_any (l : List UInt8) (w : World) : Calls Try.prog 113 #[.string ⟨l.toArray⟩] w fun e w' => e = .returned (.int .i64 (kindOfI l)) ∧ w = w' := by
  obtain ⟨r, HR⟩ : ∃ r, Hid (kindOfI l = r) := ⟨_, Lib.hid rfl⟩
  rw [HR.out]
  go_enter Try.func113, Try.ntmps113
  go_wp2_with fail
  go_loop [3, 4] (fun _ n => ∃ k : Nat, k ≤ 4 ∧ n = .int .i64 k ∧ Hid (noneN l k)) (fun _ n => 4 - (intOf n).toNat)
  case atStart => exact ⟨0, Nat.zero_le _, rfl, Lib.hid (noneN_zero l)⟩
  case round =>
    obtain ⟨k, hk, rfl, HN⟩ := hrel
    by_cases hk4 : k < 4
    · have HK := Lib.hid (implKindName_any (k : Int) w)
      by_cases he : kindL (k : Int) = l
      · have HX : Hid (r = (k : Int)) := Lib.hid (by rw [← HR.out]; exact kindOf_at HN.out hk4 he)
        have q : (kindL (k : Int) == l) = true := by simpa using he
        obtain ⟨x, HXX⟩ : ∃ x, Hid (kindL (k : Int) = x) := ⟨_, Lib.hid rfl⟩
        rw [HXX.out] at HK q
        clear he
        go_wp2_with fail
        refine HK.out.mono ?_
        rintro e w1 ⟨rfl, rfl⟩
        go_wp2_with fail
        go_ret
        exact ⟨ret_int HX.out.symm, rfl⟩
      · have HN2 := Lib.hid (noneN_succ HN.out he)
        have q : (kindL (k : Int) == l) = false := by simpa using he
        obtain ⟨x, HXX⟩ : ∃ x, Hid (kindL (k : Int) = x) := ⟨_, Lib.hid rfl⟩
        rw [HXX.out] at HK q
        clear he
        go_wp2_with fail
        refine HK.out.mono ?_
        rintro e w1 ⟨rfl, rfl⟩
        go_wp2_with fail
        go_round
        case rel => exact ⟨k + 1, by omega, by go_num, HN2⟩
        case measure => simp [intOf]; omega
    · have HX : Hid (r = -1) := Lib.hid (by rw [← HR.out]; exact kindOf_none HN.out (by omega))
      go_wp2_with fail
      go_ret
      exact ⟨ret_int HX.out.symm, rfl⟩

theorem CurTo.trans {q : Nat} {T : TypeId} {w w1 w2 : World} {r r' : List UInt8} (h : CurTo q T w r w1) (k : CurTo q T w1 r' w2) : CurTo q T w r' w2 := ⟨k.1, gr_trans h.2.1 k.2.1, k.2.2.trans h.2.2⟩

set_option maxRecDepth 100000 in
set_option maxHeartbeats 1000000 in
theorem kind_any (q : Nat) (T : TypeId) (l : List UInt8) (m : Int) (w : World) (hl : l.length ≤ 1048576) (hq : w.heap[q]? = some (.cells #[.string ⟨l.toArray⟩] T)) (hm : w.cell? ⟨0, 0, none⟩ = some (.int .i64 m)) :
    Calls Try.prog 81 #[.pointer (some ⟨q, 0, none⟩)] w fun e w' => e = .returned (.int .i64 (kindOfI (cutA 47 (Lib.cut l pkgL).2.1))) ∧ CurTo q T w (cutB 47 (Lib.cut l pkgL).2.1) w' := by
  have HU := Lib.hid (upTo_any q T l pkgL m w hl hq hm)
  have hRl := cut_le l pkgL
  obtain ⟨R, HR⟩ : ∃ R, Hid ((Lib.cut l pkgL).2.1 = R) := ⟨_, Lib.hid rfl⟩
  rw [HR.out] at hRl HU
  rw [HR.out]
  go_enter Try.func81, Try.ntmps81
  go_wp2_with fail
  refine HU.out.mono ?_
  rintro e w1 ⟨rfl, hu1⟩
  have HU2 := Lib.hid (upTo_any q T R [47] m w1 (by omega) hu1.1 (hu1.max hq hm))
  rw [(cut_one 47 R).1, (cut_one 47 R).2] at HU2
  have HU1 := Lib.hid hu1
  have HK := Lib.hid (fun W => kindOf_any (cutA 47 R) W)
  obtain ⟨z, HZ⟩ : ∃ z, Hid (kindOfI (cutA 47 R) = z) := ⟨_, Lib.hid rfl⟩
  simp only [HZ.out] at HK
  clear hu1 HU hq hm
  go_wp2_with fail
  refine HU2.out.mono ?_
  rintro e w2 ⟨rfl, hu2⟩
  have HU3 := Lib.hid (HU1.out.trans hu2)
  clear hu2
  go_wp2_with fail
  refine (HK.out _).mono ?_
  rintro e w3 ⟨rfl, rfl⟩
  go_wp2_with fail
  go_ret
  exact ⟨ret_int HZ.out.symm, HU3.out⟩

/-- impl.GetPercent, whatever it says of the text. -/
theorem implPct_text (l : List UInt8) (w : World) (hl : l.length ≤ 1048576) :
    Calls Try.prog 114 #[.string ⟨l.toArray⟩] w fun e w' => e = .returned (.tuple #[.string ⟨(decP l).toArray⟩, .bool (pctS l).isSome]) ∧ Below w.heap.size w w' := by
  refine (implGetPercent_any ⟨l.toArray⟩ w (by show l.toArray.size ≤ _; simp; omega)).mono ?_
  rintro e w' ⟨rfl, hb⟩
  refine ⟨?_, hb⟩
  show Ending.returned (optText (pctG l)) = _
  rw [pct_both]
  unfold decP
  cases pctS l <;> rfl

set_option maxRecDepth 100000 in
set_option maxHeartbeats 1000000 in
theorem version_any (q : Nat) (T : TypeId) (l : List UInt8) (w : World) (hl : l.length ≤ 1048576) (hq : w.heap[q]? = some (.cells #[.string ⟨l.toArray⟩] T)) :
    Calls Try.prog 83 #[.pointer (some ⟨q, 0, none⟩)] w fun e w' => e = .returned (.string ⟨(decP l).toArray⟩) ∧ Below w.heap.size w w' := by
  have c0 := cells1 hq
  have HP := Lib.hid (implPct_text l w hl)
  clear hq
  go_enter Try.func83, Try.ntmps83
  go_wp2_with fail
  refine HP.out.mono ?_
  rintro e w1 ⟨rfl, hb1⟩
  go_wp2_with fail
  go_ret
  exact ⟨rfl, hb1⟩
end Go.Proofs.Ytldfkdkppgammaa

/-
  A list of texts that grows in a box while an iterator yields.
-/
namespace Go.Proofs.Ytldfkdkppgammaa
open Go.RowKit Go.Shelf
attribute [local go_sem] Oper.semAt_some

/-- The box behind block p has the texts so far. -/
def SpN (p : Nat) (ls : List (List UInt8)) (W : World) : Prop :=
  p + 4 ≤ W.heap.size ∧ ∃ v, Boxed W (p + 1) 33 v ∧ Strs W p v ls ∧ (∀ g, v.ownBlock = some g → g ≠ p + 1 ∧ g ≠ p + 2 ∧ g ≠ p + 3)
theorem spN_own (p B : Nat) (f : Part → List UInt8) : OwnFrom B (fun (pre : List Part) W => SpN p (pre.map f) W) := by
  rintro pre W W' row ⟨h4, v, hB, hS, hne⟩ hg hr
  refine ⟨Nat.le_trans h4 hg.size, v, hB.kept hg (fun e => ?_), World.ownsRow.kept hS hg ?_, hne⟩
  · obtain ⟨_, o, ho, hc⟩ := hr _ e.symm
    rw [show W.heap[_]? = _ from hB] at ho; cases ho; cases hc
  · rcases hS.2 with ⟨rfl, _⟩ | ⟨g, cap, cur, rfl, _, hh, _⟩
    · left; rfl
    · right
      intro e
      obtain ⟨_, o, ho, hc⟩ := hr g (by simpa [Value.ownBlock] using e.symm)
      rw [hh] at ho; cases ho; cases hc

theorem spN_end (p : Nat) (V W w1 w3 : World) (v : Value) (ls : List (List UInt8)) (x : List UInt8) (o : Obj) (g cap : Nat) (h4 : p + 4 ≤ W.heap.size) (hR : Boxed W (p + 1) 33 v) (hS : Strs W p v ls)
    (hne : ∀ g, v.ownBlock = some g → g ≠ p + 1 ∧ g ≠ p + 2 ∧ g ≠ p + 3) (hB : Below p V W) (hb1 : Below W.heap.size W w1) (hg3 : (w1.alloc o).grownBy w3 v.ownBlock)
    (hS3 : Strs w3 p (.slice (some ⟨g, 0, none⟩) (ls.length + 1) cap) (ls ++ [x])) (hg4 : v.ownBlock = some g ∨ g = (w1.alloc o).heap.size) :
    Boxed w3 (p + 1) 33 v ∧ KeepsOthers W (w3.setCell ⟨p + 1, 0, none⟩ (.slice (some ⟨g, 0, none⟩) (ls.length + 1) cap)) ∧ KpB (p + 1 + 1) (p + 1 + 1 + 1) W (w3.setCell ⟨p + 1, 0, none⟩ (.slice (some ⟨g, 0, none⟩) (ls.length + 1) cap)) ∧
      SpN p (ls ++ [x]) (w3.setCell ⟨p + 1, 0, none⟩ (.slice (some ⟨g, 0, none⟩) (ls.length + 1) cap)) ∧ Below p V (w3.setCell ⟨p + 1, 0, none⟩ (.slice (some ⟨g, 0, none⟩) (ls.length + 1) cap)) := by
  have hs1 : W.heap.size ≤ w1.heap.size := hb1.size
  have hs3 : w1.heap.size + 1 ≤ w3.heap.size := by have := hg3.size; simpa using this
  have hgne : g ≠ p + 1 ∧ g ≠ p + 2 ∧ g ≠ p + 3 := by
    rcases hg4 with h | h
    · exact hne g h
    · simp at h; omega
  have hG : W.grownBy w3 v.ownBlock := ⟨hg3.os.trans hb1.os, hg3.tape.trans hb1.tape, hg3.output.trans hb1.output, by omega, fun k hk hkn =>
    (hg3.block k (by simp; omega) hkn).trans ((Below.heap_alloc _ _ _ (by omega)).trans (hb1.block k hk))⟩
  have hR3 : Boxed w3 (p + 1) 33 v := hR.kept hG (fun e => (hne _ e.symm).1 rfl)
  have hK : KeepsOthers W w3 := KeepsOthers.of_grownBy hG (fun j o' ej hj => by
    rcases hS.2 with ⟨rfl, _⟩ | ⟨g', cap', cur, rfl, _, hh, _⟩
    · simp [Value.ownBlock] at ej
    · simp [Value.ownBlock] at ej
      subst ej
      rw [hh] at hj; cases hj; rfl)
  have hBel : Below p V w3 := hB.grown hG (by omega) hS.owned
  have k1 : w3.heap[p + 1 + 1]? = W.heap[p + 1 + 1]? := hG.block _ (by omega) (fun e => (hne _ e.symm).2.1 (by omega))
  have k2 : w3.heap[p + 1 + 1 + 1]? = W.heap[p + 1 + 1 + 1]? := hG.block _ (by omega) (fun e => (hne _ e.symm).2.2 (by omega))
  refine ⟨hR3, hK.trans (KeepsOthers.setCell _ _ _), ⟨(Below.heap_setCell _ _ _ _ (by simp)).trans k1, (Below.heap_setCell _ _ _ _ (by simp; omega)).trans k2⟩, ⟨by simp; omega, _, hR3.set _, ?_, ?_⟩, hBel.setCell (p := ⟨p + 1, 0, none⟩) (by simp) _⟩
  · exact World.ownsRow.kept hS3 (grownBy_setCell' w3 (p + 1) _) (by right; simp [Value.ownBlock]; omega)
  · intro g' hg'
    simp [Value.ownBlock] at hg'
    subst hg'
    exact hgne

theorem wpListIn_append_one {F : Fence} {n : Nat} {w : World} {ops : Array Oper} {rest : List Oper} {o : Oper} {a : Act} {Q : Exit → Act → World → Prop} (hgd : o.guard = none) (s x : Operand)
    (ho : o.op = .call { callee := .builtin .append, args := #[s, x], argTypes := #[33, 33] })
    (base : Nat) (v : Value) (l : List (List UInt8)) (hs : a.eval s = v) (hown : Strs w base v l) (y : List UInt8) (B c : Nat) (t : TypeId) (fr : Nat × Nat)
    (hx : a.eval x = .slice (some ⟨B, 0, none⟩) 1 c) (hblk : w.heap[B]? = some (.cells #[sv y] t fr)) (hlen : l.length + 1 ≤ 16777216) (hbase : base ≤ w.heap.size)
    (h : ∀ g cap w', Strs w' base (.slice (some ⟨g, 0, none⟩) (l.length + 1) cap) (l ++ [y]) → w.grownBy w' v.ownBlock → (v.ownBlock = some g ∨ g = w.heap.size) → wpListIn F n Try.prog ops Q rest (a.put o.dst (.slice (some ⟨g, 0, none⟩) (l.length + 1) cap)) w') :
    wpListIn F n Try.prog ops Q (o :: rest) a w := by
  refine wpListIn_plain hgd fun K hK' => ?_
  obtain ⟨g, cap, w', hr, h2, h3, h4⟩ := run_append_strs w o.type base v l hown y B c t fr hblk hlen hbase
  refine ⟨?_, ?_⟩
  · intro f hf
    simp [Oper.about, ho, resolve, Target.leads, go_sem] at hf
  · rw [Oper.semAt_eq _ _ _ (by intro c hc; rw [ho] at hc; cases hc)]
    unfold execOp
    simp only [ho, resolve, invoke, builtin, Sem.run_bind, Sem.run_pure, Result.andThen_ok, List.map_toArray, List.map_cons, List.map_nil, hs, hx, hr]
    exact hK' _ _ (h g cap w' h2 h3 h4)
end Go.Proofs.Ytldfkdkppgammaa

/-
  strings.Join, as the library lays it, at this seat.
-/
namespace Go.Proofs
open Go.Shelf
def Try.laysJoin_ren : Go.Shelf.Ren := ⟨fun | 156 => 53 | 165 => 91 | 166 => 92 | 169 => 93 | 240 => 117 | 241 => 118 | 276 => 124 | 277 => 125 | n => n, fun | 31 => 33 | 9 => 9 | 3 => 3 | 4 => 4 | 0 => 0 | 20 => 20 | 72 => 109 | 76 => 113 | 70 => 107 | 37 => 59 | 75 => 112 | 127 => 131 | 164 => 134 | 5 => 5 | 80 => 66 | n => n, fun | n => n⟩
theorem Try.laysJoin : Go.Proofs.Lays.n156 Try.prog Try.laysJoin_ren := {
  mixed := by kernel_rfl
  f156 := Try.func53.trans (congrArg some (by kernel_rfl))
  f165 := Try.func91.trans (congrArg some (by kernel_rfl))
  f166 := Try.func92.trans (congrArg some (by kernel_rfl))
  f169 := Try.func93.trans (congrArg some (by kernel_rfl))
  f240 := Try.func117.trans (congrArg some (by kernel_rfl))
  f241 := Try.func118.trans (congrArg some (by kernel_rfl))
  f276 := Try.func124.trans (congrArg some (by kernel_rfl))
  f277 := Try.func125.trans (congrArg some (by kernel_rfl))
  t0 := Try.underlying0
  a0 := Try.isAgg0
  z0 := Try.sizeOf0
  v0 := Try.zeroValue0
  t3 := Try.underlying3
  a3 := Try.isAgg3
  z3 := Try.sizeOf3
  v3 := Try.zeroValue3
  t4 := Try.underlying4
  a4 := Try.isAgg4
  z4 := Try.sizeOf4
  v4 := Try.zeroValue4
  t9 := Try.underlying9
  a9 := Try.isAgg9
  z9 := Try.sizeOf9
  v9 := Try.zeroValue9
  t20 := Try.underlying20
  a20 := Try.isAgg20
  z20 := Try.sizeOf20
  v20 := Try.zeroValue20
  t31 := Try.underlying33
  a31 := Try.isAgg33
  z31 := Try.sizeOf33
  v31 := Try.zeroValue33
  t37 := Try.underlying59
  a37 := Try.isAgg59
  z37 := Try.sizeOf59
  v37 := Try.zeroValue59
  t70 := Try.underlying107
  a70 := Try.isAgg107
  z70 := Try.sizeOf107
  v70 := Try.zeroValue107
  t72 := Try.underlying109
  a72 := Try.isAgg109
  z72 := Try.sizeOf109
  v72 := Try.zeroValue109
  t75 := Try.underlying112
  a75 := Try.isAgg112
  z75 := Try.sizeOf112
  v75 := Try.zeroValue112
  t76 := Try.underlying113
  a76 := Try.isAgg113
  z76 := Try.sizeOf113
  v76 := Try.zeroValue113
  t127 := Try.underlying131
  a127 := Try.isAgg131
  z127 := Try.sizeOf131
  v127 := Try.zeroValue131
  t164 := Try.underlying134
  a164 := Try.isAgg134
  z164 := Try.sizeOf134
  v164 := Try.zeroValue134 }
end Go.Proofs

/-
  strings.Join of a list of texts at a dot.
-/
namespace Go.Proofs
open Go.Shelf
theorem Try.extraJoin : Builder.Extra Try.prog Try.laysJoin_ren where
  sizeBuilder := by kernel_rfl
  liesBuilder := by kernel_rfl
  t5 := Try.underlying5
  a5 := Try.isAgg5
  z5 := Try.sizeOf5
  v5 := Try.zeroValue5
  infoByte := by kernel_rfl
  cellsByte := by kernel_rfl
  sizeByte := by kernel_rfl
  neB5 := by decide
namespace Ytldfkdkppgammaa
open Go.RowKit

theorem inter_flat (x : List UInt8) : ∀ xs : List (List UInt8), Lib.join (x :: xs) [46] = x ++ xs.flatMap (fun y => 46 :: y)
  | [] => by simp [Lib.join, List.intercalate]
  | y :: ys => by
    have := inter_flat y ys
    unfold Lib.join at this ⊢
    simp [List.intercalate] at this ⊢
    rw [this]
theorem join_pre {ls : List (List UInt8)} (h : ls ≠ []) : preText ls = 45 :: Lib.join ls [46] := by
  cases ls with
  | nil => exact absurd rfl h
  | cons x xs => rw [inter_flat]; rfl
theorem flat_len (ls : List (List UInt8)) (h : ∀ l ∈ ls, l.length ≤ 20) : (ls.flatMap (fun y => (46 : UInt8) :: y)).length ≤ 21 * ls.length := by
  induction ls with
  | nil => simp
  | cons x xs ih =>
    have := ih (fun l hl => h l (by simp [hl]))
    have := h x (by simp)
    simp only [List.flatMap_cons, List.length_append, List.length_cons]
    omega
theorem join_len {ls : List (List UInt8)} (h : ∀ l ∈ ls, l.length ≤ 20) (h5 : ls.length ≤ 5) : (Lib.join ls [46]).length ≤ 200 := by
  cases ls with
  | nil => simp [Lib.join_nil]
  | cons x xs =>
    rw [inter_flat]
    have := flat_len xs (fun l hl => h l (by simp [hl]))
    have := h x (by simp)
    simp at h5
    rw [List.length_append]
    omega

theorem joinDot_any (w : World) (base g cap : Nat) (ls : List (List UInt8)) (h : Strs w base (.slice (some ⟨g, 0, none⟩) ls.length cap) ls) (h20 : ∀ l ∈ ls, l.length ≤ 20) (h5 : ls.length ≤ 5) :
    Calls Try.prog 53 #[.slice (some ⟨g, 0, none⟩) ls.length cap, .string ⟨#[46]⟩] w fun e w' => e = .returned (.string ⟨(Lib.join ls [46]).toArray⟩) ∧ Below w.heap.size w w' := by
  obtain ⟨hlen, hr⟩ := h
  have hS : Strs w base (.slice (some ⟨g, 0, none⟩) ls.length cap) ls := ⟨hlen, hr⟩
  have hcap : ls.length ≤ cap := by
    rcases hr with ⟨hv, _⟩ | ⟨g', cap', cur, hv, _, _, hc, _⟩
    · cases hv
    · simp only [Value.slice.injEq] at hv; omega
  have hg : g < w.heap.size := by
    rcases hS.form with ⟨h', _⟩ | ⟨g', cap', h', _, hg'⟩
    · cases h'
    · simp only [Value.slice.injEq, Option.some.injEq, Addr.mk.injEq, and_true] at h'
      rw [h'.1]; exact hg'
  have hm : (ls.map (fun l => (⟨l.toArray⟩ : ByteArray))).map (fun x => x.data.toList) = ls := by rw [List.map_map]; exact List.map_id'' (fun l => rfl) ls
  have hJ := Any.strings_Join Try.laysJoin Try.extraJoin g 0 cap (ls.map (fun l => (⟨l.toArray⟩ : ByteArray))) ⟨#[46]⟩ w (fun j x hx => by
      rw [List.getElem?_map] at hx
      cases hj : ls[j]? with
      | none => rw [hj] at hx; simp at hx
      | some y =>
        rw [hj] at hx
        simp at hx
        subst hx
        obtain ⟨hl, rfl⟩ := List.getElem?_eq_some_iff.1 hj
        rw [Nat.zero_add]
        exact hS.cell j hl) hg (by simp; omega) (by simpa using hcap) (by rw [hm]; have := join_len h20 h5; show (Lib.join ls [46]).length ≤ _; omega)
  rw [hm] at hJ
  have e : (ls.map (fun l => (⟨l.toArray⟩ : ByteArray))).length = ls.length := by simp
  rw [e] at hJ
  exact hJ
end Ytldfkdkppgammaa
end Go.Proofs

/-
  strings.Join of a list of texts at any text.
-/
namespace Go.Proofs
open Go.Shelf
namespace Ytldfkdkppgammaa
open Go.RowKit

theorem join_flat (sep x : List UInt8) : ∀ xs : List (List UInt8), Lib.join (x :: xs) sep = x ++ xs.flatMap (fun y => sep ++ y)
  | [] => by simp [Lib.join, List.intercalate]
  | y :: ys => by
    have := join_flat sep y ys
    unfold Lib.join at this ⊢
    simp [List.intercalate] at this ⊢
    rw [this]

theorem joinSep_any (w : World) (base : Nat) (v : Value) (ls : List (List UInt8)) (sep : ByteArray) (h : Strs w base v ls) (hn : ls ≠ []) (hl : ls.length ≤ 16777216) (hj : (Lib.join ls sep.data.toList).length ≤ 140737488355328) :
    Calls Try.prog 53 #[v, .string sep] w fun e w' => e = .returned (.string ⟨(Lib.join ls sep.data.toList).toArray⟩) ∧ Below w.heap.size w w' := by
  obtain ⟨g, cap, rfl, _, hg⟩ : ∃ g cap, v = .slice (some ⟨g, 0, none⟩) ls.length cap ∧ base ≤ g ∧ g < w.heap.size := by
    rcases h.form with ⟨_, h'⟩ | h'
    · exact absurd h' hn
    · exact h'
  obtain ⟨hlen, hr⟩ := h
  have hS : Strs w base (.slice (some ⟨g, 0, none⟩) ls.length cap) ls := ⟨hlen, hr⟩
  have hcap : ls.length ≤ cap := by
    rcases hr with ⟨hv, _⟩ | ⟨g', cap', cur, hv, _, _, hc, _⟩
    · cases hv
    · simp only [Value.slice.injEq] at hv; omega
  have hm : (ls.map (fun l => (⟨l.toArray⟩ : ByteArray))).map (fun x => x.data.toList) = ls := by rw [List.map_map]; exact List.map_id'' (fun l => rfl) ls
  have hJ := Any.strings_Join Try.laysJoin Try.extraJoin g 0 cap (ls.map (fun l => (⟨l.toArray⟩ : ByteArray))) sep w (fun j x hx => by
      rw [List.getElem?_map] at hx
      cases hj : ls[j]? with
      | none => rw [hj] at hx; simp at hx
      | some y =>
        rw [hj] at hx
        simp at hx
        subst hx
        obtain ⟨hl, rfl⟩ := List.getElem?_eq_some_iff.1 hj
        rw [Nat.zero_add]
        exact hS.cell j hl) hg (by simp; omega) (by simpa using hcap) (by rw [hm]; exact hj)
  rw [hm] at hJ
  have e : (ls.map (fun l => (⟨l.toArray⟩ : ByteArray))).length = ls.length := by simp
  rw [e] at hJ
  exact hJ
end Ytldfkdkppgammaa
end Go.Proofs

/-
  strings.Join of any list of texts of the call's own.
-/
namespace Go.Proofs
open Go.Shelf
namespace Ytldfkdkppgammaa
open Go.RowKit

theorem joinAll_any (w : World) (base : Nat) (v : Value) (ls : List (List UInt8)) (sep : List UInt8) (h : Strs w base v ls) (hl : ls.length ≤ 16777216) (hj : (Lib.join ls sep).length ≤ 140737488355328) :
    Calls Try.prog 53 #[v, .string ⟨sep.toArray⟩] w fun e w' => e = .returned (.string ⟨(Lib.join ls sep).toArray⟩) ∧ Below w.heap.size w w' := by
  by_cases hn : ls = []
  · subst hn
    obtain ⟨A, c, rfl⟩ : ∃ A c, v = .slice A 0 c := by
      rcases h.form with ⟨rfl, _⟩ | ⟨g, cap, rfl, _, _⟩
      · exact ⟨_, _, rfl⟩
      · exact ⟨_, _, rfl⟩
    exact (Any.strings_Join_none Try.laysJoin Try.extraJoin A c ⟨sep.toArray⟩ w).mono fun e w' h => ⟨h.1, by rw [h.2]; exact Below.refl _ _⟩
  · exact joinSep_any w base v ls ⟨sep.toArray⟩ h hn hl hj
end Ytldfkdkppgammaa
end Go.Proofs

/-
  The reader of package URLs: its name.
-/
namespace Go.Proofs.Ytldfkdkppgammaa
open Go.RowKit Go.Shelf
attribute [local go_sem] Oper.semAt_some

set_option maxRecDepth 100000 in
set_option maxHeartbeats 4000000 in
theorem name_in (n : Nat) (hn : 4 ≤ n) (q : Nat) (T : TypeId) (l : List UInt8) (m : Int) (w : World) (hl : l.length ≤ 1048576) (hq : w.heap[q]? = some (.cells #[.string ⟨l.toArray⟩] T)) (hm : w.cell? ⟨0, 0, none⟩ = some (.int .i64 m)) :
    CallsIn Fence.wide n Try.prog 82 #[.pointer (some ⟨q, 0, none⟩)] w fun e W' => e = .returned (.string ⟨(nameP (cutL 47 (cutA 64 l))).toArray⟩) ∧ W'.heap[q]? = some (.cells #[.string ⟨(cutB 64 l).toArray⟩] T) ∧ w.grownBy W' (some q) := by
  have h1 : 1 ≤ n := by omega
  have hn2 : 1 ≤ n - 1 - 1 := by omega
  have hqs := lt_of_heap hq
  have HU : Hid (∀ W, Below w.heap.size w W → Calls Try.prog 85 #[.pointer (some ⟨q, 0, none⟩), .string ⟨#[64]⟩] W fun e w' => e = .returned (.string ⟨(cutA 64 l).toArray⟩) ∧ CurTo q T W (cutB 64 l) w') := Lib.hid (fun W h => by
    have := upTo_any q T l [64] m W hl (keepB hq h) (keepC h hm)
    rw [(cut_one 64 l).1, (cut_one 64 l).2] at this
    exact this)
  have hul := cut_len 64 l
  obtain ⟨U, HUU⟩ : ∃ U, Hid (cutA 64 l = U) := ⟨_, Lib.hid rfl⟩
  obtain ⟨R, HRR⟩ : ∃ R, Hid (cutB 64 l = R) := ⟨_, Lib.hid rfl⟩
  simp only [HUU.out, HRR.out] at HU
  rw [HUU.out, HRR.out] at hul
  rw [HUU.out, HRR.out]
  have B0 : Below w.heap.size w ((w.alloc (.cells #[] 9)).alloc (.cells #[.slice (some ⟨w.heap.size, 0, none⟩) 0 0] 33)) := ((Below.refl _ w).alloc (Nat.le_refl _) _).alloc (by simp) _
  refine callsIn_of_wp_marks Try.func82 rfl trivial ?_ rfl
  simp only [Try.ntmps82, List.size_toArray, List.length_cons, List.length_nil, Nat.reduceAdd, Nat.reduceSub, Array.replicate_succ, Array.replicate_zero, List.push_toArray, List.append_toArray, List.nil_append, List.cons_append]
  gi_wp2_with (refine ⟨trivial, ?_⟩; gi_at_call 85; refine (callsIn_wide.2 (HU.out _ B0)).mono ?_; rintro e w3 ⟨rfl, hu3⟩)
  gi_wp2_with (refine ⟨trivial, ?_⟩; gi_at_call 77; refine (partsOf_in _ _ _ _).mono ?_; rintro e w' ⟨rfl, rfl⟩)
  have hz3 : w3.heap.size = w.heap.size + 1 + 1 := by rw [hu3.2.2]; simp
  have hq3 := hu3.1
  obtain ⟨V, hVs, hVB, hVq, hVg⟩ : ∃ V : World, V.heap.size = w.heap.size ∧ Below w.heap.size V w3 ∧ V.heap[q]? = some (.cells #[.string ⟨R.toArray⟩] T) ∧ w.grownBy V (some q) := by
    refine ⟨w.setCell ⟨q, 0, none⟩ (.string ⟨R.toArray⟩), by simp, ?_, heap_one hq _, gr_set w q 0 _⟩
    refine ⟨hu3.2.1.os, hu3.2.1.tape, hu3.2.1.output, by rw [hz3]; simp; omega, fun i hi => ?_⟩
    by_cases e : i = q
    · subst e; rw [hq3, heap_one hq]
    · rw [heap_setCell_other w ⟨q, 0, none⟩ i _ e]
      exact (hu3.2.1.block i (by simp; omega) (fun h => e (by cases h; rfl))).trans (B0.block i hi)
  have bx0 := Boxed.new (w.alloc (.cells #[] 9)) 33 (.slice (some ⟨w.heap.size, 0, none⟩) 0 0)
  simp only [World.size_alloc] at bx0
  have bx : Boxed w3 (w.heap.size + 1) 33 (.slice (some ⟨w.heap.size, 0, none⟩) 0 0) := bx0.kept hu3.2.1 (by simp; omega)
  clear bx0
  have sx : Strs w3 w.heap.size (.slice (some ⟨w.heap.size, 0, none⟩) 0 0) [] := ((Strs.empty w w.heap.size (Nat.le_refl _)).alloc (.cells #[.slice (some ⟨w.heap.size, 0, none⟩) 0 0] 33)).grown hu3.2.1 (fun g hg e => by simp [Value.ownBlock] at hg; cases e; omega)
  have b3 := Boxed.new w3 9 (.string ⟨U.toArray⟩)
  have b4 := Boxed.new (w3.alloc (.cells #[.string ⟨U.toArray⟩] 9)) 5 (.int .u8 47)
  simp only [World.size_alloc] at b4
  rw [hz3] at b3 b4 ⊢
  have hB0 : Below w.heap.size V ((w3.alloc (.cells #[.string ⟨U.toArray⟩] 9)).alloc (.cells #[.int .u8 47] 5)) := (hVB.alloc (by omega) _).alloc (by simp; omega) _
  have b1' := (bx.alloc (.cells #[.string ⟨U.toArray⟩] 9)).alloc (.cells #[.int .u8 47] 5)
  have b3' := b3.alloc (.cells #[.int .u8 47] 5)
  have hS0 := (sx.alloc (.cells #[.string ⟨U.toArray⟩] 9)).alloc (.cells #[.int .u8 47] 5)
  clear bx sx b3 HU hu3 hVB hq hm hq3
  obtain ⟨W0, hW0⟩ : ∃ W0, (w3.alloc (.cells #[.string ⟨U.toArray⟩] 9)).alloc (.cells #[.int .u8 47] 5) = W0 := ⟨_, rfl⟩
  have hsz : W0.heap.size = w.heap.size + 4 := by rw [← hW0]; simp; omega
  rw [hW0] at b1' b3' b4 hS0 hB0 ⊢
  clear hW0 hz3 B0
  have HSZ := Lib.hid hsz
  have HVS := Lib.hid hVs
  clear hsz hVs
  refine wpIn_rangeFunc_ownF rfl h1 (gf := 111) (lb := #[.pointer (some ⟨w.heap.size + 1 + 1, 0, none⟩), .pointer (some ⟨w.heap.size + 1 + 1 + 1, 0, none⟩)]) rfl trivial (enters_of Try.func111 (by kernel_rfl) rfl)
    (parts_stops (n - 1) (by omega) (w.heap.size + 1 + 1) (w.heap.size + 1 + 1 + 1) ⟨U.toArray⟩ 47 (by show U.toArray.size ≤ _; simp; omega) W0 (by rw [HSZ.out]; omega) (by rw [HSZ.out]; omega) b3' b4) kpB_t (kpB_b (by rw [HSZ.out]; omega) (by rw [HSZ.out]; omega)) (Below.refl _ _) (fun _ => rfl)
    (fun pre W => SpN w.heap.size (pre.map fun x => decP x.1) W ∧ Below w.heap.size V W)
    (fun c pre W => False)
    (OwnFrom.and (spN_own w.heap.size _ _) (ownFrom_below (by rw [HVS.out]; exact Nat.le_refl _) (by rw [HSZ.out]; omega)))
    (fun c => ownFrom_pure _ _)
    ⟨⟨by rw [HSZ.out]; exact Nat.le_refl _, _, b1', hS0, fun g hg => by simp [Value.ownBlock] at hg; omega⟩, hB0⟩
    (fun x => { tmps := #[.pointer (some ⟨q, 0, none⟩), undef, .string ⟨#[]⟩, .pointer (some ⟨w.heap.size + 1, 0, none⟩), .string ⟨x.1.toArray⟩, undef, undef, .slice (some ⟨w.heap.size, 0, none⟩) 0 0, .pointer (some ⟨q, 0, none⟩), .pointer (some ⟨q, 0, none⟩), .pointer (some ⟨q, 0, none⟩), .string ⟨U.toArray⟩, .func (.func 111) #[] #[.pointer (some ⟨w.heap.size + 1 + 1, 0, none⟩), .pointer (some ⟨w.heap.size + 1 + 1 + 1, 0, none⟩)], .string ⟨x.1.toArray⟩, undef, undef, undef, undef, undef, undef, undef, undef, undef, undef, undef], defers := [] }) ?assign ?body ?done ?stop
  case assign =>
    intro l x W K hK
    unfold partV
    gi_wp2
    exact hK
  case body =>
    rintro l' pre x W ⟨⟨h4, v, hR, hS, hne⟩, hB⟩ hpl
    have HC := Lib.hid (implPct_text x.1 W x.2)
    obtain ⟨E, HEE⟩ : ∃ E, Hid (decP x.1 = E) := ⟨_, Lib.hid rfl⟩
    obtain ⟨fn, HFN⟩ : ∃ fn, Hid ((pctS x.1).isSome = fn) := ⟨_, Lib.hid rfl⟩
    simp only [HEE.out, HFN.out] at HC
    have HPL : Hid ((pre.map fun x => decP x.1).length + 1 ≤ 16777216) := Lib.hid (by
      have hs2 : (⟨U.toArray⟩ : ByteArray).size = U.length := size_of U
      rw [hs2] at hpl
      simp; omega)
    gi_wp2_with (first
      | (refine ⟨trivial, ?_⟩; gi_at_call 114; refine (CallsIn.inRound l' (callsIn_wide.2 HC.out)).mono ?_; rintro e w4 ⟨rfl, hb4⟩; have hR4 := (show Boxed w4 (w.heap.size + 1) 33 v from keepB hR hb4); have c4 := hR4.cell; have S4 := hS.below hb4; have HSI : Hid (w.heap.size ≤ (w4.alloc (.cells #[.string ⟨E.toArray⟩] 9)).heap.size) := Lib.hid (by have := hb4.size; simp; omega))
      | (gi_at_builtin; refine wpListIn_append_one rfl _ _ rfl w.heap.size v (pre.map fun x => decP x.1) rfl (S4.alloc _) E w4.heap.size 1 _ _ rfl (heap_alloc_new w4 _) HPL.out HSI.out ?_; intro g cap w5 hS5 hg5 hl5; have HE := Lib.hid (spN_end w.heap.size V W w4 w5 v _ _ _ g cap h4 hR hS hne hB hb4 hg5 hS5 hl5); have c5 := HE.out.1.cell; have f5 := HE.out.1.frozen))
    have hE := HE.out.2
    simp only [List.length_map] at hE
    refine ⟨hE.1, hE.2.1, ?_, hE.2.2.2⟩
    rw [List.map_append, List.map_cons, List.map_nil, HEE.out]
    exact hE.2.2.1
  case done =>
    rintro D ys W hD hys ⟨⟨h4, v, hR, hS, hne⟩, hB⟩ hK
    have hyl : (ys.map fun x => decP x.1) = (cutL 47 U).map decP := by
      have : cutL 47 U = ys.map Subtype.val := hys.symm
      rw [this, List.map_map]; rfl
    rw [hyl] at hS
    have cR := hR.cell
    have hLl := cutL_len_le 47 U
    have hjl : (Lib.join ((cutL 47 U).map decP) [47]).length ≤ 1048577 := by
      have a1 := join_jl 47 ((cutL 47 U).map decP)
      have a2 := jl_map decP pctS_le (cutL 47 U)
      have a3 := jl_cutL 47 U
      omega
    have HJ := Lib.hid (joinAll_any W w.heap.size v ((cutL 47 U).map decP) [47] hS (by simp; omega) (by omega))
    have HX : Hid (nameP (cutL 47 U) = Lib.join ((cutL 47 U).map decP) [47]) := Lib.hid rfl
    obtain ⟨J, HJJ⟩ : ∃ J, Hid (Lib.join ((cutL 47 U).map decP) [47] = J) := ⟨_, Lib.hid rfl⟩
    rw [HJJ.out] at HJ HX
    clear hyl hS hne hys hjl
    gi_wp2_with (refine ⟨trivial, ?_⟩; gi_at_call 53; refine (callsIn_wide.2 HJ.out).mono ?_; rintro e w4 ⟨rfl, hb4⟩)
    have hK4 := keepB hK hb4
    refine ⟨by simp, .inl ⟨_, _, rfl, run_takeDeferred hK4, ?_⟩⟩
    have hB4 := hB.trans (hb4.mono (by omega))
    have hB5 := hB4.trans (belowK_b (w := V) (by rw [HVS.out]; exact Nat.le_refl _) w4 D _ (.deferred none) (by have := HSZ.out; have := HVS.out; omega) hK4 rfl rfl)
    refine ⟨_, by simp [results, Try.f82, go_sem]; rfl, by rw [HX.out], (hB5.block q hqs).trans hVq, ?_⟩
    exact ⟨hB5.os.trans hVg.os, hB5.tape.trans hVg.tape, hB5.output.trans hVg.output, Nat.le_trans hVg.size hB5.size, fun i hi hn => (hB5.block i hi).trans (hVg.block i hi hn)⟩
  case stop =>
    rintro D c pre W hD hpre h hK
    exact h.elim
end Go.Proofs.Ytldfkdkppgammaa

/-
  impl.NameOk returns whether a string is a package name, as spec.NameOk does.
-/
namespace Go.Proofs.Ytldfkdkppgammaa
open Go.RowKit Go.Shelf
attribute [local go_sem] Oper.semAt_some

theorem name_waysI (z : Int) : lowI z = true ∨ (lowI z = false ∧ digI z = true) ∨ (lowI z = false ∧ digI z = false ∧ (z == 46) = true) ∨ (lowI z = false ∧ digI z = false ∧ (z == 46) = false ∧ (z == 95) = true) ∨ (lowI z = false ∧ digI z = false ∧ (z == 46) = false ∧ (z == 95) = false ∧ (z == 45) = true) ∨ (lowI z = false ∧ digI z = false ∧ (z == 46) = false ∧ (z == 95) = false ∧ (z == 45) = false) := by
  cases lowI z <;> cases digI z <;> simp <;> omega
theorem name_yesI {z : Int} (h : lowI z = true ∨ digI z = true ∨ (z == 46) = true ∨ (z == 95) = true ∨ (z == 45) = true) : nameI z = true := by
  unfold lowI digI at h; unfold nameI; simp at h ⊢; omega
theorem name_noI {z : Int} (h : lowI z = false ∧ digI z = false ∧ (z == 46) = false ∧ (z == 95) = false ∧ (z == 45) = false) : nameI z = false := by
  unfold lowI digI at h; unfold nameI; simp at h ⊢; omega

set_option maxRecDepth 100000 in
set_option maxHeartbeats 2000000 in
theorem componentOk_any (q : ByteArray) (w : World) (hq : q.size ≤ 1048576) : Calls Try.prog 110 #[.string q] w fun e w' => e = .returned (.bool (compL q.data.toList)) ∧ w = w' := by
  go_enter Try.func110, Try.ntmps110
  go_wp2
  go_loop [3, 6] (fun _ k => ∃ m : Nat, m ≤ q.size ∧ k = .int .i64 m ∧ Hid ((q.data.toList.take m).all nameB = true)) (fun _ k => q.size - (intOf k).toNat)
  case atStart => exact ⟨0, Nat.zero_le _, rfl, Lib.hid (by simp)⟩
  case round =>
    obtain ⟨m, hm, rfl, HA⟩ := hrel
    by_cases hml : m < q.size
    · have c1 := (byte_lt q[m]).1
      have c2 := (byte_lt q[m]).2
      rcases name_waysI (q[m].toNat : Int) with z | ⟨z, y⟩ | ⟨z, y, z1⟩ | ⟨z, y, z1, z2⟩ | ⟨z, y, z1, z2, z3⟩ | ⟨z, y, z1, z2, z3⟩
      case inl =>
        have HY := Lib.hid (all_go q m nameB hml HA.out (name_yesI (.inl z)))
        have HS := Lib.hid z
        clear z
        go_wp2_with fail
        refine (isLower_any _ _ c2 c1).mono ?_
        rw [HS.out]
        rintro e w' ⟨rfl, rfl⟩
        go_wp2_with (go_at_call 44; fail)
        go_round
        case rel => exact ⟨m + 1, by omega, by go_num, HY⟩
        case measure => simp [intOf]; omega
      case inr.inl =>
        have HY := Lib.hid (all_go q m nameB hml HA.out (name_yesI (.inr (.inl y))))
        have HS := Lib.hid z
        have HT := Lib.hid y
        clear z y
        go_wp2_with fail
        refine (isLower_any _ _ c2 c1).mono ?_
        rw [HS.out]
        rintro e w' ⟨rfl, rfl⟩
        go_wp2_with fail
        refine (isDigit_any _ _ c2 c1).mono ?_
        rw [HT.out]
        rintro e w' ⟨rfl, rfl⟩
        go_wp2_with fail
        go_round
        case rel => exact ⟨m + 1, by omega, by go_num, HY⟩
        case measure => simp [intOf]; omega
      case inr.inr.inr.inr.inr =>
        have HX := Lib.hid (compL_bad (all_no q m nameB hml (name_noI ⟨z, y, z1, z2, z3⟩)))
        have HS := Lib.hid z
        have HT := Lib.hid y
        have y1 := bne_of_beq z1
        have y2 := bne_of_beq z2
        have y3 := bne_of_beq z3
        clear z y z1 z2 z3
        go_wp2_with fail
        refine (isLower_any _ _ c2 c1).mono ?_
        rw [HS.out]
        rintro e w' ⟨rfl, rfl⟩
        go_wp2_with fail
        refine (isDigit_any _ _ c2 c1).mono ?_
        rw [HT.out]
        rintro e w' ⟨rfl, rfl⟩
        go_wp2_with fail
        go_ret
        exact ⟨ret_bool HX.out.symm, rfl⟩
      all_goals
        have HY := Lib.hid (all_go q m nameB hml HA.out (name_yesI (by simp only [z1] at *; first | exact .inr (.inr (.inl trivial)) | exact .inr (.inr (.inr (.inl z2))) | exact .inr (.inr (.inr (.inr z3))))))
        have HS := Lib.hid z
        have HT := Lib.hid y
        have y1 := bne_of_beq z1
        try have y2 := bne_of_beq z2
        try have y3 := bne_of_beq z3
        clear z y z1
        try clear z2
        try clear z3
        go_wp2_with fail
        refine (isLower_any _ _ c2 c1).mono ?_
        rw [HS.out]
        rintro e w' ⟨rfl, rfl⟩
        go_wp2_with fail
        refine (isDigit_any _ _ c2 c1).mono ?_
        rw [HT.out]
        rintro e w' ⟨rfl, rfl⟩
        go_wp2_with fail
        go_round
        case rel => exact ⟨m + 1, by omega, by go_num, HY⟩
        case measure => simp [intOf]; omega
    · have HA2 := HA.out
      rw [take_end q m hml] at HA2
      by_cases hqe : q.data.toList.isEmpty = true
      · have HX := Lib.hid (compL_empty hqe)
        have e9 : q.toList.isEmpty = true := by rw [ByteArray.toList_eq]; exact hqe
        clear hqe HA2
        go_wp2_with fail
        go_ret
        exact ⟨ret_bool HX.out.symm, rfl⟩
      · have hqe' : q.data.toList.isEmpty = false := by simpa using hqe
        have HX := Lib.hid (compL_good hqe' HA2)
        have e9 : q.toList.isEmpty = false := by rw [ByteArray.toList_eq]; exact hqe'
        clear hqe hqe' HA2
        go_wp2_with fail
        go_ret
        exact ⟨ret_bool HX.out.symm, rfl⟩
end Go.Proofs.Ytldfkdkppgammaa

/-
  impl.NameOk returns whether a string is a package name, as spec.NameOk does.
-/
namespace Go.Proofs.Ytldfkdkppgammaa
open Go.RowKit Go.Shelf
attribute [local go_sem] Oper.semAt_some

def partsOk (sc : Bool) : List (List UInt8) → Bool
  | [] => true
  | p :: ps => chk sc p && ps.all (chk false)
theorem partsOk_snoc (sc : Bool) (pre : List (List UInt8)) (x : List UInt8) : partsOk sc (pre ++ [x]) = (partsOk sc pre && chk (sc && pre.isEmpty) x) := by
  cases pre with
  | nil => simp [partsOk]
  | cons p ps => simp [partsOk, Bool.and_assoc]
theorem map_empty (pre : List Part) : (pre.map Subtype.val).isEmpty = pre.isEmpty := by cases pre <;> rfl
theorem partsOk_prefix {sc : Bool} {pre P : List (List UInt8)} (h : pre <+: P) (hb : partsOk sc pre = false) : partsOk sc P = false := by
  obtain ⟨t, rfl⟩ := h
  cases pre with
  | nil => simp [partsOk] at hb
  | cons p ps =>
    simp only [partsOk, List.cons_append, List.all_append] at hb ⊢
    rw [Bool.and_eq_false_iff] at hb ⊢
    rcases hb with hb | hb
    · exact .inl hb
    · right; rw [hb]; rfl

set_option maxRecDepth 100000 in
set_option maxHeartbeats 4000000 in
theorem implNameOk_plain (n : Nat) (hn : 4 ≤ n) (s r : ByteArray) (w : World) (h0 : 0 < s.size) (h60 : s.size ≤ 60) (e1 : ((s[0].toNat : Int) == 64) = false) (hsr : r = s) (hr : r.size ≤ 60) :
    CallsIn Fence.wide n Try.prog 76 #[.string s] w fun e W' => e = .returned (.bool (partsOk false (cutL 47 r.data.toList))) ∧ Below w.heap.size w W' := by
  have h1 : 1 ≤ n := by omega
  have hn2 : 1 ≤ n - 1 - 1 := by omega
  subst hsr
  have t1 : decide ((r.size : Int) < 1) = false := by simp; omega
  have t2 : decide ((60 : Int) < (r.size : Int)) = false := by simp; omega
  refine callsIn_of_wp_marks Try.func76 rfl trivial ?_ rfl
  simp only [Try.ntmps76, List.size_toArray, List.length_cons, List.length_nil, Nat.reduceAdd, Nat.reduceSub, Array.replicate_succ, Array.replicate_zero, List.push_toArray, List.append_toArray, List.nil_append, List.cons_append]
  gi_wp2_with (refine ⟨trivial, ?_⟩; gi_at_call 77; refine (partsOf_in _ _ _ _).mono ?_; rintro e w' ⟨rfl, rfl⟩)
  have b1 := Boxed.new w 4 (.bool false)
  have b2 := Boxed.new (w.alloc (.cells #[.bool false] 4)) 4 (.bool false)
  have b3 := Boxed.new ((w.alloc (.cells #[.bool false] 4)).alloc (.cells #[.bool false] 4)) 9 (.string r)
  have b4 := Boxed.new (((w.alloc (.cells #[.bool false] 4)).alloc (.cells #[.bool false] 4)).alloc (.cells #[.string r] 9)) 5 (.int .u8 47)
  simp only [World.size_alloc] at b2 b3 b4
  have hB0 : Below w.heap.size w ((((w.alloc (.cells #[.bool false] 4)).alloc (.cells #[.bool false] 4)).alloc (.cells #[.string r] 9)).alloc (.cells #[.int .u8 47] 5)) := ((((Below.refl _ w).alloc (Nat.le_refl _) _).alloc (by simp) _).alloc (by simp; omega) _).alloc (by simp; omega) _
  have b1' := ((b1.alloc (.cells #[.bool false] 4)).alloc (.cells #[.string r] 9)).alloc (.cells #[.int .u8 47] 5)
  have b2' := (b2.alloc (.cells #[.string r] 9)).alloc (.cells #[.int .u8 47] 5)
  have b3' := b3.alloc (.cells #[.int .u8 47] 5)
  clear b1 b2 b3
  obtain ⟨W0, hW0⟩ : ∃ W0, ((((w.alloc (.cells #[.bool false] 4)).alloc (.cells #[.bool false] 4)).alloc (.cells #[.string r] 9)).alloc (.cells #[.int .u8 47] 5)) = W0 := ⟨_, rfl⟩
  have hsz : W0.heap.size = w.heap.size + 4 := by rw [← hW0]; simp
  rw [hW0] at b1' b2' b3' b4 hB0 ⊢
  clear hW0
  have HSZ := Lib.hid hsz
  clear hsz
  refine wpIn_rangeFunc_ownF rfl h1 (gf := 111) (lb := #[.pointer (some ⟨w.heap.size + 1 + 1, 0, none⟩), .pointer (some ⟨w.heap.size + 1 + 1 + 1, 0, none⟩)]) rfl trivial (enters_of Try.func111 (by kernel_rfl) rfl)
    (parts_stops (n - 1) (by omega) (w.heap.size + 1 + 1) (w.heap.size + 1 + 1 + 1) r 47 (by omega) W0 (by rw [HSZ.out]; omega) (by rw [HSZ.out]; omega) b3' b4) kpB_t (kpB_b (by rw [HSZ.out]; omega) (by rw [HSZ.out]; omega)) (Below.refl _ _) (fun _ => rfl)
    (fun pre W => ((partsOk false (pre.map Subtype.val) = true ∧ Boxed W w.heap.size 4 (.bool false)) ∧ Boxed W (w.heap.size + 1) 4 (.bool (false && pre.isEmpty))) ∧ Below w.heap.size w W)
    (fun c pre W => ((c = .ret ∧ partsOk false (pre.map Subtype.val) = false) ∧ Boxed W w.heap.size 4 (.bool false)) ∧ Below w.heap.size w W)
    (OwnFrom.and (OwnFrom.and (OwnFrom.and (ownFrom_pure _ _) (Own.from (boxed_own _ _ _) _)) (Own.from (boxed_own _ _ _) _)) (ownFrom_below (Nat.le_refl _) (by rw [HSZ.out]; omega)))
    (fun c => OwnFrom.and (OwnFrom.and (ownFrom_pure _ _) (Own.from (boxed_own _ _ _) _)) (ownFrom_below (Nat.le_refl _) (by rw [HSZ.out]; omega)))
    ⟨⟨⟨rfl, b1'⟩, b2'⟩, hB0⟩
    (fun x => { tmps := #[.string r, undef, .pointer (some ⟨w.heap.size, 0, none⟩), .pointer (some ⟨w.heap.size + 1, 0, none⟩), .string ⟨x.1.toArray⟩, .string r, .int .i64 r.size, .bool false, .bool false, .string r, .int .i64 r.size, .bool false, .bool false, .string r, .int .u8 r[0].toNat, .bool false, .bool false, undef, undef, .string r, .func (.func 111) #[] #[.pointer (some ⟨w.heap.size + 1 + 1, 0, none⟩), .pointer (some ⟨w.heap.size + 1 + 1 + 1, 0, none⟩)], .string ⟨x.1.toArray⟩, undef, undef, undef, undef, undef, undef, undef, undef, undef, undef, undef], defers := [] }) ?assign ?body ?done ?stop
  case assign =>
    intro l x W K hK
    unfold partV
    gi_wp2
    exact hK
  case body =>
    rintro l pre x W ⟨⟨⟨hg, hR⟩, hC⟩, hB⟩ _
    have HG := Lib.hid hg
    have cR := hR.cell
    have fR := hR.frozen
    have cC := hC.cell
    have fC := hC.frozen
    obtain ⟨b, hbE⟩ : ∃ b : ByteArray, b = ⟨x.1.toArray⟩ := ⟨_, rfl⟩
    have hbl : b.data.toList = x.1 := by rw [hbE]
    have hbs : b.size ≤ 1048576 := by rw [hbE]; show x.1.toArray.size ≤ _; simpa using x.2
    rw [← hbE]
    have HBL := Lib.hid hbl
    have hIE : (false && (pre ++ [x]).isEmpty) = false := by simp
    have HSN : Hid (partsOk false ((pre ++ [x]).map Subtype.val) = chk (false && pre.isEmpty) x.1) := Lib.hid (by rw [List.map_append, List.map_cons, List.map_nil, partsOk_snoc, hg, map_empty]; rfl)
    have HK1 : Hid (∀ u, KpB (w.heap.size + 1 + 1) (w.heap.size + 1 + 1 + 1) W (W.setCell ⟨w.heap.size + 1, 0, none⟩ u)) := Lib.hid (fun u => ⟨Below.heap_setCell _ _ _ _ (by simp), Below.heap_setCell _ _ _ _ (by simp; omega)⟩)
    clear hg hbE hbl
    by_cases hcl : compL b.data.toList = true
    · have HCL := Lib.hid hcl
      by_cases hnm : (b.data.toList == nmL) = true
      · have e2 : (b.toList == [110, 111, 100, 101, 95, 109, 111, 100, 117, 108, 101, 115]) = true := by rw [ByteArray.toList_eq]; exact hnm
        have HCH : Hid (chk (false && pre.isEmpty) x.1 = (false && pre.isEmpty)) := Lib.hid (by rw [← HBL.out]; unfold chk; rw [hcl, hnm]; simp)
        clear hcl hnm
        cases hcur : (false && pre.isEmpty) with
        | true =>
          have HCU : Hid (partsOk false ((pre ++ [x]).map Subtype.val) = true) := Lib.hid (by rw [HSN.out, HCH.out, hcur])
          rw [hcur] at cC hC
          clear hcur
          gi_wp2_with (refine ⟨trivial, ?_⟩; gi_at_call 110; refine (CallsIn.inRound l (callsIn_wide.2 (componentOk_any b _ hbs))).mono ?_; rw [HCL.out]; rintro e w' ⟨rfl, rfl⟩)
          exact ⟨KeepsOthers.setCell _ _ _, HK1.out _, ⟨⟨HCU.out, hR.other (by omega) _⟩, by rw [hIE]; exact hC.set _⟩, hB.setCell (p := ⟨w.heap.size + 1, 0, none⟩) (by simp) _⟩
        | false =>
          have HCU : Hid (partsOk false ((pre ++ [x]).map Subtype.val) = false) := Lib.hid (by rw [HSN.out, HCH.out, hcur])
          rw [hcur] at cC hC
          clear hcur
          gi_wp2_with (refine ⟨trivial, ?_⟩; gi_at_call 110; refine (CallsIn.inRound l (callsIn_wide.2 (componentOk_any b _ hbs))).mono ?_; rw [HCL.out]; rintro e w' ⟨rfl, rfl⟩)
          exact ⟨KeepsOthers.setCell _ _ _, ⟨⟨rfl, HCU.out⟩, hR.set _⟩, hB.setCell (p := ⟨w.heap.size, 0, none⟩) (by simp) _⟩
      · have hnm' : (b.data.toList == nmL) = false := by simpa using hnm
        have e2 : (b.toList == [110, 111, 100, 101, 95, 109, 111, 100, 117, 108, 101, 115]) = false := by rw [ByteArray.toList_eq]; exact hnm'
        have HCU : Hid (partsOk false ((pre ++ [x]).map Subtype.val) = true) := Lib.hid (by rw [HSN.out, ← HBL.out]; unfold chk; rw [hcl, hnm']; simp)
        clear hcl hnm hnm'
        generalize (false && pre.isEmpty) = cur at cC hC
        gi_wp2_with (refine ⟨trivial, ?_⟩; gi_at_call 110; refine (CallsIn.inRound l (callsIn_wide.2 (componentOk_any b _ hbs))).mono ?_; rw [HCL.out]; rintro e w' ⟨rfl, rfl⟩)
        exact ⟨KeepsOthers.setCell _ _ _, HK1.out _, ⟨⟨HCU.out, hR.other (by omega) _⟩, by rw [hIE]; exact hC.set _⟩, hB.setCell (p := ⟨w.heap.size + 1, 0, none⟩) (by simp) _⟩
    · have hcl' : compL b.data.toList = false := by simpa using hcl
      have HCL := Lib.hid hcl'
      have HCU : Hid (partsOk false ((pre ++ [x]).map Subtype.val) = false) := Lib.hid (by rw [HSN.out, ← HBL.out]; unfold chk; rw [hcl']; simp)
      clear hcl hcl'
      generalize (false && pre.isEmpty) = cur at cC hC
      gi_wp2_with (refine ⟨trivial, ?_⟩; gi_at_call 110; refine (CallsIn.inRound l (callsIn_wide.2 (componentOk_any b _ hbs))).mono ?_; rw [HCL.out]; rintro e w' ⟨rfl, rfl⟩)
      exact ⟨KeepsOthers.setCell _ _ _, ⟨⟨rfl, HCU.out⟩, hR.set _⟩, hB.setCell (p := ⟨w.heap.size, 0, none⟩) (by simp) _⟩
  case done =>
    rintro D ys W hD hys ⟨⟨⟨hg, hR⟩, hC⟩, hB⟩ hK
    rw [hys] at hg
    have HG := Lib.hid hg
    clear hg hys
    have cR := hR.cell
    have fR := hR.frozen
    gi_wp2
    have hK' := (KeepsOthers.setCell W ⟨w.heap.size, 0, none⟩ (.bool true)).same D _ hK rfl
    refine ⟨by simp, .inl ⟨_, _, rfl, run_takeDeferred hK', ?_⟩⟩
    have hc5 := cell_kept (hR.set (.bool true)).cell (grownBy_putObj' _ D (.deferred none)) (fun r e => by cases e; exact ⟨_, hK', rfl⟩)
    refine ⟨.bool true, ?_, by rw [HG.out], (hB.setCell (p := ⟨w.heap.size, 0, none⟩) (by simp) _).trans (belowK_b (w := w) (Nat.le_refl _) _ D _ _ (by have := HSZ.out; omega) hK' rfl rfl)⟩
    simp [results, Try.f76, go_sem, hc5]
  case stop =>
    rintro D c pre W hD hpre ⟨⟨⟨rfl, hbad⟩, hR⟩, hB⟩ hK
    have HG := Lib.hid (partsOk_prefix hpre hbad)
    clear hpre hbad
    gi_wp2
    refine ⟨by simp, .inl ⟨_, _, rfl, run_takeDeferred hK, ?_⟩⟩
    have hc5 := cell_kept hR.cell (grownBy_putObj' _ D (.deferred none)) (fun r e => by cases e; exact ⟨_, hK, rfl⟩)
    refine ⟨.bool false, ?_, by rw [HG.out], hB.trans (belowK_b (w := w) (Nat.le_refl _) W D _ _ (by have := HSZ.out; omega) hK rfl rfl)⟩
    simp [results, Try.f76, go_sem, hc5]

set_option maxRecDepth 100000 in
set_option maxHeartbeats 4000000 in
theorem implNameOk_scoped (n : Nat) (hn : 4 ≤ n) (s r : ByteArray) (w : World) (h0 : 0 < s.size) (h60 : s.size ≤ 60) (e1 : ((s[0].toNat : Int) == 64) = true) (he : ∀ W, (Instr.slice 9 (.string s) (some (.int .i64 1)) none none).run Try.prog W = .ok (.string r) W) (hr : r.size ≤ 60) :
    CallsIn Fence.wide n Try.prog 76 #[.string s] w fun e W' => e = .returned (.bool (partsOk true (cutL 47 r.data.toList))) ∧ Below w.heap.size w W' := by
  have h1 : 1 ≤ n := by omega
  have hn2 : 1 ≤ n - 1 - 1 := by omega
  have t1 : decide ((s.size : Int) < 1) = false := by simp; omega
  have t2 : decide ((60 : Int) < (s.size : Int)) = false := by simp; omega
  refine callsIn_of_wp_marks Try.func76 rfl trivial ?_ rfl
  simp only [Try.ntmps76, List.size_toArray, List.length_cons, List.length_nil, Nat.reduceAdd, Nat.reduceSub, Array.replicate_succ, Array.replicate_zero, List.push_toArray, List.append_toArray, List.nil_append, List.cons_append]
  gi_wp2_with (refine ⟨trivial, ?_⟩; gi_at_call 77; refine (partsOf_in _ _ _ _).mono ?_; rintro e w' ⟨rfl, rfl⟩)
  have b1 := Boxed.new w 4 (.bool false)
  have b2 := Boxed.new (w.alloc (.cells #[.bool false] 4)) 4 (.bool true)
  have b3 := Boxed.new ((w.alloc (.cells #[.bool false] 4)).alloc (.cells #[.bool true] 4)) 9 (.string r)
  have b4 := Boxed.new (((w.alloc (.cells #[.bool false] 4)).alloc (.cells #[.bool true] 4)).alloc (.cells #[.string r] 9)) 5 (.int .u8 47)
  simp only [World.size_alloc] at b2 b3 b4
  have hB0 : Below w.heap.size w ((((w.alloc (.cells #[.bool false] 4)).alloc (.cells #[.bool true] 4)).alloc (.cells #[.string r] 9)).alloc (.cells #[.int .u8 47] 5)) := ((((Below.refl _ w).alloc (Nat.le_refl _) _).alloc (by simp) _).alloc (by simp; omega) _).alloc (by simp; omega) _
  have b1' := ((b1.alloc (.cells #[.bool true] 4)).alloc (.cells #[.string r] 9)).alloc (.cells #[.int .u8 47] 5)
  have b2' := (b2.alloc (.cells #[.string r] 9)).alloc (.cells #[.int .u8 47] 5)
  have b3' := b3.alloc (.cells #[.int .u8 47] 5)
  clear b1 b2 b3
  obtain ⟨W0, hW0⟩ : ∃ W0, ((((w.alloc (.cells #[.bool false] 4)).alloc (.cells #[.bool true] 4)).alloc (.cells #[.string r] 9)).alloc (.cells #[.int .u8 47] 5)) = W0 := ⟨_, rfl⟩
  have hsz : W0.heap.size = w.heap.size + 4 := by rw [← hW0]; simp
  rw [hW0] at b1' b2' b3' b4 hB0 ⊢
  clear hW0
  have HSZ := Lib.hid hsz
  clear hsz
  refine wpIn_rangeFunc_ownF rfl h1 (gf := 111) (lb := #[.pointer (some ⟨w.heap.size + 1 + 1, 0, none⟩), .pointer (some ⟨w.heap.size + 1 + 1 + 1, 0, none⟩)]) rfl trivial (enters_of Try.func111 (by kernel_rfl) rfl)
    (parts_stops (n - 1) (by omega) (w.heap.size + 1 + 1) (w.heap.size + 1 + 1 + 1) r 47 (by omega) W0 (by rw [HSZ.out]; omega) (by rw [HSZ.out]; omega) b3' b4) kpB_t (kpB_b (by rw [HSZ.out]; omega) (by rw [HSZ.out]; omega)) (Below.refl _ _) (fun _ => rfl)
    (fun pre W => ((partsOk true (pre.map Subtype.val) = true ∧ Boxed W w.heap.size 4 (.bool false)) ∧ Boxed W (w.heap.size + 1) 4 (.bool (true && pre.isEmpty))) ∧ Below w.heap.size w W)
    (fun c pre W => ((c = .ret ∧ partsOk true (pre.map Subtype.val) = false) ∧ Boxed W w.heap.size 4 (.bool false)) ∧ Below w.heap.size w W)
    (OwnFrom.and (OwnFrom.and (OwnFrom.and (ownFrom_pure _ _) (Own.from (boxed_own _ _ _) _)) (Own.from (boxed_own _ _ _) _)) (ownFrom_below (Nat.le_refl _) (by rw [HSZ.out]; omega)))
    (fun c => OwnFrom.and (OwnFrom.and (ownFrom_pure _ _) (Own.from (boxed_own _ _ _) _)) (ownFrom_below (Nat.le_refl _) (by rw [HSZ.out]; omega)))
    ⟨⟨⟨rfl, b1'⟩, b2'⟩, hB0⟩
    (fun x => { tmps := #[.string r, undef, .pointer (some ⟨w.heap.size, 0, none⟩), .pointer (some ⟨w.heap.size + 1, 0, none⟩), .string ⟨x.1.toArray⟩, .string s, .int .i64 s.size, .bool false, .bool false, .string s, .int .i64 s.size, .bool false, .bool false, .string s, .int .u8 s[0].toNat, .bool true, .bool true, .string s, .string r, .string r, .func (.func 111) #[] #[.pointer (some ⟨w.heap.size + 1 + 1, 0, none⟩), .pointer (some ⟨w.heap.size + 1 + 1 + 1, 0, none⟩)], .string ⟨x.1.toArray⟩, undef, undef, undef, undef, undef, undef, undef, undef, undef, undef, undef], defers := [] }) ?assign ?body ?done ?stop
  case assign =>
    intro l x W K hK
    unfold partV
    gi_wp2
    exact hK
  case body =>
    rintro l pre x W ⟨⟨⟨hg, hR⟩, hC⟩, hB⟩ _
    have HG := Lib.hid hg
    have cR := hR.cell
    have fR := hR.frozen
    have cC := hC.cell
    have fC := hC.frozen
    obtain ⟨b, hbE⟩ : ∃ b : ByteArray, b = ⟨x.1.toArray⟩ := ⟨_, rfl⟩
    have hbl : b.data.toList = x.1 := by rw [hbE]
    have hbs : b.size ≤ 1048576 := by rw [hbE]; show x.1.toArray.size ≤ _; simpa using x.2
    rw [← hbE]
    have HBL := Lib.hid hbl
    have hIE : (true && (pre ++ [x]).isEmpty) = false := by simp
    have HSN : Hid (partsOk true ((pre ++ [x]).map Subtype.val) = chk (true && pre.isEmpty) x.1) := Lib.hid (by rw [List.map_append, List.map_cons, List.map_nil, partsOk_snoc, hg, map_empty]; rfl)
    have HK1 : Hid (∀ u, KpB (w.heap.size + 1 + 1) (w.heap.size + 1 + 1 + 1) W (W.setCell ⟨w.heap.size + 1, 0, none⟩ u)) := Lib.hid (fun u => ⟨Below.heap_setCell _ _ _ _ (by simp), Below.heap_setCell _ _ _ _ (by simp; omega)⟩)
    clear hg hbE hbl
    by_cases hcl : compL b.data.toList = true
    · have HCL := Lib.hid hcl
      by_cases hnm : (b.data.toList == nmL) = true
      · have e2 : (b.toList == [110, 111, 100, 101, 95, 109, 111, 100, 117, 108, 101, 115]) = true := by rw [ByteArray.toList_eq]; exact hnm
        have HCH : Hid (chk (true && pre.isEmpty) x.1 = (true && pre.isEmpty)) := Lib.hid (by rw [← HBL.out]; unfold chk; rw [hcl, hnm]; simp)
        clear hcl hnm
        cases hcur : (true && pre.isEmpty) with
        | true =>
          have HCU : Hid (partsOk true ((pre ++ [x]).map Subtype.val) = true) := Lib.hid (by rw [HSN.out, HCH.out, hcur])
          rw [hcur] at cC hC
          clear hcur
          gi_wp2_with (refine ⟨trivial, ?_⟩; gi_at_call 110; refine (CallsIn.inRound l (callsIn_wide.2 (componentOk_any b _ hbs))).mono ?_; rw [HCL.out]; rintro e w' ⟨rfl, rfl⟩)
          exact ⟨KeepsOthers.setCell _ _ _, HK1.out _, ⟨⟨HCU.out, hR.other (by omega) _⟩, by rw [hIE]; exact hC.set _⟩, hB.setCell (p := ⟨w.heap.size + 1, 0, none⟩) (by simp) _⟩
        | false =>
          have HCU : Hid (partsOk true ((pre ++ [x]).map Subtype.val) = false) := Lib.hid (by rw [HSN.out, HCH.out, hcur])
          rw [hcur] at cC hC
          clear hcur
          gi_wp2_with (refine ⟨trivial, ?_⟩; gi_at_call 110; refine (CallsIn.inRound l (callsIn_wide.2 (componentOk_any b _ hbs))).mono ?_; rw [HCL.out]; rintro e w' ⟨rfl, rfl⟩)
          exact ⟨KeepsOthers.setCell _ _ _, ⟨⟨rfl, HCU.out⟩, hR.set _⟩, hB.setCell (p := ⟨w.heap.size, 0, none⟩) (by simp) _⟩
      · have hnm' : (b.data.toList == nmL) = false := by simpa using hnm
        have e2 : (b.toList == [110, 111, 100, 101, 95, 109, 111, 100, 117, 108, 101, 115]) = false := by rw [ByteArray.toList_eq]; exact hnm'
        have HCU : Hid (partsOk true ((pre ++ [x]).map Subtype.val) = true) := Lib.hid (by rw [HSN.out, ← HBL.out]; unfold chk; rw [hcl, hnm']; simp)
        clear hcl hnm hnm'
        generalize (true && pre.isEmpty) = cur at cC hC
        gi_wp2_with (refine ⟨trivial, ?_⟩; gi_at_call 110; refine (CallsIn.inRound l (callsIn_wide.2 (componentOk_any b _ hbs))).mono ?_; rw [HCL.out]; rintro e w' ⟨rfl, rfl⟩)
        exact ⟨KeepsOthers.setCell _ _ _, HK1.out _, ⟨⟨HCU.out, hR.other (by omega) _⟩, by rw [hIE]; exact hC.set _⟩, hB.setCell (p := ⟨w.heap.size + 1, 0, none⟩) (by simp) _⟩
    · have hcl' : compL b.data.toList = false := by simpa using hcl
      have HCL := Lib.hid hcl'
      have HCU : Hid (partsOk true ((pre ++ [x]).map Subtype.val) = false) := Lib.hid (by rw [HSN.out, ← HBL.out]; unfold chk; rw [hcl']; simp)
      clear hcl hcl'
      generalize (true && pre.isEmpty) = cur at cC hC
      gi_wp2_with (refine ⟨trivial, ?_⟩; gi_at_call 110; refine (CallsIn.inRound l (callsIn_wide.2 (componentOk_any b _ hbs))).mono ?_; rw [HCL.out]; rintro e w' ⟨rfl, rfl⟩)
      exact ⟨KeepsOthers.setCell _ _ _, ⟨⟨rfl, HCU.out⟩, hR.set _⟩, hB.setCell (p := ⟨w.heap.size, 0, none⟩) (by simp) _⟩
  case done =>
    rintro D ys W hD hys ⟨⟨⟨hg, hR⟩, hC⟩, hB⟩ hK
    rw [hys] at hg
    have HG := Lib.hid hg
    clear hg hys
    have cR := hR.cell
    have fR := hR.frozen
    gi_wp2
    have hK' := (KeepsOthers.setCell W ⟨w.heap.size, 0, none⟩ (.bool true)).same D _ hK rfl
    refine ⟨by simp, .inl ⟨_, _, rfl, run_takeDeferred hK', ?_⟩⟩
    have hc5 := cell_kept (hR.set (.bool true)).cell (grownBy_putObj' _ D (.deferred none)) (fun r e => by cases e; exact ⟨_, hK', rfl⟩)
    refine ⟨.bool true, ?_, by rw [HG.out], (hB.setCell (p := ⟨w.heap.size, 0, none⟩) (by simp) _).trans (belowK_b (w := w) (Nat.le_refl _) _ D _ _ (by have := HSZ.out; omega) hK' rfl rfl)⟩
    simp [results, Try.f76, go_sem, hc5]
  case stop =>
    rintro D c pre W hD hpre ⟨⟨⟨rfl, hbad⟩, hR⟩, hB⟩ hK
    have HG := Lib.hid (partsOk_prefix hpre hbad)
    clear hpre hbad
    gi_wp2
    refine ⟨by simp, .inl ⟨_, _, rfl, run_takeDeferred hK, ?_⟩⟩
    have hc5 := cell_kept hR.cell (grownBy_putObj' _ D (.deferred none)) (fun r e => by cases e; exact ⟨_, hK, rfl⟩)
    refine ⟨.bool false, ?_, by rw [HG.out], hB.trans (belowK_b (w := w) (Nat.le_refl _) W D _ _ (by have := HSZ.out; omega) hK rfl rfl)⟩
    simp [results, Try.f76, go_sem, hc5]

/-- What both return. -/
theorem spec_impl (l : List UInt8) (h0 : 0 < l.length) (h60 : l.length ≤ 60) : specN l = if l.head? = some 64 then partsOk true (cutL 47 l.tail) else partsOk false (cutL 47 l) := by
  unfold specN
  rw [decide_eq_true h60, Bool.and_true]
  match l, h0 with
  | c :: t, _ =>
    by_cases hc : c = 64
    · subst hc
      have hcut : cutL 47 (64 :: t) = attach [64] (cutL 47 t) := by rw [cutL, if_neg (by decide)]
      rw [if_pos (show (64 :: t).head? = some 64 from rfl), hcut]
      cases hX : cutL 47 t with
      | nil => exact absurd hX (cutL_ne 47 t)
      | cons p ps =>
        simp only [attach, List.tail_cons]
        rw [hX]
        simp [chkS, partsOk, chk]
    · rw [if_neg (by simpa using hc)]
      cases hX : cutL 47 (c :: t) with
      | nil => exact absurd hX (cutL_ne 47 _)
      | cons p ps =>
        simp only [partsOk]
        have hp : p.head? ≠ some 64 := by
          by_cases h47 : c = 47
          · subst h47
            rw [cutL, if_pos rfl] at hX
            injection hX with hX _
            rw [← hX]; simp
          · rw [cutL, if_neg h47] at hX
            cases hY : cutL 47 t with
            | nil => exact absurd hY (cutL_ne 47 t)
            | cons q qs =>
              rw [hY] at hX
              simp only [attach] at hX
              injection hX with hX _
              rw [← hX]; simpa using hc
        unfold chkS
        rw [if_neg hp]
theorem spec_long (l : List UInt8) (h : l.length = 0 ∨ 60 < l.length) : specN l = false := by
  rcases h with h | h
  · have : l = [] := List.eq_nil_of_length_eq_zero h
    subst this; decide
  · unfold specN
    rw [decide_eq_false (by omega)]; simp

set_option maxRecDepth 100000 in
set_option maxHeartbeats 2000000 in
theorem implNameOk_out (s : ByteArray) (w : World) (h : s.size = 0 ∨ 60 < s.size) :
    CallsIn Fence.wide 4 Try.prog 76 #[.string s] w fun e W' => e = .returned (.bool false) ∧ Below w.heap.size w W' := by
  have b1 := Boxed.new w 4 (.bool false)
  have cR := b1.cell
  have fR := b1.frozen
  refine callsIn_of_wp_marks Try.func76 rfl trivial ?_ rfl
  simp only [Try.ntmps76, List.size_toArray, List.length_cons, List.length_nil, Nat.reduceAdd, Nat.reduceSub, Array.replicate_succ, Array.replicate_zero, List.push_toArray, List.append_toArray, List.nil_append, List.cons_append]
  rcases h with h | h
  · have t1 : decide ((s.size : Int) < 1) = true := by simp; omega
    have HH := Lib.hid h
    clear h
    gi_wp2
    refine ⟨.bool false, ?_, rfl, (Below.refl _ _).alloc (Nat.le_refl _) _⟩
    simp [results, Try.f76, go_sem, cR]
  · have t1 : decide ((s.size : Int) < 1) = false := by simp; omega
    have t2 : decide ((60 : Int) < (s.size : Int)) = true := by simp; omega
    clear h
    gi_wp2
    refine ⟨.bool false, ?_, rfl, (Below.refl _ _).alloc (Nat.le_refl _) _⟩
    simp [results, Try.f76, go_sem, cR]

theorem implNameOk_any (s : ByteArray) (w : World) :
    Calls Try.prog 76 #[.string s] w fun e W' => e = .returned (.bool (specN s.data.toList)) ∧ Below w.heap.size w W' := by
  refine (callsIn_wide (n := 4)).1 ?_
  by_cases h : s.size = 0 ∨ 60 < s.size
  · rw [spec_long s.data.toList (by simpa using h)]
    exact implNameOk_out s w h
  · have h0 : 0 < s.size := by omega
    have h60 : s.size ≤ 60 := by omega
    rw [spec_impl s.data.toList (by simpa using h0) (by simpa using h60)]
    have hd := drop_cons s 0 h0
    simp at hd
    by_cases h64 : s[0] = 64
    · rw [if_pos (by rw [hd]; simpa using h64)]
      have e : s.data.toList.tail = (s.extract 1 s.size).data.toList := by rw [piece_end]; simp
      rw [e]
      exact implNameOk_scoped 4 (by omega) s (s.extract 1 s.size) w h0 h60 (by rw [h64]; rfl) (slice_from s _ 1 1 rfl (by omega) rfl) (by simp; omega)
    · rw [if_neg (by rw [hd]; simpa using h64)]
      exact implNameOk_plain 4 (by omega) s s w h0 h60 (int_beq_false (fun h => h64 (UInt8.toNat_inj.1 (by show _ = (64 : Nat); omega)))) rfl h60
end Go.Proofs.Ytldfkdkppgammaa

/-
  impl.PutPercent returns the percent encoding of every byte.
-/
namespace Go.Proofs.Ytldfkdkppgammaa
open Go.RowKit

set_option maxHeartbeats 2000000 in
theorem implPutPercent_any (s : ByteArray) (w : World) (hs : s.size ≤ 1048576) :
    Calls Try.prog 78 #[.string s] w fun e w' => e = .returned (.string ⟨(pctL s.data.toList).toArray⟩) ∧ Below w.heap.size w w' := by
  obtain ⟨i0, hi, hz0, hz1, hz2⟩ := info_parts u8info
  go_enter Try.func78, Try.ntmps78
  go_wp2_with (at_make; refine wpList_make_own _ rfl _ _ 59 rfl w.heap.size 5 i0 (.int .u8 0) 1 Try.underlying59 hi hz0 hz1 .i64 .i64 _ s.size rfl rfl (by omega) (by rw [hz2]; omega) (by unfold maxLen; omega) (Nat.le_refl _) ?_; intro w1 hown1 hg1)
  have hb1 : Below w.heap.size w w1 := (Below.refl _ _).grown hg1 (Nat.le_refl _) (by simp)
  go_loopw [3, 4, 5, 11] (fun v _ _ n wr => ∃ k : Nat, k ≤ s.size ∧ n = .int .i64 k ∧ Buf wr w.heap.size v (pctL (s.data.toList.take k)) ∧ Below w.heap.size w wr) (fun _ _ _ n _ => s.size - (intOf n).toNat)
  case atStart => exact ⟨0, Nat.zero_le _, rfl, hown1, hb1⟩
  case round =>
    obtain ⟨k, hk, rfl, hown, hb⟩ := hrel
    by_cases hlt : k < s.size
    · have hl := pctL_len (s.data.toList.take k)
      have hlk : (s.data.toList.take k).length ≤ k := List.length_take_le _ _
      have HL : Hid ((pctL (s.data.toList.take k)).length + 3 ≤ 16777216) := Lib.hid (by omega)
      clear hl hlk
      have k0 : (0 : Int) ≤ (k : Int) := by omega
      have k1 : (k : Int) < (s.size : Int) := by omega
      by_cases hsf : safeI (s[k].toNat : Int) = true
      · have HN : Hid (pctL (s.data.toList.take (k + 1)) = pctL (s.data.toList.take k) ++ [s[k]]) := Lib.hid (by rw [take_snoc s k hlt, pctL_app]; simp [pctL, pctB, hsf])
        have HS := Lib.hid hsf
        clear hsf
        go_wp2_with fail
        refine (unescaped_any _ _ (byte_lt s[k]).2 (byte_lt s[k]).1).mono ?_
        rw [HS.out]
        rintro e w' ⟨rfl, rfl⟩
        go_wp2_with (at_builtin; refine wpList_append_buf rfl _ _ rfl w.heap.size _ _ rfl (hown.alloc _) [s[k]] wr.heap.size _ _ _ _ _ rfl rfl (heap_alloc_new wr _) (by simp [bv]) (by simp) (by have := HL.out; simp; omega) (by simp; exact Nat.le_succ_of_le hb.size) ?_; intro v' w2 hown2 hb2)
        have HB := hb.trans (((Below.refl w.heap.size wr).alloc hb.size _).trans hb2)
        go_wp2
        go_roundw
        case rel => exact ⟨k + 1, by omega, by go_num, by rw [HN.out]; exact hown2, HB⟩
        case measure => simp [intOf]; omega
      · have hsf' : safeI (s[k].toNat : Int) = false := by simpa using hsf
        have HN : Hid (pctL (s.data.toList.take (k + 1)) = pctL (s.data.toList.take k) ++ [37, hexU (s[k].toNat / 16), hexU (s[k].toNat % 16)]) := Lib.hid (by rw [take_snoc s k hlt, pctL_app]; simp [pctL, pctB, hsf])
        have HS := Lib.hid hsf'
        clear hsf hsf'
        have x1 := idx_upper (s[k].toNat / 16) (by have := s[k].toNat_lt; omega) ((s[k].toNat : Int) / 16) (by omega)
        have x2 := idx_upper (s[k].toNat % 16) (by omega) ((s[k].toNat : Int) % 16) (by omega)
        have x3 := and15 s[k]
        go_wp2_with fail
        refine (unescaped_any _ _ (byte_lt s[k]).2 (byte_lt s[k]).1).mono ?_
        rw [HS.out]
        rintro e w' ⟨rfl, rfl⟩
        go_wp2_with fail
        go_region_law ((refine step_append_buf (by rfl) _ _ (by rfl) w.heap.size _ _ (by rfl) (hown.alloc _).drew [37, hexU (s[k].toNat / 16), hexU (s[k].toNat % 16)] wr.heap.size _ _ _ _ _ (by rfl) (by rfl) (heap_alloc_new wr _) (by simp [bv]) (by simp) HL.out (by simp; exact Nat.le_succ_of_le hb.size) ?_; intro v' w2 hown2 hb2))
        all_goals
          have HB := hb.trans (((Below.refl w.heap.size wr).alloc hb.size _).drew.trans hb2)
          go_wp2
          go_roundw
          case rel => exact ⟨k + 1, by omega, by go_num, by rw [HN.out]; exact hown2, HB⟩
          case measure => simp [intOf]; omega
    · have hcv := hown.conv
      rw [take_end s k hlt] at hcv
      go_wp2
      go_ret
      exact ⟨rfl, hb⟩

end Go.Proofs.Ytldfkdkppgammaa

/-
  impl.PutPurl returns the package URL.
-/
namespace Go.Proofs.Ytldfkdkppgammaa
open Go.RowKit Go.Shelf
attribute [local go_sem] Oper.semAt_some

theorem spJ_ownF (w : World) (B : Nat) (f : Part → List UInt8) : OwnFrom B (fun (pre : List Part) W => SpJ w (pre.map f) W) := by
  rintro pre W W' row ⟨h4, v, hB, hS, hne⟩ hg hr
  refine ⟨Nat.le_trans h4 hg.size, v, hB.kept hg (fun e => ?_), World.ownsRow.kept hS hg ?_, hne⟩
  · obtain ⟨_, o, ho, hc⟩ := hr _ e.symm
    rw [show W.heap[_]? = _ from hB] at ho; cases ho; cases hc
  · rcases hS.2 with ⟨rfl, _⟩ | ⟨g, cap, cur, rfl, _, hh, _⟩
    · left; rfl
    · right
      intro e
      obtain ⟨_, o, ho, hc⟩ := hr g (by simpa [Value.ownBlock] using e.symm)
      rw [hh] at ho; cases ho; cases hc

set_option maxRecDepth 100000 in
set_option maxHeartbeats 4000000 in
theorem putPurl_in (n : Nat) (hn : 4 ≤ n) (k : Int) (a b : List UInt8) (w : World) (ha : a.length ≤ 60) (hb : b.length ≤ 1048576) (hk : kindL k ≠ []) (hm : specN a = true) (hv : readOk b = true) :
    CallsIn Fence.wide n Try.prog 35 #[.int .i64 k, .string ⟨a.toArray⟩, .string ⟨b.toArray⟩] w fun e W' => e = .returned (.string ⟨(purlT k a b).toArray⟩) ∧ Below w.heap.size w W' := by
  have h1 : 1 ≤ n := by omega
  have hn2 : 1 ≤ n - 1 - 1 := by omega
  have hkl := kindL_len k
  have HV : Hid (Calls Try.prog 75 #[.string ⟨b.toArray⟩] w (ReadIs w b)) := Lib.hid (implReadVersion_any ⟨b.toArray⟩ w (by show b.toArray.size ≤ _; simp; omega))
  have HN : Hid (∀ W, Calls Try.prog 76 #[.string ⟨a.toArray⟩] W fun e w' => e = .returned (.bool (specN a)) ∧ Below W.heap.size W w') := Lib.hid (fun W => implNameOk_any ⟨a.toArray⟩ W)
  have HK := Lib.hid (fun W => implKindName_any k W)
  have HVV := Lib.hid hv
  simp only [hm] at HN
  obtain ⟨K, HKK⟩ : ∃ K, Hid (kindL k = K) := ⟨_, Lib.hid rfl⟩
  simp only [HKK.out] at HK
  rw [HKK.out] at hk hkl
  obtain ⟨e1, e2⟩ := str_beq_nil hk
  have HR : Hid (purlT k a b = [112, 107, 103, 58] ++ K ++ pctP (cutL 47 a) ++ 64 :: pctL b) := Lib.hid (by unfold purlT; rw [HKK.out])
  clear hk hm hv
  refine callsIn_of_wp_marks Try.func35 rfl trivial ?_ rfl
  simp only [Try.ntmps35, List.size_toArray, List.length_cons, List.length_nil, Nat.reduceAdd, Nat.reduceSub, Array.replicate_succ, Array.replicate_zero, List.push_toArray, List.append_toArray, List.nil_append, List.cons_append]
  gi_wp2_with (refine ⟨trivial, ?_⟩; gi_at_call 12; refine (callsIn_wide.2 (HK.out _)).mono ?_; rintro e w0 ⟨rfl, rfl⟩)
  gi_wp2_with (refine ⟨trivial, ?_⟩; gi_at_call 75; refine (callsIn_wide.2 HV.out).mono ?_; rintro e w1 ⟨u, rfl, hu, hb1⟩; obtain ⟨A, c, rfl⟩ := hu.slice; rw [HVV.out])
  gi_wp2_with (refine ⟨trivial, ?_⟩; gi_at_call 76; refine (callsIn_wide.2 (HN.out _)).mono ?_; rintro e w2 ⟨rfl, hb2⟩)
  gi_wp2_with (refine ⟨trivial, ?_⟩; gi_at_call 77; refine (partsOf_in _ _ _ _).mono ?_; rintro e w' ⟨rfl, rfl⟩)
  have BA := hb1.alloc hb1.size (.cells #[.int .i64 (readA b 0), .int .i64 (readA b 1), .int .i64 (readA b 2), .slice A (readP b).length c] 47)
  have BB := BA.trans (hb2.mono BA.size)
  clear hu hb1 hb2 BA HV HN HK e1 e2
  have b1 := Boxed.new (w2.alloc (.cells #[] 9)) 33 (.slice (some ⟨w2.heap.size, 0, none⟩) 0 0)
  have b3 := Boxed.new ((w2.alloc (.cells #[] 9)).alloc (.cells #[.slice (some ⟨w2.heap.size, 0, none⟩) 0 0] 33)) 9 (.string ⟨a.toArray⟩)
  have b4 := Boxed.new (((w2.alloc (.cells #[] 9)).alloc (.cells #[.slice (some ⟨w2.heap.size, 0, none⟩) 0 0] 33)).alloc (.cells #[.string ⟨a.toArray⟩] 9)) 5 (.int .u8 47)
  simp only [World.size_alloc] at b1 b3 b4
  have hB0 : Below w2.heap.size w2 ((((w2.alloc (.cells #[] 9)).alloc (.cells #[.slice (some ⟨w2.heap.size, 0, none⟩) 0 0] 33)).alloc (.cells #[.string ⟨a.toArray⟩] 9)).alloc (.cells #[.int .u8 47] 5)) := ((((Below.refl _ w2).alloc (Nat.le_refl _) _).alloc (by simp) _).alloc (by simp; omega) _).alloc (by simp; omega) _
  have b1' := (b1.alloc (.cells #[.string ⟨a.toArray⟩] 9)).alloc (.cells #[.int .u8 47] 5)
  have b3' := b3.alloc (.cells #[.int .u8 47] 5)
  have hS0 := (((Strs.empty w2 w2.heap.size (Nat.le_refl _)).alloc (.cells #[.slice (some ⟨w2.heap.size, 0, none⟩) 0 0] 33)).alloc (.cells #[.string ⟨a.toArray⟩] 9)).alloc (.cells #[.int .u8 47] 5)
  clear b1 b3
  obtain ⟨W0, hW0⟩ : ∃ W0, ((((w2.alloc (.cells #[] 9)).alloc (.cells #[.slice (some ⟨w2.heap.size, 0, none⟩) 0 0] 33)).alloc (.cells #[.string ⟨a.toArray⟩] 9)).alloc (.cells #[.int .u8 47] 5)) = W0 := ⟨_, rfl⟩
  have hsz : W0.heap.size = w2.heap.size + 4 := by rw [← hW0]; simp
  rw [hW0] at b1' b3' b4 hS0 hB0 ⊢
  clear hW0
  have HSZ := Lib.hid hsz
  clear hsz
  refine wpIn_rangeFunc_ownF rfl h1 (gf := 111) (lb := #[.pointer (some ⟨w2.heap.size + 1 + 1, 0, none⟩), .pointer (some ⟨w2.heap.size + 1 + 1 + 1, 0, none⟩)]) rfl trivial (enters_of Try.func111 (by kernel_rfl) rfl)
    (parts_stops (n - 1) (by omega) (w2.heap.size + 1 + 1) (w2.heap.size + 1 + 1 + 1) ⟨a.toArray⟩ 47 (by show a.toArray.size ≤ _; simp; omega) W0 (by rw [HSZ.out]; omega) (by rw [HSZ.out]; omega) b3' b4) kpB_t (kpB_b (by rw [HSZ.out]; omega) (by rw [HSZ.out]; omega)) (Below.refl _ _) (fun _ => rfl)
    (fun pre W => SpJ w2 (pre.map fun x => pctL x.1) W ∧ Below w2.heap.size w2 W)
    (fun c pre W => False)
    (OwnFrom.and (spJ_ownF w2 _ _) (ownFrom_below (Nat.le_refl _) (by rw [HSZ.out]; omega)))
    (fun c => ownFrom_pure _ _)
    ⟨⟨by rw [HSZ.out]; exact Nat.le_refl _, _, b1', hS0, fun g hg => by simp [Value.ownBlock] at hg; omega⟩, hB0⟩
    (fun x => { tmps := #[.int .i64 k, .string ⟨a.toArray⟩, .string ⟨b.toArray⟩, undef, undef, undef, .string ⟨#[]⟩, .string ⟨K.toArray⟩, .pointer (some ⟨w1.heap.size, 0, none⟩), .bool true, .pointer (some ⟨w2.heap.size + 1, 0, none⟩), .string ⟨x.1.toArray⟩, .int .i64 k, .string ⟨K.toArray⟩, .tuple #[.agg #[.int .i64 (readA b 0), .int .i64 (readA b 1), .int .i64 (readA b 2), .slice A (readP b).length c], .bool true], .string ⟨b.toArray⟩, .tuple #[.agg #[.int .i64 (readA b 0), .int .i64 (readA b 1), .int .i64 (readA b 2), .slice A (readP b).length c], .bool true], .agg #[.int .i64 (readA b 0), .int .i64 (readA b 1), .int .i64 (readA b 2), .slice A (readP b).length c], .bool true, .string ⟨K.toArray⟩, .bool false, .bool false, .string ⟨a.toArray⟩, .bool true, .bool false, .bool false, .bool false, .bool true, .bool false, .bool false, .slice (some ⟨w2.heap.size, 0, none⟩) 0 0, .string ⟨a.toArray⟩, .func (.func 111) #[] #[.pointer (some ⟨w2.heap.size + 1 + 1, 0, none⟩), .pointer (some ⟨w2.heap.size + 1 + 1 + 1, 0, none⟩)], .string ⟨x.1.toArray⟩, undef, undef, undef, undef, undef, undef, undef, undef, undef, undef, undef, undef, undef, undef, undef], defers := [] }) ?assign ?body ?done ?stop
  case assign =>
    intro l x W K hK
    unfold partV
    gi_wp2
    exact hK
  case body =>
    rintro l pre x W ⟨⟨h4, v, hR, hS, hne⟩, hB⟩ hpl
    have cR := hR.cell
    have fR := hR.frozen
    obtain ⟨E, HEE⟩ : ∃ E, Hid (pctL x.1 = E) := ⟨_, Lib.hid rfl⟩
    gi_wp2
    have hlt : w2.heap.size + 1 < W.drew.heap.size := hR.lt
    have cR' : W.drew.cell? ⟨w2.heap.size + 1, 0, none⟩ = some v := cR
    have fR' : W.drew.frozen? ⟨w2.heap.size + 1, 0, none⟩ = false := fR
    have hCl : CallsIn _ _ Try.prog 78 #[.string ⟨x.1.toArray⟩] W.drew fun e w' => e = .returned (.string ⟨(pctL x.1).toArray⟩) ∧ Below W.drew.heap.size W.drew w' := CallsIn.inRound (n := n - 1 - 1 - 1) l (callsIn_wide.2 (implPutPercent_any ⟨x.1.toArray⟩ W.drew (by show x.1.toArray.size ≤ _; simpa using x.2)))
    rw [HEE.out] at hCl
    have HCL := Lib.hid hCl
    clear hCl
    refine wpIn_region_any (by kernel_rfl) ?_
    change wpAnyIn _ _ _ _ _ _ _ _ _ (World.drew _)
    have HPL : Hid ((pre.map fun x => pctL x.1).length + 1 ≤ 16777216) := Lib.hid (by
      have hs2 : (⟨a.toArray⟩ : ByteArray).size = a.length := size_of a
      rw [hs2] at hpl
      simp; omega)
    refine wpAnyIn_ready (rs := [0, 1]) (by kernel_rfl) (by simp) (AllReadyIn.cons rfl (fun K hK => ?_) (AllReadyIn.cons rfl (fun K hK => ?_) AllReadyIn.nil)) <;> go_simp <;> refine hK _ _ ?_ <;> clear hK K
    · refine wpAnyIn_ready (rs := [1]) (by kernel_rfl) (by simp) (AllReadyIn.cons rfl (fun K hK => ?_) AllReadyIn.nil)
      go_simp
      refine hK _ _ ?_
      clear hK K
      refine wpAnyIn_ready (rs := [2]) (by kernel_rfl) (by simp) (AllReadyIn.cons rfl (fun K hK => ?_) AllReadyIn.nil)
      go_simp
      refine ⟨trivial, ?_⟩
      refine HCL.out.mono ?_
      rintro e w3 ⟨rfl, hb3⟩
      refine hK _ _ ?_
      clear hK K
      obtain ⟨c1, hlt1⟩ := keep_cell hb3 hlt cR'
      have HSI : Hid (w2.heap.size ≤ (w3.alloc (.cells #[.string ⟨E.toArray⟩] 9)).heap.size) := Lib.hid (by have := hb3.size; simp at this ⊢; omega)
      refine wpAnyIn_ready (rs := [3]) (by kernel_rfl) (by simp) (AllReadyIn.cons rfl (fun K hK => ?_) AllReadyIn.nil)
      go_simp
      refine hK _ _ ?_
      clear hK K
      refine wpAnyIn_ready (rs := [4]) (by kernel_rfl) (by simp) (AllReadyIn.cons rfl (fun K hK => ?_) AllReadyIn.nil)
      refine step_append_in rfl _ _ rfl w2.heap.size v (pre.map fun x => pctL x.1) rfl ((hS.drew.below hb3).alloc _) E w3.heap.size 1 _ _ rfl (heap_alloc_new w3 _) HPL.out HSI.out ?_
      intro g cap w4 hS4 hg4 hg5
      refine hK _ _ ?_
      clear hK K
      have HE := Lib.hid (spl_end w2 W w3 w4 v _ _ _ g cap h4 hR hS hne hB hb3 hg4 hS4 hg5)
      have c3 := HE.out.1.cell
      have f3 := HE.out.1.frozen
      clear hS4 hg4 hg5
      refine wpAnyIn_ready (rs := [5]) (by kernel_rfl) (by simp) (AllReadyIn.cons rfl (fun K hK => ?_) AllReadyIn.nil)
      go_simp
      refine hK _ _ ?_
      clear hK K
      refine wpAnyIn_done (by kernel_rfl) ?_ _
      have hE := HE.out.2
      simp only [List.length_map] at hE
      refine ⟨hE.1, hE.2.1, ?_, hE.2.2.2⟩
      rw [List.map_append, List.map_cons, List.map_nil, HEE.out]
      exact hE.2.2.1
    · refine wpAnyIn_ready (rs := [0, 2]) (by kernel_rfl) (by simp) (AllReadyIn.cons rfl (fun K hK => ?_) (AllReadyIn.cons rfl (fun K hK => ?_) AllReadyIn.nil)) <;> go_simp
      · refine hK _ _ ?_
        clear hK K
        refine wpAnyIn_ready (rs := [2]) (by kernel_rfl) (by simp) (AllReadyIn.cons rfl (fun K hK => ?_) AllReadyIn.nil)
        go_simp
        refine ⟨trivial, ?_⟩
        refine HCL.out.mono ?_
        rintro e w3 ⟨rfl, hb3⟩
        refine hK _ _ ?_
        clear hK K
        obtain ⟨c1, hlt1⟩ := keep_cell hb3 hlt cR'
        have HSI : Hid (w2.heap.size ≤ (w3.alloc (.cells #[.string ⟨E.toArray⟩] 9)).heap.size) := Lib.hid (by have := hb3.size; simp at this ⊢; omega)
        refine wpAnyIn_ready (rs := [3]) (by kernel_rfl) (by simp) (AllReadyIn.cons rfl (fun K hK => ?_) AllReadyIn.nil)
        go_simp
        refine hK _ _ ?_
        clear hK K
        refine wpAnyIn_ready (rs := [4]) (by kernel_rfl) (by simp) (AllReadyIn.cons rfl (fun K hK => ?_) AllReadyIn.nil)
        refine step_append_in rfl _ _ rfl w2.heap.size v (pre.map fun x => pctL x.1) rfl ((hS.drew.below hb3).alloc _) E w3.heap.size 1 _ _ rfl (heap_alloc_new w3 _) HPL.out HSI.out ?_
        intro g cap w4 hS4 hg4 hg5
        refine hK _ _ ?_
        clear hK K
        have HE := Lib.hid (spl_end w2 W w3 w4 v _ _ _ g cap h4 hR hS hne hB hb3 hg4 hS4 hg5)
        have c3 := HE.out.1.cell
        have f3 := HE.out.1.frozen
        clear hS4 hg4 hg5
        refine wpAnyIn_ready (rs := [5]) (by kernel_rfl) (by simp) (AllReadyIn.cons rfl (fun K hK => ?_) AllReadyIn.nil)
        go_simp
        refine hK _ _ ?_
        clear hK K
        refine wpAnyIn_done (by kernel_rfl) ?_ _
        have hE := HE.out.2
        simp only [List.length_map] at hE
        refine ⟨hE.1, hE.2.1, ?_, hE.2.2.2⟩
        rw [List.map_append, List.map_cons, List.map_nil, HEE.out]
        exact hE.2.2.1
      · refine ⟨trivial, ?_⟩
        refine HCL.out.mono ?_
        rintro e w3 ⟨rfl, hb3⟩
        refine hK _ _ ?_
        clear hK K
        obtain ⟨c1, hlt1⟩ := keep_cell hb3 hlt cR'
        have HSI : Hid (w2.heap.size ≤ (w3.alloc (.cells #[.string ⟨E.toArray⟩] 9)).heap.size) := Lib.hid (by have := hb3.size; simp at this ⊢; omega)
        refine wpAnyIn_ready (rs := [0, 3]) (by kernel_rfl) (by simp) (AllReadyIn.cons rfl (fun K hK => ?_) (AllReadyIn.cons rfl (fun K hK => ?_) AllReadyIn.nil)) <;> go_simp <;> refine hK _ _ ?_ <;> clear hK K
        · refine wpAnyIn_ready (rs := [3]) (by kernel_rfl) (by simp) (AllReadyIn.cons rfl (fun K hK => ?_) AllReadyIn.nil)
          go_simp
          refine hK _ _ ?_
          clear hK K
          refine wpAnyIn_ready (rs := [4]) (by kernel_rfl) (by simp) (AllReadyIn.cons rfl (fun K hK => ?_) AllReadyIn.nil)
          refine step_append_in rfl _ _ rfl w2.heap.size v (pre.map fun x => pctL x.1) rfl ((hS.drew.below hb3).alloc _) E w3.heap.size 1 _ _ rfl (heap_alloc_new w3 _) HPL.out HSI.out ?_
          intro g cap w4 hS4 hg4 hg5
          refine hK _ _ ?_
          clear hK K
          have HE := Lib.hid (spl_end w2 W w3 w4 v _ _ _ g cap h4 hR hS hne hB hb3 hg4 hS4 hg5)
          have c3 := HE.out.1.cell
          have f3 := HE.out.1.frozen
          clear hS4 hg4 hg5
          refine wpAnyIn_ready (rs := [5]) (by kernel_rfl) (by simp) (AllReadyIn.cons rfl (fun K hK => ?_) AllReadyIn.nil)
          go_simp
          refine hK _ _ ?_
          clear hK K
          refine wpAnyIn_done (by kernel_rfl) ?_ _
          have hE := HE.out.2
          simp only [List.length_map] at hE
          refine ⟨hE.1, hE.2.1, ?_, hE.2.2.2⟩
          rw [List.map_append, List.map_cons, List.map_nil, HEE.out]
          exact hE.2.2.1
        · have c2 : (w3.alloc (.cells #[.string ⟨E.toArray⟩] 9)).cell? ⟨w2.heap.size + 1, 0, none⟩ = some v := (keep_cell ((Below.refl _ w3).alloc (Nat.le_refl _) _) hlt1 c1).1
          refine wpAnyIn_ready (rs := [0]) (by kernel_rfl) (by simp) (AllReadyIn.cons rfl (fun K hK => ?_) AllReadyIn.nil)
          go_simp
          refine hK _ _ ?_
          clear hK K
          refine wpAnyIn_ready (rs := [4]) (by kernel_rfl) (by simp) (AllReadyIn.cons rfl (fun K hK => ?_) AllReadyIn.nil)
          refine step_append_in rfl _ _ rfl w2.heap.size v (pre.map fun x => pctL x.1) rfl ((hS.drew.below hb3).alloc _) E w3.heap.size 1 _ _ rfl (heap_alloc_new w3 _) HPL.out HSI.out ?_
          intro g cap w4 hS4 hg4 hg5
          refine hK _ _ ?_
          clear hK K
          have HE := Lib.hid (spl_end w2 W w3 w4 v _ _ _ g cap h4 hR hS hne hB hb3 hg4 hS4 hg5)
          have c3 := HE.out.1.cell
          have f3 := HE.out.1.frozen
          clear hS4 hg4 hg5
          refine wpAnyIn_ready (rs := [5]) (by kernel_rfl) (by simp) (AllReadyIn.cons rfl (fun K hK => ?_) AllReadyIn.nil)
          go_simp
          refine hK _ _ ?_
          clear hK K
          refine wpAnyIn_done (by kernel_rfl) ?_ _
          have hE := HE.out.2
          simp only [List.length_map] at hE
          refine ⟨hE.1, hE.2.1, ?_, hE.2.2.2⟩
          rw [List.map_append, List.map_cons, List.map_nil, HEE.out]
          exact hE.2.2.1
  case done =>
    rintro D ys W hD hys ⟨⟨h4, v, hR, hS, hne⟩, hB⟩ hK
    have hyl : (ys.map fun x => pctL x.1) = (cutL 47 a).map pctL := by
      have : cutL 47 a = ys.map Subtype.val := hys.symm
      rw [this, List.map_map]; rfl
    rw [hyl] at hS
    have cR := hR.cell
    have hLl : (cutL 47 a).length ≤ 61 := by have := cutL_len_le 47 a; omega
    have hpp := pctP_len (ls := cutL 47 a) (fun l hl => by have := cutL_mem_le 47 a l hl; omega) 61
    rw [pctP_all (by omega)] at hpp
    have HJE := Lib.hid (join_pct (cutL 47 a) (cutL_ne 47 a))
    have hjl : (Lib.join ((cutL 47 a).map pctL) [47]).length ≤ 11041 := by have := congrArg List.length HJE.out; simp at this; omega
    have HJ := Lib.hid (joinAll_any W w2.heap.size v ((cutL 47 a).map pctL) [47] hS (by simp; omega) (by omega))
    have HP : Hid (∀ W, Calls Try.prog 78 #[.string ⟨b.toArray⟩] W fun e w' => e = .returned (.string ⟨(pctL b).toArray⟩) ∧ Below W.heap.size W w') := Lib.hid (fun W => implPutPercent_any ⟨b.toArray⟩ W (by show b.toArray.size ≤ _; simp; omega))
    have hbp := pctL_len b
    obtain ⟨J, HJJ⟩ : ∃ J, Hid (Lib.join ((cutL 47 a).map pctL) [47] = J) := ⟨_, Lib.hid rfl⟩
    obtain ⟨E, HEE⟩ : ∃ E, Hid (pctL b = E) := ⟨_, Lib.hid rfl⟩
    rw [HJJ.out] at hjl HJ HJE
    rw [HEE.out] at hbp
    simp only [HEE.out] at HP
    obtain ⟨N1, HN1⟩ : ∃ N, Hid (N = [112, 107, 103, 58] ++ K) := ⟨_, Lib.hid rfl⟩
    obtain ⟨N2, HN2⟩ : ∃ N, Hid (N = N1 ++ [47]) := ⟨_, Lib.hid rfl⟩
    obtain ⟨N3, HN3⟩ : ∃ N, Hid (N = N2 ++ J) := ⟨_, Lib.hid rfl⟩
    obtain ⟨N4, HN4⟩ : ∃ N, Hid (N = N3 ++ [64]) := ⟨_, Lib.hid rfl⟩
    obtain ⟨N5, HN5⟩ : ∃ N, Hid (N = N4 ++ E) := ⟨_, Lib.hid rfl⟩
    have l1 : N1.length ≤ 10 := by rw [HN1.out]; simp; omega
    have l2 : N2.length ≤ 11 := by rw [HN2.out]; simp; omega
    have l3 : N3.length ≤ 11100 := by rw [HN3.out]; simp; omega
    have l4 : N4.length ≤ 11101 := by rw [HN4.out]; simp; omega
    have s1 : ∀ W, (Op.stringOp .add ⟨#[112, 107, 103, 58]⟩ ⟨K.toArray⟩).run Try.prog W = .ok (.string ⟨N1.toArray⟩) W := fun W => by rw [HN1.out]; exact add_lists W [112, 107, 103, 58] K (by simp) (by omega)
    have s2 : ∀ W, (Op.stringOp .add ⟨N1.toArray⟩ ⟨#[47]⟩).run Try.prog W = .ok (.string ⟨N2.toArray⟩) W := fun W => by rw [HN2.out]; exact add_lists W N1 [47] (by omega) (by simp)
    have s3 : ∀ W, (Op.stringOp .add ⟨N2.toArray⟩ ⟨J.toArray⟩).run Try.prog W = .ok (.string ⟨N3.toArray⟩) W := fun W => by rw [HN3.out]; exact add_lists W N2 J (by omega) (by omega)
    have s4 : ∀ W, (Op.stringOp .add ⟨N3.toArray⟩ ⟨#[64]⟩).run Try.prog W = .ok (.string ⟨N4.toArray⟩) W := fun W => by rw [HN4.out]; exact add_lists W N3 [64] (by omega) (by simp)
    have s5 : ∀ W, (Op.stringOp .add ⟨N4.toArray⟩ ⟨E.toArray⟩).run Try.prog W = .ok (.string ⟨N5.toArray⟩) W := fun W => by rw [HN5.out]; exact add_lists W N4 E (by omega) (by omega)
    have HX : Hid (purlT k a b = N5) := Lib.hid (by rw [HR.out, HN5.out, HN4.out, HN3.out, HN2.out, HN1.out, ← HJE.out, HEE.out]; simp)
    have HDD := Lib.hid hD
    clear hyl hS hne hpp hys HR
    gi_wp2_with (refine ⟨trivial, ?_⟩; gi_at_call 53; refine (callsIn_wide.2 HJ.out).mono ?_; rintro e w3 ⟨rfl, hb3⟩)
    gi_wp2_with (refine ⟨trivial, ?_⟩; gi_at_call 78; refine (callsIn_wide.2 (HP.out _)).mono ?_; rintro e w4 ⟨rfl, hb4⟩)
    have hK4 := keepB (keepB hK hb3) hb4
    refine ⟨by simp, .inl ⟨_, _, rfl, run_takeDeferred hK4, ?_⟩⟩
    have hB3 := hB.trans (hb3.mono hB.size)
    have hB4 := hB3.trans (hb4.mono hB3.size)
    refine ⟨_, by simp [results, Try.f35, go_sem]; rfl, by rw [HX.out], ?_⟩
    exact BB.trans ((hB4.trans (belowK_b (w := w2) (Nat.le_refl _) w4 D _ _ (by have := HSZ.out; omega) hK4 rfl rfl)).mono BB.size)
  case stop =>
    rintro D c pre W hD hpre h hK
    exact h.elim
end Go.Proofs.Ytldfkdkppgammaa

/-
  impl.PutPurl at every argument; the walk of the law FnExactPutPurl.
-/
namespace Go.Proofs.Ytldfkdkppgammaa
open Go.RowKit Go.Shelf
attribute [local go_sem] Oper.semAt_some

set_option maxRecDepth 100000 in
set_option maxHeartbeats 4000000 in
theorem putPurl_out (k : Int) (a b : List UInt8) (w : World) (hb : b.length ≤ 1048576) (K : List UInt8) (m v : Bool) (hK : kindL k = K) (hm : specN a = m) (hv : readOk b = v) (hbad : K = [] ∨ (K ≠ [] ∧ m = false) ∨ (K ≠ [] ∧ m = true ∧ v = false)) :
    CallsIn Fence.wide 4 Try.prog 35 #[.int .i64 k, .string ⟨a.toArray⟩, .string ⟨b.toArray⟩] w fun e W' => e = .returned (.string ⟨#[]⟩) ∧ Below w.heap.size w W' := by
  have HV : Hid (Calls Try.prog 75 #[.string ⟨b.toArray⟩] w (ReadIs w b)) := Lib.hid (implReadVersion_any ⟨b.toArray⟩ w (by show b.toArray.size ≤ _; simp; omega))
  have HN : Hid (∀ W, Calls Try.prog 76 #[.string ⟨a.toArray⟩] W fun e w' => e = .returned (.bool (specN a)) ∧ Below W.heap.size W w') := Lib.hid (fun W => implNameOk_any ⟨a.toArray⟩ W)
  have HK := Lib.hid (fun W => implKindName_any k W)
  have HVV := Lib.hid hv
  simp only [hm] at HN
  simp only [hK] at HK
  clear hK hm hv
  refine callsIn_of_wp_marks Try.func35 rfl trivial ?_ rfl
  simp only [Try.ntmps35, List.size_toArray, List.length_cons, List.length_nil, Nat.reduceAdd, Nat.reduceSub, Array.replicate_succ, Array.replicate_zero, List.push_toArray, List.append_toArray, List.nil_append, List.cons_append]
  rcases hbad with rfl | ⟨hk, rfl⟩ | ⟨hk, rfl, rfl⟩
  · gi_wp2_with (refine ⟨trivial, ?_⟩; gi_at_call 12; refine (callsIn_wide.2 (HK.out _)).mono ?_; rintro e w0 ⟨rfl, rfl⟩)
    gi_wp2_with (refine ⟨trivial, ?_⟩; gi_at_call 75; refine (callsIn_wide.2 HV.out).mono ?_; rintro e w1 ⟨u, rfl, hu, hb1⟩; obtain ⟨A, c, rfl⟩ := hu.slice)
    refine ⟨trivial, ?_⟩
    gi_wp2
    refine ⟨.string ⟨#[]⟩, ?_, rfl, hb1.alloc hb1.size _⟩
    simp [results, Try.f35, go_sem]
  · obtain ⟨e1, e2⟩ := str_beq_nil hk
    clear hk
    gi_wp2_with (refine ⟨trivial, ?_⟩; gi_at_call 12; refine (callsIn_wide.2 (HK.out _)).mono ?_; rintro e w0 ⟨rfl, rfl⟩)
    gi_wp2_with (refine ⟨trivial, ?_⟩; gi_at_call 75; refine (callsIn_wide.2 HV.out).mono ?_; rintro e w1 ⟨u, rfl, hu, hb1⟩; obtain ⟨A, c, rfl⟩ := hu.slice)
    gi_wp2_with (refine ⟨trivial, ?_⟩; gi_at_call 76; refine (callsIn_wide.2 (HN.out _)).mono ?_; rintro e w2 ⟨rfl, hb2⟩)
    have BA := hb1.alloc hb1.size (.cells #[.int .i64 (readA b 0), .int .i64 (readA b 1), .int .i64 (readA b 2), .slice A (readP b).length c] 47)
    refine ⟨.string ⟨#[]⟩, ?_, rfl, BA.trans (hb2.mono BA.size)⟩
    simp [results, Try.f35, go_sem]
  · obtain ⟨e1, e2⟩ := str_beq_nil hk
    clear hk
    gi_wp2_with (refine ⟨trivial, ?_⟩; gi_at_call 12; refine (callsIn_wide.2 (HK.out _)).mono ?_; rintro e w0 ⟨rfl, rfl⟩)
    gi_wp2_with (refine ⟨trivial, ?_⟩; gi_at_call 75; refine (callsIn_wide.2 HV.out).mono ?_; rintro e w1 ⟨u, rfl, hu, hb1⟩; obtain ⟨A, c, rfl⟩ := hu.slice; rw [HVV.out])
    gi_wp2_with (refine ⟨trivial, ?_⟩; gi_at_call 76; refine (callsIn_wide.2 (HN.out _)).mono ?_; rintro e w2 ⟨rfl, hb2⟩)
    have BA := hb1.alloc hb1.size (.cells #[.int .i64 (readA b 0), .int .i64 (readA b 1), .int .i64 (readA b 2), .slice A (readP b).length c] 47)
    refine ⟨.string ⟨#[]⟩, ?_, rfl, BA.trans (hb2.mono BA.size)⟩
    simp [results, Try.f35, go_sem]

theorem implPutPurl_any (k : Int) (a b : List UInt8) (w : World) (hb : b.length ≤ 1048576) :
    Calls Try.prog 35 #[.int .i64 k, .string ⟨a.toArray⟩, .string ⟨b.toArray⟩] w fun e w' => e = .returned (.string ⟨(purlL k a b).toArray⟩) ∧ Below w.heap.size w w' := by
  refine (callsIn_wide (n := 4)).1 ?_
  by_cases hk : kindL k = []
  · rw [purl_kind a b hk]; exact putPurl_out k a b w hb _ _ _ hk rfl rfl (.inl rfl)
  · cases hm : specN a with
    | false => rw [purl_name k b hm]; exact putPurl_out k a b w hb _ _ _ rfl hm rfl (.inr (.inl ⟨hk, rfl⟩))
    | true =>
      cases hv : readOk b with
      | false => rw [purl_ver k a hv]; exact putPurl_out k a b w hb _ _ _ rfl hm hv (.inr (.inr ⟨hk, rfl, rfl⟩))
      | true => rw [purl_yes hk hm hv]; exact putPurl_in 4 (by omega) k a b w (specN_60 hm) hb hk hm hv

set_option maxRecDepth 100000 in
set_option maxHeartbeats 1000000 in
theorem exPutPurl (k : Int) (s t : ByteArray) (w : World) (_ : (Lit.int .i64 k).wf = true) (hs : s.size ≤ maxLen) (ht : t.size ≤ maxLen) :
    Calls Try.prog 9 #[.int .i64 k, .string s, .string t] w fun e w' => e = .returned (.bool true) ∧ Below w.heap.size w w' := by
  unfold maxLen at hs ht
  by_cases hbig : 1048576 < s.size
  · go_enter Try.func9, Try.ntmps9
    go_wp2_with fail
    go_ret
    exact ⟨rfl, Below.refl _ _⟩
  by_cases hbig2 : 1048576 < t.size
  · go_enter Try.func9, Try.ntmps9
    go_wp2_with fail
    go_ret
    exact ⟨rfl, Below.refl _ _⟩
  have e1 : (⟨s.data.toList.toArray⟩ : ByteArray) = s := bytes_ext (by simp)
  have e2 : (⟨t.data.toList.toArray⟩ : ByteArray) = t := bytes_ext (by simp)
  have h1 := specPutPurl_any k s.data.toList t.data.toList w (by simp; omega) (by simp; omega)
  have h2 := fun W => implPutPurl_any k s.data.toList t.data.toList W (by simp; omega)
  rw [e1, e2] at h1
  simp only [e1, e2] at h2
  obtain ⟨x, HX⟩ : ∃ x, Hid (purlL k s.data.toList t.data.toList = x) := ⟨_, Lib.hid rfl⟩
  rw [HX.out] at h1
  simp only [HX.out] at h2
  have H1 := Lib.hid h1
  have H2 := Lib.hid h2
  clear h1 h2 e1 e2
  go_enter Try.func9, Try.ntmps9
  go_wp2_with fail
  refine H1.out.mono ?_
  rintro e w1 ⟨rfl, hb1⟩
  go_wp2_with fail
  refine (H2.out _).mono ?_
  rintro e w2 ⟨rfl, hb2⟩
  go_wp2_with fail
  go_ret
  exact ⟨rfl, hb1.trans (hb2.mono hb1.size)⟩
end Go.Proofs.Ytldfkdkppgammaa

/-
  impl.GetPurl; the walk of the law FnExactGetPurl.
-/
namespace Go.Proofs.Ytldfkdkppgammaa
open Go.RowKit

theorem name_any (q : Nat) (T : TypeId) (l : List UInt8) (m : Int) (w : World) (hl : l.length ≤ 1048576) (hq : w.heap[q]? = some (.cells #[.string ⟨l.toArray⟩] T)) (hm : w.cell? ⟨0, 0, none⟩ = some (.int .i64 m)) :
    Calls Try.prog 82 #[.pointer (some ⟨q, 0, none⟩)] w fun e W' => e = .returned (.string ⟨(nameP (cutL 47 (cutA 64 l))).toArray⟩) ∧ W'.heap[q]? = some (.cells #[.string ⟨(cutB 64 l).toArray⟩] T) ∧ w.grownBy W' (some q) :=
  (callsIn_wide (n := 4)).1 (name_in 4 (by omega) q T l m w hl hq hm)
theorem far_all {w w' : World} {q G : Nat} {T : TypeId} {l : List UInt8} {m : Int} (hg : w.grownBy w' (some q)) (hq : w.heap[q]? = some (.cells #[.string ⟨l.toArray⟩] T)) (hm : w.cell? ⟨G, 0, none⟩ = some (.int .i64 m)) : w'.cell? ⟨G, 0, none⟩ = some (.int .i64 m) :=
  hg.cell hm (fun e => far_text hq hm (by cases e; rfl))

set_option maxRecDepth 100000 in
set_option maxHeartbeats 2000000 in
theorem implGetPurl_any (l : List UInt8) (m : Int) (w : World) (hl : l.length ≤ 1048576) (hm : w.cell? ⟨0, 0, none⟩ = some (.int .i64 m)) :
    Calls Try.prog 37 #[.string ⟨l.toArray⟩] w fun e w' => e = .returned (trpV (getI l (Lib.cut l pkgL).2.1)) ∧ Below w.heap.size w w' := by
  have B0 : Below w.heap.size w (w.alloc (.cells #[.string ⟨l.toArray⟩] 95)) := (Below.refl _ _).alloc (Nat.le_refl _) _
  have hq0 := heap_alloc_new w (.cells #[.string ⟨l.toArray⟩] 95)
  have hm0 := keepC B0 hm
  have HK := Lib.hid (kind_any w.heap.size 95 l m _ hl hq0 hm0)
  have hRl := cut_le l pkgL
  obtain ⟨R, HR⟩ : ∃ R, Hid ((Lib.cut l pkgL).2.1 = R) := ⟨_, Lib.hid rfl⟩
  rw [HR.out] at hRl HK
  rw [HR.out]
  have c1 := cut_len 47 R
  have c2 := cut_len 64 (cutB 47 R)
  have HX : Hid (getI l R = if l = [] ∨ ¬ purlL (kindOfI (cutA 47 R)) (nameP (cutL 47 (cutA 64 (cutB 47 R)))) (decP (cutB 64 (cutB 47 R))) = l then noTrp else (kindOfI (cutA 47 R), nameP (cutL 47 (cutA 64 (cutB 47 R))), decP (cutB 64 (cutB 47 R)))) := Lib.hid rfl
  have hnl : (nameP (cutL 47 (cutA 64 (cutB 47 R)))).length ≤ 1048577 := by
    have a1 := join_jl 47 ((cutL 47 (cutA 64 (cutB 47 R))).map decP)
    have a2 := jl_map decP pctS_le (cutL 47 (cutA 64 (cutB 47 R)))
    have a3 := jl_cutL 47 (cutA 64 (cutB 47 R))
    show (Lib.join ((cutL 47 (cutA 64 (cutB 47 R))).map decP) [47]).length ≤ _
    omega
  have hvl : (decP (cutB 64 (cutB 47 R))).length ≤ 1048576 := by have := pctS_le (cutB 64 (cutB 47 R)); show ((pctS (cutB 64 (cutB 47 R))).getD []).length ≤ _; omega
  have HN0 := Lib.hid (fun (W : World) (h1 : W.heap[w.heap.size]? = some (.cells #[.string ⟨(cutB 47 R).toArray⟩] 95)) (h2 : W.cell? ⟨0, 0, none⟩ = some (.int .i64 m)) => name_any w.heap.size 95 (cutB 47 R) m W (by omega) h1 h2)
  have HV0 := Lib.hid (fun (W : World) (h1 : W.heap[w.heap.size]? = some (.cells #[.string ⟨(cutB 64 (cutB 47 R)).toArray⟩] 95)) => version_any w.heap.size 95 (cutB 64 (cutB 47 R)) W (by omega) h1)
  obtain ⟨z, HZ⟩ : ∃ z, Hid (kindOfI (cutA 47 R) = z) := ⟨_, Lib.hid rfl⟩
  obtain ⟨nm, HNM⟩ : ∃ x, Hid (nameP (cutL 47 (cutA 64 (cutB 47 R))) = x) := ⟨_, Lib.hid rfl⟩
  obtain ⟨vr, HVR⟩ : ∃ x, Hid (decP (cutB 64 (cutB 47 R)) = x) := ⟨_, Lib.hid rfl⟩
  obtain ⟨r2, HR2⟩ : ∃ x, Hid (cutB 47 R = x) := ⟨_, Lib.hid rfl⟩
  obtain ⟨r3, HR3⟩ : ∃ x, Hid (cutB 64 (cutB 47 R) = x) := ⟨_, Lib.hid rfl⟩
  rw [HZ.out, HNM.out, HVR.out] at HX
  rw [HNM.out] at hnl
  rw [HVR.out] at hvl
  simp only [HNM.out] at HN0
  simp only [HR3.out] at HN0
  simp only [HVR.out] at HV0
  simp only [HR3.out] at HV0
  simp only [HR2.out] at HN0
  rw [HZ.out, HR2.out] at HK
  have HP := Lib.hid (fun W => implPutPurl_any z nm vr W hvl)
  clear c1 c2
  obtain ⟨res, HRES⟩ : ∃ x, Hid (getI l R = x) := ⟨_, Lib.hid rfl⟩
  rw [HRES.out] at HX
  rw [HRES.out]
  by_cases h0 : l = []
  · have HY : Hid (res = noTrp) := Lib.hid (by rw [HX.out, if_pos (.inl h0)])
    subst h0
    go_enter Try.func37, Try.ntmps37
    go_wp2_with fail
    refine HK.out.mono ?_
    rintro e w1 ⟨rfl, hu1⟩
    have hm1 := far_all hu1.2.1 hq0 hm0
    have B1 := B0.grown hu1.2.1 (by simp) (fun j h => by cases h; exact Nat.le_refl _)
    have hq1 := hu1.1
    have hs1 : w.heap.size ≤ w1.heap.size := B1.size
    clear hu1 hq0 hm0 B0 HK
    go_wp2_with fail
    refine (HN0.out _ hq1 hm1).mono ?_
    rintro e w2 ⟨rfl, hq2, hg2⟩
    have B2 := B1.grown hg2 hs1 (fun j h => by cases h; exact Nat.le_refl _)
    clear hg2 B1 hq1 hm1
    go_wp2_with fail
    refine (HV0.out _ hq2).mono ?_
    rintro e w3 ⟨rfl, hb3⟩
    have B3 := B2.trans (hb3.mono B2.size)
    go_wp2_with fail
    go_ret3
    exact ⟨by rw [HY.out]; rfl, B3⟩
  · obtain ⟨e1, e2⟩ := str_beq_nil h0
    by_cases he : purlL z nm vr = l
    · have HY : Hid (res = (z, nm, vr)) := Lib.hid (by rw [HX.out, if_neg (by intro h; rcases h with h | h; exact h0 h; exact h he)])
      have q : (purlL z nm vr == l) = true := by simpa using he
      obtain ⟨x, HXX⟩ : ∃ x, Hid (purlL z nm vr = x) := ⟨_, Lib.hid rfl⟩
      simp only [HXX.out] at HP
      rw [HXX.out] at q
      clear he h0
      go_enter Try.func37, Try.ntmps37
      go_wp2_with fail
      refine HK.out.mono ?_
      rintro e w1 ⟨rfl, hu1⟩
      have hm1 := far_all hu1.2.1 hq0 hm0
      have B1 := B0.grown hu1.2.1 (by simp) (fun j h => by cases h; exact Nat.le_refl _)
      have hq1 := hu1.1
      have hs1 : w.heap.size ≤ w1.heap.size := B1.size
      clear hu1 hq0 hm0 B0 HK
      go_wp2_with fail
      refine (HN0.out _ hq1 hm1).mono ?_
      rintro e w2 ⟨rfl, hq2, hg2⟩
      have B2 := B1.grown hg2 hs1 (fun j h => by cases h; exact Nat.le_refl _)
      clear hg2 B1 hq1 hm1
      go_wp2_with fail
      refine (HV0.out _ hq2).mono ?_
      rintro e w3 ⟨rfl, hb3⟩
      have B3 := B2.trans (hb3.mono B2.size)
      clear B2 hb3 hq2
      go_wp2_with fail
      refine (HP.out _).mono ?_
      rintro e w4 ⟨rfl, hb4⟩
      go_wp2_with fail
      go_ret3
      exact ⟨by rw [HY.out]; rfl, B3.trans (hb4.mono B3.size)⟩
    · have HY : Hid (res = noTrp) := Lib.hid (by rw [HX.out, if_pos (.inr he)])
      have q : (purlL z nm vr == l) = false := by simpa using he
      obtain ⟨x, HXX⟩ : ∃ x, Hid (purlL z nm vr = x) := ⟨_, Lib.hid rfl⟩
      simp only [HXX.out] at HP
      rw [HXX.out] at q
      clear he h0
      go_enter Try.func37, Try.ntmps37
      go_wp2_with fail
      refine HK.out.mono ?_
      rintro e w1 ⟨rfl, hu1⟩
      have hm1 := far_all hu1.2.1 hq0 hm0
      have B1 := B0.grown hu1.2.1 (by simp) (fun j h => by cases h; exact Nat.le_refl _)
      have hq1 := hu1.1
      have hs1 : w.heap.size ≤ w1.heap.size := B1.size
      clear hu1 hq0 hm0 B0 HK
      go_wp2_with fail
      refine (HN0.out _ hq1 hm1).mono ?_
      rintro e w2 ⟨rfl, hq2, hg2⟩
      have B2 := B1.grown hg2 hs1 (fun j h => by cases h; exact Nat.le_refl _)
      clear hg2 B1 hq1 hm1
      go_wp2_with fail
      refine (HV0.out _ hq2).mono ?_
      rintro e w3 ⟨rfl, hb3⟩
      have B3 := B2.trans (hb3.mono B2.size)
      clear B2 hb3 hq2
      go_wp2_with fail
      refine (HP.out _).mono ?_
      rintro e w4 ⟨rfl, hb4⟩
      go_wp2_with fail
      go_ret3
      exact ⟨by rw [HY.out]; rfl, B3.trans (hb4.mono B3.size)⟩

set_option maxRecDepth 100000 in
set_option maxHeartbeats 1000000 in
theorem exGetPurl (s : ByteArray) (w : World) (hs : s.size ≤ maxLen) (m : Int) (hm : w.cell? ⟨0, 0, none⟩ = some (.int .i64 m)) :
    Calls Try.prog 10 #[.string s] w fun e w' => e = .returned (.bool true) ∧ Below w.heap.size w w' := by
  unfold maxLen at hs
  by_cases hbig : 1048576 < s.size
  · go_enter Try.func10, Try.ntmps10
    go_wp2_with fail
    go_ret
    exact ⟨rfl, Below.refl _ _⟩
  · have h1 := specGetPurl_any s w (by omega)
    have hc := fun (W : World) (h : Below w.heap.size w W) => implGetPurl_any s.data.toList m W (by simp; omega) (keepC h hm)
    have e : (⟨s.data.toList.toArray⟩ : ByteArray) = s := bytes_ext (by simp)
    rw [e] at hc
    rw [← get_same (key_form s) rfl] at h1
    obtain ⟨⟨z, x, y⟩, HX⟩ : ∃ t, Hid (getI s.data.toList (Lib.cut s.data.toList pkgL).2.1 = t) := ⟨_, Lib.hid rfl⟩
    rw [HX.out] at h1
    simp only [HX.out] at hc
    unfold trpV at h1 hc
    simp only at h1 hc
    have H1 := Lib.hid h1
    have H2 := Lib.hid hc
    have q0 : (z != z) = false := int_bne_false rfl
    clear h1 hc e hm
    go_enter Try.func10, Try.ntmps10
    go_wp2_with fail
    refine H1.out.mono ?_
    rintro e w1 ⟨rfl, hb1⟩
    go_wp2_with fail
    refine (H2.out _ hb1).mono ?_
    rintro e w2 ⟨rfl, hb2⟩
    go_wp2_with fail
    go_ret
    exact ⟨rfl, hb1.trans (hb2.mono hb1.size)⟩
end Go.Proofs.Ytldfkdkppgammaa

namespace Go.Proofs.Ytldfkdkppgammaa.fnExactGetPurl
open Go.ChangeShapes Go.WideShapes Go.ChangeAt Go.RowKit
open Go.ChangeMaps (open_string shut_string)
set_option linter.unusedVariables false

theorem own : ownKnob Try.prog.godebug = none := by kernel_rfl
theorem laidOut : laidOutB Try.prog = true := by kernel_rfl

set_option maxRecDepth 100000 in
theorem lifted (os : Os) (started : os.Started) (H : Type) (enc : TypeId × Value → H) :
    ReturnsInHanded {} Try.checked os 10 .any (Rows.fnExactGetPurlSpec.pre6 enc Try.prog Try.f10 Rows.fnExactGetPurlRow.domain false) (Rows.fnExactGetPurlSpec.post enc Try.prog Try.f10 false true false false) := by
  refine returnsInHanded_of_change_shaped (C := Try.checked) own started (by kernel_rfl) Try.func10
    (ChangeSpec.witness6 (enc := enc) (C := Try.checked) false ⟨#[], #[.string ByteArray.empty], []⟩ 8 (by kernel_rfl) (by kernel_rfl) (by kernel_rfl) (by kernel_rfl)) ?_
  intro W base args ds gs before hval0 hW hcnd _ hsh _
  obtain ⟨m, hm0⟩ := Try.laysCut.s1_3 W hsh
  have hm : W.cell? ⟨0, 0, none⟩ = some (.int .i64 m) := hm0
  have hval : ∀ (j : Nat) t v, Try.f10.params[j]? = some t → args[j]? = some v → Value.okWide Try.prog W .any base t v := hval0
  have hW' := hW
  obtain ⟨p, q, hA0, hV, rfl, hfz, hnd⟩ := hW
  have hA : DataW.TrodAll enc Try.prog W 0 (fun _ => true) true Try.f10.params.toList args.toList ds p := hA0
  rw [Try.params10] at hA hval
  obtain ⟨v0, vs0, d0, ds0, mp0, mq0, hargs, rfl, rfl, h0, r0⟩ := trodAll_cons hA
  obtain ⟨rfl, rfl, rfl⟩ := trodAll_nil r0
  obtain rfl : args = #[v0] := by cases args; simp_all
  obtain ⟨rfl, rfl⟩ := trodVars_none hV
  obtain ⟨a0, rfl, rfl, rfl, w0⟩ := open_string Try.underlying9 (hval 0 9 v0 rfl rfl) h0
  clear hA0 hval0
  refine (exGetPurl a0 W w0 m hm).mono fun e W' ⟨he, bel⟩ => ?_
  subst he
  exact ⟨_, rfl, _, _, _, [], _, [], hW', trodAll_mk1 (shut_bool Try.underlying4 _), (trodAll_cons_mk (shut_string Try.underlying9 w0) trodAll_mk0), rfl, bel.frame _, fun h => by cases h⟩

theorem over : Rows.fnExactGetPurlRow.holds Try.pinned (OpenSpec.ofChange Rows.fnExactGetPurlSpec) :=
  OpenClaim.holds_of_wide 10 Try.f10 rfl rfl rfl rfl rfl rfl rfl ⟨rfl, rfl, rfl, rfl, rfl⟩ rfl rfl rfl rfl rfl (by kernel_rfl) Try.func10 (by kernel_rfl)
    (of_decide_eq_true (by kernel_rfl)) (by unfold Func.isWrapper; first | (rw [if_pos (by decide +kernel)]; kernel_rfl) | (rw [if_neg (by decide +kernel)]; exact ⟨rfl, rfl⟩))
    (fun os started H enc _ => lifted os started H enc)

end Go.Proofs.Ytldfkdkppgammaa.fnExactGetPurl

namespace Go.Proofs.Ytldfkdkppgammaa
theorem fnExactGetPurl_proved : Rows.FnExactGetPurlSaid := fnExactGetPurl.over
#print axioms fnExactGetPurl_proved
end Go.Proofs.Ytldfkdkppgammaa
