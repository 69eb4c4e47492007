/-
  impl.PutBase64 returns four signs for every three bytes.
-/
import Derived.Test.YtldfkdkppgammaaTrip
import Derived.Test.YtldfkdkppgammaaB64G
import Derived.RangeFuncFrom
import Derived.RangeFuncBox
import Derived.RangeFuncNested
namespace Go.Proofs.Ytldfkdkppgammaa
open Go.RowKit Go.Shelf
attribute [local go_sem] Oper.semAt_some

/-- What PutBase64 has in its box: the signs so far. -/
def BJ (w : World) (ls : List UInt8) (W : World) : Prop :=
  w.heap.size + 3 ≤ W.heap.size ∧ ∃ v, Boxed W (w.heap.size + 1) 59 v ∧ Buf W w.heap.size v ls ∧ (∀ g, v.ownBlock = some g → g ≠ w.heap.size + 1 ∧ g ≠ w.heap.size + 2)
theorem bJ_grown {w : World} {ls : List UInt8} {W W' : World} {row : Option Nat} (h : BJ w ls W) (hg : W.grownBy W' row) (hr : ∀ r, row = some r → ∃ o : Obj, W.heap[r]? = some o ∧ o.isCells = false) : BJ w ls W' := by
  obtain ⟨h4, v, hB, hS, hne⟩ := h
  refine ⟨Nat.le_trans h4 hg.size, v, hB.kept hg (fun e => ?_), World.ownsRow.kept hS hg ?_, hne⟩
  · obtain ⟨o, ho, hc⟩ := hr _ e.symm
    rw [show W.heap[_]? = _ from hB] at ho; cases ho; cases hc
  · rcases hS.2 with ⟨rfl, _⟩ | ⟨g, cap, cur, rfl, _, hh, _⟩
    · left; rfl
    · right
      intro e
      obtain ⟨o, ho, hc⟩ := hr g (by simpa [Value.ownBlock] using e.symm)
      rw [hh] at ho; cases ho; cases hc
def outL (pre : List Tri) : List UInt8 := pre.flatMap fun x => grp ((x.a.toNat * 256 + x.b.toNat) * 256 + x.c.toNat) x.n
theorem outL_snoc (pre : List Tri) (x : Tri) : outL (pre ++ [x]) = outL pre ++ grp ((x.a.toNat * 256 + x.b.toNat) * 256 + x.c.toNat) x.n := by simp [outL]
theorem outL_len (pre : List Tri) : (outL pre).length = 4 * pre.length := by
  induction pre with
  | nil => rfl
  | cons x pre ih => simp only [outL, List.flatMap_cons, List.length_append, List.length_cons] at ih ⊢; rw [ih]; simp [grp]; omega
theorem outL_all (l : List UInt8) (ys : List Tri) (h : TriAll l ys) : outL ys = b64L l := by
  rw [h]
  unfold outL b64L b64G
  rw [List.flatMap_map, List.flatMap_def, List.flatMap_def]
  refine congrArg List.flatten (List.map_congr_left fun g hg => ?_)
  have hg' : g < (l.length + 2) / 3 := by simpa using hg
  have e : max 1 (min 3 (l.length - 3 * g)) = min 3 (l.length - 3 * g) := by omega
  simp only [tri, e, pv, Nat.add_zero, Nat.zero_mul, Nat.zero_add]

/-- The four cells while the last are being filled up with the padding sign. -/
def eqs (n K : Nat) (c0 c1 c2 c3 : UInt8) : Array Value := #[.int .u8 (c0.toNat : Int), .int .u8 (c1.toNat : Int), if n < 2 ∧ 2 < K then .int .u8 61 else .int .u8 (c2.toNat : Int), if n < 3 ∧ 3 < K then .int .u8 61 else .int .u8 (c3.toNat : Int)]
theorem eqs_set (n K : Nat) (c0 c1 c2 c3 : UInt8) (h1 : 1 ≤ n) (hK : n + 1 ≤ K) (h4 : K < 4) : (eqs n K c0 c1 c2 c3).setIfInBounds K (.int .u8 61) = eqs n (K + 1) c0 c1 c2 c3 := by
  obtain rfl | rfl : K = 2 ∨ K = 3 := by omega
  · obtain rfl : n = 1 := by omega
    rfl
  · obtain rfl | rfl : n = 1 ∨ n = 2 := by omega
    · rfl
    · rfl
theorem eqs_start (n : Nat) (c0 c1 c2 c3 : UInt8) : #[.int .u8 (c0.toNat : Int), .int .u8 (c1.toNat : Int), .int .u8 (c2.toNat : Int), .int .u8 (c3.toNat : Int)] = eqs n (n + 1) c0 c1 c2 c3 := by
  unfold eqs
  rw [if_neg (by omega), if_neg (by omega)]
theorem eqs_end (n : Nat) (c0 c1 c2 c3 : UInt8) : (eqs n 4 c0 c1 c2 c3).toList = [c0, c1, if n < 2 then 61 else c2, if n < 3 then 61 else c3].map bv := by
  unfold eqs bv
  by_cases h2 : n < 2
  · have h3 : n < 3 := by omega
    simp [h2, h3]
  · by_cases h3 : n < 3
    · simp [h2, h3]
    · simp [h2, h3]
theorem Buf.grown_none {w w' : World} {base : Nat} {v : Value} {l : List UInt8} (h : Buf w base v l) (hg : w.grownBy w' none) : Buf w' base v l :=
  World.ownsRow.kept h (row := none) hg (by
    rcases h.form with ⟨rfl, _⟩ | ⟨g, cap, rfl, _, _⟩
    · left; rfl
    · right; simp [Value.ownBlock])

theorem run_append_buf2 (w : World) (ty : TypeId) (base : Nat) (v : Value) (l : List UInt8) (hown : Buf w base v l) (ns : List UInt8) (B c : Nat) (cs : Array Value) (t : TypeId) (fr : Nat × Nat)
    (hblk : w.heap[B]? = some (.cells cs t fr)) (hcs : cs.toList = ns.map bv) (hm : 0 < ns.length) (hlen : l.length + ns.length ≤ 16777216) (hbase : base ≤ w.heap.size) :
    ∃ g cap w', (Builtin.append_ #[59, 59] ty #[v, .slice (some ⟨B, 0, none⟩) ns.length c]).run Try.prog w = .ok (.slice (some ⟨g, 0, none⟩) (l.length + ns.length) cap) w' ∧ Buf w' base (.slice (some ⟨g, 0, none⟩) (l.length + ns.length) cap) (l ++ ns) ∧ w.grownBy w' v.ownBlock ∧ (v.ownBlock = some g ∨ g = w.heap.size) := by
  obtain ⟨i0, hi, hz0, hz1, hz2⟩ := info_parts u8info
  obtain ⟨g, cap, w', hr, h2, h3, h4, _⟩ := run_append_lies (P := Try.prog) w 59 ty base 5 i0 (.int .u8 0) 1 1 Try.underlying59 hi hz0 hz1 hz2 rfl (by decide) v l.length (l.map bv) hown
    ⟨B, 0, none⟩ ns.length c (ns.map bv) (by simp) (by rw [← hcs]; exact World.news_of_block hblk) (by intro u hu; obtain ⟨x, _, rfl⟩ := List.mem_map.1 hu; rfl) hm (by unfold maxLen; omega) (by omega) hbase _ rfl
  refine ⟨g, cap, w', hr, ?_, h3, h4⟩
  unfold Buf
  rw [List.length_append, List.map_append]
  exact h2
theorem step_append_bin {F : Fence} {n : Nat} {w : World} {ops : Array Oper} {o : Oper} {a : Act} {K : Act → World → Prop} {Q : Exit → Act → World → Prop} {E : Prop} (hgd : o.guard = none) (s x : Operand)
    (ho : o.op = .call { callee := .builtin .append, args := #[s, x], argTypes := #[59, 59] })
    (base : Nat) (v : Value) (l : List UInt8) (hs : a.eval s = v) (hown : Buf w base v l) (ns : List UInt8) (B m c : Nat) (cs : Array Value) (t : TypeId) (fr : Nat × Nat)
    (hx : a.eval x = .slice (some ⟨B, 0, none⟩) m c) (hmm : ns.length = m) (hblk : w.heap[B]? = some (.cells cs t fr)) (hcs : cs.toList = ns.map bv) (hm : 0 < ns.length) (hlen : l.length + ns.length ≤ 16777216) (hbase : base ≤ w.heap.size)
    (h : ∀ g cap w', Buf w' base (.slice (some ⟨g, 0, none⟩) (l.length + ns.length) cap) (l ++ ns) → w.grownBy w' v.ownBlock → (v.ownBlock = some g ∨ g = w.heap.size) → K (a.put o.dst (.slice (some ⟨g, 0, none⟩) (l.length + ns.length) cap)) w') :
    if Region.wanted o (yielded ops a.tmps) = true then Oper.wpIn F n Try.prog o a w K Q else E := by
  subst hmm
  have hw : Region.wanted o (yielded ops a.tmps) = true := by simp [Region.wanted, hgd]
  rw [if_pos hw]
  obtain ⟨g, cap, w', hr, h2, h3, h4⟩ := run_append_buf2 w o.type base v l hown ns B c cs t fr hblk hcs hm hlen hbase
  refine ⟨?_, ?_⟩
  · intro f hf
    simp [Oper.about, ho, resolve, Target.leads, go_sem] at hf
  · rw [Oper.semAt_eq _ _ _ (by intro c hc; rw [ho] at hc; cases hc)]
    unfold execOp
    simp only [ho, resolve, invoke, builtin, Sem.run_bind, Sem.run_pure, Result.andThen_ok, List.map_toArray, List.map_cons, List.map_nil, hs, hx, hr]
    exact h g cap w' h2 h3 h4
theorem b64_end (w W wa w3 : World) (v u : Value) (ls ns : List UInt8) (g cap : Nat) (hu : u = .slice (some ⟨g, 0, none⟩) (ls.length + ns.length) cap) (h4 : w.heap.size + 3 ≤ W.heap.size) (hR : Boxed W (w.heap.size + 1) 59 v) (hS : Buf W w.heap.size v ls)
    (hne : ∀ g, v.ownBlock = some g → g ≠ w.heap.size + 1 ∧ g ≠ w.heap.size + 2) (hB : Below w.heap.size w W) (hga : W.grownBy wa none) (hg3 : wa.grownBy w3 v.ownBlock)
    (hS3 : Buf w3 w.heap.size (.slice (some ⟨g, 0, none⟩) (ls.length + ns.length) cap) (ls ++ ns)) (hg4 : v.ownBlock = some g ∨ g = wa.heap.size) :
    Boxed w3 (w.heap.size + 1) 59 v ∧ KeepsOthers W (w3.setCell ⟨w.heap.size + 1, 0, none⟩ u) ∧ KpB (w.heap.size + 1 + 1) (w.heap.size + 1 + 1) W (w3.setCell ⟨w.heap.size + 1, 0, none⟩ u) ∧
      BJ w (ls ++ ns) (w3.setCell ⟨w.heap.size + 1, 0, none⟩ u) ∧ Below w.heap.size w (w3.setCell ⟨w.heap.size + 1, 0, none⟩ u) := by
  subst hu
  have hs1 : W.heap.size ≤ wa.heap.size := hga.size
  have hs3 : wa.heap.size ≤ w3.heap.size := hg3.size
  have hgne : g ≠ w.heap.size + 1 ∧ g ≠ w.heap.size + 2 := by
    rcases hg4 with h | h
    · exact hne g h
    · omega
  have hG : W.grownBy w3 v.ownBlock := ⟨hg3.os.trans hga.os, hg3.tape.trans hga.tape, hg3.output.trans hga.output, by omega, fun k hk hkn =>
    (hg3.block k (by omega) hkn).trans (hga.block k hk (by simp))⟩
  have hR3 : Boxed w3 (w.heap.size + 1) 59 v := hR.kept hG (fun e => (hne _ e.symm).1 rfl)
  have hK : KeepsOthers W w3 := KeepsOthers.of_grownBy hG (fun j o' ej hj => by
    rcases hS.2 with ⟨rfl, _⟩ | ⟨g', cap', cur, rfl, _, hh, _⟩
    · simp [Value.ownBlock] at ej
    · simp [Value.ownBlock] at ej
      subst ej
      rw [hh] at hj; cases hj; rfl)
  have hBel : Below w.heap.size w w3 := hB.grown hG (by omega) hS.owned
  have k1 : w3.heap[w.heap.size + 1 + 1]? = W.heap[w.heap.size + 1 + 1]? := hG.block _ (by omega) (fun e => (hne _ e.symm).2 (by omega))
  refine ⟨hR3, hK.trans (KeepsOthers.setCell _ _ _), ⟨(Below.heap_setCell _ _ _ _ (by simp)).trans k1, (Below.heap_setCell _ _ _ _ (by simp)).trans k1⟩, ⟨by simp; omega, _, hR3.set _, ?_, ?_⟩, hBel.setCell (p := ⟨w.heap.size + 1, 0, none⟩) (by simp) _⟩
  · exact World.ownsRow.kept hS3 (grownBy_setCell' w3 (w.heap.size + 1) _) (by right; simp [Value.ownBlock]; omega)
  · intro g' hg'
    simp [Value.ownBlock] at hg'
    subst hg'
    exact hgne

set_option maxRecDepth 100000 in
set_option maxHeartbeats 4000000 in
theorem putBase64_in (n : Nat) (hn : 4 ≤ n) (s : ByteArray) (w : World) (hs : s.size ≤ 1048576) :
    CallsIn Fence.wide n Try.prog 52 #[.string s] w fun e W' => e = .returned (.string ⟨(b64L s.data.toList).toArray⟩) ∧ Below w.heap.size w W' := by
  have h1 : 1 ≤ n := by omega
  have hn2 : 1 ≤ n - 1 - 1 := by omega
  obtain ⟨C, hC⟩ : ∃ C : Nat, C = (s.size + 2) / 3 * 4 := ⟨_, rfl⟩
  obtain ⟨i0, hi, hz0, hz1, hz2⟩ := info_parts u8info
  obtain ⟨M, hM⟩ : ∃ M, M = madeCells (Value.int .u8 0).cells (C * i0.size) := ⟨_, rfl⟩
  have hMs : M.size = C := by rw [hM, size_madeCells, hz1]; simp
  have hmk : ∀ W : World, (Instr.makeSlice 59 (.int .i64 0) (.int .i64 (C : Int))).run Try.prog W = .ok (.slice (some ⟨W.heap.size, 0, none⟩) 0 C) (W.alloc (.cells M 5)) := fun W => by
    have h := run_make (P := Try.prog) W 59 5 i0 (.int .u8 0) Try.underlying59 hi hz0 .i64 .i64 0 (C : Int) (by omega) (by omega) (by rw [hz2]; omega) (by omega)
    simp only [Int.toNat_natCast] at h
    rw [← hM] at h
    simpa using h
  have hcap : ((s.size : Int) + 2) / 3 * 4 = (C : Int) := by omega
  have hC0 : C ≤ 1398104 := by omega
  clear hM hC
  refine callsIn_of_wp_marks Try.func52 rfl trivial ?_ rfl
  simp only [Try.ntmps52, List.size_toArray, List.length_cons, List.length_nil, Nat.reduceAdd, Nat.reduceSub, Array.replicate_succ, Array.replicate_zero, List.push_toArray, List.append_toArray, List.nil_append, List.cons_append]
  gi_wp2_with (refine ⟨trivial, ?_⟩; gi_at_call 89; refine (triplesOf_in _ _ _).mono ?_; rintro e w' ⟨rfl, rfl⟩)
  have b1 := Boxed.new (w.alloc (.cells M 5)) 59 (.slice (some ⟨w.heap.size, 0, none⟩) 0 C)
  have b3 := Boxed.new ((w.alloc (.cells M 5)).alloc (.cells #[.slice (some ⟨w.heap.size, 0, none⟩) 0 C] 59)) 9 (.string s)
  simp only [World.size_alloc] at b1 b3
  have hB0 : Below w.heap.size w (((w.alloc (.cells M 5)).alloc (.cells #[.slice (some ⟨w.heap.size, 0, none⟩) 0 C] 59)).alloc (.cells #[.string s] 9)) := (((Below.refl _ w).alloc (Nat.le_refl _) _).alloc (by simp) _).alloc (by simp; omega) _
  have b1' := b1.alloc (.cells #[.string s] 9)
  have hS00 : Buf (w.alloc (.cells M 5)) w.heap.size (.slice (some ⟨w.heap.size, 0, none⟩) 0 C) [] :=
    ⟨rfl, .inr ⟨w.heap.size, C, M, rfl, Nat.le_refl _, heap_alloc_new w _, Nat.zero_le _, by unfold maxLen; omega, by rw [hMs]; omega, by simp⟩⟩
  have hS0 := (hS00.alloc (.cells #[.slice (some ⟨w.heap.size, 0, none⟩) 0 C] 59)).alloc (.cells #[.string s] 9)
  clear b1 hS00
  obtain ⟨W0, hW0⟩ : ∃ W0, (((w.alloc (.cells M 5)).alloc (.cells #[.slice (some ⟨w.heap.size, 0, none⟩) 0 C] 59)).alloc (.cells #[.string s] 9)) = W0 := ⟨_, rfl⟩
  have hsz : W0.heap.size = w.heap.size + 3 := by rw [← hW0]; simp
  rw [hW0] at b1' b3 hS0 hB0 ⊢
  clear hW0
  have HSZ := Lib.hid hsz
  clear hsz hmk hMs hcap
  refine wpIn_rangeFunc_ownH rfl h1 (gf := 116) (lb := #[.pointer (some ⟨w.heap.size + 1 + 1, 0, none⟩)]) rfl trivial (enters_of Try.func116 (by kernel_rfl) rfl)
    (triples_stops (n - 1) (by omega) (w.heap.size + 1 + 1) s hs W0 (by rw [HSZ.out]; omega) b3) kpB_t (kpB_b (by rw [HSZ.out]; omega) (by rw [HSZ.out]; omega)) (Below.refl _ _) (fun _ => rfl)
    (fun pre W => BJ w (outL pre) W ∧ Below w.heap.size w W)
    (fun c pre W => False)
    (OwnFrom.and (fun pre W W' row h hg hr => bJ_grown h hg (fun r e => (hr r e).2)) (ownFrom_below (Nat.le_refl _) (by rw [HSZ.out]; omega)))
    (fun c => ownFrom_pure _ _)
    ⟨⟨by rw [HSZ.out]; exact Nat.le_refl _, _, b1', hS0, fun g hg => by simp [Value.ownBlock] at hg; omega⟩, hB0⟩
    (fun x a' W => ∃ Bx, w.heap.size + 3 ≤ Bx ∧ W.heap[Bx]? = some (.cells #[.int .u8 (x.a.toNat : Int), .int .u8 (x.b.toNat : Int), .int .u8 (x.c.toNat : Int)] 104 (0, 0)) ∧
      a' = { tmps := #[.string s, undef, .string ⟨#[]⟩, .pointer (some ⟨w.heap.size + 1, 0, none⟩), .pointer (some ⟨Bx, 0, none⟩), .int .i64 (x.n : Int), undef, undef, .string s, .int .i64 s.size, .int .i64 ((s.size : Int) + 2), .int .i64 (((s.size : Int) + 2) / 3), .int .i64 (C : Int), .slice (some ⟨w.heap.size, 0, none⟩) 0 C, .string s, .func (.func 116) #[] #[.pointer (some ⟨w.heap.size + 1 + 1, 0, none⟩)], .agg #[.int .u8 (x.a.toNat : Int), .int .u8 (x.b.toNat : Int), .int .u8 (x.c.toNat : Int)], .int .i64 (x.n : Int), undef, undef, undef, undef, undef, undef, undef, undef, undef, undef, undef, undef, undef, undef, undef], defers := [] })
    (fun x a' => by
      rintro _ X Y row ⟨Bx, hx1, hx2, hx3⟩ hg hr
      refine ⟨Bx, hx1, (hg.block Bx (Array.getElem?_eq_some_iff.1 hx2).1 (fun e => ?_)).trans hx2, hx3⟩
      obtain ⟨_, o, ho, hc⟩ := hr _ e.symm
      rw [hx2] at ho; cases ho; cases hc)
    ?assign ?body ?done ?stop
  case assign =>
    rintro l pre x W K ⟨hJ, hB⟩ hK
    unfold triV
    gi_wp2
    have hgr := World.grownBy_alloc W (.cells #[.int .u8 (x.a.toNat : Int), .int .u8 (x.b.toNat : Int), .int .u8 (x.c.toNat : Int)] 104) none
    refine hK _ _ ((KeepsOthers.alloc _ _).from _) (KpB.of_grown hgr (by have := hJ.1; omega) (by have := hJ.1; omega) (by simp) (by simp)) ⟨bJ_grown hJ hgr (fun r e => by cases e), hB.alloc hB.size _⟩ ⟨W.heap.size, hJ.1, heap_alloc_new W _, rfl⟩
  case body =>
    rintro l pre x a' W hl hrec ⟨⟨h4, v, hR, hS, hne⟩, hB⟩ ⟨Bx, hBx, hX, rfl⟩ hpl
    have cR := hR.cell
    have fR := hR.frozen
    have q0 : W.cell? ⟨Bx, 0, none⟩ = some (.int .u8 (x.a.toNat : Int)) := by simp [World.cell?, hX]
    have q1 : W.cell? ⟨Bx, 1, none⟩ = some (.int .u8 (x.b.toNat : Int)) := by simp [World.cell?, hX]
    have q2 : W.cell? ⟨Bx, 2, none⟩ = some (.int .u8 (x.c.toNat : Int)) := by simp [World.cell?, hX]
    obtain ⟨c0, hc0⟩ : ∃ c, c = sg (x.a.toNat / 4) := ⟨_, rfl⟩
    obtain ⟨c1, hc1⟩ : ∃ c, c = sg (x.a.toNat % 4 * 16 + x.b.toNat / 16) := ⟨_, rfl⟩
    obtain ⟨c2, hc2⟩ : ∃ c, c = sg (x.b.toNat % 16 * 4 + x.c.toNat / 64) := ⟨_, rfl⟩
    obtain ⟨c3, hc3⟩ : ∃ c, c = sg (x.c.toNat % 64) := ⟨_, rfl⟩
    have HGR : Hid (grp ((x.a.toNat * 256 + x.b.toNat) * 256 + x.c.toNat) x.n = [c0, c1, if x.n < 2 then 61 else c2, if x.n < 3 then 61 else c3]) := Lib.hid (by
      have e1 := x.a.toNat_lt
      have e2 := x.b.toNat_lt
      have e3 := x.c.toNat_lt
      have e4 := x.h1
      have d0 : ((x.a.toNat * 256 + x.b.toNat) * 256 + x.c.toNat) / 262144 % 64 = x.a.toNat / 4 := by omega
      have d1 : ((x.a.toNat * 256 + x.b.toNat) * 256 + x.c.toNat) / 4096 % 64 = x.a.toNat % 4 * 16 + x.b.toNat / 16 := by omega
      have d2 : ((x.a.toNat * 256 + x.b.toNat) * 256 + x.c.toNat) / 64 % 64 = x.b.toNat % 16 * 4 + x.c.toNat / 64 := by omega
      have d3 : ((x.a.toNat * 256 + x.b.toNat) * 256 + x.c.toNat) % 64 = x.c.toNat % 64 := by omega
      unfold grp ch
      rw [if_neg (by omega), if_neg (by omega)]
      simp only [Nat.mul_zero, Nat.sub_zero, Nat.mul_one, Nat.reduceMul, Nat.reduceSub, Nat.reducePow, Nat.div_one, d0, d1, d2, d3, ← hc0, ← hc1, ← hc2, ← hc3])
    have HBG : Hid (∀ W, Calls Try.prog 90 #[.agg #[.int .u8 (x.a.toNat : Int), .int .u8 (x.b.toNat : Int), .int .u8 (x.c.toNat : Int)]] W fun e w' => e = .returned (.agg #[.int .u8 (c0.toNat : Int), .int .u8 (c1.toNat : Int), .int .u8 (c2.toNat : Int), .int .u8 (c3.toNat : Int)]) ∧ Below W.heap.size W w') := Lib.hid (fun W => by
      have h := base64Group_any x.a x.b x.c W
      unfold bv at h
      rw [hc0, hc1, hc2, hc3]; exact h)
    clear hc0 hc1 hc2 hc3
    have hn1 := x.h1
    have hn3 := x.h3
    have HPL : Hid ((outL pre).length + 4 ≤ 16777216) := Lib.hid (by rw [outL_len]; omega)
    gi_wp2_with (refine ⟨trivial, ?_⟩; gi_at_call 90; refine (CallsIn.inRound l (callsIn_wide.2 (HBG.out _))).mono ?_; rintro e w1 ⟨rfl, hb1⟩)
    have hgz : W.grownBy (w1.alloc (.cells #[.int .u8 (c0.toNat : Int), .int .u8 (c1.toNat : Int), .int .u8 (c2.toNat : Int), .int .u8 (c3.toNat : Int)] 105)) none :=
      ⟨hb1.os, hb1.tape, hb1.output, by have := hb1.size; simp; omega, fun k hk _ => (Below.heap_alloc _ _ _ (Nat.lt_of_lt_of_le hk hb1.size)).trans (hb1.block k hk)⟩
    have hW1 : W.heap.size ≤ w1.heap.size := hb1.size
    gi_loopw [7] (fun k wr => ∃ K : Nat, x.n + 1 ≤ K ∧ K ≤ 4 ∧ k = .int .i64 (K : Int) ∧ wr.heap[w1.heap.size]? = some (.cells (eqs x.n K c0 c1 c2 c3) 105 (0, 0)) ∧ W.grownBy wr none) (fun k _ => 4 - (intOf k).toNat)
    case atStart => exact ⟨x.n + 1, Nat.le_refl _, by omega, rfl, by rw [← eqs_start]; exact heap_alloc_new w1 _, hgz⟩
    case round =>
      obtain ⟨K, hK1, hK4, rfl, hE, hga⟩ := hrel
      by_cases hlt : K < 4
      · have k1 : (K : Int) < 4 := by omega
        have k0 : (0 : Int) ≤ (K : Int) := by omega
        have hsz4 : (eqs x.n K c0 c1 c2 c3).size = 4 := rfl
        obtain ⟨y, y1⟩ : ∃ y, wr.cell? ⟨w1.heap.size, K, none⟩ = some y := by
          rw [cell_of_row wr w1.heap.size K _ 105 (0, 0) hE]
          exact ⟨_, Array.getElem?_eq_getElem (by rw [hsz4]; exact hlt)⟩
        have y2 : wr.frozen? ⟨w1.heap.size, K, none⟩ = false := frozen_of_row wr w1.heap.size K _ 105 hE
        have HN : Hid ((wr.setCell ⟨w1.heap.size, K, none⟩ (.int .u8 61)).heap[w1.heap.size]? = some (.cells (eqs x.n (K + 1) c0 c1 c2 c3) 105 (0, 0))) := Lib.hid (by
          rw [← eqs_set x.n K c0 c1 c2 c3 hn1 hK1 hlt]
          exact heap_setCell_same wr w1.heap.size K _ 105 _ hE)
        have HG : Hid (W.grownBy (wr.setCell ⟨w1.heap.size, K, none⟩ (.int .u8 61)) none) := Lib.hid ⟨hga.os, hga.tape, hga.output, by have := hga.size; simpa using this, fun k hk _ => (heap_setCell_other wr ⟨w1.heap.size, K, none⟩ k _ (by intro e; simp at e; omega)).trans (hga.block k hk (by simp))⟩
        clear hE hga hsz4
        gi_wp2
        go_roundw
        case rel => exact ⟨K + 1, by omega, by omega, by go_num, HN.out, HG.out⟩
        case measure => simp [intOf]; omega
      · obtain rfl : K = 4 := by omega
        have hRr := hR.kept hga (by simp)
        have cRr := hRr.cell
        have hSr := hS.grown_none hga
        have HCS := Lib.hid (eqs_end x.n c0 c1 c2 c3)
        rw [← HGR.out] at HCS
        have hgd : W.grownBy wr.drew none := ⟨hga.os, hga.tape, hga.output, hga.size, fun k hk h => hga.block k hk h⟩
        have HSI : Hid (w.heap.size ≤ wr.drew.heap.size) := Lib.hid (Nat.le_trans hB.size hga.size)
        gi_wp2
        refine wpIn_region_any (by kernel_rfl) ?_
        change wpAnyIn _ _ _ _ _ _ _ _ _ (World.drew _)
        refine wpAnyIn_ready (rs := [0, 1]) (by kernel_rfl) (by simp) (AllReadyIn.cons rfl (fun K hK => ?_) (AllReadyIn.cons rfl (fun K hK => ?_) AllReadyIn.nil)) <;> go_simp <;> refine hK _ _ ?_ <;> clear hK K
        · refine wpAnyIn_ready (rs := [1]) (by kernel_rfl) (by simp) (AllReadyIn.cons rfl (fun K hK => ?_) AllReadyIn.nil)
          go_simp
          refine hK _ _ ?_
          clear hK K
          refine wpAnyIn_ready (rs := [2]) (by kernel_rfl) (by simp) (AllReadyIn.cons rfl (fun K hK => ?_) AllReadyIn.nil)
          refine step_append_bin rfl _ _ rfl w.heap.size v (outL pre) rfl hSr.drew (grp ((x.a.toNat * 256 + x.b.toNat) * 256 + x.c.toNat) x.n) w1.heap.size 4 4 (eqs x.n 4 c0 c1 c2 c3) 105 (0, 0) rfl rfl hE HCS.out (by simp [grp]) HPL.out HSI.out ?_
          intro g cap w3 hS3 hg3 hg4
          refine hK _ _ ?_
          clear hK K
          have HE := Lib.hid (b64_end w W wr.drew w3 v _ (outL pre) (grp ((x.a.toNat * 256 + x.b.toNat) * 256 + x.c.toNat) x.n) g cap rfl h4 hR hS hne hB hgd hg3 hS3 hg4)
          have c9 := HE.out.1.cell
          have f9 := HE.out.1.frozen
          clear hS3 hg3 hg4
          refine wpAnyIn_ready (rs := [3]) (by kernel_rfl) (by simp) (AllReadyIn.cons rfl (fun K hK => ?_) AllReadyIn.nil)
          go_simp
          refine hK _ _ ?_
          clear hK K
          refine wpAnyIn_done (by kernel_rfl) ?_ _
          have hZ := HE.out.2
          refine ⟨hZ.1.from _, hZ.2.1, ?_, hZ.2.2.2⟩
          rw [outL_snoc]
          exact hZ.2.2.1
        · refine wpAnyIn_ready (rs := [0]) (by kernel_rfl) (by simp) (AllReadyIn.cons rfl (fun K hK => ?_) AllReadyIn.nil)
          go_simp
          refine hK _ _ ?_
          clear hK K
          refine wpAnyIn_ready (rs := [2]) (by kernel_rfl) (by simp) (AllReadyIn.cons rfl (fun K hK => ?_) AllReadyIn.nil)
          refine step_append_bin rfl _ _ rfl w.heap.size v (outL pre) rfl hSr.drew (grp ((x.a.toNat * 256 + x.b.toNat) * 256 + x.c.toNat) x.n) w1.heap.size 4 4 (eqs x.n 4 c0 c1 c2 c3) 105 (0, 0) rfl rfl hE HCS.out (by simp [grp]) HPL.out HSI.out ?_
          intro g cap w3 hS3 hg3 hg4
          refine hK _ _ ?_
          clear hK K
          have HE := Lib.hid (b64_end w W wr.drew w3 v _ (outL pre) (grp ((x.a.toNat * 256 + x.b.toNat) * 256 + x.c.toNat) x.n) g cap rfl h4 hR hS hne hB hgd hg3 hS3 hg4)
          have c9 := HE.out.1.cell
          have f9 := HE.out.1.frozen
          clear hS3 hg3 hg4
          refine wpAnyIn_ready (rs := [3]) (by kernel_rfl) (by simp) (AllReadyIn.cons rfl (fun K hK => ?_) AllReadyIn.nil)
          go_simp
          refine hK _ _ ?_
          clear hK K
          refine wpAnyIn_done (by kernel_rfl) ?_ _
          have hZ := HE.out.2
          refine ⟨hZ.1.from _, hZ.2.1, ?_, hZ.2.2.2⟩
          rw [outL_snoc]
          exact hZ.2.2.1
  case done =>
    rintro D ys W hD hys ⟨⟨h4, v, hR, hS, hne⟩, hB⟩ hK
    rw [outL_all _ _ hys] at hS
    have cR := hR.cell
    have hcv := hS.conv
    clear hys
    gi_wp2
    refine ⟨by simp, .inl ⟨_, _, rfl, run_takeDeferred hK, ?_⟩⟩
    exact ⟨_, by simp [results, Try.f52, go_sem], rfl, hB.trans (belowK_b (w := w) (Nat.le_refl _) W D _ _ (by have := HSZ.out; omega) hK rfl rfl)⟩
  case stop =>
    rintro D c pre W hD hpre h hK
    exact h.elim

theorem implPutBase64_any (s : ByteArray) (w : World) (hs : s.size ≤ 1048576) :
    Calls Try.prog 52 #[.string s] w fun e W' => e = .returned (.string ⟨(b64L s.data.toList).toArray⟩) ∧ Below w.heap.size w W' :=
  (callsIn_wide (n := 4)).1 (putBase64_in 4 (by omega) s w hs)
end Go.Proofs.Ytldfkdkppgammaa
