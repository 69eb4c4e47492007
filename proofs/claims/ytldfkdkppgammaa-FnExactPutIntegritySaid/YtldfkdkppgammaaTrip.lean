/-
  impl.triplesOf hands back an iterator that yields the bytes of a text by threes.
-/
import Derived.Test.YtldfkdkppgammaaPieces
import Derived.Test.YtldfkdkppgammaaKp
import Derived.Test.YtldfkdkppgammaaB64
import Derived.Lib.BufferWrite
namespace Go.Proofs.Ytldfkdkppgammaa
open Go.RowKit Go.Shelf
attribute [local go_sem] Oper.semAt_some

/-- A group of three bytes, and how many of them are the text's. -/
structure Tri where
  a : UInt8
  b : UInt8
  c : UInt8
  n : Nat
  h1 : 1 ≤ n
  h3 : n ≤ 3
def triV (x : Tri) : Array Value := #[.agg #[.int .u8 (x.a.toNat : Int), .int .u8 (x.b.toNat : Int), .int .u8 (x.c.toNat : Int)], .int .i64 (x.n : Int)]
def tri (l : List UInt8) (g : Nat) : Tri := ⟨l.getD (3 * g) 0, l.getD (3 * g + 1) 0, l.getD (3 * g + 2) 0, max 1 (min 3 (l.length - 3 * g)), by omega, by omega⟩

def TriAll (l : List UInt8) (ys : List Tri) : Prop := ys = (List.range ((l.length + 2) / 3)).map (tri l)

theorem run_copy3 (w : World) (g : Nat) (s : ByteArray) (cur : Array Value) (t : TypeId) (hg : w.heap[g]? = some (.cells cur t (0, 0))) (hc : cur.size = 3) (Y : Array Value) (m : Nat) (hm : m = min s.size 3)
    (hY : Y.toList = Lib.byteCells (s.data.toList.take 3) ++ cur.toList.drop m) :
    (Builtin.copy_ #[59, 9] 3 #[.slice (some ⟨g, 0, none⟩) 3 3, .string s]).run Try.prog w = .ok (.int .i64 (m : Int)) (w.setRow g Y) := by
  obtain ⟨i0, hi, hz0, hz1, hz2⟩ := info_parts u8info
  have hlen : (Lib.byteCells (s.data.toList.take 3)).length = m := by rw [Lib.byteCells_length, hm]; simp [Nat.min_comm]
  have hst := run_storeCells_at Try.prog g 0 t (Lib.byteCells (s.data.toList.take 3)) 0 cur w hg (by rw [hlen, hm, hc]; omega) (Lib.byteCells_one _)
  have htk : List.take (Nat.min s.size 3) (List.map (fun b : UInt8 => Value.int IntKind.u8 (b.toNat : Int)) s.data.toList) = Lib.byteCells (s.data.toList.take 3) := by
    unfold Lib.byteCells
    rw [List.map_take]
    by_cases h : s.size ≤ 3
    · rw [show s.size.min 3 = s.size from Nat.min_eq_left h, List.take_of_length_le (by simp), List.take_of_length_le (by simp; omega)]
    · rw [show s.size.min 3 = 3 from Nat.min_eq_right (by omega)]
  have hYe : Y = (List.take 0 cur.toList ++ Lib.byteCells (s.data.toList.take 3) ++ List.drop m cur.toList).toArray := by
    apply Array.ext'
    rw [hY]; simp
  rw [hlen] at hst
  simp only [Nat.add_zero, Nat.zero_add] at hst
  rw [hYe]
  simp [Builtin.copy_, run_underlying Try.underlying59, Builtin.lenOf, Builtin.firstCells, sizeOf, typeInfo, hi]
  rw [htk, hst]
  simp [Result.andThen, hm, goInt]
theorem tri_cells (l : List UInt8) (h : 0 < l.length) (z : Value) (m : Nat) (hm : m = min l.length 3) (hz : z = .int .u8 0) :
    Lib.byteCells (l.take 3) ++ [z, z, z].drop m = [.int .u8 ((l.getD 0 0).toNat : Int), .int .u8 ((l.getD 1 0).toNat : Int), .int .u8 ((l.getD 2 0).toNat : Int)] := by
  subst hm hz
  match l, h with
  | [a], _ => rfl
  | [a, b], _ => rfl
  | a :: b :: c :: r, _ =>
    have : min (a :: b :: c :: r).length 3 = 3 := by simp
    rw [this]; rfl

set_option maxHeartbeats 1000000 in
theorem triplesOf_in (n : Nat) (s : ByteArray) (w : World) :
    CallsIn Fence.wide n Try.prog 89 #[.string s] w fun e w' => e = .returned (.func (.func 116) #[] #[.pointer (some ⟨w.heap.size, 0, none⟩)]) ∧ w' = w.alloc (.cells #[.string s] 9) := by
  refine callsIn_of_wp Try.func89 rfl trivial ?_ rfl
  simp only [Try.ntmps89, List.size_toArray, List.length_cons, List.length_nil, Nat.reduceAdd, Nat.reduceSub, Array.replicate_succ, Array.replicate_zero, List.push_toArray, List.append_toArray, List.nil_append, List.cons_append]
  gi_wp2
  go_ret
  exact ⟨rfl, rfl⟩

set_option maxRecDepth 100000 in
set_option maxHeartbeats 2000000 in
theorem triples1_in (n : Nat) (hn : 1 ≤ n) (l Bs : Nat) (s : ByteArray) (hs : s.size ≤ 1048576) (J Jx : List Tri → World → Prop)
    (hY : ∀ pre x W, J pre W → pre.length < (s.size + 2) / 3 → YieldAt Fence.wide (n - 1) Try.prog l (triV x) W fun e W' =>
      (e = .returned (.bool true) ∧ J (pre ++ [x]) W' ∧ KpB Bs Bs W W') ∨ (e = .returned (.bool false) ∧ Jx (pre ++ [x]) W'))
    (W : World) (hBs : W.heap[Bs]? = some (.cells #[.string s] 9 (0, 0))) (h0 : J [] W) (hJa : AbidesFrom W.heap.size J) :
    CallsIn Fence.wide n Try.prog 116 #[.func (.yield l) #[] #[], .pointer (some ⟨Bs, 0, none⟩)] W fun e W' => (∃ v, e = .returned v) ∧
      ((∃ ys, TriAll s.data.toList ys ∧ J ys W') ∨ (∃ pre, True ∧ Jx pre W')) := by
  have hc1 : W.cell? ⟨Bs, 0, none⟩ = some (.string s) := by simp [World.cell?, hBs]
  refine callsIn_of_wp Try.func116 rfl trivial ?_ rfl
  simp only [Try.ntmps116, List.size_toArray, List.length_cons, List.length_nil, Nat.reduceAdd, Nat.reduceSub, Array.replicate_succ, Array.replicate_zero, List.push_toArray, List.append_toArray, List.nil_append, List.cons_append]
  gi_wp2
  gi_loopw [3] (fun i wr => ∃ (g I : Nat), I = 3 * g ∧ g ≤ (s.size + 2) / 3 ∧ i = .int .i64 (I : Int) ∧ wr.heap[Bs]? = some (.cells #[.string s] 9 (0, 0)) ∧ J ((List.range g).map (tri s.data.toList)) wr) (fun i _ => s.size + 2 - (intOf i).toNat)
  case atStart => exact ⟨0, 0, rfl, Nat.zero_le _, rfl, hBs, h0⟩
  case round =>
    obtain ⟨g, I, hIg, hg, rfl, g1, hJ⟩ := hrel
    have d1 : wr.cell? ⟨Bs, 0, none⟩ = some (.string s) := by simp [World.cell?, g1]
    by_cases hlt : I < s.size
    · have k0 : (0 : Int) ≤ (I : Int) := by omega
      have k1 : (I : Int) < (s.size : Int) := by omega
      have HI := Lib.hid hIg
      have hI0 : I ≤ 1048576 := by omega
      have HG := Lib.hid hg
      obtain ⟨x, hx⟩ : ∃ x, x = tri s.data.toList g := ⟨_, rfl⟩
      obtain ⟨r, hr⟩ : ∃ r : ByteArray, r = ⟨(s.data.toList.drop I).toArray⟩ := ⟨_, rfl⟩
      have he := slice_from s r I (I : Int) rfl (by omega) (by rw [hr]; exact piece_end s I)
      have hrl : r.data.toList = s.data.toList.drop I := by rw [hr]
      have hrs : r.size = s.size - I := by have := congrArg List.length hrl; simpa using this
      have hxn : x.n = min r.size 3 := by rw [hx, hrs]; simp [tri]; omega
      have hcells : Lib.byteCells (r.data.toList.take 3) ++ [Value.int .u8 0, .int .u8 0, .int .u8 0].drop x.n = [.int .u8 (x.a.toNat : Int), .int .u8 (x.b.toNat : Int), .int .u8 (x.c.toNat : Int)] := by
        rw [tri_cells r.data.toList (by simp; omega) (.int .u8 0) x.n (by rw [hxn]; simp) rfl, hrl, hx]
        simp [tri, List.getD, List.getElem?_drop, hIg]
      have hcp := run_copy3 ((wr.alloc (.cells #[.int .u8 0, .int .u8 0, .int .u8 0] 104)).drew) wr.heap.size r #[.int .u8 0, .int .u8 0, .int .u8 0] 104 (heap_alloc_new wr _) rfl #[.int .u8 (x.a.toNat : Int), .int .u8 (x.b.toNat : Int), .int .u8 (x.c.toNat : Int)] x.n hxn hcells.symm
      have HX := Lib.hid hx
      clear hIg hg hx hr hrl hrs hxn hcells
      have hBl : Bs < wr.heap.size := (Array.getElem?_eq_some_iff.1 g1).1
      have d2 : (wr.alloc (.cells #[.int .u8 0, .int .u8 0, .int .u8 0] 104)).cell? ⟨Bs, 0, none⟩ = some (.string s) := (((Below.refl wr.heap.size wr).alloc (Nat.le_refl _) _).cell (p := ⟨Bs, 0, none⟩) hBl).trans d1
      gi_wp2
      gi_region
      obtain ⟨w4, h4⟩ : ∃ w4, (wr.alloc (.cells #[.int .u8 0, .int .u8 0, .int .u8 0] 104)).drew.setRow wr.heap.size #[.int .u8 (x.a.toNat : Int), .int .u8 (x.b.toNat : Int), .int .u8 (x.c.toNat : Int)] = w4 := ⟨_, rfl⟩
      have hr4 : w4.heap[wr.heap.size]? = some (.cells #[.int .u8 (x.a.toNat : Int), .int .u8 (x.b.toNat : Int), .int .u8 (x.c.toNat : Int)] 104 (0, 0)) := by
        rw [← h4]; exact setRow_heap _ _ _ _ 104 (0, 0) (heap_alloc_new wr _)
      have hg4 : wr.grownBy w4 none := by
        rw [← h4]
        refine ⟨rfl, rfl, rfl, by simp, fun k hk _ => ?_⟩
        exact (setRow_other _ _ _ _ (by omega)).trans (Below.heap_alloc _ _ _ (by omega))
      have g4 : w4.heap[Bs]? = some (.cells #[.string s] 9 (0, 0)) := (hg4.block Bs hBl (by simp)).trans g1
      have hJ4 : J ((List.range g).map (tri s.data.toList)) w4 := hJa _ wr w4 none hJ hg4 (fun r e => by cases e)
      rw [h4]
      clear h4 hcp d1 d2 g1 hJ hg4
      have q0 : w4.cell? ⟨wr.heap.size, 0, none⟩ = some (.int .u8 (x.a.toNat : Int)) := by simp [World.cell?, hr4]
      have q1 : w4.cell? ⟨wr.heap.size, 1, none⟩ = some (.int .u8 (x.b.toNat : Int)) := by simp [World.cell?, hr4]
      have q2 : w4.cell? ⟨wr.heap.size, 2, none⟩ = some (.int .u8 (x.c.toNat : Int)) := by simp [World.cell?, hr4]
      have hyy := hY _ x w4 hJ4 (by have := HG.out; have := HI.out; simp; omega)
      unfold triV at hyy
      obtain ⟨fn, tmps, assign, body, hy, hR⟩ := hyy
      have HR := Lib.hid hR
      clear hR hr4
      gi_wp2
      refine HR.out.mono ?_
      rintro e W3 (⟨rfl, hJ3, hk3⟩ | ⟨rfl, hJx3⟩)
      · gi_wp2
        go_roundw
        case rel => exact ⟨g + 1, I + 3, by rw [HI.out]; omega, by have := HI.out; omega, by go_num, hk3.1.trans g4, by rw [List.range_succ, List.map_append, List.map_cons, List.map_nil, ← HX.out]; exact hJ3⟩
        case measure => simp [intOf]; omega
      · gi_wp2
        refine bodyPost_ret (results_none rfl _ _ _) rfl ?_
        exact ⟨⟨_, rfl⟩, .inr ⟨_, trivial, hJx3⟩⟩
    · have k1 : ¬ (I : Int) < (s.size : Int) := by omega
      have HE : Hid (g = (s.size + 2) / 3) := Lib.hid (by omega)
      clear hIg hg
      gi_wp2
      go_end0
      exact ⟨⟨_, rfl⟩, .inl ⟨_, by unfold TriAll; rw [HE.out]; simp, hJ⟩⟩

/-- The iterator's contract, for a caller. -/
theorem triples_stops (n : Nat) (hn : 1 ≤ n) (Bs : Nat) (s : ByteArray) (hs : s.size ≤ 1048576) (w : World) (h1 : Bs < w.heap.size)
    (hBs : w.heap[Bs]? = some (.cells #[.string s] 9 (0, 0))) :
    SeqStopsK Fence.wide n Try.prog 116 #[.pointer (some ⟨Bs, 0, none⟩)] triV (KpB Bs Bs) (TriAll s.data.toList) (fun _ => True) ((s.size + 2) / 3) w := fun l J Jx W hW hJ _ hY h0 =>
  triples1_in n hn l Bs s hs J Jx hY W ((hW.block Bs h1).trans hBs) h0 hJ
end Go.Proofs.Ytldfkdkppgammaa
