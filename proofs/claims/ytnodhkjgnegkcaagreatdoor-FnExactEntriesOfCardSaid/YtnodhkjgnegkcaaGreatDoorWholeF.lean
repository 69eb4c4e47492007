/-
  spec.PutIntegrity returns the integrity text of sums.
-/
import Derived.Test.YtnodhkjgnegkcaaGreatDoorWholeE
import Derived.Deep.RegionWith
import Derived.Test.YtnodhkjgnegkcaaGreatDoorRows
import Derived.Test.YtnodhkjgnegkcaaGreatDoorBase
import Derived.Laws.OwnMore
import Derived.Laws.IdiomStrings
import Derived.Maps.AppendAt
import Derived.Laws.BitsAllLaws
import Derived.Deep.RegionLaw
import Derived.Deep.AppendLies
import Derived.Laws.BitsLemmas
import Derived.Test.YtnodhkjgnegkcaaGreatDoorStr
import Derived.Test.YtnodhkjgnegkcaaGreatDoorRdB
import Derived.Lib.Join
import Derived.Test.YtnodhkjgnegkcaaGreatDoorWholeA
import Derived.Test.YtnodhkjgnegkcaaGreatDoorWholeB
import Derived.Test.YtnodhkjgnegkcaaGreatDoorCut
import Derived.Test.YtnodhkjgnegkcaaGreatDoorIndexA
import Derived.Deep.QuietTactic
import Derived.BigQuiet
import Derived.Lib.TrimByte
import Derived.Test.YtnodhkjgnegkcaaGreatDoorWholeD
import Derived.Test.YtnodhkjgnegkcaaGreatDoorHeap
import Derived.Deep.RegionHeld3
import Derived.Laws.DeepStrings4
/-
  Whether a range takes a version's text: spec.In.
-/
namespace Go.Proofs.YtnodhkjgnegkcaaGreatDoor
open Go.RowKit

/-- Whether the range bs takes the version of the text l. -/
def takesL (l : List UInt8) (b : Bd) : Bool := takes b (readA l 0) (readA l 1) (readA l 2) (readP l)
def inR (l : List UInt8) (bs : List Bd) : Bool := readOk l && rngOk bs && bs.any (takesL l)
theorem any_take {α : Type} (ls : List α) (p : α → Bool) (k : Nat) (h : k < ls.length) (ha : (ls.take k).any p = false) (hb : p ls[k] = false) : (ls.take (k + 1)).any p = false := by
  rw [List.take_succ_eq_append_getElem h, List.any_append, ha]; simp [hb]
theorem any_yes {α : Type} (ls : List α) (p : α → Bool) (k : Nat) (h : k < ls.length) (hb : p ls[k] = true) : ls.any p = true := by
  rw [List.any_eq_true]; exact ⟨ls[k], List.getElem_mem h, hb⟩

set_option maxRecDepth 100000 in
set_option maxHeartbeats 4000000 in
theorem specIn_any (s : ByteArray) (v : Value) (bs : List Bd) (w : World) (hz : s.size ≤ 1048576) (hr : RdB w v bs) (hs : SmB bs) :
    Calls Tryz.prog 90 #[.string s, v] w fun e w' => e = .returned (.bool (inR s.data.toList bs)) ∧ Below w.heap.size w w' := by
  have HR := Lib.hid hr
  have HS := Lib.hid hs
  have HV := Lib.hid (fun (W : World) (h : Below w.heap.size w W) => specRangeOk_any v bs W (hr.below h) hs)
  obtain ⟨A, ca, rfl, ha⟩ := hr
  have hn : bs.length ≤ 1048576 := by unfold SmB at hs; omega
  have HSP : Hid (Sm (readP s.data.toList)) := Lib.hid (readP_Sm (by simpa using hz))
  clear ha hs
  obtain ⟨rk, HRK⟩ : ∃ z, Hid (rngOk bs = z) := ⟨_, Lib.hid rfl⟩
  obtain ⟨ok, HOK⟩ : ∃ z, Hid (readOk s.data.toList = z) := ⟨_, Lib.hid rfl⟩
  obtain ⟨m, HM⟩ : ∃ m, Hid ((readP s.data.toList).length = m) := ⟨_, Lib.hid rfl⟩
  obtain ⟨l0, HL0⟩ : ∃ z, Hid (readA s.data.toList 0 = z) := ⟨_, Lib.hid rfl⟩
  obtain ⟨l1, HL1⟩ : ∃ z, Hid (readA s.data.toList 1 = z) := ⟨_, Lib.hid rfl⟩
  obtain ⟨l2, HL2⟩ : ∃ z, Hid (readA s.data.toList 2 = z) := ⟨_, Lib.hid rfl⟩
  have HI : Hid (inR s.data.toList bs = (ok && rk && bs.any (takesL s.data.toList))) := Lib.hid (by unfold inR; rw [HOK.out, HRK.out])
  go_enter Tryz.func90, Tryz.ntmps90
  go_wp2_with fail
  refine (specReadVersion_any _ _ hz).mono ?_
  rintro e w1 ⟨u, rfl, hu, hb1⟩
  obtain ⟨uA, uc, rfl⟩ := hu.slice
  rw [HOK.out, HL0.out, HL1.out, HL2.out, HM.out]
  have hRL : RdS w1 (.slice uA m uc) (readP s.data.toList) := by have := RdS.of_strs hu; rw [HM.out] at this; exact this
  have B1 := hb1.alloc hb1.size (.cells #[.int .i64 l0, .int .i64 l1, .int .i64 l2, .slice uA m uc] 117)
  have v1 := heap_alloc_new w1 (.cells #[.int .i64 l0, .int .i64 l1, .int .i64 l2, .slice uA m uc] 117)
  have hR1 := rdS_alloc hRL (.cells #[.int .i64 l0, .int .i64 l1, .int .i64 l2, .slice uA m uc] 117)
  have HV1 := Lib.hid v1
  have HR1 := Lib.hid hR1
  clear hb1 hu hRL v1 hR1
  go_wp2_with fail
  go_loopw [7] (fun i wr => ∃ k : Nat, k ≤ bs.length ∧ i = .int .i64 k ∧ Hid (ok = true → rk = true → (bs.take k).any (takesL s.data.toList) = false) ∧ Below (w1.heap.size + 1) (w1.alloc (.cells #[.int .i64 l0, .int .i64 l1, .int .i64 l2, .slice uA m uc] 117)) wr) (fun i _ => bs.length - (intOf i).toNat)
  case atStart => exact ⟨0, Nat.zero_le _, rfl, Lib.hid (by simp), Below.refl _ _⟩
  case round =>
    obtain ⟨k, hk, rfl, H, hb⟩ := hrel
    have hbw : Below w.heap.size w wr := B1.trans (hb.mono (by have := B1.size; simp at this; omega))
    have hbs : w1.heap.size + 1 ≤ wr.heap.size := by have := hb.size; simpa using this
    by_cases hlt : k < bs.length
    · have k0 : (0 : Int) ≤ (k : Int) := by omega
      have k1 : (k : Int) < (bs.length : Int) := by omega
      have HG := Lib.hid (smB_get HS.out k hlt)
      cases ok
      · have HH : Hid (false = true → rk = true → (bs.take (k + 1)).any (takesL s.data.toList) = false) := Lib.hid (fun h => by cases h)
        go_wp2_with fail
        go_region
        all_goals
          go_wp2_with fail
          go_roundw
          case rel => exact ⟨k + 1, by omega, by go_num, HH, hb.trans (below_drewN _ _ 1)⟩
          case measure => simp [intOf]; omega
      · cases rk
        · go_wp2_with fail
          first | go_region_with (first | (go_at_call 138; refine (HV.out _ (hbw.trans (below_drewN _ _ 1))).mono ?_; rw [HRK.out]; rintro e w2 ⟨rfl, hb2⟩)) | fail
          all_goals
            go_wp2_with fail
            go_roundw
            case rel => exact ⟨k + 1, by omega, by go_num, Lib.hid (fun _ h => by cases h), (hb.trans (below_drewN _ _ 1)).trans (hb2.mono hbs)⟩
            case measure => simp [intOf]; omega
        · obtain ⟨tk, HTK⟩ : ∃ z, Hid (takes ((⟨bs[k].1.toArray⟩ : ByteArray).data.toList, (⟨bs[k].2.toArray⟩ : ByteArray).data.toList) l0 l1 l2 (readP s.data.toList) = z) := ⟨_, Lib.hid rfl⟩
          have HTL : Hid (takesL s.data.toList bs[k] = tk) := Lib.hid (by unfold takesL; rw [HL0.out, HL1.out, HL2.out]; exact HTK.out)
          have HCE : Hid (∀ W : World, Below (w1.heap.size + 1) (w1.alloc (.cells #[.int .i64 l0, .int .i64 l1, .int .i64 l2, .slice uA m uc] 117)) W → (∃ g off, A = some ⟨g, off, none⟩ ∧ W.cell? ⟨g, off + k * 2, none⟩ = some (.string ⟨bs[k].1.toArray⟩) ∧ W.cell? ⟨g, off + k * 2 + 1, none⟩ = some (.string ⟨bs[k].2.toArray⟩)) ∧ W.heap[w1.heap.size]? = some (.cells #[.int .i64 l0, .int .i64 l1, .int .i64 l2, .slice uA m uc] 117)) := Lib.hid (fun W hW => by
            have hw : Below w.heap.size w W := B1.trans (hW.mono (by have := B1.size; simp at this; omega))
            obtain ⟨A', ca', hv, ha⟩ := HR.out.below hw
            simp only [Value.slice.injEq] at hv
            obtain ⟨rfl, _, rfl⟩ := hv
            obtain ⟨g, off, rfl, hg, hca⟩ := ha (by omega)
            exact ⟨⟨g, off, rfl, (hca k hlt).1, (hca k hlt).2⟩, (hW.block _ (by simp)).trans HV1.out⟩)
          obtain ⟨⟨g, off, hA, _, _⟩, _⟩ := HCE.out _ hb
          subst hA
          have HCF : Hid (∀ W : World, Below (w1.heap.size + 1) (w1.alloc (.cells #[.int .i64 l0, .int .i64 l1, .int .i64 l2, .slice uA m uc] 117)) W → W.cell? ⟨g, off + k * 2, none⟩ = some (.string ⟨bs[k].1.toArray⟩) ∧ W.cell? ⟨g, off + k * 2 + 1, none⟩ = some (.string ⟨bs[k].2.toArray⟩)) := Lib.hid (fun W hW => by
            obtain ⟨⟨g', off', hA, e1, e2⟩, _⟩ := HCE.out W hW
            simp only [Option.some.injEq, Addr.mk.injEq, and_true] at hA
            obtain ⟨rfl, rfl⟩ := hA
            exact ⟨e1, e2⟩)
          have HCL : Hid (∀ W : World, Below (w1.heap.size + 1) (w1.alloc (.cells #[.int .i64 l0, .int .i64 l1, .int .i64 l2, .slice uA m uc] 117)) W → Calls Tryz.prog 139 #[.agg #[.string ⟨bs[k].1.toArray⟩, .string ⟨bs[k].2.toArray⟩], .agg #[.int .i64 l0, .int .i64 l1, .int .i64 l2, .slice uA m uc]] W fun e w' => e = .returned (.bool tk) ∧ Below W.heap.size W w') := Lib.hid (fun W hW => by
            have := l03Takes_any ⟨bs[k].1.toArray⟩ ⟨bs[k].2.toArray⟩ l0 l1 l2 _ _ W (HR1.out.below (hW.mono (by simp))) HSP.out HG.out.1 HG.out.2
            rw [HTK.out] at this
            exact this)
          have hbd := hb.trans (below_drewN (w1.heap.size + 1) wr 1)
          go_wp2_with fail
          go_region_with (first | (go_at_call 138; refine (HV.out _ (hbw.trans (below_drewN _ _ 1))).mono ?_; rw [HRK.out]; rintro e w2 ⟨rfl, hb2⟩; have hB2 := hbd.trans (hb2.mono hbs); obtain ⟨d1, d2⟩ := HCF.out _ hB2; obtain ⟨x0, x1, x2, x3⟩ := cells4 (HCE.out _ hB2).2) | (go_at_call 139; refine (HCL.out _ hB2).mono ?_; rintro e w3 ⟨rfl, hb3⟩))
          all_goals
            have hB3 := hB2.trans (hb3.mono (Nat.le_trans hbs hb2.size))
            cases tk
            · have HH : Hid ((bs.take (k + 1)).any (takesL s.data.toList) = false) := Lib.hid (any_take bs _ k hlt (H.out (by trivial) (by trivial)) HTL.out)
              go_wp2_with fail
              go_roundw
              case rel => exact ⟨k + 1, by omega, by go_num, Lib.hid (fun _ _ => HH.out), hB3⟩
              case measure => simp [intOf]; omega
            · have HF : Hid (inR s.data.toList bs = true) := Lib.hid (by rw [HI.out, any_yes bs _ k hlt HTL.out]; rfl)
              go_wp2_with fail
              go_ret
              exact ⟨ret_bool HF.out.symm, B1.trans (hB3.mono (by have := B1.size; simp at this; omega))⟩
    · have HF : Hid (inR s.data.toList bs = false) := Lib.hid (by
        rw [HI.out]
        have h := H.out
        rw [List.take_of_length_le (by omega)] at h
        cases ok
        · rfl
        · cases rk
          · rfl
          · rw [h rfl rfl]; rfl)
      go_wp2_with fail
      go_ret
      exact ⟨ret_bool HF.out.symm, hbw⟩
end Go.Proofs.YtnodhkjgnegkcaaGreatDoor

/-
  A byte buffer of the call's own: what it owns as a list of bytes, and the string that it is turned into.
-/
namespace Go.Proofs.YtnodhkjgnegkcaaGreatDoor
open Go.RowKit

/-- A byte as a value. -/
def bv (c : UInt8) : Value := .int .u8 (c.toNat : Int)
/-- The value v owns just the bytes l, in blocks from base on. -/
def Buf (w : World) (base : Nat) (v : Value) (l : List UInt8) : Prop := w.ownsRow base 5 1 v l.length (l.map bv)

theorem u8info : (Tryz.prog.info? 5).map (fun i => (i.zero, i.size, i.bytes)) = some (some (.int .u8 0), 1, 1) := by kernel_rfl

theorem Buf.form {w : World} {base : Nat} {v : Value} {l : List UInt8} (h : Buf w base v l) : (v = .slice none 0 0 ∧ l = []) ∨ ∃ g cap, v = .slice (some ⟨g, 0, none⟩) l.length cap ∧ base ≤ g ∧ g < w.heap.size := by
  rcases h.2 with ⟨hv, hl⟩ | ⟨g, cap, cur, hv, hb, hh, _⟩
  · left; exact ⟨hv, by simpa using hl⟩
  · right
    refine ⟨g, cap, hv, hb, ?_⟩
    rcases Nat.lt_or_ge g w.heap.size with hlt | hge
    · exact hlt
    · rw [Array.getElem?_eq_none hge] at hh; cases hh

theorem Buf.conv {w : World} {base : Nat} {v : Value} {l : List UInt8} (h : Buf w base v l) : (convert 145 9 v).run Tryz.prog w = .ok (.string ⟨l.toArray⟩) w := by
  rcases h.form with ⟨rfl, rfl⟩ | ⟨g, cap, rfl, _, _⟩
  · rw [run_convert_bytes_string w 145 9 5 none 0 0 Tryz.underlying145 Tryz.underlying5 Tryz.underlying9]
    rfl
  · refine run_convert_bytes_back w 145 9 5 ⟨g, 0, none⟩ cap l Tryz.underlying145 Tryz.underlying5 Tryz.underlying9 ?_
    intro j hj
    exact World.ownsRow.cells (g := g) h rfl j _ (by simp [bv, hj])

theorem Buf.alloc {w : World} {base : Nat} {v : Value} {l : List UInt8} (h : Buf w base v l) (o : Obj) : Buf (w.alloc o) base v l := World.ownsRow.alloc h o
theorem Buf.drew {w : World} {base : Nat} {v : Value} {l : List UInt8} (h : Buf w base v l) : Buf w.drew base v l := World.ownsRow.drew h
theorem Buf.owned {w : World} {base : Nat} {v : Value} {l : List UInt8} (h : Buf w base v l) : ∀ g, v.ownBlock = some g → base ≤ g := by
  intro g hg
  rcases h.form with ⟨rfl, _⟩ | ⟨g', cap, rfl, hb, _⟩
  · simp [Value.ownBlock] at hg
  · simp [Value.ownBlock] at hg; omega

theorem run_append_buf (w : World) (ty : TypeId) (base : Nat) (v : Value) (l : List UInt8) (hown : Buf w base v l) (ns : List UInt8) (B c : Nat) (cs : Array Value) (t : TypeId) (fr : Nat × Nat)
    (hblk : w.heap[B]? = some (.cells cs t fr)) (hcs : cs.toList = ns.map bv) (hm : 0 < ns.length) (hlen : l.length + ns.length ≤ 16777216) (hbase : base ≤ w.heap.size) :
    ∃ v' w', (Builtin.append_ #[145, 145] ty #[v, .slice (some ⟨B, 0, none⟩) ns.length c]).run Tryz.prog w = .ok v' w' ∧ Buf w' base v' (l ++ ns) ∧ Below base w w' := by
  obtain ⟨i0, hi, hz0, hz1, hz2⟩ := info_parts u8info
  obtain ⟨g, cap, w', hr, h2, h3, _, _⟩ := run_append_lies (P := Tryz.prog) w 145 ty base 5 i0 (.int .u8 0) 1 1 Tryz.underlying145 hi hz0 hz1 hz2 rfl (by decide) v l.length (l.map bv) hown
    ⟨B, 0, none⟩ ns.length c (ns.map bv) (by simp) (by rw [← hcs]; exact World.news_of_block hblk) (by intro u hu; obtain ⟨x, _, rfl⟩ := List.mem_map.1 hu; rfl) hm (by unfold maxLen; omega) (by omega) hbase _ rfl
  refine ⟨_, w', hr, ?_, (Below.refl base w).grown h3 hbase hown.owned⟩
  unfold Buf
  rw [List.length_append, List.map_append]
  exact h2

theorem wp_append_buf {w : World} {o : Oper} {a : Act} {K : Act → World → Prop} {Q : Exit → Act → World → Prop} (s x : Operand)
    (ho : o.op = .call { callee := .builtin .append, args := #[s, x], argTypes := #[145, 145] })
    (base : Nat) (v : Value) (l : List UInt8) (hs : a.eval s = v) (hown : Buf w base v l) (ns : List UInt8) (B m c : Nat) (cs : Array Value) (t : TypeId) (fr : Nat × Nat)
    (hx : a.eval x = .slice (some ⟨B, 0, none⟩) m c) (hmm : ns.length = m) (hblk : w.heap[B]? = some (.cells cs t fr)) (hcs : cs.toList = ns.map bv) (hm : 0 < ns.length) (hlen : l.length + ns.length ≤ 16777216) (hbase : base ≤ w.heap.size)
    (h : ∀ v' w', Buf w' base v' (l ++ ns) → Below base w w' → K (a.put o.dst v') w') : o.wp Tryz.prog a w K Q := by
  subst hmm
  obtain ⟨v', w', hr, h2, h3⟩ := run_append_buf w o.type base v l hown ns B c cs t fr hblk hcs hm hlen hbase
  unfold Oper.wp execOp
  simp only [ho, resolve, invoke, builtin, Sem.run_bind, Sem.run_pure, Result.andThen_ok, List.map_toArray, List.map_cons, List.map_nil, hs, hx, hr]
  exact h v' w' h2 h3

/-- append(out, bytes) at a plain region's list. -/
theorem wpList_append_buf {w : World} {ops : Array Oper} {rest : List Oper} {o : Oper} {a : Act} {Q : Exit → Act → World → Prop} (hgd : o.guard = none) (s x : Operand)
    (ho : o.op = .call { callee := .builtin .append, args := #[s, x], argTypes := #[145, 145] })
    (base : Nat) (v : Value) (l : List UInt8) (hs : a.eval s = v) (hown : Buf w base v l) (ns : List UInt8) (B m c : Nat) (cs : Array Value) (t : TypeId) (fr : Nat × Nat)
    (hx : a.eval x = .slice (some ⟨B, 0, none⟩) m c) (hmm : ns.length = m) (hblk : w.heap[B]? = some (.cells cs t fr)) (hcs : cs.toList = ns.map bv) (hm : 0 < ns.length) (hlen : l.length + ns.length ≤ 16777216) (hbase : base ≤ w.heap.size)
    (h : ∀ v' w', Buf w' base v' (l ++ ns) → Below base w w' → wpList Tryz.prog ops Q rest (a.put o.dst v') w') : wpList Tryz.prog ops Q (o :: rest) a w :=
  wpList_plain hgd fun _ hK => wp_append_buf s x ho base v l hs hown ns B m c cs t fr hx hmm hblk hcs hm hlen hbase fun v' w' h2 h3 => hK _ _ (h v' w' h2 h3)

/-- append(out, bytes) at a step of a region that draws its order. -/
theorem step_append_buf {w : World} {ops : Array Oper} {o : Oper} {a : Act} {K : Act → World → Prop} {Q : Exit → Act → World → Prop} {E : Prop} (hgd : o.guard = none) (s x : Operand)
    (ho : o.op = .call { callee := .builtin .append, args := #[s, x], argTypes := #[145, 145] })
    (base : Nat) (v : Value) (l : List UInt8) (hs : a.eval s = v) (hown : Buf w base v l) (ns : List UInt8) (B m c : Nat) (cs : Array Value) (t : TypeId) (fr : Nat × Nat)
    (hx : a.eval x = .slice (some ⟨B, 0, none⟩) m c) (hmm : ns.length = m) (hblk : w.heap[B]? = some (.cells cs t fr)) (hcs : cs.toList = ns.map bv) (hm : 0 < ns.length) (hlen : l.length + ns.length ≤ 16777216) (hbase : base ≤ w.heap.size)
    (h : ∀ v' w', Buf w' base v' (l ++ ns) → Below base w w' → K (a.put o.dst v') w') :
    if Region.wanted o (yielded ops a.tmps) = true then Oper.wp Tryz.prog o a w K Q else E := by
  have hw : Region.wanted o (yielded ops a.tmps) = true := by simp [Region.wanted, hgd]
  rw [if_pos hw]
  exact wp_append_buf s x ho base v l hs hown ns B m c cs t fr hx hmm hblk hcs hm hlen hbase h

def hexC (n : Nat) : UInt8 := ([48, 49, 50, 51, 52, 53, 54, 55, 56, 57, 97, 98, 99, 100, 101, 102] : List UInt8).getD n 0
def hexU (n : Nat) : UInt8 := ([48, 49, 50, 51, 52, 53, 54, 55, 56, 57, 65, 66, 67, 68, 69, 70] : List UInt8).getD n 0
theorem idx_lower (n : Nat) (hn : n < 16) (z : Int) (hz : z = (n : Int)) (w : World) : (Instr.index 9 (.string ⟨#[48, 49, 50, 51, 52, 53, 54, 55, 56, 57, 97, 98, 99, 100, 101, 102]⟩) (.int .u8 z)).run Tryz.prog w = .ok (.int .u8 ((hexC n).toNat : Int)) w := by
  subst hz
  obtain rfl | rfl | rfl | rfl | rfl | rfl | rfl | rfl | rfl | rfl | rfl | rfl | rfl | rfl | rfl | rfl : n = 0 ∨ n = 1 ∨ n = 2 ∨ n = 3 ∨ n = 4 ∨ n = 5 ∨ n = 6 ∨ n = 7 ∨ n = 8 ∨ n = 9 ∨ n = 10 ∨ n = 11 ∨ n = 12 ∨ n = 13 ∨ n = 14 ∨ n = 15 := by omega
  all_goals kernel_rfl
theorem idx_upper (n : Nat) (hn : n < 16) (z : Int) (hz : z = (n : Int)) (w : World) : (Instr.index 9 (.string ⟨#[48, 49, 50, 51, 52, 53, 54, 55, 56, 57, 65, 66, 67, 68, 69, 70]⟩) (.int .u8 z)).run Tryz.prog w = .ok (.int .u8 ((hexU n).toNat : Int)) w := by
  subst hz
  obtain rfl | rfl | rfl | rfl | rfl | rfl | rfl | rfl | rfl | rfl | rfl | rfl | rfl | rfl | rfl | rfl : n = 0 ∨ n = 1 ∨ n = 2 ∨ n = 3 ∨ n = 4 ∨ n = 5 ∨ n = 6 ∨ n = 7 ∨ n = 8 ∨ n = 9 ∨ n = 10 ∨ n = 11 ∨ n = 12 ∨ n = 13 ∨ n = 14 ∨ n = 15 := by omega
  all_goals kernel_rfl
theorem and15 (c : UInt8) : bits .and .u8 (c.toNat : Int) 15 = (c.toNat : Int) % 16 := by
  have h : ∀ n : Nat, n < 256 → bits .and .u8 (n : Int) 15 = (n : Int) % 16 := by decide +kernel
  exact h _ c.toNat_lt

theorem Buf.lit (w : World) (base : Nat) (l : List UInt8) (hb : base ≤ w.heap.size) (hl : l.length ≤ 16777216) : Buf (w.alloc (.cells (l.map bv).toArray 5)) base (.slice (some ⟨w.heap.size, 0, none⟩) l.length l.length) l := by
  have h := World.ownsRow_lit (base := base) (e := 5) (size := 1) w (l.map bv).toArray l.length hb (by unfold maxLen; omega) (by simp)
  simpa [Buf] using h
theorem Buf.empty (w : World) (base : Nat) (hb : base ≤ w.heap.size) : Buf (w.alloc (.cells #[] 5)) base (.slice (some ⟨w.heap.size, 0, none⟩) 0 0) [] := Buf.lit w base [] hb (by simp)

theorem wrap_div16 (c : UInt8) : IntKind.u8.wrap ((c.toNat : Int) / 16) = (c.toNat : Int) / 16 := by
  have h : ∀ n : Nat, n < 256 → IntKind.u8.wrap ((n : Int) / 16) = (n : Int) / 16 := by decide +kernel
  exact h _ c.toNat_lt

theorem tmod16 (c : UInt8) : (c.toNat : Int).tmod 16 = (c.toNat : Int) % 16 := Int.tmod_eq_emod_of_nonneg (by omega)

end Go.Proofs.YtnodhkjgnegkcaaGreatDoor

/-
  spec.PutBase64 returns four signs for every three bytes.
-/
namespace Go.Proofs.YtnodhkjgnegkcaaGreatDoor
open Go.RowKit

def sgL : List UInt8 := [65, 66, 67, 68, 69, 70, 71, 72, 73, 74, 75, 76, 77, 78, 79, 80, 81, 82, 83, 84, 85, 86, 87, 88, 89, 90, 97, 98, 99, 100, 101, 102, 103, 104, 105, 106, 107, 108, 109, 110, 111, 112, 113, 114, 115, 116, 117, 118, 119, 120, 121, 122, 48, 49, 50, 51, 52, 53, 54, 55, 56, 57, 43, 47]
/-- The n-th sign. -/
def sg (n : Nat) : UInt8 := sgL.getD n 0
/-- The number of the first j bytes from i on, zeros where there are none. -/
def pv (l : List UInt8) (i : Nat) : Nat → Nat
  | 0 => 0
  | j + 1 => pv l i j * 256 + (l.getD (i + j) 0).toNat
theorem pv_lt (l : List UInt8) (i j : Nat) : pv l i j < 256 ^ j := by
  induction j with
  | zero => simp [pv]
  | succ j ih =>
    have := (l.getD (i + j) 0).toNat_lt
    simp only [pv, Nat.pow_succ]
    omega
/-- The j-th sign of a group. -/
def ch (n m j : Nat) : UInt8 := if m < j then 61 else sg (n / 2 ^ (18 - 6 * j) % 64)
def grp (n m : Nat) : List UInt8 := [ch n m 0, ch n m 1, ch n m 2, ch n m 3]
/-- The signs of the first q groups. -/
def b64G (l : List UInt8) (q : Nat) : List UInt8 := (List.range q).flatMap fun g => grp (pv l (3 * g) 3) (min 3 (l.length - 3 * g))
theorem b64G_succ (l : List UInt8) (q : Nat) : b64G l (q + 1) = b64G l q ++ grp (pv l (3 * q) 3) (min 3 (l.length - 3 * q)) := by
  unfold b64G
  rw [List.range_succ, List.flatMap_append]
  simp
theorem b64G_len (l : List UInt8) (q : Nat) : (b64G l q).length = 4 * q := by
  induction q with
  | zero => rfl
  | succ q ih => rw [b64G_succ, List.length_append, ih]; simp [grp]; omega
def b64L (l : List UInt8) : List UInt8 := b64G l ((l.length + 2) / 3)

theorem idx_sg (n : Nat) (hn : n < 64) (z : Int) (hz : z = (n : Int)) (k : IntKind) (w : World) : (Instr.index 9 (.string ⟨sgL.toArray⟩) (.int k z)).run Tryz.prog w = .ok (.int .u8 ((sg n).toNat : Int)) w := by
  subst hz
  have hs : (⟨sgL.toArray⟩ : ByteArray).size = 64 := rfl
  rw [run_index_string (P := Tryz.prog) w 9 ⟨sgL.toArray⟩ k (n : Int) Tryz.underlying9, dif_pos ⟨by omega, by rw [hs]; omega⟩]
  congr 3
  have hl : sgL.length = 64 := rfl
  have : sg n = sgL[n]'(by omega) := by
    have hn' : n < sgL.length := by omega
    unfold sg; simp only [List.getD, List.getElem?_eq_getElem hn', Option.getD_some]
  rw [this]
  rfl
theorem i64_and63 (x : Int) (h0 : 0 ≤ x) (h1 : x < 4294967296) : bits .and .i64 x 63 = x % 64 := bits_mask .i64 32 (by decide) (fun n h0 h1 => IntWalk.i64_in n (by omega)) 6 (by decide) x h0 h1
theorem byteAt (s : ByteArray) (k : Nat) (h : k < s.size) : s.data.toList.getD k 0 = s[k] := by
  simp [List.getD, h]; rfl

set_option maxRecDepth 100000 in
set_option maxHeartbeats 2000000 in
theorem specPutBase64_any (s : ByteArray) (w : World) (hs : s.size ≤ 1048576) :
    Calls Tryz.prog 192 #[.string s] w fun e w' => e = .returned (.string ⟨(b64L s.data.toList).toArray⟩) ∧ Below w.heap.size w w' := by
  go_enter Tryz.func192, Tryz.ntmps192
  go_wp2
  go_loopw [3, 5] (fun v i wr => ∃ q I : Nat, I = 3 * q ∧ q ≤ (s.size + 2) / 3 ∧ i = .int .i64 (I : Int) ∧ Buf wr w.heap.size v (b64G s.data.toList q) ∧ Below w.heap.size w wr) (fun _ i _ => s.size + 2 - (intOf i).toNat)
  case atStart => exact ⟨0, 0, rfl, Nat.zero_le _, rfl, Buf.empty w _ (Nat.le_refl _), (Below.refl _ _).alloc (Nat.le_refl _) _⟩
  case round =>
    obtain ⟨q, I, hIq, hq, rfl, hown, hb⟩ := hrel
    have HQ := Lib.hid hIq
    have HQ2 := Lib.hid hq
    have hI0 : I ≤ 1048600 := by omega
    by_cases hlt : I < s.size
    · clear hIq hq
      have k1 : (I : Int) < (s.size : Int) := by omega
      go_wp2_with fail
      go_loop [6, 7, 8] (fun n m k => ∃ j K : Nat, j ≤ 3 ∧ K = I + j ∧ k = .int .i64 (K : Int) ∧ n = .int .i64 ((pv s.data.toList I j : Nat) : Int) ∧ m = .int .i64 ((min j (s.size - I) : Nat) : Int)) (fun _ _ k => s.size + 3 - (intOf k).toNat)
      case atStart => exact ⟨0, I, Nat.zero_le _, rfl, rfl, rfl, rfl⟩
      case round =>
        obtain ⟨j, K, hj, hKj, rfl, rfl, rfl⟩ := hrel
        have hp := pv_lt s.data.toList I j
        by_cases hj3 : j < 3
        · have hpj : pv s.data.toList I j < 65536 := Nat.lt_of_lt_of_le hp (by
            have : (256 : Nat) ^ j ≤ 256 ^ 2 := Nat.pow_le_pow_right (by omega) (by omega)
            simpa using this)
          clear hp
          have c1 : (K : Int) < (I : Int) + 3 := by omega
          by_cases hk : K < s.size
          · have c2 : (K : Int) < (s.size : Int) := by omega
            have c0 : (0 : Int) ≤ (K : Int) := by omega
            have HV : Hid (pv s.data.toList I (j + 1) = pv s.data.toList I j * 256 + s[K].toNat) := Lib.hid (by rw [pv, ← hKj, byteAt s _ hk])
            have hbt := s[K].toNat_lt
            have HM : Hid (min (j + 1) (s.size - I) = j + 1) := Lib.hid (by omega)
            have HK := Lib.hid hKj
            rw [show min j (s.size - I) = j by omega]
            clear hKj
            go_wp2_with fail
            go_round
            case rel => exact ⟨j + 1, K + 1, by omega, by rw [HK.out]; omega, by go_num, by rw [HV.out]; go_num, by rw [HM.out]; go_num⟩
            case measure => simp [intOf]; omega
          · have c2 : ¬ (K : Int) < (s.size : Int) := by omega
            have HV : Hid (pv s.data.toList I (j + 1) = pv s.data.toList I j * 256) := Lib.hid (by
              have : s.data.toList[I + j]? = none := List.getElem?_eq_none (by simp; omega)
              rw [pv, List.getD, this]; rfl)
            have HM : Hid (min (j + 1) (s.size - I) = min j (s.size - I)) := Lib.hid (by omega)
            have HK := Lib.hid hKj
            have hKI : K ≤ I + 3 := by omega
            clear hKj
            go_wp2_with fail
            go_round
            case rel => exact ⟨j + 1, K + 1, by omega, by rw [HK.out]; omega, by go_num, by rw [HV.out]; go_num, by rw [HM.out]⟩
            case measure => simp [intOf]; omega
        · obtain rfl : j = 3 := by omega
          clear hp hj hj3
          have c1 : ¬ (K : Int) < (I : Int) + 3 := by omega
          have hN := pv_lt s.data.toList I 3
          have HNX : Hid (b64G s.data.toList (q + 1) = b64G s.data.toList q ++ grp (pv s.data.toList I 3) (min 3 (s.size - I))) := Lib.hid (by
            have hlen : s.data.toList.length = s.size := by simp
            rw [b64G_succ, hlen, HQ.out])
          have HLN := Lib.hid (b64G_len s.data.toList q)
          obtain ⟨N, hNE⟩ : ∃ N, N = pv s.data.toList I 3 := ⟨_, rfl⟩
          obtain ⟨M, hME⟩ : ∃ M, M = min 3 (s.size - I) := ⟨_, rfl⟩
          rw [← hNE] at hN HNX ⊢
          rw [← hME] at HNX ⊢
          have hM3 : M ≤ 3 := by omega
          have hM1 : 1 ≤ M := by omega
          have hN3 : N < 16777216 := hN
          clear hNE hME hN hKj
          go_wp2_with fail
          go_loopw [3, 9] (fun v k wr => ∃ j : Nat, j ≤ 4 ∧ k = .int .i64 j ∧ Buf wr w.heap.size v (b64G s.data.toList q ++ (grp N M).take j) ∧ Below w.heap.size w wr) (fun _ k _ => 4 - (intOf k).toNat)
          case atStart => exact ⟨0, Nat.zero_le _, rfl, by simpa using hown, hb⟩
          case round =>
            obtain ⟨j, hj, rfl, hown2, hb2⟩ := hrel
            by_cases hj4 : j < 4
            · have HT : Hid ((grp N M).take (j + 1) = (grp N M).take j ++ [ch N M j]) := Lib.hid (by
                obtain rfl | rfl | rfl | rfl : j = 0 ∨ j = 1 ∨ j = 2 ∨ j = 3 := by omega
                all_goals rfl)
              have HLL : Hid ((b64G s.data.toList q ++ (grp N M).take j).length + 1 ≤ 16777216) := Lib.hid (by
                have h1 := HLN.out
                have h2 := HQ2.out
                have h3 : ((grp N M).take j).length ≤ 4 := by simp [grp]; omega
                rw [List.length_append]; omega)
              have HBS : Hid (w.heap.size ≤ wr.heap.size) := Lib.hid hb2.size
              clear hown hb
              by_cases hjm : M < j
              · have d1 : (M : Int) < (j : Int) := by omega
                have HC : Hid (ch N M j = 61) := Lib.hid (by unfold ch; rw [if_pos hjm])
                go_wp2_with (at_builtin; refine wpList_append_buf rfl _ _ rfl w.heap.size _ _ rfl (hown2.alloc _) [61] wr.heap.size _ _ _ _ _ rfl rfl (heap_alloc_new wr _) rfl (by simp) HLL.out (by simp; exact Nat.le_succ_of_le HBS.out) ?_; intro v' w3 hown3 hb3)
                have HB : Below w.heap.size w w3 := hb2.trans (((Below.refl w.heap.size wr).alloc HBS.out _).trans hb3)
                rw [← HC.out, List.append_assoc, ← HT.out] at hown3
                go_wp2_with fail
                go_roundw
                case rel => exact ⟨j + 1, by omega, by go_num, hown3, HB⟩
                case measure => simp [intOf]; omega
              · have d1 : ¬ (M : Int) < (j : Int) := by omega
                obtain rfl | rfl | rfl | rfl : j = 0 ∨ j = 1 ∨ j = 2 ∨ j = 3 := by omega
                · have a1 : bits .and .i64 ((N : Int) / 262144) 63 = (N : Int) / 262144 % 64 := i64_and63 _ (by omega) (by omega)
                  have x1 := idx_sg (N / 262144 % 64) (by omega) ((N : Int) / 262144 % 64) (by omega) .i64
                  unfold sgL at x1
                  have HC : Hid (ch N M 0 = sg (N / 262144 % 64)) := Lib.hid (by unfold ch; rw [if_neg hjm])
                  go_wp2_with (at_builtin; refine wpList_append_buf rfl _ _ rfl w.heap.size _ _ rfl (hown2.alloc _) [sg (N / 262144 % 64)] wr.heap.size _ _ _ _ _ rfl rfl (heap_alloc_new wr _) rfl (by simp) HLL.out (by simp; exact Nat.le_succ_of_le HBS.out) ?_; intro v' w3 hown3 hb3)
                  have HB : Below w.heap.size w w3 := hb2.trans (((Below.refl w.heap.size wr).alloc HBS.out _).trans hb3)
                  rw [← HC.out, List.append_assoc, ← HT.out] at hown3
                  go_wp2_with fail
                  go_roundw
                  case rel => exact ⟨1, by omega, by go_num, hown3, HB⟩
                  case measure => simp [intOf]
                · have a1 : bits .and .i64 ((N : Int) / 4096) 63 = (N : Int) / 4096 % 64 := i64_and63 _ (by omega) (by omega)
                  have x1 := idx_sg (N / 4096 % 64) (by omega) ((N : Int) / 4096 % 64) (by omega) .i64
                  unfold sgL at x1
                  have HC : Hid (ch N M 1 = sg (N / 4096 % 64)) := Lib.hid (by unfold ch; rw [if_neg hjm])
                  go_wp2_with (at_builtin; refine wpList_append_buf rfl _ _ rfl w.heap.size _ _ rfl (hown2.alloc _) [sg (N / 4096 % 64)] wr.heap.size _ _ _ _ _ rfl rfl (heap_alloc_new wr _) rfl (by simp) HLL.out (by simp; exact Nat.le_succ_of_le HBS.out) ?_; intro v' w3 hown3 hb3)
                  have HB : Below w.heap.size w w3 := hb2.trans (((Below.refl w.heap.size wr).alloc HBS.out _).trans hb3)
                  rw [← HC.out, List.append_assoc, ← HT.out] at hown3
                  go_wp2_with fail
                  go_roundw
                  case rel => exact ⟨2, by omega, by go_num, hown3, HB⟩
                  case measure => simp [intOf]
                · have a1 : bits .and .i64 ((N : Int) / 64) 63 = (N : Int) / 64 % 64 := i64_and63 _ (by omega) (by omega)
                  have x1 := idx_sg (N / 64 % 64) (by omega) ((N : Int) / 64 % 64) (by omega) .i64
                  unfold sgL at x1
                  have HC : Hid (ch N M 2 = sg (N / 64 % 64)) := Lib.hid (by unfold ch; rw [if_neg hjm])
                  go_wp2_with (at_builtin; refine wpList_append_buf rfl _ _ rfl w.heap.size _ _ rfl (hown2.alloc _) [sg (N / 64 % 64)] wr.heap.size _ _ _ _ _ rfl rfl (heap_alloc_new wr _) rfl (by simp) HLL.out (by simp; exact Nat.le_succ_of_le HBS.out) ?_; intro v' w3 hown3 hb3)
                  have HB : Below w.heap.size w w3 := hb2.trans (((Below.refl w.heap.size wr).alloc HBS.out _).trans hb3)
                  rw [← HC.out, List.append_assoc, ← HT.out] at hown3
                  go_wp2_with fail
                  go_roundw
                  case rel => exact ⟨3, by omega, by go_num, hown3, HB⟩
                  case measure => simp [intOf]
                · have a1 : bits .and .i64 ((N : Int)) 63 = (N : Int) % 64 := i64_and63 _ (by omega) (by omega)
                  have x1 := idx_sg (N % 64) (by omega) ((N : Int) % 64) (by omega) .i64
                  unfold sgL at x1
                  have HC : Hid (ch N M 3 = sg (N % 64)) := Lib.hid (by unfold ch; rw [if_neg hjm]; simp)
                  go_wp2_with (at_builtin; refine wpList_append_buf rfl _ _ rfl w.heap.size _ _ rfl (hown2.alloc _) [sg (N % 64)] wr.heap.size _ _ _ _ _ rfl rfl (heap_alloc_new wr _) rfl (by simp) HLL.out (by simp; exact Nat.le_succ_of_le HBS.out) ?_; intro v' w3 hown3 hb3)
                  have HB : Below w.heap.size w w3 := hb2.trans (((Below.refl w.heap.size wr).alloc HBS.out _).trans hb3)
                  rw [← HC.out, List.append_assoc, ← HT.out] at hown3
                  go_wp2_with fail
                  go_roundw
                  case rel => exact ⟨4, by omega, by go_num, hown3, HB⟩
                  case measure => simp [intOf]
            · obtain rfl : j = 4 := by omega
              rw [show (grp N M).take 4 = grp N M from rfl, ← HNX.out] at hown2
              clear hown hb
              go_wp2_with fail
              go_roundw
              case rel => exact ⟨_, _, _, _, _, _, _, _, _, _, _, _, _, _, _, _, _, _, _, _, _, _, _, _, _, _, _, _, _, _, _, _, _, _, _, _, _, _, _, _, _, _, _, _, _, _, _, _, _, _, _, _, _, _, ⟨q + 1, I + 3, by rw [HQ.out]; omega, by have := HQ.out; omega, by go_num, hown2, hb2⟩, rfl⟩
              case measure => simp [intOf]; omega
    · have c1 : ¬ (I : Int) < (s.size : Int) := by omega
      have hcv := hown.conv
      have hqe : q = (s.size + 2) / 3 := by omega
      have e : s.data.toList.length = s.size := by simp
      have HE : Hid (b64G s.data.toList q = b64L s.data.toList) := Lib.hid (by rw [b64L, e, hqe])
      clear hqe e hIq hq
      go_wp2_with fail
      go_ret
      rw [← HE.out]
      exact ⟨rfl, hb⟩
end Go.Proofs.YtnodhkjgnegkcaaGreatDoor

/-
  The integrity text of sums in plain words.
-/
namespace Go.Proofs.YtnodhkjgnegkcaaGreatDoor
open Go.RowKit

def wordB (b : Bd) : List UInt8 := b.1 ++ 45 :: b64L b.2
def wordsB (bs : List Bd) : List (List UInt8) := (bs.filter fun b => algOk b.1).map wordB
def intT (bs : List Bd) : List UInt8 := Lib.join (wordsB bs) [32]
theorem wordsB_skip {bs : List Bd} {k : Nat} (h : k < bs.length) (ha : algOk bs[k].1 = false) : wordsB (bs.take (k + 1)) = wordsB (bs.take k) := by
  unfold wordsB; rw [List.take_succ_eq_append_getElem h, List.filter_append]; simp [ha]
theorem wordsB_more {bs : List Bd} {k : Nat} (h : k < bs.length) (ha : algOk bs[k].1 = true) : wordsB (bs.take (k + 1)) = wordsB (bs.take k) ++ [wordB bs[k]] := by
  unfold wordsB; rw [List.take_succ_eq_append_getElem h, List.filter_append]; simp [ha]
theorem join_one (x sep : List UInt8) : Lib.join [x] sep = x := by simp [Lib.join, List.intercalate]
theorem join_cons (x y sep : List UInt8) (l : List (List UInt8)) : Lib.join (x :: y :: l) sep = x ++ sep ++ Lib.join (y :: l) sep := by
  unfold Lib.join; simp [List.intercalate]
theorem join_snoc (sep z : List UInt8) : ∀ l : List (List UInt8), l ≠ [] → Lib.join (l ++ [z]) sep = Lib.join l sep ++ sep ++ z
  | [], h => absurd rfl h
  | [x], _ => by rw [List.cons_append, List.nil_append, join_cons, join_one, join_one]
  | x :: y :: l, _ => by
    have ih := join_snoc sep z (y :: l) (by simp)
    rw [List.cons_append, List.cons_append, join_cons, join_cons, ← List.cons_append, ih]
    simp
theorem wordB_ne (b : Bd) : wordB b ≠ [] := by unfold wordB; simp
theorem join_ne {l : List (List UInt8)} (sep : List UInt8) (h : ∀ x ∈ l, x ≠ []) : Lib.join l sep = [] ↔ l = [] := by
  cases l with
  | nil => simp [Lib.join, List.intercalate]
  | cons x l =>
    have hx := h x (by simp)
    cases l with
    | nil => rw [join_one]; simp [hx]
    | cons y l => rw [join_cons]; simp [hx]
theorem wordsB_ne (bs : List Bd) : ∀ x ∈ wordsB bs, x ≠ [] := by
  intro x hx
  unfold wordsB at hx
  obtain ⟨b, _, rfl⟩ := List.mem_map.1 hx
  exact wordB_ne b
theorem b64L_le (l : List UInt8) : (b64L l).length ≤ 2 * l.length + 4 := by unfold b64L; rw [b64G_len]; omega
theorem wordB_len (b : Bd) : (wordB b).length ≤ 2 * (b.1.length + b.2.length) + 5 := by
  have := b64L_le b.2
  unfold wordB; simp; omega
theorem join_len6 : ∀ l : List Bd, (Lib.join (l.map wordB) [32]).length ≤ 2 * smB l + 6 * l.length
  | [] => by simp [Lib.join, List.intercalate]
  | [b] => by
    have := wordB_len b
    have e : smB [b] = b.1.length + b.2.length := by unfold smB; simp
    rw [List.map_cons, List.map_nil, join_one, e]; simp; omega
  | b :: c :: l => by
    have ih := join_len6 (c :: l)
    have := wordB_len b
    have e : smB (b :: c :: l) = b.1.length + b.2.length + smB (c :: l) := by unfold smB; simp
    rw [List.map_cons, List.map_cons, join_cons, e, ← List.map_cons]
    simp at ih ⊢
    omega
theorem smB_filter (p : Bd → Bool) : ∀ l : List Bd, smB (l.filter p) ≤ smB l
  | [] => by simp
  | b :: l => by
    have ih := smB_filter p l
    have e : smB (b :: l) = b.1.length + b.2.length + smB l := by unfold smB; simp
    rw [List.filter_cons]
    split
    · have e2 : smB (b :: l.filter p) = b.1.length + b.2.length + smB (l.filter p) := by unfold smB; simp
      omega
    · omega
theorem intT_len (bs : List Bd) : (intT bs).length ≤ 2 * smB bs + 6 * bs.length := by
  have h := join_len6 (bs.filter fun b => algOk b.1)
  have h1 := smB_filter (fun b => algOk b.1) bs
  have h2 := List.length_filter_le (fun b : Bd => algOk b.1) bs
  show (Lib.join ((bs.filter fun b => algOk b.1).map wordB) [32]).length ≤ _
  omega
theorem intT_take {bs : List Bd} (h : SmB bs) (k : Nat) : (intT (bs.take k)).length ≤ 8388608 := by
  have h1 := intT_len (bs.take k)
  have h2 := smB_le bs k
  have h3 := List.length_take_le k bs
  have h4 : (bs.take k).length ≤ bs.length := by simp; omega
  unfold SmB at h
  omega
/-- The text so far, one more sum behind it. -/
theorem intT_first {bs : List Bd} {k : Nat} (h : k < bs.length) (ha : algOk bs[k].1 = true) (h0 : intT (bs.take k) = []) : intT (bs.take (k + 1)) = wordB bs[k] := by
  have := (join_ne [32] (wordsB_ne (bs.take k))).1 h0
  unfold intT; rw [wordsB_more h ha, this, List.nil_append, join_one]
theorem intT_next {bs : List Bd} {k : Nat} (h : k < bs.length) (ha : algOk bs[k].1 = true) (h0 : ¬ intT (bs.take k) = []) : intT (bs.take (k + 1)) = intT (bs.take k) ++ [32] ++ wordB bs[k] := by
  have : wordsB (bs.take k) ≠ [] := fun e => h0 ((join_ne [32] (wordsB_ne (bs.take k))).2 e)
  unfold intT; rw [wordsB_more h ha, join_snoc _ _ _ this]
theorem intT_skip {bs : List Bd} {k : Nat} (h : k < bs.length) (ha : algOk bs[k].1 = false) : intT (bs.take (k + 1)) = intT (bs.take k) := by unfold intT; rw [wordsB_skip h ha]
theorem intT_all (bs : List Bd) {k : Nat} (h : ¬ k < bs.length) : intT (bs.take k) = intT bs := by rw [List.take_of_length_le (by omega)]
/-- What spec's two tests say of an Alg. -/
theorem alg_ways (a : List UInt8) : (a = h1L ∧ algOk a = false) ∨ (¬ a = h1L ∧ longI a < 0 ∧ algOk a = false) ∨ (¬ a = h1L ∧ 0 ≤ longI a ∧ algOk a = true) := by
  by_cases h0 : a = h1L
  · subst h0; left; exact ⟨rfl, by decide⟩
  · by_cases h1 : a = sha1L
    · subst h1; right; right; exact ⟨by decide, by decide, by decide⟩
    · by_cases h2 : a = sha256L
      · subst h2; right; right; exact ⟨by decide, by decide, by decide⟩
      · by_cases h3 : a = sha512L
        · subst h3; right; right; exact ⟨by decide, by decide, by decide⟩
        · right; left
          refine ⟨h0, ?_, ?_⟩
          · unfold longI; rw [if_neg h1, if_neg h2, if_neg h0, if_neg h3]; omega
          · unfold algOk; simp [h1, h2, h3]
end Go.Proofs.YtnodhkjgnegkcaaGreatDoor

/-
  Texts cut at a mark and joined again, in plain words.
-/
namespace Go.Proofs.YtnodhkjgnegkcaaGreatDoor

/-- No m in l. -/
def noM (m : UInt8) (l : List UInt8) : Prop := ∀ c ∈ l, ¬ c = m
theorem noM_nil (m : UInt8) : noM m [] := fun c h => by cases h
theorem noM_app {m : UInt8} {a b : List UInt8} (h : noM m a) (k : noM m b) : noM m (a ++ b) := fun c hc => by
  rcases List.mem_append.1 hc with h1 | h1
  · exact h c h1
  · exact k c h1
theorem noM_tail {m c : UInt8} {l : List UInt8} (h : noM m (c :: l)) : noM m l := fun x hx => h x (by simp [hx])
theorem cutA_noM {m : UInt8} : ∀ {l : List UInt8} (r : List UInt8), noM m l → cutA m (l ++ m :: r) = l
  | [], r, _ => cutA_hit m r
  | c :: l, r, h => by rw [List.cons_append, cutA_miss _ (h c (by simp)), cutA_noM r (noM_tail h)]
theorem cutB_noM {m : UInt8} : ∀ {l : List UInt8} (r : List UInt8), noM m l → cutB m (l ++ m :: r) = r
  | [], r, _ => cutB_hit m r
  | c :: l, r, h => by rw [List.cons_append, cutB_miss _ (h c (by simp)), cutB_noM r (noM_tail h)]
theorem cutL_noM {m : UInt8} : ∀ {l : List UInt8}, noM m l → cutL m l = [l]
  | [], _ => rfl
  | c :: l, h => by unfold cutL; rw [if_neg (h c (by simp)), cutL_noM (noM_tail h)]; rfl
theorem cutL_head {m : UInt8} : ∀ {l : List UInt8} (r : List UInt8), noM m l → cutL m (l ++ m :: r) = l :: cutL m r
  | [], r, _ => by rw [List.nil_append]; conv => lhs; unfold cutL
                   rw [if_pos rfl]
  | c :: l, r, h => by
    rw [List.cons_append]
    conv => lhs; unfold cutL
    rw [if_neg (h c (by simp)), cutL_head r (noM_tail h)]
    rfl
theorem cutL_join {m : UInt8} : ∀ (ls : List (List UInt8)), ls ≠ [] → (∀ l ∈ ls, noM m l) → cutL m (Lib.join ls [m]) = ls
  | [], h, _ => absurd rfl h
  | [x], _, h => by rw [join_one, cutL_noM (h x (by simp))]
  | x :: y :: l, _, h => by
    rw [join_cons, List.append_assoc, List.cons_append, List.nil_append, cutL_head _ (h x (by simp)), cutL_join (y :: l) (by simp) (fun z hz => h z (by simp [hz]))]
theorem join_attach (m : UInt8) (p : List UInt8) {X : List (List UInt8)} (h : X ≠ []) : Lib.join (attach p X) [m] = p ++ Lib.join X [m] := by
  cases X with
  | nil => exact absurd rfl h
  | cons x X =>
    cases X with
    | nil => simp [attach, join_one]
    | cons y X => simp [attach, join_cons]
theorem join_cutL (m : UInt8) : ∀ l : List UInt8, Lib.join (cutL m l) [m] = l
  | [] => by simp [cutL, join_one]
  | c :: l => by
    have ih := join_cutL m l
    have hne := cutL_ne m l
    unfold cutL
    split
    · rename_i h
      subst h
      cases hx : cutL c l with
      | nil => exact absurd hx hne
      | cons y ys => rw [hx] at ih; rw [join_cons, ih]; simp
    · rw [join_attach m [c] hne, ih]; rfl
end Go.Proofs.YtnodhkjgnegkcaaGreatDoor

/-
  strings.IndexByte returns the first place of a byte in a string, or -1.
-/
namespace Go.Proofs.YtnodhkjgnegkcaaGreatDoor
open Go.RowKit

theorem indexByte_any (s : ByteArray) (c : UInt8) (w : World) :
    Calls Tryz.prog 233 #[.string s, .int .u8 (c.toNat : Int)] w fun e w' => e = .returned (.int .i64 (Lib.indexByte s.data.toList c)) ∧ w = w' := by
  go_enter Tryz.func233, Tryz.ntmps233
  go_wp2_with fail
  refine (sliteIndexByte_any s (c.toNat : Int) _).mono ?_
  rintro e w' ⟨rfl, rfl⟩
  have hc : ((c.toNat : Int).toNat.toUInt8) = c := by simp
  rw [hc]
  go_wp2
  go_ret
  exact ⟨rfl, rfl⟩
end Go.Proofs.YtnodhkjgnegkcaaGreatDoor

/-
  spec.GetBase64 decodes the signs at a text's head and compares.
-/
namespace Go.Proofs.YtnodhkjgnegkcaaGreatDoor
open Go.RowKit

/-- The place of a sign. -/
def ix (c : UInt8) : Int := Lib.indexByte sgL c
theorem ix_ge (c : UInt8) : -1 ≤ ix c := idx_ge _ _
theorem ix_lt (c : UInt8) : ix c < 64 := idx_lt sgL c
/-- The number after k signs, its last 24 bits. -/
def dN (l : List UInt8) : Nat → Nat
  | 0 => 0
  | k + 1 => dN l k * 64 % 16777216 + (ix (l.getD k 0)).toNat
theorem dN_lt (l : List UInt8) (k : Nat) : dN l k < 16777216 := by
  cases k with
  | zero => simp [dN]
  | succ k =>
    have := ix_lt (l.getD k 0)
    simp only [dN]
    omega
/-- How far the number is shifted for the byte that the k-th sign ends. -/
def sh (k : Nat) : Nat := 2 * (3 - k % 4)
/-- The bytes after k signs. -/
def dO (l : List UInt8) : Nat → List UInt8
  | 0 => []
  | k + 1 => dO l k ++ if k % 4 = 0 then [] else [UInt8.ofNat (dN l (k + 1) / 2 ^ sh k % 256)]
theorem dO_len (l : List UInt8) (k : Nat) : (dO l k).length ≤ k := by
  induction k with
  | zero => simp [dO]
  | succ k ih =>
    simp only [dO, List.length_append]
    split
    · simp; omega
    · simp; omega
/-- How many signs stand at a text's head. -/
def signs (l : List UInt8) : Nat := (l.takeWhile fun c => decide (0 ≤ ix c)).length
def decB (l : List UInt8) (k : Nat) : List UInt8 := dO l k
/-- What GetBase64 returns. -/
def getB (l : List UInt8) : List UInt8 × Bool := if b64L (dO l (signs l)) = l then (dO l (signs l), true) else ([], false)

theorem i64_and24 (x : Int) (h0 : 0 ≤ x) (h1 : x < 4294967296) : bits .and .i64 x 16777215 = x % 16777216 := bits_mask .i64 32 (by decide) (fun n h0 h1 => IntWalk.i64_in n (by omega)) 24 (by decide) x h0 h1
theorem signs_at {l : List UInt8} {k : Nat} (h : ∀ j, j < k → 0 ≤ ix (l.getD j 0)) (hk : k ≤ l.length) (he : ∀ c, l[k]? = some c → ix c < 0) : signs l = k := by
  induction l generalizing k with
  | nil => simp at hk; subst hk; rfl
  | cons a l ih =>
    unfold signs
    cases k with
    | zero =>
      have := he a rfl
      rw [List.takeWhile_cons, if_neg (by simpa using this)]; rfl
    | succ k =>
      have h0 := h 0 (by omega)
      rw [List.takeWhile_cons, if_pos (by simpa using h0)]
      have := ih (k := k) (fun j hj => by have := h (j + 1) (by omega); simpa using this) (by simpa using hk) (fun c hc => he c (by simpa using hc))
      simpa [signs] using this

theorem l01Signs_any (w : World) : Calls Tryz.prog 191 #[] w fun e w' => e = .returned (.string ⟨#[65, 66, 67, 68, 69, 70, 71, 72, 73, 74, 75, 76, 77, 78, 79, 80, 81, 82, 83, 84, 85, 86, 87, 88, 89, 90, 97, 98, 99, 100, 101, 102, 103, 104, 105, 106, 107, 108, 109, 110, 111, 112, 113, 114, 115, 116, 117, 118, 119, 120, 121, 122, 48, 49, 50, 51, 52, 53, 54, 55, 56, 57, 43, 47]⟩) ∧ w' = w := by
  go_enter Tryz.func191, Tryz.ntmps191
  go_wp2
  go_ret
  exact ⟨rfl, rfl⟩

theorem below_dr (n : Nat) (W : World) (k : Nat) : Below n W (W.drewN k) := ⟨rfl, rfl, rfl, Nat.le_refl _, fun _ _ => rfl⟩
theorem Buf.grown_dr {w : World} {base : Nat} {v : Value} {l : List UInt8} (h : Buf w base v l) (k : Nat) : Buf (w.drewN k) base v l :=
  World.ownsRow.kept h (row := none) ⟨rfl, rfl, rfl, Nat.le_refl _, fun _ _ _ => rfl⟩ (by
    rcases h.form with ⟨rfl, _⟩ | ⟨g, cap, rfl, _, _⟩
    · left; rfl
    · right; simp [Value.ownBlock])

set_option maxRecDepth 100000 in
set_option maxHeartbeats 8000000 in
theorem specGetBase64_any (s : ByteArray) (w : World) (hs : s.size ≤ 1048576) :
    Calls Tryz.prog 145 #[.string s] w fun e w' => e = .returned (.tuple #[.string ⟨(getB s.data.toList).1.toArray⟩, .bool (getB s.data.toList).2]) ∧ Below w.heap.size w w' := by
  go_enter Tryz.func145, Tryz.ntmps145
  go_wp2
  go_loopw [4, 5, 6, 7] (fun v n m i wr => ∃ k : Nat, k ≤ s.size ∧ i = .int .i64 (k : Int) ∧ m = .int .i64 (k : Int) ∧ n = .int .i64 ((dN s.data.toList k : Nat) : Int) ∧ Buf wr w.heap.size v (dO s.data.toList k) ∧ Below w.heap.size w wr ∧ (∀ j, j < k → 0 ≤ ix (s.data.toList.getD j 0))) (fun _ _ _ i _ => s.size - (intOf i).toNat)
  case atStart => exact ⟨0, Nat.zero_le _, rfl, rfl, rfl, Buf.empty w _ (Nat.le_refl _), (Below.refl _ _).alloc (Nat.le_refl _) _, fun j hj => by omega⟩
  case round =>
    obtain ⟨k, hk, rfl, rfl, rfl, hown, hb, hsg⟩ := hrel
    have HSG := Lib.hid hsg
    clear hsg
    by_cases hlt : k < s.size
    · have k0 : (0 : Int) ≤ (k : Int) := by omega
      have k1 : (k : Int) < (s.size : Int) := by omega
      have HQ : Hid (∀ W, Calls Tryz.prog 140 #[.string ⟨#[65, 66, 67, 68, 69, 70, 71, 72, 73, 74, 75, 76, 77, 78, 79, 80, 81, 82, 83, 84, 85, 86, 87, 88, 89, 90, 97, 98, 99, 100, 101, 102, 103, 104, 105, 106, 107, 108, 109, 110, 111, 112, 113, 114, 115, 116, 117, 118, 119, 120, 121, 122, 48, 49, 50, 51, 52, 53, 54, 55, 56, 57, 43, 47]⟩, .int .u8 (s[k].toNat : Int)] W fun e w' => e = .returned (.int .i64 (ix s[k])) ∧ w' = W) := Lib.hid (fun W => (l01At_any ⟨sgL.toArray⟩ s[k] W (by unfold maxLen; decide)).mono fun e w' h => ⟨h.1, h.2.symm⟩)
      go_wp2_with fail
      go_quiet ((first | (go_at_call 140; exact Calls.quiet_of_same (HQ.out _)) | (go_at_call 191; exact Calls.quiet_of_same (l01Signs_any _))))
      have hownq : Buf (wr.drewN nq) w.heap.size u4 (dO s.data.toList k) := hown.grown_dr nq
      have hbq : Below w.heap.size w (wr.drewN nq) := hb.trans (below_dr _ wr nq)
      generalize wr.drewN nq = wq at hownq hbq ⊢
      obtain ⟨v, hv⟩ : ∃ v, v = ix s[k] := ⟨_, rfl⟩
      have hv1 := ix_ge s[k]
      have hv2 := ix_lt s[k]
      rw [← hv] at hv1 hv2 ⊢
      by_cases hneg : v < 0
      · have hcv := hownq.conv
        have HSN : Hid (signs s.data.toList = k) := Lib.hid (signs_at HSG.out (by simp; omega) (fun c hc => by rw [show s.data.toList[k]? = some s[k] by simp [hlt]; rfl] at hc; cases hc; rw [← hv]; exact hneg))
        have HPB := Lib.hid (specPutBase64_any ⟨(dO s.data.toList k).toArray⟩ wq (by show (dO s.data.toList k).toArray.size ≤ _; have := dO_len s.data.toList k; simp; omega))
        clear hown
        go_wp2_with fail
        refine HPB.out.mono ?_
        rintro e w5 ⟨rfl, hb5⟩
        have HB5 : Below w.heap.size w w5 := hbq.trans (hb5.mono hbq.size)
        by_cases heq : b64L (dO s.data.toList k) = s.data.toList
        · have HG : Hid (getB s.data.toList = (dO s.data.toList k, true)) := Lib.hid (by unfold getB; rw [HSN.out, if_pos heq])
          have hq : (b64L (dO s.data.toList k) == s.toList) = true := by rw [ByteArray.toList_eq]; simpa using heq
          go_wp2_with fail
          rw [HG.out]
          go_ret2
          exact ⟨rfl, HB5⟩
        · have HG : Hid (getB s.data.toList = ([], false)) := Lib.hid (by unfold getB; rw [HSN.out, if_neg heq])
          have hq : (b64L (dO s.data.toList k) == s.toList) = false := by rw [ByteArray.toList_eq]; simpa using heq
          go_wp2_with fail
          rw [HG.out]
          go_ret2
          exact ⟨rfl, HB5⟩
      · obtain ⟨V, rfl⟩ := Int.eq_ofNat_of_zero_le (show (0 : Int) ≤ v by omega)
        have hN := dN_lt s.data.toList k
        have HV : Hid (ix (s.data.toList.getD k 0) = (V : Int)) := Lib.hid (by rw [byteAt s k hlt]; exact hv.symm)
        have HNX : Hid (dN s.data.toList (k + 1) = dN s.data.toList k * 64 % 16777216 + V) := Lib.hid (by rw [dN, HV.out]; simp)
        have HS2 : Hid (∀ j, j < k + 1 → 0 ≤ ix (s.data.toList.getD j 0)) := Lib.hid (fun j hj => by
          by_cases h : j < k
          · exact HSG.out j h
          · obtain rfl : j = k := by omega
            rw [HV.out]; omega)
        have HLN := Lib.hid (dO_len s.data.toList k)
        obtain ⟨N, hNE⟩ : ∃ N, N = dN s.data.toList k := ⟨_, rfl⟩
        rw [← hNE] at hN HNX ⊢
        have a1 : bits .and .i64 ((N : Int) * 64) 16777215 = (N : Int) * 64 % 16777216 := i64_and24 _ (by omega) (by omega)
        clear hv hv1 hNE hown hneg
        have hdn : ¬ (V : Int) < 0 := by omega
        obtain ⟨r, hr⟩ : ∃ r, r = k % 4 := ⟨_, rfl⟩
        obtain rfl | rfl | rfl | rfl : r = 0 ∨ r = 1 ∨ r = 2 ∨ r = 3 := by omega
        · have m1 : ((k : Int) + 1).tmod 4 = 1 := by rw [Int.tmod_eq_emod_of_nonneg (by omega)]; omega
          have m2 : (k : Int).tmod 4 = 0 := by rw [Int.tmod_eq_emod_of_nonneg (by omega)]; omega
          have m3 : ((k : Int) + 1) % 4 = 1 := by omega
          have m4 : (k : Int) % 4 = 0 := by omega
          have HR := Lib.hid hr
          clear hr
          have HO : Hid (dO s.data.toList (k + 1) = dO s.data.toList k) := Lib.hid (by rw [dO, if_pos HR.out.symm]; simp)
          go_wp2_with fail
          go_roundw
          case rel => exact ⟨k + 1, by omega, by go_num, by go_num, by rw [HNX.out]; go_num, by rw [HO.out]; exact hownq, hbq, HS2.out⟩
          case measure => simp [intOf]; omega
        · have m1 : ((k : Int) + 1).tmod 4 = 2 := by rw [Int.tmod_eq_emod_of_nonneg (by omega)]; omega
          have m2 : (k : Int).tmod 4 = 1 := by rw [Int.tmod_eq_emod_of_nonneg (by omega)]; omega
          have m3 : ((k : Int) + 1) % 4 = 2 := by omega
          have m4 : (k : Int) % 4 = 1 := by omega
          have HR := Lib.hid hr
          clear hr
          have HO : Hid (dO s.data.toList (k + 1) = dO s.data.toList k ++ [UInt8.ofNat ((N * 64 % 16777216 + V) / 16 % 256)]) := Lib.hid (by rw [dO, if_neg (by have := HR.out; omega), HNX.out, show sh k = 4 by unfold sh; have := HR.out; omega])
          obtain ⟨B, hBE⟩ : ∃ B : UInt8, B = UInt8.ofNat ((N * 64 % 16777216 + V) / 16 % 256) := ⟨_, rfl⟩
          have cb : ((N : Int) * 64 % 16777216 + (V : Int)) / 16 % 256 = (B.toNat : Int) := by rw [hBE]; simp
          rw [← hBE] at HO
          clear hBE
          have HLL : Hid ((dO s.data.toList k).length + 1 ≤ 16777216) := Lib.hid (by have := HLN.out; omega)
          have HBS : Hid (w.heap.size ≤ wq.heap.size) := Lib.hid hbq.size
          go_wp2_with (at_builtin; refine wpList_append_buf rfl _ _ rfl w.heap.size _ _ rfl (hownq.alloc _) [B] wq.heap.size _ _ _ _ _ rfl rfl (heap_alloc_new wq _) rfl (by simp) HLL.out (by simp; exact Nat.le_succ_of_le HBS.out) ?_; intro v' w3 hown3 hb3)
          have HB : Below w.heap.size w w3 := hbq.trans (((Below.refl w.heap.size wq).alloc HBS.out _).trans hb3)
          go_wp2_with fail
          go_roundw
          case rel => exact ⟨k + 1, by omega, by go_num, by go_num, by rw [HNX.out]; go_num, by rw [HO.out]; exact hown3, HB, HS2.out⟩
          case measure => simp [intOf]; omega
        · have m1 : ((k : Int) + 1).tmod 4 = 3 := by rw [Int.tmod_eq_emod_of_nonneg (by omega)]; omega
          have m2 : (k : Int).tmod 4 = 2 := by rw [Int.tmod_eq_emod_of_nonneg (by omega)]; omega
          have m3 : ((k : Int) + 1) % 4 = 3 := by omega
          have m4 : (k : Int) % 4 = 2 := by omega
          have HR := Lib.hid hr
          clear hr
          have HO : Hid (dO s.data.toList (k + 1) = dO s.data.toList k ++ [UInt8.ofNat ((N * 64 % 16777216 + V) / 4 % 256)]) := Lib.hid (by rw [dO, if_neg (by have := HR.out; omega), HNX.out, show sh k = 2 by unfold sh; have := HR.out; omega])
          obtain ⟨B, hBE⟩ : ∃ B : UInt8, B = UInt8.ofNat ((N * 64 % 16777216 + V) / 4 % 256) := ⟨_, rfl⟩
          have cb : ((N : Int) * 64 % 16777216 + (V : Int)) / 4 % 256 = (B.toNat : Int) := by rw [hBE]; simp
          rw [← hBE] at HO
          clear hBE
          have HLL : Hid ((dO s.data.toList k).length + 1 ≤ 16777216) := Lib.hid (by have := HLN.out; omega)
          have HBS : Hid (w.heap.size ≤ wq.heap.size) := Lib.hid hbq.size
          go_wp2_with (at_builtin; refine wpList_append_buf rfl _ _ rfl w.heap.size _ _ rfl (hownq.alloc _) [B] wq.heap.size _ _ _ _ _ rfl rfl (heap_alloc_new wq _) rfl (by simp) HLL.out (by simp; exact Nat.le_succ_of_le HBS.out) ?_; intro v' w3 hown3 hb3)
          have HB : Below w.heap.size w w3 := hbq.trans (((Below.refl w.heap.size wq).alloc HBS.out _).trans hb3)
          go_wp2_with fail
          go_roundw
          case rel => exact ⟨k + 1, by omega, by go_num, by go_num, by rw [HNX.out]; go_num, by rw [HO.out]; exact hown3, HB, HS2.out⟩
          case measure => simp [intOf]; omega
        · have m1 : ((k : Int) + 1).tmod 4 = 0 := by rw [Int.tmod_eq_emod_of_nonneg (by omega)]; omega
          have m2 : (k : Int).tmod 4 = 3 := by rw [Int.tmod_eq_emod_of_nonneg (by omega)]; omega
          have m3 : ((k : Int) + 1) % 4 = 0 := by omega
          have m4 : (k : Int) % 4 = 3 := by omega
          have HR := Lib.hid hr
          clear hr
          have HO : Hid (dO s.data.toList (k + 1) = dO s.data.toList k ++ [UInt8.ofNat ((N * 64 % 16777216 + V) % 256)]) := Lib.hid (by rw [dO, if_neg (by have := HR.out; omega), HNX.out, show sh k = 0 by unfold sh; have := HR.out; omega]; simp)
          obtain ⟨B, hBE⟩ : ∃ B : UInt8, B = UInt8.ofNat ((N * 64 % 16777216 + V) % 256) := ⟨_, rfl⟩
          have cb : ((N : Int) * 64 % 16777216 + (V : Int)) % 256 = (B.toNat : Int) := by rw [hBE]; simp
          rw [← hBE] at HO
          clear hBE
          have HLL : Hid ((dO s.data.toList k).length + 1 ≤ 16777216) := Lib.hid (by have := HLN.out; omega)
          have HBS : Hid (w.heap.size ≤ wq.heap.size) := Lib.hid hbq.size
          go_wp2_with (at_builtin; refine wpList_append_buf rfl _ _ rfl w.heap.size _ _ rfl (hownq.alloc _) [B] wq.heap.size _ _ _ _ _ rfl rfl (heap_alloc_new wq _) rfl (by simp) HLL.out (by simp; exact Nat.le_succ_of_le HBS.out) ?_; intro v' w3 hown3 hb3)
          have HB : Below w.heap.size w w3 := hbq.trans (((Below.refl w.heap.size wq).alloc HBS.out _).trans hb3)
          go_wp2_with fail
          go_roundw
          case rel => exact ⟨k + 1, by omega, by go_num, by go_num, by rw [HNX.out]; go_num, by rw [HO.out]; exact hown3, HB, HS2.out⟩
          case measure => simp [intOf]; omega
    · have k1 : ¬ (k : Int) < (s.size : Int) := by omega
      have hcv := hown.conv
      have HSN : Hid (signs s.data.toList = k) := Lib.hid (signs_at HSG.out (by simp; omega) (fun c hc => by rw [List.getElem?_eq_none (by simp; omega)] at hc; cases hc))
      have HPB := Lib.hid (specPutBase64_any ⟨(dO s.data.toList k).toArray⟩ wr (by show (dO s.data.toList k).toArray.size ≤ _; have := dO_len s.data.toList k; simp; omega))
      clear hk
      go_wp2_with fail
      refine HPB.out.mono ?_
      rintro e w5 ⟨rfl, hb5⟩
      have HB5 : Below w.heap.size w w5 := hb.trans (hb5.mono hb.size)
      by_cases heq : b64L (dO s.data.toList k) = s.data.toList
      · have HG : Hid (getB s.data.toList = (dO s.data.toList k, true)) := Lib.hid (by unfold getB; rw [HSN.out, if_pos heq])
        have hq : (b64L (dO s.data.toList k) == s.toList) = true := by rw [ByteArray.toList_eq]; simpa using heq
        go_wp2_with fail
        rw [HG.out]
        go_ret2
        exact ⟨rfl, HB5⟩
      · have HG : Hid (getB s.data.toList = ([], false)) := Lib.hid (by unfold getB; rw [HSN.out, if_neg heq])
        have hq : (b64L (dO s.data.toList k) == s.toList) = false := by rw [ByteArray.toList_eq]; simpa using heq
        go_wp2_with fail
        rw [HG.out]
        go_ret2
        exact ⟨rfl, HB5⟩
end Go.Proofs.YtnodhkjgnegkcaaGreatDoor

/-
  The two decoders return the same.
-/
namespace Go.Proofs.YtnodhkjgnegkcaaGreatDoor
open Go.RowKit

theorem dN_pre (d r : List UInt8) (k : Nat) (hk : k ≤ d.length) : dN (d ++ r) k = dN d k := by
  induction k with
  | zero => rfl
  | succ k ih =>
    have : (d ++ r).getD k 0 = d.getD k 0 := by simp only [List.getD]; rw [List.getElem?_append_left (by omega)]
    simp only [dN, ih (by omega), this]
theorem dO_pre (d r : List UInt8) (k : Nat) (hk : k ≤ d.length) : dO (d ++ r) k = dO d k := by
  induction k with
  | zero => rfl
  | succ k ih => simp only [dO, ih (by omega), dN_pre d r (k + 1) hk]

theorem mem_tw {p : UInt8 → Bool} {l : List UInt8} {c : UInt8} (h : c ∈ l.takeWhile p) : p c = true := by
  induction l with
  | nil => simp at h
  | cons a l ih =>
    rw [List.takeWhile_cons] at h
    split at h
    · rename_i ha
      rcases List.mem_cons.1 h with rfl | h
      · exact ha
      · exact ih h
    · simp at h
theorem tw_self {p : UInt8 → Bool} {l : List UInt8} (h : ∀ c ∈ l, p c = true) : l.takeWhile p = l := by
  induction l with
  | nil => rfl
  | cons a l ih => rw [List.takeWhile_cons, if_pos (h a (by simp)), ih (fun c hc => h c (by simp [hc]))]
def AllS (l : List UInt8) : Prop := ∀ c ∈ l, 0 ≤ ix c
theorem ix_pad : ix 61 = -1 := by decide +kernel
theorem ix_sg (n : Nat) (hn : n < 64) : 0 ≤ ix (sg n) := by
  have h : ∀ n : Fin 64, 0 ≤ ix (sg n.1) := by decide +kernel
  exact h ⟨n, hn⟩
theorem signs_all (l : List UInt8) (h : AllS l) : signs l = l.length := by
  unfold signs
  rw [tw_self (fun c hc => by simpa using h c hc)]
theorem all_signs (l : List UInt8) (h : signs l = l.length) : AllS l := by
  intro c hc
  have hp := List.takeWhile_prefix (fun c => decide (0 ≤ ix c)) (l := l)
  have he := hp.eq_of_length h
  rw [← he] at hc
  have := mem_tw hc
  simpa using this
theorem signs_pad (d : List UInt8) (m : Nat) (h : AllS d) : signs (d ++ List.replicate m 61) = d.length := by
  unfold signs
  rw [List.takeWhile_append_of_pos (fun c hc => by simpa using h c hc)]
  cases m with
  | zero => simp
  | succ m => rw [List.replicate_succ, List.takeWhile_cons, if_neg (by rw [ix_pad]; decide)]; simp
/-- A text without its padding, and the padding. -/
theorem trim_split (l : List UInt8) : ∃ m, l = Lib.trimRightB l 61 ++ List.replicate m 61 := by
  refine ⟨(l.reverse.takeWhile (· == 61)).length, ?_⟩
  have h := List.takeWhile_append_dropWhile (p := (· == (61 : UInt8))) (l := l.reverse)
  have hr : l.reverse.takeWhile (· == 61) = List.replicate (l.reverse.takeWhile (· == 61)).length 61 := List.eq_replicate_iff.2 ⟨rfl, fun b hb => by have := mem_tw hb; simpa using this⟩
  have h2 := congrArg List.reverse h
  rw [List.reverse_append, List.reverse_reverse] at h2
  rw [hr, List.reverse_replicate] at h2
  unfold Lib.trimRightB
  simpa using h2.symm
theorem trim_pad (d : List UInt8) (m : Nat) (h : AllS d) : Lib.trimRightB (d ++ List.replicate m 61) 61 = d := by
  unfold Lib.trimRightB
  rw [List.reverse_append, List.reverse_replicate, List.dropWhile_append_of_pos (by intro a ha; simp [List.eq_of_mem_replicate ha])]
  cases hd : d.reverse with
  | nil => have := congrArg List.reverse hd; simp at this; simp [this]
  | cons a t =>
    have hm : a ∈ d := by have : a ∈ d.reverse := by rw [hd]; simp
                          simpa using this
    have h0 := h a hm
    have hne : ¬ (a == 61) = true := by
      intro e
      have : a = 61 := by simpa using e
      rw [this, ix_pad] at h0; omega
    rw [List.dropWhile_cons, if_neg hne, ← hd]; simp
theorem grp_full (n : Nat) : AllS (grp n 3) := by
  intro c hc
  simp only [grp, ch, List.mem_cons, List.mem_nil_iff, or_false] at hc
  rcases hc with rfl | rfl | rfl | rfl
  all_goals (rw [if_neg (by omega)]; exact ix_sg _ (Nat.mod_lt _ (by decide)))
theorem b64G_full (l : List UInt8) (q : Nat) (h : 3 * q ≤ l.length) : AllS (b64G l q) := by
  induction q with
  | zero => intro c hc; simp [b64G] at hc
  | succ q ih =>
    intro c hc
    rw [b64G_succ, List.mem_append] at hc
    rcases hc with hc | hc
    · exact ih (by omega) c hc
    · rw [show min 3 (l.length - 3 * q) = 3 by omega] at hc
      exact grp_full _ c hc
theorem b64L_pad (l : List UInt8) : ∃ d m, b64L l = d ++ List.replicate m 61 ∧ AllS d := by
  by_cases h0 : l.length % 3 = 0
  · exact ⟨b64L l, 0, by simp, b64G_full l _ (by omega)⟩
  · obtain ⟨q, hq⟩ : ∃ q, (l.length + 2) / 3 = q + 1 := ⟨(l.length + 2) / 3 - 1, by omega⟩
    have hf := b64G_full l q (by omega)
    unfold b64L
    rw [hq, b64G_succ]
    have hs : ∀ (n m j : Nat), ¬ m < j → 0 ≤ ix (ch n m j) := fun n m j hj => by unfold ch; rw [if_neg hj]; exact ix_sg _ (Nat.mod_lt _ (by decide))
    obtain h1 | h2 : min 3 (l.length - 3 * q) = 1 ∨ min 3 (l.length - 3 * q) = 2 := by omega
    · rw [h1]
      refine ⟨b64G l q ++ [ch (pv l (3 * q) 3) 1 0, ch (pv l (3 * q) 3) 1 1], 2, ?_, ?_⟩
      · simp [grp, ch, List.replicate]
      · intro c hc
        simp only [List.mem_append, List.mem_cons, List.mem_nil_iff, or_false] at hc
        rcases hc with hc | rfl | rfl
        · exact hf c hc
        · exact hs _ _ _ (by omega)
        · exact hs _ _ _ (by omega)
    · rw [h2]
      refine ⟨b64G l q ++ [ch (pv l (3 * q) 3) 2 0, ch (pv l (3 * q) 3) 2 1, ch (pv l (3 * q) 3) 2 2], 1, ?_, ?_⟩
      · simp [grp, ch, List.replicate]
      · intro c hc
        simp only [List.mem_append, List.mem_cons, List.mem_nil_iff, or_false] at hc
        rcases hc with hc | rfl | rfl | rfl
        · exact hf c hc
        · exact hs _ _ _ (by omega)
        · exact hs _ _ _ (by omega)
        · exact hs _ _ _ (by omega)

theorem get_join (l d : List UInt8) (hd : d = Lib.trimRightB l 61) :
    (if signs d = d.length then (if b64L (dO d d.length) = l then (dO d d.length, true) else ([], false)) else ([], false)) = getB l := by
  obtain ⟨m, hm⟩ := trim_split l
  rw [← hd] at hm
  by_cases hs : signs d = d.length
  · have ha := all_signs d hs
    have hl : signs l = d.length := by rw [hm]; exact signs_pad d m ha
    have ho : dO l d.length = dO d d.length := by
      have := dO_pre d (List.replicate m 61) d.length (Nat.le_refl _)
      rw [← hm] at this
      exact this
    unfold getB
    rw [if_pos hs, hl, ho]
  · unfold getB
    rw [if_neg hs, if_neg]
    intro he
    obtain ⟨x, k, hx, hxa⟩ := b64L_pad (dO l (signs l))
    rw [he] at hx
    apply hs
    rw [hd, hx, trim_pad x k hxa]
    exact signs_all x hxa
end Go.Proofs.YtnodhkjgnegkcaaGreatDoor

/-
  Base 64 there and back in plain words: what PutBase64 writes GetBase64 reads as it was.
-/
namespace Go.Proofs.YtnodhkjgnegkcaaGreatDoor

theorem ix_sg_is : ∀ n, n < 64 → ix (sg n) = (n : Int) := by decide +kernel
theorem getD_get {l : List UInt8} {k : Nat} (h : k < l.length) : l.getD k 0 = l[k] := by rw [List.getD_eq_getElem?_getD, List.getElem?_eq_getElem h]; rfl

theorem dN_succ (l : List UInt8) (k : Nat) : dN l (k + 1) = dN l k * 64 % 16777216 + (ix (l.getD k 0)).toNat := rfl
theorem dO_succ (l : List UInt8) (k : Nat) : dO l (k + 1) = dO l k ++ if k % 4 = 0 then [] else [UInt8.ofNat (dN l (k + 1) / 2 ^ sh k % 256)] := rfl
section
variable {l : List UInt8} {q a0 a1 a2 a3 : Nat}
theorem dN_1 (h0 : l.getD (4 * q) 0 = sg a0) (p0 : a0 < 64) : dN l (4 * q + 1) % 64 = a0 := by
  rw [dN_succ l (4 * q), h0, ix_sg_is a0 p0]; omega
theorem dN_2 (h0 : l.getD (4 * q) 0 = sg a0) (h1 : l.getD (4 * q + 1) 0 = sg a1) (p0 : a0 < 64) (p1 : a1 < 64) : dN l (4 * q + 1 + 1) % 4096 = a0 * 64 + a1 := by
  have := dN_1 h0 p0
  rw [dN_succ l (4 * q + 1), h1, ix_sg_is a1 p1]; omega
theorem dN_3 (h0 : l.getD (4 * q) 0 = sg a0) (h1 : l.getD (4 * q + 1) 0 = sg a1) (h2 : l.getD (4 * q + 1 + 1) 0 = sg a2) (p0 : a0 < 64) (p1 : a1 < 64) (p2 : a2 < 64) : dN l (4 * q + 1 + 1 + 1) % 262144 = a0 * 4096 + a1 * 64 + a2 := by
  have := dN_2 h0 h1 p0 p1
  rw [dN_succ l (4 * q + 1 + 1), h2, ix_sg_is a2 p2]; omega
theorem dN_4 (h0 : l.getD (4 * q) 0 = sg a0) (h1 : l.getD (4 * q + 1) 0 = sg a1) (h2 : l.getD (4 * q + 1 + 1) 0 = sg a2) (h3 : l.getD (4 * q + 1 + 1 + 1) 0 = sg a3) (p0 : a0 < 64) (p1 : a1 < 64) (p2 : a2 < 64) (p3 : a3 < 64) : dN l (4 * q + 1 + 1 + 1 + 1) % 16777216 = a0 * 262144 + a1 * 4096 + a2 * 64 + a3 := by
  have := dN_3 h0 h1 h2 p0 p1 p2
  rw [dN_succ l (4 * q + 1 + 1 + 1), h3, ix_sg_is a3 p3]; omega
theorem dO_2 (h0 : l.getD (4 * q) 0 = sg a0) (h1 : l.getD (4 * q + 1) 0 = sg a1) (p0 : a0 < 64) (p1 : a1 < 64) : dO l (4 * q + 1 + 1) = dO l (4 * q) ++ [UInt8.ofNat ((a0 * 64 + a1) / 16 % 256)] := by
  have e := dN_2 h0 h1 p0 p1
  have s : sh (4 * q + 1) = 4 := by unfold sh; omega
  have e2 : dN l (4 * q + 1 + 1) / 16 % 256 = (a0 * 64 + a1) / 16 % 256 := by omega
  rw [dO_succ l (4 * q + 1), dO_succ l (4 * q), if_pos (by omega), if_neg (by omega), s, List.append_nil]
  show _ ++ [UInt8.ofNat (dN l (4 * q + 1 + 1) / 16 % 256)] = _
  rw [e2]
theorem dO_3 (h0 : l.getD (4 * q) 0 = sg a0) (h1 : l.getD (4 * q + 1) 0 = sg a1) (h2 : l.getD (4 * q + 1 + 1) 0 = sg a2) (p0 : a0 < 64) (p1 : a1 < 64) (p2 : a2 < 64) : dO l (4 * q + 1 + 1 + 1) = dO l (4 * q) ++ [UInt8.ofNat ((a0 * 64 + a1) / 16 % 256), UInt8.ofNat ((a1 * 64 + a2) / 4 % 256)] := by
  have e := dN_3 h0 h1 h2 p0 p1 p2
  have s : sh (4 * q + 1 + 1) = 2 := by unfold sh; omega
  have e2 : dN l (4 * q + 1 + 1 + 1) / 4 % 256 = (a1 * 64 + a2) / 4 % 256 := by omega
  rw [dO_succ l (4 * q + 1 + 1), if_neg (by omega), s, dO_2 h0 h1 p0 p1]
  show _ ++ [UInt8.ofNat (dN l (4 * q + 1 + 1 + 1) / 4 % 256)] = _
  rw [e2]; simp
theorem dO_4 (h0 : l.getD (4 * q) 0 = sg a0) (h1 : l.getD (4 * q + 1) 0 = sg a1) (h2 : l.getD (4 * q + 1 + 1) 0 = sg a2) (h3 : l.getD (4 * q + 1 + 1 + 1) 0 = sg a3) (p0 : a0 < 64) (p1 : a1 < 64) (p2 : a2 < 64) (p3 : a3 < 64) : dO l (4 * q + 1 + 1 + 1 + 1) = dO l (4 * q) ++ [UInt8.ofNat ((a0 * 64 + a1) / 16 % 256), UInt8.ofNat ((a1 * 64 + a2) / 4 % 256), UInt8.ofNat ((a2 * 64 + a3) % 256)] := by
  have e := dN_4 h0 h1 h2 h3 p0 p1 p2 p3
  have s : sh (4 * q + 1 + 1 + 1) = 0 := by unfold sh; omega
  have e2 : dN l (4 * q + 1 + 1 + 1 + 1) / 1 % 256 = (a2 * 64 + a3) % 256 := by omega
  rw [dO_succ l (4 * q + 1 + 1 + 1), if_neg (by omega), s, dO_3 h0 h1 h2 p0 p1 p2]
  show _ ++ [UInt8.ofNat (dN l (4 * q + 1 + 1 + 1 + 1) / 1 % 256)] = _
  rw [e2]; simp
end

/-- The signs of a group. -/
theorem b64G_at (x : List UInt8) (Q q j : Nat) (hq : q < Q) (hj : j < 4) : (b64G x Q).getD (4 * q + j) 0 = (grp (pv x (3 * q) 3) (min 3 (x.length - 3 * q))).getD j 0 := by
  induction Q with
  | zero => omega
  | succ Q ih =>
    have hl := b64G_len x Q
    rw [b64G_succ]
    by_cases h : q < Q
    · rw [← ih h, List.getD_eq_getElem?_getD, List.getD_eq_getElem?_getD, List.getElem?_append_left (by omega)]
    · obtain rfl : q = Q := by omega
      rw [List.getD_eq_getElem?_getD, List.getD_eq_getElem?_getD, List.getElem?_append_right (by omega), hl]
      congr 2; omega
theorem b64L_sign (x : List UInt8) (q j : Nat) (hq : q < (x.length + 2) / 3) (hj : j < 4) (hm : j ≤ min 3 (x.length - 3 * q)) : (b64L x).getD (4 * q + j) 0 = sg (pv x (3 * q) 3 / 2 ^ (18 - 6 * j) % 64) := by
  unfold b64L
  rw [b64G_at x _ q j hq hj]
  rcases j with _ | _ | _ | _ | j
  · show ch (pv x (3 * q) 3) (min 3 (x.length - 3 * q)) 0 = _
    unfold ch; rw [if_neg (by omega)]
  · show ch (pv x (3 * q) 3) (min 3 (x.length - 3 * q)) 1 = _
    unfold ch; rw [if_neg (by omega)]
  · show ch (pv x (3 * q) 3) (min 3 (x.length - 3 * q)) 2 = _
    unfold ch; rw [if_neg (by omega)]
  · show ch (pv x (3 * q) 3) (min 3 (x.length - 3 * q)) 3 = _
    unfold ch; rw [if_neg (by omega)]
  · omega
theorem pv3 (x : List UInt8) (i : Nat) : pv x i 3 = (x.getD i 0).toNat * 65536 + (x.getD (i + 1) 0).toNat * 256 + (x.getD (i + 2) 0).toNat := by
  simp only [pv, Nat.add_zero]; omega
theorem byte_back (b : UInt8) (n : Nat) (h : n = b.toNat) : UInt8.ofNat n = b := by subst h; simp
theorem take_more (x : List UInt8) (k : Nat) (h : k < x.length) : x.take (k + 1) = x.take k ++ [x.getD k 0] := by rw [getD_get h, List.take_succ_eq_append_getElem h]

theorem back_one {x : List UInt8} {q : Nat} (hd : dO (b64L x) (4 * q) = x.take (3 * q)) (h : 3 * q < x.length) : dO (b64L x) (4 * q + 1 + 1) = x.take (3 * q + 1) := by
  have b0 := (x.getD (3 * q) 0).toNat_lt
  have b1 := (x.getD (3 * q + 1) 0).toNat_lt
  have b2 := (x.getD (3 * q + 2) 0).toNat_lt
  have hp := pv3 x (3 * q)
  have s0 := b64L_sign x q 0 (by omega) (by omega) (by omega)
  have s1 := b64L_sign x q 1 (by omega) (by omega) (by omega)
  simp only [Nat.reducePow, Nat.reduceSub, Nat.mul_zero, Nat.sub_zero, Nat.add_zero, Nat.mul_one] at s0 s1
  rw [dO_2 s0 s1 (Nat.mod_lt _ (by decide)) (Nat.mod_lt _ (by decide)), hd, take_more x _ h]
  congr 2
  apply byte_back
  omega
theorem back_two {x : List UInt8} {q : Nat} (hd : dO (b64L x) (4 * q) = x.take (3 * q)) (h : 3 * q + 1 < x.length) : dO (b64L x) (4 * q + 1 + 1 + 1) = x.take (3 * q + 1 + 1) := by
  have b0 := (x.getD (3 * q) 0).toNat_lt
  have b1 := (x.getD (3 * q + 1) 0).toNat_lt
  have b2 := (x.getD (3 * q + 2) 0).toNat_lt
  have hp := pv3 x (3 * q)
  have s0 := b64L_sign x q 0 (by omega) (by omega) (by omega)
  have s1 := b64L_sign x q 1 (by omega) (by omega) (by omega)
  have s2 := b64L_sign x q 2 (by omega) (by omega) (by omega)
  simp only [Nat.reducePow, Nat.reduceMul, Nat.reduceSub, Nat.mul_zero, Nat.sub_zero, Nat.add_zero, Nat.mul_one] at s0 s1 s2
  rw [dO_3 s0 s1 s2 (Nat.mod_lt _ (by decide)) (Nat.mod_lt _ (by decide)) (Nat.mod_lt _ (by decide)), hd, take_more x (3 * q + 1) h, take_more x _ (by omega), List.append_assoc]
  congr 1
  show [_, _] = [_, _]
  rw [byte_back (x.getD (3 * q) 0) _ (by omega), byte_back (x.getD (3 * q + 1) 0) _ (by omega)]
theorem back_three {x : List UInt8} {q : Nat} (hd : dO (b64L x) (4 * q) = x.take (3 * q)) (h : 3 * q + 2 < x.length) : dO (b64L x) (4 * q + 1 + 1 + 1 + 1) = x.take (3 * q + 1 + 1 + 1) := by
  have b0 := (x.getD (3 * q) 0).toNat_lt
  have b1 := (x.getD (3 * q + 1) 0).toNat_lt
  have b2 := (x.getD (3 * q + 1 + 1) 0).toNat_lt
  have hp : pv x (3 * q) 3 = (x.getD (3 * q) 0).toNat * 65536 + (x.getD (3 * q + 1) 0).toNat * 256 + (x.getD (3 * q + 1 + 1) 0).toNat := pv3 x (3 * q)
  have s0 := b64L_sign x q 0 (by omega) (by omega) (by omega)
  have s1 := b64L_sign x q 1 (by omega) (by omega) (by omega)
  have s2 := b64L_sign x q 2 (by omega) (by omega) (by omega)
  have s3 := b64L_sign x q 3 (by omega) (by omega) (by omega)
  simp only [Nat.reducePow, Nat.reduceMul, Nat.reduceSub, Nat.mul_zero, Nat.sub_zero, Nat.add_zero, Nat.mul_one, Nat.div_one] at s0 s1 s2 s3
  rw [dO_4 s0 s1 s2 s3 (Nat.mod_lt _ (by decide)) (Nat.mod_lt _ (by decide)) (Nat.mod_lt _ (by decide)) (Nat.mod_lt _ (by decide)), hd, take_more x (3 * q + 1 + 1) h, take_more x (3 * q + 1) (by omega), take_more x _ (by omega), List.append_assoc, List.append_assoc]
  congr 1
  show [_, _, _] = [_, _, _]
  rw [byte_back (x.getD (3 * q) 0) _ (by omega), byte_back (x.getD (3 * q + 1) 0) _ (by omega), byte_back (x.getD (3 * q + 1 + 1) 0) _ (by omega)]
theorem back_groups (x : List UInt8) : ∀ q, 3 * q ≤ x.length → dO (b64L x) (4 * q) = x.take (3 * q)
  | 0, _ => rfl
  | q + 1, h => by
    have ih := back_groups x q (by omega)
    have := back_three ih (by omega)
    rw [show 4 * (q + 1) = 4 * q + 1 + 1 + 1 + 1 by omega, show 3 * (q + 1) = 3 * q + 1 + 1 + 1 by omega]
    exact this
/-- How many signs PutBase64 writes. -/
def sgn (n : Nat) : Nat := 4 * (n / 3) + (if n % 3 = 0 then 0 else n % 3 + 1)
theorem signs_b64 (x : List UInt8) : signs (b64L x) = sgn x.length := by
  have hlen : (b64L x).length = 4 * ((x.length + 2) / 3) := by unfold b64L; exact b64G_len _ _
  apply signs_at
  · intro j hj
    unfold sgn at hj
    have := b64L_sign x (j / 4) (j % 4) (by split at hj <;> omega) (Nat.mod_lt _ (by decide)) (by split at hj <;> omega)
    rw [show 4 * (j / 4) + j % 4 = j by omega] at this
    rw [this, ix_sg_is _ (Nat.mod_lt _ (by decide))]; omega
  · rw [hlen]; unfold sgn; split <;> omega
  · intro c hc
    obtain ⟨hk, hce⟩ := List.getElem?_eq_some_iff.1 hc
    rw [hlen] at hk
    unfold sgn at hk
    have hg : (b64L x).getD (sgn x.length) 0 = c := by rw [List.getD_eq_getElem?_getD, hc]; rfl
    by_cases h0 : x.length % 3 = 0
    · rw [if_pos h0] at hk; omega
    · have h4 : sgn x.length = 4 * (x.length / 3) + (x.length % 3 + 1) := by unfold sgn; rw [if_neg h0]
      rw [if_neg h0] at hk
      rw [h4] at hg
      unfold b64L at hg
      rw [b64G_at x _ _ _ (by omega) (by omega)] at hg
      have hmm : min 3 (x.length - 3 * (x.length / 3)) = x.length % 3 := by omega
      rw [hmm] at hg
      obtain h1 | h2 : x.length % 3 = 1 ∨ x.length % 3 = 2 := by omega
      · rw [h1] at hg
        have : c = 61 := by rw [← hg]; rfl
        rw [this, ix_pad]; omega
      · rw [h2] at hg
        have : c = 61 := by rw [← hg]; rfl
        rw [this, ix_pad]; omega
/-- What was written is read as it was. -/
theorem dO_back (x : List UInt8) : dO (b64L x) (signs (b64L x)) = x := by
  rw [signs_b64]
  have hg := back_groups x (x.length / 3) (by omega)
  unfold sgn
  split
  · rw [Nat.add_zero, hg, List.take_of_length_le (by omega)]
  · rename_i h
    obtain h1 | h2 : x.length % 3 = 1 ∨ x.length % 3 = 2 := by omega
    · rw [h1, show 4 * (x.length / 3) + (1 + 1) = 4 * (x.length / 3) + 1 + 1 by omega, back_one hg (by omega), List.take_of_length_le (by omega)]
    · rw [h2, show 4 * (x.length / 3) + (2 + 1) = 4 * (x.length / 3) + 1 + 1 + 1 by omega, back_two hg (by omega), List.take_of_length_le (by omega)]
theorem get_put64 (x : List UInt8) : getB (b64L x) = (x, true) := by
  unfold getB; rw [dO_back, if_pos rfl]
theorem b64_not (x : List UInt8) (c : UInt8) (hc : ix c < 0) (hp : c ≠ 61) : ∀ d ∈ b64L x, ¬ d = c := by
  intro d hd e
  subst e
  obtain ⟨D, m, hD, hA⟩ := b64L_pad x
  rw [hD, List.mem_append] at hd
  rcases hd with hd | hd
  · have := hA d hd; omega
  · exact hp (List.eq_of_mem_replicate hd)
end Go.Proofs.YtnodhkjgnegkcaaGreatDoor

/-
  Reading an integrity text in plain words: both readers hand back the one list of right sums whose text it is.
-/
namespace Go.Proofs.YtnodhkjgnegkcaaGreatDoor

/-- What a word reads as. -/
def wordR (p : List UInt8) : Bd := (cutA 45 p, (getB (cutB 45 p)).1)
/-- What impl reads, word by word; n bounds the rounds. -/
def sumsR : Nat → List UInt8 → List Bd
  | 0, _ => []
  | n + 1, l => if l = [] then [] else wordR (cutA 32 l) :: sumsR n (cutB 32 l)
theorem sumsR_nil (n : Nat) : sumsR n [] = [] := by cases n <;> simp [sumsR]
theorem sumsR_step {n : Nat} {l : List UInt8} (h : l ≠ []) (hn : l.length ≤ n) : sumsR n l = wordR (cutA 32 l) :: sumsR (n - 1) (cutB 32 l) := by
  cases n with
  | zero => have : l = [] := List.eq_nil_of_length_eq_zero (by omega); exact absurd this h
  | succ n => simp [sumsR, h]
theorem sumsR_more : ∀ (n m : Nat) (l : List UInt8), l.length ≤ n → l.length ≤ m → sumsR n l = sumsR m l := by
  intro n
  induction n with
  | zero => intro m l h _; have : l = [] := List.eq_nil_of_length_eq_zero (by omega); subst this; rw [sumsR_nil, sumsR_nil]
  | succ n ih =>
    intro m l h1 h2
    by_cases h : l = []
    · subst h; rw [sumsR_nil, sumsR_nil]
    · rw [sumsR_step h h1, sumsR_step h h2]
      have a := cutB_lt 32 h
      have e : n + 1 - 1 = n := by omega
      rw [e, ih (m - 1) _ (by omega) (by omega)]
/-- All that impl reads. -/
def sumsI (l : List UInt8) : List Bd := sumsR l.length l
/-- What GetIntegrity hands back. -/
def getIntOk (l : List UInt8) : Bool := sumsOkL (sumsI l) && (intT (sumsI l) == l)

theorem ix_space : ix 32 < 0 := by decide +kernel
theorem ix_dash : ix 45 < 0 := by decide +kernel
theorem algs_are {a : List UInt8} (h : algOk a = true) : a = sha1L ∨ a = sha256L ∨ a = sha512L := by
  unfold algOk at h
  simp only [Bool.or_eq_true, beq_iff_eq] at h
  rcases h with (h | h) | h
  · exact .inl h
  · exact .inr (.inl h)
  · exact .inr (.inr h)
theorem alg_noM {a : List UInt8} (h : algOk a = true) : noM 45 a ∧ noM 32 a := by
  rcases algs_are h with rfl | rfl | rfl
  · exact ⟨by unfold noM sha1L; decide, by unfold noM sha1L; decide⟩
  · exact ⟨by unfold noM sha256L; decide, by unfold noM sha256L; decide⟩
  · exact ⟨by unfold noM sha512L; decide, by unfold noM sha512L; decide⟩
theorem alg_not_h1 {a : List UInt8} (h : algOk a = true) : ¬ a = h1L := by
  rcases algs_are h with rfl | rfl | rfl <;> decide
theorem wordB_noM {b : Bd} (h : algOk b.1 = true) : noM 32 (wordB b) := by
  unfold wordB
  refine noM_app (alg_noM h).2 (fun c hc => ?_)
  rcases List.mem_cons.1 hc with rfl | hc
  · decide
  · exact b64_not b.2 32 ix_space (by decide) c hc
theorem wordB_cut {b : Bd} (h : algOk b.1 = true) : cutA 45 (wordB b) = b.1 ∧ cutB 45 (wordB b) = b64L b.2 :=
  ⟨cutA_noM _ (alg_noM h).1, cutB_noM _ (alg_noM h).1⟩
theorem wordR_back {b : Bd} (h : algOk b.1 = true) : wordR (wordB b) = b := by
  unfold wordR
  rw [(wordB_cut h).1, (wordB_cut h).2, get_put64]
theorem cutA_all {m : UInt8} : ∀ {l : List UInt8}, noM m l → cutA m l = l ∧ cutB m l = []
  | [], _ => ⟨cutA_nil m, cutB_nil m⟩
  | c :: l, h => by
    obtain ⟨h1, h2⟩ := cutA_all (noM_tail h)
    rw [cutA_miss _ (h c (by simp)), cutB_miss _ (h c (by simp)), h1, h2]
    exact ⟨rfl, rfl⟩
theorem wordsB_all {L : List Bd} (h : ∀ b ∈ L, algOk b.1 = true) : wordsB L = L.map wordB := by
  unfold wordsB
  rw [List.filter_eq_self.2 (fun b hb => h b hb)]
/-- The text of right sums is read as they are. -/
theorem read_back_sums : ∀ (L : List Bd), (∀ b ∈ L, algOk b.1 = true) → ∀ n, (Lib.join (L.map wordB) [32]).length ≤ n → sumsR n (Lib.join (L.map wordB) [32]) = L
  | [], _, n, _ => sumsR_nil n
  | [b], h, n, hn => by
    rw [List.map_cons, List.map_nil, join_one] at hn ⊢
    rw [sumsR_step (wordB_ne b) hn]
    obtain ⟨e1, e2⟩ := cutA_all (wordB_noM (h b (by simp)))
    rw [e1, e2, sumsR_nil, wordR_back (h b (by simp))]
  | b :: c :: L, h, n, hn => by
    have hb := h b (by simp)
    rw [List.map_cons, List.map_cons, join_cons, List.append_assoc, List.cons_append, List.nil_append] at hn ⊢
    have hne : wordB b ++ 32 :: Lib.join (wordB c :: L.map wordB) [32] ≠ [] := by simp
    rw [sumsR_step hne hn, cutA_noM _ (wordB_noM hb), cutB_noM _ (wordB_noM hb), wordR_back hb]
    have := read_back_sums (c :: L) (fun x hx => h x (by simp [hx])) (n - 1) (by rw [List.map_cons]; simp at hn ⊢; omega)
    rw [List.map_cons] at this
    rw [this]
theorem sumsI_text {L : List Bd} (h : ∀ b ∈ L, algOk b.1 = true) : sumsI (intT L) = L := by
  unfold sumsI intT
  rw [wordsB_all h]
  exact read_back_sums L h _ (Nat.le_refl _)
/-- A text that impl reads and writes back bears right algorithms alone. -/
theorem sumsI_algs {l : List UInt8} (h : intT (sumsI l) = l) : ∀ b ∈ sumsI l, algOk b.1 = true := by
  have hf : intT ((sumsI l).filter fun b => algOk b.1) = intT (sumsI l) := by
    unfold intT wordsB
    rw [List.filter_filter]
    simp
  rw [h] at hf
  have hb := sumsI_text (L := (sumsI l).filter fun b => algOk b.1) (fun b hb => by simpa using (List.mem_filter.1 hb).2)
  rw [hf] at hb
  intro b hx
  rw [hb] at hx
  simpa using (List.mem_filter.1 hx).2

/-- What spec asks of a word. -/
def wordG (p : List UInt8) : Bool := decide (0 ≤ Lib.indexByte p 45) && (getB (cutB 45 p)).2
theorem idx_some {m : UInt8} : ∀ {l : List UInt8} (r : List UInt8), 0 ≤ Lib.indexByte (l ++ m :: r) m
  | [], r => by rw [List.nil_append, idx_hit r rfl]; omega
  | c :: l, r => by
    have ih := idx_some (m := m) (l := l) r
    by_cases hc : c = m
    · rw [List.cons_append, idx_hit _ hc]; omega
    · rw [List.cons_append, idx_miss _ hc]
      split <;> omega
theorem wordG_good {b : Bd} (h : algOk b.1 = true) : wordG (wordB b) = true := by
  unfold wordG
  rw [(wordB_cut h).2, get_put64]
  unfold wordB
  rw [decide_eq_true (idx_some _)]
  rfl
/-- A text with a word that spec refuses is none that impl writes back. -/
theorem bad_word {l p : List UInt8} (hl : l ≠ []) (hp : p ∈ cutL 32 l) (hg : wordG p = false) : getIntOk l = false := by
  unfold getIntOk
  cases ht : intT (sumsI l) == l with
  | false => simp
  | true =>
    have ht' : intT (sumsI l) = l := by simpa using ht
    have ha := sumsI_algs ht'
    have hne : (sumsI l).map wordB ≠ [] := by
      intro e
      have : sumsI l = [] := by simpa using e
      rw [this] at ht'
      exact hl (by rw [← ht']; rfl)
    have hw : cutL 32 l = (sumsI l).map wordB := by
      conv => lhs; rw [← ht']
      unfold intT
      rw [wordsB_all ha]
      refine cutL_join _ hne (fun x hx => ?_)
      obtain ⟨b, hb, rfl⟩ := List.mem_map.1 hx
      exact wordB_noM (ha b hb)
    rw [hw] at hp
    obtain ⟨b, hb, rfl⟩ := List.mem_map.1 hp
    rw [wordG_good (ha b hb)] at hg
    cases hg
theorem wordG_ne {p : List UInt8} (h : wordG p = true) : p ≠ [] := by
  intro e; subst e
  unfold wordG at h
  simp [Lib.indexByte] at h
theorem attach_one (c : UInt8) (x : List UInt8) (X : List (List UInt8)) : attach [c] (x :: X) = (c :: x) :: X := rfl
theorem cutL_step (m : UInt8) : ∀ l : List UInt8, (0 ≤ Lib.indexByte l m ∧ cutL m l = cutA m l :: cutL m (cutB m l)) ∨ (cutB m l = [] ∧ cutL m l = [cutA m l])
  | [] => .inr ⟨cutB_nil m, by rw [cutA_nil]; rfl⟩
  | c :: l => by
    have ih := cutL_step m l
    rw [show cutL m (c :: l) = if c = m then [] :: cutL m l else attach [c] (cutL m l) from rfl]
    by_cases h : c = m
    · subst h
      left
      rw [if_pos rfl, cutA_hit, cutB_hit, idx_hit l rfl]
      exact ⟨by omega, rfl⟩
    · rw [if_neg h, cutA_miss _ h, cutB_miss _ h, idx_miss l h]
      rcases ih with ⟨h0, e⟩ | ⟨h0, e⟩
      · left
        rw [e, if_neg (by omega)]
        exact ⟨by omega, rfl⟩
      · right
        rw [e]
        exact ⟨h0, rfl⟩
/-- Where spec takes every word, both read alike. -/
theorem good_words : ∀ (n : Nat) (l : List UInt8), l.length ≤ n → l ≠ [] → (∀ p ∈ cutL 32 l, wordG p = true) → sumsR n l = (cutL 32 l).map wordR
  | 0, l, hn, hl, _ => by have : l = [] := List.eq_nil_of_length_eq_zero (by omega); exact absurd this hl
  | n + 1, l, hn, hl, hg => by
    rw [sumsR_step hl hn, Nat.add_sub_cancel]
    rcases cutL_step 32 l with ⟨_, e⟩ | ⟨h0, e⟩
    · rw [e] at hg ⊢
      have hb := cutB_lt 32 hl
      have hne : cutB 32 l ≠ [] := by
        intro e0
        have := hg [] (by rw [e0]; simp [cutL])
        exact wordG_ne this rfl
      rw [List.map_cons, good_words n (cutB 32 l) (by omega) hne (fun p hp => hg p (by simp [hp]))]
    · rw [e, h0, sumsR_nil, List.map_cons, List.map_nil]
theorem sumsI_words {l : List UInt8} (hl : l ≠ []) (hg : ∀ p ∈ cutL 32 l, wordG p = true) : sumsI l = (cutL 32 l).map wordR := good_words _ l (Nat.le_refl _) hl hg
/-- spec's last test is impl's. -/
def noH1 (bs : List Bd) : Bool := bs.all fun b => !(b.1 == h1L)
theorem last_test (l : List UInt8) : (noH1 (sumsI l) && sumsOkL (sumsI l) && (intT (sumsI l) == l)) = getIntOk l := by
  unfold getIntOk
  cases ht : intT (sumsI l) == l with
  | false => simp
  | true =>
    have ha := sumsI_algs (by simpa using ht)
    have : noH1 (sumsI l) = true := by
      unfold noH1
      rw [List.all_eq_true]
      intro b hb
      have := alg_not_h1 (ha b hb)
      simpa using this
    rw [this, Bool.true_and]
theorem sumsI_nil : sumsI [] = [] := rfl
theorem getIntOk_nil : getIntOk [] = true := by decide +kernel

/-- The words that impl's cursor takes. -/
def curW : Nat → List UInt8 → List (List UInt8)
  | 0, _ => []
  | n + 1, l => if l = [] then [] else cutA 32 l :: curW n (cutB 32 l)
theorem sumsR_map : ∀ (n : Nat) (l : List UInt8), sumsR n l = (curW n l).map wordR
  | 0, _ => rfl
  | n + 1, l => by
    unfold sumsR curW
    split
    · rfl
    · rw [List.map_cons, sumsR_map n]
theorem smL_cons (x : List UInt8) (ls : List (List UInt8)) : smL (x :: ls) = x.length + smL ls := by simp [smL]
theorem smB_cons (b : Bd) (bs : List Bd) : smB (b :: bs) = b.1.length + b.2.length + smB bs := by simp [smB]
theorem curW_len : ∀ (n : Nat) (l : List UInt8), smL (curW n l) ≤ l.length ∧ (curW n l).length ≤ l.length
  | 0, _ => by simp [curW, smL]
  | n + 1, l => by
    unfold curW
    split
    · simp [smL]
    · rename_i h
      have a := cut_len 32 l
      have b := cutB_lt 32 h
      have ih := curW_len n (cutB 32 l)
      rw [smL_cons, List.length_cons]
      omega
theorem signs_le (l : List UInt8) : signs l ≤ l.length := by
  unfold signs
  induction l with
  | nil => simp
  | cons a l ih => rw [List.takeWhile_cons]; split <;> simp <;> omega
theorem getB_len (l : List UInt8) : (getB l).1.length ≤ l.length := by
  have a := dO_len l (signs l)
  have b := signs_le l
  unfold getB
  split
  · show (dO l (signs l)).length ≤ _; omega
  · simp
theorem getB_nil : getB [] = ([], true) := by decide +kernel
theorem word_wt {p : List UInt8} (h : 0 ≤ Lib.indexByte p 45 ∨ (wordR p).2 ≠ []) : 1 + (wordR p).1.length + (wordR p).2.length ≤ p.length := by
  have hg := getB_len (cutB 45 p)
  by_cases h0 : 0 ≤ Lib.indexByte p 45
  · have hlt := idx_lt p 45
    have ea : (cutA 45 p).length = (Lib.indexByte p 45).toNat := by unfold cutA; rw [if_pos h0, List.length_take]; omega
    have eb : (cutB 45 p).length = p.length - ((Lib.indexByte p 45).toNat + 1) := by unfold cutB; rw [if_pos h0, List.length_drop]
    show 1 + (cutA 45 p).length + (getB (cutB 45 p)).1.length ≤ _
    omega
  · have eb : cutB 45 p = [] := by unfold cutB; rw [if_neg h0]
    rcases h with h | h
    · exact absurd h h0
    · exact absurd (by show (getB (cutB 45 p)).1 = []; rw [eb, getB_nil]) h
theorem word_le (p : List UInt8) : (wordR p).2.length ≤ p.length := by
  have hg := getB_len (cutB 45 p)
  have := cutB_le 45 p
  show (getB (cutB 45 p)).1.length ≤ _
  omega
theorem map_wt : ∀ ws : List (List UInt8), (∀ p ∈ ws, 0 ≤ Lib.indexByte p 45 ∨ (wordR p).2 ≠ []) → (ws.map wordR).length + smB (ws.map wordR) ≤ smL ws
  | [], _ => by simp [smB, smL]
  | p :: ws, h => by
    have ih := map_wt ws (fun q hq => h q (by simp [hq]))
    have hp := word_wt (h p (by simp))
    rw [List.map_cons, smB_cons, smL_cons, List.length_cons]
    omega
theorem sums_all {bs : List Bd} : ∀ {n : Nat}, sumsTo bs n = true → ∀ k, k < n → sumAt bs k = true
  | 0, _, k, hk => by omega
  | n + 1, h, k, hk => by
    unfold sumsTo at h
    simp only [Bool.and_eq_true] at h
    by_cases e : k = n
    · subst e; exact h.2
    · exact sums_all h.1 k (by omega)
theorem sumsOk_ne {bs : List Bd} (h : sumsOkL bs = true) : ∀ b ∈ bs, b.2 ≠ [] := by
  intro b hb e
  obtain ⟨k, hk, rfl⟩ := List.mem_iff_getElem.1 hb
  have := sums_all h k hk
  unfold sumAt at this
  simp only [Bool.and_eq_true, decide_eq_true_eq] at this
  have h1 := this.1
  rw [getD_at hk, e] at h1
  exact longI_not0 _ h1
theorem sumsI_sm {l : List UInt8} (hl : l.length ≤ 1048576) (h : sumsOkL (sumsI l) = true) : SmB (sumsI l) := by
  have hn := sumsOk_ne h
  unfold SmB
  unfold sumsI at hn ⊢
  rw [sumsR_map] at hn ⊢
  have := map_wt (curW l.length l) (fun p hp => .inr (hn _ (List.mem_map.2 ⟨p, hp, rfl⟩)))
  have := (curW_len l.length l).1
  omega
theorem curW_words : ∀ (n : Nat) (l : List UInt8), l.length ≤ n → l ≠ [] → (∀ p ∈ cutL 32 l, wordG p = true) → curW n l = cutL 32 l
  | 0, l, hn, hl, _ => by have : l = [] := List.eq_nil_of_length_eq_zero (by omega); exact absurd this hl
  | n + 1, l, hn, hl, hg => by
    unfold curW
    rw [if_neg hl]
    rcases cutL_step 32 l with ⟨_, e⟩ | ⟨h0, e⟩
    · rw [e] at hg ⊢
      have hb := cutB_lt 32 hl
      have hne : cutB 32 l ≠ [] := by
        intro e0
        have := hg [] (by rw [e0]; simp [cutL])
        exact wordG_ne this rfl
      rw [curW_words n (cutB 32 l) (by omega) hne (fun p hp => hg p (by simp [hp]))]
    · rw [e, h0]
      cases n <;> simp [curW]
theorem wordG_dash {p : List UInt8} (h : wordG p = true) : 0 ≤ Lib.indexByte p 45 := by
  unfold wordG at h
  simp only [Bool.and_eq_true, decide_eq_true_eq] at h
  exact h.1
theorem words_sm {l : List UInt8} (hl : l.length ≤ 1048576) (hn : l ≠ []) (hg : ∀ p ∈ cutL 32 l, wordG p = true) : SmB ((cutL 32 l).map wordR) := by
  have hc := curW_words l.length l (Nat.le_refl _) hn hg
  have h1 := map_wt (cutL 32 l) (fun p hp => .inl (wordG_dash (hg p hp)))
  have h2 := (curW_len l.length l).1
  rw [hc] at h2
  unfold SmB
  omega
theorem sumsR_len (n : Nat) (l : List UInt8) : (sumsR n l).length ≤ l.length := by rw [sumsR_map, List.length_map]; exact (curW_len n l).2
end Go.Proofs.YtnodhkjgnegkcaaGreatDoor

namespace Go.Proofs.YtnodhkjgnegkcaaGreatDoor
open Go.RowKit

set_option maxRecDepth 100000 in
set_option maxHeartbeats 4000000 in
theorem specPutIntegrity_any (v : Value) (bs : List Bd) (w : World) (hr : RdB w v bs) (hs : SmB bs) :
    Calls Tryz.prog 147 #[v] w fun e w' => e = .returned (.string ⟨(intT bs).toArray⟩) ∧ Below w.heap.size w w' := by
  have HR := Lib.hid hr
  have HS := Lib.hid hs
  have hn : bs.length ≤ 1048576 := by unfold SmB at hs; omega
  obtain ⟨A, ca, rfl, _⟩ := hr
  obtain ⟨r, HX⟩ : ∃ r, Hid (intT bs = r) := ⟨_, Lib.hid rfl⟩
  rw [HX.out]
  go_enter Tryz.func147, Tryz.ntmps147
  go_wp2_with fail
  go_loopw [3, 4] (fun o i wr => ∃ (k : Nat) (out : List UInt8), k ≤ bs.length ∧ i = .int .i64 k ∧ o = .string ⟨out.toArray⟩ ∧ Hid (intT (bs.take k) = out) ∧ Below w.heap.size w wr) (fun _ i _ => bs.length - (intOf i).toNat)
  case atStart => exact ⟨0, [], Nat.zero_le _, rfl, rfl, Lib.hid rfl, Below.refl _ _⟩
  case round =>
    obtain ⟨k, out, hk, rfl, rfl, HO, hb⟩ := hrel
    by_cases hlt : k < bs.length
    · obtain ⟨g, off, rfl, hg, d1, d2⟩ := (HR.out.below hb).at k hlt
      have hl1 := intT_take HS.out k
      rw [HO.out] at hl1
      have hl2 : bs[k].1.length + bs[k].2.length ≤ 1048576 := by have := smB_mem bs[k] (List.getElem_mem hlt); have := HS.out; unfold SmB at this; omega
      have hways := alg_ways bs[k].1
      have HT1 := Lib.hid (fun (ha : algOk bs[k].1 = true) (h0 : intT (bs.take k) = []) => intT_first hlt ha h0)
      have HT2 := Lib.hid (fun (ha : algOk bs[k].1 = true) (h0 : ¬ intT (bs.take k) = []) => intT_next hlt ha h0)
      have HT3 := Lib.hid (fun (ha : algOk bs[k].1 = false) => intT_skip hlt ha)
      have hbl := b64L_le bs[k].2
      obtain ⟨b, HB⟩ : ∃ b, Hid (bs[k] = b) := ⟨_, Lib.hid rfl⟩
      rw [HB.out] at d1 d2 hl2 hways HT1 HT2 HT3 hbl
      obtain ⟨al, by_⟩ := b
      simp only at d1 d2 hl2 hways HT1 HT2 HT3 hbl
      have k0 : (0 : Int) ≤ (k : Int) := by omega
      have k1 : (k : Int) < (bs.length : Int) := by omega
      rcases hways with ⟨h1, ha⟩ | ⟨h1, h2, ha⟩ | ⟨h1, h2, ha⟩
      · have HN := Lib.hid (HT3.out ha)
        subst h1
        clear ha HT1 HT2 HT3
        unfold h1L at d1
        go_wp2_with fail
        go_roundw
        case rel => exact ⟨k + 1, out, by omega, by go_num, rfl, Lib.hid (by rw [HN.out, HO.out]), hb⟩
        case measure => simp [intOf]; omega
      · have HN := Lib.hid (HT3.out ha)
        have q1 : (al == [104, 49]) = false := by simpa [h1L] using h1
        have HL := Lib.hid (l04Long_any al wr)
        obtain ⟨z, HZ⟩ : ∃ z, Hid (longI al = z) := ⟨_, Lib.hid rfl⟩
        rw [HZ.out] at HL h2
        clear ha h1 HT1 HT2 HT3
        go_wp2_with fail
        refine HL.out.mono ?_
        rintro e w1 ⟨rfl, rfl⟩
        go_wp2_with fail
        go_roundw
        case rel => exact ⟨k + 1, out, by omega, by go_num, rfl, Lib.hid (by rw [HN.out, HO.out]), hb⟩
        case measure => simp [intOf]; omega
      · have q1 : (al == [104, 49]) = false := by simpa [h1L] using h1
        have HL := Lib.hid (l04Long_any al wr)
        obtain ⟨z, HZ⟩ : ∃ z, Hid (longI al = z) := ⟨_, Lib.hid rfl⟩
        rw [HZ.out] at HL h2
        have h2' : ¬ z < 0 := by omega
        have HC := Lib.hid (fun W => specPutBase64_any ⟨by_.toArray⟩ W (by show by_.toArray.size ≤ _; simp; omega))
        obtain ⟨E, HE⟩ : ∃ E, Hid (b64L by_ = E) := ⟨_, Lib.hid rfl⟩
        have HC2 : Hid (∀ W, Calls Tryz.prog 192 #[.string ⟨by_.toArray⟩] W fun e w' => e = .returned (.string ⟨E.toArray⟩) ∧ Below W.heap.size W w') := Lib.hid (by have := HC.out; simp only [HE.out] at this; exact this)
        rw [HE.out] at hbl
        clear h1 HT3 HC
        by_cases h0 : out = []
        · have HN : Hid (intT (bs.take (k + 1)) = al ++ 45 :: E) := Lib.hid (by rw [HT1.out ha (by rw [HO.out, h0])]; show al ++ 45 :: b64L by_ = _; rw [HE.out])
          subst h0
          obtain ⟨N2, HN2⟩ : ∃ N, Hid (N = al ++ [45]) := ⟨_, Lib.hid rfl⟩
          obtain ⟨N3, HN3⟩ : ∃ N, Hid (N = N2 ++ E) := ⟨_, Lib.hid rfl⟩
          have l2 : N2.length ≤ 1048577 := by rw [HN2.out]; simp; omega
          have s1 : ∀ W, (Op.stringOp .add ⟨#[]⟩ ⟨al.toArray⟩).run Tryz.prog W = .ok (.string ⟨al.toArray⟩) W := fun W => by have := add_lists W [] al (by simp) (by omega); simpa using this
          have s2 : ∀ W, (Op.stringOp .add ⟨al.toArray⟩ ⟨#[45]⟩).run Tryz.prog W = .ok (.string ⟨N2.toArray⟩) W := fun W => by rw [HN2.out]; exact add_lists W al [45] (by omega) (by simp)
          have s3 : ∀ W, (Op.stringOp .add ⟨N2.toArray⟩ ⟨E.toArray⟩).run Tryz.prog W = .ok (.string ⟨N3.toArray⟩) W := fun W => by rw [HN3.out]; exact add_lists W N2 E (by omega) (by omega)
          have HNN : Hid (intT (bs.take (k + 1)) = N3) := Lib.hid (by rw [HN.out, HN3.out, HN2.out]; simp)
          clear ha HT1 HT2
          go_wp2_with fail
          refine HL.out.mono ?_
          rintro e w1 ⟨rfl, rfl⟩
          go_wp2_with fail
          go_region_held3 (fun W' => W'.cell? ⟨g, off + k * 2, none⟩ = some (.string ⟨al.toArray⟩) ∧ W'.cell? ⟨g, off + k * 2 + 1, none⟩ = some (.string ⟨by_.toArray⟩)) (first | exact ⟨d1, d2⟩ | assumption | exact keep2 hb3 (by assumption)) ((first | (go_at_call 192; (with_reducible refine (HC2.out _).mono ?_); rintro e w3 ⟨rfl, hb3⟩)))
          all_goals
            have HBB := hb.trans ((below_drewN _ _ 1).trans (hb3.mono hb.size))
            go_wp2_with fail
            go_roundw
            case rel => exact ⟨k + 1, N3, by omega, by go_num, rfl, HNN, HBB⟩
            case measure => simp [intOf]; omega
        · have HN : Hid (intT (bs.take (k + 1)) = out ++ [32] ++ (al ++ 45 :: E)) := Lib.hid (by rw [HT2.out ha (by rw [HO.out]; exact h0), HO.out]; show out ++ [32] ++ (al ++ 45 :: b64L by_) = _; rw [HE.out])
          have z1 : out.isEmpty = false := by cases out <;> simp_all
          have z2 : (out == []) = false := by simpa using h0
          obtain ⟨N0, HN0⟩ : ∃ N, Hid (N = out ++ [32]) := ⟨_, Lib.hid rfl⟩
          obtain ⟨N1, HN1⟩ : ∃ N, Hid (N = N0 ++ al) := ⟨_, Lib.hid rfl⟩
          obtain ⟨N2, HN2⟩ : ∃ N, Hid (N = N1 ++ [45]) := ⟨_, Lib.hid rfl⟩
          obtain ⟨N3, HN3⟩ : ∃ N, Hid (N = N2 ++ E) := ⟨_, Lib.hid rfl⟩
          have l0 : N0.length ≤ 8388609 := by rw [HN0.out]; simp; omega
          have l1 : N1.length ≤ 9437185 := by rw [HN1.out]; simp; omega
          have l2 : N2.length ≤ 9437186 := by rw [HN2.out]; simp; omega
          have s0 : ∀ W, (Op.stringOp .add ⟨out.toArray⟩ ⟨#[32]⟩).run Tryz.prog W = .ok (.string ⟨N0.toArray⟩) W := fun W => by rw [HN0.out]; exact add_lists W out [32] (by omega) (by simp)
          have s1 : ∀ W, (Op.stringOp .add ⟨N0.toArray⟩ ⟨al.toArray⟩).run Tryz.prog W = .ok (.string ⟨N1.toArray⟩) W := fun W => by rw [HN1.out]; exact add_lists W N0 al (by omega) (by omega)
          have s2 : ∀ W, (Op.stringOp .add ⟨N1.toArray⟩ ⟨#[45]⟩).run Tryz.prog W = .ok (.string ⟨N2.toArray⟩) W := fun W => by rw [HN2.out]; exact add_lists W N1 [45] (by omega) (by simp)
          have s3 : ∀ W, (Op.stringOp .add ⟨N2.toArray⟩ ⟨E.toArray⟩).run Tryz.prog W = .ok (.string ⟨N3.toArray⟩) W := fun W => by rw [HN3.out]; exact add_lists W N2 E (by omega) (by omega)
          have HNN : Hid (intT (bs.take (k + 1)) = N3) := Lib.hid (by rw [HN.out, HN3.out, HN2.out, HN1.out, HN0.out]; simp)
          clear ha HT1 HT2 h0
          go_wp2_with fail
          refine HL.out.mono ?_
          rintro e w1 ⟨rfl, rfl⟩
          go_wp2_with fail
          go_region_held3 (fun W' => W'.cell? ⟨g, off + k * 2, none⟩ = some (.string ⟨al.toArray⟩) ∧ W'.cell? ⟨g, off + k * 2 + 1, none⟩ = some (.string ⟨by_.toArray⟩)) (first | exact ⟨d1, d2⟩ | assumption | exact keep2 hb3 (by assumption)) ((first | (go_at_call 192; (with_reducible refine (HC2.out _).mono ?_); rintro e w3 ⟨rfl, hb3⟩)))
          all_goals
            have HBB := hb.trans ((below_drewN _ _ 1).trans (hb3.mono hb.size))
            go_wp2_with fail
            go_roundw
            case rel => exact ⟨k + 1, N3, by omega, by go_num, rfl, HNN, HBB⟩
            case measure => simp [intOf]; omega
    · have HE : Hid (r = out) := Lib.hid (by rw [← HX.out, ← HO.out, intT_all bs hlt])
      go_wp2_with fail
      go_ret
      exact ⟨ret_str HE.out.symm, hb⟩
end Go.Proofs.YtnodhkjgnegkcaaGreatDoor
