/-
  spec.Exact: the bound of one version alone.
-/
import Derived.Shelf.Strings.Prefix
import Derived.Ground.NamesProg
import Derived.Test.YtongpnknmgbhjaaGreatDoorProg
import Derived.Shelf.Strings.SplitShaped
import Derived.Shelf.Strings.Repeat
import Derived.Shelf.Strings.Shaped
import Derived.Test.YtongpnknmgbhjaaGreatDoorLawB
import Derived.Test.YtongpnknmgbhjaaGreatDoorApp
import Derived.Test.YtongpnknmgbhjaaGreatDoorRrM
import Derived.Test.YtongpnknmgbhjaaGreatDoorRdB
import Derived.Test.YtongpnknmgbhjaaGreatDoorHeap
import Derived.Deep.RegionHeld3
import Derived.Laws.DeepStrings4
import Derived.Test.YtongpnknmgbhjaaGreatDoorWholeA
import Derived.Test.YtongpnknmgbhjaaGreatDoorCmpM
import Derived.Laws.Cover1
import Derived.LoopN
import Derived.StillTailTactics
import Derived.Deep.QuietTactic
import Derived.BigQuiet
import Derived.Test.YtongpnknmgbhjaaGreatDoorRdIs
import Derived.Test.YtongpnknmgbhjaaGreatDoorTextS
import Derived.Test.YtongpnknmgbhjaaGreatDoorExM
import Derived.Test.YtongpnknmgbhjaaGreatDoorNextS
/-
  strings.HasPrefix and what it calls, as the library lays it, at this seat.
-/
namespace Go.Proofs
open Go.Shelf
def Tryz.laysPre_ren : Go.Shelf.Ren := ⟨fun | 99 => 104 | 206 => 160 | n => n, fun | 9 => 9 | 4 => 4 | 3 => 3 | n => n, fun | n => n⟩
theorem Tryz.laysPre : Go.Proofs.Lays.n99 Tryz.prog Tryz.laysPre_ren := {
  mixed := by kernel_rfl
  f99 := Tryz.func104.trans (congrArg some (by kernel_rfl))
  f206 := Tryz.func160.trans (congrArg some (by kernel_rfl))
  t3 := Tryz.underlying3
  a3 := Tryz.isAgg3
  z3 := Tryz.sizeOf3
  v3 := Tryz.zeroValue3
  t4 := Tryz.underlying4
  a4 := Tryz.isAgg4
  z4 := Tryz.sizeOf4
  v4 := Tryz.zeroValue4
  t9 := Tryz.underlying9
  a9 := Tryz.isAgg9
  z9 := Tryz.sizeOf9
  v9 := Tryz.zeroValue9 }
end Go.Proofs

/-
  strings.Split and what it calls, as the library lays it, at this seat.
-/
namespace Go.Proofs
open Go.Shelf
def Tryz.laysSplit_ren : Go.Shelf.Ren := ⟨fun | 146 => 52 | 221 => 103 | 268 => 158 | 138 => 111 | 143 => 159 | 195 => 165 | 197 => 197 | 218 => 166 | 219 => 198 | 260 => 222 | 217 => 223 | 225 => 224 | 224 => 225 | 267 => 226 | 266 => 240 | 314 => 241 | n => n, fun | 9 => 9 | 31 => 22 | 3 => 3 | 4 => 4 | 0 => 0 | 105 => 208 | 21 => 21 | 5 => 5 | 46 => 170 | 119 => 238 | 139 => 241 | 138 => 240 | 146 => 217 | 51 => 216 | n => n, fun | 1 => 0 | 3 => 1 | 4 => 2 | n => n⟩
theorem Tryz.laysSplit : Go.Proofs.LaysM.n146 Tryz.prog Tryz.laysSplit_ren := {
  mixed := by kernel_rfl
  f138 := Tryz.func111.trans (congrArg some (by kernel_rfl))
  f143 := Tryz.func159.trans (congrArg some (by kernel_rfl))
  f146 := Tryz.func52.trans (congrArg some (by kernel_rfl))
  f195 := Tryz.func165.trans (congrArg some (by kernel_rfl))
  f197 := Tryz.func197.trans (congrArg some (by kernel_rfl))
  f217 := Tryz.func223.trans (congrArg some (by kernel_rfl))
  f218 := Tryz.func166.trans (congrArg some (by kernel_rfl))
  f219 := Tryz.func198.trans (congrArg some (by kernel_rfl))
  f221 := Tryz.func103.trans (congrArg some (by kernel_rfl))
  f224 := Tryz.func225.trans (congrArg some (by kernel_rfl))
  f225 := Tryz.func224.trans (congrArg some (by kernel_rfl))
  f260 := Tryz.func222.trans (congrArg some (by kernel_rfl))
  f266 := Tryz.func240.trans (congrArg some (by kernel_rfl))
  f267 := Tryz.func226.trans (congrArg some (by kernel_rfl))
  f268 := Tryz.func158.trans (congrArg some (by kernel_rfl))
  f314 := Tryz.func241.trans (congrArg some (by kernel_rfl))
  t0 := Tryz.underlying0
  a0 := Tryz.isAgg0
  z0 := Tryz.sizeOf0
  v0 := Tryz.zeroValue0
  t3 := Tryz.underlying3
  a3 := Tryz.isAgg3
  z3 := Tryz.sizeOf3
  v3 := Tryz.zeroValue3
  t4 := Tryz.underlying4
  a4 := Tryz.isAgg4
  z4 := Tryz.sizeOf4
  v4 := Tryz.zeroValue4
  t5 := Tryz.underlying5
  a5 := Tryz.isAgg5
  z5 := Tryz.sizeOf5
  v5 := Tryz.zeroValue5
  t9 := Tryz.underlying9
  a9 := Tryz.isAgg9
  z9 := Tryz.sizeOf9
  v9 := Tryz.zeroValue9
  t21 := Tryz.underlying21
  a21 := Tryz.isAgg21
  z21 := Tryz.sizeOf21
  v21 := Tryz.zeroValue21
  t31 := Tryz.underlying22
  a31 := Tryz.isAgg22
  z31 := Tryz.sizeOf22
  v31 := Tryz.zeroValue22
  t46 := Tryz.underlying170
  a46 := Tryz.isAgg170
  z46 := Tryz.sizeOf170
  v46 := Tryz.zeroValue170
  t51 := Tryz.underlying216
  a51 := Tryz.isAgg216
  z51 := Tryz.sizeOf216
  v51 := Tryz.zeroValue216
  t105 := Tryz.underlying208
  a105 := Tryz.isAgg208
  z105 := Tryz.sizeOf208
  v105 := Tryz.zeroValue208
  t119 := Tryz.underlying238
  a119 := Tryz.isAgg238
  z119 := Tryz.sizeOf238
  t138 := Tryz.underlying240
  a138 := Tryz.isAgg240
  z138 := Tryz.sizeOf240
  v138 := Tryz.zeroValue240
  t139 := Tryz.underlying241
  a139 := Tryz.isAgg241
  z139 := Tryz.sizeOf241
  v139 := Tryz.zeroValue241
  t146 := Tryz.underlying217
  a146 := Tryz.isAgg217
  z146 := Tryz.sizeOf217
  v146 := Tryz.zeroValue217
  g1 := by kernel_rfl
  g3 := by kernel_rfl
  g4 := by kernel_rfl
  i0 := by kernel_rfl
  i3 := by kernel_rfl
  i4 := by kernel_rfl
  i5 := by kernel_rfl
  i9 := by kernel_rfl
  i21 := by kernel_rfl
  i31 := by kernel_rfl
  i46 := by kernel_rfl
  i51 := by kernel_rfl
  i105 := by kernel_rfl
  i138 := by kernel_rfl
  i139 := by kernel_rfl
  i146 := by kernel_rfl
  m1 := by kernel_rfl
  s1_3 := fun w h => Go.Proofs.cell_of_shapedOpen_int (zero := #[.int .i64 0]) (t := 3) h (of_decide_eq_true (by kernel_rfl)) (by kernel_rfl) rfl (by kernel_rfl) (by kernel_rfl) Tryz.underlying3
  m3 := by kernel_rfl
  m4 := by kernel_rfl }
end Go.Proofs

/-
  strings.Repeat and what it calls, as the library lays it, at this seat.
-/
namespace Go.Proofs
open Go.Shelf
def Tryz.laysRepeat_ren : Go.Shelf.Ren := ⟨fun | 105 => 167 | 212 => 184 | 99 => 104 | 165 => 137 | 166 => 138 | 170 => 205 | 169 => 139 | 263 => 215 | 264 => 216 | 206 => 160 | 240 => 185 | 241 => 186 | 276 => 217 | 277 => 218 | n => n, fun | 9 => 9 | 3 => 3 | 4 => 4 | 20 => 20 | 0 => 0 | 46 => 170 | 109 => 198 | 5 => 5 | 72 => 156 | 76 => 160 | 51 => 216 | 146 => 217 | 53 => 219 | 148 => 220 | 70 => 154 | 37 => 138 | 75 => 159 | 127 => 200 | 164 => 222 | 80 => 162 | n => n, fun | n => n⟩
theorem Tryz.laysRepeat : Go.Proofs.Lays.n105 Tryz.prog Tryz.laysRepeat_ren := {
  mixed := by kernel_rfl
  f99 := Tryz.func104.trans (congrArg some (by kernel_rfl))
  f105 := Tryz.func167.trans (congrArg some (by kernel_rfl))
  f165 := Tryz.func137.trans (congrArg some (by kernel_rfl))
  f166 := Tryz.func138.trans (congrArg some (by kernel_rfl))
  f169 := Tryz.func139.trans (congrArg some (by kernel_rfl))
  f170 := Tryz.func205.trans (congrArg some (by kernel_rfl))
  f206 := Tryz.func160.trans (congrArg some (by kernel_rfl))
  f212 := Tryz.func184.trans (congrArg some (by kernel_rfl))
  f240 := Tryz.func185.trans (congrArg some (by kernel_rfl))
  f241 := Tryz.func186.trans (congrArg some (by kernel_rfl))
  f263 := Tryz.func215.trans (congrArg some (by kernel_rfl))
  f264 := Tryz.func216.trans (congrArg some (by kernel_rfl))
  f276 := Tryz.func217.trans (congrArg some (by kernel_rfl))
  f277 := Tryz.func218.trans (congrArg some (by kernel_rfl))
  t0 := Tryz.underlying0
  a0 := Tryz.isAgg0
  z0 := Tryz.sizeOf0
  v0 := Tryz.zeroValue0
  t3 := Tryz.underlying3
  a3 := Tryz.isAgg3
  z3 := Tryz.sizeOf3
  v3 := Tryz.zeroValue3
  t4 := Tryz.underlying4
  a4 := Tryz.isAgg4
  z4 := Tryz.sizeOf4
  v4 := Tryz.zeroValue4
  t5 := Tryz.underlying5
  a5 := Tryz.isAgg5
  z5 := Tryz.sizeOf5
  v5 := Tryz.zeroValue5
  t9 := Tryz.underlying9
  a9 := Tryz.isAgg9
  z9 := Tryz.sizeOf9
  v9 := Tryz.zeroValue9
  t20 := Tryz.underlying20
  a20 := Tryz.isAgg20
  z20 := Tryz.sizeOf20
  v20 := Tryz.zeroValue20
  t37 := Tryz.underlying138
  a37 := Tryz.isAgg138
  z37 := Tryz.sizeOf138
  v37 := Tryz.zeroValue138
  t46 := Tryz.underlying170
  a46 := Tryz.isAgg170
  z46 := Tryz.sizeOf170
  v46 := Tryz.zeroValue170
  t51 := Tryz.underlying216
  a51 := Tryz.isAgg216
  z51 := Tryz.sizeOf216
  v51 := Tryz.zeroValue216
  t53 := Tryz.underlying219
  a53 := Tryz.isAgg219
  z53 := Tryz.sizeOf219
  v53 := Tryz.zeroValue219
  t70 := Tryz.underlying154
  a70 := Tryz.isAgg154
  z70 := Tryz.sizeOf154
  v70 := Tryz.zeroValue154
  t72 := Tryz.underlying156
  a72 := Tryz.isAgg156
  z72 := Tryz.sizeOf156
  v72 := Tryz.zeroValue156
  t75 := Tryz.underlying159
  a75 := Tryz.isAgg159
  z75 := Tryz.sizeOf159
  v75 := Tryz.zeroValue159
  t76 := Tryz.underlying160
  a76 := Tryz.isAgg160
  z76 := Tryz.sizeOf160
  v76 := Tryz.zeroValue160
  t109 := Tryz.underlying198
  a109 := Tryz.isAgg198
  z109 := Tryz.sizeOf198
  v109 := Tryz.zeroValue198
  t127 := Tryz.underlying200
  a127 := Tryz.isAgg200
  z127 := Tryz.sizeOf200
  v127 := Tryz.zeroValue200
  t146 := Tryz.underlying217
  a146 := Tryz.isAgg217
  z146 := Tryz.sizeOf217
  v146 := Tryz.zeroValue217
  t148 := Tryz.underlying220
  a148 := Tryz.isAgg220
  z148 := Tryz.sizeOf220
  v148 := Tryz.zeroValue220
  t164 := Tryz.underlying222
  a164 := Tryz.isAgg222
  z164 := Tryz.sizeOf222
  v164 := Tryz.zeroValue222 }
end Go.Proofs

/-
  strings.Cut, as the library lays it, at this seat.
-/
namespace Go.Proofs
open Go.Shelf
def Tryz.laysCut_ren : Go.Shelf.Ren := ⟨fun | 145 => 163 | 220 => 203 | 219 => 198 | 217 => 223 | 225 => 224 | 224 => 225 | 267 => 226 | 266 => 240 | 314 => 241 | n => n, fun | 9 => 9 | 4 => 4 | 59 => 178 | 3 => 3 | 5 => 5 | 46 => 170 | 146 => 217 | 51 => 216 | n => n, fun | 1 => 0 | n => n⟩
theorem Tryz.laysCut : Go.Proofs.LaysM.n145 Tryz.prog Tryz.laysCut_ren := {
  mixed := by kernel_rfl
  f145 := Tryz.func163.trans (congrArg some (by kernel_rfl))
  f217 := Tryz.func223.trans (congrArg some (by kernel_rfl))
  f219 := Tryz.func198.trans (congrArg some (by kernel_rfl))
  f220 := Tryz.func203.trans (congrArg some (by kernel_rfl))
  f224 := Tryz.func225.trans (congrArg some (by kernel_rfl))
  f225 := Tryz.func224.trans (congrArg some (by kernel_rfl))
  f266 := Tryz.func240.trans (congrArg some (by kernel_rfl))
  f267 := Tryz.func226.trans (congrArg some (by kernel_rfl))
  f314 := Tryz.func241.trans (congrArg some (by kernel_rfl))
  t3 := Tryz.underlying3
  a3 := Tryz.isAgg3
  z3 := Tryz.sizeOf3
  v3 := Tryz.zeroValue3
  t4 := Tryz.underlying4
  a4 := Tryz.isAgg4
  z4 := Tryz.sizeOf4
  v4 := Tryz.zeroValue4
  t5 := Tryz.underlying5
  a5 := Tryz.isAgg5
  z5 := Tryz.sizeOf5
  v5 := Tryz.zeroValue5
  t9 := Tryz.underlying9
  a9 := Tryz.isAgg9
  z9 := Tryz.sizeOf9
  v9 := Tryz.zeroValue9
  t46 := Tryz.underlying170
  a46 := Tryz.isAgg170
  z46 := Tryz.sizeOf170
  v46 := Tryz.zeroValue170
  t51 := Tryz.underlying216
  a51 := Tryz.isAgg216
  z51 := Tryz.sizeOf216
  v51 := Tryz.zeroValue216
  t59 := Tryz.underlying178
  a59 := Tryz.isAgg178
  z59 := Tryz.sizeOf178
  v59 := Tryz.zeroValue178
  t146 := Tryz.underlying217
  a146 := Tryz.isAgg217
  z146 := Tryz.sizeOf217
  v146 := Tryz.zeroValue217
  g1 := by kernel_rfl
  i3 := by kernel_rfl
  i4 := by kernel_rfl
  i5 := by kernel_rfl
  i9 := by kernel_rfl
  i46 := by kernel_rfl
  i51 := by kernel_rfl
  i59 := by kernel_rfl
  i146 := by kernel_rfl
  m1 := by kernel_rfl
  s1_3 := fun w h => Go.Proofs.cell_of_shapedOpen_int (zero := #[.int .i64 0]) (t := 3) h (of_decide_eq_true (by kernel_rfl)) (by kernel_rfl) rfl (by kernel_rfl) (by kernel_rfl) Tryz.underlying3 }
end Go.Proofs

/-
  Worlds that grow by one row: what is kept.
-/
namespace Go.Proofs.YtongpnknmgbhjaaGreatDoor
open Go.RowKit

theorem gr_trans {w w1 w2 : World} {row : Option Nat} (h1 : w.grownBy w1 row) (h2 : w1.grownBy w2 row) : w.grownBy w2 row :=
  ⟨h2.os.trans h1.os, h2.tape.trans h1.tape, h2.output.trans h1.output, Nat.le_trans h1.size h2.size, fun k hk hn => (h2.block k (Nat.lt_of_lt_of_le hk h1.size) hn).trans (h1.block k hk hn)⟩
theorem gr_below {w w2 : World} {row : Option Nat} (hb : Below w.heap.size w w2) : w.grownBy w2 row := ⟨hb.os, hb.tape, hb.output, hb.size, fun k hk _ => hb.block k hk⟩
theorem gr_alloc (w : World) (o : Obj) (row : Option Nat) : w.grownBy (w.alloc o) row := gr_below ((Below.refl _ _).alloc (Nat.le_refl _) _)
theorem gr_set (w : World) (g k : Nat) (x : Value) : w.grownBy (w.setCell ⟨g, k, none⟩ x) (some g) := ⟨rfl, rfl, rfl, by simp, fun j _ hj => heap_setCell_other w ⟨g, k, none⟩ j x (fun e => hj (by simp [e]))⟩
theorem Strs.grown {w w' : World} {base : Nat} {v : Value} {l : List (List UInt8)} {row : Option Nat} (h : Strs w base v l) (hg : w.grownBy w' row) (hne : ∀ g, v.ownBlock = some g → some g ≠ row) : Strs w' base v l := by
  rcases h.form with ⟨rfl, rfl⟩ | ⟨g, cap, rfl, _, _⟩
  · exact ⟨by simp, .inl ⟨rfl, rfl⟩⟩
  · exact World.ownsRow.kept h hg (.inr (fun e => hne g rfl (by rw [← e]; rfl)))
theorem gr_heap {W V : World} {row : Option Nat} {B : Nat} {o : Obj} (hg : W.grownBy V row) (h : W.heap[B]? = some o) (hne : some B ≠ row) : V.heap[B]? = some o := (hg.block B (Array.getElem?_eq_some_iff.1 h).1 hne).trans h
theorem gr_belowN {W V : World} {row : Option Nat} {n : Nat} {w : World} (hb : Below n w W) (hg : W.grownBy V row) (hn : n ≤ W.heap.size) (hr : ∀ g, row = some g → n ≤ g) : Below n w V := hb.grown hg hn hr

end Go.Proofs.YtongpnknmgbhjaaGreatDoor

/-
  append onto a row of the call's own, and where the row lies then.
-/
namespace Go.Proofs.YtongpnknmgbhjaaGreatDoor
open Go.RowKit

theorem run_append_texts2 (w : World) (ty : TypeId) (base : Nat) (v : Value) (l : List (List UInt8)) (hown : Strs w base v l) (x : Value) (ls : List (List UInt8)) (hr : RdS w x ls) (hlen : l.length + ls.length ≤ 16777216) (hbase : base ≤ w.heap.size) :
    ∃ v' w', (Builtin.append_ #[22, 22] ty #[v, x]).run Tryz.prog w = .ok v' w' ∧ Strs w' base v' (l ++ ls) ∧ w.grownBy w' v.ownBlock ∧ (v'.ownBlock = v.ownBlock ∨ v'.ownBlock = some w.heap.size) := by
  obtain ⟨i0, hi, hz0, hz1, hz2⟩ := info_parts strinfo
  obtain ⟨A, cap, rfl, hc⟩ := hr
  have fin : ∀ (a : Addr), (∀ j u, (ls.map sv)[j]? = some u → w.cell? (a.add j) = some u) → ∃ v' w', (Builtin.append_ #[22, 22] ty #[v, .slice (some a) ls.length cap]).run Tryz.prog w = .ok v' w' ∧ Strs w' base v' (l ++ ls) ∧ w.grownBy w' v.ownBlock ∧ (v'.ownBlock = v.ownBlock ∨ v'.ownBlock = some w.heap.size) := fun a hn => by
    obtain ⟨v', w', h1, h2, h3, _, h5⟩ := run_append_own_at (P := Tryz.prog) w base 22 ty 9 i0 (.string ⟨#[]⟩) 1 16 Tryz.underlying22 hi hz0 hz1 hz2 rfl (by decide) v l.length (l.map sv) hown
      a ls.length cap (ls.map sv) (by simp) hn (by intro u hu; simp at hu; obtain ⟨_, _, rfl⟩ := hu; rfl) (by unfold maxLen; omega) (by omega) hbase
    refine ⟨v', w', h1, ?_, h3, h5⟩
    unfold Strs
    rw [List.length_append, List.map_append]
    exact h2
  by_cases h0 : ls = []
  · subst h0
    cases A with
    | none => exact ⟨v, w, run_append_none w ty base v l hown cap, by simpa using hown, World.grownBy.refl w _, .inl rfl⟩
    | some a => exact fin a (fun j u h => by simp at h)
  · obtain ⟨g, off, rfl, _, hk⟩ := hc (by cases ls <;> simp_all)
    refine fin _ (fun j u h => ?_)
    rw [List.getElem?_map] at h
    cases hj : ls[j]? with
    | none => rw [hj] at h; simp at h
    | some y =>
      rw [hj] at h
      simp at h
      subst h
      obtain ⟨hl, rfl⟩ := List.getElem?_eq_some_iff.1 hj
      rw [Go.WideShapes.add_plain]
      exact hk j hl
/-- append(out, texts...) at a plain region's list, and where it lies. -/
theorem wpList_append_texts2 {w : World} {ops : Array Oper} {rest : List Oper} {o : Oper} {a : Act} {Q : Exit → Act → World → Prop} (hgd : o.guard = none) (s x : Operand)
    (ho : o.op = .call { callee := .builtin .append, args := #[s, x], argTypes := #[22, 22] })
    (base : Nat) (v : Value) (l : List (List UInt8)) (hs : a.eval s = v) (hown : Strs w base v l) (y : Value) (ls : List (List UInt8)) (hx : a.eval x = y) (hr : RdS w y ls)
    (hlen : l.length + ls.length ≤ 16777216) (hbase : base ≤ w.heap.size)
    (h : ∀ v' w', Strs w' base v' (l ++ ls) → w.grownBy w' v.ownBlock → (v'.ownBlock = v.ownBlock ∨ v'.ownBlock = some w.heap.size) → wpList Tryz.prog ops Q rest (a.put o.dst v') w') : wpList Tryz.prog ops Q (o :: rest) a w := by
  refine wpList_plain hgd fun _ hK => ?_
  obtain ⟨v', w', hr, h2, h3, h4⟩ := run_append_texts2 w o.type base v l hown y ls hr hlen hbase
  unfold Oper.wp execOp
  simp only [ho, resolve, invoke, builtin, Sem.run_bind, Sem.run_pure, Result.andThen_ok, List.map_toArray, List.map_cons, List.map_nil, hs, hx, hr]
  exact hK _ _ (h v' w' h2 h3 h4)
/-- append(out, text) at a plain region's list, and where it lies. -/
theorem wpList_append_strs2 {w : World} {ops : Array Oper} {rest : List Oper} {o : Oper} {a : Act} {Q : Exit → Act → World → Prop} (hgd : o.guard = none) (s x : Operand)
    (ho : o.op = .call { callee := .builtin .append, args := #[s, x], argTypes := #[22, 22] })
    (base : Nat) (v : Value) (l : List (List UInt8)) (hs : a.eval s = v) (hown : Strs w base v l) (y : List UInt8) (B c : Nat) (t : TypeId) (fr : Nat × Nat)
    (hx : a.eval x = .slice (some ⟨B, 0, none⟩) 1 c) (hblk : w.heap[B]? = some (.cells #[sv y] t fr)) (hlen : l.length + 1 ≤ 16777216) (hbase : base ≤ w.heap.size)
    (h : ∀ g cap w', Strs w' base (.slice (some ⟨g, 0, none⟩) (l.length + 1) cap) (l ++ [y]) → w.grownBy w' v.ownBlock → (v.ownBlock = some g ∨ g = w.heap.size) → wpList Tryz.prog ops Q rest (a.put o.dst (.slice (some ⟨g, 0, none⟩) (l.length + 1) cap)) w') : wpList Tryz.prog ops Q (o :: rest) a w := by
  refine wpList_plain hgd fun _ hK => ?_
  obtain ⟨g, cap, w', hr, h2, h3, h4⟩ := run_append_strs w o.type base v l hown y B c t fr hblk hlen hbase
  unfold Oper.wp execOp
  simp only [ho, resolve, invoke, builtin, Sem.run_bind, Sem.run_pure, Result.andThen_ok, List.map_toArray, List.map_cons, List.map_nil, hs, hx, hr]
  exact hK _ _ (h g cap w' h2 h3 h4)

end Go.Proofs.YtongpnknmgbhjaaGreatDoor

/-
  spec.l03Parts: the parts of a text between blank, two bars and blank.
-/
namespace Go.Proofs.YtongpnknmgbhjaaGreatDoor
open Go.RowKit

/-- k bytes are read, the parts that end ahead of st are told. -/
def PtAt (l : List UInt8) (k st : Nat) (done : List (List UInt8)) : Prop := rgPs l = done ++ rgPs (l.drop st) ∧ done.length ≤ k ∧ st ≤ l.length ∧ ∀ j, st ≤ j → j < k → Lib.occAt l orSep j = false
theorem occ_drop (l sep : List UInt8) (a j : Nat) : Lib.occAt (l.drop a) sep j = Lib.occAt l sep (a + j) := by unfold Lib.occAt; rw [List.drop_drop]
theorem occ_late {l : List UInt8} {j : Nat} (h : l.length < j + 4) : Lib.occAt l orSep j = false := by
  cases he : Lib.occAt l orSep j with
  | false => rfl
  | true =>
    unfold Lib.occAt at he
    have := (List.isPrefixOf_iff_prefix.1 he).length_le
    simp [orSep] at this
    omega
theorem ptAt_zero (l : List UInt8) : PtAt l 0 0 [] := ⟨by simp, Nat.le_refl _, Nat.zero_le _, fun j _ h => absurd h (Nat.not_lt_zero _)⟩
theorem ptAt_early {l : List UInt8} {k st : Nat} {done : List (List UInt8)} (h : PtAt l k st done) (hk : ¬ st ≤ k) : PtAt l (k + 1) st done := ⟨h.1, Nat.le_succ_of_le h.2.1, h.2.2.1, fun j h1 h2 => absurd h1 (by omega)⟩
theorem ptAt_pass {l : List UInt8} {k st : Nat} {done : List (List UInt8)} (h : PtAt l k st done) (ho : Lib.occAt l orSep k = false) : PtAt l (k + 1) st done := ⟨h.1, Nat.le_succ_of_le h.2.1, h.2.2.1, fun j h1 h2 => by
  rcases Nat.lt_or_ge j k with hj | hj
  · exact h.2.2.2 j h1 hj
  · obtain rfl : j = k := by omega
    exact ho⟩
theorem ptAt_mark {l : List UInt8} {k st : Nat} {done : List (List UInt8)} (h : PtAt l k st done) (hst : st ≤ k) (hk : k + 4 ≤ l.length) (ho : Lib.occAt l orSep k = true) : PtAt l (k + 1) (k + 4) (done ++ [(l.take k).drop st]) := by
  obtain ⟨h1, h2, h3, h4⟩ := h
  refine ⟨?_, by simp; omega, hk, fun j a b => absurd a (by omega)⟩
  have hi : Lib.index (l.drop st) orSep = ((k - st : Nat) : Int) := Lib.index_first (by simp; omega) (by rw [occ_drop, Nat.add_sub_cancel' hst]; exact ho) (fun j hj => by rw [occ_drop]; exact h4 _ (by omega) (by omega))
  rw [h1]
  unfold rgPs
  rw [split_hit (by decide) hi, List.drop_drop]
  have e1 : (l.drop st).take (k - st) = (l.take k).drop st := by rw [List.drop_take]
  have e2 : st + (k - st + orSep.length) = k + 4 := by show st + (k - st + 4) = k + 4; omega
  rw [e1, e2]
  simp
theorem ptAt_end {l : List UInt8} {k st : Nat} {done : List (List UInt8)} (h : PtAt l k st done) (hk : ¬ k + 4 ≤ l.length) : rgPs l = done ++ [l.drop st] := by
  obtain ⟨h1, h2, h3, h4⟩ := h
  rw [h1]
  have hi : Lib.index (l.drop st) orSep = -1 := Lib.index_none (fun j _ => by
    rw [occ_drop]
    rcases Nat.lt_or_ge (st + j) k with hj | hj
    · exact h4 _ (by omega) hj
    · exact occ_late (by omega))
  unfold rgPs
  rw [split_none hi]
theorem occ_piece (s : ByteArray) (k : Nat) (_hk : k + 4 ≤ s.size) : Lib.occAt s.data.toList orSep k = ((s.extract k (k + 4)).data.toList == orSep) := by
  have hl : s.data.toList.length = s.size := by simp
  have e : (s.extract k (k + 4)).data.toList = (s.data.toList.drop k).take 4 := by rw [Lib.extract_data]; simp
  rw [e]
  unfold Lib.occAt
  rw [Bool.eq_iff_iff, List.isPrefixOf_iff_prefix, beq_iff_eq]
  constructor
  · intro h; exact (List.prefix_iff_eq_take.1 h).symm
  · intro h; rw [← h]; exact List.take_prefix _ _

set_option maxRecDepth 100000 in
set_option maxHeartbeats 2000000 in
theorem l03Parts_any (s : ByteArray) (w : World) (hs : s.size ≤ 1048576) :
    Calls Tryz.prog 50 #[.string s] w fun e w' => ∃ g cap, e = .returned (.slice (some ⟨g, 0, none⟩) (rgPs s.data.toList).length cap) ∧ Strs w' w.heap.size (.slice (some ⟨g, 0, none⟩) (rgPs s.data.toList).length cap) (rgPs s.data.toList) ∧ Below w.heap.size w w' := by
  have hll : s.data.toList.length = s.size := by simp
  have HLL := Lib.hid hll
  clear hll
  go_enter Tryz.func50, Tryz.ntmps50
  go_wp2
  go_loopw [3, 4, 5] (fun v f n wr => ∃ (k st : Nat) (done : List (List UInt8)), k ≤ s.size ∧ n = .int .i64 k ∧ f = .int .i64 st ∧ Strs wr w.heap.size v done ∧ Below w.heap.size w wr ∧ PtAt s.data.toList k st done) (fun _ _ n _ => s.size - (intOf n).toNat)
  case atStart => exact ⟨0, 0, [], Nat.zero_le _, rfl, rfl, Strs.empty w _ (Nat.le_refl _), (Below.refl _ _).alloc (Nat.le_refl _) _, ptAt_zero _⟩
  case round =>
    obtain ⟨k, st, done, hk, rfl, rfl, hown, hb, HP⟩ := hrel
    have hst : st ≤ s.size := by have := HP.2.2.1; rw [HLL.out] at this; exact this
    have hdl := HP.2.1
    have k4 : IntKind.i64.wrap ((k : Int) + 4) = (k : Int) + 4 := IntWalk.i64_in _ (by omega)
    by_cases hlt : k + 4 ≤ s.size
    · by_cases hsk : st ≤ k
      · have ho := occ_piece s k hlt
        have he := slice_str s _ k (k + 4) (k : Int) ((k : Int) + 4) rfl (by omega) (by omega) (by omega) rfl
        obtain ⟨z, hz⟩ : ∃ z, s.extract k (k + 4) = z := ⟨_, rfl⟩
        rw [hz] at ho he
        cases hq : z.data.toList == orSep with
        | true =>
          have HN := Lib.hid (ptAt_mark HP hsk (by rw [HLL.out]; exact hlt) (by rw [ho, hq]))
          have q1 : (z.toList == [32, 124, 124, 32]) = true := by rw [ByteArray.toList_eq]; exact hq
          have he2 := slice_str s _ st k (st : Int) (k : Int) rfl rfl (by omega) (by omega) (piece s st k)
          clear HP ho hz hq
          go_wp2_with (at_builtin; refine wpList_append_strs rfl _ _ rfl w.heap.size _ _ rfl (hown.alloc _) ((s.data.toList.take k).drop st) wr.heap.size _ _ _ rfl (heap_alloc_new wr _) (by omega) (by simp; exact Nat.le_succ_of_le hb.size) ?_; intro g cap w2 hown2 hb2)
          have HB := hb.trans (((Below.refl w.heap.size wr).alloc hb.size _).trans hb2)
          go_wp2
          go_roundw
          case rel => exact ⟨k + 1, k + 4, _, by omega, by go_num, by go_num, hown2, HB, HN.out⟩
          case measure => simp [intOf]; omega
        | false =>
          have HN := Lib.hid (ptAt_pass HP (by rw [ho, hq]))
          have q1 : (z.toList == [32, 124, 124, 32]) = false := by rw [ByteArray.toList_eq]; exact hq
          clear HP ho hz hq
          go_wp2_with fail
          go_roundw
          case rel => exact ⟨k + 1, st, done, by omega, by go_num, rfl, hown, hb, HN.out⟩
          case measure => simp [intOf]; omega
      · have HN := Lib.hid (ptAt_early HP hsk)
        clear HP
        go_wp2_with fail
        go_roundw
        case rel => exact ⟨k + 1, st, done, by omega, by go_num, rfl, hown, hb, HN.out⟩
        case measure => simp [intOf]; omega
    · have HN := Lib.hid (ptAt_end HP (by rw [HLL.out]; exact hlt))
      have he := slice_from s _ st (st : Int) rfl (by omega) (piece_end s st)
      clear HP
      go_wp2_with (at_builtin; refine wpList_append_strs rfl _ _ rfl w.heap.size _ _ rfl (hown.alloc _) (s.data.toList.drop st) wr.heap.size _ _ _ rfl (heap_alloc_new wr _) (by omega) (by simp; exact Nat.le_succ_of_le hb.size) ?_; intro g cap w2 hown2 hb2)
      have HB := hb.trans (((Below.refl w.heap.size wr).alloc hb.size _).trans hb2)
      go_wp2
      go_ret
      refine ⟨g, cap, ?_, ?_, HB⟩
      · rw [HN.out]; simp
      · rw [HN.out]; simpa using hown2
end Go.Proofs.YtongpnknmgbhjaaGreatDoor

/-
  Calls of strings' functions: HasPrefix, CutPrefix, Count of one byte, Repeat, Split.
-/
namespace Go.Proofs
open Go.Shelf
theorem Tryz.extraRepeat : Builder.Extra Tryz.prog Tryz.laysRepeat_ren where
  sizeBuilder := by kernel_rfl
  liesBuilder := by kernel_rfl
  t5 := Tryz.underlying5
  a5 := Tryz.isAgg5
  z5 := Tryz.sizeOf5
  v5 := Tryz.zeroValue5
  infoByte := by kernel_rfl
  cellsByte := by kernel_rfl
  sizeByte := by kernel_rfl
  neB5 := by decide
namespace YtongpnknmgbhjaaGreatDoor
open Go.RowKit

theorem liteHas_any (s p : ByteArray) (w : World) : Calls Tryz.prog 160 #[.string s, .string p] w fun e w' => e = .returned (.bool (p.data.toList.isPrefixOf s.data.toList)) ∧ w' = w :=
  Any.stringslite_HasPrefix { Tryz.laysPre with } s p w
theorem hasPrefix_any (s p : ByteArray) (w : World) : Calls Tryz.prog 104 #[.string s, .string p] w fun e w' => e = .returned (.bool (p.data.toList.isPrefixOf s.data.toList)) ∧ w' = w :=
  Any.strings_HasPrefix Tryz.laysPre s p w
theorem count_any (s : ByteArray) (c : UInt8) (w : World) : Calls Tryz.prog 111 #[.string s, .string ⟨#[c]⟩] w fun e w' => e = .returned (.int .i64 (s.data.toList.count c : Nat)) ∧ w' = w :=
  Any.strings_Count_one { Tryz.laysSplit with } s c w
theorem repeat_any (s : ByteArray) (c : Nat) (w : World) (hc : c ≤ 1000) (hs : s.size ≤ 1000) : Calls Tryz.prog 167 #[.string s, .int .i64 c] w fun e w' => e = .returned (.string ⟨(Lib.repeatL s.data.toList c).toArray⟩) ∧ Below w.heap.size w w' :=
  Any.strings_Repeat Tryz.laysRepeat Tryz.extraRepeat s c w (by omega) (Nat.le_trans (Nat.mul_le_mul hs hc) (by decide))
/-- strings.CutPrefix: the text behind the mark, or all of it. -/
theorem cutPrefix_yes (s p r : ByteArray) (w : World) (hp : p.data.toList.isPrefixOf s.data.toList = true) (hr : s.extract p.size s.size = r) :
    Calls Tryz.prog 204 #[.string s, .string p] w fun e w' => e = .returned (.tuple #[.string r, .bool true]) ∧ w' = w := by
  have hle : p.size ≤ s.size := by
    have := (List.isPrefixOf_iff_prefix.1 hp).length_le
    simpa using this
  have H1 := Lib.hid (fun (W : World) => liteHas_any s p W)
  simp only [hp] at H1
  have he := slice_from s r p.size (p.size : Int) rfl hle hr
  clear hp hr
  have H2 : Hid (∀ W, Calls Tryz.prog 230 #[.string s, .string p] W fun e w' => e = .returned (.tuple #[.string r, .bool true]) ∧ w' = W) := Lib.hid (fun W => by
    go_enter Tryz.func230, Tryz.ntmps230
    go_wp2_with fail
    refine (H1.out _).mono ?_
    rintro e w' ⟨rfl, rfl⟩
    go_wp2_with fail
    go_ret2
    exact ⟨rfl, rfl⟩)
  go_enter Tryz.func204, Tryz.ntmps204
  go_wp2_with fail
  refine (H2.out _).mono ?_
  rintro e w' ⟨rfl, rfl⟩
  go_wp2_with fail
  go_ret2
  exact ⟨rfl, rfl⟩
theorem cutPrefix_no (s p : ByteArray) (w : World) (hp : p.data.toList.isPrefixOf s.data.toList = false) :
    Calls Tryz.prog 204 #[.string s, .string p] w fun e w' => e = .returned (.tuple #[.string s, .bool false]) ∧ w' = w := by
  have H1 := Lib.hid (fun (W : World) => liteHas_any s p W)
  simp only [hp] at H1
  clear hp
  have H2 : Hid (∀ W, Calls Tryz.prog 230 #[.string s, .string p] W fun e w' => e = .returned (.tuple #[.string s, .bool false]) ∧ w' = W) := Lib.hid (fun W => by
    go_enter Tryz.func230, Tryz.ntmps230
    go_wp2_with fail
    refine (H1.out _).mono ?_
    rintro e w' ⟨rfl, rfl⟩
    go_wp2_with fail
    go_ret2
    exact ⟨rfl, rfl⟩)
  go_enter Tryz.func204, Tryz.ntmps204
  go_wp2_with fail
  refine (H2.out _).mono ?_
  rintro e w' ⟨rfl, rfl⟩
  go_wp2_with fail
  go_ret2
  exact ⟨rfl, rfl⟩
theorem idxOne (m : UInt8) : ∀ l : List UInt8, Lib.index l [m] = Lib.indexByte l m := fun l => Lib.index_one l m
/-- strings.Cut at a blank. -/
theorem cutSp_any (s : List UInt8) (m : Int) (w : World) (hs : s.length ≤ 1048576) (hm : w.cell? ⟨0, 0, none⟩ = some (.int .i64 m)) :
    Calls Tryz.prog 163 #[.string ⟨s.toArray⟩, .string ⟨#[32]⟩] w fun e w' => e = .returned (.tuple #[.string ⟨(Lib.cut s [32]).1.toArray⟩, .string ⟨(Lib.cut s [32]).2.1.toArray⟩, .bool (Lib.cut s [32]).2.2]) ∧ ∃ n, w' = w.drewN n :=
  Any.strings_Cut { Tryz.laysCut with } ⟨s.toArray⟩ ⟨#[32]⟩ m w (by show s.toArray.size < _; simp; omega) hm
theorem pieces_len (sep s : ByteArray) (h1 : 1 ≤ sep.size) : (Lib.splitB sep 0 (Lib.countB s sep) s).length = Lib.countB s sep + 1 := Lib.splitB_all sep h1 0 _ s rfl
theorem pieces_sv (sep s : ByteArray) : (Lib.splitB sep 0 (Lib.countB s sep) s).map Value.string = (Lib.split s.data.toList sep.data.toList).map sv := by
  have h := Lib.splitB_data sep 0 (Lib.countB s sep) s
  have e : Lib.split s.data.toList sep.data.toList = Lib.splitK sep.data.toList 0 (Lib.countB s sep) s.data.toList := rfl
  rw [e, ← h, List.map_map]
  apply List.map_congr_left
  intro x _
  show Value.string x = .string ⟨x.data.toList.toArray⟩
  exact congrArg Value.string (bytes_ext (by simp))
/-- strings.Split at " || ". -/
theorem split_any (s : ByteArray) (m : Int) (w : World) (hs : s.size ≤ 1048576) (hm : w.cell? ⟨0, 0, none⟩ = some (.int .i64 m)) :
    Calls Tryz.prog 52 #[.string s, .string ⟨#[32, 124, 124, 32]⟩] w fun e w' => ∃ g cap, e = .returned (.slice (some ⟨g, 0, none⟩) (rgPs s.data.toList).length cap) ∧ Strs w' w.heap.size (.slice (some ⟨g, 0, none⟩) (rgPs s.data.toList).length cap) (rgPs s.data.toList) ∧ Below w.heap.size w w' := by
  have hp : (⟨#[32, 124, 124, 32]⟩ : ByteArray).data.toList = orSep := rfl
  have h1 : 1 ≤ (⟨#[32, 124, 124, 32]⟩ : ByteArray).size := by decide
  refine (Any.strings_Split { Tryz.laysSplit with } Tryz.laysSplit.i9 s ⟨#[32, 124, 124, 32]⟩ m w (by omega) hm h1).mono fun e w' h => ?_
  obtain ⟨rfl, rfl⟩ := h
  have hv := pieces_sv ⟨#[32, 124, 124, 32]⟩ s
  have hl := pieces_len ⟨#[32, 124, 124, 32]⟩ s h1
  have hn : Lib.countB s ⟨#[32, 124, 124, 32]⟩ + 1 = (rgPs s.data.toList).length := by
    rw [← hl, ← List.length_map (f := Value.string), hv, List.length_map]; rfl
  have hc : Lib.countB s ⟨#[32, 124, 124, 32]⟩ ≤ s.size := Lib.countB_le _ h1 s.size s (Nat.le_refl _)
  refine ⟨w.heap.size, _, by rw [hn], ?_, (Below.refl _ _).alloc (Nat.le_refl _) _⟩
  rw [hv]
  have hx : ((Lib.split s.data.toList (⟨#[32, 124, 124, 32]⟩ : ByteArray).data.toList).map sv) = (rgPs s.data.toList).map sv := rfl
  rw [hx]
  have h := World.ownsRow_lit (base := w.heap.size) (e := 9) (size := 1) w ((rgPs s.data.toList).map sv).toArray (rgPs s.data.toList).length (Nat.le_refl _) (by unfold maxLen; omega) (by simp)
  show Strs (w.alloc (.cells ((rgPs s.data.toList).map sv).toArray 9)) w.heap.size _ _
  simpa [Strs, hn] using h
end YtongpnknmgbhjaaGreatDoor
end Go.Proofs

/-
  The algorithms of sums in plain words.
-/
namespace Go.Proofs.YtongpnknmgbhjaaGreatDoor

def sha1L : List UInt8 := [115, 104, 97, 49]
def sha256L : List UInt8 := [115, 104, 97, 50, 53, 54]
def sha512L : List UInt8 := [115, 104, 97, 53, 49, 50]
def h1L : List UInt8 := [104, 49]
/-- A sum that an integrity text tells. -/
def algOk (a : List UInt8) : Bool := a == sha1L || a == sha256L || a == sha512L
/-- How many bytes a sum has, or -1. -/
def longI (a : List UInt8) : Int := if a = sha1L then 20 else if a = sha256L then 32 else if a = h1L then 32 else if a = sha512L then 64 else -1
end Go.Proofs.YtongpnknmgbhjaaGreatDoor

/-
  spec.l04Long: how many bytes a sum of an algorithm has; texts put together.
-/
namespace Go.Proofs.YtongpnknmgbhjaaGreatDoor
open Go.RowKit

/-- Two texts put together. -/
theorem add_lists (W : World) (x y : List UInt8) (hx : x.length ≤ 1073741824) (hy : y.length ≤ 1073741824) : (Op.stringOp .add ⟨x.toArray⟩ ⟨y.toArray⟩).run Tryz.prog W = .ok (.string ⟨(x ++ y).toArray⟩) W := by
  rw [run_string_add_sum W _ _ (by simp [ByteArray.size]; omega), ByteArray.mk_append_mk]
set_option maxRecDepth 100000 in
theorem l04Long_any (a : List UInt8) (w : World) : Calls Tryz.prog 145 #[.string ⟨a.toArray⟩] w fun e w' => e = .returned (.int .i64 (longI a)) ∧ w = w' := by
  by_cases h1 : a = sha1L
  · subst h1
    go_enter Tryz.func145, Tryz.ntmps145
    go_wp2
    go_ret
    exact ⟨rfl, rfl⟩
  · by_cases h2 : a = sha256L
    · subst h2
      go_enter Tryz.func145, Tryz.ntmps145
      go_wp2
      go_ret
      exact ⟨rfl, rfl⟩
    · by_cases h0 : a = h1L
      · subst h0
        go_enter Tryz.func145, Tryz.ntmps145
        go_wp2
        go_ret
        exact ⟨rfl, rfl⟩
      · by_cases h3 : a = sha512L
        · subst h3
          go_enter Tryz.func145, Tryz.ntmps145
          go_wp2
          go_ret
          exact ⟨rfl, rfl⟩
        · have HX : Hid (longI a = -1) := Lib.hid (by unfold longI; rw [if_neg h1, if_neg h2, if_neg h0, if_neg h3])
          have q1 : (a == [115, 104, 97, 49]) = false := by simpa [sha1L] using h1
          have q2 : (a == [115, 104, 97, 50, 53, 54]) = false := by simpa [sha256L] using h2
          have q3 : (a == [104, 49]) = false := by simpa [h1L] using h0
          have q4 : (a == [115, 104, 97, 53, 49, 50]) = false := by simpa [sha512L] using h3
          clear h1 h2 h0 h3
          go_enter Tryz.func145, Tryz.ntmps145
          go_wp2
          go_ret
          exact ⟨ret_int HX.out.symm, rfl⟩

theorem RdB.at {w : World} {A : Option Addr} {n cap : Nat} {bs : List Bd} (h : RdB w (.slice A n cap) bs) (k : Nat) (hk : k < bs.length) : ∃ g off, A = some ⟨g, off, none⟩ ∧ g < w.heap.size ∧ w.cell? ⟨g, off + k * 2, none⟩ = some (.string ⟨bs[k].1.toArray⟩) ∧ w.cell? ⟨g, off + k * 2 + 1, none⟩ = some (.string ⟨bs[k].2.toArray⟩) := by
  obtain ⟨A', ca', hv, ha⟩ := h
  simp only [Value.slice.injEq] at hv
  obtain ⟨rfl, _, rfl⟩ := hv
  obtain ⟨g, off, hA, hg, hc⟩ := ha (by omega)
  exact ⟨g, off, hA, hg, (hc k hk).1, (hc k hk).2⟩
theorem keep2 {W V : World} {A B o p : Nat} {v u : Value} (hb : Below W.heap.size W V) (h : W.cell? ⟨A, o, none⟩ = some v ∧ W.cell? ⟨B, p, none⟩ = some u) : V.cell? ⟨A, o, none⟩ = some v ∧ V.cell? ⟨B, p, none⟩ = some u := ⟨keepC hb h.1, keepC hb h.2⟩

end Go.Proofs.YtongpnknmgbhjaaGreatDoor

/-
  impl.readPartial, impl.readLimit, impl.readLimits.
-/
namespace Go.Proofs.YtongpnknmgbhjaaGreatDoor
open Go.RowKit

theorem one_cell {V : World} {B : Nat} {T : TypeId} {v0 : Value} (h : V.heap[B]? = some (.cells #[v0] T)) : V.cell? ⟨B, 0, none⟩ = some v0 := by simp [World.cell?, h]
set_option maxRecDepth 100000 in
set_option maxHeartbeats 4000000 in
theorem readPartial_0 (l : List UInt8) (w : World) (hl : l.length ≤ 1048000) (ht : Tab w) (hc : l.count 46 = 0) :
    Calls Tryz.prog 112 #[.string ⟨l.toArray⟩] w (AltIs w (fromOk (l ++ [46, 48, 46, 48]) 0) (fromB (l ++ [46, 48, 46, 48]) 0)) := by
  have HC := Lib.hid (fun W => count_any ⟨l.toArray⟩ 46 W)
  have hcc : ((⟨l.toArray⟩ : ByteArray).data.toList.count 46 : Nat) = 0 := hc
  simp only [hcc] at HC
  have hrep : (Lib.repeatL (⟨#[46, 48]⟩ : ByteArray).data.toList 2) = [46, 48, 46, 48] := by decide
  have HN := Lib.hid (fun W => repeat_any ⟨#[46, 48]⟩ 2 W (by omega) (by decide))
  simp only [hrep] at HN
  have s1 : ∀ W, (Op.stringOp .add ⟨l.toArray⟩ ⟨([46, 48, 46, 48] : List UInt8).toArray⟩).run Tryz.prog W = .ok (.string ⟨(l ++ [46, 48, 46, 48]).toArray⟩) W := fun W => add_lists W l [46, 48, 46, 48] (by omega) (by simp)
  have hll : (l ++ [46, 48, 46, 48]).length ≤ 1048576 := by simp; omega
  have B0 : Below w.heap.size w (w.alloc (.cells #[.string ⟨#[]⟩, .string ⟨#[]⟩] 73)) := (Below.refl _ _).alloc (Nat.le_refl _) _
  have B1 := B0.alloc B0.size (.cells #[.int .i64 0] 3)
  have r1 := keepA (heap_alloc_new w (.cells #[.string ⟨#[]⟩, .string ⟨#[]⟩] 73)) (.cells #[.int .i64 0] 3)
  have q1 := heap_new (W := w.alloc (.cells #[.string ⟨#[]⟩, .string ⟨#[]⟩] 73)) (n := w.heap.size + 1) (by simp) (.cells #[.int .i64 0] 3)
  have HF := Lib.hid (fun (W : World) (h : Below w.heap.size w W) (hQ : W.cell? ⟨w.heap.size + 1, 0, none⟩ = some (.int .i64 0)) => rfPartial_any (l ++ [46, 48, 46, 48]) 0 (w.heap.size + 1) W hll (tab_below ht h) (by decide) hQ)
  generalize fromOk (l ++ [46, 48, 46, 48]) 0 = q at HF ⊢
  generalize fromB (l ++ [46, 48, 46, 48]) 0 = fb at HF ⊢
  generalize l ++ [46, 48, 46, 48] = L at HF s1 hll
  clear hc hcc hll ht hl
  go_enter Tryz.func112, Tryz.ntmps112
  go_wp2_with fail
  refine (HC.out _).mono ?_
  rintro e w2 ⟨rfl, hw2⟩
  subst hw2
  go_wp2_with fail
  refine (HN.out _).mono ?_
  rintro e w3 ⟨rfl, hb3⟩
  have B3 := B1.trans (hb3.mono B1.size)
  have r3 := keepB r1 hb3
  have q3 := keepB q1 hb3
  clear hb3 r1 q1 B1 B0
  go_wp2_with fail
  refine (HF.out _ B3 (one_cell q3)).mono ?_
  rintro e w5 ⟨x, y, rfl, hxy, hb5⟩
  have B5 := B3.trans (hb5.mono B3.size)
  obtain ⟨c0, c1⟩ := two_cells (keepB r3 hb5)
  have f0 := frozen2 (keepB r3 hb5) 0
  have f1 := frozen2 (keepB r3 hb5) 1
  go_wp2_with fail
  refine bodyPost_ret (v := .tuple #[.agg #[.string x, .string y], .bool q]) ?_ rfl ⟨_, _, rfl, hxy, ?_⟩
  · simp [results, Tryz.results112, go_sem, c0, c1]
  · exact below_res2 B5 (Nat.le_refl _) _ _

set_option maxRecDepth 100000 in
set_option maxHeartbeats 4000000 in
theorem readPartial_1 (l : List UInt8) (w : World) (hl : l.length ≤ 1048000) (ht : Tab w) (hc : l.count 46 = 1) :
    Calls Tryz.prog 112 #[.string ⟨l.toArray⟩] w (AltIs w (fromOk (l ++ [46, 48]) 1) (fromB (l ++ [46, 48]) 1)) := by
  have HC := Lib.hid (fun W => count_any ⟨l.toArray⟩ 46 W)
  have hcc : ((⟨l.toArray⟩ : ByteArray).data.toList.count 46 : Nat) = 1 := hc
  simp only [hcc] at HC
  have hrep : (Lib.repeatL (⟨#[46, 48]⟩ : ByteArray).data.toList 1) = [46, 48] := by decide
  have HN := Lib.hid (fun W => repeat_any ⟨#[46, 48]⟩ 1 W (by omega) (by decide))
  simp only [hrep] at HN
  have s1 : ∀ W, (Op.stringOp .add ⟨l.toArray⟩ ⟨([46, 48] : List UInt8).toArray⟩).run Tryz.prog W = .ok (.string ⟨(l ++ [46, 48]).toArray⟩) W := fun W => add_lists W l [46, 48] (by omega) (by simp)
  have hll : (l ++ [46, 48]).length ≤ 1048576 := by simp; omega
  have B0 : Below w.heap.size w (w.alloc (.cells #[.string ⟨#[]⟩, .string ⟨#[]⟩] 73)) := (Below.refl _ _).alloc (Nat.le_refl _) _
  have B1 := B0.alloc B0.size (.cells #[.int .i64 1] 3)
  have r1 := keepA (heap_alloc_new w (.cells #[.string ⟨#[]⟩, .string ⟨#[]⟩] 73)) (.cells #[.int .i64 1] 3)
  have q1 := heap_new (W := w.alloc (.cells #[.string ⟨#[]⟩, .string ⟨#[]⟩] 73)) (n := w.heap.size + 1) (by simp) (.cells #[.int .i64 1] 3)
  have HF := Lib.hid (fun (W : World) (h : Below w.heap.size w W) (hQ : W.cell? ⟨w.heap.size + 1, 0, none⟩ = some (.int .i64 1)) => rfPartial_any (l ++ [46, 48]) 1 (w.heap.size + 1) W hll (tab_below ht h) (by decide) hQ)
  generalize fromOk (l ++ [46, 48]) 1 = q at HF ⊢
  generalize fromB (l ++ [46, 48]) 1 = fb at HF ⊢
  generalize l ++ [46, 48] = L at HF s1 hll
  clear hc hcc hll ht hl
  go_enter Tryz.func112, Tryz.ntmps112
  go_wp2_with fail
  refine (HC.out _).mono ?_
  rintro e w2 ⟨rfl, hw2⟩
  subst hw2
  go_wp2_with fail
  refine (HN.out _).mono ?_
  rintro e w3 ⟨rfl, hb3⟩
  have B3 := B1.trans (hb3.mono B1.size)
  have r3 := keepB r1 hb3
  have q3 := keepB q1 hb3
  clear hb3 r1 q1 B1 B0
  go_wp2_with fail
  refine (HF.out _ B3 (one_cell q3)).mono ?_
  rintro e w5 ⟨x, y, rfl, hxy, hb5⟩
  have B5 := B3.trans (hb5.mono B3.size)
  obtain ⟨c0, c1⟩ := two_cells (keepB r3 hb5)
  have f0 := frozen2 (keepB r3 hb5) 0
  have f1 := frozen2 (keepB r3 hb5) 1
  go_wp2_with fail
  refine bodyPost_ret (v := .tuple #[.agg #[.string x, .string y], .bool q]) ?_ rfl ⟨_, _, rfl, hxy, ?_⟩
  · simp [results, Tryz.results112, go_sem, c0, c1]
  · exact below_res2 B5 (Nat.le_refl _) _ _

theorem readPartial_any (l : List UInt8) (w : World) (hl : l.length ≤ 1048000) (ht : Tab w) (hc : l.count 46 < 2) :
    Calls Tryz.prog 112 #[.string ⟨l.toArray⟩] w (AltIs w (fromOk (l ++ zrs (l.count 46)) (l.count 46)) (fromB (l ++ zrs (l.count 46)) (l.count 46))) := by
  have h : l.count 46 = 0 ∨ l.count 46 = 1 := by omega
  rcases h with h | h
  · rw [h]; exact readPartial_0 l w hl ht h
  · rw [h]; exact readPartial_1 l w hl ht h

/-- What a limit reads as: the version behind the mark, or nothing. -/
def lmT (p l : List UInt8) : List UInt8 := if p.isPrefixOf l = true ∧ readOk (l.drop p.length) = true then l.drop p.length else []
theorem lmT_yes {p l : List UInt8} (h1 : p.isPrefixOf l = true) (h2 : readOk (l.drop p.length) = true) : lmT p l = l.drop p.length := if_pos ⟨h1, h2⟩
theorem lmT_no1 {p l : List UInt8} (h1 : p.isPrefixOf l = false) : lmT p l = [] := if_neg (by rw [h1]; simp)
theorem lmT_no2 {p l : List UInt8} (h2 : readOk (l.drop p.length) = false) : lmT p l = [] := if_neg (by rw [h2]; simp)
set_option maxRecDepth 100000 in
set_option maxHeartbeats 4000000 in
theorem readLimit_any (l p : List UInt8) (w : World) (hl : l.length ≤ 1048000) (ht : Tab w) :
    Calls Tryz.prog 164 #[.string ⟨l.toArray⟩, .string ⟨p.toArray⟩] w fun e w' => e = .returned (.string ⟨(lmT p l).toArray⟩) ∧ Below w.heap.size w w' := by
  have HR := Lib.hid (fun (m : List UInt8) (h : m.length ≤ 1048000) W => readV_any m W (by omega))
  cases hp : p.isPrefixOf l with
  | false =>
    rw [lmT_no1 hp]
    have HC := Lib.hid (fun W => cutPrefix_no ⟨l.toArray⟩ ⟨p.toArray⟩ W hp)
    cases hok : readOk l
    all_goals
      have HO := Lib.hid hok
      clear hok hp ht
      go_enter Tryz.func164, Tryz.ntmps164
      go_wp2_with fail
      refine (HC.out _).mono ?_
      rintro e w1 ⟨rfl, hw1⟩
      subst hw1
      go_wp2_with fail
      refine (HR.out _ hl _).mono ?_
      rintro e w2 ⟨u, rfl, hu, hb2⟩
      obtain ⟨U, uc, rfl⟩ := hu.slice
      rw [HO.out]
      go_wp2_with fail
      go_ret
      exact ⟨rfl, hb2.alloc hb2.size _⟩
  | true =>
    have hle : p.length ≤ l.length := (List.isPrefixOf_iff_prefix.1 hp).length_le
    have HC := Lib.hid (fun W => cutPrefix_yes ⟨l.toArray⟩ ⟨p.toArray⟩ ⟨(l.drop p.length).toArray⟩ W hp (by
      have := piece_end (⟨l.toArray⟩ : ByteArray) p.length
      rw [size_of p]; exact this))
    cases hok : readOk (l.drop p.length) with
    | false =>
      rw [lmT_no2 hok]
      have hl2 : (l.drop p.length).length ≤ 1048000 := by simp; omega
      generalize l.drop p.length = d at HC hok hl2
      have HO := Lib.hid hok
      clear hok hp ht hle
      go_enter Tryz.func164, Tryz.ntmps164
      go_wp2_with fail
      refine (HC.out _).mono ?_
      rintro e w1 ⟨rfl, hw1⟩
      subst hw1
      go_wp2_with fail
      refine (HR.out _ hl2 _).mono ?_
      rintro e w2 ⟨u, rfl, hu, hb2⟩
      obtain ⟨U, uc, rfl⟩ := hu.slice
      rw [HO.out]
      go_wp2_with fail
      go_ret
      exact ⟨rfl, hb2.alloc hb2.size _⟩
    | true =>
      rw [lmT_yes hp hok]
      have hl2 : (l.drop p.length).length ≤ 1048000 := by simp; omega
      generalize l.drop p.length = d at HC hok hl2
      have HO := Lib.hid hok
      have HBK := Lib.hid (read_back hok)
      have HSM := Lib.hid (sm_readPP d)
      have HV := Lib.hid (fun (q : Nat) (u : Value) (W : World) (hS : Strs W q u (readP d)) (h : Below w.heap.size w W) => implVersionText_any (readA d 0) (readA d 1) (readA d 2) q u (readP d) W hS HSM.out (tab_below ht h))
      rw [HBK.out] at HV
      clear hok hp ht hle HBK HSM
      go_enter Tryz.func164, Tryz.ntmps164
      go_wp2_with fail
      refine (HC.out _).mono ?_
      rintro e w1 ⟨rfl, hw1⟩
      subst hw1
      go_wp2_with fail
      refine (HR.out _ hl2 _).mono ?_
      rintro e w2 ⟨u, rfl, hu, hb2⟩
      obtain ⟨U, uc, rfl⟩ := hu.slice
      rw [HO.out]
      have hu3 := hu.alloc (.cells #[.int .i64 (readA d 0), .int .i64 (readA d 1), .int .i64 (readA d 2), .slice U (readP d).length uc] 127)
      have B3 := hb2.alloc hb2.size (.cells #[.int .i64 (readA d 0), .int .i64 (readA d 1), .int .i64 (readA d 2), .slice U (readP d).length uc] 127)
      go_wp2_with fail
      refine (HV.out _ _ _ hu3 B3).mono ?_
      rintro e w4 ⟨rfl, hb4⟩
      go_wp2_with fail
      go_ret
      exact ⟨rfl, B3.trans (hb4.mono B3.size)⟩
end Go.Proofs.YtongpnknmgbhjaaGreatDoor

/-
  spec.l02Less, l02Texts, l02Part: how two numbers, two texts, two identifiers stand.
-/
namespace Go.Proofs.YtongpnknmgbhjaaGreatDoor
open Go.RowKit

set_option maxRecDepth 100000 in
theorem l02Less_any (a b : Int) (w : World) : Calls Tryz.prog 220 #[.int .i64 a, .int .i64 b] w fun e w' => e = .returned (.int .i64 (cmpI a b)) ∧ w' = w := by
  rcases (show a < b ∨ (¬ a < b ∧ b < a) ∨ (¬ a < b ∧ ¬ b < a) from by omega) with h | ⟨h, h2⟩ | ⟨h, h2⟩
  · have H : Hid (cmpI a b = -1) := Lib.hid (if_pos h)
    go_enter Tryz.func220, Tryz.ntmps220
    go_wp2
    go_ret
    exact ⟨ret_int H.out.symm, rfl⟩
  · have H : Hid (cmpI a b = 1) := Lib.hid (by unfold cmpI; rw [if_neg h, if_pos h2])
    go_enter Tryz.func220, Tryz.ntmps220
    go_wp2
    go_ret
    exact ⟨ret_int H.out.symm, rfl⟩
  · have H : Hid (cmpI a b = 0) := Lib.hid (by unfold cmpI; rw [if_neg h, if_neg h2])
    go_enter Tryz.func220, Tryz.ntmps220
    go_wp2
    go_ret
    exact ⟨ret_int H.out.symm, rfl⟩

theorem cmpS_ways (a b : ByteArray) : (Op.bytesLess a.toList b.toList = true ∧ cmpS a.data.toList b.data.toList = -1) ∨ (Op.bytesLess a.toList b.toList = false ∧ (a.toList == b.toList) = true ∧ cmpS a.data.toList b.data.toList = 0) ∨ (Op.bytesLess a.toList b.toList = false ∧ (a.toList == b.toList) = false ∧ cmpS a.data.toList b.data.toList = 1) := by
  rw [ByteArray.toList_eq, ByteArray.toList_eq]
  unfold cmpS
  cases h : Op.bytesLess a.data.toList b.data.toList
  · by_cases e : a.data.toList = b.data.toList
    · right; left; simp [e]
    · right; right; simp [e]; intro h'; exact e (by rw [h'])
  · left; simp

set_option maxRecDepth 100000 in
theorem l02Texts_any (a b : ByteArray) (w : World) : Calls Tryz.prog 239 #[.string a, .string b] w fun e w' => e = .returned (.int .i64 (cmpS a.data.toList b.data.toList)) ∧ w' = w := by
  rcases cmpS_ways a b with ⟨h, h3⟩ | ⟨h, h2, h3⟩ | ⟨h, h2, h3⟩
  all_goals
    have H := Lib.hid h3
    clear h3
    go_enter Tryz.func239, Tryz.ntmps239
    go_wp2
    go_ret
    exact ⟨ret_int H.out.symm, rfl⟩

set_option maxRecDepth 100000 in
set_option maxHeartbeats 1000000 in
theorem l02Part_any (a b : ByteArray) (w : World) (ha : a.size ≤ 1048576) (hb : b.size ≤ 1048576) :
    Calls Tryz.prog 221 #[.string a, .string b] w fun e w' => e = .returned (.int .i64 (cmpPart a.data.toList b.data.toList)) ∧ w' = w := by
  have HA := Lib.hid (fun W => specReadDec_any a W ha)
  have HB := Lib.hid (fun W => specReadDec_any b W hb)
  have HP : Hid (cmpPart a.data.toList b.data.toList = if 0 ≤ readL a.data.toList then (if 0 ≤ readL b.data.toList then cmpI (readL a.data.toList) (readL b.data.toList) else -1) else (if 0 ≤ readL b.data.toList then 1 else cmpS a.data.toList b.data.toList)) := Lib.hid rfl
  obtain ⟨x, HX⟩ : ∃ x, Hid (readL a.data.toList = x) := ⟨_, Lib.hid rfl⟩
  obtain ⟨y, HY⟩ : ∃ x, Hid (readL b.data.toList = x) := ⟨_, Lib.hid rfl⟩
  have HQ : Hid (cmpPart a.data.toList b.data.toList = if 0 ≤ x then (if 0 ≤ y then cmpI x y else -1) else (if 0 ≤ y then 1 else cmpS a.data.toList b.data.toList)) := Lib.hid (by rw [HP.out, HX.out, HY.out])
  clear HP ha hb
  by_cases hx : 0 ≤ x <;> by_cases hy : 0 ≤ y
  all_goals
    have HR := HQ.out
    simp only [hx, hy, if_true, if_false] at HR
    have HF := Lib.hid HR
    clear HR
    try have dx : decide (0 ≤ x) = false := decide_eq_false hx
    try have dy : decide (0 ≤ y) = false := decide_eq_false hy
    go_enter Tryz.func221, Tryz.ntmps221
    go_wp2_with fail
    refine (HA.out _).mono ?_
    rw [HX.out]
    rintro e w' ⟨rfl, rfl⟩
    go_wp2_with fail
    refine (HB.out _).mono ?_
    rw [HY.out]
    rintro e w' ⟨rfl, rfl⟩
    go_wp2_with (first | (go_at_call 220; refine (l02Less_any _ _ _).mono ?_; rintro e w' ⟨rfl, rfl⟩) | (go_at_call 239; refine (l02Texts_any _ _ _).mono ?_; rintro e w' ⟨rfl, rfl⟩))
    go_ret
    exact ⟨ret_int HF.out.symm, rfl⟩
end Go.Proofs.YtongpnknmgbhjaaGreatDoor

/-
  spec.CompareVersion: how two versions stand.
-/
namespace Go.Proofs.YtongpnknmgbhjaaGreatDoor
open Go.RowKit

set_option maxRecDepth 100000 in
set_option maxHeartbeats 4000000 in
theorem specCompareVersion_any (a b c a' b' c' : Int) (va vb : Value) (x y : List (List UInt8)) (w : World) (ha : RdS w va x) (hb : RdS w vb y) (hx : Sm x) (hy : Sm y) :
    Calls Tryz.prog 195 #[.agg #[.int .i64 a, .int .i64 b, .int .i64 c, va], .agg #[.int .i64 a', .int .i64 b', .int .i64 c', vb]] w fun e w' => e = .returned (.int .i64 (cmpVer a b c x a' b' c' y)) ∧ Below w.heap.size w w' := by
  have HV : Hid (cmpVer a b c x a' b' c' y = orI (cmpI a a') (orI (cmpI b b') (orI (cmpI c c') (cmpPre x y)))) := Lib.hid rfl
  obtain ⟨A, ca, rfl, ha⟩ := ha
  obtain ⟨B, cb, rfl, hb⟩ := hb
  have hx1 := hx.1
  have hy1 := hy.1
  have HX := Lib.hid hx.2
  have HY := Lib.hid hy.2
  clear hx hy
  obtain ⟨p, HP⟩ : ∃ z, Hid (cmpI a a' = z) := ⟨_, Lib.hid rfl⟩
  obtain ⟨q, HQ⟩ : ∃ z, Hid (cmpI b b' = z) := ⟨_, Lib.hid rfl⟩
  obtain ⟨r, HR⟩ : ∃ z, Hid (cmpI c c' = z) := ⟨_, Lib.hid rfl⟩
  have HV2 : Hid (cmpVer a b c x a' b' c' y = orI p (orI q (orI r (cmpPre x y)))) := Lib.hid (by rw [HV.out, HP.out, HQ.out, HR.out])
  have L1 : ∀ W, Calls Tryz.prog 220 #[.int .i64 a, .int .i64 a'] W fun e w' => e = .returned (.int .i64 p) ∧ w' = W := fun W => by have := l02Less_any a a' W; rw [HP.out] at this; exact this
  have L2 : ∀ W, Calls Tryz.prog 220 #[.int .i64 b, .int .i64 b'] W fun e w' => e = .returned (.int .i64 q) ∧ w' = W := fun W => by have := l02Less_any b b' W; rw [HQ.out] at this; exact this
  have L3 : ∀ W, Calls Tryz.prog 220 #[.int .i64 c, .int .i64 c'] W fun e w' => e = .returned (.int .i64 r) ∧ w' = W := fun W => by have := l02Less_any c c' W; rw [HR.out] at this; exact this
  have HL1 := Lib.hid L1
  have HL2 := Lib.hid L2
  have HL3 := Lib.hid L3
  clear L1 L2 L3 HV
  have HB : Below w.heap.size w ((w.alloc (.cells #[.int .i64 a, .int .i64 b, .int .i64 c, .slice A x.length ca] 127)).alloc (.cells #[.int .i64 a', .int .i64 b', .int .i64 c', .slice B y.length cb] 127)) := ((Below.refl _ _).alloc (Nat.le_refl _) _).alloc (by simp) _
  go_enter Tryz.func195, Tryz.ntmps195
  go_wp2_with fail
  have c0 : ((w.alloc (.cells #[.int .i64 a, .int .i64 b, .int .i64 c, .slice A x.length ca] 127)).alloc (.cells #[.int .i64 a', .int .i64 b', .int .i64 c', .slice B y.length cb] 127)).cell? ⟨w.heap.size, 0, none⟩ = some (.int .i64 a) := by simp
  have c1 : ((w.alloc (.cells #[.int .i64 a, .int .i64 b, .int .i64 c, .slice A x.length ca] 127)).alloc (.cells #[.int .i64 a', .int .i64 b', .int .i64 c', .slice B y.length cb] 127)).cell? ⟨w.heap.size, 1, none⟩ = some (.int .i64 b) := by simp
  have c2 : ((w.alloc (.cells #[.int .i64 a, .int .i64 b, .int .i64 c, .slice A x.length ca] 127)).alloc (.cells #[.int .i64 a', .int .i64 b', .int .i64 c', .slice B y.length cb] 127)).cell? ⟨w.heap.size, 2, none⟩ = some (.int .i64 c) := by simp
  have c3 : ((w.alloc (.cells #[.int .i64 a, .int .i64 b, .int .i64 c, .slice A x.length ca] 127)).alloc (.cells #[.int .i64 a', .int .i64 b', .int .i64 c', .slice B y.length cb] 127)).cell? ⟨w.heap.size, 3, none⟩ = some (.slice A x.length ca) := by simp
  have e0 : ((w.alloc (.cells #[.int .i64 a, .int .i64 b, .int .i64 c, .slice A x.length ca] 127)).alloc (.cells #[.int .i64 a', .int .i64 b', .int .i64 c', .slice B y.length cb] 127)).cell? ⟨w.heap.size + 1, 0, none⟩ = some (.int .i64 a') := by simp
  have e1 : ((w.alloc (.cells #[.int .i64 a, .int .i64 b, .int .i64 c, .slice A x.length ca] 127)).alloc (.cells #[.int .i64 a', .int .i64 b', .int .i64 c', .slice B y.length cb] 127)).cell? ⟨w.heap.size + 1, 1, none⟩ = some (.int .i64 b') := by simp
  have e2 : ((w.alloc (.cells #[.int .i64 a, .int .i64 b, .int .i64 c, .slice A x.length ca] 127)).alloc (.cells #[.int .i64 a', .int .i64 b', .int .i64 c', .slice B y.length cb] 127)).cell? ⟨w.heap.size + 1, 2, none⟩ = some (.int .i64 c') := by simp
  have e3 : ((w.alloc (.cells #[.int .i64 a, .int .i64 b, .int .i64 c, .slice A x.length ca] 127)).alloc (.cells #[.int .i64 a', .int .i64 b', .int .i64 c', .slice B y.length cb] 127)).cell? ⟨w.heap.size + 1, 3, none⟩ = some (.slice B y.length cb) := by simp
  have l1 : w.heap.size + 1 < ((w.alloc (.cells #[.int .i64 a, .int .i64 b, .int .i64 c, .slice A x.length ca] 127)).alloc (.cells #[.int .i64 a', .int .i64 b', .int .i64 c', .slice B y.length cb] 127)).heap.size := by simp
  obtain ⟨n0, hn0⟩ : ∃ n, n = w.heap.size := ⟨_, rfl⟩
  rw [← hn0] at HB c0 c1 c2 c3 e0 e1 e2 e3 l1 ⊢
  obtain ⟨W, hW⟩ : ∃ W, W = ((w.alloc (.cells #[.int .i64 a, .int .i64 b, .int .i64 c, .slice A x.length ca] 127)).alloc (.cells #[.int .i64 a', .int .i64 b', .int .i64 c', .slice B y.length cb] 127)) := ⟨_, rfl⟩
  rw [← hW] at HB c0 c1 c2 c3 e0 e1 e2 e3 l1 ⊢
  have HW := Lib.hid hW
  clear hW
  have HN0 := Lib.hid hn0
  clear hn0
  go_region_held3 (fun w' => w'.cell? ⟨n0, 0, none⟩ = some (.int .i64 a) ∧ w'.cell? ⟨n0, 1, none⟩ = some (.int .i64 b) ∧ w'.cell? ⟨n0, 2, none⟩ = some (.int .i64 c) ∧ w'.cell? ⟨n0, 3, none⟩ = some (.slice A x.length ca) ∧ w'.cell? ⟨n0 + 1, 0, none⟩ = some (.int .i64 a') ∧ w'.cell? ⟨n0 + 1, 1, none⟩ = some (.int .i64 b') ∧ w'.cell? ⟨n0 + 1, 2, none⟩ = some (.int .i64 c') ∧ w'.cell? ⟨n0 + 1, 3, none⟩ = some (.slice B y.length cb)) (first | exact ⟨c0, c1, c2, c3, e0, e1, e2, e3⟩ | go_keep) ((first | (go_at_call 220; (with_reducible refine (HL1.out _).mono ?_); rintro e w' ⟨rfl, rfl⟩) | (go_at_call 220; (with_reducible refine (HL2.out _).mono ?_); rintro e w' ⟨rfl, rfl⟩) | (go_at_call 220; (with_reducible refine (HL3.out _).mono ?_); rintro e w' ⟨rfl, rfl⟩)))
  go_wp2_with fail
  have o0 : (W.alloc (.cells #[.int .i64 p, .int .i64 q, .int .i64 r] 3)).drew.cell? ⟨W.heap.size, 0, none⟩ = some (.int .i64 p) := by simp
  have o1 : (W.alloc (.cells #[.int .i64 p, .int .i64 q, .int .i64 r] 3)).drew.cell? ⟨W.heap.size, 1, none⟩ = some (.int .i64 q) := by simp
  have o2 : (W.alloc (.cells #[.int .i64 p, .int .i64 q, .int .i64 r] 3)).drew.cell? ⟨W.heap.size, 2, none⟩ = some (.int .i64 r) := by simp
  have BN : Below W.heap.size W (W.alloc (.cells #[.int .i64 p, .int .i64 q, .int .i64 r] 3)).drew := ((Below.refl _ W).alloc (Nat.le_refl _) _).trans (below_drewN _ _ 1)
  have f3 := (BN.cell (p := ⟨n0, 3, none⟩) (by show n0 < _; omega)).trans c3
  have g3 := (BN.cell (p := ⟨n0 + 1, 3, none⟩) l1).trans e3
  have BV := HB.trans (BN.mono (by omega))
  clear c0 c1 c2 c3 e0 e1 e2 e3 BN HL1 HL2 HL3 HB
  generalize (W.alloc (.cells #[.int .i64 p, .int .i64 q, .int .i64 r] 3)).drew = V at o0 o1 o2 f3 g3 BV ⊢
  obtain ⟨m0, hm0⟩ : ∃ m, m = W.heap.size := ⟨_, rfl⟩
  rw [← hm0] at o0 o1 o2 ⊢
  clear hm0 l1
  rw [HN0.out] at BV
  by_cases hp : p = 0
  · by_cases hq : q = 0
    · by_cases hr : r = 0
      · have HO : Hid (cmpVer a b c x a' b' c' y = cmpPre x y) := Lib.hid (by rw [HV2.out, hp, hq, hr]; rfl)
        have q1 : (p != 0) = false := by simp [hp]
        have q2 : (q != 0) = false := by simp [hq]
        have q3 : (r != 0) = false := by simp [hr]
        clear hp hq hr HV2
        by_cases h1 : x = []
        · have HE : Hid (cmpVer a b c x a' b' c' y = cmpI y.length x.length) := Lib.hid (HO.out.trans (cmpPre_empty (.inl h1)))
          have t1 : ((x.length : Int) == 0) = true := by simp [h1]
          clear h1 ha hb
          refine wp_loop_rounds 4 ?_
          rw [rounds_succ]; go_wp2
          rw [rounds_succ]; go_wp2
          rw [rounds_succ]; go_wp2
          rw [rounds_succ]
          go_wp2_with (go_at_call 220; refine (l02Less_any _ _ _).mono ?_; rintro e w' ⟨rfl, rfl⟩)
          go_ret
          exact ⟨ret_int HE.out.symm, BV⟩
        · have hl1 : 0 < x.length := by cases x <;> simp_all
          have t1 : ((x.length : Int) == 0) = false := int_beq_false (by omega)
          by_cases h2 : y = []
          · have HE : Hid (cmpVer a b c x a' b' c' y = cmpI y.length x.length) := Lib.hid (HO.out.trans (cmpPre_empty (.inr h2)))
            have t2 : ((y.length : Int) == 0) = true := by simp [h2]
            clear h1 h2 ha hb
            refine wp_loop_rounds 4 ?_
            rw [rounds_succ]; go_wp2
            rw [rounds_succ]; go_wp2
            rw [rounds_succ]; go_wp2
            rw [rounds_succ]
            go_wp2_with (go_at_call 220; refine (l02Less_any _ _ _).mono ?_; rintro e w' ⟨rfl, rfl⟩)
            go_ret
            exact ⟨ret_int HE.out.symm, BV⟩
          · have hl2 : 0 < y.length := by cases y <;> simp_all
            have t2 : ((y.length : Int) == 0) = false := int_beq_false (by omega)
            have HE : Hid (cmpVer a b c x a' b' c' y = cmpL x y) := Lib.hid (HO.out.trans (cmpPre_full (by rintro (h | h); exact h1 h; exact h2 h)))
            clear h1 h2
            obtain ⟨g, off, rfl, hg, hca⟩ := ha hl1
            obtain ⟨g2, off2, rfl, hg2, hcb⟩ := hb hl2
            have HCA : Hid (∀ k (h : k < x.length), V.cell? ⟨g, off + k, none⟩ = some (.string ⟨x[k].toArray⟩)) := Lib.hid (fun k h => (BV.cell (p := ⟨g, off + k, none⟩) hg).trans (hca k h))
            have HCB : Hid (∀ k (h : k < y.length), V.cell? ⟨g2, off2 + k, none⟩ = some (.string ⟨y[k].toArray⟩)) := Lib.hid (fun k h => (BV.cell (p := ⟨g2, off2 + k, none⟩) hg2).trans (hcb k h))
            clear ha hb hca hcb hg hg2
            refine wp_loop_rounds 4 ?_
            rw [rounds_succ]; go_wp2
            rw [rounds_succ]; go_wp2
            rw [rounds_succ]; go_wp2
            rw [rounds_succ]; go_wp2
            go_loopw [7, 8] (fun i _ wr => ∃ k n : Nat, k ≤ x.length ∧ k ≤ y.length ∧ i = .int .i64 k ∧ wr = V.drewN n ∧ Hid (cmpL x y = cmpL (x.drop k) (y.drop k))) (fun i _ _ => x.length - (intOf i).toNat)
            case atStart => exact ⟨0, 0, Nat.zero_le _, Nat.zero_le _, rfl, rfl, Lib.hid (by simp)⟩
            case round =>
              obtain ⟨k, n, hk, hk', rfl, hwr, H⟩ := hrel
              clear o0 o1 o2 q1 q2 q3 t1 t2
              have f4 : wr.cell? ⟨n0, 3, none⟩ = some (.slice (some ⟨g, off, none⟩) x.length ca) := by rw [hwr]; exact f3
              have g4 : wr.cell? ⟨n0 + 1, 3, none⟩ = some (.slice (some ⟨g2, off2, none⟩) y.length cb) := by rw [hwr]; exact g3
              have HWR := Lib.hid hwr
              have BW : Below w.heap.size w wr := by rw [hwr]; exact BV.trans (below_drewN _ _ _)
              clear hwr
              by_cases hlt : k < x.length ∧ k < y.length
              · obtain ⟨j1, j2⟩ := hlt
                have d1 : wr.cell? ⟨g, off + k, none⟩ = some (.string ⟨x[k].toArray⟩) := by rw [HWR.out]; exact HCA.out k j1
                have d2 : wr.cell? ⟨g2, off2 + k, none⟩ = some (.string ⟨y[k].toArray⟩) := by rw [HWR.out]; exact HCB.out k j2
                have k0 : (0 : Int) ≤ (k : Int) := by omega
                have k1 : (k : Int) < (x.length : Int) := by omega
                have k2 : (k : Int) < (y.length : Int) := by omega
                have HS := Lib.hid (cmpL_step j1 j2)
                obtain ⟨z, HZ⟩ : ∃ z, Hid (cmpPart x[k] y[k] = z) := ⟨_, Lib.hid rfl⟩
                have hP : ∀ W, Calls Tryz.prog 221 #[.string ⟨x[k].toArray⟩, .string ⟨y[k].toArray⟩] W fun e w' => e = .returned (.int .i64 z) ∧ w' = W := fun W => by
                  have := l02Part_any ⟨x[k].toArray⟩ ⟨y[k].toArray⟩ W (by rw [size_of]; exact HX.out _ (List.getElem_mem j1)) (by rw [size_of]; exact HY.out _ (List.getElem_mem j2))
                  rw [show cmpPart (⟨x[k].toArray⟩ : ByteArray).data.toList (⟨y[k].toArray⟩ : ByteArray).data.toList = z from HZ.out] at this
                  exact this
                have HP2 := Lib.hid hP
                clear hP
                by_cases hz : z = 0
                · have hz' : (z != 0) = false := by simp [hz]
                  have HN : Hid (cmpL x y = cmpL (x.drop (k + 1)) (y.drop (k + 1))) := Lib.hid (by rw [H.out, HS.out, HZ.out, hz]; rfl)
                  clear hz
                  go_wp2_with fail
                  go_quiet ((go_at_call 221; exact Calls.quiet_of_same (HP2.out _)))
                  go_wp2_with fail
                  go_roundw
                  case rel => exact ⟨k + 1, n + nq, by omega, by omega, by go_num, by rw [HWR.out]; simp [World.drewN]; omega, HN⟩
                  case measure => simp [intOf]; omega
                · have hz' : (z != 0) = true := by simp [hz]
                  have HN : Hid (cmpVer a b c x a' b' c' y = z) := Lib.hid (by rw [HE.out, H.out, HS.out, HZ.out]; exact orI_ne _ hz)
                  clear hz
                  go_wp2_with fail
                  go_quiet ((go_at_call 221; exact Calls.quiet_of_same (HP2.out _)))
                  go_wp2_with fail
                  go_ret
                  exact ⟨ret_int HN.out.symm, BW.trans (below_drewN _ _ _)⟩
              · have HN : Hid (cmpVer a b c x a' b' c' y = cmpI x.length y.length) := Lib.hid (by rw [HE.out, H.out]; exact cmpL_len hk hk' hlt)
                by_cases j1 : k < x.length
                · have j2 : ¬ k < y.length := by omega
                  have j3 : decide (k < y.length) = false := decide_eq_false j2
                  have k1 : (k : Int) < (x.length : Int) := by omega
                  clear hlt
                  go_wp2_with (go_at_call 220; refine (l02Less_any _ _ _).mono ?_; rintro e w' ⟨rfl, rfl⟩)
                  go_ret
                  exact ⟨ret_int HN.out.symm, BW⟩
                · have j2 : decide ((k : Int) < (x.length : Int)) = false := by simp; omega
                  clear hlt
                  go_wp2_with (go_at_call 220; refine (l02Less_any _ _ _).mono ?_; rintro e w' ⟨rfl, rfl⟩)
                  go_ret
                  exact ⟨ret_int HN.out.symm, BW⟩
      · have HO : Hid (cmpVer a b c x a' b' c' y = r) := Lib.hid (by rw [HV2.out, hp, hq, orI_zero, orI_zero, orI_ne _ hr])
        have q1 : (p != 0) = false := by simp [hp]
        have q2 : (q != 0) = false := by simp [hq]
        have q3 : (r != 0) = true := by simp [hr]
        clear hp hq hr HV2 ha hb
        refine wp_loop_rounds 3 ?_
        rw [rounds_succ]; go_wp2
        rw [rounds_succ]; go_wp2
        rw [rounds_succ]; go_wp2
        go_ret
        exact ⟨ret_int HO.out.symm, BV⟩
    · have HO : Hid (cmpVer a b c x a' b' c' y = q) := Lib.hid (by rw [HV2.out, hp, orI_zero, orI_ne _ hq])
      have q1 : (p != 0) = false := by simp [hp]
      have q2 : (q != 0) = true := by simp [hq]
      clear hp hq HV2 ha hb
      refine wp_loop_rounds 2 ?_
      rw [rounds_succ]; go_wp2
      rw [rounds_succ]; go_wp2
      go_ret
      exact ⟨ret_int HO.out.symm, BV⟩
  · have HO : Hid (cmpVer a b c x a' b' c' y = p) := Lib.hid (by rw [HV2.out, orI_ne _ hp])
    have q1 : (p != 0) = true := by simp [hp]
    clear hp HV2 ha hb
    refine wp_loop_rounds 1 ?_
    rw [rounds_succ]; go_wp2
    go_ret
    exact ⟨ret_int HO.out.symm, BV⟩
end Go.Proofs.YtongpnknmgbhjaaGreatDoor

/-
  spec.ReadVersion: a version out of its text.
-/
namespace Go.Proofs.YtongpnknmgbhjaaGreatDoor
open Go.RowKit

set_option maxRecDepth 100000 in
set_option maxHeartbeats 4000000 in
theorem specReadVersion_any (s : ByteArray) (w : World) (hs : s.size ≤ 1048576) :
    Calls Tryz.prog 97 #[.string s] w (ReadIs w s.data.toList) := by
  have HSZ : Hid (s.data.toList.length ≤ 1048576) := Lib.hid (by simpa using hs)
  have hA := l01At_any s 45 ((w.alloc (.cells #[.int .i64 0, .int .i64 0, .int .i64 0, .slice none 0 0] 127)).alloc (.cells #[.int .i64 0, .int .i64 0, .int .i64 0, .slice none 0 0] 127)) (by unfold maxLen; omega)
  have HA := Lib.hid hA
  clear hA
  have r0 := keepA (heap_alloc_new w (.cells #[.int .i64 0, .int .i64 0, .int .i64 0, .slice none 0 0] 127)) (.cells #[.int .i64 0, .int .i64 0, .int .i64 0, .slice none 0 0] 127)
  have v0 := heap_new (W := w.alloc (.cells #[.int .i64 0, .int .i64 0, .int .i64 0, .slice none 0 0] 127)) (n := w.heap.size + 1) (by simp) (.cells #[.int .i64 0, .int .i64 0, .int .i64 0, .slice none 0 0] 127)
  have B0 : Below w.heap.size w ((w.alloc (.cells #[.int .i64 0, .int .i64 0, .int .i64 0, .slice none 0 0] 127)).alloc (.cells #[.int .i64 0, .int .i64 0, .int .i64 0, .slice none 0 0] 127)) := ((Below.refl _ _).alloc (Nat.le_refl _) _).alloc (by simp) _
  obtain ⟨d, HD⟩ : ∃ d, Hid (dash s.data.toList = d) := ⟨_, Lib.hid rfl⟩
  by_cases hd : 0 ≤ d
  · have hdl : d < s.size := by have := idx_lt s.data.toList 45; have h2 : Lib.indexByte s.data.toList 45 = d := HD.out; rw [h2] at this; simpa using this
    obtain ⟨k, rfl⟩ : ∃ k : Nat, d = (k : Int) := ⟨d.toNat, by omega⟩
    have HH : Hid (headL s.data.toList = s.data.toList.take k) := Lib.hid (by rw [headL_yes (by rw [HD.out]; exact hd), HD.out]; rfl)
    have HTL : Hid (tailL s.data.toList = cutL 46 (s.data.toList.drop (k + 1))) := Lib.hid (by rw [tailL_yes (by rw [HD.out]; exact hd), HD.out]; rfl)
    have e1 := slice_to s _ k (k : Int) rfl (by omega) (piece s 0 k)
    have e2 := slice_from s _ (k + 1) ((k : Int) + 1) (by omega) (by omega) (piece_end s (k + 1))
    go_enter Tryz.func97, Tryz.ntmps97
    go_wp2_with fail
    refine HA.out.mono ?_
    rw [show Lib.indexByte s.data.toList 45 = (k : Int) from HD.out]
    rintro e w' ⟨rfl, rfl⟩
    go_wp2_with fail
    refine (l01Cut_any _ 46 _ (by rw [size_of]; simp <;> omega)).mono ?_
    rintro e w1 ⟨gp, cp, rfl, hSp, hb1⟩
    have HQ : Hid (cutL 46 (⟨(s.data.toList.drop (k + 1)).toArray⟩ : ByteArray).data.toList = tailL s.data.toList) := Lib.hid HTL.out.symm
    rw [HQ.out] at hSp ⊢
    have r1 := keepB r0 hb1
    have v1 := keepB v0 hb1
    have B1 := B0.trans (hb1.mono B0.size)
    have glo : w.heap.size + 2 ≤ gp := by have := hSp.lo; simpa using this
    obtain ⟨q0, q1, q2, q3⟩ := cells4 v1
    have f3 := frozen4 v1 3
    go_wp2_with fail
    have HQ2 : Hid (cutL 46 (⟨(s.data.toList.take k).toArray⟩ : ByteArray).data.toList = partsL s.data.toList) := Lib.hid (by unfold partsL; rw [HH.out])
    have r1' := heap_other (g := w.heap.size + 1) (o := 3) r1 (.slice (some ⟨gp, 0, none⟩) (tailL s.data.toList).length cp) (by omega)
    have v1' := heap_set3 v1 (.slice (some ⟨gp, 0, none⟩) (tailL s.data.toList).length cp)
    have B1' := B1.setCell (p := ⟨w.heap.size + 1, 3, none⟩) (Nat.le_succ _) (.slice (some ⟨gp, 0, none⟩) (tailL s.data.toList).length cp)
    have hSp1 := (hSp.weaken (base' := w.heap.size + 2) (by simp)).other (w.heap.size + 1) 3 (.slice (some ⟨gp, 0, none⟩) (tailL s.data.toList).length cp) (by omega)
    refine (l01Cut_any _ 46 _ (by rw [size_of]; simp <;> omega)).mono ?_
    rintro e w2 ⟨gn, cn, rfl, hSn, hb2⟩
    rw [HQ2.out] at hSn ⊢
    have r2 := keepB r1' hb2
    have v2 := keepB v1' hb2
    have B2 := B1'.trans (hb2.mono B1'.size)
    have hSp2 := hSp1.below hb2
    have lo2 : w.heap.size + 2 ≤ (w1.setCell ⟨w.heap.size + 1, 3, none⟩ (.slice (some ⟨gp, 0, none⟩) (tailL s.data.toList).length cp)).heap.size := by have := lt_of_heap v1'; omega
    clear r0 v0 B0 r1 v1 B1 r1' v1' B1' hSp hSp1 hb1 hb2 q0 q1 q2 q3 f3 HA e1 e2
    have gnlo : w.heap.size + 2 ≤ gn := by have := hSn.lo; simpa using Nat.le_trans lo2 this
    by_cases h3 : (partsL s.data.toList).length = 3
    · obtain ⟨p0, p1, p2, hp⟩ := len3 h3
      have HPP := Lib.hid hp
      have mm : ∀ x ∈ partsL s.data.toList, x.length ≤ 1048576 := fun x hx => by have h1 := cutL_mem_le 46 (headL s.data.toList) x hx; have h2 := headL_le s.data.toList; have h3 := HSZ.out; omega
      have m0 := mm p0 (by rw [hp]; simp)
      have m1 := mm p1 (by rw [hp]; simp)
      have m2 := mm p2 (by rw [hp]; simp)
      have x0 : w2.cell? ⟨gn, 0, none⟩ = some (.string ⟨p0.toArray⟩) := by rw [hp] at hSn; exact hSn.cell 0 (by simp)
      have x1 : w2.cell? ⟨gn, 1, none⟩ = some (.string ⟨p1.toArray⟩) := by rw [hp] at hSn; exact hSn.cell 1 (by simp)
      have x2 : w2.cell? ⟨gn, 2, none⟩ = some (.string ⟨p2.toArray⟩) := by rw [hp] at hSn; exact hSn.cell 2 (by simp)
      have HR := Lib.hid (readOk_of hp)
      have HTX := Lib.hid (read_text hp)
      have HTN := Lib.hid (read_ok hp)
      rw [h3]
      clear mm hp h3
      have gne : gn ≠ w.heap.size + 1 := by omega
      obtain ⟨u0, u1, u2, u3⟩ := cells4 v2
      have f0 := frozen4 v2 0
      go_wp2_with fail
      refine (specReadDec_any ⟨p0.toArray⟩ _ (by rw [size_of]; exact m0)).mono ?_
      rintro e w' ⟨rfl, rfl⟩
      obtain ⟨z0, HZ0⟩ : ∃ z, Hid (readL p0 = z) := ⟨_, Lib.hid rfl⟩
      rw [show readL (⟨p0.toArray⟩ : ByteArray).data.toList = z0 from HZ0.out]
      have v3 := heap_set0 v2 (.int .i64 z0)
      have r3 := heap_other (g := w.heap.size + 1) (o := 0) r2 (.int .i64 z0) (by omega)
      have y1 := (World.cell?_setCell_far w2 ⟨w.heap.size + 1, 0, none⟩ ⟨gn, 1, none⟩ (.int .i64 z0) (Ne.symm gne)).trans x1
      have y2 := (World.cell?_setCell_far w2 ⟨w.heap.size + 1, 0, none⟩ ⟨gn, 2, none⟩ (.int .i64 z0) (Ne.symm gne)).trans x2
      have f1 := frozen4 v3 1
      obtain ⟨t0, t1, t2, t3⟩ := cells4 v3
      go_wp2_with fail
      refine (specReadDec_any ⟨p1.toArray⟩ _ (by rw [size_of]; exact m1)).mono ?_
      rintro e w' ⟨rfl, rfl⟩
      obtain ⟨z1, HZ1⟩ : ∃ z, Hid (readL p1 = z) := ⟨_, Lib.hid rfl⟩
      rw [show readL (⟨p1.toArray⟩ : ByteArray).data.toList = z1 from HZ1.out]
      have v4 := heap_set1 v3 (.int .i64 z1)
      have r4 := heap_other (g := w.heap.size + 1) (o := 1) r3 (.int .i64 z1) (by omega)
      have yy2 := (World.cell?_setCell_far _ ⟨w.heap.size + 1, 1, none⟩ ⟨gn, 2, none⟩ (.int .i64 z1) (Ne.symm gne)).trans y2
      have f2 := frozen4 v4 2
      clear t0 t1 t2 t3 f0
      obtain ⟨t0, t1, t2, t3⟩ := cells4 v4
      go_wp2_with fail
      refine (specReadDec_any ⟨p2.toArray⟩ _ (by rw [size_of]; exact m2)).mono ?_
      rintro e w' ⟨rfl, rfl⟩
      obtain ⟨z2, HZ2⟩ : ∃ z, Hid (readL p2 = z) := ⟨_, Lib.hid rfl⟩
      rw [show readL (⟨p2.toArray⟩ : ByteArray).data.toList = z2 from HZ2.out]
      have v5 := heap_set2 v4 (.int .i64 z2)
      have r5 := heap_other (g := w.heap.size + 1) (o := 2) r4 (.int .i64 z2) (by omega)
      have B5 := ((B2.setCell (p := ⟨w.heap.size + 1, 0, none⟩) (Nat.le_succ _) (.int .i64 z0)).setCell (p := ⟨w.heap.size + 1, 1, none⟩) (Nat.le_succ _) (.int .i64 z1)).setCell (p := ⟨w.heap.size + 1, 2, none⟩) (Nat.le_succ _) (.int .i64 z2)
      have hS5 := (((hSp2.other (w.heap.size + 1) 0 (.int .i64 z0) (by omega)).other (w.heap.size + 1) 1 (.int .i64 z1) (by omega)).other (w.heap.size + 1) 2 (.int .i64 z2) (by omega))
      obtain ⟨i0, i1, i2, i3⟩ := cells4 v5
      go_wp2_with fail
      clear t0 t1 t2 t3 i0 i1 i2 i3 u0 u1 u2 u3 f1 f2 x0 x1 x2 y1 y2 yy2 v2 v3 v4 r2 r3 r4 B2
      generalize ((w2.setCell ⟨w.heap.size + 1, 0, none⟩ (.int .i64 z0)).setCell ⟨w.heap.size + 1, 1, none⟩ (.int .i64 z1)).setCell ⟨w.heap.size + 1, 2, none⟩ (.int .i64 z2) = W5 at *
      refine (specVersionText_any z0 z1 z2 _ (tailL s.data.toList) _ (RdS.of_strs hS5) (tail_sm HSZ.out)).mono ?_
      rintro e w6 ⟨rfl, hb6⟩
      have v6 := keepB v5 hb6
      have r6 := keepB r5 hb6
      have B6 := B5.trans (hb6.mono B5.size)
      have hS6 := hS5.below hb6
      have hw := hS5.owned
      clear v5 r5 B5 hS5 hb6
      by_cases hv : verOk z0 z1 z2 (tailL s.data.toList) = true
      · have HE : Hid (verText z0 z1 z2 (tailL s.data.toList) = s.data.toList) := Lib.hid (by have := HTX.out; rw [HZ0.out, HZ1.out, HZ2.out] at this; exact this hv)
        have HOK : Hid (readOk s.data.toList = true) := Lib.hid (by rw [HR.out, HZ0.out, HZ1.out, HZ2.out]; exact hv)
        have e9 : ((verText z0 z1 z2 (tailL s.data.toList)) == s.toList) = true := by rw [HE.out, ByteArray.toList_eq]; simp
        clear hv
        obtain ⟨p0', p1', p2', p3'⟩ := cells4 v6
        obtain ⟨q0, q1, q2, q3⟩ := cells4 r6
        have f0 := frozen4 r6 0
        have f1 := frozen4 r6 1
        have f2 := frozen4 r6 2
        have f3 := frozen4 r6 3
        go_wp2_with fail
        refine bodyPost_ret (v := .tuple #[.agg #[.int .i64 (z0), .int .i64 (z1), .int .i64 (z2), .slice (some ⟨gp, 0, none⟩) (tailL s.data.toList).length cp], .bool true]) ?_ rfl (by rw [← HZ0.out, ← HZ1.out, ← HZ2.out]; exact readIs_good HPP.out HOK.out (strs_result (hS6.weaken (by omega)) (fun g h => by have := hw g h; omega) _ _ _ _) (below_result B6 (by omega) _ _ _ _))
        simp [results, Tryz.results97, go_sem, q0, q1, q2, q3]
      · have HE : Hid (¬ verText z0 z1 z2 (tailL s.data.toList) = s.data.toList) := Lib.hid (by have := HTN.out; rw [HZ0.out, HZ1.out, HZ2.out] at this; exact this hv)
        have HOK : Hid (readOk s.data.toList = false) := Lib.hid (by rw [HR.out, HZ0.out, HZ1.out, HZ2.out]; simpa using hv)
        have e9 : ((verText z0 z1 z2 (tailL s.data.toList)) == s.toList) = false := by rw [ByteArray.toList_eq]; simpa using HE.out
        clear hv
        obtain ⟨q0, q1, q2, q3⟩ := cells4 r6
        have f0 := frozen4 r6 0
        have f1 := frozen4 r6 1
        have f2 := frozen4 r6 2
        have f3 := frozen4 r6 3
        go_wp2_with fail
        refine bodyPost_ret (v := .tuple #[.agg #[.int .i64 0, .int .i64 0, .int .i64 0, .slice none 0 0], .bool false]) ?_ rfl (readIs_bad HOK.out (below_result B6 (by omega) _ _ _ _))
        simp [results, Tryz.results97, go_sem, q0, q1, q2, q3]
    · have HOK := Lib.hid (readOk_bad h3)
      have q9 : (((partsL s.data.toList).length : Int) != 3) = true := int_bne_true (by omega)
      clear h3
      obtain ⟨q0, q1, q2, q3⟩ := cells4 r2
      have f0 := frozen4 r2 0
      have f1 := frozen4 r2 1
      have f2 := frozen4 r2 2
      have f3 := frozen4 r2 3
      go_wp2_with fail
      refine bodyPost_ret (v := .tuple #[.agg #[.int .i64 0, .int .i64 0, .int .i64 0, .slice none 0 0], .bool false]) ?_ rfl (readIs_bad HOK.out (below_result B2 (by omega) _ _ _ _))
      simp [results, Tryz.results97, go_sem, q0, q1, q2, q3]
  · have hdn : ¬ 0 ≤ dash s.data.toList := by rw [HD.out]; exact hd
    have HQ2 : Hid (cutL 46 s.data.toList = partsL s.data.toList) := Lib.hid (by unfold partsL; rw [headL_no hdn])
    have HTL := Lib.hid (tailL_no hdn)
    clear hdn
    go_enter Tryz.func97, Tryz.ntmps97
    go_wp2_with fail
    refine HA.out.mono ?_
    rw [show Lib.indexByte s.data.toList 45 = d from HD.out]
    rintro e w' ⟨rfl, rfl⟩
    go_wp2_with fail
    refine (l01Cut_any s 46 _ hs).mono ?_
    rintro e w2 ⟨gn, cn, rfl, hSn, hb2⟩
    rw [HQ2.out] at hSn ⊢
    have r2 := keepB r0 hb2
    have v2 := keepB v0 hb2
    have B2 := B0.trans (hb2.mono B0.size)
    have lo2 : w.heap.size + 2 ≤ ((w.alloc (.cells #[.int .i64 0, .int .i64 0, .int .i64 0, .slice none 0 0] 127)).alloc (.cells #[.int .i64 0, .int .i64 0, .int .i64 0, .slice none 0 0] 127)).heap.size := by simp
    clear r0 v0 B0 hb2 HA
    have gnlo : w.heap.size + 2 ≤ gn := by have := hSn.lo; simpa using Nat.le_trans lo2 this
    by_cases h3 : (partsL s.data.toList).length = 3
    · obtain ⟨p0, p1, p2, hp⟩ := len3 h3
      have HPP := Lib.hid hp
      have mm : ∀ x ∈ partsL s.data.toList, x.length ≤ 1048576 := fun x hx => by have h1 := cutL_mem_le 46 (headL s.data.toList) x hx; have h2 := headL_le s.data.toList; have h3 := HSZ.out; omega
      have m0 := mm p0 (by rw [hp]; simp)
      have m1 := mm p1 (by rw [hp]; simp)
      have m2 := mm p2 (by rw [hp]; simp)
      have x0 : w2.cell? ⟨gn, 0, none⟩ = some (.string ⟨p0.toArray⟩) := by rw [hp] at hSn; exact hSn.cell 0 (by simp)
      have x1 : w2.cell? ⟨gn, 1, none⟩ = some (.string ⟨p1.toArray⟩) := by rw [hp] at hSn; exact hSn.cell 1 (by simp)
      have x2 : w2.cell? ⟨gn, 2, none⟩ = some (.string ⟨p2.toArray⟩) := by rw [hp] at hSn; exact hSn.cell 2 (by simp)
      have HR := Lib.hid (readOk_of hp)
      have HTX := Lib.hid (read_text hp)
      have HTN := Lib.hid (read_ok hp)
      rw [h3]
      clear mm hp h3
      have gne : gn ≠ w.heap.size + 1 := by omega
      obtain ⟨u0, u1, u2, u3⟩ := cells4 v2
      have f0 := frozen4 v2 0
      go_wp2_with fail
      refine (specReadDec_any ⟨p0.toArray⟩ _ (by rw [size_of]; exact m0)).mono ?_
      rintro e w' ⟨rfl, rfl⟩
      obtain ⟨z0, HZ0⟩ : ∃ z, Hid (readL p0 = z) := ⟨_, Lib.hid rfl⟩
      rw [show readL (⟨p0.toArray⟩ : ByteArray).data.toList = z0 from HZ0.out]
      have v3 := heap_set0 v2 (.int .i64 z0)
      have r3 := heap_other (g := w.heap.size + 1) (o := 0) r2 (.int .i64 z0) (by omega)
      have y1 := (World.cell?_setCell_far w2 ⟨w.heap.size + 1, 0, none⟩ ⟨gn, 1, none⟩ (.int .i64 z0) (Ne.symm gne)).trans x1
      have y2 := (World.cell?_setCell_far w2 ⟨w.heap.size + 1, 0, none⟩ ⟨gn, 2, none⟩ (.int .i64 z0) (Ne.symm gne)).trans x2
      have f1 := frozen4 v3 1
      obtain ⟨t0, t1, t2, t3⟩ := cells4 v3
      go_wp2_with fail
      refine (specReadDec_any ⟨p1.toArray⟩ _ (by rw [size_of]; exact m1)).mono ?_
      rintro e w' ⟨rfl, rfl⟩
      obtain ⟨z1, HZ1⟩ : ∃ z, Hid (readL p1 = z) := ⟨_, Lib.hid rfl⟩
      rw [show readL (⟨p1.toArray⟩ : ByteArray).data.toList = z1 from HZ1.out]
      have v4 := heap_set1 v3 (.int .i64 z1)
      have r4 := heap_other (g := w.heap.size + 1) (o := 1) r3 (.int .i64 z1) (by omega)
      have yy2 := (World.cell?_setCell_far _ ⟨w.heap.size + 1, 1, none⟩ ⟨gn, 2, none⟩ (.int .i64 z1) (Ne.symm gne)).trans y2
      have f2 := frozen4 v4 2
      clear t0 t1 t2 t3 f0
      obtain ⟨t0, t1, t2, t3⟩ := cells4 v4
      go_wp2_with fail
      refine (specReadDec_any ⟨p2.toArray⟩ _ (by rw [size_of]; exact m2)).mono ?_
      rintro e w' ⟨rfl, rfl⟩
      obtain ⟨z2, HZ2⟩ : ∃ z, Hid (readL p2 = z) := ⟨_, Lib.hid rfl⟩
      rw [show readL (⟨p2.toArray⟩ : ByteArray).data.toList = z2 from HZ2.out]
      have v5 := heap_set2 v4 (.int .i64 z2)
      have r5 := heap_other (g := w.heap.size + 1) (o := 2) r4 (.int .i64 z2) (by omega)
      have B5 := ((B2.setCell (p := ⟨w.heap.size + 1, 0, none⟩) (Nat.le_succ _) (.int .i64 z0)).setCell (p := ⟨w.heap.size + 1, 1, none⟩) (Nat.le_succ _) (.int .i64 z1)).setCell (p := ⟨w.heap.size + 1, 2, none⟩) (Nat.le_succ _) (.int .i64 z2)
      have hS5 : Strs (((w2.setCell ⟨w.heap.size + 1, 0, none⟩ (.int .i64 z0)).setCell ⟨w.heap.size + 1, 1, none⟩ (.int .i64 z1)).setCell ⟨w.heap.size + 1, 2, none⟩ (.int .i64 z2)) (w.heap.size + 2) (.slice none 0 0) (tailL s.data.toList) := by rw [HTL.out]; exact Strs.nil _ _
      obtain ⟨i0, i1, i2, i3⟩ := cells4 v5
      go_wp2_with fail
      clear t0 t1 t2 t3 i0 i1 i2 i3 u0 u1 u2 u3 f1 f2 x0 x1 x2 y1 y2 yy2 v2 v3 v4 r2 r3 r4 B2
      generalize ((w2.setCell ⟨w.heap.size + 1, 0, none⟩ (.int .i64 z0)).setCell ⟨w.heap.size + 1, 1, none⟩ (.int .i64 z1)).setCell ⟨w.heap.size + 1, 2, none⟩ (.int .i64 z2) = W5 at *
      refine (specVersionText_any z0 z1 z2 _ (tailL s.data.toList) _ (RdS.of_strs hS5) (tail_sm HSZ.out)).mono ?_
      rintro e w6 ⟨rfl, hb6⟩
      have v6 := keepB v5 hb6
      have r6 := keepB r5 hb6
      have B6 := B5.trans (hb6.mono B5.size)
      have hS6 := hS5.below hb6
      have hw := hS5.owned
      clear v5 r5 B5 hS5 hb6
      by_cases hv : verOk z0 z1 z2 (tailL s.data.toList) = true
      · have HE : Hid (verText z0 z1 z2 (tailL s.data.toList) = s.data.toList) := Lib.hid (by have := HTX.out; rw [HZ0.out, HZ1.out, HZ2.out] at this; exact this hv)
        have HOK : Hid (readOk s.data.toList = true) := Lib.hid (by rw [HR.out, HZ0.out, HZ1.out, HZ2.out]; exact hv)
        have e9 : ((verText z0 z1 z2 (tailL s.data.toList)) == s.toList) = true := by rw [HE.out, ByteArray.toList_eq]; simp
        clear hv
        obtain ⟨p0', p1', p2', p3'⟩ := cells4 v6
        obtain ⟨q0, q1, q2, q3⟩ := cells4 r6
        have f0 := frozen4 r6 0
        have f1 := frozen4 r6 1
        have f2 := frozen4 r6 2
        have f3 := frozen4 r6 3
        go_wp2_with fail
        refine bodyPost_ret (v := .tuple #[.agg #[.int .i64 (z0), .int .i64 (z1), .int .i64 (z2), .slice none 0 0], .bool true]) ?_ rfl (by rw [← HZ0.out, ← HZ1.out, ← HZ2.out]; exact readIs_good HPP.out HOK.out (strs_result (hS6.weaken (by omega)) (fun g h => by have := hw g h; omega) _ _ _ _) (below_result B6 (by omega) _ _ _ _))
        simp [results, Tryz.results97, go_sem, q0, q1, q2, q3]
      · have HE : Hid (¬ verText z0 z1 z2 (tailL s.data.toList) = s.data.toList) := Lib.hid (by have := HTN.out; rw [HZ0.out, HZ1.out, HZ2.out] at this; exact this hv)
        have HOK : Hid (readOk s.data.toList = false) := Lib.hid (by rw [HR.out, HZ0.out, HZ1.out, HZ2.out]; simpa using hv)
        have e9 : ((verText z0 z1 z2 (tailL s.data.toList)) == s.toList) = false := by rw [ByteArray.toList_eq]; simpa using HE.out
        clear hv
        obtain ⟨q0, q1, q2, q3⟩ := cells4 r6
        have f0 := frozen4 r6 0
        have f1 := frozen4 r6 1
        have f2 := frozen4 r6 2
        have f3 := frozen4 r6 3
        go_wp2_with fail
        refine bodyPost_ret (v := .tuple #[.agg #[.int .i64 0, .int .i64 0, .int .i64 0, .slice none 0 0], .bool false]) ?_ rfl (readIs_bad HOK.out (below_result B6 (by omega) _ _ _ _))
        simp [results, Tryz.results97, go_sem, q0, q1, q2, q3]
    · have HOK := Lib.hid (readOk_bad h3)
      have q9 : (((partsL s.data.toList).length : Int) != 3) = true := int_bne_true (by omega)
      clear h3
      obtain ⟨q0, q1, q2, q3⟩ := cells4 r2
      have f0 := frozen4 r2 0
      have f1 := frozen4 r2 1
      have f2 := frozen4 r2 2
      have f3 := frozen4 r2 3
      go_wp2_with fail
      refine bodyPost_ret (v := .tuple #[.agg #[.int .i64 0, .int .i64 0, .int .i64 0, .slice none 0 0], .bool false]) ?_ rfl (readIs_bad HOK.out (below_result B2 (by omega) _ _ _ _))
      simp [results, Tryz.results97, go_sem, q0, q1, q2, q3]
end Go.Proofs.YtongpnknmgbhjaaGreatDoor

namespace Go.Proofs.YtongpnknmgbhjaaGreatDoor
open Go.RowKit

theorem sm_z : Sm [[48]] := ⟨by simp, fun l h => by simp at h; subst h; simp⟩
theorem sm_readP (l : List UInt8) : Sm (readP l) := by
  have h5 := readP_sm l
  refine ⟨by omega, fun x hx => ?_⟩
  unfold readP at hx
  split at hx
  · rename_i h
    have hv := read_ver h
    have : readP l = tailL l := by simp [readP, h]
    rw [← this] at hx
    have := verOk_len hv x hx
    omega
  · cases hx
theorem next_plus {a b c : Int} (h : verOk a b c [] = true) : (c < 999999999 → nextN a b c [] 2 = (a, b, c + 1)) ∧ (¬ c < 999999999 → nextN a b c [] 2 = (a, b, c)) ∧ nextL a b c [] 2 = [] := by
  have hx : nxt a b c [] 2 = (a, b, c + 1) := by unfold nxt; simp
  have hn : nextOk a b c [] 2 = verOk a b (c + 1) [] := nextOk_of h (by decide) hx
  rw [(plus_ok h).2] at hn
  refine ⟨fun hc => ?_, fun hc => ?_, ?_⟩
  · rw [(next_good (by rw [hn]; exact decide_eq_true hc)).1, hx]
  · rw [(next_same (by rw [hn]; exact decide_eq_false hc)).1]
  · unfold nextL; split <;> rfl
theorem cmp_plus (a b c : Int) : ¬ cmpVer a b (c + 1) [] a b c [] = 0 := by
  unfold cmpVer
  rw [cmpI_same, cmpI_same, orI_zero, orI_zero]
  have : cmpI (c + 1) c = 1 := by unfold cmpI; rw [if_neg (by omega), if_pos (by omega)]
  rw [this, orI_ne _ (by omega)]
  omega
theorem cmp_self (a b c : Int) : cmpVer a b c [] a b c [] = 0 := by
  unfold cmpVer
  rw [cmpI_same, cmpI_same, cmpI_same, orI_zero, orI_zero, orI_zero]
  rfl

theorem rdS_lit1 (W : World) (n : Nat) (hn : W.heap.size = n) (x : List UInt8) (T : TypeId) : RdS (W.alloc (.cells #[.string ⟨x.toArray⟩] T)) (.slice (some ⟨n, 0, none⟩) 1 1) [x] := by
  subst hn
  refine ⟨_, 1, rfl, fun _ => ⟨W.heap.size, 0, rfl, by simp, fun k hk => ?_⟩⟩
  have hk0 : k = 0 := by simp at hk; omega
  subst hk0
  have hc : ∀ (V : World) (n : Nat) (v : Value), V.heap[n]? = some (.cells #[v] T) → V.cell? ⟨n, 0, none⟩ = some v := fun V n v h => by simp [World.cell?, h]
  exact hc _ _ _ (heap_alloc_new W (.cells #[.string ⟨x.toArray⟩] T))

set_option maxRecDepth 100000 in
set_option maxHeartbeats 4000000 in
theorem l03Below_yes (a b c : Int) (A : Option Addr) (n cap : Nat) (w : World) (hv : verOk a b c [] = true) (hc : c < 999999999) :
    Calls Tryz.prog 155 #[.agg #[.int .i64 a, .int .i64 b, .int .i64 c, .slice A n cap], .int .i64 2] w fun e w' => e = .returned (.tuple #[.string ⟨(verText a b (c + 1) [[48]]).toArray⟩, .bool true]) ∧ Below w.heap.size w w' := by
  obtain ⟨hN, _, hL⟩ := next_plus hv
  have HX := Lib.hid (fun (v : Value) (W : World) (h : RdS W v []) => specNext_any a b c 2 v [] W h sm_nil a b (c + 1) [] (hN hc) hL)
  have HC := Lib.hid (fun (va vb : Value) (W : World) (h1 : RdS W va []) (h2 : RdS W vb []) => specCompareVersion_any a b (c + 1) a b c va vb [] [] W h1 h2 sm_nil sm_nil)
  have hcp := cmp_plus a b c
  obtain ⟨z, HZ⟩ : ∃ z, Hid (cmpVer a b (c + 1) [] a b c [] = z) := ⟨_, Lib.hid rfl⟩
  simp only [HZ.out] at HC
  rw [HZ.out] at hcp
  have hz : (z == 0) = false := int_beq_false hcp
  have HT := Lib.hid (fun (v : Value) (W : World) (h : RdS W v [[48]]) => specVersionText_any a b (c + 1) v [[48]] W h sm_z)
  obtain ⟨t, HTT⟩ : ∃ t, Hid (verText a b (c + 1) [[48]] = t) := ⟨_, Lib.hid rfl⟩
  simp only [HTT.out] at HT
  rw [HTT.out]
  clear hN hL hv hcp
  have B0 : Below w.heap.size w ((w.alloc (.cells #[.int .i64 a, .int .i64 b, .int .i64 c, .slice (some ⟨w.heap.size + 1, 0, none⟩) 0 0] 127)).alloc (.cells #[] 9)) := ((Below.refl _ _).alloc (Nat.le_refl _) _).alloc (by simp) _
  have bx := keepA (heap_alloc_new w (.cells #[.int .i64 a, .int .i64 b, .int .i64 c, .slice (some ⟨w.heap.size + 1, 0, none⟩) 0 0] 127)) (.cells #[] 9)
  have hr0 : ∀ (W : World), RdS W (.slice (some ⟨w.heap.size + 1, 0, none⟩) 0 0) [] := fun W => ⟨_, _, rfl, fun h => by simp at h⟩
  go_enter Tryz.func155, Tryz.ntmps155
  go_wp2_with fail
  refine (HX.out _ _ (hr0 _)).mono ?_
  rintro e w1 ⟨u, rfl, hu, hb1⟩
  obtain ⟨U, uc, rfl⟩ := hu.slice
  have B1 := B0.trans (hb1.mono B0.size)
  have b1 := keepB bx hb1
  have hu1 : ∀ W, RdS W (.slice U 0 uc) [] := fun W => ⟨_, _, rfl, fun h => by simp at h⟩
  have hs1 : w.heap.size ≤ w1.heap.size := B1.size
  clear hb1 bx B0 hu
  have B2 : Below w.heap.size w (w1.alloc (.cells #[.int .i64 a, .int .i64 b, .int .i64 (c + 1), .slice U 0 uc] 127)) := B1.alloc B1.size _
  have b2 := keepA b1 (.cells #[.int .i64 a, .int .i64 b, .int .i64 (c + 1), .slice U 0 uc] 127)
  have n2 := heap_alloc_new w1 (.cells #[.int .i64 a, .int .i64 b, .int .i64 (c + 1), .slice U 0 uc] 127)
  obtain ⟨p0, p1, p2, p3⟩ := cells4 b2
  go_wp2_with fail
  refine (HC.out _ _ _ (hu1 _) (hr0 _)).mono ?_
  rintro e w3 ⟨rfl, hb3⟩
  have B3 := B2.trans (hb3.mono B2.size)
  have n3 := keepB n2 hb3
  clear hb3 B2 b2 n2 p0 p1 p2 p3 b1 B1
  obtain ⟨q0, q1, q2, q3⟩ := cells4 n3
  have f3 := frozen4 n3 3
  have hs4 : w1.heap.size < w3.heap.size := lt_of_heap n3
  go_wp2_with fail
  refine (HT.out _ _ (rdS_lit1 _ _ (by simp) [48] _)).mono ?_
  rintro e w5 ⟨rfl, hb5⟩
  have B4 := (B3.setCell (p := ⟨w1.heap.size, 3, none⟩) hs1 (.slice (some ⟨w3.heap.size, 0, none⟩) 1 1)).alloc (by simp; omega) (.cells #[.string ⟨#[48]⟩] 9)
  go_wp2_with fail
  go_ret2
  exact ⟨rfl, B4.trans (hb5.mono (by simp; omega))⟩

set_option maxRecDepth 100000 in
set_option maxHeartbeats 4000000 in
theorem l03Below_no (a b c : Int) (A : Option Addr) (n cap : Nat) (w : World) (hv : verOk a b c [] = true) (hc : ¬ c < 999999999) :
    Calls Tryz.prog 155 #[.agg #[.int .i64 a, .int .i64 b, .int .i64 c, .slice A n cap], .int .i64 2] w fun e w' => e = .returned (.tuple #[.string ⟨#[]⟩, .bool false]) ∧ Below w.heap.size w w' := by
  obtain ⟨_, hN, hL⟩ := next_plus hv
  have HX := Lib.hid (fun (v : Value) (W : World) (h : RdS W v []) => specNext_any a b c 2 v [] W h sm_nil a b c [] (hN hc) hL)
  have HC := Lib.hid (fun (va vb : Value) (W : World) (h1 : RdS W va []) (h2 : RdS W vb []) => specCompareVersion_any a b c a b c va vb [] [] W h1 h2 sm_nil sm_nil)
  simp only [cmp_self] at HC
  clear hN hL hv
  have B0 : Below w.heap.size w ((w.alloc (.cells #[.int .i64 a, .int .i64 b, .int .i64 c, .slice (some ⟨w.heap.size + 1, 0, none⟩) 0 0] 127)).alloc (.cells #[] 9)) := ((Below.refl _ _).alloc (Nat.le_refl _) _).alloc (by simp) _
  have bx := keepA (heap_alloc_new w (.cells #[.int .i64 a, .int .i64 b, .int .i64 c, .slice (some ⟨w.heap.size + 1, 0, none⟩) 0 0] 127)) (.cells #[] 9)
  have hr0 : ∀ (W : World), RdS W (.slice (some ⟨w.heap.size + 1, 0, none⟩) 0 0) [] := fun W => ⟨_, _, rfl, fun h => by simp at h⟩
  go_enter Tryz.func155, Tryz.ntmps155
  go_wp2_with fail
  refine (HX.out _ _ (hr0 _)).mono ?_
  rintro e w1 ⟨u, rfl, hu, hb1⟩
  obtain ⟨U, uc, rfl⟩ := hu.slice
  have B1 := B0.trans (hb1.mono B0.size)
  have b1 := keepB bx hb1
  have hu1 : ∀ W, RdS W (.slice U 0 uc) [] := fun W => ⟨_, _, rfl, fun h => by simp at h⟩
  clear hb1 bx B0 hu
  have B2 : Below w.heap.size w (w1.alloc (.cells #[.int .i64 a, .int .i64 b, .int .i64 c, .slice U 0 uc] 127)) := B1.alloc B1.size _
  have b2 := keepA b1 (.cells #[.int .i64 a, .int .i64 b, .int .i64 c, .slice U 0 uc] 127)
  obtain ⟨p0, p1, p2, p3⟩ := cells4 b2
  go_wp2_with fail
  refine (HC.out _ _ _ (hu1 _) (hr0 _)).mono ?_
  rintro e w3 ⟨rfl, hb3⟩
  go_wp2_with fail
  go_ret2
  exact ⟨rfl, B2.trans (hb3.mono B2.size)⟩

theorem cellsD {V : World} {B : Nat} {T : TypeId} {v0 v1 : Value} (h : V.heap[B]? = some (.cells #[v0, v1] T)) : V.cell? ⟨B, 0, none⟩ = some v0 ∧ V.cell? ⟨B, 1, none⟩ = some v1 ∧ ∀ o, V.frozen? ⟨B, o, none⟩ = false := by
  refine ⟨by simp [World.cell?, h], by simp [World.cell?, h], fun o => by simp [World.frozen?, h]⟩
/-- What l03Alone hands back. -/
def aloneV (ok : Bool) (l hi : List UInt8) : Value := .tuple #[.agg #[.string ⟨(if ok = true then l else []).toArray⟩, .string ⟨(if ok = true then hi else []).toArray⟩], .bool ok]

set_option maxRecDepth 100000 in
set_option maxHeartbeats 4000000 in
theorem l03Alone_any (l : List UInt8) (w : World) (hl : l.length ≤ 1048576) :
    Calls Tryz.prog 101 #[.string ⟨l.toArray⟩] w fun e w' => e = .returned (aloneV (exOk l) l (exHigh l)) ∧ Below w.heap.size w w' := by
  have HV : Hid (∀ W, Calls Tryz.prog 97 #[.string ⟨l.toArray⟩] W (ReadIs W l)) := Lib.hid (fun W => specReadVersion_any ⟨l.toArray⟩ W (by show l.toArray.size ≤ _; simp; omega))
  have B0 : Below w.heap.size w (w.alloc (.cells #[.string ⟨#[]⟩, .string ⟨#[]⟩] 73)) := (Below.refl _ _).alloc (Nat.le_refl _) _
  have bx := heap_alloc_new w (.cells #[.string ⟨#[]⟩, .string ⟨#[]⟩] 73)
  cases hok : readOk l with
  | false =>
    rw [exOk_bad hok]
    have HO := Lib.hid hok
    clear hok
    go_enter Tryz.func101, Tryz.ntmps101
    go_wp2_with fail
    refine (HV.out _).mono ?_
    rintro e w1 ⟨u, rfl, hu, hb1⟩
    obtain ⟨U, uc, rfl⟩ := hu.slice
    rw [HO.out]
    have B1 := B0.trans (hb1.mono B0.size)
    have b1 := keepB bx hb1
    have B2 := B1.alloc B1.size (.cells #[.int .i64 (readA l 0), .int .i64 (readA l 1), .int .i64 (readA l 2), .slice U (readP l).length uc] 127)
    obtain ⟨c0, c1, f1⟩ := cellsD (keepA b1 (.cells #[.int .i64 (readA l 0), .int .i64 (readA l 1), .int .i64 (readA l 2), .slice U (readP l).length uc] 127))
    go_wp2_with fail
    refine bodyPost_ret (v := aloneV false l (exHigh l)) ?_ rfl ⟨rfl, ?_⟩
    · simp [results, Tryz.results101, go_sem, aloneV, c0, c1]
    · exact (B2.setCell (p := ⟨w.heap.size, 0, none⟩) (Nat.le_refl _) _).setCell (p := ⟨w.heap.size, 1, none⟩) (Nat.le_refl _) _
  | true =>
    have HO := Lib.hid hok
    have HEX := Lib.hid (exOk_of hok)
    obtain ⟨l2, HL2⟩ : ∃ l2, Hid (l2 = l ++ [46, 48]) := ⟨_, Lib.hid rfl⟩
    have hl2 : l2.length ≤ 1048576 := by have h2 : l.length ≤ 200 := (by have := read_back hok; rw [← this]; exact verText_le); rw [HL2.out]; simp; omega
    have HV2 : Hid (∀ W, Calls Tryz.prog 97 #[.string ⟨l2.toArray⟩] W (ReadIs W l2)) := Lib.hid (fun W => specReadVersion_any ⟨l2.toArray⟩ W (by show l2.toArray.size ≤ _; simp; omega))
    have hvr := read_ver hok
    by_cases hp : readP l = []
    · have HPE := Lib.hid hp
      have HM := Lib.hid (plain_empty hok hp)
      have HH := Lib.hid (plain_high hp)
      rw [hp] at hvr
      by_cases hc : readA l 2 < 999999999
      · have HXX : Hid (exOk l = true) := Lib.hid (by rw [HEX.out, HM.out, decide_eq_true hc]; rfl)
        rw [HXX.out]
        have HB := Lib.hid (fun (U : Option Addr) (n cap : Nat) W => l03Below_yes (readA l 0) (readA l 1) (readA l 2) U n cap W hvr hc)
        rw [← HH.out] at HB
        obtain ⟨hi, HHI⟩ : ∃ hi, Hid (exHigh l = hi) := ⟨_, Lib.hid rfl⟩
        simp only [HHI.out] at HB
        rw [HHI.out]
        clear hok hp hc hvr
        go_enter Tryz.func101, Tryz.ntmps101
        go_wp2_with fail
        refine (HV.out _).mono ?_
        rintro e w1 ⟨u, rfl, hu, hb1⟩
        obtain ⟨U, uc, rfl⟩ := hu.slice
        rw [HO.out, HPE.out]
        have B1 := B0.trans (hb1.mono B0.size)
        have b1 := keepB bx hb1
        have B2 := B1.alloc B1.size (.cells #[.int .i64 (readA l 0), .int .i64 (readA l 1), .int .i64 (readA l 2), .slice U 0 uc] 127)
        have b2 := keepA b1 (.cells #[.int .i64 (readA l 0), .int .i64 (readA l 1), .int .i64 (readA l 2), .slice U 0 uc] 127)
        clear hb1 bx B0 hu b1 B1
        go_wp2_with fail
        refine (HB.out _ _ _ _).mono ?_
        rintro e w3 ⟨rfl, hb3⟩
        have B3 := B2.trans (hb3.mono B2.size)
        obtain ⟨c0, c1, f1⟩ := cellsD (keepB b2 hb3)
        go_wp2_with fail
        refine bodyPost_ret (v := aloneV true l hi) ?_ rfl ⟨rfl, ?_⟩
        · simp [results, Tryz.results101, go_sem, aloneV, c0, c1]
        · exact (B3.setCell (p := ⟨w.heap.size, 0, none⟩) (Nat.le_refl _) _).setCell (p := ⟨w.heap.size, 1, none⟩) (Nat.le_refl _) _
      · have HXX : Hid (exOk l = false) := Lib.hid (by rw [HEX.out, HM.out, decide_eq_false hc]; rfl)
        rw [HXX.out]
        have HB := Lib.hid (fun (U : Option Addr) (n cap : Nat) W => l03Below_no (readA l 0) (readA l 1) (readA l 2) U n cap W hvr hc)
        obtain ⟨hi, HHI⟩ : ∃ hi, Hid (exHigh l = hi) := ⟨_, Lib.hid rfl⟩
        rw [HHI.out]
        clear hok hp hc hvr
        go_enter Tryz.func101, Tryz.ntmps101
        go_wp2_with fail
        refine (HV.out _).mono ?_
        rintro e w1 ⟨u, rfl, hu, hb1⟩
        obtain ⟨U, uc, rfl⟩ := hu.slice
        rw [HO.out, HPE.out]
        have B1 := B0.trans (hb1.mono B0.size)
        have b1 := keepB bx hb1
        have B2 := B1.alloc B1.size (.cells #[.int .i64 (readA l 0), .int .i64 (readA l 1), .int .i64 (readA l 2), .slice U 0 uc] 127)
        have b2 := keepA b1 (.cells #[.int .i64 (readA l 0), .int .i64 (readA l 1), .int .i64 (readA l 2), .slice U 0 uc] 127)
        clear hb1 bx B0 hu b1 B1
        go_wp2_with fail
        refine (HB.out _ _ _ _).mono ?_
        rintro e w3 ⟨rfl, hb3⟩
        have B3 := B2.trans (hb3.mono B2.size)
        obtain ⟨c0, c1, f1⟩ := cellsD (keepB b2 hb3)
        go_wp2_with fail
        refine bodyPost_ret (v := aloneV false l hi) ?_ rfl ⟨rfl, ?_⟩
        · simp [results, Tryz.results101, go_sem, aloneV, c0, c1]
        · exact (B3.setCell (p := ⟨w.heap.size, 0, none⟩) (Nat.le_refl _) _).setCell (p := ⟨w.heap.size, 1, none⟩) (Nat.le_refl _) _
    · have HMO := Lib.hid (more_ok hok hp)
      have HMT := Lib.hid (more_text hok hp)
      rw [← HL2.out] at HMO HMT
      have hpl : ¬ (readP l).length = 0 := fun e => hp (List.eq_nil_of_length_eq_zero e)
      have h5 := readP_sm l
      have s1 : ∀ W, (Op.stringOp .add ⟨l.toArray⟩ ⟨#[46, 48]⟩).run Tryz.prog W = .ok (.string ⟨l2.toArray⟩) W := fun W => by rw [HL2.out]; exact add_lists W l [46, 48] (by omega) (by simp)
      obtain ⟨n, HNN⟩ : ∃ n, Hid ((readP l).length = n) := ⟨_, Lib.hid rfl⟩
      rw [HNN.out] at hpl h5
      have hg : (0 : Int) < (n : Int) := by omega
      cases he : (exHigh l).isEmpty with
      | true =>
        have HXX : Hid (exOk l = false) := Lib.hid (by rw [HEX.out, he]; rfl)
        have HOO : Hid (readOk l2 = false) := Lib.hid (by rw [HMO.out, he]; rfl)
        rw [HXX.out]
        obtain ⟨hi, HHI⟩ : ∃ hi, Hid (exHigh l = hi) := ⟨_, Lib.hid rfl⟩
        rw [HHI.out]
        clear hok hp hvr he HMT
        go_enter Tryz.func101, Tryz.ntmps101
        go_wp2_with fail
        refine (HV.out _).mono ?_
        rintro e w1 ⟨u, rfl, hu, hb1⟩
        obtain ⟨U, uc, rfl⟩ := hu.slice
        rw [HO.out, HNN.out]
        have B1 := B0.trans (hb1.mono B0.size)
        have b1 := keepB bx hb1
        have B2 := B1.alloc B1.size (.cells #[.int .i64 (readA l 0), .int .i64 (readA l 1), .int .i64 (readA l 2), .slice U n uc] 127)
        have b2 := keepA b1 (.cells #[.int .i64 (readA l 0), .int .i64 (readA l 1), .int .i64 (readA l 2), .slice U n uc] 127)
        clear hb1 bx B0 hu b1 B1
        go_wp2_with fail
        refine (HV2.out _).mono ?_
        rintro e w3 ⟨u3, rfl, hu3, hb3⟩
        obtain ⟨U3, uc3, rfl⟩ := hu3.slice
        rw [HOO.out]
        have B3 := B2.trans (hb3.mono B2.size)
        obtain ⟨c0, c1, f1⟩ := cellsD (keepB b2 hb3)
        go_wp2_with fail
        refine bodyPost_ret (v := aloneV false l hi) ?_ rfl ⟨rfl, ?_⟩
        · simp [results, Tryz.results101, go_sem, aloneV, c0, c1]
        · exact (B3.setCell (p := ⟨w.heap.size, 0, none⟩) (Nat.le_refl _) _).setCell (p := ⟨w.heap.size, 1, none⟩) (Nat.le_refl _) _
      | false =>
        have HXX : Hid (exOk l = true) := Lib.hid (by rw [HEX.out, he]; rfl)
        have HOO : Hid (readOk l2 = true) := Lib.hid (by rw [HMO.out, he]; rfl)
        have HHH : Hid (exHigh l = l2) := Lib.hid (HMT.out he)
        rw [HXX.out, HHH.out]
        clear hok hp hvr he HMT
        go_enter Tryz.func101, Tryz.ntmps101
        go_wp2_with fail
        refine (HV.out _).mono ?_
        rintro e w1 ⟨u, rfl, hu, hb1⟩
        obtain ⟨U, uc, rfl⟩ := hu.slice
        rw [HO.out, HNN.out]
        have B1 := B0.trans (hb1.mono B0.size)
        have b1 := keepB bx hb1
        have B2 := B1.alloc B1.size (.cells #[.int .i64 (readA l 0), .int .i64 (readA l 1), .int .i64 (readA l 2), .slice U n uc] 127)
        have b2 := keepA b1 (.cells #[.int .i64 (readA l 0), .int .i64 (readA l 1), .int .i64 (readA l 2), .slice U n uc] 127)
        clear hb1 bx B0 hu b1 B1
        go_wp2_with fail
        refine (HV2.out _).mono ?_
        rintro e w3 ⟨u3, rfl, hu3, hb3⟩
        obtain ⟨U3, uc3, rfl⟩ := hu3.slice
        rw [HOO.out]
        have B3 := B2.trans (hb3.mono B2.size)
        obtain ⟨c0, c1, f1⟩ := cellsD (keepB b2 hb3)
        go_wp2_with fail
        refine bodyPost_ret (v := aloneV true l l2) ?_ rfl ⟨rfl, ?_⟩
        · simp [results, Tryz.results101, go_sem, aloneV, c0, c1]
        · exact (B3.setCell (p := ⟨w.heap.size, 0, none⟩) (Nat.le_refl _) _).setCell (p := ⟨w.heap.size, 1, none⟩) (Nat.le_refl _) _

/-- What Exact hands back: a row of its own with the bounds. -/
def ExactIs (w : World) (l : List UInt8) (e : Ending) (w' : World) : Prop := ∃ g, e = .returned (.slice (some ⟨g, 0, none⟩) (exB l).length (exB l).length) ∧ w.heap.size ≤ g ∧ w'.heap[g]? = some (.cells (flat2 (exB l)).toArray 73) ∧ Below w.heap.size w w'

set_option maxRecDepth 100000 in
set_option maxHeartbeats 2000000 in
theorem specExact_any (l : List UInt8) (w : World) (hl : l.length ≤ 1048576) : Calls Tryz.prog 146 #[.string ⟨l.toArray⟩] w (ExactIs w l) := by
  have HA := Lib.hid (l03Alone_any l w hl)
  cases ho : exOk l with
  | false =>
    rw [ho] at HA
    have HX := Lib.hid (exB_no ho)
    clear ho
    go_enter Tryz.func146, Tryz.ntmps146
    go_wp2_with fail
    refine HA.out.mono ?_
    rintro e w1 ⟨rfl, hb1⟩
    unfold aloneV
    go_wp2_with fail
    go_ret
    refine ⟨w1.heap.size + 1, by rw [HX.out]; rfl, by have := hb1.size; omega, ?_, (hb1.alloc hb1.size _).alloc (by have := hb1.size; simp; omega) _⟩
    rw [HX.out]
    exact heap_new (by simp) _
  | true =>
    rw [ho] at HA
    have HX := Lib.hid (exB_yes ho)
    obtain ⟨hi, HHI⟩ : ∃ hi, Hid (exHigh l = hi) := ⟨_, Lib.hid rfl⟩
    rw [HHI.out] at HA HX
    clear ho
    go_enter Tryz.func146, Tryz.ntmps146
    go_wp2_with fail
    refine HA.out.mono ?_
    rintro e w1 ⟨rfl, hb1⟩
    unfold aloneV
    go_wp2_with fail
    go_ret
    refine ⟨w1.heap.size + 1, by rw [HX.out]; rfl, by have := hb1.size; omega, ?_, (hb1.alloc hb1.size _).alloc (by have := hb1.size; simp; omega) _⟩
    rw [HX.out]
    exact heap_new (by simp) _
end Go.Proofs.YtongpnknmgbhjaaGreatDoor
