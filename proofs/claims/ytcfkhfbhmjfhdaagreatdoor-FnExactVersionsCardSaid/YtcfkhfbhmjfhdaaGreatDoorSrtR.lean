/-
  Rows of versions and of texts: append of a version; slices.Compact of a row of texts.
-/
import Derived.Test.YtcfkhfbhmjfhdaaGreatDoorSrtF
import Derived.Test.YtcfkhfbhmjfhdaaGreatDoorLaysCompact
namespace Go.Proofs.YtcfkhfbhmjfhdaaGreatDoor
open Go.RowKit

/-- append(versions, v) at a plain region's list. -/
theorem wpList_append_ver {w : World} {ops : Array Oper} {rest : List Oper} {o : Oper} {a : Act} {Q : Exit → Act → World → Prop} (hgd : o.guard = none) (s x : Operand)
    (ho : o.op = .call { callee := .builtin .append, args := #[s, x], argTypes := #[78, 78] })
    (base : Nat) (v : Value) (l : List (Int × Int × Int × Value)) (hs : a.eval s = v) (hown : Vers w base v l) (B c : Nat) (T : TypeId) (fr : Nat × Nat) (p q r : Int) (u : Value) (hu : u.oneCell' = true)
    (hx : a.eval x = .slice (some ⟨B, 0, none⟩) 1 c) (hB : w.heap[B]? = some (.cells #[.int .i64 p, .int .i64 q, .int .i64 r, u] T fr)) (hlen : l.length + 1 ≤ 16777216) (hbase : base ≤ w.heap.size)
    (h : ∀ v' w', Vers w' base v' (l ++ [(p, q, r, u)]) → w.grownBy w' v.ownBlock → wpList Tryz.prog ops Q rest (a.put o.dst v') w') : wpList Tryz.prog ops Q (o :: rest) a w := by
  refine wpList_plain hgd fun _ hK => ?_
  obtain ⟨v', w', hr, h2, h3⟩ := run_append_ver w o.type base v l hown B c T fr p q r u hu hB hlen hbase
  unfold Oper.wp execOp
  simp only [ho, resolve, invoke, builtin, Sem.run_bind, Sem.run_pure, Result.andThen_ok, List.map_toArray, List.map_cons, List.map_nil, hs, hx, hr]
  exact hK _ _ (h v' w' h2 h3)

theorem Vers.form {w : World} {base : Nat} {v : Value} {l : List (Int × Int × Int × Value)} (h : Vers w base v l) : (v = .slice none 0 0 ∧ l = []) ∨ ∃ g cap, v = .slice (some ⟨g, 0, none⟩) l.length cap ∧ base ≤ g ∧ g < w.heap.size := by
  rcases h.2 with ⟨hv, hl⟩ | ⟨g, cap, cur, hv, hb, hh, _⟩
  · left; exact ⟨hv, List.length_eq_zero_iff.1 hl⟩
  · right; exact ⟨g, cap, hv, hb, (Array.getElem?_eq_some_iff.1 hh).1⟩
theorem Vers.owned {w : World} {base : Nat} {v : Value} {l : List (Int × Int × Int × Value)} (h : Vers w base v l) : ∀ g, v.ownBlock = some g → base ≤ g := by
  intro g hg
  rcases h.form with ⟨rfl, _⟩ | ⟨g', cap, rfl, hb, _⟩
  · simp [Value.ownBlock] at hg
  · simp [Value.ownBlock] at hg; omega
theorem Vers.below {w w' : World} {base : Nat} {v : Value} {l : List (Int × Int × Int × Value)} (h : Vers w base v l) (hb : Below w.heap.size w w') : Vers w' base v l :=
  World.ownsRow.kept h (row := none) ⟨hb.os, hb.tape, hb.output, hb.size, fun i hi _ => hb.block i hi⟩ (by
    rcases h.form with ⟨rfl, _⟩ | ⟨g, cap, rfl, _, _⟩
    · left; rfl
    · right; simp [Value.ownBlock])
theorem Vers.empty (w : World) (base : Nat) (hb : base ≤ w.heap.size) : Vers (w.alloc (.cells #[] 74)) base (.slice (some ⟨w.heap.size, 0, none⟩) 0 0) [] := by
  have h := World.ownsRow_lit (base := base) (e := 74) (size := 4) w #[] 0 hb (by unfold maxLen; omega) (by simp)
  simpa [Vers, flat4] using h
theorem VerRow.below {w w' : World} {base : Nat} {v : Value} {X : List VI} (h : VerRow w base v X) (hb : Below w.heap.size w w') : VerRow w' base v X := ⟨h.1.below hb, fun x hx => (h.2 x hx).below hb⟩
/-- A row of versions that grows leaves texts as they were. -/
theorem Strs.grownV {w w' : World} {base : Nat} {v u : Value} {l : List (Int × Int × Int × Value)} {ls : List (List UInt8)} (h : Strs w 0 u ls) (hV : Vers w base v l) (hg : w.grownBy w' v.ownBlock) : Strs w' 0 u ls :=
  World.ownsRow.kept h hg (by
    rcases h.2 with ⟨rfl, _⟩ | ⟨g', cap', cur', rfl, _, hh, _⟩
    · left; rfl
    · right
      rcases hV.2 with ⟨rfl, _⟩ | ⟨g, cap, cur, rfl, _, hgg, _⟩
      · simp [Value.ownBlock]
      · simp only [Value.ownBlock, ne_eq, Option.some.injEq]
        rintro rfl
        rw [hgg] at hh
        simp only [Option.some.injEq, Obj.cells.injEq] at hh
        exact absurd hh.2.1 (by decide))

/-- A run of stores into a row of texts. -/
theorem Strs.setMany {base b cap : Nat} : ∀ (vs : List (List UInt8)) (k : Nat) (L : List (List UInt8)) (w : World), Strs w base (.slice (some ⟨b, 0, none⟩) L.length cap) L → k + vs.length ≤ L.length →
    Strs (w.setCells b k (vs.map sv)) base (.slice (some ⟨b, 0, none⟩) L.length cap) (L.take k ++ vs ++ L.drop (k + vs.length))
  | [], k, L, w, h, _ => by simpa [World.setCells] using h
  | x :: vs, k, L, w, h, hk => by
    simp only [List.length_cons] at hk
    have h1 := h.set k x
    have h2 := Strs.setMany vs (k + 1) (L.set k x) _ h1 (by simp; omega)
    rw [List.length_set] at h2
    have e : (L.set k x).take (k + 1) ++ vs ++ (L.set k x).drop (k + 1 + vs.length) = L.take k ++ (x :: vs) ++ L.drop (k + (x :: vs).length) := by
      rw [List.drop_set_of_lt (by omega)]
      rw [List.take_succ_eq_append_getElem (by simp; omega), List.take_set_of_le (by omega), List.getElem_set_self]
      simp only [List.append_assoc, List.cons_append, List.nil_append, List.length_cons]
      rw [show k + 1 + vs.length = k + (vs.length + 1) by omega]
    rw [e] at h2
    exact h2
theorem below_setCells {n b : Nat} {w0 : World} (hb : n ≤ b) : ∀ (vs : List Value) (k : Nat) (w : World), Below n w0 w → Below n w0 (w.setCells b k vs)
  | [], _, _, h => h
  | v :: r, k, _, h => below_setCells hb r (k + 1) _ (h.setCell (p := ⟨b, k, none⟩) hb v)
theorem Strs.cut {w : World} {base b cap : Nat} {A B : List (List UInt8)} (h : Strs w base (.slice (some ⟨b, 0, none⟩) (A ++ B).length cap) (A ++ B)) : Strs w base (.slice (some ⟨b, 0, none⟩) A.length cap) A := by
  rcases h.2 with ⟨hv, _⟩ | ⟨g, cap', cur, hv, hb, hh, hc, hm, hs, ht⟩
  · cases hv
  · refine ⟨by simp, .inr ⟨g, cap', cur, ?_, hb, hh, ?_, hm, hs, ?_⟩⟩
    · simp only [Value.slice.injEq] at hv; rw [hv.1, hv.2.2]
    · simp at hc; omega
    · have := congrArg (List.take A.length) ht
      rw [List.take_take] at this
      simp only [Nat.mul_one, List.length_append, List.map_append] at this ⊢
      rw [show min A.length (A.length + B.length) = A.length by omega] at this
      rw [this, List.take_append_of_le_length (by simp), List.take_of_length_le (by simp)]

theorem compact_any (w : World) (base b cap : Nat) (T : List (List UInt8)) (h : Strs w base (.slice (some ⟨b, 0, none⟩) T.length cap) T) (hn : T.length ≤ 1048576) :
    Calls Tryz.prog 57 #[.slice (some ⟨b, 0, none⟩) T.length cap] w fun e w' => ∃ g c, e = .returned (.slice (some ⟨g, 0, none⟩) (Lib.compact T).length c) ∧ Strs w' base (.slice (some ⟨g, 0, none⟩) (Lib.compact T).length c) (Lib.compact T) ∧ Below base w w' := by
  obtain ⟨hb, hcap⟩ : base ≤ b ∧ T.length ≤ cap := by
    rcases h.2 with ⟨hv, _⟩ | ⟨g, cap', cur, hv, hb, _, hc, _⟩
    · cases hv
    · simp only [Value.slice.injEq, Option.some.injEq, Addr.mk.injEq, and_true] at hv
      omega
  have hSx : Lib.strsOf (fun i => (⟨(T.getD i []).toArray⟩ : ByteArray)) T.length = T := by
    unfold Lib.strsOf
    apply List.ext_getElem (by simp)
    intro i h1 h2
    simp [h2]
  have hcon := Any.slices_Compact_string_cells Tryz.laysCompact b 0 T.length cap (fun i => (⟨(T.getD i []).toArray⟩ : ByteArray)) w (by omega) hcap (fun i hi => by
      rw [Nat.zero_add, h.cell i hi]
      simp [sv, hi]) (fun j _ => by rw [Nat.zero_add]; exact World.ownsRow.frozenAt h j)
  rw [hSx] at hcon
  refine hcon.mono ?_
  rintro e w' ⟨rfl, q, rfl⟩
  have hle := Lib.compact_length_le T
  have hl : (Lib.compact T ++ List.replicate (T.length - (Lib.compact T).length) []).length = T.length := by simp; omega
  have h2 := Strs.setMany (Lib.compact T ++ List.replicate (T.length - (Lib.compact T).length) []) 0 T (w.drewN q) (h.below (below_drewN _ _ q)) (by omega)
  rw [List.take_zero, List.nil_append, Nat.zero_add, hl, List.drop_length, List.append_nil] at h2
  have h3 : Strs ((w.drewN q).setCells b 0 ((Lib.compact T ++ List.replicate (T.length - (Lib.compact T).length) []).map sv)) base (.slice (some ⟨b, 0, none⟩) (Lib.compact T ++ List.replicate (T.length - (Lib.compact T).length) []).length cap) (Lib.compact T ++ List.replicate (T.length - (Lib.compact T).length) []) := by rw [hl]; exact h2
  exact ⟨b, cap, rfl, h3.cut, below_setCells hb _ _ _ (below_drewN _ _ q)⟩
end Go.Proofs.YtcfkhfbhmjfhdaaGreatDoor
