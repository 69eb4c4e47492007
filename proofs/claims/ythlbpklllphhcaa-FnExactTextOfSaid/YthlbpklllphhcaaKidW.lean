/-
  spec.TextOf: the text under a key.
-/
import Derived.Test.YthlbpklllphhcaaCpT
import Derived.Test.YthlbpklllphhcaaTxI
namespace Go.Proofs.Ythlbpklllphhcaa
open Go.RowKit

theorem RdTs.deep {d : Nat} {w : World} {v : Value} {ts : List Tr} (h : RdTs d w v ts) (hk : 0 < ts.length) : ∃ e, d = e + 1 := by
  cases d with
  | zero => obtain ⟨rfl, _⟩ := h; simp at hk
  | succ d => exact ⟨d, rfl⟩
/-- What spec.Kid hands back, as far as spec.TextOf asks: the kid's kind and text, or zeros. -/
def KdW (w : World) (t : Tr) (s : List UInt8) (e : Ending) (w' : World) : Prop := ∃ (kd n : Int) (x : List UInt8) (ok : Bool) (A : Option Addr) (m c : Nat) (B : Option Addr) (l d : Nat), e = .returned (.tuple #[.agg #[.int .i64 kd, .int .i64 n, .string ⟨x.toArray⟩, .slice A m c, .slice B l d], .bool ok]) ∧ (if kd = 4 then x else []) = txT t s ∧ Below w.heap.size w w'

set_option maxRecDepth 100000 in
set_option maxHeartbeats 4000000 in
theorem specKid_any {d : Nat} (t : Tr) (s : List UInt8) (b kv : Value) (w : World) (hb : RdS w b t.keys) (hk : RdTs d w kv t.kids) (hs : wT d t ≤ 1048576) :
    Calls Try.prog 18 #[trV t b kv, .string ⟨s.toArray⟩] w (KdW w t s) := by
  have hw : wT d t = t.s.length + (t.keys.length + smL t.keys) + wTs d t.kids := rfl
  have hkl : t.keys.length ≤ 16777216 := by omega
  have hkd : t.kids.length ≤ 16777216 := by
    rcases Nat.eq_zero_or_pos t.kids.length with h | h
    · omega
    · obtain ⟨e, rfl⟩ := hk.deep h; have h1 := wTs_is e t.kids; omega
  have HR := Lib.hid (fun (W : World) (h : Below w.heap.size w W) => hk.below h)
  have HWT : Hid (∀ (k : Nat) (hk : k < t.kids.length) (e : Nat), d = e + 1 → wT e t.kids[k] ≤ 1048576) := Lib.hid (fun k hlt e he => by subst he; have h1 := wTs_is e t.kids; have h2 := wTo_succ (d := e) hlt; have h3 := wTo_le (d := e) (ts := t.kids) (k + 1); omega)
  obtain ⟨A, ca, hbv⟩ : ∃ A c, b = .slice A t.keys.length c := by obtain ⟨A, c, h, _⟩ := hb; exact ⟨A, c, h⟩
  subst hbv
  obtain ⟨B, cb, rfl, _⟩ := hk.slice
  have HA := Lib.hid (fun (W : World) (h : Below w.heap.size w W) => l06At_any t s A B ca cb W (hb.below h) hkl)
  unfold trV at HA ⊢
  have hcs : atT t s < 0 ∨ ∃ k : Nat, atT t s = k ∧ k < t.kids.length := by
    rcases Int.lt_or_le (atT t s) 0 with h | h
    · exact .inl h
    · exact .inr (atT_lt h)
  have HNO := Lib.hid (txT_no (t := t) (s := s))
  have HAT := Lib.hid (fun (k : Nat) (h : atT t s = k) (hk : k < t.kids.length) => txT_at h hk)
  obtain ⟨z, HZ⟩ : ∃ z, Hid (atT t s = z) := ⟨_, Lib.hid rfl⟩
  simp only [HZ.out] at HA hcs HNO HAT
  have B0 : Below w.heap.size w ((w.alloc (.cells #[.int .i64 t.kind, .int .i64 t.n, .string ⟨t.s.toArray⟩, .slice A t.keys.length ca, .slice B t.kids.length cb] 30)).alloc (.cells #[.int .i64 0, .int .i64 0, .string ⟨#[]⟩, .slice none 0 0, .slice none 0 0] 30)) := ((Below.refl _ _).alloc (Nat.le_refl _) _).alloc (by simp) _
  have b0 := keepA (heap_alloc_new w (.cells #[.int .i64 t.kind, .int .i64 t.n, .string ⟨t.s.toArray⟩, .slice A t.keys.length ca, .slice B t.kids.length cb] 30)) (.cells #[.int .i64 0, .int .i64 0, .string ⟨#[]⟩, .slice none 0 0, .slice none 0 0] 30)
  have b1 := heap_new (W := w.alloc (.cells #[.int .i64 t.kind, .int .i64 t.n, .string ⟨t.s.toArray⟩, .slice A t.keys.length ca, .slice B t.kids.length cb] 30)) (n := w.heap.size + 1) (by simp) (.cells #[.int .i64 0, .int .i64 0, .string ⟨#[]⟩, .slice none 0 0, .slice none 0 0] 30)
  clear hb hk hs hw
  rcases hcs with hz | ⟨k, rfl, hlt⟩
  · have HX := Lib.hid (HNO.out hz)
    go_enter Try.func18, Try.ntmps18
    go_wp2_with fail
    refine (HA.out _ B0).mono ?_
    rintro e w1 ⟨rfl, hb1⟩
    have y1 := keepB b1 hb1
    have B1 := B0.trans (hb1.mono B0.size)
    obtain ⟨x0, x1, x2, x3, x4⟩ := cells5 y1
    have fz := frozen5 y1
    go_wp2_with fail
    refine bodyPost_ret (v := .tuple #[.agg #[.int .i64 0, .int .i64 0, .string ⟨([] : List UInt8).toArray⟩, .slice none 0 0, .slice none 0 0], .bool false]) ?_ rfl ⟨0, 0, [], false, none, 0, 0, none, 0, 0, rfl, ?_, ?_⟩
    · simp [results, Try.results18, go_sem, x0, x1, x2, x3, x4]
    · rw [HX.out]; simp
    · exact ((((B1.setCell (Nat.le_succ _) _).setCell (Nat.le_succ _) _).setCell (Nat.le_succ _) _).setCell (Nat.le_succ _) _).setCell (Nat.le_succ _) _
  · have HX := Lib.hid (HAT.out k rfl hlt)
    have k0 : (0 : Int) ≤ (k : Int) := by omega
    have k1 : (k : Int) < (t.kids.length : Int) := by omega
    go_enter Try.func18, Try.ntmps18
    go_wp2_with fail
    refine (HA.out _ B0).mono ?_
    rintro e w1 ⟨rfl, hb1⟩
    have y0 := keepB b0 hb1
    have y1 := keepB b1 hb1
    have B1 := B0.trans (hb1.mono B0.size)
    obtain ⟨x0, x1, x2, x3, x4⟩ := cells5 y0
    obtain ⟨e, g, off, bb, kk, hde, rfl, hg, d0, d1, d2, d3, d4, hf, rb, rk⟩ := (HR.out _ B1).at k hlt
    have HC := Lib.hid (cpD e t.kids[k] bb kk w1 rb rk (HWT.out k hlt e hde))
    obtain ⟨A1, c1, hbb⟩ : ∃ A c, bb = .slice A t.kids[k].keys.length c := by obtain ⟨A, c, h, _⟩ := rb; exact ⟨A, c, h⟩
    subst hbb
    obtain ⟨A2, c2, rfl, _⟩ := rk.slice
    generalize t.kids[k] = kid at d0 d1 d2 d3 d4 hf rb rk HC HX
    unfold trV at HC
    clear rb rk hb1 b0 b1 B0 hf
    go_wp2_with fail
    refine HC.out.mono ?_
    rintro e w2 ⟨E1, m1, f1, E2, m2, f2, rfl, hb2⟩
    have z1 := keepB y1 hb2
    have B2 := B1.trans (hb2.mono B1.size)
    obtain ⟨q0, q1, q2, q3, q4⟩ := cells5 z1
    have fz := frozen5 z1
    clear hb2 y0 y1 d0 d1 d2 d3 d4 x0 x1 x2 x3 x4
    go_wp2_with fail
    refine bodyPost_ret (v := .tuple #[.agg #[.int .i64 kid.kind, .int .i64 kid.n, .string ⟨kid.s.toArray⟩, .slice E1 m1 f1, .slice E2 m2 f2], .bool true]) ?_ rfl ⟨_, _, _, _, _, _, _, _, _, _, rfl, HX.out.symm, ?_⟩
    · simp [results, Try.results18, go_sem, q0, q1, q2, q3, q4]
    · exact ((((B2.setCell (Nat.le_succ _) _).setCell (Nat.le_succ _) _).setCell (Nat.le_succ _) _).setCell (Nat.le_succ _) _).setCell (Nat.le_succ _) _

set_option maxRecDepth 100000 in
set_option maxHeartbeats 4000000 in
theorem specTextOf_any {d : Nat} (t : Tr) (s : List UInt8) (b kv : Value) (w : World) (hb : RdS w b t.keys) (hk : RdTs d w kv t.kids) (hs : wT d t ≤ 1048576) :
    Calls Try.prog 14 #[trV t b kv, .string ⟨s.toArray⟩] w fun e w' => e = .returned (.string ⟨(txT t s).toArray⟩) ∧ Below w.heap.size w w' := by
  have HK := Lib.hid (fun (W : World) (h : Below w.heap.size w W) => specKid_any t s b kv W (hb.below h) (hk.below h) hs)
  obtain ⟨A, ca, hbv⟩ : ∃ A c, b = .slice A t.keys.length c := by obtain ⟨A, c, h, _⟩ := hb; exact ⟨A, c, h⟩
  subst hbv
  obtain ⟨B, cb, rfl, _⟩ := hk.slice
  unfold trV at HK ⊢
  unfold KdW at HK
  obtain ⟨r, HR⟩ : ∃ r, Hid (txT t s = r) := ⟨_, Lib.hid rfl⟩
  simp only [HR.out] at HK ⊢
  clear hb hk hs
  have B0 : Below w.heap.size w (w.alloc (.cells #[.int .i64 t.kind, .int .i64 t.n, .string ⟨t.s.toArray⟩, .slice A t.keys.length ca, .slice B t.kids.length cb] 30)) := (Below.refl _ _).alloc (Nat.le_refl _) _
  go_enter Try.func14, Try.ntmps14
  go_wp2_with fail
  refine (HK.out _ B0).mono ?_
  rintro e w1 ⟨kd, n, x, ok, A1, m1, c1, A2, m2, c2, rfl, hx, hb1⟩
  have B1 := B0.trans (hb1.mono B0.size)
  clear hb1 B0
  by_cases h4 : kd = 4
  · have hx2 : x = r := by rw [← hx, if_pos h4]
    subst hx2
    have q1 : (kd != 4) = false := by simp [h4]
    clear hx h4
    go_wp2_with fail
    go_ret
    exact ⟨rfl, B1.alloc B1.size _⟩
  · have hx2 : r = [] := by rw [← hx, if_neg h4]
    subst hx2
    have q1 : (kd != 4) = true := by simp [h4]
    clear hx h4
    go_wp2_with fail
    go_ret
    exact ⟨rfl, B1.alloc B1.size _⟩
end Go.Proofs.Ythlbpklllphhcaa
