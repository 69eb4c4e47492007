/-
  impl.TextOf.
-/
import Derived.Test.YthlbpklllphhcaaIxT
import Derived.Test.YthlbpklllphhcaaClone
namespace Go.Proofs.Ythlbpklllphhcaa
open Go.RowKit

/-- The text under a key. -/
def txT (t : Tr) (s : List UInt8) : List UInt8 := if h : 0 ≤ atT t s ∧ (atT t s).toNat < t.kids.length then (if t.kids[(atT t s).toNat].kind = 4 then t.kids[(atT t s).toNat].s else []) else []
theorem atT_lt {t : Tr} {s : List UInt8} (h : 0 ≤ atT t s) : ∃ k : Nat, atT t s = k ∧ k < t.kids.length := by
  unfold atT at h ⊢
  split at h
  · rename_i hc
    rw [if_pos hc]
    exact ⟨_, rfl, hc.2.2⟩
  · omega
theorem txT_no {t : Tr} {s : List UInt8} (h : atT t s < 0) : txT t s = [] := by unfold txT; rw [dif_neg (by omega)]
theorem txT_at {t : Tr} {s : List UInt8} {k : Nat} (h : atT t s = k) (hk : k < t.kids.length) : txT t s = if t.kids[k].kind = 4 then t.kids[k].s else [] := by
  unfold txT
  have e : (atT t s).toNat = k := by omega
  simp only [e]
  rw [dif_pos ⟨by omega, hk⟩]

set_option maxRecDepth 100000 in
set_option maxHeartbeats 2000000 in
theorem textOf_any {d : Nat} (t : Tr) (s : List UInt8) (b kv : Value) (w : World) (hb : RdS w b t.keys) (hk : RdTs d w kv t.kids) (hs2 : ∀ k (h : k < t.kids.length), t.kids[k].s.length ≤ 1048576) (hl : t.keys.length ≤ 16777216) (hm : t.kids.length ≤ 16777216) :
    Calls Try.prog 16 #[trV t b kv, .string ⟨s.toArray⟩] w fun e w' => e = .returned (.string ⟨(txT t s).toArray⟩) ∧ Below w.heap.size w w' := by
  have HR := Lib.hid (fun (W : World) (h : Below w.heap.size w W) => hk.below h)
  obtain ⟨A, ca, rfl⟩ : ∃ A c, b = .slice A t.keys.length c := by obtain ⟨A, c, rfl, _⟩ := hb; exact ⟨A, c, rfl⟩
  obtain ⟨B, cb, rfl, _⟩ := hk.slice
  have HV := Lib.hid (fun (W : World) (h : Below w.heap.size w W) => valueAt_any t s A B ca cb W (hb.below h) hl hm)
  have HL := Lib.hid hs2
  obtain ⟨r, HX⟩ : ∃ r, Hid (txT t s = r) := ⟨_, Lib.hid rfl⟩
  rw [HX.out]
  obtain ⟨z, HZ⟩ : ∃ z, Hid (atT t s = z) := ⟨_, Lib.hid rfl⟩
  rw [HZ.out] at HV
  clear hb hk hs2
  unfold trV at HV ⊢
  have B1 : Below w.heap.size w (w.alloc (.cells #[.int .i64 t.kind, .int .i64 t.n, .string ⟨t.s.toArray⟩, .slice A t.keys.length ca, .slice B t.kids.length cb] 30)) := (Below.refl _ _).alloc (Nat.le_refl _) _
  have bw := heap_alloc_new w (.cells #[.int .i64 t.kind, .int .i64 t.n, .string ⟨t.s.toArray⟩, .slice A t.keys.length ca, .slice B t.kids.length cb] 30)
  have HV1 := Lib.hid (HV.out _ B1)
  by_cases q : z < 0
  · have HN : Hid (r = []) := Lib.hid (by rw [← HX.out]; exact txT_no (by rw [HZ.out]; exact q))
    have HE : Hid ([] = r) := Lib.hid HN.out.symm
    clear bw
    go_enter Try.func16, Try.ntmps16
    go_wp2_with fail
    refine HV1.out.mono ?_
    rintro e w1 ⟨rfl, hb1⟩
    have B2 := B1.trans (hb1.mono B1.size)
    go_wp2_with fail
    go_ret
    exact ⟨ret_str HE.out, B2⟩
  · obtain ⟨k, hzk, hkl⟩ := atT_lt (t := t) (s := s) (by rw [HZ.out]; omega)
    have HT := Lib.hid (txT_at hzk hkl)
    rw [HX.out] at HT
    obtain rfl : z = k := by rw [← HZ.out]; exact hzk
    have HL1 := Lib.hid (HL.out k hkl)
    clear hzk HV
    go_enter Try.func16, Try.ntmps16
    go_wp2_with fail
    refine HV1.out.mono ?_
    rintro e w1 ⟨rfl, hb1⟩
    have B2 := B1.trans (hb1.mono B1.size)
    obtain ⟨x0, x1, x2, x3, x4⟩ := cells5 (keepB bw hb1)
    obtain ⟨e, g, off, kb, kkv, he, rfl, hg, d0, d1, d2, d3, d4, hf, rb, rk⟩ := (HR.out w1 B2).at k hkl
    have k0 : (0 : Int) ≤ (k : Int) := by omega
    have k1 : (k : Int) < (t.kids.length : Int) := by omega
    clear rb rk hf bw hb1
    by_cases q4 : t.kids[k].kind = 4
    · have q5 : (t.kids[k].kind != 4) = false := by simp [q4]
      have HE : Hid (t.kids[k].s = r) := Lib.hid (by rw [HT.out, if_pos q4])
      have HC := Lib.hid (clone_any ⟨t.kids[k].s.toArray⟩ w1 (by show t.kids[k].s.toArray.size ≤ _; simpa using HL1.out))
      clear q4
      go_wp2_with fail
      refine HC.out.mono ?_
      rintro e w2 ⟨rfl, hb2⟩
      go_wp2_with fail
      go_ret
      exact ⟨ret_str HE.out, B2.trans (hb2.mono B2.size)⟩
    · have q5 : (t.kids[k].kind != 4) = true := by simp [q4]
      have HN : Hid (r = []) := Lib.hid (by rw [HT.out, if_neg q4])
      have HE : Hid ([] = r) := Lib.hid HN.out.symm
      clear q4
      go_wp2_with fail
      go_ret
      exact ⟨ret_str HE.out, B2⟩
end Go.Proofs.Ythlbpklllphhcaa
