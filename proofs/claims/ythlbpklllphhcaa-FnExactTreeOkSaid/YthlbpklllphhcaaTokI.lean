/-
  impl.branchOk, impl.TreeOk.
-/
import Derived.Test.YthlbpklllphhcaaTokM
import Derived.Test.YthlbpklllphhcaaNdI
import Derived.RegionTactic
import Derived.ChangeAlike
namespace Go.Proofs.Ythlbpklllphhcaa
open Go.RowKit

/-- What branchOk hands back: whether the tree is right within so many levels and nodes; what is left then. -/
def BrR (r : Bool) (N : Nat) (left : Int) (p n0 : Nat) (W0 w : World) (e : Ending) (w' : World) : Prop :=
  ∃ l : Int, e = .returned (.bool r) ∧ w'.heap[p]? = some (.cells #[.int .i64 l] 3) ∧ (r = true → l = left - (N : Int)) ∧ Below n0 W0 w' ∧ w.heap.size ≤ w'.heap.size
def BrD (d : Nat) : Prop := ∀ (t : Tr) (b kv : Value) (level left : Int) (p : Nat) (W0 w : World), NdFits t → RdS W0 b t.keys → RdTs d W0 kv t.kids → wT d t ≤ 1048576 → Below W0.heap.size W0 w → W0.heap.size ≤ p → w.heap[p]? = some (.cells #[.int .i64 left] 3) → 0 ≤ level → level ≤ 9 → 0 ≤ left → left ≤ 599 → Calls Try.prog 71 #[trV t b kv, .int .i64 level, .pointer (some ⟨p, 0, none⟩)] w (BrR (brB d t level left) (nTs d t.kids) left p W0.heap.size W0 w)
theorem cells1 {V : World} {B : Nat} {T : TypeId} {v0 : Value} (h : V.heap[B]? = some (.cells #[v0] T)) : V.cell? ⟨B, 0, none⟩ = some v0 ∧ ∀ o, V.frozen? ⟨B, o, none⟩ = false := by
  constructor
  · simp [World.cell?, h]
  · intro o; simp [World.frozen?, h]
theorem set1_heap {V : World} {B : Nat} {T : TypeId} {v0 : Value} (h : V.heap[B]? = some (.cells #[v0] T)) (x : Value) : (V.setCell ⟨B, 0, none⟩ x).heap[B]? = some (.cells #[x] T) := by
  rw [heap_setCell_same V B 0 #[v0] T x h]; rfl
theorem brB_own {d : Nat} {t : Tr} {level left : Int} (h : nodeB t = false) : brB d t level left = false := by unfold brB; rw [okT_own h]; rfl
theorem brB_deep {d : Nat} {t : Tr} {level left : Int} (h : 8 < level) : brB d t level left = false := by unfold brB; rw [okT_deep (by omega)]; rfl
theorem brB_many {d : Nat} {t : Tr} {level left : Int} (h : left < (nTs d t.kids : Int)) : brB d t level left = false := by unfold brB; rw [decide_eq_false (by omega)]; simp

set_option maxRecDepth 100000 in
set_option maxHeartbeats 8000000 in
theorem branchOk_of {d : Nat} (IH : ∀ e, d = e + 1 → BrD e) : BrD d := by
  intro t b kv level left p W0 w hf hb hk hs hbw hp hpc hl0 hl9 hf0 hf9
  have hw : wT d t = t.s.length + (t.keys.length + smL t.keys) + wTs d t.kids := rfl
  have hkl : t.keys.length ≤ 1048576 := by omega
  have hkm : ∀ l ∈ t.keys, l.length ≤ 1048576 := fun l h => by have := smL_mem l h; omega
  have hdp := hk.dp
  have hln := len_nTs hdp
  have hnw := nTs_w d t.kids
  have hkd : t.kids.length ≤ 1048576 := by omega
  have HI := Lib.hid IH
  have HR := Lib.hid (fun (W : World) (h : Below W0.heap.size W0 W) => hk.below h)
  have HSW := Lib.hid hs
  obtain ⟨A, ca, hbv⟩ : ∃ A c, b = .slice A t.keys.length c := by obtain ⟨A, c, h, _⟩ := hb; exact ⟨A, c, h⟩
  subst hbv
  obtain ⟨B, cb, rfl, _⟩ := hk.slice
  have HO := Lib.hid (fun (W : World) (h : Below W0.heap.size W0 W) => nodeOk_any t (.slice A t.keys.length ca) (.slice B t.kids.length cb) B cb W (hb.below h) rfl hkl hkm hkd)
  have hlp := lt_of_heap hpc
  obtain ⟨r, HRR⟩ : ∃ r, Hid (brB d t level left = r) := ⟨_, Lib.hid rfl⟩
  have HBO := Lib.hid (fun h => HRR.out.symm.trans (brB_own (d := d) (t := t) (level := level) (left := left) h))
  have HBD := Lib.hid (fun h => HRR.out.symm.trans (brB_deep (d := d) (t := t) (level := level) (left := left) h))
  have HBM := Lib.hid (fun h => HRR.out.symm.trans (brB_many (d := d) (t := t) (level := level) (left := left) h))
  have HBR : Hid (r = (okT nodeB d t (8 - level) && decide ((nTs d t.kids : Int) ≤ left))) := Lib.hid HRR.out.symm
  rw [HRR.out]
  obtain ⟨N, HN⟩ : ∃ N, Hid (nTs d t.kids = N) := ⟨_, Lib.hid rfl⟩
  have HPN : Hid (nPre d t.kids t.kids.length = N) := Lib.hid (by rw [← HN.out]; exact nPre_all d t.kids)
  have hln2 : t.kids.length ≤ N := by rw [← HN.out]; exact hln
  have hnw2 : N ≤ 1048576 := by rw [← HN.out]; omega
  simp only [HN.out] at HBM HBR ⊢
  clear hln hnw HN
  unfold trV at HO ⊢
  clear hb hk IH hw hs hdp hf hkm
  have B0 : Below W0.heap.size W0 (w.alloc (.cells #[.int .i64 t.kind, .int .i64 t.n, .string ⟨t.s.toArray⟩, .slice A t.keys.length ca, .slice B t.kids.length cb] 30)) := hbw.alloc hbw.size _
  have b0 := heap_alloc_new w (.cells #[.int .i64 t.kind, .int .i64 t.n, .string ⟨t.s.toArray⟩, .slice A t.keys.length ca, .slice B t.kids.length cb] 30)
  have p0 := keepA hpc (.cells #[.int .i64 t.kind, .int .i64 t.n, .string ⟨t.s.toArray⟩, .slice A t.keys.length ca, .slice B t.kids.length cb] 30)
  have s0 : w.heap.size ≤ (w.alloc (.cells #[.int .i64 t.kind, .int .i64 t.n, .string ⟨t.s.toArray⟩, .slice A t.keys.length ca, .slice B t.kids.length cb] 30)).heap.size := by simp
  go_enter Try.func71, Try.ntmps71
  go_wp2_with fail
  generalize w.alloc (.cells #[.int .i64 t.kind, .int .i64 t.n, .string ⟨t.s.toArray⟩, .slice A t.keys.length ca, .slice B t.kids.length cb] 30) = V at B0 b0 p0 s0 ⊢
  obtain ⟨x0, x1, x2, x3, x4⟩ := cells5 b0
  obtain ⟨y0, yf⟩ := cells1 p0
  have lV := lt_of_heap b0
  have lP := lt_of_heap p0
  have hne : w.heap.size ≠ p := by omega
  have p1 : (V.setCell ⟨p, 0, none⟩ (.int .i64 (left - (t.kids.length : Int)))).drew.heap[p]? = some (.cells #[.int .i64 (left - (t.kids.length : Int))] 3) := set1_heap p0 _
  have b1 : (V.setCell ⟨p, 0, none⟩ (.int .i64 (left - (t.kids.length : Int)))).drew.heap[w.heap.size]? = some (.cells #[.int .i64 t.kind, .int .i64 t.n, .string ⟨t.s.toArray⟩, .slice A t.keys.length ca, .slice B t.kids.length cb] 30) := heap_other b0 _ (by omega)
  have B1 : Below W0.heap.size W0 (V.setCell ⟨p, 0, none⟩ (.int .i64 (left - (t.kids.length : Int)))).drew := (B0.setCell (p := ⟨p, 0, none⟩) hp _).trans (below_drew _ _)
  have s1 : w.heap.size ≤ (V.setCell ⟨p, 0, none⟩ (.int .i64 (left - (t.kids.length : Int)))).drew.heap.size := by simpa using s0
  go_region
  clear x0 x1 x2 x3 x4 y0 yf lV lP b0 p0 B0 s0
  generalize (V.setCell ⟨p, 0, none⟩ (.int .i64 (left - (t.kids.length : Int)))).drew = U at p1 b1 B1 s1 ⊢
  obtain ⟨x0, x1, x2, x3, x4⟩ := cells5 b1
  obtain ⟨y0, yf⟩ := cells1 p1
  have HZ : Hid (∃ z, left - (t.kids.length : Int) = z) := Lib.hid ⟨_, rfl⟩
  obtain ⟨z, hz⟩ := HZ.out
  have HZE := Lib.hid hz
  rw [hz] at p1 y0
  clear HZ
  by_cases z0 : z < 0
  · have HX := Lib.hid (HBM.out (by omega))
    clear HBO HBD HBM HBR
    go_wp2_with fail
    go_ret
    exact ⟨z, ret_bool HX.out.symm, p1, (fun h => by rw [HX.out] at h; cases h), B1, s1⟩
  by_cases l8 : 8 < level
  · have HX := Lib.hid (HBD.out l8)
    clear HBO HBD HBM HBR
    go_wp2_with fail
    go_ret
    exact ⟨z, ret_bool HX.out.symm, p1, (fun h => by rw [HX.out] at h; cases h), B1, s1⟩
  have HN := Lib.hid (HO.out _ B1)
  obtain ⟨nb, HNB⟩ : ∃ nb, Hid (nodeB t = nb) := ⟨_, Lib.hid rfl⟩
  rw [HNB.out] at HN
  clear HO
  cases nb
  · have HX := Lib.hid (HBO.out HNB.out)
    clear HBO HBD HBM HBR
    go_wp2_with fail
    refine HN.out.mono ?_
    rintro e w2 ⟨rfl, hb2⟩
    have p2 := keepB p1 hb2
    have B2 := B1.trans (hb2.mono B1.size)
    have s2 := Nat.le_trans s1 hb2.size
    go_wp2_with fail
    go_ret
    exact ⟨z, ret_bool HX.out.symm, p2, (fun h => by rw [HX.out] at h; cases h), B2, s2⟩
  · have HOT := Lib.hid (fun (k : Nat) (hk : ¬ k < t.kids.length) (h : okTo nodeB d t.kids (8 - level - 1) k) => okT_end hk h)
    go_wp2_with fail
    refine HN.out.mono ?_
    rintro e w2 ⟨rfl, hb2⟩
    have p2 := keepB p1 hb2
    have b2 := keepB b1 hb2
    have B2 := B1.trans (hb2.mono B1.size)
    have s2 := Nat.le_trans s1 hb2.size
    clear hb2 p1 b1 B1 s1 x0 x1 x2 x3 x4 y0 yf
    obtain ⟨x0, x1, x2, x3, x4⟩ := cells5 b2
    go_wp2_with fail
    go_loopw [8, 33] (fun _ i wr => ∃ (k : Nat) (l : Int), k ≤ t.kids.length ∧ i = .int .i64 k ∧ Hid (okTo nodeB d t.kids (8 - level - 1) k) ∧ 0 ≤ l ∧ l ≤ 599 ∧ Hid (l = z - ((nPre d t.kids k : Int) - (k : Int))) ∧ wr.heap[p]? = some (.cells #[.int .i64 l] 3) ∧ Below W0.heap.size W0 wr ∧ w.heap.size ≤ wr.heap.size) (fun _ i _ => t.kids.length - (intOf i).toNat)
    case atStart => exact ⟨0, z, Nat.zero_le _, rfl, Lib.hid (okTo_zero _ _ _ _), by omega, by omega, Lib.hid (by rw [nPre_zero]; simp), p2, B2, s2⟩
    case round =>
      obtain ⟨k, l, hk, rfl, HA, hl0', hl9', HLL, hpr, hbr, hsr⟩ := hrel
      clear p2 b2 B2 s2 x0 x1 x2 x3 x4
      by_cases hlt : k < t.kids.length
      · obtain ⟨e, g, off, bb, kk, hde, rfl, hg, d0', d1', d2', d3', d4', hf, rb, rk⟩ := (HR.out W0 (Below.refl _ _)).at k hlt
        have d0 := keepC hbr d0'
        have d1 := keepC hbr d1'
        have d2 := keepC hbr d2'
        have d3 := keepC hbr d3'
        have d4 := keepC hbr d4'
        have hgw : g < wr.heap.size := Nat.lt_of_lt_of_le hg hbr.size
        have HC : Hid (∀ W : World, Below W0.heap.size W0 W → W.heap[p]? = some (.cells #[.int .i64 l] 3) → Calls Try.prog 71 #[trV t.kids[k] bb kk, .int .i64 (level + 1), .pointer (some ⟨p, 0, none⟩)] W (BrR (brB e t.kids[k] (level + 1) l) (nTs e t.kids[k].kids) l p W0.heap.size W0 W)) := Lib.hid (fun W h1 h2 => HI.out e hde t.kids[k] bb kk (level + 1) l p W0 W hf rb rk (by subst hde; have h3 := wTo_succ (d := e) hlt; have h4 := wTo_le (d := e) (ts := t.kids) (k + 1); have h5 := wTs_is e t.kids; have h6 : wT (e + 1) t = t.s.length + (t.keys.length + smL t.keys) + wTs (e + 1) t.kids := rfl; have := HSW.out; omega) h1 hp h2 (by omega) (by omega) hl0' hl9')
        have HBK : Hid (brB e t.kids[k] (level + 1) l = (okT nodeB e t.kids[k] (8 - (level + 1)) && decide ((nTs e t.kids[k].kids : Int) ≤ l))) := Lib.hid rfl
        have HBT := Lib.hid (fun (h : okT nodeB e t.kids[k] (8 - level - 1) = false) => (show okT nodeB d t (8 - level) = false by subst hde; exact okT_bad hlt h))
        have HYS : Hid (okT nodeB e t.kids[k] (8 - level - 1) = true → okTo nodeB d t.kids (8 - level - 1) (k + 1)) := Lib.hid (fun h => by subst hde; exact okTo_step HA.out hlt h)
        have HST : Hid (nPre d t.kids (k + 1) = nPre d t.kids k + (1 + nTs e t.kids[k].kids)) := Lib.hid (by subst hde; exact nPre_step hlt)
        have HRE : Hid (nPre d t.kids (k + 1) + (t.kids.length - (k + 1)) ≤ N) := Lib.hid (by rw [← HPN.out, nPre_all]; subst hde; exact nPre_rest (k := k + 1) (by omega))
        have hdeep : 8 - (level + 1) = 8 - level - 1 := by omega
        obtain ⟨A1, c1, hbb⟩ : ∃ A c, bb = .slice A t.kids[k].keys.length c := by obtain ⟨A, c, h, _⟩ := rb; exact ⟨A, c, h⟩
        subst hbb
        obtain ⟨A2, c2, rfl, _⟩ := rk.slice
        have k0 : (0 : Int) ≤ (k : Int) := by omega
        have k1 : (k : Int) < (t.kids.length : Int) := by omega
        rw [hdeep] at HBK
        clear rb rk hf d0' d1' d2' d3' d4' HA hdeep
        generalize t.kids[k] = kid at d0 d1 d2 d3 d4 HC HBK HBT HYS HST
        unfold trV at HC
        obtain ⟨m, HM⟩ : ∃ m, Hid (nTs e kid.kids = m) := ⟨_, Lib.hid rfl⟩
        obtain ⟨zb, HZB⟩ : ∃ zb, Hid (brB e kid (level + 1) l = zb) := ⟨_, Lib.hid rfl⟩
        simp only [HM.out, HZB.out] at HC HBK HST
        have BO := hbr.alloc hbr.size (.cells #[.int .i64 kid.kind, .int .i64 kid.n, .string ⟨kid.s.toArray⟩, .slice A1 kid.keys.length c1, .slice A2 kid.kids.length c2] 30)
        have PO := keepA hpr (.cells #[.int .i64 kid.kind, .int .i64 kid.n, .string ⟨kid.s.toArray⟩, .slice A1 kid.keys.length c1, .slice A2 kid.kids.length c2] 30)
        have SO : w.heap.size ≤ (wr.alloc (.cells #[.int .i64 kid.kind, .int .i64 kid.n, .string ⟨kid.s.toArray⟩, .slice A1 kid.keys.length c1, .slice A2 kid.kids.length c2] 30)).heap.size := by simp; omega
        have lw : IntKind.i64.wrap (level + 1) = level + 1 := IntWalk.i64_in _ (by omega)
        have HC2 := Lib.hid (HC.out _ BO PO)
        clear HC
        cases zb
        · have HX : Hid (r = false) := Lib.hid (by
            rw [HBR.out]
            cases hok : okT nodeB e kid (8 - level - 1) with
            | false => rw [HBT.out hok]; rfl
            | true =>
              have h1 := HBK.out
              rw [hok, Bool.true_and] at h1
              have h2 := of_decide_eq_false h1.symm
              have h3 := HST.out
              have h4 := HRE.out
              have h5 := HLL.out
              have h6 := HZE.out
              rw [decide_eq_false (by omega), Bool.and_false])
          clear HBK HBT HYS HST HRE HBR HBO HBD HBM
          go_wp2_with fail
          refine HC2.out.mono ?_
          rintro e w3 ⟨l', rfl, p3, _, B3, s3⟩
          go_wp2_with fail
          go_ret
          exact ⟨l', ret_bool HX.out.symm, p3, (fun h => by rw [HX.out] at h; cases h), B3, Nat.le_trans SO s3⟩
        · have HK2 := Lib.hid (Bool.and_eq_true_iff.1 HBK.out.symm)
          have HX := Lib.hid (HYS.out HK2.out.1)
          have hml : (m : Int) ≤ l := of_decide_eq_true HK2.out.2
          have HL2 : Hid (l - (m : Int) = z - ((nPre d t.kids (k + 1) : Int) - ((k + 1 : Nat) : Int))) := Lib.hid (by have := HST.out; have := HLL.out; omega)
          clear HBK HBT HYS HRE HK2 HST HLL
          go_wp2_with fail
          refine HC2.out.mono ?_
          rintro e w3 ⟨l', rfl, p3, hl', B3, s3⟩
          obtain rfl := hl' rfl
          clear hl'
          go_wp2_with fail
          go_roundw
          case rel => exact ⟨k + 1, _, by omega, by go_num, HX, by omega, by omega, HL2, p3, B3, Nat.le_trans SO s3⟩
          case measure => simp [intOf]; omega
      · have hkM : k = t.kids.length := by omega
        have hle : (N : Int) ≤ left ∧ l = left - (N : Int) := by
          have h1 := HLL.out
          rw [hkM, HPN.out] at h1
          have h2 := HZE.out
          omega
        have HX : Hid (r = true) := Lib.hid (by
          rw [HBR.out, HOT.out k hlt HA.out, decide_eq_true (by omega : (0 : Int) ≤ 8 - level), HNB.out, decide_eq_true hle.1]
          rfl)
        clear HA HLL
        go_wp2_with fail
        go_ret
        exact ⟨l, ret_bool HX.out.symm, hpr, (fun _ => hle.2), hbr, hsr⟩
theorem brD : ∀ d, BrD d
  | 0 => branchOk_of (fun e h => by omega)
  | d + 1 => branchOk_of (fun e h => by
      obtain rfl : e = d := by omega
      exact brD e)
end Go.Proofs.Ythlbpklllphhcaa
