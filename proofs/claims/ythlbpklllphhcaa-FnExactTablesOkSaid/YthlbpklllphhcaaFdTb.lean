/-
  Whether a table is right: spec.l07Table.
-/
import Derived.Test.YthlbpklllphhcaaFdOk
import Derived.Deep.QuietTactic
import Derived.BigQuiet
namespace Go.Proofs.Ythlbpklllphhcaa
open Go.RowKit

/-- A right name: of the form of a key, or empty where there is a field. -/
def nmOk (t : Tb) : Bool := (t.name.isEmpty && decide (0 < t.fields.length)) || keyOk t.name
/-- A right table. -/
def tbOk (t : Tb) : Bool := fsOk t.fields && nmOk t
theorem tbOk_bad {t : Tb} (h : fsOk t.fields = false) : tbOk t = false := by unfold tbOk; rw [h]; rfl
/-- None of the first j keys is this one. -/
def noneK (fs : List Fd) (key : List UInt8) (j : Nat) : Prop := ∀ f ∈ fs.take j, f.key ≠ key
theorem fsOk_twice {fs : List Fd} {i j : Nat} (hi : i < fs.length) (hj : j < i) (he : (fs[j]'(by omega)).key = fs[i].key) : fsOk fs = false := by
  have : ¬ (fs.map (·.key)).Nodup := fun h => by
    rw [List.nodup_iff_pairwise_ne] at h
    have := List.pairwise_iff_getElem.1 h j i (by simp; omega) (by simpa using hi) hj
    simp at this
    exact this he
  unfold fsOk; rw [decide_eq_false this]; simp
theorem keys_step {fs : List Fd} {i : Nat} (hi : i < fs.length) (hn : ((fs.take i).map (·.key)).Nodup) (hk : noneK fs fs[i].key i) : ((fs.take (i + 1)).map (·.key)).Nodup := by
  rw [List.take_succ_eq_append_getElem hi, List.map_append, List.nodup_append]
  refine ⟨hn, by simp, fun a ha b hb => ?_⟩
  obtain ⟨f, hf, rfl⟩ := List.mem_map.1 ha
  simp at hb
  subst hb
  exact hk f hf
theorem noneK_step {fs : List Fd} {key : List UInt8} {j : Nat} (h : noneK fs key j) (hj : j < fs.length) (he : fs[j].key ≠ key) : noneK fs key (j + 1) := by
  intro p hp
  rw [List.take_succ_eq_append_getElem hj] at hp
  rcases List.mem_append.1 hp with h1 | h1
  · exact h p h1
  · simp at h1; subst h1; exact he
theorem fsOk_done {fs : List Fd} {k : Nat} (hk : ¬ k < fs.length) (ha : (fs.take k).all fdOk = true) (hn : ((fs.take k).map (·.key)).Nodup) : fsOk fs = decide (fs.length ≤ 20) := by
  rw [List.take_of_length_le (by omega)] at ha hn
  unfold fsOk; rw [ha, decide_eq_true hn]; simp

set_option maxRecDepth 100000 in
set_option maxHeartbeats 8000000 in
theorem l07Table_any (t : Tb) (v : Value) (w : World) (hr : RdFs w v t.fields) (hs : SmTb t) :
    Calls Try.prog 87 #[tbV t v] w fun e w' => e = .returned (.bool (tbOk t)) ∧ Below w.heap.size w w' := by
  have HSM := Lib.hid hs.fields
  have HR := Lib.hid hr
  have hl : t.fields.length ≤ 1048576 := by have := hs.fields; unfold SmFs at this; omega
  have HNM := Lib.hid (fun W => l07Key_any t.name W hs.name)
  obtain ⟨A, ca, rfl⟩ := hr.slice
  have HTB : Hid (tbOk t = (fsOk t.fields && nmOk t)) := Lib.hid rfl
  have HNO0 := Lib.hid (tbOk_bad (t := t))
  have HNMO : Hid (nmOk t = ((t.name.isEmpty && decide (0 < t.fields.length)) || keyOk t.name)) := Lib.hid rfl
  obtain ⟨r, HRR⟩ : ∃ r, Hid (tbOk t = r) := ⟨_, Lib.hid rfl⟩
  rw [HRR.out] at HTB HNO0 ⊢
  obtain ⟨tn, fs⟩ := t
  unfold tbV
  simp only at HSM HR hl HNM HTB HNMO HNO0 ⊢
  clear hr hs
  have B0 : Below w.heap.size w (w.alloc (.cells #[.string ⟨tn.toArray⟩, .slice A fs.length ca] 52)) := (Below.refl _ _).alloc (Nat.le_refl _) _
  have b0 := heap_alloc_new w (.cells #[.string ⟨tn.toArray⟩, .slice A fs.length ca] 52)
  go_enter Try.func87, Try.ntmps87
  go_wp2_with fail
  generalize w.alloc (.cells #[.string ⟨tn.toArray⟩, .slice A fs.length ca] 52) = V at B0 b0 ⊢
  go_loopw [3, 4, 5] (fun i _ _ wr => ∃ k : Nat, k ≤ fs.length ∧ i = .int .i64 k ∧ Hid ((fs.take k).all fdOk = true) ∧ Hid ((fs.take k).map (·.key)).Nodup ∧ Below V.heap.size V wr) (fun i _ _ _ => fs.length - (intOf i).toNat)
  case atStart => exact ⟨0, Nat.zero_le _, rfl, Lib.hid (by simp), Lib.hid (by simp), Below.refl _ _⟩
  case round =>
    obtain ⟨k, hk, rfl, HA, HD, hbv⟩ := hrel
    have e0 := keepB b0 hbv
    obtain ⟨m0, m1⟩ := cellsG e0
    have l0 := lt_of_heap e0
    have hb := B0.trans (hbv.mono B0.size)
    by_cases hlt : k < fs.length
    · obtain ⟨g, off, rfl, hg, a, d0, d1, d2, d3, ra⟩ := (HR.out.below hb).at k hlt
      obtain ⟨A1, c1, rfl⟩ := ra.slice
      have hkl := (HSM.out.get k hlt).texts.1
      have hll := (HSM.out.get k hlt).list
      have HNO := Lib.hid (fun (h : fdOk fs[k] = false) => HNO0.out (fsOk_bad hlt h))
      have HTW := Lib.hid (fun (j : Nat) (hj : j < k) (h : (fs[j]'(Nat.lt_trans hj hlt)).key = fs[k].key) => HNO0.out (fsOk_twice hlt hj h))
      have HYS := Lib.hid (fun (h : fdOk fs[k] = true) => fsAll_step HA.out hlt h)
      have HKS := Lib.hid (fun (h : noneK fs fs[k].key k) => keys_step hlt HD.out h)
      have k0 : (0 : Int) ≤ (k : Int) := by omega
      have k1 : (k : Int) < (fs.length : Int) := by omega
      clear ra HA HD
      generalize fs[k] = fd at d0 d1 d2 d3 hkl hll HNO HYS HTW HKS
      obtain ⟨ky, tx, ls, il⟩ := fd
      simp only at d0 d1 d2 d3 hkl hll HTW HKS
      have HFK := Lib.hid (fun W => l07Key_any ky W hkl)
      have HOK : Hid (fdOk ⟨ky, tx, ls, il⟩ = (keyOk ky && !usd ⟨ky, tx, ls, il⟩)) := Lib.hid rfl
      obtain ⟨kb, HKB⟩ : ∃ kb, Hid (keyOk ky = kb) := ⟨_, Lib.hid rfl⟩
      simp only [HKB.out] at HFK HOK
      have BP : Below V.heap.size V (wr.alloc (.cells #[.string ⟨ky.toArray⟩, .string ⟨tx.toArray⟩, .slice A1 ls.length c1, .bool il] 47)) := hbv.alloc hbv.size _
      have f0 := heap_alloc_new wr (.cells #[.string ⟨ky.toArray⟩, .string ⟨tx.toArray⟩, .slice A1 ls.length c1, .bool il] 47)
      have g1 := keepA e0 (.cells #[.string ⟨ky.toArray⟩, .string ⟨tx.toArray⟩, .slice A1 ls.length c1, .bool il] 47)
      have hway : (usd ⟨ky, tx, ls, il⟩ = true ∧ il = true ∧ ∃ c tl, tx = c :: tl) ∨ (usd ⟨ky, tx, ls, il⟩ = true ∧ il = false ∧ (0 : Int) < (ls.length : Int)) ∨ (usd ⟨ky, tx, ls, il⟩ = false ∧ il = true ∧ tx = []) ∨ (usd ⟨ky, tx, ls, il⟩ = false ∧ il = false ∧ ¬ (0 : Int) < (ls.length : Int)) := by
        unfold usd
        cases il
        · by_cases h : 0 < ls.length
          · right; left; simp; exact h
          · right; right; right; simp at h ⊢; exact h
        · cases tx with
          | nil => simp
          | cons c tl => simp
      cases kb
      · have HX := Lib.hid (HNO.out (by rw [HOK.out]; rfl))
        clear HNO HYS HOK HTW HKS hway
        go_wp2_with fail
        refine (HFK.out _).mono ?_
        rintro e w1 ⟨rfl, rfl⟩
        go_wp2_with fail
        go_ret
        exact ⟨ret_bool HX.out.symm, B0.trans (BP.mono B0.size)⟩
      rcases hway with ⟨hu, rfl, c, tl, rfl⟩ | ⟨hu, rfl, hn⟩ | ⟨hu, rfl, rfl⟩ | ⟨hu, rfl, hn⟩
      · have HX := Lib.hid (HNO.out (by rw [HOK.out, hu]; rfl))
        clear HNO HYS HOK HTW HKS hu
        go_wp2_with fail
        refine (HFK.out _).mono ?_
        rintro e w1 ⟨rfl, rfl⟩
        go_wp2_with fail
        go_ret
        exact ⟨ret_bool HX.out.symm, B0.trans (BP.mono B0.size)⟩
      · have HX := Lib.hid (HNO.out (by rw [HOK.out, hu]; rfl))
        clear HNO HYS HOK HTW HKS hu
        go_wp2_with fail
        refine (HFK.out _).mono ?_
        rintro e w1 ⟨rfl, rfl⟩
        go_wp2_with fail
        go_ret
        exact ⟨ret_bool HX.out.symm, B0.trans (BP.mono B0.size)⟩
      all_goals
        have HX := Lib.hid (HYS.out (by rw [HOK.out, hu]; rfl))
        clear HNO HYS HOK hu
        go_wp2_with fail
        refine (HFK.out _).mono ?_
        rintro e w1 ⟨rfl, rfl⟩
        go_wp2_with fail
        clear d0 d1 d2 d3 m0 m1 l0 e0 hb hbv b0 hg
        generalize World.alloc wr _ = U at BP f0 g1 ⊢
        generalize wr.heap.size = F at f0 ⊢
        clear wr
        go_loopw [5] (fun j ws => ∃ q : Nat, q ≤ k ∧ j = .int .i64 q ∧ Hid (noneK fs ky q) ∧ Below U.heap.size U ws) (fun j _ => k - (intOf j).toNat)
        case atStart => exact ⟨0, Nat.zero_le _, rfl, Lib.hid (by intro p h; simp at h), Below.refl _ _⟩
        case round =>
          obtain ⟨q, hq, rfl, HQ, hbu⟩ := hrel
          have fU := keepB f0 hbu
          have gU := keepB g1 hbu
          obtain ⟨y0, y1, y2, y3⟩ := cells4 fU
          obtain ⟨m0, m1⟩ := cellsG gU
          have lF := lt_of_heap fU
          have lT := lt_of_heap gU
          have hbx := BP.trans (hbu.mono BP.size)
          have hbw := B0.trans (hbx.mono B0.size)
          by_cases hqk : q < k
          · obtain ⟨g', off', hA', hg', a', x0, x1, x2, x3, _⟩ := (HR.out.below hbw).at q (by omega)
            simp only [Option.some.injEq, Addr.mk.injEq, and_true] at hA'
            obtain ⟨rfl, rfl⟩ := hA'
            have q0 : (0 : Int) ≤ (q : Int) := by omega
            have q1 : (q : Int) < (fs.length : Int) := by omega
            have q2 : (q : Int) < (k : Int) := by omega
            by_cases he : (fs[q]'(by omega)).key = ky
            · have HX3 := Lib.hid (HTW.out q hqk he)
              have qe : ((fs[q]'(by omega)).key == ky) = true := by rw [he]; simp
              clear he HTW HKS HQ
              go_wp2_with fail
              go_quiet (fail)
              go_wp2_with fail
              go_ret
              exact ⟨ret_bool HX3.out.symm, hbw.trans (below_drewN _ _ _)⟩
            · have HN := Lib.hid (noneK_step HQ.out (by omega) he)
              have qe : ((fs[q]'(by omega)).key == ky) = false := by simpa using he
              clear he HTW HKS HQ
              go_wp2_with fail
              go_quiet (fail)
              go_wp2_with fail
              go_roundw
              case rel => exact ⟨q + 1, by omega, by go_num, HN, hbu.trans (below_drewN _ _ _)⟩
              case measure => simp [intOf]; omega
          · obtain rfl : q = k := by omega
            have HX4 := Lib.hid (HKS.out HQ.out)
            clear HTW HKS HQ
            go_wp2_with fail
            go_roundw
            case rel => exact ⟨q + 1, by omega, by go_num, HX, HX4, hbx⟩
            case measure => simp [intOf]; omega
    · have HX : Hid (fsOk fs = decide (fs.length ≤ 20)) := Lib.hid (fsOk_done hlt HA.out HD.out)
      clear HA HD
      by_cases h20 : fs.length ≤ 20
      · have HY : Hid (r = ((tn.isEmpty && decide (0 < fs.length)) || keyOk tn)) := Lib.hid (by rw [HTB.out, HX.out, decide_eq_true h20, Bool.true_and, HNMO.out])
        clear HTB HNMO HX
        cases tn with
        | nil =>
          by_cases h0 : 0 < fs.length
          · have HZ : Hid (r = true) := Lib.hid (by rw [HY.out, decide_eq_true h0]; rfl)
            clear HY
            go_wp2_with fail
            go_ret
            exact ⟨ret_bool HZ.out.symm, hb⟩
          · have HZ : Hid (r = keyOk []) := Lib.hid (by rw [HY.out, decide_eq_false h0]; rfl)
            clear HY
            go_wp2_with fail
            refine (HNM.out _).mono ?_
            rintro e w1 ⟨rfl, rfl⟩
            go_wp2_with fail
            go_ret
            exact ⟨ret_bool HZ.out.symm, hb⟩
        | cons c tl =>
          have HZ : Hid (r = keyOk (c :: tl)) := Lib.hid (by rw [HY.out]; rfl)
          clear HY
          go_wp2_with fail
          refine (HNM.out _).mono ?_
          rintro e w1 ⟨rfl, rfl⟩
          go_wp2_with fail
          go_ret
          exact ⟨ret_bool HZ.out.symm, hb⟩
      · have HZ : Hid (r = false) := Lib.hid (by rw [HTB.out, HX.out, decide_eq_false h20]; rfl)
        clear HX HTB HNMO
        go_wp2_with fail
        go_ret
        exact ⟨ret_bool HZ.out.symm, hb⟩
end Go.Proofs.Ythlbpklllphhcaa
