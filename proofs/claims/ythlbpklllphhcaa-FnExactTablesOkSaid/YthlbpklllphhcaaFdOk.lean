/-
  Whether fields are right: impl.fieldsOk.
-/
import Derived.Test.YthlbpklllphhcaaKeyK
import Derived.Test.YthlbpklllphhcaaDst
import Derived.Test.YthlbpklllphhcaaFdKs
namespace Go.Proofs.Ythlbpklllphhcaa
open Go.RowKit

/-- A field with a text beside its list, or a list beside its text. -/
def usd (f : Fd) : Bool := if f.isl then !f.text.isEmpty else decide (0 < f.list.length)
def fdOk (f : Fd) : Bool := keyOk f.key && !usd f
/-- Right fields. -/
def fsOk (fs : List Fd) : Bool := decide (fs.length ≤ 20) && (fs.all fdOk && decide (fs.map (·.key)).Nodup)
theorem fsOk_bad {fs : List Fd} {k : Nat} (h : k < fs.length) (hb : fdOk fs[k] = false) : fsOk fs = false := by
  have : fs.all fdOk = false := by rw [List.all_eq_false]; exact ⟨_, List.getElem_mem h, by simp [hb]⟩
  unfold fsOk; rw [this]; simp
theorem fsOk_long {fs : List Fd} (h : 20 < fs.length) : fsOk fs = false := by unfold fsOk; rw [decide_eq_false (by omega)]; rfl
theorem fsAll_step {fs : List Fd} {k : Nat} (ha : (fs.take k).all fdOk = true) (h : k < fs.length) (hb : fdOk fs[k] = true) : (fs.take (k + 1)).all fdOk = true := by
  rw [List.take_succ_eq_append_getElem h, List.all_append, ha]; simp [hb]
theorem fsOk_end {fs : List Fd} {k : Nat} (hk : ¬ k < fs.length) (ha : (fs.take k).all fdOk = true) (hl : fs.length ≤ 20) : fsOk fs = decide (fs.map (·.key)).Nodup := by
  rw [List.take_of_length_le (by omega)] at ha
  unfold fsOk; rw [ha, decide_eq_true hl]; simp

set_option maxRecDepth 100000 in
set_option maxHeartbeats 4000000 in
theorem fieldsOk_any (v : Value) (fs : List Fd) (w : World) (hr : RdFs w v fs) (hs : SmFs fs) :
    Calls Try.prog 89 #[v] w fun e w' => e = .returned (.bool (fsOk fs)) ∧ Below w.heap.size w w' := by
  have hl : fs.length ≤ 1048576 := by unfold SmFs at hs; omega
  have HKS := Lib.hid (fun (W : World) (h : Below w.heap.size w W) => fieldKeys_any v fs W (hr.below h) hl)
  have HSM := Lib.hid hs
  have HR := Lib.hid hr
  have HKL : Hid (∀ l ∈ fs.map (·.key), l.length ≤ 1048576) := Lib.hid (fun l h => by
    obtain ⟨f, hf, rfl⟩ := List.mem_map.1 h
    have := smF_mem f hf
    unfold wF at this
    unfold SmFs at hs
    omega)
  obtain ⟨A, ca, rfl⟩ := hr.slice
  obtain ⟨r, HRR⟩ : ∃ r, Hid (fsOk fs = r) := ⟨_, Lib.hid rfl⟩
  rw [HRR.out]
  clear hr hs
  by_cases h20 : 20 < fs.length
  · have HX : Hid (r = false) := Lib.hid (by rw [← HRR.out]; exact fsOk_long h20)
    go_enter Try.func89, Try.ntmps89
    go_wp2_with fail
    go_ret
    exact ⟨ret_bool HX.out.symm, Below.refl _ _⟩
  have h20' : fs.length ≤ 20 := by omega
  go_enter Try.func89, Try.ntmps89
  go_wp2_with fail
  go_loopw [4, 5, 11] (fun _ _ i wr => ∃ k : Nat, k ≤ fs.length ∧ i = .int .i64 k ∧ Hid ((fs.take k).all fdOk = true) ∧ Below w.heap.size w wr) (fun _ _ i _ => fs.length - (intOf i).toNat)
  case atStart => exact ⟨0, Nat.zero_le _, rfl, Lib.hid (by simp), Below.refl _ _⟩
  case round =>
    obtain ⟨k, hk, rfl, HA, hb⟩ := hrel
    by_cases hlt : k < fs.length
    · obtain ⟨g, off, rfl, hg, a, d0, d1, d2, d3, ra⟩ := (HR.out.below hb).at k hlt
      obtain ⟨A1, c1, rfl⟩ := ra.slice
      have hkl := (HSM.out.get k hlt).texts.1
      have hll := (HSM.out.get k hlt).list
      have HNO := Lib.hid (fun (h : fdOk fs[k] = false) => HRR.out.symm.trans (fsOk_bad hlt h))
      have HYS := Lib.hid (fun (h : fdOk fs[k] = true) => fsAll_step HA.out hlt h)
      have k0 : (0 : Int) ≤ (k : Int) := by omega
      have k1 : (k : Int) < (fs.length : Int) := by omega
      clear ra HA
      generalize fs[k] = fd at d0 d1 d2 d3 hkl hll HNO HYS
      obtain ⟨ky, tx, ls, il⟩ := fd
      simp only at d0 d1 d2 d3 hkl hll
      have HFK := Lib.hid (fun W => fieldKeyOk_any ky W hkl)
      have HOK : Hid (fdOk ⟨ky, tx, ls, il⟩ = (keyOk ky && !usd ⟨ky, tx, ls, il⟩)) := Lib.hid rfl
      obtain ⟨kb, HKB⟩ : ∃ kb, Hid (keyOk ky = kb) := ⟨_, Lib.hid rfl⟩
      simp only [HKB.out] at HFK HOK
      have BP : ∀ o : Obj, Below w.heap.size w (wr.alloc o) := fun o => hb.alloc hb.size o
      have hway : (usd ⟨ky, tx, ls, il⟩ = true ∧ il = true ∧ ∃ c tl, tx = c :: tl) ∨ (usd ⟨ky, tx, ls, il⟩ = true ∧ il = false ∧ (0 : Int) < (ls.length : Int)) ∨ (usd ⟨ky, tx, ls, il⟩ = false ∧ il = true ∧ tx = []) ∨ (usd ⟨ky, tx, ls, il⟩ = false ∧ il = false ∧ ¬ (0 : Int) < (ls.length : Int)) := by
        unfold usd
        cases il
        · by_cases h : 0 < ls.length
          · right; left; simp; exact h
          · right; right; right; simp at h ⊢; exact h
        · cases tx with
          | nil => simp
          | cons c tl => simp
      rcases hway with ⟨hu, rfl, c, tl, rfl⟩ | ⟨hu, rfl, hn⟩ | ⟨hu, rfl, rfl⟩ | ⟨hu, rfl, hn⟩
      · have HX := Lib.hid (HNO.out (by rw [HOK.out, hu]; simp))
        clear HNO HYS HOK hu
        cases kb
        all_goals
          go_wp2_with fail
          refine (HFK.out _).mono ?_
          rintro e w1 ⟨rfl, rfl⟩
          go_wp2_with fail
          go_ret
          exact ⟨ret_bool HX.out.symm, BP _⟩
      · have HX := Lib.hid (HNO.out (by rw [HOK.out, hu]; simp))
        clear HNO HYS HOK hu
        cases kb
        all_goals
          go_wp2_with fail
          refine (HFK.out _).mono ?_
          rintro e w1 ⟨rfl, rfl⟩
          go_wp2_with fail
          go_ret
          exact ⟨ret_bool HX.out.symm, BP _⟩
      all_goals
        cases kb
        · have HX := Lib.hid (HNO.out (by rw [HOK.out, hu]; simp))
          clear HNO HYS HOK hu
          go_wp2_with fail
          refine (HFK.out _).mono ?_
          rintro e w1 ⟨rfl, rfl⟩
          go_wp2_with fail
          go_ret
          exact ⟨ret_bool HX.out.symm, BP _⟩
        · have HX := Lib.hid (HYS.out (by rw [HOK.out, hu]; simp))
          clear HNO HYS HOK hu
          go_wp2_with fail
          refine (HFK.out _).mono ?_
          rintro e w1 ⟨rfl, rfl⟩
          go_wp2_with fail
          go_roundw
          case rel => exact ⟨k + 1, by omega, by go_num, HX, BP _⟩
          case measure => simp [intOf]; omega
    · have HX : Hid (r = decide (fs.map (·.key)).Nodup) := Lib.hid (by rw [← HRR.out]; exact fsOk_end hlt HA.out h20')
      clear HA
      go_wp2_with fail
      refine (HKS.out _ hb).mono ?_
      rintro e w1 ⟨u, rfl, hS, hb1⟩
      have B1 := hb.trans (hb1.mono hb.size)
      obtain ⟨U, uc, rfl⟩ := hS.slice
      have hSr := RdS.of_strs hS
      rw [List.length_map] at hSr
      clear hS
      go_wp2_with fail
      refine (distinct_any _ (fs.map (·.key)) _ hSr (by simp; omega) HKL.out).mono ?_
      rintro e w2 ⟨rfl, hb2⟩
      go_wp2_with fail
      go_ret
      exact ⟨ret_bool HX.out.symm, B1.trans (hb2.mono B1.size)⟩
end Go.Proofs.Ythlbpklllphhcaa
