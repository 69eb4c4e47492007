/-
  Whether a list of tables is right: spec.TablesOk, impl.TablesOk.
-/
import Derived.Test.YthlbpklllphhcaaFdTb
import Derived.Test.YthlbpklllphhcaaTsM
namespace Go.Proofs.Ythlbpklllphhcaa
open Go.RowKit

/-- The table at place i is right: only the first may have an empty name. -/
def tbAt (i : Nat) (t : Tb) : Bool := tbOk t && (decide (i = 0) || !t.name.isEmpty)
/-- A right list of tables. -/
def tbsOk (ts : List Tb) : Bool := decide (ts.length ≤ 60) && (List.range ts.length).all fun j => tbAt j (ts.getD j default)
theorem ts_getD {ts : List Tb} {k : Nat} (h : k < ts.length) : ts.getD k default = ts[k] := by rw [List.getD_eq_getElem?_getD, List.getElem?_eq_getElem h]; rfl
/-- The first k tables are right. -/
def tbsTo (ts : List Tb) (k : Nat) : Prop := ∀ j, j < k → j < ts.length → tbAt j (ts.getD j default) = true
theorem tbsTo_step {ts : List Tb} {k : Nat} (h : tbsTo ts k) (hk : k < ts.length) (he : tbAt k ts[k] = true) : tbsTo ts (k + 1) := fun j hj hl => by
  by_cases e : j = k
  · subst e; rw [ts_getD hk]; exact he
  · exact h j (by omega) hl
theorem tbsOk_bad {ts : List Tb} {k : Nat} (hk : k < ts.length) (he : tbAt k ts[k] = false) : tbsOk ts = false := by
  have : ((List.range ts.length).all fun j => tbAt j (ts.getD j default)) = false := by
    rw [List.all_eq_false]
    exact ⟨k, by simpa using hk, by rw [ts_getD hk, he]; simp⟩
  unfold tbsOk; rw [this]; simp
theorem tbsOk_end {ts : List Tb} {k : Nat} (hk : ¬ k < ts.length) (h : tbsTo ts k) : tbsOk ts = decide (ts.length ≤ 60) := by
  have : ((List.range ts.length).all fun j => tbAt j (ts.getD j default)) = true := by
    rw [List.all_eq_true]
    intro j hj
    simp at hj
    exact h j (by omega) hj
  unfold tbsOk; rw [this]; simp
theorem tbsOk_long {ts : List Tb} (h : 60 < ts.length) : tbsOk ts = false := by unfold tbsOk; rw [decide_eq_false (by omega)]; rfl
theorem keyOk_nil : keyOk [] = false := rfl

set_option maxRecDepth 100000 in
set_option maxHeartbeats 4000000 in
theorem specTablesOk_any (v : Value) (ts : List Tb) (w : World) (hr : RdXs w v ts) (hs : SmXs ts) :
    Calls Try.prog 45 #[v] w fun e w' => e = .returned (.bool (tbsOk ts)) ∧ Below w.heap.size w w' := by
  have hl : ts.length ≤ 1048576 := by unfold SmXs at hs; omega
  have HSM := Lib.hid hs
  have HR := Lib.hid hr
  obtain ⟨A, ca, rfl⟩ := hr.slice
  obtain ⟨r, HRR⟩ : ∃ r, Hid (tbsOk ts = r) := ⟨_, Lib.hid rfl⟩
  rw [HRR.out]
  clear hr hs
  go_enter Try.func45, Try.ntmps45
  go_wp2_with fail
  go_loopw [3] (fun i wr => ∃ k : Nat, k ≤ ts.length ∧ i = .int .i64 k ∧ Hid (tbsTo ts k) ∧ Below w.heap.size w wr) (fun i _ => ts.length - (intOf i).toNat)
  case atStart => exact ⟨0, Nat.zero_le _, rfl, Lib.hid (fun j h => by omega), Below.refl _ _⟩
  case round =>
    obtain ⟨k, hk, rfl, HA, hb⟩ := hrel
    by_cases hlt : k < ts.length
    · obtain ⟨g, off, rfl, hg, a, d0, d1, ra⟩ := (HR.out.below hb).at k hlt
      have HC := Lib.hid (l07Table_any ts[k] a wr ra (HSM.out.get k hlt))
      obtain ⟨A1, c1, rfl⟩ := ra.slice
      have HNO := Lib.hid (fun (h : tbAt k ts[k] = false) => HRR.out.symm.trans (tbsOk_bad hlt h))
      have HYS := Lib.hid (fun (h : tbAt k ts[k] = true) => tbsTo_step HA.out hlt h)
      have HT : Hid (tbAt k ts[k] = (tbOk ts[k] && (decide (k = 0) || !ts[k].name.isEmpty))) := Lib.hid rfl
      have k0 : (0 : Int) ≤ (k : Int) := by omega
      have k1 : (k : Int) < (ts.length : Int) := by omega
      clear ra HA
      generalize ts[k] = t at d0 d1 HC HNO HYS HT
      obtain ⟨tb, HTB⟩ : ∃ tb, Hid (tbOk t = tb) := ⟨_, Lib.hid rfl⟩
      rw [HTB.out] at HC HT
      obtain ⟨tn, fs⟩ := t
      unfold tbV at HC
      simp only at d0 d1 HC HT
      cases tb
      · have HX := Lib.hid (HNO.out (by rw [HT.out]; rfl))
        clear HNO HYS HT
        go_wp2_with fail
        refine HC.out.mono ?_
        rintro e w1 ⟨rfl, hb1⟩
        go_wp2_with fail
        go_ret
        exact ⟨ret_bool HX.out.symm, hb.trans (hb1.mono hb.size)⟩
      · by_cases hz : k = 0
        · have HX := Lib.hid (HYS.out (by rw [HT.out, decide_eq_true hz]; rfl))
          have g0 : ¬ (0 : Int) < (k : Int) := by omega
          have g1 : decide (0 < k) = false := by simp; omega
          clear HNO HYS HT hz
          go_wp2_with fail
          refine HC.out.mono ?_
          rintro e w1 ⟨rfl, hb1⟩
          have B1 := hb.trans (hb1.mono hb.size)
          go_wp2_with fail
          go_roundw
          case rel => exact ⟨k + 1, by omega, by go_num, HX, B1⟩
          case measure => simp [intOf]; omega
        · have g0 : (0 : Int) < (k : Int) := by omega
          have g1 : decide (0 < k) = true := by simp; omega
          cases tn with
          | nil =>
            have HX := Lib.hid (HNO.out (by rw [HT.out, decide_eq_false hz]; rfl))
            clear HNO HYS HT hz
            go_wp2_with fail
            refine HC.out.mono ?_
            rintro e w1 ⟨rfl, hb1⟩
            have B1 := hb.trans (hb1.mono hb.size)
            have e0 := keepC hb1 d0
            go_wp2_with fail
            go_ret
            exact ⟨ret_bool HX.out.symm, B1⟩
          | cons c tl =>
            have HX := Lib.hid (HYS.out (by rw [HT.out]; simp))
            clear HNO HYS HT hz
            go_wp2_with fail
            refine HC.out.mono ?_
            rintro e w1 ⟨rfl, hb1⟩
            have B1 := hb.trans (hb1.mono hb.size)
            have e0 := keepC hb1 d0
            go_wp2_with fail
            go_roundw
            case rel => exact ⟨k + 1, by omega, by go_num, HX, B1⟩
            case measure => simp [intOf]; omega
    · have HX : Hid (r = decide ((ts.length : Int) ≤ 60)) := Lib.hid (by
        rw [← HRR.out, tbsOk_end hlt HA.out]
        congr 1
        apply propext
        omega)
      clear HA
      go_wp2_with fail
      go_ret
      exact ⟨ret_bool HX.out.symm, hb⟩

set_option maxRecDepth 100000 in
set_option maxHeartbeats 4000000 in
theorem implTablesOk_any (v : Value) (ts : List Tb) (w : World) (hr : RdXs w v ts) (hs : SmXs ts) :
    Calls Try.prog 47 #[v] w fun e w' => e = .returned (.bool (tbsOk ts)) ∧ Below w.heap.size w w' := by
  have hl : ts.length ≤ 1048576 := by unfold SmXs at hs; omega
  have HSM := Lib.hid hs
  have HR := Lib.hid hr
  obtain ⟨A, ca, rfl⟩ := hr.slice
  obtain ⟨r, HRR⟩ : ∃ r, Hid (tbsOk ts = r) := ⟨_, Lib.hid rfl⟩
  rw [HRR.out]
  clear hr hs
  by_cases h60 : 60 < ts.length
  · have HX : Hid (r = false) := Lib.hid (by rw [← HRR.out]; exact tbsOk_long h60)
    go_enter Try.func47, Try.ntmps47
    go_wp2_with fail
    go_ret
    exact ⟨ret_bool HX.out.symm, Below.refl _ _⟩
  have h60' : ts.length ≤ 60 := by omega
  go_enter Try.func47, Try.ntmps47
  go_wp2_with fail
  go_loopw [3, 4, 5, 11] (fun _ _ _ i wr => ∃ k : Nat, k ≤ ts.length ∧ i = .int .i64 k ∧ Hid (tbsTo ts k) ∧ Below w.heap.size w wr) (fun _ _ _ i _ => ts.length - (intOf i).toNat)
  case atStart => exact ⟨0, Nat.zero_le _, rfl, Lib.hid (fun j h => by omega), Below.refl _ _⟩
  case round =>
    obtain ⟨k, hk, rfl, HA, hb⟩ := hrel
    by_cases hlt : k < ts.length
    · obtain ⟨g, off, rfl, hg, a, d0, d1, ra⟩ := (HR.out.below hb).at k hlt
      have HF := Lib.hid (fun (W : World) (h : Below wr.heap.size wr W) => fieldsOk_any a ts[k].fields W (ra.below h) (HSM.out.get k hlt).fields)
      have HK := Lib.hid (fun (W : World) => fieldKeyOk_any ts[k].name W (HSM.out.get k hlt).name)
      obtain ⟨A1, c1, rfl⟩ := ra.slice
      have HNO := Lib.hid (fun (h : tbAt k ts[k] = false) => HRR.out.symm.trans (tbsOk_bad hlt h))
      have HYS := Lib.hid (fun (h : tbAt k ts[k] = true) => tbsTo_step HA.out hlt h)
      have HT : Hid (tbAt k ts[k] = ((fsOk ts[k].fields && ((ts[k].name.isEmpty && decide (0 < ts[k].fields.length)) || keyOk ts[k].name)) && (decide (k = 0) || !ts[k].name.isEmpty))) := Lib.hid rfl
      have hfl : ts[k].fields.length ≤ 1048576 := by have := (HSM.out.get k hlt).fields; unfold SmFs at this; omega
      have k0 : (0 : Int) ≤ (k : Int) := by omega
      have k1 : (k : Int) < (ts.length : Int) := by omega
      clear ra HA
      generalize ts[k] = t at d0 d1 HF HK HNO HYS HT hfl
      obtain ⟨tn, fs⟩ := t
      simp only at d0 d1 HF HK HT hfl
      have BP : ∀ o : Obj, Below wr.heap.size wr (wr.alloc o) := fun o => (Below.refl _ _).alloc (Nat.le_refl _) o
      obtain ⟨fb, HFB⟩ : ∃ fb, Hid (fsOk fs = fb) := ⟨_, Lib.hid rfl⟩
      simp only [HFB.out] at HF HT
      cases tn with
      | nil =>
        simp only [keyOk_nil] at HK HT
        by_cases hz : k = 0 ∧ 0 < fs.length
        · obtain ⟨hz, hf0⟩ := hz
          have q0 : ((k : Int) == 0) = true := by simp [hz]
          have q1 : (0 : Int) < (fs.length : Int) := by omega
          have g1 : decide (0 < fs.length) = true := decide_eq_true hf0
          have HT2 : Hid (tbAt k ⟨[], fs⟩ = fb) := Lib.hid (by rw [HT.out, decide_eq_true hz, decide_eq_true hf0]; simp)
          cases fb
          · have HX := Lib.hid (HNO.out HT2.out)
            clear HNO HYS HT HT2 hz
            go_wp2_with fail
            refine (HF.out _ (BP _)).mono ?_
            rintro e w1 ⟨rfl, hb1⟩
            go_wp2_with fail
            go_ret
            exact ⟨ret_bool HX.out.symm, hb.trans (((BP _).trans (hb1.mono (BP _).size)).mono hb.size)⟩
          · have HX := Lib.hid (HYS.out HT2.out)
            clear HNO HYS HT HT2 hz
            go_wp2_with fail
            refine (HF.out _ (BP _)).mono ?_
            rintro e w1 ⟨rfl, hb1⟩
            have B1 := hb.trans (((BP _).trans (hb1.mono (BP _).size)).mono hb.size)
            go_wp2_with fail
            go_roundw
            case rel => exact ⟨k + 1, by omega, by go_num, HX, B1⟩
            case measure => simp [intOf]; omega
        · have HX := Lib.hid (HNO.out (by
            rw [HT.out]
            by_cases h0 : k = 0
            · have : ¬ 0 < fs.length := fun h => hz ⟨h0, h⟩
              rw [decide_eq_false this]; simp
            · rw [decide_eq_false h0]; simp))
          by_cases h0 : k = 0
          · have q0 : ((k : Int) == 0) = true := by simp [h0]
            have q1 : ¬ (0 : Int) < (fs.length : Int) := by have : ¬ 0 < fs.length := fun h => hz ⟨h0, h⟩; omega
            have g1 : decide (0 < fs.length) = false := decide_eq_false (fun h => hz ⟨h0, h⟩)
            clear HNO HYS HT hz h0
            go_wp2_with fail
            refine (HK.out _).mono ?_
            rintro e w1 ⟨rfl, rfl⟩
            go_wp2_with fail
            go_ret
            exact ⟨ret_bool HX.out.symm, hb.trans ((BP _).mono hb.size)⟩
          · have q0 : ((k : Int) == 0) = false := int_beq_false (by omega)
            clear HNO HYS HT hz
            go_wp2_with fail
            refine (HK.out _).mono ?_
            rintro e w1 ⟨rfl, rfl⟩
            go_wp2_with fail
            go_ret
            exact ⟨ret_bool HX.out.symm, hb.trans ((BP _).mono hb.size)⟩
      | cons c tl =>
        obtain ⟨kb, HKB⟩ : ∃ kb, Hid (keyOk (c :: tl) = kb) := ⟨_, Lib.hid rfl⟩
        simp only [HKB.out] at HK HT
        have HT2 : Hid (tbAt k ⟨c :: tl, fs⟩ = (fb && kb)) := Lib.hid (by rw [HT.out]; simp)
        by_cases h0 : k = 0
        all_goals
          first
          | (have q0 : ((k : Int) == 0) = true := by simp [h0])
          | (have q0 : ((k : Int) == 0) = false := int_beq_false (by omega))
          clear HT h0
          cases kb
          · have HX := Lib.hid (HNO.out (by rw [HT2.out]; simp))
            clear HNO HYS HT2
            go_wp2_with fail
            refine (HK.out _).mono ?_
            rintro e w1 ⟨rfl, rfl⟩
            go_wp2_with fail
            go_ret
            exact ⟨ret_bool HX.out.symm, hb.trans ((BP _).mono hb.size)⟩
          · cases fb
            · have HX := Lib.hid (HNO.out (by rw [HT2.out]; rfl))
              clear HNO HYS HT2
              go_wp2_with fail
              refine (HK.out _).mono ?_
              rintro e w1 ⟨rfl, rfl⟩
              go_wp2_with fail
              refine (HF.out _ (BP _)).mono ?_
              rintro e w1 ⟨rfl, hb1⟩
              go_wp2_with fail
              go_ret
              exact ⟨ret_bool HX.out.symm, hb.trans (((BP _).trans (hb1.mono (BP _).size)).mono hb.size)⟩
            · have HX := Lib.hid (HYS.out (by rw [HT2.out]; rfl))
              clear HNO HYS HT2
              go_wp2_with fail
              refine (HK.out _).mono ?_
              rintro e w1 ⟨rfl, rfl⟩
              go_wp2_with fail
              refine (HF.out _ (BP _)).mono ?_
              rintro e w1 ⟨rfl, hb1⟩
              have B1 := hb.trans (((BP _).trans (hb1.mono (BP _).size)).mono hb.size)
              go_wp2_with fail
              go_roundw
              case rel => exact ⟨k + 1, by omega, by go_num, HX, B1⟩
              case measure => simp [intOf]; omega
    · have HX : Hid (r = true) := Lib.hid (by rw [← HRR.out, tbsOk_end hlt HA.out, decide_eq_true h60'])
      clear HA
      go_wp2_with fail
      go_ret
      exact ⟨ret_bool HX.out.symm, hb⟩
end Go.Proofs.Ythlbpklllphhcaa
