/-
  spec.SetField.
-/
import Derived.Test.YtongpnknmgbhjaaSfM
import Derived.Test.YtongpnknmgbhjaaFdCL
import Derived.Deep.RegionLaw
namespace Go.Proofs.Ytongpnknmgbhjaa
open Go.RowKit

/-- What SetField hands back: a table that reads as it should. -/
def SfIs (t : Tb) (f : Fd) (w : World) (e : Ending) (w' : World) : Prop := ∃ u lo, e = .returned (tbV t u) ∧ (FsRow w' lo u (setF t.fields f) ∧ w.heap.size ≤ lo) ∧ Below w.heap.size w w'
set_option maxRecDepth 100000 in
set_option maxHeartbeats 4000000 in
theorem specSetField_any (t : Tb) (v : Value) (f : Fd) (fa : Value) (w : World) (hp : RdFs w v t.fields) (hs : SmTb t) (hf : RdS w fa f.list) (sf : SmFd f) :
    Calls Try.prog 10 #[tbV t v, fdV f fa] w (SfIs t f w) := by
  have HR := Lib.hid hp
  have HS := Lib.hid hs.fields
  have HF := Lib.hid (fun (W : World) (h : Below w.heap.size w W) => l07Copy_any f fa W (hf.below h) sf)
  have hl : t.fields.length ≤ 1048576 := by have := hs.fields; unfold SmFs at this; omega
  obtain ⟨A, ca, rfl⟩ := hp.slice
  obtain ⟨B, cb, rfl⟩ := hf.slice
  obtain ⟨tn, fs⟩ := t
  unfold tbV fdV SfIs at *
  simp only at HR HS hl ⊢
  clear hp hs hf
  have B0 : Below w.heap.size w ((((w.alloc (.cells #[.string ⟨tn.toArray⟩, .slice A fs.length ca] 32)).alloc (.cells #[.string ⟨f.key.toArray⟩, .string ⟨f.text.toArray⟩, .slice B f.list.length cb, .bool f.isl] 35)).alloc (.cells #[.string ⟨#[]⟩, .slice none 0 0] 32)).alloc (.cells #[.string ⟨tn.toArray⟩, .slice none 0 0] 32)) := ((((Below.refl _ _).alloc (Nat.le_refl _) _).alloc (by simp) _).alloc (by simp; omega) _).alloc (by simp; omega) _
  have b0 := keepA (keepA (keepA (heap_alloc_new w (.cells #[.string ⟨tn.toArray⟩, .slice A fs.length ca] 32)) (.cells #[.string ⟨f.key.toArray⟩, .string ⟨f.text.toArray⟩, .slice B f.list.length cb, .bool f.isl] 35)) (.cells #[.string ⟨#[]⟩, .slice none 0 0] 32)) (.cells #[.string ⟨tn.toArray⟩, .slice none 0 0] 32)
  have b1 := keepA (keepA (heap_new (W := w.alloc (.cells #[.string ⟨tn.toArray⟩, .slice A fs.length ca] 32)) (n := w.heap.size + 1) (by simp) (.cells #[.string ⟨f.key.toArray⟩, .string ⟨f.text.toArray⟩, .slice B f.list.length cb, .bool f.isl] 35)) (.cells #[.string ⟨#[]⟩, .slice none 0 0] 32)) (.cells #[.string ⟨tn.toArray⟩, .slice none 0 0] 32)
  have b2 := keepA (heap_new (W := (w.alloc (.cells #[.string ⟨tn.toArray⟩, .slice A fs.length ca] 32)).alloc (.cells #[.string ⟨f.key.toArray⟩, .string ⟨f.text.toArray⟩, .slice B f.list.length cb, .bool f.isl] 35)) (n := w.heap.size + 1 + 1) (by simp) (.cells #[.string ⟨#[]⟩, .slice none 0 0] 32)) (.cells #[.string ⟨tn.toArray⟩, .slice none 0 0] 32)
  have b3 := heap_new (W := ((w.alloc (.cells #[.string ⟨tn.toArray⟩, .slice A fs.length ca] 32)).alloc (.cells #[.string ⟨f.key.toArray⟩, .string ⟨f.text.toArray⟩, .slice B f.list.length cb, .bool f.isl] 35)).alloc (.cells #[.string ⟨#[]⟩, .slice none 0 0] 32)) (n := w.heap.size + 1 + 1 + 1) (by simp) (.cells #[.string ⟨tn.toArray⟩, .slice none 0 0] 32)
  go_enter Try.func10, Try.ntmps10
  go_wp2_with fail
  generalize (((w.alloc (.cells #[.string ⟨tn.toArray⟩, .slice A fs.length ca] 32)).alloc (.cells #[.string ⟨f.key.toArray⟩, .string ⟨f.text.toArray⟩, .slice B f.list.length cb, .bool f.isl] 35)).alloc (.cells #[.string ⟨#[]⟩, .slice none 0 0] 32)).alloc (.cells #[.string ⟨tn.toArray⟩, .slice none 0 0] 32) = V at B0 b0 b1 b2 b3 ⊢
  have hOL0 := lt_of_heap b3
  obtain ⟨LO, hLO⟩ : ∃ LO, LO = V.heap.size := ⟨_, rfl⟩
  have hOL : w.heap.size + 1 + 1 + 1 < LO := by omega
  have hRL : w.heap.size + 1 + 1 < LO := by omega
  have hFL : w.heap.size + 1 < LO := by omega
  have hTL : w.heap.size < LO := by omega
  clear hOL0
  go_loopw [6, 7] (fun th i wr => ∃ (k : Nat) (kv : Value) (b : Bool), k ≤ fs.length ∧ i = .int .i64 k ∧ th = .bool b ∧ Hid (b = decide (atF fs f.key < k)) ∧ FsRow wr LO kv ((setF fs f).take k) ∧ wr.heap[w.heap.size + 1 + 1 + 1]? = some (.cells #[.string ⟨tn.toArray⟩, kv] 32) ∧ wr.heap[w.heap.size]? = some (.cells #[.string ⟨tn.toArray⟩, .slice A fs.length ca] 32) ∧ wr.heap[w.heap.size + 1]? = some (.cells #[.string ⟨f.key.toArray⟩, .string ⟨f.text.toArray⟩, .slice B f.list.length cb, .bool f.isl] 35) ∧ wr.heap[w.heap.size + 1 + 1]? = some (.cells #[.string ⟨#[]⟩, .slice none 0 0] 32) ∧ Below w.heap.size w wr ∧ LO ≤ wr.heap.size) (fun _ i _ => fs.length - (intOf i).toNat)
  case atStart => exact ⟨0, .slice none 0 0, false, Nat.zero_le _, rfl, rfl, Lib.hid (by simp), FsRow.nil _ _, b3, b0, b1, b2, B0, by omega⟩
  case round =>
    obtain ⟨k, kv, b, hk, rfl, rfl, HBK, hW0, hO0, hT0, hF0, hR0, hb, hz⟩ := hrel
    clear B0 b0 b1 b2 b3 hLO
    have hqk : ((setF fs f).take k).length = k := by rw [List.length_take, setF_len]; split <;> omega
    obtain ⟨out, HOUT⟩ : ∃ out, Hid ((setF fs f).take k = out) := ⟨_, Lib.hid rfl⟩
    rw [HOUT.out] at hW0 hqk
    have hq1 : out.length + 1 ≤ 16777216 := by omega
    clear hqk
    have HOW := Lib.hid hW0.owned
    obtain ⟨K, kc, rfl⟩ := hW0.slice
    obtain ⟨t0, t1⟩ := cellsG hT0
    obtain ⟨f0, f1, f2, f3⟩ := cells4 hF0
    have lT := lt_of_heap hT0
    have lF := lt_of_heap hF0
    by_cases hlt : k < fs.length
    · obtain ⟨g, off, rfl, hg, a, d0, d1, d2, d3, ra⟩ := (HR.out.below hb).at k hlt
      obtain ⟨A1, c1, rfl⟩ := ra.slice
      have k0 : (0 : Int) ≤ (k : Int) := by omega
      have k1 : (k : Int) < (fs.length : Int) := by omega
      by_cases hm : k = atF fs f.key
      · have e1 : (fs[k].key == f.key) = true := by have h := atF_hit (fs := fs) (key := f.key) (by omega); simp only [← hm] at h; simp [h]
        obtain rfl : b = false := by rw [HBK.out]; simp; omega
        have HYF := Lib.hid (yF_hit hm)
        have HM := Lib.hid hm
        clear hm ra HBK
        generalize fs[k] = y at d0 d1 d2 d3 e1
        have xf : (wr.alloc (.cells #[.string ⟨y.key.toArray⟩, .string ⟨y.text.toArray⟩, .slice A1 y.list.length c1, .bool y.isl] 35)).heap[wr.heap.size]? = _ := heap_alloc_new wr _
        have xz := frozen4 xf
        go_wp2_with fail
        have hX1 := heap_alloc_new wr (.cells #[.string ⟨f.key.toArray⟩, .string ⟨f.text.toArray⟩, .slice B f.list.length cb, .bool f.isl] 35)
        have BX := ((Below.refl wr.heap.size wr).alloc (Nat.le_refl _) (.cells #[.string ⟨f.key.toArray⟩, .string ⟨f.text.toArray⟩, .slice B f.list.length cb, .bool f.isl] 35))
        have hO1 := keepB hO0 BX
        have hT1 := keepB hT0 BX
        have hF1 := keepB hF0 BX
        have hR1 := keepB hR0 BX
        have hW1 := hW0.below BX
        have hB1 := hb.trans (BX.mono hb.size)
        have hz1 := Nat.le_trans hz BX.size
        clear hO0 hT0 hF0 hR0 hW0 hb hz xf xz BX d0 d1 d2 d3 t0 t1 f0 f1 f2 f3 e1
        generalize World.alloc _ _ = W1 at hX1 hO1 hT1 hF1 hR1 hW1 hB1 hz1 ⊢
        generalize wr.heap.size = X at hX1 ⊢
        have HLT := Lib.hid hW1.lt
        have HC := Lib.hid (fun (W : World) (h : Below W1.heap.size W1 W) => HF.out W (hB1.trans (h.mono hB1.size)))
        have BD := below_drew W1.heap.size W1
        have hOd : W1.drew.heap[w.heap.size + 1 + 1 + 1]? = _ := hO1
        have hTd : W1.drew.heap[w.heap.size]? = _ := hT1
        have hFd : W1.drew.heap[w.heap.size + 1]? = _ := hF1
        have hRd : W1.drew.heap[w.heap.size + 1 + 1]? = _ := hR1
        have hWd := hW1.below BD
        obtain ⟨n0, n1⟩ := cellsG hO1
        have lO1 := lt_of_heap hO1
        obtain ⟨x0, x1, x2, x3⟩ := cells4 hX1
        have lX1 := lt_of_heap hX1
        clear hW1 hO1 hT1 hF1 hR1
        go_region_law ((first
          | (go_simp; go_at_call 41; (with_reducible refine (HC.out _ BD).mono ?_); rintro e w2 ⟨u, rfl, hS2, hb2⟩; have hW2 := hWd.below hb2; have hO2 := keepB hOd hb2; have hT2 := keepB hTd hb2; have hF2 := keepB hFd hb2; have hR2 := keepB hRd hb2; have z2 : LO ≤ w2.heap.size := Nat.le_trans hz1 hb2.size; have hNU : ∀ g, u.ownBlock = some g → (Value.slice K out.length kc).ownBlock ≠ some g := (fun g hg e => Nat.lt_irrefl _ (Nat.lt_of_lt_of_le (HLT.out g e) (hS2.owned g hg))); have hSB := hS2.weaken (base' := LO) hz1; obtain ⟨U, uc, rfl⟩ := hS2.slice; obtain ⟨r0, r1⟩ := cellsG hO2; have lO2 := lt_of_heap hO2)
          | (have hbl := heap_alloc_new w2 (.cells #[.string ⟨f.key.toArray⟩, .string ⟨f.text.toArray⟩, .slice U f.list.length uc, .bool f.isl] 35); have hba := ((Below.refl w2.heap.size w2).alloc (Nat.le_refl _) (.cells #[.string ⟨f.key.toArray⟩, .string ⟨f.text.toArray⟩, .slice U f.list.length uc, .bool f.isl] 35)); have hW3 := hW2.below hba; have hS3 := hSB.below hba; have z3 := Nat.le_trans z2 hba.size; have hO3 := keepA hO2 (.cells #[.string ⟨f.key.toArray⟩, .string ⟨f.text.toArray⟩, .slice U f.list.length uc, .bool f.isl] 35); have hT3 := keepA hT2 (.cells #[.string ⟨f.key.toArray⟩, .string ⟨f.text.toArray⟩, .slice U f.list.length uc, .bool f.isl] 35); have hF3 := keepA hF2 (.cells #[.string ⟨f.key.toArray⟩, .string ⟨f.text.toArray⟩, .slice U f.list.length uc, .bool f.isl] 35); have hR3 := keepA hR2 (.cells #[.string ⟨f.key.toArray⟩, .string ⟨f.text.toArray⟩, .slice U f.list.length uc, .bool f.isl] 35); refine step_append_fd (by rfl) (.tmp 35) (.tmp 38) (by rfl) LO (.slice K out.length kc) out (by rfl) hW3 f (.slice U f.list.length uc) hS3 hNU w2.heap.size 1 35 (0, 0) (by rfl) hbl hq1 z3 ?_; intro g4 c4 w4 hW4 hg4 hl4; have hO4 := gr_heap hg4 hO3 (fun e => Nat.not_le.2 hOL (HOW.out _ e.symm)); have hT4 := gr_heap hg4 hT3 (fun e => Nat.not_le.2 hTL (HOW.out _ e.symm)); have hF4 := gr_heap hg4 hF3 (fun e => Nat.not_le.2 hFL (HOW.out _ e.symm)); have hR4 := gr_heap hg4 hR3 (fun e => Nat.not_le.2 hRL (HOW.out _ e.symm)); obtain ⟨o0, o1⟩ := cellsG hO4; have fz := frozenG hO4; have lO4 := lt_of_heap hO4)))
        all_goals
          have B2 := hB1.trans ((BD.trans (hb2.mono BD.size)).mono hB1.size)
          have B4 := gr_belowN (B2.alloc B2.size (.cells #[.string ⟨f.key.toArray⟩, .string ⟨f.text.toArray⟩, .slice U f.list.length uc, .bool f.isl] 35)) hg4 (B2.alloc B2.size (.cells #[.string ⟨f.key.toArray⟩, .string ⟨f.text.toArray⟩, .slice U f.list.length uc, .bool f.isl] 35)).size (fun g hg => by have := HOW.out g hg; omega)
          have z4 := Nat.le_trans z3 hg4.size
          have hOE := heap_setN (k := 1) hO4 (.slice (some ⟨g4, 0, none⟩) (out.length + 1) c4)
          have hTE := heap_other (g := w.heap.size + 1 + 1 + 1) (o := 1) hT4 (.slice (some ⟨g4, 0, none⟩) (out.length + 1) c4) (by omega)
          have hFE := heap_other (g := w.heap.size + 1 + 1 + 1) (o := 1) hF4 (.slice (some ⟨g4, 0, none⟩) (out.length + 1) c4) (by omega)
          have hRE := heap_other (g := w.heap.size + 1 + 1 + 1) (o := 1) hR4 (.slice (some ⟨g4, 0, none⟩) (out.length + 1) c4) (by omega)
          have hWE := hW4.far (w.heap.size + 1 + 1 + 1) 1 (.slice (some ⟨g4, 0, none⟩) (out.length + 1) c4) hOL
          have BE := B4.setCell (p := ⟨w.heap.size + 1 + 1 + 1, 1, none⟩) (by show w.heap.size ≤ w.heap.size + 1 + 1 + 1; omega) (.slice (some ⟨g4, 0, none⟩) (out.length + 1) c4)
          have z5 : LO ≤ (w4.setCell ⟨w.heap.size + 1 + 1 + 1, 1, none⟩ (.slice (some ⟨g4, 0, none⟩) (out.length + 1) c4)).heap.size := by simpa using z4
          clear hWd hW2 hW3 hW4 hOd hO2 hO3 hO4 hTd hT2 hT3 hT4 hFd hF2 hF3 hF4 hRd hR2 hR3 hR4 hb2 hbl hba hS2 hSB hS3 hg4 B2 B4
          go_wp2_with fail
          go_roundw
          case rel => exact ⟨k + 1, _, true, by omega, by go_num, rfl, Lib.hid (by have := HM.out; simp; omega), by rw [setF_take hlt, HYF.out, HOUT.out]; exact hWE, hOE, hTE, hFE, hRE, BE, z5⟩
          case measure => simp [intOf]; omega

      · have HYF := Lib.hid (yF_miss hlt hm)
        have HBN : Hid (b = decide (atF fs f.key < k + 1)) := Lib.hid (by rw [HBK.out]; congr 1; apply propext; omega)
        have e1 : (fs[k].key == f.key) = false ∨ (fs[k].key == f.key) = true ∧ b = true := by
          by_cases h : fs[k].key = f.key
          · right
            refine ⟨by simp [h], ?_⟩
            rw [HBK.out]
            have : ¬ k < atF fs f.key := fun h2 => atF_before k h2 hlt h
            simp; omega
          · left; simpa using h
        have HRA := Lib.hid ra
        have HSY := Lib.hid (HS.out.get k hlt)
        clear ra HBK
        generalize fs[k] = y at d0 d1 d2 d3 HRA HSY HYF e1
        have xf : (wr.alloc (.cells #[.string ⟨y.key.toArray⟩, .string ⟨y.text.toArray⟩, .slice A1 y.list.length c1, .bool y.isl] 35)).heap[wr.heap.size]? = _ := heap_alloc_new wr _
        have BX := ((Below.refl wr.heap.size wr).alloc (Nat.le_refl _) (.cells #[.string ⟨y.key.toArray⟩, .string ⟨y.text.toArray⟩, .slice A1 y.list.length c1, .bool y.isl] 35))
        rcases e1 with e1 | ⟨e1, rfl⟩
        all_goals
          go_wp2_with fail
          have hX1 := xf
          have hO1 := keepB hO0 BX
          have hT1 := keepB hT0 BX
          have hF1 := keepB hF0 BX
          have hR1 := keepB hR0 BX
          have hW1 := hW0.below BX
          have hB1 := hb.trans (BX.mono hb.size)
          have hz1 := Nat.le_trans hz BX.size
          have HC := Lib.hid (fun (W : World) (h : Below (wr.alloc (.cells #[.string ⟨y.key.toArray⟩, .string ⟨y.text.toArray⟩, .slice A1 y.list.length c1, .bool y.isl] 35)).heap.size (wr.alloc (.cells #[.string ⟨y.key.toArray⟩, .string ⟨y.text.toArray⟩, .slice A1 y.list.length c1, .bool y.isl] 35)) W) => l07Copy_any y (.slice A1 y.list.length c1) W ((HRA.out.below BX).below h) HSY.out)
          clear hO0 hT0 hF0 hR0 hW0 hb hz xf BX d0 d1 d2 d3 t0 t1 f0 f1 f2 f3 e1
          unfold fdV at HC
          generalize World.alloc _ _ = W1 at hX1 hO1 hT1 hF1 hR1 hW1 hB1 hz1 HC ⊢
          generalize wr.heap.size = X at hX1 ⊢
          have HLT := Lib.hid hW1.lt
          have BD := below_drew W1.heap.size W1
          have hOd : W1.drew.heap[w.heap.size + 1 + 1 + 1]? = _ := hO1
          have hTd : W1.drew.heap[w.heap.size]? = _ := hT1
          have hFd : W1.drew.heap[w.heap.size + 1]? = _ := hF1
          have hRd : W1.drew.heap[w.heap.size + 1 + 1]? = _ := hR1
          have hWd := hW1.below BD
          obtain ⟨n0, n1⟩ := cellsG hO1
          have lO1 := lt_of_heap hO1
          obtain ⟨x0, x1, x2, x3⟩ := cells4 hX1
          have lX1 := lt_of_heap hX1
          clear hW1 hO1 hT1 hF1 hR1
          go_region_law ((first
            | (go_simp; go_at_call 41; (with_reducible refine (HC.out _ BD).mono ?_); rintro e w2 ⟨u, rfl, hS2, hb2⟩; have hW2 := hWd.below hb2; have hO2 := keepB hOd hb2; have hT2 := keepB hTd hb2; have hF2 := keepB hFd hb2; have hR2 := keepB hRd hb2; have z2 : LO ≤ w2.heap.size := Nat.le_trans hz1 hb2.size; have hNU : ∀ g, u.ownBlock = some g → (Value.slice K out.length kc).ownBlock ≠ some g := (fun g hg e => Nat.lt_irrefl _ (Nat.lt_of_lt_of_le (HLT.out g e) (hS2.owned g hg))); have hSB := hS2.weaken (base' := LO) hz1; obtain ⟨U, uc, rfl⟩ := hS2.slice; obtain ⟨r0, r1⟩ := cellsG hO2; have lO2 := lt_of_heap hO2)
            | (have hbl := heap_alloc_new w2 (.cells #[.string ⟨y.key.toArray⟩, .string ⟨y.text.toArray⟩, .slice U y.list.length uc, .bool y.isl] 35); have hba := ((Below.refl w2.heap.size w2).alloc (Nat.le_refl _) (.cells #[.string ⟨y.key.toArray⟩, .string ⟨y.text.toArray⟩, .slice U y.list.length uc, .bool y.isl] 35)); have hW3 := hW2.below hba; have hS3 := hSB.below hba; have z3 := Nat.le_trans z2 hba.size; have hO3 := keepA hO2 (.cells #[.string ⟨y.key.toArray⟩, .string ⟨y.text.toArray⟩, .slice U y.list.length uc, .bool y.isl] 35); have hT3 := keepA hT2 (.cells #[.string ⟨y.key.toArray⟩, .string ⟨y.text.toArray⟩, .slice U y.list.length uc, .bool y.isl] 35); have hF3 := keepA hF2 (.cells #[.string ⟨y.key.toArray⟩, .string ⟨y.text.toArray⟩, .slice U y.list.length uc, .bool y.isl] 35); have hR3 := keepA hR2 (.cells #[.string ⟨y.key.toArray⟩, .string ⟨y.text.toArray⟩, .slice U y.list.length uc, .bool y.isl] 35); refine step_append_fd (by rfl) (.tmp 35) (.tmp 38) (by rfl) LO (.slice K out.length kc) out (by rfl) hW3 y (.slice U y.list.length uc) hS3 hNU w2.heap.size 1 35 (0, 0) (by rfl) hbl hq1 z3 ?_; intro g4 c4 w4 hW4 hg4 hl4; have hO4 := gr_heap hg4 hO3 (fun e => Nat.not_le.2 hOL (HOW.out _ e.symm)); have hT4 := gr_heap hg4 hT3 (fun e => Nat.not_le.2 hTL (HOW.out _ e.symm)); have hF4 := gr_heap hg4 hF3 (fun e => Nat.not_le.2 hFL (HOW.out _ e.symm)); have hR4 := gr_heap hg4 hR3 (fun e => Nat.not_le.2 hRL (HOW.out _ e.symm)); obtain ⟨o0, o1⟩ := cellsG hO4; have fz := frozenG hO4; have lO4 := lt_of_heap hO4)))
          all_goals
            have B2 := hB1.trans ((BD.trans (hb2.mono BD.size)).mono hB1.size)
            have B4 := gr_belowN (B2.alloc B2.size (.cells #[.string ⟨y.key.toArray⟩, .string ⟨y.text.toArray⟩, .slice U y.list.length uc, .bool y.isl] 35)) hg4 (B2.alloc B2.size (.cells #[.string ⟨y.key.toArray⟩, .string ⟨y.text.toArray⟩, .slice U y.list.length uc, .bool y.isl] 35)).size (fun g hg => by have := HOW.out g hg; omega)
            have z4 := Nat.le_trans z3 hg4.size
            have hOE := heap_setN (k := 1) hO4 (.slice (some ⟨g4, 0, none⟩) (out.length + 1) c4)
            have hTE := heap_other (g := w.heap.size + 1 + 1 + 1) (o := 1) hT4 (.slice (some ⟨g4, 0, none⟩) (out.length + 1) c4) (by omega)
            have hFE := heap_other (g := w.heap.size + 1 + 1 + 1) (o := 1) hF4 (.slice (some ⟨g4, 0, none⟩) (out.length + 1) c4) (by omega)
            have hRE := heap_other (g := w.heap.size + 1 + 1 + 1) (o := 1) hR4 (.slice (some ⟨g4, 0, none⟩) (out.length + 1) c4) (by omega)
            have hWE := hW4.far (w.heap.size + 1 + 1 + 1) 1 (.slice (some ⟨g4, 0, none⟩) (out.length + 1) c4) hOL
            have BE := B4.setCell (p := ⟨w.heap.size + 1 + 1 + 1, 1, none⟩) (by show w.heap.size ≤ w.heap.size + 1 + 1 + 1; omega) (.slice (some ⟨g4, 0, none⟩) (out.length + 1) c4)
            have z5 : LO ≤ (w4.setCell ⟨w.heap.size + 1 + 1 + 1, 1, none⟩ (.slice (some ⟨g4, 0, none⟩) (out.length + 1) c4)).heap.size := by simpa using z4
            clear hWd hW2 hW3 hW4 hOd hO2 hO3 hO4 hTd hT2 hT3 hT4 hFd hF2 hF3 hF4 hRd hR2 hR3 hR4 hb2 hbl hba hS2 hSB hS3 hg4 B2 B4
            go_wp2_with fail
            go_roundw
            case rel => exact ⟨k + 1, _, _, by omega, by go_num, rfl, Lib.hid (HBN.out), by rw [setF_take hlt, HYF.out, HOUT.out]; exact hWE, hOE, hTE, hFE, hRE, BE, z5⟩
            case measure => simp [intOf]; omega

    · obtain rfl : k = fs.length := by omega
      by_cases hm : atF fs f.key < fs.length
      · obtain rfl : b = true := by rw [HBK.out]; simpa using hm
        have HX : Hid (out = setF fs f) := Lib.hid (HOUT.out.symm.trans (setF_all hm))
        have hOE := hO0
        have hRE := hR0
        obtain ⟨m0, m1⟩ := cellsG hOE
        obtain ⟨q0, q1⟩ := cellsG hRE
        have fR := frozenG hRE
        have lRE := lt_of_heap hRE
        go_wp2_with fail

        refine bodyPost_ret (v := .agg #[.string ⟨tn.toArray⟩, .slice K out.length kc]) ?_ rfl ⟨_, LO, rfl, ⟨?_, Nat.le_of_lt hTL⟩, (hb.setCell (by show w.heap.size ≤ w.heap.size + 1 + 1; omega) _).setCell (by show w.heap.size ≤ w.heap.size + 1 + 1; omega) _⟩
        · simp [results, Try.results10, go_sem, q0, q1]
        · rw [← HX.out]; exact ((hW0.far _ _ _ hRL).far _ _ _ hRL)
      · obtain rfl : b = false := by rw [HBK.out]; simpa using hm
        have HX : Hid (out ++ [f] = setF fs f) := Lib.hid (by rw [← HOUT.out]; exact setF_last hm)
        have hO1 := hO0
        have hT1 := hT0
        have hF1 := hF0
        have hR1 := hR0
        have hW1 := hW0
        have hB1 := hb
        have hz1 := hz
        clear hO0 hT0 hF0 hR0 hW0 hb hz HBK
        have HLT := Lib.hid hW1.lt
        have HC := Lib.hid (fun (W : World) (h : Below wr.heap.size wr W) => HF.out W (hB1.trans (h.mono hB1.size)))
        go_wp2_with fail
        have BD := below_drew wr.heap.size wr
        have hOd : wr.drew.heap[w.heap.size + 1 + 1 + 1]? = _ := hO1
        have hTd : wr.drew.heap[w.heap.size]? = _ := hT1
        have hFd : wr.drew.heap[w.heap.size + 1]? = _ := hF1
        have hRd : wr.drew.heap[w.heap.size + 1 + 1]? = _ := hR1
        have hWd := hW1.below BD
        obtain ⟨n0, n1⟩ := cellsG hO1
        have lO1 := lt_of_heap hO1

        clear hW1 hO1 hT1 hF1 hR1
        go_region_law ((first
          | (go_simp; go_at_call 41; (with_reducible refine (HC.out _ BD).mono ?_); rintro e w2 ⟨u, rfl, hS2, hb2⟩; have hW2 := hWd.below hb2; have hO2 := keepB hOd hb2; have hT2 := keepB hTd hb2; have hF2 := keepB hFd hb2; have hR2 := keepB hRd hb2; have z2 : LO ≤ w2.heap.size := Nat.le_trans hz1 hb2.size; have hNU : ∀ g, u.ownBlock = some g → (Value.slice K out.length kc).ownBlock ≠ some g := (fun g hg e => Nat.lt_irrefl _ (Nat.lt_of_lt_of_le (HLT.out g e) (hS2.owned g hg))); have hSB := hS2.weaken (base' := LO) hz1; obtain ⟨U, uc, rfl⟩ := hS2.slice; obtain ⟨r0, r1⟩ := cellsG hO2; have lO2 := lt_of_heap hO2)
          | (have hbl := heap_alloc_new w2 (.cells #[.string ⟨f.key.toArray⟩, .string ⟨f.text.toArray⟩, .slice U f.list.length uc, .bool f.isl] 35); have hba := ((Below.refl w2.heap.size w2).alloc (Nat.le_refl _) (.cells #[.string ⟨f.key.toArray⟩, .string ⟨f.text.toArray⟩, .slice U f.list.length uc, .bool f.isl] 35)); have hW3 := hW2.below hba; have hS3 := hSB.below hba; have z3 := Nat.le_trans z2 hba.size; have hO3 := keepA hO2 (.cells #[.string ⟨f.key.toArray⟩, .string ⟨f.text.toArray⟩, .slice U f.list.length uc, .bool f.isl] 35); have hT3 := keepA hT2 (.cells #[.string ⟨f.key.toArray⟩, .string ⟨f.text.toArray⟩, .slice U f.list.length uc, .bool f.isl] 35); have hF3 := keepA hF2 (.cells #[.string ⟨f.key.toArray⟩, .string ⟨f.text.toArray⟩, .slice U f.list.length uc, .bool f.isl] 35); have hR3 := keepA hR2 (.cells #[.string ⟨f.key.toArray⟩, .string ⟨f.text.toArray⟩, .slice U f.list.length uc, .bool f.isl] 35); refine step_append_fd (by rfl) (.tmp 44) (.tmp 47) (by rfl) LO (.slice K out.length kc) out (by rfl) hW3 f (.slice U f.list.length uc) hS3 hNU w2.heap.size 1 35 (0, 0) (by rfl) hbl hq1 z3 ?_; intro g4 c4 w4 hW4 hg4 hl4; have hO4 := gr_heap hg4 hO3 (fun e => Nat.not_le.2 hOL (HOW.out _ e.symm)); have hT4 := gr_heap hg4 hT3 (fun e => Nat.not_le.2 hTL (HOW.out _ e.symm)); have hF4 := gr_heap hg4 hF3 (fun e => Nat.not_le.2 hFL (HOW.out _ e.symm)); have hR4 := gr_heap hg4 hR3 (fun e => Nat.not_le.2 hRL (HOW.out _ e.symm)); obtain ⟨o0, o1⟩ := cellsG hO4; have fz := frozenG hO4; have lO4 := lt_of_heap hO4)))
        all_goals
          have B2 := hB1.trans ((BD.trans (hb2.mono BD.size)).mono hB1.size)
          have B4 := gr_belowN (B2.alloc B2.size (.cells #[.string ⟨f.key.toArray⟩, .string ⟨f.text.toArray⟩, .slice U f.list.length uc, .bool f.isl] 35)) hg4 (B2.alloc B2.size (.cells #[.string ⟨f.key.toArray⟩, .string ⟨f.text.toArray⟩, .slice U f.list.length uc, .bool f.isl] 35)).size (fun g hg => by have := HOW.out g hg; omega)
          have z4 := Nat.le_trans z3 hg4.size
          have hOE := heap_setN (k := 1) hO4 (.slice (some ⟨g4, 0, none⟩) (out.length + 1) c4)
          have hTE := heap_other (g := w.heap.size + 1 + 1 + 1) (o := 1) hT4 (.slice (some ⟨g4, 0, none⟩) (out.length + 1) c4) (by omega)
          have hFE := heap_other (g := w.heap.size + 1 + 1 + 1) (o := 1) hF4 (.slice (some ⟨g4, 0, none⟩) (out.length + 1) c4) (by omega)
          have hRE := heap_other (g := w.heap.size + 1 + 1 + 1) (o := 1) hR4 (.slice (some ⟨g4, 0, none⟩) (out.length + 1) c4) (by omega)
          have hWE := hW4.far (w.heap.size + 1 + 1 + 1) 1 (.slice (some ⟨g4, 0, none⟩) (out.length + 1) c4) hOL
          have BE := B4.setCell (p := ⟨w.heap.size + 1 + 1 + 1, 1, none⟩) (by show w.heap.size ≤ w.heap.size + 1 + 1 + 1; omega) (.slice (some ⟨g4, 0, none⟩) (out.length + 1) c4)
          have z5 : LO ≤ (w4.setCell ⟨w.heap.size + 1 + 1 + 1, 1, none⟩ (.slice (some ⟨g4, 0, none⟩) (out.length + 1) c4)).heap.size := by simpa using z4
          clear hWd hW2 hW3 hW4 hOd hO2 hO3 hO4 hTd hT2 hT3 hT4 hFd hF2 hF3 hF4 hRd hR2 hR3 hR4 hb2 hbl hba hS2 hSB hS3 hg4 B2 B4

          obtain ⟨m0, m1⟩ := cellsG hOE
          obtain ⟨q0, q1⟩ := cellsG hRE
          have fR := frozenG hRE
          have lRE := lt_of_heap hRE
          go_wp2_with fail

          refine bodyPost_ret (v := .agg #[.string ⟨tn.toArray⟩, .slice (some ⟨g4, 0, none⟩) (out.length + 1) c4]) ?_ rfl ⟨_, LO, rfl, ⟨?_, Nat.le_of_lt hTL⟩, (BE.setCell (by show w.heap.size ≤ w.heap.size + 1 + 1; omega) _).setCell (by show w.heap.size ≤ w.heap.size + 1 + 1; omega) _⟩
          · simp [results, Try.results10, go_sem, q0, q1]
          · rw [← HX.out]; exact ((hWE.far _ _ _ hRL).far _ _ _ hRL)
end Go.Proofs.Ytongpnknmgbhjaa
