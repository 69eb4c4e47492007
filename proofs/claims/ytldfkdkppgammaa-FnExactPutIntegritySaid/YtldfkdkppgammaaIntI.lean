/-
  impl.PutIntegrity returns the integrity text of sums.
-/
import Derived.Test.YtldfkdkppgammaaIntS
import Derived.Test.YtldfkdkppgammaaB64I
import Derived.Test.YtldfkdkppgammaaJoinB
import Derived.Test.YtldfkdkppgammaaAppOne
import Derived.Test.YtldfkdkppgammaaGrw
import Derived.Deep.RegionHeldLaw
namespace Go.Proofs.Ytldfkdkppgammaa
open Go.RowKit

theorem cells2 {V : World} {B : Nat} {T : TypeId} {v0 v1 : Value} (h : V.heap[B]? = some (.cells #[v0, v1] T)) : V.cell? ⟨B, 0, none⟩ = some v0 ∧ V.cell? ⟨B, 1, none⟩ = some v1 := by
  simp [World.cell?, h]
/-- What impl's three tests say of an Alg. -/
theorem alg_impl (a : List UInt8) : (a = sha1L ∧ algOk a = true) ∨ (a = sha256L ∧ algOk a = true) ∨ (a = sha512L ∧ algOk a = true) ∨ (¬ a = sha1L ∧ ¬ a = sha256L ∧ ¬ a = sha512L ∧ algOk a = false) := by
  by_cases h1 : a = sha1L
  · subst h1; left; exact ⟨rfl, by decide⟩
  · by_cases h2 : a = sha256L
    · subst h2; right; left; exact ⟨rfl, by decide⟩
    · by_cases h3 : a = sha512L
      · subst h3; right; right; left; exact ⟨rfl, by decide⟩
      · right; right; right; exact ⟨h1, h2, h3, by unfold algOk; simp [h1, h2, h3]⟩
theorem wordsB_len (bs : List Bd) : (wordsB bs).length ≤ bs.length := by
  unfold wordsB; rw [List.length_map]; exact List.length_filter_le _ _

set_option maxRecDepth 100000 in
set_option maxHeartbeats 4000000 in
theorem implPutIntegrity_any (v : Value) (bs : List Bd) (w : World) (hr : RdB w v bs) (hs : SmB bs) :
    Calls Try.prog 20 #[v] w fun e w' => e = .returned (.string ⟨(intT bs).toArray⟩) ∧ Below w.heap.size w w' := by
  have HR := Lib.hid hr
  have HS := Lib.hid hs
  have hn : bs.length ≤ 1048576 := by unfold SmB at hs; omega
  obtain ⟨A, ca, rfl, _⟩ := hr
  go_enter Try.func20, Try.ntmps20
  go_wp2_with fail
  go_loopw [3, 5, 9] (fun u _ i wr => ∃ (k : Nat) (ws : List (List UInt8)), k ≤ bs.length ∧ i = .int .i64 k ∧ Strs wr w.heap.size u ws ∧ ws.length ≤ k ∧ Hid (wordsB (bs.take k) = ws) ∧ Below w.heap.size w wr) (fun _ _ i _ => bs.length - (intOf i).toNat)
  case atStart => exact ⟨0, [], Nat.zero_le _, rfl, Strs.empty w _ (Nat.le_refl _), by simp, Lib.hid rfl, (Below.refl _ _).alloc (Nat.le_refl _) _⟩
  case round =>
    obtain ⟨k, ws, hk, rfl, hO, hwl, HO, hb⟩ := hrel
    by_cases hlt : k < bs.length
    · obtain ⟨g, off, rfl, hg, d1, d2⟩ := (HR.out.below hb).at k hlt
      have hl2 : bs[k].1.length + bs[k].2.length ≤ 1048576 := by have := smB_mem bs[k] (List.getElem_mem hlt); have := HS.out; unfold SmB at this; omega
      have hways := alg_impl bs[k].1
      have HT1 := Lib.hid (fun (ha : algOk bs[k].1 = true) => wordsB_more hlt ha)
      have HT3 := Lib.hid (fun (ha : algOk bs[k].1 = false) => wordsB_skip hlt ha)
      have hbl := b64L_le bs[k].2
      obtain ⟨b, HB⟩ : ∃ b, Hid (bs[k] = b) := ⟨_, Lib.hid rfl⟩
      rw [HB.out] at d1 d2 hl2 hways HT1 HT3 hbl
      obtain ⟨al, by_⟩ := b
      simp only at d1 d2 hl2 hways HT1 HT3 hbl
      have k0 : (0 : Int) ≤ (k : Int) := by omega
      have k1 : (k : Int) < (bs.length : Int) := by omega
      have B1 : Below w.heap.size w (wr.alloc (.cells #[.string ⟨al.toArray⟩, .string ⟨by_.toArray⟩] 70)) := hb.alloc hb.size _
      have hO1 := hO.alloc (.cells #[.string ⟨al.toArray⟩, .string ⟨by_.toArray⟩] 70)
      have hbx := heap_alloc_new wr (.cells #[.string ⟨al.toArray⟩, .string ⟨by_.toArray⟩] 70)
      by_cases ha : algOk al = true
      · have HC := Lib.hid (fun W => implPutBase64_any ⟨by_.toArray⟩ W (by show by_.toArray.size ≤ _; simp; omega))
        obtain ⟨E, HE⟩ : ∃ E, Hid (b64L by_ = E) := ⟨_, Lib.hid rfl⟩
        have HC2 : Hid (∀ W, Calls Try.prog 52 #[.string ⟨by_.toArray⟩] W fun e w' => e = .returned (.string ⟨E.toArray⟩) ∧ Below W.heap.size W w') := Lib.hid (by have := HC.out; simp only [HE.out] at this; exact this)
        rw [HE.out] at hbl
        obtain ⟨N1, HN1⟩ : ∃ N, Hid (N = al ++ [45]) := ⟨_, Lib.hid rfl⟩
        obtain ⟨N2, HN2⟩ : ∃ N, Hid (N = N1 ++ E) := ⟨_, Lib.hid rfl⟩
        have l1 : N1.length ≤ 1048577 := by rw [HN1.out]; simp; omega
        have HN : Hid (wordsB (bs.take (k + 1)) = ws ++ [N2]) := Lib.hid (by rw [HT1.out ha, HO.out, HN2.out, HN1.out]; show ws ++ [al ++ 45 :: b64L by_] = _; rw [HE.out]; simp)
        have hal : al = sha1L ∨ al = sha256L ∨ al = sha512L := by
          rcases hways with ⟨h, _⟩ | ⟨h, _⟩ | ⟨h, _⟩ | ⟨_, _, _, h⟩
          · exact .inl h
          · exact .inr (.inl h)
          · exact .inr (.inr h)
          · rw [ha] at h; cases h
        have HOW := Lib.hid hO.owned
        have hws : w.heap.size ≤ wr.heap.size := hb.size
        clear ha hways HT1 HT3 HC hO hb
        rcases hal with rfl | rfl | rfl
        all_goals
          have s1 : ∀ W, (Op.stringOp .add ⟨_⟩ ⟨#[45]⟩).run Try.prog W = .ok (.string ⟨N1.toArray⟩) W := fun W => by rw [HN1.out]; exact add_lists W _ [45] (by omega) (by simp)
          have s2 : ∀ W, (Op.stringOp .add ⟨N1.toArray⟩ ⟨E.toArray⟩).run Try.prog W = .ok (.string ⟨N2.toArray⟩) W := fun W => by rw [HN2.out]; exact add_lists W N1 E (by omega) (by omega)
          first | unfold sha1L at d1 B1 hO1 hbx s1 | unfold sha256L at d1 B1 hO1 hbx s1 | unfold sha512L at d1 B1 hO1 hbx s1
          obtain ⟨x0, x1⟩ := cells2 hbx
          go_wp2_with fail
          go_region_law ((first
            | (go_simp; go_at_call 52; (with_reducible refine (HC2.out _).mono ?_); rintro e w3 ⟨rfl, hb3⟩; have y0 := keepC (W := World.drew _) hb3 x0; have S3 := hO1.drew.below hb3; have z3 : w.heap.size ≤ w3.heap.size := Nat.le_trans B1.size hb3.size)
            | (refine step_append_one (by rfl) _ _ (by rfl) w.heap.size _ _ (by rfl) (S3.alloc _) N2 w3.heap.size 1 _ _ (by rfl) (heap_alloc_new w3 _) (by omega) (by simp; omega) ?_; intro g4 c4 w5 hS5 hg5 hl5)))
          all_goals
            have B3 := (B1.trans (below_drew _ _)).trans (hb3.mono B1.size)
            have B5 := (B3.alloc B3.size _).grown hg5 (by simp; omega) (fun j hj => HOW.out j hj)
            go_wp2_with fail
            go_roundw
            case rel => exact ⟨k + 1, _, by omega, by go_num, hS5, by simp; omega, HN, B5⟩
            case measure => simp [intOf]; omega
      · have ha' : algOk al = false := by simpa using ha
        have HN : Hid (wordsB (bs.take (k + 1)) = ws) := Lib.hid (by rw [HT3.out ha', HO.out])
        obtain ⟨h1, h2, h3⟩ : ¬ al = sha1L ∧ ¬ al = sha256L ∧ ¬ al = sha512L := by
          rcases hways with ⟨_, h⟩ | ⟨_, h⟩ | ⟨_, h⟩ | ⟨h1, h2, h3, _⟩
          · rw [ha'] at h; cases h
          · rw [ha'] at h; cases h
          · rw [ha'] at h; cases h
          · exact ⟨h1, h2, h3⟩
        have q1 : (al == [115, 104, 97, 49]) = false := by simpa [sha1L] using h1
        have q2 : (al == [115, 104, 97, 50, 53, 54]) = false := by simpa [sha256L] using h2
        have q4 : (al == [115, 104, 97, 53, 49, 50]) = false := by simpa [sha512L] using h3
        clear ha ha' hways HT1 HT3 h1 h2 h3
        go_wp2_with fail
        go_roundw
        case rel => exact ⟨k + 1, ws, by omega, by go_num, hO1, by omega, HN, B1⟩
        case measure => simp [intOf]; omega
    · have HE : Hid (intT bs = Lib.join ws [32]) := Lib.hid (by unfold intT; rw [← HO.out, List.take_of_length_le (by omega)])
      have hjl := intT_len bs
      rw [HE.out] at hjl
      have HJ := Lib.hid (joinAll_any wr w.heap.size _ ws [32] hO (by omega) (by have := HS.out; unfold SmB at this; omega))
      obtain ⟨J, HJJ⟩ : ∃ J, Hid (Lib.join ws [32] = J) := ⟨_, Lib.hid rfl⟩
      rw [HJJ.out] at HJ HE
      clear hjl
      go_wp2_with fail
      refine HJ.out.mono ?_
      rintro e w1 ⟨rfl, hb1⟩
      go_wp2_with fail
      go_ret
      exact ⟨ret_str HE.out.symm, hb.trans (hb1.mono hb.size)⟩
end Go.Proofs.Ytldfkdkppgammaa
