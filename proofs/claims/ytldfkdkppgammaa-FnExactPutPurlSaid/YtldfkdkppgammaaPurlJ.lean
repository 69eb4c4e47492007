/-
  impl.PutPurl at every argument; the walk of the law FnExactPutPurl.
-/
import Derived.Test.YtldfkdkppgammaaPurlI
namespace Go.Proofs.Ytldfkdkppgammaa
open Go.RowKit Go.Shelf
attribute [local go_sem] Oper.semAt_some

set_option maxRecDepth 100000 in
set_option maxHeartbeats 4000000 in
theorem putPurl_out (k : Int) (a b : List UInt8) (w : World) (hb : b.length ≤ 1048576) (K : List UInt8) (m v : Bool) (hK : kindL k = K) (hm : specN a = m) (hv : readOk b = v) (hbad : K = [] ∨ (K ≠ [] ∧ m = false) ∨ (K ≠ [] ∧ m = true ∧ v = false)) :
    CallsIn Fence.wide 4 Try.prog 35 #[.int .i64 k, .string ⟨a.toArray⟩, .string ⟨b.toArray⟩] w fun e W' => e = .returned (.string ⟨#[]⟩) ∧ Below w.heap.size w W' := by
  have HV : Hid (Calls Try.prog 75 #[.string ⟨b.toArray⟩] w (ReadIs w b)) := Lib.hid (implReadVersion_any ⟨b.toArray⟩ w (by show b.toArray.size ≤ _; simp; omega))
  have HN : Hid (∀ W, Calls Try.prog 76 #[.string ⟨a.toArray⟩] W fun e w' => e = .returned (.bool (specN a)) ∧ Below W.heap.size W w') := Lib.hid (fun W => implNameOk_any ⟨a.toArray⟩ W)
  have HK := Lib.hid (fun W => implKindName_any k W)
  have HVV := Lib.hid hv
  simp only [hm] at HN
  simp only [hK] at HK
  clear hK hm hv
  refine callsIn_of_wp_marks Try.func35 rfl trivial ?_ rfl
  simp only [Try.ntmps35, List.size_toArray, List.length_cons, List.length_nil, Nat.reduceAdd, Nat.reduceSub, Array.replicate_succ, Array.replicate_zero, List.push_toArray, List.append_toArray, List.nil_append, List.cons_append]
  rcases hbad with rfl | ⟨hk, rfl⟩ | ⟨hk, rfl, rfl⟩
  · gi_wp2_with (refine ⟨trivial, ?_⟩; gi_at_call 12; refine (callsIn_wide.2 (HK.out _)).mono ?_; rintro e w0 ⟨rfl, rfl⟩)
    gi_wp2_with (refine ⟨trivial, ?_⟩; gi_at_call 75; refine (callsIn_wide.2 HV.out).mono ?_; rintro e w1 ⟨u, rfl, hu, hb1⟩; obtain ⟨A, c, rfl⟩ := hu.slice)
    refine ⟨trivial, ?_⟩
    gi_wp2
    refine ⟨.string ⟨#[]⟩, ?_, rfl, hb1.alloc hb1.size _⟩
    simp [results, Try.f35, go_sem]
  · obtain ⟨e1, e2⟩ := str_beq_nil hk
    clear hk
    gi_wp2_with (refine ⟨trivial, ?_⟩; gi_at_call 12; refine (callsIn_wide.2 (HK.out _)).mono ?_; rintro e w0 ⟨rfl, rfl⟩)
    gi_wp2_with (refine ⟨trivial, ?_⟩; gi_at_call 75; refine (callsIn_wide.2 HV.out).mono ?_; rintro e w1 ⟨u, rfl, hu, hb1⟩; obtain ⟨A, c, rfl⟩ := hu.slice)
    gi_wp2_with (refine ⟨trivial, ?_⟩; gi_at_call 76; refine (callsIn_wide.2 (HN.out _)).mono ?_; rintro e w2 ⟨rfl, hb2⟩)
    have BA := hb1.alloc hb1.size (.cells #[.int .i64 (readA b 0), .int .i64 (readA b 1), .int .i64 (readA b 2), .slice A (readP b).length c] 47)
    refine ⟨.string ⟨#[]⟩, ?_, rfl, BA.trans (hb2.mono BA.size)⟩
    simp [results, Try.f35, go_sem]
  · obtain ⟨e1, e2⟩ := str_beq_nil hk
    clear hk
    gi_wp2_with (refine ⟨trivial, ?_⟩; gi_at_call 12; refine (callsIn_wide.2 (HK.out _)).mono ?_; rintro e w0 ⟨rfl, rfl⟩)
    gi_wp2_with (refine ⟨trivial, ?_⟩; gi_at_call 75; refine (callsIn_wide.2 HV.out).mono ?_; rintro e w1 ⟨u, rfl, hu, hb1⟩; obtain ⟨A, c, rfl⟩ := hu.slice; rw [HVV.out])
    gi_wp2_with (refine ⟨trivial, ?_⟩; gi_at_call 76; refine (callsIn_wide.2 (HN.out _)).mono ?_; rintro e w2 ⟨rfl, hb2⟩)
    have BA := hb1.alloc hb1.size (.cells #[.int .i64 (readA b 0), .int .i64 (readA b 1), .int .i64 (readA b 2), .slice A (readP b).length c] 47)
    refine ⟨.string ⟨#[]⟩, ?_, rfl, BA.trans (hb2.mono BA.size)⟩
    simp [results, Try.f35, go_sem]

theorem implPutPurl_any (k : Int) (a b : List UInt8) (w : World) (hb : b.length ≤ 1048576) :
    Calls Try.prog 35 #[.int .i64 k, .string ⟨a.toArray⟩, .string ⟨b.toArray⟩] w fun e w' => e = .returned (.string ⟨(purlL k a b).toArray⟩) ∧ Below w.heap.size w w' := by
  refine (callsIn_wide (n := 4)).1 ?_
  by_cases hk : kindL k = []
  · rw [purl_kind a b hk]; exact putPurl_out k a b w hb _ _ _ hk rfl rfl (.inl rfl)
  · cases hm : specN a with
    | false => rw [purl_name k b hm]; exact putPurl_out k a b w hb _ _ _ rfl hm rfl (.inr (.inl ⟨hk, rfl⟩))
    | true =>
      cases hv : readOk b with
      | false => rw [purl_ver k a hv]; exact putPurl_out k a b w hb _ _ _ rfl hm hv (.inr (.inr ⟨hk, rfl, rfl⟩))
      | true => rw [purl_yes hk hm hv]; exact putPurl_in 4 (by omega) k a b w (specN_60 hm) hb hk hm hv

set_option maxRecDepth 100000 in
set_option maxHeartbeats 1000000 in
theorem exPutPurl (k : Int) (s t : ByteArray) (w : World) (_ : (Lit.int .i64 k).wf = true) (hs : s.size ≤ maxLen) (ht : t.size ≤ maxLen) :
    Calls Try.prog 9 #[.int .i64 k, .string s, .string t] w fun e w' => e = .returned (.bool true) ∧ Below w.heap.size w w' := by
  unfold maxLen at hs ht
  by_cases hbig : 1048576 < s.size
  · go_enter Try.func9, Try.ntmps9
    go_wp2_with fail
    go_ret
    exact ⟨rfl, Below.refl _ _⟩
  by_cases hbig2 : 1048576 < t.size
  · go_enter Try.func9, Try.ntmps9
    go_wp2_with fail
    go_ret
    exact ⟨rfl, Below.refl _ _⟩
  have e1 : (⟨s.data.toList.toArray⟩ : ByteArray) = s := bytes_ext (by simp)
  have e2 : (⟨t.data.toList.toArray⟩ : ByteArray) = t := bytes_ext (by simp)
  have h1 := specPutPurl_any k s.data.toList t.data.toList w (by simp; omega) (by simp; omega)
  have h2 := fun W => implPutPurl_any k s.data.toList t.data.toList W (by simp; omega)
  rw [e1, e2] at h1
  simp only [e1, e2] at h2
  obtain ⟨x, HX⟩ : ∃ x, Hid (purlL k s.data.toList t.data.toList = x) := ⟨_, Lib.hid rfl⟩
  rw [HX.out] at h1
  simp only [HX.out] at h2
  have H1 := Lib.hid h1
  have H2 := Lib.hid h2
  clear h1 h2 e1 e2
  go_enter Try.func9, Try.ntmps9
  go_wp2_with fail
  refine H1.out.mono ?_
  rintro e w1 ⟨rfl, hb1⟩
  go_wp2_with fail
  refine (H2.out _).mono ?_
  rintro e w2 ⟨rfl, hb2⟩
  go_wp2_with fail
  go_ret
  exact ⟨rfl, hb1.trans (hb2.mono hb1.size)⟩
end Go.Proofs.Ytldfkdkppgammaa
