/-
  The first field with a key: impl.fieldAt, its closure, slices.IndexFunc.
-/
import Derived.Test.YtongpnknmgbhjaaFdM
import Derived.Deep.RegionWith
namespace Go.Proofs.Ytongpnknmgbhjaa
open Go.RowKit

/-- The index of the first field with a key, or -1. -/
def findF (fs : List Fd) (key : List UInt8) : Int := match fs.findIdx? (fun f => f.key == key) with
  | some i => (i : Int)
  | none => -1
/-- The first field with a key and true, or an empty one and false. -/
def fieldOf (fs : List Fd) (key : List UInt8) : Fd × Bool := match fs.findIdx? (fun f => f.key == key) with
  | some i => (fs.getD i default, true)
  | none => (⟨[], [], [], false⟩, false)
/-- None of the first k fields has the key. -/
def noneFd (fs : List Fd) (key : List UInt8) (k : Nat) : Prop := ∀ f ∈ fs.take k, f.key ≠ key
theorem noneFd_zero (fs : List Fd) (key : List UInt8) : noneFd fs key 0 := by intro p h; simp at h
theorem noneFd_succ {fs : List Fd} {key : List UInt8} {k : Nat} (h : noneFd fs key k) (hk : k < fs.length) (he : fs[k].key ≠ key) : noneFd fs key (k + 1) := by
  intro p hp
  rw [List.take_succ_eq_append_getElem hk] at hp
  rcases List.mem_append.1 hp with h1 | h1
  · exact h p h1
  · simp at h1; subst h1; exact he
theorem idxFd_hit {fs : List Fd} {key : List UInt8} {k : Nat} (h : noneFd fs key k) (hk : k < fs.length) (he : fs[k].key = key) : fs.findIdx? (fun f => f.key == key) = some k := by
  rw [List.findIdx?_eq_some_iff_getElem]
  refine ⟨hk, by simpa using he, fun j hj => ?_⟩
  have := h fs[j] (by rw [List.mem_take_iff_getElem]; exact ⟨j, by omega, rfl⟩)
  simpa using this
theorem idxFd_miss {fs : List Fd} {key : List UInt8} {k : Nat} (h : noneFd fs key k) (hk : fs.length ≤ k) : fs.findIdx? (fun f => f.key == key) = none := by
  rw [List.findIdx?_eq_none_iff]
  intro p hp
  have := h p (by rw [List.take_of_length_le hk]; exact hp)
  simpa using this
theorem findF_hit {fs : List Fd} {key : List UInt8} {k : Nat} (h : noneFd fs key k) (hk : k < fs.length) (he : fs[k].key = key) : findF fs key = k := by unfold findF; rw [idxFd_hit h hk he]
theorem findF_miss {fs : List Fd} {key : List UInt8} {k : Nat} (h : noneFd fs key k) (hk : fs.length ≤ k) : findF fs key = -1 := by unfold findF; rw [idxFd_miss h hk]
theorem fieldOf_hit {fs : List Fd} {key : List UInt8} {k : Nat} (h : noneFd fs key k) (hk : k < fs.length) (he : fs[k].key = key) : fieldOf fs key = (fs[k], true) := by
  unfold fieldOf; rw [idxFd_hit h hk he]
  show (fs.getD k default, true) = _
  rw [List.getD_eq_getElem?_getD, List.getElem?_eq_getElem hk]; rfl
theorem fieldOf_miss {fs : List Fd} {key : List UInt8} {k : Nat} (h : noneFd fs key k) (hk : fs.length ≤ k) : fieldOf fs key = (⟨[], [], [], false⟩, false) := by unfold fieldOf; rw [idxFd_miss h hk]
theorem findF_cases (fs : List Fd) (key : List UInt8) : (findF fs key = -1 ∧ fieldOf fs key = (⟨[], [], [], false⟩, false)) ∨ ∃ k, ∃ h : k < fs.length, findF fs key = (k : Int) ∧ fieldOf fs key = (fs[k], true) := by
  unfold findF fieldOf
  cases h : fs.findIdx? (fun f => f.key == key) with
  | none => left; exact ⟨rfl, rfl⟩
  | some k =>
    right
    obtain ⟨hk, _⟩ := List.findIdx?_eq_some_iff_getElem.1 h
    refine ⟨k, hk, rfl, ?_⟩
    show (fs.getD k default, true) = _
    rw [List.getD_eq_getElem?_getD, List.getElem?_eq_getElem hk]; rfl
theorem fieldOf_small {fs : List Fd} (key : List UInt8) (h : SmFs fs) : SmFd (fieldOf fs key).1 := by
  rcases findF_cases fs key with ⟨_, e⟩ | ⟨k, hk, _, e⟩
  · rw [e]; simp [SmFd, wF, wL, smL]
  · rw [e]; exact h.get k hk

set_option maxRecDepth 100000 in
set_option maxHeartbeats 2000000 in
/-- The closure of impl.fieldAt: whether a field has the key that lies in block q. -/
theorem fieldC_any (f : Fd) (a : Value) (key : List UInt8) (q : Nat) (w : World) (ha : RdS w a f.list) (hq : w.cell? ⟨q, 0, none⟩ = some (.string ⟨key.toArray⟩)) :
    Calls Try.prog 72 #[fdV f a, .pointer (some ⟨q, 0, none⟩)] w fun e w' => e = .returned (.bool (f.key == key)) ∧ Below w.heap.size w w' := by
  obtain ⟨A1, c1, rfl⟩ := ha.slice
  unfold fdV
  have B0 : Below w.heap.size w (w.alloc (.cells #[.string ⟨f.key.toArray⟩, .string ⟨f.text.toArray⟩, .slice A1 f.list.length c1, .bool f.isl] 35)) := (Below.refl _ _).alloc (Nat.le_refl _) _
  have x := keepC B0 hq
  have hqs := cell_in hq
  obtain ⟨r, hr⟩ : ∃ r, (f.key == key) = r := ⟨_, rfl⟩
  rw [hr]
  clear ha
  go_enter Try.func72, Try.ntmps72
  go_wp2_with fail
  go_ret
  exact ⟨rfl, B0⟩

set_option maxRecDepth 100000 in
set_option maxHeartbeats 2000000 in
theorem indexFd_any (v : Value) (fs : List Fd) (key : List UInt8) (q : Nat) (w : World) (hp : RdFs w v fs) (hs : SmFs fs) (hq : w.cell? ⟨q, 0, none⟩ = some (.string ⟨key.toArray⟩)) :
    Calls Try.prog 71 #[v, .func (.func 72) #[] #[.pointer (some ⟨q, 0, none⟩)]] w fun e w' => e = .returned (.int .i64 (findF fs key)) ∧ Below w.heap.size w w' := by
  have HR := Lib.hid hp
  have HQ := Lib.hid hq
  have hl : fs.length ≤ 1048576 := by unfold SmFs at hs; omega
  obtain ⟨A, ca, rfl, ha⟩ := hp
  clear ha hs hq
  obtain ⟨r, HF⟩ : ∃ r, Hid (findF fs key = r) := ⟨_, Lib.hid rfl⟩
  rw [HF.out]
  go_enter Try.func71, Try.ntmps71
  go_wp2_with fail
  go_loopw [5, 8] (fun _ i wr => ∃ k : Nat, k ≤ fs.length ∧ i = .int .i64 k ∧ Hid (noneFd fs key k) ∧ Below w.heap.size w wr) (fun _ i _ => fs.length - (intOf i).toNat)
  case atStart => exact ⟨0, Nat.zero_le _, rfl, Lib.hid (noneFd_zero _ _), Below.refl _ _⟩
  case round =>
    obtain ⟨k, hk, rfl, HN, hb⟩ := hrel
    by_cases hlt : k < fs.length
    · obtain ⟨g, off, rfl, hg, a, d0, d1, d2, d3, ra⟩ := (HR.out.below hb).at k hlt
      have HC := Lib.hid (fieldC_any fs[k] a key q wr ra (keepC hb HQ.out))
      obtain ⟨A1, c1, rfl⟩ := ra.slice
      have k0 : (0 : Int) ≤ (k : Int) := by omega
      have k1 : (k : Int) < (fs.length : Int) := by omega
      clear ra
      by_cases he : fs[k].key = key
      · have HX : Hid (r = (k : Int)) := Lib.hid (by rw [← HF.out]; exact findF_hit HN.out hlt he)
        have HY : Hid ((fs[k].key == key) = true) := Lib.hid (by rw [he]; simp)
        clear he
        go_wp2_with fail
        refine HC.out.mono ?_
        rw [HY.out]
        rintro e w1 ⟨rfl, hb1⟩
        have B1 := hb.trans (hb1.mono hb.size)
        go_wp2_with fail
        go_ret
        exact ⟨ret_int HX.out.symm, B1⟩
      · have HN2 := Lib.hid (noneFd_succ HN.out hlt he)
        have HY : Hid ((fs[k].key == key) = false) := Lib.hid (by simpa using he)
        clear he
        go_wp2_with fail
        refine HC.out.mono ?_
        rw [HY.out]
        rintro e w1 ⟨rfl, hb1⟩
        have B1 := hb.trans (hb1.mono hb.size)
        go_wp2_with fail
        go_roundw
        case rel => exact ⟨k + 1, by omega, by go_num, HN2, B1⟩
        case measure => simp [intOf]; omega
    · have HX : Hid (r = -1) := Lib.hid (by rw [← HF.out]; exact findF_miss HN.out (by omega))
      go_wp2_with fail
      go_ret
      exact ⟨ret_int HX.out.symm, hb⟩

set_option maxRecDepth 100000 in
set_option maxHeartbeats 2000000 in
theorem fieldAt_any (t : Tb) (v : Value) (key : List UInt8) (w : World) (hp : RdFs w v t.fields) (hs : SmTb t) :
    Calls Try.prog 44 #[tbV t v, .string ⟨key.toArray⟩] w fun e w' => e = .returned (.int .i64 (findF t.fields key)) ∧ Below w.heap.size w w' := by
  have HC := Lib.hid (fun (W : World) (h : Below w.heap.size w W) (q : Nat) (hq : W.cell? ⟨q, 0, none⟩ = some (.string ⟨key.toArray⟩)) => indexFd_any v t.fields key q W (hp.below h) hs.fields hq)
  obtain ⟨A, ca, rfl⟩ := hp.slice
  unfold tbV
  clear hp hs
  have B0 : Below w.heap.size w ((w.alloc (.cells #[.string ⟨t.name.toArray⟩, .slice A t.fields.length ca] 32)).alloc (.cells #[.string ⟨key.toArray⟩] 9)) := ((Below.refl _ _).alloc (Nat.le_refl _) _).alloc (by simp) _
  go_enter Try.func44, Try.ntmps44
  go_wp2_with fail
  refine (HC.out _ B0 _ (by simp)).mono ?_
  rintro e w1 ⟨rfl, hb1⟩
  go_wp2_with fail
  go_ret
  exact ⟨rfl, B0.trans (hb1.mono B0.size)⟩
end Go.Proofs.Ytongpnknmgbhjaa
