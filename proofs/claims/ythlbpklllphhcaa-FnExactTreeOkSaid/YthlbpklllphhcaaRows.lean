/-
  NARROWER THAN 'FOR EVERY INPUT', by the rows' own cells (each row's printed sentence says how): FnExactTextOf: loops · FnExactKid: loops · FnExactSameTree: loops · FnExactTreeOk: loops · FnExactWith: loops.
  DERIVED. THE GIVEN ROWS OF THIS SEAT. 10 by the template 'for every input the law returns true; each argument reads behind the call as it read before'; 0 by the template 'total and deterministic' (their statements: YthlbpklllphhcaaTotals.lean).
  GIVEN WITH THE SEED: the statements are not yours to turn. If you find one false, say at which input.
  Laid BY PROGRAM, IN A SANDBOX (cutbox-rows.mjs): the forced cells as the released guide's own fill.sh prints them over the translation 615c3f66f0fa245b… (all of the seat's roots in one cut). By AI agents, Wed Nov 11 2026. No macro, syntax, notation, axiom, sorry.
-/
import Derived.Test.YthlbpklllphhcaaChecked
import GoSem.Claim
import GoSem.ClaimJoined
import GoSem.ClaimMapViews
import Derived.JoinedTies
import Derived.KernelRfl
namespace Go.Proofs.Ythlbpklllphhcaa
/- THE CELL 'sum', in the pinned program and in every row, IS THE sha256 OF THE DUMP (.gsa) THAT YthlbpklllphhcaaProg.lean LOADS. Nothing in Lean hashes anything: it is a label: what it is worth is what the hold of that sum in a sandbox is worth. -/
noncomputable def Try.pinned : Pinned := { name := "ythlbpklllphhcaa", sum := "615c3f66f0fa245b09b66a7c5a45b769f47f1f7d7b9b13124930019c07ea73a8", checked := Try.checked }
namespace Rows
def none {H : Type} : Left H := { results := [], args := [] }

/-- 'laws.FnExactTextOf': WHATEVER THE INPUT: true; the input reads as it did. -/
def fnExactTextOfSpec : ChangeSpec := { name := "fnExactTextOf", fn := fun _ => fun
  | [d1, d2] => { results := [.lit (.bool true)], args := [d1, d2] }
  | _ => none }
def fnExactTextOfRow : OpenClaim := { program := "ythlbpklllphhcaa", sum := "615c3f66f0fa245b09b66a7c5a45b769f47f1f7d7b9b13124930019c07ea73a8", func := "loop.example/g00445/laws.FnExactTextOf", spec := "fnExactTextOf", recurses := true, loops := true, plainKeys := false, apart := false }
def FnExactTextOfSaid : Prop := fnExactTextOfRow.holds Try.pinned (OpenSpec.ofChange fnExactTextOfSpec)

/-- ITS FALSE NEIGHBOUR: 'it returns false'. Refute it at one input. -/
def fnExactTextOfWrong : ChangeSpec := { name := "fnExactTextOf", fn := fun _ => fun
  | [d1, d2] => { results := [.lit (.bool false)], args := [d1, d2] }
  | _ => none }
def FnExactTextOfWrongFalsely : Prop := fnExactTextOfRow.holds Try.pinned (OpenSpec.ofChange fnExactTextOfWrong)

/-- 'laws.FnExactKid': WHATEVER THE INPUT: true; the input reads as it did. -/
def fnExactKidSpec : ChangeSpec := { name := "fnExactKid", fn := fun _ => fun
  | [d1, d2] => { results := [.lit (.bool true)], args := [d1, d2] }
  | _ => none }
def fnExactKidRow : OpenClaim := { program := "ythlbpklllphhcaa", sum := "615c3f66f0fa245b09b66a7c5a45b769f47f1f7d7b9b13124930019c07ea73a8", func := "loop.example/g00445/laws.FnExactKid", spec := "fnExactKid", recurses := true, loops := true, plainKeys := false, apart := false }
def FnExactKidSaid : Prop := fnExactKidRow.holds Try.pinned (OpenSpec.ofChange fnExactKidSpec)

/-- ITS FALSE NEIGHBOUR: 'it returns false'. Refute it at one input. -/
def fnExactKidWrong : ChangeSpec := { name := "fnExactKid", fn := fun _ => fun
  | [d1, d2] => { results := [.lit (.bool false)], args := [d1, d2] }
  | _ => none }
def FnExactKidWrongFalsely : Prop := fnExactKidRow.holds Try.pinned (OpenSpec.ofChange fnExactKidWrong)

/-- 'laws.FnExactSameTree': WHATEVER THE INPUT: true; the input reads as it did. -/
def fnExactSameTreeSpec : ChangeSpec := { name := "fnExactSameTree", fn := fun _ => fun
  | [d1, d2] => { results := [.lit (.bool true)], args := [d1, d2] }
  | _ => none }
def fnExactSameTreeRow : OpenClaim := { program := "ythlbpklllphhcaa", sum := "615c3f66f0fa245b09b66a7c5a45b769f47f1f7d7b9b13124930019c07ea73a8", func := "loop.example/g00445/laws.FnExactSameTree", spec := "fnExactSameTree", recurses := true, loops := true, plainKeys := false, apart := false }
def FnExactSameTreeSaid : Prop := fnExactSameTreeRow.holds Try.pinned (OpenSpec.ofChange fnExactSameTreeSpec)

/-- ITS FALSE NEIGHBOUR: 'it returns false'. Refute it at one input. -/
def fnExactSameTreeWrong : ChangeSpec := { name := "fnExactSameTree", fn := fun _ => fun
  | [d1, d2] => { results := [.lit (.bool false)], args := [d1, d2] }
  | _ => none }
def FnExactSameTreeWrongFalsely : Prop := fnExactSameTreeRow.holds Try.pinned (OpenSpec.ofChange fnExactSameTreeWrong)

/-- 'laws.FnExactTreeOk': WHATEVER THE INPUT: true; the input reads as it did. -/
def fnExactTreeOkSpec : ChangeSpec := { name := "fnExactTreeOk", fn := fun _ => fun
  | [d] => { results := [.lit (.bool true)], args := [d] }
  | _ => none }
def fnExactTreeOkRow : OpenClaim := { program := "ythlbpklllphhcaa", sum := "615c3f66f0fa245b09b66a7c5a45b769f47f1f7d7b9b13124930019c07ea73a8", func := "loop.example/g00445/laws.FnExactTreeOk", spec := "fnExactTreeOk", recurses := true, loops := true, plainKeys := false, apart := false }
def FnExactTreeOkSaid : Prop := fnExactTreeOkRow.holds Try.pinned (OpenSpec.ofChange fnExactTreeOkSpec)

/-- ITS FALSE NEIGHBOUR: 'it returns false'. Refute it at one input. -/
def fnExactTreeOkWrong : ChangeSpec := { name := "fnExactTreeOk", fn := fun _ => fun
  | [d] => { results := [.lit (.bool false)], args := [d] }
  | _ => none }
def FnExactTreeOkWrongFalsely : Prop := fnExactTreeOkRow.holds Try.pinned (OpenSpec.ofChange fnExactTreeOkWrong)

/-- 'laws.FnExactWith': WHATEVER THE INPUT: true; the input reads as it did. -/
def fnExactWithSpec : ChangeSpec := { name := "fnExactWith", fn := fun _ => fun
  | [d1, d2, d3] => { results := [.lit (.bool true)], args := [d1, d2, d3] }
  | _ => none }
def fnExactWithRow : OpenClaim := { program := "ythlbpklllphhcaa", sum := "615c3f66f0fa245b09b66a7c5a45b769f47f1f7d7b9b13124930019c07ea73a8", func := "loop.example/g00445/laws.FnExactWith", spec := "fnExactWith", recurses := true, loops := true, plainKeys := false, apart := false }
def FnExactWithSaid : Prop := fnExactWithRow.holds Try.pinned (OpenSpec.ofChange fnExactWithSpec)

/-- ITS FALSE NEIGHBOUR: 'it returns false'. Refute it at one input. -/
def fnExactWithWrong : ChangeSpec := { name := "fnExactWith", fn := fun _ => fun
  | [d1, d2, d3] => { results := [.lit (.bool false)], args := [d1, d2, d3] }
  | _ => none }
def FnExactWithWrongFalsely : Prop := fnExactWithRow.holds Try.pinned (OpenSpec.ofChange fnExactWithWrong)

/-- 'laws.FnExactFieldOf': WHATEVER THE INPUT: true; the input reads as it did. -/
def fnExactFieldOfSpec : ChangeSpec := { name := "fnExactFieldOf", fn := fun _ => fun
  | [d1, d2] => { results := [.lit (.bool true)], args := [d1, d2] }
  | _ => none }
def fnExactFieldOfRow : OpenClaim := { program := "ythlbpklllphhcaa", sum := "615c3f66f0fa245b09b66a7c5a45b769f47f1f7d7b9b13124930019c07ea73a8", func := "loop.example/g00445/laws.FnExactFieldOf", spec := "fnExactFieldOf", unfollowed := true, recurses := true, plainKeys := false, apart := false }
def FnExactFieldOfSaid : Prop := fnExactFieldOfRow.holds Try.pinned (OpenSpec.ofChange fnExactFieldOfSpec)

/-- ITS FALSE NEIGHBOUR: 'it returns false'. Refute it at one input. -/
def fnExactFieldOfWrong : ChangeSpec := { name := "fnExactFieldOf", fn := fun _ => fun
  | [d1, d2] => { results := [.lit (.bool false)], args := [d1, d2] }
  | _ => none }
def FnExactFieldOfWrongFalsely : Prop := fnExactFieldOfRow.holds Try.pinned (OpenSpec.ofChange fnExactFieldOfWrong)

/-- 'laws.FnExactSameTable': WHATEVER THE INPUT: true; the input reads as it did. -/
def fnExactSameTableSpec : ChangeSpec := { name := "fnExactSameTable", fn := fun _ => fun
  | [d1, d2] => { results := [.lit (.bool true)], args := [d1, d2] }
  | _ => none }
def fnExactSameTableRow : OpenClaim := { program := "ythlbpklllphhcaa", sum := "615c3f66f0fa245b09b66a7c5a45b769f47f1f7d7b9b13124930019c07ea73a8", func := "loop.example/g00445/laws.FnExactSameTable", spec := "fnExactSameTable", unfollowed := true, recurses := true, plainKeys := false, apart := false }
def FnExactSameTableSaid : Prop := fnExactSameTableRow.holds Try.pinned (OpenSpec.ofChange fnExactSameTableSpec)

/-- ITS FALSE NEIGHBOUR: 'it returns false'. Refute it at one input. -/
def fnExactSameTableWrong : ChangeSpec := { name := "fnExactSameTable", fn := fun _ => fun
  | [d1, d2] => { results := [.lit (.bool false)], args := [d1, d2] }
  | _ => none }
def FnExactSameTableWrongFalsely : Prop := fnExactSameTableRow.holds Try.pinned (OpenSpec.ofChange fnExactSameTableWrong)

/-- 'laws.FnExactSetField': WHATEVER THE INPUT: true; the input reads as it did. -/
def fnExactSetFieldSpec : ChangeSpec := { name := "fnExactSetField", fn := fun _ => fun
  | [d1, d2] => { results := [.lit (.bool true)], args := [d1, d2] }
  | _ => none }
def fnExactSetFieldRow : OpenClaim := { program := "ythlbpklllphhcaa", sum := "615c3f66f0fa245b09b66a7c5a45b769f47f1f7d7b9b13124930019c07ea73a8", func := "loop.example/g00445/laws.FnExactSetField", spec := "fnExactSetField", unfollowed := true, recurses := true, plainKeys := false, apart := false }
def FnExactSetFieldSaid : Prop := fnExactSetFieldRow.holds Try.pinned (OpenSpec.ofChange fnExactSetFieldSpec)

/-- ITS FALSE NEIGHBOUR: 'it returns false'. Refute it at one input. -/
def fnExactSetFieldWrong : ChangeSpec := { name := "fnExactSetField", fn := fun _ => fun
  | [d1, d2] => { results := [.lit (.bool false)], args := [d1, d2] }
  | _ => none }
def FnExactSetFieldWrongFalsely : Prop := fnExactSetFieldRow.holds Try.pinned (OpenSpec.ofChange fnExactSetFieldWrong)

/-- 'laws.FnExactTablesOk': WHATEVER THE INPUT: true; the input reads as it did. -/
def fnExactTablesOkSpec : ChangeSpec := { name := "fnExactTablesOk", fn := fun _ => fun
  | [d] => { results := [.lit (.bool true)], args := [d] }
  | _ => none }
def fnExactTablesOkRow : OpenClaim := { program := "ythlbpklllphhcaa", sum := "615c3f66f0fa245b09b66a7c5a45b769f47f1f7d7b9b13124930019c07ea73a8", func := "loop.example/g00445/laws.FnExactTablesOk", spec := "fnExactTablesOk", unfollowed := true, recurses := true, plainKeys := false, apart := false }
def FnExactTablesOkSaid : Prop := fnExactTablesOkRow.holds Try.pinned (OpenSpec.ofChange fnExactTablesOkSpec)

/-- ITS FALSE NEIGHBOUR: 'it returns false'. Refute it at one input. -/
def fnExactTablesOkWrong : ChangeSpec := { name := "fnExactTablesOk", fn := fun _ => fun
  | [d] => { results := [.lit (.bool false)], args := [d] }
  | _ => none }
def FnExactTablesOkWrongFalsely : Prop := fnExactTablesOkRow.holds Try.pinned (OpenSpec.ofChange fnExactTablesOkWrong)

/-- 'laws.FnExactPutTables': WHATEVER THE INPUT: true; the input reads as it did. -/
def fnExactPutTablesSpec : ChangeSpec := { name := "fnExactPutTables", fn := fun _ => fun
  | [d] => { results := [.lit (.bool true)], args := [d] }
  | _ => none }
def fnExactPutTablesRow : OpenClaim := { program := "ythlbpklllphhcaa", sum := "615c3f66f0fa245b09b66a7c5a45b769f47f1f7d7b9b13124930019c07ea73a8", func := "loop.example/g00445/laws.FnExactPutTables", spec := "fnExactPutTables", inPlace := ["internal/abi.NoEscape", "internal/bytealg.MakeNoZero"], unfollowed := true, recurses := true, plainKeys := false, apart := false }
def FnExactPutTablesSaid : Prop := fnExactPutTablesRow.holds Try.pinned (OpenSpec.ofChange fnExactPutTablesSpec)

/-- ITS FALSE NEIGHBOUR: 'it returns false'. Refute it at one input. -/
def fnExactPutTablesWrong : ChangeSpec := { name := "fnExactPutTables", fn := fun _ => fun
  | [d] => { results := [.lit (.bool false)], args := [d] }
  | _ => none }
def FnExactPutTablesWrongFalsely : Prop := fnExactPutTablesRow.holds Try.pinned (OpenSpec.ofChange fnExactPutTablesWrong)

/- THE SECOND FORM. 'bulk': how many values and letters a reading holds, each counted each time it is reached (what is shared counts as often as it is met; a slice's spare places count too). A statement '..UptoSaid' is the law's where the arguments, and the package variables that the reading takes, are together of bulk at most 1048576: NARROWER than '..Said'. Prove '..Said' where nothing that the law and all that it calls make is longer than what came in: it says more and counts as full. Else prove '..UptoSaid'. A law counts once. -/
mutual
def uptoBulk {H : Type} : DataW H → Nat
  | .lit (.string bytes) => bytes.length + 1
  | .lit _ => 1
  | .nil => 1
  | .ptr d => uptoBulk d + 1
  | .slice elems spare => uptoBulkAll elems + uptoBulkAll spare + 1
  | .agg parts => uptoBulkAll parts + 1
  | .iface _ d => uptoBulk d + 1
  | .map entries => uptoBulkEntries entries + 1
  | .held _ => 1
def uptoBulkAll {H : Type} : List (DataW H) → Nat
  | [] => 0
  | d :: r => uptoBulk d + uptoBulkAll r
def uptoBulkEntries {H : Type} : List (Lit × DataW H) → Nat
  | [] => 0
  | x :: r => uptoBulkEntry x + uptoBulkEntries r
def uptoBulkEntry {H : Type} : Lit × DataW H → Nat
  | (.string bytes, d) => bytes.length + uptoBulk d + 1
  | (_, d) => uptoBulk d + 1
 end
def uptoSmall : (H : Type) → List (DataW H) → Bool := fun _ ds => decide (uptoBulkAll ds ≤ 1048576)
def OpenSpec.upto (s : _root_.Go.ChangeSpec) : _root_.Go.OpenSpec := { _root_.Go.OpenSpec.ofChange s with cond := some uptoSmall }

/-- 'laws.FnExactTextOf', WHERE WHAT IT READS IS OF BULK AT MOST 1048576: true; the input reads as it did. -/
def fnExactTextOfUptoRow : OpenClaim := { program := "ythlbpklllphhcaa", sum := "615c3f66f0fa245b09b66a7c5a45b769f47f1f7d7b9b13124930019c07ea73a8", func := "loop.example/g00445/laws.FnExactTextOf", spec := "fnExactTextOf", recurses := true, loops := true, plainKeys := false, apart := false, narrowed := true }
def FnExactTextOfUptoSaid : Prop := fnExactTextOfUptoRow.holds Try.pinned (OpenSpec.upto fnExactTextOfSpec)

/-- 'laws.FnExactKid', WHERE WHAT IT READS IS OF BULK AT MOST 1048576: true; the input reads as it did. -/
def fnExactKidUptoRow : OpenClaim := { program := "ythlbpklllphhcaa", sum := "615c3f66f0fa245b09b66a7c5a45b769f47f1f7d7b9b13124930019c07ea73a8", func := "loop.example/g00445/laws.FnExactKid", spec := "fnExactKid", recurses := true, loops := true, plainKeys := false, apart := false, narrowed := true }
def FnExactKidUptoSaid : Prop := fnExactKidUptoRow.holds Try.pinned (OpenSpec.upto fnExactKidSpec)

/-- 'laws.FnExactSameTree', WHERE WHAT IT READS IS OF BULK AT MOST 1048576: true; the input reads as it did. -/
def fnExactSameTreeUptoRow : OpenClaim := { program := "ythlbpklllphhcaa", sum := "615c3f66f0fa245b09b66a7c5a45b769f47f1f7d7b9b13124930019c07ea73a8", func := "loop.example/g00445/laws.FnExactSameTree", spec := "fnExactSameTree", recurses := true, loops := true, plainKeys := false, apart := false, narrowed := true }
def FnExactSameTreeUptoSaid : Prop := fnExactSameTreeUptoRow.holds Try.pinned (OpenSpec.upto fnExactSameTreeSpec)

/-- 'laws.FnExactTreeOk', WHERE WHAT IT READS IS OF BULK AT MOST 1048576: true; the input reads as it did. -/
def fnExactTreeOkUptoRow : OpenClaim := { program := "ythlbpklllphhcaa", sum := "615c3f66f0fa245b09b66a7c5a45b769f47f1f7d7b9b13124930019c07ea73a8", func := "loop.example/g00445/laws.FnExactTreeOk", spec := "fnExactTreeOk", recurses := true, loops := true, plainKeys := false, apart := false, narrowed := true }
def FnExactTreeOkUptoSaid : Prop := fnExactTreeOkUptoRow.holds Try.pinned (OpenSpec.upto fnExactTreeOkSpec)

/-- 'laws.FnExactWith', WHERE WHAT IT READS IS OF BULK AT MOST 1048576: true; the input reads as it did. -/
def fnExactWithUptoRow : OpenClaim := { program := "ythlbpklllphhcaa", sum := "615c3f66f0fa245b09b66a7c5a45b769f47f1f7d7b9b13124930019c07ea73a8", func := "loop.example/g00445/laws.FnExactWith", spec := "fnExactWith", recurses := true, loops := true, plainKeys := false, apart := false, narrowed := true }
def FnExactWithUptoSaid : Prop := fnExactWithUptoRow.holds Try.pinned (OpenSpec.upto fnExactWithSpec)

/-- 'laws.FnExactFieldOf', WHERE WHAT IT READS IS OF BULK AT MOST 1048576: true; the input reads as it did. -/
def fnExactFieldOfUptoRow : OpenClaim := { program := "ythlbpklllphhcaa", sum := "615c3f66f0fa245b09b66a7c5a45b769f47f1f7d7b9b13124930019c07ea73a8", func := "loop.example/g00445/laws.FnExactFieldOf", spec := "fnExactFieldOf", unfollowed := true, recurses := true, plainKeys := false, apart := false, narrowed := true }
def FnExactFieldOfUptoSaid : Prop := fnExactFieldOfUptoRow.holds Try.pinned (OpenSpec.upto fnExactFieldOfSpec)

/-- 'laws.FnExactSameTable', WHERE WHAT IT READS IS OF BULK AT MOST 1048576: true; the input reads as it did. -/
def fnExactSameTableUptoRow : OpenClaim := { program := "ythlbpklllphhcaa", sum := "615c3f66f0fa245b09b66a7c5a45b769f47f1f7d7b9b13124930019c07ea73a8", func := "loop.example/g00445/laws.FnExactSameTable", spec := "fnExactSameTable", unfollowed := true, recurses := true, plainKeys := false, apart := false, narrowed := true }
def FnExactSameTableUptoSaid : Prop := fnExactSameTableUptoRow.holds Try.pinned (OpenSpec.upto fnExactSameTableSpec)

/-- 'laws.FnExactSetField', WHERE WHAT IT READS IS OF BULK AT MOST 1048576: true; the input reads as it did. -/
def fnExactSetFieldUptoRow : OpenClaim := { program := "ythlbpklllphhcaa", sum := "615c3f66f0fa245b09b66a7c5a45b769f47f1f7d7b9b13124930019c07ea73a8", func := "loop.example/g00445/laws.FnExactSetField", spec := "fnExactSetField", unfollowed := true, recurses := true, plainKeys := false, apart := false, narrowed := true }
def FnExactSetFieldUptoSaid : Prop := fnExactSetFieldUptoRow.holds Try.pinned (OpenSpec.upto fnExactSetFieldSpec)

/-- 'laws.FnExactTablesOk', WHERE WHAT IT READS IS OF BULK AT MOST 1048576: true; the input reads as it did. -/
def fnExactTablesOkUptoRow : OpenClaim := { program := "ythlbpklllphhcaa", sum := "615c3f66f0fa245b09b66a7c5a45b769f47f1f7d7b9b13124930019c07ea73a8", func := "loop.example/g00445/laws.FnExactTablesOk", spec := "fnExactTablesOk", unfollowed := true, recurses := true, plainKeys := false, apart := false, narrowed := true }
def FnExactTablesOkUptoSaid : Prop := fnExactTablesOkUptoRow.holds Try.pinned (OpenSpec.upto fnExactTablesOkSpec)

/-- 'laws.FnExactPutTables', WHERE WHAT IT READS IS OF BULK AT MOST 1048576: true; the input reads as it did. -/
def fnExactPutTablesUptoRow : OpenClaim := { program := "ythlbpklllphhcaa", sum := "615c3f66f0fa245b09b66a7c5a45b769f47f1f7d7b9b13124930019c07ea73a8", func := "loop.example/g00445/laws.FnExactPutTables", spec := "fnExactPutTables", inPlace := ["internal/abi.NoEscape", "internal/bytealg.MakeNoZero"], unfollowed := true, recurses := true, plainKeys := false, apart := false, narrowed := true }
def FnExactPutTablesUptoSaid : Prop := fnExactPutTablesUptoRow.holds Try.pinned (OpenSpec.upto fnExactPutTablesSpec)

end Rows
end Go.Proofs.Ythlbpklllphhcaa
