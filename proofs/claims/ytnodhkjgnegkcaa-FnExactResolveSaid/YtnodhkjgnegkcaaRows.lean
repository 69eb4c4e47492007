/-
  NARROWER THAN 'FOR EVERY INPUT', by the rows' own cells (each row's printed sentence says how): FnExactKid: loops.
  DERIVED. THE GIVEN ROWS OF THIS SEAT. 4 by the template 'for every input the law returns true; each argument reads behind the call as it read before'; 0 by the template 'total and deterministic' (their statements: YtnodhkjgnegkcaaTotals.lean).
  GIVEN WITH THE SEED: the statements are not yours to turn. If you find one false, say at which input.
  Laid BY PROGRAM, IN A SANDBOX (cutbox-rows.mjs): the forced cells as the released guide's own fill.sh prints them over the translation eca99c72eda5c55b… (all of the seat's roots in one cut). By AI agents, Wed Nov 11 2026. No macro, syntax, notation, axiom, sorry.
-/
import Derived.Test.YtnodhkjgnegkcaaChecked
import GoSem.Claim
import GoSem.ClaimJoined
import GoSem.ClaimMapViews
import Derived.JoinedTies
import Derived.KernelRfl
namespace Go.Proofs.Ytnodhkjgnegkcaa
/- THE CELL 'sum', in the pinned program and in every row, IS THE sha256 OF THE DUMP (.gsa) THAT YtnodhkjgnegkcaaProg.lean LOADS. Nothing in Lean hashes anything: it is a label: what it is worth is what the hold of that sum in a sandbox is worth. -/
noncomputable def Try.pinned : Pinned := { name := "ytnodhkjgnegkcaa", sum := "eca99c72eda5c55b79872f7b7c48b7270e35f3b6ae9559a762dacf328a733fa6", checked := Try.checked }
namespace Rows
def none {H : Type} : Left H := { results := [], args := [] }

/-- 'laws.FnExactResolve': WHATEVER THE INPUT: true; the input reads as it did. -/
def fnExactResolveSpec : ChangeSpec := { name := "fnExactResolve", fn := fun _ => fun
  | [d1, d2] => { results := [.lit (.bool true)], args := [d1, d2] }
  | _ => none }
def fnExactResolveRow : OpenClaim := { program := "ytnodhkjgnegkcaa", sum := "eca99c72eda5c55b79872f7b7c48b7270e35f3b6ae9559a762dacf328a733fa6", func := "loop.example/g00445/laws.FnExactResolve", spec := "fnExactResolve", unfollowed := true, recurses := true, plainKeys := false, apart := false }
def FnExactResolveSaid : Prop := fnExactResolveRow.holds Try.pinned (OpenSpec.ofChange fnExactResolveSpec)

/-- ITS FALSE NEIGHBOUR: 'it returns false'. Refute it at one input. -/
def fnExactResolveWrong : ChangeSpec := { name := "fnExactResolve", fn := fun _ => fun
  | [d1, d2] => { results := [.lit (.bool false)], args := [d1, d2] }
  | _ => none }
def FnExactResolveWrongFalsely : Prop := fnExactResolveRow.holds Try.pinned (OpenSpec.ofChange fnExactResolveWrong)

/-- 'laws.FnExactUnmet': WHATEVER THE INPUT: true; the input reads as it did. -/
def fnExactUnmetSpec : ChangeSpec := { name := "fnExactUnmet", fn := fun _ => fun
  | [d] => { results := [.lit (.bool true)], args := [d] }
  | _ => none }
def fnExactUnmetRow : OpenClaim := { program := "ytnodhkjgnegkcaa", sum := "eca99c72eda5c55b79872f7b7c48b7270e35f3b6ae9559a762dacf328a733fa6", func := "loop.example/g00445/laws.FnExactUnmet", spec := "fnExactUnmet", unfollowed := true, recurses := true, plainKeys := false, apart := false }
def FnExactUnmetSaid : Prop := fnExactUnmetRow.holds Try.pinned (OpenSpec.ofChange fnExactUnmetSpec)

/-- ITS FALSE NEIGHBOUR: 'it returns false'. Refute it at one input. -/
def fnExactUnmetWrong : ChangeSpec := { name := "fnExactUnmet", fn := fun _ => fun
  | [d] => { results := [.lit (.bool false)], args := [d] }
  | _ => none }
def FnExactUnmetWrongFalsely : Prop := fnExactUnmetRow.holds Try.pinned (OpenSpec.ofChange fnExactUnmetWrong)

/-- 'laws.FnExactPutTables': WHATEVER THE INPUT: true; the input reads as it did. -/
def fnExactPutTablesSpec : ChangeSpec := { name := "fnExactPutTables", fn := fun _ => fun
  | [d] => { results := [.lit (.bool true)], args := [d] }
  | _ => none }
def fnExactPutTablesRow : OpenClaim := { program := "ytnodhkjgnegkcaa", sum := "eca99c72eda5c55b79872f7b7c48b7270e35f3b6ae9559a762dacf328a733fa6", func := "loop.example/g00445/laws.FnExactPutTables", spec := "fnExactPutTables", inPlace := ["internal/abi.NoEscape", "internal/bytealg.MakeNoZero"], unfollowed := true, recurses := true, plainKeys := false, apart := false }
def FnExactPutTablesSaid : Prop := fnExactPutTablesRow.holds Try.pinned (OpenSpec.ofChange fnExactPutTablesSpec)

/-- ITS FALSE NEIGHBOUR: 'it returns false'. Refute it at one input. -/
def fnExactPutTablesWrong : ChangeSpec := { name := "fnExactPutTables", fn := fun _ => fun
  | [d] => { results := [.lit (.bool false)], args := [d] }
  | _ => none }
def FnExactPutTablesWrongFalsely : Prop := fnExactPutTablesRow.holds Try.pinned (OpenSpec.ofChange fnExactPutTablesWrong)

/-- 'laws.FnExactKid': WHATEVER THE INPUT: true; the input reads as it did. -/
def fnExactKidSpec : ChangeSpec := { name := "fnExactKid", fn := fun _ => fun
  | [d1, d2] => { results := [.lit (.bool true)], args := [d1, d2] }
  | _ => none }
def fnExactKidRow : OpenClaim := { program := "ytnodhkjgnegkcaa", sum := "eca99c72eda5c55b79872f7b7c48b7270e35f3b6ae9559a762dacf328a733fa6", func := "loop.example/g00445/laws.FnExactKid", spec := "fnExactKid", recurses := true, loops := true, plainKeys := false, apart := false }
def FnExactKidSaid : Prop := fnExactKidRow.holds Try.pinned (OpenSpec.ofChange fnExactKidSpec)

/-- ITS FALSE NEIGHBOUR: 'it returns false'. Refute it at one input. -/
def fnExactKidWrong : ChangeSpec := { name := "fnExactKid", fn := fun _ => fun
  | [d1, d2] => { results := [.lit (.bool false)], args := [d1, d2] }
  | _ => none }
def FnExactKidWrongFalsely : Prop := fnExactKidRow.holds Try.pinned (OpenSpec.ofChange fnExactKidWrong)

/- THE SECOND FORM. 'bulk': how many values and letters a reading holds, each counted each time it is reached (what is shared counts as often as it is met; a slice's spare places count too). A statement '..UptoSaid' is the law's where the arguments, and the package variables that the reading takes, are together of bulk at most 1048576: NARROWER than '..Said'. Prove '..Said' where nothing that the law and all that it calls make is longer than what came in: it says more and counts as full. Else prove '..UptoSaid'. A law counts once. -/
mutual
def uptoBulk {H : Type} : DataW H → Nat
  | .lit (.string bytes) => bytes.length + 1
  | .lit _ => 1
  | .nil => 1
  | .ptr d => uptoBulk d + 1
  | .slice elems spare => uptoBulkAll elems + uptoBulkAll spare + 1
  | .agg parts => uptoBulkAll parts + 1
  | .iface _ d => uptoBulk d + 1
  | .map entries => uptoBulkEntries entries + 1
  | .held _ => 1
def uptoBulkAll {H : Type} : List (DataW H) → Nat
  | [] => 0
  | d :: r => uptoBulk d + uptoBulkAll r
def uptoBulkEntries {H : Type} : List (Lit × DataW H) → Nat
  | [] => 0
  | x :: r => uptoBulkEntry x + uptoBulkEntries r
def uptoBulkEntry {H : Type} : Lit × DataW H → Nat
  | (.string bytes, d) => bytes.length + uptoBulk d + 1
  | (_, d) => uptoBulk d + 1
 end
def uptoSmall : (H : Type) → List (DataW H) → Bool := fun _ ds => decide (uptoBulkAll ds ≤ 1048576)
def OpenSpec.upto (s : _root_.Go.ChangeSpec) : _root_.Go.OpenSpec := { _root_.Go.OpenSpec.ofChange s with cond := some uptoSmall }

/-- 'laws.FnExactResolve', WHERE WHAT IT READS IS OF BULK AT MOST 1048576: true; the input reads as it did. -/
def fnExactResolveUptoRow : OpenClaim := { program := "ytnodhkjgnegkcaa", sum := "eca99c72eda5c55b79872f7b7c48b7270e35f3b6ae9559a762dacf328a733fa6", func := "loop.example/g00445/laws.FnExactResolve", spec := "fnExactResolve", unfollowed := true, recurses := true, plainKeys := false, apart := false, narrowed := true }
def FnExactResolveUptoSaid : Prop := fnExactResolveUptoRow.holds Try.pinned (OpenSpec.upto fnExactResolveSpec)

/-- 'laws.FnExactUnmet', WHERE WHAT IT READS IS OF BULK AT MOST 1048576: true; the input reads as it did. -/
def fnExactUnmetUptoRow : OpenClaim := { program := "ytnodhkjgnegkcaa", sum := "eca99c72eda5c55b79872f7b7c48b7270e35f3b6ae9559a762dacf328a733fa6", func := "loop.example/g00445/laws.FnExactUnmet", spec := "fnExactUnmet", unfollowed := true, recurses := true, plainKeys := false, apart := false, narrowed := true }
def FnExactUnmetUptoSaid : Prop := fnExactUnmetUptoRow.holds Try.pinned (OpenSpec.upto fnExactUnmetSpec)

/-- 'laws.FnExactPutTables', WHERE WHAT IT READS IS OF BULK AT MOST 1048576: true; the input reads as it did. -/
def fnExactPutTablesUptoRow : OpenClaim := { program := "ytnodhkjgnegkcaa", sum := "eca99c72eda5c55b79872f7b7c48b7270e35f3b6ae9559a762dacf328a733fa6", func := "loop.example/g00445/laws.FnExactPutTables", spec := "fnExactPutTables", inPlace := ["internal/abi.NoEscape", "internal/bytealg.MakeNoZero"], unfollowed := true, recurses := true, plainKeys := false, apart := false, narrowed := true }
def FnExactPutTablesUptoSaid : Prop := fnExactPutTablesUptoRow.holds Try.pinned (OpenSpec.upto fnExactPutTablesSpec)

/-- 'laws.FnExactKid', WHERE WHAT IT READS IS OF BULK AT MOST 1048576: true; the input reads as it did. -/
def fnExactKidUptoRow : OpenClaim := { program := "ytnodhkjgnegkcaa", sum := "eca99c72eda5c55b79872f7b7c48b7270e35f3b6ae9559a762dacf328a733fa6", func := "loop.example/g00445/laws.FnExactKid", spec := "fnExactKid", recurses := true, loops := true, plainKeys := false, apart := false, narrowed := true }
def FnExactKidUptoSaid : Prop := fnExactKidUptoRow.holds Try.pinned (OpenSpec.upto fnExactKidSpec)

end Rows
end Go.Proofs.Ytnodhkjgnegkcaa
