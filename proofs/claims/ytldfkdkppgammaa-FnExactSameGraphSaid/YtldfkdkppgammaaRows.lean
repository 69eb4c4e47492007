/-
  No cell of these rows narrows 'for every input' (looked for: loops, veiled, ifaces, maps, wideKeys, modest, calm, conditions, laid).
  DERIVED. THE GIVEN ROWS OF THIS SEAT. 8 by the template 'for every input the law returns true; each argument reads behind the call as it read before'; 0 by the template 'total and deterministic' (their statements: YtldfkdkppgammaaTotals.lean).
  GIVEN WITH THE SEED: the statements are not yours to turn. If you find one false, say at which input.
  Laid BY PROGRAM, IN A SANDBOX (cutbox-rows.mjs): the forced cells as the released guide's own fill.sh prints them over the translation f69c6b67e2ebd7ec… (all of the seat's roots in one cut). By AI agents, Wed Nov 11 2026. No macro, syntax, notation, axiom, sorry.
-/
import Derived.Test.YtldfkdkppgammaaChecked
import GoSem.Claim
import GoSem.ClaimJoined
import GoSem.ClaimMapViews
import Derived.JoinedTies
import Derived.KernelRfl
namespace Go.Proofs.Ytldfkdkppgammaa
/- THE CELL 'sum', in the pinned program and in every row, IS THE sha256 OF THE DUMP (.gsa) THAT YtldfkdkppgammaaProg.lean LOADS. Nothing in Lean hashes anything: it is a label: what it is worth is what the hold of that sum in a sandbox is worth. -/
noncomputable def Try.pinned : Pinned := { name := "ytldfkdkppgammaa", sum := "f69c6b67e2ebd7ec1558a880ddc9cc25abb043281fe744d802abbcf1ab188a07", checked := Try.checked }
namespace Rows
def none {H : Type} : Left H := { results := [], args := [] }

/-- 'laws.FnExactKindName': WHATEVER THE INPUT: true; the input reads as it did. -/
def fnExactKindNameSpec : ChangeSpec := { name := "fnExactKindName", fn := fun _ => fun
  | [d] => { results := [.lit (.bool true)], args := [d] }
  | _ => none }
def fnExactKindNameRow : OpenClaim := { program := "ytldfkdkppgammaa", sum := "f69c6b67e2ebd7ec1558a880ddc9cc25abb043281fe744d802abbcf1ab188a07", func := "loop.example/g00445/laws.FnExactKindName", spec := "fnExactKindName", apart := false }
def FnExactKindNameSaid : Prop := fnExactKindNameRow.holds Try.pinned (OpenSpec.ofChange fnExactKindNameSpec)

/-- ITS FALSE NEIGHBOUR: 'it returns false'. Refute it at one input. -/
def fnExactKindNameWrong : ChangeSpec := { name := "fnExactKindName", fn := fun _ => fun
  | [d] => { results := [.lit (.bool false)], args := [d] }
  | _ => none }
def FnExactKindNameWrongFalsely : Prop := fnExactKindNameRow.holds Try.pinned (OpenSpec.ofChange fnExactKindNameWrong)

/-- 'laws.FnExactSpdxId': WHATEVER THE INPUT: true; the input reads as it did. -/
def fnExactSpdxIdSpec : ChangeSpec := { name := "fnExactSpdxId", fn := fun _ => fun
  | [d] => { results := [.lit (.bool true)], args := [d] }
  | _ => none }
def fnExactSpdxIdRow : OpenClaim := { program := "ytldfkdkppgammaa", sum := "f69c6b67e2ebd7ec1558a880ddc9cc25abb043281fe744d802abbcf1ab188a07", func := "loop.example/g00445/laws.FnExactSpdxId", spec := "fnExactSpdxId", apart := false }
def FnExactSpdxIdSaid : Prop := fnExactSpdxIdRow.holds Try.pinned (OpenSpec.ofChange fnExactSpdxIdSpec)

/-- ITS FALSE NEIGHBOUR: 'it returns false'. Refute it at one input. -/
def fnExactSpdxIdWrong : ChangeSpec := { name := "fnExactSpdxId", fn := fun _ => fun
  | [d] => { results := [.lit (.bool false)], args := [d] }
  | _ => none }
def FnExactSpdxIdWrongFalsely : Prop := fnExactSpdxIdRow.holds Try.pinned (OpenSpec.ofChange fnExactSpdxIdWrong)

/-- 'laws.FnExactFromSpdxId': WHATEVER THE INPUT: true; the input reads as it did. -/
def fnExactFromSpdxIdSpec : ChangeSpec := { name := "fnExactFromSpdxId", fn := fun _ => fun
  | [d] => { results := [.lit (.bool true)], args := [d] }
  | _ => none }
def fnExactFromSpdxIdRow : OpenClaim := { program := "ytldfkdkppgammaa", sum := "f69c6b67e2ebd7ec1558a880ddc9cc25abb043281fe744d802abbcf1ab188a07", func := "loop.example/g00445/laws.FnExactFromSpdxId", spec := "fnExactFromSpdxId", inPlace := ["internal/bytealg.IndexByteString", "internal/bytealg.IndexString"], named := ["internal/bytealg.MaxLen"], apart := false }
def FnExactFromSpdxIdSaid : Prop := fnExactFromSpdxIdRow.holds Try.pinned (OpenSpec.ofChange fnExactFromSpdxIdSpec)

/-- ITS FALSE NEIGHBOUR: 'it returns false'. Refute it at one input. -/
def fnExactFromSpdxIdWrong : ChangeSpec := { name := "fnExactFromSpdxId", fn := fun _ => fun
  | [d] => { results := [.lit (.bool false)], args := [d] }
  | _ => none }
def FnExactFromSpdxIdWrongFalsely : Prop := fnExactFromSpdxIdRow.holds Try.pinned (OpenSpec.ofChange fnExactFromSpdxIdWrong)

/-- 'laws.FnExactPutIntegrity': WHATEVER THE INPUT: true; the input reads as it did. -/
def fnExactPutIntegritySpec : ChangeSpec := { name := "fnExactPutIntegrity", fn := fun _ => fun
  | [d] => { results := [.lit (.bool true)], args := [d] }
  | _ => none }
def fnExactPutIntegrityRow : OpenClaim := { program := "ytldfkdkppgammaa", sum := "f69c6b67e2ebd7ec1558a880ddc9cc25abb043281fe744d802abbcf1ab188a07", func := "loop.example/g00445/laws.FnExactPutIntegrity", spec := "fnExactPutIntegrity", inPlace := ["internal/abi.NoEscape", "internal/bytealg.MakeNoZero"], unfollowed := true, recurses := true, apart := false }
def FnExactPutIntegritySaid : Prop := fnExactPutIntegrityRow.holds Try.pinned (OpenSpec.ofChange fnExactPutIntegritySpec)

/-- ITS FALSE NEIGHBOUR: 'it returns false'. Refute it at one input. -/
def fnExactPutIntegrityWrong : ChangeSpec := { name := "fnExactPutIntegrity", fn := fun _ => fun
  | [d] => { results := [.lit (.bool false)], args := [d] }
  | _ => none }
def FnExactPutIntegrityWrongFalsely : Prop := fnExactPutIntegrityRow.holds Try.pinned (OpenSpec.ofChange fnExactPutIntegrityWrong)

/-- 'laws.FnExactSameGraph': WHATEVER THE INPUT: true; the input reads as it did. -/
def fnExactSameGraphSpec : ChangeSpec := { name := "fnExactSameGraph", fn := fun _ => fun
  | [d1, d2] => { results := [.lit (.bool true)], args := [d1, d2] }
  | _ => none }
def fnExactSameGraphRow : OpenClaim := { program := "ytldfkdkppgammaa", sum := "f69c6b67e2ebd7ec1558a880ddc9cc25abb043281fe744d802abbcf1ab188a07", func := "loop.example/g00445/laws.FnExactSameGraph", spec := "fnExactSameGraph", unfollowed := true, recurses := true, apart := false }
def FnExactSameGraphSaid : Prop := fnExactSameGraphRow.holds Try.pinned (OpenSpec.ofChange fnExactSameGraphSpec)

/-- ITS FALSE NEIGHBOUR: 'it returns false'. Refute it at one input. -/
def fnExactSameGraphWrong : ChangeSpec := { name := "fnExactSameGraph", fn := fun _ => fun
  | [d1, d2] => { results := [.lit (.bool false)], args := [d1, d2] }
  | _ => none }
def FnExactSameGraphWrongFalsely : Prop := fnExactSameGraphRow.holds Try.pinned (OpenSpec.ofChange fnExactSameGraphWrong)

/-- 'laws.FnExactNext': WHATEVER THE INPUT: true; the input reads as it did. -/
def fnExactNextSpec : ChangeSpec := { name := "fnExactNext", fn := fun _ => fun
  | [d1, d2] => { results := [.lit (.bool true)], args := [d1, d2] }
  | _ => none }
def fnExactNextRow : OpenClaim := { program := "ytldfkdkppgammaa", sum := "f69c6b67e2ebd7ec1558a880ddc9cc25abb043281fe744d802abbcf1ab188a07", func := "loop.example/g00445/laws.FnExactNext", spec := "fnExactNext", unfollowed := true, recurses := true, apart := false }
def FnExactNextSaid : Prop := fnExactNextRow.holds Try.pinned (OpenSpec.ofChange fnExactNextSpec)

/-- ITS FALSE NEIGHBOUR: 'it returns false'. Refute it at one input. -/
def fnExactNextWrong : ChangeSpec := { name := "fnExactNext", fn := fun _ => fun
  | [d1, d2] => { results := [.lit (.bool false)], args := [d1, d2] }
  | _ => none }
def FnExactNextWrongFalsely : Prop := fnExactNextRow.holds Try.pinned (OpenSpec.ofChange fnExactNextWrong)

/-- 'laws.FnExactPutPurl': WHATEVER THE INPUT: true; the input reads as it did. -/
def fnExactPutPurlSpec : ChangeSpec := { name := "fnExactPutPurl", fn := fun _ => fun
  | [d1, d2, d3] => { results := [.lit (.bool true)], args := [d1, d2, d3] }
  | _ => none }
def fnExactPutPurlRow : OpenClaim := { program := "ytldfkdkppgammaa", sum := "f69c6b67e2ebd7ec1558a880ddc9cc25abb043281fe744d802abbcf1ab188a07", func := "loop.example/g00445/laws.FnExactPutPurl", spec := "fnExactPutPurl", inPlace := ["internal/bytealg.IndexByteString", "internal/bytealg.IndexString", "internal/abi.NoEscape", "internal/bytealg.MakeNoZero"], unfollowed := true, recurses := true, named := ["internal/bytealg.MaxLen"], apart := false }
def FnExactPutPurlSaid : Prop := fnExactPutPurlRow.holds Try.pinned (OpenSpec.ofChange fnExactPutPurlSpec)

/-- ITS FALSE NEIGHBOUR: 'it returns false'. Refute it at one input. -/
def fnExactPutPurlWrong : ChangeSpec := { name := "fnExactPutPurl", fn := fun _ => fun
  | [d1, d2, d3] => { results := [.lit (.bool false)], args := [d1, d2, d3] }
  | _ => none }
def FnExactPutPurlWrongFalsely : Prop := fnExactPutPurlRow.holds Try.pinned (OpenSpec.ofChange fnExactPutPurlWrong)

/-- 'laws.FnExactGetPurl': WHATEVER THE INPUT: true; the input reads as it did. -/
def fnExactGetPurlSpec : ChangeSpec := { name := "fnExactGetPurl", fn := fun _ => fun
  | [d] => { results := [.lit (.bool true)], args := [d] }
  | _ => none }
def fnExactGetPurlRow : OpenClaim := { program := "ytldfkdkppgammaa", sum := "f69c6b67e2ebd7ec1558a880ddc9cc25abb043281fe744d802abbcf1ab188a07", func := "loop.example/g00445/laws.FnExactGetPurl", spec := "fnExactGetPurl", inPlace := ["internal/bytealg.IndexByteString", "internal/bytealg.IndexString", "internal/abi.NoEscape", "internal/bytealg.MakeNoZero"], unfollowed := true, recurses := true, named := ["internal/bytealg.MaxLen"], apart := false }
def FnExactGetPurlSaid : Prop := fnExactGetPurlRow.holds Try.pinned (OpenSpec.ofChange fnExactGetPurlSpec)

/-- ITS FALSE NEIGHBOUR: 'it returns false'. Refute it at one input. -/
def fnExactGetPurlWrong : ChangeSpec := { name := "fnExactGetPurl", fn := fun _ => fun
  | [d] => { results := [.lit (.bool false)], args := [d] }
  | _ => none }
def FnExactGetPurlWrongFalsely : Prop := fnExactGetPurlRow.holds Try.pinned (OpenSpec.ofChange fnExactGetPurlWrong)

/- THE SECOND FORM. 'bulk': how many values and letters a reading holds, each counted each time it is reached (what is shared counts as often as it is met; a slice's spare places count too). A statement '..UptoSaid' is the law's where the arguments, and the package variables that the reading takes, are together of bulk at most 1048576: NARROWER than '..Said'. Prove '..Said' where nothing that the law and all that it calls make is longer than what came in: it says more and counts as full. Else prove '..UptoSaid'. A law counts once. -/
mutual
def uptoBulk {H : Type} : DataW H → Nat
  | .lit (.string bytes) => bytes.length + 1
  | .lit _ => 1
  | .nil => 1
  | .ptr d => uptoBulk d + 1
  | .slice elems spare => uptoBulkAll elems + uptoBulkAll spare + 1
  | .agg parts => uptoBulkAll parts + 1
  | .iface _ d => uptoBulk d + 1
  | .map entries => uptoBulkEntries entries + 1
  | .held _ => 1
def uptoBulkAll {H : Type} : List (DataW H) → Nat
  | [] => 0
  | d :: r => uptoBulk d + uptoBulkAll r
def uptoBulkEntries {H : Type} : List (Lit × DataW H) → Nat
  | [] => 0
  | x :: r => uptoBulkEntry x + uptoBulkEntries r
def uptoBulkEntry {H : Type} : Lit × DataW H → Nat
  | (.string bytes, d) => bytes.length + uptoBulk d + 1
  | (_, d) => uptoBulk d + 1
 end
def uptoSmall : (H : Type) → List (DataW H) → Bool := fun _ ds => decide (uptoBulkAll ds ≤ 1048576)
def OpenSpec.upto (s : _root_.Go.ChangeSpec) : _root_.Go.OpenSpec := { _root_.Go.OpenSpec.ofChange s with cond := some uptoSmall }

/-- 'laws.FnExactKindName', WHERE WHAT IT READS IS OF BULK AT MOST 1048576: true; the input reads as it did. -/
def fnExactKindNameUptoRow : OpenClaim := { program := "ytldfkdkppgammaa", sum := "f69c6b67e2ebd7ec1558a880ddc9cc25abb043281fe744d802abbcf1ab188a07", func := "loop.example/g00445/laws.FnExactKindName", spec := "fnExactKindName", apart := false, narrowed := true }
def FnExactKindNameUptoSaid : Prop := fnExactKindNameUptoRow.holds Try.pinned (OpenSpec.upto fnExactKindNameSpec)

/-- 'laws.FnExactSpdxId', WHERE WHAT IT READS IS OF BULK AT MOST 1048576: true; the input reads as it did. -/
def fnExactSpdxIdUptoRow : OpenClaim := { program := "ytldfkdkppgammaa", sum := "f69c6b67e2ebd7ec1558a880ddc9cc25abb043281fe744d802abbcf1ab188a07", func := "loop.example/g00445/laws.FnExactSpdxId", spec := "fnExactSpdxId", apart := false, narrowed := true }
def FnExactSpdxIdUptoSaid : Prop := fnExactSpdxIdUptoRow.holds Try.pinned (OpenSpec.upto fnExactSpdxIdSpec)

/-- 'laws.FnExactFromSpdxId', WHERE WHAT IT READS IS OF BULK AT MOST 1048576: true; the input reads as it did. -/
def fnExactFromSpdxIdUptoRow : OpenClaim := { program := "ytldfkdkppgammaa", sum := "f69c6b67e2ebd7ec1558a880ddc9cc25abb043281fe744d802abbcf1ab188a07", func := "loop.example/g00445/laws.FnExactFromSpdxId", spec := "fnExactFromSpdxId", inPlace := ["internal/bytealg.IndexByteString", "internal/bytealg.IndexString"], named := ["internal/bytealg.MaxLen"], apart := false, narrowed := true }
def FnExactFromSpdxIdUptoSaid : Prop := fnExactFromSpdxIdUptoRow.holds Try.pinned (OpenSpec.upto fnExactFromSpdxIdSpec)

/-- 'laws.FnExactPutIntegrity', WHERE WHAT IT READS IS OF BULK AT MOST 1048576: true; the input reads as it did. -/
def fnExactPutIntegrityUptoRow : OpenClaim := { program := "ytldfkdkppgammaa", sum := "f69c6b67e2ebd7ec1558a880ddc9cc25abb043281fe744d802abbcf1ab188a07", func := "loop.example/g00445/laws.FnExactPutIntegrity", spec := "fnExactPutIntegrity", inPlace := ["internal/abi.NoEscape", "internal/bytealg.MakeNoZero"], unfollowed := true, recurses := true, apart := false, narrowed := true }
def FnExactPutIntegrityUptoSaid : Prop := fnExactPutIntegrityUptoRow.holds Try.pinned (OpenSpec.upto fnExactPutIntegritySpec)

/-- 'laws.FnExactSameGraph', WHERE WHAT IT READS IS OF BULK AT MOST 1048576: true; the input reads as it did. -/
def fnExactSameGraphUptoRow : OpenClaim := { program := "ytldfkdkppgammaa", sum := "f69c6b67e2ebd7ec1558a880ddc9cc25abb043281fe744d802abbcf1ab188a07", func := "loop.example/g00445/laws.FnExactSameGraph", spec := "fnExactSameGraph", unfollowed := true, recurses := true, apart := false, narrowed := true }
def FnExactSameGraphUptoSaid : Prop := fnExactSameGraphUptoRow.holds Try.pinned (OpenSpec.upto fnExactSameGraphSpec)

/-- 'laws.FnExactNext', WHERE WHAT IT READS IS OF BULK AT MOST 1048576: true; the input reads as it did. -/
def fnExactNextUptoRow : OpenClaim := { program := "ytldfkdkppgammaa", sum := "f69c6b67e2ebd7ec1558a880ddc9cc25abb043281fe744d802abbcf1ab188a07", func := "loop.example/g00445/laws.FnExactNext", spec := "fnExactNext", unfollowed := true, recurses := true, apart := false, narrowed := true }
def FnExactNextUptoSaid : Prop := fnExactNextUptoRow.holds Try.pinned (OpenSpec.upto fnExactNextSpec)

/-- 'laws.FnExactPutPurl', WHERE WHAT IT READS IS OF BULK AT MOST 1048576: true; the input reads as it did. -/
def fnExactPutPurlUptoRow : OpenClaim := { program := "ytldfkdkppgammaa", sum := "f69c6b67e2ebd7ec1558a880ddc9cc25abb043281fe744d802abbcf1ab188a07", func := "loop.example/g00445/laws.FnExactPutPurl", spec := "fnExactPutPurl", inPlace := ["internal/bytealg.IndexByteString", "internal/bytealg.IndexString", "internal/abi.NoEscape", "internal/bytealg.MakeNoZero"], unfollowed := true, recurses := true, named := ["internal/bytealg.MaxLen"], apart := false, narrowed := true }
def FnExactPutPurlUptoSaid : Prop := fnExactPutPurlUptoRow.holds Try.pinned (OpenSpec.upto fnExactPutPurlSpec)

/-- 'laws.FnExactGetPurl', WHERE WHAT IT READS IS OF BULK AT MOST 1048576: true; the input reads as it did. -/
def fnExactGetPurlUptoRow : OpenClaim := { program := "ytldfkdkppgammaa", sum := "f69c6b67e2ebd7ec1558a880ddc9cc25abb043281fe744d802abbcf1ab188a07", func := "loop.example/g00445/laws.FnExactGetPurl", spec := "fnExactGetPurl", inPlace := ["internal/bytealg.IndexByteString", "internal/bytealg.IndexString", "internal/abi.NoEscape", "internal/bytealg.MakeNoZero"], unfollowed := true, recurses := true, named := ["internal/bytealg.MaxLen"], apart := false, narrowed := true }
def FnExactGetPurlUptoSaid : Prop := fnExactGetPurlUptoRow.holds Try.pinned (OpenSpec.upto fnExactGetPurlSpec)

end Rows
end Go.Proofs.Ytldfkdkppgammaa
