/-
  No cell of these rows narrows 'for every input' (looked for: loops, veiled, ifaces, maps, wideKeys, modest, calm, conditions, laid).
  DERIVED. THE GIVEN ROWS OF THIS SEAT. 10 by the template 'for every input the law returns true; each argument reads behind the call as it read before'; 0 by the template 'total and deterministic' (their statements: YtebilgnaiamfpaaTotals.lean).
  GIVEN WITH THE SEED: the statements are not yours to turn. If you find one false, say at which input.
  Laid BY PROGRAM, IN A SANDBOX (cutbox-rows.mjs): the forced cells as the released guide's own fill.sh prints them over the translation 053248b8d703ab41… (all of the seat's roots in one cut). By AI agents, Wed Nov 11 2026. No macro, syntax, notation, axiom, sorry.
-/
import Derived.Test.YtebilgnaiamfpaaChecked
import GoSem.Claim
import GoSem.ClaimJoined
import GoSem.ClaimMapViews
import Derived.JoinedTies
import Derived.KernelRfl
namespace Go.Proofs.Ytebilgnaiamfpaa
/- THE CELL 'sum', in the pinned program and in every row, IS THE sha256 OF THE DUMP (.gsa) THAT YtebilgnaiamfpaaProg.lean LOADS. Nothing in Lean hashes anything: it is a label: what it is worth is what the hold of that sum in a sandbox is worth. -/
noncomputable def Try.pinned : Pinned := { name := "ytebilgnaiamfpaa", sum := "053248b8d703ab416d65660d862cfd12a07852dca19eb011ebdf19ff8a78b97a", checked := Try.checked }
namespace Rows
def none {H : Type} : Left H := { results := [], args := [] }

/-- 'laws.FnExactNameOk': WHATEVER THE INPUT: true; the input reads as it did. -/
def fnExactNameOkSpec : ChangeSpec := { name := "fnExactNameOk", fn := fun _ => fun
  | [d] => { results := [.lit (.bool true)], args := [d] }
  | _ => none }
def fnExactNameOkRow : OpenClaim := { program := "ytebilgnaiamfpaa", sum := "053248b8d703ab416d65660d862cfd12a07852dca19eb011ebdf19ff8a78b97a", func := "loop.example/g00445/laws.FnExactNameOk", spec := "fnExactNameOk", unfollowed := true, recurses := true, apart := false }
def FnExactNameOkSaid : Prop := fnExactNameOkRow.holds Try.pinned (OpenSpec.ofChange fnExactNameOkSpec)

/-- ITS FALSE NEIGHBOUR: 'it returns false'. Refute it at one input. -/
def fnExactNameOkWrong : ChangeSpec := { name := "fnExactNameOk", fn := fun _ => fun
  | [d] => { results := [.lit (.bool false)], args := [d] }
  | _ => none }
def FnExactNameOkWrongFalsely : Prop := fnExactNameOkRow.holds Try.pinned (OpenSpec.ofChange fnExactNameOkWrong)

/-- 'laws.FnExactPlainOk': WHATEVER THE INPUT: true; the input reads as it did. -/
def fnExactPlainOkSpec : ChangeSpec := { name := "fnExactPlainOk", fn := fun _ => fun
  | [d] => { results := [.lit (.bool true)], args := [d] }
  | _ => none }
def fnExactPlainOkRow : OpenClaim := { program := "ytebilgnaiamfpaa", sum := "053248b8d703ab416d65660d862cfd12a07852dca19eb011ebdf19ff8a78b97a", func := "loop.example/g00445/laws.FnExactPlainOk", spec := "fnExactPlainOk", apart := false }
def FnExactPlainOkSaid : Prop := fnExactPlainOkRow.holds Try.pinned (OpenSpec.ofChange fnExactPlainOkSpec)

/-- ITS FALSE NEIGHBOUR: 'it returns false'. Refute it at one input. -/
def fnExactPlainOkWrong : ChangeSpec := { name := "fnExactPlainOk", fn := fun _ => fun
  | [d] => { results := [.lit (.bool false)], args := [d] }
  | _ => none }
def FnExactPlainOkWrongFalsely : Prop := fnExactPlainOkRow.holds Try.pinned (OpenSpec.ofChange fnExactPlainOkWrong)

/-- 'laws.FnExactReadDec': WHATEVER THE INPUT: true; the input reads as it did. -/
def fnExactReadDecSpec : ChangeSpec := { name := "fnExactReadDec", fn := fun _ => fun
  | [d] => { results := [.lit (.bool true)], args := [d] }
  | _ => none }
def fnExactReadDecRow : OpenClaim := { program := "ytebilgnaiamfpaa", sum := "053248b8d703ab416d65660d862cfd12a07852dca19eb011ebdf19ff8a78b97a", func := "loop.example/g00445/laws.FnExactReadDec", spec := "fnExactReadDec", apart := false }
def FnExactReadDecSaid : Prop := fnExactReadDecRow.holds Try.pinned (OpenSpec.ofChange fnExactReadDecSpec)

/-- ITS FALSE NEIGHBOUR: 'it returns false'. Refute it at one input. -/
def fnExactReadDecWrong : ChangeSpec := { name := "fnExactReadDec", fn := fun _ => fun
  | [d] => { results := [.lit (.bool false)], args := [d] }
  | _ => none }
def FnExactReadDecWrongFalsely : Prop := fnExactReadDecRow.holds Try.pinned (OpenSpec.ofChange fnExactReadDecWrong)

/-- 'laws.FnExactWords': WHATEVER THE INPUT: true; the input reads as it did. -/
def fnExactWordsSpec : ChangeSpec := { name := "fnExactWords", fn := fun _ => fun
  | [d] => { results := [.lit (.bool true)], args := [d] }
  | _ => none }
def fnExactWordsRow : OpenClaim := { program := "ytebilgnaiamfpaa", sum := "053248b8d703ab416d65660d862cfd12a07852dca19eb011ebdf19ff8a78b97a", func := "loop.example/g00445/laws.FnExactWords", spec := "fnExactWords", unfollowed := true, recurses := true, apart := false }
def FnExactWordsSaid : Prop := fnExactWordsRow.holds Try.pinned (OpenSpec.ofChange fnExactWordsSpec)

/-- ITS FALSE NEIGHBOUR: 'it returns false'. Refute it at one input. -/
def fnExactWordsWrong : ChangeSpec := { name := "fnExactWords", fn := fun _ => fun
  | [d] => { results := [.lit (.bool false)], args := [d] }
  | _ => none }
def FnExactWordsWrongFalsely : Prop := fnExactWordsRow.holds Try.pinned (OpenSpec.ofChange fnExactWordsWrong)

/-- 'laws.FnExactLines': WHATEVER THE INPUT: true; the input reads as it did. -/
def fnExactLinesSpec : ChangeSpec := { name := "fnExactLines", fn := fun _ => fun
  | [d] => { results := [.lit (.bool true)], args := [d] }
  | _ => none }
def fnExactLinesRow : OpenClaim := { program := "ytebilgnaiamfpaa", sum := "053248b8d703ab416d65660d862cfd12a07852dca19eb011ebdf19ff8a78b97a", func := "loop.example/g00445/laws.FnExactLines", spec := "fnExactLines", unfollowed := true, recurses := true, apart := false }
def FnExactLinesSaid : Prop := fnExactLinesRow.holds Try.pinned (OpenSpec.ofChange fnExactLinesSpec)

/-- ITS FALSE NEIGHBOUR: 'it returns false'. Refute it at one input. -/
def fnExactLinesWrong : ChangeSpec := { name := "fnExactLines", fn := fun _ => fun
  | [d] => { results := [.lit (.bool false)], args := [d] }
  | _ => none }
def FnExactLinesWrongFalsely : Prop := fnExactLinesRow.holds Try.pinned (OpenSpec.ofChange fnExactLinesWrong)

/-- 'laws.FnExactIndent': WHATEVER THE INPUT: true; the input reads as it did. -/
def fnExactIndentSpec : ChangeSpec := { name := "fnExactIndent", fn := fun _ => fun
  | [d] => { results := [.lit (.bool true)], args := [d] }
  | _ => none }
def fnExactIndentRow : OpenClaim := { program := "ytebilgnaiamfpaa", sum := "053248b8d703ab416d65660d862cfd12a07852dca19eb011ebdf19ff8a78b97a", func := "loop.example/g00445/laws.FnExactIndent", spec := "fnExactIndent", apart := false }
def FnExactIndentSaid : Prop := fnExactIndentRow.holds Try.pinned (OpenSpec.ofChange fnExactIndentSpec)

/-- ITS FALSE NEIGHBOUR: 'it returns false'. Refute it at one input. -/
def fnExactIndentWrong : ChangeSpec := { name := "fnExactIndent", fn := fun _ => fun
  | [d] => { results := [.lit (.bool false)], args := [d] }
  | _ => none }
def FnExactIndentWrongFalsely : Prop := fnExactIndentRow.holds Try.pinned (OpenSpec.ofChange fnExactIndentWrong)

/-- 'laws.FnExactPutHex': WHATEVER THE INPUT: true; the input reads as it did. -/
def fnExactPutHexSpec : ChangeSpec := { name := "fnExactPutHex", fn := fun _ => fun
  | [d] => { results := [.lit (.bool true)], args := [d] }
  | _ => none }
def fnExactPutHexRow : OpenClaim := { program := "ytebilgnaiamfpaa", sum := "053248b8d703ab416d65660d862cfd12a07852dca19eb011ebdf19ff8a78b97a", func := "loop.example/g00445/laws.FnExactPutHex", spec := "fnExactPutHex", apart := false }
def FnExactPutHexSaid : Prop := fnExactPutHexRow.holds Try.pinned (OpenSpec.ofChange fnExactPutHexSpec)

/-- ITS FALSE NEIGHBOUR: 'it returns false'. Refute it at one input. -/
def fnExactPutHexWrong : ChangeSpec := { name := "fnExactPutHex", fn := fun _ => fun
  | [d] => { results := [.lit (.bool false)], args := [d] }
  | _ => none }
def FnExactPutHexWrongFalsely : Prop := fnExactPutHexRow.holds Try.pinned (OpenSpec.ofChange fnExactPutHexWrong)

/-- 'laws.FnExactGetHex': WHATEVER THE INPUT: true; the input reads as it did. -/
def fnExactGetHexSpec : ChangeSpec := { name := "fnExactGetHex", fn := fun _ => fun
  | [d] => { results := [.lit (.bool true)], args := [d] }
  | _ => none }
def fnExactGetHexRow : OpenClaim := { program := "ytebilgnaiamfpaa", sum := "053248b8d703ab416d65660d862cfd12a07852dca19eb011ebdf19ff8a78b97a", func := "loop.example/g00445/laws.FnExactGetHex", spec := "fnExactGetHex", inPlace := ["internal/bytealg.IndexByteString"], apart := false }
def FnExactGetHexSaid : Prop := fnExactGetHexRow.holds Try.pinned (OpenSpec.ofChange fnExactGetHexSpec)

/-- ITS FALSE NEIGHBOUR: 'it returns false'. Refute it at one input. -/
def fnExactGetHexWrong : ChangeSpec := { name := "fnExactGetHex", fn := fun _ => fun
  | [d] => { results := [.lit (.bool false)], args := [d] }
  | _ => none }
def FnExactGetHexWrongFalsely : Prop := fnExactGetHexRow.holds Try.pinned (OpenSpec.ofChange fnExactGetHexWrong)

/-- 'laws.FnExactPutBase64': WHATEVER THE INPUT: true; the input reads as it did. -/
def fnExactPutBase64Spec : ChangeSpec := { name := "fnExactPutBase64", fn := fun _ => fun
  | [d] => { results := [.lit (.bool true)], args := [d] }
  | _ => none }
def fnExactPutBase64Row : OpenClaim := { program := "ytebilgnaiamfpaa", sum := "053248b8d703ab416d65660d862cfd12a07852dca19eb011ebdf19ff8a78b97a", func := "loop.example/g00445/laws.FnExactPutBase64", spec := "fnExactPutBase64", unfollowed := true, recurses := true, apart := false }
def FnExactPutBase64Said : Prop := fnExactPutBase64Row.holds Try.pinned (OpenSpec.ofChange fnExactPutBase64Spec)

/-- ITS FALSE NEIGHBOUR: 'it returns false'. Refute it at one input. -/
def fnExactPutBase64Wrong : ChangeSpec := { name := "fnExactPutBase64", fn := fun _ => fun
  | [d] => { results := [.lit (.bool false)], args := [d] }
  | _ => none }
def FnExactPutBase64WrongFalsely : Prop := fnExactPutBase64Row.holds Try.pinned (OpenSpec.ofChange fnExactPutBase64Wrong)

/-- 'laws.FnExactPutPercent': WHATEVER THE INPUT: true; the input reads as it did. -/
def fnExactPutPercentSpec : ChangeSpec := { name := "fnExactPutPercent", fn := fun _ => fun
  | [d] => { results := [.lit (.bool true)], args := [d] }
  | _ => none }
def fnExactPutPercentRow : OpenClaim := { program := "ytebilgnaiamfpaa", sum := "053248b8d703ab416d65660d862cfd12a07852dca19eb011ebdf19ff8a78b97a", func := "loop.example/g00445/laws.FnExactPutPercent", spec := "fnExactPutPercent", apart := false }
def FnExactPutPercentSaid : Prop := fnExactPutPercentRow.holds Try.pinned (OpenSpec.ofChange fnExactPutPercentSpec)

/-- ITS FALSE NEIGHBOUR: 'it returns false'. Refute it at one input. -/
def fnExactPutPercentWrong : ChangeSpec := { name := "fnExactPutPercent", fn := fun _ => fun
  | [d] => { results := [.lit (.bool false)], args := [d] }
  | _ => none }
def FnExactPutPercentWrongFalsely : Prop := fnExactPutPercentRow.holds Try.pinned (OpenSpec.ofChange fnExactPutPercentWrong)

/- THE SECOND FORM. 'bulk': how many values and letters a reading holds, each counted each time it is reached (what is shared counts as often as it is met; a slice's spare places count too). A statement '..UptoSaid' is the law's where the arguments, and the package variables that the reading takes, are together of bulk at most 1048576: NARROWER than '..Said'. Prove '..Said' where nothing that the law and all that it calls make is longer than what came in: it says more and counts as full. Else prove '..UptoSaid'. A law counts once. -/
mutual
def uptoBulk {H : Type} : DataW H → Nat
  | .lit (.string bytes) => bytes.length + 1
  | .lit _ => 1
  | .nil => 1
  | .ptr d => uptoBulk d + 1
  | .slice elems spare => uptoBulkAll elems + uptoBulkAll spare + 1
  | .agg parts => uptoBulkAll parts + 1
  | .iface _ d => uptoBulk d + 1
  | .map entries => uptoBulkEntries entries + 1
  | .held _ => 1
def uptoBulkAll {H : Type} : List (DataW H) → Nat
  | [] => 0
  | d :: r => uptoBulk d + uptoBulkAll r
def uptoBulkEntries {H : Type} : List (Lit × DataW H) → Nat
  | [] => 0
  | x :: r => uptoBulkEntry x + uptoBulkEntries r
def uptoBulkEntry {H : Type} : Lit × DataW H → Nat
  | (.string bytes, d) => bytes.length + uptoBulk d + 1
  | (_, d) => uptoBulk d + 1
 end
def uptoSmall : (H : Type) → List (DataW H) → Bool := fun _ ds => decide (uptoBulkAll ds ≤ 1048576)
def OpenSpec.upto (s : _root_.Go.ChangeSpec) : _root_.Go.OpenSpec := { _root_.Go.OpenSpec.ofChange s with cond := some uptoSmall }

/-- 'laws.FnExactNameOk', WHERE WHAT IT READS IS OF BULK AT MOST 1048576: true; the input reads as it did. -/
def fnExactNameOkUptoRow : OpenClaim := { program := "ytebilgnaiamfpaa", sum := "053248b8d703ab416d65660d862cfd12a07852dca19eb011ebdf19ff8a78b97a", func := "loop.example/g00445/laws.FnExactNameOk", spec := "fnExactNameOk", unfollowed := true, recurses := true, apart := false, narrowed := true }
def FnExactNameOkUptoSaid : Prop := fnExactNameOkUptoRow.holds Try.pinned (OpenSpec.upto fnExactNameOkSpec)

/-- 'laws.FnExactPlainOk', WHERE WHAT IT READS IS OF BULK AT MOST 1048576: true; the input reads as it did. -/
def fnExactPlainOkUptoRow : OpenClaim := { program := "ytebilgnaiamfpaa", sum := "053248b8d703ab416d65660d862cfd12a07852dca19eb011ebdf19ff8a78b97a", func := "loop.example/g00445/laws.FnExactPlainOk", spec := "fnExactPlainOk", apart := false, narrowed := true }
def FnExactPlainOkUptoSaid : Prop := fnExactPlainOkUptoRow.holds Try.pinned (OpenSpec.upto fnExactPlainOkSpec)

/-- 'laws.FnExactReadDec', WHERE WHAT IT READS IS OF BULK AT MOST 1048576: true; the input reads as it did. -/
def fnExactReadDecUptoRow : OpenClaim := { program := "ytebilgnaiamfpaa", sum := "053248b8d703ab416d65660d862cfd12a07852dca19eb011ebdf19ff8a78b97a", func := "loop.example/g00445/laws.FnExactReadDec", spec := "fnExactReadDec", apart := false, narrowed := true }
def FnExactReadDecUptoSaid : Prop := fnExactReadDecUptoRow.holds Try.pinned (OpenSpec.upto fnExactReadDecSpec)

/-- 'laws.FnExactWords', WHERE WHAT IT READS IS OF BULK AT MOST 1048576: true; the input reads as it did. -/
def fnExactWordsUptoRow : OpenClaim := { program := "ytebilgnaiamfpaa", sum := "053248b8d703ab416d65660d862cfd12a07852dca19eb011ebdf19ff8a78b97a", func := "loop.example/g00445/laws.FnExactWords", spec := "fnExactWords", unfollowed := true, recurses := true, apart := false, narrowed := true }
def FnExactWordsUptoSaid : Prop := fnExactWordsUptoRow.holds Try.pinned (OpenSpec.upto fnExactWordsSpec)

/-- 'laws.FnExactLines', WHERE WHAT IT READS IS OF BULK AT MOST 1048576: true; the input reads as it did. -/
def fnExactLinesUptoRow : OpenClaim := { program := "ytebilgnaiamfpaa", sum := "053248b8d703ab416d65660d862cfd12a07852dca19eb011ebdf19ff8a78b97a", func := "loop.example/g00445/laws.FnExactLines", spec := "fnExactLines", unfollowed := true, recurses := true, apart := false, narrowed := true }
def FnExactLinesUptoSaid : Prop := fnExactLinesUptoRow.holds Try.pinned (OpenSpec.upto fnExactLinesSpec)

/-- 'laws.FnExactIndent', WHERE WHAT IT READS IS OF BULK AT MOST 1048576: true; the input reads as it did. -/
def fnExactIndentUptoRow : OpenClaim := { program := "ytebilgnaiamfpaa", sum := "053248b8d703ab416d65660d862cfd12a07852dca19eb011ebdf19ff8a78b97a", func := "loop.example/g00445/laws.FnExactIndent", spec := "fnExactIndent", apart := false, narrowed := true }
def FnExactIndentUptoSaid : Prop := fnExactIndentUptoRow.holds Try.pinned (OpenSpec.upto fnExactIndentSpec)

/-- 'laws.FnExactPutHex', WHERE WHAT IT READS IS OF BULK AT MOST 1048576: true; the input reads as it did. -/
def fnExactPutHexUptoRow : OpenClaim := { program := "ytebilgnaiamfpaa", sum := "053248b8d703ab416d65660d862cfd12a07852dca19eb011ebdf19ff8a78b97a", func := "loop.example/g00445/laws.FnExactPutHex", spec := "fnExactPutHex", apart := false, narrowed := true }
def FnExactPutHexUptoSaid : Prop := fnExactPutHexUptoRow.holds Try.pinned (OpenSpec.upto fnExactPutHexSpec)

/-- 'laws.FnExactGetHex', WHERE WHAT IT READS IS OF BULK AT MOST 1048576: true; the input reads as it did. -/
def fnExactGetHexUptoRow : OpenClaim := { program := "ytebilgnaiamfpaa", sum := "053248b8d703ab416d65660d862cfd12a07852dca19eb011ebdf19ff8a78b97a", func := "loop.example/g00445/laws.FnExactGetHex", spec := "fnExactGetHex", inPlace := ["internal/bytealg.IndexByteString"], apart := false, narrowed := true }
def FnExactGetHexUptoSaid : Prop := fnExactGetHexUptoRow.holds Try.pinned (OpenSpec.upto fnExactGetHexSpec)

/-- 'laws.FnExactPutBase64', WHERE WHAT IT READS IS OF BULK AT MOST 1048576: true; the input reads as it did. -/
def fnExactPutBase64UptoRow : OpenClaim := { program := "ytebilgnaiamfpaa", sum := "053248b8d703ab416d65660d862cfd12a07852dca19eb011ebdf19ff8a78b97a", func := "loop.example/g00445/laws.FnExactPutBase64", spec := "fnExactPutBase64", unfollowed := true, recurses := true, apart := false, narrowed := true }
def FnExactPutBase64UptoSaid : Prop := fnExactPutBase64UptoRow.holds Try.pinned (OpenSpec.upto fnExactPutBase64Spec)

/-- 'laws.FnExactPutPercent', WHERE WHAT IT READS IS OF BULK AT MOST 1048576: true; the input reads as it did. -/
def fnExactPutPercentUptoRow : OpenClaim := { program := "ytebilgnaiamfpaa", sum := "053248b8d703ab416d65660d862cfd12a07852dca19eb011ebdf19ff8a78b97a", func := "loop.example/g00445/laws.FnExactPutPercent", spec := "fnExactPutPercent", apart := false, narrowed := true }
def FnExactPutPercentUptoSaid : Prop := fnExactPutPercentUptoRow.holds Try.pinned (OpenSpec.upto fnExactPutPercentSpec)

end Rows
end Go.Proofs.Ytebilgnaiamfpaa
