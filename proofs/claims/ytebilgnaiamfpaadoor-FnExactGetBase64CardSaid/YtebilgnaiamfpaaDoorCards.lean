/-
  DERIVED. GIVEN WITH THE SEED: THE CARDS: each row of YtebilgnaiamfpaaDoorRows.lean that lists a variable, with what it lists TIED to the program's text (the seventh form; the later family's looks); each row that meets fmt, with fmt's text TOLD by the authors' own Lean function (tested against real Go, not proved from fmt's source: count such statements apart). THE CARD IS WHAT COUNTS. Prove the row's statement (the work); the ties are given (YtebilgnaiamfpaaDoorTie.lean); close each card by the builder's one call (the guide's Derived/Test/ToyasCard.lean, 'card_holds'). Laid BY PROGRAM, IN A SANDBOX (cutbox-door.mjs). By AI agents, Wed Nov 11 2026. No macro, syntax, notation, axiom, sorry.
-/
import Derived.Test.YtebilgnaiamfpaaDoorRows
import GoSem.ClaimSeven
namespace Go.Proofs.YtebilgnaiamfpaaDoor
namespace Rows

/-- THE TIED CARD OF 'laws.FnExactDecText'. -/
def fnExactDecTextCard : Claim7 := { stood := { row := fnExactDecTextRow, standIns := [], harness := (true, "58f91933223b6993171ea0e1139bc999c750dd210588d6cf06e1b3f15fe345fd"), looks := false }, kinds := [], alts := [], laidByText := true, laidKinds := [.data, .data, .data], laidTests := true, laidLooks := .later }
def FnExactDecTextCardSaid : Prop := Claim7.holds Tryd.pinned (.plain (OpenSpec.ofChange fnExactDecTextSpec)) fnExactDecTextCard

/-- THE TIED CARD OF 'laws.FnExactGetBase64'. -/
def fnExactGetBase64Card : Claim7 := { stood := { row := fnExactGetBase64Row, standIns := [], harness := (true, "58f91933223b6993171ea0e1139bc999c750dd210588d6cf06e1b3f15fe345fd"), looks := false }, kinds := [], alts := [], laidByText := true, laidKinds := [.data, .pinned], laidTests := true, laidLooks := .later }
def FnExactGetBase64CardSaid : Prop := Claim7.holds Tryd.pinned (.plain (OpenSpec.ofChange fnExactGetBase64Spec)) fnExactGetBase64Card

/-- THE SECOND FORM's CARD OF 'laws.FnExactDecText'. -/
def fnExactDecTextUptoCard : Claim7 := { stood := { row := fnExactDecTextUptoRow, standIns := [], harness := (true, "58f91933223b6993171ea0e1139bc999c750dd210588d6cf06e1b3f15fe345fd"), looks := false }, kinds := [], alts := [], laidByText := true, laidKinds := [.data, .data, .data], laidTests := true, laidLooks := .later }
def FnExactDecTextUptoCardSaid : Prop := Claim7.holds Tryd.pinned (.plain (OpenSpec.upto fnExactDecTextSpec)) fnExactDecTextUptoCard

/-- THE SECOND FORM's CARD OF 'laws.FnExactGetBase64'. -/
def fnExactGetBase64UptoCard : Claim7 := { stood := { row := fnExactGetBase64UptoRow, standIns := [], harness := (true, "58f91933223b6993171ea0e1139bc999c750dd210588d6cf06e1b3f15fe345fd"), looks := false }, kinds := [], alts := [], laidByText := true, laidKinds := [.data, .pinned], laidTests := true, laidLooks := .later }
def FnExactGetBase64UptoCardSaid : Prop := Claim7.holds Tryd.pinned (.plain (OpenSpec.upto fnExactGetBase64Spec)) fnExactGetBase64UptoCard
end Rows
end Go.Proofs.YtebilgnaiamfpaaDoor
