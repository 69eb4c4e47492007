/-
  DERIVED. GIVEN WITH THE SEED: THE CARDS: each row of YtcfkhfbhmjfhdaaDoorRows.lean that lists a variable, with what it lists TIED to the program's text (the seventh form; the later family's looks); each row that meets fmt, with fmt's text TOLD by the authors' own Lean function (tested against real Go, not proved from fmt's source: count such statements apart). THE CARD IS WHAT COUNTS. Prove the row's statement (the work); the ties are given (YtcfkhfbhmjfhdaaDoorTie.lean); close each card by the builder's one call (the guide's Derived/Test/ToyasCard.lean, 'card_holds'). Laid BY PROGRAM, IN A SANDBOX (cutbox-door.mjs). By AI agents, Wed Nov 11 2026. No macro, syntax, notation, axiom, sorry.
-/
import Derived.Test.YtcfkhfbhmjfhdaaDoorRows
import GoSem.ClaimSeven
namespace Go.Proofs.YtcfkhfbhmjfhdaaDoor
namespace Rows

/-- THE TIED CARD OF 'laws.FnExactExact'. -/
def fnExactExactCard : Claim7 := { stood := { row := fnExactExactRow, standIns := [], harness := (true, "c006a6b8d37e2a689edc245bba22e48ce37ae40c489be311c74cb51cf4d23d4f"), looks := false }, kinds := [], alts := [], laidByText := true, laidKinds := [.data, .data, .data], laidTests := true, laidLooks := .later }
def FnExactExactCardSaid : Prop := Claim7.holds Tryd.pinned (.plain (OpenSpec.ofChange fnExactExactSpec)) fnExactExactCard

/-- THE TIED CARD OF 'laws.FnExactGetIntegrity'. -/
def fnExactGetIntegrityCard : Claim7 := { stood := { row := fnExactGetIntegrityRow, standIns := [], harness := (true, "c006a6b8d37e2a689edc245bba22e48ce37ae40c489be311c74cb51cf4d23d4f"), looks := false }, kinds := [], alts := [], laidByText := true, laidKinds := [.data, .pinned], laidTests := true, laidLooks := .later }
def FnExactGetIntegrityCardSaid : Prop := Claim7.holds Tryd.pinned (.plain (OpenSpec.ofChange fnExactGetIntegritySpec)) fnExactGetIntegrityCard

/-- THE TIED CARD OF 'laws.FnExactPutTree'. -/
def fnExactPutTreeCard : Claim7 := { stood := { row := fnExactPutTreeRow, standIns := [], harness := (true, "c006a6b8d37e2a689edc245bba22e48ce37ae40c489be311c74cb51cf4d23d4f"), looks := false }, kinds := [], alts := [], laidByText := true, laidKinds := [.data, .data, .data, .data], laidTests := true, laidLooks := .later }
def FnExactPutTreeCardSaid : Prop := Claim7.holds Tryd.pinned (.plain (OpenSpec.ofChange fnExactPutTreeSpec)) fnExactPutTreeCard

/-- THE SECOND FORM's CARD OF 'laws.FnExactExact'. -/
def fnExactExactUptoCard : Claim7 := { stood := { row := fnExactExactUptoRow, standIns := [], harness := (true, "c006a6b8d37e2a689edc245bba22e48ce37ae40c489be311c74cb51cf4d23d4f"), looks := false }, kinds := [], alts := [], laidByText := true, laidKinds := [.data, .data, .data], laidTests := true, laidLooks := .later }
def FnExactExactUptoCardSaid : Prop := Claim7.holds Tryd.pinned (.plain (OpenSpec.upto fnExactExactSpec)) fnExactExactUptoCard

/-- THE SECOND FORM's CARD OF 'laws.FnExactGetIntegrity'. -/
def fnExactGetIntegrityUptoCard : Claim7 := { stood := { row := fnExactGetIntegrityUptoRow, standIns := [], harness := (true, "c006a6b8d37e2a689edc245bba22e48ce37ae40c489be311c74cb51cf4d23d4f"), looks := false }, kinds := [], alts := [], laidByText := true, laidKinds := [.data, .pinned], laidTests := true, laidLooks := .later }
def FnExactGetIntegrityUptoCardSaid : Prop := Claim7.holds Tryd.pinned (.plain (OpenSpec.upto fnExactGetIntegritySpec)) fnExactGetIntegrityUptoCard

/-- THE SECOND FORM's CARD OF 'laws.FnExactPutTree'. -/
def fnExactPutTreeUptoCard : Claim7 := { stood := { row := fnExactPutTreeUptoRow, standIns := [], harness := (true, "c006a6b8d37e2a689edc245bba22e48ce37ae40c489be311c74cb51cf4d23d4f"), looks := false }, kinds := [], alts := [], laidByText := true, laidKinds := [.data, .data, .data, .data], laidTests := true, laidLooks := .later }
def FnExactPutTreeUptoCardSaid : Prop := Claim7.holds Tryd.pinned (.plain (OpenSpec.upto fnExactPutTreeSpec)) fnExactPutTreeUptoCard
end Rows
end Go.Proofs.YtcfkhfbhmjfhdaaDoor
