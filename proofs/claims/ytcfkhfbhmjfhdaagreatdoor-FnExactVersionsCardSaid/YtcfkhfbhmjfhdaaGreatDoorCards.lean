/-
  DERIVED. GIVEN WITH THE SEED: THE CARDS: each row of YtcfkhfbhmjfhdaaGreatDoorRows.lean that lists a variable, with what it lists TIED to the program's text (the seventh form; the later family's looks); each row that meets fmt, with fmt's text TOLD by the authors' own Lean function (tested against real Go, not proved from fmt's source: count such statements apart). THE CARD IS WHAT COUNTS. Prove the row's statement (the work); the ties are given (YtcfkhfbhmjfhdaaGreatDoorTie.lean); close each card by the builder's one call (the guide's Derived/Test/ToyasCard.lean, 'card_holds'). Laid BY PROGRAM, IN A SANDBOX (cutbox-door.mjs). By AI agents, Wed Nov 11 2026. No macro, syntax, notation, axiom, sorry.
-/
import Derived.Test.YtcfkhfbhmjfhdaaGreatDoorRows
import GoSem.ClaimSeven
namespace Go.Proofs.YtcfkhfbhmjfhdaaGreatDoor
namespace Rows

/-- THE TIED CARD OF 'laws.FnExactGraphOk'. -/
def fnExactGraphOkCard : Claim7 := { stood := { row := fnExactGraphOkRow, standIns := [], harness := (true, "65581a945060c7321e3a1895977fd15518c9e570194feaf267d0e4dc59cf7935"), looks := true }, kinds := [], alts := [], laidByText := true, laidKinds := [.data, .data, .data], laidTests := true, laidLooks := .later }
def FnExactGraphOkCardSaid : Prop := Claim7.holds Tryz.pinned (.plain (OpenSpec.ofChange fnExactGraphOkSpec)) fnExactGraphOkCard

/-- THE TIED CARD OF 'laws.FnExactUsers'. -/
def fnExactUsersCard : Claim7 := { stood := { row := fnExactUsersRow, standIns := [], harness := (true, "65581a945060c7321e3a1895977fd15518c9e570194feaf267d0e4dc59cf7935"), looks := true }, kinds := [], alts := [], laidByText := true, laidKinds := [.data, .data, .data], laidTests := true, laidLooks := .later }
def FnExactUsersCardSaid : Prop := Claim7.holds Tryz.pinned (.plain (OpenSpec.ofChange fnExactUsersSpec)) fnExactUsersCard

/-- THE TIED CARD OF 'laws.FnExactVersions'. -/
def fnExactVersionsCard : Claim7 := { stood := { row := fnExactVersionsRow, standIns := [], harness := (true, "65581a945060c7321e3a1895977fd15518c9e570194feaf267d0e4dc59cf7935"), looks := true }, kinds := [], alts := [], laidByText := true, laidKinds := [.data, .data, .data], laidTests := true, laidLooks := .later }
def FnExactVersionsCardSaid : Prop := Claim7.holds Tryz.pinned (.plain (OpenSpec.ofChange fnExactVersionsSpec)) fnExactVersionsCard

/-- THE SECOND FORM's CARD OF 'laws.FnExactGraphOk'. -/
def fnExactGraphOkUptoCard : Claim7 := { stood := { row := fnExactGraphOkUptoRow, standIns := [], harness := (true, "65581a945060c7321e3a1895977fd15518c9e570194feaf267d0e4dc59cf7935"), looks := true }, kinds := [], alts := [], laidByText := true, laidKinds := [.data, .data, .data], laidTests := true, laidLooks := .later }
def FnExactGraphOkUptoCardSaid : Prop := Claim7.holds Tryz.pinned (.plain (OpenSpec.upto fnExactGraphOkSpec)) fnExactGraphOkUptoCard

/-- THE SECOND FORM's CARD OF 'laws.FnExactUsers'. -/
def fnExactUsersUptoCard : Claim7 := { stood := { row := fnExactUsersUptoRow, standIns := [], harness := (true, "65581a945060c7321e3a1895977fd15518c9e570194feaf267d0e4dc59cf7935"), looks := true }, kinds := [], alts := [], laidByText := true, laidKinds := [.data, .data, .data], laidTests := true, laidLooks := .later }
def FnExactUsersUptoCardSaid : Prop := Claim7.holds Tryz.pinned (.plain (OpenSpec.upto fnExactUsersSpec)) fnExactUsersUptoCard

/-- THE SECOND FORM's CARD OF 'laws.FnExactVersions'. -/
def fnExactVersionsUptoCard : Claim7 := { stood := { row := fnExactVersionsUptoRow, standIns := [], harness := (true, "65581a945060c7321e3a1895977fd15518c9e570194feaf267d0e4dc59cf7935"), looks := true }, kinds := [], alts := [], laidByText := true, laidKinds := [.data, .data, .data], laidTests := true, laidLooks := .later }
def FnExactVersionsUptoCardSaid : Prop := Claim7.holds Tryz.pinned (.plain (OpenSpec.upto fnExactVersionsSpec)) fnExactVersionsUptoCard
end Rows
end Go.Proofs.YtcfkhfbhmjfhdaaGreatDoor
