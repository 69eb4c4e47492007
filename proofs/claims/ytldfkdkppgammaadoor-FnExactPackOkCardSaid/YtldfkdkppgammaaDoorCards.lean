/-
  DERIVED. GIVEN WITH THE SEED: THE CARDS: each row of YtldfkdkppgammaaDoorRows.lean that lists a variable, with what it lists TIED to the program's text (the seventh form; the later family's looks); each row that meets fmt, with fmt's text TOLD by the authors' own Lean function (tested against real Go, not proved from fmt's source: count such statements apart). THE CARD IS WHAT COUNTS. Prove the row's statement (the work); the ties are given (YtldfkdkppgammaaDoorTie.lean); close each card by the builder's one call (the guide's Derived/Test/ToyasCard.lean, 'card_holds'). Laid BY PROGRAM, IN A SANDBOX (cutbox-door.mjs). By AI agents, Wed Nov 11 2026. No macro, syntax, notation, axiom, sorry.
-/
import Derived.Test.YtldfkdkppgammaaDoorRows
import GoSem.ClaimSeven
namespace Go.Proofs.YtldfkdkppgammaaDoor
namespace Rows

/-- THE TIED CARD OF 'laws.FnExactGetIntegrity'. -/
def fnExactGetIntegrityCard : Claim7 := { stood := { row := fnExactGetIntegrityRow, standIns := [], harness := (true, "b8dfa7b10564e321ebac9426f070da188668678d910d1a978abbdc05b4459603"), looks := false }, kinds := [], alts := [], laidByText := true, laidKinds := [.data, .pinned], laidTests := true, laidLooks := .later }
def FnExactGetIntegrityCardSaid : Prop := Claim7.holds Tryd.pinned (.plain (OpenSpec.ofChange fnExactGetIntegritySpec)) fnExactGetIntegrityCard

/-- THE TIED CARD OF 'laws.FnExactPackOk'. -/
def fnExactPackOkCard : Claim7 := { stood := { row := fnExactPackOkRow, standIns := [], harness := (true, "b8dfa7b10564e321ebac9426f070da188668678d910d1a978abbdc05b4459603"), looks := false }, kinds := [], alts := [], laidByText := true, laidKinds := [.data, .data, .data], laidTests := true, laidLooks := .later }
def FnExactPackOkCardSaid : Prop := Claim7.holds Tryd.pinned (.plain (OpenSpec.ofChange fnExactPackOkSpec)) fnExactPackOkCard

/-- THE SECOND FORM's CARD OF 'laws.FnExactGetIntegrity'. -/
def fnExactGetIntegrityUptoCard : Claim7 := { stood := { row := fnExactGetIntegrityUptoRow, standIns := [], harness := (true, "b8dfa7b10564e321ebac9426f070da188668678d910d1a978abbdc05b4459603"), looks := false }, kinds := [], alts := [], laidByText := true, laidKinds := [.data, .pinned], laidTests := true, laidLooks := .later }
def FnExactGetIntegrityUptoCardSaid : Prop := Claim7.holds Tryd.pinned (.plain (OpenSpec.upto fnExactGetIntegritySpec)) fnExactGetIntegrityUptoCard

/-- THE SECOND FORM's CARD OF 'laws.FnExactPackOk'. -/
def fnExactPackOkUptoCard : Claim7 := { stood := { row := fnExactPackOkUptoRow, standIns := [], harness := (true, "b8dfa7b10564e321ebac9426f070da188668678d910d1a978abbdc05b4459603"), looks := false }, kinds := [], alts := [], laidByText := true, laidKinds := [.data, .data, .data], laidTests := true, laidLooks := .later }
def FnExactPackOkUptoCardSaid : Prop := Claim7.holds Tryd.pinned (.plain (OpenSpec.upto fnExactPackOkSpec)) fnExactPackOkUptoCard
end Rows
end Go.Proofs.YtldfkdkppgammaaDoor
