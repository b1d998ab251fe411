/-
  DERIVED. GIVEN WITH THE SEED: THE CARDS: each row of YtjbaleadahefoaaDoorRows.lean that lists a variable, with what it lists TIED to the program's text (the seventh form; the later family's looks); each row that meets fmt, with fmt's text TOLD by the authors' own Lean function (tested against real Go, not proved from fmt's source: count such statements apart). THE CARD IS WHAT COUNTS. Prove the row's statement (the work); the ties are given (YtjbaleadahefoaaDoorTie.lean); close each card by the builder's one call (the guide's Derived/Test/ToyasCard.lean, 'card_holds'). Laid BY PROGRAM, IN A SANDBOX (cutbox-door.mjs). By AI agents, Wed Nov 11 2026. No macro, syntax, notation, axiom, sorry.
-/
import Derived.Test.YtjbaleadahefoaaDoorRows
import GoSem.ClaimSeven
namespace Go.Proofs.YtjbaleadahefoaaDoor
namespace Rows

/-- THE TIED CARD OF 'barscanlaw04.GaloisMakes'. -/
def galoisMakesCard : Claim7 := { stood := { row := galoisMakesRow, standIns := [], harness := (true, "5292564abcf8e001dfdaf2fb423d7596d554765290aa3202430b024d1ef0f18c"), looks := false }, kinds := [], alts := [], laidByText := true, laidKinds := [.data, .data], laidTests := true, laidLooks := .later }
def GaloisMakesCardSaid : Prop := Claim7.holds Tryd.pinned (.plain (OpenSpec.ofChange galoisMakesSpec)) galoisMakesCard

/-- THE TIED CARD OF 'barscanlaw04.GaloisCalculates'. -/
def galoisCalculatesCard : Claim7 := { stood := { row := galoisCalculatesRow, standIns := [], harness := (true, "5292564abcf8e001dfdaf2fb423d7596d554765290aa3202430b024d1ef0f18c"), looks := false }, kinds := [], alts := [], laidByText := true, laidKinds := [.data, .data], laidTests := true, laidLooks := .later }
def GaloisCalculatesCardSaid : Prop := Claim7.holds Tryd.pinned (.plain (OpenSpec.ofChange galoisCalculatesSpec)) galoisCalculatesCard

/-- THE TIED CARD OF 'barscanlaw04.GaloisPowers'. -/
def galoisPowersCard : Claim7 := { stood := { row := galoisPowersRow, standIns := [], harness := (true, "5292564abcf8e001dfdaf2fb423d7596d554765290aa3202430b024d1ef0f18c"), looks := false }, kinds := [], alts := [], laidByText := true, laidKinds := [.data, .data], laidTests := true, laidLooks := .later }
def GaloisPowersCardSaid : Prop := Claim7.holds Tryd.pinned (.plain (OpenSpec.ofChange galoisPowersSpec)) galoisPowersCard

/-- THE TIED CARD OF 'barscanlaw04.GaloisLogs'. -/
def galoisLogsCard : Claim7 := { stood := { row := galoisLogsRow, standIns := [], harness := (true, "5292564abcf8e001dfdaf2fb423d7596d554765290aa3202430b024d1ef0f18c"), looks := false }, kinds := [], alts := [], laidByText := true, laidKinds := [.data, .data], laidTests := true, laidLooks := .later }
def GaloisLogsCardSaid : Prop := Claim7.holds Tryd.pinned (.plain (OpenSpec.ofChange galoisLogsSpec)) galoisLogsCard

/-- THE TIED CARD OF 'barscanlaw04.GaloisField'. -/
def galoisFieldCard : Claim7 := { stood := { row := galoisFieldRow, standIns := [], harness := (true, "5292564abcf8e001dfdaf2fb423d7596d554765290aa3202430b024d1ef0f18c"), looks := false }, kinds := [], alts := [], laidByText := true, laidKinds := [.data, .data], laidTests := true, laidLooks := .later }
def GaloisFieldCardSaid : Prop := Claim7.holds Tryd.pinned (.plain (OpenSpec.ofChange galoisFieldSpec)) galoisFieldCard

/-- THE TIED CARD OF 'barscanlaw04.GaloisExponents'. -/
def galoisExponentsCard : Claim7 := { stood := { row := galoisExponentsRow, standIns := [], harness := (true, "5292564abcf8e001dfdaf2fb423d7596d554765290aa3202430b024d1ef0f18c"), looks := false }, kinds := [], alts := [], laidByText := true, laidKinds := [.data, .data], laidTests := true, laidLooks := .later }
def GaloisExponentsCardSaid : Prop := Claim7.holds Tryd.pinned (.plain (OpenSpec.ofChange galoisExponentsSpec)) galoisExponentsCard

/-- THE TIED CARD OF 'barscanlaw04.GaloisLogarithms'. -/
def galoisLogarithmsCard : Claim7 := { stood := { row := galoisLogarithmsRow, standIns := [], harness := (true, "5292564abcf8e001dfdaf2fb423d7596d554765290aa3202430b024d1ef0f18c"), looks := false }, kinds := [], alts := [], laidByText := true, laidKinds := [.data, .data], laidTests := true, laidLooks := .later }
def GaloisLogarithmsCardSaid : Prop := Claim7.holds Tryd.pinned (.plain (OpenSpec.ofChange galoisLogarithmsSpec)) galoisLogarithmsCard

/-- THE SECOND FORM's CARD OF 'barscanlaw04.GaloisMakes'. -/
def galoisMakesUptoCard : Claim7 := { stood := { row := galoisMakesUptoRow, standIns := [], harness := (true, "5292564abcf8e001dfdaf2fb423d7596d554765290aa3202430b024d1ef0f18c"), looks := false }, kinds := [], alts := [], laidByText := true, laidKinds := [.data, .data], laidTests := true, laidLooks := .later }
def GaloisMakesUptoCardSaid : Prop := Claim7.holds Tryd.pinned (.plain (OpenSpec.upto galoisMakesSpec)) galoisMakesUptoCard

/-- THE SECOND FORM's CARD OF 'barscanlaw04.GaloisCalculates'. -/
def galoisCalculatesUptoCard : Claim7 := { stood := { row := galoisCalculatesUptoRow, standIns := [], harness := (true, "5292564abcf8e001dfdaf2fb423d7596d554765290aa3202430b024d1ef0f18c"), looks := false }, kinds := [], alts := [], laidByText := true, laidKinds := [.data, .data], laidTests := true, laidLooks := .later }
def GaloisCalculatesUptoCardSaid : Prop := Claim7.holds Tryd.pinned (.plain (OpenSpec.upto galoisCalculatesSpec)) galoisCalculatesUptoCard

/-- THE SECOND FORM's CARD OF 'barscanlaw04.GaloisPowers'. -/
def galoisPowersUptoCard : Claim7 := { stood := { row := galoisPowersUptoRow, standIns := [], harness := (true, "5292564abcf8e001dfdaf2fb423d7596d554765290aa3202430b024d1ef0f18c"), looks := false }, kinds := [], alts := [], laidByText := true, laidKinds := [.data, .data], laidTests := true, laidLooks := .later }
def GaloisPowersUptoCardSaid : Prop := Claim7.holds Tryd.pinned (.plain (OpenSpec.upto galoisPowersSpec)) galoisPowersUptoCard

/-- THE SECOND FORM's CARD OF 'barscanlaw04.GaloisLogs'. -/
def galoisLogsUptoCard : Claim7 := { stood := { row := galoisLogsUptoRow, standIns := [], harness := (true, "5292564abcf8e001dfdaf2fb423d7596d554765290aa3202430b024d1ef0f18c"), looks := false }, kinds := [], alts := [], laidByText := true, laidKinds := [.data, .data], laidTests := true, laidLooks := .later }
def GaloisLogsUptoCardSaid : Prop := Claim7.holds Tryd.pinned (.plain (OpenSpec.upto galoisLogsSpec)) galoisLogsUptoCard

/-- THE SECOND FORM's CARD OF 'barscanlaw04.GaloisField'. -/
def galoisFieldUptoCard : Claim7 := { stood := { row := galoisFieldUptoRow, standIns := [], harness := (true, "5292564abcf8e001dfdaf2fb423d7596d554765290aa3202430b024d1ef0f18c"), looks := false }, kinds := [], alts := [], laidByText := true, laidKinds := [.data, .data], laidTests := true, laidLooks := .later }
def GaloisFieldUptoCardSaid : Prop := Claim7.holds Tryd.pinned (.plain (OpenSpec.upto galoisFieldSpec)) galoisFieldUptoCard

/-- THE SECOND FORM's CARD OF 'barscanlaw04.GaloisExponents'. -/
def galoisExponentsUptoCard : Claim7 := { stood := { row := galoisExponentsUptoRow, standIns := [], harness := (true, "5292564abcf8e001dfdaf2fb423d7596d554765290aa3202430b024d1ef0f18c"), looks := false }, kinds := [], alts := [], laidByText := true, laidKinds := [.data, .data], laidTests := true, laidLooks := .later }
def GaloisExponentsUptoCardSaid : Prop := Claim7.holds Tryd.pinned (.plain (OpenSpec.upto galoisExponentsSpec)) galoisExponentsUptoCard

/-- THE SECOND FORM's CARD OF 'barscanlaw04.GaloisLogarithms'. -/
def galoisLogarithmsUptoCard : Claim7 := { stood := { row := galoisLogarithmsUptoRow, standIns := [], harness := (true, "5292564abcf8e001dfdaf2fb423d7596d554765290aa3202430b024d1ef0f18c"), looks := false }, kinds := [], alts := [], laidByText := true, laidKinds := [.data, .data], laidTests := true, laidLooks := .later }
def GaloisLogarithmsUptoCardSaid : Prop := Claim7.holds Tryd.pinned (.plain (OpenSpec.upto galoisLogarithmsSpec)) galoisLogarithmsUptoCard
end Rows
end Go.Proofs.YtjbaleadahefoaaDoor
