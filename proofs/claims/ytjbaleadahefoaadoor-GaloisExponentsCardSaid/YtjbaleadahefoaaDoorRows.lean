/-
  NARROWER THAN 'FOR EVERY INPUT', by the rows' own cells (each row's printed sentence says how): GaloisMakes: laid · GaloisCalculates: laid · GaloisPowers: laid · GaloisLogs: laid · GaloisField: laid · GaloisExponents: laid · GaloisLogarithms: laid.
  DERIVED. THE GIVEN ROWS OF THIS SEAT. 7 by the template 'for every input the law returns true; each argument reads behind the call as it read before'; 0 by the template 'total and deterministic' (their statements: YtjbaleadahefoaaDoorTotals.lean).
  GIVEN WITH THE SEED: the statements are not yours to turn. If you find one false, say at which input.
  Laid BY PROGRAM, IN A SANDBOX (cutbox-rows.mjs): the forced cells as the released guide's own fill.sh prints them over the translation a31d1b8c76a9efd6… (all of the seat's roots in one cut). By AI agents, Wed Nov 11 2026. No macro, syntax, notation, axiom, sorry.
-/
import Derived.Test.YtjbaleadahefoaaDoorChecked
import GoSem.Claim
import GoSem.ClaimJoined
import GoSem.ClaimMapViews
import Derived.JoinedTies
import Derived.KernelRfl
namespace Go.Proofs.YtjbaleadahefoaaDoor
/- THE CELL 'sum', in the pinned program and in every row, IS THE sha256 OF THE DUMP (.gsa) THAT YtjbaleadahefoaaDoorProg.lean LOADS. Nothing in Lean hashes anything: it is a label: what it is worth is what the hold of that sum in a sandbox is worth. -/
noncomputable def Tryd.pinned : Pinned := { name := "ytjbaleadahefoaadoor", sum := "a31d1b8c76a9efd604477cdc7ce24107cb93b51f047bfe1b2adf9a1035363547", checked := Tryd.checked }
namespace Rows
def none {H : Type} : Left H := { results := [], args := [] }

/- WHAT THE LISTED PACKAGE-LEVEL VARIABLES READ AS WHEN THE CALL BEGINS. Each datum BY PROGRAM (the guide's laid-datum.mjs) off the statement by which the dump's own 'gosem.cut.vars' lays the variable. In a bare row this is a premise. The card (YtjbaleadahefoaaDoorCards.lean) ties it to the program's text. -/
def laid_barscan_galois_smallIrreducibles {H : Type} : DataW H := .agg [.lit (.int .i64 2), .lit (.int .i64 3), .lit (.int .i64 7), .lit (.int .i64 11), .lit (.int .i64 13), .lit (.int .i64 19), .lit (.int .i64 25), .lit (.int .i64 31), .lit (.int .i64 37), .lit (.int .i64 41), .lit (.int .i64 47), .lit (.int .i64 55), .lit (.int .i64 59), .lit (.int .i64 61), .lit (.int .i64 67), .lit (.int .i64 73), .lit (.int .i64 87), .lit (.int .i64 91), .lit (.int .i64 97), .lit (.int .i64 103), .lit (.int .i64 109), .lit (.int .i64 115), .lit (.int .i64 117)]
def laid_barscan_galois_smallPrimes {H : Type} : DataW H := .agg [.lit (.int .i64 2), .lit (.int .i64 3), .lit (.int .i64 5), .lit (.int .i64 7), .lit (.int .i64 11), .lit (.int .i64 13), .lit (.int .i64 17), .lit (.int .i64 19), .lit (.int .i64 23), .lit (.int .i64 29), .lit (.int .i64 31), .lit (.int .i64 37), .lit (.int .i64 41), .lit (.int .i64 43), .lit (.int .i64 47), .lit (.int .i64 53), .lit (.int .i64 59), .lit (.int .i64 61)]

/-- 'barscanlaw04.GaloisMakes': WHATEVER THE INPUT: true; the input reads as it did. -/
def galoisMakesSpec : ChangeSpec := { name := "galoisMakes", fn := fun _ => fun
  | [d1, d2, d3] => { results := [.lit (.bool true)], args := [d1, d2, d3] }
  | _ => none }
def galoisMakesRow : OpenClaim := { program := "ytjbaleadahefoaadoor", sum := "a31d1b8c76a9efd604477cdc7ce24107cb93b51f047bfe1b2adf9a1035363547", func := "barscan/barscanlaw04.GaloisMakes", spec := "galoisMakes", named := ["barscan/galois.smallIrreducibles", "barscan/galois.smallPrimes"], plainKeys := false, apart := false, laid := [("barscan/galois.smallIrreducibles", laid_barscan_galois_smallIrreducibles), ("barscan/galois.smallPrimes", laid_barscan_galois_smallPrimes)] }
def GaloisMakesSaid : Prop := galoisMakesRow.holds Tryd.pinned (OpenSpec.ofChange galoisMakesSpec)

/-- ITS FALSE NEIGHBOUR: 'it returns false'. Refute it at one input. -/
def galoisMakesWrong : ChangeSpec := { name := "galoisMakes", fn := fun _ => fun
  | [d1, d2, d3] => { results := [.lit (.bool false)], args := [d1, d2, d3] }
  | _ => none }
def GaloisMakesWrongFalsely : Prop := galoisMakesRow.holds Tryd.pinned (OpenSpec.ofChange galoisMakesWrong)

/-- 'barscanlaw04.GaloisCalculates': WHATEVER THE INPUT: true; the input reads as it did. -/
def galoisCalculatesSpec : ChangeSpec := { name := "galoisCalculates", fn := fun _ => fun
  | [d] => { results := [.lit (.bool true)], args := [d] }
  | _ => none }
def galoisCalculatesRow : OpenClaim := { program := "ytjbaleadahefoaadoor", sum := "a31d1b8c76a9efd604477cdc7ce24107cb93b51f047bfe1b2adf9a1035363547", func := "barscan/barscanlaw04.GaloisCalculates", spec := "galoisCalculates", named := ["barscan/galois.smallIrreducibles", "barscan/galois.smallPrimes"], plainKeys := false, apart := false, laid := [("barscan/galois.smallIrreducibles", laid_barscan_galois_smallIrreducibles), ("barscan/galois.smallPrimes", laid_barscan_galois_smallPrimes)] }
def GaloisCalculatesSaid : Prop := galoisCalculatesRow.holds Tryd.pinned (OpenSpec.ofChange galoisCalculatesSpec)

/-- ITS FALSE NEIGHBOUR: 'it returns false'. Refute it at one input. -/
def galoisCalculatesWrong : ChangeSpec := { name := "galoisCalculates", fn := fun _ => fun
  | [d] => { results := [.lit (.bool false)], args := [d] }
  | _ => none }
def GaloisCalculatesWrongFalsely : Prop := galoisCalculatesRow.holds Tryd.pinned (OpenSpec.ofChange galoisCalculatesWrong)

/-- 'barscanlaw04.GaloisPowers': WHATEVER THE INPUT: true; the input reads as it did. -/
def galoisPowersSpec : ChangeSpec := { name := "galoisPowers", fn := fun _ => fun
  | [d] => { results := [.lit (.bool true)], args := [d] }
  | _ => none }
def galoisPowersRow : OpenClaim := { program := "ytjbaleadahefoaadoor", sum := "a31d1b8c76a9efd604477cdc7ce24107cb93b51f047bfe1b2adf9a1035363547", func := "barscan/barscanlaw04.GaloisPowers", spec := "galoisPowers", named := ["barscan/galois.smallIrreducibles", "barscan/galois.smallPrimes"], plainKeys := false, apart := false, laid := [("barscan/galois.smallIrreducibles", laid_barscan_galois_smallIrreducibles), ("barscan/galois.smallPrimes", laid_barscan_galois_smallPrimes)] }
def GaloisPowersSaid : Prop := galoisPowersRow.holds Tryd.pinned (OpenSpec.ofChange galoisPowersSpec)

/-- ITS FALSE NEIGHBOUR: 'it returns false'. Refute it at one input. -/
def galoisPowersWrong : ChangeSpec := { name := "galoisPowers", fn := fun _ => fun
  | [d] => { results := [.lit (.bool false)], args := [d] }
  | _ => none }
def GaloisPowersWrongFalsely : Prop := galoisPowersRow.holds Tryd.pinned (OpenSpec.ofChange galoisPowersWrong)

/-- 'barscanlaw04.GaloisLogs': WHATEVER THE INPUT: true; the input reads as it did. -/
def galoisLogsSpec : ChangeSpec := { name := "galoisLogs", fn := fun _ => fun
  | [d] => { results := [.lit (.bool true)], args := [d] }
  | _ => none }
def galoisLogsRow : OpenClaim := { program := "ytjbaleadahefoaadoor", sum := "a31d1b8c76a9efd604477cdc7ce24107cb93b51f047bfe1b2adf9a1035363547", func := "barscan/barscanlaw04.GaloisLogs", spec := "galoisLogs", named := ["barscan/galois.smallIrreducibles", "barscan/galois.smallPrimes"], plainKeys := false, apart := false, laid := [("barscan/galois.smallIrreducibles", laid_barscan_galois_smallIrreducibles), ("barscan/galois.smallPrimes", laid_barscan_galois_smallPrimes)] }
def GaloisLogsSaid : Prop := galoisLogsRow.holds Tryd.pinned (OpenSpec.ofChange galoisLogsSpec)

/-- ITS FALSE NEIGHBOUR: 'it returns false'. Refute it at one input. -/
def galoisLogsWrong : ChangeSpec := { name := "galoisLogs", fn := fun _ => fun
  | [d] => { results := [.lit (.bool false)], args := [d] }
  | _ => none }
def GaloisLogsWrongFalsely : Prop := galoisLogsRow.holds Tryd.pinned (OpenSpec.ofChange galoisLogsWrong)

/-- 'barscanlaw04.GaloisField': WHATEVER THE INPUT: true; the input reads as it did. -/
def galoisFieldSpec : ChangeSpec := { name := "galoisField", fn := fun _ => fun
  | [d1, d2, d3] => { results := [.lit (.bool true)], args := [d1, d2, d3] }
  | _ => none }
def galoisFieldRow : OpenClaim := { program := "ytjbaleadahefoaadoor", sum := "a31d1b8c76a9efd604477cdc7ce24107cb93b51f047bfe1b2adf9a1035363547", func := "barscan/barscanlaw04.GaloisField", spec := "galoisField", named := ["barscan/galois.smallIrreducibles", "barscan/galois.smallPrimes"], plainKeys := false, apart := false, laid := [("barscan/galois.smallIrreducibles", laid_barscan_galois_smallIrreducibles), ("barscan/galois.smallPrimes", laid_barscan_galois_smallPrimes)] }
def GaloisFieldSaid : Prop := galoisFieldRow.holds Tryd.pinned (OpenSpec.ofChange galoisFieldSpec)

/-- ITS FALSE NEIGHBOUR: 'it returns false'. Refute it at one input. -/
def galoisFieldWrong : ChangeSpec := { name := "galoisField", fn := fun _ => fun
  | [d1, d2, d3] => { results := [.lit (.bool false)], args := [d1, d2, d3] }
  | _ => none }
def GaloisFieldWrongFalsely : Prop := galoisFieldRow.holds Tryd.pinned (OpenSpec.ofChange galoisFieldWrong)

/-- 'barscanlaw04.GaloisExponents': WHATEVER THE INPUT: true; the input reads as it did. -/
def galoisExponentsSpec : ChangeSpec := { name := "galoisExponents", fn := fun _ => fun
  | [d1, d2] => { results := [.lit (.bool true)], args := [d1, d2] }
  | _ => none }
def galoisExponentsRow : OpenClaim := { program := "ytjbaleadahefoaadoor", sum := "a31d1b8c76a9efd604477cdc7ce24107cb93b51f047bfe1b2adf9a1035363547", func := "barscan/barscanlaw04.GaloisExponents", spec := "galoisExponents", named := ["barscan/galois.smallIrreducibles", "barscan/galois.smallPrimes"], plainKeys := false, apart := false, laid := [("barscan/galois.smallIrreducibles", laid_barscan_galois_smallIrreducibles), ("barscan/galois.smallPrimes", laid_barscan_galois_smallPrimes)] }
def GaloisExponentsSaid : Prop := galoisExponentsRow.holds Tryd.pinned (OpenSpec.ofChange galoisExponentsSpec)

/-- ITS FALSE NEIGHBOUR: 'it returns false'. Refute it at one input. -/
def galoisExponentsWrong : ChangeSpec := { name := "galoisExponents", fn := fun _ => fun
  | [d1, d2] => { results := [.lit (.bool false)], args := [d1, d2] }
  | _ => none }
def GaloisExponentsWrongFalsely : Prop := galoisExponentsRow.holds Tryd.pinned (OpenSpec.ofChange galoisExponentsWrong)

/-- 'barscanlaw04.GaloisLogarithms': WHATEVER THE INPUT: true; the input reads as it did. -/
def galoisLogarithmsSpec : ChangeSpec := { name := "galoisLogarithms", fn := fun _ => fun
  | [d] => { results := [.lit (.bool true)], args := [d] }
  | _ => none }
def galoisLogarithmsRow : OpenClaim := { program := "ytjbaleadahefoaadoor", sum := "a31d1b8c76a9efd604477cdc7ce24107cb93b51f047bfe1b2adf9a1035363547", func := "barscan/barscanlaw04.GaloisLogarithms", spec := "galoisLogarithms", named := ["barscan/galois.smallIrreducibles", "barscan/galois.smallPrimes"], plainKeys := false, apart := false, laid := [("barscan/galois.smallIrreducibles", laid_barscan_galois_smallIrreducibles), ("barscan/galois.smallPrimes", laid_barscan_galois_smallPrimes)] }
def GaloisLogarithmsSaid : Prop := galoisLogarithmsRow.holds Tryd.pinned (OpenSpec.ofChange galoisLogarithmsSpec)

/-- ITS FALSE NEIGHBOUR: 'it returns false'. Refute it at one input. -/
def galoisLogarithmsWrong : ChangeSpec := { name := "galoisLogarithms", fn := fun _ => fun
  | [d] => { results := [.lit (.bool false)], args := [d] }
  | _ => none }
def GaloisLogarithmsWrongFalsely : Prop := galoisLogarithmsRow.holds Tryd.pinned (OpenSpec.ofChange galoisLogarithmsWrong)

/- THE SECOND FORM. 'bulk': how many values and letters a reading holds, each counted each time it is reached (what is shared counts as often as it is met; a slice's spare places count too). A statement '..UptoSaid' is the law's where the arguments, and the package variables that the reading takes, are together of bulk at most 1048576: NARROWER than '..Said'. Prove '..Said' where nothing that the law and all that it calls make is longer than what came in: it says more and counts as full. Else prove '..UptoSaid'. A law counts once. -/
mutual
def uptoBulk {H : Type} : DataW H → Nat
  | .lit (.string bytes) => bytes.length + 1
  | .lit _ => 1
  | .nil => 1
  | .ptr d => uptoBulk d + 1
  | .slice elems spare => uptoBulkAll elems + uptoBulkAll spare + 1
  | .agg parts => uptoBulkAll parts + 1
  | .iface _ d => uptoBulk d + 1
  | .map entries => uptoBulkEntries entries + 1
  | .held _ => 1
def uptoBulkAll {H : Type} : List (DataW H) → Nat
  | [] => 0
  | d :: r => uptoBulk d + uptoBulkAll r
def uptoBulkEntries {H : Type} : List (Lit × DataW H) → Nat
  | [] => 0
  | x :: r => uptoBulkEntry x + uptoBulkEntries r
def uptoBulkEntry {H : Type} : Lit × DataW H → Nat
  | (.string bytes, d) => bytes.length + uptoBulk d + 1
  | (_, d) => uptoBulk d + 1
 end
def uptoSmall : (H : Type) → List (DataW H) → Bool := fun _ ds => decide (uptoBulkAll ds ≤ 1048576)
def OpenSpec.upto (s : _root_.Go.ChangeSpec) : _root_.Go.OpenSpec := { _root_.Go.OpenSpec.ofChange s with cond := some uptoSmall }

/-- 'barscanlaw04.GaloisMakes', WHERE WHAT IT READS IS OF BULK AT MOST 1048576: true; the input reads as it did. -/
def galoisMakesUptoRow : OpenClaim := { program := "ytjbaleadahefoaadoor", sum := "a31d1b8c76a9efd604477cdc7ce24107cb93b51f047bfe1b2adf9a1035363547", func := "barscan/barscanlaw04.GaloisMakes", spec := "galoisMakes", named := ["barscan/galois.smallIrreducibles", "barscan/galois.smallPrimes"], plainKeys := false, apart := false, laid := [("barscan/galois.smallIrreducibles", laid_barscan_galois_smallIrreducibles), ("barscan/galois.smallPrimes", laid_barscan_galois_smallPrimes)], narrowed := true }
def GaloisMakesUptoSaid : Prop := galoisMakesUptoRow.holds Tryd.pinned (OpenSpec.upto galoisMakesSpec)

/-- 'barscanlaw04.GaloisCalculates', WHERE WHAT IT READS IS OF BULK AT MOST 1048576: true; the input reads as it did. -/
def galoisCalculatesUptoRow : OpenClaim := { program := "ytjbaleadahefoaadoor", sum := "a31d1b8c76a9efd604477cdc7ce24107cb93b51f047bfe1b2adf9a1035363547", func := "barscan/barscanlaw04.GaloisCalculates", spec := "galoisCalculates", named := ["barscan/galois.smallIrreducibles", "barscan/galois.smallPrimes"], plainKeys := false, apart := false, laid := [("barscan/galois.smallIrreducibles", laid_barscan_galois_smallIrreducibles), ("barscan/galois.smallPrimes", laid_barscan_galois_smallPrimes)], narrowed := true }
def GaloisCalculatesUptoSaid : Prop := galoisCalculatesUptoRow.holds Tryd.pinned (OpenSpec.upto galoisCalculatesSpec)

/-- 'barscanlaw04.GaloisPowers', WHERE WHAT IT READS IS OF BULK AT MOST 1048576: true; the input reads as it did. -/
def galoisPowersUptoRow : OpenClaim := { program := "ytjbaleadahefoaadoor", sum := "a31d1b8c76a9efd604477cdc7ce24107cb93b51f047bfe1b2adf9a1035363547", func := "barscan/barscanlaw04.GaloisPowers", spec := "galoisPowers", named := ["barscan/galois.smallIrreducibles", "barscan/galois.smallPrimes"], plainKeys := false, apart := false, laid := [("barscan/galois.smallIrreducibles", laid_barscan_galois_smallIrreducibles), ("barscan/galois.smallPrimes", laid_barscan_galois_smallPrimes)], narrowed := true }
def GaloisPowersUptoSaid : Prop := galoisPowersUptoRow.holds Tryd.pinned (OpenSpec.upto galoisPowersSpec)

/-- 'barscanlaw04.GaloisLogs', WHERE WHAT IT READS IS OF BULK AT MOST 1048576: true; the input reads as it did. -/
def galoisLogsUptoRow : OpenClaim := { program := "ytjbaleadahefoaadoor", sum := "a31d1b8c76a9efd604477cdc7ce24107cb93b51f047bfe1b2adf9a1035363547", func := "barscan/barscanlaw04.GaloisLogs", spec := "galoisLogs", named := ["barscan/galois.smallIrreducibles", "barscan/galois.smallPrimes"], plainKeys := false, apart := false, laid := [("barscan/galois.smallIrreducibles", laid_barscan_galois_smallIrreducibles), ("barscan/galois.smallPrimes", laid_barscan_galois_smallPrimes)], narrowed := true }
def GaloisLogsUptoSaid : Prop := galoisLogsUptoRow.holds Tryd.pinned (OpenSpec.upto galoisLogsSpec)

/-- 'barscanlaw04.GaloisField', WHERE WHAT IT READS IS OF BULK AT MOST 1048576: true; the input reads as it did. -/
def galoisFieldUptoRow : OpenClaim := { program := "ytjbaleadahefoaadoor", sum := "a31d1b8c76a9efd604477cdc7ce24107cb93b51f047bfe1b2adf9a1035363547", func := "barscan/barscanlaw04.GaloisField", spec := "galoisField", named := ["barscan/galois.smallIrreducibles", "barscan/galois.smallPrimes"], plainKeys := false, apart := false, laid := [("barscan/galois.smallIrreducibles", laid_barscan_galois_smallIrreducibles), ("barscan/galois.smallPrimes", laid_barscan_galois_smallPrimes)], narrowed := true }
def GaloisFieldUptoSaid : Prop := galoisFieldUptoRow.holds Tryd.pinned (OpenSpec.upto galoisFieldSpec)

/-- 'barscanlaw04.GaloisExponents', WHERE WHAT IT READS IS OF BULK AT MOST 1048576: true; the input reads as it did. -/
def galoisExponentsUptoRow : OpenClaim := { program := "ytjbaleadahefoaadoor", sum := "a31d1b8c76a9efd604477cdc7ce24107cb93b51f047bfe1b2adf9a1035363547", func := "barscan/barscanlaw04.GaloisExponents", spec := "galoisExponents", named := ["barscan/galois.smallIrreducibles", "barscan/galois.smallPrimes"], plainKeys := false, apart := false, laid := [("barscan/galois.smallIrreducibles", laid_barscan_galois_smallIrreducibles), ("barscan/galois.smallPrimes", laid_barscan_galois_smallPrimes)], narrowed := true }
def GaloisExponentsUptoSaid : Prop := galoisExponentsUptoRow.holds Tryd.pinned (OpenSpec.upto galoisExponentsSpec)

/-- 'barscanlaw04.GaloisLogarithms', WHERE WHAT IT READS IS OF BULK AT MOST 1048576: true; the input reads as it did. -/
def galoisLogarithmsUptoRow : OpenClaim := { program := "ytjbaleadahefoaadoor", sum := "a31d1b8c76a9efd604477cdc7ce24107cb93b51f047bfe1b2adf9a1035363547", func := "barscan/barscanlaw04.GaloisLogarithms", spec := "galoisLogarithms", named := ["barscan/galois.smallIrreducibles", "barscan/galois.smallPrimes"], plainKeys := false, apart := false, laid := [("barscan/galois.smallIrreducibles", laid_barscan_galois_smallIrreducibles), ("barscan/galois.smallPrimes", laid_barscan_galois_smallPrimes)], narrowed := true }
def GaloisLogarithmsUptoSaid : Prop := galoisLogarithmsUptoRow.holds Tryd.pinned (OpenSpec.upto galoisLogarithmsSpec)

end Rows
end Go.Proofs.YtjbaleadahefoaaDoor
