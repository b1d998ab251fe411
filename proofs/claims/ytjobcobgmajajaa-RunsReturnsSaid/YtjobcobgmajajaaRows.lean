/-
  No cell of these rows narrows 'for every input' (looked for: loops, veiled, ifaces, maps, wideKeys, modest, calm, conditions, laid).
  DERIVED. THE GIVEN ROWS OF THIS SEAT. 6 by the template 'for every input the law returns true; each argument reads behind the call as it read before'; 0 by the template 'total and deterministic' (their statements: YtjobcobgmajajaaTotals.lean).
  GIVEN WITH THE SEED: the statements are not yours to turn. If you find one false, say at which input.
  Laid BY PROGRAM, IN A SANDBOX (cutbox-rows.mjs): the forced cells as the released guide's own fill.sh prints them over the translation 6de78aaec33586b6… (all of the seat's roots in one cut). By AI agents, Wed Nov 11 2026. No macro, syntax, notation, axiom, sorry.
-/
import Derived.Test.YtjobcobgmajajaaChecked
import GoSem.Claim
import GoSem.ClaimJoined
import GoSem.ClaimMapViews
import Derived.JoinedTies
import Derived.KernelRfl
namespace Go.Proofs.Ytjobcobgmajajaa
/- THE CELL 'sum', in the pinned program and in every row, IS THE sha256 OF THE DUMP (.gsa) THAT YtjobcobgmajajaaProg.lean LOADS. Nothing in Lean hashes anything: it is a label: what it is worth is what the hold of that sum in a sandbox is worth. -/
noncomputable def Try.pinned : Pinned := { name := "ytjobcobgmajajaa", sum := "6de78aaec33586b631f3e25863b557e5ce04fad3f41ed41a5e2c72e3906f6317", checked := Try.checked }
namespace Rows
def none {H : Type} : Left H := { results := [], args := [] }

/-- 'barscanlaw10.RunsModules': WHATEVER THE INPUT: true; the input reads as it did. -/
def runsModulesSpec : ChangeSpec := { name := "runsModules", fn := fun _ => fun
  | [d] => { results := [.lit (.bool true)], args := [d] }
  | _ => none }
def runsModulesRow : OpenClaim := { program := "ytjobcobgmajajaa", sum := "6de78aaec33586b631f3e25863b557e5ce04fad3f41ed41a5e2c72e3906f6317", func := "barscan/barscanlaw10.RunsModules", spec := "runsModules", unfollowed := true, recurses := true, apart := false }
def RunsModulesSaid : Prop := runsModulesRow.holds Try.pinned (OpenSpec.ofChange runsModulesSpec)

/-- ITS FALSE NEIGHBOUR: 'it returns false'. Refute it at one input. -/
def runsModulesWrong : ChangeSpec := { name := "runsModules", fn := fun _ => fun
  | [d] => { results := [.lit (.bool false)], args := [d] }
  | _ => none }
def RunsModulesWrongFalsely : Prop := runsModulesRow.holds Try.pinned (OpenSpec.ofChange runsModulesWrong)

/-- 'barscanlaw10.RunsWidths': WHATEVER THE INPUT: true; the input reads as it did. -/
def runsWidthsSpec : ChangeSpec := { name := "runsWidths", fn := fun _ => fun
  | [d] => { results := [.lit (.bool true)], args := [d] }
  | _ => none }
def runsWidthsRow : OpenClaim := { program := "ytjobcobgmajajaa", sum := "6de78aaec33586b631f3e25863b557e5ce04fad3f41ed41a5e2c72e3906f6317", func := "barscan/barscanlaw10.RunsWidths", spec := "runsWidths", unfollowed := true, recurses := true, apart := false }
def RunsWidthsSaid : Prop := runsWidthsRow.holds Try.pinned (OpenSpec.ofChange runsWidthsSpec)

/-- ITS FALSE NEIGHBOUR: 'it returns false'. Refute it at one input. -/
def runsWidthsWrong : ChangeSpec := { name := "runsWidths", fn := fun _ => fun
  | [d] => { results := [.lit (.bool false)], args := [d] }
  | _ => none }
def RunsWidthsWrongFalsely : Prop := runsWidthsRow.holds Try.pinned (OpenSpec.ofChange runsWidthsWrong)

/-- 'barscanlaw10.RunsQuantizes': WHATEVER THE INPUT: true; the input reads as it did. -/
def runsQuantizesSpec : ChangeSpec := { name := "runsQuantizes", fn := fun _ => fun
  | [d1, d2] => { results := [.lit (.bool true)], args := [d1, d2] }
  | _ => none }
def runsQuantizesRow : OpenClaim := { program := "ytjobcobgmajajaa", sum := "6de78aaec33586b631f3e25863b557e5ce04fad3f41ed41a5e2c72e3906f6317", func := "barscan/barscanlaw10.RunsQuantizes", spec := "runsQuantizes", unfollowed := true, recurses := true, apart := false }
def RunsQuantizesSaid : Prop := runsQuantizesRow.holds Try.pinned (OpenSpec.ofChange runsQuantizesSpec)

/-- ITS FALSE NEIGHBOUR: 'it returns false'. Refute it at one input. -/
def runsQuantizesWrong : ChangeSpec := { name := "runsQuantizes", fn := fun _ => fun
  | [d1, d2] => { results := [.lit (.bool false)], args := [d1, d2] }
  | _ => none }
def RunsQuantizesWrongFalsely : Prop := runsQuantizesRow.holds Try.pinned (OpenSpec.ofChange runsQuantizesWrong)

/-- 'barscanlaw10.RunsScales': WHATEVER THE INPUT: true; the input reads as it did. -/
def runsScalesSpec : ChangeSpec := { name := "runsScales", fn := fun _ => fun
  | [d1, d2] => { results := [.lit (.bool true)], args := [d1, d2] }
  | _ => none }
def runsScalesRow : OpenClaim := { program := "ytjobcobgmajajaa", sum := "6de78aaec33586b631f3e25863b557e5ce04fad3f41ed41a5e2c72e3906f6317", func := "barscan/barscanlaw10.RunsScales", spec := "runsScales", unfollowed := true, recurses := true, apart := false }
def RunsScalesSaid : Prop := runsScalesRow.holds Try.pinned (OpenSpec.ofChange runsScalesSpec)

/-- ITS FALSE NEIGHBOUR: 'it returns false'. Refute it at one input. -/
def runsScalesWrong : ChangeSpec := { name := "runsScales", fn := fun _ => fun
  | [d1, d2] => { results := [.lit (.bool false)], args := [d1, d2] }
  | _ => none }
def RunsScalesWrongFalsely : Prop := runsScalesRow.holds Try.pinned (OpenSpec.ofChange runsScalesWrong)

/-- 'barscanlaw10.RunsReturns': WHATEVER THE INPUT: true; the input reads as it did. -/
def runsReturnsSpec : ChangeSpec := { name := "runsReturns", fn := fun _ => fun
  | [d1, d2] => { results := [.lit (.bool true)], args := [d1, d2] }
  | _ => none }
def runsReturnsRow : OpenClaim := { program := "ytjobcobgmajajaa", sum := "6de78aaec33586b631f3e25863b557e5ce04fad3f41ed41a5e2c72e3906f6317", func := "barscan/barscanlaw10.RunsReturns", spec := "runsReturns", unfollowed := true, recurses := true, apart := false }
def RunsReturnsSaid : Prop := runsReturnsRow.holds Try.pinned (OpenSpec.ofChange runsReturnsSpec)

/-- ITS FALSE NEIGHBOUR: 'it returns false'. Refute it at one input. -/
def runsReturnsWrong : ChangeSpec := { name := "runsReturns", fn := fun _ => fun
  | [d1, d2] => { results := [.lit (.bool false)], args := [d1, d2] }
  | _ => none }
def RunsReturnsWrongFalsely : Prop := runsReturnsRow.holds Try.pinned (OpenSpec.ofChange runsReturnsWrong)

/-- 'barscanlaw10.RunsBest': WHATEVER THE INPUT: true; the input reads as it did. -/
def runsBestSpec : ChangeSpec := { name := "runsBest", fn := fun _ => fun
  | [d1, d2, d3] => { results := [.lit (.bool true)], args := [d1, d2, d3] }
  | _ => none }
def runsBestRow : OpenClaim := { program := "ytjobcobgmajajaa", sum := "6de78aaec33586b631f3e25863b557e5ce04fad3f41ed41a5e2c72e3906f6317", func := "barscan/barscanlaw10.RunsBest", spec := "runsBest", unfollowed := true, recurses := true, apart := false }
def RunsBestSaid : Prop := runsBestRow.holds Try.pinned (OpenSpec.ofChange runsBestSpec)

/-- ITS FALSE NEIGHBOUR: 'it returns false'. Refute it at one input. -/
def runsBestWrong : ChangeSpec := { name := "runsBest", fn := fun _ => fun
  | [d1, d2, d3] => { results := [.lit (.bool false)], args := [d1, d2, d3] }
  | _ => none }
def RunsBestWrongFalsely : Prop := runsBestRow.holds Try.pinned (OpenSpec.ofChange runsBestWrong)

/- THE SECOND FORM. 'bulk': how many values and letters a reading holds, each counted each time it is reached (what is shared counts as often as it is met; a slice's spare places count too). A statement '..UptoSaid' is the law's where the arguments, and the package variables that the reading takes, are together of bulk at most 1048576: NARROWER than '..Said'. Prove '..Said' where nothing that the law and all that it calls make is longer than what came in: it says more and counts as full. Else prove '..UptoSaid'. A law counts once. -/
mutual
def uptoBulk {H : Type} : DataW H → Nat
  | .lit (.string bytes) => bytes.length + 1
  | .lit _ => 1
  | .nil => 1
  | .ptr d => uptoBulk d + 1
  | .slice elems spare => uptoBulkAll elems + uptoBulkAll spare + 1
  | .agg parts => uptoBulkAll parts + 1
  | .iface _ d => uptoBulk d + 1
  | .map entries => uptoBulkEntries entries + 1
  | .held _ => 1
def uptoBulkAll {H : Type} : List (DataW H) → Nat
  | [] => 0
  | d :: r => uptoBulk d + uptoBulkAll r
def uptoBulkEntries {H : Type} : List (Lit × DataW H) → Nat
  | [] => 0
  | x :: r => uptoBulkEntry x + uptoBulkEntries r
def uptoBulkEntry {H : Type} : Lit × DataW H → Nat
  | (.string bytes, d) => bytes.length + uptoBulk d + 1
  | (_, d) => uptoBulk d + 1
 end
def uptoSmall : (H : Type) → List (DataW H) → Bool := fun _ ds => decide (uptoBulkAll ds ≤ 1048576)
def OpenSpec.upto (s : _root_.Go.ChangeSpec) : _root_.Go.OpenSpec := { _root_.Go.OpenSpec.ofChange s with cond := some uptoSmall }

/-- 'barscanlaw10.RunsModules', WHERE WHAT IT READS IS OF BULK AT MOST 1048576: true; the input reads as it did. -/
def runsModulesUptoRow : OpenClaim := { program := "ytjobcobgmajajaa", sum := "6de78aaec33586b631f3e25863b557e5ce04fad3f41ed41a5e2c72e3906f6317", func := "barscan/barscanlaw10.RunsModules", spec := "runsModules", unfollowed := true, recurses := true, apart := false, narrowed := true }
def RunsModulesUptoSaid : Prop := runsModulesUptoRow.holds Try.pinned (OpenSpec.upto runsModulesSpec)

/-- 'barscanlaw10.RunsWidths', WHERE WHAT IT READS IS OF BULK AT MOST 1048576: true; the input reads as it did. -/
def runsWidthsUptoRow : OpenClaim := { program := "ytjobcobgmajajaa", sum := "6de78aaec33586b631f3e25863b557e5ce04fad3f41ed41a5e2c72e3906f6317", func := "barscan/barscanlaw10.RunsWidths", spec := "runsWidths", unfollowed := true, recurses := true, apart := false, narrowed := true }
def RunsWidthsUptoSaid : Prop := runsWidthsUptoRow.holds Try.pinned (OpenSpec.upto runsWidthsSpec)

/-- 'barscanlaw10.RunsQuantizes', WHERE WHAT IT READS IS OF BULK AT MOST 1048576: true; the input reads as it did. -/
def runsQuantizesUptoRow : OpenClaim := { program := "ytjobcobgmajajaa", sum := "6de78aaec33586b631f3e25863b557e5ce04fad3f41ed41a5e2c72e3906f6317", func := "barscan/barscanlaw10.RunsQuantizes", spec := "runsQuantizes", unfollowed := true, recurses := true, apart := false, narrowed := true }
def RunsQuantizesUptoSaid : Prop := runsQuantizesUptoRow.holds Try.pinned (OpenSpec.upto runsQuantizesSpec)

/-- 'barscanlaw10.RunsScales', WHERE WHAT IT READS IS OF BULK AT MOST 1048576: true; the input reads as it did. -/
def runsScalesUptoRow : OpenClaim := { program := "ytjobcobgmajajaa", sum := "6de78aaec33586b631f3e25863b557e5ce04fad3f41ed41a5e2c72e3906f6317", func := "barscan/barscanlaw10.RunsScales", spec := "runsScales", unfollowed := true, recurses := true, apart := false, narrowed := true }
def RunsScalesUptoSaid : Prop := runsScalesUptoRow.holds Try.pinned (OpenSpec.upto runsScalesSpec)

/-- 'barscanlaw10.RunsReturns', WHERE WHAT IT READS IS OF BULK AT MOST 1048576: true; the input reads as it did. -/
def runsReturnsUptoRow : OpenClaim := { program := "ytjobcobgmajajaa", sum := "6de78aaec33586b631f3e25863b557e5ce04fad3f41ed41a5e2c72e3906f6317", func := "barscan/barscanlaw10.RunsReturns", spec := "runsReturns", unfollowed := true, recurses := true, apart := false, narrowed := true }
def RunsReturnsUptoSaid : Prop := runsReturnsUptoRow.holds Try.pinned (OpenSpec.upto runsReturnsSpec)

/-- 'barscanlaw10.RunsBest', WHERE WHAT IT READS IS OF BULK AT MOST 1048576: true; the input reads as it did. -/
def runsBestUptoRow : OpenClaim := { program := "ytjobcobgmajajaa", sum := "6de78aaec33586b631f3e25863b557e5ce04fad3f41ed41a5e2c72e3906f6317", func := "barscan/barscanlaw10.RunsBest", spec := "runsBest", unfollowed := true, recurses := true, apart := false, narrowed := true }
def RunsBestUptoSaid : Prop := runsBestUptoRow.holds Try.pinned (OpenSpec.upto runsBestSpec)

end Rows
end Go.Proofs.Ytjobcobgmajajaa
