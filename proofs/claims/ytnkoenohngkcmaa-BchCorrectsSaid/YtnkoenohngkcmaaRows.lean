/-
  No cell of these rows narrows 'for every input' (looked for: loops, veiled, ifaces, maps, wideKeys, modest, calm, conditions, laid).
  DERIVED. THE GIVEN ROWS OF THIS SEAT. 8 by the template 'for every input the law returns true; each argument reads behind the call as it read before'; 0 by the template 'total and deterministic' (their statements: YtnkoenohngkcmaaTotals.lean).
  GIVEN WITH THE SEED: the statements are not yours to turn. If you find one false, say at which input.
  Laid BY PROGRAM, IN A SANDBOX (cutbox-rows.mjs): the forced cells as the released guide's own fill.sh prints them over the translation b226491fc7b6967a… (all of the seat's roots in one cut). By AI agents, Wed Nov 11 2026. No macro, syntax, notation, axiom, sorry.
-/
import Derived.Test.YtnkoenohngkcmaaChecked
import GoSem.Claim
import GoSem.ClaimJoined
import GoSem.ClaimMapViews
import Derived.JoinedTies
import Derived.KernelRfl
namespace Go.Proofs.Ytnkoenohngkcmaa
/- THE CELL 'sum', in the pinned program and in every row, IS THE sha256 OF THE DUMP (.gsa) THAT YtnkoenohngkcmaaProg.lean LOADS. Nothing in Lean hashes anything: it is a label: what it is worth is what the hold of that sum in a sandbox is worth. -/
noncomputable def Try.pinned : Pinned := { name := "ytnkoenohngkcmaa", sum := "b226491fc7b6967ab4cd854c9cc57a6e2ce0ce445d0363e179392ec16a458393", checked := Try.checked }
namespace Rows
def none {H : Type} : Left H := { results := [], args := [] }

/-- 'barscanlaw08.BchEncodes': WHATEVER THE INPUT: true; the input reads as it did. -/
def bchEncodesSpec : ChangeSpec := { name := "bchEncodes", fn := fun _ => fun
  | [d1, d2, d3] => { results := [.lit (.bool true)], args := [d1, d2, d3] }
  | _ => none }
def bchEncodesRow : OpenClaim := { program := "ytnkoenohngkcmaa", sum := "b226491fc7b6967ab4cd854c9cc57a6e2ce0ce445d0363e179392ec16a458393", func := "barscan/barscanlaw08.BchEncodes", spec := "bchEncodes", apart := false }
def BchEncodesSaid : Prop := bchEncodesRow.holds Try.pinned (OpenSpec.ofChange bchEncodesSpec)

/-- ITS FALSE NEIGHBOUR: 'it returns false'. Refute it at one input. -/
def bchEncodesWrong : ChangeSpec := { name := "bchEncodes", fn := fun _ => fun
  | [d1, d2, d3] => { results := [.lit (.bool false)], args := [d1, d2, d3] }
  | _ => none }
def BchEncodesWrongFalsely : Prop := bchEncodesRow.holds Try.pinned (OpenSpec.ofChange bchEncodesWrong)

/-- 'barscanlaw08.BchDecodes': WHATEVER THE INPUT: true; the input reads as it did. -/
def bchDecodesSpec : ChangeSpec := { name := "bchDecodes", fn := fun _ => fun
  | [d1, d2, d3] => { results := [.lit (.bool true)], args := [d1, d2, d3] }
  | _ => none }
def bchDecodesRow : OpenClaim := { program := "ytnkoenohngkcmaa", sum := "b226491fc7b6967ab4cd854c9cc57a6e2ce0ce445d0363e179392ec16a458393", func := "barscan/barscanlaw08.BchDecodes", spec := "bchDecodes", apart := false }
def BchDecodesSaid : Prop := bchDecodesRow.holds Try.pinned (OpenSpec.ofChange bchDecodesSpec)

/-- ITS FALSE NEIGHBOUR: 'it returns false'. Refute it at one input. -/
def bchDecodesWrong : ChangeSpec := { name := "bchDecodes", fn := fun _ => fun
  | [d1, d2, d3] => { results := [.lit (.bool false)], args := [d1, d2, d3] }
  | _ => none }
def BchDecodesWrongFalsely : Prop := bchDecodesRow.holds Try.pinned (OpenSpec.ofChange bchDecodesWrong)

/-- 'barscanlaw08.BchFormats': WHATEVER THE INPUT: true; the input reads as it did. -/
def bchFormatsSpec : ChangeSpec := { name := "bchFormats", fn := fun _ => fun
  | [d1, d2, d3] => { results := [.lit (.bool true)], args := [d1, d2, d3] }
  | _ => none }
def bchFormatsRow : OpenClaim := { program := "ytnkoenohngkcmaa", sum := "b226491fc7b6967ab4cd854c9cc57a6e2ce0ce445d0363e179392ec16a458393", func := "barscan/barscanlaw08.BchFormats", spec := "bchFormats", apart := false }
def BchFormatsSaid : Prop := bchFormatsRow.holds Try.pinned (OpenSpec.ofChange bchFormatsSpec)

/-- ITS FALSE NEIGHBOUR: 'it returns false'. Refute it at one input. -/
def bchFormatsWrong : ChangeSpec := { name := "bchFormats", fn := fun _ => fun
  | [d1, d2, d3] => { results := [.lit (.bool false)], args := [d1, d2, d3] }
  | _ => none }
def BchFormatsWrongFalsely : Prop := bchFormatsRow.holds Try.pinned (OpenSpec.ofChange bchFormatsWrong)

/-- 'barscanlaw08.BchVersions': WHATEVER THE INPUT: true; the input reads as it did. -/
def bchVersionsSpec : ChangeSpec := { name := "bchVersions", fn := fun _ => fun
  | [d1, d2] => { results := [.lit (.bool true)], args := [d1, d2] }
  | _ => none }
def bchVersionsRow : OpenClaim := { program := "ytnkoenohngkcmaa", sum := "b226491fc7b6967ab4cd854c9cc57a6e2ce0ce445d0363e179392ec16a458393", func := "barscan/barscanlaw08.BchVersions", spec := "bchVersions", apart := false }
def BchVersionsSaid : Prop := bchVersionsRow.holds Try.pinned (OpenSpec.ofChange bchVersionsSpec)

/-- ITS FALSE NEIGHBOUR: 'it returns false'. Refute it at one input. -/
def bchVersionsWrong : ChangeSpec := { name := "bchVersions", fn := fun _ => fun
  | [d1, d2] => { results := [.lit (.bool false)], args := [d1, d2] }
  | _ => none }
def BchVersionsWrongFalsely : Prop := bchVersionsRow.holds Try.pinned (OpenSpec.ofChange bchVersionsWrong)

/-- 'barscanlaw08.BchLinear': WHATEVER THE INPUT: true; the input reads as it did. -/
def bchLinearSpec : ChangeSpec := { name := "bchLinear", fn := fun _ => fun
  | [d1, d2, d3, d4] => { results := [.lit (.bool true)], args := [d1, d2, d3, d4] }
  | _ => none }
def bchLinearRow : OpenClaim := { program := "ytnkoenohngkcmaa", sum := "b226491fc7b6967ab4cd854c9cc57a6e2ce0ce445d0363e179392ec16a458393", func := "barscan/barscanlaw08.BchLinear", spec := "bchLinear", apart := false }
def BchLinearSaid : Prop := bchLinearRow.holds Try.pinned (OpenSpec.ofChange bchLinearSpec)

/-- ITS FALSE NEIGHBOUR: 'it returns false'. Refute it at one input. -/
def bchLinearWrong : ChangeSpec := { name := "bchLinear", fn := fun _ => fun
  | [d1, d2, d3, d4] => { results := [.lit (.bool false)], args := [d1, d2, d3, d4] }
  | _ => none }
def BchLinearWrongFalsely : Prop := bchLinearRow.holds Try.pinned (OpenSpec.ofChange bchLinearWrong)

/-- 'barscanlaw08.BchCorrects': WHATEVER THE INPUT: true; the input reads as it did. -/
def bchCorrectsSpec : ChangeSpec := { name := "bchCorrects", fn := fun _ => fun
  | [d1, d2, d3, d4] => { results := [.lit (.bool true)], args := [d1, d2, d3, d4] }
  | _ => none }
def bchCorrectsRow : OpenClaim := { program := "ytnkoenohngkcmaa", sum := "b226491fc7b6967ab4cd854c9cc57a6e2ce0ce445d0363e179392ec16a458393", func := "barscan/barscanlaw08.BchCorrects", spec := "bchCorrects", apart := false }
def BchCorrectsSaid : Prop := bchCorrectsRow.holds Try.pinned (OpenSpec.ofChange bchCorrectsSpec)

/-- ITS FALSE NEIGHBOUR: 'it returns false'. Refute it at one input. -/
def bchCorrectsWrong : ChangeSpec := { name := "bchCorrects", fn := fun _ => fun
  | [d1, d2, d3, d4] => { results := [.lit (.bool false)], args := [d1, d2, d3, d4] }
  | _ => none }
def BchCorrectsWrongFalsely : Prop := bchCorrectsRow.holds Try.pinned (OpenSpec.ofChange bchCorrectsWrong)

/-- 'barscanlaw08.BchDetects': WHATEVER THE INPUT: true; the input reads as it did. -/
def bchDetectsSpec : ChangeSpec := { name := "bchDetects", fn := fun _ => fun
  | [d1, d2, d3] => { results := [.lit (.bool true)], args := [d1, d2, d3] }
  | _ => none }
def bchDetectsRow : OpenClaim := { program := "ytnkoenohngkcmaa", sum := "b226491fc7b6967ab4cd854c9cc57a6e2ce0ce445d0363e179392ec16a458393", func := "barscan/barscanlaw08.BchDetects", spec := "bchDetects", apart := false }
def BchDetectsSaid : Prop := bchDetectsRow.holds Try.pinned (OpenSpec.ofChange bchDetectsSpec)

/-- ITS FALSE NEIGHBOUR: 'it returns false'. Refute it at one input. -/
def bchDetectsWrong : ChangeSpec := { name := "bchDetects", fn := fun _ => fun
  | [d1, d2, d3] => { results := [.lit (.bool false)], args := [d1, d2, d3] }
  | _ => none }
def BchDetectsWrongFalsely : Prop := bchDetectsRow.holds Try.pinned (OpenSpec.ofChange bchDetectsWrong)

/-- 'barscanlaw08.BchInformation': WHATEVER THE INPUT: true; the input reads as it did. -/
def bchInformationSpec : ChangeSpec := { name := "bchInformation", fn := fun _ => fun
  | [d1, d2, d3, d4] => { results := [.lit (.bool true)], args := [d1, d2, d3, d4] }
  | _ => none }
def bchInformationRow : OpenClaim := { program := "ytnkoenohngkcmaa", sum := "b226491fc7b6967ab4cd854c9cc57a6e2ce0ce445d0363e179392ec16a458393", func := "barscan/barscanlaw08.BchInformation", spec := "bchInformation", apart := false }
def BchInformationSaid : Prop := bchInformationRow.holds Try.pinned (OpenSpec.ofChange bchInformationSpec)

/-- ITS FALSE NEIGHBOUR: 'it returns false'. Refute it at one input. -/
def bchInformationWrong : ChangeSpec := { name := "bchInformation", fn := fun _ => fun
  | [d1, d2, d3, d4] => { results := [.lit (.bool false)], args := [d1, d2, d3, d4] }
  | _ => none }
def BchInformationWrongFalsely : Prop := bchInformationRow.holds Try.pinned (OpenSpec.ofChange bchInformationWrong)

/- THE SECOND FORM. 'bulk': how many values and letters a reading holds, each counted each time it is reached (what is shared counts as often as it is met; a slice's spare places count too). A statement '..UptoSaid' is the law's where the arguments, and the package variables that the reading takes, are together of bulk at most 1048576: NARROWER than '..Said'. Prove '..Said' where nothing that the law and all that it calls make is longer than what came in: it says more and counts as full. Else prove '..UptoSaid'. A law counts once. -/
mutual
def uptoBulk {H : Type} : DataW H → Nat
  | .lit (.string bytes) => bytes.length + 1
  | .lit _ => 1
  | .nil => 1
  | .ptr d => uptoBulk d + 1
  | .slice elems spare => uptoBulkAll elems + uptoBulkAll spare + 1
  | .agg parts => uptoBulkAll parts + 1
  | .iface _ d => uptoBulk d + 1
  | .map entries => uptoBulkEntries entries + 1
  | .held _ => 1
def uptoBulkAll {H : Type} : List (DataW H) → Nat
  | [] => 0
  | d :: r => uptoBulk d + uptoBulkAll r
def uptoBulkEntries {H : Type} : List (Lit × DataW H) → Nat
  | [] => 0
  | x :: r => uptoBulkEntry x + uptoBulkEntries r
def uptoBulkEntry {H : Type} : Lit × DataW H → Nat
  | (.string bytes, d) => bytes.length + uptoBulk d + 1
  | (_, d) => uptoBulk d + 1
 end
def uptoSmall : (H : Type) → List (DataW H) → Bool := fun _ ds => decide (uptoBulkAll ds ≤ 1048576)
def OpenSpec.upto (s : _root_.Go.ChangeSpec) : _root_.Go.OpenSpec := { _root_.Go.OpenSpec.ofChange s with cond := some uptoSmall }

/-- 'barscanlaw08.BchEncodes', WHERE WHAT IT READS IS OF BULK AT MOST 1048576: true; the input reads as it did. -/
def bchEncodesUptoRow : OpenClaim := { program := "ytnkoenohngkcmaa", sum := "b226491fc7b6967ab4cd854c9cc57a6e2ce0ce445d0363e179392ec16a458393", func := "barscan/barscanlaw08.BchEncodes", spec := "bchEncodes", apart := false, narrowed := true }
def BchEncodesUptoSaid : Prop := bchEncodesUptoRow.holds Try.pinned (OpenSpec.upto bchEncodesSpec)

/-- 'barscanlaw08.BchDecodes', WHERE WHAT IT READS IS OF BULK AT MOST 1048576: true; the input reads as it did. -/
def bchDecodesUptoRow : OpenClaim := { program := "ytnkoenohngkcmaa", sum := "b226491fc7b6967ab4cd854c9cc57a6e2ce0ce445d0363e179392ec16a458393", func := "barscan/barscanlaw08.BchDecodes", spec := "bchDecodes", apart := false, narrowed := true }
def BchDecodesUptoSaid : Prop := bchDecodesUptoRow.holds Try.pinned (OpenSpec.upto bchDecodesSpec)

/-- 'barscanlaw08.BchFormats', WHERE WHAT IT READS IS OF BULK AT MOST 1048576: true; the input reads as it did. -/
def bchFormatsUptoRow : OpenClaim := { program := "ytnkoenohngkcmaa", sum := "b226491fc7b6967ab4cd854c9cc57a6e2ce0ce445d0363e179392ec16a458393", func := "barscan/barscanlaw08.BchFormats", spec := "bchFormats", apart := false, narrowed := true }
def BchFormatsUptoSaid : Prop := bchFormatsUptoRow.holds Try.pinned (OpenSpec.upto bchFormatsSpec)

/-- 'barscanlaw08.BchVersions', WHERE WHAT IT READS IS OF BULK AT MOST 1048576: true; the input reads as it did. -/
def bchVersionsUptoRow : OpenClaim := { program := "ytnkoenohngkcmaa", sum := "b226491fc7b6967ab4cd854c9cc57a6e2ce0ce445d0363e179392ec16a458393", func := "barscan/barscanlaw08.BchVersions", spec := "bchVersions", apart := false, narrowed := true }
def BchVersionsUptoSaid : Prop := bchVersionsUptoRow.holds Try.pinned (OpenSpec.upto bchVersionsSpec)

/-- 'barscanlaw08.BchLinear', WHERE WHAT IT READS IS OF BULK AT MOST 1048576: true; the input reads as it did. -/
def bchLinearUptoRow : OpenClaim := { program := "ytnkoenohngkcmaa", sum := "b226491fc7b6967ab4cd854c9cc57a6e2ce0ce445d0363e179392ec16a458393", func := "barscan/barscanlaw08.BchLinear", spec := "bchLinear", apart := false, narrowed := true }
def BchLinearUptoSaid : Prop := bchLinearUptoRow.holds Try.pinned (OpenSpec.upto bchLinearSpec)

/-- 'barscanlaw08.BchCorrects', WHERE WHAT IT READS IS OF BULK AT MOST 1048576: true; the input reads as it did. -/
def bchCorrectsUptoRow : OpenClaim := { program := "ytnkoenohngkcmaa", sum := "b226491fc7b6967ab4cd854c9cc57a6e2ce0ce445d0363e179392ec16a458393", func := "barscan/barscanlaw08.BchCorrects", spec := "bchCorrects", apart := false, narrowed := true }
def BchCorrectsUptoSaid : Prop := bchCorrectsUptoRow.holds Try.pinned (OpenSpec.upto bchCorrectsSpec)

/-- 'barscanlaw08.BchDetects', WHERE WHAT IT READS IS OF BULK AT MOST 1048576: true; the input reads as it did. -/
def bchDetectsUptoRow : OpenClaim := { program := "ytnkoenohngkcmaa", sum := "b226491fc7b6967ab4cd854c9cc57a6e2ce0ce445d0363e179392ec16a458393", func := "barscan/barscanlaw08.BchDetects", spec := "bchDetects", apart := false, narrowed := true }
def BchDetectsUptoSaid : Prop := bchDetectsUptoRow.holds Try.pinned (OpenSpec.upto bchDetectsSpec)

/-- 'barscanlaw08.BchInformation', WHERE WHAT IT READS IS OF BULK AT MOST 1048576: true; the input reads as it did. -/
def bchInformationUptoRow : OpenClaim := { program := "ytnkoenohngkcmaa", sum := "b226491fc7b6967ab4cd854c9cc57a6e2ce0ce445d0363e179392ec16a458393", func := "barscan/barscanlaw08.BchInformation", spec := "bchInformation", apart := false, narrowed := true }
def BchInformationUptoSaid : Prop := bchInformationUptoRow.holds Try.pinned (OpenSpec.upto bchInformationSpec)

end Rows
end Go.Proofs.Ytnkoenohngkcmaa
