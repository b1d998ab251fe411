/-
  No cell of these rows narrows 'for every input' (looked for: loops, veiled, ifaces, maps, wideKeys, modest, calm, conditions, laid).
  DERIVED. THE GIVEN ROWS OF THIS SEAT. 12 by the template 'for every input the law returns true; each argument reads behind the call as it read before'; 0 by the template 'total and deterministic' (their statements: YtebbpodcldndjaaTotals.lean).
  GIVEN WITH THE SEED: the statements are not yours to turn. If you find one false, say at which input.
  Laid BY PROGRAM, IN A SANDBOX (cutbox-rows.mjs): the forced cells as the released guide's own fill.sh prints them over the translation fff8d03bdd8b0bba… (all of the seat's roots in one cut). By AI agents, Wed Nov 11 2026. No macro, syntax, notation, axiom, sorry.
-/
import Derived.Test.YtebbpodcldndjaaChecked
import GoSem.Claim
import GoSem.ClaimJoined
import GoSem.ClaimMapViews
import Derived.JoinedTies
import Derived.KernelRfl
namespace Go.Proofs.Ytebbpodcldndjaa
/- THE CELL 'sum', in the pinned program and in every row, IS THE sha256 OF THE DUMP (.gsa) THAT YtebbpodcldndjaaProg.lean LOADS. Nothing in Lean hashes anything: it is a label: what it is worth is what the hold of that sum in a sandbox is worth. -/
noncomputable def Try.pinned : Pinned := { name := "ytebbpodcldndjaa", sum := "fff8d03bdd8b0bbae2a63a4c4453e4b09a71fd8acd21f3a1b49bec5c84962fee", checked := Try.checked }
namespace Rows
def none {H : Type} : Left H := { results := [], args := [] }

/-- 'barscanlaw02.BigintAdds': WHATEVER THE INPUT: true; the input reads as it did. -/
def bigintAddsSpec : ChangeSpec := { name := "bigintAdds", fn := fun _ => fun
  | [d1, d2] => { results := [.lit (.bool true)], args := [d1, d2] }
  | _ => none }
def bigintAddsRow : OpenClaim := { program := "ytebbpodcldndjaa", sum := "fff8d03bdd8b0bbae2a63a4c4453e4b09a71fd8acd21f3a1b49bec5c84962fee", func := "barscan/barscanlaw02.BigintAdds", spec := "bigintAdds", apart := false }
def BigintAddsSaid : Prop := bigintAddsRow.holds Try.pinned (OpenSpec.ofChange bigintAddsSpec)

/-- ITS FALSE NEIGHBOUR: 'it returns false'. Refute it at one input. -/
def bigintAddsWrong : ChangeSpec := { name := "bigintAdds", fn := fun _ => fun
  | [d1, d2] => { results := [.lit (.bool false)], args := [d1, d2] }
  | _ => none }
def BigintAddsWrongFalsely : Prop := bigintAddsRow.holds Try.pinned (OpenSpec.ofChange bigintAddsWrong)

/-- 'barscanlaw02.BigintMultiplies': WHATEVER THE INPUT: true; the input reads as it did. -/
def bigintMultipliesSpec : ChangeSpec := { name := "bigintMultiplies", fn := fun _ => fun
  | [d1, d2] => { results := [.lit (.bool true)], args := [d1, d2] }
  | _ => none }
def bigintMultipliesRow : OpenClaim := { program := "ytebbpodcldndjaa", sum := "fff8d03bdd8b0bbae2a63a4c4453e4b09a71fd8acd21f3a1b49bec5c84962fee", func := "barscan/barscanlaw02.BigintMultiplies", spec := "bigintMultiplies", apart := false }
def BigintMultipliesSaid : Prop := bigintMultipliesRow.holds Try.pinned (OpenSpec.ofChange bigintMultipliesSpec)

/-- ITS FALSE NEIGHBOUR: 'it returns false'. Refute it at one input. -/
def bigintMultipliesWrong : ChangeSpec := { name := "bigintMultiplies", fn := fun _ => fun
  | [d1, d2] => { results := [.lit (.bool false)], args := [d1, d2] }
  | _ => none }
def BigintMultipliesWrongFalsely : Prop := bigintMultipliesRow.holds Try.pinned (OpenSpec.ofChange bigintMultipliesWrong)

/-- 'barscanlaw02.BigintDivides': WHATEVER THE INPUT: true; the input reads as it did. -/
def bigintDividesSpec : ChangeSpec := { name := "bigintDivides", fn := fun _ => fun
  | [d1, d2] => { results := [.lit (.bool true)], args := [d1, d2] }
  | _ => none }
def bigintDividesRow : OpenClaim := { program := "ytebbpodcldndjaa", sum := "fff8d03bdd8b0bbae2a63a4c4453e4b09a71fd8acd21f3a1b49bec5c84962fee", func := "barscan/barscanlaw02.BigintDivides", spec := "bigintDivides", apart := false }
def BigintDividesSaid : Prop := bigintDividesRow.holds Try.pinned (OpenSpec.ofChange bigintDividesSpec)

/-- ITS FALSE NEIGHBOUR: 'it returns false'. Refute it at one input. -/
def bigintDividesWrong : ChangeSpec := { name := "bigintDivides", fn := fun _ => fun
  | [d1, d2] => { results := [.lit (.bool false)], args := [d1, d2] }
  | _ => none }
def BigintDividesWrongFalsely : Prop := bigintDividesRow.holds Try.pinned (OpenSpec.ofChange bigintDividesWrong)

/-- 'barscanlaw02.BigintPowers': WHATEVER THE INPUT: true; the input reads as it did. -/
def bigintPowersSpec : ChangeSpec := { name := "bigintPowers", fn := fun _ => fun
  | [d1, d2] => { results := [.lit (.bool true)], args := [d1, d2] }
  | _ => none }
def bigintPowersRow : OpenClaim := { program := "ytebbpodcldndjaa", sum := "fff8d03bdd8b0bbae2a63a4c4453e4b09a71fd8acd21f3a1b49bec5c84962fee", func := "barscan/barscanlaw02.BigintPowers", spec := "bigintPowers", apart := false }
def BigintPowersSaid : Prop := bigintPowersRow.holds Try.pinned (OpenSpec.ofChange bigintPowersSpec)

/-- ITS FALSE NEIGHBOUR: 'it returns false'. Refute it at one input. -/
def bigintPowersWrong : ChangeSpec := { name := "bigintPowers", fn := fun _ => fun
  | [d1, d2] => { results := [.lit (.bool false)], args := [d1, d2] }
  | _ => none }
def BigintPowersWrongFalsely : Prop := bigintPowersRow.holds Try.pinned (OpenSpec.ofChange bigintPowersWrong)

/-- 'barscanlaw02.BigintConverts': WHATEVER THE INPUT: true; the input reads as it did. -/
def bigintConvertsSpec : ChangeSpec := { name := "bigintConverts", fn := fun _ => fun
  | [d1, d2] => { results := [.lit (.bool true)], args := [d1, d2] }
  | _ => none }
def bigintConvertsRow : OpenClaim := { program := "ytebbpodcldndjaa", sum := "fff8d03bdd8b0bbae2a63a4c4453e4b09a71fd8acd21f3a1b49bec5c84962fee", func := "barscan/barscanlaw02.BigintConverts", spec := "bigintConverts", apart := false }
def BigintConvertsSaid : Prop := bigintConvertsRow.holds Try.pinned (OpenSpec.ofChange bigintConvertsSpec)

/-- ITS FALSE NEIGHBOUR: 'it returns false'. Refute it at one input. -/
def bigintConvertsWrong : ChangeSpec := { name := "bigintConverts", fn := fun _ => fun
  | [d1, d2] => { results := [.lit (.bool false)], args := [d1, d2] }
  | _ => none }
def BigintConvertsWrongFalsely : Prop := bigintConvertsRow.holds Try.pinned (OpenSpec.ofChange bigintConvertsWrong)

/-- 'barscanlaw02.BigintTexts': WHATEVER THE INPUT: true; the input reads as it did. -/
def bigintTextsSpec : ChangeSpec := { name := "bigintTexts", fn := fun _ => fun
  | [d1, d2] => { results := [.lit (.bool true)], args := [d1, d2] }
  | _ => none }
def bigintTextsRow : OpenClaim := { program := "ytebbpodcldndjaa", sum := "fff8d03bdd8b0bbae2a63a4c4453e4b09a71fd8acd21f3a1b49bec5c84962fee", func := "barscan/barscanlaw02.BigintTexts", spec := "bigintTexts", apart := false }
def BigintTextsSaid : Prop := bigintTextsRow.holds Try.pinned (OpenSpec.ofChange bigintTextsSpec)

/-- ITS FALSE NEIGHBOUR: 'it returns false'. Refute it at one input. -/
def bigintTextsWrong : ChangeSpec := { name := "bigintTexts", fn := fun _ => fun
  | [d1, d2] => { results := [.lit (.bool false)], args := [d1, d2] }
  | _ => none }
def BigintTextsWrongFalsely : Prop := bigintTextsRow.holds Try.pinned (OpenSpec.ofChange bigintTextsWrong)

/-- 'barscanlaw02.BigintDigits': WHATEVER THE INPUT: true; the input reads as it did. -/
def bigintDigitsSpec : ChangeSpec := { name := "bigintDigits", fn := fun _ => fun
  | [d1, d2, d3] => { results := [.lit (.bool true)], args := [d1, d2, d3] }
  | _ => none }
def bigintDigitsRow : OpenClaim := { program := "ytebbpodcldndjaa", sum := "fff8d03bdd8b0bbae2a63a4c4453e4b09a71fd8acd21f3a1b49bec5c84962fee", func := "barscan/barscanlaw02.BigintDigits", spec := "bigintDigits", apart := false }
def BigintDigitsSaid : Prop := bigintDigitsRow.holds Try.pinned (OpenSpec.ofChange bigintDigitsSpec)

/-- ITS FALSE NEIGHBOUR: 'it returns false'. Refute it at one input. -/
def bigintDigitsWrong : ChangeSpec := { name := "bigintDigits", fn := fun _ => fun
  | [d1, d2, d3] => { results := [.lit (.bool false)], args := [d1, d2, d3] }
  | _ => none }
def BigintDigitsWrongFalsely : Prop := bigintDigitsRow.holds Try.pinned (OpenSpec.ofChange bigintDigitsWrong)

/-- 'barscanlaw02.BigintRing': WHATEVER THE INPUT: true; the input reads as it did. -/
def bigintRingSpec : ChangeSpec := { name := "bigintRing", fn := fun _ => fun
  | [d1, d2, d3] => { results := [.lit (.bool true)], args := [d1, d2, d3] }
  | _ => none }
def bigintRingRow : OpenClaim := { program := "ytebbpodcldndjaa", sum := "fff8d03bdd8b0bbae2a63a4c4453e4b09a71fd8acd21f3a1b49bec5c84962fee", func := "barscan/barscanlaw02.BigintRing", spec := "bigintRing", apart := false }
def BigintRingSaid : Prop := bigintRingRow.holds Try.pinned (OpenSpec.ofChange bigintRingSpec)

/-- ITS FALSE NEIGHBOUR: 'it returns false'. Refute it at one input. -/
def bigintRingWrong : ChangeSpec := { name := "bigintRing", fn := fun _ => fun
  | [d1, d2, d3] => { results := [.lit (.bool false)], args := [d1, d2, d3] }
  | _ => none }
def BigintRingWrongFalsely : Prop := bigintRingRow.holds Try.pinned (OpenSpec.ofChange bigintRingWrong)

/-- 'barscanlaw02.BigintOrder': WHATEVER THE INPUT: true; the input reads as it did. -/
def bigintOrderSpec : ChangeSpec := { name := "bigintOrder", fn := fun _ => fun
  | [d1, d2, d3] => { results := [.lit (.bool true)], args := [d1, d2, d3] }
  | _ => none }
def bigintOrderRow : OpenClaim := { program := "ytebbpodcldndjaa", sum := "fff8d03bdd8b0bbae2a63a4c4453e4b09a71fd8acd21f3a1b49bec5c84962fee", func := "barscan/barscanlaw02.BigintOrder", spec := "bigintOrder", apart := false }
def BigintOrderSaid : Prop := bigintOrderRow.holds Try.pinned (OpenSpec.ofChange bigintOrderSpec)

/-- ITS FALSE NEIGHBOUR: 'it returns false'. Refute it at one input. -/
def bigintOrderWrong : ChangeSpec := { name := "bigintOrder", fn := fun _ => fun
  | [d1, d2, d3] => { results := [.lit (.bool false)], args := [d1, d2, d3] }
  | _ => none }
def BigintOrderWrongFalsely : Prop := bigintOrderRow.holds Try.pinned (OpenSpec.ofChange bigintOrderWrong)

/-- 'barscanlaw02.BigintEuclid': WHATEVER THE INPUT: true; the input reads as it did. -/
def bigintEuclidSpec : ChangeSpec := { name := "bigintEuclid", fn := fun _ => fun
  | [d1, d2] => { results := [.lit (.bool true)], args := [d1, d2] }
  | _ => none }
def bigintEuclidRow : OpenClaim := { program := "ytebbpodcldndjaa", sum := "fff8d03bdd8b0bbae2a63a4c4453e4b09a71fd8acd21f3a1b49bec5c84962fee", func := "barscan/barscanlaw02.BigintEuclid", spec := "bigintEuclid", apart := false }
def BigintEuclidSaid : Prop := bigintEuclidRow.holds Try.pinned (OpenSpec.ofChange bigintEuclidSpec)

/-- ITS FALSE NEIGHBOUR: 'it returns false'. Refute it at one input. -/
def bigintEuclidWrong : ChangeSpec := { name := "bigintEuclid", fn := fun _ => fun
  | [d1, d2] => { results := [.lit (.bool false)], args := [d1, d2] }
  | _ => none }
def BigintEuclidWrongFalsely : Prop := bigintEuclidRow.holds Try.pinned (OpenSpec.ofChange bigintEuclidWrong)

/-- 'barscanlaw02.BigintPowerLaw': WHATEVER THE INPUT: true; the input reads as it did. -/
def bigintPowerLawSpec : ChangeSpec := { name := "bigintPowerLaw", fn := fun _ => fun
  | [d1, d2, d3] => { results := [.lit (.bool true)], args := [d1, d2, d3] }
  | _ => none }
def bigintPowerLawRow : OpenClaim := { program := "ytebbpodcldndjaa", sum := "fff8d03bdd8b0bbae2a63a4c4453e4b09a71fd8acd21f3a1b49bec5c84962fee", func := "barscan/barscanlaw02.BigintPowerLaw", spec := "bigintPowerLaw", apart := false }
def BigintPowerLawSaid : Prop := bigintPowerLawRow.holds Try.pinned (OpenSpec.ofChange bigintPowerLawSpec)

/-- ITS FALSE NEIGHBOUR: 'it returns false'. Refute it at one input. -/
def bigintPowerLawWrong : ChangeSpec := { name := "bigintPowerLaw", fn := fun _ => fun
  | [d1, d2, d3] => { results := [.lit (.bool false)], args := [d1, d2, d3] }
  | _ => none }
def BigintPowerLawWrongFalsely : Prop := bigintPowerLawRow.holds Try.pinned (OpenSpec.ofChange bigintPowerLawWrong)

/-- 'barscanlaw02.BigintRoundTrips': WHATEVER THE INPUT: true; the input reads as it did. -/
def bigintRoundTripsSpec : ChangeSpec := { name := "bigintRoundTrips", fn := fun _ => fun
  | [d1, d2] => { results := [.lit (.bool true)], args := [d1, d2] }
  | _ => none }
def bigintRoundTripsRow : OpenClaim := { program := "ytebbpodcldndjaa", sum := "fff8d03bdd8b0bbae2a63a4c4453e4b09a71fd8acd21f3a1b49bec5c84962fee", func := "barscan/barscanlaw02.BigintRoundTrips", spec := "bigintRoundTrips", apart := false }
def BigintRoundTripsSaid : Prop := bigintRoundTripsRow.holds Try.pinned (OpenSpec.ofChange bigintRoundTripsSpec)

/-- ITS FALSE NEIGHBOUR: 'it returns false'. Refute it at one input. -/
def bigintRoundTripsWrong : ChangeSpec := { name := "bigintRoundTrips", fn := fun _ => fun
  | [d1, d2] => { results := [.lit (.bool false)], args := [d1, d2] }
  | _ => none }
def BigintRoundTripsWrongFalsely : Prop := bigintRoundTripsRow.holds Try.pinned (OpenSpec.ofChange bigintRoundTripsWrong)

/- THE SECOND FORM. 'bulk': how many values and letters a reading holds, each counted each time it is reached (what is shared counts as often as it is met; a slice's spare places count too). A statement '..UptoSaid' is the law's where the arguments, and the package variables that the reading takes, are together of bulk at most 1048576: NARROWER than '..Said'. Prove '..Said' where nothing that the law and all that it calls make is longer than what came in: it says more and counts as full. Else prove '..UptoSaid'. A law counts once. -/
mutual
def uptoBulk {H : Type} : DataW H → Nat
  | .lit (.string bytes) => bytes.length + 1
  | .lit _ => 1
  | .nil => 1
  | .ptr d => uptoBulk d + 1
  | .slice elems spare => uptoBulkAll elems + uptoBulkAll spare + 1
  | .agg parts => uptoBulkAll parts + 1
  | .iface _ d => uptoBulk d + 1
  | .map entries => uptoBulkEntries entries + 1
  | .held _ => 1
def uptoBulkAll {H : Type} : List (DataW H) → Nat
  | [] => 0
  | d :: r => uptoBulk d + uptoBulkAll r
def uptoBulkEntries {H : Type} : List (Lit × DataW H) → Nat
  | [] => 0
  | x :: r => uptoBulkEntry x + uptoBulkEntries r
def uptoBulkEntry {H : Type} : Lit × DataW H → Nat
  | (.string bytes, d) => bytes.length + uptoBulk d + 1
  | (_, d) => uptoBulk d + 1
 end
def uptoSmall : (H : Type) → List (DataW H) → Bool := fun _ ds => decide (uptoBulkAll ds ≤ 1048576)
def OpenSpec.upto (s : _root_.Go.ChangeSpec) : _root_.Go.OpenSpec := { _root_.Go.OpenSpec.ofChange s with cond := some uptoSmall }

/-- 'barscanlaw02.BigintAdds', WHERE WHAT IT READS IS OF BULK AT MOST 1048576: true; the input reads as it did. -/
def bigintAddsUptoRow : OpenClaim := { program := "ytebbpodcldndjaa", sum := "fff8d03bdd8b0bbae2a63a4c4453e4b09a71fd8acd21f3a1b49bec5c84962fee", func := "barscan/barscanlaw02.BigintAdds", spec := "bigintAdds", apart := false, narrowed := true }
def BigintAddsUptoSaid : Prop := bigintAddsUptoRow.holds Try.pinned (OpenSpec.upto bigintAddsSpec)

/-- 'barscanlaw02.BigintMultiplies', WHERE WHAT IT READS IS OF BULK AT MOST 1048576: true; the input reads as it did. -/
def bigintMultipliesUptoRow : OpenClaim := { program := "ytebbpodcldndjaa", sum := "fff8d03bdd8b0bbae2a63a4c4453e4b09a71fd8acd21f3a1b49bec5c84962fee", func := "barscan/barscanlaw02.BigintMultiplies", spec := "bigintMultiplies", apart := false, narrowed := true }
def BigintMultipliesUptoSaid : Prop := bigintMultipliesUptoRow.holds Try.pinned (OpenSpec.upto bigintMultipliesSpec)

/-- 'barscanlaw02.BigintDivides', WHERE WHAT IT READS IS OF BULK AT MOST 1048576: true; the input reads as it did. -/
def bigintDividesUptoRow : OpenClaim := { program := "ytebbpodcldndjaa", sum := "fff8d03bdd8b0bbae2a63a4c4453e4b09a71fd8acd21f3a1b49bec5c84962fee", func := "barscan/barscanlaw02.BigintDivides", spec := "bigintDivides", apart := false, narrowed := true }
def BigintDividesUptoSaid : Prop := bigintDividesUptoRow.holds Try.pinned (OpenSpec.upto bigintDividesSpec)

/-- 'barscanlaw02.BigintPowers', WHERE WHAT IT READS IS OF BULK AT MOST 1048576: true; the input reads as it did. -/
def bigintPowersUptoRow : OpenClaim := { program := "ytebbpodcldndjaa", sum := "fff8d03bdd8b0bbae2a63a4c4453e4b09a71fd8acd21f3a1b49bec5c84962fee", func := "barscan/barscanlaw02.BigintPowers", spec := "bigintPowers", apart := false, narrowed := true }
def BigintPowersUptoSaid : Prop := bigintPowersUptoRow.holds Try.pinned (OpenSpec.upto bigintPowersSpec)

/-- 'barscanlaw02.BigintConverts', WHERE WHAT IT READS IS OF BULK AT MOST 1048576: true; the input reads as it did. -/
def bigintConvertsUptoRow : OpenClaim := { program := "ytebbpodcldndjaa", sum := "fff8d03bdd8b0bbae2a63a4c4453e4b09a71fd8acd21f3a1b49bec5c84962fee", func := "barscan/barscanlaw02.BigintConverts", spec := "bigintConverts", apart := false, narrowed := true }
def BigintConvertsUptoSaid : Prop := bigintConvertsUptoRow.holds Try.pinned (OpenSpec.upto bigintConvertsSpec)

/-- 'barscanlaw02.BigintTexts', WHERE WHAT IT READS IS OF BULK AT MOST 1048576: true; the input reads as it did. -/
def bigintTextsUptoRow : OpenClaim := { program := "ytebbpodcldndjaa", sum := "fff8d03bdd8b0bbae2a63a4c4453e4b09a71fd8acd21f3a1b49bec5c84962fee", func := "barscan/barscanlaw02.BigintTexts", spec := "bigintTexts", apart := false, narrowed := true }
def BigintTextsUptoSaid : Prop := bigintTextsUptoRow.holds Try.pinned (OpenSpec.upto bigintTextsSpec)

/-- 'barscanlaw02.BigintDigits', WHERE WHAT IT READS IS OF BULK AT MOST 1048576: true; the input reads as it did. -/
def bigintDigitsUptoRow : OpenClaim := { program := "ytebbpodcldndjaa", sum := "fff8d03bdd8b0bbae2a63a4c4453e4b09a71fd8acd21f3a1b49bec5c84962fee", func := "barscan/barscanlaw02.BigintDigits", spec := "bigintDigits", apart := false, narrowed := true }
def BigintDigitsUptoSaid : Prop := bigintDigitsUptoRow.holds Try.pinned (OpenSpec.upto bigintDigitsSpec)

/-- 'barscanlaw02.BigintRing', WHERE WHAT IT READS IS OF BULK AT MOST 1048576: true; the input reads as it did. -/
def bigintRingUptoRow : OpenClaim := { program := "ytebbpodcldndjaa", sum := "fff8d03bdd8b0bbae2a63a4c4453e4b09a71fd8acd21f3a1b49bec5c84962fee", func := "barscan/barscanlaw02.BigintRing", spec := "bigintRing", apart := false, narrowed := true }
def BigintRingUptoSaid : Prop := bigintRingUptoRow.holds Try.pinned (OpenSpec.upto bigintRingSpec)

/-- 'barscanlaw02.BigintOrder', WHERE WHAT IT READS IS OF BULK AT MOST 1048576: true; the input reads as it did. -/
def bigintOrderUptoRow : OpenClaim := { program := "ytebbpodcldndjaa", sum := "fff8d03bdd8b0bbae2a63a4c4453e4b09a71fd8acd21f3a1b49bec5c84962fee", func := "barscan/barscanlaw02.BigintOrder", spec := "bigintOrder", apart := false, narrowed := true }
def BigintOrderUptoSaid : Prop := bigintOrderUptoRow.holds Try.pinned (OpenSpec.upto bigintOrderSpec)

/-- 'barscanlaw02.BigintEuclid', WHERE WHAT IT READS IS OF BULK AT MOST 1048576: true; the input reads as it did. -/
def bigintEuclidUptoRow : OpenClaim := { program := "ytebbpodcldndjaa", sum := "fff8d03bdd8b0bbae2a63a4c4453e4b09a71fd8acd21f3a1b49bec5c84962fee", func := "barscan/barscanlaw02.BigintEuclid", spec := "bigintEuclid", apart := false, narrowed := true }
def BigintEuclidUptoSaid : Prop := bigintEuclidUptoRow.holds Try.pinned (OpenSpec.upto bigintEuclidSpec)

/-- 'barscanlaw02.BigintPowerLaw', WHERE WHAT IT READS IS OF BULK AT MOST 1048576: true; the input reads as it did. -/
def bigintPowerLawUptoRow : OpenClaim := { program := "ytebbpodcldndjaa", sum := "fff8d03bdd8b0bbae2a63a4c4453e4b09a71fd8acd21f3a1b49bec5c84962fee", func := "barscan/barscanlaw02.BigintPowerLaw", spec := "bigintPowerLaw", apart := false, narrowed := true }
def BigintPowerLawUptoSaid : Prop := bigintPowerLawUptoRow.holds Try.pinned (OpenSpec.upto bigintPowerLawSpec)

/-- 'barscanlaw02.BigintRoundTrips', WHERE WHAT IT READS IS OF BULK AT MOST 1048576: true; the input reads as it did. -/
def bigintRoundTripsUptoRow : OpenClaim := { program := "ytebbpodcldndjaa", sum := "fff8d03bdd8b0bbae2a63a4c4453e4b09a71fd8acd21f3a1b49bec5c84962fee", func := "barscan/barscanlaw02.BigintRoundTrips", spec := "bigintRoundTrips", apart := false, narrowed := true }
def BigintRoundTripsUptoSaid : Prop := bigintRoundTripsUptoRow.holds Try.pinned (OpenSpec.upto bigintRoundTripsSpec)

end Rows
end Go.Proofs.Ytebbpodcldndjaa
