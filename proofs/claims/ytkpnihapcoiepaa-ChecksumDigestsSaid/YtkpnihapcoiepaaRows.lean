/-
  No cell of these rows narrows 'for every input' (looked for: loops, veiled, ifaces, maps, wideKeys, modest, calm, conditions, laid).
  DERIVED. THE GIVEN ROWS OF THIS SEAT. 11 by the template 'for every input the law returns true; each argument reads behind the call as it read before'; 0 by the template 'total and deterministic' (their statements: YtkpnihapcoiepaaTotals.lean).
  GIVEN WITH THE SEED: the statements are not yours to turn. If you find one false, say at which input.
  Laid BY PROGRAM, IN A SANDBOX (cutbox-rows.mjs): the forced cells as the released guide's own fill.sh prints them over the translation ecd39e3790192ac3… (all of the seat's roots in one cut). By AI agents, Wed Nov 11 2026. No macro, syntax, notation, axiom, sorry.
-/
import Derived.Test.YtkpnihapcoiepaaChecked
import GoSem.Claim
import GoSem.ClaimJoined
import GoSem.ClaimMapViews
import Derived.JoinedTies
import Derived.KernelRfl
namespace Go.Proofs.Ytkpnihapcoiepaa
/- THE CELL 'sum', in the pinned program and in every row, IS THE sha256 OF THE DUMP (.gsa) THAT YtkpnihapcoiepaaProg.lean LOADS. Nothing in Lean hashes anything: it is a label: what it is worth is what the hold of that sum in a sandbox is worth. -/
noncomputable def Try.pinned : Pinned := { name := "ytkpnihapcoiepaa", sum := "ecd39e3790192ac3b8d728520de4ebd5f92e38dcd907a2a3805ca287be107771", checked := Try.checked }
namespace Rows
def none {H : Type} : Left H := { results := [], args := [] }

/-- 'barscanlaw06.ChecksumCRC32': WHATEVER THE INPUT: true; the input reads as it did. -/
def checksumCRC32Spec : ChangeSpec := { name := "checksumCRC32", fn := fun _ => fun
  | [d] => { results := [.lit (.bool true)], args := [d] }
  | _ => none }
def checksumCRC32Row : OpenClaim := { program := "ytkpnihapcoiepaa", sum := "ecd39e3790192ac3b8d728520de4ebd5f92e38dcd907a2a3805ca287be107771", func := "barscan/barscanlaw06.ChecksumCRC32", spec := "checksumCRC32", apart := false }
def ChecksumCRC32Said : Prop := checksumCRC32Row.holds Try.pinned (OpenSpec.ofChange checksumCRC32Spec)

/-- ITS FALSE NEIGHBOUR: 'it returns false'. Refute it at one input. -/
def checksumCRC32Wrong : ChangeSpec := { name := "checksumCRC32", fn := fun _ => fun
  | [d] => { results := [.lit (.bool false)], args := [d] }
  | _ => none }
def ChecksumCRC32WrongFalsely : Prop := checksumCRC32Row.holds Try.pinned (OpenSpec.ofChange checksumCRC32Wrong)

/-- 'barscanlaw06.ChecksumCRC16': WHATEVER THE INPUT: true; the input reads as it did. -/
def checksumCRC16Spec : ChangeSpec := { name := "checksumCRC16", fn := fun _ => fun
  | [d] => { results := [.lit (.bool true)], args := [d] }
  | _ => none }
def checksumCRC16Row : OpenClaim := { program := "ytkpnihapcoiepaa", sum := "ecd39e3790192ac3b8d728520de4ebd5f92e38dcd907a2a3805ca287be107771", func := "barscan/barscanlaw06.ChecksumCRC16", spec := "checksumCRC16", apart := false }
def ChecksumCRC16Said : Prop := checksumCRC16Row.holds Try.pinned (OpenSpec.ofChange checksumCRC16Spec)

/-- ITS FALSE NEIGHBOUR: 'it returns false'. Refute it at one input. -/
def checksumCRC16Wrong : ChangeSpec := { name := "checksumCRC16", fn := fun _ => fun
  | [d] => { results := [.lit (.bool false)], args := [d] }
  | _ => none }
def ChecksumCRC16WrongFalsely : Prop := checksumCRC16Row.holds Try.pinned (OpenSpec.ofChange checksumCRC16Wrong)

/-- 'barscanlaw06.ChecksumAdler': WHATEVER THE INPUT: true; the input reads as it did. -/
def checksumAdlerSpec : ChangeSpec := { name := "checksumAdler", fn := fun _ => fun
  | [d] => { results := [.lit (.bool true)], args := [d] }
  | _ => none }
def checksumAdlerRow : OpenClaim := { program := "ytkpnihapcoiepaa", sum := "ecd39e3790192ac3b8d728520de4ebd5f92e38dcd907a2a3805ca287be107771", func := "barscan/barscanlaw06.ChecksumAdler", spec := "checksumAdler", apart := false }
def ChecksumAdlerSaid : Prop := checksumAdlerRow.holds Try.pinned (OpenSpec.ofChange checksumAdlerSpec)

/-- ITS FALSE NEIGHBOUR: 'it returns false'. Refute it at one input. -/
def checksumAdlerWrong : ChangeSpec := { name := "checksumAdler", fn := fun _ => fun
  | [d] => { results := [.lit (.bool false)], args := [d] }
  | _ => none }
def ChecksumAdlerWrongFalsely : Prop := checksumAdlerRow.holds Try.pinned (OpenSpec.ofChange checksumAdlerWrong)

/-- 'barscanlaw06.ChecksumCombines': WHATEVER THE INPUT: true; the input reads as it did. -/
def checksumCombinesSpec : ChangeSpec := { name := "checksumCombines", fn := fun _ => fun
  | [d1, d2, d3] => { results := [.lit (.bool true)], args := [d1, d2, d3] }
  | _ => none }
def checksumCombinesRow : OpenClaim := { program := "ytkpnihapcoiepaa", sum := "ecd39e3790192ac3b8d728520de4ebd5f92e38dcd907a2a3805ca287be107771", func := "barscan/barscanlaw06.ChecksumCombines", spec := "checksumCombines", apart := false }
def ChecksumCombinesSaid : Prop := checksumCombinesRow.holds Try.pinned (OpenSpec.ofChange checksumCombinesSpec)

/-- ITS FALSE NEIGHBOUR: 'it returns false'. Refute it at one input. -/
def checksumCombinesWrong : ChangeSpec := { name := "checksumCombines", fn := fun _ => fun
  | [d1, d2, d3] => { results := [.lit (.bool false)], args := [d1, d2, d3] }
  | _ => none }
def ChecksumCombinesWrongFalsely : Prop := checksumCombinesRow.holds Try.pinned (OpenSpec.ofChange checksumCombinesWrong)

/-- 'barscanlaw06.ChecksumJoins': WHATEVER THE INPUT: true; the input reads as it did. -/
def checksumJoinsSpec : ChangeSpec := { name := "checksumJoins", fn := fun _ => fun
  | [d1, d2] => { results := [.lit (.bool true)], args := [d1, d2] }
  | _ => none }
def checksumJoinsRow : OpenClaim := { program := "ytkpnihapcoiepaa", sum := "ecd39e3790192ac3b8d728520de4ebd5f92e38dcd907a2a3805ca287be107771", func := "barscan/barscanlaw06.ChecksumJoins", spec := "checksumJoins", apart := false }
def ChecksumJoinsSaid : Prop := checksumJoinsRow.holds Try.pinned (OpenSpec.ofChange checksumJoinsSpec)

/-- ITS FALSE NEIGHBOUR: 'it returns false'. Refute it at one input. -/
def checksumJoinsWrong : ChangeSpec := { name := "checksumJoins", fn := fun _ => fun
  | [d1, d2] => { results := [.lit (.bool false)], args := [d1, d2] }
  | _ => none }
def ChecksumJoinsWrongFalsely : Prop := checksumJoinsRow.holds Try.pinned (OpenSpec.ofChange checksumJoinsWrong)

/-- 'barscanlaw06.ChecksumAssociative': WHATEVER THE INPUT: true; the input reads as it did. -/
def checksumAssociativeSpec : ChangeSpec := { name := "checksumAssociative", fn := fun _ => fun
  | [d1, d2, d3] => { results := [.lit (.bool true)], args := [d1, d2, d3] }
  | _ => none }
def checksumAssociativeRow : OpenClaim := { program := "ytkpnihapcoiepaa", sum := "ecd39e3790192ac3b8d728520de4ebd5f92e38dcd907a2a3805ca287be107771", func := "barscan/barscanlaw06.ChecksumAssociative", spec := "checksumAssociative", apart := false }
def ChecksumAssociativeSaid : Prop := checksumAssociativeRow.holds Try.pinned (OpenSpec.ofChange checksumAssociativeSpec)

/-- ITS FALSE NEIGHBOUR: 'it returns false'. Refute it at one input. -/
def checksumAssociativeWrong : ChangeSpec := { name := "checksumAssociative", fn := fun _ => fun
  | [d1, d2, d3] => { results := [.lit (.bool false)], args := [d1, d2, d3] }
  | _ => none }
def ChecksumAssociativeWrongFalsely : Prop := checksumAssociativeRow.holds Try.pinned (OpenSpec.ofChange checksumAssociativeWrong)

/-- 'barscanlaw06.ChecksumDigests': WHATEVER THE INPUT: true; the input reads as it did. -/
def checksumDigestsSpec : ChangeSpec := { name := "checksumDigests", fn := fun _ => fun
  | [d] => { results := [.lit (.bool true)], args := [d] }
  | _ => none }
def checksumDigestsRow : OpenClaim := { program := "ytkpnihapcoiepaa", sum := "ecd39e3790192ac3b8d728520de4ebd5f92e38dcd907a2a3805ca287be107771", func := "barscan/barscanlaw06.ChecksumDigests", spec := "checksumDigests", apart := false }
def ChecksumDigestsSaid : Prop := checksumDigestsRow.holds Try.pinned (OpenSpec.ofChange checksumDigestsSpec)

/-- ITS FALSE NEIGHBOUR: 'it returns false'. Refute it at one input. -/
def checksumDigestsWrong : ChangeSpec := { name := "checksumDigests", fn := fun _ => fun
  | [d] => { results := [.lit (.bool false)], args := [d] }
  | _ => none }
def ChecksumDigestsWrongFalsely : Prop := checksumDigestsRow.holds Try.pinned (OpenSpec.ofChange checksumDigestsWrong)

/-- 'barscanlaw06.ChecksumNils': WHATEVER THE INPUT: true; the input reads as it did. -/
def checksumNilsSpec : ChangeSpec := { name := "checksumNils", fn := fun _ => fun
  | [d] => { results := [.lit (.bool true)], args := [d] }
  | _ => none }
def checksumNilsRow : OpenClaim := { program := "ytkpnihapcoiepaa", sum := "ecd39e3790192ac3b8d728520de4ebd5f92e38dcd907a2a3805ca287be107771", func := "barscan/barscanlaw06.ChecksumNils", spec := "checksumNils", apart := false }
def ChecksumNilsSaid : Prop := checksumNilsRow.holds Try.pinned (OpenSpec.ofChange checksumNilsSpec)

/-- ITS FALSE NEIGHBOUR: 'it returns false'. Refute it at one input. -/
def checksumNilsWrong : ChangeSpec := { name := "checksumNils", fn := fun _ => fun
  | [d] => { results := [.lit (.bool false)], args := [d] }
  | _ => none }
def ChecksumNilsWrongFalsely : Prop := checksumNilsRow.holds Try.pinned (OpenSpec.ofChange checksumNilsWrong)

/-- 'barscanlaw06.ChecksumLinear': WHATEVER THE INPUT: true; the input reads as it did. -/
def checksumLinearSpec : ChangeSpec := { name := "checksumLinear", fn := fun _ => fun
  | [d1, d2] => { results := [.lit (.bool true)], args := [d1, d2] }
  | _ => none }
def checksumLinearRow : OpenClaim := { program := "ytkpnihapcoiepaa", sum := "ecd39e3790192ac3b8d728520de4ebd5f92e38dcd907a2a3805ca287be107771", func := "barscan/barscanlaw06.ChecksumLinear", spec := "checksumLinear", apart := false }
def ChecksumLinearSaid : Prop := checksumLinearRow.holds Try.pinned (OpenSpec.ofChange checksumLinearSpec)

/-- ITS FALSE NEIGHBOUR: 'it returns false'. Refute it at one input. -/
def checksumLinearWrong : ChangeSpec := { name := "checksumLinear", fn := fun _ => fun
  | [d1, d2] => { results := [.lit (.bool false)], args := [d1, d2] }
  | _ => none }
def ChecksumLinearWrongFalsely : Prop := checksumLinearRow.holds Try.pinned (OpenSpec.ofChange checksumLinearWrong)

/-- 'barscanlaw06.ChecksumBursts': WHATEVER THE INPUT: true; the input reads as it did. -/
def checksumBurstsSpec : ChangeSpec := { name := "checksumBursts", fn := fun _ => fun
  | [d1, d2, d3] => { results := [.lit (.bool true)], args := [d1, d2, d3] }
  | _ => none }
def checksumBurstsRow : OpenClaim := { program := "ytkpnihapcoiepaa", sum := "ecd39e3790192ac3b8d728520de4ebd5f92e38dcd907a2a3805ca287be107771", func := "barscan/barscanlaw06.ChecksumBursts", spec := "checksumBursts", apart := false }
def ChecksumBurstsSaid : Prop := checksumBurstsRow.holds Try.pinned (OpenSpec.ofChange checksumBurstsSpec)

/-- ITS FALSE NEIGHBOUR: 'it returns false'. Refute it at one input. -/
def checksumBurstsWrong : ChangeSpec := { name := "checksumBursts", fn := fun _ => fun
  | [d1, d2, d3] => { results := [.lit (.bool false)], args := [d1, d2, d3] }
  | _ => none }
def ChecksumBurstsWrongFalsely : Prop := checksumBurstsRow.holds Try.pinned (OpenSpec.ofChange checksumBurstsWrong)

/-- 'barscanlaw06.ChecksumBytes': WHATEVER THE INPUT: true; the input reads as it did. -/
def checksumBytesSpec : ChangeSpec := { name := "checksumBytes", fn := fun _ => fun
  | [d1, d2, d3] => { results := [.lit (.bool true)], args := [d1, d2, d3] }
  | _ => none }
def checksumBytesRow : OpenClaim := { program := "ytkpnihapcoiepaa", sum := "ecd39e3790192ac3b8d728520de4ebd5f92e38dcd907a2a3805ca287be107771", func := "barscan/barscanlaw06.ChecksumBytes", spec := "checksumBytes", apart := false }
def ChecksumBytesSaid : Prop := checksumBytesRow.holds Try.pinned (OpenSpec.ofChange checksumBytesSpec)

/-- ITS FALSE NEIGHBOUR: 'it returns false'. Refute it at one input. -/
def checksumBytesWrong : ChangeSpec := { name := "checksumBytes", fn := fun _ => fun
  | [d1, d2, d3] => { results := [.lit (.bool false)], args := [d1, d2, d3] }
  | _ => none }
def ChecksumBytesWrongFalsely : Prop := checksumBytesRow.holds Try.pinned (OpenSpec.ofChange checksumBytesWrong)

/- THE SECOND FORM. 'bulk': how many values and letters a reading holds, each counted each time it is reached (what is shared counts as often as it is met; a slice's spare places count too). A statement '..UptoSaid' is the law's where the arguments, and the package variables that the reading takes, are together of bulk at most 1048576: NARROWER than '..Said'. Prove '..Said' where nothing that the law and all that it calls make is longer than what came in: it says more and counts as full. Else prove '..UptoSaid'. A law counts once. -/
mutual
def uptoBulk {H : Type} : DataW H → Nat
  | .lit (.string bytes) => bytes.length + 1
  | .lit _ => 1
  | .nil => 1
  | .ptr d => uptoBulk d + 1
  | .slice elems spare => uptoBulkAll elems + uptoBulkAll spare + 1
  | .agg parts => uptoBulkAll parts + 1
  | .iface _ d => uptoBulk d + 1
  | .map entries => uptoBulkEntries entries + 1
  | .held _ => 1
def uptoBulkAll {H : Type} : List (DataW H) → Nat
  | [] => 0
  | d :: r => uptoBulk d + uptoBulkAll r
def uptoBulkEntries {H : Type} : List (Lit × DataW H) → Nat
  | [] => 0
  | x :: r => uptoBulkEntry x + uptoBulkEntries r
def uptoBulkEntry {H : Type} : Lit × DataW H → Nat
  | (.string bytes, d) => bytes.length + uptoBulk d + 1
  | (_, d) => uptoBulk d + 1
 end
def uptoSmall : (H : Type) → List (DataW H) → Bool := fun _ ds => decide (uptoBulkAll ds ≤ 1048576)
def OpenSpec.upto (s : _root_.Go.ChangeSpec) : _root_.Go.OpenSpec := { _root_.Go.OpenSpec.ofChange s with cond := some uptoSmall }

/-- 'barscanlaw06.ChecksumCRC32', WHERE WHAT IT READS IS OF BULK AT MOST 1048576: true; the input reads as it did. -/
def checksumCRC32UptoRow : OpenClaim := { program := "ytkpnihapcoiepaa", sum := "ecd39e3790192ac3b8d728520de4ebd5f92e38dcd907a2a3805ca287be107771", func := "barscan/barscanlaw06.ChecksumCRC32", spec := "checksumCRC32", apart := false, narrowed := true }
def ChecksumCRC32UptoSaid : Prop := checksumCRC32UptoRow.holds Try.pinned (OpenSpec.upto checksumCRC32Spec)

/-- 'barscanlaw06.ChecksumCRC16', WHERE WHAT IT READS IS OF BULK AT MOST 1048576: true; the input reads as it did. -/
def checksumCRC16UptoRow : OpenClaim := { program := "ytkpnihapcoiepaa", sum := "ecd39e3790192ac3b8d728520de4ebd5f92e38dcd907a2a3805ca287be107771", func := "barscan/barscanlaw06.ChecksumCRC16", spec := "checksumCRC16", apart := false, narrowed := true }
def ChecksumCRC16UptoSaid : Prop := checksumCRC16UptoRow.holds Try.pinned (OpenSpec.upto checksumCRC16Spec)

/-- 'barscanlaw06.ChecksumAdler', WHERE WHAT IT READS IS OF BULK AT MOST 1048576: true; the input reads as it did. -/
def checksumAdlerUptoRow : OpenClaim := { program := "ytkpnihapcoiepaa", sum := "ecd39e3790192ac3b8d728520de4ebd5f92e38dcd907a2a3805ca287be107771", func := "barscan/barscanlaw06.ChecksumAdler", spec := "checksumAdler", apart := false, narrowed := true }
def ChecksumAdlerUptoSaid : Prop := checksumAdlerUptoRow.holds Try.pinned (OpenSpec.upto checksumAdlerSpec)

/-- 'barscanlaw06.ChecksumCombines', WHERE WHAT IT READS IS OF BULK AT MOST 1048576: true; the input reads as it did. -/
def checksumCombinesUptoRow : OpenClaim := { program := "ytkpnihapcoiepaa", sum := "ecd39e3790192ac3b8d728520de4ebd5f92e38dcd907a2a3805ca287be107771", func := "barscan/barscanlaw06.ChecksumCombines", spec := "checksumCombines", apart := false, narrowed := true }
def ChecksumCombinesUptoSaid : Prop := checksumCombinesUptoRow.holds Try.pinned (OpenSpec.upto checksumCombinesSpec)

/-- 'barscanlaw06.ChecksumJoins', WHERE WHAT IT READS IS OF BULK AT MOST 1048576: true; the input reads as it did. -/
def checksumJoinsUptoRow : OpenClaim := { program := "ytkpnihapcoiepaa", sum := "ecd39e3790192ac3b8d728520de4ebd5f92e38dcd907a2a3805ca287be107771", func := "barscan/barscanlaw06.ChecksumJoins", spec := "checksumJoins", apart := false, narrowed := true }
def ChecksumJoinsUptoSaid : Prop := checksumJoinsUptoRow.holds Try.pinned (OpenSpec.upto checksumJoinsSpec)

/-- 'barscanlaw06.ChecksumAssociative', WHERE WHAT IT READS IS OF BULK AT MOST 1048576: true; the input reads as it did. -/
def checksumAssociativeUptoRow : OpenClaim := { program := "ytkpnihapcoiepaa", sum := "ecd39e3790192ac3b8d728520de4ebd5f92e38dcd907a2a3805ca287be107771", func := "barscan/barscanlaw06.ChecksumAssociative", spec := "checksumAssociative", apart := false, narrowed := true }
def ChecksumAssociativeUptoSaid : Prop := checksumAssociativeUptoRow.holds Try.pinned (OpenSpec.upto checksumAssociativeSpec)

/-- 'barscanlaw06.ChecksumDigests', WHERE WHAT IT READS IS OF BULK AT MOST 1048576: true; the input reads as it did. -/
def checksumDigestsUptoRow : OpenClaim := { program := "ytkpnihapcoiepaa", sum := "ecd39e3790192ac3b8d728520de4ebd5f92e38dcd907a2a3805ca287be107771", func := "barscan/barscanlaw06.ChecksumDigests", spec := "checksumDigests", apart := false, narrowed := true }
def ChecksumDigestsUptoSaid : Prop := checksumDigestsUptoRow.holds Try.pinned (OpenSpec.upto checksumDigestsSpec)

/-- 'barscanlaw06.ChecksumNils', WHERE WHAT IT READS IS OF BULK AT MOST 1048576: true; the input reads as it did. -/
def checksumNilsUptoRow : OpenClaim := { program := "ytkpnihapcoiepaa", sum := "ecd39e3790192ac3b8d728520de4ebd5f92e38dcd907a2a3805ca287be107771", func := "barscan/barscanlaw06.ChecksumNils", spec := "checksumNils", apart := false, narrowed := true }
def ChecksumNilsUptoSaid : Prop := checksumNilsUptoRow.holds Try.pinned (OpenSpec.upto checksumNilsSpec)

/-- 'barscanlaw06.ChecksumLinear', WHERE WHAT IT READS IS OF BULK AT MOST 1048576: true; the input reads as it did. -/
def checksumLinearUptoRow : OpenClaim := { program := "ytkpnihapcoiepaa", sum := "ecd39e3790192ac3b8d728520de4ebd5f92e38dcd907a2a3805ca287be107771", func := "barscan/barscanlaw06.ChecksumLinear", spec := "checksumLinear", apart := false, narrowed := true }
def ChecksumLinearUptoSaid : Prop := checksumLinearUptoRow.holds Try.pinned (OpenSpec.upto checksumLinearSpec)

/-- 'barscanlaw06.ChecksumBursts', WHERE WHAT IT READS IS OF BULK AT MOST 1048576: true; the input reads as it did. -/
def checksumBurstsUptoRow : OpenClaim := { program := "ytkpnihapcoiepaa", sum := "ecd39e3790192ac3b8d728520de4ebd5f92e38dcd907a2a3805ca287be107771", func := "barscan/barscanlaw06.ChecksumBursts", spec := "checksumBursts", apart := false, narrowed := true }
def ChecksumBurstsUptoSaid : Prop := checksumBurstsUptoRow.holds Try.pinned (OpenSpec.upto checksumBurstsSpec)

/-- 'barscanlaw06.ChecksumBytes', WHERE WHAT IT READS IS OF BULK AT MOST 1048576: true; the input reads as it did. -/
def checksumBytesUptoRow : OpenClaim := { program := "ytkpnihapcoiepaa", sum := "ecd39e3790192ac3b8d728520de4ebd5f92e38dcd907a2a3805ca287be107771", func := "barscan/barscanlaw06.ChecksumBytes", spec := "checksumBytes", apart := false, narrowed := true }
def ChecksumBytesUptoSaid : Prop := checksumBytesUptoRow.holds Try.pinned (OpenSpec.upto checksumBytesSpec)

end Rows
end Go.Proofs.Ytkpnihapcoiepaa
