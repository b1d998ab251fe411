/- From a law's arguments, as data, to what its walk is told of them. -/
import Derived.Test.YtjobcobgmajajaaRows
import Derived.Test.YtjobcobgmajajaaKit
import Derived.ProofKit
import Derived.OpenShut
import Derived.ShutString
import Derived.ChangeOld
import Derived.Lib.SmallJoins
import Derived.Deep.Grids
set_option linter.unusedVariables false
namespace Go.Proofs.Ytjobcobgmajajaa
open Go.ChangeShapes Go.WideShapes Go.ChangeAt Go.RowKit Go.Deep

theorem own : ownKnob Try.prog.godebug = none := by kernel_rfl
theorem laidOut : laidOutB Try.prog = true := by kernel_rfl

theorem sl_of_cells {w : World} {a : Addr} {len cap : Nat} (xs : List Value) (hx : xs.length = len) (hl : len ≤ cap) (hm : cap ≤ maxLen) (hc : ∀ i u, xs[i]? = some u → w.cell? (a.add i) = some u) :
    Sl w w.heap.size (some a) len cap xs := by
  refine ⟨hx, hl, hm, fun h => (by cases h), fun hn => ?_⟩
  have h0 : xs[0]? = some (xs[0]'(by omega)) := List.getElem?_eq_getElem (by omega)
  have hc0 := hc 0 _ h0
  obtain ⟨b, off, spot⟩ := a
  have hspot : spot = none := by simpa [Addr.add] using World.cell?_spot hc0
  subst hspot
  refine ⟨b, off, rfl, ?_, fun j u hu => ?_⟩
  · have := World.block_lt_of_cell? w _ hc0
    simpa [Addr.add] using this
  · have := hc j u hu
    rwa [Addr.add_lit] at this

section
variable {H : Type} {enc : TypeId × Value → H} {w : World} {base fuel : Nat} {held : Bool} {v : Value} {x : DataW H × List MemPlace}
theorem bools_in (h : DataW.trod enc Try.prog w base (fun _ => true) held fuel 25 [v] = some x) : ∃ A n c l, v = .slice A n c ∧ Sl w w.heap.size A n c (bl l) := by
  rcases open_bools Try.underlying25 Try.underlying4 (by kernel_rfl) h with ⟨hcs, _⟩ | ⟨a, len, cap, B, hcs, _, hl, hm, _, hc⟩
  · simp at hcs
    exact ⟨none, 0, 0, [], hcs, Sl.none_ _ _⟩
  · simp at hcs
    refine ⟨some a, len, cap, (List.range len).map B, hcs, sl_of_cells _ (by simp [bl]) hl hm fun i u hu => ?_⟩
    have hi : i < len := by
      have := (List.getElem?_eq_some_iff.1 hu).1
      simpa [bl] using this
    simp [bl, hi] at hu
    subst hu
    exact hc i (by omega)
theorem ints_in (h : DataW.trod enc Try.prog w base (fun _ => true) held fuel 22 [v] = some x) : ∃ A n c l, v = .slice A n c ∧ Sl w w.heap.size A n c (il l) ∧ ∀ y ∈ l, -9223372036854775808 ≤ y ∧ y ≤ 9223372036854775807 := by
  rcases open_ints Try.underlying22 Try.underlying3 (by kernel_rfl) h with ⟨hcs, _⟩ | ⟨a, len, cap, zs, hcs, _, hl, hm, hz, _, hc, hw⟩
  · simp at hcs
    exact ⟨none, 0, 0, [], hcs, Sl.none_ _ _, by simp⟩
  · simp at hcs hz
    refine ⟨some a, len, cap, zs.take len, hcs, sl_of_cells _ (by rw [length_il, List.length_take]; omega) hl hm fun i u hu => ?_, fun y hy => ?_⟩
    · have hi : i < len := by
        have := (List.getElem?_eq_some_iff.1 hu).1
        rw [length_il, List.length_take] at this
        omega
      have hiz : i < zs.length := by omega
      have hv := hc i hiz
      simp only [il, List.getElem?_map, List.getElem?_take, if_pos hi, List.getElem?_eq_getElem hiz, Option.map_some, Option.some.injEq] at hu
      subst hu
      rw [hv]
      simp [List.getD, hiz]
    · have := hw y (List.mem_of_mem_take hy)
      simpa [Lit.wf, IntKind.min, IntKind.max, IntKind.signed, IntKind.bits] using this
theorem int_in (h : DataW.trod enc Try.prog w base (fun _ => true) held fuel 3 [v] = some x) : ∃ n, v = .int .i64 n ∧ -9223372036854775808 ≤ n ∧ n ≤ 9223372036854775807 := by
  obtain ⟨n, e, _, hw⟩ := DataW.trod_int Try.underlying3 h
  simp at e
  exact ⟨n, e, by simpa [Lit.wf, IntKind.min, IntKind.max, IntKind.signed, IntKind.bits] using hw⟩
theorem bool_in (h : DataW.trod enc Try.prog w base (fun _ => true) held fuel 4 [v] = some x) : ∃ n, v = .bool n := by
  obtain ⟨n, e, _⟩ := DataW.trod_bool Try.underlying4 h
  simp at e
  exact ⟨n, e⟩
end
end Go.Proofs.Ytjobcobgmajajaa
