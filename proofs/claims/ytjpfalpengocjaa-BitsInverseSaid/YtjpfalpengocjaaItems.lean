/- A slice of items that comes in. -/
import Derived.Test.YtjpfalpengocjaaFrame
import Derived.Test.YtjpfalpengocjaaInverse
import Derived.Deep.SlicePairs
set_option linter.unusedVariables false
namespace Go.Proofs.Ytjpfalpengocjaa
open Go.ChangeShapes Go.WideShapes Go.ChangeAt Go.RowKit Go.Deep

theorem items_in {H : Type} {enc : TypeId × Value → H} {w : World} {base fuel : Nat} {held : Bool} {v : Value} {x : DataW H × List MemPlace}
    (h : DataW.trod enc Try.prog w base (fun _ => true) held fuel 55 [v] = some x) : ∃ A n c l, v = .slice A n c ∧ It w w.heap.size A n c l := by
  rcases open_slice_pairs Try.underlying55 Try.underlying24 (by kernel_rfl) rfl rfl (by kernel_rfl) (by kernel_rfl) h with ⟨hcs, _⟩ | ⟨a, len, cap, m, n, V0, V1, D0, D1, P0, P1, hcs, _, hl, hm, hmm, _, hc⟩
  · simp at hcs
    exact ⟨none, 0, 0, [], hcs, ⟨rfl, Nat.le_refl _, Nat.zero_le _, fun h => absurd h (by omega)⟩⟩
  · simp at hcs hmm
    have hv : ∀ i, i < m → ∃ p : Int × Int, V0 i = .int .i64 p.1 ∧ V1 i = .int .i64 p.2 := by
      intro i hi
      obtain ⟨_, _, h0, h1⟩ := hc i hi
      obtain ⟨a0, e0, _⟩ := int_in h0
      obtain ⟨a1, e1, _⟩ := int_in h1
      exact ⟨(a0, a1), e0, e1⟩
    obtain ⟨F, hF⟩ := choose_lt (α := Int × Int) (p := fun i p => V0 i = .int .i64 p.1 ∧ V1 i = .int .i64 p.2) hv
    refine ⟨some a, len, cap, (List.range len).map F, hcs, ⟨by simp, hl, hm, fun hn => ?_⟩⟩
    have hc0 := (hc 0 (by omega)).1
    obtain ⟨b, off, spot⟩ := a
    have hspot : spot = none := by simpa [Addr.add] using World.cell?_spot hc0
    subst hspot
    refine ⟨b, off, rfl, ?_, fun j hj => ?_⟩
    · have := World.block_lt_of_cell? w _ hc0
      simpa [Addr.add] using this
    · obtain ⟨k0, k1, _⟩ := hc j (by omega)
      obtain ⟨f0, f1⟩ := hF j (by omega)
      rw [Addr.add_lit] at k0 k1
      rw [f0] at k0
      rw [f1] at k1
      have e : ((List.range len).map F).getD j (0, 0) = F j := by simp [List.getD, hj]
      rw [e]
      exact ⟨k0, by rw [Nat.add_assoc]; exact k1⟩
end Go.Proofs.Ytjpfalpengocjaa
