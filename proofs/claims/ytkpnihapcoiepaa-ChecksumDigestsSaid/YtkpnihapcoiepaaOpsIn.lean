/- A list of calls that comes in. -/
import Derived.Test.YtkpnihapcoiepaaFrame
import Derived.Test.YtkpnihapcoiepaaDg
import Derived.Deep.Slices
set_option linter.unusedVariables false
namespace Go.Proofs.Ytkpnihapcoiepaa
open Go.ChangeShapes Go.WideShapes Go.ChangeAt Go.RowKit Go.Deep

instance : Inhabited OpV := ⟨⟨0, 0, none, 0, []⟩⟩
section
variable {H : Type} {enc : TypeId × Value → H} {w : World} {base fuel : Nat} {held : Bool} {v : Value} {x : DataW H × List MemPlace}
theorem u8_in (h : DataW.trod enc Try.prog w base (fun _ => true) held fuel 5 [v] = some x) : ∃ n, v = .int .u8 n ∧ 0 ≤ n ∧ n ≤ 255 := by
  obtain ⟨n, e, _, hw⟩ := DataW.trod_int Try.underlying5 h
  simp at e
  exact ⟨n, e, by simpa [Lit.wf, IntKind.min, IntKind.max, IntKind.signed, IntKind.bits] using hw⟩
theorem ops_in (h : DataW.trod enc Try.prog w base (fun _ => true) held fuel 36 [v] = some x) : ∃ A n c ops, v = .slice A n c ∧ OpsIn w w.heap.size A n c ops := by
  rcases open_slice Try.underlying36 h with ⟨hcs, _⟩ | ⟨a, len, cap, m, n, D, Pl, hcs, _, hl, hm, hmm, _, hx⟩
  · simp at hcs
    exact ⟨none, 0, 0, [], hcs, ⟨rfl, Nat.le_refl _, Nat.zero_le _, fun h => absurd h (by omega), fun o ho => by cases ho⟩⟩
  · simp at hcs hmm
    have c3 : Try.prog.cellsOf 43 = 3 := by kernel_rfl
    have each : ∀ i, i < m → ∃ o : OpV, w.cell? (a.add (i * 3)) = some (.int .u8 o.kind) ∧ w.cell? (a.add (i * 3 + 1)) = some (.int .u8 o.on) ∧ w.cell? (a.add (i * 3 + 2)) = some (.slice o.A o.P.length o.c) ∧
        (0 ≤ o.kind ∧ o.kind ≤ 255) ∧ (0 ≤ o.on ∧ o.on ≤ 255) ∧ Sl w w.heap.size o.A o.P.length o.c (byl o.P) ∧ Byt o.P := by
      intro i hi
      obtain ⟨cs', h1, h2⟩ := hx i hi
      rw [c3] at h1
      obtain ⟨_, hlen, hcell⟩ := World.cells?_some h1
      obtain ⟨xs, k, hk, hxy, _, hxl, hf⟩ := DataW.trod_struct Try.underlying43 h2
      match xs, hxl, cs', hlen with
      | [y0, y1, y2], _, [v0, v1, v2], _ =>
        have g0 := hf 0 _ rfl
        have g1 := hf 1 _ rfl
        have g2 := hf 2 _ rfl
        simp only [List.getElem?_cons_zero, List.getElem?_cons_succ] at g0 g1 g2
        obtain ⟨n0, rfl, b0⟩ := u8_in g0
        obtain ⟨n1, rfl, b1⟩ := u8_in g1
        obtain ⟨A2, n2, k2, l2, rfl, s2, w2⟩ := bytes_in g2
        have hn2 : l2.length = n2 := by rw [← length_byl]; exact s2.len
        subst hn2
        have e0 := hcell 0 (by omega)
        have e1 := hcell 1 (by omega)
        have e2 := hcell 2 (by omega)
        rw [add_add] at e0 e1 e2
        exact ⟨⟨n0, n1, A2, k2, l2⟩, by simpa using e0, by simpa using e1, by simpa using e2, b0, b1, s2, w2⟩
    obtain ⟨F, hF⟩ := choose_lt each
    refine ⟨some a, len, cap, (List.range len).map F, hcs, ⟨by simp, hl, hm, fun hn => ?_, fun o ho => ?_⟩⟩
    · have hc0 := (hF 0 (by omega)).1
      obtain ⟨b, off, spot⟩ := a
      have hspot : spot = none := by simpa [Addr.add] using World.cell?_spot hc0
      subst hspot
      refine ⟨b, off, rfl, ?_, fun j hj => ?_⟩
      · have := World.block_lt_of_cell? w _ hc0
        simpa [Addr.add] using this
      · have hj' : j < len := by simpa using hj
        obtain ⟨k0, k1, k2, _⟩ := hF j (by omega)
        rw [Addr.add_lit] at k0 k1 k2
        have e : ((List.range len).map F)[j] = F j := by simp
        rw [e]
        exact ⟨k0, by rw [Nat.add_assoc]; exact k1, by rw [Nat.add_assoc]; exact k2⟩
    · obtain ⟨j, hj, rfl⟩ := List.mem_map.1 ho
      have hj' : j < len := List.mem_range.1 hj
      exact (hF j (by omega)).2.2.2
end
end Go.Proofs.Ytkpnihapcoiepaa
