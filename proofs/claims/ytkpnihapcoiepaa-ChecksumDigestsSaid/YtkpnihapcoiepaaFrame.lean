/- From a law's arguments, as data, to what its walk is told of them. -/
import Derived.Test.YtkpnihapcoiepaaRows
import Derived.Test.YtkpnihapcoiepaaKit
import Derived.ProofKit
import Derived.OpenShut
import Derived.ShutString
import Derived.ChangeOld
import Derived.Lib.SmallJoins
import Derived.Deep.Grids
import Derived.Laws.IdiomArrays
set_option linter.unusedVariables false
namespace Go.Proofs.Ytkpnihapcoiepaa
open Go.ChangeShapes Go.WideShapes Go.ChangeAt Go.RowKit Go.Deep

theorem own : ownKnob Try.prog.godebug = none := by kernel_rfl
theorem laidOut : laidOutB Try.prog = true := by kernel_rfl

theorem sl_of_cells {w : World} {a : Addr} {len cap : Nat} (xs : List Value) (hx : xs.length = len) (hl : len ≤ cap) (hm : cap ≤ maxLen) (hc : ∀ i u, xs[i]? = some u → w.cell? (a.add i) = some u) :
    Sl w w.heap.size (some a) len cap xs := by
  refine ⟨hx, hl, hm, fun h => (by cases h), fun hn => ?_⟩
  have h0 : xs[0]? = some (xs[0]'(by omega)) := List.getElem?_eq_getElem (by omega)
  have hc0 := hc 0 _ h0
  obtain ⟨b, off, spot⟩ := a
  have hspot : spot = none := by simpa [Addr.add] using World.cell?_spot hc0
  subst hspot
  refine ⟨b, off, rfl, ?_, fun j u hu => ?_⟩
  · have := World.block_lt_of_cell? w _ hc0
    simpa [Addr.add] using this
  · have := hc j u hu
    rwa [Addr.add_lit] at this

section
variable {H : Type} {enc : TypeId × Value → H} {w : World} {base fuel : Nat} {held : Bool} {v : Value} {x : DataW H × List MemPlace}
theorem bytes_in (h : DataW.trod enc Try.prog w base (fun _ => true) held fuel 22 [v] = some x) : ∃ A n c l, v = .slice A n c ∧ Sl w w.heap.size A n c (byl l) ∧ ∀ y ∈ l, y < 256 := by
  rcases open_ints Try.underlying22 Try.underlying5 (by kernel_rfl) h with ⟨hcs, _⟩ | ⟨a, len, cap, zs, hcs, _, hl, hm, hz, _, hc, hw⟩
  · simp at hcs
    exact ⟨none, 0, 0, [], hcs, Sl.none_ _ _, by simp⟩
  · simp at hcs hz
    have hb : ∀ y ∈ zs, 0 ≤ y ∧ y ≤ 255 := fun y hy => by
      have := hw y hy
      simpa [Lit.wf, IntKind.min, IntKind.max, IntKind.signed, IntKind.bits] using this
    refine ⟨some a, len, cap, (zs.take len).map Int.toNat, hcs, sl_of_cells _ (by rw [length_byl, List.length_map, List.length_take]; omega) hl hm fun i u hu => ?_, fun y hy => ?_⟩
    · have hi : i < len := by
        have := (List.getElem?_eq_some_iff.1 hu).1
        rw [length_byl, List.length_map, List.length_take] at this
        omega
      have hiz : i < zs.length := by omega
      have hv := hc i hiz
      have hbi := hb zs[i] (List.getElem_mem _)
      simp only [byl, List.getElem?_map, List.getElem?_take, if_pos hi, List.getElem?_eq_getElem hiz, Option.map_some, Option.some.injEq] at hu
      subst hu
      rw [hv]
      simp [List.getD, hiz]
      omega
    · obtain ⟨z, hz1, rfl⟩ := List.mem_map.1 hy
      have := hb z (List.mem_of_mem_take hz1)
      omega
theorem int_in (h : DataW.trod enc Try.prog w base (fun _ => true) held fuel 3 [v] = some x) : ∃ n, v = .int .i64 n ∧ -9223372036854775808 ≤ n ∧ n ≤ 9223372036854775807 := by
  obtain ⟨n, e, _, hw⟩ := DataW.trod_int Try.underlying3 h
  simp at e
  exact ⟨n, e, by simpa [Lit.wf, IntKind.min, IntKind.max, IntKind.signed, IntKind.bits] using hw⟩
theorem bool_in (h : DataW.trod enc Try.prog w base (fun _ => true) held fuel 4 [v] = some x) : ∃ n, v = .bool n := by
  obtain ⟨n, e, _⟩ := DataW.trod_bool Try.underlying4 h
  simp at e
  exact ⟨n, e⟩
theorem string_in (h : DataW.trod enc Try.prog w base (fun _ => true) held fuel 9 [v] = some x) : ∃ s : ByteArray, v = .string s ∧ s.size ≤ maxLen := by
  obtain ⟨n, e, _, hs⟩ := DataW.trod_string Try.underlying9 h
  simp at e
  exact ⟨n, e, hs⟩
theorem u32_in (h : DataW.trod enc Try.prog w base (fun _ => true) held fuel 23 [v] = some x) : ∃ n, v = .int .u32 n ∧ 0 ≤ n ∧ n ≤ 4294967295 := by
  obtain ⟨n, e, _, hw⟩ := DataW.trod_int Try.underlying23 h
  simp at e
  exact ⟨n, e, by simpa [Lit.wf, IntKind.min, IntKind.max, IntKind.signed, IntKind.bits] using hw⟩
theorem okWide_arr {P : Program} {r : Reach} {b0 n : Nat} {t e : TypeId} {v : Value} (ht : P.underlying t = some (.array n e)) (h : Value.okWide P w r b0 t v) : ∃ cs, v = .agg cs ∧ cs.size = P.cellsOf t := by
  simp only [Value.okWide, ht] at h
  obtain ⟨cs, h1, h2, _⟩ := h
  exact ⟨cs, h1, h2⟩
theorem arr3_in {b0 : Nat} {d : DataW H} {p : List MemPlace} (hv : Value.okWide Try.prog w .any b0 34 v) (h : DataW.Trod enc Try.prog w base (fun _ => true) held 34 v d p) :
    ∃ a b c : Int, v = .agg #[.int .u32 a, .int .u32 b, .int .u32 c] ∧ (0 ≤ a ∧ a ≤ 4294967295) ∧ (0 ≤ b ∧ b ≤ 4294967295) ∧ (0 ≤ c ∧ c ≤ 4294967295) := by
  obtain ⟨cs, rfl, hsz⟩ := okWide_arr Try.underlying34 hv
  have h3 : Try.prog.cellsOf 34 = 3 := by kernel_rfl
  have h1 : Try.prog.cellsOf 23 = 1 := by kernel_rfl
  obtain ⟨c0, c1, c2, rfl⟩ := Go.Joins.array3 (hsz.trans h3)
  obtain ⟨fuel, hf⟩ := h
  obtain ⟨y0, y1, y2, n, hx, k0, k1, k2⟩ := trod_array3 Try.underlying34 h1 (by simpa [Value.cells] using hf)
  obtain ⟨a, rfl, ha⟩ := u32_in k0
  obtain ⟨b, rfl, hb⟩ := u32_in k1
  obtain ⟨c, rfl, hc⟩ := u32_in k2
  exact ⟨a, b, c, rfl, ha, hb, hc⟩
end
end Go.Proofs.Ytkpnihapcoiepaa
