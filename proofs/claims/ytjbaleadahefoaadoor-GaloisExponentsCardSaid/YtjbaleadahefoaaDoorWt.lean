/- galois: the methods of a law's calculator. -/
import Derived.Test.YtjbaleadahefoaaDoorPg
import Derived.Test.YtjbaleadahefoaaDoorWm
set_option linter.unusedVariables false
namespace Go.Proofs.YtjbaleadahefoaaDoor
open Go.RowKit

/-- the calculator lies at block g, and its Ok is true -/
def Kc (w : World) (g : Nat) (c n q : Int) : Prop := w.heap[g]? = some (.cells #[.int .i64 c, .int .i64 n, .int .i64 q, .bool true] 42 (0, 0))
theorem Kc.lt {w : World} {g : Nat} {c n q : Int} (h : Kc w g c n q) : g < w.heap.size := (Array.getElem?_eq_some_iff.1 h).1
theorem Kc.next {w w' : World} {g : Nat} {c n q : Int} (h : Kc w g c n q) (hb : Below w.heap.size w w') : Kc w' g c n q := by
  unfold Kc; rw [hb.block g h.lt]; exact h
theorem Kc.new (w : World) (c n q : Int) : Kc (w.alloc (.cells #[.int .i64 c, .int .i64 n, .int .i64 q, .bool true] 42)) w.heap.size c n q := heap_alloc_new _ _
theorem Kc.cells {w : World} {g : Nat} {c n q : Int} (h : Kc w g c n q) : w.cell? ⟨g, 0, none⟩ = some (.int .i64 c) ∧ w.cell? ⟨g, 1, none⟩ = some (.int .i64 n) ∧ w.cell? ⟨g, 2, none⟩ = some (.int .i64 q) ∧ w.cell? ⟨g, 3, none⟩ = some (.bool true) := by
  refine ⟨?_, ?_, ?_, ?_⟩ <;> rw [cell_of_row _ _ _ _ _ _ h] <;> rfl
theorem Kc.frozen {w : World} {g : Nat} {c n q : Int} (h : Kc w g c n q) : w.frozen? ⟨g, 3, none⟩ = false := frozen_of_row _ _ _ _ _ h
theorem Kc.id {w : World} {g : Nat} {c n q : Int} (h : Kc w g c n q) : w.setCell ⟨g, 3, none⟩ (.bool true) = w := by
  unfold Kc at h
  have hm : (w.heap.modify g fun
      | .cells c elem frozen => .cells (if (none : Option Nat).isSome then c else c.setIfInBounds 3 (.bool true)) elem frozen
      | o => o) = w.heap := by
    apply Array.ext
    · simp
    · intro i h1 h2
      rw [Array.getElem_modify]
      split
      · rename_i he
        subst he
        obtain ⟨h3, h4⟩ := Array.getElem?_eq_some_iff.1 h
        rw [h4]
        simp
      · rfl
  cases w
  simp only [World.setCell] at hm ⊢
  congr 1

section
variable {c n q x y z : Int}
set_option maxRecDepth 100000 in
theorem cAdd_of (HA : ∀ w, Tb w → Calls Tryd.prog 17 #[.agg #[.int .i64 c, .int .i64 n, .int .i64 q], .int .i64 x, .int .i64 y] w fun e w' => e = .returned (.tuple #[.int .i64 z, .int .i64 0]) ∧ Below w.heap.size w w') (w : World) (g : Nat) (hT : Tb w) (hK : Kc w g c n q) :
    Calls Tryd.prog 38 #[.pointer (some ⟨g, 0, none⟩), .int .i64 x, .int .i64 y] w fun e w' => e = .returned (.int .i64 z) ∧ Below w.heap.size w w' := by
  have HAA := Lib.hid (HA w hT)
  clear HA
  obtain ⟨c1, c2, c3, c4⟩ := hK.cells
  go_enter Tryd.func38, Tryd.ntmps38
  go_wp2_with fail
  refine HAA.out.mono ?_
  rintro e w1 ⟨rfl, hb⟩
  have K1 := hK.next hb
  have hf := K1.frozen
  clear hK c1 c2 c3 c4
  obtain ⟨c1, c2, c3, c4⟩ := K1.cells
  go_wp2
  go_ret
  refine ⟨rfl, ?_⟩
  first | rw [K1.id]; exact hb | exact hb
set_option maxRecDepth 100000 in
theorem cMul_of (HA : ∀ w, Tb w → Calls Tryd.prog 21 #[.agg #[.int .i64 c, .int .i64 n, .int .i64 q], .int .i64 x, .int .i64 y] w fun e w' => e = .returned (.tuple #[.int .i64 z, .int .i64 0]) ∧ Below w.heap.size w w') (w : World) (g : Nat) (hT : Tb w) (hK : Kc w g c n q) :
    Calls Tryd.prog 39 #[.pointer (some ⟨g, 0, none⟩), .int .i64 x, .int .i64 y] w fun e w' => e = .returned (.int .i64 z) ∧ Below w.heap.size w w' := by
  have HAA := Lib.hid (HA w hT)
  clear HA
  obtain ⟨c1, c2, c3, c4⟩ := hK.cells
  go_enter Tryd.func39, Tryd.ntmps39
  go_wp2_with fail
  refine HAA.out.mono ?_
  rintro e w1 ⟨rfl, hb⟩
  have K1 := hK.next hb
  have hf := K1.frozen
  clear hK c1 c2 c3 c4
  obtain ⟨c1, c2, c3, c4⟩ := K1.cells
  go_wp2
  go_ret
  refine ⟨rfl, ?_⟩
  first | rw [K1.id]; exact hb | exact hb
end
end Go.Proofs.YtjbaleadahefoaaDoor
