/- GaloisField returns true for all arguments: the tied card. -/
import Derived.Test.YthikanoalcjdgaaDoorFu
set_option linter.unusedVariables false
namespace Go.Proofs.YthikanoalcjdgaaDoor
open Go

theorem galoisField_holds : Rows.GaloisFieldCardSaid :=
  Claim7.holds_tied_plain_at .later [] [.data, .data] true (true, "5292564abcf8e001dfdaf2fb423d7596d554765290aa3202430b024d1ef0f18c") false
    field.over (fun _ h => by cases h) (by kernel_rfl) (fun _ h => by cases h) galoisField_row_tie rfl ⟨rfl, rfl⟩ (by kernel_rfl) rfl
    (fun f fn hf hfn => by
      obtain rfl : f = 7 := Option.some.inj ((show Tryd.prog.funcNamed "barscan/barscanlaw04.GaloisField" = some 7 by kernel_rfl).symm.trans hf) |>.symm
      obtain rfl : fn = Tryd.f7 := (Option.some.inj (Tryd.func7.symm.trans hfn)).symm
      exact ⟨by kernel_rfl, fun j t ht => by
        rw [Tryd.params7] at ht
        have h3 : t = 23 ∨ t = 38 := by
          rcases j with _ | _ | _ | j
          · left; simpa using ht.symm
          · right; simpa using ht.symm
          · right; simpa using ht.symm
          · simp at ht
        rcases h3 with rfl | rfl
        · exact (show Tryd.prog.wantsStandIn 23 = false by kernel_rfl)
        · exact (show Tryd.prog.wantsStandIn 38 = false by kernel_rfl)⟩)
    (by kernel_rfl)
end Go.Proofs.YthikanoalcjdgaaDoor
