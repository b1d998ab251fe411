/- GaloisLogarithms returns true for all arguments: the tied card. -/
import Derived.Test.YtjbaleadahefoaaDoorFy
set_option linter.unusedVariables false
namespace Go.Proofs.YtjbaleadahefoaaDoor
open Go

theorem galoisLogarithms_holds : Rows.GaloisLogarithmsCardSaid :=
  Claim7.holds_tied_plain_at .later [] [.data, .data] true (true, "5292564abcf8e001dfdaf2fb423d7596d554765290aa3202430b024d1ef0f18c") false
    logarithms.over (fun _ h => by cases h) (by kernel_rfl) (fun _ h => by cases h) galoisLogarithms_row_tie rfl ⟨rfl, rfl⟩ (by kernel_rfl) rfl
    (fun f fn hf hfn => by
      obtain rfl : f = 9 := Option.some.inj ((show Tryd.prog.funcNamed "barscan/barscanlaw04.GaloisLogarithms" = some 9 by kernel_rfl).symm.trans hf) |>.symm
      obtain rfl : fn = Tryd.f9 := (Option.some.inj (Tryd.func9.symm.trans hfn)).symm
      exact ⟨by kernel_rfl, fun j t ht => by
        rw [Tryd.params9] at ht
        have h3 : t = 32 := by
          rcases j with _ | j
          · simpa using ht.symm
          · simp at ht
        subst h3
        exact (show Tryd.prog.wantsStandIn 32 = false by kernel_rfl)⟩)
    (by kernel_rfl)
end Go.Proofs.YtjbaleadahefoaaDoor
