/- GaloisExponents returns true for all arguments: the tied card. -/
import Derived.Test.YtjbaleadahefoaaDoorFx
set_option linter.unusedVariables false
namespace Go.Proofs.YtjbaleadahefoaaDoor
open Go

theorem galoisExponents_holds : Rows.GaloisExponentsCardSaid :=
  Claim7.holds_tied_plain_at .later [] [.data, .data] true (true, "5292564abcf8e001dfdaf2fb423d7596d554765290aa3202430b024d1ef0f18c") false
    exponents.over (fun _ h => by cases h) (by kernel_rfl) (fun _ h => by cases h) galoisExponents_row_tie rfl ⟨rfl, rfl⟩ (by kernel_rfl) rfl
    (fun f fn hf hfn => by
      obtain rfl : f = 8 := Option.some.inj ((show Tryd.prog.funcNamed "barscan/barscanlaw04.GaloisExponents" = some 8 by kernel_rfl).symm.trans hf) |>.symm
      obtain rfl : fn = Tryd.f8 := (Option.some.inj (Tryd.func8.symm.trans hfn)).symm
      exact ⟨by kernel_rfl, fun j t ht => by
        rw [Tryd.params8] at ht
        have h3 : t = 32 ∨ t = 3 := by
          rcases j with _ | _ | j
          · left; simpa using ht.symm
          · right; simpa using ht.symm
          · simp at ht
        rcases h3 with rfl | rfl
        · exact (show Tryd.prog.wantsStandIn 32 = false by kernel_rfl)
        · exact (show Tryd.prog.wantsStandIn 3 = false by kernel_rfl)⟩)
    (by kernel_rfl)
end Go.Proofs.YtjbaleadahefoaaDoor
