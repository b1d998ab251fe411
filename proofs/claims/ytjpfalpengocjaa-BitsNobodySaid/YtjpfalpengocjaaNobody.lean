/- BitsNobody returns true for every number. -/
import Derived.Test.YtjpfalpengocjaaWd
set_option linter.unusedVariables false
namespace Go.Proofs.Ytjpfalpengocjaa
open Go.RowKit

theorem rtake_nil (n : Int) (w : World) : Calls Try.prog 36 #[.pointer none, .int .i64 n] w fun e w' => e = .returned (.tuple #[.int .i64 0, .int .i64 2]) ∧ w = w' := by
  go_enter Try.func36, Try.ntmps36
  go_wp2
  go_ret2
  exact ⟨rfl, rfl⟩
theorem rleft_nil (w : World) : Calls Try.prog 37 #[.pointer none] w fun e w' => e = .returned (.int .i64 0) ∧ w = w' := by
  go_enter Try.func37, Try.ntmps37
  go_wp2
  go_ret
  exact ⟨rfl, rfl⟩
theorem rtake_zero (g : Nat) (n : Int) (w : World) (h : w.cell? ⟨g, 1, none⟩ = some (.bool false)) :
    Calls Try.prog 36 #[.pointer (some ⟨g, 0, none⟩), .int .i64 n] w fun e w' => e = .returned (.tuple #[.int .i64 0, .int .i64 2]) ∧ w = w' := by
  go_enter Try.func36, Try.ntmps36
  go_wp2
  go_ret2
  exact ⟨rfl, rfl⟩
theorem rleft_zero (g : Nat) (w : World) (h : w.cell? ⟨g, 1, none⟩ = some (.bool false)) :
    Calls Try.prog 37 #[.pointer (some ⟨g, 0, none⟩)] w fun e w' => e = .returned (.int .i64 0) ∧ w = w' := by
  go_enter Try.func37, Try.ntmps37
  go_wp2
  go_ret
  exact ⟨rfl, rfl⟩
theorem takeS_nil : takeS [] 0 0 = (0, 0) := by decide

theorem law_nobody (n : Int) (w : World) (_ : -9223372036854775808 ≤ n ∧ n ≤ 9223372036854775807) :
    Calls Try.prog 11 #[.int .i64 n] w fun e w' => e = .returned (.bool true) ∧ Below w.heap.size w w' := by
  go_enter Try.func11, Try.ntmps11
  go_wp2_with fail
  refine (rtake_nil n _).mono ?_
  rintro e w' ⟨rfl, rfl⟩
  have hb1 := below_new w (.cells #[.slice none 0 0, .bool false] 63)
  go_wp2_with fail
  refine (rtake_zero _ n _ (by simp)).mono ?_
  rintro e w' ⟨rfl, rfl⟩
  go_wp2_with fail
  refine (newReader_any _ _ _ [] _ (Sl.none_ _ _) (by omega)).mono ?_
  rintro e w2 ⟨g, rfl, hrd, hg, hb2⟩
  have ht := rtake_any g [] 0 _ hrd
  rw [takeS_nil] at ht
  have HT := Lib.hid ht
  have hsz := hb2.size
  replace hb1 := below_step hb1 hb2
  simp at hg
  clear hb2 hrd ht
  go_wp2_with fail
  refine HT.out.mono ?_
  rintro e w3 ⟨rfl, _, hb3⟩
  have hB : Below w.heap.size w w3 := hb1.trans (hb3.mono (by omega))
  clear HT hb1 hb3
  go_wp2_with fail
  refine (rleft_nil _).mono ?_
  rintro e w' ⟨rfl, rfl⟩
  replace hB := below_step hB (below_new w3 (.cells #[.slice none 0 0, .bool false] 63))
  go_wp2_with fail
  refine (rleft_zero _ _ (by simp)).mono ?_
  rintro e w' ⟨rfl, rfl⟩
  go_wp2_with fail
  refine (alive_any _).mono ?_
  rintro e w4 ⟨rfl, hb4⟩
  go_wp2
  go_ret
  exact ⟨rfl, below_step hB hb4⟩
end Go.Proofs.Ytjpfalpengocjaa
