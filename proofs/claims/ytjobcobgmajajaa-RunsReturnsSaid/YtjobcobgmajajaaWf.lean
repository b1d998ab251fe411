/- The examples that each law asks: all true. -/
import Derived.Test.YtjobcobgmajajaaW4
import Derived.Test.YtjobcobgmajajaaW6
import Derived.Test.YtjobcobgmajajaaW9
import Derived.Test.YtjobcobgmajajaaWa
import Derived.Test.YtjobcobgmajajaaWe
set_option linter.unusedVariables false
namespace Go.Proofs.Ytjobcobgmajajaa
open Go.RowKit

def aM : List Int := [2, 1, 1]
def aM2 : List Bool := [true, true, false, true]
def aW : List Bool := [false, true, true, false, false, false, true]
def aW2 : List Int := [2, 3, 1]
def aQ : List Int := [10, 21, 29, 10]
def aQ2 : List Int := [1, 2, 3, 1]
def aS : List Bool := [true, false]
def aS2 : List Bool := [true, true, false, false]
theorem ex_m : modulesS aM = (aM2, 0) := by decide
theorem ex_w : widthsS aW = aW2 := by decide +kernel
theorem ex_l : lm aW = 1 := by decide
theorem ex_r : rm aW = 0 := by decide
theorem ex_q : quantS aQ 7 = (aQ2, 0) := by decide +kernel
theorem ex_s : stretchS aS 2 = (aS2, 0) := by decide

theorem al_modules (A : Option Addr) (c : Nat) (w : World) (hs : Sl w w.heap.size A 3 c (il aM)) : Calls Try.prog 11 #[.slice A 3 c] w fun e w' => ∃ A c, e = .returned (.tuple #[.slice A 4 c, .int .i64 0]) ∧ Sl w' w'.heap.size A 4 c (bl aM2) ∧ Below w.heap.size w w' := by
  have h := modules_any A 3 c aM w hs (by omega)
  rw [ex_m] at h
  exact h.mono fun _ _ h => gives_out h rfl
theorem al_widths (A : Option Addr) (c : Nat) (w : World) (hs : Sl w w.heap.size A 7 c (bl aW)) : Calls Try.prog 17 #[.slice A 7 c] w fun e w' => ∃ A c, e = .returned (.slice A 3 c) ∧ Sl w' w'.heap.size A 3 c (il aW2) ∧ Below w.heap.size w w' := by
  have h := widths_any A 7 c aW w hs (by omega)
  rw [ex_w] at h
  exact h.mono fun _ _ h => gives1_out h rfl
theorem al_margins (A : Option Addr) (c : Nat) (w : World) (hs : Sl w w.heap.size A 7 c (bl aW)) : Calls Try.prog 14 #[.slice A 7 c] w fun e w' => e = .returned (.tuple #[.int .i64 1, .int .i64 0]) ∧ Below w.heap.size w w' := by
  have h := margins_any A 7 c _ aW w hs
  rw [ex_l, ex_r] at h
  exact h.mono fun _ _ h => ⟨h.1, h.2 ▸ Below.refl _ _⟩
theorem al_quantize (A : Option Addr) (c : Nat) (w : World) (hs : Sl w w.heap.size A 4 c (il aQ)) : Calls Try.prog 19 #[.slice A 4 c, .int .i64 7] w fun e w' => ∃ A c, e = .returned (.tuple #[.slice A 4 c, .int .i64 0]) ∧ Sl w' w'.heap.size A 4 c (il aQ2) ∧ Below w.heap.size w w' := by
  have h := quantize_any A 4 c aQ 7 w hs (by omega)
  rw [ex_q] at h
  exact h.mono fun _ _ h => gives_out h rfl
theorem al_wide (A : Option Addr) (c : Nat) (w : World) (hs : Sl w w.heap.size A 4 c (il exW)) : Calls Try.prog 25 #[.slice A 4 c] w fun e w' => ∃ A c, e = .returned (.tuple #[.slice A 4 c, .int .i64 0]) ∧ Sl w' w'.heap.size A 4 c (bl resW) ∧ Below w.heap.size w w' :=
  (wide_ex A c w hs).mono fun _ _ h => gives_out h rfl
theorem al_stretch (A : Option Addr) (c : Nat) (w : World) (hs : Sl w w.heap.size A 2 c (bl aS)) : Calls Try.prog 21 #[.slice A 2 c, .int .i64 2] w fun e w' => ∃ A c, e = .returned (.tuple #[.slice A 4 c, .int .i64 0]) ∧ Sl w' w'.heap.size A 4 c (bl aS2) ∧ Below w.heap.size w w' := by
  have h := stretch_any A 2 c aS 2 w hs (by omega) (by omega)
  rw [ex_s] at h
  exact h.mono fun _ _ h => gives_out h rfl

set_option maxHeartbeats 2000000 in
theorem alive_any (w : World) : Calls Try.prog 10 #[] w fun e w' => e = .returned (.bool true) ∧ Below w.heap.size w w' := by
  have hB := Below.refl w.heap.size w
  go_enter Try.func10, Try.ntmps10
  have hb0 := below_new w (.cells #[.int .i64 2, .int .i64 1, .int .i64 1] 3)
  have s1 := Sl.lit w 3 #[.int .i64 2, .int .i64 1, .int .i64 1] 3 rfl (by unfold maxLen; omega)
  replace hB := below_step hB hb0
  clear hb0
  go_wp2_with fail
  refine (al_modules _ _ _ s1).mono ?_
  rintro e w1 ⟨A1, c1, rfl, h1, hb1⟩
  replace hB := below_step hB hb1
  clear hb1 s1
  have hb0 := below_new w1 (.cells #[.bool false, .bool true, .bool true, .bool false, .bool false, .bool false, .bool true] 4)
  have s2 := Sl.lit w1 4 #[.bool false, .bool true, .bool true, .bool false, .bool false, .bool false, .bool true] 7 rfl (by unfold maxLen; omega)
  replace h1 := h1.next hb0
  replace hB := below_step hB hb0
  clear hb0
  go_wp2_with fail
  refine (al_widths _ _ _ s2).mono ?_
  rintro e w2 ⟨A2, c2, rfl, h2, hb1⟩
  replace h1 := h1.next hb1
  replace hB := below_step hB hb1
  clear hb1 s2
  have hb0 := below_new w2 (.cells #[.bool false, .bool true, .bool true, .bool false, .bool false, .bool false, .bool true] 4)
  have s3 := Sl.lit w2 4 #[.bool false, .bool true, .bool true, .bool false, .bool false, .bool false, .bool true] 7 rfl (by unfold maxLen; omega)
  replace h1 := h1.next hb0
  replace h2 := h2.next hb0
  replace hB := below_step hB hb0
  clear hb0
  go_wp2_with fail
  refine (al_margins _ _ _ s3).mono ?_
  rintro e w3 ⟨rfl, hb1⟩
  replace h1 := h1.next hb1
  replace h2 := h2.next hb1
  replace hB := below_step hB hb1
  clear hb1 s3
  have hb0 := below_new w3 (.cells #[.int .i64 10, .int .i64 21, .int .i64 29, .int .i64 10] 3)
  have s4 := Sl.lit w3 3 #[.int .i64 10, .int .i64 21, .int .i64 29, .int .i64 10] 4 rfl (by unfold maxLen; omega)
  replace h1 := h1.next hb0
  replace h2 := h2.next hb0
  replace hB := below_step hB hb0
  clear hb0
  go_wp2_with fail
  refine (al_quantize _ _ _ s4).mono ?_
  rintro e w4 ⟨A3, c3, rfl, h3, hb1⟩
  replace h1 := h1.next hb1
  replace h2 := h2.next hb1
  replace hB := below_step hB hb1
  clear hb1 s4
  have hb0 := below_new w4 (.cells #[.int .i64 2, .int .i64 4, .int .i64 2, .int .i64 5] 3)
  have s5 := Sl.lit w4 3 #[.int .i64 2, .int .i64 4, .int .i64 2, .int .i64 5] 4 rfl (by unfold maxLen; omega)
  replace h1 := h1.next hb0
  replace h2 := h2.next hb0
  replace h3 := h3.next hb0
  replace hB := below_step hB hb0
  clear hb0
  go_wp2_with fail
  refine (al_wide _ _ _ s5).mono ?_
  rintro e w5 ⟨A4, c4, rfl, h4, hb1⟩
  replace h1 := h1.next hb1
  replace h2 := h2.next hb1
  replace h3 := h3.next hb1
  replace hB := below_step hB hb1
  clear hb1 s5
  have hb0 := below_new w5 (.cells #[.bool true, .bool false] 4)
  have s6 := Sl.lit w5 4 #[.bool true, .bool false] 2 rfl (by unfold maxLen; omega)
  replace h1 := h1.next hb0
  replace h2 := h2.next hb0
  replace h3 := h3.next hb0
  replace h4 := h4.next hb0
  replace hB := below_step hB hb0
  clear hb0
  go_wp2_with fail
  refine (al_stretch _ _ _ s6).mono ?_
  rintro e w6 ⟨A5, c5, rfl, h5, hb1⟩
  replace h1 := h1.next hb1
  replace h2 := h2.next hb1
  replace h3 := h3.next hb1
  replace h4 := h4.next hb1
  replace hB := below_step hB hb1
  clear hb1 s6
  have hb0 := below_new w6 (.cells #[.bool true, .bool true, .bool false, .bool true] 4)
  have s7 := Sl.lit w6 4 #[.bool true, .bool true, .bool false, .bool true] 4 rfl (by unfold maxLen; omega)
  replace h1 := h1.next hb0
  replace h2 := h2.next hb0
  replace h3 := h3.next hb0
  replace h4 := h4.next hb0
  replace h5 := h5.next hb0
  replace hB := below_step hB hb0
  clear hb0
  go_wp2_with fail
  refine (same_any _ _ _ _ _ _ aM2 aM2 _ h1 s7).mono ?_
  rintro e w7 ⟨rfl, hb1⟩
  replace h1 := h1.next hb1
  replace h2 := h2.next hb1
  replace h3 := h3.next hb1
  replace h4 := h4.next hb1
  replace h5 := h5.next hb1
  replace hB := below_step hB hb1
  clear hb1 s7
  rw [beq_self_eq_true aM2]
  clear h1
  have hb0 := below_new w7 (.cells #[.int .i64 2, .int .i64 3, .int .i64 1] 3)
  have s8 := Sl.lit w7 3 #[.int .i64 2, .int .i64 3, .int .i64 1] 3 rfl (by unfold maxLen; omega)
  replace h2 := h2.next hb0
  replace h3 := h3.next hb0
  replace h4 := h4.next hb0
  replace h5 := h5.next hb0
  replace hB := below_step hB hb0
  clear hb0
  go_wp2_with fail
  refine (ints_any _ _ _ _ _ _ aW2 aW2 _ h2 s8).mono ?_
  rintro e w8 ⟨rfl, hb1⟩
  replace h2 := h2.next hb1
  replace h3 := h3.next hb1
  replace h4 := h4.next hb1
  replace h5 := h5.next hb1
  replace hB := below_step hB hb1
  clear hb1 s8
  rw [beq_self_eq_true aW2]
  clear h2
  have hb0 := below_new w8 (.cells #[.int .i64 1, .int .i64 2, .int .i64 3, .int .i64 1] 3)
  have s9 := Sl.lit w8 3 #[.int .i64 1, .int .i64 2, .int .i64 3, .int .i64 1] 4 rfl (by unfold maxLen; omega)
  replace h3 := h3.next hb0
  replace h4 := h4.next hb0
  replace h5 := h5.next hb0
  replace hB := below_step hB hb0
  clear hb0
  go_wp2_with fail
  refine (ints_any _ _ _ _ _ _ aQ2 aQ2 _ h3 s9).mono ?_
  rintro e w9 ⟨rfl, hb1⟩
  replace h3 := h3.next hb1
  replace h4 := h4.next hb1
  replace h5 := h5.next hb1
  replace hB := below_step hB hb1
  clear hb1 s9
  rw [beq_self_eq_true aQ2]
  clear h3
  have hb0 := below_new w9 (.cells #[.bool false, .bool true, .bool false, .bool true] 4)
  have sa := Sl.lit w9 4 #[.bool false, .bool true, .bool false, .bool true] 4 rfl (by unfold maxLen; omega)
  replace h4 := h4.next hb0
  replace h5 := h5.next hb0
  replace hB := below_step hB hb0
  clear hb0
  go_wp2_with fail
  refine (same_any _ _ _ _ _ _ resW resW _ h4 sa).mono ?_
  rintro e w10 ⟨rfl, hb1⟩
  replace h4 := h4.next hb1
  replace h5 := h5.next hb1
  replace hB := below_step hB hb1
  clear hb1 sa
  rw [beq_self_eq_true resW]
  clear h4
  have hb0 := below_new w10 (.cells #[.bool true, .bool true, .bool false, .bool false] 4)
  have sb := Sl.lit w10 4 #[.bool true, .bool true, .bool false, .bool false] 4 rfl (by unfold maxLen; omega)
  replace h5 := h5.next hb0
  replace hB := below_step hB hb0
  clear hb0
  go_wp2_with fail
  refine (same_any _ _ _ _ _ _ aS2 aS2 _ h5 sb).mono ?_
  rintro e w11 ⟨rfl, hb1⟩
  replace h5 := h5.next hb1
  replace hB := below_step hB hb1
  clear hb1 sb
  rw [beq_self_eq_true aS2]
  clear h5
  have hb0 := below_new w11 (.cells #[.int .i64 4, .int .i64 6] 3)
  have sc := Sl.lit w11 3 #[.int .i64 4, .int .i64 6] 2 rfl (by unfold maxLen; omega)
  replace hB := below_step hB hb0
  clear hb0
  go_wp2_with fail
  refine (unit_ex _ _ _ sc).mono ?_
  rintro e w12 ⟨rfl, hb1⟩
  replace hB := below_step hB hb1
  clear hb1 sc
  go_wp2
  go_ret
  exact ⟨rfl, hB⟩
end Go.Proofs.Ytjobcobgmajajaa
