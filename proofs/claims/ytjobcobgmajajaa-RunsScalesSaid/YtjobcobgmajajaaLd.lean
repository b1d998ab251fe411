/- The law RunsScales. -/
import Derived.Test.YtjobcobgmajajaaWf
import Derived.Test.YtjobcobgmajajaaWh
import Derived.Test.YtjobcobgmajajaaWi
set_option linter.unusedVariables false
namespace Go.Proofs.Ytjobcobgmajajaa
open Go.RowKit

theorem scales_rest (A : Option Addr) (n c : Nat) (l : List Bool) (k : Int) (w : World) (hs : Sl w w.heap.size A n c (bl l)) (hk : -9223372036854775808 ≤ k ∧ k ≤ 9223372036854775807) (h1 : ¬ 300 < n) (h2 : ¬ (100 < k ∧ k ≤ 65536)) :
    Calls Try.prog 6 #[.slice A n c, .int .i64 k] w fun e w' => e = .returned (.bool true) ∧ Below w.heap.size w w' := by
  have hmax := hs.max
  have hle := hs.le
  unfold maxLen at hmax
  have HH : ∀ w1, Sl w1 w1.heap.size A n c (bl l) → True := fun _ _ => trivial
  have key : (¬ 100 < k) ∨ (100 < k ∧ ¬ k ≤ 65536) := by omega
  rcases key with hk1 | ⟨hk1, hk2⟩
  all_goals
    go_enter Try.func6, Try.ntmps6
    go_wp2_with fail
    refine (stretch_any _ _ _ l k _ hs (by omega) (by omega)).mono ?_
    rintro e w1 ⟨A1, c1, rfl, p1, hb1⟩
    replace hs := hs.next hb1
    have hB := hb1
    clear hb1
    go_wp2_with fail
    refine (rStretch_any _ _ _ l k _ hs (by omega) (by omega)).mono ?_
    rintro e w2 ⟨A2, c2, rfl, p2, hb2⟩
    replace hs := hs.next hb2
    replace p1 := p1.next hb2
    replace hB := below_step hB hb2
    clear hb2
    go_wp2_with fail
    refine (shrink_any _ _ _ l k _ hs (by omega) (by omega)).mono ?_
    rintro e w3 ⟨A3, c3, rfl, p3, hb3⟩
    replace hs := hs.next hb3
    replace p1 := p1.next hb3
    replace p2 := p2.next hb3
    replace hB := below_step hB hb3
    clear hb3
    go_wp2_with fail
    refine (rShrink_any _ _ _ l k _ hs (by omega) (by omega)).mono ?_
    rintro e w4 ⟨A4, c4, rfl, p4, hb4⟩
    replace p1 := p1.next hb4
    replace p2 := p2.next hb4
    replace p3 := p3.next hb4
    replace hB := below_step hB hb4
    clear hb4 hs
    generalize (stretchS l k).2 = e1
    generalize (shrinkS l k).2 = e3
    go_wp2_with fail
    refine (same_any _ _ _ _ _ _ _ _ _ p1 p2).mono ?_
    rintro e w5 ⟨rfl, hb5⟩
    replace p3 := p3.next hb5
    replace p4 := p4.next hb5
    replace hB := below_step hB hb5
    rw [beq_self_eq_true]
    clear hb5 p1 p2
    go_wp2_with fail
    refine (same_any _ _ _ _ _ _ _ _ _ p3 p4).mono ?_
    rintro e w6 ⟨rfl, hb6⟩
    replace hB := below_step hB hb6
    rw [beq_self_eq_true]
    clear hb6 p3 p4
    go_wp2_with fail
    refine (alive_any _).mono ?_
    rintro e w7 ⟨rfl, hb7⟩
    go_wp2
    go_ret
    exact ⟨rfl, below_step hB hb7⟩

theorem law_scales (A : Option Addr) (n c : Nat) (l : List Bool) (k : Int) (w : World) (hs : Sl w w.heap.size A n c (bl l)) (hk : -9223372036854775808 ≤ k ∧ k ≤ 9223372036854775807) :
    Calls Try.prog 6 #[.slice A n c, .int .i64 k] w fun e w' => e = .returned (.bool true) ∧ Below w.heap.size w w' := by
  have hmax := hs.max
  have hle := hs.le
  unfold maxLen at hmax
  by_cases h1 : 300 < n
  · go_enter Try.func6, Try.ntmps6
    go_wp2_with fail
    refine (alive_any _).mono ?_
    rintro e w2 ⟨rfl, hb2⟩
    go_wp2
    go_ret
    exact ⟨rfl, hb2⟩
  by_cases h2 : 100 < k
  · by_cases h3 : k ≤ 65536
    · go_enter Try.func6, Try.ntmps6
      go_wp2_with fail
      refine (alive_any _).mono ?_
      rintro e w2 ⟨rfl, hb2⟩
      go_wp2
      go_ret
      exact ⟨rfl, hb2⟩
    · exact scales_rest A n c l k w hs hk h1 (by omega)
  · exact scales_rest A n c l k w hs hk h1 (by omega)
end Go.Proofs.Ytjobcobgmajajaa
