/- BitsAppends returns true for every bit string, every two numbers and every place. No condition. -/
import Derived.Test.YtjpfalpengocjaaWd
set_option linter.unusedVariables false
namespace Go.Proofs.Ytjpfalpengocjaa
open Go.RowKit

theorem law_appends (A : Option Addr) (n c : Nat) (l : List Bool) (V N a : Int) (w : World) (hs : Sl w w.heap.size A n c (bl l)) (_ : -9223372036854775808 ≤ V ∧ V ≤ 9223372036854775807) (_ : -9223372036854775808 ≤ N ∧ N ≤ 9223372036854775807) (_ : -9223372036854775808 ≤ a ∧ a ≤ 9223372036854775807) :
    Calls Try.prog 3 #[.slice A n c, .agg #[.int .i64 V, .int .i64 N], .int .i64 a] w fun e w' => e = .returned (.bool true) ∧ Below w.heap.size w w' := by
  have hb1 := below_new w (.cells #[.int .i64 V, .int .i64 N] 24)
  have hmax := hs.max
  have hle := hs.le
  unfold maxLen at hmax
  by_cases hn : 2000 < n
  · go_enter Try.func3, Try.ntmps3
    go_wp2_with fail
    refine (alive_any _).mono ?_
    rintro e w2 ⟨rfl, hb2⟩
    go_wp2
    go_ret
    exact ⟨rfl, below_step hb1 hb2⟩
  · have hB := hb1
    replace hs := hs.next hb1
    obtain ⟨r, hr⟩ : ∃ r, r = appS l V N := ⟨_, rfl⟩
    obtain ⟨q, hq⟩ : ∃ q, q = takeS l a N := ⟨_, rfl⟩
    have HR := Lib.hid hr
    have HQ := Lib.hid hq
    clear hb1 hr hq
    go_enter Try.func3, Try.ntmps3
    go_wp2_with fail
    refine (append_any _ _ _ l V N _ hs).mono ?_
    rw [← HR.out]
    rintro e w2 ⟨A2, c2, rfl, hs2, hb2⟩
    replace hs := hs.next hb2
    have hc0 : w2.cell? ⟨w.heap.size, 0, none⟩ = some (.int .i64 V) := by rw [hb2.cell (p := ⟨w.heap.size, 0, none⟩) (by simp)]; simp
    have hc1 : w2.cell? ⟨w.heap.size, 1, none⟩ = some (.int .i64 N) := by rw [hb2.cell (p := ⟨w.heap.size, 1, none⟩) (by simp)]; simp
    have hz2 : w.heap.size < w2.heap.size := by have := hb2.size; simp at this; omega
    replace hB := below_step hB hb2
    clear hb2
    go_wp2_with fail
    refine (rAppend_any _ _ _ l V N _ hs).mono ?_
    rw [← HR.out]
    rintro e w3 ⟨A3, c3, rfl, hs3, hb3⟩
    replace hs := hs.next hb3
    replace hs2 := hs2.next hb3
    replace hc1 : w3.cell? ⟨w.heap.size, 1, none⟩ = some (.int .i64 N) := by rw [hb3.cell (p := ⟨w.heap.size, 1, none⟩) hz2]; exact hc1
    replace hB := below_step hB hb3
    clear hb3 hc0 hz2
    go_wp2_with fail
    refine (take_any _ _ _ _ l a N _ hs).mono ?_
    rw [← HQ.out]
    rintro e w' ⟨rfl, rfl⟩
    go_wp2_with fail
    refine (rTake_any _ _ _ _ l a N _ hs).mono ?_
    rw [← HQ.out]
    rintro e w' ⟨rfl, rfl⟩
    go_wp2_with fail
    refine (same_any _ _ _ _ _ _ r.1 r.1 _ (by rw [length_bl] at hs2; rw [length_bl]; exact hs2) (by rw [length_bl] at hs3; rw [length_bl]; exact hs3)).mono ?_
    rw [beq_self_eq_true r.1]
    rintro e w4 ⟨rfl, hb4⟩
    replace hB := below_step hB hb4
    clear hb4 hc1
    go_wp2_with fail
    refine (alive_any _).mono ?_
    rintro e w5 ⟨rfl, hb5⟩
    go_wp2
    go_ret
    exact ⟨rfl, below_step hB hb5⟩
end Go.Proofs.Ytjpfalpengocjaa
