/- The laws RunsModules, RunsWidths, RunsQuantizes. -/
import Derived.Test.YtjobcobgmajajaaWf
import Derived.Test.YtjobcobgmajajaaW7
set_option linter.unusedVariables false
namespace Go.Proofs.Ytjobcobgmajajaa
open Go.RowKit

/-- what few returns -/
def FewR (n : Nat) (e : Ending) : Prop := ∃ b, e = .returned (.bool b) ∧ (b = true → n ≤ 60)
theorem few_any (A : Option Addr) (n c B : Nat) (l : List Int) (w : World) (hs : Sl w B A n c (il l)) :
    Calls Try.prog 9 #[.slice A n c] w fun e w' => FewR n e ∧ w = w' := by
  have hl : l.length = n := by rw [← length_il]; exact hs.len
  have hmax := hs.max
  have hle := hs.le
  unfold maxLen at hmax
  go_enter Try.func9, Try.ntmps9
  go_wp2
  go_loop [6] (fun i => ∃ k : Nat, k ≤ n ∧ k ≤ 60 ∧ i = .int .i64 k) (fun i => n - (intOf i).toNat)
  case atStart => exact ⟨0, Nat.zero_le _, by omega, rfl⟩
  case round =>
    obtain ⟨k, hk, hk6, rfl⟩ := hrel
    by_cases hlt : k < n
    · have hk0 : (0 : Int) ≤ k := by omega
      have hk1 : (k : Int) < n := by omega
      obtain ⟨b, off, rfl, hb, hc⟩ := hs.at_ hlt (.int .i64 0)
      rw [getD_il l k (by omega)] at hc
      generalize l.getD k 0 = x at *
      by_cases h6 : (60 : Int) ≤ k
      · go_wp2
        go_ret
        exact ⟨⟨false, rfl, fun h => by cases h⟩, rfl⟩
      by_cases h2 : 2000 < x
      · by_cases h3 : x ≤ 65536
        · go_wp2
          go_ret
          exact ⟨⟨false, rfl, fun h => by cases h⟩, rfl⟩
        · go_wp2
          go_round
          case rel => exact ⟨k + 1, by omega, by omega, by go_num⟩
          case measure => simp [intOf]; omega
      · go_wp2
        go_round
        case rel => exact ⟨k + 1, by omega, by omega, by go_num⟩
        case measure => simp [intOf]; omega
    · obtain rfl : k = n := by omega
      go_wp2
      go_ret
      exact ⟨⟨true, rfl, fun _ => hk6⟩, rfl⟩

theorem law_modules (A : Option Addr) (n c : Nat) (l : List Int) (w : World) (hs : Sl w w.heap.size A n c (il l)) (_ : ∀ y ∈ l, -9223372036854775808 ≤ y ∧ y ≤ 9223372036854775807) :
    Calls Try.prog 3 #[.slice A n c] w fun e w' => e = .returned (.bool true) ∧ Below w.heap.size w w' := by
  go_enter Try.func3, Try.ntmps3
  go_wp2_with fail
  refine (few_any _ _ _ _ l _ hs).mono ?_
  rintro e w' ⟨⟨b, rfl, hb⟩, rfl⟩
  cases b with
  | false =>
    go_wp2_with fail
    refine (alive_any _).mono ?_
    rintro e w2 ⟨rfl, hb2⟩
    go_wp2
    go_ret
    exact ⟨rfl, hb2⟩
  | true =>
    have hn := hb rfl
    clear hb
    go_wp2_with fail
    refine (modules_any _ _ _ l _ hs (by omega)).mono ?_
    rintro e w1 ⟨A1, c1, rfl, hs1, hb1⟩
    have hs2 := hs.next hb1
    go_wp2_with fail
    refine (rModules_any _ _ _ l _ hs2 (by omega)).mono ?_
    rintro e w2 ⟨A2, c2, rfl, hs3, hb2⟩
    have hs4 := hs1.next hb2
    have hB := below_step hb1 hb2
    clear hs1 hs2 hb1 hb2 hs
    go_wp2_with fail
    refine (same_any _ _ _ _ _ _ _ _ _ hs4 hs3).mono ?_
    rintro e w3 ⟨rfl, hb3⟩
    have hB3 := below_step hB hb3
    rw [beq_self_eq_true]
    clear hB hb3 hs4 hs3
    generalize (modulesS l).2 = er
    go_wp2_with fail
    refine (alive_any _).mono ?_
    rintro e w4 ⟨rfl, hb4⟩
    go_wp2
    go_ret
    exact ⟨rfl, below_step hB3 hb4⟩

theorem law_widths (A : Option Addr) (n c : Nat) (l : List Bool) (w : World) (hs : Sl w w.heap.size A n c (bl l)) :
    Calls Try.prog 4 #[.slice A n c] w fun e w' => e = .returned (.bool true) ∧ Below w.heap.size w w' := by
  have hmax := hs.max
  have hle := hs.le
  unfold maxLen at hmax
  by_cases h1 : 2000 < n
  · go_enter Try.func4, Try.ntmps4
    go_wp2_with fail
    refine (alive_any _).mono ?_
    rintro e w2 ⟨rfl, hb2⟩
    go_wp2
    go_ret
    exact ⟨rfl, hb2⟩
  · go_enter Try.func4, Try.ntmps4
    have HM := Lib.hid (margins_any A n c _ l w hs)
    have HR := Lib.hid (rMargins_any A n c _ l w hs)
    generalize lm l = p at *
    generalize rm l = q at *
    go_wp2_with fail
    refine HM.out.mono ?_
    rintro e w' ⟨rfl, rfl⟩
    go_wp2_with fail
    refine HR.out.mono ?_
    rintro e w' ⟨rfl, rfl⟩
    go_wp2_with fail
    refine (widths_any _ _ _ l _ hs (by omega)).mono ?_
    rintro e w1 ⟨A1, c1, rfl, hs1, hb1⟩
    have hs2 := hs.next hb1
    go_wp2_with fail
    refine (rWidths_any _ _ _ l _ hs2 (by omega)).mono ?_
    rintro e w2 ⟨A2, c2, rfl, hs3, hb2⟩
    have hs4 := hs1.next hb2
    have hB := below_step hb1 hb2
    clear hs1 hs2 hb1 hb2 HM HR
    go_wp2_with fail
    refine (ints_any _ _ _ _ _ _ _ _ _ hs4 hs3).mono ?_
    rintro e w3 ⟨rfl, hb3⟩
    have hB3 := below_step hB hb3
    rw [beq_self_eq_true]
    clear hB hb3 hs4 hs3
    go_wp2_with fail
    refine (alive_any _).mono ?_
    rintro e w4 ⟨rfl, hb4⟩
    go_wp2
    go_ret
    exact ⟨rfl, below_step hB3 hb4⟩

theorem law_quantizes (A : Option Addr) (n c : Nat) (l : List Int) (T : Int) (w : World) (hs : Sl w w.heap.size A n c (il l)) (_ : ∀ y ∈ l, -9223372036854775808 ≤ y ∧ y ≤ 9223372036854775807) (hT : -9223372036854775808 ≤ T ∧ T ≤ 9223372036854775807) :
    Calls Try.prog 5 #[.slice A n c, .int .i64 T] w fun e w' => e = .returned (.bool true) ∧ Below w.heap.size w w' := by
  have hmax := hs.max
  have hle := hs.le
  unfold maxLen at hmax
  by_cases h1 : 60 < n
  · go_enter Try.func5, Try.ntmps5
    go_wp2_with fail
    refine (alive_any _).mono ?_
    rintro e w2 ⟨rfl, hb2⟩
    go_wp2
    go_ret
    exact ⟨rfl, hb2⟩
  have h1i : ¬ (60 : Int) < n := by omega
  have rest : ∀ w : World, Sl w w.heap.size A n c (il l) → True := fun _ _ => trivial
  by_cases h2 : 500 < T
  · by_cases h3 : T ≤ 65536
    · go_enter Try.func5, Try.ntmps5
      go_wp2_with fail
      refine (alive_any _).mono ?_
      rintro e w2 ⟨rfl, hb2⟩
      go_wp2
      go_ret
      exact ⟨rfl, hb2⟩
    · go_enter Try.func5, Try.ntmps5
      go_wp2_with fail
      refine (quantize_any _ _ _ l T _ hs (by omega)).mono ?_
      rintro e w1 ⟨A1, c1, rfl, hs1, hb1⟩
      have hs2 := hs.next hb1
      go_wp2_with fail
      refine (rQuantize_any _ _ _ l T _ hs2 (by omega)).mono ?_
      rintro e w2 ⟨A2, c2, rfl, hs3, hb2⟩
      have hs4 := hs1.next hb2
      have hB := below_step hb1 hb2
      clear hs1 hs2 hb1 hb2 hs
      go_wp2_with fail
      refine (ints_any _ _ _ _ _ _ _ _ _ hs4 hs3).mono ?_
      rintro e w3 ⟨rfl, hb3⟩
      have hB3 := below_step hB hb3
      rw [beq_self_eq_true]
      clear hB hb3 hs4 hs3
      generalize (quantS l T).2 = er
      go_wp2_with fail
      refine (alive_any _).mono ?_
      rintro e w4 ⟨rfl, hb4⟩
      go_wp2
      go_ret
      exact ⟨rfl, below_step hB3 hb4⟩
  · go_enter Try.func5, Try.ntmps5
    go_wp2_with fail
    refine (quantize_any _ _ _ l T _ hs (by omega)).mono ?_
    rintro e w1 ⟨A1, c1, rfl, hs1, hb1⟩
    have hs2 := hs.next hb1
    go_wp2_with fail
    refine (rQuantize_any _ _ _ l T _ hs2 (by omega)).mono ?_
    rintro e w2 ⟨A2, c2, rfl, hs3, hb2⟩
    have hs4 := hs1.next hb2
    have hB := below_step hb1 hb2
    clear hs1 hs2 hb1 hb2 hs
    go_wp2_with fail
    refine (ints_any _ _ _ _ _ _ _ _ _ hs4 hs3).mono ?_
    rintro e w3 ⟨rfl, hb3⟩
    have hB3 := below_step hB hb3
    rw [beq_self_eq_true]
    clear hB hb3 hs4 hs3
    generalize (quantS l T).2 = er
    go_wp2_with fail
    refine (alive_any _).mono ?_
    rintro e w4 ⟨rfl, hb4⟩
    go_wp2
    go_ret
    exact ⟨rfl, below_step hB3 hb4⟩
end Go.Proofs.Ytjobcobgmajajaa
