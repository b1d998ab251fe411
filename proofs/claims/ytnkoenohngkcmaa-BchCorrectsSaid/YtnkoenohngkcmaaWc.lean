/- Contracts of the statements' own functions: ones, degree, examples. -/
import Derived.Test.YtnkoenohngkcmaaWb
set_option linter.unusedVariables false
namespace Go.Proofs.Ytnkoenohngkcmaa
open Go.RowKit

theorem lDegree_any (g d : Nat) (h : Deg g d) (hd : d ≤ 18) (w : World) : Calls Try.prog 26 #[.int .i64 (g : Int)] w fun e w' => e = .returned (.int .i64 (d : Int)) ∧ w = w' := by
  have HG := Lib.hid h
  have hg19 : g < 524288 := Nat.lt_of_lt_of_le h.2 (Nat.pow_le_pow_right (n := 2) (by omega) (show d + 1 ≤ 19 by omega))
  clear h
  go_enter Try.func26, Try.ntmps26
  go_wp2
  go_loop [0, 3] (fun x y => ∃ p e : Nat, x = .int .i64 (p : Int) ∧ y = .int .i64 (e : Int) ∧ p ≤ g ∧ Hid (e ≤ d ∧ Deg p (d - e))) (fun x _ => (intOf x).toNat)
  case atStart => exact ⟨g, 0, rfl, rfl, by omega, Lib.hid ⟨by omega, HG.out⟩⟩
  case round =>
    obtain ⟨p, e, rfl, rfl, hpg, he⟩ := hrel
    have he1 := he.out.1
    by_cases h1 : (p : Int) ≤ 1
    · have hR : Hid (e = d) := by
        obtain ⟨_, h2, h3⟩ := he.out
        refine Lib.hid ?_
        rcases Nat.eq_or_lt_of_le he1 with h4 | h4
        · exact h4
        · have : 2 ≤ 2 ^ (d - e) := pow2_le _ (by omega)
          omega
      go_wp2
      go_ret
      exact ⟨retI (by rw [hR.out]), rfl⟩
    · have hR : Hid (e + 1 ≤ d ∧ Deg (p / 2) (d - (e + 1))) := by
        refine Lib.hid ?_
        have h2 := he.out.2
        rcases Nat.eq_or_lt_of_le he1 with h4 | h4
        · subst h4
          have := h2.2
          simp at this
          omega
        · exact ⟨h4, deg_half (by rwa [show d - (e + 1) + 1 = d - e by omega])⟩
      go_wp2
      go_round
      case rel => exact ⟨p / 2, e + 1, by go_num, by go_num, by omega, hR⟩
      case measure => simp [intOf]; omega
set_option maxRecDepth 100000 in
theorem lOnes_any (n : Nat) (hn : n < 9223372036854775808) (w : World) : Calls Try.prog 27 #[.int .i64 (n : Int)] w fun e w' => e = .returned (.int .i64 ((wt n : Nat) : Int)) ∧ w = w' := by
  have HW := Lib.hid (wt_le 64 n (by omega) (by omega))
  obtain ⟨T, hT⟩ : ∃ T : Nat, wt n = T := ⟨_, rfl⟩
  rw [hT] at HW ⊢
  have HT := Lib.hid hT
  clear hT
  go_enter Try.func27, Try.ntmps27
  go_wp2
  go_loop [0, 3] (fun x y => ∃ p e : Nat, x = .int .i64 (p : Int) ∧ y = .int .i64 (e : Int) ∧ p ≤ n ∧ e ≤ 64 ∧ Hid (e + wt p = T)) (fun x _ => (intOf x).toNat)
  case atStart => exact ⟨n, 0, rfl, rfl, by omega, by omega, Lib.hid (by rw [HT.out]; omega)⟩
  case round =>
    obtain ⟨p, e, rfl, rfl, hp, he, hpe⟩ := hrel
    by_cases h1 : 0 < p
    · have h2 : Hid (e + p % 2 + wt (p / 2) = T ∧ e + p % 2 ≤ 64) := by
        have h3 := hpe.out
        rw [wt_step p (by omega)] at h3
        have := HW.out
        exact Lib.hid ⟨by omega, by omega⟩
      go_wp2
      go_round
      case rel => exact ⟨p / 2, e + p % 2, by go_num, by go_num, by omega, h2.out.2, Lib.hid h2.out.1⟩
      case measure => simp [intOf]; omega
    · obtain rfl : p = 0 := by omega
      have h3 : Hid (e = T) := Lib.hid (by rw [← hpe.out, wt_zero]; rfl)
      go_wp2
      go_ret
      exact ⟨retI (by rw [h3.out]), rfl⟩

theorem deg7 : Deg 7 2 := by unfold Deg; omega
theorem ok7 : OkC ((1 : Nat) : Int) ((7 : Nat) : Int) := by unfold OkC; omega
theorem ex1 : cw 1335 10 5 5 = 5340 := by decide +kernel
theorem ex2 : cw 1335 10 5 (0 * 8 + 5) ^^^ 21522 = 16590 := by decide +kernel
theorem ex3 : cw 7973 12 6 7 = 31892 := by decide +kernel
theorem ex4 : dist 7 2 1 = 3 := by decide +kernel
theorem ex5 : near 7 2 1 6 ((dist 7 2 1 - 1) / 2) (2 ^ 1) 0 = some 1 := by decide +kernel
theorem ex6 : wt (6 ^^^ cw 7 2 1 1) = 1 := by decide +kernel
theorem exE (w : World) : Calls Try.prog 11 #[.int .i64 5, .int .i64 5, .int .i64 1335] w fun e w' => e = .returned (.tuple #[.int .i64 5340, .int .i64 0]) ∧ Below w.heap.size w w' := by
  have := encode_ok 5 5 1335 10 okF degF (by omega) (by omega) w
  rw [ex1] at this
  exact this
theorem exF (w : World) : Calls Try.prog 18 #[.int .i64 2, .int .i64 5] w fun e w' => e = .returned (.tuple #[.int .i64 16590, .int .i64 0]) ∧ Below w.heap.size w w' := by
  have := format_ok 2 5 0 rfl (by omega) (by omega) w
  rw [ex2] at this
  exact this
theorem exV (w : World) : Calls Try.prog 22 #[.int .i64 7] w fun e w' => e = .returned (.tuple #[.int .i64 31892, .int .i64 0]) ∧ Below w.heap.size w w' := by
  have := version_yes 7 (by omega) (by omega) w
  rw [ex3] at this
  exact this
theorem exD (w : World) : Calls Try.prog 13 #[.int .i64 1, .int .i64 7] w fun e w' => e = .returned (.tuple #[.int .i64 3, .int .i64 0]) ∧ Below w.heap.size w w' := by
  have := distanceE_ok 1 7 2 ok7 deg7 (by omega) w
  rw [ex4] at this
  exact this
theorem exC (w : World) : Calls Try.prog 16 #[.int .i64 6, .int .i64 1, .int .i64 7] w fun e w' => e = .returned (.tuple #[.int .i64 1, .int .i64 1, .int .i64 0]) ∧ Below w.heap.size w w' := by
  have := decode_ok 6 1 7 2 ok7 deg7 (by omega) (by omega) (by omega) w
  rw [ex5] at this
  simp only [decV] at this
  rw [ex6] at this
  exact this
theorem exG (w : World) : Calls Try.prog 18 #[.int .i64 1, .int .i64 8] w fun e w' => e = .returned (.tuple #[.int .i64 0, .int .i64 3]) ∧ Below w.heap.size w w' :=
  format_mask 1 8 1 rfl (by omega) w
set_option maxRecDepth 100000 in
theorem examples_any (w : World) : Calls Try.prog 15 #[] w fun e w' => e = .returned (.bool true) ∧ Below w.heap.size w w' := by
  go_enter Try.func15, Try.ntmps15
  go_wp2_with fail
  refine (exE _).mono ?_
  rintro e w1 ⟨rfl, h1⟩
  go_wp2_with fail
  refine (exF _).mono ?_
  rintro e w2 ⟨rfl, h2⟩
  replace h2 := below_step h1 h2
  go_wp2_with fail
  refine (exV _).mono ?_
  rintro e w3 ⟨rfl, h3⟩
  replace h3 := below_step h2 h3
  go_wp2_with fail
  refine (exD _).mono ?_
  rintro e w4 ⟨rfl, h4⟩
  replace h4 := below_step h3 h4
  go_wp2_with fail
  refine (exC _).mono ?_
  rintro e w5 ⟨rfl, h5⟩
  replace h5 := below_step h4 h5
  go_wp2_with fail
  refine (exG _).mono ?_
  rintro e w6 ⟨rfl, h6⟩
  replace h6 := below_step h5 h6
  clear h1 h2 h3 h4 h5
  go_wp2
  go_ret
  exact ⟨rfl, h6⟩
end Go.Proofs.Ytnkoenohngkcmaa
