/- Contracts of package bch: Decode. -/
import Derived.Test.YtnkoenohngkcmaaW4
set_option linter.unusedVariables false
namespace Go.Proofs.Ytnkoenohngkcmaa
open Go.RowKit

set_option maxRecDepth 100000 in
theorem decode_bad (word k gen : Int) (h : ¬ OkC k gen) (w : World) : Calls Try.prog 16 #[.int .i64 word, .int .i64 k, .int .i64 gen] w fun e w' => e = .returned (.tuple #[.int .i64 0, .int .i64 0, .int .i64 1]) ∧ Below w.heap.size w w' := by
  obtain ⟨c1, c2⟩ := (Co.new w k gen).cells
  have HB := below_new w (.cells #[.int .i64 k, .int .i64 gen] 46)
  go_enter Try.func16, Try.ntmps16
  go_wp2_with fail
  refine (isValid_no k gen h _).mono ?_
  rintro e w1 ⟨rfl, hb1⟩
  have hB1 := below_step HB hb1
  go_wp2
  exact bodyPost_ret (v := .tuple #[.int .i64 0, .int .i64 0, .int .i64 1]) (by simp [results, Try.results16, go_sem]) rfl ⟨rfl, hB1⟩

theorem shl_count (N k d : Nat) (hN : 2 ^ k = N) (h : k + d ≤ 30) : IntKind.i64.wrap ((N : Int) * 2 ^ d) = ((2 ^ (k + d) : Nat) : Int) := by
  subst hN
  have := Nat.pow_le_pow_right (n := 2) (by omega) h
  rw [pow_cast, ← Int.natCast_mul, ← Nat.pow_add, IntKind.wrap_i64]
  generalize 2 ^ (k + d) = x at *
  omega
set_option maxRecDepth 100000 in
theorem decode_out (word : Int) (k g d : Nat) (h : OkC k g) (hd : Deg g d) (hd18 : d ≤ 18) (hv : word < 0 ∨ ((2 ^ (k + d) : Nat) : Int) ≤ word) (w : World) : Calls Try.prog 16 #[.int .i64 word, .int .i64 (k : Int), .int .i64 (g : Int)] w fun e w' => e = .returned (.tuple #[.int .i64 0, .int .i64 0, .int .i64 3]) ∧ Below w.heap.size w w' := by
  have HC := Co.new w k g
  have HB := below_new w (.cells #[.int .i64 (k : Int), .int .i64 (g : Int)] 46)
  obtain ⟨c1, c2⟩ := HC.cells
  have hk : k ≤ 12 := by have := h.2.1; omega
  go_enter Try.func16, Try.ntmps16
  go_wp2_with fail
  refine (isValid_yes k g h _).mono ?_
  rintro e w1 ⟨rfl, hb1⟩
  have hC1 := (HC.next hb1).drew
  have hB0 := below_step HB hb1
  have hB1 := hB0.drew
  have hd0 : (0 : Int) ≤ (d : Int) := by omega
  have hd3 : (d : Int) < 64 := by omega
  clear c1 c2
  obtain ⟨c1, c2⟩ := hC1.cells
  obtain ⟨N, hN⟩ : ∃ N : Nat, 2 ^ k = N := ⟨_, rfl⟩
  have HK := count_any k g hk
  have hsh := shl_count N k d hN (by omega)
  rw [hN] at HK
  have HS := Lib.hid hsh
  clear hN hsh
  by_cases h0 : word < 0
  · have hg : decide (word < 0) = true := by simpa using h0
    clear hv h0
    go_wp2
    go_quiet ((fail))
    all_goals
      go_wp2
      exact bodyPost_ret (v := .tuple #[.int .i64 0, .int .i64 0, .int .i64 3]) (by simp [results, Try.results16, go_sem]) rfl ⟨rfl, below_drawn hB0 _⟩
  · have hg : decide (word < 0) = false := by simpa using h0
    obtain ⟨M, hM⟩ : ∃ M : Nat, 2 ^ (k + d) = M := ⟨_, rfl⟩
    have hv2 : (M : Int) ≤ word := by omega
    have hsh := HS.out
    rw [hM] at hsh
    clear hv hM HS
    go_wp2
    go_region_held3 (fun W => W.cell? ⟨w.heap.size, 0, none⟩ = some (.int .i64 (k : Int)) ∧ W.cell? ⟨w.heap.size, 1, none⟩ = some (.int .i64 (g : Int)))
      (first | (with_reducible exact hC1.cells) | (with_reducible exact hC2.cells) | (with_reducible exact hC3.cells))
      (first
      | (go_at_call 29; (with_reducible refine (HK _).mono ?_); rintro e w2 ⟨rfl, hb2⟩; have hC2 := hC1.next hb2; have hB2 := below_step hB1 hb2; clear hC1 hb2 c1 c2 hB1; obtain ⟨c1, c2⟩ := hC2.cells)
      | (go_at_call 36; (with_reducible refine (degree_any _ g d hd hd18 _).mono ?_); rintro e w3 ⟨rfl, hb3⟩; have hC3 := hC2.next hb3; have hB3 := below_step hB2 hb3; clear hC2 hb3 c1 c2 hB2; obtain ⟨c1, c2⟩ := hC3.cells))
    all_goals
      go_wp2
      exact bodyPost_ret (v := .tuple #[.int .i64 0, .int .i64 0, .int .i64 3]) (by simp [results, Try.results16, go_sem]) rfl ⟨rfl, hB3⟩

/-- what Decode returns -/
def decV (g d k word L : Nat) : Option Nat → Value
  | some v => .tuple #[.int .i64 (v : Int), .int .i64 ((wt (word ^^^ cw g d k v) : Nat) : Int), .int .i64 0]
  | none => .tuple #[.int .i64 0, .int .i64 0, .int .i64 17]
set_option maxRecDepth 100000 in
theorem decode_ok (word k g d : Nat) (h : OkC k g) (hd : Deg g d) (hd18 : d ≤ 18) (hd1 : 1 ≤ d) (hv : word < 2 ^ (k + d)) (w : World) : Calls Try.prog 16 #[.int .i64 (word : Int), .int .i64 (k : Int), .int .i64 (g : Int)] w fun e w' =>
    e = .returned (decV g d k word ((dist g d k - 1) / 2) (near g d k word ((dist g d k - 1) / 2) (2 ^ k) 0)) ∧ Below w.heap.size w w' := by
  have HC := Co.new w k g
  have HB := below_new w (.cells #[.int .i64 (k : Int), .int .i64 (g : Int)] 46)
  obtain ⟨c1, c2⟩ := HC.cells
  have hk : k ≤ 12 := by have := h.2.1; omega
  have hk1 : 1 ≤ k := by have := h.1; omega
  have hD1 := dist_pos hd k hk1 (by omega)
  have hD2 : dist g d k ≤ k + d := least_top _ _ _
  have HDI := distance_any k g d hd hd18 hk1 hk
  have HNE := nearest_any k g d word ((dist g d k - 1) / 2) hd hd18 hk1 hk hv (by omega)
  obtain ⟨R, hR⟩ : ∃ R, near g d k word ((dist g d k - 1) / 2) (2 ^ k) 0 = R := ⟨_, rfl⟩
  rw [hR] at HNE ⊢
  clear hR
  obtain ⟨D, hD⟩ : ∃ D, dist g d k = D := ⟨_, rfl⟩
  rw [hD] at HDI HNE hD1 hD2 ⊢
  clear hD
  obtain ⟨L, hL⟩ : ∃ L, (D - 1) / 2 = L := ⟨_, rfl⟩
  rw [hL] at HNE ⊢
  have hLI : IntKind.i64.wrap ((IntKind.i64.wrap ((D : Int) - 1)).tdiv 2) = (L : Int) := by
    have e1 : IntKind.i64.wrap ((D : Int) - 1) = (D : Int) - 1 := by rw [IntKind.wrap_i64]; omega
    rw [e1, Int.tdiv_eq_ediv_of_nonneg (by omega), IntKind.wrap_i64]
    omega
  have hD1i : (1 : Int) ≤ (D : Int) := by omega
  have hD2i : (D : Int) ≤ 30 := by omega
  clear hL hD1 hD2
  rcases R with _ | v <;> simp only [nearV, decV] at HNE ⊢
  all_goals
    have HNER := Lib.hid HNE
    clear HNE
    go_enter Try.func16, Try.ntmps16
    go_wp2_with fail
    refine (isValid_yes k g h _).mono ?_
    rintro e w1 ⟨rfl, hb1⟩
    have hC1 := (HC.next hb1).drew
    have hB1 := (below_step HB hb1).drew
    have hd0 : (0 : Int) ≤ (d : Int) := by omega
    have hd3 : (d : Int) < 64 := by omega
    clear c1 c2
    obtain ⟨c1, c2⟩ := hC1.cells
    obtain ⟨N, hN⟩ : ∃ N : Nat, 2 ^ k = N := ⟨_, rfl⟩
    have HK := count_any k g hk
    have hsh := shl_count N k d hN (by omega)
    rw [hN] at HK
    clear hN
    have hg : decide ((word : Int) < 0) = false := decide_eq_false (by omega)
    obtain ⟨M, hM⟩ : ∃ M : Nat, 2 ^ (k + d) = M := ⟨_, rfl⟩
    rw [hM] at hsh
    have hv2 : (word : Int) < M := by omega
    have hv3 : word < M := by omega
    clear hv hM
    go_wp2
    go_region_held3 (fun W => W.cell? ⟨w.heap.size, 0, none⟩ = some (.int .i64 (k : Int)) ∧ W.cell? ⟨w.heap.size, 1, none⟩ = some (.int .i64 (g : Int)))
      (first | (with_reducible exact hC1.cells) | (with_reducible exact hC2.cells) | (with_reducible exact hC3.cells))
      (first
      | (go_at_call 29; (with_reducible refine (HK _).mono ?_); rintro e w2 ⟨rfl, hb2⟩; have hC2 := hC1.next hb2; have hB2 := below_step hB1 hb2; clear hC1 hb2 c1 c2 hB1; obtain ⟨c1, c2⟩ := hC2.cells)
      | (go_at_call 36; (with_reducible refine (degree_any _ g d hd hd18 _).mono ?_); rintro e w3 ⟨rfl, hb3⟩; have hC3 := hC2.next hb3; have hB3 := below_step hB2 hb3; clear hC2 hb3 c1 c2 hB2; obtain ⟨c1, c2⟩ := hC3.cells))
    clear hsh HK
    replace hC3 := hC3.drew
    replace hB3 := hB3.drew
    clear c1 c2
    obtain ⟨c1, c2⟩ := hC3.cells
    go_wp2
    go_region_held3 (fun W => W.cell? ⟨w.heap.size, 0, none⟩ = some (.int .i64 (k : Int)) ∧ W.cell? ⟨w.heap.size, 1, none⟩ = some (.int .i64 (g : Int)))
      (first | (with_reducible exact hC3.cells) | (with_reducible exact hC4.cells) | (with_reducible exact hC5.cells))
      (first
      | (go_at_call 34; (with_reducible refine (HDI _).mono ?_); rintro e w4 ⟨rfl, hb4⟩; have hC4 := hC3.next hb4; have hB4 := below_step hB3 hb4; clear hC3 hb4 c1 c2 hB3; obtain ⟨c1, c2⟩ := hC4.cells)
      | (go_at_call 37; (with_reducible refine (HNER.out _).mono ?_); rintro e w5 ⟨rfl, hb5⟩; have hC5 := hC4.next hb5; have hB5 := below_step hB4 hb5; clear hC4 hb5 c1 c2 hB4; obtain ⟨c1, c2⟩ := hC5.cells))
    all_goals
      go_wp2
      first
        | exact bodyPost_ret (v := .tuple #[.int .i64 0, .int .i64 0, .int .i64 17]) (by simp [results, Try.results16, go_sem]) rfl ⟨rfl, hB5⟩
        | exact bodyPost_ret (v := .tuple #[.int .i64 (v : Int), .int .i64 ((wt (word ^^^ cw g d k v) : Nat) : Int), .int .i64 0]) (by simp [results, Try.results16, go_sem]) rfl ⟨rfl, hB5⟩
end Go.Proofs.Ytnkoenohngkcmaa
