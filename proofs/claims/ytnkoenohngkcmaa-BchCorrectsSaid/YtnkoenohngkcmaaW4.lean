/- Contracts of package bch: Encode, Distance, Decode. -/
import Derived.Test.YtnkoenohngkcmaaW3
set_option linter.unusedVariables false
namespace Go.Proofs.Ytnkoenohngkcmaa
open Go.RowKit

theorem deg_of (g : Nat) (h : 3 ≤ g) (h2 : g < 524288) : ∃ d, Deg g d ∧ 1 ≤ d ∧ d ≤ 18 := by
  have aux : ∀ n, g < 2 ^ (n + 1) → ∃ d, Deg g d ∧ d ≤ n := by
    intro n
    induction n with
    | zero => intro h; simp at h; omega
    | succ n ih =>
      intro hn
      rcases Nat.lt_or_ge g (2 ^ (n + 1)) with h1 | h1
      · obtain ⟨d, hd, hle⟩ := ih h1; exact ⟨d, hd, by omega⟩
      · exact ⟨n + 1, ⟨h1, hn⟩, Nat.le_refl _⟩
  obtain ⟨d, hd, hle⟩ := aux 18 (by omega)
  refine ⟨d, hd, ?_, hle⟩
  rcases Nat.eq_zero_or_pos d with h0 | h0
  · subst h0; have := hd.2; simp at this; omega
  · exact h0
theorem ok_nat {k gen : Int} (h : OkC k gen) : ∃ k' g' d : Nat, k = k' ∧ gen = g' ∧ 1 ≤ k' ∧ k' ≤ 12 ∧ Deg g' d ∧ 1 ≤ d ∧ d ≤ 18 := by
  obtain ⟨h1, h2, h3, h4, _⟩ := h
  obtain ⟨d, hd, hd1, hd2⟩ := deg_of gen.toNat (by omega) (by omega)
  exact ⟨k.toNat, gen.toNat, d, by omega, by omega, by omega, by omega, hd, hd1, hd2⟩

set_option maxRecDepth 100000 in
theorem encode_bad (v k gen : Int) (h : ¬ OkC k gen) (w : World) : Calls Try.prog 11 #[.int .i64 v, .int .i64 k, .int .i64 gen] w fun e w' => e = .returned (.tuple #[.int .i64 0, .int .i64 1]) ∧ Below w.heap.size w w' := by
  obtain ⟨c1, c2⟩ := (Co.new w k gen).cells
  have HB := below_new w (.cells #[.int .i64 k, .int .i64 gen] 46)
  go_enter Try.func11, Try.ntmps11
  go_wp2_with fail
  refine (isValid_no k gen h _).mono ?_
  rintro e w1 ⟨rfl, hb1⟩
  have hB1 := below_step HB hb1
  go_wp2
  exact bodyPost_ret (v := .tuple #[.int .i64 0, .int .i64 1]) (by simp [results, Try.results11, go_sem]) rfl ⟨rfl, hB1⟩
set_option maxRecDepth 100000 in
theorem encode_out (v : Int) (k g : Nat) (h : OkC k g) (hv : v < 0 ∨ ((2 ^ k : Nat) : Int) ≤ v) (w : World) : Calls Try.prog 11 #[.int .i64 v, .int .i64 (k : Int), .int .i64 (g : Int)] w fun e w' => e = .returned (.tuple #[.int .i64 0, .int .i64 3]) ∧ Below w.heap.size w w' := by
  have HC := Co.new w k g
  have HB := below_new w (.cells #[.int .i64 (k : Int), .int .i64 (g : Int)] 46)
  obtain ⟨c1, c2⟩ := HC.cells
  have hk : k ≤ 12 := by have := h.2.1; omega
  go_enter Try.func11, Try.ntmps11
  go_wp2_with fail
  refine (isValid_yes k g h _).mono ?_
  rintro e w1 ⟨rfl, hb1⟩
  have hC1 := HC.next hb1
  have hB1 := below_step HB hb1
  clear c1 c2
  obtain ⟨c1, c2⟩ := hC1.cells
  by_cases h0 : v < 0
  · clear hv
    go_wp2
    exact bodyPost_ret (v := .tuple #[.int .i64 0, .int .i64 3]) (by simp [results, Try.results11, go_sem]) rfl ⟨rfl, hB1⟩
  · obtain ⟨N, hN⟩ : ∃ N : Nat, 2 ^ k = N := ⟨_, rfl⟩
    have hv2 : (N : Int) ≤ v := by omega
    have HK := count_any k g hk
    rw [hN] at HK
    clear hv hN
    go_wp2_with fail
    refine (HK _).mono ?_
    rintro e w2 ⟨rfl, hb2⟩
    have hB2 := below_step hB1 hb2
    go_wp2
    exact bodyPost_ret (v := .tuple #[.int .i64 0, .int .i64 3]) (by simp [results, Try.results11, go_sem]) rfl ⟨rfl, hB2⟩
set_option maxRecDepth 100000 in
theorem encode_ok (v k g d : Nat) (h : OkC k g) (hd : Deg g d) (hd18 : d ≤ 18) (hv : v < 2 ^ k) (w : World) : Calls Try.prog 11 #[.int .i64 (v : Int), .int .i64 (k : Int), .int .i64 (g : Int)] w fun e w' => e = .returned (.tuple #[.int .i64 ((cw g d k v : Nat) : Int), .int .i64 0]) ∧ Below w.heap.size w w' := by
  have HC := Co.new w k g
  have HB := below_new w (.cells #[.int .i64 (k : Int), .int .i64 (g : Int)] 46)
  obtain ⟨c1, c2⟩ := HC.cells
  have hk : k ≤ 12 := by have := h.2.1; omega
  have hk1 : 1 ≤ k := by have := h.1; omega
  go_enter Try.func11, Try.ntmps11
  go_wp2_with fail
  refine (isValid_yes k g h _).mono ?_
  rintro e w1 ⟨rfl, hb1⟩
  have hC1 := HC.next hb1
  have hB1 := below_step HB hb1
  clear c1 c2
  obtain ⟨c1, c2⟩ := hC1.cells
  obtain ⟨N, hN⟩ : ∃ N : Nat, 2 ^ k = N := ⟨_, rfl⟩
  have HV := Lib.hid hv
  have hv2 : (v : Int) < N := by omega
  have HK := count_any k g hk
  rw [hN] at HK
  clear hv hN
  go_wp2_with fail
  refine (HK _).mono ?_
  rintro e w2 ⟨rfl, hb2⟩
  have hC2 := hC1.next hb2
  have hB2 := below_step hB1 hb2
  clear c1 c2
  obtain ⟨c1, c2⟩ := hC2.cells
  go_wp2_with fail
  refine (codeword_any k g d v hd hd18 hk1 hk HV.out _).mono ?_
  rintro e w3 ⟨rfl, hb3⟩
  have hB3 := below_step hB2 hb3
  go_wp2
  exact bodyPost_ret (v := .tuple #[.int .i64 ((cw g d k v : Nat) : Int), .int .i64 0]) (by simp [results, Try.results11, go_sem]) rfl ⟨rfl, hB3⟩

set_option maxRecDepth 100000 in
theorem distanceE_bad (k gen : Int) (h : ¬ OkC k gen) (w : World) : Calls Try.prog 13 #[.int .i64 k, .int .i64 gen] w fun e w' => e = .returned (.tuple #[.int .i64 0, .int .i64 1]) ∧ Below w.heap.size w w' := by
  obtain ⟨c1, c2⟩ := (Co.new w k gen).cells
  have HB := below_new w (.cells #[.int .i64 k, .int .i64 gen] 46)
  go_enter Try.func13, Try.ntmps13
  go_wp2_with fail
  refine (isValid_no k gen h _).mono ?_
  rintro e w1 ⟨rfl, hb1⟩
  have hB1 := below_step HB hb1
  go_wp2
  exact bodyPost_ret (v := .tuple #[.int .i64 0, .int .i64 1]) (by simp [results, Try.results13, go_sem]) rfl ⟨rfl, hB1⟩
set_option maxRecDepth 100000 in
theorem distanceE_ok (k g d : Nat) (h : OkC k g) (hd : Deg g d) (hd18 : d ≤ 18) (w : World) : Calls Try.prog 13 #[.int .i64 (k : Int), .int .i64 (g : Int)] w fun e w' => e = .returned (.tuple #[.int .i64 ((dist g d k : Nat) : Int), .int .i64 0]) ∧ Below w.heap.size w w' := by
  have HC := Co.new w k g
  have HB := below_new w (.cells #[.int .i64 (k : Int), .int .i64 (g : Int)] 46)
  obtain ⟨c1, c2⟩ := HC.cells
  have hk : k ≤ 12 := by have := h.2.1; omega
  have hk1 : 1 ≤ k := by have := h.1; omega
  go_enter Try.func13, Try.ntmps13
  go_wp2_with fail
  refine (isValid_yes k g h _).mono ?_
  rintro e w1 ⟨rfl, hb1⟩
  have hC1 := HC.next hb1
  have hB1 := below_step HB hb1
  clear c1 c2
  obtain ⟨c1, c2⟩ := hC1.cells
  go_wp2_with fail
  refine (distance_any k g d hd hd18 hk1 hk _).mono ?_
  rintro e w2 ⟨rfl, hb2⟩
  have hB2 := below_step hB1 hb2
  go_wp2
  exact bodyPost_ret (v := .tuple #[.int .i64 ((dist g d k : Nat) : Int), .int .i64 0]) (by simp [results, Try.results13, go_sem]) rfl ⟨rfl, hB2⟩
end Go.Proofs.Ytnkoenohngkcmaa
