/- BchCorrects and BchDetects return true for every argument. No condition. -/
import Derived.Test.YtnkoenohngkcmaaL2
set_option linter.unusedVariables false
namespace Go.Proofs.Ytnkoenohngkcmaa
open Go.RowKit

theorem pow_le_30 {n : Nat} (h : n ≤ 30) : 2 ^ n ≤ 1073741824 := Nat.pow_le_pow_right (n := 2) (by omega) h
theorem near_found {g d : Nat} (h : Deg g d) (k v flips : Nat) (hv : v < 2 ^ k) (hp : 1 ≤ dist g d k) (hn : 2 * wt flips < dist g d k) :
    near g d k (cw g d k v ^^^ flips) ((dist g d k - 1) / 2) (2 ^ k) 0 = some v ∧ (cw g d k v ^^^ flips) ^^^ cw g d k v = flips := by
  have e : (cw g d k v ^^^ flips) ^^^ cw g d k v = flips := by rw [Nat.xor_comm (cw g d k v), Nat.xor_assoc, Nat.xor_self, Nat.xor_zero]
  have h1 : wt ((cw g d k v ^^^ flips) ^^^ cw g d k v) ≤ (dist g d k - 1) / 2 := by rw [e]; omega
  refine ⟨?_, e⟩
  apply first_one
  · exact Nat.zero_le _
  · omega
  · exact decide_eq_true h1
  · intro x _ hx hpx
    exact near_one h k _ x v (by omega) hv (of_decide_eq_true hpx) h1 hp

set_option maxRecDepth 100000 in
theorem law_corrects_bad (v change k gen : Int) (w : World) (h : ¬ OkC k gen) :
    Calls Try.prog 8 #[.int .u16 v, .int .u32 change, .int .i64 k, .int .i64 gen] w fun e w' => e = .returned (.bool true) ∧ Below w.heap.size w w' := by
  go_enter Try.func8, Try.ntmps8
  go_wp2_with fail
  refine (distanceE_bad k gen h _).mono ?_
  rintro e w1 ⟨rfl, h1⟩
  go_wp2_with fail
  refine (examples_any _).mono ?_
  rintro e w4 ⟨rfl, h4⟩
  go_wp2
  go_ret
  exact ⟨rfl, below_step h1 h4⟩
theorem corr_nums (k d S M N : Nat) (hS : k + d = S) (hk : k ≤ 12) (hd : d ≤ 18) (hM : M ≤ 1073741824) (hM0 : 0 < M) (hN : N ≤ 4096) (hN0 : 0 < N) :
    (k : Int) + (d : Int) = (S : Int) ∧ (S : Int) ≤ 30 ∧ (M : Int) ≤ 1073741824 ∧ (0 : Int) < M ∧ ¬ (M : Int) = 0 ∧ (0 : Int) < N ∧ ¬ (N : Int) = 0 ∧ (N : Int) ≤ 4096 := by
  refine ⟨?_, ?_, ?_, ?_, ?_, ?_, ?_, ?_⟩ <;> omega
theorem lt_dec {T D : Nat} (h : 2 * T < D) : decide ((D : Int) ≤ 2 * (T : Int)) = false := decide_eq_false (by omega)
theorem ge_dec {T D : Nat} (h : ¬ 2 * T < D) : decide ((D : Int) ≤ 2 * (T : Int)) = true := decide_eq_true (by omega)
set_option maxHeartbeats 1000000 in
set_option maxRecDepth 100000 in
theorem law_corrects_ok (v change : Int) (k g d : Nat) (w : World) (hk1 : 1 ≤ k) (hk : k ≤ 12) (hg : OkC k g) (hd : Deg g d) (hd1 : 1 ≤ d) (hd18 : d ≤ 18) (ha : 0 ≤ v ∧ v ≤ 65535) (hb : 0 ≤ change ∧ change ≤ 4294967295) :
    Calls Try.prog 8 #[.int .u16 v, .int .u32 change, .int .i64 (k : Int), .int .i64 (g : Int)] w fun e w' => e = .returned (.bool true) ∧ Below w.heap.size w w' := by
  have hg1 : (3 : Int) ≤ (g : Int) := hg.2.2.1
  have hg2 : (g : Int) < 524288 := hg.2.2.2.1
  have hk1i : (1 : Int) ≤ (k : Int) := by omega
  have hk2i : (k : Int) ≤ 12 := by omega
  have hp := pow64 k (by omega)
  have hp2 := pow64 (k + d) (by omega)
  have hp12 := pow_le_12 k hk
  have hp0 : 0 < 2 ^ k := Nat.pow_pos (by omega)
  have hq30 : 2 ^ (k + d) ≤ 1073741824 := pow_le_30 (by omega)
  have hq0 : 0 < 2 ^ (k + d) := Nat.pow_pos (by omega)
  obtain ⟨x, _, hx, _, hax, _⟩ := two_data v v k (2 ^ k) rfl ha.1 ha.1
  obtain ⟨f, _, hf, _, hbf, _⟩ := two_data change change (k + d) (2 ^ (k + d)) rfl hb.1 hb.1
  have HE := encode_ok x k g d hg hd hd18 hx
  have hcx := cw_lt hd k x hx
  have hxf := i64_xor (cw g d k x) f (k + d) hcx hf (by omega)
  have hwl := Nat.xor_lt_two_pow hcx hf
  have HD := decode_ok (cw g d k x ^^^ f) k g d hg hd hd18 hd1 hwl
  have hD1 := dist_pos hd k hk1 (by omega)
  have hD2 : dist g d k ≤ k + d := least_top _ _ _
  have HN := fun h => near_found hd k x f hx hD1 h
  have HDE := distanceE_ok k g d hg hd hd18
  have HO := lOnes_any f (by omega)
  have hwf : wt f ≤ 64 := wtF_le 64 f
  obtain ⟨D, hD⟩ : ∃ D, dist g d k = D := ⟨_, rfl⟩
  rw [hD] at HD HDE hD1 hD2 HN
  obtain ⟨X, hX⟩ : ∃ X, cw g d k x = X := ⟨_, rfl⟩
  rw [hX] at HE hxf
  have HD2 : Hid (2 * wt f < D → ∀ w, Calls Try.prog 16 #[.int .i64 ((cw g d k x ^^^ f : Nat) : Int), .int .i64 (k : Int), .int .i64 (g : Int)] w fun e w' => e = .returned (.tuple #[.int .i64 (x : Int), .int .i64 ((wt f : Nat) : Int), .int .i64 0]) ∧ Below w.heap.size w w') := by
    refine Lib.hid ?_
    intro h w
    have h1 := HD w
    obtain ⟨h2, h3⟩ := HN h
    rw [h2] at h1
    simp only [decV] at h1
    rw [h3] at h1
    exact h1
  rw [hX] at HD2
  obtain ⟨T, hT⟩ : ∃ T, wt f = T := ⟨_, rfl⟩
  rw [hT] at HO HD2 hwf
  obtain ⟨Y, hY⟩ : ∃ Y, X ^^^ f = Y := ⟨_, rfl⟩
  rw [hY] at hxf HD2
  obtain ⟨N, hN⟩ : ∃ N : Nat, 2 ^ k = N := ⟨_, rfl⟩
  obtain ⟨M, hM⟩ : ∃ M : Nat, 2 ^ (k + d) = M := ⟨_, rfl⟩
  rw [hN] at hp hp12 hp0 hx hax
  rw [hM] at hp2 hq0 hf hbf hq30
  obtain ⟨S, hS⟩ : ∃ S : Nat, k + d = S := ⟨_, rfl⟩
  rw [hS] at hp2
  obtain ⟨hkd, hS30, hM30, hMI, hM2, hNI, hN2, hN3⟩ := corr_nums k d S M N hS hk hd18 hq30 hq0 hp12 hp0
  obtain ⟨ha1, ha2⟩ := ha
  obtain ⟨hb1, hb2⟩ := hb
  have hT2 : (T : Int) ≤ 64 := Int.ofNat_le.2 hwf
  have hDI : (D : Int) ≤ 30 := Int.ofNat_le.2 (Nat.le_trans hD2 (Nat.add_le_add hk hd18))
  have hDeg := lDegree_any g d hd hd18
  clear hN hM hS hX hY hT HD HN hD hcx hwl hq30 hp12 hD2 hd hg hk1 hk hd1 hd18 hf hx hwf hp0 hq0
  generalize (g : Int) = gi at *
  have hgd1 : decide (gi < 3) = false := decide_eq_false (by omega)
  have hgd2 : decide (524288 ≤ gi) = false := decide_eq_false (by omega)
  clear hg1 hg2
  by_cases hlt : 2 * T < D
  · have HDD := HD2.out hlt
    have hltd := lt_dec hlt
    clear HD2 hlt hD1
    go_enter Try.func8, Try.ntmps8
    go_wp2_with fail
    refine (HDE _).mono ?_
    rintro e w1 ⟨rfl, h1⟩
    go_wp2_with fail
    refine (hDeg _).mono ?_
    rintro e w2 ⟨rfl, rfl⟩
    go_wp2_with fail
    refine (HO _).mono ?_
    rintro e w2 ⟨rfl, rfl⟩
    go_wp2_with fail
    refine (HE _).mono ?_
    rintro e w2 ⟨rfl, h2⟩
    go_wp2_with fail
    refine (HDD _).mono ?_
    rintro e w3 ⟨rfl, h3⟩
    go_wp2_with fail
    refine (examples_any _).mono ?_
    rintro e w4 ⟨rfl, h4⟩
    go_wp2
    go_ret
    exact ⟨rfl, below_step (below_step (below_step h1 h2) h3) h4⟩
  · have hltd := ge_dec hlt
    clear HD2 hlt hD1
    go_enter Try.func8, Try.ntmps8
    go_wp2_with fail
    refine (HDE _).mono ?_
    rintro e w1 ⟨rfl, h1⟩
    go_wp2_with fail
    refine (hDeg _).mono ?_
    rintro e w2 ⟨rfl, rfl⟩
    go_wp2_with fail
    refine (HO _).mono ?_
    rintro e w2 ⟨rfl, rfl⟩
    go_wp2_with fail
    refine (examples_any _).mono ?_
    rintro e w4 ⟨rfl, h4⟩
    go_wp2
    go_ret
    exact ⟨rfl, below_step h1 h4⟩
theorem law_corrects (v change k gen : Int) (w : World) (ha : 0 ≤ v ∧ v ≤ 65535) (hb : 0 ≤ change ∧ change ≤ 4294967295) (hk : -9223372036854775808 ≤ k ∧ k ≤ 9223372036854775807) (hg : -9223372036854775808 ≤ gen ∧ gen ≤ 9223372036854775807) :
    Calls Try.prog 8 #[.int .u16 v, .int .u32 change, .int .i64 k, .int .i64 gen] w fun e w' => e = .returned (.bool true) ∧ Below w.heap.size w w' := by
  by_cases h : OkC k gen
  · obtain ⟨k', g, d, rfl, rfl, hk1, hk12, hd, hd1, hd18⟩ := ok_nat h
    exact law_corrects_ok v change k' g d w hk1 hk12 h hd hd1 hd18 ha hb
  · exact law_corrects_bad v change k gen w h

set_option maxRecDepth 100000 in
theorem law_detects_no (word k gen er : Int) (w : World) (he : er = 1 ∨ er = 3 ∨ er = 17) (H : ∀ w, Calls Try.prog 16 #[.int .i64 word, .int .i64 k, .int .i64 gen] w fun e w' => e = .returned (.tuple #[.int .i64 0, .int .i64 0, .int .i64 er]) ∧ Below w.heap.size w w') :
    Calls Try.prog 9 #[.int .i64 word, .int .i64 k, .int .i64 gen] w fun e w' => e = .returned (.bool true) ∧ Below w.heap.size w w' := by
  rcases he with rfl | rfl | rfl
  all_goals
    go_enter Try.func9, Try.ntmps9
    go_wp2_with fail
    refine (H _).mono ?_
    rintro e w1 ⟨rfl, h1⟩
    go_wp2_with fail
    refine (examples_any _).mono ?_
    rintro e w4 ⟨rfl, h4⟩
    go_wp2
    go_ret
    exact ⟨rfl, below_step h1 h4⟩
set_option maxRecDepth 100000 in
theorem law_detects_yes (word v T D X Y : Nat) (k gen : Int) (w : World) (h : 2 * T < D) (hD : D ≤ 30) (hY : Go.bits .xor .i64 (X : Int) (word : Int) = (Y : Int)) (hY2 : Y < 9223372036854775808) (hYT : wt Y = T)
    (H : ∀ w, Calls Try.prog 16 #[.int .i64 (word : Int), .int .i64 k, .int .i64 gen] w fun e w' => e = .returned (.tuple #[.int .i64 (v : Int), .int .i64 (T : Int), .int .i64 0]) ∧ Below w.heap.size w w')
    (H2 : ∀ w, Calls Try.prog 13 #[.int .i64 k, .int .i64 gen] w fun e w' => e = .returned (.tuple #[.int .i64 (D : Int), .int .i64 0]) ∧ Below w.heap.size w w')
    (H3 : ∀ w, Calls Try.prog 11 #[.int .i64 (v : Int), .int .i64 k, .int .i64 gen] w fun e w' => e = .returned (.tuple #[.int .i64 (X : Int), .int .i64 0]) ∧ Below w.heap.size w w') :
    Calls Try.prog 9 #[.int .i64 (word : Int), .int .i64 k, .int .i64 gen] w fun e w' => e = .returned (.bool true) ∧ Below w.heap.size w w' := by
  have HO := lOnes_any Y hY2
  rw [hYT] at HO
  have hlt : decide (2 * (T : Int) < (D : Int)) = true := decide_eq_true (by omega)
  have hT2 : (T : Int) ≤ 30 := by omega
  clear hYT hY2 h hD
  go_enter Try.func9, Try.ntmps9
  go_wp2_with fail
  refine (H _).mono ?_
  rintro e w1 ⟨rfl, h1⟩
  go_wp2_with fail
  refine (H2 _).mono ?_
  rintro e w2 ⟨rfl, h2⟩
  go_wp2_with fail
  refine (H3 _).mono ?_
  rintro e w3 ⟨rfl, h3⟩
  go_wp2_with fail
  refine (HO _).mono ?_
  rintro e w4 ⟨rfl, rfl⟩
  go_wp2_with fail
  refine (examples_any _).mono ?_
  rintro e w4 ⟨rfl, h4⟩
  go_wp2
  go_ret
  exact ⟨rfl, below_step (below_step (below_step h1 h2) h3) h4⟩
theorem law_detects (word k gen : Int) (w : World) (hw : -9223372036854775808 ≤ word ∧ word ≤ 9223372036854775807) (hk : -9223372036854775808 ≤ k ∧ k ≤ 9223372036854775807) (hg : -9223372036854775808 ≤ gen ∧ gen ≤ 9223372036854775807) :
    Calls Try.prog 9 #[.int .i64 word, .int .i64 k, .int .i64 gen] w fun e w' => e = .returned (.bool true) ∧ Below w.heap.size w w' := by
  by_cases h : OkC k gen
  · obtain ⟨k', g, d, rfl, rfl, hk1, hk12, hd, hd1, hd18⟩ := ok_nat h
    by_cases hv : word < 0 ∨ ((2 ^ (k' + d) : Nat) : Int) ≤ word
    · exact law_detects_no word k' g 3 w (by omega) (fun w => decode_out word k' g d h hd hd18 hv w)
    · obtain ⟨u, rfl⟩ : ∃ u : Nat, word = u := ⟨word.toNat, by omega⟩
      have hu : u < 2 ^ (k' + d) := by omega
      have H1 := fun w => decode_ok u k' g d h hd hd18 hd1 hu w
      cases hn : near g d k' u ((dist g d k' - 1) / 2) (2 ^ k') 0 with
      | none =>
        rw [hn] at H1
        exact law_detects_no u k' g 17 w (by omega) H1
      | some v =>
        rw [hn] at H1
        have hv2 := near_lt hn
        have hp := near_pred hn
        have hv3 : v < 2 ^ k' := by omega
        have hD1 := dist_pos hd k' hk1 (by omega)
        have hD2 : dist g d k' ≤ k' + d := least_top _ _ _
        have hc := cw_lt hd k' v hv3
        have hx := i64_xor (cw g d k' v) u (k' + d) hc hu (by omega)
        have hxl := Nat.xor_lt_two_pow hc hu
        have hq30 : 2 ^ (k' + d) ≤ 1073741824 := pow_le_30 (by omega)
        exact law_detects_yes u v _ (dist g d k') (cw g d k' v) _ k' g w (by omega) (by omega) hx (by omega) (by rw [Nat.xor_comm]) H1 (fun w => distanceE_ok k' g d h hd hd18 w) (fun w => encode_ok v k' g d h hd hd18 hv3 w)
  · exact law_detects_no word k gen 1 w (by omega) (fun w => decode_bad word k gen h w)
end Go.Proofs.Ytnkoenohngkcmaa
