/- Contracts of the specification of galois: degree, rest, irreducible, prime. -/
import Derived.Test.YtjbaleadahefoaaDoorW2
import Derived.LoopN
set_option linter.unusedVariables false
namespace Go.Proofs.YtjbaleadahefoaaDoor
open Go.RowKit

theorem bitLen_dgI (p : Nat) (hp : p < 9223372036854775808) : (Lib.bitLen p : Int) - 1 = dgI p := by
  unfold dgI
  rcases Nat.eq_zero_or_pos p with h0 | h0
  · subst h0; rw [bitLen_zero]; rfl
  · have hl : Nat.log2 p < 63 := log_lt h0 hp
    rw [if_neg (by omega), bitLen_deg p _ (deg_log p h0) (by omega)]
    omega
theorem degreeOf_nat (p : Nat) (hp : p < 9223372036854775808) (w : World) : Calls Tryd.prog 41 #[.int .i64 (p : Int)] w fun e w' => e = .returned (.int .i64 (dgI p)) ∧ w = w' := by
  have := degreeOf_int p (by omega) (by omega) w
  rw [show ((p : Int) % 18446744073709551616).toNat = p by omega, bitLen_dgI p hp] at this
  exact this
theorem degreeOf_neg (p : Int) (h0 : p < 0) (h1 : -9223372036854775808 ≤ p) (w : World) : Calls Tryd.prog 41 #[.int .i64 p] w fun e w' => e = .returned (.int .i64 63) ∧ w = w' := by
  have := degreeOf_int p h1 (by omega) w
  have hd : Deg (p % 18446744073709551616).toNat 63 := by unfold Deg; omega
  rw [bitLen_deg _ 63 hd (by omega)] at this
  exact this
theorem dgI_half (p : Nat) (h : 0 < p) : dgI p = dgI (p / 2) + 1 := by
  unfold dgI
  rw [if_neg (by omega)]
  rcases Nat.eq_zero_or_pos (p / 2) with h0 | h0
  · obtain rfl : p = 1 := by omega
    rfl
  · rw [if_neg (by omega)]
    have h1 := deg_log p h
    have h2 := deg_log (p / 2) h0
    have : Nat.log2 p = Nat.log2 (p / 2) + 1 := by
      apply deg_unique
      have a := h2.1
      have b := h2.2
      rw [Nat.pow_succ] at b
      exact ⟨by rw [Nat.pow_succ]; omega, by rw [Nat.pow_succ, Nat.pow_succ]; omega⟩
    omega
theorem dgI_le (p : Nat) (hp : p < 9223372036854775808) : -1 ≤ dgI p ∧ dgI p ≤ 62 := by
  unfold dgI
  split
  · omega
  · have := log_lt (p := p) (n := 63) (by omega) hp
    omega
theorem rDegree_any (p : Nat) (hp : p < 9223372036854775808) (w : World) : Calls Tryd.prog 46 #[.int .i64 (p : Int)] w fun e w' => e = .returned (.int .i64 (dgI p)) ∧ w = w' := by
  have HB := Lib.hid (dgI_le p hp)
  obtain ⟨D, hD⟩ : ∃ D, dgI p = D := ⟨_, rfl⟩
  rw [hD] at HB ⊢
  have HD := Lib.hid hD
  clear hD
  have hp1 : (p : Int) ≤ 9223372036854775807 := by omega
  go_enter Tryd.func46, Tryd.ntmps46
  go_wp2
  go_loop [0, 3] (fun x y => ∃ (q : Nat) (e : Int), x = .int .i64 (q : Int) ∧ y = .int .i64 e ∧ q ≤ p ∧ -1 ≤ e ∧ e ≤ 62 ∧ Hid (e + dgI q = D - 1)) (fun x _ => (intOf x).toNat)
  case atStart => exact ⟨p, -1, rfl, rfl, by omega, by omega, by omega, Lib.hid (by rw [HD.out]; omega)⟩
  case round =>
    obtain ⟨q, e, rfl, rfl, hq, he1, he2, he⟩ := hrel
    by_cases h0 : q = 0
    · have hR : Hid (e = D) := Lib.hid (by have := he.out; rw [h0, dgI_zero] at this; omega)
      subst h0
      go_wp2
      go_ret
      exact ⟨retI hR.out, rfl⟩
    · have hR : Hid (e + 1 + dgI (q / 2) = D - 1 ∧ e + 1 ≤ 62) := by
        have h1 := he.out
        have h2 := dgI_half q (by omega)
        have h3 := dgI_le (q / 2) (by omega)
        have h4 := HB.out
        exact Lib.hid ⟨by omega, by omega⟩
      have hq0 : (0 : Int) < (q : Int) := by omega
      have hqp : (q : Int) ≤ 9223372036854775807 := by omega
      go_wp2
      go_round
      case rel => exact ⟨q / 2, e + 1, by go_num, rfl, by omega, by omega, hR.out.2, Lib.hid hR.out.1⟩
      case measure => simp [intOf]; omega
theorem rDegree_neg (p : Int) (h : p ≤ 0) (w : World) : Calls Tryd.prog 46 #[.int .i64 p] w fun e w' => e = .returned (.int .i64 (-1)) ∧ w = w' := by
  go_enter Tryd.func46, Tryd.ntmps46
  go_wp2
  refine wp_loop_rounds 1 ?_
  rw [rounds_succ]; go_wp2
  go_ret
  exact ⟨rfl, rfl⟩

theorem bit_i64 (r i : Nat) (hr : r < 1073741824) : (Go.bits .and .i64 ((r : Int) / (2 : Int) ^ i) 1 == 1) = r.testBit i := by
  have h : r / 2 ^ i ≤ r := Nat.div_le_self _ _
  have := i64_and (r / 2 ^ i) 1 40 (by omega) (by omega) (by omega)
  have e : Go.bits .and .i64 ((r / 2 ^ i : Nat) : Int) 1 = ((r / 2 ^ i % 2 : Nat) : Int) := by
    rw [← Nat.and_one_is_mod]; exact this
  rw [shr64, e, Nat.testBit_eq_decide_div_mod_eq]
  rcases Nat.mod_two_eq_zero_or_one (r / 2 ^ i) with h0 | h0 <;> rw [h0] <;> rfl
set_option maxRecDepth 100000 in
theorem rest_any (p g d : Nat) (h : Deg g d) (hd : d ≤ 12) (hp : p < 1073741824) (w : World) : Calls Tryd.prog 64 #[.int .i64 (p : Int), .int .i64 (g : Int)] w fun e w' => e = .returned (.int .i64 ((rm p g : Nat) : Int)) ∧ w = w' := by
  have hg0 : 0 < g := Nat.lt_of_lt_of_le (Nat.pow_pos (by omega)) h.1
  have hg13 : g < 2 ^ 13 := Nat.lt_of_lt_of_le h.2 (Nat.pow_le_pow_right (by omega) (by omega))
  have HDG := rDegree_any g (by omega)
  rw [dgI_pos hg0, deg_unique h] at HDG
  have HDP := rDegree_any p (by omega)
  have HPB := Lib.hid (dgI_le p (by omega))
  obtain ⟨R, hR⟩ : ∃ R, rm p g = R := ⟨_, rfl⟩
  rw [hR]
  have HS : Hid (∃ j : Nat, j ≤ 31 ∧ red g d j p = R ∧ p < 2 ^ (j + d) ∧ ((dgI p = (j : Int) + d - 1 ∧ j + d ≤ 30) ∨ (j = 0 ∧ dgI p < d))) := by
    refine Lib.hid ?_
    rcases Nat.eq_zero_or_pos p with h0 | h0
    · subst h0
      exact ⟨0, by omega, by rw [← hR]; show (0 : Nat) = rm 0 g; unfold rm; rw [red_zero], Nat.pow_pos (by omega), Or.inr ⟨rfl, by rw [dgI_zero]; omega⟩⟩
    · have hl := log_lt (n := 30) h0 hp
      have hdp := deg_log p h0
      rw [dgI_pos h0]
      rcases Nat.lt_or_ge (Nat.log2 p) d with h1 | h1
      · have hlt : p < 2 ^ (0 + d) := Nat.lt_of_lt_of_le hdp.2 (Nat.pow_le_pow_right (by omega) (by omega))
        exact ⟨0, by omega, by rw [← hR]; exact rm_red h hlt (by omega), hlt, Or.inr ⟨rfl, by omega⟩⟩
      · have hlt : p < 2 ^ ((Nat.log2 p + 1 - d) + d) := by rw [show Nat.log2 p + 1 - d + d = Nat.log2 p + 1 by omega]; exact hdp.2
        exact ⟨Nat.log2 p + 1 - d, by omega, by rw [← hR]; exact rm_red h hlt (by omega), hlt, Or.inl ⟨by omega, by omega⟩⟩
  have HP := Lib.hid hp
  obtain ⟨DP, hDP⟩ : ∃ D, dgI p = D := ⟨_, rfl⟩
  rw [hDP] at HDP HPB HS
  have hDP1 := HPB.out.1
  have hDP2 := HPB.out.2
  have hDI : (d : Int) ≤ 12 := by omega
  clear hR hp hg0 hg13 hDP
  go_enter Tryd.func64, Tryd.ntmps64
  go_wp2_with fail
  refine (HDG _).mono ?_
  rintro e w1 ⟨rfl, rfl⟩
  go_wp2_with fail
  refine (HDP _).mono ?_
  rintro e w1 ⟨rfl, rfl⟩
  go_wp2_with fail
  go_loop [0, 6] (fun x y => ∃ (j r : Nat) (K : Int), x = .int .i64 (r : Int) ∧ y = .int .i64 K ∧ -1 ≤ K ∧ K ≤ 62 ∧ Hid (red g d j r = R ∧ r < 2 ^ (j + d) ∧ r < 1073741824 ∧ ((K = (j : Int) + d - 1 ∧ j + d ≤ 30) ∨ (j = 0 ∧ K < d)))) (fun _ y => (intOf y + 1).toNat)
  case atStart =>
    obtain ⟨j, h1, h2, h3, h4⟩ := HS.out
    exact ⟨j, p, DP, rfl, rfl, hDP1, hDP2, Lib.hid ⟨h2, h3, HP.out, h4⟩⟩
  case round =>
    obtain ⟨j, r, K, rfl, rfl, hK1, hK2, hr⟩ := hrel
    cases j with
    | zero =>
      have HE : Hid (r = R ∧ K < d) := by
        obtain ⟨h1, _, _, h4⟩ := hr.out
        exact Lib.hid ⟨h1, by omega⟩
      have hlt := HE.out.2
      go_wp2
      go_ret
      exact ⟨retI (by rw [HE.out.1]), rfl⟩
    | succ j =>
      obtain ⟨i, hi⟩ : ∃ i : Nat, j + d = i := ⟨_, rfl⟩
      have hKI : K = (i : Int) := by have := hr.out.2.2.2; omega
      have hi30 : i ≤ 29 := by have := hr.out.2.2.2; omega
      subst hKI
      have hid : (d : Int) ≤ (i : Int) := by omega
      have hij : (i : Int) - (d : Int) = (j : Int) := by omega
      have hb := bit_i64 r i hr.out.2.2.1
      have hlt := step_lt h j r (by rw [show j + 1 + d = j + 1 + d from rfl]; exact hr.out.2.1)
      have hg : g * 2 ^ j < 2 ^ 30 := by
        have := shl_lt g (d + 1) j h.2
        exact Nat.lt_of_lt_of_le this (Nat.pow_le_pow_right (by omega) (by omega))
      have hx := i64_xor r (g * 2 ^ j) 30 hr.out.2.2.1 hg (by omega)
      have hsh := shl64 g j 30 hg (by omega)
      have hr2 := hr.out.1
      simp only [red] at hr2
      rw [Nat.shiftLeft_eq] at hr2 hlt
      rw [hi] at hr2 hlt
      have hr30 := hr.out.2.2.1
      have hxl : r ^^^ (g * 2 ^ j) < 2 ^ 30 := Nat.xor_lt_two_pow hr30 hg
      have HI := Lib.hid hi
      obtain ⟨X, hX⟩ : ∃ X, g * 2 ^ j = X := ⟨_, rfl⟩
      rw [hX] at hx hsh hr2 hlt hxl
      obtain ⟨Y, hY⟩ : ∃ Y, r ^^^ X = Y := ⟨_, rfl⟩
      rw [hY] at hx hr2 hlt hxl
      have HJ : Hid ((if r.testBit i then Y else r) < 2 ^ i ∧ red g d j (if r.testBit i then Y else r) = R ∧ Y < 1073741824 ∧ r < 1073741824) := Lib.hid ⟨hlt, hr2, hxl, hr30⟩
      have hiI : (i : Int) ≤ 29 := by omega
      have hjI : (j : Int) ≤ 29 := by omega
      clear hX hY hr2 hlt hxl hr30 hg hr hi hi30
      cases htb : r.testBit i
      · rw [htb] at hb HJ
        clear htb
        go_wp2
        go_round
        case rel => exact ⟨j, r, (i : Int) - 1, rfl, rfl, by omega, by omega, Lib.hid ⟨HJ.out.2.1, by rw [HI.out]; exact HJ.out.1, HJ.out.2.2.2, Or.inl ⟨by have := HI.out; omega, by have := HI.out; omega⟩⟩⟩
        case measure => simp [intOf]
      · rw [htb] at hb HJ
        clear htb
        go_wp2
        go_round
        case rel => exact ⟨j, Y, (i : Int) - 1, rfl, rfl, by omega, by omega, Lib.hid ⟨HJ.out.2.1, by rw [HI.out]; exact HJ.out.1, HJ.out.2.2.1, Or.inl ⟨by have := HI.out; omega, by have := HI.out; omega⟩⟩⟩
        case measure => simp [intOf]

theorem log_mono {a b : Nat} (ha : 0 < a) (h : Nat.log2 a < Nat.log2 b) : a < b := by
  rcases Nat.eq_zero_or_pos b with h0 | h0
  · subst h0; simp at h
  · have h1 := (deg_log a ha).2
    have h2 := (deg_log b h0).1
    have := Nat.pow_le_pow_right (n := 2) (by omega) (show Nat.log2 a + 1 ≤ Nat.log2 b by omega)
    omega
theorem irreducible_neg (p d : Int) (hp : p < 0) (w : World) : Calls Tryd.prog 43 #[.int .i64 p, .int .i64 d] w fun e w' => e = .returned (.bool false) ∧ w = w' := by
  go_enter Tryd.func43, Tryd.ntmps43
  go_wp2
  go_ret
  exact ⟨rfl, rfl⟩
theorem irreducible_deg (p : Nat) (d : Int) (hp : p < 9223372036854775808) (hd : dgI p ≠ d) (w : World) : Calls Tryd.prog 43 #[.int .i64 (p : Int), .int .i64 d] w fun e w' => e = .returned (.bool false) ∧ w = w' := by
  have HD := rDegree_any p hp
  have hp0 : decide ((p : Int) < 0) = false := decide_eq_false (by omega)
  have hne : (dgI p == d) = false := beq_eq_false_iff_ne.2 hd
  generalize dgI p = D at *
  generalize (p : Int) = z at *
  clear hp
  go_enter Tryd.func43, Tryd.ntmps43
  go_wp2_with fail
  refine (HD _).mono ?_
  rintro e w1 ⟨rfl, rfl⟩
  go_wp2
  go_ret
  exact ⟨rfl, rfl⟩
set_option maxRecDepth 100000 in
theorem irreducible_any (p D : Nat) (h : Deg p D) (hD : D ≤ 12) (b : Bool) (hb : b = true ↔ ¬ HasD p D) (w : World) : Calls Tryd.prog 43 #[.int .i64 (p : Int), .int .i64 (D : Int)] w fun e w' => e = .returned (.bool b) ∧ w = w' := by
  have HB := Lib.hid hb
  have hp0 : 0 < p := Nat.lt_of_lt_of_le (Nat.pow_pos (by omega)) h.1
  have hp13 : p < 8192 := Nat.lt_of_lt_of_le h.2 (Nat.pow_le_pow_right (n := 2) (by omega) (show D + 1 ≤ 13 by omega))
  have HDP := rDegree_any p (by omega)
  rw [dgI_pos hp0, deg_unique h] at HDP
  have hpd : decide ((p : Int) < 0) = false := decide_eq_false (by omega)
  have HT2 : Hid (∀ t : Nat, 2 ≤ t → t ≤ 128 → ∃ (L R : Nat), L ≤ 7 ∧ (∀ w, Calls Tryd.prog 46 #[.int .i64 (t : Int)] w fun e w' => e = .returned (.int .i64 (L : Int)) ∧ w = w') ∧ (∀ w, Calls Tryd.prog 64 #[.int .i64 (p : Int), .int .i64 (t : Int)] w fun e w' => e = .returned (.int .i64 (R : Int)) ∧ w = w') ∧ Hid (L = Nat.log2 t ∧ R = rm p t)) := by
    refine Lib.hid ?_
    intro t h2 h128
    have hl := log_lt (p := t) (n := 8) (by omega) (by omega)
    refine ⟨Nat.log2 t, rm p t, by omega, ?_, rest_any p t (Nat.log2 t) (deg_log t (by omega)) (by omega) (by omega), Lib.hid ⟨rfl, rfl⟩⟩
    have := rDegree_any t (by omega)
    rwa [dgI_pos (by omega)] at this
  have HD := Lib.hid hD
  have hD12 : (D : Int) ≤ 12 := by omega
  obtain ⟨z, hz⟩ : ∃ z : Int, (p : Int) = z := ⟨_, rfl⟩
  rw [hz] at HDP hpd HT2 ⊢
  clear hb hp0 hp13 h hz hD
  obtain ⟨M, hM⟩ : ∃ M : Nat, M = 128 := ⟨_, rfl⟩
  have HM := Lib.hid hM
  clear hM
  go_enter Tryd.func43, Tryd.ntmps43
  go_wp2_with fail
  refine (HDP _).mono ?_
  rintro e w1 ⟨rfl, rfl⟩
  go_wp2_with fail
  go_loop [5] (fun x => ∃ q : Nat, x = .int .i64 (q : Int) ∧ Hid (2 ≤ q ∧ q ≤ 128 ∧ ∀ u, 2 ≤ u → u < q → rm p u ≠ 0)) (fun x => M - (intOf x).toNat)
  case atStart => exact ⟨2, rfl, Lib.hid ⟨by omega, by omega, fun u h1 h2 => by omega⟩⟩
  case round =>
    obtain ⟨q, rfl, hq⟩ := hrel
    obtain ⟨L, R, hL, HL, HR, HV⟩ := HT2.out q hq.out.1 hq.out.2.1
    have hLI : (L : Int) ≤ 7 := by omega
    have hqb : (q : Int) ≤ 128 := by have := hq.out.2.1; omega
    have hqb0 : (0 : Int) ≤ q := by omega
    clear hL
    by_cases hc1 : 2 * (L : Int) ≤ (D : Int)
    · by_cases hc2 : (R : Int) = 0
      · have hbf : b = false := no_of HB.out ⟨q, hq.out.1, by have := HV.out.1; omega, by have := HV.out.2; omega⟩
        go_wp2_with fail
        refine (HL _).mono ?_
        rintro e w1 ⟨rfl, rfl⟩
        go_wp2_with fail
        refine (HR _).mono ?_
        rintro e w1 ⟨rfl, rfl⟩
        go_wp2
        go_ret
        exact ⟨by rw [hbf]; rfl, rfl⟩
      · have HS : Hid (2 ≤ q + 1 ∧ q + 1 ≤ 128 ∧ ∀ u, 2 ≤ u → u < q + 1 → rm p u ≠ 0) := by
          obtain ⟨h1, h2, h3⟩ := hq.out
          refine Lib.hid ⟨by omega, ?_, ?_⟩
          · have hl6 : Nat.log2 q ≤ 6 := by have := HV.out.1; have := HD.out; omega
            have := (deg_log q (by omega)).2
            have := Nat.pow_le_pow_right (n := 2) (by omega) (show Nat.log2 q + 1 ≤ 7 by omega)
            omega
          · intro u hu1 hu2
            rcases Nat.lt_or_ge u q with hu | hu
            · exact h3 u hu1 hu
            · obtain rfl : u = q := by omega
              have := HV.out.2
              omega
        go_wp2_with fail
        refine (HL _).mono ?_
        rintro e w1 ⟨rfl, rfl⟩
        go_wp2_with fail
        refine (HR _).mono ?_
        rintro e w1 ⟨rfl, rfl⟩
        go_wp2
        go_round
        case rel => exact ⟨q + 1, by go_num, HS⟩
        case measure => have := HS.out.2.1; have := HM.out; simp [intOf]; omega
    · have hbt : b = true := by
        refine HB.out.2 ?_
        rintro ⟨u, hu1, hu2, hu3⟩
        obtain ⟨h1, h2, h3⟩ := hq.out
        have hlt := log_mono (a := u) (b := q) (by omega) (by have := HV.out.1; omega)
        exact h3 u hu1 hlt hu3
      go_wp2_with fail
      refine (HL _).mono ?_
      rintro e w1 ⟨rfl, rfl⟩
      go_wp2
      go_ret
      exact ⟨by rw [hbt]; rfl, rfl⟩

theorem prime_small (n : Int) (h : n < 2) (w : World) : Calls Tryd.prog 45 #[.int .i64 n] w fun e w' => e = .returned (.bool false) ∧ w = w' := by
  go_enter Tryd.func45, Tryd.ntmps45
  go_wp2
  refine wp_loop_rounds 1 ?_
  rw [rounds_succ]; go_wp2
  go_ret
  exact ⟨by simp; omega, rfl⟩
set_option maxRecDepth 100000 in
theorem prime_any (n : Nat) (h2n : 2 ≤ n) (hn : n ≤ 4096) (b : Bool) (hb : b = true ↔ ¬ HasF n) (w : World) : Calls Tryd.prog 45 #[.int .i64 (n : Int)] w fun e w' => e = .returned (.bool b) ∧ w = w' := by
  have HB := Lib.hid hb
  have HN := Lib.hid hn
  have hn0 : (n : Int) ≤ 4096 := by omega
  have hn1 : (2 : Int) ≤ n := by omega
  obtain ⟨z, hz⟩ : ∃ z : Int, (n : Int) = z := ⟨_, rfl⟩
  have HZ := Lib.hid hz
  rw [hz] at hn0 hn1 ⊢
  clear hn hz h2n hb
  obtain ⟨M, hM⟩ : ∃ M : Nat, M = 65 := ⟨_, rfl⟩
  have HM := Lib.hid hM
  clear hM
  go_enter Tryd.func45, Tryd.ntmps45
  go_wp2
  go_loop [3] (fun x => ∃ q : Nat, x = .int .i64 (q : Int) ∧ Hid (2 ≤ q ∧ q ≤ 65 ∧ ∀ u, 2 ≤ u → u < q → u * u ≤ n → n % u ≠ 0)) (fun x => M - (intOf x).toNat)
  case atStart => exact ⟨2, rfl, Lib.hid ⟨by omega, by omega, fun u h1 h2 => by omega⟩⟩
  case round =>
    obtain ⟨q, rfl, hq⟩ := hrel
    have h2i : (2 : Int) ≤ (q : Int) := by have := hq.out.1; omega
    have h65 : (q : Int) ≤ 65 := by have := hq.out.2.1; omega
    have htt : (q : Int) * (q : Int) ≤ 4225 := by
      have := Nat.mul_le_mul hq.out.2.1 hq.out.2.1
      rw [← Int.natCast_mul]; omega
    have htt0 : (0 : Int) ≤ (q : Int) * (q : Int) := by rw [← Int.natCast_mul]; omega
    by_cases hc1 : (q : Int) * (q : Int) ≤ z
    · have hq1 : Hid (q * q ≤ n) := Lib.hid (by have := HZ.out; rw [← Int.natCast_mul] at hc1; omega)
      by_cases hc2 : z % (q : Int) = 0
      · have hbf : b = false := no_of HB.out ⟨q, hq.out.1, hq1.out, by have := HZ.out; rw [← this, ← Int.natCast_emod] at hc2; omega⟩
        go_wp2
        go_ret
        exact ⟨by first | rfl | (rw [hbf]; rfl), rfl⟩
      · have HS : Hid (2 ≤ q + 1 ∧ q + 1 ≤ 65 ∧ ∀ u, 2 ≤ u → u < q + 1 → u * u ≤ n → n % u ≠ 0) := by
          obtain ⟨h1, h2, h3⟩ := hq.out
          refine Lib.hid ⟨by omega, ?_, ?_⟩
          · rcases Nat.lt_or_ge q 65 with h | h
            · omega
            · have := Nat.mul_le_mul h h; have := hq1.out; have := HN.out; omega
          · intro u hu1 hu2 hu3
            rcases Nat.lt_or_ge u q with hu | hu
            · exact h3 u hu1 hu hu3
            · obtain rfl : u = q := by omega
              intro h0
              apply hc2
              rw [← HZ.out, ← Int.natCast_emod, h0]; rfl
        go_wp2
        go_round
        case rel => exact ⟨q + 1, by go_num, HS⟩
        case measure => have := HS.out.2.1; have := HM.out; simp [intOf]; omega
    · have hbt : b = true := by
        refine HB.out.2 ?_
        rintro ⟨u, hu1, hu2, hu3⟩
        obtain ⟨h1, h2, h3⟩ := hq.out
        rcases Nat.lt_or_ge u q with hu | hu
        · exact h3 u hu1 hu hu2 hu3
        · have := Nat.mul_le_mul hu hu
          rw [← HZ.out, ← Int.natCast_mul] at hc1
          omega
      go_wp2
      go_ret
      exact ⟨by first | rfl | (rw [hbt]; rfl), rfl⟩
end Go.Proofs.YtjbaleadahefoaaDoor
