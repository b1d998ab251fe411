/- Contracts of the specification of bch: degree, power, Weight, remainder, codeword. -/
import Derived.Test.YtnkoenohngkcmaaW4
set_option linter.unusedVariables false
namespace Go.Proofs.Ytnkoenohngkcmaa
open Go.RowKit

theorem deg_half {g d : Nat} (h : Deg g (d + 1)) : Deg (g / 2) d := by
  have h1 := h.1
  have h2 := h.2
  rw [Nat.pow_succ] at h1 h2
  rw [Nat.pow_succ] at h2
  exact ⟨by omega, by rw [Nat.pow_succ]; omega⟩
theorem rDegree_any (g d : Nat) (h : Deg g d) (hd : d ≤ 18) (w : World) : Calls Try.prog 38 #[.int .i64 (g : Int)] w fun e w' => e = .returned (.int .i64 (d : Int)) ∧ w = w' := by
  have HG := Lib.hid h
  have hg19 : g < 524288 := Nat.lt_of_lt_of_le h.2 (Nat.pow_le_pow_right (n := 2) (by omega) (show d + 1 ≤ 19 by omega))
  clear h
  go_enter Try.func38, Try.ntmps38
  go_wp2
  go_loop [0, 3] (fun x y => ∃ p e : Nat, x = .int .i64 (p : Int) ∧ y = .int .i64 (e : Int) ∧ p ≤ g ∧ Hid (e ≤ d ∧ Deg p (d - e))) (fun x _ => (intOf x).toNat)
  case atStart => exact ⟨g, 0, rfl, rfl, by omega, Lib.hid ⟨by omega, HG.out⟩⟩
  case round =>
    obtain ⟨p, e, rfl, rfl, hpg, he⟩ := hrel
    have he1 := he.out.1
    by_cases h1 : (p : Int) ≤ 1
    · have hR : Hid (e = d) := by
        obtain ⟨_, h2, h3⟩ := he.out
        refine Lib.hid ?_
        rcases Nat.eq_or_lt_of_le he1 with h4 | h4
        · exact h4
        · have : 2 ≤ 2 ^ (d - e) := pow2_le _ (by omega)
          omega
      go_wp2
      go_ret
      exact ⟨retI (by rw [hR.out]), rfl⟩
    · have hR : Hid (e + 1 ≤ d ∧ Deg (p / 2) (d - (e + 1))) := by
        refine Lib.hid ?_
        have h2 := he.out.2
        rcases Nat.eq_or_lt_of_le he1 with h4 | h4
        · subst h4
          have := h2.2
          simp at this
          omega
        · exact ⟨h4, deg_half (by rwa [show d - (e + 1) + 1 = d - e by omega])⟩
      go_wp2
      go_round
      case rel => exact ⟨p / 2, e + 1, by go_num, by go_num, by omega, hR⟩
      case measure => simp [intOf]; omega
set_option maxRecDepth 100000 in
theorem rPower_any (n : Nat) (hn : n ≤ 40) (w : World) : Calls Try.prog 32 #[.int .i64 (n : Int)] w fun e w' => e = .returned (.int .i64 ((2 ^ n : Nat) : Int)) ∧ w = w' := by
  have HP := Lib.hid (Nat.pow_le_pow_right (n := 2) (by omega) hn)
  obtain ⟨N, hN⟩ : ∃ N : Nat, 2 ^ n = N := ⟨_, rfl⟩
  rw [hN] at HP ⊢
  have HN := Lib.hid hN
  clear hN
  go_enter Try.func32, Try.ntmps32
  go_wp2
  go_loop [3, 4] (fun x y => ∃ p e : Nat, x = .int .i64 (p : Int) ∧ y = .int .i64 (e : Int) ∧ e ≤ n ∧ p ≤ 1099511627776 ∧ Hid (2 ^ e = p)) (fun _ y => n - (intOf y).toNat)
  case atStart => exact ⟨1, 0, rfl, rfl, by omega, by omega, Lib.hid rfl⟩
  case round =>
    obtain ⟨p, e, rfl, rfl, he, hp, hpe⟩ := hrel
    by_cases h1 : e < n
    · have h2 : Hid (2 ^ (e + 1) = 2 * p ∧ 2 * p ≤ 1099511627776) := by
        have h3 := hpe.out
        have h4 : 2 ^ (e + 1) ≤ 2 ^ 40 := Nat.pow_le_pow_right (by omega) (by omega)
        rw [Nat.pow_succ, h3] at h4
        exact Lib.hid ⟨by rw [Nat.pow_succ, h3]; omega, by omega⟩
      go_wp2
      go_round
      case rel => exact ⟨2 * p, e + 1, by go_num, by go_num, h1, h2.out.2, Lib.hid h2.out.1⟩
      case measure => simp [intOf]; omega
    · obtain rfl : e = n := by omega
      have h3 : Hid (p = N) := Lib.hid (by rw [← hpe.out, HN.out])
      go_wp2
      go_ret
      exact ⟨retI (by rw [h3.out]), rfl⟩
theorem wt_step (n : Nat) (h : n < 2 ^ 63) : wt n = n % 2 + wt (n / 2) := by
  show wtF 64 n = _
  have : wtF 63 (n / 2) = wt (n / 2) := wtF_same 63 _ (by omega) (by omega)
  rw [← this]
  rfl
set_option maxRecDepth 100000 in
theorem rWeight_any (n : Nat) (hn : n < 9223372036854775808) (w : World) : Calls Try.prog 35 #[.int .i64 (n : Int)] w fun e w' => e = .returned (.int .i64 ((wt n : Nat) : Int)) ∧ w = w' := by
  have HW := Lib.hid (wt_le 64 n (by omega) (by omega))
  obtain ⟨T, hT⟩ : ∃ T : Nat, wt n = T := ⟨_, rfl⟩
  rw [hT] at HW ⊢
  have HT := Lib.hid hT
  clear hT
  go_enter Try.func35, Try.ntmps35
  go_wp2
  go_loop [0, 3] (fun x y => ∃ p e : Nat, x = .int .i64 (p : Int) ∧ y = .int .i64 (e : Int) ∧ p ≤ n ∧ e ≤ 64 ∧ Hid (e + wt p = T)) (fun x _ => (intOf x).toNat)
  case atStart => exact ⟨n, 0, rfl, rfl, by omega, by omega, Lib.hid (by rw [HT.out]; omega)⟩
  case round =>
    obtain ⟨p, e, rfl, rfl, hp, he, hpe⟩ := hrel
    by_cases h1 : 0 < p
    · have h2 : Hid (e + p % 2 + wt (p / 2) = T ∧ e + p % 2 ≤ 64) := by
        have h3 := hpe.out
        rw [wt_step p (by omega)] at h3
        have := HW.out
        exact Lib.hid ⟨by omega, by omega⟩
      go_wp2
      go_round
      case rel => exact ⟨p / 2, e + p % 2, by go_num, by go_num, by omega, h2.out.2, Lib.hid h2.out.1⟩
      case measure => simp [intOf]; omega
    · obtain rfl : p = 0 := by omega
      have h3 : Hid (e = T) := Lib.hid (by rw [← hpe.out, wt_zero]; rfl)
      go_wp2
      go_ret
      exact ⟨retI (by rw [h3.out]), rfl⟩

/-- the round at place n of the specification's division -/
theorem rest_round (g d n p : Nat) (h : Deg g d) (hp : p < 2 ^ (n + 1 + d)) :
    (p / 2 ^ (n + d) % 2 = 0 ∧ red g d (n + 1) p = red g d n p ∧ p < 2 ^ (n + d)) ∨ (p / 2 ^ (n + d) % 2 = 1 ∧ red g d (n + 1) p = red g d n (p ^^^ (g * 2 ^ n)) ∧ p ^^^ (g * 2 ^ n) < 2 ^ (n + d)) := by
  rcases red_round g d n p h hp with ⟨h1, h2⟩ | ⟨h1, h2⟩
  · left; rw [h1]; exact ⟨rfl, h2⟩
  · right; rw [h1]; exact ⟨rfl, h2⟩
set_option maxRecDepth 100000 in
theorem remainder_any (p g d : Nat) (h : Deg g d) (hd : d ≤ 18) (hp : p < 2147483648) (w : World) :
    Calls Try.prog 43 #[.int .i64 (p : Int), .int .i64 (g : Int)] w fun e w' => e = .returned (.int .i64 ((red g d (31 - d) p : Nat) : Int)) ∧ w = w' := by
  obtain ⟨R, hR⟩ : ∃ R, red g d (31 - d) p = R := ⟨_, rfl⟩
  have HR := Lib.hid hR
  rw [hR]
  clear hR
  have HP := Lib.hid hp
  have hg19 : g < 524288 := Nat.lt_of_lt_of_le h.2 (Nat.pow_le_pow_right (n := 2) (by omega) (show d + 1 ≤ 19 by omega))
  go_enter Try.func43, Try.ntmps43
  go_wp2_with fail
  refine (rDegree_any g d h hd _).mono ?_
  rintro e w1 ⟨rfl, rfl⟩
  go_wp2_with fail
  go_loop [0, 6] (fun x y => ∃ j r : Nat, j ≤ 31 - d ∧ x = .int .i64 (r : Int) ∧ y = .int .i64 ((j : Int) + (d : Int) - 1) ∧ Hid (red g d j r = R ∧ r < 2 ^ (j + d)) ∧ r < 2147483648) (fun _ y => (intOf y + 1).toNat)
  case atStart => exact ⟨31 - d, p, Nat.le_refl _, rfl, valI (by omega), Lib.hid ⟨HR.out, by rw [show 31 - d + d = 31 by omega]; exact HP.out⟩, HP.out⟩
  case round =>
    obtain ⟨j, r, hj, rfl, rfl, hr, hr31⟩ := hrel
    cases j with
    | zero =>
      have HE : Hid (r = R) := Lib.hid hr.out.1
      have hj0 : ((0 : Nat) : Int) + (d : Int) - 1 = (d : Int) - 1 := by omega
      rw [hj0]
      go_wp2
      go_ret
      exact ⟨retI (by rw [HE.out]), rfl⟩
    | succ j =>
      obtain ⟨i, hi⟩ : ∃ i : Nat, j + d = i := ⟨_, rfl⟩
      have hjk : ((j + 1 : Nat) : Int) + (d : Int) - 1 = (i : Int) := by omega
      rw [hjk]
      have hid : (d : Int) ≤ (i : Int) := by omega
      have hi30 : i ≤ 30 := by omega
      have HRR := rest_round g d j r h hr.out.2
      rw [hi] at HRR
      have HPI := rPower_any i (by omega)
      have HPJ := rPower_any j (by omega)
      have hpi0 : 0 < 2 ^ i := Nat.pow_pos (by omega)
      have hg : g * 2 ^ j < 2 ^ (j + 1 + d) := by
        have := shl_lt g (d + 1) j h.2
        rwa [show d + 1 + j = j + 1 + d by omega] at this
      have hx := i64_xor r (g * 2 ^ j) (j + 1 + d) hr.out.2 hg (by omega)
      have hg31 : g * 2 ^ j < 2147483648 := Nat.lt_of_lt_of_le hg (Nat.pow_le_pow_right (n := 2) (by omega) (show j + 1 + d ≤ 31 by omega))
      have hlt2 : r ^^^ (g * 2 ^ j) < 2 ^ (j + 1 + d) := Nat.xor_lt_two_pow hr.out.2 hg
      have hx31 := Lib.hid (Nat.lt_of_lt_of_le hlt2 (Nat.pow_le_pow_right (n := 2) (by omega) (show j + 1 + d ≤ 31 by omega)))
      have hij : (i : Int) - (d : Int) = (j : Int) := by omega
      have hr2 := hr.out.1
      clear hr hg hlt2
      obtain ⟨PI, hPI⟩ : ∃ PI : Nat, 2 ^ i = PI := ⟨_, rfl⟩
      have HRR2 : (r / PI % 2 = 0 ∧ red g d (j + 1) r = red g d j r ∧ Hid (r < 2 ^ (j + d))) ∨ (r / PI % 2 = 1 ∧ red g d (j + 1) r = red g d j (r ^^^ (g * 2 ^ j)) ∧ Hid (r ^^^ (g * 2 ^ j) < 2 ^ (j + d))) := by
        rw [hPI] at HRR
        rcases HRR with ⟨a, b, c⟩ | ⟨a, b, c⟩
        · exact Or.inl ⟨a, b, Lib.hid (by rw [hi, hPI]; exact c)⟩
        · exact Or.inr ⟨a, b, Lib.hid (by rw [hi, hPI]; exact c)⟩
      rw [hPI] at HPI hpi0
      clear HRR hPI
      go_wp2_with fail
      refine (HPI _).mono ?_
      rintro e w' ⟨rfl, rfl⟩
      have hdv : (r : Int) / (PI : Int) = ((r / PI : Nat) : Int) := (Int.natCast_ediv r PI).symm
      obtain ⟨Q, hQ⟩ : ∃ Q, r / PI = Q := ⟨_, rfl⟩
      rw [hQ] at HRR2 hdv
      have hpi1 : (0 : Int) < (PI : Int) := by omega
      have hpi2 : ¬ (PI : Int) = 0 := by omega
      have hQb : Q < 2147483648 := by rw [← hQ]; exact Nat.lt_of_le_of_lt (Nat.div_le_self _ _) hr31
      clear hQ
      have hj31 : j ≤ 31 - d := by omega
      obtain ⟨PJ, hPJ⟩ : ∃ PJ : Nat, 2 ^ j = PJ := ⟨_, rfl⟩
      rw [hPJ] at HPJ HRR2 hx31 hx hg31
      clear hPJ
      rcases HRR2 with ⟨q1, q2, q3⟩ | ⟨q1, q2, q3⟩
      · have hq1 : (Q : Int) % 2 = 0 := by omega
        rw [hr2] at q2
        have HQ2 := Lib.hid q2
        clear q1 q2 hr2
        go_wp2
        go_round
        case rel => exact ⟨j, r, hj31, rfl, valI (by omega), Lib.hid ⟨HQ2.out.symm, q3.out⟩, hr31⟩
        case measure => simp [intOf]
      · have hq1 : (Q : Int) % 2 = 1 := by omega
        rw [hr2] at q2
        have HQ2 := Lib.hid q2
        clear q1 q2 hr2
        go_wp2_with fail
        refine (HPJ _).mono ?_
        rintro e w' ⟨rfl, rfl⟩
        obtain ⟨GP, hGP⟩ : ∃ GP : Nat, g * PJ = GP := ⟨_, rfl⟩
        have hgp : (g : Int) * (PJ : Int) = (GP : Int) := by rw [← hGP, Int.natCast_mul]
        rw [hGP] at hx hx31 HQ2 q3 hg31
        obtain ⟨X, hX⟩ : ∃ X, r ^^^ GP = X := ⟨_, rfl⟩
        rw [hX] at hx hx31 HQ2 q3
        clear hX hGP
        have hx31b := hx31.out
        go_wp2
        go_round
        case rel => exact ⟨j, X, hj31, rfl, valI (by omega), Lib.hid ⟨HQ2.out.symm, q3.out⟩, hx31b⟩
        case measure => simp [intOf]

theorem red_same {g d k p : Nat} (hd : d ≤ 18) (hk : k ≤ 12) (hp : p < 2 ^ (k + d)) : red g d (31 - d) p = red g d k p := by
  have := red_high g d k (31 - d - k) p hp
  rwa [show k + (31 - d - k) = 31 - d by omega] at this
set_option maxRecDepth 100000 in
theorem rCodeword_any (k g d v : Nat) (h : Deg g d) (hd : d ≤ 18) (hk : k ≤ 12) (hv : v < 2 ^ k) (w : World) :
    Calls Try.prog 33 #[.int .i64 (v : Int), .int .i64 (g : Int)] w fun e w' => e = .returned (.int .i64 ((cw g d k v : Nat) : Int)) ∧ w = w' := by
  have hX := shl_lt v k d hv
  have hX30 := Nat.lt_of_lt_of_le hX (Nat.pow_le_pow_right (n := 2) (by omega) (show k + d ≤ 30 by omega))
  have hc30 := Nat.lt_of_lt_of_le (cw_lt h k v hv) (Nat.pow_le_pow_right (n := 2) (by omega) (show k + d ≤ 30 by omega))
  have HM := remainder_any (v * 2 ^ d) g d h hd (by omega)
  rw [red_same hd hk hX] at HM
  have hcw : cw g d k v = v * 2 ^ d + red g d k (v * 2 ^ d) := rfl
  rw [hcw] at hc30 ⊢
  clear hcw
  have HPD := rPower_any d (by omega)
  obtain ⟨PD, hPD⟩ : ∃ PD : Nat, 2 ^ d = PD := ⟨_, rfl⟩
  rw [hPD] at HM HPD hX30 hc30 ⊢
  obtain ⟨X, hXX⟩ : ∃ X : Nat, v * PD = X := ⟨_, rfl⟩
  have hvp : (v : Int) * (PD : Int) = (X : Int) := by rw [← hXX, Int.natCast_mul]
  rw [hXX] at HM hX30 hc30 ⊢
  clear hXX hPD hX hv
  obtain ⟨R, hR⟩ : ∃ R : Nat, red g d k X = R := ⟨_, rfl⟩
  rw [hR] at HM hc30 ⊢
  clear hR
  go_enter Try.func33, Try.ntmps33
  go_wp2_with fail
  refine (rDegree_any g d h hd _).mono ?_
  rintro e w1 ⟨rfl, rfl⟩
  go_wp2_with fail
  refine (HPD _).mono ?_
  rintro e w1 ⟨rfl, rfl⟩
  go_wp2_with fail
  refine (HM _).mono ?_
  rintro e w1 ⟨rfl, rfl⟩
  go_wp2
  go_ret
  exact ⟨rfl, rfl⟩
end Go.Proofs.Ytnkoenohngkcmaa
