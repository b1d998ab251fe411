/- galois: products of polynomials and of rests: commutative, associative, distributive, without zero divisors. -/
import Derived.Test.YtjbaleadahefoaaDoorPure
set_option linter.unusedVariables false
set_option linter.unusedSectionVars false
namespace Go.Proofs.YtjbaleadahefoaaDoor

theorem xor_zero_eq {a b : Nat} (h : a ^^^ b = 0) : a = b := by
  have h2 : a ^^^ b ^^^ b = b := by rw [h, Nat.zero_xor]
  rwa [Nat.xor_assoc, Nat.xor_self, Nat.xor_zero] at h2
theorem clm_zl (b n : Nat) : clm 0 b n = 0 := by
  induction n with
  | zero => rfl
  | succ n ih => simp only [clm]; rw [ih]; split <;> simp
theorem clm_zr (a n : Nat) : clm a 0 n = 0 := by
  induction n with
  | zero => rfl
  | succ n ih => simp only [clm]; rw [ih]; simp
theorem clm_xl (a a' b n : Nat) : clm (a ^^^ a') b n = clm a b n ^^^ clm a' b n := by
  induction n with
  | zero => simp [clm]
  | succ n ih =>
    simp only [clm]
    rw [ih]
    split
    · rw [shl_xor]; ac_rfl
    · simp
theorem clm_xr (a b b' n : Nat) : clm a (b ^^^ b') n = clm a b n ^^^ clm a b' n := by
  induction n with
  | zero => simp [clm]
  | succ n ih =>
    simp only [clm]
    rw [ih, Nat.testBit_xor]
    cases b.testBit n <;> cases b'.testBit n
    · simp
    · simp [Nat.xor_assoc]
    · simp only [Bool.xor_false, if_true, Nat.xor_zero, Bool.false_eq_true, if_false]; ac_rfl
    · simp only [Bool.xor_self, if_true, Nat.xor_zero, Bool.false_eq_true, if_false]
      rw [show clm a b n ^^^ a <<< n ^^^ (clm a b' n ^^^ a <<< n) = clm a b n ^^^ clm a b' n ^^^ (a <<< n ^^^ a <<< n) by ac_rfl, Nat.xor_self, Nat.xor_zero]
theorem clm_sl (a c k n : Nat) : clm (a <<< k) c n = clm a c n <<< k := by
  induction n with
  | zero => simp [clm]
  | succ n ih =>
    simp only [clm]
    rw [ih, shl_xor]
    split
    · rw [shl_shl, shl_shl, Nat.add_comm]
    · simp
theorem low_succ (x n : Nat) : x % 2 ^ (n + 1) = (x % 2 ^ n) ^^^ (if x.testBit n then 1 <<< n else 0) := by
  apply Nat.eq_of_testBit_eq
  intro i
  rw [Nat.testBit_mod_two_pow, Nat.testBit_xor, Nat.testBit_mod_two_pow]
  have hb : (if x.testBit n then 1 <<< n else 0 : Nat).testBit i = (x.testBit n && decide (n = i)) := by
    split
    · rename_i h; rw [Nat.one_shiftLeft, Nat.testBit_two_pow, h]; simp
    · rename_i h; simp [h]
  rw [hb]
  by_cases h1 : i < n
  · have h2 : i < n + 1 := by omega
    have h3 : ¬ n = i := by omega
    simp [h1, h2, h3]
  · by_cases h2 : n = i
    · subst h2; simp
    · have h3 : ¬ i < n + 1 := by omega
      simp [h1, h2, h3]
theorem clm_1l (b n : Nat) : clm 1 b n = b % 2 ^ n := by
  induction n with
  | zero => simp [clm, Nat.mod_one]
  | succ n ih => rw [low_succ]; simp only [clm]; rw [ih]
theorem clm_comm (a b n : Nat) (ha : a < 2 ^ n) (hb : b < 2 ^ n) : clm a b n = clm b a n := by
  have h : ∀ m, clm (b % 2 ^ m) a n = clm a b m := fun m => by
    induction m with
    | zero => simp [clm, Nat.mod_one, clm_zl]
    | succ m ih =>
      rw [low_succ, clm_xl, ih]
      simp only [clm]
      split
      · rw [clm_sl, clm_1l, Nat.mod_eq_of_lt ha]
      · rw [clm_zl]
  have := h n
  rw [Nat.mod_eq_of_lt hb] at this
  exact this.symm
theorem clm_swap (a b c n m : Nat) : clm (clm a b n) c m = clm (clm a c m) b n := by
  induction n with
  | zero => simp [clm, clm_zl]
  | succ n ih =>
    simp only [clm]
    rw [clm_xl, ih]
    split
    · rw [clm_sl]
    · rw [clm_zl]
theorem clm_lt' (a b n m : Nat) (ha : a < 2 ^ (m + 1)) : clm a b n < 2 ^ (m + n) := by
  induction n with
  | zero => simp only [clm]; exact Nat.pow_pos (by omega)
  | succ n ih =>
    simp only [clm]
    apply Nat.xor_lt_two_pow
    · exact Nat.lt_of_lt_of_le ih (Nat.pow_le_pow_right (by omega) (by omega))
    · split
      · rw [Nat.shiftLeft_eq, show m + (n + 1) = m + 1 + n by omega, Nat.pow_add 2 (m + 1) n]
        exact Nat.mul_lt_mul_of_pos_right ha (Nat.pow_pos (by omega))
      · exact Nat.pow_pos (by omega)
/-- the degree of a product -/
theorem clm_deg {a b d e : Nat} (ha : Deg a d) (hb : Deg b e) : Deg (clm a b (e + 1)) (d + e) := by
  have hlt := clm_lt' a b (e + 1) d ha.2
  refine ⟨?_, by simpa [Nat.add_assoc] using hlt⟩
  apply Nat.ge_two_pow_of_testBit (i := d + e)
  simp only [clm]
  rw [hb.top, Nat.testBit_xor, testBit_high _ (d + e) _ (clm_lt' a b e d ha.2) (Nat.le_refl _)]
  simp only [if_true]
  rw [Nat.testBit_shiftLeft, show d + e - e = d by omega, ha.top]
  simp
theorem Sp.self (p : Nat) : Sp p p := by
  have := Sp.step (t := p) 0 0 Sp.zero
  simpa using this
theorem Sp.clm {p y : Nat} (h : Sp p y) (c n : Nat) : Sp p (Go.Proofs.YtjbaleadahefoaaDoor.clm y c n) := by
  induction n with
  | zero => exact Sp.zero
  | succ n ih =>
    simp only [Go.Proofs.YtjbaleadahefoaaDoor.clm]
    split
    · exact ih.xor (h.shift n)
    · rw [Nat.xor_zero]; exact ih
theorem Sp.clm_of {m b p n y : Nat} (h : Sp p (Go.Proofs.YtjbaleadahefoaaDoor.clm m b n)) (hy : Sp m y) : Sp p (Go.Proofs.YtjbaleadahefoaaDoor.clm y b n) := by
  induction hy with
  | zero => rw [clm_zl]; exact Sp.zero
  | step x j _ ih => rw [clm_xl, clm_sl]; exact ih.xor (h.shift j)
theorem sp_of_rm {p x : Nat} (h : rm x p = 0) : Sp p x := sp_of_red _ _ _ _ h
theorem rm_of_sp {p d x : Nat} (h : Deg p d) (hx : Sp p x) (hl : x < 2 ^ (32 + d)) : rm x p = 0 := by
  unfold rm
  rw [deg_unique h]
  exact hx.red_at h hl
/-- multiples are products -/
theorem Sp.prod {m x : Nat} (h : Sp m x) : ∃ q k, ∀ n, k ≤ n → x = Go.Proofs.YtjbaleadahefoaaDoor.clm m q n := by
  induction h with
  | zero => exact ⟨0, 0, fun n _ => (clm_zr m n).symm⟩
  | step x j _ ih =>
    obtain ⟨q, k, h⟩ := ih
    have hs : ∀ n, j + 1 ≤ n → Go.Proofs.YtjbaleadahefoaaDoor.clm m (1 <<< j) n = m <<< j := fun n hn => by
      have h0 : ∀ i, i ≤ j → Go.Proofs.YtjbaleadahefoaaDoor.clm m (1 <<< j) i = 0 := fun i hi => by
        induction i with
        | zero => rfl
        | succ i ih =>
          simp only [Go.Proofs.YtjbaleadahefoaaDoor.clm]
          rw [ih (by omega), Nat.one_shiftLeft, Nat.testBit_two_pow]
          have : ¬ j = i := by omega
          simp [this]
      obtain ⟨u, rfl⟩ : ∃ u, n = j + 1 + u := ⟨n - (j + 1), by omega⟩
      rw [clm_high m (1 <<< j) (j + 1) u (by rw [Nat.one_shiftLeft]; exact Nat.pow_lt_pow_right (by omega) (by omega))]
      simp only [Go.Proofs.YtjbaleadahefoaaDoor.clm]
      rw [h0 j (Nat.le_refl _), Nat.one_shiftLeft, Nat.testBit_two_pow]
      simp
    refine ⟨q ^^^ 1 <<< j, max k (j + 1), fun n hn => ?_⟩
    rw [clm_xr, ← h n (by omega), hs n (by omega)]

/-- products of rests -/
def tB (p a b : Nat) : Nat := rm (clm a b 12) p
section
variable {p d : Nat} (h : Deg p d) (hd : d ≤ 12)
include h hd
theorem lt4096 {a : Nat} (ha : a < 2 ^ d) : a < 2 ^ 12 := Nat.lt_of_lt_of_le ha (Nat.pow_le_pow_right (by omega) hd)
theorem clm_d (a : Nat) {c : Nat} (hc : c < 2 ^ d) : clm a c 12 = clm a c d := by
  obtain ⟨m, hm⟩ : ∃ m, 12 = d + m := ⟨12 - d, by omega⟩
  rw [hm, clm_high a c d m hc]
theorem clm_2d {a b : Nat} (ha : a < 2 ^ d) (hb : b < 2 ^ d) : clm a b 12 < 2 ^ (d + d) := by
  rw [clm_d h hd a hb]; exact clm_lt a b d d ha
theorem lt_32 {x : Nat} (hx : x < 2 ^ (d + d)) : x < 2 ^ 32 := Nat.lt_of_lt_of_le hx (Nat.pow_le_pow_right (by omega) (by omega))
theorem tB_lt {a b : Nat} (ha : a < 2 ^ d) (hb : b < 2 ^ d) : tB p a b < 2 ^ d := rm_lt h _ (lt_32 h hd (clm_2d h hd ha hb))
theorem tB_comm {a b : Nat} (ha : a < 2 ^ d) (hb : b < 2 ^ d) : tB p a b = tB p b a := by
  unfold tB; rw [clm_comm a b 12 (lt4096 h hd ha) (lt4096 h hd hb)]
theorem rm_clm {x c : Nat} (hx : x < 2 ^ (d + d)) (hc : c < 2 ^ d) : rm (clm (rm x p) c 12) p = rm (clm x c 12) p := by
  have hr := rm_lt h x (lt_32 h hd hx)
  have hr2 : rm x p < 2 ^ (d + d) := Nat.lt_of_lt_of_le hr (Nat.pow_le_pow_right (by omega) (by omega))
  have h1 : rm (x ^^^ rm x p) p = 0 := by
    rw [rm_xor, rm_small h hr (lt_32 h hd hr2), Nat.xor_self]
  have h2 := (sp_of_rm h1).clm c 12
  have h3 : clm (x ^^^ rm x p) c 12 < 2 ^ (32 + d) := by
    rw [clm_d h hd _ hc]
    exact Nat.lt_of_lt_of_le (clm_lt _ c d (d + d) (Nat.xor_lt_two_pow hx hr2)) (Nat.pow_le_pow_right (by omega) (by omega))
  have h4 := rm_of_sp h h2 h3
  rw [clm_xl, rm_xor] at h4
  exact (xor_zero_eq h4).symm
theorem tB_assoc {a b c : Nat} (ha : a < 2 ^ d) (hb : b < 2 ^ d) (hc : c < 2 ^ d) : tB p (tB p a b) c = tB p a (tB p b c) := by
  rw [tB_comm h hd ha (tB_lt h hd hb hc)]
  show rm (clm (rm (clm a b 12) p) c 12) p = rm (clm (rm (clm b c 12) p) a 12) p
  rw [rm_clm h hd (clm_2d h hd ha hb) hc, rm_clm h hd (clm_2d h hd hb hc) ha, clm_swap b c a, clm_comm a b 12 (lt4096 h hd ha) (lt4096 h hd hb)]
theorem tB_xor (a b c : Nat) : tB p a (b ^^^ c) = tB p a b ^^^ tB p a c := by
  unfold tB; rw [clm_xr, rm_xor]
theorem tB_zero (a : Nat) : tB p a 0 = 0 := by
  unfold tB; rw [clm_zr]
  have := rm_xor 0 0 p
  simpa using this
theorem tB_one {a : Nat} (ha : a < 2 ^ d) : tB p a 1 = a := by
  have h1 : 1 < 2 ^ d ∨ d = 0 := by
    rcases Nat.eq_zero_or_pos d with h0 | h0
    · exact Or.inr h0
    · exact Or.inl (by have := Nat.pow_le_pow_right (n := 2) (by omega) h0; omega)
  have hc : tB p a 1 = rm (clm 1 a 12) p := by
    unfold tB; rw [clm_comm a 1 12 (lt4096 h hd ha) (by omega)]
  rw [hc, clm_1l, Nat.mod_eq_of_lt (lt4096 h hd ha)]
  exact rm_small h ha (Nat.lt_of_lt_of_le (lt4096 h hd ha) (Nat.pow_le_pow_right (by omega) (by omega)))
/-- there are no zero divisors -/
theorem tB_nz (hH : ¬ HasD p d) {a b : Nat} (ha : a < 2 ^ d) (hb : b < 2 ^ d) (ha0 : a ≠ 0) (hb0 : b ≠ 0) : tB p a b ≠ 0 := by
  intro hz
  have hex : ∃ m, 0 < m ∧ m < 2 ^ d ∧ Sp p (clm m b 12) := ⟨a, by omega, ha, sp_of_rm hz⟩
  obtain ⟨m, ⟨hm0, hmd, hmS⟩, hmin⟩ : ∃ m, (0 < m ∧ m < 2 ^ d ∧ Sp p (clm m b 12)) ∧ ∀ k, k < m → ¬ (0 < k ∧ k < 2 ^ d ∧ Sp p (clm k b 12)) := by
    obtain ⟨m, hm⟩ := hex
    induction m using Nat.strongRecOn with
    | ind m ih =>
      by_cases hk : ∃ k, k < m ∧ (0 < k ∧ k < 2 ^ d ∧ Sp p (clm k b 12))
      · obtain ⟨k, hk, hk'⟩ := hk
        exact ih k hk hk'
      · exact ⟨m, hm, fun k h1 h2 => hk ⟨k, h1, h2⟩⟩
  have hm := deg_log m hm0
  have hp32 : p < 2 ^ 32 := Nat.lt_of_lt_of_le h.2 (Nat.pow_le_pow_right (by omega) (by omega))
  have hr := rm_lt hm p hp32
  have hrm : rm p m < m := Nat.lt_of_lt_of_le hr hm.1
  have hr32 : rm p m < 2 ^ 32 := by have := lt4096 h hd hmd; omega
  have hy : rm (p ^^^ rm p m) m = 0 := by rw [rm_xor, rm_small hm hr hr32, Nat.xor_self]
  have hrS : Sp p (clm (rm p m) b 12) := by
    have h1 := (Sp.self p).clm b 12
    have h2 := Sp.clm_of hmS (sp_of_rm hy)
    have h3 := h1.xor h2
    rwa [clm_xl, ← Nat.xor_assoc, Nat.xor_self, Nat.zero_xor] at h3
  have hr0 : rm p m = 0 := by
    rcases Nat.eq_zero_or_pos (rm p m) with h0 | h0
    · exact h0
    · exact absurd ⟨h0, by omega, hrS⟩ (hmin _ hrm)
  have hm2 : 2 ≤ m := by
    rcases Nat.lt_or_ge m 2 with h1 | h1
    · obtain rfl : m = 1 := by omega
      rw [clm_1l, Nat.mod_eq_of_lt (lt4096 h hd hb)] at hmS
      have := rm_of_sp h hmS (Nat.lt_of_lt_of_le hb (Nat.pow_le_pow_right (by omega) (by omega)))
      rw [rm_small h hb (Nat.lt_of_lt_of_le (lt4096 h hd hb) (Nat.pow_le_pow_right (by omega) (by omega)))] at this
      exact absurd this hb0
    · exact h1
  have hld : Nat.log2 m < d := by
    rcases Nat.lt_or_ge (Nat.log2 m) d with h1 | h1
    · exact h1
    · have := Nat.pow_le_pow_right (n := 2) (by omega) h1
      have := hm.1
      omega
  by_cases h2 : 2 * Nat.log2 m ≤ d
  · exact hH ⟨m, hm2, h2, hr0⟩
  · obtain ⟨q, k, hq⟩ := (sp_of_rm hr0).prod
    have hp0 : 0 < p := Nat.lt_of_lt_of_le (Nat.pow_pos (by omega)) h.1
    have hq0 : 0 < q := by
      rcases Nat.eq_zero_or_pos q with h0 | h0
      · have := hq k (Nat.le_refl _)
        rw [h0, clm_zr] at this
        omega
      · exact h0
    have hqd := deg_log q hq0
    have hpq : p = clm m q (Nat.log2 q + 1) := by
      rw [hq (k + (Nat.log2 q + 1)) (by omega), Nat.add_comm k, clm_high m q _ k hqd.2]
    have hdd : Nat.log2 m + Nat.log2 q = d := by
      have h1 := clm_deg hm hqd
      rw [← hpq] at h1
      rw [← deg_unique h1, deg_unique h]
    have hq2 : 2 ≤ q := by
      rcases Nat.lt_or_ge q 2 with h1 | h1
      · obtain rfl : q = 1 := by omega
        have : Nat.log2 1 = 0 := by decide
        omega
      · exact h1
    have hL : ∀ x, 0 < x → Nat.log2 x < d → x < 2 ^ (d + 1) := fun x hx hl =>
      Nat.lt_of_lt_of_le (deg_log x hx).2 (Nat.pow_le_pow_right (by omega) (by omega))
    have hqm : p = clm q m (k + (d + 1)) := by
      have hlm : 1 ≤ Nat.log2 m := by omega
      rw [hq (k + (d + 1)) (by omega)]
      exact clm_comm m q _ (Nat.lt_of_lt_of_le (hL m hm0 hld) (Nat.pow_le_pow_right (by omega) (by omega))) (Nat.lt_of_lt_of_le (hL q hq0 (by omega)) (Nat.pow_le_pow_right (by omega) (by omega)))
    have hS : Sp q p := by rw [hqm]; exact (Sp.self q).clm m _
    exact hH ⟨q, hq2, by omega, rm_of_sp hqd hS (Nat.lt_of_lt_of_le hp32 (Nat.pow_le_pow_right (by omega) (by omega)))⟩
end
/-- numbers modulo a prime have no zero divisors -/
theorem tP_nz {N a b : Nat} (hN : 2 ≤ N) (hF : ¬ HasF N) (ha : a < N) (hb : b < N) (ha0 : a ≠ 0) (hb0 : b ≠ 0) : a * b % N ≠ 0 := by
  intro hz
  have hd : N ∣ a * b := Nat.dvd_of_mod_eq_zero hz
  have hg : Nat.gcd N a = 1 := by
    rcases Nat.lt_or_ge (Nat.gcd N a) 2 with h1 | h1
    · have : 0 < Nat.gcd N a := Nat.gcd_pos_of_pos_left _ (by omega)
      omega
    · exfalso
      obtain ⟨e, he⟩ := Nat.gcd_dvd_left N a
      have hga : Nat.gcd N a ≤ a := Nat.le_of_dvd (by omega) (Nat.gcd_dvd_right N a)
      generalize Nat.gcd N a = g at *
      have he2 : 2 ≤ e := by
        rcases Nat.lt_or_ge e 2 with h2 | h2
        · have h3 : e = 0 ∨ e = 1 := by omega
          rcases h3 with rfl | rfl <;> omega
        · exact h2
      rcases Nat.lt_or_ge g e with h3 | h3
      · exact hF ⟨g, h1, by rw [he]; exact Nat.mul_le_mul_left g (by omega), by rw [he]; exact Nat.mul_mod_right g e⟩
      · exact hF ⟨e, he2, by rw [he]; exact Nat.mul_le_mul_right e h3, by rw [he]; exact Nat.mul_mod_left g e⟩
  have hc : Nat.Coprime N a := hg
  have := hc.dvd_of_dvd_mul_left hd
  have := Nat.le_of_dvd (by omega) this
  omega
end Go.Proofs.YtjbaleadahefoaaDoor
