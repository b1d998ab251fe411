/- The plain mathematics of polynomials over GF(2) as numbers: remainders, divisors; small primes. -/
namespace Go.Proofs.YtjbaleadahefoaaDoor

/-- the steps at places n - 1, .., 0 of the division of p by g, whose degree is d -/
def red (g d : Nat) : Nat → Nat → Nat
  | 0, p => p
  | n + 1, p => red g d n (if p.testBit (n + d) then p ^^^ (g <<< n) else p)
theorem xor_swap (a b c : Nat) : a ^^^ b ^^^ c = a ^^^ c ^^^ b := by rw [Nat.xor_assoc, Nat.xor_comm b c, ← Nat.xor_assoc]
theorem red_xor (g d n p q : Nat) : red g d n (p ^^^ q) = red g d n p ^^^ red g d n q := by
  induction n generalizing p q with
  | zero => rfl
  | succ n ih =>
    simp only [red]
    rw [← ih]
    congr 1
    rw [Nat.testBit_xor]
    cases p.testBit (n + d) <;> cases q.testBit (n + d) <;> simp
    · rw [Nat.xor_assoc]
    · rw [xor_swap]
    · generalize g <<< n = t
      rw [Nat.xor_assoc, ← Nat.xor_assoc t, Nat.xor_comm t q, Nat.xor_assoc q, Nat.xor_self, Nat.xor_zero]
theorem red_zero (g d n : Nat) : red g d n 0 = 0 := by
  induction n with
  | zero => rfl
  | succ n ih => simp [red, ih]
/-- d is the degree of g -/
def Deg (g d : Nat) : Prop := 2 ^ d ≤ g ∧ g < 2 ^ (d + 1)
theorem lt_of_bits (x n : Nat) (h : ∀ i, n ≤ i → x.testBit i = false) : x < 2 ^ n := by
  apply Nat.lt_pow_two_of_testBit
  exact h
theorem testBit_high (x n i : Nat) (h : x < 2 ^ n) (hi : n ≤ i) : x.testBit i = false :=
  Nat.testBit_lt_two_pow (Nat.lt_of_lt_of_le h (Nat.pow_le_pow_right (by omega) hi))
theorem Deg.top {g d : Nat} (h : Deg g d) : g.testBit d = true := by
  have h1 := h.1
  have h2 := h.2
  rw [Nat.testBit_eq_decide_div_mod_eq]
  have : g / 2 ^ d = 1 := by
    rw [Nat.pow_succ] at h2
    have hp : 0 < 2 ^ d := Nat.pow_pos (by omega)
    exact Nat.div_eq_of_lt_le (by omega) (by omega)
  rw [this]; rfl
theorem step_lt {g d : Nat} (h : Deg g d) (n p : Nat) (hp : p < 2 ^ (n + 1 + d)) : (if p.testBit (n + d) then p ^^^ (g <<< n) else p) < 2 ^ (n + d) := by
  apply lt_of_bits
  intro i hi
  split
  · rename_i ht
    rw [Nat.testBit_xor, Nat.testBit_shiftLeft]
    rcases Nat.lt_or_ge (n + d) i with h1 | h1
    · rw [testBit_high p _ i hp (by omega), testBit_high g (d + 1) (i - n) h.2 (by omega)]; simp
    · obtain rfl : i = n + d := by omega
      rw [ht, show n + d - n = d by omega, h.top]; simp
  · rename_i ht
    rcases Nat.lt_or_ge (n + d) i with h1 | h1
    · exact testBit_high p _ i hp (by omega)
    · obtain rfl : i = n + d := by omega
      simpa using ht
theorem red_lt {g d : Nat} (h : Deg g d) (n p : Nat) (hp : p < 2 ^ (n + d)) : red g d n p < 2 ^ d := by
  induction n generalizing p with
  | zero => simpa [red] using hp
  | succ n ih => exact ih _ (step_lt h n p hp)
theorem red_high (g d n m p : Nat) (hp : p < 2 ^ (n + d)) : red g d (n + m) p = red g d n p := by
  induction m with
  | zero => rfl
  | succ m ih =>
    rw [← Nat.add_assoc]
    simp only [red]
    rw [testBit_high p _ (n + m + d) hp (by omega)]
    simpa using ih
/-- at a place whose upper bits are clear, the test for a rest is the bit there -/
theorem shift_test (p n : Nat) (hp : p < 2 ^ (n + 1)) : p / 2 ^ n = if p.testBit n then 1 else 0 := by
  have hq : p / 2 ^ n < 2 := by
    rw [Nat.div_lt_iff_lt_mul (Nat.pow_pos (by omega)), Nat.mul_comm]
    rw [Nat.pow_succ] at hp; exact hp
  rw [Nat.testBit_eq_decide_div_mod_eq]
  generalize p / 2 ^ n = q at *
  rcases (show q = 0 ∨ q = 1 by omega) with h | h <;> rw [h] <;> rfl


theorem shl_xor (a b k : Nat) : (a ^^^ b) <<< k = a <<< k ^^^ b <<< k := Nat.shiftLeft_xor_distrib
theorem shl_shl (a j k : Nat) : (a <<< j) <<< k = a <<< (j + k) := (Nat.shiftLeft_add a j k).symm
/-- a shifted divisor leaves no rest -/
theorem red_shift {g d : Nat} (h : Deg g d) (n s : Nat) (hs : s < n) : red g d n (g <<< s) = 0 := by
  induction n with
  | zero => omega
  | succ n ih =>
    simp only [red]
    rcases Nat.lt_or_ge s n with h1 | h1
    · have : (g <<< s).testBit (n + d) = false := by
        rw [Nat.testBit_shiftLeft, testBit_high g (d + 1) (n + d - s) h.2 (by omega)]; simp
      rw [this]
      exact ih h1
    · obtain rfl : s = n := by omega
      have : (g <<< s).testBit (s + d) = true := by
        rw [Nat.testBit_shiftLeft, show s + d - s = d by omega, h.top]; simp
      rw [this]
      simp only [if_true, Nat.xor_self]
      exact red_zero g d s
/-- sums of shifted t -/
inductive Sp (t : Nat) : Nat → Prop
  | zero : Sp t 0
  | step (x j : Nat) : Sp t x → Sp t (x ^^^ (t <<< j))
theorem sp_of_red (g d n x : Nat) (h : red g d n x = 0) : Sp g x := by
  induction n generalizing x with
  | zero =>
    obtain rfl : x = 0 := h
    exact Sp.zero
  | succ n ih =>
    simp only [red] at h
    split at h
    · have := Sp.step _ n (ih _ h)
      rwa [Nat.xor_assoc, Nat.xor_self, Nat.xor_zero] at this
    · exact ih _ h
theorem Sp.xor {t x y : Nat} (hx : Sp t x) (hy : Sp t y) : Sp t (x ^^^ y) := by
  induction hy with
  | zero => rwa [Nat.xor_zero]
  | step y j _ ih => rw [← Nat.xor_assoc]; exact Sp.step _ j ih
theorem Sp.shift {t x : Nat} (hx : Sp t x) (k : Nat) : Sp t (x <<< k) := by
  induction hx with
  | zero => rw [Nat.zero_shiftLeft]; exact Sp.zero
  | step x j _ ih => rw [shl_xor, shl_shl]; exact Sp.step _ _ ih
theorem Sp.trans {t q p : Nat} (h : Sp t q) (hp : Sp q p) : Sp t p := by
  induction hp with
  | zero => exact Sp.zero
  | step x j _ ih => exact ih.xor (h.shift j)
theorem Sp.red {t d x : Nat} (h : Deg t d) (hx : Sp t x) : ∃ N, ∀ M, N ≤ M → Go.Proofs.YtjbaleadahefoaaDoor.red t d M x = 0 := by
  induction hx with
  | zero => exact ⟨0, fun M _ => red_zero t d M⟩
  | step x j _ ih =>
    obtain ⟨N, hN⟩ := ih
    refine ⟨max N (j + 1), fun M hM => ?_⟩
    rw [red_xor, hN M (by omega), red_shift h M j (by omega)]; rfl
theorem Sp.red_at {t d x n : Nat} (h : Deg t d) (hx : Sp t x) (hl : x < 2 ^ (n + d)) : Go.Proofs.YtjbaleadahefoaaDoor.red t d n x = 0 := by
  obtain ⟨N, hN⟩ := hx.red h
  have h1 := hN (n + N) (by omega)
  rwa [red_high t d n N x hl] at h1
/-- the rest of p by g (p has at most 32 bits) -/
def rm (p g : Nat) : Nat := red g (Nat.log2 g) 32 p
theorem deg_log (g : Nat) (h : 0 < g) : Deg g (Nat.log2 g) := ⟨Nat.log2_self_le (by omega), Nat.lt_log2_self⟩
theorem deg_unique {g d : Nat} (h : Deg g d) : Nat.log2 g = d := by
  have h1 := deg_log g (Nat.lt_of_lt_of_le (Nat.pow_pos (by omega)) h.1)
  rcases Nat.lt_trichotomy (Nat.log2 g) d with h2 | h2 | h2
  · have := Nat.pow_le_pow_right (n := 2) (by omega) (show Nat.log2 g + 1 ≤ d by omega)
    have := h1.2; have := h.1; omega
  · exact h2
  · have := Nat.pow_le_pow_right (n := 2) (by omega) (show d + 1 ≤ Nat.log2 g by omega)
    have := h1.1; have := h.2; omega
theorem pow32 (d p : Nat) (hp : p < 2 ^ 32) : p < 2 ^ (32 + d) := Nat.lt_of_lt_of_le hp (Nat.pow_le_pow_right (by omega) (by omega))
theorem rm_red {g d n p : Nat} (h : Deg g d) (hn : p < 2 ^ (n + d)) (hp : p < 2 ^ 32) : red g d n p = rm p g := by
  unfold rm
  rw [deg_unique h]
  rcases Nat.le_total n 32 with h1 | h1
  · have := red_high g d n (32 - n) p hn
    rw [show n + (32 - n) = 32 by omega] at this
    exact this.symm
  · have := red_high g d 32 (n - 32) p (pow32 d p hp)
    rwa [show 32 + (n - 32) = n by omega] at this
theorem rm_lt {g d : Nat} (h : Deg g d) (p : Nat) (hp : p < 2 ^ 32) : rm p g < 2 ^ d := by
  unfold rm; rw [deg_unique h]; exact red_lt h 32 p (pow32 d p hp)
theorem rm_small {g d p : Nat} (h : Deg g d) (hp : p < 2 ^ d) (h32 : p < 2 ^ 32) : rm p g = p := by
  rw [← rm_red (n := 0) h (by simpa using hp) h32]; rfl
theorem rm_xor (p q g : Nat) : rm (p ^^^ q) g = rm p g ^^^ rm q g := red_xor _ _ _ _ _
theorem rm_step {g d : Nat} (h : Deg g d) (p s : Nat) (hs : s < 32) : rm (p ^^^ (g <<< s)) g = rm p g := by
  rw [rm_xor]
  unfold rm
  rw [deg_unique h, red_shift h 32 s hs, Nat.xor_zero]
/-- division is transitive -/
theorem rm_trans {p q t : Nat} (ht : 0 < t) (hp : p < 2 ^ 32) (h1 : rm p q = 0) (h2 : rm q t = 0) : rm p t = 0 := by
  have s1 := sp_of_red _ _ _ _ h1
  have s2 := sp_of_red _ _ _ _ h2
  exact Sp.red_at (deg_log t ht) (s2.trans s1) (pow32 _ p hp)

/-- the irreducible polynomials of degrees up to 6 -/
def smallIrr : List Nat := [2, 3, 7, 11, 13, 19, 25, 31, 37, 41, 47, 55, 59, 61, 67, 73, 87, 91, 97, 103, 109, 115, 117]
/-- the primes up to 61 -/
def smallPri : List Nat := [2, 3, 5, 7, 11, 13, 17, 19, 23, 29, 31, 37, 41, 43, 47, 53, 59, 61]
theorem irr_table : ∀ q : Fin 128, 2 ≤ q.val → (smallIrr.any fun t => decide (Nat.log2 t ≤ Nat.log2 q.val) && (rm q.val t == 0)) = true := by decide +kernel
theorem pri_table : ∀ q : Fin 65, 2 ≤ q.val → (smallPri.any fun t => decide (t ≤ q.val) && (q.val % t == 0)) = true := by decide +kernel
theorem irr_two : ∀ t ∈ smallIrr, 2 ≤ t ∧ t < 128 := by decide
theorem pri_two : ∀ t ∈ smallPri, 2 ≤ t ∧ t < 64 := by decide
/-- a proper divisor of p, whose degree is D, of at most half its degree -/
def HasD (p D : Nat) : Prop := ∃ q, 2 ≤ q ∧ 2 * Nat.log2 q ≤ D ∧ rm p q = 0
theorem hasD_table {p D : Nat} (hD : D ≤ 12) (hp : p < 2 ^ 32) : HasD p D ↔ ∃ t ∈ smallIrr, 2 * Nat.log2 t ≤ D ∧ rm p t = 0 := by
  constructor
  · rintro ⟨q, h2, hq, hr⟩
    have h6 : Nat.log2 q ≤ 6 := by omega
    have hlt : q < 128 := by
      have := (deg_log q (by omega)).2
      have := Nat.pow_le_pow_right (n := 2) (by omega) (show Nat.log2 q + 1 ≤ 7 by omega)
      omega
    have h := irr_table ⟨q, hlt⟩ h2
    simp only [List.any_eq_true, Bool.and_eq_true, decide_eq_true_eq, beq_iff_eq] at h
    obtain ⟨t, ht, hl, h0⟩ := h
    have ht2 := irr_two t ht
    exact ⟨t, ht, by omega, rm_trans (by omega) hp hr h0⟩
  · rintro ⟨t, ht, h1, h2⟩
    exact ⟨t, (irr_two t ht).1, h1, h2⟩
/-- a proper divisor of n up to its root -/
def HasF (n : Nat) : Prop := ∃ q, 2 ≤ q ∧ q * q ≤ n ∧ n % q = 0
theorem hasF_table {n : Nat} (hn : n ≤ 4096) : HasF n ↔ ∃ t ∈ smallPri, t * t ≤ n ∧ n % t = 0 := by
  constructor
  · rintro ⟨q, h2, hq, hr⟩
    have hlt : q < 65 := by
      rcases Nat.lt_or_ge q 65 with h | h
      · exact h
      · have := Nat.mul_le_mul h h; omega
    have h := pri_table ⟨q, hlt⟩ h2
    simp only [List.any_eq_true, Bool.and_eq_true, decide_eq_true_eq, beq_iff_eq] at h
    obtain ⟨t, ht, hl, h0⟩ := h
    refine ⟨t, ht, Nat.le_trans (Nat.mul_le_mul hl hl) hq, ?_⟩
    exact Nat.mod_eq_zero_of_dvd (Nat.dvd_trans (Nat.dvd_of_mod_eq_zero h0) (Nat.dvd_of_mod_eq_zero hr))
  · rintro ⟨t, ht, h1, h2⟩
    exact ⟨t, (pri_two t ht).1, h1, h2⟩

/-- the product of polynomials: the places k < n of b -/
def clm (a b : Nat) : Nat → Nat
  | 0 => 0
  | n + 1 => clm a b n ^^^ (if b.testBit n then a <<< n else 0)
theorem clm_lt (a b n m : Nat) (ha : a < 2 ^ m) : clm a b n < 2 ^ (m + n) := by
  induction n with
  | zero => simp only [clm]; exact Nat.pow_pos (by omega)
  | succ n ih =>
    simp only [clm]
    apply Nat.xor_lt_two_pow
    · exact Nat.lt_of_lt_of_le ih (Nat.pow_le_pow_right (by omega) (by omega))
    · split
      · rw [Nat.shiftLeft_eq, show m + (n + 1) = m + n + 1 by omega]
        have : a * 2 ^ n < 2 ^ m * 2 ^ n := Nat.mul_lt_mul_of_pos_right ha (Nat.pow_pos (by omega))
        rw [← Nat.pow_add] at this
        exact Nat.lt_of_lt_of_le this (Nat.pow_le_pow_right (by omega) (by omega))
      · exact Nat.pow_pos (by omega)
theorem clm_high (a b n m : Nat) (hb : b < 2 ^ n) : clm a b (n + m) = clm a b n := by
  induction m with
  | zero => rfl
  | succ m ih =>
    rw [← Nat.add_assoc]
    simp only [clm]
    rw [testBit_high b n (n + m) hb (by omega)]
    simpa using ih
end Go.Proofs.YtjbaleadahefoaaDoor
