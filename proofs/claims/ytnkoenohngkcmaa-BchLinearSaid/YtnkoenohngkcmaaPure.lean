/- The plain mathematics of the short cyclic codes: remainders, codewords, weights. -/
namespace Go.Proofs.Ytnkoenohngkcmaa

/-- the number of ones among the f low bits -/
def wtF : Nat → Nat → Nat
  | 0, _ => 0
  | f + 1, n => n % 2 + wtF f (n / 2)
/-- the number of ones -/
def wt (n : Nat) : Nat := wtF 64 n
theorem wtF_zero (f : Nat) : wtF f 0 = 0 := by
  induction f with
  | zero => rfl
  | succ f ih => simp [wtF, ih]
theorem wtF_le (f n : Nat) : wtF f n ≤ f := by
  induction f generalizing n with
  | zero => simp [wtF]
  | succ f ih => have := ih (n / 2); simp only [wtF]; omega
theorem wtF_more (f g n : Nat) (h : n < 2 ^ f) : wtF (f + g) n = wtF f n := by
  induction f generalizing n with
  | zero =>
    obtain rfl : n = 0 := by simpa using h
    rw [wtF_zero, wtF_zero]
  | succ f ih =>
    rw [show f + 1 + g = (f + g) + 1 by omega]
    simp only [wtF]
    rw [ih (n / 2) (by rw [Nat.pow_succ] at h; omega)]
theorem wtF_same (f n : Nat) (h : n < 2 ^ f) (hf : f ≤ 64) : wtF f n = wt n := by
  have := wtF_more f (64 - f) n h
  rw [show f + (64 - f) = 64 by omega] at this
  exact this.symm
theorem wt_le (f n : Nat) (h : n < 2 ^ f) (hf : f ≤ 64) : wt n ≤ f := by
  rw [← wtF_same f n h hf]; exact wtF_le f n
theorem wt_zero : wt 0 = 0 := wtF_zero 64
theorem wtF_pos (f n : Nat) (h : n < 2 ^ f) (h0 : 0 < n) : 0 < wtF f n := by
  induction f generalizing n with
  | zero => simp at h; omega
  | succ f ih =>
    simp only [wtF]
    by_cases h1 : n % 2 = 1
    · omega
    · have := ih (n / 2) (by rw [Nat.pow_succ] at h; omega) (by omega)
      omega
theorem wt_pos (n : Nat) (h : n < 2 ^ 64) (h0 : 0 < n) : 0 < wt n := wtF_pos 64 n h h0
theorem xor_mod2 (a b : Nat) : (a ^^^ b) % 2 = (a % 2 + b % 2) % 2 := by
  have h := Nat.testBit_xor a b 0
  simp only [Nat.testBit_zero] at h
  rcases Nat.mod_two_eq_zero_or_one a with ha | ha <;> rcases Nat.mod_two_eq_zero_or_one b with hb | hb <;> rcases Nat.mod_two_eq_zero_or_one (a ^^^ b) with hc | hc <;> simp_all
theorem xor_div2 (a b : Nat) : (a ^^^ b) / 2 = a / 2 ^^^ b / 2 := Nat.xor_div_two
theorem wtF_xor (f a b : Nat) : wtF f (a ^^^ b) ≤ wtF f a + wtF f b := by
  induction f generalizing a b with
  | zero => simp [wtF]
  | succ f ih =>
    simp only [wtF]
    have h1 := ih (a / 2) (b / 2)
    rw [← xor_div2] at h1
    have h2 := xor_mod2 a b
    omega
theorem wt_xor (a b : Nat) : wt (a ^^^ b) ≤ wt a + wt b := wtF_xor 64 a b
/-- clearing the lowest one -/
theorem and_pred_odd (m : Nat) : (2 * m + 1) &&& (2 * m + 1 - 1) = 2 * m := by
  apply Nat.eq_of_testBit_eq
  intro i
  rw [Nat.testBit_and]
  cases i with
  | zero => simp [Nat.testBit_zero]
  | succ i =>
    rw [Nat.add_sub_cancel, Nat.testBit_succ, Nat.testBit_succ, show (2 * m + 1) / 2 = m by omega, show 2 * m / 2 = m by omega]
    simp
theorem and_pred_even (m : Nat) (h : 0 < m) : (2 * m) &&& (2 * m - 1) = 2 * (m &&& (m - 1)) := by
  apply Nat.eq_of_testBit_eq
  intro i
  rw [Nat.testBit_and]
  cases i with
  | zero => simp [Nat.testBit_zero]
  | succ i =>
    rw [Nat.testBit_succ, Nat.testBit_succ, Nat.testBit_succ, show 2 * m / 2 = m by omega, show (2 * m - 1) / 2 = m - 1 by omega, show 2 * (m &&& (m - 1)) / 2 = m &&& (m - 1) by omega, Nat.testBit_and]
theorem wtF_clear (f n : Nat) (h : n < 2 ^ f) (h0 : 0 < n) : wtF f (n &&& (n - 1)) + 1 = wtF f n := by
  induction f generalizing n with
  | zero => simp at h; omega
  | succ f ih =>
    rcases Nat.mod_two_eq_zero_or_one n with hp | hp
    · obtain ⟨m, rfl⟩ : ∃ m, n = 2 * m := ⟨n / 2, by omega⟩
      rw [and_pred_even m (by omega)]
      have := ih m (by rw [Nat.pow_succ] at h; omega) (by omega)
      simp only [wtF, show 2 * (m &&& (m - 1)) % 2 = 0 by omega, show 2 * (m &&& (m - 1)) / 2 = m &&& (m - 1) by omega, show 2 * m % 2 = 0 by omega, show 2 * m / 2 = m by omega]
      omega
    · obtain ⟨m, rfl⟩ : ∃ m, n = 2 * m + 1 := ⟨n / 2, by omega⟩
      rw [and_pred_odd m]
      simp only [wtF, show 2 * m % 2 = 0 by omega, show 2 * m / 2 = m by omega, show (2 * m + 1) % 2 = 1 by omega, show (2 * m + 1) / 2 = m by omega]
      omega
theorem wt_clear (n : Nat) (h : n < 2 ^ 64) (h0 : 0 < n) : wt (n &&& (n - 1)) + 1 = wt n := wtF_clear 64 n h h0
theorem wt_eq_zero (n : Nat) (h : n < 2 ^ 64) (h0 : wt n = 0) : n = 0 := by
  rcases Nat.eq_zero_or_pos n with h1 | h1
  · exact h1
  · have := wt_pos n h h1; omega

/-- the steps at places n - 1, .., 0 of the division of p by g, whose degree is d -/
def red (g d : Nat) : Nat → Nat → Nat
  | 0, p => p
  | n + 1, p => red g d n (if p.testBit (n + d) then p ^^^ (g <<< n) else p)
theorem xor_swap (a b c : Nat) : a ^^^ b ^^^ c = a ^^^ c ^^^ b := by rw [Nat.xor_assoc, Nat.xor_comm b c, ← Nat.xor_assoc]
theorem red_xor (g d n p q : Nat) : red g d n (p ^^^ q) = red g d n p ^^^ red g d n q := by
  induction n generalizing p q with
  | zero => rfl
  | succ n ih =>
    simp only [red]
    rw [← ih]
    congr 1
    rw [Nat.testBit_xor]
    cases p.testBit (n + d) <;> cases q.testBit (n + d) <;> simp
    · rw [Nat.xor_assoc]
    · rw [xor_swap]
    · generalize g <<< n = t
      rw [Nat.xor_assoc, ← Nat.xor_assoc t, Nat.xor_comm t q, Nat.xor_assoc q, Nat.xor_self, Nat.xor_zero]
theorem red_zero (g d n : Nat) : red g d n 0 = 0 := by
  induction n with
  | zero => rfl
  | succ n ih => simp [red, ih]
/-- d is the degree of g -/
def Deg (g d : Nat) : Prop := 2 ^ d ≤ g ∧ g < 2 ^ (d + 1)
theorem lt_of_bits (x n : Nat) (h : ∀ i, n ≤ i → x.testBit i = false) : x < 2 ^ n := by
  apply Nat.lt_pow_two_of_testBit
  exact h
theorem testBit_high (x n i : Nat) (h : x < 2 ^ n) (hi : n ≤ i) : x.testBit i = false :=
  Nat.testBit_lt_two_pow (Nat.lt_of_lt_of_le h (Nat.pow_le_pow_right (by omega) hi))
theorem Deg.top {g d : Nat} (h : Deg g d) : g.testBit d = true := by
  have h1 := h.1
  have h2 := h.2
  rw [Nat.testBit_eq_decide_div_mod_eq]
  have : g / 2 ^ d = 1 := by
    rw [Nat.pow_succ] at h2
    have hp : 0 < 2 ^ d := Nat.pow_pos (by omega)
    exact Nat.div_eq_of_lt_le (by omega) (by omega)
  rw [this]; rfl
theorem step_lt {g d : Nat} (h : Deg g d) (n p : Nat) (hp : p < 2 ^ (n + 1 + d)) : (if p.testBit (n + d) then p ^^^ (g <<< n) else p) < 2 ^ (n + d) := by
  apply lt_of_bits
  intro i hi
  split
  · rename_i ht
    rw [Nat.testBit_xor, Nat.testBit_shiftLeft]
    rcases Nat.lt_or_ge (n + d) i with h1 | h1
    · rw [testBit_high p _ i hp (by omega), testBit_high g (d + 1) (i - n) h.2 (by omega)]; simp
    · obtain rfl : i = n + d := by omega
      rw [ht, show n + d - n = d by omega, h.top]; simp
  · rename_i ht
    rcases Nat.lt_or_ge (n + d) i with h1 | h1
    · exact testBit_high p _ i hp (by omega)
    · obtain rfl : i = n + d := by omega
      simpa using ht
theorem red_lt {g d : Nat} (h : Deg g d) (n p : Nat) (hp : p < 2 ^ (n + d)) : red g d n p < 2 ^ d := by
  induction n generalizing p with
  | zero => simpa [red] using hp
  | succ n ih => exact ih _ (step_lt h n p hp)
theorem red_high (g d n m p : Nat) (hp : p < 2 ^ (n + d)) : red g d (n + m) p = red g d n p := by
  induction m with
  | zero => rfl
  | succ m ih =>
    rw [← Nat.add_assoc]
    simp only [red]
    rw [testBit_high p _ (n + m + d) hp (by omega)]
    simpa using ih
/-- at a place whose upper bits are clear, the test for a rest is the bit there -/
theorem shift_test (p n : Nat) (hp : p < 2 ^ (n + 1)) : p / 2 ^ n = if p.testBit n then 1 else 0 := by
  have hq : p / 2 ^ n < 2 := by
    rw [Nat.div_lt_iff_lt_mul (Nat.pow_pos (by omega)), Nat.mul_comm]
    rw [Nat.pow_succ] at hp; exact hp
  rw [Nat.testBit_eq_decide_div_mod_eq]
  generalize p / 2 ^ n = q at *
  rcases (show q = 0 ∨ q = 1 by omega) with h | h <;> rw [h] <;> rfl

/-- the codeword of v -/
def cw (g d k v : Nat) : Nat := v * 2 ^ d + red g d k (v * 2 ^ d)
theorem mul_or (v d r : Nat) (h : r < 2 ^ d) : v * 2 ^ d ||| r = v * 2 ^ d + r := by
  rw [← Nat.shiftLeft_eq, Nat.shiftLeft_add_eq_or_of_lt h]
theorem mul_xor (v d r : Nat) (h : r < 2 ^ d) : v * 2 ^ d ^^^ r = v * 2 ^ d + r := by
  rw [← mul_or v d r h]
  apply Nat.eq_of_testBit_eq
  intro i
  rw [Nat.testBit_xor, Nat.testBit_or, ← Nat.shiftLeft_eq, Nat.testBit_shiftLeft]
  rcases Nat.lt_or_ge i d with hi | hi
  · rw [show decide (i ≥ d) = false by simp; omega]; simp
  · rw [testBit_high r d i h hi]; simp
theorem shl_lt (v k d : Nat) (hv : v < 2 ^ k) : v * 2 ^ d < 2 ^ (k + d) := by
  rw [Nat.pow_add]
  exact Nat.mul_lt_mul_of_pos_right hv (Nat.pow_pos (by omega))
theorem cw_lt {g d : Nat} (h : Deg g d) (k v : Nat) (hv : v < 2 ^ k) : cw g d k v < 2 ^ (k + d) := by
  have h1 := red_lt h k (v * 2 ^ d) (shl_lt v k d hv)
  unfold cw
  rw [Nat.pow_add]
  have : (v + 1) * 2 ^ d ≤ 2 ^ k * 2 ^ d := Nat.mul_le_mul_right _ (by omega)
  rw [Nat.add_mul] at this
  omega
theorem mul_xor_mul (x y d : Nat) : (x ^^^ y) * 2 ^ d = x * 2 ^ d ^^^ y * 2 ^ d := by
  rw [← Nat.shiftLeft_eq, ← Nat.shiftLeft_eq, ← Nat.shiftLeft_eq, Nat.shiftLeft_xor_distrib]
theorem xor_lt' (x y k : Nat) (hx : x < 2 ^ k) (hy : y < 2 ^ k) : x ^^^ y < 2 ^ k := Nat.xor_lt_two_pow hx hy
theorem cw_xor {g d : Nat} (h : Deg g d) (k x y : Nat) (hx : x < 2 ^ k) (hy : y < 2 ^ k) : cw g d k (x ^^^ y) = cw g d k x ^^^ cw g d k y := by
  have hr := fun v (hv : v < 2 ^ k) => red_lt h k (v * 2 ^ d) (shl_lt v k d hv)
  unfold cw
  rw [← mul_xor _ _ _ (hr _ (xor_lt' x y k hx hy)), ← mul_xor _ _ _ (hr x hx), ← mul_xor _ _ _ (hr y hy), mul_xor_mul, red_xor]
  generalize x * 2 ^ d = a
  generalize y * 2 ^ d = b
  generalize red g d k a = r
  generalize red g d k b = s
  rw [Nat.xor_assoc, Nat.xor_assoc]
  congr 1
  rw [← Nat.xor_assoc, ← Nat.xor_assoc, Nat.xor_comm b r]
theorem cw_div {g d : Nat} (h : Deg g d) (k v : Nat) (hv : v < 2 ^ k) : cw g d k v / 2 ^ d = v := by
  have h1 := red_lt h k (v * 2 ^ d) (shl_lt v k d hv)
  unfold cw
  rw [Nat.add_comm, Nat.add_mul_div_right _ _ (Nat.pow_pos (by omega)), Nat.div_eq_of_lt h1, Nat.zero_add]
theorem cw_pos {g d : Nat} (h : Deg g d) (k v : Nat) (hv : v < 2 ^ k) (h0 : 0 < v) : 0 < cw g d k v := by
  have := cw_div h k v hv
  rcases Nat.eq_zero_or_pos (cw g d k v) with h1 | h1
  · rw [h1, Nat.zero_div] at this; omega
  · exact h1

/-- the least of top and the values at 1, .., n - 1 -/
def least (f : Nat → Nat) (top : Nat) : Nat → Nat
  | 0 => top
  | n + 1 => if n = 0 then top else min (least f top n) (f n)
theorem least_one (f : Nat → Nat) (top : Nat) : least f top 1 = top := rfl
theorem least_succ (f : Nat → Nat) (top n : Nat) (h : 0 < n) : least f top (n + 1) = min (least f top n) (f n) := by
  simp only [least, if_neg (show ¬ n = 0 by omega)]
theorem least_le (f : Nat → Nat) (top n v : Nat) (h0 : 0 < v) (hv : v < n) : least f top n ≤ f v := by
  induction n with
  | zero => omega
  | succ n ih =>
    rw [least_succ f top n (by omega)]
    rcases Nat.lt_or_ge v n with h | h
    · have := ih h; omega
    · obtain rfl : v = n := by omega
      omega
theorem least_top (f : Nat → Nat) (top n : Nat) : least f top n ≤ top := by
  induction n with
  | zero => exact Nat.le_refl _
  | succ n ih =>
    simp only [least]
    split <;> omega
theorem least_ge (f : Nat → Nat) (top n b : Nat) (h : b ≤ top) (hf : ∀ v, 0 < v → v < n → b ≤ f v) : b ≤ least f top n := by
  induction n with
  | zero => exact h
  | succ n ih =>
    simp only [least]
    split
    · exact h
    · have := ih (fun v h0 hv => hf v h0 (by omega))
      have := hf n (by omega) (by omega)
      omega
theorem least_same (f : Nat → Nat) (s t n : Nat) (h2 : 2 ≤ n) (hs : f 1 ≤ s) (ht : f 1 ≤ t) : least f s n = least f t n := by
  apply Nat.le_antisymm
  · apply least_ge
    · exact Nat.le_trans (least_le f s n 1 (by omega) (by omega)) ht
    · intro v h0 hv; exact least_le f s n v h0 hv
  · apply least_ge
    · exact Nat.le_trans (least_le f t n 1 (by omega) (by omega)) hs
    · intro v h0 hv; exact least_le f t n v h0 hv

/-- the minimum distance -/
def dist (g d k : Nat) : Nat := least (fun v => wt (cw g d k v)) (k + d) (2 ^ k)
theorem pow2_le (k : Nat) (h : 1 ≤ k) : 2 ≤ 2 ^ k := by
  have := Nat.pow_le_pow_right (show 0 < 2 by omega) h
  omega
theorem dist_le (g d k v : Nat) (h0 : 0 < v) (hv : v < 2 ^ k) : dist g d k ≤ wt (cw g d k v) := least_le _ _ _ v h0 hv
theorem dist_pos {g d : Nat} (h : Deg g d) (k : Nat) (hk : 1 ≤ k) (hkd : k + d ≤ 30) : 1 ≤ dist g d k := by
  apply least_ge
  · omega
  · intro v h0 hv
    have := cw_lt h k v hv
    exact wt_pos _ (Nat.lt_of_lt_of_le this (Nat.pow_le_pow_right (by omega) (by omega))) (cw_pos h k v hv h0)
theorem dist_top {g d : Nat} (h : Deg g d) (k : Nat) (hk : 1 ≤ k) (hkd : k + d ≤ 30) : least (fun v => wt (cw g d k v)) 31 (2 ^ k) = dist g d k := by
  have h1 := wt_le (k + d) _ (cw_lt h k 1 (by have := pow2_le k hk; omega)) (by omega)
  apply least_same
  · exact pow2_le k hk
  · show wt (cw g d k 1) ≤ 31; omega
  · exact h1
/-- two codewords near one word are one -/
theorem near_one {g d : Nat} (h : Deg g d) (k word u v : Nat) (hu : u < 2 ^ k) (hv : v < 2 ^ k) (h1 : wt (word ^^^ cw g d k u) ≤ (dist g d k - 1) / 2) (h2 : wt (word ^^^ cw g d k v) ≤ (dist g d k - 1) / 2) (hp : 1 ≤ dist g d k) : u = v := by
  rcases Nat.eq_zero_or_pos (u ^^^ v) with h0 | h0
  · have h5 : u ^^^ v ^^^ v = v := by rw [h0, Nat.zero_xor]
    rw [Nat.xor_assoc, Nat.xor_self, Nat.xor_zero] at h5
    exact h5
  · have h3 := dist_le g d k (u ^^^ v) h0 (xor_lt' u v k hu hv)
    rw [cw_xor h k u v hu hv] at h3
    have h4 := wt_xor (word ^^^ cw g d k u) (word ^^^ cw g d k v)
    rw [show word ^^^ cw g d k u ^^^ (word ^^^ cw g d k v) = cw g d k u ^^^ cw g d k v by
      rw [Nat.xor_assoc, ← Nat.xor_assoc (cw g d k u), Nat.xor_comm (cw g d k u) word, Nat.xor_assoc word, ← Nat.xor_assoc word, Nat.xor_self, Nat.zero_xor]] at h4
    omega

/-- the first of v, .., v + n - 1 that p takes -/
def first (p : Nat → Bool) : Nat → Nat → Option Nat
  | 0, _ => none
  | n + 1, v => if p v then some v else first p n (v + 1)
theorem first_some (p : Nat → Bool) (n v u : Nat) (h : first p n v = some u) : p u = true ∧ v ≤ u ∧ u < v + n := by
  induction n generalizing v with
  | zero => cases h
  | succ n ih =>
    simp only [first] at h
    split at h
    · rename_i hp; cases h; exact ⟨hp, by omega, by omega⟩
    · have := ih (v + 1) h; exact ⟨this.1, by omega, by omega⟩
theorem first_none (p : Nat → Bool) (n v : Nat) (h : first p n v = none) : ∀ u, v ≤ u → u < v + n → p u = false := by
  induction n generalizing v with
  | zero => intro u h1 h2; omega
  | succ n ih =>
    simp only [first] at h
    split at h
    · cases h
    · rename_i hp
      intro u h1 h2
      rcases Nat.eq_or_lt_of_le h1 with rfl | h3
      · simpa using hp
      · exact ih (v + 1) h u (by omega) (by omega)
theorem first_one (p : Nat → Bool) (n v u : Nat) (h1 : v ≤ u) (h2 : u < v + n) (hp : p u = true) (hu : ∀ x, v ≤ x → x < v + n → p x = true → x = u) : first p n v = some u := by
  cases h : first p n v with
  | none => have := first_none p n v h u h1 h2; rw [hp] at this; cases this
  | some x => have := first_some p n v x h; rw [hu x this.2.1 this.2.2 this.1]
end Go.Proofs.Ytnkoenohngkcmaa
