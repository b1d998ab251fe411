/- The library's count of ones by parallel sums, as plain arithmetic. -/
import Derived.Test.YtnkoenohngkcmaaPure
namespace Go.Proofs.Ytnkoenohngkcmaa

theorem wtF_split (a b x y : Nat) (hx : x < 2 ^ a) : wtF (a + b) (x + 2 ^ a * y) = wtF a x + wtF b y := by
  induction a generalizing x with
  | zero =>
    obtain rfl : x = 0 := by simpa using hx
    simp [wtF]
  | succ a ih =>
    rw [show a + 1 + b = (a + b) + 1 by omega]
    simp only [wtF]
    have h1 : (x + 2 ^ (a + 1) * y) % 2 = x % 2 := by
      rw [Nat.pow_succ, show 2 ^ a * 2 * y = 2 * (2 ^ a * y) by rw [Nat.mul_comm (2 ^ a) 2, Nat.mul_assoc]]; omega
    have h2 : (x + 2 ^ (a + 1) * y) / 2 = x / 2 + 2 ^ a * y := by
      rw [Nat.pow_succ, show 2 ^ a * 2 * y = 2 * (2 ^ a * y) by rw [Nat.mul_comm (2 ^ a) 2, Nat.mul_assoc]]; omega
    rw [h1, h2, ih (x / 2) (by rw [Nat.pow_succ] at hx; omega)]
    omega

def s1 (b : Nat) : Nat := (b / 2 &&& 0x55) + (b &&& 0x55)
def s2 (b : Nat) : Nat := (b / 4 &&& 0x33) + (b &&& 0x33)
def s3 (b : Nat) : Nat := (b / 16 + b) &&& 0x0f
theorem s1_in : ∀ b : Fin 256, ∀ t : Fin 2, ((b.val / 2 + 128 * t.val) &&& 0x55) + (b.val &&& 0x55) = s1 b.val := by decide +kernel
theorem s1_lt : ∀ b : Fin 256, s1 b.val < 256 := by decide +kernel
theorem s2_in : ∀ b : Fin 256, ∀ t : Fin 4, ((b.val / 4 + 64 * t.val) &&& 0x33) + (b.val &&& 0x33) = s2 b.val := by decide +kernel
theorem s2_lt : ∀ b : Fin 256, s2 (s1 b.val) < 69 ∧ s2 (s1 b.val) % 16 < 5 := by decide +kernel
theorem s3_in : ∀ b : Fin 69, ∀ t : Fin 5, ((b.val / 16 + 16 * t.val + b.val) &&& 0x0f) = s3 b.val := by decide +kernel
theorem s3_eq : ∀ b : Fin 256, s3 (s2 (s1 b.val)) = wtF 8 b.val := by decide +kernel
theorem and_byte (x M : Nat) : x &&& M = (x % 256 &&& M % 256) + 256 * (x / 256 &&& M / 256) := by
  have h1 : (x &&& M) % 2 ^ 8 = x % 2 ^ 8 &&& M % 2 ^ 8 := Nat.and_mod_two_pow
  have h2 : (x &&& M) / 2 ^ 8 = x / 2 ^ 8 &&& M / 2 ^ 8 := Nat.and_div_two_pow
  have := Nat.mod_add_div (x &&& M) 256
  rw [← h1, ← h2]; exact this.symm

def f1 (M x : Nat) : Nat := (x / 2 &&& M) + (x &&& M)
def f2 (M x : Nat) : Nat := (x / 4 &&& M) + (x &&& M)
def f3 (M x : Nat) : Nat := (x / 16 + x) &&& M
theorem f1_byte (M b y : Nat) (hb : b < 256) (hM : M % 256 = 0x55) : f1 M (b + 256 * y) = s1 b + 256 * f1 (M / 256) y := by
  unfold f1
  rw [and_byte ((b + 256 * y) / 2), and_byte (b + 256 * y), hM, show (b + 256 * y) / 2 % 256 = b / 2 + 128 * (y % 2) by omega, show (b + 256 * y) / 2 / 256 = y / 2 by omega, show (b + 256 * y) % 256 = b by omega, show (b + 256 * y) / 256 = y by omega]
  have := s1_in ⟨b, hb⟩ ⟨y % 2, by omega⟩
  simp only at this
  omega
theorem f2_byte (M b y : Nat) (hb : b < 256) (hM : M % 256 = 0x33) : f2 M (b + 256 * y) = s2 b + 256 * f2 (M / 256) y := by
  unfold f2
  rw [and_byte ((b + 256 * y) / 4), and_byte (b + 256 * y), hM, show (b + 256 * y) / 4 % 256 = b / 4 + 64 * (y % 4) by omega, show (b + 256 * y) / 4 / 256 = y / 4 by omega, show (b + 256 * y) % 256 = b by omega, show (b + 256 * y) / 256 = y by omega]
  have := s2_in ⟨b, hb⟩ ⟨y % 4, by omega⟩
  simp only at this
  omega
theorem f3_byte (M b y : Nat) (hb : b < 69) (hy : y % 16 < 5) (hM : M % 256 = 0x0f) : f3 M (b + 256 * y) = s3 b + 256 * f3 (M / 256) y := by
  unfold f3
  rw [and_byte, hM, show ((b + 256 * y) / 16 + (b + 256 * y)) % 256 = b / 16 + 16 * (y % 16) + b by omega, show ((b + 256 * y) / 16 + (b + 256 * y)) / 256 = y / 16 + y by omega]
  have := s3_in ⟨b, hb⟩ ⟨y % 16, hy⟩
  simp only at this
  omega
/-- the sums within bytes -/
theorem pop_bytes (a b c d : Nat) (ha : a < 256) (hb : b < 256) (hc : c < 256) (hd : d < 256) :
    f3 0x0f0f0f0f0f0f0f0f (f2 0x3333333333333333 (f1 0x5555555555555555 (a + 256 * (b + 256 * (c + 256 * d))))) = wtF 8 a + 256 * (wtF 8 b + 256 * (wtF 8 c + 256 * wtF 8 d)) := by
  have e1 : f1 0x5555555555555555 (a + 256 * (b + 256 * (c + 256 * d))) = s1 a + 256 * (s1 b + 256 * (s1 c + 256 * s1 d)) := by
    rw [f1_byte _ a _ ha (by rfl), f1_byte _ b _ hb (by rfl), f1_byte _ c _ hc (by rfl)]
    have := f1_byte (0x5555555555555555 / 256 / 256 / 256) d 0 hd (by rfl)
    rw [Nat.mul_zero, Nat.add_zero] at this
    rw [this]
    simp [f1]
  have la := s1_lt ⟨a, ha⟩
  have lb := s1_lt ⟨b, hb⟩
  have lc := s1_lt ⟨c, hc⟩
  have ld := s1_lt ⟨d, hd⟩
  have ma := s2_lt ⟨a, ha⟩
  have mb := s2_lt ⟨b, hb⟩
  have mc := s2_lt ⟨c, hc⟩
  have md := s2_lt ⟨d, hd⟩
  have pa := s3_eq ⟨a, ha⟩
  have pb := s3_eq ⟨b, hb⟩
  have pc := s3_eq ⟨c, hc⟩
  have pd := s3_eq ⟨d, hd⟩
  simp only at la lb lc ld ma mb mc md pa pb pc pd
  have e2 : f2 0x3333333333333333 (s1 a + 256 * (s1 b + 256 * (s1 c + 256 * s1 d))) = s2 (s1 a) + 256 * (s2 (s1 b) + 256 * (s2 (s1 c) + 256 * s2 (s1 d))) := by
    rw [f2_byte _ (s1 a) _ la (by rfl), f2_byte _ (s1 b) _ lb (by rfl), f2_byte _ (s1 c) _ lc (by rfl)]
    have := f2_byte (0x3333333333333333 / 256 / 256 / 256) (s1 d) 0 ld (by rfl)
    rw [Nat.mul_zero, Nat.add_zero] at this
    rw [this]
    simp [f2]
  rw [e1, e2, ← pa, ← pb, ← pc, ← pd]
  generalize s2 (s1 a) = A at *
  generalize s2 (s1 b) = B at *
  generalize s2 (s1 c) = C at *
  generalize s2 (s1 d) = D at *
  rw [f3_byte _ A _ ma.1 (by omega) (by rfl), f3_byte _ B _ mb.1 (by omega) (by rfl), f3_byte _ C _ mc.1 (by omega) (by rfl)]
  have := f3_byte (0x0f0f0f0f0f0f0f0f / 256 / 256 / 256) D 0 md.1 (by omega) (by rfl)
  rw [Nat.mul_zero, Nat.add_zero] at this
  rw [this]
  simp [f3]
/-- the whole count -/
theorem pop_all (x : Nat) (hx : x < 4294967296) : ∃ y : Nat, f3 0x0f0f0f0f0f0f0f0f (f2 0x3333333333333333 (f1 0x5555555555555555 x)) = y ∧ y < 4294967296 ∧ wt x < 128 ∧
    ((y + y / 256) + (y + y / 256) / 65536 + ((y + y / 256) + (y + y / 256) / 65536) / 4294967296) % 128 = wt x := by
  obtain ⟨a, b, c, d, ha, hb, hc, hd, rfl⟩ : ∃ a b c d, a < 256 ∧ b < 256 ∧ c < 256 ∧ d < 256 ∧ x = a + 256 * (b + 256 * (c + 256 * d)) :=
    ⟨x % 256, x / 256 % 256, x / 65536 % 256, x / 16777216, by omega, by omega, by omega, by omega, by omega⟩
  have hw : wt (a + 256 * (b + 256 * (c + 256 * d))) = wtF 8 a + (wtF 8 b + (wtF 8 c + wtF 8 d)) := by
    have h1 := wtF_split 8 24 a (b + 256 * (c + 256 * d)) ha
    have h2 := wtF_split 8 16 b (c + 256 * d) hb
    have h3 := wtF_split 8 8 c d hc
    rw [← wtF_same 32 _ (by omega) (by omega)]
    simp only [Nat.reduceAdd, Nat.reducePow] at h1 h2 h3
    rw [h1, h2, h3]
  have l1 := wtF_le 8 a
  have l2 := wtF_le 8 b
  have l3 := wtF_le 8 c
  have l4 := wtF_le 8 d
  refine ⟨_, pop_bytes a b c d ha hb hc hd, ?_, ?_, ?_⟩
  · omega
  · omega
  · rw [hw]
    generalize wtF 8 a = i at *
    generalize wtF 8 b = j at *
    generalize wtF 8 c = k at *
    generalize wtF 8 d = l at *
    have e1 : (i + 256 * (j + 256 * (k + 256 * l))) / 256 = j + 256 * (k + 256 * l) := by omega
    rw [e1]
    have e2 : (i + 256 * (j + 256 * (k + 256 * l)) + (j + 256 * (k + 256 * l))) / 65536 = k + l + 256 * l := by omega
    rw [e2]
    have e3 : (i + 256 * (j + 256 * (k + 256 * l)) + (j + 256 * (k + 256 * l)) + (k + l + 256 * l)) / 4294967296 = 0 := by omega
    rw [e3]
    omega
end Go.Proofs.Ytnkoenohngkcmaa
