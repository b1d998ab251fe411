/- The plain mathematics of bit strings: numbers and their digits. -/
namespace Go.Proofs.Ytjpfalpengocjaa
/-- the number whose binary digits are the bits, the most significant first -/
def num (l : List Bool) : Nat := l.foldl (fun v b => 2 * v + b.toNat) 0
theorem num_nil : num [] = 0 := rfl
theorem num_snoc (l : List Bool) (b : Bool) : num (l ++ [b]) = 2 * num l + b.toNat := by simp [num]
theorem num_from (l : List Bool) : ∀ v, l.foldl (fun v b => 2 * v + b.toNat) v = v * 2 ^ l.length + num l := by
  induction l with
  | nil => intro v; simp [num]
  | cons b l ih =>
    intro v
    have h1 := ih (2 * v + b.toNat)
    have h2 := ih (2 * 0 + b.toNat)
    simp only [num, List.foldl_cons, List.length_cons, Nat.pow_succ] at *
    rw [h1, h2]
    simp only [Nat.mul_zero, Nat.zero_add, Nat.add_mul]
    have : 2 * v * 2 ^ l.length = v * (2 ^ l.length * 2) := by rw [Nat.mul_comm 2 v, Nat.mul_assoc, Nat.mul_comm 2]
    omega
theorem num_cons (b : Bool) (l : List Bool) : num (b :: l) = b.toNat * 2 ^ l.length + num l := by
  have := num_from l (2 * 0 + b.toNat)
  simpa [num] using this
theorem num_append (l m : List Bool) : num (l ++ m) = num l * 2 ^ m.length + num m := by
  have := num_from m (num l)
  simpa [num, List.foldl_append] using this
theorem num_lt (l : List Bool) : num l < 2 ^ l.length := by
  induction l with
  | nil => simp [num]
  | cons b l ih =>
    rw [num_cons, List.length_cons, Nat.pow_succ]
    cases b <;> simp <;> omega

/-- bit i of the two's complement of v -/
def bitI (v : Int) (i : Nat) : Bool := decide (v / 2 ^ i % 2 = 1)
/-- the n low bits of v, the most significant first -/
def lowI (v : Int) : Nat → List Bool
  | 0 => []
  | n + 1 => bitI v n :: lowI v n
theorem length_lowI (v : Int) (n : Nat) : (lowI v n).length = n := by
  induction n with
  | zero => rfl
  | succ n ih => simp [lowI, ih]
theorem getD_lowI (v : Int) (n k : Nat) (hk : k < n) : (lowI v n)[k]? = some (bitI v (n - 1 - k)) := by
  induction n generalizing k with
  | zero => omega
  | succ n ih =>
    cases k with
    | zero => simp [lowI]
    | succ k =>
      simp only [lowI, List.getElem?_cons_succ]
      rw [ih k (by omega)]
      congr 2
      omega
theorem take_lowI (v : Int) (n k : Nat) (hk : k < n) : (lowI v n).take (k + 1) = (lowI v n).take k ++ [bitI v (n - 1 - k)] := by
  rw [List.take_add_one, getD_lowI v n k hk]
  rfl
theorem emod_two_pow_succ (v : Int) (n : Nat) : v % 2 ^ (n + 1) = (v / 2 ^ n % 2) * 2 ^ n + v % 2 ^ n := by
  have hP : (0 : Int) < 2 ^ n := Int.pow_pos (by omega)
  have e1 := Int.mul_ediv_add_emod v (2 ^ n)
  have e2 := Int.mul_ediv_add_emod (v / 2 ^ n) 2
  have l1 := Int.emod_nonneg v (Int.ne_of_gt hP)
  have l2 := Int.emod_lt_of_pos v hP
  have l3 := Int.emod_nonneg (v / 2 ^ n) (show (2:Int) ≠ 0 by omega)
  have l4 := Int.emod_lt_of_pos (v / 2 ^ n) (show (0:Int) < 2 by omega)
  have hv : v = 2 ^ (n + 1) * (v / 2 ^ n / 2) + ((v / 2 ^ n % 2) * 2 ^ n + v % 2 ^ n) := by
    rw [Int.pow_succ]
    calc v = 2 ^ n * (v / 2 ^ n) + v % 2 ^ n := e1.symm
      _ = 2 ^ n * (2 * (v / 2 ^ n / 2) + v / 2 ^ n % 2) + v % 2 ^ n := by rw [e2]
      _ = _ := by rw [Int.mul_add, Int.mul_assoc, Int.mul_comm (v / 2 ^ n % 2)]; omega
  have hb : 0 ≤ (v / 2 ^ n % 2) * 2 ^ n + v % 2 ^ n ∧ (v / 2 ^ n % 2) * 2 ^ n + v % 2 ^ n < 2 ^ (n + 1) := by
    rw [Int.pow_succ]
    have : v / 2 ^ n % 2 = 0 ∨ v / 2 ^ n % 2 = 1 := by omega
    rcases this with h | h <;> rw [h] <;> omega
  conv => lhs; rw [hv]
  rw [Int.mul_add_emod_self_left]
  exact Int.emod_eq_of_lt hb.1 hb.2
theorem bitI_toNat (v : Int) (n : Nat) : ((bitI v n).toNat : Int) = v / 2 ^ n % 2 := by
  have l3 := Int.emod_nonneg (v / 2 ^ n) (show (2:Int) ≠ 0 by omega)
  have l4 := Int.emod_lt_of_pos (v / 2 ^ n) (show (0:Int) < 2 by omega)
  unfold bitI
  by_cases h : v / 2 ^ n % 2 = 1
  · simp [h]
  · simp [h]; omega
theorem num_lowI (v : Int) (n : Nat) : (num (lowI v n) : Int) = v % 2 ^ n := by
  induction n with
  | zero => simp [lowI, num, Int.emod_one]
  | succ n ih =>
    rw [lowI, num_cons, length_lowI, emod_two_pow_succ, ← ih, ← bitI_toNat]
    simp
theorem bitI_num_cons (b : Bool) (l : List Bool) : bitI (num (b :: l)) l.length = b := by
  have h := num_lt l
  have e : ((num (b :: l) : Nat) : Int) / 2 ^ l.length = b.toNat := by
    rw [num_cons]
    have hp : 0 < 2 ^ l.length := Nat.pow_pos (by omega)
    have : (b.toNat * 2 ^ l.length + num l) / 2 ^ l.length = b.toNat := by
      rw [Nat.mul_comm, Nat.mul_add_div hp, Nat.div_eq_of_lt h, Nat.add_zero]
    have h2 := congrArg (fun n : Nat => (n : Int)) this
    simpa using h2
  unfold bitI
  rw [e]
  cases b <;> rfl
theorem bitI_num_lower (b : Bool) (l : List Bool) (i : Nat) (hi : i < l.length) : bitI (num (b :: l)) i = bitI (num l) i := by
  unfold bitI
  congr 2
  rw [num_cons]
  obtain ⟨d, hd⟩ : ∃ d, l.length = i + 1 + d := ⟨l.length - (i + 1), by omega⟩
  have : (b.toNat * 2 ^ l.length + num l) / 2 ^ i % 2 = num l / 2 ^ i % 2 := by
    have e : b.toNat * 2 ^ l.length + num l = 2 ^ i * (2 * (b.toNat * 2 ^ d)) + num l := by
      rw [hd, Nat.pow_add, Nat.pow_succ]
      congr 1
      simp only [Nat.mul_comm, Nat.mul_left_comm, Nat.mul_assoc]
    rw [e, Nat.mul_add_div (Nat.pow_pos (by omega))]
    omega
  have h2 := congrArg (fun n : Nat => (n : Int)) this
  simpa using h2
theorem lowI_congr (v v' : Int) (n : Nat) (h : ∀ i, i < n → bitI v i = bitI v' i) : lowI v n = lowI v' n := by
  induction n with
  | zero => rfl
  | succ n ih => rw [lowI, lowI, h n (by omega), ih (fun i hi => h i (by omega))]
theorem lowI_num (l : List Bool) : lowI (num l) l.length = l := by
  induction l with
  | nil => rfl
  | cons b l ih =>
    rw [List.length_cons, lowI, bitI_num_cons, lowI_congr _ (num l) _ (fun i hi => bitI_num_lower b l i hi), ih]
end Go.Proofs.Ytjpfalpengocjaa
