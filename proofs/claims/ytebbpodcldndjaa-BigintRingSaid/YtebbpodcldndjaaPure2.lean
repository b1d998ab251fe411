/- The plain mathematics of digits in a base, the least significant first. -/
import Derived.Test.YtebbpodcldndjaaPure
set_option linter.unusedVariables false
namespace Go.Proofs.Ytebbpodcldndjaa
/-- the digits of a number in a base -/
def digs (b v : Nat) : List Nat := if h : v = 0 ∨ b < 2 then [] else v % b :: digs b (v / b)
termination_by v
decreasing_by
  have h1 : v ≠ 0 := fun e => h (.inl e)
  have h2 : ¬ b < 2 := fun e => h (.inr e)
  exact Nat.div_lt_self (by omega) (by omega)
/-- the value of digits -/
def valD (b : Nat) (l : List Nat) : Nat := l.foldr (fun x v => x + b * v) 0
def OkD (b : Nat) (l : List Nat) : Prop := ∀ x ∈ l, x < b
theorem valD_nil (b : Nat) : valD b [] = 0 := rfl
theorem valD_cons (b x : Nat) (l : List Nat) : valD b (x :: l) = x + b * valD b l := rfl
theorem valD_append (b : Nat) (l m : List Nat) : valD b (l ++ m) = valD b l + b ^ l.length * valD b m := by
  induction l with
  | nil => simp [valD_nil]
  | cons x l ih =>
    rw [List.cons_append, valD_cons, valD_cons, ih, List.length_cons, Nat.pow_succ, Nat.mul_add, Nat.mul_comm (b ^ l.length) b, Nat.mul_assoc]
    omega
theorem valD_snoc (b : Nat) (l : List Nat) (x : Nat) : valD b (l ++ [x]) = valD b l + b ^ l.length * x := by
  rw [valD_append, valD_cons, valD_nil]; simp
theorem digs_zero (b : Nat) : digs b 0 = [] := by rw [digs]; simp
theorem digs_pos {b v : Nat} (hb : 2 ≤ b) (h : v ≠ 0) : digs b v = v % b :: digs b (v / b) := by
  rw [digs, dif_neg (by omega)]
theorem div_lt_of {b v : Nat} (hb : 2 ≤ b) (h : v ≠ 0) : v / b < v := Nat.div_lt_self (by omega) (by omega)
theorem valD_digs (b : Nat) (hb : 2 ≤ b) (v : Nat) : valD b (digs b v) = v := by
  induction v using Nat.strongRecOn with
  | ind v ih =>
    by_cases h : v = 0
    · subst h; rw [digs_zero, valD_nil]
    · rw [digs_pos hb h, valD_cons, ih _ (div_lt_of hb h), Nat.mod_add_div]
theorem OkD.nil (b : Nat) : OkD b [] := fun _ h => by cases h
theorem OkD.cons {b x : Nat} {l : List Nat} (hx : x < b) (h : OkD b l) : OkD b (x :: l) := fun y hy => by
  rcases List.mem_cons.1 hy with rfl | hy
  · exact hx
  · exact h y hy
theorem OkD.append {b : Nat} {l m : List Nat} (h : OkD b l) (h' : OkD b m) : OkD b (l ++ m) := fun y hy => by
  rcases List.mem_append.1 hy with hy | hy
  · exact h y hy
  · exact h' y hy
theorem OkD.tail {b x : Nat} {l : List Nat} (h : OkD b (x :: l)) : OkD b l := fun y hy => h y (List.mem_cons_of_mem _ hy)
theorem OkD.head {b x : Nat} {l : List Nat} (h : OkD b (x :: l)) : x < b := h x (List.mem_cons_self ..)
theorem OkD.take {b : Nat} {l : List Nat} (h : OkD b l) (k : Nat) : OkD b (l.take k) := fun y hy => h y (List.mem_of_mem_take hy)
theorem okD_digs (b : Nat) (hb : 2 ≤ b) (v : Nat) : OkD b (digs b v) := by
  induction v using Nat.strongRecOn with
  | ind v ih =>
    by_cases h : v = 0
    · subst h; rw [digs_zero]; exact OkD.nil b
    · rw [digs_pos hb h]; exact OkD.cons (Nat.mod_lt _ (by omega)) (ih _ (div_lt_of hb h))
theorem digs_eq_nil {b v : Nat} (hb : 2 ≤ b) (h : digs b v = []) : v = 0 := by
  have := valD_digs b hb v
  rw [h, valD_nil] at this
  exact this.symm
theorem digs_inj {b u v : Nat} (hb : 2 ≤ b) (h : digs b u = digs b v) : u = v := by rw [← valD_digs b hb u, h, valD_digs b hb]
theorem digs_valD (b : Nat) (hb : 2 ≤ b) (l : List Nat) (h : OkD b l) (ht : l = [] ∨ l.getD (l.length - 1) 0 ≠ 0) : digs b (valD b l) = l := by
  induction l with
  | nil => rw [valD_nil, digs_zero]
  | cons x l ih =>
    have hx := h.head
    have ht2 : l = [] ∨ l.getD (l.length - 1) 0 ≠ 0 := by
      rcases ht with ht | ht
      · cases ht
      · by_cases hl : l = []
        · exact .inl hl
        · refine .inr ?_
          have : l.length ≠ 0 := fun e => hl (List.eq_nil_of_length_eq_zero e)
          obtain ⟨k, hk⟩ : ∃ k, l.length = k + 1 := ⟨l.length - 1, by omega⟩
          rw [List.length_cons, Nat.add_sub_cancel, hk, List.getD_cons_succ] at ht
          rw [hk]; exact ht
    have ih2 := ih h.tail ht2
    have hv : x + b * valD b l ≠ 0 := by
      intro e
      have e1 : x = 0 := by omega
      have e2 : b * valD b l = 0 := by omega
      rcases Nat.mul_eq_zero.1 e2 with e3 | e3
      · omega
      rw [e3, digs_zero] at ih2
      subst ih2
      subst e1
      rcases ht with ht | ht
      · cases ht
      · simp at ht
    rw [valD_cons, digs_pos hb hv]
    congr 1
    · rw [Nat.add_mul_mod_self_left, Nat.mod_eq_of_lt hx]
    · rw [Nat.add_mul_div_left _ _ (by omega), Nat.div_eq_of_lt hx, Nat.zero_add]; exact ih2
theorem digs_cut (b : Nat) (hb : 2 ≤ b) (l : List Nat) (k v : Nat) (h : OkD b l) (hk : k ≤ l.length) (hv : valD b (l.take k) = v) (ht : k = 0 ∨ l.getD (k - 1) 0 ≠ 0) : digs b v = l.take k := by
  rw [← hv]
  refine digs_valD b hb _ (h.take k) ?_
  rcases ht with rfl | ht
  · exact .inl rfl
  · by_cases h0 : k = 0
    · subst h0; exact .inl rfl
    refine .inr ?_
    rw [List.length_take, Nat.min_eq_left hk]
    rw [List.getD_eq_getElem?_getD, List.getElem?_take, if_pos (by omega), ← List.getD_eq_getElem?_getD]
    exact ht
theorem valD_take (b : Nat) (l : List Nat) (k : Nat) : valD b (l.take (k + 1)) = valD b (l.take k) + b ^ k * l.getD k 0 := by
  by_cases hk : k < l.length
  · rw [take_snoc l k hk, valD_snoc, List.length_take, Nat.min_eq_left (by omega)]
  · rw [List.take_of_length_le (by omega), List.take_of_length_le (by omega), List.getD_eq_getElem?_getD, List.getElem?_eq_none (by omega)]; simp
/-- the k low digits, decimal -/
def low10 : Nat → Nat → List Nat
  | 0, _ => []
  | k + 1, g => g % 10 :: low10 k (g / 10)
theorem length_low10 (k g : Nat) : (low10 k g).length = k := by
  induction k generalizing g with
  | zero => rfl
  | succ k ih => rw [low10, List.length_cons, ih]
theorem okD_low10 (k g : Nat) : OkD 10 (low10 k g) := by
  induction k generalizing g with
  | zero => exact OkD.nil _
  | succ k ih => exact OkD.cons (Nat.mod_lt _ (by decide)) (ih _)
theorem low10_snoc (k g : Nat) : low10 (k + 1) g = low10 k g ++ [g / 10 ^ k % 10] := by
  induction k generalizing g with
  | zero => simp [low10]
  | succ k ih =>
    rw [low10, ih, low10, List.cons_append, Nat.div_div_eq_div_mul, Nat.pow_succ, Nat.mul_comm 10]
theorem valD_low10 (k g : Nat) : valD 10 (low10 k g) = g % 10 ^ k := by
  induction k generalizing g with
  | zero => simp [low10, valD_nil, Nat.mod_one]
  | succ k ih =>
    rw [low10, valD_cons, ih, Nat.pow_succ, Nat.mul_comm (10 ^ k) 10, Nat.mod_mul]
/-- the number of digits -/
theorem length_digs_le (b : Nat) (hb : 2 ≤ b) (v k : Nat) : (digs b v).length ≤ k ↔ v < b ^ k := by
  induction k generalizing v with
  | zero =>
    constructor
    · intro h; have := digs_eq_nil hb (List.eq_nil_of_length_eq_zero (by omega : (digs b v).length = 0)); simp; omega
    · intro h; obtain rfl : v = 0 := by simpa using h
      rw [digs_zero]; exact Nat.le_refl _
  | succ k ih =>
    by_cases h : v = 0
    · subst h; rw [digs_zero]; simp; exact Nat.pow_pos (by omega)
    · rw [digs_pos hb h, List.length_cons, Nat.pow_succ]
      have := ih (v / b)
      rw [Nat.div_lt_iff_lt_mul (by omega)] at this
      omega
/-- the value of a limb list times a small number, plus another one -/
theorem step_lin {O C P x s by_ A pl : Nat} (h : O + P * C = A * by_ + pl) (hs : s = C + x * by_) : O + P * (s % 4294967296) + P * 4294967296 * (s / 4294967296) = (A + P * x) * by_ + pl := by
  have e : P * (s % 4294967296) + P * 4294967296 * (s / 4294967296) = P * s := by
    rw [Nat.mul_assoc, ← Nat.mul_add, Nat.mod_add_div]
  rw [Nat.add_assoc, e, hs, Nat.mul_add, Nat.add_mul, Nat.mul_assoc]
  omega
end Go.Proofs.Ytebbpodcldndjaa
