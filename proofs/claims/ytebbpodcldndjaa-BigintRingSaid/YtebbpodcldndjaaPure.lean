/- The plain mathematics of magnitudes: lists of limbs, the least significant first. -/
set_option linter.unusedVariables false
namespace Go.Proofs.Ytebbpodcldndjaa
/-- the value of limbs -/
def val (l : List Nat) : Nat := l.foldr (fun x v => x + 4294967296 * v) 0
/-- the limbs of a value -/
def enc (v : Nat) : List Nat := if h : v = 0 then [] else v % 4294967296 :: enc (v / 4294967296)
termination_by v
decreasing_by omega
def Ok (l : List Nat) : Prop := ∀ x ∈ l, x < 4294967296
theorem val_nil : val [] = 0 := rfl
theorem val_cons (x : Nat) (l : List Nat) : val (x :: l) = x + 4294967296 * val l := rfl
theorem val_append (l m : List Nat) : val (l ++ m) = val l + 4294967296 ^ l.length * val m := by
  induction l with
  | nil => simp [val_nil]
  | cons x l ih =>
    rw [List.cons_append, val_cons, val_cons, ih, List.length_cons, Nat.pow_succ, Nat.mul_add, Nat.mul_comm (4294967296 ^ l.length) 4294967296, Nat.mul_assoc]
    omega
theorem val_snoc (l : List Nat) (x : Nat) : val (l ++ [x]) = val l + 4294967296 ^ l.length * x := by
  rw [val_append, val_cons, val_nil]; simp
theorem val_zeros (k : Nat) : val (List.replicate k 0) = 0 := by
  induction k with
  | zero => rfl
  | succ k ih => rw [List.replicate_succ, val_cons, ih]
theorem Ok.tail {x : Nat} {l : List Nat} (h : Ok (x :: l)) : Ok l := fun y hy => h y (List.mem_cons_of_mem _ hy)
theorem Ok.head {x : Nat} {l : List Nat} (h : Ok (x :: l)) : x < 4294967296 := h x (List.mem_cons_self ..)
theorem Ok.nil : Ok [] := fun _ h => by cases h
theorem Ok.cons {x : Nat} {l : List Nat} (hx : x < 4294967296) (h : Ok l) : Ok (x :: l) := fun y hy => by
  rcases List.mem_cons.1 hy with rfl | hy
  · exact hx
  · exact h y hy
theorem Ok.snoc {x : Nat} {l : List Nat} (h : Ok l) (hx : x < 4294967296) : Ok (l ++ [x]) := fun y hy => by
  rcases List.mem_append.1 hy with hy | hy
  · exact h y hy
  · rw [List.mem_singleton.1 hy]; exact hx
theorem Ok.take {l : List Nat} (h : Ok l) (k : Nat) : Ok (l.take k) := fun y hy => h y (List.mem_of_mem_take hy)
theorem Ok.getD {l : List Nat} (h : Ok l) (k : Nat) : l.getD k 0 < 4294967296 := by
  rw [List.getD_eq_getElem?_getD]
  by_cases hk : k < l.length
  · rw [List.getElem?_eq_getElem hk]; exact h _ (List.getElem_mem hk)
  · rw [List.getElem?_eq_none (by omega)]; decide
theorem val_lt (l : List Nat) (h : Ok l) : val l < 4294967296 ^ l.length := by
  induction l with
  | nil => simp [val_nil]
  | cons x l ih =>
    have := ih h.tail
    have hx := h.head
    rw [val_cons, List.length_cons, Nat.pow_succ]
    omega
theorem enc_zero : enc 0 = [] := by rw [enc]; rfl
theorem enc_pos {v : Nat} (h : v ≠ 0) : enc v = v % 4294967296 :: enc (v / 4294967296) := by rw [enc, dif_neg h]
theorem val_enc (v : Nat) : val (enc v) = v := by
  induction v using Nat.strongRecOn with
  | ind v ih =>
    by_cases h : v = 0
    · subst h; rw [enc_zero, val_nil]
    · rw [enc_pos h, val_cons, ih _ (by omega)]; omega
theorem ok_enc (v : Nat) : Ok (enc v) := by
  induction v using Nat.strongRecOn with
  | ind v ih =>
    by_cases h : v = 0
    · subst h; rw [enc_zero]; exact Ok.nil
    · rw [enc_pos h]; exact Ok.cons (by omega) (ih _ (by omega))
theorem enc_inj {a b : Nat} (h : enc a = enc b) : a = b := by rw [← val_enc a, h, val_enc]
theorem enc_eq_nil {v : Nat} (h : (enc v).length = 0) : v = 0 := by
  have := congrArg val (List.eq_nil_of_length_eq_zero h)
  rwa [val_enc] at this
/-- the last limb is not 0 -/
def Top (l : List Nat) : Prop := l = [] ∨ l.getD (l.length - 1) 0 ≠ 0
theorem top_enc (v : Nat) : Top (enc v) := by
  induction v using Nat.strongRecOn with
  | ind v ih =>
    by_cases h : v = 0
    · subst h; exact .inl enc_zero
    · refine .inr ?_
      rw [enc_pos h]
      by_cases h2 : v / 4294967296 = 0
      · rw [h2, enc_zero]; simp; omega
      · rcases ih _ (show v / 4294967296 < v by omega) with h3 | h3
        · have := enc_eq_nil (by rw [h3]; rfl : (enc (v / 4294967296)).length = 0); omega
        · have : (enc (v / 4294967296)).length ≠ 0 := fun e => h2 (enc_eq_nil e)
          rw [List.length_cons, Nat.add_sub_cancel]
          obtain ⟨k, hk⟩ : ∃ k, (enc (v / 4294967296)).length = k + 1 := ⟨(enc (v / 4294967296)).length - 1, by omega⟩
          rw [hk] at h3 ⊢
          rw [List.getD_cons_succ]
          exact h3
theorem enc_val (l : List Nat) (h : Ok l) (ht : Top l) : enc (val l) = l := by
  induction l with
  | nil => rw [val_nil, enc_zero]
  | cons x l ih =>
    have hx := h.head
    have ht2 : Top l := by
      rcases ht with ht | ht
      · cases ht
      · by_cases hl : l = []
        · exact .inl hl
        · refine .inr ?_
          have : l.length ≠ 0 := fun e => hl (List.eq_nil_of_length_eq_zero e)
          obtain ⟨k, hk⟩ : ∃ k, l.length = k + 1 := ⟨l.length - 1, by omega⟩
          rw [List.length_cons, Nat.add_sub_cancel, hk, List.getD_cons_succ] at ht
          rw [hk]; exact ht
    have ih2 := ih h.tail ht2
    have hv : x + 4294967296 * val l ≠ 0 := by
      intro e
      have e1 : x = 0 := by omega
      have e2 : val l = 0 := by omega
      rw [e2, enc_zero] at ih2
      subst ih2
      subst e1
      rcases ht with ht | ht
      · cases ht
      · simp at ht
    rw [val_cons, enc_pos hv]
    congr 1
    · omega
    · rw [show (x + 4294967296 * val l) / 4294967296 = val l by omega]; exact ih2
theorem take_snoc (l : List Nat) (k : Nat) (hk : k < l.length) : l.take (k + 1) = l.take k ++ [l.getD k 0] := by
  rw [List.take_add_one, List.getElem?_eq_getElem hk]
  simp [List.getD, hk]
theorem val_take (l : List Nat) (k : Nat) : val (l.take (k + 1)) = val (l.take k) + 4294967296 ^ k * l.getD k 0 := by
  by_cases hk : k < l.length
  · rw [take_snoc l k hk, val_snoc, List.length_take, Nat.min_eq_left (by omega)]
  · rw [List.take_of_length_le (by omega), List.take_of_length_le (by omega), List.getD_eq_getElem?_getD, List.getElem?_eq_none (by omega)]; simp
/-- limbs that are cut behind the last limb that is not 0 -/
theorem enc_cut (l : List Nat) (k : Nat) (h : Ok l) (hk : k ≤ l.length) (hv : val (l.take k) = val l) (ht : k = 0 ∨ l.getD (k - 1) 0 ≠ 0) : enc (val l) = l.take k := by
  rw [← hv]
  refine enc_val _ (h.take k) ?_
  rcases ht with rfl | ht
  · exact .inl rfl
  · by_cases h0 : k = 0
    · subst h0; exact .inl rfl
    refine .inr ?_
    rw [List.length_take, Nat.min_eq_left hk]
    rw [List.getD_eq_getElem?_getD, List.getElem?_take, if_pos (by omega), ← List.getD_eq_getElem?_getD]
    exact ht
theorem length_enc_le (v k : Nat) : (enc v).length ≤ k ↔ v < 4294967296 ^ k := by
  induction k generalizing v with
  | zero =>
    constructor
    · intro h; have := enc_eq_nil (by omega : (enc v).length = 0); omega
    · intro h; obtain rfl : v = 0 := by simpa using h
      rw [enc_zero]; exact Nat.le_refl _
  | succ k ih =>
    by_cases h : v = 0
    · subst h; rw [enc_zero]; simp [Nat.pow_pos]
    · rw [enc_pos h, List.length_cons, Nat.pow_succ]
      have := ih (v / 4294967296)
      rw [Nat.div_lt_iff_lt_mul (by omega)] at this
      omega
/-- one step of a sum: what is added at one limb, and what is carried on -/
theorem step_add {O A B C P x y s : Nat} (h : O + P * C = A + B) (hs : s = x + y + C) : O + P * (s % 4294967296) + P * 4294967296 * (s / 4294967296) = A + P * x + (B + P * y) := by
  have e : P * (s % 4294967296) + P * 4294967296 * (s / 4294967296) = P * s := by
    rw [Nat.mul_assoc, ← Nat.mul_add, Nat.mod_add_div]
  rw [Nat.add_assoc, e, hs, Nat.mul_add, Nat.mul_add]
  omega
/-- one step of a difference -/
theorem step_sub {O A B C P x y s d : Nat} (h : O + B = A + P * C) (hC : C ≤ 1) (hx : x < 4294967296) (hy : y < 4294967296) (hs : s + y + C = x + 4294967296 * d) : O + P * s + (B + P * y) = A + P * x + P * 4294967296 * d := by
  have e : P * s + P * y + P * C = P * x + P * 4294967296 * d := by
    rw [← Nat.mul_add, ← Nat.mul_add, hs, Nat.mul_add, Nat.mul_assoc]
  omega
end Go.Proofs.Ytebbpodcldndjaa
