/- The numbers of modules that are as near as possible to the proportions: one state alone has the sum and is so. -/
import Derived.Test.YtjobcobgmajajaaWb
set_option linter.unusedVariables false
namespace Go.Proofs.Ytjobcobgmajajaa

/-- how far a width with r modules lies above its proportion, times s -/
def key (s T : Int) (l : List Int) (i : Nat) (r : Int) : Int := s * r - T * l.getD i 0
theorem key_add (s T : Int) (l : List Int) (i : Nat) (r d : Int) : key s T l i (r + d) = key s T l i r + s * d := by
  simp only [key, Int.mul_add]
  omega
theorem key_mono {s T : Int} {l : List Int} {i : Nat} {r r' : Int} (hs : 0 < s) (h : r ≤ r') : key s T l i r ≤ key s T l i r' := by
  have := Int.mul_le_mul_of_nonneg_left h (show 0 ≤ s by omega)
  simp only [key]
  omega
/-- nothing that is not taken is nearer than what is taken -/
structure Opt (s T : Int) (l o : List Int) : Prop where
  len : o.length = l.length
  one : ∀ i, i < l.length → 1 ≤ o.getD i 0
  best : ∀ i j, i < l.length → j < l.length → i ≠ j → 1 < o.getD i 0 → key s T l i (o.getD i 0 - 1) < key s T l j (o.getD j 0) ∨ (key s T l i (o.getD i 0 - 1) = key s T l j (o.getD j 0) ∧ i < j)
theorem sm_le {a b : List Int} (hl : a.length = b.length) (h : ∀ i, i < a.length → a.getD i 0 ≤ b.getD i 0) : sm a ≤ sm b ∧ (sm a = sm b → a = b) := by
  induction a generalizing b with
  | nil =>
    obtain rfl : b = [] := List.eq_nil_of_length_eq_zero (by simpa using hl.symm)
    simp
  | cons x a ih =>
    match b, hl with
    | y :: b, hl =>
      have h0 : x ≤ y := by simpa using h 0 (by simp)
      have h1 := ih (b := b) (by simpa using hl) (fun i hi => by simpa using h (i + 1) (by simpa using hi))
      simp only [sm]
      refine ⟨by omega, fun e => ?_⟩
      obtain rfl : x = y := by omega
      rw [h1.2 (by omega)]
theorem opt_unique {s T : Int} {l o o' : List Int} (hs : 0 < s) (h : Opt s T l o) (h' : Opt s T l o') (he : sm o = sm o') : o = o' := by
  by_cases h1 : ∀ i, i < l.length → o.getD i 0 ≤ o'.getD i 0
  · exact (sm_le (by rw [h.len, h'.len]) (by rw [h.len]; exact h1)).2 he
  by_cases h2 : ∀ i, i < l.length → o'.getD i 0 ≤ o.getD i 0
  · exact ((sm_le (by rw [h.len, h'.len]) (by rw [h'.len]; exact h2)).2 he.symm).symm
  simp only [Classical.not_forall] at h1 h2
  obtain ⟨i, hi, hio⟩ := h1
  obtain ⟨j, hj, hjo⟩ := h2
  exfalso
  have hij : i ≠ j := by rintro rfl; omega
  have a1 := h.one i hi
  have a2 := h'.one j hj
  have a3 := h'.one i hi
  have a4 := h.one j hj
  have b1 := h.best i j hi hj hij (by omega)
  have b2 := h'.best j i hj hi (Ne.symm hij) (by omega)
  have c1 := key_mono (s := s) (T := T) (l := l) (i := j) hs (show o.getD j 0 ≤ o'.getD j 0 - 1 by omega)
  have c2 := key_mono (s := s) (T := T) (l := l) (i := i) hs (show o'.getD i 0 ≤ o.getD i 0 - 1 by omega)
  omega

/-- the width that needs a module most, of the first k + 1 -/
def bestTo (s T : Int) (l o : List Int) : Nat → Nat
  | 0 => 0
  | k + 1 => if key s T l (k + 1) (o.getD (k + 1) 0) < key s T l (bestTo s T l o k) (o.getD (bestTo s T l o k) 0) then k + 1 else bestTo s T l o k
theorem bestTo_le (s T : Int) (l o : List Int) (k : Nat) : bestTo s T l o k ≤ k := by
  induction k with
  | zero => simp [bestTo]
  | succ k ih => rw [bestTo]; split <;> omega
theorem bestTo_least (s T : Int) (l o : List Int) (k j : Nat) (hj : j ≤ k) :
    key s T l (bestTo s T l o k) (o.getD (bestTo s T l o k) 0) < key s T l j (o.getD j 0) ∨ (key s T l (bestTo s T l o k) (o.getD (bestTo s T l o k) 0) = key s T l j (o.getD j 0) ∧ bestTo s T l o k ≤ j) := by
  induction k generalizing j with
  | zero =>
    obtain rfl : j = 0 := by omega
    exact .inr ⟨rfl, Nat.le_refl _⟩
  | succ k ih =>
    have hb := bestTo_le s T l o k
    rw [bestTo]
    split
    · rename_i h
      rcases Nat.lt_or_ge k j with h1 | h1
      · obtain rfl : j = k + 1 := by omega
        exact .inr ⟨rfl, Nat.le_refl _⟩
      · have := ih j h1
        exact .inl (by omega)
    · rename_i h
      rcases Nat.lt_or_ge k j with h1 | h1
      · obtain rfl : j = k + 1 := by omega
        rcases Int.lt_or_eq_of_le (Int.not_lt.1 h) with h2 | h2
        · exact .inl h2
        · exact .inr ⟨h2, by omega⟩
      · exact ih j h1
/-- one module more -/
def stepS (s T : Int) (l o : List Int) : List Int := o.set (bestTo s T l o (l.length - 1)) (o.getD (bestTo s T l o (l.length - 1)) 0 + 1)
theorem getD_set (o : List Int) (b i : Nat) (v : Int) (hb : b < o.length) : (o.set b v).getD i 0 = if i = b then v else o.getD i 0 := by
  by_cases h : i = b
  · subst h
    simp [List.getD, hb]
  · rw [if_neg h]
    simp only [List.getD, List.getElem?_set_ne (Ne.symm h)]
theorem sm_set (o : List Int) (b : Nat) (v : Int) (hb : b < o.length) : sm (o.set b v) = sm o - o.getD b 0 + v := by
  induction o generalizing b with
  | nil => simp at hb
  | cons x o ih =>
    cases b with
    | zero => simp [sm]; omega
    | succ b =>
      have := ih b (by simpa using hb)
      simp only [List.set_cons_succ, sm, List.getD_cons_succ] at *
      omega
theorem opt_step {s T : Int} {l o : List Int} (hs : 0 < s) (hl : 0 < l.length) (h : Opt s T l o) : Opt s T l (stepS s T l o) ∧ sm (stepS s T l o) = sm o + 1 := by
  have hb := bestTo_le s T l o (l.length - 1)
  have hm := bestTo_least s T l o (l.length - 1)
  have hlen := h.len
  unfold stepS
  generalize bestTo s T l o (l.length - 1) = b at *
  have hbo : b < o.length := by omega
  have hg := fun i => getD_set o b i (o.getD b 0 + 1) hbo
  refine ⟨⟨by rw [List.length_set]; exact hlen, fun i hi => ?_, fun i j hi hj hij h1 => ?_⟩, ?_⟩
  · rw [hg]
    have := h.one i hi
    split
    · rename_i e
      subst e
      omega
    · exact this
  · rw [hg, hg] at *
    by_cases hib : i = b
    · subst hib
      rw [if_pos rfl, if_neg (Ne.symm hij)]
      rw [show o.getD i 0 + 1 - 1 = o.getD i 0 by omega]
      rcases hm j (by omega) with h2 | h2
      · exact .inl h2
      · exact .inr ⟨h2.1, by omega⟩
    · rw [if_neg hib] at h1 ⊢
      by_cases hjb : j = b
      · subst hjb
        rw [if_pos rfl, key_add]
        have := h.best i j hi hj hij h1
        exact .inl (by omega)
      · rw [if_neg hjb]
        exact h.best i j hi hj hij h1
  · rw [sm_set o b _ hbo]
    omega
/-- m modules more than one each -/
def gr (s T : Int) (l : List Int) : Nat → List Int
  | 0 => List.replicate l.length 1
  | m + 1 => stepS s T l (gr s T l m)
theorem sm_ones (n : Nat) : sm (List.replicate n 1) = n := by
  induction n with
  | zero => rfl
  | succ n ih => simp only [List.replicate_succ, sm, ih]; omega
theorem gr_opt {s T : Int} {l : List Int} (hs : 0 < s) (hl : 0 < l.length) (m : Nat) : Opt s T l (gr s T l m) ∧ sm (gr s T l m) = l.length + m := by
  induction m with
  | zero =>
    have hg : ∀ i, i < l.length → (gr s T l 0).getD i 0 = 1 := fun i hi => by simp [gr, List.getD, hi]
    refine ⟨⟨by simp [gr], fun i hi => by rw [hg i hi]; omega, fun i j hi hj hij h1 => ?_⟩, by rw [gr, sm_ones]; omega⟩
    rw [hg i hi] at h1
    omega
  | succ m ih =>
    have := opt_step hs hl ih.1
    refine ⟨this.1, ?_⟩
    rw [gr, this.2, ih.2]
    omega
end Go.Proofs.Ytjobcobgmajajaa
