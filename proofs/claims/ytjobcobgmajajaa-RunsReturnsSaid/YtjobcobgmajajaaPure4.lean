/- The code's numbers of modules are those that the specification finds one by one. -/
import Derived.Test.YtjobcobgmajajaaPure3
set_option linter.unusedVariables false
namespace Go.Proofs.Ytjobcobgmajajaa

/-- whether a width gets one of the modules whose cost is L -/
def more (s T L r x : Int) : Prop := 0 < r ∧ shareS s T x (L - 1) < shareS s T x L
instance (s T L r x : Int) : Decidable (more s T L r x) := by unfold more; infer_instance
def divS (s T L : Int) : List Int → Int → List Int
  | [], _ => []
  | x :: l, r => if more s T L r x then (shareS s T x (L - 1) + 1) :: divS s T L l (r - 1) else shareS s T x (L - 1) :: divS s T L l r
def restAt (s T L : Int) : List Int → Int → Int
  | [], r => r
  | x :: l, r => restAt s T L l (if more s T L r x then r - 1 else r)
theorem divS_snoc (s T L : Int) (l : List Int) (x r : Int) : divS s T L (l ++ [x]) r = divS s T L l r ++ [if more s T L (restAt s T L l r) x then shareS s T x (L - 1) + 1 else shareS s T x (L - 1)] := by
  induction l generalizing r with
  | nil =>
    by_cases h : more s T L r x <;> simp [divS, restAt, h]
  | cons y l ih =>
    simp only [List.cons_append, divS, restAt]
    split
    · rw [ih, List.cons_append]
    · rw [ih, List.cons_append]
theorem restAt_snoc (s T L : Int) (l : List Int) (x r : Int) : restAt s T L (l ++ [x]) r = if more s T L (restAt s T L l r) x then restAt s T L l r - 1 else restAt s T L l r := by
  induction l generalizing r with
  | nil =>
    by_cases h : more s T L r x <;> simp [restAt, h]
  | cons y l ih =>
    simp only [List.cons_append, restAt]
    exact ih _
theorem length_divS (s T L : Int) (l : List Int) (r : Int) : (divS s T L l r).length = l.length := by
  induction l generalizing r with
  | nil => rfl
  | cons x l ih => simp only [divS]; split <;> simp [ih]
theorem take_snoc {l : List Int} {k : Nat} (h : k < l.length) : l.take (k + 1) = l.take k ++ [l.getD k 0] := by
  rw [List.take_add_one, List.getElem?_eq_getElem h]
  simp [List.getD, h]
theorem getD_divS (s T L : Int) (l : List Int) (r : Int) (k : Nat) (hk : k < l.length) : (divS s T L l r).getD k 0 = if more s T L (restAt s T L (l.take k) r) (l.getD k 0) then shareS s T (l.getD k 0) (L - 1) + 1 else shareS s T (l.getD k 0) (L - 1) := by
  induction l generalizing r k with
  | nil => simp at hk
  | cons x l ih =>
    cases k with
    | zero => simp only [divS, List.take_zero, restAt, List.getD_cons_zero]; split <;> rfl
    | succ k =>
      simp only [divS, List.take_succ_cons, restAt, List.getD_cons_succ]
      split
      · rw [List.getD_cons_succ, ih _ _ (by simpa using hk)]
      · rw [List.getD_cons_succ, ih _ _ (by simpa using hk)]
theorem restAt_le (s T L : Int) (l : List Int) (r : Int) (i j : Nat) (h : i ≤ j) (hj : j ≤ l.length) : restAt s T L (l.take j) r ≤ restAt s T L (l.take i) r := by
  induction j with
  | zero => obtain rfl : i = 0 := by omega
            exact Int.le_refl _
  | succ j ih =>
    rcases Nat.lt_or_ge j i with h1 | h1
    · obtain rfl : i = j + 1 := by omega
      exact Int.le_refl _
    · have := ih h1 (by omega)
      rw [take_snoc (by omega), restAt_snoc]
      split <;> omega

/-- a width has a module more than m just if that module's cost is at most the limit -/
theorem share_iff {s T x lim m : Int} (hs : 0 < s) (hm : 1 ≤ m) : m + 1 ≤ shareS s T x lim ↔ 2 * (s * m - T * x) + s ≤ lim := by
  have e : (m + 1) * (2 * s) = 2 * (s * m) + 2 * s := by rw [Int.add_mul, Int.mul_left_comm, Int.mul_comm m s]; omega
  have e2 : 2 * T * x = 2 * (T * x) := by rw [Int.mul_assoc]
  have hsm : 0 < s * m := Int.mul_pos hs (by omega)
  unfold shareS
  rw [e2]
  rcases Int.lt_or_le (2 * (T * x) + s + lim) 0 with h | h
  · have h5 := tdiv_nonpos (x := 2 * (T * x) + s + lim) (y := 2 * s) (by omega) (by omega)
    omega
  · rw [Int.tdiv_eq_ediv_of_nonneg h]
    have h1 := Int.le_ediv_iff_mul_le (a := m + 1) (b := 2 * (T * x) + s + lim) (show 0 < 2 * s by omega)
    rw [e] at h1
    omega
theorem share_one (s T x lim : Int) : 1 ≤ shareS s T x lim := Int.le_max_left _ _
theorem share_next {s T x L : Int} (hs : 0 < s) : shareS s T x (L - 1) ≤ shareS s T x L ∧ shareS s T x L ≤ shareS s T x (L - 1) + 1 := by
  have h1 := share_one s T x (L - 1)
  have h2 := share_one s T x L
  generalize hb : shareS s T x (L - 1) = b at *
  generalize ht : shareS s T x L = t at *
  constructor
  · rcases Int.lt_or_le 1 b with h | h
    · have h3 := (share_iff (s := s) (T := T) (x := x) (lim := L - 1) (m := b - 1) hs (by omega)).1 (by omega)
      have h4 := (share_iff (s := s) (T := T) (x := x) (lim := L) (m := b - 1) hs (by omega)).2 (by omega)
      omega
    · omega
  · rcases Int.lt_or_le (b + 1) t with h | h
    · have h3 := (share_iff (s := s) (T := T) (x := x) (lim := L) (m := b + 1) hs (by omega)).1 (by omega)
      have h4 := (share_iff (s := s) (T := T) (x := x) (lim := L - 1) (m := b) hs (by omega)).2 (by rw [Int.mul_add] at h3; omega)
      omega
    · exact h
theorem opt_div {s T L : Int} (hs : 0 < s) (l : List Int) (r : Int) : Opt s T l (divS s T L l r) := by
  refine ⟨length_divS s T L l r, fun i hi => ?_, fun i j hi hj hij h1 => ?_⟩
  · rw [getD_divS s T L l r i hi]
    have := share_one s T (l.getD i 0) (L - 1)
    split <;> omega
  · have hri := getD_divS s T L l r i hi
    have hrj := getD_divS s T L l r j hj
    have ni := share_next (s := s) (T := T) (x := l.getD i 0) (L := L) hs
    have nj := share_next (s := s) (T := T) (x := l.getD j 0) (L := L) hs
    have oj := share_one s T (l.getD j 0) (L - 1)
    have oi := share_one s T (l.getD i 0) (L - 1)
    have hle := restAt_le s T L l r j i
    unfold key
    -- what is taken costs at most L
    have ci : 2 * (s * ((divS s T L l r).getD i 0 - 1) - T * l.getD i 0) + s ≤ (if more s T L (restAt s T L (l.take i) r) (l.getD i 0) then L else L - 1) := by
      split
      · rename_i h
        rw [if_pos h] at hri
        exact (share_iff hs (by omega)).1 (by have := h.2; omega)
      · rename_i h
        rw [if_neg h] at hri
        exact (share_iff hs (by omega)).1 (by omega)
    -- what is not taken costs at least L
    have cj : L ≤ 2 * (s * ((divS s T L l r).getD j 0) - T * l.getD j 0) + s := by
      rcases Int.lt_or_le (2 * (s * ((divS s T L l r).getD j 0) - T * l.getD j 0) + s) L with h | h
      · have h2 := (share_iff (s := s) (T := T) (x := l.getD j 0) (lim := L - 1) (m := (divS s T L l r).getD j 0) hs (by split at hrj <;> omega)).2 (by omega)
        split at hrj <;> omega
      · exact h
    -- a cost of L that is not taken: nothing was left
    have cj2 : 2 * (s * ((divS s T L l r).getD j 0) - T * l.getD j 0) + s = L → restAt s T L (l.take j) r ≤ 0 := by
      intro h
      have h2 := (share_iff (s := s) (T := T) (x := l.getD j 0) (lim := L) (m := (divS s T L l r).getD j 0) hs (by split at hrj <;> omega)).2 (by omega)
      split at hrj
      · omega
      · rename_i h3
        unfold more at h3
        omega
    split at ci
    · rename_i h
      rcases Int.lt_or_le (2 * (s * ((divS s T L l r).getD i 0 - 1) - T * l.getD i 0) + s) L with h4 | h4
      · exact .inl (by omega)
      · rcases Int.lt_or_le L (2 * (s * ((divS s T L l r).getD j 0) - T * l.getD j 0) + s) with h5 | h5
        · exact .inl (by omega)
        · refine .inr ⟨by omega, ?_⟩
          have h6 := cj2 (by omega)
          have h7 := h.1
          rcases Nat.lt_or_ge i j with h8 | h8
          · exact h8
          · have := hle h8 (by omega)
            omega
    · exact .inl (by omega)
theorem needed_cons (s T x : Int) (l : List Int) (lim : Int) : neededS s T (x :: l) lim = shareS s T x lim + neededS s T l lim := rfl
theorem needed_next {s T L : Int} (hs : 0 < s) (l : List Int) : neededS s T l (L - 1) ≤ neededS s T l L := by
  induction l with
  | nil => simp [neededS, sm]
  | cons x l ih =>
    have := (share_next (s := s) (T := T) (x := x) (L := L) hs).1
    rw [needed_cons, needed_cons]
    omega
theorem sm_div {s T L : Int} (hs : 0 < s) (l : List Int) (r : Int) (h0 : 0 ≤ r) (h1 : r ≤ neededS s T l L - neededS s T l (L - 1)) : sm (divS s T L l r) = neededS s T l (L - 1) + r := by
  induction l generalizing r with
  | nil => simp [neededS, sm, divS] at *; omega
  | cons x l ih =>
    have h2 := share_next (s := s) (T := T) (x := x) (L := L) hs
    have h3 := needed_next (T := T) (L := L) hs l
    rw [needed_cons, needed_cons] at h1
    rw [needed_cons, divS]
    split
    · rename_i h
      have h4 := h.1
      have h5 := h.2
      simp only [sm]
      rw [ih (r - 1) (by omega) (by omega)]
      omega
    · rename_i h
      unfold more at h
      simp only [sm]
      rw [ih r (by omega) (by omega)]
      omega
theorem le_sm {l : List Int} (h : okW l = true) {x : Int} (hx : x ∈ l) : x ≤ sm l := by
  induction l with
  | nil => simp at hx
  | cons y l ih =>
    have hy := okW_mem h (List.mem_cons_self ..)
    have h2 : okW l = true := by
      simp only [okW, List.all_cons, Bool.and_eq_true] at h
      exact h.2
    have h3 := sm_bound h2
    simp only [sm]
    rcases List.mem_cons.1 hx with rfl | hx
    · omega
    · have := ih h2 hx
      omega
/-- with the first limit each width has one module -/
theorem needed_first {s T : Int} (hs : 0 < s) (hT : 0 ≤ T) (l : List Int) (h : ∀ x ∈ l, x ≤ s) : neededS s T l (-2 * T * s - 1) = l.length := by
  induction l with
  | nil => rfl
  | cons x l ih =>
    have hx := h x (List.mem_cons_self ..)
    rw [needed_cons, ih (fun y hy => h y (List.mem_cons_of_mem _ hy))]
    have h1 : shareS s T x (-2 * T * s - 1) = 1 := by
      have h2 := share_one s T x (-2 * T * s - 1)
      rcases Int.lt_or_le 1 (shareS s T x (-2 * T * s - 1)) with h3 | h3
      · have h4 := (share_iff (s := s) (T := T) (x := x) (lim := -2 * T * s - 1) (m := 1) hs (by omega)).1 (by omega)
        have h5 := Int.mul_le_mul_of_nonneg_left hx hT
        have h6 : -2 * T * s = -2 * (T * s) := by rw [Int.mul_assoc]
        omega
      · omega
    rw [h1, List.length_cons]
    omega
/-- with the last limit there are enough -/
theorem needed_last {s T : Int} (hs : 0 < s) (hT : 0 ≤ T) (l : List Int) (h : ∀ x ∈ l, 1 ≤ x) : T * sm l ≤ s * neededS s T l s := by
  induction l with
  | nil => simp [neededS, sm]
  | cons x l ih =>
    have hx := h x (List.mem_cons_self ..)
    have h0 := ih (fun y hy => h y (List.mem_cons_of_mem _ hy))
    rw [needed_cons]
    simp only [sm]
    rw [Int.mul_add, Int.mul_add]
    have h1 : T * x ≤ s * shareS s T x s := by
      have h2 := share_one s T x s
      rcases Int.lt_or_le (s * shareS s T x s) (T * x) with h3 | h3
      · have h4 := (share_iff (s := s) (T := T) (x := x) (lim := s) (m := shareS s T x s) hs (by omega)).2 (by omega)
        omega
      · exact h3
    omega
/-- what the search for the limit finds -/
structure Lim (s T : Int) (l : List Int) (L : Int) : Prop where
  low : neededS s T l (L - 1) ≤ T
  high : T ≤ neededS s T l L
theorem lim_of {T : Int} {l : List Int} {r : Nat} (hok : okW l = true) (hl : 0 < l.length) (hT : (l.length : Int) ≤ T)
    (h2 : r = 0 ∨ neededS (sm l) T l (-2 * T * sm l + ((r - 1 : Nat) : Int)) < T) (h3 : (r : Int) = sm l - -2 * T * sm l ∨ T ≤ neededS (sm l) T l (-2 * T * sm l + r)) : Lim (sm l) T l (-2 * T * sm l + r) := by
  have hsb := sm_bound hok
  have hs : 0 < sm l := by omega
  constructor
  · rcases h2 with rfl | h2
    · rw [show -2 * T * sm l + ((0 : Nat) : Int) - 1 = -2 * T * sm l - 1 by omega, needed_first hs (by omega) l (fun x hx => le_sm hok hx)]
      exact hT
    · rcases Nat.eq_zero_or_pos r with h0 | h0
      · subst h0
        rw [show -2 * T * sm l + ((0 : Nat) : Int) - 1 = -2 * T * sm l - 1 by omega, needed_first hs (by omega) l (fun x hx => le_sm hok hx)]
        exact hT
      · rw [show -2 * T * sm l + (r : Int) - 1 = -2 * T * sm l + ((r - 1 : Nat) : Int) by omega]
        omega
  · rcases h3 with h3 | h3
    · rw [show -2 * T * sm l + (r : Int) = sm l by omega]
      have h4 := needed_last (T := T) hs (by omega) l (fun x hx => (okW_mem hok hx).1)
      rw [Int.mul_comm T] at h4
      exact Int.le_of_mul_le_mul_left h4 hs
    · exact h3
theorem div_eq_gr {T L : Int} {l : List Int} (hok : okW l = true) (hl : 0 < l.length) (hT : (l.length : Int) ≤ T) (hL : Lim (sm l) T l L) :
    divS (sm l) T L l (T - neededS (sm l) T l (L - 1)) = gr (sm l) T l (T - l.length).toNat := by
  have hsb := sm_bound hok
  have hs : 0 < sm l := by omega
  have h1 := gr_opt (T := T) hs hl (T - l.length).toNat
  refine opt_unique hs (opt_div hs l _) h1.1 ?_
  have h2 := hL.low
  have h3 := hL.high
  rw [h1.2, sm_div hs l _ (by omega) (by omega)]
  omega
/-- what Quantize returns -/
def quantS (l : List Int) (T : Int) : List Int × Int :=
  if l.length = 0 then ([], 5) else if 65536 < l.length then ([], 4) else if okW l = false ∨ T < l.length ∨ 65536 < T then ([], 3) else (gr (sm l) T l (T - l.length).toNat, 0)
end Go.Proofs.Ytjobcobgmajajaa
