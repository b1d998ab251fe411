/- The plain mathematics of rows of modules and widths. -/
namespace Go.Proofs.Ytjobcobgmajajaa
/-- whether all numbers are widths -/
def okW (l : List Int) : Bool := l.all fun v => decide (1 ≤ v ∧ v ≤ 65536)
theorem okW_take {l : List Int} {k : Nat} (h : k < l.length) : okW (l.take (k + 1)) = (okW (l.take k) && decide (1 ≤ l.getD k 0 ∧ l.getD k 0 ≤ 65536)) := by
  have e : l.take (k + 1) = l.take k ++ [l[k]] := by rw [List.take_add_one, List.getElem?_eq_getElem h]; rfl
  unfold okW
  rw [e, List.all_append]
  congr 1
  simp [List.getD, h]
theorem okW_of_take {l : List Int} {k : Nat} (h : okW (l.take k) = false) : okW l = false := by
  simp only [okW, List.all_eq_false] at *
  obtain ⟨x, hx, h2⟩ := h
  exact ⟨x, List.mem_of_mem_take hx, h2⟩
theorem okW_mem {l : List Int} (h : okW l = true) {x : Int} (hx : x ∈ l) : 1 ≤ x ∧ x ≤ 65536 := by
  have := List.all_eq_true.1 h x hx
  simpa using this
theorem okW_getD {l : List Int} (h : okW l = true) {k : Nat} (hk : k < l.length) : 1 ≤ l.getD k 0 ∧ l.getD k 0 ≤ 65536 := by
  refine okW_mem h ?_
  simp [List.getD, hk]
/-- the sum -/
def sm : List Int → Int
  | [] => 0
  | x :: l => x + sm l
theorem sm_append (l m : List Int) : sm (l ++ m) = sm l + sm m := by
  induction l with
  | nil => simp [sm]
  | cons x l ih => simp [sm, ih]; omega
theorem sm_take {l : List Int} {k : Nat} (h : k < l.length) : sm (l.take (k + 1)) = sm (l.take k) + l.getD k 0 := by
  rw [List.take_add_one, List.getElem?_eq_getElem h, sm_append]
  simp [List.getD, h, sm]
theorem sm_bound {l : List Int} (h : okW l = true) : (l.length : Int) ≤ sm l ∧ sm l ≤ 65536 * l.length := by
  induction l with
  | nil => simp [sm]
  | cons x l ih =>
    have hx := okW_mem h (List.mem_cons_self ..)
    have h2 : okW l = true := by
      simp only [okW, List.all_cons, Bool.and_eq_true] at h
      exact h.2
    have := ih h2
    simp only [sm, List.length_cons]
    omega
theorem okW_take_true {l : List Int} (h : okW l = true) (k : Nat) : okW (l.take k) = true := by
  simp only [okW, List.all_eq_true] at *
  exact fun x hx => h x (List.mem_of_mem_take hx)
/-- the modules of widths, the first of which has the number i -/
def ex (i : Nat) : List Int → List Bool
  | [] => []
  | x :: l => List.replicate x.toNat (decide (i % 2 = 0)) ++ ex (i + 1) l
theorem ex_snoc (i : Nat) (l : List Int) (x : Int) : ex i (l ++ [x]) = ex i l ++ List.replicate x.toNat (decide ((i + l.length) % 2 = 0)) := by
  induction l generalizing i with
  | nil => simp [ex]
  | cons y l ih =>
    simp only [List.cons_append, ex, ih, List.append_assoc, List.length_cons]
    rw [show i + 1 + l.length = i + (l.length + 1) by omega]
theorem ex_take {l : List Int} {k : Nat} (h : k < l.length) : ex 0 (l.take (k + 1)) = ex 0 (l.take k) ++ List.replicate (l.getD k 0).toNat (decide (k % 2 = 0)) := by
  rw [List.take_add_one, List.getElem?_eq_getElem h]
  simp only [Option.toList]
  rw [ex_snoc]
  simp [List.getD, h, Nat.min_eq_left (Nat.le_of_lt h)]
theorem length_ex (i : Nat) (l : List Int) (h : okW l = true) : ((ex i l).length : Int) = sm l := by
  induction l generalizing i with
  | nil => simp [ex, sm]
  | cons x l ih =>
    have hx := okW_mem h (List.mem_cons_self ..)
    have h2 : okW l = true := by
      simp only [okW, List.all_cons, Bool.and_eq_true] at h
      exact h.2
    have := ih (i + 1) h2
    simp only [ex, sm, List.length_append, List.length_replicate]
    omega
/-- what Modules returns -/
def modulesS (l : List Int) : List Bool × Int :=
  if l.length = 0 then ([], 5) else if l.length % 2 = 0 then ([], 7) else if okW l = false then ([], 3) else if 65536 < sm l then ([], 4) else (ex 0 l, 0)
/-- how many modules ahead of the first dark one -/
def lm : List Bool → Nat
  | [] => 0
  | b :: l => if b then 0 else lm l + 1
theorem lm_le (l : List Bool) : lm l ≤ l.length := by
  induction l with
  | nil => simp [lm]
  | cons b l ih => cases b <;> simp [lm] <;> omega
theorem lm_before {l : List Bool} {j : Nat} (h : j < lm l) : l.getD j false = false := by
  induction l generalizing j with
  | nil => simp [lm] at h
  | cons b l ih =>
    cases b with
    | true => simp [lm] at h
    | false =>
      cases j with
      | zero => rfl
      | succ j =>
        simp only [lm] at h
        have := ih (j := j) (by simpa using h)
        simpa using this
theorem lm_at {l : List Bool} (h : lm l < l.length) : l.getD (lm l) false = true := by
  induction l with
  | nil => simp at h
  | cons b l ih =>
    cases b with
    | true => rfl
    | false =>
      simp only [lm, List.length_cons] at h ⊢
      have := ih (by simpa using h)
      simpa using this
theorem lm_eq {l : List Bool} {k : Nat} (hk : k < l.length) (h : ∀ j, j < k → l.getD j false = false) (h1 : l.getD k false = true) : lm l = k := by
  rcases Nat.lt_trichotomy (lm l) k with h2 | h2 | h2
  · have e1 := h _ h2
    rw [lm_at (by omega)] at e1
    cases e1
  · exact h2
  · have e1 := lm_before h2
    rw [h1] at e1
    cases e1
theorem lm_all {l : List Bool} (h : ∀ j, j < l.length → l.getD j false = false) : lm l = l.length := by
  rcases Nat.lt_or_ge (lm l) l.length with h2 | h2
  · have e1 := h _ h2
    rw [lm_at h2] at e1
    cases e1
  · have := lm_le l
    omega
/-- how many modules behind the last dark one -/
def rm (l : List Bool) : Nat := lm l.reverse
theorem getD_rev (l : List Bool) (j : Nat) (h : j < l.length) : l.reverse.getD j false = l.getD (l.length - 1 - j) false := by
  rw [List.getD, List.getElem?_reverse h]
  rfl
theorem rm_le (l : List Bool) : rm l ≤ l.length := by have := lm_le l.reverse; simpa [rm] using this
theorem rm_before {l : List Bool} {j : Nat} (h : j < rm l) : l.getD (l.length - 1 - j) false = false := by
  have h2 := rm_le l
  rw [← getD_rev l j (by omega)]
  exact lm_before h
theorem rm_at {l : List Bool} (h : rm l < l.length) : l.getD (l.length - 1 - rm l) false = true := by
  rw [← getD_rev l _ h]
  exact lm_at (by simpa [rm] using h)
theorem rm_eq {l : List Bool} {k : Nat} (hk : k < l.length) (h : ∀ j, j < k → l.getD (l.length - 1 - j) false = false) (h1 : l.getD (l.length - 1 - k) false = true) : rm l = k := by
  unfold rm
  refine lm_eq (by simpa using hk) (fun j hj => ?_) ?_
  · rw [getD_rev l j (by omega)]; exact h j hj
  · rw [getD_rev l k hk]; exact h1
theorem rm_all {l : List Bool} (h : ∀ j, j < l.length → l.getD (l.length - 1 - j) false = false) : rm l = l.length := by
  unfold rm
  have := lm_all (l := l.reverse) (fun j hj => by
    have hj' : j < l.length := by simpa using hj
    rw [getD_rev l j hj']; exact h j hj')
  simpa using this
theorem lm_rm {l : List Bool} (h : lm l < l.length) : lm l + rm l < l.length := by
  have h1 := lm_at h
  rcases Nat.lt_or_ge (lm l + rm l) l.length with h2 | h2
  · exact h2
  · have := rm_before (l := l) (j := l.length - 1 - lm l) (by omega)
    rw [show l.length - 1 - (l.length - 1 - lm l) = lm l by omega, h1] at this
    cases this
theorem lm_rm_all {l : List Bool} (h : lm l = l.length) : rm l = l.length := by
  refine rm_all fun j hj => lm_before (by omega)
end Go.Proofs.Ytjobcobgmajajaa
