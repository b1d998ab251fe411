/- Runs and groups of equal modules. -/
import Derived.Test.YtjobcobgmajajaaPure2
set_option linter.unusedVariables false
namespace Go.Proofs.Ytjobcobgmajajaa

theorem take_snocB {l : List Bool} {k : Nat} (h : k < l.length) : l.take (k + 1) = l.take k ++ [l.getD k false] := by
  rw [List.take_add_one, List.getElem?_eq_getElem h]
  simp [List.getD, h]
/-- the modules of runs -/
def flat (p : List (Bool × Nat)) : List Bool := p.flatMap fun x => List.replicate x.2 x.1
theorem flat_snoc (p : List (Bool × Nat)) (x : Bool × Nat) : flat (p ++ [x]) = flat p ++ List.replicate x.2 x.1 := by simp [flat]
theorem cont_eq {l : List Bool} {i : Nat} (h : cont l i = true) : i + 1 < l.length ∧ l.getD (i + 1) false = l.getD i false := by
  unfold cont at h
  simpa using h
theorem cont_no {l : List Bool} {i : Nat} (h : cont l i = false) (hi : i < l.length) : i + 1 = l.length ∨ l.getD (i + 1) false ≠ l.getD i false := by
  unfold cont at h
  by_cases h1 : i + 1 < l.length
  · right
    simpa [h1] using h
  · left
    omega
theorem same_run (l : List Bool) (i : Nat) (hi : i < l.length) : ∀ j, st l i ≤ j → j ≤ i → l.getD j false = l.getD i false := by
  induction i with
  | zero => intro j _ h; obtain rfl : j = 0 := by omega
            rfl
  | succ i ih =>
    intro j h1 h2
    cases hc : cont l i with
    | true =>
      rw [(pr_go hc).2] at h1
      have h3 := (cont_eq hc).2
      rcases Nat.lt_or_ge j (i + 1) with h4 | h4
      · rw [h3]
        exact ih (by omega) j h1 (by omega)
      · obtain rfl : j = i + 1 := by omega
        rfl
    | false =>
      rw [(pr_end hc).2] at h1
      obtain rfl : j = i + 1 := by omega
      rfl
theorem take_run (l : List Bool) (a b : Nat) (x : Bool) (hb : b ≤ l.length) (hab : a ≤ b) (h : ∀ j, a ≤ j → j < b → l.getD j false = x) : l.take b = l.take a ++ List.replicate (b - a) x := by
  induction b with
  | zero => obtain rfl : a = 0 := by omega
            simp
  | succ b ih =>
    rcases Nat.lt_or_ge b a with h1 | h1
    · obtain rfl : a = b + 1 := by omega
      simp
    · rw [take_snocB (by omega), ih (by omega) h1 (fun j h2 h3 => h j h2 (by omega)), h b h1 (by omega), show b + 1 - a = (b - a) + 1 by omega, List.replicate_succ', List.append_assoc]
theorem flat_pr (l : List Bool) (i : Nat) (hi : i ≤ l.length) : flat (pr l i) = l.take (st l i) := by
  induction i with
  | zero => simp [pr, flat, st]
  | succ i ih =>
    cases hc : cont l i with
    | true => rw [(pr_go hc).1, (pr_go hc).2]; exact ih (by omega)
    | false =>
      rw [(pr_end hc).1, (pr_end hc).2, flat_snoc, ih (by omega)]
      have h1 := st_le l i
      exact (take_run l (st l i) (i + 1) (l.getD i false) hi (by omega) (fun j h2 h3 => same_run l i (by omega) j h2 (by omega))).symm
theorem st_end (l : List Bool) : st l l.length = l.length := by
  rcases Nat.eq_zero_or_pos l.length with h | h
  · rw [h]; rfl
  · obtain ⟨m, hm⟩ : ∃ m, l.length = m + 1 := ⟨l.length - 1, by omega⟩
    have hc : cont l m = false := by unfold cont; simp [hm]
    rw [hm]
    exact (pr_end hc).2
theorem flat_prs (l : List Bool) : flat (prs l) = l := by
  rw [prs, flat_pr l _ (Nat.le_refl _), st_end, List.take_length]

/-- whether all runs are multiples of k -/
def good (p : List (Bool × Nat)) (k : Nat) : Bool := p.all fun x => x.2 % k == 0
/-- the modules of runs that are shortened -/
def shr (p : List (Bool × Nat)) (k : Nat) : List Bool := p.flatMap fun x => List.replicate (x.2 / k) x.1
theorem good_snoc (p : List (Bool × Nat)) (x : Bool × Nat) (k : Nat) : good (p ++ [x]) k = (good p k && (x.2 % k == 0)) := by simp [good]
theorem shr_snoc (p : List (Bool × Nat)) (x : Bool × Nat) (k : Nat) : shr (p ++ [x]) k = shr p k ++ List.replicate (x.2 / k) x.1 := by simp [shr]
/-- each module k times -/
def repN (l : List Bool) (k : Nat) : List Bool := l.flatMap fun b => List.replicate k b
theorem repN_append (a b : List Bool) (k : Nat) : repN (a ++ b) k = repN a k ++ repN b k := by simp [repN]
theorem repN_replicate (m k : Nat) (b : Bool) : repN (List.replicate m b) k = List.replicate (m * k) b := by
  induction m with
  | zero => simp [repN]
  | succ m ih =>
    have : repN (List.replicate (m + 1) b) k = List.replicate k b ++ repN (List.replicate m b) k := rfl
    rw [this, ih, List.replicate_append_replicate, Nat.add_mul]
    congr 1
    omega
theorem good_rep {p : List (Bool × Nat)} {k : Nat} (hg : good p k = true) : flat p = repN (shr p k) k := by
  induction p with
  | nil => rfl
  | cons x p ih =>
    have hg2 : x.2 % k = 0 ∧ good p k = true := by simpa [good] using hg
    have e1 : flat (x :: p) = List.replicate x.2 x.1 ++ flat p := rfl
    have e2 : shr (x :: p) k = List.replicate (x.2 / k) x.1 ++ shr p k := rfl
    rw [e1, e2, repN_append, repN_replicate, ← ih hg2.2]
    congr 2
    have := Nat.div_add_mod x.2 k
    rw [hg2.1, Nat.mul_comm] at this
    omega
theorem length_repN (l : List Bool) (k : Nat) : (repN l k).length = l.length * k := by
  induction l with
  | nil => simp [repN]
  | cons b l ih =>
    have : repN (b :: l) k = List.replicate k b ++ repN l k := rfl
    rw [this, List.length_append, List.length_replicate, ih, List.length_cons, Nat.add_mul]
    omega
theorem getD_repN (l : List Bool) (k i : Nat) (hk : 0 < k) : (repN l k).getD i false = l.getD (i / k) false := by
  induction l generalizing i with
  | nil => simp [repN]
  | cons b l ih =>
    have e : repN (b :: l) k = List.replicate k b ++ repN l k := rfl
    rw [e]
    rcases Nat.lt_or_ge i k with h | h
    · rw [Nat.div_eq_of_lt h]
      simp [List.getD, List.getElem?_append_left, h]
    · have h1 : i / k = (i - k) / k + 1 := by
        conv => lhs; rw [show i = (i - k) + k by omega]
        rw [Nat.add_div_right _ hk]
      rw [h1, List.getD_cons_succ, ← ih (i - k)]
      simp only [List.getD]
      rw [List.getElem?_append_right (by simpa using h)]
      simp
/-- the first module of each group -/
def samp (l : List Bool) (k m : Nat) : List Bool := (List.range m).map fun j => l.getD (j * k) false
theorem samp_succ (l : List Bool) (k m : Nat) : samp l k (m + 1) = samp l k m ++ [l.getD (m * k) false] := by simp [samp, List.range_succ]
theorem length_samp (l : List Bool) (k m : Nat) : (samp l k m).length = m := by simp [samp]
/-- whether the modules of each group of k are equal -/
def uni (l : List Bool) (k : Nat) : Prop := ∀ i, i < l.length → l.getD i false = l.getD (i / k * k) false
theorem samp_repN {m : List Bool} {k : Nat} (hk : 0 < k) : samp (repN m k) k m.length = m := by
  apply List.ext_getElem
  · simp [samp]
  · intro i h1 h2
    simp only [samp, List.getElem_map, List.getElem_range]
    rw [getD_repN _ _ _ hk, Nat.mul_div_cancel _ hk]
    simp [List.getD, h2]
theorem uni_repN {m : List Bool} {k : Nat} (hk : 0 < k) : uni (repN m k) k := fun i hi => by
  rw [getD_repN _ _ _ hk, getD_repN _ _ _ hk, Nat.mul_div_cancel _ hk]
theorem succ_div_ne {i k : Nat} (h : (i + 1) / k ≠ i / k) : k ∣ i + 1 := by
  rw [Nat.succ_div] at h
  split at h
  · assumption
  · exact absurd rfl h
theorem uni_good {l : List Bool} {k : Nat} (hk : 0 < k) (hd : k ∣ l.length) (hu : uni l k) (i : Nat) (hi : i ≤ l.length) : k ∣ st l i ∧ good (pr l i) k = true := by
  induction i with
  | zero => exact ⟨⟨0, by simp [st]⟩, rfl⟩
  | succ i ih =>
    have h0 := ih (by omega)
    cases hc : cont l i with
    | true => rw [(pr_go hc).1, (pr_go hc).2]; exact h0
    | false =>
      rw [(pr_end hc).1, (pr_end hc).2]
      have h1 : k ∣ i + 1 := by
        rcases cont_no hc (by omega) with h | h
        · rw [h]; exact hd
        · rcases Nat.lt_or_ge (i + 1) l.length with h2 | h2
          · refine succ_div_ne fun e => h ?_
            rw [hu (i + 1) h2, hu i (by omega), e]
          · rw [show i + 1 = l.length by omega]; exact hd
      refine ⟨h1, ?_⟩
      rw [good_snoc, h0.2]
      have h3 : k ∣ (i + 1 - st l i) := Nat.dvd_sub h1 h0.1
      simpa using Nat.mod_eq_zero_of_dvd h3
/-- all runs are multiples of k just if the modules of each group are equal; then the shortened runs are the groups' first modules -/
theorem good_iff {l : List Bool} {k : Nat} (hk : 0 < k) (hd : k ∣ l.length) : (good (prs l) k = true ↔ uni l k) ∧ (good (prs l) k = true → shr (prs l) k = samp l k (l.length / k)) := by
  have h1 : good (prs l) k = true → l = repN (shr (prs l) k) k := fun h => by
    have := good_rep h
    rwa [flat_prs] at this
  refine ⟨⟨fun h => ?_, fun h => (uni_good hk hd h l.length (Nat.le_refl _)).2⟩, fun h => ?_⟩
  · rw [h1 h]
    exact uni_repN hk
  · have h2 := h1 h
    generalize shr (prs l) k = m at *
    subst h2
    rw [length_repN, Nat.mul_div_cancel _ hk, samp_repN hk]
/-- what Shrink returns -/
def shrinkS (l : List Bool) (k : Int) : List Bool × Int :=
  if k < 1 then ([], 3) else if l.length % k.toNat ≠ 0 then ([], 7) else if good (prs l) k.toNat = true then (shr (prs l) k.toNat, 0) else ([], 9)
end Go.Proofs.Ytjobcobgmajajaa
