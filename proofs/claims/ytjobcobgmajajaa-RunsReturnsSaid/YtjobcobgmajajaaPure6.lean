/- Widths and modules are inverse; widths of a stretched row. -/
import Derived.Test.YtjobcobgmajajaaPure5
set_option linter.unusedVariables false
namespace Go.Proofs.Ytjobcobgmajajaa

/-- the widths of the runs ahead of module i, as numbers -/
def wz (l : List Bool) (i : Nat) : List Int := (pr l i).map fun x => (x.2 : Int)
theorem alt {m : List Bool} (h0 : m.getD 0 false = true) (i : Nat) (hi : i ≤ m.length) : ex 0 (wz m i) = flat (pr m i) ∧ (i < m.length → m.getD (st m i) false = decide ((pr m i).length % 2 = 0)) := by
  induction i with
  | zero => exact ⟨rfl, fun _ => by rw [st, h0]; rfl⟩
  | succ i ih =>
    have h1 := ih (by omega)
    cases hc : cont m i with
    | true =>
      have h2 := pr_go hc
      unfold wz at *
      rw [h2.1, h2.2]
      exact ⟨h1.1, fun _ => h1.2 (by omega)⟩
    | false =>
      have h2 := pr_end hc
      have h3 := same_run m i (by omega) (st m i) (Nat.le_refl _) (st_le m i)
      have h4 := h1.2 (by omega)
      have e1 : wz m (i + 1) = wz m i ++ [((i + 1 - st m i : Nat) : Int)] := by
        unfold wz
        rw [h2.1, List.map_append]
        rfl
      rw [e1, h2.1, h2.2, flat_snoc]
      refine ⟨?_, fun h5 => ?_⟩
      · rw [ex_snoc, h1.1]
        rw [← h3, h4]
        simp [wz]
      · have h6 := cont_no hc (by omega)
        rcases h6 with h6 | h6
        · omega
        · rw [← h3, h4] at h6
          rw [List.length_append, List.length_singleton]
          cases hx : m.getD (i + 1) false
          all_goals
            rw [hx] at h6
            have := (pr m i).length.mod_two_eq_zero_or_one
            rcases this with h7 | h7
            · simp [h7] at h6 <;> simp <;> omega
            · simp [h7] at h6 <;> simp <;> omega
theorem widths_ok (m : List Bool) (i : Nat) : ∀ x ∈ pr m i, 1 ≤ x.2 ∧ x.2 ≤ i := by
  induction i with
  | zero => intro x hx; simp [pr] at hx
  | succ i ih =>
    intro x hx
    cases hc : cont m i with
    | true =>
      rw [(pr_go hc).1] at hx
      have := ih x hx
      omega
    | false =>
      rw [(pr_end hc).1] at hx
      have h1 := st_le m i
      rcases List.mem_append.1 hx with h | h
      · have := ih x h
        omega
      · simp at h
        subst h
        exact ⟨by simp; omega, by simp⟩
theorem modules_of {m : List Bool} (hl : 0 < m.length) (hl2 : m.length ≤ 65536) (h0 : m.getD 0 false = true) (h1 : m.getD (m.length - 1) false = true) : modulesS (wds m) = (m, 0) ∧ (wds m).length % 2 = 1 := by
  have ha := alt h0 m.length (Nat.le_refl _)
  have hw : wds m = wz m m.length := rfl
  have hok : okW (wds m) = true := by
    simp only [okW, List.all_eq_true]
    intro x hx
    obtain ⟨y, hy, rfl⟩ := List.mem_map.1 hx
    have := widths_ok m m.length y hy
    simp
    omega
  have hex : ex 0 (wds m) = m := by rw [hw, ha.1]; exact flat_prs m
  have hsm := length_ex 0 (wds m) hok
  rw [hex] at hsm
  have hodd : (wds m).length % 2 = 1 := by
    obtain ⟨j, hj⟩ : ∃ j, m.length = j + 1 := ⟨m.length - 1, by omega⟩
    have hc : cont m j = false := by unfold cont; simp [hj]
    have hb := (alt h0 j (by omega)).2 (by omega)
    have hr := same_run m j (by omega) (st m j) (Nat.le_refl _) (st_le m j)
    rw [hb] at hr
    rw [show m.length - 1 = j by omega] at h1
    rw [h1] at hr
    have h2 : (pr m j).length % 2 = 0 := by simpa using hr
    rw [hw, hj]
    unfold wz
    rw [(pr_end hc).1]
    simp
    omega
  refine ⟨?_, hodd⟩
  unfold modulesS
  rw [if_neg (by intro h; rw [h] at hodd; omega), if_neg (by omega), if_neg (by rw [hok]; simp), if_neg (by omega), hex]

theorem lm_false (k : Nat) (l : List Bool) : lm (List.replicate k false ++ l) = k + lm l := by
  induction k with
  | zero => simp
  | succ k ih =>
    rw [List.replicate_succ, List.cons_append]
    simp only [lm, ih]
    simp
    omega
theorem lm_repN (l : List Bool) (k : Nat) (hk : 0 < k) : lm (repN l k) = lm l * k := by
  induction l with
  | nil => simp [repN, lm]
  | cons b l ih =>
    have e : repN (b :: l) k = List.replicate k b ++ repN l k := rfl
    rw [e]
    cases b with
    | false =>
      rw [lm_false, ih]
      simp only [lm, Bool.false_eq_true, if_false, Nat.add_mul]
      omega
    | true =>
      obtain ⟨j, rfl⟩ : ∃ j, k = j + 1 := ⟨k - 1, by omega⟩
      simp [List.replicate_succ, lm]
theorem reverse_repN (l : List Bool) (k : Nat) : (repN l k).reverse = repN l.reverse k := by
  induction l with
  | nil => rfl
  | cons b l ih =>
    have e : repN (b :: l) k = List.replicate k b ++ repN l k := rfl
    rw [e, List.reverse_append, ih, List.reverse_cons, repN_append, List.reverse_replicate]
    simp [repN]
theorem rm_repN (l : List Bool) (k : Nat) (hk : 0 < k) : rm (repN l k) = rm l * k := by
  unfold rm
  rw [reverse_repN, lm_repN _ _ hk]
theorem drop_repN (l : List Bool) (k a : Nat) (ha : a ≤ l.length) : (repN l k).drop (a * k) = repN (l.drop a) k := by
  conv => lhs; rw [← List.take_append_drop a l, repN_append]
  rw [List.drop_append_of_le_length (by rw [length_repN, List.length_take, Nat.min_eq_left ha]; omega)]
  rw [List.drop_of_length_le (by rw [length_repN, List.length_take, Nat.min_eq_left ha]; omega)]
  rfl
theorem take_repN (l : List Bool) (k a : Nat) (ha : a ≤ l.length) : (repN l k).take (a * k) = repN (l.take a) k := by
  conv => lhs; rw [← List.take_append_drop a l, repN_append]
  rw [List.take_append_of_le_length (by rw [length_repN, List.length_take, Nat.min_eq_left ha]; omega)]
  rw [List.take_of_length_le (by rw [length_repN, List.length_take, Nat.min_eq_left ha]; omega)]
theorem core_repN {l : List Bool} {k : Nat} (hk : 0 < k) (h : lm l < l.length) : core (repN l k) = repN (core l) k := by
  have h1 := lm_rm h
  unfold core
  rw [lm_repN _ _ hk, rm_repN _ _ hk, length_repN, drop_repN _ _ _ (by omega), ← Nat.sub_mul, ← Nat.sub_mul, take_repN _ _ _ (by rw [List.length_drop]; omega)]
/-- the runs of a stretched row -/
theorem pr_repN {m : List Bool} {k : Nat} (hk : 0 < k) (i : Nat) (hi : i ≤ m.length) : pr (repN m k) (i * k) = (pr m i).map (fun x => (x.1, x.2 * k)) ∧ st (repN m k) (i * k) = st m i * k := by
  induction i with
  | zero => simp [pr, st]
  | succ i ih =>
    have h1 := ih (by omega)
    have hg : ∀ r, r < k → (repN m k).getD (i * k + r) false = m.getD i false := fun r hr => by
      rw [getD_repN _ _ _ hk, Nat.mul_comm, Nat.mul_add_div hk, Nat.div_eq_of_lt hr, Nat.add_zero]
    have hb : i * k + k ≤ m.length * k := by rw [← Nat.succ_mul]; exact Nat.mul_le_mul_right k hi
    have hin : ∀ r, r < k → pr (repN m k) (i * k + r) = pr (repN m k) (i * k) ∧ st (repN m k) (i * k + r) = st (repN m k) (i * k) := by
      intro r
      induction r with
      | zero => intro _; exact ⟨rfl, rfl⟩
      | succ r ih2 =>
        intro hr
        have h2 := ih2 (by omega)
        have hc : cont (repN m k) (i * k + r) = true := by
          unfold cont
          rw [length_repN, show i * k + r + 1 = i * k + (r + 1) by omega, hg (r + 1) hr, hg r (by omega)]
          simp
          omega
        have h3 := pr_go hc
        rw [show i * k + (r + 1) = i * k + r + 1 by omega, h3.1, h3.2]
        exact h2
    have h2 := hin (k - 1) (by omega)
    have hc : cont (repN m k) (i * k + (k - 1)) = cont m i := by
      unfold cont
      rw [length_repN, show i * k + (k - 1) + 1 = (i + 1) * k by rw [Nat.succ_mul]; omega, hg (k - 1) (by omega)]
      rw [getD_repN _ _ _ hk, Nat.mul_div_cancel _ hk]
      congr 1
      rw [Bool.eq_iff_iff]
      simp only [decide_eq_true_eq]
      exact ⟨fun h => Nat.lt_of_mul_lt_mul_right h, fun h => Nat.mul_lt_mul_of_pos_right h hk⟩
    have he : (i + 1) * k = i * k + (k - 1) + 1 := by rw [Nat.succ_mul]; omega
    rw [he]
    cases hcm : cont m i with
    | true =>
      rw [hcm] at hc
      rw [(pr_go hc).1, (pr_go hc).2, h2.1, h2.2, h1.1, h1.2, (pr_go hcm).1, (pr_go hcm).2]
      exact ⟨rfl, rfl⟩
    | false =>
      rw [hcm] at hc
      rw [(pr_end hc).1, (pr_end hc).2, h2.1, h2.2, h1.1, h1.2, (pr_end hcm).1, (pr_end hcm).2, hg (k - 1) (by omega), List.map_append, ← he]
      refine ⟨?_, rfl⟩
      rw [← Nat.sub_mul]
      rfl
theorem wds_repN {m : List Bool} {k : Nat} (hk : 0 < k) : wds (repN m k) = (wds m).map fun x => (k : Int) * x := by
  unfold wds prs
  rw [length_repN, (pr_repN hk m.length (Nat.le_refl _)).1]
  simp only [List.map_map]
  refine List.map_congr_left fun x _ => ?_
  simp [Int.mul_comm]
theorem widthsS_repN {l : List Bool} {k : Nat} (hk : 0 < k) : widthsS (repN l k) = (widthsS l).map fun x => (k : Int) * x := by
  unfold widthsS
  rw [lm_repN _ _ hk, length_repN]
  by_cases h : lm l = l.length
  · rw [if_pos (by rw [h]), if_pos h]
    rfl
  · have h1 := lm_le l
    rw [if_neg (fun e => h (Nat.eq_of_mul_eq_mul_right hk e)), if_neg h, core_repN hk (by omega), wds_repN hk]
end Go.Proofs.Ytjobcobgmajajaa
