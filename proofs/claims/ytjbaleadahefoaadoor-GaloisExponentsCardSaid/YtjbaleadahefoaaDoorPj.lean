/- galois: every field has a generator. -/
import Derived.Test.YtjbaleadahefoaaDoorPi
set_option linter.unusedVariables false
set_option linter.unusedSectionVars false
namespace Go.Proofs.YtjbaleadahefoaaDoor

namespace Fld
variable {N : Nat} {T P M : Nat → Nat → Nat} (F : Fld N T P M)
include F
theorem ev_pow {x : Nat} (hx : x < N) : ∀ k, ev T P x (List.replicate k 0 ++ [1]) = pw T x k
  | 0 => by show P 1 (T x 0) = 1; rw [F.zero, F.pzero F.toGrp.lt1]
  | k + 1 => by
    show P 0 (T x (ev T P x (List.replicate k 0 ++ [1]))) = T (pw T x k) x
    have h := F.toGrp.pw_lt hx k
    rw [ev_pow hx k, F.pcomm F.zero_lt (F.lt hx h), F.pzero (F.lt hx h), F.comm hx h]
/-- some power of a lesser exponent is not 1 -/
theorem some_pow {e : Nat} (h1 : 1 ≤ e) (h2 : e < N - 1) : ∃ x, x < N ∧ x ≠ 0 ∧ pw T x e ≠ 1 := by
  by_cases h : ∃ x, x < N ∧ x ≠ 0 ∧ pw T x e ≠ 1
  · exact h
  · exfalso
    have hall : ∀ x, x < N → x ≠ 0 → pw T x e = 1 := fun x hx h0 => by
      by_cases h3 : pw T x e = 1
      · exact h3
      · exact absurd ⟨x, hx, h0, h3⟩ h
    obtain ⟨k, rfl⟩ : ∃ k, e = k + 1 := ⟨e - 1, by omega⟩
    have h01 := F.mlt F.zero_lt F.toGrp.lt1
    have hr := F.roots (k + 1) (M 0 1 :: (List.replicate k 0 ++ [1])) (List.range' 1 (N - 1)) (by simp) (by simp [List.getLast?_cons]) (fun c hc => by
      simp only [List.mem_cons, List.mem_append, List.mem_replicate, List.not_mem_nil, or_false] at hc
      rcases hc with rfl | ⟨_, rfl⟩ | rfl
      · exact h01
      · exact F.zero_lt
      · exact F.toGrp.lt1) (List.nodup_range' (s := 1) (n := N - 1) (step := 1)) (fun x hx => by
      rw [List.mem_range'_1] at hx
      have hxN : x < N := by omega
      refine ⟨hxN, ?_⟩
      show P (M 0 1) (T x (ev T P x (List.replicate k 0 ++ [1]))) = 0
      rw [F.ev_pow hxN, F.comm hxN (F.toGrp.pw_lt hxN k)]
      have h3 : T (pw T x k) x = 1 := hall x hxN (by omega)
      rw [h3, F.minus F.zero_lt F.toGrp.lt1])
    rw [List.length_range'] at hr
    omega
end Fld
namespace Grp
variable {N : Nat} {T : Nat → Nat → Nat} (G : Grp N T)
include G
theorem pw_T {a b : Nat} (ha : a < N) (hb : b < N) : ∀ k, pw T (T a b) k = T (pw T a k) (pw T b k)
  | 0 => by show 1 = T 1 1; rw [G.one G.lt1]
  | k + 1 => by
    show T (pw T (T a b) k) (T a b) = T (T (pw T a k) a) (T (pw T b k) b)
    rw [pw_T ha hb k, G.mid (G.pw_lt ha k) (G.pw_lt hb k) ha hb]
theorem half {a b m n j : Nat} (ha : a < N) (hb : b < N) (h1 : G.IsOrd a m) (h2 : G.IsOrd b n) (hc : Nat.Coprime m n) (hj : pw T (T a b) j = 1) : m ∣ j := by
  have h3 : pw T (T a b) (j * n) = 1 := by rw [G.pw_mul (G.lt ha hb), hj, G.pw_one]
  have h4 : pw T b (j * n) = 1 := (G.ord_iff hb h2 _).2 ⟨j, Nat.mul_comm _ _⟩
  rw [G.pw_T ha hb, h4, G.one (G.pw_lt ha _)] at h3
  exact hc.dvd_of_dvd_mul_right ((G.ord_iff ha h1 _).1 h3)
theorem ord_mul {a b m n : Nat} (ha : a < N) (hb : b < N) (h1 : G.IsOrd a m) (h2 : G.IsOrd b n) (hc : Nat.Coprime m n) : G.IsOrd (T a b) (m * n) := by
  have hm := h1.1
  have hn := h2.1
  refine ⟨Nat.mul_pos hm hn, ?_, fun j hj1 hj2 hj => ?_⟩
  · rw [G.pw_T ha hb, (G.ord_iff ha h1 _).2 ⟨n, rfl⟩, (G.ord_iff hb h2 _).2 ⟨m, Nat.mul_comm _ _⟩, G.one G.lt1]
  · have h3 := G.half ha hb h1 h2 hc hj
    have h4 := G.half hb ha h2 h1 hc.symm (by rw [G.comm hb ha]; exact hj)
    have := Nat.le_of_dvd (by omega) (hc.mul_dvd_of_dvd_of_dvd h3 h4)
    omega
end Grp
theorem pow_div {q k f : Nat} (hq : 2 ≤ q) (hp : ∀ t, 2 ≤ t → t < q → ¬ t ∣ q) (h : k ∣ q ^ (f + 1)) (hn : ¬ k ∣ q ^ f) : k = q ^ (f + 1) := by
  obtain ⟨u, hu⟩ := h
  by_cases hqu : q ∣ u
  · obtain ⟨v, rfl⟩ := hqu
    exfalso
    apply hn
    refine ⟨v, ?_⟩
    rw [Nat.pow_succ, Nat.mul_left_comm, Nat.mul_comm] at hu
    exact Nat.eq_of_mul_eq_mul_left (by omega) hu
  · have hco : Nat.Coprime u q := by
      have hg1 := Nat.gcd_dvd_left u q
      have hg2 := Nat.gcd_dvd_right u q
      have hgle := Nat.le_of_dvd (by omega) hg2
      have hg0 : 0 < Nat.gcd u q := Nat.gcd_pos_of_pos_right _ (by omega)
      show Nat.gcd u q = 1
      rcases Nat.lt_or_ge (Nat.gcd u q) 2 with h6 | h6
      · omega
      · exfalso
        rcases Nat.lt_or_ge (Nat.gcd u q) q with h7 | h7
        · exact hp _ h6 h7 hg2
        · have h8 : Nat.gcd u q = q := by omega
          exact hqu (h8 ▸ hg1)
    have h2 : Nat.Coprime u (q ^ (f + 1)) := Nat.Coprime.pow_right _ hco
    have h3 : u ∣ q ^ (f + 1) := ⟨k, by rw [hu, Nat.mul_comm]⟩
    have h4 : u = 1 := Nat.Coprime.eq_one_of_dvd h2 h3
    rw [hu, h4, Nat.mul_one]
/-- the least factor, with its power -/
theorem least_factor {W : Nat} (h : 2 ≤ W) : ∃ q, 2 ≤ q ∧ q ∣ W ∧ ∀ t, 2 ≤ t → t < q → ¬ t ∣ W := by
  obtain ⟨m, hm⟩ : ∃ m, 2 ≤ m ∧ m ∣ W := ⟨W, h, Nat.dvd_refl W⟩
  induction m using Nat.strongRecOn with
  | ind m ih =>
    by_cases hk : ∃ k, k < m ∧ 2 ≤ k ∧ k ∣ W
    · obtain ⟨k, hk, hk'⟩ := hk
      exact ih k hk hk'
    · exact ⟨m, hm.1, hm.2, fun t h1 h2 h3 => hk ⟨t, h2, h1, h3⟩⟩
theorem split_pow {q : Nat} (hq : 2 ≤ q) : ∀ W, 1 ≤ W → ∃ f V, W = q ^ f * V ∧ ¬ q ∣ V := by
  intro W
  induction W using Nat.strongRecOn with
  | ind W ih =>
    intro hW
    by_cases h : q ∣ W
    · obtain ⟨U, rfl⟩ := h
      have hU : 1 ≤ U := by
        rcases Nat.eq_zero_or_pos U with h0 | h0
        · subst h0; simp at hW
        · exact h0
      have hlt : U < q * U := by have := Nat.mul_le_mul_right U hq; omega
      obtain ⟨f, V, h1, h2⟩ := ih U hlt hU
      exact ⟨f + 1, V, by rw [h1, Nat.pow_succ]; ac_rfl, h2⟩
    · exact ⟨0, W, by simp, h⟩
theorem Fld.generator {N : Nat} {T P M : Nat → Nat → Nat} (F : Fld N T P M) : ∀ W U, U * W = N - 1 → Nat.Coprime U W → (∃ a, a < N ∧ a ≠ 0 ∧ F.toGrp.IsOrd a U) → ∃ g, g < N ∧ g ≠ 0 ∧ F.toGrp.IsOrd g (N - 1) := by
  intro W
  have hN := F.n2
  induction W using Nat.strongRecOn with
  | ind W ih =>
    intro U hUW hc ⟨a, ha, ha0, hA⟩
    have hW0 : 1 ≤ W := by
      rcases Nat.eq_zero_or_pos W with h0 | h0
      · subst h0; simp at hUW; omega
      · exact h0
    rcases Nat.lt_or_ge W 2 with h1 | h1
    · obtain rfl : W = 1 := by omega
      rw [Nat.mul_one] at hUW
      exact ⟨a, ha, ha0, hUW ▸ hA⟩
    · obtain ⟨q, hq, hqW, hqm⟩ := least_factor h1
      have hqp : ∀ t, 2 ≤ t → t < q → ¬ t ∣ q := fun t h2 h3 h4 => hqm t h2 h3 (Nat.dvd_trans h4 hqW)
      obtain ⟨f, V, hV, hqV⟩ := split_pow hq W hW0
      obtain ⟨f', rfl⟩ : ∃ f', f = f' + 1 := by
        cases f with
        | zero => simp at hV; subst hV; exact absurd hqW hqV
        | succ f' => exact ⟨f', rfl⟩
      have hN1 : N - 1 = q * (q ^ f' * (U * V)) := by rw [← hUW, hV, Nat.pow_succ]; ac_rfl
      have he0 : 1 ≤ q ^ f' * (U * V) := by
        rcases Nat.eq_zero_or_pos (q ^ f' * (U * V)) with h0 | h0
        · rw [h0] at hN1; omega
        · exact h0
      have he1 : q ^ f' * (U * V) < N - 1 := by
        rw [hN1]; have := Nat.mul_le_mul_right (q ^ f' * (U * V)) hq; omega
      obtain ⟨x, hx, hx0, hxp⟩ := F.some_pow he0 he1
      have hb := F.toGrp.pw_lt hx (U * V)
      have hbf : pw T (pw T x (U * V)) (q ^ (f' + 1)) = 1 := by
        rw [← F.toGrp.pw_mul hx, show U * V * q ^ (f' + 1) = N - 1 by rw [hN1, Nat.pow_succ]; ac_rfl]
        exact F.toGrp.fermat hx hx0
      have hbn : pw T (pw T x (U * V)) (q ^ f') ≠ 1 := by
        rw [← F.toGrp.pw_mul hx, Nat.mul_comm (U * V)]
        exact hxp
      have hb0 : pw T x (U * V) ≠ 0 := fun h0 => by
        rw [h0] at hbf
        obtain ⟨z, hz⟩ : ∃ z, q ^ (f' + 1) = z + 1 := ⟨q ^ (f' + 1) - 1, by have := Nat.pow_pos (n := f' + 1) (show 0 < q by omega); omega⟩
        rw [hz] at hbf
        have h3 : T (pw T 0 z) 0 = 1 := hbf
        rw [F.zero] at h3
        omega
      obtain ⟨k, hk⟩ := F.toGrp.ord_ex hb hb0
      have hkq : k = q ^ (f' + 1) := pow_div hq hqp ((F.toGrp.ord_iff hb hk _).1 hbf) (fun h => hbn ((F.toGrp.ord_iff hb hk _).2 h))
      subst hkq
      have hUq : Nat.Coprime U (q ^ (f' + 1)) := Nat.Coprime.coprime_dvd_right ⟨V, hV⟩ hc
      have hUV : Nat.Coprime U V := Nat.Coprime.coprime_dvd_right ⟨q ^ (f' + 1), by rw [hV, Nat.mul_comm]⟩ hc
      have hqVc : Nat.Coprime q V := by
        have hg1 := Nat.gcd_dvd_left q V
        have hg2 := Nat.gcd_dvd_right q V
        have hgle := Nat.le_of_dvd (by omega) hg1
        have hg0 : 0 < Nat.gcd q V := Nat.gcd_pos_of_pos_left _ (by omega)
        show Nat.gcd q V = 1
        rcases Nat.lt_or_ge (Nat.gcd q V) 2 with h6 | h6
        · omega
        · exfalso
          rcases Nat.lt_or_ge (Nat.gcd q V) q with h7 | h7
          · exact hqp _ h6 h7 hg1
          · have h8 : Nat.gcd q V = q := by omega
            exact hqV (h8 ▸ hg2)
      have hV0 : 1 ≤ V := by
        rcases Nat.eq_zero_or_pos V with h0 | h0
        · subst h0; exact absurd (Nat.dvd_zero q) hqV
        · exact h0
      have hVW : V < W := by
        rw [hV]
        have h5 : 2 ≤ q ^ (f' + 1) := by
          have := Nat.pow_le_pow_right (n := q) (by omega) (show 1 ≤ f' + 1 by omega)
          rw [Nat.pow_one] at this
          omega
        have := Nat.mul_le_mul_right V h5
        omega
      refine ih V hVW (U * q ^ (f' + 1)) (by rw [← hUW, hV]; ac_rfl) (Nat.Coprime.mul_left hUV (Nat.Coprime.pow_left _ hqVc)) ⟨T a (pw T x (U * V)), F.lt ha hb, F.toGrp.nz ha hb ha0 hb0, F.toGrp.ord_mul ha hb hA hk hUq⟩
theorem Fld.cyclic {N : Nat} {T P M : Nat → Nat → Nat} (F : Fld N T P M) : ∃ g, g < N ∧ g ≠ 0 ∧ F.toGrp.IsOrd g (N - 1) := by
  refine F.generator (N - 1) 1 (by omega) (Nat.coprime_one_left _) ⟨1, F.toGrp.lt1, by omega, ⟨Nat.le_refl 1, ?_, fun j h1 h2 => by omega⟩⟩
  exact F.toGrp.pw_one 1
end Go.Proofs.YtjbaleadahefoaaDoor
