/- galois: orders: the least exponent, and what dividing out the factors of n - 1 leaves. -/
import Derived.Test.YtjbaleadahefoaaDoorPg
import Derived.Test.YtjbaleadahefoaaDoorWe
set_option linter.unusedVariables false
namespace Go.Proofs.YtjbaleadahefoaaDoor

namespace Grp
variable {N : Nat} {T : Nat → Nat → Nat} (G : Grp N T)
include G
theorem pw_one : ∀ k, pw T 1 k = 1
  | 0 => rfl
  | k + 1 => by show T (pw T 1 k) 1 = 1; rw [pw_one k, G.one G.lt1]
theorem pw_add {a : Nat} (ha : a < N) (m : Nat) : ∀ n, pw T a (m + n) = T (pw T a m) (pw T a n)
  | 0 => (G.one (G.pw_lt ha m)).symm
  | n + 1 => by
    show T (pw T a (m + n)) a = T (pw T a m) (T (pw T a n) a)
    rw [pw_add ha m n, G.assoc (G.pw_lt ha m) (G.pw_lt ha n) ha]
theorem pw_mul {a : Nat} (ha : a < N) (m : Nat) : ∀ n, pw T a (m * n) = pw T (pw T a m) n
  | 0 => rfl
  | n + 1 => by
    show pw T a (m * n + m) = T (pw T (pw T a m) n) (pw T a m)
    rw [G.pw_add ha, pw_mul ha m n]
/-- k is the order of a -/
def IsOrd (_ : Grp N T) (a k : Nat) : Prop := 1 ≤ k ∧ pw T a k = 1 ∧ ∀ j, 1 ≤ j → j < k → pw T a j ≠ 1
theorem ord_ex {a : Nat} (ha : a < N) (h0 : a ≠ 0) : ∃ k, G.IsOrd a k := by
  have hn := G.n2
  have hex : ∃ k, 1 ≤ k ∧ pw T a k = 1 := ⟨N - 1, by omega, G.fermat ha h0⟩
  obtain ⟨k, hk⟩ := hex
  induction k using Nat.strongRecOn with
  | ind k ih =>
    by_cases hj : ∃ j, j < k ∧ 1 ≤ j ∧ pw T a j = 1
    · obtain ⟨j, h1, h2⟩ := hj
      exact ih j h1 h2
    · exact ⟨k, hk.1, hk.2, fun j h1 h2 h3 => hj ⟨j, h2, h1, h3⟩⟩
theorem ord_iff {a k : Nat} (ha : a < N) (h : G.IsOrd a k) (m : Nat) : pw T a m = 1 ↔ k ∣ m := by
  obtain ⟨h1, h2, h3⟩ := h
  have hk : ∀ u, pw T a (k * u) = 1 := fun u => by rw [G.pw_mul ha, h2, G.pw_one]
  constructor
  · intro hm
    have hd := Nat.div_add_mod m k
    have hr : pw T a (m % k) = 1 := by
      rw [← hd, G.pw_add ha, hk, G.one_l (G.pw_lt ha _)] at hm
      exact hm
    have hl : m % k < k := Nat.mod_lt _ (by omega)
    rcases Nat.eq_zero_or_pos (m % k) with h0 | h0
    · exact Nat.dvd_of_mod_eq_zero h0
    · exact absurd hr (h3 _ h0 hl)
  · rintro ⟨u, rfl⟩
    exact hk u
theorem ord_le {a k : Nat} (ha : a < N) (h0 : a ≠ 0) (h : G.IsOrd a k) : k ∣ N - 1 := (G.ord_iff ha h _).1 (G.fermat ha h0)
theorem pw_mod {a : Nat} (ha : a < N) (h0 : a ≠ 0) (e : Nat) : pw T a (e % (N - 1)) = pw T a e := by
  have hd := Nat.div_add_mod e (N - 1)
  have h1 : pw T a ((N - 1) * (e / (N - 1))) = 1 := by rw [G.pw_mul ha, G.fermat ha h0, G.pw_one]
  rw [← hd, G.pw_add ha, h1, G.one_l (G.pw_lt ha _), hd]
end Grp

section
variable {Pw : Nat → Nat} {k : Nat} (hk : ∀ j, Pw j = 1 ↔ k ∣ j) (hk0 : 1 ≤ k)
include hk hk0
theorem inn_inv {p : Nat} (hp : 2 ≤ p) : ∀ f r m, r < 2 ^ f → 1 ≤ r → (∀ q, 2 ≤ q → q < p → ¬ q ∣ r) → (∃ u, m = k * u ∧ u ∣ r) → r ∣ m →
    1 ≤ (inn Pw p f r m).1 ∧ (inn Pw p f r m).1 ≤ r ∧ (∀ q, 2 ≤ q → q < p + 1 → ¬ q ∣ (inn Pw p f r m).1) ∧ (∃ u, (inn Pw p f r m).2 = k * u ∧ u ∣ (inn Pw p f r m).1) ∧ (inn Pw p f r m).1 ∣ (inn Pw p f r m).2
  | 0, r, m, h, h1, _, _, _ => by simp at h; omega
  | f + 1, r, m, h, h1, hq, ⟨u, hm, hu⟩, hrm => by
    by_cases hz : r % p = 0
    · have hd : p * (r / p) = r := Nat.mul_div_cancel' (Nat.dvd_of_mod_eq_zero hz)
      have hpr : p ∣ r := Nat.dvd_of_mod_eq_zero hz
      have hr1 : 1 ≤ r / p := by
        rcases Nat.eq_zero_or_pos (r / p) with h4 | h4
        · rw [h4] at hd; omega
        · exact h4
      have hr2 : r / p ≤ r / 2 := Nat.div_le_div_left hp (by omega)
      have hrf : r / p < 2 ^ f := by rw [Nat.pow_succ] at h; omega
      have hdr : r / p ∣ r := ⟨p, by rw [Nat.mul_comm]; exact hd.symm⟩
      have hq' : ∀ q, 2 ≤ q → q < p → ¬ q ∣ r / p := fun q h2 h3 h4 => hq q h2 h3 (Nat.dvd_trans h4 hdr)
      have hpm : p ∣ m := Nat.dvd_trans hpr hrm
      have hmd : p * (m / p) = m := Nat.mul_div_cancel' hpm
      simp only [inn]
      rw [if_pos hz]
      have key : (∃ v, (if Pw (m / p) = 1 then m / p else m) = k * v ∧ v ∣ r / p) ∧ r / p ∣ (if Pw (m / p) = 1 then m / p else m) := by
        split
        · rename_i h5
          obtain ⟨v, hv⟩ := (hk _).1 h5
          have huv : u = p * v := by
            have : k * u = k * (p * v) := by rw [← hm, ← hmd, hv]; rw [Nat.mul_left_comm]
            exact Nat.eq_of_mul_eq_mul_left (by omega) this
          refine ⟨⟨v, hv, ?_⟩, ?_⟩
          · rw [huv, ← hd] at hu
            exact Nat.dvd_of_mul_dvd_mul_left (by omega) hu
          · rw [← hd, ← hmd] at hrm
            exact Nat.dvd_of_mul_dvd_mul_left (by omega) hrm
        · rename_i h5
          refine ⟨⟨u, hm, ?_⟩, Nat.dvd_trans hdr hrm⟩
          have hpu : ¬ p ∣ u := by
            rintro ⟨v, hv⟩
            apply h5
            rw [hk]
            refine ⟨v, ?_⟩
            have : p * (m / p) = p * (k * v) := by rw [hmd, hm, hv, Nat.mul_left_comm]
            exact Nat.eq_of_mul_eq_mul_left (by omega) this
          have hco : Nat.Coprime u p := by
            have hg1 := Nat.gcd_dvd_left u p
            have hg2 := Nat.gcd_dvd_right u p
            have hgle := Nat.le_of_dvd (by omega) hg2
            have hg0 : 0 < Nat.gcd u p := Nat.gcd_pos_of_pos_right _ (by omega)
            show Nat.gcd u p = 1
            rcases Nat.lt_or_ge (Nat.gcd u p) 2 with h6 | h6
            · omega
            · exfalso
              rcases Nat.lt_or_ge (Nat.gcd u p) p with h7 | h7
              · exact hq _ h6 h7 (Nat.dvd_trans hg2 hpr)
              · have h8 : Nat.gcd u p = p := by omega
                exact hpu (h8 ▸ hg1)
          rw [← hd] at hu
          exact hco.dvd_of_dvd_mul_left hu
      obtain ⟨i1, i2, i3, i4, i5⟩ := inn_inv hp f (r / p) _ hrf hr1 hq' key.1 key.2
      exact ⟨i1, by omega, i3, i4, i5⟩
    · simp only [inn]
      rw [if_neg hz]
      refine ⟨h1, Nat.le_refl _, fun q h2 h3 h4 => ?_, ⟨u, hm, hu⟩, hrm⟩
      rcases Nat.lt_or_ge q p with h5 | h5
      · exact hq q h2 h5 h4
      · obtain rfl : q = p := by omega
        exact hz (Nat.mod_eq_zero_of_dvd h4)
/-- dividing out all factors leaves the order -/
theorem outr_inv : ∀ f r m p, 2 ≤ p → r < 4096 → 1 ≤ r → r + 1 ≤ f + p → (∀ q, 2 ≤ q → q < p → ¬ q ∣ r) → (∃ u, m = k * u ∧ u ∣ r) → r ∣ m → outr Pw f r m p = k := by
  have hend : ∀ f r m p, 1 ≤ r → r ≤ 1 → (∃ u, m = k * u ∧ u ∣ r) → outr Pw f r m p = k := fun f r m p h1 h2 ⟨u, hm, hu⟩ => by
    obtain rfl : r = 1 := by omega
    rw [outr_one Pw f 1 m p (Nat.le_refl _), hm, Nat.dvd_one.1 hu, Nat.mul_one]
  intro f
  induction f with
  | zero =>
    intro r m p hp hr h1 hf hq hu hrm
    rcases Nat.lt_or_ge r 2 with h2 | h2
    · exact hend 0 r m p h1 (by omega) hu
    · exact absurd (Nat.dvd_refl r) (hq r h2 (by omega))
  | succ f ih =>
    intro r m p hp hr h1 hf hq hu hrm
    rcases Nat.lt_or_ge r 2 with h2 | h2
    · exact hend _ r m p h1 (by omega) hu
    · simp only [outr]
      rw [if_neg (by omega)]
      obtain ⟨i1, i2, i3, i4, i5⟩ := inn_inv hk hk0 hp 12 r m (by omega) h1 hq hu hrm
      exact ih _ _ (p + 1) (by omega) (by omega) i1 (by omega) i3 i4 i5
end
/-- the code's order is the order -/
theorem Grp.outr_ord {N : Nat} {T : Nat → Nat → Nat} (G : Grp N T) (hN : N ≤ 4096) {a k : Nat} (ha : a < N) (h0 : a ≠ 0) (h : G.IsOrd a k) {Pw : Nat → Nat} (hP : ∀ j, Pw j = pw T a j) :
    outr Pw 4098 (N - 1) (N - 1) 2 = k := by
  have hn := G.n2
  have hk : ∀ j, Pw j = 1 ↔ k ∣ j := fun j => by rw [hP]; exact G.ord_iff ha h j
  obtain ⟨u, hu⟩ := G.ord_le ha h0 h
  exact outr_inv hk h.1 4098 (N - 1) (N - 1) 2 (by omega) (by omega) (by omega) (by omega) (fun q h1 h2 => by omega) ⟨u, hu, ⟨k, by rw [hu, Nat.mul_comm]⟩⟩ (Nat.dvd_refl _)
end Go.Proofs.YtjbaleadahefoaaDoor
