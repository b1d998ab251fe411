/- galois: logarithms: the powers of a generator are all elements but 0. -/
import Derived.Test.YtjbaleadahefoaaDoorWz
set_option linter.unusedVariables false
set_option linter.unusedSectionVars false
namespace Go.Proofs.YtjbaleadahefoaaDoor

namespace Grp
variable {N : Nat} {T : Nat → Nat → Nat} (G : Grp N T)
include G
theorem pw_nz {a : Nat} (ha : a < N) (h0 : a ≠ 0) : ∀ k, pw T a k ≠ 0
  | 0 => by show 1 ≠ 0; omega
  | k + 1 => G.nz (G.pw_lt ha k) ha (pw_nz ha h0 k) h0
theorem pw_inj_le {g m i j : Nat} (hg : g < N) (h0 : g ≠ 0) (h : G.IsOrd g m) (hij : i ≤ j) (hj : j < m) (he : pw T g i = pw T g j) : i = j := by
  obtain ⟨d, rfl⟩ : ∃ d, j = i + d := ⟨j - i, by omega⟩
  rw [G.pw_add hg] at he
  have h1 : pw T g d = 1 := by
    refine (G.cancel (G.pw_lt hg i) G.lt1 (G.pw_lt hg d) (G.pw_nz hg h0 i) ?_).symm
    rw [G.one (G.pw_lt hg i)]
    exact he
  rcases Nat.eq_zero_or_pos d with h3 | h3
  · omega
  · exact absurd h1 (h.2.2 d h3 (by omega))
theorem pw_inj {g m i j : Nat} (hg : g < N) (h0 : g ≠ 0) (h : G.IsOrd g m) (hi : i < m) (hj : j < m) (he : pw T g i = pw T g j) : i = j := by
  rcases Nat.le_total i j with h1 | h1
  · exact G.pw_inj_le hg h0 h h1 hj he
  · exact (G.pw_inj_le hg h0 h h1 hi he.symm).symm
theorem log_ex {g a : Nat} (hg : g < N) (h0 : g ≠ 0) (h : G.IsOrd g (N - 1)) (ha : a < N) (ha0 : a ≠ 0) : ∃ n, n < N - 1 ∧ pw T g n = a := by
  have hn := G.n2
  have hp := perm_of_sub ((List.range (N - 1)).map (pw T g)) (List.range' 1 (N - 1)) (by
    rw [List.nodup_iff_pairwise_ne, List.pairwise_map, List.pairwise_iff_getElem]
    intro i j hi hj hij he
    simp only [List.length_range] at hi hj
    simp only [List.getElem_range] at he
    have := G.pw_inj hg h0 h hi hj he
    omega) (fun x hx => by
    rw [List.mem_map] at hx
    obtain ⟨k, _, rfl⟩ := hx
    have h1 := G.pw_lt hg k
    have h2 := G.pw_nz hg h0 k
    rw [List.mem_range'_1]
    omega) (by simp)
  have hm : a ∈ (List.range (N - 1)).map (pw T g) := (hp.mem_iff).2 (by rw [List.mem_range'_1]; omega)
  rw [List.mem_map] at hm
  obtain ⟨n, h1, h2⟩ := hm
  exact ⟨n, List.mem_range.1 h1, h2⟩
theorem giant {g b L : Nat} (hg : g < N) (hb : b < N) (h : T (pw T g L) b = 1) (n : Nat) : ∀ s, s * L ≤ n → T (pw T g n) (pw T b s) = pw T g (n - s * L) := by
  intro s hs
  obtain ⟨r, rfl⟩ : ∃ r, n = r + s * L := ⟨n - s * L, by omega⟩
  rw [Nat.add_sub_cancel, G.pw_add hg, G.assoc (G.pw_lt hg _) (G.pw_lt hg _) (G.pw_lt hb _), Nat.mul_comm s L, G.pw_mul hg, ← G.pw_T (G.pw_lt hg L) hb, h, G.pw_one, G.one (G.pw_lt hg _)]
end Grp
theorem root_ex (m : Nat) (h : 1 ≤ m) (h2 : m ≤ 4095) : ∃ L, 1 ≤ L ∧ L ≤ 64 ∧ m ≤ L * L ∧ (∀ k, k < L → k * k < m) ∧ L ≤ m := by
  obtain ⟨L, h3, h4⟩ : ∃ L, m ≤ L * L ∧ ∀ k, k < L → ¬ m ≤ k * k := by
    have hex : ∃ L, m ≤ L * L := ⟨m, by have := Nat.mul_le_mul_right m h; omega⟩
    obtain ⟨L, hL⟩ := hex
    induction L using Nat.strongRecOn with
    | ind L ih =>
      by_cases hk : ∃ k, k < L ∧ m ≤ k * k
      · obtain ⟨k, h5, h6⟩ := hk
        exact ih k h5 h6
      · exact ⟨L, hL, fun k h5 h6 => hk ⟨k, h5, h6⟩⟩
  refine ⟨L, ?_, ?_, h3, fun k hk => by have := h4 k hk; omega, ?_⟩
  · rcases Nat.eq_zero_or_pos L with h5 | h5
    · subst h5; omega
    · exact h5
  · rcases Nat.lt_or_ge 64 L with h5 | h5
    · exact absurd (by omega) (h4 64 h5)
    · exact h5
  · rcases Nat.lt_or_ge m L with h5 | h5
    · exact absurd (by have := Nat.mul_le_mul_right m h; omega) (h4 m h5)
    · exact h5
end Go.Proofs.YtjbaleadahefoaaDoor
