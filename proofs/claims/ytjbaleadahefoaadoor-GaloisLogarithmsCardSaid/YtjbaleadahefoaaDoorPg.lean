/- galois: what a field is, for both kinds: the laws of rings, and the power n - 1 of what is not 0. -/
import Derived.Test.YtjbaleadahefoaaDoorPf
import Derived.Test.YtjbaleadahefoaaDoorWr
set_option linter.unusedVariables false
set_option linter.unusedSectionVars false
namespace Go.Proofs.YtjbaleadahefoaaDoor

/-- the products of a field with N elements -/
structure Grp (N : Nat) (T : Nat → Nat → Nat) : Prop where
  n2 : 2 ≤ N
  lt : ∀ {a b}, a < N → b < N → T a b < N
  comm : ∀ {a b}, a < N → b < N → T a b = T b a
  assoc : ∀ {a b c}, a < N → b < N → c < N → T (T a b) c = T a (T b c)
  one : ∀ {a}, a < N → T a 1 = a
  zero : ∀ a, T a 0 = 0
  cancel : ∀ {a b c}, a < N → b < N → c < N → a ≠ 0 → T a b = T a c → b = c
/-- and its sums and differences -/
structure Fld (N : Nat) (T P M : Nat → Nat → Nat) : Prop extends Grp N T where
  plt : ∀ {a b}, a < N → b < N → P a b < N
  mlt : ∀ {a b}, a < N → b < N → M a b < N
  pcomm : ∀ {a b}, a < N → b < N → P a b = P b a
  passoc : ∀ {a b c}, a < N → b < N → c < N → P (P a b) c = P a (P b c)
  pzero : ∀ {a}, a < N → P a 0 = a
  distr : ∀ {a b c}, a < N → b < N → c < N → T a (P b c) = P (T a b) (T a c)
  minus : ∀ {a b}, a < N → b < N → P (M a b) b = a
theorem fld_two {p d : Nat} (h : Deg p d) (h1 : 1 ≤ d) (hd : d ≤ 12) (hH : ¬ HasD p d) : Fld (2 ^ d) (tB p) (fun a b => a ^^^ b) (fun a b => a ^^^ b) where
  n2 := by have := Nat.pow_le_pow_right (n := 2) (by omega) h1; omega
  lt := fun ha hb => tB_lt h hd ha hb
  comm := fun ha hb => tB_comm h hd ha hb
  assoc := fun ha hb hc => tB_assoc h hd ha hb hc
  one := fun ha => tB_one h hd ha
  zero := fun a => tB_zero h hd a
  cancel := fun {a b c} ha hb hc h0 he => by
    have h2 : tB p a (b ^^^ c) = 0 := by rw [tB_xor h hd, he, Nat.xor_self]
    rcases Nat.eq_zero_or_pos (b ^^^ c) with h3 | h3
    · exact xor_zero_eq h3
    · exact absurd h2 (tB_nz h hd hH ha (Nat.xor_lt_two_pow hb hc) h0 (by omega))
  plt := fun ha hb => Nat.xor_lt_two_pow ha hb
  mlt := fun ha hb => Nat.xor_lt_two_pow ha hb
  pcomm := fun {a b} _ _ => Nat.xor_comm a b
  passoc := fun {a b c} _ _ _ => Nat.xor_assoc a b c
  pzero := fun _ => Nat.xor_zero _
  distr := fun {a b c} _ _ _ => tB_xor h hd a b c
  minus := fun {a b} _ _ => by show a ^^^ b ^^^ b = a; rw [Nat.xor_assoc, Nat.xor_self, Nat.xor_zero]
theorem cancel_mod {N a b c : Nat} (hN : 2 ≤ N) (hF : ¬ HasF N) (ha : a < N) (hb : b ≤ c) (hc : c < N) (h0 : a ≠ 0) (h : a * b % N = a * c % N) : b = c := by
  have h2 := Nat.sub_mod_eq_zero_of_mod_eq h.symm
  rw [← Nat.mul_sub] at h2
  rcases Nat.eq_zero_or_pos (c - b) with h3 | h3
  · omega
  · exact absurd h2 (tP_nz hN hF ha (by omega) h0 (by omega))
theorem fld_prime {N : Nat} (hN : 2 ≤ N) (hF : ¬ HasF N) : Fld N (fun a b => a * b % N) (fun a b => (a + b) % N) (fun a b => (a + N - b) % N) where
  n2 := hN
  lt := fun _ _ => Nat.mod_lt _ (by omega)
  comm := fun {a b} _ _ => by show a * b % N = b * a % N; rw [Nat.mul_comm]
  assoc := fun {a b c} _ _ _ => by
    show a * b % N * c % N = a * (b * c % N) % N
    rw [Nat.mod_mul_mod, Nat.mul_mod_mod, Nat.mul_assoc]
  one := fun {a} ha => by show a * 1 % N = a; rw [Nat.mul_one, Nat.mod_eq_of_lt ha]
  zero := fun a => by show a * 0 % N = 0; simp
  cancel := fun {a b c} ha hb hc h0 he => by
    rcases Nat.le_total b c with h | h
    · exact cancel_mod hN hF ha h hc h0 he
    · exact (cancel_mod hN hF ha h hb h0 he.symm).symm
  plt := fun _ _ => Nat.mod_lt _ (by omega)
  mlt := fun _ _ => Nat.mod_lt _ (by omega)
  pcomm := fun {a b} _ _ => by show (a + b) % N = (b + a) % N; rw [Nat.add_comm]
  passoc := fun {a b c} _ _ _ => by
    show ((a + b) % N + c) % N = (a + (b + c) % N) % N
    rw [Nat.mod_add_mod, Nat.add_mod_mod, Nat.add_assoc]
  pzero := fun {a} ha => by show (a + 0) % N = a; rw [Nat.add_zero, Nat.mod_eq_of_lt ha]
  distr := fun {a b c} _ _ _ => by
    show a * ((b + c) % N) % N = (a * b % N + a * c % N) % N
    rw [Nat.mul_mod_mod, Nat.mul_add, Nat.add_mod]
  minus := fun {a b} ha hb => by
    show ((a + N - b) % N + b) % N = a
    rw [Nat.mod_add_mod, show a + N - b + b = a + N by omega, Nat.add_mod_right, Nat.mod_eq_of_lt ha]

theorem perm_of_sub : ∀ (l m : List Nat), l.Nodup → (∀ x ∈ l, x ∈ m) → m.length ≤ l.length → l.Perm m
  | [], m, _, _, h => by
    have : m = [] := List.eq_nil_of_length_eq_zero (by simpa using h)
    rw [this]
  | a :: l, m, hn, hs, h => by
    have ha : a ∈ m := hs a (by simp)
    rw [List.nodup_cons] at hn
    have ih := perm_of_sub l (m.erase a) hn.2 (fun x hx => (List.mem_erase_of_ne (by rintro rfl; exact hn.1 hx)).2 (hs x (by simp [hx]))) (by
      rw [List.length_erase_of_mem ha]
      simp at h
      omega)
    exact (ih.cons a).trans (List.perm_cons_erase ha).symm
def pw (T : Nat → Nat → Nat) (a : Nat) : Nat → Nat
  | 0 => 1
  | n + 1 => T (pw T a n) a
namespace Grp
variable {N : Nat} {T : Nat → Nat → Nat} (G : Grp N T)
include G
theorem one_l {a : Nat} (ha : a < N) : T 1 a = a := by rw [G.comm (by have := G.n2; omega) ha, G.one ha]
theorem lt1 : 1 < N := by have := G.n2; omega
theorem nz {a b : Nat} (ha : a < N) (hb : b < N) (ha0 : a ≠ 0) (hb0 : b ≠ 0) : T a b ≠ 0 := fun h =>
  hb0 (G.cancel ha hb (by have := G.n2; omega) ha0 (by rw [h, G.zero]))
theorem mid {a b c d : Nat} (ha : a < N) (hb : b < N) (hc : c < N) (hd : d < N) : T (T a b) (T c d) = T (T a c) (T b d) := by
  rw [G.assoc ha hb (G.lt hc hd), ← G.assoc hb hc hd, G.comm hb hc, G.assoc hc hb hd, ← G.assoc ha hc (G.lt hb hd)]
theorem prod_lt : ∀ l : List Nat, (∀ x ∈ l, x < N) → l.foldr T 1 < N
  | [], _ => by have := G.n2; simp; omega
  | x :: l, h => G.lt (h x (by simp)) (prod_lt l fun y hy => h y (by simp [hy]))
theorem prod_nz : ∀ l : List Nat, (∀ x ∈ l, x < N ∧ x ≠ 0) → l.foldr T 1 ≠ 0
  | [], _ => by simp
  | x :: l, h => G.nz (h x (by simp)).1 (G.prod_lt l fun y hy => (h y (by simp [hy])).1) (h x (by simp)).2 (prod_nz l fun y hy => h y (by simp [hy]))
theorem prod_perm {l m : List Nat} (hp : l.Perm m) : (∀ x ∈ l, x < N) → l.foldr T 1 = m.foldr T 1 := by
  induction hp with
  | nil => intro _; rfl
  | cons x _ ih => intro h; show T x _ = T x _; rw [ih fun y hy => h y (by simp [hy])]
  | swap x y l =>
    intro h
    have hx := h x (by simp)
    have hy := h y (by simp)
    have hl := G.prod_lt l fun z hz => h z (by simp [hz])
    show T y (T x (l.foldr T 1)) = T x (T y (l.foldr T 1))
    rw [← G.assoc hy hx hl, G.comm hy hx, G.assoc hx hy hl]
  | trans h1 _ ih1 ih2 => intro h; rw [ih1 h, ih2 fun x hx => h x (h1.mem_iff.2 hx)]
theorem pw_lt {a : Nat} (ha : a < N) : ∀ k, pw T a k < N
  | 0 => G.lt1
  | k + 1 => G.lt (pw_lt ha k) ha
theorem prod_map {a : Nat} (ha : a < N) : ∀ l : List Nat, (∀ x ∈ l, x < N) → (l.map (T a)).foldr T 1 = T (pw T a l.length) (l.foldr T 1)
  | [], _ => by show 1 = T 1 1; rw [G.one G.lt1]
  | x :: l, h => by
    have hx := h x (by simp)
    have hl : ∀ y ∈ l, y < N := fun y hy => h y (by simp [hy])
    show T (T a x) ((l.map (T a)).foldr T 1) = T (T (pw T a l.length) a) (T x (l.foldr T 1))
    rw [prod_map ha l hl, G.mid ha hx (G.pw_lt ha _) (G.prod_lt l hl), G.comm ha (G.pw_lt ha _)]
/-- Fermat's theorem -/
theorem fermat {a : Nat} (ha : a < N) (h0 : a ≠ 0) : pw T a (N - 1) = 1 := by
  have hn := G.n2
  have hm : ∀ x, x ∈ List.range' 1 (N - 1) ↔ 1 ≤ x ∧ x < N := fun x => by
    rw [List.mem_range'_1]; omega
  have hL : ∀ x ∈ List.range' 1 (N - 1), x < N ∧ x ≠ 0 := fun x hx => by have := (hm x).1 hx; omega
  have hlt : ∀ x ∈ List.range' 1 (N - 1), x < N := fun x hx => (hL x hx).1
  have hnd : ((List.range' 1 (N - 1)).map (T a)).Nodup := by
    rw [List.nodup_iff_pairwise_ne, List.pairwise_map]
    have := List.nodup_iff_pairwise_ne.1 (List.nodup_range' (s := 1) (n := N - 1) (step := 1))
    exact this.imp_of_mem fun hx hy hne he => hne (G.cancel ha (hL _ hx).1 (hL _ hy).1 h0 he)
  have hp := perm_of_sub ((List.range' 1 (N - 1)).map (T a)) (List.range' 1 (N - 1)) hnd (fun y hy => by
    obtain ⟨x, hx, rfl⟩ := List.mem_map.1 hy
    have h1 := G.lt ha (hL x hx).1
    have h2 := G.nz ha (hL x hx).1 h0 (hL x hx).2
    exact (hm _).2 ⟨by omega, h1⟩) (by simp)
  have h1 := G.prod_perm hp.symm hlt
  rw [G.prod_map ha _ hlt, List.length_range'] at h1
  have hq := G.prod_lt _ hlt
  have hq0 := G.prod_nz _ hL
  generalize (List.range' 1 (N - 1)).foldr T 1 = Q at *
  have hpl := G.pw_lt ha (N - 1)
  rw [G.comm hpl hq] at h1
  exact (G.cancel hq G.lt1 hpl hq0 (by rw [G.one hq, ← h1])).symm
theorem inv {a : Nat} (ha : a < N) (h0 : a ≠ 0) : T a (pw T a (N - 2)) = 1 := by
  have h := G.fermat ha h0
  have hn := G.n2
  rw [show N - 1 = N - 2 + 1 by omega] at h
  rw [G.comm ha (G.pw_lt ha _)]
  exact h
theorem pw_sq {a : Nat} (ha : a < N) : ∀ k, pw T (T a a) k = pw T a (2 * k)
  | 0 => rfl
  | k + 1 => by
    show T (pw T (T a a) k) (T a a) = T (T (pw T a (2 * k)) a) a
    rw [pw_sq ha k, ← G.assoc (G.pw_lt ha _) ha ha]
theorem pwr_eq : ∀ f E r a, E < 2 ^ f → r < N → a < N → pwr T f E r a = T r (pw T a E)
  | 0, E, r, a, hE, hr, _ => by
    have : E = 0 := by simp at hE; exact hE
    subst this
    exact (G.one hr).symm
  | f + 1, E, r, a, hE, hr, ha => by
    unfold pwr
    split
    · rename_i h; subst h; exact (G.one hr).symm
    · rw [Nat.pow_succ] at hE
      have h2 : E / 2 < 2 ^ f := by omega
      split
      · rename_i h3
        rw [pwr_eq f _ _ _ h2 (G.lt hr ha) (G.lt ha ha), G.pw_sq ha]
        obtain ⟨k, hk⟩ : ∃ k, E = 2 * k + 1 := ⟨E / 2, by omega⟩
        rw [show E / 2 = k by omega, hk]
        show _ = T r (T (pw T a (2 * k)) a)
        rw [G.assoc hr ha (G.pw_lt ha _), G.comm ha (G.pw_lt ha _)]
      · rw [pwr_eq f _ _ _ h2 hr (G.lt ha ha), G.pw_sq ha, show 2 * (E / 2) = E by omega]
end Grp
/-- both at once -/
theorem fld_of {c n q : Int} (h : VF c n q) : ∃ N T P M, n = ((N : Nat) : Int) ∧ Ops c q N T P M ∧ Fld N T P M := by
  rcases h with ⟨rfl, D, h1, h12, rfl, hq0, hdeg, hH⟩ | ⟨hc, rfl, rfl, h3, h4, hF⟩
  · exact ⟨2 ^ D, _, _, _, rfl, ops_two h1 h12 hq0 hdeg, fld_two hdeg h1 h12 hH⟩
  · obtain ⟨N, rfl⟩ : ∃ N : Nat, c = N := ⟨c.toNat, by omega⟩
    exact ⟨N, _, _, _, rfl, ops_prime hc (by omega) (by omega), fld_prime (by omega) (by simpa using hF)⟩
end Go.Proofs.YtjbaleadahefoaaDoor
