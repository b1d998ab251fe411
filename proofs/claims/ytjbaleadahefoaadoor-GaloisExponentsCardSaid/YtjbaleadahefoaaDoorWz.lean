/- galois: the generator on both sides; the pairs of Pow and Exp; law GaloisPowers, the walk. -/
import Derived.Test.YtjbaleadahefoaaDoorWy
import Derived.Test.YtjbaleadahefoaaDoorWs
set_option linter.unusedVariables false
namespace Go.Proofs.YtjbaleadahefoaaDoor
open Go.RowKit

/-- the order of v -/
noncomputable def ordOf {N : Nat} {T : Nat → Nat → Nat} (G : Grp N T) (v : Nat) : Nat :=
  open Classical in if h : v < N ∧ v ≠ 0 then Classical.choose (G.ord_ex h.1 h.2) else 0
theorem ordOf_is {N : Nat} {T : Nat → Nat → Nat} (G : Grp N T) {v : Nat} (h1 : v < N) (h2 : v ≠ 0) : G.IsOrd v (ordOf G v) := by
  unfold ordOf
  rw [dif_pos ⟨h1, h2⟩]
  exact Classical.choose_spec (G.ord_ex h1 h2)
theorem ordOf_le {N : Nat} {T : Nat → Nat → Nat} (G : Grp N T) (hN : N ≤ 4096) (v : Nat) : ordOf G v ≤ 4095 := by
  by_cases h : v < N ∧ v ≠ 0
  · have h1 := ordOf_is G h.1 h.2
    have := Nat.le_of_dvd (by have := G.n2; omega) (G.ord_le h.1 h.2 h1)
    omega
  · unfold ordOf
    rw [dif_neg h]
    omega
theorem ord_unique {N : Nat} {T : Nat → Nat → Nat} (G : Grp N T) {v j k : Nat} (h1 : G.IsOrd v j) (h2 : G.IsOrd v k) : j = k := by
  rcases Nat.lt_trichotomy j k with h | h | h
  · exact absurd h1.2.1 (h2.2.2 j h1.1 h)
  · exact h
  · exact absurd h2.2.1 (h1.2.2 k h2.1 h)
theorem code_order {c q : Int} {N : Nat} {T P M : Nat → Nat → Nat} (O : Ops c q N T P M) (G : Grp N T) {x : Nat} (hx : x < N) (hx0 : x ≠ 0) (w : World) :
    Calls Tryd.prog 59 #[elV c N q x] w fun r w' => r = .returned (.int .i64 (ordOf G x : Nat)) ∧ Below w.heap.size w w' := by
  have hn := O.n1
  have hn2 := O.n2
  have h := order_any (pw T x) c q N hn hn2 x (fun e he w => by
    have hl : e % (N - 1) < N - 1 := Nat.mod_lt _ (by omega)
    have h := power_any T c q N hn hn2 (fun a b ha hb => ⟨O.tl a b ha hb, O.tc a b ha hb⟩) x hx e ((e % (N - 1) : Nat) : Int) (e % (N - 1)) (by
      rw [show (N : Int) - 1 = ((N - 1 : Nat) : Int) by omega, Int.tmod_eq_emod_of_nonneg (by omega), Int.natCast_emod]) (by
      rw [show (N : Int) - 1 = ((N - 1 : Nat) : Int) by omega, Int.tmod_eq_emod_of_nonneg (by omega), ← Int.natCast_add, ← Int.natCast_emod, Nat.add_mod_right, Nat.mod_mod]) (by omega) (by omega) (by omega) w
    rwa [G.pwr_eq 12 _ 1 x (by omega) G.lt1 hx, G.one_l (G.pw_lt hx _), G.pw_mod hx hx0] at h) w
  rwa [G.outr_ord hn2 hx hx0 (ordOf_is G hx hx0) (fun j => rfl)] at h
theorem gen_of {c n q : Int} (hV : VF c n q) : ∃ N T P M g, n = ((N : Nat) : Int) ∧ Ops c q N T P M ∧ Fld N T P M ∧ 1 ≤ g ∧ g < N ∧
    (∀ w, Calls Tryd.prog 57 #[.agg #[.int .i64 c, .int .i64 n, .int .i64 q]] w fun e w' => e = .returned (elV c n q ((g : Nat) : Int)) ∧ Below w.heap.size w w') ∧
    (∀ w, Calls Tryd.prog 58 #[.agg #[.int .i64 c, .int .i64 n, .int .i64 q]] w fun e w' => e = .returned (.int .i64 ((g : Nat) : Int)) ∧ Below w.heap.size w w') := by
  obtain ⟨N, T, P, M, rfl, O, F⟩ := fld_of hV
  have hn := O.n1
  have hn2 := O.n2
  have hex : ∃ g, 1 ≤ g ∧ g < N ∧ ordOf F.toGrp g = N - 1 := by
    obtain ⟨g, h1, h2, h3⟩ := F.cyclic
    exact ⟨g, by omega, h1, ord_unique F.toGrp (ordOf_is F.toGrp h1 h2) h3⟩
  obtain ⟨g, ⟨g1, g2, g3⟩, hmin⟩ : ∃ g, (1 ≤ g ∧ g < N ∧ ordOf F.toGrp g = N - 1) ∧ ∀ k, k < g → ¬ (1 ≤ k ∧ k < N ∧ ordOf F.toGrp k = N - 1) := by
    obtain ⟨m, hm⟩ := hex
    induction m using Nat.strongRecOn with
    | ind m ih =>
      by_cases hk : ∃ k, k < m ∧ (1 ≤ k ∧ k < N ∧ ordOf F.toGrp k = N - 1)
      · obtain ⟨k, hk, hk'⟩ := hk
        exact ih k hk hk'
      · exact ⟨m, hm, fun k h1 h2 => hk ⟨k, h1, h2⟩⟩
  have hl : ∀ v, 1 ≤ v → v < g → ¬ ordOf F.toGrp v = N - 1 := fun v h1 h2 h3 => hmin v h2 ⟨h1, by omega, h3⟩
  refine ⟨N, T, P, M, g, rfl, O, F, g1, g2, fun w => ?_, fun w => ?_⟩
  · exact generator_any (ordOf F.toGrp) c q N hn hn2 g g1 (by omega) g3 hl (ordOf_le F.toGrp hn2) (fun v h1 h2 w => code_order O F.toGrp (by omega) (by omega) w) w
  · exact rPrim_any (ordOf F.toGrp) c q N hn hn2 g g1 g2 g3 hl (ordOf_le F.toGrp hn2) (fun v h1 h2 w => rOrder_any F.toGrp hn2 O.ts v _ (by omega) (by omega) (ordOf_is F.toGrp (by omega) (by omega)) w) w
theorem raise_at {c q : Int} {N : Nat} {T P M : Nat → Nat → Nat} (O : Ops c q N T P M) {x : Nat} (hx : x < N) (hx0 : x ≠ 0) (k : Int) : ∃ E : Nat,
    (∀ w, Calls Tryd.prog 54 #[elV c N q x, .int .i64 k] w fun r w' => r = .returned (elV c N q (pwr T 12 E 1 x : Nat)) ∧ Below w.heap.size w w') ∧
    (∀ w, Calls Tryd.prog 56 #[.agg #[.int .i64 c, .int .i64 N, .int .i64 q], .int .i64 x, .int .i64 k] w fun r w' => r = .returned (.int .i64 (pwr T 12 E 1 x : Nat)) ∧ Below w.heap.size w w') := by
  obtain ⟨t, E, h1, h2, h3, h4, h5⟩ := exp_any O.n1 O.n2 k
  exact ⟨E, fun w => power_any T c q N O.n1 O.n2 (fun a b ha hb => ⟨O.tl a b ha hb, O.tc a b ha hb⟩) x hx k t E h1 h2 h3 h4 h5 w,
    fun w => raise_ok c q x _ N O.n1 O.n2 (by omega) k t E h1 h2 h3 h4 (by omega) (by omega) (fun w => rPower_any T c q N O.n1 O.n2 (fun a b ha hb => ⟨O.tl a b ha hb, O.ts a b ha hb⟩) x hx E h5 w) w⟩
section
variable {c n q x k : Int} (hc : I64 c) (hn : I64 n) (hq : I64 q) (hx : I64 x)
include hc hn hq
theorem exp_pair : ∃ z er, (∀ w, Tb w → Calls Tryd.prog 29 #[.agg #[.int .i64 c, .int .i64 n, .int .i64 q], .int .i64 k] w fun e w' => e = .returned (.tuple #[.int .i64 z, .int .i64 er]) ∧ Below w.heap.size w w') ∧
    (∀ w, Calls Tryd.prog 30 #[.agg #[.int .i64 c, .int .i64 n, .int .i64 q], .int .i64 k] w fun e w' => e = .returned (.tuple #[.int .i64 z, .int .i64 er]) ∧ Below w.heap.size w w') := by
  by_cases hV : VF c n q
  · obtain ⟨N, T, P, M, g, rfl, O, F, g1, g2, H1, H2⟩ := gen_of hV
    obtain ⟨E, R1, R2⟩ := raise_at O g2 (by omega) k
    exact ⟨_, 0, fun w hT => Exp_ok c N q k g _ hc hn hq hV H1 R1 w hT, fun w => rExp_ok c N q k g _ hc hn hq hV H2 R2 w⟩
  · exact ⟨0, 1, fun w hT => Exp_no c n q k hc hn hq hV w hT, fun w => rExp_no c n q k hc hn hq hV w⟩
include hx
theorem pow_pair : ∃ z er, (∀ w, Tb w → Calls Tryd.prog 27 #[.agg #[.int .i64 c, .int .i64 n, .int .i64 q], .int .i64 x, .int .i64 k] w fun e w' => e = .returned (.tuple #[.int .i64 z, .int .i64 er]) ∧ Below w.heap.size w w') ∧
    (∀ w, Calls Tryd.prog 28 #[.agg #[.int .i64 c, .int .i64 n, .int .i64 q], .int .i64 x, .int .i64 k] w fun e w' => e = .returned (.tuple #[.int .i64 z, .int .i64 er]) ∧ Below w.heap.size w w') := by
  by_cases hV : VF c n q
  · by_cases hX : 0 ≤ x ∧ x < n
    · obtain ⟨N, T, P, M, rfl, O⟩ := ops_of hV
      have hN := O.n1
      by_cases h0 : x = 0
      · subst h0
        by_cases hk : k < 0
        · exact ⟨0, 12, fun w hT => Pow_zero c N q k hc hn hq hV (by omega) hk w hT, fun w => rPow_neg c N q k hc hn hq hV hX hk w⟩
        · by_cases hk0 : k = 0
          · subst hk0
            exact ⟨1, 0, fun w hT => Pow_0 c N q hc hn hq hV (by omega) w hT, fun w => rPow_zero c N q 0 1 hc hn hq hV hX hk (fun w => raise_zero c N q 0 1 rfl w) w⟩
          · exact ⟨0, 0, fun w hT => Pow_pos c N q k hc hn hq hV (by omega) (by omega) w hT, fun w => rPow_zero c N q k 0 hc hn hq hV hX hk (fun w => raise_zero c N q k 0 (by rw [if_neg hk0]) w) w⟩
      · obtain ⟨a, rfl⟩ : ∃ a : Nat, x = a := ⟨x.toNat, by omega⟩
        obtain ⟨E, R1, R2⟩ := raise_at O (show a < N by omega) (by omega) k
        exact ⟨_, 0, fun w hT => Pow_ok c N q a k _ hc hn hq hV hX h0 R1 w hT, fun w => rPow_ok c N q a k _ hc hn hq hV hX h0 R2 w⟩
    · exact ⟨0, 1, fun w hT => Pow_no c n q x k hc hn hq hx (fun h => hX h.1.of_one) w hT, fun w => rPow_noX c n q x k hc hn hq hV hX w⟩
  · exact ⟨0, 1, fun w hT => Pow_no c n q x k hc hn hq hx (fun h => hV h.2) w hT, fun w => rPow_noV c n q x k hc hn hq hV w⟩
end

set_option maxRecDepth 100000 in
theorem powers_any (c n q a b k : Int) (hc : I64 c) (hn : I64 n) (hq : I64 q) (ha : I64 a) (w : World) (hT : Tb w) :
    Calls Tryd.prog 5 #[.agg #[.int .i64 c, .int .i64 n, .int .i64 q, .int .i64 a, .int .i64 b, .int .i64 k]] w fun e w' => e = .returned (.bool true) ∧ Below w.heap.size w w' := by
  obtain ⟨z1, e1, A1, S1⟩ := pow_pair (k := k) hc hn hq ha
  obtain ⟨z2, e2, A2, S2⟩ := exp_pair (k := k) hc hn hq
  have X1 := Lib.hid A1
  have X2 := Lib.hid S1
  have X3 := Lib.hid A2
  have X4 := Lib.hid S2
  clear A1 S1 A2 S2 hc hn hq ha
  have hB0 := below_new w (.cells #[.int .i64 c, .int .i64 n, .int .i64 q, .int .i64 a, .int .i64 b, .int .i64 k] 32)
  have F0 := Ak.new w c n q a b k
  have hT0 := hT.next hB0
  clear hT
  obtain ⟨k0, k1, k2, k3, k4, k5, k6⟩ := F0
  have F0 : Ak _ w.heap.size c n q a b k := ⟨k0, k1, k2, k3, k4, k5, k6⟩
  go_enter Tryd.func5, Tryd.ntmps5
  go_wp2_with fail
  generalize (w.alloc (.cells #[.int .i64 c, .int .i64 n, .int .i64 q, .int .i64 a, .int .i64 b, .int .i64 k] 32)) = v0 at *
  refine (X1.out _ hT0).mono ?_
  rintro e w1 ⟨rfl, hb⟩
  clear X1
  have F1 := F0.next hb
  have hB1 := below_step hB0 hb
  have hT1 := hT0.next hb
  clear F0 hB0 hT0 hb k0 k1 k2 k3 k4 k5 k6
  obtain ⟨k0, k1, k2, k3, k4, k5, k6⟩ := F1
  have F1 : Ak _ w.heap.size c n q a b k := ⟨k0, k1, k2, k3, k4, k5, k6⟩
  go_wp2_with fail
  refine (X2.out _ ).mono ?_
  rintro e w2 ⟨rfl, hb⟩
  clear X2
  have F2 := F1.next hb
  have hB2 := below_step hB1 hb
  have hT2 := hT1.next hb
  clear F1 hB1 hT1 hb k0 k1 k2 k3 k4 k5 k6
  obtain ⟨k0, k1, k2, k3, k4, k5, k6⟩ := F2
  have F2 : Ak _ w.heap.size c n q a b k := ⟨k0, k1, k2, k3, k4, k5, k6⟩
  go_wp2_with fail
  refine (X3.out _ hT2).mono ?_
  rintro e w3 ⟨rfl, hb⟩
  clear X3
  have F3 := F2.next hb
  have hB3 := below_step hB2 hb
  have hT3 := hT2.next hb
  clear F2 hB2 hT2 hb k0 k1 k2 k3 k4 k5 k6
  obtain ⟨k0, k1, k2, k3, k4, k5, k6⟩ := F3
  have F3 : Ak _ w.heap.size c n q a b k := ⟨k0, k1, k2, k3, k4, k5, k6⟩
  go_wp2_with fail
  refine (X4.out _ ).mono ?_
  rintro e w4 ⟨rfl, hb⟩
  clear X4
  have F4 := F3.next hb
  have hB4 := below_step hB3 hb
  have hT4 := hT3.next hb
  clear F3 hB3 hT3 hb k0 k1 k2 k3 k4 k5 k6
  obtain ⟨k0, k1, k2, k3, k4, k5, k6⟩ := F4
  have F4 : Ak _ w.heap.size c n q a b k := ⟨k0, k1, k2, k3, k4, k5, k6⟩
  go_wp2_with fail
  refine (alive_any _ hT4).mono ?_
  rintro e w11 ⟨rfl, hb⟩
  have hB11 := below_step hB4 hb
  clear F4 hB4 hT4 hb k0 k1 k2 k3 k4 k5 k6
  go_wp2
  go_ret
  exact ⟨rfl, hB11⟩
end Go.Proofs.YtjbaleadahefoaaDoor
