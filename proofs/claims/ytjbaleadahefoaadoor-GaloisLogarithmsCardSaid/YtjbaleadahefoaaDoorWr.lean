/- galois: the two programs' sums, differences, products, quotients and inverses agree. -/
import Derived.Test.YtjbaleadahefoaaDoorWq
set_option linter.unusedVariables false
namespace Go.Proofs.YtjbaleadahefoaaDoor
open Go.RowKit

/-- what both programs calculate with in one field -/
structure Ops (c q : Int) (N : Nat) (T P M : Nat → Nat → Nat) : Prop where
  n1 : 2 ≤ N
  n2 : N ≤ 4096
  tl : ∀ a b, a < N → b < N → T a b < N
  tc : ∀ a b, a < N → b < N → ∀ w, Calls Tryd.prog 52 #[elV c N q a, elV c N q b] w fun e w' => e = .returned (elV c N q (T a b : Nat)) ∧ Below w.heap.size w w'
  ts : ∀ a b, a < N → b < N → ∀ w, Calls Tryd.prog 53 #[.agg #[.int .i64 c, .int .i64 N, .int .i64 q], .int .i64 a, .int .i64 b] w fun e w' => e = .returned (.int .i64 (T a b : Nat)) ∧ Below w.heap.size w w'
  pc : ∀ a b, a < N → b < N → ∀ w, Calls Tryd.prog 48 #[elV c N q a, elV c N q b] w fun e w' => e = .returned (elV c N q (P a b : Nat)) ∧ Below w.heap.size w w'
  ps : ∀ a b, a < N → b < N → ∀ w, Calls Tryd.prog 49 #[.agg #[.int .i64 c, .int .i64 N, .int .i64 q], .int .i64 a, .int .i64 b] w fun e w' => e = .returned (.int .i64 (P a b : Nat)) ∧ Below w.heap.size w w'
  mc : ∀ a b, a < N → b < N → ∀ w, Calls Tryd.prog 50 #[elV c N q a, elV c N q b] w fun e w' => e = .returned (elV c N q (M a b : Nat)) ∧ Below w.heap.size w w'
  ms : ∀ a b, a < N → b < N → ∀ w, Calls Tryd.prog 51 #[.agg #[.int .i64 c, .int .i64 N, .int .i64 q], .int .i64 a, .int .i64 b] w fun e w' => e = .returned (.int .i64 (M a b : Nat)) ∧ Below w.heap.size w w'
  one : ∀ a, a < N → T 1 a = a
theorem clm_one64 : ∀ i : Fin 64, ∀ j : Fin 64, clm 1 (64 * i.val + j.val) 12 = 64 * i.val + j.val := by decide +kernel
theorem clm_one (b : Nat) (h : b < 4096) : clm 1 b 12 = b := by
  have h' := clm_one64 ⟨b / 64, by omega⟩ ⟨b % 64, by omega⟩
  rwa [show 64 * (b / 64) + b % 64 = b by omega] at h'
theorem ops_two {D : Nat} {q : Int} (h1 : 1 ≤ D) (h12 : D ≤ 12) (hq0 : 0 ≤ q) (hdeg : Deg q.toNat D) : Ops 2 q (2 ^ D) (fun a b => rm (clm a b 12) q.toNat) (fun a b => a ^^^ b) (fun a b => a ^^^ b) := by
  obtain ⟨p, rfl⟩ : ∃ p : Nat, q = p := ⟨q.toNat, by omega⟩
  rw [Int.toNat_natCast] at hdeg ⊢
  have hN := pow_le_4096 h12
  have hN2 : 2 ≤ 2 ^ D := by
    have := Nat.pow_le_pow_right (n := 2) (by omega) h1
    simpa using this
  have hcl : ∀ a b, a < 2 ^ D → b < 2 ^ D → clm a b 12 < 2 ^ 32 := fun a b ha hb => Nat.lt_of_lt_of_le (clm_lt a b 12 12 (by omega)) (by decide)
  refine ⟨hN2, hN, fun a b ha hb => rm_lt hdeg _ (hcl a b ha hb), fun a b ha hb w => ?_, fun a b ha hb w => ?_, fun a b ha hb w => ?_, fun a b ha hb w => ?_, fun a b ha hb w => ?_, fun a b ha hb w => ?_, fun a ha => ?_⟩
  · exact timesB_any _ p D a b hdeg h12 (by omega) (by omega) _ _ _ w
  · exact rTimesB_any _ p D a b hdeg h12 (by omega) (by omega) w
  · exact plusB_any _ _ a b (by omega) (by omega) _ _ _ w
  · exact rPlusB_any _ _ a b (by omega) (by omega) w
  · exact minusB_any _ _ a b (by omega) (by omega) _ _ _ w
  · exact rMinusB_any _ _ a b (by omega) (by omega) w
  · show rm (clm 1 a 12) p = a
    rw [clm_one a (by omega)]
    exact rm_small hdeg ha (by omega)
theorem ops_prime {N : Nat} (hc : ¬ (N : Int) = 2) (hN3 : 3 ≤ N) (hN4 : N ≤ 4096) : Ops N 0 N (fun a b => a * b % N) (fun a b => (a + b) % N) (fun a b => (a + N - b) % N) := by
  have hl : ∀ x : Nat, x % N < N := fun x => Nat.mod_lt _ (by omega)
  have hm : ∀ a b : Nat, a < N → b < N → (0 : Int) ≤ (a : Int) * b ∧ (a : Int) * b ≤ 16777216 := fun a b ha hb => by
    have h := Nat.mul_le_mul (Nat.le_of_lt ha) (Nat.le_of_lt hb)
    have h' := Nat.mul_le_mul hN4 hN4
    rw [← Int.natCast_mul]
    omega
  have hs : ∀ a b : Nat, a < N → b < N → ((a : Int) - b + N) % N = ((a + N - b) % N : Nat) := fun a b ha hb => by
    rw [show (a : Int) - b + N = ((a + N - b : Nat) : Int) by omega, Int.natCast_emod]
  refine ⟨by omega, hN4, fun a b ha hb => hl _, fun a b ha hb w => ?_, fun a b ha hb w => ?_, fun a b ha hb w => ?_, fun a b ha hb w => ?_, fun a b ha hb w => ?_, fun a b ha hb w => ?_, fun a ha => ?_⟩
  · exact timesP_any _ _ _ a b _ hc (by rw [Int.natCast_emod, Int.natCast_mul]) (hm a b ha hb).1 (hm a b ha hb).2 (by omega) (by omega) _ _ _ w
  · exact rTimesP_any _ _ _ a b _ hc (by rw [Int.natCast_emod, Int.natCast_mul]) (hm a b ha hb).1 (hm a b ha hb).2 (by omega) (by omega) w
  · exact plusP_any _ _ _ a b _ hc (by rw [Int.natCast_emod, Int.natCast_add]) (by omega) (by omega) (by omega) (by omega) _ _ _ w
  · exact rPlusP_any _ _ _ a b _ hc (by rw [Int.natCast_emod, Int.natCast_add]) (by omega) (by omega) (by omega) (by omega) w
  · exact minusP_any _ _ _ a b _ hc (hs a b ha hb) (by omega) (by omega) (by omega) (by omega) _ _ _ w
  · exact rMinusP_any _ _ _ a b _ hc (hs a b ha hb) (by omega) (by omega) (by omega) (by omega) w
  · show 1 * a % N = a
    rw [Nat.one_mul, Nat.mod_eq_of_lt ha]
theorem ops_of {c n q : Int} (h : VF c n q) : ∃ N T P M, n = ((N : Nat) : Int) ∧ Ops c q N T P M := by
  rcases h with ⟨rfl, D, h1, h12, rfl, hq0, hdeg, hH⟩ | ⟨hc, rfl, rfl, h3, h4, hF⟩
  · exact ⟨2 ^ D, _, _, _, rfl, ops_two h1 h12 hq0 hdeg⟩
  · obtain ⟨N, rfl⟩ : ∃ N : Nat, c = N := ⟨c.toNat, by omega⟩
    exact ⟨N, _, _, _, rfl, ops_prime hc (by omega) (by omega)⟩
theorem pwr_lt {T : Nat → Nat → Nat} {N : Nat} (h : ∀ a b, a < N → b < N → T a b < N) : ∀ f E r a, r < N → a < N → pwr T f E r a < N
  | 0, _, r, _, hr, _ => hr
  | f + 1, E, r, a, hr, ha => by
    unfold pwr
    split
    · exact hr
    · refine pwr_lt h f _ _ _ ?_ (h a a ha ha)
      split
      · exact h r a hr ha
      · exact hr
theorem minus_exp {N : Nat} (h : 2 ≤ N) : ∃ t : Int, (-1 : Int).tmod ((N : Int) - 1) = t ∧ (t + ((N : Int) - 1)).tmod ((N : Int) - 1) = ((N - 2 : Nat) : Int) ∧ -4096 ≤ t ∧ t ≤ 4096 := by
  by_cases h2 : N = 2
  · subst h2
    exact ⟨0, by decide, by decide, by decide, by decide⟩
  · refine ⟨-1, ?_, ?_, by decide, by decide⟩
    · rw [Int.neg_tmod, Int.tmod_eq_emod_of_nonneg (by omega), Int.emod_eq_of_lt (by omega) (by omega)]
    · rw [Int.tmod_eq_emod_of_nonneg (by omega), Int.emod_eq_of_lt (by omega) (by omega)]
      omega
theorem EL.of_two {n x y : Int} (h : EL n [x, y]) : (0 ≤ x ∧ x < n) ∧ (0 ≤ y ∧ y < n) := ⟨h x (by simp), h y (by simp)⟩
theorem EL.of_one {n x : Int} (h : EL n [x]) : 0 ≤ x ∧ x < n := h x (by simp)

section
variable {c n q x y : Int} (hc : I64 c) (hn : I64 n) (hq : I64 q) (hx : I64 x) (hy : I64 y)
include hc hn hq hx hy
theorem add_pair : ∃ z er, (∀ w, Tb w → Calls Tryd.prog 17 #[.agg #[.int .i64 c, .int .i64 n, .int .i64 q], .int .i64 x, .int .i64 y] w fun e w' => e = .returned (.tuple #[.int .i64 z, .int .i64 er]) ∧ Below w.heap.size w w') ∧
    (∀ w, Calls Tryd.prog 18 #[.agg #[.int .i64 c, .int .i64 n, .int .i64 q], .int .i64 x, .int .i64 y] w fun e w' => e = .returned (.tuple #[.int .i64 z, .int .i64 er]) ∧ Below w.heap.size w w') := by
  by_cases h : EL n [x, y] ∧ VF c n q
  · obtain ⟨hE, hV⟩ := h
    obtain ⟨⟨x0, x1⟩, y0, y1⟩ := hE.of_two
    obtain ⟨N, T, P, M, rfl, O⟩ := ops_of hV
    obtain ⟨a, rfl⟩ : ∃ a : Nat, x = a := ⟨x.toNat, by omega⟩
    obtain ⟨b, rfl⟩ : ∃ b : Nat, y = b := ⟨y.toNat, by omega⟩
    exact ⟨_, 0, fun w hT => Add_ok _ _ _ _ _ _ hc hn hq hV ⟨x0, x1⟩ ⟨y0, y1⟩ (O.pc a b (by omega) (by omega)) w hT, fun w => rAdd_ok _ _ _ _ _ _ hc hn hq hV ⟨x0, x1⟩ ⟨y0, y1⟩ (O.ps a b (by omega) (by omega)) w⟩
  · exact ⟨0, 1, fun w hT => Add_no c n q x y hc hn hq hx hy h w hT, fun w => rAdd_no c n q x y hc hn hq h w⟩
theorem sub_pair : ∃ z er, (∀ w, Tb w → Calls Tryd.prog 19 #[.agg #[.int .i64 c, .int .i64 n, .int .i64 q], .int .i64 x, .int .i64 y] w fun e w' => e = .returned (.tuple #[.int .i64 z, .int .i64 er]) ∧ Below w.heap.size w w') ∧
    (∀ w, Calls Tryd.prog 20 #[.agg #[.int .i64 c, .int .i64 n, .int .i64 q], .int .i64 x, .int .i64 y] w fun e w' => e = .returned (.tuple #[.int .i64 z, .int .i64 er]) ∧ Below w.heap.size w w') := by
  by_cases h : EL n [x, y] ∧ VF c n q
  · obtain ⟨hE, hV⟩ := h
    obtain ⟨⟨x0, x1⟩, y0, y1⟩ := hE.of_two
    obtain ⟨N, T, P, M, rfl, O⟩ := ops_of hV
    obtain ⟨a, rfl⟩ : ∃ a : Nat, x = a := ⟨x.toNat, by omega⟩
    obtain ⟨b, rfl⟩ : ∃ b : Nat, y = b := ⟨y.toNat, by omega⟩
    exact ⟨_, 0, fun w hT => Sub_ok _ _ _ _ _ _ hc hn hq hV ⟨x0, x1⟩ ⟨y0, y1⟩ (O.mc a b (by omega) (by omega)) w hT, fun w => rSub_ok _ _ _ _ _ _ hc hn hq hV ⟨x0, x1⟩ ⟨y0, y1⟩ (O.ms a b (by omega) (by omega)) w⟩
  · exact ⟨0, 1, fun w hT => Sub_no c n q x y hc hn hq hx hy h w hT, fun w => rSub_no c n q x y hc hn hq h w⟩
theorem mul_pair : ∃ z er, (∀ w, Tb w → Calls Tryd.prog 21 #[.agg #[.int .i64 c, .int .i64 n, .int .i64 q], .int .i64 x, .int .i64 y] w fun e w' => e = .returned (.tuple #[.int .i64 z, .int .i64 er]) ∧ Below w.heap.size w w') ∧
    (∀ w, Calls Tryd.prog 22 #[.agg #[.int .i64 c, .int .i64 n, .int .i64 q], .int .i64 x, .int .i64 y] w fun e w' => e = .returned (.tuple #[.int .i64 z, .int .i64 er]) ∧ Below w.heap.size w w') := by
  by_cases h : EL n [x, y] ∧ VF c n q
  · obtain ⟨hE, hV⟩ := h
    obtain ⟨⟨x0, x1⟩, y0, y1⟩ := hE.of_two
    obtain ⟨N, T, P, M, rfl, O⟩ := ops_of hV
    obtain ⟨a, rfl⟩ : ∃ a : Nat, x = a := ⟨x.toNat, by omega⟩
    obtain ⟨b, rfl⟩ : ∃ b : Nat, y = b := ⟨y.toNat, by omega⟩
    exact ⟨_, 0, fun w hT => Mul_ok _ _ _ _ _ _ hc hn hq hV ⟨x0, x1⟩ ⟨y0, y1⟩ (O.tc a b (by omega) (by omega)) w hT, fun w => rMul_ok _ _ _ _ _ _ hc hn hq hV ⟨x0, x1⟩ ⟨y0, y1⟩ (O.ts a b (by omega) (by omega)) w⟩
  · exact ⟨0, 1, fun w hT => Mul_no c n q x y hc hn hq hx hy h w hT, fun w => rMul_no c n q x y hc hn hq h w⟩
end
theorem Ops.power {c q : Int} {N : Nat} {T P M : Nat → Nat → Nat} (O : Ops c q N T P M) (x : Nat) (hx : x < N) (w : World) :
    Calls Tryd.prog 54 #[elV c N q x, .int .i64 (-1)] w fun r w' => r = .returned (elV c N q (pwr T 12 (N - 2) 1 x : Nat)) ∧ Below w.heap.size w w' := by
  obtain ⟨t, h1, h2, h3, h4⟩ := minus_exp O.n1
  have := O.n2
  exact power_any T c q N O.n1 O.n2 (fun a b ha hb => ⟨O.tl a b ha hb, O.tc a b ha hb⟩) x hx (-1) t (N - 2) h1 h2 h3 h4 (by omega) w
theorem Ops.inverse {c q : Int} {N : Nat} {T P M : Nat → Nat → Nat} (O : Ops c q N T P M) (x : Nat) (hx : x < N) (w : World) :
    Calls Tryd.prog 55 #[.agg #[.int .i64 c, .int .i64 N, .int .i64 q], .int .i64 x] w fun r w' => r = .returned (.int .i64 (pwr T 12 (N - 2) 1 x : Nat)) ∧ Below w.heap.size w w' := by
  have h2 := O.n2
  have h1 := O.n1
  refine rInverse_of c q x _ N (by omega) (fun w => ?_) w
  have h := rPower_any T c q N O.n1 O.n2 (fun a b ha hb => ⟨O.tl a b ha hb, O.ts a b ha hb⟩) x hx (N - 2) (by omega) w
  rwa [show ((N - 2 : Nat) : Int) = (N : Int) - 2 by omega] at h
section
variable {c n q x y : Int} (hc : I64 c) (hn : I64 n) (hq : I64 q) (hx : I64 x) (hy : I64 y)
include hc hn hq hx hy
theorem div_pair : ∃ z er, (∀ w, Tb w → Calls Tryd.prog 23 #[.agg #[.int .i64 c, .int .i64 n, .int .i64 q], .int .i64 x, .int .i64 y] w fun e w' => e = .returned (.tuple #[.int .i64 z, .int .i64 er]) ∧ Below w.heap.size w w') ∧
    (∀ w, Calls Tryd.prog 24 #[.agg #[.int .i64 c, .int .i64 n, .int .i64 q], .int .i64 x, .int .i64 y] w fun e w' => e = .returned (.tuple #[.int .i64 z, .int .i64 er]) ∧ Below w.heap.size w w') := by
  by_cases h : EL n [x, y] ∧ VF c n q
  · obtain ⟨hE, hV⟩ := h
    obtain ⟨⟨x0, x1⟩, y0, y1⟩ := hE.of_two
    by_cases h0 : y = 0
    · subst h0
      exact ⟨0, 12, fun w hT => Div_zero c n q x hc hn hq hV ⟨x0, x1⟩ w hT, fun w => rDiv_zero c n q x hc hn hq hV ⟨x0, x1⟩ ⟨y0, y1⟩ w⟩
    · obtain ⟨N, T, P, M, rfl, O⟩ := ops_of hV
      obtain ⟨a, rfl⟩ : ∃ a : Nat, x = a := ⟨x.toNat, by omega⟩
      obtain ⟨b, rfl⟩ : ∃ b : Nat, y = b := ⟨y.toNat, by omega⟩
      have h1 := O.n1
      have hv : pwr T 12 (N - 2) 1 b < N := pwr_lt O.tl 12 _ 1 b (by omega) (by omega)
      exact ⟨_, 0, fun w hT => Div_ok _ _ _ _ _ _ _ hc hn hq hV ⟨x0, x1⟩ ⟨y0, y1⟩ h0 (O.power b (by omega)) (O.tc a _ (by omega) hv) w hT, fun w => rDiv_ok _ _ _ _ _ _ _ hc hn hq hV ⟨x0, x1⟩ ⟨y0, y1⟩ h0 (O.inverse b (by omega)) (O.ts a _ (by omega) hv) w⟩
  · exact ⟨0, 1, fun w hT => Div_no c n q x y hc hn hq hx hy h w hT, fun w => rDiv_no c n q x y hc hn hq h w⟩
end
section
variable {c n q x : Int} (hc : I64 c) (hn : I64 n) (hq : I64 q) (hx : I64 x)
include hc hn hq hx
theorem inv_pair : ∃ z er, (∀ w, Tb w → Calls Tryd.prog 25 #[.agg #[.int .i64 c, .int .i64 n, .int .i64 q], .int .i64 x] w fun e w' => e = .returned (.tuple #[.int .i64 z, .int .i64 er]) ∧ Below w.heap.size w w') ∧
    (∀ w, Calls Tryd.prog 26 #[.agg #[.int .i64 c, .int .i64 n, .int .i64 q], .int .i64 x] w fun e w' => e = .returned (.tuple #[.int .i64 z, .int .i64 er]) ∧ Below w.heap.size w w') := by
  by_cases h : EL n [x] ∧ VF c n q
  · obtain ⟨hE, hV⟩ := h
    obtain ⟨x0, x1⟩ := hE.of_one
    obtain ⟨N, T, P, M, rfl, O⟩ := ops_of hV
    have h1 := O.n1
    by_cases h0 : x = 0
    · subst h0
      exact ⟨0, 12, Inv_of c N q 0 0 12 fun w hT => Pow_zero c N q (-1) hc hn hq hV x1 (by omega) w hT, rInv_of c N q 0 0 12 fun w => rDiv_zero c N q 1 hc hn hq hV (by omega) ⟨x0, x1⟩ w⟩
    · obtain ⟨b, rfl⟩ : ∃ b : Nat, x = b := ⟨x.toNat, by omega⟩
      have hv : pwr T 12 (N - 2) 1 b < N := pwr_lt O.tl 12 _ 1 b (by omega) (by omega)
      have ht := O.ts 1 _ (by omega) hv
      rw [O.one _ hv] at ht
      exact ⟨_, 0, Inv_of c N q b _ 0 fun w hT => Pow_ok c N q b (-1) _ hc hn hq hV ⟨x0, x1⟩ h0 (O.power b (by omega)) w hT, rInv_of c N q b _ 0 fun w => rDiv_ok c N q 1 b _ _ hc hn hq hV (by omega) ⟨x0, x1⟩ h0 (O.inverse b (by omega)) ht w⟩
  · have h' : ¬ (EL n [1, x] ∧ VF c n q) := fun h2 => h ⟨EL.one h2.1.of_two.2, h2.2⟩
    exact ⟨0, 1, Inv_of c n q x 0 1 fun w hT => Pow_no c n q x (-1) hc hn hq hx h w hT, rInv_of c n q x 0 1 fun w => rDiv_no c n q 1 x hc hn hq h' w⟩
end
end Go.Proofs.YtjbaleadahefoaaDoor
