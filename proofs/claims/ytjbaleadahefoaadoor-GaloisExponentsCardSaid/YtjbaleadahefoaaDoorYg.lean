/- galois: GaloisExponents and GaloisLogarithms return true, for any arguments of their types. -/
import Derived.Test.YtjbaleadahefoaaDoorYf
import Derived.Test.YtjbaleadahefoaaDoorYh
set_option linter.unusedVariables false
namespace Go.Proofs.YtjbaleadahefoaaDoor
open Go.RowKit

section
variable {c q : Int} {N : Nat} {T P M : Nat → Nat → Nat} (O : Ops c q N T P M) (L : Fld N T P M) (hc : I64 c) (hn : I64 (N : Int)) (hq : I64 q) (hV : VF c N q)
include O hc hn hq hV
theorem oA {a b : Nat} (ha : a < N) (hb : b < N) : EA c N q a b (P a b : Nat) := fun w g hT hK =>
  cAdd_of (fun w hT => Add_ok c N q a b _ hc hn hq hV ⟨by omega, by omega⟩ ⟨by omega, by omega⟩ (O.pc a b ha hb) w hT) w g hT hK
theorem oM {a b : Nat} (ha : a < N) (hb : b < N) : EM c N q a b (T a b : Nat) := fun w g hT hK =>
  cMul_of (fun w hT => Mul_ok c N q a b _ hc hn hq hV ⟨by omega, by omega⟩ ⟨by omega, by omega⟩ (O.tc a b ha hb) w hT) w g hT hK
include L
theorem exps_at (hkind : (c = 2 ∧ ∀ z, P z z = 0) ∨ c = (N : Int)) {a b : Nat} (ha : a < N) (hb : b < N) (ha0 : a ≠ 0) (k m : Int) (h2 : ¬ k < -1099511627776) (h3 : ¬ 1099511627776 < k) (h4 : ¬ m < -1099511627776) (h5 : ¬ 1099511627776 < m) (w : World) (hT : Tb w) :
    Calls Tryd.prog 8 #[.agg #[.int .i64 c, .int .i64 N, .int .i64 q, .int .i64 a, .int .i64 b, .int .i64 k], .int .i64 m] w fun e w' => e = .returned (.bool true) ∧ Below w.heap.size w w' := by
  have n2 := O.n1
  have n4 := O.n2
  have G := L.toGrp
  have hP : (N : Int) - 1 = ((N - 1 : Nat) : Int) := by omega
  have hv : EV c N q true := fun w => rValid_any c N q hc hn hq true ⟨fun _ => hV, fun _ => rfl⟩ w
  have hE : ∀ a : Nat, a < N → EE c N q a true := fun a ha w => rIs_any c N q a true ⟨fun _ => ⟨by omega, by omega⟩, fun _ => rfl⟩ w
  have hio := ordOf_is G ha ha0
  have hO : ∀ w, Tb w → Calls Tryd.prog 31 #[.agg #[.int .i64 c, .int .i64 N, .int .i64 q], .int .i64 a] w fun e w' => e = .returned (.tuple #[.int .i64 (ordOf G a : Nat), .int .i64 0]) ∧ Below w.heap.size w w' :=
    fun w hT => Order_ok c N q a _ hc hn hq hV ⟨by omega, by omega⟩ (by omega) (fun w => code_order O G ha ha0 w) w hT
  have hdv := G.ord_le ha ha0 hio
  have hpw : ∀ e : Int, ∃ E : Nat, e % ((N : Int) - 1) = (E : Int) ∧ EP c N q a e (pw T a E : Nat) := fun e => by
    have h6 := Int.emod_nonneg e (show (N : Int) - 1 ≠ 0 by omega)
    obtain ⟨E, hE⟩ : ∃ E : Nat, e % ((N : Int) - 1) = (E : Int) := ⟨(e % ((N : Int) - 1)).toNat, by omega⟩
    exact ⟨E, hE, fun w g hT hK => cPow_of (fun w hT => pow_at O G hc hn hq hV ha ha0 e E hE w hT) w g hT hK⟩
  have p0 : EP c N q a (ordOf G a : Nat) (1 : Nat) := by
    obtain ⟨E, hE, h⟩ := hpw (ordOf G a : Nat)
    rw [hP, ← Int.natCast_emod] at hE
    obtain rfl : ordOf G a % (N - 1) = E := by omega
    rwa [G.pw_mod ha ha0, hio.2.1] at h
  obtain ⟨E1, hE1, p2⟩ := hpw k
  obtain ⟨E2, hE2, p3⟩ := hpw m
  obtain ⟨E12, hE12, p1⟩ := hpw (k + m)
  have hsum : E12 = (E1 + E2) % (N - 1) := by
    rw [Int.add_emod, hE1, hE2, hP, ← Int.natCast_add, ← Int.natCast_emod] at hE12
    omega
  rw [hsum, G.pw_mod ha ha0, G.pw_add ha] at p1
  have q1 := oM O hc hn hq hV (G.pw_lt ha E1) (G.pw_lt ha E2)
  have s1 := oA O hc hn hq hV ha hb
  obtain ⟨C, hC1, hcC, hfr⟩ : ∃ C : Nat, 1 ≤ C ∧ c = (C : Int) ∧ ∀ {x y}, x < N → y < N → pw T (P x y) C = P (pw T x C) (pw T y C) := by
    rcases hkind with ⟨h, hz⟩ | h
    · exact ⟨2, by omega, h, fun hx hy => L.frob2 hz hx hy⟩
    · exact ⟨N, by omega, h, fun hx hy => L.frobN hx hy⟩
  have hpc : ∀ x : Nat, x < N → EP c N q x c (pw T x C : Nat) := fun x hx w g hT hK =>
    cPow_of (fun w hT => by
      have h := powc_at O G hc hn hq hV hx hC1 w hT
      rwa [← hcC] at h) w g hT hK
  have p4 := hpc (P a b) (L.plt ha hb)
  rw [hfr ha hb] at p4
  have s2 := oA O hc hn hq hV (G.pw_lt ha C) (G.pw_lt hb C)
  refine exps_ok c N q a b k m (ordOf G a : Nat) _ _ _ _ _ _ _ hv (hE a ha) (hE b hb) (by omega) h2 h3 h4 h5 (by omega) (by omega) hO (by have := hio.1; omega) ?_ p0 p1 p2 p3 q1 s1 p4 (hpc a ha) (hpc b hb) s2 w hT
  rw [hP, Int.tmod_eq_emod_of_nonneg (by omega), ← Int.natCast_emod, Nat.mod_eq_zero_of_dvd hdv]
  rfl
end
theorem exps_any (c n q a b k m : Int) (hc : I64 c) (hn : I64 n) (hq : I64 q) (w : World) (hT : Tb w) :
    Calls Tryd.prog 8 #[.agg #[.int .i64 c, .int .i64 n, .int .i64 q, .int .i64 a, .int .i64 b, .int .i64 k], .int .i64 m] w fun e w' => e = .returned (.bool true) ∧ Below w.heap.size w w' := by
  have hE : ∀ a, (0 ≤ a ∧ a < n) → EE c n q a true := fun a ha w => rIs_any c n q a true ⟨fun _ => ha, fun _ => rfl⟩ w
  have hN : ∀ a, ¬ (0 ≤ a ∧ a < n) → EE c n q a false := fun a ha w => rIs_any c n q a false ⟨fun e => (by cases e), fun e => absurd e ha⟩ w
  by_cases hV : VF c n q
  · have hv : EV c n q true := fun w => rValid_any c n q hc hn hq true ⟨fun _ => hV, fun _ => rfl⟩ w
    by_cases ha : 0 ≤ a ∧ a < n
    · by_cases hb : 0 ≤ b ∧ b < n
      · by_cases h1 : a = 0
        · exact exps_a0 c n q a b k m hv (hE a ha) (hE b hb) h1 w hT
        by_cases h2 : k < -1099511627776
        · exact exps_k1 c n q a b k m hv (hE a ha) (hE b hb) h1 h2 w hT
        by_cases h3 : 1099511627776 < k
        · exact exps_k2 c n q a b k m hv (hE a ha) (hE b hb) h1 h2 h3 w hT
        by_cases h4 : m < -1099511627776
        · exact exps_m1 c n q a b k m hv (hE a ha) (hE b hb) h1 h2 h3 h4 w hT
        by_cases h5 : 1099511627776 < m
        · exact exps_m2 c n q a b k m hv (hE a ha) (hE b hb) h1 h2 h3 h4 h5 w hT
        obtain ⟨N, T, P, M, rfl, O, L, hkind⟩ := fld_of2 hV
        obtain ⟨A, rfl⟩ : ∃ A : Nat, a = A := ⟨a.toNat, by omega⟩
        obtain ⟨B, rfl⟩ : ∃ B : Nat, b = B := ⟨b.toNat, by omega⟩
        exact exps_at O L hc hn hq hV hkind (by omega) (by omega) (by omega) k m h2 h3 h4 h5 w hT
      · exact exps_nob c n q a b k m hv (hE a ha) (hN b hb) w hT
    · exact exps_noa c n q a b k m hv (hN a ha) w hT
  · exact exps_nov c n q a b k m (fun w => rValid_any c n q hc hn hq false ⟨fun e => (by cases e), fun e => absurd e hV⟩ w) w hT
theorem lgs_any (c n q a b k : Int) (hc : I64 c) (hn : I64 n) (hq : I64 q) (w : World) (hT : Tb w) :
    Calls Tryd.prog 9 #[.agg #[.int .i64 c, .int .i64 n, .int .i64 q, .int .i64 a, .int .i64 b, .int .i64 k]] w fun e w' => e = .returned (.bool true) ∧ Below w.heap.size w w' := by
  have hE : ∀ a, (0 ≤ a ∧ a < n) → EE c n q a true := fun a ha w => rIs_any c n q a true ⟨fun _ => ha, fun _ => rfl⟩ w
  have hN : ∀ a, ¬ (0 ≤ a ∧ a < n) → EE c n q a false := fun a ha w => rIs_any c n q a false ⟨fun e => (by cases e), fun e => absurd e ha⟩ w
  by_cases hV : VF c n q
  · have hv : EV c n q true := fun w => rValid_any c n q hc hn hq true ⟨fun _ => hV, fun _ => rfl⟩ w
    by_cases ha : 0 ≤ a ∧ a < n
    · by_cases hb : 0 ≤ b ∧ b < n
      · by_cases h1 : a = 0
        · exact lgs_a0 c n q a b k hv (hE a ha) (hE b hb) h1 w hT
        by_cases h2 : b = 0
        · exact lgs_b0 c n q a b k hv (hE a ha) (hE b hb) h1 h2 w hT
        obtain ⟨N, T, P, M, g, rfl, O, L, _, g1, g2, ho, H1, H2⟩ := gen_of2 hV
        have n2 := O.n1
        have n4 := O.n2
        obtain ⟨A, rfl⟩ : ∃ A : Nat, a = A := ⟨a.toNat, by omega⟩
        obtain ⟨B, rfl⟩ : ∃ B : Nat, b = B := ⟨b.toNat, by omega⟩
        have G := L.toGrp
        have hA : A < N := by omega
        have hB : B < N := by omega
        have hA0 : A ≠ 0 := by omega
        have hB0 : B ≠ 0 := by omega
        have hg0 : g ≠ 0 := by omega
        have hlog : ∀ {x m : Nat}, x < N → x ≠ 0 → m < N - 1 → pw T g m = x → ∀ w, Tb w → Calls Tryd.prog 35 #[.agg #[.int .i64 c, .int .i64 N, .int .i64 q], .int .i64 x] w fun e w' => e = .returned (.tuple #[.int .i64 m, .int .i64 0]) ∧ Below w.heap.size w w' := fun hx hx0 hm hpm w hT =>
          Log_ok c N q _ g _ hc hn hq hV ⟨by omega, by omega⟩ (by omega) H1 (fun w => code_log hc hq O G g2 hg0 ho hx hm hpm w) w hT
        obtain ⟨m1, hm1, e1⟩ := G.log_ex g2 hg0 ho hA hA0
        obtain ⟨m2, hm2, e2⟩ := G.log_ex g2 hg0 ho hB hB0
        have e3 : pw T g ((m1 + m2) % (N - 1)) = T A B := by rw [G.pw_mod g2 hg0, G.pw_add g2, e1, e2]
        have hl := Nat.mod_lt (m1 + m2) (show 0 < N - 1 by omega)
        have h5 : ∀ w, Tb w → Calls Tryd.prog 29 #[.agg #[.int .i64 c, .int .i64 N, .int .i64 q], .int .i64 m1] w fun e w' => e = .returned (.tuple #[.int .i64 A, .int .i64 0]) ∧ Below w.heap.size w w' := fun w hT => by
          have h := Exp_ok c N q m1 g _ hc hn hq hV H1 (fun w => power_at O G g2 m1 m1 (Int.emod_eq_of_lt (by omega) (by omega)) w) w hT
          rwa [e1] at h
        refine lgs_ok c N q A B k m1 m2 (T A B : Nat) ((m1 + m2) % (N - 1) : Nat) hv (hE _ ha) (hE _ hb) h1 h2 (by omega) (by omega) (hlog hA hA0 hm1 e1) (hlog hB hB0 hm2 e2)
          (fun w hT => Mul_ok c N q A B _ hc hn hq hV ⟨by omega, by omega⟩ ⟨by omega, by omega⟩ (O.tc A B hA hB) w hT) (hlog (L.lt hA hB) (G.nz hA hB hA0 hB0) hl e3) h5 (by omega) (by omega) (by omega) (by omega) ?_ w hT
        rw [show (N : Int) - 1 = ((N - 1 : Nat) : Int) by omega, ← Int.natCast_add, Int.tmod_eq_emod_of_nonneg (by omega), ← Int.natCast_emod]
      · exact lgs_nob c n q a b k hv (hE a ha) (hN b hb) w hT
    · exact lgs_noa c n q a b k hv (hN a ha) w hT
  · exact lgs_nov c n q a b k (fun w => rValid_any c n q hc hn hq false ⟨fun e => (by cases e), fun e => absurd e hV⟩ w) w hT
end Go.Proofs.YtjbaleadahefoaaDoor
