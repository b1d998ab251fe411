/- Contracts of galois: order. -/
import Derived.Test.YtjbaleadahefoaaDoorWd
set_option linter.unusedVariables false
namespace Go.Proofs.YtjbaleadahefoaaDoor
open Go.RowKit

/-- dividing out one factor -/
def inn (Pw : Nat → Nat) (p : Nat) : Nat → Nat → Nat → Nat × Nat
  | 0, r, m => (r, m)
  | f + 1, r, m => if r % p = 0 then inn Pw p f (r / p) (if Pw (m / p) = 1 then m / p else m) else (r, m)
/-- the order by dividing out all factors -/
def outr (Pw : Nat → Nat) : Nat → Nat → Nat → Nat → Nat
  | 0, _, m, _ => m
  | f + 1, r, m, p => if r ≤ 1 then m else outr Pw f (inn Pw p 12 r m).1 (inn Pw p 12 r m).2 (p + 1)
theorem inn_end (Pw : Nat → Nat) (p f r m : Nat) (h : r < 2 ^ f) (h1 : 1 ≤ r) (h2 : ¬ r % p = 0) : inn Pw p f r m = (r, m) := by
  cases f with
  | zero => simp at h; omega
  | succ f => simp only [inn]; rw [if_neg h2]
theorem inn_step (Pw : Nat → Nat) (p f r m : Nat) (h : r < 2 ^ f) (h1 : 1 ≤ r) (hp : 2 ≤ p) (h2 : r % p = 0) : ∃ f', r / p < 2 ^ f' ∧ 1 ≤ r / p ∧ r / p < r ∧ r / p ∣ r ∧ inn Pw p f r m = inn Pw p f' (r / p) (if Pw (m / p) = 1 then m / p else m) := by
  have hd : p * (r / p) = r := Nat.mul_div_cancel' (Nat.dvd_of_mod_eq_zero h2)
  cases f with
  | zero => simp at h; omega
  | succ f =>
    have h3 : r / p ≤ r / 2 := Nat.div_le_div_left hp (by omega)
    refine ⟨f, ?_, ?_, ?_, ⟨p, by rw [Nat.mul_comm]; exact hd.symm⟩, ?_⟩
    · rw [Nat.pow_succ] at h; omega
    · rcases Nat.eq_zero_or_pos (r / p) with h4 | h4
      · rw [h4] at hd; omega
      · exact h4
    · omega
    · simp only [inn]; rw [if_pos h2]
theorem outr_one (Pw : Nat → Nat) (f r m p : Nat) (h : r ≤ 1) : outr Pw f r m p = m := by
  cases f with
  | zero => rfl
  | succ f => simp only [outr]; rw [if_pos h]

set_option maxRecDepth 100000 in
theorem order_any (Pw : Nat → Nat) (c q : Int) (n : Nat) (hn : 2 ≤ n) (hn2 : n ≤ 4096) (x : Nat)
    (HP : ∀ e : Nat, e ≤ 4096 → ∀ w, Calls Tryd.prog 54 #[elV c n q x, .int .i64 (e : Int)] w fun r w' => r = .returned (elV c n q (Pw e : Nat)) ∧ Below w.heap.size w w') (w : World) :
    Calls Tryd.prog 59 #[elV c n q x] w fun r w' => r = .returned (.int .i64 (outr Pw 4098 (n - 1) (n - 1) 2 : Nat)) ∧ Below w.heap.size w w' := by
  obtain ⟨R, hR⟩ : ∃ R, outr Pw 4098 (n - 1) (n - 1) 2 = R := ⟨_, rfl⟩
  have HR := Lib.hid hR
  rw [hR]
  clear hR
  have H1 := one_any c n q
  unfold elV at HP H1 ⊢
  have HPP := Lib.hid HP
  have HO := Lib.hid H1
  have HN := Lib.hid (And.intro hn hn2)
  clear HP H1
  obtain ⟨N, hN⟩ : ∃ N : Nat, n - 1 = N := ⟨_, rfl⟩
  have hN1 : (n : Int) - 1 = (N : Int) := by omega
  have hN2 : 1 ≤ N := by omega
  have hN3 : N ≤ 4095 := by omega
  have hw : IntKind.i64.wrap ((n : Int) - 1) = (N : Int) := by rw [IntKind.wrap_i64]; omega
  have HNN := Lib.hid hN
  have hn1 : (n : Int) ≤ 4096 := by omega
  have hn0 : (2 : Int) ≤ n := by omega
  clear hn hn2 hN
  have E2 := El.new w c n q x
  have hb0 := below_new w (.cells #[.int .i64 c, .int .i64 n, .int .i64 q, .int .i64 (x : Int)] 52)
  obtain ⟨c1, c2, c3, c4⟩ := E2.cells
  go_enter Tryd.func59, Tryd.ntmps59
  go_wp2
  generalize (n : Int) = nI at *
  go_loopw [3, 4, 5] (fun y1 y2 y3 wr => ∃ m r p f : Nat, y1 = .int .i64 (m : Int) ∧ y2 = .int .i64 (r : Int) ∧ y3 = .int .i64 (p : Int) ∧ m ≤ 4095 ∧ 1 ≤ r ∧ r ≤ 4095 ∧ 2 ≤ p ∧ p ≤ 4097 ∧ Hid ((∀ d, 2 ≤ d → d ∣ r → p ≤ d) ∧ f + p = 4100 ∧ outr Pw f r m p = R) ∧ El wr w.heap.size c nI q x ∧ Below w.heap.size w wr) (fun _ _ y3 _ => 4100 - (intOf y3).toNat)
  case atStart => exact ⟨N, N, 2, 4098, rfl, rfl, rfl, hN3, hN2, hN3, by omega, by omega, Lib.hid ⟨fun d hd _ => hd, rfl, by have := HR.out; rwa [HNN.out] at this⟩, E2, hb0⟩
  case round =>
    obtain ⟨m, r, p, f, rfl, rfl, rfl, hm, hr1, hr2, hp2, hp3, hf, K, hB⟩ := hrel
    clear E2 hb0 c1 c2 c3 c4
    clear hw hN1 hN2 hN3 hn1 hn0
    obtain ⟨e1, e2, e3, e4⟩ := K.cells
    by_cases h1 : r ≤ 1
    · have hR2 : Hid (m = R) := Lib.hid (by rw [← hf.out.2.2, outr_one Pw f r m p h1])
      have hr : r = 1 := by omega
      subst hr
      go_wp2
      go_ret
      exact ⟨by rw [hR2.out]; rfl, hB⟩
    · have hrI : (1 : Int) < (r : Int) := by omega
      obtain ⟨rr, mm, hrm⟩ : ∃ rr mm, inn Pw p 12 r m = (rr, mm) := ⟨_, _, rfl⟩
      have hF : Hid (∃ f', f = f' + 1 ∧ outr Pw f' rr mm (p + 1) = R ∧ f' + (p + 1) = 4100) := by
        obtain ⟨g1, g2, g3⟩ := hf.out
        have := g1 r (by omega) ⟨1, by omega⟩
        cases f with
        | zero => omega
        | succ f' =>
          simp only [outr] at g3
          rw [if_neg h1, hrm] at g3
          exact Lib.hid ⟨f', rfl, g3, by omega⟩
      have hpr : Hid (p ≤ r) := Lib.hid (hf.out.1 r (by omega) ⟨1, by omega⟩)
      have hdv : Hid (∀ d, 2 ≤ d → d ∣ r → p ≤ d) := Lib.hid hf.out.1
      have HRM := Lib.hid hrm
      have H12 : Hid (r < 2 ^ 12) := Lib.hid (by omega)
      clear hrm hf
      go_wp2
      go_loopw [3, 4] (fun y1 y2 ws => ∃ m' r' f' : Nat, y1 = .int .i64 (m' : Int) ∧ y2 = .int .i64 (r' : Int) ∧ m' ≤ 4095 ∧ 1 ≤ r' ∧ r' ≤ 4095 ∧ Hid (r' < 2 ^ f' ∧ inn Pw p f' r' m' = (rr, mm) ∧ r' ∣ r) ∧ El ws w.heap.size c nI q x ∧ Below w.heap.size w ws) (fun _ y2 _ => (intOf y2).toNat)
      case atStart => exact ⟨m, r, 12, rfl, rfl, hm, hr1, hr2, Lib.hid ⟨H12.out, HRM.out, ⟨1, by omega⟩⟩, K, hB⟩
      case round =>
        obtain ⟨m', r', f', rfl, rfl, hm', hr1', hr2', hf', K', hB'⟩ := hrel
        clear e1 e2 e3 e4 K hB
        obtain ⟨e1, e2, e3, e4⟩ := K'.cells
        have hp0 : ¬ (p : Int) = 0 := by omega
        by_cases hmod : r' % p = 0
        · obtain ⟨f2, g1, g2, g3, g4, g5⟩ := inn_step Pw p f' r' m' hf'.out.1 hr1' hp2 hmod
          have hmodI : (r' : Int).tmod (p : Int) = 0 := by rw [Int.tmod_eq_emod_of_nonneg (by omega), ← Int.natCast_emod, hmod]; rfl
          have hdI : (r' : Int).tdiv (p : Int) = ((r' / p : Nat) : Int) := by rw [Int.tdiv_eq_ediv_of_nonneg (by omega), ← Int.natCast_ediv]
          have hmI : (m' : Int).tdiv (p : Int) = ((m' / p : Nat) : Int) := by rw [Int.tdiv_eq_ediv_of_nonneg (by omega), ← Int.natCast_ediv]
          have hMle : m' / p ≤ m' := Nat.div_le_self _ _
          obtain ⟨M, hM⟩ : ∃ M, m' / p = M := ⟨_, rfl⟩
          obtain ⟨D, hD⟩ : ∃ D, r' / p = D := ⟨_, rfl⟩
          rw [hM] at hmI hMle g5
          rw [hD] at hdI g1 g2 g3 g4 g5
          have HPM := HPP.out M (by omega)
          obtain ⟨P, hP⟩ : ∃ P, Pw M = P := ⟨_, rfl⟩
          rw [hP] at HPM g5
          have hM4 : M ≤ 4095 := by omega
          have hD4 : D ≤ 4095 := by omega
          have hwM : IntKind.i64.wrap (M : Int) = (M : Int) := by rw [IntKind.wrap_i64]; omega
          have hdvD : Hid (D ∣ r) := Lib.hid (Nat.dvd_trans g4 hf'.out.2.2)
          have hfi := hf'.out.2.1
          have HO1 := HO.out
          rw [g5] at hfi
          clear g4 hf' hM hD hP g5 hpr hdv HRM H12 hrI h1 hmod hMle
          by_cases hP1 : P = 1
          · subst hP1
            rw [if_pos rfl] at hfi
            have HS : Hid (D < 2 ^ f2 ∧ inn Pw p f2 D M = (rr, mm) ∧ D ∣ r) := Lib.hid ⟨g1, hfi, hdvD.out⟩
            clear hfi g1 hdvD
            go_wp2
            have hp2I : (2 : Int) ≤ (p : Int) := by omega
            have hp3I : (p : Int) ≤ 4097 := by omega
            have hm0I : (0 : Int) ≤ (m' : Int) := by omega
            have hm4I : (m' : Int) ≤ 4095 := by omega
            generalize hgm : (m' : Int) = mI at *
            generalize hgp : (p : Int) = pI at *
            replace K' := K'.drew
            replace hB' := hB'.drew
            clear e1 e2 e3 e4
            obtain ⟨e1, e2, e3, e4⟩ := K'.cells
            go_region_held3 (fun V => V.cell? ⟨w.heap.size, 0, none⟩ = some (.int .i64 c) ∧ V.cell? ⟨w.heap.size, 1, none⟩ = some (.int .i64 nI) ∧ V.cell? ⟨w.heap.size, 2, none⟩ = some (.int .i64 q) ∧ V.cell? ⟨w.heap.size, 3, none⟩ = some (.int .i64 (x : Int)))
              (first | (with_reducible exact K'.cells) | (with_reducible exact K1.cells) | (with_reducible exact K2.cells) | go_keep)
              (first
              | (go_at_call 54; (with_reducible refine (HPM _).mono ?_); rintro e w2 ⟨rfl, hb2⟩; have K1 := K'.next hb2; have hB1 := below_step hB' hb2; clear K' hb2 e1 e2 e3 e4 hB'; obtain ⟨e1, e2, e3, e4⟩ := K1.cells)
              | (go_at_call 66; (with_reducible refine (HO1 _).mono ?_); rintro e w3 ⟨rfl, hb3⟩; have K2 := K1.next hb3; have hB2 := below_step hB1 hb3; clear K1 hb3 e1 e2 e3 e4 hB1; obtain ⟨e1, e2, e3, e4⟩ := K2.cells))
            go_wp2
            subst hgm hgp
            go_roundw
            case rel => exact ⟨M, D, f2, rfl, rfl, by omega, g2, by omega, HS, K2, hB2⟩
            case measure => simp [intOf]; omega
          · rw [if_neg hP1] at hfi
            have hP1I : ¬ (P : Int) = 1 := by omega
            have HS : Hid (D < 2 ^ f2 ∧ inn Pw p f2 D m' = (rr, mm) ∧ D ∣ r) := Lib.hid ⟨g1, hfi, hdvD.out⟩
            clear hfi g1 hdvD hP1
            go_wp2
            have hp2I : (2 : Int) ≤ (p : Int) := by omega
            have hp3I : (p : Int) ≤ 4097 := by omega
            have hm0I : (0 : Int) ≤ (m' : Int) := by omega
            have hm4I : (m' : Int) ≤ 4095 := by omega
            generalize hgm : (m' : Int) = mI at *
            generalize hgp : (p : Int) = pI at *
            replace K' := K'.drew
            replace hB' := hB'.drew
            clear e1 e2 e3 e4
            obtain ⟨e1, e2, e3, e4⟩ := K'.cells
            go_region_held3 (fun V => V.cell? ⟨w.heap.size, 0, none⟩ = some (.int .i64 c) ∧ V.cell? ⟨w.heap.size, 1, none⟩ = some (.int .i64 nI) ∧ V.cell? ⟨w.heap.size, 2, none⟩ = some (.int .i64 q) ∧ V.cell? ⟨w.heap.size, 3, none⟩ = some (.int .i64 (x : Int)))
              (first | (with_reducible exact K'.cells) | (with_reducible exact K1.cells) | (with_reducible exact K2.cells) | go_keep)
              (first
              | (go_at_call 54; (with_reducible refine (HPM _).mono ?_); rintro e w2 ⟨rfl, hb2⟩; have K1 := K'.next hb2; have hB1 := below_step hB' hb2; clear K' hb2 e1 e2 e3 e4 hB'; obtain ⟨e1, e2, e3, e4⟩ := K1.cells)
              | (go_at_call 66; (with_reducible refine (HO1 _).mono ?_); rintro e w3 ⟨rfl, hb3⟩; have K2 := K1.next hb3; have hB2 := below_step hB1 hb3; clear K1 hb3 e1 e2 e3 e4 hB1; obtain ⟨e1, e2, e3, e4⟩ := K2.cells))
            go_wp2
            subst hgm hgp
            go_roundw
            case rel => exact ⟨m', D, f2, rfl, rfl, by omega, g2, by omega, HS, K2, hB2⟩
            case measure => simp [intOf]; omega
        · have hmodI : ¬ (r' : Int).tmod (p : Int) = 0 := by rw [Int.tmod_eq_emod_of_nonneg (by omega), ← Int.natCast_emod]; omega
          have hE : Hid (rr = r' ∧ mm = m') := by
            have := hf'.out.2.1
            rw [inn_end Pw p f' r' m' hf'.out.1 hr1' hmod] at this
            simp only [Prod.mk.injEq] at this
            exact Lib.hid ⟨this.1.symm, this.2.symm⟩
          have hdv2 : Hid (∀ d, 2 ≤ d → d ∣ r' → p + 1 ≤ d) := by
            refine Lib.hid fun d hd hdr => ?_
            have := hdv.out d hd (Nat.dvd_trans hdr hf'.out.2.2)
            rcases Nat.lt_or_ge p d with h | h
            · exact h
            · obtain rfl : d = p := by omega
              exact absurd (Nat.mod_eq_zero_of_dvd hdr) hmod
          clear hf' hdv HRM H12
          go_wp2
          go_roundw
          case rel =>
            obtain ⟨f2, _, g2, g3⟩ := hF.out
            obtain ⟨rfl, rfl⟩ := hE.out
            exact ⟨mm, rr, p + 1, f2, rfl, rfl, by go_num, hm', hr1', hr2', by omega, by have := hpr.out; omega, Lib.hid ⟨hdv2.out, g3, g2⟩, K', hB'⟩
          case measure => have := hpr.out; simp [intOf]; omega
end Go.Proofs.YtjbaleadahefoaaDoor
