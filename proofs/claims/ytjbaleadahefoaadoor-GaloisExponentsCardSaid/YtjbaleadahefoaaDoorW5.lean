/- Contracts of galois: Valid; of the specification: Binary, Prime. -/
import Derived.Test.YtjbaleadahefoaaDoorW4
import Derived.Deep.RegionHeld3
set_option linter.unusedVariables false
namespace Go.Proofs.YtjbaleadahefoaaDoor
open Go.RowKit

set_option maxRecDepth 100000 in
theorem rBinary_range (D q : Int) (h : D < 1 ∨ 12 < D) (w : World) : Calls Tryd.prog 11 #[.int .i64 D, .int .i64 q] w fun e w' => e = .returned (fieldE 0 0 0 3) ∧ Below w.heap.size w w' := by
  unfold fieldE
  by_cases h1 : D < 1
  · clear h
    go_enter Tryd.func11, Tryd.ntmps11
    go_wp2
    exact bodyPost_ret (v := .tuple #[.agg #[.int .i64 0, .int .i64 0, .int .i64 0], .int .i64 3]) (by simp [results, Tryd.results11, go_sem]) rfl ⟨rfl, below_new _ _⟩
  · have h2 : 12 < D := by omega
    clear h
    go_enter Tryd.func11, Tryd.ntmps11
    go_wp2
    exact bodyPost_ret (v := .tuple #[.agg #[.int .i64 0, .int .i64 0, .int .i64 0], .int .i64 3]) (by simp [results, Tryd.results11, go_sem]) rfl ⟨rfl, below_new _ _⟩
set_option maxRecDepth 100000 in
theorem rBinary_poly (D : Nat) (q : Int) (h1 : 1 ≤ D) (h2 : D ≤ 12) (hq1 : -9223372036854775808 ≤ q) (hq2 : q ≤ 9223372036854775807) (h : ¬ (0 ≤ q ∧ Deg q.toNat D ∧ ¬ HasD q.toNat D)) (w : World) :
    Calls Tryd.prog 11 #[.int .i64 (D : Int), .int .i64 q] w fun e w' => e = .returned (fieldE 0 0 0 38) ∧ Below w.heap.size w w' := by
  unfold fieldE
  have hD1 : decide ((D : Int) < 1) = false := decide_eq_false (by omega)
  have hD2 : decide (12 < (D : Int)) = false := decide_eq_false (by omega)
  obtain ⟨S, hS⟩ : ∃ S : Nat, D + 1 = S := ⟨_, rfl⟩
  have hSI : (D : Int) + 1 = (S : Int) := by omega
  have hS13 : S ≤ 13 := by omega
  have hpw := pow64 S (by omega)
  have hD12 : (D : Int) ≤ 12 := by omega
  have hD0 : (0 : Int) ≤ (D : Int) := by omega
  by_cases hb : ((2 ^ S : Nat) : Int) ≤ q
  · obtain ⟨N, hN⟩ : ∃ N : Nat, 2 ^ S = N := ⟨_, rfl⟩
    rw [hN] at hpw hb
    clear h hN h1 h2 hS
    go_enter Tryd.func11, Tryd.ntmps11
    go_wp2
    exact bodyPost_ret (v := .tuple #[.agg #[.int .i64 0, .int .i64 0, .int .i64 0], .int .i64 38]) (by simp [results, Tryd.results11, go_sem]) rfl ⟨rfl, below_new _ _⟩
  · have HI : ∀ w, Calls Tryd.prog 43 #[.int .i64 q, .int .i64 (D : Int)] w fun e w' => e = .returned (.bool false) ∧ w = w' := by
      intro w
      by_cases hq0 : 0 ≤ q
      · obtain ⟨p, rfl⟩ : ∃ p : Nat, q = p := ⟨q.toNat, by omega⟩
        rw [show ((p : Int)).toNat = p from rfl] at h
        by_cases hdeg : Deg p D
        · have hH : HasD p D := Classical.byContradiction fun hn => h ⟨hq0, hdeg, hn⟩
          exact irreducible_any p D hdeg h2 false ⟨fun hh => (by cases hh), fun hh => absurd hH hh⟩ w
        · refine irreducible_deg p D (by omega) ?_ w
          intro he
          apply hdeg
          rcases Nat.eq_zero_or_pos p with h0 | h0
          · subst h0; rw [dgI_zero] at he; omega
          · rw [dgI_pos h0] at he
            have := deg_log p h0
            rwa [show Nat.log2 p = D by omega] at this
      · exact irreducible_neg q D (by omega) w
    obtain ⟨N, hN⟩ : ∃ N : Nat, 2 ^ S = N := ⟨_, rfl⟩
    rw [hN] at hpw hb
    clear h hN h1 h2 hS
    go_enter Tryd.func11, Tryd.ntmps11
    go_wp2_with fail
    refine (HI _).mono ?_
    rintro e w1 ⟨rfl, rfl⟩
    go_wp2
    exact bodyPost_ret (v := .tuple #[.agg #[.int .i64 0, .int .i64 0, .int .i64 0], .int .i64 38]) (by simp [results, Tryd.results11, go_sem]) rfl ⟨rfl, below_new _ _⟩
set_option maxRecDepth 100000 in
theorem rBinary_ok (D p : Nat) (h1 : 1 ≤ D) (h2 : D ≤ 12) (hdeg : Deg p D) (hH : ¬ HasD p D) (w : World) :
    Calls Tryd.prog 11 #[.int .i64 (D : Int), .int .i64 (p : Int)] w fun e w' => e = .returned (fieldE 2 ((2 ^ D : Nat) : Int) p 0) ∧ Below w.heap.size w w' := by
  unfold fieldE
  have hD1 : decide ((D : Int) < 1) = false := decide_eq_false (by omega)
  have hD2 : decide (12 < (D : Int)) = false := decide_eq_false (by omega)
  obtain ⟨S, hS⟩ : ∃ S : Nat, D + 1 = S := ⟨_, rfl⟩
  have hSI : (D : Int) + 1 = (S : Int) := by omega
  have hS13 : S ≤ 13 := by omega
  have hpw := pow64 S (by omega)
  have hpwD := pow64 D (by omega)
  have hD12 : D ≤ 12 := h2
  have hD0 : (0 : Int) ≤ (D : Int) := by omega
  have hlt : (p : Int) < ((2 ^ S : Nat) : Int) := by have := hdeg.2; rw [hS] at this; omega
  have HI := irreducible_any p D hdeg h2 true ⟨fun _ => hH, fun _ => rfl⟩
  obtain ⟨N, hN⟩ : ∃ N : Nat, 2 ^ S = N := ⟨_, rfl⟩
  rw [hN] at hpw hlt
  obtain ⟨M, hM⟩ : ∃ M : Nat, 2 ^ D = M := ⟨_, rfl⟩
  rw [hM] at hpwD ⊢
  clear hN hM h1 h2 hS hdeg hH
  generalize (p : Int) = pi at *
  go_enter Tryd.func11, Tryd.ntmps11
  go_wp2_with fail
  refine (HI _).mono ?_
  rintro e w1 ⟨rfl, rfl⟩
  go_wp2
  exact bodyPost_ret (v := .tuple #[.agg #[.int .i64 2, .int .i64 (M : Int), .int .i64 pi], .int .i64 0]) (by simp [results, Tryd.results11, go_sem, hpwD]) rfl ⟨rfl, below_new _ _⟩

set_option maxRecDepth 100000 in
theorem rPrime_range (p : Int) (h : p < 2 ∨ 4096 < p) (w : World) : Calls Tryd.prog 13 #[.int .i64 p] w fun e w' => e = .returned (fieldE 0 0 0 3) ∧ Below w.heap.size w w' := by
  unfold fieldE
  by_cases h1 : p < 2
  · clear h
    go_enter Tryd.func13, Tryd.ntmps13
    go_wp2
    exact bodyPost_ret (v := .tuple #[.agg #[.int .i64 0, .int .i64 0, .int .i64 0], .int .i64 3]) (by simp [results, Tryd.results13, go_sem]) rfl ⟨rfl, below_new _ _⟩
  · have h2 : 4096 < p := by omega
    clear h
    go_enter Tryd.func13, Tryd.ntmps13
    go_wp2
    exact bodyPost_ret (v := .tuple #[.agg #[.int .i64 0, .int .i64 0, .int .i64 0], .int .i64 3]) (by simp [results, Tryd.results13, go_sem]) rfl ⟨rfl, below_new _ _⟩
theorem not_hasF2 : ¬ HasF 2 := by
  rintro ⟨q, h2, hq, _⟩
  have := Nat.mul_le_mul h2 h2
  omega
set_option maxRecDepth 100000 in
theorem rPrime_two (w : World) : Calls Tryd.prog 13 #[.int .i64 2] w fun e w' => e = .returned (fieldE 2 2 2 0) ∧ Below w.heap.size w w' := by
  have HI := prime_any 2 (by omega) (by omega) true ⟨fun _ => not_hasF2, fun _ => rfl⟩
  unfold fieldE
  go_enter Tryd.func13, Tryd.ntmps13
  go_wp2_with fail
  refine (HI _).mono ?_
  rintro e w1 ⟨rfl, rfl⟩
  go_wp2
  exact bodyPost_ret (v := .tuple #[.agg #[.int .i64 2, .int .i64 2, .int .i64 2], .int .i64 0]) (by simp [results, Tryd.results13, go_sem]) rfl ⟨rfl, below_new _ _⟩
set_option maxRecDepth 100000 in
theorem rPrime_no (n : Nat) (h2 : 2 < n) (hn : n ≤ 4096) (h : HasF n) (w : World) : Calls Tryd.prog 13 #[.int .i64 (n : Int)] w fun e w' => e = .returned (fieldE 0 0 0 1) ∧ Below w.heap.size w w' := by
  have HI := prime_any n (by omega) hn false ⟨fun hh => (by cases hh), fun hh => absurd h hh⟩
  unfold fieldE
  have hd1 : decide ((n : Int) < 2) = false := decide_eq_false (by omega)
  have hd2 : decide (4096 < (n : Int)) = false := decide_eq_false (by omega)
  clear h hn h2
  generalize (n : Int) = z at *
  go_enter Tryd.func13, Tryd.ntmps13
  go_wp2_with fail
  refine (HI _).mono ?_
  rintro e w1 ⟨rfl, rfl⟩
  go_wp2
  exact bodyPost_ret (v := .tuple #[.agg #[.int .i64 0, .int .i64 0, .int .i64 0], .int .i64 1]) (by simp [results, Tryd.results13, go_sem]) rfl ⟨rfl, below_new _ _⟩
set_option maxRecDepth 100000 in
theorem rPrime_ok (n : Nat) (h2 : 2 < n) (hn : n ≤ 4096) (h : ¬ HasF n) (w : World) : Calls Tryd.prog 13 #[.int .i64 (n : Int)] w fun e w' => e = .returned (fieldE n n 0 0) ∧ Below w.heap.size w w' := by
  have HI := prime_any n (by omega) hn true ⟨fun _ => h, fun _ => rfl⟩
  unfold fieldE
  have hd1 : decide ((n : Int) < 2) = false := decide_eq_false (by omega)
  have hd2 : decide (4096 < (n : Int)) = false := decide_eq_false (by omega)
  have hd3 : ¬ (n : Int) = 2 := by omega
  clear h hn h2
  generalize (n : Int) = z at *
  go_enter Tryd.func13, Tryd.ntmps13
  go_wp2_with fail
  refine (HI _).mono ?_
  rintro e w1 ⟨rfl, rfl⟩
  go_wp2
  exact bodyPost_ret (v := .tuple #[.agg #[.int .i64 z, .int .i64 z, .int .i64 0], .int .i64 0]) (by simp [results, Tryd.results13, go_sem]) rfl ⟨rfl, below_new _ _⟩

/-- Valid of a field whose characteristic is not 2, by what Prime makes -/
theorem valid_prime (c n q mc mn mq er : Int) (hc : ¬ c = 2) (b : Bool) (hb : b = (decide (er = 0) && (decide (mc = c) && (decide (mn = n) && decide (mq = q))))) (HP : ∀ w, Tb w → Calls Tryd.prog 12 #[.int .i64 n] w fun e w' => e = .returned (fieldE mc mn mq er) ∧ Below w.heap.size w w') (w : World) (hT : Tb w) :
    Calls Tryd.prog 14 #[.agg #[.int .i64 c, .int .i64 n, .int .i64 q]] w fun e w' => e = .returned (.bool b) ∧ Below w.heap.size w w' := by
  have HB := Lib.hid hb
  clear hb
  unfold fieldE at HP
  have hb1 := below_new w (.cells #[.int .i64 c, .int .i64 n, .int .i64 q] 23)
  have hb2 := below_step hb1 (below_new _ (.cells #[.int .i64 0, .int .i64 0, .int .i64 0] 23))
  have hT2 := hT.next hb2
  have F1 := (Fd.new w c n q).next (below_new _ (.cells #[.int .i64 0, .int .i64 0, .int .i64 0] 23))
  have F2 := Fd.new (w.alloc (.cells #[.int .i64 c, .int .i64 n, .int .i64 q] 23)) 0 0 0
  have hs : (w.alloc (.cells #[.int .i64 c, .int .i64 n, .int .i64 q] 23)).heap.size = w.heap.size + 1 := by simp
  rw [hs] at F2
  clear hs
  obtain ⟨c1, c2, c3⟩ := F1.cells
  go_enter Tryd.func14, Tryd.ntmps14
  go_wp2_with fail
  refine (HP _ hT2).mono ?_
  rintro e w1 ⟨rfl, hb⟩
  have G1 := F1.next hb
  have G2 := F2.next hb
  obtain ⟨d1, d2, d3⟩ := G1.cells
  obtain ⟨d4, d5, d6⟩ := G2.cells
  obtain ⟨f4, f5, f6⟩ := G2.frozen
  have hlt1 := G1.lt
  have hlt2 := G2.lt
  have hb3 := below_step hb2 hb
  clear hb hb1 hb2 hT2 F1 F2 HP G1 G2 hT
  go_wp2_with fail
  all_goals
    have HB2 := HB.out
    clear HB
    go_ret
    refine ⟨?_, below_three hb3 (Nat.le_succ _) _ _ _⟩
    rw [HB2]
    simp [*]
/-- Valid of a field of characteristic 2, by what Binary makes -/
theorem valid_binary (n q g mc mn mq er : Int) (b : Bool) (hb : b = (decide (er = 0) && (decide (mc = 2) && (decide (mn = n) && decide (mq = q))))) (HG : ∀ w, Calls Tryd.prog 41 #[.int .i64 n] w fun e w' => e = .returned (.int .i64 g) ∧ w = w')
    (HP : ∀ w, Tb w → Calls Tryd.prog 10 #[.int .i64 g, .int .i64 q] w fun e w' => e = .returned (fieldE mc mn mq er) ∧ Below w.heap.size w w') (w : World) (hT : Tb w) :
    Calls Tryd.prog 14 #[.agg #[.int .i64 2, .int .i64 n, .int .i64 q]] w fun e w' => e = .returned (.bool b) ∧ Below w.heap.size w w' := by
  have HB := Lib.hid hb
  clear hb
  unfold fieldE at HP
  have hb1 := below_new w (.cells #[.int .i64 2, .int .i64 n, .int .i64 q] 23)
  have hb2 := (below_step hb1 (below_new _ (.cells #[.int .i64 0, .int .i64 0, .int .i64 0] 23))).drew
  have hT2 := hT.next hb2
  have F1 := ((Fd.new w 2 n q).next (below_new _ (.cells #[.int .i64 0, .int .i64 0, .int .i64 0] 23))).drew
  have F2 := (Fd.new (w.alloc (.cells #[.int .i64 2, .int .i64 n, .int .i64 q] 23)) 0 0 0).drew
  have hs : (w.alloc (.cells #[.int .i64 2, .int .i64 n, .int .i64 q] 23)).heap.size = w.heap.size + 1 := by simp
  rw [hs] at F2
  clear hs hb1 hT
  obtain ⟨c1, c2, c3⟩ := F1.cells
  obtain ⟨c4, c5, c6⟩ := F2.cells
  go_enter Tryd.func14, Tryd.ntmps14
  go_wp2
  go_region_held3 (fun W => W.cell? ⟨w.heap.size, 0, none⟩ = some (.int .i64 2) ∧ W.cell? ⟨w.heap.size, 1, none⟩ = some (.int .i64 n) ∧ W.cell? ⟨w.heap.size, 2, none⟩ = some (.int .i64 q))
    (first | (with_reducible exact F1.cells) | (with_reducible exact G1.cells) | (refine ⟨?_, ?_, ?_⟩ <;> (repeat rw [World.cell?_setCell_other _ _ _ _ (by simp)]) <;> assumption))
    (first
    | (go_at_call 41; (with_reducible refine (HG _).mono ?_); rintro e w1 ⟨rfl, rfl⟩)
    | (go_at_call 10; (with_reducible refine (HP _ hT2).mono ?_); rintro e w1 ⟨rfl, hb⟩; have G1 := F1.next hb; have G2 := F2.next hb; clear c1 c2 c3 c4 c5 c6; obtain ⟨c1, c2, c3⟩ := G1.cells; obtain ⟨c4, c5, c6⟩ := G2.cells; obtain ⟨f4, f5, f6⟩ := G2.frozen; have hlt1 := G1.lt; have hlt2 := G2.lt))
  all_goals
    have hb3 := below_step hb2 hb
    clear hb hb2 hT2 F1 F2 HP G1 G2
    go_wp2
  all_goals
    have HB2 := HB.out
    clear HB
    go_ret
    refine ⟨?_, below_three hb3 (Nat.le_succ _) _ _ _⟩
    rw [HB2]
    simp [*]
end Go.Proofs.YtjbaleadahefoaaDoor
