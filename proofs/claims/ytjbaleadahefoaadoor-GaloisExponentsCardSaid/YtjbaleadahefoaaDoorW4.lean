/- Contracts of galois: Binary, Prime, Valid. -/
import Derived.Test.YtjbaleadahefoaaDoorW3
set_option linter.unusedVariables false
namespace Go.Proofs.YtjbaleadahefoaaDoor
open Go.RowKit

/-- D and q make a binary field -/
def BinOK (D q : Int) : Prop := 1 ≤ D ∧ D ≤ 12 ∧ 0 ≤ q ∧ Deg q.toNat D.toNat ∧ ¬ HasD q.toNat D.toNat
/-- a field and an error -/
def fieldE (c n q e : Int) : Value := .tuple #[.agg #[.int .i64 c, .int .i64 n, .int .i64 q], .int .i64 e]
set_option maxRecDepth 100000 in
theorem binary_range (D q : Int) (h : D < 1 ∨ 12 < D) (w : World) : Calls Tryd.prog 10 #[.int .i64 D, .int .i64 q] w fun e w' => e = .returned (fieldE 0 0 0 3) ∧ Below w.heap.size w w' := by
  unfold fieldE
  by_cases h1 : D < 1
  · clear h
    go_enter Tryd.func10, Tryd.ntmps10
    go_wp2
    exact bodyPost_ret (v := .tuple #[.agg #[.int .i64 0, .int .i64 0, .int .i64 0], .int .i64 3]) (by simp [results, Tryd.results10, go_sem]) rfl ⟨rfl, below_new _ _⟩
  · have h2 : 12 < D := by omega
    clear h
    go_enter Tryd.func10, Tryd.ntmps10
    go_wp2
    exact bodyPost_ret (v := .tuple #[.agg #[.int .i64 0, .int .i64 0, .int .i64 0], .int .i64 3]) (by simp [results, Tryd.results10, go_sem]) rfl ⟨rfl, below_new _ _⟩
set_option maxRecDepth 100000 in
theorem binary_poly (D : Nat) (q : Int) (h1 : 1 ≤ D) (h2 : D ≤ 12) (hq1 : -9223372036854775808 ≤ q) (hq2 : q ≤ 9223372036854775807) (h : ¬ (0 ≤ q ∧ Deg q.toNat D ∧ ¬ HasD q.toNat D)) (w : World) (hT : Tb w) :
    Calls Tryd.prog 10 #[.int .i64 (D : Int), .int .i64 q] w fun e w' => e = .returned (fieldE 0 0 0 38) ∧ Below w.heap.size w w' := by
  unfold fieldE
  have hD1 : decide ((D : Int) < 1) = false := decide_eq_false (by omega)
  have hD2 : decide (12 < (D : Int)) = false := decide_eq_false (by omega)
  by_cases hd : 0 ≤ q ∧ Deg q.toNat D
  · obtain ⟨hq0, hdeg⟩ := hd
    obtain ⟨p, rfl⟩ : ∃ p : Nat, q = p := ⟨q.toNat, by omega⟩
    rw [show ((p : Int)).toNat = p from rfl] at h hdeg
    have hH : HasD p D := Classical.byContradiction fun hn => h ⟨hq0, hdeg, hn⟩
    have hT2 := hT.next (below_new w (.cells #[.int .i64 0, .int .i64 0, .int .i64 0] 23))
    have HI := isIrreducible_any p D hdeg h2 false ⟨fun hh => (by cases hh), fun hh => absurd hH hh⟩
    have hp0 : 0 < p := Nat.lt_of_lt_of_le (Nat.pow_pos (by omega)) hdeg.1
    have HG := degreeOf_nat p (by omega)
    rw [dgI_pos hp0, deg_unique hdeg] at HG
    clear h hH hdeg hp0 hq0 hq1 hq2 h1 h2
    generalize (D : Int) = Di at *
    generalize (p : Int) = pi at *
    go_enter Tryd.func10, Tryd.ntmps10
    go_wp2_with fail
    refine (HG _).mono ?_
    rintro e w1 ⟨rfl, rfl⟩
    go_wp2_with fail
    refine (HI _ hT2).mono ?_
    rintro e w1 ⟨rfl, rfl⟩
    go_wp2
    exact bodyPost_ret (v := .tuple #[.agg #[.int .i64 0, .int .i64 0, .int .i64 0], .int .i64 38]) (by simp [results, Tryd.results10, go_sem]) rfl ⟨rfl, below_new _ _⟩
  · have HG : ∃ g : Int, -1 ≤ g ∧ g ≤ 63 ∧ ¬ g = (D : Int) ∧ ∀ w, Calls Tryd.prog 41 #[.int .i64 q] w fun e w' => e = .returned (.int .i64 g) ∧ w = w' := by
      by_cases hq0 : 0 ≤ q
      · obtain ⟨p, rfl⟩ : ∃ p : Nat, q = p := ⟨q.toNat, by omega⟩
        have hr := dgI_le p (by omega)
        refine ⟨dgI p, hr.1, by omega, ?_, fun w => degreeOf_nat p (by omega) w⟩
        intro he
        apply hd
        refine ⟨hq0, ?_⟩
        rw [show ((p : Int)).toNat = p from rfl]
        rcases Nat.eq_zero_or_pos p with h0 | h0
        · subst h0; rw [dgI_zero] at he; omega
        · rw [dgI_pos h0] at he
          have := deg_log p h0
          rwa [show Nat.log2 p = D by omega] at this
      · exact ⟨63, by omega, by omega, by omega, fun w => degreeOf_neg q (by omega) hq1 w⟩
    obtain ⟨g, hg1, hg2, hgD, HG⟩ := HG
    clear hd h hT h1 h2
    generalize (D : Int) = Di at *
    go_enter Tryd.func10, Tryd.ntmps10
    go_wp2_with fail
    refine (HG _).mono ?_
    rintro e w1 ⟨rfl, rfl⟩
    go_wp2
    exact bodyPost_ret (v := .tuple #[.agg #[.int .i64 0, .int .i64 0, .int .i64 0], .int .i64 38]) (by simp [results, Tryd.results10, go_sem]) rfl ⟨rfl, below_new _ _⟩
set_option maxRecDepth 100000 in
theorem binary_ok (D p : Nat) (h1 : 1 ≤ D) (h2 : D ≤ 12) (hdeg : Deg p D) (hH : ¬ HasD p D) (w : World) (hT : Tb w) :
    Calls Tryd.prog 10 #[.int .i64 (D : Int), .int .i64 (p : Int)] w fun e w' => e = .returned (fieldE 2 ((2 ^ D : Nat) : Int) p 0) ∧ Below w.heap.size w w' := by
  unfold fieldE
  have hD1 : decide ((D : Int) < 1) = false := decide_eq_false (by omega)
  have hD2 : decide (12 < (D : Int)) = false := decide_eq_false (by omega)
  have hT2 := hT.next (below_new w (.cells #[.int .i64 0, .int .i64 0, .int .i64 0] 23))
  have HI := isIrreducible_any p D hdeg h2 true ⟨fun _ => hH, fun _ => rfl⟩
  have hp0 : 0 < p := Nat.lt_of_lt_of_le (Nat.pow_pos (by omega)) hdeg.1
  have hp13 : p < 8192 := Nat.lt_of_lt_of_le hdeg.2 (Nat.pow_le_pow_right (n := 2) (by omega) (show D + 1 ≤ 13 by omega))
  have HG := degreeOf_nat p (by omega)
  rw [dgI_pos hp0, deg_unique hdeg] at HG
  have hpw := pow64 D (by omega)
  obtain ⟨N, hN⟩ : ∃ N : Nat, 2 ^ D = N := ⟨_, rfl⟩
  rw [hN] at hpw ⊢
  have hD0 : (0 : Int) ≤ (D : Int) := by omega
  have hmin : min D 64 = D := by omega
  clear hH hdeg hp0 h1 h2 hp13 hN
  generalize (p : Int) = pi at *
  go_enter Tryd.func10, Tryd.ntmps10
  go_wp2_with fail
  refine (HG _).mono ?_
  rintro e w1 ⟨rfl, rfl⟩
  go_wp2_with fail
  refine (HI _ hT2).mono ?_
  rintro e w1 ⟨rfl, rfl⟩
  go_wp2
  exact bodyPost_ret (v := .tuple #[.agg #[.int .i64 2, .int .i64 (N : Int), .int .i64 pi], .int .i64 0]) (by simp [results, Tryd.results10, go_sem, hpw]) rfl ⟨rfl, below_new _ _⟩

/-- a field's struct lies at block g -/
def Fd (w : World) (g : Nat) (c n q : Int) : Prop := w.heap[g]? = some (.cells #[.int .i64 c, .int .i64 n, .int .i64 q] 23 (0, 0))
theorem Fd.lt {w : World} {g : Nat} {c n q : Int} (h : Fd w g c n q) : g < w.heap.size := (Array.getElem?_eq_some_iff.1 h).1
theorem Fd.next {w w' : World} {g : Nat} {c n q : Int} (h : Fd w g c n q) (hb : Below w.heap.size w w') : Fd w' g c n q := by
  unfold Fd; rw [hb.block g h.lt]; exact h
theorem Fd.drew {w : World} {g : Nat} {c n q : Int} (h : Fd w g c n q) : Fd w.drew g c n q := h
theorem Fd.cells {w : World} {g : Nat} {c n q : Int} (h : Fd w g c n q) : w.cell? ⟨g, 0, none⟩ = some (.int .i64 c) ∧ w.cell? ⟨g, 1, none⟩ = some (.int .i64 n) ∧ w.cell? ⟨g, 2, none⟩ = some (.int .i64 q) := by
  refine ⟨?_, ?_, ?_⟩ <;> rw [cell_of_row _ _ _ _ _ _ h] <;> rfl
theorem Fd.frozen {w : World} {g : Nat} {c n q : Int} (h : Fd w g c n q) : w.frozen? ⟨g, 0, none⟩ = false ∧ w.frozen? ⟨g, 1, none⟩ = false ∧ w.frozen? ⟨g, 2, none⟩ = false := ⟨frozen_of_row _ _ _ _ _ h, frozen_of_row _ _ _ _ _ h, frozen_of_row _ _ _ _ _ h⟩
theorem Fd.new (w : World) (c n q : Int) : Fd (w.alloc (.cells #[.int .i64 c, .int .i64 n, .int .i64 q] 23)) w.heap.size c n q := heap_alloc_new _ _
theorem below_three {W w : World} {g : Nat} (h : Below W.heap.size W w) (hg : W.heap.size ≤ g) (u v x : Value) : Below W.heap.size W (((w.setCell ⟨g, 0, none⟩ u).setCell ⟨g, 1, none⟩ v).setCell ⟨g, 2, none⟩ x) :=
  ((h.setCell (p := ⟨g, 0, none⟩) hg u).setCell (p := ⟨g, 1, none⟩) hg v).setCell (p := ⟨g, 2, none⟩) hg x
theorem set_three {w : World} {g : Nat} {a b c : Value} (c1 : w.cell? ⟨g, 0, none⟩ = some a) (c2 : w.cell? ⟨g, 1, none⟩ = some b) (c3 : w.cell? ⟨g, 2, none⟩ = some c) (u v x : Value) :
    (((w.setCell ⟨g, 0, none⟩ u).setCell ⟨g, 1, none⟩ v).setCell ⟨g, 2, none⟩ x).cell? ⟨g, 0, none⟩ = some u ∧ (((w.setCell ⟨g, 0, none⟩ u).setCell ⟨g, 1, none⟩ v).setCell ⟨g, 2, none⟩ x).cell? ⟨g, 1, none⟩ = some v ∧ (((w.setCell ⟨g, 0, none⟩ u).setCell ⟨g, 1, none⟩ v).setCell ⟨g, 2, none⟩ x).cell? ⟨g, 2, none⟩ = some x := by
  refine ⟨?_, ?_, ?_⟩
  · rw [World.cell?_setCell_other _ _ _ _ (by simp), World.cell?_setCell_other _ _ _ _ (by simp), World.cell?_setCell_same _ _ _ c1]
  · rw [World.cell?_setCell_other _ _ _ _ (by simp), World.cell?_setCell_same _ _ _ (by rw [World.cell?_setCell_other _ _ _ _ (by simp)]; exact c2)]
  · rw [World.cell?_setCell_same _ _ _ (by rw [World.cell?_setCell_other _ _ _ _ (by simp), World.cell?_setCell_other _ _ _ _ (by simp)]; exact c3)]
theorem bin2 : Deg 2 1 ∧ ¬ HasD 2 1 := by
  refine ⟨by unfold Deg; omega, ?_⟩
  rintro ⟨q, h2, hl, _⟩
  have := (deg_log q (by omega)).2
  rw [show Nat.log2 q = 0 by omega] at this
  omega
set_option maxRecDepth 100000 in
theorem primeF_range (p : Int) (h : p < 2 ∨ 4096 < p) (w : World) : Calls Tryd.prog 12 #[.int .i64 p] w fun e w' => e = .returned (fieldE 0 0 0 3) ∧ Below w.heap.size w w' := by
  unfold fieldE
  by_cases h1 : p < 2
  · clear h
    go_enter Tryd.func12, Tryd.ntmps12
    go_wp2
    exact bodyPost_ret (v := .tuple #[.agg #[.int .i64 0, .int .i64 0, .int .i64 0], .int .i64 3]) (by simp [results, Tryd.results12, go_sem]) rfl ⟨rfl, below_new _ _⟩
  · have h2 : 4096 < p := by omega
    clear h
    go_enter Tryd.func12, Tryd.ntmps12
    go_wp2
    exact bodyPost_ret (v := .tuple #[.agg #[.int .i64 0, .int .i64 0, .int .i64 0], .int .i64 3]) (by simp [results, Tryd.results12, go_sem]) rfl ⟨rfl, below_new _ _⟩
set_option maxRecDepth 100000 in
theorem primeF_two (w : World) (hT : Tb w) : Calls Tryd.prog 12 #[.int .i64 2] w fun e w' => e = .returned (fieldE 2 2 2 0) ∧ Below w.heap.size w w' := by
  have HB := binary_ok 1 2 (by omega) (by omega) bin2.1 bin2.2
  unfold fieldE at HB ⊢
  have hT2 := hT.next (below_new w (.cells #[.int .i64 0, .int .i64 0, .int .i64 0] 23))
  have HF := Fd.new w 0 0 0
  have hb0 := below_new w (.cells #[.int .i64 0, .int .i64 0, .int .i64 0] 23)
  go_enter Tryd.func12, Tryd.ntmps12
  go_wp2_with fail
  refine (HB _ hT2).mono ?_
  rintro e w1 ⟨rfl, hb⟩
  have HF1 := HF.next hb
  obtain ⟨c1, c2, c3⟩ := HF1.cells
  obtain ⟨f1, f2, f3⟩ := HF1.frozen
  have hlt := HF1.lt
  obtain ⟨t1, t2, t3⟩ := set_three c1 c2 c3 (.int .i64 2) (.int .i64 2) (.int .i64 2)
  go_wp2
  exact bodyPost_ret (v := .tuple #[.agg #[.int .i64 2, .int .i64 2, .int .i64 2], .int .i64 0]) (by simp [results, Tryd.results12, go_sem, t1, t2, t3]) rfl ⟨rfl, below_three (below_step hb0 hb) (Nat.le_refl _) _ _ _⟩
set_option maxRecDepth 100000 in
theorem primeF_no (n : Nat) (h2 : 2 < n) (hn : n ≤ 4096) (h : HasF n) (w : World) (hT : Tb w) : Calls Tryd.prog 12 #[.int .i64 (n : Int)] w fun e w' => e = .returned (fieldE 0 0 0 1) ∧ Below w.heap.size w w' := by
  have HI := isPrime_any n hn false ⟨fun hh => (by cases hh), fun hh => absurd h hh⟩
  unfold fieldE
  have hT2 := hT.next (below_new w (.cells #[.int .i64 0, .int .i64 0, .int .i64 0] 23))
  have hd1 : decide ((n : Int) < 2) = false := decide_eq_false (by omega)
  have hd2 : decide (4096 < (n : Int)) = false := decide_eq_false (by omega)
  have hd3 : ¬ (n : Int) = 2 := by omega
  clear h hn h2
  generalize (n : Int) = z at *
  go_enter Tryd.func12, Tryd.ntmps12
  go_wp2_with fail
  refine (HI _ hT2).mono ?_
  rintro e w1 ⟨rfl, rfl⟩
  go_wp2
  exact bodyPost_ret (v := .tuple #[.agg #[.int .i64 0, .int .i64 0, .int .i64 0], .int .i64 1]) (by simp [results, Tryd.results12, go_sem]) rfl ⟨rfl, below_new _ _⟩
set_option maxRecDepth 100000 in
theorem primeF_ok (n : Nat) (h2 : 2 < n) (hn : n ≤ 4096) (h : ¬ HasF n) (w : World) (hT : Tb w) : Calls Tryd.prog 12 #[.int .i64 (n : Int)] w fun e w' => e = .returned (fieldE n n 0 0) ∧ Below w.heap.size w w' := by
  have HI := isPrime_any n hn true ⟨fun _ => h, fun _ => rfl⟩
  unfold fieldE
  have hT2 := hT.next (below_new w (.cells #[.int .i64 0, .int .i64 0, .int .i64 0] 23))
  have hd1 : decide ((n : Int) < 2) = false := decide_eq_false (by omega)
  have hd2 : decide (4096 < (n : Int)) = false := decide_eq_false (by omega)
  have hd3 : ¬ (n : Int) = 2 := by omega
  clear h hn h2
  generalize (n : Int) = z at *
  go_enter Tryd.func12, Tryd.ntmps12
  go_wp2_with fail
  refine (HI _ hT2).mono ?_
  rintro e w1 ⟨rfl, rfl⟩
  go_wp2
  exact bodyPost_ret (v := .tuple #[.agg #[.int .i64 z, .int .i64 z, .int .i64 0], .int .i64 0]) (by simp [results, Tryd.results12, go_sem]) rfl ⟨rfl, below_new _ _⟩
end Go.Proofs.YtjbaleadahefoaaDoor
