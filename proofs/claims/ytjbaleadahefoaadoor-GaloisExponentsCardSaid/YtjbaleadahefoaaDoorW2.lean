/- Contracts of package galois: isIrreducible, isPrime, over the two tables. -/
import Derived.Test.YtjbaleadahefoaaDoorW1
import Derived.Laws.Rows
set_option linter.unusedVariables false
namespace Go.Proofs.YtjbaleadahefoaaDoor
open Go.RowKit

section
variable {P : Program}
theorem run_index_arr (t e : TypeId) (n : Nat) (cs : Array Value) (kd : IntKind) (k : Nat) (v : Value) (w : World) (hk : k < n) (hu : P.underlying t = some (.array n e)) (he : (isAgg e).run P w = .ok false w) (hs : (P.info? e).map (·.size) = some 1) (hc : cs[k]? = some v) :
    (Instr.index t (.agg cs) (.int kd (k : Int))).run P w = .ok v w := by
  have hn : (0 : Int) ≤ k ∧ (k : Int) < n := by omega
  cases hq : P.info? e with
  | none => simp [hq] at hs
  | some i =>
    have hz : i.size = 1 := by simpa [hq] using hs
    have hsz : (Go.sizeOf e).run P w = .ok 1 w := by simp [Go.sizeOf, typeInfo, hq, hz]
    have hif : (if (0 : Int) ≤ (k : Int) ∧ (k : Int) < (n : Int) then True else False) = True := by simp; omega
    simp [Instr.index, run_underlying hu, asIntOf, go_sem, part, he, hsz, hk, hc]
theorem wpList_index_arr {ops : Array Oper} {rest : List Oper} {o : Oper} {a : Act} {w : World} {Q : Exit → Act → World → Prop} (hgd : o.guard = none) (t e : TypeId) (x ix : Operand) (ho : o.op = .index t x ix)
    (n : Nat) (cs : Array Value) (kd : IntKind) (k : Nat) (v : Value) (hx : a.eval x = .agg cs) (hi : a.eval ix = .int kd (k : Int)) (hk : k < n) (hu : P.underlying t = some (.array n e)) (he : (isAgg e).run P w = .ok false w) (hs : (P.info? e).map (·.size) = some 1) (hc : cs[k]? = some v)
    (h : wpList P ops Q rest (a.put o.dst v) w) : wpList P ops Q (o :: rest) a w :=
  wpList_plain hgd fun _ hK => by
    unfold Oper.wp execOp
    simp only [ho, hx, hi, Sem.run_bind, Sem.run_pure, run_index_arr t e n cs kd k v w hk hu he hs hc, Result.andThen_ok]
    exact hK _ _ h
end
/-- the tables' cells -/
def irrC : Array Value := (smallIrr.map fun (z : Nat) => Value.int .i64 (z : Int)).toArray
def priC : Array Value := (smallPri.map fun (z : Nat) => Value.int .i64 (z : Int)).toArray
/-- the two package-level tables hold what their initialisers lay -/
structure Tb (w : World) : Prop where
  irr : ∃ t fr, w.heap[0]? = some (.cells irrC t fr)
  pri : ∃ t fr, w.heap[1]? = some (.cells priC t fr)
theorem Tb.keep {w w' : World} (h : Tb w) (h0 : w'.heap[0]? = w.heap[0]?) (h1 : w'.heap[1]? = w.heap[1]?) : Tb w' := ⟨by rw [h0]; exact h.irr, by rw [h1]; exact h.pri⟩
theorem Tb.lt {w : World} (h : Tb w) : 2 ≤ w.heap.size := by
  obtain ⟨t, fr, hp⟩ := h.pri
  exact (Array.getElem?_eq_some_iff.1 hp).1
theorem Tb.below {w w' : World} {B : Nat} (h : Tb w) (hB : 2 ≤ B) (hb : Below B w w') : Tb w' := h.keep (hb.block 0 (by omega)) (hb.block 1 (by omega))
theorem Tb.next {w w' : World} (h : Tb w) (hb : Below w.heap.size w w') : Tb w' := h.below h.lt hb
theorem arr23 : (Tryd.prog.info? 62).map (·.size) = some irrC.size := by kernel_rfl
theorem arr18 : (Tryd.prog.info? 63).map (·.size) = some priC.size := by kernel_rfl
theorem irr_at (k : Nat) (h : k < 23) : ∃ t : Nat, smallIrr[k]? = some t ∧ irrC[k]? = some (.int .i64 (t : Int)) ∧ 2 ≤ t ∧ t < 128 := by
  have hl : smallIrr.length = 23 := rfl
  obtain ⟨t, ht⟩ : ∃ t, smallIrr[k]? = some t := ⟨_, List.getElem?_eq_getElem (by omega)⟩
  refine ⟨t, ht, ?_, ?_⟩
  · simp [irrC, ht]
  · exact irr_two t (List.mem_of_getElem? ht)
theorem pri_at (k : Nat) (h : k < 18) : ∃ t : Nat, smallPri[k]? = some t ∧ priC[k]? = some (.int .i64 (t : Int)) ∧ 2 ≤ t ∧ t < 64 := by
  have hl : smallPri.length = 18 := rfl
  obtain ⟨t, ht⟩ : ∃ t, smallPri[k]? = some t := ⟨_, List.getElem?_eq_getElem (by omega)⟩
  refine ⟨t, ht, ?_, ?_⟩
  · simp [priC, ht]
  · exact pri_two t (List.mem_of_getElem? ht)
/-- t divides n and is at most its root -/
def pdv (n t : Nat) : Bool := decide (t * t ≤ n) && (n % t == 0)
/-- the first k of the table hold no divisor -/
def noP (n k : Nat) : Prop := ∀ j t, j < k → smallPri[j]? = some t → pdv n t = false
theorem noP_all {n : Nat} (h : noP n 18) (hn : n ≤ 4096) : ¬ HasF n := by
  rw [hasF_table hn]
  rintro ⟨t, ht, h1, h2⟩
  obtain ⟨j, hj⟩ := List.getElem?_of_mem ht
  have hl : j < 18 := (List.getElem?_eq_some_iff.1 hj).1
  have := h j t hl hj
  simp [pdv, h1, h2] at this
theorem int_one (w : World) : (isAgg 3).run Tryd.prog w = .ok false w := by kernel_rfl
theorem int_size : (Tryd.prog.info? 3).map (·.size) = some 1 := by kernel_rfl
theorem noP_step {n k t : Nat} (h : noP n k) (ht : smallPri[k]? = some t) (hv : pdv n t = false) : noP n (k + 1) := by
  intro j u hj hu
  rcases Nat.lt_or_ge j k with h1 | h1
  · exact h j u h1 hu
  · obtain rfl : j = k := by omega
    rw [ht] at hu
    cases hu
    exact hv
theorem pdv_has {n k t : Nat} (hn : n ≤ 4096) (ht : smallPri[k]? = some t) (hv : pdv n t = true) : HasF n := by
  rw [hasF_table hn]
  simp only [pdv, Bool.and_eq_true, decide_eq_true_eq, beq_iff_eq] at hv
  exact ⟨t, List.mem_of_getElem? ht, hv.1, hv.2⟩
theorem no_of {b : Bool} {p : Prop} (h : b = true ↔ ¬ p) (hp : p) : b = false := by
  cases b
  · rfl
  · exact absurd hp (h.1 rfl)
set_option maxRecDepth 100000 in
theorem isPrime_any (n : Nat) (hn : n ≤ 4096) (b : Bool) (hb : b = true ↔ ¬ HasF n) (w : World) (hT : Tb w) : Calls Tryd.prog 44 #[.int .i64 (n : Int)] w fun e w' => e = .returned (.bool b) ∧ w = w' := by
  obtain ⟨T, fr, hp⟩ := hT.pri
  have HN := Lib.hid hn
  have HB := Lib.hid hb
  clear hb
  have hn0 : (n : Int) ≤ 4096 := by omega
  have hn1 : (0 : Int) ≤ n := by omega
  obtain ⟨z, hz⟩ : ∃ z : Int, (n : Int) = z := ⟨_, rfl⟩
  have HZ := Lib.hid hz
  rw [hz] at hn0 hn1 ⊢
  clear hn hT hz
  go_enter Tryd.func44, Tryd.ntmps44
  go_wp2_with (refine wpList_load_row rfl 63 (.global 1) (by rfl) 1 (by rfl) T priC fr _ hp Tryd.underlying63 rfl arr18 ?_)
  obtain ⟨M, hM⟩ : ∃ M : Nat, M = 18 := ⟨_, rfl⟩
  have HM := Lib.hid hM
  clear hM
  go_loop [6] (fun x => ∃ k : Nat, x = .int .i64 (k : Int) ∧ Hid (k ≤ 18 ∧ noP n k)) (fun x => M - (intOf x).toNat)
  case atStart => exact ⟨0, rfl, Lib.hid ⟨by omega, fun j t h => by omega⟩⟩
  case round =>
    obtain ⟨k, rfl, hno⟩ := hrel
    by_cases hk18 : k < 18
    · obtain ⟨t, ht, hc, h2, h64⟩ := pri_at k hk18
      have HK := Lib.hid hk18
      have HT := Lib.hid ht
      have hkd : decide ((k : Int) < 18) = true := decide_eq_true (by omega)
      have hkb : (k : Int) ≤ 100 := by omega
      have h2i : (2 : Int) ≤ (t : Int) := by omega
      have h64i : (t : Int) < 64 := by omega
      have htt : (t : Int) * (t : Int) ≤ 4096 := by
        have := Nat.mul_le_mul (Nat.le_of_lt h64) (Nat.le_of_lt h64)
        rw [← Int.natCast_mul]; omega
      have htt0 : (0 : Int) ≤ (t : Int) * (t : Int) := by rw [← Int.natCast_mul]; omega
      have HV : Hid (pdv n t = (decide ((t : Int) * (t : Int) ≤ z) && (z % (t : Int) == 0))) := by
        refine Lib.hid ?_
        rw [← HZ.out, ← Int.natCast_mul, ← Int.natCast_emod]
        unfold pdv
        congr 1
        · exact decide_eq_decide.2 (by omega)
        · rcases Nat.eq_zero_or_pos (n % t) with h | h
          · rw [h]; rfl
          · rw [beq_eq_false_iff_ne.2 (by omega), beq_eq_false_iff_ne.2 (by omega)]
      clear ht hk18 h2 h64
      by_cases hc1 : (t : Int) * (t : Int) ≤ z
      · by_cases hc2 : z % (t : Int) = 0
        · have HH : Hid (HasF n) := Lib.hid (pdv_has HN.out HT.out (by rw [HV.out, decide_eq_true hc1, hc2]; rfl))
          go_wp2_with (refine wpList_index_arr rfl 63 3 (.tmp 5) (.tmp 6) (by rfl) 18 priC .i64 k _ (by rfl) (by rfl) HK.out Tryd.underlying63 (int_one _) int_size hc ?_)
          go_ret
          have hbf := no_of HB.out HH.out
          exact ⟨by rw [hbf]; rfl, rfl⟩
        · have HS : Hid (k + 1 ≤ 18 ∧ noP n (k + 1)) := Lib.hid ⟨HK.out, noP_step hno.out.2 HT.out (by rw [HV.out, beq_eq_false_iff_ne.2 hc2]; simp)⟩
          go_wp2_with (refine wpList_index_arr rfl 63 3 (.tmp 5) (.tmp 6) (by rfl) 18 priC .i64 k _ (by rfl) (by rfl) HK.out Tryd.underlying63 (int_one _) int_size hc ?_)
          go_round
          case rel => exact ⟨k + 1, by go_num, HS⟩
          case measure => have := HK.out; have := HM.out; simp [intOf]; omega
      · have HS : Hid (k + 1 ≤ 18 ∧ noP n (k + 1)) := Lib.hid ⟨HK.out, noP_step hno.out.2 HT.out (by rw [HV.out, decide_eq_false hc1]; rfl)⟩
        go_wp2_with (refine wpList_index_arr rfl 63 3 (.tmp 5) (.tmp 6) (by rfl) 18 priC .i64 k _ (by rfl) (by rfl) HK.out Tryd.underlying63 (int_one _) int_size hc ?_)
        go_round
        case rel => exact ⟨k + 1, by go_num, HS⟩
        case measure => have := HK.out; have := HM.out; simp [intOf]; omega
    · have HE : Hid (¬ HasF n) := by
        have h1 := hno.out
        obtain rfl : k = 18 := by omega
        exact Lib.hid (noP_all h1.2 HN.out)
      have hkd : decide ((k : Int) < 18) = false := decide_eq_false (by omega)
      clear hk18
      go_wp2
      go_ret
      have hbt := HB.out.2 HE.out
      exact ⟨by rw [hbt]; rfl, rfl⟩

/-- t divides p (whose degree is D) and has at most half its degree -/
def idv (p D t : Nat) : Bool := decide (2 * Nat.log2 t ≤ D) && (rm p t == 0)
def noI (p D k : Nat) : Prop := ∀ j t, j < k → smallIrr[j]? = some t → idv p D t = false
theorem noI_all {p D : Nat} (h : noI p D 23) (hD : D ≤ 12) (hp : p < 2 ^ 32) : ¬ HasD p D := by
  rw [hasD_table hD hp]
  rintro ⟨t, ht, h1, h2⟩
  obtain ⟨j, hj⟩ := List.getElem?_of_mem ht
  have hl : j < 23 := (List.getElem?_eq_some_iff.1 hj).1
  have := h j t hl hj
  simp [idv, h1, h2] at this
theorem noI_step {p D k t : Nat} (h : noI p D k) (ht : smallIrr[k]? = some t) (hv : idv p D t = false) : noI p D (k + 1) := by
  intro j u hj hu
  rcases Nat.lt_or_ge j k with h1 | h1
  · exact h j u h1 hu
  · obtain rfl : j = k := by omega
    rw [ht] at hu
    cases hu
    exact hv
theorem idv_has {p D k t : Nat} (hD : D ≤ 12) (hp : p < 2 ^ 32) (ht : smallIrr[k]? = some t) (hv : idv p D t = true) : HasD p D := by
  rw [hasD_table hD hp]
  simp only [idv, Bool.and_eq_true, decide_eq_true_eq, beq_iff_eq] at hv
  exact ⟨t, List.mem_of_getElem? ht, hv.1, hv.2⟩
set_option maxRecDepth 100000 in
theorem isIrreducible_any (p D : Nat) (h : Deg p D) (hD : D ≤ 12) (b : Bool) (hb : b = true ↔ ¬ HasD p D) (w : World) (hT : Tb w) : Calls Tryd.prog 42 #[.int .i64 (p : Int)] w fun e w' => e = .returned (.bool b) ∧ w = w' := by
  obtain ⟨T, fr, hp⟩ := hT.irr
  have HB := Lib.hid hb
  have hp0 : 0 < p := Nat.lt_of_lt_of_le (Nat.pow_pos (by omega)) h.1
  have hp13 : p < 8192 := Nat.lt_of_lt_of_le h.2 (Nat.pow_le_pow_right (n := 2) (by omega) (show D + 1 ≤ 13 by omega))
  have HP := Lib.hid (show D ≤ 12 ∧ p < 2 ^ 32 from ⟨hD, by omega⟩)
  have HDP := degreeOf_any p (by omega)
  rw [dgI_pos hp0, deg_unique h] at HDP
  have hD12 : (D : Int) ≤ 12 := by omega
  have HT2 : Hid (∀ t : Nat, 2 ≤ t → t < 128 → ∃ (L R : Nat), L ≤ 6 ∧ (∀ w, Calls Tryd.prog 41 #[.int .i64 (t : Int)] w fun e w' => e = .returned (.int .i64 (L : Int)) ∧ w = w') ∧ (∀ w, Calls Tryd.prog 63 #[.int .i64 (p : Int), .int .i64 (t : Int)] w fun e w' => e = .returned (.int .i64 (R : Int)) ∧ w = w') ∧ Hid (idv p D t = (decide (2 * (L : Int) ≤ (D : Int)) && ((R : Int) == 0)))) := by
    refine Lib.hid ?_
    intro t h2 h128
    have hl := log_lt (p := t) (n := 7) (by omega) h128
    refine ⟨Nat.log2 t, rm p t, by omega, ?_, remainder_any p t (Nat.log2 t) (deg_log t (by omega)) (by omega) (by omega), Lib.hid ?_⟩
    · have := degreeOf_any t (by omega)
      rwa [dgI_pos (by omega)] at this
    · unfold idv
      congr 1
      · exact decide_eq_decide.2 (by omega)
      · rcases Nat.eq_zero_or_pos (rm p t) with h | h
        · rw [h]; rfl
        · rw [beq_eq_false_iff_ne.2 (by omega), beq_eq_false_iff_ne.2 (by omega)]
  clear hb hp0 hp13 h hD hT
  go_enter Tryd.func42, Tryd.ntmps42
  go_wp2_with (refine wpList_load_row rfl 62 (.global 0) (by rfl) 0 (by rfl) T irrC fr _ hp Tryd.underlying62 rfl arr23 ?_)
  obtain ⟨M, hM⟩ : ∃ M : Nat, M = 23 := ⟨_, rfl⟩
  have HM := Lib.hid hM
  clear hM
  go_loop [6] (fun x => ∃ k : Nat, x = .int .i64 (k : Int) ∧ Hid (k ≤ 23 ∧ noI p D k)) (fun x => M - (intOf x).toNat)
  case atStart => exact ⟨0, rfl, Lib.hid ⟨by omega, fun j t h => by omega⟩⟩
  case round =>
    obtain ⟨k, rfl, hno⟩ := hrel
    by_cases hk18 : k < 23
    · obtain ⟨t, ht, hc, h2, h64⟩ := irr_at k hk18
      obtain ⟨L, R, hL, HL, HR, HV⟩ := HT2.out t h2 h64
      have HK := Lib.hid hk18
      have HT := Lib.hid ht
      have hkd : decide ((k : Int) < 23) = true := decide_eq_true (by omega)
      have hkb : (k : Int) ≤ 100 := by omega
      have hLI : (L : Int) ≤ 6 := by omega
      clear ht hk18 h2 h64 hL
      by_cases hc1 : 2 * (L : Int) ≤ (D : Int)
      · by_cases hc2 : (R : Int) = 0
        · have HH : Hid (HasD p D) := Lib.hid (idv_has HP.out.1 HP.out.2 HT.out (by rw [HV.out, decide_eq_true hc1, hc2]; rfl))
          go_wp2_with (refine wpList_index_arr rfl 62 3 (.tmp 5) (.tmp 6) (by rfl) 23 irrC .i64 k _ (by rfl) (by rfl) HK.out Tryd.underlying62 (int_one _) int_size hc ?_)
          refine (HL _).mono ?_
          rintro e w1 ⟨rfl, rfl⟩
          go_wp2_with fail
          refine (HDP _).mono ?_
          rintro e w1 ⟨rfl, rfl⟩
          go_wp2_with fail
          refine (HR _).mono ?_
          rintro e w1 ⟨rfl, rfl⟩
          go_wp2
          go_ret
          have hbf := no_of HB.out HH.out
          exact ⟨by rw [hbf]; rfl, rfl⟩
        · have HS : Hid (k + 1 ≤ 23 ∧ noI p D (k + 1)) := Lib.hid ⟨HK.out, noI_step hno.out.2 HT.out (by rw [HV.out, beq_eq_false_iff_ne.2 hc2]; simp)⟩
          go_wp2_with (refine wpList_index_arr rfl 62 3 (.tmp 5) (.tmp 6) (by rfl) 23 irrC .i64 k _ (by rfl) (by rfl) HK.out Tryd.underlying62 (int_one _) int_size hc ?_)
          refine (HL _).mono ?_
          rintro e w1 ⟨rfl, rfl⟩
          go_wp2_with fail
          refine (HDP _).mono ?_
          rintro e w1 ⟨rfl, rfl⟩
          go_wp2_with fail
          refine (HR _).mono ?_
          rintro e w1 ⟨rfl, rfl⟩
          go_wp2
          go_round
          case rel => exact ⟨k + 1, by go_num, HS⟩
          case measure => have := HK.out; have := HM.out; simp [intOf]; omega
      · have HS : Hid (k + 1 ≤ 23 ∧ noI p D (k + 1)) := Lib.hid ⟨HK.out, noI_step hno.out.2 HT.out (by rw [HV.out, decide_eq_false hc1]; rfl)⟩
        go_wp2_with (refine wpList_index_arr rfl 62 3 (.tmp 5) (.tmp 6) (by rfl) 23 irrC .i64 k _ (by rfl) (by rfl) HK.out Tryd.underlying62 (int_one _) int_size hc ?_)
        refine (HL _).mono ?_
        rintro e w1 ⟨rfl, rfl⟩
        go_wp2_with fail
        refine (HDP _).mono ?_
        rintro e w1 ⟨rfl, rfl⟩
        go_wp2
        go_round
        case rel => exact ⟨k + 1, by go_num, HS⟩
        case measure => have := HK.out; have := HM.out; simp [intOf]; omega
    · have HE : Hid (¬ HasD p D) := by
        have h1 := hno.out
        obtain rfl : k = 23 := by omega
        exact Lib.hid (noI_all h1.2 HP.out.1 HP.out.2)
      have hkd : decide ((k : Int) < 23) = false := decide_eq_false (by omega)
      clear hk18
      go_wp2
      go_ret
      have hbt := HB.out.2 HE.out
      exact ⟨by rw [hbt]; rfl, rfl⟩
end Go.Proofs.YtjbaleadahefoaaDoor
