/- Contracts on integers: Add. -/
import Derived.Test.YtebbpodcldndjaaW9
import Derived.Test.YtebbpodcldndjaaWa
set_option linter.unusedVariables false
namespace Go.Proofs.Ytebbpodcldndjaa
open Go.RowKit

/-- an integer in normal form -/
def Vd (neg : Bool) (v : Nat) : Prop := (neg = true → v ≠ 0) ∧ (enc v).length ≤ 512
theorem validB_of {neg : Bool} {v : Nat} (h : Vd neg v) : validB neg (enc v) = true := by
  unfold validB
  by_cases h0 : (enc v).length = 0
  · rw [if_pos h0]
    have := enc_eq_nil h0
    cases neg
    · rfl
    · exact absurd this (h.1 rfl)
  · rw [if_neg h0, decide_eq_true h.2, Bool.true_and]
    rcases top_enc v with ht | ht
    · exact absurd (by rw [ht]; rfl) h0
    · exact decide_eq_true ht
theorem of_validB {neg : Bool} {l : List Nat} (hok : Ok l) (h : validB neg l = true) : l = enc (val l) ∧ Vd neg (val l) := by
  unfold validB at h
  by_cases h0 : l.length = 0
  · obtain rfl := List.eq_nil_of_length_eq_zero h0
    rw [if_pos h0] at h
    refine ⟨by rw [val_nil, enc_zero], fun e => ?_, by rw [val_nil, enc_zero]; simp⟩
    subst e
    cases h
  · rw [if_neg h0] at h
    simp only [Bool.and_eq_true, decide_eq_true_eq] at h
    have e := enc_val l hok (.inr h.2)
    refine ⟨e.symm, fun _ e0 => ?_, by rw [e]; exact h.1⟩
    rw [e0, enc_zero] at e
    rw [← e] at h0
    exact h0 rfl

theorem valid_true {neg : Bool} {v n c : Nat} {A : Option Addr} {w : World} (h : Vd neg v) (hs : Sl w w.heap.size A n c (ml (enc v))) :
    Calls Try.prog 36 #[.agg #[.bool neg, .slice A n c]] w fun e w' => e = .returned (.bool true) ∧ Below w.heap.size w w' := by
  have := valid_any neg A n c (enc v) w hs (ok_enc v)
  rwa [validB_of h] at this
theorem rValid_true {neg : Bool} {v n c : Nat} {A : Option Addr} {w : World} (h : Vd neg v) (hs : Sl w w.heap.size A n c (ml (enc v))) :
    Calls Try.prog 37 #[.agg #[.bool neg, .slice A n c]] w fun e w' => e = .returned (.bool true) ∧ Below w.heap.size w w' := by
  have := rValid_any neg A n c (enc v) w hs (ok_enc v)
  rwa [validB_of h] at this
theorem valid_false {neg : Bool} {l : List Nat} {n c : Nat} {A : Option Addr} {w : World} (h : validB neg l = false) (hok : Ok l) (hs : Sl w w.heap.size A n c (ml l)) :
    Calls Try.prog 36 #[.agg #[.bool neg, .slice A n c]] w fun e w' => e = .returned (.bool false) ∧ Below w.heap.size w w' := by
  have := valid_any neg A n c l w hs hok
  rwa [h] at this
theorem rValid_false {neg : Bool} {l : List Nat} {n c : Nat} {A : Option Addr} {w : World} (h : validB neg l = false) (hok : Ok l) (hs : Sl w w.heap.size A n c (ml l)) :
    Calls Try.prog 37 #[.agg #[.bool neg, .slice A n c]] w fun e w' => e = .returned (.bool false) ∧ Below w.heap.size w w' := by
  have := rValid_any neg A n c l w hs hok
  rwa [h] at this

theorem sum_any (x y : Value) (neg neg' : Bool) (a b : Nat) (w : World) (hx : Zi w x neg a) (hy : Zi w y neg' b) (h1 : (enc a).length ≤ 512) (h2 : (enc b).length ≤ 512) :
    Calls Try.prog 52 #[x, y] w (GiveI (sumS neg a neg' b).1 (sumS neg a neg' b).2 w) := by
  obtain ⟨A, c, rfl, hs⟩ := hx
  obtain ⟨A', c', rfl, hs'⟩ := hy
  unfold sumS
  by_cases h : neg = neg'
  · subst h
    rw [if_pos rfl]
    exact sum_same neg A A' _ c _ c' a b w hs hs' (by omega) (by omega)
  · rw [if_neg h]
    obtain rfl : neg' = !neg := by cases neg <;> cases neg' <;> simp_all
    by_cases hab : b ≤ a
    · rw [if_pos hab]
      exact sum_ge neg A A' _ c _ c' a b w hs hs' (by omega) (by omega) hab
    · rw [if_neg hab]
      exact sum_lt neg A A' _ c _ c' a b w hs hs' (by omega) (by omega) (by omega)

/-- what Add returns -/
def addS (neg : Bool) (a : Nat) (neg' : Bool) (b : Nat) : Bool × Nat × Int := limS (sumS neg a neg' b).1 (sumS neg a neg' b).2

set_option maxRecDepth 100000 in
theorem add2_any (x y : Value) (neg neg' : Bool) (a b : Nat) (w : World) (hx : Zi w x neg a) (hy : Zi w y neg' b) (hva : Vd neg a) (hvb : Vd neg' b) :
    Calls Try.prog 15 #[x, y] w (GiveE (addS neg a neg' b).1 (addS neg a neg' b).2.1 (addS neg a neg' b).2.2 w) := by
  obtain ⟨A1, c1, rfl, hs1⟩ := hx
  obtain ⟨A2, c2, rfl, hs2⟩ := hy
  obtain ⟨n1, hn1⟩ : ∃ n, (enc a).length = n := ⟨_, rfl⟩
  obtain ⟨n2, hn2⟩ : ∃ n, (enc b).length = n := ⟨_, rfl⟩
  have HN1 := Lib.hid hn1
  have HN2 := Lib.hid hn2
  rw [hn1] at hs1 ⊢
  rw [hn2] at hs2 ⊢
  clear hn1 hn2
  have hb1 := below_new w (.cells #[.bool neg, .slice A1 n1 c1] 24)
  have hb2 := below_new (w.alloc (.cells #[.bool neg, .slice A1 n1 c1] 24)) (.cells #[.bool neg', .slice A2 n2 c2] 24)
  have hb3 := below_new ((w.alloc (.cells #[.bool neg, .slice A1 n1 c1] 24)).alloc (.cells #[.bool neg', .slice A2 n2 c2] 24)) (.cells #[.bool false, .slice none 0 0] 24)
  have HA := (((At.new w (.bool neg) (.slice A1 n1 c1)).next hb2).next hb3)
  have HA2 := ((At.new (w.alloc (.cells #[.bool neg, .slice A1 n1 c1] 24)) (.bool neg') (.slice A2 n2 c2)).next hb3)
  have HR := (At.new ((w.alloc (.cells #[.bool neg, .slice A1 n1 c1] 24)).alloc (.cells #[.bool neg', .slice A2 n2 c2] 24)) (.bool false) (.slice none 0 0))
  have HB := (below_step (below_step hb1 hb2) hb3)
  have h1 := (((hs1.next hb1).next hb2).next hb3)
  have h2 := (((hs2.next hb1).next hb2).next hb3)
  have e1 : (w.alloc (.cells #[.bool neg, .slice A1 n1 c1] 24)).heap.size = w.heap.size + 1 := by simp
  have e2 : ((w.alloc (.cells #[.bool neg, .slice A1 n1 c1] 24)).alloc (.cells #[.bool neg', .slice A2 n2 c2] 24)).heap.size = w.heap.size + 2 := by simp
  rw [e1] at HA2
  rw [e2] at HR
  obtain ⟨s, v, hsum⟩ : ∃ s v, sumS neg a neg' b = (s, v) := ⟨_, _, rfl⟩
  have HSUM : Hid (∀ W : World, Sl W W.heap.size A1 n1 c1 (ml (enc a)) → Sl W W.heap.size A2 n2 c2 (ml (enc b)) → Calls Try.prog 52 #[.agg #[.bool neg, .slice A1 n1 c1], .agg #[.bool neg', .slice A2 n2 c2]] W (GiveI s v W)) := by
    intro W g1 g2
    have := sum_any _ _ neg neg' a b W ⟨A1, c1, rfl, by rw [HN1.out]; exact g1⟩ ⟨A2, c2, rfl, by rw [HN2.out]; exact g2⟩ hva.2 hvb.2
    rwa [hsum, HN1.out, HN2.out] at this
  have hadd : addS neg a neg' b = limS s v := by unfold addS; rw [hsum]
  rw [hadd]
  obtain ⟨r1, r2, r3, hlim⟩ : ∃ r1 r2 r3, limS s v = (r1, r2, r3) := ⟨_, _, _, rfl⟩
  have HL := Lib.hid hlim
  rw [hlim]
  clear hb1 hb2 hb3 e1 e2 hs1 hs2 hsum hadd hlim
  go_enter Try.func15, Try.ntmps15
  go_wp2_with fail
  refine (valid_true hva h1).mono ?_
  rintro e w3 ⟨rfl, hb3⟩
  replace h1 := h1.next hb3
  replace h2 := h2.next hb3
  replace HA := HA.next hb3
  replace HA2 := HA2.next hb3
  replace HR := HR.next hb3
  replace HB := below_step HB hb3
  clear hb3
  obtain ⟨a1, a2, _, _⟩ := HA.facts
  obtain ⟨a3, a4, _, _⟩ := HA2.facts
  go_wp2_with fail
  refine (valid_true hvb h2).mono ?_
  rintro e w4 ⟨rfl, hb4⟩
  replace h1 := h1.next hb4
  replace h2 := h2.next hb4
  replace HA := HA.next hb4
  replace HA2 := HA2.next hb4
  replace HR := HR.next hb4
  replace HB := below_step HB hb4
  clear hb4 a1 a2 a3 a4
  obtain ⟨a1, a2, _, _⟩ := HA.facts
  obtain ⟨a3, a4, _, _⟩ := HA2.facts
  go_wp2_with fail
  refine (HSUM.out _ h1 h2).mono ?_
  rintro e w5 ⟨x5, rfl, hx5, hb5⟩
  replace HR := HR.next hb5
  replace HB := below_step HB hb5
  clear h1 h2 HA HA2 hb5 a1 a2 a3 a4 HSUM
  go_wp2_with fail
  refine (limited_any _ s v _ hx5).mono ?_
  rw [HL.out]
  rintro e w6 ⟨x6, rfl, ⟨A6, c6, rfl, hs6⟩, hb6⟩
  replace HR := HR.next hb6
  replace HB := below_step HB hb6
  obtain ⟨t1, t2, t3, t4⟩ := HR.facts
  go_wp2
  refine bodyPost_ret (v := .tuple #[.agg #[.bool r1, .slice A6 (enc r2).length c6], .int .i64 r3]) (by simp [results, Try.results15, go_sem, t1, t2]) rfl ⟨_, rfl, ?_, below_two HB (by omega) _ _⟩
  exact Zi.store HR ⟨A6, c6, rfl, hs6⟩ _ _
end Go.Proofs.Ytebbpodcldndjaa
