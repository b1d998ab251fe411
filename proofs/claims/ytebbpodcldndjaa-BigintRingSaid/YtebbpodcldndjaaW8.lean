/- Contracts on integers: same, sum. -/
import Derived.Test.YtebbpodcldndjaaW7
import Derived.Deep.RegionHeld3
set_option linter.unusedVariables false
namespace Go.Proofs.Ytebbpodcldndjaa
open Go.RowKit

set_option maxRecDepth 100000 in
theorem same_far (b : Bool) (A A' : Option Addr) (n c n' c' : Nat) (w : World) :
    Calls Try.prog 58 #[.agg #[.bool b, .slice A n c], .agg #[.bool (!b), .slice A' n' c']] w fun e w' => e = .returned (.bool false) ∧ Below w.heap.size w w' := by
  cases b
  all_goals
    first | rw [show (!false) = true from rfl] | rw [show (!true) = false from rfl]
    have hd1 : (false != true) = true := rfl
    have hd2 : (true != false) = true := rfl
    go_enter Try.func58, Try.ntmps58
    go_wp2
    go_ret
    exact ⟨rfl, below_step (below_new _ _) (below_new _ _)⟩

theorem rSame_any (x y : Value) (neg neg' : Bool) (v v' : Nat) (w : World) (hx : Zi w x neg v) (hy : Zi w y neg' v') :
    Calls Try.prog 58 #[x, y] w fun e w' => e = .returned (.bool (decide (neg = neg' ∧ v = v'))) ∧ Below w.heap.size w w' := by
  obtain ⟨A, c, rfl, hs⟩ := hx
  obtain ⟨A', c', rfl, hs'⟩ := hy
  by_cases h : neg = neg'
  · subst h
    refine (same_neg neg A A' _ c _ c' (enc v) (enc v') w hs hs' (ok_enc v) (ok_enc v')).mono ?_
    rintro e w' ⟨rfl, hb⟩
    refine ⟨retB ?_, hb⟩
    by_cases hv : v = v'
    · subst hv; simp
    · have : enc v ≠ enc v' := fun e => hv (enc_inj e)
      simp [this, hv]
  · obtain rfl : neg' = !neg := by cases neg <;> cases neg' <;> simp_all
    refine (same_far neg A A' _ c _ c' w).mono ?_
    rintro e w' ⟨rfl, hb⟩
    exact ⟨retB (by simp), hb⟩

set_option maxRecDepth 100000 in
theorem same_any (x y : Value) (neg neg' : Bool) (v v' : Nat) (w : World) (hx : Zi w x neg v) (hy : Zi w y neg' v') :
    Calls Try.prog 19 #[x, y] w fun e w' => e = .returned (.bool (decide (neg = neg' ∧ v = v'))) ∧ Below w.heap.size w w' := by
  obtain ⟨r, hr⟩ : ∃ r, decide (neg = neg' ∧ v = v') = r := ⟨_, rfl⟩
  rw [hr]
  have hx0 := hx
  have hy0 := hy
  obtain ⟨A, c, rfl, hs⟩ := hx
  obtain ⟨A', c', rfl, hs'⟩ := hy
  have hb1 := below_new w (.cells #[.bool neg, .slice A (enc v).length c] 24)
  have hb2 := below_new (w.alloc (.cells #[.bool neg, .slice A (enc v).length c] 24)) (.cells #[.bool neg', .slice A' (enc v').length c'] 24)
  have HS := Lib.hid (rSame_any _ _ neg neg' v v' _ ((hx0.next hb1).next hb2) ((hy0.next hb1).next hb2))
  have HB := Lib.hid (below_step hb1 hb2)
  rw [hr] at HS
  clear hx0 hy0 hs hs' hb1 hb2 hr
  go_enter Try.func19, Try.ntmps19
  go_wp2_with fail
  refine HS.out.mono ?_
  rintro e w' ⟨rfl, hb⟩
  go_wp2
  go_ret
  exact ⟨rfl, below_step HB.out hb⟩

/-- the sum -/
def sumS (neg : Bool) (a : Nat) (neg' : Bool) (b : Nat) : Bool × Nat :=
  if neg = neg' then (neg && decide (a + b ≠ 0), a + b) else if b ≤ a then (neg && decide (a - b ≠ 0), a - b) else (neg' && decide (b - a ≠ 0), b - a)
theorem enc_ne (v : Nat) : decide ((enc v).length ≠ 0) = decide (v ≠ 0) := by
  by_cases h : v = 0
  · subst h; rw [enc_zero]; rfl
  · have := enc_len_pos h
    rw [decide_eq_true h, decide_eq_true (by omega)]
theorem At.drew {w : World} {g : Nat} {u v : Value} (h : At w g u v) : At w.drew g u v := h
theorem Sl.drew {w : World} {A : Option Addr} {n c : Nat} {xs : List Value} (h : Sl w w.heap.size A n c xs) : Sl w.drew w.drew.heap.size A n c xs := ⟨h.1, h.2, h.3, h.4, h.5⟩
theorem Below.drew {B : Nat} {a w : World} (h : Below B a w) : Below B a w.drew := ⟨h.os, h.tape, h.output, h.size, h.block⟩
theorem Sl.small {w : World} {B : Nat} {A : Option Addr} {n c : Nat} {xs : List Value} (h : Sl w B A n c xs) : n ≤ 9223372036854775807 := by
  have h1 := h.le
  have h2 := h.max
  unfold maxLen at h2
  omega

set_option maxRecDepth 100000 in
set_option maxHeartbeats 4000000 in
theorem sum_same (neg : Bool) (A1 A2 : Option Addr) (n1 c1 n2 c2 a b : Nat) (w : World) (hs1 : Sl w w.heap.size A1 n1 c1 (ml (enc a))) (hs2 : Sl w w.heap.size A2 n2 c2 (ml (enc b))) (hn1 : n1 ≤ 1048576) (hn2 : n2 ≤ 1048576) :
    Calls Try.prog 52 #[.agg #[.bool neg, .slice A1 n1 c1], .agg #[.bool neg, .slice A2 n2 c2]] w (GiveI (neg && decide (a + b ≠ 0)) (a + b) w) := by
  have hd1 : (neg == neg) = true := by simp
  have hb1 := below_new w (.cells #[.bool neg, .slice A1 n1 c1] 24)
  have hb2 := below_new (w.alloc (.cells #[.bool neg, .slice A1 n1 c1] 24)) (.cells #[.bool neg, .slice A2 n2 c2] 24)
  have hb3 := below_new ((w.alloc (.cells #[.bool neg, .slice A1 n1 c1] 24)).alloc (.cells #[.bool neg, .slice A2 n2 c2] 24)) (.cells #[.bool false, .slice none 0 0] 24)
  have HA := (((At.new w (.bool neg) (.slice A1 n1 c1)).next hb2).next hb3).drew
  have HA2 := ((At.new (w.alloc (.cells #[.bool neg, .slice A1 n1 c1] 24)) (.bool neg) (.slice A2 n2 c2)).next hb3).drew
  have HR := (At.new ((w.alloc (.cells #[.bool neg, .slice A1 n1 c1] 24)).alloc (.cells #[.bool neg, .slice A2 n2 c2] 24)) (.bool false) (.slice none 0 0)).drew
  have HB := (below_step (below_step hb1 hb2) hb3).drew
  have h1 := (((hs1.next hb1).next hb2).next hb3).drew
  have h2 := (((hs2.next hb1).next hb2).next hb3).drew
  have HADD := Lib.hid (add_any A1 A2 n1 c1 n2 c2 (enc a) (enc b) _ h1 h2 (ok_enc a) (ok_enc b) hn1 hn2)
  rw [val_enc, val_enc] at HADD
  have e1 : (w.alloc (.cells #[.bool neg, .slice A1 n1 c1] 24)).heap.size = w.heap.size + 1 := by simp
  have e2 : ((w.alloc (.cells #[.bool neg, .slice A1 n1 c1] 24)).alloc (.cells #[.bool neg, .slice A2 n2 c2] 24)).heap.size = w.heap.size + 2 := by simp
  rw [e1] at HA2
  rw [e2] at HR
  clear hb1 hb2 hb3 e1 e2 h1 h2 hs1 hs2
  obtain ⟨v, hv⟩ : ∃ v, a + b = v := ⟨_, rfl⟩
  rw [hv] at HADD ⊢
  clear hv
  all_goals
    go_enter Try.func52, Try.ntmps52
    go_wp2
    go_region_held3 (fun w' => w'.cell? ⟨w.heap.size, 0, none⟩ = some (.bool neg) ∧ w'.cell? ⟨w.heap.size, 1, none⟩ = some (.slice A1 n1 c1) ∧ w'.cell? ⟨w.heap.size + 1, 0, none⟩ = some (.bool neg) ∧ w'.cell? ⟨w.heap.size + 1, 1, none⟩ = some (.slice A2 n2 c2))
    (first | (refine ⟨?_, ?_, ?_, ?_⟩ <;> assumption) | (refine ⟨?_, ?_, ?_, ?_⟩ <;> (repeat rw [World.cell?_setCell_other _ _ _ _ (by simp)]) <;> assumption) | go_keep | (refine ⟨?_, ?_, ?_, ?_⟩ <;> simp [*]))
    (first
      | (go_at_call 65; refine HADD.out.mono ?_; rintro e w4 ⟨A4, c4, rfl, hs4, hb4⟩; have HA4 := HA.next hb4; have HA24 := HA2.next hb4; have HR4 := HR.next hb4; obtain ⟨p1, p2, _, _⟩ := HA4.facts; obtain ⟨q1, q2, _, _⟩ := HA24.facts; obtain ⟨r1, r2, r3, r4⟩ := HR4.facts; have HB4 := below_step HB hb4; have hsm := hs4.small)
      | (go_at_call 57; refine (signed_any _ A4 _ c4 _ hsm).mono ?_; rintro e w5 ⟨rfl, hb5⟩; have HR5 := HR4.next hb5; obtain ⟨t1, t2, t3, t4⟩ := HR5.facts; have HB5 := below_step HB4 hb5; have hs5 := hs4.next hb5; have HA5 := HA4.next hb5; have HA25 := HA24.next hb5; obtain ⟨p1', p2', _, _⟩ := HA5.facts; obtain ⟨q1', q2', _, _⟩ := HA25.facts))
    all_goals
      go_wp2
      refine bodyPost_ret (v := .agg #[.bool (neg && decide ((enc v).length ≠ 0)), .slice A4 (enc v).length c4]) (by simp [results, Try.results52, go_sem, t1, t2]) rfl ⟨_, rfl, ?_, below_two HB5 (by omega) _ _⟩
      rw [enc_ne]
      exact Zi.store HR5 ⟨A4, c4, rfl, hs5⟩ _ _
end Go.Proofs.Ytebbpodcldndjaa
