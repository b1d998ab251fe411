/- Contracts on integers: Neg and Cmp, and their specifications. -/
import Derived.Test.YtebbpodcldndjaaWb
set_option linter.unusedVariables false
namespace Go.Proofs.Ytebbpodcldndjaa
open Go.RowKit

theorem Mag.out {l : List Nat} {n : Nat} {w w' : World} {e : Ending} (h : Mag l w e w') (hn : l.length = n) : ∃ A c, e = .returned (.slice A n c) ∧ Sl w' w'.heap.size A n c (ml l) ∧ Below w.heap.size w w' := by
  subst hn
  exact h
/-- worlds behind the boxes of one or two integers, and of a result -/
abbrev bx (p q : Value) : Obj := .cells #[p, q] 24
abbrev bx0 : Obj := bx (.bool false) (.slice none 0 0)
theorem boxed_ab (w : World) (p q p' q' : Value) :
    At ((w.alloc (bx p q)).alloc (bx p' q')) w.heap.size p q ∧ At ((w.alloc (bx p q)).alloc (bx p' q')) (w.heap.size + 1) p' q' ∧ Below w.heap.size w ((w.alloc (bx p q)).alloc (bx p' q')) ∧
    ∀ A n c l, Sl w w.heap.size A n c (ml l) → Sl ((w.alloc (bx p q)).alloc (bx p' q')) ((w.alloc (bx p q)).alloc (bx p' q')).heap.size A n c (ml l) := by
  have hb1 := below_new w (bx p q)
  have hb2 := below_new (w.alloc (bx p q)) (bx p' q')
  have e1 : (w.alloc (bx p q)).heap.size = w.heap.size + 1 := by simp
  have h2 := At.new (w.alloc (bx p q)) p' q'
  rw [e1] at h2
  exact ⟨(At.new w p q).next hb2, h2, below_step hb1 hb2, fun A n c l h => (h.next hb1).next hb2⟩
theorem boxed_abr (w : World) (p q p' q' : Value) :
    At (((w.alloc (bx p q)).alloc (bx p' q')).alloc bx0) w.heap.size p q ∧ At (((w.alloc (bx p q)).alloc (bx p' q')).alloc bx0) (w.heap.size + 1) p' q' ∧ At (((w.alloc (bx p q)).alloc (bx p' q')).alloc bx0) (w.heap.size + 2) (.bool false) (.slice none 0 0) ∧
    Below w.heap.size w (((w.alloc (bx p q)).alloc (bx p' q')).alloc bx0) ∧
    ∀ A n c l, Sl w w.heap.size A n c (ml l) → Sl (((w.alloc (bx p q)).alloc (bx p' q')).alloc bx0) (((w.alloc (bx p q)).alloc (bx p' q')).alloc bx0).heap.size A n c (ml l) := by
  obtain ⟨h1, h2, hb, hs⟩ := boxed_ab w p q p' q'
  have hb3 := below_new ((w.alloc (bx p q)).alloc (bx p' q')) bx0
  have e2 : ((w.alloc (bx p q)).alloc (bx p' q')).heap.size = w.heap.size + 2 := by simp
  have h3 := At.new ((w.alloc (bx p q)).alloc (bx p' q')) (.bool false) (.slice none 0 0)
  rw [e2] at h3
  exact ⟨h1.next hb3, h2.next hb3, h3, below_step hb hb3, fun A n c l h => (hs A n c l h).next hb3⟩

set_option maxRecDepth 100000 in
set_option maxHeartbeats 4000000 in
theorem neg_any (x : Value) (neg : Bool) (a : Nat) (w : World) (hx : Zi w x neg a) (hva : Vd neg a) :
    Calls Try.prog 20 #[x] w (GiveI (!neg && decide (a ≠ 0)) a w) := by
  obtain ⟨A1, c1, rfl, hs1⟩ := hx
  obtain ⟨n1, hn1⟩ : ∃ n, (enc a).length = n := ⟨_, rfl⟩
  have HN1 := Lib.hid hn1
  rw [hn1] at hs1 ⊢
  have hn : n1 ≤ 512 := by rw [← hn1]; exact hva.2
  clear hn1
  obtain ⟨HA, HR, HB, hS⟩ := boxed_ab w (.bool neg) (.slice A1 n1 c1) (.bool false) (.slice none 0 0)
  have h1 := hS _ _ _ _ hs1
  clear hS hs1
  go_enter Try.func20, Try.ntmps20
  go_wp2_with fail
  refine (valid_true hva h1).mono ?_
  rintro e w3 ⟨rfl, hb3⟩
  obtain ⟨a1, a2, _, _⟩ := (HA.next hb3).facts
  replace h1 := (h1.next hb3).drew
  replace HA := (HA.next hb3).drew
  replace HR := (HR.next hb3).drew
  replace HB := (below_step HB hb3).drew
  have HC := Lib.hid ((clone_any _ _ _ _ _ h1 (by omega)).mono fun _ _ h => h.out HN1.out)
  clear hb3 h1
  go_wp2
  go_region_with (first
    | (go_at_call 59; refine HC.out.mono ?_; rintro e w4 ⟨A4, c4, rfl, hs4, hb4⟩; have HA4 := HA.next hb4; have HR4 := HR.next hb4; obtain ⟨p1, p2, _, _⟩ := HA4.facts; obtain ⟨r1, r2, r3, r4⟩ := HR4.facts; have HB4 := below_step HB hb4)
    | (go_at_call 57; refine (signed_any _ A4 _ c4 _ hs4.small).mono ?_; rintro e w5 ⟨rfl, hb5⟩; have HR5 := HR4.next hb5; obtain ⟨t1, t2, t3, t4⟩ := HR5.facts; have HB5 := below_step HB4 hb5; have hs5 := hs4.next hb5))
  all_goals
    go_wp2
    refine bodyPost_ret (v := .agg #[.bool (!neg && decide (n1 ≠ 0)), .slice A4 n1 c4]) (by simp [results, Try.results20, go_sem, t1, t2]) rfl ⟨_, rfl, ?_, below_two HB5 (by omega) _ _⟩
    rw [← HN1.out, enc_ne]
    rw [← HN1.out] at hs5
    exact Zi.store HR5 ⟨A4, c4, rfl, hs5⟩ _ _

set_option maxRecDepth 100000 in
theorem neg_bad (neg : Bool) (A : Option Addr) (n c : Nat) (l : List Nat) (w : World) (hs : Sl w w.heap.size A n c (ml l)) (hok : Ok l) (hv : validB neg l = false) :
    Calls Try.prog 20 #[.agg #[.bool neg, .slice A n c]] w (GiveI false 0 w) := by
  obtain ⟨HA, HR, HB, hS⟩ := boxed_ab w (.bool neg) (.slice A n c) (.bool false) (.slice none 0 0)
  have h1 := hS _ _ _ _ hs
  clear hS hs
  go_enter Try.func20, Try.ntmps20
  go_wp2_with fail
  refine (valid_false hv hok h1).mono ?_
  rintro e w3 ⟨rfl, hb3⟩
  replace HR := HR.next hb3
  replace HB := below_step HB hb3
  obtain ⟨t1, t2, t3, t4⟩ := HR.facts
  go_wp2
  exact bodyPost_ret (v := .agg #[.bool false, .slice none 0 0]) (by simp [results, Try.results20, go_sem, t1, t2]) rfl ⟨_, rfl, Zi.zero _, below_two HB (by omega) _ _⟩

set_option maxRecDepth 100000 in
theorem rNeg_any (x : Value) (neg : Bool) (a : Nat) (w : World) (hx : Zi w x neg a) (hva : Vd neg a) :
    Calls Try.prog 21 #[x] w (GiveI (!neg && decide (a ≠ 0)) a w) := by
  obtain ⟨A1, c1, rfl, hs1⟩ := hx
  obtain ⟨n1, hn1⟩ : ∃ n, (enc a).length = n := ⟨_, rfl⟩
  have HN1 := Lib.hid hn1
  rw [hn1] at hs1 ⊢
  have hn : n1 ≤ 512 := by rw [← hn1]; exact hva.2
  clear hn1
  obtain ⟨HA, HR, HB, hS⟩ := boxed_ab w (.bool neg) (.slice A1 n1 c1) (.bool false) (.slice none 0 0)
  have h1 := hS _ _ _ _ hs1
  clear hS hs1
  obtain ⟨s, hsg⟩ : ∃ s, (!neg && decide (a ≠ 0)) = s := ⟨_, rfl⟩
  have HSg := Lib.hid hsg
  rw [hsg]
  clear hsg
  go_enter Try.func21, Try.ntmps21
  go_wp2_with fail
  refine (rValid_true hva h1).mono ?_
  rintro e w3 ⟨rfl, hb3⟩
  replace h1 := h1.next hb3
  replace HA := HA.next hb3
  replace HR := HR.next hb3
  replace HB := below_step HB hb3
  obtain ⟨a1, a2, _, _⟩ := HA.facts
  have HC := Lib.hid (rSigned_any (!neg) _ _ _ _ _ h1 (ok_enc a) (by omega))
  rw [val_enc] at HC
  clear hb3 h1
  rw [HSg.out] at HC
  go_wp2_with fail
  refine HC.out.mono ?_
  rintro e w5 ⟨x5, rfl, ⟨A5, c5, rfl, hs5⟩, hb5⟩
  replace HR := HR.next hb5
  replace HB := below_step HB hb5
  obtain ⟨t1, t2, t3, t4⟩ := HR.facts
  go_wp2
  refine bodyPost_ret (v := .agg #[.bool s, .slice A5 (enc a).length c5]) (by simp [results, Try.results21, go_sem, t1, t2]) rfl ⟨_, rfl, ?_, below_two HB (by omega) _ _⟩
  exact Zi.store HR ⟨A5, c5, rfl, hs5⟩ _ _

set_option maxRecDepth 100000 in
theorem rNeg_bad (neg : Bool) (A : Option Addr) (n c : Nat) (l : List Nat) (w : World) (hs : Sl w w.heap.size A n c (ml l)) (hok : Ok l) (hv : validB neg l = false) :
    Calls Try.prog 21 #[.agg #[.bool neg, .slice A n c]] w (GiveI false 0 w) := by
  obtain ⟨HA, HR, HB, hS⟩ := boxed_ab w (.bool neg) (.slice A n c) (.bool false) (.slice none 0 0)
  have h1 := hS _ _ _ _ hs
  clear hS hs
  go_enter Try.func21, Try.ntmps21
  go_wp2_with fail
  refine (rValid_false hv hok h1).mono ?_
  rintro e w3 ⟨rfl, hb3⟩
  replace HR := HR.next hb3
  replace HB := below_step HB hb3
  obtain ⟨t1, t2, t3, t4⟩ := HR.facts
  go_wp2
  exact bodyPost_ret (v := .agg #[.bool false, .slice none 0 0]) (by simp [results, Try.results21, go_sem, t1, t2]) rfl ⟨_, rfl, Zi.zero _, below_two HB (by omega) _ _⟩
end Go.Proofs.Ytebbpodcldndjaa
