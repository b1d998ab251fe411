/- Contracts on integers: Add and Sub of the specification. -/
import Derived.Test.YtebbpodcldndjaaWd
import Derived.Test.YtebbpodcldndjaaWg
import Derived.Test.YtebbpodcldndjaaWh
import Derived.Test.YtebbpodcldndjaaWi
set_option linter.unusedVariables false
namespace Go.Proofs.Ytebbpodcldndjaa
open Go.RowKit

theorem rAdd_any (x y : Value) (neg neg' : Bool) (a b : Nat) (w : World) (hx : Zi w x neg a) (hy : Zi w y neg' b) (hva : Vd neg a) (hvb : Vd neg' b) :
    Calls Try.prog 16 #[x, y] w (GiveE (addS neg a neg' b).1 (addS neg a neg' b).2.1 (addS neg a neg' b).2.2 w) := by
  obtain ⟨A, c, rfl, hs⟩ := hx
  obtain ⟨A', c', rfl, hs'⟩ := hy
  unfold addS sumS
  by_cases h : neg = neg'
  · subst h
    rw [if_pos rfl]
    exact rAdd_eq neg neg A A' _ c _ c' a b w hs hs' hva hvb (by simp)
  · have hng : (neg == neg') = false := by simpa using h
    rw [if_neg h]
    by_cases hab : b ≤ a
    · rw [if_pos hab]
      exact rAdd_ge neg neg' A A' _ c _ c' a b w hs hs' hva hvb hng hab
    · rw [if_neg hab]
      exact rAdd_lt neg neg' A A' _ c _ c' a b w hs hs' hva hvb hng (by omega)

set_option maxRecDepth 100000 in
set_option maxHeartbeats 4000000 in
theorem rSub_core (neg neg' : Bool) (A1 A2 : Option Addr) (n1 c1 n2 c2 b : Nat) (l1 : List Nat) (r1 : Bool) (r2 : Nat) (r3 : Int) (w : World) (hs1 : Sl w w.heap.size A1 n1 c1 (ml l1)) (hs2 : Sl w w.heap.size A2 n2 c2 (ml (enc b))) (hvb : Vd neg' b)
    (hadd : ∀ (W : World) (y : Value), Zi W y (!neg' && decide (b ≠ 0)) b → Sl W W.heap.size A1 n1 c1 (ml l1) → Calls Try.prog 16 #[.agg #[.bool neg, .slice A1 n1 c1], y] W (GiveE r1 r2 r3 W)) :
    Calls Try.prog 18 #[.agg #[.bool neg, .slice A1 n1 c1], .agg #[.bool neg', .slice A2 n2 c2]] w (GiveE r1 r2 r3 w) := by
  have hl2 : (enc b).length = n2 := by rw [← length_ml]; exact hs2.len
  obtain ⟨HA, HA2, HR, HB, hS⟩ := boxed_abr w (.bool neg) (.slice A1 n1 c1) (.bool neg') (.slice A2 n2 c2)
  have h1 := hS _ _ _ _ hs1
  have h2 := hS _ _ _ _ hs2
  clear hS hs1 hs2
  obtain ⟨s2, hs2⟩ : ∃ s, (!neg' && decide (b ≠ 0)) = s := ⟨_, rfl⟩
  rw [hs2] at hadd
  have HADD := Lib.hid hadd
  have HNEG : Hid (∀ W : World, Sl W W.heap.size A2 n2 c2 (ml (enc b)) → Calls Try.prog 21 #[.agg #[.bool neg', .slice A2 n2 c2]] W (GiveI s2 b W)) := by
    intro W g
    subst hl2
    have := rNeg_any _ neg' b W ⟨A2, c2, rfl, g⟩ hvb
    rwa [hs2] at this
  clear hadd hs2 hl2
  go_enter Try.func18, Try.ntmps18
  go_wp2_with fail
  refine (rValid_true hvb h2).mono ?_
  rintro e w4 ⟨rfl, hb4⟩
  replace h1 := (h1.next hb4).drew
  replace h2 := (h2.next hb4).drew
  obtain ⟨a1, a2, _, _⟩ := (HA.next hb4).facts
  obtain ⟨a3, a4, _, _⟩ := (HA2.next hb4).facts
  replace HA := (HA.next hb4).drew
  replace HA2 := (HA2.next hb4).drew
  replace HR := (HR.next hb4).drew
  replace HB := (below_step HB hb4).drew
  have HN := Lib.hid (HNEG.out _ h2)
  clear hb4 h2 HNEG
  go_wp2
  go_region_with (first
    | (go_at_call 21; refine HN.out.mono ?_; rintro e w5 ⟨x5, rfl, ⟨A5, c5, rfl, hs5⟩, hb5⟩; have h15 := h1.next hb5; have HA5 := HA.next hb5; have HR5 := HR.next hb5; have HB5 := below_step HB hb5; obtain ⟨p1, p2, _, _⟩ := HA5.facts; obtain ⟨p3, p4, p5, p6⟩ := HR5.facts)
    | (go_at_call 16; refine (HADD.out _ _ ⟨A5, c5, rfl, hs5⟩ h15).mono ?_; rintro e w7 ⟨x7, rfl, ⟨A7, c7, rfl, hs7⟩, hb7⟩; have HR7 := HR5.next hb7; have HB7 := below_step HB5 hb7; obtain ⟨t1, t2, t3, t4⟩ := HR7.facts))
  all_goals
    go_wp2
    refine bodyPost_ret (v := .tuple #[.agg #[.bool r1, .slice A7 (enc r2).length c7], .int .i64 r3]) (by simp [results, Try.results18, go_sem, t1, t2]) rfl ⟨_, rfl, ?_, below_two HB7 (by omega) _ _⟩
    exact Zi.store HR7 ⟨A7, c7, rfl, hs7⟩ _ _

theorem rSub_any (x y : Value) (neg neg' : Bool) (a b : Nat) (w : World) (hx : Zi w x neg a) (hy : Zi w y neg' b) (hva : Vd neg a) (hvb : Vd neg' b) :
    Calls Try.prog 18 #[x, y] w (GiveE (subS neg a neg' b).1 (subS neg a neg' b).2.1 (subS neg a neg' b).2.2 w) := by
  obtain ⟨A1, c1, rfl, hs1⟩ := hx
  obtain ⟨A2, c2, rfl, hs2⟩ := hy
  exact rSub_core neg neg' A1 A2 _ c1 _ c2 b (enc a) _ _ _ w hs1 hs2 hvb fun W y hy g => rAdd_any _ y neg _ a b W ⟨A1, c1, rfl, g⟩ hy hva hvb.minus

set_option maxRecDepth 100000 in
theorem rSub_bad2 (neg neg' : Bool) (A A' : Option Addr) (n c n' c' : Nat) (l l' : List Nat) (w : World) (hs : Sl w w.heap.size A n c (ml l)) (hs' : Sl w w.heap.size A' n' c' (ml l')) (hok : Ok l) (hok' : Ok l') (hv : validB neg' l' = false) :
    Calls Try.prog 18 #[.agg #[.bool neg, .slice A n c], .agg #[.bool neg', .slice A' n' c']] w (GiveE false 0 1 w) := by
  obtain ⟨HA, HA2, HR, HB, hS⟩ := boxed_abr w (.bool neg) (.slice A n c) (.bool neg') (.slice A' n' c')
  have h2 := hS _ _ _ _ hs'
  clear hS hs hs'
  go_enter Try.func18, Try.ntmps18
  go_wp2_with fail
  refine (rValid_false hv hok' h2).mono ?_
  rintro e w3 ⟨rfl, hb3⟩
  replace HB := below_step HB hb3
  obtain ⟨t1, t2, t3, t4⟩ := (HR.next hb3).facts
  go_wp2
  exact bodyPost_ret (v := .tuple #[.agg #[.bool false, .slice none 0 0], .int .i64 1]) (by simp [results, Try.results18, go_sem, t1, t2]) rfl ⟨_, rfl, Zi.zero _, below_two HB (by omega) _ _⟩

theorem rSub_bad (neg neg' : Bool) (A A' : Option Addr) (n c n' c' : Nat) (l l' : List Nat) (w : World) (hs : Sl w w.heap.size A n c (ml l)) (hs' : Sl w w.heap.size A' n' c' (ml l')) (hok : Ok l) (hok' : Ok l') (hv : validB neg l = false ∨ validB neg' l' = false) :
    Calls Try.prog 18 #[.agg #[.bool neg, .slice A n c], .agg #[.bool neg', .slice A' n' c']] w (GiveE false 0 1 w) := by
  by_cases h2 : validB neg' l' = false
  · exact rSub_bad2 neg neg' A A' n c n' c' l l' w hs hs' hok hok' h2
  · have hv1 : validB neg l = false := by
      rcases hv with h | h
      · exact h
      · exact absurd h h2
    obtain ⟨e, hvb⟩ := of_validB hok' (by simpa using h2)
    rw [e] at hs'
    refine rSub_core neg neg' A A' n c n' c' (val l') l _ _ _ w hs hs' hvb fun W y hy g => ?_
    obtain ⟨A3, c3, rfl, g3⟩ := hy
    exact rAdd_bad neg _ A A3 n c _ c3 l (enc (val l')) W g g3 hok (ok_enc _) (.inl hv1)
end Go.Proofs.Ytebbpodcldndjaa
