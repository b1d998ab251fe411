/- Contracts on integers: Sub. -/
import Derived.Test.YtebbpodcldndjaaWc
import Derived.Deep.RegionHeld3
set_option linter.unusedVariables false
namespace Go.Proofs.Ytebbpodcldndjaa
open Go.RowKit

theorem Vd.minus {neg : Bool} {v : Nat} (h : Vd neg v) : Vd (!neg && decide (v ≠ 0)) v := by
  refine ⟨fun e => ?_, h.2⟩
  simp only [Bool.and_eq_true, decide_eq_true_eq] at e
  exact e.2
/-- what Sub returns -/
def subS (neg : Bool) (a : Nat) (neg' : Bool) (b : Nat) : Bool × Nat × Int := addS neg a (!neg' && decide (b ≠ 0)) b

set_option maxRecDepth 100000 in
set_option maxHeartbeats 4000000 in
theorem sub2_any (x y : Value) (neg neg' : Bool) (a b : Nat) (w : World) (hx : Zi w x neg a) (hy : Zi w y neg' b) (hva : Vd neg a) (hvb : Vd neg' b) :
    Calls Try.prog 17 #[x, y] w (GiveE (subS neg a neg' b).1 (subS neg a neg' b).2.1 (subS neg a neg' b).2.2 w) := by
  obtain ⟨A1, c1, rfl, hs1⟩ := hx
  obtain ⟨A2, c2, rfl, hs2⟩ := hy
  obtain ⟨n1, hn1⟩ : ∃ n, (enc a).length = n := ⟨_, rfl⟩
  obtain ⟨n2, hn2⟩ : ∃ n, (enc b).length = n := ⟨_, rfl⟩
  have HN1 := Lib.hid hn1
  have HN2 := Lib.hid hn2
  rw [hn1] at hs1 ⊢
  rw [hn2] at hs2 ⊢
  have hn : n2 ≤ 512 := by rw [← hn2]; exact hvb.2
  clear hn1 hn2
  obtain ⟨HA, HA2, HR, HB, hS⟩ := boxed_abr w (.bool neg) (.slice A1 n1 c1) (.bool neg') (.slice A2 n2 c2)
  have h1 := hS _ _ _ _ hs1
  have h2 := hS _ _ _ _ hs2
  clear hS hs1 hs2
  obtain ⟨s2, hs2⟩ : ∃ s, (!neg' && decide (b ≠ 0)) = s := ⟨_, rfl⟩
  obtain ⟨s, v, hsum⟩ : ∃ s v, sumS neg a s2 b = (s, v) := ⟨_, _, rfl⟩
  have HSG : Hid (∀ W : World, Calls Try.prog 57 #[.bool (!neg'), .slice A2 n2 c2] W fun e w' => e = .returned (.agg #[.bool s2, .slice A2 n2 c2]) ∧ Below W.heap.size W w') := by
    intro W
    have := signed_any (!neg') A2 n2 c2 W (by omega)
    have e : decide (n2 ≠ 0) = decide (b ≠ 0) := by rw [← HN2.out, enc_ne]
    rwa [e, hs2] at this
  have HSUM : Hid (∀ W : World, Sl W W.heap.size A1 n1 c1 (ml (enc a)) → Sl W W.heap.size A2 n2 c2 (ml (enc b)) → Calls Try.prog 52 #[.agg #[.bool neg, .slice A1 n1 c1], .agg #[.bool s2, .slice A2 n2 c2]] W (GiveI s v W)) := by
    intro W g1 g2
    have := sum_any _ _ neg s2 a b W ⟨A1, c1, rfl, by rw [HN1.out]; exact g1⟩ ⟨A2, c2, rfl, by rw [HN2.out]; exact g2⟩ hva.2 hvb.2
    rwa [hsum, HN1.out, HN2.out] at this
  have hadd : subS neg a neg' b = limS s v := by unfold subS addS; rw [hs2, hsum]
  rw [hadd]
  obtain ⟨r1, r2, r3, hlim⟩ : ∃ r1 r2 r3, limS s v = (r1, r2, r3) := ⟨_, _, _, rfl⟩
  have HL := Lib.hid hlim
  rw [hlim]
  clear hsum hadd hlim hs2
  go_enter Try.func17, Try.ntmps17
  go_wp2_with fail
  refine (valid_true hva h1).mono ?_
  rintro e w3 ⟨rfl, hb3⟩
  replace h1 := h1.next hb3
  replace h2 := h2.next hb3
  replace HA := HA.next hb3
  replace HA2 := HA2.next hb3
  replace HR := HR.next hb3
  replace HB := below_step HB hb3
  clear hb3
  obtain ⟨a1, a2, _, _⟩ := HA.facts
  obtain ⟨a3, a4, _, _⟩ := HA2.facts
  go_wp2_with fail
  refine (valid_true hvb h2).mono ?_
  rintro e w4 ⟨rfl, hb4⟩
  replace h1 := (h1.next hb4).drew
  replace h2 := (h2.next hb4).drew
  clear a1 a2 a3 a4
  obtain ⟨a1, a2, _, _⟩ := (HA.next hb4).facts
  obtain ⟨a3, a4, _, _⟩ := (HA2.next hb4).facts
  replace HA := (HA.next hb4).drew
  replace HA2 := (HA2.next hb4).drew
  replace HR := (HR.next hb4).drew
  replace HB := (below_step HB hb4).drew
  clear hb4
  go_wp2
  go_region_held3 (fun w' => w'.cell? ⟨w.heap.size, 0, none⟩ = some (.bool neg) ∧ w'.cell? ⟨w.heap.size, 1, none⟩ = some (.slice A1 n1 c1) ∧ w'.cell? ⟨w.heap.size + 1, 0, none⟩ = some (.bool neg') ∧ w'.cell? ⟨w.heap.size + 1, 1, none⟩ = some (.slice A2 n2 c2))
    (first | (refine ⟨?_, ?_, ?_, ?_⟩ <;> assumption) | (refine ⟨?_, ?_, ?_, ?_⟩ <;> (repeat rw [World.cell?_setCell_other _ _ _ _ (by simp)]) <;> assumption) | go_keep | (refine ⟨?_, ?_, ?_, ?_⟩ <;> simp [*]))
    (first
    | (go_at_call 57; refine (HSG.out _).mono ?_; rintro e w5 ⟨rfl, hb5⟩; have h15 := h1.next hb5; have h25 := h2.next hb5; have HA5 := HA.next hb5; have HR5 := HR.next hb5; have HB5 := below_step HB hb5; have HA25 := HA2.next hb5; obtain ⟨p1, p2, _, _⟩ := HA5.facts; obtain ⟨q1, q2, _, _⟩ := HA25.facts; obtain ⟨p3, p4, p5, p6⟩ := HR5.facts)
    | (go_at_call 52; refine (HSUM.out _ h15 h25).mono ?_; rintro e w6 ⟨x6, rfl, hx6, hb6⟩; have HR6 := HR5.next hb6; have HB6 := below_step HB5 hb6; have HA6 := HA5.next hb6; have HA26 := HA25.next hb6; obtain ⟨p1', p2', _, _⟩ := HA6.facts; obtain ⟨q1', q2', _, _⟩ := HA26.facts; obtain ⟨q3, q4, q5, q6⟩ := HR6.facts)
    | (go_at_call 51; refine (limited_any _ s v _ hx6).mono ?_; rw [HL.out]; rintro e w7 ⟨x7, rfl, ⟨A7, c7, rfl, hs7⟩, hb7⟩; have HR7 := HR6.next hb7; have HB7 := below_step HB6 hb7; have HA7 := HA6.next hb7; have HA27 := HA26.next hb7; obtain ⟨p1'', p2'', _, _⟩ := HA7.facts; obtain ⟨q1'', q2'', _, _⟩ := HA27.facts; obtain ⟨t1, t2, t3, t4⟩ := HR7.facts))
  all_goals
    go_wp2
    refine bodyPost_ret (v := .tuple #[.agg #[.bool r1, .slice A7 (enc r2).length c7], .int .i64 r3]) (by simp [results, Try.results17, go_sem, t1, t2]) rfl ⟨_, rfl, ?_, below_two HB7 (by omega) _ _⟩
    exact Zi.store HR7 ⟨A7, c7, rfl, hs7⟩ _ _
end Go.Proofs.Ytebbpodcldndjaa
