/- Contracts on integers: Mul. -/
import Derived.Test.YtebbpodcldndjaaWf
import Derived.Test.YtebbpodcldndjaaWm
import Derived.Deep.RegionHeld3
set_option linter.unusedVariables false
namespace Go.Proofs.Ytebbpodcldndjaa
open Go.RowKit

theorem length_enc_mul2 (a b v k : Nat) (ha : (enc a).length ≤ k) (hb : (enc b).length ≤ k) (hv : v = a * b) : (enc v).length ≤ k + k := by
  refine (length_enc_le v (k + k)).2 ?_
  have h1 := (length_enc_le a k).1 ha
  have h2 := (length_enc_le b k).1 hb
  rw [Nat.pow_add, hv]
  exact Nat.mul_lt_mul'' h1 h2
set_option maxRecDepth 100000 in
set_option maxHeartbeats 4000000 in
theorem mul2_any (neg neg' : Bool) (A1 A2 : Option Addr) (n1 c1 n2 c2 a b : Nat) (w : World) (hs1 : Sl w w.heap.size A1 n1 c1 (ml (enc a))) (hs2 : Sl w w.heap.size A2 n2 c2 (ml (enc b))) (hva : Vd neg a) (hvb : Vd neg' b) :
    Calls Try.prog 25 #[.agg #[.bool neg, .slice A1 n1 c1], .agg #[.bool neg', .slice A2 n2 c2]] w (GiveE (limS ((neg != neg') && decide (a * b ≠ 0)) (a * b)).1 (limS ((neg != neg') && decide (a * b ≠ 0)) (a * b)).2.1 (limS ((neg != neg') && decide (a * b ≠ 0)) (a * b)).2.2 w) := by
  have hl1 : (enc a).length = n1 := by rw [← length_ml]; exact hs1.len
  have hl2 : (enc b).length = n2 := by rw [← length_ml]; exact hs2.len
  have hn1 : n1 ≤ 512 := by rw [← hl1]; exact hva.2
  have hn2 : n2 ≤ 512 := by rw [← hl2]; exact hvb.2

  obtain ⟨HA, HA2, HR, HB, hS⟩ := boxed_abr w (.bool neg) (.slice A1 n1 c1) (.bool neg') (.slice A2 n2 c2)
  have h1 := hS _ _ _ _ hs1
  have h2 := hS _ _ _ _ hs2
  clear hS hs1 hs2
  obtain ⟨v, hv⟩ : ∃ v, a * b = v := ⟨_, rfl⟩
  have HOPW : Hid (∀ W : World, Sl W W.heap.size A1 n1 c1 (ml (enc a)) → Sl W W.heap.size A2 n2 c2 (ml (enc b)) → Calls Try.prog 62 #[.slice A1 n1 c1, .slice A2 n2 c2] W (Mag (enc v) W)) := by
    intro W g1 g2
    have := multiply_any A1 A2 n1 c1 n2 c2 (enc a) (enc b) W g1 g2 (ok_enc a) (ok_enc b) (by omega) (by omega)
    rwa [val_enc, val_enc, hv] at this
  have hsm : (enc v).length ≤ 1048577 := Nat.le_trans (length_enc_mul2 a b v 512 (by omega) (by omega) (by omega)) (by omega)
  rw [hv]
  obtain ⟨r1, r2, r3, hlim⟩ : ∃ r1 r2 r3, limS ((neg != neg') && decide (v ≠ 0)) v = (r1, r2, r3) := ⟨_, _, _, rfl⟩
  obtain ⟨s, hs⟩ : ∃ s, ((neg != neg') && decide (v ≠ 0)) = s := ⟨_, rfl⟩
  rw [hs] at hlim ⊢
  have HSG : Hid (∀ (W : World) (A : Option Addr) (c : Nat), (enc v).length ≤ 9223372036854775807 → Calls Try.prog 57 #[.bool (neg != neg'), .slice A (enc v).length c] W fun e w' => e = .returned (.agg #[.bool s, .slice A (enc v).length c]) ∧ Below W.heap.size W w') := by
    intro W A c hle
    have := signed_any (neg != neg') A (enc v).length c W hle
    rwa [enc_ne, hs] at this
  have HL := Lib.hid hlim
  clear hs
  rw [hlim]
  clear hlim hv hsm
  go_enter Try.func25, Try.ntmps25
  go_wp2_with fail
  refine (valid_true hva h1).mono ?_
  rintro e w3 ⟨rfl, hb3⟩
  replace h1 := h1.next hb3
  replace h2 := h2.next hb3
  replace HA := HA.next hb3
  replace HA2 := HA2.next hb3
  replace HR := HR.next hb3
  replace HB := below_step HB hb3
  clear hb3
  obtain ⟨a1, a2, _, _⟩ := HA.facts
  obtain ⟨a3, a4, _, _⟩ := HA2.facts
  go_wp2_with fail
  refine (valid_true hvb h2).mono ?_
  rintro e w4 ⟨rfl, hb4⟩
  clear a1 a2 a3 a4
  replace h1 := (h1.next hb4).drew
  replace h2 := (h2.next hb4).drew
  obtain ⟨a1, a2, _, _⟩ := (HA.next hb4).facts
  obtain ⟨a3, a4, _, _⟩ := (HA2.next hb4).facts
  replace HA := (HA.next hb4).drew
  replace HA2 := (HA2.next hb4).drew
  replace HR := (HR.next hb4).drew
  replace HB := (below_step HB hb4).drew
  have HOP := Lib.hid (HOPW.out _ h1 h2)
  clear hb4 HOPW h1 h2
  go_wp2
  go_region_held3 (fun w' => w'.cell? ⟨w.heap.size, 0, none⟩ = some (.bool neg) ∧ w'.cell? ⟨w.heap.size, 1, none⟩ = some (.slice A1 n1 c1) ∧ w'.cell? ⟨w.heap.size + 1, 0, none⟩ = some (.bool neg') ∧ w'.cell? ⟨w.heap.size + 1, 1, none⟩ = some (.slice A2 n2 c2))
    (first | (refine ⟨?_, ?_, ?_, ?_⟩ <;> assumption) | (refine ⟨?_, ?_, ?_, ?_⟩ <;> (repeat rw [World.cell?_setCell_other _ _ _ _ (by simp)]) <;> assumption) | go_keep | (refine ⟨?_, ?_, ?_, ?_⟩ <;> simp [*]))
    (first
    | (go_at_call 62; refine HOP.out.mono ?_; rintro e w5 ⟨A5, c5, rfl, hs5, hb5⟩; have HA5 := HA.next hb5; have HA25 := HA2.next hb5; have HR5 := HR.next hb5; have HB5 := below_step HB hb5; obtain ⟨p1, p2, _, _⟩ := HA5.facts; obtain ⟨q1, q2, _, _⟩ := HA25.facts; obtain ⟨p3, p4, p5, p6⟩ := HR5.facts)
    | (go_at_call 57; refine (HSG.out _ A5 c5 hs5.small).mono ?_; rintro e w6 ⟨rfl, hb6⟩; have hs6 := hs5.next hb6; have HR6 := HR5.next hb6; have HB6 := below_step HB5 hb6; have HA6 := HA5.next hb6; have HA26 := HA25.next hb6; obtain ⟨p1', p2', _, _⟩ := HA6.facts; obtain ⟨q1', q2', _, _⟩ := HA26.facts; obtain ⟨q3, q4, q5, q6⟩ := HR6.facts)
    | (go_at_call 51; refine (limited_any _ s v _ ⟨A5, c5, rfl, hs6⟩).mono ?_; rw [HL.out]; rintro e w7 ⟨x7, rfl, ⟨A7, c7, rfl, hs7⟩, hb7⟩; have HR7 := HR6.next hb7; have HB7 := below_step HB6 hb7; have HA7 := HA6.next hb7; have HA27 := HA26.next hb7; obtain ⟨p1'', p2'', _, _⟩ := HA7.facts; obtain ⟨q1'', q2'', _, _⟩ := HA27.facts; obtain ⟨t1, t2, t3, t4⟩ := HR7.facts))
  all_goals
    go_wp2
    refine bodyPost_ret (v := .tuple #[.agg #[.bool r1, .slice A7 (enc r2).length c7], .int .i64 r3]) (by simp [results, Try.results25, go_sem, t1, t2]) rfl ⟨_, rfl, ?_, below_two HB7 (by omega) _ _⟩
    exact Zi.store HR7 ⟨A7, c7, rfl, hs7⟩ _ _
end Go.Proofs.Ytebbpodcldndjaa
