/- Contracts on integers: Add of the specification. -/
import Derived.Test.YtebbpodcldndjaaWf
import Derived.Deep.RegionHeld3
set_option linter.unusedVariables false
namespace Go.Proofs.Ytebbpodcldndjaa
open Go.RowKit

set_option maxRecDepth 100000 in
set_option maxHeartbeats 4000000 in
theorem rAdd_lt (neg neg' : Bool) (A1 A2 : Option Addr) (n1 c1 n2 c2 a b : Nat) (w : World) (hs1 : Sl w w.heap.size A1 n1 c1 (ml (enc a))) (hs2 : Sl w w.heap.size A2 n2 c2 (ml (enc b))) (hva : Vd neg a) (hvb : Vd neg' b) (hng : (neg == neg') = false) (hab : a < b) :
    Calls Try.prog 16 #[.agg #[.bool neg, .slice A1 n1 c1], .agg #[.bool neg', .slice A2 n2 c2]] w (GiveE (limS (neg' && decide ((b - a) ≠ 0)) ((b - a))).1 (limS (neg' && decide ((b - a) ≠ 0)) ((b - a))).2.1 (limS (neg' && decide ((b - a) ≠ 0)) ((b - a))).2.2 w) := by
  have hl1 : (enc a).length = n1 := by rw [← length_ml]; exact hs1.len
  have hl2 : (enc b).length = n2 := by rw [← length_ml]; exact hs2.len
  have hn1 : n1 ≤ 512 := by rw [← hl1]; exact hva.2
  have hn2 : n2 ≤ 512 := by rw [← hl2]; exact hvb.2

  obtain ⟨HA, HA2, HR, HB, hS⟩ := boxed_abr w (.bool neg) (.slice A1 n1 c1) (.bool neg') (.slice A2 n2 c2)
  have h1 := hS _ _ _ _ hs1
  have h2 := hS _ _ _ _ hs2
  clear hS hs1 hs2
  obtain ⟨v, hv⟩ : ∃ v, (b - a) = v := ⟨_, rfl⟩
  have hnn : n1 ≤ n2 := by
    rw [← hl1, ← hl2]
    refine (length_enc_le a _).2 (Nat.lt_of_le_of_lt (show a ≤ b by omega) ?_)
    have := val_lt (enc b) (ok_enc b)
    rwa [val_enc] at this
  have HOPW : Hid (∀ W : World, Sl W W.heap.size A1 n1 c1 (ml (enc a)) → Sl W W.heap.size A2 n2 c2 (ml (enc b)) → Calls Try.prog 56 #[.slice A2 n2 c2, .slice A1 n1 c1] W (Mag (enc v) W)) := by
    intro W g1 g2
    have := minus_any A2 A1 n2 c2 n1 c1 (enc b) (enc a) W g2 g1 (ok_enc b) (ok_enc a) (by omega) hnn (by rw [val_enc, val_enc]; omega)
    rwa [val_enc, val_enc, hv] at this
  obtain ⟨s, hs⟩ : ∃ s, sgn (val (enc a)) (val (enc b)) = s := ⟨_, rfl⟩
  have hsg : s < 0 := by
    rw [← hs, val_enc, val_enc]
    rcases sgn_cases a b with ⟨h, e⟩ | ⟨h, e⟩ | ⟨h, e⟩ <;> rw [e] <;> omega
  have HSN := Lib.hid hs
  clear hs
  have hsm : (enc v).length ≤ 1048577 := Nat.le_trans (length_enc_add a b v 512 (by omega) (by omega) (by omega)) (by omega)
  rw [hv]
  obtain ⟨r1, r2, r3, hlim⟩ : ∃ r1 r2 r3, limS (neg' && decide (v ≠ 0)) v = (r1, r2, r3) := ⟨_, _, _, rfl⟩
  have HLIM : Hid (∀ (W : World) (A : Option Addr) (n c : Nat), Sl W W.heap.size A n c (ml (enc v)) → Calls Try.prog 53 #[.bool neg', .slice A n c] W (GiveE r1 r2 r3 W)) := by
    intro W A n c g
    have hn : n = (enc v).length := by rw [← length_ml]; exact g.len.symm
    have := limit_any neg' A n c (enc v) W g (ok_enc v) (by omega)
    rwa [val_enc, hlim] at this
  rw [hlim]
  clear hlim hv hsm
  go_enter Try.func16, Try.ntmps16
  go_wp2_with fail
  refine (rValid_true hva h1).mono ?_
  rintro e w3 ⟨rfl, hb3⟩
  replace h1 := h1.next hb3
  replace h2 := h2.next hb3
  replace HA := HA.next hb3
  replace HA2 := HA2.next hb3
  replace HR := HR.next hb3
  replace HB := below_step HB hb3
  clear hb3
  obtain ⟨a1, a2, _, _⟩ := HA.facts
  obtain ⟨a3, a4, _, _⟩ := HA2.facts
  go_wp2_with fail
  refine (rValid_true hvb h2).mono ?_
  rintro e w4 ⟨rfl, hb4⟩
  clear a1 a2 a3 a4
  replace h1 := h1.next hb4
  replace h2 := h2.next hb4
  replace HA := HA.next hb4
  replace HA2 := HA2.next hb4
  replace HR := HR.next hb4
  replace HB := below_step HB hb4
  obtain ⟨a1, a2, _, _⟩ := HA.facts
  obtain ⟨a3, a4, _, _⟩ := HA2.facts
  clear hb4
  go_wp2_with fail
  refine (order_any A1 A2 n1 c1 n2 c2 (enc a) (enc b) _ h1 h2 (ok_enc a) (ok_enc b)).mono ?_
  rw [HSN.out]
  rintro e w4 ⟨rfl, rfl⟩
  clear a1 a2 a3 a4
  replace h1 := h1.drew
  replace h2 := h2.drew
  obtain ⟨a1, a2, _, _⟩ := HA.facts
  obtain ⟨a3, a4, _, _⟩ := HA2.facts
  replace HA := HA.drew
  replace HA2 := HA2.drew
  replace HR := HR.drew
  replace HB := HB.drew
  have HOP := Lib.hid (HOPW.out _ h1 h2)
  clear HOPW h1 h2
  go_wp2
  go_region_held3 (fun w' => w'.cell? ⟨w.heap.size, 0, none⟩ = some (.bool neg) ∧ w'.cell? ⟨w.heap.size, 1, none⟩ = some (.slice A1 n1 c1) ∧ w'.cell? ⟨w.heap.size + 1, 0, none⟩ = some (.bool neg') ∧ w'.cell? ⟨w.heap.size + 1, 1, none⟩ = some (.slice A2 n2 c2))
    (first | (refine ⟨?_, ?_, ?_, ?_⟩ <;> assumption) | (refine ⟨?_, ?_, ?_, ?_⟩ <;> (repeat rw [World.cell?_setCell_other _ _ _ _ (by simp)]) <;> assumption) | go_keep | (refine ⟨?_, ?_, ?_, ?_⟩ <;> simp [*]))
    (first
    | (go_at_call 56; refine HOP.out.mono ?_; rintro e w5 ⟨A5, c5, rfl, hs5, hb5⟩; have HA5 := HA.next hb5; have HA25 := HA2.next hb5; have HR5 := HR.next hb5; have HB5 := below_step HB hb5; obtain ⟨p1, p2, _, _⟩ := HA5.facts; obtain ⟨q1, q2, _, _⟩ := HA25.facts; obtain ⟨p3, p4, p5, p6⟩ := HR5.facts)
    | (go_at_call 53; refine (HLIM.out _ _ _ _ hs5).mono ?_; rintro e w7 ⟨x7, rfl, ⟨A7, c7, rfl, hs7⟩, hb7⟩; have HR7 := HR5.next hb7; have HB7 := below_step HB5 hb7; have HA7 := HA5.next hb7; have HA27 := HA25.next hb7; obtain ⟨p1', p2', _, _⟩ := HA7.facts; obtain ⟨q1', q2', _, _⟩ := HA27.facts; obtain ⟨t1, t2, t3, t4⟩ := HR7.facts))
  all_goals
    go_wp2
    refine bodyPost_ret (v := .tuple #[.agg #[.bool r1, .slice A7 (enc r2).length c7], .int .i64 r3]) (by simp [results, Try.results16, go_sem, t1, t2]) rfl ⟨_, rfl, ?_, below_two HB7 (by omega) _ _⟩
    exact Zi.store HR7 ⟨A7, c7, rfl, hs7⟩ _ _
end Go.Proofs.Ytebbpodcldndjaa
