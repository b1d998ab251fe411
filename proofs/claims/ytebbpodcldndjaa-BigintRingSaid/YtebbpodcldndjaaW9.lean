/- Contracts on integers: sum of two signs. -/
import Derived.Test.YtebbpodcldndjaaW8
import Derived.Deep.RegionHeld3
set_option linter.unusedVariables false
namespace Go.Proofs.Ytebbpodcldndjaa
open Go.RowKit

set_option maxRecDepth 100000 in
set_option maxHeartbeats 4000000 in
theorem sum_ge (neg : Bool) (A1 A2 : Option Addr) (n1 c1 n2 c2 a b : Nat) (w : World) (hs1 : Sl w w.heap.size A1 n1 c1 (ml (enc a))) (hs2 : Sl w w.heap.size A2 n2 c2 (ml (enc b))) (hn1 : n1 ≤ 1048576) (hn2 : n2 ≤ 1048576) (hab : b ≤ a) :
    Calls Try.prog 52 #[.agg #[.bool neg, .slice A1 n1 c1], .agg #[.bool (!neg), .slice A2 n2 c2]] w (GiveI (neg && decide (a - b ≠ 0)) (a - b) w) := by
  obtain ⟨neg', hneg⟩ : ∃ neg', (!neg) = neg' := ⟨_, rfl⟩
  have hd1 : (neg == neg') = false := by subst hneg; cases neg <;> rfl
  rw [hneg]
  clear hneg
  have hl1 : (enc a).length = n1 := by rw [← length_ml]; exact hs1.len
  have hl2 : (enc b).length = n2 := by rw [← length_ml]; exact hs2.len
  have hb1 := below_new w (.cells #[.bool neg, .slice A1 n1 c1] 24)
  have hb2 := below_new (w.alloc (.cells #[.bool neg, .slice A1 n1 c1] 24)) (.cells #[.bool neg', .slice A2 n2 c2] 24)
  have hb3 := below_new ((w.alloc (.cells #[.bool neg, .slice A1 n1 c1] 24)).alloc (.cells #[.bool neg', .slice A2 n2 c2] 24)) (.cells #[.bool false, .slice none 0 0] 24)
  have HA := (((At.new w (.bool neg) (.slice A1 n1 c1)).next hb2).next hb3)
  have HA2 := ((At.new (w.alloc (.cells #[.bool neg, .slice A1 n1 c1] 24)) (.bool neg') (.slice A2 n2 c2)).next hb3)
  have HR := (At.new ((w.alloc (.cells #[.bool neg, .slice A1 n1 c1] 24)).alloc (.cells #[.bool neg', .slice A2 n2 c2] 24)) (.bool false) (.slice none 0 0))
  have HB := (below_step (below_step hb1 hb2) hb3)
  have h1 := (((hs1.next hb1).next hb2).next hb3)
  have h2 := (((hs2.next hb1).next hb2).next hb3)
  have HC := Lib.hid (compare_any A1 A2 n1 c1 n2 c2 (enc a) (enc b) _ h1 h2 (ok_enc a) (ok_enc b) (top_enc a) (top_enc b))
  rw [val_enc, val_enc] at HC
  have hnn : n2 ≤ n1 := by
    rw [← hl1, ← hl2]
    refine (length_enc_le b _).2 (Nat.lt_of_le_of_lt hab ?_)
    have := val_lt (enc a) (ok_enc a)
    rwa [val_enc] at this
  have HSUB : Hid (∀ W : World, Sl W W.heap.size A1 n1 c1 (ml (enc a)) → Sl W W.heap.size A2 n2 c2 (ml (enc b)) → Calls Try.prog 66 #[.slice A1 n1 c1, .slice A2 n2 c2] W (Mag (enc (a - b)) W)) := by
    intro W g1 g2
    have := subtract_any A1 A2 n1 c1 n2 c2 (enc a) (enc b) W g1 g2 (ok_enc a) (ok_enc b) hn1 hnn (by rw [val_enc, val_enc]; exact hab)
    rwa [val_enc, val_enc] at this
  have e1 : (w.alloc (.cells #[.bool neg, .slice A1 n1 c1] 24)).heap.size = w.heap.size + 1 := by simp
  have e2 : ((w.alloc (.cells #[.bool neg, .slice A1 n1 c1] 24)).alloc (.cells #[.bool neg', .slice A2 n2 c2] 24)).heap.size = w.heap.size + 2 := by simp
  rw [e1] at HA2
  rw [e2] at HR
  obtain ⟨s, hs⟩ : ∃ s, sgn a b = s := ⟨_, rfl⟩
  have hsg : 0 ≤ s := by
    rw [← hs]
    rcases sgn_cases a b with ⟨h, e⟩ | ⟨h, e⟩ | ⟨h, e⟩ <;> rw [e] <;> omega
  rw [hs] at HC
  obtain ⟨v, hv⟩ : ∃ v, a - b = v := ⟨_, rfl⟩
  rw [hv] at HSUB ⊢
  clear hb1 hb2 hb3 e1 e2 hs1 hs2 hv hs hab hl1 hl2
  go_enter Try.func52, Try.ntmps52
  go_wp2_with fail
  refine HC.out.mono ?_
  rintro e w3 ⟨rfl, hb3⟩
  have HA3 := (HA.next hb3).drew
  have HA23 := (HA2.next hb3).drew
  have HR3 := (HR.next hb3).drew
  have HB3 := (below_step HB hb3).drew
  have HS3 := Lib.hid (HSUB.out _ (h1.next hb3).drew (h2.next hb3).drew)
  obtain ⟨a1, a2, _, _⟩ := (HA.next hb3).facts
  obtain ⟨a3, a4, _, _⟩ := (HA2.next hb3).facts
  clear HA HA2 HR HB h1 h2 hb3 HC HSUB
  go_wp2
  go_region_held3 (fun w' => w'.cell? ⟨w.heap.size, 0, none⟩ = some (.bool neg) ∧ w'.cell? ⟨w.heap.size, 1, none⟩ = some (.slice A1 n1 c1) ∧ w'.cell? ⟨w.heap.size + 1, 0, none⟩ = some (.bool neg') ∧ w'.cell? ⟨w.heap.size + 1, 1, none⟩ = some (.slice A2 n2 c2))
    (first | (refine ⟨?_, ?_, ?_, ?_⟩ <;> assumption) | (refine ⟨?_, ?_, ?_, ?_⟩ <;> (repeat rw [World.cell?_setCell_other _ _ _ _ (by simp)]) <;> assumption) | go_keep | (refine ⟨?_, ?_, ?_, ?_⟩ <;> simp [*]))
    (first
    | (go_at_call 66; refine HS3.out.mono ?_; rintro e w4 ⟨A4, c4, rfl, hs4, hb4⟩; have HA4 := HA3.next hb4; have HA24 := HA23.next hb4; have HR4 := HR3.next hb4; obtain ⟨p1, p2, _, _⟩ := HA4.facts; obtain ⟨q1, q2, _, _⟩ := HA24.facts; obtain ⟨r1, r2, r3, r4⟩ := HR4.facts; have HB4 := below_step HB3 hb4; have hsm := hs4.small)
    | (go_at_call 57; refine (signed_any _ A4 _ c4 _ hsm).mono ?_; rintro e w5 ⟨rfl, hb5⟩; have HR5 := HR4.next hb5; obtain ⟨t1, t2, t3, t4⟩ := HR5.facts; have HB5 := below_step HB4 hb5; have hs5 := hs4.next hb5; have HA5 := HA4.next hb5; have HA25 := HA24.next hb5; obtain ⟨p1', p2', _, _⟩ := HA5.facts; obtain ⟨q1', q2', _, _⟩ := HA25.facts))
  all_goals
    go_wp2
    refine bodyPost_ret (v := .agg #[.bool (neg && decide ((enc v).length ≠ 0)), .slice A4 (enc v).length c4]) (by simp [results, Try.results52, go_sem, t1, t2]) rfl ⟨_, rfl, ?_, below_two HB5 (by omega) _ _⟩
    rw [enc_ne]
    exact Zi.store HR5 ⟨A4, c4, rfl, hs5⟩ _ _
end Go.Proofs.Ytebbpodcldndjaa
