/- Contracts on integers: Cmp of the specification, and what invalid arguments give. -/
import Derived.Test.YtebbpodcldndjaaWe
set_option linter.unusedVariables false
namespace Go.Proofs.Ytebbpodcldndjaa
open Go.RowKit

theorem length_enc_add (a b v k : Nat) (ha : (enc a).length ≤ k) (hb : (enc b).length ≤ k) (hv : v ≤ a + b) : (enc v).length ≤ k + 1 := by
  refine (length_enc_le v (k + 1)).2 ?_
  have h1 := (length_enc_le a k).1 ha
  have h2 := (length_enc_le b k).1 hb
  rw [Nat.pow_succ]
  omega

set_option maxRecDepth 100000 in
theorem sub_bad (neg neg' : Bool) (A A' : Option Addr) (n c n' c' : Nat) (l l' : List Nat) (w : World) (hs : Sl w w.heap.size A n c (ml l)) (hs' : Sl w w.heap.size A' n' c' (ml l')) (hok : Ok l) (hok' : Ok l') (hv : validB neg l = false ∨ validB neg' l' = false) :
    Calls Try.prog 17 #[.agg #[.bool neg, .slice A n c], .agg #[.bool neg', .slice A' n' c']] w (GiveE false 0 1 w) := by
  obtain ⟨HA, HA2, HR, HB, hS⟩ := boxed_abr w (.bool neg) (.slice A n c) (.bool neg') (.slice A' n' c')
  have h1 := hS _ _ _ _ hs
  have h2 := hS _ _ _ _ hs'
  clear hS hs hs'
  have HV := Lib.hid (valid_any neg A n c l _ h1 hok)
  obtain ⟨r, hr⟩ : ∃ r, validB neg l = r := ⟨_, rfl⟩
  rw [hr] at HV hv
  clear hr
  cases r
  · clear hv
    go_enter Try.func17, Try.ntmps17
    go_wp2_with fail
    refine HV.out.mono ?_
    rintro e w3 ⟨rfl, hb3⟩
    replace HB := below_step HB hb3
    obtain ⟨a1, a2, _, _⟩ := (HA.next hb3).facts
    obtain ⟨a3, a4, _, _⟩ := (HA2.next hb3).facts
    obtain ⟨t1, t2, t3, t4⟩ := (HR.next hb3).facts
    go_wp2
    exact bodyPost_ret (v := .tuple #[.agg #[.bool false, .slice none 0 0], .int .i64 1]) (by simp [results, Try.results17, go_sem, t1, t2]) rfl ⟨_, rfl, Zi.zero _, below_two HB (by omega) _ _⟩
  · have hv2 : validB neg' l' = false := by simpa using hv
    clear hv
    go_enter Try.func17, Try.ntmps17
    go_wp2_with fail
    refine HV.out.mono ?_
    rintro e w3 ⟨rfl, hb3⟩
    replace HB := below_step HB hb3
    replace h2 := h2.next hb3
    replace HR := HR.next hb3
    obtain ⟨a1, a2, _, _⟩ := (HA.next hb3).facts
    obtain ⟨a3, a4, _, _⟩ := (HA2.next hb3).facts
    go_wp2_with fail
    refine (valid_false hv2 hok' h2).mono ?_
    rintro e w4 ⟨rfl, hb4⟩
    replace HB := below_step HB hb4
    obtain ⟨t1, t2, t3, t4⟩ := (HR.next hb4).facts
    go_wp2
    exact bodyPost_ret (v := .tuple #[.agg #[.bool false, .slice none 0 0], .int .i64 1]) (by simp [results, Try.results17, go_sem, t1, t2]) rfl ⟨_, rfl, Zi.zero _, below_two HB (by omega) _ _⟩
set_option maxRecDepth 100000 in
theorem rAdd_bad (neg neg' : Bool) (A A' : Option Addr) (n c n' c' : Nat) (l l' : List Nat) (w : World) (hs : Sl w w.heap.size A n c (ml l)) (hs' : Sl w w.heap.size A' n' c' (ml l')) (hok : Ok l) (hok' : Ok l') (hv : validB neg l = false ∨ validB neg' l' = false) :
    Calls Try.prog 16 #[.agg #[.bool neg, .slice A n c], .agg #[.bool neg', .slice A' n' c']] w (GiveE false 0 1 w) := by
  obtain ⟨HA, HA2, HR, HB, hS⟩ := boxed_abr w (.bool neg) (.slice A n c) (.bool neg') (.slice A' n' c')
  have h1 := hS _ _ _ _ hs
  have h2 := hS _ _ _ _ hs'
  clear hS hs hs'
  have HV := Lib.hid (rValid_any neg A n c l _ h1 hok)
  obtain ⟨r, hr⟩ : ∃ r, validB neg l = r := ⟨_, rfl⟩
  rw [hr] at HV hv
  clear hr
  cases r
  · clear hv
    go_enter Try.func16, Try.ntmps16
    go_wp2_with fail
    refine HV.out.mono ?_
    rintro e w3 ⟨rfl, hb3⟩
    replace HB := below_step HB hb3
    obtain ⟨a1, a2, _, _⟩ := (HA.next hb3).facts
    obtain ⟨a3, a4, _, _⟩ := (HA2.next hb3).facts
    obtain ⟨t1, t2, t3, t4⟩ := (HR.next hb3).facts
    go_wp2
    exact bodyPost_ret (v := .tuple #[.agg #[.bool false, .slice none 0 0], .int .i64 1]) (by simp [results, Try.results16, go_sem, t1, t2]) rfl ⟨_, rfl, Zi.zero _, below_two HB (by omega) _ _⟩
  · have hv2 : validB neg' l' = false := by simpa using hv
    clear hv
    go_enter Try.func16, Try.ntmps16
    go_wp2_with fail
    refine HV.out.mono ?_
    rintro e w3 ⟨rfl, hb3⟩
    replace HB := below_step HB hb3
    replace h2 := h2.next hb3
    replace HR := HR.next hb3
    obtain ⟨a1, a2, _, _⟩ := (HA.next hb3).facts
    obtain ⟨a3, a4, _, _⟩ := (HA2.next hb3).facts
    go_wp2_with fail
    refine (rValid_false hv2 hok' h2).mono ?_
    rintro e w4 ⟨rfl, hb4⟩
    replace HB := below_step HB hb4
    obtain ⟨t1, t2, t3, t4⟩ := (HR.next hb4).facts
    go_wp2
    exact bodyPost_ret (v := .tuple #[.agg #[.bool false, .slice none 0 0], .int .i64 1]) (by simp [results, Try.results16, go_sem, t1, t2]) rfl ⟨_, rfl, Zi.zero _, below_two HB (by omega) _ _⟩
set_option maxRecDepth 100000 in
theorem rCmp_bad (neg neg' : Bool) (A A' : Option Addr) (n c n' c' : Nat) (l l' : List Nat) (w : World) (hs : Sl w w.heap.size A n c (ml l)) (hs' : Sl w w.heap.size A' n' c' (ml l')) (hok : Ok l) (hok' : Ok l') (hv : validB neg l = false ∨ validB neg' l' = false) :
    Calls Try.prog 23 #[.agg #[.bool neg, .slice A n c], .agg #[.bool neg', .slice A' n' c']] w fun e w' => e = .returned (.int .i64 0) ∧ Below w.heap.size w w' := by
  obtain ⟨HA, HA2, HB, hS⟩ := boxed_ab w (.bool neg) (.slice A n c) (.bool neg') (.slice A' n' c')
  have h1 := hS _ _ _ _ hs
  have h2 := hS _ _ _ _ hs'
  clear hS hs hs'
  have HV := Lib.hid (rValid_any neg A n c l _ h1 hok)
  obtain ⟨r, hr⟩ : ∃ r, validB neg l = r := ⟨_, rfl⟩
  rw [hr] at HV hv
  clear hr
  cases r
  · clear hv
    go_enter Try.func23, Try.ntmps23
    go_wp2_with fail
    refine HV.out.mono ?_
    rintro e w3 ⟨rfl, hb3⟩
    replace HB := below_step HB hb3
    obtain ⟨a1, a2, _, _⟩ := (HA.next hb3).facts
    obtain ⟨a3, a4, _, _⟩ := (HA2.next hb3).facts
    go_wp2
    go_ret
    exact ⟨rfl, HB⟩
  · have hv2 : validB neg' l' = false := by simpa using hv
    clear hv
    go_enter Try.func23, Try.ntmps23
    go_wp2_with fail
    refine HV.out.mono ?_
    rintro e w3 ⟨rfl, hb3⟩
    replace HB := below_step HB hb3
    replace h2 := h2.next hb3
    obtain ⟨a1, a2, _, _⟩ := (HA.next hb3).facts
    obtain ⟨a3, a4, _, _⟩ := (HA2.next hb3).facts
    go_wp2_with fail
    refine (rValid_false hv2 hok' h2).mono ?_
    rintro e w4 ⟨rfl, hb4⟩
    replace HB := below_step HB hb4
    go_wp2
    go_ret
    exact ⟨rfl, HB⟩

set_option maxRecDepth 100000 in
theorem rCmp_any (x y : Value) (neg neg' : Bool) (a b : Nat) (w : World) (hx : Zi w x neg a) (hy : Zi w y neg' b) (hva : Vd neg a) (hvb : Vd neg' b) :
    Calls Try.prog 23 #[x, y] w fun e w' => e = .returned (.int .i64 (cmpS neg a neg' b)) ∧ Below w.heap.size w w' := by
  obtain ⟨A1, c1, rfl, hs1⟩ := hx
  obtain ⟨A2, c2, rfl, hs2⟩ := hy
  obtain ⟨n1, hn1⟩ : ∃ n, (enc a).length = n := ⟨_, rfl⟩
  obtain ⟨n2, hn2⟩ : ∃ n, (enc b).length = n := ⟨_, rfl⟩
  have HN1 := Lib.hid hn1
  have HN2 := Lib.hid hn2
  rw [hn1] at hs1 ⊢
  rw [hn2] at hs2 ⊢
  clear hn1 hn2
  obtain ⟨HA, HA2, HB, hS⟩ := boxed_ab w (.bool neg) (.slice A1 n1 c1) (.bool neg') (.slice A2 n2 c2)
  have h1 := hS _ _ _ _ hs1
  have h2 := hS _ _ _ _ hs2
  clear hS hs1 hs2
  cases neg
  all_goals
    cases neg'
  all_goals
    first
      | (rw [show cmpS false a false b = sgn a b from rfl]; have HC : Hid (∀ W : World, Sl W W.heap.size A1 n1 c1 (ml (enc a)) → Sl W W.heap.size A2 n2 c2 (ml (enc b)) → Calls Try.prog 55 #[.slice A1 n1 c1, .slice A2 n2 c2] W fun e w' => e = .returned (.int .i64 (sgn a b)) ∧ Below W.heap.size W w') := (by
            intro W g1 g2
            have := (order_any A1 A2 n1 c1 n2 c2 (enc a) (enc b) W g1 g2 (ok_enc a) (ok_enc b)).mono fun _ w' h => (⟨h.1, by rw [h.2]; exact Below.refl _ _⟩ : _ ∧ Below W.heap.size W w')
            rwa [val_enc, val_enc] at this))
      | (rw [show cmpS true a true b = sgn b a from rfl]; have HC : Hid (∀ W : World, Sl W W.heap.size A1 n1 c1 (ml (enc a)) → Sl W W.heap.size A2 n2 c2 (ml (enc b)) → Calls Try.prog 55 #[.slice A2 n2 c2, .slice A1 n1 c1] W fun e w' => e = .returned (.int .i64 (sgn b a)) ∧ Below W.heap.size W w') := (by
            intro W g1 g2
            have := (order_any A2 A1 n2 c2 n1 c1 (enc b) (enc a) W g2 g1 (ok_enc b) (ok_enc a)).mono fun _ w' h => (⟨h.1, by rw [h.2]; exact Below.refl _ _⟩ : _ ∧ Below W.heap.size W w')
            rwa [val_enc, val_enc] at this))
      | rw [show cmpS false a true b = 1 from rfl]
      | rw [show cmpS true a false b = -1 from rfl]
    go_enter Try.func23, Try.ntmps23
    go_wp2_with fail
    refine (rValid_true hva h1).mono ?_
    rintro e w3 ⟨rfl, hb3⟩
    replace h1 := h1.next hb3
    replace h2 := h2.next hb3
    replace HA := HA.next hb3
    replace HA2 := HA2.next hb3
    replace HB := below_step HB hb3
    clear hb3
    obtain ⟨a1, a2, _, _⟩ := HA.facts
    obtain ⟨a3, a4, _, _⟩ := HA2.facts
    go_wp2_with fail
    refine (rValid_true hvb h2).mono ?_
    rintro e w4 ⟨rfl, hb4⟩
    replace h1 := h1.next hb4
    replace h2 := h2.next hb4
    clear a1 a2 a3 a4
    obtain ⟨a1, a2, _, _⟩ := (HA.next hb4).facts
    obtain ⟨a3, a4, _, _⟩ := (HA2.next hb4).facts
    replace HB := below_step HB hb4
    clear hb4
    first
      | (go_wp2
         go_ret
         exact ⟨rfl, HB⟩)
      | (go_wp2_with fail
         refine (HC.out _ h1 h2).mono ?_
         rintro e w5 ⟨rfl, hb5⟩
         replace HB := below_step HB hb5
         go_wp2
         go_ret
         exact ⟨rfl, HB⟩)

end Go.Proofs.Ytebbpodcldndjaa
