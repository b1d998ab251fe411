/- BigintOrder at valid integers. -/
import Derived.Test.YtdbkjcaodllpjaaLo
set_option linter.unusedVariables false
namespace Go.Proofs.Ytdbkjcaodllpjaa
open Go.RowKit
attribute [local go_sem ↓] Go.wp_at_zero Go.wp_at_succ

set_option maxRecDepth 100000 in
set_option maxHeartbeats 2000000 in
theorem order_good (B0 : Bool) (A0 : Option Addr) (n0 c0 a : Nat) (B1 : Bool) (A1 : Option Addr) (n1 c1 b : Nat) (B2 : Bool) (A2 : Option Addr) (n2 c2 c : Nat) (w : World) (s0 : Sl w w.heap.size A0 n0 c0 (ml (enc a))) (s1 : Sl w w.heap.size A1 n1 c1 (ml (enc b))) (s2 : Sl w w.heap.size A2 n2 c2 (ml (enc c))) (hva : Vd B0 a) (hvb : Vd B1 b) (hvc : Vd B2 c) :
    Calls Try.prog 11 #[.agg #[.bool B0, .slice A0 n0 c0], .agg #[.bool B1, .slice A1 n1 c1], .agg #[.bool B2, .slice A2 n2 c2]] w fun e w' => e = .returned (.bool true) ∧ Below w.heap.size w w' := by
  have I := three_in w B0 A0 n0 c0 _ B1 A1 n1 c1 _ B2 A2 n2 c2 _ s0 s1 s2
  clear s0 s1 s2
  obtain ⟨x, hx⟩ : ∃ x, cmpS B0 a B1 b = x := ⟨_, rfl⟩
  obtain ⟨y, hy⟩ : ∃ y, cmpS B1 b B2 c = y := ⟨_, rfl⟩
  obtain ⟨z, hz⟩ : ∃ z, cmpS B0 a B2 c = z := ⟨_, rfl⟩
  have ex := hx
  have ey := hy
  have ez := hz
  rw [cmp_zi _ _ _ _ hva.1 hvb.1] at ex
  rw [cmp_zi _ _ _ _ hvb.1 hvc.1] at ey
  rw [cmp_zi _ _ _ _ hva.1 hvc.1] at ez
  have hx1 : -1 ≤ x ∧ x ≤ 1 := by rcases cmpZ_cases (zi B0 a) (zi B1 b) with ⟨_, e⟩ | ⟨_, e⟩ | ⟨_, e⟩ <;> omega
  have hy1 : -1 ≤ y ∧ y ≤ 1 := by rcases cmpZ_cases (zi B1 b) (zi B2 c) with ⟨_, e⟩ | ⟨_, e⟩ | ⟨_, e⟩ <;> omega
  have hways : (0 < x) ∨ (x ≤ 0 ∧ 0 < y) ∨ (x ≤ 0 ∧ y ≤ 0 ∧ z ≤ 0 ∧ x + y < 0 ∧ z = -1) ∨ (x ≤ 0 ∧ y ≤ 0 ∧ z ≤ 0 ∧ 0 ≤ x + y) := by
    rcases cmpZ_cases (zi B0 a) (zi B1 b) with ⟨h, e⟩ | ⟨h, e⟩ | ⟨h, e⟩ <;> rcases cmpZ_cases (zi B1 b) (zi B2 c) with ⟨h', e'⟩ | ⟨h', e'⟩ | ⟨h', e'⟩ <;> rcases cmpZ_cases (zi B0 a) (zi B2 c) with ⟨h'', e''⟩ | ⟨h'', e''⟩ | ⟨h'', e''⟩ <;> omega
  obtain ⟨sx, hsx⟩ : ∃ sx, (x == 0) = sx := ⟨_, rfl⟩
  obtain ⟨nx, hnx⟩ : ∃ nx, -x = nx := ⟨_, rfl⟩
  have hx3 : (x = -1 ∧ nx = 1 ∧ sx = false) ∨ (x = 0 ∧ nx = 0 ∧ sx = true) ∨ (x = 1 ∧ nx = -1 ∧ sx = false) := by
    have h3 : x = -1 ∨ x = 0 ∨ x = 1 := by omega
    rcases h3 with h | h | h <;> rw [← hsx, ← hnx, h] <;> simp
  have HCab : Hid (∀ W : World, Sl W W.heap.size A0 n0 c0 (ml (enc a)) → Sl W W.heap.size A1 n1 c1 (ml (enc b)) → Calls Try.prog 22 #[.agg #[.bool B0, .slice A0 n0 c0], .agg #[.bool B1, .slice A1 n1 c1]] W fun e w' => e = .returned (.int .i64 x) ∧ Below W.heap.size W w') := by
    intro W h h'
    have := cmp_any _ _ B0 B1 a b W (zi_of h) (zi_of h') hva hvb
    rwa [hx] at this
  have HCba : Hid (∀ W : World, Sl W W.heap.size A1 n1 c1 (ml (enc b)) → Sl W W.heap.size A0 n0 c0 (ml (enc a)) → Calls Try.prog 22 #[.agg #[.bool B1, .slice A1 n1 c1], .agg #[.bool B0, .slice A0 n0 c0]] W fun e w' => e = .returned (.int .i64 nx) ∧ Below W.heap.size W w') := by
    intro W h h'
    have := cmp_any _ _ B1 B0 b a W (zi_of h) (zi_of h') hvb hva
    rwa [cmp_zi _ _ _ _ hvb.1 hva.1, cmpZ_swap, ex, hnx] at this
  have HCbc : Hid (∀ W : World, Sl W W.heap.size A1 n1 c1 (ml (enc b)) → Sl W W.heap.size A2 n2 c2 (ml (enc c)) → Calls Try.prog 22 #[.agg #[.bool B1, .slice A1 n1 c1], .agg #[.bool B2, .slice A2 n2 c2]] W fun e w' => e = .returned (.int .i64 y) ∧ Below W.heap.size W w') := by
    intro W h h'
    have := cmp_any _ _ B1 B2 b c W (zi_of h) (zi_of h') hvb hvc
    rwa [hy] at this
  have HCac : Hid (∀ W : World, Sl W W.heap.size A0 n0 c0 (ml (enc a)) → Sl W W.heap.size A2 n2 c2 (ml (enc c)) → Calls Try.prog 22 #[.agg #[.bool B0, .slice A0 n0 c0], .agg #[.bool B2, .slice A2 n2 c2]] W fun e w' => e = .returned (.int .i64 z) ∧ Below W.heap.size W w') := by
    intro W h h'
    have := cmp_any _ _ B0 B2 a c W (zi_of h) (zi_of h') hva hvc
    rwa [hz] at this
  have HSame : Hid (∀ W : World, Sl W W.heap.size A0 n0 c0 (ml (enc a)) → Sl W W.heap.size A1 n1 c1 (ml (enc b)) → Calls Try.prog 19 #[.agg #[.bool B0, .slice A0 n0 c0], .agg #[.bool B1, .slice A1 n1 c1]] W fun e w' => e = .returned (.bool sx) ∧ Below W.heap.size W w') := by
    intro W h h'
    have := same_any _ _ B0 B1 a b W (zi_of h) (zi_of h')
    rwa [same_cmp _ _ _ _ hva.1 hvb.1, hx, hsx] at this
  obtain ⟨sa, hsa⟩ : ∃ sa, (!B0 && decide (a ≠ 0)) = sa := ⟨_, rfl⟩
  obtain ⟨sb_, hsb⟩ : ∃ sb_, (!B1 && decide (b ≠ 0)) = sb_ := ⟨_, rfl⟩
  have HNa : Hid (∀ W : World, Sl W W.heap.size A0 n0 c0 (ml (enc a)) → Calls Try.prog 20 #[.agg #[.bool B0, .slice A0 n0 c0]] W (GiveI sa a W)) := by
    intro W h
    have := neg_any _ B0 a W (zi_of h) hva
    rwa [hsa] at this
  have HNb : Hid (∀ W : World, Sl W W.heap.size A1 n1 c1 (ml (enc b)) → Calls Try.prog 20 #[.agg #[.bool B1, .slice A1 n1 c1]] W (GiveI sb_ b W)) := by
    intro W h
    have := neg_any _ B1 b W (zi_of h) hvb
    rwa [hsb] at this
  have HCn : Hid (∀ (W : World) (A6 A7 : Option Addr) (n6 c6 n7 c7 : Nat), Sl W W.heap.size A6 n6 c6 (ml (enc b)) → Sl W W.heap.size A7 n7 c7 (ml (enc a)) → Calls Try.prog 22 #[.agg #[.bool sb_, .slice A6 n6 c6], .agg #[.bool sa, .slice A7 n7 c7]] W fun e w' => e = .returned (.int .i64 x) ∧ Below W.heap.size W w') := by
    intro W A6 A7 n6 c6 n7 c7 h h'
    have v1 : Vd sb_ b := ⟨by rw [← hsb]; exact neg_valid B1 b, hvb.2⟩
    have v2 : Vd sa a := ⟨by rw [← hsa]; exact neg_valid B0 a, hva.2⟩
    have := cmp_any _ _ sb_ sa b a W (zi_of h) (zi_of h') v1 v2
    have e : cmpS sb_ b sa a = x := by
      rw [cmp_zi _ _ _ _ v1.1 v2.1, ← hsa, ← hsb, zi_neg, zi_neg, cmpZ_neg]
      exact ex
    rwa [e] at this
  obtain ⟨p1, p2, e1, hp⟩ : ∃ p1 p2 e1, addS B0 a B2 c = (p1, p2, e1) := ⟨_, _, _, rfl⟩
  obtain ⟨q1, q2, e2, hq⟩ : ∃ q1 q2 e2, addS B1 b B2 c = (q1, q2, e2) := ⟨_, _, _, rfl⟩
  have HAac : Hid (∀ W : World, Sl W W.heap.size A0 n0 c0 (ml (enc a)) → Sl W W.heap.size A2 n2 c2 (ml (enc c)) → Calls Try.prog 15 #[.agg #[.bool B0, .slice A0 n0 c0], .agg #[.bool B2, .slice A2 n2 c2]] W (GiveE p1 p2 e1 W)) := by
    intro W h h'
    have := add2_any _ _ B0 B2 a c W (zi_of h) (zi_of h') hva hvc
    rwa [hp] at this
  have HAbc : Hid (∀ W : World, Sl W W.heap.size A1 n1 c1 (ml (enc b)) → Sl W W.heap.size A2 n2 c2 (ml (enc c)) → Calls Try.prog 15 #[.agg #[.bool B1, .slice A1 n1 c1], .agg #[.bool B2, .slice A2 n2 c2]] W (GiveE q1 q2 e2 W)) := by
    intro W h h'
    have := add2_any _ _ B1 B2 b c W (zi_of h) (zi_of h') hvb hvc
    rwa [hq] at this
  have HE : Hid ((e1 = 4 ∨ (e1 = 0 ∧ e2 = 4)) ∨ (e1 = 0 ∧ e2 = 0 ∧ ∀ (W : World) (A6 A7 : Option Addr) (n6 c6 n7 c7 : Nat), Sl W W.heap.size A6 n6 c6 (ml (enc p2)) → Sl W W.heap.size A7 n7 c7 (ml (enc q2)) → Calls Try.prog 22 #[.agg #[.bool p1, .slice A6 n6 c6], .agg #[.bool q1, .slice A7 n7 c7]] W fun e w' => e = .returned (.int .i64 x) ∧ Below W.heap.size W w')) := by
    unfold addS at hp hq
    have s1 := sum_valid B0 a B2 c
    have s2 := sum_valid B1 b B2 c
    have z1 := zi_sum B0 a B2 c
    have z2 := zi_sum B1 b B2 c
    rcases lim_cases (sumS B0 a B2 c).1 (sumS B0 a B2 c).2 with ⟨l1, h1⟩ | h1
    · rw [h1] at hp
      injection hp with g1 g2
      injection g2 with g2 g3
      rcases lim_cases (sumS B1 b B2 c).1 (sumS B1 b B2 c).2 with ⟨l2, h2⟩ | h2
      · rw [h2] at hq
        injection hq with k1 k2
        injection k2 with k2 k3
        refine .inr ⟨g3.symm, k3.symm, ?_⟩
        intro W A6 A7 n6 c6 n7 c7 h h'
        rw [g1, g2] at s1 z1
        rw [k1, k2] at s2 z2
        rw [g2] at l1
        rw [k2] at l2
        have := cmp_any _ _ p1 q1 p2 q2 W (zi_of h) (zi_of h') ⟨s1, l1⟩ ⟨s2, l2⟩
        rwa [cmp_zi _ _ _ _ s1 s2, z1, z2, cmpZ_add, ex] at this
      · rw [h2] at hq
        injection hq with k1 k2
        injection k2 with k2 k3
        exact .inl (.inr ⟨g3.symm, k3.symm⟩)
    · rw [h1] at hp
      injection hp with g1 g2
      injection g2 with g2 g3
      exact .inl (.inl g3.symm)
  have hxl := hx1.1
  have hxu := hx1.2
  have hyl := hy1.1
  have hyu := hy1.2
  have HWays := Lib.hid hways
  have HX3 := Lib.hid hx3
  have HSX := Lib.hid hsx
  have HNX := Lib.hid hnx
  clear hx3 hsx hnx hx hy hz ex ey ez hx1 hy1 hways hsa hsb hp hq
  go_enter Try.func11, Try.ntmps11
  go_wp2_with fail
  refine (valid_true hva I.a.sl).mono ?_
  rintro e w2 ⟨rfl, hb2⟩
  replace I := I.next hb2
  obtain ⟨a1, a2, a3, a4, a5, a6⟩ := I.cells
  go_wp2_with fail
  refine (valid_true hvb I.b.sl).mono ?_
  rintro e w3 ⟨rfl, hb3⟩
  replace I := I.next hb3
  clear a1 a2 a3 a4 a5 a6
  obtain ⟨a1, a2, a3, a4, a5, a6⟩ := I.cells
  go_wp2_with fail
  refine (valid_true hvc I.c.sl).mono ?_
  rintro e w4 ⟨rfl, hb4⟩
  replace I := I.next hb4
  clear a1 a2 a3 a4 a5 a6 hb2 hb3 hb4 hva hvb hvc
  obtain ⟨a1, a2, a3, a4, a5, a6⟩ := I.cells
  go_wp2_with fail
  refine (HCab.out _ I.a.sl I.b.sl).mono ?_
  rintro e w5 ⟨rfl, hb5⟩
  replace I := I.next hb5
  clear a1 a2 a3 a4 a5 a6 hb5
  obtain ⟨a1, a2, a3, a4, a5, a6⟩ := I.cells
  go_wp2_with fail
  refine (HCbc.out _ I.b.sl I.c.sl).mono ?_
  rintro e w6 ⟨rfl, hb6⟩
  have J := (I.next hb6).drew
  clear a1 a2 a3 a4 a5 a6 hb6 I
  obtain ⟨a1, a2, a3, a4, a5, a6⟩ := J.cells
  go_upto_region 5 with fail
  go_cut [77] (fun s77 wx => s77 = .bool false ∧ In3 wx w B0 A0 n0 c0 (enc a) B1 A1 n1 c1 (enc b) B2 A2 n2 c2 (enc c))
  case first =>
    have hd1 : decide (x < -1) = false := decide_eq_false (by omega)
    have hd2 : decide (1 < x) = false := decide_eq_false (by omega)
    have hw0 : IntKind.i64.wrap (-x) = -x := by rw [IntKind.wrap_i64]; omega
    have hw1 : (nx != -x) = false := by rw [← HNX.out]; simp
    have hw2 : (nx == -x) = true := by rw [← HNX.out]; simp
    have hw3 : nx = -x := HNX.out.symm
    subst hw3
    clear hw1 hw2
    have hw4 : (-x != -x) = false := by simp
    have hx0 : (x == 0) = sx := HSX.out
    clear HSX HX3 HWays HE hyl hyu HCac HAac HAbc HCab HCbc
    have hz1 := hxl
    go_region_held3 (fun W => W.cell? ⟨w.heap.size, 0, none⟩ = some (.bool B0) ∧ W.cell? ⟨w.heap.size, 1, none⟩ = some (.slice A0 n0 c0) ∧ W.cell? ⟨w.heap.size + 1, 0, none⟩ = some (.bool B1) ∧ W.cell? ⟨w.heap.size + 1, 1, none⟩ = some (.slice A1 n1 c1))
      (first | (with_reducible exact ⟨a1, a2, a3, a4⟩))
      (first
      | (go_at_call 22; (with_reducible refine (HCba.out _ J.b.sl J.a.sl).mono ?_); rintro e wd ⟨rfl, hbd⟩; have J1 := J.next hbd; clear J hbd a1 a2 a3 a4 a5 a6; obtain ⟨a1, a2, a3, a4, a5, a6⟩ := J1.cells)
      | (go_at_call 19; (with_reducible refine (HSame.out _ J1.a.sl J1.b.sl).mono ?_); rintro e wd ⟨rfl, hbd⟩; have J2 := J1.next hbd; clear J1 hbd a1 a2 a3 a4 a5 a6; obtain ⟨a1, a2, a3, a4, a5, a6⟩ := J2.cells)
      | (go_at_call 20; (with_reducible refine (HNb.out _ J2.b.sl).mono ?_); intro e wd hm; obtain ⟨A6, n6, c6, rfl, hs6, hbd⟩ := giveI_out hm; have J3 := J2.next hbd; clear hm J2 hbd a1 a2 a3 a4 a5 a6; obtain ⟨a1, a2, a3, a4, a5, a6⟩ := J3.cells)
      | (go_at_call 20; (with_reducible refine (HNa.out _ J3.a.sl).mono ?_); intro e wd hm; obtain ⟨A7, n7, c7, rfl, hs7, hbd⟩ := giveI_out hm; have J4 := J3.next hbd; have hs6n := hs6.next hbd; clear hm J3 hbd hs6 a1 a2 a3 a4 a5 a6; obtain ⟨a1, a2, a3, a4, a5, a6⟩ := J4.cells)
      | (go_at_call 22; (with_reducible refine (HCn.out _ _ _ _ _ _ _ hs6n hs7).mono ?_); rintro e wd ⟨rfl, hbd⟩; have J5 := J4.next hbd; clear J4 hbd hs6n hs7 a1 a2 a3 a4 a5 a6; obtain ⟨a1, a2, a3, a4, a5, a6⟩ := J5.cells))
    all_goals
      go_wp2_with fail
      go_meet
      exact ⟨rfl, J5⟩
  case rest =>
    obtain ⟨rfl, K⟩ := hcut
    clear a1 a2 a3 a4 a5 a6 J HCab HCba HCbc HSame HNa HNb HCn HSX HNX HX3
    obtain ⟨a1, a2, a3, a4, a5, a6⟩ := K.cells
    go_upto_region 7 with fail
    go_cut [101] (fun s101 wx => s101 = .bool false ∧ In3 wx w B0 A0 n0 c0 (enc a) B1 A1 n1 c1 (enc b) B2 A2 n2 c2 (enc c))
    case first =>
      clear HE HAac HAbc
      rcases HWays.out with h | ⟨h, h'⟩ | ⟨h, h', hz, hs, hz1⟩ | ⟨h, h', hz, hs⟩
      · go_wp2_with fail
        go_meet
        exact ⟨rfl, K⟩
      · go_wp2_with fail
        go_meet
        exact ⟨rfl, K⟩
      · subst hz1
        go_wp2_with fail
        refine (HCac.out _ K.a.sl K.c.sl).mono ?_
        rintro e w7 ⟨rfl, hb7⟩
        have K2 := K.next hb7
        clear a1 a2 a3 a4 a5 a6 hb7 K
        obtain ⟨a1, a2, a3, a4, a5, a6⟩ := K2.cells
        go_wp2_with fail
        refine (HCac.out _ K2.a.sl K2.c.sl).mono ?_
        rintro e w8 ⟨rfl, hb8⟩
        have K3 := K2.next hb8
        go_wp2_with fail
        go_meet
        exact ⟨rfl, K3⟩
      · go_wp2_with fail
        refine (HCac.out _ K.a.sl K.c.sl).mono ?_
        rintro e w7 ⟨rfl, hb7⟩
        have K2 := K.next hb7
        go_wp2_with fail
        go_meet
        exact ⟨by rw [decide_eq_false (show ¬ 0 < z by omega)], K2⟩
    case rest =>
      obtain ⟨rfl, K2⟩ := hcut
      clear a1 a2 a3 a4 a5 a6 K HCac HWays
      obtain ⟨a1, a2, a3, a4, a5, a6⟩ := K2.cells
      go_wp2_with fail
      refine (HAac.out _ K2.a.sl K2.c.sl).mono ?_
      intro e w7 h
      obtain ⟨A6, n6, c6, rfl, hs6, hb7⟩ := giveE_out h
      have X6 := Bx.new (neg := p1) hs6
      have hnn := below_step hb7 (below_new w7 (.cells #[.bool p1, .slice A6 n6 c6] 24))
      have K3 := K2.next hnn
      clear a1 a2 a3 a4 a5 a6 h hs6 hb7 hnn K2
      obtain ⟨a1, a2, a3, a4, a5, a6⟩ := K3.cells
      go_wp2_with fail
      refine (HAbc.out _ K3.b.sl K3.c.sl).mono ?_
      intro e w8 h
      obtain ⟨A7, n7, c7, rfl, hs7, hb8⟩ := giveE_out h
      have X7 := Bx.new (neg := q1) hs7
      have hnn := below_step hb8 (below_new w8 (.cells #[.bool q1, .slice A7 n7 c7] 24))
      have HB := below_step K3.bel hnn
      have X6n := X6.next hnn
      clear a1 a2 a3 a4 a5 a6 h hs7 hb8 hnn K3 X6
      obtain ⟨k1, k2⟩ := X6n.cells
      rcases HE.out with (h1 | ⟨h1, h2⟩) | ⟨h1, h2, HST⟩
      · subst h1
        clear HE
        go_wp2_with fail
        refine (examples_any _).mono ?_
        rintro e w9 ⟨rfl, hb9⟩
        go_wp2
        go_ret
        exact ⟨rfl, below_step HB hb9⟩
      · subst h1
        subst h2
        clear HE
        go_wp2_with fail
        refine (examples_any _).mono ?_
        rintro e w9 ⟨rfl, hb9⟩
        go_wp2
        go_ret
        exact ⟨rfl, below_step HB hb9⟩
      · subst h1
        subst h2
        have HST' := Lib.hid HST
        clear HE HST
        go_wp2_with fail
        refine (HST'.out _ _ _ _ _ _ _ X6n.sl X7.sl).mono ?_
        rintro e w9 ⟨rfl, hb9⟩
        have HB9 := below_step HB hb9
        clear hb9 HB X6n X7 k1 k2
        go_wp2_with fail
        refine (examples_any _).mono ?_
        rintro e w10 ⟨rfl, hb10⟩
        go_wp2
        go_ret
        exact ⟨rfl, below_step HB9 hb10⟩

theorem law_order (B0 : Bool) (A0 : Option Addr) (n0 c0 : Nat) (l0 : List Nat) (B1 : Bool) (A1 : Option Addr) (n1 c1 : Nat) (l1 : List Nat) (B2 : Bool) (A2 : Option Addr) (n2 c2 : Nat) (l2 : List Nat) (w : World) (s0 : Sl w w.heap.size A0 n0 c0 (ml l0)) (o0 : Ok l0) (s1 : Sl w w.heap.size A1 n1 c1 (ml l1)) (o1 : Ok l1) (s2 : Sl w w.heap.size A2 n2 c2 (ml l2)) (o2 : Ok l2) :
    Calls Try.prog 11 #[.agg #[.bool B0, .slice A0 n0 c0], .agg #[.bool B1, .slice A1 n1 c1], .agg #[.bool B2, .slice A2 n2 c2]] w fun e w' => e = .returned (.bool true) ∧ Below w.heap.size w w' := by
  cases h0 : validB B0 l0 with
  | false => exact order_bad B0 A0 n0 c0 l0 B1 A1 n1 c1 l1 B2 A2 n2 c2 l2 w s0 o0 s1 o1 s2 o2 (.inl h0)
  | true =>
    cases h1 : validB B1 l1 with
    | false => exact order_bad B0 A0 n0 c0 l0 B1 A1 n1 c1 l1 B2 A2 n2 c2 l2 w s0 o0 s1 o1 s2 o2 (.inr ⟨h0, h1⟩)
    | true =>
      obtain ⟨e0, v0⟩ := of_validB o0 h0
      obtain ⟨e1, v1⟩ := of_validB o1 h1
      rw [e0] at s0
      rw [e1] at s1
      cases h2 : validB B2 l2 with
      | false => exact order_bad2 B0 A0 n0 c0 _ B1 A1 n1 c1 _ B2 A2 n2 c2 l2 w s0 s1 s2 o2 v0 v1 h2
      | true =>
        obtain ⟨e2, v2⟩ := of_validB o2 h2
        rw [e2] at s2
        exact order_good B0 A0 n0 c0 _ B1 A1 n1 c1 _ B2 A2 n2 c2 _ w s0 s1 s2 v0 v1 v2
end Go.Proofs.Ytdbkjcaodllpjaa
