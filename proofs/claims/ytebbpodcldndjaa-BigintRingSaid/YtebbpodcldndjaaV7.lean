/- Contracts: DivMod, by what a division of magnitudes returns. -/
import Derived.Test.YtebbpodcldndjaaV6
import Derived.Test.YtebbpodcldndjaaV1
import Derived.Deep.RegionHeld3
import Derived.Deep.DrawnRows
set_option linter.unusedVariables false
namespace Go.Proofs.Ytebbpodcldndjaa
open Go.RowKit
attribute [local go_sem ↓] Go.wp_at_zero Go.wp_at_succ

/-- a call that returns two integers and an error number -/
def GiveQ (n1 : Bool) (v1 : Nat) (n2 : Bool) (v2 : Nat) (err : Int) (w : World) (e : Ending) (w' : World) : Prop :=
  ∃ x y, e = .returned (.tuple #[x, y, .int .i64 err]) ∧ Zi w' x n1 v1 ∧ Zi w' y n2 v2 ∧ Below w.heap.size w w'
/-- the quotient and the rest of magnitudes, by whether the signs differ -/
def divQ (ne : Bool) (a b : Nat) : Nat := if ne = true ∧ a % b ≠ 0 then a / b + 1 else a / b
def divR (ne : Bool) (a b : Nat) : Nat := if ne = true ∧ a % b ≠ 0 then b - a % b else a % b

theorem boxed_4 (w : World) (p q p' q' : Value) :
    At ((((w.alloc (bx p q)).alloc (bx p' q')).alloc bx0).alloc bx0) w.heap.size p q ∧ At ((((w.alloc (bx p q)).alloc (bx p' q')).alloc bx0).alloc bx0) (w.heap.size + 1) p' q' ∧ At ((((w.alloc (bx p q)).alloc (bx p' q')).alloc bx0).alloc bx0) (w.heap.size + 2) (.bool false) (.slice none 0 0) ∧
    At ((((w.alloc (bx p q)).alloc (bx p' q')).alloc bx0).alloc bx0) (w.heap.size + 3) (.bool false) (.slice none 0 0) ∧
    Below w.heap.size w ((((w.alloc (bx p q)).alloc (bx p' q')).alloc bx0).alloc bx0) ∧
    ∀ A n c l, Sl w w.heap.size A n c (ml l) → Sl ((((w.alloc (bx p q)).alloc (bx p' q')).alloc bx0).alloc bx0) ((((w.alloc (bx p q)).alloc (bx p' q')).alloc bx0).alloc bx0).heap.size A n c (ml l) := by
  obtain ⟨h1, h2, h3, hb, hs⟩ := boxed_abr w p q p' q'
  have hb3 := below_new (((w.alloc (bx p q)).alloc (bx p' q')).alloc bx0) bx0
  have e2 : (((w.alloc (bx p q)).alloc (bx p' q')).alloc bx0).heap.size = w.heap.size + 3 := by simp
  have h4 := At.new (((w.alloc (bx p q)).alloc (bx p' q')).alloc bx0) (.bool false) (.slice none 0 0)
  rw [e2] at h4
  exact ⟨h1.next hb3, h2.next hb3, h3.next hb3, h4, below_step hb hb3, fun A n c l h => (hs A n c l h).next hb3⟩
theorem At.other {w : World} {g g' : Nat} {u v : Value} (h : At w g u v) (hg : g ≠ g') (a b : Value) : At ((w.setCell ⟨g', 0, none⟩ a).setCell ⟨g', 1, none⟩ b) g u v := by
  unfold At at *
  rw [heap_setCell_other _ _ _ _ (show g ≠ (⟨g', 1, none⟩ : Addr).block from hg), heap_setCell_other _ _ _ _ (show g ≠ (⟨g', 0, none⟩ : Addr).block from hg)]
  exact h
theorem At.set {w : World} {g : Nat} {u v : Value} (h : At w g u v) (a b : Value) : At ((w.setCell ⟨g, 0, none⟩ a).setCell ⟨g, 1, none⟩ b) g a b := by
  have hlt := h.lt
  unfold At at *
  rw [heap_setCell_same _ g 1 #[a, v] _ b (by simpa using heap_setCell_same w g 0 #[u, v] _ a h)]
  rfl
/-- what stands while DivMod ends -/
structure Dm (w W : World) (s1 s2 : Bool) (B1 B2 : Option Addr) (m1 d1 m2 d2 : Nat) (x3 x4 : Bool) (A3 A4 : Option Addr) (m3 d3 m4 d4 : Nat) (A5 A6 : Option Addr) (n5 c5 n6 c6 : Nat) (l5 l6 : List Nat) : Prop where
  a : At W w.heap.size (.bool s1) (.slice B1 m1 d1)
  b : At W (w.heap.size + 1) (.bool s2) (.slice B2 m2 d2)
  c : At W (w.heap.size + 2) (.bool x3) (.slice A3 m3 d3)
  d : At W (w.heap.size + 3) (.bool x4) (.slice A4 m4 d4)
  bel : Below w.heap.size w W
  q : Sl W W.heap.size A5 n5 c5 (ml l5)
  r : Sl W W.heap.size A6 n6 c6 (ml l6)
theorem Dm.next {w W : World} {s1 s2 : Bool} {B1 B2 : Option Addr} {m1 d1 m2 d2 : Nat} {x3 x4 : Bool} {A3 A4 : Option Addr} {m3 d3 m4 d4 : Nat} {A5 A6 : Option Addr} {n5 c5 n6 c6 : Nat} {l5 l6 : List Nat} {W' : World} (h : Dm w W s1 s2 B1 B2 m1 d1 m2 d2 x3 x4 A3 A4 m3 d3 m4 d4 A5 A6 n5 c5 n6 c6 l5 l6) (hb : Below W.heap.size W W') : Dm w W' s1 s2 B1 B2 m1 d1 m2 d2 x3 x4 A3 A4 m3 d3 m4 d4 A5 A6 n5 c5 n6 c6 l5 l6 :=
  ⟨h.a.next hb, h.b.next hb, h.c.next hb, h.d.next hb, below_step h.bel hb, h.q.next hb, h.r.next hb⟩
theorem Dm.cells {w W : World} {s1 s2 : Bool} {B1 B2 : Option Addr} {m1 d1 m2 d2 : Nat} {x3 x4 : Bool} {A3 A4 : Option Addr} {m3 d3 m4 d4 : Nat} {A5 A6 : Option Addr} {n5 c5 n6 c6 : Nat} {l5 l6 : List Nat} (h : Dm w W s1 s2 B1 B2 m1 d1 m2 d2 x3 x4 A3 A4 m3 d3 m4 d4 A5 A6 n5 c5 n6 c6 l5 l6) :
    W.cell? ⟨w.heap.size, 0, none⟩ = some (.bool s1) ∧ W.cell? ⟨w.heap.size + 1, 0, none⟩ = some (.bool s2) := ⟨h.a.facts.1, h.b.facts.1⟩
theorem Dm.outs {w W : World} {s1 s2 : Bool} {B1 B2 : Option Addr} {m1 d1 m2 d2 : Nat} {x3 x4 : Bool} {A3 A4 : Option Addr} {m3 d3 m4 d4 : Nat} {A5 A6 : Option Addr} {n5 c5 n6 c6 : Nat} {l5 l6 : List Nat} (h : Dm w W s1 s2 B1 B2 m1 d1 m2 d2 x3 x4 A3 A4 m3 d3 m4 d4 A5 A6 n5 c5 n6 c6 l5 l6) :
    W.cell? ⟨w.heap.size + 2, 0, none⟩ = some (.bool x3) ∧ W.cell? ⟨w.heap.size + 2, 1, none⟩ = some (.slice A3 m3 d3) ∧ W.frozen? ⟨w.heap.size + 2, 0, none⟩ = false ∧ W.frozen? ⟨w.heap.size + 2, 1, none⟩ = false ∧
    W.cell? ⟨w.heap.size + 3, 0, none⟩ = some (.bool x4) ∧ W.cell? ⟨w.heap.size + 3, 1, none⟩ = some (.slice A4 m4 d4) ∧ W.frozen? ⟨w.heap.size + 3, 0, none⟩ = false ∧ W.frozen? ⟨w.heap.size + 3, 1, none⟩ = false :=
  ⟨h.c.facts.1, h.c.facts.2.1, h.c.facts.2.2.1, h.c.facts.2.2.2, h.d.facts.1, h.d.facts.2.1, h.d.facts.2.2.1, h.d.facts.2.2.2⟩
theorem Dm.setC {w W : World} {s1 s2 : Bool} {B1 B2 : Option Addr} {m1 d1 m2 d2 : Nat} {x3 x4 : Bool} {A3 A4 : Option Addr} {m3 d3 m4 d4 : Nat} {A5 A6 : Option Addr} {n5 c5 n6 c6 : Nat} {l5 l6 : List Nat} (h : Dm w W s1 s2 B1 B2 m1 d1 m2 d2 x3 x4 A3 A4 m3 d3 m4 d4 A5 A6 n5 c5 n6 c6 l5 l6) (y : Bool) (A7 : Option Addr) (m7 d7 : Nat) :
    Dm w ((W.setCell ⟨w.heap.size + 2, 0, none⟩ (.bool y)).setCell ⟨w.heap.size + 2, 1, none⟩ (.slice A7 m7 d7)) s1 s2 B1 B2 m1 d1 m2 d2 y x4 A7 A4 m7 d7 m4 d4 A5 A6 n5 c5 n6 c6 l5 l6 :=
  ⟨h.a.other (by omega) _ _, h.b.other (by omega) _ _, h.c.set _ _, h.d.other (by omega) _ _, below_two h.bel (by omega) _ _, by simpa using Sl.store h.c h.q _ _, by simpa using Sl.store h.c h.r _ _⟩
theorem Dm.setD {w W : World} {s1 s2 : Bool} {B1 B2 : Option Addr} {m1 d1 m2 d2 : Nat} {x3 x4 : Bool} {A3 A4 : Option Addr} {m3 d3 m4 d4 : Nat} {A5 A6 : Option Addr} {n5 c5 n6 c6 : Nat} {l5 l6 : List Nat} (h : Dm w W s1 s2 B1 B2 m1 d1 m2 d2 x3 x4 A3 A4 m3 d3 m4 d4 A5 A6 n5 c5 n6 c6 l5 l6) (y : Bool) (A7 : Option Addr) (m7 d7 : Nat) :
    Dm w ((W.setCell ⟨w.heap.size + 3, 0, none⟩ (.bool y)).setCell ⟨w.heap.size + 3, 1, none⟩ (.slice A7 m7 d7)) s1 s2 B1 B2 m1 d1 m2 d2 x3 y A3 A7 m3 d3 m7 d7 A5 A6 n5 c5 n6 c6 l5 l6 :=
  ⟨h.a.other (by omega) _ _, h.b.other (by omega) _ _, h.c.other (by omega) _ _, h.d.set _ _, below_two h.bel (by omega) _ _, by simpa using Sl.store h.d h.q _ _, by simpa using Sl.store h.d h.r _ _⟩
theorem sl_len {w : World} {B : Nat} {A : Option Addr} {n c : Nat} {l : List Nat} (h : Sl w B A n c (ml l)) : n ≤ 9223372036854775807 := by
  have h1 := h.le
  have h2 := h.max
  unfold maxLen at h2
  omega

set_option maxRecDepth 100000 in
set_option maxHeartbeats 4000000 in
theorem divMod_mp (A1 A2 : Option Addr) (n1 c1 n2 c2 a b : Nat) (w : World) (hs1 : Sl w w.heap.size A1 n1 c1 (ml (enc a))) (hs2 : Sl w w.heap.size A2 n2 c2 (ml (enc b))) (hva : Vd true a) (hvb : Vd false b) (hb0 : b ≠ 0)
    (HDiv : Hid (∀ W : World, Sl W W.heap.size A1 n1 c1 (ml (enc a)) → Sl W W.heap.size A2 n2 c2 (ml (enc b)) → Calls Try.prog 64 #[.slice A1 n1 c1, .slice A2 n2 c2] W (GiveQR (a / b) (a % b) W))) (hx : a % b ≠ 0) :
    Calls Try.prog 27 #[.agg #[.bool true, .slice A1 n1 c1], .agg #[.bool false, .slice A2 n2 c2]] w (GiveQ (true && decide (a / b + 1 ≠ 0)) (a / b + 1) (false && decide (b - a % b ≠ 0)) (b - a % b) 0 w) := by
  have hl1 : (enc a).length = n1 := by rw [← length_ml]; exact hs1.len
  have hl2 : (enc b).length = n2 := by rw [← length_ml]; exact hs2.len
  have hn1 : n1 ≤ 512 := by rw [← hl1]; exact hva.2
  have hn2 : n2 ≤ 512 := by rw [← hl2]; exact hvb.2
  have hn20 : ((n2 : Int) == 0) = false := by rw [beq_eq_false_iff_ne]; intro e; exact hb0 (enc_eq_nil (by omega))
  obtain ⟨HA, HA2, HR, HR2, HB, hS⟩ := boxed_4 w (.bool true) (.slice A1 n1 c1) (.bool false) (.slice A2 n2 c2)
  have h1 := hS _ _ _ _ hs1
  have h2 := hS _ _ _ _ hs2
  clear hS hs1 hs2
  have hrb : a % b < b := Nat.mod_lt _ (by omega)
  have hqa : a / b ≤ a := Nat.div_le_self _ _
  obtain ⟨q, hq⟩ : ∃ q, a / b = q := ⟨_, rfl⟩
  obtain ⟨r, hr⟩ : ∃ r, a % b = r := ⟨_, rfl⟩
  rw [hq, hr] at HDiv
  rw [hr] at hrb
  rw [hq] at hqa
  rw [hq, hr]
  have hql : (enc q).length ≤ 512 := length_le_of hqa hva.2
  have hrl : (enc r).length ≤ 512 := length_le_of (Nat.le_of_lt hrb) hvb.2
  obtain ⟨nq, hnq⟩ : ∃ nq, (enc q).length = nq := ⟨_, rfl⟩
  obtain ⟨nr, hnr⟩ : ∃ nr, (enc r).length = nr := ⟨_, rfl⟩
  rw [hnq] at hql
  rw [hnr] at hrl
  have HNQ := Lib.hid hnq
  have HNR := Lib.hid hnr
  have hr0 : (0 : Nat) < nr := by
    rw [hr] at hx
    rcases Nat.eq_zero_or_pos nr with h | h
    · exact absurd (enc_eq_nil (hnr.trans h)) hx
    · exact h
  have hrb2 : r ≤ b := Nat.le_of_lt hrb
  have hq1l : (enc (q + 1)).length ≤ 513 := by
    refine (length_enc_le _ _).2 ?_
    have h5 := (length_enc_le _ _).1 (show (enc q).length ≤ 512 by omega)
    obtain ⟨z, hz⟩ : ∃ z, z = 512 := ⟨_, rfl⟩
    rw [← hz] at h5
    rw [show (513 : Nat) = z + 1 by omega, Nat.pow_succ]
    omega
  have hnn : nr ≤ n2 := by rw [← hnr, ← hl2]; exact length_le_of hrb2 (Nat.le_refl _)
  have hd1l : (enc (b - r)).length ≤ 512 := length_le_of (Nat.sub_le _ _) hvb.2
  obtain ⟨q1, hq1⟩ : ∃ q1, q + 1 = q1 := ⟨_, rfl⟩
  obtain ⟨r1, hr1⟩ : ∃ r1, b - r = r1 := ⟨_, rfl⟩
  rw [hq1] at hq1l ⊢
  rw [hr1] at hd1l ⊢
  obtain ⟨nq1, hnq1⟩ : ∃ n, (enc q1).length = n := ⟨_, rfl⟩
  obtain ⟨nr1, hnr1⟩ : ∃ n, (enc r1).length = n := ⟨_, rfl⟩
  have HNQ1 := Lib.hid hnq1
  have HNR1 := Lib.hid hnr1
  have HADD : Hid (∀ (W : World) (A5 : Option Addr) (c5 : Nat), Sl W W.heap.size A5 nq c5 (ml (enc q)) → Calls Try.prog 65 #[.slice A5 nq c5, .slice (some ⟨W.heap.size, 0, none⟩) 1 1] (W.alloc (.cells #[.int .u32 1] 63)) (fun e w' => ∃ A c, e = .returned (.slice A nq1 c) ∧ Sl w' w'.heap.size A nq1 c (ml (enc q1)) ∧ Below (W.alloc (.cells #[.int .u32 1] 63)).heap.size (W.alloc (.cells #[.int .u32 1] 63)) w')) := by
    intro W A5 c5 h
    have h7 := add_any A5 (some ⟨W.heap.size, 0, none⟩) nq c5 1 1 (enc q) [1] _ (h.next (below_new W (.cells #[.int .u32 ((1 : Nat) : Int)] 63))) (small_new W 1) (ok_enc q) (Ok.cons (by decide) Ok.nil) (by omega) (by omega)
    rw [val_enc, show val [1] = 1 from rfl, hq1] at h7
    exact h7.mono fun _ _ h => h.out hnq1
  have HSUB : Hid (∀ (W : World) (A6 : Option Addr) (c6 : Nat), Sl W W.heap.size A2 n2 c2 (ml (enc b)) → Sl W W.heap.size A6 nr c6 (ml (enc r)) → Calls Try.prog 66 #[.slice A2 n2 c2, .slice A6 nr c6] W (fun e w' => ∃ A c, e = .returned (.slice A nr1 c) ∧ Sl w' w'.heap.size A nr1 c (ml (enc r1)) ∧ Below W.heap.size W w')) := by
    intro W A6 c6 h h'
    have h7 := subtract_any A2 A6 n2 c2 nr c6 (enc b) (enc r) W h h' (ok_enc b) (ok_enc r) (by omega) hnn (by rw [val_enc, val_enc]; exact hrb2)
    rw [val_enc, val_enc, hr1] at h7
    exact h7.mono fun _ _ h => h.out hnr1
  clear hq hr hnq hnr hrb hqa hl1 hl2 hb0 hx hrb2 hq1 hr1 hnq1 hnr1 hq1l hd1l
  go_enter Try.func27, Try.ntmps27
  go_wp2_with fail
  refine (valid_true hva h1).mono ?_
  rintro e w3 ⟨rfl, hb3⟩
  replace h1 := h1.next hb3
  replace h2 := h2.next hb3
  replace HA := HA.next hb3
  replace HA2 := HA2.next hb3
  replace HR := HR.next hb3
  replace HR2 := HR2.next hb3
  replace HB := below_step HB hb3
  clear hb3
  obtain ⟨a1, a2, _, _⟩ := HA.facts
  obtain ⟨a3, a4, _, _⟩ := HA2.facts
  go_wp2_with fail
  refine (valid_true hvb h2).mono ?_
  rintro e w4 ⟨rfl, hb4⟩
  clear a1 a2 a3 a4
  replace h1 := (h1.next hb4)
  replace h2 := (h2.next hb4)
  obtain ⟨a1, a2, _, _⟩ := (HA.next hb4).facts
  obtain ⟨a3, a4, _, _⟩ := (HA2.next hb4).facts
  replace HA := (HA.next hb4)
  replace HA2 := (HA2.next hb4)
  replace HR := (HR.next hb4)
  replace HR2 := (HR2.next hb4)
  replace HB := (below_step HB hb4)
  clear hb4
  have HOP := Lib.hid (HDiv.out _ h1 h2)
  go_wp2_with fail
  refine HOP.out.mono ?_
  rintro e w5 ⟨A5, c5, A6, c6, rfl, hs5, hs6, hb5⟩
  rw [HNQ.out] at hs5 ⊢
  rw [HNR.out] at hs6 ⊢
  clear a1 a2 a3 a4 HOP HDiv
  replace h2 := h2.next hb5
  replace HA := HA.next hb5
  replace HA2 := HA2.next hb5
  replace HR := HR.next hb5
  replace HR2 := HR2.next hb5
  replace HB := below_step HB hb5
  clear hb5 h1
  obtain ⟨a1, a2, _, _⟩ := HA.facts
  obtain ⟨a3, a4, _, _⟩ := HA2.facts
  replace h2 := h2
  have HA0 := HADD.out w5 A5 c5 hs5
  have HN5 := below_new w5 (.cells #[.int .u32 1] 63)
  replace h2 := h2.next HN5
  replace hs6 := hs6.next HN5
  replace HA := HA.next HN5
  replace HA2 := HA2.next HN5
  replace HR := HR.next HN5
  replace HR2 := HR2.next HN5
  replace HB := below_step HB HN5
  have HA0 := Lib.hid HA0
  clear HN5
  go_wp2_with fail
  refine HA0.out.mono ?_
  rintro e w6 ⟨A7, c7, rfl, hs7, hb6⟩
  replace h2 := h2.next hb6
  replace hs6 := hs6.next hb6
  replace HA := HA.next hb6
  replace HA2 := HA2.next hb6
  replace HR := HR.next hb6
  replace HR2 := HR2.next hb6
  replace HB := below_step HB hb6
  clear a1 a2 a3 a4 HA0 hs5
  obtain ⟨a1, a2, _, _⟩ := HA.facts
  obtain ⟨a3, a4, _, _⟩ := HA2.facts
  have HS0 := Lib.hid (HSUB.out w6 A6 c6 h2 hs6)
  clear hb6 HADD HSUB
  go_wp2_with fail
  refine HS0.out.mono ?_
  rintro e w7 ⟨A8, c8, rfl, hs8, hb7⟩
  replace hs7 := hs7.next hb7
  replace HA := HA.next hb7
  replace HA2 := HA2.next hb7
  replace HR := HR.next hb7
  replace HR2 := HR2.next hb7
  replace HB := below_step HB hb7
  clear a1 a2 a3 a4 hb7 h2 hs6 HS0
  obtain ⟨a1, a2, _, _⟩ := HA.facts
  obtain ⟨a3, a4, _, _⟩ := HA2.facts
  have hq9 := sl_len hs7
  have hr9 := sl_len hs8
  have HD : Dm w _ true false A1 A2 n1 c1 n2 c2 false false none none 0 0 0 0 A7 A8 nq1 c7 nr1 c8 (enc q1) (enc r1) := ⟨HA.drew, HA2.drew, HR.drew, HR2.drew, HB.drew, hs7.drew, hs8.drew⟩
  clear HA HA2 HR HR2 HB hs7 hs8
  go_wp2
  clear a1 a2 a3 a4 hva hvb hn1 hn2 hn20 hql hrl hr0 hnn
  obtain ⟨a1, a3⟩ := HD.cells
  go_region_held3 (fun w' => w'.cell? ⟨w.heap.size, 0, none⟩ = some (.bool true) ∧ w'.cell? ⟨w.heap.size + 1, 0, none⟩ = some (.bool false))
    (first | (refine ⟨?_, ?_⟩ <;> assumption) | (refine ⟨?_, ?_⟩ <;> (repeat rw [World.cell?_setCell_other _ _ _ _ (by simp)]) <;> assumption) | go_keep | (refine ⟨?_, ?_⟩ <;> simp [*]))
    (first
    | (go_at_call 57; (with_reducible refine (signed_any _ _ _ _ _ (by assumption)).mono ?_); rintro e w8 ⟨rfl, hb8⟩; (with_reducible (have HE := Dm.next HD hb8)); clear HD hb8; clear a1 a3; obtain ⟨a1, a3⟩ := HE.cells; obtain ⟨o1, o2, o3, o4, o5, o6, o7, o8⟩ := HE.outs)
    | (go_at_call 57; (with_reducible refine (signed_any _ _ _ _ _ (by assumption)).mono ?_); rintro e w9 ⟨rfl, hb9⟩; (with_reducible (have HF := Dm.next HE hb9)); clear HE hb9; clear a1 a3 o1 o2 o3 o4 o5 o6 o7 o8; obtain ⟨a1, a3⟩ := HF.cells; obtain ⟨o1, o2, o3, o4, o5, o6, o7, o8⟩ := HF.outs))
  all_goals
    go_wp2
    refine bodyPost_ret (v := .tuple #[.agg #[.bool (true && decide (nq1 ≠ 0)), .slice A7 nq1 c7], .agg #[.bool (false && decide (nr1 ≠ 0)), .slice A8 nr1 c8], .int .i64 0]) (by simp [results, Try.results27, go_sem, o1, o2, o5, o6]) rfl ?_
    exact ⟨_, _, rfl, ⟨A7, c7, by rw [HNQ1.out, dec_enc _ _ HNQ1.out], by rw [HNQ1.out]; exact ((HF.setC _ _ _ _).setD _ _ _ _).q⟩, ⟨A8, c8, by rw [HNR1.out, dec_enc _ _ HNR1.out], by rw [HNR1.out]; exact ((HF.setC _ _ _ _).setD _ _ _ _).r⟩, ((HF.setC _ _ _ _).setD _ _ _ _).bel⟩
end Go.Proofs.Ytebbpodcldndjaa
