/- Contracts of galois: powers. -/
import Derived.Test.YtjbaleadahefoaaDoorWa
set_option linter.unusedVariables false
namespace Go.Proofs.YtjbaleadahefoaaDoor
open Go.RowKit

/-- an element's cells lie at block g -/
structure Ec (w : World) (g : Nat) (c n q v : Int) : Prop where
  c0 : w.cell? ⟨g, 0, none⟩ = some (.int .i64 c)
  c1 : w.cell? ⟨g, 1, none⟩ = some (.int .i64 n)
  c2 : w.cell? ⟨g, 2, none⟩ = some (.int .i64 q)
  c3 : w.cell? ⟨g, 3, none⟩ = some (.int .i64 v)
  f0 : w.frozen? ⟨g, 0, none⟩ = false
  f1 : w.frozen? ⟨g, 1, none⟩ = false
  f2 : w.frozen? ⟨g, 2, none⟩ = false
  f3 : w.frozen? ⟨g, 3, none⟩ = false
  lt : g < w.heap.size
theorem El.ec {w : World} {g : Nat} {c n q v : Int} (h : El w g c n q v) : Ec w g c n q v := ⟨h.cells.1, h.cells.2.1, h.cells.2.2.1, h.cells.2.2.2, h.frozen.1, h.frozen.2.1, h.frozen.2.2.1, h.frozen.2.2.2, h.lt⟩
theorem Ec.next {w w' : World} {g : Nat} {c n q v : Int} (h : Ec w g c n q v) (hb : Below w.heap.size w w') : Ec w' g c n q v :=
  ⟨(hb.cell (p := ⟨g, 0, none⟩) h.lt).trans h.c0, (hb.cell (p := ⟨g, 1, none⟩) h.lt).trans h.c1, (hb.cell (p := ⟨g, 2, none⟩) h.lt).trans h.c2, (hb.cell (p := ⟨g, 3, none⟩) h.lt).trans h.c3, (hb.frozen (p := ⟨g, 0, none⟩) h.lt).trans h.f0, (hb.frozen (p := ⟨g, 1, none⟩) h.lt).trans h.f1, (hb.frozen (p := ⟨g, 2, none⟩) h.lt).trans h.f2, (hb.frozen (p := ⟨g, 3, none⟩) h.lt).trans h.f3, Nat.lt_of_lt_of_le h.lt hb.size⟩
theorem size_four (w : World) (g : Nat) (u v x y : Value) : ((((w.setCell ⟨g, 0, none⟩ u).setCell ⟨g, 1, none⟩ v).setCell ⟨g, 2, none⟩ x).setCell ⟨g, 3, none⟩ y).heap.size = w.heap.size := by simp
theorem Ec.store {w : World} {g : Nat} {c n q v : Int} (h : Ec w g c n q v) (c' n' q' v' : Int) : Ec ((((w.setCell ⟨g, 0, none⟩ (.int .i64 c')).setCell ⟨g, 1, none⟩ (.int .i64 n')).setCell ⟨g, 2, none⟩ (.int .i64 q')).setCell ⟨g, 3, none⟩ (.int .i64 v')) g c' n' q' v' := by
  obtain ⟨t0, t1, t2, t3⟩ := set_four h.c0 h.c1 h.c2 h.c3 (.int .i64 c') (.int .i64 n') (.int .i64 q') (.int .i64 v')
  refine ⟨t0, t1, t2, t3, ?_, ?_, ?_, ?_, by rw [size_four]; exact h.lt⟩
  · simp only [World.frozen?_setCell]; exact h.f0
  · simp only [World.frozen?_setCell]; exact h.f1
  · simp only [World.frozen?_setCell]; exact h.f2
  · simp only [World.frozen?_setCell]; exact h.f3
theorem Ec.other {w : World} {g g' : Nat} {c n q v : Int} (h : Ec w g c n q v) (hne : ¬ g' = g) (u v' x y : Value) : Ec ((((w.setCell ⟨g', 0, none⟩ u).setCell ⟨g', 1, none⟩ v').setCell ⟨g', 2, none⟩ x).setCell ⟨g', 3, none⟩ y) g c n q v := by
  refine ⟨?_, ?_, ?_, ?_, ?_, ?_, ?_, ?_, by rw [size_four]; exact h.lt⟩
  · rw [World.cell?_setCell_other _ _ _ _ (fun h => hne (congrArg Addr.block h)), World.cell?_setCell_other _ _ _ _ (fun h => hne (congrArg Addr.block h)), World.cell?_setCell_other _ _ _ _ (fun h => hne (congrArg Addr.block h)), World.cell?_setCell_other _ _ _ _ (fun h => hne (congrArg Addr.block h))]; exact h.c0
  · rw [World.cell?_setCell_other _ _ _ _ (fun h => hne (congrArg Addr.block h)), World.cell?_setCell_other _ _ _ _ (fun h => hne (congrArg Addr.block h)), World.cell?_setCell_other _ _ _ _ (fun h => hne (congrArg Addr.block h)), World.cell?_setCell_other _ _ _ _ (fun h => hne (congrArg Addr.block h))]; exact h.c1
  · rw [World.cell?_setCell_other _ _ _ _ (fun h => hne (congrArg Addr.block h)), World.cell?_setCell_other _ _ _ _ (fun h => hne (congrArg Addr.block h)), World.cell?_setCell_other _ _ _ _ (fun h => hne (congrArg Addr.block h)), World.cell?_setCell_other _ _ _ _ (fun h => hne (congrArg Addr.block h))]; exact h.c2
  · rw [World.cell?_setCell_other _ _ _ _ (fun h => hne (congrArg Addr.block h)), World.cell?_setCell_other _ _ _ _ (fun h => hne (congrArg Addr.block h)), World.cell?_setCell_other _ _ _ _ (fun h => hne (congrArg Addr.block h)), World.cell?_setCell_other _ _ _ _ (fun h => hne (congrArg Addr.block h))]; exact h.c3
  · simp only [World.frozen?_setCell]; exact h.f0
  · simp only [World.frozen?_setCell]; exact h.f1
  · simp only [World.frozen?_setCell]; exact h.f2
  · simp only [World.frozen?_setCell]; exact h.f3

/-- powers by squares -/
def pwr (T : Nat → Nat → Nat) : Nat → Nat → Nat → Nat → Nat
  | 0, _, r, _ => r
  | f + 1, E, r, a => if E = 0 then r else pwr T f (E / 2) (if E % 2 = 1 then T r a else r) (T a a)
theorem pwr_zero (T : Nat → Nat → Nat) (f r a : Nat) : pwr T f 0 r a = r := by cases f <;> simp [pwr]
set_option maxRecDepth 100000 in
theorem power_any (T : Nat → Nat → Nat) (c q : Int) (n : Nat) (hn : 2 ≤ n) (hn2 : n ≤ 4096)
    (HT : ∀ a b, a < n → b < n → T a b < n ∧ ∀ w, Calls Tryd.prog 52 #[elV c n q a, elV c n q b] w fun e w' => e = .returned (elV c n q (T a b : Nat)) ∧ Below w.heap.size w w')
    (x : Nat) (hx : x < n) (e t : Int) (E : Nat) (ht : e.tmod ((n : Int) - 1) = t) (hE : (t + ((n : Int) - 1)).tmod ((n : Int) - 1) = E) (ht1 : -4096 ≤ t) (ht2 : t ≤ 4096) (hE2 : E < 4096) (w : World) :
    Calls Tryd.prog 54 #[elV c n q x, .int .i64 e] w fun r w' => r = .returned (elV c n q (pwr T 12 E 1 x : Nat)) ∧ Below w.heap.size w w' := by
  obtain ⟨R, hR⟩ : ∃ R, pwr T 12 E 1 x = R := ⟨_, rfl⟩
  have HR := Lib.hid hR
  rw [hR]
  clear hR
  have HX := Lib.hid hx
  have HN := Lib.hid (And.intro hn hn2)
  have HE2 := Lib.hid hE2
  have H1 := one_any c n q
  unfold elV at HT H1 ⊢
  have HTT := Lib.hid HT
  clear HT
  obtain ⟨P, hP⟩ : ∃ P : Int, (n : Int) - 1 = P := ⟨_, rfl⟩
  have hP1 : 1 ≤ P := by omega
  have hP2 : P ≤ 4095 := by omega
  have hP0 : ¬ P = 0 := by omega
  have hn1 : (n : Int) ≤ 4096 := by omega
  have hn0 : (2 : Int) ≤ n := by omega
  rw [hP] at ht hE
  clear hx hn hn2 hE2
  have E2 := (El.new w c n q x).next (below_new _ (.cells #[.int .i64 0, .int .i64 0, .int .i64 0, .int .i64 0] 52))
  have E4 := El.new (w.alloc (.cells #[.int .i64 c, .int .i64 n, .int .i64 q, .int .i64 x] 52)) 0 0 0 0
  have hs : (w.alloc (.cells #[.int .i64 c, .int .i64 n, .int .i64 q, .int .i64 (x : Int)] 52)).heap.size = w.heap.size + 1 := by simp
  rw [hs] at E4
  have hb0 := below_step (below_new w (.cells #[.int .i64 c, .int .i64 n, .int .i64 q, .int .i64 (x : Int)] 52)) (below_new _ (.cells #[.int .i64 0, .int .i64 0, .int .i64 0, .int .i64 0] 52))
  clear hs
  obtain ⟨c1, c2, c3, c4⟩ := E2.cells
  go_enter Tryd.func54, Tryd.ntmps54
  go_wp2_with fail
  refine (H1 _).mono ?_
  rintro e w1 ⟨rfl, hb1⟩
  have D2 := E2.ec.next hb1
  have D4 := E4.ec.next hb1
  have hb2 := below_step hb0 hb1
  obtain ⟨k0, k1, k2, k3, _⟩ := D2
  have D2 : Ec w1 w.heap.size c n q x := E2.ec.next hb1
  go_wp2_with fail
  have D6 : Ec (w1.alloc (.cells #[.int .i64 c, .int .i64 n, .int .i64 q, .int .i64 1] 52)) w1.heap.size c n q ((1 : Nat) : Int) := (El.new w1 c n q 1).ec
  have hb3 := below_new w1 (.cells #[.int .i64 c, .int .i64 n, .int .i64 q, .int .i64 1] 52)
  have G2 := D2.next hb3
  have G4 := D4.next hb3
  have hB := below_step hb2 hb3
  have n26 : ¬ w.heap.size = w1.heap.size := by have := D2.lt; omega
  have n62 : ¬ w1.heap.size = w.heap.size := fun h => n26 h.symm
  have n46 : ¬ w.heap.size + 1 = w1.heap.size := by have := D4.lt; omega
  have n64 : ¬ w1.heap.size = w.heap.size + 1 := fun h => n46 h.symm
  have n24 : ¬ w.heap.size = w.heap.size + 1 := by omega
  have n42 : ¬ w.heap.size + 1 = w.heap.size := by omega
  have g6lt : w.heap.size ≤ w1.heap.size := by have := D2.lt; omega
  have g4lt : w.heap.size ≤ w.heap.size + 1 := by omega
  generalize w1.heap.size = g6 at *
  generalize w.heap.size + 1 = g4 at *
  generalize (w1.alloc (.cells #[.int .i64 c, .int .i64 n, .int .i64 q, .int .i64 1] 52)) = w2 at *
  clear k0 k1 k2 k3 c1 c2 c3 c4 E2 E4 hb0 hb1 hb2 hb3 D2 D4 H1
  go_loopw [1] (fun y wr => ∃ E r a f : Nat, y = .int .i64 (E : Int) ∧ (E : Int) ≤ 4096 ∧ Hid (E < 2 ^ f ∧ r < n ∧ a < n ∧ pwr T f E r a = R) ∧ Ec wr w.heap.size c n q a ∧ Ec wr g6 c n q r ∧ Ec wr g4 0 0 0 0 ∧ Below w.heap.size w wr) (fun y _ => (intOf y).toNat)
  case atStart => exact ⟨E, 1, x, 12, rfl, by have := HE2.out; omega, Lib.hid ⟨HE2.out, by have := HN.out.1; omega, HX.out, HR.out⟩, G2, D6, G4, hB⟩
  case round =>
    obtain ⟨E, r, a, f, rfl, hE4, hf, K2, K6, K4, hB'⟩ := hrel
    clear G2 D6 G4 hB
    obtain ⟨c0, c1, c2, c3, c4, c5, c6, c7, c8⟩ := K2
    have K2 : Ec wr w.heap.size c n q a := ⟨c0, c1, c2, c3, c4, c5, c6, c7, c8⟩
    obtain ⟨d0, d1, d2, d3, d4, d5, d6, d7, d8⟩ := K6
    have K6 : Ec wr g6 c n q r := ⟨d0, d1, d2, d3, d4, d5, d6, d7, d8⟩
    by_cases h0 : E = 0
    · have hR : Hid (r = R) := Lib.hid (by rw [← hf.out.2.2.2, h0, pwr_zero])
      subst h0
      obtain ⟨t1, t2, t3, t4⟩ := peel_four K4.c0 K4.c1 K4.c2 K4.c3 (.int .i64 c) (.int .i64 (n : Int)) (.int .i64 q) (.int .i64 (r : Int))
      obtain ⟨e0, e1, e2, e3, e4, e5, e6, e7, e8⟩ := K4
      go_wp2
      exact bodyPost_ret (v := .agg #[.int .i64 c, .int .i64 (n : Int), .int .i64 q, .int .i64 (r : Int)]) (by simp [results, Tryd.results54, go_sem, t1, t2, t3, t4]) rfl ⟨by rw [hR.out], below_four hB' g4lt _ _ _ _⟩
    · have hE1 : (0 : Int) < (E : Int) := by omega
      have hr := hf.out.2.1
      have ha := hf.out.2.2.1
      obtain ⟨f', hf'⟩ : ∃ f', f = f' + 1 := by
        cases f with
        | zero => have := hf.out.1; simp at this; omega
        | succ f' => exact ⟨f', rfl⟩
      have haa := HTT.out a a ha ha
      have HAA := Lib.hid haa.2
      by_cases hodd : E % 2 = 1
      · have hodI : (E : Int) % 2 = 1 := by omega
        have hra := HTT.out r a hr ha
        have HRA := Lib.hid hra.2
        have HS : Hid (E / 2 < 2 ^ f' ∧ T r a < n ∧ T a a < n ∧ pwr T f' (E / 2) (T r a) (T a a) = R) := by
          have h4 := hf.out.2.2.2
          have h1 := hf.out.1
          subst hf'
          simp only [pwr] at h4
          rw [if_neg h0, if_pos hodd] at h4
          rw [Nat.pow_succ] at h1
          exact Lib.hid ⟨by omega, hra.1, haa.1, h4⟩
        clear hra haa hr ha hodd hf hf'
        go_wp2_with fail
        refine (HRA.out _).mono ?_
        rintro e w3 ⟨rfl, hb⟩
        clear c0 c1 c2 c3 c4 c5 c6 c7 c8 d0 d1 d2 d3 d4 d5 d6 d7 d8
        have K2' := K2.next hb
        have K6' := K6.next hb
        have K4' := K4.next hb
        have hB3 := below_step hB' hb
        have M2 := K2'.other n62 (.int .i64 c) (.int .i64 (n : Int)) (.int .i64 q) (.int .i64 (T r a : Nat))
        have M6 := K6'.store c n q (T r a : Nat)
        have M4 := K4'.other n64 (.int .i64 c) (.int .i64 (n : Int)) (.int .i64 q) (.int .i64 (T r a : Nat))
        have hB4 := below_four hB3 g6lt (.int .i64 c) (.int .i64 (n : Int)) (.int .i64 q) (.int .i64 (T r a : Nat))
        obtain ⟨c0, c1, c2, c3, c4, c5, c6, c7, c8⟩ := K2'
        obtain ⟨d0, d1, d2, d3, d4, d5, d6, d7, d8⟩ := K6'
        clear K2 K6 K4 K4' hb hB' hB3
        go_wp2_with fail
        refine (HAA.out _).mono ?_
        rintro e w4 ⟨rfl, hb⟩
        clear c0 c1 c2 c3 c4 c5 c6 c7 c8 d0 d1 d2 d3 d4 d5 d6 d7 d8
        have K2' := M2.next hb
        have K6' := M6.next hb
        have K4' := M4.next hb
        have hB3 := below_step hB4 hb
        have N2 := K2'.store c n q (T a a : Nat)
        have N6 := K6'.other n26 (.int .i64 c) (.int .i64 (n : Int)) (.int .i64 q) (.int .i64 (T a a : Nat))
        have N4 := K4'.other n24 (.int .i64 c) (.int .i64 (n : Int)) (.int .i64 q) (.int .i64 (T a a : Nat))
        have hB5 := below_four hB3 (Nat.le_refl _) (.int .i64 c) (.int .i64 (n : Int)) (.int .i64 q) (.int .i64 (T a a : Nat))
        obtain ⟨c0, c1, c2, c3, c4, c5, c6, c7, c8⟩ := K2'
        clear M2 M6 M4 hb hB4 hB3
        go_wp2
        go_roundw
        case rel => exact ⟨E / 2, T r a, T a a, f', by go_num, by omega, HS, N2, N6, N4, hB5⟩
        case measure => simp [intOf]; omega
      · have hodI : (E : Int) % 2 = 0 := by omega
        have HS : Hid (E / 2 < 2 ^ f' ∧ r < n ∧ T a a < n ∧ pwr T f' (E / 2) r (T a a) = R) := by
          have h4 := hf.out.2.2.2
          have h1 := hf.out.1
          subst hf'
          simp only [pwr] at h4
          rw [if_neg h0, if_neg hodd] at h4
          rw [Nat.pow_succ] at h1
          exact Lib.hid ⟨by omega, hr, haa.1, h4⟩
        clear haa hr ha hodd hf hf'
        go_wp2_with fail
        refine (HAA.out _).mono ?_
        rintro e w4 ⟨rfl, hb⟩
        clear c0 c1 c2 c3 c4 c5 c6 c7 c8 d0 d1 d2 d3 d4 d5 d6 d7 d8
        have K2' := K2.next hb
        have K6' := K6.next hb
        have K4' := K4.next hb
        have hB3 := below_step hB' hb
        have N2 := K2'.store c n q (T a a : Nat)
        have N6 := K6'.other n26 (.int .i64 c) (.int .i64 (n : Int)) (.int .i64 q) (.int .i64 (T a a : Nat))
        have N4 := K4'.other n24 (.int .i64 c) (.int .i64 (n : Int)) (.int .i64 q) (.int .i64 (T a a : Nat))
        have hB5 := below_four hB3 (Nat.le_refl _) (.int .i64 c) (.int .i64 (n : Int)) (.int .i64 q) (.int .i64 (T a a : Nat))
        obtain ⟨c0, c1, c2, c3, c4, c5, c6, c7, c8⟩ := K2'
        clear K2 K6 K4 hb hB' hB3
        go_wp2
        go_roundw
        case rel => exact ⟨E / 2, r, T a a, f', by go_num, by omega, HS, N2, N6, N4, hB5⟩
        case measure => simp [intOf]; omega
end Go.Proofs.YtjbaleadahefoaaDoor
