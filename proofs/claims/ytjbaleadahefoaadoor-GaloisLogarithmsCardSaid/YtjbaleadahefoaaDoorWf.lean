/- Contracts of galois: generator. -/
import Derived.Test.YtjbaleadahefoaaDoorWe
set_option linter.unusedVariables false
namespace Go.Proofs.YtjbaleadahefoaaDoor
open Go.RowKit

/-- a field's cells lie at block g -/
structure Fc (w : World) (g : Nat) (c n q : Int) : Prop where
  c0 : w.cell? ⟨g, 0, none⟩ = some (.int .i64 c)
  c1 : w.cell? ⟨g, 1, none⟩ = some (.int .i64 n)
  c2 : w.cell? ⟨g, 2, none⟩ = some (.int .i64 q)
  lt : g < w.heap.size
theorem Fd.fc {w : World} {g : Nat} {c n q : Int} (h : Fd w g c n q) : Fc w g c n q := ⟨h.cells.1, h.cells.2.1, h.cells.2.2, h.lt⟩
theorem Fc.next {w w' : World} {g : Nat} {c n q : Int} (h : Fc w g c n q) (hb : Below w.heap.size w w') : Fc w' g c n q :=
  ⟨(hb.cell (p := ⟨g, 0, none⟩) h.lt).trans h.c0, (hb.cell (p := ⟨g, 1, none⟩) h.lt).trans h.c1, (hb.cell (p := ⟨g, 2, none⟩) h.lt).trans h.c2, Nat.lt_of_lt_of_le h.lt hb.size⟩
theorem Fc.drew {w : World} {g : Nat} {c n q : Int} (h : Fc w g c n q) : Fc w.drew g c n q := ⟨h.c0, h.c1, h.c2, h.lt⟩
theorem Fc.other1 {w : World} {g g' k : Nat} {c n q : Int} (h : Fc w g c n q) (hne : ¬ g' = g) (u : Value) : Fc (w.setCell ⟨g', k, none⟩ u) g c n q := by
  refine ⟨?_, ?_, ?_, by simpa using h.lt⟩
  · rw [World.cell?_setCell_other _ _ _ _ (fun h => hne (congrArg Addr.block h))]; exact h.c0
  · rw [World.cell?_setCell_other _ _ _ _ (fun h => hne (congrArg Addr.block h))]; exact h.c1
  · rw [World.cell?_setCell_other _ _ _ _ (fun h => hne (congrArg Addr.block h))]; exact h.c2
theorem Ec.drew {w : World} {g : Nat} {c n q v : Int} (h : Ec w g c n q v) : Ec w.drew g c n q v := ⟨h.c0, h.c1, h.c2, h.c3, h.f0, h.f1, h.f2, h.f3, h.lt⟩
theorem Ec.other1 {w : World} {g g' k : Nat} {c n q v : Int} (h : Ec w g c n q v) (hne : ¬ g' = g) (u : Value) : Ec (w.setCell ⟨g', k, none⟩ u) g c n q v := by
  refine ⟨?_, ?_, ?_, ?_, ?_, ?_, ?_, ?_, by simpa using h.lt⟩
  · rw [World.cell?_setCell_other _ _ _ _ (fun h => hne (congrArg Addr.block h))]; exact h.c0
  · rw [World.cell?_setCell_other _ _ _ _ (fun h => hne (congrArg Addr.block h))]; exact h.c1
  · rw [World.cell?_setCell_other _ _ _ _ (fun h => hne (congrArg Addr.block h))]; exact h.c2
  · rw [World.cell?_setCell_other _ _ _ _ (fun h => hne (congrArg Addr.block h))]; exact h.c3
  · simp only [World.frozen?_setCell]; exact h.f0
  · simp only [World.frozen?_setCell]; exact h.f1
  · simp only [World.frozen?_setCell]; exact h.f2
  · simp only [World.frozen?_setCell]; exact h.f3
theorem Ec.store3 {w : World} {g : Nat} {c n q v : Int} (h : Ec w g c n q v) (v' : Int) : Ec (w.setCell ⟨g, 3, none⟩ (.int .i64 v')) g c n q v' := by
  refine ⟨?_, ?_, ?_, World.cell?_setCell_same _ _ _ h.c3, ?_, ?_, ?_, ?_, by simpa using h.lt⟩
  · rw [World.cell?_setCell_other _ _ _ _ (by simp)]; exact h.c0
  · rw [World.cell?_setCell_other _ _ _ _ (by simp)]; exact h.c1
  · rw [World.cell?_setCell_other _ _ _ _ (by simp)]; exact h.c2
  · simp only [World.frozen?_setCell]; exact h.f0
  · simp only [World.frozen?_setCell]; exact h.f1
  · simp only [World.frozen?_setCell]; exact h.f2
  · simp only [World.frozen?_setCell]; exact h.f3
/-- the value that lies at block g -/
def cv (w : World) (g : Nat) : Nat := match w.cell? ⟨g, 3, none⟩ with
  | some x => (intOf x).toNat
  | none => 0
theorem Ec.cv {w : World} {g : Nat} {c n q : Int} {v : Nat} (h : Ec w g c n q v) : cv w g = v := by
  simp [Go.Proofs.YtjbaleadahefoaaDoor.cv, h.c3, intOf]

set_option maxRecDepth 100000 in
theorem generator_any (Ord : Nat → Nat) (c q : Int) (n : Nat) (hn : 2 ≤ n) (hn2 : n ≤ 4096) (g : Nat) (hg1 : 1 ≤ g) (hg2 : g ≤ 4096) (hg : Ord g = n - 1) (hl : ∀ v, 1 ≤ v → v < g → ¬ Ord v = n - 1) (hO4 : ∀ v, Ord v ≤ 4095)
    (HO : ∀ v : Nat, 1 ≤ v → v ≤ g → ∀ w, Calls Tryd.prog 59 #[elV c n q v] w fun r w' => r = .returned (.int .i64 (Ord v : Nat)) ∧ Below w.heap.size w w') (w : World) :
    Calls Tryd.prog 57 #[.agg #[.int .i64 c, .int .i64 n, .int .i64 q]] w fun r w' => r = .returned (elV c n q g) ∧ Below w.heap.size w w' := by
  have H1 := one_any c n q
  unfold elV at HO H1 ⊢
  have HOO := Lib.hid HO
  have HG := Lib.hid (And.intro hg hl)
  have HN := Lib.hid (And.intro hn hn2)
  clear HO hg hl
  have hw : IntKind.i64.wrap ((n : Int) - 1) = (n : Int) - 1 := by rw [IntKind.wrap_i64]; omega
  have hn1 : (n : Int) ≤ 4096 := by omega
  have hn0 : (2 : Int) ≤ n := by omega
  clear hn hn2
  have F1 := ((Fd.new w c n q).next (below_new _ (.cells #[.int .i64 0, .int .i64 0, .int .i64 0, .int .i64 0] 52))).fc
  have E4 := (El.new (w.alloc (.cells #[.int .i64 c, .int .i64 n, .int .i64 q] 23)) 0 0 0 0).ec
  have hs : (w.alloc (.cells #[.int .i64 c, .int .i64 n, .int .i64 q] 23)).heap.size = w.heap.size + 1 := by simp
  rw [hs] at E4
  have hb0 := below_step (below_new w (.cells #[.int .i64 c, .int .i64 n, .int .i64 q] 23)) (below_new _ (.cells #[.int .i64 0, .int .i64 0, .int .i64 0, .int .i64 0] 52))
  clear hs
  obtain ⟨c0, c1, c2, _⟩ := F1
  have F1 := ((Fd.new w c n q).next (below_new _ (.cells #[.int .i64 0, .int .i64 0, .int .i64 0, .int .i64 0] 52))).fc
  generalize hnI : (n : Int) = nI at *
  go_enter Tryd.func57, Tryd.ntmps57
  go_wp2_with fail
  refine (H1 _).mono ?_
  rintro e w1 ⟨rfl, hb1⟩
  have G1 := F1.next hb1
  have D4 := E4.next hb1
  have hb2 := below_step hb0 hb1
  clear F1 E4 hb0 hb1 c0 c1 c2
  go_wp2
  have D6 : Ec (w1.alloc (.cells #[.int .i64 c, .int .i64 nI, .int .i64 q, .int .i64 1] 52)) w1.heap.size c nI q ((1 : Nat) : Int) := (El.new w1 c nI q 1).ec
  have hb3 := below_new w1 (.cells #[.int .i64 c, .int .i64 nI, .int .i64 q, .int .i64 1] 52)
  have K1 := G1.next hb3
  have K4 := D4.next hb3
  have hB := below_step hb2 hb3
  have n16 : ¬ w1.heap.size = w.heap.size := by have := G1.lt; omega
  have n64 : ¬ w1.heap.size = w.heap.size + 1 := by have := D4.lt; omega
  have n14 : ¬ w.heap.size + 1 = w.heap.size := by omega
  have n46 : ¬ w.heap.size + 1 = w1.heap.size := by have := D4.lt; omega
  have g6lt : w.heap.size ≤ w1.heap.size := by have := G1.lt; omega
  have g4lt : w.heap.size ≤ w.heap.size + 1 := by omega
  generalize w1.heap.size = g6 at *
  generalize w.heap.size + 1 = g4 at *
  generalize (w1.alloc (.cells #[.int .i64 c, .int .i64 nI, .int .i64 q, .int .i64 1] 52)) = w2 at *
  clear hb2 hb3 G1 D4 H1
  go_loopw [] (fun wr => ∃ v : Nat, 1 ≤ v ∧ v ≤ g ∧ Fc wr w.heap.size c nI q ∧ Ec wr g4 0 0 0 0 ∧ Ec wr g6 c nI q v ∧ Below w.heap.size w wr) (fun wr => 4097 - cv wr g6)
  case atStart => exact ⟨1, Nat.le_refl _, hg1, K1, K4, D6, hB⟩
  case round =>
    obtain ⟨v, hv1, hv2, L1, L4, L6, hB'⟩ := hrel
    clear K1 K4 D6 hB
    have HOv := HOO.out v hv1 hv2
    have hOv := hO4 v
    obtain ⟨o, ho⟩ : ∃ o, Ord v = o := ⟨_, rfl⟩
    have HOI := Lib.hid ho
    rw [ho] at HOv hOv
    have M1 := L1.drew
    have M6 := L6.drew
    have M4 := L4.drew
    have hB1 := hB'.drew
    have hcv := L6.cv
    clear L1 L6 L4 hB' ho
    obtain ⟨f0, f1, f2, f3⟩ := M1
    have M1 : Fc _ w.heap.size c nI q := ⟨f0, f1, f2, f3⟩
    obtain ⟨d0, d1, d2, d3, d4, d5, d6, d7, d8⟩ := M6
    have M6 : Ec _ g6 c nI q v := ⟨d0, d1, d2, d3, d4, d5, d6, d7, d8⟩
    go_wp2
    go_region_held3 (fun V => V.cell? ⟨g6, 0, none⟩ = some (.int .i64 c) ∧ V.cell? ⟨g6, 1, none⟩ = some (.int .i64 nI) ∧ V.cell? ⟨g6, 2, none⟩ = some (.int .i64 q) ∧ V.cell? ⟨g6, 3, none⟩ = some (.int .i64 (v : Int)) ∧ V.cell? ⟨w.heap.size, 1, none⟩ = some (.int .i64 nI))
      (first | (with_reducible exact ⟨M6.c0, M6.c1, M6.c2, M6.c3, M1.c1⟩) | (with_reducible exact ⟨N6.c0, N6.c1, N6.c2, N6.c3, N1.c1⟩) | go_keep)
      (first
      | (go_at_call 59; (with_reducible refine (HOv _).mono ?_); rintro e w3 ⟨rfl, hb3⟩; have N1 := M1.next hb3; have N6 := M6.next hb3; have N4 := M4.next hb3; have hB2 := below_step hB1 hb3; clear M1 M6 M4 hb3 hB1 f0 f1 f2 f3 d0 d1 d2 d3 d4 d5 d6 d7 d8; obtain ⟨f0, f1, f2, f3⟩ := N1; obtain ⟨d0, d1, d2, d3, d4, d5, d6, d7, d8⟩ := N6; have N1 : Fc _ w.heap.size c nI q := ⟨f0, f1, f2, f3⟩; have N6 : Ec _ g6 c nI q v := ⟨d0, d1, d2, d3, d4, d5, d6, d7, d8⟩))
    by_cases hov : o = n - 1
    · have hvg : Hid (v = g) := by
        refine Lib.hid ?_
        rcases Nat.lt_or_ge v g with h | h
        · exact absurd (by rw [HOI.out, hov]) (HG.out.2 v hv1 h)
        · omega
      have hne : ((o : Int) != nI - 1) = false := by
        have := HN.out.1
        simp only [bne_eq_false_iff_eq]; omega
      obtain ⟨t1, t2, t3, t4⟩ := peel_four N4.c0 N4.c1 N4.c2 N4.c3 (.int .i64 c) (.int .i64 nI) (.int .i64 q) (.int .i64 (v : Int))
      obtain ⟨e0, e1, e2, e3, e4, e5, e6, e7, e8⟩ := N4
      clear N1 N6
      go_wp2
      exact bodyPost_ret (v := .agg #[.int .i64 c, .int .i64 nI, .int .i64 q, .int .i64 (v : Int)]) (by simp [results, Tryd.results57, go_sem, t1, t2, t3, t4]) rfl ⟨by rw [hvg.out], below_four hB2 g4lt _ _ _ _⟩
    · have hvg : v < g := by
        rcases Nat.lt_or_ge v g with h | h
        · exact h
        · obtain rfl : v = g := by omega
          exact absurd (by rw [← HOI.out]; exact HG.out.1) hov
      have hne : ((o : Int) != nI - 1) = true := by
        have := HN.out.1
        simp only [bne_iff_ne, ne_eq]; omega
      have hvI : (v : Int) ≤ 4096 := by omega
      have hwv : IntKind.i64.wrap ((v : Int) + 1) = ((v + 1 : Nat) : Int) := by rw [IntKind.wrap_i64]; omega
      have P1 := N1.other1 (k := 3) n16 (.int .i64 ((v + 1 : Nat) : Int))
      have P4 := N4.other1 (k := 3) n64 (.int .i64 ((v + 1 : Nat) : Int))
      have P6 := N6.store3 ((v + 1 : Nat) : Int)
      have hB3 := hB2.setCell (p := ⟨g6, 3, none⟩) g6lt (.int .i64 ((v + 1 : Nat) : Int))
      clear N1 N4 N6
      go_wp2
      go_roundw
      case rel => exact ⟨v + 1, by omega, by omega, P1, P4, P6, hB3⟩
      case measure =>
        change 4097 - cv (w3.setCell ⟨g6, 3, none⟩ (.int .i64 ((v + 1 : Nat) : Int))) g6 < 4097 - cv wr g6
        rw [P6.cv, hcv]
        omega
end Go.Proofs.YtjbaleadahefoaaDoor
