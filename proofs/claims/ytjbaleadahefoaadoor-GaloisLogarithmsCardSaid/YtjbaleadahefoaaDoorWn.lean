/- galois: law GaloisMakes, the walk. -/
import Derived.Test.YtjbaleadahefoaaDoorWm
set_option linter.unusedVariables false
namespace Go.Proofs.YtjbaleadahefoaaDoor
open Go.RowKit

/-- what the law's last region knows -/
structure Ml (W w : World) (g0 g1 g2 g3 g4 : Nat) (c n q a0 a1 a2 p0 p1 p2 : Int) : Prop where
  F0 : Fc w g0 c n q
  F1 : Fc w g1 a0 a1 a2
  F2 : Fc w g2 a0 a1 a2
  F3 : Fc w g3 p0 p1 p2
  F4 : Fc w g4 p0 p1 p2
  hT : Tb w
  hB : Below W.heap.size W w
theorem Ml.next {W w w' : World} {g0 g1 g2 g3 g4 : Nat} {c n q a0 a1 a2 p0 p1 p2 : Int} (h : Ml W w g0 g1 g2 g3 g4 c n q a0 a1 a2 p0 p1 p2) (hb : Below w.heap.size w w') : Ml W w' g0 g1 g2 g3 g4 c n q a0 a1 a2 p0 p1 p2 :=
  ⟨h.F0.next hb, h.F1.next hb, h.F2.next hb, h.F3.next hb, h.F4.next hb, h.hT.next hb, below_step h.hB hb⟩
theorem Ml.drew {W w : World} {g0 g1 g2 g3 g4 : Nat} {c n q a0 a1 a2 p0 p1 p2 : Int} (h : Ml W w g0 g1 g2 g3 g4 c n q a0 a1 a2 p0 p1 p2) : Ml W w.drew g0 g1 g2 g3 g4 c n q a0 a1 a2 p0 p1 p2 :=
  ⟨h.F0.drew, h.F1.drew, h.F2.drew, h.F3.drew, h.F4.drew, h.hT.keep rfl rfl, h.hB.drew⟩
theorem Ml.cells {W V : World} {g0 g1 g2 g3 g4 : Nat} {c n q a0 a1 a2 p0 p1 p2 : Int} (h : Ml W V g0 g1 g2 g3 g4 c n q a0 a1 a2 p0 p1 p2) : V.cell? ⟨g0, 0, none⟩ = some (.int .i64 c) ∧ V.cell? ⟨g0, 1, none⟩ = some (.int .i64 n) ∧ V.cell? ⟨g0, 2, none⟩ = some (.int .i64 q) ∧ V.cell? ⟨g1, 0, none⟩ = some (.int .i64 a0) ∧ V.cell? ⟨g1, 1, none⟩ = some (.int .i64 a1) ∧ V.cell? ⟨g1, 2, none⟩ = some (.int .i64 a2) ∧ V.cell? ⟨g2, 0, none⟩ = some (.int .i64 a0) ∧ V.cell? ⟨g2, 1, none⟩ = some (.int .i64 a1) ∧ V.cell? ⟨g2, 2, none⟩ = some (.int .i64 a2) ∧ V.cell? ⟨g3, 0, none⟩ = some (.int .i64 p0) ∧ V.cell? ⟨g3, 1, none⟩ = some (.int .i64 p1) ∧ V.cell? ⟨g3, 2, none⟩ = some (.int .i64 p2) ∧ V.cell? ⟨g4, 0, none⟩ = some (.int .i64 p0) ∧ V.cell? ⟨g4, 1, none⟩ = some (.int .i64 p1) ∧ V.cell? ⟨g4, 2, none⟩ = some (.int .i64 p2) :=
  ⟨h.F0.c0, h.F0.c1, h.F0.c2, h.F1.c0, h.F1.c1, h.F1.c2, h.F2.c0, h.F2.c1, h.F2.c2, h.F3.c0, h.F3.c1, h.F3.c2, h.F4.c0, h.F4.c1, h.F4.c2⟩
set_option maxRecDepth 100000 in
theorem makes_any (c n q D p : Int) (hc : I64 c) (hn : I64 n) (hq : I64 q) (hp : I64 p) (w : World) (hT : Tb w) :
    Calls Tryd.prog 3 #[.agg #[.int .i64 c, .int .i64 n, .int .i64 q], .int .i64 D, .int .i64 p] w fun e w' => e = .returned (.bool true) ∧ Below w.heap.size w w' := by
  obtain ⟨b, hb⟩ : ∃ b : Bool, b = true ↔ VF c n q := by
    by_cases h : VF c n q
    · exact ⟨true, ⟨fun _ => h, fun _ => rfl⟩⟩
    · exact ⟨false, ⟨fun h' => (by cases h'), fun h' => (h h').elim⟩⟩
  have HV := fun (w : World) (hT : Tb w) => valid_any c n q hc hn hq b hb w hT
  have HRV := fun (w : World) => rValid_any c n q hc hn hq b hb w
  obtain ⟨a0, a1, a2, ae, HB, HRB⟩ := binary_pair D p hp
  obtain ⟨p0, p1, p2, pe, HP, HRP⟩ := prime_pair D
  unfold fieldE at HB HRB HP HRP
  clear hc hn hq hp hb
  have hb0 := below_new w (.cells #[.int .i64 c, .int .i64 n, .int .i64 q] 23)
  have F0 := (Fd.new w c n q).fc
  have hT0 := hT.next hb0
  go_enter Tryd.func3, Tryd.ntmps3
  go_wp2_with fail
  generalize (w.alloc (.cells #[.int .i64 c, .int .i64 n, .int .i64 q] 23)) = v0 at *
  refine (HB _ hT0).mono ?_
  rintro e w1 ⟨rfl, hb⟩
  have hb1 := below_new w1 (.cells #[.int .i64 a0, .int .i64 a1, .int .i64 a2] 23)
  replace F0 := (F0.next hb).next hb1
  have F1 := (Fd.new w1 a0 a1 a2).fc
  have hb0 := below_step hb0 (below_step hb hb1)
  have hT1 := (hT0.next hb).next hb1
  clear hb hb1
  go_wp2_with fail
  generalize w1.heap.size = g1 at *
  generalize (w1.alloc (.cells #[.int .i64 a0, .int .i64 a1, .int .i64 a2] 23)) = v1 at *
  refine (HRB _).mono ?_
  rintro e w2 ⟨rfl, hb⟩
  have hb1 := below_new w2 (.cells #[.int .i64 a0, .int .i64 a1, .int .i64 a2] 23)
  replace F0 := (F0.next hb).next hb1
  replace F1 := (F1.next hb).next hb1
  have F2 := (Fd.new w2 a0 a1 a2).fc
  have hb0 := below_step hb0 (below_step hb hb1)
  have hT2 := (hT1.next hb).next hb1
  clear hb hb1
  go_wp2_with fail
  generalize w2.heap.size = g2 at *
  generalize (w2.alloc (.cells #[.int .i64 a0, .int .i64 a1, .int .i64 a2] 23)) = v2 at *
  refine (HP _ hT2).mono ?_
  rintro e w3 ⟨rfl, hb⟩
  have hb1 := below_new w3 (.cells #[.int .i64 p0, .int .i64 p1, .int .i64 p2] 23)
  replace F0 := (F0.next hb).next hb1
  replace F1 := (F1.next hb).next hb1
  replace F2 := (F2.next hb).next hb1
  have F3 := (Fd.new w3 p0 p1 p2).fc
  have hb0 := below_step hb0 (below_step hb hb1)
  have hT3 := (hT2.next hb).next hb1
  clear hb hb1
  go_wp2_with fail
  generalize w3.heap.size = g3 at *
  generalize (w3.alloc (.cells #[.int .i64 p0, .int .i64 p1, .int .i64 p2] 23)) = v3 at *
  refine (HRP _).mono ?_
  rintro e w4 ⟨rfl, hb⟩
  have hb1 := below_new w4 (.cells #[.int .i64 p0, .int .i64 p1, .int .i64 p2] 23)
  replace F0 := (F0.next hb).next hb1
  replace F1 := (F1.next hb).next hb1
  replace F2 := (F2.next hb).next hb1
  replace F3 := (F3.next hb).next hb1
  have F4 := (Fd.new w4 p0 p1 p2).fc
  have hb0 := below_step hb0 (below_step hb hb1)
  have hT4 := (hT3.next hb).next hb1
  clear hb hb1
  have hlast := rfl (a := w4.heap.size)
  go_wp2
  generalize w4.heap.size = g4 at *
  generalize (w4.alloc (.cells #[.int .i64 p0, .int .i64 p1, .int .i64 p2] 23)) = v4 at *
  have HM : Ml w v4 w.heap.size g1 g2 g3 g4 c n q a0 a1 a2 p0 p1 p2 := ⟨F0, F1, F2, F3, F4, hT4, hb0⟩
  have HD := HM.drew
  clear F0 F1 F2 F3 F4 HM hb0 hT0 hT1 hT2 hT3 hT4 HB HRB HP HRP hlast
  obtain ⟨k0, k1, k2, k3, k4, k5, k6, k7, k8, k9, k10, k11, k12, k13, k14⟩ := HD.cells
  go_region_held3 (fun V => V.cell? ⟨w.heap.size, 0, none⟩ = some (.int .i64 c) ∧ V.cell? ⟨w.heap.size, 1, none⟩ = some (.int .i64 n) ∧ V.cell? ⟨w.heap.size, 2, none⟩ = some (.int .i64 q) ∧ V.cell? ⟨g1, 0, none⟩ = some (.int .i64 a0) ∧ V.cell? ⟨g1, 1, none⟩ = some (.int .i64 a1) ∧ V.cell? ⟨g1, 2, none⟩ = some (.int .i64 a2) ∧ V.cell? ⟨g2, 0, none⟩ = some (.int .i64 a0) ∧ V.cell? ⟨g2, 1, none⟩ = some (.int .i64 a1) ∧ V.cell? ⟨g2, 2, none⟩ = some (.int .i64 a2) ∧ V.cell? ⟨g3, 0, none⟩ = some (.int .i64 p0) ∧ V.cell? ⟨g3, 1, none⟩ = some (.int .i64 p1) ∧ V.cell? ⟨g3, 2, none⟩ = some (.int .i64 p2) ∧ V.cell? ⟨g4, 0, none⟩ = some (.int .i64 p0) ∧ V.cell? ⟨g4, 1, none⟩ = some (.int .i64 p1) ∧ V.cell? ⟨g4, 2, none⟩ = some (.int .i64 p2))
    (first | (with_reducible exact HD.cells) | (with_reducible exact HD1.cells) | (with_reducible exact HD2.cells) | (with_reducible exact HD3.cells) | go_keep)
    (first
    | (go_at_call 14; (with_reducible refine (HV _ HD.hT).mono ?_); rintro e wd ⟨rfl, hbd⟩; have HD1 := HD.next hbd; clear HD hbd k0 k1 k2 k3 k4 k5 k6 k7 k8 k9 k10 k11 k12 k13 k14; obtain ⟨k0, k1, k2, k3, k4, k5, k6, k7, k8, k9, k10, k11, k12, k13, k14⟩ := HD1.cells)
    | (go_at_call 15; (with_reducible refine (HRV _).mono ?_); rintro e wd ⟨rfl, hbd⟩; have HD2 := HD1.next hbd; clear HD1 hbd k0 k1 k2 k3 k4 k5 k6 k7 k8 k9 k10 k11 k12 k13 k14; obtain ⟨k0, k1, k2, k3, k4, k5, k6, k7, k8, k9, k10, k11, k12, k13, k14⟩ := HD2.cells)
    | (go_at_call 16; (with_reducible refine (alive_any _ HD2.hT).mono ?_); rintro e wd ⟨rfl, hbd⟩; have HD3 := HD2.next hbd; clear HD2 hbd k0 k1 k2 k3 k4 k5 k6 k7 k8 k9 k10 k11 k12 k13 k14; obtain ⟨k0, k1, k2, k3, k4, k5, k6, k7, k8, k9, k10, k11, k12, k13, k14⟩ := HD3.cells))
  all_goals
    go_wp2
    go_ret
    exact ⟨rfl, by first | exact HD3.hB | exact HD3.hB.drew⟩
end Go.Proofs.YtjbaleadahefoaaDoor
