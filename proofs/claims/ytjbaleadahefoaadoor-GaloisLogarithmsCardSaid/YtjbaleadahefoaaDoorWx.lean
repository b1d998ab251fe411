/- Contracts of the specification of galois: Primitive. -/
import Derived.Test.YtjbaleadahefoaaDoorWw
import Derived.Test.YtjbaleadahefoaaDoorWm
set_option linter.unusedVariables false
namespace Go.Proofs.YtjbaleadahefoaaDoor
open Go.RowKit

set_option maxRecDepth 100000 in
theorem rPrim_any (Ord : Nat → Nat) (c q : Int) (n : Nat) (hn : 2 ≤ n) (hn2 : n ≤ 4096) (g : Nat) (hg1 : 1 ≤ g) (hg2 : g < n) (hg : Ord g = n - 1) (hl : ∀ v, 1 ≤ v → v < g → ¬ Ord v = n - 1) (hO4 : ∀ v, Ord v ≤ 4095)
    (HO : ∀ v : Nat, 1 ≤ v → v ≤ g → ∀ w, Calls Tryd.prog 60 #[.agg #[.int .i64 c, .int .i64 n, .int .i64 q], .int .i64 v] w fun r w' => r = .returned (.int .i64 (Ord v : Nat)) ∧ Below w.heap.size w w') (w : World) :
    Calls Tryd.prog 58 #[.agg #[.int .i64 c, .int .i64 n, .int .i64 q]] w fun r w' => r = .returned (.int .i64 (g : Nat)) ∧ Below w.heap.size w w' := by
  have HOO := Lib.hid HO
  have HG := Lib.hid (And.intro hg hl)
  have HN := Lib.hid (And.intro (And.intro hn hn2) (And.intro hg1 hg2))
  clear HO hg hl
  have hw : IntKind.i64.wrap ((n : Int) - 1) = (n : Int) - 1 := by rw [IntKind.wrap_i64]; omega
  have hn1 : (n : Int) ≤ 4096 := by omega
  have hn0 : (2 : Int) ≤ n := by omega
  have F0 := (Fd.new w c n q).fc
  have hb0 := below_new w (.cells #[.int .i64 c, .int .i64 n, .int .i64 q] 23)
  clear hn hn2 hg1 hg2
  generalize hnI : (n : Int) = nI at *
  have HNI := Lib.hid hnI
  clear hnI
  go_enter Tryd.func58, Tryd.ntmps58
  go_wp2
  go_loopw [3] (fun vv wr => ∃ v : Nat, vv = .int .i64 (v : Int) ∧ (v : Int) ≤ 4096 ∧ Hid (1 ≤ v ∧ v ≤ g) ∧ Fc wr w.heap.size c nI q ∧ Below w.heap.size w wr) (fun vv _ => g - (intOf vv).toNat)
  case atStart => exact ⟨1, rfl, by omega, Lib.hid ⟨Nat.le_refl 1, HN.out.2.1⟩, F0, hb0⟩
  case round =>
    obtain ⟨v, rfl, hv4, hv, L1, hB'⟩ := hrel
    clear F0 hb0
    have HOv := Lib.hid (HOO.out v hv.out.1 hv.out.2)
    have hvn : (v : Int) < nI := by have := hv.out; have := HN.out; have := HNI.out; omega
    have hOv := hO4 v
    obtain ⟨o, ho⟩ : ∃ o, Ord v = o := ⟨_, rfl⟩
    have HOI := Lib.hid ho
    rw [ho] at HOv hOv
    have M1 := L1.drew
    have hB1 := hB'.drew
    clear ho
    obtain ⟨e0, e1, e2, e3⟩ := L1
    go_wp2
    clear e0 e1 e2 e3
    obtain ⟨f0, f1, f2, f3⟩ := M1
    have M1 : Fc _ w.heap.size c nI q := ⟨f0, f1, f2, f3⟩
    go_region_held3 (fun V => V.cell? ⟨w.heap.size, 0, none⟩ = some (.int .i64 c) ∧ V.cell? ⟨w.heap.size, 1, none⟩ = some (.int .i64 nI) ∧ V.cell? ⟨w.heap.size, 2, none⟩ = some (.int .i64 q))
      (first | (with_reducible exact ⟨M1.c0, M1.c1, M1.c2⟩) | (with_reducible exact ⟨N1.c0, N1.c1, N1.c2⟩) | go_keep)
      (first
      | (go_at_call 60; (with_reducible refine (HOv.out _).mono ?_); rintro e w3 ⟨rfl, hb3⟩; have N1 := M1.next hb3; have hB2 := below_step hB1 hb3; clear M1 hb3 hB1 f0 f1 f2 f3; obtain ⟨f0, f1, f2, f3⟩ := N1; have N1 : Fc _ w.heap.size c nI q := ⟨f0, f1, f2, f3⟩))
    by_cases hov : o = n - 1
    · have hvg : Hid (v = g) := by
        refine Lib.hid ?_
        rcases Nat.lt_or_ge v g with h | h
        · exact absurd (by rw [HOI.out, hov]) (HG.out.2 v hv.out.1 h)
        · have := hv.out; omega
      have ho2 : (o : Int) = nI - 1 := by have := HNI.out; have := HN.out; omega
      all_goals
        go_wp2
        go_ret
        exact ⟨retI (by rw [hvg.out]), by first | exact hB2 | exact hB2.drew⟩
    · have hvg : Hid (v < g) := by
        refine Lib.hid ?_
        rcases Nat.lt_or_ge v g with h | h
        · exact h
        · have h2 : v = g := by have := hv.out; omega
          have h3 := HG.out.1
          rw [← h2, HOI.out] at h3
          exact absurd h3 hov
      have ho2 : ¬ (o : Int) = nI - 1 := by have := HNI.out; have := HN.out; omega
      all_goals
        go_wp2
        go_roundw
        case rel => exact ⟨v + 1, by go_num, by have := hvg.out; have := HN.out; omega, Lib.hid ⟨by omega, hvg.out⟩, by first | exact N1 | exact N1.drew, by first | exact hB2 | exact hB2.drew⟩
        case measure =>
          have := hvg.out
          simp [intOf]; omega
end Go.Proofs.YtjbaleadahefoaaDoor
