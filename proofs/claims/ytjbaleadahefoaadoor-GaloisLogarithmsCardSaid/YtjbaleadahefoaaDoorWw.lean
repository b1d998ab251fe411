/- Contracts of the specification of galois: order, Primitive. -/
import Derived.Test.YtjbaleadahefoaaDoorWv
import Derived.Test.YtjbaleadahefoaaDoorPj
set_option linter.unusedVariables false
namespace Go.Proofs.YtjbaleadahefoaaDoor
open Go.RowKit

set_option maxRecDepth 100000 in
theorem rOrder_any {T : Nat → Nat → Nat} {c q : Int} {N : Nat} (G : Grp N T) (hN : N ≤ 4096)
    (HT : ∀ a b, a < N → b < N → ∀ w, Calls Tryd.prog 53 #[.agg #[.int .i64 c, .int .i64 N, .int .i64 q], .int .i64 a, .int .i64 b] w fun e w' => e = .returned (.int .i64 (T a b : Nat)) ∧ Below w.heap.size w w')
    (x k : Nat) (hx : x < N) (hx0 : x ≠ 0) (hk : G.IsOrd x k) (w : World) :
    Calls Tryd.prog 60 #[.agg #[.int .i64 c, .int .i64 N, .int .i64 q], .int .i64 x] w fun e w' => e = .returned (.int .i64 (k : Nat)) ∧ Below w.heap.size w w' := by
  have F0 := Fd.new w c N q
  have hb0 := below_new w (.cells #[.int .i64 c, .int .i64 N, .int .i64 q] 23)
  have hkN : k ≤ N - 1 := Nat.le_of_dvd (by have := G.n2; omega) (G.ord_le hx hx0 hk)
  have hK := Lib.hid hk
  have hX := Lib.hid hx
  have HTT := Lib.hid HT
  have h1 : Hid (pw T x 1 = x) := Lib.hid (G.one_l hx)
  have hK1 := Lib.hid hkN
  have hN2 := Lib.hid (And.intro G.n2 hN)
  have hNi : (N : Int) ≤ 4096 := by omega
  clear hk hx hx0 HT hkN hN
  go_enter Tryd.func60, Tryd.ntmps60
  go_wp2
  go_loopw [5, 6] (fun nv pv wr => ∃ j p : Nat, nv = .int .i64 (j : Int) ∧ pv = .int .i64 (p : Int) ∧ (j : Int) ≤ 4096 ∧ Hid (1 ≤ j ∧ j ≤ k ∧ p = pw T x j) ∧ Fd wr w.heap.size c N q ∧ Below w.heap.size w wr) (fun nv _ _ => k - (intOf nv).toNat)
  case atStart => exact ⟨1, x, rfl, rfl, by omega, Lib.hid ⟨Nat.le_refl 1, hK.out.1, h1.out.symm⟩, F0, hb0⟩
  case round =>
    obtain ⟨j, p, rfl, rfl, hj4, hj, F, hB⟩ := hrel
    clear F0 hb0
    obtain ⟨c1, c2, c3⟩ := F.cells
    by_cases hp : p = 1
    · have hjk : Hid (j = k) := Lib.hid (by
        have h := hj.out
        rcases Nat.lt_or_ge j k with h3 | h3
        · exact absurd (h.2.2.symm.trans hp) (hK.out.2.2 j h.1 h3)
        · omega)
      subst hp
      go_wp2
      go_ret
      exact ⟨retI (by rw [hjk.out]), hB⟩
    · have hlt : Hid (j < k) := Lib.hid (by
        have h := hj.out
        rcases Nat.lt_or_ge j k with h3 | h3
        · exact h3
        · have h4 : j = k := by omega
          have h5 := hK.out.2.1
          rw [← h4, ← h.2.2] at h5
          exact absurd h5 hp)
      have hjN : (j : Int) < (N : Int) := by have := hlt.out; have := hK1.out; omega
      have hpi : ¬ (p : Int) = 1 := by omega
      have hpb : ((p : Int) != 1) = true := by rw [bne_iff_ne]; exact hpi
      have HC := Lib.hid (HTT.out p x (by rw [hj.out.2.2]; exact G.pw_lt hX.out j) hX.out)
      go_wp2_with fail
      refine (HC.out _).mono ?_
      rintro e w3 ⟨rfl, hb⟩
      have F3 := F.next hb
      have hB3 := below_step hB hb
      clear F hB hb c1 c2 c3
      go_wp2
      go_roundw
      case rel => exact ⟨j + 1, T p x, by go_num, rfl, by omega, Lib.hid ⟨by omega, by have := hlt.out; omega, by rw [hj.out.2.2]; rfl⟩, F3, hB3⟩
      case measure =>
        have := hlt.out
        simp [intOf]; omega
end Go.Proofs.YtjbaleadahefoaaDoor
