/- galois: the specification's Log; fields with their generator; the code's logarithm. -/
import Derived.Test.YtjbaleadahefoaaDoorYb
set_option linter.unusedVariables false
namespace Go.Proofs.YtjbaleadahefoaaDoor
open Go.RowKit

set_option maxRecDepth 100000 in
theorem rLog_ok {T : Nat → Nat → Nat} {c q : Int} {N : Nat} (G : Grp N T) (hN : N ≤ 4096) (hc : I64 c) (hn : I64 N) (hq : I64 q) (hV : VF c N q)
    (HT : ∀ a b, a < N → b < N → ∀ w, Calls Tryd.prog 53 #[.agg #[.int .i64 c, .int .i64 N, .int .i64 q], .int .i64 a, .int .i64 b] w fun e w' => e = .returned (.int .i64 (T a b : Nat)) ∧ Below w.heap.size w w')
    (g a m : Nat) (hg : g < N) (ha : a < N) (ha0 : a ≠ 0) (hm : m < N - 1) (hpm : pw T g m = a) (hl : ∀ j, j < m → pw T g j ≠ a)
    (HP : ∀ w, Calls Tryd.prog 58 #[.agg #[.int .i64 c, .int .i64 N, .int .i64 q]] w fun r w' => r = .returned (.int .i64 (g : Nat)) ∧ Below w.heap.size w w') (w : World) :
    Calls Tryd.prog 36 #[.agg #[.int .i64 c, .int .i64 N, .int .i64 q], .int .i64 (a : Nat)] w fun e w' => e = .returned (.tuple #[.int .i64 (m : Nat), .int .i64 0]) ∧ Below w.heap.size w w' := by
  have HVV := Lib.hid (fun w => rValid_any c N q hc hn hq true ⟨fun _ => hV, fun _ => rfl⟩ w)
  have HXX := Lib.hid (fun w => rIs_any c N q a true ⟨fun _ => ⟨by omega, by omega⟩, fun _ => rfl⟩ w)
  have HPP := Lib.hid HP
  have HTT := Lib.hid HT
  have HM := Lib.hid (And.intro hpm hl)
  have HN := Lib.hid (And.intro hm (And.intro hg hN))
  have hai : ¬ (a : Int) = 0 := by omega
  clear hc hn hq hV HT HP hpm hl hm hg ha ha0 hN
  have F0 := Fd.new w c N q
  have B0 := below_new w (.cells #[.int .i64 c, .int .i64 N, .int .i64 q] 23)
  obtain ⟨c1, c2, c3⟩ := F0.cells
  go_enter Tryd.func36, Tryd.ntmps36
  go_wp2_with fail
  refine (HVV.out _).mono ?_
  rintro e w1 ⟨rfl, hb⟩
  have F1 := F0.next hb
  have B1 := below_step B0 hb
  clear F0 B0 hb c1 c2 c3
  obtain ⟨c1, c2, c3⟩ := F1.cells
  go_wp2_with fail
  refine (HXX.out _).mono ?_
  rintro e w2 ⟨rfl, hb⟩
  have F2 := F1.next hb
  have B2 := below_step B1 hb
  clear F1 B1 hb c1 c2 c3
  obtain ⟨c1, c2, c3⟩ := F2.cells
  go_wp2_with fail
  refine (HPP.out _).mono ?_
  rintro e w3 ⟨rfl, hb⟩
  have F3 := F2.next hb
  have B3 := below_step B2 hb
  clear F2 B2 hb c1 c2 c3
  obtain ⟨c1, c2, c3⟩ := F3.cells
  go_wp2
  go_loopw [7, 8] (fun pv nv wr => ∃ j p : Nat, nv = .int .i64 (j : Int) ∧ pv = .int .i64 (p : Int) ∧ (j : Int) ≤ 4096 ∧ Hid (j ≤ m ∧ p = pw T g j) ∧ Fd wr w.heap.size c N q ∧ Below w.heap.size w wr) (fun _ nv _ => m - (intOf nv).toNat)
  case atStart => exact ⟨0, 1, rfl, rfl, by omega, Lib.hid ⟨Nat.zero_le _, rfl⟩, F3, B3⟩
  case round =>
    obtain ⟨j, p, rfl, rfl, hj4, hj, F, hB⟩ := hrel
    clear F3 B3 c1 c2 c3
    obtain ⟨c1, c2, c3⟩ := F.cells
    have hjN : (j : Int) < (N : Int) := by have := hj.out; have := HN.out; omega
    by_cases hp : p = a
    · have hjm : Hid (j = m) := Lib.hid (by
        have h := hj.out
        rcases Nat.lt_or_ge j m with h3 | h3
        · exact absurd (h.2.symm.trans hp) (HM.out.2 j h3)
        · omega)
      subst hp
      go_wp2
      exact bodyPost_ret (v := .tuple #[.int .i64 (m : Nat), .int .i64 0]) (by simp [results, Tryd.results36, go_sem]; exact congrArg Nat.cast hjm.out) rfl ⟨rfl, hB⟩
    · have hlt : Hid (j < m) := Lib.hid (by
        have h := hj.out
        rcases Nat.lt_or_ge j m with h3 | h3
        · exact h3
        · have h4 : j = m := by omega
          have h5 := HM.out.1
          rw [← h4, ← h.2] at h5
          exact absurd h5 hp)
      have hpi : ¬ (p : Int) = (a : Int) := by omega
      have HC := Lib.hid (HTT.out p g (by rw [hj.out.2]; exact G.pw_lt HN.out.2.1 j) HN.out.2.1)
      go_wp2_with fail
      refine (HC.out _).mono ?_
      rintro e w4 ⟨rfl, hb⟩
      have F4 := F.next hb
      have hB4 := below_step hB hb
      clear F hB hb c1 c2 c3
      go_wp2
      go_roundw
      case rel => exact ⟨j + 1, T p g, by go_num, rfl, by have := hlt.out; have := HN.out; omega, Lib.hid ⟨by have := hlt.out; omega, by rw [hj.out.2]; rfl⟩, F4, hB4⟩
      case measure =>
        have := hlt.out
        simp [intOf]; omega
theorem fld_of2 {c n q : Int} (h : VF c n q) : ∃ N T P M, n = ((N : Nat) : Int) ∧ Ops c q N T P M ∧ Fld N T P M ∧ ((c = 2 ∧ ∀ z, P z z = 0) ∨ c = ((N : Nat) : Int)) := by
  rcases h with ⟨rfl, D, h1, h12, rfl, hq0, hdeg, hH⟩ | ⟨hc, rfl, rfl, h3, h4, hF⟩
  · exact ⟨2 ^ D, _, _, _, rfl, ops_two h1 h12 hq0 hdeg, fld_two hdeg h1 h12 hH, Or.inl ⟨rfl, fun z => Nat.xor_self z⟩⟩
  · obtain ⟨N, rfl⟩ : ∃ N : Nat, c = N := ⟨c.toNat, by omega⟩
    exact ⟨N, _, _, _, rfl, ops_prime hc (by omega) (by omega), fld_prime (by omega) (by simpa using hF), Or.inr rfl⟩
theorem gen_of2 {c n q : Int} (hV : VF c n q) : ∃ N T P M g, n = ((N : Nat) : Int) ∧ Ops c q N T P M ∧ ∃ F : Fld N T P M, ((c = 2 ∧ ∀ z, P z z = 0) ∨ c = ((N : Nat) : Int)) ∧ 1 ≤ g ∧ g < N ∧ F.toGrp.IsOrd g (N - 1) ∧
    (∀ w, Calls Tryd.prog 57 #[.agg #[.int .i64 c, .int .i64 n, .int .i64 q]] w fun e w' => e = .returned (elV c n q ((g : Nat) : Int)) ∧ Below w.heap.size w w') ∧
    (∀ w, Calls Tryd.prog 58 #[.agg #[.int .i64 c, .int .i64 n, .int .i64 q]] w fun e w' => e = .returned (.int .i64 ((g : Nat) : Int)) ∧ Below w.heap.size w w') := by
  obtain ⟨N, T, P, M, rfl, O, F, hkind⟩ := fld_of2 hV
  have hn := O.n1
  have hn2 := O.n2
  have hex : ∃ g, 1 ≤ g ∧ g < N ∧ ordOf F.toGrp g = N - 1 := by
    obtain ⟨g, h1, h2, h3⟩ := F.cyclic
    exact ⟨g, by omega, h1, ord_unique F.toGrp (ordOf_is F.toGrp h1 h2) h3⟩
  obtain ⟨g, ⟨g1, g2, g3⟩, hmin⟩ : ∃ g, (1 ≤ g ∧ g < N ∧ ordOf F.toGrp g = N - 1) ∧ ∀ k, k < g → ¬ (1 ≤ k ∧ k < N ∧ ordOf F.toGrp k = N - 1) := by
    obtain ⟨m, hm⟩ := hex
    induction m using Nat.strongRecOn with
    | ind m ih =>
      by_cases hk : ∃ k, k < m ∧ (1 ≤ k ∧ k < N ∧ ordOf F.toGrp k = N - 1)
      · obtain ⟨k, hk, hk'⟩ := hk
        exact ih k hk hk'
      · exact ⟨m, hm, fun k h1 h2 => hk ⟨k, h1, h2⟩⟩
  have hl : ∀ v, 1 ≤ v → v < g → ¬ ordOf F.toGrp v = N - 1 := fun v h1 h2 h3 => hmin v h2 ⟨h1, by omega, h3⟩
  refine ⟨N, T, P, M, g, rfl, O, F, hkind, g1, g2, ?_, fun w => ?_, fun w => ?_⟩
  · have h := ordOf_is F.toGrp g2 (show g ≠ 0 by omega)
    rwa [g3] at h
  · exact generator_any (ordOf F.toGrp) c q N hn hn2 g g1 (by omega) g3 hl (ordOf_le F.toGrp hn2) (fun v h1 h2 w => code_order O F.toGrp (by omega) (by omega) w) w
  · exact rPrim_any (ordOf F.toGrp) c q N hn hn2 g g1 g2 g3 hl (ordOf_le F.toGrp hn2) (fun v h1 h2 w => rOrder_any F.toGrp hn2 O.ts v _ (by omega) (by omega) (ordOf_is F.toGrp (by omega) (by omega)) w) w
theorem code_log {c q : Int} {N : Nat} {T P M : Nat → Nat → Nat} (hc : I64 c) (hq : I64 q) (O : Ops c q N T P M) (G : Grp N T) {g a n : Nat} (hg : g < N) (hg0 : g ≠ 0) (ho : G.IsOrd g (N - 1)) (ha : a < N) (hn : n < N - 1) (hpn : pw T g n = a) (w : World) :
    Calls Tryd.prog 61 #[elV c N q a, elV c N q g] w fun e w' => e = .returned (.int .i64 (n : Nat)) ∧ Below w.heap.size w w' := by
  have h1 := O.n1
  have h2 := O.n2
  obtain ⟨L, l1, l2, l3, l4, l5⟩ := root_ex (N - 1) (by omega) (by omega)
  have hx := G.pw_lt hg L
  have hbl := G.pw_lt hx (N - 2)
  have hP : ∀ w, Calls Tryd.prog 54 #[elV c N q (pw T g L : Nat), .int .i64 (-1)] w fun e w' => e = .returned (elV c N q (pw T (pw T g L) (N - 2) : Nat)) ∧ Below w.heap.size w w' := fun w => by
    have h := O.power (pw T g L) hx w
    rwa [G.pwr_eq 12 _ 1 _ (by omega) G.lt1 hx, G.one_l hbl] at h
  have hinv := G.inv hx (G.pw_nz hg hg0 L)
  have hS : n / L < L := Nat.div_lt_of_lt_mul (by omega)
  have hd := Nat.div_add_mod n L
  have hdl := Nat.mod_lt n (show 0 < L by omega)
  have key := logarithm_any c q N hc hq h1 h2 T (fun a b ha hb => ⟨O.tl a b ha hb, O.tc a b ha hb⟩) L l1 l2 l3 l4 g hg (pw T g) rfl (fun k => rfl) (fun k => G.pw_lt hg k) (fun i j hi hj he => G.pw_inj hg hg0 ho (by omega) (by omega) he)
    (pw T (pw T g L) (N - 2)) hbl hP a (fun k => T a (pw T (pw T (pw T g L) (N - 2)) k)) (G.one ha) (fun k => (G.assoc ha (G.pw_lt hbl k) hbl).symm) (fun k => G.lt ha (G.pw_lt hbl k))
    (n / L) (n % L) (by omega) hdl ?_ ?_ w
  · rwa [show n / L * L + n % L = n by rw [Nat.mul_comm]; exact hd] at key
  · show pw T g (n % L) = T a _
    have hsl : n / L * L ≤ n := by rw [Nat.mul_comm]; omega
    rw [← hpn, G.giant hg hbl hinv n (n / L) hsl, show n - n / L * L = n % L by rw [Nat.mul_comm]; omega]
  · intro s hs i hi he
    have he : pw T g i = T a _ := he
    have hsl : (s + 1) * L ≤ n := by
      have := Nat.mul_le_mul_right L (show s + 1 ≤ n / L by omega)
      have : n / L * L ≤ n := by rw [Nat.mul_comm]; omega
      omega
    have hss : (s + 1) * L = s * L + L := Nat.succ_mul s L
    rw [← hpn, G.giant hg hbl hinv n s (by omega)] at he
    have := G.pw_inj hg hg0 ho (show i < N - 1 by omega) (show n - s * L < N - 1 by omega) he
    omega
end Go.Proofs.YtjbaleadahefoaaDoor
