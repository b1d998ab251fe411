/- Contracts of galois: Valid of any field, on both sides. -/
import Derived.Test.YtjbaleadahefoaaDoorW5
set_option linter.unusedVariables false
namespace Go.Proofs.YtjbaleadahefoaaDoor
open Go.RowKit

/-- a valid field -/
def VF (c n q : Int) : Prop := (c = 2 ∧ ∃ D : Nat, 1 ≤ D ∧ D ≤ 12 ∧ n = ((2 ^ D : Nat) : Int) ∧ 0 ≤ q ∧ Deg q.toNat D ∧ ¬ HasD q.toNat D) ∨ (¬ c = 2 ∧ c = n ∧ q = 0 ∧ 3 ≤ n ∧ n ≤ 4096 ∧ ¬ HasF n.toNat)
def I64 (x : Int) : Prop := -9223372036854775808 ≤ x ∧ x ≤ 9223372036854775807
theorem bool_iff {b : Bool} {x : Bool} {p q : Prop} (hb : b = true ↔ p) (hx : x = true ↔ q) (h : p ↔ q) : b = x := by
  cases b <;> cases x <;> simp_all
theorem dgI_pow (D : Nat) : dgI (2 ^ D) = (D : Int) := by
  rw [dgI_pos (Nat.pow_pos (by omega)), deg_unique (d := D) ⟨Nat.le_refl _, by rw [Nat.pow_succ]; have := Nat.pow_pos (n := D) (show 0 < 2 by omega); omega⟩]
theorem pow_le_4096 {D : Nat} (h : D ≤ 12) : 2 ^ D ≤ 4096 := Nat.pow_le_pow_right (n := 2) (by omega) h
theorem valid_any (c n q : Int) (hc : I64 c) (hn : I64 n) (hq : I64 q) (b : Bool) (hb : b = true ↔ VF c n q) (w : World) (hT : Tb w) :
    Calls Tryd.prog 14 #[.agg #[.int .i64 c, .int .i64 n, .int .i64 q]] w fun e w' => e = .returned (.bool b) ∧ Below w.heap.size w w' := by
  by_cases h2 : c = 2
  · subst h2
    have HG : ∃ g : Int, I64 g ∧ (∀ w, Calls Tryd.prog 41 #[.int .i64 n] w fun e w' => e = .returned (.int .i64 g) ∧ w = w') ∧ ∀ D : Nat, D ≤ 12 → n = ((2 ^ D : Nat) : Int) → g = D := by
      by_cases hn0 : 0 ≤ n
      · obtain ⟨m, rfl⟩ : ∃ m : Nat, n = m := ⟨n.toNat, by omega⟩
        have hm : m < 9223372036854775808 := by have := hn.2; omega
        have hr := dgI_le m hm
        refine ⟨dgI m, ⟨by omega, by omega⟩, fun w => degreeOf_nat m hm w, fun D hD he => ?_⟩
        have : m = 2 ^ D := by omega
        rw [this, dgI_pow]
      · refine ⟨63, ⟨by omega, by omega⟩, fun w => degreeOf_neg n (by omega) hn.1 w, fun D hD he => (hn0 (by rw [he]; exact Int.natCast_nonneg _)).elim⟩
    obtain ⟨g, hg, HG, hgD⟩ := HG
    by_cases hr : g < 1 ∨ 12 < g
    · refine valid_binary n q g 0 0 0 3 b ?_ HG (fun w _ => binary_range g q hr w) w hT
      refine bool_iff hb (q := False) (by simp) ⟨?_, fun h => h.elim⟩
      rintro (⟨_, D, h1, h12, he, _⟩ | ⟨h, _⟩)
      · have := hgD D h12 he; omega
      · exact h rfl
    · obtain ⟨D, rfl⟩ : ∃ D : Nat, g = D := ⟨g.toNat, by omega⟩
      have h1 : 1 ≤ D := by omega
      have h12 : D ≤ 12 := by omega
      by_cases hp : 0 ≤ q ∧ Deg q.toNat D ∧ ¬ HasD q.toNat D
      · obtain ⟨p, rfl⟩ : ∃ p : Nat, q = p := ⟨q.toNat, by omega⟩
        refine valid_binary n p D 2 ((2 ^ D : Nat) : Int) p 0 b ?_ HG (fun w hT => binary_ok D p h1 h12 hp.2.1 hp.2.2 w hT) w hT
        refine bool_iff hb (q := ((2 ^ D : Nat) : Int) = n) (by simp) ⟨?_, ?_⟩
        · rintro (⟨_, E, _, hE, he, _⟩ | ⟨h, _⟩)
          · have := hgD E hE he
            have : D = E := by omega
            subst this
            exact he.symm
          · exact absurd rfl h
        · intro he
          exact Or.inl ⟨rfl, D, h1, h12, he.symm, hp⟩
      · refine valid_binary n q D 0 0 0 38 b ?_ HG (fun w hT => binary_poly D q h1 h12 hq.1 hq.2 hp w hT) w hT
        refine bool_iff hb (q := False) (by simp) ⟨?_, fun h => h.elim⟩
        rintro (⟨_, E, _, hE, he, h⟩ | ⟨h, _⟩)
        · have := hgD E hE he
          have : D = E := by omega
          subst this
          exact hp h
        · exact h rfl
  · have hVF : VF c n q ↔ (c = n ∧ q = 0 ∧ 3 ≤ n ∧ n ≤ 4096 ∧ ¬ HasF n.toNat) := by
      unfold VF
      constructor
      · rintro (⟨h, _⟩ | ⟨_, h⟩)
        · exact absurd h h2
        · exact h
      · intro h
        exact Or.inr ⟨h2, h⟩
    rw [hVF] at hb
    by_cases hr : n < 2 ∨ 4096 < n
    · refine valid_prime c n q 0 0 0 3 h2 b ?_ (fun w _ => primeF_range n hr w) w hT
      exact bool_iff hb (q := False) (by simp) ⟨fun h => by omega, fun h => h.elim⟩
    · by_cases hn2 : n = 2
      · subst hn2
        refine valid_prime c 2 q 2 2 2 0 h2 b ?_ (fun w hT => primeF_two w hT) w hT
        refine bool_iff hb (q := False) (by simp; omega) ⟨fun h => by omega, fun h => h.elim⟩
      · obtain ⟨m, rfl⟩ : ∃ m : Nat, n = m := ⟨n.toNat, by omega⟩
        rw [show ((m : Int)).toNat = m from rfl] at hb
        by_cases hF : HasF m
        · refine valid_prime c m q 0 0 0 1 h2 b ?_ (fun w hT => primeF_no m (by omega) (by omega) hF w hT) w hT
          exact bool_iff hb (q := False) (by simp) ⟨fun h => h.2.2.2.2 hF, fun h => h.elim⟩
        · refine valid_prime c m q m m 0 0 h2 b ?_ (fun w hT => primeF_ok m (by omega) (by omega) hF w hT) w hT
          refine bool_iff hb (q := ((m : Int) = c ∧ (0 : Int) = q)) (by simp) ⟨fun h => ⟨h.1.symm, h.2.1.symm⟩, fun h => ⟨h.1.symm, h.2.symm, by omega, by omega, hF⟩⟩

set_option maxRecDepth 100000 in
theorem rValid_deg (n q : Int) (d : Int) (hd : d < 1 ∨ 12 < d) (HG : ∀ w, Calls Tryd.prog 46 #[.int .i64 n] w fun e w' => e = .returned (.int .i64 d) ∧ w = w') (w : World) :
    Calls Tryd.prog 15 #[.agg #[.int .i64 2, .int .i64 n, .int .i64 q]] w fun e w' => e = .returned (.bool false) ∧ Below w.heap.size w w' := by
  obtain ⟨c1, c2, c3⟩ := (Fd.new w 2 n q).cells
  by_cases h1 : d < 1
  · have h1d : decide (1 ≤ d) = false := decide_eq_false (by omega)
    clear hd
    go_enter Tryd.func15, Tryd.ntmps15
    go_wp2_with fail
    refine (HG _).mono ?_
    rintro e w1 ⟨rfl, rfl⟩
    go_wp2
    go_ret
    exact ⟨rfl, below_new _ _⟩
  · have h1d : decide (1 ≤ d) = true := decide_eq_true (by omega)
    have h2d : decide (d ≤ 12) = false := decide_eq_false (by omega)
    clear hd
    go_enter Tryd.func15, Tryd.ntmps15
    go_wp2_with fail
    refine (HG _).mono ?_
    rintro e w1 ⟨rfl, rfl⟩
    go_wp2
    go_ret
    exact ⟨by first | rfl | simp [h2d], below_new _ _⟩

set_option maxRecDepth 100000 in
theorem rValid_size (D : Nat) (n q : Int) (h1 : 1 ≤ D) (h12 : D ≤ 12) (hn : ¬ n = ((2 ^ D : Nat) : Int)) (HG : ∀ w, Calls Tryd.prog 46 #[.int .i64 n] w fun e w' => e = .returned (.int .i64 (D : Int)) ∧ w = w') (w : World) :
    Calls Tryd.prog 15 #[.agg #[.int .i64 2, .int .i64 n, .int .i64 q]] w fun e w' => e = .returned (.bool false) ∧ Below w.heap.size w w' := by
  obtain ⟨c1, c2, c3⟩ := (Fd.new w 2 n q).cells
  have hD1 : decide (1 ≤ (D : Int)) = true := decide_eq_true (by omega)
  have hD2 : decide ((D : Int) ≤ 12) = true := decide_eq_true (by omega)
  have hD64 : D ≤ 63 := by omega
  have hD0 : (0 : Int) ≤ (D : Int) := by omega
  have hDb : (D : Int) ≤ 12 := by omega
  have hpw := pow64 D (by omega)
  obtain ⟨M, hM⟩ : ∃ M : Nat, 2 ^ D = M := ⟨_, rfl⟩
  rw [hM] at hpw hn
  clear hM h1 h12
  go_enter Tryd.func15, Tryd.ntmps15
  go_wp2_with fail
  refine (HG _).mono ?_
  rintro e w1 ⟨rfl, rfl⟩
  go_wp2
  go_ret
  exact ⟨rfl, below_new _ _⟩
set_option maxRecDepth 100000 in
theorem rValid_two (D : Nat) (q : Int) (ir b : Bool) (h1 : 1 ≤ D) (h12 : D ≤ 12) (hb : b = (decide (q < ((2 ^ (D + 1) : Nat) : Int)) && ir)) (HG : ∀ w, Calls Tryd.prog 46 #[.int .i64 ((2 ^ D : Nat) : Int)] w fun e w' => e = .returned (.int .i64 (D : Int)) ∧ w = w')
    (HI : q < ((2 ^ (D + 1) : Nat) : Int) → ∀ w, Calls Tryd.prog 43 #[.int .i64 q, .int .i64 (D : Int)] w fun e w' => e = .returned (.bool ir) ∧ w = w') (w : World) :
    Calls Tryd.prog 15 #[.agg #[.int .i64 2, .int .i64 ((2 ^ D : Nat) : Int), .int .i64 q]] w fun e w' => e = .returned (.bool b) ∧ Below w.heap.size w w' := by
  have hD1 : decide (1 ≤ (D : Int)) = true := decide_eq_true (by omega)
  have hD2 : decide ((D : Int) ≤ 12) = true := decide_eq_true (by omega)
  have hD64 : D ≤ 63 := by omega
  have hD0 : (0 : Int) ≤ (D : Int) := by omega
  have hDb : (D : Int) ≤ 12 := by omega
  have hpw := pow64 D (by omega)
  obtain ⟨S, hS⟩ : ∃ S : Nat, D + 1 = S := ⟨_, rfl⟩
  have hSI : (D : Int) + 1 = (S : Int) := by omega
  have hS13 : S ≤ 13 := by omega
  have hpwS := pow64 S (by omega)
  rw [hS] at hb HI
  obtain ⟨M, hM⟩ : ∃ M : Nat, 2 ^ D = M := ⟨_, rfl⟩
  rw [hM] at hpw HG ⊢
  obtain ⟨N, hN⟩ : ∃ N : Nat, 2 ^ S = N := ⟨_, rfl⟩
  rw [hN] at hpwS hb HI
  have HB := Lib.hid hb
  obtain ⟨c1, c2, c3⟩ := (Fd.new w 2 M q).cells
  clear hM hN hS h1 h12 hb
  by_cases hq : q < (N : Int)
  · have HI2 := HI hq
    clear HI
    go_enter Tryd.func15, Tryd.ntmps15
    go_wp2_with fail
    refine (HG _).mono ?_
    rintro e w1 ⟨rfl, rfl⟩
    go_wp2_with fail
    refine (HI2 _).mono ?_
    rintro e w1 ⟨rfl, rfl⟩
    go_wp2
    go_ret
    exact ⟨by rw [HB.out, decide_eq_true hq]; rfl, below_new _ _⟩
  · clear HI
    have hqd : decide (q < (N : Int)) = false := decide_eq_false hq
    go_enter Tryd.func15, Tryd.ntmps15
    go_wp2_with fail
    refine (HG _).mono ?_
    rintro e w1 ⟨rfl, rfl⟩
    go_wp2
    go_ret
    exact ⟨by rw [HB.out, hqd]; first | rfl | simp [hqd], below_new _ _⟩
set_option maxRecDepth 100000 in
theorem rValid_no (c n q : Int) (hc : ¬ c = 2) (h : ¬ (c = n ∧ q = 0 ∧ 3 ≤ n ∧ n ≤ 4096)) (w : World) :
    Calls Tryd.prog 15 #[.agg #[.int .i64 c, .int .i64 n, .int .i64 q]] w fun e w' => e = .returned (.bool false) ∧ Below w.heap.size w w' := by
  obtain ⟨c1, c2, c3⟩ := (Fd.new w c n q).cells
  by_cases e1 : c = n
  · subst e1
    by_cases e2 : q = 0
    · subst e2
      by_cases e3 : 3 ≤ c
      · have e4 : decide (c ≤ 4096) = false := decide_eq_false (by omega)
        clear h
        go_enter Tryd.func15, Tryd.ntmps15
        go_wp2
        go_ret
        exact ⟨by first | rfl | simp [e4], below_new _ _⟩
      · have e4 : decide (3 ≤ c) = false := decide_eq_false e3
        clear h
        go_enter Tryd.func15, Tryd.ntmps15
        go_wp2
        go_ret
        exact ⟨by first | rfl | simp [e4], below_new _ _⟩
    · clear h
      go_enter Tryd.func15, Tryd.ntmps15
      go_wp2
      go_ret
      exact ⟨rfl, below_new _ _⟩
  · clear h
    go_enter Tryd.func15, Tryd.ntmps15
    go_wp2
    go_ret
    exact ⟨rfl, below_new _ _⟩
set_option maxRecDepth 100000 in
theorem rValid_prime (n : Int) (b : Bool) (h3 : 3 ≤ n) (hn : n ≤ 4096) (HP : ∀ w, Calls Tryd.prog 45 #[.int .i64 n] w fun e w' => e = .returned (.bool b) ∧ w = w') (w : World) :
    Calls Tryd.prog 15 #[.agg #[.int .i64 n, .int .i64 n, .int .i64 0]] w fun e w' => e = .returned (.bool b) ∧ Below w.heap.size w w' := by
  obtain ⟨c1, c2, c3⟩ := (Fd.new w n n 0).cells
  have hc : ¬ n = 2 := by omega
  go_enter Tryd.func15, Tryd.ntmps15
  go_wp2_with fail
  refine (HP _).mono ?_
  rintro e w1 ⟨rfl, rfl⟩
  go_wp2
  go_ret
  exact ⟨rfl, below_new _ _⟩
theorem rValid_any (c n q : Int) (hc : I64 c) (hn : I64 n) (hq : I64 q) (b : Bool) (hb : b = true ↔ VF c n q) (w : World) :
    Calls Tryd.prog 15 #[.agg #[.int .i64 c, .int .i64 n, .int .i64 q]] w fun e w' => e = .returned (.bool b) ∧ Below w.heap.size w w' := by
  have hf : ∀ {p : Prop}, (b = true ↔ p) → ¬ p → b = false := fun {p} h hp => by
    cases b
    · rfl
    · exact absurd (h.1 rfl) hp
  by_cases h2 : c = 2
  · subst h2
    have HG : ∃ g : Int, (∀ w, Calls Tryd.prog 46 #[.int .i64 n] w fun e w' => e = .returned (.int .i64 g) ∧ w = w') ∧ ∀ D : Nat, n = ((2 ^ D : Nat) : Int) → g = D := by
      by_cases hn0 : 0 ≤ n
      · obtain ⟨m, rfl⟩ : ∃ m : Nat, n = m := ⟨n.toNat, by omega⟩
        have hm : m < 9223372036854775808 := by have := hn.2; omega
        refine ⟨dgI m, fun w => rDegree_any m hm w, fun D he => ?_⟩
        have : m = 2 ^ D := by omega
        rw [this, dgI_pow]
      · exact ⟨-1, fun w => rDegree_neg n (by omega) w, fun D he => (hn0 (by rw [he]; exact Int.natCast_nonneg _)).elim⟩
    obtain ⟨g, HG, hgD⟩ := HG
    by_cases hr : g < 1 ∨ 12 < g
    · rw [hf hb (by
        rintro (⟨_, D, h1, h12, he, _⟩ | ⟨h, _⟩)
        · have := hgD D he; omega
        · exact h rfl)]
      exact rValid_deg n q g hr HG w
    · obtain ⟨D, rfl⟩ : ∃ D : Nat, g = D := ⟨g.toNat, by omega⟩
      have h1 : 1 ≤ D := by omega
      have h12 : D ≤ 12 := by omega
      by_cases hnD : n = ((2 ^ D : Nat) : Int)
      · subst hnD
        have hV : VF 2 ((2 ^ D : Nat) : Int) q ↔ (0 ≤ q ∧ Deg q.toNat D ∧ ¬ HasD q.toNat D) := by
          constructor
          · rintro (⟨_, E, _, _, he, h⟩ | ⟨h, _⟩)
            · have := hgD E he
              have : D = E := by omega
              subst this
              exact h
            · exact absurd rfl h
          · intro h
            exact Or.inl ⟨rfl, D, h1, h12, rfl, h⟩
        rw [hV] at hb
        by_cases hq0 : 0 ≤ q
        · obtain ⟨p, rfl⟩ : ∃ p : Nat, q = p := ⟨q.toNat, by omega⟩
          rw [show ((p : Int)).toNat = p from rfl] at hb
          have hp63 : p < 9223372036854775808 := by have := hq.2; omega
          by_cases hdeg : Deg p D
          · refine rValid_two D p b b h1 h12 ?_ HG (fun _ w => irreducible_any p D hdeg h12 b ?_ w) w
            · rw [decide_eq_true (by have := hdeg.2; omega)]; rfl
            · rw [hb]; exact ⟨fun h => h.2.2, fun h => ⟨hq0, hdeg, h⟩⟩
          · have hbf := hf hb (fun h => hdeg h.2.1)
            rw [hbf]
            refine rValid_two D p false false h1 h12 (by simp) HG (fun _ w => irreducible_deg p D hp63 ?_ w) w
            intro he
            apply hdeg
            rcases Nat.eq_zero_or_pos p with h0 | h0
            · subst h0; rw [dgI_zero] at he; omega
            · rw [dgI_pos h0] at he
              have := deg_log p h0
              rwa [show Nat.log2 p = D by omega] at this
        · rw [hf hb (fun h => hq0 h.1)]
          exact rValid_two D q false false h1 h12 (by simp) HG (fun _ w => irreducible_neg q D (by omega) w) w
      · rw [hf hb (by
          rintro (⟨_, E, _, _, he, _⟩ | ⟨h, _⟩)
          · have := hgD E he
            have : D = E := by omega
            subst this
            exact hnD he
          · exact h rfl)]
        exact rValid_size D n q h1 h12 hnD HG w
  · have hVF : VF c n q ↔ (c = n ∧ q = 0 ∧ 3 ≤ n ∧ n ≤ 4096 ∧ ¬ HasF n.toNat) := by
      unfold VF
      constructor
      · rintro (⟨h, _⟩ | ⟨_, h⟩)
        · exact absurd h h2
        · exact h
      · intro h
        exact Or.inr ⟨h2, h⟩
    rw [hVF] at hb
    by_cases h : c = n ∧ q = 0 ∧ 3 ≤ n ∧ n ≤ 4096
    · obtain ⟨rfl, rfl, h3, h4⟩ := h
      obtain ⟨m, rfl⟩ : ∃ m : Nat, c = m := ⟨c.toNat, by omega⟩
      rw [show ((m : Int)).toNat = m from rfl] at hb
      exact rValid_prime m b h3 h4 (fun w => prime_any m (by omega) (by omega) b ⟨fun h => (hb.1 h).2.2.2.2, fun h => hb.2 ⟨rfl, rfl, h3, h4, h⟩⟩ w) w
    · rw [hf hb (fun hh => h ⟨hh.1, hh.2.1, hh.2.2.1, hh.2.2.2.1⟩)]
      exact rValid_no c n q h2 h w
end Go.Proofs.YtjbaleadahefoaaDoor
