/- Contracts of package galois: polynomials over GF(2). -/
import Derived.Test.YtjbaleadahefoaaDoorKit
import Derived.Test.YtjbaleadahefoaaDoorShelf
import Derived.Outline
import Derived.WalkMore
set_option linter.unusedVariables false
namespace Go.Proofs.YtjbaleadahefoaaDoor
open Go.RowKit

theorem pow64 (k : Nat) (h : k ≤ 40) : wrap64 ((2 : Int) ^ k) = ((2 ^ k : Nat) : Int) := by
  have := Nat.pow_le_pow_right (n := 2) (by omega) h
  have e : (2 : Int) ^ k = ((2 ^ k : Nat) : Int) := by rw [Int.natCast_pow]; rfl
  rw [e]
  generalize 2 ^ k = p at *
  unfold wrap64
  omega
theorem i64_xor (a b n : Nat) (ha : a < 2 ^ n) (hb : b < 2 ^ n) (hn : n ≤ 62) : Go.bits .xor .i64 (a : Int) (b : Int) = ((a ^^^ b : Nat) : Int) := by
  show IntKind.i64.wrap ((BitVec.ofInt 64 a ^^^ BitVec.ofInt 64 b).toNat : Int) = _
  have hp : 2 ^ n ≤ 2 ^ 62 := Nat.pow_le_pow_right (by omega) hn
  have hx := Nat.xor_lt_two_pow ha hb
  rw [BitVec.toNat_xor, BitVec.toNat_ofInt, BitVec.toNat_ofInt, IntKind.wrap_i64]
  have e1 : ((a : Int) % ((2 ^ 64 : Nat) : Int)).toNat = a := by omega
  have e2 : ((b : Int) % ((2 ^ 64 : Nat) : Int)).toNat = b := by omega
  rw [e1, e2]
  omega
theorem i64_or (a b n : Nat) (ha : a < 2 ^ n) (hb : b < 2 ^ n) (hn : n ≤ 62) : Go.bits .or .i64 (a : Int) (b : Int) = ((a ||| b : Nat) : Int) := by
  show IntKind.i64.wrap ((BitVec.ofInt 64 a ||| BitVec.ofInt 64 b).toNat : Int) = _
  have hp : 2 ^ n ≤ 2 ^ 62 := Nat.pow_le_pow_right (by omega) hn
  have hx := Nat.or_lt_two_pow ha hb
  rw [BitVec.toNat_or, BitVec.toNat_ofInt, BitVec.toNat_ofInt, IntKind.wrap_i64]
  have e1 : ((a : Int) % ((2 ^ 64 : Nat) : Int)).toNat = a := by omega
  have e2 : ((b : Int) % ((2 ^ 64 : Nat) : Int)).toNat = b := by omega
  rw [e1, e2]
  omega
theorem i64_and (a b n : Nat) (ha : a < 2 ^ n) (hb : b < 2 ^ n) (hn : n ≤ 62) : Go.bits .and .i64 (a : Int) (b : Int) = ((a &&& b : Nat) : Int) := by
  show IntKind.i64.wrap ((BitVec.ofInt 64 a &&& BitVec.ofInt 64 b).toNat : Int) = _
  have hp : 2 ^ n ≤ 2 ^ 62 := Nat.pow_le_pow_right (by omega) hn
  have hx : a &&& b < 2 ^ n := Nat.and_lt_two_pow _ hb
  rw [BitVec.toNat_and, BitVec.toNat_ofInt, BitVec.toNat_ofInt, IntKind.wrap_i64]
  have e1 : ((a : Int) % ((2 ^ 64 : Nat) : Int)).toNat = a := by omega
  have e2 : ((b : Int) % ((2 ^ 64 : Nat) : Int)).toNat = b := by omega
  rw [e1, e2]
  omega
theorem pow_cast (d : Nat) : (2 : Int) ^ d = ((2 ^ d : Nat) : Int) := by rw [Int.natCast_pow]; rfl
theorem shl_lt (v k d : Nat) (hv : v < 2 ^ k) : v * 2 ^ d < 2 ^ (k + d) := by
  rw [Nat.pow_add]
  exact Nat.mul_lt_mul_of_pos_right hv (Nat.pow_pos (by omega))
/-- a shifted number that stays small -/
theorem shl64 (v d n : Nat) (h : v * 2 ^ d < 2 ^ n) (hn : n ≤ 62) : wrap64 ((v : Int) * 2 ^ d) = ((v * 2 ^ d : Nat) : Int) := by
  have hp : 2 ^ n ≤ 2 ^ 62 := Nat.pow_le_pow_right (by omega) hn
  rw [pow_cast, ← Int.natCast_mul]
  generalize v * 2 ^ d = x at *
  unfold wrap64
  omega
theorem shr64 (r n : Nat) : (r : Int) / (2 : Int) ^ n = ((r / 2 ^ n : Nat) : Int) := by
  rw [pow_cast, Int.natCast_ediv]

theorem bitLen_deg (g d : Nat) (h : Deg g d) (hd : d < 64) : Lib.bitLen g = d + 1 := by
  have aux : ∀ (f x e : Nat), Deg x e → e < f → Lib.bitLenAux f x = e + 1 := by
    intro f
    induction f with
    | zero => intro x e _ h; omega
    | succ f ih =>
      intro x e hx he
      have h1 := hx.1
      have h2 := hx.2
      have hp : 0 < 2 ^ e := Nat.pow_pos (by omega)
      rw [Lib.bitLenAux, if_neg (by omega)]
      cases e with
      | zero =>
        obtain rfl : x = 1 := by simp at h1 h2; omega
        cases f <;> simp [Lib.bitLenAux]
      | succ e =>
        rw [ih (x / 2) e ⟨by rw [Nat.pow_succ] at h1; omega, by rw [Nat.pow_succ] at h2; omega⟩ (by omega)]
        omega
  exact aux 64 g d h hd

/-- the degree, -1 for 0 -/
def dgI (p : Nat) : Int := if p = 0 then -1 else (Nat.log2 p : Int)
theorem bitLen_zero : Lib.bitLen 0 = 0 := by rfl
theorem degreeOf_any (p : Nat) (hp : p < 4294967296) (w : World) : Calls Tryd.prog 41 #[.int .i64 (p : Int)] w fun e w' => e = .returned (.int .i64 (dgI p)) ∧ w = w' := by
  have HL : Hid ((Lib.bitLen p : Int) - 1 = dgI p ∧ Lib.bitLen p ≤ 64) := by
    refine Lib.hid ?_
    unfold dgI
    rcases Nat.eq_zero_or_pos p with h0 | h0
    · subst h0; rw [bitLen_zero]; exact ⟨rfl, by omega⟩
    · have hd := deg_log p h0
      have hl : Nat.log2 p < 32 := by
        rcases Nat.lt_or_ge (Nat.log2 p) 32 with h | h
        · exact h
        · have := Nat.pow_le_pow_right (n := 2) (by omega) h
          have := hd.1
          omega
      rw [if_neg (by omega), bitLen_deg p _ hd (by omega)]
      exact ⟨by omega, by omega⟩
  go_enter Tryd.func41, Tryd.ntmps41
  go_wp2_with fail
  refine (Tryd.bits_Len _ _ (by omega) (by omega)).mono ?_
  rintro e w' ⟨rfl, rfl⟩
  go_wp2
  go_ret
  exact ⟨retI (by have := HL.out; unfold wrap64; omega), rfl⟩
/-- any number: the degree of its 64 bits -/
theorem degreeOf_int (p : Int) (h1 : -9223372036854775808 ≤ p) (h2 : p ≤ 9223372036854775807) (w : World) : Calls Tryd.prog 41 #[.int .i64 p] w fun e w' => e = .returned (.int .i64 ((Lib.bitLen (p % 18446744073709551616).toNat : Int) - 1)) ∧ w = w' := by
  have hl : Lib.bitLen (p % 18446744073709551616).toNat ≤ 64 := by
    have aux : ∀ (f x : Nat), Lib.bitLenAux f x ≤ f := by
      intro f
      induction f with
      | zero => intro x; exact Nat.le_refl _
      | succ f ih =>
        intro x
        rw [Lib.bitLenAux]
        split
        · omega
        · have := ih (x / 2); omega
    exact aux 64 _
  obtain ⟨x, hx⟩ : ∃ x : Int, p % 18446744073709551616 = x := ⟨_, rfl⟩
  have hx0 : 0 ≤ x := by omega
  have hx1 : x ≤ 18446744073709551615 := by omega
  rw [hx] at hl ⊢
  have HB := Tryd.bits_Len x
  obtain ⟨L, hL⟩ : ∃ L, Lib.bitLen x.toNat = L := ⟨_, rfl⟩
  rw [hL] at hl HB ⊢
  have hu : IntKind.u64.wrap p = x := by rw [IntKind.wrap_u64]; exact hx
  clear hL hx
  go_enter Tryd.func41, Tryd.ntmps41
  go_wp2_with fail
  refine (HB _ hx0 hx1).mono ?_
  rintro e w' ⟨rfl, rfl⟩
  go_wp2
  go_ret
  exact ⟨retI (by first | rfl | (unfold wrap64; omega)), rfl⟩
theorem bit_one (b j : Nat) (hb : b < 4096) : (Go.bits .and .i64 ((b / 2 ^ j : Nat) : Int) 1 == 1) = b.testBit j := by
  have h : b / 2 ^ j ≤ b := Nat.div_le_self _ _
  have := i64_and (b / 2 ^ j) 1 40 (by omega) (by omega) (by omega)
  have e : Go.bits .and .i64 ((b / 2 ^ j : Nat) : Int) 1 = ((b / 2 ^ j % 2 : Nat) : Int) := by
    rw [← Nat.and_one_is_mod]; exact this
  rw [e, Nat.testBit_eq_decide_div_mod_eq]
  rcases Nat.mod_two_eq_zero_or_one (b / 2 ^ j) with h0 | h0 <;> rw [h0] <;> rfl
set_option maxRecDepth 100000 in
theorem multiply_any (a b : Nat) (ha : a < 4096) (hb : b < 4096) (w : World) : Calls Tryd.prog 65 #[.int .i64 (a : Int), .int .i64 (b : Int)] w fun e w' => e = .returned (.int .i64 ((clm a b 12 : Nat) : Int)) ∧ w = w' := by
  have HA := Lib.hid ha
  have HB := Lib.hid hb
  clear ha hb
  go_enter Tryd.func65, Tryd.ntmps65
  go_wp2_with fail
  go_loop [0, 1, 5] (fun x y z => ∃ j X Y Z : Nat, x = .int .i64 (X : Int) ∧ y = .int .i64 (Y : Int) ∧ z = .int .i64 (Z : Int) ∧ Hid (j ≤ 12 ∧ X = a * 2 ^ j ∧ Y = b / 2 ^ j ∧ Z = clm a b j)) (fun _ y _ => (intOf y).toNat)
  case atStart => exact ⟨0, a, b, 0, rfl, rfl, rfl, Lib.hid ⟨by omega, by simp, by simp, rfl⟩⟩
  case round =>
    obtain ⟨j, X, Y, Z, rfl, rfl, rfl, hj⟩ := hrel
    have hY4 : Y < 4096 := by
      obtain ⟨_, _, h2, _⟩ := hj.out
      have := Nat.div_le_self b (2 ^ j)
      have := HB.out
      omega
    by_cases h0 : Y = 0
    · have HR : Hid (Z = clm a b 12) := by
        obtain ⟨h1, _, h2, h3⟩ := hj.out
        have hbj : b < 2 ^ j := by
          rcases Nat.lt_or_ge b (2 ^ j) with h | h
          · exact h
          · have := Nat.div_pos h (Nat.pow_pos (by omega)); omega
        have := clm_high a b j (12 - j) hbj
        rw [show j + (12 - j) = 12 by omega] at this
        exact Lib.hid (by rw [h3, this])
      subst h0
      go_wp2
      go_ret
      exact ⟨retI (by rw [HR.out]), rfl⟩
    · have hYI : (0 : Int) < (Y : Int) := by omega
      have hj11 : j < 12 := by
        obtain ⟨h1, _, h2, _⟩ := hj.out
        rcases Nat.lt_or_ge j 12 with h | h
        · exact h
        · have : j = 12 := by omega
          subst this
          have := HB.out
          omega
      have hXb : X < 8388608 := by
        obtain ⟨_, h2, _, _⟩ := hj.out
        have := Nat.mul_le_mul (Nat.le_of_lt HA.out) (Nat.pow_le_pow_right (n := 2) (by omega) (show j ≤ 11 by omega))
        have h4 : a * 2 ^ j < 4096 * 2 ^ j := Nat.mul_lt_mul_of_pos_right HA.out (Nat.pow_pos (by omega))
        have h5 := Nat.mul_le_mul_left 4096 (Nat.pow_le_pow_right (n := 2) (by omega) (show j ≤ 11 by omega))
        omega
      have hZb : Z < 2 ^ 24 := by
        obtain ⟨h1, _, _, h3⟩ := hj.out
        rw [h3]
        exact Nat.lt_of_lt_of_le (clm_lt a b j 12 HA.out) (Nat.pow_le_pow_right (by omega) (by omega))
      have h1 := bit_one b j HB.out
      rw [← hj.out.2.2.1] at h1
      have hx := i64_xor Z X 24 hZb (by omega) (by omega)
      have HS : Hid (2 * X = a * 2 ^ (j + 1) ∧ Y / 2 = b / 2 ^ (j + 1) ∧ clm a b (j + 1) = if b.testBit j then Z ^^^ X else Z) := by
        obtain ⟨_, h2, h3, h4⟩ := hj.out
        refine Lib.hid ⟨?_, ?_, ?_⟩
        · rw [Nat.pow_succ, h2, ← Nat.mul_assoc a, Nat.mul_comm 2]
        · rw [Nat.pow_succ, h3, Nat.div_div_eq_div_mul]
        · simp only [clm]
          rw [← h4, Nat.shiftLeft_eq, ← h2]
          split <;> simp
      obtain ⟨V, hV⟩ : ∃ V, Z ^^^ X = V := ⟨_, rfl⟩
      rw [hV] at hx HS
      clear hV hZb
      cases hb : b.testBit j
      · rw [hb] at h1 HS
        clear hb
        go_wp2
        go_round
        case rel => exact ⟨j + 1, 2 * X, Y / 2, Z, by go_num, by go_num, rfl, Lib.hid ⟨hj11, HS.out.1, HS.out.2.1, by have := HS.out.2.2; simpa using this.symm⟩⟩
        case measure => simp [intOf]; omega
      · rw [hb] at h1 HS
        clear hb
        go_wp2
        go_round
        case rel => exact ⟨j + 1, 2 * X, Y / 2, V, by go_num, by go_num, rfl, Lib.hid ⟨hj11, HS.out.1, HS.out.2.1, by have := HS.out.2.2; simpa using this.symm⟩⟩
        case measure => simp [intOf]; omega

theorem log_lt {p n : Nat} (h0 : 0 < p) (h : p < 2 ^ n) : Nat.log2 p < n := by
  rcases Nat.lt_or_ge (Nat.log2 p) n with h1 | h1
  · exact h1
  · have := Nat.pow_le_pow_right (n := 2) (by omega) h1
    have := (deg_log p h0).1
    omega
/-- one step of the code's division -/
theorem rem_step {g d a : Nat} (h : Deg g d) (ha0 : 0 < a) (ha : a < 2 ^ 30) (hd : d ≤ Nat.log2 a) :
    rm (a ^^^ (g * 2 ^ (Nat.log2 a - d))) g = rm a g ∧ a ^^^ (g * 2 ^ (Nat.log2 a - d)) < 2 ^ Nat.log2 a ∧ a ^^^ (g * 2 ^ (Nat.log2 a - d)) < a ∧ g * 2 ^ (Nat.log2 a - d) < 2 ^ 30 := by
  have hA := deg_log a ha0
  have hl := log_lt ha0 ha
  obtain ⟨s, hs⟩ : ∃ s, Nat.log2 a - d = s := ⟨_, rfl⟩
  rw [hs]
  have h1 := step_lt h s a (by rw [show s + 1 + d = Nat.log2 a + 1 by omega]; exact hA.2)
  have ht : a.testBit (s + d) = true := by rw [show s + d = Nat.log2 a by omega]; exact hA.top
  rw [ht] at h1
  simp only [if_true] at h1
  rw [Nat.shiftLeft_eq, show s + d = Nat.log2 a by omega] at h1
  refine ⟨?_, h1, Nat.lt_of_lt_of_le h1 hA.1, ?_⟩
  · have := rm_step h a s (by omega)
    rwa [Nat.shiftLeft_eq] at this
  · have := shl_lt g (d + 1) s h.2
    exact Nat.lt_of_lt_of_le this (Nat.pow_le_pow_right (by omega) (by omega))
theorem dgI_pos {p : Nat} (h : 0 < p) : dgI p = (Nat.log2 p : Int) := by unfold dgI; rw [if_neg (by omega)]
theorem dgI_zero : dgI 0 = -1 := rfl
set_option maxRecDepth 100000 in
theorem remainder_any (p g d : Nat) (h : Deg g d) (hd : d ≤ 12) (hp : p < 1073741824) (w : World) : Calls Tryd.prog 63 #[.int .i64 (p : Int), .int .i64 (g : Int)] w fun e w' => e = .returned (.int .i64 ((rm p g : Nat) : Int)) ∧ w = w' := by
  have hg0 : 0 < g := Nat.lt_of_lt_of_le (Nat.pow_pos (by omega)) h.1
  have hg13 : g < 2 ^ 13 := Nat.lt_of_lt_of_le h.2 (Nat.pow_le_pow_right (by omega) (by omega))
  have HDG := degreeOf_any g (by omega)
  rw [dgI_pos hg0, deg_unique h] at HDG
  obtain ⟨R, hR⟩ : ∃ R, rm p g = R := ⟨_, rfl⟩
  have HR := Lib.hid hR
  rw [hR]
  clear hR
  have HDA : Hid (∀ a : Nat, a < 1073741824 → ∃ D : Int, -1 ≤ D ∧ D ≤ 30 ∧ (∀ w, Calls Tryd.prog 41 #[.int .i64 (a : Int)] w fun e w' => e = .returned (.int .i64 D) ∧ w = w') ∧ Hid (D = dgI a)) := by
    refine Lib.hid ?_
    intro a ha
    refine ⟨dgI a, ?_, ?_, degreeOf_any a (by omega), Lib.hid rfl⟩
    · unfold dgI; split <;> omega
    · unfold dgI
      split
      · omega
      · have := log_lt (p := a) (n := 30) (by omega) ha
        omega
  have HS : Hid (∀ (a : Nat) (D : Int), D = dgI a → a < 1073741824 → rm a g = R → 0 ≤ D - (d : Int) → ∃ (s X : Nat), D - (d : Int) = s ∧ s ≤ 30 ∧ wrap64 ((g : Int) * 2 ^ s) = (X : Int) ∧ ∃ Y : Nat, Go.bits .xor .i64 (a : Int) (X : Int) = (Y : Int) ∧ Y < 1073741824 ∧ Hid (rm Y g = R ∧ Y < a)) := by
    refine Lib.hid ?_
    intro a D hD ha hr h0
    rcases Nat.eq_zero_or_pos a with ha0 | ha0
    · subst ha0; rw [dgI_zero] at hD; omega
    · rw [dgI_pos ha0] at hD
      obtain ⟨h1, h2, h3, h4⟩ := rem_step h ha0 ha (by omega)
      have hl := log_lt (n := 30) ha0 ha
      refine ⟨Nat.log2 a - d, g * 2 ^ (Nat.log2 a - d), by omega, by omega, shl64 g _ 30 h4 (by omega), _, i64_xor a _ 30 ha h4 (by omega), by omega, Lib.hid ⟨by rw [h1, hr], h3⟩⟩
  have HE : Hid (∀ (a : Nat) (D : Int), D = dgI a → a < 1073741824 → rm a g = R → D - (d : Int) < 0 → a = R) := by
    refine Lib.hid ?_
    intro a D hD ha hr h0
    rw [← hr]
    have hlt : a < 2 ^ d := by
      rcases Nat.eq_zero_or_pos a with ha0 | ha0
      · subst ha0; exact Nat.pow_pos (by omega)
      · rw [dgI_pos ha0] at hD
        exact Nat.lt_of_lt_of_le (deg_log a ha0).2 (Nat.pow_le_pow_right (by omega) (by omega))
    exact (rm_small h hlt (by omega)).symm
  obtain ⟨D0, hD1, hD2, HD0, hD0⟩ := HDA.out p hp
  have HP := Lib.hid hp
  clear hp hg0 hg13
  go_enter Tryd.func63, Tryd.ntmps63
  go_wp2_with fail
  refine (HDG _).mono ?_
  rintro e w1 ⟨rfl, rfl⟩
  go_wp2_with fail
  refine (HD0 _).mono ?_
  rintro e w1 ⟨rfl, rfl⟩
  go_wp2_with fail
  go_loop [0, 6] (fun x y => ∃ (a : Nat) (D : Int), x = .int .i64 (a : Int) ∧ y = .int .i64 (D - (d : Int)) ∧ -1 ≤ D ∧ D ≤ 30 ∧ Hid (a < 1073741824 ∧ D = dgI a ∧ rm a g = R)) (fun x _ => (intOf x).toNat)
  case atStart => exact ⟨p, D0, rfl, rfl, hD1, hD2, Lib.hid ⟨HP.out, hD0.out, HR.out⟩⟩
  case round =>
    obtain ⟨a, D, rfl, rfl, hDa, hDb, ha⟩ := hrel
    by_cases h0 : 0 ≤ D - (d : Int)
    · obtain ⟨s, X, hs, hs30, hX, Y, hY, hYb, hYr⟩ := HS.out a D ha.out.2.1 ha.out.1 ha.out.2.2 h0
      obtain ⟨D2, hD21, hD22, HD2, hD2e⟩ := HDA.out Y hYb
      have HYb := Lib.hid hYb
      rw [hs]
      clear hYb h0 hs
      go_wp2_with fail
      refine (HD2 _).mono ?_
      rintro e w1 ⟨rfl, rfl⟩
      go_wp2
      go_round
      case rel => exact ⟨Y, D2, rfl, rfl, hD21, hD22, Lib.hid ⟨HYb.out, hD2e.out, hYr.out.1⟩⟩
      case measure => have := hYr.out.2; simp [intOf]; omega
    · have HA := Lib.hid (HE.out a D ha.out.2.1 ha.out.1 ha.out.2.2 (by omega))
      go_wp2
      go_ret
      exact ⟨retI (by rw [HA.out]), rfl⟩
end Go.Proofs.YtjbaleadahefoaaDoor
