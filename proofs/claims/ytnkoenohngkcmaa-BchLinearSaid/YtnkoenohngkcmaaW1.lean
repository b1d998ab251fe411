/- Contracts of package bch: the code's struct. -/
import Derived.Test.YtnkoenohngkcmaaKit
import Derived.Test.YtnkoenohngkcmaaShelf
import Derived.Outline
namespace Go.Proofs.Ytnkoenohngkcmaa
open Go.RowKit

/-- k and gen describe a code -/
def OkC (k gen : Int) : Prop := 1 ≤ k ∧ k ≤ 12 ∧ 3 ≤ gen ∧ gen < 524288 ∧ gen % 2 = 1

set_option maxRecDepth 100000 in
theorem isValid_yes (k gen : Int) (h : OkC k gen) (w : World) : Calls Try.prog 28 #[.agg #[.int .i64 k, .int .i64 gen]] w fun e w' => e = .returned (.bool true) ∧ Below w.heap.size w w' := by
  obtain ⟨h1, h2, h3, h4, h5⟩ := h
  go_enter Try.func28, Try.ntmps28
  go_wp2
  go_ret
  exact ⟨rfl, below_new _ _⟩
set_option maxRecDepth 100000 in
theorem isValid_no (k gen : Int) (h : ¬ OkC k gen) (w : World) : Calls Try.prog 28 #[.agg #[.int .i64 k, .int .i64 gen]] w fun e w' => e = .returned (.bool false) ∧ Below w.heap.size w w' := by
  unfold OkC at h
  by_cases h1 : 1 ≤ k
  · by_cases h2 : k ≤ 12
    · by_cases h3 : 3 ≤ gen
      · by_cases h4 : gen < 524288
        · have h5 : gen % 2 = 0 := by omega
          clear h
          go_enter Try.func28, Try.ntmps28
          go_wp2
          go_ret
          exact ⟨rfl, below_new _ _⟩
        · clear h
          go_enter Try.func28, Try.ntmps28
          go_wp2
          go_ret
          exact ⟨rfl, below_new _ _⟩
      · clear h
        go_enter Try.func28, Try.ntmps28
        go_wp2
        go_ret
        exact ⟨rfl, below_new _ _⟩
    · clear h
      go_enter Try.func28, Try.ntmps28
      go_wp2
      go_ret
      exact ⟨rfl, below_new _ _⟩
  · clear h
    go_enter Try.func28, Try.ntmps28
    go_wp2
    go_ret
    exact ⟨rfl, below_new _ _⟩

theorem pow64 (k : Nat) (h : k ≤ 40) : wrap64 ((2 : Int) ^ k) = ((2 ^ k : Nat) : Int) := by
  have := Nat.pow_le_pow_right (n := 2) (by omega) h
  have e : (2 : Int) ^ k = ((2 ^ k : Nat) : Int) := by rw [Int.natCast_pow]; rfl
  rw [e]
  generalize 2 ^ k = p at *
  unfold wrap64
  omega
theorem pow_le_12 (k : Nat) (h : k ≤ 12) : 2 ^ k ≤ 4096 := Nat.pow_le_pow_right (n := 2) (by omega) h
set_option maxRecDepth 100000 in
theorem count_any (k : Nat) (gen : Int) (hk : k ≤ 12) (w : World) : Calls Try.prog 29 #[.agg #[.int .i64 k, .int .i64 gen]] w fun e w' => e = .returned (.int .i64 ((2 ^ k : Nat) : Int)) ∧ Below w.heap.size w w' := by
  have hp := pow_le_12 k hk
  go_enter Try.func29, Try.ntmps29
  go_wp2
  go_ret
  exact ⟨retI (pow64 k (by omega)), below_new _ _⟩

theorem bitLen_deg (g d : Nat) (h : Deg g d) (hd : d < 64) : Lib.bitLen g = d + 1 := by
  have aux : ∀ (f x e : Nat), Deg x e → e < f → Lib.bitLenAux f x = e + 1 := by
    intro f
    induction f with
    | zero => intro x e _ h; omega
    | succ f ih =>
      intro x e hx he
      have h1 := hx.1
      have h2 := hx.2
      have hp : 0 < 2 ^ e := Nat.pow_pos (by omega)
      rw [Lib.bitLenAux, if_neg (by omega)]
      cases e with
      | zero =>
        obtain rfl : x = 1 := by simp at h1 h2; omega
        cases f <;> simp [Lib.bitLenAux]
      | succ e =>
        rw [ih (x / 2) e ⟨by rw [Nat.pow_succ] at h1; omega, by rw [Nat.pow_succ] at h2; omega⟩ (by omega)]
        omega
  exact aux 64 g d h hd
set_option maxRecDepth 100000 in
theorem degree_any (k : Int) (g d : Nat) (h : Deg g d) (hd : d ≤ 18) (w : World) : Calls Try.prog 36 #[.agg #[.int .i64 k, .int .i64 (g : Int)]] w fun e w' => e = .returned (.int .i64 (d : Int)) ∧ Below w.heap.size w w' := by
  have HL := Lib.hid (bitLen_deg g d h (by omega))
  have h2 : (g : Int) < 524288 := by
    have := h.2
    have h3 : 2 ^ (d + 1) ≤ 2 ^ 19 := Nat.pow_le_pow_right (by omega) (by omega)
    omega
  clear h
  go_enter Try.func36, Try.ntmps36
  go_wp2_with fail
  refine (Try.bits_Len _ _ (by omega) (by omega)).mono ?_
  rintro e w' ⟨rfl, rfl⟩
  go_wp2
  go_ret
  exact ⟨retI (by rw [HL.out]; unfold wrap64; omega), below_new _ _⟩
theorem i64_xor (a b n : Nat) (ha : a < 2 ^ n) (hb : b < 2 ^ n) (hn : n ≤ 62) : Go.bits .xor .i64 (a : Int) (b : Int) = ((a ^^^ b : Nat) : Int) := by
  show IntKind.i64.wrap ((BitVec.ofInt 64 a ^^^ BitVec.ofInt 64 b).toNat : Int) = _
  have hp : 2 ^ n ≤ 2 ^ 62 := Nat.pow_le_pow_right (by omega) hn
  have hx := Nat.xor_lt_two_pow ha hb
  rw [BitVec.toNat_xor, BitVec.toNat_ofInt, BitVec.toNat_ofInt, IntKind.wrap_i64]
  have e1 : ((a : Int) % ((2 ^ 64 : Nat) : Int)).toNat = a := by omega
  have e2 : ((b : Int) % ((2 ^ 64 : Nat) : Int)).toNat = b := by omega
  rw [e1, e2]
  omega
theorem i64_or (a b n : Nat) (ha : a < 2 ^ n) (hb : b < 2 ^ n) (hn : n ≤ 62) : Go.bits .or .i64 (a : Int) (b : Int) = ((a ||| b : Nat) : Int) := by
  show IntKind.i64.wrap ((BitVec.ofInt 64 a ||| BitVec.ofInt 64 b).toNat : Int) = _
  have hp : 2 ^ n ≤ 2 ^ 62 := Nat.pow_le_pow_right (by omega) hn
  have hx := Nat.or_lt_two_pow ha hb
  rw [BitVec.toNat_or, BitVec.toNat_ofInt, BitVec.toNat_ofInt, IntKind.wrap_i64]
  have e1 : ((a : Int) % ((2 ^ 64 : Nat) : Int)).toNat = a := by omega
  have e2 : ((b : Int) % ((2 ^ 64 : Nat) : Int)).toNat = b := by omega
  rw [e1, e2]
  omega
theorem i64_and (a b n : Nat) (ha : a < 2 ^ n) (hb : b < 2 ^ n) (hn : n ≤ 62) : Go.bits .and .i64 (a : Int) (b : Int) = ((a &&& b : Nat) : Int) := by
  show IntKind.i64.wrap ((BitVec.ofInt 64 a &&& BitVec.ofInt 64 b).toNat : Int) = _
  have hp : 2 ^ n ≤ 2 ^ 62 := Nat.pow_le_pow_right (by omega) hn
  have hx : a &&& b < 2 ^ n := Nat.and_lt_two_pow _ hb
  rw [BitVec.toNat_and, BitVec.toNat_ofInt, BitVec.toNat_ofInt, IntKind.wrap_i64]
  have e1 : ((a : Int) % ((2 ^ 64 : Nat) : Int)).toNat = a := by omega
  have e2 : ((b : Int) % ((2 ^ 64 : Nat) : Int)).toNat = b := by omega
  rw [e1, e2]
  omega
theorem pow_cast (d : Nat) : (2 : Int) ^ d = ((2 ^ d : Nat) : Int) := by rw [Int.natCast_pow]; rfl
/-- a shifted number that stays small -/
theorem shl64 (v d n : Nat) (h : v * 2 ^ d < 2 ^ n) (hn : n ≤ 62) : wrap64 ((v : Int) * 2 ^ d) = ((v * 2 ^ d : Nat) : Int) := by
  have hp : 2 ^ n ≤ 2 ^ 62 := Nat.pow_le_pow_right (by omega) hn
  rw [pow_cast, ← Int.natCast_mul]
  generalize v * 2 ^ d = x at *
  unfold wrap64
  omega
theorem shr64 (r n : Nat) : (r : Int) / (2 : Int) ^ n = ((r / 2 ^ n : Nat) : Int) := by
  rw [pow_cast, Int.natCast_ediv]

/-- the round at place n, of the code's own division -/
theorem red_round (g d n p : Nat) (h : Deg g d) (hp : p < 2 ^ (n + 1 + d)) :
    (p / 2 ^ (n + d) = 0 ∧ red g d (n + 1) p = red g d n p ∧ p < 2 ^ (n + d)) ∨ (p / 2 ^ (n + d) = 1 ∧ red g d (n + 1) p = red g d n (p ^^^ (g * 2 ^ n)) ∧ p ^^^ (g * 2 ^ n) < 2 ^ (n + d)) := by
  have h1 := shift_test p (n + d) (by rw [show n + d + 1 = n + 1 + d by omega]; exact hp)
  have h2 := step_lt h n p hp
  simp only [red]
  rw [Nat.shiftLeft_eq] at h2 ⊢
  cases hb : p.testBit (n + d)
  · left
    rw [hb] at h1 h2
    exact ⟨h1, rfl, h2⟩
  · right
    rw [hb] at h1 h2
    exact ⟨h1, rfl, h2⟩
set_option maxRecDepth 100000 in
theorem codeword_any (k g d v : Nat) (h : Deg g d) (hd : d ≤ 18) (hk1 : 1 ≤ k) (hk : k ≤ 12) (hv : v < 2 ^ k) (w : World) :
    Calls Try.prog 30 #[.agg #[.int .i64 (k : Int), .int .i64 (g : Int)], .int .i64 (v : Int)] w fun e w' => e = .returned (.int .i64 ((cw g d k v : Nat) : Int)) ∧ Below w.heap.size w w' := by
  have HC := Lib.hid (Co.new w k g)
  have HV := Lib.hid (shl_lt v k d hv)
  have hsh := shl64 v d (k + d) HV.out (by omega)
  obtain ⟨X, hX⟩ : ∃ X, v * 2 ^ d = X := ⟨_, rfl⟩
  rw [hX] at hsh HV
  have HR := Lib.hid (red_lt h k X HV.out)
  have HW : Hid (X + red g d k X = cw g d k v) := Lib.hid (by rw [← hX]; rfl)
  rw [← HW.out]
  have hX0 := hX
  clear HW hX
  obtain ⟨R, hRR⟩ : ∃ R, red g d k X = R := ⟨_, rfl⟩
  rw [hRR] at HR ⊢
  have HO : Hid (X ||| R = X + R) := Lib.hid (by rw [← hX0]; exact mul_or v d R HR.out)
  clear hX0
  have HQ := Lib.hid hRR
  clear hRR
  go_enter Try.func30, Try.ntmps30
  go_wp2_with fail
  refine (degree_any _ g d h hd _).mono ?_
  rintro e w1 ⟨rfl, hb1⟩
  have hc1 := HC.out.next hb1
  have hB1 := below_step (below_new w _) hb1
  obtain ⟨c1, c2⟩ := hc1.cells
  go_wp2_with fail
  rw [hsh]
  go_loopw [5, 6] (fun rest i wr => ∃ j r : Nat, j ≤ k ∧ rest = .int .i64 (r : Int) ∧ i = .int .i64 ((j : Int) - 1) ∧ Hid (red g d j r = R ∧ r < 2 ^ (j + d)) ∧ Co wr w.heap.size k g ∧ Below w.heap.size w wr) (fun _ i _ => (intOf i + 1).toNat)
  case atStart => exact ⟨k, X, Nat.le_refl _, rfl, rfl, Lib.hid ⟨HQ.out, HV.out⟩, hc1, hB1⟩
  case round =>
    obtain ⟨j, r, hj, rfl, rfl, hr, hco, hbel⟩ := hrel
    clear c1 c2 hc1 hB1
    obtain ⟨c1, c2⟩ := hco.cells
    cases j with
    | zero =>
      obtain rfl : r = R := hr.out.1
      go_wp2_with fail
      refine (degree_any _ g d h hd _).mono ?_
      rintro e w2 ⟨rfl, hb2⟩
      have hB2 := below_step hbel hb2
      go_wp2_with fail
      go_ret
      refine ⟨retI ?_, hB2⟩
      have h2 : Hid (r < 2 ^ d) := HR
      have hX : X < 2 ^ 30 := Nat.lt_of_lt_of_le HV.out (Nat.pow_le_pow_right (by omega) (by omega))
      have hr30 : r < 2 ^ 30 := Nat.lt_of_lt_of_le HR.out (Nat.pow_le_pow_right (by omega) (by omega))
      rw [i64_or X r 30 hX hr30 (by omega), HO.out]
    | succ j =>
      have hjk : ((j + 1 : Nat) : Int) - 1 = (j : Int) := by omega
      rw [hjk]
      go_wp2_with fail
      refine (degree_any _ g d h hd _).mono ?_
      rintro e w2 ⟨rfl, hb2⟩
      have hco2 := hco.next hb2
      have hB2 := below_step hbel hb2
      clear c1 c2
      obtain ⟨c1, c2⟩ := hco2.cells
      have hsr := shr64 r (j + d)
      rcases red_round g d j r h hr.out.2 with ⟨q1, q2, q3⟩ | ⟨q1, q2, q3⟩
      · rw [q1] at hsr
        go_wp2_with fail
        go_roundw
        case rel => exact ⟨j, r, by omega, rfl, rfl, Lib.hid ⟨q2 ▸ hr.out.1, q3⟩, hco2, hB2⟩
        case measure => simp [intOf]
      · rw [q1] at hsr
        go_wp2_with fail
        have hg : g * 2 ^ j < 2 ^ (j + 1 + d) := by
          have := shl_lt g (d + 1) j h.2
          rwa [show d + 1 + j = j + 1 + d by omega] at this
        have hx := i64_xor r (g * 2 ^ j) (j + 1 + d) hr.out.2 hg (by omega)
        have hx2 := shl64 g j (j + 1 + d) hg (by omega)
        go_roundw
        case rel => exact ⟨j, r ^^^ (g * 2 ^ j), by omega, valI (by rw [hx2, hx]), rfl, Lib.hid ⟨q2 ▸ hr.out.1, q3⟩, hco2, hB2⟩
        case measure => simp [intOf]
end Go.Proofs.Ytnkoenohngkcmaa
