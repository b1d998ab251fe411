/- Contracts of package bch: ParseFormat, ParseVersion. -/
import Derived.Test.YtnkoenohngkcmaaW6
set_option linter.unusedVariables false
namespace Go.Proofs.Ytnkoenohngkcmaa
open Go.RowKit

/-- exclusive or with a small number -/
theorem xor_small (word : Int) (c n : Nat) (hc : c < 2 ^ n) (hn : n ≤ 62) (h1 : -9223372036854775808 ≤ word) (h2 : word ≤ 9223372036854775807) :
    (word < 0 → Go.bits .xor .i64 word (c : Int) < 0) ∧ (((2 ^ n : Nat) : Int) ≤ word → ((2 ^ n : Nat) : Int) ≤ Go.bits .xor .i64 word (c : Int)) := by
  have hp : 2 ^ n ≤ 2 ^ 62 := Nat.pow_le_pow_right (by omega) hn
  have hpos : 0 < 2 ^ n := Nat.pow_pos (by omega)
  have hb : Go.bits .xor .i64 word (c : Int) = IntKind.i64.wrap (((word % 18446744073709551616).toNat ^^^ c : Nat) : Int) := by
    show IntKind.i64.wrap ((BitVec.ofInt 64 word ^^^ BitVec.ofInt 64 c).toNat : Int) = _
    rw [BitVec.toNat_xor, BitVec.toNat_ofInt, BitVec.toNat_ofInt]
    have e2 : ((c : Int) % ((2 ^ 64 : Nat) : Int)).toNat = c := by omega
    rw [e2]
    rfl
  rw [hb, IntKind.wrap_i64]
  obtain ⟨a, ha⟩ : ∃ a, (word % 18446744073709551616).toNat = a := ⟨_, rfl⟩
  rw [ha]
  have hd : (a ^^^ c) / 2 ^ n = a / 2 ^ n := by
    rw [Nat.xor_div_two_pow, Nat.div_eq_of_lt hc, Nat.xor_zero]
  have hlt : a ^^^ c < 2 ^ 64 := Nat.xor_lt_two_pow (by omega) (by omega)
  obtain ⟨x, hx⟩ : ∃ x, a ^^^ c = x := ⟨_, rfl⟩
  rw [hx] at hd hlt ⊢
  clear hx hb
  have hma := Nat.div_add_mod a (2 ^ n)
  have hmx := Nat.div_add_mod x (2 ^ n)
  have hla := Nat.mod_lt a hpos
  have hlx := Nat.mod_lt x hpos
  rw [hd] at hmx
  constructor
  · intro h0
    have ha2 : 9223372036854775808 ≤ a := by omega
    have hs : 9223372036854775808 ≤ x := by
      have hsp : 2 ^ 63 = 2 ^ n * 2 ^ (63 - n) := by rw [← Nat.pow_add]; congr 1; omega
      have h5 : 2 ^ (63 - n) ≤ a / 2 ^ n := by
        rw [Nat.le_div_iff_mul_le hpos, Nat.mul_comm, ← hsp]; exact ha2
      have h6 := Nat.mul_le_mul_left (2 ^ n) h5
      rw [← hsp] at h6
      omega
    omega
  · intro h0
    have ha2 : (a : Int) = word := by omega
    have h5 : 1 ≤ a / 2 ^ n := by
      rw [Nat.le_div_iff_mul_le hpos]; omega
    have h6 := Nat.mul_le_mul_left (2 ^ n) h5
    have hs : x < 9223372036854775808 := by
      have hsp : 2 ^ 63 = 2 ^ n * 2 ^ (63 - n) := by rw [← Nat.pow_add]; congr 1; omega
      have h7 : a / 2 ^ n < 2 ^ (63 - n) := by
        rw [Nat.div_lt_iff_lt_mul hpos, Nat.mul_comm, ← hsp]; omega
      have h8 : 2 ^ n * (a / 2 ^ n + 1) ≤ 2 ^ n * 2 ^ (63 - n) := Nat.mul_le_mul_left _ h7
      rw [← hsp, Nat.mul_add] at h8
      omega
    omega

/-- what parse returns -/
def parV (g d k word L : Nat) : Option Nat → Value
  | some v => .tuple #[.int .i64 (v : Int), .int .i64 ((wt (word ^^^ cw g d k v) : Nat) : Int), .int .i64 0]
  | none => .tuple #[.int .i64 0, .int .i64 0, .int .i64 21]
set_option maxRecDepth 100000 in
theorem parse_out (word : Int) (k g d : Nat) (h : OkC k g) (hd : Deg g d) (hd18 : d ≤ 18) (hv : word < 0 ∨ ((2 ^ (k + d) : Nat) : Int) ≤ word) (w : World) : Calls Try.prog 41 #[.int .i64 word, .int .i64 (k : Int), .int .i64 (g : Int)] w fun e w' => e = .returned (.tuple #[.int .i64 0, .int .i64 0, .int .i64 3]) ∧ Below w.heap.size w w' := by
  have HD := decode_out word k g d h hd hd18 hv
  clear hv
  go_enter Try.func41, Try.ntmps41
  go_wp2_with fail
  refine (HD _).mono ?_
  rintro e w1 ⟨rfl, hb1⟩
  go_wp2
  exact bodyPost_ret (v := .tuple #[.int .i64 0, .int .i64 0, .int .i64 3]) (by simp [results, Try.results41, go_sem]) rfl ⟨rfl, hb1⟩
set_option maxRecDepth 100000 in
theorem parse_ok (word k g d L : Nat) (h : OkC k g) (hd : Deg g d) (hd18 : d ≤ 18) (hd1 : 1 ≤ d) (hL : (dist g d k - 1) / 2 = L) (hv : word < 2 ^ (k + d)) (w : World) : Calls Try.prog 41 #[.int .i64 (word : Int), .int .i64 (k : Int), .int .i64 (g : Int)] w fun e w' =>
    e = .returned (parV g d k word L (near g d k word L (2 ^ k) 0)) ∧ Below w.heap.size w w' := by
  have HD := decode_ok word k g d h hd hd18 hd1 hv
  rw [hL] at HD
  clear hL hv
  obtain ⟨R, hR⟩ : ∃ R, near g d k word L (2 ^ k) 0 = R := ⟨_, rfl⟩
  rw [hR] at HD ⊢
  clear hR
  rcases R with _ | v <;> simp only [decV, parV] at HD ⊢
  · go_enter Try.func41, Try.ntmps41
    go_wp2_with fail
    refine (HD _).mono ?_
    rintro e w1 ⟨rfl, hb1⟩
    go_wp2
    exact bodyPost_ret (v := .tuple #[.int .i64 0, .int .i64 0, .int .i64 21]) (by simp [results, Try.results41, go_sem]) rfl ⟨rfl, hb1⟩
  · go_enter Try.func41, Try.ntmps41
    go_wp2_with fail
    refine (HD _).mono ?_
    rintro e w1 ⟨rfl, hb1⟩
    go_wp2
    exact bodyPost_ret (v := .tuple #[.int .i64 (v : Int), .int .i64 ((wt (word ^^^ cw g d k v) : Nat) : Int), .int .i64 0]) (by simp [results, Try.results41, go_sem]) rfl ⟨rfl, hb1⟩

/-- the level of a number -/
def lvOf (b : Nat) : Int := if b = 0 then 2 else if b = 1 then 1 else if b = 2 then 4 else 3
theorem Lv.at_ {w : World} {b : Nat} (h : Lv w b) (i : Nat) (hi : i < 4) : w.cell? ⟨b, i, none⟩ = some (.int .i64 (lvOf i)) := by
  rcases (show i = 0 ∨ i = 1 ∨ i = 2 ∨ i = 3 by omega) with rfl | rfl | rfl | rfl
  · exact h.c0
  · exact h.c1
  · exact h.c2
  · exact h.c3
/-- what ParseFormat returns -/
def pfV (word : Nat) : Option Nat → Value
  | some v => .tuple #[.int .i64 (lvOf (v / 8)), .int .i64 ((v % 8 : Nat) : Int), .int .i64 ((wt (word ^^^ cw 1335 10 5 v) : Nat) : Int), .int .i64 0]
  | none => .tuple #[.int .i64 0, .int .i64 0, .int .i64 0, .int .i64 21]
set_option maxRecDepth 100000 in
theorem parseFormat_out (word : Int) (h1 : -9223372036854775808 ≤ word) (h2 : word ≤ 9223372036854775807) (h : word < 0 ∨ 32768 ≤ word) (w : World) : Calls Try.prog 20 #[.int .i64 word] w fun e w' =>
    e = .returned (.tuple #[.int .i64 0, .int .i64 0, .int .i64 0, .int .i64 3]) ∧ Below w.heap.size w w' := by
  have hx := xor_small word 21522 15 (by omega) (by omega) h1 h2
  obtain ⟨X, hX⟩ : ∃ X, bits BinOp.xor IntKind.i64 word ((21522 : Nat) : Int) = X := ⟨_, rfl⟩
  rw [hX] at hx
  have hX2 : bits BinOp.xor IntKind.i64 word 21522 = X := hX
  clear hX
  have hx2 : X < 0 ∨ ((2 ^ (5 + 10) : Nat) : Int) ≤ X := by
    rcases h with h | h
    · exact Or.inl (hx.1 h)
    · exact Or.inr (hx.2 h)
  have HD := parse_out X 5 1335 10 okF degF (by omega) hx2
  clear hx hx2 h
  go_enter Try.func20, Try.ntmps20
  go_wp2_with fail
  refine (HD _).mono ?_
  rintro e w1 ⟨rfl, hb1⟩
  go_wp2
  exact bodyPost_ret (v := .tuple #[.int .i64 0, .int .i64 0, .int .i64 0, .int .i64 3]) (by simp [results, Try.results20, go_sem]) rfl ⟨rfl, hb1⟩
theorem near_lt {g d k word L n v u : Nat} (h : near g d k word L n v = some u) : u < v + n := (first_some _ _ _ _ h).2.2
set_option maxRecDepth 100000 in
theorem parseFormat_ok (word : Nat) (h : word < 32768) (w : World) : Calls Try.prog 20 #[.int .i64 (word : Int)] w fun e w' =>
    e = .returned (pfV (word ^^^ 21522) (near 1335 10 5 (word ^^^ 21522) 3 32 0)) ∧ Below w.heap.size w w' := by
  have hx := i64_xor word 21522 15 h (by omega) (by omega)
  have hlt : word ^^^ 21522 < 2 ^ 15 := Nat.xor_lt_two_pow h (by omega)
  obtain ⟨X, hX⟩ : ∃ X, word ^^^ 21522 = X := ⟨_, rfl⟩
  rw [hX] at hx hlt ⊢
  clear hX
  have hX2 : bits BinOp.xor IntKind.i64 (word : Int) 21522 = (X : Int) := hx
  clear hx
  have HD := parse_ok X 5 1335 10 3 okF degF (by omega) (by omega) (by rw [distF]) hlt
  obtain ⟨R, hR⟩ : ∃ R, near 1335 10 5 X 3 (2 ^ 5) 0 = R := ⟨_, rfl⟩
  have hR2 : near 1335 10 5 X 3 32 0 = R := hR
  rw [hR] at HD
  rw [hR2]
  rcases R with _ | v
  · simp only [parV, pfV] at HD ⊢
    clear hR hR2 hlt
    go_enter Try.func20, Try.ntmps20
    go_wp2_with fail
    refine (HD _).mono ?_
    rintro e w1 ⟨rfl, hb1⟩
    go_wp2
    exact bodyPost_ret (v := .tuple #[.int .i64 0, .int .i64 0, .int .i64 0, .int .i64 21]) (by simp [results, Try.results20, go_sem]) rfl ⟨rfl, hb1⟩
  · have hv := near_lt hR2
    simp only [parV, pfV] at HD ⊢
    clear hR hR2 hlt
    obtain ⟨t, ht⟩ : ∃ t : Nat, wt (X ^^^ cw 1335 10 5 v) = t := ⟨_, rfl⟩
    rw [ht] at HD ⊢
    clear ht
    obtain ⟨q, hq⟩ : ∃ q : Nat, v / 8 = q := ⟨_, rfl⟩
    obtain ⟨r, hr⟩ : ∃ r : Nat, v % 8 = r := ⟨_, rfl⟩
    rw [hq, hr]
    have hq4 : q < 4 := by omega
    have hq1 : (v : Int) / 8 = (q : Int) := by omega
    have hr1 : (v : Int) % 8 = (r : Int) := by omega
    have hq5 : (q : Int) < 4 := by omega
    have hq6 : (0 : Int) ≤ (q : Int) := by omega
    clear hq hr
    go_enter Try.func20, Try.ntmps20
    go_wp2_with fail
    refine (HD _).mono ?_
    rintro e w1 ⟨rfl, hb1⟩
    go_wp2_with fail
    refine (levels_any _).mono ?_
    rintro e w2 ⟨rfl, hl, hb2⟩
    have hc := hl.at_ q hq4
    go_wp2
    exact bodyPost_ret (v := .tuple #[.int .i64 (lvOf q), .int .i64 (r : Int), .int .i64 (t : Int), .int .i64 0]) (by simp [results, Try.results20, go_sem, hr1]) rfl ⟨rfl, below_step hb1 hb2⟩

/-- what ParseVersion returns -/
def pvV (word : Nat) : Option Nat → Value
  | some v => if 7 ≤ v ∧ v ≤ 40 then .tuple #[.int .i64 (v : Int), .int .i64 ((wt (word ^^^ cw 7973 12 6 v) : Nat) : Int), .int .i64 0] else .tuple #[.int .i64 0, .int .i64 0, .int .i64 14]
  | none => .tuple #[.int .i64 0, .int .i64 0, .int .i64 21]
set_option maxRecDepth 100000 in
theorem parseVersion_out (word : Int) (h : word < 0 ∨ 262144 ≤ word) (w : World) : Calls Try.prog 24 #[.int .i64 word] w fun e w' =>
    e = .returned (.tuple #[.int .i64 0, .int .i64 0, .int .i64 3]) ∧ Below w.heap.size w w' := by
  have HD := parse_out word 6 7973 12 okV degV (by omega) h
  clear h
  go_enter Try.func24, Try.ntmps24
  go_wp2_with fail
  refine (HD _).mono ?_
  rintro e w1 ⟨rfl, hb1⟩
  go_wp2
  exact bodyPost_ret (v := .tuple #[.int .i64 0, .int .i64 0, .int .i64 3]) (by simp [results, Try.results24, go_sem]) rfl ⟨rfl, hb1⟩
set_option maxRecDepth 100000 in
theorem parseVersion_ok (word : Nat) (h : word < 262144) (w : World) : Calls Try.prog 24 #[.int .i64 (word : Int)] w fun e w' =>
    e = .returned (pvV word (near 7973 12 6 word 3 64 0)) ∧ Below w.heap.size w w' := by
  have HD := parse_ok word 6 7973 12 3 okV degV (by omega) (by omega) (by rw [distV]) h
  obtain ⟨R, hR⟩ : ∃ R, near 7973 12 6 word 3 (2 ^ 6) 0 = R := ⟨_, rfl⟩
  have hR2 : near 7973 12 6 word 3 64 0 = R := hR
  rw [hR] at HD
  rw [hR2]
  rcases R with _ | v
  · simp only [parV, pvV] at HD ⊢
    clear hR hR2
    go_enter Try.func24, Try.ntmps24
    go_wp2_with fail
    refine (HD _).mono ?_
    rintro e w1 ⟨rfl, hb1⟩
    go_wp2
    exact bodyPost_ret (v := .tuple #[.int .i64 0, .int .i64 0, .int .i64 21]) (by simp [results, Try.results24, go_sem]) rfl ⟨rfl, hb1⟩
  · simp only [parV, pvV] at HD ⊢
    clear hR hR2
    obtain ⟨t, ht⟩ : ∃ t : Nat, wt (word ^^^ cw 7973 12 6 v) = t := ⟨_, rfl⟩
    rw [ht] at HD ⊢
    clear ht
    by_cases hv : 7 ≤ v ∧ v ≤ 40
    · rw [if_pos hv]
      obtain ⟨hv1, hv2⟩ := hv
      go_enter Try.func24, Try.ntmps24
      go_wp2_with fail
      refine (HD _).mono ?_
      rintro e w1 ⟨rfl, hb1⟩
      go_wp2_with fail
      refine (isVersion_yes v (by omega) (by omega) _).mono ?_
      rintro e w2 ⟨rfl, rfl⟩
      go_wp2
      exact bodyPost_ret (v := .tuple #[.int .i64 (v : Int), .int .i64 (t : Int), .int .i64 0]) (by simp [results, Try.results24, go_sem]) rfl ⟨rfl, hb1⟩
    · rw [if_neg hv]
      have HV := Lib.hid (show (v : Int) < 7 ∨ 40 < (v : Int) by omega)
      clear hv
      go_enter Try.func24, Try.ntmps24
      go_wp2_with fail
      refine (HD _).mono ?_
      rintro e w1 ⟨rfl, hb1⟩
      go_wp2_with fail
      refine (isVersion_no v HV.out _).mono ?_
      rintro e w2 ⟨rfl, rfl⟩
      go_wp2
      exact bodyPost_ret (v := .tuple #[.int .i64 0, .int .i64 0, .int .i64 14]) (by simp [results, Try.results24, go_sem]) rfl ⟨rfl, hb1⟩
end Go.Proofs.Ytnkoenohngkcmaa
