/- Contracts of package bch: the count of ones, the minimum distance. -/
import Derived.Test.YtnkoenohngkcmaaW1
import Derived.Deep.RegionHeld3
namespace Go.Proofs.Ytnkoenohngkcmaa
open Go.RowKit

theorem bmod64 (x : Nat) (h : x < 18446744073709551616) : (x : Int) % 18446744073709551616 = (x : Int) := by omega
set_option maxRecDepth 100000 in
theorem ones64_any (x : Nat) (hx : x < 4294967296) (w : World) : Calls Try.prog 47 #[.int .u64 (x : Int)] w fun e w' => e = .returned (.int .i64 ((wt x : Nat) : Int)) ∧ w = w' := by
  go_enter Try.func47, Try.ntmps47
  go_wp2
  go_ret
  refine ⟨retI ?_, rfl⟩
  obtain ⟨y, hy, h0, h1, h2⟩ := pop_all x hx
  have hsm : ∀ a b : Nat, a + b < 18446744073709551616 → IntKind.u64.wrap ((a : Int) + (b : Int)) = ((a + b : Nat) : Int) := by
    intro a b h
    rw [IntKind.wrap_u64]; omega
  have hdv : ∀ a n : Nat, (a : Int) / (n : Int) = ((a / n : Nat) : Int) := fun a n => (Int.natCast_ediv a n).symm
  have hle : ∀ a b : Nat, a &&& b ≤ a := fun a b => Nat.and_le_left
  have e1 : (x : Int) / 2 = ((x / 2 : Nat) : Int) := hdv x 2
  have a1 : bits BinOp.and IntKind.u64 ((x / 2 : Nat) : Int) 6148914691236517205 = ((x / 2 &&& 6148914691236517205 : Nat) : Int) := u64_and_nat _ 6148914691236517205 (by omega) (by decide)
  have a2 : bits BinOp.and IntKind.u64 (x : Int) 6148914691236517205 = ((x &&& 6148914691236517205 : Nat) : Int) := u64_and_nat _ 6148914691236517205 (by omega) (by decide)
  have l1 := hle (x / 2) 6148914691236517205
  have l2 := hle x 6148914691236517205
  have s1 : IntKind.u64.wrap (((x / 2 &&& 6148914691236517205 : Nat) : Int) + ((x &&& 6148914691236517205 : Nat) : Int)) = ((f1 6148914691236517205 x : Nat) : Int) := hsm _ _ (by omega)
  rw [e1, a1, a2, s1]
  have hA : f1 6148914691236517205 x < 17179869184 := by unfold f1; omega
  clear e1 a1 a2 s1 l1 l2
  generalize f1 6148914691236517205 x = A at *
  have e1 : (A : Int) / 4 = ((A / 4 : Nat) : Int) := hdv A 4
  have a1 : bits BinOp.and IntKind.u64 ((A / 4 : Nat) : Int) 3689348814741910323 = ((A / 4 &&& 3689348814741910323 : Nat) : Int) := u64_and_nat _ 3689348814741910323 (by omega) (by decide)
  have a2 : bits BinOp.and IntKind.u64 (A : Int) 3689348814741910323 = ((A &&& 3689348814741910323 : Nat) : Int) := u64_and_nat _ 3689348814741910323 (by omega) (by decide)
  have l1 := hle (A / 4) 3689348814741910323
  have l2 := hle A 3689348814741910323
  have s1 : IntKind.u64.wrap (((A / 4 &&& 3689348814741910323 : Nat) : Int) + ((A &&& 3689348814741910323 : Nat) : Int)) = ((f2 3689348814741910323 A : Nat) : Int) := hsm _ _ (by omega)
  rw [e1, a1, a2, s1]
  have hB : f2 3689348814741910323 A < 68719476736 := by unfold f2; omega
  clear e1 a1 a2 s1 l1 l2
  generalize f2 3689348814741910323 A = B at *
  have e1 : (B : Int) / 16 = ((B / 16 : Nat) : Int) := hdv B 16
  have s1 : IntKind.u64.wrap (((B / 16 : Nat) : Int) + (B : Int)) = ((B / 16 + B : Nat) : Int) := hsm _ _ (by omega)
  have a1 : bits BinOp.and IntKind.u64 ((B / 16 + B : Nat) : Int) 1085102592571150095 = ((f3 1085102592571150095 B : Nat) : Int) := u64_and_nat _ 1085102592571150095 (by omega) (by decide)
  rw [e1, s1, a1, hy]
  clear e1 a1 s1 hy hA hB
  have e1 : (y : Int) / 256 = ((y / 256 : Nat) : Int) := hdv y 256
  have s1 : IntKind.u64.wrap ((y : Int) + ((y / 256 : Nat) : Int)) = ((y + y / 256 : Nat) : Int) := hsm _ _ (by omega)
  rw [e1, s1]
  have hE : y + y / 256 < 8589934592 := by omega
  generalize y + y / 256 = E at *
  clear e1 s1
  have e1 : (E : Int) / 65536 = ((E / 65536 : Nat) : Int) := hdv E 65536
  have s1 : IntKind.u64.wrap ((E : Int) + ((E / 65536 : Nat) : Int)) = ((E + E / 65536 : Nat) : Int) := hsm _ _ (by omega)
  rw [e1, s1]
  have hF : E + E / 65536 < 17179869184 := by omega
  generalize E + E / 65536 = F at *
  clear e1 s1
  have e1 : (F : Int) / 4294967296 = ((F / 4294967296 : Nat) : Int) := hdv F 4294967296
  have s1 : IntKind.u64.wrap ((F : Int) + ((F / 4294967296 : Nat) : Int)) = ((F + F / 4294967296 : Nat) : Int) := hsm _ _ (by omega)
  rw [e1, s1]
  have hG : F + F / 4294967296 < 34359738368 := by omega
  generalize F + F / 4294967296 = G at *
  have w1 : wrap64 (G : Int) = (G : Int) := by unfold wrap64; omega
  rw [w1]
  have := i64_and G 127 40 (by omega) (by omega) (by omega)
  have h127 : G &&& 127 = G % 128 := Nat.and_two_pow_sub_one_eq_mod G 7
  rw [h127, h2] at this
  exact this
theorem ones_any (x : Nat) (hx : x < 4294967296) (w : World) : Calls Try.prog 44 #[.int .u64 (x : Int)] w fun e w' => e = .returned (.int .i64 ((wt x : Nat) : Int)) ∧ w = w' := by
  go_enter Try.func44, Try.ntmps44
  go_wp2_with fail
  refine (ones64_any x hx _).mono ?_
  rintro e w' ⟨rfl, rfl⟩
  go_wp2
  go_ret
  exact ⟨rfl, rfl⟩
theorem two_cells {w : World} {g : Nat} {k gen : Int} (h : Co w g k gen) : w.cell? ⟨g, 0, none⟩ = some (.int .i64 k) ∧ w.cell? ⟨g, 1, none⟩ = some (.int .i64 gen) := h.cells
set_option maxRecDepth 100000 in
theorem distance_any (k g d : Nat) (h : Deg g d) (hd : d ≤ 18) (hk1 : 1 ≤ k) (hk : k ≤ 12) (w : World) :
    Calls Try.prog 34 #[.agg #[.int .i64 (k : Int), .int .i64 (g : Int)]] w fun e w' => e = .returned (.int .i64 ((dist g d k : Nat) : Int)) ∧ Below w.heap.size w w' := by
  have HC := (Co.new w k g).drew
  have HB := (below_new w (.cells #[.int .i64 (k : Int), .int .i64 (g : Int)] 46)).drew
  obtain ⟨c1, c2⟩ := HC.cells
  go_enter Try.func34, Try.ntmps34
  go_wp2
  go_region_held3 (fun W => W.cell? ⟨w.heap.size, 0, none⟩ = some (.int .i64 (k : Int)) ∧ W.cell? ⟨w.heap.size, 1, none⟩ = some (.int .i64 (g : Int)))
    (first | (with_reducible exact HC.cells) | (with_reducible exact HC1.cells))
    (first
    | (go_at_call 36; (with_reducible refine (degree_any _ g d h hd _).mono ?_); rintro e wd ⟨rfl, hbd⟩; have HC1 := HC.next hbd; have HB1 := below_step HB hbd; clear HC hbd c1 c2 HB; obtain ⟨c1, c2⟩ := HC1.cells))
  go_wp2
  have hkd : IntKind.i64.wrap ((k : Int) + (d : Int)) = ((k + d : Nat) : Int) := by rw [IntKind.wrap_i64]; omega
  have HT := Lib.hid hkd
  clear hkd
  generalize IntKind.i64.wrap ((k : Int) + (d : Int)) = T at *
  have HP := Lib.hid (pow2_le k hk1)
  obtain ⟨M, hM⟩ : ∃ M : Nat, 2 ^ k < M ∧ M ≤ 4097 := ⟨2 ^ k + 1, by omega, by have := pow_le_12 k hk; omega⟩
  have HM := Lib.hid hM
  clear hM
  go_loopw [3, 4] (fun least v wr => ∃ n m : Nat, v = .int .i64 (n : Int) ∧ least = .int .i64 (m : Int) ∧ Hid (1 ≤ n ∧ n ≤ 2 ^ k ∧ Go.Proofs.Ytnkoenohngkcmaa.least (fun v => wt (cw g d k v)) (k + d) n = m) ∧ Co wr w.heap.size k g ∧ Below w.heap.size w wr) (fun _ v _ => M - (intOf v).toNat)
  case atStart => exact ⟨1, k + d, rfl, valI HT.out, Lib.hid ⟨by omega, by have := HP.out; omega, rfl⟩, HC1, HB1⟩
  case round =>
    obtain ⟨n, m, rfl, rfl, hn, hco, hbel⟩ := hrel
    clear c1 c2 HC1 HB1
    obtain ⟨c1, c2⟩ := hco.cells
    go_wp2_with fail
    refine (count_any k g hk _).mono ?_
    rintro e w1 ⟨rfl, hb1⟩
    have hco1 := hco.next hb1
    have hB1 := below_step hbel hb1
    clear c1 c2
    obtain ⟨c1, c2⟩ := hco1.cells
    by_cases hlt : n < 2 ^ k
    · obtain ⟨N, hN⟩ : ∃ N : Nat, N = 2 ^ k := ⟨_, rfl⟩
      have HL := Lib.hid hlt
      have HN := Lib.hid hN
      rw [← hN] at hlt ⊢
      clear hN
      have hnb : n < 4097 := by have := HL.out; have := HM.out; omega
      have HW := Lib.hid (cw_lt h k n HL.out)
      have HW30 := Lib.hid (Nat.lt_of_lt_of_le HW.out (Nat.pow_le_pow_right (n := 2) (by omega) (show k + d ≤ 30 by omega)))
      go_wp2_with fail
      refine (codeword_any k g d n h hd hk1 hk HL.out _).mono ?_
      rintro e w2 ⟨rfl, hb2⟩
      have hco2 := hco1.next hb2
      have hB2 := below_step hB1 hb2
      clear c1 c2
      obtain ⟨c1, c2⟩ := hco2.cells
      have hcw := HW30.out
      go_wp2_with fail
      refine (ones_any (cw g d k n) (by omega) _).mono ?_
      rintro e w' ⟨rfl, rfl⟩
      go_wp2
      have h1 := hn.out
      have h2 := HL.out
      go_roundw
      case rel => exact ⟨n + 1, min m (wt (cw g d k n)), by go_num, valI (by omega), Lib.hid ⟨by omega, by omega, by rw [least_succ _ _ _ h1.1, h1.2.2]⟩, hco2, hB2⟩
      case measure =>
        have h3 := HM.out
        simp [intOf]; omega
    · obtain ⟨N, hN⟩ : ∃ N : Nat, N = 2 ^ k := ⟨_, rfl⟩
      have HL := Lib.hid hlt
      have HN := Lib.hid hN
      rw [← hN] at hlt ⊢
      clear hN
      go_wp2
      go_ret
      refine ⟨retI ?_, hB1⟩
      have h1 := hn.out
      have h2 := HL.out
      obtain rfl : n = 2 ^ k := by omega
      rw [← h1.2.2]
      rfl
end Go.Proofs.Ytnkoenohngkcmaa
