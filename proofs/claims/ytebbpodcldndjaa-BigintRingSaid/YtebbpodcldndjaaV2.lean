/- Contracts: power. -/
import Derived.Test.YtebbpodcldndjaaV1
set_option linter.unusedVariables false
namespace Go.Proofs.Ytebbpodcldndjaa
open Go.RowKit

/-- what a power of magnitudes returns -/
def powS (v k : Nat) : Nat × Int := if (enc (v ^ k)).length ≤ 512 then (v ^ k, 0) else (0, 4)
/-- a call that returns a magnitude and an error number -/
def GiveM (v : Nat) (err : Int) (w : World) (e : Ending) (w' : World) : Prop :=
  ∃ A c, e = .returned (.tuple #[.slice A (enc v).length c, .int .i64 err]) ∧ Sl w' w'.heap.size A (enc v).length c (ml (enc v)) ∧ Below w.heap.size w w'

theorem bitLen_spec (k : Nat) (h : k < 18446744073709551616) : k < 2 ^ Lib.bitLen k ∧ Lib.bitLen k ≤ 64 := by
  have aux : ∀ (f x : Nat), x < 2 ^ f → x < 2 ^ Lib.bitLenAux f x ∧ Lib.bitLenAux f x ≤ f := by
    intro f
    induction f with
    | zero => intro x hx; simp [Lib.bitLenAux] at *; omega
    | succ f ih =>
      intro x hx
      rw [Lib.bitLenAux]
      by_cases h0 : x = 0
      · subst h0; simp
      · rw [if_neg h0]
        have := ih (x / 2) (by rw [Nat.pow_succ] at hx; omega)
        rw [Nat.add_comm 1, Nat.pow_succ]
        omega
  exact aux 64 k (by simpa using h)
theorem shr_step (k j : Nat) : k / 2 ^ j = 2 * (k / 2 ^ (j + 1)) + k / 2 ^ j % 2 := by
  rw [Nat.pow_succ, ← Nat.div_div_eq_div_mul]; omega
theorem pow_le_of {v i k : Nat} (hv : 2 ≤ v) (h : i ≤ k) : v ^ i ≤ v ^ k := Nat.pow_le_pow_right (by omega) h
theorem length_le_of {a b k : Nat} (h : a ≤ b) (hb : (enc b).length ≤ k) : (enc a).length ≤ k := by
  rw [length_enc_le] at hb ⊢; omega
theorem length_mul (a b k m : Nat) (ha : (enc a).length ≤ k) (hb : (enc b).length ≤ m) : (enc (a * b)).length ≤ k + m := by
  refine (length_enc_le _ _).2 ?_
  have h1 := (length_enc_le a k).1 ha
  have h2 := (length_enc_le b m).1 hb
  rw [Nat.pow_add]
  exact Nat.mul_lt_mul'' h1 h2
theorem and_one (y : Int) : (bits BinOp.and IntKind.i64 y 1 == 1) = decide (y % 2 = 1) := by
  have h : bits BinOp.and IntKind.i64 y 1 = y % 2 := by
    show IntKind.i64.wrap ((BitVec.ofInt 64 y &&& BitVec.ofInt 64 1).toNat : Int) = _
    rw [BitVec.toNat_and, show (BitVec.ofInt 64 1).toNat = 1 from rfl, Nat.and_one_is_mod, BitVec.toNat_ofInt, IntKind.wrap_i64]
    omega
  rw [h]
  by_cases h1 : y % 2 = 1 <;> simp [h1]
theorem and_bitN (k j : Nat) : (bits BinOp.and IntKind.i64 ((k : Int) / 2 ^ j) 1 == 1) = decide (k / 2 ^ j % 2 = 1) := by
  rw [and_one]
  have e : (k : Int) / 2 ^ j = ((k / 2 ^ j : Nat) : Int) := by simp
  rw [e]
  by_cases h : k / 2 ^ j % 2 = 1
  · rw [decide_eq_true h, decide_eq_true (by omega)]
  · rw [decide_eq_false h, decide_eq_false (by omega)]
theorem pow_limb (m : Nat) : (4294967296 : Nat) ^ m = 2 ^ (32 * m) := by
  rw [show (4294967296 : Nat) = 2 ^ 32 from rfl, ← Nat.pow_mul]
theorem pow_big {v k m : Nat} (hv : 2 ≤ v) (hk : 32 * m ≤ k) : m < (enc (v ^ k)).length := by
  rcases Nat.lt_or_ge m (enc (v ^ k)).length with h | h
  · exact h
  exfalso
  have h1 := (length_enc_le _ m).1 h
  rw [pow_limb] at h1
  have h2 : (2 : Nat) ^ (32 * m) ≤ v ^ k := Nat.le_trans (Nat.pow_le_pow_right (by omega) hk) (Nat.pow_le_pow_left hv k)
  exact absurd h1 (Nat.not_lt.2 h2)

set_option maxRecDepth 100000 in
set_option maxHeartbeats 4000000 in
theorem power_any (A : Option Addr) (n c v k : Nat) (w : World) (hs : Sl w w.heap.size A n c (ml (enc v))) (hn : n ≤ 512) (hv : k = 0 ∨ 2 ≤ v) (hk : k ≤ 9223372036854775807) :
    Calls Try.prog 70 #[.slice A n c, .int .i64 (k : Int)] w (GiveM (powS v k).1 (powS v k).2 w) := by
  have hl : (enc v).length = n := by rw [← length_ml]; exact hs.len
  by_cases hbig : 16384 ≤ k
  · have hr : powS v k = (0, 4) := by unfold powS; rw [if_neg (by have := pow_big (m := 512) (v := v) (k := k) (by omega) (by omega); omega)]
    rw [hr]
    go_enter Try.func70, Try.ntmps70
    go_wp2
    go_ret2
    exact ⟨none, 0, by rw [enc_zero]; rfl, by rw [enc_zero]; exact Sl.none_ _ _, Below.refl _ _⟩
  obtain ⟨m, hm⟩ : ∃ m, Lib.bitLen k = m := ⟨_, rfl⟩
  have hbl := bitLen_spec k (by omega)
  rw [hm] at hbl
  have HLen : Hid (∀ W : World, Calls Try.prog 97 #[.int .u64 (k : Int)] W fun e w' => e = .returned (.int .i64 (m : Int)) ∧ W = w') := by
    intro W
    refine (Try.bits_Len (k : Int) W (by omega) (by omega)).mono ?_
    rintro e w' ⟨rfl, rfl⟩
    rw [Int.toNat_natCast, hm]
    exact ⟨rfl, rfl⟩
  have HK0 := Lib.hid (show k / 2 ^ m = 0 from Nat.div_eq_of_lt hbl.1)
  have hm64 := hbl.2
  clear hbl hm
  obtain ⟨r1, hr1⟩ : ∃ r1, (powS v k).1 = r1 := ⟨_, rfl⟩
  obtain ⟨r2, hr2⟩ : ∃ r2, (powS v k).2 = r2 := ⟨_, rfl⟩
  have HLong : Hid (∀ u : Nat, u ≤ v ^ k → 512 < (enc u).length → r1 = 0 ∧ r2 = 4) := by
    intro u hu hlen
    have : ¬ (enc (v ^ k)).length ≤ 512 := fun h => by have := length_le_of hu h; omega
    have e : powS v k = (0, 4) := by unfold powS; rw [if_neg this]
    rw [e] at hr1 hr2
    exact ⟨hr1.symm, hr2.symm⟩
  have HFit : Hid (∀ u : Nat, u = v ^ k → (enc u).length ≤ 512 → r1 = u ∧ r2 = 0) := by
    rintro u rfl hlen
    have e : powS v k = (v ^ k, 0) := by unfold powS; rw [if_pos hlen]
    rw [e] at hr1 hr2
    exact ⟨hr1.symm, hr2.symm⟩
  have HPos : Hid (∀ j, v ^ (k / 2 ^ j) ≤ v ^ k) := by
    intro j
    rcases hv with rfl | hv
    · rw [Nat.zero_div]; exact Nat.le_refl _
    · exact pow_le_of hv (Nat.div_le_self _ _)
  rw [hr1, hr2]
  have HL := Lib.hid hl
  have hk2 : (k : Int) < 16384 := by omega
  clear hr1 hr2 hl hv hbig
  have h1 := small_new w 1
  have hb1 := below_new w (.cells #[.int .u32 ((1 : Nat) : Int)] 63)
  go_enter Try.func70, Try.ntmps70
  go_wp2_with fail
  refine (HLen.out _).mono ?_
  rintro e w1 ⟨rfl, rfl⟩
  go_wp2
  go_loopw [6, 7] (fun out i wr => ∃ (j u nn c6 : Nat) (A6 : Option Addr), j ≤ m ∧ i = .int .i64 ((j : Int) - 1) ∧ out = .slice A6 nn c6 ∧ nn ≤ 512 ∧ Hid (u = v ^ (k / 2 ^ j)) ∧ Hid ((enc u).length = nn) ∧ Sl wr wr.heap.size A6 nn c6 (ml (enc u)) ∧ Below w.heap.size w wr)
    (fun _ i _ => (intOf i + 1).toNat)
  case atStart => exact ⟨m, 1, 1, 1, _, Nat.le_refl _, rfl, rfl, by omega, Lib.hid (by rw [HK0.out]; rfl), Lib.hid (by simp [enc]), by simpa [enc] using h1, hb1⟩
  case round =>
    obtain ⟨j, u, nn, c6, A6, hj, rfl, rfl, hnn, hu, hle, hs6, hbel⟩ := hrel
    clear h1 hb1
    by_cases h0 : j = 0
    · subst h0
      have HR := Lib.hid (HFit.out u (by rw [hu.out]; simp) (by rw [hle.out]; exact hnn))
      go_wp2
      go_ret2
      rw [HR.out.1, HR.out.2]
      exact ⟨A6, c6, by rw [hle.out]; rfl, by rw [hle.out]; exact hs6, hbel⟩
    obtain ⟨j, rfl⟩ : ∃ i, j = i + 1 := ⟨j - 1, by omega⟩
    have hj1 : (((j + 1 : Nat) : Int) - 1) = (j : Int) := by omega
    rw [hj1]
    obtain ⟨u2, hu2⟩ : ∃ u2, u * u = u2 := ⟨_, rfl⟩
    have HM := Lib.hid (multiply_any A6 A6 nn c6 nn c6 (enc u) (enc u) wr hs6 hs6 (ok_enc u) (ok_enc u) (by omega) (by omega))
    rw [val_enc, hu2] at HM
    have hu2l : (enc u2).length ≤ 1024 := by rw [← hu2]; exact length_mul u u 512 512 (by rw [hle.out]; exact hnn) (by rw [hle.out]; exact hnn)
    have HU2 := Lib.hid (show u2 = v ^ (2 * (k / 2 ^ (j + 1))) by rw [← hu2, hu.out, ← Nat.pow_add]; congr 1; omega)
    have HST := Lib.hid (shr_step k j)
    clear hu2
    go_wp2_with fail
    refine HM.out.mono ?_
    rintro e w2 ⟨A7, c7, rfl, hs7, hb7⟩
    have hbel2 := below_step hbel hb7
    have hsv := ((hs.below hbel)).more hbel.size
    have hsv2 := (hsv.next hb7)
    have HB2 := below_step hbel hb7
    have hbit : k / 2 ^ j % 2 = 0 ∨ k / 2 ^ j % 2 = 1 := by omega
    rcases hbit with hbit | hbit
    · have hT : (bits BinOp.and IntKind.i64 ((k : Int) / 2 ^ j) 1 == 1) = false := by rw [and_bitN, hbit]; rfl
      have HU3 := Lib.hid (show u2 = v ^ (k / 2 ^ j) by rw [HU2.out, HST.out, hbit]; simp)
      obtain ⟨n2, hn2⟩ : ∃ n2, (enc u2).length = n2 := ⟨_, rfl⟩
      rw [hn2] at hu2l hs7 ⊢
      have HN2 := Lib.hid hn2
      clear hn2 hbit HU2 HST hs6 hu hle hbel hb7 HM hsv hsv2
      by_cases hlong : 512 < n2
      · have HR := Lib.hid (HLong.out u2 (by rw [HU3.out]; exact HPos.out j) (by rw [HN2.out]; exact hlong))
        have hlongI : (512 : Int) < (n2 : Int) := by omega
        go_wp2
        go_ret2
        rw [HR.out.1, HR.out.2]
        exact ⟨none, 0, by rw [enc_zero]; rfl, by rw [enc_zero]; exact Sl.none_ _ _, HB2⟩
      · have hlongI : (n2 : Int) ≤ 512 := by omega
        go_wp2
        go_roundw
        case rel => exact ⟨j, u2, n2, c7, A7, by omega, rfl, rfl, by omega, HU3, HN2, hs7, HB2⟩
        case measure => simp [intOf]
    · have hT : (bits BinOp.and IntKind.i64 ((k : Int) / 2 ^ j) 1 == 1) = true := by rw [and_bitN, hbit]; rfl
      obtain ⟨u3, hu3⟩ : ∃ u3, u2 * v = u3 := ⟨_, rfl⟩
      have hll := HL.out
      have hl2 : (enc u2).length ≤ 524288 := by omega
      have HM2 := Lib.hid (multiply_any A7 A _ c7 n c (enc u2) (enc v) w2 hs7 hsv2 (ok_enc u2) (ok_enc v) hl2 (by omega))
      rw [val_enc, val_enc, hu3] at HM2
      have hu3l : (enc u3).length ≤ 1536 := by rw [← hu3]; exact length_mul u2 v 1024 512 hu2l (by omega)
      have HU3 := Lib.hid (show u3 = v ^ (k / 2 ^ j) by rw [← hu3, HU2.out, HST.out, hbit]; exact (Nat.pow_succ ..).symm)
      obtain ⟨n3, hn3⟩ : ∃ n3, (enc u3).length = n3 := ⟨_, rfl⟩
      have HN3 := Lib.hid hn3
      rw [hn3] at hu3l
      clear hn3 hu3 hbit HU2 HST hs6 hu hle hbel hb7 HM hsv hll
      go_wp2_with fail
      refine HM2.out.mono ?_
      rintro e w3 ⟨A8, c8, rfl, hs8, hb8⟩
      rw [HN3.out] at hs8 ⊢
      have HB3 := below_step HB2 hb8
      clear HB2 hb8 hs7 HM2 hsv2
      by_cases hlong : 512 < n3
      · have HR := Lib.hid (HLong.out u3 (by rw [HU3.out]; exact HPos.out j) (by rw [HN3.out]; exact hlong))
        have hlongI : (512 : Int) < (n3 : Int) := by omega
        go_wp2
        go_ret2
        rw [HR.out.1, HR.out.2]
        exact ⟨none, 0, by rw [enc_zero]; rfl, by rw [enc_zero]; exact Sl.none_ _ _, HB3⟩
      · have hlongI : (n3 : Int) ≤ 512 := by omega
        go_wp2
        go_roundw
        case rel => exact ⟨j, u3, n3, c8, A8, by omega, rfl, rfl, by omega, HU3, HN3, hs8, HB3⟩
        case measure => simp [intOf]
end Go.Proofs.Ytebbpodcldndjaa
