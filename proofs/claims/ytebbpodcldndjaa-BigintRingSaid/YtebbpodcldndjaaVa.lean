/- The chapter's examples, call by call. -/
import Derived.Test.YtebbpodcldndjaaV3
import Derived.Test.YtebbpodcldndjaaV4
import Derived.Test.YtebbpodcldndjaaV5
import Derived.Test.YtebbpodcldndjaaV7
import Derived.Test.YtebbpodcldndjaaV9
set_option linter.unusedVariables false
namespace Go.Proofs.Ytebbpodcldndjaa
open Go.RowKit

theorem vd_of (neg : Bool) (v : Nat) (h0 : v ≠ 0) (h : v < 18446744073709551616) : Vd neg v := by
  refine ⟨fun _ => h0, ?_⟩
  have := (length_enc_le v 2).2 (by simpa using h)
  omega
theorem zlen {v : Nat} {w : World} {A : Option Addr} {c : Nat} (n : Nat) (hn : (enc v).length = n) (h : Sl w w.heap.size A (enc v).length c (ml (enc v))) : Sl w w.heap.size A n c (ml (enc v)) := by rw [← hn]; exact h
theorem one_limb {v : Nat} (h0 : v ≠ 0) (h : v < 4294967296) : (enc v).length = 1 := by
  rw [enc_pos h0, Nat.div_eq_of_lt h, enc_zero]; rfl
theorem pow_fits (m : Nat) (h : 100 < 32 * m) : (2 : Nat) ^ 100 < 4294967296 ^ m := by
  rw [pow_limb]; exact Nat.pow_lt_pow_right (by omega) h
theorem p100_fits : (enc (2 ^ 100)).length ≤ 512 := (length_enc_le _ _).2 (pow_fits 512 (by omega))
theorem p100_ne : (2 : Nat) ^ 100 ≠ 0 := by decide

theorem ex_pow (x : Value) (W : World) (hx : Zi W x false 2) : Calls Try.prog 31 #[x, .int .i64 100] W (GiveE false (2 ^ 100) 0 W) := by
  have h := pow_any x false 2 100 W hx (vd_of _ _ (by omega) (by omega)) (by omega)
  have e : zpowS false 2 100 = (false, 2 ^ 100, 0) := by
    unfold zpowS powS
    rw [if_pos p100_fits]
    rfl
  rw [e] at h
  exact h
theorem ex_gcd (x y : Value) (W : World) (hx : Zi W x false 12) (hy : Zi W y true 18) : Calls Try.prog 29 #[x, y] W (GiveE false 6 0 W) := by
  obtain ⟨A, c, rfl, hs⟩ := hx
  obtain ⟨A', c', rfl, hs'⟩ := hy
  refine gcd_of false true A A' _ c _ c' 12 18 6 W hs hs' (vd_of _ _ (by omega) (by omega)) (vd_of _ _ (by omega) (by omega)) (Lib.hid fun W h h' => ?_)
  have := commonDivisor_lt A A' _ c _ c' 12 18 W h h' (by omega) (by omega) (by rw [one_limb (by omega) (by omega)]; omega)
    (Lib.hid fun W h h' => divide_one A' A _ c' _ c 18 12 W h h' (by omega) (one_limb (by omega) (by omega)) (by rw [one_limb (by omega) (by omega)]; omega))
  rw [show Nat.gcd 12 18 = 6 by decide] at this
  exact this
theorem ex_div (x y : Value) (W : World) (hx : Zi W x true 7) (hy : Zi W y false 2) : Calls Try.prog 27 #[x, y] W (GiveQ true 4 false 1 0 W) := by
  obtain ⟨A, c, rfl, hs⟩ := hx
  obtain ⟨A', c', rfl, hs'⟩ := hy
  have := divMod_mp A A' _ c _ c' 7 2 W hs hs' (vd_of _ _ (by omega) (by omega)) (vd_of _ _ (by omega) (by omega)) (by omega)
    (Lib.hid fun W h h' => divide_one A A' _ c _ c' 7 2 W h h' (by omega) (one_limb (by omega) (by omega)) (by rw [one_limb (by omega) (by omega)]; omega)) (by decide)
  exact this
theorem cut_of (s t : ByteArray) (ng : Bool) (h1 : Lib.trimPrefix s.data.toList [45] = t.data.toList) (h2 : Lib.hasPrefix s.data.toList [45] = ng) :
    Hid (∀ W : World, Calls Try.prog 75 #[.string s, .string { data := #[45] }] W fun e w' => e = .returned (.tuple #[.string t, .bool ng]) ∧ W = w') := by
  intro W
  refine (Try.strings_CutPrefix s { data := #[45] } W).mono ?_
  rintro e w' ⟨rfl, rfl⟩
  refine ⟨?_, rfl⟩
  rw [show ({ data := #[45] } : ByteArray).data.toList = [45] from rfl, h1, h2]
theorem ex_parse1 (W : World) : Calls Try.prog 39 #[.string { data := #[45, 49, 50] }] W (GiveE true 12 0 W) :=
  parse_core _ { data := #[49, 50] } true W (by decide) true 12 0 (by decide) (cut_of _ _ _ (by decide) (by decide))
theorem ex_parse2 (W : World) : Calls Try.prog 39 #[.string { data := #[45, 48] }] W (GiveE false 0 9 W) :=
  parse_core _ { data := #[48] } true W (by decide) false 0 9 (by decide) (cut_of _ _ _ (by decide) (by decide))
theorem digs_900 : digsS 900 1000 = [1, 100] := by
  unfold digsS
  rw [if_neg (by omega), digs_pos (by omega) (by omega), digs_pos (by omega) (by omega), show 1000 / 900 / 900 = 0 by omega, digs_zero]
  rfl
theorem ex_digits (x : Value) (W : World) (hx : Zi W x false 1000) : Calls Try.prog 43 #[x, .int .i64 900] W (GiveN [1, 100] 0 W) := by
  obtain ⟨A, c, rfl, hs⟩ := hx
  refine digits_any A _ c 1000 900 W hs (vd_of _ _ (by omega) (by omega)) (by omega) (by omega) [1, 100] 0 (Lib.hid ⟨fun _ => ⟨digs_900.symm, rfl⟩, fun h => ?_⟩)
  rw [digs_900] at h
  simp at h
theorem fmt_of (neg : Bool) (l : List Nat) (v : Nat) (hv : valD 10 l = v) (hok : OkD 10 l) (ht : l.getD (l.length - 1) 0 ≠ 0) (h0 : v ≠ 0) : fmtS neg v = (if neg then [45] else []) ++ chs l.reverse := by
  unfold fmtS
  rw [if_neg h0, ← hv, digs_valD 10 (by omega) l hok (.inr ht)]
theorem ex_fmt (x : Value) (neg : Bool) (v : Nat) (s : ByteArray) (W : World) (hx : Zi W x neg v) (hva : Vd neg v) (hs : str (fmtS neg v) = s) :
    Calls Try.prog 41 #[x] W fun e w' => e = .returned (.string s) ∧ Below W.heap.size W w' := by
  obtain ⟨A, c, rfl, h⟩ := hx
  have := format_any neg A _ c v W h hva
  rwa [hs] at this
theorem fmt_p100 : str (fmtS false (2 ^ 100)) = { data := #[49, 50, 54, 55, 54, 53, 48, 54, 48, 48, 50, 50, 56, 50, 50, 57, 52, 48, 49, 52, 57, 54, 55, 48, 51, 50, 48, 53, 51, 55, 54] } := by
  rw [fmt_of false [6, 7, 3, 5, 0, 2, 3, 0, 7, 6, 9, 4, 1, 0, 4, 9, 2, 2, 8, 2, 2, 0, 0, 6, 0, 5, 6, 7, 6, 2, 1] (2 ^ 100) (by decide) (by unfold OkD; decide) (by decide) p100_ne]
  rfl
theorem fmt_6 : str (fmtS false 6) = { data := #[54] } := by
  rw [fmt_of false [6] 6 (by decide) (by unfold OkD; decide) (by decide) (by decide)]; rfl
theorem fmt_m4 : str (fmtS true 4) = { data := #[45, 52] } := by
  rw [fmt_of true [4] 4 (by decide) (by unfold OkD; decide) (by decide) (by decide)]; rfl
theorem fmt_1 : str (fmtS false 1) = { data := #[49] } := by
  rw [fmt_of false [1] 1 (by decide) (by unfold OkD; decide) (by decide) (by decide)]; rfl
end Go.Proofs.Ytebbpodcldndjaa
