/- Contracts: lowPair, commonDivisor of what is small, GCD. -/
import Derived.Test.YtebbpodcldndjaaV2
import Derived.Test.YtebbpodcldndjaaWs
import Derived.Test.YtebbpodcldndjaaWk
import Derived.Deep.RegionHeld3
set_option linter.unusedVariables false
namespace Go.Proofs.Ytebbpodcldndjaa
open Go.RowKit

theorem low_two {v : Nat} (h : (enc v).length ≤ 2) : (enc v).getD 0 0 + 4294967296 * (enc v).getD 1 0 = v ∧ v < 18446744073709551616 := by
  have hv := (length_enc_le v 2).1 h
  have hv2 : v < 18446744073709551616 := by simpa using hv
  refine ⟨?_, hv2⟩
  by_cases h0 : v = 0
  · subst h0; rw [enc_zero]; rfl
  rw [enc_pos h0]
  by_cases h1 : v / 4294967296 = 0
  · rw [h1, enc_zero]; simp; omega
  · rw [enc_pos h1]; simp; omega

set_option maxRecDepth 100000 in
theorem lowPair_any (A : Option Addr) (n c : Nat) (l : List Nat) (w : World) (hs : Sl w w.heap.size A n c (ml l)) (hok : Ok l) :
    Calls Try.prog 96 #[.slice A n c] w fun e w' => e = .returned (.agg #[.int .u32 ((l.getD 0 0 : Nat) : Int), .int .u32 ((l.getD 1 0 : Nat) : Int)]) ∧ Below w.heap.size w w' := by
  have hb0 := below_new w (.cells #[.int .u32 0, .int .u32 0] 67)
  have h1 := hs.next hb0
  have H0 : Hid (Calls Try.prog 105 #[.slice A n c, .int .i64 0] (w.alloc (.cells #[.int .u32 0, .int .u32 0] 67)) fun e w' => e = .returned (.int .u32 ((l.getD 0 0 : Nat) : Int)) ∧ (w.alloc (.cells #[.int .u32 0, .int .u32 0] 67)) = w') := limbAt_any A n c l 0 _ h1 hok
  have H1 : Hid (Calls Try.prog 105 #[.slice A n c, .int .i64 1] (w.alloc (.cells #[.int .u32 0, .int .u32 0] 67)) fun e w' => e = .returned (.int .u32 ((l.getD 1 0 : Nat) : Int)) ∧ (w.alloc (.cells #[.int .u32 0, .int .u32 0] 67)) = w') := limbAt_any A n c l 1 _ h1 hok
  generalize l.getD 0 0 = x at *
  generalize l.getD 1 0 = y at *
  clear h1 hs
  go_enter Try.func96, Try.ntmps96
  go_wp2_with fail
  refine H0.out.mono ?_
  rintro e w1 ⟨rfl, rfl⟩
  go_wp2_with fail
  refine H1.out.mono ?_
  rintro e w1 ⟨rfl, rfl⟩
  go_wp2
  refine bodyPost_ret (v := .agg #[.int .u32 (x : Int), .int .u32 (y : Int)]) (by simp [results, Try.results96, go_sem]) rfl ⟨rfl, ?_⟩
  first | exact (hb0.setCell (by simp) _).setCell (by simp) _ | exact below_new _ _

set_option maxRecDepth 100000 in
set_option maxHeartbeats 2000000 in
theorem commonDivisor_lt (A A' : Option Addr) (n c n' c' a b : Nat) (w : World) (hs : Sl w w.heap.size A n c (ml (enc a))) (hs' : Sl w w.heap.size A' n' c' (ml (enc b))) (hab : a < b) (ha0 : a ≠ 0) (hl : (enc a).length ≤ 2)
    (HDiv : Hid (∀ W : World, Sl W W.heap.size A' n' c' (ml (enc b)) → Sl W W.heap.size A n c (ml (enc a)) → Calls Try.prog 64 #[.slice A' n' c', .slice A n c] W (GiveQR (b / a) (b % a) W))) :
    Calls Try.prog 68 #[.slice A n c, .slice A' n' c'] w (Mag (enc (Nat.gcd a b)) w) := by
  have hln : (enc a).length = n := by rw [← length_ml]; exact hs.len
  have HC := Lib.hid (compare_any A A' n c n' c' (enc a) (enc b) w hs hs' (ok_enc a) (ok_enc b) (top_enc a) (top_enc b))
  rw [val_enc, val_enc, sgn_lt hab] at HC
  have hn0 : ((n : Int) == 0) = false := by rw [beq_eq_false_iff_ne]; intro e; exact ha0 (enc_eq_nil (by omega))
  have hn2 : (n : Int) ≤ 2 := by omega
  obtain ⟨g, hg⟩ : ∃ g, Nat.gcd a b = g := ⟨_, rfl⟩
  rw [hg]
  have hrb : b % a < a := Nat.mod_lt _ (by omega)
  have HG := Lib.hid (show Nat.gcd a (b % a) = g by rw [← hg, Nat.gcd_rec a b, Nat.gcd_comm])
  have hla := low_two hl
  have hlr := low_two (length_le_of (Nat.le_of_lt hrb) hl)
  obtain ⟨q, hq⟩ : ∃ q, b / a = q := ⟨_, rfl⟩
  obtain ⟨r, hr⟩ : ∃ r, b % a = r := ⟨_, rfl⟩
  rw [hq, hr] at HDiv
  rw [hr] at HG hlr hrb
  have hgl : g < 18446744073709551616 := by
    have := Nat.gcd_le_left (m := a) r (by omega)
    have h2 := HG.out
    omega
  have HSD := Lib.hid (fun W : World => smallDivisor_any a r W hla.2 hlr.2)
  rw [HG.out] at HSD
  have HJ1 := Lib.hid (fun W : World => join_any ((enc a).getD 0 0) ((enc a).getD 1 0) W ((ok_enc a).getD 0) ((ok_enc a).getD 1))
  rw [hla.1] at HJ1
  have HJ2 := Lib.hid (fun W : World => join_any ((enc r).getD 0 0) ((enc r).getD 1 0) W ((ok_enc r).getD 0) ((ok_enc r).getD 1))
  rw [hlr.1] at HJ2
  have HSP := Lib.hid (fun W : World => split_any g W hgl)
  have HL1 := Lib.hid (fun (W : World) (h : Sl W W.heap.size A n c (ml (enc a))) => lowPair_any A n c (enc a) W h (ok_enc a))
  have HL2 := Lib.hid (fun (W : World) (A5 : Option Addr) (n5 c5 : Nat) (h : Sl W W.heap.size A5 n5 c5 (ml (enc r))) => lowPair_any A5 n5 c5 (enc r) W h (ok_enc r))
  have HT : Hid (∀ (W : World) (A : Option Addr) (n c : Nat), Sl W W.heap.size A n c (ml [g % 4294967296, g / 4294967296]) → Calls Try.prog 74 #[.slice A n c] W fun e w' => Mag (enc g) W e w' ∧ W = w') := by
    intro W A n c h
    have := trim_any A n c _ W h (ok_two g hgl)
    rwa [val_two] at this
  generalize (enc a).getD 0 0 = a0 at *
  generalize (enc a).getD 1 0 = a1 at *
  generalize (enc r).getD 0 0 = r0 at *
  generalize (enc r).getD 1 0 = r1 at *
  obtain ⟨nr, hnr⟩ : ∃ nr, (enc r).length = nr := ⟨_, rfl⟩
  have HNR := Lib.hid hnr
  obtain ⟨nq, hnq⟩ : ∃ nq, (enc q).length = nq := ⟨_, rfl⟩
  have HNQ := Lib.hid hnq
  clear hg hrb hla hlr hq hr hgl hnr hab ha0 hl hln hnq
  go_enter Try.func68, Try.ntmps68
  go_wp2_with fail
  refine HC.out.mono ?_
  rintro e w1 ⟨rfl, hb1⟩
  have h1 := hs.next hb1
  have h1' := hs'.next hb1
  clear hs hs' HC
  go_wp2
  go_loop [5, 6] (fun x y => x = .slice A' n' c' ∧ y = .slice A n c) (fun _ _ => 0)
  case atStart => exact ⟨rfl, rfl⟩
  case round =>
    obtain ⟨rfl, rfl⟩ := hrel
    go_wp2_with fail
    refine (HDiv.out _ h1' h1).mono ?_
    rintro e w2 ⟨A5, c5, A6, c6, rfl, hs5, hs6, hb2⟩
    rw [HNR.out] at hs6 ⊢
    rw [HNQ.out]
    have h2 := h1.next hb2
    have HB2 := below_step hb1 hb2
    clear h1 h1' hb1 hb2 hs5 HDiv
    go_wp2_with fail
    refine (HL1.out _ h2).mono ?_
    rintro e w3 ⟨rfl, hb3⟩
    have HB3 := below_step HB2 hb3
    have h6 := hs6.next hb3
    clear hs6 hb3 HB2 h2
    go_wp2_with fail
    refine (HJ1.out _).mono ?_
    rintro e w4 ⟨rfl, hb4⟩
    have HB4 := below_step HB3 hb4
    have h7 := h6.next hb4
    clear h6 hb4 HB3
    go_wp2_with fail
    refine (HL2.out _ A6 nr c6 h7).mono ?_
    rintro e w5 ⟨rfl, hb5⟩
    have HB5 := below_step HB4 hb5
    clear h7 hb5 HB4
    go_wp2_with fail
    refine (HJ2.out _).mono ?_
    rintro e w6 ⟨rfl, hb6⟩
    have HB6 := below_step HB5 hb6
    clear hb6 HB5
    go_wp2_with fail
    refine (HSD.out _).mono ?_
    rintro e w7 ⟨rfl, hb7⟩
    have HB7 := below_step HB6 hb7
    clear hb7 HB6
    go_wp2_with fail
    refine (HSP.out _).mono ?_
    rintro e w8 ⟨rfl, hb8⟩
    have HB8 := below_step HB7 hb8
    have hS := Sl.lit w8 67 #[.int .u32 ((g % 4294967296 : Nat) : Int), .int .u32 ((g / 4294967296 : Nat) : Int)] 2 rfl (by unfold maxLen; omega)
    have HB9 := below_step HB8 (below_new w8 (.cells #[.int .u32 ((g % 4294967296 : Nat) : Int), .int .u32 ((g / 4294967296 : Nat) : Int)] 67))
    clear hb8 HB7 HB8
    go_wp2_with fail
    refine (HT.out _ _ _ _ hS).mono ?_
    rintro e w9 ⟨⟨A9, c9, rfl, hs9, _⟩, rfl⟩
    go_wp2
    go_ret
    exact ⟨A9, c9, rfl, hs9, HB9⟩
end Go.Proofs.Ytebbpodcldndjaa
