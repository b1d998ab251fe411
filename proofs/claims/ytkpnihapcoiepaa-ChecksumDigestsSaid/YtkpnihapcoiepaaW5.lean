/- Contracts of CRC32 and of its specification. -/
import Derived.Test.YtkpnihapcoiepaaW4
namespace Go.Proofs.Ytkpnihapcoiepaa
open Go.RowKit

theorem not32 (x : BitVec 32) : Go.bits .xor .u32 IntKind.u32.max (x.toNat : Int) = ((x ^^^ ones32).toNat : Int) := by
  rw [show IntKind.u32.max = (ones32.toNat : Int) from by decide, xor32, BitVec.xor_comm]
theorem ones_val : (4294967295 : Int) = (ones32.toNat : Int) := by decide
set_option maxRecDepth 100000 in
theorem crc32_any (A : Option Addr) (n c : Nat) (l : List Nat) (w : World) (hs : Sl w w.heap.size A n c (byl l)) (hb : Byt l) :
    Calls Try.prog 14 #[.slice A n c] w fun e w' => e = .returned (.int .u32 ((crc32 l).toNat : Int)) ∧ Below w.heap.size w w' := by
  have hf := feed32_any ones32 A n c l w hs hb
  rw [← ones_val] at hf
  have HF := Lib.hid hf
  clear hf
  go_enter Try.func14, Try.ntmps14
  go_wp2_with fail
  refine HF.out.mono ?_
  rintro e w1 ⟨rfl, hb1⟩
  go_wp2
  go_ret
  exact ⟨retI (not32 _), hb1⟩

set_option maxRecDepth 100000 in
theorem rCRC32_any (A : Option Addr) (n c : Nat) (l : List Nat) (w : World) (hs : Sl w w.heap.size A n c (byl l)) (hb : Byt l) :
    Calls Try.prog 15 #[.slice A n c] w fun e w' => e = .returned (.int .u32 ((crc32 l).toNat : Int)) ∧ w = w' := by
  have hl : l.length = n := by rw [← length_byl]; exact hs.len
  have hmax := hs.max
  have hle := hs.le
  unfold maxLen at hmax
  go_enter Try.func15, Try.ntmps15
  go_wp2
  go_loop [3, 4] (fun a i => ∃ k : Nat, k ≤ n ∧ i = .int .i64 k ∧ a = .int .u32 ((f32 ones32 (l.take k)).toNat : Int)) (fun _ i => n - (intOf i).toNat)
  case atStart => exact ⟨0, by omega, rfl, valI ones_val⟩
  case round =>
    obtain ⟨k, hk, rfl, rfl⟩ := hrel
    by_cases hlt : k < n
    · have hdk : decide ((k : Int) < (n : Int)) = true := by simp; omega
      have HF := Lib.hid (f32_take ones32 l k (by omega))
      have hcb := hb.getD k
      obtain ⟨b, off, rfl, hbB, hc⟩ := hs.at_ hlt (.int .u8 0)
      rw [getD_byl _ _ (by omega)] at hc
      have HB := byte32 (f32 ones32 (l.take k)) (l.getD k 0) hcb
      generalize (f32 ones32 (l.take k) ^^^ BitVec.ofNat 32 (l.getD k 0)) = Y at HB HF
      generalize l.getD k 0 = C at *
      go_wp2
      go_loop [3, 5] (fun a t => ∃ j : Nat, j ≤ 8 ∧ t = .int .i64 j ∧ a = .int .u32 ((sts st j Y).toNat : Int)) (fun _ t => 8 - (intOf t).toNat)
      case atStart => exact ⟨0, by omega, rfl, rfl⟩
      case round =>
        obtain ⟨j, hj, rfl, rfl⟩ := hrel
        by_cases hlt' : j < 8
        · go_wp2_with fail
          refine (rStep_any _ _).mono ?_
          rintro e w' ⟨rfl, rfl⟩
          go_wp2_with fail
          go_round
          case rel => exact ⟨j + 1, by omega, by go_num, rfl⟩
          case measure => simp [intOf]; omega
        · obtain rfl : j = 8 := by omega
          go_wp2
          go_round
          case rel => exact ⟨k + 1, by omega, by go_num, by rw [HF.out]⟩
          case measure => simp [intOf]; omega
    · obtain rfl : k = n := by omega
      have HX := Lib.hid (xor32_ones (f32 ones32 l))
      go_wp2
      go_ret
      exact ⟨retI (by rw [List.take_of_length_le (by omega), HX.out]; rfl), rfl⟩

/- Adler-32 -/
theorem adler_val (l : List Nat) : Go.bits .or .u32 (((ad l).2 : Int) * 65536) ((ad l).1 : Int) = ((adler l : Nat) : Int) := by
  have h := ad_lt l
  rw [show ((ad l).2 : Int) * 65536 = (((ad l).2 * 65536 : Nat) : Int) by omega, u32_or_nat _ _ (by omega) (by omega), nat_join 16 _ _ (by omega) (by omega)]
  rfl
theorem ad_round (s : Nat × Nat) (c : Nat) : adStep s c = ((s.1 + c) % 65521, (s.2 + (s.1 + c) % 65521) % 65521) := rfl

set_option maxRecDepth 100000 in
theorem adler_any (A : Option Addr) (n c B : Nat) (l : List Nat) (w : World) (hs : Sl w B A n c (byl l)) (hb : Byt l) :
    Calls Try.prog 19 #[.slice A n c] w fun e w' => e = .returned (.int .u32 ((adler l : Nat) : Int)) ∧ w = w' := by
  have hl : l.length = n := by rw [← length_byl]; exact hs.len
  have hmax := hs.max
  have hle := hs.le
  unfold maxLen at hmax
  go_enter Try.func19, Try.ntmps19
  go_wp2
  go_loop [3, 4, 9] (fun a b i => ∃ k : Nat, k ≤ n ∧ i = .int .i64 k ∧ a = .int .u32 ((ad (l.take k)).1 : Int) ∧ b = .int .u32 ((ad (l.take k)).2 : Int)) (fun _ _ i => n - (intOf i).toNat)
  case atStart => exact ⟨0, by omega, rfl, rfl, rfl⟩
  case round =>
    obtain ⟨k, hk, rfl, rfl, rfl⟩ := hrel
    by_cases hlt : k < n
    · have HF := Lib.hid (ad_take l k (by omega))
      have hcb := hb.getD k
      have ha := ad_lt (l.take k)
      obtain ⟨b, off, rfl, hbB, hc⟩ := hs.at_ hlt (.int .u8 0)
      rw [getD_byl _ _ (by omega)] at hc
      generalize l.getD k 0 = C at *
      generalize ad (l.take k) = S at *
      obtain ⟨a1, b1⟩ := S
      obtain ⟨ha1, hb1⟩ := ha
      dsimp only at ha1 hb1
      go_wp2
      go_round
      case rel => exact ⟨k + 1, by omega, by go_num, by rw [HF.out, ad_round]; go_num, by rw [HF.out, ad_round]; go_num⟩
      case measure => simp [intOf]; omega
    · obtain rfl : k = n := by omega
      have ha := ad_lt l
      have HV := Lib.hid (adler_val l)
      rw [List.take_of_length_le (by omega)]
      go_wp2
      go_ret
      exact ⟨retI (by rw [← HV.out]), rfl⟩
end Go.Proofs.Ytkpnihapcoiepaa
