/- Contracts of the CRC-16 and of the specifications of the CRC-16 and of Adler-32. -/
import Derived.Test.YtkpnihapcoiepaaW6
namespace Go.Proofs.Ytkpnihapcoiepaa
open Go.RowKit

set_option maxRecDepth 100000 in
theorem feed16_any (x : BitVec 16) (A : Option Addr) (n c : Nat) (l : List Nat) (w : World) (hs : Sl w w.heap.size A n c (byl l)) (hb : Byt l) :
    Calls Try.prog 32 #[.int .u16 (x.toNat : Int), .slice A n c] w fun e w' => e = .returned (.int .u16 ((f16 x l).toNat : Int)) ∧ Below w.heap.size w w' := by
  have hl : l.length = n := by rw [← length_byl]; exact hs.len
  have hmax := hs.max
  have hle := hs.le
  unfold maxLen at hmax
  go_enter Try.func32, Try.ntmps32
  go_wp2_with fail
  refine (table16_any _).mono ?_
  rintro e w1 ⟨rfl, hb1⟩
  go_wp2_with (refine wpList_store_row rfl 60 (.tmp 5) (.tmp 8) (by rfl) _ (tab16 16) (by rfl) (by rfl) 60 _ (heap_alloc_new _ _) arr16 rfl tab16_one ?_)
  have hT : Tab16 ((w1.alloc (.cells (tab16 0) 60)).setRow w1.heap.size (tab16 16)) w1.heap.size := setRow_heap _ _ _ _ _ _ (heap_alloc_new _ _)
  have hbel : Below w.heap.size w ((w1.alloc (.cells (tab16 0) 60)).setRow w1.heap.size (tab16 16)) := below_setRow (below_step hb1 (below_new _ _)) hb1.size _
  rw [tab16_zero] at hT hbel
  generalize World.setRow _ w1.heap.size (tab16 16) = W at *
  generalize w1.heap.size = g at *
  replace hs := hs.below hbel
  clear hb1
  go_loop [0, 11] (fun a i => ∃ k : Nat, k ≤ n ∧ i = .int .i64 k ∧ a = .int .u16 ((f16 x (l.take k)).toNat : Int)) (fun _ i => n - (intOf i).toNat)
  case atStart => exact ⟨0, by omega, rfl, rfl⟩
  case round =>
    obtain ⟨k, hk, rfl, rfl⟩ := hrel
    by_cases hlt : k < n
    · have HF := Lib.hid (f16_take x l k (by omega))
      have hcb := hb.getD k
      obtain ⟨b, off, rfl, hbB, hc⟩ := hs.at_ hlt (.int .u8 0)
      rw [getD_byl _ _ (by omega)] at hc
      have HB := byte16 (f16 x (l.take k)) (l.getD k 0) hcb
      rw [show sts su 8 (f16 x (l.take k) ^^^ BitVec.ofNat 16 (l.getD k 0 * 256)) = sts su 4 (sts su 4 (f16 x (l.take k) ^^^ BitVec.ofNat 16 (l.getD k 0 * 256))) from sts_add su 4 4 _] at HF
      generalize (f16 x (l.take k) ^^^ BitVec.ofNat 16 (l.getD k 0 * 256)) = Y at HB HF
      obtain ⟨i, hi, h1, h2⟩ := look16 Y
      have c1 := hT.at_ hi
      unfold tv16 at c1
      generalize sts su 4 Y = Z at HF h2
      obtain ⟨j, hj, h3, h4⟩ := look16 Z
      have c2 := hT.at_ hj
      unfold tv16 at c2
      generalize sts su 4 Z = R at HF h4
      generalize l.getD k 0 = C at *
      have y0 : (0 : Int) ≤ (Y.toNat : Int) := by omega
      have y1 : (Y.toNat : Int) < 65536 := by have := Y.isLt; omega
      have z0 : (0 : Int) ≤ (Z.toNat : Int) := by omega
      have z1 : (Z.toNat : Int) < 65536 := by have := Z.isLt; omega
      generalize (Y.toNat : Int) = YI at *
      generalize (Z.toNat : Int) = ZI at *
      go_wp2
      go_round
      case rel => exact ⟨k + 1, by omega, by go_num, by rw [HF.out]⟩
      case measure => simp [intOf]; omega
    · obtain rfl : k = n := by omega
      go_wp2
      go_ret
      exact ⟨retI (by rw [List.take_of_length_le (by omega)]), hbel⟩

theorem ones16_val : (65535 : Int) = (ones16.toNat : Int) := by decide
set_option maxRecDepth 100000 in
theorem crc16_any (A : Option Addr) (n c : Nat) (l : List Nat) (w : World) (hs : Sl w w.heap.size A n c (byl l)) (hb : Byt l) :
    Calls Try.prog 17 #[.slice A n c] w fun e w' => e = .returned (.int .u16 ((crc16 l).toNat : Int)) ∧ Below w.heap.size w w' := by
  have hf := feed16_any ones16 A n c l w hs hb
  rw [← ones16_val] at hf
  have HF := Lib.hid hf
  clear hf
  go_enter Try.func17, Try.ntmps17
  go_wp2_with fail
  refine HF.out.mono ?_
  rintro e w1 ⟨rfl, hb1⟩
  go_wp2
  go_ret
  exact ⟨rfl, hb1⟩

set_option maxRecDepth 100000 in
theorem rCRC16_any (A : Option Addr) (n c : Nat) (l : List Nat) (w : World) (hs : Sl w w.heap.size A n c (byl l)) (hb : Byt l) :
    Calls Try.prog 18 #[.slice A n c] w fun e w' => e = .returned (.int .u16 ((crc16 l).toNat : Int)) ∧ w = w' := by
  have hl : l.length = n := by rw [← length_byl]; exact hs.len
  have hmax := hs.max
  have hle := hs.le
  unfold maxLen at hmax
  go_enter Try.func18, Try.ntmps18
  go_wp2
  go_loop [3, 4] (fun a i => ∃ k : Nat, k ≤ n ∧ i = .int .i64 k ∧ a = .int .u16 ((f16 ones16 (l.take k)).toNat : Int)) (fun _ i => n - (intOf i).toNat)
  case atStart => exact ⟨0, by omega, rfl, valI ones16_val⟩
  case round =>
    obtain ⟨k, hk, rfl, rfl⟩ := hrel
    by_cases hlt : k < n
    · have hdk : decide ((k : Int) < (n : Int)) = true := by simp; omega
      have HF := Lib.hid (f16_take ones16 l k (by omega))
      have hcb := hb.getD k
      obtain ⟨b, off, rfl, hbB, hc⟩ := hs.at_ hlt (.int .u8 0)
      rw [getD_byl _ _ (by omega)] at hc
      have HB := byte16 (f16 ones16 (l.take k)) (l.getD k 0) hcb
      generalize (f16 ones16 (l.take k) ^^^ BitVec.ofNat 16 (l.getD k 0 * 256)) = Y at HB HF
      generalize l.getD k 0 = C at *
      go_wp2
      go_loop [3, 5] (fun a t => ∃ j : Nat, j ≤ 8 ∧ t = .int .i64 j ∧ a = .int .u16 ((sts su j Y).toNat : Int)) (fun _ t => 8 - (intOf t).toNat)
      case atStart => exact ⟨0, by omega, rfl, rfl⟩
      case round =>
        obtain ⟨j, hj, rfl, rfl⟩ := hrel
        by_cases hlt' : j < 8
        · have h1 := geq16 (sts su j Y)
          have h0 : (0 : Int) ≤ ((sts su j Y).toNat : Int) := by omega
          have h2 : ((sts su j Y).toNat : Int) < 65536 := by have := (sts su j Y).isLt; omega
          cases h : (sts su j Y).getLsbD 15
          · have hr := Lib.hid (su_lo _ h)
            rw [h] at h1
            clear h
            generalize ((sts su j Y).toNat : Int) = X at *
            go_wp2
            go_round
            case rel => exact ⟨j + 1, by omega, by go_num, valI hr.out⟩
            case measure => simp [intOf]; omega
          · have hr := Lib.hid (su_hi _ h)
            rw [h] at h1
            clear h
            generalize ((sts su j Y).toNat : Int) = X at *
            go_wp2
            go_round
            case rel => exact ⟨j + 1, by omega, by go_num, valI hr.out⟩
            case measure => simp [intOf]; omega
        · obtain rfl : j = 8 := by omega
          go_wp2
          go_round
          case rel => exact ⟨k + 1, by omega, by go_num, by rw [HF.out]⟩
          case measure => simp [intOf]; omega
    · obtain rfl : k = n := by omega
      go_wp2
      go_ret
      exact ⟨retI (by rw [List.take_of_length_le (by omega)]; rfl), rfl⟩

theorem radler_val (l : List Nat) : ((ad l).2 : Int) * 65536 + ((ad l).1 : Int) = ((adler l : Nat) : Int) := by
  unfold adler; omega
set_option maxRecDepth 100000 in
theorem rAdler_any (A : Option Addr) (n c B : Nat) (l : List Nat) (w : World) (hs : Sl w B A n c (byl l)) (hb : Byt l) :
    Calls Try.prog 20 #[.slice A n c] w fun e w' => e = .returned (.int .u32 ((adler l : Nat) : Int)) ∧ w = w' := by
  have hl : l.length = n := by rw [← length_byl]; exact hs.len
  have hmax := hs.max
  have hle := hs.le
  unfold maxLen at hmax
  go_enter Try.func20, Try.ntmps20
  go_wp2
  go_loop [3, 4, 5] (fun a b i => ∃ k : Nat, k ≤ n ∧ i = .int .i64 k ∧ a = .int .u32 ((ad (l.take k)).1 : Int) ∧ b = .int .u32 ((ad (l.take k)).2 : Int)) (fun _ _ i => n - (intOf i).toNat)
  case atStart => exact ⟨0, by omega, rfl, rfl, rfl⟩
  case round =>
    obtain ⟨k, hk, rfl, rfl, rfl⟩ := hrel
    by_cases hlt : k < n
    · have HF := Lib.hid (ad_take l k (by omega))
      have hcb := hb.getD k
      have ha := ad_lt (l.take k)
      obtain ⟨b, off, rfl, hbB, hc⟩ := hs.at_ hlt (.int .u8 0)
      rw [getD_byl _ _ (by omega)] at hc
      generalize l.getD k 0 = C at *
      generalize ad (l.take k) = S at *
      obtain ⟨a1, b1⟩ := S
      obtain ⟨ha1, hb1⟩ := ha
      dsimp only at ha1 hb1
      go_wp2
      go_round
      case rel => exact ⟨k + 1, by omega, by go_num, by rw [HF.out, ad_round]; go_num, by rw [HF.out, ad_round]; go_num⟩
      case measure => simp [intOf]; omega
    · obtain rfl : k = n := by omega
      have ha := ad_lt l
      have HV := Lib.hid (radler_val l)
      rw [List.take_of_length_le (by omega)]
      go_wp2
      go_ret
      exact ⟨retI (by rw [← HV.out]), rfl⟩
end Go.Proofs.Ytkpnihapcoiepaa
