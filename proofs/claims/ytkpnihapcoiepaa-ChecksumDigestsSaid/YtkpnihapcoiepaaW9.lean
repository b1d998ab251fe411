/- The chapter's examples, which each law asks: all true. -/
import Derived.Test.YtkpnihapcoiepaaW8
import Derived.Lib.SlBytesConst
namespace Go.Proofs.Ytkpnihapcoiepaa
open Go.RowKit

def P9 : List Nat := [49, 50, 51, 52, 53, 54, 55, 56, 57]
def P3 : List Nat := [49, 50, 51]
def P6 : List Nat := [52, 53, 54, 55, 56, 57]
theorem crc_ex : ((crc32 P9).toNat : Int) = 3421780262 := by decide +kernel
theorem crc_ex2 : ((f32 (f32 ones32 P3) P6 ^^^ ones32).toNat : Int) = 3421780262 := by decide +kernel
theorem crc16_ex : ((crc16 P9).toNat : Int) = 10673 := by decide +kernel
theorem crc16_ex0 : ((crc16 []).toNat : Int) = 65535 := by decide +kernel
theorem adler_ex : ((adler P9 : Nat) : Int) = 152961502 := by decide +kernel
theorem adler_ex0 : ((adler [] : Nat) : Int) = 1 := by decide +kernel
theorem comb_ex : ((comb 5#32 3#32 0).toNat : Int) = 6 := by decide +kernel
theorem byt9 : Byt P9 := by unfold Byt P9; decide
theorem byt3 : Byt P3 := by unfold Byt P3; decide
theorem byt6 : Byt P6 := by unfold Byt P6; decide
theorem byt0 : Byt [] := by unfold Byt; simp

theorem ex_combine (w : World) : Calls Try.prog 21 #[.int .u32 5, .int .u32 3, .int .i64 0] w fun e w' => e = .returned (.tuple #[.int .u32 6, .int .i64 0]) ∧ w = w' := by
  have h := combine_any 5#32 3#32 0 (by omega) w
  rw [comb_ex] at h
  exact h
theorem ex_crc32 (w : World) (A : Option Addr) (c : Nat) (hs : Sl w w.heap.size A 9 c (byl P9)) : Calls Try.prog 14 #[.slice A 9 c] w fun e w' => e = .returned (.int .u32 3421780262) ∧ Below w.heap.size w w' := by
  have h := crc32_any A 9 c P9 w hs byt9
  rw [crc_ex] at h
  exact h
theorem ex_crc16 (w : World) (A : Option Addr) (c : Nat) (hs : Sl w w.heap.size A 9 c (byl P9)) : Calls Try.prog 17 #[.slice A 9 c] w fun e w' => e = .returned (.int .u16 10673) ∧ Below w.heap.size w w' := by
  have h := crc16_any A 9 c P9 w hs byt9
  rw [crc16_ex] at h
  exact h
theorem ex_crc16n (w : World) : Calls Try.prog 17 #[.slice none 0 0] w fun e w' => e = .returned (.int .u16 65535) ∧ Below w.heap.size w w' := by
  have h := crc16_any none 0 0 [] w (Sl.none_ _ _) byt0
  rw [crc16_ex0] at h
  exact h
theorem ex_adler (w : World) (A : Option Addr) (c B : Nat) (hs : Sl w B A 9 c (byl P9)) : Calls Try.prog 19 #[.slice A 9 c] w fun e w' => e = .returned (.int .u32 152961502) ∧ w = w' := by
  have h := adler_any A 9 c B P9 w hs byt9
  rw [adler_ex] at h
  exact h
theorem ex_adlern (w : World) : Calls Try.prog 19 #[.slice none 0 0] w fun e w' => e = .returned (.int .u32 1) ∧ w = w' := by
  have h := adler_any none 0 0 0 [] w (Sl.none_ _ _) byt0
  rw [adler_ex0] at h
  exact h
theorem ex_sum (w : World) (g : Nat) (h : Dg w g (f32 (f32 ones32 P3) P6) 9) : Calls Try.prog 27 #[.pointer (some ⟨g, 0, none⟩)] w fun e w' => e = .returned (.int .u32 3421780262) ∧ w = w' := by
  have h := sum_any g _ 9 w h
  rw [crc_ex2] at h
  exact h

set_option maxRecDepth 100000 in
set_option maxHeartbeats 2000000 in
theorem examples_any (w : World) : Calls Try.prog 16 #[] w fun e w' => e = .returned (.bool true) ∧ Below w.heap.size w w' := by
  have kc := fun (w : World) (C : Array Value) (n c : Nat) => Lib.run_convert_bytes_const (P := Try.prog) w 22 5 C n c Try.underlying22 Try.underlying5
  go_enter Try.func16, Try.ntmps16
  go_wp2_with fail
  have hs := Sl.lit w 5 (byl P9).toArray 9 (9, 10) rfl (by unfold maxLen; omega)
  have hB := below_new w (.cells (byl P9).toArray 5 (9, 10))
  have hW : (w.alloc (.cells (byl P9).toArray 5 (9, 10))).heap.size = w.heap.size + 1 := by simp
  have he : w.alloc (.cells (byl P9).toArray 5 (9, 10)) = w.alloc (.cells #[.int .u8 49, .int .u8 50, .int .u8 51, .int .u8 52, .int .u8 53, .int .u8 54, .int .u8 55, .int .u8 56, .int .u8 57] 5 (9, 10)) := rfl
  rw [he] at hs hB hW
  clear he
  generalize (w.alloc _) = W at *
  have hn := newDigest_any W
  rw [hW] at hn
  have HN := Lib.hid hn
  clear hn hW
  go_wp2_with fail
  refine HN.out.mono ?_
  rintro e w1 ⟨rfl, hd1, hb1, hz1⟩
  replace hB : Below w.heap.size w w1 := hB.trans (hb1.mono (by omega))
  replace hs := hs.below hb1
  have hz : w.heap.size + 2 ≤ w1.heap.size := by omega
  have hs3 : Sl w1 w1.heap.size (some ⟨w.heap.size, 0, none⟩) 3 9 (byl P3) := (hs.pre (show 3 ≤ 9 by omega)).more (B' := w1.heap.size) (by omega)
  have hwr := write_any _ _ _ _ _ _ P3 w1 hd1 hs3 byt3 (by omega)
  have HW := Lib.hid hwr
  clear hwr HN hb1 hz1 hs3 hd1
  go_wp2_with fail
  refine HW.out.mono ?_
  rintro e w2 ⟨rfl, hd2, hg2⟩
  have hb2 := below_grown hg2 (B := w.heap.size + 1) (Nat.le_refl _) (by omega)
  replace hz : w.heap.size + 2 ≤ w2.heap.size := Nat.le_trans hz hg2.size
  replace hB : Below w.heap.size w w2 := hB.trans (hb2.mono (by omega))
  replace hs := hs.below hb2
  have hs6 : Sl w2 w2.heap.size (some ⟨w.heap.size, 3, none⟩) 6 6 (byl P6) := (hs.rest (show 3 ≤ 9 by omega)).more (B' := w2.heap.size) (by omega)
  have hwr := write_any _ _ _ _ _ _ P6 w2 hd2 hs6 byt6 (by omega)
  have HW2 := Lib.hid hwr
  clear hwr HW hb2 hg2 hs6 hd2
  go_wp2_with fail
  refine HW2.out.mono ?_
  rintro e w3 ⟨rfl, hd3, hg3⟩
  have hb3 := below_grown hg3 (B := w.heap.size + 1) (Nat.le_refl _) (by omega)
  replace hz : w.heap.size + 2 ≤ w3.heap.size := Nat.le_trans hz hg3.size
  replace hB : Below w.heap.size w w3 := hB.trans (hb3.mono (by omega))
  replace hs := hs.below hb3
  clear HW2 hb3 hg3
  go_wp2_with fail
  refine (ex_sum _ _ hd3).mono ?_
  rintro e w' ⟨rfl, rfl⟩
  go_wp2_with fail
  refine (len_any _ _ _ _ hd3).mono ?_
  rintro e w' ⟨rfl, rfl⟩
  clear hd3
  go_wp2_with fail
  refine (ex_combine _).mono ?_
  rintro e w' ⟨rfl, rfl⟩
  replace hs := hs.more (B' := w3.heap.size) (by omega)
  go_wp2_with fail
  refine (ex_crc32 _ _ _ hs).mono ?_
  rintro e w4 ⟨rfl, hb4⟩
  replace hs := hs.next hb4
  replace hB := below_step hB hb4
  clear hb4 hz
  go_wp2_with fail
  refine (ex_crc16 _ _ _ hs).mono ?_
  rintro e w5 ⟨rfl, hb5⟩
  replace hs := hs.next hb5
  replace hB := below_step hB hb5
  clear hb5
  go_wp2_with fail
  refine (ex_adler _ _ _ _ hs).mono ?_
  rintro e w' ⟨rfl, rfl⟩
  go_wp2_with fail
  refine (ex_adlern _).mono ?_
  rintro e w' ⟨rfl, rfl⟩
  go_wp2_with fail
  refine (ex_crc16n _).mono ?_
  rintro e w6 ⟨rfl, hb6⟩
  replace hB := below_step hB hb6
  clear hb6 hs
  go_wp2
  go_ret
  exact ⟨rfl, hB⟩
end Go.Proofs.Ytkpnihapcoiepaa
