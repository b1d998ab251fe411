/- Contracts of the CRC-32: the feeding of bytes, the specification. -/
import Derived.Test.YtkpnihapcoiepaaW3
namespace Go.Proofs.Ytkpnihapcoiepaa
open Go.RowKit

/-- one look-up -/
theorem look32 (Y : BitVec 32) : ∃ i : Nat, i < 16 ∧ Go.bits .and .u32 (Y.toNat : Int) 15 = (i : Int) ∧ Go.bits .xor .u32 ((Y.toNat : Int) / (16 : Int)) ((sts st 4 (BitVec.ofNat 32 i)).toNat : Int) = ((sts st 4 Y).toNat : Int) := by
  refine ⟨(Y &&& 15#32).toNat, ?_, and32_15 Y, ?_⟩
  · rw [BitVec.toNat_and]
    have : Y.toNat &&& (15#32).toNat ≤ 15 := Nat.and_le_right
    omega
  · rw [shr32_4, xor32, BitVec.ofNat_toNat, BitVec.setWidth_eq, ← sts4]
theorem byte32 (X : BitVec 32) (c : Nat) (hc : c < 256) : Go.bits .xor .u32 (X.toNat : Int) (c : Int) = ((X ^^^ BitVec.ofNat 32 c).toNat : Int) := by
  rw [← xor32, BitVec.toNat_ofNat, Nat.mod_eq_of_lt (by omega)]

set_option maxRecDepth 100000 in
theorem feed32_any (x : BitVec 32) (A : Option Addr) (n c : Nat) (l : List Nat) (w : World) (hs : Sl w w.heap.size A n c (byl l)) (hb : Byt l) :
    Calls Try.prog 30 #[.int .u32 (x.toNat : Int), .slice A n c] w fun e w' => e = .returned (.int .u32 ((f32 x l).toNat : Int)) ∧ Below w.heap.size w w' := by
  have hl : l.length = n := by rw [← length_byl]; exact hs.len
  have hmax := hs.max
  have hle := hs.le
  unfold maxLen at hmax
  go_enter Try.func30, Try.ntmps30
  go_wp2_with fail
  refine (table32_any _).mono ?_
  rintro e w1 ⟨rfl, hb1⟩
  go_wp2_with (refine wpList_store_row rfl 58 (.tmp 5) (.tmp 8) (by rfl) _ (tab32 16) (by rfl) (by rfl) 58 _ (heap_alloc_new _ _) arr32 rfl tab32_one ?_)
  obtain ⟨O, hO⟩ : ∃ O : Obj, O = .cells (tab32 0) 58 := ⟨_, rfl⟩
  have hT : Tab32 ((w1.alloc (.cells (tab32 0) 58)).setRow w1.heap.size (tab32 16)) w1.heap.size := setRow_heap _ _ _ _ _ _ (heap_alloc_new _ _)
  have hbel : Below w.heap.size w ((w1.alloc (.cells (tab32 0) 58)).setRow w1.heap.size (tab32 16)) := below_setRow (below_step hb1 (below_new _ _)) hb1.size _
  rw [tab32_zero] at hT hbel
  generalize World.setRow _ w1.heap.size (tab32 16) = W at *
  generalize w1.heap.size = g at *
  replace hs := hs.below hbel
  clear hO O hb1
  go_loop [0, 11] (fun a i => ∃ k : Nat, k ≤ n ∧ i = .int .i64 k ∧ a = .int .u32 ((f32 x (l.take k)).toNat : Int)) (fun _ i => n - (intOf i).toNat)
  case atStart => exact ⟨0, by omega, rfl, rfl⟩
  case round =>
    obtain ⟨k, hk, rfl, rfl⟩ := hrel
    by_cases hlt : k < n
    · have HF := Lib.hid (f32_take x l k (by omega))
      have hcb := hb.getD k
      obtain ⟨b, off, rfl, hbB, hc⟩ := hs.at_ hlt (.int .u8 0)
      rw [getD_byl _ _ (by omega)] at hc
      have HB := byte32 (f32 x (l.take k)) (l.getD k 0) hcb
      rw [show sts st 8 (f32 x (l.take k) ^^^ BitVec.ofNat 32 (l.getD k 0)) = sts st 4 (sts st 4 (f32 x (l.take k) ^^^ BitVec.ofNat 32 (l.getD k 0))) from sts_add st 4 4 _] at HF
      generalize (f32 x (l.take k) ^^^ BitVec.ofNat 32 (l.getD k 0)) = Y at HB HF
      obtain ⟨i, hi, h1, h2⟩ := look32 Y
      have c1 := hT.at_ hi
      unfold tv32 at c1
      generalize sts st 4 Y = Z at HF h2
      obtain ⟨j, hj, h3, h4⟩ := look32 Z
      have c2 := hT.at_ hj
      unfold tv32 at c2
      generalize sts st 4 Z = R at HF h4
      generalize l.getD k 0 = C at *
      go_wp2
      go_round
      case rel => exact ⟨k + 1, by omega, by go_num, by rw [HF.out]⟩
      case measure => simp [intOf]; omega
    · obtain rfl : k = n := by omega
      go_wp2
      go_ret
      exact ⟨retI (by rw [List.take_of_length_le (by omega)]), hbel⟩
end Go.Proofs.Ytkpnihapcoiepaa
