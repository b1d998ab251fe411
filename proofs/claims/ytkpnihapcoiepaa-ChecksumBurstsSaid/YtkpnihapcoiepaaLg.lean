/- ChecksumBursts returns true for every argument. No condition. -/
import Derived.Test.YtkpnihapcoiepaaLd
import Derived.Test.YtkpnihapcoiepaaPure2
import Derived.Test.YtkpnihapcoiepaaLf
set_option linter.unusedVariables false
namespace Go.Proofs.Ytkpnihapcoiepaa
open Go.RowKit

theorem bit_lo (P r : Nat) (hP : P < 256) (hr : r < 8) : Go.bits .xor .u8 (P : Int) ((2 : Int) ^ r % 256) = ((P ^^^ bitv false r : Nat) : Int) := by
  rw [← u8_xor_nat P (bitv false r) hP (bitv_lt _ _ hr)]
  congr 1
  have : r = 0 ∨ r = 1 ∨ r = 2 ∨ r = 3 ∨ r = 4 ∨ r = 5 ∨ r = 6 ∨ r = 7 := by omega
  rcases this with rfl | rfl | rfl | rfl | rfl | rfl | rfl | rfl <;> decide
theorem bit_hi (P r : Nat) (hP : P < 256) (hr : r < 8) : Go.bits .xor .u8 (P : Int) ((128 : Int) / 2 ^ r) = ((P ^^^ bitv true r : Nat) : Int) := by
  rw [← u8_xor_nat P (bitv true r) hP (bitv_lt _ _ hr)]
  congr 1

set_option maxRecDepth 100000 in
set_option maxHeartbeats 2000000 in
theorem flipped_any (high : Bool) (A : Option Addr) (n c : Nat) (l : List Nat) (a mask W : Nat) (w : World) (hs : Sl w w.heap.size A n c (byl l)) (hb : Byt l) (hpos : 0 < n) (hn : n ≤ 600) (ha : a < 8 * n) (hm : mask ≤ 4294967295) (hW : W ≤ 32) :
    Calls Try.prog 29 #[.slice A n c, .int .i64 (a : Int), .int .u32 (mask : Int), .int .i64 (W : Int), .bool high] w fun e w' =>
      ∃ A' c', e = .returned (.tuple #[.slice A' n c', .bool (flips high l a mask W).2]) ∧ Sl w' w'.heap.size A' n c' (byl (flips high l a mask W).1) ∧ Below w.heap.size w w' := by
  have hmax := hs.max
  have hle := hs.le
  unfold maxLen at hmax
  have hl : l.length = n := by rw [← length_byl]; exact hs.len
  obtain ⟨i0, hi0, hz0, hz1, hz2⟩ := info_parts byteInfo
  have hown0 := World.ownsRow_nil w w.heap.size 5 1
  go_enter Try.func29, Try.ntmps29
  go_wp2_with (at_builtin; refine wpList_append_slice rfl (.tmp 17) (.tmp 18) 22 rfl w.heap.size 5 i0 (.int .u8 0) 1 Try.underlying22 hi0 hz0 hz1 hz2 rfl _ 0 [] rfl hown0 w.heap.size A n c (byl l) rfl hs (one_byl l) (by unfold maxLen; omega) (by omega) (by simp) ?_)
  intro v1 w1 hown1 hgrow1
  have hB1 : Below w.heap.size w w1 := (Below.refl _ _).grown hgrow1 (by simp) (fun k hk => (hown0.lt k hk).1)
  replace hown1 : w1.ownsRow w.heap.size 5 1 v1 n (byl l) := by simpa using hown1
  obtain ⟨g, cap, rfl, hgb, hgl⟩ := hown1.form hpos
  clear hgrow1 hown0 hs
  go_wp2
  go_loopw [2, 13, 14] (fun m any i wr => ∃ k : Nat, k ≤ W ∧ i = .int .i64 k ∧ m = .int .u32 ((mask / 2 ^ k : Nat) : Int) ∧ any = .bool (flips high l a mask k).2 ∧ wr.ownsRow w.heap.size 5 1 (.slice (some ⟨g, 0, none⟩) n cap) n (byl (flips high l a mask k).1) ∧ Below w.heap.size w wr)
    (fun _ _ i _ => W - (intOf i).toNat)
  case atStart => exact ⟨0, Nat.zero_le _, rfl, by simp, rfl, hown1, hB1⟩
  case round =>
    obtain ⟨k, hk, rfl, rfl, rfl, hown, hbel⟩ := hrel
    clear hown1 hB1
    by_cases hlt : k < W
    · have hdk : decide ((k : Int) < (W : Int)) = true := by simp; omega
      have hM : mask / 2 ^ k ≤ 4294967295 := Nat.le_trans (Nat.div_le_self _ _) hm
      have hM2 : mask / 2 ^ (k + 1) = mask / 2 ^ k / 2 := by rw [Nat.pow_succ, Nat.div_div_eq_div_mul]
      have HM := Lib.hid hM2
      clear hM2
      have HF : Hid (flips high l a mask (k + 1) = if cnd a mask (8 * n) k then (flip1 high (flips high l a mask k).1 (a + k), true) else flips high l a mask k) := by
        show flips high l a mask (k + 1) = _
        simp only [flips, hl]
      have hbf := flips_byt high hb a mask k
      have hlf := flips_length high l a mask k
      rw [hl] at hlf
      by_cases hodd : mask / 2 ^ k % 2 = 1
      · by_cases hin : a + k < 8 * n
        · have HC : Hid (cnd a mask (8 * n) k = true) := by
            show cnd a mask (8 * n) k = true
            simp [cnd, hodd, hin]
          generalize mask / 2 ^ k = M at *
          have ho : ((M : Int) % 2 == 1) = true := by simp; omega
          have hq : ((a : Int) + (k : Int)) / 8 = (((a + k) / 8 : Nat) : Int) := by omega
          have hr : ((a : Int) + (k : Int)) % 8 = (((a + k) % 8 : Nat) : Int) := by omega
          have hq1 : (a + k) / 8 < n := by omega
          have hr1 : (a + k) % 8 < 8 := by omega
          have hcell := hown.cellAt ((a + k) / 8) (by omega)
          have hfr := hown.frozenAt ((a + k) / 8)
          rw [show (byl (flips high l a mask k).1)[(a + k) / 8]? = some (.int .u8 (((flips high l a mask k).1.getD ((a + k) / 8) 0 : Nat) : Int)) by simp [byl, List.getD, show (a + k) / 8 < (flips high l a mask k).1.length by omega]] at hcell
          have HO := Lib.hid hown
          have hP := hbf.getD ((a + k) / 8)
          have HFL : Hid (flip1 high (flips high l a mask k).1 (a + k) = (flips high l a mask k).1.set ((a + k) / 8) ((flips high l a mask k).1.getD ((a + k) / 8) 0 ^^^ bitv high ((a + k) % 8))) := rfl
          generalize (flips high l a mask k).1.getD ((a + k) / 8) 0 = P at *
          generalize (a + k) / 8 = q at *
          generalize (a + k) % 8 = r at *
          clear hodd hown
          cases high
          · go_wp2
            go_roundw
            case rel =>
              refine ⟨k + 1, by omega, by go_num, by rw [HM.out]; go_num, by rw [HF.out, HC.out]; rfl, ?_, hbel.setCell hgb _⟩
              rw [HF.out, HC.out, if_pos rfl, HFL.out, ← byl_set]
              rw [bit_lo P r hP hr1]
              exact (HO.out.stored q _).1
            case measure => simp [intOf]; omega
          · go_wp2
            go_roundw
            case rel =>
              refine ⟨k + 1, by omega, by go_num, by rw [HM.out]; go_num, by rw [HF.out, HC.out]; rfl, ?_, hbel.setCell hgb _⟩
              rw [HF.out, HC.out, if_pos rfl, HFL.out, ← byl_set]
              rw [bit_hi P r hP hr1]
              exact (HO.out.stored q _).1
            case measure => simp [intOf]; omega
        · have HC : Hid (cnd a mask (8 * n) k = false) := by
            show cnd a mask (8 * n) k = false
            simp [cnd, hin]
          generalize mask / 2 ^ k = M at *
          have ho : ((M : Int) % 2 == 1) = true := by simp; omega
          have HO := Lib.hid hown
          clear hodd hown
          go_wp2
          go_roundw
          case rel => exact ⟨k + 1, by omega, by go_num, by rw [HM.out]; go_num, by rw [HF.out, HC.out]; rfl, by rw [HF.out, HC.out]; exact HO.out, hbel⟩
          case measure => simp [intOf]; omega
      · have HC : Hid (cnd a mask (8 * n) k = false) := by
          show cnd a mask (8 * n) k = false
          simp [cnd, hodd]
        generalize mask / 2 ^ k = M at *
        have ho : ((M : Int) % 2 == 1) = false := by simp; omega
        have HO := Lib.hid hown
        clear hodd hown
        go_wp2
        go_roundw
        case rel => exact ⟨k + 1, by omega, by go_num, by rw [HM.out]; go_num, by rw [HF.out, HC.out]; rfl, by rw [HF.out, HC.out]; exact HO.out, hbel⟩
        case measure => simp [intOf]; omega
    · obtain rfl : W = k := by omega
      go_wp2
      go_ret2
      exact ⟨_, _, rfl, Sl.of_own hown, hbel⟩

set_option maxRecDepth 100000 in
set_option maxHeartbeats 2000000 in
theorem law_bursts (A : Option Addr) (n c : Nat) (l : List Nat) (x y : Int) (w : World) (hs : Sl w w.heap.size A n c (byl l)) (hb : Byt l) (hx : 0 ≤ x ∧ x ≤ 65535) (hy : 0 ≤ y ∧ y ≤ 4294967295) :
    Calls Try.prog 12 #[.slice A n c, .int .u16 x, .int .u32 y] w fun e w' => e = .returned (.bool true) ∧ Below w.heap.size w w' := by
  have hmax := hs.max
  have hle := hs.le
  unfold maxLen at hmax
  have hexit : ∀ w0 : World, Below w.heap.size w w0 → Calls Try.prog 16 #[] w0 fun e w' => e = .returned (.bool true) ∧ Below w.heap.size w w' :=
    fun w0 h0 => (examples_any w0).mono fun _ _ ⟨he, hb⟩ => ⟨he, below_step h0 hb⟩
  by_cases hn : 600 < n
  · go_enter Try.func12, Try.ntmps12
    go_wp2_with fail
    refine (hexit _ (Below.refl _ _)).mono ?_
    rintro e w6 ⟨rfl, hb6⟩
    go_wp2
    go_ret
    exact ⟨rfl, hb6⟩
  by_cases hn0 : n = 0
  · subst hn0
    go_enter Try.func12, Try.ntmps12
    go_wp2_with fail
    refine (hexit _ (Below.refl _ _)).mono ?_
    rintro e w6 ⟨rfl, hb6⟩
    go_wp2
    go_ret
    exact ⟨rfl, hb6⟩
  · have hpos : 0 < n := by omega
    have hz : ((n : Int) == 0) = false := by simp; omega
    clear hn0
    have hl : l.length = n := by rw [← length_byl]; exact hs.len
    obtain ⟨a, hi⟩ : ∃ i : Nat, x % (8 * (n : Int)) = (i : Int) := ⟨(x % (8 * (n : Int))).toNat, by have := Int.emod_nonneg x (show (8 * (n : Int)) ≠ 0 by omega); omega⟩
    have ha : a < 8 * n := by have := Int.emod_lt_of_pos x (show (0 : Int) < 8 * (n : Int) by omega); omega
    obtain ⟨mask, rfl⟩ := Int.eq_ofNat_of_zero_le hy.1
    have hm : mask ≤ 4294967295 := by omega
    obtain ⟨hx0, hx1⟩ := hx
    clear hy
    have B32 := burst32 l a mask (by omega)
    have B16 := burst16 l a mask (by omega)
    have b1 := flips_byt false hb a mask 32
    have b2 := flips_byt true hb a mask 16
    have c1 := fun (W : World) (h : Sl W W.heap.size A n c (byl l)) => flipped_any false A n c l a mask 32 W h hb hpos (by omega) ha hm (by omega)
    have c2 := fun (W : World) (h : Sl W W.heap.size A n c (byl l)) => flipped_any true A n c l a mask 16 W h hb hpos (by omega) ha hm (by omega)
    have t1 : Hid ((!((((crc32 (flips false l a mask 32).1).toNat : Int) == ((crc32 l).toNat : Int)))) = (flips false l a mask 32).2) := by
      show _ = _
      cases hf : (flips false l a mask 32).2
      · simp [B32.2 hf]
      · have : ¬ crc32 (flips false l a mask 32).1 = crc32 l := fun e => by rw [B32.1 e] at hf; cases hf
        simp
        intro e
        exact this (BitVec.eq_of_toNat_eq (by omega))
    have t2 : Hid ((!((((crc16 (flips true l a mask 16).1).toNat : Int) == ((crc16 l).toNat : Int)))) = (flips true l a mask 16).2) := by
      show _ = _
      cases hf : (flips true l a mask 16).2
      · simp [B16.2 hf]
      · have : ¬ crc16 (flips true l a mask 16).1 = crc16 l := fun e => by rw [B16.1 e] at hf; cases hf
        simp
        intro e
        exact this (BitVec.eq_of_toNat_eq (by omega))
    have C1 := Lib.hid c1
    have C2 := Lib.hid c2
    clear c1 c2 B32 B16
    generalize (flips false l a mask 32).1 = q1 at *
    generalize (flips false l a mask 32).2 = a1 at *
    generalize (flips true l a mask 16).1 = q2 at *
    generalize (flips true l a mask 16).2 = a2 at *
    go_enter Try.func12, Try.ntmps12
    go_wp2_with fail
    refine (C1.out _ hs).mono ?_
    rintro e w1 ⟨A1, k1, rfl, hs1, hb1⟩
    have hbel := hb1
    replace hs := hs.next hb1
    clear hb1 C1
    go_wp2_with fail
    refine (C2.out _ hs).mono ?_
    rintro e w2 ⟨A2, k2, rfl, hs2, hb2⟩
    replace hbel := below_step hbel hb2
    replace hs := hs.next hb2
    replace hs1 := hs1.next hb2
    clear hb2 C2
    go_wp2_with fail
    refine (crc32_any _ _ _ q1 _ hs1 b1).mono ?_
    rintro e w3 ⟨rfl, hb3⟩
    replace hbel := below_step hbel hb3
    replace hs := hs.next hb3
    replace hs2 := hs2.next hb3
    clear hb3 hs1
    go_wp2_with fail
    refine (crc32_any _ _ _ l _ hs hb).mono ?_
    rintro e w4 ⟨rfl, hb4⟩
    replace hbel := below_step hbel hb4
    replace hs := hs.next hb4
    replace hs2 := hs2.next hb4
    clear hb4
    generalize ((crc32 q1).toNat : Int) = V1 at *
    generalize ((crc32 l).toNat : Int) = V2 at *
    have T1 : (V1 != V2) = a1 := t1.out
    go_wp2_with fail
    refine (crc16_any _ _ _ q2 _ hs2 b2).mono ?_
    rintro e w5 ⟨rfl, hb5⟩
    replace hbel := below_step hbel hb5
    replace hs := hs.next hb5
    clear hb5 hs2
    go_wp2_with fail
    refine (crc16_any _ _ _ l _ hs hb).mono ?_
    rintro e w7 ⟨rfl, hb7⟩
    replace hbel := below_step hbel hb7
    clear hb7 hs
    generalize ((crc16 q2).toNat : Int) = V3 at *
    generalize ((crc16 l).toNat : Int) = V4 at *
    have T2 : (V3 != V4) = a2 := t2.out
    go_wp2_with fail
    refine (hexit _ hbel).mono ?_
    rintro e w6 ⟨rfl, hb6⟩
    go_wp2
    go_ret
    exact ⟨rfl, hb6⟩
end Go.Proofs.Ytkpnihapcoiepaa
