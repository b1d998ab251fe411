/- BitsInverse returns true for every list of items. -/
import Derived.Test.YtjpfalpengocjaaWd
import Derived.Test.YtjpfalpengocjaaReads
import Derived.Deep.RegionWith
set_option linter.unusedVariables false
namespace Go.Proofs.Ytjpfalpengocjaa
open Go.RowKit

/-- a slice of items -/
structure It (w : World) (B : Nat) (A : Option Addr) (n c : Nat) (l : List (Int × Int)) : Prop where
  len : l.length = n
  le : n ≤ c
  max : c ≤ maxLen
  read : 0 < n → ∃ b off, A = some ⟨b, off, none⟩ ∧ b < B ∧ ∀ j, j < n → w.cell? ⟨b, off + j * 2, none⟩ = some (.int .i64 (l.getD j (0, 0)).1) ∧ w.cell? ⟨b, off + j * 2 + 1, none⟩ = some (.int .i64 (l.getD j (0, 0)).2)
theorem It.below {w w' : World} {B : Nat} {A : Option Addr} {n c : Nat} {l : List (Int × Int)} (h : It w B A n c l) (hb : Below B w w') : It w' B A n c l :=
  ⟨h.len, h.le, h.max, fun hn => by
    obtain ⟨b, off, e, hlt, hc⟩ := h.read hn
    exact ⟨b, off, e, hlt, fun j hj => ⟨(hb.cell (p := ⟨b, off + j * 2, none⟩) hlt).trans (hc j hj).1, (hb.cell (p := ⟨b, off + j * 2 + 1, none⟩) hlt).trans (hc j hj).2⟩⟩⟩

def okN (x : Int × Int) : Bool := decide (0 ≤ x.2 ∧ x.2 ≤ 62)
/-- the bits that the items append -/
def apps (l : List (Int × Int)) : List Bool := l.flatMap fun x => if okN x then lowI x.1 x.2.toNat else []
theorem apps_take (l : List (Int × Int)) (k : Nat) (h : k < l.length) : apps (l.take (k + 1)) = apps (l.take k) ++ (if okN (l.getD k (0, 0)) then lowI (l.getD k (0, 0)).1 (l.getD k (0, 0)).2.toNat else []) := by
  unfold apps
  rw [List.take_add_one, List.getElem?_eq_getElem h, List.flatMap_append]
  simp [List.getD, h]
theorem apps_drop (l : List (Int × Int)) (k : Nat) (h : k < l.length) : apps (l.drop k) = (if okN (l.getD k (0, 0)) then lowI (l.getD k (0, 0)).1 (l.getD k (0, 0)).2.toNat else []) ++ apps (l.drop (k + 1)) := by
  unfold apps
  rw [List.drop_eq_getElem_cons h, List.flatMap_cons]
  simp [List.getD, h]
theorem length_apps_take (l : List (Int × Int)) (k : Nat) : (apps (l.take k)).length ≤ 62 * k := by
  have h : ∀ m : List (Int × Int), (apps m).length ≤ 62 * m.length := by
    intro m
    induction m with
    | nil => simp [apps]
    | cons x m ih =>
      have h1 : (apps (x :: m)).length = (if okN x then lowI x.1 x.2.toNat else []).length + (apps m).length := by simp [apps]
      rw [h1, List.length_cons]
      have h2 : (if okN x then lowI x.1 x.2.toNat else []).length ≤ 62 := by
        by_cases hx : okN x = true
        · rw [if_pos hx, length_lowI]
          simp only [okN, decide_eq_true_eq] at hx
          omega
        · rw [if_neg hx]; simp
      omega
  have h2 := h (l.take k)
  have h3 : (l.take k).length ≤ k := List.length_take_le _ _
  omega
theorem appS_ok (l : List Bool) (V N : Int) (hl : l.length ≤ 100000) (h0 : 0 ≤ N) (h1 : N ≤ 62) : appS l V N = (l ++ lowI V N.toNat, 0) := by
  unfold appS
  rw [if_neg (by omega), if_neg (by omega)]
theorem appS_bad (l : List Bool) (V N : Int) (h : N < 0 ∨ 62 < N) : appS l V N = ([], 3) := by
  unfold appS
  rw [if_pos h]
theorem takeS_front (V : Int) (k : Nat) (hk : k ≤ 62) (m : List Bool) : takeS (lowI V k ++ m) 0 k = (((num (lowI V k) : Nat) : Int), 0) ∧ leftS (lowI V k ++ m) k = m := by
  have hl : (lowI V k ++ m).length = k + m.length := by rw [List.length_append, length_lowI]
  have h1 : takeS (lowI V k ++ m) 0 k = (((num (lowI V k) : Nat) : Int), 0) := by
    rw [takeS_in _ 0 k (by omega) (by omega), if_neg (by omega), hl, if_neg (by omega)]
    simp only [Int.toNat_natCast]
    rw [show (0 : Int).toNat = 0 from rfl, List.drop_zero, List.take_left' (length_lowI V k)]
  refine ⟨h1, ?_⟩
  unfold leftS
  rw [h1, if_pos rfl, Int.toNat_natCast, List.drop_left' (length_lowI V k)]
theorem ofInt64_pred (k : Nat) (hk : k ≤ 62) : (BitVec.ofInt 64 ((2 : Int) ^ k - 1)).toNat = 2 ^ k - 1 := by
  have hp := pow62 k hk
  have h1 : (1 : Nat) ≤ 2 ^ k := Nat.one_le_two_pow
  have e : ((2 : Int) ^ k - 1) = ((2 ^ k - 1 : Nat) : Int) := by rw [Int.ofNat_sub h1, Int.natCast_pow]; rfl
  rw [e, BitVec.ofInt_natCast, BitVec.toNat_ofNat]
  have h2 : 2 ^ k ≤ 2 ^ 62 := Nat.pow_le_pow_right (by omega) hk
  have h62 : (2 : Nat) ^ 62 = 4611686018427387904 := by decide
  exact Nat.mod_eq_of_lt (by omega)
theorem and_mask (V : Int) (k : Nat) (hk : k ≤ 62) : bits BinOp.and IntKind.i64 V (2 ^ k - 1) = V % 2 ^ k := by
  have hp := pow62 k hk
  show IntKind.i64.wrap ((BitVec.ofInt 64 V &&& BitVec.ofInt 64 (2 ^ k - 1)).toNat : Int) = _
  rw [BitVec.toNat_and, ofInt64_pred k hk, Nat.and_two_pow_sub_one_eq_mod, BitVec.toNat_ofInt, IntKind.wrap_i64]
  have h1 := Int.emod_nonneg V (Int.ne_of_gt hp.1)
  have h2 := Int.emod_lt_of_pos V hp.1
  have h64 : (2 ^ 64 : Nat) = 2 ^ k * 2 ^ (64 - k) := by rw [← Nat.pow_add, show k + (64 - k) = 64 by omega]
  have hd : ((2 ^ k : Nat) : Int) ∣ ((2 ^ 64 : Nat) : Int) := ⟨((2 ^ (64 - k) : Nat) : Int), by rw [h64, Int.natCast_mul]⟩
  have h3 : (((V % ((2 ^ 64 : Nat) : Int)).toNat % 2 ^ k : Nat) : Int) = V % 2 ^ k := by
    rw [Int.natCast_emod, Int.toNat_of_nonneg (Int.emod_nonneg V (by decide)), Int.emod_emod_of_dvd V hd, Int.natCast_pow]
    rfl
  rw [h3]
  omega

set_option maxHeartbeats 2000000 in
theorem law_inverse (A : Option Addr) (n c : Nat) (l : List (Int × Int)) (w : World) (hs : It w w.heap.size A n c l) :
    Calls Try.prog 8 #[.slice A n c] w fun e w' => e = .returned (.bool true) ∧ Below w.heap.size w w' := by
  have hmax := hs.max
  have hle := hs.le
  unfold maxLen at hmax
  by_cases h1 : 100 < n
  · go_enter Try.func8, Try.ntmps8
    go_wp2_with fail
    refine (alive_any _).mono ?_
    rintro e w2 ⟨rfl, hb2⟩
    go_wp2
    go_ret
    exact ⟨rfl, hb2⟩
  have HL := Lib.hid hs.len
  go_enter Try.func8, Try.ntmps8
  go_wp2
  go_loopw [3, 20] (fun v i wr => ∃ k : Nat, k ≤ n ∧ i = .int .i64 k ∧ (∃ A1 c1, v = .slice A1 (apps (l.take k)).length c1 ∧ Sl wr wr.heap.size A1 (apps (l.take k)).length c1 (bl (apps (l.take k)))) ∧ Below w.heap.size w wr) (fun _ i _ => n - (intOf i).toNat)
  case atStart => exact ⟨0, Nat.zero_le _, rfl, ⟨none, 0, rfl, Sl.none_ _ _⟩, Below.refl _ _⟩
  case round =>
    obtain ⟨k, hk, rfl, ⟨A1, c1, rfl, hsl⟩, hbel⟩ := hrel
    by_cases hlt : k < n
    · obtain ⟨b, off, rfl, hb, hc⟩ := (hs.below hbel).read (by omega)
      obtain ⟨hc0, hc1⟩ := hc k hlt
      have HC := Lib.hid hc
      clear hc
      have HT := Lib.hid (apps_take l k (by rw [HL.out]; exact hlt))
      have hlen := length_apps_take l k
      obtain ⟨x, hx⟩ : ∃ x, x = l.getD k (0, 0) := ⟨_, rfl⟩
      rw [← hx] at hc0 hc1 HT
      obtain ⟨V, N⟩ := x
      dsimp only at hc0 hc1
      have hk0 : (0 : Int) ≤ k := by omega
      have hk1 : (k : Int) < n := by omega
      have HAP := Lib.hid (append_any A1 _ c1 (apps (l.take k)) V N wr.drew (show Sl wr.drew wr.drew.heap.size A1 (apps (l.take k)).length c1 (bl (apps (l.take k))) from ⟨hsl.1, hsl.2, hsl.3, hsl.4, hsl.5⟩))
      clear hx
      by_cases hN0 : N < 0
      · have HAS := Lib.hid (appS_bad (apps (l.take k)) V N (by omega))
        have HT2 : Hid (apps (l.take (k + 1)) = apps (l.take k)) := by
          show _ = _
          rw [HT.out, if_neg (by simp only [okN, decide_eq_true_eq]; omega), List.append_nil]
        clear HT
        go_wp2
        go_region_with (go_at_call 13; refine HAP.out.mono ?_; rw [HAS.out]; rintro e w2 ⟨A2, c2, rfl, hs2, hb2⟩)
        all_goals
          have hbw : Below wr.heap.size wr w2 := ⟨hb2.os, hb2.tape, hb2.output, hb2.size, hb2.block⟩
          have hbel2 := below_step hbel hbw
          have hsl2 := Lib.hid (hsl.next hbw)
          have hc0' := (hbw.cell (p := ⟨b, off + k * 2, none⟩) (by have := hbel.size; show b < wr.heap.size; omega)).trans hc0
          have hc1' := (hbw.cell (p := ⟨b, off + k * 2 + 1, none⟩) (by have := hbel.size; show b < wr.heap.size; omega)).trans hc1
          clear hbw hb2 hsl hbel hc0 hc1 HAP hs2
          go_wp2
          go_roundw
          case rel => exact ⟨k + 1, by omega, by go_num, ⟨A1, c1, by rw [HT2.out], by rw [HT2.out]; exact hsl2.out⟩, hbel2⟩
          case measure => simp [intOf]; omega
      by_cases hN1 : 62 < N
      · have HAS := Lib.hid (appS_bad (apps (l.take k)) V N (by omega))
        have HT2 : Hid (apps (l.take (k + 1)) = apps (l.take k)) := by
          show _ = _
          rw [HT.out, if_neg (by simp only [okN, decide_eq_true_eq]; omega), List.append_nil]
        clear HT
        go_wp2
        go_region_with (go_at_call 13; refine HAP.out.mono ?_; rw [HAS.out]; rintro e w2 ⟨A2, c2, rfl, hs2, hb2⟩)
        all_goals
          have hbw : Below wr.heap.size wr w2 := ⟨hb2.os, hb2.tape, hb2.output, hb2.size, hb2.block⟩
          have hbel2 := below_step hbel hbw
          have hsl2 := Lib.hid (hsl.next hbw)
          have hc0' := (hbw.cell (p := ⟨b, off + k * 2, none⟩) (by have := hbel.size; show b < wr.heap.size; omega)).trans hc0
          have hc1' := (hbw.cell (p := ⟨b, off + k * 2 + 1, none⟩) (by have := hbel.size; show b < wr.heap.size; omega)).trans hc1
          clear hbw hb2 hsl hbel hc0 hc1 HAP hs2
          go_wp2
          go_roundw
          case rel => exact ⟨k + 1, by omega, by go_num, ⟨A1, c1, by rw [HT2.out], by rw [HT2.out]; exact hsl2.out⟩, hbel2⟩
          case measure => simp [intOf]; omega
      have HAS := Lib.hid (appS_ok (apps (l.take k)) V N (by omega) (by omega) (by omega))
      have HT2 : Hid (apps (l.take (k + 1)) = apps (l.take k) ++ lowI V N.toNat) := by
        show _ = _
        rw [HT.out, if_pos (by simp only [okN, decide_eq_true_eq]; omega)]
      clear HT
      go_wp2
      go_region_with (go_at_call 13; refine HAP.out.mono ?_; rw [HAS.out]; rintro e w2 ⟨A2, c2, rfl, hs2, hb2⟩)
      all_goals
        have hbw : Below wr.heap.size wr w2 := ⟨hb2.os, hb2.tape, hb2.output, hb2.size, hb2.block⟩
        have hbel2 := below_step hbel hbw
        have hc0' := (hbw.cell (p := ⟨b, off + k * 2, none⟩) (by have := hbel.size; show b < wr.heap.size; omega)).trans hc0
        have hc1' := (hbw.cell (p := ⟨b, off + k * 2 + 1, none⟩) (by have := hbel.size; show b < wr.heap.size; omega)).trans hc1
        have hs3 : Hid (Sl w2 w2.heap.size A2 (apps (l.take (k + 1))).length c2 (bl (apps (l.take (k + 1))))) := by
          rw [HT2.out]
          rw [length_bl] at hs2
          exact hs2
        have hlen2 : Hid ((bl (apps (l.take k) ++ lowI V N.toNat)).length = (apps (l.take (k + 1))).length) := by
          show _ = _
          rw [length_bl, HT2.out]
        clear hbw hb2 hsl hbel hc0 hc1 HAP hs2
        go_wp2
        go_roundw
        case rel => exact ⟨k + 1, by omega, by go_num, ⟨A2, c2, by rw [hlen2.out], hs3.out⟩, hbel2⟩
        case measure => simp [intOf]; omega
    · obtain rfl : k = n := by omega
      have hlen := length_apps_take l k
      rw [List.take_of_length_le (by rw [HL.out]; exact Nat.le_refl _)] at hsl hlen ⊢
      have hmaxs := hsl.max
      have hles := hsl.le
      unfold maxLen at hmaxs
      go_wp2_with fail
      refine (newReader_any _ _ _ (apps l) _ hsl (by omega)).mono ?_
      rintro e w2 ⟨g, rfl, hrd, hg, hb2⟩
      have hB2 := below_step hbel hb2
      have hgw : w.heap.size ≤ g := Nat.le_trans hbel.size hg
      have HRD := Lib.hid hrd
      clear hb2 hbel hsl hrd hg
      go_wp2
      obtain ⟨wo, rfl⟩ : ∃ wo : World, wo = wr := ⟨_, rfl⟩
      go_loopw [63] (fun i wr => ∃ j : Nat, j ≤ k ∧ i = .int .i64 j ∧ Hid (Rd wr g (apps (l.drop j))) ∧ Below w.heap.size w wr) (fun i _ => k - (intOf i).toNat)
      case atStart => exact ⟨0, Nat.zero_le _, rfl, HRD.out, hB2⟩
      case round =>
        obtain ⟨j, hj, rfl, hrd, hbel⟩ := hrel
        clear hB2 HRD
        by_cases hjk : j < k
        · obtain ⟨b, off, rfl, hb, hc⟩ := (hs.below hbel).read (by omega)
          obtain ⟨hc0, hc1⟩ := hc j hjk
          have HT := Lib.hid (apps_drop l j (by rw [HL.out]; exact hjk))
          clear hc
          obtain ⟨x, hx⟩ : ∃ x, x = l.getD j (0, 0) := ⟨_, rfl⟩
          rw [← hx] at hc0 hc1 HT
          obtain ⟨V, N⟩ := x
          dsimp only at hc0 hc1
          clear hx
          by_cases hN : N < 0 ∨ 62 < N
          · have hrd2 : Hid (Rd wr g (apps (l.drop (j + 1)))) := by
              have h := hrd.out
              rw [HT.out, if_neg (by simp only [okN, decide_eq_true_eq]; omega), List.nil_append] at h
              exact h
            clear HT hrd
            by_cases hN0 : N < 0
            all_goals
              go_wp2
              go_roundw
              case rel => exact ⟨j + 1, by omega, by go_num, hrd2, hbel⟩
              case measure => simp [intOf]; omega
          · obtain ⟨q, rfl⟩ := Int.eq_ofNat_of_zero_le (show 0 ≤ N by omega)
            have hq : q ≤ 62 := by omega
            have h0 := hrd.out
            rw [HT.out, if_pos (by simp only [okN, decide_eq_true_eq]; omega), Int.toNat_natCast] at h0
            have h1 := rtake_any g _ q wr h0
            rw [(takeS_front V q hq (apps (l.drop (j + 1)))).1, (takeS_front V q hq (apps (l.drop (j + 1)))).2] at h1
            have H1 := Lib.hid h1
            have hP := pow62 q hq
            have hand : (((num (lowI V q) : Nat) : Int) != bits BinOp.and IntKind.i64 V (2 ^ q - 1)) = false := by
              rw [and_mask V q hq, num_lowI]
              simp
            clear h0 h1 HT hrd
            go_wp2_with fail
            refine H1.out.mono ?_
            rintro e w4 ⟨rfl, hrd4, hb4⟩
            have hc0' := (hb4.cell (p := ⟨b, off + j * 2, none⟩) (by show b < g; omega)).trans hc0
            have hbel4 : Below w.heap.size w w4 := hbel.trans (hb4.mono hgw)
            have HR4 := Lib.hid hrd4
            clear hrd4 hb4 hc0 hc1 hbel H1
            go_wp2
            go_roundw
            case rel => exact ⟨j + 1, by omega, by go_num, HR4.out, hbel4⟩
            case measure => simp [intOf]; omega
        · obtain rfl : j = k := by omega
          have h0 := hrd.out
          rw [show l.drop j = [] from List.drop_eq_nil_of_le (by rw [HL.out]; exact Nat.le_refl _), show apps [] = [] from rfl] at h0
          have h1 := rtake_any g [] 1 wr h0
          rw [show takeS [] 0 1 = (0, 10) by decide, show leftS [] 1 = [] by decide] at h1
          have H1 := Lib.hid h1
          clear h0 h1 hrd
          go_wp2_with fail
          refine H1.out.mono ?_
          rintro e w4 ⟨rfl, hrd4, hb4⟩
          have hbel4 : Below w.heap.size w w4 := hbel.trans (hb4.mono hgw)
          have HLf := Lib.hid (left_any g [] w4 hrd4)
          clear hb4 H1 hrd4 hbel
          go_wp2_with fail
          refine HLf.out.mono ?_
          rintro e w' ⟨rfl, rfl⟩
          rw [show (([] : List Bool).length : Nat) = 0 from rfl]
          go_wp2_with fail
          refine (alive_any _).mono ?_
          rintro e w9 ⟨rfl, hb9⟩
          go_wp2
          go_ret
          exact ⟨rfl, below_step hbel4 hb9⟩
end Go.Proofs.Ytjpfalpengocjaa
