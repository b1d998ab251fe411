/- Contracts: divide by one limb, or by what is greater. -/
import Derived.Test.YtebbpodcldndjaaWr
import Derived.Test.YtebbpodcldndjaaWv
import Derived.Deep.RegionHeld3
set_option linter.unusedVariables false
namespace Go.Proofs.Ytebbpodcldndjaa
open Go.RowKit

/-- a call that returns a quotient and a remainder -/
def GiveQR (q r : Nat) (w : World) (e : Ending) (w' : World) : Prop :=
  ∃ A c A' c', e = .returned (.tuple #[.slice A (enc q).length c, .slice A' (enc r).length c']) ∧ Sl w' w'.heap.size A (enc q).length c (ml (enc q)) ∧ Sl w' w'.heap.size A' (enc r).length c' (ml (enc r)) ∧ Below w.heap.size w w'

set_option maxRecDepth 100000 in
set_option maxHeartbeats 1000000 in
theorem divide_lt (A A' : Option Addr) (n c n' c' a b : Nat) (w : World) (hs : Sl w w.heap.size A n c (ml (enc a))) (hs' : Sl w w.heap.size A' n' c' (ml (enc b))) (hab : a < b) (hn : n ≤ 1048576) :
    Calls Try.prog 64 #[.slice A n c, .slice A' n' c'] w (GiveQR 0 a w) := by
  have HC := Lib.hid (compare_any A A' n c n' c' (enc a) (enc b) w hs hs' (ok_enc a) (ok_enc b) (top_enc a) (top_enc b))
  rw [val_enc, val_enc, sgn_lt hab] at HC
  go_enter Try.func64, Try.ntmps64
  go_wp2_with fail
  refine HC.out.mono ?_
  rintro e w1 ⟨rfl, hb1⟩
  have HCl := Lib.hid (clone_any _ _ _ _ _ (hs.next hb1) hn)
  go_wp2_with fail
  refine HCl.out.mono ?_
  rintro e w2 ⟨A2, c2, rfl, hs2, hb2⟩
  go_wp2
  go_ret2
  exact ⟨none, 0, A2, c2, by rw [enc_zero]; rfl, by rw [enc_zero]; exact Sl.none_ _ _, hs2, below_step hb1 hb2⟩

theorem enc_one {b : Nat} (h : (enc b).length = 1) : 0 < b ∧ b < 4294967296 ∧ enc b = [b] := by
  have h0 : b ≠ 0 := by rintro rfl; rw [enc_zero] at h; simp at h
  have h1 : b < 4294967296 := by
    have := (length_enc_le b 1).1 (by omega)
    simpa using this
  refine ⟨by omega, h1, ?_⟩
  rw [enc_pos h0, Nat.mod_eq_of_lt h1, Nat.div_eq_of_lt h1, enc_zero]
theorem enc_small (r : Nat) (h : r < 4294967296) : enc (val [r]) = enc r := by rw [val_cons, val_nil]; simp

theorem small_new (w : World) (r : Nat) : Sl (w.alloc (.cells #[.int .u32 (r : Int)] 63)) (w.alloc (.cells #[.int .u32 (r : Int)] 63)).heap.size (some ⟨w.heap.size, 0, none⟩) 1 1 (ml [r]) := by
  refine ⟨rfl, Nat.le_refl _, by unfold maxLen; omega, (fun h => by cases h), fun _ => ⟨w.heap.size, 0, rfl, by simp, fun j u hu => ?_⟩⟩
  match j, hu with
  | 0, hu =>
    simp [ml] at hu
    subst hu
    simp

set_option maxRecDepth 100000 in
set_option maxHeartbeats 2000000 in
theorem divide_one (A A' : Option Addr) (n c n' c' a b : Nat) (w : World) (hs : Sl w w.heap.size A n c (ml (enc a))) (hs' : Sl w w.heap.size A' n' c' (ml (enc b))) (hab : b ≤ a) (hb1 : (enc b).length = 1) (hn : n ≤ 1048576) :
    Calls Try.prog 64 #[.slice A n c, .slice A' n' c'] w (GiveQR (a / b) (a % b) w) := by
  obtain ⟨hb0, hbl, hbe⟩ := enc_one hb1
  have HC := Lib.hid (compare_any A A' n c n' c' (enc a) (enc b) w hs hs' (ok_enc a) (ok_enc b) (top_enc a) (top_enc b))
  rw [val_enc, val_enc] at HC
  have hsg : (0 : Int) ≤ sgn a b := by rcases sgn_cases a b with ⟨h, e⟩ | ⟨h, e⟩ | ⟨h, e⟩ <;> omega
  have hl' : (enc b).length = n' := by rw [← length_ml]; exact hs'.len
  obtain rfl : n' = 1 := by omega
  have hl : (enc a).length = n := by rw [← length_ml]; exact hs.len
  generalize sgn a b = sg at HC hsg
  obtain ⟨q, hq⟩ : ∃ q, a / b = q := ⟨_, rfl⟩
  obtain ⟨r, hr⟩ : ∃ r, a % b = r := ⟨_, rfl⟩
  have hrl : r < 4294967296 := by have := Nat.mod_lt a hb0; omega
  rw [hq, hr]
  have HDL : Hid (∀ (W : World) (B : Nat) (A5 : Option Addr) (c5 : Nat), W.ownsRow B 63 1 (.slice A5 n c5) n (ml (enc a)) → B ≤ W.heap.size →
      Calls Try.prog 78 #[.slice A5 n c5, .int .u32 (b : Int)] W (fun e w' => ∃ A' c', e = .returned (.tuple #[.slice A' (enc q).length c', .int .u32 ((r : Nat) : Int)]) ∧
        w'.ownsRow B 63 1 (.slice A' (enc q).length c') (enc q).length (ml (enc q)) ∧ Below B W w' ∧ (A' = none ∨ A' = A5) ∧ W.grownBy w' (Value.slice A5 n c5).ownBlock)) := by
    intro W B A5 c5 ho hB
    have := divideLimb_own B A5 n c5 b (enc a) W ho (ok_enc a) hb0 hbl hB
    rwa [val_enc, hq, hr] at this
  have HQS : Hid ((enc q).length ≤ 1048576) := by
    refine Nat.le_trans ?_ hn
    rw [← hl]
    refine (length_enc_le q _).2 ?_
    have := (length_enc_le a _).1 (Nat.le_refl (enc a).length)
    have h2 : a / b ≤ a := Nat.div_le_self _ _
    omega
  have HLA := Lib.hid hl
  rw [hbe] at hs'
  clear hq hr hab hl hbe hl' hb1
  go_enter Try.func64, Try.ntmps64
  go_wp2_with fail
  refine HC.out.mono ?_
  rintro e w1 ⟨rfl, hb2⟩
  have h1 := hs.next hb2
  obtain ⟨bb, off, rfl, hbb, hc⟩ := (hs'.next hb2).at_ (show 0 < 1 by omega) (.int .u32 0)
  rw [getD_ml _ 0 (by simp)] at hc
  have hc0 : w1.cell? ⟨bb, off, none⟩ = some (.int .u32 (b : Int)) := hc
  have HCl := Lib.hid (clone_own A n c (enc a) w1.drew h1.drew hn)
  have hB1 := hb2.drew
  clear hc h1 hs hs'
  go_wp2
  go_region_held3 (fun w' => w'.cell? ⟨bb, off, none⟩ = some (.int .u32 (b : Int)))
    (first | assumption | go_keep | simp [*])
    (first
    | (go_at_call 59; refine HCl.out.mono ?_; rintro e w5 ⟨A5, c5, rfl, ho5, hb5⟩; rw [HLA.out] at ho5 ⊢; have hB5 := below_step hB1 hb5; have p1 : w5.cell? ⟨bb, off, none⟩ = some (.int .u32 (b : Int)) := (hb5.cell (p := ⟨bb, off, none⟩) hbb).trans hc0)
    | (go_at_call 78; refine (HDL.out _ _ A5 c5 ho5 (by have := hb5.size; simpa using this)).mono ?_; rintro e w6 ⟨A6, c6, rfl, ho6, hb6, _, _⟩; have hB6 := hb5.trans hb6; have p2 : w6.cell? ⟨bb, off, none⟩ = some (.int .u32 (b : Int)) := (hB6.cell (p := ⟨bb, off, none⟩) hbb).trans hc0))
  all_goals
    have hs6 := Sl.of_own ho6
    have hB7 := below_step hB1 hB6
    have HT := Lib.hid (trim_any _ _ _ [r] _ (small_new w6 r) (Ok.cons hrl Ok.nil))
    rw [enc_small r hrl] at HT
    have hs7 := hs6.next (below_new w6 (.cells #[.int .u32 (r : Int)] 63))
    have hB8 := below_step hB7 (below_new w6 (.cells #[.int .u32 (r : Int)] 63))
    clear hs6 ho6 hB7
    go_wp2_with fail
    refine HT.out.mono ?_
    rintro e w8 ⟨⟨A8, c8, rfl, hs8, _⟩, rfl⟩
    go_wp2
    go_ret2
    exact ⟨A6, c6, A8, c8, rfl, hs7, hs8, hB8⟩
end Go.Proofs.Ytebbpodcldndjaa
