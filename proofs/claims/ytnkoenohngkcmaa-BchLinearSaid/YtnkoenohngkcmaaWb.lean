/- Contracts of the specification of bch: ParseFormat; that it finds what the package finds. -/
import Derived.Test.YtnkoenohngkcmaaWa
set_option linter.unusedVariables false
namespace Go.Proofs.Ytnkoenohngkcmaa
open Go.RowKit

/-- the number of the level with the index a -/
def sg (a : Nat) : Nat := if a = 0 then 1 else if a = 1 then 0 else if a = 2 then 3 else 2
theorem lvI_sg (a : Nat) (h : a < 4) : lvI ((a : Int) + 1) = (sg a : Int) := by
  rcases (show a = 0 ∨ a = 1 ∨ a = 2 ∨ a = 3 by omega) with rfl | rfl | rfl | rfl <;> rfl
theorem sg_lt (a : Nat) : sg a < 4 := by
  unfold sg
  split
  · omega
  · split
    · omega
    · split <;> omega
/-- the data at index j of the specification's search -/
def sgj (j : Nat) : Nat := sg (j / 8) * 8 + j % 8
def fv (j : Nat) : Nat := cw 1335 10 5 (sgj j) ^^^ 21522
theorem sgj_at (a m : Nat) (hm : m < 8) : sgj (8 * a + m) = sg a * 8 + m := by
  unfold sgj
  rw [show (8 * a + m) / 8 = a by omega, show (8 * a + m) % 8 = m by omega]
theorem sgj_lt (j : Nat) : sgj j < 32 := by have := sg_lt (j / 8); unfold sgj; omega
theorem fv_lt (j : Nat) : fv j < 2 ^ 15 := by
  have hcw : cw 1335 10 5 (sgj j) < 2 ^ 15 := cwF_lt (sgj j) (sgj_lt j)
  unfold fv
  exact Nat.xor_lt_two_pow hcw (by omega)
def rp (word : Nat) (j : Nat) : Bool := decide (wt (fv j ^^^ word) ≤ 3)
/-- what the specification's ParseFormat returns -/
def rfV (word : Nat) : Option Nat → Value
  | some j => .tuple #[.int .i64 ((j / 8 : Nat) + 1 : Int), .int .i64 ((j % 8 : Nat) : Int), .int .i64 ((wt (fv j ^^^ word) : Nat) : Int), .int .i64 0]
  | none => .tuple #[.int .i64 0, .int .i64 0, .int .i64 0, .int .i64 21]
theorem rp_hit {word n j : Nat} (h : wt (fv j ^^^ word) ≤ 3) : first (rp word) (n + 1) j = some j := by
  simp [first, rp, h]
theorem rp_miss {word n j : Nat} (h : 3 < wt (fv j ^^^ word)) : first (rp word) (n + 1) j = first (rp word) n (j + 1) := by
  have h2 : ¬ wt (fv j ^^^ word) ≤ 3 := by omega
  simp [first, rp, h2]

theorem rParseFormat_out (word : Int) (h : word < 0 ∨ 32768 ≤ word) (w : World) : Calls Try.prog 21 #[.int .i64 word] w fun e w' =>
    e = .returned (.tuple #[.int .i64 0, .int .i64 0, .int .i64 0, .int .i64 3]) ∧ w = w' := by
  by_cases h1 : word < 0
  · clear h
    go_enter Try.func21, Try.ntmps21
    go_wp2
    exact bodyPost_ret (v := .tuple #[.int .i64 0, .int .i64 0, .int .i64 0, .int .i64 3]) (by simp [results, Try.results21, go_sem]) rfl ⟨rfl, rfl⟩
  · have h2 : 32768 ≤ word := by omega
    clear h
    go_enter Try.func21, Try.ntmps21
    go_wp2
    exact bodyPost_ret (v := .tuple #[.int .i64 0, .int .i64 0, .int .i64 0, .int .i64 3]) (by simp [results, Try.results21, go_sem]) rfl ⟨rfl, rfl⟩

set_option maxRecDepth 100000 in
theorem rParseFormat_ok (word : Nat) (hw : word < 32768) (w : World) : Calls Try.prog 21 #[.int .i64 (word : Int)] w fun e w' =>
    e = .returned (rfV word (first (rp word) 32 0)) ∧ w = w' := by
  have HF : Hid (∀ a m : Nat, a < 4 → m < 8 → ∀ W, Calls Try.prog 19 #[.int .i64 ((a : Int) + 1), .int .i64 (m : Int)] W fun e w' => e = .returned (.tuple #[.int .i64 ((fv (8 * a + m) : Nat) : Int), .int .i64 0]) ∧ W = w') := by
    refine Lib.hid ?_
    intro a m ha hm W
    have := rFormat_ok ((a : Int) + 1) m (sg a) (lvI_sg a ha) (sg_lt a) hm W
    unfold fv
    rw [sgj_at a m hm]
    exact this
  have HX : Hid (∀ j, Go.bits .xor .i64 ((fv j : Nat) : Int) (word : Int) = ((fv j ^^^ word : Nat) : Int) ∧ fv j ^^^ word < 1073741824) := by
    refine Lib.hid ?_
    intro j
    have hc := fv_lt j
    exact ⟨i64_xor _ _ 15 hc hw (by omega), Nat.lt_of_lt_of_le (Nat.xor_lt_two_pow hc hw) (by decide)⟩
  obtain ⟨R, hR⟩ : ∃ R, first (rp word) 32 0 = R := ⟨_, rfl⟩
  have HR := Lib.hid hR
  rw [hR]
  clear hR
  have hw0 : decide ((word : Int) < 0) = false := decide_eq_false (by omega)
  have hw1 : decide (32768 ≤ (word : Int)) = false := decide_eq_false (by omega)
  clear hw
  generalize (word : Int) = zw at *
  go_enter Try.func21, Try.ntmps21
  go_wp2_with fail
  go_loop [6] (fun x => ∃ a : Nat, x = .int .i64 ((a : Int) + 1) ∧ a ≤ 4 ∧ Hid (first (rp word) (32 - 8 * a) (8 * a) = R)) (fun x => 5 - (intOf x).toNat)
  case atStart => exact ⟨0, rfl, by omega, Lib.hid HR.out⟩
  case round =>
    obtain ⟨a, rfl, ha, hm⟩ := hrel
    by_cases ha4 : a < 4
    · have had : decide ((a : Int) + 1 ≤ 4) = true := decide_eq_true (by omega)
      have HFa := Lib.hid (fun m hm => HF.out a m ha4 hm)
      obtain ⟨z, hz⟩ : ∃ z : Int, (a : Int) + 1 = z := ⟨_, rfl⟩
      have HZ := Lib.hid hz
      rw [hz] at had HFa ⊢
      have HA4 := Lib.hid ha4
      clear hz ha ha4
      go_wp2_with fail
      go_hide hQ
      go_loop [7] (fun y => ∃ m : Nat, y = .int .i64 (m : Int) ∧ m ≤ 8 ∧ Hid (first (rp word) (32 - 8 * a - m) (8 * a + m) = R)) (fun y => 8 - (intOf y).toNat)
      case atStart => exact ⟨0, rfl, by omega, Lib.hid hm.out⟩
      case round =>
        obtain ⟨m, rfl, hm8, hin⟩ := hrel
        by_cases hlt : m < 8
        · have hmd : decide ((m : Int) < 8) = true := decide_eq_true (by omega)
          have HFm := HFa.out m hlt
          obtain ⟨hx, hx30⟩ := HX.out (8 * a + m)
          obtain ⟨J, hJ⟩ : ∃ J : Nat, 8 * a + m = J := ⟨_, rfl⟩
          have HJ := Lib.hid hJ
          have h2 : Hid ((wt (fv J ^^^ word) ≤ 3 → R = some J) ∧ (3 < wt (fv J ^^^ word) → first (rp word) (32 - 8 * a - (m + 1)) (8 * a + (m + 1)) = R)) := by
            have h1 := hin.out
            have h3 := HA4.out
            rw [show 32 - 8 * a - m = (32 - 8 * a - (m + 1)) + 1 by omega, hJ] at h1
            refine Lib.hid ⟨fun h => ?_, fun h => ?_⟩
            · rw [rp_hit h] at h1; exact h1.symm
            · rw [rp_miss h] at h1; rw [← h1, ← hJ, Nat.add_assoc]
          rw [hJ] at HFm hx hx30
          clear hJ hin hm
          obtain ⟨X, hX⟩ : ∃ X, fv J ^^^ word = X := ⟨_, rfl⟩
          have HXX := Lib.hid hX
          rw [hX] at hx hx30 h2
          clear hX
          obtain ⟨C, hC⟩ : ∃ C, fv J = C := ⟨_, rfl⟩
          rw [hC] at HFm hx
          clear hC
          obtain ⟨T, hT⟩ : ∃ T, wt X = T := ⟨_, rfl⟩
          have HW := rWeight_any X (by omega)
          have HT := Lib.hid hT
          rw [hT] at HW h2
          clear hT
          go_wp2_with fail
          refine (HFm _).mono ?_
          rintro e w1 ⟨rfl, rfl⟩
          go_wp2_with fail
          refine (HW _).mono ?_
          rintro e w1 ⟨rfl, rfl⟩
          by_cases hTL : T ≤ 3
          · have HE := Lib.hid (h2.out.1 hTL)
            have hTL2 : decide ((T : Int) ≤ 3) = true := decide_eq_true (by omega)
            have HG : Hid (rfV word R = .tuple #[.int .i64 z, .int .i64 (m : Int), .int .i64 (T : Int), .int .i64 0]) := by
              refine Lib.hid ?_
              rw [HE.out, ← HZ.out, ← HT.out, ← HXX.out]
              unfold rfV
              simp only
              rw [show J / 8 = a by have := HJ.out; omega, show J % 8 = m by have := HJ.out; omega]
            clear hTL HW HFm hx hx30 h2
            generalize (T : Int) = t at *
            go_wp2
            subst hQ
            go_wp2
            exact bodyPost_ret (v := .tuple #[.int .i64 z, .int .i64 (m : Int), .int .i64 t, .int .i64 0]) (by simp [results, Try.results21, go_sem]) rfl ⟨by rw [HG.out], rfl⟩
          · have HE := Lib.hid (h2.out.2 (by omega))
            have hTL2 : decide ((T : Int) ≤ 3) = false := decide_eq_false (by omega)
            clear hTL HW HFm hx hx30 h2
            generalize (T : Int) = t at *
            go_wp2
            go_round
            case rel => exact ⟨m + 1, by go_num, hlt, HE⟩
            case measure => simp [intOf]; omega
        · obtain rfl : m = 8 := by omega
          have HE : Hid (first (rp word) (32 - 8 * (a + 1)) (8 * (a + 1)) = R) := by
            refine Lib.hid ?_
            rw [← hin.out]
            congr 1
          clear hin hm
          have hz2 : z ≤ 4 := by have := HZ.out; have := HA4.out; omega
          have hz1 : 1 ≤ z := by have := HZ.out; have := HA4.out; omega
          go_wp2
          subst hQ
          go_wp2
          go_round
          case rel => exact ⟨a + 1, valI (by have := HZ.out; omega), HA4.out, HE⟩
          case measure => simp [intOf] <;> omega
    · obtain rfl : a = 4 := by omega
      have HE : Hid (R = none) := Lib.hid (by rw [← hm.out]; show first (rp word) 0 _ = none; rfl)
      clear hm
      have h5 : ((4 : Nat) : Int) + 1 = 5 := rfl
      rw [h5]
      clear h5 ha4 ha
      go_wp2
      exact bodyPost_ret (v := .tuple #[.int .i64 0, .int .i64 0, .int .i64 0, .int .i64 21]) (by simp [results, Try.results21, go_sem]) rfl ⟨by rw [HE.out]; rfl, rfl⟩

theorem sg_sg (a : Nat) (h : a < 4) : sg (sg a) = a := by
  rcases (show a = 0 ∨ a = 1 ∨ a = 2 ∨ a = 3 by omega) with rfl | rfl | rfl | rfl <;> rfl
theorem sg_lvOf (a : Nat) (h : a < 4) : ((sg a : Nat) : Int) + 1 = lvOf a := by
  rcases (show a = 0 ∨ a = 1 ∨ a = 2 ∨ a = 3 by omega) with rfl | rfl | rfl | rfl <;> rfl
theorem sgj_sgj (j : Nat) (h : j < 32) : sgj (sgj j) = j := by
  have h1 := sg_lt (j / 8)
  have h2 : sgj j / 8 = sg (j / 8) := by unfold sgj; omega
  have h3 : sgj j % 8 = j % 8 := by unfold sgj; omega
  have h4 : sgj (sgj j) = sg (sgj j / 8) * 8 + sgj j % 8 := rfl
  rw [h4, h2, h3, sg_sg _ (by omega)]
  omega
theorem fv_word (j word : Nat) : fv j ^^^ word = (word ^^^ 21522) ^^^ cw 1335 10 5 (sgj j) := by
  unfold fv
  rw [Nat.xor_comm, Nat.xor_comm (cw 1335 10 5 (sgj j)) 21522, Nat.xor_assoc]
theorem near_pred {g d k word L n v u : Nat} (h : near g d k word L n v = some u) : wt (word ^^^ cw g d k u) ≤ L := by
  have := (first_some _ _ _ _ h).1
  simpa using this
theorem near_none {g d k word L n v : Nat} (h : near g d k word L n v = none) (u : Nat) (h1 : v ≤ u) (h2 : u < v + n) : L < wt (word ^^^ cw g d k u) := by
  have := first_none _ _ _ h u h1 h2
  simp at this
  exact this
theorem parse_same (word : Nat) : rfV word (first (rp word) 32 0) = pfV (word ^^^ 21522) (near 1335 10 5 (word ^^^ 21522) 3 32 0) := by
  have h3 : (dist 1335 10 5 - 1) / 2 = 3 := by rw [distF]
  cases h : near 1335 10 5 (word ^^^ 21522) 3 32 0 with
  | none =>
    cases hr : first (rp word) 32 0 with
    | none => rfl
    | some j =>
      obtain ⟨h1, h2, h4⟩ := first_some _ _ _ _ hr
      have h5 : wt (fv j ^^^ word) ≤ 3 := of_decide_eq_true h1
      rw [fv_word] at h5
      have := near_none h (sgj j) (Nat.zero_le _) (by have := sgj_lt j; omega)
      omega
  | some v =>
    have hv := near_lt h
    have hp := near_pred h
    have hv32 : v < 32 := by omega
    have hf : first (rp word) 32 0 = some (sgj v) := by
      apply first_one
      · exact Nat.zero_le _
      · have := sgj_lt v; omega
      · apply decide_eq_true
        rw [fv_word, sgj_sgj v hv32]
        exact hp
      · intro x _ hx hpx
        have hx5 : wt (fv x ^^^ word) ≤ 3 := of_decide_eq_true hpx
        rw [fv_word] at hx5
        have := near_one degF 5 (word ^^^ 21522) (sgj x) v (sgj_lt x) hv32 (by rw [h3]; exact hx5) (by rw [h3]; exact hp) (by rw [distF]; omega)
        rw [← this, sgj_sgj x (by omega)]
    rw [hf]
    unfold rfV pfV
    simp only
    have h1 := sg_lt (v / 8)
    have h2 : sgj v / 8 = sg (v / 8) := by unfold sgj; omega
    have h4 : sgj v % 8 = v % 8 := by unfold sgj; omega
    rw [h2, h4, sg_lvOf _ (by omega), fv_word, sgj_sgj v hv32]
end Go.Proofs.Ytnkoenohngkcmaa
