/- Contracts of package bch: levels, Format, Version. -/
import Derived.Test.YtnkoenohngkcmaaW5
import Derived.LoopN
set_option linter.unusedVariables false
namespace Go.Proofs.Ytnkoenohngkcmaa
open Go.RowKit

theorem degF : Deg 1335 10 := by unfold Deg; omega
theorem degV : Deg 7973 12 := by unfold Deg; omega
theorem okF : OkC ((5 : Nat) : Int) ((1335 : Nat) : Int) := by unfold OkC; omega
theorem okV : OkC ((6 : Nat) : Int) ((7973 : Nat) : Int) := by unfold OkC; omega
theorem distF : dist 1335 10 5 = 7 := by decide +kernel
theorem distV : dist 7973 12 6 = 8 := by decide +kernel

/-- the four levels lie at block b -/
structure Lv (w : World) (b : Nat) : Prop where
  c0 : w.cell? ⟨b, 0, none⟩ = some (.int .i64 2)
  c1 : w.cell? ⟨b, 1, none⟩ = some (.int .i64 1)
  c2 : w.cell? ⟨b, 2, none⟩ = some (.int .i64 4)
  c3 : w.cell? ⟨b, 3, none⟩ = some (.int .i64 3)
theorem levels_any (w : World) : Calls Try.prog 40 #[] w fun e w' => e = .returned (.slice (some ⟨w.heap.size, 0, none⟩) 4 4) ∧ Lv w' w.heap.size ∧ Below w.heap.size w w' := by
  go_enter Try.func40, Try.ntmps40
  go_wp2
  go_ret
  refine ⟨rfl, ⟨?_, ?_, ?_, ?_⟩, below_new _ _⟩ <;> simp
/-- the number of a level -/
def lvI (level : Int) : Int := if level = 2 then 0 else if level = 1 then 1 else if level = 4 then 2 else if level = 3 then 3 else -1
set_option maxRecDepth 100000 in
theorem index_any (level : Int) (b : Nat) (w : World) (h : Lv w b) : Calls Try.prog 39 #[.slice (some ⟨b, 0, none⟩) 4 4, .int .i64 level] w fun e w' => e = .returned (.int .i64 (lvI level)) ∧ w = w' := by
  obtain ⟨c0, c1, c2, c3⟩ := h
  by_cases h2 : level = 2
  · subst h2
    go_enter Try.func39, Try.ntmps39
    go_wp2
    refine wp_loop_rounds 1 ?_
    rw [rounds_succ]; go_wp2
    go_ret
    exact ⟨rfl, rfl⟩
  by_cases h1 : level = 1
  · subst h1
    go_enter Try.func39, Try.ntmps39
    go_wp2
    refine wp_loop_rounds 2 ?_
    rw [rounds_succ]; go_wp2
    rw [rounds_succ]; go_wp2
    go_ret
    exact ⟨rfl, rfl⟩
  by_cases h4 : level = 4
  · subst h4
    go_enter Try.func39, Try.ntmps39
    go_wp2
    refine wp_loop_rounds 3 ?_
    rw [rounds_succ]; go_wp2
    rw [rounds_succ]; go_wp2
    rw [rounds_succ]; go_wp2
    go_ret
    exact ⟨rfl, rfl⟩
  by_cases h3 : level = 3
  · subst h3
    go_enter Try.func39, Try.ntmps39
    go_wp2
    refine wp_loop_rounds 4 ?_
    rw [rounds_succ]; go_wp2
    rw [rounds_succ]; go_wp2
    rw [rounds_succ]; go_wp2
    rw [rounds_succ]; go_wp2
    go_ret
    exact ⟨rfl, rfl⟩
  have hr : lvI level = -1 := by unfold lvI; simp [h1, h2, h3, h4]
  rw [hr]
  clear hr
  go_enter Try.func39, Try.ntmps39
  go_wp2
  refine wp_loop_rounds 5 ?_
  rw [rounds_succ]; go_wp2
  rw [rounds_succ]; go_wp2
  rw [rounds_succ]; go_wp2
  rw [rounds_succ]; go_wp2
  rw [rounds_succ]; go_wp2
  go_ret
  exact ⟨rfl, rfl⟩

theorem isVersion_yes (n : Int) (h1 : 7 ≤ n) (h2 : n ≤ 40) (w : World) : Calls Try.prog 42 #[.int .i64 n] w fun e w' => e = .returned (.bool true) ∧ w = w' := by
  go_enter Try.func42, Try.ntmps42
  go_wp2
  go_ret
  exact ⟨rfl, rfl⟩
theorem isVersion_no (n : Int) (h : n < 7 ∨ 40 < n) (w : World) : Calls Try.prog 42 #[.int .i64 n] w fun e w' => e = .returned (.bool false) ∧ w = w' := by
  by_cases h1 : 7 ≤ n
  · have h2 : ¬ n ≤ 40 := by omega
    have h2d : decide (n ≤ 40) = false := decide_eq_false h2
    clear h
    go_enter Try.func42, Try.ntmps42
    go_wp2
    go_ret
    exact ⟨by first | rfl | (show Ending.returned (.bool (decide (n ≤ 40))) = _; rw [h2d]), rfl⟩
  · clear h
    go_enter Try.func42, Try.ntmps42
    go_wp2
    go_ret
    exact ⟨rfl, rfl⟩

theorem version_no (n : Int) (h : n < 7 ∨ 40 < n) (w : World) : Calls Try.prog 22 #[.int .i64 n] w fun e w' => e = .returned (.tuple #[.int .i64 0, .int .i64 14]) ∧ Below w.heap.size w w' := by
  go_enter Try.func22, Try.ntmps22
  go_wp2_with fail
  refine (isVersion_no n h _).mono ?_
  rintro e w1 ⟨rfl, rfl⟩
  go_wp2
  exact bodyPost_ret (v := .tuple #[.int .i64 0, .int .i64 14]) (by simp [results, Try.results22, go_sem]) rfl ⟨rfl, Below.refl _ _⟩
theorem version_yes (n : Nat) (h1 : 7 ≤ n) (h2 : n ≤ 40) (w : World) : Calls Try.prog 22 #[.int .i64 (n : Int)] w fun e w' => e = .returned (.tuple #[.int .i64 ((cw 7973 12 6 n : Nat) : Int), .int .i64 0]) ∧ Below w.heap.size w w' := by
  have HE := encode_ok n 6 7973 12 okV degV (by omega) (by omega)
  go_enter Try.func22, Try.ntmps22
  go_wp2_with fail
  refine (isVersion_yes n (by omega) (by omega) _).mono ?_
  rintro e w1 ⟨rfl, rfl⟩
  go_wp2_with fail
  refine (HE _).mono ?_
  rintro e w1 ⟨rfl, hb⟩
  go_wp2
  exact bodyPost_ret (v := .tuple #[.int .i64 ((cw 7973 12 6 n : Nat) : Int), .int .i64 0]) (by simp [results, Try.results22, go_sem]) rfl ⟨rfl, hb⟩

theorem format_level (level mask : Int) (h : lvI level = -1) (w : World) : Calls Try.prog 18 #[.int .i64 level, .int .i64 mask] w fun e w' => e = .returned (.tuple #[.int .i64 0, .int .i64 15]) ∧ Below w.heap.size w w' := by
  go_enter Try.func18, Try.ntmps18
  go_wp2_with fail
  refine (levels_any _).mono ?_
  rintro e w1 ⟨rfl, hl, hb⟩
  go_wp2_with fail
  refine (index_any level _ _ hl).mono ?_
  rintro e w1 ⟨rfl, rfl⟩
  rw [h]
  go_wp2
  exact bodyPost_ret (v := .tuple #[.int .i64 0, .int .i64 15]) (by simp [results, Try.results18, go_sem]) rfl ⟨rfl, hb⟩
theorem format_mask (level mask : Int) (b : Nat) (h : lvI level = (b : Int)) (hm : mask < 0 ∨ 8 ≤ mask) (w : World) : Calls Try.prog 18 #[.int .i64 level, .int .i64 mask] w fun e w' => e = .returned (.tuple #[.int .i64 0, .int .i64 3]) ∧ Below w.heap.size w w' := by
  go_enter Try.func18, Try.ntmps18
  go_wp2_with fail
  refine (levels_any _).mono ?_
  rintro e w1 ⟨rfl, hl, hb⟩
  go_wp2_with fail
  refine (index_any level _ _ hl).mono ?_
  rintro e w1 ⟨rfl, rfl⟩
  rw [h]
  by_cases h0 : mask < 0
  · go_wp2
    exact bodyPost_ret (v := .tuple #[.int .i64 0, .int .i64 3]) (by simp [results, Try.results18, go_sem]) rfl ⟨rfl, hb⟩
  · have h8 : 8 ≤ mask := by omega
    clear hm
    go_wp2
    exact bodyPost_ret (v := .tuple #[.int .i64 0, .int .i64 3]) (by simp [results, Try.results18, go_sem]) rfl ⟨rfl, hb⟩
theorem cwF_lt (v : Nat) (hv : v < 32) : cw 1335 10 5 v < 32768 := cw_lt degF 5 v hv
set_option maxHeartbeats 1000000 in
set_option maxRecDepth 100000 in
theorem format_ok (level : Int) (mask b : Nat) (h : lvI level = (b : Int)) (hb4 : b < 4) (hm : mask < 8) (w : World) : Calls Try.prog 18 #[.int .i64 level, .int .i64 (mask : Int)] w fun e w' => e = .returned (.tuple #[.int .i64 ((cw 1335 10 5 (b * 8 + mask) ^^^ 21522 : Nat) : Int), .int .i64 0]) ∧ Below w.heap.size w w' := by
  obtain ⟨V, hV⟩ : ∃ V, b * 8 + mask = V := ⟨_, rfl⟩
  have hV32 : V < 32 := by omega
  have hbm : (b : Int) * 8 + (mask : Int) = (V : Int) := by omega
  rw [hV]
  clear hV
  have HE := encode_ok V 5 1335 10 okF degF (by omega) hV32
  have HX := i64_xor (cw 1335 10 5 V) 21522 15 (cwF_lt V hV32) (by omega) (by omega)
  have hC30 : (cw 1335 10 5 V : Int) ≤ 32768 := by have := cwF_lt V hV32; omega
  obtain ⟨X, hX⟩ : ∃ X, cw 1335 10 5 V ^^^ 21522 = X := ⟨_, rfl⟩
  rw [hX] at HX ⊢
  clear hX
  obtain ⟨C, hC⟩ : ∃ C, cw 1335 10 5 V = C := ⟨_, rfl⟩
  rw [hC] at HX HE hC30
  clear hC
  have HX2 : bits BinOp.xor IntKind.i64 (C : Int) 21522 = (X : Int) := HX
  clear HX
  go_enter Try.func18, Try.ntmps18
  go_wp2_with fail
  refine (levels_any _).mono ?_
  rintro e w1 ⟨rfl, hl, hb⟩
  go_wp2_with fail
  refine (index_any level _ _ hl).mono ?_
  rintro e w1 ⟨rfl, rfl⟩
  rw [h]
  go_wp2_with fail
  refine (HE _).mono ?_
  rintro e w2 ⟨rfl, hb2⟩
  go_wp2
  exact bodyPost_ret (v := .tuple #[.int .i64 (X : Int), .int .i64 0]) (by simp [results, Try.results18, go_sem]) rfl ⟨rfl, below_step hb hb2⟩
end Go.Proofs.Ytnkoenohngkcmaa
