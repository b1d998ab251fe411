/- Contracts: appendGroup, isBase, lowPair. -/
import Derived.Test.YtebbpodcldndjaaWt
set_option linter.unusedVariables false
namespace Go.Proofs.Ytebbpodcldndjaa
open Go.RowKit

/-- bytes as cells -/
def byl (l : List Nat) : List Value := l.map fun x : Nat => Value.int .u8 (x : Int)
theorem length_byl (l : List Nat) : (byl l).length = l.length := by simp [byl]
theorem byteInfo : (Try.prog.info? 5).map (fun i => (i.zero, i.size, i.bytes)) = some (some (.int .u8 0), 1, 1) := by kernel_rfl
/-- digits as characters -/
def chs (l : List Nat) : List Nat := l.map fun d => 48 + d
theorem length_chs (l : List Nat) : (chs l).length = l.length := by simp [chs]

theorem own_val {w : World} {base n : Nat} {e : TypeId} {v : Value} {xs : List Value} {k : IntKind} {a b : Int} (h : w.ownsRow base e 1 v n (xs ++ [.int k a])) (hab : a = b) : w.ownsRow base e 1 v n (xs ++ [.int k b]) := by rw [← hab]; exact h

set_option maxRecDepth 100000 in
theorem appendGroup_own (base : Nat) (v0 : Value) (n : Nat) (L : List Nat) (g : Nat) (w : World) (hown : w.ownsRow base 5 1 v0 n (byl L)) (hb : base ≤ w.heap.size) (hg : g < 4294967296) (hn : n ≤ 1048576) :
    Calls Try.prog 79 #[v0, .int .u32 (g : Int)] w fun e w' =>
      ∃ v, e = .returned v ∧ w'.ownsRow base 5 1 v (n + 9) (byl (L ++ chs (low10 9 g))) ∧ Below base w w' := by
  obtain ⟨i0, hi, hz0, hz1, hz2⟩ := info_parts byteInfo
  go_enter Try.func79, Try.ntmps79
  go_wp2
  go_loopw [0, 1, 5] (fun v gr i wr => ∃ (j x : Nat), j ≤ 9 ∧ i = .int .i64 j ∧ gr = .int .u32 (x : Int) ∧ x < 4294967296 ∧ Hid (x = g / 10 ^ j) ∧ wr.ownsRow base 5 1 v (n + j) (byl (L ++ chs (low10 j g))) ∧ Below base w wr)
    (fun _ _ i _ => 9 - (intOf i).toNat)
  case atStart => exact ⟨0, g, by omega, rfl, rfl, hg, Lib.hid (by simp), by simpa [low10, chs] using hown, Below.refl _ _⟩
  case round =>
    obtain ⟨j, x, hj, rfl, rfl, hx, hxe, hownr, hbel⟩ := hrel
    clear hown
    have hsz := hbel.size
    by_cases hlt : j < 9
    · have HS := Lib.hid (low10_snoc j g)
      rw [← hxe.out] at HS
      have hx2 := Lib.hid (show x / 10 = g / 10 ^ (j + 1) by rw [hxe.out, Nat.div_div_eq_div_mul, Nat.pow_succ])
      have hx10 : x / 10 < 4294967296 := by omega
      clear hxe
      go_wp2_with (at_builtin; refine wpList_append_one rfl _ _ 76 rfl base 5 i0 (.int .u8 0) 1 Try.underlying76 hi hz0 hz1 hz2 rfl _ _ _ rfl hownr _ _ rfl rfl (by unfold maxLen; omega) (by omega) w hbel (by omega) ?_)
      intro v' w2 hown' hbel'
      have hown2 := Lib.hid (own_val hown' (b := ((48 + x % 10 : Nat) : Int)) (by omega))
      have hown3 : Hid (w2.ownsRow base 5 1 v' (n + (j + 1)) (byl (L ++ chs (low10 (j + 1) g)))) := by
        show World.ownsRow _ _ _ _ _ _ _
        rw [HS.out]
        simpa [byl, chs, Nat.add_assoc] using hown2.out
      clear hown' hown2 hownr hbel
      go_wp2
      go_roundw
      case rel => exact ⟨j + 1, x / 10, by omega, by go_num, by go_num, hx10, hx2, hown3.out, hbel'⟩
      case measure => simp [intOf]; omega
    · obtain rfl : j = 9 := by omega
      go_wp2
      go_ret
      exact ⟨_, rfl, hownr, hbel⟩

/-- whether digits in a base are possible -/
def baseB (b : Int) : Bool := decide (2 ≤ b) && decide (b ≤ 65536)
theorem isBase_any (b : Int) (w : World) :
    Calls Try.prog 82 #[.int .i64 b] w fun e w' => e = .returned (.bool (baseB b)) ∧ w = w' := by
  by_cases h1 : 2 ≤ b
  · by_cases h2 : b ≤ 65536
    · have hr : baseB b = true := by unfold baseB; rw [decide_eq_true h1, decide_eq_true h2]; rfl
      rw [hr]
      go_enter Try.func82, Try.ntmps82
      go_wp2
      go_ret
      exact ⟨rfl, rfl⟩
    · have hr : baseB b = false := by unfold baseB; rw [decide_eq_false h2, Bool.and_false]
      rw [hr]
      go_enter Try.func82, Try.ntmps82
      go_wp2
      go_ret
      exact ⟨rfl, rfl⟩
  · have hr : baseB b = false := by unfold baseB; rw [decide_eq_false h1, Bool.false_and]
    rw [hr]
    go_enter Try.func82, Try.ntmps82
    go_wp2
    go_ret
    exact ⟨rfl, rfl⟩
end Go.Proofs.Ytebbpodcldndjaa
