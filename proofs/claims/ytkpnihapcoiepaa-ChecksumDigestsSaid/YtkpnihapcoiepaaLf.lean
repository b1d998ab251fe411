/- ChecksumBytes returns true for every argument. No condition. -/
import Derived.Test.YtkpnihapcoiepaaLd
import Derived.Deep.RegionHeld3
import Derived.Deep.DrawnRows
set_option linter.unusedVariables false
namespace Go.Proofs.Ytkpnihapcoiepaa
open Go.RowKit
attribute [local go_sem ↓] Go.wp_at_zero Go.wp_at_succ

theorem byl_set (l : List Nat) (i t : Nat) : (byl l).set i (.int .u8 (t : Int)) = byl (l.set i t) := by simp [byl, List.map_set]
theorem byt_set {l : List Nat} (h : Byt l) (i : Nat) {t : Nat} (ht : t < 256) : Byt (l.set i t) := by
  intro y hy
  rcases List.mem_or_eq_of_mem_set hy with k | rfl
  · exact h _ k
  · exact ht
theorem sl_drew {w : World} {B : Nat} {A : Option Addr} {n c : Nat} {xs : List Value} (h : Sl w B A n c xs) : Sl w.drew B A n c xs := h.keep fun _ _ => rfl

set_option maxRecDepth 100000 in
set_option maxHeartbeats 2000000 in
theorem law_bytes (A : Option Addr) (n c : Nat) (l : List Nat) (x y : Int) (w : World) (hs : Sl w w.heap.size A n c (byl l)) (hb : Byt l) (hx : 0 ≤ x ∧ x ≤ 65535) (hy : 0 ≤ y ∧ y ≤ 255) :
    Calls Try.prog 13 #[.slice A n c, .int .u16 x, .int .u8 y] w fun e w' => e = .returned (.bool true) ∧ Below w.heap.size w w' := by
  have hmax := hs.max
  have hle := hs.le
  unfold maxLen at hmax
  have hexit : ∀ w0 : World, Below w.heap.size w w0 → Calls Try.prog 16 #[] w0 fun e w' => e = .returned (.bool true) ∧ Below w.heap.size w w' :=
    fun w0 h0 => (examples_any w0).mono fun _ _ ⟨he, hb⟩ => ⟨he, below_step h0 hb⟩
  by_cases hn : 2000 < n
  · go_enter Try.func13, Try.ntmps13
    go_wp2_with fail
    refine (hexit _ (Below.refl _ _)).mono ?_
    rintro e w6 ⟨rfl, hb6⟩
    go_wp2
    go_ret
    exact ⟨rfl, hb6⟩
  by_cases hn0 : n = 0
  · subst hn0
    go_enter Try.func13, Try.ntmps13
    go_wp2_with fail
    refine (hexit _ (Below.refl _ _)).mono ?_
    rintro e w6 ⟨rfl, hb6⟩
    go_wp2
    go_ret
    exact ⟨rfl, hb6⟩
  · have hpos : 0 < n := by omega
    have hz : ((n : Int) == 0) = false := by simp; omega
    clear hn0
    have hl : l.length = n := by rw [← length_byl]; exact hs.len
    obtain ⟨i, hi⟩ : ∃ i : Nat, x % (n : Int) = (i : Int) := ⟨(x % (n : Int)).toNat, by have := Int.emod_nonneg x (show (n : Int) ≠ 0 by omega); omega⟩
    have hin : i < n := by have := Int.emod_lt_of_pos x (show (0 : Int) < n by omega); omega
    obtain ⟨t, rfl⟩ := Int.eq_ofNat_of_zero_le hy.1
    have ht : t < 256 := by omega
    obtain ⟨hx0, hx1⟩ := hx
    clear hy
    obtain ⟨i0, hi0, hz0, hz1, hz2⟩ := info_parts byteInfo
    have hown0 := World.ownsRow_nil w w.heap.size 5 1
    go_enter Try.func13, Try.ntmps13
    go_wp2_with (at_builtin; refine wpList_append_slice rfl (.tmp 18) (.tmp 19) 22 rfl w.heap.size 5 i0 (.int .u8 0) 1 Try.underlying22 hi0 hz0 hz1 hz2 rfl _ 0 [] rfl hown0 w.heap.size A n c (byl l) rfl hs (one_byl l) (by unfold maxLen; omega) (by omega) (by simp) ?_)
    intro v1 w1 hown1 hgrow1
    have hB1 : Below w.heap.size w w1 := (Below.refl _ _).grown hgrow1 (by simp) (fun k hk => (hown0.lt k hk).1)
    replace hown1 : w1.ownsRow w.heap.size 5 1 v1 n (byl l) := by simpa using hown1
    obtain ⟨g, cap, rfl, hgb, hgl⟩ := hown1.form hpos
    have hcell := hown1.cellAt i (by omega)
    have hfr := hown1.frozenAt i
    rw [show (byl l)[i]? = some (.int .u8 ((l.getD i 0 : Nat) : Int)) by simp [byl, List.getD, show i < l.length by omega]] at hcell
    have hst := (hown1.stored i (.int .u8 (t : Int))).1
    rw [byl_set] at hst
    have hB2 := hB1.setCell (p := ⟨g, i, none⟩) hgb (.int .u8 (t : Int))
    have hs2 := hs.below hB2
    obtain ⟨b, off, rfl, hbB, hc⟩ := hs2.at_ hin (.int .u8 0)
    rw [getD_byl _ _ (by omega)] at hc
    have hsq := Sl.of_own hst
    have hbq := byt_set hb i ht
    have hpi := hb.getD i
    have HA := Lib.hid (adler_set l i t (by omega) ht hpi)
    have HQ : Hid (∀ W : World, Sl W (w1.setCell ⟨g, i, none⟩ (.int .u8 (t : Int))).heap.size (some ⟨g, 0, none⟩) n cap (byl (l.set i t)) → Calls Try.prog 19 #[.slice (some ⟨g, 0, none⟩) n cap] W fun e w' => e = .returned (.int .u32 ((adler (l.set i t) : Nat) : Int)) ∧ W = w') := fun W h => adler_any _ _ _ _ _ W h hbq
    have HP : Hid (∀ W : World, Sl W w.heap.size (some ⟨b, off, none⟩) n c (byl l) → Calls Try.prog 19 #[.slice (some ⟨b, off, none⟩) n c] W fun e w' => e = .returned (.int .u32 ((adler l : Nat) : Int)) ∧ W = w') := fun W h => adler_any _ _ _ _ _ W h hb
    have ik0 : (0 : Int) ≤ (i : Int) := by omega
    have ik1 : (i : Int) < (n : Int) := by omega
    replace hs2 := Lib.hid (sl_drew hs2)
    replace hsq := Lib.hid (sl_drew hsq)
    have hBd := Lib.hid (show Below w.heap.size w (w1.setCell ⟨g, i, none⟩ (.int .u8 (t : Int))).drew from hB2.trans (Below.drew (Below.refl _ _)))
    have KC : Hid (∀ W : World, Below w.heap.size w W → W.cell? ⟨b, off + i, none⟩ = some (.int .u8 ((l.getD i 0 : Nat) : Int))) := fun W h => by rw [h.cell (p := ⟨b, off + i, none⟩) hbB, ← hB2.cell (p := ⟨b, off + i, none⟩) hbB]; exact hc
    clear hB2
    clear hown1 hst hB1 hgrow1 hown0 hs
    generalize adler (l.set i t) = Q at *
    generalize adler l = PA at *
    generalize l.getD i 0 = P at *
    have hcd := KC.out _ hBd.out
    by_cases htp : t = P
    · obtain rfl : Q = PA := HA.out.2 htp
      subst htp
      clear HA
      go_wp2
      go_region_held3 (fun W => W.cell? ⟨b, off + i, none⟩ = some (.int .u8 ((t : Nat) : Int)))
        (first | assumption | (exact KC.out _ (by assumption)))
        (first
        | (go_at_call 19; (with_reducible refine (HQ.out _ hsq.out).mono ?_); rintro e wd ⟨rfl, rfl⟩)
        | (go_at_call 19; (with_reducible refine (HP.out _ hs2.out).mono ?_); rintro e wd ⟨rfl, rfl⟩)
        | (go_at_call 16; (with_reducible refine (hexit _ hBd.out).mono ?_); rintro e wd ⟨rfl, hb6⟩))
      all_goals
        go_wp2
        go_ret
        exact ⟨rfl, hb6⟩
    · have hne : ¬ Q = PA := fun e => htp (HA.out.1 e)
      have e1 : ((Q : Int) == (PA : Int)) = false := by simp; omega
      have e2 : ((t : Int) == (P : Int)) = false := by simp; omega
      clear HA hne htp
      go_wp2
      go_region_held3 (fun W => W.cell? ⟨b, off + i, none⟩ = some (.int .u8 ((P : Nat) : Int)))
        (first | assumption | (exact KC.out _ (by assumption)))
        (first
        | (go_at_call 19; (with_reducible refine (HQ.out _ hsq.out).mono ?_); rintro e wd ⟨rfl, rfl⟩)
        | (go_at_call 19; (with_reducible refine (HP.out _ hs2.out).mono ?_); rintro e wd ⟨rfl, rfl⟩)
        | (go_at_call 16; (with_reducible refine (hexit _ hBd.out).mono ?_); rintro e wd ⟨rfl, hb6⟩))
      all_goals
        go_wp2
        go_ret
        exact ⟨rfl, hb6⟩
end Go.Proofs.Ytkpnihapcoiepaa
