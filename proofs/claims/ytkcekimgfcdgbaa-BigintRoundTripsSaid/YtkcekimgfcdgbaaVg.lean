/- Contracts: ToInt of what has two limbs at most. -/
import Derived.Test.YtkcekimgfcdgbaaVc
import Derived.StillTailTactics
set_option linter.unusedVariables false
namespace Go.Proofs.Ytkcekimgfcdgbaa
open Go.RowKit

set_option maxRecDepth 100000 in
set_option maxHeartbeats 1000000 in
theorem toInt_short (neg : Bool) (A : Option Addr) (n c v : Nat) (w : World) (hs : Sl w w.heap.size A n c (ml (enc v))) (hva : Vd neg v) (h2 : n ≤ 2) (r e0 : Int) (hr : toIntS neg v = (r, e0)) :
    Calls Try.prog 33 #[.agg #[.bool neg, .slice A n c]] w fun e w' => e = .returned (.tuple #[.int .i64 r, .int .i64 e0]) ∧ Below w.heap.size w w' := by
  have hl : (enc v).length = n := by rw [← length_ml]; exact hs.len
  have HA := At.new w (.bool neg) (.slice A n c)
  have hb0 := below_new w (.cells #[.bool neg, .slice A n c] 24)
  have h1 := hs.next hb0
  clear hs
  have h2I : (n : Int) ≤ 2 := by omega
  obtain ⟨x, hx⟩ : ∃ x, (enc v).getD 0 0 = x := ⟨_, rfl⟩
  obtain ⟨y, hy⟩ : ∃ y, (enc v).getD 1 0 = y := ⟨_, rfl⟩
  have hxl : x < 4294967296 := by rw [← hx]; exact (ok_enc v).getD 0
  have hyl : y < 4294967296 := by rw [← hy]; exact (ok_enc v).getD 1
  have hxy := low_two (show (enc v).length ≤ 2 by omega)
  rw [hx, hy] at hxy
  have HJ := Lib.hid (fun W : World => join_any x y W hxl hyl)
  rw [hxy.1] at HJ
  have hsp : splice [Value.int .u32 0, Value.int .u32 0] 0 (ml (enc v)) = [Value.int .u32 (x : Int), Value.int .u32 (y : Int)] := by
    generalize enc v = l at *
    match l, hl with
    | [], _ => simp [splice, ml] at hx hy ⊢; omega
    | [p], _ => simp [splice, ml] at hx hy ⊢; omega
    | [p, q], _ => simp [splice, ml] at hx hy ⊢; omega
    | p :: q :: s :: t, h => simp at h; omega
  have HSP := Lib.hid hsp
  have HV := Lib.hid hxy.2
  have HRR := Lib.hid hr
  clear hx hy hxy hsp hr
  go_enter Try.func33, Try.ntmps33
  go_wp2_with fail
  refine (valid_true hva h1).mono ?_
  rintro e w1 ⟨rfl, hb1⟩
  have HA1 := HA.next hb1
  obtain ⟨a1, a2, _, _⟩ := HA1.facts
  have HB := below_step hb0 hb1
  have h3 := h1.next hb1
  have hg1 := HA1.lt
  clear h1 HA hb0 hb1
  go_wp2
  refine wp_region_still_tail 3 (by kernel_rfl) (by kernel_rfl) ?_
  simp only [List.take_succ_cons, List.take_zero, List.drop_succ_cons, List.drop_zero]
  obtain ⟨W, hW⟩ : ∃ W, W = w1.alloc (.cells #[.int .u32 0, .int .u32 0] 67) := ⟨_, rfl⟩
  have hWn := below_new w1 (.cells #[.int .u32 0, .int .u32 0] 67)
  have hgW := heap_alloc_new w1 (.cells #[.int .u32 0, .int .u32 0] 67)
  rw [← hW] at hWn hgW ⊢
  have HAW := (HA1.next hWn).drew
  have hsW := (h3.next hWn).drew
  have HBW := (below_step HB hWn).drew
  have hgW2 : W.drew.heap[w1.heap.size]? = some (.cells #[.int .u32 0, .int .u32 0] 67 (0, 0)) := hgW
  have hlt : w1.heap.size < W.drew.heap.size := (Array.getElem?_eq_some_iff.1 hgW).1
  change wpStill _ _ W.drew (fun a' => wpList _ _ _ _ a' W.drew) _ _
  obtain ⟨V, hV⟩ : ∃ V, V = W.drew := ⟨_, rfl⟩
  rw [← hV] at HAW hsW HBW hgW2 hlt ⊢
  clear hW hWn hgW HA1 h3 HB a1 a2 hV
  obtain ⟨a1, a2, _, _⟩ := HAW.facts
  refine wpStill_step (fun K hK => ?_)
  go_simp
  refine hK _ ?_
  clear hK K
  refine wpStill_step (fun K hK => ?_)
  go_simp
  refine hK _ ?_
  clear hK K
  refine wpStill_step (fun K hK => ?_)
  go_simp
  refine hK _ ?_
  clear hK K
  refine wpStill_nil ?_
  refine wpList_copy_splice rfl (.tmp 13) (.tmp 15) 22 22 rfl 63 Try.underlying22 (by kernel_rfl) (some ⟨w1.heap.size, 0, none⟩) A 2 2 n c (by rfl) (by rfl) w1.heap.size 0 [.int .u32 0, .int .u32 0] 67 hgW2 (ml (enc v)) ?c2 ?c3 ?c4 (one_ml _) w1.heap.size V (Below.refl _ _) (Nat.le_refl _) ?_
  case c2 => rw [length_ml]; show _ = min n 2; omega
  case c3 =>
    intro hp
    rw [length_ml] at hp
    refine ⟨rfl, ?_⟩
    obtain ⟨b, off, e, hb, hc⟩ := hsW.read (by omega)
    refine ⟨_, e, fun i u hu => ?_⟩
    have := hc i u hu
    rw [Addr.add_lit]
    exact this
  case c4 => rw [length_ml]; simp; omega
  intro w2 hg2 hb2
  have hg3 := hg2.out
  rw [HSP.out] at hg3
  have k1 : w2.cell? ⟨w1.heap.size, 0, none⟩ = some (.int .u32 (x : Int)) := by rw [cell_of_row w2 _ 0 _ _ _ hg3]; rfl
  have k2 : w2.cell? ⟨w1.heap.size, 1, none⟩ = some (.int .u32 (y : Int)) := by rw [cell_of_row w2 _ 1 _ _ _ hg3]; rfl
  have HA2 := HAW.below hb2 hg1
  have HB2 := HBW.trans (hb2.mono (by omega))
  clear a1 a2 hg2 hg3 hgW2 hsW HAW HBW hb2
  obtain ⟨a1, a2, _, _⟩ := HA2.facts
  go_wp2_with fail
  refine (HJ.out _).mono ?_
  rintro e w3 ⟨rfl, hb3⟩
  have HA3 := HA2.next hb3
  have HB3 := below_step HB2 hb3
  clear a1 a2 k1 k2 hb3 HA2 HB2
  obtain ⟨a1, a2, _, _⟩ := HA3.facts
  have hv64 := HV.out
  have hva1 := hva.1
  have H1 : Hid (neg = true → v ≤ 9223372036854775808 → r = -(v : Int) ∧ e0 = 0) := by
    intro h h'
    have h4 := HRR.out
    unfold toIntS at h4
    rw [if_pos ⟨h, h'⟩] at h4
    injection h4 with g1 g2
    exact ⟨g1.symm, g2.symm⟩
  have H2 : Hid (neg = false → v < 9223372036854775808 → r = (v : Int) ∧ e0 = 0) := by
    intro h h'
    have h4 := HRR.out
    unfold toIntS at h4
    rw [if_neg (by rw [h]; simp), if_pos ⟨h, h'⟩] at h4
    injection h4 with g1 g2
    exact ⟨g1.symm, g2.symm⟩
  have H3 : Hid (¬ (neg = true ∧ v ≤ 9223372036854775808) → ¬ (neg = false ∧ v < 9223372036854775808) → r = 0 ∧ e0 = 13) := by
    intro h h'
    have h4 := HRR.out
    unfold toIntS at h4
    rw [if_neg h, if_neg h'] at h4
    injection h4 with g1 g2
    exact ⟨g1.symm, g2.symm⟩
  clear HSP HJ HRR HV hva hl
  cases neg
  · by_cases hv : v < 9223372036854775808
    · obtain ⟨rfl, rfl⟩ := H2.out rfl hv
      have hvI : (v : Int) < 9223372036854775808 := by omega
      clear H1 H2 H3 hva1 hv
      go_wp2
      go_ret2
      exact ⟨rfl, HB3⟩
    · obtain ⟨rfl, rfl⟩ := H3.out (by simp) (by omega)
      have hd : decide ((v : Int) < 9223372036854775808) = false := decide_eq_false (by omega)
      clear H1 H2 H3 hva1 hv
      go_wp2
      go_ret2
      exact ⟨rfl, HB3⟩
  · have hv0 := hva1 rfl
    by_cases hv : v ≤ 9223372036854775808
    · obtain ⟨rfl, rfl⟩ := H1.out rfl hv
      have hvI : (v : Int) ≤ 9223372036854775808 := by omega
      have hw : IntKind.u64.wrap (-(v : Int)) = 18446744073709551616 - (v : Int) := by rw [IntKind.wrap_u64]; omega
      have hw2 : IntKind.i64.wrap (18446744073709551616 - (v : Int)) = -(v : Int) := by rw [IntKind.wrap_i64]; omega
      clear H1 H2 H3 hva1 hv
      go_wp2
      go_ret2
      exact ⟨rfl, HB3⟩
    · obtain ⟨rfl, rfl⟩ := H3.out (by omega) (by simp)
      have hvI : (9223372036854775808 : Int) < (v : Int) := by omega
      clear H1 H2 H3 hva1 hv
      go_wp2
      go_ret2
      exact ⟨rfl, HB3⟩
theorem toInt_any (neg : Bool) (A : Option Addr) (n c v : Nat) (w : World) (hs : Sl w w.heap.size A n c (ml (enc v))) (hva : Vd neg v) (r e0 : Int) (hr : toIntS neg v = (r, e0)) :
    Calls Try.prog 33 #[.agg #[.bool neg, .slice A n c]] w fun e w' => e = .returned (.tuple #[.int .i64 r, .int .i64 e0]) ∧ Below w.heap.size w w' := by
  by_cases h2 : 2 < n
  · have hl : (enc v).length = n := by rw [← length_ml]; exact hs.len
    rw [toInt_big (by omega)] at hr
    injection hr with e1 e2
    subst e1 e2
    exact toInt_long neg A n c v w hs hva h2
  · exact toInt_short neg A n c v w hs hva (by omega) r e0 hr
end Go.Proofs.Ytkcekimgfcdgbaa
