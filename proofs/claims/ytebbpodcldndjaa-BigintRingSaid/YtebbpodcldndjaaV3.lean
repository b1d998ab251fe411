/- Contracts: Digits. -/
import Derived.Test.YtebbpodcldndjaaV2
import Derived.Test.YtebbpodcldndjaaWb
set_option linter.unusedVariables false
namespace Go.Proofs.Ytebbpodcldndjaa
open Go.RowKit

theorem intInfo : (Try.prog.info? 3).map (fun i => (i.zero, i.size, i.bytes)) = some (some (.int .i64 0), 1, 8) := by kernel_rfl
/-- the digits of a number, the most significant first; 0 has one -/
def digsS (b v : Nat) : List Nat := if v = 0 then [0] else (digs b v).reverse
/-- a call that returns numbers and an error number -/
def GiveN (l : List Nat) (err : Int) (w : World) (e : Ending) (w' : World) : Prop :=
  ∃ A c, e = .returned (.tuple #[.slice A l.length c, .int .i64 err]) ∧ Sl w' w'.heap.size A l.length c (nl l) ∧ Below w.heap.size w w'
theorem nil_new (w : World) : Sl (w.alloc (.cells #[.int .i64 0] 3)) (w.alloc (.cells #[.int .i64 0] 3)).heap.size (some ⟨w.heap.size, 0, none⟩) 1 1 (nl [0]) := by
  refine ⟨rfl, Nat.le_refl _, by unfold maxLen; omega, (fun h => by cases h), fun _ => ⟨w.heap.size, 0, rfl, by simp, fun j u hu => ?_⟩⟩
  match j, hu with
  | 0, hu =>
    simp [nl] at hu
    subst hu
    simp
/-- what of a number its low digits have left -/
def Dg (b v : Nat) (L : List Nat) (m : Nat) : Prop := ∃ t, L.length = t ∧ L = (digs b v).take t ∧ m = v / b ^ t ∧ (m ≠ 0 → t < (digs b v).length) ∧ (m = 0 → L = digs b v)
theorem digs_drop (b : Nat) (hb : 2 ≤ b) (v t : Nat) : (digs b v).drop t = digs b (v / b ^ t) := by
  induction t generalizing v with
  | zero => simp
  | succ t ih =>
    by_cases h : v = 0
    · subst h; rw [digs_zero, Nat.zero_div, digs_zero]; simp
    · rw [digs_pos hb h, List.drop_succ_cons, ih, Nat.div_div_eq_div_mul, Nat.pow_succ, Nat.mul_comm b]
theorem digs_grow {b v m t : Nat} {L : List Nat} (hb : 2 ≤ b) (hL : L = (digs b v).take t) (hlen : L.length = t) (hm : m = v / b ^ t) (h0 : m ≠ 0) : L ++ [m % b] = (digs b v).take (t + 1) ∧ m / b = v / b ^ (t + 1) := by
  have hd := digs_drop b hb v t
  rw [← hm, digs_pos hb h0] at hd
  constructor
  · have e : digs b v = L ++ (m % b :: digs b (m / b)) := by rw [hL, ← hd, List.take_append_drop]
    rw [e, List.take_append, hlen]
    simp
    rw [List.take_of_length_le (by omega)]
  · rw [hm, Nat.div_div_eq_div_mul, Nat.pow_succ]
theorem digs_done {b v t : Nat} {L : List Nat} (hb : 2 ≤ b) (hL : L = (digs b v).take t) (hm : 0 = v / b ^ t) : L = digs b v := by
  have hd := digs_drop b hb v t
  rw [← hm, digs_zero] at hd
  rw [hL, ← List.append_nil ((digs b v).take t), ← hd, List.take_append_drop]
theorem digs_more {b v m t : Nat} {L : List Nat} (hb : 2 ≤ b) (hL : L = (digs b v).take t) (hlen : L.length = t) (hm : m = v / b ^ t) (h0 : m ≠ 0) : t < (digs b v).length := by
  have hd := digs_drop b hb v t
  rw [← hm, digs_pos hb h0] at hd
  have := congrArg List.length hd
  rw [List.length_drop, List.length_cons] at this
  omega

theorem own_apart {w : World} {B : Nat} {e : TypeId} {v : Value} {n : Nat} {xs : List Value} {row : Option Nat} (h : w.ownsRow B e 1 v n xs) (hr : ∀ k, row = some k → k < B) : v.ownBlock = none ∨ v.ownBlock ≠ row := by
  cases hv : v.ownBlock with
  | none => exact .inl rfl
  | some k =>
    refine .inr fun e => ?_
    have h1 := (h.lt k hv).1
    have h2 := hr k e.symm
    omega
def lenOf : Value → Nat
  | .slice _ n _ => n
  | _ => 0
theorem own_in {A A' : Option Addr} {n c n' c' B : Nat} (hA : A' = none ∨ A' = A) (h : ∀ k, (Value.slice A n c).ownBlock = some k → k < B) : ∀ k, (Value.slice A' n' c').ownBlock = some k → k < B := by
  intro k hk
  rcases hA with rfl | rfl
  · cases hk
  · cases A' with
    | none => cases hk
    | some a => exact h k hk

set_option maxRecDepth 100000 in
set_option maxHeartbeats 4000000 in
theorem digits_any (A : Option Addr) (n c v base : Nat) (w : World) (hs : Sl w w.heap.size A n c (ml (enc v))) (hva : Vd false v) (hb : 2 ≤ base) (hb2 : base ≤ 65536) (r1 : List Nat) (r2 : Int)
    (HR : Hid (((digsS base v).length ≤ 4096 → r1 = digsS base v ∧ r2 = 0) ∧ (4096 < (digsS base v).length → r1 = [] ∧ r2 = 4))) :
    Calls Try.prog 43 #[.agg #[.bool false, .slice A n c], .int .i64 (base : Int)] w (GiveN r1 r2 w) := by
  have hl : (enc v).length = n := by rw [← length_ml]; exact hs.len
  have hn : n ≤ 512 := by rw [← hl]; exact hva.2
  obtain ⟨i0, hi, hz0, hz1, hz2⟩ := info_parts intInfo
  have HA := At.new w (.bool false) (.slice A n c)
  have hb0 := below_new w (.cells #[.bool false, .slice A n c] 24)
  have h1 := hs.next hb0
  have hbB : baseB (base : Int) = true := by unfold baseB; rw [decide_eq_true (by omega), decide_eq_true (by omega)]; rfl
  have HBase : Hid (∀ W : World, Calls Try.prog 82 #[.int .i64 (base : Int)] W fun e w' => e = .returned (.bool true) ∧ W = w') := by
    intro W
    have := isBase_any (base : Int) W
    rwa [hbB] at this
  clear hs hbB
  by_cases h0 : n = 0
  · subst h0
    have hv0 := enc_eq_nil hl
    have HRR := Lib.hid (HR.out.1 (by unfold digsS; rw [if_pos hv0]; simp))
    have HD : Hid (digsS base v = [0]) := by show _ = _; unfold digsS; rw [if_pos hv0]
    clear hv0 hl HR
    go_enter Try.func43, Try.ntmps43
    go_wp2_with fail
    refine (valid_true hva h1).mono ?_
    rintro e w1 ⟨rfl, hb1⟩
    obtain ⟨a1, a2, _, _⟩ := (HA.next hb1).facts
    have HB1 := below_step hb0 hb1
    clear h1
    go_wp2_with fail
    refine (HBase.out _).mono ?_
    rintro e w2 ⟨rfl, rfl⟩
    go_wp2
    go_ret2
    rw [HRR.out.1, HRR.out.2, HD.out]
    exact ⟨_, _, rfl, by first | exact nil_new _ | (simpa using nil_new _), by first | exact below_step HB1 (below_new _ _) | exact below_step HB1.drew (below_new _ _)⟩
  · have hv0 : v ≠ 0 := by rintro rfl; rw [enc_zero] at hl; exact h0 hl.symm
    have hds : digsS base v = (digs base v).reverse := by unfold digsS; rw [if_neg hv0]
    have HFit := Lib.hid (fun (h : (digs base v).length ≤ 4096) => HR.out.1 (by rw [hds, List.length_reverse]; exact h))
    have HLong := Lib.hid (fun (h : 4096 < (digs base v).length) => HR.out.2 (by rw [hds, List.length_reverse]; exact h))
    have HDS := Lib.hid hds
    have HNL := Lib.hid hl
    clear hds hl HR hv0
    go_enter Try.func43, Try.ntmps43
    go_wp2_with fail
    refine (valid_true hva h1).mono ?_
    rintro e w1 ⟨rfl, hb1⟩
    obtain ⟨a1, a2, _, _⟩ := (HA.next hb1).facts
    have HB1 := below_step hb0 hb1
    have hs1 := h1.next hb1
    clear h1
    go_wp2_with fail
    refine (HBase.out _).mono ?_
    rintro e w2 ⟨rfl, rfl⟩
    have hn0 : (0 : Int) < (n : Int) := by omega
    go_wp2_with fail
    refine (clone_own A n c (enc v) _ (by first | exact hs1.drew | exact hs1) (by omega)).mono ?_
    rintro e w3 ⟨A3, c3, rfl, ho3, hb3⟩
    rw [HNL.out] at ho3 ⊢
    have hlt3 := Lib.hid (fun k hk => (ho3.lt k hk).2)
    have HB3 : Below w.heap.size w w3 := by first | exact below_step HB1 hb3 | exact below_step HB1.drew hb3
    obtain ⟨B1, hB1⟩ : ∃ B1, w1.heap.size = B1 := ⟨_, rfl⟩
    have ho3' : w3.ownsRow B1 63 1 (.slice A3 n c3) n (ml (enc v)) := by rw [← hB1]; exact ho3
    have hB13 : B1 ≤ w3.heap.size := by rw [← hB1]; exact hb3.size
    obtain ⟨B2, hB2⟩ : ∃ B2, w3.heap.size = B2 := ⟨_, rfl⟩
    rw [hB2] at hlt3 hB13
    have hwB1 : w.heap.size ≤ B1 := by rw [← hB1]; exact HB1.size
    have hB2' : B2 ≤ w3.heap.size := by omega
    clear ho3 hb3 hB1 hs1 hb1 a1 a2 HB1 hB2
    go_wp2
    go_loopw [6, 7] (fun out mag wr => ∃ (t m nm co cm : Nat) (Ao Am : Option Addr) (L : List Nat), out = .slice Ao t co ∧ mag = .slice Am nm cm ∧ t ≤ 4096 ∧ nm ≤ 512 ∧ Hid ((enc m).length = nm) ∧ Hid (L.length = t ∧ L = (digs base v).take t ∧ m = v / base ^ t) ∧
        wr.ownsRow B2 3 1 (.slice Ao t co) t (nl L) ∧ wr.ownsRow B1 63 1 (.slice Am nm cm) nm (ml (enc m)) ∧ Hid (∀ k, (Value.slice Am nm cm).ownBlock = some k → k < B2) ∧ Below w.heap.size w wr ∧ B2 ≤ wr.heap.size)
      (fun out _ _ => 4097 - lenOf out)
    case atStart => exact ⟨0, v, n, 0, c3, none, A3, [], rfl, rfl, by omega, by omega, HNL, Lib.hid ⟨rfl, by simp, by simp⟩, World.ownsRow_nil _ _ _ _, ho3', hlt3, HB3, hB2'⟩
    case round =>
      obtain ⟨t, m, nm, co, cm, Ao, Am, L, rfl, rfl, ht, hnm, hem, hL, hoo, hom, hin, hbel, hB2r⟩ := hrel
      clear ho3' HB3 hB2'
      by_cases hz : nm = 0
      · subst hz
        have hm0 := enc_eq_nil hem.out
        have hLd := digs_done hb hL.out.2.1 (by rw [← hm0]; exact hL.out.2.2)
        have hlen := hL.out.1
        have HRR := Lib.hid (HFit.out (by rw [← hLd, hlen]; exact ht))
        have HLd := Lib.hid hLd
        have HLen := Lib.hid hlen
        clear hm0 hLd hlen hL hem hom hin HFit HLong
        have HRv := Lib.hid (reverseI_own B2 Ao t co L wr hoo (by omega))
        clear hoo
        go_wp2_with fail
        refine HRv.out.mono ?_
        rintro e w4 ⟨rfl, ho4, hb4⟩
        have hs4 := Sl.of_own ho4
        have HB4 := hbel.trans (hb4.mono (by omega))
        clear ho4
        go_wp2
        go_ret2
        have e1 : r1 = L.reverse := by rw [HRR.out.1, HDS.out, HLd.out]
        have e2 : L.reverse.length = t := by rw [List.length_reverse]; exact HLen.out
        rw [e1, HRR.out.2]
        exact ⟨Ao, co, by rw [e2]; rfl, by rw [e2]; exact hs4, HB4⟩
      · have hm0 : m ≠ 0 := by rintro rfl; have := hem.out; rw [enc_zero] at this; exact hz this.symm
        have hmore := digs_more hb hL.out.2.1 hL.out.1 hL.out.2.2 hm0
        have hnmI : (0 : Int) < (nm : Int) := by omega
        by_cases hfull : t = 4096
        · have HRR := Lib.hid (HLong.out (by omega))
          subst hfull
          clear hmore hm0
          go_wp2
          go_ret2
          rw [HRR.out.1, HRR.out.2]
          exact ⟨none, 0, rfl, Sl.none_ _ _, hbel⟩
        · have hfullB : ((t : Int) == 4096) = false := by rw [beq_eq_false_iff_ne]; omega
          obtain ⟨q, hq⟩ : ∃ q, m / base = q := ⟨_, rfl⟩
          obtain ⟨d, hd⟩ : ∃ d, m % base = d := ⟨_, rfl⟩
          have hdl : d < 65536 := by have := Nat.mod_lt m (show 0 < base by omega); omega
          obtain ⟨nq, hnq⟩ : ∃ nq, (enc q).length = nq := ⟨_, rfl⟩
          have hnql : nq ≤ 512 := by rw [← hnq]; exact length_le_of (show q ≤ m by rw [← hq]; exact Nat.div_le_self _ _) (by rw [hem.out]; exact hnm)
          have HDL := Lib.hid (divideLimb_own B1 Am nm cm base (enc m) wr hom (ok_enc m) (by omega) (by omega) (by omega))
          rw [val_enc, hq, hd, hnq] at HDL
          have hgrow := digs_grow hb hL.out.2.1 hL.out.1 hL.out.2.2 hm0
          rw [hd, hq] at hgrow
          have HG := Lib.hid (show (L ++ [d]).length = t + 1 ∧ L ++ [d] = (digs base v).take (t + 1) ∧ q = v / base ^ (t + 1) from ⟨by rw [List.length_append, hL.out.1]; rfl, hgrow.1, hgrow.2⟩)
          have HNQ := Lib.hid hnq
          have ht2 : t + 1 ≤ 4096 := by omega
          clear hq hd hnq hgrow hL hmore hm0 hem hz hfull
          go_wp2_with fail
          refine HDL.out.mono ?_
          rintro e w4 ⟨A4, c4, rfl, ho4, hb4, hA4, hg4⟩
          have hoo4 := hoo.kept hg4 (own_apart hoo hin.out)
          have HIN4 := Lib.hid (own_in (n' := nq) (c' := c4) hA4 hin.out)
          have HB4 := hbel.trans (hb4.mono (by omega))
          have hB24 : B2 ≤ w4.heap.size := by have := hb4.size; omega
          clear hoo hom hin hg4 hb4 hbel hA4 HDL
          go_wp2_with (at_builtin; refine wpList_append_one rfl _ _ 43 rfl B2 3 i0 (.int .i64 0) 8 Try.underlying43 hi hz0 hz1 hz2 rfl _ _ _ rfl hoo4 _ _ rfl rfl (by unfold maxLen; omega) (by omega) w4 (Below.refl _ _) (by omega) ?_)
          intro v' w5 hown' hbel5
          obtain ⟨A5, c5, rfl⟩ := own_slice hown'
          have ho5m := own_kept ho4 hbel5 HIN4.out
          have HB5 := HB4.trans (hbel5.mono (by omega))
          have hB25 : B2 ≤ w5.heap.size := by have := hbel5.size; omega
          have HO5 : Hid (w5.ownsRow B2 3 1 (.slice A5 (t + 1) c5) (t + 1) (nl (L ++ [d]))) := by
            show World.ownsRow _ _ _ _ _ _ _
            simpa [nl] using hown'
          clear hown' hbel5 ho4 hoo4 HB4
          go_wp2
          go_roundw
          case rel => exact ⟨t + 1, q, nq, c5, c4, A5, A4, L ++ [d], rfl, rfl, ht2, hnql, HNQ, HG, HO5.out, ho5m, HIN4, HB5, hB25⟩
          case measure => simp [lenOf]; omega
end Go.Proofs.Ytebbpodcldndjaa
