/- Contracts: the specification of Pow. -/
import Derived.Test.YtdbkjcaodllpjaaLp
set_option linter.unusedVariables false
namespace Go.Proofs.Ytdbkjcaodllpjaa
open Go.RowKit
attribute [local go_sem ↓] Go.wp_at_zero Go.wp_at_succ

theorem ex_rfrom1 (W : World) : Calls Try.prog 38 #[.int .i64 1] W (GiveI false 1 W) := rFromInt_any 1 W (by omega) (by omega)
theorem ex_rfromm1 (W : World) : Calls Try.prog 38 #[.int .i64 (-1)] W (GiveI true 1 W) := rFromInt_any (-1) W (by omega) (by omega)
theorem vd_one (neg : Bool) : Vd neg 1 := vd_of _ _ (by omega) (by omega)
theorem GiveE.put {w w' : World} {g n c : Nat} {neg : Bool} {v : Nat} {err : Int} {A A1 : Option Addr} {n1 c1 : Nat} {x : Bool} (hB : Below w.heap.size w w') (hg : w.heap.size ≤ g) (hA : At w' g (.bool x) (.slice A1 n1 c1)) (hs : Sl w' w'.heap.size A n c (ml (enc v))) (a b : Value) :
    GiveE neg v err w (.returned (.tuple #[.agg #[.bool neg, .slice A n c], .int .i64 err])) ((w'.setCell ⟨g, 0, none⟩ a).setCell ⟨g, 1, none⟩ b) :=
  ⟨_, rfl, Zi.store hA (sl_zi hs) _ _, below_two hB hg _ _⟩

/-- the sign of a power -/
def sgP (neg : Bool) (v t : Nat) : Bool := (neg && decide (t % 2 = 1)) && decide (v ^ t ≠ 0)
theorem sgP_one (neg : Bool) (v : Nat) (h : neg = true → v ≠ 0) : sgP neg v 1 = neg := by
  unfold sgP
  rw [Nat.pow_one]
  cases neg
  · rfl
  · simp [h rfl]
theorem sgP_succ (neg : Bool) (v t : Nat) (h : neg = true → v ≠ 0) : ((sgP neg v t != neg) && decide (v ^ t * v ≠ 0)) = sgP neg v (t + 1) := by
  have h1 := sgn_pow neg v t 1
  have h2 := sgP_one neg v h
  unfold sgP at *
  rw [h2, Nat.pow_one] at h1
  exact h1

set_option maxRecDepth 100000 in
set_option maxHeartbeats 4000000 in
theorem rPow_loop (neg : Bool) (A : Option Addr) (n c v k : Nat) (w : World) (hs : Sl w w.heap.size A n c (ml (enc v))) (hva : Vd neg v) (hk : k ≤ 9223372036854775807) (hk0 : 0 < k) (hv : 2 ≤ v) (q1 : Bool) (q2 : Nat) (q3 : Int) (hq : zpowS neg v k = (q1, q2, q3)) :
    Calls Try.prog 32 #[.agg #[.bool neg, .slice A n c], .int .i64 (k : Int)] w (GiveE q1 q2 q3 w) := by
  obtain ⟨HA, HR, HB, hS⟩ := boxed_ab w (.bool neg) (.slice A n c) (.bool false) (.slice none 0 0)
  have XA : Bx _ w.heap.size neg v A n c := ⟨HA, hS _ _ _ _ hs⟩
  have hnl : (enc v).length = n := by rw [← length_ml]; exact hs.len
  clear hS hs HA
  have HLong : Hid (∀ t, t ≤ k → ¬ (enc (v ^ t)).length ≤ 512 → q1 = false ∧ q2 = 0 ∧ q3 = 4) := by
    intro t ht h
    have h2 : ¬ (enc (v ^ k)).length ≤ 512 := fun h3 => h (pow_part h3 ht)
    rw [zpow_long h2] at hq
    injection hq with e1 e2
    injection e2 with e2 e3
    exact ⟨e1.symm, e2.symm, e3.symm⟩
  have HFit : Hid ((enc (v ^ k)).length ≤ 512 → q1 = sgP neg v k ∧ q2 = v ^ k ∧ q3 = 0) := by
    intro h
    rw [zpow_fit h] at hq
    injection hq with e1 e2
    injection e2 with e2 e3
    exact ⟨e1.symm, e2.symm, e3.symm⟩
  have hn0 : ((n : Int) == 0) = false := by rw [beq_eq_false_iff_ne]; intro e; have := enc_eq_nil (hnl.trans (by omega)); omega
  have HC1 : Hid (∀ (W : World) (A6 : Option Addr) (n6 c6 : Nat), Sl W W.heap.size A n c (ml (enc v)) → Sl W W.heap.size A6 n6 c6 (ml (enc 1)) → ∃ r : Int, (r == 0) = false ∧ Calls Try.prog 23 #[.agg #[.bool neg, .slice A n c], .agg #[.bool false, .slice A6 n6 c6]] W fun e w' => e = .returned (.int .i64 r) ∧ Below W.heap.size W w') := by
    intro W A6 n6 c6 h h'
    refine ⟨_, ?_, rCmp_any _ _ neg false v 1 W (sl_zi h) (sl_zi h') hva (vd_one _)⟩
    cases neg
    · rw [show cmpS false v false 1 = sgn v 1 from rfl, sgn_gt (by omega)]; rfl
    · rfl
  have HC2 : Hid (∀ (W : World) (A6 : Option Addr) (n6 c6 : Nat), Sl W W.heap.size A n c (ml (enc v)) → Sl W W.heap.size A6 n6 c6 (ml (enc 1)) → ∃ r : Int, (r == 0) = false ∧ Calls Try.prog 23 #[.agg #[.bool neg, .slice A n c], .agg #[.bool true, .slice A6 n6 c6]] W fun e w' => e = .returned (.int .i64 r) ∧ Below W.heap.size W w') := by
    intro W A6 n6 c6 h h'
    refine ⟨_, ?_, rCmp_any _ _ neg true v 1 W (sl_zi h) (sl_zi h') hva (vd_one _)⟩
    cases neg
    · rfl
    · rw [show cmpS true v true 1 = sgn 1 v from rfl, sgn_lt (by omega)]; rfl
  have hkI : (0 : Int) < (k : Int) := by omega
  have HV0 := Lib.hid hva.1
  have HVd := Lib.hid hva
  clear hnl hq
  go_enter Try.func32, Try.ntmps32
  go_wp2_with fail
  refine (rValid_true hva XA.sl).mono ?_
  rintro e w1 ⟨rfl, hb1⟩
  replace XA := XA.next hb1
  replace HR := HR.next hb1
  replace HB := below_step HB hb1
  clear hb1 hva
  go_wp2_with fail
  refine (ex_rfrom1 _).mono ?_
  intro e w2 h
  obtain ⟨A6, n6, c6, rfl, hs6, hb2⟩ := giveI_out h
  have X6 := Bx.new (neg := false) hs6
  have hnn := below_step hb2 (below_new w2 (.cells #[.bool false, .slice A6 n6 c6] 24))
  replace XA := XA.next hnn
  replace HR := HR.next hnn
  replace HB := below_step HB hnn
  obtain ⟨a1, a2⟩ := XA.cells
  clear h hs6 hb2 hnn
  obtain ⟨rr, hrr, HCC⟩ := HC1.out _ _ _ _ XA.sl X6.sl
  have HCC' := Lib.hid HCC
  clear HCC
  go_wp2_with fail
  refine HCC'.out.mono ?_
  rintro e w3 ⟨rfl, hb3⟩
  clear a1 a2
  obtain ⟨a1, a2⟩ := (XA.next hb3).cells
  replace XA := (XA.next hb3).drew
  replace X6 := (X6.next hb3).drew
  replace HR := (HR.next hb3).drew
  replace HB := (below_step HB hb3).drew
  clear hb3 HCC'
  go_wp2
  clear a1 a2
  obtain ⟨a1, a2⟩ := XA.cells
  go_region_held3 (fun W => W.cell? ⟨w.heap.size, 0, none⟩ = some (.bool neg) ∧ W.cell? ⟨w.heap.size, 1, none⟩ = some (.slice A n c))
    (first | (with_reducible exact ⟨a1, a2⟩))
    (first
    | (go_at_call 38; (with_reducible refine (ex_rfromm1 _).mono ?_); intro e wd hm; obtain ⟨Am, nm, cm, rfl, hsm, hbd⟩ := giveI_out hm; have XA1 := XA.next hbd; have X61 := X6.next hbd; have HR1 := HR.next hbd; have HB1 := below_step HB hbd; clear hm XA X6 HR HB hbd a1 a2; obtain ⟨a1, a2⟩ := XA1.cells; obtain ⟨r2, hr2, HCD⟩ := HC2.out _ _ _ _ XA1.sl hsm; have HCD' := Lib.hid HCD; clear HCD)
    | (go_at_call 23; (with_reducible refine HCD'.out.mono ?_); rintro e we ⟨rfl, hbd⟩; have XA2 := XA1.next hbd; have X62 := X61.next hbd; have HR2 := HR1.next hbd; have HB2 := below_step HB1 hbd; clear XA1 X61 HR1 HB1 hbd a1 a2 HCD'; obtain ⟨a1, a2⟩ := XA2.cells))
  all_goals
    obtain ⟨k1, k2⟩ := X62.cells
    have X7 : Bx _ we.heap.size false 1 A6 n6 c6 := Bx.new X62.sl
    have hnn := below_new we (.cells #[.bool false, .slice A6 n6 c6] 24)
    have XA3 := XA2.next hnn
    have HR3 := HR2.next hnn
    have HB3 := below_step HB2 hnn
    have hg7 : w.heap.size + 1 < we.heap.size := HR2.lt
    clear XA2 HR2 HB2 hnn X62
    go_wp2
    go_loopw [8] (fun i wr => ∃ (t n7 c7 : Nat) (A7 : Option Addr), t ≤ k ∧ i = .int .i64 t ∧ Hid ((enc (v ^ t)).length ≤ 512) ∧ Bx wr w.heap.size neg v A n c ∧ At wr (w.heap.size + 1) (.bool false) (.slice none 0 0) ∧ Bx wr we.heap.size (sgP neg v t) (v ^ t) A7 n7 c7 ∧ Below w.heap.size w wr)
      (fun i _ => k - (intOf i).toNat)
    case atStart => exact ⟨0, n6, c6, A6, by omega, rfl, Lib.hid (by rw [Nat.pow_zero, one_limb (by omega) (by omega)]; omega), XA3, HR3, by simpa [sgP] using X7, HB3⟩
    case round =>
      obtain ⟨t, n7, c7, A7, ht, rfl, hfit, YA, YR, Y7, hbel⟩ := hrel
      clear XA3 HR3 X7 HB3 a1 a2 k1 k2
      obtain ⟨a1, a2⟩ := YA.cells
      obtain ⟨k1, k2, k3, k4⟩ := Y7.at_.facts
      obtain ⟨t1, t2, t3, t4⟩ := YR.facts
      by_cases hlt : t < k
      · have HM := Lib.hid (rMul_any (sgP neg v t) neg A7 A n7 c7 n c (v ^ t) v wr Y7.sl YA.sl ⟨fun e h0 => by unfold sgP at e; rw [h0] at e; simp at e, hfit.out⟩ HVd.out)
        rw [sgP_succ neg v t HV0.out, ← Nat.pow_succ] at HM
        by_cases hf2 : (enc (v ^ (t + 1))).length ≤ 512
        · unfold limS at HM
          rw [if_pos hf2] at HM
          have HF2 := Lib.hid hf2
          generalize hsp : sgP neg v (t + 1) = sp at HM
          have HSP := Lib.hid hsp
          generalize sgP neg v t = s0 at *
          generalize hvp : v ^ (t + 1) = vp at HM
          have HVP := Lib.hid hvp
          generalize v ^ t = vt at *
          clear hf2 hsp hvp
          go_wp2_with fail
          refine HM.out.mono ?_
          intro e w5 h
          obtain ⟨A9, n9, c9, rfl, hs9, hb5⟩ := giveE_out h
          have hlt5 : we.heap.size < w5.heap.size := (Y7.at_.next hb5).lt
          have YA5 := YA.next hb5
          have YR5 := YR.next hb5
          have Y75 := Y7.next hb5
          have hbel5 := below_step hbel hb5
          clear a1 a2 k1 k2 k3 k4 t1 t2 t3 t4 YA YR Y7 hbel hb5 h HM
          obtain ⟨k1, k2, k3, k4⟩ := Y75.at_.facts
          have hna := below_new ((w5.setCell ⟨we.heap.size, 0, none⟩ (.bool sp)).setCell ⟨we.heap.size, 1, none⟩ (.slice A9 n9 c9)) (.cells #[.bool sp, .slice A9 n9 c9] 24)
          have ZA := (YA5.set Y75.at_ (by omega) (.bool sp) (.slice A9 n9 c9)).next hna
          have ZR := (YR5.other (show w.heap.size + 1 ≠ we.heap.size by omega) (.bool sp) (.slice A9 n9 c9)).next hna
          have Z70 : Bx ((w5.setCell ⟨we.heap.size, 0, none⟩ (.bool sp)).setCell ⟨we.heap.size, 1, none⟩ (.slice A9 n9 c9)) we.heap.size sp vp A9 n9 c9 := ⟨Y75.at_.set (.bool sp) (.slice A9 n9 c9), by simpa using Sl.store Y75.at_ hs9 (.bool sp) (.slice A9 n9 c9)⟩
          have Z7 := Z70.next hna
          have ZB := below_step (below_two hbel5 (show w.heap.size ≤ we.heap.size by omega) (.bool sp) (.slice A9 n9 c9)) hna
          clear hs9 YA5 YR5 Y75 hbel5 hna Z70
          go_wp2
          go_roundw
          case rel => exact ⟨t + 1, n9, c9, A9, by omega, by go_num, HF2, ZA, ZR, by rw [HSP.out, HVP.out]; exact Z7, ZB⟩
          case measure => simp [intOf]; omega
        · have HQ := Lib.hid (HLong.out (t + 1) (by omega) hf2)
          unfold limS at HM
          rw [if_neg hf2] at HM
          generalize sgP neg v t = s0 at *
          generalize v ^ t = vt at *
          clear hf2
          go_wp2_with fail
          refine HM.out.mono ?_
          intro e w5 h
          obtain ⟨A9, n9, c9, rfl, hs9, hb5⟩ := giveE_out h
          have YR5 := YR.next hb5
          have hlt5 := YR5.lt
          have hbel5 := below_step hbel hb5
          clear a1 a2 k1 k2 k3 k4 t1 t2 t3 t4 YA YR Y7 hbel hb5 h HM hs9
          obtain ⟨t1, t2, t3, t4⟩ := YR5.facts
          go_wp2
          rw [HQ.out.1, HQ.out.2.1, HQ.out.2.2]
          refine bodyPost_ret (v := .tuple #[.agg #[.bool false, .slice none 0 0], .int .i64 4]) (by simp [results, Try.results32, go_sem, t1, t2, hlt5]) rfl ⟨_, rfl, Zi.zero _, ?_⟩
          exact below_step (below_two hbel5 (by omega) _ _) (below_new _ _)
      · obtain rfl : t = k := by omega
        have HQ := Lib.hid (HFit.out hfit.out)
        go_wp2
        rw [HQ.out.1, HQ.out.2.1, HQ.out.2.2]
        refine bodyPost_ret (v := .tuple #[.agg #[.bool (sgP neg v t), .slice A7 n7 c7], .int .i64 0]) (by simp [results, Try.results32, go_sem, t1, t2]) rfl ?_
        exact GiveE.put hbel (by omega) YR Y7.sl _ _
end Go.Proofs.Ytdbkjcaodllpjaa
