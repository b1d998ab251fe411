/- Contracts: the specification's Parse, at any string. -/
import Derived.Test.YtkcekimgfcdgbaaVq
set_option linter.unusedVariables false
namespace Go.Proofs.Ytkcekimgfcdgbaa
open Go.RowKit

theorem grow_ten {m k x : Nat} (h : (enc m).length ≤ k) (hx : x < 65536) : (enc (m * 10 + x)).length ≤ k + 1 := by
  rw [length_enc_le] at h ⊢
  rw [Nat.pow_succ]
  generalize 4294967296 ^ k = P at *
  omega
theorem give_zero {w W : World} {err : Int} (h : Below w.heap.size w W) : GiveE false 0 err w (.returned (.tuple #[.agg #[.bool false, .slice none 0 0], .int .i64 err])) W := ⟨_, rfl, Zi.zero _, h⟩
set_option maxRecDepth 100000 in
theorem rFormat_bad (neg : Bool) (A : Option Addr) (n c : Nat) (l : List Nat) (w : World) (hs : Sl w w.heap.size A n c (ml l)) (hok : Ok l) (hv : validB neg l = false) :
    Calls Try.prog 42 #[.agg #[.bool neg, .slice A n c]] w fun e w' => e = .returned (.string { data := #[] }) ∧ Below w.heap.size w w' := by
  have hb0 := below_new w (.cells #[.bool neg, .slice A n c] 24)
  have h1 := hs.next hb0
  clear hs
  go_enter Try.func42, Try.ntmps42
  go_wp2_with fail
  refine (rValid_false hv hok h1).mono ?_
  rintro e w1 ⟨rfl, hb1⟩
  go_wp2
  go_ret
  exact ⟨rfl, below_step hb0 hb1⟩
set_option maxRecDepth 100000 in
theorem rParse_w1 (s : ByteArray) (w : World) (hz : s.size = 0) :
    Calls Try.prog 40 #[.string s] w (GiveE false 0 9 w) := by
  have HR := At.new w (.bool false) (.slice none 0 0)
  have hb0 := below_new w (.cells #[.bool false, .slice none 0 0] 24)
  obtain ⟨t1, t2, t3, t4⟩ := HR.facts
  go_enter Try.func40, Try.ntmps40
  go_wp2
  exact bodyPost_ret (v := .tuple #[.agg #[.bool false, .slice none 0 0], .int .i64 9]) (by simp [results, Try.results40, go_sem, t1, t2]) rfl (give_zero (by first | exact hb0 | exact below_two hb0 (Nat.le_refl _) _ _))
set_option maxRecDepth 100000 in
set_option maxHeartbeats 4000000 in
theorem rParse_w2 (s : ByteArray) (w : World) (hs63 : s.size ≤ 9223372036854775807) (h0 : 0 < s.size) (h45 : ((s[0].toNat : Nat) : Int) ≠ 45) (q1 : Bool) (q2 : Nat) (q3 : Int) (hq : parseT (sb s) false = (q1, q2, q3)) :
    Calls Try.prog 40 #[.string s] w (GiveE q1 q2 q3 w) := by
  have HR := At.new w (.bool false) (.slice none 0 0)
  have hb0 := below_new w (.cells #[.bool false, .slice none 0 0] 24)
  obtain ⟨t1, t2, t3, t4⟩ := HR.facts
  have hlen := length_sb s
  have h0I : (0 : Int) < (s.size : Int) := by omega
  have h1s : (1 : Int) ≤ (s.size : Int) := by omega
  by_cases h1 : 4096 < s.size
  · have e : parseT (sb s) false = (false, 0, 4) := by unfold parseT; rw [if_pos (by omega)]
    rw [e] at hq
    injection hq with e1 e2
    injection e2 with e2 e3
    subst e1 e2 e3
    have h1I : (4096 : Int) < (s.size : Int) := by omega
    clear hlen e h1
    go_enter Try.func40, Try.ntmps40
    go_wp2
    exact bodyPost_ret (v := .tuple #[.agg #[.bool false, .slice none 0 0], .int .i64 4]) (by simp [results, Try.results40, go_sem, t1, t2]) rfl (give_zero (by first | exact hb0 | exact below_two hb0 (Nat.le_refl _) _ _))
  have h1I : (s.size : Int) ≤ 4096 := by omega
  by_cases h2 : (sb s).length = 0 ∨ ((sb s).getD 0 0 = 48 ∧ (1 < (sb s).length ∨ false = true))
  · have e : parseT (sb s) false = (false, 0, 9) := by unfold parseT; rw [if_neg (by omega), if_pos h2]
    rw [e] at hq
    injection hq with e1 e2
    injection e2 with e2 e3
    subst e1 e2 e3
    have hp : 0 < s.size := h0
    have hpB : ((s.size : Int) == 0) = false := by rw [beq_eq_false_iff_ne]; omega
    have hpI : (0 : Int) < (s.size : Int) := by omega
    rcases h2 with h2 | ⟨h2, h3⟩
    · omega
    rw [getD_sb s 0 hp] at h2
    have h2I : ((s[0].toNat : Nat) : Int) = 48 := by omega
    rw [hlen] at h3
    have h4 : 1 < s.size := h3.resolve_right (by decide)
    have h4I : (1 : Int) < (s.size : Int) := by omega
    clear hlen e h1 h2 h3 h4
    go_enter Try.func40, Try.ntmps40
    go_wp2
    exact bodyPost_ret (v := .tuple #[.agg #[.bool false, .slice none 0 0], .int .i64 9]) (by simp [results, Try.results40, go_sem, t1, t2]) rfl (give_zero (by first | exact hb0 | exact below_two hb0 (Nat.le_refl _) _ _))
  have hp : 0 < s.size := Nat.pos_of_ne_zero fun h => h2 (.inl (by omega))
  have hpB : ((s.size : Int) == 0) = false := by rw [beq_eq_false_iff_ne]; omega
  have hpI : (0 : Int) < (s.size : Int) := by omega
  have HGood : Hid ((sb s).all isDig = true → q1 = (false && decide (decV (sb s) ≠ 0)) ∧ q2 = decV (sb s) ∧ q3 = 0) := by
    intro ha
    have e : parseT (sb s) false = (false && decide (decV (sb s) ≠ 0), decV (sb s), 0) := by unfold parseT; rw [if_neg (by omega), if_neg h2, if_pos ha]
    rw [e] at hq
    injection hq with e1 e2
    injection e2 with e2 e3
    exact ⟨e1.symm, e2.symm, e3.symm⟩
  have HBad : Hid ((sb s).all isDig = false → q1 = false ∧ q2 = 0 ∧ q3 = 9) := by
    intro ha
    have e : parseT (sb s) false = (false, 0, 9) := by unfold parseT; rw [if_neg (by omega), if_neg h2, if_neg (by rw [ha]; decide)]
    rw [e] at hq
    injection hq with e1 e2
    injection e2 with e2 e3
    exact ⟨e1.symm, e2.symm, e3.symm⟩
  rw [getD_sb s 0 hp, hlen] at h2
  have hcase : (((s[0].toNat : Nat) : Int) ≠ 48) ∨ (((s[0].toNat : Nat) : Int) = 48 ∧ (s.size : Int) ≤ 1 ∧ false = false) := by
    by_cases h48 : ((s[0].toNat : Nat) : Int) = 48
    · refine .inr ⟨h48, ?_, ?_⟩
      · rcases Nat.lt_or_ge 1 s.size with h | h
        · exact absurd (.inr ⟨by omega, .inl h⟩) h2
        · omega
      · first | rfl | exact absurd (.inr ⟨by omega, .inr rfl⟩) h2
    · exact .inl h48
  have HLen := Lib.hid hlen
  obtain ⟨w1, hw1⟩ : ∃ w1, w.alloc (.cells #[.bool false, .slice none 0 0] 24) = w1 := ⟨_, rfl⟩
  obtain ⟨B1, hB1⟩ : ∃ B1, w1.heap.size = B1 := ⟨_, rfl⟩
  have hB : w.heap.size + 1 = B1 := by rw [← hB1, ← hw1]; simp
  rw [hw1] at HR hb0 t1 t2 t3 t4
  have hbel0 : Below B1 w1 w1 := Below.refl _ _
  have hBs : B1 ≤ w1.heap.size := by omega
  clear h2 hq hlen h1 hB1 t1 t2 t3 t4
  rcases hcase with h48 | ⟨h48, hs1, hng⟩
  all_goals
    go_enter Try.func40, Try.ntmps40
    go_wp2
    try rw [hw1]
    go_loopw [5, 6] (fun mag i wr => ∃ (k m nm cm : Nat) (Am : Option Addr), mag = .slice Am nm cm ∧ k ≤ s.size ∧ i = .int .i64 k ∧ nm ≤ k ∧ Hid ((enc m).length = nm) ∧ Hid (((sb s).take k).all isDig = true ∧ m = decV ((sb s).take k)) ∧
        Sl wr wr.heap.size Am nm cm (ml (enc m)) ∧ Below B1 w1 wr ∧ B1 ≤ wr.heap.size) (fun _ i _ => s.size - (intOf i).toNat)
    case atStart => exact ⟨0, 0, 0, 0, none, rfl, Nat.zero_le _, rfl, Nat.le_refl _, Lib.hid (by rw [enc_zero]; rfl), Lib.hid ⟨by simp, by simp [decV]⟩, by rw [enc_zero]; exact Sl.none_ _ _, hbel0, hBs⟩
    case round =>
      obtain ⟨k, m, nm, cm, Am, rfl, hk, rfl, hnm, hem, hm, hsm, hbel, hsz⟩ := hrel
      clear hbel0 hBs
      have hA := HR.below hbel (by omega)
      have HB := hb0.trans (hbel.mono (by omega))
      by_cases hlt : k < s.size
      · have hgd := getD_sb s k hlt
        have hp' : k < (sb s).length := by rw [HLen.out]; exact hlt
        have hall := all_snoc isDig (sb s) k hp'
        have hsn := take_snoc (sb s) k hp'
        rw [hgd] at hall hsn
        have HBadX : (¬ (48 ≤ (s[k]).toNat ∧ (s[k]).toNat ≤ 57)) → q1 = false ∧ q2 = 0 ∧ q3 = 9 := fun h => HBad.out (all_not isDig (sb s) k hp' (by rw [hgd]; unfold isDig; rw [decide_eq_false h]))
        have hk0 : (0 : Int) ≤ (k : Int) := by omega
        have hk1 : (k : Int) < (s.size : Int) := by omega
        obtain ⟨x, hx⟩ : ∃ x, (s[k]).toNat = x := ⟨_, rfl⟩
        rw [hx] at hall hsn HBadX
        have hx0 : (0 : Int) ≤ (x : Int) := by omega
        have hx256 : x < 256 := by rw [← hx]; exact UInt8.toNat_lt _
        clear hgd hp'
        by_cases hd : 48 ≤ x ∧ x ≤ 57
        · have HM := Lib.hid (rLonger_any Am nm cm 10 (x - 48) (enc m) wr hsm (ok_enc m) (by omega) (by omega) (by omega))
          have e48 : ((x - 48 : Nat) : Int) = (x : Int) - 48 := by omega
          rw [e48, val_enc] at HM
          have HD := Lib.hid (show ((sb s).take (k + 1)).all isDig = true ∧ m * 10 + (x - 48) = decV ((sb s).take (k + 1)) by
            refine ⟨?_, ?_⟩
            · rw [hall, hm.out.1, Bool.true_and]; unfold isDig; rw [decide_eq_true hd]
            · rw [hsn, decV_snoc, ← hm.out.2])
          have hg := grow_ten (m := m) (k := k) (x := x - 48) (by rw [hem.out]; exact hnm) (by omega)
          obtain ⟨m2, hm2⟩ : ∃ m2, m * 10 + (x - 48) = m2 := ⟨_, rfl⟩
          rw [hm2] at HM HD hg
          obtain ⟨n2, hn2⟩ : ∃ n2, (enc m2).length = n2 := ⟨_, rfl⟩
          rw [hn2] at hg
          have HN2 := Lib.hid hn2
          have hdI1 : (48 : Int) ≤ (x : Int) := by omega
          have hdI2 : (x : Int) ≤ 57 := by omega
          have hxd : decide ((x : Int) < 48) = false := decide_eq_false (by omega)
          have hxe : decide ((57 : Int) < (x : Int)) = false := decide_eq_false (by omega)
          clear hall hsn hd e48 hm2 hn2 hm hem hsm HBadX hA HB hx256
          go_wp2_with fail
          refine HM.out.mono ?_
          rintro e W2 ⟨A2, c2, rfl, hs2, hbb2⟩
          rw [HN2.out] at hs2 ⊢
          have hbel3 := hbel.trans (hbb2.mono hsz)
          have hsz3 : B1 ≤ W2.heap.size := by have := hbb2.size; omega
          clear hbel hsz hbb2 HM
          go_wp2
          go_roundw
          case rel => exact ⟨k + 1, m2, n2, c2, A2, rfl, by omega, by go_num, hg, HN2, HD, hs2, hbel3, hsz3⟩
          case measure => simp [intOf]; omega
        · have HQ := Lib.hid (HBadX hd)
          have hd' : (x : Int) < 48 ∨ (48 ≤ (x : Int) ∧ 57 < (x : Int)) := by omega
          obtain ⟨t1, t2, t3, t4⟩ := hA.facts
          clear hall hsn hm hem hsm HBadX hd hx256
          rcases hd' with hd | ⟨hd, hd2⟩
          · have hxd : decide ((x : Int) < 48) = true := decide_eq_true hd
            go_wp2
            rw [HQ.out.1, HQ.out.2.1, HQ.out.2.2]
            exact bodyPost_ret (v := .tuple #[.agg #[.bool false, .slice none 0 0], .int .i64 9]) (by simp [results, Try.results40, go_sem, t1, t2]) rfl (give_zero (by first | exact HB | exact below_two HB (Nat.le_refl _) _ _))
          · have hxd : decide ((x : Int) < 48) = false := decide_eq_false (by omega)
            have hxe : decide ((57 : Int) < (x : Int)) = true := decide_eq_true hd2
            go_wp2
            rw [HQ.out.1, HQ.out.2.1, HQ.out.2.2]
            exact bodyPost_ret (v := .tuple #[.agg #[.bool false, .slice none 0 0], .int .i64 9]) (by simp [results, Try.results40, go_sem, t1, t2]) rfl (give_zero (by first | exact HB | exact below_two HB (Nat.le_refl _) _ _))
      · obtain rfl : k = s.size := by omega
        have hm1 := hm.out
        rw [List.take_of_length_le (by rw [HLen.out]; omega)] at hm1
        have HQ0 := HGood.out hm1.1
        rw [← hm1.2] at HQ0
        have HQ3 := Lib.hid HQ0.2.2
        have HT : Hid (Calls Try.prog 60 #[.bool false, .slice Am nm cm] wr (GiveI q1 q2 wr)) := by
          have := rSigned_any false Am nm cm (enc m) wr hsm (ok_enc m) (by omega)
          rw [val_enc] at this
          rw [HQ0.1, HQ0.2.1]
          exact this
        clear hm hm1 hsm hem HQ0 hbel
        go_wp2_with fail
        refine HT.out.mono ?_
        intro e W2 h
        obtain ⟨A5, n5, c5, rfl, hs5, hb5⟩ := giveI_out h
        have hA3 := hA.next hb5
        have hbel3 := below_step HB hb5
        obtain ⟨t1, t2, t3, t4⟩ := hA3.facts
        clear hA HB hb5 HT h
        go_wp2
        rw [HQ3.out]
        refine bodyPost_ret (v := .tuple #[.agg #[.bool q1, .slice A5 n5 c5], .int .i64 0]) (by simp [results, Try.results40, go_sem, t1, t2]) rfl ⟨_, rfl, ?_, by first | exact below_two hbel3 (Nat.le_refl _) _ _ | exact hbel3⟩
        first
          | exact Zi.store hA3 (sl_zi hs5) _ _
          | exact sl_zi hs5
set_option maxRecDepth 100000 in
set_option maxHeartbeats 4000000 in
theorem rParse_w3 (s t : ByteArray) (w : World) (hs63 : s.size ≤ 9223372036854775807) (h0 : 0 < s.size) (h45 : ((s[0].toNat : Nat) : Int) = 45) (hT : s.extract 1 s.size = t) (hts : t.size < s.size) (q1 : Bool) (q2 : Nat) (q3 : Int) (hq : parseT (sb t) true = (q1, q2, q3)) :
    Calls Try.prog 40 #[.string s] w (GiveE q1 q2 q3 w) := by
  have HR := At.new w (.bool false) (.slice none 0 0)
  have hb0 := below_new w (.cells #[.bool false, .slice none 0 0] 24)
  obtain ⟨t1, t2, t3, t4⟩ := HR.facts
  have hlen := length_sb t
  have h0I : (0 : Int) < (s.size : Int) := by omega
  have h1s : (1 : Int) ≤ (s.size : Int) := by omega
  by_cases h1 : 4096 < t.size
  · have e : parseT (sb t) true = (false, 0, 4) := by unfold parseT; rw [if_pos (by omega)]
    rw [e] at hq
    injection hq with e1 e2
    injection e2 with e2 e3
    subst e1 e2 e3
    have h1I : (4096 : Int) < (t.size : Int) := by omega
    clear hlen e h1
    go_enter Try.func40, Try.ntmps40
    go_wp2
    exact bodyPost_ret (v := .tuple #[.agg #[.bool false, .slice none 0 0], .int .i64 4]) (by simp [results, Try.results40, go_sem, t1, t2]) rfl (give_zero (by first | exact hb0 | exact below_two hb0 (Nat.le_refl _) _ _))
  have h1I : (t.size : Int) ≤ 4096 := by omega
  by_cases h2 : (sb t).length = 0 ∨ ((sb t).getD 0 0 = 48 ∧ (1 < (sb t).length ∨ true = true))
  · have e : parseT (sb t) true = (false, 0, 9) := by unfold parseT; rw [if_neg (by omega), if_pos h2]
    rw [e] at hq
    injection hq with e1 e2
    injection e2 with e2 e3
    subst e1 e2 e3
    by_cases hz : t.size = 0
    · clear hlen e h1 h2
      go_enter Try.func40, Try.ntmps40
      go_wp2
      exact bodyPost_ret (v := .tuple #[.agg #[.bool false, .slice none 0 0], .int .i64 9]) (by simp [results, Try.results40, go_sem, t1, t2]) rfl (give_zero (by first | exact hb0 | exact below_two hb0 (Nat.le_refl _) _ _))
    have hp : 0 < t.size := by omega
    have hpB : ((t.size : Int) == 0) = false := by rw [beq_eq_false_iff_ne]; omega
    have hpI : (0 : Int) < (t.size : Int) := by omega
    rcases h2 with h2 | ⟨h2, h3⟩
    · omega
    rw [getD_sb t 0 hp] at h2
    have h2I : ((t[0].toNat : Nat) : Int) = 48 := by omega
    rw [hlen] at h3
    by_cases h4 : 1 < t.size
    · have h4I : (1 : Int) < (t.size : Int) := by omega
      clear hlen e h1 h2 h3 h4
      go_enter Try.func40, Try.ntmps40
      go_wp2
      exact bodyPost_ret (v := .tuple #[.agg #[.bool false, .slice none 0 0], .int .i64 9]) (by simp [results, Try.results40, go_sem, t1, t2]) rfl (give_zero (by first | exact hb0 | exact below_two hb0 (Nat.le_refl _) _ _))
    · have h4I : (t.size : Int) ≤ 1 := by omega
      clear hlen e h1 h2 h3 h4
      go_enter Try.func40, Try.ntmps40
      go_wp2
      exact bodyPost_ret (v := .tuple #[.agg #[.bool false, .slice none 0 0], .int .i64 9]) (by simp [results, Try.results40, go_sem, t1, t2]) rfl (give_zero (by first | exact hb0 | exact below_two hb0 (Nat.le_refl _) _ _))
  have hp : 0 < t.size := Nat.pos_of_ne_zero fun h => h2 (.inl (by omega))
  have hpB : ((t.size : Int) == 0) = false := by rw [beq_eq_false_iff_ne]; omega
  have hpI : (0 : Int) < (t.size : Int) := by omega
  have HGood : Hid ((sb t).all isDig = true → q1 = (true && decide (decV (sb t) ≠ 0)) ∧ q2 = decV (sb t) ∧ q3 = 0) := by
    intro ha
    have e : parseT (sb t) true = (true && decide (decV (sb t) ≠ 0), decV (sb t), 0) := by unfold parseT; rw [if_neg (by omega), if_neg h2, if_pos ha]
    rw [e] at hq
    injection hq with e1 e2
    injection e2 with e2 e3
    exact ⟨e1.symm, e2.symm, e3.symm⟩
  have HBad : Hid ((sb t).all isDig = false → q1 = false ∧ q2 = 0 ∧ q3 = 9) := by
    intro ha
    have e : parseT (sb t) true = (false, 0, 9) := by unfold parseT; rw [if_neg (by omega), if_neg h2, if_neg (by rw [ha]; decide)]
    rw [e] at hq
    injection hq with e1 e2
    injection e2 with e2 e3
    exact ⟨e1.symm, e2.symm, e3.symm⟩
  rw [getD_sb t 0 hp, hlen] at h2
  have hcase : (((t[0].toNat : Nat) : Int) ≠ 48) ∨ (((t[0].toNat : Nat) : Int) = 48 ∧ (t.size : Int) ≤ 1 ∧ true = false) := by
    by_cases h48 : ((t[0].toNat : Nat) : Int) = 48
    · refine .inr ⟨h48, ?_, ?_⟩
      · rcases Nat.lt_or_ge 1 t.size with h | h
        · exact absurd (.inr ⟨by omega, .inl h⟩) h2
        · omega
      · first | rfl | exact absurd (.inr ⟨by omega, .inr rfl⟩) h2
    · exact .inl h48
  have HLen := Lib.hid hlen
  obtain ⟨w1, hw1⟩ : ∃ w1, w.alloc (.cells #[.bool false, .slice none 0 0] 24) = w1 := ⟨_, rfl⟩
  obtain ⟨B1, hB1⟩ : ∃ B1, w1.heap.size = B1 := ⟨_, rfl⟩
  have hB : w.heap.size + 1 = B1 := by rw [← hB1, ← hw1]; simp
  rw [hw1] at HR hb0 t1 t2 t3 t4
  have hbel0 : Below B1 w1 w1 := Below.refl _ _
  have hBs : B1 ≤ w1.heap.size := by omega
  clear h2 hq hlen h1 hB1 t1 t2 t3 t4
  rcases hcase with h48 | ⟨h48, hs1, hng⟩
  rotate_left
  · cases hng
  all_goals
    go_enter Try.func40, Try.ntmps40
    go_wp2
    try rw [hw1]
    go_loopw [5, 6] (fun mag i wr => ∃ (k m nm cm : Nat) (Am : Option Addr), mag = .slice Am nm cm ∧ k ≤ t.size ∧ i = .int .i64 k ∧ nm ≤ k ∧ Hid ((enc m).length = nm) ∧ Hid (((sb t).take k).all isDig = true ∧ m = decV ((sb t).take k)) ∧
        Sl wr wr.heap.size Am nm cm (ml (enc m)) ∧ Below B1 w1 wr ∧ B1 ≤ wr.heap.size) (fun _ i _ => t.size - (intOf i).toNat)
    case atStart => exact ⟨0, 0, 0, 0, none, rfl, Nat.zero_le _, rfl, Nat.le_refl _, Lib.hid (by rw [enc_zero]; rfl), Lib.hid ⟨by simp, by simp [decV]⟩, by rw [enc_zero]; exact Sl.none_ _ _, hbel0, hBs⟩
    case round =>
      obtain ⟨k, m, nm, cm, Am, rfl, hk, rfl, hnm, hem, hm, hsm, hbel, hsz⟩ := hrel
      clear hbel0 hBs
      have hA := HR.below hbel (by omega)
      have HB := hb0.trans (hbel.mono (by omega))
      by_cases hlt : k < t.size
      · have hgd := getD_sb t k hlt
        have hp' : k < (sb t).length := by rw [HLen.out]; exact hlt
        have hall := all_snoc isDig (sb t) k hp'
        have hsn := take_snoc (sb t) k hp'
        rw [hgd] at hall hsn
        have HBadX : (¬ (48 ≤ (t[k]).toNat ∧ (t[k]).toNat ≤ 57)) → q1 = false ∧ q2 = 0 ∧ q3 = 9 := fun h => HBad.out (all_not isDig (sb t) k hp' (by rw [hgd]; unfold isDig; rw [decide_eq_false h]))
        have hk0 : (0 : Int) ≤ (k : Int) := by omega
        have hk1 : (k : Int) < (t.size : Int) := by omega
        obtain ⟨x, hx⟩ : ∃ x, (t[k]).toNat = x := ⟨_, rfl⟩
        rw [hx] at hall hsn HBadX
        have hx0 : (0 : Int) ≤ (x : Int) := by omega
        have hx256 : x < 256 := by rw [← hx]; exact UInt8.toNat_lt _
        clear hgd hp'
        by_cases hd : 48 ≤ x ∧ x ≤ 57
        · have HM := Lib.hid (rLonger_any Am nm cm 10 (x - 48) (enc m) wr hsm (ok_enc m) (by omega) (by omega) (by omega))
          have e48 : ((x - 48 : Nat) : Int) = (x : Int) - 48 := by omega
          rw [e48, val_enc] at HM
          have HD := Lib.hid (show ((sb t).take (k + 1)).all isDig = true ∧ m * 10 + (x - 48) = decV ((sb t).take (k + 1)) by
            refine ⟨?_, ?_⟩
            · rw [hall, hm.out.1, Bool.true_and]; unfold isDig; rw [decide_eq_true hd]
            · rw [hsn, decV_snoc, ← hm.out.2])
          have hg := grow_ten (m := m) (k := k) (x := x - 48) (by rw [hem.out]; exact hnm) (by omega)
          obtain ⟨m2, hm2⟩ : ∃ m2, m * 10 + (x - 48) = m2 := ⟨_, rfl⟩
          rw [hm2] at HM HD hg
          obtain ⟨n2, hn2⟩ : ∃ n2, (enc m2).length = n2 := ⟨_, rfl⟩
          rw [hn2] at hg
          have HN2 := Lib.hid hn2
          have hdI1 : (48 : Int) ≤ (x : Int) := by omega
          have hdI2 : (x : Int) ≤ 57 := by omega
          have hxd : decide ((x : Int) < 48) = false := decide_eq_false (by omega)
          have hxe : decide ((57 : Int) < (x : Int)) = false := decide_eq_false (by omega)
          clear hall hsn hd e48 hm2 hn2 hm hem hsm HBadX hA HB hx256
          go_wp2_with fail
          refine HM.out.mono ?_
          rintro e W2 ⟨A2, c2, rfl, hs2, hbb2⟩
          rw [HN2.out] at hs2 ⊢
          have hbel3 := hbel.trans (hbb2.mono hsz)
          have hsz3 : B1 ≤ W2.heap.size := by have := hbb2.size; omega
          clear hbel hsz hbb2 HM
          go_wp2
          go_roundw
          case rel => exact ⟨k + 1, m2, n2, c2, A2, rfl, by omega, by go_num, hg, HN2, HD, hs2, hbel3, hsz3⟩
          case measure => simp [intOf]; omega
        · have HQ := Lib.hid (HBadX hd)
          have hd' : (x : Int) < 48 ∨ (48 ≤ (x : Int) ∧ 57 < (x : Int)) := by omega
          obtain ⟨t1, t2, t3, t4⟩ := hA.facts
          clear hall hsn hm hem hsm HBadX hd hx256
          rcases hd' with hd | ⟨hd, hd2⟩
          · have hxd : decide ((x : Int) < 48) = true := decide_eq_true hd
            go_wp2
            rw [HQ.out.1, HQ.out.2.1, HQ.out.2.2]
            exact bodyPost_ret (v := .tuple #[.agg #[.bool false, .slice none 0 0], .int .i64 9]) (by simp [results, Try.results40, go_sem, t1, t2]) rfl (give_zero (by first | exact HB | exact below_two HB (Nat.le_refl _) _ _))
          · have hxd : decide ((x : Int) < 48) = false := decide_eq_false (by omega)
            have hxe : decide ((57 : Int) < (x : Int)) = true := decide_eq_true hd2
            go_wp2
            rw [HQ.out.1, HQ.out.2.1, HQ.out.2.2]
            exact bodyPost_ret (v := .tuple #[.agg #[.bool false, .slice none 0 0], .int .i64 9]) (by simp [results, Try.results40, go_sem, t1, t2]) rfl (give_zero (by first | exact HB | exact below_two HB (Nat.le_refl _) _ _))
      · obtain rfl : k = t.size := by omega
        have hm1 := hm.out
        rw [List.take_of_length_le (by rw [HLen.out]; omega)] at hm1
        have HQ0 := HGood.out hm1.1
        rw [← hm1.2] at HQ0
        have HQ3 := Lib.hid HQ0.2.2
        have HT : Hid (Calls Try.prog 60 #[.bool true, .slice Am nm cm] wr (GiveI q1 q2 wr)) := by
          have := rSigned_any true Am nm cm (enc m) wr hsm (ok_enc m) (by omega)
          rw [val_enc] at this
          rw [HQ0.1, HQ0.2.1]
          exact this
        clear hm hm1 hsm hem HQ0 hbel
        go_wp2_with fail
        refine HT.out.mono ?_
        intro e W2 h
        obtain ⟨A5, n5, c5, rfl, hs5, hb5⟩ := giveI_out h
        have hA3 := hA.next hb5
        have hbel3 := below_step HB hb5
        obtain ⟨t1, t2, t3, t4⟩ := hA3.facts
        clear hA HB hb5 HT h
        go_wp2
        rw [HQ3.out]
        refine bodyPost_ret (v := .tuple #[.agg #[.bool q1, .slice A5 n5 c5], .int .i64 0]) (by simp [results, Try.results40, go_sem, t1, t2]) rfl ⟨_, rfl, ?_, by first | exact below_two hbel3 (Nat.le_refl _) _ _ | exact hbel3⟩
        first
          | exact Zi.store hA3 (sl_zi hs5) _ _
          | exact sl_zi hs5

/-- the three ways into a text -/
theorem parse_pair (s : ByteArray) (hs63 : s.size ≤ 9223372036854775807) : ∃ q1 q2 q3, Hid (∀ W : World, Calls Try.prog 39 #[.string s] W (GiveE q1 q2 q3 W)) ∧ Hid (∀ W : World, Calls Try.prog 40 #[.string s] W (GiveE q1 q2 q3 W)) := by
  rcases Nat.eq_zero_or_pos s.size with hz | hp
  · have hl : s.data.toList = [] := List.eq_nil_of_length_eq_zero (by simpa using hz)
    have hq : parseT (sb s) false = (false, 0, 9) := by
      unfold parseT
      rw [length_sb, hz, if_neg (by omega), if_pos (.inl rfl)]
    refine ⟨false, 0, 9, fun W => parse_core s s false W hs63 _ _ _ hq (cut_of _ _ _ ?_ ?_), fun W => rParse_w1 s W hz⟩
    · rw [hl]; rfl
    · rw [hl]; rfl
  · obtain ⟨x, r, hl⟩ : ∃ x r, s.data.toList = x :: r := by
      cases h : s.data.toList with
      | nil =>
        have : s.data.toList.length = s.size := by simp
        rw [h] at this
        simp at this
        omega
      | cons x r => exact ⟨x, r, rfl⟩
    have hx : s[0] = x := by
      have h1 : s.data.toList[0]? = some x := by rw [hl]; rfl
      have h2 : s.data.toList[0]? = some s[0] := by
        rw [Array.getElem?_toList, Array.getElem?_eq_getElem (show 0 < s.data.size from hp)]
        rfl
      rw [h2] at h1
      injection h1
    by_cases h45 : x = 45
    · obtain ⟨t, ht⟩ : ∃ t, s.extract 1 s.size = t := ⟨_, rfl⟩
      have hsz : r.length + 1 = s.size := by
        have e2 : s.data.toList.length = s.size := by simp
        rw [hl] at e2
        simpa using e2
      have htd : t.data.toList = r := by
        rw [← ht, Lib.extract_data, hl, List.take_of_length_le]
        · rfl
        · simp; omega
      have hts : t.size < s.size := by
        have e1 : t.data.toList.length = t.size := by simp
        have e2 : s.data.toList.length = s.size := by simp
        rw [htd] at e1
        rw [hl] at e2
        simp at e2
        omega
      obtain ⟨q, hq⟩ : ∃ q, parseT (sb t) true = q := ⟨_, rfl⟩
      obtain ⟨q1, q2, q3⟩ := q
      refine ⟨q1, q2, q3, fun W => parse_core s t true W (by omega) _ _ _ hq (cut_of _ _ _ ?_ ?_), fun W => rParse_w3 s t W hs63 hp (by rw [hx, h45]; rfl) ht hts _ _ _ hq⟩
      · rw [htd, hl, h45]; simp [Lib.trimPrefix, Lib.hasPrefix]
      · rw [hl, h45]; simp [Lib.hasPrefix]
    · obtain ⟨q, hq⟩ : ∃ q, parseT (sb s) false = q := ⟨_, rfl⟩
      obtain ⟨q1, q2, q3⟩ := q
      have hne : ¬ (45 : UInt8) = x := fun e => h45 e.symm
      have hxn : ((s[0].toNat : Nat) : Int) ≠ 45 := by
        rw [hx]
        intro e
        apply h45
        apply UInt8.toNat_inj.1
        have : x.toNat = 45 := by omega
        rw [this]; rfl
      refine ⟨q1, q2, q3, fun W => parse_core s s false W hs63 _ _ _ hq (cut_of _ _ _ ?_ ?_), fun W => rParse_w2 s W hs63 hp hxn _ _ _ hq⟩
      · rw [hl]; simp [Lib.trimPrefix, Lib.hasPrefix, hne]
      · rw [hl]; simp [Lib.hasPrefix, List.isPrefixOf, hne]
theorem format_pair (B0 : Bool) (A0 : Option Addr) (n0 c0 : Nat) (l0 : List Nat) (o0 : Ok l0) : ∃ S : ByteArray, Hid (∀ W : World, Sl W W.heap.size A0 n0 c0 (ml l0) → Calls Try.prog 41 #[.agg #[.bool B0, .slice A0 n0 c0]] W fun e w' => e = .returned (.string S) ∧ Below W.heap.size W w') ∧
    Hid (∀ W : World, Sl W W.heap.size A0 n0 c0 (ml l0) → Calls Try.prog 42 #[.agg #[.bool B0, .slice A0 n0 c0]] W fun e w' => e = .returned (.string S) ∧ Below W.heap.size W w') := by
  cases hv : validB B0 l0 with
  | false => exact ⟨{ data := #[] }, fun W h => format_bad B0 A0 n0 c0 l0 W h o0 hv, fun W h => rFormat_bad B0 A0 n0 c0 l0 W h o0 hv⟩
  | true =>
    obtain ⟨ev, hva⟩ := of_validB o0 hv
    generalize val l0 = v at ev hva
    subst ev
    exact ⟨str (fmtS B0 v), fun W h => format_any B0 A0 n0 c0 v W h hva, fun W h => rFormat_any B0 A0 n0 c0 v W h hva⟩
end Go.Proofs.Ytkcekimgfcdgbaa
