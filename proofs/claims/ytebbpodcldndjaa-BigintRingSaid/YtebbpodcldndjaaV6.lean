/- Contracts: Pow. -/
import Derived.Test.YtebbpodcldndjaaV2
import Derived.Test.YtebbpodcldndjaaWb
set_option linter.unusedVariables false
namespace Go.Proofs.Ytebbpodcldndjaa
open Go.RowKit

/-- what Pow returns of a valid integer and a number that is not negative -/
def zpowS (neg : Bool) (v k : Nat) : Bool × Nat × Int := ((neg && decide (k % 2 = 1)) && decide ((powS v k).1 ≠ 0), (powS v k).1, (powS v k).2)
theorem powS_one {v k : Nat} (hk : 0 < k) (hv : v = 0 ∨ v = 1) : powS v k = (v, 0) := by
  have e : v ^ k = v := by
    rcases hv with rfl | rfl
    · exact Nat.zero_pow hk
    · exact Nat.one_pow k
  unfold powS
  rw [e, if_pos]
  rcases hv with rfl | rfl
  · rw [enc_zero]; simp
  · simp [enc]
theorem enc_is_one {v : Nat} (h : (enc v).length = 1) (h1 : (enc v).getD 0 0 = 1) : v = 1 := by
  obtain ⟨_, _, e⟩ := enc_one h
  rw [e] at h1
  simpa using h1

theorem dec_enc (v n : Nat) (h : (enc v).length = n) : decide (v ≠ 0) = decide (n ≠ 0) := by
  by_cases h0 : v = 0
  · subst h0; rw [enc_zero] at h; subst h; rfl
  · have : n ≠ 0 := fun e => h0 (enc_eq_nil (by omega))
    rw [decide_eq_true h0, decide_eq_true this]
theorem GiveE.mk {w w' : World} {g n c : Nat} {neg sg : Bool} {v : Nat} {err : Int} {A A1 : Option Addr} {n1 c1 : Nat} {x : Bool} (hB : Below w.heap.size w w') (hg : w.heap.size ≤ g) (hA : At w' g (.bool x) (.slice A1 n1 c1)) (hn : (enc v).length = n) (hs : Sl w' w'.heap.size A n c (ml (enc v))) (hq : neg = (sg && decide (v ≠ 0))) (a b : Value) :
    GiveE neg v err w (.returned (.tuple #[.agg #[.bool (sg && decide (n ≠ 0)), .slice A n c], .int .i64 err])) ((w'.setCell ⟨g, 0, none⟩ a).setCell ⟨g, 1, none⟩ b) := by
  refine ⟨_, rfl, ?_, below_two hB hg _ _⟩
  refine Zi.store hA ⟨A, c, ?_, ?_⟩ _ _
  · rw [hn, hq, dec_enc v n hn]
  · rw [hn]; exact hs

/-- the ways of a sign -/
def Sgn3 (neg sg : Bool) (k : Nat) : Prop := (neg = false ∧ sg = false) ∨ (neg = true ∧ (((k : Int) % 2) == 1) = true ∧ sg = true) ∨ (neg = true ∧ (((k : Int) % 2) == 1) = false ∧ sg = false)
theorem sgn3 (neg : Bool) (k : Nat) : Sgn3 neg (neg && decide (k % 2 = 1)) k := by
  cases neg
  · exact .inl ⟨rfl, rfl⟩
  · by_cases h : k % 2 = 1
    · exact .inr (.inl ⟨rfl, by rw [beq_iff_eq]; omega, by rw [decide_eq_true h]; rfl⟩)
    · exact .inr (.inr ⟨rfl, by rw [beq_eq_false_iff_ne]; omega, by rw [decide_eq_false h]; rfl⟩)

set_option maxRecDepth 100000 in
set_option maxHeartbeats 4000000 in
theorem pow_clone (neg sg : Bool) (A : Option Addr) (n c v k : Nat) (w : World) (hs : Sl w w.heap.size A n c (ml (enc v))) (hva : Vd neg v) (hk : k ≤ 9223372036854775807) (hsg : Sgn3 neg sg k) (hk0 : (0 : Int) < (k : Int)) (hv : v = 0 ∨ v = 1) (q1 : Bool) (hq : q1 = (sg && decide (v ≠ 0))) :
    Calls Try.prog 31 #[.agg #[.bool neg, .slice A n c], .int .i64 (k : Int)] w (GiveE q1 v 0 w) := by
  have hl : (enc v).length = n := by rw [← length_ml]; exact hs.len
  have hn : n ≤ 512 := by rw [← hl]; exact hva.2
  obtain ⟨HA, HR, HB, hS⟩ := boxed_ab w (.bool neg) (.slice A n c) (.bool false) (.slice none 0 0)
  have h1 := hS _ _ _ _ hs
  have HL := Lib.hid hl
  have HQ := Lib.hid hq
  clear hS hs hl hq
  rcases hv with rfl | rfl
  · obtain rfl : n = 0 := by rw [← HL.out, enc_zero]; rfl
    rcases hsg with ⟨rfl, rfl⟩ | ⟨rfl, hm, rfl⟩ | ⟨rfl, hm, rfl⟩
    all_goals
      go_enter Try.func31, Try.ntmps31
      go_wp2_with fail
      refine (valid_true hva h1).mono ?_
      rintro e w3 ⟨rfl, hb3⟩
      obtain ⟨a1, a2, _, _⟩ := (HA.next hb3).facts
      have h3 := h1.next hb3
      have HR3 := HR.next hb3
      have HB3 := below_step HB hb3
      have HC := Lib.hid ((clone_any _ _ _ _ _ h3 (by omega)).mono fun _ _ h => h.out HL.out)
      clear h1 hb3
      go_wp2_with fail
      refine HC.out.mono ?_
      rintro e w4 ⟨A4, c4, rfl, hs4, hb4⟩
      have HR4 := HR3.next hb4
      have HB4 := below_step HB3 hb4
      clear h3 hb4 HC
      go_wp2_with fail
      refine (signed_any _ A4 _ c4 _ (by omega)).mono ?_
      rintro e w5 ⟨rfl, hb5⟩
      have HR5 := HR4.next hb5
      have HB5 := below_step HB4 hb5
      have hs5 := hs4.next hb5
      obtain ⟨t1, t2, t3, t4⟩ := HR5.facts
      go_wp2
      first
        | (refine bodyPost_ret (v := .tuple #[.agg #[.bool (false && decide (0 ≠ 0)), .slice A4 0 c4], .int .i64 0]) (by simp [results, Try.results31, go_sem, t1, t2]) rfl ?_
           exact GiveE.mk HB5 (by omega) HR5 HL.out hs5 HQ.out _ _)
        | (refine bodyPost_ret (v := .tuple #[.agg #[.bool (true && decide (0 ≠ 0)), .slice A4 0 c4], .int .i64 0]) (by simp [results, Try.results31, go_sem, t1, t2]) rfl ?_
           exact GiveE.mk HB5 (by omega) HR5 HL.out hs5 HQ.out _ _)
  · obtain rfl : n = 1 := by rw [← HL.out]; simp [enc]
    rcases hsg with ⟨rfl, rfl⟩ | ⟨rfl, hm, rfl⟩ | ⟨rfl, hm, rfl⟩
    all_goals
      go_enter Try.func31, Try.ntmps31
      go_wp2_with fail
      refine (valid_true hva h1).mono ?_
      rintro e w3 ⟨rfl, hb3⟩
      obtain ⟨a1, a2, _, _⟩ := (HA.next hb3).facts
      have h3 := h1.next hb3
      have HR3 := HR.next hb3
      have HB3 := below_step HB hb3
      have HC := Lib.hid ((clone_any _ _ _ _ _ h3 (by omega)).mono fun _ _ h => h.out HL.out)
      obtain ⟨bb, off, rfl, hbb, hc⟩ := h3.at_ (show 0 < 1 by omega) (.int .u32 0)
      have hc1 : w3.cell? ⟨bb, off, none⟩ = some (.int .u32 1) := by
        rw [getD_ml _ 0 (by rw [HL.out]; omega)] at hc
        simpa [enc] using hc
      clear h1 hb3 hc
      go_wp2_with fail
      refine HC.out.mono ?_
      rintro e w4 ⟨A4, c4, rfl, hs4, hb4⟩
      have HR4 := HR3.next hb4
      have HB4 := below_step HB3 hb4
      clear h3 hb4 HC
      go_wp2_with fail
      refine (signed_any _ A4 _ c4 _ (by omega)).mono ?_
      rintro e w5 ⟨rfl, hb5⟩
      have HR5 := HR4.next hb5
      have HB5 := below_step HB4 hb5
      have hs5 := hs4.next hb5
      obtain ⟨t1, t2, t3, t4⟩ := HR5.facts
      go_wp2
      first
        | (refine bodyPost_ret (v := .tuple #[.agg #[.bool (false && decide (1 ≠ 0)), .slice A4 1 c4], .int .i64 0]) (by simp [results, Try.results31, go_sem, t1, t2]) rfl ?_
           exact GiveE.mk HB5 (by omega) HR5 HL.out hs5 HQ.out _ _)
        | (refine bodyPost_ret (v := .tuple #[.agg #[.bool (true && decide (1 ≠ 0)), .slice A4 1 c4], .int .i64 0]) (by simp [results, Try.results31, go_sem, t1, t2]) rfl ?_
           exact GiveE.mk HB5 (by omega) HR5 HL.out hs5 HQ.out _ _)

set_option maxRecDepth 100000 in
set_option maxHeartbeats 4000000 in
theorem pow_power (neg sg : Bool) (A : Option Addr) (n c v k : Nat) (w : World) (hs : Sl w w.heap.size A n c (ml (enc v))) (hva : Vd neg v) (hk : k ≤ 9223372036854775807) (hsg : Sgn3 neg sg k) (hv : k = 0 ∨ (0 < k ∧ 2 ≤ v)) (r : Nat) (err : Int) (hr : powS v k = (r, err)) (q1 : Bool) (hq : q1 = (sg && decide (r ≠ 0))) :
    Calls Try.prog 31 #[.agg #[.bool neg, .slice A n c], .int .i64 (k : Int)] w (GiveE q1 r err w) := by
  have hl : (enc v).length = n := by rw [← length_ml]; exact hs.len
  have hn : n ≤ 512 := by rw [← hl]; exact hva.2
  obtain ⟨HA, HR, HB, hS⟩ := boxed_ab w (.bool neg) (.slice A n c) (.bool false) (.slice none 0 0)
  have h1 := hS _ _ _ _ hs
  obtain ⟨nr, hnr⟩ : ∃ nr, (enc r).length = nr := ⟨_, rfl⟩
  have HP : Hid (∀ W : World, Sl W W.heap.size A n c (ml (enc v)) → Calls Try.prog 70 #[.slice A n c, .int .i64 (k : Int)] W (fun e w' => ∃ A4 c4, e = .returned (.tuple #[.slice A4 nr c4, .int .i64 err]) ∧ Sl w' w'.heap.size A4 nr c4 (ml (enc r)) ∧ Below W.heap.size W w')) := by
    intro W h
    have := power_any A n c v k W h (by omega) (by omega) hk
    rw [hr] at this
    refine this.mono ?_
    rintro e w' ⟨A4, c4, rfl, h2, h3⟩
    exact ⟨A4, c4, by rw [hnr], by rw [← hnr]; exact h2, h3⟩
  have hways : ((k : Int) ≤ 0) ∨ ((0 : Int) < k ∧ n = 1 ∧ v ≠ 1) ∨ ((0 : Int) < k ∧ 2 ≤ (n : Int)) := by
    rcases hv with rfl | ⟨h0, h2⟩
    · exact .inl (by omega)
    · refine .inr ?_
      have : n ≠ 0 := fun e => by have := enc_eq_nil (hl.trans e); omega
      by_cases h : n = 1
      · exact .inl ⟨by omega, h, by omega⟩
      · exact .inr ⟨by omega, by omega⟩
  have HL := Lib.hid hl
  have HQ := Lib.hid hq
  have HNR := Lib.hid hnr
  have hk0 : (0 : Int) ≤ (k : Int) := by omega
  have HV : Hid (n = 1 → (enc v).getD 0 0 = v ∧ v < 4294967296) := by
    intro e
    obtain ⟨_, h2, h3⟩ := enc_one (hl.trans e)
    exact ⟨by rw [h3]; rfl, h2⟩
  clear hS hs hl hq hr hnr hv
  rcases hways with hw1 | ⟨hw1, rfl, hw2⟩ | ⟨hw1, hw2⟩
  · rcases hsg with ⟨rfl, rfl⟩ | ⟨rfl, hm, rfl⟩ | ⟨rfl, hm, rfl⟩
    all_goals
      go_enter Try.func31, Try.ntmps31
      go_wp2_with fail
      refine (valid_true hva h1).mono ?_
      rintro e w3 ⟨rfl, hb3⟩
      obtain ⟨a1, a2, _, _⟩ := (HA.next hb3).facts
      have h3 := h1.next hb3
      have HR3 := HR.next hb3
      have HB3 := below_step HB hb3
      have HC := Lib.hid (HP.out _ h3)
      clear h1 hb3
      go_wp2_with fail
      refine HC.out.mono ?_
      rintro e w4 ⟨A4, c4, rfl, hs4, hb4⟩
      have HR4 := HR3.next hb4
      have HB4 := below_step HB3 hb4
      have hm4 := hs4.max
      have hl4 := hs4.le
      unfold maxLen at hm4
      clear h3 hb4 HC
      go_wp2_with fail
      refine (signed_any _ A4 nr c4 _ (by omega)).mono ?_
      rintro e w5 ⟨rfl, hb5⟩
      have HR5 := HR4.next hb5
      have HB5 := below_step HB4 hb5
      have hs5 := hs4.next hb5
      obtain ⟨t1, t2, t3, t4⟩ := HR5.facts
      go_wp2
      first
        | (refine bodyPost_ret (v := .tuple #[.agg #[.bool (false && decide (nr ≠ 0)), .slice A4 nr c4], .int .i64 err]) (by simp [results, Try.results31, go_sem, t1, t2]) rfl ?_
           exact GiveE.mk HB5 (by omega) HR5 HNR.out hs5 HQ.out _ _)
        | (refine bodyPost_ret (v := .tuple #[.agg #[.bool (true && decide (nr ≠ 0)), .slice A4 nr c4], .int .i64 err]) (by simp [results, Try.results31, go_sem, t1, t2]) rfl ?_
           exact GiveE.mk HB5 (by omega) HR5 HNR.out hs5 HQ.out _ _)
  · rcases hsg with ⟨rfl, rfl⟩ | ⟨rfl, hm, rfl⟩ | ⟨rfl, hm, rfl⟩
    all_goals
      go_enter Try.func31, Try.ntmps31
      go_wp2_with fail
      refine (valid_true hva h1).mono ?_
      rintro e w3 ⟨rfl, hb3⟩
      obtain ⟨a1, a2, _, _⟩ := (HA.next hb3).facts
      have h3 := h1.next hb3
      have HR3 := HR.next hb3
      have HB3 := below_step HB hb3
      have HC := Lib.hid (HP.out _ h3)
      obtain ⟨bb, off, rfl, hbb, hc⟩ := h3.at_ (show 0 < 1 by omega) (.int .u32 0)
      have hc1 : w3.cell? ⟨bb, off, none⟩ = some (.int .u32 (v : Int)) := by
        rw [getD_ml _ 0 (by rw [HL.out]; omega), (HV.out (by first | rfl | trivial)).1] at hc
        exact hc
      have hv1 : ((v : Int) == 1) = false := by rw [beq_eq_false_iff_ne]; omega
      clear h1 hb3 hc hw2
      go_wp2_with fail
      refine HC.out.mono ?_
      rintro e w4 ⟨A4, c4, rfl, hs4, hb4⟩
      have HR4 := HR3.next hb4
      have HB4 := below_step HB3 hb4
      have hm4 := hs4.max
      have hl4 := hs4.le
      unfold maxLen at hm4
      clear h3 hb4 HC
      go_wp2_with fail
      refine (signed_any _ A4 nr c4 _ (by omega)).mono ?_
      rintro e w5 ⟨rfl, hb5⟩
      have HR5 := HR4.next hb5
      have HB5 := below_step HB4 hb5
      have hs5 := hs4.next hb5
      obtain ⟨t1, t2, t3, t4⟩ := HR5.facts
      go_wp2
      first
        | (refine bodyPost_ret (v := .tuple #[.agg #[.bool (false && decide (nr ≠ 0)), .slice A4 nr c4], .int .i64 err]) (by simp [results, Try.results31, go_sem, t1, t2]) rfl ?_
           exact GiveE.mk HB5 (by omega) HR5 HNR.out hs5 HQ.out _ _)
        | (refine bodyPost_ret (v := .tuple #[.agg #[.bool (true && decide (nr ≠ 0)), .slice A4 nr c4], .int .i64 err]) (by simp [results, Try.results31, go_sem, t1, t2]) rfl ?_
           exact GiveE.mk HB5 (by omega) HR5 HNR.out hs5 HQ.out _ _)
  · rcases hsg with ⟨rfl, rfl⟩ | ⟨rfl, hm, rfl⟩ | ⟨rfl, hm, rfl⟩
    all_goals
      go_enter Try.func31, Try.ntmps31
      go_wp2_with fail
      refine (valid_true hva h1).mono ?_
      rintro e w3 ⟨rfl, hb3⟩
      obtain ⟨a1, a2, _, _⟩ := (HA.next hb3).facts
      have h3 := h1.next hb3
      have HR3 := HR.next hb3
      have HB3 := below_step HB hb3
      have HC := Lib.hid (HP.out _ h3)
      have hn1 : ((n : Int) == 1) = false := by rw [beq_eq_false_iff_ne]; omega
      have hn0 : ((n : Int) == 0) = false := by rw [beq_eq_false_iff_ne]; omega
      clear h1 hb3
      go_wp2_with fail
      refine HC.out.mono ?_
      rintro e w4 ⟨A4, c4, rfl, hs4, hb4⟩
      have HR4 := HR3.next hb4
      have HB4 := below_step HB3 hb4
      have hm4 := hs4.max
      have hl4 := hs4.le
      unfold maxLen at hm4
      clear h3 hb4 HC
      go_wp2_with fail
      refine (signed_any _ A4 nr c4 _ (by omega)).mono ?_
      rintro e w5 ⟨rfl, hb5⟩
      have HR5 := HR4.next hb5
      have HB5 := below_step HB4 hb5
      have hs5 := hs4.next hb5
      obtain ⟨t1, t2, t3, t4⟩ := HR5.facts
      go_wp2
      first
        | (refine bodyPost_ret (v := .tuple #[.agg #[.bool (false && decide (nr ≠ 0)), .slice A4 nr c4], .int .i64 err]) (by simp [results, Try.results31, go_sem, t1, t2]) rfl ?_
           exact GiveE.mk HB5 (by omega) HR5 HNR.out hs5 HQ.out _ _)
        | (refine bodyPost_ret (v := .tuple #[.agg #[.bool (true && decide (nr ≠ 0)), .slice A4 nr c4], .int .i64 err]) (by simp [results, Try.results31, go_sem, t1, t2]) rfl ?_
           exact GiveE.mk HB5 (by omega) HR5 HNR.out hs5 HQ.out _ _)

theorem pow_any (x : Value) (neg : Bool) (v k : Nat) (w : World) (hx : Zi w x neg v) (hva : Vd neg v) (hk : k ≤ 9223372036854775807) :
    Calls Try.prog 31 #[x, .int .i64 (k : Int)] w (GiveE (zpowS neg v k).1 (zpowS neg v k).2.1 (zpowS neg v k).2.2 w) := by
  obtain ⟨A, c, rfl, hs⟩ := hx
  obtain ⟨n, hn⟩ : ∃ n, (enc v).length = n := ⟨_, rfl⟩
  rw [hn] at hs ⊢
  by_cases h : 0 < k ∧ (v = 0 ∨ v = 1)
  · have e := powS_one h.1 h.2
    have e2 : zpowS neg v k = ((neg && decide (k % 2 = 1)) && decide (v ≠ 0), v, 0) := by unfold zpowS; rw [e]
    rw [e2]
    exact pow_clone neg _ A n c v k w hs hva hk (sgn3 neg k) (by omega) h.2 _ rfl
  · have h2 : k = 0 ∨ (0 < k ∧ 2 ≤ v) := by omega
    exact pow_power neg _ A n c v k w hs hva hk (sgn3 neg k) h2 _ _ rfl _ rfl
end Go.Proofs.Ytebbpodcldndjaa
