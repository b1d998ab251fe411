/- Contracts: the specification's FromDigits; what both sides' Digits refuse; FromDigits of the code, any row. -/
import Derived.Test.YtkcekimgfcdgbaaVl
set_option linter.unusedVariables false
namespace Go.Proofs.Ytkcekimgfcdgbaa
open Go.RowKit

set_option maxRecDepth 100000 in
set_option maxHeartbeats 1000000 in
theorem fromDigits_all (A : Option Addr) (n c b V : Nat) (l : List Nat) (w : World) (hs : Sl w w.heap.size A n c (nl l)) (hb : 2 ≤ b) (hb2 : b ≤ 65536) (hn : n ≤ 4096) (hd : OkD b l) (hV : horn b l = V) :
    Calls Try.prog 45 #[.slice A n c, .int .i64 (b : Int)] w (GiveE (limS false V).1 (limS false V).2.1 (limS false V).2.2 w) := by
  have hl : l.length = n := by have := hs.len; simpa [nl] using this
  have hmax := hs.max
  have hle := hs.le
  unfold maxLen at hmax
  have HL := Lib.hid hl
  have HR := At.new w (.bool false) (.slice none 0 0)
  have hb0 := below_new w (.cells #[.bool false, .slice none 0 0] 24)
  have hB : baseB (b : Int) = true := by unfold baseB; rw [decide_eq_true (by omega), decide_eq_true (by omega)]; rfl
  have HIB := Lib.hid (fun W : World => isBase_any (b : Int) W)
  rw [hB] at HIB
  have HDG : Hid (∀ k, l.getD k 0 < b) := fun k => by
    rcases Nat.lt_or_ge k l.length with hk | hk
    · simp only [List.getD, List.getElem?_eq_getElem hk, Option.getD_some]; exact hd _ (List.getElem_mem _)
    · simp [List.getD, List.getElem?_eq_none hk]; omega
  have HVV := Lib.hid hV
  clear hl hB hV
  go_enter Try.func45, Try.ntmps45
  go_wp2_with fail
  refine (HIB.out _).mono ?_
  rintro e w' ⟨rfl, rfl⟩
  have hs1 := hs.next hb0
  go_wp2
  go_loop [21] (fun i => ∃ k : Nat, k ≤ n ∧ i = .int .i64 k) (fun i => n - (intOf i).toNat)
  case atStart => exact ⟨0, Nat.zero_le _, rfl⟩
  case round =>
    obtain ⟨k, hk, rfl⟩ := hrel
    by_cases hlt : k < n
    · obtain ⟨bb, off, rfl, hbb, hc⟩ := at_nl hs1 hlt
      have hx := HDG.out k
      generalize l.getD k 0 = x at *
      have hx0 : (0 : Int) ≤ (x : Int) := by omega
      have hx1 : (x : Int) < (b : Int) := by omega
      go_wp2
      go_round
      case rel => exact ⟨k + 1, by omega, by go_num⟩
      case measure => simp [intOf]; omega
    · obtain rfl : n = k := by omega
      have HS0 := Lib.hid hs
      clear hs1 hs
      go_wp2
      go_loopw [8, 36] (fun mag i wr => ∃ (k m nm cm : Nat) (Am : Option Addr), mag = .slice Am nm cm ∧ k ≤ n ∧ i = .int .i64 k ∧ nm ≤ 512 ∧ Hid ((enc m).length = nm) ∧ Hid (m = horn b (l.take k)) ∧
          wr.ownsRow (w.heap.size + 1) 63 1 (.slice Am nm cm) nm (ml (enc m)) ∧ Below w.heap.size w wr ∧ w.heap.size + 1 ≤ wr.heap.size ∧ At wr w.heap.size (.bool false) (.slice none 0 0)) (fun _ i _ => n - (intOf i).toNat)
      case atStart => exact ⟨0, 0, 0, 0, none, rfl, Nat.zero_le _, rfl, by omega, Lib.hid (by rw [enc_zero]; rfl), Lib.hid rfl, by rw [enc_zero]; exact World.ownsRow_nil _ _ _ _, hb0, by simp, HR⟩
      case round =>
        obtain ⟨k, m, nm, cm, Am, rfl, hk, rfl, hnm, hem, hm, hom, hbel, hsz, hA⟩ := hrel
        by_cases hlt2 : k < n
        · obtain ⟨bb, off, rfl, hbb, hc⟩ := at_nl (HS0.out.below hbel) hlt2
          have hx := HDG.out k
          have hsn := take_snocD l k (by rw [HL.out]; exact hlt2)
          have HM := Lib.hid (multiplyAdd_own (w.heap.size + 1) Am nm cm b (l.getD k 0) m wr hom (by omega) (by omega) (by omega) hsz (by omega))
          have hm2 : m * b + l.getD k 0 = horn b (l.take (k + 1)) := by rw [hsn, horn_snoc, ← hm.out]
          have hle2 : horn b (l.take (k + 1)) ≤ V := by rw [← HVV.out]; exact horn_take b (by omega) l (k + 1)
          rw [hm2] at HM
          have HH : Hid (horn b (l.take (k + 1)) = horn b (l.take (k + 1))) := rfl
          obtain ⟨m2, hm3⟩ : ∃ m2, horn b (l.take (k + 1)) = m2 := ⟨_, rfl⟩
          rw [hm3] at HM hle2
          have HMM : Hid (m2 = horn b (l.take (k + 1))) := hm3.symm
          obtain ⟨n2, hn2⟩ : ∃ n2, (enc m2).length = n2 := ⟨_, rfl⟩
          have HFit : Hid (512 < n2 → limS false V = (false, 0, 4)) := fun h => by
            unfold limS
            rw [if_neg]
            intro hh
            have := length_le_of hle2 hh
            omega
          have HN2 := Lib.hid hn2
          clear hsn hm2 hm3 hn2 hm hem hom HH
          generalize l.getD k 0 = x at *
          have hx0 : (0 : Int) ≤ (x : Int) := by omega
          have hx1 : (x : Int) < (b : Int) := by omega
          have hb3 : (b : Int) ≤ 65536 := by omega
          have hb4 : (2 : Int) ≤ (b : Int) := by omega
          go_wp2_with fail
          refine HM.out.mono ?_
          rintro e W2 ⟨A2, c2, rfl, ho2, hbb2⟩
          rw [HN2.out] at ho2 ⊢
          have hA3 := hA.below hbb2 (by omega)
          have hbel3 := hbel.trans (hbb2.mono (by omega))
          have hsz3 : w.heap.size + 1 ≤ W2.heap.size := by have := hbb2.size; omega
          clear hA hbel hsz hbb2 HM hc
          by_cases hlen2 : n2 ≤ 512
          · have hlI : (n2 : Int) ≤ 512 := by omega
            go_wp2
            go_roundw
            case rel => exact ⟨k + 1, m2, n2, c2, A2, rfl, by omega, by go_num, hlen2, HN2, HMM, ho2, hbel3, hsz3, hA3⟩
            case measure => simp [intOf]; omega
          · have hlI : (512 : Int) < (n2 : Int) := by omega
            have HLL := Lib.hid (HFit.out (by omega))
            obtain ⟨t1, t2, t3, t4⟩ := hA3.facts
            clear ho2 HMM HN2 HFit
            go_wp2
            refine bodyPost_ret (v := .tuple #[.agg #[.bool false, .slice none 0 0], .int .i64 4]) (by simp [results, Try.results45, go_sem, t1, t2]) rfl ?_
            rw [HLL.out]
            exact ⟨_, rfl, Zi.zero _, by first | exact below_two hbel3 (by omega) _ _ | exact hbel3⟩
        · obtain rfl : n = k := by omega
          have hmV : m = V := by rw [hm.out, List.take_of_length_le (by rw [HL.out]; omega), HVV.out]
          have HMV := Lib.hid hmV
          have HS := Lib.hid (Sl.of_own hom)
          have hmx := (Sl.of_own hom).max
          have hle6 := (Sl.of_own hom).le
          unfold maxLen at hmx
          clear hmV hm hom
          go_wp2_with fail
          refine (signed_any _ Am nm cm _ (by omega)).mono ?_
          rintro e W2 ⟨rfl, hbb2⟩
          have hA3 := hA.next hbb2
          have hbel3 := below_step hbel hbb2
          have hs7 := HS.out.next hbb2
          obtain ⟨t1, t2, t3, t4⟩ := hA3.facts
          clear hA hbel hbb2
          go_wp2
          refine bodyPost_ret (v := .tuple #[.agg #[.bool false, .slice Am nm cm], .int .i64 0]) (by simp [results, Try.results45, go_sem, t1, t2]) rfl ?_
          have hfit : limS false V = (false, V, 0) := by unfold limS; rw [if_pos (by rw [← HMV.out, hem.out]; exact hnm)]
          rw [hfit, ← HMV.out]
          refine ⟨_, rfl, ?_, by first | exact below_two hbel3 (by omega) _ _ | exact hbel3⟩
          first
            | exact Zi.store hA3 ⟨Am, cm, by rw [hem.out], by rw [hem.out]; exact hs7⟩ _ _
            | exact ⟨Am, cm, by rw [hem.out], by rw [hem.out]; exact hs7⟩

theorem il_at {w : World} {B : Nat} {A : Option Addr} {n c : Nat} {l : List Int} (h : Sl w B A n c (il l)) {k : Nat} (hk : k < n) : ∃ b off, A = some ⟨b, off, none⟩ ∧ b < B ∧ w.cell? ⟨b, off + k, none⟩ = some (.int .i64 (l.getD k 0)) := by
  have hl : l.length = n := by rw [← length_il]; exact h.len
  obtain ⟨b, off, e, hb, hc⟩ := h.at_ hk (.int .i64 0)
  exact ⟨b, off, e, hb, by rw [hc, getD_il l k (by omega)]⟩
theorem giveE_zero {w W : World} {err : Int} (h : Below w.heap.size w W) : GiveE false 0 err w (.returned (.tuple #[.agg #[.bool false, .slice none 0 0], .int .i64 err])) W := ⟨_, rfl, Zi.zero _, h⟩

set_option maxRecDepth 100000 in
theorem fromDigits_base (A : Option Addr) (n c : Nat) (l : List Int) (b : Int) (w : World) (hs : Sl w w.heap.size A n c (il l)) (hb : baseB b = false) :
    Calls Try.prog 45 #[.slice A n c, .int .i64 b] w (GiveE false 0 1 w) := by
  have HR := At.new w (.bool false) (.slice none 0 0)
  have hb0 := below_new w (.cells #[.bool false, .slice none 0 0] 24)
  have HIB := Lib.hid (fun W : World => isBase_any b W)
  rw [hb] at HIB
  clear hb hs
  go_enter Try.func45, Try.ntmps45
  go_wp2_with fail
  refine (HIB.out _).mono ?_
  rintro e w' ⟨rfl, rfl⟩
  obtain ⟨t1, t2, t3, t4⟩ := HR.facts
  go_wp2
  refine bodyPost_ret (v := .tuple #[.agg #[.bool false, .slice none 0 0], .int .i64 1]) (by simp [results, Try.results45, go_sem, t1, t2]) rfl (giveE_zero ?_)
  first | exact below_two hb0 (Nat.le_refl _) _ _ | exact hb0
set_option maxRecDepth 100000 in
theorem fromDigits_long (A : Option Addr) (n c : Nat) (l : List Int) (b : Int) (w : World) (hs : Sl w w.heap.size A n c (il l)) (hb : baseB b = true) (hn : 4096 < n) :
    Calls Try.prog 45 #[.slice A n c, .int .i64 b] w (GiveE false 0 4 w) := by
  have hle := hs.le
  have hmax := hs.max
  unfold maxLen at hmax
  have HR := At.new w (.bool false) (.slice none 0 0)
  have hb0 := below_new w (.cells #[.bool false, .slice none 0 0] 24)
  have HIB := Lib.hid (fun W : World => isBase_any b W)
  rw [hb] at HIB
  have hnI : (4096 : Int) < (n : Int) := by omega
  clear hb hs
  go_enter Try.func45, Try.ntmps45
  go_wp2_with fail
  refine (HIB.out _).mono ?_
  rintro e w' ⟨rfl, rfl⟩
  obtain ⟨t1, t2, t3, t4⟩ := HR.facts
  go_wp2
  refine bodyPost_ret (v := .tuple #[.agg #[.bool false, .slice none 0 0], .int .i64 4]) (by simp [results, Try.results45, go_sem, t1, t2]) rfl (giveE_zero ?_)
  first | exact below_two hb0 (Nat.le_refl _) _ _ | exact hb0
set_option maxRecDepth 100000 in
set_option maxHeartbeats 1000000 in
theorem fromDigits_range (A : Option Addr) (n c k0 : Nat) (l : List Int) (b : Int) (w : World) (hs : Sl w w.heap.size A n c (il l)) (hb : baseB b = true) (hn : n ≤ 4096) (hk0 : k0 < n) (hpre : ∀ k, k < k0 → 0 ≤ l.getD k 0 ∧ l.getD k 0 < b) (hbad : ¬ (0 ≤ l.getD k0 0 ∧ l.getD k0 0 < b)) :
    Calls Try.prog 45 #[.slice A n c, .int .i64 b] w (GiveE false 0 3 w) := by
  have hle := hs.le
  have hmax := hs.max
  unfold maxLen at hmax
  have HR := At.new w (.bool false) (.slice none 0 0)
  have hb0 := below_new w (.cells #[.bool false, .slice none 0 0] 24)
  have HIB := Lib.hid (fun W : World => isBase_any b W)
  rw [hb] at HIB
  have HP := Lib.hid hpre
  have HX := Lib.hid hbad
  have hs1 := hs.next hb0
  have hnI : (n : Int) ≤ 4096 := by omega
  obtain ⟨t1, t2, t3, t4⟩ := HR.facts
  clear hb hs hpre hbad
  go_enter Try.func45, Try.ntmps45
  go_wp2_with fail
  refine (HIB.out _).mono ?_
  rintro e w' ⟨rfl, rfl⟩
  clear HIB
  go_wp2
  go_loop [21] (fun i => ∃ k : Nat, k ≤ k0 ∧ i = .int .i64 k) (fun i => n - (intOf i).toNat)
  case atStart => exact ⟨0, Nat.zero_le _, rfl⟩
  case round =>
    obtain ⟨k, hk, rfl⟩ := hrel
    have hlt : k < n := by omega
    obtain ⟨bb, off, rfl, hbb, hc⟩ := il_at hs1 hlt
    by_cases he : k = k0
    · subst he
      have hx := HX.out
      generalize l.getD k 0 = x at *
      by_cases hx0 : x < 0
      · go_wp2
        refine bodyPost_ret (v := .tuple #[.agg #[.bool false, .slice none 0 0], .int .i64 3]) (by simp [results, Try.results45, go_sem, t1, t2]) rfl (giveE_zero ?_)
        first | exact below_two hb0 (Nat.le_refl _) _ _ | exact hb0
      · have hx1 : b ≤ x := by omega
        have hx2 : (0 : Int) ≤ x := by omega
        clear hx hx0
        go_wp2
        refine bodyPost_ret (v := .tuple #[.agg #[.bool false, .slice none 0 0], .int .i64 3]) (by simp [results, Try.results45, go_sem, t1, t2]) rfl (giveE_zero ?_)
        first | exact below_two hb0 (Nat.le_refl _) _ _ | exact hb0
    · obtain ⟨hx0, hx1⟩ := HP.out k (by omega)
      generalize l.getD k 0 = x at *
      go_wp2
      go_round
      case rel => exact ⟨k + 1, by omega, by go_num⟩
      case measure => simp [intOf]; omega

theorem base_bad {b : Int} (h : baseB b = false) : b < 2 ∨ (2 ≤ b ∧ 65536 < b) := by
  unfold baseB at h
  by_cases h1 : 2 ≤ b
  · by_cases h2 : b ≤ 65536
    · rw [decide_eq_true h1, decide_eq_true h2] at h; cases h
    · exact .inr ⟨h1, by omega⟩
  · exact .inl (by omega)
theorem base_good {b : Int} (h : baseB b = true) : 2 ≤ b ∧ b ≤ 65536 := by
  unfold baseB at h
  simpa using h
theorem grow_one {m k b x : Nat} (h : (enc m).length ≤ k) (hb : b ≤ 65536) (hx : x < 65536) : (enc (m * b + x)).length ≤ k + 1 := by
  rw [length_enc_le] at h ⊢
  rw [Nat.pow_succ]
  generalize 4294967296 ^ k = P at *
  have h1 : m * b ≤ m * 65536 := Nat.mul_le_mul_left m hb
  omega

set_option maxRecDepth 100000 in
theorem rFromDigits_base (A : Option Addr) (n c : Nat) (l : List Int) (b : Int) (w : World) (hs : Sl w w.heap.size A n c (il l)) (hb : baseB b = false) :
    Calls Try.prog 46 #[.slice A n c, .int .i64 b] w (GiveE false 0 1 w) := by
  have HR := At.new w (.bool false) (.slice none 0 0)
  have hb0 := below_new w (.cells #[.bool false, .slice none 0 0] 24)
  obtain ⟨t1, t2, t3, t4⟩ := HR.facts
  rcases base_bad hb with h | ⟨h0, h⟩
  all_goals
    clear hb hs
    go_enter Try.func46, Try.ntmps46
    go_wp2
    refine bodyPost_ret (v := .tuple #[.agg #[.bool false, .slice none 0 0], .int .i64 1]) (by simp [results, Try.results46, go_sem, t1, t2]) rfl (giveE_zero ?_)
    first | exact below_two hb0 (Nat.le_refl _) _ _ | exact hb0
set_option maxRecDepth 100000 in
theorem rFromDigits_long (A : Option Addr) (n c : Nat) (l : List Int) (b : Int) (w : World) (hs : Sl w w.heap.size A n c (il l)) (hb : baseB b = true) (hn : 4096 < n) :
    Calls Try.prog 46 #[.slice A n c, .int .i64 b] w (GiveE false 0 4 w) := by
  have hle := hs.le
  have hmax := hs.max
  unfold maxLen at hmax
  have HR := At.new w (.bool false) (.slice none 0 0)
  have hb0 := below_new w (.cells #[.bool false, .slice none 0 0] 24)
  obtain ⟨t1, t2, t3, t4⟩ := HR.facts
  obtain ⟨g1, g2⟩ := base_good hb
  have hnI : (4096 : Int) < (n : Int) := by omega
  have hbg1 : decide (b < 2) = false := decide_eq_false (by omega)
  have hbg2 : decide (65536 < b) = false := decide_eq_false (by omega)
  clear hb hs
  go_enter Try.func46, Try.ntmps46
  go_wp2
  refine bodyPost_ret (v := .tuple #[.agg #[.bool false, .slice none 0 0], .int .i64 4]) (by simp [results, Try.results46, go_sem, t1, t2]) rfl (giveE_zero ?_)
  first | exact below_two hb0 (Nat.le_refl _) _ _ | exact hb0
set_option maxRecDepth 100000 in
set_option maxHeartbeats 1000000 in
theorem rFromDigits_range (A : Option Addr) (n c k0 : Nat) (l : List Int) (b : Int) (w : World) (hs : Sl w w.heap.size A n c (il l)) (hb : baseB b = true) (hn : n ≤ 4096) (hk0 : k0 < n) (hpre : ∀ k, k < k0 → 0 ≤ l.getD k 0 ∧ l.getD k 0 < b) (hbad : ¬ (0 ≤ l.getD k0 0 ∧ l.getD k0 0 < b)) :
    Calls Try.prog 46 #[.slice A n c, .int .i64 b] w (GiveE false 0 3 w) := by
  have hle := hs.le
  have hmax := hs.max
  unfold maxLen at hmax
  have HR := At.new w (.bool false) (.slice none 0 0)
  have hb0 := below_new w (.cells #[.bool false, .slice none 0 0] 24)
  obtain ⟨g1, g2⟩ := base_good hb
  have hbg1 : decide (b < 2) = false := decide_eq_false (by omega)
  have hbg2 : decide (65536 < b) = false := decide_eq_false (by omega)
  have HP := Lib.hid hpre
  have HX := Lib.hid hbad
  have hs1 := hs.next hb0
  have hnI : (n : Int) ≤ 4096 := by omega
  obtain ⟨t1, t2, t3, t4⟩ := HR.facts
  clear hb hs hpre hbad
  go_enter Try.func46, Try.ntmps46
  go_wp2
  go_loop [6] (fun i => ∃ k : Nat, k ≤ k0 ∧ i = .int .i64 k) (fun i => n - (intOf i).toNat)
  case atStart => exact ⟨0, Nat.zero_le _, rfl⟩
  case round =>
    obtain ⟨k, hk, rfl⟩ := hrel
    have hlt : k < n := by omega
    obtain ⟨bb, off, rfl, hbb, hc⟩ := il_at hs1 hlt
    by_cases he : k = k0
    · subst he
      have hx := HX.out
      generalize l.getD k 0 = x at *
      by_cases hx0 : x < 0
      · have hxd : decide (x < 0) = true := decide_eq_true hx0
        go_wp2
        refine bodyPost_ret (v := .tuple #[.agg #[.bool false, .slice none 0 0], .int .i64 3]) (by simp [results, Try.results46, go_sem, t1, t2]) rfl (giveE_zero ?_)
        first | exact below_two hb0 (Nat.le_refl _) _ _ | exact hb0
      · have hx1 : b ≤ x := by omega
        have hx2 : (0 : Int) ≤ x := by omega
        have hxd : decide (x < 0) = false := decide_eq_false hx0
        clear hx hx0
        go_wp2
        refine bodyPost_ret (v := .tuple #[.agg #[.bool false, .slice none 0 0], .int .i64 3]) (by simp [results, Try.results46, go_sem, t1, t2]) rfl (giveE_zero ?_)
        first | exact below_two hb0 (Nat.le_refl _) _ _ | exact hb0
    · obtain ⟨hx0, hx1⟩ := HP.out k (by omega)
      generalize l.getD k 0 = x at *
      have hxd : decide (x < 0) = false := decide_eq_false (by omega)
      have hxe : decide (b ≤ x) = false := decide_eq_false (by omega)
      go_wp2
      go_round
      case rel => exact ⟨k + 1, by omega, by go_num⟩
      case measure => simp [intOf]; omega

set_option maxRecDepth 100000 in
set_option maxHeartbeats 2000000 in
theorem rFromDigits_all (A : Option Addr) (n c b V : Nat) (l : List Nat) (w : World) (hs : Sl w w.heap.size A n c (nl l)) (hb : 2 ≤ b) (hb2 : b ≤ 65536) (hn : n ≤ 4096) (hd : OkD b l) (hV : horn b l = V) :
    Calls Try.prog 46 #[.slice A n c, .int .i64 (b : Int)] w (GiveE (limS false V).1 (limS false V).2.1 (limS false V).2.2 w) := by
  have hl : l.length = n := by have := hs.len; simpa [nl] using this
  have hmax := hs.max
  have hle := hs.le
  unfold maxLen at hmax
  have HL := Lib.hid hl
  have HR := At.new w (.bool false) (.slice none 0 0)
  have hb0 := below_new w (.cells #[.bool false, .slice none 0 0] 24)
  have HDG : Hid (∀ k, l.getD k 0 < b) := fun k => by
    rcases Nat.lt_or_ge k l.length with hk | hk
    · simp only [List.getD, List.getElem?_eq_getElem hk, Option.getD_some]; exact hd _ (List.getElem_mem _)
    · simp [List.getD, List.getElem?_eq_none hk]; omega
  have HVV := Lib.hid hV
  have g1 : (2 : Int) ≤ (b : Int) := by omega
  have g2 : (b : Int) ≤ 65536 := by omega
  have hbg1 : decide ((b : Int) < 2) = false := decide_eq_false (by omega)
  have hbg2 : decide ((65536 : Int) < (b : Int)) = false := decide_eq_false (by omega)
  have hnI : (n : Int) ≤ 4096 := by omega
  have hs1 := hs.next hb0
  clear hl hV hs hd
  go_enter Try.func46, Try.ntmps46
  go_wp2
  go_loop [6] (fun i => ∃ k : Nat, k ≤ n ∧ i = .int .i64 k) (fun i => n - (intOf i).toNat)
  case atStart => exact ⟨0, Nat.zero_le _, rfl⟩
  case round =>
    obtain ⟨k, hk, rfl⟩ := hrel
    by_cases hlt : k < n
    · obtain ⟨bb, off, rfl, hbb, hc⟩ := at_nl hs1 hlt
      have hx := HDG.out k
      generalize l.getD k 0 = x at *
      have hx0 : (0 : Int) ≤ (x : Int) := by omega
      have hx1 : (x : Int) < (b : Int) := by omega
      have hxd : decide ((x : Int) < 0) = false := decide_eq_false (by omega)
      have hxe : decide ((b : Int) ≤ (x : Int)) = false := decide_eq_false (by omega)
      go_wp2
      go_round
      case rel => exact ⟨k + 1, by omega, by go_num⟩
      case measure => simp [intOf]; omega
    · obtain rfl : n = k := by omega
      obtain ⟨w1, hw1⟩ : ∃ w1, w.alloc (.cells #[.bool false, .slice none 0 0] 24) = w1 := ⟨_, rfl⟩
      obtain ⟨B1, hB1⟩ : ∃ B1, w1.heap.size = B1 := ⟨_, rfl⟩
      have hB : w.heap.size + 1 = B1 := by rw [← hB1, ← hw1]; simp
      have hst : Sl w1 B1 A n c (nl l) := by rw [← hB1, ← hw1]; exact hs1
      rw [hw1] at HR hb0
      have hbel0 : Below B1 w1 w1 := Below.refl _ _
      have hBs : B1 ≤ w1.heap.size := by omega
      clear hs1 hB1
      go_wp2
      try rw [hw1]
      go_loopw [7, 8] (fun mag i wr => ∃ (k m nm cm : Nat) (Am : Option Addr), mag = .slice Am nm cm ∧ k ≤ n ∧ i = .int .i64 k ∧ nm ≤ k ∧ Hid ((enc m).length = nm) ∧ Hid (m = horn b (l.take k)) ∧
          Sl wr wr.heap.size Am nm cm (ml (enc m)) ∧ Below B1 w1 wr ∧ B1 ≤ wr.heap.size) (fun _ i _ => n - (intOf i).toNat)
      case atStart => exact ⟨0, 0, 0, 0, none, rfl, Nat.zero_le _, rfl, Nat.le_refl _, Lib.hid (by rw [enc_zero]; rfl), Lib.hid rfl, by rw [enc_zero]; exact Sl.none_ _ _, hbel0, hBs⟩
      case round =>
        obtain ⟨k, m, nm, cm, Am, rfl, hk, rfl, hnm, hem, hm, hsm, hbel, hsz⟩ := hrel
        clear hbel0 hBs
        by_cases hlt2 : k < n
        · obtain ⟨bb, off, rfl, hbb, hc⟩ := at_nl (hst.below hbel) hlt2
          have hx := HDG.out k
          have hsn := take_snocD l k (by rw [HL.out]; exact hlt2)
          have HM := Lib.hid (rLonger_any Am nm cm b (l.getD k 0) (enc m) wr hsm (ok_enc m) (by omega) hb2 (by omega))
          rw [val_enc] at HM
          have hm2 : m * b + l.getD k 0 = horn b (l.take (k + 1)) := by rw [hsn, horn_snoc, ← hm.out]
          have hg := grow_one (m := m) (k := k) (b := b) (x := l.getD k 0) (by rw [hem.out]; exact hnm) hb2 (by omega)
          obtain ⟨m2, hm3⟩ : ∃ m2, m * b + l.getD k 0 = m2 := ⟨_, rfl⟩
          rw [hm3] at HM hg hm2
          have HMM : Hid (m2 = horn b (l.take (k + 1))) := hm2
          obtain ⟨n2, hn2⟩ : ∃ n2, (enc m2).length = n2 := ⟨_, rfl⟩
          rw [hn2] at hg
          have HN2 := Lib.hid hn2
          clear hsn hm2 hm3 hn2 hm hem hsm
          generalize l.getD k 0 = x at *
          have hx0 : (0 : Int) ≤ (x : Int) := by omega
          have hx1 : (x : Int) < 65536 := by omega
          go_wp2_with fail
          refine HM.out.mono ?_
          rintro e W2 ⟨A2, c2, rfl, hs2, hbb2⟩
          rw [HN2.out] at hs2 ⊢
          have hbel3 := hbel.trans (hbb2.mono hsz)
          have hsz3 : B1 ≤ W2.heap.size := by have := hbb2.size; omega
          clear hbel hsz hbb2 HM hc
          go_wp2
          go_roundw
          case rel => exact ⟨k + 1, m2, n2, c2, A2, rfl, by omega, by go_num, hg, HN2, HMM, hs2, hbel3, hsz3⟩
          case measure => simp [intOf]; omega
        · obtain rfl : n = k := by omega
          have hmV : m = V := by rw [hm.out, List.take_of_length_le (by rw [HL.out]; omega), HVV.out]
          have hA := HR.below hbel (by omega)
          have HB := hb0.trans (hbel.mono (by omega))
          have HT : Hid (Calls Try.prog 53 #[.bool false, .slice Am nm cm] wr (GiveE (limS false V).1 (limS false V).2.1 (limS false V).2.2 wr)) := by
            have := limit_any false Am nm cm (enc m) wr hsm (ok_enc m) (by omega)
            rw [val_enc, hmV, Bool.false_and] at this
            exact this
          clear hmV hm hem hsm hbel hb0 HR hst
          go_wp2_with fail
          refine HT.out.mono ?_
          intro e W2 h
          obtain ⟨A5, n5, c5, rfl, hs5, hb5⟩ := giveE_out h
          have hA3 := hA.next hb5
          have hbel3 := below_step HB hb5
          obtain ⟨t1, t2, t3, t4⟩ := hA3.facts
          clear hA HB hb5 HT h
          go_wp2
          refine bodyPost_ret (v := .tuple #[.agg #[.bool (limS false V).1, .slice A5 n5 c5], .int .i64 (limS false V).2.2]) (by simp [results, Try.results46, go_sem, t1, t2]) rfl ⟨_, rfl, ?_, by first | exact below_two hbel3 (Nat.le_refl _) _ _ | exact hbel3⟩
          first
            | exact Zi.store hA3 (sl_zi hs5) _ _
            | exact sl_zi hs5

theorem giveN_nil {w W : World} {err : Int} (h : Below w.heap.size w W) : GiveN [] err w (.returned (.tuple #[.slice none 0 0, .int .i64 err])) W := ⟨none, 0, rfl, Sl.none_ _ _, h⟩
set_option maxRecDepth 100000 in
theorem digits_invalid (neg : Bool) (A : Option Addr) (n c : Nat) (l : List Nat) (b : Int) (w : World) (hs : Sl w w.heap.size A n c (ml l)) (hok : Ok l) (hv : validB neg l = false) :
    Calls Try.prog 43 #[.agg #[.bool neg, .slice A n c], .int .i64 b] w (GiveN [] 1 w) := by
  have hb0 := below_new w (.cells #[.bool neg, .slice A n c] 24)
  have h1 := hs.next hb0
  clear hs
  go_enter Try.func43, Try.ntmps43
  go_wp2_with fail
  refine (valid_false hv hok h1).mono ?_
  rintro e w1 ⟨rfl, hb1⟩
  go_wp2
  go_ret2
  exact giveN_nil (below_step hb0 hb1)
set_option maxRecDepth 100000 in
theorem digits_base (neg : Bool) (A : Option Addr) (n c v : Nat) (b : Int) (w : World) (hs : Sl w w.heap.size A n c (ml (enc v))) (hva : Vd neg v) (hb : baseB b = false) :
    Calls Try.prog 43 #[.agg #[.bool neg, .slice A n c], .int .i64 b] w (GiveN [] 1 w) := by
  cases neg with
  | true => exact (digits_neg A n c v b w hs hva).mono fun e W h => by obtain ⟨rfl, h⟩ := h; exact giveN_nil h
  | false =>
    have HA := At.new w (.bool false) (.slice A n c)
    have hb0 := below_new w (.cells #[.bool false, .slice A n c] 24)
    have h1 := hs.next hb0
    have HIB := Lib.hid (fun W : World => isBase_any b W)
    rw [hb] at HIB
    clear hs hb
    go_enter Try.func43, Try.ntmps43
    go_wp2_with fail
    refine (valid_true hva h1).mono ?_
    rintro e w1 ⟨rfl, hb1⟩
    obtain ⟨a1, a2, _, _⟩ := (HA.next hb1).facts
    go_wp2_with fail
    refine (HIB.out _).mono ?_
    rintro e w2 ⟨rfl, rfl⟩
    go_wp2
    go_ret2
    exact giveN_nil (by first | exact below_step hb0 hb1 | exact (below_step hb0 hb1).drew)
set_option maxRecDepth 100000 in
theorem rDigits_invalid (neg : Bool) (A : Option Addr) (n c : Nat) (l : List Nat) (b : Int) (w : World) (hs : Sl w w.heap.size A n c (ml l)) (hok : Ok l) (hv : validB neg l = false) :
    Calls Try.prog 44 #[.agg #[.bool neg, .slice A n c], .int .i64 b] w (GiveN [] 1 w) := by
  have hb0 := below_new w (.cells #[.bool neg, .slice A n c] 24)
  have h1 := hs.next hb0
  clear hs
  go_enter Try.func44, Try.ntmps44
  go_wp2_with fail
  refine (rValid_false hv hok h1).mono ?_
  rintro e w1 ⟨rfl, hb1⟩
  go_wp2
  go_ret2
  exact giveN_nil (below_step hb0 hb1)
set_option maxRecDepth 100000 in
theorem rDigits_neg (A : Option Addr) (n c v : Nat) (b : Int) (w : World) (hs : Sl w w.heap.size A n c (ml (enc v))) (hva : Vd true v) :
    Calls Try.prog 44 #[.agg #[.bool true, .slice A n c], .int .i64 b] w (GiveN [] 1 w) := by
  have HA := At.new w (.bool true) (.slice A n c)
  have hb0 := below_new w (.cells #[.bool true, .slice A n c] 24)
  have h1 := hs.next hb0
  clear hs
  go_enter Try.func44, Try.ntmps44
  go_wp2_with fail
  refine (rValid_true hva h1).mono ?_
  rintro e w1 ⟨rfl, hb1⟩
  obtain ⟨a1, a2, _, _⟩ := (HA.next hb1).facts
  go_wp2
  go_ret2
  exact giveN_nil (below_step hb0 hb1)
set_option maxRecDepth 100000 in
theorem rDigits_base (neg : Bool) (A : Option Addr) (n c v : Nat) (b : Int) (w : World) (hs : Sl w w.heap.size A n c (ml (enc v))) (hva : Vd neg v) (hb : baseB b = false) :
    Calls Try.prog 44 #[.agg #[.bool neg, .slice A n c], .int .i64 b] w (GiveN [] 1 w) := by
  cases neg with
  | true => exact rDigits_neg A n c v b w hs hva
  | false =>
    have HA := At.new w (.bool false) (.slice A n c)
    have hb0 := below_new w (.cells #[.bool false, .slice A n c] 24)
    have h1 := hs.next hb0
    rcases base_bad hb with h | ⟨h0, h⟩
    · have hbg1 : decide (b < 2) = true := decide_eq_true h
      clear hs hb
      go_enter Try.func44, Try.ntmps44
      go_wp2_with fail
      refine (rValid_true hva h1).mono ?_
      rintro e w1 ⟨rfl, hb1⟩
      obtain ⟨a1, a2, _, _⟩ := (HA.next hb1).facts
      go_wp2
      go_ret2
      exact giveN_nil (below_step hb0 hb1)
    · have hbg1 : decide (b < 2) = false := decide_eq_false (by omega)
      have hbg2 : decide (65536 < b) = true := decide_eq_true h
      clear hs hb
      go_enter Try.func44, Try.ntmps44
      go_wp2_with fail
      refine (rValid_true hva h1).mono ?_
      rintro e w1 ⟨rfl, hb1⟩
      obtain ⟨a1, a2, _, _⟩ := (HA.next hb1).facts
      go_wp2
      go_ret2
      exact giveN_nil (below_step hb0 hb1)
end Go.Proofs.Ytkcekimgfcdgbaa
