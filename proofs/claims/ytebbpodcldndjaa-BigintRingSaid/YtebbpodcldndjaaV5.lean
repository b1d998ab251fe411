/- Contracts: Parse. -/
import Derived.Test.YtebbpodcldndjaaV4
import Derived.Lib.OthersKept
import Derived.Laws.RangeAny
set_option linter.unusedVariables false
namespace Go.Proofs.Ytebbpodcldndjaa
open Go.RowKit

/-- the bytes of a string -/
def sb (s : ByteArray) : List Nat := s.data.toList.map UInt8.toNat
theorem length_sb (s : ByteArray) : (sb s).length = s.size := by simp [sb]
theorem getD_sb (s : ByteArray) (k : Nat) (h : k < s.size) : (sb s).getD k 0 = s[k].toNat := by
  have h' : k < s.data.size := h
  simp only [sb, List.getD, List.getElem?_map, Array.getElem?_toList]
  rw [Array.getElem?_eq_getElem h']
  rfl
def isDig (x : Nat) : Bool := decide (48 ≤ x ∧ x ≤ 57)
/-- the value of decimal digits, the most significant first -/
def decV (l : List Nat) : Nat := l.foldl (fun v x => v * 10 + (x - 48)) 0
theorem decV_snoc (l : List Nat) (x : Nat) : decV (l ++ [x]) = decV l * 10 + (x - 48) := by simp [decV]
theorem take_snocD (l : List Nat) (k : Nat) (hk : k < l.length) : l.take (k + 1) = l.take k ++ [l.getD k 0] := take_snoc l k hk
theorem all_snoc (p : Nat → Bool) (l : List Nat) (t : Nat) (h : t < l.length) : (l.take (t + 1)).all p = ((l.take t).all p && p (l.getD t 0)) := by
  rw [take_snoc l t h, List.all_append]; simp
theorem all_not (p : Nat → Bool) (l : List Nat) (t : Nat) (h : t < l.length) (hb : p (l.getD t 0) = false) : l.all p = false := by
  rw [List.all_eq_false]
  refine ⟨l.getD t 0, ?_, by rw [hb]; decide⟩
  rw [show l.getD t 0 = l[t] by simp [List.getD, h]]
  exact List.getElem_mem _
theorem decV_lt (l : List Nat) : l.all isDig = true → decV l < 10 ^ l.length := by
  intro h
  have aux : ∀ (l : List Nat) (v k : Nat), l.all isDig = true → v < 10 ^ k → l.foldl (fun v x => v * 10 + (x - 48)) v < 10 ^ (k + l.length) := by
    intro l
    induction l with
    | nil => intro v k _ hv; simpa using hv
    | cons x l ih =>
      intro v k h hv
      rw [List.all_cons, Bool.and_eq_true] at h
      have hx : 48 ≤ x ∧ x ≤ 57 := by simpa [isDig] using h.1
      rw [List.foldl_cons, List.length_cons, show k + (l.length + 1) = (k + 1) + l.length by omega]
      refine ih _ _ h.2 ?_
      rw [Nat.pow_succ]; omega
  simpa [decV] using aux l 0 0 h (by simp)

theorem iterPos_of {w : World} {k : Nat} {s : ByteArray} {p : Nat} (h : w.heap[k]? = some (.stringIter s p)) : w.iterPos k = p := by
  simp [World.iterPos, h]

theorem own_iter {w : World} {B k n : Nat} {e : TypeId} {v : Value} {xs : List Value} (h : w.ownsRow B e 1 v n xs) (hk : k < B) (s : ByteArray) (p : Nat) : (w.iterAt k s p).ownsRow B e 1 v n xs := by
  obtain ⟨k1, k2⟩ := h
  refine ⟨k1, ?_⟩
  rcases k2 with k2 | ⟨gg, cap, cur, rfl, k4, k5, k6⟩
  · exact .inl k2
  · refine .inr ⟨gg, cap, cur, rfl, k4, ?_, k6⟩
    rw [← k5]
    simp only [World.iterAt]
    rw [Array.getElem?_setIfInBounds_ne (by omega)]
theorem At.iter {w : World} {g k : Nat} {u v : Value} (h : At w g u v) (hk : g ≠ k) (s : ByteArray) (p : Nat) : At (w.iterAt k s p) g u v := by
  unfold At at *
  rw [← h]
  simp only [World.iterAt]
  rw [Array.getElem?_setIfInBounds_ne (by omega)]
theorem dec_small (l : List Nat) (h : l.all isDig = true) (hl : l.length ≤ 4096) : (enc (decV l)).length ≤ 512 := by
  refine (length_enc_le _ _).2 ?_
  have h1 := decV_lt l h
  obtain ⟨z, hz⟩ : ∃ z, z = 512 := ⟨_, rfl⟩
  rw [← hz, pow_limb]
  have h2 : 10 ^ l.length ≤ 16 ^ l.length := Nat.pow_le_pow_left (by omega) _
  have h3 : (16 : Nat) ^ l.length = 2 ^ (4 * l.length) := by rw [show (16 : Nat) = 2 ^ 4 from rfl, ← Nat.pow_mul]
  have h4 : (2 : Nat) ^ (4 * l.length) ≤ 2 ^ (32 * z) := Nat.pow_le_pow_right (by omega) (by omega)
  omega
/-- what the digits of a text are, with or without a sign before them -/
def parseT (l : List Nat) (ng : Bool) : Bool × Nat × Int :=
  if 4096 < l.length then (false, 0, 4) else if l.length = 0 ∨ (l.getD 0 0 = 48 ∧ (1 < l.length ∨ ng = true)) then (false, 0, 9) else if l.all isDig = true then (ng && decide (decV l ≠ 0), decV l, 0) else (false, 0, 9)
theorem toList_nil {t : ByteArray} (h : t.size = 0) : t.toList = [] := by
  unfold ByteArray.toList
  rw [ByteArray.toList.loop.eq_def, if_neg (by omega)]
  rfl
theorem loop_ne (t : ByteArray) : ∀ (n i : Nat) (r : List UInt8), t.size - i = n → r ≠ [] → ByteArray.toList.loop t i r ≠ [] := by
  intro n
  induction n with
  | zero =>
    intro i r hn hr
    rw [ByteArray.toList.loop.eq_def, if_neg (by omega)]
    simpa using hr
  | succ n ih =>
    intro i r hn hr
    rw [ByteArray.toList.loop.eq_def, if_pos (by omega)]
    exact ih _ _ (by omega) (by simp)
theorem toList_ne {t : ByteArray} (h : 0 < t.size) : t.toList ≠ [] := by
  unfold ByteArray.toList
  rw [ByteArray.toList.loop.eq_def, if_pos h]
  exact loop_ne t _ _ _ rfl (by simp)

set_option maxRecDepth 100000 in
set_option maxHeartbeats 4000000 in
theorem parse_core (s t : ByteArray) (ng : Bool) (w : World) (ht : t.size ≤ 9223372036854775807) (q1 : Bool) (q2 : Nat) (q3 : Int) (hq : parseT (sb t) ng = (q1, q2, q3))
    (HCut : Hid (∀ W : World, Calls Try.prog 75 #[.string s, .string { data := #[45] }] W fun e w' => e = .returned (.tuple #[.string t, .bool ng]) ∧ W = w')) :
    Calls Try.prog 39 #[.string s] w (GiveE q1 q2 q3 w) := by
  have HR := At.new w (.bool false) (.slice none 0 0)
  have hb0 := below_new w (.cells #[.bool false, .slice none 0 0] 24)
  have hlen := length_sb t
  by_cases h1 : 4096 < t.size
  · have e : parseT (sb t) ng = (false, 0, 4) := by unfold parseT; rw [if_pos (by omega)]
    rw [e] at hq
    injection hq with e1 e2
    injection e2 with e2 e3
    subst e1 e2 e3
    have h1I : (4096 : Int) < (t.size : Int) := by omega
    clear hlen e h1
    go_enter Try.func39, Try.ntmps39
    go_wp2_with fail
    refine (HCut.out _).mono ?_
    rintro e w1 ⟨rfl, rfl⟩
    obtain ⟨t1, t2, t3, t4⟩ := HR.facts
    go_wp2
    exact bodyPost_ret (v := .tuple #[.agg #[.bool false, .slice none 0 0], .int .i64 4]) (by simp [results, Try.results39, go_sem, t1, t2]) rfl ⟨_, rfl, Zi.zero _, hb0⟩
  have h1I : (t.size : Int) ≤ 4096 := by omega
  by_cases h2 : (sb t).length = 0 ∨ ((sb t).getD 0 0 = 48 ∧ (1 < (sb t).length ∨ ng = true))
  · have e : parseT (sb t) ng = (false, 0, 9) := by unfold parseT; rw [if_neg (by omega), if_pos h2]
    rw [e] at hq
    injection hq with e1 e2
    injection e2 with e2 e3
    subst e1 e2 e3
    by_cases h0 : t.size = 0
    · have hE := toList_nil h0
      clear hlen e h1 h2 h0
      go_enter Try.func39, Try.ntmps39
      go_wp2_with fail
      refine (HCut.out _).mono ?_
      rintro e w1 ⟨rfl, rfl⟩
      obtain ⟨t1, t2, t3, t4⟩ := HR.facts
      go_wp2
      exact bodyPost_ret (v := .tuple #[.agg #[.bool false, .slice none 0 0], .int .i64 9]) (by simp [results, Try.results39, go_sem, t1, t2]) rfl ⟨_, rfl, Zi.zero _, hb0⟩
    have h0' : 0 < t.size := by omega
    have hne := toList_ne h0'
    have hE : t.toList.isEmpty = false := by cases hh : t.toList with | nil => exact absurd hh hne | cons => rfl
    rcases h2 with h2 | ⟨h2, h3⟩
    · omega
    rw [getD_sb t 0 h0'] at h2
    have h2I : ((t[0].toNat : Nat) : Int) = 48 := by omega
    rw [hlen] at h3
    by_cases h4 : 1 < t.size
    · have h4I : (1 : Int) < (t.size : Int) := by omega
      clear hlen e h1 h0 h2 h3 h4
      go_enter Try.func39, Try.ntmps39
      go_wp2_with fail
      refine (HCut.out _).mono ?_
      rintro e w1 ⟨rfl, rfl⟩
      obtain ⟨t1, t2, t3, t4⟩ := HR.facts
      go_wp2
      exact bodyPost_ret (v := .tuple #[.agg #[.bool false, .slice none 0 0], .int .i64 9]) (by simp [results, Try.results39, go_sem, t1, t2]) rfl ⟨_, rfl, Zi.zero _, hb0⟩
    · obtain rfl : ng = true := by rcases h3 with h3 | h3; · exact absurd h3 h4
                                   · exact h3
      have h4I : (t.size : Int) ≤ 1 := by omega
      clear hlen e h1 h0 h2 h3 h4
      go_enter Try.func39, Try.ntmps39
      go_wp2_with fail
      refine (HCut.out _).mono ?_
      rintro e w1 ⟨rfl, rfl⟩
      obtain ⟨t1, t2, t3, t4⟩ := HR.facts
      go_wp2
      exact bodyPost_ret (v := .tuple #[.agg #[.bool false, .slice none 0 0], .int .i64 9]) (by simp [results, Try.results39, go_sem, t1, t2]) rfl ⟨_, rfl, Zi.zero _, hb0⟩
  have h0' : 0 < t.size := by rcases Nat.eq_zero_or_pos t.size with h | h; · exact absurd (.inl (by omega)) h2
                              · exact h
  have hne := toList_ne h0'
  have hE : t.toList.isEmpty = false := by cases hh : t.toList with | nil => exact absurd hh hne | cons => rfl
  have HGood : Hid ((sb t).all isDig = true → q1 = (ng && decide (decV (sb t) ≠ 0)) ∧ q2 = decV (sb t) ∧ q3 = 0) := by
    intro ha
    have e : parseT (sb t) ng = (ng && decide (decV (sb t) ≠ 0), decV (sb t), 0) := by unfold parseT; rw [if_neg (by omega), if_neg h2, if_pos ha]
    rw [e] at hq
    injection hq with e1 e2
    injection e2 with e2 e3
    exact ⟨e1.symm, e2.symm, e3.symm⟩
  have HBad : Hid ((sb t).all isDig = false → q1 = false ∧ q2 = 0 ∧ q3 = 9) := by
    intro ha
    have e : parseT (sb t) ng = (false, 0, 9) := by unfold parseT; rw [if_neg (by omega), if_neg h2, if_neg (by rw [ha]; decide)]
    rw [e] at hq
    injection hq with e1 e2
    injection e2 with e2 e3
    exact ⟨e1.symm, e2.symm, e3.symm⟩
  rw [getD_sb t 0 h0', hlen] at h2
  have hcase : (((t[0].toNat : Nat) : Int) ≠ 48) ∨ (((t[0].toNat : Nat) : Int) = 48 ∧ (t.size : Int) ≤ 1 ∧ ng = false) := by
    by_cases h48 : ((t[0].toNat : Nat) : Int) = 48
    · refine .inr ⟨h48, ?_, ?_⟩
      · rcases Nat.lt_or_ge 1 t.size with h | h
        · exact absurd (.inr ⟨by omega, .inl h⟩) h2
        · omega
      · cases ng with
        | false => rfl
        | true => exact absurd (.inr ⟨by omega, .inr rfl⟩) h2
    · exact .inl h48
  have HLen := Lib.hid hlen
  clear h2 hq hlen h1
  obtain ⟨W0, hW0⟩ : ∃ W0, W0 = (w.alloc (.cells #[.bool false, .slice none 0 0] 24)).iter t 0 := ⟨_, rfl⟩
  have hWs : W0.heap.size = w.heap.size + 2 := by rw [hW0]; simp [World.iter]
  have hWb : Below w.heap.size w W0 := by
    rw [hW0]
    exact below_step hb0 ((Below.refl _ _).alloc (Nat.le_refl _) _)
  have hWi : W0.heap[w.heap.size + 1]? = some (.stringIter t 0) := by
    rw [hW0]
    have := World.iter_heap (w.alloc (.cells #[.bool false, .slice none 0 0] 24)) t 0
    simpa using this
  have hWA : At W0 w.heap.size (.bool false) (.slice none 0 0) := by
    rw [hW0]
    exact HR.next ((Below.refl _ _).alloc (Nat.le_refl _) _)
  have HW := Lib.hid (show Below w.heap.size w W0 ∧ W0.heap[w.heap.size + 1]? = some (.stringIter t 0) ∧ At W0 w.heap.size (.bool false) (.slice none 0 0) ∧ w.heap.size + 2 ≤ W0.heap.size from ⟨hWb, hWi, hWA, by omega⟩)
  have HW0 := Lib.hid hW0
  clear hWs hWb hWi hWA hW0
  rcases hcase with h48 | ⟨h48, hs1, rfl⟩
  all_goals
    go_enter Try.func39, Try.ntmps39
    go_wp2_with fail
    refine (HCut.out _).mono ?_
    rintro e w1 ⟨rfl, rfl⟩
    go_wp2
    go_loopw [6] (fun mag wr => ∃ (pos m nm cm : Nat) (Am : Option Addr), mag = .slice Am nm cm ∧ wr.heap[w.heap.size + 1]? = some (.stringIter t pos) ∧ pos ≤ t.size ∧ nm ≤ 512 ∧ Hid ((enc m).length = nm) ∧ Hid (((sb t).take pos).all isDig = true ∧ m = decV ((sb t).take pos)) ∧
        wr.ownsRow (w.heap.size + 2) 63 1 (.slice Am nm cm) nm (ml (enc m)) ∧ Below w.heap.size w wr ∧ w.heap.size + 2 ≤ wr.heap.size ∧ At wr w.heap.size (.bool false) (.slice none 0 0))
      (fun _ wr => t.size - wr.iterPos (w.heap.size + 1))
    case atStart =>
      rw [← HW0.out]
      exact ⟨0, 0, 0, 0, none, rfl, HW.out.2.1, by omega, by omega, Lib.hid (by rw [enc_zero]; rfl), Lib.hid ⟨by simp, by simp [decV]⟩, by rw [enc_zero]; exact World.ownsRow_nil _ _ _ _, HW.out.1, HW.out.2.2.2, HW.out.2.2.1⟩
    case round =>
      obtain ⟨pos, m, nm, cm, Am, rfl, hit, hpos, hnm, hem, hm, hom, hbel, hsz, hA⟩ := hrel
      have hpos0 := Lib.hid (iterPos_of hit)
      by_cases hp : pos < t.size
      · have hgd := getD_sb t pos hp
        have hp' : pos < (sb t).length := by rw [HLen.out]; exact hp
        have hall := all_snoc isDig (sb t) pos hp'
        have hsn := take_snoc (sb t) pos hp'
        rw [hgd] at hall hsn
        have HBadX : (¬ (48 ≤ (t[pos]).toNat ∧ (t[pos]).toNat ≤ 57)) → q1 = false ∧ q2 = 0 ∧ q3 = 9 := fun h => HBad.out (all_not isDig (sb t) pos hp' (by rw [hgd]; unfold isDig; rw [decide_eq_false h]))
        by_cases ha : (t[pos]).toNat < 128
        · have hnx : ∀ ty, (Instr.next (.pointer (some ⟨w.heap.size + 1, 0, none⟩)) true ty).run Try.prog wr = _ := fun ty => Lib.run_next_ascii_at wr (w.heap.size + 1) t pos ty hit hp ha
          have hit2 := Lib.iterAt_heap wr (w.heap.size + 1) t pos (pos + 1) hit
          have hbel2 := Lib.below_iterAt hbel (k := w.heap.size + 1) (by omega) t (pos + 1)
          have hom2 := own_iter hom (k := w.heap.size + 1) (by omega) t (pos + 1)
          have hA2 := hA.iter (k := w.heap.size + 1) (by omega) t (pos + 1)
          have hsz2 : w.heap.size + 2 ≤ (wr.iterAt (w.heap.size + 1) t (pos + 1)).heap.size := by have := hbel2.size; simp [World.iterAt]; omega
          obtain ⟨W1, hW1⟩ : ∃ W1, wr.iterAt (w.heap.size + 1) t (pos + 1) = W1 := ⟨_, rfl⟩
          rw [hW1] at hnx hit2 hbel2 hom2 hA2 hsz2
          obtain ⟨x, hx⟩ : ∃ x, (t[pos]).toNat = x := ⟨_, rfl⟩
          rw [hx] at hnx hall hsn ha HBadX
          obtain ⟨t1, t2, t3, t4⟩ := hA2.facts
          have hxI : (x : Int) < 128 := by omega
          have hx0 : (0 : Int) ≤ (x : Int) := by omega
          clear hW1 hom hit hbel hA hsz hx hgd
          by_cases hd : 48 ≤ x ∧ x ≤ 57
          · have HM := Lib.hid (multiplyAdd_own (w.heap.size + 2) Am nm cm 10 (x - 48) m W1 hom2 (by omega) (by omega) (by omega) hsz2 (by omega))
            have e48 : ((x - 48 : Nat) : Int) = (x : Int) - 48 := by omega
            rw [e48] at HM
            have HD := Lib.hid (show ((sb t).take (pos + 1)).all isDig = true ∧ m * 10 + (x - 48) = decV ((sb t).take (pos + 1)) by
              refine ⟨?_, ?_⟩
              · rw [hall, hm.out.1, Bool.true_and]; unfold isDig; rw [decide_eq_true hd]
              · rw [hsn, decV_snoc, ← hm.out.2])
            obtain ⟨m2, hm2⟩ : ∃ m2, m * 10 + (x - 48) = m2 := ⟨_, rfl⟩
            rw [hm2] at HM HD
            have hlen2 := dec_small _ HD.out.1 (by rw [List.length_take]; omega)
            rw [← HD.out.2] at hlen2
            obtain ⟨n2, hn2⟩ : ∃ n2, (enc m2).length = n2 := ⟨_, rfl⟩
            rw [hn2] at hlen2
            have HN2 := Lib.hid hn2
            have hdI1 : (48 : Int) ≤ (x : Int) := by omega
            have hdI2 : (x : Int) ≤ 57 := by omega
            clear hall hsn hd e48 hm2 hn2 hm hem hom2 t1 t2 t3 t4 HBadX
            go_wp2_with fail
            refine HM.out.mono ?_
            rintro e W2 ⟨A2, c2, rfl, ho2, hb2⟩
            rw [HN2.out] at ho2 ⊢
            have hit3 : W2.heap[w.heap.size + 1]? = some (.stringIter t (pos + 1)) := (hb2.block (w.heap.size + 1) (by omega)).trans hit2
            have hA3 := hA2.below hb2 (by omega)
            have hbel3 := hbel2.trans (hb2.mono (by omega))
            have hsz3 : w.heap.size + 2 ≤ W2.heap.size := by have := hb2.size; omega
            have HP := Lib.hid (iterPos_of hit3)
            clear hit2 hA2 hbel2 hsz2 hb2 HM
            go_wp2
            go_roundw
            case rel => exact ⟨pos + 1, m2, n2, c2, A2, rfl, hit3, by omega, hlen2, HN2, HD, ho2, hbel3, hsz3, hA3⟩
            case measure => rw [HP.out, hpos0.out]; omega
          · have HQ := Lib.hid (HBadX hd)
            have hd' : (x : Int) < 48 ∨ (48 ≤ (x : Int) ∧ 57 < (x : Int)) := by omega
            clear hall hsn hm hem hom2 HBadX hd hit2
            rcases hd' with hd | ⟨hd, hd2⟩
            all_goals
              go_wp2
              rw [HQ.out.1, HQ.out.2.1, HQ.out.2.2]
              exact bodyPost_ret (v := .tuple #[.agg #[.bool false, .slice none 0 0], .int .i64 9]) (by simp [results, Try.results39, go_sem, t1, t2]) rfl ⟨_, rfl, Zi.zero _, by first | exact hbel2 | exact below_two hbel2 (by omega) _ _⟩
        · have hnx : ∀ ty, (Instr.next (.pointer (some ⟨w.heap.size + 1, 0, none⟩)) true ty).run Try.prog wr = _ := fun ty => Lib.run_next_any_at wr (w.heap.size + 1) t pos ty hit hp
          have hhi := (decode_high t pos hp (by omega)).1
          have hbel2 := Lib.below_iterAt hbel (k := w.heap.size + 1) (by omega) t (pos + (Utf8.decode t pos).2)
          have hA2 := hA.iter (k := w.heap.size + 1) (by omega) t (pos + (Utf8.decode t pos).2)
          obtain ⟨W1, hW1⟩ : ∃ W1, wr.iterAt (w.heap.size + 1) t (pos + (Utf8.decode t pos).2) = W1 := ⟨_, rfl⟩
          rw [hW1] at hnx hbel2 hA2
          obtain ⟨r, hr⟩ : ∃ r, (Utf8.decode t pos).1 = r := ⟨_, rfl⟩
          rw [hr] at hnx hhi
          obtain ⟨t1, t2, t3, t4⟩ := hA2.facts
          have HQ := Lib.hid (HBadX (by omega))
          have hd : (48 : Int) ≤ (r : Int) := by omega
          have hd2 : (57 : Int) < (r : Int) := by omega
          clear hall hsn hm hem hom HBadX hit hW1 hr hhi hgd ha hA hbel
          go_wp2
          rw [HQ.out.1, HQ.out.2.1, HQ.out.2.2]
          exact bodyPost_ret (v := .tuple #[.agg #[.bool false, .slice none 0 0], .int .i64 9]) (by simp [results, Try.results39, go_sem, t1, t2]) rfl ⟨_, rfl, Zi.zero _, by first | exact hbel2 | exact below_two hbel2 (by omega) _ _⟩
      · obtain rfl : pos = t.size := by omega
        have hnx : ∀ ty, (Instr.next (.pointer (some ⟨w.heap.size + 1, 0, none⟩)) true ty).run Try.prog wr = _ := fun ty => Lib.run_next_end_at wr (w.heap.size + 1) t t.size ty hit hp
        have hm1 := hm.out
        rw [List.take_of_length_le (by rw [HLen.out]; omega)] at hm1
        have HQ := HGood.out hm1.1
        rw [← hm1.2] at HQ
        have hs6 := Sl.of_own hom
        have HS := Lib.hid hs6
        have hmx := hs6.max
        have hle6 := hs6.le
        unfold maxLen at hmx
        have HQ := Lib.hid HQ
        clear hm hm1 hom hit hs6
        go_wp2_with fail
        refine (signed_any _ Am nm cm _ (by omega)).mono ?_
        rintro e W2 ⟨rfl, hb2⟩
        have hA3 := hA.next hb2
        have hbel3 := below_step hbel hb2
        have hs7 := HS.out.next hb2
        obtain ⟨t1, t2, t3, t4⟩ := hA3.facts
        go_wp2
        rw [HQ.out.1, HQ.out.2.1, HQ.out.2.2]
        have hne0 : decide (m ≠ 0) = decide (nm ≠ 0) := by
          by_cases h : m = 0
          · subst h
            have := hem.out
            rw [enc_zero] at this
            rw [← this]; rfl
          · have : nm ≠ 0 := fun h0 => h (enc_eq_nil (by rw [hem.out]; exact h0))
            rw [decide_eq_true h, decide_eq_true this]
        rw [hne0]
        first
          | refine bodyPost_ret (v := .tuple #[.agg #[.bool (ng && decide (nm ≠ 0)), .slice Am nm cm], .int .i64 0]) (by simp [results, Try.results39, go_sem, t1, t2]) rfl ⟨_, rfl, ?_, by first | exact below_two hbel3 (by omega) _ _ | exact hbel3⟩
          | refine bodyPost_ret (v := .tuple #[.agg #[.bool (false && decide (nm ≠ 0)), .slice Am nm cm], .int .i64 0]) (by simp [results, Try.results39, go_sem, t1, t2]) rfl ⟨_, rfl, ?_, by first | exact below_two hbel3 (by omega) _ _ | exact hbel3⟩
        first
          | exact Zi.store hA3 ⟨Am, cm, by rw [hem.out], by rw [hem.out]; exact hs7⟩ _ _
          | exact ⟨Am, cm, by rw [hem.out], by rw [hem.out]; exact hs7⟩
end Go.Proofs.Ytebbpodcldndjaa
