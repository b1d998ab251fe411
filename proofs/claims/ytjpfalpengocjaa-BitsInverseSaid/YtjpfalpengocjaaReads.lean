/- BitsReads returns true for every bit string and every list of numbers. -/
import Derived.Test.YtjpfalpengocjaaWd
import Derived.Test.YtjpfalpengocjaaKit2
set_option linter.unusedVariables false
namespace Go.Proofs.Ytjpfalpengocjaa
open Go.RowKit

theorem clone_own (A : Option Addr) (n c : Nat) (l : List Bool) (w : World) (hs : Sl w w.heap.size A n c (bl l)) (hn : n ≤ 1073741824) :
    Calls Try.prog 41 #[.slice A n c] w fun e w' => ∃ A' c', e = .returned (.slice A' n c') ∧ w'.ownsRow w.heap.size 4 1 (.slice A' n c') n (bl l) ∧ Below w.heap.size w w' := by
  obtain ⟨i0, hi, hz0, hz1, hz2⟩ := info_parts boolInfo
  have hlen := hs.len
  cases A with
  | none =>
    have hc := hs.nil rfl
    have hle := hs.le
    subst hc
    obtain rfl : n = 0 := by omega
    have hnil := fun W => Lib.run_eql_slice_nil (P := Try.prog) W
    have he : bl l = [] := List.eq_nil_of_length_eq_zero hlen
    rw [he]
    go_enter Try.func41, Try.ntmps41
    go_wp2
    go_ret
    exact ⟨none, 0, rfl, World.ownsRow_nil _ _ _ _, Below.refl _ _⟩
  | some a =>
    have hnil := fun W => Lib.run_eql_slice_nil (P := Try.prog) W
    go_enter Try.func41, Try.ntmps41
    have hbel0 : Below w.heap.size w (w.alloc (.cells #[] 4)) := (Below.refl _ _).alloc (Nat.le_refl _) _
    have hown0 : (w.alloc (.cells #[] 4)).ownsRow w.heap.size 4 1 (.slice (some ⟨w.heap.size, 0, none⟩) 0 0) 0 [] := World.ownsRow_lit w #[] 0 (Nat.le_refl _) (by unfold maxLen; omega) rfl
    go_wp2_with (at_builtin; refine wpList_append_slice rfl _ _ 22 rfl w.heap.size 4 i0 (.bool false) 1 Try.underlying22 hi hz0 hz1 hz2 rfl _ 0 [] rfl hown0 w.heap.size (some a) n c (bl l) rfl (hs.below hbel0) (one_bl l) (by unfold maxLen; omega) (by omega) (by simp) ?_)
    intro v1 w1 hown1 hgrow1
    have hbel1 : Below w.heap.size w w1 := hbel0.grown hgrow1 (by simp) (fun k hk => (hown0.lt k hk).1)
    obtain ⟨A2, c2, rfl⟩ := own_slice hown1
    clear hgrow1
    go_wp2
    go_ret
    exact ⟨A2, c2, rfl, hown1, hbel1⟩

/-- at block g lies a reader that has still to read l, and whose bits lie from block lo on -/
def Rdl (w : World) (lo g : Nat) (l : List Bool) : Prop :=
  ∃ A c, w.heap[g]? = some (.cells #[.slice A l.length c, .bool true] 63 (0, 0)) ∧ Sl w g A l.length c (bl l) ∧ ∀ b off, A = some ⟨b, off, none⟩ → lo ≤ b
theorem Rdl.rd {w : World} {lo g : Nat} {l : List Bool} (h : Rdl w lo g l) : Rd w g l := by
  obtain ⟨A, c, h1, h2, _⟩ := h
  exact ⟨A, c, h1, h2⟩
theorem Rdl.set_ {w : World} {lo g : Nat} {l : List Bool} (h : Rdl w lo g l) {p : Addr} (hp : p.block < lo) (hg : lo ≤ g) (u : Value) : Rdl (w.setCell p u) lo g l := by
  obtain ⟨A, c, h1, h2, h3⟩ := h
  refine ⟨A, c, (Below.heap_setCell w p u g (by omega)).trans h1, ⟨h2.len, h2.le, h2.max, h2.nil, fun hn => ?_⟩, h3⟩
  obtain ⟨b, off, e, hb, hc⟩ := h2.read hn
  have hlo := h3 b off e
  refine ⟨b, off, e, hb, fun j x hx => ?_⟩
  have hne : p ≠ ⟨b, off + j, none⟩ := by
    rintro rfl
    exact absurd hp (by show ¬ b < lo; omega)
  rw [World.cell?_setCell_other w p _ u hne]
  exact hc j x hx

theorem newReader_own (A : Option Addr) (n c : Nat) (l : List Bool) (w : World) (hs : Sl w w.heap.size A n c (bl l)) (hn : n ≤ 1073741824) :
    Calls Try.prog 35 #[.slice A n c] w fun e w' => ∃ g, e = .returned (.pointer (some ⟨g, 0, none⟩)) ∧ Rdl w' w.heap.size g l ∧ w.heap.size ≤ g ∧ Below w.heap.size w w' := by
  have hl : l.length = n := by rw [← length_bl]; exact hs.len
  go_enter Try.func35, Try.ntmps35
  go_wp2_with fail
  refine (clone_own A n c l _ hs hn).mono ?_
  rintro e w1 ⟨A', c', rfl, hs1, hbel1⟩
  go_wp2
  go_ret
  subst hl
  refine ⟨w1.heap.size, rfl, ⟨A', c', by simpa using heap_alloc_new w1 _, ?_, ?_⟩, hbel1.size, hbel1.alloc hbel1.size _⟩
  · exact (Sl.of_own hs1).below ((Below.refl _ _).alloc (Nat.le_refl _) _)
  · rintro b off rfl
    exact (hs1.lt b rfl).1

theorem takeS_in (m : List Bool) (b x : Int) (h0 : 0 ≤ b) (h1 : b ≤ m.length) :
    takeS m b x = if x < 0 ∨ 62 < x then (0, 3) else if (m.length : Int) - b < x then (0, 10) else (((num ((m.drop b.toNat).take x.toNat) : Nat) : Int), 0) := by
  unfold takeS
  by_cases hx : x < 0 ∨ 62 < x
  · rw [if_pos hx, if_pos (by omega)]
  · rw [if_neg hx, if_neg (by omega)]
theorem takeS_drop (l : List Bool) (a : Nat) (x : Int) (ha : a ≤ l.length) : takeS (l.drop a) 0 x = takeS l a x := by
  rw [takeS_in (l.drop a) 0 x (by omega) (by omega), takeS_in l a x (by omega) (by omega), List.length_drop]
  rw [show ((l.length - a : Nat) : Int) - 0 = (l.length : Int) - (a : Int) by omega]
  simp
theorem takeS_ok (l : List Bool) (a : Nat) (x : Int) (ha : a ≤ l.length) (h : (takeS l a x).2 = 0) : 0 ≤ x ∧ x ≤ 62 ∧ a + x.toNat ≤ l.length := by
  unfold takeS at h
  split at h
  · simp at h
  · split at h
    · simp at h
    · omega

theorem law_reads (A : Option Addr) (n c : Nat) (l : List Bool) (A' : Option Addr) (n' c' : Nat) (l' : List Int) (w : World) (hs : Sl w w.heap.size A n c (bl l)) (hs' : Sl w w.heap.size A' n' c' (il l')) (_ : ∀ y ∈ l', -9223372036854775808 ≤ y ∧ y ≤ 9223372036854775807) :
    Calls Try.prog 7 #[.slice A n c, .slice A' n' c'] w fun e w' => e = .returned (.bool true) ∧ Below w.heap.size w w' := by
  have hl : l.length = n := by rw [← length_bl]; exact hs.len
  have hl' : l'.length = n' := by rw [← length_il]; exact hs'.len
  have hmax := hs.max
  have hle := hs.le
  have hmax' := hs'.max
  have hle' := hs'.le
  unfold maxLen at hmax hmax'
  by_cases h1 : 2000 < n
  · go_enter Try.func7, Try.ntmps7
    go_wp2_with fail
    refine (alive_any _).mono ?_
    rintro e w2 ⟨rfl, hb2⟩
    go_wp2
    go_ret
    exact ⟨rfl, hb2⟩
  by_cases h2 : 100 < n'
  · go_enter Try.func7, Try.ntmps7
    go_wp2_with fail
    refine (alive_any _).mono ?_
    rintro e w2 ⟨rfl, hb2⟩
    go_wp2
    go_ret
    exact ⟨rfl, hb2⟩
  obtain ⟨i0, hi, hz0, hz1, hz2⟩ := info_parts boolInfo
  have HL := Lib.hid hl
  have HL' := Lib.hid hl'
  clear hl hl'
  have hbel0 : Below w.heap.size w (w.alloc (.cells #[] 4)) := below_new w _
  have hown0 : (w.alloc (.cells #[] 4)).ownsRow w.heap.size 4 1 (.slice (some ⟨w.heap.size, 0, none⟩) 0 0) 0 [] := World.ownsRow_lit w #[] 0 (Nat.le_refl _) (by unfold maxLen; omega) rfl
  go_enter Try.func7, Try.ntmps7
  go_wp2_with (at_builtin; refine wpList_append_slice rfl _ _ 22 rfl w.heap.size 4 i0 (.bool false) 1 Try.underlying22 hi hz0 hz1 hz2 rfl _ 0 [] rfl hown0 w.heap.size A n c (bl l) rfl (hs.below hbel0) (one_bl l) (by unfold maxLen; omega) (by omega) (by simp) ?_)
  intro v1 w1 hown1 hgrow1
  have hB : Below w.heap.size w w1 := hbel0.grown hgrow1 (by simp) (fun k hk => (hown0.lt k hk).1)
  obtain ⟨A1, c1, rfl⟩ := own_slice hown1
  clear hgrow1 hown0 hbel0
  have hsl1 := Sl.of_own hown1
  go_wp2_with fail
  refine (newReader_own _ _ _ l _ hsl1 (by omega)).mono ?_
  rintro e w2 ⟨g, rfl, hrd, hg, hb2⟩
  have hown2 : w2.ownsRow w.heap.size 4 1 (.slice A1 n c1) n (bl l) := by
    obtain ⟨k1, k2⟩ := hown1
    refine ⟨k1, ?_⟩
    rcases k2 with k2 | ⟨gg, cap, cur, k3, k4, k5, k6⟩
    · exact .inl k2
    · exact .inr ⟨gg, cap, cur, k3, k4, (hb2.block gg (Array.getElem?_eq_some_iff.1 k5).1).trans k5, k6⟩
  have hlt1 : ∀ k, (Value.slice A1 n c1).ownBlock = some k → w.heap.size ≤ k ∧ k < w1.heap.size := hown1.lt
  have hB2 : Below w.heap.size w w2 := below_step hB hb2
  have hsz1 := hB.size
  have HR := Lib.hid hrd
  have HLT := Lib.hid hlt1
  clear hrd hlt1 hown1 hsl1 hB
  have hmax1 := hmax
  go_wp2
  go_loopw [30] (fun i wr => ∃ k : Nat, k ≤ n ∧ i = .int .i64 k ∧ (∃ m : List Bool, wr.ownsRow w.heap.size 4 1 (.slice A1 n c1) n (bl m)) ∧ Rdl wr w1.heap.size g l ∧ Below w.heap.size w wr) (fun i _ => n - (intOf i).toNat)
  case atStart => exact ⟨0, Nat.zero_le _, rfl, ⟨l, hown2⟩, HR.out, hB2⟩
  case round =>
    obtain ⟨k, hk, rfl, ⟨m, hownr⟩, hrd, hbel⟩ := hrel
    have HRD := Lib.hid hrd
    clear hrd hown2 HR hB2
    by_cases hlt : k < n
    · obtain ⟨gc, cap, hv, hgc, hgcl⟩ := hownr.form (by omega)
      simp only [Value.slice.injEq, true_and] at hv
      obtain ⟨rfl, rfl⟩ := hv
      have hgc1 := HLT.out gc rfl
      have hm : m.length = n := by have := hownr.1; rw [length_bl] at this; omega
      have hcell := hownr.cellAt k (by omega)
      have hfr := hownr.frozenAt k
      rw [show (bl m)[k]? = some (.bool (m.getD k false)) by simp [bl, List.getD, show k < m.length by omega]] at hcell
      have hst := (hownr.stored k (.bool (!m.getD k false))).1
      rw [show (bl m).set k (.bool (!m.getD k false)) = bl (m.set k (!m.getD k false)) by simp [bl, List.map_set]] at hst
      have hrd2 := HRD.out.set_ (p := ⟨gc, k, none⟩) hgc1.2 hg (.bool (!m.getD k false))
      have hbel2 := hbel.setCell (p := ⟨gc, k, none⟩) hgc1.1 (.bool (!m.getD k false))
      have H1 := Lib.hid hst
      have H2 := Lib.hid hrd2
      have H3 := Lib.hid hbel2
      clear hst hrd2 hbel2 hm hownr
      generalize m.getD k false = x at *
      go_wp2
      go_roundw
      case rel => exact ⟨k + 1, by omega, by go_num, ⟨_, H1.out⟩, H2.out, H3.out⟩
      case measure => simp [intOf]; omega
    · have hrd0 := HRD.out.rd
      have HRD2 := Lib.hid hrd0
      have hgw : w.heap.size ≤ g := by omega
      have hge : ¬ k < n := hlt
      clear hrd0 HRD hownr HLT
      go_wp2
      obtain ⟨wo, rfl⟩ : ∃ wo : World, wo = wr := ⟨_, rfl⟩
      go_loopw [8, 44] (fun v i wr => ∃ k a : Nat, k ≤ n' ∧ a ≤ n ∧ i = .int .i64 k ∧ v = .int .i64 a ∧ Hid (Rd wr g (l.drop a)) ∧ Below w.heap.size w wr) (fun _ i _ => n' - (intOf i).toNat)
      case atStart => exact ⟨0, 0, Nat.zero_le _, Nat.zero_le _, rfl, rfl, HRD2.out, hbel⟩
      case round =>
        obtain ⟨k2, a, hk2, ha, rfl, rfl, hrd, hbel2⟩ := hrel
        clear hbel HRD2
        by_cases hlt2 : k2 < n'
        · obtain ⟨b', off', rfl, hb', hc'⟩ := (hs'.below hbel2).at_ hlt2 (.int .i64 0)
          rw [getD_il l' k2 (by rw [HL'.out]; exact hlt2)] at hc'
          have hcc : Hid (∀ W : World, Below g wr W → W.cell? ⟨b', off' + k2, none⟩ = some (.int .i64 (l'.getD k2 0))) := by
            intro W hW
            rw [hW.cell (p := ⟨b', off' + k2, none⟩) (by show b' < g; omega)]
            exact hc'
          obtain ⟨x, hx⟩ : ∃ x, x = l'.getD k2 0 := ⟨_, rfl⟩
          rw [← hx] at hc' hcc
          clear hx
          have HT := Lib.hid (rtake_any g (l.drop a) x wr hrd.out)
          rw [takeS_drop l a x (by rw [HL.out]; exact ha)] at HT
          have HOK := Lib.hid (takeS_ok l a x (by rw [HL.out]; exact ha))
          have HLE := Lib.hid (show leftS (l.drop a) x = if (takeS l a x).2 = 0 then l.drop (a + x.toNat) else l.drop a by
            unfold leftS
            rw [takeS_drop l a x (by rw [HL.out]; exact ha), List.drop_drop])
          obtain ⟨q, hq⟩ : ∃ q, q = takeS l a x := ⟨_, rfl⟩
          have HQ := Lib.hid hq
          rw [← hq] at HT HOK HLE
          clear hq
          go_wp2_with fail
          refine HT.out.mono ?_
          rintro e w4 ⟨rfl, hrd4, hb4⟩
          have hc4 := hcc.out _ hb4
          have hbel4 : Below w.heap.size w w4 := hbel2.trans (hb4.mono hgw)
          have hs4 := (hs.below hbel4).more hbel4.size
          have HR4 := Lib.hid hrd4
          clear hrd4 hb4 hc' hcc HT hrd hbel2
          go_wp2_with fail
          refine (rTake_any _ _ _ _ l a x _ hs4).mono ?_
          rw [← HQ.out]
          rintro e w' ⟨rfl, rfl⟩
          obtain ⟨q1, q2⟩ := q
          by_cases hq0 : q2 = 0
          · subst hq0
            obtain ⟨hx0, hx1, hx2⟩ := HOK.out rfl
            rw [HL.out] at hx2
            have hr5 : Hid (Rd w4 g (l.drop (a + x.toNat))) := by
              have h := HR4.out
              rw [HLE.out, if_pos rfl] at h
              exact h
            obtain ⟨y, rfl⟩ := Int.eq_ofNat_of_zero_le hx0
            rw [Int.toNat_natCast] at hr5 hx2
            have HLeft := Lib.hid (left_any g (l.drop (a + y)) w4 hr5.out)
            rw [List.length_drop, HL.out] at HLeft
            have hsub : ((n - (a + y) : Nat) : Int) = (n : Int) - ((a : Int) + (y : Int)) := by omega
            rw [hsub] at HLeft
            clear HR4 HLE HOK HQ hsub
            go_wp2_with fail
            refine HLeft.out.mono ?_
            rintro e w' ⟨rfl, rfl⟩
            go_wp2
            go_roundw
            case rel => exact ⟨k2 + 1, a + y, by omega, by omega, by go_num, by go_num, hr5, hbel4⟩
            case measure => simp [intOf]; omega
          · have hq1 : (q2 == 0) = false := by rw [beq_eq_false_iff_ne]; exact hq0
            have hq2 : (q2 != 0) = true := by rw [bne_iff_ne]; exact hq0
            have hr5 : Hid (Rd w4 g (l.drop a)) := by
              have h := HR4.out
              rw [HLE.out, if_neg hq0] at h
              exact h
            have HLeft := Lib.hid (left_any g (l.drop a) w4 hr5.out)
            rw [List.length_drop, HL.out] at HLeft
            have hsub : ((n - a : Nat) : Int) = (n : Int) - (a : Int) := by omega
            rw [hsub] at HLeft
            clear HR4 HLE HOK HQ hsub hq0
            go_wp2_with fail
            refine HLeft.out.mono ?_
            rintro e w' ⟨rfl, rfl⟩
            go_wp2
            go_roundw
            case rel => exact ⟨k2 + 1, a, by omega, by omega, by go_num, rfl, hr5, hbel4⟩
            case measure => simp [intOf]; omega
        · go_wp2_with fail
          refine (alive_any _).mono ?_
          rintro e w9 ⟨rfl, hb9⟩
          go_wp2
          go_ret
          exact ⟨rfl, below_step hbel2 hb9⟩
end Go.Proofs.Ytjpfalpengocjaa
