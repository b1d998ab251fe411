/- Contract of Search. -/
import Derived.Test.YtjobcobgmajajaaWb
set_option linter.unusedVariables false
namespace Go.Proofs.Ytjobcobgmajajaa
open Go.RowKit

set_option maxHeartbeats 1000000 in
theorem search_any (n : Nat) (hn : n ≤ 1152921504606846976) (p : Nat → Bool) (lb : Array Value) (w : World)
    (hf : ∀ i : Nat, i < n → ∀ W, Below w.heap.size w W → Calls Try.prog 43 (#[.int .i64 i] ++ lb) W fun e W' => e = .returned (.bool (p i)) ∧ Below W.heap.size W W') :
    Calls Try.prog 42 #[.int .i64 n, .func (.func 43) #[] lb] w fun e w' => ∃ r : Nat, e = .returned (.int .i64 r) ∧ r ≤ n ∧ (r = 0 ∨ p (r - 1) = false) ∧ (r = n ∨ p r = true) ∧ Below w.heap.size w w' := by
  have HF := Lib.hid hf
  clear hf
  go_enter Try.func42, Try.ntmps42
  go_wp2
  go_loopw [5, 6] (fun x y wr => ∃ i j : Nat, x = .int .i64 i ∧ y = .int .i64 j ∧ i ≤ j ∧ j ≤ n ∧ Hid ((i = 0 ∨ p (i - 1) = false) ∧ (j = n ∨ p j = true)) ∧ Below w.heap.size w wr) (fun x y _ => (intOf y).toNat - (intOf x).toNat)
  case atStart => exact ⟨0, n, rfl, rfl, Nat.zero_le _, Nat.le_refl _, ⟨.inl rfl, .inl rfl⟩, Below.refl _ _⟩
  case round =>
    obtain ⟨i, j, rfl, rfl, hij, hj, HP, hbel⟩ := hrel
    by_cases hlt : i < j
    · have h1 : (i : Int) < j := by omega
      obtain ⟨h, hh⟩ : ∃ h, h = (i + j) / 2 := ⟨_, rfl⟩
      have hb1 : i ≤ h ∧ h < j := by omega
      have HE : Hid (((i : Int) + j) / 2 = (h : Int)) := by show _ = _; omega
      clear hh
      go_wp2_with fail
      rw [HE.out]
      refine (HF.out h (by omega) _ hbel).mono ?_
      rintro e w2 ⟨rfl, hb2⟩
      have hbel2 := hbel.trans (hb2.mono hbel.size)
      clear hbel hb2
      cases hp : p h
      · have HQ := Lib.hid hp
        clear hp
        go_wp2
        go_roundw
        case rel => exact ⟨h + 1, j, by go_num, rfl, by omega, hj, ⟨.inr HQ.out, HP.out.2⟩, hbel2⟩
        case measure => have := HE.out; simp [intOf]; omega
      · have HQ := Lib.hid hp
        clear hp
        go_wp2
        go_roundw
        case rel => exact ⟨i, h, rfl, rfl, by omega, by omega, ⟨HP.out.1, .inr HQ.out⟩, hbel2⟩
        case measure => have := HE.out; simp [intOf]; omega
    · obtain rfl : i = j := by omega
      have h1 : ¬ (i : Int) < i := by omega
      go_wp2
      go_ret
      exact ⟨i, rfl, hj, HP.out.1, HP.out.2, hbel⟩

/-- the closure of leastLimit: whether at least T modules are taken at the limit first + i -/
theorem closure_any (A : Option Addr) (n c : Nat) (l : List Int) (s T first : Int) (i gd gl gf : Nat) (w : World) (hs : Sl w w.heap.size A n c (il l)) (hok : okW l = true) (hn : n ≤ 65536) (hN : Nums s T)
    (hl1 : -1152921504606846976 ≤ first + i ∧ first + i ≤ s) (hfb : -1152921504606846976 ≤ first) (hi : (i : Int) ≤ 1152921504606846976) (hD : Dv w gd s T) (hL : w.cell? ⟨gl, 0, none⟩ = some (.slice A n c)) (hgl : gl < w.heap.size) (hF : w.cell? ⟨gf, 0, none⟩ = some (.int .i64 first)) (hgf : gf < w.heap.size) :
    Calls Try.prog 43 #[.int .i64 i, .pointer (some ⟨gd, 0, none⟩), .pointer (some ⟨gl, 0, none⟩), .pointer (some ⟨gf, 0, none⟩)] w fun e w' => e = .returned (.bool (decide (T ≤ neededS s T l (first + i)))) ∧ Below w.heap.size w w' := by
  have hD1 := hD.drew
  have hs1 : Sl w.drew w.drew.heap.size A n c (il l) := hs.next (below_drew (Below.refl _ _))
  have HN := Lib.hid (needed_any A n c l s T (first + i) w.drew hs1 hok hn hN hl1)
  have hw1 : IntKind.i64.wrap (first + (i : Int)) = first + i := by rw [IntKind.wrap_i64]; have := hN.s2; omega
  obtain ⟨d0, d1, d2⟩ := hD1
  have hL1 : w.drew.cell? ⟨gl, 0, none⟩ = some (.slice A n c) := hL
  have hF1 : w.drew.cell? ⟨gf, 0, none⟩ = some (.int .i64 first) := hF
  have HB := Lib.hid (Below.refl w.heap.size w)
  have hdl : gd < w.heap.size := hD.lt
  clear hs hs1 hok hD hL hF hl1 hfb
  generalize hgn : neededS s T l (first + i) = N at *
  generalize hgx : first + (i : Int) = x at *
  clear hgn
  go_enter Try.func43, Try.ntmps43
  go_wp2
  go_region_held3 (fun V => V.cell? ⟨gd, 0, none⟩ = some (.int .i64 s) ∧ V.cell? ⟨gd, 1, none⟩ = some (.int .i64 T) ∧ V.cell? ⟨gl, 0, none⟩ = some (.slice A n c) ∧ V.cell? ⟨gf, 0, none⟩ = some (.int .i64 first))
    (first | (with_reducible exact F2) | go_keep)
    (first
    | (go_at_call 40; (with_reducible refine HN.out.mono ?_); rintro e w2 ⟨rfl, hb2⟩; have F2 : w2.cell? ⟨gd, 0, none⟩ = some (.int .i64 s) ∧ w2.cell? ⟨gd, 1, none⟩ = some (.int .i64 T) ∧ w2.cell? ⟨gl, 0, none⟩ = some (.slice A n c) ∧ w2.cell? ⟨gf, 0, none⟩ = some (.int .i64 first) := ⟨(hb2.cell hdl).trans d1, (hb2.cell hdl).trans d2, (hb2.cell hgl).trans hL1, (hb2.cell hgf).trans hF1⟩; clear d1 d2 hL1 hF1; obtain ⟨d1, d2, hL1, hF1⟩ := F2))
  all_goals
    have hB2 : Below w.heap.size w w2 := ⟨hb2.os, hb2.tape, hb2.output, hb2.size, hb2.block⟩
    go_wp2
    go_ret
    first
    | exact ⟨rfl, hB2⟩
    | exact ⟨rfl, below_drew hB2⟩

theorem first_bound {s T : Int} (hN : Nums s T) : -562949953421312 ≤ -2 * T * s ∧ -2 * T * s ≤ -2 := by
  obtain ⟨h1, h2, h3, h4⟩ := hN
  have h5 : 1 * 1 ≤ T * s := Int.mul_le_mul h3 h1 (by omega) (by omega)
  have h6 : T * s ≤ 65536 * 4294967296 := Int.mul_le_mul h4 h2 (by omega) (by omega)
  rw [Int.mul_assoc]
  omega

/-- a variable at block g -/
structure Vr (W : World) (g : Nat) (v : Value) : Prop where
  lt : g < W.heap.size
  c0 : W.cell? ⟨g, 0, none⟩ = some v
  f0 : W.frozen? ⟨g, 0, none⟩ = false
theorem Vr.new (W : World) (v : Value) (t : TypeId) : Vr (W.alloc (.cells #[v] t)) W.heap.size v :=
  ⟨by simp, by rw [cell_of_row _ W.heap.size 0 _ t (0, 0) (heap_alloc_new W _)]; rfl, by
    have h : (W.alloc (.cells #[v] t)).heap[W.heap.size]? = some (.cells #[v] t (0, 0)) := heap_alloc_new W _
    simp only [World.frozen?, h]
    rfl⟩
theorem Vr.next {W W' : World} {g : Nat} {v : Value} (h : Vr W g v) (hb : Below W.heap.size W W') : Vr W' g v :=
  ⟨Nat.lt_of_lt_of_le h.lt hb.size, (hb.cell (p := ⟨g, 0, none⟩) h.lt).trans h.c0, (hb.frozen (p := ⟨g, 0, none⟩) h.lt).trans h.f0⟩

set_option maxHeartbeats 1000000 in
theorem leastLimit_any (A : Option Addr) (n c : Nat) (l : List Int) (s T : Int) (w : World) (hs : Sl w w.heap.size A n c (il l)) (hok : okW l = true) (hn : n ≤ 65536) (hN : Nums s T) :
    Calls Try.prog 39 #[.agg #[.int .i64 s, .int .i64 T], .slice A n c] w fun e w' => ∃ r : Nat, e = .returned (.int .i64 (-2 * T * s + r)) ∧ (r : Int) ≤ s - -2 * T * s ∧
      (r = 0 ∨ neededS s T l (-2 * T * s + ((r - 1 : Nat) : Int)) < T) ∧ ((r : Int) = s - -2 * T * s ∨ T ≤ neededS s T l (-2 * T * s + r)) ∧ Below w.heap.size w w' := by
  have hfb := first_bound hN
  have hs1 := hN.s1
  have hs2 := hN.s2
  have ht1 := hN.t1
  have ht2 := hN.t2
  have hw1 : IntKind.i64.wrap (-2 * T) = -2 * T := by rw [IntKind.wrap_i64]; omega
  have hw2 : IntKind.i64.wrap (-2 * T * s) = -2 * T * s := by rw [IntKind.wrap_i64]; omega
  have D0 := Dv.new w s T 48
  have L0 := Vr.new (w.alloc (.cells #[.int .i64 s, .int .i64 T] 48)) (.slice A n c) 22
  have hb1 := below_new w (.cells #[.int .i64 s, .int .i64 T] 48)
  have hb2 := below_new (w.alloc (.cells #[.int .i64 s, .int .i64 T] 48)) (.cells #[.slice A n c] 22)
  have D1 := D0.next hb2
  have hB := below_step hb1 hb2
  have e1 : (w.alloc (.cells #[.int .i64 s, .int .i64 T] 48)).heap.size = w.heap.size + 1 := by simp
  rw [e1] at L0
  clear D0 hb1 hb2 e1
  generalize hF : -2 * T * s = F at *
  have HF := Lib.hid hF
  go_enter Try.func39, Try.ntmps39
  go_wp2
  obtain ⟨W1, hW1⟩ : ∃ W1, (w.alloc (.cells #[.int .i64 s, .int .i64 T] 48)).alloc (.cells #[.slice A n c] 22) = W1 := ⟨_, rfl⟩
  rw [hW1] at D1 L0 hB ⊢
  clear hW1
  have D2 := (D1.next (below_new W1 (.cells #[.int .i64 0] 3))).drew
  have V0 := Vr.new W1 (.int .i64 0) 3
  have v0 : (W1.alloc (.cells #[.int .i64 0] 3)).drew.cell? ⟨W1.heap.size, 0, none⟩ = some (.int .i64 0) := V0.c0
  have v1 : (W1.alloc (.cells #[.int .i64 0] 3)).drew.frozen? ⟨W1.heap.size, 0, none⟩ = false := V0.f0
  have d0 := D1.drew.c0
  have d1 := D1.drew.c1
  have d2 := D2.c0
  have d3 := D2.c1
  have D3 := (D1.next (below_new W1 (.cells #[.int .i64 F] 3))).drew
  have d4 := D3.c0
  have d5 := D3.c1
  have hlt1 := L0.lt
  go_region
  have L3 := L0.next (below_new W1 (.cells #[.int .i64 F] 3))
  have V3 := Vr.new W1 (.int .i64 F) 3
  have hB3 := below_step hB (below_new W1 (.cells #[.int .i64 F] 3))
  generalize W1.heap.size = gf at *
  obtain ⟨W2, hW2⟩ : ∃ W2, (W1.alloc (.cells #[.int .i64 F] 3)).drew = W2 := ⟨_, rfl⟩
  have L4 : Vr W2 (w.heap.size + 1) (.slice A n c) := by rw [← hW2]; exact ⟨L3.lt, L3.c0, L3.f0⟩
  have V4 : Vr W2 gf (.int .i64 F) := by rw [← hW2]; exact ⟨V3.lt, V3.c0, V3.f0⟩
  have hB4 : Below w.heap.size w W2 := by rw [← hW2]; exact below_drew hB3
  rw [hW2] at D3 ⊢
  clear hW2 L3 V3 hB3 D1 D2 d0 d1 d2 d3 d4 d5 v0 v1 V0 L0 hB hlt1 hw1 hw2 W1
  obtain ⟨R, hR⟩ := Int.eq_ofNat_of_zero_le (show 0 ≤ s - F by omega)
  have hsl : Sl W2.drew w.heap.size A n c (il l) := hs.below (below_drew hB4)
  have HS := search_any R (by omega) (fun i => decide (T ≤ neededS s T l (F + (i : Int)))) #[.pointer (some ⟨w.heap.size, 0, none⟩), .pointer (some ⟨w.heap.size + 1, 0, none⟩), .pointer (some ⟨gf, 0, none⟩)] W2.drew
    (fun i hi W hW => closure_any A n c l s T F i w.heap.size (w.heap.size + 1) gf W ((hsl.below (hW.mono hB4.size)).more (Nat.le_trans hB4.size hW.size)) hok hn hN (by omega) (by omega) (by omega) (D3.drew.next hW) ((hW.cell (p := ⟨w.heap.size + 1, 0, none⟩) L4.lt).trans L4.c0) (Nat.lt_of_lt_of_le L4.lt hW.size)
      ((hW.cell (p := ⟨gf, 0, none⟩) V4.lt).trans V4.c0) (Nat.lt_of_lt_of_le V4.lt hW.size))
  have HSS := Lib.hid HS
  have HR := Lib.hid hR
  have v0 : W2.drew.cell? ⟨gf, 0, none⟩ = some (.int .i64 F) := V4.c0
  have hwR : IntKind.i64.wrap (s - F) = (R : Int) := by rw [IntKind.wrap_i64]; omega
  have hbR : (R : Int) ≤ 562954248388608 := by omega
  have hgf := V4.lt
  clear hs hok hn hN HS hR D3 L4 hsl HF hF
  go_wp2
  go_region_held3 (fun V => V.cell? ⟨gf, 0, none⟩ = some (.int .i64 F))
    (first | (with_reducible exact v1) | go_keep)
    (first
    | (go_at_call 42; (with_reducible refine HSS.out.mono ?_); rintro e w2 ⟨r, rfl, hr1, hr2, hr3, hb2⟩; have v1 : w2.cell? ⟨gf, 0, none⟩ = some (.int .i64 F) := (hb2.cell (p := ⟨gf, 0, none⟩) hgf).trans v0; have hwr : IntKind.i64.wrap (F + (r : Int)) = F + r := by (rw [IntKind.wrap_i64]; omega)))
  all_goals
    have hbz : Below w.heap.size w w2 := (below_drew hB4).trans (hb2.mono hB4.size)
    go_wp2
    go_ret
    refine ⟨r, rfl, by have := HR.out; omega, hr2.imp id (fun h => by simpa using h), hr3.imp (fun h => by have := HR.out; omega) (fun h => by simpa using h), ?_⟩
    first
    | exact hbz
    | exact below_drew hbz
end Go.Proofs.Ytjobcobgmajajaa
