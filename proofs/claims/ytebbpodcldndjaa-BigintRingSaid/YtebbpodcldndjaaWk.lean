/- Contracts on integers: FromInt and its specification. -/
import Derived.Test.YtebbpodcldndjaaWc
set_option linter.unusedVariables false
namespace Go.Proofs.Ytebbpodcldndjaa
open Go.RowKit

/-- a slice literal, or a whole array as a slice -/
theorem Sl.lit (w : World) (e : TypeId) (cs : Array Value) (n : Nat) (hn : cs.size = n) (hm : n ≤ maxLen) : Sl (w.alloc (.cells cs e)) (w.alloc (.cells cs e)).heap.size (some ⟨w.heap.size, 0, none⟩) n n cs.toList := by
  subst hn
  refine ⟨by simp, Nat.le_refl _, hm, fun h => (by cases h), fun _ => ⟨w.heap.size, 0, rfl, by simp, fun j u hu => ?_⟩⟩
  rw [Nat.zero_add, cell_of_row (w.alloc (.cells cs e)) w.heap.size j cs e (0, 0) (by simpa using heap_alloc_new w (.cells cs e))]
  simpa using hu

set_option maxRecDepth 100000 in
theorem split_any (v : Nat) (w : World) (hv : v < 18446744073709551616) :
    Calls Try.prog 73 #[.int .u64 (v : Int)] w fun e w' => e = .returned (.agg #[.int .u32 ((v % 4294967296 : Nat) : Int), .int .u32 ((v / 4294967296 : Nat) : Int)]) ∧ Below w.heap.size w w' := by
  have hq : (v : Int) / 4294967296 < 4294967296 := by omega
  have hq0 : 0 ≤ (v : Int) / 4294967296 := by omega
  go_enter Try.func73, Try.ntmps73
  go_wp2
  exact bodyPost_ret (v := .agg #[.int .u32 ((v % 4294967296 : Nat) : Int), .int .u32 ((v / 4294967296 : Nat) : Int)]) (by simp [results, Try.results73, go_sem]) rfl ⟨rfl, below_new _ _⟩

theorem val_two (v : Nat) : val [v % 4294967296, v / 4294967296] = v := by
  rw [val_cons, val_cons, val_nil]
  omega
theorem ok_two (v : Nat) (hv : v < 18446744073709551616) : Ok [v % 4294967296, v / 4294967296] := Ok.cons (by omega) (Ok.cons (by omega) Ok.nil)

set_option maxRecDepth 100000 in
theorem fromInt_any (z : Int) (w : World) (h0 : -9223372036854775808 ≤ z) (h1 : z ≤ 9223372036854775807) :
    Calls Try.prog 35 #[.int .i64 z] w (GiveI (decide (z < 0)) z.natAbs w) := by
  obtain ⟨v, hv⟩ : ∃ v, z.natAbs = v := ⟨_, rfl⟩
  rw [hv]
  have HA := At.new w (.bool false) (.slice none 0 0)
  have HB := below_new w (.cells #[.bool false, .slice none 0 0] 24)
  have hvl : v < 18446744073709551616 := by omega
  have HSP := Lib.hid (split_any v (w.alloc (.cells #[.bool false, .slice none 0 0] 24)) hvl)
  have HT : Hid (∀ (W : World) (A : Option Addr) (n c : Nat), Sl W W.heap.size A n c (ml [v % 4294967296, v / 4294967296]) → Calls Try.prog 74 #[.slice A n c] W fun e w' => Mag (enc v) W e w' ∧ W = w') := by
    intro W A n c g
    have := trim_any A n c _ W g (ok_two v hvl)
    rwa [val_two] at this
  by_cases hz : z < 0
  · rw [decide_eq_true hz]
    have hw : IntKind.u64.wrap z = z + 18446744073709551616 := by rw [IntKind.wrap_u64]; omega
    have hw2 : IntKind.u64.wrap (-(z + 18446744073709551616)) = (v : Int) := by rw [IntKind.wrap_u64]; omega
    go_enter Try.func35, Try.ntmps35
    go_wp2_with fail
    refine HSP.out.mono ?_
    rintro e w1 ⟨rfl, hb1⟩
    have HR1 := HA.next hb1
    replace HB := below_step HB hb1
    obtain ⟨t1, t2, t3, t4⟩ := HR1.facts
    have hlt := HR1.lt
    have hS := Sl.lit w1 67 #[.int .u32 ((v % 4294967296 : Nat) : Int), .int .u32 ((v / 4294967296 : Nat) : Int)] 2 rfl (by unfold maxLen; omega)
    have hb2 := below_new w1 (.cells #[.int .u32 ((v % 4294967296 : Nat) : Int), .int .u32 ((v / 4294967296 : Nat) : Int)] 67)
    have HR2 := HR1.next hb2
    have HB2 := below_step HB hb2
    go_wp2_with fail
    refine (HT.out _ _ _ _ hS).mono ?_
    rintro e w2 ⟨⟨A2, c2, rfl, hs2, _⟩, rfl⟩
    go_wp2
    refine bodyPost_ret (v := .agg #[.bool true, .slice A2 (enc v).length c2]) (by simp [results, Try.results35, go_sem, t1, t2, hlt]) rfl ?_
    have hz := Zi.store (neg := true) HR2 ⟨A2, c2, rfl, hs2⟩ (.bool true) (.slice A2 (enc v).length c2)
    have hbz := below_two HB2 (Nat.le_refl _) (.bool true) (.slice A2 (enc v).length c2)
    have ec : ∀ (W : World) (n i : Nat) (u : Value) (O : Obj), n < W.heap.size → (W.alloc O).setCell ⟨n, i, none⟩ u = (W.setCell ⟨n, i, none⟩ u).alloc O := fun W n i u O h => World.setCell_alloc_past (w := W) O _ _ u h
    rw [ec _ _ _ _ _ (by simpa using hlt), ec _ _ _ _ _ (by simpa using hlt)] at hz hbz
    exact ⟨_, rfl, hz, hbz⟩
  · rw [decide_eq_false hz]
    have hz' : 0 ≤ z := by omega
    obtain rfl : z = (v : Int) := by omega
    go_enter Try.func35, Try.ntmps35
    go_wp2_with fail
    refine HSP.out.mono ?_
    rintro e w1 ⟨rfl, hb1⟩
    have HR1 := HA.next hb1
    replace HB := below_step HB hb1
    obtain ⟨t1, t2, t3, t4⟩ := HR1.facts
    have hlt := HR1.lt
    have hS := Sl.lit w1 67 #[.int .u32 ((v % 4294967296 : Nat) : Int), .int .u32 ((v / 4294967296 : Nat) : Int)] 2 rfl (by unfold maxLen; omega)
    have hb2 := below_new w1 (.cells #[.int .u32 ((v % 4294967296 : Nat) : Int), .int .u32 ((v / 4294967296 : Nat) : Int)] 67)
    have HR2 := HR1.next hb2
    have HB2 := below_step HB hb2
    go_wp2_with fail
    refine (HT.out _ _ _ _ hS).mono ?_
    rintro e w2 ⟨⟨A2, c2, rfl, hs2, _⟩, rfl⟩
    go_wp2
    refine bodyPost_ret (v := .agg #[.bool false, .slice A2 (enc v).length c2]) (by simp [results, Try.results35, go_sem, t1, t2, hlt]) rfl ?_
    have hz := Zi.store (neg := false) HR2 ⟨A2, c2, rfl, hs2⟩ (.bool false) (.slice A2 (enc v).length c2)
    have hbz := below_two HB2 (Nat.le_refl _) (.bool false) (.slice A2 (enc v).length c2)
    have ec : ∀ (W : World) (n i : Nat) (u : Value) (O : Obj), n < W.heap.size → (W.alloc O).setCell ⟨n, i, none⟩ u = (W.setCell ⟨n, i, none⟩ u).alloc O := fun W n i u O h => World.setCell_alloc_past (w := W) O _ _ u h
    rw [ec _ _ _ _ _ (by simpa using hlt), ec _ _ _ _ _ (by simpa using hlt)] at hz hbz
    exact ⟨_, rfl, hz, hbz⟩

set_option maxRecDepth 100000 in
theorem rFromInt_any (z : Int) (w : World) (h0 : -9223372036854775808 ≤ z) (h1 : z ≤ 9223372036854775807) :
    Calls Try.prog 38 #[.int .i64 z] w (GiveI (decide (z < 0)) z.natAbs w) := by
  obtain ⟨v, hv⟩ : ∃ v, z.natAbs = v := ⟨_, rfl⟩
  rw [hv]
  have HA := At.new w (.bool false) (.slice none 0 0)
  have HB := below_new w (.cells #[.bool false, .slice none 0 0] 24)
  have hvl : v < 18446744073709551616 := by omega
  have hS := Sl.lit (w.alloc (.cells #[.bool false, .slice none 0 0] 24)) 63 #[.int .u32 ((v % 4294967296 : Nat) : Int), .int .u32 ((v / 4294967296 : Nat) : Int)] 2 rfl (by unfold maxLen; omega)
  have hb2 := below_new (w.alloc (.cells #[.bool false, .slice none 0 0] 24)) (.cells #[.int .u32 ((v % 4294967296 : Nat) : Int), .int .u32 ((v / 4294967296 : Nat) : Int)] 63)
  have HR2 := HA.next hb2
  have HB2 := below_step HB hb2
  have HSG := fun b => rSigned_any b _ 2 2 [v % 4294967296, v / 4294967296] _ hS (ok_two v hvl) (by omega)
  rw [val_two] at HSG
  have e1 : ((v % 4294967296 : Nat) : Int) = (v : Int) % 4294967296 := by omega
  have e2 : ((v / 4294967296 : Nat) : Int) = (v : Int) / 4294967296 := by omega
  rw [e1, e2] at HSG HR2 HB2
  have esz : (w.alloc (.cells #[.bool false, .slice none 0 0] 24)).heap.size = w.heap.size + 1 := by simp
  rw [esz] at HSG
  have hq1 : (v : Int) / 4294967296 < 4294967296 := by omega
  by_cases hz : z < 0
  · have hv0 : v ≠ 0 := by omega
    have HT := Lib.hid (HSG true)
    rw [decide_eq_true hv0, Bool.and_true] at HT
    rw [decide_eq_true hz]
    have hw : IntKind.u64.wrap z = z + 18446744073709551616 := by rw [IntKind.wrap_u64]; omega
    have hw1 : -(z + 1) + 1 = (v : Int) := by omega
    clear HSG e1 e2 hS hb2 HA HB esz
    go_enter Try.func38, Try.ntmps38
    go_wp2_with fail
    refine HT.out.mono ?_
    rintro e w5 ⟨x5, rfl, ⟨A5, c5, rfl, hs5⟩, hb5⟩
    have HR5 := HR2.next hb5
    have HB5 := below_step HB2 hb5
    obtain ⟨t1, t2, t3, t4⟩ := HR5.facts
    go_wp2
    refine bodyPost_ret (v := .agg #[.bool true, .slice A5 (enc v).length c5]) (by simp [results, Try.results38, go_sem, t1, t2]) rfl ⟨_, rfl, ?_, below_two HB5 (Nat.le_refl _) _ _⟩
    exact Zi.store HR5 ⟨A5, c5, rfl, hs5⟩ _ _
  · have HT := Lib.hid (HSG false)
    rw [Bool.false_and] at HT
    rw [decide_eq_false hz]
    have hz' : 0 ≤ z := by omega
    obtain rfl : z = (v : Int) := by omega
    clear HSG e1 e2 hS hb2 HA HB esz
    go_enter Try.func38, Try.ntmps38
    go_wp2_with fail
    refine HT.out.mono ?_
    rintro e w5 ⟨x5, rfl, ⟨A5, c5, rfl, hs5⟩, hb5⟩
    have HR5 := HR2.next hb5
    have HB5 := below_step HB2 hb5
    obtain ⟨t1, t2, t3, t4⟩ := HR5.facts
    go_wp2
    refine bodyPost_ret (v := .agg #[.bool false, .slice A5 (enc v).length c5]) (by simp [results, Try.results38, go_sem, t1, t2]) rfl ⟨_, rfl, ?_, below_two HB5 (Nat.le_refl _) _ _⟩
    exact Zi.store HR5 ⟨A5, c5, rfl, hs5⟩ _ _
end Go.Proofs.Ytebbpodcldndjaa
