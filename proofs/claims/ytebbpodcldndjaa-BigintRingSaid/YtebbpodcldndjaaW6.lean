/- Contracts on integers: limited, limit, Same. -/
import Derived.Test.YtebbpodcldndjaaW5
set_option linter.unusedVariables false
namespace Go.Proofs.Ytebbpodcldndjaa
open Go.RowKit

/-- what is too long is 0 and an error -/
def limS (neg : Bool) (v : Nat) : Bool × Nat × Int := if (enc v).length ≤ 512 then (neg, v, 0) else (false, 0, 4)

set_option maxRecDepth 100000 in
theorem limited_any (x : Value) (neg : Bool) (v : Nat) (w : World) (hx : Zi w x neg v) :
    Calls Try.prog 51 #[x] w (GiveE (limS neg v).1 (limS neg v).2.1 (limS neg v).2.2 w) := by
  obtain ⟨A, c, rfl, hs⟩ := hx
  obtain ⟨k, hk⟩ : ∃ k, (enc v).length = k := ⟨_, rfl⟩
  have HK := Lib.hid hk
  rw [hk] at hs ⊢
  have hl := hk
  clear hk
  have hmax := hs.max
  have hle := hs.le
  unfold maxLen at hmax
  have HS := Lib.hid hs
  clear hs
  by_cases h : k ≤ 512
  · have hr : limS neg v = (neg, v, 0) := by unfold limS; rw [if_pos (by omega)]
    rw [hr]
    clear hl
    have h' : (k : Int) ≤ 512 := by omega
    go_enter Try.func51, Try.ntmps51
    go_wp2
    refine bodyPost_ret (v := .tuple #[.agg #[.bool neg, .slice A k c], .int .i64 0]) (by simp [results, Try.results51, go_sem]) rfl ⟨_, rfl, ?_, below_step (below_new _ _) (below_new _ _)⟩
    exact ⟨A, c, by rw [HK.out], by rw [HK.out]; exact (HS.out.next (below_new _ _)).next (below_new _ _)⟩
  · have hr : limS neg v = (false, 0, 4) := by unfold limS; rw [if_neg (by omega)]
    rw [hr]
    clear hl
    have h' : (512 : Int) < (k : Int) := by omega
    go_enter Try.func51, Try.ntmps51
    go_wp2
    exact bodyPost_ret (v := .tuple #[.agg #[.bool false, .slice none 0 0], .int .i64 4]) (by simp [results, Try.results51, go_sem]) rfl ⟨_, rfl, Zi.zero _, below_step (below_new _ _) (below_new _ _)⟩

theorem Zi.store {w : World} {g : Nat} {x : Bool} {A1 : Option Addr} {n1 c1 : Nat} (h : At w g (.bool x) (.slice A1 n1 c1)) {y : Value} {neg : Bool} {v : Nat} (hz : Zi w y neg v) (a b : Value) :
    Zi ((w.setCell ⟨g, 0, none⟩ a).setCell ⟨g, 1, none⟩ b) y neg v := by
  obtain ⟨A, c, e, hs⟩ := hz
  exact ⟨A, c, e, by simpa using Sl.store h hs a b⟩

set_option maxRecDepth 100000 in
theorem limit_any (neg : Bool) (A : Option Addr) (n c : Nat) (l : List Nat) (w : World) (hs : Sl w w.heap.size A n c (ml l)) (hok : Ok l) (hn : n ≤ 1048577) :
    Calls Try.prog 53 #[.bool neg, .slice A n c] w (GiveE (limS (neg && decide (val l ≠ 0)) (val l)).1 (limS (neg && decide (val l ≠ 0)) (val l)).2.1 (limS (neg && decide (val l ≠ 0)) (val l)).2.2 w) := by
  have hs1 := hs.next (below_new w (.cells #[.bool false, .slice none 0 0] 24))
  have HA := Lib.hid (At.new w (.bool false) (.slice none 0 0))
  have HB0 := Lib.hid (below_new w (.cells #[.bool false, .slice none 0 0] 24))
  have HT := Lib.hid (rSigned_any neg A n c l _ hs1 hok hn)
  obtain ⟨v, hv⟩ : ∃ v, val l = v := ⟨_, rfl⟩
  obtain ⟨s, hsg⟩ : ∃ s, (neg && decide (v ≠ 0)) = s := ⟨_, rfl⟩
  rw [hv, hsg] at HT ⊢
  clear hs1 hs hv hsg hok
  obtain ⟨k, hk⟩ : ∃ k, (enc v).length = k := ⟨_, rfl⟩
  have HK := Lib.hid hk
  clear hk
  by_cases h : k ≤ 512
  · have hr : limS s v = (s, v, 0) := by unfold limS; rw [HK.out, if_pos h]
    rw [hr]
    have h' : (k : Int) ≤ 512 := by omega
    go_enter Try.func53, Try.ntmps53
    go_wp2_with fail
    refine HT.out.mono ?_
    rintro e w1 ⟨x, rfl, ⟨A2, c2, rfl, hs2⟩, hb2⟩
    have HA1 := Lib.hid (HA.out.next hb2)
    have HB1 := Lib.hid (below_step HB0.out hb2)
    rw [HK.out] at hs2 ⊢
    obtain ⟨f1, f2, f3, f4⟩ := HA1.out.facts
    have hlt := HA1.out.lt
    have HS := Lib.hid hs2
    have hmax := hs2.max
    have hle := hs2.le
    unfold maxLen at hmax
    clear hs2 hb2
    go_wp2
    refine bodyPost_ret (v := .tuple #[.agg #[.bool s, .slice A2 k c2], .int .i64 0]) (by simp [results, Try.results53, go_sem, f1, f2, hlt]) rfl ⟨_, rfl, ?_, below_step (below_two HB1.out (Nat.le_refl _) _ _) (below_new _ _)⟩
    exact Zi.next (Zi.store HA1.out ⟨A2, c2, by rw [HK.out], by rw [HK.out]; exact HS.out⟩ _ _) (below_new _ _)
  · have hr : limS s v = (false, 0, 4) := by unfold limS; rw [HK.out, if_neg h]
    rw [hr]
    have h' : (512 : Int) < (k : Int) := by omega
    go_enter Try.func53, Try.ntmps53
    go_wp2_with fail
    refine HT.out.mono ?_
    rintro e w1 ⟨x, rfl, ⟨A2, c2, rfl, hs2⟩, hb2⟩
    have HA1 := Lib.hid (HA.out.next hb2)
    have HB1 := Lib.hid (below_step HB0.out hb2)
    rw [HK.out] at hs2 ⊢
    obtain ⟨f1, f2, f3, f4⟩ := HA1.out.facts
    have hlt := HA1.out.lt
    have hmax := hs2.max
    have hle := hs2.le
    unfold maxLen at hmax
    clear hs2 hb2
    go_wp2
    exact bodyPost_ret (v := .tuple #[.agg #[.bool false, .slice none 0 0], .int .i64 4]) (by simp [results, Try.results53, go_sem, f1, f2, hlt]) rfl ⟨_, rfl, Zi.zero _, below_step (below_two HB1.out (Nat.le_refl _) _ _) (below_new _ _)⟩
end Go.Proofs.Ytebbpodcldndjaa
