/- Contracts on integers: Valid and signed of the specification, limited, limit, Same. -/
import Derived.Test.YtebbpodcldndjaaW4
set_option linter.unusedVariables false
namespace Go.Proofs.Ytebbpodcldndjaa
open Go.RowKit

theorem below_step {w wk w' : World} (hB : Below w.heap.size w wk) (hb : Below wk.heap.size wk w') : Below w.heap.size w w' := hB.trans (hb.mono hB.size)
theorem below_new (w : World) (o : Obj) : Below w.heap.size w (w.alloc o) := (Below.refl _ _).alloc (Nat.le_refl _) _

/-- at block g lies an integer -/
def At (w : World) (g : Nat) (u v : Value) : Prop := w.heap[g]? = some (.cells #[u, v] 24 (0, 0))
theorem At.new (w : World) (u v : Value) : At (w.alloc (.cells #[u, v] 24)) w.heap.size u v := by simpa [At] using heap_alloc_new w (.cells #[u, v] 24)
theorem At.lt {w : World} {g : Nat} {u v : Value} (h : At w g u v) : g < w.heap.size := (Array.getElem?_eq_some_iff.1 h).1
theorem At.below {w w' : World} {g B : Nat} {u v : Value} (h : At w g u v) (hb : Below B w w') (hg : g < B) : At w' g u v := (hb.block g hg).trans h
theorem At.next {w w' : World} {g : Nat} {u v : Value} (h : At w g u v) (hb : Below w.heap.size w w') : At w' g u v := h.below hb h.lt
theorem At.facts {w : World} {g : Nat} {u v : Value} (h : At w g u v) : w.cell? ⟨g, 0, none⟩ = some u ∧ w.cell? ⟨g, 1, none⟩ = some v ∧ w.frozen? ⟨g, 0, none⟩ = false ∧ w.frozen? ⟨g, 1, none⟩ = false :=
  ⟨by rw [cell_of_row w g 0 _ _ _ h]; rfl, by rw [cell_of_row w g 1 _ _ _ h]; rfl, frozen_of_row w g 0 _ _ h, frozen_of_row w g 1 _ _ h⟩
/-- no limbs lie where an integer lies -/
theorem At.ne {w : World} {g B : Nat} {x : Bool} {A1 : Option Addr} {n1 c1 : Nat} (h : At w g (.bool x) (.slice A1 n1 c1)) {n c b off : Nat} {l : List Nat} (hs : Sl w B (some ⟨b, off, none⟩) n c (ml l)) (hn : 0 < n) : b ≠ g := by
  rintro rfl
  obtain ⟨b', off', e, _, hc⟩ := hs.read hn
  cases e
  have hl : l.length = n := by rw [← length_ml]; exact hs.len
  have h0 : 0 < l.length := by omega
  have := hc 0 (.int .u32 ((l[0] : Nat) : Int)) (by simp [ml, h0])
  rw [cell_of_row w b _ _ _ _ h] at this
  match off, this with
  | 0, this => simp at this
  | 1, this => simp at this
  | k + 2, this => simp at this
theorem Sl.store {w : World} {g B : Nat} {x : Bool} {A1 : Option Addr} {n1 c1 : Nat} (h : At w g (.bool x) (.slice A1 n1 c1)) {A : Option Addr} {n c : Nat} {l : List Nat} (hs : Sl w B A n c (ml l)) (u v : Value) :
    Sl ((w.setCell ⟨g, 0, none⟩ u).setCell ⟨g, 1, none⟩ v) B A n c (ml l) := by
  refine ⟨hs.len, hs.le, hs.max, hs.nil, fun hn => ?_⟩
  obtain ⟨b, off, rfl, hb, hc⟩ := hs.read hn
  have hne := h.ne hs hn
  refine ⟨b, off, rfl, hb, fun j y hy => ?_⟩
  have e1 : ∀ (W : World) (k : Nat) (y : Value), (W.setCell ⟨g, k, none⟩ y).cell? ⟨b, off + j, none⟩ = W.cell? ⟨b, off + j, none⟩ := fun W k y =>
    World.cell?_setCell_other W _ _ y (by intro e; injection e with e1; exact hne e1.symm)
  rw [e1, e1]
  exact hc j y hy
theorem Sl.size {w w' : World} {A : Option Addr} {n c : Nat} {xs : List Value} (h : Sl w' w.heap.size A n c xs) (e : w'.heap.size = w.heap.size) : Sl w' w'.heap.size A n c xs := by rw [e]; exact h
theorem below_two {W w : World} {g : Nat} (h : Below W.heap.size W w) (hg : W.heap.size ≤ g) (u v : Value) : Below W.heap.size W ((w.setCell ⟨g, 0, none⟩ u).setCell ⟨g, 1, none⟩ v) :=
  (h.setCell (p := ⟨g, 0, none⟩) hg u).setCell (p := ⟨g, 1, none⟩) hg v

/-- the value x is an integer with a sign and a magnitude -/
def Zi (w : World) (x : Value) (neg : Bool) (v : Nat) : Prop := ∃ A c, x = .agg #[.bool neg, .slice A (enc v).length c] ∧ Sl w w.heap.size A (enc v).length c (ml (enc v))
theorem Zi.next {w w' : World} {x : Value} {neg : Bool} {v : Nat} (h : Zi w x neg v) (hb : Below w.heap.size w w') : Zi w' x neg v := by
  obtain ⟨A, c, e, hs⟩ := h
  exact ⟨A, c, e, hs.next hb⟩
/-- a call that returns an integer -/
def GiveI (neg : Bool) (v : Nat) (w : World) (e : Ending) (w' : World) : Prop := ∃ x, e = .returned x ∧ Zi w' x neg v ∧ Below w.heap.size w w'
/-- a call that returns an integer and an error number -/
def GiveE (neg : Bool) (v : Nat) (err : Int) (w : World) (e : Ending) (w' : World) : Prop := ∃ x, e = .returned (.tuple #[x, .int .i64 err]) ∧ Zi w' x neg v ∧ Below w.heap.size w w'
theorem Zi.zero (w : World) : Zi w (.agg #[.bool false, .slice none 0 0]) false 0 := ⟨none, 0, by rw [enc_zero]; rfl, by rw [enc_zero]; exact Sl.none_ _ _⟩

set_option maxRecDepth 100000 in
theorem rValid_any (neg : Bool) (A : Option Addr) (n c : Nat) (l : List Nat) (w : World) (hs : Sl w w.heap.size A n c (ml l)) (hok : Ok l) :
    Calls Try.prog 37 #[.agg #[.bool neg, .slice A n c]] w fun e w' => e = .returned (.bool (validB neg l)) ∧ Below w.heap.size w w' := by
  have hl : l.length = n := by rw [← length_ml]; exact hs.len
  have hmax := hs.max
  have hle := hs.le
  unfold maxLen at hmax
  by_cases h0 : n = 0
  · have hr : validB neg l = !neg := by unfold validB; rw [if_pos (by omega)]
    rw [hr]
    subst h0
    go_enter Try.func37, Try.ntmps37
    go_wp2
    go_ret
    exact ⟨rfl, (Below.refl _ _).alloc (Nat.le_refl _) _⟩
  by_cases h1 : n ≤ 512
  · have hr : validB neg l = !(((l.getD (n - 1) 0 : Nat) : Int) == 0) := by
      unfold validB
      rw [if_neg (by omega), hl, decide_eq_true h1, Bool.true_and]
      by_cases h : l.getD (n - 1) 0 = 0
      · rw [h]; rfl
      · have h' : (((l.getD (n - 1) 0 : Nat) : Int) == 0) = false := natB (b := 0) h
        rw [h', decide_eq_true h]; rfl
    have HR := Lib.hid hr
    clear hr
    have hbel0 : Below w.heap.size w (w.alloc (.cells #[.bool neg, .slice A n c] 24)) := (Below.refl _ _).alloc (Nat.le_refl _) _
    obtain ⟨b, off, rfl, hb, hc⟩ := (hs.below hbel0).at_ (show n - 1 < n by omega) (.int .u32 0)
    rw [getD_ml l (n - 1) (by omega)] at hc
    generalize l.getD (n - 1) 0 = x at *
    clear hbel0
    obtain ⟨m, rfl⟩ : ∃ m, n = m + 1 := ⟨n - 1, by omega⟩
    rw [Nat.add_sub_cancel] at hc
    go_enter Try.func37, Try.ntmps37
    go_wp2
    go_ret
    exact ⟨retB (by rw [HR.out]; rfl), (Below.refl _ _).alloc (Nat.le_refl _) _⟩
  · have hr : validB neg l = false := by unfold validB; rw [if_neg (by omega), decide_eq_false (by omega)]; rfl
    rw [hr]
    go_enter Try.func37, Try.ntmps37
    go_wp2
    go_ret
    exact ⟨rfl, (Below.refl _ _).alloc (Nat.le_refl _) _⟩

theorem enc_len_pos {v : Nat} (h : v ≠ 0) : 0 < (enc v).length := Nat.pos_of_ne_zero fun e => h (enc_eq_nil e)

set_option maxRecDepth 100000 in
theorem rSigned_any (neg : Bool) (A : Option Addr) (n c : Nat) (l : List Nat) (w : World) (hs : Sl w w.heap.size A n c (ml l)) (hok : Ok l) (hn : n ≤ 1048577) :
    Calls Try.prog 60 #[.bool neg, .slice A n c] w (GiveI (neg && decide (val l ≠ 0)) (val l) w) := by
  have hs1 := hs.next (below_new w (.cells #[.bool false, .slice none 0 0] 24))
  have HA := At.new w (.bool false) (.slice none 0 0)
  have hbel0 := below_new w (.cells #[.bool false, .slice none 0 0] 24)
  obtain ⟨v, hv⟩ : ∃ v, val l = v := ⟨_, rfl⟩
  have HT := Lib.hid (rTrim_any A n c l _ hs1 hok hn)
  rw [hv] at HT ⊢
  clear hs1 hs
  cases neg
  · go_enter Try.func60, Try.ntmps60
    go_wp2_with fail
    refine HT.out.mono ?_
    rintro e w1 ⟨A2, c2, rfl, hs2, hb2⟩
    have HA1 := HA.next hb2
    obtain ⟨f1, f2, f3, f4⟩ := HA1.facts
    go_wp2
    refine bodyPost_ret (v := .agg #[.bool false, .slice A2 (enc v).length c2]) (by simp [results, Try.results60, go_sem, f1, f2]) rfl ⟨_, rfl, ?_, below_two (below_step hbel0 hb2) (Nat.le_refl _) _ _⟩
    exact ⟨A2, c2, rfl, by simpa using Sl.store HA1 hs2 _ _⟩
  by_cases h : v = 0
  · subst h
    rw [enc_zero] at HT
    go_enter Try.func60, Try.ntmps60
    go_wp2_with fail
    refine HT.out.mono ?_
    rintro e w1 ⟨A2, c2, rfl, hs2, hb2⟩
    have HA1 := HA.next hb2
    obtain ⟨f1, f2, f3, f4⟩ := HA1.facts
    go_wp2
    refine bodyPost_ret (v := .agg #[.bool false, .slice A2 0 c2]) (by simp [results, Try.results60, go_sem, f1, f2]) rfl ⟨_, rfl, ?_, below_two (below_step hbel0 hb2) (Nat.le_refl _) _ _⟩
    exact ⟨A2, c2, by rw [enc_zero]; rfl, by rw [enc_zero]; simpa using Sl.store HA1 hs2 _ _⟩
  · rw [decide_eq_true h]
    have hp : (0 : Int) < ((enc v).length : Int) := by have := enc_len_pos h; omega
    go_enter Try.func60, Try.ntmps60
    go_wp2_with fail
    refine HT.out.mono ?_
    rintro e w1 ⟨A2, c2, rfl, hs2, hb2⟩
    have HA1 := HA.next hb2
    obtain ⟨f1, f2, f3, f4⟩ := HA1.facts
    go_wp2
    refine bodyPost_ret (v := .agg #[.bool true, .slice A2 (enc v).length c2]) (by simp [results, Try.results60, go_sem, f1, f2]; exact enc_len_pos h) rfl ⟨_, rfl, ?_, below_two (below_step hbel0 hb2) (Nat.le_refl _) _ _⟩
    exact ⟨A2, c2, rfl, by simpa using Sl.store HA1 hs2 _ _⟩
end Go.Proofs.Ytebbpodcldndjaa
