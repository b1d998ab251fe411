/- Sums and products as integers; boxes side by side. -/
import Derived.Test.YtebbpodcldndjaaLoM
set_option linter.unusedVariables false
namespace Go.Proofs.Ytebbpodcldndjaa
open Go.RowKit

/-- an integer, or the error where it is too large -/
def limZ (z : Int) : Bool × Nat × Int := limS (decide (z < 0)) z.natAbs
def Vz (z : Int) : Prop := (enc z.natAbs).length ≤ 512
theorem zi_dec (z : Int) : zi (decide (z < 0)) z.natAbs = z := by
  unfold zi
  by_cases h : z < 0
  · rw [decide_eq_true h]; simp; omega
  · rw [decide_eq_false h]; simp; omega
theorem dec_valid (z : Int) : decide (z < 0) = true → z.natAbs ≠ 0 := by
  intro h
  have := of_decide_eq_true h
  omega
theorem norm_zi (neg : Bool) (v : Nat) (h : neg = true → v ≠ 0) : neg = decide (zi neg v < 0) ∧ v = (zi neg v).natAbs := zi_inj h (dec_valid _) (zi_dec _).symm
theorem vd_z {z : Int} (h : Vz z) : Vd (decide (z < 0)) z.natAbs := ⟨dec_valid z, h⟩
theorem lim_fits {z : Int} {s : Bool} {v : Nat} (h : limZ z = (s, v, 0)) : Vz z ∧ s = decide (z < 0) ∧ v = z.natAbs := by
  unfold limZ at h
  rcases lim_cases (decide (z < 0)) z.natAbs with ⟨h1, h2⟩ | h2
  · rw [h2] at h
    injection h with e1 e2
    injection e2 with e2 e3
    exact ⟨h1, e1.symm, e2.symm⟩
  · rw [h2] at h
    injection h with e1 e2
    injection e2 with e2 e3
    exact absurd e3 (by decide)
theorem add_lim (p q : Int) : addS (decide (p < 0)) p.natAbs (decide (q < 0)) q.natAbs = limZ (p + q) := by
  obtain ⟨e1, e2⟩ := norm_zi _ _ (sum_valid (decide (p < 0)) p.natAbs (decide (q < 0)) q.natAbs)
  rw [zi_sum, zi_dec, zi_dec] at e1 e2
  unfold addS limZ
  rw [e1, e2]
theorem sub_lim (p q : Int) : subS (decide (p < 0)) p.natAbs (decide (q < 0)) q.natAbs = limZ (p - q) := by
  obtain ⟨e1, e2⟩ := norm_zi _ _ (neg_valid (decide (q < 0)) q.natAbs)
  rw [zi_neg, zi_dec] at e1 e2
  unfold subS
  rw [e1]
  conv => lhs; rw [e2]
  rw [add_lim, Int.sub_eq_add_neg]
theorem mul_lim (p q : Int) : limS ((decide (p < 0) != decide (q < 0)) && decide (p.natAbs * q.natAbs ≠ 0)) (p.natAbs * q.natAbs) = limZ (p * q) := by
  unfold limZ
  have hs : ((decide (p < 0) != decide (q < 0)) && decide (p.natAbs * q.natAbs ≠ 0)) = decide (p * q < 0) := by
    rw [← Int.natAbs_mul]
    rcases Int.lt_trichotomy p 0 with hp | hp | hp <;> rcases Int.lt_trichotomy q 0 with hq | hq | hq
    · have := Int.mul_pos_of_neg_of_neg hp hq
      rw [decide_eq_true hp, decide_eq_true hq, decide_eq_false (show ¬ p * q < 0 by omega)]; rfl
    · subst hq; simp
    · have := Int.mul_neg_of_neg_of_pos hp hq
      rw [decide_eq_true hp, decide_eq_false (by omega), decide_eq_true (by omega), decide_eq_true this]; rfl
    · subst hp; simp
    · subst hp; simp
    · subst hp; simp
    · have := Int.mul_neg_of_pos_of_neg hp hq
      rw [decide_eq_false (by omega), decide_eq_true hq, decide_eq_true (by omega), decide_eq_true this]; rfl
    · subst hq; simp
    · have := Int.mul_pos hp hq
      rw [decide_eq_false (by omega), decide_eq_false (by omega), decide_eq_false (show ¬ p * q < 0 by omega)]; rfl
  rw [hs, Int.natAbs_mul]

abbrev C2 (f : Nat) (s1 : Bool) (v1 : Nat) (s2 : Bool) (v2 : Nat) (Q : World → Ending → World → Prop) : Prop :=
  ∀ (W : World) (A : Option Addr) (n c : Nat) (A' : Option Addr) (n' c' : Nat), Sl W W.heap.size A n c (ml (enc v1)) → Sl W W.heap.size A' n' c' (ml (enc v2)) → Calls Try.prog f #[.agg #[.bool s1, .slice A n c], .agg #[.bool s2, .slice A' n' c']] W (Q W)
abbrev C1 (f : Nat) (s1 : Bool) (v1 : Nat) (Q : World → Ending → World → Prop) : Prop :=
  ∀ (W : World) (A : Option Addr) (n c : Nat), Sl W W.heap.size A n c (ml (enc v1)) → Calls Try.prog f #[.agg #[.bool s1, .slice A n c]] W (Q W)
theorem addC {p q : Int} (hp : Vz p) (hq : Vz q) {s : Bool} {v : Nat} {e : Int} (h : limZ (p + q) = (s, v, e)) : C2 15 (decide (p < 0)) p.natAbs (decide (q < 0)) q.natAbs (GiveE s v e) := by
  intro W A n c A' n' c' h1 h2
  have := add2_any _ _ _ _ _ _ W (zi_of h1) (zi_of h2) (vd_z hp) (vd_z hq)
  rwa [add_lim, h] at this
theorem subC {p q : Int} (hp : Vz p) (hq : Vz q) {s : Bool} {v : Nat} {e : Int} (h : limZ (p - q) = (s, v, e)) : C2 17 (decide (p < 0)) p.natAbs (decide (q < 0)) q.natAbs (GiveE s v e) := by
  intro W A n c A' n' c' h1 h2
  have := sub2_any _ _ _ _ _ _ W (zi_of h1) (zi_of h2) (vd_z hp) (vd_z hq)
  rwa [sub_lim, h] at this
theorem mulC {p q : Int} (hp : Vz p) (hq : Vz q) {s : Bool} {v : Nat} {e : Int} (h : limZ (p * q) = (s, v, e)) : C2 25 (decide (p < 0)) p.natAbs (decide (q < 0)) q.natAbs (GiveE s v e) := by
  intro W A n c A' n' c' h1 h2
  have := mul2_any _ _ _ _ _ _ _ _ _ _ W h1 h2 (vd_z hp) (vd_z hq)
  rwa [mul_lim, h] at this
theorem negC {p : Int} (hp : Vz p) : C1 20 (decide (p < 0)) p.natAbs (GiveI (decide (-p < 0)) (-p).natAbs) := by
  intro W A n c h1
  have := neg_any _ _ _ W (zi_of h1) (vd_z hp)
  obtain ⟨e1, e2⟩ := norm_zi _ _ (neg_valid (decide (p < 0)) p.natAbs)
  rw [zi_neg, zi_dec] at e1 e2
  rw [e1] at this
  rwa [← e2]
theorem vz_neg {p : Int} (h : Vz p) : Vz (-p) := by
  unfold Vz
  rw [Int.natAbs_neg]
  exact h
theorem limZ_of {z : Int} (h : Vz z) : limZ z = (decide (z < 0), z.natAbs, 0) := by
  unfold limZ limS
  exact if_pos h

set_option maxRecDepth 100000 in
theorem equal_eq (s : Bool) (v : Nat) (e : Int) (A : Option Addr) (n c : Nat) (A' : Option Addr) (n' c' : Nat) (w : World) (h1 : Sl w w.heap.size A n c (ml (enc v))) (h2 : Sl w w.heap.size A' n' c' (ml (enc v))) :
    Calls Try.prog 48 #[.agg #[.bool s, .slice A n c], .int .i64 e, .agg #[.bool s, .slice A' n' c'], .int .i64 e] w fun e' w' => e' = .returned (.bool true) ∧ Below w.heap.size w w' := by
  obtain ⟨z1, z2, hb, hS⟩ := boxed_ab w (.bool s) (.slice A n c) (.bool s) (.slice A' n' c')
  have s1 := hS _ _ _ _ h1
  have s2 := hS _ _ _ _ h2
  obtain ⟨k1, k2, _, _⟩ := z1.facts
  obtain ⟨k3, k4, _, _⟩ := z2.facts
  by_cases he : e = 0
  · subst he
    go_enter Try.func48, Try.ntmps48
    go_wp2_with fail
    refine (same_eq _ _ _ _ _ (sl_zi s1) (sl_zi s2)).mono ?_
    rintro e w6 ⟨rfl, hb6⟩
    go_wp2
    go_ret
    exact ⟨rfl, below_step hb hb6⟩
  · have hen : (e != 0) = true := by simpa using he
    have hen2 : (e == 0) = false := by simpa using he
    clear s1 s2 hS
    go_enter Try.func48, Try.ntmps48
    go_wp2
    go_ret
    exact ⟨rfl, hb⟩

/-- boxes side by side -/
abbrev Bxe := Nat × Bool × Nat × Option Addr × Nat × Nat
structure Bs (W w : World) (L : List Bxe) : Prop where
  all : ∀ x ∈ L, Bx W x.1 x.2.1 x.2.2.1 x.2.2.2.1 x.2.2.2.2.1 x.2.2.2.2.2
  bel : Below w.heap.size w W
theorem Bs.next {W W' w : World} {L : List Bxe} (h : Bs W w L) (hb : Below W.heap.size W W') : Bs W' w L := ⟨fun x hx => (h.all x hx).next hb, below_step h.bel hb⟩
theorem Bs.drew {W w : World} {L : List Bxe} (h : Bs W w L) : Bs W.drew w L := ⟨fun x hx => (h.all x hx).drew, h.bel.drew⟩
theorem Bs.hd {W w : World} {g : Nat} {s : Bool} {v : Nat} {A : Option Addr} {n c : Nat} {L : List Bxe} (h : Bs W w ((g, s, v, A, n, c) :: L)) : Bx W g s v A n c := h.all _ (List.mem_cons_self ..)
theorem Bs.tl {W w : World} {x : Bxe} {L : List Bxe} (h : Bs W w (x :: L)) : Bs W w L := ⟨fun y hy => h.all y (List.mem_cons_of_mem _ hy), h.bel⟩
theorem Bs.cons {W w : World} {g : Nat} {s : Bool} {v : Nat} {A : Option Addr} {n c : Nat} {L : List Bxe} (h : Bs W w L) (b : Bx W g s v A n c) : Bs W w ((g, s, v, A, n, c) :: L) := by
  refine ⟨fun y hy => ?_, h.bel⟩
  rcases List.mem_cons.1 hy with rfl | hy
  · exact b
  · exact h.all y hy
theorem Bs.add {W W2 w : World} {s : Bool} {v : Nat} {A : Option Addr} {n c : Nat} {L : List Bxe} (h : Bs W w L) (hb : Below W.heap.size W W2) (hs : Sl W2 W2.heap.size A n c (ml (enc v))) :
    Bs (W2.alloc (.cells #[.bool s, .slice A n c] 24)) w ((W2.heap.size, s, v, A, n, c) :: L) :=
  ((h.next hb).next (below_new _ _)).cons (Bx.new hs)
theorem Bs.lt {W w : World} {L : List Bxe} (h : Bs W w L) : ∀ x ∈ L, x.1 < W.heap.size := fun x hx => (h.all x hx).at_.lt
/-- a zero box beside them -/
structure Zb (W w : World) (g : Nat) (L : List Bxe) : Prop where
  at_ : At W g (.bool false) (.slice none 0 0)
  lt : ∀ x ∈ L, x.1 < g
  base : w.heap.size ≤ g
theorem Zb.new {W w : World} {L : List Bxe} (h : Bs W w L) : Zb (W.alloc (.cells #[.bool false, .slice none 0 0] 24)) w W.heap.size L := ⟨At.new _ _ _, h.lt, h.bel.size⟩
theorem Zb.next {W W' w : World} {g : Nat} {L : List Bxe} (h : Zb W w g L) (hb : Below W.heap.size W W') : Zb W' w g L := ⟨h.at_.next hb, h.lt, h.base⟩
theorem Bs.put {W w : World} {g : Nat} {s : Bool} {v : Nat} {A : Option Addr} {n c : Nat} {L : List Bxe} (h : Bs W w L) (z : Zb W w g L) (hs : Sl W W.heap.size A n c (ml (enc v))) :
    Bs ((W.setCell ⟨g, 0, none⟩ (.bool s)).setCell ⟨g, 1, none⟩ (.slice A n c)) w ((g, s, v, A, n, c) :: L) := by
  have h0 : Bs ((W.setCell ⟨g, 0, none⟩ (.bool s)).setCell ⟨g, 1, none⟩ (.slice A n c)) w L :=
    ⟨fun x hx => (h.all x hx).set z.at_ (Nat.ne_of_lt (z.lt x hx)) _ _, below_two h.bel z.base _ _⟩
  exact h0.cons ⟨z.at_.set _ _, by simpa using Sl.store z.at_ hs _ _⟩
end Go.Proofs.Ytebbpodcldndjaa
