/- galois: exponents: the value of Pow, the calculator's power, the power Char is additive. -/
import Derived.Test.YtjbaleadahefoaaDoorYc
import Derived.Test.YtjbaleadahefoaaDoorWt
set_option linter.unusedVariables false
namespace Go.Proofs.YtjbaleadahefoaaDoor
open Go.RowKit

def EA (c n q a b r : Int) : Prop := ∀ w g, Tb w → Kc w g c n q → Calls Tryd.prog 38 #[.pointer (some ⟨g, 0, none⟩), .int .i64 a, .int .i64 b] w fun e w' => e = .returned (.int .i64 r) ∧ Below w.heap.size w w'
def EM (c n q a b r : Int) : Prop := ∀ w g, Tb w → Kc w g c n q → Calls Tryd.prog 39 #[.pointer (some ⟨g, 0, none⟩), .int .i64 a, .int .i64 b] w fun e w' => e = .returned (.int .i64 r) ∧ Below w.heap.size w w'
def EP (c n q a b r : Int) : Prop := ∀ w g, Tb w → Kc w g c n q → Calls Tryd.prog 40 #[.pointer (some ⟨g, 0, none⟩), .int .i64 a, .int .i64 b] w fun e w' => e = .returned (.int .i64 r) ∧ Below w.heap.size w w'
def EV (c n q : Int) (b : Bool) : Prop := ∀ w, Calls Tryd.prog 15 #[.agg #[.int .i64 c, .int .i64 n, .int .i64 q]] w fun e w' => e = .returned (.bool b) ∧ Below w.heap.size w w'
def EE (c n q x : Int) (b : Bool) : Prop := ∀ w, Calls Tryd.prog 37 #[.agg #[.int .i64 c, .int .i64 n, .int .i64 q], .int .i64 x] w fun e w' => e = .returned (.bool b) ∧ Below w.heap.size w w'
/-- what a law of one Ask has in memory -/
structure Ek (W V : World) (g : Nat) (c n q a b k : Int) : Prop where
  A : Ak V g c n q a b k
  hT : Tb V
  hB : Below W.heap.size W V
theorem Ek.next {W V V' : World} {g : Nat} {c n q a b k : Int} (h : Ek W V g c n q a b k) (hb : Below V.heap.size V V') : Ek W V' g c n q a b k :=
  ⟨h.A.next hb, h.hT.next hb, below_step h.hB hb⟩
theorem Ek.drew {W V : World} {g : Nat} {c n q a b k : Int} (h : Ek W V g c n q a b k) : Ek W V.drew g c n q a b k :=
  ⟨⟨h.A.c0, h.A.c1, h.A.c2, h.A.c3, h.A.c4, h.A.c5, h.A.lt⟩, h.hT.keep rfl rfl, h.hB.drew⟩
theorem Ek.cells {W V : World} {g : Nat} {c n q a b k : Int} (h : Ek W V g c n q a b k) : V.cell? ⟨g, 0, none⟩ = some (.int .i64 c) ∧ V.cell? ⟨g, 1, none⟩ = some (.int .i64 n) ∧ V.cell? ⟨g, 2, none⟩ = some (.int .i64 q) ∧ V.cell? ⟨g, 3, none⟩ = some (.int .i64 a) ∧ V.cell? ⟨g, 4, none⟩ = some (.int .i64 b) ∧ V.cell? ⟨g, 5, none⟩ = some (.int .i64 k) :=
  ⟨h.A.c0, h.A.c1, h.A.c2, h.A.c3, h.A.c4, h.A.c5⟩
structure EK (W V : World) (g gk : Nat) (c n q a b k : Int) : Prop where
  E : Ek W V g c n q a b k
  K : Kc V gk c n q
theorem EK.next {W V V' : World} {g gk : Nat} {c n q a b k : Int} (h : EK W V g gk c n q a b k) (hb : Below V.heap.size V V') : EK W V' g gk c n q a b k := ⟨h.E.next hb, h.K.next hb⟩
theorem EK.cells {W V : World} {g gk : Nat} {c n q a b k : Int} (h : EK W V g gk c n q a b k) : V.cell? ⟨g, 0, none⟩ = some (.int .i64 c) ∧ V.cell? ⟨g, 1, none⟩ = some (.int .i64 n) ∧ V.cell? ⟨g, 2, none⟩ = some (.int .i64 q) ∧ V.cell? ⟨g, 3, none⟩ = some (.int .i64 a) ∧ V.cell? ⟨g, 4, none⟩ = some (.int .i64 b) ∧ V.cell? ⟨g, 5, none⟩ = some (.int .i64 k) ∧
    V.cell? ⟨gk, 0, none⟩ = some (.int .i64 c) ∧ V.cell? ⟨gk, 1, none⟩ = some (.int .i64 n) ∧ V.cell? ⟨gk, 2, none⟩ = some (.int .i64 q) ∧ V.cell? ⟨gk, 3, none⟩ = some (.bool true) :=
  ⟨h.E.A.c0, h.E.A.c1, h.E.A.c2, h.E.A.c3, h.E.A.c4, h.E.A.c5, h.K.cells⟩
theorem Ek.new (w : World) (c n q a b k : Int) (hT : Tb w) : Ek w (w.alloc (.cells #[.int .i64 c, .int .i64 n, .int .i64 q, .int .i64 a, .int .i64 b, .int .i64 k] 32)) w.heap.size c n q a b k :=
  ⟨Ak.new w c n q a b k, hT.next (below_new w _), below_new w _⟩
section
variable {c n q x y z : Int}
set_option maxRecDepth 100000 in
theorem cPow_of (HA : ∀ w, Tb w → Calls Tryd.prog 27 #[.agg #[.int .i64 c, .int .i64 n, .int .i64 q], .int .i64 x, .int .i64 y] w fun e w' => e = .returned (.tuple #[.int .i64 z, .int .i64 0]) ∧ Below w.heap.size w w') (w : World) (g : Nat) (hT : Tb w) (hK : Kc w g c n q) :
    Calls Tryd.prog 40 #[.pointer (some ⟨g, 0, none⟩), .int .i64 x, .int .i64 y] w fun e w' => e = .returned (.int .i64 z) ∧ Below w.heap.size w w' := by
  have HAA := Lib.hid (HA w hT)
  clear HA
  obtain ⟨c1, c2, c3, c4⟩ := hK.cells
  go_enter Tryd.func40, Tryd.ntmps40
  go_wp2_with fail
  refine HAA.out.mono ?_
  rintro e w1 ⟨rfl, hb⟩
  have K1 := hK.next hb
  have hf := K1.frozen
  clear hK c1 c2 c3 c4
  obtain ⟨c1, c2, c3, c4⟩ := K1.cells
  go_wp2
  go_ret
  refine ⟨rfl, ?_⟩
  first | rw [K1.id]; exact hb | exact hb
end
theorem tmod_twice (k P : Int) (hP : 1 ≤ P) (h : -P < k.tmod P) : (k.tmod P + P).tmod P = k % P := by
  rw [Int.tmod_eq_emod_of_nonneg (by omega), Int.add_emod_right]
  have h2 := Int.mul_tdiv_add_tmod k P
  calc k.tmod P % P = (P * k.tdiv P + k.tmod P) % P := by rw [Int.mul_add_emod_self_left]
    _ = k % P := by rw [h2]
section
variable {c q : Int} {N : Nat} {T P M : Nat → Nat → Nat} (O : Ops c q N T P M) (G : Grp N T) (hc : I64 c) (hn : I64 (N : Int)) (hq : I64 q) (hV : VF c N q)
include O G
theorem power_at {x : Nat} (hx : x < N) (k : Int) (E : Nat) (hE : k % ((N : Int) - 1) = (E : Int)) (w : World) :
    Calls Tryd.prog 54 #[elV c N q x, .int .i64 k] w fun r w' => r = .returned (elV c N q (pw T x E : Nat)) ∧ Below w.heap.size w w' := by
  have h1 := O.n1
  obtain ⟨t, E', e1, e2, e3, e4, e5⟩ := exp_any O.n1 O.n2 k
  have ht : -((N : Int) - 1) < k.tmod ((N : Int) - 1) := by
    have := Int.lt_tmod_of_pos k (show (0 : Int) < (N : Int) - 1 by omega)
    omega
  have h5 := tmod_twice k ((N : Int) - 1) (by omega) ht
  rw [e1, e2, hE] at h5
  obtain rfl : E' = E := by omega
  have h := power_any T c q N O.n1 O.n2 (fun a b ha hb => ⟨O.tl a b ha hb, O.tc a b ha hb⟩) x hx k t E' e1 e2 e3 e4 e5 w
  rwa [G.pwr_eq 12 _ 1 _ (by omega) G.lt1 hx, G.one_l (G.pw_lt hx _)] at h
include hc hn hq hV
theorem pow_at {x : Nat} (hx : x < N) (hx0 : x ≠ 0) (k : Int) (E : Nat) (hE : k % ((N : Int) - 1) = (E : Int)) (w : World) (hT : Tb w) :
    Calls Tryd.prog 27 #[.agg #[.int .i64 c, .int .i64 N, .int .i64 q], .int .i64 x, .int .i64 k] w fun e w' => e = .returned (.tuple #[.int .i64 (pw T x E : Nat), .int .i64 0]) ∧ Below w.heap.size w w' :=
  Pow_ok c N q x k _ hc hn hq hV ⟨by omega, by omega⟩ (by omega) (fun w => power_at O G hx k E hE w) w hT
theorem powc_at {x C : Nat} (hx : x < N) (hC : 1 ≤ C) (w : World) (hT : Tb w) :
    Calls Tryd.prog 27 #[.agg #[.int .i64 c, .int .i64 N, .int .i64 q], .int .i64 x, .int .i64 (C : Nat)] w fun e w' => e = .returned (.tuple #[.int .i64 (pw T x C : Nat), .int .i64 0]) ∧ Below w.heap.size w w' := by
  have h1 := O.n1
  by_cases h0 : x = 0
  · subst h0
    obtain ⟨C', rfl⟩ : ∃ C', C = C' + 1 := ⟨C - 1, by omega⟩
    have h : pw T 0 (C' + 1) = 0 := G.zero _
    rw [h]
    exact Pow_pos c N q _ hc hn hq hV (by omega) (by omega) w hT
  · have h := pow_at O G hc hn hq hV hx h0 (C : Int) (C % (N - 1)) (by rw [show (N : Int) - 1 = ((N - 1 : Nat) : Int) by omega, Int.natCast_emod]) w hT
    rwa [G.pw_mod hx h0] at h
end
namespace Fld
variable {N : Nat} {T P M : Nat → Nat → Nat} (F : Fld N T P M)
include F
theorem frob2 (h : ∀ z, P z z = 0) {x y : Nat} (hx : x < N) (hy : y < N) : pw T (P x y) 2 = P (pw T x 2) (pw T y 2) := by
  have hs : ∀ v, v < N → pw T v 2 = T v v := fun v hv => by
    show T (T 1 v) v = T v v
    rw [F.toGrp.one_l hv]
  have hp := F.plt hx hy
  have hxx := F.lt hx hx
  have hxy := F.lt hx hy
  have hyy := F.lt hy hy
  rw [hs _ hp, hs _ hx, hs _ hy, F.distr hp hx hy, F.comm hp hx, F.comm hp hy, F.distr hx hx hy, F.distr hy hx hy, F.comm hy hx,
    F.passoc hxx hxy (F.plt hxy hyy), ← F.passoc hxy hxy hyy, h, F.pcomm F.zero_lt hyy, F.pzero hyy]
theorem pw_N {x : Nat} (hx : x < N) : pw T x N = x := by
  have h2 := F.n2
  obtain ⟨k, hk⟩ : ∃ k, N = k + 1 := ⟨N - 1, by omega⟩
  have h : pw T x (k + 1) = T (pw T x k) x := rfl
  by_cases h0 : x = 0
  · subst h0
    rw [hk, h, F.zero]
  · have hf := F.toGrp.fermat hx h0
    rw [show N - 1 = k by omega] at hf
    rw [hk, h, hf]
    exact F.toGrp.one_l hx
theorem frobN {x y : Nat} (hx : x < N) (hy : y < N) : pw T (P x y) N = P (pw T x N) (pw T y N) := by
  rw [F.pw_N (F.plt hx hy), F.pw_N hx, F.pw_N hy]
end Fld
end Go.Proofs.YtjbaleadahefoaaDoor
