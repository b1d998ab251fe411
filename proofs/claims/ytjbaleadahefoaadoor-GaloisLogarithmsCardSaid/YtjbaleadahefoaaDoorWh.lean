/- Contracts of galois: the table of logarithms as data. -/
import Derived.Test.YtjbaleadahefoaaDoorWg
set_option linter.unusedVariables false
namespace Go.Proofs.YtjbaleadahefoaaDoor
open Go.RowKit Go.Maps

/-- the table after k rounds -/
def TD (c n q : Int) (Tp : Nat → Nat) : Nat → DataW Unit
  | 0 => .map []
  | k + 1 => (TD c n q Tp k).put (kl c n q (Tp k : Nat)) (.lit (.int .i64 (k : Nat)))
theorem TD.isMap (c n q : Int) (Tp : Nat → Nat) : ∀ k, IsMap (TD c n q Tp k)
  | 0 => isMap_empty
  | k + 1 => (TD.isMap c n q Tp k).put _ _
theorem kl_key (c n q v : Int) : WideAt.IsKeyLit (kl c n q v) := by unfold kl; trivial
theorem TD.miss {c n q : Int} {Tp : Nat → Nat} (hc : I64 c) (hn : I64 n) (hq : I64 q) (hT : ∀ k, Tp k ≤ 4096) (v : Nat) (hv : v ≤ 4096) :
    ∀ k, (∀ j, j < k → ¬ Tp j = v) → Maps.has (TD c n q Tp k) (kl c n q (v : Nat)) = false
  | 0, _ => rfl
  | k + 1, h => by
    have hne : kl c n q (v : Nat) ≠ kl c n q (Tp k : Nat) := fun e => by
      have h1 := hT k
      have := kl_inj hc hn hq (v := ((v : Nat) : Int)) (v' := ((Tp k : Nat) : Int)) ⟨by omega, by omega⟩ ⟨by omega, by omega⟩ e
      exact h k (Nat.lt_succ_self k) (by omega)
    show Maps.has ((TD c n q Tp k).put _ _) _ = false
    rw [has_put_other hne]
    exact TD.miss hc hn hq hT v hv k fun j hj => h j (by omega)
theorem TD.hit {c n q : Int} {Tp : Nat → Nat} (hc : I64 c) (hn : I64 n) (hq : I64 q) (hT : ∀ k, Tp k ≤ 4096) (z : DataW Unit) (j : Nat) :
    ∀ k, j < k → (∀ i, i < k → Tp i = Tp j → i = j) → Maps.has (TD c n q Tp k) (kl c n q (Tp j : Nat)) = true ∧ (TD c n q Tp k).atKey (kl c n q (Tp j : Nat)) z = .lit (.int .i64 (j : Nat))
  | 0, h, _ => by omega
  | k + 1, h, hi => by
    by_cases he : k = j
    · subst he
      exact ⟨has_put_same (TD.isMap c n q Tp k) (kl_key _ _ _ _) _, atKey_put_same (TD.isMap c n q Tp k) (kl_key _ _ _ _) _ _⟩
    · have hne : kl c n q (Tp j : Nat) ≠ kl c n q (Tp k : Nat) := fun e => by
        have h1 := hT k
        have h2 := hT j
        have := kl_inj hc hn hq (v := ((Tp j : Nat) : Int)) (v' := ((Tp k : Nat) : Int)) ⟨by omega, by omega⟩ ⟨by omega, by omega⟩ e
        exact he (hi k (Nat.lt_succ_self k) (by omega))
      have ih := TD.hit hc hn hq hT z j k (by omega) fun i hik => hi i (by omega)
      exact ⟨(has_put_other hne _).trans ih.1, (atKey_put_other hne _ _).trans ih.2⟩
theorem Below.ownsMap {w w' : World} {P : Program} {k b m : Nat} {R : Value → Option (DataW Unit × List MemPlace)} {D : DataW Unit} (h : w.ownsMap P k R b m D) (hb : Below w.heap.size w w') : w'.ownsMap P k R b m D := by
  have hlt := h.lt
  obtain ⟨es, clock, h1, F, hs, hD⟩ := h
  exact ⟨es, clock, (hb.block b hlt).trans h1, F, hs, hD⟩
theorem Below.grown {B : Nat} {W w w' : World} {b : Nat} (h : Below B W w) (hg : w.grownBy w' (some b)) (hB : B ≤ b) (hs : B ≤ w.heap.size) : Below B W w' :=
  ⟨hg.os.trans h.os, hg.tape.trans h.tape, hg.output.trans h.output, Nat.le_trans h.size hg.size, fun i hi => (hg.block i (by omega) (by simp; omega)).trans (h.block i hi)⟩
theorem Ec.grown {w w' : World} {g b : Nat} {c n q v : Int} (h : Ec w g c n q v) (hg : w.grownBy w' (some b)) (hne : ¬ g = b) : Ec w' g c n q v := by
  have hb := hg.block g h.lt (by simp; exact hne)
  have hc : ∀ i, w'.cell? ⟨g, i, none⟩ = w.cell? ⟨g, i, none⟩ := fun i => World.cell?_of_block (a := ⟨g, i, none⟩) hb
  have hf : ∀ i, w'.frozen? ⟨g, i, none⟩ = w.frozen? ⟨g, i, none⟩ := fun i => by simp only [World.frozen?, hb]
  exact ⟨(hc 0).trans h.c0, (hc 1).trans h.c1, (hc 2).trans h.c2, (hc 3).trans h.c3, (hf 0).trans h.f0, (hf 1).trans h.f1, (hf 2).trans h.f2, (hf 3).trans h.f3, Nat.lt_of_lt_of_le h.lt hg.size⟩
end Go.Proofs.YtjbaleadahefoaaDoor
