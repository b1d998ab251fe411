/- Contracts: the division of limbs by a limb. -/
import Derived.Test.YtebbpodcldndjaaWp
import Derived.Test.YtebbpodcldndjaaWl
set_option linter.unusedVariables false
namespace Go.Proofs.Ytebbpodcldndjaa
open Go.RowKit

theorem own_kept {w w' : World} {base B : Nat} {e : TypeId} {v : Value} {n : Nat} {xs : List Value} (h : w.ownsRow base e 1 v n xs) (hb : Below B w w') (hB : ∀ k, v.ownBlock = some k → k < B) : w'.ownsRow base e 1 v n xs := by
  obtain ⟨k1, k2⟩ := h
  refine ⟨k1, ?_⟩
  rcases k2 with k2 | ⟨gg, cap, cur, rfl, k4, k5, k6⟩
  · exact .inl k2
  · exact .inr ⟨gg, cap, cur, rfl, k4, (hb.block gg (hB gg rfl)).trans k5, k6⟩

theorem grown_set (w : World) (a : Addr) (u : Value) : w.grownBy (w.setCell a u) (some a.block) :=
  ⟨rfl, rfl, rfl, by simp, fun k _ hk => heap_setCell_other w a k u (fun e => hk (by rw [e]))⟩
theorem grown_trans {a b c : World} {row : Option Nat} (h : a.grownBy b row) (k : b.grownBy c row) : a.grownBy c row :=
  ⟨k.os.trans h.os, k.tape.trans h.tape, k.output.trans h.output, Nat.le_trans h.size k.size, fun i hi hne => (k.block i (Nat.lt_of_lt_of_le hi h.size) hne).trans (h.block i hi hne)⟩
theorem grown_below {a b : World} (row : Option Nat) (h : Below a.heap.size a b) : a.grownBy b row := ⟨h.os, h.tape, h.output, h.size, fun i hi _ => h.block i hi⟩

/-- what a division by a limb has made: below k the limbs as they were, above it the quotient's; and the rest -/
def Dv (l Q : List Nat) (k by_ rest : Nat) : Prop := Ok Q ∧ Q.length + k = l.length ∧ val Q * by_ + rest = val (l.drop k)
theorem drop_cons (l : List Nat) (k : Nat) (h : k < l.length) : l.drop k = l.getD k 0 :: l.drop (k + 1) := by
  rw [List.drop_eq_getElem_cons h]
  simp [List.getD, h]
theorem div_step {l Q : List Nat} {k by_ rest x v : Nat} (h : Dv l Q (k + 1) by_ rest) (hk : k < l.length) (hx : l.getD k 0 = x) (hxl : x < 4294967296) (hr : rest < by_) (hv : v = x + 4294967296 * rest) :
    v / by_ < 4294967296 ∧ Dv l (v / by_ :: Q) k by_ (v % by_) := by
  have h1 : v / by_ < 4294967296 := by
    rw [Nat.div_lt_iff_lt_mul (by omega), hv]
    have : 4294967296 * (rest + 1) ≤ 4294967296 * by_ := Nat.mul_le_mul_left _ hr
    omega
  refine ⟨h1, Ok.cons h1 h.1, by have := h.2.1; rw [List.length_cons]; omega, ?_⟩
  have e := Nat.div_add_mod v by_
  rw [drop_cons l k hk, hx, val_cons, val_cons, ← h.2.2, Nat.add_mul, Nat.mul_add, Nat.mul_assoc]
  rw [Nat.mul_comm by_] at e
  omega
theorem set_mid (l Q : List Nat) (k q : Nat) (h : k < l.length) : (l.take (k + 1) ++ Q).set k q = l.take k ++ (q :: Q) := by
  rw [take_snoc l k h, List.append_assoc]
  have hk : (l.take k).length = k := by rw [List.length_take]; omega
  rw [List.set_append_right _ _ (by omega), hk, Nat.sub_self]
  rfl
theorem getD_mid (l Q : List Nat) (k : Nat) (h : k < l.length) : (l.take (k + 1) ++ Q).getD k 0 = l.getD k 0 := by
  rw [List.getD_eq_getElem?_getD, List.getElem?_append_left (by rw [List.length_take]; omega), List.getElem?_take, if_pos (by omega), ← List.getD_eq_getElem?_getD]

end Go.Proofs.Ytebbpodcldndjaa
