/- Several rows of the call's own, side by side: an append onto one leaves the others. -/
import Derived.Test.YtkpnihapcoiepaaKit
import Derived.Maps.AppendAt
namespace Go.Proofs.Ytkpnihapcoiepaa
open Go.RowKit

/-- the row of v2 lies in no block of v's -/
def Far (v v2 : Value) : Prop := v2.ownBlock = none ∨ v2.ownBlock ≠ v.ownBlock
theorem Far.symm {v v2 : Value} (h : Far v v2) : Far v2 v := by
  unfold Far at *
  rcases h with h | h
  · rw [h]
    cases hv : v.ownBlock with
    | none => exact .inl rfl
    | some g => exact .inr (by simp)
  · exact .inr (Ne.symm h)
theorem Far.nil (v : Value) : Far v (.slice none 0 0) := .inl rfl

theorem wpList_append_one_far {P : Program} {wr : World} {ops : Array Oper} {rest : List Oper} {o : Oper} {a : Act} {Q : Exit → Act → World → Prop} (hgd : o.guard = none) (s x : Operand) (t : TypeId)
    (ho : o.op = .call { callee := .builtin .append, args := #[s, x], argTypes := #[t, t] })
    (base : Nat) (e : TypeId) (i : TypeInfo) (z : Value) (bytes : Nat) (ht : P.underlying t = some (.slice e)) (hi : P.info? e = some i) (hz : i.zero = some z)
    (hsize : i.size = 1) (hby : i.bytes = bytes) (hzs : z.cells.size = 1)
    (v : Value) (n : Nat) (xs : List Value) (hs : a.eval s = v) (hown : wr.ownsRow base e 1 v n xs)
    (u : Value) (c : Nat) (hx : a.eval x = .slice (some ⟨wr.heap.size, 0, none⟩) 1 c) (h1 : u.oneCell' = true)
    (h63 : n + 1 ≤ maxLen) (hbytes : (n + 1) * bytes ≤ 140737488355328) (w0 : World) (hbel : Below base w0 wr) (hbase : base ≤ wr.heap.size)
    (h : ∀ v' w', w'.ownsRow base e 1 v' (n + 1) (xs ++ [u]) → Below base w0 w' → (∀ e2 v2 n2 xs2, wr.ownsRow base e2 1 v2 n2 xs2 → Far v v2 → w'.ownsRow base e2 1 v2 n2 xs2 ∧ Far v' v2) → wpList P ops Q rest (a.put o.dst v') w') :
    wpList P ops Q (o :: rest) a (wr.alloc (.cells #[u] e)) := by
  refine wpList_append_own_at _ hgd s x t ho base e i z 1 bytes ht hi hz hsize hby hzs (by decide) v n xs hs (hown.alloc _) ⟨wr.heap.size, 0, none⟩ 1 c [u] hx rfl (one_cell_news u) ?_ h63 hbytes (by simp; omega)
    fun v' w' h2 h3 _ h5 => h v' w' h2 (below_app hbel hown h3 hbase) fun e2 v2 n2 xs2 k1 k2 => ⟨(k1.alloc _).kept h3 k2, ?_⟩
  · intro y hy
    simp at hy
    subst hy
    exact h1
  · unfold Far at *
    rcases h5 with h5 | h5
    · rw [h5]; exact k2
    · rw [h5]
      cases hv : v2.ownBlock with
      | none => exact .inl rfl
      | some g =>
        have := (k1.lt g hv).2
        refine .inr fun e => ?_
        simp at e
        omega
end Go.Proofs.Ytkpnihapcoiepaa
