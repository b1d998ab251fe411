/- Contracts of Append, and of its specification. -/
import Derived.Test.YtjpfalpengocjaaW2
import Derived.Test.YtjpfalpengocjaaW3
import Derived.Maps.AppendAt
set_option linter.unusedVariables false
namespace Go.Proofs.Ytjpfalpengocjaa
open Go.RowKit

/-- what Append returns -/
def appS (l : List Bool) (v n : Int) : List Bool × Int :=
  if n < 0 ∨ 62 < n then ([], 3) else if 1048576 - n < (l.length : Int) then ([], 4) else (l ++ lowI v n.toNat, 0)

/-- a call that returns a list of cells in new memory, and an error number -/
def Gives (r : List Value) (err : Int) (w : World) (e : Ending) (w' : World) : Prop :=
  ∃ A c, e = .returned (.tuple #[.slice A r.length c, .int .i64 err]) ∧ Sl w' w'.heap.size A r.length c r ∧ Below w.heap.size w w'

theorem gives_none (err : Int) (w : World) : Gives [] err w (.returned (.tuple #[.slice none 0 0, .int .i64 err])) w := ⟨none, 0, rfl, Sl.none_ _ _, Below.refl _ _⟩

theorem gives_own {w w' : World} {A : Option Addr} {m c base : Nat} {e : TypeId} {r : List Value} {err : Int} (hl : r.length = m) (hown : w'.ownsRow base e 1 (.slice A m c) m r) (hbel : Below w.heap.size w w') :
    Gives r err w (.returned (.tuple #[.slice A m c, .int .i64 err])) w' := by
  subst hl
  exact ⟨A, c, rfl, Sl.of_own hown, hbel⟩

theorem append_any (A : Option Addr) (m c : Nat) (l : List Bool) (v n : Int) (w : World) (hs : Sl w w.heap.size A m c (bl l)) :
    Calls Try.prog 13 #[.slice A m c, .int .i64 v, .int .i64 n] w (Gives (bl (appS l v n).1) (appS l v n).2 w) := by
  have hl : l.length = m := by rw [← length_bl]; exact hs.len
  have hmax := hs.max
  have hle := hs.le
  unfold maxLen at hmax
  by_cases h1 : n < 0
  · have hr : appS l v n = ([], 3) := by unfold appS; rw [if_pos (by omega)]
    rw [hr]
    go_enter Try.func13, Try.ntmps13
    go_wp2
    go_ret2
    exact gives_none _ _
  by_cases h2 : 62 < n
  · have hr : appS l v n = ([], 3) := by unfold appS; rw [if_pos (by omega)]
    rw [hr]
    go_enter Try.func13, Try.ntmps13
    go_wp2
    go_ret2
    exact gives_none _ _
  by_cases h3 : 1048576 - n < (m : Int)
  · have hr : appS l v n = ([], 4) := by unfold appS; rw [if_neg (by omega), if_pos (by omega)]
    rw [hr]
    go_enter Try.func13, Try.ntmps13
    go_wp2
    go_ret2
    exact gives_none _ _
  obtain ⟨j, rfl⟩ := Int.eq_ofNat_of_zero_le (show 0 ≤ n by omega)
  have hr : appS l v j = (l ++ lowI v j, 0) := by unfold appS; rw [if_neg (by omega), if_neg (by omega)]; simp
  rw [hr]
  clear hr
  obtain ⟨i0, hi, hz0, hz1, hz2⟩ := info_parts boolInfo
  obtain ⟨cur, hcur⟩ : ∃ cur : Array Value, cur = madeCells (Value.bool false).cells ((m + j) * i0.size) := ⟨_, rfl⟩
  have hcsz : cur.size = m + j := by rw [hcur, size_madeCells, hz1, Nat.mul_one]
  have hmk : (Instr.makeSlice 22 (.int .i64 (m : Int)) (.int .i64 ((m : Int) + (j : Int)))).run Try.prog w = .ok (.slice (some ⟨w.heap.size, 0, none⟩) m (m + j)) (w.alloc (.cells cur 4)) := by
    have h := run_make (P := Try.prog) w 22 4 i0 (.bool false) Try.underlying22 hi hz0 .i64 .i64 (m : Int) ((m : Int) + (j : Int)) (by omega) (by omega) (by rw [hz2]; omega) (by omega)
    rw [show ((m : Int) + (j : Int)).toNat = m + j by omega, Int.toNat_natCast] at h
    rw [hcur]
    exact h
  have HC := Lib.hid hcsz
  clear hcsz hcur
  go_enter Try.func13, Try.ntmps13
  go_wp2_with (with_reducible refine wpList_copy_splice rfl (.tmp 27) (.tmp 28) 22 22 rfl 4 Try.underlying22 (by kernel_rfl) _ _ _ _ _ _ rfl rfl w.heap.size 0 cur.toList 4 ?c1 (bl l) ?c2 ?c3 ?c4 (one_bl l) w.heap.size w ?c5 (Nat.le_refl _) ?_)
  case c1 => simpa using heap_alloc_new w _
  case c2 => rw [length_bl]; simp [hl]
  case c3 =>
    intro hp
    rw [length_bl] at hp
    obtain ⟨b, off, e, hb, hc⟩ := hs.read (by omega)
    refine ⟨_, e, fun i u hu => ?_⟩
    have := hc i u hu
    rw [Addr.add_lit]
    rw [World.cell?_alloc_lt w _ _ hb]
    exact this
  case c4 => rw [length_bl, HC.out]; omega
  case c5 => exact (Below.refl _ _).alloc (Nat.le_refl _) _
  intro w1 hg1 hbel1
  have hg := hg1.out
  have hsz := hbel1.size
  have hlt : w.heap.size < w1.heap.size := (Array.getElem?_eq_some_iff.1 hg).1
  have hown : w1.ownsRow w.heap.size 4 1 (.slice (some ⟨w.heap.size, 0, none⟩) m (m + j)) m (bl l) := by
    refine ⟨by rw [length_bl]; omega, .inr ⟨w.heap.size, m + j, _, rfl, Nat.le_refl _, hg, by omega, by unfold maxLen; omega, ?_, ?_⟩⟩
    · rw [List.size_toArray, length_splice _ _ _ (by rw [length_bl, Array.length_toList (xs := cur), HC.out]; omega), Array.length_toList (xs := cur), HC.out]; omega
    · simp [splice, ← hl, ← length_bl]
  clear hg1 hg hmk
  go_wp2_with fail
  refine (appendLow_any w.heap.size _ m (bl l) v j _ hown (by omega) (by omega) (by omega)).mono ?_
  rintro e w2 ⟨v2, rfl, hown2, hbel2⟩
  obtain ⟨A2, c2, rfl⟩ := own_slice hown2
  go_wp2
  go_ret2
  have hb : bl (l ++ lowI v j) = bl l ++ bl (lowI v j) := by simp [bl]
  rw [← hb] at hown2
  exact gives_own (by simp [bl, length_lowI, hl]) hown2 (hbel1.trans hbel2)

theorem rAppend_any (A : Option Addr) (m c : Nat) (l : List Bool) (v n : Int) (w : World) (hs : Sl w w.heap.size A m c (bl l)) :
    Calls Try.prog 14 #[.slice A m c, .int .i64 v, .int .i64 n] w (Gives (bl (appS l v n).1) (appS l v n).2 w) := by
  have hl : l.length = m := by rw [← length_bl]; exact hs.len
  have hmax := hs.max
  have hle := hs.le
  unfold maxLen at hmax
  by_cases h1 : n < 0
  · have hr : appS l v n = ([], 3) := by unfold appS; rw [if_pos (by omega)]
    rw [hr]
    go_enter Try.func14, Try.ntmps14
    go_wp2
    go_ret2
    exact gives_none _ _
  by_cases h2 : 62 < n
  · have hr : appS l v n = ([], 3) := by unfold appS; rw [if_pos (by omega)]
    rw [hr]
    go_enter Try.func14, Try.ntmps14
    go_wp2
    go_ret2
    exact gives_none _ _
  by_cases h3 : 1048576 - n < (m : Int)
  · have hr : appS l v n = ([], 4) := by unfold appS; rw [if_neg (by omega), if_pos (by omega)]
    rw [hr]
    go_enter Try.func14, Try.ntmps14
    go_wp2
    go_ret2
    exact gives_none _ _
  obtain ⟨j, rfl⟩ := Int.eq_ofNat_of_zero_le (show 0 ≤ n by omega)
  have hr : appS l v j = (l ++ lowI v j, 0) := by unfold appS; rw [if_neg (by omega), if_neg (by omega)]; simp
  rw [hr]
  clear hr
  obtain ⟨i0, hi, hz0, hz1, hz2⟩ := info_parts boolInfo
  go_enter Try.func14, Try.ntmps14
  go_wp2_with (at_builtin; refine wpList_append_slice rfl (.tmp 21) (.tmp 22) 22 rfl w.heap.size 4 i0 (.bool false) 1 Try.underlying22 hi hz0 hz1 hz2 rfl (.slice none 0 0) 0 [] rfl (World.ownsRow_nil _ _ _ _) w.heap.size A m c (bl l) rfl hs (one_bl l) ?c3 ?c4 (Nat.le_refl _) ?_)
  case c3 => unfold maxLen; omega
  case c4 => omega
  intro v1 w1 hown1 hgrow1
  have hbel1 : Below w.heap.size w w1 := (Below.refl _ _).grown hgrow1 (Nat.le_refl _) (by simp [Value.ownBlock])
  clear hgrow1
  go_wp2
  go_loopw [8, 9] (fun v' i wr => ∃ t : Nat, t ≤ j ∧ i = .int .i64 ((j : Int) - 1 - t) ∧ wr.ownsRow w.heap.size 4 1 v' (m + t) (bl l ++ bl ((lowI v j).take t)) ∧ Below w.heap.size w wr)
    (fun _ i _ => (intOf i + 1).toNat)
  case atStart => exact ⟨0, Nat.zero_le _, by simp, by simpa [bl] using hown1, hbel1⟩
  case round =>
    obtain ⟨t, ht, rfl, hownr, hbel⟩ := hrel
    have hsz := hbel.size
    clear hown1 hbel1
    by_cases hlt : t < j
    · go_wp2_with (at_builtin; refine wpList_append_own _ rfl _ _ 22 rfl w.heap.size 4 i0 (.bool false) 1 1 Try.underlying22 hi hz0 hz1 hz2 rfl (by decide) _ _ _ rfl (hownr.alloc _) ⟨wr.heap.size, 0, none⟩ 1 1 [.bool (bits BinOp.and IntKind.i64 (v / 2 ^ (j - 1 - t)) 1 == 1)] rfl rfl ?c1 ?c2 ?c3 ?c4 ?c5 ?_)
      case c1 => exact one_cell_news _
      case c2 => intro u hu; simp at hu; subst hu; rfl
      case c3 => unfold maxLen; omega
      case c4 => omega
      case c5 => simp; omega
      intro v' w2 hown' hgrow _
      have hbel' := below_app hbel hownr hgrow (by omega)
      have hown2 : w2.ownsRow w.heap.size 4 1 v' (m + (t + 1)) (bl l ++ bl ((lowI v j).take (t + 1))) := by
        rw [take_lowI v j t hlt, ← and_bit]
        simpa [bl, Nat.add_assoc] using hown'
      clear hown' hgrow hownr hbel
      go_wp2
      go_roundw
      case rel => exact ⟨t + 1, by omega, by congr 1; omega, hown2, hbel'⟩
      case measure => simp [intOf]; omega
    · obtain rfl : t = j := by omega
      rw [List.take_of_length_le (by rw [length_lowI]; omega)] at hownr
      obtain ⟨A2, c2, rfl⟩ := own_slice hownr
      go_wp2
      go_ret2
      have hb : bl (l ++ lowI v t) = bl l ++ bl (lowI v t) := by simp [bl]
      rw [← hb] at hownr
      exact gives_own (by simp [bl, length_lowI, hl]) hownr hbel
end Go.Proofs.Ytjpfalpengocjaa
