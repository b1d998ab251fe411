/- Contracts: what Format writes is parsed; what Format and Digits refuse. -/
import Derived.Test.YtkcekimgfcdgbaaVj
set_option linter.unusedVariables false
namespace Go.Proofs.Ytkcekimgfcdgbaa
open Go.RowKit

theorem sb_str (p : List Nat) (h : ∀ x ∈ p, x < 256) : sb (str p) = p := by
  unfold sb str
  rw [strOfNums_data, List.map_map, List.map_map]
  conv => rhs; rw [← List.map_id p]
  apply List.map_congr_left
  intro x hx
  have := h x hx
  simp
  omega
theorem str_size (p : List Nat) : (str p).size = p.length := by unfold str; rw [strOfNums_size, List.length_map]
theorem str_list (p : List Nat) : (str p).data.toList = p.map UInt8.ofNat := by
  unfold str
  rw [strOfNums_data, List.map_map]
  apply List.map_congr_left
  intro x _
  simp

/-- the digits that Format writes, without a sign -/
def restS (v : Nat) : List Nat := if v = 0 then [48] else chs (digs 10 v).reverse
theorem fmt_rest (neg : Bool) (v : Nat) : fmtS neg v = (if neg then [45] else []) ++ restS v := rfl
theorem digs_ne {v : Nat} (h : v ≠ 0) : digs 10 v ≠ [] := fun e => h (digs_eq_nil (by omega) e)
theorem top_digs (b : Nat) (hb : 2 ≤ b) : ∀ v : Nat, v ≠ 0 → (digs b v).getLast? ≠ some 0 := by
  intro v
  induction v using Nat.strongRecOn with
  | ind v ih =>
    intro h
    rw [digs_pos hb h]
    by_cases h2 : v / b = 0
    · rw [h2, digs_zero]
      simp
      have : v < b := by
        rcases Nat.lt_or_ge v b with hh | hh
        · exact hh
        · have := Nat.div_pos hh (by omega); omega
      rw [Nat.mod_eq_of_lt this]
      exact h
    · have := ih (v / b) (div_lt_of hb h) h2
      rw [List.getLast?_cons]
      cases hl : (digs b (v / b)).getLast? with
      | none => exact absurd (List.getLast?_eq_none_iff.1 hl) (fun e => h2 (digs_eq_nil hb e))
      | some d => rw [hl] at this; simpa using this
theorem rest_len (v : Nat) : 0 < (restS v).length := by
  unfold restS
  split
  · simp
  · rename_i h
    rw [length_chs, List.length_reverse]
    exact List.length_pos_iff.2 (digs_ne h)
theorem head_rev (b : Nat) (hb : 2 ≤ b) {v : Nat} (h : v ≠ 0) : (digs b v).reverse.getD 0 0 ≠ 0 := by
  have h1 := top_digs b hb v h
  rw [List.getD_eq_getElem?_getD]
  have : (digs b v).reverse[0]? = (digs b v).getLast? := by rw [← List.head?_eq_getElem?, List.head?_reverse]
  rw [this]
  cases hl : (digs b v).getLast? with
  | none => exact absurd (List.getLast?_eq_none_iff.1 hl) (fun e => h (digs_eq_nil hb e))
  | some d => rw [hl] at h1; simpa using h1
theorem rest_dig (v : Nat) : (restS v).all isDig = true := by
  unfold restS
  split
  · decide
  · rw [List.all_eq_true]
    intro x hx
    unfold chs at hx
    obtain ⟨d, hd, rfl⟩ := List.mem_map.1 hx
    have := okD_digs 10 (by omega) v d (by simpa using hd)
    unfold isDig
    exact decide_eq_true ⟨by omega, by omega⟩
theorem rest_byte (v : Nat) : ∀ x ∈ restS v, 48 ≤ x ∧ x ≤ 57 := by
  have := rest_dig v
  rw [List.all_eq_true] at this
  intro x hx
  have := this x hx
  unfold isDig at this
  exact of_decide_eq_true this
theorem decV_chs (l : List Nat) : decV (chs l) = horn 10 l := by
  unfold decV horn chs
  rw [List.foldl_map]
  congr 1
  funext v x
  rw [show 48 + x - 48 = x by omega]
theorem decV_rest (v : Nat) : decV (restS v) = v := by
  unfold restS
  split
  · subst_vars; rfl
  · rw [decV_chs, horn_rev, valD_digs 10 (by omega)]
theorem parse_rest (neg : Bool) (v : Nat) (h0 : neg = true → v ≠ 0) (hl : (restS v).length ≤ 4096) : parseT (restS v) neg = (neg, v, 0) := by
  have h1 := rest_len v
  unfold parseT
  rw [if_neg (by omega), if_neg ?_, if_pos (rest_dig v), decV_rest]
  · cases neg
    · rfl
    · simp [h0 rfl]
  · rintro (h | ⟨h, h2⟩)
    · omega
    · by_cases hv : v = 0
      · subst hv
        rcases h2 with h2 | h2
        · simp [restS] at h2
        · exact h0 h2 rfl
      · unfold restS at h
        rw [if_neg hv, getD_chs _ _ (by rw [List.length_reverse]; exact List.length_pos_iff.2 (digs_ne hv))] at h
        have := head_rev 10 (by omega) hv
        omega
theorem parse_long (neg : Bool) (v : Nat) (hl : 4096 < (restS v).length) : parseT (restS v) neg = (false, 0, 4) := by
  unfold parseT
  rw [if_pos hl]

theorem cut_fmt (neg : Bool) (v : Nat) :
    Hid (∀ W : World, Calls Try.prog 75 #[.string (str (fmtS neg v)), .string { data := #[45] }] W fun e w' => e = .returned (.tuple #[.string (str (restS v)), .bool neg]) ∧ W = w') := by
  have hr := rest_byte v
  have hl := rest_len v
  cases neg
  · refine cut_of _ _ _ ?_ ?_
    all_goals
      rw [str_list, fmt_rest]
      cases h : restS v with
      | nil => rw [h] at hl; simp at hl
      | cons x t =>
        have hx := hr x (by rw [h]; exact List.mem_cons_self ..)
        have hne : ¬ (45 : UInt8) = UInt8.ofNat x := by
          intro e
          have := congrArg UInt8.toNat e
          simp at this
          omega
        first
          | (simp [Lib.trimPrefix, Lib.hasPrefix, hne, str_list]; done)
          | (simp [Lib.hasPrefix, List.isPrefixOf, hne]; done)
  · refine cut_of _ _ _ ?_ ?_
    all_goals
      rw [str_list, fmt_rest]
      simp [Lib.trimPrefix, Lib.hasPrefix, str_list]
theorem parse_fmt (neg : Bool) (v : Nat) (h0 : neg = true → v ≠ 0) (hb : (restS v).length ≤ 9223372036854775807) (W : World) : ∃ q1 q2 q3, ((fmtS neg v).length ≤ 4096 → q1 = neg ∧ q2 = v ∧ q3 = 0) ∧
    Calls Try.prog 39 #[.string (str (fmtS neg v))] W (GiveE q1 q2 q3 W) := by
  have hsb : sb (str (restS v)) = restS v := sb_str _ (fun x hx => by have := rest_byte v x hx; omega)
  by_cases hl : (restS v).length ≤ 4096
  · exact ⟨neg, v, 0, fun _ => ⟨rfl, rfl, rfl⟩, parse_core _ (str (restS v)) neg W (by rw [str_size]; exact hb) _ _ _ (by rw [hsb]; exact parse_rest neg v h0 hl) (cut_fmt neg v)⟩
  · refine ⟨false, 0, 4, fun h => ?_, parse_core _ (str (restS v)) neg W (by rw [str_size]; exact hb) _ _ _ (by rw [hsb]; exact parse_long neg v (by omega)) (cut_fmt neg v)⟩
    rw [fmt_rest, List.length_append] at h
    omega

set_option maxRecDepth 100000 in
theorem format_bad (neg : Bool) (A : Option Addr) (n c : Nat) (l : List Nat) (w : World) (hs : Sl w w.heap.size A n c (ml l)) (hok : Ok l) (hv : validB neg l = false) :
    Calls Try.prog 41 #[.agg #[.bool neg, .slice A n c]] w fun e w' => e = .returned (.string { data := #[] }) ∧ Below w.heap.size w w' := by
  have hb0 := below_new w (.cells #[.bool neg, .slice A n c] 24)
  have h1 := hs.next hb0
  clear hs
  go_enter Try.func41, Try.ntmps41
  go_wp2_with fail
  refine (valid_false hv hok h1).mono ?_
  rintro e w1 ⟨rfl, hb1⟩
  go_wp2
  go_ret
  exact ⟨rfl, below_step hb0 hb1⟩
set_option maxRecDepth 100000 in
theorem digits_neg (A : Option Addr) (n c v : Nat) (b : Int) (w : World) (hs : Sl w w.heap.size A n c (ml (enc v))) (hva : Vd true v) :
    Calls Try.prog 43 #[.agg #[.bool true, .slice A n c], .int .i64 b] w fun e w' => e = .returned (.tuple #[.slice none 0 0, .int .i64 1]) ∧ Below w.heap.size w w' := by
  have HA := At.new w (.bool true) (.slice A n c)
  have hb0 := below_new w (.cells #[.bool true, .slice A n c] 24)
  have h1 := hs.next hb0
  clear hs
  go_enter Try.func43, Try.ntmps43
  go_wp2_with fail
  refine (valid_true hva h1).mono ?_
  rintro e w1 ⟨rfl, hb1⟩
  obtain ⟨a1, a2, _, _⟩ := (HA.next hb1).facts
  go_wp2
  go_ret2
  exact ⟨rfl, below_step hb0 hb1⟩
end Go.Proofs.Ytkcekimgfcdgbaa
