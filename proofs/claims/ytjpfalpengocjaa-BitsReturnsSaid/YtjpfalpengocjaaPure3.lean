/- What Bytes, Format and Words make is read back. -/
import Derived.Test.YtjpfalpengocjaaW9
import Derived.Test.YtjpfalpengocjaaWb
import Derived.Test.YtjpfalpengocjaaW8
set_option linter.unusedVariables false
namespace Go.Proofs.Ytjpfalpengocjaa

theorem bitI_num (m : List Bool) (j : Nat) (hj : j < m.length) : bitI (num m) (m.length - 1 - j) = m.getD j false := by
  have h := getD_lowI (num m) m.length j hj
  rw [lowI_num, List.getElem?_eq_getElem hj] at h
  injection h with h
  rw [← h]
  simp [List.getD, hj]
theorem getD_wds (l : List Bool) (s : Nat) (fill : Bool) (k i : Nat) (h : i < k) : (wds l s fill k).getD i 0 = num (pw l (s * i) s fill) := by
  simp [wds, List.getD, h]
theorem cnt_bound (n s : Nat) (hs : 0 < s) : n ≤ s * cnt n s ∧ s * cnt n s < n + s := by
  unfold cnt
  have h1 := Nat.div_add_mod (n + s - 1) s
  have h2 := Nat.mod_lt (n + s - 1) hs
  omega
theorem bitB_wds (l : List Bool) (i : Nat) (hi : i < l.length) : bitB (wds l 8 false (cnt l.length 8)) i = l.getD i false := by
  have hb := cnt_bound l.length 8 (by omega)
  have h8 : i / 8 < cnt l.length 8 := by omega
  unfold bitB
  rw [getD_wds l 8 false _ _ h8]
  have h := bitI_num (pw l (8 * (i / 8)) 8 false) (i % 8) (by rw [length_pw]; omega)
  rw [length_pw] at h
  rw [show 7 - i % 8 = 8 - 1 - i % 8 by omega, h]
  have hp := pw_at l (8 * (i / 8)) 8 false (i % 8) (by omega)
  rw [show 8 * (i / 8) + i % 8 = i by omega, if_pos hi] at hp
  rw [List.getD, hp]
  rfl
theorem bytes_back (l : List Bool) : bitsB (wds l 8 false (cnt l.length 8)) l.length = l := by
  apply List.ext_getElem?
  intro i
  by_cases hi : i < l.length
  · rw [List.getElem?_eq_getElem hi]
    simp only [bitsB, List.getElem?_map, List.getElem?_range hi, Option.map_some]
    rw [bitB_wds l i hi]
    simp [List.getD, hi]
  · rw [List.getElem?_eq_none (by rw [length_bitsB]; omega), List.getElem?_eq_none (by omega)]
theorem fromBytes_back (l : List Bool) (h : l.length ≤ 1048576) : fromBytesS (wds l 8 false (cnt l.length 8)) l.length = (l, 0) := by
  have hb := cnt_bound l.length 8 (by omega)
  unfold fromBytesS
  rw [if_neg (by omega), if_neg (by omega), if_neg (by rw [length_wds]; omega), Int.toNat_natCast, bytes_back]
theorem wds_lt (l : List Bool) (s : Nat) (fill : Bool) (k : Nat) : ∀ x ∈ wds l s fill k, x < 2 ^ s := by
  intro x hx
  obtain ⟨i, _, rfl⟩ := List.mem_map.1 hx
  exact num_pw_lt _ _ _ _

theorem sb_str (p : List Nat) (h : ∀ x ∈ p, x < 256) : sb (str p) = p := by
  have e : (str p).data.toList = p.map fun x => UInt8.ofNat x := by
    unfold str
    rw [strOfNums_data, List.map_map]
    rfl
  unfold sb
  rw [e, List.map_map]
  conv => rhs; rw [← List.map_id p]
  apply List.map_congr_left
  intro x hx
  have := h x hx
  simp [Function.comp]
  omega
theorem size_str (p : List Nat) : (str p).size = p.length := by
  unfold str
  rw [strOfNums_size, List.length_map]
theorem parse_back (l : List Bool) (h : l.length ≤ 1048576) : parseS (str (chs l)) = (l, 0) := by
  have h2 : ∀ x ∈ chs l, x = 48 ∨ x = 49 := by
    intro x hx
    obtain ⟨b, _, rfl⟩ := List.mem_map.1 hx
    cases b <;> simp
  have hsb := sb_str (chs l) (fun x hx => by have := h2 x hx; omega)
  unfold parseS
  rw [if_neg (by rw [size_str, length_chs]; omega), hsb]
  have hall : (chs l).all isBit = true := by
    rw [List.all_eq_true]
    intro x hx
    have := h2 x hx
    simp only [isBit, decide_eq_true_eq]
    omega
  rw [if_pos hall]
  congr 1
  unfold chs
  rw [List.map_map]
  conv => rhs; rw [← List.map_id l]
  apply List.map_congr_left
  intro b _
  cases b <;> rfl

/-- naturals as integers -/
def zs (l : List Nat) : List Int := l.map fun (x : Nat) => (x : Int)
theorem cat_wds (l : List Bool) (k : Nat) (fill : Bool) (t M : Nat) (hM : k * t ≤ l.length + M) : cat k (zs (wds l k fill t)) = (l ++ List.replicate M fill).take (k * t) := by
  induction t with
  | zero => simp [wds, cat, zs]
  | succ t ih =>
    rw [Nat.mul_succ] at hM
    have h1 : cat k (zs (wds l k fill (t + 1))) = cat k (zs (wds l k fill t)) ++ pw l (k * t) k fill := by
      rw [wds_succ]
      unfold cat zs
      rw [List.map_append, List.flatMap_append]
      have := lowI_num (pw l (k * t) k fill)
      rw [length_pw] at this
      simp [this]
    rw [h1, ih (by omega), Nat.mul_succ, List.take_add]
    congr 1
    apply List.ext_getElem?
    intro i
    by_cases hi : i < k
    · rw [pw_at l (k * t) k fill i hi, List.getElem?_take, if_pos hi, List.getElem?_drop]
      by_cases hin : k * t + i < l.length
      · rw [if_pos hin, List.getElem?_append_left hin, List.getElem?_eq_getElem hin]
        simp [List.getD, hin]
      · rw [if_neg hin, List.getElem?_append_right (by omega), List.getElem?_replicate, if_pos (by omega)]
    · rw [List.getElem?_eq_none (by rw [length_pw]; omega), List.getElem?_eq_none (by rw [List.length_take]; omega)]
theorem fromWords_back (l : List Bool) (k : Nat) (fill : Bool) (h1 : 1 ≤ k) (h2 : k ≤ 62) (hl : l.length ≤ 2000) :
    fromWordsS (zs (wds l k fill (cnt l.length k))) k = (l ++ List.replicate (k * cnt l.length k - l.length) fill, 0) := by
  have hb := cnt_bound l.length k (by omega)
  unfold fromWordsS
  have hlen : (zs (wds l k fill (cnt l.length k))).length = cnt l.length k := by simp [zs, length_wds]
  have h3 : ¬ (1048576 / (k : Int) < ((zs (wds l k fill (cnt l.length k))).length : Int)) := by
    rw [hlen]
    have : (cnt l.length k : Int) ≤ 1048576 / (k : Int) := by
      rw [Int.le_ediv_iff_mul_le (by omega), ← Int.natCast_mul, Nat.mul_comm]
      omega
    omega
  have hall : (zs (wds l k fill (cnt l.length k))).all (fits ((k : Nat) : Int).toNat) = true := by
    rw [Int.toNat_natCast, List.all_eq_true]
    intro x hx
    obtain ⟨y, hy, rfl⟩ := List.mem_map.1 hx
    have h5 := wds_lt l k fill _ y hy
    simp only [fits, decide_eq_true_eq]
    refine ⟨by omega, ?_⟩
    have h6 : (y : Int) < ((2 ^ k : Nat) : Int) := by omega
    rwa [Int.natCast_pow] at h6
  rw [if_neg (by omega), if_neg h3, if_pos hall, Int.toNat_natCast]
  have hc := cat_wds l k fill (cnt l.length k) (k * cnt l.length k - l.length) (by omega)
  rw [List.take_of_length_le (by rw [List.length_append, List.length_replicate]; omega)] at hc
  unfold cat at hc
  rw [hc]
end Go.Proofs.Ytjpfalpengocjaa
