/- BitsReturns returns true for every bit string, every size and every bit. -/
import Derived.Test.YtjpfalpengocjaaWd
import Derived.Test.YtjpfalpengocjaaPure3
set_option linter.unusedVariables false
namespace Go.Proofs.Ytjpfalpengocjaa
open Go.RowKit

theorem nl_zs (p : List Nat) : nl p = il (zs p) := by simp [nl, il, zs]

theorem law_returns (A : Option Addr) (n c : Nat) (l : List Bool) (z : Int) (fill : Bool) (w : World) (hs : Sl w w.heap.size A n c (bl l)) (_ : -9223372036854775808 ≤ z ∧ z ≤ 9223372036854775807) :
    Calls Try.prog 9 #[.slice A n c, .int .i64 z, .bool fill] w fun e w' => e = .returned (.bool true) ∧ Below w.heap.size w w' := by
  have hl : l.length = n := by rw [← length_bl]; exact hs.len
  have hmax := hs.max
  have hle := hs.le
  unfold maxLen at hmax
  by_cases h1 : 2000 < n
  · go_enter Try.func9, Try.ntmps9
    go_wp2_with fail
    refine (alive_any _).mono ?_
    rintro e w2 ⟨rfl, hb2⟩
    go_wp2
    go_ret
    exact ⟨rfl, hb2⟩
  have HL := Lib.hid hl
  have hwl : wt l ≤ n := by have := wt_le l; omega
  have HFB := Lib.hid (fromBytes_back l (by omega))
  have HPB := Lib.hid (parse_back l (by omega))
  rw [hl] at HFB
  clear hl
  go_enter Try.func9, Try.ntmps9
  go_wp2_with fail
  refine (bytes_any _ _ _ l _ hs (by omega)).mono ?_
  rintro e w2 ⟨A2, c2, rfl, hs2, hB⟩
  replace hs := hs.next hB
  go_wp2_with fail
  refine (fromBytes_any _ _ _ (wds l 8 false (cnt n 8)) n _ hs2 (fun x hx => by have := wds_lt l 8 false _ x hx; omega)).mono ?_
  rw [HFB.out]
  intro e w3 h3
  obtain ⟨A3, c3, rfl, hs3, hb3⟩ := gives_out h3 (show (bl l).length = n by rw [length_bl, HL.out])
  replace hs := hs.next hb3
  replace hB := below_step hB hb3
  clear hb3 hs2 h3
  go_wp2_with fail
  refine (format_any _ _ _ l _ hs (by omega)).mono ?_
  rintro e w4 ⟨rfl, hb4⟩
  replace hs := hs.next hb4
  replace hs3 := hs3.next hb4
  replace hB := below_step hB hb4
  clear hb4
  go_wp2_with fail
  refine (parse_any (str (chs l)) _ (by rw [size_str, length_chs, HL.out]; omega)).mono ?_
  rw [HPB.out]
  intro e w5 h5
  obtain ⟨A5, c5, rfl, hs5, hb5⟩ := gives_out h5 (show (bl l).length = n by rw [length_bl, HL.out])
  replace hs := hs.next hb5
  replace hs3 := hs3.next hb5
  replace hB := below_step hB hb5
  clear hb5 h5
  go_wp2_with fail
  refine (same_any _ _ _ _ _ _ l l _ hs hs3).mono ?_
  rw [beq_self_eq_true l]
  rintro e w6 ⟨rfl, hb6⟩
  replace hs := hs.next hb6
  replace hs5 := hs5.next hb6
  replace hB := below_step hB hb6
  clear hb6 hs3
  go_wp2_with fail
  refine (same_any _ _ _ _ _ _ l l _ hs hs5).mono ?_
  rw [beq_self_eq_true l]
  rintro e w7 ⟨rfl, hb7⟩
  replace hs := hs.next hb7
  replace hB := below_step hB hb7
  clear hb7 hs5
  go_wp2_with fail
  refine (weight_any _ _ _ _ l _ hs).mono ?_
  rintro e w' ⟨rfl, rfl⟩
  by_cases hz1 : z < 1
  · have HW := Lib.hid (show wordsS l z fill = ([], 3) by unfold wordsS; rw [if_pos (by omega)])
    go_wp2_with fail
    refine (words_full _ _ _ l z fill _ hs (by omega)).mono ?_
    rw [HW.out]
    rintro e w8 ⟨A8, c8, rfl, hs8, hb8⟩
    replace hB := below_step hB hb8
    clear hb8 hs8 hs
    go_wp2_with fail
    refine (alive_any _).mono ?_
    rintro e w9 ⟨rfl, hb9⟩
    go_wp2
    go_ret
    exact ⟨rfl, below_step hB hb9⟩
  by_cases hz2 : 62 < z
  · have HW := Lib.hid (show wordsS l z fill = ([], 3) by unfold wordsS; rw [if_pos (by omega)])
    go_wp2_with fail
    refine (words_full _ _ _ l z fill _ hs (by omega)).mono ?_
    rw [HW.out]
    rintro e w8 ⟨A8, c8, rfl, hs8, hb8⟩
    replace hB := below_step hB hb8
    clear hb8 hs8 hs
    go_wp2_with fail
    refine (alive_any _).mono ?_
    rintro e w9 ⟨rfl, hb9⟩
    go_wp2
    go_ret
    exact ⟨rfl, below_step hB hb9⟩
  obtain ⟨k, rfl⟩ := Int.eq_ofNat_of_zero_le (show 0 ≤ z by omega)
  have HW := Lib.hid (show wordsS l k fill = (wds l k fill (cnt n k), 0) by unfold wordsS; rw [if_neg (by omega), HL.out]; simp)
  have HF := Lib.hid (fromWords_back l k fill (by omega) (by omega) (by rw [HL.out]; omega))
  rw [HL.out] at HF
  have hcb := cnt_bound n k (by omega)
  obtain ⟨M, hM⟩ : ∃ M, M = k * cnt n k - n := ⟨_, rfl⟩
  rw [← hM] at HF
  have hMk : M < k := by omega
  clear hcb hM
  go_wp2_with fail
  refine (words_full _ _ _ l k fill _ hs (by omega)).mono ?_
  rw [HW.out]
  intro e w8 h8
  obtain ⟨A8, c8, rfl, hs8, hb8⟩ := gives_out h8 (show (nl (wds l k fill (cnt n k))).length = cnt n k by rw [length_nl, length_wds])
  replace hs := hs.next hb8
  replace hB := below_step hB hb8
  rw [nl_zs] at hs8
  clear hb8 h8
  go_wp2_with fail
  refine (fromWords_any _ _ _ (zs (wds l k fill (cnt n k))) k _ hs8).mono ?_
  rw [HF.out]
  intro e w9 h9
  obtain ⟨A9, c9, rfl, hs9, hb9⟩ := gives_out h9 (show (bl (l ++ List.replicate M fill)).length = n + M by rw [length_bl, List.length_append, List.length_replicate, HL.out])
  replace hs := hs.next hb9
  replace hB := below_step hB hb9
  clear hb9 h9 hs8
  have hpre := hs9.pre (show n ≤ n + M by omega)
  rw [show (bl (l ++ List.replicate M fill)).take n = bl l by
    unfold bl
    rw [← List.map_take, List.take_left' HL.out]] at hpre
  have hmax9 := hs9.max
  have hle9 := hs9.le
  unfold maxLen at hmax9
  go_wp2_with fail
  refine (same_any _ _ _ _ _ _ l l _ hpre hs).mono ?_
  rw [beq_self_eq_true l]
  rintro e wa ⟨rfl, hba⟩
  replace hs9 := hs9.next hba
  replace hB := below_step hB hba
  clear hba hpre hs
  go_wp2
  go_loop [15] (fun i => ∃ t : Nat, t ≤ M ∧ i = .int .i64 ((n + t : Nat) : Int)) (fun i => n + M - (intOf i).toNat)
  case atStart => exact ⟨0, Nat.zero_le _, rfl⟩
  case round =>
    obtain ⟨t, ht, rfl⟩ := hrel
    by_cases hlt : t < M
    · obtain ⟨b, off, rfl, hb, hc⟩ := hs9.at_ (show n + t < n + M by omega) (.bool false)
      rw [getD_bl _ (n + t) (by rw [List.length_append, List.length_replicate, HL.out]; omega)] at hc
      rw [show (l ++ List.replicate M fill).getD (n + t) false = fill by
        rw [List.getD, List.getElem?_append_right (by rw [HL.out]; omega), List.getElem?_replicate, if_pos (by rw [HL.out]; omega)]; rfl] at hc
      cases fill
      all_goals
        go_wp2
        go_round
        case rel => exact ⟨t + 1, by omega, by go_num⟩
        case measure => simp [intOf]; omega
    · obtain rfl : t = M := by omega
      go_wp2_with fail
      refine (alive_any _).mono ?_
      rintro e wb ⟨rfl, hbb⟩
      go_wp2
      go_ret
      exact ⟨rfl, below_step hB hbb⟩
end Go.Proofs.Ytjpfalpengocjaa
