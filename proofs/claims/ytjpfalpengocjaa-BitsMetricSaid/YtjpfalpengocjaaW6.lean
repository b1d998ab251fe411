/- Contracts of firstNumber, Bytes, Words and of their specifications. -/
import Derived.Test.YtjpfalpengocjaaW5
import Derived.Test.YtjpfalpengocjaaPure2
set_option linter.unusedVariables false
namespace Go.Proofs.Ytjpfalpengocjaa
open Go.RowKit

theorem pw_short (l : List Bool) (s : Nat) (fill : Bool) (h : s ≤ l.length) : pw l 0 s fill = l.take s := by
  unfold pw
  rw [show s - (l.length - 0) = 0 by omega]
  simp
theorem pw_long (l : List Bool) (s t : Nat) (fill : Bool) (h : l.length ≤ t) (ht : t ≤ s) : (pw l 0 s fill).take t = l ++ List.replicate (t - l.length) fill := by
  unfold pw
  rw [List.drop_zero, List.take_of_length_le (by omega : l.length ≤ s), List.take_append, List.take_of_length_le h, List.take_replicate]
  congr 2
  omega

theorem firstNumber_any (A : Option Addr) (n c B : Nat) (l : List Bool) (s : Nat) (fill : Bool) (w : World) (hs : Sl w B A n c (bl l)) (hsz : s ≤ 62) :
    Calls Try.prog 40 #[.slice A n c, .int .i64 s, .bool fill] w fun e w' => e = .returned (.int .i64 (num (pw l 0 s fill) : Nat)) ∧ w = w' := by
  have hl : l.length = n := by rw [← length_bl]; exact hs.len
  have hmax := hs.max
  have hle := hs.le
  unfold maxLen at hmax
  by_cases hsn : s ≤ n
  · have hcut := hs.pre hsn
    rw [show (bl l).take s = bl (l.take s) by simp [bl]] at hcut
    rw [pw_short l s fill (by omega)]
    go_enter Try.func40, Try.ntmps40
    go_wp2_with fail
    refine (number_any _ _ _ _ _ _ hcut hsz).mono ?_
    rintro e w' ⟨rfl, rfl⟩
    go_wp2
    refine wp_loop_once ?_
    go_wp2
    go_ret
    exact ⟨rfl, rfl⟩
  · have hnum := Lib.hid (show num ((pw l 0 s fill).take n) = num l by rw [pw_long l s n fill (by omega) (by omega)]; simp [hl])
    go_enter Try.func40, Try.ntmps40
    go_wp2_with fail
    refine (number_any _ _ _ _ _ _ hs (by omega)).mono ?_
    rintro e w' ⟨rfl, rfl⟩
    go_wp2
    go_loop [7, 19] (fun v i => ∃ t : Nat, n + t ≤ s ∧ i = .int .i64 t ∧ v = .int .i64 (num ((pw l 0 s fill).take (n + t)) : Nat)) (fun _ i => s - (intOf i).toNat)
    case atStart => exact ⟨0, by omega, rfl, by rw [Nat.add_zero, hnum.out]⟩
    case round =>
      obtain ⟨t, ht, rfl, rfl⟩ := hrel
      by_cases hlt : n + t < s
      · have HS := Lib.hid (show num ((pw l 0 s fill).take (n + (t + 1))) = 2 * num ((pw l 0 s fill).take (n + t)) + fill.toNat by
          rw [show n + (t + 1) = n + t + 1 by omega, pw_take l 0 s fill (n + t) hlt, num_snoc, if_neg (by omega)])
        have hb1 := num_take_lt' (pw l 0 s fill) (n + t)
        have hp : 2 ^ (n + t) ≤ 2 ^ 61 := Nat.pow_le_pow_right (by omega) (by omega)
        have h61 : (2 : Nat) ^ 61 = 2305843009213693952 := by decide
        have hb2 : num ((pw l 0 s fill).take (n + t)) < 2305843009213693952 := by omega
        clear hb1 hp h61
        go_wp2_with fail
        refine (next_any _ _ _ (by omega) (by omega)).mono ?_
        rintro e w' ⟨rfl, rfl⟩
        go_wp2_with fail
        go_round
        case rel => exact ⟨t + 1, by omega, by go_num, by rw [HS.out]; simp⟩
        case measure => simp [intOf]; omega
      · obtain rfl : s = n + t := by omega
        go_wp2
        go_ret
        exact ⟨retI (by rw [List.take_of_length_le (by rw [length_pw]; omega)]), rfl⟩

/-- bytes as cells -/
def byl (l : List Nat) : List Value := l.map fun (x : Nat) => Value.int .u8 (x : Int)
theorem length_byl (l : List Nat) : (byl l).length = l.length := by simp [byl]
/-- naturals as cells of ints -/
def nl (l : List Nat) : List Value := l.map fun (x : Nat) => Value.int .i64 (x : Int)
theorem length_nl (l : List Nat) : (nl l).length = l.length := by simp [nl]

theorem byteInfo : (Try.prog.info? 5).map (fun i => (i.zero, i.size, i.bytes)) = some (some (.int .u8 0), 1, 1) := by kernel_rfl
theorem intInfo : (Try.prog.info? 3).map (fun i => (i.zero, i.size, i.bytes)) = some (some (.int .i64 0), 1, 8) := by kernel_rfl

/-- a call that returns a list of cells in new memory -/
def Gives1 (r : List Value) (w : World) (e : Ending) (w' : World) : Prop :=
  ∃ A c, e = .returned (.slice A r.length c) ∧ Sl w' w'.heap.size A r.length c r ∧ Below w.heap.size w w'
theorem gives1_own {w w' : World} {A : Option Addr} {m c base : Nat} {e : TypeId} {r : List Value} (hl : r.length = m) (hown : w'.ownsRow base e 1 (.slice A m c) m r) (hbel : Below w.heap.size w w') :
    Gives1 r w (.returned (.slice A m c)) w' := by
  subst hl
  exact ⟨A, c, rfl, Sl.of_own hown, hbel⟩

theorem pw_drop (l : List Bool) (p s : Nat) (fill : Bool) : pw (l.drop p) 0 s fill = pw l p s fill := by
  simp [pw, List.length_drop]

theorem words_any (A : Option Addr) (n c : Nat) (l : List Bool) (s : Int) (fill : Bool) (w : World) (hs : Sl w w.heap.size A n c (bl l)) (hn : n ≤ 1048576) (h1 : 1 ≤ s) (h2 : s ≤ 62) :
    Calls Try.prog 30 #[.slice A n c, .int .i64 s, .bool fill] w (Gives (nl (wds l s.toNat fill (cnt n s.toNat))) 0 w) := by
  have hl : l.length = n := by rw [← length_bl]; exact hs.len
  have hmax := hs.max
  have hle := hs.le
  unfold maxLen at hmax
  obtain ⟨k, rfl⟩ := Int.eq_ofNat_of_zero_le (show 0 ≤ s by omega)
  rw [Int.toNat_natCast]
  obtain ⟨i0, hi, hz0, hz1, hz2⟩ := info_parts intInfo
  have hq : (((n : Int) + k - 1) / k) = ((cnt n k : Nat) : Int) := by
    unfold cnt
    rw [Int.natCast_ediv]
    congr 1
    omega
  have hcl := cnt_le n k (by omega)
  go_enter Try.func30, Try.ntmps30
  go_wp2_with (at_make; go_loud (refine wpList_make_own _ rfl _ _ 42 rfl w.heap.size 3 i0 (.int .i64 0) 1 Try.underlying42 hi hz0 hz1 _ _ (((n : Int) + (k : Int) - 1) / (k : Int)) (cnt n k) rfl rfl hq ?b1 ?b2 (Nat.le_refl _) ?_))
  case b1 => rw [hz2]; omega
  case b2 => unfold maxLen; omega
  clear hq
  intro w1 hown1 hgrow1
  have hbel1 : Below w.heap.size w w1 := (Below.refl _ _).grown hgrow1 (Nat.le_refl _) (by simp)
  clear hgrow1
  go_wp2
  go_loopw [8, 9] (fun v i wr => ∃ t p : Nat, Hid (p = k * t ∧ (t = 0 ∨ k * (t - 1) < n)) ∧ p < n + k ∧ t ≤ n ∧ i = .int .i64 p ∧ wr.ownsRow w.heap.size 3 1 v t (nl (wds l k fill t)) ∧ Below w.heap.size w wr)
    (fun _ i _ => n + k - (intOf i).toNat)
  case atStart => exact ⟨0, 0, ⟨by simp, .inl rfl⟩, by omega, by omega, rfl, by simpa [nl, wds] using hown1, hbel1⟩
  case round =>
    obtain ⟨t, p, hp, hpn, htn, rfl, hownr, hbel⟩ := hrel
    have hsz := hbel.size
    clear hown1 hbel1
    by_cases hlt : p < n
    · have htn' : t < n := by
        have := hp.out.1
        have h3 : t ≤ k * t := Nat.le_mul_of_pos_left t (by omega)
        omega
      have hrest := (hs.below hbel).rest (show p ≤ n by omega)
      rw [show (bl l).drop p = bl (l.drop p) by simp [bl]] at hrest
      have hck : ¬ c = p := by omega
      rw [if_neg hck] at hrest
      go_wp2_with (first
        | (go_at_call 40; refine (firstNumber_any _ _ _ _ _ k fill _ hrest (by omega)).mono ?_; rintro e w' ⟨rfl, rfl⟩)
        | (at_builtin; refine wpList_append_own _ rfl _ _ 42 rfl w.heap.size 3 i0 (.int .i64 0) 1 8 Try.underlying42 hi hz0 hz1 hz2 rfl (by decide) _ _ _ rfl (hownr.alloc _) ⟨wr.heap.size, 0, none⟩ 1 1 [.int .i64 ((num (pw (l.drop p) 0 k fill) : Nat) : Int)] rfl rfl ?c1 ?c2 ?c3 ?c4 ?c5 ?_))
      case c1 => exact one_cell_news _
      case c2 => intro u hu; simp at hu; subst hu; rfl
      case c3 => unfold maxLen; omega
      case c4 => omega
      case c5 => simp; omega
      intro v' w2 hown' hgrow _
      have hbel' := below_app hbel hownr hgrow (by omega)
      have hown2 : w2.ownsRow w.heap.size 3 1 v' (t + 1) (nl (wds l k fill (t + 1))) := by
        rw [wds_succ, ← hp.out.1, ← pw_drop]
        simpa [nl] using hown'
      have hp' : Hid (p + k = k * (t + 1) ∧ (t + 1 = 0 ∨ k * (t + 1 - 1) < n)) := ⟨by rw [Nat.mul_succ, hp.out.1], .inr (by rw [Nat.add_sub_cancel, ← hp.out.1]; exact hlt)⟩
      clear hown' hgrow hownr hbel hrest hck hp
      go_wp2
      go_roundw
      case rel => exact ⟨t + 1, p + k, hp', by omega, by omega, by go_num, hown2, hbel'⟩
      case measure => simp [intOf]; omega
    · have hcnt : cnt n k = t := cnt_of n k t (by omega) (by rw [← hp.out.1]; omega) hp.out.2
      have HC := Lib.hid hcnt
      obtain ⟨A2, c2, rfl⟩ := own_slice hownr
      clear hp hcnt
      go_wp2
      go_ret2
      exact gives_own (by rw [length_nl, length_wds, HC.out]) (by rw [HC.out]; exact hownr) hbel

theorem bytes_any (A : Option Addr) (n c : Nat) (l : List Bool) (w : World) (hs : Sl w w.heap.size A n c (bl l)) (hn : n ≤ 1048576) :
    Calls Try.prog 20 #[.slice A n c] w (Gives1 (byl (wds l 8 false (cnt n 8))) w) := by
  have hl : l.length = n := by rw [← length_bl]; exact hs.len
  have hmax := hs.max
  have hle := hs.le
  unfold maxLen at hmax
  obtain ⟨i0, hi, hz0, hz1, hz2⟩ := info_parts byteInfo
  have hq : (((n : Int) + 7) / 8) = ((cnt n 8 : Nat) : Int) := by
    unfold cnt
    omega
  have hcl := cnt_le n 8 (by omega)
  go_enter Try.func20, Try.ntmps20
  go_wp2_with (at_make; go_loud (refine wpList_make_own _ rfl _ _ 33 rfl w.heap.size 5 i0 (.int .u8 0) 1 Try.underlying33 hi hz0 hz1 _ _ (((n : Int) + 7) / 8) (cnt n 8) rfl rfl hq ?b1 ?b2 (Nat.le_refl _) ?_))
  case b1 => rw [hz2]; omega
  case b2 => unfold maxLen; omega
  clear hq
  intro w1 hown1 hgrow1
  have hbel1 : Below w.heap.size w w1 := (Below.refl _ _).grown hgrow1 (Nat.le_refl _) (by simp)
  clear hgrow1
  go_wp2
  go_loopw [3, 4] (fun v i wr => ∃ t p : Nat, Hid (p = 8 * t ∧ (t = 0 ∨ 8 * (t - 1) < n)) ∧ p < n + 8 ∧ t ≤ n ∧ i = .int .i64 p ∧ wr.ownsRow w.heap.size 5 1 v t (byl (wds l 8 false t)) ∧ Below w.heap.size w wr)
    (fun _ i _ => n + 8 - (intOf i).toNat)
  case atStart => exact ⟨0, 0, ⟨by simp, .inl rfl⟩, by omega, by omega, rfl, by simpa [byl, wds] using hown1, hbel1⟩
  case round =>
    obtain ⟨t, p, hp, hpn, htn, rfl, hownr, hbel⟩ := hrel
    have hsz := hbel.size
    clear hown1 hbel1
    by_cases hlt : p < n
    · have htn' : t < n := by
        have := hp.out.1
        have h3 : t ≤ 8 * t := Nat.le_mul_of_pos_left t (by omega)
        omega
      have hrest := (hs.below hbel).rest (show p ≤ n by omega)
      rw [show (bl l).drop p = bl (l.drop p) by simp [bl]] at hrest
      have hck : ¬ c = p := by omega
      rw [if_neg hck] at hrest
      have h8 := num_pw_lt (l.drop p) 0 8 false
      rw [show (2 : Nat) ^ 8 = 256 by decide] at h8
      go_wp2_with (first
        | (go_at_call 40; refine (firstNumber_any _ _ _ _ _ 8 false _ hrest (by omega)).mono ?_; rintro e w' ⟨rfl, rfl⟩)
        | (at_builtin; refine wpList_append_own _ rfl _ _ 33 rfl w.heap.size 5 i0 (.int .u8 0) 1 1 Try.underlying33 hi hz0 hz1 hz2 rfl (by decide) _ _ _ rfl (hownr.alloc _) ⟨wr.heap.size, 0, none⟩ 1 1 [.int .u8 ((num (pw (l.drop p) 0 8 false) : Nat) : Int)] rfl rfl ?c1 ?c2 ?c3 ?c4 ?c5 ?_))
      case c1 => exact one_cell_news _
      case c2 => intro u hu; simp at hu; subst hu; rfl
      case c3 => unfold maxLen; omega
      case c4 => omega
      case c5 => simp; omega
      intro v' w2 hown' hgrow _
      have hbel' := below_app hbel hownr hgrow (by omega)
      have hown2 : w2.ownsRow w.heap.size 5 1 v' (t + 1) (byl (wds l 8 false (t + 1))) := by
        rw [wds_succ, ← hp.out.1, ← pw_drop]
        simpa [byl] using hown'
      have hp' : Hid (p + 8 = 8 * (t + 1) ∧ (t + 1 = 0 ∨ 8 * (t + 1 - 1) < n)) := ⟨by rw [Nat.mul_succ, hp.out.1], .inr (by rw [Nat.add_sub_cancel, ← hp.out.1]; exact hlt)⟩
      clear hown' hgrow hownr hbel hrest hck hp
      go_wp2
      go_roundw
      case rel => exact ⟨t + 1, p + 8, hp', by omega, by omega, by go_num, hown2, hbel'⟩
      case measure => simp [intOf]; omega
    · have hcnt : cnt n 8 = t := cnt_of n 8 t (by omega) (by rw [← hp.out.1]; omega) hp.out.2
      have HC := Lib.hid hcnt
      obtain ⟨A2, c2, rfl⟩ := own_slice hownr
      clear hp hcnt
      go_wp2
      go_ret
      exact gives1_own (by rw [length_byl, length_wds, HC.out]) (by rw [HC.out]; exact hownr) hbel
end Go.Proofs.Ytjpfalpengocjaa
