/- ChecksumNils, ChecksumJoins and ChecksumAssociative return true for every argument. No condition. -/
import Derived.Test.YtkpnihapcoiepaaLc
set_option linter.unusedVariables false
namespace Go.Proofs.Ytkpnihapcoiepaa
open Go.RowKit

set_option maxRecDepth 100000 in
theorem law_nils (A : Option Addr) (n c : Nat) (l : List Nat) (w : World) (hs : Sl w w.heap.size A n c (byl l)) (hb : Byt l) :
    Calls Try.prog 10 #[.slice A n c] w fun e w' => e = .returned (.bool true) ∧ Below w.heap.size w w' := by
  have hB := below_new w (.cells #[.bool false, .int .u32 0, .int .i64 0] 48)
  have hz : NoDg (w.alloc (.cells #[.bool false, .int .u32 0, .int .i64 0] 48)) (some ⟨w.heap.size, 0, none⟩) := .inr ⟨_, rfl, by simp⟩
  have hn : NoDg (w.alloc (.cells #[.bool false, .int .u32 0, .int .i64 0] 48)) none := .inl rfl
  go_enter Try.func10, Try.ntmps10
  go_wp2_with fail
  refine (write_no _ _ _ _ _ hn).mono ?_
  rintro e w' ⟨rfl, rfl⟩
  go_wp2_with fail
  refine (write_no _ _ _ _ _ hz).mono ?_
  rintro e w' ⟨rfl, rfl⟩
  go_wp2_with fail
  refine (sum_no _ _ hn).mono ?_
  rintro e w' ⟨rfl, rfl⟩
  go_wp2_with fail
  refine (sum_no _ _ hz).mono ?_
  rintro e w' ⟨rfl, rfl⟩
  go_wp2_with fail
  refine (len_no _ _ hn).mono ?_
  rintro e w' ⟨rfl, rfl⟩
  go_wp2_with fail
  refine (len_no _ _ hz).mono ?_
  rintro e w' ⟨rfl, rfl⟩
  go_wp2_with fail
  refine (clone_no _ _ hn).mono ?_
  rintro e w' ⟨rfl, rfl⟩
  go_wp2_with fail
  refine (clone_no _ _ hz).mono ?_
  rintro e w' ⟨rfl, rfl⟩
  go_wp2_with fail
  refine (examples_any _).mono ?_
  rintro e w2 ⟨rfl, hb2⟩
  go_wp2
  go_ret
  exact ⟨rfl, below_step hB hb2⟩

theorem byl_append (l m : List Nat) : byl (l ++ m) = byl l ++ byl m := by simp [byl]
theorem byt_append {l m : List Nat} (h : Byt l) (k : Byt m) : Byt (l ++ m) := fun y hy => (List.mem_append.1 hy).elim (h y) (k y)
set_option maxRecDepth 100000 in
theorem law_joins (A : Option Addr) (n c : Nat) (l : List Nat) (A' : Option Addr) (n' c' : Nat) (l' : List Nat) (w : World) (hs : Sl w w.heap.size A n c (byl l)) (hb : Byt l) (hs' : Sl w w.heap.size A' n' c' (byl l')) (hb' : Byt l') :
    Calls Try.prog 7 #[.slice A n c, .slice A' n' c'] w fun e w' => e = .returned (.bool true) ∧ Below w.heap.size w w' := by
  have hmax := hs.max
  have hle := hs.le
  have hmax' := hs'.max
  have hle' := hs'.le
  unfold maxLen at hmax hmax'
  have hexit : ∀ w0 : World, Below w.heap.size w w0 → Calls Try.prog 16 #[] w0 fun e w' => e = .returned (.bool true) ∧ Below w.heap.size w w' :=
    fun w0 h0 => (examples_any w0).mono fun _ _ ⟨he, hb⟩ => ⟨he, below_step h0 hb⟩
  by_cases hn : n ≤ 2000 ∧ n' ≤ 2000
  · obtain ⟨hn1, hn2⟩ := hn
    have hl' : l'.length = n' := by rw [← length_byl]; exact hs'.len
    obtain ⟨i0, hi, hz0, hz1, hz2⟩ := info_parts byteInfo
    have HJ := Lib.hid (crc32_append l l')
    have hown0 := World.ownsRow_nil w w.heap.size 5 1
    go_enter Try.func7, Try.ntmps7
    go_wp2_with (at_builtin; refine wpList_append_slice rfl (.tmp 17) (.tmp 18) 22 rfl w.heap.size 5 i0 (.int .u8 0) 1 Try.underlying22 hi hz0 hz1 hz2 rfl _ 0 [] rfl hown0 w.heap.size A n c (byl l) rfl hs (one_byl l) (by unfold maxLen; omega) (by omega) (by simp) ?_)
    intro v1 w1 hown1 hgrow1
    have hB1 : Below w.heap.size w w1 := (Below.refl _ _).grown hgrow1 (by simp) (fun k hk => (hown0.lt k hk).1)
    have hs'1 := hs'.below hB1
    have hw1 := hB1.size
    clear hgrow1 hown0
    go_wp2_with (at_builtin; refine wpList_append_slice rfl (.tmp 20) (.tmp 21) 22 rfl w.heap.size 5 i0 (.int .u8 0) 1 Try.underlying22 hi hz0 hz1 hz2 rfl _ n (byl l) rfl hown1 w.heap.size A' n' c' (byl l') rfl hs'1 (one_byl l') (by unfold maxLen; omega) (by omega) hw1 ?_)
    intro v2 w2 hown2 hgrow2
    have hB2 : Below w.heap.size w w2 := hB1.grown hgrow2 hw1 (fun k hk => (hown1.lt k hk).1)
    obtain ⟨A2, c2, rfl⟩ := own_slice hown2
    have hs2 := Sl.of_own hown2
    rw [← byl_append] at hs2
    replace hs := hs.next hB2
    replace hs' := hs'.next hB2
    clear hgrow2 hown2 hown1 hB1 hw1 hs'1
    go_wp2_with fail
    refine (crc32_any _ _ _ l _ hs hb).mono ?_
    rintro e w3 ⟨rfl, hb3⟩
    replace hs' := hs'.next hb3
    replace hs2 := hs2.next hb3
    replace hB2 := below_step hB2 hb3
    clear hb3 hs
    go_wp2_with fail
    refine (crc32_any _ _ _ l' _ hs' hb').mono ?_
    rintro e w4 ⟨rfl, hb4⟩
    replace hs2 := hs2.next hb4
    replace hB2 := below_step hB2 hb4
    clear hb4 hs'
    go_wp2_with fail
    refine (combine_any _ _ n' (by omega) _).mono ?_
    rintro e w' ⟨rfl, rfl⟩
    rw [show comb (crc32 l) (crc32 l') n' = crc32 (l ++ l') by rw [HJ.out]; unfold comb pow8; rw [hl']]
    go_wp2_with fail
    refine (crc32_any _ _ _ (l ++ l') _ hs2 (byt_append hb hb')).mono ?_
    rintro e w5 ⟨rfl, hb5⟩
    replace hB2 := below_step hB2 hb5
    clear hb5 hs2
    go_wp2_with fail
    refine (hexit _ hB2).mono ?_
    rintro e w6 ⟨rfl, hb6⟩
    go_wp2
    go_ret
    exact ⟨rfl, hb6⟩
  · by_cases hn1 : n ≤ 2000
    · have hn2 : 2000 < n' := by omega
      clear hn
      go_enter Try.func7, Try.ntmps7
      go_wp2_with fail
      refine (hexit _ (Below.refl _ _)).mono ?_
      rintro e w6 ⟨rfl, hb6⟩
      go_wp2
      go_ret
      exact ⟨rfl, hb6⟩
    · have hn2 : 2000 < n := by omega
      clear hn hn1
      go_enter Try.func7, Try.ntmps7
      go_wp2_with fail
      refine (hexit _ (Below.refl _ _)).mono ?_
      rintro e w6 ⟨rfl, hb6⟩
      go_wp2
      go_ret
      exact ⟨rfl, hb6⟩

set_option maxRecDepth 100000 in
theorem law_associative (a b d n m : Int) (w : World) (ha : 0 ≤ a ∧ a ≤ 4294967295) (hb : 0 ≤ b ∧ b ≤ 4294967295) (hd : 0 ≤ d ∧ d ≤ 4294967295) (hn : 0 ≤ n ∧ n ≤ 4294967295) (hm : 0 ≤ m ∧ m ≤ 4294967295) :
    Calls Try.prog 8 #[.agg #[.int .u32 a, .int .u32 b, .int .u32 d], .int .u32 n, .int .u32 m] w fun e w' => e = .returned (.bool true) ∧ Below w.heap.size w w' := by
  obtain ⟨x, rfl⟩ := bv_of a ha
  obtain ⟨y, rfl⟩ := bv_of b hb
  obtain ⟨z, rfl⟩ := bv_of d hd
  obtain ⟨i, hi⟩ : ∃ i : Nat, n % 2147483648 = (i : Int) := ⟨(n % 2147483648).toNat, by omega⟩
  obtain ⟨k, hk⟩ : ∃ k : Nat, m % 2147483648 = (k : Int) := ⟨(m % 2147483648).toNat, by omega⟩
  have hi2 : i < 2147483648 := by omega
  have hk2 : k < 2147483648 := by omega
  obtain ⟨hn1, hn2⟩ := hn
  obtain ⟨hm1, hm2⟩ := hm
  clear ha hb hd
  have hB := below_new w (.cells #[.int .u32 (x.toNat : Int), .int .u32 (y.toNat : Int), .int .u32 (z.toNat : Int)] 34)
  have HA : Hid (comb (comb x y i) z k = comb x (comb y z k) (i + k)) := by
    show comb (comb x y i) z k = comb x (comb y z k) (i + k)
    unfold comb pow8
    rw [sts_lin st_lin, ← sts_add, ← Nat.mul_add, Nat.add_comm k i]
    ac_rfl
  go_enter Try.func8, Try.ntmps8
  go_wp2_with fail
  refine (combine_any x y i (by omega) _).mono ?_
  rintro e w' ⟨rfl, rfl⟩
  go_wp2_with fail
  refine (combine_any (comb x y i) z k (by omega) _).mono ?_
  rintro e w' ⟨rfl, rfl⟩
  go_wp2_with fail
  refine (combine_any y z k (by omega) _).mono ?_
  rintro e w' ⟨rfl, rfl⟩
  go_wp2_with fail
  refine (combine_any x (comb y z k) (i + k) (by omega) _).mono ?_
  rintro e w' ⟨rfl, rfl⟩
  rw [← HA.out]
  go_wp2_with fail
  refine (examples_any _).mono ?_
  rintro e w2 ⟨rfl, hb2⟩
  go_wp2
  go_ret
  exact ⟨rfl, below_step hB hb2⟩
end Go.Proofs.Ytkpnihapcoiepaa
