/- Contracts: FromDigits of valid digits; what Format and Digits refuse. -/
import Derived.Test.YtkcekimgfcdgbaaLa
set_option linter.unusedVariables false
namespace Go.Proofs.Ytkcekimgfcdgbaa
open Go.RowKit

/-- the value of digits, the most significant first -/
def horn (b : Nat) (l : List Nat) : Nat := l.foldl (fun v x => v * b + x) 0
theorem horn_snoc (b : Nat) (l : List Nat) (x : Nat) : horn b (l ++ [x]) = horn b l * b + x := by simp [horn]
theorem horn_rev (b : Nat) (l : List Nat) : horn b l.reverse = valD b l := by
  unfold horn valD
  rw [List.foldl_reverse]
  congr 1
  funext x v
  rw [Nat.mul_comm, Nat.add_comm]
theorem horn_acc (b : Nat) (hb : 1 ≤ b) (l : List Nat) : ∀ v, v ≤ l.foldl (fun v x => v * b + x) v := by
  induction l with
  | nil => intro v; exact Nat.le_refl _
  | cons x l ih =>
    intro v
    refine Nat.le_trans ?_ (ih (v * b + x))
    have : v * 1 ≤ v * b := Nat.mul_le_mul_left v hb
    omega
theorem horn_take (b : Nat) (hb : 1 ≤ b) (l : List Nat) (k : Nat) : horn b (l.take k) ≤ horn b l := by
  conv => rhs; rw [← List.take_append_drop k l]
  unfold horn
  rw [List.foldl_append]
  exact horn_acc b hb _ _
theorem at_nl {w : World} {B : Nat} {A : Option Addr} {n c : Nat} {l : List Nat} (h : Sl w B A n c (nl l)) {k : Nat} (hk : k < n) : ∃ b off, A = some ⟨b, off, none⟩ ∧ b < B ∧ w.cell? ⟨b, off + k, none⟩ = some (.int .i64 ((l.getD k 0 : Nat) : Int)) := by
  have hl : l.length = n := by have := h.len; simpa [nl] using this
  obtain ⟨b, off, e, hb, hc⟩ := h.at_ hk (.int .i64 0)
  refine ⟨b, off, e, hb, ?_⟩
  rw [hc]
  simp [nl, List.getD, show k < l.length by omega]

set_option maxRecDepth 100000 in
set_option maxHeartbeats 1000000 in
theorem fromDigits_ok (A : Option Addr) (n c b V : Nat) (l : List Nat) (w : World) (hs : Sl w w.heap.size A n c (nl l)) (hb : 2 ≤ b) (hb2 : b ≤ 65536) (hn : n ≤ 4096) (hd : OkD b l) (hV : horn b l = V) (hfit : (enc V).length ≤ 512) :
    Calls Try.prog 45 #[.slice A n c, .int .i64 (b : Int)] w (GiveE false V 0 w) := by
  have hl : l.length = n := by have := hs.len; simpa [nl] using this
  have hmax := hs.max
  have hle := hs.le
  unfold maxLen at hmax
  have HL := Lib.hid hl
  have HR := At.new w (.bool false) (.slice none 0 0)
  have hb0 := below_new w (.cells #[.bool false, .slice none 0 0] 24)
  have hB : baseB (b : Int) = true := by unfold baseB; rw [decide_eq_true (by omega), decide_eq_true (by omega)]; rfl
  have HIB := Lib.hid (fun W : World => isBase_any (b : Int) W)
  rw [hB] at HIB
  have HDG : Hid (∀ k, l.getD k 0 < b) := fun k => by
    rcases Nat.lt_or_ge k l.length with hk | hk
    · simp only [List.getD, List.getElem?_eq_getElem hk, Option.getD_some]; exact hd _ (List.getElem_mem _)
    · simp [List.getD, List.getElem?_eq_none hk]; omega
  have HVV := Lib.hid hV
  clear hl hB hV
  go_enter Try.func45, Try.ntmps45
  go_wp2_with fail
  refine (HIB.out _).mono ?_
  rintro e w' ⟨rfl, rfl⟩
  have hs1 := hs.next hb0
  go_wp2
  go_loop [21] (fun i => ∃ k : Nat, k ≤ n ∧ i = .int .i64 k) (fun i => n - (intOf i).toNat)
  case atStart => exact ⟨0, Nat.zero_le _, rfl⟩
  case round =>
    obtain ⟨k, hk, rfl⟩ := hrel
    by_cases hlt : k < n
    · obtain ⟨bb, off, rfl, hbb, hc⟩ := at_nl hs1 hlt
      have hx := HDG.out k
      generalize l.getD k 0 = x at *
      have hx0 : (0 : Int) ≤ (x : Int) := by omega
      have hx1 : (x : Int) < (b : Int) := by omega
      go_wp2
      go_round
      case rel => exact ⟨k + 1, by omega, by go_num⟩
      case measure => simp [intOf]; omega
    · obtain rfl : n = k := by omega
      have HS0 := Lib.hid hs
      clear hs1 hs
      go_wp2
      go_loopw [8, 36] (fun mag i wr => ∃ (k m nm cm : Nat) (Am : Option Addr), mag = .slice Am nm cm ∧ k ≤ n ∧ i = .int .i64 k ∧ nm ≤ 512 ∧ Hid ((enc m).length = nm) ∧ Hid (m = horn b (l.take k)) ∧
          wr.ownsRow (w.heap.size + 1) 63 1 (.slice Am nm cm) nm (ml (enc m)) ∧ Below w.heap.size w wr ∧ w.heap.size + 1 ≤ wr.heap.size ∧ At wr w.heap.size (.bool false) (.slice none 0 0)) (fun _ i _ => n - (intOf i).toNat)
      case atStart => exact ⟨0, 0, 0, 0, none, rfl, Nat.zero_le _, rfl, by omega, Lib.hid (by rw [enc_zero]; rfl), Lib.hid rfl, by rw [enc_zero]; exact World.ownsRow_nil _ _ _ _, hb0, by simp, HR⟩
      case round =>
        obtain ⟨k, m, nm, cm, Am, rfl, hk, rfl, hnm, hem, hm, hom, hbel, hsz, hA⟩ := hrel
        by_cases hlt2 : k < n
        · obtain ⟨bb, off, rfl, hbb, hc⟩ := at_nl (HS0.out.below hbel) hlt2
          have hx := HDG.out k
          have hsn := take_snocD l k (by rw [HL.out]; exact hlt2)
          have HM := Lib.hid (multiplyAdd_own (w.heap.size + 1) Am nm cm b (l.getD k 0) m wr hom (by omega) (by omega) (by omega) hsz (by omega))
          have hm2 : m * b + l.getD k 0 = horn b (l.take (k + 1)) := by rw [hsn, horn_snoc, ← hm.out]
          have hlen2 : (enc (horn b (l.take (k + 1)))).length ≤ 512 := length_le_of (horn_take b (by omega) l (k + 1)) (by rw [HVV.out]; exact hfit)
          rw [hm2] at HM
          have HH : Hid (horn b (l.take (k + 1)) = horn b (l.take (k + 1))) := rfl
          obtain ⟨m2, hm3⟩ : ∃ m2, horn b (l.take (k + 1)) = m2 := ⟨_, rfl⟩
          rw [hm3] at HM hlen2
          have HMM : Hid (m2 = horn b (l.take (k + 1))) := hm3.symm
          obtain ⟨n2, hn2⟩ : ∃ n2, (enc m2).length = n2 := ⟨_, rfl⟩
          rw [hn2] at hlen2
          have HN2 := Lib.hid hn2
          clear hsn hm2 hm3 hn2 hm hem hom HH
          generalize l.getD k 0 = x at *
          have hx0 : (0 : Int) ≤ (x : Int) := by omega
          have hx1 : (x : Int) < (b : Int) := by omega
          have hb3 : (b : Int) ≤ 65536 := by omega
          have hb4 : (2 : Int) ≤ (b : Int) := by omega
          go_wp2_with fail
          refine HM.out.mono ?_
          rintro e W2 ⟨A2, c2, rfl, ho2, hbb2⟩
          rw [HN2.out] at ho2 ⊢
          have hA3 := hA.below hbb2 (by omega)
          have hbel3 := hbel.trans (hbb2.mono (by omega))
          have hsz3 : w.heap.size + 1 ≤ W2.heap.size := by have := hbb2.size; omega
          clear hA hbel hsz hbb2 HM hc
          go_wp2
          go_roundw
          case rel => exact ⟨k + 1, m2, n2, c2, A2, rfl, by omega, by go_num, hlen2, HN2, HMM, ho2, hbel3, hsz3, hA3⟩
          case measure => simp [intOf]; omega
        · obtain rfl : n = k := by omega
          have hmV : m = V := by rw [hm.out, List.take_of_length_le (by rw [HL.out]; omega), HVV.out]
          have HMV := Lib.hid hmV
          have HS := Lib.hid (Sl.of_own hom)
          have hmx := (Sl.of_own hom).max
          have hle6 := (Sl.of_own hom).le
          unfold maxLen at hmx
          clear hmV hm hom
          go_wp2_with fail
          refine (signed_any _ Am nm cm _ (by omega)).mono ?_
          rintro e W2 ⟨rfl, hbb2⟩
          have hA3 := hA.next hbb2
          have hbel3 := below_step hbel hbb2
          have hs7 := HS.out.next hbb2
          obtain ⟨t1, t2, t3, t4⟩ := hA3.facts
          clear hA hbel hbb2
          go_wp2
          refine bodyPost_ret (v := .tuple #[.agg #[.bool false, .slice Am nm cm], .int .i64 0]) (by simp [results, Try.results45, go_sem, t1, t2]) rfl ⟨_, rfl, ?_, by first | exact below_two hbel3 (by omega) _ _ | exact hbel3⟩
          rw [← HMV.out]
          first
            | exact Zi.store hA3 ⟨Am, cm, by rw [hem.out], by rw [hem.out]; exact hs7⟩ _ _
            | exact ⟨Am, cm, by rw [hem.out], by rw [hem.out]; exact hs7⟩
end Go.Proofs.Ytkcekimgfcdgbaa
