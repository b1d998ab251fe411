/- Contracts: the specification's Digits; its short as memory of its own; an append that leaves another slice. -/
import Derived.Test.YtkcekimgfcdgbaaVl
import Derived.Maps.AppendAt
set_option linter.unusedVariables false
namespace Go.Proofs.Ytkcekimgfcdgbaa
open Go.RowKit

/-- a slice that does not lie in a value's row -/
def Apart (A : Option Addr) (v : Value) : Prop := ∀ b off, A = some ⟨b, off, none⟩ → v.ownBlock ≠ some b
theorem Apart.nil (A : Option Addr) : Apart A (.slice none 0 0) := fun b off _ e => by cases e
theorem own_less {w : World} {base B : Nat} {e : TypeId} {v : Value} {n : Nat} {xs : List Value} (h : w.ownsRow base e 1 v n xs) (hB : B ≤ base) : w.ownsRow B e 1 v n xs := by
  obtain ⟨k1, k2⟩ := h
  refine ⟨k1, ?_⟩
  rcases k2 with k2 | ⟨g, cap, cur, h1, h2, h3⟩
  · exact .inl k2
  · exact .inr ⟨g, cap, cur, h1, Nat.le_trans hB h2, h3⟩
/-- memory of one's own lies beside what was there before -/
theorem Apart.own {w w' : World} {B : Nat} {e e' : TypeId} {A : Option Addr} {n c m k : Nat} {v : Value} {xs ys : List Value} (h : w'.ownsRow w.heap.size e 1 (.slice A n c) m xs) (hv : w.ownsRow B e' 1 v k ys) : Apart A v := by
  intro b off hA hb
  subst hA
  have h1 := (h.lt b rfl).1
  have h2 := (hv.lt b hb).2
  omega

theorem wpList_append_one_apart {P : Program} {wr : World} {ops : Array Oper} {rest : List Oper} {o : Oper} {a : Act} {Q : Exit → Act → World → Prop} (hgd : o.guard = none) (s x : Operand) (t : TypeId)
    (ho : o.op = .call { callee := .builtin .append, args := #[s, x], argTypes := #[t, t] })
    (base : Nat) (e : TypeId) (i : TypeInfo) (z : Value) (bytes : Nat) (ht : P.underlying t = some (.slice e)) (hi : P.info? e = some i) (hz : i.zero = some z)
    (hsize : i.size = 1) (hby : i.bytes = bytes) (hzs : z.cells.size = 1)
    (v : Value) (n : Nat) (xs : List Value) (hs : a.eval s = v) (hown : wr.ownsRow base e 1 v n xs)
    (u : Value) (c : Nat) (hx : a.eval x = .slice (some ⟨wr.heap.size, 0, none⟩) 1 c) (h1 : u.oneCell' = true)
    (h63 : n + 1 ≤ maxLen) (hbytes : (n + 1) * bytes ≤ 140737488355328) (w0 : World) (hbel : Below base w0 wr) (hbase : base ≤ wr.heap.size)
    (h : ∀ v' w', w'.ownsRow base e 1 v' (n + 1) (xs ++ [u]) → Below base w0 w' → (∀ A m k ys, Sl wr wr.heap.size A m k ys → Apart A v → Sl w' w'.heap.size A m k ys ∧ (0 < m → Apart A v')) → wpList P ops Q rest (a.put o.dst v') w') :
    wpList P ops Q (o :: rest) a (wr.alloc (.cells #[u] e)) := by
  refine wpList_append_own_at _ hgd s x t ho base e i z 1 bytes ht hi hz hsize hby hzs (by decide) v n xs hs (hown.alloc _) ⟨wr.heap.size, 0, none⟩ 1 c [u] hx rfl (one_cell_news u) ?_ h63 hbytes (by simp; omega)
    fun v' w' h2 h3 _ h5 => h v' w' h2 (below_app hbel hown h3 hbase) fun A m k ys k1 k2 => ⟨?_, ?_⟩
  · intro y hy
    simp at hy
    subst hy
    exact h1
  · refine ⟨k1.len, k1.le, k1.max, k1.nil, fun hm => ?_⟩
    obtain ⟨b, off, rfl, hb, hc⟩ := k1.read hm
    have hs1 : wr.heap.size + 1 ≤ w'.heap.size := by have := h3.size; simpa using this
    refine ⟨b, off, rfl, by omega, fun j y hy => ?_⟩
    have e1 : w'.heap[b]? = wr.heap[b]? := (h3.block b (by simp; omega) (fun e => k2 b off rfl e.symm)).trans (by rw [heap_alloc_old wr _ hb])
    exact (World.cell?_of_block e1).trans (hc j y hy)
  · intro hm b off hA hb
    obtain ⟨b', off', hA', hb', _⟩ := k1.read hm
    rw [hA] at hA'
    injection hA' with hA'
    injection hA' with hbb
    subst hbb
    rcases h5 with h5 | h5
    · exact k2 b off hA (by rw [← h5]; exact hb)
    · rw [h5] at hb
      simp at hb
      omega

set_option maxRecDepth 100000 in
theorem rTrim_own (A : Option Addr) (n c : Nat) (l : List Nat) (w : World) (hs : Sl w w.heap.size A n c (ml l)) (hok : Ok l) (hn : n ≤ 1048577) :
    Calls Try.prog 84 #[.slice A n c] w (OwnM w.heap.size (enc (val l)) w) := by
  have hl : l.length = n := by rw [← length_ml]; exact hs.len
  have hmax := hs.max
  have hle := hs.le
  unfold maxLen at hmax
  obtain ⟨i0, hi, hz0, hz1, hz2⟩ := info_parts limbInfo
  have hbel0 : Below w.heap.size w (w.alloc (.cells #[] 63)) := (Below.refl _ _).alloc (Nat.le_refl _) _
  have hown0 : (w.alloc (.cells #[] 63)).ownsRow w.heap.size 63 1 (.slice (some ⟨w.heap.size, 0, none⟩) 0 0) 0 [] := World.ownsRow_lit w #[] 0 (Nat.le_refl _) (by unfold maxLen; omega) rfl
  go_enter Try.func84, Try.ntmps84
  go_wp2
  go_loop [3] (fun i => ∃ k : Nat, k ≤ n ∧ i = .int .i64 k ∧ Hid (val (l.take k) = val l)) (fun i => (intOf i).toNat)
  case atStart => exact ⟨n, Nat.le_refl _, rfl, Lib.hid (by rw [List.take_of_length_le (by omega)])⟩
  case round =>
    obtain ⟨k, hk, rfl, hv⟩ := hrel
    by_cases h0 : k = 0
    · subst h0
      have he := Lib.hid (enc_cut l 0 hok (by omega) hv.out (.inl rfl))
      have HP := Lib.hid (hs.pre hk)
      go_wp2_with (at_builtin; refine wpList_append_slice rfl _ _ 22 rfl w.heap.size 63 i0 (.int .u32 0) 4 Try.underlying22 hi hz0 hz1 hz2 rfl _ 0 [] rfl hown0 w.heap.size _ _ _ (ml (l.take 0)) rfl ?c0 (one_ml _) (by unfold maxLen; omega) (by omega) (by simp) ?_)
      case c0 => exact Sl.below (by have := HP.out; rw [take_ml] at this; exact this) hbel0
      intro v1 w2 hown2 hgrow2
      have hbel2 : Below w.heap.size w w2 := hbel0.grown hgrow2 (by simp) (fun k hk => (hown0.lt k hk).1)
      obtain ⟨A2, c2, rfl⟩ := own_slice hown2
      clear hgrow2
      go_wp2
      go_ret
      refine ⟨A2, c2, ?_, ?_, hbel2⟩
      · rw [he.out]; rfl
      · rw [he.out]; exact hown2
    obtain ⟨k, rfl⟩ : ∃ j, k = j + 1 := ⟨k - 1, by omega⟩
    have HP := Lib.hid (hs.pre hk)
    obtain ⟨b, off, rfl, hb, hc⟩ := hs.at_ (show k < n by omega) (.int .u32 0)
    rw [getD_ml l k (by omega)] at hc
    by_cases hx : l.getD k 0 = 0
    · have hv' : Hid (val (l.take k) = val l) := Lib.hid (by rw [← hv.out, val_take, hx]; simp)
      rw [hx] at hc
      clear hv
      go_wp2
      go_round
      case rel => exact ⟨k, by omega, by go_num, hv'⟩
      case measure => simp [intOf]
    · have he := Lib.hid (enc_cut l (k + 1) hok (by omega) hv.out (.inr (by rw [Nat.add_sub_cancel]; exact hx)))
      have hx' : (((l.getD k 0 : Nat) : Int) == 0) = false := natB (b := 0) hx
      generalize l.getD k 0 = x at *
      clear hv
      go_wp2_with (at_builtin; refine wpList_append_slice rfl _ _ 22 rfl w.heap.size 63 i0 (.int .u32 0) 4 Try.underlying22 hi hz0 hz1 hz2 rfl _ 0 [] rfl hown0 w.heap.size _ _ _ (ml (l.take (k + 1))) rfl ?c0 (one_ml _) (by unfold maxLen; omega) (by omega) (by simp) ?_)
      case c0 => exact Sl.below (by have := HP.out; rw [take_ml] at this; exact this) hbel0
      intro v1 w2 hown2 hgrow2
      have hbel2 : Below w.heap.size w w2 := hbel0.grown hgrow2 (by simp) (fun k hk => (hown0.lt k hk).1)
      obtain ⟨A2, c2, rfl⟩ := own_slice hown2
      clear hgrow2
      go_wp2
      go_ret
      have hlen : (enc (val l)).length = k + 1 := by rw [he.out, List.length_take]; omega
      refine ⟨A2, c2, by rw [hlen]; rfl, ?_, hbel2⟩
      rw [hlen, he.out]
      have hlt : (l.take (k + 1)).length = k + 1 := by rw [List.length_take]; omega
      simpa using hown2

/-- a call that returns limbs in memory of its own, and a number -/
def Mag2O (l : List Nat) (r : Nat) (w : World) (e : Ending) (w' : World) : Prop :=
  ∃ A c, e = .returned (.tuple #[.slice A l.length c, .int .u64 (r : Int)]) ∧ w'.ownsRow w.heap.size 63 1 (.slice A l.length c) l.length (ml l) ∧ Below w.heap.size w w'
set_option maxRecDepth 100000 in
set_option maxHeartbeats 1000000 in
theorem rShort_own (A : Option Addr) (n c by_ : Nat) (l : List Nat) (w : World) (hs : Sl w w.heap.size A n c (ml l)) (hok : Ok l) (hn : n ≤ 1048576) (hb0 : 0 < by_) (hb : by_ ≤ 65536) :
    Calls Try.prog 81 #[.slice A n c, .int .u64 (by_ : Int)] w (Mag2O (enc (val l / by_)) (val l % by_) w) := by
  have hl : l.length = n := by rw [← length_ml]; exact hs.len
  have hmax := hs.max
  have hle := hs.le
  unfold maxLen at hmax
  obtain ⟨vq, hvq⟩ : ∃ v, val l / by_ = v := ⟨_, rfl⟩
  obtain ⟨vr, hvr⟩ : ∃ v, val l % by_ = v := ⟨_, rfl⟩
  rw [hvq, hvr]
  have HVQ := Lib.hid hvq
  have HVR := Lib.hid hvr
  have HL := Lib.hid hl
  have hz : (List.replicate n 0).length = n := List.length_replicate ..
  have HZ := Lib.hid hz
  clear hvq hvr hl hz
  have hbI0 : (0 : Int) < (by_ : Int) := by omega
  have hbI : (by_ : Int) ≤ 65536 := by omega
  have hbz : ((by_ : Int) == 0) = false := beq_eq_false_iff_ne.2 (by omega)
  obtain ⟨i0, hi, hz0, hz1, hz2⟩ := info_parts limbInfo
  go_enter Try.func81, Try.ntmps81
  go_wp2_with (at_make; refine wpList_make_full _ rfl _ _ 22 rfl w.heap.size 63 i0 (.int .u32 0) 1 Try.underlying22 hi hz0 hz1 _ _ (n : Int) (n : Int) n rfl rfl rfl rfl (by rw [hz2]; omega) (by unfold maxLen; omega) (Nat.le_refl _) ?_)
  intro w1 hown1 hgrow1
  have hbel1 : Below w.heap.size w w1 := (Below.refl _ _).grown hgrow1 (Nat.le_refl _) (by simp)
  rw [toList_madeCells_one, ml_zeros] at hown1
  clear hgrow1
  go_wp2
  go_loopw [7, 8] (fun r i wr => ∃ (k rest : Nat) (Q : List Nat), k ≤ n ∧ i = .int .i64 ((k : Int) - 1) ∧ r = .int .u64 (rest : Int) ∧ rest < by_ ∧ Hid (Dv l Q k by_ rest) ∧ wr.ownsRow w.heap.size 63 1 (.slice (some ⟨w.heap.size, 0, none⟩) n n) n (ml ((List.replicate n 0).take k ++ Q)) ∧ Below w.heap.size w wr)
    (fun _ i _ => (intOf i + 1).toNat)
  case atStart => exact ⟨n, 0, [], Nat.le_refl _, rfl, rfl, hb0, Lib.hid ⟨Ok.nil, by rw [HL.out]; simp, by rw [List.drop_of_length_le (by rw [HL.out]; omega)]; simp [val_nil]⟩, by rw [List.append_nil, List.take_of_length_le (by simp)]; exact hown1, hbel1⟩
  case round =>
    obtain ⟨k, rest, Q, hk, rfl, rfl, hr, hdv, hownr, hbel⟩ := hrel
    have hsz := hbel.size
    clear hown1 hbel1
    by_cases h0 : k = 0
    · subst h0
      have hd := hdv.out
      have hval : val Q * by_ + rest = val l := by simpa using hd.2.2
      have hq : val l / by_ = val Q := by
        rw [← hval, Nat.add_comm, Nat.add_mul_div_right _ _ hb0, Nat.div_eq_of_lt hr, Nat.zero_add]
      have hm : val l % by_ = rest := by
        rw [← hval, Nat.add_comm, Nat.add_mul_mod_self_right, Nat.mod_eq_of_lt hr]
      obtain rfl : vq = val Q := HVQ.out.symm.trans hq
      obtain rfl : vr = rest := HVR.out.symm.trans hm
      rw [List.take_zero, List.nil_append] at hownr
      have HT := Lib.hid (rTrim_own _ n n Q wr (Sl.of_own hownr) hd.1 (by omega))
      clear hd hval hq hm hdv hownr
      go_wp2_with fail
      refine HT.out.mono ?_
      rintro e w3 ⟨A3, c3, rfl, hs3, hb3⟩
      have ho3 := own_less hs3 hsz
      go_wp2
      go_ret2
      exact ⟨A3, c3, rfl, ho3, below_step hbel hb3⟩
    · obtain ⟨k, rfl⟩ : ∃ j, k = j + 1 := ⟨k - 1, by omega⟩
      have hk1 : (((k + 1 : Nat) : Int) - 1) = (k : Int) := by omega
      rw [hk1]
      obtain ⟨x, hx⟩ : ∃ x, l.getD k 0 = x := ⟨_, rfl⟩
      have hxl : x < 4294967296 := by rw [← hx]; exact hok.getD k
      obtain ⟨v, hv0⟩ : ∃ v, v = x + 4294967296 * rest := ⟨_, rfl⟩
      have hrl : rest < 65536 := by omega
      obtain ⟨hq1, hdv'⟩ := div_step hdv.out (by rw [HL.out]; omega) hx hxl hr hv0
      have HD := Lib.hid hdv'
      have hr2 : v % by_ < by_ := Nat.mod_lt _ hb0
      obtain ⟨bb, off, rfl, hbb, hc⟩ := (hs.below hbel).at_ (show k < n by omega) (.int .u32 0)
      rw [getD_ml l k (by rw [HL.out]; omega), hx] at hc
      have hcell2 := hownr.cellAt k (by omega)
      have hfr2 := hownr.frozenAt k
      rw [ml_at _ k (by rw [List.length_append, List.length_take, List.length_replicate]; omega)] at hcell2
      generalize ((List.replicate n 0).take (k + 1) ++ Q).getD k 0 = xx at hcell2
      have h2 := (hownr.stored k (.int .u32 ((v / by_ : Nat) : Int))).1
      rw [ml_set, set_mid (List.replicate n 0) Q k _ (by rw [List.length_replicate]; omega)] at h2
      have H2 := Lib.hid h2
      have HB := Lib.hid (hbel.setCell (p := ⟨w.heap.size, k, none⟩) (Nat.le_refl _) (.int .u32 ((v / by_ : Nat) : Int)))
      have hvI : (rest : Int) * 4294967296 + (x : Int) = (v : Int) := by omega
      have e1 : (v : Int) % (by_ : Int) = ((v % by_ : Nat) : Int) := by rw [← Int.natCast_emod]
      have e2 : (v : Int) / (by_ : Int) = ((v / by_ : Nat) : Int) := by rw [← Int.natCast_ediv]
      have HX := Lib.hid hx
      clear h2 hownr hbel hdv hdv' hx hv0
      generalize v % by_ = vm at *
      generalize v / by_ = vd at *
      go_wp2
      have e3 : (v : Int) / (by_ : Int) % 4294967296 = (vd : Int) := by rw [e2]; omega
      go_roundw
      case rel =>
        rw [e1]
        refine ⟨k, vm, vd :: Q, by omega, rfl, rfl, hr2, HD, ?_, ?_⟩
        · first | exact H2.out | (rw [e3]; exact H2.out) | (rw [e2]; exact H2.out)
        · first | exact HB.out | (rw [e3]; exact HB.out) | (rw [e2]; exact HB.out)
      case measure => simp [intOf]

theorem pow_up (b k : Nat) : b ^ (k + 1) = b ^ k * b := Nat.pow_succ b k
theorem digs_bound (b v : Nat) (hb : 2 ≤ b) (h : (enc v).length ≤ 512) : (digs b v).length ≤ 16384 := by
  obtain ⟨z, hz⟩ : ∃ z, z = 512 := ⟨_, rfl⟩
  rw [← hz] at h
  have h1 := (length_enc_le v z).1 h
  rw [pow_limb] at h1
  exact Nat.le_trans ((length_digs_le b hb v (32 * z)).2 (Nat.lt_of_lt_of_le h1 (Nat.pow_le_pow_left hb _))) (by omega)
theorem rev_step (L : List Nat) (k : Nat) (hk : k < L.length) : (L.drop (k + 1)).reverse ++ [L.getD k 0] = (L.drop k).reverse := by
  rw [List.drop_eq_getElem_cons hk, List.reverse_cons]
  simp [List.getD, hk]
theorem nl_append (a b : List Nat) : nl (a ++ b) = nl a ++ nl b := by simp [nl]

set_option maxRecDepth 100000 in
set_option maxHeartbeats 4000000 in
theorem rDigits_any (A : Option Addr) (n c v base : Nat) (w : World) (hs : Sl w w.heap.size A n c (ml (enc v))) (hva : Vd false v) (hb : 2 ≤ base) (hb2 : base ≤ 65536) (r1 : List Nat) (r2 : Int)
    (HR : Hid (((digsS base v).length ≤ 4096 → r1 = digsS base v ∧ r2 = 0) ∧ (4096 < (digsS base v).length → r1 = [] ∧ r2 = 4))) :
    Calls Try.prog 44 #[.agg #[.bool false, .slice A n c], .int .i64 (base : Int)] w (GiveN r1 r2 w) := by
  have hl : (enc v).length = n := by rw [← length_ml]; exact hs.len
  have hn : n ≤ 512 := by rw [← hl]; exact hva.2
  obtain ⟨i0, hi, hz0, hz1, hz2⟩ := info_parts intInfo
  have HA := At.new w (.bool false) (.slice A n c)
  have hb0 := below_new w (.cells #[.bool false, .slice A n c] 24)
  have h1 := hs.next hb0
  have hbI : (2 : Int) ≤ (base : Int) := by omega
  have hbI2 : (base : Int) ≤ 65536 := by omega
  have hbg1 : decide ((base : Int) < 2) = false := decide_eq_false (by omega)
  have hbg2 : decide ((65536 : Int) < (base : Int)) = false := decide_eq_false (by omega)
  have HNL := Lib.hid hl
  have HDB := Lib.hid (digs_bound base v hb hva.2)
  obtain ⟨K, hK⟩ : ∃ K, (digs base v).length = K := ⟨_, rfl⟩
  rw [hK] at HDB
  have HK := Lib.hid hK
  have hKb := HDB.out
  clear hs hl hK HDB
  go_enter Try.func44, Try.ntmps44
  go_wp2_with fail
  refine (rValid_true hva h1).mono ?_
  rintro e w1 ⟨rfl, hb1⟩
  obtain ⟨a1, a2, _, _⟩ := (HA.next hb1).facts
  have HB1 := below_step hb0 hb1
  have hs1 := h1.next hb1
  clear h1 hb1 hb0 HA
  go_wp2
  go_loopw [6, 7, 8, 9] (fun out mag q9 d9 wr => ∃ (t m nm co cm : Nat) (Ao Am : Option Addr) (L : List Nat), out = .slice Ao t co ∧ mag = .slice Am nm cm ∧ t ≤ K ∧ nm ≤ 512 ∧ Hid ((enc m).length = nm) ∧ Hid (L.length = t ∧ L = (digs base v).take t ∧ m = v / base ^ t) ∧
      wr.ownsRow w.heap.size 3 1 (.slice Ao t co) t (nl L) ∧ Sl wr wr.heap.size Am nm cm (ml (enc m)) ∧ Hid (0 < nm → Apart Am (.slice Ao t co)) ∧ Below w.heap.size w wr)
    (fun out _ _ _ _ => K + 1 - lenOf out)
  case atStart => exact ⟨0, v, n, 0, c, none, A, [], rfl, rfl, by omega, by omega, HNL, Lib.hid ⟨rfl, by simp, by simp⟩, World.ownsRow_nil _ _ _ _, by first | exact hs1 | exact hs1.drew, Lib.hid fun _ => Apart.nil _, by first | exact HB1 | exact HB1.drew⟩
  case round =>
    obtain ⟨t, m, nm, co, cm, Ao, Am, L, rfl, rfl, ht, hnm, hem, hL, hoo, hsm, hap, hbel⟩ := hrel
    clear hs1 HB1 a1 a2
    have hsz := hbel.size
    by_cases hz : nm = 0
    · subst hz
      have hm0 := enc_eq_nil hem.out
      have hLd := digs_done hb hL.out.2.1 (by rw [← hm0]; exact hL.out.2.2)
      have hlen := hL.out.1
      have hdsv : digsS base v = if v = 0 then [0] else L.reverse := by unfold digsS; rw [hLd]
      by_cases ht0 : t = 0
      · subst ht0
        have hL0 := List.eq_nil_of_length_eq_zero hlen
        have hv0 : v = 0 := digs_eq_nil hb (by rw [← hLd, hL0])
        have hD : digsS base v = [0] := by rw [hdsv, if_pos hv0]
        have HRR := Lib.hid (HR.out.1 (by rw [hD]; simp))
        have HD := Lib.hid hD
        clear hdsv hLd hlen hm0 hL hem hsm hap hoo hL0 hv0 hD
        go_wp2
        go_ret2
        rw [HRR.out.1, HRR.out.2, HD.out]
        exact ⟨_, _, rfl, by first | exact nil_new _ | (simpa using nil_new _), by first | exact below_step hbel (below_new _ _) | exact below_step hbel.drew (below_new _ _)⟩
      · have hv0 : v ≠ 0 := by
          rintro rfl
          rw [digs_zero] at hLd
          rw [hLd] at hlen
          exact ht0 hlen.symm
        rw [if_neg hv0] at hdsv
        have hrl : L.reverse.length = t := by rw [List.length_reverse]; exact hlen
        have htI : (0 : Int) < (t : Int) := by omega
        have htB : ((t : Int) == 0) = false := by rw [beq_eq_false_iff_ne]; omega
        by_cases hbig : 4096 < t
        · have HRR := Lib.hid (HR.out.2 (by rw [hdsv, hrl]; exact hbig))
          have hbigI : (4096 : Int) < (t : Int) := by omega
          clear hdsv hLd hlen hm0 hL hem hsm hap hoo hv0 hrl
          go_wp2
          go_ret2
          rw [HRR.out.1, HRR.out.2]
          exact ⟨none, 0, rfl, Sl.none_ _ _, by first | exact hbel | exact hbel.drew⟩
        · have HRR := Lib.hid (HR.out.1 (by rw [hdsv, hrl]; omega))
          have HDS := Lib.hid hdsv
          have HLen := Lib.hid hlen
          have hbigI : (t : Int) ≤ 4096 := by omega
          have hst := Sl.of_own hoo
          obtain ⟨B3, hB3⟩ : ∃ B3, wr.heap.size = B3 := ⟨_, rfl⟩
          rw [hB3] at hst
          have hB3s : w.heap.size ≤ B3 := by rw [← hB3]; exact hsz
          have hbel0 : Below B3 wr wr := Below.refl _ _
          obtain ⟨wL, hwL⟩ : ∃ wL, wr = wL := ⟨_, rfl⟩
          have hB3L : B3 ≤ wr.heap.size := by omega
          clear hdsv hLd hlen hm0 hL hem hsm hap hv0 hrl hoo hB3
          rw [hwL] at hst hbel hbel0 hB3L
          go_wp2
          go_loopw [10, 11] (fun o i W => ∃ (k co2 : Nat) (A2 : Option Addr), k ≤ t ∧ i = .int .i64 ((k : Int) - 1) ∧ o = .slice A2 (t - k) co2 ∧ W.ownsRow B3 3 1 (.slice A2 (t - k) co2) (t - k) (nl (L.drop k).reverse) ∧ Below B3 wL W ∧ B3 ≤ W.heap.size)
            (fun _ i _ => (intOf i + 1).toNat)
          case atStart => exact ⟨t, 0, none, Nat.le_refl _, rfl, by rw [Nat.sub_self], by rw [Nat.sub_self, List.drop_of_length_le (by rw [HLen.out]; omega)]; exact World.ownsRow_nil _ _ _ _, by first | exact hbel0 | exact hbel0.drew, hB3L⟩
          case round =>
            obtain ⟨k, co2, A2, hk, rfl, rfl, ho2, hb2', hB2W⟩ := hrel
            clear hbel0 hwL
            by_cases hk0 : k = 0
            · subst hk0
              rw [List.drop_zero, Nat.sub_zero] at ho2
              have HS2 := Lib.hid (Sl.of_own ho2)
              clear ho2
              go_wp2
              go_ret2
              have e1 : r1 = L.reverse := by rw [HRR.out.1, HDS.out]
              have e2 : L.reverse.length = t := by rw [List.length_reverse]; exact HLen.out
              rw [e1, HRR.out.2]
              exact ⟨A2, co2, by rw [e2]; rfl, by rw [e2]; exact HS2.out, hbel.trans (hb2'.mono hB3s)⟩
            · obtain ⟨k, rfl⟩ : ∃ j, k = j + 1 := ⟨k - 1, by omega⟩
              have hk1 : (((k + 1 : Nat) : Int) - 1) = (k : Int) := by omega
              rw [hk1]
              obtain ⟨bb, off, rfl, hbb, hc⟩ := at_nl (hst.below hb2') (show k < t by omega)
              have hrs := rev_step L k (by rw [HLen.out]; omega)
              obtain ⟨d, hd⟩ : ∃ d, L.getD k 0 = d := ⟨_, rfl⟩
              rw [hd] at hrs hc
              have HRS := Lib.hid hrs
              have htk : t - (k + 1) + 1 = t - k := by omega
              clear hrs hd
              go_wp2_with (at_builtin; refine wpList_append_one rfl _ _ 43 rfl B3 3 i0 (.int .i64 0) 8 Try.underlying43 hi hz0 hz1 hz2 rfl _ _ _ rfl ho2 _ _ rfl rfl (by unfold maxLen; omega) (by omega) wL hb2' (by omega) ?_)
              intro v' w2 hown' hbel'
              obtain ⟨A4, c4, rfl⟩ := own_slice hown'
              try rw [htk] at hown'
              have hown2 : Hid (w2.ownsRow B3 3 1 (.slice A4 (t - k) c4) (t - k) (nl (L.drop k).reverse)) := by
                show World.ownsRow _ _ _ _ _ _ _
                rw [← HRS.out, nl_append]
                exact hown'
              have hB24 : B3 ≤ w2.heap.size := by have := hbel'.size; omega
              try rw [htk]
              clear hown' ho2 hb2'
              go_wp2
              go_roundw
              case rel => exact ⟨k, c4, A4, by omega, rfl, rfl, hown2.out, hbel', hB24⟩
              case measure => simp [intOf]
    · have hm0 : m ≠ 0 := by rintro rfl; have := hem.out; rw [enc_zero] at this; exact hz this.symm
      have hmore := digs_more hb hL.out.2.1 hL.out.1 hL.out.2.2 hm0
      rw [HK.out] at hmore
      have hnmI : (0 : Int) < (nm : Int) := by omega
      obtain ⟨q, hq⟩ : ∃ q, m / base = q := ⟨_, rfl⟩
      obtain ⟨d, hd⟩ : ∃ d, m % base = d := ⟨_, rfl⟩
      have hdl : d < 65536 := by have := Nat.mod_lt m (show 0 < base by omega); omega
      obtain ⟨nq, hnq⟩ : ∃ nq, (enc q).length = nq := ⟨_, rfl⟩
      have hnql : nq ≤ 512 := by rw [← hnq]; exact length_le_of (show q ≤ m by rw [← hq]; exact Nat.div_le_self _ _) (by rw [hem.out]; exact hnm)
      have HDL := Lib.hid (rShort_own Am nm cm base (enc m) wr hsm (ok_enc m) (by omega) (by omega) hb2)
      rw [val_enc, hq, hd] at HDL
      have hgrow := digs_grow hb hL.out.2.1 hL.out.1 hL.out.2.2 hm0
      rw [hd, hq] at hgrow
      have HG := Lib.hid (show (L ++ [d]).length = t + 1 ∧ L ++ [d] = (digs base v).take (t + 1) ∧ q = v / base ^ (t + 1) from ⟨by rw [List.length_append, hL.out.1]; rfl, hgrow.1, hgrow.2⟩)
      have HNQ := Lib.hid hnq
      have ht2 : t + 1 ≤ K := by omega
      have hbc : (base : Int) % 18446744073709551616 = (base : Int) := by omega
      clear hq hd hnq hgrow hL hm0 hem hz hsm hap
      go_wp2_with fail
      first | rw [hbc] | skip
      refine HDL.out.mono ?_
      rintro e w4 ⟨A4, c4, rfl, ho4, hb4⟩
      rw [HNQ.out] at ho4 ⊢
      have hap4 := Apart.own ho4 hoo
      have hoo4 := own_kept hoo hb4 (fun k hk => (hoo.lt k hk).2)
      have hs4 := Sl.of_own ho4
      have HB4 := below_step hbel hb4
      have hsz4 := HB4.size
      have hdI : (d : Int) < 65536 := by omega
      clear hoo hb4 hbel HDL ho4
      go_wp2_with (at_builtin; refine wpList_append_one_apart rfl _ _ 43 rfl w.heap.size 3 i0 (.int .i64 0) 8 Try.underlying43 hi hz0 hz1 hz2 rfl _ _ _ rfl hoo4 _ _ rfl rfl (by unfold maxLen; omega) (by omega) w HB4 (by omega) ?_)
      intro v' w5 hown' hbel5 hfar
      obtain ⟨A5, c5, rfl⟩ := own_slice hown'
      obtain ⟨hs5, hap5⟩ := hfar _ _ _ _ hs4 hap4
      have HAP := Lib.hid hap5
      have HO5 : Hid (w5.ownsRow w.heap.size 3 1 (.slice A5 (t + 1) c5) (t + 1) (nl (L ++ [d]))) := by
        show World.ownsRow _ _ _ _ _ _ _
        rw [nl_append]
        simpa [nl] using hown'
      clear hown' hfar hs4 hap4 hap5 hoo4 HB4
      go_wp2
      go_roundw
      case rel => exact ⟨t + 1, q, nq, c5, c4, A5, A4, L ++ [d], rfl, rfl, ht2, hnql, HNQ, HG, HO5.out, hs5, HAP, hbel5⟩
      case measure => simp [lenOf]; omega
end Go.Proofs.Ytkcekimgfcdgbaa
