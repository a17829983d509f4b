/-
  THE WALKS OF THE DOCUMENT's READER: Err, End, Take, Fixed, Uint.
-/
import Derived.Test.YtdhgbkibbileiaaGreatWalkJ
import Derived.Test.YtdhgbkibbileiaaGreatWalkI
namespace Go.Proofs.YtdhgbkibbileiaaGreat
open Go.RowKit

/-- what a reading call leaves of the document's reader -/
def Gq {α : Type} (w : World) (S : Nat → Prop) (g : Nat) (ok : Bool) (l : List Nat) (o : Option (α × Nat)) (w' : World) : Prop :=
  Qd w' S g (okO ok o) (leftO ok l o) ∧ Fr w w' S
def qp (g : Nat) : Value := .pointer (some ⟨g, 0, none⟩)

set_option maxRecDepth 100000 in
theorem Qd.fault {w : World} {S : Nat → Prop} {g : Nat} {ok : Bool} {l : List Nat} (h : Qd w S g ok l) :
    Qd (w.setCell ⟨g, 1, none⟩ (.bool true)) S g false l ∧ Fr w (w.setCell ⟨g, 1, none⟩ (.bool true)) S := by
  obtain ⟨hS, A, n, c, hb, hr, h4⟩ := h
  refine ⟨⟨hS, A, n, c, by simpa using hb.set_ 1 (.bool true), hr.far (fun hh => hh.2 rfl) _, h4⟩, (Fr.refl _ _).setCell (Or.inl hS) _⟩
set_option maxRecDepth 100000 in
theorem Qd.at_ {w : World} {S : Nat → Prop} {g : Nat} {ok : Bool} {l' : List Nat} {A B : Option Addr} {n c n' c' : Nat} (hS : S g) (hb : Blk w g 75 #[.slice A n c, .bool (!ok)]) (hr : RB w (fun b => S b ∧ b ≠ g) B n' l') (hc : n' ≤ c') (hn : n' ≤ 140737488351232) :
    Qd (w.setCell ⟨g, 0, none⟩ (.slice B n' c')) S g ok l' ∧ Fr w (w.setCell ⟨g, 0, none⟩ (.slice B n' c')) S :=
  ⟨⟨hS, _, _, _, by simpa using hb.set_ 0 (.slice B n' c'), hr.far (fun hh => hh.2 rfl) _, hc, hn⟩, (Fr.refl _ _).setCell (Or.inl hS) _⟩

set_option maxRecDepth 100000 in
theorem qerr_any (w : World) (S : Nat → Prop) (g : Nat) (ok : Bool) (l : List Nat) (h : Qd w S g ok l) :
    Calls Tryz.prog 59 #[qp g] w fun e w' => e = .returned (.int .i64 (errOf ok)) ∧ w = w' := by
  obtain ⟨_, A, n, c, hb, _⟩ := h
  have hc := hb.cell 1
  clear hb
  unfold qp
  cases ok with
  | true =>
    simp only [errOf, if_true]
    simp only [Bool.not_true] at hc
    go_enter Tryz.func59, Tryz.ntmps59
    go_wp2
    go_ret
    exact ⟨rfl, rfl⟩
  | false =>
    simp only [errOf, Bool.false_eq_true, if_false]
    simp only [Bool.not_false] at hc
    go_enter Tryz.func59, Tryz.ntmps59
    go_wp2
    go_ret
    exact ⟨rfl, rfl⟩

set_option maxRecDepth 100000 in
theorem qend_any (w : World) (S : Nat → Prop) (g : Nat) (ok : Bool) (l : List Nat) (h : Qd w S g ok l) :
    Calls Tryz.prog 37 #[qp g] w fun e w' => e = .returned (.int .i64 (errOf (ok && l.isEmpty))) ∧ Qd w' S g (ok && l.isEmpty) l ∧ Fr w w' S := by
  have hq : Qd (w.setCell ⟨g, 1, none⟩ (.bool (!(ok && l.isEmpty)))) S g (ok && l.isEmpty) l ∧ Fr w (w.setCell ⟨g, 1, none⟩ (.bool (!(ok && l.isEmpty)))) S := by
    obtain ⟨hS, A, n, c, hb, hr, h4⟩ := h
    exact ⟨⟨hS, A, n, c, by simpa using hb.set_ 1 (.bool (!(ok && l.isEmpty))), hr.far (fun hh => hh.2 rfl) _, h4⟩, (Fr.refl _ _).setCell (Or.inl hS) _⟩
  have HE := Lib.hid (qerr_any _ S g _ l hq.1)
  have HQ := Lib.hid hq
  clear hq
  obtain ⟨hS, A, n, c, hb, hr, h4⟩ := h
  have hc0 := hb.cell 0
  have hc1 := hb.cell 1
  have hc2 := hb.frozen 1
  have hln := hr.len
  clear hb hr
  unfold qp at HE ⊢
  cases ok with
  | true =>
    cases l with
    | nil =>
      simp only [List.length_nil] at hln
      subst hln
      simp only [Bool.not_true, List.isEmpty_nil, Bool.true_and] at hc1 HE HQ ⊢
      go_enter Tryz.func37, Tryz.ntmps37
      go_wp2_with (go_at_call 59; refine HE.out.mono ?_; rintro e w' ⟨rfl, rfl⟩)
      go_ret
      exact ⟨rfl, HQ.out⟩
    | cons b r =>
      have hpos : 0 < n := by simp only [List.length_cons] at hln; omega
      simp only [Bool.not_true, Bool.not_false, List.isEmpty_cons, Bool.true_and] at hc1 HE HQ ⊢
      clear hln
      go_enter Tryz.func37, Tryz.ntmps37
      go_wp2_with (go_at_call 59; refine HE.out.mono ?_; rintro e w' ⟨rfl, rfl⟩)
      go_ret
      exact ⟨rfl, HQ.out⟩
  | false =>
    simp only [Bool.not_false, Bool.false_and] at hc1 HE HQ ⊢
    clear hln
    go_enter Tryz.func37, Tryz.ntmps37
    go_wp2_with (go_at_call 59; refine HE.out.mono ?_; rintro e w' ⟨rfl, rfl⟩)
    go_ret
    exact ⟨rfl, HQ.out⟩

/-- what Take answers: a new row, or none -/
def Tk (w : World) (S : Nat → Prop) (g : Nat) (ok : Bool) (l : List Nat) (n : Int) (e : Ending) (w' : World) : Prop :=
  ∃ v k, e = .returned v ∧ k = (valO ok (takeO l n) []).length ∧ Ow w' (fun b => w.heap.size ≤ b) v k (valO ok (takeO l n) []) ∧ Gq w S g ok l (takeO l n) w'

set_option maxRecDepth 100000 in
set_option maxHeartbeats 1000000 in
theorem qtake_any (w : World) (S : Nat → Prop) (g : Nat) (ok : Bool) (l : List Nat) (n : Int) (h1 : -9223372036854775808 ≤ n) (h2 : n ≤ 9223372036854775807) (h : Qd w S g ok l) :
    Calls Tryz.prog 56 #[qp g, .int .i64 n] w (Tk w S g ok l n) := by
  have HD := Lib.hid h.fault
  obtain ⟨hS, A, m, c, hb, hr, hmc, hm⟩ := h
  have hc0 := hb.cell 0
  have hc1 := hb.cell 1
  have hc2 := hb.frozen 1
  have hc3 := hb.frozen 0
  have hln := hr.len
  have hgl := hb.lt
  unfold qp
  cases ok with
  | false =>
    simp only [Bool.not_false] at hc1
    clear hb hr hln
    go_enter Tryz.func56, Tryz.ntmps56
    go_wp2
    go_ret
    exact ⟨_, 0, rfl, rfl, Ow.nil_ _ _, HD.out⟩
  | true =>
    simp only [Bool.not_true] at hc1
    by_cases hn : 0 ≤ n ∧ n ≤ l.length
    · obtain ⟨hn1, hn2⟩ := hn
      obtain ⟨k, rfl⟩ := Int.eq_ofNat_of_zero_le hn1
      have hk : k ≤ m := by omega
      have HB := Lib.hid hb
      have HRB := Lib.hid (hr.mono (T := fun b => (S b ∧ b ≠ g) ∧ b < w.heap.size) fun b hb hs => ⟨hs, hb⟩)
      have HO := Lib.hid (takeO_yes (l := l) (k := k) (by omega))
      have hg1 : decide ((k : Int) < 0) = false := by simp
      have hg2 : decide (m < k) = false := by simp; omega
      clear hb hr hln hn1 hn2
      go_enter Tryz.func56, Tryz.ntmps56
      go_wp2
      go_loopw [5, 6] (fun v0 i wr => ∃ (j : Nat) (v : Value), v = v0 ∧ j ≤ k ∧ i = .int .i64 (j : Int) ∧ Own w wr v (l.take j)) (fun _ i _ => k - (intOf i).toNat)
      case atStart => exact ⟨0, _, rfl, by omega, rfl, Own.nil_ w⟩
      case round =>
        obtain ⟨j, v, rfl, hj, rfl, ho⟩ := hrel
        have HO2 := Lib.hid ho
        have hb2 := (HB.out.below ho.2 hgl)
        have hd0 : wr.cell? ⟨g, 0, none⟩ = some (.slice A m c) := by simpa using hb2.cell 0
        have hd1 : wr.frozen? ⟨g, 0, none⟩ = false := hb2.frozen 0
        have HR2 := Lib.hid (HRB.out.below ho.2 (fun b hb => hb.2))
        have HB2 := Lib.hid hb2
        have hlj : (l.take j).length ≤ 140737488351232 := by simp; omega
        have hlj2 : (l.take j).length ≤ j := by simp; omega
        clear ho hb2
        by_cases hlt : j < k
        · obtain ⟨ad, rfl, hx, hcx⟩ := HR2.out.at_ (show j < m by omega)
          obtain ⟨z, hz⟩ : ∃ z, z = l.getD j 0 := ⟨_, rfl⟩
          rw [← hz] at hx hcx
          have HZ := Lib.hid hz
          have hjm : j < m := by omega
          clear hz
          go_wp2_with (at_builtin; go_must (refine wpList_app rfl (.tmp 32) (.tmp 40) rfl v _ (l.take j) rfl (HO2.out.alloc _).1 (fun _ => True) (some ⟨wr.heap.size, 0, none⟩) 1 1 [z] rfl (one_of _ _ _ (by rfl) (by omega)) (by omega) ?_); intro v1 w1 hown hgrow; have HS := Lib.hid (Own.step (HO2.out.alloc _) hgrow hown); clear hown hgrow)
          go_roundw
          case rel =>
            refine ⟨j + 1, _, rfl, by omega, by go_num, ?_⟩
            have hln := HR2.out.len
            have e : l.take (j + 1) = l.take j ++ [z] := by
              rw [List.take_succ_eq_append_getElem (by omega), HZ.out]
              simp [show j < l.length by omega]
            rw [e]
            exact HS.out
          case measure => simp [intOf]; omega
        · obtain rfl : j = k := by omega
          have hln := HR2.out.len
          have hd := HR2.out.drop hk hmc
          have HDR := Lib.hid (hd.mono (T := fun b => S b ∧ b ≠ g) fun b _ hb => hb.1)
          have hlen : (l.take j).length = j := by simp; omega
          have HL := Lib.hid hlen
          clear hd hln hlen
          go_wp2
          all_goals
            go_ret
            unfold Tk
            rw [HO.out]
            have hd := HDR.out
            by_cases hcx : c = j
            · rw [if_pos hcx] at hd
              first
              | (refine ⟨_, _, rfl, rfl, HO2.out.1.far HB2.out (by decide) _, ?_⟩
                 have hq := Qd.at_ (ok := true) hS HB2.out hd (show m - j ≤ 0 by omega) (by omega)
                 exact ⟨hq.1, (Fr.of_below HO2.out.2 S).same hq.2⟩)
              | (exfalso; revert hcx; assumption)
            · rw [if_neg hcx] at hd
              first
              | (refine ⟨_, _, rfl, rfl, HO2.out.1.far HB2.out (by decide) _, ?_⟩
                 have hq := Qd.at_ (ok := true) (c' := c - j) hS HB2.out hd (by omega) (by omega)
                 exact ⟨hq.1, (Fr.of_below HO2.out.2 S).same hq.2⟩)
              | (exfalso; apply hcx; assumption)
    · have HO := Lib.hid (takeO_no hn)
      have hn' : n < 0 ∨ (m : Int) < n := by omega
      clear hb hr hln hn
      rcases hn' with hn | hn
      · go_enter Tryz.func56, Tryz.ntmps56
        go_wp2
        go_ret
        unfold Tk
        rw [HO.out]
        exact ⟨_, 0, rfl, rfl, Ow.nil_ _ _, HD.out⟩
      · have hn0 : ¬ n < 0 := by omega
        go_enter Tryz.func56, Tryz.ntmps56
        go_wp2
        go_ret
        unfold Tk
        rw [HO.out]
        exact ⟨_, 0, rfl, rfl, Ow.nil_ _ _, HD.out⟩

set_option maxRecDepth 100000 in
theorem unfix_drop (L : List Nat) (j : Nat) (h : j < L.length) : Cd.unfix (L.drop j) = L.getD j 0 + 256 * Cd.unfix (L.drop (j + 1)) := by
  rw [List.drop_eq_getElem_cons h, Cd.unfix]
  simp [h]
set_option maxRecDepth 100000 in
theorem unfix_drop_le (L : List Nat) (j : Nat) : Cd.unfix (L.drop j) ≤ Cd.unfix L := by
  induction L generalizing j with
  | nil => simp [Cd.unfix]
  | cons b r ih =>
    match j with
    | 0 => exact Nat.le_refl _
    | j + 1 =>
      have := ih j
      simp only [List.drop_succ_cons, Cd.unfix]
      omega
set_option maxRecDepth 100000 in
theorem Gq.fix {w w' : World} {S : Nat → Prop} {g : Nat} {ok : Bool} {l : List Nat} {k : Nat} (h : Gq w S g ok l (takeO l k) w') : Gq w S g ok l (fixO l k) w' := by
  unfold Gq at h ⊢
  rw [fixO_ok, fixO_left]
  exact h

set_option maxRecDepth 100000 in
set_option maxHeartbeats 1000000 in
theorem qfixed_any (w : World) (S : Nat → Prop) (g : Nat) (ok : Bool) (l : List Nat) (k : Nat) (hk : k ≤ 8) (h : Qd w S g ok l) :
    Calls Tryz.prog 55 #[qp g, .int .i64 (k : Int)] w fun e w' => e = .returned (.int .u64 ((valO ok (fixO l k) 0 : Nat) : Int)) ∧ Gq w S g ok l (fixO l k) w' := by
  have HT := Lib.hid (qtake_any w S g ok l k (by omega) (by omega) h)
  clear h
  go_enter Tryz.func55, Tryz.ntmps55
  go_wp2_with fail
  refine HT.out.mono ?_
  rintro e w1 ⟨v, m, rfl, hme, ho, hg⟩
  have hm8 : m ≤ 8 := by rw [hme]; have := takeO_len ok l k; omega
  have HG := Lib.hid hg.fix
  have HV := Lib.hid (fixO_val ok l k)
  obtain ⟨t, ht⟩ : ∃ t, t = valO ok (takeO l (k : Nat)) [] := ⟨_, rfl⟩
  obtain ⟨A, c, rfl, _, _, hr⟩ := ho.reads
  rw [← ht] at hr
  have HRB := Lib.hid hr
  have HTT := Lib.hid ht
  have hbd : Cd.unfix t < 18446744073709551616 := by
    refine Nat.lt_of_lt_of_le (Cd.unfix_lt t hr.lt) ?_
    rw [hr.len]
    exact Nat.le_trans (Nat.pow_le_pow_right (by omega) hm8) (by decide)
  have HBD := Lib.hid hbd
  clear hr ho hg ht hme hbd
  go_wp2
  go_loop [6, 7] (fun y i0 => ∃ (i : Int) (r : Nat), -1 ≤ i ∧ i < m ∧ i0 = .int .i64 i ∧ r = Cd.unfix (t.drop (i + 1).toNat) ∧ y = .int .u64 (r : Int)) (fun _ i => (intOf i + 1).toNat)
  case atStart =>
    refine ⟨(m : Int) - 1, 0, by omega, by omega, rfl, ?_, rfl⟩
    rw [List.drop_of_length_le (by rw [HRB.out.len]; omega)]
    rfl
  case round =>
    obtain ⟨i, r, hi1, hi2, rfl, hr, rfl⟩ := hrel
    by_cases hi : 0 ≤ i
    · obtain ⟨j, rfl⟩ := Int.eq_ofNat_of_zero_le hi
      have hjm : j < m := by omega
      obtain ⟨ad, rfl, hx2, hc2⟩ := HRB.out.at_ hjm
      obtain ⟨z, hz⟩ : ∃ z, z = t.getD j 0 := ⟨_, rfl⟩
      rw [← hz] at hx2 hc2
      have hv := unfix_drop t j (by rw [HRB.out.len]; omega)
      rw [← hz] at hv
      have hle := unfix_drop_le t j
      have hlt2 := HBD.out
      have hjn : ((j : Int) + 1).toNat = j + 1 := by omega
      rw [hjn] at hr
      rw [← hr] at hv
      have hbd : z + 256 * r < 18446744073709551616 := by omega
      have HW := Lib.hid hv
      clear hz hv hle hlt2 hjn hr
      go_wp2
      go_round
      case rel =>
        refine ⟨(j : Int) - 1, z + 256 * r, by omega, by omega, by first | rfl | go_num, ?_, ?_⟩
        · rw [show ((j : Int) - 1 + 1).toNat = j by omega, HW.out]
        · exact congrArg _ (by omega)
      case measure => simp [intOf]
    · obtain rfl : i = -1 := by omega
      have HR := Lib.hid hr
      clear hr
      go_wp2
      go_ret
      have hr := HR.out
      simp only [Int.reduceNeg, Int.reduceAdd, Int.toNat_zero, List.drop_zero] at hr
      rw [HV.out, ← HTT.out, ← hr]
      exact ⟨rfl, HG.out⟩

set_option maxRecDepth 100000 in
theorem quint_any (w : World) (S : Nat → Prop) (g : Nat) (ok : Bool) (l : List Nat) (h : Qd w S g ok l) :
    Calls Tryz.prog 57 #[qp g] w fun e w' => e = .returned (.int .u64 ((valO ok (Cd.front l) 0 : Nat) : Int)) ∧ Gq w S g ok l (Cd.front l) w' := by
  have HD := Lib.hid h.fault
  obtain ⟨hS, A, m, c, hb, hr, hmc, hm⟩ := h
  have hln := hr.len
  have hc0 := hb.cell 0
  have hc1 := hb.cell 1
  have hc2 := hb.frozen 0
  have hc3 := hb.frozen 1
  have hcn := front_any w _ A m c l hr hm
  obtain ⟨x, k, he, hk⟩ := frontV_eq l
  rw [he] at hcn
  have HC := Lib.hid hcn
  have HB := Lib.hid hb
  have HRB := Lib.hid hr
  unfold qp
  clear he hcn hb hr
  cases ok with
  | false =>
    simp only [Bool.not_false] at hc1
    clear hk hln
    go_enter Tryz.func57, Tryz.ntmps57
    go_wp2_with (go_at_call 100; refine HC.out.mono ?_; rintro e w' ⟨rfl, rfl⟩)
    go_ret
    exact ⟨rfl, HD.out⟩
  | true =>
    simp only [Bool.not_true] at hc1
    rcases hk with ⟨hk, rfl, rfl⟩ | ⟨hk, hk0, hkl, hx⟩
    · rw [hk]
      clear hk hln
      go_enter Tryz.func57, Tryz.ntmps57
      go_wp2_with (go_at_call 100; refine HC.out.mono ?_; rintro e w' ⟨rfl, rfl⟩)
      go_ret
      exact ⟨rfl, HD.out⟩
    · rw [hk]
      have hkm : k ≤ m := by omega
      have hkne : ((k : Int) == 0) = false := by simp; omega
      clear hk hln
      go_enter Tryz.func57, Tryz.ntmps57
      go_wp2_with (go_at_call 100; refine HC.out.mono ?_; rintro e w' ⟨rfl, rfl⟩)
      all_goals
        go_ret
        have hd := HRB.out.drop hkm hmc
        by_cases hcx : c = k
        · rw [if_pos hcx] at hd
          first
          | exact ⟨rfl, Qd.at_ (ok := true) hS HB.out hd (by omega) (by omega)⟩
          | (exfalso; revert hcx; assumption)
        · rw [if_neg hcx] at hd
          first
          | exact ⟨rfl, Qd.at_ (ok := true) hS HB.out hd (by omega) (by omega)⟩
          | (exfalso; apply hcx; assumption)
end Go.Proofs.YtdhgbkibbileiaaGreat
