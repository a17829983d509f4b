/-
  THE WALK OF CodeReads: whatever is asked of whatever bytes, a reader answers what the document says, and has as much left.
-/
import Derived.Test.YtmnjmlnpmifiiaaWalkQ
import Derived.Test.YtmnjmlnpmifiiaaOpen
import Derived.Deep.QuietTactic
import Derived.BigQuiet
import Derived.Outline
import Derived.Handy
namespace Go.Proofs.Ytmnjmlnpmifiiaa.codeReads
open Go.RowKit
attribute [local go_sem ↓] Go.wp_at_zero Go.wp_at_succ

/-- what the loop carries on: both readers are alike -/
def Inv (w : World) (g gq : Nat) (ok : Bool) (l : List Nat) (wr : World) : Prop :=
  ∃ SS SQ : Nat → Prop, Rd wr SS (some g) ok l ∧ Qd wr SQ gq ok l ∧ (∀ b, SS b → ¬ SQ b) ∧ (∀ b, SS b → w.heap.size ≤ b) ∧ (∀ b, SQ b → w.heap.size ≤ b) ∧ Below w.heap.size w wr
theorem Inv.drew {w wr : World} {g gq : Nat} {ok : Bool} {l : List Nat} (h : Inv w g gq ok l wr) : Inv w g gq ok l wr.drew := by
  obtain ⟨SS, SQ, h1, h2, h3, h4, h5, h6⟩ := h
  exact ⟨SS, SQ, h1, h2, h3, h4, h5, h6.drew⟩
theorem Inv.read {w wr : World} {g gq : Nat} {ok : Bool} {l : List Nat} (h : Inv w g gq ok l wr) (it : It) (hi : it.Ok) :
    Calls Try.prog 16 #[ptr (some g), qp gq, it.agg] wr fun e w2 => e = .returned (.bool true) ∧ ∃ ok' l', Inv w g gq ok' l' w2 := by
  obtain ⟨SS, SQ, h1, h2, h3, h4, h5, h6⟩ := h
  refine (read_any wr SS SQ (some g) gq ok l it hi h3 h1 h2).mono ?_
  rintro e w2 ⟨rfl, ok', l', hr, hq, _, hf⟩
  exact ⟨rfl, ok', l', SS, SQ, hr, hq, h3, h4, h5, h6.trans (hf.below (fun b h => h.elim (h4 b) (h5 b)) h6.size)⟩
theorem Inv.left {w wr : World} {g gq : Nat} {ok : Bool} {l : List Nat} (h : Inv w g gq ok l wr) : Calls Try.prog 17 #[ptr (some g)] wr fun e w2 => e = .returned (.int .i64 ((l.length : Nat) : Int)) ∧ wr = w2 := by
  obtain ⟨SS, SQ, h1, _⟩ := h
  exact left_any wr SS (some g) ok l h1
theorem Inv.err {w wr : World} {g gq : Nat} {ok : Bool} {l : List Nat} (h : Inv w g gq ok l wr) : Calls Try.prog 18 #[ptr (some g)] wr fun e w2 => e = .returned (.int .i64 (errOf ok)) ∧ wr = w2 := by
  obtain ⟨SS, SQ, h1, _⟩ := h
  exact err_any wr SS (some g) ok l h1
theorem Inv.qerr {w wr : World} {g gq : Nat} {ok : Bool} {l : List Nat} (h : Inv w g gq ok l wr) : Calls Try.prog 19 #[qp gq] wr fun e w2 => e = .returned (.int .i64 (errOf ok)) ∧ wr = w2 := by
  obtain ⟨SS, SQ, _, h2, _⟩ := h
  exact qerr_any wr SQ gq ok l h2
theorem Inv.qcell {w wr : World} {g gq : Nat} {ok : Bool} {l : List Nat} (h : Inv w g gq ok l wr) : ∃ A c, wr.cell? ⟨gq, 0, none⟩ = some (.slice A l.length c) := by
  obtain ⟨SS, SQ, _, h2, _⟩ := h
  obtain ⟨_, A, m, c, hb, hr, _⟩ := h2
  refine ⟨A, c, ?_⟩
  rw [hr.len]
  simpa using hb.cell 0
theorem Inv.end_ {w wr : World} {g gq : Nat} {ok : Bool} {l : List Nat} (h : Inv w g gq ok l wr) : Calls Try.prog 20 #[ptr (some g)] wr fun e w2 => e = .returned (.int .i64 (errOf (ok && l.isEmpty))) ∧ ∃ SQ, Qd w2 SQ gq ok l ∧ (∀ b, SQ b → w.heap.size ≤ b) ∧ Below w.heap.size w w2 := by
  obtain ⟨SS, SQ, h1, h2, h3, h4, h5, h6⟩ := h
  refine (end_any wr SS (some g) ok l h1).mono ?_
  rintro e w2 ⟨rfl, _, hf⟩
  exact ⟨rfl, SQ, Qd.keep h2 hf fun b hq hs => h3 b hs hq, h5, h6.trans (hf.below h4 h6.size)⟩

/-- what the first loop carries on: the row that the first reader has been made of may change, both readers don't -/
def Pre (w : World) (g gq : Nat) (v : Value) (n : Nat) (l : List Nat) (wr : World) : Prop :=
  ∃ (S0 SS SQ : Nat → Prop) (m : List Nat), Ow wr S0 v n m ∧ Rd wr SS (some g) true l ∧ Qd wr SQ gq true l ∧ (∀ b, S0 b → ¬ SS b) ∧ (∀ b, S0 b → ¬ SQ b) ∧ (∀ b, SS b → ¬ SQ b) ∧
    (∀ b, S0 b → w.heap.size ≤ b) ∧ (∀ b, SS b → w.heap.size ≤ b) ∧ (∀ b, SQ b → w.heap.size ≤ b) ∧ Below w.heap.size w wr
theorem Pre.inv {w wr : World} {g gq n : Nat} {v : Value} {l : List Nat} (h : Pre w g gq v n l wr) : Inv w g gq true l wr := by
  obtain ⟨S0, SS, SQ, m, _, h2, h3, _, _, h6, _, h8, h9, h10⟩ := h
  exact ⟨SS, SQ, h2, h3, h6, h8, h9, h10⟩
theorem Pre.drew {w wr : World} {g gq n : Nat} {v : Value} {l : List Nat} (h : Pre w g gq v n l wr) : Pre w g gq v n l wr.drew := by
  obtain ⟨S0, SS, SQ, m, h1, h2, h3, h4, h5, h6, h7, h8, h9, h10⟩ := h
  exact ⟨S0, SS, SQ, m, h1, h2, h3, h4, h5, h6, h7, h8, h9, h10.drew⟩
theorem start {w w1 w2 w3 : World} {g : Nat} {v1 : Value} {A3 : Option Addr} {c3 : Nat} {l : List Nat} (h1 : Own w w1 v1 l) (h2 : Rd w2 (fun b => w1.heap.size ≤ b) (some g) true l) (hb : Below w1.heap.size w1 w2)
    (h3 : Own w2 w3 (.slice A3 l.length c3) l) (hc : l.length ≤ c3) (hl : l.length ≤ 140737488351232) (hr : RB w3 (fun b => w2.heap.size ≤ b) A3 l.length l) :
    Pre w g w3.heap.size v1 l.length l (w3.alloc (.cells #[.slice A3 l.length c3, .bool false] 38)) := by
  have s1 := h1.2.size
  have s2 := hb.size
  have s3 := h3.2.size
  have f12 := Fr.of_below hb (fun b => w1.heap.size ≤ b)
  have f23 := Fr.of_below h3.2 (fun b => w2.heap.size ≤ b)
  refine ⟨fun b => w.heap.size ≤ b ∧ b < w1.heap.size, fun b => w1.heap.size ≤ b ∧ b < w2.heap.size, fun b => w2.heap.size ≤ b, l, ?_, ?_, ?_, fun b h h' => by omega, fun b h h' => by omega, fun b h h' => by omega, fun b h => h.1, fun b h => by omega, fun b h => by omega, ?_⟩
  · refine Ow.alloc ?_ _
    refine Ow.keep (Ow.keep (h1.1.mono fun b hb' hS => ⟨hS, hb'⟩) f12 fun b h h' => by omega) f23 fun b h h' => by omega
  · refine Rd.mono (Rd.alloc (Rd.keep (Rd.mono h2 (T := fun b => w1.heap.size ≤ b ∧ b < w2.heap.size) fun b hb' hS => ⟨hS, hb'⟩) f23 fun b h h' => by omega) _) fun b _ h => h.1
  · refine ⟨s3, A3, l.length, c3, Blk.new w3 38 _, ?_, hc, hl⟩
    exact (hr.mono (T := fun b => w2.heap.size ≤ b ∧ b ≠ w3.heap.size) fun b hb' hS => ⟨hS, by omega⟩).alloc _
  · exact ((h1.2.trans (hb.mono s1)).trans (h3.2.mono (by omega))).alloc (by omega) _
theorem Pre.set_ {w wr : World} {g gq n : Nat} {v : Value} {l : List Nat} (h : Pre w g gq v n l wr) {j : Nat} (hj : j < n) :
    ∃ b0 cap x, v = .slice (some ⟨b0, 0, none⟩) n cap ∧ wr.cell? ⟨b0, j, none⟩ = some (.int .u8 ((x : Nat) : Int)) ∧ x < 256 ∧ wr.frozen? ⟨b0, j, none⟩ = false ∧
      ∀ y : Nat, y < 256 → Pre w g gq v n l (wr.setCell ⟨b0, j, none⟩ (.int .u8 (y : Int))) := by
  obtain ⟨S0, SS, SQ, m, h1, h2, h3, h4, h5, h6, h7, h8, h9, h10⟩ := h
  obtain ⟨b0, cap, e, hS, hc, hf, hset⟩ := codeWrites.Ow.cell_at h1 hj
  have hx : m.getD j 0 < 256 := by
    have hln := h1.len
    rw [List.getD_eq_getElem?_getD, List.getElem?_eq_getElem (by omega)]
    exact h1.2.1 _ (List.getElem_mem _)
  refine ⟨b0, cap, m.getD j 0, e, hc, hx, hf, fun y hy => ?_⟩
  have hfr : Fr wr (wr.setCell ⟨b0, j, none⟩ (.int .u8 (y : Int))) S0 := (Fr.refl _ _).setCell (Or.inl hS) _
  exact ⟨S0, SS, SQ, _, hset y hy, Rd.keep h2 hfr fun b hb hs => h4 b hs hb, Qd.keep h3 hfr fun b hb hs => h5 b hs hb, h4, h5, h6, h7, h8, h9, h10.setCell (h7 b0 hS) _⟩

set_option maxRecDepth 100000 in
set_option maxHeartbeats 4000000 in
theorem walked (A : Option Addr) (n c : Nat) (l : List Nat) (A2 : Option Addr) (n2 c2 : Nat) (its : List It) (w : World) (hb : In w A n c l) (h : Its w w.heap.size A2 n2 its) (hn2 : n2 ≤ 140737488351232) :
    Calls Try.prog 4 #[.slice A n c, .slice A2 n2 c2] w fun e w' => e = .returned (.bool true) ∧ Below w.heap.size w w' := by
  have HL := Lib.hid (long_any w _ A2 n2 c2 its h hn2)
  have HI := Lib.hid h
  obtain ⟨hrb, hnc, hn, h0⟩ := hb
  have HRB := Lib.hid hrb
  clear h hrb
  by_cases hbad : longB its = true ∨ 1048576 < n
  · cases hlong : longB its with
    | true =>
      rw [hlong] at HL
      clear hlong hbad
      go_enter Try.func4, Try.ntmps4
      go_wp2_with (first | (go_at_call 9; refine HL.out.mono ?_; rintro e w' ⟨rfl, rfl⟩) | (go_at_call 10; refine (alive_any _).mono ?_; rintro e w1 ⟨rfl, hb⟩))
      go_ret
      exact ⟨rfl, hb⟩
    | false =>
      rw [hlong] at HL
      have hn1 : 1048576 < n := by
        rcases hbad with h | h
        · rw [hlong] at h; cases h
        · exact h
      clear hlong hbad
      go_enter Try.func4, Try.ntmps4
      go_wp2_with (first | (go_at_call 9; refine HL.out.mono ?_; rintro e w' ⟨rfl, rfl⟩) | (go_at_call 10; refine (alive_any _).mono ?_; rintro e w1 ⟨rfl, hb⟩))
      go_ret
      exact ⟨rfl, hb⟩
  · have hlong : longB its = false := by
      cases hl : longB its with
      | true => exact absurd (Or.inl hl) hbad
      | false => rfl
    have hn1 : n ≤ 1048576 := by
      rcases Nat.lt_or_ge 1048576 n with h | h
      · exact absurd (Or.inr h) hbad
      · exact h
    rw [hlong] at HL
    obtain ⟨hl1, hl2, _⟩ := longB_no hlong
    have hlen := HI.out.1
    have hn3 : n2 ≤ 300 := by omega
    have HM := Lib.hid (Own.made w)
    have HRB1 := Lib.hid (HRB.out.alloc (.cells #[] 5))
    clear hbad hlong hl2 hlen hl1
    go_enter Try.func4, Try.ntmps4
    go_wp2_with (first | (go_at_call 9; refine HL.out.mono ?_; rintro e w' ⟨rfl, rfl⟩) | (at_builtin; go_must (refine wpList_app rfl (.tmp 19) (.tmp 20) rfl _ 0 [] rfl HM.out.1 _ A n c l rfl HRB1.out (by omega) ?_); intro v1 w1 hown hgrow; have HS1 := Lib.hid (Own.step HM.out hgrow hown); clear hown hgrow))
    obtain ⟨A1, c1, rfl, _, _, hr1⟩ := HS1.out.1.reads
    have HLN := Lib.hid HRB.out.len
    have hln2 : ([] ++ l).length ≤ 140737488351232 := by have := HLN.out; simp; omega
    have HNR := Lib.hid (newReader_any w1 _ A1 _ c1 _ hr1 hln2)
    simp only [List.nil_append] at HS1 HNR
    clear hr1 hln2
    refine HNR.out.mono ?_
    rintro e w2 ⟨g, rfl, hr2, hb2⟩
    have HR2 := Lib.hid hr2
    have HB2 := Lib.hid hb2
    have hs2 := hb2.size
    have hs1 := HS1.out.2.size
    have HB02 := Lib.hid (HS1.out.2.trans (hb2.mono hs1))
    have HRB2 := Lib.hid (((HRB.out.mono (T := fun b => b < w.heap.size) fun b hb _ => hb).below HB02.out fun b hb => hb).alloc (.cells #[] 5))
    have HM2 := Lib.hid (Own.made w2)
    clear hr2 hb2
    go_wp2_with (at_builtin; go_must (refine wpList_app rfl (.tmp 24) (.tmp 25) rfl _ 0 [] rfl HM2.out.1 _ A n c l rfl HRB2.out (by omega) ?_); intro v3 w3 hown hgrow; have HS3 := Lib.hid (Own.step HM2.out hgrow hown); simp only [List.nil_append] at HS3; clear hown hgrow; obtain ⟨A3, c3, rfl, hc3, _, hr3⟩ := HS3.out.1.reads; have HP := Lib.hid (start HS1.out HR2.out HB2.out HS3.out hc3 (by have := HLN.out; omega) hr3); clear hr3 hc3)
    have HLN2 := HLN.out
    have hlb : l.length ≤ 140737488351232 := by omega
    clear HS1 HNR HR2 HB2 hs2 hs1 HB02 HRB2 HM2 HS3 HRB1 HM HLN HLN2
    go_loopw [8] (fun i wr => ∃ k : Nat, k ≤ l.length ∧ i = .int .i64 (k : Int) ∧ Pre w g w3.heap.size (.slice A1 l.length c1) l.length l wr) (fun i _ => l.length - (intOf i).toNat)
    case atStart => exact ⟨0, by omega, rfl, HP.out⟩
    case round =>
      obtain ⟨k, hk, rfl, hp⟩ := hrel
      by_cases hkl : k < l.length
      · obtain ⟨b0, cap, x, e, hcx, hx, hf, hset⟩ := hp.set_ hkl
        injection e with e1 e2 e3
        subst e1 e3
        have HSET := Lib.hid hset
        clear hset hp
        go_wp2
        go_roundw
        case rel => exact ⟨k + 1, by omega, by go_num, HSET.out ((x + 1) % 256) (by omega)⟩
        case measure => simp [intOf]; omega
      · have HINV := Lib.hid hp.inv
        clear hp
        go_wp2_with fail
        go_loopw [9] (fun i wr => ∃ (k : Nat) (ok : Bool) (l2 : List Nat), k ≤ n2 ∧ i = .int .i64 (k : Int) ∧ Inv w g w3.heap.size ok l2 wr) (fun i _ => n2 - (intOf i).toNat)
        case atStart => exact ⟨0, true, l, by omega, rfl, HINV.out⟩
        case round =>
          obtain ⟨k, ok, l2, hk, rfl, hinv⟩ := hrel
          by_cases hkl : k < n2
          · have hbel : Below w.heap.size w wr := by obtain ⟨_, _, _, _, _, _, _, h4⟩ := hinv; exact h4
            obtain ⟨bb, oo, it, rfl, hbb, hit, hok, d0, d1, d2, d3⟩ := (HI.out.below hbel).at_ hkl
            have HINV2 := Lib.hid hinv
            have HOK := Lib.hid hok
            clear hinv hok hit hbel
            have HC := Lib.hid (HINV2.out.drew.read it HOK.out)
            unfold It.agg at HC
            go_wp2_with fail
            go_region_with (first
              | (go_at_call 16; refine HC.out.mono ?_; rintro e w4 ⟨rfl, ok', l3, h4⟩; have HI4 := Lib.hid h4; obtain ⟨Aq, cq, hcq⟩ := h4.qcell; have HLF := Lib.hid h4.left; have HER := Lib.hid h4.err; have HQE := Lib.hid h4.qerr; clear h4)
              | (go_at_call 17; refine HLF.out.mono ?_; rintro e w' ⟨rfl, rfl⟩)
              | (go_at_call 18; refine HER.out.mono ?_; rintro e w' ⟨rfl, rfl⟩)
              | (go_at_call 19; refine HQE.out.mono ?_; rintro e w' ⟨rfl, rfl⟩))
            all_goals
              go_wp2
              go_roundw
              case rel => exact ⟨k + 1, ok', l3, by omega, by go_num, HI4.out⟩
              case measure => simp [intOf]; omega
          · obtain rfl : k = n2 := by omega
            have HC := Lib.hid hinv.end_
            clear hinv
            go_wp2_with fail
            refine HC.out.mono ?_
            rintro e w4 ⟨rfl, SQ, hq4, hS4, hb4⟩
            have HC2 := Lib.hid (qend_any w4 SQ _ ok l2 hq4)
            have HS4 := Lib.hid hS4
            have HB4 := Lib.hid hb4
            clear hq4 hS4 hb4
            generalize errOf (ok && l2.isEmpty) = ee at *
            go_wp2_with fail
            refine HC2.out.mono ?_
            rintro e w5 ⟨rfl, _, hf5⟩
            have HB5 := Lib.hid (HB4.out.trans (hf5.below HS4.out HB4.out.size))
            clear hf5
            go_wp2_with (go_at_call 10; refine (alive_any _).mono ?_; rintro e w6 ⟨rfl, hb6⟩; have HB6 := Lib.hid (HB5.out.trans (hb6.mono HB5.out.size)); clear hb6)
            go_ret
            exact ⟨rfl, HB6.out⟩
end Go.Proofs.Ytmnjmlnpmifiiaa.codeReads
