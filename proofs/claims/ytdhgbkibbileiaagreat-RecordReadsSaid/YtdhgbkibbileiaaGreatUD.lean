/-
UD
-/
import Derived.Test.YtdhgbkibbileiaaGreatUB
import Derived.Test.YtdhgbkibbileiaaGreatRQ
set_option maxRecDepth 100000
namespace Go.Proofs.YtdhgbkibbileiaaGreat
open Go.RowKit
set_option maxHeartbeats 16000000 in
theorem rread_8 (w : World) (S Y : Nat → Prop) (g : Nat) (ok : Bool) (l : List Nat) (k : Int) (hk1 : -9223372036854775808 ≤ k) (hk2 : k ≤ 9223372036854775807) (hk : k = 8) (h : Qe w S Y g ok l) (hS : ∀ b, S b → b < w.heap.size) (hY : ∀ b, Y b → b < w.heap.size) (hl : l.length ≤ 20000) :
  Calls Tryz.prog 36 #[.int .i64 k, qp g] w (ReadD w S Y g (dR k ok l)) := by
 obtain ⟨W1, hW1⟩ : ∃ W1, w.alloc (.cells #[.int .i64 0, .int .u64 0, .int .u32 0, .int .u64 0, .int .u64 0, .int .u32 0, .int .u32 0, .int .i64 0, .int .i64 0, .int .u32 0, .slice none 0 0, .slice none 0 0, .slice none 0 0, .slice none 0 0, .int .u32 0] 31) = W1 := ⟨_, rfl⟩
 obtain ⟨V, hV⟩ : ∃ V, W1.alloc (.cells #[.int .i64 0, .int .u64 0, .int .u32 0, .int .u64 0, .int .u64 0, .int .u32 0, .int .u32 0, .int .i64 0, .int .i64 0, .int .u32 0, .slice none 0 0, .slice none 0 0, .slice none 0 0, .slice none 0 0, .int .u32 0] 31) = V := ⟨_, rfl⟩
 have hz1 : W1.heap.size = w.heap.size + 1 := by rw [← hW1]; simp
 have hz : V.heap.size = w.heap.size + 2 := by rw [← hV]; simp [hz1]
 have hb0 : Blk V w.heap.size 31 #[.int .i64 0, .int .u64 0, .int .u32 0, .int .u64 0, .int .u64 0, .int .u32 0, .int .u32 0, .int .i64 0, .int .i64 0, .int .u32 0, .slice none 0 0, .slice none 0 0, .slice none 0 0, .slice none 0 0, .int .u32 0] := by rw [← hV, ← hW1]; exact (Blk.new w 31 _).alloc _
 have hb1 : Blk V W1.heap.size 31 #[.int .i64 0, .int .u64 0, .int .u32 0, .int .u64 0, .int .u64 0, .int .u32 0, .int .u32 0, .int .i64 0, .int .i64 0, .int .u32 0, .slice none 0 0, .slice none 0 0, .slice none 0 0, .slice none 0 0, .int .u32 0] := by rw [← hV]; exact Blk.new W1 31 _
 have hq0 : QG w S Y g V ok l := by rw [← hV, ← hW1]; exact ((QG.start h hS hY).alloc _).alloc _
 have HLT := Lib.hid h.lt
 obtain ⟨n1, o1, l1, e1⟩ : ∃ x o m, dM ok l = (x, o, m) := ⟨_, _, _, rfl⟩
 have H1 := Lib.hid (fun W (h : Qe W S Y g ok l) => qM_any W S Y g ok l h _ _ _ e1)
 have hm1 : l1.length ≤ 20000 := by have := dM_le ok l; rw [e1] at this; exact Nat.le_trans this hl
 have hf1 : n1 ≤ 20000 := by have := dM_few ok l; rw [e1] at this; exact Nat.le_trans this hm1
 have HM1 := Lib.hid hm1
 have HCN := Lib.hid hf1
 obtain ⟨s, hs⟩ : ∃ s, s = dR k ok l := ⟨_, rfl⟩
 rw [← hs]
 unfold dR at hs
 rw [if_neg (by omega), if_pos hk] at hs
 have hvs : dLVs ok l = dLV n1 o1 l1 := by unfold dLVs; rw [e1]
 rw [hvs] at hs
 simp only at hs
 have HS := Lib.hid hs
 have HKB : Hid (-9223372036854775808 ≤ k ∧ k ≤ 9223372036854775807) := Lib.hid ⟨hk1, hk2⟩
 have HBV := Lib.hid hb1
 have HDV := Lib.hid hb0
 have HRV := Lib.hid hq0
 have HG : Hid (w.heap.size ≤ W1.heap.size) := Lib.hid (by omega)
 have HNE : Hid (w.heap.size ≠ W1.heap.size ∧ W1.heap.size = w.heap.size + 1) := Lib.hid ⟨by omega, hz1⟩
 have HVZ : Hid (V.heap.size = w.heap.size + 2) := Lib.hid hz
 have c4 : (k == 4) = false := beq_false_of_ne (by omega)
 have c8 : (k == 8) = true := by rw [hk]; rfl
 clear e1 h hS hY hs hk hk1 hk2 hz1 hz hb0 hb1 hq0 hl hm1 hf1 hvs
 unfold qp at H1 ⊢
 go_enter Tryz.func36, Tryz.ntmps36
 go_wp2_with (refine wpList_stB rfl 31 (.tmp 5) (.tmp 19) rfl W1.heap.size #[.int .i64 k, .int .u64 0, .int .u32 0, .int .u64 0, .int .u64 0, .int .u32 0, .int .u32 0, .int .i64 0, .int .i64 0, .int .u32 0, .slice none 0 0, .slice none 0 0, .slice none 0 0, .slice none 0 0, .int .u32 0] rfl rfl 31 #[.int .i64 0, .int .u64 0, .int .u32 0, .int .u64 0, .int .u64 0, .int .u32 0, .int .u32 0, .int .i64 0, .int .i64 0, .int .u32 0, .slice none 0 0, .slice none 0 0, .slice none 0 0, .slice none 0 0, .int .u32 0] HBV.out size31 rfl rfl ?_; intro W hbW hfW; have HB0 := Lib.hid hbW; have HD0 := Lib.hid (HDV.out.keep hfW (fun h => by have := HNE.out.1; exact this h)); have HR0 := Lib.hid (HRV.out.fr hfW (fun b hb => by have := HG.out; omega)); have HVW : Hid (V.heap.size ≤ W.heap.size) := Lib.hid hfW.size; clear hbW hfW)
 with_reducible refine (H1.out _ HR0.out.rd).mono ?_
 rintro e w1 ⟨rfl, hq⟩
 have HB1 := Lib.hid (HB0.out.keep hq.2 (HR0.out.not HG.out))
 have HD1 := Lib.hid (HD0.out.keep hq.2 (HR0.out.not (Nat.le_refl _)))
 have HQ := Lib.hid (HR0.out.call hq)
 have HWL : Hid (W1.heap.size < w1.heap.size) := Lib.hid HB1.out.lt
 have HGL : Hid (w.heap.size ≤ w1.heap.size) := Lib.hid HQ.out.size
 clear hq
 go_wp2_with fail
 go_loopw [14] (fun i wr => ∃ (q : Nat) (A : Option Addr) (c : Nat) (xs : List LV) (o : Bool) (m : List Nat), q ≤ n1 ∧ i = .int .i64 (q : Int) ∧ Blk wr W1.heap.size 31 #[.int .i64 k, .int .u64 0, .int .u32 0, .int .u64 0, .int .u64 0, .int .u32 0, .int .u32 0, .int .i64 0, .int .i64 0, .int .u32 0, .slice none 0 0, .slice none 0 0, .slice A q c, .slice none 0 0, .int .u32 0] ∧ OwLV wr (fun b => w1.heap.size ≤ b) (fun _ => False) (.slice A q c) q xs ∧ QG w S Y g wr o m ∧ Fr w1 wr (fun b => S b ∨ b = W1.heap.size) ∧ dLV n1 o1 l1 = (xs ++ (dLV (n1 - q) o m).1, (dLV (n1 - q) o m).2) ∧ m.length ≤ 20000) (fun i _ => n1 - (intOf i).toNat)
 case atStart => exact ⟨0, none, 0, [], o1, l1, Nat.zero_le _, rfl, HB1.out, OwLV.nil_ _ _ _, HQ.out, Fr.refl _ _, by simp, HM1.out⟩
 case round =>
  clear HB1 HQ
  obtain ⟨q, A, c, xs, o, m, hq, rfl, hb1, hol, hqg, hfr, hdl, hml⟩ := hrel
  have HB1 := Lib.hid hb1
  have HOL := Lib.hid hol
  have HQ := Lib.hid hqg
  have HFR := Lib.hid hfr
  have HDL := Lib.hid hdl
  have HML := Lib.hid hml
  obtain ⟨qA, qn, qc, hbad⟩ := hqg.bad
  have yb := hbad.cell 1
  simp only [List.getElem?_toArray, List.getElem?_cons_zero, List.getElem?_cons_succ] at yb
  clear hb1 hol hqg hfr hdl hml hbad
  by_cases hlt : q < n1
  ·have d1 : decide ((q : Int) < (n1 : Int)) = true := decide_eq_true (by omega)
   have d2 : decide (q < n1) = true := decide_eq_true hlt
   cases o with
   | false =>
     simp only [Bool.not_false] at yb
     have HFIN : Hid (dLV n1 o1 l1 = (xs, false, m)) := Lib.hid (by rw [HDL.out, dLV_no]; simp)
     clear HDL hlt
     have HOL1 := Lib.hid HOL.out
     have HFR1 := Lib.hid HFR.out
     have HQ0 := Lib.hid HQ.out
     have HML0 := Lib.hid HML.out
     obtain ⟨n2, o2, l2, e2⟩ : ∃ x o' m', dM false m = (x, o', m') := ⟨_, _, _, rfl⟩
     have H2 := Lib.hid (fun W (h : Qe W S Y g false m) => qM_any W S Y g false m h _ _ _ e2)
     have hm2 : l2.length ≤ 20000 := by have := dM_le false m; rw [e2] at this; exact Nat.le_trans this HML.out
     have hf2 : n2 ≤ 20000 := by have := dM_few false m; rw [e2] at this; exact Nat.le_trans this hm2
     have HLDS : Hid (dLDs false m = dLD n2 o2 l2) := Lib.hid (by unfold dLDs; rw [e2])
     have HM1 := Lib.hid hm2
     have HCNq := Lib.hid hq
     have HCN0 := Lib.hid HCN.out
     have HCN := Lib.hid hf2
     unfold qp at H2
     clear e2 hm2 hf2 hq
     go_wp2_with fail
     with_reducible refine (H2.out _ HQ.out.rd).mono ?_
     rintro e w2 ⟨rfl, hq⟩
     have HB1 := Lib.hid (HB1.out.keep hq.2 (HQ.out.not HG.out))
     have HFR1 := Lib.hid (HFR.out.trans hq.2 (fun b hb => Or.inl (Or.inl hb)))
     have HOL1 := Lib.hid ((HOL.out.keep hq.2 (fun b hb => HQ.out.not (Nat.le_trans HGL.out hb)) (fun _ hb => hb.elim)).mono (S' := fun b => w1.heap.size ≤ b ∧ b < w2.heap.size) (T' := fun _ => False) (fun b hlt hb => ⟨hb, hlt⟩) (fun _ _ hb => hb) (fun _ _ h => h))
     have HQ := Lib.hid (HQ.out.call hq)
     have HWL0 := Lib.hid HWL.out
     have HWL : Hid (W1.heap.size < w2.heap.size) := Lib.hid HB1.out.lt
     have HGL0 := Lib.hid HGL.out
     have HGL : Hid (w.heap.size ≤ w2.heap.size) := Lib.hid HQ.out.size
     obtain ⟨q1, hq1⟩ : ∃ q1, q1 = q := ⟨_, rfl⟩
     obtain ⟨A1, hA1⟩ : ∃ A1, A1 = A := ⟨_, rfl⟩
     obtain ⟨c1, hc1⟩ : ∃ c1, c1 = c := ⟨_, rfl⟩
     obtain ⟨ys, hys⟩ : ∃ ys, ys = xs := ⟨_, rfl⟩
     subst hq1 hA1 hc1 hys
     have HFIN1 := Lib.hid HFIN.out
     clear HFIN hq HOL HFR HML yb d1 d2
     go_wp2_with fail
     go_loopw [16] (fun i wr => ∃ (q : Nat) (A : Option Addr) (c : Nat) (xs : List DV) (o : Bool) (m : List Nat), q ≤ n2 ∧ i = .int .i64 (q : Int) ∧ Blk wr W1.heap.size 31 #[.int .i64 k, .int .u64 0, .int .u32 0, .int .u64 0, .int .u64 0, .int .u32 0, .int .u32 0, .int .i64 0, .int .i64 0, .int .u32 0, .slice none 0 0, .slice none 0 0, .slice A1 q1 c1, .slice A q c, .int .u32 0] ∧ OwDV wr (fun b => w2.heap.size ≤ b) (fun _ => False) (.slice A q c) q xs ∧ QG w S Y g wr o m ∧ Fr w2 wr (fun b => S b ∨ b = W1.heap.size) ∧ dLD n2 o2 l2 = (xs ++ (dLD (n2 - q) o m).1, (dLD (n2 - q) o m).2) ∧ m.length ≤ 20000) (fun i _ => n2 - (intOf i).toNat)
     case atStart => exact ⟨0, none, 0, [], o2, l2, Nat.zero_le _, rfl, HB1.out, OwDV.nil_ _ _ _, HQ.out, Fr.refl _ _, by simp, HM1.out⟩
     case round =>
      clear HB1 HQ
      obtain ⟨q, A, c, xs, o, m, hq, rfl, hb1, hol, hqg, hfr, hdl, hml⟩ := hrel
      have HB1 := Lib.hid hb1
      have HOL := Lib.hid hol
      have HQ := Lib.hid hqg
      have HFR := Lib.hid hfr
      have HDL := Lib.hid hdl
      have HML := Lib.hid hml
      obtain ⟨qA, qn, qc, hbad⟩ := hqg.bad
      have yb := hbad.cell 1
      simp only [List.getElem?_toArray, List.getElem?_cons_zero, List.getElem?_cons_succ] at yb
      clear hb1 hol hqg hfr hdl hml hbad
      by_cases hlt : q < n2
      ·have d1 : decide ((q : Int) < (n2 : Int)) = true := decide_eq_true (by omega)
       have d2 : decide (q < n2) = true := decide_eq_true hlt
       cases o with
       | false =>
         simp only [Bool.not_false] at yb
         have HFIN : Hid (dLD n2 o2 l2 = (xs, false, m)) := Lib.hid (by rw [HDL.out, dLD_no]; simp)
         clear HDL hlt
         obtain ⟨x3, o3, l3, e3⟩ : ∃ x o' m', dN false m = (x, o', m') := ⟨_, _, _, rfl⟩
         have H3 := Lib.hid (fun W (h : Qe W S Y g false m) => qN_any W S Y g false m h _ _ _ e3)
         have HX3 : Hid (x3 < 4294967296) := Lib.hid (by have := dN_lt false m; rw [e3] at this; exact this)
         have HE3 := Lib.hid e3
         have HQB := Lib.hid hq
         unfold qp at H3
         clear e3 hq
         go_wp2_with fail
         with_reducible refine (H3.out _ HQ.out.rd).mono ?_
         rintro e w3 ⟨rfl, hq⟩
         have hb := HB1.out.keep hq.2 (HQ.out.not HG.out)
         have yc := hb.cell 14
         have yf := hb.frozen 14
         simp only [List.getElem?_toArray, List.getElem?_cons_zero, List.getElem?_cons_succ] at yc
         have HB3 : Hid (Blk (w3.setCell ⟨W1.heap.size, 14, none⟩ (.int .u32 (x3 : Int))) W1.heap.size 31 #[.int .i64 k, .int .u64 0, .int .u32 0, .int .u64 0, .int .u64 0, .int .u32 0, .int .u32 0, .int .i64 0, .int .i64 0, .int .u32 0, .slice none 0 0, .slice none 0 0, .slice A1 q1 c1, .slice A q c, .int .u32 (x3 : Int)]) := Lib.hid (hb.set_ 14 (.int .u32 (x3 : Int)))
         have HF3 : Hid (Fr w2 (w3.setCell ⟨W1.heap.size, 14, none⟩ (.int .u32 (x3 : Int))) (fun b => S b ∨ b = W1.heap.size)) := Lib.hid ((HFR.out.trans hq.2 (fun b hb => Or.inl (Or.inl hb))).setCell (p := ⟨W1.heap.size, 14, none⟩) (Or.inl (Or.inr rfl)) _)
         have HO3 := Lib.hid ((HOL.out.keep hq.2 (fun b hb => HQ.out.not (Nat.le_trans HGL.out hb)) (fun _ hb => hb.elim)).keep (fr_set (g := W1.heap.size) (Fr.refl _ _) 14 (.int .u32 (x3 : Int))) (fun b hb he => by have h9 : w2.heap.size ≤ b := hb; have h8 : b = W1.heap.size := he; have := HWL.out; omega) (fun _ hb => hb.elim))
         have HQ3 := Lib.hid ((HQ.out.call hq).set HG.out 14 (.int .u32 (x3 : Int)))
         have HDZ : Hid (Blk (w3.setCell ⟨W1.heap.size, 14, none⟩ (.int .u32 (x3 : Int))) w.heap.size 31 #[.int .i64 0, .int .u64 0, .int .u32 0, .int .u64 0, .int .u64 0, .int .u32 0, .int .u32 0, .int .i64 0, .int .i64 0, .int .u32 0, .slice none 0 0, .slice none 0 0, .slice none 0 0, .slice none 0 0, .int .u32 0]) := Lib.hid (((HD1.out.keep HFR1.out (fun h => by rcases h with h | h; exact (HQ.out.not (Nat.le_refl _)) h; exact HNE.out.1 h))).keep HF3.out (fun h => by rcases h with h | h; exact (HQ.out.not (Nat.le_refl _)) h; exact HNE.out.1 h))
         clear hq hb yb d1 d2
         go_wp2_with (first
          | (refine wpList_ldB rfl 31 (.tmp 5) rfl W1.heap.size rfl 31 #[.int .i64 k, .int .u64 0, .int .u32 0, .int .u64 0, .int .u64 0, .int .u32 0, .int .u32 0, .int .i64 0, .int .i64 0, .int .u32 0, .slice none 0 0, .slice none 0 0, .slice A1 q1 c1, .slice A q c, .int .u32 (x3 : Int)] _ HB3.out Tryz.underlying31 rfl size31 ?_)
          | (refine wpList_stB rfl 31 (.tmp 4) (.tmp 154) rfl w.heap.size #[.int .i64 k, .int .u64 0, .int .u32 0, .int .u64 0, .int .u64 0, .int .u32 0, .int .u32 0, .int .i64 0, .int .i64 0, .int .u32 0, .slice none 0 0, .slice none 0 0, .slice A1 q1 c1, .slice A q c, .int .u32 (x3 : Int)] rfl rfl 31 #[.int .i64 0, .int .u64 0, .int .u32 0, .int .u64 0, .int .u64 0, .int .u32 0, .int .u32 0, .int .i64 0, .int .i64 0, .int .u32 0, .slice none 0 0, .slice none 0 0, .slice none 0 0, .slice none 0 0, .int .u32 0] HDZ.out size31 rfl rfl ?_
             intro wz hbz hfz
             have HBZ := Lib.hid hbz
             have HFZ := Lib.hid hfz
             clear hbz hfz))
         refine bodyPost_ret (results_cell_row Tryz.results36 _ _ w.heap.size 31 _ (0, 0) _ rfl HBZ.out Tryz.underlying31 rfl size31) rfl ?_
         have hgl := HGL.out
         have hgl0 := HGL0.out
         have hne := HNE.out
         have hwl := HWL.out
         have hwl0 := HWL0.out
         have hrz := HQ3.out.fr HFZ.out (fun b hb => by omega)
         have hl1 := ((HOL1.out.keep HF3.out (fun b hb he => by have h9 : w1.heap.size ≤ b ∧ b < w2.heap.size := hb; rcases he with he | he; exact (HQ.out.not (Nat.le_trans hgl0 h9.1)) he; omega) (fun _ hb => hb.elim)).keep HFZ.out (fun b hb he => by have h9 : w1.heap.size ≤ b ∧ b < w2.heap.size := hb; omega) (fun _ hb => hb.elim)).reads (by have := HCNq.out; have := HCN0.out; omega)
         have hl2 := (HO3.out.keep HFZ.out (fun b hb he => by have h9 : w2.heap.size ≤ b := hb; omega) (fun _ hb => hb.elim)).reads (by have := HQB.out; have := HCN.out; omega)
         obtain ⟨_, _, el, _, _, _, hlr⟩ := hl1
         obtain ⟨_, _, ed, _, _, _, hdr⟩ := hl2
         injection el with el _ _
         injection ed with ed _ _
         rw [← el] at hlr
         rw [← ed] at hdr
         have hs := HS.out
         rw [HFIN1.out] at hs
         simp only at hs
         rw [HLDS.out, HFIN.out] at hs
         simp only [HE3.out] at hs
         rw [hs]
         refine ⟨⟨k, 0, 0, 0, 0, 0, 0, ⟨0, 0, 0, none, 0, 0, []⟩, none, 0, 0, [], A1, q1, c1, ys, A, q, c, xs, x3⟩, rfl, rfl, ?_, hrz.rd, hrz.2.2.2⟩
         exact ⟨HKB.out.1, HKB.out.2, (by show (0 : Nat) < _; decide), (by show (0 : Nat) < _; decide), (by show (0 : Nat) < _; decide), (by show (0 : Nat) < _; decide), (by show (0 : Nat) < _; decide), (by show (0 : Nat) < _; decide), ⟨RB.nil_, (by show (-9223372036854775808 : Int) ≤ 0; decide), (by show (0 : Int) ≤ 9223372036854775807; decide), (by show (-9223372036854775808 : Int) ≤ 0; decide), (by show (0 : Int) ≤ 9223372036854775807; decide), (by show (0 : Nat) < _; decide), Nat.le_refl _, Nat.zero_le _, fun _ => rfl⟩, ⟨rfl, (fun x hx => by cases hx), Nat.zero_le _, fun h => absurd h (Nat.lt_irrefl 0)⟩, hlr.mono (fun b _ hb => by rcases hb with hb | hb; exact Nat.le_trans hgl0 hb.1; exact hb.elim), hdr.mono (fun b _ hb => by rcases hb with hb | hb; exact Nat.le_trans hgl hb; exact hb.elim), HX3.out⟩
       | true =>
         simp only [Bool.not_true] at yb
         obtain ⟨t, ot, mt, et⟩ : ∃ x o' m', dN true m = (x, o', m') := ⟨_, _, _, rfl⟩
         obtain ⟨a, oa, ma, ea⟩ : ∃ x o' m', rI ot mt = (x, o', m') := ⟨_, _, _, rfl⟩
         have hdx : dD true m = (⟨t, a⟩, oa, ma) := by unfold dD; simp only [et, ea]
         have HT : Hid (t < 4294967296 ∧ a < 18446744073709551616) := Lib.hid (by
          have h1 := dN_lt true m
          have h2 := rI_lt ot mt
          rw [et] at h1
          rw [ea] at h2
          exact ⟨h1, h2⟩)
         have HDX : Hid (dLD n2 o2 l2 = ((xs ++ [⟨t, a⟩]) ++ (dLD (n2 - (q + 1)) oa ma).1, (dLD (n2 - (q + 1)) oa ma).2)) := Lib.hid (by
          rw [HDL.out, show n2 - q = (n2 - (q + 1)) + 1 by omega]
          simp only [dLD, if_true, hdx, List.append_assoc, List.singleton_append])
         have HMM : Hid (ma.length ≤ 20000) := Lib.hid (by have h1 := dD_le true m; rw [hdx] at h1; exact Nat.le_trans h1 HML.out)
         have Ht := Lib.hid (fun W (h : Qe W S Y g true m) => qN_any W S Y g true m h _ _ _ et)
         have Ha := Lib.hid (fun W (h : Qe W S Y g ot mt) => qI_any W S Y g ot mt h _ _ _ ea)
         have hWi : IntKind.i64.wrap ((q : Int) + 1) = ((q + 1 : Nat) : Int) := by rw [IntWalk.i64_in _ (by have := HCN.out; omega)]; omega
         have HQL := Lib.hid hlt
         clear HDL hdx et ea hlt
         unfold qp at Ht Ha
         go_wp2_with fail
         with_reducible refine (Ht.out _ HQ.out.rd).mono ?_
         rintro e wt ⟨rfl, hq⟩
         have hb1 := HB1.out.keep hq.2 (HQ.out.not HG.out)
         have hol := HOL.out.keep hq.2 (fun b hb => HQ.out.not (Nat.le_trans HGL.out hb)) (fun _ hb => hb.elim)
         have hqq := HQ.out.call hq
         have hfr := HFR.out.trans hq.2 (fun b hb => Or.inl (Or.inl hb))
         have HGX : Hid (w.heap.size ≤ wt.heap.size ∧ w2.heap.size ≤ wt.heap.size ∧ W1.heap.size < wt.heap.size) := Lib.hid ⟨hqq.size, hfr.size, Nat.lt_of_lt_of_le HWL.out hfr.size⟩
         have HB1 := Lib.hid (hb1.alloc (.cells #[.int .u32 (t : Int), .int .u64 0] 64))
         have HOL := Lib.hid ((hol.mono (S' := fun b => w2.heap.size ≤ b ∧ b < wt.heap.size) (T' := fun _ => False) (fun b hlt hb => ⟨hb, hlt⟩) (fun _ _ hb => hb) (fun _ _ h => h)).alloc (.cells #[.int .u32 (t : Int), .int .u64 0] 64))
         have HQ := Lib.hid (hqq.alloc (.cells #[.int .u32 (t : Int), .int .u64 0] 64))
         have HFR := Lib.hid (hfr.alloc (.cells #[.int .u32 (t : Int), .int .u64 0] 64))
         have HBX := Lib.hid (Blk.new wt 64 #[.int .u32 (t : Int), .int .u64 0])
         clear hq hb1 hol hqq hfr
         go_wp2_with fail
         with_reducible refine (Ha.out _ HQ.out.rd).mono ?_
         rintro e wa ⟨rfl, hq⟩
         have hb1 := HB1.out.keep hq.2 (HQ.out.not HG.out)
         have hol := HOL.out.keep hq.2 (fun b hb => HQ.out.not (Nat.le_trans HGL.out hb.1)) (fun _ hb => hb.elim)
         have hqq := HQ.out.call hq
         have hfr := HFR.out.trans hq.2 (fun b hb => Or.inl (Or.inl hb))
         have hbx := HBX.out.keep hq.2 (HQ.out.not HGX.out.1)
         have yc := hbx.cell 1
         have yf := hbx.frozen 1
         simp only [List.getElem?_toArray, List.getElem?_cons_zero, List.getElem?_cons_succ] at yc
         have HBX : Hid (Blk (wa.setCell ⟨wt.heap.size, 1, none⟩ (.int .u64 (a : Int))) wt.heap.size 64 #[.int .u32 (t : Int), .int .u64 (a : Int)]) := Lib.hid (hbx.set_ 1 (.int .u64 (a : Int)))
         have HB1 := Lib.hid (hb1.far (p := ⟨wt.heap.size, 1, none⟩) (by have := HGX.out; show W1.heap.size ≠ wt.heap.size; omega) (.int .u64 (a : Int)))
         have HOL := Lib.hid (hol.keep (fr_set (g := wt.heap.size) (Fr.refl _ _) 1 (.int .u64 (a : Int))) (fun b hb he => by have h9 : b < wt.heap.size := hb.2; have h8 : b = wt.heap.size := he; omega) (fun _ hb => hb.elim))
         have HQ := Lib.hid (hqq.set HGX.out.1 1 (.int .u64 (a : Int)))
         have HFR := Lib.hid (hfr.setCell (p := ⟨wt.heap.size, 1, none⟩) (Or.inr HGX.out.2.1) (.int .u64 (a : Int)))
         clear hq hb1 hol hqq hfr hbx
         have b0 := HBX.out.cell 0
         have b1 := HBX.out.cell 1
         have y13 := HB1.out.cell 13
         simp only [List.getElem?_toArray, List.getElem?_cons_zero, List.getElem?_cons_succ] at y13 b0 b1
         obtain ⟨wb, hwb⟩ : ∃ wb, wa.setCell ⟨wt.heap.size, 1, none⟩ (.int .u64 (a : Int)) = wb := ⟨_, rfl⟩
         rw [hwb] at HBX HB1 HOL HQ HFR y13 b0 b1
         have HOA := Lib.hid (HOL.out.alloc (.cells #[.int .u32 (t : Int), .int .u64 (a : Int)] 64))
         have HBN := Lib.hid (Blk.new wb 64 #[.int .u32 (t : Int), .int .u64 (a : Int)])
         have HIN : Hid (DV.In (wb.alloc (.cells #[.int .u32 (t : Int), .int .u64 (a : Int)] 64)) (fun _ => False) ⟨t, a⟩) := Lib.hid ⟨HT.out.1, HT.out.2⟩
         have HBD : Hid ((q + 1) * 16 ≤ 140737488355328) := Lib.hid (by have := HQL.out; have := HCN.out; omega)
         go_wp2_with (at_builtin; first
          | (refine wpList_appDV rfl (.tmp 146) (.tmp 148) rfl (.slice A q c) q xs rfl HOA.out wb.heap.size 1 ⟨t, a⟩ rfl HBN.out HIN.out HBD.out ?_
             intro v6 w6 ho6 hg6
             have hown : ∀ k, (Value.slice A q c).ownBlock = some k → w2.heap.size ≤ k := fun k hk => (HOL.out.2.2.1 k hk).1
             have hne : ∀ k, (Value.slice A q c).ownBlock = some k → W1.heap.size ≠ k := fun k hk => by have := hown k hk; have := HWL.out; omega
             obtain ⟨A6, c6, rfl, _, _, _, _⟩ := ho6.reads (by have := HQL.out; have := HCN.out; omega)
             have hb6 := (HB1.out.alloc (.cells #[.int .u32 (t : Int), .int .u64 (a : Int)] 64)).grown hg6 (fun he => hne _ he.symm rfl)
             have yc := hb6.cell 13
             have yf := hb6.frozen 13
             simp only [List.getElem?_toArray, List.getElem?_cons_zero, List.getElem?_cons_succ] at yc
             have HB6 : Hid (Blk (w6.setCell ⟨W1.heap.size, 13, none⟩ (.slice A6 (q + 1) c6)) W1.heap.size 31 #[.int .i64 k, .int .u64 0, .int .u32 0, .int .u64 0, .int .u64 0, .int .u32 0, .int .u32 0, .int .i64 0, .int .i64 0, .int .u32 0, .slice none 0 0, .slice none 0 0, .slice A1 q1 c1, .slice A6 (q + 1) c6, .int .u32 0]) := Lib.hid (hb6.set_ 13 (.slice A6 (q + 1) c6))
             have HO6 : Hid (OwDV (w6.setCell ⟨W1.heap.size, 13, none⟩ (.slice A6 (q + 1) c6)) (fun b => w2.heap.size ≤ b) (fun _ => False) (.slice A6 (q + 1) c6) (q + 1) (xs ++ [⟨t, a⟩])) := Lib.hid ((ho6.mono (S' := fun b => w2.heap.size ≤ b) (T' := fun _ => False) (fun b _ hb => by
              rcases hb with hb | hb
              ·exact hb.1
              ·exact Nat.le_trans HFR.out.size (Nat.le_trans (by simp) hb)) (fun _ _ hb => hb.1) (fun _ _ h => h)).keep (fr_set (g := W1.heap.size) (Fr.refl _ _) 13 (.slice A6 (q + 1) c6)) (fun b hb he => by have h9 : w2.heap.size ≤ b := hb; have h8 : b = W1.heap.size := he; have := HWL.out; omega) (fun _ hb => hb.elim))
             have HF6 : Hid (Fr w2 (w6.setCell ⟨W1.heap.size, 13, none⟩ (.slice A6 (q + 1) c6)) (fun b => S b ∨ b = W1.heap.size)) := Lib.hid (((HFR.out.alloc (.cells #[.int .u32 (t : Int), .int .u64 (a : Int)] 64)).grown hg6 (fun k hk => Or.inr (hown k hk))).setCell (p := ⟨W1.heap.size, 13, none⟩) (Or.inl (Or.inr rfl)) _)
             have HQ6 := Lib.hid (((HQ.out.alloc (.cells #[.int .u32 (t : Int), .int .u64 (a : Int)] 64)).grown hg6 (fun k hk => Nat.le_trans HGL.out (hown k hk))).set HG.out 13 (.slice A6 (q + 1) c6))
             clear ho6 hg6 hown hne hb6)
          | fail)
         go_roundw
         case rel => exact ⟨q + 1, A6, c6, xs ++ [⟨t, a⟩], oa, ma, by have := HQL.out; omega, by go_num, HB6.out, HO6.out, HQ6.out, HF6.out, HDX.out, HMM.out⟩
         case measure => have := HQL.out; simp [intOf]; omega
      ·have d1 : decide ((q : Int) < (n2 : Int)) = false := decide_eq_false (by omega)
       have d2 : decide (q < n2) = false := decide_eq_false hlt
       have HFIN : Hid (dLD n2 o2 l2 = (xs, o, m)) := Lib.hid (by rw [HDL.out, show n2 - q = 0 by omega]; simp [dLD])
       clear HDL hlt
       obtain ⟨x3, o3, l3, e3⟩ : ∃ x o' m', dN o m = (x, o', m') := ⟨_, _, _, rfl⟩
       have H3 := Lib.hid (fun W (h : Qe W S Y g o m) => qN_any W S Y g o m h _ _ _ e3)
       have HX3 : Hid (x3 < 4294967296) := Lib.hid (by have := dN_lt o m; rw [e3] at this; exact this)
       have HE3 := Lib.hid e3
       have HQB := Lib.hid hq
       unfold qp at H3
       clear e3 hq
       go_wp2_with fail
       with_reducible refine (H3.out _ HQ.out.rd).mono ?_
       rintro e w3 ⟨rfl, hq⟩
       have hb := HB1.out.keep hq.2 (HQ.out.not HG.out)
       have yc := hb.cell 14
       have yf := hb.frozen 14
       simp only [List.getElem?_toArray, List.getElem?_cons_zero, List.getElem?_cons_succ] at yc
       have HB3 : Hid (Blk (w3.setCell ⟨W1.heap.size, 14, none⟩ (.int .u32 (x3 : Int))) W1.heap.size 31 #[.int .i64 k, .int .u64 0, .int .u32 0, .int .u64 0, .int .u64 0, .int .u32 0, .int .u32 0, .int .i64 0, .int .i64 0, .int .u32 0, .slice none 0 0, .slice none 0 0, .slice A1 q1 c1, .slice A q c, .int .u32 (x3 : Int)]) := Lib.hid (hb.set_ 14 (.int .u32 (x3 : Int)))
       have HF3 : Hid (Fr w2 (w3.setCell ⟨W1.heap.size, 14, none⟩ (.int .u32 (x3 : Int))) (fun b => S b ∨ b = W1.heap.size)) := Lib.hid ((HFR.out.trans hq.2 (fun b hb => Or.inl (Or.inl hb))).setCell (p := ⟨W1.heap.size, 14, none⟩) (Or.inl (Or.inr rfl)) _)
       have HO3 := Lib.hid ((HOL.out.keep hq.2 (fun b hb => HQ.out.not (Nat.le_trans HGL.out hb)) (fun _ hb => hb.elim)).keep (fr_set (g := W1.heap.size) (Fr.refl _ _) 14 (.int .u32 (x3 : Int))) (fun b hb he => by have h9 : w2.heap.size ≤ b := hb; have h8 : b = W1.heap.size := he; have := HWL.out; omega) (fun _ hb => hb.elim))
       have HQ3 := Lib.hid ((HQ.out.call hq).set HG.out 14 (.int .u32 (x3 : Int)))
       have HDZ : Hid (Blk (w3.setCell ⟨W1.heap.size, 14, none⟩ (.int .u32 (x3 : Int))) w.heap.size 31 #[.int .i64 0, .int .u64 0, .int .u32 0, .int .u64 0, .int .u64 0, .int .u32 0, .int .u32 0, .int .i64 0, .int .i64 0, .int .u32 0, .slice none 0 0, .slice none 0 0, .slice none 0 0, .slice none 0 0, .int .u32 0]) := Lib.hid (((HD1.out.keep HFR1.out (fun h => by rcases h with h | h; exact (HQ.out.not (Nat.le_refl _)) h; exact HNE.out.1 h))).keep HF3.out (fun h => by rcases h with h | h; exact (HQ.out.not (Nat.le_refl _)) h; exact HNE.out.1 h))
       clear hq hb yb d1 d2
       go_wp2_with (first
        | (refine wpList_ldB rfl 31 (.tmp 5) rfl W1.heap.size rfl 31 #[.int .i64 k, .int .u64 0, .int .u32 0, .int .u64 0, .int .u64 0, .int .u32 0, .int .u32 0, .int .i64 0, .int .i64 0, .int .u32 0, .slice none 0 0, .slice none 0 0, .slice A1 q1 c1, .slice A q c, .int .u32 (x3 : Int)] _ HB3.out Tryz.underlying31 rfl size31 ?_)
        | (refine wpList_stB rfl 31 (.tmp 4) (.tmp 154) rfl w.heap.size #[.int .i64 k, .int .u64 0, .int .u32 0, .int .u64 0, .int .u64 0, .int .u32 0, .int .u32 0, .int .i64 0, .int .i64 0, .int .u32 0, .slice none 0 0, .slice none 0 0, .slice A1 q1 c1, .slice A q c, .int .u32 (x3 : Int)] rfl rfl 31 #[.int .i64 0, .int .u64 0, .int .u32 0, .int .u64 0, .int .u64 0, .int .u32 0, .int .u32 0, .int .i64 0, .int .i64 0, .int .u32 0, .slice none 0 0, .slice none 0 0, .slice none 0 0, .slice none 0 0, .int .u32 0] HDZ.out size31 rfl rfl ?_
           intro wz hbz hfz
           have HBZ := Lib.hid hbz
           have HFZ := Lib.hid hfz
           clear hbz hfz))
       refine bodyPost_ret (results_cell_row Tryz.results36 _ _ w.heap.size 31 _ (0, 0) _ rfl HBZ.out Tryz.underlying31 rfl size31) rfl ?_
       have hgl := HGL.out
       have hgl0 := HGL0.out
       have hne := HNE.out
       have hwl := HWL.out
       have hwl0 := HWL0.out
       have hrz := HQ3.out.fr HFZ.out (fun b hb => by omega)
       have hl1 := ((HOL1.out.keep HF3.out (fun b hb he => by have h9 : w1.heap.size ≤ b ∧ b < w2.heap.size := hb; rcases he with he | he; exact (HQ.out.not (Nat.le_trans hgl0 h9.1)) he; omega) (fun _ hb => hb.elim)).keep HFZ.out (fun b hb he => by have h9 : w1.heap.size ≤ b ∧ b < w2.heap.size := hb; omega) (fun _ hb => hb.elim)).reads (by have := HCNq.out; have := HCN0.out; omega)
       have hl2 := (HO3.out.keep HFZ.out (fun b hb he => by have h9 : w2.heap.size ≤ b := hb; omega) (fun _ hb => hb.elim)).reads (by have := HQB.out; have := HCN.out; omega)
       obtain ⟨_, _, el, _, _, _, hlr⟩ := hl1
       obtain ⟨_, _, ed, _, _, _, hdr⟩ := hl2
       injection el with el _ _
       injection ed with ed _ _
       rw [← el] at hlr
       rw [← ed] at hdr
       have hs := HS.out
       rw [HFIN1.out] at hs
       simp only at hs
       rw [HLDS.out, HFIN.out] at hs
       simp only [HE3.out] at hs
       rw [hs]
       refine ⟨⟨k, 0, 0, 0, 0, 0, 0, ⟨0, 0, 0, none, 0, 0, []⟩, none, 0, 0, [], A1, q1, c1, ys, A, q, c, xs, x3⟩, rfl, rfl, ?_, hrz.rd, hrz.2.2.2⟩
       exact ⟨HKB.out.1, HKB.out.2, (by show (0 : Nat) < _; decide), (by show (0 : Nat) < _; decide), (by show (0 : Nat) < _; decide), (by show (0 : Nat) < _; decide), (by show (0 : Nat) < _; decide), (by show (0 : Nat) < _; decide), ⟨RB.nil_, (by show (-9223372036854775808 : Int) ≤ 0; decide), (by show (0 : Int) ≤ 9223372036854775807; decide), (by show (-9223372036854775808 : Int) ≤ 0; decide), (by show (0 : Int) ≤ 9223372036854775807; decide), (by show (0 : Nat) < _; decide), Nat.le_refl _, Nat.zero_le _, fun _ => rfl⟩, ⟨rfl, (fun x hx => by cases hx), Nat.zero_le _, fun h => absurd h (Nat.lt_irrefl 0)⟩, hlr.mono (fun b _ hb => by rcases hb with hb | hb; exact Nat.le_trans hgl0 hb.1; exact hb.elim), hdr.mono (fun b _ hb => by rcases hb with hb | hb; exact Nat.le_trans hgl hb; exact hb.elim), HX3.out⟩
   | true =>
     simp only [Bool.not_true] at yb
     obtain ⟨t, ot, mt, et⟩ : ∃ x o' m', dN true m = (x, o', m') := ⟨_, _, _, rfl⟩
     obtain ⟨a, oa, ma, ea⟩ : ∃ x o' m', rI ot mt = (x, o', m') := ⟨_, _, _, rfl⟩
     obtain ⟨b, ob, mb, eb⟩ : ∃ x o' m', rI oa ma = (x, o', m') := ⟨_, _, _, rfl⟩
     obtain ⟨z, oz, mz, ez⟩ : ∃ x o' m', rB ob mb = (x, o', m') := ⟨_, _, _, rfl⟩
     obtain ⟨zb, hzb⟩ : ∃ zb, zb = decide (z = 1) := ⟨_, rfl⟩
     have hz1 : ((z : Int) == 1) = zb := by
      rw [hzb]
      by_cases h1 : z = 1
      ·subst h1; rfl
      ·rw [decide_eq_false h1]; exact beq_false_of_ne (by omega)
     have hdx : dV true m = (⟨t, a, b, zb⟩, oz, mz) := by unfold dV; simp only [et, ea, eb, ez, hzb]
     have HT : Hid (t < 4294967296 ∧ a < 18446744073709551616 ∧ b < 18446744073709551616) := Lib.hid (by
      have h1 := dN_lt true m
      have h2 := rI_lt ot mt
      have h3 := rI_lt oa ma
      rw [eb] at h3
      rw [et] at h1
      rw [ea] at h2
      exact ⟨h1, h2, h3⟩)
     have HDX : Hid (dLV n1 o1 l1 = ((xs ++ [⟨t, a, b, zb⟩]) ++ (dLV (n1 - (q + 1)) oz mz).1, (dLV (n1 - (q + 1)) oz mz).2)) := Lib.hid (by
      rw [HDL.out, show n1 - q = (n1 - (q + 1)) + 1 by omega]
      simp only [dLV, if_true, hdx, List.append_assoc, List.singleton_append])
     have HMM : Hid (mz.length ≤ 20000) := Lib.hid (by have h1 := dV_le true m; rw [hdx] at h1; exact Nat.le_trans h1 HML.out)
     have Ht := Lib.hid (fun W (h : Qe W S Y g true m) => qN_any W S Y g true m h _ _ _ et)
     have Ha := Lib.hid (fun W (h : Qe W S Y g ot mt) => qI_any W S Y g ot mt h _ _ _ ea)
     have Hb := Lib.hid (fun W (h : Qe W S Y g oa ma) => qI_any W S Y g oa ma h _ _ _ eb)
     have Hz := Lib.hid (fun W (h : Qe W S Y g ob mb) => qB_any W S Y g ob mb h _ _ _ ez)
     have hWi : IntKind.i64.wrap ((q : Int) + 1) = ((q + 1 : Nat) : Int) := by rw [IntWalk.i64_in _ (by have := HCN.out; omega)]; omega
     have HQL := Lib.hid hlt
     clear HDL hdx et ea eb ez hzb hlt
     unfold qp at Ht Ha Hb Hz
     go_wp2_with fail
     with_reducible refine (Ht.out _ HQ.out.rd).mono ?_
     rintro e wt ⟨rfl, hq⟩
     have hb1 := HB1.out.keep hq.2 (HQ.out.not HG.out)
     have hol := HOL.out.keep hq.2 (fun b hb => HQ.out.not (Nat.le_trans HGL.out hb)) (fun _ hb => hb.elim)
     have hqq := HQ.out.call hq
     have hfr := HFR.out.trans hq.2 (fun b hb => Or.inl (Or.inl hb))
     have HGX : Hid (w.heap.size ≤ wt.heap.size ∧ w1.heap.size ≤ wt.heap.size ∧ W1.heap.size < wt.heap.size) := Lib.hid ⟨hqq.size, hfr.size, Nat.lt_of_lt_of_le HWL.out hfr.size⟩
     have HB1 := Lib.hid (hb1.alloc (.cells #[.int .u32 (t : Int), .int .u64 0, .int .u64 0, .bool false] 62))
     have HOL := Lib.hid ((hol.mono (S' := fun b => w1.heap.size ≤ b ∧ b < wt.heap.size) (T' := fun _ => False) (fun b hlt hb => ⟨hb, hlt⟩) (fun _ _ hb => hb) (fun _ _ h => h)).alloc (.cells #[.int .u32 (t : Int), .int .u64 0, .int .u64 0, .bool false] 62))
     have HQ := Lib.hid (hqq.alloc (.cells #[.int .u32 (t : Int), .int .u64 0, .int .u64 0, .bool false] 62))
     have HFR := Lib.hid (hfr.alloc (.cells #[.int .u32 (t : Int), .int .u64 0, .int .u64 0, .bool false] 62))
     have HBX := Lib.hid (Blk.new wt 62 #[.int .u32 (t : Int), .int .u64 0, .int .u64 0, .bool false])
     clear hq hb1 hol hqq hfr
     go_wp2_with fail
     with_reducible refine (Ha.out _ HQ.out.rd).mono ?_
     rintro e wa ⟨rfl, hq⟩
     have hb1 := HB1.out.keep hq.2 (HQ.out.not HG.out)
     have hol := HOL.out.keep hq.2 (fun b hb => HQ.out.not (Nat.le_trans HGL.out hb.1)) (fun _ hb => hb.elim)
     have hqq := HQ.out.call hq
     have hfr := HFR.out.trans hq.2 (fun b hb => Or.inl (Or.inl hb))
     have hbx := HBX.out.keep hq.2 (HQ.out.not HGX.out.1)
     have yc := hbx.cell 1
     have yf := hbx.frozen 1
     simp only [List.getElem?_toArray, List.getElem?_cons_zero, List.getElem?_cons_succ] at yc
     have HBX : Hid (Blk (wa.setCell ⟨wt.heap.size, 1, none⟩ (.int .u64 (a : Int))) wt.heap.size 62 #[.int .u32 (t : Int), .int .u64 (a : Int), .int .u64 0, .bool false]) := Lib.hid (hbx.set_ 1 (.int .u64 (a : Int)))
     have HB1 := Lib.hid (hb1.far (p := ⟨wt.heap.size, 1, none⟩) (by have := HGX.out; show W1.heap.size ≠ wt.heap.size; omega) (.int .u64 (a : Int)))
     have HOL := Lib.hid (hol.keep (fr_set (g := wt.heap.size) (Fr.refl _ _) 1 (.int .u64 (a : Int))) (fun b hb he => by have h9 : b < wt.heap.size := hb.2; have h8 : b = wt.heap.size := he; omega) (fun _ hb => hb.elim))
     have HQ := Lib.hid (hqq.set HGX.out.1 1 (.int .u64 (a : Int)))
     have HFR := Lib.hid (hfr.setCell (p := ⟨wt.heap.size, 1, none⟩) (Or.inr HGX.out.2.1) (.int .u64 (a : Int)))
     clear hq hb1 hol hqq hfr hbx
     go_wp2_with fail
     with_reducible refine (Hb.out _ HQ.out.rd).mono ?_
     rintro e wb ⟨rfl, hq⟩
     have hb1 := HB1.out.keep hq.2 (HQ.out.not HG.out)
     have hol := HOL.out.keep hq.2 (fun b hb => HQ.out.not (Nat.le_trans HGL.out hb.1)) (fun _ hb => hb.elim)
     have hqq := HQ.out.call hq
     have hfr := HFR.out.trans hq.2 (fun b hb => Or.inl (Or.inl hb))
     have hbx := HBX.out.keep hq.2 (HQ.out.not HGX.out.1)
     have yc := hbx.cell 2
     have yf := hbx.frozen 2
     simp only [List.getElem?_toArray, List.getElem?_cons_zero, List.getElem?_cons_succ] at yc
     have HBX : Hid (Blk (wb.setCell ⟨wt.heap.size, 2, none⟩ (.int .u64 (b : Int))) wt.heap.size 62 #[.int .u32 (t : Int), .int .u64 (a : Int), .int .u64 (b : Int), .bool false]) := Lib.hid (hbx.set_ 2 (.int .u64 (b : Int)))
     have HB1 := Lib.hid (hb1.far (p := ⟨wt.heap.size, 2, none⟩) (by have := HGX.out; show W1.heap.size ≠ wt.heap.size; omega) (.int .u64 (b : Int)))
     have HOL := Lib.hid (hol.keep (fr_set (g := wt.heap.size) (Fr.refl _ _) 2 (.int .u64 (b : Int))) (fun b hb he => by have h9 : b < wt.heap.size := hb.2; have h8 : b = wt.heap.size := he; omega) (fun _ hb => hb.elim))
     have HQ := Lib.hid (hqq.set HGX.out.1 2 (.int .u64 (b : Int)))
     have HFR := Lib.hid (hfr.setCell (p := ⟨wt.heap.size, 2, none⟩) (Or.inr HGX.out.2.1) (.int .u64 (b : Int)))
     clear hq hb1 hol hqq hfr hbx
     go_wp2_with fail
     with_reducible refine (Hz.out _ HQ.out.rd).mono ?_
     rintro e wz ⟨rfl, hq⟩
     have hb1 := HB1.out.keep hq.2 (HQ.out.not HG.out)
     have hol := HOL.out.keep hq.2 (fun b hb => HQ.out.not (Nat.le_trans HGL.out hb.1)) (fun _ hb => hb.elim)
     have hqq := HQ.out.call hq
     have hfr := HFR.out.trans hq.2 (fun b hb => Or.inl (Or.inl hb))
     have hbx := HBX.out.keep hq.2 (HQ.out.not HGX.out.1)
     have yc := hbx.cell 3
     have yf := hbx.frozen 3
     simp only [List.getElem?_toArray, List.getElem?_cons_zero, List.getElem?_cons_succ] at yc
     have HBX : Hid (Blk (wz.setCell ⟨wt.heap.size, 3, none⟩ (.bool zb)) wt.heap.size 62 #[.int .u32 (t : Int), .int .u64 (a : Int), .int .u64 (b : Int), .bool zb]) := Lib.hid (hbx.set_ 3 (.bool zb))
     have HB1 := Lib.hid (hb1.far (p := ⟨wt.heap.size, 3, none⟩) (by have := HGX.out; show W1.heap.size ≠ wt.heap.size; omega) (.bool zb))
     have HOL := Lib.hid (hol.keep (fr_set (g := wt.heap.size) (Fr.refl _ _) 3 (.bool zb)) (fun b hb he => by have h9 : b < wt.heap.size := hb.2; have h8 : b = wt.heap.size := he; omega) (fun _ hb => hb.elim))
     have HQ := Lib.hid (hqq.set HGX.out.1 3 (.bool zb))
     have HFR := Lib.hid (hfr.setCell (p := ⟨wt.heap.size, 3, none⟩) (Or.inr HGX.out.2.1) (.bool zb))
     clear hq hb1 hol hqq hfr hbx
     have b0 := HBX.out.cell 0
     have b1 := HBX.out.cell 1
     have b2 := HBX.out.cell 2
     have b3 := HBX.out.cell 3
     have y12 := HB1.out.cell 12
     simp only [List.getElem?_toArray, List.getElem?_cons_zero, List.getElem?_cons_succ] at y12 b0 b1 b2 b3
     obtain ⟨wb, hwb⟩ : ∃ wb, wz.setCell ⟨wt.heap.size, 3, none⟩ (.bool zb) = wb := ⟨_, rfl⟩
     rw [hwb] at HBX HB1 HOL HQ HFR y12 b0 b1 b2 b3
     have HOA := Lib.hid (HOL.out.alloc (.cells #[.int .u32 (t : Int), .int .u64 (a : Int), .int .u64 (b : Int), .bool zb] 62))
     have HBN := Lib.hid (Blk.new wb 62 #[.int .u32 (t : Int), .int .u64 (a : Int), .int .u64 (b : Int), .bool zb])
     have HIN : Hid (LV.In (wb.alloc (.cells #[.int .u32 (t : Int), .int .u64 (a : Int), .int .u64 (b : Int), .bool zb] 62)) (fun _ => False) ⟨t, a, b, zb⟩) := Lib.hid ⟨HT.out.1, HT.out.2.1, HT.out.2.2⟩
     have HBD : Hid ((q + 1) * 32 ≤ 140737488355328) := Lib.hid (by have := HQL.out; have := HCN.out; omega)
     go_wp2_with (at_builtin; first
      | (refine wpList_appLV rfl (.tmp 120) (.tmp 122) rfl (.slice A q c) q xs rfl HOA.out wb.heap.size 1 ⟨t, a, b, zb⟩ rfl HBN.out HIN.out HBD.out ?_
         intro v6 w6 ho6 hg6
         have hown : ∀ k, (Value.slice A q c).ownBlock = some k → w1.heap.size ≤ k := fun k hk => (HOL.out.2.2.1 k hk).1
         have hne : ∀ k, (Value.slice A q c).ownBlock = some k → W1.heap.size ≠ k := fun k hk => by have := hown k hk; have := HWL.out; omega
         obtain ⟨A6, c6, rfl, _, _, _, _⟩ := ho6.reads (by have := HQL.out; have := HCN.out; omega)
         have hb6 := (HB1.out.alloc (.cells #[.int .u32 (t : Int), .int .u64 (a : Int), .int .u64 (b : Int), .bool zb] 62)).grown hg6 (fun he => hne _ he.symm rfl)
         have yc := hb6.cell 12
         have yf := hb6.frozen 12
         simp only [List.getElem?_toArray, List.getElem?_cons_zero, List.getElem?_cons_succ] at yc
         have HB6 : Hid (Blk (w6.setCell ⟨W1.heap.size, 12, none⟩ (.slice A6 (q + 1) c6)) W1.heap.size 31 #[.int .i64 k, .int .u64 0, .int .u32 0, .int .u64 0, .int .u64 0, .int .u32 0, .int .u32 0, .int .i64 0, .int .i64 0, .int .u32 0, .slice none 0 0, .slice none 0 0, .slice A6 (q + 1) c6, .slice none 0 0, .int .u32 0]) := Lib.hid (hb6.set_ 12 (.slice A6 (q + 1) c6))
         have HO6 : Hid (OwLV (w6.setCell ⟨W1.heap.size, 12, none⟩ (.slice A6 (q + 1) c6)) (fun b => w1.heap.size ≤ b) (fun _ => False) (.slice A6 (q + 1) c6) (q + 1) (xs ++ [⟨t, a, b, zb⟩])) := Lib.hid ((ho6.mono (S' := fun b => w1.heap.size ≤ b) (T' := fun _ => False) (fun b _ hb => by
          rcases hb with hb | hb
          ·exact hb.1
          ·exact Nat.le_trans HFR.out.size (Nat.le_trans (by simp) hb)) (fun _ _ hb => hb.1) (fun _ _ h => h)).keep (fr_set (g := W1.heap.size) (Fr.refl _ _) 12 (.slice A6 (q + 1) c6)) (fun b hb he => by have h9 : w1.heap.size ≤ b := hb; have h8 : b = W1.heap.size := he; have := HWL.out; omega) (fun _ hb => hb.elim))
         have HF6 : Hid (Fr w1 (w6.setCell ⟨W1.heap.size, 12, none⟩ (.slice A6 (q + 1) c6)) (fun b => S b ∨ b = W1.heap.size)) := Lib.hid (((HFR.out.alloc (.cells #[.int .u32 (t : Int), .int .u64 (a : Int), .int .u64 (b : Int), .bool zb] 62)).grown hg6 (fun k hk => Or.inr (hown k hk))).setCell (p := ⟨W1.heap.size, 12, none⟩) (Or.inl (Or.inr rfl)) _)
         have HQ6 := Lib.hid (((HQ.out.alloc (.cells #[.int .u32 (t : Int), .int .u64 (a : Int), .int .u64 (b : Int), .bool zb] 62)).grown hg6 (fun k hk => Nat.le_trans HGL.out (hown k hk))).set HG.out 12 (.slice A6 (q + 1) c6))
         clear ho6 hg6 hown hne hb6)
      | fail)
     go_roundw
     case rel => exact ⟨q + 1, A6, c6, xs ++ [⟨t, a, b, zb⟩], oz, mz, by have := HQL.out; omega, by go_num, HB6.out, HO6.out, HQ6.out, HF6.out, HDX.out, HMM.out⟩
     case measure => have := HQL.out; simp [intOf]; omega
  ·have d1 : decide ((q : Int) < (n1 : Int)) = false := decide_eq_false (by omega)
   have d2 : decide (q < n1) = false := decide_eq_false hlt
   have HFIN : Hid (dLV n1 o1 l1 = (xs, o, m)) := Lib.hid (by rw [HDL.out, show n1 - q = 0 by omega]; simp [dLV])
   clear HDL hlt
   have HOL1 := Lib.hid HOL.out
   have HFR1 := Lib.hid HFR.out
   have HQ0 := Lib.hid HQ.out
   have HML0 := Lib.hid HML.out
   obtain ⟨n2, o2, l2, e2⟩ : ∃ x o' m', dM o m = (x, o', m') := ⟨_, _, _, rfl⟩
   have H2 := Lib.hid (fun W (h : Qe W S Y g o m) => qM_any W S Y g o m h _ _ _ e2)
   have hm2 : l2.length ≤ 20000 := by have := dM_le o m; rw [e2] at this; exact Nat.le_trans this HML.out
   have hf2 : n2 ≤ 20000 := by have := dM_few o m; rw [e2] at this; exact Nat.le_trans this hm2
   have HLDS : Hid (dLDs o m = dLD n2 o2 l2) := Lib.hid (by unfold dLDs; rw [e2])
   have HM1 := Lib.hid hm2
   have HCNq := Lib.hid hq
   have HCN0 := Lib.hid HCN.out
   have HCN := Lib.hid hf2
   unfold qp at H2
   clear e2 hm2 hf2 hq
   go_wp2_with fail
   with_reducible refine (H2.out _ HQ.out.rd).mono ?_
   rintro e w2 ⟨rfl, hq⟩
   have HB1 := Lib.hid (HB1.out.keep hq.2 (HQ.out.not HG.out))
   have HFR1 := Lib.hid (HFR.out.trans hq.2 (fun b hb => Or.inl (Or.inl hb)))
   have HOL1 := Lib.hid ((HOL.out.keep hq.2 (fun b hb => HQ.out.not (Nat.le_trans HGL.out hb)) (fun _ hb => hb.elim)).mono (S' := fun b => w1.heap.size ≤ b ∧ b < w2.heap.size) (T' := fun _ => False) (fun b hlt hb => ⟨hb, hlt⟩) (fun _ _ hb => hb) (fun _ _ h => h))
   have HQ := Lib.hid (HQ.out.call hq)
   have HWL0 := Lib.hid HWL.out
   have HWL : Hid (W1.heap.size < w2.heap.size) := Lib.hid HB1.out.lt
   have HGL0 := Lib.hid HGL.out
   have HGL : Hid (w.heap.size ≤ w2.heap.size) := Lib.hid HQ.out.size
   obtain ⟨q1, hq1⟩ : ∃ q1, q1 = q := ⟨_, rfl⟩
   obtain ⟨A1, hA1⟩ : ∃ A1, A1 = A := ⟨_, rfl⟩
   obtain ⟨c1, hc1⟩ : ∃ c1, c1 = c := ⟨_, rfl⟩
   obtain ⟨ys, hys⟩ : ∃ ys, ys = xs := ⟨_, rfl⟩
   subst hq1 hA1 hc1 hys
   have HFIN1 := Lib.hid HFIN.out
   clear HFIN hq HOL HFR HML yb d1 d2
   go_wp2_with fail
   go_loopw [16] (fun i wr => ∃ (q : Nat) (A : Option Addr) (c : Nat) (xs : List DV) (o : Bool) (m : List Nat), q ≤ n2 ∧ i = .int .i64 (q : Int) ∧ Blk wr W1.heap.size 31 #[.int .i64 k, .int .u64 0, .int .u32 0, .int .u64 0, .int .u64 0, .int .u32 0, .int .u32 0, .int .i64 0, .int .i64 0, .int .u32 0, .slice none 0 0, .slice none 0 0, .slice A1 q1 c1, .slice A q c, .int .u32 0] ∧ OwDV wr (fun b => w2.heap.size ≤ b) (fun _ => False) (.slice A q c) q xs ∧ QG w S Y g wr o m ∧ Fr w2 wr (fun b => S b ∨ b = W1.heap.size) ∧ dLD n2 o2 l2 = (xs ++ (dLD (n2 - q) o m).1, (dLD (n2 - q) o m).2) ∧ m.length ≤ 20000) (fun i _ => n2 - (intOf i).toNat)
   case atStart => exact ⟨0, none, 0, [], o2, l2, Nat.zero_le _, rfl, HB1.out, OwDV.nil_ _ _ _, HQ.out, Fr.refl _ _, by simp, HM1.out⟩
   case round =>
    clear HB1 HQ
    obtain ⟨q, A, c, xs, o, m, hq, rfl, hb1, hol, hqg, hfr, hdl, hml⟩ := hrel
    have HB1 := Lib.hid hb1
    have HOL := Lib.hid hol
    have HQ := Lib.hid hqg
    have HFR := Lib.hid hfr
    have HDL := Lib.hid hdl
    have HML := Lib.hid hml
    obtain ⟨qA, qn, qc, hbad⟩ := hqg.bad
    have yb := hbad.cell 1
    simp only [List.getElem?_toArray, List.getElem?_cons_zero, List.getElem?_cons_succ] at yb
    clear hb1 hol hqg hfr hdl hml hbad
    by_cases hlt : q < n2
    ·have d1 : decide ((q : Int) < (n2 : Int)) = true := decide_eq_true (by omega)
     have d2 : decide (q < n2) = true := decide_eq_true hlt
     cases o with
     | false =>
       simp only [Bool.not_false] at yb
       have HFIN : Hid (dLD n2 o2 l2 = (xs, false, m)) := Lib.hid (by rw [HDL.out, dLD_no]; simp)
       clear HDL hlt
       obtain ⟨x3, o3, l3, e3⟩ : ∃ x o' m', dN false m = (x, o', m') := ⟨_, _, _, rfl⟩
       have H3 := Lib.hid (fun W (h : Qe W S Y g false m) => qN_any W S Y g false m h _ _ _ e3)
       have HX3 : Hid (x3 < 4294967296) := Lib.hid (by have := dN_lt false m; rw [e3] at this; exact this)
       have HE3 := Lib.hid e3
       have HQB := Lib.hid hq
       unfold qp at H3
       clear e3 hq
       go_wp2_with fail
       with_reducible refine (H3.out _ HQ.out.rd).mono ?_
       rintro e w3 ⟨rfl, hq⟩
       have hb := HB1.out.keep hq.2 (HQ.out.not HG.out)
       have yc := hb.cell 14
       have yf := hb.frozen 14
       simp only [List.getElem?_toArray, List.getElem?_cons_zero, List.getElem?_cons_succ] at yc
       have HB3 : Hid (Blk (w3.setCell ⟨W1.heap.size, 14, none⟩ (.int .u32 (x3 : Int))) W1.heap.size 31 #[.int .i64 k, .int .u64 0, .int .u32 0, .int .u64 0, .int .u64 0, .int .u32 0, .int .u32 0, .int .i64 0, .int .i64 0, .int .u32 0, .slice none 0 0, .slice none 0 0, .slice A1 q1 c1, .slice A q c, .int .u32 (x3 : Int)]) := Lib.hid (hb.set_ 14 (.int .u32 (x3 : Int)))
       have HF3 : Hid (Fr w2 (w3.setCell ⟨W1.heap.size, 14, none⟩ (.int .u32 (x3 : Int))) (fun b => S b ∨ b = W1.heap.size)) := Lib.hid ((HFR.out.trans hq.2 (fun b hb => Or.inl (Or.inl hb))).setCell (p := ⟨W1.heap.size, 14, none⟩) (Or.inl (Or.inr rfl)) _)
       have HO3 := Lib.hid ((HOL.out.keep hq.2 (fun b hb => HQ.out.not (Nat.le_trans HGL.out hb)) (fun _ hb => hb.elim)).keep (fr_set (g := W1.heap.size) (Fr.refl _ _) 14 (.int .u32 (x3 : Int))) (fun b hb he => by have h9 : w2.heap.size ≤ b := hb; have h8 : b = W1.heap.size := he; have := HWL.out; omega) (fun _ hb => hb.elim))
       have HQ3 := Lib.hid ((HQ.out.call hq).set HG.out 14 (.int .u32 (x3 : Int)))
       have HDZ : Hid (Blk (w3.setCell ⟨W1.heap.size, 14, none⟩ (.int .u32 (x3 : Int))) w.heap.size 31 #[.int .i64 0, .int .u64 0, .int .u32 0, .int .u64 0, .int .u64 0, .int .u32 0, .int .u32 0, .int .i64 0, .int .i64 0, .int .u32 0, .slice none 0 0, .slice none 0 0, .slice none 0 0, .slice none 0 0, .int .u32 0]) := Lib.hid (((HD1.out.keep HFR1.out (fun h => by rcases h with h | h; exact (HQ.out.not (Nat.le_refl _)) h; exact HNE.out.1 h))).keep HF3.out (fun h => by rcases h with h | h; exact (HQ.out.not (Nat.le_refl _)) h; exact HNE.out.1 h))
       clear hq hb yb d1 d2
       go_wp2_with (first
        | (refine wpList_ldB rfl 31 (.tmp 5) rfl W1.heap.size rfl 31 #[.int .i64 k, .int .u64 0, .int .u32 0, .int .u64 0, .int .u64 0, .int .u32 0, .int .u32 0, .int .i64 0, .int .i64 0, .int .u32 0, .slice none 0 0, .slice none 0 0, .slice A1 q1 c1, .slice A q c, .int .u32 (x3 : Int)] _ HB3.out Tryz.underlying31 rfl size31 ?_)
        | (refine wpList_stB rfl 31 (.tmp 4) (.tmp 154) rfl w.heap.size #[.int .i64 k, .int .u64 0, .int .u32 0, .int .u64 0, .int .u64 0, .int .u32 0, .int .u32 0, .int .i64 0, .int .i64 0, .int .u32 0, .slice none 0 0, .slice none 0 0, .slice A1 q1 c1, .slice A q c, .int .u32 (x3 : Int)] rfl rfl 31 #[.int .i64 0, .int .u64 0, .int .u32 0, .int .u64 0, .int .u64 0, .int .u32 0, .int .u32 0, .int .i64 0, .int .i64 0, .int .u32 0, .slice none 0 0, .slice none 0 0, .slice none 0 0, .slice none 0 0, .int .u32 0] HDZ.out size31 rfl rfl ?_
           intro wz hbz hfz
           have HBZ := Lib.hid hbz
           have HFZ := Lib.hid hfz
           clear hbz hfz))
       refine bodyPost_ret (results_cell_row Tryz.results36 _ _ w.heap.size 31 _ (0, 0) _ rfl HBZ.out Tryz.underlying31 rfl size31) rfl ?_
       have hgl := HGL.out
       have hgl0 := HGL0.out
       have hne := HNE.out
       have hwl := HWL.out
       have hwl0 := HWL0.out
       have hrz := HQ3.out.fr HFZ.out (fun b hb => by omega)
       have hl1 := ((HOL1.out.keep HF3.out (fun b hb he => by have h9 : w1.heap.size ≤ b ∧ b < w2.heap.size := hb; rcases he with he | he; exact (HQ.out.not (Nat.le_trans hgl0 h9.1)) he; omega) (fun _ hb => hb.elim)).keep HFZ.out (fun b hb he => by have h9 : w1.heap.size ≤ b ∧ b < w2.heap.size := hb; omega) (fun _ hb => hb.elim)).reads (by have := HCNq.out; have := HCN0.out; omega)
       have hl2 := (HO3.out.keep HFZ.out (fun b hb he => by have h9 : w2.heap.size ≤ b := hb; omega) (fun _ hb => hb.elim)).reads (by have := HQB.out; have := HCN.out; omega)
       obtain ⟨_, _, el, _, _, _, hlr⟩ := hl1
       obtain ⟨_, _, ed, _, _, _, hdr⟩ := hl2
       injection el with el _ _
       injection ed with ed _ _
       rw [← el] at hlr
       rw [← ed] at hdr
       have hs := HS.out
       rw [HFIN1.out] at hs
       simp only at hs
       rw [HLDS.out, HFIN.out] at hs
       simp only [HE3.out] at hs
       rw [hs]
       refine ⟨⟨k, 0, 0, 0, 0, 0, 0, ⟨0, 0, 0, none, 0, 0, []⟩, none, 0, 0, [], A1, q1, c1, ys, A, q, c, xs, x3⟩, rfl, rfl, ?_, hrz.rd, hrz.2.2.2⟩
       exact ⟨HKB.out.1, HKB.out.2, (by show (0 : Nat) < _; decide), (by show (0 : Nat) < _; decide), (by show (0 : Nat) < _; decide), (by show (0 : Nat) < _; decide), (by show (0 : Nat) < _; decide), (by show (0 : Nat) < _; decide), ⟨RB.nil_, (by show (-9223372036854775808 : Int) ≤ 0; decide), (by show (0 : Int) ≤ 9223372036854775807; decide), (by show (-9223372036854775808 : Int) ≤ 0; decide), (by show (0 : Int) ≤ 9223372036854775807; decide), (by show (0 : Nat) < _; decide), Nat.le_refl _, Nat.zero_le _, fun _ => rfl⟩, ⟨rfl, (fun x hx => by cases hx), Nat.zero_le _, fun h => absurd h (Nat.lt_irrefl 0)⟩, hlr.mono (fun b _ hb => by rcases hb with hb | hb; exact Nat.le_trans hgl0 hb.1; exact hb.elim), hdr.mono (fun b _ hb => by rcases hb with hb | hb; exact Nat.le_trans hgl hb; exact hb.elim), HX3.out⟩
     | true =>
       simp only [Bool.not_true] at yb
       obtain ⟨t, ot, mt, et⟩ : ∃ x o' m', dN true m = (x, o', m') := ⟨_, _, _, rfl⟩
       obtain ⟨a, oa, ma, ea⟩ : ∃ x o' m', rI ot mt = (x, o', m') := ⟨_, _, _, rfl⟩
       have hdx : dD true m = (⟨t, a⟩, oa, ma) := by unfold dD; simp only [et, ea]
       have HT : Hid (t < 4294967296 ∧ a < 18446744073709551616) := Lib.hid (by
        have h1 := dN_lt true m
        have h2 := rI_lt ot mt
        rw [et] at h1
        rw [ea] at h2
        exact ⟨h1, h2⟩)
       have HDX : Hid (dLD n2 o2 l2 = ((xs ++ [⟨t, a⟩]) ++ (dLD (n2 - (q + 1)) oa ma).1, (dLD (n2 - (q + 1)) oa ma).2)) := Lib.hid (by
        rw [HDL.out, show n2 - q = (n2 - (q + 1)) + 1 by omega]
        simp only [dLD, if_true, hdx, List.append_assoc, List.singleton_append])
       have HMM : Hid (ma.length ≤ 20000) := Lib.hid (by have h1 := dD_le true m; rw [hdx] at h1; exact Nat.le_trans h1 HML.out)
       have Ht := Lib.hid (fun W (h : Qe W S Y g true m) => qN_any W S Y g true m h _ _ _ et)
       have Ha := Lib.hid (fun W (h : Qe W S Y g ot mt) => qI_any W S Y g ot mt h _ _ _ ea)
       have hWi : IntKind.i64.wrap ((q : Int) + 1) = ((q + 1 : Nat) : Int) := by rw [IntWalk.i64_in _ (by have := HCN.out; omega)]; omega
       have HQL := Lib.hid hlt
       clear HDL hdx et ea hlt
       unfold qp at Ht Ha
       go_wp2_with fail
       with_reducible refine (Ht.out _ HQ.out.rd).mono ?_
       rintro e wt ⟨rfl, hq⟩
       have hb1 := HB1.out.keep hq.2 (HQ.out.not HG.out)
       have hol := HOL.out.keep hq.2 (fun b hb => HQ.out.not (Nat.le_trans HGL.out hb)) (fun _ hb => hb.elim)
       have hqq := HQ.out.call hq
       have hfr := HFR.out.trans hq.2 (fun b hb => Or.inl (Or.inl hb))
       have HGX : Hid (w.heap.size ≤ wt.heap.size ∧ w2.heap.size ≤ wt.heap.size ∧ W1.heap.size < wt.heap.size) := Lib.hid ⟨hqq.size, hfr.size, Nat.lt_of_lt_of_le HWL.out hfr.size⟩
       have HB1 := Lib.hid (hb1.alloc (.cells #[.int .u32 (t : Int), .int .u64 0] 64))
       have HOL := Lib.hid ((hol.mono (S' := fun b => w2.heap.size ≤ b ∧ b < wt.heap.size) (T' := fun _ => False) (fun b hlt hb => ⟨hb, hlt⟩) (fun _ _ hb => hb) (fun _ _ h => h)).alloc (.cells #[.int .u32 (t : Int), .int .u64 0] 64))
       have HQ := Lib.hid (hqq.alloc (.cells #[.int .u32 (t : Int), .int .u64 0] 64))
       have HFR := Lib.hid (hfr.alloc (.cells #[.int .u32 (t : Int), .int .u64 0] 64))
       have HBX := Lib.hid (Blk.new wt 64 #[.int .u32 (t : Int), .int .u64 0])
       clear hq hb1 hol hqq hfr
       go_wp2_with fail
       with_reducible refine (Ha.out _ HQ.out.rd).mono ?_
       rintro e wa ⟨rfl, hq⟩
       have hb1 := HB1.out.keep hq.2 (HQ.out.not HG.out)
       have hol := HOL.out.keep hq.2 (fun b hb => HQ.out.not (Nat.le_trans HGL.out hb.1)) (fun _ hb => hb.elim)
       have hqq := HQ.out.call hq
       have hfr := HFR.out.trans hq.2 (fun b hb => Or.inl (Or.inl hb))
       have hbx := HBX.out.keep hq.2 (HQ.out.not HGX.out.1)
       have yc := hbx.cell 1
       have yf := hbx.frozen 1
       simp only [List.getElem?_toArray, List.getElem?_cons_zero, List.getElem?_cons_succ] at yc
       have HBX : Hid (Blk (wa.setCell ⟨wt.heap.size, 1, none⟩ (.int .u64 (a : Int))) wt.heap.size 64 #[.int .u32 (t : Int), .int .u64 (a : Int)]) := Lib.hid (hbx.set_ 1 (.int .u64 (a : Int)))
       have HB1 := Lib.hid (hb1.far (p := ⟨wt.heap.size, 1, none⟩) (by have := HGX.out; show W1.heap.size ≠ wt.heap.size; omega) (.int .u64 (a : Int)))
       have HOL := Lib.hid (hol.keep (fr_set (g := wt.heap.size) (Fr.refl _ _) 1 (.int .u64 (a : Int))) (fun b hb he => by have h9 : b < wt.heap.size := hb.2; have h8 : b = wt.heap.size := he; omega) (fun _ hb => hb.elim))
       have HQ := Lib.hid (hqq.set HGX.out.1 1 (.int .u64 (a : Int)))
       have HFR := Lib.hid (hfr.setCell (p := ⟨wt.heap.size, 1, none⟩) (Or.inr HGX.out.2.1) (.int .u64 (a : Int)))
       clear hq hb1 hol hqq hfr hbx
       have b0 := HBX.out.cell 0
       have b1 := HBX.out.cell 1
       have y13 := HB1.out.cell 13
       simp only [List.getElem?_toArray, List.getElem?_cons_zero, List.getElem?_cons_succ] at y13 b0 b1
       obtain ⟨wb, hwb⟩ : ∃ wb, wa.setCell ⟨wt.heap.size, 1, none⟩ (.int .u64 (a : Int)) = wb := ⟨_, rfl⟩
       rw [hwb] at HBX HB1 HOL HQ HFR y13 b0 b1
       have HOA := Lib.hid (HOL.out.alloc (.cells #[.int .u32 (t : Int), .int .u64 (a : Int)] 64))
       have HBN := Lib.hid (Blk.new wb 64 #[.int .u32 (t : Int), .int .u64 (a : Int)])
       have HIN : Hid (DV.In (wb.alloc (.cells #[.int .u32 (t : Int), .int .u64 (a : Int)] 64)) (fun _ => False) ⟨t, a⟩) := Lib.hid ⟨HT.out.1, HT.out.2⟩
       have HBD : Hid ((q + 1) * 16 ≤ 140737488355328) := Lib.hid (by have := HQL.out; have := HCN.out; omega)
       go_wp2_with (at_builtin; first
        | (refine wpList_appDV rfl (.tmp 146) (.tmp 148) rfl (.slice A q c) q xs rfl HOA.out wb.heap.size 1 ⟨t, a⟩ rfl HBN.out HIN.out HBD.out ?_
           intro v6 w6 ho6 hg6
           have hown : ∀ k, (Value.slice A q c).ownBlock = some k → w2.heap.size ≤ k := fun k hk => (HOL.out.2.2.1 k hk).1
           have hne : ∀ k, (Value.slice A q c).ownBlock = some k → W1.heap.size ≠ k := fun k hk => by have := hown k hk; have := HWL.out; omega
           obtain ⟨A6, c6, rfl, _, _, _, _⟩ := ho6.reads (by have := HQL.out; have := HCN.out; omega)
           have hb6 := (HB1.out.alloc (.cells #[.int .u32 (t : Int), .int .u64 (a : Int)] 64)).grown hg6 (fun he => hne _ he.symm rfl)
           have yc := hb6.cell 13
           have yf := hb6.frozen 13
           simp only [List.getElem?_toArray, List.getElem?_cons_zero, List.getElem?_cons_succ] at yc
           have HB6 : Hid (Blk (w6.setCell ⟨W1.heap.size, 13, none⟩ (.slice A6 (q + 1) c6)) W1.heap.size 31 #[.int .i64 k, .int .u64 0, .int .u32 0, .int .u64 0, .int .u64 0, .int .u32 0, .int .u32 0, .int .i64 0, .int .i64 0, .int .u32 0, .slice none 0 0, .slice none 0 0, .slice A1 q1 c1, .slice A6 (q + 1) c6, .int .u32 0]) := Lib.hid (hb6.set_ 13 (.slice A6 (q + 1) c6))
           have HO6 : Hid (OwDV (w6.setCell ⟨W1.heap.size, 13, none⟩ (.slice A6 (q + 1) c6)) (fun b => w2.heap.size ≤ b) (fun _ => False) (.slice A6 (q + 1) c6) (q + 1) (xs ++ [⟨t, a⟩])) := Lib.hid ((ho6.mono (S' := fun b => w2.heap.size ≤ b) (T' := fun _ => False) (fun b _ hb => by
            rcases hb with hb | hb
            ·exact hb.1
            ·exact Nat.le_trans HFR.out.size (Nat.le_trans (by simp) hb)) (fun _ _ hb => hb.1) (fun _ _ h => h)).keep (fr_set (g := W1.heap.size) (Fr.refl _ _) 13 (.slice A6 (q + 1) c6)) (fun b hb he => by have h9 : w2.heap.size ≤ b := hb; have h8 : b = W1.heap.size := he; have := HWL.out; omega) (fun _ hb => hb.elim))
           have HF6 : Hid (Fr w2 (w6.setCell ⟨W1.heap.size, 13, none⟩ (.slice A6 (q + 1) c6)) (fun b => S b ∨ b = W1.heap.size)) := Lib.hid (((HFR.out.alloc (.cells #[.int .u32 (t : Int), .int .u64 (a : Int)] 64)).grown hg6 (fun k hk => Or.inr (hown k hk))).setCell (p := ⟨W1.heap.size, 13, none⟩) (Or.inl (Or.inr rfl)) _)
           have HQ6 := Lib.hid (((HQ.out.alloc (.cells #[.int .u32 (t : Int), .int .u64 (a : Int)] 64)).grown hg6 (fun k hk => Nat.le_trans HGL.out (hown k hk))).set HG.out 13 (.slice A6 (q + 1) c6))
           clear ho6 hg6 hown hne hb6)
        | fail)
       go_roundw
       case rel => exact ⟨q + 1, A6, c6, xs ++ [⟨t, a⟩], oa, ma, by have := HQL.out; omega, by go_num, HB6.out, HO6.out, HQ6.out, HF6.out, HDX.out, HMM.out⟩
       case measure => have := HQL.out; simp [intOf]; omega
    ·have d1 : decide ((q : Int) < (n2 : Int)) = false := decide_eq_false (by omega)
     have d2 : decide (q < n2) = false := decide_eq_false hlt
     have HFIN : Hid (dLD n2 o2 l2 = (xs, o, m)) := Lib.hid (by rw [HDL.out, show n2 - q = 0 by omega]; simp [dLD])
     clear HDL hlt
     obtain ⟨x3, o3, l3, e3⟩ : ∃ x o' m', dN o m = (x, o', m') := ⟨_, _, _, rfl⟩
     have H3 := Lib.hid (fun W (h : Qe W S Y g o m) => qN_any W S Y g o m h _ _ _ e3)
     have HX3 : Hid (x3 < 4294967296) := Lib.hid (by have := dN_lt o m; rw [e3] at this; exact this)
     have HE3 := Lib.hid e3
     have HQB := Lib.hid hq
     unfold qp at H3
     clear e3 hq
     go_wp2_with fail
     with_reducible refine (H3.out _ HQ.out.rd).mono ?_
     rintro e w3 ⟨rfl, hq⟩
     have hb := HB1.out.keep hq.2 (HQ.out.not HG.out)
     have yc := hb.cell 14
     have yf := hb.frozen 14
     simp only [List.getElem?_toArray, List.getElem?_cons_zero, List.getElem?_cons_succ] at yc
     have HB3 : Hid (Blk (w3.setCell ⟨W1.heap.size, 14, none⟩ (.int .u32 (x3 : Int))) W1.heap.size 31 #[.int .i64 k, .int .u64 0, .int .u32 0, .int .u64 0, .int .u64 0, .int .u32 0, .int .u32 0, .int .i64 0, .int .i64 0, .int .u32 0, .slice none 0 0, .slice none 0 0, .slice A1 q1 c1, .slice A q c, .int .u32 (x3 : Int)]) := Lib.hid (hb.set_ 14 (.int .u32 (x3 : Int)))
     have HF3 : Hid (Fr w2 (w3.setCell ⟨W1.heap.size, 14, none⟩ (.int .u32 (x3 : Int))) (fun b => S b ∨ b = W1.heap.size)) := Lib.hid ((HFR.out.trans hq.2 (fun b hb => Or.inl (Or.inl hb))).setCell (p := ⟨W1.heap.size, 14, none⟩) (Or.inl (Or.inr rfl)) _)
     have HO3 := Lib.hid ((HOL.out.keep hq.2 (fun b hb => HQ.out.not (Nat.le_trans HGL.out hb)) (fun _ hb => hb.elim)).keep (fr_set (g := W1.heap.size) (Fr.refl _ _) 14 (.int .u32 (x3 : Int))) (fun b hb he => by have h9 : w2.heap.size ≤ b := hb; have h8 : b = W1.heap.size := he; have := HWL.out; omega) (fun _ hb => hb.elim))
     have HQ3 := Lib.hid ((HQ.out.call hq).set HG.out 14 (.int .u32 (x3 : Int)))
     have HDZ : Hid (Blk (w3.setCell ⟨W1.heap.size, 14, none⟩ (.int .u32 (x3 : Int))) w.heap.size 31 #[.int .i64 0, .int .u64 0, .int .u32 0, .int .u64 0, .int .u64 0, .int .u32 0, .int .u32 0, .int .i64 0, .int .i64 0, .int .u32 0, .slice none 0 0, .slice none 0 0, .slice none 0 0, .slice none 0 0, .int .u32 0]) := Lib.hid (((HD1.out.keep HFR1.out (fun h => by rcases h with h | h; exact (HQ.out.not (Nat.le_refl _)) h; exact HNE.out.1 h))).keep HF3.out (fun h => by rcases h with h | h; exact (HQ.out.not (Nat.le_refl _)) h; exact HNE.out.1 h))
     clear hq hb yb d1 d2
     go_wp2_with (first
      | (refine wpList_ldB rfl 31 (.tmp 5) rfl W1.heap.size rfl 31 #[.int .i64 k, .int .u64 0, .int .u32 0, .int .u64 0, .int .u64 0, .int .u32 0, .int .u32 0, .int .i64 0, .int .i64 0, .int .u32 0, .slice none 0 0, .slice none 0 0, .slice A1 q1 c1, .slice A q c, .int .u32 (x3 : Int)] _ HB3.out Tryz.underlying31 rfl size31 ?_)
      | (refine wpList_stB rfl 31 (.tmp 4) (.tmp 154) rfl w.heap.size #[.int .i64 k, .int .u64 0, .int .u32 0, .int .u64 0, .int .u64 0, .int .u32 0, .int .u32 0, .int .i64 0, .int .i64 0, .int .u32 0, .slice none 0 0, .slice none 0 0, .slice A1 q1 c1, .slice A q c, .int .u32 (x3 : Int)] rfl rfl 31 #[.int .i64 0, .int .u64 0, .int .u32 0, .int .u64 0, .int .u64 0, .int .u32 0, .int .u32 0, .int .i64 0, .int .i64 0, .int .u32 0, .slice none 0 0, .slice none 0 0, .slice none 0 0, .slice none 0 0, .int .u32 0] HDZ.out size31 rfl rfl ?_
         intro wz hbz hfz
         have HBZ := Lib.hid hbz
         have HFZ := Lib.hid hfz
         clear hbz hfz))
     refine bodyPost_ret (results_cell_row Tryz.results36 _ _ w.heap.size 31 _ (0, 0) _ rfl HBZ.out Tryz.underlying31 rfl size31) rfl ?_
     have hgl := HGL.out
     have hgl0 := HGL0.out
     have hne := HNE.out
     have hwl := HWL.out
     have hwl0 := HWL0.out
     have hrz := HQ3.out.fr HFZ.out (fun b hb => by omega)
     have hl1 := ((HOL1.out.keep HF3.out (fun b hb he => by have h9 : w1.heap.size ≤ b ∧ b < w2.heap.size := hb; rcases he with he | he; exact (HQ.out.not (Nat.le_trans hgl0 h9.1)) he; omega) (fun _ hb => hb.elim)).keep HFZ.out (fun b hb he => by have h9 : w1.heap.size ≤ b ∧ b < w2.heap.size := hb; omega) (fun _ hb => hb.elim)).reads (by have := HCNq.out; have := HCN0.out; omega)
     have hl2 := (HO3.out.keep HFZ.out (fun b hb he => by have h9 : w2.heap.size ≤ b := hb; omega) (fun _ hb => hb.elim)).reads (by have := HQB.out; have := HCN.out; omega)
     obtain ⟨_, _, el, _, _, _, hlr⟩ := hl1
     obtain ⟨_, _, ed, _, _, _, hdr⟩ := hl2
     injection el with el _ _
     injection ed with ed _ _
     rw [← el] at hlr
     rw [← ed] at hdr
     have hs := HS.out
     rw [HFIN1.out] at hs
     simp only at hs
     rw [HLDS.out, HFIN.out] at hs
     simp only [HE3.out] at hs
     rw [hs]
     refine ⟨⟨k, 0, 0, 0, 0, 0, 0, ⟨0, 0, 0, none, 0, 0, []⟩, none, 0, 0, [], A1, q1, c1, ys, A, q, c, xs, x3⟩, rfl, rfl, ?_, hrz.rd, hrz.2.2.2⟩
     exact ⟨HKB.out.1, HKB.out.2, (by show (0 : Nat) < _; decide), (by show (0 : Nat) < _; decide), (by show (0 : Nat) < _; decide), (by show (0 : Nat) < _; decide), (by show (0 : Nat) < _; decide), (by show (0 : Nat) < _; decide), ⟨RB.nil_, (by show (-9223372036854775808 : Int) ≤ 0; decide), (by show (0 : Int) ≤ 9223372036854775807; decide), (by show (-9223372036854775808 : Int) ≤ 0; decide), (by show (0 : Int) ≤ 9223372036854775807; decide), (by show (0 : Nat) < _; decide), Nat.le_refl _, Nat.zero_le _, fun _ => rfl⟩, ⟨rfl, (fun x hx => by cases hx), Nat.zero_le _, fun h => absurd h (Nat.lt_irrefl 0)⟩, hlr.mono (fun b _ hb => by rcases hb with hb | hb; exact Nat.le_trans hgl0 hb.1; exact hb.elim), hdr.mono (fun b _ hb => by rcases hb with hb | hb; exact Nat.le_trans hgl hb; exact hb.elim), HX3.out⟩
end Go.Proofs.YtdhgbkibbileiaaGreat
