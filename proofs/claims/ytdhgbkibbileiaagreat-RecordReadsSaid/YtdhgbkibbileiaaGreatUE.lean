/-
UE
-/
import Derived.Test.YtdhgbkibbileiaaGreatUB
import Derived.Test.YtdhgbkibbileiaaGreatRS
set_option maxRecDepth 100000
namespace Go.Proofs.YtdhgbkibbileiaaGreat
open Go.RowKit
theorem qR_any (w : World) (S Y : Nat → Prop) (g : Nat) (ok : Bool) (l : List Nat) (n : Int) (hn : -9223372036854775808 ≤ n ∧ n ≤ 9223372036854775807) (h : Qe w S Y g ok l) (x : List Nat) (ok' : Bool) (l' : List Nat) (hx : rR ok l n = (x, ok', l')) :
  Calls Tryz.prog 56 #[qp g, .int .i64 n] w fun e w' => ∃ A c, e = .returned (.slice A x.length c) ∧ x.length ≤ c ∧ (A = none → c = 0) ∧ RB w' (fun b => w.heap.size ≤ b) A x.length x ∧ LQ w S Y g (ok', l') w' := by
 refine (eqtake_any w S Y g ok l n hn.1 hn.2 h).mono ?_
 unfold rR at hx
 injection hx with h1 h2
 injection h2 with h2 h3
 subst h1 h2 h3
 rintro e w' ⟨v, k, rfl, rfl, ho, hg⟩
 obtain ⟨A, c, rfl, h1, h2, h3⟩ := ho.reads
 exact ⟨A, c, rfl, h1, h2, h3, hg⟩
set_option maxHeartbeats 16000000 in
theorem rread_4 (w : World) (S Y : Nat → Prop) (g : Nat) (ok : Bool) (l : List Nat) (k : Int) (hk1 : -9223372036854775808 ≤ k) (hk2 : k ≤ 9223372036854775807) (hk : k = 4) (h : Qe w S Y g ok l) (hS : ∀ b, S b → b < w.heap.size) (hY : ∀ b, Y b → b < w.heap.size) (hl : l.length ≤ 20000) :
  Calls Tryz.prog 36 #[.int .i64 k, qp g] w (ReadD w S Y g (dR k ok l)) := by
 obtain ⟨W1, hW1⟩ : ∃ W1, w.alloc (.cells #[.int .i64 0, .int .u64 0, .int .u32 0, .int .u64 0, .int .u64 0, .int .u32 0, .int .u32 0, .int .i64 0, .int .i64 0, .int .u32 0, .slice none 0 0, .slice none 0 0, .slice none 0 0, .slice none 0 0, .int .u32 0] 31) = W1 := ⟨_, rfl⟩
 obtain ⟨V, hV⟩ : ∃ V, W1.alloc (.cells #[.int .i64 0, .int .u64 0, .int .u32 0, .int .u64 0, .int .u64 0, .int .u32 0, .int .u32 0, .int .i64 0, .int .i64 0, .int .u32 0, .slice none 0 0, .slice none 0 0, .slice none 0 0, .slice none 0 0, .int .u32 0] 31) = V := ⟨_, rfl⟩
 have hz1 : W1.heap.size = w.heap.size + 1 := by rw [← hW1]; simp
 have hz : V.heap.size = w.heap.size + 2 := by rw [← hV]; simp [hz1]
 have hb0 : Blk V w.heap.size 31 #[.int .i64 0, .int .u64 0, .int .u32 0, .int .u64 0, .int .u64 0, .int .u32 0, .int .u32 0, .int .i64 0, .int .i64 0, .int .u32 0, .slice none 0 0, .slice none 0 0, .slice none 0 0, .slice none 0 0, .int .u32 0] := by rw [← hV, ← hW1]; exact (Blk.new w 31 _).alloc _
 have hb1 : Blk V W1.heap.size 31 #[.int .i64 0, .int .u64 0, .int .u32 0, .int .u64 0, .int .u64 0, .int .u32 0, .int .u32 0, .int .i64 0, .int .i64 0, .int .u32 0, .slice none 0 0, .slice none 0 0, .slice none 0 0, .slice none 0 0, .int .u32 0] := by rw [← hV]; exact Blk.new W1 31 _
 have hq0 : QG w S Y g V ok l := by rw [← hV, ← hW1]; exact ((QG.start h hS hY).alloc _).alloc _
 have HLT := Lib.hid h.lt
 obtain ⟨n1, o1, l1, e1⟩ : ∃ x o m, dM ok l = (x, o, m) := ⟨_, _, _, rfl⟩
 have H1 := Lib.hid (fun W (h : Qe W S Y g ok l) => qM_any W S Y g ok l h _ _ _ e1)
 have hm1 : l1.length ≤ 20000 := by have := dM_le ok l; rw [e1] at this; exact Nat.le_trans this hl
 have hf1 : n1 ≤ 20000 := by have := dM_few ok l; rw [e1] at this; exact Nat.le_trans this hm1
 have HM1 := Lib.hid hm1
 have HCN := Lib.hid hf1
 obtain ⟨s, hs⟩ : ∃ s, s = dR k ok l := ⟨_, rfl⟩
 rw [← hs]
 unfold dR at hs
 rw [if_pos hk] at hs
 have hvs : dLJs ok l = dLJ n1 o1 l1 := by unfold dLJs; rw [e1]
 rw [hvs] at hs
 have HS := Lib.hid hs
 have HKB : Hid (-9223372036854775808 ≤ k ∧ k ≤ 9223372036854775807) := Lib.hid ⟨hk1, hk2⟩
 have HBV := Lib.hid hb1
 have HDV := Lib.hid hb0
 have HRV := Lib.hid hq0
 have HG : Hid (w.heap.size ≤ W1.heap.size) := Lib.hid (by omega)
 have HNE : Hid (w.heap.size ≠ W1.heap.size ∧ W1.heap.size = w.heap.size + 1) := Lib.hid ⟨by omega, hz1⟩
 have c4 : (k == 4) = true := by rw [hk]; rfl
 clear e1 h hS hY hs hk hk1 hk2 hz1 hz hb0 hb1 hq0 hl hm1 hf1 hvs
 unfold qp at H1 ⊢
 go_enter Tryz.func36, Tryz.ntmps36
 go_wp2_with (refine wpList_stB rfl 31 (.tmp 5) (.tmp 19) rfl W1.heap.size #[.int .i64 k, .int .u64 0, .int .u32 0, .int .u64 0, .int .u64 0, .int .u32 0, .int .u32 0, .int .i64 0, .int .i64 0, .int .u32 0, .slice none 0 0, .slice none 0 0, .slice none 0 0, .slice none 0 0, .int .u32 0] rfl rfl 31 #[.int .i64 0, .int .u64 0, .int .u32 0, .int .u64 0, .int .u64 0, .int .u32 0, .int .u32 0, .int .i64 0, .int .i64 0, .int .u32 0, .slice none 0 0, .slice none 0 0, .slice none 0 0, .slice none 0 0, .int .u32 0] HBV.out size31 rfl rfl ?_; intro W hbW hfW; have HB0 := Lib.hid hbW; have HD0 := Lib.hid (HDV.out.keep hfW (fun h => by have := HNE.out.1; exact this h)); have HR0 := Lib.hid (HRV.out.fr hfW (fun b hb => by have := HG.out; omega)); clear hbW hfW)
 with_reducible refine (H1.out _ HR0.out.rd).mono ?_
 rintro e w1 ⟨rfl, hq⟩
 have HB1 := Lib.hid (HB0.out.keep hq.2 (HR0.out.not HG.out))
 have HD1 := Lib.hid (HD0.out.keep hq.2 (HR0.out.not (Nat.le_refl _)))
 have HQ := Lib.hid (HR0.out.call hq)
 have HWL : Hid (W1.heap.size < w1.heap.size) := Lib.hid HB1.out.lt
 have HGL : Hid (w.heap.size ≤ w1.heap.size) := Lib.hid HQ.out.size
 clear hq HBV HDV HRV HB0 HD0 HR0 H1
 go_wp2_with fail
 go_loopw [7] (fun i wr => ∃ (q : Nat) (A : Option Addr) (c : Nat) (xs : List IV) (o : Bool) (m : List Nat), q ≤ n1 ∧ i = .int .i64 (q : Int) ∧ Blk wr W1.heap.size 31 #[.int .i64 k, .int .u64 0, .int .u32 0, .int .u64 0, .int .u64 0, .int .u32 0, .int .u32 0, .int .i64 0, .int .i64 0, .int .u32 0, .slice none 0 0, .slice A q c, .slice none 0 0, .slice none 0 0, .int .u32 0] ∧ OwIV wr (fun b => w1.heap.size ≤ b) (Beyond w1 (.slice A q c)) (.slice A q c) q xs ∧ QG w S Y g wr o m ∧ Fr w1 wr (fun b => S b ∨ b = W1.heap.size) ∧ dLJ n1 o1 l1 = (xs.map IV.e ++ (dLJ (n1 - q) o m).1, (dLJ (n1 - q) o m).2) ∧ m.length ≤ 20000) (fun i _ => n1 - (intOf i).toNat)
 case atStart => exact ⟨0, none, 0, [], o1, l1, Nat.zero_le _, rfl, HB1.out, OwIV.nil_ _ _ _, HQ.out, Fr.refl _ _, by simp, HM1.out⟩
 case round =>
  clear HB1 HQ
  obtain ⟨q, A, c, xs, o, m, hq, rfl, hb1, hoi, hqg, hfr, hdl, hml⟩ := hrel
  have HB1 := Lib.hid hb1
  have HOI := Lib.hid hoi
  have HQ := Lib.hid hqg
  have HFR := Lib.hid hfr
  have HDL := Lib.hid hdl
  have HML := Lib.hid hml
  obtain ⟨qA, qn, qc, hbad⟩ := hqg.bad
  have yb := hbad.cell 1
  simp only [List.getElem?_toArray, List.getElem?_cons_zero, List.getElem?_cons_succ] at yb
  clear hb1 hoi hqg hfr hdl hml hbad
  by_cases hlt : q < n1
  ·have d1 : decide ((q : Int) < (n1 : Int)) = true := decide_eq_true (by omega)
   have d2 : decide (q < n1) = true := decide_eq_true hlt
   cases o with
   | false =>
     simp only [Bool.not_false] at yb
     have HFIN : Hid (dLJ n1 o1 l1 = (xs.map IV.e, false, m)) := Lib.hid (by rw [HDL.out, dLJ_no]; simp)
     clear HDL hlt
     have HDZ : Hid (Blk wr w.heap.size 31 #[.int .i64 0, .int .u64 0, .int .u32 0, .int .u64 0, .int .u64 0, .int .u32 0, .int .u32 0, .int .i64 0, .int .i64 0, .int .u32 0, .slice none 0 0, .slice none 0 0, .slice none 0 0, .slice none 0 0, .int .u32 0]) := Lib.hid (HD1.out.keep HFR.out (fun h => by rcases h with h | h; exact (HQ.out.not (Nat.le_refl _)) h; exact HNE.out.1 h))
     have HQB := Lib.hid hq
     clear hq
     go_wp2_with (first
      | (refine wpList_ldB rfl 31 (.tmp 5) rfl W1.heap.size rfl 31 #[.int .i64 k, .int .u64 0, .int .u32 0, .int .u64 0, .int .u64 0, .int .u32 0, .int .u32 0, .int .i64 0, .int .i64 0, .int .u32 0, .slice none 0 0, .slice A q c, .slice none 0 0, .slice none 0 0, .int .u32 0] _ HB1.out Tryz.underlying31 rfl size31 ?_)
      | (refine wpList_stB rfl 31 (.tmp 4) (.tmp 89) rfl w.heap.size #[.int .i64 k, .int .u64 0, .int .u32 0, .int .u64 0, .int .u64 0, .int .u32 0, .int .u32 0, .int .i64 0, .int .i64 0, .int .u32 0, .slice none 0 0, .slice A q c, .slice none 0 0, .slice none 0 0, .int .u32 0] rfl rfl 31 #[.int .i64 0, .int .u64 0, .int .u32 0, .int .u64 0, .int .u64 0, .int .u32 0, .int .u32 0, .int .i64 0, .int .i64 0, .int .u32 0, .slice none 0 0, .slice none 0 0, .slice none 0 0, .slice none 0 0, .int .u32 0] HDZ.out size31 rfl rfl ?_
         intro wz hbz hfz
         have HBZ := Lib.hid hbz
         have HFZ := Lib.hid hfz
         clear hbz hfz))
     refine bodyPost_ret (results_cell_row Tryz.results36 _ _ w.heap.size 31 _ (0, 0) _ rfl HBZ.out Tryz.underlying31 rfl size31) rfl ?_
     have hgl := HGL.out
     have hwl := HWL.out
     have hne := HNE.out
     have hrz := HQ.out.fr HFZ.out (fun b hb => by omega)
     have hl1 := (HOI.out.keep HFZ.out (fun b hb he => by have h9 : w1.heap.size ≤ b := hb; have h8 : b = w.heap.size := he; omega) (fun b hb he => by have h9 : w1.heap.size ≤ b := hb.1; have h8 : b = w.heap.size := he; omega)).reads (by have := HQB.out; have := HCN.out; omega)
     obtain ⟨_, _, el, _, _, _, hlr⟩ := hl1
     injection el with el _ _
     rw [← el] at hlr
     have hs := HS.out
     rw [HFIN.out] at hs
     rw [hs]
     refine ⟨⟨k, 0, 0, 0, 0, 0, 0, ⟨0, 0, 0, none, 0, 0, []⟩, A, q, c, xs, none, 0, 0, [], none, 0, 0, [], 0⟩, rfl, rfl, ?_, hrz.rd, hrz.2.2.2⟩
     exact ⟨HKB.out.1, HKB.out.2, (by show (0 : Nat) < _; decide), (by show (0 : Nat) < _; decide), (by show (0 : Nat) < _; decide), (by show (0 : Nat) < _; decide), (by show (0 : Nat) < _; decide), (by show (0 : Nat) < _; decide), ⟨RB.nil_, (by show (-9223372036854775808 : Int) ≤ 0; decide), (by show (0 : Int) ≤ 9223372036854775807; decide), (by show (-9223372036854775808 : Int) ≤ 0; decide), (by show (0 : Int) ≤ 9223372036854775807; decide), (by show (0 : Nat) < _; decide), Nat.le_refl _, Nat.zero_le _, fun _ => rfl⟩, hlr.mono (fun b _ hb => by rcases hb with hb | hb; exact Nat.le_trans hgl hb; exact Nat.le_trans hgl hb.1), ⟨rfl, (fun x hx => by cases hx), Nat.zero_le _, fun h => absurd h (Nat.lt_irrefl 0)⟩, ⟨rfl, (fun x hx => by cases hx), Nat.zero_le _, fun h => absurd h (Nat.lt_irrefl 0)⟩, (by show (0 : Nat) < _; decide)⟩
   | true =>
     simp only [Bool.not_true] at yb
     clear hq
     obtain ⟨wo, hwo⟩ : ∃ wo, wo = wr := ⟨_, rfl⟩
     subst hwo
     obtain ⟨t, ot, mt, et⟩ : ∃ x o' m', dN true m = (x, o', m') := ⟨_, _, _, rfl⟩
     obtain ⟨kx, okx, mk, ek⟩ : ∃ x o' m', rB ot mt = (x, o', m') := ⟨_, _, _, rfl⟩
     obtain ⟨x, ox, mx, ex⟩ : ∃ x o' m', dN okx mk = (x, o', m') := ⟨_, _, _, rfl⟩
     obtain ⟨n4, o4, m4, e4⟩ : ∃ x o' m', dM ox mx = (x, o', m') := ⟨_, _, _, rfl⟩
     obtain ⟨kk, hkk⟩ : ∃ kk, kk = i64n kx := ⟨_, rfl⟩
     have hkb := i64n_in kx
     have gk : IntKind.i64.wrap (kx : Int) = kk := by rw [hkk]; rfl
     rw [← hkk] at hkb
     have hdx : dJ true m = (⟨t, kk, 0, x, (dLC n4 o4 m4).1⟩, (dLC n4 o4 m4).2) := by unfold dJ dLCs; simp only [et, ek, ex, e4, hkk]
     have HT : Hid (t < 4294967296 ∧ x < 4294967296 ∧ (-9223372036854775808 ≤ kk ∧ kk ≤ 9223372036854775807)) := Lib.hid (by
      have h1 := dN_lt true m
      have h2 := dN_lt okx mk
      rw [et] at h1
      rw [ex] at h2
      exact ⟨h1, h2, hkb⟩)
     have HDX : Hid (dLJ n1 o1 l1 = ((xs.map IV.e ++ [⟨t, kk, 0, x, (dLC n4 o4 m4).1⟩]) ++ (dLJ (n1 - (q + 1)) (dLC n4 o4 m4).2.1 (dLC n4 o4 m4).2.2).1, (dLJ (n1 - (q + 1)) (dLC n4 o4 m4).2.1 (dLC n4 o4 m4).2.2).2)) := Lib.hid (by
      rw [HDL.out, show n1 - q = (n1 - (q + 1)) + 1 by omega]
      simp only [dLJ, if_true, hdx, List.append_assoc, List.singleton_append])
     have hm4 : m4.length ≤ 20000 := by
      have h1 := dN_le true m
      have h2 := rB_le ot mt
      have h3 := dN_le okx mk
      have h4 := dM_le ox mx
      rw [et] at h1
      rw [ek] at h2
      rw [ex] at h3
      rw [e4] at h4
      have h5 := HML.out
      simp only at h1 h2 h3 h4
      omega
     have hn4 : n4 ≤ 20000 := by have := dM_few ox mx; rw [e4] at this; exact Nat.le_trans this hm4
     have HM4 := Lib.hid hm4
     have HN4 := Lib.hid hn4
     have Ht := Lib.hid (fun W (h : Qe W S Y g true m) => qN_any W S Y g true m h _ _ _ et)
     have Hk := Lib.hid (fun W (h : Qe W S Y g ot mt) => qB_any W S Y g ot mt h _ _ _ ek)
     have Hx := Lib.hid (fun W (h : Qe W S Y g okx mk) => qN_any W S Y g okx mk h _ _ _ ex)
     have H4 := Lib.hid (fun W (h : Qe W S Y g ox mx) => qM_any W S Y g ox mx h _ _ _ e4)
     have hWi : IntKind.i64.wrap ((q : Int) + 1) = ((q + 1 : Nat) : Int) := by rw [IntWalk.i64_in _ (by have := HCN.out; omega)]; omega
     have HQL := Lib.hid hlt
     clear HDL hdx et ek ex e4 hlt hkk hkb hm4 hn4
     unfold qp at Ht Hk Hx H4
     go_wp2_with fail
     with_reducible refine (Ht.out _ HQ.out.rd).mono ?_
     rintro e wt ⟨rfl, hq⟩
     have hb1 := HB1.out.keep hq.2 (HQ.out.not HG.out)
     have hoi := HOI.out.keep hq.2 (fun b hb => HQ.out.not (Nat.le_trans HGL.out hb)) (fun b hb => HQ.out.not (Nat.le_trans HGL.out hb.1))
     have hqq := HQ.out.call hq
     have hfr := HFR.out.trans hq.2 (fun b hb => Or.inl (Or.inl hb))
     have HGX : Hid (w.heap.size ≤ wt.heap.size ∧ w1.heap.size ≤ wt.heap.size ∧ W1.heap.size < wt.heap.size) := Lib.hid ⟨hqq.size, hfr.size, Nat.lt_of_lt_of_le HWL.out hfr.size⟩
     have HB1 := Lib.hid (hb1.alloc (.cells #[.int .u32 (t : Int), .int .i64 0, .int .u64 0, .int .u32 0, .slice none 0 0] 53))
     have HOI := Lib.hid ((hoi.mono (S' := fun b => w1.heap.size ≤ b ∧ b < wt.heap.size) (T' := fun b => Beyond w1 (.slice A q c) b ∧ b < wt.heap.size) (fun b hlt hb => ⟨hb, hlt⟩) (fun b hlt hb => ⟨hb, hlt⟩) (fun b hb hT => hoi.2.2.2 b hb hT.1)).alloc (.cells #[.int .u32 (t : Int), .int .i64 0, .int .u64 0, .int .u32 0, .slice none 0 0] 53))
     have HQ := Lib.hid (hqq.alloc (.cells #[.int .u32 (t : Int), .int .i64 0, .int .u64 0, .int .u32 0, .slice none 0 0] 53))
     have HFR := Lib.hid (hfr.alloc (.cells #[.int .u32 (t : Int), .int .i64 0, .int .u64 0, .int .u32 0, .slice none 0 0] 53))
     have HBX := Lib.hid (Blk.new wt 53 #[.int .u32 (t : Int), .int .i64 0, .int .u64 0, .int .u32 0, .slice none 0 0])
     clear hq hb1 hoi hqq hfr
     go_wp2_with fail
     with_reducible refine (Hk.out _ HQ.out.rd).mono ?_
     rintro e wk ⟨rfl, hq⟩
     have hb1 := HB1.out.keep hq.2 (HQ.out.not HG.out)
     have hoi := HOI.out.keep hq.2 (fun b hb => HQ.out.not (Nat.le_trans HGL.out hb.1)) (fun b hb => HQ.out.not (Nat.le_trans HGL.out hb.1.1))
     have hqq := HQ.out.call hq
     have hfr := HFR.out.trans hq.2 (fun b hb => Or.inl (Or.inl hb))
     have hbx := HBX.out.keep hq.2 (HQ.out.not HGX.out.1)
     have yc := hbx.cell 1
     have yf := hbx.frozen 1
     simp only [List.getElem?_toArray, List.getElem?_cons_zero, List.getElem?_cons_succ] at yc
     have HBX : Hid (Blk (wk.setCell ⟨wt.heap.size, 1, none⟩ (.int .i64 kk)) wt.heap.size 53 #[.int .u32 (t : Int), .int .i64 kk, .int .u64 0, .int .u32 0, .slice none 0 0]) := Lib.hid (hbx.set_ 1 (.int .i64 kk))
     have HB1 := Lib.hid (hb1.far (p := ⟨wt.heap.size, 1, none⟩) (by have := HGX.out; show W1.heap.size ≠ wt.heap.size; omega) (.int .i64 kk))
     have HOI := Lib.hid (hoi.keep (fr_set (g := wt.heap.size) (Fr.refl _ _) 1 (.int .i64 kk)) (fun b hb he => by have h9 : b < wt.heap.size := hb.2; have h8 : b = wt.heap.size := he; omega) (fun b hb he => by have h9 : b < wt.heap.size := hb.2; have h8 : b = wt.heap.size := he; omega))
     have HQ := Lib.hid (hqq.set HGX.out.1 1 (.int .i64 kk))
     have HFR := Lib.hid (hfr.setCell (p := ⟨wt.heap.size, 1, none⟩) (Or.inr HGX.out.2.1) (.int .i64 kk))
     clear hq hb1 hoi hqq hfr hbx
     go_wp2_with fail
     with_reducible refine (Hx.out _ HQ.out.rd).mono ?_
     rintro e wx ⟨rfl, hq⟩
     have hb1 := HB1.out.keep hq.2 (HQ.out.not HG.out)
     have hoi := HOI.out.keep hq.2 (fun b hb => HQ.out.not (Nat.le_trans HGL.out hb.1)) (fun b hb => HQ.out.not (Nat.le_trans HGL.out hb.1.1))
     have hqq := HQ.out.call hq
     have hfr := HFR.out.trans hq.2 (fun b hb => Or.inl (Or.inl hb))
     have hbx := HBX.out.keep hq.2 (HQ.out.not HGX.out.1)
     have yc := hbx.cell 3
     have yf := hbx.frozen 3
     simp only [List.getElem?_toArray, List.getElem?_cons_zero, List.getElem?_cons_succ] at yc
     have HBX : Hid (Blk (wx.setCell ⟨wt.heap.size, 3, none⟩ (.int .u32 (x : Int))) wt.heap.size 53 #[.int .u32 (t : Int), .int .i64 kk, .int .u64 0, .int .u32 (x : Int), .slice none 0 0]) := Lib.hid (hbx.set_ 3 (.int .u32 (x : Int)))
     have HB1 := Lib.hid (hb1.far (p := ⟨wt.heap.size, 3, none⟩) (by have := HGX.out; show W1.heap.size ≠ wt.heap.size; omega) (.int .u32 (x : Int)))
     have HOI := Lib.hid (hoi.keep (fr_set (g := wt.heap.size) (Fr.refl _ _) 3 (.int .u32 (x : Int))) (fun b hb he => by have h9 : b < wt.heap.size := hb.2; have h8 : b = wt.heap.size := he; omega) (fun b hb he => by have h9 : b < wt.heap.size := hb.2; have h8 : b = wt.heap.size := he; omega))
     have HQ := Lib.hid (hqq.set HGX.out.1 3 (.int .u32 (x : Int)))
     have HFR := Lib.hid (hfr.setCell (p := ⟨wt.heap.size, 3, none⟩) (Or.inr HGX.out.2.1) (.int .u32 (x : Int)))
     clear hq hb1 hoi hqq hfr hbx
     go_wp2_with fail
     with_reducible refine (H4.out _ HQ.out.rd).mono ?_
     rintro e wi ⟨rfl, hq⟩
     have hb1 := HB1.out.keep hq.2 (HQ.out.not HG.out)
     have hoi := HOI.out.keep hq.2 (fun b hb => HQ.out.not (Nat.le_trans HGL.out hb.1)) (fun b hb => HQ.out.not (Nat.le_trans HGL.out hb.1.1))
     have hqq := HQ.out.call hq
     have hfr := HFR.out.trans hq.2 (fun b hb => Or.inl (Or.inl hb))
     have hbx := HBX.out.keep hq.2 (HQ.out.not HGX.out.1)
     have HB1 := Lib.hid hb1
     have HOI := Lib.hid hoi
     have HQ := Lib.hid hqq
     have HFR := Lib.hid hfr
     have HBX := Lib.hid hbx
     have HWI : Hid (wt.heap.size < wi.heap.size ∧ w.heap.size ≤ wi.heap.size ∧ w1.heap.size ≤ wi.heap.size) := Lib.hid ⟨hbx.lt, hqq.size, hfr.size⟩
     clear hq hb1 hoi hqq hfr hbx yb
     go_wp2_with fail
     go_loopw [10] (fun i wz => ∃ (j : Nat) (A5 : Option Addr) (c5 : Nat) (ys : List CV) (oj : Bool) (mj : List Nat), j ≤ n4 ∧ i = .int .i64 (j : Int) ∧ Blk wz wt.heap.size 53 #[.int .u32 (t : Int), .int .i64 kk, .int .u64 0, .int .u32 (x : Int), .slice A5 j c5] ∧ OwC wz (fun b => wi.heap.size ≤ b) (Beyond wi (.slice A5 j c5)) (.slice A5 j c5) j ys ∧ QG w S Y g wz oj mj ∧ Fr wi wz (fun b => S b ∨ b = wt.heap.size) ∧ dLC n4 o4 m4 = (ys.map CV.e ++ (dLC (n4 - j) oj mj).1, (dLC (n4 - j) oj mj).2) ∧ mj.length ≤ 20000) (fun i _ => n4 - (intOf i).toNat)
     case atStart => exact ⟨0, none, 0, [], o4, m4, Nat.zero_le _, rfl, HBX.out, OwC.nil_ _ _ _, HQ.out, Fr.refl _ _, by simp, HM4.out⟩
     case round =>
      have HQI := Lib.hid HQ.out
      clear HQ HBX
      obtain ⟨j, A5, c5, ys, oj, mj, hj, rfl, hbx, hoc, hqg, hfi, hdc, hmj⟩ := hrel
      have HBX := Lib.hid hbx
      have HOC := Lib.hid hoc
      have HQ := Lib.hid hqg
      have HFI := Lib.hid hfi
      have HDC := Lib.hid hdc
      have HMJ := Lib.hid hmj
      obtain ⟨qA, qn, qc, hbad⟩ := hqg.bad
      have yb := hbad.cell 1
      simp only [List.getElem?_toArray, List.getElem?_cons_zero, List.getElem?_cons_succ] at yb
      clear hbx hoc hqg hfi hdc hmj hbad
      by_cases hlt : j < n4
      ·have d3 : decide ((j : Int) < (n4 : Int)) = true := decide_eq_true (by omega)
       have d4 : decide (j < n4) = true := decide_eq_true hlt
       cases oj with
       | false =>
         simp only [Bool.not_false] at yb
         have HFIC : Hid (dLC n4 o4 m4 = (ys.map CV.e, false, mj)) := Lib.hid (by rw [HDC.out, dLC_no]; simp)
         have HJN : Hid (j ≤ 20000) := Lib.hid (by have := HN4.out; omega)
         clear HDC hlt hj
         have hb1 := HB1.out.keep HFI.out (fun h => by rcases h with h | h; exact (HQ.out.not HG.out) h; have := HGX.out; omega)
         have hoi := HOI.out.keep HFI.out (fun b hb he => by rcases he with he | he; exact (HQ.out.not (Nat.le_trans HGL.out hb.1)) he; have h9 : b < wt.heap.size := hb.2; omega) (fun b hb he => by rcases he with he | he; exact (HQ.out.not (Nat.le_trans HGL.out hb.1.1)) he; have h9 : b < wt.heap.size := hb.2; omega)
         have hfr := HFR.out.trans HFI.out (fun b hb => by rcases hb with hb | hb; exact Or.inl (Or.inl hb); exact Or.inr (by rw [hb]; exact HGX.out.2.1))
         have hcr := HOC.out.reads (by have := HJN.out; omega)
         obtain ⟨_, _, ecr, hjc, _, hjz, hcr⟩ := hcr
         injection ecr with ecr _ ecc
         rw [← ecr] at hcr hjz
         rw [← ecc] at hjc hjz
         have hbb : ∀ b, wi.heap.size ≤ b → Beyond w1 (.slice A q c) b := fun b hb => ⟨Nat.le_trans HWI.out.2.2 hb, fun he => by have h9 := (HOI.out.2.2.1 b he).2; have := HWI.out; omega⟩
         have hcr2 := hcr.mono (S' := Beyond w1 (.slice A q c)) (T' := Beyond w1 (.slice A q c)) (fun b _ hb => hbb b hb) (fun b _ hb => hbb b hb.1)
         have HYI : Hid (IV.In (wr.alloc (.cells #[.int .u32 (t : Int), .int .i64 kk, .int .u64 0, .int .u32 (x : Int), .slice A5 j c5] 53)) (Beyond w1 (.slice A q c)) ⟨t, ⟨kk, 0, x, A5, j, c5, ys⟩⟩) := Lib.hid ⟨HT.out.1, ⟨hcr2.keep ((Fr.refl wr No).alloc (.cells #[.int .u32 (t : Int), .int .i64 kk, .int .u64 0, .int .u32 (x : Int), .slice A5 j c5] 53)) (fun _ _ hn => hn) (fun _ _ hn => hn), hjc, hjz, HT.out.2.2.1, HT.out.2.2.2, (by show (0 : Nat) < _; decide), HT.out.2.1⟩⟩
         have HOA := Lib.hid ((hoi.mono (S' := fun b => w1.heap.size ≤ b) (T' := Beyond w1 (.slice A q c)) (fun b _ hb => hb.1) (fun b _ hb => hb.1) (fun b hb hT => hT.2 hb)).alloc (.cells #[.int .u32 (t : Int), .int .i64 kk, .int .u64 0, .int .u32 (x : Int), .slice A5 j c5] 53))
         have HBN := Lib.hid (Blk.new wr 53 #[.int .u32 (t : Int), .int .i64 kk, .int .u64 0, .int .u32 (x : Int), .slice A5 j c5])
         have HB1 := Lib.hid hb1
         have HFR := Lib.hid hfr
         have HKB2 : Hid ((q + 1) * 56 ≤ 140737488355328) := Lib.hid (by have := HQL.out; have := HCN.out; omega)
         have b0 := HBX.out.cell 0
         have b1 := HBX.out.cell 1
         have b2 := HBX.out.cell 2
         have b3 := HBX.out.cell 3
         have b4 := HBX.out.cell 4
         have y11 := HB1.out.cell 11
         simp only [List.getElem?_toArray, List.getElem?_cons_zero, List.getElem?_cons_succ] at b0 b1 b2 b3 b4 y11
         clear hb1 hoi hfr hcr hcr2 hbb hjc hjz ecr ecc
         go_wp2_with (at_builtin; first
          | (refine wpList_appIV rfl (.tmp 84) (.tmp 86) rfl (.slice A q c) q xs rfl HOA.out wr.heap.size 1 ⟨t, ⟨kk, 0, x, A5, j, c5, ys⟩⟩ rfl HBN.out HYI.out HKB2.out ?_
             intro v6 w6 ho6 hg6
             have hown : ∀ b, (Value.slice A q c).ownBlock = some b → w1.heap.size ≤ b := fun b hb => HOA.out.2.2.1 b hb
             have hne : ∀ b, (Value.slice A q c).ownBlock = some b → W1.heap.size ≠ b := fun b hb => by have := hown b hb; have := HWL.out; omega
             obtain ⟨A6, c6, rfl, _, _, _, _⟩ := ho6.reads (by have := HQL.out; have := HCN.out; omega)
             have hb6 := (HB1.out.alloc (.cells #[.int .u32 (t : Int), .int .i64 kk, .int .u64 0, .int .u32 (x : Int), .slice A5 j c5] 53)).grown hg6 (fun he => hne _ he.symm rfl)
             have yc := hb6.cell 11
             have yf := hb6.frozen 11
             simp only [List.getElem?_toArray, List.getElem?_cons_zero, List.getElem?_cons_succ] at yc
             have HB6 : Hid (Blk (w6.setCell ⟨W1.heap.size, 11, none⟩ (.slice A6 (q + 1) c6)) W1.heap.size 31 #[.int .i64 k, .int .u64 0, .int .u32 0, .int .u64 0, .int .u64 0, .int .u32 0, .int .u32 0, .int .i64 0, .int .i64 0, .int .u32 0, .slice none 0 0, .slice A6 (q + 1) c6, .slice none 0 0, .slice none 0 0, .int .u32 0]) := Lib.hid (hb6.set_ 11 (.slice A6 (q + 1) c6))
             have HO6 : Hid (OwIV (w6.setCell ⟨W1.heap.size, 11, none⟩ (.slice A6 (q + 1) c6)) (fun b => w1.heap.size ≤ b) (Beyond w1 (.slice A6 (q + 1) c6)) (.slice A6 (q + 1) c6) (q + 1) (xs ++ [⟨t, ⟨kk, 0, x, A5, j, c5, ys⟩⟩])) := Lib.hid ((ho6.mono (S' := fun b => w1.heap.size ≤ b) (T' := Beyond w1 (.slice A6 (q + 1) c6)) (fun b _ hb => by
              rcases hb with hb | hb
              ·exact hb
              ·exact Nat.le_trans HFR.out.size (Nat.le_trans (by simp) hb)) (fun b _ hb => ⟨hb.1.1, fun he => ho6.2.2.2 b he hb⟩) (fun b hb hn => hn.2 hb)).keep (fr_set (g := W1.heap.size) (Fr.refl _ _) 11 (.slice A6 (q + 1) c6)) (fun b hb he => by have h9 : w1.heap.size ≤ b := hb; have h8 : b = W1.heap.size := he; have := HWL.out; omega) (fun b hb he => by have h9 : w1.heap.size ≤ b := hb.1; have h8 : b = W1.heap.size := he; have := HWL.out; omega))
             have HF6 : Hid (Fr w1 (w6.setCell ⟨W1.heap.size, 11, none⟩ (.slice A6 (q + 1) c6)) (fun b => S b ∨ b = W1.heap.size)) := Lib.hid (((HFR.out.alloc (.cells #[.int .u32 (t : Int), .int .i64 kk, .int .u64 0, .int .u32 (x : Int), .slice A5 j c5] 53)).grown hg6 (fun b hb => Or.inr (hown b hb))).setCell (p := ⟨W1.heap.size, 11, none⟩) (Or.inl (Or.inr rfl)) _)
             have HQ6 := Lib.hid (((HQ.out.alloc (.cells #[.int .u32 (t : Int), .int .i64 kk, .int .u64 0, .int .u32 (x : Int), .slice A5 j c5] 53)).grown hg6 (fun b hb => Nat.le_trans HGL.out (hown b hb))).set HG.out 11 (.slice A6 (q + 1) c6))
             clear ho6 hg6 hown hne hb6)
          | fail)
         go_roundw
         case rel =>
          have hdx := HDX.out
          rw [HFIC.out] at hdx
          refine ⟨q + 1, A6, c6, xs ++ [⟨t, ⟨kk, 0, x, A5, j, c5, ys⟩⟩], false, mj, by have := HQL.out; omega, by go_num, HB6.out, HO6.out, HQ6.out, HF6.out, ?_, HMJ.out⟩
          rw [hdx, List.map_append]
          rfl
         case measure => have := HQL.out; simp [intOf]; omega
       | true =>
         simp only [Bool.not_true] at yb
         obtain ⟨sz, os, ms, es⟩ : ∃ x o' m', dM true mj = (x, o', m') := ⟨_, _, _, rfl⟩
         have hsz : sz ≤ 20000 := by have h1 := dM_few true mj; have h2 := dM_le true mj; rw [es] at h1 h2; have := HMJ.out; simp only at h1 h2; omega
         have Hs := Lib.hid (fun W (h : Qe W S Y g true mj) => qM_any W S Y g true mj h _ _ _ es)
         have hWi : IntKind.i64.wrap ((j : Int) + 1) = ((j + 1 : Nat) : Int) := by rw [IntWalk.i64_in _ (by have := HN4.out; omega)]; omega
         have HJL := Lib.hid hlt
         have HES := Lib.hid es
         have HGY : Hid (wi.heap.size ≤ wr.heap.size ∧ wt.heap.size < wr.heap.size ∧ w.heap.size ≤ wr.heap.size) := Lib.hid ⟨HFI.out.size, HBX.out.lt, HQ.out.size⟩
         have hocr := HOC.out.mono (S' := fun b => wi.heap.size ≤ b ∧ b < wr.heap.size) (T' := fun b => Beyond wi (.slice A5 j c5) b ∧ b < wr.heap.size) (fun b hlt hb => ⟨hb, hlt⟩) (fun b hlt hb => ⟨hb, hlt⟩) (fun b hb hT => HOC.out.2.2.2 b hb hT.1)
         have HBX := Lib.hid (HBX.out.alloc (.cells #[.bool false, .int .u32 0, .slice none 0 0] 55))
         have HOC := Lib.hid (hocr.alloc (.cells #[.bool false, .int .u32 0, .slice none 0 0] 55))
         have HQ := Lib.hid (HQ.out.alloc (.cells #[.bool false, .int .u32 0, .slice none 0 0] 55))
         have HFI := Lib.hid (HFI.out.alloc (.cells #[.bool false, .int .u32 0, .slice none 0 0] 55))
         have HBY := Lib.hid (Blk.new wr 55 #[.bool false, .int .u32 0, .slice none 0 0])
         clear es hocr hlt hj
         unfold qp at Hs
         go_wp2_with fail
         with_reducible refine (Hs.out _ HQ.out.rd).mono ?_
         rintro e ws ⟨rfl, hq⟩
         have hbx := HBX.out.keep hq.2 (HQ.out.not HGX.out.1)
         have hoc := HOC.out.keep hq.2 (fun b hb => HQ.out.not (Nat.le_trans HWI.out.2.1 hb.1)) (fun b hb => HQ.out.not (Nat.le_trans HWI.out.2.1 hb.1.1))
         have hqq := HQ.out.call hq
         have hfi := HFI.out.trans hq.2 (fun b hb => Or.inl (Or.inl hb))
         have hby := HBY.out.keep hq.2 (HQ.out.not HGY.out.2.2)
         by_cases h0 : sz = 0
         ·have d5 : decide ((sz : Int) > 0) = false := decide_eq_false (by omega)
          have d6 : decide (0 < sz) = false := decide_eq_false (by omega)
          have HDY : Hid (dC true mj = (cz, os, ms)) := Lib.hid (by rw [dC_zero _ _ (by rw [HES.out]; exact h0), HES.out])
          have HMS : Hid (ms.length ≤ 20000) := Lib.hid (by have h1 := dM_le true mj; rw [HES.out] at h1; exact Nat.le_trans h1 HMJ.out)
          have HBX := Lib.hid hbx
          have HOC := Lib.hid hoc
          have HQ := Lib.hid hqq
          have HFI := Lib.hid hfi
          have HBY := Lib.hid hby
          clear hq hbx hoc hqq hfi hby h0 hsz
          have b0 := HBY.out.cell 0
          have b1 := HBY.out.cell 1
          have b2 := HBY.out.cell 2
          have y4 := HBX.out.cell 4
          simp only [List.getElem?_toArray, List.getElem?_cons_zero, List.getElem?_cons_succ] at b0 b1 b2 y4
          have HYI : Hid (CV.In ws (Beyond wi (.slice A5 j c5)) ⟨false, 0, none, 0, 0, []⟩) := Lib.hid (⟨RB.nil_, (by show (0 : Nat) < _; decide), Nat.le_refl _, Nat.zero_le _, fun _ => rfl⟩)
          have HOA := Lib.hid ((HOC.out.mono (S' := fun b => wi.heap.size ≤ b) (T' := Beyond wi (.slice A5 j c5)) (fun b _ hb => hb.1) (fun b _ hb => hb.1) (fun b hb hT => hT.2 hb)).alloc (.cells #[.bool false, .int .u32 0, .slice none 0 0] 55))
          have HC3 : Hid (CR (ws.alloc (.cells #[.bool false, .int .u32 0, .slice none 0 0] 55)) All (Beyond wi (.slice A5 j c5)) (some ⟨ws.heap.size, 0, none⟩) 1 [⟨false, 0, none, 0, 0, []⟩]) := Lib.hid (CR.one ws All _ ⟨false, 0, none, 0, 0, []⟩ _ rfl trivial HYI.out)
          have HKB2 : Hid ((j + 1) * 32 ≤ 140737488355328) := Lib.hid (by have := HJL.out; have := HN4.out; omega)
          go_wp2_with (at_builtin; first
           | (refine wpList_appC rfl (.tmp 77) (.tmp 79) rfl (.slice A5 j c5) j ys rfl HOA.out (some ⟨ws.heap.size, 0, none⟩) 1 1 [⟨false, 0, none, 0, 0, []⟩] rfl HC3.out HKB2.out ?_
              intro v6 w6 ho6 hg6
              have hown : ∀ b, (Value.slice A5 j c5).ownBlock = some b → wi.heap.size ≤ b := fun b hb => (HOC.out.2.2.1 b hb).1
              have hne : ∀ b, (Value.slice A5 j c5).ownBlock = some b → wt.heap.size ≠ b := fun b hb => by have := hown b hb; have := HWI.out; omega
              obtain ⟨A6, c6, rfl, _, _, _, _⟩ := ho6.reads (by have := HJL.out; have := HN4.out; omega)
              have hb6 := (HBX.out.alloc (.cells #[.bool false, .int .u32 0, .slice none 0 0] 55)).grown hg6 (fun he => hne _ he.symm rfl)
              have yc := hb6.cell 4
              have yf := hb6.frozen 4
              simp only [List.getElem?_toArray, List.getElem?_cons_zero, List.getElem?_cons_succ] at yc
              have HB6 : Hid (Blk (w6.setCell ⟨wt.heap.size, 4, none⟩ (.slice A6 (j + 1) c6)) wt.heap.size 53 #[.int .u32 (t : Int), .int .i64 kk, .int .u64 0, .int .u32 (x : Int), .slice A6 (j + 1) c6]) := Lib.hid (hb6.set_ 4 (.slice A6 (j + 1) c6))
              have HO6 : Hid (OwC (w6.setCell ⟨wt.heap.size, 4, none⟩ (.slice A6 (j + 1) c6)) (fun b => wi.heap.size ≤ b) (Beyond wi (.slice A6 (j + 1) c6)) (.slice A6 (j + 1) c6) (j + 1) (ys ++ [⟨false, 0, none, 0, 0, []⟩])) := Lib.hid ((ho6.mono (S' := fun b => wi.heap.size ≤ b) (T' := Beyond wi (.slice A6 (j + 1) c6)) (fun b _ hb => by
               rcases hb with hb | hb
               ·exact hb
               ·exact Nat.le_trans HFI.out.size (Nat.le_trans (by simp) hb)) (fun b _ hb => ⟨hb.1.1, fun he => ho6.2.2.2 b he hb⟩) (fun b hb hn => hn.2 hb)).keep (fr_set (g := wt.heap.size) (Fr.refl _ _) 4 (.slice A6 (j + 1) c6)) (fun b hb he => by have h9 : wi.heap.size ≤ b := hb; have h8 : b = wt.heap.size := he; have := HWI.out; omega) (fun b hb he => by have h9 : wi.heap.size ≤ b := hb.1; have h8 : b = wt.heap.size := he; have := HWI.out; omega))
              have HF6 : Hid (Fr wi (w6.setCell ⟨wt.heap.size, 4, none⟩ (.slice A6 (j + 1) c6)) (fun b => S b ∨ b = wt.heap.size)) := Lib.hid (((HFI.out.alloc (.cells #[.bool false, .int .u32 0, .slice none 0 0] 55)).grown hg6 (fun b hb => Or.inr (hown b hb))).setCell (p := ⟨wt.heap.size, 4, none⟩) (Or.inl (Or.inr rfl)) _)
              have HQ6 := Lib.hid (((HQ.out.alloc (.cells #[.bool false, .int .u32 0, .slice none 0 0] 55)).grown hg6 (fun b hb => Nat.le_trans HWI.out.2.1 (hown b hb))).set HGX.out.1 4 (.slice A6 (j + 1) c6))
              clear ho6 hg6 hown hne hb6)
           | fail)
          go_roundw
          case rel =>
           refine ⟨j + 1, A6, c6, ys ++ [⟨false, 0, none, 0, 0, []⟩], os, ms, by have := HJL.out; omega, by go_num, HB6.out, HO6.out, HQ6.out, HF6.out, ?_, HMS.out⟩
           rw [HDC.out, show n4 - j = (n4 - (j + 1)) + 1 by have := HJL.out; omega]
           simp only [dLC, if_true, HDY.out, List.map_append, List.append_assoc, List.singleton_append, List.map_cons, List.map_nil]
           rfl
          case measure => have := HJL.out; simp [intOf]; omega
         ·have d5 : decide ((sz : Int) > 0) = true := decide_eq_true (by omega)
          have d6 : decide (0 < sz) = true := decide_eq_true (by omega)
          obtain ⟨kl, okl, mkl, ekl⟩ : ∃ x o' m', dN os ms = (x, o', m') := ⟨_, _, _, rfl⟩
          obtain ⟨dd, od, md, ed⟩ : ∃ x o' m', rR okl mkl (sz : Nat) = (x, o', m') := ⟨_, _, _, rfl⟩
          have HDY : Hid (dC true mj = (⟨true, kl, dd⟩, od, md)) := Lib.hid (by rw [dC_pos _ _ (by rw [HES.out]; exact h0)]; simp only [HES.out, ekl, ed])
          have HMS : Hid (md.length ≤ 20000 ∧ dd.length ≤ 20000) := Lib.hid (by
           have h1 := dM_le true mj
           have h2 := dN_le os ms
           have h3 := rR_le okl mkl (sz : Nat)
           have h4 := rR_len okl mkl (sz : Nat)
           rw [HES.out] at h1
           rw [ekl] at h2
           rw [ed] at h3 h4
           have := HMJ.out
           simp only at h1 h2 h3 h4
           exact ⟨by omega, by omega⟩)
          have HKL : Hid (kl < 4294967296) := Lib.hid (by have := dN_lt os ms; rw [ekl] at this; exact this)
          have Hkl := Lib.hid (fun W (h : Qe W S Y g os ms) => qN_any W S Y g os ms h _ _ _ ekl)
          have Hd := Lib.hid (fun W (h : Qe W S Y g okl mkl) => qR_any W S Y g okl mkl (sz : Nat) ⟨by omega, by omega⟩ h _ _ _ ed)
          unfold qp at Hkl Hd
          clear hq ekl ed h0 hsz
          have yc := hby.cell 0
          have yf := hby.frozen 0
          simp only [List.getElem?_toArray, List.getElem?_cons_zero] at yc
          have HBY : Hid (Blk (ws.setCell ⟨wr.heap.size, 0, none⟩ (.bool true)) wr.heap.size 55 #[.bool true, .int .u32 0, .slice none 0 0]) := Lib.hid (hby.set_ 0 (.bool true))
          have HBX := Lib.hid (hbx.far (p := ⟨wr.heap.size, 0, none⟩) (by have := HGY.out; show wt.heap.size ≠ wr.heap.size; omega) (.bool true))
          have HOC := Lib.hid (hoc.keep (fr_set (g := wr.heap.size) (Fr.refl _ _) 0 (.bool true)) (fun b hb he => by have h9 : b < wr.heap.size := hb.2; have h8 : b = wr.heap.size := he; omega) (fun b hb he => by have h9 : b < wr.heap.size := hb.2; have h8 : b = wr.heap.size := he; omega))
          have HQ := Lib.hid (hqq.set HGY.out.2.2 0 (.bool true))
          have HFI := Lib.hid (hfi.setCell (p := ⟨wr.heap.size, 0, none⟩) (Or.inr HGY.out.1) (.bool true))
          clear hbx hoc hqq hfi hby
          go_wp2_with fail
          with_reducible refine (Hkl.out _ HQ.out.rd).mono ?_
          rintro e wl ⟨rfl, hq⟩
          have hbx := HBX.out.keep hq.2 (HQ.out.not HGX.out.1)
          have hoc := HOC.out.keep hq.2 (fun b hb => HQ.out.not (Nat.le_trans HWI.out.2.1 hb.1)) (fun b hb => HQ.out.not (Nat.le_trans HWI.out.2.1 hb.1.1))
          have hqq := HQ.out.call hq
          have hfi := HFI.out.trans hq.2 (fun b hb => Or.inl (Or.inl hb))
          have hby := HBY.out.keep hq.2 (HQ.out.not HGY.out.2.2)
          have yc := hby.cell 1
          have yf := hby.frozen 1
          simp only [List.getElem?_toArray, List.getElem?_cons_zero, List.getElem?_cons_succ] at yc
          have HBY : Hid (Blk (wl.setCell ⟨wr.heap.size, 1, none⟩ (.int .u32 (kl : Int))) wr.heap.size 55 #[.bool true, .int .u32 (kl : Int), .slice none 0 0]) := Lib.hid (hby.set_ 1 (.int .u32 (kl : Int)))
          have HBX := Lib.hid (hbx.far (p := ⟨wr.heap.size, 1, none⟩) (by have := HGY.out; show wt.heap.size ≠ wr.heap.size; omega) (.int .u32 (kl : Int)))
          have HOC := Lib.hid (hoc.keep (fr_set (g := wr.heap.size) (Fr.refl _ _) 1 (.int .u32 (kl : Int))) (fun b hb he => by have h9 : b < wr.heap.size := hb.2; have h8 : b = wr.heap.size := he; omega) (fun b hb he => by have h9 : b < wr.heap.size := hb.2; have h8 : b = wr.heap.size := he; omega))
          have HQ := Lib.hid (hqq.set HGY.out.2.2 1 (.int .u32 (kl : Int)))
          have HFI := Lib.hid (hfi.setCell (p := ⟨wr.heap.size, 1, none⟩) (Or.inr HGY.out.1) (.int .u32 (kl : Int)))
          clear hbx hoc hqq hfi hby
          clear hq
          go_wp2_with fail
          have HWD : Hid (wl.heap.size = (wl.setCell ⟨wr.heap.size, 1, none⟩ (.int .u32 (kl : Int))).heap.size) := Lib.hid (by simp)
          have HBYL : Hid (wr.heap.size < wl.heap.size) := Lib.hid (by have := HBY.out.lt; rw [← HWD.out] at this; exact this)
          with_reducible refine (Hd.out _ HQ.out.rd).mono ?_
          rintro e wd ⟨A7, c7, rfl, hdc, hdz, hrb, hq⟩
          obtain ⟨dl, hdl⟩ : ∃ dl, dl = dd.length := ⟨_, rfl⟩
          rw [← hdl] at hdc hrb
          rw [← hdl]
          have HDD := Lib.hid (And.intro hdc (And.intro hdz hdl))
          have hbx := HBX.out.keep hq.2 (HQ.out.not HGX.out.1)
          have hoc := HOC.out.keep hq.2 (fun b hb => HQ.out.not (Nat.le_trans HWI.out.2.1 hb.1)) (fun b hb => HQ.out.not (Nat.le_trans HWI.out.2.1 hb.1.1))
          have hqq := HQ.out.call hq
          have hfi := HFI.out.trans hq.2 (fun b hb => Or.inl (Or.inl hb))
          have hby := HBY.out.keep hq.2 (HQ.out.not HGY.out.2.2)
          have yc := hby.cell 2
          have yf := hby.frozen 2
          simp only [List.getElem?_toArray, List.getElem?_cons_zero, List.getElem?_cons_succ] at yc
          have HBY : Hid (Blk (wd.setCell ⟨wr.heap.size, 2, none⟩ (.slice A7 dl c7)) wr.heap.size 55 #[.bool true, .int .u32 (kl : Int), .slice A7 dl c7]) := Lib.hid (hby.set_ 2 (.slice A7 dl c7))
          have HBX := Lib.hid (hbx.far (p := ⟨wr.heap.size, 2, none⟩) (by have := HGY.out; show wt.heap.size ≠ wr.heap.size; omega) (.slice A7 dl c7))
          have HOC := Lib.hid (hoc.keep (fr_set (g := wr.heap.size) (Fr.refl _ _) 2 (.slice A7 dl c7)) (fun b hb he => by have h9 : b < wr.heap.size := hb.2; have h8 : b = wr.heap.size := he; omega) (fun b hb he => by have h9 : b < wr.heap.size := hb.2; have h8 : b = wr.heap.size := he; omega))
          have HQ := Lib.hid (hqq.set HGY.out.2.2 2 (.slice A7 dl c7))
          have HFI := Lib.hid (hfi.setCell (p := ⟨wr.heap.size, 2, none⟩) (Or.inr HGY.out.1) (.slice A7 dl c7))
          clear hbx hoc hqq hfi hby
          have HRB := Lib.hid (hrb.far (p := ⟨wr.heap.size, 2, none⟩) (by have h1 := HWD.out; have h7 := HBYL.out; show ¬ _; intro h9; have h8 : (wl.setCell ⟨wr.heap.size, 1, none⟩ (.int .u32 (kl : Int))).heap.size ≤ wr.heap.size := h9; omega) (.slice A7 dl c7))
          clear hq hrb hdc hdz hdl
          obtain ⟨wv, hwv⟩ : ∃ wv, wd.setCell ⟨wr.heap.size, 2, none⟩ (.slice A7 dl c7) = wv := ⟨_, rfl⟩
          rw [hwv] at HBY HBX HOC HQ HFI HRB
          have b0 := HBY.out.cell 0
          have b1 := HBY.out.cell 1
          have b2 := HBY.out.cell 2
          have y4 := HBX.out.cell 4
          simp only [List.getElem?_toArray, List.getElem?_cons_zero, List.getElem?_cons_succ] at b0 b1 b2 y4
          have HYI : Hid (CV.In wv (Beyond wi (.slice A5 j c5)) ⟨true, kl, A7, dl, c7, dd⟩) := Lib.hid (⟨HRB.out.mono (fun b _ hb => ⟨by have h8 : (wl.setCell ⟨wr.heap.size, 1, none⟩ (.int .u32 (kl : Int))).heap.size ≤ b := hb; have := HWD.out; have := HBYL.out; have := HGY.out; omega, fun he => by have h9 := (HOC.out.2.2.1 b he).2; have h8 : (wl.setCell ⟨wr.heap.size, 1, none⟩ (.int .u32 (kl : Int))).heap.size ≤ b := hb; have := HWD.out; have := HBYL.out; omega⟩), HKL.out, HDD.out.1, (by show dl ≤ _; have := HMS.out.2; have := HDD.out.2.2; omega), HDD.out.2.1⟩)
          have HOA := Lib.hid ((HOC.out.mono (S' := fun b => wi.heap.size ≤ b) (T' := Beyond wi (.slice A5 j c5)) (fun b _ hb => hb.1) (fun b _ hb => hb.1) (fun b hb hT => hT.2 hb)).alloc (.cells #[.bool true, .int .u32 (kl : Int), .slice A7 dl c7] 55))
          have HC3 : Hid (CR (wv.alloc (.cells #[.bool true, .int .u32 (kl : Int), .slice A7 dl c7] 55)) All (Beyond wi (.slice A5 j c5)) (some ⟨wv.heap.size, 0, none⟩) 1 [⟨true, kl, A7, dl, c7, dd⟩]) := Lib.hid (CR.one wv All _ ⟨true, kl, A7, dl, c7, dd⟩ _ rfl trivial HYI.out)
          have HKB2 : Hid ((j + 1) * 32 ≤ 140737488355328) := Lib.hid (by have := HJL.out; have := HN4.out; omega)
          go_wp2_with (at_builtin; first
           | (refine wpList_appC rfl (.tmp 77) (.tmp 79) rfl (.slice A5 j c5) j ys rfl HOA.out (some ⟨wv.heap.size, 0, none⟩) 1 1 [⟨true, kl, A7, dl, c7, dd⟩] rfl HC3.out HKB2.out ?_
              intro v6 w6 ho6 hg6
              have hown : ∀ b, (Value.slice A5 j c5).ownBlock = some b → wi.heap.size ≤ b := fun b hb => (HOC.out.2.2.1 b hb).1
              have hne : ∀ b, (Value.slice A5 j c5).ownBlock = some b → wt.heap.size ≠ b := fun b hb => by have := hown b hb; have := HWI.out; omega
              obtain ⟨A6, c6, rfl, _, _, _, _⟩ := ho6.reads (by have := HJL.out; have := HN4.out; omega)
              have hb6 := (HBX.out.alloc (.cells #[.bool true, .int .u32 (kl : Int), .slice A7 dl c7] 55)).grown hg6 (fun he => hne _ he.symm rfl)
              have yc := hb6.cell 4
              have yf := hb6.frozen 4
              simp only [List.getElem?_toArray, List.getElem?_cons_zero, List.getElem?_cons_succ] at yc
              have HB6 : Hid (Blk (w6.setCell ⟨wt.heap.size, 4, none⟩ (.slice A6 (j + 1) c6)) wt.heap.size 53 #[.int .u32 (t : Int), .int .i64 kk, .int .u64 0, .int .u32 (x : Int), .slice A6 (j + 1) c6]) := Lib.hid (hb6.set_ 4 (.slice A6 (j + 1) c6))
              have HO6 : Hid (OwC (w6.setCell ⟨wt.heap.size, 4, none⟩ (.slice A6 (j + 1) c6)) (fun b => wi.heap.size ≤ b) (Beyond wi (.slice A6 (j + 1) c6)) (.slice A6 (j + 1) c6) (j + 1) (ys ++ [⟨true, kl, A7, dl, c7, dd⟩])) := Lib.hid ((ho6.mono (S' := fun b => wi.heap.size ≤ b) (T' := Beyond wi (.slice A6 (j + 1) c6)) (fun b _ hb => by
               rcases hb with hb | hb
               ·exact hb
               ·exact Nat.le_trans HFI.out.size (Nat.le_trans (by simp) hb)) (fun b _ hb => ⟨hb.1.1, fun he => ho6.2.2.2 b he hb⟩) (fun b hb hn => hn.2 hb)).keep (fr_set (g := wt.heap.size) (Fr.refl _ _) 4 (.slice A6 (j + 1) c6)) (fun b hb he => by have h9 : wi.heap.size ≤ b := hb; have h8 : b = wt.heap.size := he; have := HWI.out; omega) (fun b hb he => by have h9 : wi.heap.size ≤ b := hb.1; have h8 : b = wt.heap.size := he; have := HWI.out; omega))
              have HF6 : Hid (Fr wi (w6.setCell ⟨wt.heap.size, 4, none⟩ (.slice A6 (j + 1) c6)) (fun b => S b ∨ b = wt.heap.size)) := Lib.hid (((HFI.out.alloc (.cells #[.bool true, .int .u32 (kl : Int), .slice A7 dl c7] 55)).grown hg6 (fun b hb => Or.inr (hown b hb))).setCell (p := ⟨wt.heap.size, 4, none⟩) (Or.inl (Or.inr rfl)) _)
              have HQ6 := Lib.hid (((HQ.out.alloc (.cells #[.bool true, .int .u32 (kl : Int), .slice A7 dl c7] 55)).grown hg6 (fun b hb => Nat.le_trans HWI.out.2.1 (hown b hb))).set HGX.out.1 4 (.slice A6 (j + 1) c6))
              clear ho6 hg6 hown hne hb6)
           | fail)
          go_roundw
          case rel =>
           refine ⟨j + 1, A6, c6, ys ++ [⟨true, kl, A7, dl, c7, dd⟩], od, md, by have := HJL.out; omega, by go_num, HB6.out, HO6.out, HQ6.out, HF6.out, ?_, HMS.out.1⟩
           rw [HDC.out, show n4 - j = (n4 - (j + 1)) + 1 by have := HJL.out; omega]
           simp only [dLC, if_true, HDY.out, List.map_append, List.append_assoc, List.singleton_append, List.map_cons, List.map_nil]
           rfl
          case measure => have := HJL.out; simp [intOf]; omega
      ·have d3 : decide ((j : Int) < (n4 : Int)) = false := decide_eq_false (by omega)
       have d4 : decide (j < n4) = false := decide_eq_false hlt
       have HFIC : Hid (dLC n4 o4 m4 = (ys.map CV.e, oj, mj)) := Lib.hid (by rw [HDC.out, show n4 - j = 0 by omega]; simp [dLC])
       have HJN : Hid (j ≤ 20000) := Lib.hid (by have := HN4.out; omega)
       clear HDC hlt hj
       have hb1 := HB1.out.keep HFI.out (fun h => by rcases h with h | h; exact (HQ.out.not HG.out) h; have := HGX.out; omega)
       have hoi := HOI.out.keep HFI.out (fun b hb he => by rcases he with he | he; exact (HQ.out.not (Nat.le_trans HGL.out hb.1)) he; have h9 : b < wt.heap.size := hb.2; omega) (fun b hb he => by rcases he with he | he; exact (HQ.out.not (Nat.le_trans HGL.out hb.1.1)) he; have h9 : b < wt.heap.size := hb.2; omega)
       have hfr := HFR.out.trans HFI.out (fun b hb => by rcases hb with hb | hb; exact Or.inl (Or.inl hb); exact Or.inr (by rw [hb]; exact HGX.out.2.1))
       have hcr := HOC.out.reads (by have := HJN.out; omega)
       obtain ⟨_, _, ecr, hjc, _, hjz, hcr⟩ := hcr
       injection ecr with ecr _ ecc
       rw [← ecr] at hcr hjz
       rw [← ecc] at hjc hjz
       have hbb : ∀ b, wi.heap.size ≤ b → Beyond w1 (.slice A q c) b := fun b hb => ⟨Nat.le_trans HWI.out.2.2 hb, fun he => by have h9 := (HOI.out.2.2.1 b he).2; have := HWI.out; omega⟩
       have hcr2 := hcr.mono (S' := Beyond w1 (.slice A q c)) (T' := Beyond w1 (.slice A q c)) (fun b _ hb => hbb b hb) (fun b _ hb => hbb b hb.1)
       have HYI : Hid (IV.In (wr.alloc (.cells #[.int .u32 (t : Int), .int .i64 kk, .int .u64 0, .int .u32 (x : Int), .slice A5 j c5] 53)) (Beyond w1 (.slice A q c)) ⟨t, ⟨kk, 0, x, A5, j, c5, ys⟩⟩) := Lib.hid ⟨HT.out.1, ⟨hcr2.keep ((Fr.refl wr No).alloc (.cells #[.int .u32 (t : Int), .int .i64 kk, .int .u64 0, .int .u32 (x : Int), .slice A5 j c5] 53)) (fun _ _ hn => hn) (fun _ _ hn => hn), hjc, hjz, HT.out.2.2.1, HT.out.2.2.2, (by show (0 : Nat) < _; decide), HT.out.2.1⟩⟩
       have HOA := Lib.hid ((hoi.mono (S' := fun b => w1.heap.size ≤ b) (T' := Beyond w1 (.slice A q c)) (fun b _ hb => hb.1) (fun b _ hb => hb.1) (fun b hb hT => hT.2 hb)).alloc (.cells #[.int .u32 (t : Int), .int .i64 kk, .int .u64 0, .int .u32 (x : Int), .slice A5 j c5] 53))
       have HBN := Lib.hid (Blk.new wr 53 #[.int .u32 (t : Int), .int .i64 kk, .int .u64 0, .int .u32 (x : Int), .slice A5 j c5])
       have HB1 := Lib.hid hb1
       have HFR := Lib.hid hfr
       have HKB2 : Hid ((q + 1) * 56 ≤ 140737488355328) := Lib.hid (by have := HQL.out; have := HCN.out; omega)
       have b0 := HBX.out.cell 0
       have b1 := HBX.out.cell 1
       have b2 := HBX.out.cell 2
       have b3 := HBX.out.cell 3
       have b4 := HBX.out.cell 4
       have y11 := HB1.out.cell 11
       simp only [List.getElem?_toArray, List.getElem?_cons_zero, List.getElem?_cons_succ] at b0 b1 b2 b3 b4 y11
       clear hb1 hoi hfr hcr hcr2 hbb hjc hjz ecr ecc
       go_wp2_with (at_builtin; first
        | (refine wpList_appIV rfl (.tmp 84) (.tmp 86) rfl (.slice A q c) q xs rfl HOA.out wr.heap.size 1 ⟨t, ⟨kk, 0, x, A5, j, c5, ys⟩⟩ rfl HBN.out HYI.out HKB2.out ?_
           intro v6 w6 ho6 hg6
           have hown : ∀ b, (Value.slice A q c).ownBlock = some b → w1.heap.size ≤ b := fun b hb => HOA.out.2.2.1 b hb
           have hne : ∀ b, (Value.slice A q c).ownBlock = some b → W1.heap.size ≠ b := fun b hb => by have := hown b hb; have := HWL.out; omega
           obtain ⟨A6, c6, rfl, _, _, _, _⟩ := ho6.reads (by have := HQL.out; have := HCN.out; omega)
           have hb6 := (HB1.out.alloc (.cells #[.int .u32 (t : Int), .int .i64 kk, .int .u64 0, .int .u32 (x : Int), .slice A5 j c5] 53)).grown hg6 (fun he => hne _ he.symm rfl)
           have yc := hb6.cell 11
           have yf := hb6.frozen 11
           simp only [List.getElem?_toArray, List.getElem?_cons_zero, List.getElem?_cons_succ] at yc
           have HB6 : Hid (Blk (w6.setCell ⟨W1.heap.size, 11, none⟩ (.slice A6 (q + 1) c6)) W1.heap.size 31 #[.int .i64 k, .int .u64 0, .int .u32 0, .int .u64 0, .int .u64 0, .int .u32 0, .int .u32 0, .int .i64 0, .int .i64 0, .int .u32 0, .slice none 0 0, .slice A6 (q + 1) c6, .slice none 0 0, .slice none 0 0, .int .u32 0]) := Lib.hid (hb6.set_ 11 (.slice A6 (q + 1) c6))
           have HO6 : Hid (OwIV (w6.setCell ⟨W1.heap.size, 11, none⟩ (.slice A6 (q + 1) c6)) (fun b => w1.heap.size ≤ b) (Beyond w1 (.slice A6 (q + 1) c6)) (.slice A6 (q + 1) c6) (q + 1) (xs ++ [⟨t, ⟨kk, 0, x, A5, j, c5, ys⟩⟩])) := Lib.hid ((ho6.mono (S' := fun b => w1.heap.size ≤ b) (T' := Beyond w1 (.slice A6 (q + 1) c6)) (fun b _ hb => by
            rcases hb with hb | hb
            ·exact hb
            ·exact Nat.le_trans HFR.out.size (Nat.le_trans (by simp) hb)) (fun b _ hb => ⟨hb.1.1, fun he => ho6.2.2.2 b he hb⟩) (fun b hb hn => hn.2 hb)).keep (fr_set (g := W1.heap.size) (Fr.refl _ _) 11 (.slice A6 (q + 1) c6)) (fun b hb he => by have h9 : w1.heap.size ≤ b := hb; have h8 : b = W1.heap.size := he; have := HWL.out; omega) (fun b hb he => by have h9 : w1.heap.size ≤ b := hb.1; have h8 : b = W1.heap.size := he; have := HWL.out; omega))
           have HF6 : Hid (Fr w1 (w6.setCell ⟨W1.heap.size, 11, none⟩ (.slice A6 (q + 1) c6)) (fun b => S b ∨ b = W1.heap.size)) := Lib.hid (((HFR.out.alloc (.cells #[.int .u32 (t : Int), .int .i64 kk, .int .u64 0, .int .u32 (x : Int), .slice A5 j c5] 53)).grown hg6 (fun b hb => Or.inr (hown b hb))).setCell (p := ⟨W1.heap.size, 11, none⟩) (Or.inl (Or.inr rfl)) _)
           have HQ6 := Lib.hid (((HQ.out.alloc (.cells #[.int .u32 (t : Int), .int .i64 kk, .int .u64 0, .int .u32 (x : Int), .slice A5 j c5] 53)).grown hg6 (fun b hb => Nat.le_trans HGL.out (hown b hb))).set HG.out 11 (.slice A6 (q + 1) c6))
           clear ho6 hg6 hown hne hb6)
        | fail)
       go_roundw
       case rel =>
        have hdx := HDX.out
        rw [HFIC.out] at hdx
        refine ⟨q + 1, A6, c6, xs ++ [⟨t, ⟨kk, 0, x, A5, j, c5, ys⟩⟩], oj, mj, by have := HQL.out; omega, by go_num, HB6.out, HO6.out, HQ6.out, HF6.out, ?_, HMJ.out⟩
        rw [hdx, List.map_append]
        rfl
       case measure => have := HQL.out; simp [intOf]; omega
  ·have d1 : decide ((q : Int) < (n1 : Int)) = false := decide_eq_false (by omega)
   have d2 : decide (q < n1) = false := decide_eq_false hlt
   have HFIN : Hid (dLJ n1 o1 l1 = (xs.map IV.e, o, m)) := Lib.hid (by rw [HDL.out, show n1 - q = 0 by omega]; simp [dLJ])
   clear HDL hlt
   have HDZ : Hid (Blk wr w.heap.size 31 #[.int .i64 0, .int .u64 0, .int .u32 0, .int .u64 0, .int .u64 0, .int .u32 0, .int .u32 0, .int .i64 0, .int .i64 0, .int .u32 0, .slice none 0 0, .slice none 0 0, .slice none 0 0, .slice none 0 0, .int .u32 0]) := Lib.hid (HD1.out.keep HFR.out (fun h => by rcases h with h | h; exact (HQ.out.not (Nat.le_refl _)) h; exact HNE.out.1 h))
   have HQB := Lib.hid hq
   clear hq
   go_wp2_with (first
    | (refine wpList_ldB rfl 31 (.tmp 5) rfl W1.heap.size rfl 31 #[.int .i64 k, .int .u64 0, .int .u32 0, .int .u64 0, .int .u64 0, .int .u32 0, .int .u32 0, .int .i64 0, .int .i64 0, .int .u32 0, .slice none 0 0, .slice A q c, .slice none 0 0, .slice none 0 0, .int .u32 0] _ HB1.out Tryz.underlying31 rfl size31 ?_)
    | (refine wpList_stB rfl 31 (.tmp 4) (.tmp 89) rfl w.heap.size #[.int .i64 k, .int .u64 0, .int .u32 0, .int .u64 0, .int .u64 0, .int .u32 0, .int .u32 0, .int .i64 0, .int .i64 0, .int .u32 0, .slice none 0 0, .slice A q c, .slice none 0 0, .slice none 0 0, .int .u32 0] rfl rfl 31 #[.int .i64 0, .int .u64 0, .int .u32 0, .int .u64 0, .int .u64 0, .int .u32 0, .int .u32 0, .int .i64 0, .int .i64 0, .int .u32 0, .slice none 0 0, .slice none 0 0, .slice none 0 0, .slice none 0 0, .int .u32 0] HDZ.out size31 rfl rfl ?_
       intro wz hbz hfz
       have HBZ := Lib.hid hbz
       have HFZ := Lib.hid hfz
       clear hbz hfz))
   refine bodyPost_ret (results_cell_row Tryz.results36 _ _ w.heap.size 31 _ (0, 0) _ rfl HBZ.out Tryz.underlying31 rfl size31) rfl ?_
   have hgl := HGL.out
   have hwl := HWL.out
   have hne := HNE.out
   have hrz := HQ.out.fr HFZ.out (fun b hb => by omega)
   have hl1 := (HOI.out.keep HFZ.out (fun b hb he => by have h9 : w1.heap.size ≤ b := hb; have h8 : b = w.heap.size := he; omega) (fun b hb he => by have h9 : w1.heap.size ≤ b := hb.1; have h8 : b = w.heap.size := he; omega)).reads (by have := HQB.out; have := HCN.out; omega)
   obtain ⟨_, _, el, _, _, _, hlr⟩ := hl1
   injection el with el _ _
   rw [← el] at hlr
   have hs := HS.out
   rw [HFIN.out] at hs
   rw [hs]
   refine ⟨⟨k, 0, 0, 0, 0, 0, 0, ⟨0, 0, 0, none, 0, 0, []⟩, A, q, c, xs, none, 0, 0, [], none, 0, 0, [], 0⟩, rfl, rfl, ?_, hrz.rd, hrz.2.2.2⟩
   exact ⟨HKB.out.1, HKB.out.2, (by show (0 : Nat) < _; decide), (by show (0 : Nat) < _; decide), (by show (0 : Nat) < _; decide), (by show (0 : Nat) < _; decide), (by show (0 : Nat) < _; decide), (by show (0 : Nat) < _; decide), ⟨RB.nil_, (by show (-9223372036854775808 : Int) ≤ 0; decide), (by show (0 : Int) ≤ 9223372036854775807; decide), (by show (-9223372036854775808 : Int) ≤ 0; decide), (by show (0 : Int) ≤ 9223372036854775807; decide), (by show (0 : Nat) < _; decide), Nat.le_refl _, Nat.zero_le _, fun _ => rfl⟩, hlr.mono (fun b _ hb => by rcases hb with hb | hb; exact Nat.le_trans hgl hb; exact Nat.le_trans hgl hb.1), ⟨rfl, (fun x hx => by cases hx), Nat.zero_le _, fun h => absurd h (Nat.lt_irrefl 0)⟩, ⟨rfl, (fun x hx => by cases hx), Nat.zero_le _, fun h => absurd h (Nat.lt_irrefl 0)⟩, (by show (0 : Nat) < _; decide)⟩
end Go.Proofs.YtdhgbkibbileiaaGreat
