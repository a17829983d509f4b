/-
RB
-/
import Derived.Test.YtdhgbkibbileiaaGreatRA
set_option maxRecDepth 100000
namespace Go.Proofs.YtdhgbkibbileiaaGreat
open Go.RowKit
def Done (w : World) (S : Nat → Prop) (g : Nat) (l k : List Nat) (e : Ending) (w' : World) : Prop := e = .returned (.tuple #[]) ∧ Wrote w S (some g) true l k w'
theorem flat_pre {α : Type} (f : α → List Nat) (l : List α) (q : Nat) : ((l.take q).flatMap f).length ≤ (l.flatMap f).length := by
 have h : (l.take q).flatMap f ++ (l.drop q).flatMap f = l.flatMap f := by rw [← List.flatMap_append, List.take_append_drop]
 have := congrArg List.length h
 rw [List.length_append] at this
 omega
theorem wrap_n {n : Nat} (h : n < 18446744073709551616) : IntKind.u64.wrap (n : Int) = (n : Int) := by rw [IntKind.wrap_u64]; omega
set_option maxHeartbeats 2000000 in
theorem writeCell_any (w : World) (S T : Nat → Prop) (g : Nat) (l : List Nat) (x : CV) (hx : x.In w T) (hT : ∀ b, T b → ¬ S b) (hm : x.m ≤ 20001) (hl : l.length ≤ 1099511600000) (hw : Wr w S (some g) true l) :
  Calls Tryz.prog 116 #[ptr (some g), x.agg] w (Done w S g l (encC x.e)) := by
 have hlen := hx.len
 have hk := hx.k
 have HR := Lib.hid (hx.b.mono (T := fun b => T b ∧ b < w.heap.size) fun b hlt hb => ⟨hb, hlt⟩)
 have HX := Lib.hid hx
 obtain ⟨u, kk, xA, m, xc, d⟩ := x
 simp only [CV.agg, CV.e] at HR hlen hk hm ⊢
 obtain ⟨w0, hw0⟩ : ∃ w0, w.alloc (.cells #[.bool u, .int .u32 (kk : Int), .slice xA m xc] 55) = w0 := ⟨_, rfl⟩
 have HB0 : Hid (Blk w0 w.heap.size 55 #[.bool u, .int .u32 (kk : Int), .slice xA m xc]) := Lib.hid (by rw [← hw0]; exact Blk.new w 55 _)
 have HW0 : Hid (WG w S (fun b => (fun b => T b ∧ b < w.heap.size) b ∨ b = w.heap.size) g w0 l) := Lib.hid (by rw [← hw0]; exact (WG.start (K := fun b => T b ∧ b < w.heap.size) hw (fun b hb => ⟨hb.2, fun hs => hT b hb.1 hs⟩)).alloc _)
 have y0 := HB0.out.cell 0
 have y1 := HB0.out.cell 1
 have y2 := HB0.out.cell 2
 simp only [List.getElem?_toArray, List.getElem?_cons_zero, List.getElem?_cons_succ] at y0 y1 y2
 have hwm : IntKind.u64.wrap (m : Int) = (m : Int) := wrap_n (by omega)
 have hwk : IntKind.u64.wrap (kk : Int) = (kk : Int) := wrap_n (by omega)
 have h10 := vi_len m (by omega)
 have h11 := vi_len kk (by omega)
 have HR0 : Hid (RB w0 (fun b => T b ∧ b < w.heap.size) xA m d) := Lib.hid (by rw [← hw0]; exact HR.out.alloc _)
 clear hx hT hw
 cases u with
 | true =>
   have HE : Hid (encC ⟨true, kk, d⟩ = Cd.vi m ++ (Cd.vi kk ++ d)) := Lib.hid (by unfold encC; rw [hlen]; rfl)
   go_enter Tryz.func116, Tryz.ntmps116
   obtain ⟨S1, hwr1, hk1, hst1⟩ := HW0.out.call
   have HC1 := Lib.hid (wuint_any w0 S1 (some g) true l m (by omega) (by omega) hwr1)
   have HS1 := Lib.hid hst1
   clear hwr1 hst1 hk1
   go_wp2_with fail
   with_reducible refine HC1.out.mono ?_
   rintro e w1 ⟨rfl, hwd1⟩
   obtain ⟨hg1, hf1⟩ := HS1.out _ _ hwd1
   have HW1 := Lib.hid hg1
   have HB1 := Lib.hid (HB0.out.keep hf1 fun hn => hn (Or.inr rfl))
   have y0 := HB1.out.cell 0
   have y1 := HB1.out.cell 1
   have y2 := HB1.out.cell 2
   simp only [List.getElem?_toArray, List.getElem?_cons_zero, List.getElem?_cons_succ] at y0 y1 y2
   have HR1 := Lib.hid (HR0.out.keep hf1 fun b hb hn => hn (Or.inl hb))
   clear hwd1 hg1 hf1
   obtain ⟨S2, hwr2, hk2, hst2⟩ := HW1.out.call
   have HC2 := Lib.hid (wuint_any w1 S2 (some g) true (l ++ Cd.vi m) kk (by omega) (by rw [List.length_append]; omega) hwr2)
   have HS2 := Lib.hid hst2
   clear hwr2 hst2 hk2
   go_wp2_with fail
   with_reducible refine HC2.out.mono ?_
   rintro e w2 ⟨rfl, hwd2⟩
   obtain ⟨hg2, hf2⟩ := HS2.out _ _ hwd2
   have HW2 := Lib.hid hg2
   have HB2 := Lib.hid (HB1.out.keep hf2 fun hn => hn (Or.inr rfl))
   have y0 := HB2.out.cell 0
   have y1 := HB2.out.cell 1
   have y2 := HB2.out.cell 2
   simp only [List.getElem?_toArray, List.getElem?_cons_zero, List.getElem?_cons_succ] at y0 y1 y2
   have HR2 := Lib.hid (HR1.out.keep hf2 fun b hb hn => hn (Or.inl hb))
   clear hwd2 hg2 hf2
   obtain ⟨S3, hwr3, hk3, hst3⟩ := HW2.out.call
   have HC3 := Lib.hid (wraw_any w2 S3 _ (some g) true (l ++ Cd.vi m ++ Cd.vi kk) xA m xc d HR2.out (by omega) (by rw [List.length_append, List.length_append]; omega) hwr3)
   have HS3 := Lib.hid hst3
   clear hwr3 hst3 hk3
   go_wp2_with fail
   with_reducible refine HC3.out.mono ?_
   rintro e w3 ⟨rfl, hwd3⟩
   obtain ⟨hg3, hf3⟩ := HS3.out _ _ hwd3
   have HW3 := Lib.hid hg3
   clear hwd3 hg3 hf3
   go_wp2_with fail
   go_end0
   refine ⟨rfl, ?_⟩
   have h9 := HW3.out
   rw [List.append_assoc, List.append_assoc, ← HE.out] at h9
   exact h9.wrote
 | false =>
   have HE : Hid (encC ⟨false, kk, d⟩ = Cd.vi m) := Lib.hid (by unfold encC; rw [hlen]; simp)
   go_enter Tryz.func116, Tryz.ntmps116
   obtain ⟨S1, hwr1, hk1, hst1⟩ := HW0.out.call
   have HC1 := Lib.hid (wuint_any w0 S1 (some g) true l m (by omega) (by omega) hwr1)
   have HS1 := Lib.hid hst1
   clear hwr1 hst1 hk1
   go_wp2_with fail
   with_reducible refine HC1.out.mono ?_
   rintro e w1 ⟨rfl, hwd1⟩
   obtain ⟨hg1, hf1⟩ := HS1.out _ _ hwd1
   have HW1 := Lib.hid hg1
   have HB1 := Lib.hid (HB0.out.keep hf1 fun hn => hn (Or.inr rfl))
   have y0 := HB1.out.cell 0
   have y1 := HB1.out.cell 1
   have y2 := HB1.out.cell 2
   simp only [List.getElem?_toArray, List.getElem?_cons_zero, List.getElem?_cons_succ] at y0 y1 y2
   clear hwd1 hg1 hf1
   go_wp2_with fail
   go_end0
   refine ⟨rfl, ?_⟩
   have h9 := HW1.out
   rw [← HE.out] at h9
   exact h9.wrote
set_option maxHeartbeats 2000000 in
theorem writeListCV_any (w : World) (S T : Nat → Prop) (g : Nat) (l : List Nat) (A : Option Addr) (n c : Nat) (vs : List CV) (hv : CR w T T A n vs) (hT : ∀ b, T b → ¬ S b) (hn : n ≤ 20001) (hc : ∀ x ∈ vs, x.m ≤ 20001) (htot : (vs.flatMap (fun x => encC x.e)).length ≤ 190000000) (hl : l.length ≤ 1099300000000) (hw : Wr w S (some g) true l) :
  Calls Tryz.prog 115 #[ptr (some g), .slice A n c, .func (.func 116) #[] #[]] w (Done w S g l (encL (fun x => encC x.e) vs)) := by
 have hlen : vs.length = n := hv.1
 have HV := Lib.hid hv
 have HLE := Lib.hid hlen
 have hwn : IntKind.u64.wrap (n : Int) = (n : Int) := wrap_n (by omega)
 have h10 := vi_len n (by omega)
 have HIN := Lib.hid (fun x (hx : x ∈ vs) => hv.2.1 x hx)
 have HC := Lib.hid hc
 have HT := Lib.hid hT
 have HW0 : Hid (WG w S (fun b => T b ∧ b < w.heap.size) g w l) := Lib.hid (WG.start hw fun b hb => ⟨hb.2, hT b hb.1⟩)
 have HFM := Lib.hid (fun q => Nat.le_trans (flat_pre (fun x => encC x.e) vs q) htot)
 have HLB := Lib.hid hl
 clear hv hc hw hT hlen htot
 go_enter Tryz.func115, Tryz.ntmps115
 obtain ⟨S1, hwr1, hk1, hst1⟩ := HW0.out.call
 have HC1 := Lib.hid (wuint_any w S1 (some g) true l n (by omega) (by omega) hwr1)
 have HS1 := Lib.hid hst1
 clear hwr1 hst1 hk1
 go_wp2_with fail
 with_reducible refine HC1.out.mono ?_
 rintro e w1 ⟨rfl, hwd1⟩
 have HW1 := Lib.hid (HS1.out _ _ hwd1).1
 clear hwd1 hl
 go_wp2_with fail
 go_loopw [15] (fun i wr => ∃ q : Nat, q ≤ n ∧ i = .int .i64 (q : Int) ∧ WG w S (fun b => T b ∧ b < w.heap.size) g wr (l ++ (Cd.vi n ++ (vs.take q).flatMap (fun x => encC x.e)))) (fun i _ => n - (intOf i).toNat)
 case atStart => exact ⟨0, by omega, rfl, by simpa using HW1.out⟩
 case round =>
  obtain ⟨q, hq, rfl, hwg⟩ := hrel
  have HWG := Lib.hid hwg
  by_cases hlt : q < n
  ·have hfr := hwg.2.2
   have hT := HT.out
   obtain ⟨gx, o, x, hA, hgx, _, hx, _, b0, b1, b2⟩ := (HV.out.keep hfr hT hT).at_ hlt
   have hmem := List.mem_of_getElem? hx
   have hxw := (HIN.out x hmem).mono (T := T) (T' := fun b => T b ∧ b < w.heap.size) fun b hlt hb => ⟨hb, hlt⟩
   have hxc := HC.out x hmem
   have HXR := Lib.hid (hxw.keep (hfr) fun b hb => hT b hb.1)
   have HXC := Lib.hid hxc
   have HFT := Lib.hid (flat_take (fun x => encC x.e) hx)
   subst hA
   obtain ⟨u, kk, xA, m, xc, d⟩ := x
   simp only at b0 b1 b2 HXC
   have hWi : IntKind.i64.wrap ((q : Int) + 1) = ((q + 1 : Nat) : Int) := by rw [IntWalk.i64_in _ (by omega)]; omega
   have hin : ((q : Int) < (n : Int)) := by omega
   have hwq : IntKind.i64.wrap (q : Int) = (q : Int) := IntWalk.i64_in _ (by omega)
   obtain ⟨wa, hwa⟩ : ∃ wa, wr.alloc (.cells #[.bool u, .int .u32 (kk : Int), .slice xA m xc] 55) = wa := ⟨_, rfl⟩
   have hbk : Blk wa wr.heap.size 55 #[.bool u, .int .u32 (kk : Int), .slice xA m xc] := by rw [← hwa]; exact Blk.new wr 55 _
   have hwga := hwg.alloc (.cells #[.bool u, .int .u32 (kk : Int), .slice xA m xc] 55)
   rw [hwa] at hwga
   obtain ⟨S2, hwr2, hk2, hst2⟩ := hwga.call
   have hxa : CV.In wa (fun b => T b ∧ b < w.heap.size) ⟨u, kk, xA, m, xc, d⟩ := by rw [← hwa]; exact HXR.out.keep ((Fr.refl wr No).alloc _) fun _ _ hn => hn
   have hfm := HFM.out q
   have HCE := Lib.hid (writeCell_any wa S2 _ g (l ++ (Cd.vi n ++ (vs.take q).flatMap (fun x => encC x.e))) ⟨u, kk, xA, m, xc, d⟩ hxa (fun b hb hs => (hk2 b (Or.inl hb)).2 hs) HXC.out (by have := HLB.out; rw [List.length_append, List.length_append]; omega) hwr2)
   simp only [CV.agg] at HCE
   have HST := Lib.hid hst2
   have y0 := hbk.cell 0
   have y1 := hbk.cell 1
   have y2 := hbk.cell 2
   simp only [List.getElem?_toArray, List.getElem?_cons_zero, List.getElem?_cons_succ] at y0 y1 y2
   clear hwg hfr hgx hx hmem hxw hxc hbk hwga hwr2 hk2 hst2 hxa hfm
   go_wp2_with fail
   with_reducible refine HCE.out.mono ?_
   rintro e w2 ⟨rfl, hwd2⟩
   have HW2 := Lib.hid (HST.out _ _ hwd2).1
   clear hwd2
   go_wp2_with fail
   go_roundw
   case rel =>
    refine ⟨q + 1, by omega, by go_num, ?_⟩
    have h9 := HW2.out.less (K' := fun b => T b ∧ b < w.heap.size) fun b hb => Or.inl hb
    rw [HFT.out]
    simpa [List.append_assoc] using h9
   case measure => simp [intOf]; omega
  ·have h1d : decide ((q : Int) < (n : Int)) = false := decide_eq_false (by omega)
   have h1d2 : decide (q < n) = false := decide_eq_false hlt
   have HQ := Lib.hid (show q = n by omega)
   clear hwg
   go_wp2_with fail
   go_end0
   refine ⟨rfl, ?_⟩
   have h9 := HWG.out
   rw [HQ.out, ← HLE.out, List.take_length] at h9
   exact h9.wrote
theorem encL_map (l : List CV) : encL encC (l.map CV.e) = encL (fun x => encC x.e) l := by
 unfold encL
 rw [List.length_map, List.flatMap_map]
def Short (p : PV) : Prop := p.n ≤ 20001 ∧ (∀ y ∈ p.l, y.m ≤ 20001) ∧ (p.l.flatMap (fun y => encC y.e)).length ≤ 190000000
set_option maxHeartbeats 2000000 in
theorem writeImage_any (w : World) (S T : Nat → Prop) (g : Nat) (l : List Nat) (x : IV) (hx : x.In w T) (hT : ∀ b, T b → ¬ S b) (hc : Short x.p) (hl : l.length ≤ 1099299000000) (hw : Wr w S (some g) true l) :
  Calls Tryz.prog 82 #[ptr (some g), x.agg] w (Done w S g l (encI x)) := by
 have ht := hx.t
 have hs := hx.p.s
 have hxx := hx.p.x
 have HR := Lib.hid (hx.p.r.mono (S' := fun b => T b ∧ b < w.heap.size) (T' := fun b => T b ∧ b < w.heap.size) (fun b hlt hb => ⟨hb, hlt⟩) fun b hlt hb => ⟨hb, hlt⟩)
 have HSH := Lib.hid hc
 have hpn : x.p.n ≤ 20001 := hc.1
 obtain ⟨t, pk, ps, px, pA, pn, pc, pl⟩ := x
 simp only [IV.agg] at ht hs hxx HR HSH hpn ⊢
 obtain ⟨w0, hw0⟩ : ∃ w0, w.alloc (.cells #[.int .u32 (t : Int), .int .i64 pk, .int .u64 (ps : Int), .int .u32 (px : Int), .slice pA pn pc] 53) = w0 := ⟨_, rfl⟩
 have HB0 : Hid (Blk w0 w.heap.size 53 #[.int .u32 (t : Int), .int .i64 pk, .int .u64 (ps : Int), .int .u32 (px : Int), .slice pA pn pc]) := Lib.hid (by rw [← hw0]; exact Blk.new w 53 _)
 have HW0 : Hid (WG w S (fun b => (fun b => T b ∧ b < w.heap.size) b ∨ b = w.heap.size) g w0 l) := Lib.hid (by rw [← hw0]; exact (WG.start (K := fun b => T b ∧ b < w.heap.size) hw (fun b hb => ⟨hb.2, fun hs => hT b hb.1 hs⟩)).alloc _)
 have y0 := HB0.out.cell 0
 have y1 := HB0.out.cell 1
 have y2 := HB0.out.cell 2
 have y3 := HB0.out.cell 3
 have y4 := HB0.out.cell 4
 simp only [List.getElem?_toArray, List.getElem?_cons_zero, List.getElem?_cons_succ] at y0 y1 y2 y3 y4
 have hwt : IntKind.u64.wrap (t : Int) = (t : Int) := wrap_n (by omega)
 have hwx : IntKind.u64.wrap (px : Int) = (px : Int) := wrap_n (by omega)
 have hwk := wrap_kb pk
 obtain ⟨kk, hkk⟩ : ∃ kk, kk = kb pk := ⟨_, rfl⟩
 rw [← hkk] at hwk
 have hkl : kk < 256 := by rw [hkk]; exact kb_lt _
 have h10 := vi_len t (by omega)
 have h11 := vi_len px (by omega)
 have h12 := Cd.fixB_len 1 kk
 have HR0 : Hid (CR w0 (fun b => T b ∧ b < w.heap.size) (fun b => T b ∧ b < w.heap.size) pA pn pl) := Lib.hid (by rw [← hw0]; exact HR.out.below ((Below.refl _ _).alloc (Nat.le_refl _) _))
 have HE : Hid (encI ⟨t, ⟨pk, ps, px, pA, pn, pc, pl⟩⟩ = Cd.vi t ++ (Cd.fixB 1 kk ++ (Cd.vi px ++ encL (fun x => encC x.e) pl))) := Lib.hid (by unfold encI encP PV.es; rw [hkk, encL_map])
 clear hx hT hw hc hkk
 go_enter Tryz.func82, Tryz.ntmps82
 obtain ⟨S1, hwr1, hk1, hst1⟩ := HW0.out.call
 have HC1 := Lib.hid (wuint_any w0 S1 (some g) true l t (by omega) (by omega) hwr1)
 have HS1 := Lib.hid hst1
 clear hwr1 hst1 hk1
 go_wp2_with fail
 with_reducible refine HC1.out.mono ?_
 rintro e w1 ⟨rfl, hwd1⟩
 obtain ⟨hg1, hf1⟩ := HS1.out _ _ hwd1
 have HW1 := Lib.hid hg1
 have HB1 := Lib.hid (HB0.out.keep hf1 fun hn => hn (Or.inr rfl))
 have y0 := HB1.out.cell 0
 have y1 := HB1.out.cell 1
 have y2 := HB1.out.cell 2
 have y3 := HB1.out.cell 3
 have y4 := HB1.out.cell 4
 simp only [List.getElem?_toArray, List.getElem?_cons_zero, List.getElem?_cons_succ] at y0 y1 y2 y3 y4
 have HR1 := Lib.hid (HR0.out.keep hf1 (fun b hb hn => hn (Or.inl hb)) fun b hb hn => hn (Or.inl hb))
 clear hwd1 hg1 hf1
 obtain ⟨S2, hwr2, hk2, hst2⟩ := HW1.out.call
 have HC2 := Lib.hid (wu8_any w1 S2 (some g) true (l ++ Cd.vi t) kk hkl (by rw [List.length_append]; omega) hwr2)
 have HS2 := Lib.hid hst2
 clear hwr2 hst2 hk2
 go_wp2_with fail
 with_reducible refine HC2.out.mono ?_
 rintro e w2 ⟨rfl, hwd2⟩
 obtain ⟨hg2, hf2⟩ := HS2.out _ _ hwd2
 have HW2 := Lib.hid hg2
 have HB2 := Lib.hid (HB1.out.keep hf2 fun hn => hn (Or.inr rfl))
 have y0 := HB2.out.cell 0
 have y1 := HB2.out.cell 1
 have y2 := HB2.out.cell 2
 have y3 := HB2.out.cell 3
 have y4 := HB2.out.cell 4
 simp only [List.getElem?_toArray, List.getElem?_cons_zero, List.getElem?_cons_succ] at y0 y1 y2 y3 y4
 have HR2 := Lib.hid (HR1.out.keep hf2 (fun b hb hn => hn (Or.inl hb)) fun b hb hn => hn (Or.inl hb))
 clear hwd2 hg2 hf2
 obtain ⟨S3, hwr3, hk3, hst3⟩ := HW2.out.call
 have HC3 := Lib.hid (wuint_any w2 S3 (some g) true (l ++ Cd.vi t ++ Cd.fixB 1 kk) px (by omega) (by rw [List.length_append, List.length_append]; omega) hwr3)
 have HS3 := Lib.hid hst3
 clear hwr3 hst3 hk3
 go_wp2_with fail
 with_reducible refine HC3.out.mono ?_
 rintro e w3 ⟨rfl, hwd3⟩
 obtain ⟨hg3, hf3⟩ := HS3.out _ _ hwd3
 have HW3 := Lib.hid hg3
 have HB3 := Lib.hid (HB2.out.keep hf3 fun hn => hn (Or.inr rfl))
 have y0 := HB3.out.cell 0
 have y1 := HB3.out.cell 1
 have y2 := HB3.out.cell 2
 have y3 := HB3.out.cell 3
 have y4 := HB3.out.cell 4
 simp only [List.getElem?_toArray, List.getElem?_cons_zero, List.getElem?_cons_succ] at y0 y1 y2 y3 y4
 have HR3 := Lib.hid (HR2.out.keep hf3 (fun b hb hn => hn (Or.inl hb)) fun b hb hn => hn (Or.inl hb))
 clear hwd3 hg3 hf3
 obtain ⟨S4, hwr4, hk4, hst4⟩ := HW3.out.call
 have HC4 := Lib.hid (writeListCV_any w3 S4 (fun b => T b ∧ b < w.heap.size) g (l ++ Cd.vi t ++ Cd.fixB 1 kk ++ Cd.vi px) pA pn pc pl HR3.out (fun b hb => (hk4 b (Or.inl hb)).2) hpn HSH.out.2.1 HSH.out.2.2 (by rw [List.length_append, List.length_append, List.length_append]; omega) hwr4)
 have HS4 := Lib.hid hst4
 clear hwr4 hst4 hk4
 go_wp2_with fail
 with_reducible refine HC4.out.mono ?_
 rintro e w4 ⟨rfl, hwd4⟩
 obtain ⟨hg4, hf4⟩ := HS4.out _ _ hwd4
 have HW4 := Lib.hid hg4
 clear hwd4 hg4 hf4
 go_wp2_with fail
 go_end0
 refine ⟨rfl, ?_⟩
 have h9 := HW4.out
 rw [List.append_assoc, List.append_assoc, List.append_assoc, ← HE.out] at h9
 exact h9.wrote
set_option maxHeartbeats 2000000 in
theorem writeListIV_any (w : World) (S T : Nat → Prop) (g : Nat) (l : List Nat) (A : Option Addr) (n c : Nat) (vs : List IV) (hv : IVR w T A n vs) (hT : ∀ b, T b → ¬ S b) (hn : n ≤ 20001) (hc : ∀ x ∈ vs, Short x.p) (htot : (vs.flatMap encI).length ≤ 190000000) (hl : l.length ≤ 1099000000000) (hw : Wr w S (some g) true l) :
  Calls Tryz.prog 112 #[ptr (some g), .slice A n c, .func (.func 82) #[] #[]] w (Done w S g l (encL encI vs)) := by
 have hlen : vs.length = n := hv.1
 have HV := Lib.hid hv
 have HLE := Lib.hid hlen
 have hwn : IntKind.u64.wrap (n : Int) = (n : Int) := wrap_n (by omega)
 have h10 := vi_len n (by omega)
 have HIN := Lib.hid (fun x (hx : x ∈ vs) => hv.2.1 x hx)
 have HC := Lib.hid hc
 have HT := Lib.hid hT
 have HW0 : Hid (WG w S (fun b => T b ∧ b < w.heap.size) g w l) := Lib.hid (WG.start hw fun b hb => ⟨hb.2, hT b hb.1⟩)
 have HFM := Lib.hid (fun q => Nat.le_trans (flat_pre encI vs q) htot)
 have HLB := Lib.hid hl
 clear hv hc hw hT hlen htot
 go_enter Tryz.func112, Tryz.ntmps112
 obtain ⟨S1, hwr1, hk1, hst1⟩ := HW0.out.call
 have HC1 := Lib.hid (wuint_any w S1 (some g) true l n (by omega) (by omega) hwr1)
 have HS1 := Lib.hid hst1
 clear hwr1 hst1 hk1
 go_wp2_with fail
 with_reducible refine HC1.out.mono ?_
 rintro e w1 ⟨rfl, hwd1⟩
 have HW1 := Lib.hid (HS1.out _ _ hwd1).1
 clear hwd1 hl
 go_wp2_with fail
 go_loopw [15] (fun i wr => ∃ q : Nat, q ≤ n ∧ i = .int .i64 (q : Int) ∧ WG w S (fun b => T b ∧ b < w.heap.size) g wr (l ++ (Cd.vi n ++ (vs.take q).flatMap encI))) (fun i _ => n - (intOf i).toNat)
 case atStart => exact ⟨0, by omega, rfl, by simpa using HW1.out⟩
 case round =>
  obtain ⟨q, hq, rfl, hwg⟩ := hrel
  have HWG := Lib.hid hwg
  by_cases hlt : q < n
  ·have hfr := hwg.2.2
   have hT := HT.out
   obtain ⟨gx, o, x, hA, hgx, _, hx, _, b0, b1, b2, b3, b4⟩ := (HV.out.keep hfr hT).at_ hlt
   have hmem := List.mem_of_getElem? hx
   have hxw := (HIN.out x hmem).mono fun b hlt hb => (⟨hb, hlt⟩ : T b ∧ b < w.heap.size)
   have hxc := HC.out x hmem
   have HXR := Lib.hid (hxw.keep (hfr) fun b hb => hT b hb.1)
   have HXC := Lib.hid hxc
   have HFT := Lib.hid (flat_take encI hx)
   subst hA
   obtain ⟨t, ⟨pk, ps, px, pA, pn, pc, pl⟩⟩ := x
   simp only at b0 b1 b2 b3 b4 HXC
   have hWi : IntKind.i64.wrap ((q : Int) + 1) = ((q + 1 : Nat) : Int) := by rw [IntWalk.i64_in _ (by omega)]; omega
   have hin : ((q : Int) < (n : Int)) := by omega
   have hwq : IntKind.i64.wrap (q : Int) = (q : Int) := IntWalk.i64_in _ (by omega)
   obtain ⟨wa, hwa⟩ : ∃ wa, wr.alloc (.cells #[.int .u32 (t : Int), .int .i64 pk, .int .u64 (ps : Int), .int .u32 (px : Int), .slice pA pn pc] 53) = wa := ⟨_, rfl⟩
   have hbk : Blk wa wr.heap.size 53 #[.int .u32 (t : Int), .int .i64 pk, .int .u64 (ps : Int), .int .u32 (px : Int), .slice pA pn pc] := by rw [← hwa]; exact Blk.new wr 53 _
   have hwga := hwg.alloc (.cells #[.int .u32 (t : Int), .int .i64 pk, .int .u64 (ps : Int), .int .u32 (px : Int), .slice pA pn pc] 53)
   rw [hwa] at hwga
   obtain ⟨S2, hwr2, hk2, hst2⟩ := hwga.call
   have hxa : IV.In wa (fun b => T b ∧ b < w.heap.size) ⟨t, ⟨pk, ps, px, pA, pn, pc, pl⟩⟩ := by rw [← hwa]; exact HXR.out.keep ((Fr.refl wr No).alloc _) fun _ _ hn => hn
   have hfm := HFM.out q
   have HCE := Lib.hid (writeImage_any wa S2 _ g (l ++ (Cd.vi n ++ (vs.take q).flatMap encI)) ⟨t, ⟨pk, ps, px, pA, pn, pc, pl⟩⟩ hxa (fun b hb hs => (hk2 b (Or.inl hb)).2 hs) HXC.out (by have := HLB.out; rw [List.length_append, List.length_append]; omega) hwr2)
   simp only [IV.agg] at HCE
   have HST := Lib.hid hst2
   have y0 := hbk.cell 0
   have y1 := hbk.cell 1
   have y2 := hbk.cell 2
   have y3 := hbk.cell 3
   have y4 := hbk.cell 4
   simp only [List.getElem?_toArray, List.getElem?_cons_zero, List.getElem?_cons_succ] at y0 y1 y2 y3 y4
   clear hwg hfr hgx hx hmem hxw hxc hbk hwga hwr2 hk2 hst2 hxa hfm
   go_wp2_with fail
   with_reducible refine HCE.out.mono ?_
   rintro e w2 ⟨rfl, hwd2⟩
   have HW2 := Lib.hid (HST.out _ _ hwd2).1
   clear hwd2
   go_wp2_with fail
   go_roundw
   case rel =>
    refine ⟨q + 1, by omega, by go_num, ?_⟩
    have h9 := HW2.out.less (K' := fun b => T b ∧ b < w.heap.size) fun b hb => Or.inl hb
    rw [HFT.out]
    simpa [List.append_assoc] using h9
   case measure => simp [intOf]; omega
  ·have h1d : decide ((q : Int) < (n : Int)) = false := decide_eq_false (by omega)
   have h1d2 : decide (q < n) = false := decide_eq_false hlt
   have HQ := Lib.hid (show q = n by omega)
   clear hwg
   go_wp2_with fail
   go_end0
   refine ⟨rfl, ?_⟩
   have h9 := HWG.out
   rw [HQ.out, ← HLE.out, List.take_length] at h9
   exact h9.wrote
set_option maxHeartbeats 2000000 in
theorem writeLive_any (w : World) (S T : Nat → Prop) (g : Nat) (l : List Nat) (x : LV) (hx : x.In w T) (hT : ∀ b, T b → ¬ S b) (hl : l.length ≤ 1099511600000) (hw : Wr w S (some g) true l) :
  Calls Tryz.prog 86 #[ptr (some g), x.agg] w (Done w S g l (encV x)) := by
 have ht := hx.t
 have ha := hx.a
 have hb := hx.b
 obtain ⟨t, a, b, z⟩ := x
 simp only [LV.agg] at ht ha hb ⊢
 have hwt : IntKind.u64.wrap (t : Int) = (t : Int) := wrap_n (by omega)
 have h10 := vi_len t (by omega)
 have h11 := vi_len a (by omega)
 have h12 := vi_len b (by omega)
 clear hx
 cases z with
 | true =>
   obtain ⟨w0, hw0⟩ : ∃ w0, w.alloc (.cells #[.int .u32 (t : Int), .int .u64 (a : Int), .int .u64 (b : Int), .bool true] 62) = w0 := ⟨_, rfl⟩
   have HB0 : Hid (Blk w0 w.heap.size 62 #[.int .u32 (t : Int), .int .u64 (a : Int), .int .u64 (b : Int), .bool true]) := Lib.hid (by rw [← hw0]; exact Blk.new w 62 _)
   have HW0 : Hid (WG w S (fun b => (fun b => T b ∧ b < w.heap.size) b ∨ b = w.heap.size) g w0 l) := Lib.hid (by rw [← hw0]; exact (WG.start (K := fun b => T b ∧ b < w.heap.size) hw (fun b hb => ⟨hb.2, fun hs => hT b hb.1 hs⟩)).alloc _)
   have y0 := HB0.out.cell 0
   have y1 := HB0.out.cell 1
   have y2 := HB0.out.cell 2
   have y3 := HB0.out.cell 3
   simp only [List.getElem?_toArray, List.getElem?_cons_zero, List.getElem?_cons_succ] at y0 y1 y2 y3
   have HE : Hid (encV ⟨t, a, b, true⟩ = Cd.vi t ++ (Cd.vi a ++ (Cd.vi b ++ Cd.fixB 1 1))) := Lib.hid (by unfold encV; rfl)
   clear hT hw
   go_enter Tryz.func86, Tryz.ntmps86
   obtain ⟨S1, hwr1, hk1, hst1⟩ := HW0.out.call
   have HC1 := Lib.hid (wuint_any w0 S1 (some g) true l t (by omega) (by omega) hwr1)
   have HS1 := Lib.hid hst1
   clear hwr1 hst1 hk1
   go_wp2_with fail
   with_reducible refine HC1.out.mono ?_
   rintro e w1 ⟨rfl, hwd1⟩
   obtain ⟨hg1, hf1⟩ := HS1.out _ _ hwd1
   have HW1 := Lib.hid hg1
   have HB1 := Lib.hid (HB0.out.keep hf1 fun hn => hn (Or.inr rfl))
   have y0 := HB1.out.cell 0
   have y1 := HB1.out.cell 1
   have y2 := HB1.out.cell 2
   have y3 := HB1.out.cell 3
   simp only [List.getElem?_toArray, List.getElem?_cons_zero, List.getElem?_cons_succ] at y0 y1 y2 y3
   clear hwd1 hg1 hf1
   obtain ⟨S2, hwr2, hk2, hst2⟩ := HW1.out.call
   have HC2 := Lib.hid (wuint_any w1 S2 (some g) true (l ++ Cd.vi t) a (by omega) (by rw [List.length_append]; omega) hwr2)
   have HS2 := Lib.hid hst2
   clear hwr2 hst2 hk2
   go_wp2_with fail
   with_reducible refine HC2.out.mono ?_
   rintro e w2 ⟨rfl, hwd2⟩
   obtain ⟨hg2, hf2⟩ := HS2.out _ _ hwd2
   have HW2 := Lib.hid hg2
   have HB2 := Lib.hid (HB1.out.keep hf2 fun hn => hn (Or.inr rfl))
   have y0 := HB2.out.cell 0
   have y1 := HB2.out.cell 1
   have y2 := HB2.out.cell 2
   have y3 := HB2.out.cell 3
   simp only [List.getElem?_toArray, List.getElem?_cons_zero, List.getElem?_cons_succ] at y0 y1 y2 y3
   clear hwd2 hg2 hf2
   obtain ⟨S3, hwr3, hk3, hst3⟩ := HW2.out.call
   have HC3 := Lib.hid (wuint_any w2 S3 (some g) true (l ++ Cd.vi t ++ Cd.vi a) b (by omega) (by rw [List.length_append, List.length_append]; omega) hwr3)
   have HS3 := Lib.hid hst3
   clear hwr3 hst3 hk3
   go_wp2_with fail
   with_reducible refine HC3.out.mono ?_
   rintro e w3 ⟨rfl, hwd3⟩
   obtain ⟨hg3, hf3⟩ := HS3.out _ _ hwd3
   have HW3 := Lib.hid hg3
   have HB3 := Lib.hid (HB2.out.keep hf3 fun hn => hn (Or.inr rfl))
   have y0 := HB3.out.cell 0
   have y1 := HB3.out.cell 1
   have y2 := HB3.out.cell 2
   have y3 := HB3.out.cell 3
   simp only [List.getElem?_toArray, List.getElem?_cons_zero, List.getElem?_cons_succ] at y0 y1 y2 y3
   clear hwd3 hg3 hf3
   obtain ⟨S4, hwr4, hk4, hst4⟩ := HW3.out.call
   have HC4 := Lib.hid ((show Calls Tryz.prog 40 #[ptr (some g), .int .u8 1] w3 _ from wu8_any w3 S4 (some g) true (l ++ Cd.vi t ++ Cd.vi a ++ Cd.vi b) 1 (by omega) (by rw [List.length_append, List.length_append, List.length_append]; omega) hwr4))
   have HS4 := Lib.hid hst4
   clear hwr4 hst4 hk4
   go_wp2_with fail
   with_reducible refine HC4.out.mono ?_
   rintro e w4 ⟨rfl, hwd4⟩
   obtain ⟨hg4, hf4⟩ := HS4.out _ _ hwd4
   have HW4 := Lib.hid hg4
   clear hwd4 hg4 hf4
   go_wp2_with fail
   go_end0
   refine ⟨rfl, ?_⟩
   have h9 := HW4.out
   rw [List.append_assoc, List.append_assoc, List.append_assoc, ← HE.out] at h9
   exact h9.wrote
 | false =>
   obtain ⟨w0, hw0⟩ : ∃ w0, w.alloc (.cells #[.int .u32 (t : Int), .int .u64 (a : Int), .int .u64 (b : Int), .bool false] 62) = w0 := ⟨_, rfl⟩
   have HB0 : Hid (Blk w0 w.heap.size 62 #[.int .u32 (t : Int), .int .u64 (a : Int), .int .u64 (b : Int), .bool false]) := Lib.hid (by rw [← hw0]; exact Blk.new w 62 _)
   have HW0 : Hid (WG w S (fun b => (fun b => T b ∧ b < w.heap.size) b ∨ b = w.heap.size) g w0 l) := Lib.hid (by rw [← hw0]; exact (WG.start (K := fun b => T b ∧ b < w.heap.size) hw (fun b hb => ⟨hb.2, fun hs => hT b hb.1 hs⟩)).alloc _)
   have y0 := HB0.out.cell 0
   have y1 := HB0.out.cell 1
   have y2 := HB0.out.cell 2
   have y3 := HB0.out.cell 3
   simp only [List.getElem?_toArray, List.getElem?_cons_zero, List.getElem?_cons_succ] at y0 y1 y2 y3
   have HE : Hid (encV ⟨t, a, b, false⟩ = Cd.vi t ++ (Cd.vi a ++ (Cd.vi b ++ Cd.fixB 1 0))) := Lib.hid (by unfold encV; rfl)
   clear hT hw
   go_enter Tryz.func86, Tryz.ntmps86
   obtain ⟨S1, hwr1, hk1, hst1⟩ := HW0.out.call
   have HC1 := Lib.hid (wuint_any w0 S1 (some g) true l t (by omega) (by omega) hwr1)
   have HS1 := Lib.hid hst1
   clear hwr1 hst1 hk1
   go_wp2_with fail
   with_reducible refine HC1.out.mono ?_
   rintro e w1 ⟨rfl, hwd1⟩
   obtain ⟨hg1, hf1⟩ := HS1.out _ _ hwd1
   have HW1 := Lib.hid hg1
   have HB1 := Lib.hid (HB0.out.keep hf1 fun hn => hn (Or.inr rfl))
   have y0 := HB1.out.cell 0
   have y1 := HB1.out.cell 1
   have y2 := HB1.out.cell 2
   have y3 := HB1.out.cell 3
   simp only [List.getElem?_toArray, List.getElem?_cons_zero, List.getElem?_cons_succ] at y0 y1 y2 y3
   clear hwd1 hg1 hf1
   obtain ⟨S2, hwr2, hk2, hst2⟩ := HW1.out.call
   have HC2 := Lib.hid (wuint_any w1 S2 (some g) true (l ++ Cd.vi t) a (by omega) (by rw [List.length_append]; omega) hwr2)
   have HS2 := Lib.hid hst2
   clear hwr2 hst2 hk2
   go_wp2_with fail
   with_reducible refine HC2.out.mono ?_
   rintro e w2 ⟨rfl, hwd2⟩
   obtain ⟨hg2, hf2⟩ := HS2.out _ _ hwd2
   have HW2 := Lib.hid hg2
   have HB2 := Lib.hid (HB1.out.keep hf2 fun hn => hn (Or.inr rfl))
   have y0 := HB2.out.cell 0
   have y1 := HB2.out.cell 1
   have y2 := HB2.out.cell 2
   have y3 := HB2.out.cell 3
   simp only [List.getElem?_toArray, List.getElem?_cons_zero, List.getElem?_cons_succ] at y0 y1 y2 y3
   clear hwd2 hg2 hf2
   obtain ⟨S3, hwr3, hk3, hst3⟩ := HW2.out.call
   have HC3 := Lib.hid (wuint_any w2 S3 (some g) true (l ++ Cd.vi t ++ Cd.vi a) b (by omega) (by rw [List.length_append, List.length_append]; omega) hwr3)
   have HS3 := Lib.hid hst3
   clear hwr3 hst3 hk3
   go_wp2_with fail
   with_reducible refine HC3.out.mono ?_
   rintro e w3 ⟨rfl, hwd3⟩
   obtain ⟨hg3, hf3⟩ := HS3.out _ _ hwd3
   have HW3 := Lib.hid hg3
   have HB3 := Lib.hid (HB2.out.keep hf3 fun hn => hn (Or.inr rfl))
   have y0 := HB3.out.cell 0
   have y1 := HB3.out.cell 1
   have y2 := HB3.out.cell 2
   have y3 := HB3.out.cell 3
   simp only [List.getElem?_toArray, List.getElem?_cons_zero, List.getElem?_cons_succ] at y0 y1 y2 y3
   clear hwd3 hg3 hf3
   obtain ⟨S4, hwr4, hk4, hst4⟩ := HW3.out.call
   have HC4 := Lib.hid ((show Calls Tryz.prog 40 #[ptr (some g), .int .u8 0] w3 _ from wu8_any w3 S4 (some g) true (l ++ Cd.vi t ++ Cd.vi a ++ Cd.vi b) 0 (by omega) (by rw [List.length_append, List.length_append, List.length_append]; omega) hwr4))
   have HS4 := Lib.hid hst4
   clear hwr4 hst4 hk4
   go_wp2_with fail
   with_reducible refine HC4.out.mono ?_
   rintro e w4 ⟨rfl, hwd4⟩
   obtain ⟨hg4, hf4⟩ := HS4.out _ _ hwd4
   have HW4 := Lib.hid hg4
   clear hwd4 hg4 hf4
   go_wp2_with fail
   go_end0
   refine ⟨rfl, ?_⟩
   have h9 := HW4.out
   rw [List.append_assoc, List.append_assoc, List.append_assoc, ← HE.out] at h9
   exact h9.wrote
theorem LV_enc_len (x : LV) {w : World} {T : Nat → Prop} (hx : x.In w T) (_ : True) : (encV x).length ≤ 31 := by
 have h1 := vi_len x.t (by have := hx.t; omega)
 have h2 := vi_len x.a hx.a
 have h3 := vi_len x.b hx.b
 unfold encV
 rw [List.length_append, List.length_append, List.length_append, Cd.fixB_len]
 omega
set_option maxHeartbeats 2000000 in
theorem writeListLV_any (w : World) (S T : Nat → Prop) (g : Nat) (l : List Nat) (A : Option Addr) (n c : Nat) (vs : List LV) (hv : LVR w T A n vs) (hT : ∀ b, T b → ¬ S b) (hn : n ≤ 20001) (hc : ∀ x ∈ vs, True) (hl : l.length + 10 + n * 31 ≤ 1099511600000) (hw : Wr w S (some g) true l) :
  Calls Tryz.prog 120 #[ptr (some g), .slice A n c, .func (.func 86) #[] #[]] w (Done w S g l (encL encV vs)) := by
 have hlen : vs.length = n := hv.1
 have HV := Lib.hid hv
 have HLE := Lib.hid hlen
 have hwn : IntKind.u64.wrap (n : Int) = (n : Int) := wrap_n (by omega)
 have h10 := vi_len n (by omega)
 have HIN := Lib.hid (fun x (hx : x ∈ vs) => hv.2.1 x hx)
 have HC := Lib.hid hc
 have HT := Lib.hid hT
 have HW0 : Hid (WG w S (fun b => T b ∧ b < w.heap.size) g w l) := Lib.hid (WG.start hw fun b hb => ⟨hb.2, hT b hb.1⟩)
 have HFM := Lib.hid (fun q (hq : q ≤ vs.length) => flat_mem encV (m := 31) (fun x hx => LV_enc_len x (hv.2.1 x hx) (hc x hx)) hq)
 have HLB := Lib.hid hl
 clear hv hc hw hT hlen
 go_enter Tryz.func120, Tryz.ntmps120
 obtain ⟨S1, hwr1, hk1, hst1⟩ := HW0.out.call
 have HC1 := Lib.hid (wuint_any w S1 (some g) true l n (by omega) (by omega) hwr1)
 have HS1 := Lib.hid hst1
 clear hwr1 hst1 hk1
 go_wp2_with fail
 with_reducible refine HC1.out.mono ?_
 rintro e w1 ⟨rfl, hwd1⟩
 have HW1 := Lib.hid (HS1.out _ _ hwd1).1
 clear hwd1 hl
 go_wp2_with fail
 go_loopw [15] (fun i wr => ∃ q : Nat, q ≤ n ∧ i = .int .i64 (q : Int) ∧ WG w S (fun b => T b ∧ b < w.heap.size) g wr (l ++ (Cd.vi n ++ (vs.take q).flatMap encV))) (fun i _ => n - (intOf i).toNat)
 case atStart => exact ⟨0, by omega, rfl, by simpa using HW1.out⟩
 case round =>
  obtain ⟨q, hq, rfl, hwg⟩ := hrel
  have HWG := Lib.hid hwg
  by_cases hlt : q < n
  ·have hfr := hwg.2.2
   have hT := HT.out
   obtain ⟨gx, o, x, hA, hgx, _, hx, _, b0, b1, b2, b3⟩ := (HV.out.keep hfr hT).at_ hlt
   have hmem := List.mem_of_getElem? hx
   have hxw := (HIN.out x hmem).mono fun b hlt hb => (⟨hb, hlt⟩ : T b ∧ b < w.heap.size)
   have hxc := HC.out x hmem
   have HXR := Lib.hid (hxw.keep (hfr) fun b hb => hT b hb.1)
   have HXC := Lib.hid hxc
   have HFT := Lib.hid (flat_take encV hx)
   subst hA
   obtain ⟨t, a, b, z⟩ := x
   simp only at b0 b1 b2 b3 HXC
   have hWi : IntKind.i64.wrap ((q : Int) + 1) = ((q + 1 : Nat) : Int) := by rw [IntWalk.i64_in _ (by omega)]; omega
   have hin : ((q : Int) < (n : Int)) := by omega
   have hwq : IntKind.i64.wrap (q : Int) = (q : Int) := IntWalk.i64_in _ (by omega)
   obtain ⟨wa, hwa⟩ : ∃ wa, wr.alloc (.cells #[.int .u32 (t : Int), .int .u64 (a : Int), .int .u64 (b : Int), .bool z] 62) = wa := ⟨_, rfl⟩
   have hbk : Blk wa wr.heap.size 62 #[.int .u32 (t : Int), .int .u64 (a : Int), .int .u64 (b : Int), .bool z] := by rw [← hwa]; exact Blk.new wr 62 _
   have hwga := hwg.alloc (.cells #[.int .u32 (t : Int), .int .u64 (a : Int), .int .u64 (b : Int), .bool z] 62)
   rw [hwa] at hwga
   obtain ⟨S2, hwr2, hk2, hst2⟩ := hwga.call
   have hxa : LV.In wa (fun b => T b ∧ b < w.heap.size) ⟨t, a, b, z⟩ := by rw [← hwa]; exact HXR.out.keep ((Fr.refl wr No).alloc _) fun _ _ hn => hn
   have hfm := HFM.out q (by have := HLE.out; omega)
   rw [HLE.out] at hfm
   have HCE := Lib.hid (writeLive_any wa S2 _ g (l ++ (Cd.vi n ++ (vs.take q).flatMap encV)) ⟨t, a, b, z⟩ hxa (fun b hb hs => (hk2 b (Or.inl hb)).2 hs)  (by have := HLB.out; rw [List.length_append, List.length_append]; omega) hwr2)
   simp only [LV.agg] at HCE
   have HST := Lib.hid hst2
   have y0 := hbk.cell 0
   have y1 := hbk.cell 1
   have y2 := hbk.cell 2
   have y3 := hbk.cell 3
   simp only [List.getElem?_toArray, List.getElem?_cons_zero, List.getElem?_cons_succ] at y0 y1 y2 y3
   clear hwg hfr hgx hx hmem hxw hxc hbk hwga hwr2 hk2 hst2 hxa hfm
   go_wp2_with fail
   with_reducible refine HCE.out.mono ?_
   rintro e w2 ⟨rfl, hwd2⟩
   have HW2 := Lib.hid (HST.out _ _ hwd2).1
   clear hwd2
   go_wp2_with fail
   go_roundw
   case rel =>
    refine ⟨q + 1, by omega, by go_num, ?_⟩
    have h9 := HW2.out.less (K' := fun b => T b ∧ b < w.heap.size) fun b hb => Or.inl hb
    rw [HFT.out]
    simpa [List.append_assoc] using h9
   case measure => simp [intOf]; omega
  ·have h1d : decide ((q : Int) < (n : Int)) = false := decide_eq_false (by omega)
   have h1d2 : decide (q < n) = false := decide_eq_false hlt
   have HQ := Lib.hid (show q = n by omega)
   clear hwg
   go_wp2_with fail
   go_end0
   refine ⟨rfl, ?_⟩
   have h9 := HWG.out
   rw [HQ.out, ← HLE.out, List.take_length] at h9
   exact h9.wrote
set_option maxHeartbeats 2000000 in
theorem writeDirty_any (w : World) (S T : Nat → Prop) (g : Nat) (l : List Nat) (x : DV) (hx : x.In w T) (hT : ∀ b, T b → ¬ S b) (hl : l.length ≤ 1099511600000) (hw : Wr w S (some g) true l) :
  Calls Tryz.prog 90 #[ptr (some g), x.agg] w (Done w S g l (encD x)) := by
 have ht := hx.t
 have ha := hx.a
 obtain ⟨t, a⟩ := x
 simp only [DV.agg] at ht ha ⊢
 obtain ⟨w0, hw0⟩ : ∃ w0, w.alloc (.cells #[.int .u32 (t : Int), .int .u64 (a : Int)] 64) = w0 := ⟨_, rfl⟩
 have HB0 : Hid (Blk w0 w.heap.size 64 #[.int .u32 (t : Int), .int .u64 (a : Int)]) := Lib.hid (by rw [← hw0]; exact Blk.new w 64 _)
 have HW0 : Hid (WG w S (fun b => (fun b => T b ∧ b < w.heap.size) b ∨ b = w.heap.size) g w0 l) := Lib.hid (by rw [← hw0]; exact (WG.start (K := fun b => T b ∧ b < w.heap.size) hw (fun b hb => ⟨hb.2, fun hs => hT b hb.1 hs⟩)).alloc _)
 have y0 := HB0.out.cell 0
 have y1 := HB0.out.cell 1
 simp only [List.getElem?_toArray, List.getElem?_cons_zero, List.getElem?_cons_succ] at y0 y1
 have hwt : IntKind.u64.wrap (t : Int) = (t : Int) := wrap_n (by omega)
 have h10 := vi_len t (by omega)
 have h11 := vi_len a (by omega)
 clear hx hT hw
 go_enter Tryz.func90, Tryz.ntmps90
 obtain ⟨S1, hwr1, hk1, hst1⟩ := HW0.out.call
 have HC1 := Lib.hid (wuint_any w0 S1 (some g) true l t (by omega) (by omega) hwr1)
 have HS1 := Lib.hid hst1
 clear hwr1 hst1 hk1
 go_wp2_with fail
 with_reducible refine HC1.out.mono ?_
 rintro e w1 ⟨rfl, hwd1⟩
 obtain ⟨hg1, hf1⟩ := HS1.out _ _ hwd1
 have HW1 := Lib.hid hg1
 have HB1 := Lib.hid (HB0.out.keep hf1 fun hn => hn (Or.inr rfl))
 have y0 := HB1.out.cell 0
 have y1 := HB1.out.cell 1
 simp only [List.getElem?_toArray, List.getElem?_cons_zero, List.getElem?_cons_succ] at y0 y1
 clear hwd1 hg1 hf1
 obtain ⟨S2, hwr2, hk2, hst2⟩ := HW1.out.call
 have HC2 := Lib.hid (wuint_any w1 S2 (some g) true (l ++ Cd.vi t) a (by omega) (by rw [List.length_append]; omega) hwr2)
 have HS2 := Lib.hid hst2
 clear hwr2 hst2 hk2
 go_wp2_with fail
 with_reducible refine HC2.out.mono ?_
 rintro e w2 ⟨rfl, hwd2⟩
 obtain ⟨hg2, hf2⟩ := HS2.out _ _ hwd2
 have HW2 := Lib.hid hg2
 clear hwd2 hg2 hf2
 go_wp2_with fail
 go_end0
 refine ⟨rfl, ?_⟩
 have h9 := HW2.out
 rw [List.append_assoc] at h9
 exact h9.wrote
theorem DV_enc_len (x : DV) {w : World} {T : Nat → Prop} (hx : x.In w T) (_ : True) : (encD x).length ≤ 20 := by
 have h1 := vi_len x.t (by have := hx.t; omega)
 have h2 := vi_len x.a hx.a
 unfold encD
 rw [List.length_append]
 omega
set_option maxHeartbeats 2000000 in
theorem writeListDV_any (w : World) (S T : Nat → Prop) (g : Nat) (l : List Nat) (A : Option Addr) (n c : Nat) (vs : List DV) (hv : DVR w T A n vs) (hT : ∀ b, T b → ¬ S b) (hn : n ≤ 20001) (hc : ∀ x ∈ vs, True) (hl : l.length + 10 + n * 20 ≤ 1099511600000) (hw : Wr w S (some g) true l) :
  Calls Tryz.prog 124 #[ptr (some g), .slice A n c, .func (.func 90) #[] #[]] w (Done w S g l (encL encD vs)) := by
 have hlen : vs.length = n := hv.1
 have HV := Lib.hid hv
 have HLE := Lib.hid hlen
 have hwn : IntKind.u64.wrap (n : Int) = (n : Int) := wrap_n (by omega)
 have h10 := vi_len n (by omega)
 have HIN := Lib.hid (fun x (hx : x ∈ vs) => hv.2.1 x hx)
 have HC := Lib.hid hc
 have HT := Lib.hid hT
 have HW0 : Hid (WG w S (fun b => T b ∧ b < w.heap.size) g w l) := Lib.hid (WG.start hw fun b hb => ⟨hb.2, hT b hb.1⟩)
 have HFM := Lib.hid (fun q (hq : q ≤ vs.length) => flat_mem encD (m := 20) (fun x hx => DV_enc_len x (hv.2.1 x hx) (hc x hx)) hq)
 have HLB := Lib.hid hl
 clear hv hc hw hT hlen
 go_enter Tryz.func124, Tryz.ntmps124
 obtain ⟨S1, hwr1, hk1, hst1⟩ := HW0.out.call
 have HC1 := Lib.hid (wuint_any w S1 (some g) true l n (by omega) (by omega) hwr1)
 have HS1 := Lib.hid hst1
 clear hwr1 hst1 hk1
 go_wp2_with fail
 with_reducible refine HC1.out.mono ?_
 rintro e w1 ⟨rfl, hwd1⟩
 have HW1 := Lib.hid (HS1.out _ _ hwd1).1
 clear hwd1 hl
 go_wp2_with fail
 go_loopw [15] (fun i wr => ∃ q : Nat, q ≤ n ∧ i = .int .i64 (q : Int) ∧ WG w S (fun b => T b ∧ b < w.heap.size) g wr (l ++ (Cd.vi n ++ (vs.take q).flatMap encD))) (fun i _ => n - (intOf i).toNat)
 case atStart => exact ⟨0, by omega, rfl, by simpa using HW1.out⟩
 case round =>
  obtain ⟨q, hq, rfl, hwg⟩ := hrel
  have HWG := Lib.hid hwg
  by_cases hlt : q < n
  ·have hfr := hwg.2.2
   have hT := HT.out
   obtain ⟨gx, o, x, hA, hgx, _, hx, _, b0, b1⟩ := (HV.out.keep hfr hT).at_ hlt
   have hmem := List.mem_of_getElem? hx
   have hxw := (HIN.out x hmem).mono fun b hlt hb => (⟨hb, hlt⟩ : T b ∧ b < w.heap.size)
   have hxc := HC.out x hmem
   have HXR := Lib.hid (hxw.keep (hfr) fun b hb => hT b hb.1)
   have HXC := Lib.hid hxc
   have HFT := Lib.hid (flat_take encD hx)
   subst hA
   obtain ⟨t, a⟩ := x
   simp only at b0 b1 HXC
   have hWi : IntKind.i64.wrap ((q : Int) + 1) = ((q + 1 : Nat) : Int) := by rw [IntWalk.i64_in _ (by omega)]; omega
   have hin : ((q : Int) < (n : Int)) := by omega
   have hwq : IntKind.i64.wrap (q : Int) = (q : Int) := IntWalk.i64_in _ (by omega)
   obtain ⟨wa, hwa⟩ : ∃ wa, wr.alloc (.cells #[.int .u32 (t : Int), .int .u64 (a : Int)] 64) = wa := ⟨_, rfl⟩
   have hbk : Blk wa wr.heap.size 64 #[.int .u32 (t : Int), .int .u64 (a : Int)] := by rw [← hwa]; exact Blk.new wr 64 _
   have hwga := hwg.alloc (.cells #[.int .u32 (t : Int), .int .u64 (a : Int)] 64)
   rw [hwa] at hwga
   obtain ⟨S2, hwr2, hk2, hst2⟩ := hwga.call
   have hxa : DV.In wa (fun b => T b ∧ b < w.heap.size) ⟨t, a⟩ := by rw [← hwa]; exact HXR.out.keep ((Fr.refl wr No).alloc _) fun _ _ hn => hn
   have hfm := HFM.out q (by have := HLE.out; omega)
   rw [HLE.out] at hfm
   have HCE := Lib.hid (writeDirty_any wa S2 _ g (l ++ (Cd.vi n ++ (vs.take q).flatMap encD)) ⟨t, a⟩ hxa (fun b hb hs => (hk2 b (Or.inl hb)).2 hs)  (by have := HLB.out; rw [List.length_append, List.length_append]; omega) hwr2)
   simp only [DV.agg] at HCE
   have HST := Lib.hid hst2
   have y0 := hbk.cell 0
   have y1 := hbk.cell 1
   simp only [List.getElem?_toArray, List.getElem?_cons_zero, List.getElem?_cons_succ] at y0 y1
   clear hwg hfr hgx hx hmem hxw hxc hbk hwga hwr2 hk2 hst2 hxa hfm
   go_wp2_with fail
   with_reducible refine HCE.out.mono ?_
   rintro e w2 ⟨rfl, hwd2⟩
   have HW2 := Lib.hid (HST.out _ _ hwd2).1
   clear hwd2
   go_wp2_with fail
   go_roundw
   case rel =>
    refine ⟨q + 1, by omega, by go_num, ?_⟩
    have h9 := HW2.out.less (K' := fun b => T b ∧ b < w.heap.size) fun b hb => Or.inl hb
    rw [HFT.out]
    simpa [List.append_assoc] using h9
   case measure => simp [intOf]; omega
  ·have h1d : decide ((q : Int) < (n : Int)) = false := decide_eq_false (by omega)
   have h1d2 : decide (q < n) = false := decide_eq_false hlt
   have HQ := Lib.hid (show q = n by omega)
   clear hwg
   go_wp2_with fail
   go_end0
   refine ⟨rfl, ?_⟩
   have h9 := HWG.out
   rw [HQ.out, ← HLE.out, List.take_length] at h9
   exact h9.wrote
set_option maxHeartbeats 2000000 in
theorem writeOp_any (w : World) (S T : Nat → Prop) (g : Nat) (l : List Nat) (x : OV) (hx : x.In w T) (hT : ∀ b, T b → ¬ S b) (hm : x.m ≤ 2000) (hl : l.length ≤ 1099511600000) (hw : Wr w S (some g) true l) :
  Calls Tryz.prog 78 #[ptr (some g), x.agg] w (Done w S g l (encO x.k x.s x.t x.d)) := by
 have hlen := hx.b.len
 have ht := hx.t
 have HR := Lib.hid (hx.b.mono (T := fun b => T b ∧ b < w.heap.size) fun b hlt hb => ⟨hb, hlt⟩)
 obtain ⟨ok, os, ot, oA, om, oc, od⟩ := x
 simp only [OV.agg] at HR hlen ht hm ⊢
 obtain ⟨w0, hw0⟩ : ∃ w0, w.alloc (.cells #[.int .i64 ok, .int .i64 os, .int .u32 (ot : Int), .slice oA om oc] 26) = w0 := ⟨_, rfl⟩
 have HB0 : Hid (Blk w0 w.heap.size 26 #[.int .i64 ok, .int .i64 os, .int .u32 (ot : Int), .slice oA om oc]) := Lib.hid (by rw [← hw0]; exact Blk.new w 26 _)
 have HW0 : Hid (WG w S (fun b => (fun b => T b ∧ b < w.heap.size) b ∨ b = w.heap.size) g w0 l) := Lib.hid (by rw [← hw0]; exact (WG.start (K := fun b => T b ∧ b < w.heap.size) hw (fun b hb => ⟨hb.2, fun hs => hT b hb.1 hs⟩)).alloc _)
 have y0 := HB0.out.cell 0
 have y1 := HB0.out.cell 1
 have y2 := HB0.out.cell 2
 have y3 := HB0.out.cell 3
 simp only [List.getElem?_toArray, List.getElem?_cons_zero, List.getElem?_cons_succ] at y0 y1 y2 y3
 have hwt : IntKind.u64.wrap (ot : Int) = (ot : Int) := wrap_n (by omega)
 have hwk := wrap_kb ok
 have hws : IntKind.u64.wrap os = ((ub os : Nat) : Int) := by rw [IntKind.wrap_u64]; unfold ub; omega
 obtain ⟨kk, hkk⟩ : ∃ kk, kk = kb ok := ⟨_, rfl⟩
 obtain ⟨ss, hss⟩ : ∃ ss, ss = ub os := ⟨_, rfl⟩
 rw [← hkk] at hwk
 rw [← hss] at hws
 have hkl : kk < 256 := by rw [hkk]; exact kb_lt _
 have hsl : ss < 18446744073709551616 := by rw [hss]; exact ub_lt _
 have h10 := vi_len ot (by omega)
 have h11 := vi_len ss hsl
 have h12 := Cd.fixB_len 1 kk
 have HR0 : Hid (RB w0 (fun b => T b ∧ b < w.heap.size) oA om od) := Lib.hid (by rw [← hw0]; exact HR.out.alloc _)
 have hss2 : (strOf od).size ≤ 1099511627776 := by have h9 : (strOf od).size = od.length := by show ((od.map UInt8.ofNat).toArray).size = _; simp
                                                   omega
 have HBS := Lib.hid (bs_strOf (l := od) (fun x hx => HR0.out.lt x hx))
 have HE : Hid (encO ok os ot od = Cd.fixB 1 kk ++ (Cd.vi ss ++ (Cd.vi ot ++ Cd.tx od))) := Lib.hid (by unfold encO; rw [hkk, hss])
 clear hx hT hw hkk hss
 go_enter Tryz.func78, Tryz.ntmps78
 obtain ⟨S1, hwr1, hk1, hst1⟩ := HW0.out.call
 have HC1 := Lib.hid (wu8_any w0 S1 (some g) true l kk hkl (by omega) hwr1)
 have HS1 := Lib.hid hst1
 clear hwr1 hst1 hk1
 go_wp2_with fail
 with_reducible refine HC1.out.mono ?_
 rintro e w1 ⟨rfl, hwd1⟩
 obtain ⟨hg1, hf1⟩ := HS1.out _ _ hwd1
 have HW1 := Lib.hid hg1
 have HB1 := Lib.hid (HB0.out.keep hf1 fun hn => hn (Or.inr rfl))
 have y0 := HB1.out.cell 0
 have y1 := HB1.out.cell 1
 have y2 := HB1.out.cell 2
 have y3 := HB1.out.cell 3
 simp only [List.getElem?_toArray, List.getElem?_cons_zero, List.getElem?_cons_succ] at y0 y1 y2 y3
 have HR1 := Lib.hid (HR0.out.keep hf1 fun b hb hn => hn (Or.inl hb))
 clear hwd1 hg1 hf1
 obtain ⟨S2, hwr2, hk2, hst2⟩ := HW1.out.call
 have HC2 := Lib.hid (wuint_any w1 S2 (some g) true (l ++ Cd.fixB 1 kk) ss hsl (by rw [List.length_append]; omega) hwr2)
 have HS2 := Lib.hid hst2
 clear hwr2 hst2 hk2
 go_wp2_with fail
 with_reducible refine HC2.out.mono ?_
 rintro e w2 ⟨rfl, hwd2⟩
 obtain ⟨hg2, hf2⟩ := HS2.out _ _ hwd2
 have HW2 := Lib.hid hg2
 have HB2 := Lib.hid (HB1.out.keep hf2 fun hn => hn (Or.inr rfl))
 have y0 := HB2.out.cell 0
 have y1 := HB2.out.cell 1
 have y2 := HB2.out.cell 2
 have y3 := HB2.out.cell 3
 simp only [List.getElem?_toArray, List.getElem?_cons_zero, List.getElem?_cons_succ] at y0 y1 y2 y3
 have HR2 := Lib.hid (HR1.out.keep hf2 fun b hb hn => hn (Or.inl hb))
 clear hwd2 hg2 hf2
 obtain ⟨S3, hwr3, hk3, hst3⟩ := HW2.out.call
 have HC3 := Lib.hid (wuint_any w2 S3 (some g) true (l ++ Cd.fixB 1 kk ++ Cd.vi ss) ot (by omega) (by rw [List.length_append, List.length_append]; omega) hwr3)
 have HS3 := Lib.hid hst3
 clear hwr3 hst3 hk3
 go_wp2_with fail
 with_reducible refine HC3.out.mono ?_
 rintro e w3 ⟨rfl, hwd3⟩
 obtain ⟨hg3, hf3⟩ := HS3.out _ _ hwd3
 have HW3 := Lib.hid hg3
 have HB3 := Lib.hid (HB2.out.keep hf3 fun hn => hn (Or.inr rfl))
 have y0 := HB3.out.cell 0
 have y1 := HB3.out.cell 1
 have y2 := HB3.out.cell 2
 have y3 := HB3.out.cell 3
 simp only [List.getElem?_toArray, List.getElem?_cons_zero, List.getElem?_cons_succ] at y0 y1 y2 y3
 have HR3 := Lib.hid (HR2.out.keep hf3 fun b hb hn => hn (Or.inl hb))
 have hcv := run_conv _ oA om oc od w3 HR3.out
 clear hwd3 hg3 hf3
 obtain ⟨S4, hwr4, hk4, hst4⟩ := HW3.out.call
 have HC4 := Lib.hid (wtext_any w3 S4 (some g) true (l ++ Cd.fixB 1 kk ++ Cd.vi ss ++ Cd.vi ot) (strOf od) hss2 (by rw [List.length_append, List.length_append, List.length_append]; omega) hwr4)
 have HS4 := Lib.hid hst4
 clear hwr4 hst4 hk4
 go_wp2_with fail
 with_reducible refine HC4.out.mono ?_
 rintro e w4 ⟨rfl, hwd4⟩
 obtain ⟨hg4, hf4⟩ := HS4.out _ _ hwd4
 have HW4 := Lib.hid hg4
 clear hwd4 hg4 hf4
 go_wp2_with fail
 go_end0
 refine ⟨rfl, ?_⟩
 have h9 := HW4.out
 rw [HBS.out, List.append_assoc, List.append_assoc, List.append_assoc, ← HE.out] at h9
 exact h9.wrote
end Go.Proofs.YtdhgbkibbileiaaGreat
