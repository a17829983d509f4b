/-
  THE WALK OF RowsBack.
-/
import Derived.Test.YtiilhnedflmgoaaKit
namespace Go.Proofs.Ytiilhnedflmgoaa.rowsBack
open Go.RowKit Go.Sort
attribute [local go_sem high] run_eqs
set_option maxRecDepth 100000 in
set_option maxHeartbeats 16000000 in
theorem walked (A : Option Addr) (n c : Nat) (cs : List C) (B : Option Addr) (m d : Nat) (vs : List V) (B2 : Option Addr) (m2 d2 : Nat) (us : List V) (s : ByteArray) (w : World) (ha : ColsIn w A n c cs) (hb : RowIn w B m d vs) (hb2 : RowIn w B2 m2 d2 us) (hs : s.size ≤ 9223372036854775807) :
    Calls Try.prog 6 #[.slice A n c, .slice B m d, .slice B2 m2 d2, .string s] w fun e w' => e = .returned (.bool true) ∧ Below w.heap.size w w' := by
  have ln := ha.1.1
  have lm := hb.1.1
  have hmb := hb.1.2.2.1
  have lm2 := hb2.1.1
  have HLC := Lib.hid (fun (W : World) (h : Below w.heap.size w W) => lentC_any A n c cs W (ha.1.below h) ha.2.2)
  have HLV := Lib.hid (fun (W : World) (h : Below w.heap.size w W) => lent_any B m d vs W (hb.1.below h) hb.2.2)
  have HLU := Lib.hid (fun (W : World) (h : Below w.heap.size w W) => lent_any B2 m2 d2 us W (hb2.1.below h) hb2.2.2)
  have HV := Lib.hid (fun (W : World) (h : Below w.heap.size w W) => hb.1.below h)
  have HU := Lib.hid (fun (W : World) (h : Below w.heap.size w W) => hb2.1.below h)
  have HW := Lib.hid (fun W => awake_any W)
  have hlen := decV_len cs s
  have hb1 := Lib.hid (fun h => back1 (cs := cs) (vs := vs) h hb.1.2.1)
  have hb2' := Lib.hid (fun h => back2 (cs := cs) (s := s) h)
  have hap := Lib.hid (fun h1 h2 => apart (cs := cs) (xs := vs) (ys := us) h1 h2 hb.1.2.1 hb2.1.2.1)
  have HB0 := Lib.hid (Below.refl w.heap.size w)
  clear ha hb hb2
  go_enter Try.func6, Try.ntmps6
  go_wp2_with fail
  refine (HLC.out _ HB0.out).mono ?_
  rintro e w1 ⟨g1, c1, rfl, hl⟩
  have HB1 := Lib.hid (below_trans HB0.out hl.2.2.2.2.2)
  have hc1 := hl.1
  have HX1 := Lib.hid (fun (W : World) (h : Below w1.heap.size w1 W) => ln ▸ (lentC_below hl h).rv)
  clear hl
  go_wp2_with fail
  refine (HLV.out _ HB1.out).mono ?_
  rintro e w2 ⟨g2, c2, rfl, hl⟩
  have HB2 := Lib.hid (below_trans HB1.out hl.2.2.2.2.2)
  have HX2 := Lib.hid (lm ▸ hl.rv)
  have HC2 := Lib.hid (HX1.out _ hl.2.2.2.2.2)
  clear hl
  have HE := Lib.hid (encode_any _ n c1 cs _ m c2 vs w2 HC2.out HX2.out (by omega))
  unfold Enc at HE
  go_wp2_with fail
  refine HE.out.mono ?_
  rintro e w3 ⟨rfl, hb3⟩
  have HB3 := Lib.hid (below_trans HB2.out hb3)
  clear hb3 HE HC2 HX2 HX1
  by_cases he1 : encE cs vs = 0
  · have hbk1 := hb1.out he1
    rw [he1]
    go_wp2_with fail
    refine (HLC.out _ HB3.out).mono ?_
    rintro e w4 ⟨g4, c4, rfl, hl⟩
    have HB4 := Lib.hid (below_trans HB3.out hl.2.2.2.2.2)
    have hc4 := hl.1
    have HX4 := Lib.hid (fun (W : World) (h : Below w4.heap.size w4 W) => ln ▸ (lentC_below hl h).rv)
    clear hl
    have hsz1 : (encS cs vs).size ≤ 9223372036854775807 := by rw [(enc_parts he1).2.2, bs_size]; have := (enc_parts he1).2.1; omega
    have HD := Lib.hid (decode_any _ n c4 cs (encS cs vs) w4 (HX4.out _ (Below.refl _ _)) (by omega) hsz1)
    unfold Dec at HD
    rw [hbk1.1, hbk1.2] at HD
    have HAP := Lib.hid (hap.out he1)
    generalize encS cs vs = S1 at *
    go_wp2_with fail
    refine HD.out.mono ?_
    rintro e w5 ⟨v5, rfl, ho⟩
    have HB5 := Lib.hid (below_trans HB4.out ho.2)
    have ho1 := ho.1
    obtain ⟨A5, c5, rfl, _, _, _, hrv⟩ := ho1.reads (by have := ho1.len; rw [lm]; omega)
    rw [lm] at hrv
    have HSM := Lib.hid (same_any A5 m c5 vs B m d vs w5 hrv (HV.out _ HB5.out))
    rw [(eqR_iff vs vs).2 rfl] at HSM
    rw [lm]
    clear HD ho ho1 hrv HX4 hb1 hbk1 hap
    go_wp2_with fail
    refine HSM.out.mono ?_
    rintro e w6 ⟨rfl, hb6⟩
    have HB6 := Lib.hid (below_trans HB5.out hb6)
    clear hb6 HSM
    go_wp2_with fail
    refine (HLC.out _ HB6.out).mono ?_
    rintro e w7 ⟨g7, c7, rfl, hl⟩
    have HB7 := Lib.hid (below_trans HB6.out hl.2.2.2.2.2)
    have hc7 := hl.1
    have HX7 := Lib.hid (fun (W : World) (h : Below w7.heap.size w7 W) => ln ▸ (lentC_below hl h).rv)
    clear hl
    go_wp2_with fail
    refine (HLU.out _ HB7.out).mono ?_
    rintro e w8 ⟨g8, c8, rfl, hl⟩
    have HB8 := Lib.hid (below_trans HB7.out hl.2.2.2.2.2)
    have HX8 := Lib.hid (lm2 ▸ hl.rv)
    have HC8 := Lib.hid (HX7.out _ hl.2.2.2.2.2)
    clear hl
    have HE := Lib.hid (encode_any _ n c7 cs _ m2 c8 us w8 HC8.out HX8.out (by omega))
    unfold Enc at HE
    go_wp2_with fail
    refine HE.out.mono ?_
    rintro e w9 ⟨rfl, hb3⟩
    have HB9 := Lib.hid (below_trans HB8.out hb3)
    clear hb3 HE HC8 HX8 HX7
    by_cases he2 : encE cs us = 0
    · have hq := HAP.out he2
      have HSM := Lib.hid (same_any B m d vs B2 m2 d2 us w9 (HV.out _ HB9.out) (HU.out _ HB9.out))
      rw [he2]
      rw [← hq] at HSM
      generalize encS cs us = S2 at *
      generalize hqq : seq S1 S2 = q at *
      have hqn : (q != q) = false := by simp
      clear HAP he1 he2 hq
      go_wp2_with fail
      refine HSM.out.mono ?_
      rintro e w10 ⟨rfl, hb10⟩
      have HB10 := Lib.hid (below_trans HB9.out hb10)
      clear hb10 HSM
      go_wp2_with fail
      refine (HLC.out _ HB10.out).mono ?_
      rintro e w11 ⟨g11, c11, rfl, hl⟩
      have HB11 := Lib.hid (below_trans HB10.out hl.2.2.2.2.2)
      have hc11 := hl.1
      have HX11 := Lib.hid (fun (W : World) (h : Below w11.heap.size w11 W) => ln ▸ (lentC_below hl h).rv)
      clear hl
      have HD := Lib.hid (decode_any _ n c11 cs s w11 (HX11.out _ (Below.refl _ _)) (by omega) hs)
      unfold Dec at HD
      go_wp2_with fail
      refine HD.out.mono ?_
      rintro e w12 ⟨v12, rfl, ho⟩
      have HB12 := Lib.hid (below_trans HB11.out ho.2)
      have ho1 := ho.1
      generalize hr : decV cs s = r at *
      generalize hx : decX cs s = x at *
      obtain ⟨Ar, cr, rfl, _, _, _, hrv⟩ := ho1.reads (by omega)
      have HRV := Lib.hid hrv
      clear HD ho ho1 hrv HX11
      by_cases hx0 : x = 0
      · subst hx0
        have hbk := hb2'.out rfl
        go_wp2_with fail
        refine (HLC.out _ HB12.out).mono ?_
        rintro e w13 ⟨g13, c13, rfl, hl⟩
        have HB13 := Lib.hid (below_trans HB12.out hl.2.2.2.2.2)
        have hc13 := hl.1
        have HX13 := Lib.hid (fun (W : World) (h : Below w13.heap.size w13 W) => ln ▸ (lentC_below hl h).rv)
        have hbr := hl.2.2.2.2.2
        clear hl
        have hlr := HRV.out.1
        have HE := Lib.hid (encode_any _ n c13 cs Ar _ cr r w13 (HX13.out _ (Below.refl _ _)) (HRV.out.below hbr) (by omega))
        unfold Enc at HE
        rw [hbk.1, hbk.2] at HE
        have hss := seq_refl s
        clear hr hx hbk hlr
        go_wp2_with fail
        refine HE.out.mono ?_
        rintro e w14 ⟨rfl, hb3⟩
        have HB14 := Lib.hid (below_trans HB13.out hb3)
        clear hb3 HE
        go_wp2_with fail
        refine (HW.out _).mono ?_
        rintro e w15 ⟨rfl, hb4⟩
        have HF := Lib.hid (below_trans HB14.out hb4)
        clear hb4
        go_wp2
        go_ret
        exact ⟨rfl, HF.out⟩
      · have hz1 : (x == 0) = false := beq_false_of_ne hx0
        have hz2 : (x != 0) = true := bne_iff_ne.2 hx0
        clear hr hx hx0
        go_wp2_with fail
        refine (HW.out _).mono ?_
        rintro e w15 ⟨rfl, hb4⟩
        have HF := Lib.hid (below_trans HB12.out hb4)
        clear hb4
        go_wp2
        go_ret
        exact ⟨rfl, HF.out⟩
    · have hz3 : (encE cs us == 0) = false := beq_false_of_ne he2
      generalize encE cs us = y2 at *
      generalize encS cs us = S2 at *
      clear he2 HAP he1
      go_wp2_with fail
      refine (HLC.out _ HB9.out).mono ?_
      rintro e w10 ⟨g10, c10, rfl, hl⟩
      have HB10 := Lib.hid (below_trans HB9.out hl.2.2.2.2.2)
      have hc10 := hl.1
      have HX10 := Lib.hid (fun (W : World) (h : Below w10.heap.size w10 W) => ln ▸ (lentC_below hl h).rv)
      clear hl
      have HD := Lib.hid (decode_any _ n c10 cs s w10 (HX10.out _ (Below.refl _ _)) (by omega) hs)
      unfold Dec at HD
      go_wp2_with fail
      refine HD.out.mono ?_
      rintro e w11 ⟨v11, rfl, ho⟩
      have HB11 := Lib.hid (below_trans HB10.out ho.2)
      have ho1 := ho.1
      generalize hr : decV cs s = r at *
      generalize hx : decX cs s = x at *
      obtain ⟨Ar, cr, rfl, _, _, _, hrv⟩ := ho1.reads (by omega)
      have HRV := Lib.hid hrv
      clear HD ho ho1 hrv HX10
      by_cases hx0 : x = 0
      · subst hx0
        have hbk := hb2'.out rfl
        go_wp2_with fail
        refine (HLC.out _ HB11.out).mono ?_
        rintro e w12 ⟨g12, c12, rfl, hl⟩
        have HB12 := Lib.hid (below_trans HB11.out hl.2.2.2.2.2)
        have hc12 := hl.1
        have HX12 := Lib.hid (fun (W : World) (h : Below w12.heap.size w12 W) => ln ▸ (lentC_below hl h).rv)
        have hbr := hl.2.2.2.2.2
        clear hl
        have hlr := HRV.out.1
        have HE := Lib.hid (encode_any _ n c12 cs Ar _ cr r w12 (HX12.out _ (Below.refl _ _)) (HRV.out.below hbr) (by omega))
        unfold Enc at HE
        rw [hbk.1, hbk.2] at HE
        have hss := seq_refl s
        clear hr hx hbk hlr
        go_wp2_with fail
        refine HE.out.mono ?_
        rintro e w13 ⟨rfl, hb3⟩
        have HB13 := Lib.hid (below_trans HB12.out hb3)
        clear hb3 HE
        go_wp2_with fail
        refine (HW.out _).mono ?_
        rintro e w14 ⟨rfl, hb4⟩
        have HF := Lib.hid (below_trans HB13.out hb4)
        clear hb4
        go_wp2
        go_ret
        exact ⟨rfl, HF.out⟩
      · have hz1 : (x == 0) = false := beq_false_of_ne hx0
        have hz2 : (x != 0) = true := bne_iff_ne.2 hx0
        clear hr hx hx0
        go_wp2_with fail
        refine (HW.out _).mono ?_
        rintro e w14 ⟨rfl, hb4⟩
        have HF := Lib.hid (below_trans HB11.out hb4)
        clear hb4
        go_wp2
        go_ret
        exact ⟨rfl, HF.out⟩
  · have hz3 : (encE cs vs == 0) = false := beq_false_of_ne he1
    generalize encE cs vs = y1 at *
    generalize encS cs vs = S1 at *
    clear he1 hb1 hap
    go_wp2_with fail
    refine (HLC.out _ HB3.out).mono ?_
    rintro e w7 ⟨g7, c7, rfl, hl⟩
    have HB7 := Lib.hid (below_trans HB3.out hl.2.2.2.2.2)
    have hc7 := hl.1
    have HX7 := Lib.hid (fun (W : World) (h : Below w7.heap.size w7 W) => ln ▸ (lentC_below hl h).rv)
    clear hl
    go_wp2_with fail
    refine (HLU.out _ HB7.out).mono ?_
    rintro e w8 ⟨g8, c8, rfl, hl⟩
    have HB8 := Lib.hid (below_trans HB7.out hl.2.2.2.2.2)
    have HX8 := Lib.hid (lm2 ▸ hl.rv)
    have HC8 := Lib.hid (HX7.out _ hl.2.2.2.2.2)
    clear hl
    have HE := Lib.hid (encode_any _ n c7 cs _ m2 c8 us w8 HC8.out HX8.out (by omega))
    unfold Enc at HE
    go_wp2_with fail
    refine HE.out.mono ?_
    rintro e w9 ⟨rfl, hb3⟩
    have HB9 := Lib.hid (below_trans HB8.out hb3)
    clear hb3 HE HC8 HX8 HX7
    generalize encE cs us = y2 at *
    generalize encS cs us = S2 at *
    go_wp2_with fail
    refine (HLC.out _ HB9.out).mono ?_
    rintro e w10 ⟨g10, c10, rfl, hl⟩
    have HB10 := Lib.hid (below_trans HB9.out hl.2.2.2.2.2)
    have hc10 := hl.1
    have HX10 := Lib.hid (fun (W : World) (h : Below w10.heap.size w10 W) => ln ▸ (lentC_below hl h).rv)
    clear hl
    have HD := Lib.hid (decode_any _ n c10 cs s w10 (HX10.out _ (Below.refl _ _)) (by omega) hs)
    unfold Dec at HD
    go_wp2_with fail
    refine HD.out.mono ?_
    rintro e w11 ⟨v11, rfl, ho⟩
    have HB11 := Lib.hid (below_trans HB10.out ho.2)
    have ho1 := ho.1
    generalize hr : decV cs s = r at *
    generalize hx : decX cs s = x at *
    obtain ⟨Ar, cr, rfl, _, _, _, hrv⟩ := ho1.reads (by omega)
    have HRV := Lib.hid hrv
    clear HD ho ho1 hrv HX10
    by_cases hx0 : x = 0
    · subst hx0
      have hbk := hb2'.out rfl
      go_wp2_with fail
      refine (HLC.out _ HB11.out).mono ?_
      rintro e w12 ⟨g12, c12, rfl, hl⟩
      have HB12 := Lib.hid (below_trans HB11.out hl.2.2.2.2.2)
      have hc12 := hl.1
      have HX12 := Lib.hid (fun (W : World) (h : Below w12.heap.size w12 W) => ln ▸ (lentC_below hl h).rv)
      have hbr := hl.2.2.2.2.2
      clear hl
      have hlr := HRV.out.1
      have HE := Lib.hid (encode_any _ n c12 cs Ar _ cr r w12 (HX12.out _ (Below.refl _ _)) (HRV.out.below hbr) (by omega))
      unfold Enc at HE
      rw [hbk.1, hbk.2] at HE
      have hss := seq_refl s
      clear hr hx hbk hlr
      go_wp2_with fail
      refine HE.out.mono ?_
      rintro e w13 ⟨rfl, hb3⟩
      have HB13 := Lib.hid (below_trans HB12.out hb3)
      clear hb3 HE
      go_wp2_with fail
      refine (HW.out _).mono ?_
      rintro e w14 ⟨rfl, hb4⟩
      have HF := Lib.hid (below_trans HB13.out hb4)
      clear hb4
      go_wp2
      go_ret
      exact ⟨rfl, HF.out⟩
    · have hz1 : (x == 0) = false := beq_false_of_ne hx0
      have hz2 : (x != 0) = true := bne_iff_ne.2 hx0
      clear hr hx hx0
      go_wp2_with fail
      refine (HW.out _).mono ?_
      rintro e w14 ⟨rfl, hb4⟩
      have HF := Lib.hid (below_trans HB11.out hb4)
      clear hb4
      go_wp2
      go_ret
      exact ⟨rfl, HF.out⟩
end Go.Proofs.Ytiilhnedflmgoaa.rowsBack
