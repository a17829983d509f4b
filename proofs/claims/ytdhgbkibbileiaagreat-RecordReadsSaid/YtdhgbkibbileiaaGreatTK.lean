/-
TK
-/
import Derived.Test.YtdhgbkibbileiaaGreatTI
import Derived.Test.YtdhgbkibbileiaaGreatTH
set_option maxRecDepth 100000
namespace Go.Proofs.YtdhgbkibbileiaaGreat
open Go.RowKit
def fr1 (x : IV) : Bool := decide (x.p.s = 0) && may x.p.k x.p.es
theorem all_yes {α : Type} {l : List α} {f : α → Bool} {k : Nat} {x : α} (h : l[k]? = some x) (ha : (l.take k).all f = true) (hf : f x = true) : (l.take (k + 1)).all f = true := by
 have hk : k < l.length := by
  rcases Nat.lt_or_ge k l.length with h' | h'
  ·exact h'
  ·rw [List.getElem?_eq_none h'] at h; cases h
 have e : l[k] = x := by rw [List.getElem?_eq_getElem hk] at h; injection h
 rw [List.take_succ_eq_append_getElem hk, List.all_append, ha, e]
 simp [hf]
theorem all_no {α : Type} {l : List α} {f : α → Bool} {k : Nat} {x : α} (h : l[k]? = some x) (hf : f x = false) : l.all f = false := by
 rw [List.all_eq_false]
 exact ⟨x, List.mem_of_getElem? h, by simp [hf]⟩
set_option maxHeartbeats 8000000 in
theorem dmay_4 (w : World) (r : RV) (h : r.In w All) (hc : Brief r) (hk : r.k = 4) : Calls Tryz.prog 14 #[r.agg] w (Tells w (bytesE r.e ≠ [])) := by
 obtain ⟨W, hW, hBW, hbx, hsz⟩ := box_rv w r
 obtain ⟨y0, y1, y2, y3, y4, y5, y6, y7, y8, y9, y10, y11, y12, y13, y14⟩ := rcs_cells hbx
 have hh := h.keep (Fr.of_below hBW No) fun _ _ hn => hn
 have HBW := Lib.hid hBW
 have HBX := Lib.hid hbx
 have HBA := Lib.hid (bare_any W r hh (by omega))
 have HF := Lib.hid (fun W' (hb : Below W.heap.size W W') => rfields_any W' r (hh.keep (Fr.of_below hb No) fun _ _ hn => hn) hc (by omega))
 have hil : r.il.length = r.im := h.i.1
 have hft : fitsE r.e = true ↔ 0 < r.im ∧ rising 0 (r.il.map IV.t) = true ∧ r.il.all fr1 = true := by
  unfold fitsE
  rw [if_neg (by unfold RV.e; simp only; omega), if_neg (by unfold RV.e; simp only; omega), if_pos (by unfold RV.e; simp only; omega)]
  have e1 : freshE r.e.il = r.il.all fr1 := by unfold freshE RV.e; simp only [List.all_map]; rfl
  have e2 : r.e.il.map IE.t = r.il.map IV.t := by unfold RV.e; simp only [List.map_map]; rfl
  have e3 : r.e.il.length = r.im := by unfold RV.e; simp only [List.length_map, hil]
  rw [e1, e2, e3]
  simp only [Bool.and_eq_true, decide_eq_true_eq]
 have HIV := Lib.hid hh.i
 have HBR := Lib.hid hc
 have HIFF := Lib.hid (bytesE_iff r.e)
 have HFT := Lib.hid hft
 obtain ⟨fs, hfs⟩ : ∃ f, f = fieldsE r.e := ⟨_, rfl⟩
 have HLL : Hid (fs.length ≤ 1000000000) := Lib.hid (by rw [hfs]; exact fieldsE_le r h hc)
 rw [← hfs] at HF HIFF
 have HRW : Hid (okE r.e = true → r.lm = 0 ∧ r.dm = 0) := Lib.hid (fun ho => by
  have h2 := (okE_rows ho).2 (show r.k ≠ 8 by omega)
  have h4 := h.l.1
  have h5 := h.d.1
  have e2 : r.ll = [] := h2.1
  have e3 : r.dl = [] := h2.2
  rw [e2] at h4; rw [e3] at h5
  exact ⟨h4.symm, h5.symm⟩)
 have him : r.im ≤ 20001 := hc.i
 have p1 : decide (r.k < 1) = false := decide_eq_false (by omega)
 have p8 : decide (r.k > 8) = false := decide_eq_false (by omega)
 have q8 : decide (8 < r.k) = false := decide_eq_false (by omega)
 have c4 : (r.k == 4) = true := by rw [hk]; rfl
 have n4 : (r.k != 4) = false := by rw [hk]; rfl
 have n8 : (r.k != 8) = true := bne_iff_ne.2 (by omega)
 have c3 : (r.k == 3) = false := beq_false_of_ne (by omega)
 have c2 : (r.k == 2) = false := beq_false_of_ne (by omega)
 obtain ⟨ok, hok⟩ : ∃ ok, ok = okE r.e := ⟨_, rfl⟩
 obtain ⟨ft, hft⟩ : ∃ ft, ft = fitsE r.e := ⟨_, rfl⟩
 obtain ⟨bb, hbb⟩ : ∃ bb, bb = bytesE r.e := ⟨_, rfl⟩
 rw [← hok] at HBA HRW HIFF
 rw [← hft] at HFT HIFF
 rw [← hbb] at HIFF ⊢
 simp only [rcs] at hW
 unfold RV.agg at HBA HF ⊢
 clear h hh hc hk hil hBW hbx hsz hfs hok hbb hft
 go_enter Tryz.func14, Tryz.ntmps14
 go_wp2_with fail
 with_reducible refine HBA.out.mono ?_
 unfold Tells
 rintro e w1 ⟨b1, rfl, hiff, hb1⟩
 have HI := Lib.hid hiff
 have HB1 := Lib.hid hb1
 obtain ⟨y0, y1, y2, y3, y4, y5, y6, y7, y8, y9, y10, y11, y12, y13, y14⟩ := rcs_cells (HBX.out.below hb1 HBX.out.lt)
 clear hiff hb1
 cases b1
 ·go_wp2_with fail
  go_ret
  refine ⟨false, rfl, ⟨fun h => absurd h (by decide), fun h => ?_⟩, HBW.out.trans (HB1.out.mono HBW.out.size)⟩
  have := HI.out.2 (HIFF.out.1 h).2.1
  exact absurd this (by decide)
 ·have HOK := Lib.hid (HI.out.1 rfl)
  have HZ := Lib.hid (HRW.out HOK.out)
  by_cases hn0 : r.im = 0
  ·have g0 : ((r.im : Int) == 0) = true := by rw [beq_iff_eq]; omega
   have HN0 := Lib.hid hn0
   clear hn0 him
   go_wp2_with fail
   go_ret
   refine ⟨false, rfl, ⟨fun h => absurd h (by decide), fun h => ?_⟩, HBW.out.trans (HB1.out.mono HBW.out.size)⟩
   have h9 := HFT.out.1 (HIFF.out.1 h).1
   have := HN0.out
   omega
  ·have g0 : ((r.im : Int) == 0) = false := beq_false_of_ne (by omega)
   have HN0 : Hid (0 < r.im) := Lib.hid (by omega)
   clear hn0
   go_wp2_with fail
   go_loopw [5, 6] (fun v i wr => ∃ q last : Nat, q ≤ r.im ∧ v = .int .u32 (last : Int) ∧ i = .int .i64 (q : Int) ∧ rising 0 (r.il.map IV.t) = rising last ((r.il.map IV.t).drop q) ∧ (r.il.take q).all fr1 = true ∧ Below W.heap.size W wr) (fun _ i _ => r.im - (intOf i).toNat)
   case atStart => exact ⟨0, 0, by omega, rfl, rfl, by rw [List.drop_zero], rfl, HB1.out⟩
   case round =>
    obtain ⟨q, last, hq, rfl, rfl, hrs, hall, hbr⟩ := hrel
    have HRS := Lib.hid hrs
    have HALL := Lib.hid hall
    have HBR2 := Lib.hid hbr
    have y11 := (rcs_cells (HBX.out.below hbr HBX.out.lt)).2.2.2.2.2.2.2.2.2.2.2.1
    have y12 := (rcs_cells (HBX.out.below hbr HBX.out.lt)).2.2.2.2.2.2.2.2.2.2.2.2.1
    have y13 := (rcs_cells (HBX.out.below hbr HBX.out.lt)).2.2.2.2.2.2.2.2.2.2.2.2.2.1
    clear hrs hall hbr
    by_cases hlt : q < r.im
    ·have hin : ((q : Int) < (r.im : Int)) := by omega
     have d1 : decide ((q : Int) < (r.im : Int)) = true := decide_eq_true hin
     have hWi : IntKind.i64.wrap ((q : Int) + 1) = ((q + 1 : Nat) : Int) := by rw [IntWalk.i64_in _ (by omega)]; omega
     have hwq : IntKind.i64.wrap (q : Int) = (q : Int) := IntWalk.i64_in _ (by omega)
     obtain ⟨gx, o, x, hA, hgx, _, hx, hxi, b0, b1, b2, b3, b4⟩ := (HIV.out.keep (Fr.of_below HBR2.out No) fun _ _ hn => hn).at_ hlt
     rw [hA] at y11
     have hsh := HBR.out.p x (List.mem_of_getElem? hx)
     have HX := Lib.hid (And.intro hx (And.intro hxi hsh))
     have HST := Lib.hid (rising_step (l := r.il.map IV.t) (q := q) (last := last) (x := x.t) (by rw [List.getElem?_map, hx]; rfl))
     obtain ⟨wa, hwa⟩ : ∃ wa, wr.alloc (.cells #[.int .u32 (x.t : Int), .int .i64 x.p.k, .int .u64 (x.p.s : Int), .int .u32 (x.p.x : Int), .slice x.p.A x.p.n x.p.c] 53) = wa := ⟨_, rfl⟩
     have hbk : Blk wa wr.heap.size 53 #[.int .u32 (x.t : Int), .int .i64 x.p.k, .int .u64 (x.p.s : Int), .int .u32 (x.p.x : Int), .slice x.p.A x.p.n x.p.c] := by rw [← hwa]; exact Blk.new wr 53 _
     have hba : Below wr.heap.size wr wa := by rw [← hwa]; exact (Below.refl _ _).alloc (Nat.le_refl _) _
     have HBK := Lib.hid hbk
     have HBA2 := Lib.hid (HBR2.out.trans (hba.mono HBR2.out.size))
     have HM := Lib.hid (rmay_any x.p wa (hxi.p.keep (Fr.of_below hba No) (fun _ _ hn => hn) (fun _ _ hn => hn)) ⟨hsh.1, hsh.2.1⟩)
     have e0 := hbk.cell 0
     have e1 := hbk.cell 1
     have e2 := hbk.cell 2
     have e3 := hbk.cell 3
     have e4 := hbk.cell 4
     simp only [List.getElem?_toArray, List.getElem?_cons_zero, List.getElem?_cons_succ] at e0 e1 e2 e3 e4
     unfold PV.agg at HM
     clear hA hgx hx hxi hsh hbk hba
     by_cases hle : x.t ≤ last
     ·have hle1 : ((x.t : Int) ≤ (last : Int)) := by omega
      have d5 : decide ((x.t : Int) ≤ (last : Int)) = true := decide_eq_true hle1
      have HLE := Lib.hid hle
      clear hle
      go_wp2_with fail
      go_ret
      refine ⟨false, rfl, ⟨fun h => absurd h (by decide), fun h => ?_⟩, HBW.out.trans (HBA2.out.mono HBW.out.size)⟩
      have h9 := HFT.out.1 (HIFF.out.1 h).1
      have h8 := h9.2.1
      rw [HRS.out, HST.out, if_pos HLE.out] at h8
      exact absurd h8 (by decide)
     ·have hle1 : ¬ ((x.t : Int) ≤ (last : Int)) := by omega
      have d5 : decide ((x.t : Int) ≤ (last : Int)) = false := decide_eq_false hle1
      have HLE := Lib.hid hle
      clear hle
      by_cases hs0 : x.p.s = 0
      ·have d6 : ((x.p.s : Int) != 0) = false := by rw [bne_eq_false_iff_eq]; omega
       have d6' : ((x.p.s : Int) == 0) = true := by rw [beq_iff_eq]; omega
       have HS0 := Lib.hid hs0
       clear hs0
       go_wp2_with fail
       with_reducible refine HM.out.mono ?_
       obtain ⟨mb, hmb⟩ : ∃ mb, mb = may x.p.k x.p.es := ⟨_, rfl⟩
       rw [← hmb]
       have HMB := Lib.hid hmb
       rintro e w2 ⟨rfl, hb2⟩
       have HB2 := Lib.hid (HBA2.out.trans (hb2.mono HBA2.out.size))
       have e0 := (HBK.out.below hb2 HBK.out.lt).cell 0
       simp only [List.getElem?_toArray, List.getElem?_cons_zero] at e0
       clear hb2 hmb
       cases mb with
       | false =>
         go_wp2_with fail
         go_ret
         refine ⟨false, rfl, ⟨fun h => absurd h (by decide), fun h => ?_⟩, HBW.out.trans (HB2.out.mono HBW.out.size)⟩
         have h9 := HFT.out.1 (HIFF.out.1 h).1
         have h8 := all_no HX.out.1 (f := fr1) (by unfold fr1; rw [← HMB.out]; simp)
         rw [h8] at h9
         exact absurd h9.2.2 (by decide)
       | true =>
         go_wp2_with fail
         go_roundw
         case rel => exact ⟨q + 1, x.t, by omega, rfl, by go_num, by rw [HRS.out, HST.out, if_neg HLE.out], all_yes HX.out.1 HALL.out (by unfold fr1; rw [← HMB.out, HS0.out]; rfl), HB2.out⟩
         case measure => simp [intOf]; omega
      ·have d6 : ((x.p.s : Int) != 0) = true := bne_iff_ne.2 (by omega)
       have HS0 := Lib.hid hs0
       clear hs0
       go_wp2_with fail
       go_ret
       refine ⟨false, rfl, ⟨fun h => absurd h (by decide), fun h => ?_⟩, HBW.out.trans (HBA2.out.mono HBW.out.size)⟩
       have h9 := HFT.out.1 (HIFF.out.1 h).1
       have h8 := all_no HX.out.1 (f := fr1) (by unfold fr1; rw [decide_eq_false HS0.out]; rfl)
       rw [h8] at h9
       exact absurd h9.2.2 (by decide)
    ·have d1 : decide ((q : Int) < (r.im : Int)) = false := decide_eq_false (by omega)
     have d2 : decide (q < r.im) = false := decide_eq_false hlt
     have HG1 : Hid (rising 0 (r.il.map IV.t) = true) := Lib.hid (by rw [HRS.out, rising_end (by rw [List.length_map, HIV.out.1]; omega)])
     have HG2 : Hid (r.il.all fr1 = true) := Lib.hid (by have h7 := HALL.out; rw [List.take_of_length_le (by rw [HIV.out.1]; omega)] at h7; exact h7)
     rw [HZ.out.1] at y12
     rw [HZ.out.2] at y13
     clear hq hlt HALL HRS
     go_wp2_with fail
     obtain ⟨wx, hwx⟩ : ∃ wx, wx = wr := ⟨_, rfl⟩
     subst hwx
     go_loopw [5, 8] (fun v i wr => v = .int .u32 0 ∧ i = .int .i64 0 ∧ wx = wr) (fun _ _ _ => 0)
     case atStart => exact ⟨rfl, rfl, rfl⟩
     case round =>
      obtain ⟨rfl, rfl, rfl⟩ := hrel
      go_wp2_with fail
      go_loopw [5, 9] (fun v i wr => v = .int .u32 0 ∧ i = .int .i64 0 ∧ wx = wr) (fun _ _ _ => 0)
      case atStart => exact ⟨rfl, rfl, rfl⟩
      case round =>
       obtain ⟨rfl, rfl, rfl⟩ := hrel
       obtain ⟨y0, y1, y2, y3, y4, y5, y6, y7, y8, y9, y10, y11, y12, y13, y14⟩ := rcs_cells (HBX.out.below HBR2.out HBX.out.lt)
       rw [HZ.out.1] at y12
       rw [HZ.out.2] at y13
       have hf1 := HF.out _ HBR2.out
       rw [HZ.out.1, HZ.out.2] at hf1
       have HF1 := Lib.hid hf1
       clear hf1
       go_wp2_with fail
       with_reducible refine HF1.out.mono ?_
       unfold New
       rintro e w2 ⟨v2, rfl, ho2, hb2⟩
       obtain ⟨L, hL⟩ : ∃ L, L = fs.length := ⟨_, rfl⟩
       rw [← hL] at ho2 HIFF
       obtain ⟨A2, c2, rfl, _, _, _⟩ := ho2.reads
       have HB2 := Lib.hid (HBR2.out.trans (hb2.mono HBR2.out.size))
       have hLL : L ≤ 1000000000 := by rw [hL]; exact HLL.out
       have hWi : IntKind.i64.wrap ((L : Int) + 3) = (L : Int) + 3 := IntWalk.i64_in _ (by omega)
       clear ho2 hb2 hL hLL
       go_wp2_with fail
       go_ret
       refine ⟨_, rfl, ?_, HBW.out.trans (HB2.out.mono HBW.out.size)⟩
       rw [HIFF.out, HFT.out, decide_eq_true_eq]
       exact ⟨fun h => ⟨⟨HN0.out, HG1.out, HG2.out⟩, HOK.out, by omega⟩, fun h => by have := h.2.2; omega⟩
theorem dmay_any (w : World) (r : RV) (h : r.In w All) (hc : Brief r) : Calls Tryz.prog 14 #[r.agg] w (Tells w (bytesE r.e ≠ [])) := by
 by_cases h1 : r.k < 1
 ·exact dmay_lo w r h1
 by_cases h8 : 8 < r.k
 ·exact dmay_hi w r h8
 by_cases hrt : r.rt = 0
 ·rcases (show (r.k = 1 ∨ r.k = 5 ∨ r.k = 6 ∨ r.k = 7) ∨ r.k = 2 ∨ r.k = 3 ∨ r.k = 4 ∨ r.k = 8 by omega) with e | e | e | e | e
  ·exact dmay_s w r h hc e
  ·exact dmay_2a w r h hc e hrt
  ·exact dmay_3a w r h hc e hrt
  ·exact dmay_4 w r h hc e
  ·exact dmay_8 w r h hc e
 ·rcases (show (r.k = 1 ∨ r.k = 5 ∨ r.k = 6 ∨ r.k = 7) ∨ r.k = 2 ∨ r.k = 3 ∨ r.k = 4 ∨ r.k = 8 by omega) with e | e | e | e | e
  ·exact dmay_s w r h hc e
  ·exact dmay_2b w r h hc e hrt
  ·exact dmay_3b w r h hc e hrt
  ·exact dmay_4 w r h hc e
  ·exact dmay_8 w r h hc e
theorem rencode_any (w : World) (r : RV) (h : r.In w All) (hc : Brief r) : Calls Tryz.prog 12 #[r.agg] w (New w (bytesE r.e)) := rencode_of w r h hc fun W hW => dmay_any W r hW hc
end Go.Proofs.YtdhgbkibbileiaaGreat
