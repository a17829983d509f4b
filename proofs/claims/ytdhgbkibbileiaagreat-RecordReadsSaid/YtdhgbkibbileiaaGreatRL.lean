/-
RL
-/
import Derived.Test.YtdhgbkibbileiaaGreatRK
set_option maxRecDepth 100000
namespace Go.Proofs.YtdhgbkibbileiaaGreat
open Go.RowKit
set_option maxHeartbeats 16000000 in
theorem bytesOf_any (w : World) (r : RV) (h : r.In w All) (hc : Brief r) : Calls Tryz.prog 24 #[r.agg] w (New w (bytesR r)) := by
 obtain ⟨W, hW, hBW, hbx, hsz⟩ := box_rv w r
 obtain ⟨y0, y1, y2, y3, y4, y5, y6, y7, y8, y9, y10, y11, y12, y13, y14⟩ := rcs_cells hbx
 have hrt : r.In w (fun b => b < w.heap.size) := h.mono fun b hlt _ => hlt
 have hrl := h
 have HBW := Lib.hid hBW
 have HBX := Lib.hid hbx
 have HRT := Lib.hid hrt
 have HC := Lib.hid hc
 have HSZ := Lib.hid hsz
 obtain ⟨fb, hfb⟩ : ∃ fb, fb = fitsB r := ⟨_, rfl⟩
 have hfi := fits_any W r (h.keep (Fr.of_below hBW No) fun _ _ hn => hn) (by have := hc.i; omega) hc.l hc.d (fun x hx => ⟨(hc.p x hx).1, (hc.p x hx).2.1⟩)
 rw [← hfb] at hfi
 have HFI := Lib.hid hfi
 have HFB := Lib.hid hfb
 simp only [rcs] at hW
 unfold RV.agg at HFI ⊢
 have HLE := Lib.hid (fun q (hq : q ≤ 10) => encF_le r h hc q hq)
 clear h hc hrt hrl hBW hbx hsz hfb hfi
 go_enter Tryz.func24, Tryz.ntmps24
 go_wp2_with fail
 with_reducible refine HFI.out.mono ?_
 rintro e w1 ⟨rfl, hb1⟩
 have HB1 := Lib.hid hb1
 clear hb1
 cases fb with
 | false =>
   have HNO : Hid (bytesR r = []) := Lib.hid (by unfold bytesR; rw [← HFB.out]; rfl)
   go_wp2_with fail
   go_ret
   exact ⟨_, rfl, by rw [HNO.out]; exact Ow.nil_ _ _, HBW.out.trans (HB1.out.mono HBW.out.size)⟩
 | true =>
   go_wp2_with fail
   with_reducible refine (newWriter_any w1).mono ?_
   rintro e w2 ⟨rfl, hwr2, hb2⟩
   have hwk := wrap_kb r.k
   have HWU := Lib.hid (wu8_any w2 _ (some w1.heap.size) true [] (kb r.k) (kb_lt _) (by simp) hwr2)
   have HB2 := Lib.hid hb2
   have HB12 := Lib.hid (HB1.out.trans (hb2.mono HB1.out.size))
   obtain ⟨y0, y1, y2, y3, y4, y5, y6, y7, y8, y9, y10, y11, y12, y13, y14⟩ := rcs_cells (HBX.out.below HB12.out HBX.out.lt)
   clear hwr2 hb2
   go_wp2_with fail
   with_reducible refine HWU.out.mono ?_
   rintro e w3 ⟨rfl, hwd3⟩
   obtain ⟨hwr3, hf3⟩ := hwd3.get
   have hb3 : Below w1.heap.size w1 w3 := HB2.out.trans (hf3.below (fun b hb => hb) (by have := HB2.out.size; omega))
   obtain ⟨S0, hS0⟩ : ∃ S0 : Nat → Prop, S0 = fun b => w1.heap.size ≤ b ∧ b < w3.heap.size := ⟨_, rfl⟩
   have HS0 := Lib.hid (show ∀ b, S0 b → w1.heap.size ≤ b ∧ b < w3.heap.size by rw [hS0]; exact fun b hb => hb)
   have hwr3' : Wr w3 S0 (some w1.heap.size) true ([] ++ Cd.fixB 1 (kb r.k)) := hwr3.mono fun b hlt hb => by
    rw [hS0]
    refine ⟨?_, hlt⟩
    rcases hb with hb | hb
    ·exact hb
    ·have := HB2.out.size; omega
   rw [List.nil_append] at hwr3'
   have HWR3 := Lib.hid hwr3'
   have HB3 := Lib.hid hb3
   have hbW3 : Below W.heap.size W w3 := HB1.out.trans (hb3.mono HB1.out.size)
   have HBW3 := Lib.hid hbW3
   have hs1 := HB1.out.size
   have hgrs := HSZ.out
   have HFS := Lib.hid (fieldsW w3 S0 (fun b => b < w.heap.size) w1.heap.size w.heap.size r ((HRT.out.keep (Fr.of_below HBW.out No) fun _ _ hn => hn).keep (Fr.of_below hbW3 No) fun _ _ hn => hn) (HBX.out.below hbW3 HBX.out.lt) (fun b hb => (HS0.out b hb).2) (fun hb => by have := (HS0.out _ hb).1; omega) (fun b hb hs => by have := (HS0.out _ hs).1; omega) HC.out)
   clear hwd3 hwr3 hf3 hb3 hwr3' hS0 hbW3 hs1 hgrs
   go_wp2_with fail
   with_reducible refine HFS.out.mono ?_
   rintro e w4 ⟨gf, xs, rfl, hb4, hgf, hbf, hxl, hxc, hxs⟩
   have HGF := Lib.hid (show w3.heap.size ≤ gf ∧ (∀ b, S0 b → b < w3.heap.size) from ⟨hgf, fun b hb => (HS0.out b hb).2⟩)
   have HBF := Lib.hid hbf
   have HXL := Lib.hid hxl
   have HXC := Lib.hid hxc
   have HXS := Lib.hid hxs
   have hwr4 := HWR3.out.keep (Fr.of_below hb4 No) fun _ _ hn => hn
   have HG4 : Hid (WG w4 S0 (KK w4 S0) w1.heap.size w4 (Cd.fixB 1 (kb r.k))) := Lib.hid (WG.start hwr4 fun b hb => hb)
   have HBB := Lib.hid (HBW3.out.trans (hb4.mono HBW3.out.size))
   clear hb4 hgf hbf hxl hxc hxs hwr4
   go_wp2_with fail
   go_loopw [19] (fun i wr => ∃ q : Nat, q ≤ 10 ∧ i = .int .i64 (q : Int) ∧ (∀ i y, i < q → (fm r)[i]? = some y → (y.1 || y.2.1) = true) ∧ WG w4 S0 (KK w4 S0) w1.heap.size wr (Cd.fixB 1 (kb r.k) ++ ((fm r).take q).flatMap encX)) (fun i _ => 10 - (intOf i).toNat)
   case atStart => exact ⟨0, by omega, rfl, fun i y hi => by omega, by simpa using HG4.out⟩
   case round =>
    obtain ⟨q, hq, rfl, hok, hwg⟩ := hrel
    by_cases hlt : q < 10
    ·obtain ⟨x, hx⟩ : ∃ x, xs[q]? = some x := ⟨xs[q]'(by have := HXL.out; omega), List.getElem?_eq_getElem _⟩
     obtain ⟨m, hm, hu, hz, hwf⟩ := HXS.out q x hx
     have hcs := HXC.out x (List.mem_of_getElem? hx)
     obtain ⟨c0, c1, c2, c3⟩ := fv_cells (HBF.out.keep hwg.2.2 (fun hs => by have h9 := HGF.out.2 _ hs; have := HGF.out.1; omega)) hx
     have HM := Lib.hid hm
     have HUM := Lib.hid hu
     have HZM := Lib.hid hz
     obtain ⟨u, z, f, cs, gg, gs⟩ := x
     simp only at c0 c1 c2 c3 hcs hwf HUM HZM
     have hWi : IntKind.i64.wrap ((q : Int) + 1) = ((q + 1 : Nat) : Int) := by rw [IntWalk.i64_in _ (by omega)]; omega
     have hin : ((q : Int) < 10) := by omega
     have hdq : decide ((q : Int) < 10) = true := decide_eq_true (by omega)
     have hwq : IntKind.i64.wrap (q : Int) = (q : Int) := IntWalk.i64_in _ (by omega)
     have HOKQ := Lib.hid hok
     have hle : (Cd.fixB 1 (kb r.k) ++ ((fm r).take q).flatMap encX).length ≤ 1000000000 := HLE.out q (by omega)
     rcases hcs with ⟨b, rfl, rfl | rfl⟩ | ⟨b, b', rfl, rfl | rfl | rfl⟩
     ·obtain ⟨wa, hwa⟩ : ∃ wa, wr.alloc (.cells #[.bool u, .bool z, .func (.func 105) #[] #[.pointer (some ⟨b, 0, none⟩)], .func (.func gg) #[] gs.toArray] 87) = wa := ⟨_, rfl⟩
      have hbk : Blk wa wr.heap.size 87 #[.bool u, .bool z, .func (.func 105) #[] #[.pointer (some ⟨b, 0, none⟩)], .func (.func gg) #[] gs.toArray] := by rw [← hwa]; exact Blk.new wr 87 _
      have hga : WG w4 S0 (KK w4 S0) w1.heap.size wa (Cd.fixB 1 (kb r.k) ++ ((fm r).take q).flatMap encX) := by rw [← hwa]; exact (hwg.alloc _).less fun b hb => Or.inl hb
      have HGA := Lib.hid hga
      have d0 := hbk.cell 0
      have d1 := hbk.cell 1
      have d2 := hbk.cell 2
      have d3 := hbk.cell 3
      simp only [List.getElem?_toArray, List.getElem?_cons_zero, List.getElem?_cons_succ] at d0 d1 d2 d3
      have hcall := hwf wa _ hga hle
      have HCL : Hid (Calls Tryz.prog 105 #[ptr (some w1.heap.size), .pointer (some ⟨b, 0, none⟩)] wa fun e w' => e = .returned (.tuple #[]) ∧ WG w4 S0 (KK w4 S0) w1.heap.size w' (Cd.fixB 1 (kb r.k) ++ ((fm r).take q).flatMap encX ++ m.2.2)) := Lib.hid hcall
      clear hwg hok hx hm hu hz hwf hle hbk hga hcall
      cases u with
      | true =>
        go_wp2_with fail
        with_reducible refine HCL.out.mono ?_
        rintro e w5 ⟨rfl, hg5⟩
        have HG5 := Lib.hid hg5
        clear hg5
        go_wp2_with fail
        go_roundw
        case rel =>
         refine ⟨q + 1, by omega, by go_num, ?_, ?_⟩
         ·intro i y hi hy
          rcases Nat.lt_or_ge i q with h9 | h9
          ·exact HOKQ.out i y h9 hy
          ·obtain rfl : i = q := by omega
           rw [HM.out] at hy
           injection hy with hy
           rw [← hy, ← HUM.out]
           rfl
         ·have h9 := HG5.out
          rw [flat_take encX HM.out, ← List.append_assoc]
          rw [show encX m = m.2.2 by unfold encX; rw [← HUM.out]; rfl]
          exact h9
        case measure => simp [intOf]; omega
      | false =>
        cases z with
        | true =>
          go_wp2_with fail
          go_roundw
          case rel =>
           refine ⟨q + 1, by omega, by go_num, ?_, ?_⟩
           ·intro i y hi hy
            rcases Nat.lt_or_ge i q with h9 | h9
            ·exact HOKQ.out i y h9 hy
            ·obtain rfl : i = q := by omega
             rw [HM.out] at hy
             injection hy with hy
             rw [← hy, ← HUM.out, ← HZM.out]
             rfl
           ·rw [flat_take encX HM.out]
            rw [show encX m = [] by unfold encX; rw [← HUM.out]; rfl, List.append_nil]
            exact HGA.out
          case measure => simp [intOf]; omega
        | false =>
          have HNO : Hid (bytesR r = []) := Lib.hid (by
           have h9 : okF r = false := by
            unfold okF
            rw [List.all_eq_false]
            exact ⟨m, List.mem_of_getElem? HM.out, by rw [← HUM.out, ← HZM.out]; simp⟩
           unfold bytesR
           rw [h9]
           simp)
          go_wp2_with fail
          go_ret
          exact ⟨_, rfl, by rw [HNO.out]; exact Ow.nil_ _ _, HBW.out.trans ((HBB.out.trans (HGA.out.2.2.below (fun b hb => by have h9 := HS0.out b hb; have := HB1.out.size; omega) (by have := HB1.out.size; have := HBB.out.size; omega))).mono HBW.out.size)⟩
     ·obtain ⟨wa, hwa⟩ : ∃ wa, wr.alloc (.cells #[.bool u, .bool z, .func (.func 77) #[] #[.pointer (some ⟨b, 0, none⟩)], .func (.func gg) #[] gs.toArray] 87) = wa := ⟨_, rfl⟩
      have hbk : Blk wa wr.heap.size 87 #[.bool u, .bool z, .func (.func 77) #[] #[.pointer (some ⟨b, 0, none⟩)], .func (.func gg) #[] gs.toArray] := by rw [← hwa]; exact Blk.new wr 87 _
      have hga : WG w4 S0 (KK w4 S0) w1.heap.size wa (Cd.fixB 1 (kb r.k) ++ ((fm r).take q).flatMap encX) := by rw [← hwa]; exact (hwg.alloc _).less fun b hb => Or.inl hb
      have HGA := Lib.hid hga
      have d0 := hbk.cell 0
      have d1 := hbk.cell 1
      have d2 := hbk.cell 2
      have d3 := hbk.cell 3
      simp only [List.getElem?_toArray, List.getElem?_cons_zero, List.getElem?_cons_succ] at d0 d1 d2 d3
      have hcall := hwf wa _ hga hle
      have HCL : Hid (Calls Tryz.prog 77 #[ptr (some w1.heap.size), .pointer (some ⟨b, 0, none⟩)] wa fun e w' => e = .returned (.tuple #[]) ∧ WG w4 S0 (KK w4 S0) w1.heap.size w' (Cd.fixB 1 (kb r.k) ++ ((fm r).take q).flatMap encX ++ m.2.2)) := Lib.hid hcall
      clear hwg hok hx hm hu hz hwf hle hbk hga hcall
      cases u with
      | true =>
        go_wp2_with fail
        with_reducible refine HCL.out.mono ?_
        rintro e w5 ⟨rfl, hg5⟩
        have HG5 := Lib.hid hg5
        clear hg5
        go_wp2_with fail
        go_roundw
        case rel =>
         refine ⟨q + 1, by omega, by go_num, ?_, ?_⟩
         ·intro i y hi hy
          rcases Nat.lt_or_ge i q with h9 | h9
          ·exact HOKQ.out i y h9 hy
          ·obtain rfl : i = q := by omega
           rw [HM.out] at hy
           injection hy with hy
           rw [← hy, ← HUM.out]
           rfl
         ·have h9 := HG5.out
          rw [flat_take encX HM.out, ← List.append_assoc]
          rw [show encX m = m.2.2 by unfold encX; rw [← HUM.out]; rfl]
          exact h9
        case measure => simp [intOf]; omega
      | false =>
        cases z with
        | true =>
          go_wp2_with fail
          go_roundw
          case rel =>
           refine ⟨q + 1, by omega, by go_num, ?_, ?_⟩
           ·intro i y hi hy
            rcases Nat.lt_or_ge i q with h9 | h9
            ·exact HOKQ.out i y h9 hy
            ·obtain rfl : i = q := by omega
             rw [HM.out] at hy
             injection hy with hy
             rw [← hy, ← HUM.out, ← HZM.out]
             rfl
           ·rw [flat_take encX HM.out]
            rw [show encX m = [] by unfold encX; rw [← HUM.out]; rfl, List.append_nil]
            exact HGA.out
          case measure => simp [intOf]; omega
        | false =>
          have HNO : Hid (bytesR r = []) := Lib.hid (by
           have h9 : okF r = false := by
            unfold okF
            rw [List.all_eq_false]
            exact ⟨m, List.mem_of_getElem? HM.out, by rw [← HUM.out, ← HZM.out]; simp⟩
           unfold bytesR
           rw [h9]
           simp)
          go_wp2_with fail
          go_ret
          exact ⟨_, rfl, by rw [HNO.out]; exact Ow.nil_ _ _, HBW.out.trans ((HBB.out.trans (HGA.out.2.2.below (fun b hb => by have h9 := HS0.out b hb; have := HB1.out.size; omega) (by have := HB1.out.size; have := HBB.out.size; omega))).mono HBW.out.size)⟩
     ·obtain ⟨wa, hwa⟩ : ∃ wa, wr.alloc (.cells #[.bool u, .bool z, .func (.func 111) #[] #[.pointer (some ⟨b, 0, none⟩), .pointer (some ⟨b', 0, none⟩)], .func (.func gg) #[] gs.toArray] 87) = wa := ⟨_, rfl⟩
      have hbk : Blk wa wr.heap.size 87 #[.bool u, .bool z, .func (.func 111) #[] #[.pointer (some ⟨b, 0, none⟩), .pointer (some ⟨b', 0, none⟩)], .func (.func gg) #[] gs.toArray] := by rw [← hwa]; exact Blk.new wr 87 _
      have hga : WG w4 S0 (KK w4 S0) w1.heap.size wa (Cd.fixB 1 (kb r.k) ++ ((fm r).take q).flatMap encX) := by rw [← hwa]; exact (hwg.alloc _).less fun b hb => Or.inl hb
      have HGA := Lib.hid hga
      have d0 := hbk.cell 0
      have d1 := hbk.cell 1
      have d2 := hbk.cell 2
      have d3 := hbk.cell 3
      simp only [List.getElem?_toArray, List.getElem?_cons_zero, List.getElem?_cons_succ] at d0 d1 d2 d3
      have hcall := hwf wa _ hga hle
      have HCL : Hid (Calls Tryz.prog 111 #[ptr (some w1.heap.size), .pointer (some ⟨b, 0, none⟩), .pointer (some ⟨b', 0, none⟩)] wa fun e w' => e = .returned (.tuple #[]) ∧ WG w4 S0 (KK w4 S0) w1.heap.size w' (Cd.fixB 1 (kb r.k) ++ ((fm r).take q).flatMap encX ++ m.2.2)) := Lib.hid hcall
      clear hwg hok hx hm hu hz hwf hle hbk hga hcall
      cases u with
      | true =>
        go_wp2_with fail
        with_reducible refine HCL.out.mono ?_
        rintro e w5 ⟨rfl, hg5⟩
        have HG5 := Lib.hid hg5
        clear hg5
        go_wp2_with fail
        go_roundw
        case rel =>
         refine ⟨q + 1, by omega, by go_num, ?_, ?_⟩
         ·intro i y hi hy
          rcases Nat.lt_or_ge i q with h9 | h9
          ·exact HOKQ.out i y h9 hy
          ·obtain rfl : i = q := by omega
           rw [HM.out] at hy
           injection hy with hy
           rw [← hy, ← HUM.out]
           rfl
         ·have h9 := HG5.out
          rw [flat_take encX HM.out, ← List.append_assoc]
          rw [show encX m = m.2.2 by unfold encX; rw [← HUM.out]; rfl]
          exact h9
        case measure => simp [intOf]; omega
      | false =>
        cases z with
        | true =>
          go_wp2_with fail
          go_roundw
          case rel =>
           refine ⟨q + 1, by omega, by go_num, ?_, ?_⟩
           ·intro i y hi hy
            rcases Nat.lt_or_ge i q with h9 | h9
            ·exact HOKQ.out i y h9 hy
            ·obtain rfl : i = q := by omega
             rw [HM.out] at hy
             injection hy with hy
             rw [← hy, ← HUM.out, ← HZM.out]
             rfl
           ·rw [flat_take encX HM.out]
            rw [show encX m = [] by unfold encX; rw [← HUM.out]; rfl, List.append_nil]
            exact HGA.out
          case measure => simp [intOf]; omega
        | false =>
          have HNO : Hid (bytesR r = []) := Lib.hid (by
           have h9 : okF r = false := by
            unfold okF
            rw [List.all_eq_false]
            exact ⟨m, List.mem_of_getElem? HM.out, by rw [← HUM.out, ← HZM.out]; simp⟩
           unfold bytesR
           rw [h9]
           simp)
          go_wp2_with fail
          go_ret
          exact ⟨_, rfl, by rw [HNO.out]; exact Ow.nil_ _ _, HBW.out.trans ((HBB.out.trans (HGA.out.2.2.below (fun b hb => by have h9 := HS0.out b hb; have := HB1.out.size; omega) (by have := HB1.out.size; have := HBB.out.size; omega))).mono HBW.out.size)⟩
     ·obtain ⟨wa, hwa⟩ : ∃ wa, wr.alloc (.cells #[.bool u, .bool z, .func (.func 119) #[] #[.pointer (some ⟨b, 0, none⟩), .pointer (some ⟨b', 0, none⟩)], .func (.func gg) #[] gs.toArray] 87) = wa := ⟨_, rfl⟩
      have hbk : Blk wa wr.heap.size 87 #[.bool u, .bool z, .func (.func 119) #[] #[.pointer (some ⟨b, 0, none⟩), .pointer (some ⟨b', 0, none⟩)], .func (.func gg) #[] gs.toArray] := by rw [← hwa]; exact Blk.new wr 87 _
      have hga : WG w4 S0 (KK w4 S0) w1.heap.size wa (Cd.fixB 1 (kb r.k) ++ ((fm r).take q).flatMap encX) := by rw [← hwa]; exact (hwg.alloc _).less fun b hb => Or.inl hb
      have HGA := Lib.hid hga
      have d0 := hbk.cell 0
      have d1 := hbk.cell 1
      have d2 := hbk.cell 2
      have d3 := hbk.cell 3
      simp only [List.getElem?_toArray, List.getElem?_cons_zero, List.getElem?_cons_succ] at d0 d1 d2 d3
      have hcall := hwf wa _ hga hle
      have HCL : Hid (Calls Tryz.prog 119 #[ptr (some w1.heap.size), .pointer (some ⟨b, 0, none⟩), .pointer (some ⟨b', 0, none⟩)] wa fun e w' => e = .returned (.tuple #[]) ∧ WG w4 S0 (KK w4 S0) w1.heap.size w' (Cd.fixB 1 (kb r.k) ++ ((fm r).take q).flatMap encX ++ m.2.2)) := Lib.hid hcall
      clear hwg hok hx hm hu hz hwf hle hbk hga hcall
      cases u with
      | true =>
        go_wp2_with fail
        with_reducible refine HCL.out.mono ?_
        rintro e w5 ⟨rfl, hg5⟩
        have HG5 := Lib.hid hg5
        clear hg5
        go_wp2_with fail
        go_roundw
        case rel =>
         refine ⟨q + 1, by omega, by go_num, ?_, ?_⟩
         ·intro i y hi hy
          rcases Nat.lt_or_ge i q with h9 | h9
          ·exact HOKQ.out i y h9 hy
          ·obtain rfl : i = q := by omega
           rw [HM.out] at hy
           injection hy with hy
           rw [← hy, ← HUM.out]
           rfl
         ·have h9 := HG5.out
          rw [flat_take encX HM.out, ← List.append_assoc]
          rw [show encX m = m.2.2 by unfold encX; rw [← HUM.out]; rfl]
          exact h9
        case measure => simp [intOf]; omega
      | false =>
        cases z with
        | true =>
          go_wp2_with fail
          go_roundw
          case rel =>
           refine ⟨q + 1, by omega, by go_num, ?_, ?_⟩
           ·intro i y hi hy
            rcases Nat.lt_or_ge i q with h9 | h9
            ·exact HOKQ.out i y h9 hy
            ·obtain rfl : i = q := by omega
             rw [HM.out] at hy
             injection hy with hy
             rw [← hy, ← HUM.out, ← HZM.out]
             rfl
           ·rw [flat_take encX HM.out]
            rw [show encX m = [] by unfold encX; rw [← HUM.out]; rfl, List.append_nil]
            exact HGA.out
          case measure => simp [intOf]; omega
        | false =>
          have HNO : Hid (bytesR r = []) := Lib.hid (by
           have h9 : okF r = false := by
            unfold okF
            rw [List.all_eq_false]
            exact ⟨m, List.mem_of_getElem? HM.out, by rw [← HUM.out, ← HZM.out]; simp⟩
           unfold bytesR
           rw [h9]
           simp)
          go_wp2_with fail
          go_ret
          exact ⟨_, rfl, by rw [HNO.out]; exact Ow.nil_ _ _, HBW.out.trans ((HBB.out.trans (HGA.out.2.2.below (fun b hb => by have h9 := HS0.out b hb; have := HB1.out.size; omega) (by have := HB1.out.size; have := HBB.out.size; omega))).mono HBW.out.size)⟩
     ·obtain ⟨wa, hwa⟩ : ∃ wa, wr.alloc (.cells #[.bool u, .bool z, .func (.func 123) #[] #[.pointer (some ⟨b, 0, none⟩), .pointer (some ⟨b', 0, none⟩)], .func (.func gg) #[] gs.toArray] 87) = wa := ⟨_, rfl⟩
      have hbk : Blk wa wr.heap.size 87 #[.bool u, .bool z, .func (.func 123) #[] #[.pointer (some ⟨b, 0, none⟩), .pointer (some ⟨b', 0, none⟩)], .func (.func gg) #[] gs.toArray] := by rw [← hwa]; exact Blk.new wr 87 _
      have hga : WG w4 S0 (KK w4 S0) w1.heap.size wa (Cd.fixB 1 (kb r.k) ++ ((fm r).take q).flatMap encX) := by rw [← hwa]; exact (hwg.alloc _).less fun b hb => Or.inl hb
      have HGA := Lib.hid hga
      have d0 := hbk.cell 0
      have d1 := hbk.cell 1
      have d2 := hbk.cell 2
      have d3 := hbk.cell 3
      simp only [List.getElem?_toArray, List.getElem?_cons_zero, List.getElem?_cons_succ] at d0 d1 d2 d3
      have hcall := hwf wa _ hga hle
      have HCL : Hid (Calls Tryz.prog 123 #[ptr (some w1.heap.size), .pointer (some ⟨b, 0, none⟩), .pointer (some ⟨b', 0, none⟩)] wa fun e w' => e = .returned (.tuple #[]) ∧ WG w4 S0 (KK w4 S0) w1.heap.size w' (Cd.fixB 1 (kb r.k) ++ ((fm r).take q).flatMap encX ++ m.2.2)) := Lib.hid hcall
      clear hwg hok hx hm hu hz hwf hle hbk hga hcall
      cases u with
      | true =>
        go_wp2_with fail
        with_reducible refine HCL.out.mono ?_
        rintro e w5 ⟨rfl, hg5⟩
        have HG5 := Lib.hid hg5
        clear hg5
        go_wp2_with fail
        go_roundw
        case rel =>
         refine ⟨q + 1, by omega, by go_num, ?_, ?_⟩
         ·intro i y hi hy
          rcases Nat.lt_or_ge i q with h9 | h9
          ·exact HOKQ.out i y h9 hy
          ·obtain rfl : i = q := by omega
           rw [HM.out] at hy
           injection hy with hy
           rw [← hy, ← HUM.out]
           rfl
         ·have h9 := HG5.out
          rw [flat_take encX HM.out, ← List.append_assoc]
          rw [show encX m = m.2.2 by unfold encX; rw [← HUM.out]; rfl]
          exact h9
        case measure => simp [intOf]; omega
      | false =>
        cases z with
        | true =>
          go_wp2_with fail
          go_roundw
          case rel =>
           refine ⟨q + 1, by omega, by go_num, ?_, ?_⟩
           ·intro i y hi hy
            rcases Nat.lt_or_ge i q with h9 | h9
            ·exact HOKQ.out i y h9 hy
            ·obtain rfl : i = q := by omega
             rw [HM.out] at hy
             injection hy with hy
             rw [← hy, ← HUM.out, ← HZM.out]
             rfl
           ·rw [flat_take encX HM.out]
            rw [show encX m = [] by unfold encX; rw [← HUM.out]; rfl, List.append_nil]
            exact HGA.out
          case measure => simp [intOf]; omega
        | false =>
          have HNO : Hid (bytesR r = []) := Lib.hid (by
           have h9 : okF r = false := by
            unfold okF
            rw [List.all_eq_false]
            exact ⟨m, List.mem_of_getElem? HM.out, by rw [← HUM.out, ← HZM.out]; simp⟩
           unfold bytesR
           rw [h9]
           simp)
          go_wp2_with fail
          go_ret
          exact ⟨_, rfl, by rw [HNO.out]; exact Ow.nil_ _ _, HBW.out.trans ((HBB.out.trans (HGA.out.2.2.below (fun b hb => by have h9 := HS0.out b hb; have := HB1.out.size; omega) (by have := HB1.out.size; have := HBB.out.size; omega))).mono HBW.out.size)⟩
    ·have hdq : decide ((q : Int) < 10) = false := decide_eq_false (by omega)
     have hq10 : q = 10 := by omega
     have hOK : okF r = true := by
      unfold okF
      rw [List.all_eq_true]
      intro y hy
      obtain ⟨i, hi, rfl⟩ := List.getElem_of_mem hy
      exact hok i _ (by rw [hq10]; exact hi) (List.getElem?_eq_getElem hi)
     have HOKR := Lib.hid hOK
     have hgw : WG w4 S0 (KK w4 S0) w1.heap.size wr (encF r) := by
      have h9 := hwg
      rw [hq10, List.take_of_length_le (Nat.le_of_eq (fm_len r))] at h9
      exact h9
     have HGW := Lib.hid hgw
     have hL9 : (encF r).length ≤ 1000000000 := by
      have h9 := HLE.out 10 (by omega)
      rw [List.take_of_length_le (Nat.le_of_eq (fm_len r))] at h9
      exact h9
     have hBr : Below W.heap.size W wr := HBB.out.trans (hgw.2.2.below (fun b hb => by have h9 := HS0.out b hb; have := HB1.out.size; omega) (by have := HB1.out.size; have := HBB.out.size; omega))
     have HBR := Lib.hid hBr
     obtain ⟨⟨S1, hw1, hs1⟩, hk1, hf1⟩ := hgw
     have HWL := Lib.hid (wlen_any wr S1 (some w1.heap.size) true (encF r) hw1)
     have HW1 := Lib.hid hw1
     have HS1 := Lib.hid (show ∀ b, S1 b → b < wr.heap.size from fun b hb => (hs1 b hb).1.2)
     obtain ⟨L, hL⟩ : ∃ L, L = (encF r).length := ⟨_, rfl⟩
     rw [← hL] at HWL hL9
     have HLL := Lib.hid hL
     obtain ⟨Z, hZ⟩ : ∃ Z, Z = L + 2 := ⟨_, rfl⟩
     have hwz : IntKind.i64.wrap (2 + (L : Int)) = (Z : Int) := by rw [IntWalk.i64_in _ (by omega)]; omega
     have HZL := Lib.hid hZ
     clear hok hwg hq10 hOK hBr hw1 hs1 hk1 hf1 hL hZ
     go_wp2_with fail
     with_reducible refine HWL.out.mono ?_
     rintro e wl ⟨rfl, rfl⟩
     by_cases hbig : 16384 < Z
     ·have db : decide ((Z : Int) > 16384) = true := decide_eq_true (by omega)
      have db2 : decide (16384 < Z) = true := decide_eq_true hbig
      have HNO : Hid (bytesR r = []) := Lib.hid (by
       have h9 : decide ((encF r).length + 2 ≤ 16384) = false := decide_eq_false (by rw [← HLL.out, ← HZL.out]; omega)
       unfold bytesR
       rw [h9]
       simp)
      clear hbig
      go_wp2_with fail
      go_ret
      exact ⟨_, rfl, by rw [HNO.out]; exact Ow.nil_ _ _, HBW.out.trans (HBR.out.mono HBW.out.size)⟩
     ·have db : decide ((Z : Int) > 16384) = false := decide_eq_false (by omega)
      have db2 : decide (16384 < Z) = false := decide_eq_false hbig
      have HYES : Hid (bytesR r = Cd.fixB 2 Z ++ encF r) := Lib.hid (by
       have h9 : decide ((encF r).length + 2 ≤ 16384) = true := decide_eq_true (by rw [← HLL.out, ← HZL.out]; omega)
       unfold bytesR
       rw [h9, ← HFB.out, HOKR.out, ← HLL.out, ← HZL.out]
       rfl)
      have hw16 : IntKind.u16.wrap (Z : Int) = (Z : Int) := by rw [IntKind.wrap_u16]; omega
      have HZ9 := Lib.hid (show Z ≤ 16384 by omega)
      clear hbig
      go_wp2_with fail
      with_reducible refine (newWriter_any _).mono ?_
      rintro e w5 ⟨rfl, hwr5, hb5⟩
      have HB5 := Lib.hid hb5
      have HWU2 := Lib.hid (wu16_any w5 _ (some wr.heap.size) true [] Z (by simp) hwr5)
      clear hwr5 hb5
      go_wp2_with fail
      with_reducible refine HWU2.out.mono ?_
      rintro e w6 ⟨rfl, hwd6⟩
      obtain ⟨hwr6, hf6⟩ := hwd6.get
      rw [List.nil_append] at hwr6
      have hb6 : Below wr.heap.size wr w6 := HB5.out.trans (hf6.below (fun b hb => hb) (by have := HB5.out.size; omega))
      have HB6 := Lib.hid hb6
      have HWR6 := Lib.hid hwr6.tight
      have hwo := HW1.out.keep (Fr.of_below hb6 No) fun _ _ hn => hn
      have HBY := Lib.hid (wbytes_any w6 S1 (some w1.heap.size) true (encF r) hwo (by rw [← HLL.out]; omega))
      clear hwd6 hwr6 hf6 hb6 hwo
      go_wp2_with fail
      with_reducible refine HBY.out.mono ?_
      rintro e w7 ⟨v7, rfl, hnew7, hb7⟩
      obtain ⟨A7, c7, rfl, hmc7, _, hr7⟩ := hnew7.reads
      have HB7 := Lib.hid hb7
      have hwr7 := HWR6.out.keep (Fr.of_below hb7 No) fun _ _ hn => hn
      have HRW := Lib.hid (wraw_any w7 _ _ (some wr.heap.size) true (Cd.fixB 2 Z) A7 _ c7 (encF r) hr7 (by rw [← HLL.out]; omega) (by rw [Cd.fixB_len]; omega) hwr7)
      rw [← HLL.out] at HRW ⊢
      clear hnew7 hb7 hmc7 hr7 hwr7
      go_wp2_with fail
      with_reducible refine HRW.out.mono ?_
      rintro e w8 ⟨rfl, hwd8⟩
      obtain ⟨hwr8, hf8⟩ := hwd8.get
      have HB8 : Hid (Below wr.heap.size wr w8) := Lib.hid ((HB6.out.trans (HB7.out.mono HB6.out.size)).trans (hf8.below (fun b hb => by
       rcases hb.1 with h | h
       ·exact h
       ·have := HB5.out.size; omega) (by have := HB6.out.size; have := HB7.out.size; omega)))
      have HBY2 := Lib.hid (wbytes_any w8 _ (some wr.heap.size) true (Cd.fixB 2 Z ++ encF r) hwr8 (by rw [List.length_append, Cd.fixB_len, ← HLL.out]; omega))
      clear hwd8 hwr8 hf8
      go_wp2_with fail
      with_reducible refine HBY2.out.mono ?_
      rintro e w9 ⟨v9, rfl, hnew9, hb9⟩
      have HN9 := Lib.hid hnew9
      have HB9 := Lib.hid (HB8.out.trans (hb9.mono HB8.out.size))
      clear hnew9 hb9
      go_wp2_with fail
      go_ret
      refine ⟨v9, rfl, ?_, HBW.out.trans ((HBR.out.trans (HB9.out.mono HBR.out.size)).mono HBW.out.size)⟩
      rw [HYES.out]
      exact HN9.out.mono fun b _ hb => by
       have := HB8.out.size
       have := HBR.out.size
       have := HBW.out.size
       omega
end Go.Proofs.YtdhgbkibbileiaaGreat
