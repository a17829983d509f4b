/-
TB
-/
import Derived.Test.YtdhgbkibbileiaaGreatTA
set_option maxRecDepth 100000
namespace Go.Proofs.YtdhgbkibbileiaaGreat
open Go.RowKit
def fieldsE (r : RE) : List Nat := (fmE r).flatMap encX
theorem Own.cells {W wr : World} {v : Value} {l : List Nat} (h : Own W wr v l) {g : Nat} {t : TypeId} {cs : Array Value} (hb : Blk W g t cs) : Blk wr g t cs := hb.below h.2 hb.lt
theorem RB.byte (w : World) (x : Nat) (hx : x < 256) : RB (w.alloc (.cells #[.int .u8 (x : Int)] 5)) (fun b => w.heap.size ≤ b) (some ⟨w.heap.size, 0, none⟩) 1 [x] := by
 have hb := Blk.new w 5 #[.int .u8 (x : Int)]
 refine ⟨rfl, fun y hy => by rw [List.mem_singleton] at hy; subst hy; exact hx, fun _ => ⟨_, rfl, hb.lt, Nat.le_refl _, fun j hj => ?_⟩⟩
 have k0 := hb.cell 0
 simp only [List.getElem?_toArray, List.getElem?_cons_zero] at k0
 rw [add_head]
 obtain rfl : j = 0 := by omega
 exact k0
theorem fix1 (k : Int) : Cd.fixB 1 (kb k) = [kb k] := by
 have := kb_lt k
 simp only [Cd.fixB]
 rw [Nat.mod_eq_of_lt this]
set_option maxHeartbeats 8000000 in
theorem rfields_1 (w : World) (r : RV) (h : r.In w All) (hc : r.o.m ≤ 2000) (hk : r.k = 1) : Calls Tryz.prog 25 #[r.agg] w (New w (fieldsE r.e)) := by
 obtain ⟨W, hW, hBW, hbx, hsz⟩ := box_rv w r
 obtain ⟨y0, y1, y2, y3, y4, y5, y6, y7, y8, y9, y10, y11, y12, y13, y14⟩ := rcs_cells hbx
 have hh := h.keep (Fr.of_below hBW No) fun _ _ hn => hn
 have HBX := Lib.hid hbx
 have HBW := Lib.hid hBW
 have HOB := Lib.hid hh.o.b
 have c4 : (r.k == 4) = false := by rw [hk]; rfl
 have n4 : (r.k != 4) = true := by rw [hk]; rfl
 have c8 : (r.k == 8) = false := by rw [hk]; rfl
 have n8 : (r.k != 8) = true := by rw [hk]; rfl
 have c1 : (r.k == 1) = true := by rw [hk]; rfl
 have n1 : (r.k != 1) = false := by rw [hk]; rfl
 have c3 : (r.k == 3) = false := by rw [hk]; rfl
 have n3 : (r.k != 3) = true := by rw [hk]; rfl
 have c2 : (r.k == 2) = false := by rw [hk]; rfl
 have n2 : (r.k != 2) = true := by rw [hk]; rfl
 have hwt : IntKind.u64.wrap (r.t : Int) = (r.t : Int) := wrap_n (by have := h.t; omega)
 have hwp : IntKind.u64.wrap (r.pg : Int) = (r.pg : Int) := wrap_n (by have := h.pg; omega)
 have hwr : IntKind.u64.wrap (r.rt : Int) = (r.rt : Int) := wrap_n (by have := h.rt; omega)
 have hwo : IntKind.u64.wrap (r.o.t : Int) = (r.o.t : Int) := wrap_n (by have := h.o.t; omega)
 obtain ⟨us, hus⟩ : ∃ us, us = ub r.o.s := ⟨_, rfl⟩
 have hws : IntKind.u64.wrap r.o.s = (us : Int) := by rw [hus, IntKind.wrap_u64]; unfold ub; omega
 obtain ⟨kk, hkk⟩ : ∃ kk, kk = kb r.o.k := ⟨_, rfl⟩
 have hwk : IntKind.u8.wrap r.o.k = (kk : Int) := by rw [hkk]; exact wrap_kb _
 have HKK : Hid (kk < 256) := Lib.hid (by rw [hkk]; exact kb_lt _)
 have HUS : Hid (us < 18446744073709551616) := Lib.hid (by rw [hus]; exact ub_lt _)
 have HLS := Lib.hid (And.intro hus hkk)
 have HTL : Hid ((strOf r.o.d).size ≤ 1099511627776) := Lib.hid (by rw [strOf_size]; have := h.o.b.len; omega)
 have hbs : bs (strOf r.o.d) = r.o.d := bs_strOf r.o.d h.o.b.2.1
 have HBS := Lib.hid hbs
 have HTL2 : Hid ((Cd.tx (bs (strOf r.o.d))).length ≤ 3000) := Lib.hid (by
  rw [hbs]
  have h1 := h.o.b.len
  have h2 := vi_len r.o.d.length (by omega)
  unfold Cd.tx
  rw [List.length_append]
  omega)
 have HT : Hid (r.t < 18446744073709551616 ∧ r.a < 18446744073709551616 ∧ r.b < 18446744073709551616 ∧ r.pg < 18446744073709551616 ∧ r.rt < 18446744073709551616 ∧ r.o.t < 18446744073709551616) := Lib.hid ⟨by have := h.t; omega, h.a, h.b, by have := h.pg; omega, by have := h.rt; omega, by have := h.o.t; omega⟩
 have HK := Lib.hid hk
 have HO0 := Lib.hid (Own.nil_ W)
 obtain ⟨v0, hv0⟩ : ∃ v0, v0 = Value.slice none 0 0 := ⟨_, rfl⟩
 clear v0 hv0
 have HLN0 : Hid (([] : List Nat).length ≤ 0) := Lib.hid (Nat.le_refl _)
 simp only [rcs] at hW
 unfold RV.agg
 clear h hBW hbx hsz hh hc hk hus hkk hbs
 go_enter Tryz.func25, Tryz.ntmps25
 have HP0 := Lib.hid (put_any W (W.alloc (.cells #[.int .u64 (r.t : Int)] 22)) (.slice none 0 0) [] (HO0.out.alloc _) W.heap.size 1 1 [r.t] (Blk.new W 22 #[.int .u64 (r.t : Int)]) rfl (by simp only [List.mem_cons, List.not_mem_nil, or_false, forall_eq]; exact HT.out.1) (by have := HLN0.out; omega))
 go_wp2_with fail
 with_reducible refine HP0.out.mono ?_
 rintro e w1 ⟨v1, rfl, hown⟩
 obtain ⟨l1, hl1⟩ : ∃ l, l = ([] : List Nat) ++ ([r.t] : List Nat).flatMap Cd.vi := ⟨_, rfl⟩
 rw [← hl1] at hown
 have HLE1 := Lib.hid hl1
 have HO1 := Lib.hid hown
 obtain ⟨y0, y1, y2, y3, y4, y5, y6, y7, y8, y9, y10, y11, y12, y13, y14⟩ := rcs_cells (hown.cells HBX.out)
 clear hown hl1 HP0
 have HLN1 : Hid (l1.length ≤ 10) := Lib.hid (by have h9 := HLN0.out; have h0 := vi_len r.t HT.out.1; rw [HLE1.out, List.length_append]; simp only [List.flatMap_cons, List.flatMap_nil, List.append_nil]; simp only [List.length_nil]; omega)
 go_wp2_with fail
 go_ret
 have hfin : l1 = fieldsE r.e := by
  rw [HLE1.out]
  have hk := HK.out
  unfold fieldsE fmE encX uT uP uU uO uI uC RV.e OV.n encO
  simp [hk]
 refine ⟨v1, rfl, ?_, HBW.out.trans (HO1.out.2.mono HBW.out.size)⟩
 rw [← hfin]
 exact HO1.out.1.mono fun b _ hb => Nat.le_trans HBW.out.size hb
set_option maxHeartbeats 8000000 in
theorem rfields_2 (w : World) (r : RV) (h : r.In w All) (hc : r.o.m ≤ 2000) (hk : r.k = 2) : Calls Tryz.prog 25 #[r.agg] w (New w (fieldsE r.e)) := by
 obtain ⟨W, hW, hBW, hbx, hsz⟩ := box_rv w r
 obtain ⟨y0, y1, y2, y3, y4, y5, y6, y7, y8, y9, y10, y11, y12, y13, y14⟩ := rcs_cells hbx
 have hh := h.keep (Fr.of_below hBW No) fun _ _ hn => hn
 have HBX := Lib.hid hbx
 have HBW := Lib.hid hBW
 have HOB := Lib.hid hh.o.b
 have c4 : (r.k == 4) = false := by rw [hk]; rfl
 have n4 : (r.k != 4) = true := by rw [hk]; rfl
 have c8 : (r.k == 8) = false := by rw [hk]; rfl
 have n8 : (r.k != 8) = true := by rw [hk]; rfl
 have c1 : (r.k == 1) = false := by rw [hk]; rfl
 have n1 : (r.k != 1) = true := by rw [hk]; rfl
 have c3 : (r.k == 3) = false := by rw [hk]; rfl
 have n3 : (r.k != 3) = true := by rw [hk]; rfl
 have c2 : (r.k == 2) = true := by rw [hk]; rfl
 have n2 : (r.k != 2) = false := by rw [hk]; rfl
 have hwt : IntKind.u64.wrap (r.t : Int) = (r.t : Int) := wrap_n (by have := h.t; omega)
 have hwp : IntKind.u64.wrap (r.pg : Int) = (r.pg : Int) := wrap_n (by have := h.pg; omega)
 have hwr : IntKind.u64.wrap (r.rt : Int) = (r.rt : Int) := wrap_n (by have := h.rt; omega)
 have hwo : IntKind.u64.wrap (r.o.t : Int) = (r.o.t : Int) := wrap_n (by have := h.o.t; omega)
 obtain ⟨us, hus⟩ : ∃ us, us = ub r.o.s := ⟨_, rfl⟩
 have hws : IntKind.u64.wrap r.o.s = (us : Int) := by rw [hus, IntKind.wrap_u64]; unfold ub; omega
 obtain ⟨kk, hkk⟩ : ∃ kk, kk = kb r.o.k := ⟨_, rfl⟩
 have hwk : IntKind.u8.wrap r.o.k = (kk : Int) := by rw [hkk]; exact wrap_kb _
 have HKK : Hid (kk < 256) := Lib.hid (by rw [hkk]; exact kb_lt _)
 have HUS : Hid (us < 18446744073709551616) := Lib.hid (by rw [hus]; exact ub_lt _)
 have HLS := Lib.hid (And.intro hus hkk)
 have HTL : Hid ((strOf r.o.d).size ≤ 1099511627776) := Lib.hid (by rw [strOf_size]; have := h.o.b.len; omega)
 have hbs : bs (strOf r.o.d) = r.o.d := bs_strOf r.o.d h.o.b.2.1
 have HBS := Lib.hid hbs
 have HTL2 : Hid ((Cd.tx (bs (strOf r.o.d))).length ≤ 3000) := Lib.hid (by
  rw [hbs]
  have h1 := h.o.b.len
  have h2 := vi_len r.o.d.length (by omega)
  unfold Cd.tx
  rw [List.length_append]
  omega)
 have HT : Hid (r.t < 18446744073709551616 ∧ r.a < 18446744073709551616 ∧ r.b < 18446744073709551616 ∧ r.pg < 18446744073709551616 ∧ r.rt < 18446744073709551616 ∧ r.o.t < 18446744073709551616) := Lib.hid ⟨by have := h.t; omega, h.a, h.b, by have := h.pg; omega, by have := h.rt; omega, by have := h.o.t; omega⟩
 have HK := Lib.hid hk
 have HO0 := Lib.hid (Own.nil_ W)
 obtain ⟨v0, hv0⟩ : ∃ v0, v0 = Value.slice none 0 0 := ⟨_, rfl⟩
 clear v0 hv0
 have HLN0 : Hid (([] : List Nat).length ≤ 0) := Lib.hid (Nat.le_refl _)
 simp only [rcs] at hW
 unfold RV.agg
 clear h hBW hbx hsz hh hc hk hus hkk hbs
 go_enter Tryz.func25, Tryz.ntmps25
 have HP0 := Lib.hid (put_any W (W.alloc (.cells #[.int .u64 (r.t : Int)] 22)) (.slice none 0 0) [] (HO0.out.alloc _) W.heap.size 1 1 [r.t] (Blk.new W 22 #[.int .u64 (r.t : Int)]) rfl (by simp only [List.mem_cons, List.not_mem_nil, or_false, forall_eq]; exact HT.out.1) (by have := HLN0.out; omega))
 go_wp2_with fail
 with_reducible refine HP0.out.mono ?_
 rintro e w1 ⟨v1, rfl, hown⟩
 obtain ⟨l1, hl1⟩ : ∃ l, l = ([] : List Nat) ++ ([r.t] : List Nat).flatMap Cd.vi := ⟨_, rfl⟩
 rw [← hl1] at hown
 have HLE1 := Lib.hid hl1
 have HO1 := Lib.hid hown
 obtain ⟨y0, y1, y2, y3, y4, y5, y6, y7, y8, y9, y10, y11, y12, y13, y14⟩ := rcs_cells (hown.cells HBX.out)
 clear hown hl1 HP0
 have HLN1 : Hid (l1.length ≤ 10) := Lib.hid (by have h9 := HLN0.out; have h0 := vi_len r.t HT.out.1; rw [HLE1.out, List.length_append]; simp only [List.flatMap_cons, List.flatMap_nil, List.append_nil]; simp only [List.length_nil]; omega)
 have HP1 := Lib.hid (put_any W (w1.alloc (.cells #[.int .u64 (r.a : Int)] 22)) v1 l1 (HO1.out.alloc _) w1.heap.size 1 1 [r.a] (Blk.new w1 22 #[.int .u64 (r.a : Int)]) rfl (by simp only [List.mem_cons, List.not_mem_nil, or_false, forall_eq]; exact HT.out.2.1) (by have := HLN1.out; omega))
 go_wp2_with fail
 with_reducible refine HP1.out.mono ?_
 rintro e w2 ⟨v2, rfl, hown⟩
 obtain ⟨l2, hl2⟩ : ∃ l, l = l1 ++ ([r.a] : List Nat).flatMap Cd.vi := ⟨_, rfl⟩
 rw [← hl2] at hown
 have HLE2 := Lib.hid hl2
 have HO2 := Lib.hid hown
 obtain ⟨y0, y1, y2, y3, y4, y5, y6, y7, y8, y9, y10, y11, y12, y13, y14⟩ := rcs_cells (hown.cells HBX.out)
 clear hown hl2 HP1
 have HLN2 : Hid (l2.length ≤ 20) := Lib.hid (by have h9 := HLN1.out; have h0 := vi_len r.a HT.out.2.1; rw [HLE2.out, List.length_append]; simp only [List.flatMap_cons, List.flatMap_nil, List.append_nil]; omega)
 have HP2 := Lib.hid (put_any W (w2.alloc (.cells #[.int .u64 (r.pg : Int), .int .u64 (r.rt : Int)] 22)) v2 l2 (HO2.out.alloc _) w2.heap.size 2 2 [r.pg, r.rt] (Blk.new w2 22 #[.int .u64 (r.pg : Int), .int .u64 (r.rt : Int)]) rfl (by simp only [List.mem_cons, List.not_mem_nil, or_false, forall_eq_or_imp, forall_eq]; exact ⟨HT.out.2.2.2.1, HT.out.2.2.2.2.1⟩) (by have := HLN2.out; omega))
 go_wp2_with fail
 with_reducible refine HP2.out.mono ?_
 rintro e w3 ⟨v3, rfl, hown⟩
 obtain ⟨l3, hl3⟩ : ∃ l, l = l2 ++ ([r.pg, r.rt] : List Nat).flatMap Cd.vi := ⟨_, rfl⟩
 rw [← hl3] at hown
 have HLE3 := Lib.hid hl3
 have HO3 := Lib.hid hown
 obtain ⟨y0, y1, y2, y3, y4, y5, y6, y7, y8, y9, y10, y11, y12, y13, y14⟩ := rcs_cells (hown.cells HBX.out)
 clear hown hl3 HP2
 have HLN3 : Hid (l3.length ≤ 40) := Lib.hid (by have h9 := HLN2.out; have h0 := vi_len r.pg HT.out.2.2.2.1; have h1 := vi_len r.rt HT.out.2.2.2.2.1; rw [HLE3.out, List.length_append]; simp only [List.flatMap_cons, List.flatMap_nil, List.append_nil, List.length_append]; omega)
 have HLB3 : Hid (l3.length + 1 ≤ 140737488351232) := Lib.hid (by have := HLN3.out; omega)
 have HO3b := Lib.hid (HO3.out.alloc (.cells #[.int .u8 (kk : Int)] 5))
 have HRB3 := Lib.hid (RB.byte w3 kk HKK.out)
 go_wp2_with (at_builtin; go_must (refine wpList_app rfl (.tmp 58) (.tmp 63) rfl _ l3.length _ rfl HO3b.out.1 _ (some ⟨w3.heap.size, 0, none⟩) 1 1 [kk] rfl HRB3.out HLB3.out ?_); intro v4 w4 hown hgrow; have hst := Own.step HO3b.out hgrow hown; obtain ⟨l4, hl4⟩ : ∃ l, l = l3 ++ [kk] := ⟨_, rfl⟩; rw [← hl4] at hst; have HLE4 := Lib.hid hl4; have HO4 := Lib.hid hst; obtain ⟨y0, y1, y2, y3, y4, y5, y6, y7, y8, y9, y10, y11, y12, y13, y14⟩ := rcs_cells (hst.cells HBX.out); clear hown hgrow hst hl4)
 have HLN4 : Hid (l4.length ≤ 41) := Lib.hid (by have h9 := HLN3.out; rw [HLE4.out, List.length_append]; simp only [List.length_cons, List.length_nil]; omega)
 have HP4 := Lib.hid (put_any W (w4.alloc (.cells #[.int .u64 (us : Int), .int .u64 (r.o.t : Int)] 22)) v4 l4 (HO4.out.alloc _) w4.heap.size 2 2 [us, r.o.t] (Blk.new w4 22 #[.int .u64 (us : Int), .int .u64 (r.o.t : Int)]) rfl (by simp only [List.mem_cons, List.not_mem_nil, or_false, forall_eq_or_imp, forall_eq]; exact ⟨HUS.out, HT.out.2.2.2.2.2⟩) (by have := HLN4.out; omega))
 with_reducible refine HP4.out.mono ?_
 rintro e w5 ⟨v5, rfl, hown⟩
 obtain ⟨l5, hl5⟩ : ∃ l, l = l4 ++ ([us, r.o.t] : List Nat).flatMap Cd.vi := ⟨_, rfl⟩
 rw [← hl5] at hown
 have HLE5 := Lib.hid hl5
 have HO5 := Lib.hid hown
 obtain ⟨y0, y1, y2, y3, y4, y5, y6, y7, y8, y9, y10, y11, y12, y13, y14⟩ := rcs_cells (hown.cells HBX.out)
 clear hown hl5 HP4
 have HLN5 : Hid (l5.length ≤ 61) := Lib.hid (by have h9 := HLN4.out; have h0 := vi_len us HUS.out; have h1 := vi_len r.o.t HT.out.2.2.2.2.2; rw [HLE5.out, List.length_append]; simp only [List.flatMap_cons, List.flatMap_nil, List.append_nil, List.length_append]; omega)
 have hcv := run_conv All r.o.A r.o.m r.o.c r.o.d w5 (HOB.out.keep (Fr.of_below HO5.out.2 No) fun _ _ hn => hn)
 have HTX := Lib.hid (rtext_any w5 (strOf r.o.d) HTL.out)
 go_wp2_with fail
 with_reducible refine HTX.out.mono ?_
 unfold New
 rintro e wt ⟨vt, rfl, hot, hbt⟩
 obtain ⟨At, ct, rfl, _, _, hrt⟩ := hot.reads
 have HRT := Lib.hid hrt
 have HO5b := Lib.hid (show Own W wt v5 l5 from ⟨HO5.out.1.keep (Fr.of_below hbt No) (fun _ _ hn => hn), HO5.out.2.trans (hbt.mono HO5.out.2.size)⟩)
 have HLT := Lib.hid (show l5.length + (Cd.tx (bs (strOf r.o.d))).length ≤ 140737488351232 by have h1 := HLN5.out; have h2 := HTL2.out; omega)
 clear hot hrt hbt
 go_wp2_with (at_builtin; go_must (refine wpList_app rfl (.tmp 76) (.tmp 81) rfl _ l5.length _ rfl HO5b.out.1 _ At _ ct (Cd.tx (bs (strOf r.o.d))) rfl HRT.out HLT.out ?_); intro v6 w6 hown hgrow; have hst := Own.step HO5b.out hgrow hown; obtain ⟨l6, hl6⟩ : ∃ l, l = l5 ++ Cd.tx (bs (strOf r.o.d)) := ⟨_, rfl⟩; rw [← hl6] at hst; have HLE6 := Lib.hid hl6; have HO6 := Lib.hid hst; clear hown hgrow hst hl6)
 go_ret
 have hfin : l6 = fieldsE r.e := by
  rw [HLE6.out, HLE5.out, HLE4.out, HLE3.out, HLE2.out, HLE1.out]
  rw [HBS.out, HLS.out.1, HLS.out.2]
  have hk := HK.out
  unfold fieldsE fmE encX uT uP uU uO uI uC RV.e OV.n encO
  simp [hk, fix1]
 refine ⟨v6, rfl, ?_, HBW.out.trans (HO6.out.2.mono HBW.out.size)⟩
 rw [← hfin]
 exact HO6.out.1.mono fun b _ hb => Nat.le_trans HBW.out.size hb
set_option maxHeartbeats 8000000 in
theorem rfields_3 (w : World) (r : RV) (h : r.In w All) (hc : r.o.m ≤ 2000) (hk : r.k = 3) : Calls Tryz.prog 25 #[r.agg] w (New w (fieldsE r.e)) := by
 obtain ⟨W, hW, hBW, hbx, hsz⟩ := box_rv w r
 obtain ⟨y0, y1, y2, y3, y4, y5, y6, y7, y8, y9, y10, y11, y12, y13, y14⟩ := rcs_cells hbx
 have hh := h.keep (Fr.of_below hBW No) fun _ _ hn => hn
 have HBX := Lib.hid hbx
 have HBW := Lib.hid hBW
 have HOB := Lib.hid hh.o.b
 have c4 : (r.k == 4) = false := by rw [hk]; rfl
 have n4 : (r.k != 4) = true := by rw [hk]; rfl
 have c8 : (r.k == 8) = false := by rw [hk]; rfl
 have n8 : (r.k != 8) = true := by rw [hk]; rfl
 have c1 : (r.k == 1) = false := by rw [hk]; rfl
 have n1 : (r.k != 1) = true := by rw [hk]; rfl
 have c3 : (r.k == 3) = true := by rw [hk]; rfl
 have n3 : (r.k != 3) = false := by rw [hk]; rfl
 have c2 : (r.k == 2) = false := by rw [hk]; rfl
 have n2 : (r.k != 2) = true := by rw [hk]; rfl
 have hwt : IntKind.u64.wrap (r.t : Int) = (r.t : Int) := wrap_n (by have := h.t; omega)
 have hwp : IntKind.u64.wrap (r.pg : Int) = (r.pg : Int) := wrap_n (by have := h.pg; omega)
 have hwr : IntKind.u64.wrap (r.rt : Int) = (r.rt : Int) := wrap_n (by have := h.rt; omega)
 have hwo : IntKind.u64.wrap (r.o.t : Int) = (r.o.t : Int) := wrap_n (by have := h.o.t; omega)
 obtain ⟨us, hus⟩ : ∃ us, us = ub r.o.s := ⟨_, rfl⟩
 have hws : IntKind.u64.wrap r.o.s = (us : Int) := by rw [hus, IntKind.wrap_u64]; unfold ub; omega
 obtain ⟨kk, hkk⟩ : ∃ kk, kk = kb r.o.k := ⟨_, rfl⟩
 have hwk : IntKind.u8.wrap r.o.k = (kk : Int) := by rw [hkk]; exact wrap_kb _
 have HKK : Hid (kk < 256) := Lib.hid (by rw [hkk]; exact kb_lt _)
 have HUS : Hid (us < 18446744073709551616) := Lib.hid (by rw [hus]; exact ub_lt _)
 have HLS := Lib.hid (And.intro hus hkk)
 have HTL : Hid ((strOf r.o.d).size ≤ 1099511627776) := Lib.hid (by rw [strOf_size]; have := h.o.b.len; omega)
 have hbs : bs (strOf r.o.d) = r.o.d := bs_strOf r.o.d h.o.b.2.1
 have HBS := Lib.hid hbs
 have HTL2 : Hid ((Cd.tx (bs (strOf r.o.d))).length ≤ 3000) := Lib.hid (by
  rw [hbs]
  have h1 := h.o.b.len
  have h2 := vi_len r.o.d.length (by omega)
  unfold Cd.tx
  rw [List.length_append]
  omega)
 have HT : Hid (r.t < 18446744073709551616 ∧ r.a < 18446744073709551616 ∧ r.b < 18446744073709551616 ∧ r.pg < 18446744073709551616 ∧ r.rt < 18446744073709551616 ∧ r.o.t < 18446744073709551616) := Lib.hid ⟨by have := h.t; omega, h.a, h.b, by have := h.pg; omega, by have := h.rt; omega, by have := h.o.t; omega⟩
 have HK := Lib.hid hk
 have HO0 := Lib.hid (Own.nil_ W)
 obtain ⟨v0, hv0⟩ : ∃ v0, v0 = Value.slice none 0 0 := ⟨_, rfl⟩
 clear v0 hv0
 have HLN0 : Hid (([] : List Nat).length ≤ 0) := Lib.hid (Nat.le_refl _)
 simp only [rcs] at hW
 unfold RV.agg
 clear h hBW hbx hsz hh hc hk hus hkk hbs
 go_enter Tryz.func25, Tryz.ntmps25
 have HP0 := Lib.hid (put_any W (W.alloc (.cells #[.int .u64 (r.t : Int)] 22)) (.slice none 0 0) [] (HO0.out.alloc _) W.heap.size 1 1 [r.t] (Blk.new W 22 #[.int .u64 (r.t : Int)]) rfl (by simp only [List.mem_cons, List.not_mem_nil, or_false, forall_eq]; exact HT.out.1) (by have := HLN0.out; omega))
 go_wp2_with fail
 with_reducible refine HP0.out.mono ?_
 rintro e w1 ⟨v1, rfl, hown⟩
 obtain ⟨l1, hl1⟩ : ∃ l, l = ([] : List Nat) ++ ([r.t] : List Nat).flatMap Cd.vi := ⟨_, rfl⟩
 rw [← hl1] at hown
 have HLE1 := Lib.hid hl1
 have HO1 := Lib.hid hown
 obtain ⟨y0, y1, y2, y3, y4, y5, y6, y7, y8, y9, y10, y11, y12, y13, y14⟩ := rcs_cells (hown.cells HBX.out)
 clear hown hl1 HP0
 have HLN1 : Hid (l1.length ≤ 10) := Lib.hid (by have h9 := HLN0.out; have h0 := vi_len r.t HT.out.1; rw [HLE1.out, List.length_append]; simp only [List.flatMap_cons, List.flatMap_nil, List.append_nil]; simp only [List.length_nil]; omega)
 have HP1 := Lib.hid (put_any W (w1.alloc (.cells #[.int .u64 (r.a : Int)] 22)) v1 l1 (HO1.out.alloc _) w1.heap.size 1 1 [r.a] (Blk.new w1 22 #[.int .u64 (r.a : Int)]) rfl (by simp only [List.mem_cons, List.not_mem_nil, or_false, forall_eq]; exact HT.out.2.1) (by have := HLN1.out; omega))
 go_wp2_with fail
 with_reducible refine HP1.out.mono ?_
 rintro e w2 ⟨v2, rfl, hown⟩
 obtain ⟨l2, hl2⟩ : ∃ l, l = l1 ++ ([r.a] : List Nat).flatMap Cd.vi := ⟨_, rfl⟩
 rw [← hl2] at hown
 have HLE2 := Lib.hid hl2
 have HO2 := Lib.hid hown
 obtain ⟨y0, y1, y2, y3, y4, y5, y6, y7, y8, y9, y10, y11, y12, y13, y14⟩ := rcs_cells (hown.cells HBX.out)
 clear hown hl2 HP1
 have HLN2 : Hid (l2.length ≤ 20) := Lib.hid (by have h9 := HLN1.out; have h0 := vi_len r.a HT.out.2.1; rw [HLE2.out, List.length_append]; simp only [List.flatMap_cons, List.flatMap_nil, List.append_nil]; omega)
 have HP2 := Lib.hid (put_any W (w2.alloc (.cells #[.int .u64 (r.b : Int)] 22)) v2 l2 (HO2.out.alloc _) w2.heap.size 1 1 [r.b] (Blk.new w2 22 #[.int .u64 (r.b : Int)]) rfl (by simp only [List.mem_cons, List.not_mem_nil, or_false, forall_eq]; exact HT.out.2.2.1) (by have := HLN2.out; omega))
 go_wp2_with fail
 with_reducible refine HP2.out.mono ?_
 rintro e w3 ⟨v3, rfl, hown⟩
 obtain ⟨l3, hl3⟩ : ∃ l, l = l2 ++ ([r.b] : List Nat).flatMap Cd.vi := ⟨_, rfl⟩
 rw [← hl3] at hown
 have HLE3 := Lib.hid hl3
 have HO3 := Lib.hid hown
 obtain ⟨y0, y1, y2, y3, y4, y5, y6, y7, y8, y9, y10, y11, y12, y13, y14⟩ := rcs_cells (hown.cells HBX.out)
 clear hown hl3 HP2
 have HLN3 : Hid (l3.length ≤ 30) := Lib.hid (by have h9 := HLN2.out; have h0 := vi_len r.b HT.out.2.2.1; rw [HLE3.out, List.length_append]; simp only [List.flatMap_cons, List.flatMap_nil, List.append_nil]; omega)
 have HP3 := Lib.hid (put_any W (w3.alloc (.cells #[.int .u64 (r.pg : Int), .int .u64 (r.rt : Int)] 22)) v3 l3 (HO3.out.alloc _) w3.heap.size 2 2 [r.pg, r.rt] (Blk.new w3 22 #[.int .u64 (r.pg : Int), .int .u64 (r.rt : Int)]) rfl (by simp only [List.mem_cons, List.not_mem_nil, or_false, forall_eq_or_imp, forall_eq]; exact ⟨HT.out.2.2.2.1, HT.out.2.2.2.2.1⟩) (by have := HLN3.out; omega))
 go_wp2_with fail
 with_reducible refine HP3.out.mono ?_
 rintro e w4 ⟨v4, rfl, hown⟩
 obtain ⟨l4, hl4⟩ : ∃ l, l = l3 ++ ([r.pg, r.rt] : List Nat).flatMap Cd.vi := ⟨_, rfl⟩
 rw [← hl4] at hown
 have HLE4 := Lib.hid hl4
 have HO4 := Lib.hid hown
 obtain ⟨y0, y1, y2, y3, y4, y5, y6, y7, y8, y9, y10, y11, y12, y13, y14⟩ := rcs_cells (hown.cells HBX.out)
 clear hown hl4 HP3
 have HLN4 : Hid (l4.length ≤ 50) := Lib.hid (by have h9 := HLN3.out; have h0 := vi_len r.pg HT.out.2.2.2.1; have h1 := vi_len r.rt HT.out.2.2.2.2.1; rw [HLE4.out, List.length_append]; simp only [List.flatMap_cons, List.flatMap_nil, List.append_nil, List.length_append]; omega)
 have HLB4 : Hid (l4.length + 1 ≤ 140737488351232) := Lib.hid (by have := HLN4.out; omega)
 have HO4b := Lib.hid (HO4.out.alloc (.cells #[.int .u8 (kk : Int)] 5))
 have HRB4 := Lib.hid (RB.byte w4 kk HKK.out)
 go_wp2_with (at_builtin; go_must (refine wpList_app rfl (.tmp 58) (.tmp 63) rfl _ l4.length _ rfl HO4b.out.1 _ (some ⟨w4.heap.size, 0, none⟩) 1 1 [kk] rfl HRB4.out HLB4.out ?_); intro v5 w5 hown hgrow; have hst := Own.step HO4b.out hgrow hown; obtain ⟨l5, hl5⟩ : ∃ l, l = l4 ++ [kk] := ⟨_, rfl⟩; rw [← hl5] at hst; have HLE5 := Lib.hid hl5; have HO5 := Lib.hid hst; obtain ⟨y0, y1, y2, y3, y4, y5, y6, y7, y8, y9, y10, y11, y12, y13, y14⟩ := rcs_cells (hst.cells HBX.out); clear hown hgrow hst hl5)
 have HLN5 : Hid (l5.length ≤ 51) := Lib.hid (by have h9 := HLN4.out; rw [HLE5.out, List.length_append]; simp only [List.length_cons, List.length_nil]; omega)
 have HP5 := Lib.hid (put_any W (w5.alloc (.cells #[.int .u64 (us : Int), .int .u64 (r.o.t : Int)] 22)) v5 l5 (HO5.out.alloc _) w5.heap.size 2 2 [us, r.o.t] (Blk.new w5 22 #[.int .u64 (us : Int), .int .u64 (r.o.t : Int)]) rfl (by simp only [List.mem_cons, List.not_mem_nil, or_false, forall_eq_or_imp, forall_eq]; exact ⟨HUS.out, HT.out.2.2.2.2.2⟩) (by have := HLN5.out; omega))
 with_reducible refine HP5.out.mono ?_
 rintro e w6 ⟨v6, rfl, hown⟩
 obtain ⟨l6, hl6⟩ : ∃ l, l = l5 ++ ([us, r.o.t] : List Nat).flatMap Cd.vi := ⟨_, rfl⟩
 rw [← hl6] at hown
 have HLE6 := Lib.hid hl6
 have HO6 := Lib.hid hown
 obtain ⟨y0, y1, y2, y3, y4, y5, y6, y7, y8, y9, y10, y11, y12, y13, y14⟩ := rcs_cells (hown.cells HBX.out)
 clear hown hl6 HP5
 have HLN6 : Hid (l6.length ≤ 71) := Lib.hid (by have h9 := HLN5.out; have h0 := vi_len us HUS.out; have h1 := vi_len r.o.t HT.out.2.2.2.2.2; rw [HLE6.out, List.length_append]; simp only [List.flatMap_cons, List.flatMap_nil, List.append_nil, List.length_append]; omega)
 have hcv := run_conv All r.o.A r.o.m r.o.c r.o.d w6 (HOB.out.keep (Fr.of_below HO6.out.2 No) fun _ _ hn => hn)
 have HTX := Lib.hid (rtext_any w6 (strOf r.o.d) HTL.out)
 go_wp2_with fail
 with_reducible refine HTX.out.mono ?_
 unfold New
 rintro e wt ⟨vt, rfl, hot, hbt⟩
 obtain ⟨At, ct, rfl, _, _, hrt⟩ := hot.reads
 have HRT := Lib.hid hrt
 have HO6b := Lib.hid (show Own W wt v6 l6 from ⟨HO6.out.1.keep (Fr.of_below hbt No) (fun _ _ hn => hn), HO6.out.2.trans (hbt.mono HO6.out.2.size)⟩)
 have HLT := Lib.hid (show l6.length + (Cd.tx (bs (strOf r.o.d))).length ≤ 140737488351232 by have h1 := HLN6.out; have h2 := HTL2.out; omega)
 clear hot hrt hbt
 go_wp2_with (at_builtin; go_must (refine wpList_app rfl (.tmp 76) (.tmp 81) rfl _ l6.length _ rfl HO6b.out.1 _ At _ ct (Cd.tx (bs (strOf r.o.d))) rfl HRT.out HLT.out ?_); intro v7 w7 hown hgrow; have hst := Own.step HO6b.out hgrow hown; obtain ⟨l7, hl7⟩ : ∃ l, l = l6 ++ Cd.tx (bs (strOf r.o.d)) := ⟨_, rfl⟩; rw [← hl7] at hst; have HLE7 := Lib.hid hl7; have HO7 := Lib.hid hst; clear hown hgrow hst hl7)
 go_ret
 have hfin : l7 = fieldsE r.e := by
  rw [HLE7.out, HLE6.out, HLE5.out, HLE4.out, HLE3.out, HLE2.out, HLE1.out]
  rw [HBS.out, HLS.out.1, HLS.out.2]
  have hk := HK.out
  unfold fieldsE fmE encX uT uP uU uO uI uC RV.e OV.n encO
  simp [hk, fix1]
 refine ⟨v7, rfl, ?_, HBW.out.trans (HO7.out.2.mono HBW.out.size)⟩
 rw [← hfin]
 exact HO7.out.1.mono fun b _ hb => Nat.le_trans HBW.out.size hb
set_option maxHeartbeats 8000000 in
theorem rfields_5 (w : World) (r : RV) (h : r.In w All) (hc : r.o.m ≤ 2000) (hk : r.k = 5) : Calls Tryz.prog 25 #[r.agg] w (New w (fieldsE r.e)) := by
 obtain ⟨W, hW, hBW, hbx, hsz⟩ := box_rv w r
 obtain ⟨y0, y1, y2, y3, y4, y5, y6, y7, y8, y9, y10, y11, y12, y13, y14⟩ := rcs_cells hbx
 have hh := h.keep (Fr.of_below hBW No) fun _ _ hn => hn
 have HBX := Lib.hid hbx
 have HBW := Lib.hid hBW
 have HOB := Lib.hid hh.o.b
 have c4 : (r.k == 4) = false := by rw [hk]; rfl
 have n4 : (r.k != 4) = true := by rw [hk]; rfl
 have c8 : (r.k == 8) = false := by rw [hk]; rfl
 have n8 : (r.k != 8) = true := by rw [hk]; rfl
 have c1 : (r.k == 1) = false := by rw [hk]; rfl
 have n1 : (r.k != 1) = true := by rw [hk]; rfl
 have c3 : (r.k == 3) = false := by rw [hk]; rfl
 have n3 : (r.k != 3) = true := by rw [hk]; rfl
 have c2 : (r.k == 2) = false := by rw [hk]; rfl
 have n2 : (r.k != 2) = true := by rw [hk]; rfl
 have hwt : IntKind.u64.wrap (r.t : Int) = (r.t : Int) := wrap_n (by have := h.t; omega)
 have hwp : IntKind.u64.wrap (r.pg : Int) = (r.pg : Int) := wrap_n (by have := h.pg; omega)
 have hwr : IntKind.u64.wrap (r.rt : Int) = (r.rt : Int) := wrap_n (by have := h.rt; omega)
 have hwo : IntKind.u64.wrap (r.o.t : Int) = (r.o.t : Int) := wrap_n (by have := h.o.t; omega)
 obtain ⟨us, hus⟩ : ∃ us, us = ub r.o.s := ⟨_, rfl⟩
 have hws : IntKind.u64.wrap r.o.s = (us : Int) := by rw [hus, IntKind.wrap_u64]; unfold ub; omega
 obtain ⟨kk, hkk⟩ : ∃ kk, kk = kb r.o.k := ⟨_, rfl⟩
 have hwk : IntKind.u8.wrap r.o.k = (kk : Int) := by rw [hkk]; exact wrap_kb _
 have HKK : Hid (kk < 256) := Lib.hid (by rw [hkk]; exact kb_lt _)
 have HUS : Hid (us < 18446744073709551616) := Lib.hid (by rw [hus]; exact ub_lt _)
 have HLS := Lib.hid (And.intro hus hkk)
 have HTL : Hid ((strOf r.o.d).size ≤ 1099511627776) := Lib.hid (by rw [strOf_size]; have := h.o.b.len; omega)
 have hbs : bs (strOf r.o.d) = r.o.d := bs_strOf r.o.d h.o.b.2.1
 have HBS := Lib.hid hbs
 have HTL2 : Hid ((Cd.tx (bs (strOf r.o.d))).length ≤ 3000) := Lib.hid (by
  rw [hbs]
  have h1 := h.o.b.len
  have h2 := vi_len r.o.d.length (by omega)
  unfold Cd.tx
  rw [List.length_append]
  omega)
 have HT : Hid (r.t < 18446744073709551616 ∧ r.a < 18446744073709551616 ∧ r.b < 18446744073709551616 ∧ r.pg < 18446744073709551616 ∧ r.rt < 18446744073709551616 ∧ r.o.t < 18446744073709551616) := Lib.hid ⟨by have := h.t; omega, h.a, h.b, by have := h.pg; omega, by have := h.rt; omega, by have := h.o.t; omega⟩
 have HK := Lib.hid hk
 have HO0 := Lib.hid (Own.nil_ W)
 obtain ⟨v0, hv0⟩ : ∃ v0, v0 = Value.slice none 0 0 := ⟨_, rfl⟩
 clear v0 hv0
 have HLN0 : Hid (([] : List Nat).length ≤ 0) := Lib.hid (Nat.le_refl _)
 simp only [rcs] at hW
 unfold RV.agg
 clear h hBW hbx hsz hh hc hk hus hkk hbs
 go_enter Tryz.func25, Tryz.ntmps25
 have HP0 := Lib.hid (put_any W (W.alloc (.cells #[.int .u64 (r.t : Int)] 22)) (.slice none 0 0) [] (HO0.out.alloc _) W.heap.size 1 1 [r.t] (Blk.new W 22 #[.int .u64 (r.t : Int)]) rfl (by simp only [List.mem_cons, List.not_mem_nil, or_false, forall_eq]; exact HT.out.1) (by have := HLN0.out; omega))
 go_wp2_with fail
 with_reducible refine HP0.out.mono ?_
 rintro e w1 ⟨v1, rfl, hown⟩
 obtain ⟨l1, hl1⟩ : ∃ l, l = ([] : List Nat) ++ ([r.t] : List Nat).flatMap Cd.vi := ⟨_, rfl⟩
 rw [← hl1] at hown
 have HLE1 := Lib.hid hl1
 have HO1 := Lib.hid hown
 obtain ⟨y0, y1, y2, y3, y4, y5, y6, y7, y8, y9, y10, y11, y12, y13, y14⟩ := rcs_cells (hown.cells HBX.out)
 clear hown hl1 HP0
 have HLN1 : Hid (l1.length ≤ 10) := Lib.hid (by have h9 := HLN0.out; have h0 := vi_len r.t HT.out.1; rw [HLE1.out, List.length_append]; simp only [List.flatMap_cons, List.flatMap_nil, List.append_nil]; simp only [List.length_nil]; omega)
 have HP1 := Lib.hid (put_any W (w1.alloc (.cells #[.int .u64 (r.a : Int)] 22)) v1 l1 (HO1.out.alloc _) w1.heap.size 1 1 [r.a] (Blk.new w1 22 #[.int .u64 (r.a : Int)]) rfl (by simp only [List.mem_cons, List.not_mem_nil, or_false, forall_eq]; exact HT.out.2.1) (by have := HLN1.out; omega))
 go_wp2_with fail
 with_reducible refine HP1.out.mono ?_
 rintro e w2 ⟨v2, rfl, hown⟩
 obtain ⟨l2, hl2⟩ : ∃ l, l = l1 ++ ([r.a] : List Nat).flatMap Cd.vi := ⟨_, rfl⟩
 rw [← hl2] at hown
 have HLE2 := Lib.hid hl2
 have HO2 := Lib.hid hown
 obtain ⟨y0, y1, y2, y3, y4, y5, y6, y7, y8, y9, y10, y11, y12, y13, y14⟩ := rcs_cells (hown.cells HBX.out)
 clear hown hl2 HP1
 have HLN2 : Hid (l2.length ≤ 20) := Lib.hid (by have h9 := HLN1.out; have h0 := vi_len r.a HT.out.2.1; rw [HLE2.out, List.length_append]; simp only [List.flatMap_cons, List.flatMap_nil, List.append_nil]; omega)
 go_wp2_with fail
 go_ret
 have hfin : l2 = fieldsE r.e := by
  rw [HLE2.out, HLE1.out]
  have hk := HK.out
  unfold fieldsE fmE encX uT uP uU uO uI uC RV.e OV.n encO
  simp [hk]
 refine ⟨v2, rfl, ?_, HBW.out.trans (HO2.out.2.mono HBW.out.size)⟩
 rw [← hfin]
 exact HO2.out.1.mono fun b _ hb => Nat.le_trans HBW.out.size hb
set_option maxHeartbeats 8000000 in
theorem rfields_6 (w : World) (r : RV) (h : r.In w All) (hc : r.o.m ≤ 2000) (hk : r.k = 6) : Calls Tryz.prog 25 #[r.agg] w (New w (fieldsE r.e)) := by
 obtain ⟨W, hW, hBW, hbx, hsz⟩ := box_rv w r
 obtain ⟨y0, y1, y2, y3, y4, y5, y6, y7, y8, y9, y10, y11, y12, y13, y14⟩ := rcs_cells hbx
 have hh := h.keep (Fr.of_below hBW No) fun _ _ hn => hn
 have HBX := Lib.hid hbx
 have HBW := Lib.hid hBW
 have HOB := Lib.hid hh.o.b
 have c4 : (r.k == 4) = false := by rw [hk]; rfl
 have n4 : (r.k != 4) = true := by rw [hk]; rfl
 have c8 : (r.k == 8) = false := by rw [hk]; rfl
 have n8 : (r.k != 8) = true := by rw [hk]; rfl
 have c1 : (r.k == 1) = false := by rw [hk]; rfl
 have n1 : (r.k != 1) = true := by rw [hk]; rfl
 have c3 : (r.k == 3) = false := by rw [hk]; rfl
 have n3 : (r.k != 3) = true := by rw [hk]; rfl
 have c2 : (r.k == 2) = false := by rw [hk]; rfl
 have n2 : (r.k != 2) = true := by rw [hk]; rfl
 have hwt : IntKind.u64.wrap (r.t : Int) = (r.t : Int) := wrap_n (by have := h.t; omega)
 have hwp : IntKind.u64.wrap (r.pg : Int) = (r.pg : Int) := wrap_n (by have := h.pg; omega)
 have hwr : IntKind.u64.wrap (r.rt : Int) = (r.rt : Int) := wrap_n (by have := h.rt; omega)
 have hwo : IntKind.u64.wrap (r.o.t : Int) = (r.o.t : Int) := wrap_n (by have := h.o.t; omega)
 obtain ⟨us, hus⟩ : ∃ us, us = ub r.o.s := ⟨_, rfl⟩
 have hws : IntKind.u64.wrap r.o.s = (us : Int) := by rw [hus, IntKind.wrap_u64]; unfold ub; omega
 obtain ⟨kk, hkk⟩ : ∃ kk, kk = kb r.o.k := ⟨_, rfl⟩
 have hwk : IntKind.u8.wrap r.o.k = (kk : Int) := by rw [hkk]; exact wrap_kb _
 have HKK : Hid (kk < 256) := Lib.hid (by rw [hkk]; exact kb_lt _)
 have HUS : Hid (us < 18446744073709551616) := Lib.hid (by rw [hus]; exact ub_lt _)
 have HLS := Lib.hid (And.intro hus hkk)
 have HTL : Hid ((strOf r.o.d).size ≤ 1099511627776) := Lib.hid (by rw [strOf_size]; have := h.o.b.len; omega)
 have hbs : bs (strOf r.o.d) = r.o.d := bs_strOf r.o.d h.o.b.2.1
 have HBS := Lib.hid hbs
 have HTL2 : Hid ((Cd.tx (bs (strOf r.o.d))).length ≤ 3000) := Lib.hid (by
  rw [hbs]
  have h1 := h.o.b.len
  have h2 := vi_len r.o.d.length (by omega)
  unfold Cd.tx
  rw [List.length_append]
  omega)
 have HT : Hid (r.t < 18446744073709551616 ∧ r.a < 18446744073709551616 ∧ r.b < 18446744073709551616 ∧ r.pg < 18446744073709551616 ∧ r.rt < 18446744073709551616 ∧ r.o.t < 18446744073709551616) := Lib.hid ⟨by have := h.t; omega, h.a, h.b, by have := h.pg; omega, by have := h.rt; omega, by have := h.o.t; omega⟩
 have HK := Lib.hid hk
 have HO0 := Lib.hid (Own.nil_ W)
 obtain ⟨v0, hv0⟩ : ∃ v0, v0 = Value.slice none 0 0 := ⟨_, rfl⟩
 clear v0 hv0
 have HLN0 : Hid (([] : List Nat).length ≤ 0) := Lib.hid (Nat.le_refl _)
 simp only [rcs] at hW
 unfold RV.agg
 clear h hBW hbx hsz hh hc hk hus hkk hbs
 go_enter Tryz.func25, Tryz.ntmps25
 have HP0 := Lib.hid (put_any W (W.alloc (.cells #[.int .u64 (r.t : Int)] 22)) (.slice none 0 0) [] (HO0.out.alloc _) W.heap.size 1 1 [r.t] (Blk.new W 22 #[.int .u64 (r.t : Int)]) rfl (by simp only [List.mem_cons, List.not_mem_nil, or_false, forall_eq]; exact HT.out.1) (by have := HLN0.out; omega))
 go_wp2_with fail
 with_reducible refine HP0.out.mono ?_
 rintro e w1 ⟨v1, rfl, hown⟩
 obtain ⟨l1, hl1⟩ : ∃ l, l = ([] : List Nat) ++ ([r.t] : List Nat).flatMap Cd.vi := ⟨_, rfl⟩
 rw [← hl1] at hown
 have HLE1 := Lib.hid hl1
 have HO1 := Lib.hid hown
 obtain ⟨y0, y1, y2, y3, y4, y5, y6, y7, y8, y9, y10, y11, y12, y13, y14⟩ := rcs_cells (hown.cells HBX.out)
 clear hown hl1 HP0
 have HLN1 : Hid (l1.length ≤ 10) := Lib.hid (by have h9 := HLN0.out; have h0 := vi_len r.t HT.out.1; rw [HLE1.out, List.length_append]; simp only [List.flatMap_cons, List.flatMap_nil, List.append_nil]; simp only [List.length_nil]; omega)
 have HP1 := Lib.hid (put_any W (w1.alloc (.cells #[.int .u64 (r.a : Int)] 22)) v1 l1 (HO1.out.alloc _) w1.heap.size 1 1 [r.a] (Blk.new w1 22 #[.int .u64 (r.a : Int)]) rfl (by simp only [List.mem_cons, List.not_mem_nil, or_false, forall_eq]; exact HT.out.2.1) (by have := HLN1.out; omega))
 go_wp2_with fail
 with_reducible refine HP1.out.mono ?_
 rintro e w2 ⟨v2, rfl, hown⟩
 obtain ⟨l2, hl2⟩ : ∃ l, l = l1 ++ ([r.a] : List Nat).flatMap Cd.vi := ⟨_, rfl⟩
 rw [← hl2] at hown
 have HLE2 := Lib.hid hl2
 have HO2 := Lib.hid hown
 obtain ⟨y0, y1, y2, y3, y4, y5, y6, y7, y8, y9, y10, y11, y12, y13, y14⟩ := rcs_cells (hown.cells HBX.out)
 clear hown hl2 HP1
 have HLN2 : Hid (l2.length ≤ 20) := Lib.hid (by have h9 := HLN1.out; have h0 := vi_len r.a HT.out.2.1; rw [HLE2.out, List.length_append]; simp only [List.flatMap_cons, List.flatMap_nil, List.append_nil]; omega)
 go_wp2_with fail
 go_ret
 have hfin : l2 = fieldsE r.e := by
  rw [HLE2.out, HLE1.out]
  have hk := HK.out
  unfold fieldsE fmE encX uT uP uU uO uI uC RV.e OV.n encO
  simp [hk]
 refine ⟨v2, rfl, ?_, HBW.out.trans (HO2.out.2.mono HBW.out.size)⟩
 rw [← hfin]
 exact HO2.out.1.mono fun b _ hb => Nat.le_trans HBW.out.size hb
set_option maxHeartbeats 8000000 in
theorem rfields_7 (w : World) (r : RV) (h : r.In w All) (hc : r.o.m ≤ 2000) (hk : r.k = 7) : Calls Tryz.prog 25 #[r.agg] w (New w (fieldsE r.e)) := by
 obtain ⟨W, hW, hBW, hbx, hsz⟩ := box_rv w r
 obtain ⟨y0, y1, y2, y3, y4, y5, y6, y7, y8, y9, y10, y11, y12, y13, y14⟩ := rcs_cells hbx
 have hh := h.keep (Fr.of_below hBW No) fun _ _ hn => hn
 have HBX := Lib.hid hbx
 have HBW := Lib.hid hBW
 have HOB := Lib.hid hh.o.b
 have c4 : (r.k == 4) = false := by rw [hk]; rfl
 have n4 : (r.k != 4) = true := by rw [hk]; rfl
 have c8 : (r.k == 8) = false := by rw [hk]; rfl
 have n8 : (r.k != 8) = true := by rw [hk]; rfl
 have c1 : (r.k == 1) = false := by rw [hk]; rfl
 have n1 : (r.k != 1) = true := by rw [hk]; rfl
 have c3 : (r.k == 3) = false := by rw [hk]; rfl
 have n3 : (r.k != 3) = true := by rw [hk]; rfl
 have c2 : (r.k == 2) = false := by rw [hk]; rfl
 have n2 : (r.k != 2) = true := by rw [hk]; rfl
 have hwt : IntKind.u64.wrap (r.t : Int) = (r.t : Int) := wrap_n (by have := h.t; omega)
 have hwp : IntKind.u64.wrap (r.pg : Int) = (r.pg : Int) := wrap_n (by have := h.pg; omega)
 have hwr : IntKind.u64.wrap (r.rt : Int) = (r.rt : Int) := wrap_n (by have := h.rt; omega)
 have hwo : IntKind.u64.wrap (r.o.t : Int) = (r.o.t : Int) := wrap_n (by have := h.o.t; omega)
 obtain ⟨us, hus⟩ : ∃ us, us = ub r.o.s := ⟨_, rfl⟩
 have hws : IntKind.u64.wrap r.o.s = (us : Int) := by rw [hus, IntKind.wrap_u64]; unfold ub; omega
 obtain ⟨kk, hkk⟩ : ∃ kk, kk = kb r.o.k := ⟨_, rfl⟩
 have hwk : IntKind.u8.wrap r.o.k = (kk : Int) := by rw [hkk]; exact wrap_kb _
 have HKK : Hid (kk < 256) := Lib.hid (by rw [hkk]; exact kb_lt _)
 have HUS : Hid (us < 18446744073709551616) := Lib.hid (by rw [hus]; exact ub_lt _)
 have HLS := Lib.hid (And.intro hus hkk)
 have HTL : Hid ((strOf r.o.d).size ≤ 1099511627776) := Lib.hid (by rw [strOf_size]; have := h.o.b.len; omega)
 have hbs : bs (strOf r.o.d) = r.o.d := bs_strOf r.o.d h.o.b.2.1
 have HBS := Lib.hid hbs
 have HTL2 : Hid ((Cd.tx (bs (strOf r.o.d))).length ≤ 3000) := Lib.hid (by
  rw [hbs]
  have h1 := h.o.b.len
  have h2 := vi_len r.o.d.length (by omega)
  unfold Cd.tx
  rw [List.length_append]
  omega)
 have HT : Hid (r.t < 18446744073709551616 ∧ r.a < 18446744073709551616 ∧ r.b < 18446744073709551616 ∧ r.pg < 18446744073709551616 ∧ r.rt < 18446744073709551616 ∧ r.o.t < 18446744073709551616) := Lib.hid ⟨by have := h.t; omega, h.a, h.b, by have := h.pg; omega, by have := h.rt; omega, by have := h.o.t; omega⟩
 have HK := Lib.hid hk
 have HO0 := Lib.hid (Own.nil_ W)
 obtain ⟨v0, hv0⟩ : ∃ v0, v0 = Value.slice none 0 0 := ⟨_, rfl⟩
 clear v0 hv0
 have HLN0 : Hid (([] : List Nat).length ≤ 0) := Lib.hid (Nat.le_refl _)
 simp only [rcs] at hW
 unfold RV.agg
 clear h hBW hbx hsz hh hc hk hus hkk hbs
 go_enter Tryz.func25, Tryz.ntmps25
 have HP0 := Lib.hid (put_any W (W.alloc (.cells #[.int .u64 (r.t : Int)] 22)) (.slice none 0 0) [] (HO0.out.alloc _) W.heap.size 1 1 [r.t] (Blk.new W 22 #[.int .u64 (r.t : Int)]) rfl (by simp only [List.mem_cons, List.not_mem_nil, or_false, forall_eq]; exact HT.out.1) (by have := HLN0.out; omega))
 go_wp2_with fail
 with_reducible refine HP0.out.mono ?_
 rintro e w1 ⟨v1, rfl, hown⟩
 obtain ⟨l1, hl1⟩ : ∃ l, l = ([] : List Nat) ++ ([r.t] : List Nat).flatMap Cd.vi := ⟨_, rfl⟩
 rw [← hl1] at hown
 have HLE1 := Lib.hid hl1
 have HO1 := Lib.hid hown
 obtain ⟨y0, y1, y2, y3, y4, y5, y6, y7, y8, y9, y10, y11, y12, y13, y14⟩ := rcs_cells (hown.cells HBX.out)
 clear hown hl1 HP0
 have HLN1 : Hid (l1.length ≤ 10) := Lib.hid (by have h9 := HLN0.out; have h0 := vi_len r.t HT.out.1; rw [HLE1.out, List.length_append]; simp only [List.flatMap_cons, List.flatMap_nil, List.append_nil]; simp only [List.length_nil]; omega)
 have HP1 := Lib.hid (put_any W (w1.alloc (.cells #[.int .u64 (r.a : Int)] 22)) v1 l1 (HO1.out.alloc _) w1.heap.size 1 1 [r.a] (Blk.new w1 22 #[.int .u64 (r.a : Int)]) rfl (by simp only [List.mem_cons, List.not_mem_nil, or_false, forall_eq]; exact HT.out.2.1) (by have := HLN1.out; omega))
 go_wp2_with fail
 with_reducible refine HP1.out.mono ?_
 rintro e w2 ⟨v2, rfl, hown⟩
 obtain ⟨l2, hl2⟩ : ∃ l, l = l1 ++ ([r.a] : List Nat).flatMap Cd.vi := ⟨_, rfl⟩
 rw [← hl2] at hown
 have HLE2 := Lib.hid hl2
 have HO2 := Lib.hid hown
 obtain ⟨y0, y1, y2, y3, y4, y5, y6, y7, y8, y9, y10, y11, y12, y13, y14⟩ := rcs_cells (hown.cells HBX.out)
 clear hown hl2 HP1
 have HLN2 : Hid (l2.length ≤ 20) := Lib.hid (by have h9 := HLN1.out; have h0 := vi_len r.a HT.out.2.1; rw [HLE2.out, List.length_append]; simp only [List.flatMap_cons, List.flatMap_nil, List.append_nil]; omega)
 go_wp2_with fail
 go_ret
 have hfin : l2 = fieldsE r.e := by
  rw [HLE2.out, HLE1.out]
  have hk := HK.out
  unfold fieldsE fmE encX uT uP uU uO uI uC RV.e OV.n encO
  simp [hk]
 refine ⟨v2, rfl, ?_, HBW.out.trans (HO2.out.2.mono HBW.out.size)⟩
 rw [← hfin]
 exact HO2.out.1.mono fun b _ hb => Nat.le_trans HBW.out.size hb
end Go.Proofs.YtdhgbkibbileiaaGreat
