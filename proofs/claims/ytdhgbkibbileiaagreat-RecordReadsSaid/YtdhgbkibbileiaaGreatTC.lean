/-
TC
-/
import Derived.Test.YtdhgbkibbileiaaGreatTB
import Derived.OrdersHeld
import Derived.Deep.Cut
import Derived.Deep.RegionHeld
set_option maxRecDepth 100000
namespace Go.Proofs.YtdhgbkibbileiaaGreat
open Go.RowKit
theorem Own.drew {W wr : World} {v : Value} {l : List Nat} (h : Own W wr v l) : Own W wr.drew v l := ⟨h.1.keep ((Fr.refl wr No).drew) (fun _ _ hn => hn), h.2.drew⟩
theorem flat_next {α : Type} (f : α → List Nat) {l : List α} {q : Nat} {x : α} {p bq b2 : List Nat} (hx : l[q]? = some x) (hb : bq = p ++ (l.take q).flatMap f) (h2 : b2 = bq ++ f x) : b2 = p ++ (l.take (q + 1)).flatMap f := by
 rw [flat_take f hx, ← List.append_assoc, ← hb]; exact h2
set_option maxHeartbeats 16000000 in
theorem rfields_8 (w : World) (r : RV) (h : r.In w All) (hlm : r.lm ≤ 20001) (hdm : r.dm ≤ 20001) (hk : r.k = 8) : Calls Tryz.prog 25 #[r.agg] w (New w (fieldsE r.e)) := by
 obtain ⟨W, hW, hBW, hbx, hsz⟩ := box_rv w r
 obtain ⟨y0, y1, y2, y3, y4, y5, y6, y7, y8, y9, y10, y11, y12, y13, y14⟩ := rcs_cells hbx
 have hh := h.keep (Fr.of_below hBW No) fun _ _ hn => hn
 have HBX := Lib.hid hbx
 have HBW := Lib.hid hBW
 have HLV := Lib.hid hh.l
 have HDV := Lib.hid hh.d
 have c4 : (r.k == 4) = false := by rw [hk]; rfl
 have n4 : (r.k != 4) = true := by rw [hk]; rfl
 have c8 : (r.k == 8) = true := by rw [hk]; rfl
 have n8 : (r.k != 8) = false := by rw [hk]; rfl
 have c1 : (r.k == 1) = false := by rw [hk]; rfl
 have n1 : (r.k != 1) = true := by rw [hk]; rfl
 have c3 : (r.k == 3) = false := by rw [hk]; rfl
 have n3 : (r.k != 3) = true := by rw [hk]; rfl
 have c2 : (r.k == 2) = false := by rw [hk]; rfl
 have n2 : (r.k != 2) = true := by rw [hk]; rfl
 have hwn : IntKind.u64.wrap (r.nx : Int) = (r.nx : Int) := wrap_n (by have := h.nx; omega)
 have HNX : Hid (r.nx < 18446744073709551616) := Lib.hid (by have := h.nx; omega)
 obtain ⟨n, hn⟩ : ∃ n, n = r.lm := ⟨_, rfl⟩
 obtain ⟨m, hm⟩ : ∃ m, m = r.dm := ⟨_, rfl⟩
 have hwl : IntKind.u64.wrap (n : Int) = (n : Int) := wrap_n (by omega)
 have hwd : IntKind.u64.wrap (m : Int) = (m : Int) := wrap_n (by omega)
 have hn2 : n ≤ 20001 := by omega
 have hm2 : m ≤ 20001 := by omega
 rw [← hn] at y12 HLV
 rw [← hm] at y13 HDV
 have HNM := Lib.hid (And.intro hn hm)
 have HK := Lib.hid hk
 simp only [rcs] at hW
 rw [← hn, ← hm] at hW
 unfold RV.agg
 rw [← hn, ← hm]
 have HCS : Hid (∀ wr, Below W.heap.size W wr → wr.cell? ⟨w.heap.size, 12, none⟩ = some (.slice r.lA n r.lc) ∧ wr.cell? ⟨w.heap.size, 13, none⟩ = some (.slice r.dA m r.dc) ∧ wr.cell? ⟨w.heap.size, 14, none⟩ = some (.int .u32 (r.nx : Int)) ∧ wr.cell? ⟨w.heap.size, 0, none⟩ = some (.int .i64 r.k)) := Lib.hid (fun wr hb => by
  obtain ⟨y0, y1, y2, y3, y4, y5, y6, y7, y8, y9, y10, y11, y12, y13, y14⟩ := rcs_cells (HBX.out.below hb HBX.out.lt)
  exact ⟨by rw [hn]; exact y12, by rw [hm]; exact y13, y14, y0⟩)
 clear h hBW hbx hsz hh hlm hdm hk hn hm
 have HP0 := Lib.hid (put_any W (W.alloc (.cells #[.int .u64 (n : Int)] 22)) (.slice none 0 0) [] ((Own.nil_ W).alloc _) W.heap.size 1 1 [n] (Blk.new W 22 #[.int .u64 (n : Int)]) rfl (by simp only [List.mem_cons, List.not_mem_nil, or_false, forall_eq]; omega) (by simp only [List.length_nil]; omega))
 go_enter Tryz.func25, Tryz.ntmps25
 go_wp2_with fail
 with_reducible refine HP0.out.mono ?_
 rintro e w1 ⟨v1, rfl, hown⟩
 obtain ⟨l1, hl1⟩ : ∃ l, l = ([] : List Nat) ++ ([n] : List Nat).flatMap Cd.vi := ⟨_, rfl⟩
 rw [← hl1] at hown
 have HL1 : Hid (l1 = Cd.vi n) := Lib.hid (by rw [hl1]; simp)
 have HO1 := Lib.hid hown
 obtain ⟨y12, y13, y14, y0⟩ := HCS.out w1 hown.2
 have HV1 := Lib.hid (vi_len n (by omega))
 have HVM := Lib.hid (vi_len m (by omega))
 clear hown hl1 HP0
 go_wp2_with fail
 go_loopw [3, 8] (fun v i wr => ∃ (q : Nat) (bq : List Nat), q ≤ n ∧ i = .int .i64 (q : Int) ∧ Own W wr v bq ∧ bq = Cd.vi n ++ (r.ll.take q).flatMap encV) (fun _ i _ => n - (intOf i).toNat)
 case atStart => exact ⟨0, l1, by omega, rfl, HO1.out, by rw [HL1.out]; simp⟩
 case round =>
  obtain ⟨q, bq, hq, rfl, hown, hbq⟩ := hrel
  obtain ⟨vA, vc, hv, _, _, _⟩ := hown.1.reads
  subst hv
  have HO := Lib.hid hown
  have HBQ := Lib.hid hbq
  have HLB : Hid (bq.length ≤ 700000) := Lib.hid (by
   have h1 := flat_mem encV (l := r.ll) (i := q) (m := 31) (fun x hx => LV_enc_len x (HLV.out.2.1 x hx) trivial) (by have := HLV.out.1; omega)
   have h2 := HV1.out
   have h3 := HLV.out.1
   rw [hbq, List.length_append]
   omega)
  obtain ⟨y12, y13, y14, y0⟩ := HCS.out wr hown.2
  by_cases hlt : q < n
  ·have hin : ((q : Int) < (n : Int)) := by omega
   have d1 : decide ((q : Int) < (n : Int)) = true := decide_eq_true hin
   have hWi : IntKind.i64.wrap ((q : Int) + 1) = ((q + 1 : Nat) : Int) := by rw [IntWalk.i64_in _ (by omega)]; omega
   have hwq : IntKind.i64.wrap (q : Int) = (q : Int) := IntWalk.i64_in _ (by omega)
   obtain ⟨gx, o, x, hA, _, _, hx, hxi, b0, b1, b2, b3⟩ := (HLV.out.keep (Fr.of_below hown.2 No) fun _ _ hn => hn).at_ hlt
   rw [hA] at y12
   have HX := Lib.hid (And.intro hx hxi)
   have HT : Hid (x.t < 18446744073709551616 ∧ x.a < 18446744073709551616 ∧ x.b < 18446744073709551616) := Lib.hid ⟨by have := hxi.t; omega, hxi.a, hxi.b⟩
   have hwx : IntKind.u64.wrap (x.t : Int) = (x.t : Int) := wrap_n HT.out.1
   obtain ⟨t, a, b, z⟩ := x
   simp only at b0 b1 b2 b3 hwx HT
   obtain ⟨wa, hwa⟩ : ∃ wa, wr.alloc (.cells #[.int .u32 (t : Int), .int .u64 (a : Int), .int .u64 (b : Int), .bool z] 62) = wa := ⟨_, rfl⟩
   have hbk : Blk wa wr.heap.size 62 #[.int .u32 (t : Int), .int .u64 (a : Int), .int .u64 (b : Int), .bool z] := by rw [← hwa]; exact Blk.new wr 62 _
   have HBK := Lib.hid hbk
   have hoa : Own W wa (.slice vA bq.length vc) bq := by rw [← hwa]; exact hown.alloc _
   have HP := Lib.hid (put_fr W (wa.alloc (.cells #[.int .u64 (t : Int), .int .u64 (a : Int), .int .u64 (b : Int)] 22)) (.slice vA bq.length vc) bq (hoa.alloc _) wa.heap.size 3 3 [t, a, b] (Blk.new wa 22 #[.int .u64 (t : Int), .int .u64 (a : Int), .int .u64 (b : Int)]) rfl (by simp only [List.mem_cons, List.not_mem_nil, or_false, forall_eq_or_imp, forall_eq]; exact HT.out) (by have := HLB.out; omega))
   have e0 := hbk.cell 0
   have e1 := hbk.cell 1
   have e2 := hbk.cell 2
   simp only [List.getElem?_toArray, List.getElem?_cons_zero, List.getElem?_cons_succ] at e0 e1 e2
   clear hown hbq hx hxi hA hbk hoa
   go_wp2_with fail
   with_reducible refine HP.out.mono ?_
   rintro e w2 ⟨v2, rfl, hown, hf2, _⟩
   obtain ⟨l2, hl2⟩ : ∃ l, l = bq ++ ([t, a, b] : List Nat).flatMap Cd.vi := ⟨_, rfl⟩
   rw [← hl2] at hown
   have HO2 := Lib.hid hown
   have HL2 := Lib.hid hl2
   have HLB2 : Hid (l2.length ≤ 700100) := Lib.hid (by
    have h0 := HLB.out
    have h1 := vi_len t HT.out.1
    have h2 := vi_len a HT.out.2.1
    have h3 := vi_len b HT.out.2.2
    rw [hl2, List.length_append]
    simp only [List.flatMap_cons, List.flatMap_nil, List.append_nil, List.length_append]
    omega)
   have e3 := ((HBK.out.alloc (.cells #[.int .u64 (t : Int), .int .u64 (a : Int), .int .u64 (b : Int)] 22)).keep hf2 (fun hk => by have := (HO.out.1.1.lt _ hk).2; omega)).cell 3
   simp only [List.getElem?_toArray, List.getElem?_cons_zero, List.getElem?_cons_succ] at e3
   have HO2b := fun o => Lib.hid (hown.alloc o)
   clear hown hf2 hl2 HP
   cases z with
   | true =>
     have HRB : Hid (RB (w2.alloc (.cells #[.int .u8 1] 5)) (fun b => w2.heap.size ≤ b) (some ⟨w2.heap.size, 0, none⟩) 1 [1]) := Lib.hid (RB.byte w2 1 (by decide))
     go_wp2_with (at_builtin; go_must (refine wpList_app rfl (.tmp 196) (.tmp 197) rfl _ l2.length _ rfl (HO2b (.cells #[.int .u8 1] 5)).out.1 _ (some ⟨w2.heap.size, 0, none⟩) 1 1 [1] rfl HRB.out (by have := HLB2.out; omega) ?_); intro v3 w3 hown hgrow; have HO3 := Lib.hid (Own.step (HO2b (.cells #[.int .u8 1] 5)).out hgrow hown); clear hown hgrow)
     go_roundw
     case rel =>
      refine ⟨q + 1, l2 ++ [1], by omega, by go_num, HO3.out, ?_⟩
      refine flat_next encV HX.out.1 HBQ.out ?_
      rw [HL2.out]
      unfold encV
      simp [Cd.fixB]
     case measure => simp [intOf]; omega
   | false =>
     have HRB : Hid (RB (w2.alloc (.cells #[.int .u8 0] 5)) (fun b => w2.heap.size ≤ b) (some ⟨w2.heap.size, 0, none⟩) 1 [0]) := Lib.hid (RB.byte w2 0 (by decide))
     go_wp2_with (at_builtin; go_must (refine wpList_app rfl (.tmp 199) (.tmp 200) rfl _ l2.length _ rfl (HO2b (.cells #[.int .u8 0] 5)).out.1 _ (some ⟨w2.heap.size, 0, none⟩) 1 1 [0] rfl HRB.out (by have := HLB2.out; omega) ?_); intro v3 w3 hown hgrow; have HO3 := Lib.hid (Own.step (HO2b (.cells #[.int .u8 0] 5)).out hgrow hown); clear hown hgrow)
     go_roundw
     case rel =>
      refine ⟨q + 1, l2 ++ [0], by omega, by go_num, HO3.out, ?_⟩
      refine flat_next encV HX.out.1 HBQ.out ?_
      rw [HL2.out]
      unfold encV
      simp [Cd.fixB]
     case measure => simp [intOf]; omega
  ·have d1 : decide ((q : Int) < (n : Int)) = false := decide_eq_false (by omega)
   have d2 : decide (q < n) = false := decide_eq_false hlt
   have HFL : Hid (bq = encL encV r.ll) := Lib.hid (by
    rw [hbq, List.take_of_length_le (by have := HLV.out.1; omega)]
    unfold encL
    rw [HLV.out.1])
   have HP2 := Lib.hid (put_any W (wr.alloc (.cells #[.int .u64 (m : Int)] 22)) (.slice vA bq.length vc) bq (hown.alloc _) wr.heap.size 1 1 [m] (Blk.new wr 22 #[.int .u64 (m : Int)]) rfl (by simp only [List.mem_cons, List.not_mem_nil, or_false, forall_eq]; omega) (by have := HLB.out; omega))
   clear hown hbq hlt hq
   go_wp2_with fail
   with_reducible refine HP2.out.mono ?_
   rintro e w4 ⟨v4, rfl, hown⟩
   obtain ⟨l4, hl4⟩ : ∃ l, l = bq ++ ([m] : List Nat).flatMap Cd.vi := ⟨_, rfl⟩
   rw [← hl4] at hown
   have HL4 : Hid (l4 = encL encV r.ll ++ Cd.vi m) := Lib.hid (by rw [hl4, ← HFL.out]; simp)
   have HLB4 : Hid (l4.length ≤ 700010) := Lib.hid (by have h0 := HLB.out; have h1 := HVM.out; rw [hl4, List.length_append]; simp only [List.flatMap_cons, List.flatMap_nil, List.append_nil]; omega)
   have HO4 := Lib.hid hown
   obtain ⟨y12, y13, y14, y0⟩ := HCS.out w4 hown.2
   clear hown hl4 HP2
   go_wp2_with fail
   go_loopw [3, 10] (fun v i wz => ∃ (q : Nat) (bq : List Nat), q ≤ m ∧ i = .int .i64 (q : Int) ∧ Own W wz v bq ∧ bq = l4 ++ (r.dl.take q).flatMap encD) (fun _ i _ => m - (intOf i).toNat)
   case atStart => exact ⟨0, l4, by omega, rfl, HO4.out, by simp⟩
   case round =>
    clear HO HBQ HLB HFL
    obtain ⟨q, bq, hq, rfl, hown, hbq⟩ := hrel
    obtain ⟨vA, vc, hv, _, _, _⟩ := hown.1.reads
    subst hv
    have HO := Lib.hid hown
    have HBQ := Lib.hid hbq
    have HLB : Hid (bq.length ≤ 1200000) := Lib.hid (by
     have h1 := flat_mem encD (l := r.dl) (i := q) (m := 20) (fun x hx => DV_enc_len x (HDV.out.2.1 x hx) trivial) (by have := HDV.out.1; omega)
     have h2 := HLB4.out
     have h3 := HDV.out.1
     rw [hbq, List.length_append]
     omega)
    obtain ⟨y12, y13, y14, y0⟩ := HCS.out wr hown.2
    by_cases hlt : q < m
    ·have hin : ((q : Int) < (m : Int)) := by omega
     have d1 : decide ((q : Int) < (m : Int)) = true := decide_eq_true hin
     have hWi : IntKind.i64.wrap ((q : Int) + 1) = ((q + 1 : Nat) : Int) := by rw [IntWalk.i64_in _ (by omega)]; omega
     have hwq : IntKind.i64.wrap (q : Int) = (q : Int) := IntWalk.i64_in _ (by omega)
     obtain ⟨gx, o, x, hA, hgx, _, hx, hxi, b0, b1⟩ := HDV.out.at_ hlt
     rw [hA] at y13
     have HX := Lib.hid hx
     have HT : Hid (x.t < 18446744073709551616 ∧ x.a < 18446744073709551616) := Lib.hid ⟨by have := hxi.t; omega, hxi.a⟩
     have hwx : IntKind.u64.wrap (x.t : Int) = (x.t : Int) := wrap_n HT.out.1
     have HP := Lib.hid (put_fr W (wr.drew.alloc (.cells #[.int .u64 (x.t : Int), .int .u64 (x.a : Int)] 22)) (.slice vA bq.length vc) bq (hown.drew.alloc _) wr.drew.heap.size 2 2 [x.t, x.a] (Blk.new wr.drew 22 #[.int .u64 (x.t : Int), .int .u64 (x.a : Int)]) rfl (by simp only [List.mem_cons, List.not_mem_nil, or_false, forall_eq_or_imp, forall_eq]; exact HT.out) (by have := HLB.out; omega))
     have hWs := HO.out.2.size
     have hr0 := HBX.out.lt
     have H13 := Lib.hid (fun (wq : World) (hS : Fr wr wq (fun b => W.heap.size ≤ b)) => (World.cell?_of_block (hS.block w.heap.size (by omega) (fun h => by omega))).trans y13)
     have HC0 := Lib.hid (fun (wq : World) (hS : Fr wr wq (fun b => W.heap.size ≤ b)) => ((World.cell?_of_block (hS.block gx (by omega) (fun h => by omega))).trans (World.cell?_of_block (hown.2.block gx hgx))).trans b0)
     have HC1 := Lib.hid (fun (wq : World) (hS : Fr wr wq (fun b => W.heap.size ≤ b)) => ((World.cell?_of_block (hS.block gx (by omega) (fun h => by omega))).trans (World.cell?_of_block (hown.2.block gx hgx))).trans b1)
     have HOW : Hid (∀ k, (Value.slice vA bq.length vc).ownBlock = some k → W.heap.size ≤ k) := Lib.hid (fun k hk => hown.1.2.2 k hk)
     clear hown hbq hx hxi hA hgx hWs hr0 b0 b1
     go_upto_region 45 with fail
     refine wp_region_held_drew (S := fun wx => Fr wr wx (fun b => W.heap.size ≤ b)) (by kernel_rfl) ((Fr.refl wr _).drew) (fun hS => ?_)
     refine wpAnyH_take (i := 0) (v := ?_) rfl (by kernel_rfl) (by kernel_rfl) (by kernel_rfl) (fun _ _ _ h => h) (Or.inl ⟨by rfl, ?_⟩) hS ?_
     rotate_left
     ·(intro wq hSw; go_simp; try with_reducible rfl)
     refine wpAnyH_take (i := 1) (v := ?_) rfl (by kernel_rfl) (by kernel_rfl) (by kernel_rfl) (fun _ _ _ h => h) (Or.inl ⟨by rfl, ?_⟩) hS ?_
     rotate_left
     ·(intro wq hSw; go_simp; try with_reducible rfl)
     simp only [List.getElem_toArray, List.getElem_cons_succ, List.getElem_cons_zero, Act.put, List.setIfInBounds_toArray, List.set_cons_succ, List.set_cons_zero]
     refine wpAnyH_take (i := 2) (v := ?_) rfl (by kernel_rfl) (by kernel_rfl) (by kernel_rfl) (fun _ _ _ h => h) (Or.inl ⟨by rfl, ?_⟩) hS ?_
     rotate_left
     ·(intro wq hSw; have hq := H13.out wq hSw; go_simp; try with_reducible rfl)
     simp only [List.getElem_toArray, List.getElem_cons_succ, List.getElem_cons_zero, Act.put, List.setIfInBounds_toArray, List.set_cons_succ, List.set_cons_zero]
     refine wpAnyH_take (i := 3) (v := ?_) rfl (by kernel_rfl) (by kernel_rfl) (by kernel_rfl) (fun _ _ _ h => h) (Or.inl ⟨by rfl, ?_⟩) hS ?_
     rotate_left
     ·(intro wq hSw; go_simp; try with_reducible rfl)
     simp only [List.getElem_toArray, List.getElem_cons_succ, List.getElem_cons_zero, Act.put, List.setIfInBounds_toArray, List.set_cons_succ, List.set_cons_zero]
     refine wpAnyH_take (i := 4) (v := ?_) rfl (by kernel_rfl) (by kernel_rfl) (by kernel_rfl) (fun _ _ _ h => h) (Or.inl ⟨by rfl, ?_⟩) hS ?_
     rotate_left
     ·(intro wq hSw; go_simp; try with_reducible rfl)
     simp only [List.getElem_toArray, List.getElem_cons_succ, List.getElem_cons_zero, Act.put, List.setIfInBounds_toArray, List.set_cons_succ, List.set_cons_zero]
     refine wpAnyH_take (i := 5) (v := ?_) rfl (by kernel_rfl) (by kernel_rfl) (by kernel_rfl) (fun _ _ _ h => h) (Or.inl ⟨by rfl, ?_⟩) hS ?_
     rotate_left
     ·(intro wq hSw; go_simp; try with_reducible rfl)
     simp only [List.getElem_toArray, List.getElem_cons_succ, List.getElem_cons_zero, Act.put, List.setIfInBounds_toArray, List.set_cons_succ, List.set_cons_zero]
     refine wpAnyH_take (i := 6) (v := ?_) rfl (by kernel_rfl) (by kernel_rfl) (by kernel_rfl) (fun _ _ _ h => h) (Or.inl ⟨by rfl, ?_⟩) hS ?_
     rotate_left
     ·(intro wq hSw; have hq := HC0.out wq hSw; go_simp; try with_reducible rfl)
     simp only [List.getElem_toArray, List.getElem_cons_succ, List.getElem_cons_zero, Act.put, List.setIfInBounds_toArray, List.set_cons_succ, List.set_cons_zero]
     refine wpAnyH_take (i := 7) (v := ?_) rfl (by kernel_rfl) (by kernel_rfl) (by kernel_rfl) (fun _ _ _ h => h) (Or.inl ⟨by rfl, ?_⟩) hS ?_
     rotate_left
     ·(intro wq hSw; go_simp; try with_reducible rfl)
     simp only [List.getElem_toArray, List.getElem_cons_succ, List.getElem_cons_zero, Act.put, List.setIfInBounds_toArray, List.set_cons_succ, List.set_cons_zero]
     refine wpAnyH_take (i := 8) (v := ?_) rfl (by kernel_rfl) (by kernel_rfl) (by kernel_rfl) (fun _ _ _ h => h) (Or.inl ⟨by rfl, ?_⟩) hS ?_
     rotate_left
     ·(intro wq hSw; go_simp; try with_reducible rfl)
     simp only [List.getElem_toArray, List.getElem_cons_succ, List.getElem_cons_zero, Act.put, List.setIfInBounds_toArray, List.set_cons_succ, List.set_cons_zero]
     refine wpAnyH_take (i := 9) (v := ?_) rfl (by kernel_rfl) (by kernel_rfl) (by kernel_rfl) (fun _ _ _ h => h) (Or.inl ⟨by rfl, ?_⟩) hS ?_
     rotate_left
     ·(intro wq hSw; have hq := H13.out wq hSw; go_simp; try with_reducible rfl)
     simp only [List.getElem_toArray, List.getElem_cons_succ, List.getElem_cons_zero, Act.put, List.setIfInBounds_toArray, List.set_cons_succ, List.set_cons_zero]
     refine wpAnyH_take (i := 10) (v := ?_) rfl (by kernel_rfl) (by kernel_rfl) (by kernel_rfl) (fun _ _ _ h => h) (Or.inl ⟨by rfl, ?_⟩) hS ?_
     rotate_left
     ·(intro wq hSw; go_simp; try with_reducible rfl)
     simp only [List.getElem_toArray, List.getElem_cons_succ, List.getElem_cons_zero, Act.put, List.setIfInBounds_toArray, List.set_cons_succ, List.set_cons_zero]
     refine wpAnyH_take (i := 11) (v := ?_) rfl (by kernel_rfl) (by kernel_rfl) (by kernel_rfl) (fun _ _ _ h => h) (Or.inl ⟨by rfl, ?_⟩) hS ?_
     rotate_left
     ·(intro wq hSw; go_simp; try with_reducible rfl)
     simp only [List.getElem_toArray, List.getElem_cons_succ, List.getElem_cons_zero, Act.put, List.setIfInBounds_toArray, List.set_cons_succ, List.set_cons_zero]
     refine wpAnyH_take (i := 12) (v := ?_) rfl (by kernel_rfl) (by kernel_rfl) (by kernel_rfl) (fun _ _ _ h => h) (Or.inl ⟨by rfl, ?_⟩) hS ?_
     rotate_left
     ·(intro wq hSw; go_simp; try with_reducible rfl)
     simp only [List.getElem_toArray, List.getElem_cons_succ, List.getElem_cons_zero, Act.put, List.setIfInBounds_toArray, List.set_cons_succ, List.set_cons_zero]
     refine wpAnyH_take (i := 13) (v := ?_) rfl (by kernel_rfl) (by kernel_rfl) (by kernel_rfl) (fun _ _ _ h => h) (Or.inl ⟨by rfl, ?_⟩) hS ?_
     rotate_left
     ·(intro wq hSw; have hq := HC1.out wq hSw; go_simp; try with_reducible rfl)
     simp only [List.getElem_toArray, List.getElem_cons_succ, List.getElem_cons_zero, Act.put, List.setIfInBounds_toArray, List.set_cons_succ, List.set_cons_zero]
     refine wpAnyH_ready (rs := [14]) (by kernel_rfl) (by simp) ?_
     refine AllReadyH.cons rfl (fun K hK => ?_) AllReadyH.nil
     go_simp
     refine hK.out _ _ (hS.alloc _) (fun hS => ?_)
     clear hK K
     refine wpAnyH_ready (rs := [15]) (by kernel_rfl) (by simp) ?_
     refine AllReadyH.cons rfl (fun K hK => ?_) AllReadyH.nil
     go_simp
     refine HP.out.mono ?_
     rintro e w6 ⟨v6, rfl, hown, hf6, _⟩
     obtain ⟨l6, hl6⟩ : ∃ l, l = bq ++ ([x.t, x.a] : List Nat).flatMap Cd.vi := ⟨_, rfl⟩
     rw [← hl6] at hown
     have HO6 := Lib.hid hown
     have HL6 := Lib.hid hl6
     refine hK.out _ _ ?_ (fun hS => ?_)
     ·exact hS.trans hf6 fun k hk => Or.inl (HOW.out k hk)
     clear hK K hown hf6 hl6
     refine wpAnyH_ready (rs := [16]) (by kernel_rfl) (by simp) ?_
     refine AllReadyH.cons rfl (fun K hK => ?_) AllReadyH.nil
     go_simp
     refine hK.out _ _ hS (fun hS => ?_)
     clear hK K
     refine wpAnyH_done (by kernel_rfl) ?_ _
     clear hS
     go_wp2_with fail
     go_roundw
     case rel =>
      refine ⟨q + 1, l6, by omega, by go_num, HO6.out, ?_⟩
      refine flat_next encD HX.out HBQ.out ?_
      rw [HL6.out]
      unfold encD
      simp
     case measure => simp [intOf]; omega
    ·have d1 : decide ((q : Int) < (m : Int)) = false := decide_eq_false (by omega)
     have d2 : decide (q < m) = false := decide_eq_false hlt
     have HFL : Hid (bq = encL encV r.ll ++ encL encD r.dl) := Lib.hid (by
      rw [hbq, HL4.out, List.take_of_length_le (by have := HDV.out.1; omega)]
      unfold encL
      rw [HDV.out.1]
      simp only [List.append_assoc])
     have HP2 := Lib.hid (put_any W (wr.alloc (.cells #[.int .u64 (r.nx : Int)] 22)) (.slice vA bq.length vc) bq (hown.alloc _) wr.heap.size 1 1 [r.nx] (Blk.new wr 22 #[.int .u64 (r.nx : Int)]) rfl (by simp only [List.mem_cons, List.not_mem_nil, or_false, forall_eq]; exact HNX.out) (by have := HLB.out; omega))
     clear hown hbq hlt hq
     go_wp2_with fail
     with_reducible refine HP2.out.mono ?_
     rintro e w7 ⟨v7, rfl, hown⟩
     obtain ⟨l7, hl7⟩ : ∃ l, l = bq ++ ([r.nx] : List Nat).flatMap Cd.vi := ⟨_, rfl⟩
     rw [← hl7] at hown
     have HO7 := Lib.hid hown
     have HL7 := Lib.hid hl7
     clear hown hl7 HP2
     go_wp2_with fail
     go_ret
     have hfin : l7 = fieldsE r.e := by
      rw [HL7.out, HFL.out]
      have hk := HK.out
      unfold fieldsE fmE encX uT uP uU uO uI uC RV.e OV.n
      simp [hk]
     refine ⟨v7, rfl, ?_, HBW.out.trans (HO7.out.2.mono HBW.out.size)⟩
     rw [← hfin]
     exact HO7.out.1.mono fun b _ hb => Nat.le_trans HBW.out.size hb
end Go.Proofs.YtdhgbkibbileiaaGreat
