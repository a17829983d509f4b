/-
TD
-/
import Derived.Test.YtdhgbkibbileiaaGreatTC
set_option maxRecDepth 100000
namespace Go.Proofs.YtdhgbkibbileiaaGreat
open Go.RowKit
def OB (W wr : World) (v : Value) (l : List Nat) (g : Nat) (ty : TypeId) (cs : Array Value) : Prop := Own W wr v l ∧ Blk wr g ty cs
section
variable {W wr w' : World} {v v' : Value} {l : List Nat} {g : Nat} {ty : TypeId} {cs : Array Value}
theorem OB.alloc (h : OB W wr v l g ty cs) (o : Obj) : OB W (wr.alloc o) v l g ty cs := ⟨h.1.alloc o, h.2.alloc o⟩
theorem OB.app {n' : Nat} {l' : List Nat} (h : OB W wr v l g ty cs) (ht : (5 : TypeId) ≠ ty) (hg : wr.grownBy w' v.ownBlock) (hn : Ow w' (fun b => W.heap.size ≤ b ∨ wr.heap.size ≤ b) v' n' l') : OB W w' v' l' g ty cs := ⟨Own.step h.1 hg hn, h.2.grown_ h.1.1.1 ht hg⟩
theorem put_ob (h : OB W wr v l g ty cs) (ht : (5 : TypeId) ≠ ty) (gx m c : Nat) (xs : List Nat) (hb : Blk wr gx 22 (u64s xs)) (hm : xs.length = m) (hx : ∀ x ∈ xs, x < 18446744073709551616) (hl : l.length + 10 * m ≤ 1099511600000) :
  Calls Tryz.prog 46 #[v, .slice (some ⟨gx, 0, none⟩) m c] wr fun e w' => ∃ v', e = .returned v' ∧ OB W w' v' (l ++ xs.flatMap Cd.vi) g ty cs := by
 refine (put_fr W wr v l h.1 gx m c xs hb hm hx hl).mono ?_
 rintro e w' ⟨v', he, ho, hf, _⟩
 exact ⟨v', he, ho, h.2.keep hf (fun hk => h.2.own_ne h.1.1.1 ht hk.symm)⟩
end
set_option maxHeartbeats 16000000 in
theorem rfields_4 (w : World) (r : RV) (h : r.In w All) (hc : Brief r) (hk : r.k = 4) : Calls Tryz.prog 25 #[r.agg] w (New w (fieldsE r.e)) := by
 obtain ⟨W, hW, hBW, hbx, hsz⟩ := box_rv w r
 obtain ⟨y0, y1, y2, y3, y4, y5, y6, y7, y8, y9, y10, y11, y12, y13, y14⟩ := rcs_cells hbx
 have hh := h.keep (Fr.of_below hBW No) fun _ _ hn => hn
 have HBX := Lib.hid hbx
 have HBW := Lib.hid hBW
 have HIV := Lib.hid hh.i
 have HBR := Lib.hid hc
 have c4 : (r.k == 4) = true := by rw [hk]; rfl
 have n4 : (r.k != 4) = false := by rw [hk]; rfl
 have c8 : (r.k == 8) = false := by rw [hk]; rfl
 have n8 : (r.k != 8) = true := by rw [hk]; rfl
 have c1 : (r.k == 1) = false := by rw [hk]; rfl
 have n1 : (r.k != 1) = true := by rw [hk]; rfl
 have c3 : (r.k == 3) = false := by rw [hk]; rfl
 have n3 : (r.k != 3) = true := by rw [hk]; rfl
 have c2 : (r.k == 2) = false := by rw [hk]; rfl
 have n2 : (r.k != 2) = true := by rw [hk]; rfl
 obtain ⟨n, hn⟩ : ∃ n, n = r.im := ⟨_, rfl⟩
 have hwl : IntKind.u64.wrap (n : Int) = (n : Int) := wrap_n (by have := hc.i; omega)
 have hn2 : n ≤ 20001 := by have := hc.i; omega
 rw [← hn] at y11 HIV
 have HNM := Lib.hid hn
 have HK := Lib.hid hk
 simp only [rcs] at hW
 rw [← hn] at hW
 unfold RV.agg
 rw [← hn]
 have HCS : Hid (∀ wr, Below W.heap.size W wr → wr.cell? ⟨w.heap.size, 11, none⟩ = some (.slice r.iA n r.ic) ∧ wr.cell? ⟨w.heap.size, 0, none⟩ = some (.int .i64 r.k)) := Lib.hid (fun wr hb => by
  obtain ⟨y0, y1, y2, y3, y4, y5, y6, y7, y8, y9, y10, y11, y12, y13, y14⟩ := rcs_cells (HBX.out.below hb HBX.out.lt)
  exact ⟨by rw [hn]; exact y11, y0⟩)
 clear h hBW hbx hsz hh hc hk hn
 have HP0 := Lib.hid (put_any W (W.alloc (.cells #[.int .u64 (n : Int)] 22)) (.slice none 0 0) [] ((Own.nil_ W).alloc _) W.heap.size 1 1 [n] (Blk.new W 22 #[.int .u64 (n : Int)]) rfl (by simp only [List.mem_cons, List.not_mem_nil, or_false, forall_eq]; omega) (by simp only [List.length_nil]; omega))
 go_enter Tryz.func25, Tryz.ntmps25
 go_wp2_with fail
 with_reducible refine HP0.out.mono ?_
 rintro e w1 ⟨v1, rfl, hown⟩
 obtain ⟨l1, hl1⟩ : ∃ l, l = ([] : List Nat) ++ ([n] : List Nat).flatMap Cd.vi := ⟨_, rfl⟩
 rw [← hl1] at hown
 have HL1 : Hid (l1 = Cd.vi n) := Lib.hid (by rw [hl1]; simp)
 have HO1 := Lib.hid hown
 obtain ⟨y11, y0⟩ := HCS.out w1 hown.2
 have HV1 := Lib.hid (vi_len n (by omega))
 clear hown hl1 HP0
 go_wp2_with fail
 go_loopw [3, 4] (fun v i wr => ∃ (q : Nat) (bq : List Nat), q ≤ n ∧ i = .int .i64 (q : Int) ∧ Own W wr v bq ∧ bq = Cd.vi n ++ (r.il.take q).flatMap encI) (fun _ i _ => n - (intOf i).toNat)
 case atStart => exact ⟨0, l1, by omega, rfl, HO1.out, by rw [HL1.out]; simp⟩
 case round =>
  obtain ⟨q, bq, hq, rfl, hown, hbq⟩ := hrel
  obtain ⟨vA, vc, hv, _, _, _⟩ := hown.1.reads
  subst hv
  have HO := Lib.hid hown
  have HBQ := Lib.hid hbq
  have HLB : Hid (bq.length ≤ 190000000) := Lib.hid (by
   have h1 := flat_pre encI r.il q
   have h2 := HV1.out
   have h3 := HBR.out.it
   rw [hbq, List.length_append]
   omega)
  obtain ⟨y11, y0⟩ := HCS.out wr hown.2
  by_cases hlt : q < n
  ·have hin : ((q : Int) < (n : Int)) := by omega
   have d1 : decide ((q : Int) < (n : Int)) = true := decide_eq_true hin
   have hWi : IntKind.i64.wrap ((q : Int) + 1) = ((q + 1 : Nat) : Int) := by rw [IntWalk.i64_in _ (by omega)]; omega
   have hwq : IntKind.i64.wrap (q : Int) = (q : Int) := IntWalk.i64_in _ (by omega)
   obtain ⟨gx, o, x, hA, hgx, _, hx, hxi, b0, b1, b2, b3, b4⟩ := HIV.out.at_ hlt
   have hgw : gx < wr.heap.size := by have := hown.2.size; omega
   have b0W := b0
   have b0 := (World.cell?_of_block (hown.2.block gx hgx)).trans b0
   have b1 := (World.cell?_of_block (hown.2.block gx hgx)).trans b1
   have b2 := (World.cell?_of_block (hown.2.block gx hgx)).trans b2
   have b3 := (World.cell?_of_block (hown.2.block gx hgx)).trans b3
   have b4 := (World.cell?_of_block (hown.2.block gx hgx)).trans b4
   rw [hA] at y11
   have hsh := HBR.out.p x (List.mem_of_getElem? hx)
   have HX := Lib.hid (And.intro hx (And.intro hxi hsh))
   have hwx : IntKind.u64.wrap (x.t : Int) = (x.t : Int) := wrap_n (by have := hxi.t; omega)
   have hwn : IntKind.u64.wrap (x.p.x : Int) = (x.p.x : Int) := wrap_n (by have := hxi.p.x; omega)
   have hwm : IntKind.u64.wrap (x.p.n : Int) = (x.p.n : Int) := wrap_n (by have := hsh.1; omega)
   obtain ⟨kk, hkk⟩ : ∃ kk, kk = kb x.p.k := ⟨_, rfl⟩
   have hwk : IntKind.u8.wrap x.p.k = (kk : Int) := by rw [hkk]; exact wrap_kb _
   have HKK := Lib.hid (show kk < 256 ∧ kk = kb x.p.k from ⟨by rw [hkk]; exact kb_lt _, hkk⟩)
   have HT : Hid (x.t < 18446744073709551616 ∧ x.p.x < 18446744073709551616 ∧ x.p.n < 18446744073709551616) := Lib.hid ⟨by have := hxi.t; omega, by have := hxi.p.x; omega, by have := hsh.1; omega⟩
   obtain ⟨wa, hwa⟩ : ∃ wa, wr.alloc (.cells #[.int .i64 x.p.k, .int .u64 (x.p.s : Int), .int .u32 (x.p.x : Int), .slice x.p.A x.p.n x.p.c] 51) = wa := ⟨_, rfl⟩
   have hoa : OB W wa (.slice vA bq.length vc) bq wr.heap.size 51 #[.int .i64 x.p.k, .int .u64 (x.p.s : Int), .int .u32 (x.p.x : Int), .slice x.p.A x.p.n x.p.c] := by rw [← hwa]; exact ⟨hown.alloc _, Blk.new wr 51 _⟩
   have y11a := (HCS.out wa hoa.1.2).1
   rw [hA] at y11a
   have b0a := (World.cell?_of_block (hoa.1.2.block gx hgx)).trans b0W
   have HPT := Lib.hid (put_ob (hoa.alloc (.cells #[.int .u64 (x.t : Int)] 22)) (by decide) wa.heap.size 1 1 [x.t] (Blk.new wa 22 #[.int .u64 (x.t : Int)]) rfl (by simp only [List.mem_cons, List.not_mem_nil, or_false, forall_eq]; exact HT.out.1) (by have := HLB.out; omega))
   clear hown hbq hx hxi hA hgx hgw hsh hkk hoa b0W
   go_wp2_with fail
   with_reducible refine HPT.out.mono ?_
   rintro e w2 ⟨v2, rfl, hob⟩
   obtain ⟨l2, hl2⟩ : ∃ l, l = bq ++ ([x.t] : List Nat).flatMap Cd.vi := ⟨_, rfl⟩
   rw [← hl2] at hob
   have HL2 : Hid (l2 = bq ++ Cd.vi x.t ∧ l2.length ≤ 190000010) := Lib.hid ⟨by rw [hl2]; simp, by have h0 := HLB.out; have h1 := vi_len x.t HT.out.1; rw [hl2, List.length_append]; simp only [List.flatMap_cons, List.flatMap_nil, List.append_nil]; omega⟩
   have e0 := hob.2.cell 0
   simp only [List.getElem?_toArray, List.getElem?_cons_zero] at e0
   have HO2 := Lib.hid (hob.alloc (.cells #[.int .u8 (kk : Int)] 5))
   have HRB := Lib.hid (RB.byte w2 kk HKK.out.1)
   clear hob hl2 HPT
   go_wp2_with (at_builtin; go_must (refine wpList_app rfl (.tmp 117) (.tmp 121) rfl _ l2.length _ rfl HO2.out.1.1 _ (some ⟨w2.heap.size, 0, none⟩) 1 1 [kk] rfl HRB.out (by have := HL2.out.2; omega) ?_); intro v3 w3 hown hgrow; have hob := HO2.out.app (by decide) hgrow hown; obtain ⟨l3, hl3⟩ : ∃ l, l = l2 ++ [kk] := ⟨_, rfl⟩; rw [← hl3] at hob; have HL3 : Hid (l3 = bq ++ (Cd.vi x.t ++ [kk]) ∧ l3.length ≤ 190000011) := Lib.hid ⟨by rw [hl3, HL2.out.1, List.append_assoc], by have := HL2.out.2; rw [hl3, List.length_append]; simp only [List.length_cons, List.length_nil]; omega⟩; have e2 := hob.2.cell 2; have e3 := hob.2.cell 3; simp only [List.getElem?_toArray, List.getElem?_cons_zero, List.getElem?_cons_succ] at e2 e3; have HPN := Lib.hid (put_ob (hob.alloc (.cells #[.int .u64 (x.p.x : Int), .int .u64 (x.p.n : Int)] 22)) (by decide) w3.heap.size 2 2 [x.p.x, x.p.n] (Blk.new w3 22 #[.int .u64 (x.p.x : Int), .int .u64 (x.p.n : Int)]) rfl (by simp only [List.mem_cons, List.not_mem_nil, or_false, forall_eq_or_imp, forall_eq]; exact HT.out.2) (by have := HL3.out.2; omega)); clear hown hgrow hob hl3)
   with_reducible refine HPN.out.mono ?_
   rintro e w4 ⟨v4, rfl, hob⟩
   obtain ⟨l4, hl4⟩ : ∃ l, l = l3 ++ ([x.p.x, x.p.n] : List Nat).flatMap Cd.vi := ⟨_, rfl⟩
   rw [← hl4] at hob
   have HL4 : Hid (l4 = bq ++ (Cd.vi x.t ++ ([kk] ++ (Cd.vi x.p.x ++ Cd.vi x.p.n))) ∧ l4.length ≤ 190000031) := Lib.hid ⟨by rw [hl4, HL3.out.1]; simp, by have h0 := HL3.out.2; have h1 := vi_len x.p.x HT.out.2.1; have h2 := vi_len x.p.n HT.out.2.2; rw [hl4, List.length_append]; simp only [List.flatMap_cons, List.flatMap_nil, List.append_nil, List.length_append]; omega⟩
   have HO4 := Lib.hid hob
   clear hob hl4 HPN
   go_wp2_with fail
   obtain ⟨wo, hwo⟩ : ∃ wo, wo = wr := ⟨_, rfl⟩
   subst hwo
   go_loopw [3, 6] (fun v i wz => ∃ (j : Nat) (bz : List Nat), j ≤ x.p.n ∧ i = .int .i64 (j : Int) ∧ OB W wz v bz wo.heap.size 51 #[.int .i64 x.p.k, .int .u64 (x.p.s : Int), .int .u32 (x.p.x : Int), .slice x.p.A x.p.n x.p.c] ∧ bz = l4 ++ (x.p.l.take j).flatMap (fun y => encC y.e)) (fun _ i _ => x.p.n - (intOf i).toNat)
   case atStart => exact ⟨0, l4, by omega, rfl, HO4.out, by simp⟩
   case round =>
    clear y0 y11 y11a b0 b0a b1 b2 b3 b4 e0 e2 e3
    obtain ⟨j, bz, hj, rfl, hob, hbz⟩ := hrel
    obtain ⟨vA, vc, hv, _, _, _⟩ := hob.1.1.reads
    subst hv
    have HOZ := Lib.hid hob
    have HBZ := Lib.hid hbz
    have HLZ : Hid (bz.length ≤ 390000000) := Lib.hid (by
     have h1 := flat_pre (fun y => encC (CV.e y)) x.p.l j
     have h2 := HL4.out.2
     have h3 := HX.out.2.2.2.2
     rw [hbz, List.length_append]
     omega)
    have e3 := hob.2.cell 3
    simp only [List.getElem?_toArray, List.getElem?_cons_zero, List.getElem?_cons_succ] at e3
    have HW1 := Lib.hid hob.1.2
    by_cases hjl : j < x.p.n
    ·have hinj : ((j : Int) < (x.p.n : Int)) := by omega
     have d5 : decide ((j : Int) < (x.p.n : Int)) = true := decide_eq_true hinj
     have hpn : x.p.n ≤ 20001 := HX.out.2.2.1
     have hWj : IntKind.i64.wrap ((j : Int) + 1) = ((j + 1 : Nat) : Int) := by rw [IntWalk.i64_in _ (by omega)]; omega
     have hwj : IntKind.i64.wrap (j : Int) = (j : Int) := IntWalk.i64_in _ (by omega)
     obtain ⟨gy, oy, y, hAy, hgy, _, hy, hyi, f0, f1, f2⟩ := HX.out.2.1.p.r.at_ hjl
     have f0 := (World.cell?_of_block (hob.1.2.block gy hgy)).trans f0
     have f1 := (World.cell?_of_block (hob.1.2.block gy hgy)).trans f1
     have f2 := (World.cell?_of_block (hob.1.2.block gy hgy)).trans f2
     rw [hAy] at e3
     have hym : y.m ≤ 20001 := HX.out.2.2.2.1 y (List.mem_of_getElem? hy)
     have HY := Lib.hid (And.intro hy (And.intro hyi hym))
     have hwm : IntKind.u64.wrap (y.m : Int) = (y.m : Int) := wrap_n (by omega)
     have hwk2 : IntKind.u64.wrap (y.k : Int) = (y.k : Int) := wrap_n (by have := hyi.k; omega)
     have HTY : Hid (y.m < 18446744073709551616 ∧ y.k < 18446744073709551616) := Lib.hid ⟨by omega, by have := hyi.k; omega⟩
     obtain ⟨wb, hwb⟩ : ∃ wb, wr.alloc (.cells #[.bool y.u, .int .u32 (y.k : Int), .slice y.A y.m y.c] 55) = wb := ⟨_, rfl⟩
     have hb55 : Blk wb wr.heap.size 55 #[.bool y.u, .int .u32 (y.k : Int), .slice y.A y.m y.c] := by rw [← hwb]; exact Blk.new wr 55 _
     have hobb := hob.alloc (.cells #[.bool y.u, .int .u32 (y.k : Int), .slice y.A y.m y.c] 55)
     rw [hwb] at hobb
     have g0 := hb55.cell 0
     have g1 := hb55.cell 1
     have g2 := hb55.cell 2
     simp only [List.getElem?_toArray, List.getElem?_cons_zero, List.getElem?_cons_succ] at g0 g1 g2
     have HB55 := Lib.hid hb55
     have HOBB := Lib.hid hobb
     have HPM := Lib.hid (put_fr W (wb.alloc (.cells #[.int .u64 (y.m : Int)] 22)) (.slice vA bz.length vc) bz (hobb.1.alloc _) wb.heap.size 1 1 [y.m] (Blk.new wb 22 #[.int .u64 (y.m : Int)]) rfl (by simp only [List.mem_cons, List.not_mem_nil, or_false, forall_eq]; exact HTY.out.1) (by have := HLZ.out; omega))
     clear hob hbz hgy hy hyi hAy hym hb55 hobb hpn
     go_wp2_with fail
     with_reducible refine HPM.out.mono ?_
     rintro e w5 ⟨v5, rfl, hown, hf5, _⟩
     obtain ⟨l5, hl5⟩ : ∃ l, l = bz ++ ([y.m] : List Nat).flatMap Cd.vi := ⟨_, rfl⟩
     rw [← hl5] at hown
     have HL5 : Hid (l5 = bz ++ Cd.vi y.m ∧ l5.length ≤ 390000010) := Lib.hid ⟨by rw [hl5]; simp, by have h0 := HLZ.out; have h1 := vi_len y.m HTY.out.1; rw [hl5, List.length_append]; simp only [List.flatMap_cons, List.flatMap_nil, List.append_nil]; omega⟩
     have hne51 := HOBB.out.2.own_ne HOBB.out.1.1.1 (by decide)
     have hne55 := HB55.out.own_ne HOBB.out.1.1.1 (by decide)
     have HB51 := Lib.hid ((HOBB.out.2.alloc (.cells #[.int .u64 (y.m : Int)] 22)).keep hf5 (fun hk => hne51 hk.symm))
     have HB55 := Lib.hid ((HB55.out.alloc (.cells #[.int .u64 (y.m : Int)] 22)).keep hf5 (fun hk => hne55 hk.symm))
     have HO5 := Lib.hid hown
     have g0 := HB55.out.cell 0
     have g1 := HB55.out.cell 1
     have g2 := HB55.out.cell 2
     simp only [List.getElem?_toArray, List.getElem?_cons_zero, List.getElem?_cons_succ] at g0 g1 g2
     clear hown hf5 hl5 hne51 hne55 HPM
     cases hyu : y.u with
     | false =>
       rw [hyu] at g0
       have HYU := Lib.hid hyu
       clear hyu
       go_wp2_with fail
       go_roundw
       case rel =>
        refine ⟨j + 1, l5, by omega, by go_num, ⟨HO5.out, HB51.out⟩, ?_⟩
        refine flat_next (fun y => encC (CV.e y)) HY.out.1 HBZ.out ?_
        rw [HL5.out.1]
        unfold encC CV.e
        have := HY.out.2.1.len
        simp only [HYU.out, this]
        simp
       case measure => simp [intOf]; omega
     | true =>
       rw [hyu] at g0
       have HYU := Lib.hid hyu
       have HPK := Lib.hid (put_fr W (w5.alloc (.cells #[.int .u64 (y.k : Int)] 22)) v5 l5 (HO5.out.alloc _) w5.heap.size 1 1 [y.k] (Blk.new w5 22 #[.int .u64 (y.k : Int)]) rfl (by simp only [List.mem_cons, List.not_mem_nil, or_false, forall_eq]; exact HTY.out.2) (by have := HL5.out.2; omega))
       clear hyu
       go_wp2_with fail
       with_reducible refine HPK.out.mono ?_
       rintro e w6 ⟨v6, rfl, hown, hf6, _⟩
       obtain ⟨l6, hl6⟩ : ∃ l, l = l5 ++ ([y.k] : List Nat).flatMap Cd.vi := ⟨_, rfl⟩
       rw [← hl6] at hown
       have HL6 : Hid (l6 = bz ++ (Cd.vi y.m ++ Cd.vi y.k) ∧ l6.length ≤ 390000020) := Lib.hid ⟨by rw [hl6, HL5.out.1]; simp, by have h0 := HL5.out.2; have h1 := vi_len y.k HTY.out.2; rw [hl6, List.length_append]; simp only [List.flatMap_cons, List.flatMap_nil, List.append_nil]; omega⟩
       have hne51 := HB51.out.own_ne HO5.out.1.1 (by decide)
       have hne55 := HB55.out.own_ne HO5.out.1.1 (by decide)
       have HB51 := Lib.hid ((HB51.out.alloc (.cells #[.int .u64 (y.k : Int)] 22)).keep hf6 (fun hk => hne51 hk.symm))
       have HB55 := Lib.hid ((HB55.out.alloc (.cells #[.int .u64 (y.k : Int)] 22)).keep hf6 (fun hk => hne55 hk.symm))
       have HO6 := Lib.hid hown
       have HRD := Lib.hid (HY.out.2.1.keep (Fr.of_below hown.2 No) fun _ _ hn => hn).b
       have g2 := HB55.out.cell 2
       simp only [List.getElem?_toArray, List.getElem?_cons_zero, List.getElem?_cons_succ] at g2
       clear hown hf6 hl6 hne51 hne55 HPK
       go_wp2_with (at_builtin; go_must (refine wpList_app rfl (.tmp 160) (.tmp 162) rfl _ l6.length _ rfl HO6.out.1 _ y.A y.m y.c y.d rfl HRD.out (by have := HL6.out.2; have := HY.out.2.2; omega) ?_); intro v7 w7 hown hgrow; have hb7 := HB51.out.grown_ HO6.out.1.1 (by decide) hgrow; have HO7 := Lib.hid (And.intro (Own.step HO6.out hgrow hown) hb7); clear hown hgrow hb7)
       go_roundw
       case rel =>
        refine ⟨j + 1, l6 ++ y.d, by omega, by go_num, ⟨HO7.out.1, HO7.out.2⟩, ?_⟩
        refine flat_next (fun y => encC (CV.e y)) HY.out.1 HBZ.out ?_
        rw [HL6.out.1]
        unfold encC CV.e
        have := HY.out.2.1.len
        simp only [HYU.out, this]
        simp
       case measure => simp [intOf]; omega
    ·have d5 : decide ((j : Int) < (x.p.n : Int)) = false := decide_eq_false (by omega)
     have d6 : decide (j < x.p.n) = false := decide_eq_false hjl
     have HFZ : Hid (bz = bq ++ encI x) := Lib.hid (by
      have hl := HX.out.2.1.p.r.1
      rw [hbz, HL4.out.1, List.take_of_length_le (by omega)]
      unfold encI encP PV.es
      rw [encL_map]
      unfold encL
      rw [hl, fix1, ← HKK.out.2]
      simp)
     clear hob hbz hjl hj
     go_wp2_with fail
     go_roundw
     case rel =>
      refine ⟨q + 1, bz, by omega, by go_num, HOZ.out.1, ?_⟩
      exact flat_next encI HX.out.1 HBQ.out HFZ.out
     case measure => simp [intOf]; omega
  ·have d1 : decide ((q : Int) < (n : Int)) = false := decide_eq_false (by omega)
   have d2 : decide (q < n) = false := decide_eq_false hlt
   have HQ := Lib.hid (show q = n by omega)
   clear hown hbq
   go_wp2_with fail
   go_ret
   have hfin : bq = fieldsE r.e := by
    rw [HBQ.out, HQ.out, List.take_of_length_le (by have := HIV.out.1; omega)]
    have hk := HK.out
    unfold fieldsE fmE encX uT uP uU uO uI uC RV.e OV.n
    simp [hk, encL_e]
    unfold encL
    rw [HIV.out.1]
   refine ⟨_, rfl, ?_, HBW.out.trans (HO.out.2.mono HBW.out.size)⟩
   rw [← hfin]
   exact HO.out.1.mono fun b _ hb => Nat.le_trans HBW.out.size hb
theorem rfields_any (w : World) (r : RV) (h : r.In w All) (hc : Brief r) (hk : 1 ≤ r.k ∧ r.k ≤ 8) : Calls Tryz.prog 25 #[r.agg] w (New w (fieldsE r.e)) := by
 rcases (show r.k = 1 ∨ r.k = 2 ∨ r.k = 3 ∨ r.k = 4 ∨ r.k = 5 ∨ r.k = 6 ∨ r.k = 7 ∨ r.k = 8 by omega) with e | e | e | e | e | e | e | e
 ·exact rfields_1 w r h hc.o e
 ·exact rfields_2 w r h hc.o e
 ·exact rfields_3 w r h hc.o e
 ·exact rfields_4 w r h hc e
 ·exact rfields_5 w r h hc.o e
 ·exact rfields_6 w r h hc.o e
 ·exact rfields_7 w r h hc.o e
 ·exact rfields_8 w r h hc.l hc.d e
end Go.Proofs.YtdhgbkibbileiaaGreat
