/-
RT
-/
import Derived.Test.YtdhgbkibbileiaaGreatRS
import Derived.Test.YtdhgbkibbileiaaGreatRK
import Derived.OrdersHeld
import Derived.Deep.RegionHeld
set_option maxRecDepth 100000
namespace Go.Proofs.YtdhgbkibbileiaaGreat
open Go.RowKit
structure RE where
 k : Int
 s : Nat
 t : Nat
 a : Nat
 b : Nat
 pg : Nat
 rt : Nat
 o : ON
 il : List IE
 ll : List LV
 dl : List DV
 nx : Nat
def RV.e (r : RV) : RE := ⟨r.k, r.s, r.t, r.a, r.b, r.pg, r.rt, r.o.n, r.il.map IV.e, r.ll, r.dl, r.nx⟩
structure SX (W1 : World) (S : Nat → Prop) (g lo : Nat) : Prop where
 hS : ∀ b, S b → b < W1.heap.size
 hg : g < W1.heap.size
 ng : ¬ S g
 lo : lo ≤ W1.heap.size
structure ST (W1 : World) (S : Nat → Prop) (p : Option Nat) (g lo : Nat) (wr : World) (ok : Bool) (l : List Nat) (r : RV) : Prop where
 rd : Rd wr S p ok l
 bx : Blk wr g 31 (rcs r)
 inn : r.In wr (fun b => (lo ≤ b ∧ ¬ S b ∧ b ≠ g) ∧ Zf wr b)
 fr : Fr W1 wr (fun b => S b ∨ b = g)
section
variable {W1 wr w' : World} {S : Nat → Prop} {p : Option Nat} {g lo : Nat} {ok ok' : Bool} {l l' : List Nat} {r r' : RV}
theorem ST.call (hx : SX W1 S g lo) (h : ST W1 S p g lo wr ok l r) (hr : Rd w' S p ok' l') (hf : Fr wr w' S) : ST W1 S p g lo w' ok' l' r :=
 ⟨hr, h.bx.keep hf hx.ng, h.inn.up hf (fun _ hb => hb.2.1), h.fr.trans hf fun _ hb => Or.inl (Or.inl hb)⟩
theorem ST.drew (h : ST W1 S p g lo wr ok l r) : ST W1 S p g lo wr.drew ok l r :=
 ⟨h.rd.drew, h.bx.keep ((Fr.refl wr No).drew) (fun hn => hn), h.inn.up ((Fr.refl wr No).drew) (fun _ _ hn => hn), h.fr.drew⟩
theorem ST.alloc (h : ST W1 S p g lo wr ok l r) (o : Obj) : ST W1 S p g lo (wr.alloc o) ok l r :=
 ⟨h.rd.keep ((Fr.refl wr No).alloc o) (fun _ _ hn => hn), h.bx.alloc o, h.inn.up ((Fr.refl wr No).alloc o) (fun _ _ hn => hn), h.fr.alloc o⟩
theorem ST.to (hx : SX W1 S g lo) (h : ST W1 S p g lo wr ok l r) (hf : Fr wr w' (fun b => b = g)) (hb : Blk w' g 31 (rcs r')) (hin : r'.In wr (fun b => (lo ≤ b ∧ ¬ S b ∧ b ≠ g) ∧ Zf wr b)) : ST W1 S p g lo w' ok l r' :=
 ⟨h.rd.keep hf (fun _ hb hn => hx.ng (hn ▸ hb)), hb, hin.up hf (fun _ hb hn => hb.2.2 hn), h.fr.trans hf fun _ hb => Or.inl (Or.inr hb)⟩
end
def RFn (W1 : World) (S : Nat → Prop) (p : Option Nat) (g lo : Nat) (f : Nat) (caps : List Value) (step : RE → Bool → List Nat → RE × Bool × List Nat) : Prop :=
 ∀ wr ok l r, ST W1 S p g lo wr ok l r → l.length ≤ 20000 → Calls Tryz.prog f (ptr p :: caps).toArray wr fun e w' => e = .returned (.tuple #[]) ∧ ∃ r', ST W1 S p g lo w' (step r.e ok l).2.1 (step r.e ok l).2.2 r' ∧ r'.e = (step r.e ok l).1
set_option maxHeartbeats 1000000 in
theorem set71 (w : World) (g br x : Nat) (r : RV) (h0 : Blk w br 83 #[.pointer (some ⟨g, 0, none⟩)]) (hb : Blk w g 31 (rcs r)) : Calls Tryz.prog 71 #[.int .u64 (x : Int), .pointer (some ⟨br, 0, none⟩)] w fun e w' => e = .returned (.tuple #[]) ∧ w' = w.setCell ⟨g, 2, none⟩ (.int .u32 ((n32 x : Nat) : Int)) := by
 obtain ⟨u, hu⟩ : ∃ u, u = n32 x := ⟨_, rfl⟩
 have g1 := wrap_n32 x
 rw [← hu] at g1 ⊢
 clear hu
 have z0 := h0.cell 0
 obtain ⟨y0, y1, y2, y3, y4, y5, y6, y7, y8, y9, y10, y11, y12, y13, y14⟩ := rcs_cells hb
 have yf := hb.frozen 2
 simp only [List.getElem?_toArray, List.getElem?_cons_zero] at z0
 clear h0 hb
 go_enter Tryz.func71, Tryz.ntmps71
 go_wp2_with fail
 go_end0
 exact ⟨rfl, rfl⟩
def s71 (r : RE) (ok : Bool) (l : List Nat) : RE × Bool × List Nat := ({ r with t := n32 (rI ok l).1 }, (rI ok l).2)
set_option maxHeartbeats 2000000 in
theorem rnum71 (W1 : World) (S : Nat → Prop) (p : Option Nat) (g lo n br : Nat) (hx : SX W1 S g lo) (hbx : Blk W1 n 123 #[.func (.func 71) #[] #[.pointer (some ⟨br, 0, none⟩)]]) (hn : ¬ (S n ∨ n = g)) (hbr : Blk W1 br 83 #[.pointer (some ⟨g, 0, none⟩)]) (hr : ¬ (S br ∨ br = g)) :
  RFn W1 S p g lo 107 [.pointer (some ⟨n, 0, none⟩)] s71 := by
 intro wr ok l r h hl
 obtain ⟨x, o1, l1, e1⟩ : ∃ x o1 l1, rI ok l = (x, o1, l1) := ⟨_, _, _, rfl⟩
 have hxl : x < 18446744073709551616 := by
  have := front_val_lt ok l
  rw [e1] at this
  exact this
 unfold s71
 rw [e1]
 have HX := Lib.hid hx
 have HH := Lib.hid h
 have HXL := Lib.hid hxl
 have H1 := Lib.hid (rI_any wr.drew S p ok l h.rd.drew x o1 l1 e1)
 have HBX := Lib.hid (hbx.keep h.fr hn)
 have HBR := Lib.hid (hbr.keep h.fr hr)
 have HNG := Lib.hid (show ¬ (S n ∨ n = g) from hn)
 have HNN := Lib.hid (show ¬ S n ∧ ¬ S br from ⟨fun hs => hn (Or.inl hs), fun hs => hr (Or.inl hs)⟩)
 clear hx h hbx hbr hn hr e1 hxl hl
 show Calls Tryz.prog 107 #[ptr p, .pointer (some ⟨n, 0, none⟩)] wr _
 go_enter Tryz.func107, Tryz.ntmps107
 refine wp_region_held_drew (S := fun wx => Fr wr wx (fun b => S b ∨ b = g)) (by kernel_rfl) ((Fr.refl wr _).drew) (fun hS => ?_)
 refine wpAnyH_take (i := 0) (v := ?_) rfl (by kernel_rfl) (by kernel_rfl) (by kernel_rfl) (fun _ _ _ h => h) (Or.inl ⟨by rfl, ?_⟩) hS ?_
 rotate_left
 ·(intro wq hSw; have hq := (HBX.out.keep hSw HNG.out).cell 0; simp only [List.getElem?_toArray, List.getElem?_cons_zero] at hq; go_simp; try with_reducible rfl)
 refine wpAnyH_take (i := 1) (v := ?_) rfl (by kernel_rfl) (by kernel_rfl) (by kernel_rfl) (fun _ _ _ h => h) (Or.inl ⟨by rfl, ?_⟩) hS ?_
 rotate_left
 ·(intro wq hSw; go_simp; try with_reducible rfl)
 simp only [List.getElem_toArray, Act.put]
 refine wpAnyH_ready (rs := [2]) (by kernel_rfl) (by simp) ?_
 refine AllReadyH.cons rfl (fun K hK => ?_) AllReadyH.nil
 go_simp
 refine H1.out.mono ?_
 rintro e w2 ⟨rfl, hr2, hf2⟩
 have HS2 := Lib.hid (HH.out.drew.call HX.out hr2 hf2)
 have HBR2 := Lib.hid ((HBR.out.keep ((Fr.refl wr No).drew) (fun hn => hn)).keep hf2 HNN.out.2)
 have HST := Lib.hid (set71 w2 g br x r HBR2.out HS2.out.bx)
 refine hK.out _ _ ?_ (fun hS => ?_)
 ·exact hS.trans hf2 fun _ hb => Or.inl (Or.inl hb)
 clear hK K hr2 hf2
 refine wpAnyH_ready (rs := [3]) (by kernel_rfl) (by simp) ?_
 refine AllReadyH.cons rfl (fun K hK => ?_) AllReadyH.nil
 go_simp
 refine HST.out.mono ?_
 rintro e w3 ⟨rfl, rfl⟩
 refine hK.out _ _ ?_ (fun hS => ?_)
 ·exact hS.setCell (p := ⟨g, 2, none⟩) (Or.inl (Or.inr rfl)) _
 clear hK K
 refine wpAnyH_done (by kernel_rfl) ?_ _
 clear hS
 go_wp2_with fail
 go_end0
 refine ⟨rfl, { r with t := n32 x }, ?_, rfl⟩
 have hin := HS2.out.inn
 refine HS2.out.to HX.out ((Fr.refl w2 (fun b => b = g)).setCell (p := ⟨g, 2, none⟩) (Or.inl rfl) _) ?_ ?_
 ·exact HS2.out.bx.set_ 2 _
 ·exact { hin with t := n32_lt x }
set_option maxHeartbeats 1000000 in
theorem set72 (w : World) (g br x : Nat) (r : RV) (h0 : Blk w br 83 #[.pointer (some ⟨g, 0, none⟩)]) (hb : Blk w g 31 (rcs r)) : Calls Tryz.prog 72 #[.int .u64 (x : Int), .pointer (some ⟨br, 0, none⟩)] w fun e w' => e = .returned (.tuple #[]) ∧ w' = w.setCell ⟨g, 3, none⟩ (.int .u64 ((x : Nat) : Int)) := by
 have z0 := h0.cell 0
 obtain ⟨y0, y1, y2, y3, y4, y5, y6, y7, y8, y9, y10, y11, y12, y13, y14⟩ := rcs_cells hb
 have yf := hb.frozen 3
 simp only [List.getElem?_toArray, List.getElem?_cons_zero] at z0
 clear h0 hb
 go_enter Tryz.func72, Tryz.ntmps72
 go_wp2_with fail
 go_end0
 exact ⟨rfl, rfl⟩
def s72 (r : RE) (ok : Bool) (l : List Nat) : RE × Bool × List Nat := ({ r with a := (rI ok l).1 }, (rI ok l).2)
set_option maxHeartbeats 2000000 in
theorem rnum72 (W1 : World) (S : Nat → Prop) (p : Option Nat) (g lo n br : Nat) (hx : SX W1 S g lo) (hbx : Blk W1 n 123 #[.func (.func 72) #[] #[.pointer (some ⟨br, 0, none⟩)]]) (hn : ¬ (S n ∨ n = g)) (hbr : Blk W1 br 83 #[.pointer (some ⟨g, 0, none⟩)]) (hr : ¬ (S br ∨ br = g)) :
  RFn W1 S p g lo 107 [.pointer (some ⟨n, 0, none⟩)] s72 := by
 intro wr ok l r h hl
 obtain ⟨x, o1, l1, e1⟩ : ∃ x o1 l1, rI ok l = (x, o1, l1) := ⟨_, _, _, rfl⟩
 have hxl : x < 18446744073709551616 := by
  have := front_val_lt ok l
  rw [e1] at this
  exact this
 unfold s72
 rw [e1]
 have HX := Lib.hid hx
 have HH := Lib.hid h
 have HXL := Lib.hid hxl
 have H1 := Lib.hid (rI_any wr.drew S p ok l h.rd.drew x o1 l1 e1)
 have HBX := Lib.hid (hbx.keep h.fr hn)
 have HBR := Lib.hid (hbr.keep h.fr hr)
 have HNG := Lib.hid (show ¬ (S n ∨ n = g) from hn)
 have HNN := Lib.hid (show ¬ S n ∧ ¬ S br from ⟨fun hs => hn (Or.inl hs), fun hs => hr (Or.inl hs)⟩)
 clear hx h hbx hbr hn hr e1 hxl hl
 show Calls Tryz.prog 107 #[ptr p, .pointer (some ⟨n, 0, none⟩)] wr _
 go_enter Tryz.func107, Tryz.ntmps107
 refine wp_region_held_drew (S := fun wx => Fr wr wx (fun b => S b ∨ b = g)) (by kernel_rfl) ((Fr.refl wr _).drew) (fun hS => ?_)
 refine wpAnyH_take (i := 0) (v := ?_) rfl (by kernel_rfl) (by kernel_rfl) (by kernel_rfl) (fun _ _ _ h => h) (Or.inl ⟨by rfl, ?_⟩) hS ?_
 rotate_left
 ·(intro wq hSw; have hq := (HBX.out.keep hSw HNG.out).cell 0; simp only [List.getElem?_toArray, List.getElem?_cons_zero] at hq; go_simp; try with_reducible rfl)
 refine wpAnyH_take (i := 1) (v := ?_) rfl (by kernel_rfl) (by kernel_rfl) (by kernel_rfl) (fun _ _ _ h => h) (Or.inl ⟨by rfl, ?_⟩) hS ?_
 rotate_left
 ·(intro wq hSw; go_simp; try with_reducible rfl)
 simp only [List.getElem_toArray, Act.put]
 refine wpAnyH_ready (rs := [2]) (by kernel_rfl) (by simp) ?_
 refine AllReadyH.cons rfl (fun K hK => ?_) AllReadyH.nil
 go_simp
 refine H1.out.mono ?_
 rintro e w2 ⟨rfl, hr2, hf2⟩
 have HS2 := Lib.hid (HH.out.drew.call HX.out hr2 hf2)
 have HBR2 := Lib.hid ((HBR.out.keep ((Fr.refl wr No).drew) (fun hn => hn)).keep hf2 HNN.out.2)
 have HST := Lib.hid (set72 w2 g br x r HBR2.out HS2.out.bx)
 refine hK.out _ _ ?_ (fun hS => ?_)
 ·exact hS.trans hf2 fun _ hb => Or.inl (Or.inl hb)
 clear hK K hr2 hf2
 refine wpAnyH_ready (rs := [3]) (by kernel_rfl) (by simp) ?_
 refine AllReadyH.cons rfl (fun K hK => ?_) AllReadyH.nil
 go_simp
 refine HST.out.mono ?_
 rintro e w3 ⟨rfl, rfl⟩
 refine hK.out _ _ ?_ (fun hS => ?_)
 ·exact hS.setCell (p := ⟨g, 3, none⟩) (Or.inl (Or.inr rfl)) _
 clear hK K
 refine wpAnyH_done (by kernel_rfl) ?_ _
 clear hS
 go_wp2_with fail
 go_end0
 refine ⟨rfl, { r with a := x }, ?_, rfl⟩
 have hin := HS2.out.inn
 refine HS2.out.to HX.out ((Fr.refl w2 (fun b => b = g)).setCell (p := ⟨g, 3, none⟩) (Or.inl rfl) _) ?_ ?_
 ·exact HS2.out.bx.set_ 3 _
 ·exact { hin with a := HXL.out }
set_option maxHeartbeats 1000000 in
theorem set73 (w : World) (g br x : Nat) (r : RV) (h0 : Blk w br 83 #[.pointer (some ⟨g, 0, none⟩)]) (hb : Blk w g 31 (rcs r)) : Calls Tryz.prog 73 #[.int .u64 (x : Int), .pointer (some ⟨br, 0, none⟩)] w fun e w' => e = .returned (.tuple #[]) ∧ w' = w.setCell ⟨g, 4, none⟩ (.int .u64 ((x : Nat) : Int)) := by
 have z0 := h0.cell 0
 obtain ⟨y0, y1, y2, y3, y4, y5, y6, y7, y8, y9, y10, y11, y12, y13, y14⟩ := rcs_cells hb
 have yf := hb.frozen 4
 simp only [List.getElem?_toArray, List.getElem?_cons_zero] at z0
 clear h0 hb
 go_enter Tryz.func73, Tryz.ntmps73
 go_wp2_with fail
 go_end0
 exact ⟨rfl, rfl⟩
def s73 (r : RE) (ok : Bool) (l : List Nat) : RE × Bool × List Nat := ({ r with b := (rI ok l).1 }, (rI ok l).2)
set_option maxHeartbeats 2000000 in
theorem rnum73 (W1 : World) (S : Nat → Prop) (p : Option Nat) (g lo n br : Nat) (hx : SX W1 S g lo) (hbx : Blk W1 n 123 #[.func (.func 73) #[] #[.pointer (some ⟨br, 0, none⟩)]]) (hn : ¬ (S n ∨ n = g)) (hbr : Blk W1 br 83 #[.pointer (some ⟨g, 0, none⟩)]) (hr : ¬ (S br ∨ br = g)) :
  RFn W1 S p g lo 107 [.pointer (some ⟨n, 0, none⟩)] s73 := by
 intro wr ok l r h hl
 obtain ⟨x, o1, l1, e1⟩ : ∃ x o1 l1, rI ok l = (x, o1, l1) := ⟨_, _, _, rfl⟩
 have hxl : x < 18446744073709551616 := by
  have := front_val_lt ok l
  rw [e1] at this
  exact this
 unfold s73
 rw [e1]
 have HX := Lib.hid hx
 have HH := Lib.hid h
 have HXL := Lib.hid hxl
 have H1 := Lib.hid (rI_any wr.drew S p ok l h.rd.drew x o1 l1 e1)
 have HBX := Lib.hid (hbx.keep h.fr hn)
 have HBR := Lib.hid (hbr.keep h.fr hr)
 have HNG := Lib.hid (show ¬ (S n ∨ n = g) from hn)
 have HNN := Lib.hid (show ¬ S n ∧ ¬ S br from ⟨fun hs => hn (Or.inl hs), fun hs => hr (Or.inl hs)⟩)
 clear hx h hbx hbr hn hr e1 hxl hl
 show Calls Tryz.prog 107 #[ptr p, .pointer (some ⟨n, 0, none⟩)] wr _
 go_enter Tryz.func107, Tryz.ntmps107
 refine wp_region_held_drew (S := fun wx => Fr wr wx (fun b => S b ∨ b = g)) (by kernel_rfl) ((Fr.refl wr _).drew) (fun hS => ?_)
 refine wpAnyH_take (i := 0) (v := ?_) rfl (by kernel_rfl) (by kernel_rfl) (by kernel_rfl) (fun _ _ _ h => h) (Or.inl ⟨by rfl, ?_⟩) hS ?_
 rotate_left
 ·(intro wq hSw; have hq := (HBX.out.keep hSw HNG.out).cell 0; simp only [List.getElem?_toArray, List.getElem?_cons_zero] at hq; go_simp; try with_reducible rfl)
 refine wpAnyH_take (i := 1) (v := ?_) rfl (by kernel_rfl) (by kernel_rfl) (by kernel_rfl) (fun _ _ _ h => h) (Or.inl ⟨by rfl, ?_⟩) hS ?_
 rotate_left
 ·(intro wq hSw; go_simp; try with_reducible rfl)
 simp only [List.getElem_toArray, Act.put]
 refine wpAnyH_ready (rs := [2]) (by kernel_rfl) (by simp) ?_
 refine AllReadyH.cons rfl (fun K hK => ?_) AllReadyH.nil
 go_simp
 refine H1.out.mono ?_
 rintro e w2 ⟨rfl, hr2, hf2⟩
 have HS2 := Lib.hid (HH.out.drew.call HX.out hr2 hf2)
 have HBR2 := Lib.hid ((HBR.out.keep ((Fr.refl wr No).drew) (fun hn => hn)).keep hf2 HNN.out.2)
 have HST := Lib.hid (set73 w2 g br x r HBR2.out HS2.out.bx)
 refine hK.out _ _ ?_ (fun hS => ?_)
 ·exact hS.trans hf2 fun _ hb => Or.inl (Or.inl hb)
 clear hK K hr2 hf2
 refine wpAnyH_ready (rs := [3]) (by kernel_rfl) (by simp) ?_
 refine AllReadyH.cons rfl (fun K hK => ?_) AllReadyH.nil
 go_simp
 refine HST.out.mono ?_
 rintro e w3 ⟨rfl, rfl⟩
 refine hK.out _ _ ?_ (fun hS => ?_)
 ·exact hS.setCell (p := ⟨g, 4, none⟩) (Or.inl (Or.inr rfl)) _
 clear hK K
 refine wpAnyH_done (by kernel_rfl) ?_ _
 clear hS
 go_wp2_with fail
 go_end0
 refine ⟨rfl, { r with b := x }, ?_, rfl⟩
 have hin := HS2.out.inn
 refine HS2.out.to HX.out ((Fr.refl w2 (fun b => b = g)).setCell (p := ⟨g, 4, none⟩) (Or.inl rfl) _) ?_ ?_
 ·exact HS2.out.bx.set_ 4 _
 ·exact { hin with b := HXL.out }
set_option maxHeartbeats 1000000 in
theorem set74 (w : World) (g br x : Nat) (r : RV) (h0 : Blk w br 83 #[.pointer (some ⟨g, 0, none⟩)]) (hb : Blk w g 31 (rcs r)) : Calls Tryz.prog 74 #[.int .u64 (x : Int), .pointer (some ⟨br, 0, none⟩)] w fun e w' => e = .returned (.tuple #[]) ∧ w' = w.setCell ⟨g, 5, none⟩ (.int .u32 ((n32 x : Nat) : Int)) := by
 obtain ⟨u, hu⟩ : ∃ u, u = n32 x := ⟨_, rfl⟩
 have g1 := wrap_n32 x
 rw [← hu] at g1 ⊢
 clear hu
 have z0 := h0.cell 0
 obtain ⟨y0, y1, y2, y3, y4, y5, y6, y7, y8, y9, y10, y11, y12, y13, y14⟩ := rcs_cells hb
 have yf := hb.frozen 5
 simp only [List.getElem?_toArray, List.getElem?_cons_zero] at z0
 clear h0 hb
 go_enter Tryz.func74, Tryz.ntmps74
 go_wp2_with fail
 go_end0
 exact ⟨rfl, rfl⟩
def s74 (r : RE) (ok : Bool) (l : List Nat) : RE × Bool × List Nat := ({ r with pg := n32 (rI ok l).1 }, (rI ok l).2)
set_option maxHeartbeats 2000000 in
theorem rnum74 (W1 : World) (S : Nat → Prop) (p : Option Nat) (g lo n br : Nat) (hx : SX W1 S g lo) (hbx : Blk W1 n 123 #[.func (.func 74) #[] #[.pointer (some ⟨br, 0, none⟩)]]) (hn : ¬ (S n ∨ n = g)) (hbr : Blk W1 br 83 #[.pointer (some ⟨g, 0, none⟩)]) (hr : ¬ (S br ∨ br = g)) :
  RFn W1 S p g lo 107 [.pointer (some ⟨n, 0, none⟩)] s74 := by
 intro wr ok l r h hl
 obtain ⟨x, o1, l1, e1⟩ : ∃ x o1 l1, rI ok l = (x, o1, l1) := ⟨_, _, _, rfl⟩
 have hxl : x < 18446744073709551616 := by
  have := front_val_lt ok l
  rw [e1] at this
  exact this
 unfold s74
 rw [e1]
 have HX := Lib.hid hx
 have HH := Lib.hid h
 have HXL := Lib.hid hxl
 have H1 := Lib.hid (rI_any wr.drew S p ok l h.rd.drew x o1 l1 e1)
 have HBX := Lib.hid (hbx.keep h.fr hn)
 have HBR := Lib.hid (hbr.keep h.fr hr)
 have HNG := Lib.hid (show ¬ (S n ∨ n = g) from hn)
 have HNN := Lib.hid (show ¬ S n ∧ ¬ S br from ⟨fun hs => hn (Or.inl hs), fun hs => hr (Or.inl hs)⟩)
 clear hx h hbx hbr hn hr e1 hxl hl
 show Calls Tryz.prog 107 #[ptr p, .pointer (some ⟨n, 0, none⟩)] wr _
 go_enter Tryz.func107, Tryz.ntmps107
 refine wp_region_held_drew (S := fun wx => Fr wr wx (fun b => S b ∨ b = g)) (by kernel_rfl) ((Fr.refl wr _).drew) (fun hS => ?_)
 refine wpAnyH_take (i := 0) (v := ?_) rfl (by kernel_rfl) (by kernel_rfl) (by kernel_rfl) (fun _ _ _ h => h) (Or.inl ⟨by rfl, ?_⟩) hS ?_
 rotate_left
 ·(intro wq hSw; have hq := (HBX.out.keep hSw HNG.out).cell 0; simp only [List.getElem?_toArray, List.getElem?_cons_zero] at hq; go_simp; try with_reducible rfl)
 refine wpAnyH_take (i := 1) (v := ?_) rfl (by kernel_rfl) (by kernel_rfl) (by kernel_rfl) (fun _ _ _ h => h) (Or.inl ⟨by rfl, ?_⟩) hS ?_
 rotate_left
 ·(intro wq hSw; go_simp; try with_reducible rfl)
 simp only [List.getElem_toArray, Act.put]
 refine wpAnyH_ready (rs := [2]) (by kernel_rfl) (by simp) ?_
 refine AllReadyH.cons rfl (fun K hK => ?_) AllReadyH.nil
 go_simp
 refine H1.out.mono ?_
 rintro e w2 ⟨rfl, hr2, hf2⟩
 have HS2 := Lib.hid (HH.out.drew.call HX.out hr2 hf2)
 have HBR2 := Lib.hid ((HBR.out.keep ((Fr.refl wr No).drew) (fun hn => hn)).keep hf2 HNN.out.2)
 have HST := Lib.hid (set74 w2 g br x r HBR2.out HS2.out.bx)
 refine hK.out _ _ ?_ (fun hS => ?_)
 ·exact hS.trans hf2 fun _ hb => Or.inl (Or.inl hb)
 clear hK K hr2 hf2
 refine wpAnyH_ready (rs := [3]) (by kernel_rfl) (by simp) ?_
 refine AllReadyH.cons rfl (fun K hK => ?_) AllReadyH.nil
 go_simp
 refine HST.out.mono ?_
 rintro e w3 ⟨rfl, rfl⟩
 refine hK.out _ _ ?_ (fun hS => ?_)
 ·exact hS.setCell (p := ⟨g, 5, none⟩) (Or.inl (Or.inr rfl)) _
 clear hK K
 refine wpAnyH_done (by kernel_rfl) ?_ _
 clear hS
 go_wp2_with fail
 go_end0
 refine ⟨rfl, { r with pg := n32 x }, ?_, rfl⟩
 have hin := HS2.out.inn
 refine HS2.out.to HX.out ((Fr.refl w2 (fun b => b = g)).setCell (p := ⟨g, 5, none⟩) (Or.inl rfl) _) ?_ ?_
 ·exact HS2.out.bx.set_ 5 _
 ·exact { hin with pg := n32_lt x }
set_option maxHeartbeats 1000000 in
theorem set75 (w : World) (g br x : Nat) (r : RV) (h0 : Blk w br 83 #[.pointer (some ⟨g, 0, none⟩)]) (hb : Blk w g 31 (rcs r)) : Calls Tryz.prog 75 #[.int .u64 (x : Int), .pointer (some ⟨br, 0, none⟩)] w fun e w' => e = .returned (.tuple #[]) ∧ w' = w.setCell ⟨g, 6, none⟩ (.int .u32 ((n32 x : Nat) : Int)) := by
 obtain ⟨u, hu⟩ : ∃ u, u = n32 x := ⟨_, rfl⟩
 have g1 := wrap_n32 x
 rw [← hu] at g1 ⊢
 clear hu
 have z0 := h0.cell 0
 obtain ⟨y0, y1, y2, y3, y4, y5, y6, y7, y8, y9, y10, y11, y12, y13, y14⟩ := rcs_cells hb
 have yf := hb.frozen 6
 simp only [List.getElem?_toArray, List.getElem?_cons_zero] at z0
 clear h0 hb
 go_enter Tryz.func75, Tryz.ntmps75
 go_wp2_with fail
 go_end0
 exact ⟨rfl, rfl⟩
def s75 (r : RE) (ok : Bool) (l : List Nat) : RE × Bool × List Nat := ({ r with rt := n32 (rI ok l).1 }, (rI ok l).2)
set_option maxHeartbeats 2000000 in
theorem rnum75 (W1 : World) (S : Nat → Prop) (p : Option Nat) (g lo n br : Nat) (hx : SX W1 S g lo) (hbx : Blk W1 n 123 #[.func (.func 75) #[] #[.pointer (some ⟨br, 0, none⟩)]]) (hn : ¬ (S n ∨ n = g)) (hbr : Blk W1 br 83 #[.pointer (some ⟨g, 0, none⟩)]) (hr : ¬ (S br ∨ br = g)) :
  RFn W1 S p g lo 107 [.pointer (some ⟨n, 0, none⟩)] s75 := by
 intro wr ok l r h hl
 obtain ⟨x, o1, l1, e1⟩ : ∃ x o1 l1, rI ok l = (x, o1, l1) := ⟨_, _, _, rfl⟩
 have hxl : x < 18446744073709551616 := by
  have := front_val_lt ok l
  rw [e1] at this
  exact this
 unfold s75
 rw [e1]
 have HX := Lib.hid hx
 have HH := Lib.hid h
 have HXL := Lib.hid hxl
 have H1 := Lib.hid (rI_any wr.drew S p ok l h.rd.drew x o1 l1 e1)
 have HBX := Lib.hid (hbx.keep h.fr hn)
 have HBR := Lib.hid (hbr.keep h.fr hr)
 have HNG := Lib.hid (show ¬ (S n ∨ n = g) from hn)
 have HNN := Lib.hid (show ¬ S n ∧ ¬ S br from ⟨fun hs => hn (Or.inl hs), fun hs => hr (Or.inl hs)⟩)
 clear hx h hbx hbr hn hr e1 hxl hl
 show Calls Tryz.prog 107 #[ptr p, .pointer (some ⟨n, 0, none⟩)] wr _
 go_enter Tryz.func107, Tryz.ntmps107
 refine wp_region_held_drew (S := fun wx => Fr wr wx (fun b => S b ∨ b = g)) (by kernel_rfl) ((Fr.refl wr _).drew) (fun hS => ?_)
 refine wpAnyH_take (i := 0) (v := ?_) rfl (by kernel_rfl) (by kernel_rfl) (by kernel_rfl) (fun _ _ _ h => h) (Or.inl ⟨by rfl, ?_⟩) hS ?_
 rotate_left
 ·(intro wq hSw; have hq := (HBX.out.keep hSw HNG.out).cell 0; simp only [List.getElem?_toArray, List.getElem?_cons_zero] at hq; go_simp; try with_reducible rfl)
 refine wpAnyH_take (i := 1) (v := ?_) rfl (by kernel_rfl) (by kernel_rfl) (by kernel_rfl) (fun _ _ _ h => h) (Or.inl ⟨by rfl, ?_⟩) hS ?_
 rotate_left
 ·(intro wq hSw; go_simp; try with_reducible rfl)
 simp only [List.getElem_toArray, Act.put]
 refine wpAnyH_ready (rs := [2]) (by kernel_rfl) (by simp) ?_
 refine AllReadyH.cons rfl (fun K hK => ?_) AllReadyH.nil
 go_simp
 refine H1.out.mono ?_
 rintro e w2 ⟨rfl, hr2, hf2⟩
 have HS2 := Lib.hid (HH.out.drew.call HX.out hr2 hf2)
 have HBR2 := Lib.hid ((HBR.out.keep ((Fr.refl wr No).drew) (fun hn => hn)).keep hf2 HNN.out.2)
 have HST := Lib.hid (set75 w2 g br x r HBR2.out HS2.out.bx)
 refine hK.out _ _ ?_ (fun hS => ?_)
 ·exact hS.trans hf2 fun _ hb => Or.inl (Or.inl hb)
 clear hK K hr2 hf2
 refine wpAnyH_ready (rs := [3]) (by kernel_rfl) (by simp) ?_
 refine AllReadyH.cons rfl (fun K hK => ?_) AllReadyH.nil
 go_simp
 refine HST.out.mono ?_
 rintro e w3 ⟨rfl, rfl⟩
 refine hK.out _ _ ?_ (fun hS => ?_)
 ·exact hS.setCell (p := ⟨g, 6, none⟩) (Or.inl (Or.inr rfl)) _
 clear hK K
 refine wpAnyH_done (by kernel_rfl) ?_ _
 clear hS
 go_wp2_with fail
 go_end0
 refine ⟨rfl, { r with rt := n32 x }, ?_, rfl⟩
 have hin := HS2.out.inn
 refine HS2.out.to HX.out ((Fr.refl w2 (fun b => b = g)).setCell (p := ⟨g, 6, none⟩) (Or.inl rfl) _) ?_ ?_
 ·exact HS2.out.bx.set_ 6 _
 ·exact { hin with rt := n32_lt x }
set_option maxHeartbeats 1000000 in
theorem set93 (w : World) (g br x : Nat) (r : RV) (h0 : Blk w br 83 #[.pointer (some ⟨g, 0, none⟩)]) (hb : Blk w g 31 (rcs r)) : Calls Tryz.prog 93 #[.int .u64 (x : Int), .pointer (some ⟨br, 0, none⟩)] w fun e w' => e = .returned (.tuple #[]) ∧ w' = w.setCell ⟨g, 14, none⟩ (.int .u32 ((n32 x : Nat) : Int)) := by
 obtain ⟨u, hu⟩ : ∃ u, u = n32 x := ⟨_, rfl⟩
 have g1 := wrap_n32 x
 rw [← hu] at g1 ⊢
 clear hu
 have z0 := h0.cell 0
 obtain ⟨y0, y1, y2, y3, y4, y5, y6, y7, y8, y9, y10, y11, y12, y13, y14⟩ := rcs_cells hb
 have yf := hb.frozen 14
 simp only [List.getElem?_toArray, List.getElem?_cons_zero] at z0
 clear h0 hb
 go_enter Tryz.func93, Tryz.ntmps93
 go_wp2_with fail
 go_end0
 exact ⟨rfl, rfl⟩
def s93 (r : RE) (ok : Bool) (l : List Nat) : RE × Bool × List Nat := ({ r with nx := n32 (rI ok l).1 }, (rI ok l).2)
set_option maxHeartbeats 2000000 in
theorem rnum93 (W1 : World) (S : Nat → Prop) (p : Option Nat) (g lo n br : Nat) (hx : SX W1 S g lo) (hbx : Blk W1 n 123 #[.func (.func 93) #[] #[.pointer (some ⟨br, 0, none⟩)]]) (hn : ¬ (S n ∨ n = g)) (hbr : Blk W1 br 83 #[.pointer (some ⟨g, 0, none⟩)]) (hr : ¬ (S br ∨ br = g)) :
  RFn W1 S p g lo 107 [.pointer (some ⟨n, 0, none⟩)] s93 := by
 intro wr ok l r h hl
 obtain ⟨x, o1, l1, e1⟩ : ∃ x o1 l1, rI ok l = (x, o1, l1) := ⟨_, _, _, rfl⟩
 have hxl : x < 18446744073709551616 := by
  have := front_val_lt ok l
  rw [e1] at this
  exact this
 unfold s93
 rw [e1]
 have HX := Lib.hid hx
 have HH := Lib.hid h
 have HXL := Lib.hid hxl
 have H1 := Lib.hid (rI_any wr.drew S p ok l h.rd.drew x o1 l1 e1)
 have HBX := Lib.hid (hbx.keep h.fr hn)
 have HBR := Lib.hid (hbr.keep h.fr hr)
 have HNG := Lib.hid (show ¬ (S n ∨ n = g) from hn)
 have HNN := Lib.hid (show ¬ S n ∧ ¬ S br from ⟨fun hs => hn (Or.inl hs), fun hs => hr (Or.inl hs)⟩)
 clear hx h hbx hbr hn hr e1 hxl hl
 show Calls Tryz.prog 107 #[ptr p, .pointer (some ⟨n, 0, none⟩)] wr _
 go_enter Tryz.func107, Tryz.ntmps107
 refine wp_region_held_drew (S := fun wx => Fr wr wx (fun b => S b ∨ b = g)) (by kernel_rfl) ((Fr.refl wr _).drew) (fun hS => ?_)
 refine wpAnyH_take (i := 0) (v := ?_) rfl (by kernel_rfl) (by kernel_rfl) (by kernel_rfl) (fun _ _ _ h => h) (Or.inl ⟨by rfl, ?_⟩) hS ?_
 rotate_left
 ·(intro wq hSw; have hq := (HBX.out.keep hSw HNG.out).cell 0; simp only [List.getElem?_toArray, List.getElem?_cons_zero] at hq; go_simp; try with_reducible rfl)
 refine wpAnyH_take (i := 1) (v := ?_) rfl (by kernel_rfl) (by kernel_rfl) (by kernel_rfl) (fun _ _ _ h => h) (Or.inl ⟨by rfl, ?_⟩) hS ?_
 rotate_left
 ·(intro wq hSw; go_simp; try with_reducible rfl)
 simp only [List.getElem_toArray, Act.put]
 refine wpAnyH_ready (rs := [2]) (by kernel_rfl) (by simp) ?_
 refine AllReadyH.cons rfl (fun K hK => ?_) AllReadyH.nil
 go_simp
 refine H1.out.mono ?_
 rintro e w2 ⟨rfl, hr2, hf2⟩
 have HS2 := Lib.hid (HH.out.drew.call HX.out hr2 hf2)
 have HBR2 := Lib.hid ((HBR.out.keep ((Fr.refl wr No).drew) (fun hn => hn)).keep hf2 HNN.out.2)
 have HST := Lib.hid (set93 w2 g br x r HBR2.out HS2.out.bx)
 refine hK.out _ _ ?_ (fun hS => ?_)
 ·exact hS.trans hf2 fun _ hb => Or.inl (Or.inl hb)
 clear hK K hr2 hf2
 refine wpAnyH_ready (rs := [3]) (by kernel_rfl) (by simp) ?_
 refine AllReadyH.cons rfl (fun K hK => ?_) AllReadyH.nil
 go_simp
 refine HST.out.mono ?_
 rintro e w3 ⟨rfl, rfl⟩
 refine hK.out _ _ ?_ (fun hS => ?_)
 ·exact hS.setCell (p := ⟨g, 14, none⟩) (Or.inl (Or.inr rfl)) _
 clear hK K
 refine wpAnyH_done (by kernel_rfl) ?_ _
 clear hS
 go_wp2_with fail
 go_end0
 refine ⟨rfl, { r with nx := n32 x }, ?_, rfl⟩
 have hin := HS2.out.inn
 refine HS2.out.to HX.out ((Fr.refl w2 (fun b => b = g)).setCell (p := ⟨g, 14, none⟩) (Or.inl rfl) _) ?_ ?_
 ·exact HS2.out.bx.set_ 14 _
 ·exact { hin with nx := n32_lt x }
set_option maxHeartbeats 1000000 in
theorem set84 (w : World) (g br : Nat) (A : Option Addr) (n c : Nat) (r : RV) (h0 : Blk w br 83 #[.pointer (some ⟨g, 0, none⟩)]) (hb : Blk w g 31 (rcs r)) : Calls Tryz.prog 84 #[.slice A n c, .pointer (some ⟨br, 0, none⟩)] w fun e w' => e = .returned (.tuple #[]) ∧ w' = w.setCell ⟨g, 11, none⟩ (.slice A n c) := by
 have z0 := h0.cell 0
 obtain ⟨y0, y1, y2, y3, y4, y5, y6, y7, y8, y9, y10, y11, y12, y13, y14⟩ := rcs_cells hb
 have yf := hb.frozen 11
 simp only [List.getElem?_toArray, List.getElem?_cons_zero] at z0
 clear h0 hb
 go_enter Tryz.func84, Tryz.ntmps84
 go_wp2_with fail
 go_end0
 exact ⟨rfl, rfl⟩
def s84 (r : RE) (ok : Bool) (l : List Nat) : RE × Bool × List Nat := ({ r with il := (rLJs ok l).1 }, (rLJs ok l).2)
set_option maxHeartbeats 2000000 in
theorem rlist84 (W1 : World) (S : Nat → Prop) (p : Option Nat) (g lo n m br : Nat) (hx : SX W1 S g lo) (hbx : Blk W1 n 130 #[.func (.func 84) #[] #[.pointer (some ⟨br, 0, none⟩)]]) (hn : ¬ (S n ∨ n = g)) (hbq : Blk W1 m 129 #[.func (.func 83) #[] #[]]) (hm : ¬ (S m ∨ m = g)) (hbr : Blk W1 br 83 #[.pointer (some ⟨g, 0, none⟩)]) (hr : ¬ (S br ∨ br = g)) :
  RFn W1 S p g lo 113 [.pointer (some ⟨n, 0, none⟩), .pointer (some ⟨m, 0, none⟩)] s84 := by
 intro wr ok l r h hl
 unfold s84
 have HX := Lib.hid hx
 have HH := Lib.hid h
 have H1 := Lib.hid (readListIV_any wr.drew S p ok l h.rd.drew (fun b hb => Nat.lt_of_lt_of_le (hx.hS b hb) h.fr.drew.size) hl)
 have HBX := Lib.hid (hbx.keep h.fr hn)
 have HBQ := Lib.hid (hbq.keep h.fr hm)
 have HBR := Lib.hid (hbr.keep h.fr hr)
 have HNG := Lib.hid (show ¬ (S n ∨ n = g) from hn)
 have HMG := Lib.hid (show ¬ (S m ∨ m = g) from hm)
 have HNN := Lib.hid (show ¬ S br from fun hs => hr (Or.inl hs))
 clear hx h hbx hbq hbr hn hm hr hl
 show Calls Tryz.prog 113 #[ptr p, .pointer (some ⟨n, 0, none⟩), .pointer (some ⟨m, 0, none⟩)] wr _
 go_enter Tryz.func113, Tryz.ntmps113
 refine wp_region_held_drew (S := fun wx => Fr wr wx (fun b => S b ∨ b = g)) (by kernel_rfl) ((Fr.refl wr _).drew) (fun hS => ?_)
 refine wpAnyH_take (i := 0) (v := ?_) rfl (by kernel_rfl) (by kernel_rfl) (by kernel_rfl) (fun _ _ _ h => h) (Or.inl ⟨by rfl, ?_⟩) hS ?_
 rotate_left
 ·(intro wq hSw; have hq := (HBX.out.keep hSw HNG.out).cell 0; simp only [List.getElem?_toArray, List.getElem?_cons_zero] at hq; go_simp; try with_reducible rfl)
 refine wpAnyH_take (i := 1) (v := ?_) rfl (by kernel_rfl) (by kernel_rfl) (by kernel_rfl) (fun _ _ _ h => h) (Or.inl ⟨by rfl, ?_⟩) hS ?_
 rotate_left
 ·(intro wq hSw; go_simp; try with_reducible rfl)
 simp only [List.getElem_toArray, Act.put]
 refine wpAnyH_take (i := 2) (v := ?_) rfl (by kernel_rfl) (by kernel_rfl) (by kernel_rfl) (fun _ _ _ h => h) (Or.inl ⟨by rfl, ?_⟩) hS ?_
 rotate_left
 ·(intro wq hSw; have hq := (HBQ.out.keep hSw HMG.out).cell 0; simp only [List.getElem?_toArray, List.getElem?_cons_zero] at hq; go_simp; try with_reducible rfl)
 simp only [List.getElem_toArray, Act.put]
 refine wpAnyH_ready (rs := [3]) (by kernel_rfl) (by simp) ?_
 refine AllReadyH.cons rfl (fun K hK => ?_) AllReadyH.nil
 go_simp
 refine H1.out.mono ?_
 unfold LRIV
 rintro e w2 ⟨v, k, xs, rfl, ho, hve, hk, hr2, hf2⟩
 obtain ⟨A, c, rfl, _, _, _, hir⟩ := ho.z.reads (by omega)
 have HS2 := Lib.hid (HH.out.drew.call HX.out hr2 hf2)
 have HBR2 := Lib.hid ((HBR.out.keep ((Fr.refl wr No).drew) (fun hn => hn)).keep hf2 HNN.out)
 have HST := Lib.hid (set84 w2 g br A k c r HBR2.out HS2.out.bx)
 have HIR := Lib.hid hir
 have HVE := Lib.hid hve
 have HSZ : Hid (W1.heap.size ≤ wr.drew.heap.size) := Lib.hid HH.out.fr.drew.size
 refine hK.out _ _ ?_ (fun hS => ?_)
 ·exact hS.trans hf2 fun _ hb => Or.inl (Or.inl hb)
 clear hK K hr2 hf2 hir ho hve
 refine wpAnyH_ready (rs := [4]) (by kernel_rfl) (by simp) ?_
 refine AllReadyH.cons rfl (fun K hK => ?_) AllReadyH.nil
 go_simp
 refine HST.out.mono ?_
 rintro e w3 ⟨rfl, rfl⟩
 refine hK.out _ _ ?_ (fun hS => ?_)
 ·exact hS.setCell (p := ⟨g, 11, none⟩) (Or.inl (Or.inr rfl)) _
 clear hK K
 refine wpAnyH_done (by kernel_rfl) ?_ _
 clear hS
 go_wp2_with fail
 go_end0
 refine ⟨rfl, { r with iA := A, im := k, ic := c, il := xs }, ?_, by unfold RV.e; rw [← HVE.out]⟩
 have hin := HS2.out.inn
 refine HS2.out.to HX.out ((Fr.refl w2 (fun b => b = g)).setCell (p := ⟨g, 11, none⟩) (Or.inl rfl) _) ?_ ?_
 ·exact HS2.out.bx.set_ 11 _
 ·refine { hin with i := HIR.out.mono fun b _ hb => ?_ }
  have hb1 : wr.drew.heap.size ≤ b ∧ Zf w2 b := by
   rcases hb with hb | hb
   ·exact hb
   ·exact ⟨hb.1.1, hb.2⟩
  obtain ⟨hb1, hbz⟩ := hb1
  have h0 := HSZ.out
  have hX := HX.out
  exact ⟨⟨by have := hX.lo; omega, fun hs => by have := hX.hS b hs; omega, fun he => by have := hX.hg; omega⟩, hbz⟩
set_option maxHeartbeats 1000000 in
theorem set88 (w : World) (g br : Nat) (A : Option Addr) (n c : Nat) (r : RV) (h0 : Blk w br 83 #[.pointer (some ⟨g, 0, none⟩)]) (hb : Blk w g 31 (rcs r)) : Calls Tryz.prog 88 #[.slice A n c, .pointer (some ⟨br, 0, none⟩)] w fun e w' => e = .returned (.tuple #[]) ∧ w' = w.setCell ⟨g, 12, none⟩ (.slice A n c) := by
 have z0 := h0.cell 0
 obtain ⟨y0, y1, y2, y3, y4, y5, y6, y7, y8, y9, y10, y11, y12, y13, y14⟩ := rcs_cells hb
 have yf := hb.frozen 12
 simp only [List.getElem?_toArray, List.getElem?_cons_zero] at z0
 clear h0 hb
 go_enter Tryz.func88, Tryz.ntmps88
 go_wp2_with fail
 go_end0
 exact ⟨rfl, rfl⟩
def s88 (r : RE) (ok : Bool) (l : List Nat) : RE × Bool × List Nat := ({ r with ll := (rLVs ok l).1 }, (rLVs ok l).2)
set_option maxHeartbeats 2000000 in
theorem rlist88 (W1 : World) (S : Nat → Prop) (p : Option Nat) (g lo n m br : Nat) (hx : SX W1 S g lo) (hbx : Blk W1 n 134 #[.func (.func 88) #[] #[.pointer (some ⟨br, 0, none⟩)]]) (hn : ¬ (S n ∨ n = g)) (hbq : Blk W1 m 133 #[.func (.func 87) #[] #[]]) (hm : ¬ (S m ∨ m = g)) (hbr : Blk W1 br 83 #[.pointer (some ⟨g, 0, none⟩)]) (hr : ¬ (S br ∨ br = g)) :
  RFn W1 S p g lo 121 [.pointer (some ⟨n, 0, none⟩), .pointer (some ⟨m, 0, none⟩)] s88 := by
 intro wr ok l r h hl
 unfold s88
 have HX := Lib.hid hx
 have HH := Lib.hid h
 have H1 := Lib.hid (readListLV_any wr.drew S p ok l h.rd.drew (fun b hb => Nat.lt_of_lt_of_le (hx.hS b hb) h.fr.drew.size) hl)
 have HBX := Lib.hid (hbx.keep h.fr hn)
 have HBQ := Lib.hid (hbq.keep h.fr hm)
 have HBR := Lib.hid (hbr.keep h.fr hr)
 have HNG := Lib.hid (show ¬ (S n ∨ n = g) from hn)
 have HMG := Lib.hid (show ¬ (S m ∨ m = g) from hm)
 have HNN := Lib.hid (show ¬ S br from fun hs => hr (Or.inl hs))
 clear hx h hbx hbq hbr hn hm hr hl
 show Calls Tryz.prog 121 #[ptr p, .pointer (some ⟨n, 0, none⟩), .pointer (some ⟨m, 0, none⟩)] wr _
 go_enter Tryz.func121, Tryz.ntmps121
 refine wp_region_held_drew (S := fun wx => Fr wr wx (fun b => S b ∨ b = g)) (by kernel_rfl) ((Fr.refl wr _).drew) (fun hS => ?_)
 refine wpAnyH_take (i := 0) (v := ?_) rfl (by kernel_rfl) (by kernel_rfl) (by kernel_rfl) (fun _ _ _ h => h) (Or.inl ⟨by rfl, ?_⟩) hS ?_
 rotate_left
 ·(intro wq hSw; have hq := (HBX.out.keep hSw HNG.out).cell 0; simp only [List.getElem?_toArray, List.getElem?_cons_zero] at hq; go_simp; try with_reducible rfl)
 refine wpAnyH_take (i := 1) (v := ?_) rfl (by kernel_rfl) (by kernel_rfl) (by kernel_rfl) (fun _ _ _ h => h) (Or.inl ⟨by rfl, ?_⟩) hS ?_
 rotate_left
 ·(intro wq hSw; go_simp; try with_reducible rfl)
 simp only [List.getElem_toArray, Act.put]
 refine wpAnyH_take (i := 2) (v := ?_) rfl (by kernel_rfl) (by kernel_rfl) (by kernel_rfl) (fun _ _ _ h => h) (Or.inl ⟨by rfl, ?_⟩) hS ?_
 rotate_left
 ·(intro wq hSw; have hq := (HBQ.out.keep hSw HMG.out).cell 0; simp only [List.getElem?_toArray, List.getElem?_cons_zero] at hq; go_simp; try with_reducible rfl)
 simp only [List.getElem_toArray, Act.put]
 refine wpAnyH_ready (rs := [3]) (by kernel_rfl) (by simp) ?_
 refine AllReadyH.cons rfl (fun K hK => ?_) AllReadyH.nil
 go_simp
 refine H1.out.mono ?_
 unfold LRLV
 rintro e w2 ⟨v, k, rfl, ho, hk, hr2, hf2⟩
 obtain ⟨A, c, rfl, _, _, _, hir⟩ := ho.z.reads (by omega)
 have HS2 := Lib.hid (HH.out.drew.call HX.out hr2 hf2)
 have HBR2 := Lib.hid ((HBR.out.keep ((Fr.refl wr No).drew) (fun hn => hn)).keep hf2 HNN.out)
 have HST := Lib.hid (set88 w2 g br A k c r HBR2.out HS2.out.bx)
 have HIR := Lib.hid hir
 skip
 have HSZ : Hid (W1.heap.size ≤ wr.drew.heap.size) := Lib.hid HH.out.fr.drew.size
 refine hK.out _ _ ?_ (fun hS => ?_)
 ·exact hS.trans hf2 fun _ hb => Or.inl (Or.inl hb)
 clear hK K hr2 hf2 hir ho
 refine wpAnyH_ready (rs := [4]) (by kernel_rfl) (by simp) ?_
 refine AllReadyH.cons rfl (fun K hK => ?_) AllReadyH.nil
 go_simp
 refine HST.out.mono ?_
 rintro e w3 ⟨rfl, rfl⟩
 refine hK.out _ _ ?_ (fun hS => ?_)
 ·exact hS.setCell (p := ⟨g, 12, none⟩) (Or.inl (Or.inr rfl)) _
 clear hK K
 refine wpAnyH_done (by kernel_rfl) ?_ _
 clear hS
 go_wp2_with fail
 go_end0
 refine ⟨rfl, { r with lA := A, lm := k, lc := c, ll := (rLVs ok l).1 }, ?_, rfl⟩
 have hin := HS2.out.inn
 refine HS2.out.to HX.out ((Fr.refl w2 (fun b => b = g)).setCell (p := ⟨g, 12, none⟩) (Or.inl rfl) _) ?_ ?_
 ·exact HS2.out.bx.set_ 12 _
 ·refine { hin with l := HIR.out.mono fun b _ hb => ?_ }
  have hb1 : wr.drew.heap.size ≤ b ∧ Zf w2 b := by
   rcases hb with hb | hb
   ·exact hb
   ·exact hb.elim
  obtain ⟨hb1, hbz⟩ := hb1
  have h0 := HSZ.out
  have hX := HX.out
  exact ⟨⟨by have := hX.lo; omega, fun hs => by have := hX.hS b hs; omega, fun he => by have := hX.hg; omega⟩, hbz⟩
set_option maxHeartbeats 1000000 in
theorem set92 (w : World) (g br : Nat) (A : Option Addr) (n c : Nat) (r : RV) (h0 : Blk w br 83 #[.pointer (some ⟨g, 0, none⟩)]) (hb : Blk w g 31 (rcs r)) : Calls Tryz.prog 92 #[.slice A n c, .pointer (some ⟨br, 0, none⟩)] w fun e w' => e = .returned (.tuple #[]) ∧ w' = w.setCell ⟨g, 13, none⟩ (.slice A n c) := by
 have z0 := h0.cell 0
 obtain ⟨y0, y1, y2, y3, y4, y5, y6, y7, y8, y9, y10, y11, y12, y13, y14⟩ := rcs_cells hb
 have yf := hb.frozen 13
 simp only [List.getElem?_toArray, List.getElem?_cons_zero] at z0
 clear h0 hb
 go_enter Tryz.func92, Tryz.ntmps92
 go_wp2_with fail
 go_end0
 exact ⟨rfl, rfl⟩
def s92 (r : RE) (ok : Bool) (l : List Nat) : RE × Bool × List Nat := ({ r with dl := (rLDs ok l).1 }, (rLDs ok l).2)
set_option maxHeartbeats 2000000 in
theorem rlist92 (W1 : World) (S : Nat → Prop) (p : Option Nat) (g lo n m br : Nat) (hx : SX W1 S g lo) (hbx : Blk W1 n 138 #[.func (.func 92) #[] #[.pointer (some ⟨br, 0, none⟩)]]) (hn : ¬ (S n ∨ n = g)) (hbq : Blk W1 m 137 #[.func (.func 91) #[] #[]]) (hm : ¬ (S m ∨ m = g)) (hbr : Blk W1 br 83 #[.pointer (some ⟨g, 0, none⟩)]) (hr : ¬ (S br ∨ br = g)) :
  RFn W1 S p g lo 125 [.pointer (some ⟨n, 0, none⟩), .pointer (some ⟨m, 0, none⟩)] s92 := by
 intro wr ok l r h hl
 unfold s92
 have HX := Lib.hid hx
 have HH := Lib.hid h
 have H1 := Lib.hid (readListDV_any wr.drew S p ok l h.rd.drew (fun b hb => Nat.lt_of_lt_of_le (hx.hS b hb) h.fr.drew.size) hl)
 have HBX := Lib.hid (hbx.keep h.fr hn)
 have HBQ := Lib.hid (hbq.keep h.fr hm)
 have HBR := Lib.hid (hbr.keep h.fr hr)
 have HNG := Lib.hid (show ¬ (S n ∨ n = g) from hn)
 have HMG := Lib.hid (show ¬ (S m ∨ m = g) from hm)
 have HNN := Lib.hid (show ¬ S br from fun hs => hr (Or.inl hs))
 clear hx h hbx hbq hbr hn hm hr hl
 show Calls Tryz.prog 125 #[ptr p, .pointer (some ⟨n, 0, none⟩), .pointer (some ⟨m, 0, none⟩)] wr _
 go_enter Tryz.func125, Tryz.ntmps125
 refine wp_region_held_drew (S := fun wx => Fr wr wx (fun b => S b ∨ b = g)) (by kernel_rfl) ((Fr.refl wr _).drew) (fun hS => ?_)
 refine wpAnyH_take (i := 0) (v := ?_) rfl (by kernel_rfl) (by kernel_rfl) (by kernel_rfl) (fun _ _ _ h => h) (Or.inl ⟨by rfl, ?_⟩) hS ?_
 rotate_left
 ·(intro wq hSw; have hq := (HBX.out.keep hSw HNG.out).cell 0; simp only [List.getElem?_toArray, List.getElem?_cons_zero] at hq; go_simp; try with_reducible rfl)
 refine wpAnyH_take (i := 1) (v := ?_) rfl (by kernel_rfl) (by kernel_rfl) (by kernel_rfl) (fun _ _ _ h => h) (Or.inl ⟨by rfl, ?_⟩) hS ?_
 rotate_left
 ·(intro wq hSw; go_simp; try with_reducible rfl)
 simp only [List.getElem_toArray, Act.put]
 refine wpAnyH_take (i := 2) (v := ?_) rfl (by kernel_rfl) (by kernel_rfl) (by kernel_rfl) (fun _ _ _ h => h) (Or.inl ⟨by rfl, ?_⟩) hS ?_
 rotate_left
 ·(intro wq hSw; have hq := (HBQ.out.keep hSw HMG.out).cell 0; simp only [List.getElem?_toArray, List.getElem?_cons_zero] at hq; go_simp; try with_reducible rfl)
 simp only [List.getElem_toArray, Act.put]
 refine wpAnyH_ready (rs := [3]) (by kernel_rfl) (by simp) ?_
 refine AllReadyH.cons rfl (fun K hK => ?_) AllReadyH.nil
 go_simp
 refine H1.out.mono ?_
 unfold LRDV
 rintro e w2 ⟨v, k, rfl, ho, hk, hr2, hf2⟩
 obtain ⟨A, c, rfl, _, _, _, hir⟩ := ho.z.reads (by omega)
 have HS2 := Lib.hid (HH.out.drew.call HX.out hr2 hf2)
 have HBR2 := Lib.hid ((HBR.out.keep ((Fr.refl wr No).drew) (fun hn => hn)).keep hf2 HNN.out)
 have HST := Lib.hid (set92 w2 g br A k c r HBR2.out HS2.out.bx)
 have HIR := Lib.hid hir
 skip
 have HSZ : Hid (W1.heap.size ≤ wr.drew.heap.size) := Lib.hid HH.out.fr.drew.size
 refine hK.out _ _ ?_ (fun hS => ?_)
 ·exact hS.trans hf2 fun _ hb => Or.inl (Or.inl hb)
 clear hK K hr2 hf2 hir ho
 refine wpAnyH_ready (rs := [4]) (by kernel_rfl) (by simp) ?_
 refine AllReadyH.cons rfl (fun K hK => ?_) AllReadyH.nil
 go_simp
 refine HST.out.mono ?_
 rintro e w3 ⟨rfl, rfl⟩
 refine hK.out _ _ ?_ (fun hS => ?_)
 ·exact hS.setCell (p := ⟨g, 13, none⟩) (Or.inl (Or.inr rfl)) _
 clear hK K
 refine wpAnyH_done (by kernel_rfl) ?_ _
 clear hS
 go_wp2_with fail
 go_end0
 refine ⟨rfl, { r with dA := A, dm := k, dc := c, dl := (rLDs ok l).1 }, ?_, rfl⟩
 have hin := HS2.out.inn
 refine HS2.out.to HX.out ((Fr.refl w2 (fun b => b = g)).setCell (p := ⟨g, 13, none⟩) (Or.inl rfl) _) ?_ ?_
 ·exact HS2.out.bx.set_ 13 _
 ·refine { hin with d := HIR.out.mono fun b _ hb => ?_ }
  have hb1 : wr.drew.heap.size ≤ b ∧ Zf w2 b := by
   rcases hb with hb | hb
   ·exact hb
   ·exact hb.elim
  obtain ⟨hb1, hbz⟩ := hb1
  have h0 := HSZ.out
  have hX := HX.out
  exact ⟨⟨by have := hX.lo; omega, fun hs => by have := hX.hS b hs; omega, fun he => by have := hX.hg; omega⟩, hbz⟩
def s79 (r : RE) (ok : Bool) (l : List Nat) : RE × Bool × List Nat := ({ r with o := (rO ok l).1 }, (rO ok l).2)
set_option maxHeartbeats 2000000 in
theorem rop79 (W1 : World) (S : Nat → Prop) (p : Option Nat) (g lo br : Nat) (hx : SX W1 S g lo) (hbr : Blk W1 br 83 #[.pointer (some ⟨g, 0, none⟩)]) (hr : ¬ (S br ∨ br = g)) :
  RFn W1 S p g lo 79 [.pointer (some ⟨br, 0, none⟩)] s79 := by
 intro wr ok l r h hl
 unfold s79
 have HX := Lib.hid hx
 have HH := Lib.hid h
 have H1 := Lib.hid (readOp_any wr.drew S p ok l h.rd.drew (fun b hb => Nat.lt_of_lt_of_le (hx.hS b hb) h.fr.drew.size))
 have HBR := Lib.hid (hbr.keep h.fr hr)
 have HNG := Lib.hid (show ¬ (S br ∨ br = g) from hr)
 clear hx h hbr hr hl
 show Calls Tryz.prog 79 #[ptr p, .pointer (some ⟨br, 0, none⟩)] wr _
 go_enter Tryz.func79, Tryz.ntmps79
 refine wp_region_held_drew (S := fun wx => Fr wr wx (fun b => S b ∨ b = g)) (by kernel_rfl) ((Fr.refl wr _).drew) (fun hS => ?_)
 refine wpAnyH_take (i := 0) (v := ?_) rfl (by kernel_rfl) (by kernel_rfl) (by kernel_rfl) (fun _ _ _ h => h) (Or.inl ⟨by rfl, ?_⟩) hS ?_
 rotate_left
 ·(intro wq hSw; have hq := (HBR.out.keep hSw HNG.out).cell 0; simp only [List.getElem?_toArray, List.getElem?_cons_zero] at hq; go_simp; try with_reducible rfl)
 refine wpAnyH_take (i := 1) (v := ?_) rfl (by kernel_rfl) (by kernel_rfl) (by kernel_rfl) (fun _ _ _ h => h) (Or.inl ⟨by rfl, ?_⟩) hS ?_
 rotate_left
 ·(intro wq hSw; go_simp; try with_reducible rfl)
 simp only [List.getElem_toArray, Act.put]
 refine wpAnyH_ready (rs := [2]) (by kernel_rfl) (by simp) ?_
 refine AllReadyH.cons rfl (fun K hK => ?_) AllReadyH.nil
 go_simp
 refine H1.out.mono ?_
 unfold OpR
 rintro e w2 ⟨x, rfl, hxe, hxi, hr2, hf2⟩
 have HS2 := Lib.hid (HH.out.drew.call HX.out hr2 hf2)
 have HXE := Lib.hid hxe
 have HXI := Lib.hid hxi
 have HSZ : Hid (W1.heap.size ≤ wr.drew.heap.size) := Lib.hid HH.out.fr.drew.size
 refine hK.out _ _ ?_ (fun hS => ?_)
 ·exact hS.trans hf2 fun _ hb => Or.inl (Or.inl hb)
 clear hK K hr2 hf2 hxe hxi
 obtain ⟨xk, xs, xt, xA, xm, xc, xd⟩ := x
 have B0 := HS2.out.bx
 have B1 := B0.set_ 7 (.int .i64 xk)
 have B2 := B1.set_ 8 (.int .i64 xs)
 have B3 := B2.set_ 9 (.int .u32 (xt : Int))
 have B4 : Blk _ g 31 (rcs { r with o := ⟨xk, xs, xt, xA, xm, xc, xd⟩ }) := B3.set_ 10 (.slice xA xm xc)
 have a0 := B0.cell 7
 have f0 := B0.frozen 7
 have a1 := B1.cell 8
 have f1 := B1.frozen 8
 have a2 := B2.cell 9
 have f2 := B2.frozen 9
 have a3 := B3.cell 10
 have f3 := B3.frozen 10
 simp only [rcs, List.setIfInBounds_toArray, List.set_cons_succ, List.set_cons_zero, List.getElem?_toArray, List.getElem?_cons_zero, List.getElem?_cons_succ] at a0 a1 a2 a3
 have HB4 := Lib.hid B4
 clear B0 B1 B2 B3 B4
 simp only [OV.agg]
 refine wpAnyH_take (i := 3) (v := ?_) rfl (by kernel_rfl) (by kernel_rfl) (by kernel_rfl) (fun _ _ _ h => h) (Or.inl ⟨by rfl, ?_⟩) hS ?_
 rotate_left
 ·(intro wq hSw; go_simp; try with_reducible rfl)
 simp only [List.getElem_toArray, Act.put]
 refine wpAnyH_take (i := 4) (v := ?_) rfl (by kernel_rfl) (by kernel_rfl) (by kernel_rfl) (fun _ _ _ h => h) (Or.inl ⟨by rfl, ?_⟩) hS ?_
 rotate_left
 ·(intro wq hSw; go_simp; try with_reducible rfl)
 simp only [List.getElem_toArray, Act.put]
 refine wpAnyH_ready (rs := [5]) (by kernel_rfl) (by simp) ?_
 refine AllReadyH.cons rfl (fun K hK => ?_) AllReadyH.nil
 go_simp
 refine hK.out _ _ ?_ (fun hS => ?_)
 ·exact (((hS.setCell (p := ⟨g, 7, none⟩) (Or.inl (Or.inr rfl)) _).setCell (p := ⟨g, 8, none⟩) (Or.inl (Or.inr rfl)) _).setCell (p := ⟨g, 9, none⟩) (Or.inl (Or.inr rfl)) _).setCell (p := ⟨g, 10, none⟩) (Or.inl (Or.inr rfl)) _
 clear hK K
 refine wpAnyH_done (by kernel_rfl) ?_ _
 clear hS
 go_wp2_with fail
 go_end0
 refine ⟨rfl, { r with o := ⟨xk, xs, xt, xA, xm, xc, xd⟩ }, ?_, by unfold RV.e; rw [← HXE.out]⟩
 have hin := HS2.out.inn
 refine HS2.out.to HX.out (((((Fr.refl w2 (fun b => b = g)).setCell (p := ⟨g, 7, none⟩) (Or.inl rfl) _).setCell (p := ⟨g, 8, none⟩) (Or.inl rfl) _).setCell (p := ⟨g, 9, none⟩) (Or.inl rfl) _).setCell (p := ⟨g, 10, none⟩) (Or.inl rfl) _) ?_ ?_
 ·exact HB4.out
 ·refine { hin with o := HXI.out.mono fun b _ hb => ?_ }
  have hb1 : wr.drew.heap.size ≤ b := hb.1
  have hbz : Zf w2 b := hb.2
  have h0 := HSZ.out
  have hX := HX.out
  exact ⟨⟨by have := hX.lo; omega, fun hs => by have := hX.hS b hs; omega, fun he => by have := hX.hg; omega⟩, hbz⟩
end Go.Proofs.YtdhgbkibbileiaaGreat
