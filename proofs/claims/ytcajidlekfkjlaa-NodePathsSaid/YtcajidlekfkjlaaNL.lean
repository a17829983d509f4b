/-
STAGE 8: walk and down, where the root is a leaf, or no page is told.
-/
import Derived.Test.YtcajidlekfkjlaaNK
import Derived.Maps.OwnSet
namespace Go.Proofs.Ytcajidlekfkjlaa
open Go.RowKit

set_option maxRecDepth 100000 in
theorem keyed23 : Maps.Keyed Try.prog 23 := Maps.int_keyed Try.underlying23
set_option maxRecDepth 100000 in
theorem zero118 (w : World) : (zeroValue 118).run Try.prog w = .ok (.agg #[]) w := by kernel_rfl
set_option maxRecDepth 100000 in
theorem wf32 {n : Nat} (h : n < 4294967296) : (Lit.int .u32 (n : Int)).wf = true := by
  refine WalkArith.wf_u32 ?_
  omega
set_option maxRecDepth 100000 in
theorem ownsMap_fr {H : Type} {w w' : World} {k : TypeId} {R : Value → Option (DataW H × List MemPlace)} {b n : Nat} {D : DataW H} {S : Nat → Prop} (h : w.ownsMap Try.prog k R b n D) (hf : Fr w w' S) (hb : ¬ S b) : w'.ownsMap Try.prog k R b n D := by
  obtain ⟨es, clock, h1, h2⟩ := h
  exact ⟨es, clock, (hf.block b (Array.getElem?_eq_some_iff.1 h1).1 hb).trans h1, h2⟩
def stopV (n : Nat) (p : PV) (deep : Int) (f t : Value) : Value := .agg #[.int .u32 (n : Int), .int .i64 p.k, .int .u64 (p.s : Int), .int .u32 (p.x : Int), .slice p.A p.n p.c, .int .i64 deep, f, t]
def walkerV (g come : Value) (b : Nat) : Value := .agg #[g, come, .map (some b)]
set_option maxHeartbeats 4000000 in
set_option maxRecDepth 100000 in
theorem downLeaf46 (G : Option TV) (n : Nat) (hn : n < 4294967296) (p : PV) (a b : Nat) (w : World) (S : Nat → Prop) (h : GIn w S G) (hSb : ¬ S b) (hp : askM G n = .ok p) (hk : p.k = 2) (hown : w.ownsMap Try.prog 23 (H := Unit) unitElem b 0 (.map [])) (R : World → Prop)
    (HC : ∀ W, Fr w W (fun k => k = b) → Calls Try.prog 40 #[stopV n p 1 (.slice none 0 0) (.slice none 0 0), .pointer (some ⟨a, 0, none⟩)] W fun e w' => e = .returned (.tuple #[]) ∧ R w' ∧ Fr W w' (fun b => b < w.heap.size)) :
    Calls Try.prog 60 #[walkerV (gV G) (.func (.func 40) #[] #[.pointer (some ⟨a, 0, none⟩)]) b, .int .u32 (n : Int), .int .i64 1, .agg #[.slice none 0 0, .slice none 0 0]] w fun e w' => e = .returned (.tuple #[]) ∧ R w' := by
  obtain ⟨g, hg⟩ : ∃ g, g = gV G := ⟨_, rfl⟩
  have hgc := gV_cases G
  rw [← hg] at hgc ⊢
  have hpin := ask_in h hp
  have hask := ask_ok (w := w) h hp
  rw [← hg] at hask
  have HASK := Lib.hid (fun (W : World) (hW : GIn W S G) => hg ▸ ask_ok hW hp)
  have HG := Lib.hid h
  have HOWN := Lib.hid hown
  have HBLT := Lib.hid hown.lt
  have HSB := Lib.hid hSb
  have HKEY := Lib.hid (Maps.keyOf_int_mk (P := Try.prog) Try.underlying23 (wf32 hn))
  have HCC := Lib.hid HC
  have HKK := Lib.hid hk
  obtain ⟨pk, ps, px, pA, pn, pc, pl⟩ := p
  have d9 : (pk == 2) = true := by dsimp only at hk; rw [hk]; rfl
  unfold walkerV
  unfold PV.agg at HASK
  unfold stopV at HCC
  dsimp only at HCC
  clear h hask hpin hown HC hk hg hp hn hSb
  have hown3 := fun o1 o2 o3 => ownsMap_fr HOWN.out ((((Fr.refl w No).alloc o1).alloc o2).alloc o3) (fun h => h)
  have HOWN3 := Lib.hid hown3
  have HMY5 := Lib.hid (fun W => must_yes 5 W)
  obtain ⟨cv, hcv⟩ : ∃ cv, cv = Value.func (.func 40) #[] #[.pointer (some ⟨a, 0, none⟩)] := ⟨_, rfl⟩
  have HCV := Lib.hid hcv
  clear hown3 hcv
  rcases hgc with rfl | ⟨tv, rfl⟩
  · go_enter Try.func60, Try.ntmps60
    go_wp2_with (at_lookup; go_must (refine wpList_lookup_own_unit _ rfl (.tmp 15) (.tmp 16) 101 rfl 23 118 keyed23 Try.underlying101 (zero118 _) b 0 (.map []) rfl (HOWN3.out _ _ _) _ _ rfl HKEY.out ?_); have hhas : Maps.has (H := Unit) (.map []) (.int .u32 (n : Int)) = false := rfl; rw [hhas]; clear hhas)
    refine (HMY5.out _).mono ?_
    intro e W he
    obtain ⟨rfl, hW⟩ := he
    have hbW : Below w.heap.size w W := by rw [← hW]; exact ((((Below.refl _ _).alloc (Nat.le_refl _) _).alloc (by simp) _).alloc (by simp; omega) _).alloc (by simp; omega) _
    have k0 : Blk W w.heap.size 103 #[.nilFunc, .func (.func 40) #[] #[.pointer (some ⟨a, 0, none⟩)], .map (some b)] := by rw [← hW]; exact (((Blk.new w 103 _).alloc _).alloc _).alloc _
    have k1 : Blk W (w.heap.size + 1) 3 #[.int .i64 1] := by rw [← hW]; have := ((Blk.new (w.alloc (.cells #[.nilFunc, .func (.func 40) #[] #[.pointer (some ⟨a, 0, none⟩)], .map (some b)] 103)) 3 #[.int .i64 1]).alloc (.cells #[.slice none 0 0, .slice none 0 0] 80)).alloc (.cells #[] 118); rw [World.size_alloc] at this; exact this
    have k2 : Blk W (w.heap.size + 1 + 1) 80 #[.slice none 0 0, .slice none 0 0] := by rw [← hW]; have := (Blk.new ((w.alloc (.cells #[.nilFunc, .func (.func 40) #[] #[.pointer (some ⟨a, 0, none⟩)], .map (some b)] 103)).alloc (.cells #[.int .i64 1] 3)) 80 #[.slice none 0 0, .slice none 0 0]).alloc (.cells #[] 118); rw [World.size_alloc, World.size_alloc] at this; exact this
    have hownW := ownsMap_fr HOWN.out (Fr.of_below hbW No) (fun h => h)
    have x0 := k0.cell 0
    have x1 := k0.cell 1
    have x2 := k0.cell 2
    have x3 := k1.cell 0
    have x4 := k2.cell 0
    have x5 := k2.cell 1
    have HK0 := Lib.hid k0
    have HK1 := Lib.hid k1
    have HK2 := Lib.hid k2
    have HOW := Lib.hid hownW
    have HBW := Lib.hid hbW
    clear hW k0 k1 k2 hownW hbW
    go_wp2_with (at_mapUpdate; go_must (refine wpList_mapUpdate_own _ rfl (.tmp 28) (.tmp 29) (.tmp 30) 101 rfl 23 118 keyed23 Try.underlying101 unitElem b 0 (.map []) rfl HOW.out (by decide) _ _ _ rfl rfl HKEY.out _ _ unitElem_mk ?_); intro W2 hown2 hgrow2; clear hown2 x0 x1 x2 x3 x4 x5; have k0 := HK0.out.grown hgrow2 (by have := HBLT.out; simp; omega); have k1 := HK1.out.grown hgrow2 (by have := HBLT.out; simp; omega); have k2 := HK2.out.grown hgrow2 (by have := HBLT.out; simp; omega); have x0 := k0.cell 0; have x1 := k0.cell 1; have x2 := k0.cell 2; have x3 := k1.cell 0; have x4 := k2.cell 0; have x5 := k2.cell 1; have HQ0 := Lib.hid k0; have HQ1 := Lib.hid k1; have HQ2 := Lib.hid k2; have HFR2 := Lib.hid ((Fr.of_below HBW.out (fun k => k = b)).grown hgrow2 fun k hk => Or.inl (by injection hk with hk; exact hk.symm)); clear k0 k1 k2 hgrow2)
    have hg2 : GIn W2 S G := HG.out.keep HFR2.out fun k hk he => HSB.out (he ▸ hk)
    refine (HASK.out W2 hg2).mono ?_
    rintro e W3 ⟨rfl, hb3⟩
    have HFR3 := Lib.hid (HFR2.out.same (Fr.of_below hb3 _))
    have k0 := HQ0.out.below hb3 HQ0.out.lt
    have k1 := HQ1.out.below hb3 HQ1.out.lt
    have k2 := HQ2.out.below hb3 HQ2.out.lt
    clear x0 x1 x2 x3 x4 x5
    have hz0 : w.heap.size < W3.heap.size := k0.lt
    have hz1 : w.heap.size + 1 < W3.heap.size := k1.lt
    have hz2 : w.heap.size + 1 + 1 < W3.heap.size := k2.lt
    have x0 := k0.cell 0
    have x1 := k0.cell 1
    have x2 := k0.cell 2
    have x3 := k1.cell 0
    have x4 := k2.cell 0
    have x5 := k2.cell 1
    obtain ⟨C4, hC4⟩ : ∃ C, C = Obj.cells #[.int .i64 pk, .int .u64 (ps : Int), .int .u32 (px : Int), .slice pA pn pc] 51 := ⟨_, rfl⟩
    have hc4 := HCC.out (W3.alloc C4) (HFR3.out.alloc C4)
    have k4 : Blk (W3.alloc C4) W3.heap.size 51 #[.int .i64 pk, .int .u64 (ps : Int), .int .u32 (px : Int), .slice pA pn pc] := by rw [hC4]; exact Blk.new W3 51 _
    rw [hC4] at hc4 k4
    have HC4 := Lib.hid hc4
    have HK4 := Lib.hid k4
    have hsz3 : w.heap.size ≤ W3.heap.size := HFR3.out.size
    have HSZ3 := Lib.hid hsz3
    clear hg2 hb3 k0 k1 k2 hc4 k4 hC4 hsz3
    go_wp2_with fail
    refine HC4.out.mono ?_
    rintro e W5 ⟨rfl, hr5, hf5⟩
    have k5 := HK4.out.keep hf5 (by have := HSZ3.out; omega)
    have y0 := k5.cell 0
    have HR5 := Lib.hid hr5
    clear k5 hr5 hf5 x0 x1 x2 x3 x4 x5 hz0 hz1 hz2
    go_wp2_with fail
    refine bodyPost_ret (results_none rfl _ _ _) rfl ⟨rfl, HR5.out⟩
  · go_enter Try.func60, Try.ntmps60
    go_wp2_with (at_lookup; go_must (refine wpList_lookup_own_unit _ rfl (.tmp 15) (.tmp 16) 101 rfl 23 118 keyed23 Try.underlying101 (zero118 _) b 0 (.map []) rfl (HOWN3.out _ _ _) _ _ rfl HKEY.out ?_); have hhas : Maps.has (H := Unit) (.map []) (.int .u32 (n : Int)) = false := rfl; rw [hhas]; clear hhas)
    refine (HMY5.out _).mono ?_
    intro e W he
    obtain ⟨rfl, hW⟩ := he
    have hbW : Below w.heap.size w W := by rw [← hW]; exact ((((Below.refl _ _).alloc (Nat.le_refl _) _).alloc (by simp) _).alloc (by simp; omega) _).alloc (by simp; omega) _
    have k0 : Blk W w.heap.size 103 #[(.func (.func 9) #[tv] #[]), .func (.func 40) #[] #[.pointer (some ⟨a, 0, none⟩)], .map (some b)] := by rw [← hW]; exact (((Blk.new w 103 _).alloc _).alloc _).alloc _
    have k1 : Blk W (w.heap.size + 1) 3 #[.int .i64 1] := by rw [← hW]; have := ((Blk.new (w.alloc (.cells #[(.func (.func 9) #[tv] #[]), .func (.func 40) #[] #[.pointer (some ⟨a, 0, none⟩)], .map (some b)] 103)) 3 #[.int .i64 1]).alloc (.cells #[.slice none 0 0, .slice none 0 0] 80)).alloc (.cells #[] 118); rw [World.size_alloc] at this; exact this
    have k2 : Blk W (w.heap.size + 1 + 1) 80 #[.slice none 0 0, .slice none 0 0] := by rw [← hW]; have := (Blk.new ((w.alloc (.cells #[(.func (.func 9) #[tv] #[]), .func (.func 40) #[] #[.pointer (some ⟨a, 0, none⟩)], .map (some b)] 103)).alloc (.cells #[.int .i64 1] 3)) 80 #[.slice none 0 0, .slice none 0 0]).alloc (.cells #[] 118); rw [World.size_alloc, World.size_alloc] at this; exact this
    have hownW := ownsMap_fr HOWN.out (Fr.of_below hbW No) (fun h => h)
    have x0 := k0.cell 0
    have x1 := k0.cell 1
    have x2 := k0.cell 2
    have x3 := k1.cell 0
    have x4 := k2.cell 0
    have x5 := k2.cell 1
    have HK0 := Lib.hid k0
    have HK1 := Lib.hid k1
    have HK2 := Lib.hid k2
    have HOW := Lib.hid hownW
    have HBW := Lib.hid hbW
    clear hW k0 k1 k2 hownW hbW
    go_wp2_with (at_mapUpdate; go_must (refine wpList_mapUpdate_own _ rfl (.tmp 28) (.tmp 29) (.tmp 30) 101 rfl 23 118 keyed23 Try.underlying101 unitElem b 0 (.map []) rfl HOW.out (by decide) _ _ _ rfl rfl HKEY.out _ _ unitElem_mk ?_); intro W2 hown2 hgrow2; clear hown2 x0 x1 x2 x3 x4 x5; have k0 := HK0.out.grown hgrow2 (by have := HBLT.out; simp; omega); have k1 := HK1.out.grown hgrow2 (by have := HBLT.out; simp; omega); have k2 := HK2.out.grown hgrow2 (by have := HBLT.out; simp; omega); have x0 := k0.cell 0; have x1 := k0.cell 1; have x2 := k0.cell 2; have x3 := k1.cell 0; have x4 := k2.cell 0; have x5 := k2.cell 1; have HQ0 := Lib.hid k0; have HQ1 := Lib.hid k1; have HQ2 := Lib.hid k2; have HFR2 := Lib.hid ((Fr.of_below HBW.out (fun k => k = b)).grown hgrow2 fun k hk => Or.inl (by injection hk with hk; exact hk.symm)); clear k0 k1 k2 hgrow2)
    have hg2 : GIn W2 S G := HG.out.keep HFR2.out fun k hk he => HSB.out (he ▸ hk)
    refine (HASK.out W2 hg2).mono ?_
    rintro e W3 ⟨rfl, hb3⟩
    have HFR3 := Lib.hid (HFR2.out.same (Fr.of_below hb3 _))
    have k0 := HQ0.out.below hb3 HQ0.out.lt
    have k1 := HQ1.out.below hb3 HQ1.out.lt
    have k2 := HQ2.out.below hb3 HQ2.out.lt
    clear x0 x1 x2 x3 x4 x5
    have hz0 : w.heap.size < W3.heap.size := k0.lt
    have hz1 : w.heap.size + 1 < W3.heap.size := k1.lt
    have hz2 : w.heap.size + 1 + 1 < W3.heap.size := k2.lt
    have x0 := k0.cell 0
    have x1 := k0.cell 1
    have x2 := k0.cell 2
    have x3 := k1.cell 0
    have x4 := k2.cell 0
    have x5 := k2.cell 1
    obtain ⟨C4, hC4⟩ : ∃ C, C = Obj.cells #[.int .i64 pk, .int .u64 (ps : Int), .int .u32 (px : Int), .slice pA pn pc] 51 := ⟨_, rfl⟩
    have hc4 := HCC.out (W3.alloc C4) (HFR3.out.alloc C4)
    have k4 : Blk (W3.alloc C4) W3.heap.size 51 #[.int .i64 pk, .int .u64 (ps : Int), .int .u32 (px : Int), .slice pA pn pc] := by rw [hC4]; exact Blk.new W3 51 _
    rw [hC4] at hc4 k4
    have HC4 := Lib.hid hc4
    have HK4 := Lib.hid k4
    have hsz3 : w.heap.size ≤ W3.heap.size := HFR3.out.size
    have HSZ3 := Lib.hid hsz3
    clear hg2 hb3 k0 k1 k2 hc4 k4 hC4 hsz3
    go_wp2_with fail
    refine HC4.out.mono ?_
    rintro e W5 ⟨rfl, hr5, hf5⟩
    have k5 := HK4.out.keep hf5 (by have := HSZ3.out; omega)
    have y0 := k5.cell 0
    have HR5 := Lib.hid hr5
    clear k5 hr5 hf5 x0 x1 x2 x3 x4 x5 hz0 hz1 hz2
    go_wp2_with fail
    refine bodyPost_ret (results_none rfl _ _ _) rfl ⟨rfl, HR5.out⟩
set_option maxHeartbeats 4000000 in
set_option maxRecDepth 100000 in
theorem downLeaf96 (G : Option TV) (n : Nat) (hn : n < 4294967296) (p : PV) (a b : Nat) (w : World) (S : Nat → Prop) (h : GIn w S G) (hSb : ¬ S b) (hp : askM G n = .ok p) (hk : p.k = 2) (hown : w.ownsMap Try.prog 23 (H := Unit) unitElem b 0 (.map [])) (R : World → Prop)
    (HC : ∀ W, Fr w W (fun k => k = b) → Calls Try.prog 56 #[stopV n p 1 (.slice none 0 0) (.slice none 0 0), .pointer (some ⟨a, 0, none⟩)] W fun e w' => e = .returned (.tuple #[]) ∧ R w' ∧ Fr W w' (fun b => b < w.heap.size)) :
    Calls Try.prog 60 #[walkerV (gV G) (.func (.func 56) #[] #[.pointer (some ⟨a, 0, none⟩)]) b, .int .u32 (n : Int), .int .i64 1, .agg #[.slice none 0 0, .slice none 0 0]] w fun e w' => e = .returned (.tuple #[]) ∧ R w' := by
  obtain ⟨g, hg⟩ : ∃ g, g = gV G := ⟨_, rfl⟩
  have hgc := gV_cases G
  rw [← hg] at hgc ⊢
  have hpin := ask_in h hp
  have hask := ask_ok (w := w) h hp
  rw [← hg] at hask
  have HASK := Lib.hid (fun (W : World) (hW : GIn W S G) => hg ▸ ask_ok hW hp)
  have HG := Lib.hid h
  have HOWN := Lib.hid hown
  have HBLT := Lib.hid hown.lt
  have HSB := Lib.hid hSb
  have HKEY := Lib.hid (Maps.keyOf_int_mk (P := Try.prog) Try.underlying23 (wf32 hn))
  have HCC := Lib.hid HC
  have HKK := Lib.hid hk
  obtain ⟨pk, ps, px, pA, pn, pc, pl⟩ := p
  have d9 : (pk == 2) = true := by dsimp only at hk; rw [hk]; rfl
  unfold walkerV
  unfold PV.agg at HASK
  unfold stopV at HCC
  dsimp only at HCC
  clear h hask hpin hown HC hk hg hp hn hSb
  have hown3 := fun o1 o2 o3 => ownsMap_fr HOWN.out ((((Fr.refl w No).alloc o1).alloc o2).alloc o3) (fun h => h)
  have HOWN3 := Lib.hid hown3
  have HMY5 := Lib.hid (fun W => must_yes 5 W)
  obtain ⟨cv, hcv⟩ : ∃ cv, cv = Value.func (.func 56) #[] #[.pointer (some ⟨a, 0, none⟩)] := ⟨_, rfl⟩
  have HCV := Lib.hid hcv
  clear hown3 hcv
  rcases hgc with rfl | ⟨tv, rfl⟩
  · go_enter Try.func60, Try.ntmps60
    go_wp2_with (at_lookup; go_must (refine wpList_lookup_own_unit _ rfl (.tmp 15) (.tmp 16) 101 rfl 23 118 keyed23 Try.underlying101 (zero118 _) b 0 (.map []) rfl (HOWN3.out _ _ _) _ _ rfl HKEY.out ?_); have hhas : Maps.has (H := Unit) (.map []) (.int .u32 (n : Int)) = false := rfl; rw [hhas]; clear hhas)
    refine (HMY5.out _).mono ?_
    intro e W he
    obtain ⟨rfl, hW⟩ := he
    have hbW : Below w.heap.size w W := by rw [← hW]; exact ((((Below.refl _ _).alloc (Nat.le_refl _) _).alloc (by simp) _).alloc (by simp; omega) _).alloc (by simp; omega) _
    have k0 : Blk W w.heap.size 103 #[.nilFunc, .func (.func 56) #[] #[.pointer (some ⟨a, 0, none⟩)], .map (some b)] := by rw [← hW]; exact (((Blk.new w 103 _).alloc _).alloc _).alloc _
    have k1 : Blk W (w.heap.size + 1) 3 #[.int .i64 1] := by rw [← hW]; have := ((Blk.new (w.alloc (.cells #[.nilFunc, .func (.func 56) #[] #[.pointer (some ⟨a, 0, none⟩)], .map (some b)] 103)) 3 #[.int .i64 1]).alloc (.cells #[.slice none 0 0, .slice none 0 0] 80)).alloc (.cells #[] 118); rw [World.size_alloc] at this; exact this
    have k2 : Blk W (w.heap.size + 1 + 1) 80 #[.slice none 0 0, .slice none 0 0] := by rw [← hW]; have := (Blk.new ((w.alloc (.cells #[.nilFunc, .func (.func 56) #[] #[.pointer (some ⟨a, 0, none⟩)], .map (some b)] 103)).alloc (.cells #[.int .i64 1] 3)) 80 #[.slice none 0 0, .slice none 0 0]).alloc (.cells #[] 118); rw [World.size_alloc, World.size_alloc] at this; exact this
    have hownW := ownsMap_fr HOWN.out (Fr.of_below hbW No) (fun h => h)
    have x0 := k0.cell 0
    have x1 := k0.cell 1
    have x2 := k0.cell 2
    have x3 := k1.cell 0
    have x4 := k2.cell 0
    have x5 := k2.cell 1
    have HK0 := Lib.hid k0
    have HK1 := Lib.hid k1
    have HK2 := Lib.hid k2
    have HOW := Lib.hid hownW
    have HBW := Lib.hid hbW
    clear hW k0 k1 k2 hownW hbW
    go_wp2_with (at_mapUpdate; go_must (refine wpList_mapUpdate_own _ rfl (.tmp 28) (.tmp 29) (.tmp 30) 101 rfl 23 118 keyed23 Try.underlying101 unitElem b 0 (.map []) rfl HOW.out (by decide) _ _ _ rfl rfl HKEY.out _ _ unitElem_mk ?_); intro W2 hown2 hgrow2; clear hown2 x0 x1 x2 x3 x4 x5; have k0 := HK0.out.grown hgrow2 (by have := HBLT.out; simp; omega); have k1 := HK1.out.grown hgrow2 (by have := HBLT.out; simp; omega); have k2 := HK2.out.grown hgrow2 (by have := HBLT.out; simp; omega); have x0 := k0.cell 0; have x1 := k0.cell 1; have x2 := k0.cell 2; have x3 := k1.cell 0; have x4 := k2.cell 0; have x5 := k2.cell 1; have HQ0 := Lib.hid k0; have HQ1 := Lib.hid k1; have HQ2 := Lib.hid k2; have HFR2 := Lib.hid ((Fr.of_below HBW.out (fun k => k = b)).grown hgrow2 fun k hk => Or.inl (by injection hk with hk; exact hk.symm)); clear k0 k1 k2 hgrow2)
    have hg2 : GIn W2 S G := HG.out.keep HFR2.out fun k hk he => HSB.out (he ▸ hk)
    refine (HASK.out W2 hg2).mono ?_
    rintro e W3 ⟨rfl, hb3⟩
    have HFR3 := Lib.hid (HFR2.out.same (Fr.of_below hb3 _))
    have k0 := HQ0.out.below hb3 HQ0.out.lt
    have k1 := HQ1.out.below hb3 HQ1.out.lt
    have k2 := HQ2.out.below hb3 HQ2.out.lt
    clear x0 x1 x2 x3 x4 x5
    have hz0 : w.heap.size < W3.heap.size := k0.lt
    have hz1 : w.heap.size + 1 < W3.heap.size := k1.lt
    have hz2 : w.heap.size + 1 + 1 < W3.heap.size := k2.lt
    have x0 := k0.cell 0
    have x1 := k0.cell 1
    have x2 := k0.cell 2
    have x3 := k1.cell 0
    have x4 := k2.cell 0
    have x5 := k2.cell 1
    obtain ⟨C4, hC4⟩ : ∃ C, C = Obj.cells #[.int .i64 pk, .int .u64 (ps : Int), .int .u32 (px : Int), .slice pA pn pc] 51 := ⟨_, rfl⟩
    have hc4 := HCC.out (W3.alloc C4) (HFR3.out.alloc C4)
    have k4 : Blk (W3.alloc C4) W3.heap.size 51 #[.int .i64 pk, .int .u64 (ps : Int), .int .u32 (px : Int), .slice pA pn pc] := by rw [hC4]; exact Blk.new W3 51 _
    rw [hC4] at hc4 k4
    have HC4 := Lib.hid hc4
    have HK4 := Lib.hid k4
    have hsz3 : w.heap.size ≤ W3.heap.size := HFR3.out.size
    have HSZ3 := Lib.hid hsz3
    clear hg2 hb3 k0 k1 k2 hc4 k4 hC4 hsz3
    go_wp2_with fail
    refine HC4.out.mono ?_
    rintro e W5 ⟨rfl, hr5, hf5⟩
    have k5 := HK4.out.keep hf5 (by have := HSZ3.out; omega)
    have y0 := k5.cell 0
    have HR5 := Lib.hid hr5
    clear k5 hr5 hf5 x0 x1 x2 x3 x4 x5 hz0 hz1 hz2
    go_wp2_with fail
    refine bodyPost_ret (results_none rfl _ _ _) rfl ⟨rfl, HR5.out⟩
  · go_enter Try.func60, Try.ntmps60
    go_wp2_with (at_lookup; go_must (refine wpList_lookup_own_unit _ rfl (.tmp 15) (.tmp 16) 101 rfl 23 118 keyed23 Try.underlying101 (zero118 _) b 0 (.map []) rfl (HOWN3.out _ _ _) _ _ rfl HKEY.out ?_); have hhas : Maps.has (H := Unit) (.map []) (.int .u32 (n : Int)) = false := rfl; rw [hhas]; clear hhas)
    refine (HMY5.out _).mono ?_
    intro e W he
    obtain ⟨rfl, hW⟩ := he
    have hbW : Below w.heap.size w W := by rw [← hW]; exact ((((Below.refl _ _).alloc (Nat.le_refl _) _).alloc (by simp) _).alloc (by simp; omega) _).alloc (by simp; omega) _
    have k0 : Blk W w.heap.size 103 #[(.func (.func 9) #[tv] #[]), .func (.func 56) #[] #[.pointer (some ⟨a, 0, none⟩)], .map (some b)] := by rw [← hW]; exact (((Blk.new w 103 _).alloc _).alloc _).alloc _
    have k1 : Blk W (w.heap.size + 1) 3 #[.int .i64 1] := by rw [← hW]; have := ((Blk.new (w.alloc (.cells #[(.func (.func 9) #[tv] #[]), .func (.func 56) #[] #[.pointer (some ⟨a, 0, none⟩)], .map (some b)] 103)) 3 #[.int .i64 1]).alloc (.cells #[.slice none 0 0, .slice none 0 0] 80)).alloc (.cells #[] 118); rw [World.size_alloc] at this; exact this
    have k2 : Blk W (w.heap.size + 1 + 1) 80 #[.slice none 0 0, .slice none 0 0] := by rw [← hW]; have := (Blk.new ((w.alloc (.cells #[(.func (.func 9) #[tv] #[]), .func (.func 56) #[] #[.pointer (some ⟨a, 0, none⟩)], .map (some b)] 103)).alloc (.cells #[.int .i64 1] 3)) 80 #[.slice none 0 0, .slice none 0 0]).alloc (.cells #[] 118); rw [World.size_alloc, World.size_alloc] at this; exact this
    have hownW := ownsMap_fr HOWN.out (Fr.of_below hbW No) (fun h => h)
    have x0 := k0.cell 0
    have x1 := k0.cell 1
    have x2 := k0.cell 2
    have x3 := k1.cell 0
    have x4 := k2.cell 0
    have x5 := k2.cell 1
    have HK0 := Lib.hid k0
    have HK1 := Lib.hid k1
    have HK2 := Lib.hid k2
    have HOW := Lib.hid hownW
    have HBW := Lib.hid hbW
    clear hW k0 k1 k2 hownW hbW
    go_wp2_with (at_mapUpdate; go_must (refine wpList_mapUpdate_own _ rfl (.tmp 28) (.tmp 29) (.tmp 30) 101 rfl 23 118 keyed23 Try.underlying101 unitElem b 0 (.map []) rfl HOW.out (by decide) _ _ _ rfl rfl HKEY.out _ _ unitElem_mk ?_); intro W2 hown2 hgrow2; clear hown2 x0 x1 x2 x3 x4 x5; have k0 := HK0.out.grown hgrow2 (by have := HBLT.out; simp; omega); have k1 := HK1.out.grown hgrow2 (by have := HBLT.out; simp; omega); have k2 := HK2.out.grown hgrow2 (by have := HBLT.out; simp; omega); have x0 := k0.cell 0; have x1 := k0.cell 1; have x2 := k0.cell 2; have x3 := k1.cell 0; have x4 := k2.cell 0; have x5 := k2.cell 1; have HQ0 := Lib.hid k0; have HQ1 := Lib.hid k1; have HQ2 := Lib.hid k2; have HFR2 := Lib.hid ((Fr.of_below HBW.out (fun k => k = b)).grown hgrow2 fun k hk => Or.inl (by injection hk with hk; exact hk.symm)); clear k0 k1 k2 hgrow2)
    have hg2 : GIn W2 S G := HG.out.keep HFR2.out fun k hk he => HSB.out (he ▸ hk)
    refine (HASK.out W2 hg2).mono ?_
    rintro e W3 ⟨rfl, hb3⟩
    have HFR3 := Lib.hid (HFR2.out.same (Fr.of_below hb3 _))
    have k0 := HQ0.out.below hb3 HQ0.out.lt
    have k1 := HQ1.out.below hb3 HQ1.out.lt
    have k2 := HQ2.out.below hb3 HQ2.out.lt
    clear x0 x1 x2 x3 x4 x5
    have hz0 : w.heap.size < W3.heap.size := k0.lt
    have hz1 : w.heap.size + 1 < W3.heap.size := k1.lt
    have hz2 : w.heap.size + 1 + 1 < W3.heap.size := k2.lt
    have x0 := k0.cell 0
    have x1 := k0.cell 1
    have x2 := k0.cell 2
    have x3 := k1.cell 0
    have x4 := k2.cell 0
    have x5 := k2.cell 1
    obtain ⟨C4, hC4⟩ : ∃ C, C = Obj.cells #[.int .i64 pk, .int .u64 (ps : Int), .int .u32 (px : Int), .slice pA pn pc] 51 := ⟨_, rfl⟩
    have hc4 := HCC.out (W3.alloc C4) (HFR3.out.alloc C4)
    have k4 : Blk (W3.alloc C4) W3.heap.size 51 #[.int .i64 pk, .int .u64 (ps : Int), .int .u32 (px : Int), .slice pA pn pc] := by rw [hC4]; exact Blk.new W3 51 _
    rw [hC4] at hc4 k4
    have HC4 := Lib.hid hc4
    have HK4 := Lib.hid k4
    have hsz3 : w.heap.size ≤ W3.heap.size := HFR3.out.size
    have HSZ3 := Lib.hid hsz3
    clear hg2 hb3 k0 k1 k2 hc4 k4 hC4 hsz3
    go_wp2_with fail
    refine HC4.out.mono ?_
    rintro e W5 ⟨rfl, hr5, hf5⟩
    have k5 := HK4.out.keep hf5 (by have := HSZ3.out; omega)
    have y0 := k5.cell 0
    have HR5 := Lib.hid hr5
    clear k5 hr5 hf5 x0 x1 x2 x3 x4 x5 hz0 hz1 hz2
    go_wp2_with fail
    refine bodyPost_ret (results_none rfl _ _ _) rfl ⟨rfl, HR5.out⟩
set_option maxHeartbeats 4000000 in
set_option maxRecDepth 100000 in
theorem downErr46 (G : Option TV) (n : Nat) (hn : n < 4294967296) (c : Int) (a b : Nat) (w : World) (S : Nat → Prop) (h : GIn w S G) (hSb : ¬ S b) (hp : askM G n = .error c) (hown : w.ownsMap Try.prog 23 (H := Unit) unitElem b 0 (.map [])) :
    Calls Try.prog 60 #[walkerV (gV G) (.func (.func 40) #[] #[.pointer (some ⟨a, 0, none⟩)]) b, .int .u32 (n : Int), .int .i64 1, .agg #[.slice none 0 0, .slice none 0 0]] w fun e w' => e = Flt c ∧ Fr w w' (fun k => k = b) := by
  obtain ⟨g, hg⟩ : ∃ g, g = gV G := ⟨_, rfl⟩
  have hgc := gV_cases G
  rw [← hg] at hgc ⊢
  have hask := ask_no (w := w) h hp
  rw [← hg] at hask
  have HASK := Lib.hid (fun (W : World) (hW : GIn W S G) => hg ▸ ask_no hW hp)
  have HG := Lib.hid h
  have HOWN := Lib.hid hown
  have HBLT := Lib.hid hown.lt
  have HSB := Lib.hid hSb
  have HKEY := Lib.hid (Maps.keyOf_int_mk (P := Try.prog) Try.underlying23 (wf32 hn))
  unfold walkerV
  unfold Flt at HASK ⊢
  clear h hask hown hg hp hn hSb
  have hown3 := fun o1 o2 o3 => ownsMap_fr HOWN.out ((((Fr.refl w No).alloc o1).alloc o2).alloc o3) (fun h => h)
  have HOWN3 := Lib.hid hown3
  have HMY5 := Lib.hid (fun W => must_yes 5 W)
  obtain ⟨cv, hcv⟩ : ∃ cv, cv = Value.func (.func 40) #[] #[.pointer (some ⟨a, 0, none⟩)] := ⟨_, rfl⟩
  have HCV := Lib.hid hcv
  clear hown3 hcv
  rcases hgc with rfl | ⟨tv, rfl⟩
  · go_enter Try.func60, Try.ntmps60
    go_wp2_with (at_lookup; go_must (refine wpList_lookup_own_unit _ rfl (.tmp 15) (.tmp 16) 101 rfl 23 118 keyed23 Try.underlying101 (zero118 _) b 0 (.map []) rfl (HOWN3.out _ _ _) _ _ rfl HKEY.out ?_); have hhas : Maps.has (H := Unit) (.map []) (.int .u32 (n : Int)) = false := rfl; rw [hhas]; clear hhas)
    refine (HMY5.out _).mono ?_
    intro e W he
    obtain ⟨rfl, hW⟩ := he
    have hbW : Below w.heap.size w W := by rw [← hW]; exact ((((Below.refl _ _).alloc (Nat.le_refl _) _).alloc (by simp) _).alloc (by simp; omega) _).alloc (by simp; omega) _
    have k0 : Blk W w.heap.size 103 #[.nilFunc, .func (.func 40) #[] #[.pointer (some ⟨a, 0, none⟩)], .map (some b)] := by rw [← hW]; exact (((Blk.new w 103 _).alloc _).alloc _).alloc _
    have k1 : Blk W (w.heap.size + 1) 3 #[.int .i64 1] := by rw [← hW]; have := ((Blk.new (w.alloc (.cells #[.nilFunc, .func (.func 40) #[] #[.pointer (some ⟨a, 0, none⟩)], .map (some b)] 103)) 3 #[.int .i64 1]).alloc (.cells #[.slice none 0 0, .slice none 0 0] 80)).alloc (.cells #[] 118); rw [World.size_alloc] at this; exact this
    have k2 : Blk W (w.heap.size + 1 + 1) 80 #[.slice none 0 0, .slice none 0 0] := by rw [← hW]; have := (Blk.new ((w.alloc (.cells #[.nilFunc, .func (.func 40) #[] #[.pointer (some ⟨a, 0, none⟩)], .map (some b)] 103)).alloc (.cells #[.int .i64 1] 3)) 80 #[.slice none 0 0, .slice none 0 0]).alloc (.cells #[] 118); rw [World.size_alloc, World.size_alloc] at this; exact this
    have hownW := ownsMap_fr HOWN.out (Fr.of_below hbW No) (fun h => h)
    have x0 := k0.cell 0
    have x1 := k0.cell 1
    have x2 := k0.cell 2
    have x3 := k1.cell 0
    have x4 := k2.cell 0
    have x5 := k2.cell 1
    have HK0 := Lib.hid k0
    have HK1 := Lib.hid k1
    have HK2 := Lib.hid k2
    have HOW := Lib.hid hownW
    have HBW := Lib.hid hbW
    clear hW k0 k1 k2 hownW hbW
    go_wp2_with (at_mapUpdate; go_must (refine wpList_mapUpdate_own _ rfl (.tmp 28) (.tmp 29) (.tmp 30) 101 rfl 23 118 keyed23 Try.underlying101 unitElem b 0 (.map []) rfl HOW.out (by decide) _ _ _ rfl rfl HKEY.out _ _ unitElem_mk ?_); intro W2 hown2 hgrow2; clear hown2 x0 x1 x2 x3 x4 x5; have k0 := HK0.out.grown hgrow2 (by have := HBLT.out; simp; omega); have k1 := HK1.out.grown hgrow2 (by have := HBLT.out; simp; omega); have k2 := HK2.out.grown hgrow2 (by have := HBLT.out; simp; omega); have x0 := k0.cell 0; have x1 := k0.cell 1; have x2 := k0.cell 2; have x3 := k1.cell 0; have x4 := k2.cell 0; have x5 := k2.cell 1; have HQ0 := Lib.hid k0; have HQ1 := Lib.hid k1; have HQ2 := Lib.hid k2; have HFR2 := Lib.hid ((Fr.of_below HBW.out (fun k => k = b)).grown hgrow2 fun k hk => Or.inl (by injection hk with hk; exact hk.symm)); clear k0 k1 k2 hgrow2)
    have hg2 : GIn W2 S G := HG.out.keep HFR2.out fun k hk he => HSB.out (he ▸ hk)
    refine (HASK.out W2 hg2).mono ?_
    rintro e W3 ⟨rfl, hb3⟩
    have HFR3 := Lib.hid (HFR2.out.same (Fr.of_below hb3 _))
    clear hg2 hb3 x0 x1 x2 x3 x4 x5
    go_wp2_with fail
    exact ⟨rfl, rfl, HFR3.out⟩
  · go_enter Try.func60, Try.ntmps60
    go_wp2_with (at_lookup; go_must (refine wpList_lookup_own_unit _ rfl (.tmp 15) (.tmp 16) 101 rfl 23 118 keyed23 Try.underlying101 (zero118 _) b 0 (.map []) rfl (HOWN3.out _ _ _) _ _ rfl HKEY.out ?_); have hhas : Maps.has (H := Unit) (.map []) (.int .u32 (n : Int)) = false := rfl; rw [hhas]; clear hhas)
    refine (HMY5.out _).mono ?_
    intro e W he
    obtain ⟨rfl, hW⟩ := he
    have hbW : Below w.heap.size w W := by rw [← hW]; exact ((((Below.refl _ _).alloc (Nat.le_refl _) _).alloc (by simp) _).alloc (by simp; omega) _).alloc (by simp; omega) _
    have k0 : Blk W w.heap.size 103 #[(.func (.func 9) #[tv] #[]), .func (.func 40) #[] #[.pointer (some ⟨a, 0, none⟩)], .map (some b)] := by rw [← hW]; exact (((Blk.new w 103 _).alloc _).alloc _).alloc _
    have k1 : Blk W (w.heap.size + 1) 3 #[.int .i64 1] := by rw [← hW]; have := ((Blk.new (w.alloc (.cells #[(.func (.func 9) #[tv] #[]), .func (.func 40) #[] #[.pointer (some ⟨a, 0, none⟩)], .map (some b)] 103)) 3 #[.int .i64 1]).alloc (.cells #[.slice none 0 0, .slice none 0 0] 80)).alloc (.cells #[] 118); rw [World.size_alloc] at this; exact this
    have k2 : Blk W (w.heap.size + 1 + 1) 80 #[.slice none 0 0, .slice none 0 0] := by rw [← hW]; have := (Blk.new ((w.alloc (.cells #[(.func (.func 9) #[tv] #[]), .func (.func 40) #[] #[.pointer (some ⟨a, 0, none⟩)], .map (some b)] 103)).alloc (.cells #[.int .i64 1] 3)) 80 #[.slice none 0 0, .slice none 0 0]).alloc (.cells #[] 118); rw [World.size_alloc, World.size_alloc] at this; exact this
    have hownW := ownsMap_fr HOWN.out (Fr.of_below hbW No) (fun h => h)
    have x0 := k0.cell 0
    have x1 := k0.cell 1
    have x2 := k0.cell 2
    have x3 := k1.cell 0
    have x4 := k2.cell 0
    have x5 := k2.cell 1
    have HK0 := Lib.hid k0
    have HK1 := Lib.hid k1
    have HK2 := Lib.hid k2
    have HOW := Lib.hid hownW
    have HBW := Lib.hid hbW
    clear hW k0 k1 k2 hownW hbW
    go_wp2_with (at_mapUpdate; go_must (refine wpList_mapUpdate_own _ rfl (.tmp 28) (.tmp 29) (.tmp 30) 101 rfl 23 118 keyed23 Try.underlying101 unitElem b 0 (.map []) rfl HOW.out (by decide) _ _ _ rfl rfl HKEY.out _ _ unitElem_mk ?_); intro W2 hown2 hgrow2; clear hown2 x0 x1 x2 x3 x4 x5; have k0 := HK0.out.grown hgrow2 (by have := HBLT.out; simp; omega); have k1 := HK1.out.grown hgrow2 (by have := HBLT.out; simp; omega); have k2 := HK2.out.grown hgrow2 (by have := HBLT.out; simp; omega); have x0 := k0.cell 0; have x1 := k0.cell 1; have x2 := k0.cell 2; have x3 := k1.cell 0; have x4 := k2.cell 0; have x5 := k2.cell 1; have HQ0 := Lib.hid k0; have HQ1 := Lib.hid k1; have HQ2 := Lib.hid k2; have HFR2 := Lib.hid ((Fr.of_below HBW.out (fun k => k = b)).grown hgrow2 fun k hk => Or.inl (by injection hk with hk; exact hk.symm)); clear k0 k1 k2 hgrow2)
    have hg2 : GIn W2 S G := HG.out.keep HFR2.out fun k hk he => HSB.out (he ▸ hk)
    refine (HASK.out W2 hg2).mono ?_
    rintro e W3 ⟨rfl, hb3⟩
    have HFR3 := Lib.hid (HFR2.out.same (Fr.of_below hb3 _))
    clear hg2 hb3 x0 x1 x2 x3 x4 x5
    go_wp2_with fail
    exact ⟨rfl, rfl, HFR3.out⟩
set_option maxHeartbeats 4000000 in
set_option maxRecDepth 100000 in
theorem downErr96 (G : Option TV) (n : Nat) (hn : n < 4294967296) (c : Int) (a b : Nat) (w : World) (S : Nat → Prop) (h : GIn w S G) (hSb : ¬ S b) (hp : askM G n = .error c) (hown : w.ownsMap Try.prog 23 (H := Unit) unitElem b 0 (.map [])) :
    Calls Try.prog 60 #[walkerV (gV G) (.func (.func 56) #[] #[.pointer (some ⟨a, 0, none⟩)]) b, .int .u32 (n : Int), .int .i64 1, .agg #[.slice none 0 0, .slice none 0 0]] w fun e w' => e = Flt c ∧ Fr w w' (fun k => k = b) := by
  obtain ⟨g, hg⟩ : ∃ g, g = gV G := ⟨_, rfl⟩
  have hgc := gV_cases G
  rw [← hg] at hgc ⊢
  have hask := ask_no (w := w) h hp
  rw [← hg] at hask
  have HASK := Lib.hid (fun (W : World) (hW : GIn W S G) => hg ▸ ask_no hW hp)
  have HG := Lib.hid h
  have HOWN := Lib.hid hown
  have HBLT := Lib.hid hown.lt
  have HSB := Lib.hid hSb
  have HKEY := Lib.hid (Maps.keyOf_int_mk (P := Try.prog) Try.underlying23 (wf32 hn))
  unfold walkerV
  unfold Flt at HASK ⊢
  clear h hask hown hg hp hn hSb
  have hown3 := fun o1 o2 o3 => ownsMap_fr HOWN.out ((((Fr.refl w No).alloc o1).alloc o2).alloc o3) (fun h => h)
  have HOWN3 := Lib.hid hown3
  have HMY5 := Lib.hid (fun W => must_yes 5 W)
  obtain ⟨cv, hcv⟩ : ∃ cv, cv = Value.func (.func 56) #[] #[.pointer (some ⟨a, 0, none⟩)] := ⟨_, rfl⟩
  have HCV := Lib.hid hcv
  clear hown3 hcv
  rcases hgc with rfl | ⟨tv, rfl⟩
  · go_enter Try.func60, Try.ntmps60
    go_wp2_with (at_lookup; go_must (refine wpList_lookup_own_unit _ rfl (.tmp 15) (.tmp 16) 101 rfl 23 118 keyed23 Try.underlying101 (zero118 _) b 0 (.map []) rfl (HOWN3.out _ _ _) _ _ rfl HKEY.out ?_); have hhas : Maps.has (H := Unit) (.map []) (.int .u32 (n : Int)) = false := rfl; rw [hhas]; clear hhas)
    refine (HMY5.out _).mono ?_
    intro e W he
    obtain ⟨rfl, hW⟩ := he
    have hbW : Below w.heap.size w W := by rw [← hW]; exact ((((Below.refl _ _).alloc (Nat.le_refl _) _).alloc (by simp) _).alloc (by simp; omega) _).alloc (by simp; omega) _
    have k0 : Blk W w.heap.size 103 #[.nilFunc, .func (.func 56) #[] #[.pointer (some ⟨a, 0, none⟩)], .map (some b)] := by rw [← hW]; exact (((Blk.new w 103 _).alloc _).alloc _).alloc _
    have k1 : Blk W (w.heap.size + 1) 3 #[.int .i64 1] := by rw [← hW]; have := ((Blk.new (w.alloc (.cells #[.nilFunc, .func (.func 56) #[] #[.pointer (some ⟨a, 0, none⟩)], .map (some b)] 103)) 3 #[.int .i64 1]).alloc (.cells #[.slice none 0 0, .slice none 0 0] 80)).alloc (.cells #[] 118); rw [World.size_alloc] at this; exact this
    have k2 : Blk W (w.heap.size + 1 + 1) 80 #[.slice none 0 0, .slice none 0 0] := by rw [← hW]; have := (Blk.new ((w.alloc (.cells #[.nilFunc, .func (.func 56) #[] #[.pointer (some ⟨a, 0, none⟩)], .map (some b)] 103)).alloc (.cells #[.int .i64 1] 3)) 80 #[.slice none 0 0, .slice none 0 0]).alloc (.cells #[] 118); rw [World.size_alloc, World.size_alloc] at this; exact this
    have hownW := ownsMap_fr HOWN.out (Fr.of_below hbW No) (fun h => h)
    have x0 := k0.cell 0
    have x1 := k0.cell 1
    have x2 := k0.cell 2
    have x3 := k1.cell 0
    have x4 := k2.cell 0
    have x5 := k2.cell 1
    have HK0 := Lib.hid k0
    have HK1 := Lib.hid k1
    have HK2 := Lib.hid k2
    have HOW := Lib.hid hownW
    have HBW := Lib.hid hbW
    clear hW k0 k1 k2 hownW hbW
    go_wp2_with (at_mapUpdate; go_must (refine wpList_mapUpdate_own _ rfl (.tmp 28) (.tmp 29) (.tmp 30) 101 rfl 23 118 keyed23 Try.underlying101 unitElem b 0 (.map []) rfl HOW.out (by decide) _ _ _ rfl rfl HKEY.out _ _ unitElem_mk ?_); intro W2 hown2 hgrow2; clear hown2 x0 x1 x2 x3 x4 x5; have k0 := HK0.out.grown hgrow2 (by have := HBLT.out; simp; omega); have k1 := HK1.out.grown hgrow2 (by have := HBLT.out; simp; omega); have k2 := HK2.out.grown hgrow2 (by have := HBLT.out; simp; omega); have x0 := k0.cell 0; have x1 := k0.cell 1; have x2 := k0.cell 2; have x3 := k1.cell 0; have x4 := k2.cell 0; have x5 := k2.cell 1; have HQ0 := Lib.hid k0; have HQ1 := Lib.hid k1; have HQ2 := Lib.hid k2; have HFR2 := Lib.hid ((Fr.of_below HBW.out (fun k => k = b)).grown hgrow2 fun k hk => Or.inl (by injection hk with hk; exact hk.symm)); clear k0 k1 k2 hgrow2)
    have hg2 : GIn W2 S G := HG.out.keep HFR2.out fun k hk he => HSB.out (he ▸ hk)
    refine (HASK.out W2 hg2).mono ?_
    rintro e W3 ⟨rfl, hb3⟩
    have HFR3 := Lib.hid (HFR2.out.same (Fr.of_below hb3 _))
    clear hg2 hb3 x0 x1 x2 x3 x4 x5
    go_wp2_with fail
    exact ⟨rfl, rfl, HFR3.out⟩
  · go_enter Try.func60, Try.ntmps60
    go_wp2_with (at_lookup; go_must (refine wpList_lookup_own_unit _ rfl (.tmp 15) (.tmp 16) 101 rfl 23 118 keyed23 Try.underlying101 (zero118 _) b 0 (.map []) rfl (HOWN3.out _ _ _) _ _ rfl HKEY.out ?_); have hhas : Maps.has (H := Unit) (.map []) (.int .u32 (n : Int)) = false := rfl; rw [hhas]; clear hhas)
    refine (HMY5.out _).mono ?_
    intro e W he
    obtain ⟨rfl, hW⟩ := he
    have hbW : Below w.heap.size w W := by rw [← hW]; exact ((((Below.refl _ _).alloc (Nat.le_refl _) _).alloc (by simp) _).alloc (by simp; omega) _).alloc (by simp; omega) _
    have k0 : Blk W w.heap.size 103 #[(.func (.func 9) #[tv] #[]), .func (.func 56) #[] #[.pointer (some ⟨a, 0, none⟩)], .map (some b)] := by rw [← hW]; exact (((Blk.new w 103 _).alloc _).alloc _).alloc _
    have k1 : Blk W (w.heap.size + 1) 3 #[.int .i64 1] := by rw [← hW]; have := ((Blk.new (w.alloc (.cells #[(.func (.func 9) #[tv] #[]), .func (.func 56) #[] #[.pointer (some ⟨a, 0, none⟩)], .map (some b)] 103)) 3 #[.int .i64 1]).alloc (.cells #[.slice none 0 0, .slice none 0 0] 80)).alloc (.cells #[] 118); rw [World.size_alloc] at this; exact this
    have k2 : Blk W (w.heap.size + 1 + 1) 80 #[.slice none 0 0, .slice none 0 0] := by rw [← hW]; have := (Blk.new ((w.alloc (.cells #[(.func (.func 9) #[tv] #[]), .func (.func 56) #[] #[.pointer (some ⟨a, 0, none⟩)], .map (some b)] 103)).alloc (.cells #[.int .i64 1] 3)) 80 #[.slice none 0 0, .slice none 0 0]).alloc (.cells #[] 118); rw [World.size_alloc, World.size_alloc] at this; exact this
    have hownW := ownsMap_fr HOWN.out (Fr.of_below hbW No) (fun h => h)
    have x0 := k0.cell 0
    have x1 := k0.cell 1
    have x2 := k0.cell 2
    have x3 := k1.cell 0
    have x4 := k2.cell 0
    have x5 := k2.cell 1
    have HK0 := Lib.hid k0
    have HK1 := Lib.hid k1
    have HK2 := Lib.hid k2
    have HOW := Lib.hid hownW
    have HBW := Lib.hid hbW
    clear hW k0 k1 k2 hownW hbW
    go_wp2_with (at_mapUpdate; go_must (refine wpList_mapUpdate_own _ rfl (.tmp 28) (.tmp 29) (.tmp 30) 101 rfl 23 118 keyed23 Try.underlying101 unitElem b 0 (.map []) rfl HOW.out (by decide) _ _ _ rfl rfl HKEY.out _ _ unitElem_mk ?_); intro W2 hown2 hgrow2; clear hown2 x0 x1 x2 x3 x4 x5; have k0 := HK0.out.grown hgrow2 (by have := HBLT.out; simp; omega); have k1 := HK1.out.grown hgrow2 (by have := HBLT.out; simp; omega); have k2 := HK2.out.grown hgrow2 (by have := HBLT.out; simp; omega); have x0 := k0.cell 0; have x1 := k0.cell 1; have x2 := k0.cell 2; have x3 := k1.cell 0; have x4 := k2.cell 0; have x5 := k2.cell 1; have HQ0 := Lib.hid k0; have HQ1 := Lib.hid k1; have HQ2 := Lib.hid k2; have HFR2 := Lib.hid ((Fr.of_below HBW.out (fun k => k = b)).grown hgrow2 fun k hk => Or.inl (by injection hk with hk; exact hk.symm)); clear k0 k1 k2 hgrow2)
    have hg2 : GIn W2 S G := HG.out.keep HFR2.out fun k hk he => HSB.out (he ▸ hk)
    refine (HASK.out W2 hg2).mono ?_
    rintro e W3 ⟨rfl, hb3⟩
    have HFR3 := Lib.hid (HFR2.out.same (Fr.of_below hb3 _))
    clear hg2 hb3 x0 x1 x2 x3 x4 x5
    go_wp2_with fail
    exact ⟨rfl, rfl, HFR3.out⟩
end Go.Proofs.Ytcajidlekfkjlaa
