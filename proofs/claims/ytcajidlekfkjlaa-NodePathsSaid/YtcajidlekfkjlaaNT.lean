/-
STAGE 8: Check, of a leaf or of no page.
-/
import Derived.Test.YtcajidlekfkjlaaNS
namespace Go.Proofs.Ytcajidlekfkjlaa
open Go.RowKit

set_option maxHeartbeats 2000000 in
set_option maxRecDepth 100000 in
theorem check_err (G : Option TV) (n : Nat) (hn : n < 4294967296) (c : Int) (w : World) (S : Nat → Prop) (h : GIn w S G) (hp : wErr G n = some c) :
    Calls Try.prog 36 #[gV G, .int .u32 (n : Int)] w fun e w' => e = Flt c ∧ Below w.heap.size w w' := by
  obtain ⟨W, hW⟩ : ∃ W, W = w.alloc (.cells #[.slice none 0 0] 99) := ⟨_, rfl⟩
  have hb : Below w.heap.size w W := by rw [hW]; exact (Below.refl _ _).alloc (Nat.le_refl _) _
  have hd := walkE96 G n hn c w.heap.size W S (h.below hb) hp
  obtain ⟨g, hg⟩ : ∃ g, g = gV G := ⟨_, rfl⟩
  rw [← hg] at hd ⊢
  unfold Flt at hd ⊢
  have HD := Lib.hid hd
  have HB := Lib.hid hb
  have HW := Lib.hid hW
  have hmf := hmf_
  clear hW hd hb h hp hg hn
  go_enter Try.func36, Try.ntmps36
  go_wp2_with fail
  rw [← HW.out]
  refine HD.out.mono ?_
  rintro e w1 ⟨rfl, hb1⟩
  have HB1 := Lib.hid (HB.out.trans (hb1.mono HB.out.size))
  clear hb1
  go_wp2_with fail
  exact ⟨rfl, rfl, HB1.out⟩
set_option maxHeartbeats 4000000 in
set_option maxRecDepth 100000 in
theorem check_leaf (G : Option TV) (n : Nat) (h0 : n ≠ 0) (hn : n < 4294967296) (p : PV) (w : World) (S : Nat → Prop) (h : GIn w S G) (hp : askM G n = .ok p) (hk : p.k = 2) (hx : p.x = 0) (hE : ∀ x ∈ p.l, 1 ≤ x.m ∧ x.m ≤ 146) :
    Calls Try.prog 36 #[gV G, .int .u32 (n : Int)] w fun e w' => e = .returned (.tuple #[]) ∧ Below w.heap.size w w' := by
  obtain ⟨W, hW⟩ : ∃ W, W = w.alloc (.cells #[.slice none 0 0] 99) := ⟨_, rfl⟩
  have hb : Below w.heap.size w W := by rw [hW]; exact (Below.refl _ _).alloc (Nat.le_refl _) _
  have ha : Blk W w.heap.size 99 #[.slice none 0 0] := by rw [hW]; exact Blk.new w 99 _
  have hsz : W.heap.size = w.heap.size + 1 := by rw [hW]; simp
  obtain ⟨hpi, hpf⟩ := ask_in h hp
  have hok : okP p = true := (ask_ok_inv hp).elim fun _ ⟨_, _, _, h⟩ => h
  have hpn : p.n ≤ 1000 := by have := (okP_rise hok).2.1; have := hpi.len; omega
  have hd := walkLeaf96 G n h0 hn p w.heap.size W S (h.below hb) hp hk (fun w' => StopAt W w' w.heap.size (stc n p 1 (.slice none 0 0) (.slice none 0 0)) ∧ Fr W w' (fun b => b = w.heap.size))
    (fun W' hW' => by
      refine (chk1_leaf n p hk w.heap.size W' (ha.below hW' ha.lt) (hpi.all.below (hb.trans (hW'.mono hb.size))) hpn hE).mono ?_
      rintro e w2 ⟨he, ⟨g, cap, h1, h2, h3, h4⟩, hf⟩
      exact ⟨he, ⟨⟨g, cap, h1, h2, h3, Nat.le_trans hW'.size h4⟩, (Fr.of_below hW' _).same hf⟩, hf.mono fun b _ hb => by omega⟩)
  obtain ⟨g, hg⟩ : ∃ g, g = gV G := ⟨_, rfl⟩
  rw [← hg] at hd ⊢
  have HD := Lib.hid hd
  have HB := Lib.hid hb
  have HW := Lib.hid hW
  have HSZ := Lib.hid hsz
  have HMY := Lib.hid (fun W => must_yes 5 W)
  have hmf := hmf_
  obtain ⟨pk, ps, px, pA, pn, pc, pl⟩ := p
  have d1 : ((px : Int) == 0) = true := by dsimp only at hx; rw [hx]; rfl
  clear hW hd hb h hp hg hn h0 ha hpi hpf hok hpn hk hsz hE hx
  go_enter Try.func36, Try.ntmps36
  go_wp2_with fail
  rw [← HW.out]
  refine HD.out.mono ?_
  rintro e w1 ⟨rfl, ⟨q, cap, h1, h2, h3, h4⟩, hf⟩
  have y0 := h1.cell 0
  have HQ := Lib.hid h2
  have HQL := Lib.hid h3
  have HA := Lib.hid h1
  have HB1 := Lib.hid (HB.out.trans (hf.below (B := w.heap.size) (fun b hb => by omega) (by have := HSZ.out; omega)))
  clear h1 h2 h3 h4 hf
  go_wp2_with fail
  go_loopw [14] (fun i wr => ∃ k : Nat, k ≤ 1 ∧ i = .int .i64 (k : Int) ∧ Below w1.heap.size w1 wr) (fun i _ => 1 - (intOf i).toNat)
  case atStart => exact ⟨0, by decide, rfl, Below.refl _ _⟩
  case round =>
    obtain ⟨k, hk, rfl, hbr⟩ := hrel
    have HBR := Lib.hid hbr
    by_cases hlt : k < 1
    · obtain rfl : k = 0 := by omega
      have q0 := (hbr.cell (p := ⟨q, 0, none⟩) HQL.out).trans (HQ.out 0 _ rfl)
      have q1 := (hbr.cell (p := ⟨q, 1, none⟩) HQL.out).trans (HQ.out 1 _ rfl)
      have q2 := (hbr.cell (p := ⟨q, 2, none⟩) HQL.out).trans (HQ.out 2 _ rfl)
      have q3 := (hbr.cell (p := ⟨q, 3, none⟩) HQL.out).trans (HQ.out 3 _ rfl)
      have q4 := (hbr.cell (p := ⟨q, 4, none⟩) HQL.out).trans (HQ.out 4 _ rfl)
      have q5 := (hbr.cell (p := ⟨q, 5, none⟩) HQL.out).trans (HQ.out 5 _ rfl)
      have q6 := (hbr.cell (p := ⟨q, 6, none⟩) HQL.out).trans (HQ.out 6 _ rfl)
      have q7 := (hbr.cell (p := ⟨q, 7, none⟩) HQL.out).trans (HQ.out 7 _ rfl)
      have ar := HA.out.below hbr HA.out.lt
      have y0 := ar.cell 0
      have hz := ar.lt
      clear hbr hk hlt ar
      go_wp2_with fail
      refine (HMY.out _).mono ?_
      rintro e w4 ⟨rfl, rfl⟩
      go_wp2_with fail
      go_roundw
      case rel => exact ⟨1, Nat.le_refl _, rfl, HBR.out.alloc HBR.out.size _⟩
      case measure => simp [intOf]
    · obtain rfl : k = 1 := by omega
      clear hbr hk hlt
      go_wp2_with fail
      go_end0
      exact ⟨rfl, HB1.out.trans (HBR.out.mono HB1.out.size)⟩
set_option maxHeartbeats 2000000 in
set_option maxRecDepth 100000 in
theorem clos55_err (G : Option TV) (n : Nat) (hn : n < 4294967296) (c : Int) (w : World) (S : Nat → Prop) (h : GIn w S G) (hp : wErr G n = some c) (bg bn : Nat) (hbg : Blk w bg 59 #[gV G]) (hbn : Blk w bn 23 #[.int .u32 (n : Int)]) :
    Calls Try.prog 35 #[.pointer (some ⟨bg, 0, none⟩), .pointer (some ⟨bn, 0, none⟩)] w fun e w' => e = Flt c ∧ Below w.heap.size w w' := by
  have x0 := hbg.cell 0
  have x1 := hbn.cell 0
  have hd := check_err G n hn c w S h hp
  obtain ⟨g, hg⟩ : ∃ g, g = gV G := ⟨_, rfl⟩
  rw [← hg] at hd x0
  unfold Flt at hd ⊢
  have HD := Lib.hid hd
  clear hd h hp hbg hbn hg hn
  go_enter Try.func35, Try.ntmps35
  go_wp2_with fail
  refine HD.out.mono ?_
  rintro e w1 ⟨rfl, hb1⟩
  have HB1 := Lib.hid hb1
  clear hb1
  go_wp2_with fail
  exact ⟨rfl, rfl, HB1.out⟩
set_option maxHeartbeats 2000000 in
set_option maxRecDepth 100000 in
theorem clos55_leaf (G : Option TV) (n : Nat) (h0 : n ≠ 0) (hn : n < 4294967296) (p : PV) (w : World) (S : Nat → Prop) (h : GIn w S G) (hp : askM G n = .ok p) (hk : p.k = 2) (hx : p.x = 0) (hE : ∀ x ∈ p.l, 1 ≤ x.m ∧ x.m ≤ 146) (bg bn : Nat) (hbg : Blk w bg 59 #[gV G]) (hbn : Blk w bn 23 #[.int .u32 (n : Int)]) :
    Calls Try.prog 35 #[.pointer (some ⟨bg, 0, none⟩), .pointer (some ⟨bn, 0, none⟩)] w fun e w' => e = .returned (.int .i64 0) ∧ Below w.heap.size w w' := by
  have x0 := hbg.cell 0
  have x1 := hbn.cell 0
  have hd := check_leaf G n h0 hn p w S h hp hk hx hE
  obtain ⟨g, hg⟩ : ∃ g, g = gV G := ⟨_, rfl⟩
  rw [← hg] at hd x0
  have HD := Lib.hid hd
  clear hd h hp hbg hbn hg hn hk hx hE h0
  go_enter Try.func35, Try.ntmps35
  go_wp2_with fail
  refine HD.out.mono ?_
  rintro e w1 ⟨rfl, hb1⟩
  have HB1 := Lib.hid hb1
  clear hb1
  go_wp2_with fail
  go_ret
  exact ⟨rfl, HB1.out⟩
section
variable (G : Option TV) (n : Nat) (hn : n < 4294967296) (w : World)
set_option maxRecDepth 100000 in
theorem boxes2 (g : Value) : Below w.heap.size w ((w.alloc (.cells #[g] 59)).alloc (.cells #[.int .u32 (n : Int)] 23)) ∧ Blk ((w.alloc (.cells #[g] 59)).alloc (.cells #[.int .u32 (n : Int)] 23)) w.heap.size 59 #[g] ∧ Blk ((w.alloc (.cells #[g] 59)).alloc (.cells #[.int .u32 (n : Int)] 23)) (w.heap.size + 1) 23 #[.int .u32 (n : Int)] :=
  ⟨((Below.refl _ _).alloc (Nat.le_refl _) _).alloc (by simp) _, (Blk.new w 59 _).alloc _, by have := Blk.new (w.alloc (.cells #[g] 59)) 23 #[.int .u32 (n : Int)]; rwa [World.size_alloc] at this⟩
end
set_option maxHeartbeats 2000000 in
set_option maxRecDepth 100000 in
theorem Check_err (G : Option TV) (n : Nat) (hn : n < 4294967296) (c : Int) (w : World) (S : Nat → Prop) (h : GIn w S G) (hp : wErr G n = some c) :
    Calls Try.prog 15 #[gV G, .int .u32 (n : Int)] w fun e w' => e = .returned (.int .i64 c) ∧ Below w.heap.size w w' := by
  obtain ⟨g, hg⟩ : ∃ g, g = gV G := ⟨_, rfl⟩
  have hgc := gV_cases G
  rw [← hg] at hgc ⊢
  obtain ⟨W, hW⟩ : ∃ W, W = (w.alloc (.cells #[g] 59)).alloc (.cells #[.int .u32 (n : Int)] 23) := ⟨_, rfl⟩
  obtain ⟨hb, bg, bn⟩ := boxes2 n w g
  rw [← hW] at hb bg bn
  have ha := ansW_below W (.int .i64 0) 3
  have HA := Lib.hid (answer37_55_no _ _ c W (clos55_err G n hn c (ansW W (.int .i64 0) 3) S ((h.below hb).below ha) hp w.heap.size (w.heap.size + 1) (by rw [← hg]; exact bg.below ha bg.lt) (bn.below ha bn.lt)))
  have HB := Lib.hid hb
  have hmf := hmf_
  clear hg hb bg bn ha hp hn h
  rcases hgc with rfl | ⟨tv, rfl⟩
  all_goals
    have HW := Lib.hid hW
    clear hW
    go_enter Try.func15, Try.ntmps15
    go_wp2_with fail
    rw [← HW.out]
    refine HA.out.mono ?_
    rintro e w1 ⟨rfl, hb1⟩
    have HB1 := Lib.hid (HB.out.trans (hb1.mono HB.out.size))
    clear hb1
    go_wp2_with fail
    go_ret
    exact ⟨rfl, HB1.out⟩
set_option maxHeartbeats 2000000 in
set_option maxRecDepth 100000 in
theorem Check_leaf (G : Option TV) (n : Nat) (h0 : n ≠ 0) (hn : n < 4294967296) (p : PV) (w : World) (S : Nat → Prop) (h : GIn w S G) (hp : askM G n = .ok p) (hk : p.k = 2) (hx : p.x = 0) (hE : ∀ x ∈ p.l, 1 ≤ x.m ∧ x.m ≤ 146) :
    Calls Try.prog 15 #[gV G, .int .u32 (n : Int)] w fun e w' => e = .returned (.int .i64 0) ∧ Below w.heap.size w w' := by
  obtain ⟨g, hg⟩ : ∃ g, g = gV G := ⟨_, rfl⟩
  have hgc := gV_cases G
  rw [← hg] at hgc ⊢
  obtain ⟨W, hW⟩ : ∃ W, W = (w.alloc (.cells #[g] 59)).alloc (.cells #[.int .u32 (n : Int)] 23) := ⟨_, rfl⟩
  obtain ⟨hb, bg, bn⟩ := boxes2 n w g
  rw [← hW] at hb bg bn
  have ha := ansW_below W (.int .i64 0) 3
  have HA := Lib.hid (answer37_55_yes _ _ (fun v _ => v = .int .i64 0) W ((clos55_leaf G n h0 hn p (ansW W (.int .i64 0) 3) S ((h.below hb).below ha) hp hk hx hE w.heap.size (w.heap.size + 1) (by rw [← hg]; exact bg.below ha bg.lt) (bn.below ha bn.lt)).mono fun e w' ⟨he, hq⟩ => ⟨0, he, rfl, hq⟩))
  have HB := Lib.hid hb
  have hmf := hmf_
  clear hg hb bg bn ha hp hn h h0 hk hx hE
  rcases hgc with rfl | ⟨tv, rfl⟩
  all_goals
    have HW := Lib.hid hW
    clear hW
    go_enter Try.func15, Try.ntmps15
    go_wp2_with fail
    rw [← HW.out]
    refine HA.out.mono ?_
    rintro e w1 ⟨v, rfl, hb1, W2, rfl, _, _⟩
    have HB1 := Lib.hid (HB.out.trans (hb1.mono HB.out.size))
    clear hb1
    go_wp2_with fail
    go_ret
    exact ⟨rfl, HB1.out⟩
end Go.Proofs.Ytcajidlekfkjlaa
