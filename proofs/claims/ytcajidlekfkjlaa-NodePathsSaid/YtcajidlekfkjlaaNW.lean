/-
STAGE 8: Needs, where there is room; Split of no page.
-/
import Derived.Test.YtcajidlekfkjlaaNV
namespace Go.Proofs.Ytcajidlekfkjlaa
open Go.RowKit

set_option maxRecDepth 100000 in
theorem NR.below_ {w w' : World} {T : Nat → Prop} {A : Option Addr} {n : Nat} {l : List Nat} (h : NR w T A n l) (hb : Below w.heap.size w w') : NR w' T A n l := h.move hb.size fun p hp _ => hb.cell (p := p) hp
set_option maxHeartbeats 2000000 in
set_option maxRecDepth 100000 in
theorem clos38_err (G : Option TV) (pA : Option Addr) (pn pc : Nat) (path : List Nat) (x : List Nat) (hxx : ∀ y ∈ x, y < 256) (w : World) (S : Nat → Prop) (h : GIn w S G) (hpa : NR w All pA pn path) (hch : ChildAll w G x) (hp0 : 0 < pn) (hr : path.getD 0 0 ≠ 0) (he : isE x = true) (cd : Int) (hw : wayM G x 8 (path.getD 0 0) = .error cd) (bg bp be : Nat) (hbg : Blk w bg 59 #[gV G]) (hbp : Blk w bp 30 #[.slice pA pn pc]) (hbe : Blk w be 9 #[.string (strOf x)]) :
    Calls Try.prog 42 #[.pointer (some ⟨bg, 0, none⟩), .pointer (some ⟨bp, 0, none⟩), .pointer (some ⟨be, 0, none⟩)] w fun e w' => e = Flt cd ∧ Below w.heap.size w w' := by
  have x0 := hbg.cell 0
  have x1 := hbp.cell 0
  have x2 := hbe.cell 0
  obtain ⟨A2, c2, W2, hcv2, hc2, _, hrb2, hbw2⟩ := run_cvn w x hxx
  have hp := prepare_way G pA pn pc path A2 c2 x W2 S (h.below hbw2) (hpa.below_ hbw2) (hch W2 A2 c2 hbw2 (hrb2.mono fun _ _ _ => trivial)) hp0 hr he cd hw
  obtain ⟨g, hg⟩ : ∃ g, g = gV G := ⟨_, rfl⟩
  rw [← hg] at hp x0
  have HB2 := Lib.hid hbw2
  have HP := Lib.hid hp
  unfold Flt at HP ⊢
  clear hg hp hbw2 hrb2 hc2 hw he hr hp0 hch hpa h hbg hbp hbe hxx
  go_enter Try.func42, Try.ntmps42
  go_wp2_with fail
  refine HP.out.mono ?_
  rintro e w1 ⟨rfl, hb1⟩
  have HB1 := Lib.hid (HB2.out.trans (hb1.mono HB2.out.size))
  clear hb1
  go_wp2_with fail
  exact ⟨rfl, rfl, HB1.out⟩
set_option maxHeartbeats 2000000 in
set_option maxRecDepth 100000 in
theorem clos38_ok (G : Option TV) (pA : Option Addr) (pn pc : Nat) (path : List Nat) (x : List Nat) (hxx : ∀ y ∈ x, y < 256) (w : World) (S : Nat → Prop) (h : GIn w S G) (hpa : NR w All pA pn path) (hch : ChildAll w G x) (hp0 : 0 < pn) (hr : path.getD 0 0 ≠ 0) (he : isE x = true) (l : List IV) (i : IV) (hw : wayM G x 8 (path.getD 0 0) = .ok l) (hpl : path = nos l) (hi : l.getLast? = some i) (hroom : x.length ≤ room i.p.k i.p.es) (bg bp be : Nat) (hbg : Blk w bg 59 #[gV G]) (hbp : Blk w bp 30 #[.slice pA pn pc]) (hbe : Blk w be 9 #[.string (strOf x)]) :
    Calls Try.prog 42 #[.pointer (some ⟨bg, 0, none⟩), .pointer (some ⟨bp, 0, none⟩), .pointer (some ⟨be, 0, none⟩)] w fun e w' => (thereP i.p x = true → e = Flt 7 ∧ Below w.heap.size w w') ∧ (thereP i.p x = false → e = .returned (.int .i64 0) ∧ Below w.heap.size w w') := by
  have x0 := hbg.cell 0
  have x1 := hbp.cell 0
  have x2 := hbe.cell 0
  obtain ⟨A2, c2, W2, hcv2, hc2, _, hrb2, hbw2⟩ := run_cvn w x hxx
  have hp := prepare_ok G pA pn pc path A2 c2 x W2 S (h.below hbw2) (hpa.below_ hbw2) (hrb2.mono fun _ _ _ => trivial) (hch W2 A2 c2 hbw2 (hrb2.mono fun _ _ _ => trivial)) hp0 hr he l i hw hpl hi hroom
  obtain ⟨th, hth⟩ : ∃ th, th = thereP i.p x := ⟨_, rfl⟩
  have hll := (wayM_len 8 _ l hw).1
  have HLL := Lib.hid hll
  rw [← hth] at hp ⊢
  obtain ⟨g, hg⟩ : ∃ g, g = gV G := ⟨_, rfl⟩
  rw [← hg] at hp x0
  have HB2 := Lib.hid hbw2
  have HP := Lib.hid hp
  unfold Flt at HP ⊢
  clear hg hp hbw2 hrb2 hc2 hw he hr hp0 hch hpa h hbg hbp hbe hxx hpl hi hroom hth hll
  cases th with
  | true =>
    have HP1 := Lib.hid (HP.out.mono (fun e w' h => h.1 rfl))
    clear HP
    refine Calls.mono (R := fun e w' => e = Ending.panicked [{ v := fltV 7, recovered := false }] ∧ Below w.heap.size w w') ?_ fun e w' h => ⟨fun _ => h, fun h' => by cases h'⟩
    go_enter Try.func42, Try.ntmps42
    go_wp2_with fail
    refine HP1.out.mono ?_
    rintro e w1 ⟨rfl, hb1⟩
    have HB1 := Lib.hid (HB2.out.trans (hb1.mono HB2.out.size))
    clear hb1
    go_wp2_with fail
    exact ⟨rfl, rfl, HB1.out⟩
  | false =>
    have HP1 := Lib.hid (HP.out.mono (fun e w' h => h.2 rfl))
    clear HP
    refine Calls.mono (R := fun e w' => e = Ending.returned (.int .i64 0) ∧ Below w.heap.size w w') ?_ fun e w' h => ⟨fun h' => (by cases h'), fun _ => h⟩
    go_enter Try.func42, Try.ntmps42
    go_wp2_with fail
    refine HP1.out.mono ?_
    rintro e w1 ⟨v, rfl, hov, hb1⟩
    obtain ⟨vA, vc, rfl, _⟩ := hov.reads (by have := HLL.out; omega)
    have HB1 := Lib.hid (HB2.out.trans (hb1.mono HB2.out.size))
    clear hb1 hov
    obtain ⟨nl, hnl⟩ : ∃ nl, nl = l.length := ⟨_, rfl⟩
    rw [← hnl]
    clear hnl
    go_wp2_with fail
    go_ret
    exact ⟨rfl, HB1.out⟩
set_option maxHeartbeats 2000000 in
set_option maxRecDepth 100000 in
theorem top11_err (G : Option TV) (pA : Option Addr) (pn pc : Nat) (path : List Nat) (x : List Nat) (hxx : ∀ y ∈ x, y < 256) (w : World) (S : Nat → Prop) (h : GIn w S G) (hpa : NR w All pA pn path) (hch : ChildAll w G x) (hp0 : 0 < pn) (hr : path.getD 0 0 ≠ 0) (he : isE x = true) (cd : Int) (hw : wayM G x 8 (path.getD 0 0) = .error cd) :
    Calls Try.prog 19 #[gV G, .slice pA pn pc, .string (strOf x)] w fun e w' => e = .returned (.tuple #[.int .i64 0, .int .i64 cd]) ∧ Below w.heap.size w w' := by
  obtain ⟨g, hg⟩ : ∃ g, g = gV G := ⟨_, rfl⟩
  have hgc := gV_cases G
  rw [← hg] at hgc ⊢
  obtain ⟨W, hW⟩ : ∃ W, W = ((w.alloc (.cells #[g] 59)).alloc (.cells #[.slice pA pn pc] 30)).alloc (.cells #[.string (strOf x)] 9) := ⟨_, rfl⟩
  have hb : Below w.heap.size w W := by
    have h1 : Below w.heap.size w (((w.alloc (.cells #[g] 59)).alloc (.cells #[.slice pA pn pc] 30)).alloc (.cells #[.string (strOf x)] 9)) := (((Below.refl _ _).alloc (Nat.le_refl _) _).alloc (by simp) _).alloc (by simp; omega) _
    rw [hW]; exact h1
  have bg : Blk W w.heap.size 59 #[g] := by rw [hW]; exact ((Blk.new w 59 _).alloc _).alloc _
  have bp : Blk W (w.heap.size + 1) 30 #[.slice pA pn pc] := by
    have := (Blk.new (w.alloc (.cells #[g] 59)) 30 #[.slice pA pn pc]).alloc (.cells #[.string (strOf x)] 9)
    rw [hW]; rwa [World.size_alloc] at this
  have be : Blk W (w.heap.size + 1 + 1) 9 #[.string (strOf x)] := by
    have := Blk.new ((w.alloc (.cells #[g] 59)).alloc (.cells #[.slice pA pn pc] 30)) 9 #[.string (strOf x)]
    rw [hW]; rwa [World.size_alloc, World.size_alloc] at this
  have ha := ansW_below W (.int .i64 0) 3
  have HA := Lib.hid (answer37_38_no _ _ _ cd W (clos38_err G pA pn pc path x hxx (ansW W (.int .i64 0) 3) S ((h.below hb).below ha) ((hpa.below_ hb).below_ ha) ((hch.below hb).below ha) hp0 hr he cd hw w.heap.size (w.heap.size + 1) (w.heap.size + 1 + 1) (by rw [← hg]; exact bg.below ha bg.lt) (bp.below ha bp.lt) (be.below ha be.lt)))
  have HB := Lib.hid hb
  have hmf := hmf_
  clear hg hb bg bp be ha h hpa hch hp0 hr he hw hxx
  rcases hgc with rfl | ⟨tv, rfl⟩
  all_goals
    have HW := Lib.hid hW
    clear hW
    go_enter Try.func19, Try.ntmps19
    go_wp2_with fail
    rw [← HW.out]
    refine HA.out.mono ?_
    rintro e w1 ⟨rfl, hb1⟩
    have HB1 := Lib.hid (HB.out.trans (hb1.mono HB.out.size))
    clear hb1
    go_wp2_with fail
    go_ret2
    exact ⟨rfl, HB1.out⟩
set_option maxHeartbeats 2000000 in
set_option maxRecDepth 100000 in
theorem top11_ok (G : Option TV) (pA : Option Addr) (pn pc : Nat) (path : List Nat) (x : List Nat) (hxx : ∀ y ∈ x, y < 256) (w : World) (S : Nat → Prop) (h : GIn w S G) (hpa : NR w All pA pn path) (hch : ChildAll w G x) (hp0 : 0 < pn) (hr : path.getD 0 0 ≠ 0) (he : isE x = true) (l : List IV) (i : IV) (hw : wayM G x 8 (path.getD 0 0) = .ok l) (hpl : path = nos l) (hi : l.getLast? = some i) (hroom : x.length ≤ room i.p.k i.p.es) :
    Calls Try.prog 19 #[gV G, .slice pA pn pc, .string (strOf x)] w fun e w' => e = .returned (.tuple #[.int .i64 0, .int .i64 (if thereP i.p x then 7 else 0)]) ∧ Below w.heap.size w w' := by
  obtain ⟨g, hg⟩ : ∃ g, g = gV G := ⟨_, rfl⟩
  have hgc := gV_cases G
  rw [← hg] at hgc ⊢
  obtain ⟨W, hW⟩ : ∃ W, W = ((w.alloc (.cells #[g] 59)).alloc (.cells #[.slice pA pn pc] 30)).alloc (.cells #[.string (strOf x)] 9) := ⟨_, rfl⟩
  have hb : Below w.heap.size w W := by
    have h1 : Below w.heap.size w (((w.alloc (.cells #[g] 59)).alloc (.cells #[.slice pA pn pc] 30)).alloc (.cells #[.string (strOf x)] 9)) := (((Below.refl _ _).alloc (Nat.le_refl _) _).alloc (by simp) _).alloc (by simp; omega) _
    rw [hW]; exact h1
  have bg : Blk W w.heap.size 59 #[g] := by rw [hW]; exact ((Blk.new w 59 _).alloc _).alloc _
  have bp : Blk W (w.heap.size + 1) 30 #[.slice pA pn pc] := by
    have := (Blk.new (w.alloc (.cells #[g] 59)) 30 #[.slice pA pn pc]).alloc (.cells #[.string (strOf x)] 9)
    rw [hW]; rwa [World.size_alloc] at this
  have be : Blk W (w.heap.size + 1 + 1) 9 #[.string (strOf x)] := by
    have := Blk.new ((w.alloc (.cells #[g] 59)).alloc (.cells #[.slice pA pn pc] 30)) 9 #[.string (strOf x)]
    rw [hW]; rwa [World.size_alloc, World.size_alloc] at this
  have ha := ansW_below W (.int .i64 0) 3
  have hcl := clos38_ok G pA pn pc path x hxx (ansW W (.int .i64 0) 3) S ((h.below hb).below ha) ((hpa.below_ hb).below_ ha) ((hch.below hb).below ha) hp0 hr he l i hw hpl hi hroom w.heap.size (w.heap.size + 1) (w.heap.size + 1 + 1) (by rw [← hg]; exact bg.below ha bg.lt) (bp.below ha bp.lt) (be.below ha be.lt)
  have HB := Lib.hid hb
  have hmf := hmf_
  obtain ⟨th, hth⟩ : ∃ th, th = thereP i.p x := ⟨_, rfl⟩
  rw [← hth] at hcl ⊢
  clear hg hb bg bp be ha h hpa hch hp0 hr he hw hxx hpl hi hroom hth
  cases th with
  | true =>
    have HA := Lib.hid (answer37_38_no _ _ _ 7 W (hcl.mono fun e w' hq => hq.1 rfl))
    clear hcl
    rcases hgc with rfl | ⟨tv, rfl⟩
    all_goals
      have HW := Lib.hid hW
      clear hW
      go_enter Try.func19, Try.ntmps19
      go_wp2_with fail
      rw [← HW.out]
      refine HA.out.mono ?_
      rintro e w1 ⟨rfl, hb1⟩
      have HB1 := Lib.hid (HB.out.trans (hb1.mono HB.out.size))
      clear hb1
      go_wp2_with fail
      go_ret2
      exact ⟨rfl, HB1.out⟩
  | false =>
    have HA := Lib.hid (answer37_38_yes _ _ _ (fun v _ => v = .int .i64 0) W (hcl.mono fun e w' hq => by
      obtain ⟨he, hb⟩ := hq.2 rfl
      exact ⟨0, he, rfl, hb⟩))
    clear hcl
    rcases hgc with rfl | ⟨tv, rfl⟩
    all_goals
      have HW := Lib.hid hW
      clear hW
      go_enter Try.func19, Try.ntmps19
      go_wp2_with fail
      rw [← HW.out]
      refine HA.out.mono ?_
      rintro e w1 ⟨v, rfl, hb1, W2, rfl, _, _⟩
      have HB1 := Lib.hid (HB.out.trans (hb1.mono HB.out.size))
      clear hb1
      go_wp2_with fail
      go_ret2
      exact ⟨rfl, HB1.out⟩
end Go.Proofs.Ytcajidlekfkjlaa
