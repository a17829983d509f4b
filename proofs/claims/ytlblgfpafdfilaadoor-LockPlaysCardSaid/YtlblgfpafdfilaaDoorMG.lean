/-
STAGE 12: the document's Meet and Conflict; apart.
-/
import Derived.Test.YtlblgfpafdfilaaDoorMF
namespace Go.Proofs.YtlblgfpafdfilaaDoor
open Go.RowKit Go.Sort
attribute [local go_sem high] run_eqs run_neqs run_leqs run_lsss

theorem TL.release {w0 w : World} {z g : Nat} {ls : List LK} (h : TL w0 w z g ls) (hzs : z ≤ w0.heap.size) (t : Nat) :
    Calls Tryd.prog 19 #[.pointer (some ⟨g, 0, none⟩), .int .u32 (t : Int)] w fun e w' => (∃ vg, e = .returned vg ∧ OwR w' 34 1 uf vg (releaseM t ls).2) ∧ TL w0 w' z g (releaseM t ls).1 ∧ ∀ a ty cs, Blk w a ty cs → ty ≠ 46 → ty ≠ 29 → Blk w' a ty cs := by
  obtain ⟨⟨v, hT, hv⟩, hb, hz, hg⟩ := h
  exact (release_any t g v ls w hT hg).mono fun e w' ⟨vg, v', he, ho, _, hc⟩ => ⟨⟨vg, he, ho⟩, TL.chg hT hv hb hz hg hzs hc, fun a ty cs hk h1 h2 => hk.keep hc.fr fun e => by
    rcases e with e | e
    · exact Blk.ne_ hk hT.blk h2 e
    · exact Blk.own_ne hk hT.own (fun e => h1 e.symm) e.symm⟩
def belM (a b : ByteArray) : Bool := emp b || slt a b
def rmeetM (x y : Th) : Bool := alikeM x y && (!x.r || (belM x.a y.b && belM y.a x.b))
def rconM (a b : Int) : Bool := (a == 4 || b == 4) || ((a == 2 && b == 3) || (a == 3 && b == 2))
set_option maxRecDepth 100000 in
theorem below68 (a b : ByteArray) (w : World) : Calls Tryd.prog 68 #[.string a, .string b] w fun e w' => e = .returned (.bool (belM a b)) ∧ Below w.heap.size w w' := by
  have HB := Lib.hid (Below.refl w.heap.size w)
  unfold belM emp
  obtain ⟨f, hf⟩ : ∃ f, f = slt a b := ⟨_, rfl⟩
  obtain ⟨g, hg⟩ : ∃ g, g = seq b ⟨#[]⟩ := ⟨_, rfl⟩
  rw [← hf, ← hg]
  replace hf := hf.symm
  replace hg := hg.symm
  cases g <;>
  · go_enter Tryd.func68, Tryd.ntmps68
    go_wp2_with fail
    go_ret
    exact ⟨by simp, HB.out⟩
set_option maxRecDepth 100000 in
theorem con49 (a b : Int) (ha : 1 ≤ a ∧ a ≤ 4) (hb : 1 ≤ b ∧ b ≤ 4) (w : World) : Calls Tryd.prog 49 #[.int .i64 a, .int .i64 b] w fun e w' => e = .returned (.bool (rconM a b)) ∧ Below w.heap.size w w' := by
  have HB := Lib.hid (Below.refl w.heap.size w)
  have h1 : a = 1 ∨ a = 2 ∨ a = 3 ∨ a = 4 := by omega
  have h2 : b = 1 ∨ b = 2 ∨ b = 3 ∨ b = 4 := by omega
  clear ha hb
  rcases h1 with rfl | rfl | rfl | rfl <;> rcases h2 with rfl | rfl | rfl | rfl <;>
  · go_enter Tryd.func49, Tryd.ntmps49
    go_wp2_with fail
    go_ret
    exact ⟨rfl, HB.out⟩
theorem th_rg {w : World} {g : Nat} {x : Th} (h : Blk w g 36 (tcs x)) : (∀ d os, (grow (redrawn w d) os).cell? ⟨g, 0, none⟩ = some (.bool x.r)) ∧ (∀ d os, (grow (redrawn w d) os).cell? ⟨g, 1, none⟩ = some (.int .u32 (x.i : Int))) ∧ (∀ d os, (grow (redrawn w d) os).cell? ⟨g, 2, none⟩ = some (.string x.a)) ∧ (∀ d os, (grow (redrawn w d) os).cell? ⟨g, 3, none⟩ = some (.string x.b)) :=
  ⟨fun d os => cell_regrown (h.cell 0) d os, fun d os => cell_regrown (h.cell 1) d os, fun d os => cell_regrown (h.cell 2) d os, fun d os => cell_regrown (h.cell 3) d os⟩
set_option maxRecDepth 100000 in
set_option maxHeartbeats 8000000 in
theorem meet48 (x y : Th) (w : World) : Calls Tryd.prog 48 #[x.agg, y.agg] w fun e w' => e = .returned (.bool (rmeetM x y)) ∧ Below w.heap.size w w' := by
  obtain ⟨W, hW, hb, bx, bz, hsz⟩ := boxes36 w x y
  have HB := Lib.hid hb
  have HX := Lib.hid bx
  have HY := Lib.hid bz
  have H1 := Lib.hid (fun W => below68 x.a y.b W)
  have H2 := Lib.hid (fun W => below68 y.a x.b W)
  have e1 := nbeq x.i y.i
  unfold rmeetM alikeM
  obtain ⟨u, hu⟩ : ∃ u, (x.i == y.i) = u := ⟨_, rfl⟩
  have e2 : ((x.i : Int) != (y.i : Int)) = !u := by rw [← hu, ← e1]; rfl
  rw [hu]
  clear e1 hu
  generalize belM x.a y.b = g1 at H1 ⊢
  generalize belM y.a x.b = g2 at H2 ⊢
  obtain ⟨xr, xi, xa, xb⟩ := x
  obtain ⟨yr, yi, ya, yb⟩ := y
  simp only [Th.agg, box36, tcs] at hW H1 H2 e2 ⊢
  clear hb bx bz hsz
  have key : (xr = yr ∧ u = true ∧ xr = true) ∨ (xr = yr ∧ u = true ∧ xr = false) ∨ (xr = yr ∧ u = false) ∨ (xr = true ∧ yr = false) ∨ (xr = false ∧ yr = true) := by cases xr <;> cases yr <;> cases u <;> simp
  rcases key with ⟨rfl, rfl, rfl⟩ | ⟨rfl, rfl, rfl⟩ | ⟨rfl, rfl⟩ | ⟨rfl, rfl⟩ | ⟨rfl, rfl⟩
  · cases g1 <;>
    · go_enter Tryd.func48, Tryd.ntmps48
      go_upto_region 1 with fail
      clear hW
      obtain ⟨c0, c1, c2, c3⟩ := blk36 HX.out
      obtain ⟨d0, d1, d2, d3⟩ := blk36 HY.out
      dsimp only at c0 c1 c2 c3 d0 d1 d2 d3
      go_wp2_with (first
        | (go_at_call 68; with_reducible refine (H1.out _).mono ?_; rintro e w1 ⟨rfl, hb⟩; have HB1 := Lib.hid hb; obtain ⟨c0, c1, c2, c3⟩ := blk36 (HX.out.below hb HX.out.lt); obtain ⟨d0, d1, d2, d3⟩ := blk36 (HY.out.below hb HY.out.lt); dsimp only at c0 c1 c2 c3 d0 d1 d2 d3; clear hb)
        | (go_at_call 68; with_reducible refine (H2.out _).mono ?_; rintro e w2 ⟨rfl, hb⟩; have HB2 := Lib.hid hb; clear hb))
      go_ret
      first
        | exact ⟨by simp, (HB.out.trans (HB1.out.mono HB.out.size)).trans (HB2.out.mono (Nat.le_trans HB.out.size HB1.out.size))⟩
        | exact ⟨by simp, HB.out.trans (HB1.out.mono HB.out.size)⟩
  all_goals
    go_enter Tryd.func48, Tryd.ntmps48
    go_upto_region 1 with fail
    clear hW
    obtain ⟨c0, c1, c2, c3⟩ := blk36 HX.out
    obtain ⟨d0, d1, d2, d3⟩ := blk36 HY.out
    dsimp only at c0 c1 c2 c3 d0 d1 d2 d3
    go_wp2_with fail
    go_ret
    exact ⟨by simp, HB.out⟩
end Go.Proofs.YtlblgfpafdfilaaDoor
