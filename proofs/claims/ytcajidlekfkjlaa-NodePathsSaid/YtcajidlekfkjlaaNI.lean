/-
STAGE 8: entryOf, placeOf.
-/
import Derived.Test.YtcajidlekfkjlaaSA
import Derived.Test.YtcajidlekfkjlaaNB
import Derived.Test.YtcajidlekfkjlaaUW
namespace Go.Proofs.Ytcajidlekfkjlaa
open Go.RowKit

def eo (k : Int) : Nat := if k = 3 then 4 else 0
set_option maxHeartbeats 1000000 in
set_option maxRecDepth 100000 in
theorem entryOf_any (k : Int) (x : CV) (w : World) {T : Nat → Prop} (h : x.In w T) (hk : eo k ≤ x.m) :
    Calls Try.prog 57 #[.int .i64 k, x.agg] w fun e w' => e = .returned (.slice x.A (x.m - eo k) x.c) ∧ Below w.heap.size w w' := by
  have hmc := h.mc
  have hml := h.ml
  have hA := h.b.2.2
  obtain ⟨u, kk, A, m, c, d⟩ := x
  unfold CV.agg
  dsimp only at hmc hml hk hA ⊢
  clear h
  by_cases h3 : k = 3
  · have d1 : (k == 3) = true := by rw [h3]; rfl
    have he : eo k = 4 := by unfold eo; rw [if_pos h3]
    rw [he] at hk ⊢
    obtain ⟨ad, hAd, _⟩ := hA (by omega)
    subst hAd
    obtain ⟨q, hq⟩ : ∃ q, q = m - 4 := ⟨_, rfl⟩
    rw [← hq]
    have s1 : (m : Int) - 4 = (q : Int) := by omega
    have s2 : IntKind.i64.wrap (q : Int) = (q : Int) := IntWalk.i64_in _ (by omega)
    have s3 : q ≤ c := by omega
    clear h3 he hq hA
    go_enter Try.func57, Try.ntmps57
    go_wp2_with fail
    go_ret
    exact ⟨rfl, (Below.refl _ _).alloc (Nat.le_refl _) _⟩
  · have d1 : (k == 3) = false := beq_false_of_ne h3
    have he : eo k = 0 := by unfold eo; rw [if_neg h3]
    rw [he, Nat.sub_zero]
    clear h3 he hA
    go_enter Try.func57, Try.ntmps57
    go_wp2_with fail
    go_ret
    exact ⟨rfl, (Below.refl _ _).alloc (Nat.le_refl _) _⟩
set_option maxRecDepth 100000 in
theorem CV.In.ent {x : CV} {w : World} {T : Nat → Prop} (h : x.In w T) {e : Nat} (he : e ≤ x.m) : RB w T x.A (x.m - e) (ent e x.d) := by
  unfold Go.Proofs.Ytcajidlekfkjlaa.ent
  rw [h.len]
  exact h.b.take (by omega)
/-- a text in its box -/
def tcs (A : Option Addr) (m c : Nat) : Array Value := #[.slice A m c]
set_option maxHeartbeats 1000000 in
set_option maxRecDepth 100000 in
theorem place1_any (p : PV) (A : Option Addr) (m c : Nat) (x : List Nat) (w : World) (a b : Nat) (hp : Blk w a 51 (pcs p)) (ho : Blk w b 46 #[.slice A m c]) (hi : p.In w All All) (ho2 : RB w All A m x) (he : ∀ y ∈ p.l, eo p.k ≤ y.m) (i : Nat) (hlt : i < p.n) (hn : p.n ≤ 1000000) :
    Calls Try.prog 71 #[.int .i64 (i : Int), .pointer (some ⟨a, 0, none⟩), .pointer (some ⟨b, 0, none⟩)] w fun e w' => e = .returned (.bool (!ltb (ent (eo p.k) (p.es.getD i cz).d) x)) ∧ Below w.heap.size w w' := by
  obtain ⟨y0, y1, y2, y3⟩ := pcs_cells hp
  have t0 := ho.cell 0
  obtain ⟨g, o, xx, hA, hg, _, hxx, hxi, b0, b1, b2⟩ := hi.r.at_ hlt
  have hxd : (p.es.getD i cz).d = xx.d := by unfold PV.es; rw [getD_at (es_at hxx)]; rfl
  have hee := he xx (List.mem_of_getElem? hxx)
  have hte := hxi.ent hee
  have HCM := Lib.hid (fun (W : World) (hW : Below w.heap.size w W) => (compare_any xx.A (xx.m - eo p.k) xx.c (ent (eo p.k) xx.d) A m c x W (hte.keep (Fr.of_below hW No) fun _ _ hn => hn) (ho2.keep (Fr.of_below hW No) fun _ _ hn => hn)).mono (R' := fun e w' => e = .returned (.int .i64 (cmpN (ent (eo p.k) xx.d) x)) ∧ Below W.heap.size W w') fun e w' ⟨a, b⟩ => ⟨a, b ▸ Below.refl _ _⟩)
  have HEN := Lib.hid (fun (W : World) (hW : Below w.heap.size w W) => entryOf_any p.k xx W (hxi.keep (Fr.of_below hW No) fun _ _ hn => hn) hee)
  have HGE := Lib.hid (cmpN_ge (ent (eo p.k) xx.d) x)
  have hws : IntKind.i64.wrap (i : Int) = (i : Int) := IntWalk.i64_in _ (by omega)
  rw [hA] at y3
  obtain ⟨cm, hcm⟩ : ∃ cm, cm = cmpN (ent (eo p.k) xx.d) x := ⟨_, rfl⟩
  obtain ⟨nn, hnn⟩ : ∃ nn, nn = xx.m - eo p.k := ⟨_, rfl⟩
  rw [← hcm] at HCM HGE
  rw [← hnn] at HCM HEN
  have HD := Lib.hid hxd
  obtain ⟨lb, hlb⟩ : ∃ lb, lb = ltb (ent (eo p.k) xx.d) x := ⟨_, rfl⟩
  rw [← hlb] at HGE
  have HLB := Lib.hid hlb
  have hge := HGE.out
  unfold CV.agg at HEN
  clear hp ho hi ho2 he hA hxx hxi hxd hcm hlb hnn hee hte
  go_enter Try.func71, Try.ntmps71
  go_wp2_with fail
  have z0 := fun d os => cell_regrown y3 d os
  have z00 := fun d os => cell_regrown y0 d os
  have z1 := fun d os => cell_regrown b0 d os
  have z2 := fun d os => cell_regrown b1 d os
  have z3 := fun d os => cell_regrown b2 d os
  have z4 := fun d os => cell_regrown t0 d os
  refine wp_region_quiet_below (by kernel_rfl) (by kernel_rfl) ?_
  repeat (go_big_quiet_step (first | (go_at_call 72; with_reducible exact Calls.regrown_of (HCM.out _ (below_regrown _ _ _))) | (go_at_call 57; with_reducible exact Calls.regrown_of (HEN.out _ (below_regrown _ _ _)))))
  refine wpQuiet_nil ?_
  rintro W3 ⟨pp, hpp⟩
  have HB3 := Lib.hid (show Below w.heap.size w W3 by rw [hpp]; exact below_regrown _ _ _)
  clear hpp z0 z00 z1 z2 z3 z4
  go_wp2_with fail
  go_ret
  refine ⟨?_, HB3.out⟩
  show Ending.returned (.bool (!lb)) = _
  rw [HLB.out, HD.out]
/-- where a text would stand on a page -/
def placeN (p : PV) (x : List Nat) : Nat := lbd (eo p.k) p.es x
set_option maxHeartbeats 1000000 in
set_option maxRecDepth 100000 in
theorem placeOf_any (p : PV) (A : Option Addr) (m c : Nat) (x : List Nat) (w : World) (h : p.In w All All) (hx : RB w All A m x) (he : ∀ y ∈ p.l, eo p.k ≤ y.m) (hr : rise (eo p.k) p.es = true) (hn : p.n ≤ 1000) :
    Calls Try.prog 52 #[p.agg, .slice A m c] w fun e w' => e = .returned (.int .i64 (placeN p x : Int)) ∧ Below w.heap.size w w' := by
  obtain ⟨W1, hW1, hBW1, hbx1, hsz1⟩ := box_page w p
  obtain ⟨W, hW⟩ : ∃ W, W = W1.alloc (.cells #[.slice A m c] 46) := ⟨_, rfl⟩
  have hBW2 : Below W1.heap.size W1 W := by rw [hW]; exact (Below.refl _ _).alloc (Nat.le_refl _) _
  have hbx2 : Blk W W1.heap.size 46 #[.slice A m c] := by rw [hW]; exact Blk.new W1 46 _
  have hbx := hbx1.below hBW2 (by omega)
  have hBW : Below w.heap.size w W := hBW1.trans (hBW2.mono hBW1.size)
  obtain ⟨y0, y1, y2, y3⟩ := pcs_cells hbx
  have t0 := hbx2.cell 0
  have HP := Lib.hid (h.below hBW)
  have HO := Lib.hid (hx.keep (Fr.of_below hBW No) fun _ _ hn => hn)
  have HBX := Lib.hid hbx
  have HBO := Lib.hid hbx2
  have HBW := Lib.hid hBW
  have hlen := h.len
  have HSE := Lib.hid (search_any W p.n w.heap.size W1.heap.size (fun k => !ltb (ent (eo p.k) (p.es.getD k cz).d) x) (placeN p x) (by rw [← hlen]; exact lbd_le _ _ _)
    (fun k hk => by rw [lbd_below hk]; rfl) (fun k h1 h2 => by rw [lbd_above hr h1 (by omega)]; rfl) hn
    (fun W' hW' i hi => place1_any p A m c x W' w.heap.size W1.heap.size (HBX.out.below hW' HBX.out.lt) (HBO.out.below hW' HBO.out.lt) (HP.out.below hW') (HO.out.keep (Fr.of_below hW' No) fun _ _ hn => hn) he i hi (by omega)))
  obtain ⟨q, hq⟩ : ∃ q, q = placeN p x := ⟨_, rfl⟩
  rw [← hq] at HSE ⊢
  have hmf := hmf_
  obtain ⟨pk, ps, px, pA, n, pc, l⟩ := p
  simp only at hW1 hW y0 y1 y2 y3 hn HSE
  simp only [PV.agg]
  unfold fnV at HSE
  have HW := Lib.hid hW
  rw [hW] at HSE y3 t0
  have HW1 := Lib.hid hW1
  rw [← hW1] at HSE y3 t0
  rw [World.size_alloc] at HSE t0
  clear h hx hBW1 hBW2 hbx1 hbx2 hsz1 hbx hBW hr hlen hq he hW hW1 y0 y1 y2
  go_enter Try.func52, Try.ntmps52
  go_wp2_with fail
  refine HSE.out.mono ?_
  rintro e w1 ⟨rfl, hb1⟩
  have HB1 : Hid (Below w.heap.size w w1) := by rw [HW1.out, ← HW.out] at hb1; exact Lib.hid (HBW.out.trans (hb1.mono HBW.out.size))
  clear hb1
  go_wp2_with fail
  go_ret
  exact ⟨rfl, HB1.out⟩
end Go.Proofs.Ytcajidlekfkjlaa
