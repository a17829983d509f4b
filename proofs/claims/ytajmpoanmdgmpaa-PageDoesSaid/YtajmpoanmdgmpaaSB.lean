/-
  A LEAF's CELL IS FOUND: THE WALK OF find FOR A LEAF.
-/
import Derived.Test.YtajmpoanmdgmpaaSA
namespace Go.Proofs.Ytajmpoanmdgmpaa
open Go.RowKit

theorem bless_trans : ∀ a b c : List UInt8, Op.bytesLess a b = true → Op.bytesLess b c = true → Op.bytesLess a c = true
  | [], [], _, h, _ => by simp [Op.bytesLess] at h
  | [], _ :: _, [], _, h => by simp [Op.bytesLess] at h
  | [], _ :: _, _ :: _, _, _ => by simp [Op.bytesLess]
  | _ :: _, [], _, h, _ => by simp [Op.bytesLess] at h
  | _ :: _, _ :: _, [], _, h => by simp [Op.bytesLess] at h
  | x :: a, y :: b, z :: c, h, k => by
    have ih := bless_trans a b c
    unfold Op.bytesLess at h k ⊢
    simp only [Bool.or_eq_true, Bool.and_eq_true, decide_eq_true_eq, beq_iff_eq] at h k ⊢
    rcases h with h | ⟨rfl, h⟩
    · rcases k with k | ⟨rfl, k⟩
      · exact Or.inl (UInt8.lt_trans h k)
      · exact Or.inl h
    · rcases k with k | ⟨rfl, k⟩
      · exact Or.inl k
      · exact Or.inr ⟨rfl, ih h k⟩
theorem ltb_trans {a b c : List Nat} (h : ltb a b = true) (k : ltb b c = true) : ltb a c = true := bless_trans _ _ _ h k
theorem bless_irr : ∀ a : List UInt8, Op.bytesLess a a = false
  | [] => by simp [Op.bytesLess]
  | x :: a => by
    have := bless_irr a
    simp [Op.bytesLess, this]
theorem ltb_irr (a : List Nat) : ltb a a = false := bless_irr _
/-- where a leaf's cell stands, or would stand -/
def lbd (es : List CE) (d : List Nat) : Nat := es.findIdx fun c => !ltb c.d d
theorem lbd_le (es : List CE) (d : List Nat) : lbd es d ≤ es.length := List.findIdx_le_length
theorem rise_at {es : List CE} (h : rise 0 es = true) {i : Nat} (hi : i < es.length) : (es.getD i cz).u = true ∧ (0 < i → ltb (es.getD (i - 1) cz).d (es.getD i cz).d = true) := by
  unfold rise at h
  rw [all_rng] at h
  have := h i hi
  unfold okAt at this
  simp only [ent_zero, Bool.and_eq_true, Bool.or_eq_true, beq_iff_eq] at this
  refine ⟨this.1, fun h0 => ?_⟩
  rcases this.2 with h1 | h1
  · omega
  · exact h1
theorem rise_lt {es : List CE} (h : rise 0 es = true) {i : Nat} : ∀ {j : Nat}, i < j → j < es.length → ltb (es.getD i cz).d (es.getD j cz).d = true
  | 0, h1, _ => by omega
  | j + 1, h1, h2 => by
    have h3 := (rise_at h h2).2 (by omega)
    rw [show j + 1 - 1 = j by omega] at h3
    rcases Nat.lt_or_ge i j with h4 | h4
    · exact ltb_trans (rise_lt h h4 (by omega)) h3
    · obtain rfl : i = j := by omega
      exact h3
theorem getD_lt {es : List CE} {i : Nat} (hi : i < es.length) : es.getD i cz = es[i] := by simp [List.getD, hi]
theorem lbd_below {es : List CE} {d : List Nat} {k : Nat} (hk : k < lbd es d) : ltb (es.getD k cz).d d = true := by
  have h1 := List.not_of_lt_findIdx hk
  have h2 : k < es.length := Nat.lt_of_lt_of_le hk (lbd_le es d)
  rw [getD_lt h2]
  simpa using h1
theorem lbd_at {es : List CE} {d : List Nat} (hk : lbd es d < es.length) : ltb (es.getD (lbd es d) cz).d d = false := by
  have h1 := List.findIdx_getElem (xs := es) (p := fun c : CE => !ltb c.d d) (w := show List.findIdx (fun c : CE => !ltb c.d d) es < es.length from hk)
  rw [getD_lt hk]
  simpa [lbd] using h1
theorem lbd_above {es : List CE} {d : List Nat} (h : rise 0 es = true) {k : Nat} (hk : lbd es d ≤ k) (hl : k < es.length) : ltb (es.getD k cz).d d = false := by
  rcases Nat.lt_or_ge (lbd es d) k with h1 | h1
  · rw [Bool.eq_false_iff]
    intro h2
    have h3 := ltb_trans (rise_lt h h1 hl) h2
    rw [lbd_at (by omega)] at h3
    cases h3
  · obtain rfl : k = lbd es d := by omega
    exact lbd_at hl
def isThere (es : List CE) (d : List Nat) : Bool := decide (lbd es d < es.length) && seq (es.getD (lbd es d) cz).d d
set_option maxHeartbeats 1000000 in
set_option maxRecDepth 100000 in
theorem find_leaf (p : PV) (op : OV) (w : World) (h : p.In w All All) (ho : op.In w All) (hk : p.k = 2) (hn : p.n ≤ 300) (hr : rise 0 p.es = true) :
    Calls Try.prog 83 #[p.agg, op.agg] w fun e w' => e = .returned (.tuple #[.int .i64 (lbd p.es op.d : Int), .bool (isThere p.es op.d)]) ∧ Below w.heap.size w w' := by
  obtain ⟨W1, hW1, hBW1, hbx1, hsz1⟩ := box_page w p
  obtain ⟨W, hW, hBW2, hbx2, hsz2⟩ := box_op W1 op
  have hbx := hbx1.below hBW2 (by omega)
  have hBW : Below w.heap.size w W := hBW1.trans (hBW2.mono hBW1.size)
  obtain ⟨y0, y1, y2, y3⟩ := pcs_cells hbx
  obtain ⟨t0, t1, t2, t3⟩ := ocs_cells hbx2
  have HP := Lib.hid (h.below hBW)
  have HO := Lib.hid (ho.below hBW)
  have HBX := Lib.hid hbx
  have HBO := Lib.hid hbx2
  have HBW := Lib.hid hBW
  have hlen := h.len
  have HSE := Lib.hid (search_any W p.n w.heap.size W1.heap.size (fun k => !ltb (p.es.getD k cz).d op.d) (lbd p.es op.d) (by rw [← hlen]; exact lbd_le _ _)
    (fun k hk => by rw [lbd_below hk]; rfl) (fun k h1 h2 => by rw [lbd_above hr h1 (by omega)]; rfl) (by omega)
    (fun W' hW' i hi => by
      have hx : p.es[i]? = some (p.es.getD i cz) := by rw [getD_lt (by omega), List.getElem?_eq_getElem (by omega)]
      exact less_any p op W' w.heap.size W1.heap.size (HBX.out.below hW' HBX.out.lt) (HBO.out.below hW' HBO.out.lt) (HP.out.below hW') (HO.out.below hW') i hi (by omega) _ hx))
  obtain ⟨q, hq⟩ : ∃ q, q = lbd p.es op.d := ⟨_, rfl⟩
  have hqn : q ≤ p.n := by rw [hq, ← hlen]; exact lbd_le _ _
  have hth : isThere p.es op.d = (decide (q < p.n) && seq (p.es.getD q cz).d op.d) := by unfold isThere; rw [← hq, hlen]
  rw [hth, ← hq]
  rw [← hq] at HSE
  have hmf : ∀ (fn : Fn) (first cap : Array Value) (w : World), (Instr.makeFunc fn first cap).run Try.prog w = .ok (.func fn first cap) w := fun _ _ _ _ => rfl
  have HLEN := Lib.hid hlen
  obtain ⟨pk, ps, px, A, n, c, l⟩ := p
  obtain ⟨ok, os, ot, oA, om, oc, od⟩ := op
  simp only at hW1 hW y0 y1 y2 y3 t0 t1 t2 t3 hn hk hqn HLEN HSE
  subst hk
  simp only [PV.agg, OV.agg]
  unfold fnV at HSE
  clear h ho hBW1 hBW2 hbx1 hbx2 hsz1 hsz2 hbx hBW hr hlen hq hth
  go_enter Try.func83, Try.ntmps83
  go_wp2_with fail
  with_reducible refine HSE.out.mono ?_
  rintro e w2 ⟨rfl, hb2⟩
  have HB2 := Lib.hid hb2
  obtain ⟨y0, y1, y2, y3⟩ := pcs_cells (HBX.out.below hb2 HBX.out.lt)
  obtain ⟨t0, t1, t2, t3⟩ := ocs_cells (HBO.out.below hb2 HBO.out.lt)
  simp only at y0 y1 y2 y3 t0 t1 t2 t3
  clear hb2 HSE
  by_cases hlt : q < n
  · have d1 : decide ((q : Int) < (n : Int)) = true := decide_eq_true (by omega)
    have d2 : decide (q < n) = true := decide_eq_true hlt
    have hws : IntKind.i64.wrap (q : Int) = (q : Int) := IntWalk.i64_in _ (by omega)
    obtain ⟨g, o, x, rfl, hg, _, hx, hxi, b0, b1, b2⟩ := (HP.out.r.below HB2.out).at_ hlt
    have HXD : Hid (x.d = ((⟨2, ps, px, some ⟨g, o, none⟩, n, c, l⟩ : PV).es.getD q cz).d) := by
      have h1 : (⟨2, ps, px, some ⟨g, o, none⟩, n, c, l⟩ : PV).es[q]? = some x.e := es_at hx
      rw [getD_at h1]
      exact Lib.hid rfl
    have HEQ := Lib.hid (fun (W : World) (hW : Below w2.heap.size w2 W) => (equal_any x.A oA x.m x.c om oc x.d od W (hxi.b.keep (Fr.of_below hW No) fun _ _ hn => hn) ((HO.out.below HB2.out).b.keep (Fr.of_below hW No) fun _ _ hn => hn)).mono (R' := fun e w' => e = .returned (.bool (seq x.d od)) ∧ Below W.heap.size W w') fun e w' ⟨a, b⟩ => ⟨a, b ▸ Below.refl _ _⟩)
    obtain ⟨sb, hsb⟩ : ∃ sb, sb = seq x.d od := ⟨_, rfl⟩
    rw [← hsb] at HEQ
    have HSB := Lib.hid hsb
    clear hx hxi hsb b0 b1
    go_upto_region 4 with fail
    have z0 := fun d os => cell_regrown y3 d os
    have z1 := fun d os => cell_regrown b2 d os
    have z2 := fun d os => cell_regrown t3 d os
    refine wp_region_quiet_below (by kernel_rfl) (by kernel_rfl) ?_
    repeat (go_big_quiet_step (first | (go_at_call 99; with_reducible exact Calls.regrown_of (HEQ.out _ (below_regrown _ _ _)))))
    refine wpQuiet_nil ?_
    rintro W3 ⟨pp, hpp⟩
    have HB3 := Lib.hid (show Below w2.heap.size w2 W3 by rw [hpp]; exact below_regrown _ _ _)
    clear hpp z0 z1 z2
    go_wp2_with fail
    go_ret2
    refine ⟨?_, HBW.out.trans ((HB2.out.trans (HB3.out.mono HB2.out.size)).mono HBW.out.size)⟩
    rw [d2, Bool.true_and, ← HXD.out, ← HSB.out]
    rfl
  · have d1 : decide ((q : Int) < (n : Int)) = false := decide_eq_false (by omega)
    have d2 : decide (q < n) = false := decide_eq_false hlt
    clear hlt
    go_upto_region 4 with fail
    have z0 := fun d os => cell_regrown y3 d os
    refine wp_region_quiet_below (by kernel_rfl) (by kernel_rfl) ?_
    repeat (go_big_quiet_step (fail))
    refine wpQuiet_nil ?_
    rintro W3 ⟨pp, hpp⟩
    have HB3 := Lib.hid (show Below w2.heap.size w2 W3 by rw [hpp]; exact below_regrown _ _ _)
    clear hpp z0
    go_wp2_with fail
    go_ret2
    refine ⟨?_, HBW.out.trans ((HB2.out.trans (HB3.out.mono HB2.out.size)).mono HBW.out.size)⟩
    rw [d2, Bool.false_and]
    rfl
end Go.Proofs.Ytajmpoanmdgmpaa
