/-
STAGE 8: slices.Equal, hasEntry; grow, where there is room.
-/
import Derived.Test.YtcajidlekfkjlaaNT
import Derived.Test.YtcajidlekfkjlaaPH2
namespace Go.Proofs.Ytcajidlekfkjlaa
open Go.RowKit

set_option maxRecDepth 100000 in
theorem take_next {l m : List Nat} {k : Nat} (h : l.take k = m.take k) (h1 : k < l.length) (h2 : k < m.length) (e : l.getD k 0 = m.getD k 0) : l.take (k + 1) = m.take (k + 1) := by
  have e1 : l[k] = l.getD k 0 := by simp [h1]
  have e2 : m[k] = m.getD k 0 := by simp [h2]
  rw [List.take_succ_eq_append_getElem h1, List.take_succ_eq_append_getElem h2, h, e1, e2, e]
set_option maxHeartbeats 2000000 in
set_option maxRecDepth 100000 in
theorem equalN_any {T T' : Nat → Prop} (A B : Option Addr) (n c m cb : Nat) (l k : List Nat) (w : World) (h : NR w T A n l) (h' : NR w T' B m k) (hn : n ≤ 1000000) :
    Calls Try.prog 63 #[.slice A n c, .slice B m cb] w fun e w' => e = .returned (.bool (decide (l = k))) ∧ Below w.heap.size w w' := by
  have hl := h.len
  have hk := h'.len
  by_cases hnm : n = m
  · subst hnm
    have d0 : ((n : Int) != (n : Int)) = false := by simp
    have H1 := Lib.hid h
    have H2 := Lib.hid h'
    have HL := Lib.hid hl
    have HK := Lib.hid hk
    clear h h' hl hk
    go_enter Try.func63, Try.ntmps63
    go_wp2_with fail
    go_loopw [13] (fun i wr => ∃ q : Nat, q ≤ n ∧ i = .int .i64 (q : Int) ∧ l.take q = k.take q ∧ Below w.heap.size w wr) (fun i _ => n - (intOf i).toNat)
    case atStart => exact ⟨0, Nat.zero_le _, rfl, rfl, Below.refl _ _⟩
    case round =>
      obtain ⟨q, hq, rfl, ht, hb⟩ := hrel
      have HT := Lib.hid ht
      have HB := Lib.hid hb
      clear ht
      by_cases hlt : q < n
      · have d9 : decide ((q : Int) < (n : Int)) = true := decide_eq_true (by omega)
        have d9b : decide (q < n) = true := decide_eq_true hlt
        have hws : IntKind.i64.wrap ((q : Int) + 1) = ((q + 1 : Nat) : Int) := by rw [IntWalk.i64_in _ (by omega)]; omega
        have hwq : IntKind.i64.wrap (q : Int) = (q : Int) := IntWalk.i64_in _ (by omega)
        obtain ⟨a1, rfl, _, c1⟩ := (H1.out.move hb.size (fun p hp _ => hb.cell (p := p) hp)).at_ hlt
        obtain ⟨a2, rfl, _, c2⟩ := (H2.out.move hb.size (fun p hp _ => hb.cell (p := p) hp)).at_ hlt
        obtain ⟨x, hx⟩ : ∃ x, x = l.getD q 0 := ⟨_, rfl⟩
        obtain ⟨y, hy⟩ : ∃ y, y = k.getD q 0 := ⟨_, rfl⟩
        rw [← hx] at c1
        rw [← hy] at c2
        have hql : ((q : Int) < (n : Int)) := by omega
        have HLT := Lib.hid hlt
        have HX := Lib.hid hx
        have HY := Lib.hid hy
        by_cases hxy : x = y
        · have d1 : ((x : Int) != (y : Int)) = false := by rw [hxy]; simp
          have HXY := Lib.hid hxy
          clear hxy hx hy hb
          go_wp2_with fail
          go_quiet (fail)
          go_wp2_with fail
          go_roundw
          case rel => exact ⟨q + 1, by have := HLT.out; omega, by go_num, take_next HT.out (by have := HL.out; have := HLT.out; omega) (by have := HK.out; have := HLT.out; omega) (by rw [← HX.out, ← HY.out, HXY.out]), ⟨HB.out.os, HB.out.tape, HB.out.output, HB.out.size, HB.out.block⟩⟩
          case measure => simp [intOf]; have := HLT.out; omega
        · have d1 : ((x : Int) != (y : Int)) = true := bne_iff_ne.2 (by omega)
          have HXY := Lib.hid hxy
          clear hxy hx hy hb
          go_wp2_with fail
          go_quiet (fail)
          go_wp2_with fail
          go_ret
          refine ⟨?_, ⟨HB.out.os, HB.out.tape, HB.out.output, HB.out.size, HB.out.block⟩⟩
          rw [decide_eq_false (fun e => HXY.out (by rw [HX.out, HY.out, e]))]
          rfl
      · have HQ := Lib.hid (show q = n by omega)
        have d9 : decide ((q : Int) < (n : Int)) = false := decide_eq_false (by omega)
        have d9b : decide (q < n) = false := decide_eq_false hlt
        clear hb
        go_wp2_with fail
        go_ret
        refine ⟨?_, HB.out⟩
        have ht := HT.out
        rw [List.take_of_length_le (by have := HL.out; have := HQ.out; omega), List.take_of_length_le (by have := HK.out; have := HQ.out; omega)] at ht
        rw [decide_eq_true ht]
        rfl
  · have d0 : ((n : Int) != (m : Int)) = true := bne_iff_ne.2 (by omega)
    have hne : decide (l = k) = false := decide_eq_false (fun e => hnm (by rw [← hl, ← hk, e]))
    rw [hne]
    clear h h' hl hk hnm hne
    go_enter Try.func63, Try.ntmps63
    go_wp2_with fail
    go_ret
    exact ⟨rfl, Below.refl _ _⟩
/-- is a text's cell on a page? -/
def thereP (p : PV) (x : List Nat) : Bool := decide (placeN p x < p.n) && seq (p.es.getD (placeN p x) cz).d x
set_option maxHeartbeats 2000000 in
set_option maxRecDepth 100000 in
theorem hasEntry_any (p : PV) (A : Option Addr) (m c : Nat) (x : List Nat) (w : World) (h : p.In w All All) (hx : RB w All A m x) (he : ∀ y ∈ p.l, eo p.k ≤ y.m) (hri : rise (eo p.k) p.es = true) (hn : p.n ≤ 1000) :
    Calls Try.prog 64 #[p.agg, .slice A m c] w fun e w' => e = .returned (.bool (thereP p x)) ∧ Below w.heap.size w w' := by
  obtain ⟨W, hW, hBW, hbx, hsz⟩ := box_page w p
  obtain ⟨y0, y1, y2, y3⟩ := pcs_cells hbx
  have HPL := Lib.hid (placeOf_any p A m c x W (h.below hBW) (hx.keep (Fr.of_below hBW No) fun _ _ hn => hn) he hri hn)
  have HP := Lib.hid h
  have HX := Lib.hid hx
  have HBX := Lib.hid hbx
  have HBW := Lib.hid hBW
  have HN := Lib.hid hn
  unfold thereP
  obtain ⟨q, hq⟩ : ∃ q, q = placeN p x := ⟨_, rfl⟩
  rw [← hq] at HPL ⊢
  obtain ⟨es, hes⟩ : ∃ es, es = p.es := ⟨_, rfl⟩
  have HES : Hid (es = p.l.map CV.e) := Lib.hid hes
  rw [← hes]
  obtain ⟨r, hr⟩ : ∃ r, r = (decide (q < p.n) && seq (es.getD q cz).d x) := ⟨_, rfl⟩
  rw [← hr]
  have HRR := Lib.hid hr
  obtain ⟨pk, ps, px, pA, pn, pc, pl⟩ := p
  dsimp only at HRR
  simp only at hW y0 y1 y2 y3 hn HPL HN HES
  unfold PV.agg at HPL ⊢
  dsimp only at HPL ⊢
  have HW := Lib.hid hW
  rw [← hW] at y0 y1 y2 y3
  clear h hx hBW hbx hsz hr hri he hq hW hes
  go_enter Try.func64, Try.ntmps64
  go_wp2_with fail
  rw [HW.out]
  refine HPL.out.mono ?_
  rintro e w1 ⟨rfl, hb1⟩
  have b1 := HBX.out.below hb1 HBX.out.lt
  have HB1 := Lib.hid (HBW.out.trans (hb1.mono HBW.out.size))
  clear y0 y1 y2 y3
  obtain ⟨y0, y1, y2, y3⟩ := pcs_cells b1
  dsimp only at y3
  clear hb1 b1 y0 y1 y2
  by_cases hlt : q < pn
  · have d1 : decide ((q : Int) < (pn : Int)) = true := decide_eq_true (by omega)
    have d1b : decide (q < pn) = true := decide_eq_true hlt
    have hwq : IntKind.i64.wrap (q : Int) = (q : Int) := IntWalk.i64_in _ (by omega)
    obtain ⟨g, o, xx, hA, hg, _, hxx, hxi, c0, c1, c2⟩ := (HP.out.r.below HB1.out).at_ hlt
    dsimp only at hA
    subst hA
    have hd : (es.getD q cz).d = xx.d := by rw [HES.out, getD_at (es_at hxx)]; rfl
    have HR2 : Hid (r = seq xx.d x) := Lib.hid (by rw [HRR.out, hd, d1b, Bool.true_and])
    have HEQ := Lib.hid (equal_any xx.A A xx.m xx.c m c xx.d x w1 hxi.b (HX.out.keep (Fr.of_below HB1.out No) fun _ _ hn => hn))
    clear hxx hxi hd
    go_wp2_with fail
    refine HEQ.out.mono ?_
    rintro e w2 ⟨rfl, rfl⟩
    go_wp2_with fail
    go_ret
    exact ⟨by rw [HR2.out]; rfl, HB1.out⟩
  · have d1 : decide ((q : Int) < (pn : Int)) = false := decide_eq_false (by omega)
    have d1b : decide (q < pn) = false := decide_eq_false hlt
    have HR2 : Hid (r = false) := Lib.hid (by rw [HRR.out, d1b, Bool.false_and])
    go_wp2_with fail
    go_ret
    exact ⟨by rw [HR2.out]; rfl, HB1.out⟩
end Go.Proofs.Ytcajidlekfkjlaa
