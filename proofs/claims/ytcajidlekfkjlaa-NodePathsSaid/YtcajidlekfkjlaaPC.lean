/-
THE WALKS OF May, order, the document's May.
-/
import Derived.Test.YtcajidlekfkjlaaPB
import Derived.BigQuiet
import Derived.Lib.QuietBelow
namespace Go.Proofs.Ytcajidlekfkjlaa
open Go.RowKit

/-- a page of which all is gone through -/
structure Few (p : PV) : Prop where
  n : p.n ≤ 20001
  m : ∀ x ∈ p.l, x.m ≤ 20001
/-- the box of a page that came in -/
def pcs (p : PV) : Array Value := #[.int .i64 p.k, .int .u64 (p.s : Int), .int .u32 (p.x : Int), .slice p.A p.n p.c]
set_option maxRecDepth 100000 in
theorem box_page (w : World) (p : PV) : ∃ W, w.alloc (.cells #[.int .i64 p.k, .int .u64 (p.s : Int), .int .u32 (p.x : Int), .slice p.A p.n p.c] 51) = W ∧ Below w.heap.size w W ∧ Blk W w.heap.size 51 (pcs p) ∧ W.heap.size = w.heap.size + 1 :=
  ⟨_, rfl, (Below.refl _ _).alloc (Nat.le_refl _) _, Blk.new w 51 _, by simp⟩
set_option maxRecDepth 100000 in
theorem pcs_cells {w : World} {g : Nat} {p : PV} (h : Blk w g 51 (pcs p)) : w.cell? ⟨g, 0, none⟩ = some (.int .i64 p.k) ∧ w.cell? ⟨g, 1, none⟩ = some (.int .u64 (p.s : Int)) ∧ w.cell? ⟨g, 2, none⟩ = some (.int .u32 (p.x : Int)) ∧ w.cell? ⟨g, 3, none⟩ = some (.slice p.A p.n p.c) := by
  have h0 := h.cell 0
  have h1 := h.cell 1
  have h2 := h.cell 2
  have h3 := h.cell 3
  simp only [pcs, List.getElem?_toArray, List.getElem?_cons_zero, List.getElem?_cons_succ] at h0 h1 h2 h3
  exact ⟨h0, h1, h2, h3⟩
set_option maxRecDepth 100000 in
theorem may_any (p : PV) (w : World) (h : p.In w All All) (hf : Few p) : Calls Try.prog 67 #[p.agg] w fun e w' => e = .returned (.bool (may p.k p.es)) ∧ Below w.heap.size w w' := by
  obtain ⟨W, hW, hBW, hbx, hsz⟩ := box_page w p
  obtain ⟨y0, y1, y2, y3⟩ := pcs_cells hbx
  have HP := Lib.hid (h.below hBW)
  have HF := Lib.hid hf
  have HBW := Lib.hid hBW
  have HBX := Lib.hid hbx
  have hln := h.len
  have HLN := Lib.hid hln
  have HSZ := Lib.hid hsz
  obtain ⟨pk, ps, px, A, n, c, l⟩ := p
  simp only at hW y0 y1 y2 y3 hln
  have hn3 : n ≤ 20001 := hf.n
  clear h hf hBW hbx hln hsz
  by_cases h60 : n ≤ 60
  · have d1 : decide ((n : Int) > 60) = false := decide_eq_false (by omega)
    have d2 : decide (60 < n) = false := decide_eq_false (by omega)
    have HM := Lib.hid (show may pk (l.map CV.e) = ((l.map CV.e).all cmay && (decide (psz (l.map CV.e) ≤ 512) && stand pk (l.map CV.e))) by
      have := HLN.out
      simp only [PV.es] at this
      rw [may, this, decide_eq_true h60, Bool.true_and])
    clear h60
    simp only [PV.agg, PV.es]
    go_enter Try.func67, Try.ntmps67
    go_wp2
    go_loopw [12] (fun i wr => ∃ q : Nat, q ≤ n ∧ i = .int .i64 (q : Int) ∧ ((l.map CV.e).take q).all cmay = true ∧ Below W.heap.size W wr) (fun i _ => n - (intOf i).toNat)
    case atStart => exact ⟨0, by omega, rfl, rfl, Below.refl _ _⟩
    case round =>
      obtain ⟨q, hq, rfl, hall, hbel⟩ := hrel
      have HB := Lib.hid hbel
      have HA := Lib.hid hall
      have hsz := hbel.size
      clear hbel hall
      by_cases hlt : q < n
      · obtain ⟨g, o, x, rfl, hg, _, hx, hxi, b0, b1, b2⟩ := (HP.out.r.below HB.out).at_ hlt
        have hx2 := es_at hx
        have hlen := hxi.len
        obtain ⟨u, kk, xA, m, xc, d⟩ := x
        simp only at b0 b1 b2
        have HB2 := Lib.hid (HB.out.alloc hsz (.cells #[.bool u, .int .u32 (kk : Int), .slice xA m xc] 48))
        have hWi : IntKind.i64.wrap ((q : Int) + 1) = ((q + 1 : Nat) : Int) := by rw [IntWalk.i64_in _ (by omega)]; omega
        have hin : ((q : Int) < (n : Int)) := by omega
        have HX := Lib.hid hx2
        have HC := Lib.hid (fun W' => mayCell_any ⟨u, kk, xA, m, xc, d⟩ W' hlen)
        simp only [CV.agg] at HC
        clear hx hxi hx2 hlen
        obtain ⟨b, hb⟩ : ∃ b, cmay (CV.e ⟨u, kk, xA, m, xc, d⟩) = b := ⟨_, rfl⟩
        rw [hb] at HC
        have HBB := Lib.hid hb
        clear hb
        cases b with
        | true =>
          have HN := Lib.hid (take_all HX.out HA.out HBB.out)
          go_wp2_with (go_at_call 81; refine (HC.out _).mono ?_; rintro e w' ⟨rfl, hb2⟩; have HB3 := Lib.hid (HB2.out.trans (hb2.mono HB2.out.size)); clear hb2)
          go_roundw
          case rel => exact ⟨q + 1, by omega, by go_num, HN.out, HB3.out⟩
          case measure => simp [intOf]; omega
        | false =>
          have HN := Lib.hid (stop_all HX.out HBB.out)
          go_wp2_with (go_at_call 81; refine (HC.out _).mono ?_; rintro e w' ⟨rfl, hb2⟩; have HB3 := Lib.hid (HB2.out.trans (hb2.mono HB2.out.size)); clear hb2)
          go_ret
          exact ⟨by rw [HM.out, HN.out]; rfl, HBW.out.trans (HB3.out.mono HBW.out.size)⟩
      · have h1d : decide ((q : Int) < (n : Int)) = false := decide_eq_false (by omega)
        have h1d2 : decide (q < n) = false := decide_eq_false hlt
        have hA2 : (l.map CV.e).all cmay = true := by
          have := HA.out
          have hl2 := HLN.out
          simp only [PV.es] at hl2
          rwa [List.take_of_length_le (by rw [hl2]; omega)] at this
        have HM2 := Lib.hid (show may pk (l.map CV.e) = (decide (psz (l.map CV.e) ≤ 512) && stand pk (l.map CV.e)) by rw [HM.out, hA2]; rfl)
        have HS := Lib.hid (fun W' (hW' : Below W.heap.size W W') => size_any ⟨pk, ps, px, A, n, c, l⟩ W' (HP.out.below hW') (fun x hx => Nat.le_trans (HF.out.m x hx) (by omega)) (Nat.le_trans HF.out.n (by omega)))
        have HT := Lib.hid (fun W' (hW' : Below W.heap.size W W') => mayStand_any pk A n c l W' (HP.out.r.below hW') (Nat.le_trans HF.out.n (by omega)) (fun x hx hu => by
          have h5 := List.all_eq_true.1 hA2 x.e (List.mem_map_of_mem hx)
          unfold cmay at h5
          rw [show x.e.u = true from hu] at h5
          simp only [if_true, Bool.and_eq_true, decide_eq_true_eq] at h5
          have h6 := (HP.out.r.2.1 x hx).len
          have h7 : 1 ≤ x.d.length := h5.1
          omega))
        simp only [PV.agg, PV.es] at HS
        obtain ⟨z, hz⟩ : ∃ z, z = psz (l.map CV.e) := ⟨_, rfl⟩
        rw [← hz] at HS HM2
        obtain ⟨y0, y1, y2, y3⟩ := pcs_cells (HBX.out.below HB.out (by have := HSZ.out; omega))
        simp only at y0 y1 y2 y3
        clear hA2 hz
        by_cases h512 : z ≤ 512
        · have d3 : decide ((z : Int) ≤ 512) = true := decide_eq_true (by omega)
          have HM3 := Lib.hid (show may pk (l.map CV.e) = stand pk (l.map CV.e) by rw [HM2.out, decide_eq_true h512]; rfl)
          clear h512
          go_wp2_with fail
          refine (HS.out _ HB.out).mono ?_
          rintro e w1 ⟨rfl, hb2⟩
          have HB3 := Lib.hid (HB.out.trans (hb2.mono hsz))
          obtain ⟨y0, y1, y2, y3⟩ := pcs_cells (HBX.out.below HB3.out (by have := HSZ.out; omega))
          simp only at y0 y1 y2 y3
          clear hb2
          go_wp2_with fail
          refine (HT.out _ HB3.out).mono ?_
          rintro e w2 ⟨rfl, hb2⟩
          have HB4 := Lib.hid (HB3.out.trans (hb2.mono HB3.out.size))
          clear hb2
          go_wp2_with fail
          go_ret
          exact ⟨by rw [HM3.out]; rfl, HBW.out.trans (HB4.out.mono HBW.out.size)⟩
        · have d3 : decide ((z : Int) ≤ 512) = false := decide_eq_false (by omega)
          have HM3 := Lib.hid (show may pk (l.map CV.e) = false by rw [HM2.out, decide_eq_false h512]; rfl)
          clear h512
          go_wp2_with fail
          refine (HS.out _ HB.out).mono ?_
          rintro e w1 ⟨rfl, hb2⟩
          have HB3 := Lib.hid (HB.out.trans (hb2.mono hsz))
          clear hb2
          go_wp2_with fail
          go_ret
          exact ⟨by rw [HM3.out]; rfl, HBW.out.trans (HB3.out.mono HBW.out.size)⟩
  · have d1 : decide ((n : Int) > 60) = true := decide_eq_true (by omega)
    have d2 : decide (60 < n) = true := decide_eq_true (by omega)
    have HM := Lib.hid (show may pk (l.map CV.e) = false by
      have := HLN.out
      simp only [PV.es] at this
      rw [may, this, decide_eq_false h60, Bool.false_and])
    clear h60
    simp only [PV.agg, PV.es]
    go_enter Try.func67, Try.ntmps67
    go_wp2
    go_ret
    exact ⟨by rw [HM.out]; rfl, HBW.out⟩

set_option maxRecDepth 100000 in
theorem order_any (k : Int) (x : CV) (w : World) (h : x.In w All) : Calls Try.prog 73 #[.int .i64 k, x.agg] w fun e w' => e = .returned (.string (strOf (ordr k x.e))) ∧ Below w.heap.size w w' := by
  obtain ⟨u, kk, A, m, c, d⟩ := x
  have hlen := h.len
  have hmc := h.mc
  have hml := h.ml
  have HB := Lib.hid h.b
  simp only at hlen hmc hml HB
  have HB0 : Hid (Below w.heap.size w (w.alloc (.cells #[.bool u, .int .u32 (kk : Int), .slice A m c] 48))) := (Below.refl _ _).alloc (Nat.le_refl _) _
  have hcv := run_conv _ A m c d (w.alloc (.cells #[.bool u, .int .u32 (kk : Int), .slice A m c] 48)) (HB.out.alloc _)
  clear h
  simp only [CV.agg]
  by_cases h3 : k = 3
  · have d1 : (k == 3) = true := by rw [beq_iff_eq]; exact h3
    by_cases h4 : 4 ≤ m
    · have d2 : decide ((m : Int) ≥ 4) = true := decide_eq_true (by omega)
      have d3 : decide (4 ≤ m) = true := decide_eq_true h4
      obtain ⟨ad, rfl, _⟩ := HB.out.at_ (k := 0) (by omega)
      obtain ⟨j, hj⟩ : ∃ j, j = m - 4 := ⟨_, rfl⟩
      have hsub : IntKind.i64.wrap ((m : Int) - 4) = (j : Int) := by rw [IntWalk.i64_in _ (by omega)]; omega
      have hjc : j ≤ c := by omega
      have HS := Lib.hid (show ordr k (CV.e ⟨u, kk, some ad, m, c, d⟩) = d.take j by rw [ordr, if_pos h3, if_pos (by show 4 ≤ d.length; omega), ent]; show d.take (d.length - 4) = _; rw [hlen, hj])
      have hcj := run_conv _ (some ad) j c (d.take j) (w.alloc (.cells #[.bool u, .int .u32 (kk : Int), .slice (some ad) m c] 48)) ((HB.out.take (by omega)).alloc _)
      clear h3 h4 hj
      go_enter Try.func73, Try.ntmps73
      go_wp2
      go_ret
      exact ⟨by rw [HS.out]; rfl, HB0.out⟩
    · have d2 : decide ((m : Int) ≥ 4) = false := decide_eq_false (by omega)
      have d3 : decide (4 ≤ m) = false := decide_eq_false h4
      have HS := Lib.hid (show ordr k (CV.e ⟨u, kk, A, m, c, d⟩) = d by rw [ordr, if_pos h3, if_neg (by show ¬ 4 ≤ d.length; omega)]; rfl)
      clear h3 h4
      go_enter Try.func73, Try.ntmps73
      go_wp2
      go_ret
      exact ⟨by rw [HS.out]; rfl, HB0.out⟩
  · have d1 : (k == 3) = false := beq_false_of_ne h3
    have HS := Lib.hid (show ordr k (CV.e ⟨u, kk, A, m, c, d⟩) = d by rw [ordr, if_neg h3]; rfl)
    clear h3
    go_enter Try.func73, Try.ntmps73
    go_wp2
    go_ret
    exact ⟨by rw [HS.out]; rfl, HB0.out⟩
end Go.Proofs.Ytcajidlekfkjlaa
