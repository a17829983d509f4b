/-
TG
-/
import Derived.Test.YtdhgbkibbileiaaGreatTE
import Derived.Test.YtdhgbkibbileiaaGreatTF
set_option maxRecDepth 100000
namespace Go.Proofs.YtdhgbkibbileiaaGreat
open Go.RowKit
theorem okE_rows {r : RE} (h : okE r = true) : (r.k ≠ 4 → r.il = []) ∧ (r.k ≠ 8 → r.ll = [] ∧ r.dl = []) := by
 unfold okE fmE at h
 simp only [List.all_cons, List.all_nil, Bool.and_eq_true, Bool.or_eq_true, decide_eq_true_eq, uI, uC] at h
 obtain ⟨_, _, _, _, _, _, h7, h8, h9, _, _⟩ := h
 refine ⟨fun hk => ?_, fun hk => ⟨?_, ?_⟩⟩
 ·exact List.eq_nil_of_length_eq_zero (h7.resolve_left hk)
 ·exact List.eq_nil_of_length_eq_zero (h8.resolve_left hk)
 ·exact List.eq_nil_of_length_eq_zero (h9.resolve_left hk)
theorem bytesE_iff (r : RE) : bytesE r ≠ [] ↔ fitsE r = true ∧ okE r = true ∧ (fieldsE r).length + 3 ≤ 16384 := by
 have e1 : (encE r).length = (fieldsE r).length + 1 := by
  unfold encE fieldsE
  rw [List.length_append, Cd.fixB_len]
  omega
 unfold bytesE
 constructor
 ·intro h
  by_cases hf : (fitsE r && (okE r && decide ((encE r).length + 2 ≤ 16384))) = true
  ·simp only [Bool.and_eq_true, decide_eq_true_eq] at hf
   exact ⟨hf.1, hf.2.1, by omega⟩
  ·rw [if_neg hf] at h
   exact absurd rfl h
 ·rintro ⟨h1, h2, h3⟩
  rw [if_pos (by simp only [Bool.and_eq_true, decide_eq_true_eq]; exact ⟨h1, h2, by omega⟩)]
  intro h
  have := congrArg List.length h
  rw [List.length_append, Cd.fixB_len] at this
  simp at this
theorem fieldsE_le (r : RV) {w : World} {T : Nat → Prop} (h : r.In w T) (hc : Brief r) : (fieldsE r.e).length ≤ 1000000000 := by
 have h1 := encF_le r h hc 10 (by omega)
 rw [fm_e h, List.take_of_length_le (by unfold fmE; simp), List.length_append] at h1
 unfold fieldsE
 omega
set_option maxHeartbeats 8000000 in
theorem dmay_s (w : World) (r : RV) (h : r.In w All) (hc : Brief r) (hk : r.k = 1 ∨ r.k = 5 ∨ r.k = 6 ∨ r.k = 7) : Calls Tryz.prog 14 #[r.agg] w (Tells w (bytesE r.e ≠ [])) := by
 obtain ⟨W, hW, hBW, hbx, hsz⟩ := box_rv w r
 obtain ⟨y0, y1, y2, y3, y4, y5, y6, y7, y8, y9, y10, y11, y12, y13, y14⟩ := rcs_cells hbx
 have hh := h.keep (Fr.of_below hBW No) fun _ _ hn => hn
 have HBW := Lib.hid hBW
 have HBX := Lib.hid hbx
 have HBA := Lib.hid (bare_any W r hh (by omega))
 have HF := Lib.hid (fun W' (hb : Below W.heap.size W W') => rfields_any W' r (hh.keep (Fr.of_below hb No) fun _ _ hn => hn) hc (by omega))
 have hft : fitsE r.e = true ↔ r.t ≠ 0 := by
  unfold fitsE RV.e
  rw [if_neg (by simp only; omega), if_pos (by simp only; omega), decide_eq_true_eq]
 have HIFF := Lib.hid (bytesE_iff r.e)
 have HFT := Lib.hid hft
 obtain ⟨fs, hfs⟩ : ∃ f, f = fieldsE r.e := ⟨_, rfl⟩
 have HLL : Hid (fs.length ≤ 1000000000) := Lib.hid (by rw [hfs]; exact fieldsE_le r h hc)
 rw [← hfs] at HF HIFF
 have HRW : Hid (okE r.e = true → r.im = 0 ∧ r.lm = 0 ∧ r.dm = 0) := Lib.hid (fun ho => by
  obtain ⟨h1, h2⟩ := okE_rows ho
  have h1 := h1 (show r.k ≠ 4 by omega)
  have h2 := h2 (show r.k ≠ 8 by omega)
  have h3 := h.i.1
  have h4 := h.l.1
  have h5 := h.d.1
  have e1 : r.il = [] := by unfold RV.e at h1; exact List.map_eq_nil_iff.1 h1
  have e2 : r.ll = [] := h2.1
  have e3 : r.dl = [] := h2.2
  rw [e1] at h3; rw [e2] at h4; rw [e3] at h5
  exact ⟨h3.symm, h4.symm, h5.symm⟩)
 have p1 : decide (r.k < 1) = false := decide_eq_false (by omega)
 have p8 : decide (r.k > 8) = false := decide_eq_false (by omega)
 have q8 : decide (8 < r.k) = false := decide_eq_false (by omega)
 have c4 : (r.k == 4) = false := beq_false_of_ne (by omega)
 have n4 : (r.k != 4) = true := bne_iff_ne.2 (by omega)
 have n8 : (r.k != 8) = true := bne_iff_ne.2 (by omega)
 have c3 : (r.k == 3) = false := beq_false_of_ne (by omega)
 have c2 : (r.k == 2) = false := beq_false_of_ne (by omega)
 obtain ⟨ok, hok⟩ : ∃ ok, ok = okE r.e := ⟨_, rfl⟩
 obtain ⟨ft, hft⟩ : ∃ ft, ft = fitsE r.e := ⟨_, rfl⟩
 obtain ⟨bb, hbb⟩ : ∃ bb, bb = bytesE r.e := ⟨_, rfl⟩
 rw [← hok] at HBA HRW HIFF
 rw [← hft] at HFT HIFF
 rw [← hbb] at HIFF ⊢
 simp only [rcs] at hW
 unfold RV.agg at HBA HF ⊢
 clear h hh hc hk hBW hbx hsz hfs hok hbb hft
 go_enter Tryz.func14, Tryz.ntmps14
 go_wp2_with fail
 with_reducible refine HBA.out.mono ?_
 unfold Tells
 rintro e w1 ⟨b1, rfl, hiff, hb1⟩
 have HI := Lib.hid hiff
 have HB1 := Lib.hid hb1
 obtain ⟨y0, y1, y2, y3, y4, y5, y6, y7, y8, y9, y10, y11, y12, y13, y14⟩ := rcs_cells (HBX.out.below hb1 HBX.out.lt)
 clear hiff hb1
 cases b1
 ·go_wp2_with fail
  go_ret
  refine ⟨false, rfl, ⟨fun h => absurd h (by decide), fun h => ?_⟩, HBW.out.trans (HB1.out.mono HBW.out.size)⟩
  have := HI.out.2 (HIFF.out.1 h).2.1
  exact absurd this (by decide)
 ·by_cases ht : r.t = 0
  ·have d0 : ((r.t : Int) == 0) = true := by rw [beq_iff_eq]; omega
   have HT := Lib.hid ht
   clear ht
   go_wp2_with fail
   go_ret
   refine ⟨false, rfl, ⟨fun h => absurd h (by decide), fun h => ?_⟩, HBW.out.trans (HB1.out.mono HBW.out.size)⟩
   exact absurd HT.out (HFT.out.1 (HIFF.out.1 h).1)
  ·have d0 : ((r.t : Int) == 0) = false := beq_false_of_ne (by omega)
   have HT := Lib.hid ht
   have HOK := Lib.hid (HI.out.1 rfl)
   have HZ := Lib.hid (HRW.out HOK.out)
   have HCS : Hid (∀ wr, Below W.heap.size W wr → wr.cell? ⟨w.heap.size, 11, none⟩ = some (.slice r.iA 0 r.ic) ∧ wr.cell? ⟨w.heap.size, 12, none⟩ = some (.slice r.lA 0 r.lc) ∧ wr.cell? ⟨w.heap.size, 13, none⟩ = some (.slice r.dA 0 r.dc)) := Lib.hid (fun wr hb => by
    obtain ⟨y0, y1, y2, y3, y4, y5, y6, y7, y8, y9, y10, y11, y12, y13, y14⟩ := rcs_cells (HBX.out.below hb HBX.out.lt)
    rw [HZ.out.1] at y11
    rw [HZ.out.2.1] at y12
    rw [HZ.out.2.2] at y13
    exact ⟨y11, y12, y13⟩)
   clear ht
   rw [HZ.out.1] at y11
   rw [HZ.out.2.1] at y12
   rw [HZ.out.2.2] at y13
   go_wp2_with fail
   go_loopw [5, 6] (fun v i wr => v = .int .u32 0 ∧ i = .int .i64 0 ∧ w1 = wr) (fun _ _ _ => 0)
   case atStart => exact ⟨rfl, rfl, rfl⟩
   case round =>
    obtain ⟨rfl, rfl, rfl⟩ := hrel
    go_wp2_with fail
    go_loopw [5, 8] (fun v i wr => v = .int .u32 0 ∧ i = .int .i64 0 ∧ w1 = wr) (fun _ _ _ => 0)
    case atStart => exact ⟨rfl, rfl, rfl⟩
    case round =>
     obtain ⟨rfl, rfl, rfl⟩ := hrel
     go_wp2_with fail
     go_loopw [5, 9] (fun v i wr => v = .int .u32 0 ∧ i = .int .i64 0 ∧ w1 = wr) (fun _ _ _ => 0)
     case atStart => exact ⟨rfl, rfl, rfl⟩
     case round =>
      obtain ⟨rfl, rfl, rfl⟩ := hrel
      have hf1 := HF.out _ HB1.out
      rw [HZ.out.1, HZ.out.2.1, HZ.out.2.2] at hf1
      have HF1 := Lib.hid hf1
      clear hf1
      go_wp2_with fail
      with_reducible refine HF1.out.mono ?_
      unfold New
      rintro e w2 ⟨v2, rfl, ho2, hb2⟩
      obtain ⟨L, hL⟩ : ∃ L, L = fs.length := ⟨_, rfl⟩
      rw [← hL] at ho2 HIFF
      obtain ⟨A2, c2, rfl, _, _, _⟩ := ho2.reads
      have HB2 := Lib.hid (HB1.out.trans (hb2.mono HB1.out.size))
      have hLL : L ≤ 1000000000 := by rw [hL]; exact HLL.out
      have hWi : IntKind.i64.wrap ((L : Int) + 3) = (L : Int) + 3 := IntWalk.i64_in _ (by omega)
      clear ho2 hb2 hL hLL
      go_wp2_with fail
      go_ret
      refine ⟨_, rfl, ?_, HBW.out.trans (HB2.out.mono HBW.out.size)⟩
      rw [HIFF.out, HFT.out, decide_eq_true_eq]
      exact ⟨fun h => ⟨HT.out, HOK.out, by omega⟩, fun h => by have := h.2.2; omega⟩
end Go.Proofs.YtdhgbkibbileiaaGreat
