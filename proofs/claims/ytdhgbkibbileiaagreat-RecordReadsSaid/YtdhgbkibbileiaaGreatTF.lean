/-
TF
-/
import Derived.Test.YtdhgbkibbileiaaGreatTD
import Derived.Test.YtdhgbkibbileiaaGreatSD
set_option maxRecDepth 100000
namespace Go.Proofs.YtdhgbkibbileiaaGreat
open Go.RowKit
theorem bytesE_kinds {r : RE} (h : bytesE r ≠ []) : 1 ≤ r.k ∧ r.k ≤ 8 := by
 unfold bytesE at h
 by_cases hf : fitsE r = true
 ·unfold fitsE at hf
  by_cases h1 : r.k = 2 ∨ r.k = 3
  ·omega
  by_cases h2 : r.k = 1 ∨ r.k = 5 ∨ r.k = 6 ∨ r.k = 7
  ·omega
  by_cases h3 : r.k = 4
  ·omega
  by_cases h4 : r.k = 8
  ·omega
  rw [if_neg h1, if_neg h2, if_neg h3, if_neg h4] at hf
  exact absurd hf (by decide)
 ·rw [Bool.not_eq_true] at hf
  rw [hf] at h
  simp at h
theorem bytesE_shape {r : RE} (h : bytesE r ≠ []) : bytesE r = Cd.fixB 2 ((fieldsE r).length + 3) ++ [kb r.k] ++ fieldsE r ∧ (fieldsE r).length + 3 ≤ 16384 := by
 have e1 : Cd.fixB 1 (kb r.k) = [kb r.k] := by
  show [kb r.k % 256] = _
  rw [Nat.mod_eq_of_lt (kb_lt _)]
 have e2 : (encE r).length = (fieldsE r).length + 1 := by
  unfold encE fieldsE
  rw [e1, List.length_append]
  simp only [List.length_cons, List.length_nil]
  omega
 unfold bytesE at h ⊢
 by_cases hf : (fitsE r && (okE r && decide ((encE r).length + 2 ≤ 16384))) = true
 ·rw [if_pos hf]
  simp only [Bool.and_eq_true, decide_eq_true_eq] at hf
  refine ⟨?_, by omega⟩
  rw [show (encE r).length + 2 = (fieldsE r).length + 3 by omega]
  unfold encE fieldsE
  rw [e1]
  simp only [List.append_assoc]
 ·rw [if_neg hf] at h
  exact absurd rfl h
set_option maxHeartbeats 4000000 in
theorem rencode_of (w : World) (r : RV) (h : r.In w All) (hc : Brief r) (hM : ∀ W, r.In W All → Calls Tryz.prog 14 #[r.agg] W (Tells W (bytesE r.e ≠ []))) : Calls Tryz.prog 12 #[r.agg] w (New w (bytesE r.e)) := by
 obtain ⟨W, hW, hBW, hbx, hsz⟩ := box_rv w r
 obtain ⟨y0, y1, y2, y3, y4, y5, y6, y7, y8, y9, y10, y11, y12, y13, y14⟩ := rcs_cells hbx
 have hh := h.keep (Fr.of_below hBW No) fun _ _ hn => hn
 have HBW := Lib.hid hBW
 have HBX := Lib.hid hbx
 have HM := Lib.hid (hM W hh)
 have HF := Lib.hid (fun W' (hb : Below W.heap.size W W') (hk : 1 ≤ r.k ∧ r.k ≤ 8) => rfields_any W' r (hh.keep (Fr.of_below hb No) fun _ _ hn => hn) hc hk)
 obtain ⟨bts, hbts⟩ : ∃ b, b = bytesE r.e := ⟨_, rfl⟩
 obtain ⟨fs, hfs⟩ : ∃ f, f = fieldsE r.e := ⟨_, rfl⟩
 have HK8 : Hid (bts ≠ [] → 1 ≤ r.k ∧ r.k ≤ 8) := Lib.hid (fun hb => bytesE_kinds (by rw [← hbts]; exact hb))
 have HSH : Hid (bts ≠ [] → bts = Cd.fixB 2 (fs.length + 3) ++ [kb r.k] ++ fs ∧ fs.length + 3 ≤ 16384) := Lib.hid (fun hb => by
  have := bytesE_shape (r := r.e) (by rw [← hbts]; exact hb)
  rw [← hbts, ← hfs] at this
  exact this)
 rw [← hbts] at HM ⊢
 rw [← hfs] at HF
 obtain ⟨kk, hkk⟩ : ∃ kk, kk = kb r.k := ⟨_, rfl⟩
 have hwk : IntKind.u8.wrap r.k = (kk : Int) := by rw [hkk]; exact wrap_kb _
 have HKK : Hid (kk < 256) := Lib.hid (by rw [hkk]; exact kb_lt _)
 rw [← hkk] at HSH
 simp only [rcs] at hW
 unfold RV.agg at HM HF ⊢
 clear h hh hc hM hBW hbx hsz hbts hfs hkk
 go_enter Tryz.func12, Tryz.ntmps12
 go_wp2_with fail
 with_reducible refine HM.out.mono ?_
 unfold Tells
 rintro e w1 ⟨b1, rfl, hiff, hb1⟩
 have HI := Lib.hid hiff
 have HB1 := Lib.hid hb1
 obtain ⟨y0, y1, y2, y3, y4, y5, y6, y7, y8, y9, y10, y11, y12, y13, y14⟩ := rcs_cells (HBX.out.below hb1 HBX.out.lt)
 clear hiff hb1
 cases b1
 ·go_wp2_with fail
  go_ret
  have hnil : bts = [] := Classical.byContradiction fun hn => by have := HI.out.2 hn; exact absurd this (by decide)
  rw [hnil]
  exact ⟨_, rfl, Ow.nil_ _ _, HBW.out.trans (HB1.out.mono HBW.out.size)⟩
 ·have hne : Hid (bts ≠ []) := Lib.hid (HI.out.1 rfl)
  have HS2 : Hid (bts = Cd.fixB 2 (fs.length + 3) ++ [kk] ++ fs ∧ fs.length + 3 ≤ 16384) := Lib.hid (HSH.out hne.out)
  have HF1 := Lib.hid (HF.out w1 HB1.out (HK8.out hne.out))
  go_wp2_with fail
  with_reducible refine HF1.out.mono ?_
  unfold New
  rintro e w2 ⟨v2, rfl, ho2, hb2⟩
  obtain ⟨L, hL⟩ : ∃ L, L = fs.length := ⟨_, rfl⟩
  rw [← hL] at ho2 HS2
  have HOF := Lib.hid ho2
  obtain ⟨A2, c2, rfl, _, _, hr2⟩ := ho2.reads
  have HLL := Lib.hid hL
  have HB2 := Lib.hid (HB1.out.trans (hb2.mono HB1.out.size))
  have HB2w := Lib.hid hb2
  obtain ⟨y0, y1, y2, y3, y4, y5, y6, y7, y8, y9, y10, y11, y12, y13, y14⟩ := rcs_cells (HBX.out.below HB2.out HBX.out.lt)
  have HR2 := Lib.hid (show RB w2 (fun b => b < w2.heap.size) A2 L fs from hr2.mono fun _ hb _ => hb)
  clear ho2 hr2 hb2 hL
  have hb3 : L + 3 ≤ 16384 := HS2.out.2
  have hWi : IntKind.i64.wrap ((L : Int) + 3) = (L : Int) + 3 := IntWalk.i64_in _ (by omega)
  have hWu : IntKind.u64.wrap ((L : Int) + 3) = (L : Int) + 3 := by rw [IntKind.wrap_u64]; omega
  have HX := Lib.hid (show Calls Tryz.prog 26 #[.int .u64 ((L : Int) + 3), .int .i64 2] w2 _ from rfixed_any w2 (L + 3) 2 (by omega) (by omega))
  clear hb3
  go_wp2_with fail
  with_reducible refine HX.out.mono ?_
  unfold New
  rintro e w3 ⟨v3, rfl, ho3, hb3⟩
  have HO3 := Lib.hid (show Own w2 w3 v3 _ from ⟨ho3, hb3⟩)
  have HB3 := Lib.hid (HB2.out.trans (hb3.mono HB2.out.size))
  obtain ⟨y0, y1, y2, y3, y4, y5, y6, y7, y8, y9, y10, y11, y12, y13, y14⟩ := rcs_cells (HBX.out.below HB3.out HBX.out.lt)
  have HL3 : Hid ((Cd.fixB 2 (L + 3)).length ≤ 2) := Lib.hid (by rw [Cd.fixB_len]; omega)
  clear ho3 hb3
  have HO3b := Lib.hid (HO3.out.alloc (.cells #[.int .u8 (kk : Int)] 5))
  have HRB3 := Lib.hid (RB.byte w3 kk HKK.out)
  have HLB3 : Hid ((Cd.fixB 2 (L + 3)).length + 1 ≤ 140737488351232) := Lib.hid (by have := HL3.out; omega)
  have HLB4 : Hid ((Cd.fixB 2 (L + 3) ++ [kk]).length + L ≤ 140737488351232) := Lib.hid (by rw [List.length_append]; have := HL3.out; have := HS2.out.2; simp only [List.length_cons, List.length_nil]; omega)
  go_wp2_with (at_builtin; first
   | (refine wpList_app rfl (.tmp 15) (.tmp 19) rfl _ (Cd.fixB 2 (L + 3)).length _ rfl HO3b.out.1 _ (some ⟨w3.heap.size, 0, none⟩) 1 1 [kk] rfl HRB3.out HLB3.out ?_
      intro v4 w4 hown hgrow
      have hst := Own.step HO3b.out hgrow hown
      have HO4 := Lib.hid hst
      have HR4 := Lib.hid (HR2.out.below hst.2 fun _ hb => hb)
      clear hown hgrow hst)
   | (refine wpList_app rfl (.tmp 21) (.tmp 22) rfl _ (Cd.fixB 2 (L + 3) ++ [kk]).length _ rfl HO4.out.1 _ A2 _ c2 fs rfl HR4.out HLB4.out ?_
      intro v5 w5 hown hgrow
      have hst := Own.step HO4.out hgrow hown
      have HO5 := Lib.hid hst
      clear hown hgrow hst))
  go_ret
  refine ⟨_, rfl, ?_, HBW.out.trans ((HB2.out.trans (HO5.out.2.mono HB2.out.size)).mono HBW.out.size)⟩
  rw [HS2.out.1]
  exact HO5.out.1.mono fun b _ hb => Nat.le_trans (Nat.le_trans HBW.out.size HB2.out.size) hb
end Go.Proofs.YtdhgbkibbileiaaGreat
