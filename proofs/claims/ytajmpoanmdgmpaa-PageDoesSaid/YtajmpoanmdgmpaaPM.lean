/-
  THE WALK OF Encode.
-/
import Derived.Test.YtajmpoanmdgmpaaPL
namespace Go.Proofs.Ytajmpoanmdgmpaa
open Go.RowKit

set_option maxRecDepth 100000 in
theorem encode_no (p : PV) (w : World) (h : p.In w All All) (hf : Few p) (hm : may p.k p.es = false) : Calls Try.prog 23 #[p.agg] w fun e w' => e = .returned (.tuple #[.slice none 0 0, .int .i64 5]) ∧ Below w.heap.size w w' := by
  obtain ⟨W, hW, hBW, hbx, hsz⟩ := box_page w p
  obtain ⟨y0, y1, y2, y3⟩ := pcs_cells hbx
  have hmy := may_any p W (h.below hBW) hf
  rw [hm] at hmy
  have HM := Lib.hid hmy
  have HBW := Lib.hid hBW
  obtain ⟨pk, ps, px, A, n, c, l⟩ := p
  simp only at hW y0 y1 y2 y3
  simp only [PV.agg] at HM ⊢
  clear h hf hm hBW hbx hsz hmy
  go_enter Try.func23, Try.ntmps23
  go_wp2_with fail
  refine HM.out.mono ?_
  rintro e w1 ⟨rfl, hb1⟩
  have HB1 := Lib.hid hb1
  clear hb1
  go_wp2_with fail
  go_ret2
  exact ⟨rfl, HBW.out.trans (HB1.out.mono HBW.out.size)⟩
def EncO (w : World) (l : List Nat) (e : Ending) (w' : World) : Prop := ∃ v, e = .returned (.tuple #[v, .int .i64 0]) ∧ Ow w' (fun b => w.heap.size ≤ b) v 512 l ∧ Below w.heap.size w w'
set_option maxHeartbeats 1000000 in
set_option maxRecDepth 100000 in
theorem encode_yes (p : PV) (w : World) (h : p.In w All All) (hf : Few p) (hm : may p.k p.es = true) : Calls Try.prog 23 #[p.agg] w (EncO w (encB p.k.toNat p.s p.x p.es)) := by
  obtain ⟨W, hW, hBW, hbx, hsz⟩ := box_page w p
  obtain ⟨y0, y1, y2, y3⟩ := pcs_cells hbx
  have hmy := may_any p W (h.below hBW) hf
  rw [hm] at hmy
  have HM := Lib.hid hmy
  have HBW := Lib.hid hBW
  have HBX := Lib.hid hbx
  have HSZ := Lib.hid hsz
  have HWP := Lib.hid (fun W' (hW' : Below W.heap.size W W') => writePage_any p W' ((h.below hBW).below hW') hm)
  obtain ⟨hall, _⟩ := may_parts hm
  have hlb := bodyB_len (k := p.k.toNat) (s := p.s) (x := p.x) hall (may_psz hm).1
  obtain ⟨B, hB⟩ : ∃ B, B = bodyB p.k.toNat p.s p.x p.es := ⟨_, rfl⟩
  have HEB := Lib.hid (show encB p.k.toNat p.s p.x p.es = Cd.fixB 4 (Crc.more 0 B) ++ B by rw [hB]; rfl)
  rw [← hB] at hlb HWP
  obtain ⟨pk, ps, px, A, n, c, l⟩ := p
  simp only at hW y0 y1 y2 y3
  simp only [PV.agg] at HM HWP ⊢
  clear h hf hm hBW hbx hsz hmy hall hB
  go_enter Try.func23, Try.ntmps23
  go_wp2_with fail
  refine HM.out.mono ?_
  rintro e w1 ⟨rfl, hb1⟩
  have HB1 := Lib.hid hb1
  obtain ⟨y0, y1, y2, y3⟩ := pcs_cells (HBX.out.below hb1 (by have := HSZ.out; omega))
  simp only at y0 y1 y2 y3
  clear hb1
  go_wp2_with fail
  refine (HWP.out _ HB1.out).mono ?_
  rintro e w2 ⟨v2, rfl, hown, hb2⟩
  obtain ⟨A2, c2, rfl, hnc2, _, hrb2⟩ := hown.reads
  rw [hlb] at hrb2 hnc2
  rw [hlb]
  have HB2 := Lib.hid (HB1.out.trans (hb2.mono HB1.out.size))
  have HR2 := Lib.hid hrb2
  have HNW := Lib.hid (newWriter_any w2)
  simp only [ptr, Option.map] at HNW
  clear hown hb2 hrb2 hnc2
  go_wp2_with fail
  refine HNW.out.mono ?_
  rintro e w3 ⟨rfl, hwr, hb3⟩
  have hr3 : RB w3 (fun b => b < w2.heap.size) A2 508 B := (HR2.out.mono (T := fun b => b < w2.heap.size) fun b hlt _ => hlt).keep (Fr.of_below hb3 No) fun _ _ hn => hn
  have HR3 := Lib.hid hr3
  have HWR := Lib.hid hwr
  have HB3 := Lib.hid (HB2.out.trans (hb3.mono HB2.out.size))
  have HSO := Lib.hid (sof_any A2 508 c2 B w3 (by simp [maxLen]) (hr3.mono fun _ _ _ => trivial))
  have HU := Lib.hid (wu32_any w3 (fun b => w2.heap.size ≤ b) (some w2.heap.size) true [] (Crc.more 0 B) (by simp) hwr)
  simp only [ptr, Option.map] at HU
  obtain ⟨z, hz⟩ : ∃ z, z = Crc.more 0 B := ⟨_, rfl⟩
  rw [← hz] at HSO HU HEB
  have HW23 := Lib.hid (show w2.heap.size ≤ w3.heap.size from hb3.size)
  clear hwr hb3 hr3 hz
  go_wp2_with fail
  refine HSO.out.mono ?_
  rintro e w' ⟨rfl, rfl⟩
  go_wp2_with fail
  refine HU.out.mono ?_
  rintro e w4 ⟨rfl, hw4⟩
  have hr4 : RB w4 All A2 508 B := (HR3.out.keep hw4.2 fun b hb hs => by omega).mono fun _ _ _ => trivial
  have HU2 := Lib.hid (wraw_any w4 (Up (fun b => w2.heap.size ≤ b) w3) All (some w2.heap.size) true (Cd.fixB 4 z) A2 508 c2 B hr4 (by omega) (by rw [Cd.fixB_len]; omega) hw4.1)
  simp only [ptr, Option.map] at HU2
  have H4 := Lib.hid hw4
  clear hw4 hr4
  go_wp2_with fail
  refine HU2.out.mono ?_
  rintro e w5 ⟨rfl, hw5⟩
  have hl5 : (Cd.fixB 4 z ++ B).length = 512 := by rw [List.length_append, Cd.fixB_len, hlb]
  have HBY := Lib.hid (wbytes_any w5 _ (some w2.heap.size) true (Cd.fixB 4 z ++ B) hw5.1 (by omega))
  simp only [ptr, Option.map] at HBY
  have H5 := Lib.hid hw5
  have HL5 := Lib.hid hl5
  clear hw5 hl5
  go_wp2_with fail
  refine HBY.out.mono ?_
  rintro e w6 ⟨v, rfl, hown, hb6⟩
  have HO := Lib.hid hown
  have HB6 := Lib.hid hb6
  clear hown hb6
  go_wp2_with fail
  go_ret2
  have hb2s : W.heap.size ≤ w2.heap.size := HB2.out.size
  have h34 : Below W.heap.size w3 w4 := H4.out.2.below (fun b hb => by omega) HB3.out.size
  have h45 : Below W.heap.size w4 w5 := H5.out.2.below (fun b hb => hb.elim (fun h => by omega) fun h => by have := HB3.out.size; omega) (by have := HB3.out.size; have := H4.out.2.size; omega)
  have h05 : Below W.heap.size W w5 := (HB3.out.trans h34).trans h45
  refine ⟨v, rfl, ?_, HBW.out.trans ((h05.trans (HB6.out.mono h05.size)).mono HBW.out.size)⟩
  rw [HEB.out]
  have h9 := HO.out
  rw [HL5.out] at h9
  exact h9.mono fun b _ hb => by have := h05.size; have := HBW.out.size; omega
end Go.Proofs.Ytajmpoanmdgmpaa
