/-
RM
-/
import Derived.Test.YtdhgbkibbileiaaGreatRL
set_option maxRecDepth 100000
namespace Go.Proofs.YtdhgbkibbileiaaGreat
open Go.RowKit
set_option maxHeartbeats 1000000 in
theorem size_r (w : World) (r : RV) (h : r.In w All) (hc : Brief r) : Calls Tryz.prog 15 #[r.agg] w fun e w' => e = .returned (.int .i64 ((bytesR r).length : Int)) ∧ Below w.heap.size w w' := by
 obtain ⟨W, hW, hBW, hbx, hsz⟩ := box_rv w r
 obtain ⟨y0, y1, y2, y3, y4, y5, y6, y7, y8, y9, y10, y11, y12, y13, y14⟩ := rcs_cells hbx
 have HBW := Lib.hid hBW
 have HBO := Lib.hid (bytesOf_any W r (h.keep (Fr.of_below hBW No) fun _ _ hn => hn) hc)
 simp only [rcs] at hW
 unfold RV.agg at HBO ⊢
 clear h hc hBW hbx hsz
 go_enter Tryz.func15, Tryz.ntmps15
 go_wp2_with fail
 with_reducible refine HBO.out.mono ?_
 rintro e w1 ⟨v, rfl, hown, hb1⟩
 obtain ⟨A, c, rfl, _, _, _⟩ := hown.reads
 have HB1 := Lib.hid hb1
 clear hown hb1
 go_wp2_with fail
 go_ret
 exact ⟨rfl, HBW.out.trans (HB1.out.mono HBW.out.size)⟩
def EncR (w : World) (l : List Nat) (e : Ending) (w' : World) : Prop := ∃ v, e = .returned (.tuple #[v, .int .i64 (if l.length = 0 then 5 else 0)]) ∧ Ow w' (fun b => w.heap.size ≤ b) v l.length l ∧ Below w.heap.size w w'
set_option maxHeartbeats 1000000 in
theorem encode_r (w : World) (r : RV) (h : r.In w All) (hc : Brief r) : Calls Tryz.prog 11 #[r.agg] w (EncR w (bytesR r)) := by
 obtain ⟨W, hW, hBW, hbx, hsz⟩ := box_rv w r
 obtain ⟨y0, y1, y2, y3, y4, y5, y6, y7, y8, y9, y10, y11, y12, y13, y14⟩ := rcs_cells hbx
 have HBW := Lib.hid hBW
 have HBO := Lib.hid (bytesOf_any W r (h.keep (Fr.of_below hBW No) fun _ _ hn => hn) hc)
 simp only [rcs] at hW
 unfold RV.agg at HBO ⊢
 clear h hc hBW hbx hsz
 obtain ⟨l, hl⟩ : ∃ l, l = bytesR r := ⟨_, rfl⟩
 rw [← hl] at HBO ⊢
 obtain ⟨L, hL⟩ : ∃ L, L = l.length := ⟨_, rfl⟩
 have HLL := Lib.hid hL
 clear hl hL
 go_enter Tryz.func11, Tryz.ntmps11
 go_wp2_with fail
 with_reducible refine HBO.out.mono ?_
 rintro e w1 ⟨v, rfl, hown, hb1⟩
 rw [← HLL.out] at hown
 have HO := Lib.hid hown
 obtain ⟨A, c, rfl, _, _, _⟩ := hown.reads
 have HB1 := Lib.hid hb1
 clear hown hb1
 by_cases h0 : L = 0
 ·have d0 : ((L : Int) == 0) = true := by rw [beq_iff_eq]; omega
  have H0 := Lib.hid h0
  clear h0
  go_wp2_with fail
  go_ret2
  have hnil : l = [] := List.eq_nil_of_length_eq_zero (by rw [← HLL.out]; exact H0.out)
  refine ⟨.slice none 0 0, by rw [hnil]; rfl, ?_, HBW.out.trans (HB1.out.mono HBW.out.size)⟩
  rw [hnil]
  exact Ow.nil_ _ _
 ·have d0 : ((L : Int) == 0) = false := beq_false_of_ne (by omega)
  have H0 := Lib.hid h0
  clear h0
  go_wp2_with fail
  go_ret2
  refine ⟨.slice A L c, by rw [← HLL.out, if_neg H0.out]; rfl, ?_, HBW.out.trans (HB1.out.mono HBW.out.size)⟩
  rw [← HLL.out]
  exact HO.out.mono fun b _ hb => Nat.le_trans HBW.out.size hb
end Go.Proofs.YtdhgbkibbileiaaGreat
