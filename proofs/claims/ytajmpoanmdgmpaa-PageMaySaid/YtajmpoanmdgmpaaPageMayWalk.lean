/-
  THE WALK OF PageMay.
-/
import Derived.Test.YtajmpoanmdgmpaaPN
namespace Go.Proofs.Ytajmpoanmdgmpaa.pageMay
open Go.RowKit

set_option maxHeartbeats 4000000 in
set_option maxRecDepth 100000 in
theorem walked (p : PV) (w : World) (h : p.In w All All) : Calls Try.prog 3 #[p.agg] w fun e w' => e = .returned (.bool true) ∧ Below w.heap.size w w' := by
  obtain ⟨W, hW, hBW, hbx, hsz⟩ := box_page w p
  obtain ⟨y0, y1, y2, y3⟩ := pcs_cells hbx
  have HP := Lib.hid (h.below hBW)
  have HBW := Lib.hid hBW
  have HBX := Lib.hid hbx
  have HSZ := Lib.hid hsz
  have HLO := Lib.hid (long_any p W (h.below hBW))
  have HCP := Lib.hid (fun W' (hW' : Below W.heap.size W W') => copyPage_any p W' ((h.below hBW).below hW'))
  have HAL := Lib.hid (fun W' => alive_any W')
  obtain ⟨pk, ps, px, A, n, c, l⟩ := p
  simp only at hW y0 y1 y2 y3
  simp only [PV.agg] at HLO HCP ⊢
  clear h hBW hbx hsz
  go_enter Try.func3, Try.ntmps3
  go_wp2_with fail
  refine HLO.out.mono ?_
  rintro e w1 ⟨b, rfl, hb1, hfew⟩
  have HB1 := Lib.hid hb1
  obtain ⟨y0, y1, y2, y3⟩ := pcs_cells (HBX.out.below hb1 (by have := HSZ.out; omega))
  simp only at y0 y1 y2 y3
  clear hb1
  cases b with
  | true =>
    go_wp2_with fail
    refine (HAL.out _).mono ?_
    rintro e w2 ⟨rfl, hb2⟩
    have HB2 := Lib.hid (HB1.out.trans (hb2.mono HB1.out.size))
    clear hb2
    go_wp2_with fail
    go_ret
    exact ⟨rfl, HBW.out.trans (HB2.out.mono HBW.out.size)⟩
  | false =>
    have HF := Lib.hid (hfew rfl)
    clear hfew
    go_wp2_with fail
    refine (HCP.out _ HB1.out HF.out).mono ?_
    rintro e w2 ⟨q, S, T, rfl, hpo, _, _, hes, hqk, hqs, hqx, hqn, hb2⟩
    have HB2 := Lib.hid (HB1.out.trans (hb2.mono HB1.out.size))
    obtain ⟨W3, hW3, hB3, hbx3, hsz3⟩ := box_page w2 q
    have hB03 : Below W.heap.size W W3 := HB2.out.trans (hB3.mono HB2.out.size)
    have hqi : q.In W3 All All := hpo.In.all.below hB3
    have hqf : Few q := few_of hqi (by rw [hes]; have := HF.out.n; have h9 := HP.out.len; rw [h9]; exact this) (by
      rw [hes]
      intro c hc
      obtain ⟨x, hx, rfl⟩ := List.mem_map.1 hc
      have h1 := HF.out.m x hx
      have h2 := (HP.out.r.2.1 x hx).len
      show x.d.length ≤ 2000
      omega)
    obtain ⟨y0, y1, y2, y3⟩ := pcs_cells (HBX.out.below hB03 (by have := HSZ.out; omega))
    obtain ⟨t0, t1, t2, t3⟩ := pcs_cells hbx3
    simp only at y0 y1 y2 y3
    have hpi : ∀ W', Below W3.heap.size W3 W' → PV.In W' All All ⟨pk, ps, px, A, n, c, l⟩ := fun W' hW' => (HP.out.below hB03).below hW'
    have hm : ∀ x ∈ (⟨pk, ps, px, A, n, c, l⟩ : PV).l, x.m ≤ 9223372036854 := fun x hx => Nat.le_trans (HF.out.m x hx) (by omega)
    have hm2 : ∀ x ∈ q.l, x.m ≤ 9223372036854 := fun x hx => Nat.le_trans (hqf.m x hx) (by omega)
    have H16 := Lib.hid (fun W' (hW' : Below W3.heap.size W3 W') => may_any ⟨pk, ps, px, A, n, c, l⟩ W' (hpi W' hW') HF.out)
    have H17 := Lib.hid (fun W' (hW' : Below W3.heap.size W3 W') => rmay_any q W' (hqi.below hW') hqf)
    have H18 := Lib.hid (fun W' (hW' : Below W3.heap.size W3 W') => size_any ⟨pk, ps, px, A, n, c, l⟩ W' (hpi W' hW') hm (Nat.le_trans HF.out.n (by omega)))
    have H19 := Lib.hid (fun W' (hW' : Below W3.heap.size W3 W') => rsize_any q W' (hqi.below hW') hm2 (Nat.le_trans hqf.n (by omega)))
    have H20 := Lib.hid (fun W' (hW' : Below W3.heap.size W3 W') => room_any ⟨pk, ps, px, A, n, c, l⟩ W' (hpi W' hW') HF.out)
    have H21 := Lib.hid (fun W' (hW' : Below W3.heap.size W3 W') => rroom_any q W' (hqi.below hW') hqf)
    have hsame : sameP ⟨pk, ps, px, A, n, c, l⟩ q = true := by
      unfold sameP
      rw [hqk, hqs, hqx, hes]
      simp
    have H22 := Lib.hid (fun W' (hW' : Below W3.heap.size W3 W') => same_any ⟨pk, ps, px, A, n, c, l⟩ q W' (hpi W' hW') (hqi.below hW'))
    rw [hsame] at H22
    rw [hes, hqk] at H17 H21
    rw [hes] at H19
    obtain ⟨es, hee⟩ : ∃ es, es = (⟨pk, ps, px, A, n, c, l⟩ : PV).es := ⟨_, rfl⟩
    rw [← hee] at H16 H17 H18 H19 H20 H21
    obtain ⟨mb, hmb⟩ : ∃ mb, mb = may pk es := ⟨_, rfl⟩
    obtain ⟨z, hz⟩ : ∃ z, z = psz es := ⟨_, rfl⟩
    obtain ⟨r, hr⟩ : ∃ r, r = room pk es := ⟨_, rfl⟩
    simp only [PV.agg] at H16 H17 H18 H19 H20 H21 H22
    rw [← hmb] at H16 H17
    rw [← hz] at H18 H19
    rw [← hr] at H20 H21
    have H14 := Lib.hid (fun W' (_ : Below W3.heap.size W3 W') => alive_any W')
    have HB03 := Lib.hid hB03
    clear hpo hes hqk hqs hqx hqn hb2 hB3 hbx3 hsz3 hB03 hqi hqf hpi hm hm2 hsame hee hmb hz hr
    go_upto_region 4 with fail
    try rw [hW3]
    have z0 := fun d os => cell_regrown y0 d os
    have z1 := fun d os => cell_regrown y1 d os
    have z2 := fun d os => cell_regrown y2 d os
    have z3 := fun d os => cell_regrown y3 d os
    have v0 := fun d os => cell_regrown t0 d os
    have v1 := fun d os => cell_regrown t1 d os
    have v2 := fun d os => cell_regrown t2 d os
    have v3 := fun d os => cell_regrown t3 d os
    refine wp_region_quiet_below (by kernel_rfl) (by kernel_rfl) ?_
    repeat (go_big_quiet_step (first
      | (go_at_call 16; with_reducible exact Calls.regrown_of (H16.out _ (below_regrown _ _ _)))
      | (go_at_call 17; with_reducible exact Calls.regrown_of (H17.out _ (below_regrown _ _ _)))
      | (go_at_call 18; with_reducible exact Calls.regrown_of (H18.out _ (below_regrown _ _ _)))
      | (go_at_call 19; with_reducible exact Calls.regrown_of (H19.out _ (below_regrown _ _ _)))
      | (go_at_call 20; with_reducible exact Calls.regrown_of (H20.out _ (below_regrown _ _ _)))
      | (go_at_call 21; with_reducible exact Calls.regrown_of (H21.out _ (below_regrown _ _ _)))
      | (go_at_call 22; with_reducible exact Calls.regrown_of (H22.out _ (below_regrown _ _ _)))
      | (go_at_call 14; with_reducible exact Calls.regrown_of (H14.out _ (below_regrown _ _ _)))))
    refine wpQuiet_nil ?_
    rintro W4 ⟨pp, hpp⟩
    have HB4 := Lib.hid (show Below W.heap.size W W4 by rw [hpp]; exact HB03.out.trans ((below_regrown _ _ _).mono HB03.out.size))
    clear hpp z0 z1 z2 z3 v0 v1 v2 v3
    go_wp2_with fail
    go_ret
    exact ⟨by first | rfl | simp, HBW.out.trans (HB4.out.mono HBW.out.size)⟩
end Go.Proofs.Ytajmpoanmdgmpaa.pageMay
