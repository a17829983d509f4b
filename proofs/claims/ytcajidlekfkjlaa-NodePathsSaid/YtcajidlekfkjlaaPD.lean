/-
THE WALK OF the document's May.
-/
import Derived.Test.YtcajidlekfkjlaaPC
import Derived.Deep.RegionLaw
import Derived.Deep.Cut
import Derived.BigQuiet
import Derived.Lib.QuietBelow
namespace Go.Proofs.Ytcajidlekfkjlaa
open Go.RowKit

set_option maxRecDepth 100000 in
theorem run_geqs (a b : List Nat) : binOp .geq 9 (.string (strOf a)) (.string (strOf b)) = pure (.bool (!ltb a b)) := by
  rw [binOp_string_geq, strOf_toList, strOf_toList]; rfl
attribute [local go_sem high] run_geqs
set_option maxRecDepth 100000 in
theorem rAt_eq (k : Int) (es : List CE) (n q : Nat) (u : Bool) (kk : Nat) (d : List Nat) (m : Nat) (hn : es.length = n) (hx : es.getD q cz = ⟨u, kk, d⟩) (hm : d.length = m) (L : Bool) (hL : ltb (ordr k (es.getD (q - 1) cz)) (ordr k ⟨u, kk, d⟩) = L) :
    rAt k es q = ((if u then decide (1 ≤ m) && decide (m ≤ 180) else decide (m = 0) && decide (kk = 0)) && ((k == 1 || u) && ((!(k == 3) || (decide (5 ≤ m) && decide (kk = 0))) && ((k == 1 || q == 0 || L) && (!(k == 1) || !(q == n - 1) || u))))) := by
  subst hm hn hL
  unfold rAt
  rw [hx]
set_option maxRecDepth 100000 in
theorem cv_eta (x : CV) : CV.e x = ⟨x.u, x.k, x.d⟩ := rfl
set_option maxHeartbeats 20000000 in
set_option maxRecDepth 100000 in
theorem rmay_any (p : PV) (w : World) (h : p.In w All All) (hf : Few p) : Calls Try.prog 53 #[p.agg] w fun e w' => e = .returned (.bool (may p.k p.es)) ∧ Below w.heap.size w w' := by
  rw [← rmay_eq]
  obtain ⟨W, hW, hBW, hbx, hsz⟩ := box_page w p
  obtain ⟨y0, y1, y2, y3⟩ := pcs_cells hbx
  have HP := Lib.hid (h.below hBW)
  have HF := Lib.hid hf
  have HBW := Lib.hid hBW
  have HBX := Lib.hid hbx
  have hln := h.len
  have HLN := Lib.hid hln
  have HSZ := Lib.hid hsz
  obtain ⟨pk, ps, px, A, n, c, l⟩ := p
  simp only at hW y0 y1 y2 y3 hln
  have hn3 : n ≤ 20001 := hf.n
  have HES : Hid ((l.map CV.e).length = n) := hln
  clear h hf hBW hbx hln hsz
  simp only [PV.agg, PV.es]
  by_cases k1 : pk < 1
  · have d1 : decide (pk < 1) = true := decide_eq_true k1
    have HM := Lib.hid (show rmay pk (l.map CV.e) = false by rw [rmay, decide_eq_false (by omega : ¬ 1 ≤ pk)]; rfl)
    clear k1
    go_enter Try.func53, Try.ntmps53
    go_wp2
    go_ret
    exact ⟨by rw [HM.out]; rfl, HBW.out⟩
  · have d1 : decide (pk < 1) = false := decide_eq_false k1
    by_cases k3 : pk > 3
    · have d2 : decide (pk > 3) = true := decide_eq_true k3
      have HM := Lib.hid (show rmay pk (l.map CV.e) = false by rw [rmay, decide_eq_false (by omega : ¬ pk ≤ 3)]; simp)
      clear k1 k3
      go_enter Try.func53, Try.ntmps53
      go_wp2
      go_ret
      exact ⟨by rw [HM.out]; rfl, HBW.out⟩
    · have d2 : decide (pk > 3) = false := decide_eq_false k3
      by_cases h60 : n ≤ 60
      · have d3 : decide ((n : Int) > 60) = false := decide_eq_false (by omega)
        have d4 : decide (60 < n) = false := decide_eq_false (by omega)
        have HM := Lib.hid (show rmay pk (l.map CV.e) = ((List.range n).all (rAt pk (l.map CV.e)) && decide (psz (l.map CV.e) ≤ 512)) by
          rw [rmay, HES.out, decide_eq_true h60, decide_eq_true (by omega : 1 ≤ pk), decide_eq_true (by omega : pk ≤ 3)]; rfl)
        clear h60
        have hk : (pk = 1) ∨ (pk = 2) ∨ (pk = 3) := by omega
        go_enter Try.func53, Try.ntmps53
        go_wp2
        go_loopw [3] (fun i wr => ∃ q : Nat, q ≤ n ∧ i = .int .i64 (q : Int) ∧ (List.range q).all (rAt pk (l.map CV.e)) = true ∧ Below W.heap.size W wr) (fun i _ => n - (intOf i).toNat)
        case atStart => exact ⟨0, by omega, rfl, rfl, Below.refl _ _⟩
        case round =>
          obtain ⟨q, hq, rfl, hall, hbel⟩ := hrel
          have HB := Lib.hid hbel
          have HA := Lib.hid hall
          have hsz := hbel.size
          obtain ⟨y0, y1, y2, y3⟩ := pcs_cells (HBX.out.below hbel (by have := HSZ.out; omega))
          simp only at y0 y1 y2 y3
          clear hbel hall
          by_cases hlt : q < n
          · obtain ⟨g, o, x, rfl, hg, _, hx, hxi, b0, b1, b2⟩ := (HP.out.r.below HB.out).at_ hlt
            have hget := getD_at (es_at hx)
            have hlen := hxi.len
            obtain ⟨u, kk, xA, m, xc, d⟩ := x
            have hat := rAt_eq pk (l.map CV.e) n q u kk d m HES.out hget hlen _ rfl
            have HXI := Lib.hid hxi
            simp only at b0 b1 b2
            have HB2 := Lib.hid (HB.out.alloc hsz (.cells #[.bool u, .int .u32 (kk : Int), .slice xA m xc] 48))
            obtain ⟨W2, hW2⟩ : ∃ W2, W2 = wr.alloc (.cells #[.bool u, .int .u32 (kk : Int), .slice xA m xc] 48) := ⟨_, rfl⟩
            have hbc : Blk W2 wr.heap.size 48 #[.bool u, .int .u32 (kk : Int), .slice xA m xc] := by rw [hW2]; exact Blk.new wr 48 _
            have c0 := hbc.cell 0
            have c1 := hbc.cell 1
            have c2 := hbc.cell 2
            simp only [List.getElem?_toArray, List.getElem?_cons_zero, List.getElem?_cons_succ] at c0 c1 c2
            rw [← hW2] at HB2
            obtain ⟨y0, y1, y2, y3⟩ := pcs_cells (HBX.out.below HB2.out (by have := HSZ.out; omega))
            simp only at y0 y1 y2 y3
            have hWi : IntKind.i64.wrap ((q : Int) + 1) = ((q + 1 : Nat) : Int) := by rw [IntWalk.i64_in _ (by omega)]; omega
            have hin : ((q : Int) < (n : Int)) := by omega
            have HAT := Lib.hid hat
            have HBC := Lib.hid hbc
            have HGG := Lib.hid (show g < W2.heap.size by have := hbc.lt; omega)
            replace hW2 := hW2.symm
            have HX := Lib.hid hx
            clear hx hxi hlen hget hat hbc
            cases u with
            | true =>
              by_cases m1 : 1 ≤ m
              · have x1 : decide ((m : Int) < 1) = false := decide_eq_false (by omega)
                have x1b : decide (m < 1) = false := decide_eq_false (by omega)
                by_cases m2 : m ≤ 180
                · have x2 : decide ((m : Int) > 180) = false := decide_eq_false (by omega)
                  have x2b : decide (180 < m) = false := decide_eq_false (by omega)
                  rcases hk with h1 | h1 | h1
                  · have hk : True := trivial
                    have e1 : (pk == 1) = true := by rw [beq_iff_eq]; exact h1
                    have e1n : (pk != 1) = false := by rw [bne_eq_false_iff_eq]; exact h1
                    have e3 : (pk == 3) = false := beq_false_of_ne (by omega)
                    have hsub : IntKind.i64.wrap ((n : Int) - 1) = ((n - 1 : Nat) : Int) := by rw [IntWalk.i64_in _ (by omega)]; omega
                    obtain ⟨j, hj⟩ : ∃ j, j = n - 1 := ⟨_, rfl⟩
                    rw [← hj] at hsub HAT
                    by_cases hz : q = j
                    · have g1 : ((q : Int) == (j : Int)) = true := by rw [beq_iff_eq]; omega
                      have HST := Lib.hid (all_step HA.out (show rAt pk (l.map CV.e) q = true by rw [HAT.out]; simp [m1, m2, e1, e3]))
                      clear hk
                      clear hj hz m1 m2 h1
                      go_upto_region 12 with fail
                      have z0 := fun d os => cell_regrown y0 d os
                      have z3 := fun d os => cell_regrown y3 d os
                      have v0 := fun d os => cell_regrown c0 d os
                      have v1 := fun d os => cell_regrown c1 d os
                      have v2 := fun d os => cell_regrown c2 d os
                      refine wp_region_quiet_below (by kernel_rfl) (by kernel_rfl) ?_
                      repeat (go_big_quiet_step (fail))
                      refine wpQuiet_nil ?_
                      rintro W3 ⟨pp, hpp⟩
                      have HB3 := Lib.hid (show Below W.heap.size W W3 by rw [hpp]; exact HB2.out.trans ((below_regrown _ _ _).mono HB2.out.size))
                      have Y0 := z0 pp.d pp.os
                      have Y3 := z3 pp.d pp.os
                      have V0 := v0 pp.d pp.os
                      rw [← hpp] at Y0 Y3 V0
                      clear hpp z0 z3 v0 v1 v2
                      go_wp2_with fail
                      go_roundw
                      case rel => exact ⟨q + 1, by omega, by go_num, HST.out, HB3.out⟩
                      case measure => simp [intOf]; omega
                    · have g1 : ((q : Int) == (j : Int)) = false := beq_false_of_ne (by omega)
                      have HST := Lib.hid (all_step HA.out (show rAt pk (l.map CV.e) q = true by rw [HAT.out]; simp [m1, m2, e1, e3]))
                      clear hk
                      clear hj hz m1 m2 h1
                      go_upto_region 12 with fail
                      have z0 := fun d os => cell_regrown y0 d os
                      have z3 := fun d os => cell_regrown y3 d os
                      have v0 := fun d os => cell_regrown c0 d os
                      have v1 := fun d os => cell_regrown c1 d os
                      have v2 := fun d os => cell_regrown c2 d os
                      refine wp_region_quiet_below (by kernel_rfl) (by kernel_rfl) ?_
                      repeat (go_big_quiet_step (fail))
                      refine wpQuiet_nil ?_
                      rintro W3 ⟨pp, hpp⟩
                      have HB3 := Lib.hid (show Below W.heap.size W W3 by rw [hpp]; exact HB2.out.trans ((below_regrown _ _ _).mono HB2.out.size))
                      have Y0 := z0 pp.d pp.os
                      have Y3 := z3 pp.d pp.os
                      have V0 := v0 pp.d pp.os
                      rw [← hpp] at Y0 Y3 V0
                      clear hpp z0 z3 v0 v1 v2
                      go_wp2_with fail
                      go_roundw
                      case rel => exact ⟨q + 1, by omega, by go_num, HST.out, HB3.out⟩
                      case measure => simp [intOf]; omega
                  · have hk : True := trivial
                    have e1 : (pk == 1) = false := beq_false_of_ne (by omega)
                    have e1n : (pk != 1) = true := bne_iff_ne.2 (by omega)
                    have e3 : (pk == 3) = false := beq_false_of_ne (by omega)
                    by_cases q0 : q = 0
                    · have f1 : decide ((q : Int) > 0) = false := decide_eq_false (by omega)
                      have f2 : decide (0 < q) = false := decide_eq_false (by omega)
                      have HST := Lib.hid (all_step HA.out (show rAt pk (l.map CV.e) q = true by rw [HAT.out]; simp [m1, m2, e1, e3, q0]))
                      clear hk
                      clear q0 m1 m2 h1
                      go_upto_region 12 with fail
                      have z0 := fun d os => cell_regrown y0 d os
                      have z3 := fun d os => cell_regrown y3 d os
                      have v0 := fun d os => cell_regrown c0 d os
                      have v1 := fun d os => cell_regrown c1 d os
                      have v2 := fun d os => cell_regrown c2 d os
                      refine wp_region_quiet_below (by kernel_rfl) (by kernel_rfl) ?_
                      repeat (go_big_quiet_step (fail))
                      refine wpQuiet_nil ?_
                      rintro W3 ⟨pp, hpp⟩
                      have HB3 := Lib.hid (show Below W.heap.size W W3 by rw [hpp]; exact HB2.out.trans ((below_regrown _ _ _).mono HB2.out.size))
                      have Y0 := z0 pp.d pp.os
                      have Y3 := z3 pp.d pp.os
                      have V0 := v0 pp.d pp.os
                      rw [← hpp] at Y0 Y3 V0
                      clear hpp z0 z3 v0 v1 v2
                      go_wp2_with fail
                      go_roundw
                      case rel => exact ⟨q + 1, by omega, by go_num, HST.out, HB3.out⟩
                      case measure => simp [intOf]; omega
                    · have f1 : decide ((q : Int) > 0) = true := decide_eq_true (by omega)
                      have f2 : decide (0 < q) = true := decide_eq_true (by omega)
                      obtain ⟨j, hj⟩ : ∃ j, j = q - 1 := ⟨_, rfl⟩
                      obtain ⟨g', o', y, e', hg', _, hy, hyi, a0, a1, a2⟩ := HP.out.r.at_ (show j < n by omega)
                      injection e' with e'
                      injection e' with e1 e2
                      subst e1 e2
                      have hgy := getD_at (es_at hy)
                      obtain ⟨yu, yk, yA, ym, yc, yd⟩ := y
                      have HYI := Lib.hid hyi
                      have HA0 := Lib.hid (show ∀ W', Below W.heap.size W W' → W'.cell? ⟨g, o + j * 3, none⟩ = some (.bool yu) ∧ W'.cell? ⟨g, o + j * 3 + 1, none⟩ = some (.int .u32 (yk : Int)) ∧ W'.cell? ⟨g, o + j * 3 + 2, none⟩ = some (.slice yA ym yc) from fun W' hW' =>
                        ⟨(World.cell?_of_block (hW'.block g hg')).trans a0, (World.cell?_of_block (hW'.block g hg')).trans a1, (World.cell?_of_block (hW'.block g hg')).trans a2⟩)
                      have hsub : IntKind.i64.wrap ((q : Int) - 1) = (j : Int) := by rw [IntWalk.i64_in _ (by omega)]; omega
                      have hjn : j < n := by omega
                      have hjw : IntKind.i64.wrap (j : Int) = (j : Int) := IntWalk.i64_in _ (by omega)
                      have HO1 := Lib.hid (fun W' (hW' : Below W.heap.size W W') => order_any pk ⟨yu, yk, yA, ym, yc, yd⟩ W' (HYI.out.below hW'))
                      have HO2 := Lib.hid (fun W' (hW' : Below W2.heap.size W2 W') => order_any pk ⟨true, kk, xA, m, xc, d⟩ W' ((HXI.out.keep (Fr.of_below (show Below wr.heap.size wr W2 by rw [← hW2]; exact (Below.refl _ _).alloc (Nat.le_refl _) _) No) fun _ _ hn => hn).below hW'))
                      simp only [CV.agg] at HO1 HO2
                      have HLT := Lib.hid (show ltb (ordr pk ((l.map CV.e).getD (q - 1) cz)) (ordr pk ⟨true, kk, d⟩) = ltb (ordr pk (CV.e ⟨yu, yk, yA, ym, yc, yd⟩)) (ordr pk (CV.e ⟨true, kk, xA, m, xc, d⟩)) by rw [← hj, hgy]; rfl)
                      rw [HLT.out] at HAT
                      obtain ⟨oa, hoa⟩ : ∃ oa, oa = ordr pk (CV.e ⟨yu, yk, yA, ym, yc, yd⟩) := ⟨_, rfl⟩
                      obtain ⟨ob, hob⟩ : ∃ ob, ob = ordr pk (CV.e ⟨true, kk, xA, m, xc, d⟩) := ⟨_, rfl⟩
                      rw [← hoa, ← hob] at HAT
                      rw [← hoa] at HO1
                      rw [← hob] at HO2
                      have HQ0 := Lib.hid q0
                      obtain ⟨L, hL⟩ : ∃ L, ltb oa ob = L := ⟨_, rfl⟩
                      rw [hL] at HAT
                      have hge : True := trivial
                      clear hj a0 a1 a2 hgy hy hyi HLT hoa hob hg' q0 hge
                      cases L with
                      | true =>
                        have HST := Lib.hid (all_step HA.out (show rAt pk (l.map CV.e) q = true by rw [HAT.out]; simp [m1, m2, e1, e3]))
                        clear hk m1 m2 h1
                        go_upto_region 12 with fail
                        have z0 := fun d os => cell_regrown y0 d os
                        have z3 := fun d os => cell_regrown y3 d os
                        have v0 := fun d os => cell_regrown c0 d os
                        have v1 := fun d os => cell_regrown c1 d os
                        have v2 := fun d os => cell_regrown c2 d os
                        obtain ⟨a0, a1, a2⟩ := HA0.out W2 HB2.out
                        have r0 := fun d os => cell_regrown a0 d os
                        have r1 := fun d os => cell_regrown a1 d os
                        have r2 := fun d os => cell_regrown a2 d os
                        refine wp_region_quiet_below (by kernel_rfl) (by kernel_rfl) ?_
                        repeat (go_big_quiet_step (first | (go_at_call 73; with_reducible exact Calls.regrown_of (HO1.out _ (HB2.out.trans ((below_regrown _ _ _).mono HB2.out.size)))) | (go_at_call 73; with_reducible exact Calls.regrown_of (HO2.out _ (below_regrown _ _ _)))))
                        refine wpQuiet_nil ?_
                        rintro W3 ⟨pp, hpp⟩
                        have HB3 := Lib.hid (show Below W.heap.size W W3 by rw [hpp]; exact HB2.out.trans ((below_regrown _ _ _).mono HB2.out.size))
                        have Y0 := z0 pp.d pp.os
                        have Y3 := z3 pp.d pp.os
                        have V0 := v0 pp.d pp.os
                        rw [← hpp] at Y0 Y3 V0
                        clear hpp z0 z3 v0 v1 v2 r0 r1 r2 a0 a1 a2
                        go_wp2_with fail
                        go_roundw
                        case rel => exact ⟨q + 1, by omega, by go_num, HST.out, HB3.out⟩
                        case measure => simp [intOf]; omega
                      | false =>
                        have HN := Lib.hid (show rmay pk (l.map CV.e) = false by rw [HM.out, all_stop hlt (f := rAt pk (l.map CV.e)) (by rw [HAT.out]; simp [m1, m2, e1, e3, HQ0.out])]; rfl)
                        clear hk m1 m2 h1
                        go_upto_region 12 with fail
                        have z0 := fun d os => cell_regrown y0 d os
                        have z3 := fun d os => cell_regrown y3 d os
                        have v0 := fun d os => cell_regrown c0 d os
                        have v1 := fun d os => cell_regrown c1 d os
                        have v2 := fun d os => cell_regrown c2 d os
                        obtain ⟨a0, a1, a2⟩ := HA0.out W2 HB2.out
                        have r0 := fun d os => cell_regrown a0 d os
                        have r1 := fun d os => cell_regrown a1 d os
                        have r2 := fun d os => cell_regrown a2 d os
                        refine wp_region_quiet_below (by kernel_rfl) (by kernel_rfl) ?_
                        repeat (go_big_quiet_step (first | (go_at_call 73; with_reducible exact Calls.regrown_of (HO1.out _ (HB2.out.trans ((below_regrown _ _ _).mono HB2.out.size)))) | (go_at_call 73; with_reducible exact Calls.regrown_of (HO2.out _ (below_regrown _ _ _)))))
                        refine wpQuiet_nil ?_
                        rintro W3 ⟨pp, hpp⟩
                        have HB3 := Lib.hid (show Below W.heap.size W W3 by rw [hpp]; exact HB2.out.trans ((below_regrown _ _ _).mono HB2.out.size))
                        have Y0 := z0 pp.d pp.os
                        have Y3 := z3 pp.d pp.os
                        have V0 := v0 pp.d pp.os
                        rw [← hpp] at Y0 Y3 V0
                        clear hpp z0 z3 v0 v1 v2 r0 r1 r2 a0 a1 a2
                        go_wp2_with fail
                        go_ret
                        exact ⟨by rw [HN.out]; rfl, HBW.out.trans (HB3.out.mono HBW.out.size)⟩
                  · have hk : True := trivial
                    have e1 : (pk == 1) = false := beq_false_of_ne (by omega)
                    have e1n : (pk != 1) = true := bne_iff_ne.2 (by omega)
                    have e3 : (pk == 3) = true := by rw [beq_iff_eq]; exact h1
                    by_cases m5 : m < 5
                    · have x5 : decide ((m : Int) < 5) = true := decide_eq_true (by omega)
                      have x5b : decide (m < 5) = true := decide_eq_true m5
                      have HN := Lib.hid (show rmay pk (l.map CV.e) = false by rw [HM.out, all_stop hlt (f := rAt pk (l.map CV.e)) (by rw [HAT.out]; simp [e1, e3, show ¬ 5 ≤ m by omega])]; rfl)
                      clear hk
                      clear m1 m2 m5 h1
                      go_wp2_with fail
                      go_ret
                      exact ⟨by rw [HN.out]; rfl, HBW.out.trans (HB2.out.mono HBW.out.size)⟩
                    · have x5 : decide ((m : Int) < 5) = false := decide_eq_false (by omega)
                      have x5b : decide (m < 5) = false := decide_eq_false m5
                      by_cases kk0 : kk = 0
                      · have k0 : ((kk : Int) == 0) = true := by rw [beq_iff_eq]; omega
                        have k0n : ((kk : Int) != 0) = false := by rw [bne_eq_false_iff_eq]; omega
                        have HK0 := Lib.hid kk0
                        have HM5 := Lib.hid (show 5 ≤ m by omega)
                        by_cases q0 : q = 0
                        · have f1 : decide ((q : Int) > 0) = false := decide_eq_false (by omega)
                          have f2 : decide (0 < q) = false := decide_eq_false (by omega)
                          have HST := Lib.hid (all_step HA.out (show rAt pk (l.map CV.e) q = true by rw [HAT.out]; simp [m1, m2, e1, e3, HK0.out, HM5.out, q0]))
                          clear hk
                          clear q0 m1 m2 h1 kk0 m5
                          go_upto_region 12 with fail
                          have z0 := fun d os => cell_regrown y0 d os
                          have z3 := fun d os => cell_regrown y3 d os
                          have v0 := fun d os => cell_regrown c0 d os
                          have v1 := fun d os => cell_regrown c1 d os
                          have v2 := fun d os => cell_regrown c2 d os
                          refine wp_region_quiet_below (by kernel_rfl) (by kernel_rfl) ?_
                          repeat (go_big_quiet_step (fail))
                          refine wpQuiet_nil ?_
                          rintro W3 ⟨pp, hpp⟩
                          have HB3 := Lib.hid (show Below W.heap.size W W3 by rw [hpp]; exact HB2.out.trans ((below_regrown _ _ _).mono HB2.out.size))
                          have Y0 := z0 pp.d pp.os
                          have Y3 := z3 pp.d pp.os
                          have V0 := v0 pp.d pp.os
                          rw [← hpp] at Y0 Y3 V0
                          clear hpp z0 z3 v0 v1 v2
                          go_wp2_with fail
                          go_roundw
                          case rel => exact ⟨q + 1, by omega, by go_num, HST.out, HB3.out⟩
                          case measure => simp [intOf]; omega
                        · have f1 : decide ((q : Int) > 0) = true := decide_eq_true (by omega)
                          have f2 : decide (0 < q) = true := decide_eq_true (by omega)
                          obtain ⟨j, hj⟩ : ∃ j, j = q - 1 := ⟨_, rfl⟩
                          obtain ⟨g', o', y, e', hg', _, hy, hyi, a0, a1, a2⟩ := HP.out.r.at_ (show j < n by omega)
                          injection e' with e'
                          injection e' with e1 e2
                          subst e1 e2
                          have hgy := getD_at (es_at hy)
                          obtain ⟨yu, yk, yA, ym, yc, yd⟩ := y
                          have HYI := Lib.hid hyi
                          have HA0 := Lib.hid (show ∀ W', Below W.heap.size W W' → W'.cell? ⟨g, o + j * 3, none⟩ = some (.bool yu) ∧ W'.cell? ⟨g, o + j * 3 + 1, none⟩ = some (.int .u32 (yk : Int)) ∧ W'.cell? ⟨g, o + j * 3 + 2, none⟩ = some (.slice yA ym yc) from fun W' hW' =>
                            ⟨(World.cell?_of_block (hW'.block g hg')).trans a0, (World.cell?_of_block (hW'.block g hg')).trans a1, (World.cell?_of_block (hW'.block g hg')).trans a2⟩)
                          have hsub : IntKind.i64.wrap ((q : Int) - 1) = (j : Int) := by rw [IntWalk.i64_in _ (by omega)]; omega
                          have hjn : j < n := by omega
                          have hjw : IntKind.i64.wrap (j : Int) = (j : Int) := IntWalk.i64_in _ (by omega)
                          have HO1 := Lib.hid (fun W' (hW' : Below W.heap.size W W') => order_any pk ⟨yu, yk, yA, ym, yc, yd⟩ W' (HYI.out.below hW'))
                          have HO2 := Lib.hid (fun W' (hW' : Below W2.heap.size W2 W') => order_any pk ⟨true, kk, xA, m, xc, d⟩ W' ((HXI.out.keep (Fr.of_below (show Below wr.heap.size wr W2 by rw [← hW2]; exact (Below.refl _ _).alloc (Nat.le_refl _) _) No) fun _ _ hn => hn).below hW'))
                          simp only [CV.agg] at HO1 HO2
                          have HLT := Lib.hid (show ltb (ordr pk ((l.map CV.e).getD (q - 1) cz)) (ordr pk ⟨true, kk, d⟩) = ltb (ordr pk (CV.e ⟨yu, yk, yA, ym, yc, yd⟩)) (ordr pk (CV.e ⟨true, kk, xA, m, xc, d⟩)) by rw [← hj, hgy]; rfl)
                          rw [HLT.out] at HAT
                          obtain ⟨oa, hoa⟩ : ∃ oa, oa = ordr pk (CV.e ⟨yu, yk, yA, ym, yc, yd⟩) := ⟨_, rfl⟩
                          obtain ⟨ob, hob⟩ : ∃ ob, ob = ordr pk (CV.e ⟨true, kk, xA, m, xc, d⟩) := ⟨_, rfl⟩
                          rw [← hoa, ← hob] at HAT
                          rw [← hoa] at HO1
                          rw [← hob] at HO2
                          have HQ0 := Lib.hid q0
                          obtain ⟨L, hL⟩ : ∃ L, ltb oa ob = L := ⟨_, rfl⟩
                          rw [hL] at HAT
                          have hge : True := trivial
                          clear hj a0 a1 a2 hgy hy hyi HLT hoa hob hg' q0 hge
                          cases L with
                          | true =>
                            have HST := Lib.hid (all_step HA.out (show rAt pk (l.map CV.e) q = true by rw [HAT.out]; simp [m1, m2, e1, e3, HK0.out, HM5.out]))
                            clear hk m1 m2 h1 kk0 m5
                            go_upto_region 12 with fail
                            have z0 := fun d os => cell_regrown y0 d os
                            have z3 := fun d os => cell_regrown y3 d os
                            have v0 := fun d os => cell_regrown c0 d os
                            have v1 := fun d os => cell_regrown c1 d os
                            have v2 := fun d os => cell_regrown c2 d os
                            obtain ⟨a0, a1, a2⟩ := HA0.out W2 HB2.out
                            have r0 := fun d os => cell_regrown a0 d os
                            have r1 := fun d os => cell_regrown a1 d os
                            have r2 := fun d os => cell_regrown a2 d os
                            refine wp_region_quiet_below (by kernel_rfl) (by kernel_rfl) ?_
                            repeat (go_big_quiet_step (first | (go_at_call 73; with_reducible exact Calls.regrown_of (HO1.out _ (HB2.out.trans ((below_regrown _ _ _).mono HB2.out.size)))) | (go_at_call 73; with_reducible exact Calls.regrown_of (HO2.out _ (below_regrown _ _ _)))))
                            refine wpQuiet_nil ?_
                            rintro W3 ⟨pp, hpp⟩
                            have HB3 := Lib.hid (show Below W.heap.size W W3 by rw [hpp]; exact HB2.out.trans ((below_regrown _ _ _).mono HB2.out.size))
                            have Y0 := z0 pp.d pp.os
                            have Y3 := z3 pp.d pp.os
                            have V0 := v0 pp.d pp.os
                            rw [← hpp] at Y0 Y3 V0
                            clear hpp z0 z3 v0 v1 v2 r0 r1 r2 a0 a1 a2
                            go_wp2_with fail
                            go_roundw
                            case rel => exact ⟨q + 1, by omega, by go_num, HST.out, HB3.out⟩
                            case measure => simp [intOf]; omega
                          | false =>
                            have HN := Lib.hid (show rmay pk (l.map CV.e) = false by rw [HM.out, all_stop hlt (f := rAt pk (l.map CV.e)) (by rw [HAT.out]; simp [m1, m2, e1, e3, HK0.out, HM5.out, HQ0.out])]; rfl)
                            clear hk m1 m2 h1 kk0 m5
                            go_upto_region 12 with fail
                            have z0 := fun d os => cell_regrown y0 d os
                            have z3 := fun d os => cell_regrown y3 d os
                            have v0 := fun d os => cell_regrown c0 d os
                            have v1 := fun d os => cell_regrown c1 d os
                            have v2 := fun d os => cell_regrown c2 d os
                            obtain ⟨a0, a1, a2⟩ := HA0.out W2 HB2.out
                            have r0 := fun d os => cell_regrown a0 d os
                            have r1 := fun d os => cell_regrown a1 d os
                            have r2 := fun d os => cell_regrown a2 d os
                            refine wp_region_quiet_below (by kernel_rfl) (by kernel_rfl) ?_
                            repeat (go_big_quiet_step (first | (go_at_call 73; with_reducible exact Calls.regrown_of (HO1.out _ (HB2.out.trans ((below_regrown _ _ _).mono HB2.out.size)))) | (go_at_call 73; with_reducible exact Calls.regrown_of (HO2.out _ (below_regrown _ _ _)))))
                            refine wpQuiet_nil ?_
                            rintro W3 ⟨pp, hpp⟩
                            have HB3 := Lib.hid (show Below W.heap.size W W3 by rw [hpp]; exact HB2.out.trans ((below_regrown _ _ _).mono HB2.out.size))
                            have Y0 := z0 pp.d pp.os
                            have Y3 := z3 pp.d pp.os
                            have V0 := v0 pp.d pp.os
                            rw [← hpp] at Y0 Y3 V0
                            clear hpp z0 z3 v0 v1 v2 r0 r1 r2 a0 a1 a2
                            go_wp2_with fail
                            go_ret
                            exact ⟨by rw [HN.out]; rfl, HBW.out.trans (HB3.out.mono HBW.out.size)⟩
                      · have k0 : ((kk : Int) == 0) = false := beq_false_of_ne (by omega)
                        have k0n : ((kk : Int) != 0) = true := bne_iff_ne.2 (by omega)
                        have HN := Lib.hid (show rmay pk (l.map CV.e) = false by rw [HM.out, all_stop hlt (f := rAt pk (l.map CV.e)) (by rw [HAT.out]; simp [e1, e3, kk0])]; rfl)
                        clear hk
                        clear m1 m2 m5 h1 kk0
                        go_wp2_with fail
                        go_ret
                        exact ⟨by rw [HN.out]; rfl, HBW.out.trans (HB2.out.mono HBW.out.size)⟩
                · have x2 : decide ((m : Int) > 180) = true := decide_eq_true (by omega)
                  have x2b : decide (180 < m) = true := decide_eq_true (by omega)
                  have HN := Lib.hid (show rmay pk (l.map CV.e) = false by rw [HM.out, all_stop hlt (f := rAt pk (l.map CV.e)) (by rw [HAT.out]; simp [m2])]; rfl)
                  clear hk
                  clear m1 m2
                  go_wp2_with fail
                  go_ret
                  exact ⟨by rw [HN.out]; rfl, HBW.out.trans (HB2.out.mono HBW.out.size)⟩
              · have x1 : decide ((m : Int) < 1) = true := decide_eq_true (by omega)
                have x1b : decide (m < 1) = true := decide_eq_true (by omega)
                have HN := Lib.hid (show rmay pk (l.map CV.e) = false by rw [HM.out, all_stop hlt (f := rAt pk (l.map CV.e)) (by rw [HAT.out]; simp [m1])]; rfl)
                clear hk
                clear m1
                go_wp2_with fail
                go_ret
                exact ⟨by rw [HN.out]; rfl, HBW.out.trans (HB2.out.mono HBW.out.size)⟩
            | false =>
              by_cases m0 : m = 0
              · have x0 : decide ((m : Int) > 0) = false := decide_eq_false (by omega)
                have x0b : decide (0 < m) = false := decide_eq_false (by omega)
                by_cases kk0 : kk = 0
                · have k0 : ((kk : Int) == 0) = true := by rw [beq_iff_eq]; omega
                  have k0n : ((kk : Int) != 0) = false := by rw [bne_eq_false_iff_eq]; omega
                  rcases hk with h1 | h1 | h1
                  · have hk : True := trivial
                    have e1 : (pk == 1) = true := by rw [beq_iff_eq]; exact h1
                    have e1n : (pk != 1) = false := by rw [bne_eq_false_iff_eq]; exact h1
                    have e3 : (pk == 3) = false := beq_false_of_ne (by omega)
                    have hsub : IntKind.i64.wrap ((n : Int) - 1) = ((n - 1 : Nat) : Int) := by rw [IntWalk.i64_in _ (by omega)]; omega
                    obtain ⟨j, hj⟩ : ∃ j, j = n - 1 := ⟨_, rfl⟩
                    rw [← hj] at hsub HAT
                    by_cases hz : q = j
                    · have g1 : ((q : Int) == (j : Int)) = true := by rw [beq_iff_eq]; omega
                      have HN := Lib.hid (show rmay pk (l.map CV.e) = false by rw [HM.out, all_stop hlt (f := rAt pk (l.map CV.e)) (by rw [HAT.out]; simp [e1, hz])]; rfl)
                      clear hk
                      clear hj hz m0 kk0 h1
                      go_upto_region 12 with fail
                      have z0 := fun d os => cell_regrown y0 d os
                      have z3 := fun d os => cell_regrown y3 d os
                      have v0 := fun d os => cell_regrown c0 d os
                      have v1 := fun d os => cell_regrown c1 d os
                      have v2 := fun d os => cell_regrown c2 d os
                      refine wp_region_quiet_below (by kernel_rfl) (by kernel_rfl) ?_
                      repeat (go_big_quiet_step (fail))
                      refine wpQuiet_nil ?_
                      rintro W3 ⟨pp, hpp⟩
                      have HB3 := Lib.hid (show Below W.heap.size W W3 by rw [hpp]; exact HB2.out.trans ((below_regrown _ _ _).mono HB2.out.size))
                      have Y0 := z0 pp.d pp.os
                      have Y3 := z3 pp.d pp.os
                      have V0 := v0 pp.d pp.os
                      rw [← hpp] at Y0 Y3 V0
                      clear hpp z0 z3 v0 v1 v2
                      go_wp2_with fail
                      go_ret
                      exact ⟨by rw [HN.out]; rfl, HBW.out.trans (HB3.out.mono HBW.out.size)⟩
                    · have g1 : ((q : Int) == (j : Int)) = false := beq_false_of_ne (by omega)
                      have HST := Lib.hid (all_step HA.out (show rAt pk (l.map CV.e) q = true by rw [HAT.out]; simp [m0, kk0, e1, e3, hz]))
                      clear hk
                      clear hj hz m0 kk0 h1
                      go_upto_region 12 with fail
                      have z0 := fun d os => cell_regrown y0 d os
                      have z3 := fun d os => cell_regrown y3 d os
                      have v0 := fun d os => cell_regrown c0 d os
                      have v1 := fun d os => cell_regrown c1 d os
                      have v2 := fun d os => cell_regrown c2 d os
                      refine wp_region_quiet_below (by kernel_rfl) (by kernel_rfl) ?_
                      repeat (go_big_quiet_step (fail))
                      refine wpQuiet_nil ?_
                      rintro W3 ⟨pp, hpp⟩
                      have HB3 := Lib.hid (show Below W.heap.size W W3 by rw [hpp]; exact HB2.out.trans ((below_regrown _ _ _).mono HB2.out.size))
                      have Y0 := z0 pp.d pp.os
                      have Y3 := z3 pp.d pp.os
                      have V0 := v0 pp.d pp.os
                      rw [← hpp] at Y0 Y3 V0
                      clear hpp z0 z3 v0 v1 v2
                      go_wp2_with fail
                      go_roundw
                      case rel => exact ⟨q + 1, by omega, by go_num, HST.out, HB3.out⟩
                      case measure => simp [intOf]; omega
                  · have hk : True := trivial
                    have e1 : (pk == 1) = false := beq_false_of_ne (by omega)
                    have e1n : (pk != 1) = true := bne_iff_ne.2 (by omega)
                    have e3 : (pk == 3) = false := beq_false_of_ne (by omega)
                    have HN := Lib.hid (show rmay pk (l.map CV.e) = false by rw [HM.out, all_stop hlt (f := rAt pk (l.map CV.e)) (by rw [HAT.out]; simp [e1])]; rfl)
                    clear hk
                    clear m0 kk0 h1
                    go_wp2_with fail
                    go_ret
                    exact ⟨by rw [HN.out]; rfl, HBW.out.trans (HB2.out.mono HBW.out.size)⟩
                  · have hk : True := trivial
                    have e1 : (pk == 1) = false := beq_false_of_ne (by omega)
                    have e1n : (pk != 1) = true := bne_iff_ne.2 (by omega)
                    have e3 : (pk == 3) = true := by rw [beq_iff_eq]; exact h1
                    have HN := Lib.hid (show rmay pk (l.map CV.e) = false by rw [HM.out, all_stop hlt (f := rAt pk (l.map CV.e)) (by rw [HAT.out]; simp [e1])]; rfl)
                    clear hk
                    clear m0 kk0 h1
                    go_wp2_with fail
                    go_ret
                    exact ⟨by rw [HN.out]; rfl, HBW.out.trans (HB2.out.mono HBW.out.size)⟩
                · have k0 : ((kk : Int) == 0) = false := beq_false_of_ne (by omega)
                  have k0n : ((kk : Int) != 0) = true := bne_iff_ne.2 (by omega)
                  have HN := Lib.hid (show rmay pk (l.map CV.e) = false by rw [HM.out, all_stop hlt (f := rAt pk (l.map CV.e)) (by rw [HAT.out]; simp [kk0])]; rfl)
                  clear hk
                  clear m0 kk0
                  go_wp2_with fail
                  go_ret
                  exact ⟨by rw [HN.out]; rfl, HBW.out.trans (HB2.out.mono HBW.out.size)⟩
              · have x0 : decide ((m : Int) > 0) = true := decide_eq_true (by omega)
                have x0b : decide (0 < m) = true := decide_eq_true (by omega)
                have HN := Lib.hid (show rmay pk (l.map CV.e) = false by rw [HM.out, all_stop hlt (f := rAt pk (l.map CV.e)) (by rw [HAT.out]; simp [m0])]; rfl)
                clear hk
                clear m0
                go_wp2_with fail
                go_ret
                exact ⟨by rw [HN.out]; rfl, HBW.out.trans (HB2.out.mono HBW.out.size)⟩
          · have h1d : decide ((q : Int) < (n : Int)) = false := decide_eq_false (by omega)
            have h1d2 : decide (q < n) = false := decide_eq_false hlt
            have HS := Lib.hid (fun W' (hW' : Below W.heap.size W W') => rsize_any ⟨pk, ps, px, A, n, c, l⟩ W' (HP.out.below hW') (fun x hx => Nat.le_trans (HF.out.m x hx) (by omega)) (Nat.le_trans HF.out.n (by omega)))
            have HM2 := Lib.hid (show rmay pk (l.map CV.e) = decide (psz (l.map CV.e) ≤ 512) by rw [HM.out, show n = q by omega, HA.out]; rfl)
            simp only [PV.agg, PV.es] at HS
            obtain ⟨z, hz⟩ : ∃ z, z = psz (l.map CV.e) := ⟨_, rfl⟩
            rw [← hz] at HS HM2
            have d5 : decide ((z : Int) ≤ 512) = decide (z ≤ 512) := by rw [decide_eq_decide]; omega
            clear hz hk
            go_wp2_with fail
            refine (HS.out _ HB.out).mono ?_
            rintro e w1 ⟨rfl, hb2⟩
            have HB3 := Lib.hid (HB.out.trans (hb2.mono hsz))
            clear hb2
            go_wp2_with fail
            go_ret
            exact ⟨by rw [HM2.out, ← d5]; first | rfl | simp, HBW.out.trans (HB3.out.mono HBW.out.size)⟩
      · have d3 : decide ((n : Int) > 60) = true := decide_eq_true (by omega)
        have d4 : decide (60 < n) = true := decide_eq_true (by omega)
        have HM := Lib.hid (show rmay pk (l.map CV.e) = false by rw [rmay, HES.out, decide_eq_false h60]; simp)
        clear h60
        go_enter Try.func53, Try.ntmps53
        go_wp2
        go_ret
        exact ⟨by rw [HM.out]; rfl, HBW.out⟩
end Go.Proofs.Ytcajidlekfkjlaa
