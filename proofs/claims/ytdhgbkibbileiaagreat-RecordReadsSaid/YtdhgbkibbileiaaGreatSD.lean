/-
SD
-/
import Derived.Test.YtdhgbkibbileiaaGreatSM
import Derived.Test.YtdhgbkibbileiaaGreatPR
import Derived.BigQuiet
import Derived.Lib.QuietBelow
set_option maxRecDepth 100000
namespace Go.Proofs.YtdhgbkibbileiaaGreat
open Go.RowKit
section
attribute [local go_sem high] run_neqL run_eqL
def Tells (w : World) (p : Prop) (e : Ending) (w' : World) : Prop := ∃ b, e = .returned (.bool b) ∧ (b = true ↔ p) ∧ Below w.heap.size w w'
theorem Tells.no {w w' : World} {p : Prop} (h : ¬ p) (hb : Below w.heap.size w w') : Tells w p (.returned (.bool false)) w' := ⟨false, rfl, ⟨(fun h => by cases h), fun h' => absurd h' h⟩, hb⟩
theorem Tells.yes {w w' : World} {p : Prop} (h : p) (hb : Below w.heap.size w w') : Tells w p (.returned (.bool true)) w' := ⟨true, rfl, ⟨fun _ => h, fun _ => rfl⟩, hb⟩
set_option maxHeartbeats 2000000 in
theorem sameOpG (o o' : OV) (w : World) (h : o.In w All) (h' : o'.In w All) : Calls Tryz.prog 30 #[o.agg, o'.agg] w (Tells w (o.n = o'.n)) := by
 obtain ⟨W1, hW1, hBW1, hbx1, hsz1⟩ := box_op w o
 obtain ⟨W, hW, hBW2, hbx2, hsz2⟩ := box_op W1 o'
 have hbx := hbx1.below hBW2 (by omega)
 have hBW : Below w.heap.size w W := hBW1.trans (hBW2.mono hBW1.size)
 obtain ⟨y0, y1, y2, y3⟩ := ocs_cells hbx
 obtain ⟨t0, t1, t2, t3⟩ := ocs_cells hbx2
 have hcv1 := run_conv All o.A o.m o.c o.d W (h.b.keep (Fr.of_below hBW No) fun _ _ hn => hn)
 have hcv2 := run_conv All o'.A o'.m o'.c o'.d W (h'.b.keep (Fr.of_below hBW No) fun _ _ hn => hn)
 have HBW := Lib.hid hBW
 have hsq := seq_iff h.b.2.1 h'.b.2.1
 obtain ⟨k, s, t, A, m, c, d⟩ := o
 obtain ⟨k', s', t', A', m', c', d'⟩ := o'
 unfold OV.n
 simp only at hW1 hW y0 y1 y2 y3 t0 t1 t2 t3 hcv1 hcv2 hsq
 obtain ⟨z, hz⟩ : ∃ z, z = seq d d' := ⟨_, rfl⟩
 have hz' := hz.symm
 rw [hsq] at hz
 have HZ := Lib.hid hz
 simp only [OV.agg]
 clear h h' hBW1 hBW2 hbx1 hbx2 hsz1 hsz2 hbx hBW hz hsq
 by_cases e0 : k = k'
 ·have d0 : (k == k') = true := by rw [beq_iff_eq]; exact e0
  by_cases e1 : s = s'
  ·have d1 : (s == s') = true := by rw [beq_iff_eq]; exact e1
   by_cases e2 : t = t'
   ·have d2 : ((t : Int) == (t' : Int)) = true := by rw [beq_iff_eq]; omega
    have HE := Lib.hid (And.intro e0 (And.intro e1 e2))
    clear e0 e1 e2
    cases z with
    | true =>
      go_enter Tryz.func30, Tryz.ntmps30
      go_wp2
      go_ret
      exact .yes (by rw [HE.out.1, HE.out.2.1, HE.out.2.2, of_decide_eq_true HZ.out.symm]) HBW.out
    | false =>
      go_enter Tryz.func30, Tryz.ntmps30
      go_wp2
      go_ret
      exact .no (fun h => by injection h with _ _ _ h; exact of_decide_eq_false HZ.out.symm h) HBW.out
   ·have d2 : ((t : Int) == (t' : Int)) = false := beq_false_of_ne (by omega)
    have HE := Lib.hid e2
    clear e0 e1 e2
    go_enter Tryz.func30, Tryz.ntmps30
    go_wp2
    go_ret
    exact .no (fun h => by injection h with _ _ h _; exact HE.out h) HBW.out
  ·have d1 : (s == s') = false := beq_false_of_ne e1
   have HE := Lib.hid e1
   clear e0 e1
   go_enter Tryz.func30, Tryz.ntmps30
   go_wp2
   go_ret
   exact .no (fun h => by injection h with _ h _ _; exact HE.out h) HBW.out
 ·have d0 : (k == k') = false := beq_false_of_ne e0
  have HE := Lib.hid e0
  clear e0
  go_enter Tryz.func30, Tryz.ntmps30
  go_wp2
  go_ret
  exact .no (fun h => by injection h with h _ _ _; exact HE.out h) HBW.out
end
theorem take_step {α : Type} {l l' : List α} {q : Nat} (h : l.take q = l'.take q) {e : α} (hx : l[q]? = some e) (hx' : l'[q]? = some e) : l.take (q + 1) = l'.take (q + 1) := by
 have key : ∀ (m : List α), m[q]? = some e → m.take (q + 1) = m.take q ++ [e] := fun m hm => by
  have hq : q < m.length := by
   rcases Nat.lt_or_ge q m.length with h' | h'
   ·exact h'
   ·rw [List.getElem?_eq_none h'] at hm; cases hm
  have e' : m[q] = e := by rw [List.getElem?_eq_getElem hq] at hm; injection hm
  rw [List.take_succ_eq_append_getElem hq, e']
 rw [key l hx, key l' hx', h]
theorem sameP_iff (p q : PV) : sameP p q = true ↔ (p.k = q.k ∧ p.s = q.s ∧ p.x = q.x ∧ p.es = q.es) := by
 unfold sameP
 simp only [Bool.and_eq_true, decide_eq_true_eq]
section
theorem run_neq62 (t a b t' a' b' : Nat) (z z' : Bool) (w : World) :
  (binOp .neq 62 (.agg #[.int .u32 (t : Int), .int .u64 (a : Int), .int .u64 (b : Int), .bool z]) (.agg #[.int .u32 (t' : Int), .int .u64 (a' : Int), .int .u64 (b' : Int), .bool z'])).run Tryz.prog w = .ok (.bool (!(((t : Int) == (t' : Int)) && (((a : Int) == (a' : Int)) && (((b : Int) == (b' : Int)) && (z == z')))))) w := by
 go_simp
 by_cases h1 : (t : Int) = t' <;> by_cases h2 : (a : Int) = a' <;> by_cases h3 : (b : Int) = b' <;> by_cases h4 : z = z' <;> simp [h1, h2, h3, h4]
theorem run_neq64 (t a t' a' : Nat) (w : World) :
  (binOp .neq 64 (.agg #[.int .u32 (t : Int), .int .u64 (a : Int)]) (.agg #[.int .u32 (t' : Int), .int .u64 (a' : Int)])).run Tryz.prog w = .ok (.bool (!(((t : Int) == (t' : Int)) && ((a : Int) == (a' : Int))))) w := by
 go_simp
 by_cases h1 : (t : Int) = t' <;> by_cases h2 : (a : Int) = a' <;> simp [h1, h2]
attribute [local go_sem high] run_neq62 run_neq64
set_option maxHeartbeats 8000000 in
theorem same_r (r r' : RV) (w : World) (h : r.In w All) (h' : r'.In w All) : Calls Tryz.prog 16 #[r.agg, r'.agg] w (Tells w (r.e.bare = r'.e.bare)) := by
 obtain ⟨W1, hW1, hBW1, hbx1, hsz1⟩ := box_rv w r
 obtain ⟨W, hW, hBW2, hbx2, hsz2⟩ := box_rv W1 r'
 have hbx := hbx1.below hBW2 (by omega)
 have hBW : Below w.heap.size w W := hBW1.trans (hBW2.mono hBW1.size)
 obtain ⟨y0, y1, y2, y3, y4, y5, y6, y7, y8, y9, y10, y11, y12, y13, y14⟩ := rcs_cells hbx
 obtain ⟨t0, t1, t2, t3, t4, t5, t6, t7, t8, t9, t10, t11, t12, t13, t14⟩ := rcs_cells hbx2
 have hh := h.keep (Fr.of_below hBW No) fun _ _ hn => hn
 have hh' := h'.keep (Fr.of_below hBW No) fun _ _ hn => hn
 have HBW := Lib.hid hBW
 have HBX := Lib.hid hbx
 have HBX2 := Lib.hid hbx2
 have HI := Lib.hid hh.i
 have HI' := Lib.hid hh'.i
 have HL := Lib.hid hh.l
 have HL' := Lib.hid hh'.l
 have HD := Lib.hid hh.d
 have HD' := Lib.hid hh'.d
 have HO := Lib.hid (sameOpG r.o r'.o W hh.o hh'.o)
 have him := hh.i.2.2.1
 have hlm := hh.l.2.2.1
 have hdm := hh.d.2.2.1
 have HSZ : Hid (W.heap.size = w.heap.size + 2 ∧ W1.heap.size = w.heap.size + 1) := Lib.hid (by omega)
 simp only [rcs] at hW1 hW
 unfold RV.agg
 simp only [OV.agg] at HO
 clear h h' hBW1 hBW2 hbx1 hbx2 hsz1 hsz2 hbx hBW hh hh'
 by_cases e_k : r.k = r'.k
 ·have d_k : (r.k != r'.k) = false := by rw [bne_eq_false_iff_eq]; omega
  have f_k : (r.k == r'.k) = true := by rw [beq_iff_eq]; omega
  by_cases e_t : r.t = r'.t
  ·have d_t : ((r.t : Int) != (r'.t : Int)) = false := by rw [bne_eq_false_iff_eq]; omega
   have f_t : ((r.t : Int) == (r'.t : Int)) = true := by rw [beq_iff_eq]; omega
   by_cases e_a : r.a = r'.a
   ·have d_a : ((r.a : Int) != (r'.a : Int)) = false := by rw [bne_eq_false_iff_eq]; omega
    have f_a : ((r.a : Int) == (r'.a : Int)) = true := by rw [beq_iff_eq]; omega
    by_cases e_b : r.b = r'.b
    ·have d_b : ((r.b : Int) != (r'.b : Int)) = false := by rw [bne_eq_false_iff_eq]; omega
     have f_b : ((r.b : Int) == (r'.b : Int)) = true := by rw [beq_iff_eq]; omega
     by_cases e_pg : r.pg = r'.pg
     ·have d_pg : ((r.pg : Int) != (r'.pg : Int)) = false := by rw [bne_eq_false_iff_eq]; omega
      have f_pg : ((r.pg : Int) == (r'.pg : Int)) = true := by rw [beq_iff_eq]; omega
      by_cases e_rt : r.rt = r'.rt
      ·have d_rt : ((r.rt : Int) != (r'.rt : Int)) = false := by rw [bne_eq_false_iff_eq]; omega
       have f_rt : ((r.rt : Int) == (r'.rt : Int)) = true := by rw [beq_iff_eq]; omega
       by_cases e_nx : r.nx = r'.nx
       ·have d_nx : ((r.nx : Int) != (r'.nx : Int)) = false := by rw [bne_eq_false_iff_eq]; omega
        have f_nx : ((r.nx : Int) == (r'.nx : Int)) = true := by rw [beq_iff_eq]; omega
        have HE := Lib.hid (show r.k = r'.k ∧ r.t = r'.t ∧ r.a = r'.a ∧ r.b = r'.b ∧ r.pg = r'.pg ∧ r.rt = r'.rt ∧ r.nx = r'.nx from ⟨e_k, e_t, e_a, e_b, e_pg, e_rt, e_nx⟩)
        clear e_k e_t e_a e_b e_pg e_rt e_nx
        go_enter Tryz.func16, Tryz.ntmps16
        go_wp2_with fail
        with_reducible refine HO.out.mono ?_
        rintro e w2 ⟨ob, rfl, hob, hb2⟩
        have HB2 := Lib.hid hb2
        have HOB := Lib.hid hob
        obtain ⟨y0, y1, y2, y3, y4, y5, y6, y7, y8, y9, y10, y11, y12, y13, y14⟩ := rcs_cells (HBX.out.below hb2 HBX.out.lt)
        obtain ⟨t0, t1, t2, t3, t4, t5, t6, t7, t8, t9, t10, t11, t12, t13, t14⟩ := rcs_cells (HBX2.out.below hb2 HBX2.out.lt)
        clear hob hb2
        cases ob with
        | false =>
          go_wp2_with fail
          go_ret
          exact .no (fun h => by have := HOB.out.2 (congrArg RE.o h); cases this) (HBW.out.trans (HB2.out.mono HBW.out.size))
        | true =>
          by_cases n_im : r.im = r'.im
          ·have d_im : ((r.im : Int) != (r'.im : Int)) = false := by rw [bne_eq_false_iff_eq]; omega
           have f_im : ((r.im : Int) == (r'.im : Int)) = true := by rw [beq_iff_eq]; omega
           by_cases n_lm : r.lm = r'.lm
           ·have d_lm : ((r.lm : Int) != (r'.lm : Int)) = false := by rw [bne_eq_false_iff_eq]; omega
            have f_lm : ((r.lm : Int) == (r'.lm : Int)) = true := by rw [beq_iff_eq]; omega
            by_cases n_dm : r.dm = r'.dm
            ·have d_dm : ((r.dm : Int) != (r'.dm : Int)) = false := by rw [bne_eq_false_iff_eq]; omega
             have f_dm : ((r.dm : Int) == (r'.dm : Int)) = true := by rw [beq_iff_eq]; omega
             have HNS := Lib.hid n_im
             have HNS2 := Lib.hid n_lm
             have HNS3 := Lib.hid n_dm
             clear n_im n_lm n_dm
             go_wp2_with fail
             go_loopw [5] (fun i wr => ∃ q : Nat, q ≤ r.im ∧ i = .int .i64 (q : Int) ∧ (r.il.map IV.e).take q = (r'.il.map IV.e).take q ∧ Below W.heap.size W wr) (fun i _ => r.im - (intOf i).toNat)
             case atStart => exact ⟨0, by omega, rfl, by simp, HB2.out⟩
             case round =>
              obtain ⟨q, hq, rfl, heq, hbel⟩ := hrel
              have HB := Lib.hid hbel
              have HEQ := Lib.hid heq
              obtain ⟨y0, y1, y2, y3, y4, y5, y6, y7, y8, y9, y10, y11, y12, y13, y14⟩ := rcs_cells (HBX.out.below hbel HBX.out.lt)
              obtain ⟨t0, t1, t2, t3, t4, t5, t6, t7, t8, t9, t10, t11, t12, t13, t14⟩ := rcs_cells (HBX2.out.below hbel HBX2.out.lt)
              clear heq hbel
              by_cases hlt : q < r.im
              ·have hlt' : q < r'.im := by have := HNS.out; omega
               have hin : ((q : Int) < (r.im : Int)) := by omega
               have hin2 : ((q : Int) < (r'.im : Int)) := by omega
               have hwk : IntKind.i64.wrap (q : Int) = (q : Int) := IntWalk.i64_in _ (by omega)
               have hWi : IntKind.i64.wrap ((q : Int) + 1) = ((q + 1 : Nat) : Int) := by rw [IntWalk.i64_in _ (by omega)]; omega
               obtain ⟨g, o, x, hA, hg, _, hx, hxi, b0, b1, b2, b3, b4⟩ := (HI.out.keep (Fr.of_below HB.out No) fun _ _ hn => hn).at_ hlt
               obtain ⟨g', o', x', hA', hg', _, hx', hxi', c0, c1, c2, c3, c4⟩ := (HI'.out.keep (Fr.of_below HB.out No) fun _ _ hn => hn).at_ hlt'
               rw [hA] at y11
               rw [hA'] at t11
               have HX := Lib.hid hx
               have HX' := Lib.hid hx'
               have HSP := Lib.hid (fun (wz : World) (hb : Below wr.heap.size wr wz) => same_any x.p x'.p wz ((hxi.p.below hb).all) ((hxi'.p.below hb).all))
               simp only [PV.agg] at HSP
               clear hx hx' hxi hxi' hA hA' hlt hlt'
               have HSZR := Lib.hid (And.intro hg hg')
               by_cases ht : x.t = x'.t
               ·have k0 : ((x.t : Int) != (x'.t : Int)) = false := by rw [bne_eq_false_iff_eq]; omega
                have k1 : ((x.t : Int) == (x'.t : Int)) = true := by rw [beq_iff_eq]; omega
                have HT := Lib.hid ht
                clear ht hg hg'
                go_upto_region 8 with fail
                have z0 := fun d os => cell_regrown y11 d os
                have z1 := fun d os => cell_regrown t11 d os
                have z2 := fun d os => cell_regrown b0 d os
                have z3 := fun d os => cell_regrown b1 d os
                have z4 := fun d os => cell_regrown b2 d os
                have z5 := fun d os => cell_regrown b3 d os
                have z6 := fun d os => cell_regrown b4 d os
                have z7 := fun d os => cell_regrown c0 d os
                have z8 := fun d os => cell_regrown c1 d os
                have z9 := fun d os => cell_regrown c2 d os
                have z10 := fun d os => cell_regrown c3 d os
                have z11 := fun d os => cell_regrown c4 d os
                refine wp_region_quiet_below (by kernel_rfl) (by kernel_rfl) ?_
                repeat (go_big_quiet_step (first | (go_at_call 31; with_reducible exact Calls.regrown_of (HSP.out _ (below_regrown _ _ _)))))
                refine wpQuiet_nil ?_
                rintro W3 ⟨pp, hpp⟩
                have HB3 := Lib.hid (show Below wr.heap.size wr W3 by rw [hpp]; exact below_regrown _ _ _)
                clear hpp z0 z1 z2 z3 z4 z5 z6 z7 z8 z9 z10 z11
                obtain ⟨sp, hsp⟩ : ∃ sp, sp = sameP x.p x'.p := ⟨_, rfl⟩
                rw [← hsp]
                have hiff := sameP_iff x.p x'.p
                rw [← hsp] at hiff
                have HIF := Lib.hid hiff
                clear hsp hiff
                cases sp with
                | true =>
                  go_wp2_with fail
                  go_roundw
                  case rel =>
                   refine ⟨q + 1, by omega, by go_num, ?_, HB.out.trans (HB3.out.mono HB.out.size)⟩
                   obtain ⟨q1, q2, q3, q4⟩ := HIF.out.1 rfl
                   refine take_step HEQ.out (e := x.e) (by rw [List.getElem?_map, HX.out]; rfl) (by rw [List.getElem?_map, HX'.out]; unfold IV.e; simp only [Option.map_some]; rw [HT.out, q1, q2, q3, q4])
                  case measure => simp [intOf]; omega
                | false =>
                  go_wp2_with fail
                  go_ret
                  refine .no (fun h => ?_) (HBW.out.trans ((HB.out.trans (HB3.out.mono HB.out.size)).mono HBW.out.size))
                  have h9 : r.il.map IV.e = r'.il.map IV.e := congrArg RE.il h
                  have h8 : (r.il.map IV.e)[q]? = some x.e := by rw [List.getElem?_map, HX.out]; rfl
                  have h7 : (r'.il.map IV.e)[q]? = some x'.e := by rw [List.getElem?_map, HX'.out]; rfl
                  rw [h9, h7] at h8
                  injection h8 with h8
                  unfold IV.e at h8
                  injection h8 with _ h1 h2 h3 h4
                  have := HIF.out.2 ⟨h1.symm, h2.symm, h3.symm, h4.symm⟩
                  cases this
               ·have k0 : ((x.t : Int) != (x'.t : Int)) = true := bne_iff_ne.2 (by omega)
                have k1 : ((x.t : Int) == (x'.t : Int)) = false := beq_false_of_ne (by omega)
                have HT := Lib.hid ht
                clear ht hg hg'
                go_upto_region 8 with fail
                have z0 := fun d os => cell_regrown y11 d os
                have z1 := fun d os => cell_regrown t11 d os
                have z2 := fun d os => cell_regrown b0 d os
                have z3 := fun d os => cell_regrown b1 d os
                have z4 := fun d os => cell_regrown b2 d os
                have z5 := fun d os => cell_regrown b3 d os
                have z6 := fun d os => cell_regrown b4 d os
                have z7 := fun d os => cell_regrown c0 d os
                have z8 := fun d os => cell_regrown c1 d os
                have z9 := fun d os => cell_regrown c2 d os
                have z10 := fun d os => cell_regrown c3 d os
                have z11 := fun d os => cell_regrown c4 d os
                refine wp_region_quiet_below (by kernel_rfl) (by kernel_rfl) ?_
                repeat (go_big_quiet_step (fail))
                refine wpQuiet_nil ?_
                rintro W3 ⟨pp, hpp⟩
                have HB3 := Lib.hid (show Below wr.heap.size wr W3 by rw [hpp]; exact below_regrown _ _ _)
                clear hpp z0 z1 z2 z3 z4 z5 z6 z7 z8 z9 z10 z11
                go_wp2_with fail
                go_ret
                refine .no (fun h => ?_) (HBW.out.trans ((HB.out.trans (HB3.out.mono HB.out.size)).mono HBW.out.size))
                have h9 : r.il.map IV.e = r'.il.map IV.e := congrArg RE.il h
                have h8 : (r.il.map IV.e)[q]? = some x.e := by rw [List.getElem?_map, HX.out]; rfl
                have h7 : (r'.il.map IV.e)[q]? = some x'.e := by rw [List.getElem?_map, HX'.out]; rfl
                rw [h9, h7] at h8
                injection h8 with h8
                unfold IV.e at h8
                injection h8 with h1 _ _ _ _
                exact HT.out h1.symm
              ·have hd1 : decide ((q : Int) < (r.im : Int)) = false := decide_eq_false (by omega)
               have hd2 : decide (q < r.im) = false := decide_eq_false hlt
               have HQ := Lib.hid (show q = r.im by omega)
               clear hlt hq
               go_wp2_with fail
               have HIE : Hid (r.il.map IV.e = r'.il.map IV.e) := Lib.hid (by
                have hI := HEQ.out
                rw [HQ.out] at hI
                rw [List.take_of_length_le (by rw [List.length_map, HI.out.1]; omega), List.take_of_length_le (by rw [List.length_map, HI'.out.1, HNS.out]; omega)] at hI
                exact hI)
               have HB2x := Lib.hid HB.out
               have HNS := Lib.hid HNS2.out
               clear HEQ HQ HB
               obtain ⟨wo, hwo⟩ : ∃ wo, wo = wr := ⟨_, rfl⟩
               subst hwo
               go_loopw [6] (fun i wr => ∃ q : Nat, q ≤ r.lm ∧ i = .int .i64 (q : Int) ∧ r.ll.take q = r'.ll.take q ∧ Below W.heap.size W wr) (fun i _ => r.lm - (intOf i).toNat)
               case atStart => exact ⟨0, by omega, rfl, by simp, HB2x.out⟩
               case round =>
                obtain ⟨q, hq, rfl, heq, hbel⟩ := hrel
                have HB := Lib.hid hbel
                have HEQ := Lib.hid heq
                obtain ⟨y0, y1, y2, y3, y4, y5, y6, y7, y8, y9, y10, y11, y12, y13, y14⟩ := rcs_cells (HBX.out.below hbel HBX.out.lt)
                obtain ⟨t0, t1, t2, t3, t4, t5, t6, t7, t8, t9, t10, t11, t12, t13, t14⟩ := rcs_cells (HBX2.out.below hbel HBX2.out.lt)
                clear heq hbel
                by_cases hlt : q < r.lm
                ·have hlt' : q < r'.lm := by have := HNS.out; omega
                 have hin : ((q : Int) < (r.lm : Int)) := by omega
                 have hin2 : ((q : Int) < (r'.lm : Int)) := by omega
                 have hwk : IntKind.i64.wrap (q : Int) = (q : Int) := IntWalk.i64_in _ (by omega)
                 have hWi : IntKind.i64.wrap ((q : Int) + 1) = ((q + 1 : Nat) : Int) := by rw [IntWalk.i64_in _ (by omega)]; omega
                 obtain ⟨g, o, x, hA, hg, _, hx, _, b0, b1, b2, b3⟩ := (HL.out.keep (Fr.of_below HB.out No) fun _ _ hn => hn).at_ hlt
                 obtain ⟨g', o', x', hA', hg', _, hx', _, c0, c1, c2, c3⟩ := (HL'.out.keep (Fr.of_below HB.out No) fun _ _ hn => hn).at_ hlt'
                 rw [hA] at y12
                 rw [hA'] at t12
                 have HX := Lib.hid hx
                 have HX' := Lib.hid hx'
                 clear hx hx' hA hA' hlt hlt' hg hg'
                 obtain ⟨sp, hsp⟩ : ∃ sp, sp = (((x.t : Int) == (x'.t : Int)) && (((x.a : Int) == (x'.a : Int)) && (((x.b : Int) == (x'.b : Int)) && ((x.z == x'.z))))) := ⟨_, rfl⟩
                 have hsp' := hsp.symm
                 have hiff : sp = true ↔ x = x' := by
                  rw [hsp]
                  obtain ⟨t, a, b, z⟩ := x
                  obtain ⟨t', a', b', z'⟩ := x'
                  simp only [Bool.and_eq_true, beq_iff_eq, LV.mk.injEq, Int.natCast_inj]
                 have HIF := Lib.hid hiff
                 clear hsp hiff
                 go_upto_region 13 with fail
                 have z0 := fun d os => cell_regrown y12 d os
                 have z1 := fun d os => cell_regrown t12 d os
                 have z2 := fun d os => cell_regrown b0 d os
                 have z3 := fun d os => cell_regrown b1 d os
                 have z4 := fun d os => cell_regrown b2 d os
                 have z5 := fun d os => cell_regrown b3 d os
                 have z6 := fun d os => cell_regrown c0 d os
                 have z7 := fun d os => cell_regrown c1 d os
                 have z8 := fun d os => cell_regrown c2 d os
                 have z9 := fun d os => cell_regrown c3 d os
                 refine wp_region_quiet_below (by kernel_rfl) (by kernel_rfl) ?_
                 repeat (go_big_quiet_step (fail))
                 refine wpQuiet_nil ?_
                 rintro W3 ⟨pp, hpp⟩
                 have HB3 := Lib.hid (show Below wr.heap.size wr W3 by rw [hpp]; exact below_regrown _ _ _)
                 clear hpp z0 z1 z2 z3 z4 z5 z6 z7 z8 z9
                 try rw [hsp']
                 cases sp with
                 | true =>
                   go_wp2_with fail
                   go_roundw
                   case rel =>
                    refine ⟨q + 1, by omega, by go_num, ?_, HB.out.trans (HB3.out.mono HB.out.size)⟩
                    exact take_step HEQ.out HX.out (by rw [HX'.out, HIF.out.1 rfl])
                   case measure => simp [intOf]; omega
                 | false =>
                   go_wp2_with fail
                   go_ret
                   refine .no (fun h => ?_) (HBW.out.trans ((HB.out.trans (HB3.out.mono HB.out.size)).mono HBW.out.size))
                   have h9 : r.ll = r'.ll := congrArg RE.ll h
                   have h8 := HX.out
                   rw [h9, HX'.out] at h8
                   injection h8 with h8
                   have := HIF.out.2 h8.symm
                   cases this
                ·have hd1 : decide ((q : Int) < (r.lm : Int)) = false := decide_eq_false (by omega)
                 have hd2 : decide (q < r.lm) = false := decide_eq_false hlt
                 have HQ := Lib.hid (show q = r.lm by omega)
                 clear hlt hq
                 go_wp2_with fail
                 have HLE : Hid (r.ll = r'.ll) := Lib.hid (by
                  have hL := HEQ.out
                  rw [HQ.out] at hL
                  rw [List.take_of_length_le (by rw [HL.out.1]; omega), List.take_of_length_le (by rw [HL'.out.1, HNS.out]; omega)] at hL
                  exact hL)
                 have HB2x := Lib.hid HB.out
                 have HNS := Lib.hid HNS3.out
                 clear HEQ HQ HB
                 obtain ⟨wo, hwo⟩ : ∃ wo, wo = wr := ⟨_, rfl⟩
                 subst hwo
                 go_loopw [7] (fun i wr => ∃ q : Nat, q ≤ r.dm ∧ i = .int .i64 (q : Int) ∧ r.dl.take q = r'.dl.take q ∧ Below W.heap.size W wr) (fun i _ => r.dm - (intOf i).toNat)
                 case atStart => exact ⟨0, by omega, rfl, by simp, HB2x.out⟩
                 case round =>
                  obtain ⟨q, hq, rfl, heq, hbel⟩ := hrel
                  have HB := Lib.hid hbel
                  have HEQ := Lib.hid heq
                  obtain ⟨y0, y1, y2, y3, y4, y5, y6, y7, y8, y9, y10, y11, y12, y13, y14⟩ := rcs_cells (HBX.out.below hbel HBX.out.lt)
                  obtain ⟨t0, t1, t2, t3, t4, t5, t6, t7, t8, t9, t10, t11, t12, t13, t14⟩ := rcs_cells (HBX2.out.below hbel HBX2.out.lt)
                  clear heq hbel
                  by_cases hlt : q < r.dm
                  ·have hlt' : q < r'.dm := by have := HNS.out; omega
                   have hin : ((q : Int) < (r.dm : Int)) := by omega
                   have hin2 : ((q : Int) < (r'.dm : Int)) := by omega
                   have hwk : IntKind.i64.wrap (q : Int) = (q : Int) := IntWalk.i64_in _ (by omega)
                   have hWi : IntKind.i64.wrap ((q : Int) + 1) = ((q + 1 : Nat) : Int) := by rw [IntWalk.i64_in _ (by omega)]; omega
                   obtain ⟨g, o, x, hA, hg, _, hx, _, b0, b1⟩ := (HD.out.keep (Fr.of_below HB.out No) fun _ _ hn => hn).at_ hlt
                   obtain ⟨g', o', x', hA', hg', _, hx', _, c0, c1⟩ := (HD'.out.keep (Fr.of_below HB.out No) fun _ _ hn => hn).at_ hlt'
                   rw [hA] at y13
                   rw [hA'] at t13
                   have HX := Lib.hid hx
                   have HX' := Lib.hid hx'
                   clear hx hx' hA hA' hlt hlt' hg hg'
                   obtain ⟨sp, hsp⟩ : ∃ sp, sp = (((x.t : Int) == (x'.t : Int)) && (((x.a : Int) == (x'.a : Int)))) := ⟨_, rfl⟩
                   have hsp' := hsp.symm
                   have hiff : sp = true ↔ x = x' := by
                    rw [hsp]
                    obtain ⟨t, a⟩ := x
                    obtain ⟨t', a'⟩ := x'
                    simp only [Bool.and_eq_true, beq_iff_eq, DV.mk.injEq, Int.natCast_inj]
                   have HIF := Lib.hid hiff
                   clear hsp hiff
                   go_upto_region 18 with fail
                   have z0 := fun d os => cell_regrown y13 d os
                   have z1 := fun d os => cell_regrown t13 d os
                   have z2 := fun d os => cell_regrown b0 d os
                   have z3 := fun d os => cell_regrown b1 d os
                   have z4 := fun d os => cell_regrown c0 d os
                   have z5 := fun d os => cell_regrown c1 d os
                   refine wp_region_quiet_below (by kernel_rfl) (by kernel_rfl) ?_
                   repeat (go_big_quiet_step (fail))
                   refine wpQuiet_nil ?_
                   rintro W3 ⟨pp, hpp⟩
                   have HB3 := Lib.hid (show Below wr.heap.size wr W3 by rw [hpp]; exact below_regrown _ _ _)
                   clear hpp z0 z1 z2 z3 z4 z5
                   try rw [hsp']
                   cases sp with
                   | true =>
                     go_wp2_with fail
                     go_roundw
                     case rel =>
                      refine ⟨q + 1, by omega, by go_num, ?_, HB.out.trans (HB3.out.mono HB.out.size)⟩
                      exact take_step HEQ.out HX.out (by rw [HX'.out, HIF.out.1 rfl])
                     case measure => simp [intOf]; omega
                   | false =>
                     go_wp2_with fail
                     go_ret
                     refine .no (fun h => ?_) (HBW.out.trans ((HB.out.trans (HB3.out.mono HB.out.size)).mono HBW.out.size))
                     have h9 : r.dl = r'.dl := congrArg RE.dl h
                     have h8 := HX.out
                     rw [h9, HX'.out] at h8
                     injection h8 with h8
                     have := HIF.out.2 h8.symm
                     cases this
                  ·have hd1 : decide ((q : Int) < (r.dm : Int)) = false := decide_eq_false (by omega)
                   have hd2 : decide (q < r.dm) = false := decide_eq_false hlt
                   have HQ := Lib.hid (show q = r.dm by omega)
                   clear hlt hq
                   go_wp2_with fail
                   go_ret
                   refine .yes ?_ (HBW.out.trans (HB.out.mono HBW.out.size))
                   have hI := HIE.out
                   have hL := HLE.out
                   have hD := HEQ.out
                   rw [HQ.out] at hD
                   have hD2 : r.dl = r'.dl := by
                    rw [List.take_of_length_le (by rw [HD.out.1]; omega), List.take_of_length_le (by rw [HD'.out.1, HNS.out]; omega)] at hD
                    exact hD
                   unfold RE.bare RV.e
                   simp only [RE.mk.injEq]
                   obtain ⟨g1, g2, g3, g4, g5, g6, g7⟩ := HE.out
                   exact ⟨g1, trivial, g2, g3, g4, g5, g6, HOB.out.1 (by first | rfl | trivial), hI, hL, hD2, g7⟩
            ·have d_dm : ((r.dm : Int) != (r'.dm : Int)) = true := bne_iff_ne.2 (by omega)
             have f_dm : ((r.dm : Int) == (r'.dm : Int)) = false := beq_false_of_ne (by omega)
             have HN := Lib.hid n_dm
             clear n_im n_lm n_dm
             go_wp2_with fail
             go_ret
             exact .no (fun h => by have := congrArg (fun x => (RE.dl x).length) h; simp only [RE.bare, RV.e] at this; exact HN.out (by rw [← HD.out.1, ← HD'.out.1]; exact this)) (HBW.out.trans (HB2.out.mono HBW.out.size))
           ·have d_lm : ((r.lm : Int) != (r'.lm : Int)) = true := bne_iff_ne.2 (by omega)
            have f_lm : ((r.lm : Int) == (r'.lm : Int)) = false := beq_false_of_ne (by omega)
            have HN := Lib.hid n_lm
            clear n_im n_lm
            go_wp2_with fail
            go_ret
            exact .no (fun h => by have := congrArg (fun x => (RE.ll x).length) h; simp only [RE.bare, RV.e] at this; exact HN.out (by rw [← HL.out.1, ← HL'.out.1]; exact this)) (HBW.out.trans (HB2.out.mono HBW.out.size))
          ·have d_im : ((r.im : Int) != (r'.im : Int)) = true := bne_iff_ne.2 (by omega)
           have f_im : ((r.im : Int) == (r'.im : Int)) = false := beq_false_of_ne (by omega)
           have HN := Lib.hid n_im
           clear n_im
           go_wp2_with fail
           go_ret
           exact .no (fun h => by have := congrArg (fun x => (RE.il x).length) h; simp only [RE.bare, RV.e, List.length_map] at this; exact HN.out (by rw [← HI.out.1, ← HI'.out.1]; exact this)) (HBW.out.trans (HB2.out.mono HBW.out.size))
       ·have d_nx : ((r.nx : Int) != (r'.nx : Int)) = true := bne_iff_ne.2 (by omega)
        have f_nx : ((r.nx : Int) == (r'.nx : Int)) = false := beq_false_of_ne (by omega)
        have HE := Lib.hid e_nx
        clear e_k e_t e_a e_b e_pg e_rt e_nx
        go_enter Tryz.func16, Tryz.ntmps16
        go_wp2_with fail
        go_ret
        exact .no (fun h => HE.out (congrArg RE.nx h)) HBW.out
      ·have d_rt : ((r.rt : Int) != (r'.rt : Int)) = true := bne_iff_ne.2 (by omega)
       have f_rt : ((r.rt : Int) == (r'.rt : Int)) = false := beq_false_of_ne (by omega)
       have HE := Lib.hid e_rt
       clear e_k e_t e_a e_b e_pg e_rt
       go_enter Tryz.func16, Tryz.ntmps16
       go_wp2_with fail
       go_ret
       exact .no (fun h => HE.out (congrArg RE.rt h)) HBW.out
     ·have d_pg : ((r.pg : Int) != (r'.pg : Int)) = true := bne_iff_ne.2 (by omega)
      have f_pg : ((r.pg : Int) == (r'.pg : Int)) = false := beq_false_of_ne (by omega)
      have HE := Lib.hid e_pg
      clear e_k e_t e_a e_b e_pg
      go_enter Tryz.func16, Tryz.ntmps16
      go_wp2_with fail
      go_ret
      exact .no (fun h => HE.out (congrArg RE.pg h)) HBW.out
    ·have d_b : ((r.b : Int) != (r'.b : Int)) = true := bne_iff_ne.2 (by omega)
     have f_b : ((r.b : Int) == (r'.b : Int)) = false := beq_false_of_ne (by omega)
     have HE := Lib.hid e_b
     clear e_k e_t e_a e_b
     go_enter Tryz.func16, Tryz.ntmps16
     go_wp2_with fail
     go_ret
     exact .no (fun h => HE.out (congrArg RE.b h)) HBW.out
   ·have d_a : ((r.a : Int) != (r'.a : Int)) = true := bne_iff_ne.2 (by omega)
    have f_a : ((r.a : Int) == (r'.a : Int)) = false := beq_false_of_ne (by omega)
    have HE := Lib.hid e_a
    clear e_k e_t e_a
    go_enter Tryz.func16, Tryz.ntmps16
    go_wp2_with fail
    go_ret
    exact .no (fun h => HE.out (congrArg RE.a h)) HBW.out
  ·have d_t : ((r.t : Int) != (r'.t : Int)) = true := bne_iff_ne.2 (by omega)
   have f_t : ((r.t : Int) == (r'.t : Int)) = false := beq_false_of_ne (by omega)
   have HE := Lib.hid e_t
   clear e_k e_t
   go_enter Tryz.func16, Tryz.ntmps16
   go_wp2_with fail
   go_ret
   exact .no (fun h => HE.out (congrArg RE.t h)) HBW.out
 ·have d_k : (r.k != r'.k) = true := bne_iff_ne.2 (by omega)
  have f_k : (r.k == r'.k) = false := beq_false_of_ne (by omega)
  have HE := Lib.hid e_k
  clear e_k
  go_enter Tryz.func16, Tryz.ntmps16
  go_wp2_with fail
  go_ret
  exact .no (fun h => HE.out (congrArg RE.k h)) HBW.out
end
end Go.Proofs.YtdhgbkibbileiaaGreat
