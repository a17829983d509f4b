/-
THE WALK OF Same.
-/
import Derived.Test.YtcajidlekfkjlaaPF
import Derived.Deep.Cut
import Derived.Deep.DeepCutAuto
import Derived.Deep.RegionWith
import Derived.OrdersHeld
import Derived.Deep.RegionHeld
namespace Go.Proofs.Ytcajidlekfkjlaa
open Go.RowKit

def seq (a b : List Nat) : Bool := u8l a == u8l b
set_option maxRecDepth 100000 in
theorem run_neqL (a b : List Nat) : binOp .neq 9 (.string (strOf a)) (.string (strOf b)) = pure (.bool (!seq a b)) := by
  rw [binOp_string_neq, strOf_toList, strOf_toList]; rfl
set_option maxRecDepth 100000 in
theorem run_eqL (a b : List Nat) : binOp .eql 9 (.string (strOf a)) (.string (strOf b)) = pure (.bool (seq a b)) := by
  rw [binOp_string_eql, strOf_toList, strOf_toList]; rfl
set_option maxRecDepth 100000 in
theorem u8l_inj {a b : List Nat} (ha : ∀ x ∈ a, x < 256) (hb : ∀ x ∈ b, x < 256) (h : u8l a = u8l b) : a = b := by
  have hm : ∀ l : List Nat, (∀ x ∈ l, x < 256) → (u8l l).map UInt8.toNat = l := by
    intro l hl
    unfold u8l
    rw [List.map_map]
    conv => rhs; rw [← List.map_id l]
    apply List.map_congr_left
    intro x hx
    have := hl x hx
    simp [Function.comp]
    omega
  rw [← hm a ha, ← hm b hb, h]
set_option maxRecDepth 100000 in
theorem seq_iff {a b : List Nat} (ha : ∀ x ∈ a, x < 256) (hb : ∀ x ∈ b, x < 256) : seq a b = decide (a = b) := by
  rw [seq, Bool.eq_iff_iff, beq_iff_eq, decide_eq_true_eq]
  exact ⟨u8l_inj ha hb, fun h => by rw [h]⟩
attribute [local go_sem high] run_neqL run_eqL
set_option maxRecDepth 100000 in
theorem same_drop {a b : List CE} {k : Nat} (h : a.take k = b.take k) {x y : CE} (hx : a[k]? = some x) (hy : b[k]? = some y) (e : x = y) : a.take (k + 1) = b.take (k + 1) := by
  subst e
  have hl : ∀ {a : List CE}, a[k]? = some x → a.take (k + 1) = a.take k ++ [x] := by
    intro a hx
    have hk : k < a.length := by
      rcases Nat.lt_or_ge k a.length with h' | h'
      · exact h'
      · rw [List.getElem?_eq_none h'] at hx; cases hx
    rw [List.take_succ_eq_append_getElem hk]
    rw [List.getElem?_eq_getElem hk] at hx
    injection hx with hx
    rw [hx]
  rw [hl hx, hl hy, h]
set_option maxRecDepth 100000 in
theorem not_same {a b : List CE} {k : Nat} {x y : CE} (hx : a[k]? = some x) (hy : b[k]? = some y) (e : x ≠ y) : a ≠ b := fun h => e (by rw [h, hy] at hx; injection hx with hx; exact hx.symm)
def sameP (p q : PV) : Bool := decide (p.k = q.k) && (decide (p.s = q.s) && (decide (p.x = q.x) && decide (p.es = q.es)))
set_option maxHeartbeats 4000000 in
set_option maxRecDepth 100000 in
theorem same_any (p q : PV) (w : World) (h : p.In w All All) (h' : q.In w All All) : Calls Try.prog 54 #[p.agg, q.agg] w fun e w' => e = .returned (.bool (sameP p q)) ∧ Below w.heap.size w w' := by
  obtain ⟨W1, hW1, hBW1, hbx1, hsz1⟩ := box_page w p
  obtain ⟨W, hW, hBW2, hbx2, hsz2⟩ := box_page W1 q
  have hbx := hbx1.below hBW2 (by omega)
  have hBW : Below w.heap.size w W := hBW1.trans (hBW2.mono hBW1.size)
  obtain ⟨y0, y1, y2, y3⟩ := pcs_cells hbx
  obtain ⟨t0, t1, t2, t3⟩ := pcs_cells hbx2
  have HP := Lib.hid (h.below hBW)
  have HQ := Lib.hid (h'.below hBW)
  have HBW := Lib.hid hBW
  have HBX := Lib.hid hbx
  have HBX2 := Lib.hid hbx2
  have HSZ1 := Lib.hid hsz1
  have HSZ2 := Lib.hid hsz2
  have HE1 : Hid (p.es.length = p.n) := h.len
  have HE2 : Hid (q.es.length = q.n) := h'.len
  have hnb : p.n ≤ 9223372036854775807 := h.r.2.2.1
  obtain ⟨pk, ps, px, A, n, c, l⟩ := p
  obtain ⟨qk, qs, qx, A2, n2, c2, l2⟩ := q
  simp only at hW1 hW y0 y1 y2 y3 t0 t1 t2 t3 hnb
  have hsm : sameP ⟨pk, ps, px, A, n, c, l⟩ ⟨qk, qs, qx, A2, n2, c2, l2⟩ = (decide (pk = qk) && (decide (ps = qs) && (decide (px = qx) && decide (l.map CV.e = l2.map CV.e)))) := rfl
  have HSM := Lib.hid hsm
  clear h h' hBW1 hBW2 hbx1 hbx2 hsz1 hsz2 hbx hBW hsm
  simp only [PV.agg]
  by_cases e1 : pk = qk
  · have d1 : (pk == qk) = true := by rw [beq_iff_eq]; exact e1
    have d1n : (pk != qk) = false := by rw [bne_eq_false_iff_eq]; exact e1
    by_cases e2 : ps = qs
    · have d2 : ((ps : Int) == (qs : Int)) = true := by rw [beq_iff_eq]; omega
      have d2n : ((ps : Int) != (qs : Int)) = false := by rw [bne_eq_false_iff_eq]; omega
      by_cases e3 : px = qx
      · have d3 : ((px : Int) == (qx : Int)) = true := by rw [beq_iff_eq]; omega
        have d3n : ((px : Int) != (qx : Int)) = false := by rw [bne_eq_false_iff_eq]; omega
        by_cases e4 : n = n2
        · have d4 : ((n : Int) == (n2 : Int)) = true := by rw [beq_iff_eq]; omega
          have d4n : ((n : Int) != (n2 : Int)) = false := by rw [bne_eq_false_iff_eq]; omega
          have HS2 := Lib.hid (HSM.out.trans (show _ = decide (l.map CV.e = l2.map CV.e) by rw [decide_eq_true e1, decide_eq_true e2, decide_eq_true e3]; rfl))
          have HN := Lib.hid e4
          clear e1 e2 e3 e4
          go_enter Try.func54, Try.ntmps54
          go_wp2
          go_loopw [5] (fun i wr => ∃ k : Nat, k ≤ n ∧ i = .int .i64 (k : Int) ∧ (l.map CV.e).take k = (l2.map CV.e).take k ∧ Below W.heap.size W wr) (fun i _ => n - (intOf i).toNat)
          case atStart => exact ⟨0, by omega, rfl, rfl, Below.refl _ _⟩
          case round =>
            obtain ⟨k, hk, rfl, heq, hbel⟩ := hrel
            have HB := Lib.hid hbel
            have HEQ := Lib.hid heq
            have hfs := hbel.size
            obtain ⟨y0, y1, y2, y3⟩ := pcs_cells (HBX.out.below hbel (by have := HSZ1.out; have := HSZ2.out; omega))
            obtain ⟨t0, t1, t2, t3⟩ := pcs_cells (HBX2.out.below hbel (by have := HSZ1.out; have := HSZ2.out; omega))
            simp only at y0 y1 y2 y3 t0 t1 t2 t3
            clear heq hbel
            by_cases hlt : k < n
            · obtain ⟨g, o, x, rfl, hg, _, hx, hxi, b0, b1, b2⟩ := (HP.out.r.below HB.out).at_ hlt
              obtain ⟨g', o', y, rfl, hg', _, hy, hyi, a0, a1, a2⟩ := (HQ.out.r.below HB.out).at_ (show k < n2 by have := HN.out; omega)
              have HX := Lib.hid (es_at hx)
              have HY := Lib.hid (es_at hy)
              have HXI := Lib.hid hxi
              have HYI := Lib.hid hyi
              obtain ⟨u, kk, xA, m, xc, d⟩ := x
              obtain ⟨yu, yk, yA, ym, yc, yd⟩ := y
              simp only at b0 b1 b2 a0 a1 a2
              have hin : ((k : Int) < (n : Int)) := by omega
              have hin2 : ((k : Int) < (n2 : Int)) := by have := HN.out; omega
              have hkn2 : k < n2 := by have := HN.out; omega
              have hwk : IntKind.i64.wrap (k : Int) = (k : Int) := IntWalk.i64_in _ (by omega)
              have hWi : IntKind.i64.wrap ((k : Int) + 1) = ((k + 1 : Nat) : Int) := by rw [IntWalk.i64_in _ (by omega)]; omega
              clear hx hy hxi hyi
              go_upto_region 6 with fail
              go_cut [6, 7] from 43 to 52 (fun v6 v7 wx => ∃ g6 g7, v6 = .pointer (some ⟨g6, 0, none⟩) ∧ v7 = .pointer (some ⟨g7, 0, none⟩) ∧ Blk wx g6 48 #[.bool u, .int .u32 (kk : Int), .slice xA m xc] ∧ Blk wx g7 48 #[.bool yu, .int .u32 (yk : Int), .slice yA ym yc] ∧ Below wr.heap.size wr wx)
              case first =>
                -- BEGIN
                refine wp_region_held_drew (S := fun wx => Fr wr wx No) (by kernel_rfl) ((Fr.refl wr No).drew) (fun hS => ?_)
                refine wpAnyH_take (i := 0) (v := ?_) rfl (by kernel_rfl) (by kernel_rfl) (by kernel_rfl) (fun _ _ _ h => h) (Or.inl ⟨by rfl, ?_⟩) hS ?_
                rotate_left
                · (intro wq hSw; go_simp; try with_reducible rfl)
                refine wpAnyH_take (i := 1) (v := ?_) rfl (by kernel_rfl) (by kernel_rfl) (by kernel_rfl) (fun _ _ _ h => h) (Or.inl ⟨by rfl, ?_⟩) hS ?_
                rotate_left
                · (intro wq hSw; have hc := (HBX.out.below (HB.out.trans ((hSw.no_below).mono hfs)) (by have := HSZ1.out; have := HSZ2.out; omega)).cell 3; simp only [pcs, List.getElem?_toArray, List.getElem?_cons_zero, List.getElem?_cons_succ] at hc; go_simp; try with_reducible rfl)
                simp only [List.getElem_toArray, List.getElem_cons_succ, List.getElem_cons_zero, Act.put, List.setIfInBounds_toArray, List.set_cons_succ, List.set_cons_zero]
                refine wpAnyH_take (i := 2) (v := ?_) rfl (by kernel_rfl) (by kernel_rfl) (by kernel_rfl) (fun _ _ _ h => h) (Or.inl ⟨by rfl, ?_⟩) hS ?_
                rotate_left
                · (intro wq hSw; go_simp; try with_reducible rfl)
                simp only [List.getElem_toArray, List.getElem_cons_succ, List.getElem_cons_zero, Act.put, List.setIfInBounds_toArray, List.set_cons_succ, List.set_cons_zero]
                refine wpAnyH_take (i := 3) (v := ?_) rfl (by kernel_rfl) (by kernel_rfl) (by kernel_rfl) (fun _ _ _ h => h) (Or.inl ⟨by rfl, ?_⟩) hS ?_
                rotate_left
                · (intro wq hSw; go_simp; try with_reducible rfl)
                simp only [List.getElem_toArray, List.getElem_cons_succ, List.getElem_cons_zero, Act.put, List.setIfInBounds_toArray, List.set_cons_succ, List.set_cons_zero]
                refine wpAnyH_take (i := 4) (v := ?_) rfl (by kernel_rfl) (by kernel_rfl) (by kernel_rfl) (fun _ _ _ h => h) (Or.inl ⟨by rfl, ?_⟩) hS ?_
                rotate_left
                · (intro wq hSw; have f0 := (World.cell?_of_block (hSw.block g hg fun hn => hn)).trans b0; have f1 := (World.cell?_of_block (hSw.block g hg fun hn => hn)).trans b1; have f2 := (World.cell?_of_block (hSw.block g hg fun hn => hn)).trans b2; go_simp; try with_reducible rfl)
                simp only [List.getElem_toArray, List.getElem_cons_succ, List.getElem_cons_zero, Act.put, List.setIfInBounds_toArray, List.set_cons_succ, List.set_cons_zero]
                refine wpAnyH_take (i := 5) (v := ?_) rfl (by kernel_rfl) (by kernel_rfl) (by kernel_rfl) (fun _ _ _ h => h) (Or.inl ⟨by rfl, ?_⟩) hS ?_
                rotate_left
                · (intro wq hSw; go_simp; try with_reducible rfl)
                simp only [List.getElem_toArray, List.getElem_cons_succ, List.getElem_cons_zero, Act.put, List.setIfInBounds_toArray, List.set_cons_succ, List.set_cons_zero]
                refine wpAnyH_take (i := 6) (v := ?_) rfl (by kernel_rfl) (by kernel_rfl) (by kernel_rfl) (fun _ _ _ h => h) (Or.inl ⟨by rfl, ?_⟩) hS ?_
                rotate_left
                · (intro wq hSw; have hc := (HBX2.out.below (HB.out.trans ((hSw.no_below).mono hfs)) (by have := HSZ1.out; have := HSZ2.out; omega)).cell 3; simp only [pcs, List.getElem?_toArray, List.getElem?_cons_zero, List.getElem?_cons_succ] at hc; go_simp; try with_reducible rfl)
                simp only [List.getElem_toArray, List.getElem_cons_succ, List.getElem_cons_zero, Act.put, List.setIfInBounds_toArray, List.set_cons_succ, List.set_cons_zero]
                refine wpAnyH_take (i := 7) (v := ?_) rfl (by kernel_rfl) (by kernel_rfl) (by kernel_rfl) (fun _ _ _ h => h) (Or.inl ⟨by rfl, ?_⟩) hS ?_
                rotate_left
                · (intro wq hSw; go_simp; try with_reducible rfl)
                simp only [List.getElem_toArray, List.getElem_cons_succ, List.getElem_cons_zero, Act.put, List.setIfInBounds_toArray, List.set_cons_succ, List.set_cons_zero]
                refine wpAnyH_take (i := 8) (v := ?_) rfl (by kernel_rfl) (by kernel_rfl) (by kernel_rfl) (fun _ _ _ h => h) (Or.inl ⟨by rfl, ?_⟩) hS ?_
                rotate_left
                · (intro wq hSw; go_simp; try with_reducible rfl)
                simp only [List.getElem_toArray, List.getElem_cons_succ, List.getElem_cons_zero, Act.put, List.setIfInBounds_toArray, List.set_cons_succ, List.set_cons_zero]
                refine wpAnyH_take (i := 9) (v := ?_) rfl (by kernel_rfl) (by kernel_rfl) (by kernel_rfl) (fun _ _ _ h => h) (Or.inl ⟨by rfl, ?_⟩) hS ?_
                rotate_left
                · (intro wq hSw; have f0 := (World.cell?_of_block (hSw.block g' hg' fun hn => hn)).trans a0; have f1 := (World.cell?_of_block (hSw.block g' hg' fun hn => hn)).trans a1; have f2 := (World.cell?_of_block (hSw.block g' hg' fun hn => hn)).trans a2; go_simp; try with_reducible rfl)
                simp only [List.getElem_toArray, List.getElem_cons_succ, List.getElem_cons_zero, Act.put, List.setIfInBounds_toArray, List.set_cons_succ, List.set_cons_zero]
                obtain ⟨D, hD⟩ : ∃ D, wr.drew = D := ⟨_, rfl⟩
                rw [hD] at hS ⊢
                have HD0 := Lib.hid hS
                have HDS := Lib.hid (show D.heap.size = wr.heap.size by rw [← hD]; rfl)
                clear hD
                refine wpAnyH_ready (rs := [10, 11]) (by kernel_rfl) (by simp) ?_
                refine AllReadyH.cons rfl (fun K hK => ?_) (AllReadyH.cons rfl (fun K hK => ?_) AllReadyH.nil)
                · go_simp
                  refine hK.out _ _ ?_ (fun hS => ?_)
                  · repeat (first | exact HD0.out | refine Fr.alloc ?_ _ | refine Fr.setCell ?_ (Or.inr (by have h9 := HDS.out; simp [h9])) _)
                  clear hK K
                  refine wpAnyH_ready (rs := [11]) (by kernel_rfl) (by simp) ?_
                  refine AllReadyH.cons rfl (fun K hK => ?_) AllReadyH.nil
                  go_simp
                  refine hK.out _ _ ?_ (fun hS => ?_)
                  · repeat (first | exact HD0.out | refine Fr.alloc ?_ _ | refine Fr.setCell ?_ (Or.inr (by have h9 := HDS.out; simp [h9])) _)
                  clear hK K
                  refine wpAnyH_ready (rs := [12]) (by kernel_rfl) (by simp) ?_
                  refine AllReadyH.cons rfl (fun K hK => ?_) AllReadyH.nil
                  go_simp
                  refine hK.out _ _ ?_ (fun hS => ?_)
                  · repeat (first | exact HD0.out | refine Fr.alloc ?_ _ | refine Fr.setCell ?_ (Or.inr (by have h9 := HDS.out; simp [h9])) _)
                  clear hK K
                  refine wpAnyH_ready (rs := [13]) (by kernel_rfl) (by simp) ?_
                  refine AllReadyH.cons rfl (fun K hK => ?_) AllReadyH.nil
                  go_simp
                  refine hK.out _ _ ?_ (fun hS => ?_)
                  · repeat (first | exact HD0.out | refine Fr.alloc ?_ _ | refine Fr.setCell ?_ (Or.inr (by have h9 := HDS.out; simp [h9])) _)
                  clear hK K
                  refine wpAnyH_done (by kernel_rfl) ?_ _
                  go_wp2_with fail
                  go_meet
                  refine ⟨_, _, rfl, rfl, ?_, ?_, ?_⟩
                  · first | exact (Blk.new D 48 _).alloc _ | (have h9 := Blk.new (D.alloc (.cells #[.bool yu, .int .u32 (yk : Int), .slice yA ym yc] 48)) 48 #[.bool u, .int .u32 (kk : Int), .slice xA m xc]; simpa using h9)
                  · first | exact (Blk.new D 48 _).alloc _ | (have h9 := Blk.new (D.alloc (.cells #[.bool u, .int .u32 (kk : Int), .slice xA m xc] 48)) 48 #[.bool yu, .int .u32 (yk : Int), .slice yA ym yc]; simpa using h9)
                  · exact ((HD0.out.alloc _).alloc _).no_below
                · go_simp
                  refine hK.out _ _ ?_ (fun hS => ?_)
                  · repeat (first | exact HD0.out | refine Fr.alloc ?_ _ | refine Fr.setCell ?_ (Or.inr (by have h9 := HDS.out; simp [h9])) _)
                  clear hK K
                  refine wpAnyH_ready (rs := [10]) (by kernel_rfl) (by simp) ?_
                  refine AllReadyH.cons rfl (fun K hK => ?_) AllReadyH.nil
                  go_simp
                  refine hK.out _ _ ?_ (fun hS => ?_)
                  · repeat (first | exact HD0.out | refine Fr.alloc ?_ _ | refine Fr.setCell ?_ (Or.inr (by have h9 := HDS.out; simp [h9])) _)
                  clear hK K
                  refine wpAnyH_ready (rs := [12]) (by kernel_rfl) (by simp) ?_
                  refine AllReadyH.cons rfl (fun K hK => ?_) AllReadyH.nil
                  go_simp
                  refine hK.out _ _ ?_ (fun hS => ?_)
                  · repeat (first | exact HD0.out | refine Fr.alloc ?_ _ | refine Fr.setCell ?_ (Or.inr (by have h9 := HDS.out; simp [h9])) _)
                  clear hK K
                  refine wpAnyH_ready (rs := [13]) (by kernel_rfl) (by simp) ?_
                  refine AllReadyH.cons rfl (fun K hK => ?_) AllReadyH.nil
                  go_simp
                  refine hK.out _ _ ?_ (fun hS => ?_)
                  · repeat (first | exact HD0.out | refine Fr.alloc ?_ _ | refine Fr.setCell ?_ (Or.inr (by have h9 := HDS.out; simp [h9])) _)
                  clear hK K
                  refine wpAnyH_done (by kernel_rfl) ?_ _
                  go_wp2_with fail
                  go_meet
                  refine ⟨_, _, rfl, rfl, ?_, ?_, ?_⟩
                  · first | exact (Blk.new D 48 _).alloc _ | (have h9 := Blk.new (D.alloc (.cells #[.bool yu, .int .u32 (yk : Int), .slice yA ym yc] 48)) 48 #[.bool u, .int .u32 (kk : Int), .slice xA m xc]; simpa using h9)
                  · first | exact (Blk.new D 48 _).alloc _ | (have h9 := Blk.new (D.alloc (.cells #[.bool u, .int .u32 (kk : Int), .slice xA m xc] 48)) 48 #[.bool yu, .int .u32 (yk : Int), .slice yA ym yc]; simpa using h9)
                  · exact ((HD0.out.alloc _).alloc _).no_below
              case rest =>
                obtain ⟨g6, g7, rfl, rfl, hb6, hb7, hbz⟩ := hcut
                have f0 := hb6.cell 0
                have f1 := hb6.cell 1
                have f2 := hb6.cell 2
                have h0 := hb7.cell 0
                have h1 := hb7.cell 1
                have h2 := hb7.cell 2
                simp only [List.getElem?_toArray, List.getElem?_cons_zero, List.getElem?_cons_succ] at f0 f1 f2 h0 h1 h2
                have HBZ := Lib.hid (HB.out.trans (hbz.mono hfs))
                have hcv1 := run_conv All xA m xc d _ (HXI.out.b.keep (Fr.of_below hbz No) fun _ _ hn => hn)
                have hcv2 := run_conv All yA ym yc yd _ (HYI.out.b.keep (Fr.of_below hbz No) fun _ _ hn => hn)
                clear hb6 hb7 hbz
                by_cases q1 : u = yu
                · have z1 : (u == yu) = true := by rw [beq_iff_eq]; exact q1
                  have z1n : (u != yu) = false := by rw [bne_eq_false_iff_eq]; exact q1
                  by_cases q2 : kk = yk
                  · have z2 : ((kk : Int) == (yk : Int)) = true := by rw [beq_iff_eq]; omega
                    have z2n : ((kk : Int) != (yk : Int)) = false := by rw [bne_eq_false_iff_eq]; omega
                    have hsq := seq_iff HXI.out.b.lt HYI.out.b.lt
                    by_cases q3 : d = yd
                    · have z3 : seq d yd = true := by rw [hsq, decide_eq_true_eq]; exact q3
                      have HN2 := Lib.hid (same_drop HEQ.out HX.out HY.out (by rw [CV.e, CV.e]; simp only; rw [q1, q2, q3]))
                      clear q1 q2 q3 hsq
                      go_wp2_with fail
                      go_roundw
                      case rel => exact ⟨k + 1, by omega, by go_num, HN2.out, HBZ.out⟩
                      case measure => simp [intOf]; omega
                    · have z3 : seq d yd = false := by rw [hsq, decide_eq_false_iff_not]; exact q3
                      have HN2 := Lib.hid (not_same HX.out HY.out (fun e => q3 (congrArg CE.d e)))
                      clear q1 q2 q3 hsq
                      go_wp2_with fail
                      go_ret
                      exact ⟨by rw [HS2.out, decide_eq_false HN2.out]; rfl, HBW.out.trans (HBZ.out.mono HBW.out.size)⟩
                  · have z2 : ((kk : Int) == (yk : Int)) = false := beq_false_of_ne (by omega)
                    have z2n : ((kk : Int) != (yk : Int)) = true := bne_iff_ne.2 (by omega)
                    have HN2 := Lib.hid (not_same HX.out HY.out (fun e => q2 (congrArg CE.k e)))
                    clear q1 q2
                    go_wp2_with fail
                    go_ret
                    exact ⟨by rw [HS2.out, decide_eq_false HN2.out]; rfl, HBW.out.trans (HBZ.out.mono HBW.out.size)⟩
                · have z1 : (u == yu) = false := beq_false_of_ne q1
                  have z1n : (u != yu) = true := bne_iff_ne.2 q1
                  have HN2 := Lib.hid (not_same HX.out HY.out (fun e => q1 (congrArg CE.u e)))
                  clear q1
                  go_wp2_with fail
                  go_ret
                  exact ⟨by rw [HS2.out, decide_eq_false HN2.out]; rfl, HBW.out.trans (HBZ.out.mono HBW.out.size)⟩
            · have h1d : decide ((k : Int) < (n : Int)) = false := decide_eq_false (by omega)
              have h1d2 : decide (k < n) = false := decide_eq_false hlt
              have HN2 := Lib.hid (show l.map CV.e = l2.map CV.e by
                have h1 := HEQ.out
                have h2 := HE1.out
                have h3 := HE2.out
                have h4 := HN.out
                simp only [PV.es] at h2 h3
                rwa [List.take_of_length_le (by omega), List.take_of_length_le (by omega)] at h1)
              go_wp2_with fail
              go_ret
              exact ⟨by rw [HS2.out, decide_eq_true HN2.out]; rfl, HBW.out.trans (HB.out.mono HBW.out.size)⟩
        · have d4 : ((n : Int) == (n2 : Int)) = false := beq_false_of_ne (by omega)
          have d4n : ((n : Int) != (n2 : Int)) = true := bne_iff_ne.2 (by omega)
          have HS2 := Lib.hid (HSM.out.trans (show _ = false by
            rw [decide_eq_false (fun e => e4 (by have h2 := HE1.out; have h3 := HE2.out; simp only [PV.es] at h2 h3; rw [← h2, ← h3, e]) : ¬ l.map CV.e = l2.map CV.e)]
            simp))
          clear e1 e2 e3 e4
          go_enter Try.func54, Try.ntmps54
          go_wp2
          go_ret
          exact ⟨by rw [HS2.out]; rfl, HBW.out⟩
      · have d3 : ((px : Int) == (qx : Int)) = false := beq_false_of_ne (by omega)
        have d3n : ((px : Int) != (qx : Int)) = true := bne_iff_ne.2 (by omega)
        have HS2 := Lib.hid (HSM.out.trans (show _ = false by rw [decide_eq_false e3]; simp))
        clear e1 e2 e3
        go_enter Try.func54, Try.ntmps54
        go_wp2
        go_ret
        exact ⟨by rw [HS2.out]; rfl, HBW.out⟩
    · have d2 : ((ps : Int) == (qs : Int)) = false := beq_false_of_ne (by omega)
      have d2n : ((ps : Int) != (qs : Int)) = true := bne_iff_ne.2 (by omega)
      have HS2 := Lib.hid (HSM.out.trans (show _ = false by rw [decide_eq_false e2]; simp))
      clear e1 e2
      go_enter Try.func54, Try.ntmps54
      go_wp2
      go_ret
      exact ⟨by rw [HS2.out]; rfl, HBW.out⟩
  · have d1 : (pk == qk) = false := beq_false_of_ne e1
    have d1n : (pk != qk) = true := bne_iff_ne.2 e1
    have HS2 := Lib.hid (HSM.out.trans (show _ = false by rw [decide_eq_false e1]; simp))
    clear e1
    go_enter Try.func54, Try.ntmps54
    go_wp2
    go_ret
    exact ⟨by rw [HS2.out]; rfl, HBW.out⟩
end Go.Proofs.Ytcajidlekfkjlaa
