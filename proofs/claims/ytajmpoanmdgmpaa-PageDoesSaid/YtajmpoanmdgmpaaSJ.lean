/-
  THE WALK OF put: A HEAP's CELL THAT IS NOT IN USE IS FILLED; what is out of range; what is there.
-/
import Derived.Test.YtajmpoanmdgmpaaSI
namespace Go.Proofs.Ytajmpoanmdgmpaa
open Go.RowKit

set_option maxRecDepth 100000 in
theorem put_range (w : World) (S : Nat → Prop) (g : Nat) (p : PV) (hb : Blk w g 26 (pcs p)) (at_ : Int) (th : Bool) (hr : at_ < 0 ∨ (p.n : Int) < at_) (A : Option Addr) (m c : Nat) :
    Calls Try.prog 84 #[.pointer (some ⟨g, 0, none⟩), .int .i64 at_, .bool th, .slice A m c] w (DidNo w S g 2) := by
  obtain ⟨y0, y1, y2, y3⟩ := pcs_cells hb
  clear hb
  by_cases h0 : at_ < 0
  · have d1 : decide (at_ < 0) = true := decide_eq_true h0
    clear h0 hr
    go_enter Try.func84, Try.ntmps84
    go_wp2_with fail
    go_ret
    exact ⟨rfl, Fr.refl _ _⟩
  · have d1 : decide (at_ < 0) = false := decide_eq_false h0
    have d2 : decide (at_ > (p.n : Int)) = true := decide_eq_true (by omega)
    have d3 : decide ((p.n : Int) < at_) = true := decide_eq_true (by omega)
    clear h0 hr
    go_enter Try.func84, Try.ntmps84
    go_wp2_with fail
    go_ret
    exact ⟨rfl, Fr.refl _ _⟩
set_option maxRecDepth 100000 in
theorem put_has (w : World) (S : Nat → Prop) (g : Nat) (p : PV) (hb : Blk w g 26 (pcs p)) (s : Nat) (hs : s ≤ p.n) (A : Option Addr) (m c : Nat) :
    Calls Try.prog 84 #[.pointer (some ⟨g, 0, none⟩), .int .i64 (s : Int), .bool true, .slice A m c] w (DidNo w S g 7) := by
  obtain ⟨y0, y1, y2, y3⟩ := pcs_cells hb
  have d1 : decide ((s : Int) < 0) = false := decide_eq_false (by omega)
  have d2 : decide ((s : Int) > (p.n : Int)) = false := decide_eq_false (by omega)
  have d3 : decide (p.n < s) = false := decide_eq_false (by omega)
  clear hb
  go_enter Try.func84, Try.ntmps84
  go_wp2_with fail
  go_ret
  exact ⟨rfl, Fr.refl _ _⟩
set_option maxHeartbeats 4000000 in
set_option maxRecDepth 100000 in
theorem put_set (w : World) (S T : Nat → Prop) (g : Nat) (p : PV) (hb : Blk w g 26 (pcs p)) (hg : ¬ S g ∧ ¬ T g) (ho : PO w S T p) (hn : p.n ≤ 300) (hml : ∀ x ∈ p.l, x.m ≤ 2000) (hSb : ∀ b, S b → b < w.heap.size) (hTb : ∀ b, T b → b < w.heap.size) (i : Nat) (hi : i < p.n) (hk : p.k = 1) (A : Option Addr) (m c : Nat) (d : List Nat) (hd : RB w All A m d) (hm : m ≤ 2000) :
    Calls Try.prog 84 #[.pointer (some ⟨g, 0, none⟩), .int .i64 (i : Int), .bool false, .slice A m c] w (PutO w S T g p (p.es.set i ⟨true, 0, d⟩)) := by
  obtain ⟨y0, y1, y2, y3⟩ := pcs_cells hb
  obtain ⟨g', hA, hS', hT', hgl', hfz⟩ := ho.rowA (by omega)
  have HO := Lib.hid ho
  have HBK := Lib.hid hb
  have HG := Lib.hid hg
  have HSB := Lib.hid (show (∀ b, S b → b < w.heap.size) ∧ ∀ b, T b → b < w.heap.size from ⟨hSb, hTb⟩)
  have HML := Lib.hid hml
  have HCL := Lib.hid (clone_any w All A m c d hd (by omega))
  have hdl : d.length = m := hd.len
  have hpl : p.l.length = p.n := ho.o.len
  have hgl := hb.lt
  obtain ⟨pk, ps, px, pA, q, pc, l⟩ := p
  simp only at hn hi hk hpl y0 y1 y2 y3 hA
  subst hA hk
  have d1 : decide ((i : Int) < 0) = false := decide_eq_false (by omega)
  have d2 : decide ((i : Int) > (q : Int)) = false := decide_eq_false (by omega)
  have d2n : decide (q < i) = false := decide_eq_false (by omega)
  have d3 : decide ((i : Int) < (q : Int)) = true := decide_eq_true (by omega)
  have d3n : decide (i < q) = true := decide_eq_true hi
  have hiq : i < q := hi
  have hii : (i : Int) < (q : Int) := by omega
  have wi : IntKind.i64.wrap (i : Int) = (i : Int) := IntWalk.i64_in _ (by omega)
  have HML2 := Lib.hid (show d.length = m ∧ l.length = q ∧ g < w.heap.size from ⟨hdl, hpl, hgl⟩)
  have HGP := Lib.hid (show S g' ∧ ¬ T g' ∧ g ≠ g' from ⟨hS', hT', fun e => hg.1 (e ▸ hS')⟩)
  have HFZ := Lib.hid hfz
  clear hb hg ho hml hSb hTb hd hdl hpl hgl hfz hS' hT' hi
  go_enter Try.func84, Try.ntmps84
  go_wp2_with fail
  with_reducible refine HCL.out.mono ?_
  rintro e w1 ⟨v, rfl, hnew, hb1⟩
  obtain ⟨A1, c1, rfl, hmc1, hnz1, hr1⟩ := hnew.reads
  have hdl := HML2.out.1
  rw [hdl] at hr1 hmc1
  obtain ⟨W1, hW1⟩ : ∃ W1, w1.alloc (.cells #[.bool true, .int .u32 0, .slice A1 m c1] 58) = W1 := ⟨_, rfl⟩
  have hcb : Blk W1 w1.heap.size 58 #[.bool true, .int .u32 0, .slice A1 m c1] := by rw [← hW1]; exact Blk.new w1 58 _
  have hf1 : Fr w W1 No := by rw [← hW1]; exact (Fr.of_below hb1 No).alloc _
  have hz1 : W1.heap.size = w1.heap.size + 1 := by rw [← hW1]; simp
  have hr1' : RB W1 (fun b => w.heap.size ≤ b ∧ b < w1.heap.size) A1 m d := by rw [← hW1]; exact (hr1.mono (T := fun b => w.heap.size ≤ b ∧ b < w1.heap.size) fun b hlt hb => ⟨hb, hlt⟩).alloc _
  have hwb1 : WB W1 (fun b => w.heap.size ≤ b ∧ b < w1.heap.size) A1 m := by
    obtain ⟨Aw, cw, ew, hwb⟩ := WB.of_ow (hnew.mono (T := fun b => w.heap.size ≤ b ∧ b < w1.heap.size) fun b hlt hb => ⟨hb, hlt⟩)
    injection ew with ew _ ew3
    subst ew ew3
    rw [← hdl, ← hW1]
    exact hwb.alloc _
  obtain ⟨T1, hT1⟩ : ∃ T1 : Nat → Prop, T1 = fun b => T b ∨ (w.heap.size ≤ b ∧ b < w1.heap.size) := ⟨_, rfl⟩
  have hbg := HBK.out.keep hf1 fun h => h
  have hxi : CV.In W1 T1 ⟨true, 0, A1, m, c1, d⟩ := ⟨hr1'.mono fun b _ hb => by rw [hT1]; exact Or.inr hb, by simp only; omega, hmc1, by simp only; omega, hnz1⟩
  have hown : OwC W1 S T1 (.slice (some ⟨g', 0, none⟩) q pc) q l := (HO.out.o.fr hf1).mono (fun b _ hb => hb) (fun b _ hb => by rw [hT1]; exact Or.inl hb) fun k hk hb => by
    rw [hT1] at hb
    rcases hb with hb | hb
    · exact HO.out.o.2.2.2 k hk hb
    · have := HSB.out.1 k (HO.out.o.2.2.1 k hk); omega
  obtain ⟨y0, y1, y2, y3⟩ := pcs_cells hbg
  have c0 := hcb.cell 0
  have c1' := hcb.cell 1
  have c2 := hcb.cell 2
  simp only [List.getElem?_toArray, List.getElem?_cons_zero, List.getElem?_cons_succ] at c0 c1' c2
  simp only at y0 y1 y2 y3
  have HF1 := Lib.hid hf1
  have HB1 := Lib.hid (show w.heap.size ≤ w1.heap.size from hb1.size)
  have HZ1 := Lib.hid hz1
  have HCB := Lib.hid hcb
  have HBG := Lib.hid hbg
  have HXI := Lib.hid hxi
  have HOW := Lib.hid hown
  have HWB1 := Lib.hid hwb1
  have HT1 := Lib.hid hT1
  have hgW : g ≠ w1.heap.size := by have := HML2.out.2.2; have := hb1.size; omega
  have HGW := Lib.hid hgW
  clear hnew hb1 hr1 hr1' hwb1 hT1 hbg hxi hown hcb hz1 hgW
  go_wp2_with fail
  refine wp_region_held_drew (S := fun wx => Fr W1 wx (fun b => b = g')) (by kernel_rfl) ((Fr.refl W1 _).drew) (fun hS => ?_)
  refine wpAnyH_take (i := 0) (v := ?_) rfl (by kernel_rfl) (by kernel_rfl) (by kernel_rfl) (fun _ _ _ h => h) (Or.inl ⟨by rfl, ?_⟩) hS ?_
  rotate_left
  · (intro wq hSw; go_simp; try with_reducible rfl)
  refine wpAnyH_take (i := 1) (v := ?_) rfl (by kernel_rfl) (by kernel_rfl) (by kernel_rfl) (fun _ _ _ h => h) (Or.inl ⟨by rfl, ?_⟩) hS ?_
  rotate_left
  · (intro wq hSw; go_simp; try with_reducible rfl)
  simp only [List.getElem_toArray, List.getElem_cons_succ, List.getElem_cons_zero, Act.put, List.setIfInBounds_toArray, List.set_cons_succ, List.set_cons_zero]
  refine wpAnyH_take (i := 2) (v := ?_) rfl (by kernel_rfl) (by kernel_rfl) (by kernel_rfl) (fun _ _ _ h => h) (Or.inl ⟨by rfl, ?_⟩) hS ?_
  rotate_left
  · (intro wq hSw; go_simp; try with_reducible rfl)
  simp only [List.getElem_toArray, List.getElem_cons_succ, List.getElem_cons_zero, Act.put, List.setIfInBounds_toArray, List.set_cons_succ, List.set_cons_zero]
  refine wpAnyH_take (i := 3) (v := ?_) rfl (by kernel_rfl) (by kernel_rfl) (by kernel_rfl) (fun _ _ _ h => h) (Or.inl ⟨by rfl, ?_⟩) hS ?_
  rotate_left
  · (intro wq hSw; have hc := ((HBG.out.keep hSw HGP.out.2.2).cell 3); simp only [pcs, List.getElem?_toArray, List.getElem?_cons_zero, List.getElem?_cons_succ] at hc; go_simp; try with_reducible rfl)
  simp only [List.getElem_toArray, List.getElem_cons_succ, List.getElem_cons_zero, Act.put, List.setIfInBounds_toArray, List.set_cons_succ, List.set_cons_zero]
  refine wpAnyH_take (i := 4) (v := ?_) rfl (by kernel_rfl) (by kernel_rfl) (by kernel_rfl) (fun _ _ _ h => h) (Or.inl ⟨by rfl, ?_⟩) hS ?_
  rotate_left
  · (intro wq hSw; go_simp; try with_reducible rfl)
  simp only [List.getElem_toArray, List.getElem_cons_succ, List.getElem_cons_zero, Act.put, List.setIfInBounds_toArray, List.set_cons_succ, List.set_cons_zero]
  refine wpAnyH_take (i := 5) (v := ?_) rfl (by kernel_rfl) (by kernel_rfl) (by kernel_rfl) (fun _ _ _ h => h) (Or.inl ⟨by rfl, ?_⟩) hS ?_
  rotate_left
  · (intro wq hSw; have hq := HCB.out.keep hSw (fun h => by have := HSB.out.1 _ HGP.out.1; have := HB1.out; omega); have h0 := hq.cell 0; have h1 := hq.cell 1; have h2 := hq.cell 2; simp only [List.getElem?_toArray, List.getElem?_cons_zero, List.getElem?_cons_succ] at h0 h1 h2; go_simp; try with_reducible rfl)
  simp only [List.getElem_toArray, List.getElem_cons_succ, List.getElem_cons_zero, Act.put, List.setIfInBounds_toArray, List.set_cons_succ, List.set_cons_zero]
  refine wpAnyH_take (i := 6) (v := ?_) rfl (by kernel_rfl) (by kernel_rfl) (by kernel_rfl) (fun _ _ _ h => h) (Or.inl ⟨by rfl, ?_⟩) hS ?_
  rotate_left
  · (intro wq hSw; go_simp; try with_reducible rfl)
  simp only [List.getElem_toArray, List.getElem_cons_succ, List.getElem_cons_zero, Act.put, List.setIfInBounds_toArray, List.set_cons_succ, List.set_cons_zero]
  have hrow := HOW.out.row (by omega)
  obtain ⟨gq, cq, eq, hrow, _, _⟩ := hrow
  injection eq with eq1 _ eq3
  injection eq1 with eq1
  injection eq1 with eq1
  subst eq1 eq3
  have hil : i < l.length := by have := HML2.out.2.1; omega
  obtain ⟨ca, cb, cc⟩ := ccs_at l i l[i] (List.getElem?_eq_getElem hil)
  have q0 := (hrow.cell (j := i * 3) (by omega)).trans ca
  have q1 := (hrow.cell (j := i * 3 + 1) (by omega)).trans cb
  have q2 := (hrow.cell (j := i * 3 + 2) (by omega)).trans cc
  have z0 := hrow.frozen (i * 3)
  have z1 := hrow.frozen (i * 3 + 1)
  have z2 := hrow.frozen (i * 3 + 2)
  clear ca cb cc hrow
  refine wpAnyH_ready (rs := [7]) (by kernel_rfl) (by simp) ?_
  refine AllReadyH.cons rfl (fun K hK => ?_) AllReadyH.nil
  go_simp
  refine hK.out _ _ ?_ (fun hS => ?_)
  · exact (fr_set (fr_set (fr_set (Fr.refl W1 _) _ _) _ _) _ _).drew
  clear hK K
  refine wpAnyH_done (by kernel_rfl) ?_ _
  clear q0 q1 q2 z0 z1 z2 hS
  obtain ⟨W4, hW4⟩ : ∃ W4, (((W1.setCell ⟨g', i * 3, none⟩ (.bool true)).setCell ⟨g', i * 3 + 1, none⟩ (.int .u32 0)).setCell ⟨g', i * 3 + 2, none⟩ (.slice A1 m c1)).drew = W4 := ⟨_, rfl⟩
  have hput := HOW.out.put3 hiq (⟨true, 0, A1, m, c1, d⟩ : CV) HXI.out (fun _ _ h => h) (by rw [HT1.out]; intro h; rcases h with h | h; exact HGP.out.2.1 h; have := HSB.out.1 _ HGP.out.1; omega)
  have hput : OwC W4 S T1 (.slice (some ⟨g', 0, none⟩) q pc) q (l.set i ⟨true, 0, A1, m, c1, d⟩) := by rw [← hW4]; exact hput.drew
  have hf4 : Fr W1 W4 (fun b => b = g') := by rw [← hW4]; exact (fr_set (fr_set (fr_set (Fr.refl W1 _) _ _) _ _) _ _).drew
  obtain ⟨L, hL⟩ : ∃ L, L = l.set i (⟨true, 0, A1, m, c1, d⟩ : CV) := ⟨_, rfl⟩
  rw [← hL] at hput
  have hes : L.map CV.e = (l.map CV.e).set i ⟨true, 0, d⟩ := by rw [hL, es_set]; rfl
  have hll : L.length = q := by rw [hL, List.length_set]; exact HML2.out.2.1
  have HB4 := Lib.hid (show Blk W4 g 26 (pcs ⟨1, ps, px, some ⟨g', 0, none⟩, q, pc, L⟩) from HBG.out.keep hf4 HGP.out.2.2)
  have hpo4 : PO W4 S T1 ⟨1, ps, px, some ⟨g', 0, none⟩, q, pc, L⟩ := ⟨hput, by show q ≤ _; omega, HO.out.k1, HO.out.k2, HO.out.s, HO.out.x⟩
  have hf9 : Fr w W4 (fun b => b = g ∨ S b) := (HF1.out.mono (T := fun b => b = g ∨ S b) fun _ _ h => h.elim).trans hf4 fun b hb => Or.inl (Or.inr (hb ▸ HGP.out.1))
  have hST : (∀ b, S b → S b ∨ w.heap.size ≤ b) ∧ (∀ b, T1 b → T b ∨ w.heap.size ≤ b) := ⟨fun b hb => Or.inl hb, fun b hb => by
      rw [HT1.out] at hb
      rcases hb with hb | hb
      · exact Or.inl hb
      · exact Or.inr hb.1⟩
  have hsoft : (∀ x ∈ l, WB w T x.A x.m) → ∀ x ∈ L, WB W4 T1 x.A x.m := by
    intro hw y hy
    rw [hL] at hy
    rcases List.mem_or_eq_of_mem_set hy with hy | rfl
    · refine (((hw y hy).keep HF1.out fun _ _ h => h).keep hf4 fun b hb e => HGP.out.2.1 (e ▸ hb)).mono fun b _ hb => ?_
      rw [HT1.out]; exact Or.inl hb
    · refine (HWB1.out.keep hf4 fun b hb e => ?_).mono fun b _ hb => ?_
      · have := HSB.out.1 _ HGP.out.1; omega
      · rw [HT1.out]; exact Or.inr hb
  have hsmall : ∀ x ∈ L, x.m ≤ 9223372036854 := fun y hy => by
    rw [hL] at hy
    rcases List.mem_or_eq_of_mem_set hy with hy | rfl
    · have := HML.out y hy; omega
    · simp only; omega
  have hsize := size_any ⟨1, ps, px, some ⟨g', 0, none⟩, q, pc, L⟩ W4 hpo4.In.all hsmall (by show q ≤ 1000; omega)
  obtain ⟨es, hese⟩ : ∃ es, es = (l.map CV.e).set i (⟨true, 0, d⟩ : CE) := ⟨_, rfl⟩
  have hpe : (⟨1, ps, px, some ⟨g', 0, none⟩, q, pc, L⟩ : PV).es = es := by rw [hese]; exact hes
  have hlen : es.length = q := by rw [← hpe, ← hll]; exact List.length_map _
  rw [hpe] at hsize
  obtain ⟨z, hz⟩ : ∃ z, z = psz es := ⟨_, rfl⟩
  rw [← hz] at hsize
  obtain ⟨u0, u1, u2, u3⟩ := pcs_cells HB4.out
  simp only at u0 u1 u2 u3
  have HSIZE := Lib.hid hsize
  have HPO4 := Lib.hid hpo4
  have HF9 := Lib.hid hf9
  have HST := Lib.hid hST
  have HSOFT := Lib.hid hsoft
  have HPE := Lib.hid hpe
  have HZ := Lib.hid hz
  have HLEN := Lib.hid hlen
  have HES := Lib.hid hese
  clear hsize hpo4 hf9 hST hsoft hpe hz hlen hese hes hll hL hsmall hput hf4 y0 y1 y2 y3 c0 c1' c2
  simp only [PV.agg] at HSIZE
  by_cases h60 : 60 < q
  · have e1 : decide ((q : Int) > 60) = true := decide_eq_true (by omega)
    have e2 : decide (60 < q) = true := decide_eq_true h60
    have HH := Lib.hid h60
    clear h60
    go_wp2_with fail
    go_ret
    unfold PutO
    have hfull : full ((l.map CV.e).set i (⟨true, 0, d⟩ : CE)) = true := by
      rw [← HES.out]
      unfold full
      rw [HLEN.out, decide_eq_true HH.out]
      rfl
    exact if_pos hfull ▸ ⟨rfl, HF9.out⟩
  · have e1 : decide ((q : Int) > 60) = false := decide_eq_false (by omega)
    have e2 : decide (60 < q) = false := decide_eq_false h60
    have HH := Lib.hid h60
    clear h60
    go_wp2_with fail
    with_reducible refine HSIZE.out.mono ?_
    rintro e w5 ⟨rfl, hb5⟩
    have HB5 := Lib.hid hb5
    clear hb5
    by_cases h512 : 512 < z
    · have e3 : decide ((z : Int) > 512) = true := decide_eq_true (by omega)
      have e4 : decide (512 < z) = true := decide_eq_true h512
      have HH5 := Lib.hid h512
      clear h512
      go_wp2_with fail
      go_ret
      unfold PutO
      have hfull : full ((l.map CV.e).set i (⟨true, 0, d⟩ : CE)) = true := by
        rw [← HES.out]
        unfold full
        rw [← HZ.out, decide_eq_true HH5.out, Bool.or_true]
      exact if_pos hfull ▸ ⟨rfl, HF9.out.trans (Fr.of_below HB5.out No) fun _ hb => hb.elim⟩
    · have e3 : decide ((z : Int) > 512) = false := decide_eq_false (by omega)
      have e4 : decide (512 < z) = false := decide_eq_false h512
      have HH5 := Lib.hid h512
      clear h512
      go_wp2_with fail
      go_ret
      unfold PutO
      have hfull : full ((l.map CV.e).set i (⟨true, 0, d⟩ : CE)) = false := by
        rw [← HES.out]
        unfold full
        rw [← HZ.out, HLEN.out, decide_eq_false HH5.out, decide_eq_false HH.out]
        rfl
      have hb5 := Fr.of_below HB5.out No
      refine (if_neg (by show ¬ (full ((l.map CV.e).set i (⟨true, 0, d⟩ : CE)) = true); rw [hfull]; simp)) ▸ ⟨⟨1, ps, px, some ⟨g', 0, none⟩, q, pc, L⟩, S, T1, rfl, HB4.out.keep hb5 fun h => h, HPO4.out.keep hb5 (fun _ _ hn => hn) fun _ _ hn => hn, ?_, ⟨rfl, rfl, rfl⟩, HST.out.1, HST.out.2, HF9.out.trans hb5 fun _ hb => hb.elim, fun hw y hy => (HSOFT.out hw y hy).keep hb5 fun _ _ hn => hn⟩
      rw [HPE.out]; exact HES.out
end Go.Proofs.Ytajmpoanmdgmpaa
