/-
  THE WALK OF at.
-/
import Derived.Test.YtajmpoanmdgmpaaPG
import Derived.Test.YtajmpoanmdgmpaaPR
import Derived.Deep.QuietTactic
import Derived.BigQuiet
namespace Go.Proofs.Ytajmpoanmdgmpaa
open Go.RowKit

attribute [local go_sem high] run_neqL run_eqL
def CV.none_ : CV := ⟨false, 0, none, 0, 0, []⟩
def atC (l : List CV) (d : List Nat) : CV := (l.find? fun x => decide (x.d = d)).getD CV.none_
theorem atC_here {l : List CV} {d : List Nat} {k : Nat} {x : CV} (hx : l[k]? = some x) (hn : ∀ y ∈ l.take k, y.d ≠ d) (hd : x.d = d) : atC l d = x := by
  have hk : k < l.length := by
    rcases Nat.lt_or_ge k l.length with h' | h'
    · exact h'
    · rw [List.getElem?_eq_none h'] at hx; cases hx
  have e : l[k] = x := by rw [List.getElem?_eq_getElem hk] at hx; injection hx
  have h1 : l = l.take k ++ x :: l.drop (k + 1) := by
    rw [← e, ← List.drop_eq_getElem_cons hk, List.take_append_drop]
  unfold atC
  rw [h1, List.find?_append, List.find?_eq_none.2 (fun y hy => by simpa using hn y hy)]
  simp [hd]
theorem atC_no {l : List CV} {d : List Nat} (hn : ∀ y ∈ l, y.d ≠ d) : atC l d = CV.none_ := by
  unfold atC
  rw [List.find?_eq_none.2 (fun y hy => by simpa using hn y hy)]
  rfl
theorem atC_next {l : List CV} {d : List Nat} {k : Nat} {x : CV} (hx : l[k]? = some x) (hn : ∀ y ∈ l.take k, y.d ≠ d) (hd : x.d ≠ d) : ∀ y ∈ l.take (k + 1), y.d ≠ d := by
  have hk : k < l.length := by
    rcases Nat.lt_or_ge k l.length with h' | h'
    · exact h'
    · rw [List.getElem?_eq_none h'] at hx; cases hx
  have e : l[k] = x := by rw [List.getElem?_eq_getElem hk] at hx; injection hx
  intro y hy
  rw [List.take_succ_eq_append_getElem hk, e, List.mem_append, List.mem_singleton] at hy
  rcases hy with hy | rfl
  · exact hn y hy
  · exact hd
set_option maxHeartbeats 2000000 in
set_option maxRecDepth 100000 in
theorem at_any (p : PV) (w : World) (h : p.In w All All) (hf : Few p) (oA : Option Addr) (om oc : Nat) (od : List Nat) (hb : RB w All oA om od) : Calls Try.prog 37 #[p.agg, .slice oA om oc] w fun e w' => e = .returned (atC p.l od).agg ∧ Below w.heap.size w w' := by
  obtain ⟨W1, hW1, hBW1, hbx1, hsz1⟩ := box_page w p
  obtain ⟨W, hW⟩ : ∃ W, W1.alloc (.cells #[.bool false, .int .u32 0, .slice none 0 0] 58) = W := ⟨_, rfl⟩
  have hBW2 : Below W1.heap.size W1 W := by rw [← hW]; exact (Below.refl _ _).alloc (Nat.le_refl _) _
  have hbr : Blk W W1.heap.size 58 #[.bool false, .int .u32 0, .slice none 0 0] := by rw [← hW]; exact Blk.new _ _ _
  have hBW : Below w.heap.size w W := hBW1.trans (hBW2.mono hBW1.size)
  have hbx : Blk W w.heap.size 26 (pcs p) := hbx1.below hBW2 (by omega)
  have HP := Lib.hid (h.below hBW)
  have HOB : Hid (RB W All oA om od) := Lib.hid (hb.keep (Fr.of_below hBW No) fun _ _ hn => hn)
  have HBW := Lib.hid hBW
  have HBX := Lib.hid hbx
  have HBR := Lib.hid hbr
  have HL := Lib.hid h.r.1
  have HSZ1 := Lib.hid hsz1
  obtain ⟨y0, y1, y2, y3⟩ := pcs_cells hbx
  obtain ⟨pk, ps, px, A, n, c, l⟩ := p
  simp only at hW1 hW y0 y1 y2 y3
  simp only [PV.agg] at HL ⊢
  have hn3 : n ≤ 300 := hf.n
  clear h hf hb hBW1 hBW2 hbx1 hbx hbr hBW hsz1
  go_enter Try.func37, Try.ntmps37
  go_wp2_with fail
  go_loopw [5] (fun i wr => ∃ k : Nat, k ≤ n ∧ i = .int .i64 (k : Int) ∧ (∀ y ∈ l.take k, y.d ≠ od) ∧ Fr W wr No) (fun i _ => n - (intOf i).toNat)
  case atStart => exact ⟨0, by omega, rfl, by simp, Fr.refl _ _⟩
  case round =>
    obtain ⟨k, hk, rfl, hall, hfr⟩ := hrel
    have HA := Lib.hid hall
    have HFR := Lib.hid hfr
    have hwk : IntKind.i64.wrap (k : Int) = (k : Int) := IntWalk.i64_in _ (by omega)
    obtain ⟨y0, y1, y2, y3⟩ := pcs_cells (HBX.out.keep hfr fun hn => hn)
    have hbr := HBR.out.keep hfr fun hn => hn
    have HRR := Lib.hid hbr
    have r0 := hbr.cell 0
    have rz0 := hbr.frozen 0
    have r1 := hbr.cell 1
    have rz1 := hbr.frozen 1
    have r2 := hbr.cell 2
    have rz2 := hbr.frozen 2
    simp only [List.getElem?_toArray, List.getElem?_cons_zero, List.getElem?_cons_succ] at r0 r1 r2
    simp only at y0 y1 y2 y3
    have hcb : ∀ q, (convert 32 9 (.slice oA om oc)).run Try.prog (wr.drewN q) = .ok (.string (strOf od)) (wr.drewN q) := fun q => run_conv All oA om oc od _ (HOB.out.keep (hfr.drewN q) fun _ _ hn => hn)
    clear hall hfr hbr
    by_cases hlt : k < n
    · obtain ⟨g, o, x, rfl, hg, _, hx, hxi, b0, b1, b2⟩ := (HP.out.r.keep HFR.out (fun _ _ hn => hn) fun _ _ hn => hn).at_ hlt
      have HX := Lib.hid hx
      have hcx : ∀ q, (convert 32 9 (.slice x.A x.m x.c)).run Try.prog (wr.drewN q) = .ok (.string (strOf x.d)) (wr.drewN q) := fun q => run_conv All x.A x.m x.c x.d _ (hxi.b.keep ((Fr.refl wr No).drewN q) fun _ _ hn => hn)
      have hsq : seq x.d od = decide (x.d = od) := seq_iff hxi.b.lt HOB.out.lt
      have HXE := Lib.hid (rfl : x = x)
      obtain ⟨u, kk, xA, m, xc, d⟩ := x
      simp only at b0 b1 b2 hcx hsq
      have hWi : IntKind.i64.wrap ((k : Int) + 1) = ((k + 1 : Nat) : Int) := by rw [IntWalk.i64_in _ (by omega)]; omega
      have hin : ((k : Int) < (n : Int)) := by omega
      clear hx hxi
      by_cases q3 : d = od
      · have z3 : seq d od = true := by rw [hsq, decide_eq_true_eq]; exact q3
        have HN2 := Lib.hid (atC_here HX.out HA.out q3)
        clear q3 hsq
        go_wp2_with fail
        go_quiet (fail)
        go_wp2_with fail
        have hbg : ∀ q, Blk ((((wr.drewN q).setCell ⟨W1.heap.size, 0, none⟩ (.bool u)).setCell ⟨W1.heap.size, 1, none⟩ (.int .u32 (kk : Int))).setCell ⟨W1.heap.size, 2, none⟩ (.slice xA m xc)) W1.heap.size 58 #[.bool u, .int .u32 (kk : Int), .slice xA m xc] := fun q => ((((HRR.out.drewN q).set_ 0 _).set_ 1 _).set_ 2 _)
        have g0 := fun q => (hbg q).cell 0
        have g1 := fun q => (hbg q).cell 1
        have g2 := fun q => (hbg q).cell 2
        simp only [List.getElem?_toArray, List.getElem?_cons_zero, List.getElem?_cons_succ] at g0 g1 g2
        refine bodyPost_ret (v := .agg #[.bool u, .int .u32 (kk : Int), .slice xA m xc]) (by simp [results, Try.results37, go_sem, g0, g1, g2]) rfl ?_
        refine ⟨by rw [HN2.out]; rfl, HBW.out.trans (Fr.below (S := fun b => b = W1.heap.size) (fr_set (fr_set (fr_set ((HFR.out.drewN _).mono fun _ _ h => False.elim h) _ _) _ _) _ _) (fun b hb => ?_) HBW.out.size)⟩
        have := HSZ1.out
        omega
      · have z3 : seq d od = false := by rw [hsq, decide_eq_false_iff_not]; exact q3
        have HN2 := Lib.hid (atC_next HX.out HA.out q3)
        clear q3 hsq
        go_wp2_with fail
        go_quiet (fail)
        go_wp2_with fail
        go_roundw
        case rel => exact ⟨k + 1, by omega, by go_num, HN2.out, HFR.out.drewN _⟩
        case measure => simp [intOf]; omega
    · have h1d : decide ((k : Int) < (n : Int)) = false := decide_eq_false (by omega)
      have h1d2 : decide (k < n) = false := decide_eq_false hlt
      have HN := Lib.hid (show atC l od = CV.none_ from atC_no (by have := HA.out; rwa [List.take_of_length_le (by rw [HL.out]; omega)] at this))
      go_wp2
      have hbg : Blk (((wr.setCell ⟨W1.heap.size, 0, none⟩ (.bool false)).setCell ⟨W1.heap.size, 1, none⟩ (.int .u32 0)).setCell ⟨W1.heap.size, 2, none⟩ (.slice none 0 0)) W1.heap.size 58 #[.bool false, .int .u32 0, .slice none 0 0] := (((HRR.out.set_ 0 _).set_ 1 _).set_ 2 _)
      have g0 := hbg.cell 0
      have g1 := hbg.cell 1
      have g2 := hbg.cell 2
      simp only [List.getElem?_toArray, List.getElem?_cons_zero, List.getElem?_cons_succ] at g0 g1 g2
      refine bodyPost_ret (v := .agg #[.bool false, .int .u32 0, .slice none 0 0]) (by simp [results, Try.results37, go_sem, g0, g1, g2]) rfl ?_
      refine ⟨by rw [HN.out]; rfl, HBW.out.trans (Fr.below (S := fun b => b = W1.heap.size) (fr_set (fr_set (fr_set (HFR.out.mono fun _ _ h => False.elim h) _ _) _ _) _ _) (fun b hb => ?_) HBW.out.size)⟩
      have := HSZ1.out
      omega
end Go.Proofs.Ytajmpoanmdgmpaa
