/-
  THE WALK OF PageReads.
-/
import Derived.Test.YtajmpoanmdgmpaaPX
import Derived.Test.YtajmpoanmdgmpaaPY
import Derived.Test.YtajmpoanmdgmpaaPZ
import Derived.Test.YtajmpoanmdgmpaaOpenB
namespace Go.Proofs.Ytajmpoanmdgmpaa
open Go.RowKit

theorem dec_small (b : List Nat) (hb : ∀ x ∈ b, x < 256) : (decP b).es.length ≤ 300 ∧ ∀ cc ∈ (decP b).es, cc.d.length ≤ 2000 := by
  unfold decP
  split
  · rename_i h
    have hl : b.length = 512 := by
      unfold decOK at h
      simp only [Bool.and_eq_true, decide_eq_true_eq] at h
      exact h.1
    have h1 := rpage_len true (b.drop 4)
    have h2 := rpage_n true (b.drop 4) fun x hx => hb x (List.mem_of_mem_drop hx)
    refine ⟨by simp only; omega, fun cc hcc => ?_⟩
    have := rpage_le true (b.drop 4) cc hcc
    rw [List.length_drop] at this
    omega
  · exact ⟨Nat.zero_le _, fun cc hcc => by simp at hcc⟩
set_option maxRecDepth 100000 in
theorem spoil_none (pk : Int) (ps px c : Nat) (w : World) : Calls Try.prog 28 #[.agg #[.int .i64 pk, .int .u64 (ps : Int), .int .u32 (px : Int), .slice none 0 c]] w fun e w' => e = .returned (.tuple #[]) ∧ Fr w w' No := by
  obtain ⟨W, hW⟩ : ∃ W, w.alloc (.cells #[.int .i64 pk, .int .u64 (ps : Int), .int .u32 (px : Int), .slice none 0 c] 26) = W := ⟨_, rfl⟩
  have hbx : Blk W w.heap.size 26 #[.int .i64 pk, .int .u64 (ps : Int), .int .u32 (px : Int), .slice none 0 c] := by rw [← hW]; exact Blk.new w 26 _
  have hfW : Fr w W No := by rw [← hW]; exact (Fr.refl w No).alloc _
  have b3 := hbx.cell 3
  simp only [List.getElem?_toArray, List.getElem?_cons_zero, List.getElem?_cons_succ] at b3
  have HFW := Lib.hid hfW
  clear hbx hfW
  go_enter Try.func28, Try.ntmps28
  go_wp2_with fail
  go_loopw [2] (fun u wr => u = .int .i64 0 ∧ W = wr) (fun _ _ => 0)
  case atStart => exact ⟨rfl, rfl⟩
  case round =>
    obtain ⟨rfl, rfl⟩ := hrel
    go_wp2_with fail
    refine bodyPost_end (v := .tuple #[]) (by simp [results, Try.results28, go_sem]) rfl ?_
    exact ⟨rfl, HFW.out⟩
set_option maxRecDepth 100000 in
theorem spoil_page (q : PV) (w : World) (S T : Nat → Prop) (h : PO w S T q) (hn : q.n ≤ 1000) (hml : ∀ x ∈ q.l, x.m ≤ 140737488351232) (hwb : ∀ x ∈ q.l, WB w T x.A x.m) :
    Calls Try.prog 28 #[q.agg] w fun e w' => e = .returned (.tuple #[]) ∧ Fr w w' (fun b => S b ∨ T b) := by
  have hr := h.In.r
  have hlen := h.o.len
  obtain ⟨pk, ps, px, A, n, c, l⟩ := q
  simp only at hr hlen hn hml hwb
  simp only [PV.agg]
  have ho := h.o
  simp only at ho
  obtain ⟨⟨h1, h2⟩, h3, h4, h5⟩ := ho
  rcases h2 with ⟨e, h0⟩ | ⟨g, cap, cur, e, hg0, hh, hc, hm, hcur, htake⟩
  · injection e with e1 e2 e3
    subst e1 e2 e3
    exact (spoil_none pk ps px 0 w).mono fun e w' ⟨a, b⟩ => ⟨a, b.mono fun _ _ hn => hn.elim⟩
  · injection e with e1 e2 e3
    subst e1 e3
    have hgl := Blk.lt hh
    have hsp : SPl w w l g (fun b => T b ∧ b < w.heap.size) := by
      refine ⟨fun i x hi => ?_, fun j => Blk.frozen hh j, fun x hx => (hwb x hx).mono fun b hlt hb => ⟨hb, hlt⟩, Fr.refl _ _⟩
      have hil : i < l.length := by
        rcases Nat.lt_or_ge i l.length with h | h
        · exact h
        · rw [List.getElem?_eq_none h] at hi; cases hi
      obtain ⟨g', o, x', e', _, _, hx', _, a, b, c⟩ := hr.at_ (show i < n by omega)
      injection e' with e'
      injection e' with e1 e2
      subst e1 e2
      rw [hi] at hx'
      injection hx' with hx'
      subst hx'
      simp only [Nat.zero_add] at a b c
      exact ⟨x.u, x.k, a, b, c⟩
    refine (spoil_some pk ps px n c g l _ w hlen hn hml hgl (fun b hb => hb.2) (fun hb => h5 g rfl hb.1) hsp).mono fun e w' ⟨a, b⟩ => ⟨a, b.mono fun b _ hb => ?_⟩
    rcases hb with hb | hb
    · rw [hb]; exact Or.inl (h4 g rfl)
    · exact Or.inr hb.1
end Go.Proofs.Ytajmpoanmdgmpaa
namespace Go.Proofs.Ytajmpoanmdgmpaa.pageReads
open Go.RowKit

attribute [local go_sem high] run_neqL run_eqL
set_option maxHeartbeats 4000000 in
set_option maxRecDepth 100000 in
theorem walked (A : Option Addr) (n c : Nat) (l : List Nat) (w : World) (h : InB w A n c l) : Calls Try.prog 5 #[.slice A n c] w fun e w' => e = .returned (.bool true) ∧ Below w.heap.size w w' := by
  have HI := Lib.hid h
  have HCP := Lib.hid (copy_any w _ A n c l h.1 h.2.2.1)
  have HAL := Lib.hid (fun W' => alive_any W')
  clear h
  go_enter Try.func5, Try.ntmps5
  go_wp2_with fail
  with_reducible refine HCP.out.mono ?_
  rintro e w1 ⟨v1, rfl, ho1, hb1⟩
  obtain ⟨n1, hn1⟩ : ∃ n1, n1 = l.length := ⟨_, rfl⟩
  rw [← hn1] at ho1
  obtain ⟨A1, c1, rfl, hc1, _, hr1⟩ := ho1.reads
  have HB1 := Lib.hid hb1
  have HR1 := Lib.hid (hr1.mono (T := fun b => w.heap.size ≤ b ∧ b < w1.heap.size) fun b hlt hb => ⟨hb, hlt⟩)
  have HC1 := Lib.hid hc1
  have HDE := Lib.hid (decode_soft w1 A n c l ((HI.out.1.keep (Fr.of_below hb1 No) fun _ _ hn => hn).mono fun _ _ _ => trivial) HI.out.2.1)
  clear ho1 hb1 hr1 hc1 hn1
  go_wp2_with fail
  with_reducible refine HDE.out.mono ?_
  rintro e w2 ⟨q, rfl, S, T, hpo, hS, hT, hb2, hq, hwb⟩
  cases hdk : decOK l with
  | true =>
    simp only [if_true]
    have HDK := Lib.hid hdk
    clear hdk
    obtain ⟨W3, hW3, hB3, hbx3, hsz3⟩ := box_page w2 q
    have HPO := Lib.hid (hpo.keep (Fr.of_below hB3 No) (fun _ _ hn => hn) fun _ _ hn => hn)
    have HWB := Lib.hid (fun x hx => (hwb x hx).keep (Fr.of_below hB3 No) fun _ _ hn => hn)
    have HST := Lib.hid (show (∀ b, S b → w1.heap.size ≤ b) ∧ (∀ b, T b → w1.heap.size ≤ b) from ⟨hS, hT⟩)
    have HQ := Lib.hid hq
    have HB13 := Lib.hid (hb2.trans (hB3.mono hb2.size))
    have HBX := Lib.hid hbx3
    have HRD := Lib.hid (rdecode_any W3 A1 n1 c1 l ((HR1.out.keep (Fr.of_below HB13.out No) fun _ _ hn => hn).mono fun _ _ _ => trivial) HC1.out)
    clear hpo hS hT hb2 hq hwb hB3 hbx3 hsz3
    have HQA := Lib.hid (show q.agg = .agg #[.int .i64 q.k, .int .u64 (q.s : Int), .int .u32 (q.x : Int), .slice q.A q.n q.c] from rfl)
    rw [HQA.out]
    go_wp2_with fail
    with_reducible refine HRD.out.mono ?_
    rintro e w4 ⟨r, rfl, S2, T2, hpo2, hS2, hT2, hb4, hr⟩
    obtain ⟨W5, hW5, hB5, hbx5, hsz5⟩ := box_page w4 r
    have HB35 := Lib.hid (hb4.trans (hB5.mono hb4.size))
    have hpo5 : PO W5 S T q := HPO.out.keep (Fr.of_below HB35.out No) (fun _ _ hn => hn) fun _ _ hn => hn
    have hri : r.In W5 All All := hpo2.In.all.below hB5
    have hsame : sameP q r = true := by
      unfold sameP
      rw [HQ.out.1, HQ.out.2.1, HQ.out.2.2.1, HQ.out.2.2.2, hr.1, hr.2.1, hr.2.2.1, hr.2.2.2]
      simp
    have hsa := same_any q r W5 hpo5.In.all hri
    rw [hsame] at hsa
    have HSA := Lib.hid hsa
    have HBX5 := Lib.hid (HBX.out.below HB35.out HBX.out.lt)
    obtain ⟨y0, y1, y2, y3⟩ := pcs_cells HBX5.out
    obtain ⟨t0, t1, t2, t3⟩ := pcs_cells hbx5
    have HDFEW := Lib.hid (show q.n ≤ 1000 ∧ ∀ x ∈ q.l, x.m ≤ 140737488351232 by
      have h1 := dec_small l HI.out.1.lt
      have h2 := HPO.out.In.len
      rw [HQ.out.2.2.2] at h2
      refine ⟨by omega, fun x hx => ?_⟩
      have h3 := (HPO.out.In.r.2.1 x hx).len
      have h4 := h1.2 x.e (by rw [← HQ.out.2.2.2]; exact List.mem_map_of_mem hx)
      have h5 : x.e.d = x.d := rfl
      rw [h5] at h4
      omega)
    have HPO5 := Lib.hid hpo5
    have HWB5 := Lib.hid (fun x hx => (HWB.out x hx).keep (Fr.of_below HB35.out No) fun _ _ hn => hn)
    rw [HDK.out]
    clear hpo2 hS2 hT2 hb4 hr hB5 hbx5 hsz5 hpo5 hri hsame hsa
    obtain ⟨qk, qs, qx, qA, qn, qc, ql⟩ := q
    obtain ⟨rk, rs, rx, rA, rn, rc, rl⟩ := r
    simp only at hW3 hW5 y0 y1 y2 y3 t0 t1 t2 t3
    simp only [PV.agg] at HSA
    simp only [PV.agg]
    go_wp2_with fail
    with_reducible refine HSA.out.mono ?_
    rintro e w6 ⟨rfl, hb6⟩
    have HB56 := Lib.hid hb6
    have hpo6 : PO w6 S T ⟨qk, qs, qx, qA, qn, qc, ql⟩ := HPO5.out.keep (Fr.of_below hb6 No) (fun _ _ hn => hn) fun _ _ hn => hn
    have HSP := Lib.hid (spoil_page ⟨qk, qs, qx, qA, qn, qc, ql⟩ w6 S T hpo6 HDFEW.out.1 HDFEW.out.2 fun x hx => (HWB5.out x hx).keep (Fr.of_below hb6 No) fun _ _ hn => hn)
    obtain ⟨y0, y1, y2, y3⟩ := pcs_cells (HBX5.out.below hb6 HBX5.out.lt)
    simp only at y0 y1 y2 y3
    simp only [PV.agg] at HSP
    clear hb6 hpo6 t0 t1 t2 t3
    go_wp2_with fail
    with_reducible refine HSP.out.mono ?_
    rintro e w7 ⟨rfl, hf7⟩
    have HF17 : Hid (Fr w1 w7 (fun b => S b ∨ T b)) := Lib.hid (((Fr.of_below HB13.out _).trans (Fr.of_below HB35.out No) fun _ hb => hb.elim).trans (Fr.of_below HB56.out No) (fun _ hb => hb.elim) |>.trans hf7 fun b hb => Or.inl hb)
    have HNT : Hid (∀ b, b < w1.heap.size → ¬ (S b ∨ T b)) := fun b hb h => by
      rcases h with h | h
      · have := HST.out.1 b h; omega
      · have := HST.out.2 b h; omega
    have hr7 : RB w7 (fun b => w.heap.size ≤ b ∧ b < w1.heap.size) A1 n1 l := HR1.out.keep HF17.out fun b hb h => HNT.out b hb.2 h
    have hi7 : RB w7 (fun b => b < w.heap.size) A n l := (HI.out.1.keep (Fr.of_below HB1.out No) fun _ _ hn => hn).keep HF17.out fun b hb h => HNT.out b (by have := HB1.out.size; omega) h
    have hcv1 := run_conv _ A n c l w7 hi7
    have hcv2 := run_conv _ A1 n1 c1 l w7 hr7
    have hse : seq l l = true := by simp [seq]
    have HB7 := Lib.hid (HB1.out.trans (HF17.out.below (B := w.heap.size) (fun b hb => by
      have h1 := HB1.out.size
      rcases hb with hb | hb
      · have := HST.out.1 b hb; omega
      · have := HST.out.2 b hb; omega) HB1.out.size))
    clear hf7 hr7 hi7 y0 y1 y2 y3
    go_wp2_with fail
    refine (HAL.out _).mono ?_
    rintro e w8 ⟨rfl, hb8⟩
    have HB8 := Lib.hid (HB7.out.trans (hb8.mono HB7.out.size))
    clear hb8
    go_wp2_with fail
    go_ret
    exact ⟨rfl, HB8.out⟩
  | false =>
    simp only [Bool.false_eq_true, if_false]
    have HDK := Lib.hid hdk
    clear hdk
    obtain ⟨W3, hW3, hB3, hbx3, hsz3⟩ := box_page w2 q
    have HPO := Lib.hid (hpo.keep (Fr.of_below hB3 No) (fun _ _ hn => hn) fun _ _ hn => hn)
    have HWB := Lib.hid (fun x hx => (hwb x hx).keep (Fr.of_below hB3 No) fun _ _ hn => hn)
    have HST := Lib.hid (show (∀ b, S b → w1.heap.size ≤ b) ∧ (∀ b, T b → w1.heap.size ≤ b) from ⟨hS, hT⟩)
    have HQ := Lib.hid hq
    have HB13 := Lib.hid (hb2.trans (hB3.mono hb2.size))
    have HBX := Lib.hid hbx3
    have HRD := Lib.hid (rdecode_any W3 A1 n1 c1 l ((HR1.out.keep (Fr.of_below HB13.out No) fun _ _ hn => hn).mono fun _ _ _ => trivial) HC1.out)
    clear hpo hS hT hb2 hq hwb hB3 hbx3 hsz3
    have HQA := Lib.hid (show q.agg = .agg #[.int .i64 q.k, .int .u64 (q.s : Int), .int .u32 (q.x : Int), .slice q.A q.n q.c] from rfl)
    rw [HQA.out]
    go_wp2_with fail
    with_reducible refine HRD.out.mono ?_
    rintro e w4 ⟨r, rfl, S2, T2, hpo2, hS2, hT2, hb4, hr⟩
    obtain ⟨W5, hW5, hB5, hbx5, hsz5⟩ := box_page w4 r
    have HB35 := Lib.hid (hb4.trans (hB5.mono hb4.size))
    have hpo5 : PO W5 S T q := HPO.out.keep (Fr.of_below HB35.out No) (fun _ _ hn => hn) fun _ _ hn => hn
    have hri : r.In W5 All All := hpo2.In.all.below hB5
    have hsame : sameP q r = true := by
      unfold sameP
      rw [HQ.out.1, HQ.out.2.1, HQ.out.2.2.1, HQ.out.2.2.2, hr.1, hr.2.1, hr.2.2.1, hr.2.2.2]
      simp
    have hsa := same_any q r W5 hpo5.In.all hri
    rw [hsame] at hsa
    have HSA := Lib.hid hsa
    have HBX5 := Lib.hid (HBX.out.below HB35.out HBX.out.lt)
    obtain ⟨y0, y1, y2, y3⟩ := pcs_cells HBX5.out
    obtain ⟨t0, t1, t2, t3⟩ := pcs_cells hbx5
    have HDFEW := Lib.hid (show q.n ≤ 1000 ∧ ∀ x ∈ q.l, x.m ≤ 140737488351232 by
      have h1 := dec_small l HI.out.1.lt
      have h2 := HPO.out.In.len
      rw [HQ.out.2.2.2] at h2
      refine ⟨by omega, fun x hx => ?_⟩
      have h3 := (HPO.out.In.r.2.1 x hx).len
      have h4 := h1.2 x.e (by rw [← HQ.out.2.2.2]; exact List.mem_map_of_mem hx)
      have h5 : x.e.d = x.d := rfl
      rw [h5] at h4
      omega)
    have HPO5 := Lib.hid hpo5
    have HWB5 := Lib.hid (fun x hx => (HWB.out x hx).keep (Fr.of_below HB35.out No) fun _ _ hn => hn)
    rw [HDK.out]
    clear hpo2 hS2 hT2 hb4 hr hB5 hbx5 hsz5 hpo5 hri hsame hsa
    obtain ⟨qk, qs, qx, qA, qn, qc, ql⟩ := q
    obtain ⟨rk, rs, rx, rA, rn, rc, rl⟩ := r
    simp only at hW3 hW5 y0 y1 y2 y3 t0 t1 t2 t3
    simp only [PV.agg] at HSA
    simp only [PV.agg]
    go_wp2_with fail
    with_reducible refine HSA.out.mono ?_
    rintro e w6 ⟨rfl, hb6⟩
    have HB56 := Lib.hid hb6
    have hpo6 : PO w6 S T ⟨qk, qs, qx, qA, qn, qc, ql⟩ := HPO5.out.keep (Fr.of_below hb6 No) (fun _ _ hn => hn) fun _ _ hn => hn
    have HSP := Lib.hid (spoil_page ⟨qk, qs, qx, qA, qn, qc, ql⟩ w6 S T hpo6 HDFEW.out.1 HDFEW.out.2 fun x hx => (HWB5.out x hx).keep (Fr.of_below hb6 No) fun _ _ hn => hn)
    obtain ⟨y0, y1, y2, y3⟩ := pcs_cells (HBX5.out.below hb6 HBX5.out.lt)
    simp only at y0 y1 y2 y3
    simp only [PV.agg] at HSP
    clear hb6 hpo6 t0 t1 t2 t3
    go_wp2_with fail
    with_reducible refine HSP.out.mono ?_
    rintro e w7 ⟨rfl, hf7⟩
    have HF17 : Hid (Fr w1 w7 (fun b => S b ∨ T b)) := Lib.hid (((Fr.of_below HB13.out _).trans (Fr.of_below HB35.out No) fun _ hb => hb.elim).trans (Fr.of_below HB56.out No) (fun _ hb => hb.elim) |>.trans hf7 fun b hb => Or.inl hb)
    have HNT : Hid (∀ b, b < w1.heap.size → ¬ (S b ∨ T b)) := fun b hb h => by
      rcases h with h | h
      · have := HST.out.1 b h; omega
      · have := HST.out.2 b h; omega
    have hr7 : RB w7 (fun b => w.heap.size ≤ b ∧ b < w1.heap.size) A1 n1 l := HR1.out.keep HF17.out fun b hb h => HNT.out b hb.2 h
    have hi7 : RB w7 (fun b => b < w.heap.size) A n l := (HI.out.1.keep (Fr.of_below HB1.out No) fun _ _ hn => hn).keep HF17.out fun b hb h => HNT.out b (by have := HB1.out.size; omega) h
    have hcv1 := run_conv _ A n c l w7 hi7
    have hcv2 := run_conv _ A1 n1 c1 l w7 hr7
    have hse : seq l l = true := by simp [seq]
    have HB7 := Lib.hid (HB1.out.trans (HF17.out.below (B := w.heap.size) (fun b hb => by
      have h1 := HB1.out.size
      rcases hb with hb | hb
      · have := HST.out.1 b hb; omega
      · have := HST.out.2 b hb; omega) HB1.out.size))
    clear hf7 hr7 hi7 y0 y1 y2 y3
    go_wp2_with fail
    refine (HAL.out _).mono ?_
    rintro e w8 ⟨rfl, hb8⟩
    have HB8 := Lib.hid (HB7.out.trans (hb8.mono HB7.out.size))
    clear hb8
    go_wp2_with fail
    go_ret
    exact ⟨rfl, HB8.out⟩
end Go.Proofs.Ytajmpoanmdgmpaa.pageReads
