/-
  THE WALK OF PageDoes.
-/
import Derived.Test.YtajmpoanmdgmpaaV
namespace Go.Proofs.Ytajmpoanmdgmpaa.pageDoes
open Go.RowKit

set_option maxRecDepth 100000 in
theorem spoil_none (pk : Int) (ps px c : Nat) (w : World) : Calls Try.prog 28 #[.agg #[.int .i64 pk, .int .u64 (ps : Int), .int .u32 (px : Int), .slice none 0 c]] w fun e w' => e = .returned (.tuple #[]) ∧ Fr w w' No := by
  obtain ⟨W, hW⟩ : ∃ W, w.alloc (.cells #[.int .i64 pk, .int .u64 (ps : Int), .int .u32 (px : Int), .slice none 0 c] 26) = W := ⟨_, rfl⟩
  have hbx : Blk W w.heap.size 26 #[.int .i64 pk, .int .u64 (ps : Int), .int .u32 (px : Int), .slice none 0 c] := by rw [← hW]; exact Blk.new w 26 _
  have hfW : Fr w W No := by rw [← hW]; exact (Fr.refl w No).alloc _
  have b3 := hbx.cell 3
  simp only [List.getElem?_toArray, List.getElem?_cons_zero, List.getElem?_cons_succ] at b3
  have HFW := Lib.hid hfW
  clear hbx hfW
  go_enter Try.func28, Try.ntmps28
  go_wp2_with fail
  go_loopw [2] (fun u wr => u = .int .i64 0 ∧ W = wr) (fun _ _ => 0)
  case atStart => exact ⟨rfl, rfl⟩
  case round =>
    obtain ⟨rfl, rfl⟩ := hrel
    go_wp2_with fail
    refine bodyPost_end (v := .tuple #[]) (by simp [results, Try.results28, go_sem]) rfl ?_
    exact ⟨rfl, HFW.out⟩
set_option maxRecDepth 100000 in
theorem spoil_page (q : PV) (w : World) (S T : Nat → Prop) (h : PO w S T q) (hn : q.n ≤ 1000) (hml : ∀ x ∈ q.l, x.m ≤ 140737488351232) (hwb : ∀ x ∈ q.l, WB w T x.A x.m) :
    Calls Try.prog 28 #[q.agg] w fun e w' => e = .returned (.tuple #[]) ∧ Fr w w' (fun b => S b ∨ T b) := by
  have hr := h.In.r
  have hlen := h.o.len
  obtain ⟨pk, ps, px, A, n, c, l⟩ := q
  simp only at hr hlen hn hml hwb
  simp only [PV.agg]
  have ho := h.o
  simp only at ho
  obtain ⟨⟨h1, h2⟩, h3, h4, h5⟩ := ho
  rcases h2 with ⟨e, h0⟩ | ⟨g, cap, cur, e, hg0, hh, hc, hm, hcur, htake⟩
  · injection e with e1 e2 e3
    subst e1 e2 e3
    exact (spoil_none pk ps px 0 w).mono fun e w' ⟨a, b⟩ => ⟨a, b.mono fun _ _ hn => hn.elim⟩
  · injection e with e1 e2 e3
    subst e1 e3
    have hgl := Blk.lt hh
    have hsp : SPl w w l g (fun b => T b ∧ b < w.heap.size) := by
      refine ⟨fun i x hi => ?_, fun j => Blk.frozen hh j, fun x hx => (hwb x hx).mono fun b hlt hb => ⟨hb, hlt⟩, Fr.refl _ _⟩
      have hil : i < l.length := by
        rcases Nat.lt_or_ge i l.length with h | h
        · exact h
        · rw [List.getElem?_eq_none h] at hi; cases hi
      obtain ⟨g', o, x', e', _, _, hx', _, a, b, c⟩ := hr.at_ (show i < n by omega)
      injection e' with e'
      injection e' with e1 e2
      subst e1 e2
      rw [hi] at hx'
      injection hx' with hx'
      subst hx'
      simp only [Nat.zero_add] at a b c
      exact ⟨x.u, x.k, a, b, c⟩
    refine (spoil_some pk ps px n c g l _ w hlen hn hml hgl (fun b hb => hb.2) (fun hb => h5 g rfl hb.1) hsp).mono fun e w' ⟨a, b⟩ => ⟨a, b.mono fun b _ hb => ?_⟩
    rcases hb with hb | hb
    · rw [hb]; exact Or.inl (h4 g rfl)
    · exact Or.inr hb.1
theorem RB_of_Ow {w : World} {S : Nat → Prop} {A : Option Addr} {n c : Nat} {l : List Nat} {m : Nat} (h : Ow w S (.slice A n c) m l) : RB w S A m l := by
  obtain ⟨A', c', e, _, _, hr⟩ := h.reads
  injection e with e1 _ _
  rw [e1]
  exact hr
theorem sameP_of {p q : PV} (h1 : p.k = q.k) (h2 : p.s = q.s) (h3 : p.x = q.x) (h4 : p.es = q.es) : sameP p q = true := by
  unfold sameP
  rw [h1, h2, h3, h4]
  simp
theorem few_may {k : Int} {p : PV} {w : World} (h : may k p.es = true) (hi : p.In w All All) : Few p := by
  have h1 := may_iff.1 h
  have h2 := hi.len
  refine ⟨by omega, fun x hx => ?_⟩
  have h3 := (hi.r.2.1 x hx).len
  have h4 := List.all_eq_true.1 h1.2.1 x.e (List.mem_map_of_mem hx)
  have h5 : x.e.d = x.d := rfl
  unfold cmay at h4
  split at h4
  · simp only [Bool.and_eq_true, decide_eq_true_eq] at h4
    rw [h5] at h4
    omega
  · simp only [Bool.and_eq_true, beq_iff_eq] at h4
    rw [h5] at h4
    omega
attribute [local go_sem high] run_neqL run_eqL
set_option maxHeartbeats 20000000 in
set_option maxRecDepth 100000 in
theorem walked (p : PV) (A : Option Addr) (n c : Nat) (l : List OV) (w : World) (hp : p.In w All All) (hl : OR w A n l) : Calls Try.prog 6 #[p.agg, .slice A n c] w fun e w' => e = .returned (.bool true) ∧ Below w.heap.size w w' := by
  obtain ⟨W, hW, hBW, hbx, hsz⟩ := box_page w p
  obtain ⟨y0, y1, y2, y3⟩ := pcs_cells hbx
  have HL := Lib.hid hl
  have HLO := Lib.hid (long_any p W (hp.below hBW))
  have HAL := Lib.hid (fun W' => alive_any W')
  have HP := Lib.hid (hp.below hBW)
  have HBW := Lib.hid hBW
  have HBX := Lib.hid hbx
  have HSZ := Lib.hid hsz
  obtain ⟨pk, ps, px, pA, pn, pc, pl⟩ := p
  simp only at hW y0 y1 y2 y3
  simp only [PV.agg] at HLO ⊢
  clear hp hl hBW hbx hsz
  go_enter Try.func6, Try.ntmps6
  go_wp2_with fail
  refine HLO.out.mono ?_
  rintro e w1 ⟨b, rfl, hb1, hfew⟩
  have HB1 := Lib.hid (HBW.out.trans (hb1.mono HBW.out.size))
  have HBX1 := Lib.hid (HBX.out.below hb1 HBX.out.lt)
  have HP1 := Lib.hid (HP.out.below hb1)
  clear hb1
  cases b with
  | true =>
    clear hfew
    go_wp2_with fail
    refine (HAL.out _).mono ?_
    rintro e wz ⟨rfl, hbz⟩
    have HBZ := Lib.hid (HB1.out.trans (hbz.mono HB1.out.size))
    clear hbz
    go_wp2_with fail
    go_ret
    exact ⟨rfl, HBZ.out⟩
  | false =>
    have HF := Lib.hid (hfew rfl)
    clear hfew
    by_cases hn3 : 300 < n
    · have d1 : decide ((n : Int) > 300) = true := decide_eq_true (by omega)
      have d2 : decide (300 < n) = true := decide_eq_true hn3
      clear hn3
      go_wp2_with fail
      refine (HAL.out _).mono ?_
      rintro e wz ⟨rfl, hbz⟩
      have HBZ := Lib.hid (HB1.out.trans (hbz.mono HB1.out.size))
      clear hbz
      go_wp2_with fail
      go_ret
      exact ⟨rfl, HBZ.out⟩
    · have d1 : decide ((n : Int) > 300) = false := decide_eq_false (by omega)
      have d2 : decide (300 < n) = false := decide_eq_false hn3
      go_wp2_with fail
      go_loopw [5] (fun i wr => ∃ (q : Nat) (p : PV), q ≤ n ∧ i = .int .i64 (q : Int) ∧ Blk wr w.heap.size 26 (pcs p) ∧ p.In wr All All ∧ Few p ∧ Below w.heap.size w wr) (fun i _ => n - (intOf i).toNat)
      case atStart => exact ⟨0, _, by omega, rfl, HBX1.out, HP1.out, HF.out, HB1.out⟩
      case round =>
        obtain ⟨q, p, hq, rfl, hbp, hpi, hpf, hbw⟩ := hrel
        clear HB1 HBX1 HP1 HF HP HBX HLO y0 y1 y2 y3
        have HB1 := Lib.hid hbw
        by_cases hlt : q < n
        · have HPI : Hid (PV.In wr (fun b => b < wr.heap.size) (fun b => b < wr.heap.size) p) := Lib.hid (hpi.mono (fun _ hlt _ => hlt) fun _ hlt _ => hlt)
          have HPF := Lib.hid hpf
          have HBP := Lib.hid hbp
          have hWi : IntKind.i64.wrap ((q : Int) + 1) = ((q + 1 : Nat) : Int) := by rw [IntWalk.i64_in _ (by omega)]; omega
          have hin : ((q : Int) < (n : Int)) := by omega
          have hwq : IntKind.i64.wrap (q : Int) = (q : Int) := IntWalk.i64_in _ (by omega)
          obtain ⟨g, o, x, hA, hg, hx, _, hxm, _, _, _, _⟩ := HL.out.at_ hlt
          subst hA
          have HX := Lib.hid hx
          have HXM := Lib.hid hxm
          have HGL := Lib.hid hg
          have hrow : ∀ W', Below w.heap.size w W' → x.In W' All ∧ W'.cell? ⟨g, o + q * 4, none⟩ = some (.int .i64 x.k) ∧ W'.cell? ⟨g, o + q * 4 + 1, none⟩ = some (.int .i64 x.s) ∧ W'.cell? ⟨g, o + q * 4 + 2, none⟩ = some (.int .u32 (x.t : Int)) ∧ W'.cell? ⟨g, o + q * 4 + 3, none⟩ = some (.slice x.A x.m x.c) := fun W' hW' => by
            obtain ⟨g', o', x', e', _, hx', hxi', _, k0, k1, k2, k3⟩ := (HL.out.below hW').at_ hlt
            injection e' with e'
            injection e' with e1 e2
            subst e1 e2
            rw [HX.out] at hx'
            injection hx' with hx'
            subst hx'
            exact ⟨hxi', k0, k1, k2, k3⟩
          have HROW := Lib.hid hrow
          obtain ⟨R, hR⟩ : ∃ R, R = DoM p.k p.es x.k x.s x.t x.m x.d := ⟨_, rfl⟩
          have HR := Lib.hid hR
          have HCP := Lib.hid (copyPage_any p _ HPI.out.all HPF.out)
          obtain ⟨y0, y1, y2, y3⟩ := pcs_cells hbp
          obtain ⟨xk, xs, xt, xA, xm, xc, xd⟩ := x
          obtain ⟨pk, ps, px, pA, pn, pc, pl⟩ := p
          simp only at y0 y1 y2 y3 HROW HXM
          simp only [PV.agg] at HCP
          obtain ⟨b0, b1, b2, b3⟩ := (HROW.out _ HB1.out).2
          clear hbp hpi hpf hbw hx hxm hg hrow hR
          go_wp2_with fail
          refine HCP.out.mono ?_
          rintro e wc ⟨was, S1, T1, rfl, hpo1, hS1, hT1, hes1, hk1, hs1, hx1, hn1, hbc⟩
          obtain ⟨D1, hD1, hBD1, hbxD1, hszD1⟩ := box_page wc was
          have hfr1 := (Fr.of_below (hbc.trans (hBD1.mono hbc.size)) No)
          have HWS1 : Hid (PO D1 (fun b => S1 b ∧ b < wc.heap.size) (fun b => T1 b ∧ b < wc.heap.size) was) := Lib.hid (hpo1.tight.keep (Fr.of_below hBD1 No) (fun _ _ hn => hn) fun _ _ hn => hn)
          have HST1 := Lib.hid (show (∀ b, S1 b → wr.heap.size ≤ b) ∧ ∀ b, T1 b → wr.heap.size ≤ b from ⟨hS1, hT1⟩)
          have HE1 := Lib.hid (show was.es = PV.es ⟨pk, ps, px, pA, pn, pc, pl⟩ ∧ was.k = pk ∧ was.s = ps ∧ was.x = px ∧ was.n = pn from ⟨hes1, hk1, hs1, hx1, hn1⟩)
          have HSZ1 := Lib.hid (show w.heap.size < wr.heap.size ∧ wr.heap.size ≤ wc.heap.size ∧ D1.heap.size = wc.heap.size + 1 from ⟨HBP.out.lt, hbc.size, hszD1⟩)
          have HBWS1 := Lib.hid hbxD1
          have HBP1 := Lib.hid (HBP.out.keep (hfr1) fun h => h)
          have HPI1 := Lib.hid (HPI.out.keep (hfr1) (fun _ _ hn => hn) fun _ _ hn => hn)
          have HB2 := Lib.hid (HB1.out.trans ((hbc.trans (hBD1.mono hbc.size)).mono HB1.out.size))
          have HCO := Lib.hid (copyOp_long ⟨xk, xs, xt, xA, xm, xc, xd⟩ D1 (HROW.out D1 HB2.out).1 HXM.out)
          obtain ⟨b0, b1, b2, b3⟩ := (HROW.out D1 HB2.out).2
          simp only [OV.agg] at HCO
          clear hpo1 hS1 hT1 hes1 hk1 hs1 hx1 hn1 hbc hBD1 hbxD1 hszD1 hfr1 y0 y1 y2 y3
          go_wp2_with fail
          refine HCO.out.mono ?_
          rintro e w2 ⟨B, cb, rfl, hob, hmcb, hnzb, hb2⟩
          obtain ⟨D2, hD2, hBD2, hbxD2, hszD2⟩ := box_op w2 ⟨xk, xs, xt, B, xm, cb, xd⟩
          have hfr2 := (Fr.of_below (hb2.trans (hBD2.mono hb2.size)) No)
          have HOC2 : Hid (Ow D2 (fun b => D1.heap.size ≤ b ∧ b < w2.heap.size) (.slice B xm cb) xm xd) := Lib.hid ((hob.mono (T := fun b => D1.heap.size ≤ b ∧ b < w2.heap.size) fun b hlt hb => ⟨hb, hlt⟩).keep (Fr.of_below hBD2 No) fun _ _ hn => hn)
          have HSZ2 := Lib.hid (show D1.heap.size ≤ w2.heap.size ∧ D2.heap.size = w2.heap.size + 1 from ⟨hb2.size, hszD2⟩)
          have HBO2 := Lib.hid hbxD2
          have HBP2 := Lib.hid (HBP1.out.keep (hfr2) fun h => h)
          have HPI2 := Lib.hid (HPI1.out.keep (hfr2) (fun _ _ hn => hn) fun _ _ hn => hn)
          have HBWS2 := Lib.hid (HBWS1.out.keep (hfr2) fun h => h)
          have HWS2 := Lib.hid (HWS1.out.keep (hfr2) (fun _ _ hn => hn) fun _ _ hn => hn)
          have HB3 := Lib.hid (HB2.out.trans ((hb2.trans (hBD2.mono hb2.size)).mono HB2.out.size))
          have hxi2 := (HROW.out D2 HB3.out).1
          have hoc2 : OV.In D2 All ⟨xk, xs, xt, B, xm, cb, xd⟩ := ⟨(RB_of_Ow HOC2.out).mono fun _ _ _ => trivial, hxi2.k1, hxi2.k2, hxi2.s1, hxi2.s2, hxi2.t, hmcb, hxi2.ml, hnzb⟩
          have HOI2 := Lib.hid hoc2
          have hdo := Do_soft D2 ⟨pk, ps, px, pA, pn, pc, pl⟩ HPI2.out.all HPF.out ⟨xk, xs, xt, B, xm, cb, xd⟩ hoc2
          rw [show DoM (PV.k ⟨pk, ps, px, pA, pn, pc, pl⟩) (PV.es ⟨pk, ps, px, pA, pn, pc, pl⟩) xk xs xt xm xd = R from HR.out.symm] at hdo
          simp only [PV.agg, OV.agg] at hdo
          have HDO := Lib.hid hdo
          obtain ⟨y0, y1, y2, y3⟩ := pcs_cells HBP2.out
          obtain ⟨t0, t1, t2, t3⟩ := ocs_cells HBO2.out
          simp only at y0 y1 y2 y3 t0 t1 t2 t3 hD2
          clear hob hmcb hnzb hb2 hBD2 hbxD2 hszD2 hfr2 hxi2 hoc2 hdo b0 b1 b2 b3
          go_wp2_with fail
          refine HDO.out.mono ?_
          rintro e w3 ⟨z, S, T, rfl, hpoz, hSz, hTz, hb3, hz0, hzz, hwbz⟩
          obtain ⟨D3, hD3, hBD3, hbxD3, hszD3⟩ := box_page w3 z
          have hfr3 := (Fr.of_below (hb3.trans (hBD3.mono hb3.size)) No)
          have HQ3 : Hid (PO D3 (fun b => S b ∧ b < w3.heap.size) (fun b => T b ∧ b < w3.heap.size) z) := Lib.hid (hpoz.tight.keep (Fr.of_below hBD3 No) (fun _ _ hn => hn) fun _ _ hn => hn)
          have HWB3 : Hid (∀ y ∈ z.l, WB D3 (fun b => T b ∧ b < w3.heap.size) y.A y.m) := Lib.hid (fun y hy => ((hwbz y hy).mono (T := fun b => T b ∧ b < w3.heap.size) fun b hlt hb => ⟨hb, hlt⟩).keep (Fr.of_below hBD3 No) fun _ _ hn => hn)
          have HST3 := Lib.hid (show (∀ b, S b → D2.heap.size ≤ b) ∧ ∀ b, T b → D2.heap.size ≤ b from ⟨hSz, hTz⟩)
          have HE3 := Lib.hid (show (R.1 = 0 → z.es = R.2 ∧ z.k = pk ∧ z.s = ps ∧ z.x = px) ∧ (R.1 ≠ 0 → z = PV.zero) from ⟨hz0, hzz⟩)
          have HSZ3 := Lib.hid (show D2.heap.size ≤ w3.heap.size ∧ D3.heap.size = w3.heap.size + 1 from ⟨hb3.size, hszD3⟩)
          have HBQ3 := Lib.hid hbxD3
          have HBP3 := Lib.hid (HBP2.out.keep (hfr3) fun h => h)
          have HPI3 := Lib.hid (HPI2.out.keep (hfr3) (fun _ _ hn => hn) fun _ _ hn => hn)
          have HBWS3 := Lib.hid (HBWS2.out.keep (hfr3) fun h => h)
          have HWS3 := Lib.hid (HWS2.out.keep (hfr3) (fun _ _ hn => hn) fun _ _ hn => hn)
          have HBO3 := Lib.hid (HBO2.out.keep (hfr3) fun h => h)
          have HOC3 := Lib.hid (HOC2.out.keep (hfr3) fun _ _ hn => hn)
          have HOI3 := Lib.hid (HOI2.out.keep_ (hfr3) fun _ _ hn => hn)
          have HB4 := Lib.hid (HB3.out.trans ((hb3.trans (hBD3.mono hb3.size)).mono HB3.out.size))
          have HDD : Hid (∀ W', Fr D3 W' No → Calls Try.prog 31 #[was.agg, .agg #[.int .i64 xk, .int .i64 xs, .int .u32 (xt : Int), .slice xA xm xc]] W' (DoA W' was R)) := Lib.hid (fun W' hW' => by
            have h9 := Do_doc W' was ((HWS3.out.keep hW' (fun _ _ hn => hn) fun _ _ hn => hn).In.all) (by
              refine ⟨by rw [HE1.out.2.2.2.2]; exact HPF.out.n, fun y hy => ?_⟩
              have h1 : y.e ∈ was.es := List.mem_map_of_mem hy
              rw [HE1.out.1] at h1
              obtain ⟨v, hv, hve⟩ := List.mem_map.1 h1
              have h2 := (HWS3.out.o.2.1 y hy).len
              have h4 : v.d = y.d := congrArg CE.d hve
              have h5 := HPF.out.m v hv
              have h6 := (HPI3.out.r.2.1 v hv).len
              rw [h4] at h6
              omega) ⟨xk, xs, xt, xA, xm, xc, xd⟩ (HROW.out W' (HB4.out.trans (hW'.no_below.mono HB4.out.size))).1
            rw [show DoM was.k was.es xk xs xt xm xd = R by rw [HE1.out.1, HE1.out.2.1]; exact HR.out.symm] at h9
            exact h9)
          obtain ⟨C, hC⟩ : ∃ C, C = R.1 := ⟨_, rfl⟩
          have HC9 := Lib.hid hC
          rw [← hC]
          obtain ⟨zk, zs, zx, zA, zn, zc, zl⟩ := z
          obtain ⟨vk, vs, vx, vA, vn, vc, vl⟩ := was
          simp only [PV.agg] at HDD ⊢
          simp only at hD1 hD3
          obtain ⟨b0, b1, b2, b3⟩ := (HROW.out D3 HB4.out).2
          clear hpoz hSz hTz hb3 hz0 hzz hwbz hBD3 hbxD3 hszD3 hfr3 y0 y1 y2 y3 t0 t1 t2 t3 hC
          go_upto_region 9 with fail
          have HGD : Hid (g < D3.heap.size) := Lib.hid (by have := HGL.out; have := HSZ1.out; have := HSZ2.out; have := HSZ3.out; omega)
          refine wp_region_held_drew (S := fun wx => Fr D3 wx No) (by kernel_rfl) ((Fr.refl D3 No).drew) (fun hS => ?_)
          refine wpAnyH_take (i := 0) (v := ?_) rfl (by kernel_rfl) (by kernel_rfl) (by kernel_rfl) (fun _ _ _ h => h) (Or.inl ⟨by rfl, ?_⟩) hS ?_
          rotate_left
          · (intro wq hSw; obtain ⟨e0, e1, e2, e3⟩ := pcs_cells (HBWS3.out.keep hSw fun h => h); simp only at e0 e1 e2 e3; go_simp; try with_reducible rfl)
          refine wpAnyH_take (i := 1) (v := ?_) rfl (by kernel_rfl) (by kernel_rfl) (by kernel_rfl) (fun _ _ _ h => h) (Or.inl ⟨by rfl, ?_⟩) hS ?_
          rotate_left
          · (intro wq hSw; go_simp; try with_reducible rfl)
          simp only [List.getElem_toArray, List.getElem_cons_succ, List.getElem_cons_zero, Act.put, List.setIfInBounds_toArray, List.set_cons_succ, List.set_cons_zero]
          refine wpAnyH_take (i := 2) (v := ?_) rfl (by kernel_rfl) (by kernel_rfl) (by kernel_rfl) (fun _ _ _ h => h) (Or.inl ⟨by rfl, ?_⟩) hS ?_
          rotate_left
          · (intro wq hSw; go_simp; try with_reducible rfl)
          simp only [List.getElem_toArray, List.getElem_cons_succ, List.getElem_cons_zero, Act.put, List.setIfInBounds_toArray, List.set_cons_succ, List.set_cons_zero]
          refine wpAnyH_take (i := 3) (v := ?_) rfl (by kernel_rfl) (by kernel_rfl) (by kernel_rfl) (fun _ _ _ h => h) (Or.inl ⟨by rfl, ?_⟩) hS ?_
          rotate_left
          · (intro wq hSw; go_simp; try with_reducible rfl)
          simp only [List.getElem_toArray, List.getElem_cons_succ, List.getElem_cons_zero, Act.put, List.setIfInBounds_toArray, List.set_cons_succ, List.set_cons_zero]
          refine wpAnyH_take (i := 4) (v := ?_) rfl (by kernel_rfl) (by kernel_rfl) (by kernel_rfl) (fun _ _ _ h => h) (Or.inl ⟨by rfl, ?_⟩) hS ?_
          rotate_left
          · (intro wq hSw; have k0 := (World.cell?_of_block (hSw.block g HGD.out (fun h => h))).trans b0; have k1 := (World.cell?_of_block (hSw.block g HGD.out (fun h => h))).trans b1; have k2 := (World.cell?_of_block (hSw.block g HGD.out (fun h => h))).trans b2; have k3 := (World.cell?_of_block (hSw.block g HGD.out (fun h => h))).trans b3; go_simp; try with_reducible rfl)
          simp only [List.getElem_toArray, List.getElem_cons_succ, List.getElem_cons_zero, Act.put, List.setIfInBounds_toArray, List.set_cons_succ, List.set_cons_zero]
          refine wpAnyH_ready (rs := [5, 9]) (by kernel_rfl) (by simp) ?_
          refine AllReadyH.cons rfl (fun K hK => ?_) (AllReadyH.cons rfl (fun K hK => ?_) AllReadyH.nil)
          · go_simp
            refine (HDD.out _ ((Fr.refl D3 No).drew)).mono ?_
            rintro e x2 ⟨y, S2, T2, rfl, hpo2, hS2, hT2, hb, hy0, hyz⟩
            have hfx : Fr D3 x2 No := ((Fr.refl D3 No).drew).trans (Fr.of_below hb No) fun _ hn => hn.elim
            refine hK.out _ _ hfx (fun hS => ?_)
            clear hK K
            have HST4 := Lib.hid (show (∀ b, S2 b → D3.heap.size ≤ b) ∧ ∀ b, T2 b → D3.heap.size ≤ b from ⟨fun b hb => Nat.le_trans (Nat.le_refl _) (hS2 b hb), fun b hb => Nat.le_trans (Nat.le_refl _) (hT2 b hb)⟩)
            have HE4 := Lib.hid (show (C = 0 → y.es = R.2 ∧ y.k = pk ∧ y.s = ps ∧ y.x = px) ∧ (C ≠ 0 → y = PV.zero) by
              rw [HC9.out]
              exact ⟨fun h => by obtain ⟨a, b, c, d⟩ := hy0 h; exact ⟨a, b.trans HE1.out.2.1, c.trans HE1.out.2.2.1, d.trans HE1.out.2.2.2.1⟩, hyz⟩)
            obtain ⟨yk, ys, yx, yA, yn, yc, yl⟩ := y
            simp only [PV.agg]
            rw [← HC9.out]
            refine wpAnyH_take (i := 6) (v := ?_) rfl (by kernel_rfl) (by kernel_rfl) (by kernel_rfl) (fun _ _ _ h => h) (Or.inl ⟨by rfl, ?_⟩) hS ?_
            rotate_left
            · (intro wq hSw; go_simp; try with_reducible rfl)
            simp only [List.getElem_toArray, List.getElem_cons_succ, List.getElem_cons_zero, Act.put, List.setIfInBounds_toArray, List.set_cons_succ, List.set_cons_zero]
            refine wpAnyH_take (i := 7) (v := ?_) rfl (by kernel_rfl) (by kernel_rfl) (by kernel_rfl) (fun _ _ _ h => h) (Or.inl ⟨by rfl, ?_⟩) hS ?_
            rotate_left
            · (intro wq hSw; go_simp; try with_reducible rfl)
            simp only [List.getElem_toArray, List.getElem_cons_succ, List.getElem_cons_zero, Act.put, List.setIfInBounds_toArray, List.set_cons_succ, List.set_cons_zero]
            refine wpAnyH_take (i := 8) (v := ?_) rfl (by kernel_rfl) (by kernel_rfl) (by kernel_rfl) (fun _ _ _ h => h) (Or.inl ⟨by rfl, ?_⟩) hS ?_
            rotate_left
            · (intro wq hSw; go_simp; try with_reducible rfl)
            simp only [List.getElem_toArray, List.getElem_cons_succ, List.getElem_cons_zero, Act.put, List.setIfInBounds_toArray, List.set_cons_succ, List.set_cons_zero]
            refine wpAnyH_ready (rs := [9]) (by kernel_rfl) (by simp) ?_
            refine AllReadyH.cons rfl (fun K hK => ?_) AllReadyH.nil
            go_simp
            refine hK.out _ _ (hS.alloc _) (fun hS => ?_)
            clear hK K
            refine wpAnyH_ready (rs := [10]) (by kernel_rfl) (by simp) ?_
            refine AllReadyH.cons rfl (fun K hK => ?_) AllReadyH.nil
            go_simp
            refine hK.out _ _ (hfx.alloc _) (fun hS => ?_)
            clear hK K
            refine wpAnyH_take (i := 11) (v := ?_) rfl (by kernel_rfl) (by kernel_rfl) (by kernel_rfl) (fun _ _ _ h => h) (Or.inl ⟨by rfl, ?_⟩) hS ?_
            rotate_left
            · (intro wq hSw; go_simp; try with_reducible rfl)
            simp only [List.getElem_toArray, List.getElem_cons_succ, List.getElem_cons_zero, Act.put, List.setIfInBounds_toArray, List.set_cons_succ, List.set_cons_zero]
            refine wpAnyH_done (by kernel_rfl) ?_ _
            clear hS
            obtain ⟨gz, hgz⟩ : ∃ gz, gz = x2.heap.size := ⟨_, rfl⟩
            obtain ⟨D4, hD4⟩ : ∃ D4, x2.alloc (.cells #[.int .i64 yk, .int .u64 (ys : Int), .int .u32 (yx : Int), .slice yA yn yc] 26) = D4 := ⟨_, rfl⟩
            have HBZ4 : Hid (Blk D4 gz 26 #[.int .i64 yk, .int .u64 (ys : Int), .int .u32 (yx : Int), .slice yA yn yc]) := Lib.hid (by rw [hgz, ← hD4]; exact Blk.new x2 26 _)
            have hfr4 : Fr D3 D4 No := by rw [← hD4]; exact hfx.alloc _
            have HZ4 : Hid (PO D4 (fun b => S2 b ∧ b < x2.heap.size) (fun b => T2 b ∧ b < x2.heap.size) ⟨yk, ys, yx, yA, yn, yc, yl⟩) := Lib.hid (by rw [← hD4]; exact hpo2.tight.keep ((Fr.refl x2 No).alloc _) (fun _ _ hn => hn) fun _ _ hn => hn)
            have HGZ := Lib.hid (show D3.heap.size ≤ gz ∧ gz < D4.heap.size by have := hfx.size; have : D4.heap.size = x2.heap.size + 1 := by rw [← hD4]; simp
                                                                               omega)
            rw [hD4, ← hgz]
            clear hgz hpo2 hS2 hT2 hb hy0 hyz hfx
            have hbel4 := hfr4.no_below
            have HB5 := Lib.hid (HB4.out.trans (hbel4.mono HB4.out.size))
            have HBP4 := Lib.hid (HBP3.out.keep (hfr4) fun h => h)
            have HPI4 := Lib.hid (HPI3.out.keep (hfr4) (fun _ _ hn => hn) fun _ _ hn => hn)
            have HBWS4 := Lib.hid (HBWS3.out.keep (hfr4) fun h => h)
            have HWS4 := Lib.hid (HWS3.out.keep (hfr4) (fun _ _ hn => hn) fun _ _ hn => hn)
            have HBO4 := Lib.hid (HBO3.out.keep (hfr4) fun h => h)
            have HOC4 := Lib.hid (HOC3.out.keep (hfr4) fun _ _ hn => hn)
            have HOI4 := Lib.hid (HOI3.out.keep_ (hfr4) fun _ _ hn => hn)
            have HBQ4 := Lib.hid (HBQ3.out.keep (hfr4) fun h => h)
            have HQ4 := Lib.hid (HQ3.out.keep (hfr4) (fun _ _ hn => hn) fun _ _ hn => hn)
            have HWB4 := Lib.hid (fun x hx => (HWB3.out x hx).keep (hfr4) fun _ _ hn => hn)
            have hsame : sameP ⟨zk, zs, zx, zA, zn, zc, zl⟩ ⟨yk, ys, yx, yA, yn, yc, yl⟩ = true := by
              by_cases h0 : C = 0
              · obtain ⟨a1, a2, a3, a4⟩ := HE3.out.1 (HC9.out.symm.trans h0)
                obtain ⟨c1, c2, c3, c4⟩ := HE4.out.1 h0
                exact sameP_of (a2.trans c2.symm) (a3.trans c3.symm) (a4.trans c4.symm) (a1.trans c1.symm)
              · rw [HE3.out.2 (fun h => h0 (HC9.out.trans h)), HE4.out.2 h0]
                exact sameP_of rfl rfl rfl rfl
            have HSAME : Hid (∀ W', Below D4.heap.size D4 W' → Calls Try.prog 22 #[.agg #[.int .i64 zk, .int .u64 (zs : Int), .int .u32 (zx : Int), .slice zA zn zc], .agg #[.int .i64 yk, .int .u64 (ys : Int), .int .u32 (yx : Int), .slice yA yn yc]] W' fun e w' => e = .returned (.bool true) ∧ Below W'.heap.size W' w') := Lib.hid (fun W' hW' => by
              have h9 := same_any ⟨zk, zs, zx, zA, zn, zc, zl⟩ ⟨yk, ys, yx, yA, yn, yc, yl⟩ W' (HQ4.out.In.all.below hW') (HZ4.out.In.all.below hW')
              rw [hsame] at h9
              exact h9)
            have HSOP : Hid (∀ W', Below D4.heap.size D4 W' → Calls Try.prog 32 #[.agg #[.int .i64 xk, .int .i64 xs, .int .u32 (xt : Int), .slice B xm cb], .agg #[.int .i64 xk, .int .i64 xs, .int .u32 (xt : Int), .slice xA xm xc]] W' fun e w' => e = .returned (.bool true) ∧ Below W'.heap.size W' w') := Lib.hid (fun W' hW' => sameOp_any xk xs xt xm xd B xA cb xc W' (HOI4.out.below hW').b (HROW.out W' (HB5.out.trans (hW'.mono HB5.out.size))).1.b)
            have hcc : (C != C) = false := by simp
            obtain ⟨b0, b1, b2, b3⟩ := (HROW.out D4 HB5.out).2
            obtain ⟨⟨r0, r1, r2, r3⟩, _⟩ := blk4 HBZ4.out
            obtain ⟨y0, y1, y2, y3⟩ := pcs_cells HBQ4.out
            obtain ⟨t0, t1, t2, t3⟩ := ocs_cells HBO4.out
            simp only at y0 y1 y2 y3 t0 t1 t2 t3
            clear hsame hfr4 hbel4
            go_upto_region 10 with fail
            have zy0 := fun d os => cell_regrown y0 d os
            have zy1 := fun d os => cell_regrown y1 d os
            have zy2 := fun d os => cell_regrown y2 d os
            have zy3 := fun d os => cell_regrown y3 d os
            have zt0 := fun d os => cell_regrown t0 d os
            have zt1 := fun d os => cell_regrown t1 d os
            have zt2 := fun d os => cell_regrown t2 d os
            have zt3 := fun d os => cell_regrown t3 d os
            have zr0 := fun d os => cell_regrown r0 d os
            have zr1 := fun d os => cell_regrown r1 d os
            have zr2 := fun d os => cell_regrown r2 d os
            have zr3 := fun d os => cell_regrown r3 d os
            have zb0 := fun d os => cell_regrown b0 d os
            have zb1 := fun d os => cell_regrown b1 d os
            have zb2 := fun d os => cell_regrown b2 d os
            have zb3 := fun d os => cell_regrown b3 d os
            refine wp_region_quiet_below (by kernel_rfl) (by kernel_rfl) ?_
            repeat (go_big_quiet_step (first | (go_at_call 22; with_reducible exact Calls.regrown_of (HSAME.out _ (below_regrown _ _ _))) | (go_at_call 32; with_reducible exact Calls.regrown_of (HSOP.out _ (below_regrown _ _ _)))))
            refine wpQuiet_nil ?_
            rintro W5 ⟨pp, hpp⟩
            have hb45 : Below D4.heap.size D4 W5 := by rw [hpp]; exact below_regrown _ _ _
            have hfr5 := Fr.of_below hb45 No
            have HB6 := Lib.hid (HB5.out.trans (hb45.mono HB5.out.size))
            have HSZ5 := Lib.hid hb45.size
            have HBP5 := Lib.hid (HBP4.out.keep (hfr5) fun h => h)
            have HPI5 := Lib.hid (HPI4.out.keep (hfr5) (fun _ _ hn => hn) fun _ _ hn => hn)
            have HBWS5 := Lib.hid (HBWS4.out.keep (hfr5) fun h => h)
            have HWS5 := Lib.hid (HWS4.out.keep (hfr5) (fun _ _ hn => hn) fun _ _ hn => hn)
            have HBO5 := Lib.hid (HBO4.out.keep (hfr5) fun h => h)
            have HOC5 := Lib.hid (HOC4.out.keep (hfr5) fun _ _ hn => hn)
            have HBQ5 := Lib.hid (HBQ4.out.keep (hfr5) fun h => h)
            have HQ5 := Lib.hid (HQ4.out.keep (hfr5) (fun _ _ hn => hn) fun _ _ hn => hn)
            have HWB5 := Lib.hid (fun x hx => (HWB4.out x hx).keep (hfr5) fun _ _ hn => hn)
            have HBZ5 := Lib.hid (HBZ4.out.keep (hfr5) fun h => h)
            have HZ5 := Lib.hid (HZ4.out.keep (hfr5) (fun _ _ hn => hn) fun _ _ hn => hn)
            clear hpp hfr5 hb45 y0 zy0 y1 zy1 y2 zy2 y3 zy3 t0 zt0 t1 zt1 t2 zt2 t3 zt3 r0 zr0 r1 zr1 r2 zr2 r3 zr3 b0 zb0 b1 zb1 b2 zb2 b3 zb3
            have HZS : Hid (∀ b, ((fun b => S2 b ∧ b < x2.heap.size) b ∨ (fun b => T2 b ∧ b < x2.heap.size) b) → D3.heap.size ≤ b) := Lib.hid (fun b hb => hb.elim (fun h => HST4.out.1 b h.1) fun h => HST4.out.2 b h.1)
            have HMAY : Hid (C = 0 → may pk R.2 = true) := Lib.hid (fun h0 => (do_may (HR.out.symm.trans (by rw [← HC9.out.symm.trans h0])) (HOI4.out.b.len)).1)
            have HFQ : Hid (Few ⟨zk, zs, zx, zA, zn, zc, zl⟩) := Lib.hid (by
              by_cases h0 : C = 0
              · obtain ⟨a1, a2, a3, a4⟩ := HE3.out.1 (HC9.out.symm.trans h0)
                exact few_may (by rw [a1]; exact HMAY.out h0) HQ5.out.In.all
              · rw [HE3.out.2 (fun h => h0 (HC9.out.trans h))]
                exact ⟨Nat.zero_le _, fun x hx => by simp [PV.zero] at hx⟩)
            have HSP := Lib.hid (spoil_page ⟨zk, zs, zx, zA, zn, zc, zl⟩ W5 (fun b => S b ∧ b < w3.heap.size) (fun b => T b ∧ b < w3.heap.size) HQ5.out (by have := HFQ.out.n; omega) (fun x hx => by have := HFQ.out.m x hx; omega) HWB5.out)
            simp only [PV.agg] at HSP
            obtain ⟨y0, y1, y2, y3⟩ := pcs_cells HBQ5.out
            simp only at y0 y1 y2 y3
            go_wp2_with fail
            with_reducible refine HSP.out.mono ?_
            rintro e w6 ⟨rfl, hf6⟩
            have hs6 : ∀ b, (S b ∧ b < w3.heap.size ∨ T b ∧ b < w3.heap.size) → D2.heap.size ≤ b ∧ b < w3.heap.size := fun b hb => hb.elim (fun h => ⟨HST3.out.1 b h.1, h.2⟩) fun h => ⟨HST3.out.2 b h.1, h.2⟩
            have HB7 := Lib.hid (HB6.out.trans (hf6.below (fun b hb => by have := hs6 b hb; have := HSZ1.out; have := HSZ2.out; have := HSZ3.out; have := HGZ.out; omega) HB6.out.size))
            have HSZ6 := Lib.hid hf6.size
            have HBP6 := Lib.hid (HBP5.out.keep (hf6) (fun hn => by have h9 := hs6 _ hn; have := HSZ1.out; have := HSZ2.out; have := HSZ3.out; have := HGZ.out; omega))
            have HPI6 := Lib.hid (HPI5.out.keep (hf6) (fun b hb hn => by have h9 := hs6 _ hn; have := HSZ1.out; have := HSZ2.out; have := HSZ3.out; have := HGZ.out; omega) (fun b hb hn => by have h9 := hs6 _ hn; have := HSZ1.out; have := HSZ2.out; have := HSZ3.out; have := HGZ.out; omega))
            have HBWS6 := Lib.hid (HBWS5.out.keep (hf6) (fun hn => by have h9 := hs6 _ hn; have := HSZ1.out; have := HSZ2.out; have := HSZ3.out; have := HGZ.out; omega))
            have HWS6 := Lib.hid (HWS5.out.keep (hf6) (fun b hb hn => by have h9 := hs6 _ hn; have h8 := hb.2; have := HSZ1.out; have := HSZ2.out; have := HSZ3.out; have := HGZ.out; omega) (fun b hb hn => by have h9 := hs6 _ hn; have h8 := hb.2; have := HSZ1.out; have := HSZ2.out; have := HSZ3.out; have := HGZ.out; omega))
            have HBO6 := Lib.hid (HBO5.out.keep (hf6) (fun hn => by have h9 := hs6 _ hn; have := HSZ1.out; have := HSZ2.out; have := HSZ3.out; have := HGZ.out; omega))
            have HOC6 := Lib.hid (HOC5.out.keep (hf6) (fun b hb hn => by have h9 := hs6 _ hn; have h8 := hb.2; have := HSZ1.out; have := HSZ2.out; have := HSZ3.out; have := HGZ.out; omega))
            have HBZ6 := Lib.hid (HBZ5.out.keep (hf6) (fun hn => by have h9 := hs6 _ hn; have := HSZ1.out; have := HSZ2.out; have := HSZ3.out; have := HGZ.out; omega))
            have HZ6 := Lib.hid (HZ5.out.keep (hf6) (fun b hb hn => by have h9 := hs6 _ hn; have h8 := HZS.out b; have := HSZ1.out; have := HSZ2.out; have := HSZ3.out; have := HGZ.out; exact absurd (h8 (by first | exact Or.inl hb | exact Or.inr hb)) (by omega)) (fun b hb hn => by have h9 := hs6 _ hn; have h8 := HZS.out b; have := HSZ1.out; have := HSZ2.out; have := HSZ3.out; have := HGZ.out; exact absurd (h8 (by first | exact Or.inl hb | exact Or.inr hb)) (by omega)))
            obtain ⟨OS, hOS⟩ : ∃ OS : Nat → Prop, OS = fun b => D1.heap.size ≤ b ∧ b < w2.heap.size := ⟨_, rfl⟩
            have hoc6 := HOC6.out
            rw [← hOS] at hoc6
            obtain ⟨A4, c4, e4, hwb⟩ := WB.of_ow hoc6
            injection e4 with e4 _ e5
            subst e4 e5
            have HWB := Lib.hid hwb
            have HOS := Lib.hid (show ∀ b, OS b → D1.heap.size ≤ b ∧ b < w2.heap.size by rw [hOS]; exact fun b hb => hb)
            clear hf6 hs6 hOS hoc6 hwb y0 y1 y2 y3
            go_wp2_with fail
            go_loopw [12] (fun u wy => ∃ i : Nat, u = .int .i64 (i : Int) ∧ i ≤ xm ∧ WB wy OS B xm ∧ Fr w6 wy OS) (fun u _ => xm - (intOf u).toNat)
            case atStart => exact ⟨0, rfl, by omega, HWB.out, Fr.refl _ _⟩
            case round =>
              obtain ⟨i, rfl, hi, hw, hf⟩ := hrel
              obtain ⟨r0, r1, r2, r3⟩ := ocs_cells (HBO6.out.keep hf fun h => by have h9 := HOS.out _ h; omega)
              obtain ⟨s0, s1, s2, s3⟩ := ocs_cells ((HBO6.out.keep hf fun h => by have h9 := HOS.out _ h; omega).drew)
              simp only at r0 r1 r2 r3 s0 s1 s2 s3
              by_cases hltx : i < xm
              · obtain ⟨ad, x, rfl, hx, hcell, hfz, hOa, hset⟩ := hw.at_ hltx
                obtain ⟨y, hy⟩ : ∃ y, y = (x + 1) % 256 := ⟨_, rfl⟩
                have hy2 : y < 256 := by omega
                have hw8 : IntKind.u8.wrap ((x : Int) + 1) = (y : Int) := by rw [IntKind.wrap_u8]; omega
                have HSS := Lib.hid (hset y hy2)
                have HFi := Lib.hid (show Fr w6 (World.setCell _ (ad.add i) (.int .u8 (y : Int))) OS from hf.setCell (Or.inl (by rw [block_of_add]; exact hOa)) _)
                have hinx : ((i : Int) < (xm : Int)) := by omega
                have hi0 : (0 : Int) ≤ (i : Int) := by omega
                have hWx : IntKind.i64.wrap ((i : Int) + 1) = ((i + 1 : Nat) : Int) := by have := HXM.out; rw [IntWalk.i64_in _ (by omega)]; omega
                have hcd : World.cell? (World.drew _) (ad.add i) = _ := hcell
                have hfd : World.frozen? (World.drew _) (ad.add i) = false := hfz
                clear hw hf hset hy hx
                go_wp2_with fail
                go_region
                all_goals
                  go_wp2
                  go_roundw
                  case rel => exact ⟨i + 1, by go_num, by omega, HSS.out.keep (T := No) (Fr.refl _ No).drew (fun _ _ hn => hn), HFi.out.drew⟩
                  case measure => simp [intOf]; omega
              · have h1d : decide ((i : Int) < (xm : Int)) = false := decide_eq_false (by omega)
                have h1d2 : decide (i < xm) = false := decide_eq_false hltx
                have HFF := Lib.hid hf
                clear hw hf s0 s1 s2 s3
                have HBP7 := Lib.hid (HBP6.out.keep (HFF.out) (fun hn => by have h9 := HOS.out _ hn; have := HSZ1.out; have := HSZ2.out; have := HSZ3.out; have := HGZ.out; omega))
                have HPI7 := Lib.hid (HPI6.out.keep (HFF.out) (fun b hb hn => by have h9 := HOS.out _ hn; have := HSZ1.out; have := HSZ2.out; have := HSZ3.out; have := HGZ.out; omega) (fun b hb hn => by have h9 := HOS.out _ hn; have := HSZ1.out; have := HSZ2.out; have := HSZ3.out; have := HGZ.out; omega))
                have HBWS7 := Lib.hid (HBWS6.out.keep (HFF.out) (fun hn => by have h9 := HOS.out _ hn; have := HSZ1.out; have := HSZ2.out; have := HSZ3.out; have := HGZ.out; omega))
                have HWS7 := Lib.hid (HWS6.out.keep (HFF.out) (fun b hb hn => by have h9 := HOS.out _ hn; have h8 := hb.2; have := HSZ1.out; have := HSZ2.out; have := HSZ3.out; have := HGZ.out; omega) (fun b hb hn => by have h9 := HOS.out _ hn; have h8 := hb.2; have := HSZ1.out; have := HSZ2.out; have := HSZ3.out; have := HGZ.out; omega))
                have HBZ7 := Lib.hid (HBZ6.out.keep (HFF.out) (fun hn => by have h9 := HOS.out _ hn; have := HSZ1.out; have := HSZ2.out; have := HSZ3.out; have := HGZ.out; omega))
                have HZ7 := Lib.hid (HZ6.out.keep (HFF.out) (fun b hb hn => by have h9 := HOS.out _ hn; have h8 := HZS.out b; have := HSZ1.out; have := HSZ2.out; have := HSZ3.out; have := HGZ.out; exact absurd (h8 (by first | exact Or.inl hb | exact Or.inr hb)) (by omega)) (fun b hb hn => by have h9 := HOS.out _ hn; have h8 := HZS.out b; have := HSZ1.out; have := HSZ2.out; have := HSZ3.out; have := HGZ.out; exact absurd (h8 (by first | exact Or.inl hb | exact Or.inr hb)) (by omega)))
                have HB8 := Lib.hid (HB7.out.trans (HFF.out.below (fun b hb => by have h9 := HOS.out b hb; have := HSZ1.out; have := HSZ2.out; have := HSZ3.out; have := HGZ.out; omega) HB7.out.size))
                have hsm : sameP ⟨pk, ps, px, pA, pn, pc, pl⟩ ⟨vk, vs, vx, vA, vn, vc, vl⟩ = true := sameP_of HE1.out.2.1.symm HE1.out.2.2.1.symm HE1.out.2.2.2.1.symm HE1.out.1.symm
                have HSM := Lib.hid (same_any ⟨pk, ps, px, pA, pn, pc, pl⟩ ⟨vk, vs, vx, vA, vn, vc, vl⟩ _ HPI7.out.all HWS7.out.In.all)
                rw [hsm] at HSM
                simp only [PV.agg] at HSM
                obtain ⟨y0, y1, y2, y3⟩ := pcs_cells HBP7.out
                obtain ⟨t0, t1, t2, t3⟩ := pcs_cells HBWS7.out
                simp only at y0 y1 y2 y3 t0 t1 t2 t3
                clear hsm
                by_cases hc0 : C = 0
                · have dc : (C == 0) = true := by rw [beq_iff_eq]; exact hc0
                  have HC0 := Lib.hid hc0
                  clear hc0
                  go_wp2_with fail
                  with_reducible refine HSM.out.mono ?_
                  rintro e w8 ⟨rfl, hb8⟩
                  have hno8 := Fr.of_below hb8 No
                  have hbz8 := HBZ7.out.keep hno8 fun h => h
                  have hbp8 := HBP7.out.keep hno8 fun h => h
                  simp only [pcs] at hbp8
                  have hst := store4 hbp8 (.int .i64 yk) (.int .u64 (ys : Int)) (.int .u32 (yx : Int)) (.slice yA yn yc)
                  obtain ⟨⟨y0, y1, y2, y3⟩, yf0, yf1, yf2, yf3⟩ := blk4 hbp8
                  obtain ⟨⟨r0, r1, r2, r3⟩, _⟩ := blk4 hbz8
                  obtain ⟨WF, hWF⟩ : ∃ WF, (((w8.setCell ⟨w.heap.size, 0, none⟩ (.int .i64 yk)).setCell ⟨w.heap.size, 1, none⟩ (.int .u64 (ys : Int))).setCell ⟨w.heap.size, 2, none⟩ (.int .u32 (yx : Int))).setCell ⟨w.heap.size, 3, none⟩ (.slice yA yn yc) = WF := ⟨_, rfl⟩
                  rw [hWF] at hst
                  have HZF := Lib.hid (((HZ7.out.keep hno8 (fun _ _ hn => hn) fun _ _ hn => hn).keep hst.2 (fun b hb e => by have h8 := HZS.out b (Or.inl hb); have := HSZ1.out; have := HSZ2.out; have := HSZ3.out; have := HGZ.out; omega) fun b hb e => by have h8 := HZS.out b (Or.inr hb); have := HSZ1.out; have := HSZ2.out; have := HSZ3.out; have := HGZ.out; omega).In.all)
                  have HBF : Hid (Blk WF w.heap.size 26 (pcs ⟨yk, ys, yx, yA, yn, yc, yl⟩)) := Lib.hid hst.1
                  have HB9 : Hid (Below w.heap.size w WF) := Lib.hid ((HB8.out.trans (hb8.mono HB8.out.size)).trans (hst.2.below (fun b hb => by omega) (by have := HB8.out.size; have := hb8.size; omega)))
                  clear hb8 hno8 hbz8 hbp8 hst t0 t1 t2 t3
                  go_wp2_with fail
                  go_roundw
                  case rel =>
                    refine ⟨q + 1, ⟨yk, ys, yx, yA, yn, yc, yl⟩, by omega, by go_num, HBF.out, HZF.out, ?_, HB9.out⟩
                    obtain ⟨c1, c2, c3, c4⟩ := HE4.out.1 HC0.out
                    exact few_may (by rw [c1]; exact HMAY.out HC0.out) HZF.out
                  case measure => simp [intOf]; omega
                · have dc : (C == 0) = false := beq_false_of_ne hc0
                  clear hc0
                  go_wp2_with fail
                  with_reducible refine HSM.out.mono ?_
                  rintro e w8 ⟨rfl, hb8⟩
                  have hno8 := Fr.of_below hb8 No
                  have HBF := Lib.hid (HBP7.out.keep hno8 fun h => h)
                  have HPF9 := Lib.hid (HPI7.out.all.below hb8)
                  have HB9 := Lib.hid (HB8.out.trans (hb8.mono HB8.out.size))
                  clear hb8 hno8 y0 y1 y2 y3 t0 t1 t2 t3
                  go_wp2_with fail
                  go_roundw
                  case rel => exact ⟨q + 1, _, by omega, by go_num, HBF.out, HPF9.out, HPF.out, HB9.out⟩
                  case measure => simp [intOf]; omega
          · go_simp
            refine hK.out _ _ (hS.alloc _) (fun hS => ?_)
            clear hK K
            refine wpAnyH_ready (rs := [5]) (by kernel_rfl) (by simp) ?_
            refine AllReadyH.cons rfl (fun K hK => ?_) AllReadyH.nil
            go_simp
            refine (HDD.out _ ((Fr.refl D3 No).drew.alloc _)).mono ?_
            rintro e x2 ⟨y, S2, T2, rfl, hpo2, hS2, hT2, hb, hy0, hyz⟩
            have hfx : Fr D3 x2 No := ((Fr.refl D3 No).drew.alloc _).trans (Fr.of_below hb No) fun _ hn => hn.elim
            refine hK.out _ _ hfx (fun hS => ?_)
            clear hK K
            have HST4 := Lib.hid (show (∀ b, S2 b → D3.heap.size ≤ b) ∧ ∀ b, T2 b → D3.heap.size ≤ b from ⟨fun b hb => Nat.le_trans (by simp) (hS2 b hb), fun b hb => Nat.le_trans (by simp) (hT2 b hb)⟩)
            have HE4 := Lib.hid (show (C = 0 → y.es = R.2 ∧ y.k = pk ∧ y.s = ps ∧ y.x = px) ∧ (C ≠ 0 → y = PV.zero) by
              rw [HC9.out]
              exact ⟨fun h => by obtain ⟨a, b, c, d⟩ := hy0 h; exact ⟨a, b.trans HE1.out.2.1, c.trans HE1.out.2.2.1, d.trans HE1.out.2.2.2.1⟩, hyz⟩)
            obtain ⟨yk, ys, yx, yA, yn, yc, yl⟩ := y
            simp only [PV.agg]
            rw [← HC9.out]
            have hbz : Blk x2 D3.heap.size 26 #[.int .i64 0, .int .u64 0, .int .u32 0, .slice none 0 0] := (Blk.new D3.drew 26 _).below hb (by simp)
            have hst := store4 hbz (.int .i64 yk) (.int .u64 (ys : Int)) (.int .u32 (yx : Int)) (.slice yA yn yc)
            obtain ⟨⟨r0, r1, r2, r3⟩, rf0, rf1, rf2, rf3⟩ := blk4 hbz
            refine wpAnyH_take (i := 6) (v := ?_) rfl (by kernel_rfl) (by kernel_rfl) (by kernel_rfl) (fun _ _ _ h => h) (Or.inl ⟨by rfl, ?_⟩) hS ?_
            rotate_left
            · (intro wq hSw; go_simp; try with_reducible rfl)
            simp only [List.getElem_toArray, List.getElem_cons_succ, List.getElem_cons_zero, Act.put, List.setIfInBounds_toArray, List.set_cons_succ, List.set_cons_zero]
            refine wpAnyH_take (i := 7) (v := ?_) rfl (by kernel_rfl) (by kernel_rfl) (by kernel_rfl) (fun _ _ _ h => h) (Or.inl ⟨by rfl, ?_⟩) hS ?_
            rotate_left
            · (intro wq hSw; go_simp; try with_reducible rfl)
            simp only [List.getElem_toArray, List.getElem_cons_succ, List.getElem_cons_zero, Act.put, List.setIfInBounds_toArray, List.set_cons_succ, List.set_cons_zero]
            refine wpAnyH_take (i := 8) (v := ?_) rfl (by kernel_rfl) (by kernel_rfl) (by kernel_rfl) (fun _ _ _ h => h) (Or.inl ⟨by rfl, ?_⟩) hS ?_
            rotate_left
            · (intro wq hSw; go_simp; try with_reducible rfl)
            simp only [List.getElem_toArray, List.getElem_cons_succ, List.getElem_cons_zero, Act.put, List.setIfInBounds_toArray, List.set_cons_succ, List.set_cons_zero]
            refine wpAnyH_ready (rs := [10]) (by kernel_rfl) (by simp) ?_
            refine AllReadyH.cons rfl (fun K hK => ?_) AllReadyH.nil
            go_simp
            refine hK.out _ _ (((((hfx.setCell (p := ⟨D3.heap.size, 0, none⟩) (Or.inr (Nat.le_refl _)) _).setCell (p := ⟨D3.heap.size, 1, none⟩) (Or.inr (Nat.le_refl _)) _).setCell (p := ⟨D3.heap.size, 2, none⟩) (Or.inr (Nat.le_refl _)) _).setCell (p := ⟨D3.heap.size, 3, none⟩) (Or.inr (Nat.le_refl _)) _)) (fun hS => ?_)
            clear hK K
            refine wpAnyH_take (i := 11) (v := ?_) rfl (by kernel_rfl) (by kernel_rfl) (by kernel_rfl) (fun _ _ _ h => h) (Or.inl ⟨by rfl, ?_⟩) hS ?_
            rotate_left
            · (intro wq hSw; go_simp; try with_reducible rfl)
            simp only [List.getElem_toArray, List.getElem_cons_succ, List.getElem_cons_zero, Act.put, List.setIfInBounds_toArray, List.set_cons_succ, List.set_cons_zero]
            refine wpAnyH_done (by kernel_rfl) ?_ _
            obtain ⟨gz, hgz⟩ : ∃ gz, gz = D3.heap.size := ⟨_, rfl⟩
            obtain ⟨D4, hD4⟩ : ∃ D4, (((x2.setCell ⟨D3.heap.size, 0, none⟩ (.int .i64 yk)).setCell ⟨D3.heap.size, 1, none⟩ (.int .u64 (ys : Int))).setCell ⟨D3.heap.size, 2, none⟩ (.int .u32 (yx : Int))).setCell ⟨D3.heap.size, 3, none⟩ (.slice yA yn yc) = D4 := ⟨_, rfl⟩
            rw [hD4] at hst hS
            have HBZ4 : Hid (Blk D4 gz 26 #[.int .i64 yk, .int .u64 (ys : Int), .int .u32 (yx : Int), .slice yA yn yc]) := Lib.hid (by rw [hgz]; exact hst.1)
            have hfr4 : Fr D3 D4 No := hS
            have hsx : D3.heap.size + 1 ≤ x2.heap.size := by have := hb.size; simpa using this
            have HZ4 : Hid (PO D4 (fun b => S2 b ∧ D3.heap.size + 1 ≤ b) (fun b => T2 b ∧ D3.heap.size + 1 ≤ b) ⟨yk, ys, yx, yA, yn, yc, yl⟩) := Lib.hid (by
              have h9 : PO x2 (fun b => S2 b ∧ D3.heap.size + 1 ≤ b) (fun b => T2 b ∧ D3.heap.size + 1 ≤ b) ⟨yk, ys, yx, yA, yn, yc, yl⟩ :=
                ⟨⟨hpo2.o.1, fun x hx => (hpo2.o.2.1 x hx).mono fun b _ hb => ⟨hb, by have := hT2 b hb; simpa using this⟩, fun k hk => ⟨hpo2.o.2.2.1 k hk, by have := hS2 k (hpo2.o.2.2.1 k hk); simpa using this⟩, fun k hk hb => hpo2.o.2.2.2 k hk hb.1⟩, hpo2.nb, hpo2.k1, hpo2.k2, hpo2.s, hpo2.x⟩
              exact h9.keep hst.2 (fun b hb e => by omega) fun b hb e => by omega)
            have HGZ := Lib.hid (show D3.heap.size ≤ gz ∧ gz < D4.heap.size by have := hst.2.size; omega)
            rw [hD4, ← hgz]
            clear hgz hpo2 hS2 hT2 hb hy0 hyz hfx hbz hst r0 r1 r2 r3 rf0 rf1 rf2 rf3 hS hsx
            have hbel4 := hfr4.no_below
            have HB5 := Lib.hid (HB4.out.trans (hbel4.mono HB4.out.size))
            have HBP4 := Lib.hid (HBP3.out.keep (hfr4) fun h => h)
            have HPI4 := Lib.hid (HPI3.out.keep (hfr4) (fun _ _ hn => hn) fun _ _ hn => hn)
            have HBWS4 := Lib.hid (HBWS3.out.keep (hfr4) fun h => h)
            have HWS4 := Lib.hid (HWS3.out.keep (hfr4) (fun _ _ hn => hn) fun _ _ hn => hn)
            have HBO4 := Lib.hid (HBO3.out.keep (hfr4) fun h => h)
            have HOC4 := Lib.hid (HOC3.out.keep (hfr4) fun _ _ hn => hn)
            have HOI4 := Lib.hid (HOI3.out.keep_ (hfr4) fun _ _ hn => hn)
            have HBQ4 := Lib.hid (HBQ3.out.keep (hfr4) fun h => h)
            have HQ4 := Lib.hid (HQ3.out.keep (hfr4) (fun _ _ hn => hn) fun _ _ hn => hn)
            have HWB4 := Lib.hid (fun x hx => (HWB3.out x hx).keep (hfr4) fun _ _ hn => hn)
            have hsame : sameP ⟨zk, zs, zx, zA, zn, zc, zl⟩ ⟨yk, ys, yx, yA, yn, yc, yl⟩ = true := by
              by_cases h0 : C = 0
              · obtain ⟨a1, a2, a3, a4⟩ := HE3.out.1 (HC9.out.symm.trans h0)
                obtain ⟨c1, c2, c3, c4⟩ := HE4.out.1 h0
                exact sameP_of (a2.trans c2.symm) (a3.trans c3.symm) (a4.trans c4.symm) (a1.trans c1.symm)
              · rw [HE3.out.2 (fun h => h0 (HC9.out.trans h)), HE4.out.2 h0]
                exact sameP_of rfl rfl rfl rfl
            have HSAME : Hid (∀ W', Below D4.heap.size D4 W' → Calls Try.prog 22 #[.agg #[.int .i64 zk, .int .u64 (zs : Int), .int .u32 (zx : Int), .slice zA zn zc], .agg #[.int .i64 yk, .int .u64 (ys : Int), .int .u32 (yx : Int), .slice yA yn yc]] W' fun e w' => e = .returned (.bool true) ∧ Below W'.heap.size W' w') := Lib.hid (fun W' hW' => by
              have h9 := same_any ⟨zk, zs, zx, zA, zn, zc, zl⟩ ⟨yk, ys, yx, yA, yn, yc, yl⟩ W' (HQ4.out.In.all.below hW') (HZ4.out.In.all.below hW')
              rw [hsame] at h9
              exact h9)
            have HSOP : Hid (∀ W', Below D4.heap.size D4 W' → Calls Try.prog 32 #[.agg #[.int .i64 xk, .int .i64 xs, .int .u32 (xt : Int), .slice B xm cb], .agg #[.int .i64 xk, .int .i64 xs, .int .u32 (xt : Int), .slice xA xm xc]] W' fun e w' => e = .returned (.bool true) ∧ Below W'.heap.size W' w') := Lib.hid (fun W' hW' => sameOp_any xk xs xt xm xd B xA cb xc W' (HOI4.out.below hW').b (HROW.out W' (HB5.out.trans (hW'.mono HB5.out.size))).1.b)
            have hcc : (C != C) = false := by simp
            obtain ⟨b0, b1, b2, b3⟩ := (HROW.out D4 HB5.out).2
            obtain ⟨⟨r0, r1, r2, r3⟩, _⟩ := blk4 HBZ4.out
            obtain ⟨y0, y1, y2, y3⟩ := pcs_cells HBQ4.out
            obtain ⟨t0, t1, t2, t3⟩ := ocs_cells HBO4.out
            simp only at y0 y1 y2 y3 t0 t1 t2 t3
            clear hsame hfr4 hbel4
            go_upto_region 10 with fail
            have zy0 := fun d os => cell_regrown y0 d os
            have zy1 := fun d os => cell_regrown y1 d os
            have zy2 := fun d os => cell_regrown y2 d os
            have zy3 := fun d os => cell_regrown y3 d os
            have zt0 := fun d os => cell_regrown t0 d os
            have zt1 := fun d os => cell_regrown t1 d os
            have zt2 := fun d os => cell_regrown t2 d os
            have zt3 := fun d os => cell_regrown t3 d os
            have zr0 := fun d os => cell_regrown r0 d os
            have zr1 := fun d os => cell_regrown r1 d os
            have zr2 := fun d os => cell_regrown r2 d os
            have zr3 := fun d os => cell_regrown r3 d os
            have zb0 := fun d os => cell_regrown b0 d os
            have zb1 := fun d os => cell_regrown b1 d os
            have zb2 := fun d os => cell_regrown b2 d os
            have zb3 := fun d os => cell_regrown b3 d os
            refine wp_region_quiet_below (by kernel_rfl) (by kernel_rfl) ?_
            repeat (go_big_quiet_step (first | (go_at_call 22; with_reducible exact Calls.regrown_of (HSAME.out _ (below_regrown _ _ _))) | (go_at_call 32; with_reducible exact Calls.regrown_of (HSOP.out _ (below_regrown _ _ _)))))
            refine wpQuiet_nil ?_
            rintro W5 ⟨pp, hpp⟩
            have hb45 : Below D4.heap.size D4 W5 := by rw [hpp]; exact below_regrown _ _ _
            have hfr5 := Fr.of_below hb45 No
            have HB6 := Lib.hid (HB5.out.trans (hb45.mono HB5.out.size))
            have HSZ5 := Lib.hid hb45.size
            have HBP5 := Lib.hid (HBP4.out.keep (hfr5) fun h => h)
            have HPI5 := Lib.hid (HPI4.out.keep (hfr5) (fun _ _ hn => hn) fun _ _ hn => hn)
            have HBWS5 := Lib.hid (HBWS4.out.keep (hfr5) fun h => h)
            have HWS5 := Lib.hid (HWS4.out.keep (hfr5) (fun _ _ hn => hn) fun _ _ hn => hn)
            have HBO5 := Lib.hid (HBO4.out.keep (hfr5) fun h => h)
            have HOC5 := Lib.hid (HOC4.out.keep (hfr5) fun _ _ hn => hn)
            have HBQ5 := Lib.hid (HBQ4.out.keep (hfr5) fun h => h)
            have HQ5 := Lib.hid (HQ4.out.keep (hfr5) (fun _ _ hn => hn) fun _ _ hn => hn)
            have HWB5 := Lib.hid (fun x hx => (HWB4.out x hx).keep (hfr5) fun _ _ hn => hn)
            have HBZ5 := Lib.hid (HBZ4.out.keep (hfr5) fun h => h)
            have HZ5 := Lib.hid (HZ4.out.keep (hfr5) (fun _ _ hn => hn) fun _ _ hn => hn)
            clear hpp hfr5 hb45 y0 zy0 y1 zy1 y2 zy2 y3 zy3 t0 zt0 t1 zt1 t2 zt2 t3 zt3 r0 zr0 r1 zr1 r2 zr2 r3 zr3 b0 zb0 b1 zb1 b2 zb2 b3 zb3
            have HZS : Hid (∀ b, ((fun b => S2 b ∧ D3.heap.size + 1 ≤ b) b ∨ (fun b => T2 b ∧ D3.heap.size + 1 ≤ b) b) → D3.heap.size ≤ b) := Lib.hid (fun b hb => hb.elim (fun h => HST4.out.1 b h.1) fun h => HST4.out.2 b h.1)
            have HMAY : Hid (C = 0 → may pk R.2 = true) := Lib.hid (fun h0 => (do_may (HR.out.symm.trans (by rw [← HC9.out.symm.trans h0])) (HOI4.out.b.len)).1)
            have HFQ : Hid (Few ⟨zk, zs, zx, zA, zn, zc, zl⟩) := Lib.hid (by
              by_cases h0 : C = 0
              · obtain ⟨a1, a2, a3, a4⟩ := HE3.out.1 (HC9.out.symm.trans h0)
                exact few_may (by rw [a1]; exact HMAY.out h0) HQ5.out.In.all
              · rw [HE3.out.2 (fun h => h0 (HC9.out.trans h))]
                exact ⟨Nat.zero_le _, fun x hx => by simp [PV.zero] at hx⟩)
            have HSP := Lib.hid (spoil_page ⟨zk, zs, zx, zA, zn, zc, zl⟩ W5 (fun b => S b ∧ b < w3.heap.size) (fun b => T b ∧ b < w3.heap.size) HQ5.out (by have := HFQ.out.n; omega) (fun x hx => by have := HFQ.out.m x hx; omega) HWB5.out)
            simp only [PV.agg] at HSP
            obtain ⟨y0, y1, y2, y3⟩ := pcs_cells HBQ5.out
            simp only at y0 y1 y2 y3
            go_wp2_with fail
            with_reducible refine HSP.out.mono ?_
            rintro e w6 ⟨rfl, hf6⟩
            have hs6 : ∀ b, (S b ∧ b < w3.heap.size ∨ T b ∧ b < w3.heap.size) → D2.heap.size ≤ b ∧ b < w3.heap.size := fun b hb => hb.elim (fun h => ⟨HST3.out.1 b h.1, h.2⟩) fun h => ⟨HST3.out.2 b h.1, h.2⟩
            have HB7 := Lib.hid (HB6.out.trans (hf6.below (fun b hb => by have := hs6 b hb; have := HSZ1.out; have := HSZ2.out; have := HSZ3.out; have := HGZ.out; omega) HB6.out.size))
            have HSZ6 := Lib.hid hf6.size
            have HBP6 := Lib.hid (HBP5.out.keep (hf6) (fun hn => by have h9 := hs6 _ hn; have := HSZ1.out; have := HSZ2.out; have := HSZ3.out; have := HGZ.out; omega))
            have HPI6 := Lib.hid (HPI5.out.keep (hf6) (fun b hb hn => by have h9 := hs6 _ hn; have := HSZ1.out; have := HSZ2.out; have := HSZ3.out; have := HGZ.out; omega) (fun b hb hn => by have h9 := hs6 _ hn; have := HSZ1.out; have := HSZ2.out; have := HSZ3.out; have := HGZ.out; omega))
            have HBWS6 := Lib.hid (HBWS5.out.keep (hf6) (fun hn => by have h9 := hs6 _ hn; have := HSZ1.out; have := HSZ2.out; have := HSZ3.out; have := HGZ.out; omega))
            have HWS6 := Lib.hid (HWS5.out.keep (hf6) (fun b hb hn => by have h9 := hs6 _ hn; have h8 := hb.2; have := HSZ1.out; have := HSZ2.out; have := HSZ3.out; have := HGZ.out; omega) (fun b hb hn => by have h9 := hs6 _ hn; have h8 := hb.2; have := HSZ1.out; have := HSZ2.out; have := HSZ3.out; have := HGZ.out; omega))
            have HBO6 := Lib.hid (HBO5.out.keep (hf6) (fun hn => by have h9 := hs6 _ hn; have := HSZ1.out; have := HSZ2.out; have := HSZ3.out; have := HGZ.out; omega))
            have HOC6 := Lib.hid (HOC5.out.keep (hf6) (fun b hb hn => by have h9 := hs6 _ hn; have h8 := hb.2; have := HSZ1.out; have := HSZ2.out; have := HSZ3.out; have := HGZ.out; omega))
            have HBZ6 := Lib.hid (HBZ5.out.keep (hf6) (fun hn => by have h9 := hs6 _ hn; have := HSZ1.out; have := HSZ2.out; have := HSZ3.out; have := HGZ.out; omega))
            have HZ6 := Lib.hid (HZ5.out.keep (hf6) (fun b hb hn => by have h9 := hs6 _ hn; have h8 := HZS.out b; have := HSZ1.out; have := HSZ2.out; have := HSZ3.out; have := HGZ.out; exact absurd (h8 (by first | exact Or.inl hb | exact Or.inr hb)) (by omega)) (fun b hb hn => by have h9 := hs6 _ hn; have h8 := HZS.out b; have := HSZ1.out; have := HSZ2.out; have := HSZ3.out; have := HGZ.out; exact absurd (h8 (by first | exact Or.inl hb | exact Or.inr hb)) (by omega)))
            obtain ⟨OS, hOS⟩ : ∃ OS : Nat → Prop, OS = fun b => D1.heap.size ≤ b ∧ b < w2.heap.size := ⟨_, rfl⟩
            have hoc6 := HOC6.out
            rw [← hOS] at hoc6
            obtain ⟨A4, c4, e4, hwb⟩ := WB.of_ow hoc6
            injection e4 with e4 _ e5
            subst e4 e5
            have HWB := Lib.hid hwb
            have HOS := Lib.hid (show ∀ b, OS b → D1.heap.size ≤ b ∧ b < w2.heap.size by rw [hOS]; exact fun b hb => hb)
            clear hf6 hs6 hOS hoc6 hwb y0 y1 y2 y3
            go_wp2_with fail
            go_loopw [12] (fun u wy => ∃ i : Nat, u = .int .i64 (i : Int) ∧ i ≤ xm ∧ WB wy OS B xm ∧ Fr w6 wy OS) (fun u _ => xm - (intOf u).toNat)
            case atStart => exact ⟨0, rfl, by omega, HWB.out, Fr.refl _ _⟩
            case round =>
              obtain ⟨i, rfl, hi, hw, hf⟩ := hrel
              obtain ⟨r0, r1, r2, r3⟩ := ocs_cells (HBO6.out.keep hf fun h => by have h9 := HOS.out _ h; omega)
              obtain ⟨s0, s1, s2, s3⟩ := ocs_cells ((HBO6.out.keep hf fun h => by have h9 := HOS.out _ h; omega).drew)
              simp only at r0 r1 r2 r3 s0 s1 s2 s3
              by_cases hltx : i < xm
              · obtain ⟨ad, x, rfl, hx, hcell, hfz, hOa, hset⟩ := hw.at_ hltx
                obtain ⟨y, hy⟩ : ∃ y, y = (x + 1) % 256 := ⟨_, rfl⟩
                have hy2 : y < 256 := by omega
                have hw8 : IntKind.u8.wrap ((x : Int) + 1) = (y : Int) := by rw [IntKind.wrap_u8]; omega
                have HSS := Lib.hid (hset y hy2)
                have HFi := Lib.hid (show Fr w6 (World.setCell _ (ad.add i) (.int .u8 (y : Int))) OS from hf.setCell (Or.inl (by rw [block_of_add]; exact hOa)) _)
                have hinx : ((i : Int) < (xm : Int)) := by omega
                have hi0 : (0 : Int) ≤ (i : Int) := by omega
                have hWx : IntKind.i64.wrap ((i : Int) + 1) = ((i + 1 : Nat) : Int) := by have := HXM.out; rw [IntWalk.i64_in _ (by omega)]; omega
                have hcd : World.cell? (World.drew _) (ad.add i) = _ := hcell
                have hfd : World.frozen? (World.drew _) (ad.add i) = false := hfz
                clear hw hf hset hy hx
                go_wp2_with fail
                go_region
                all_goals
                  go_wp2
                  go_roundw
                  case rel => exact ⟨i + 1, by go_num, by omega, HSS.out.keep (T := No) (Fr.refl _ No).drew (fun _ _ hn => hn), HFi.out.drew⟩
                  case measure => simp [intOf]; omega
              · have h1d : decide ((i : Int) < (xm : Int)) = false := decide_eq_false (by omega)
                have h1d2 : decide (i < xm) = false := decide_eq_false hltx
                have HFF := Lib.hid hf
                clear hw hf s0 s1 s2 s3
                have HBP7 := Lib.hid (HBP6.out.keep (HFF.out) (fun hn => by have h9 := HOS.out _ hn; have := HSZ1.out; have := HSZ2.out; have := HSZ3.out; have := HGZ.out; omega))
                have HPI7 := Lib.hid (HPI6.out.keep (HFF.out) (fun b hb hn => by have h9 := HOS.out _ hn; have := HSZ1.out; have := HSZ2.out; have := HSZ3.out; have := HGZ.out; omega) (fun b hb hn => by have h9 := HOS.out _ hn; have := HSZ1.out; have := HSZ2.out; have := HSZ3.out; have := HGZ.out; omega))
                have HBWS7 := Lib.hid (HBWS6.out.keep (HFF.out) (fun hn => by have h9 := HOS.out _ hn; have := HSZ1.out; have := HSZ2.out; have := HSZ3.out; have := HGZ.out; omega))
                have HWS7 := Lib.hid (HWS6.out.keep (HFF.out) (fun b hb hn => by have h9 := HOS.out _ hn; have h8 := hb.2; have := HSZ1.out; have := HSZ2.out; have := HSZ3.out; have := HGZ.out; omega) (fun b hb hn => by have h9 := HOS.out _ hn; have h8 := hb.2; have := HSZ1.out; have := HSZ2.out; have := HSZ3.out; have := HGZ.out; omega))
                have HBZ7 := Lib.hid (HBZ6.out.keep (HFF.out) (fun hn => by have h9 := HOS.out _ hn; have := HSZ1.out; have := HSZ2.out; have := HSZ3.out; have := HGZ.out; omega))
                have HZ7 := Lib.hid (HZ6.out.keep (HFF.out) (fun b hb hn => by have h9 := HOS.out _ hn; have h8 := HZS.out b; have := HSZ1.out; have := HSZ2.out; have := HSZ3.out; have := HGZ.out; exact absurd (h8 (by first | exact Or.inl hb | exact Or.inr hb)) (by omega)) (fun b hb hn => by have h9 := HOS.out _ hn; have h8 := HZS.out b; have := HSZ1.out; have := HSZ2.out; have := HSZ3.out; have := HGZ.out; exact absurd (h8 (by first | exact Or.inl hb | exact Or.inr hb)) (by omega)))
                have HB8 := Lib.hid (HB7.out.trans (HFF.out.below (fun b hb => by have h9 := HOS.out b hb; have := HSZ1.out; have := HSZ2.out; have := HSZ3.out; have := HGZ.out; omega) HB7.out.size))
                have hsm : sameP ⟨pk, ps, px, pA, pn, pc, pl⟩ ⟨vk, vs, vx, vA, vn, vc, vl⟩ = true := sameP_of HE1.out.2.1.symm HE1.out.2.2.1.symm HE1.out.2.2.2.1.symm HE1.out.1.symm
                have HSM := Lib.hid (same_any ⟨pk, ps, px, pA, pn, pc, pl⟩ ⟨vk, vs, vx, vA, vn, vc, vl⟩ _ HPI7.out.all HWS7.out.In.all)
                rw [hsm] at HSM
                simp only [PV.agg] at HSM
                obtain ⟨y0, y1, y2, y3⟩ := pcs_cells HBP7.out
                obtain ⟨t0, t1, t2, t3⟩ := pcs_cells HBWS7.out
                simp only at y0 y1 y2 y3 t0 t1 t2 t3
                clear hsm
                by_cases hc0 : C = 0
                · have dc : (C == 0) = true := by rw [beq_iff_eq]; exact hc0
                  have HC0 := Lib.hid hc0
                  clear hc0
                  go_wp2_with fail
                  with_reducible refine HSM.out.mono ?_
                  rintro e w8 ⟨rfl, hb8⟩
                  have hno8 := Fr.of_below hb8 No
                  have hbz8 := HBZ7.out.keep hno8 fun h => h
                  have hbp8 := HBP7.out.keep hno8 fun h => h
                  simp only [pcs] at hbp8
                  have hst := store4 hbp8 (.int .i64 yk) (.int .u64 (ys : Int)) (.int .u32 (yx : Int)) (.slice yA yn yc)
                  obtain ⟨⟨y0, y1, y2, y3⟩, yf0, yf1, yf2, yf3⟩ := blk4 hbp8
                  obtain ⟨⟨r0, r1, r2, r3⟩, _⟩ := blk4 hbz8
                  obtain ⟨WF, hWF⟩ : ∃ WF, (((w8.setCell ⟨w.heap.size, 0, none⟩ (.int .i64 yk)).setCell ⟨w.heap.size, 1, none⟩ (.int .u64 (ys : Int))).setCell ⟨w.heap.size, 2, none⟩ (.int .u32 (yx : Int))).setCell ⟨w.heap.size, 3, none⟩ (.slice yA yn yc) = WF := ⟨_, rfl⟩
                  rw [hWF] at hst
                  have HZF := Lib.hid (((HZ7.out.keep hno8 (fun _ _ hn => hn) fun _ _ hn => hn).keep hst.2 (fun b hb e => by have h8 := HZS.out b (Or.inl hb); have := HSZ1.out; have := HSZ2.out; have := HSZ3.out; have := HGZ.out; omega) fun b hb e => by have h8 := HZS.out b (Or.inr hb); have := HSZ1.out; have := HSZ2.out; have := HSZ3.out; have := HGZ.out; omega).In.all)
                  have HBF : Hid (Blk WF w.heap.size 26 (pcs ⟨yk, ys, yx, yA, yn, yc, yl⟩)) := Lib.hid hst.1
                  have HB9 : Hid (Below w.heap.size w WF) := Lib.hid ((HB8.out.trans (hb8.mono HB8.out.size)).trans (hst.2.below (fun b hb => by omega) (by have := HB8.out.size; have := hb8.size; omega)))
                  clear hb8 hno8 hbz8 hbp8 hst t0 t1 t2 t3
                  go_wp2_with fail
                  go_roundw
                  case rel =>
                    refine ⟨q + 1, ⟨yk, ys, yx, yA, yn, yc, yl⟩, by omega, by go_num, HBF.out, HZF.out, ?_, HB9.out⟩
                    obtain ⟨c1, c2, c3, c4⟩ := HE4.out.1 HC0.out
                    exact few_may (by rw [c1]; exact HMAY.out HC0.out) HZF.out
                  case measure => simp [intOf]; omega
                · have dc : (C == 0) = false := beq_false_of_ne hc0
                  clear hc0
                  go_wp2_with fail
                  with_reducible refine HSM.out.mono ?_
                  rintro e w8 ⟨rfl, hb8⟩
                  have hno8 := Fr.of_below hb8 No
                  have HBF := Lib.hid (HBP7.out.keep hno8 fun h => h)
                  have HPF9 := Lib.hid (HPI7.out.all.below hb8)
                  have HB9 := Lib.hid (HB8.out.trans (hb8.mono HB8.out.size))
                  clear hb8 hno8 y0 y1 y2 y3 t0 t1 t2 t3
                  go_wp2_with fail
                  go_roundw
                  case rel => exact ⟨q + 1, _, by omega, by go_num, HBF.out, HPF9.out, HPF.out, HB9.out⟩
                  case measure => simp [intOf]; omega
        · have h1d : decide ((q : Int) < (n : Int)) = false := decide_eq_false (by omega)
          have h1d2 : decide (q < n) = false := decide_eq_false hlt
          clear hbp hpi hpf hbw
          go_wp2_with fail
          refine (HAL.out _).mono ?_
          rintro e wz ⟨rfl, hbz⟩
          have HBZ := Lib.hid (HB1.out.trans (hbz.mono HB1.out.size))
          clear hbz
          go_wp2_with fail
          go_ret
          exact ⟨rfl, HBZ.out⟩
end Go.Proofs.Ytajmpoanmdgmpaa.pageDoes
