/-
THE WALKS OF long, Copy, CopyPage.
-/
import Derived.Test.YtcajidlekfkjlaaPE
namespace Go.Proofs.Ytcajidlekfkjlaa
open Go.RowKit

def LongO (p : PV) (w : World) (e : Ending) (w' : World) : Prop := ∃ b, e = .returned (.bool b) ∧ Below w.heap.size w w' ∧ (b = false → Few p)
set_option maxRecDepth 100000 in
theorem copy_any (w : World) (T : Nat → Prop) (A : Option Addr) (n c : Nat) (l : List Nat) (hr : RB w T A n l) (hn : n ≤ 140737488351232) :
    Calls Try.prog 68 #[.slice A n c] w (New w l) := by
  have HR := Lib.hid (hr.alloc (.cells #[] 5))
  have HO := Lib.hid (Own.made w)
  clear hr
  go_enter Try.func68, Try.ntmps68
  go_wp2_with (at_builtin; go_must (refine wpList_app rfl (.tmp 3) (.tmp 4) rfl _ 0 [] rfl HO.out.1 T A n c l rfl HR.out (by omega) ?_); intro v1 w2 hown hgrow; have HS := Lib.hid (Own.step HO.out hgrow hown); clear hown hgrow)
  go_ret
  exact HS.out.new

/-- a page whose row is its owner's -/
structure PO (w : World) (S T : Nat → Prop) (p : PV) : Prop where
  o : OwC w S T (.slice p.A p.n p.c) p.n p.l
  nb : p.n ≤ 140737488351232
  k1 : -9223372036854775808 ≤ p.k
  k2 : p.k ≤ 9223372036854775807
  s : p.s < 18446744073709551616
  x : p.x < 4294967296
set_option maxRecDepth 100000 in
theorem PO.In {w : World} {S T : Nat → Prop} {p : PV} (h : PO w S T p) : p.In w S T := by
  obtain ⟨A, c, e, hnc, _, hnz, hr⟩ := h.o.reads h.nb
  injection e with e1 e2 e3
  subst e3
  rw [← e1] at hr hnz
  exact ⟨hr, hnc, hnz, h.k1, h.k2, h.s, h.x⟩
set_option maxRecDepth 100000 in
theorem PO.keep {w w' : World} {S T U : Nat → Prop} {p : PV} (h : PO w S T p) (hf : Fr w w' U) (hS : ∀ b, S b → ¬ U b) (hT : ∀ b, T b → ¬ U b) : PO w' S T p :=
  ⟨h.o.keep hf hS hT, h.nb, h.k1, h.k2, h.s, h.x⟩
/-- what CopyPage goes on with -/
structure CP (W wr : World) (l : List CV) (k : Nat) (v : Value) (S T : Nat → Prop) (lk : List CV) : Prop where
  o : OwC wr S T v k lk
  e : lk.map CV.e = (l.take k).map CV.e
  s0 : ∀ b, S b → W.heap.size ≤ b
  t0 : ∀ b, T b → W.heap.size ≤ b
  f : Fr W wr No
set_option maxHeartbeats 1000000 in
set_option maxRecDepth 100000 in
theorem copyPage_any (p : PV) (w : World) (h : p.In w All All) (hf : Few p) : Calls Try.prog 44 #[p.agg] w fun e w' => ∃ p' S T, e = .returned p'.agg ∧ PO w' S T p' ∧ (∀ b, S b → w.heap.size ≤ b) ∧ (∀ b, T b → w.heap.size ≤ b) ∧ p'.es = p.es ∧ p'.k = p.k ∧ p'.s = p.s ∧ p'.x = p.x ∧ p'.n = p.n ∧ Below w.heap.size w w' := by
  obtain ⟨W1, hW1, hBW1, hbx1, hsz1⟩ := box_page w p
  obtain ⟨W, hW⟩ : ∃ W, W1.alloc (.cells #[.int .i64 0, .int .u64 0, .int .u32 0, .slice none 0 0] 51) = W := ⟨_, rfl⟩
  have hBW : Below w.heap.size w W := by rw [← hW]; exact hBW1.alloc hBW1.size _
  have hbx : Blk W w.heap.size 51 (pcs p) := by rw [← hW]; exact hbx1.alloc _
  have hbr : Blk W W1.heap.size 51 #[.int .i64 0, .int .u64 0, .int .u32 0, .slice none 0 0] := by rw [← hW]; exact Blk.new W1 51 _
  have hsz : W.heap.size = w.heap.size + 2 := by rw [← hW]; simp [hsz1]
  have HP := Lib.hid (h.below hBW)
  have HBW := Lib.hid hBW
  have HBX := Lib.hid hbx
  have HBR := Lib.hid hbr
  have HSZ := Lib.hid hsz
  have HSZ1 := Lib.hid hsz1
  have HF := Lib.hid hf
  have HK := Lib.hid (show (-9223372036854775808 ≤ p.k ∧ p.k ≤ 9223372036854775807) ∧ p.s < 18446744073709551616 ∧ p.x < 4294967296 from ⟨⟨h.k1, h.k2⟩, h.s, h.x⟩)
  obtain ⟨pk, ps, px, A, n, c, l⟩ := p
  have hn3 : n ≤ 20001 := hf.n
  have HL : Hid (l.length = n) := h.r.1
  simp only at hW1
  obtain ⟨z, hz⟩ : ∃ z, z = w.heap.size := ⟨_, rfl⟩
  obtain ⟨z1, hz1⟩ : ∃ z1, z1 = W1.heap.size := ⟨_, rfl⟩
  have HZ := Lib.hid hz
  have HZ1 := Lib.hid hz1
  clear h hf hBW hbx hsz hBW1 hbx1 hsz1 hbr
  simp only [PV.agg]
  go_enter Try.func44, Try.ntmps44
  go_wp2
  go_loopw [3, 4] (fun v i wr => ∃ (k : Nat) (S T : Nat → Prop) (lk : List CV), k ≤ n ∧ i = .int .i64 (k : Int) ∧ CP W wr l k v S T lk) (fun _ i _ => n - (intOf i).toNat)
  case atStart => exact ⟨0, fun b => W.heap.size ≤ b, fun b => W.heap.size ≤ b, [], by omega, rfl, OwC.nil_ _ _ _, rfl, fun _ h => h, fun _ h => h, Fr.refl _ _⟩
  case round =>
    obtain ⟨k, S, T, lk, hk, rfl, hcp⟩ := hrel
    have HC := Lib.hid hcp
    have hlv := hcp.o.len
    obtain ⟨vA, vc, rfl, _, _, _, _⟩ := hcp.o.reads (by omega)
    have hfs := hcp.f.size
    have hbW := hcp.f.no_below
    obtain ⟨y0, y1, y2, y3⟩ := pcs_cells (HBX.out.below hbW (by have := HSZ.out; omega))
    simp only at y0 y1 y2 y3
    by_cases hlt : k < n
    · obtain ⟨g, o, x, rfl, hg, _, hx, hxi, b0, b1, b2⟩ := (HP.out.r.below hbW).at_ hlt
      have HX := Lib.hid hx
      have HXI := Lib.hid (hxi.keep (Fr.of_below ((Below.refl wr.heap.size wr).alloc (Nat.le_refl _) (.cells #[.bool x.u, .int .u32 (x.k : Int), .slice x.A x.m x.c] 48)) No) fun _ _ hn => hn)
      obtain ⟨u, kk, xA, m, xc, d⟩ := x
      simp only at b0 b1 b2
      have hbn := Blk.new wr 48 #[.bool u, .int .u32 (kk : Int), .slice xA m xc]
      have hDW : Below wr.heap.size wr (wr.alloc (.cells #[.bool u, .int .u32 (kk : Int), .slice xA m xc] 48)) := (Below.refl _ _).alloc (Nat.le_refl _) _
      have hDs : (wr.alloc (.cells #[.bool u, .int .u32 (kk : Int), .slice xA m xc] 48)).heap.size = wr.heap.size + 1 := by simp
      obtain ⟨D, hD⟩ : ∃ D, wr.alloc (.cells #[.bool u, .int .u32 (kk : Int), .slice xA m xc] 48) = D := ⟨_, rfl⟩
      simp only [hD] at HXI
      rw [hD] at hbn hDW hDs
      have c0 := hbn.cell 0
      have c1 := hbn.cell 1
      have c2 := hbn.cell 2
      simp only [List.getElem?_toArray, List.getElem?_cons_zero, List.getElem?_cons_succ] at c0 c1 c2
      have HCO := Lib.hid (copy_any D All xA m xc d HXI.out.b (by have h9 := HF.out.m _ (List.mem_of_getElem? HX.out); simp only at h9; omega))
      have hWi : IntKind.i64.wrap ((k : Int) + 1) = ((k + 1 : Nat) : Int) := by rw [IntWalk.i64_in _ (by omega)]; omega
      have hin : ((k : Int) < (n : Int)) := by omega
      have HBN := Lib.hid hbn
      have HDW := Lib.hid hDW
      have HDS := Lib.hid hDs
      clear hx hxi hcp hlv hbn hDW hDs
      go_wp2_with fail
      with_reducible refine HCO.out.mono ?_
      rintro e w2 ⟨v2, rfl, hnew, hb2⟩
      obtain ⟨A2, c2', rfl, hmc2, hnz2, hrb2⟩ := Ow.reads hnew
      have hdl : d.length = m := HXI.out.len
      rw [hdl] at hrb2 hmc2
      have hbn2 := HBN.out.below hb2 (by have := HDS.out; omega)
      obtain ⟨W3, hW3⟩ : ∃ W3, w2.setCell ⟨wr.heap.size, 2, none⟩ (.slice A2 m c2') = W3 := ⟨_, rfl⟩
      have hb3 : Blk W3 wr.heap.size 48 #[.bool u, .int .u32 (kk : Int), .slice A2 m c2'] := by rw [← hW3]; exact hbn2.set_ 2 _
      have hfr : Fr wr W3 No := by rw [← hW3]; exact ((Fr.of_below HDW.out No).trans (Fr.of_below hb2 No) fun _ hn => hn.elim).setCell (Or.inr (Nat.le_refl _)) _
      have hs3 : W3.heap.size = w2.heap.size := by rw [← hW3]; simp
      have hfz := hbn2.frozen 2
      have n2 := hbn2.cell 2
      simp only [List.getElem?_toArray, List.getElem?_cons_zero, List.getElem?_cons_succ] at n2
      have d0 := hb3.cell 0
      have d1 := hb3.cell 1
      have d2 := hb3.cell 2
      simp only [List.getElem?_toArray, List.getElem?_cons_zero, List.getElem?_cons_succ] at d0 d1 d2
      have hrb3 : RB W3 (fun b => D.heap.size ≤ b ∧ b < W3.heap.size) A2 m d := by
        have h1 := hrb2.mono (T := fun b => D.heap.size ≤ b ∧ b < W3.heap.size) fun b hlt hb => ⟨hb, by rw [hs3]; exact hlt⟩
        rw [← hW3]
        rw [← hW3] at h1
        exact h1.far (fun hb => by have := HDS.out; have h2 := hb.1; simp only at h2; omega) _
      have hown3 : OwC W3 (fun b => S b ∧ b < wr.heap.size) (fun b => (T b ∧ b < wr.heap.size) ∨ (D.heap.size ≤ b ∧ b < W3.heap.size)) (.slice vA k vc) k lk :=
        ((HC.out.o.mono (S' := fun b => S b ∧ b < wr.heap.size) (T' := fun b => (T b ∧ b < wr.heap.size) ∨ (D.heap.size ≤ b ∧ b < W3.heap.size)) (fun b hlt hb => ⟨hb, hlt⟩) (fun b hlt hb => Or.inl ⟨hb, hlt⟩) (fun q hq hT => by
          have h1 := (HC.out.o.1.lt q hq).2
          rcases hT with hT | hT
          · exact HC.out.o.2.2.2 q hq hT.1
          · have := HDS.out; omega))).fr hfr
      have hxin : CV.In W3 (fun b => (T b ∧ b < wr.heap.size) ∨ (D.heap.size ≤ b ∧ b < W3.heap.size)) ⟨u, kk, A2, m, c2', d⟩ :=
        ⟨hrb3.mono fun b _ hb => Or.inr hb, HXI.out.k, hmc2, HXI.out.ml, hnz2⟩
      have hone := CR.one W3 All _ ⟨u, kk, A2, m, c2', d⟩ W3.heap.size rfl trivial hxin
      have HONE := Lib.hid hone
      have HOWN := Lib.hid (hown3.alloc (.cells #[.bool u, .int .u32 (kk : Int), .slice A2 m c2'] 48))
      have HFR := Lib.hid (HC.out.f.trans hfr fun _ hn => hn.elim)
      have HS3 := Lib.hid (show wr.heap.size ≤ W3.heap.size from hfr.size)
      have HWD := Lib.hid (show W.heap.size ≤ D.heap.size by have := HDS.out; omega)
      simp only at HONE HOWN
      clear hnew hb2 hbn2 hb3 hfr hrb3 hown3 hxin hone hrb2 hs3
      go_wp2_with (at_builtin; go_must (refine wpList_appC rfl (.tmp 22) (.tmp 24) rfl _ k lk rfl HOWN.out (some ⟨W3.heap.size, 0, none⟩) 1 1 [⟨u, kk, A2, m, c2', d⟩] rfl HONE.out (by omega) ?_); intro v1 w4 hown hgrow; have HO4 := Lib.hid hown; have HG4 := Lib.hid hgrow; clear hown hgrow)
      go_roundw
      case rel =>
        refine ⟨k + 1, _, _, _, by omega, by go_num, HO4.out, ?_, ?_, ?_, ?_⟩
        · rw [List.map_append, HC.out.e, List.take_succ_eq_append_getElem (by have := HL.out; omega), List.map_append]
          have := HX.out
          rw [List.getElem?_eq_getElem (by have := HL.out; omega)] at this
          injection this with this
          rw [this]
          rfl
        · intro b hb
          rcases hb with hb | hb
          · exact HC.out.s0 b hb.1
          · have := HS3.out; simp at hb; omega
        · intro b hb
          rcases hb.1 with hb | hb
          · exact HC.out.t0 b hb.1
          · have := HWD.out; omega
        · exact (HFR.out.alloc _).grown HG4.out fun q hq => Or.inr (HC.out.s0 q (HC.out.o.2.2.1 q hq))
      case measure => simp [intOf]; omega
    · have h1d : decide ((k : Int) < (n : Int)) = false := decide_eq_false (by omega)
      have h1d2 : decide (k < n) = false := decide_eq_false hlt
      have HKN := Lib.hid (show k = n by omega)
      have hbx2 := HBX.out.below hbW (by have := HSZ.out; omega)
      have hbr2 := HBR.out.below hbW (by have := HSZ.out; have := HSZ1.out; omega)
      have hfz := hbx2.frozen 3
      have n3 := hbx2.cell 3
      simp only [pcs, List.getElem?_toArray, List.getElem?_cons_zero, List.getElem?_cons_succ] at n3
      obtain ⟨E, hE⟩ : ∃ E, wr.setCell ⟨w.heap.size, 3, none⟩ (.slice vA k vc) = E := ⟨_, rfl⟩
      have hbx3 : Blk E w.heap.size 51 #[.int .i64 pk, .int .u64 (ps : Int), .int .u32 (px : Int), .slice vA k vc] := by rw [← hE]; exact hbx2.set_ 3 _
      have hbr3 : Blk E W1.heap.size 51 #[.int .i64 0, .int .u64 0, .int .u32 0, .slice none 0 0] := by rw [← hE]; exact hbr2.far (by have := HSZ1.out; simp only; omega) _
      have e0 := hbx3.cell 0
      have e1 := hbx3.cell 1
      have e2 := hbx3.cell 2
      have e3 := hbx3.cell 3
      simp only [List.getElem?_toArray, List.getElem?_cons_zero, List.getElem?_cons_succ] at e0 e1 e2 e3
      have r0 := hbr3.cell 0
      have r1 := hbr3.cell 1
      have r2 := hbr3.cell 2
      have r3 := hbr3.cell 3
      have q0 := hbr3.frozen 0
      have q1 := hbr3.frozen 1
      have q2 := hbr3.frozen 2
      have q3 := hbr3.frozen 3
      simp only [List.getElem?_toArray, List.getElem?_cons_zero, List.getElem?_cons_succ] at r0 r1 r2 r3
      have hfE : Fr wr E (fun b => b = w.heap.size ∨ b = W1.heap.size) := by rw [← hE]; exact (Fr.refl _ _).setCell (Or.inl (Or.inl rfl)) _
      obtain ⟨G, hG⟩ : ∃ G, (((E.setCell ⟨W1.heap.size, 0, none⟩ (.int .i64 pk)).setCell ⟨W1.heap.size, 1, none⟩ (.int .u64 (ps : Int))).setCell ⟨W1.heap.size, 2, none⟩ (.int .u32 (px : Int))).setCell ⟨W1.heap.size, 3, none⟩ (.slice vA k vc) = G := ⟨_, rfl⟩
      have hbg : Blk G W1.heap.size 51 #[.int .i64 pk, .int .u64 (ps : Int), .int .u32 (px : Int), .slice vA k vc] := by rw [← hG]; exact (((hbr3.set_ 0 _).set_ 1 _).set_ 2 _).set_ 3 _
      have hfG : Fr wr G (fun b => b = w.heap.size ∨ b = W1.heap.size) := by
        rw [← hG]
        exact (((hfE.setCell (Or.inl (Or.inr rfl)) _).setCell (Or.inl (Or.inr rfl)) _).setCell (Or.inl (Or.inr rfl)) _).setCell (Or.inl (Or.inr rfl)) _
      have g0 := hbg.cell 0
      have g1 := hbg.cell 1
      have g2 := hbg.cell 2
      have g3 := hbg.cell 3
      simp only [List.getElem?_toArray, List.getElem?_cons_zero, List.getElem?_cons_succ] at g0 g1 g2 g3
      have HFG := Lib.hid hfG
      clear hbx2 hbr2 hbx3 hfE hcp hfG hbg
      go_wp2_with fail
      refine bodyPost_ret (v := .agg #[.int .i64 pk, .int .u64 (ps : Int), .int .u32 (px : Int), .slice vA k vc]) (by simp [results, Try.results44, go_sem, g0, g1, g2, g3]) rfl ?_
      refine ⟨⟨pk, ps, px, vA, k, vc, lk⟩, S, T, rfl, ⟨HC.out.o.keep HFG.out (fun b hb hn => ?_) (fun b hb hn => ?_), by show k ≤ _; omega, HK.out.1.1, HK.out.1.2, HK.out.2.1, HK.out.2.2⟩, fun b hb => Nat.le_trans HBW.out.size (HC.out.s0 b hb), fun b hb => Nat.le_trans HBW.out.size (HC.out.t0 b hb), ?_, rfl, rfl, rfl, HKN.out, ?_⟩
      · have := HC.out.s0 b hb; have := HSZ.out; have := HSZ1.out; omega
      · have := HC.out.t0 b hb; have := HSZ.out; have := HSZ1.out; omega
      · show lk.map CV.e = l.map CV.e
        rw [HC.out.e, List.take_of_length_le (by have := HL.out; have := HKN.out; omega)]
      · exact HBW.out.trans ((HC.out.f.below (fun _ hb => hb.elim) HBW.out.size).trans (HFG.out.below (fun b hb => by have := HSZ1.out; omega) (by have := HBW.out.size; omega)))
end Go.Proofs.Ytcajidlekfkjlaa
