/-
  THE WALK OF the document's Encode.
-/
import Derived.Test.YtajmpoanmdgmpaaPM
namespace Go.Proofs.Ytajmpoanmdgmpaa
open Go.RowKit

theorem Own.up {w wr w1 : World} {v : Value} {l : List Nat} (h : Own w wr v l) (hb : Below wr.heap.size wr w1) : Own w w1 v l :=
  ⟨h.1.keep (Fr.of_below hb No) fun _ _ hn => hn, h.2.trans (hb.mono h.2.size)⟩
theorem two_rb (w : World) (x y : Nat) (hx : x < 256) (hy : y < 256) : Ow (w.alloc (.cells #[.int .u8 (x : Int), .int .u8 (y : Int)] 5)) (fun b => w.heap.size ≤ b) (.slice (some ⟨w.heap.size, 0, none⟩) 2 2) 2 [x, y] := by
  refine ⟨⟨rfl, Or.inr ⟨w.heap.size, 2, _, rfl, Nat.zero_le _, heap_alloc_new w _, Nat.le_refl _, by simp [maxLen], rfl, rfl⟩⟩, ?_, fun k hk => ?_⟩
  · intro z hz
    simp at hz
    omega
  · simp [Value.ownBlock] at hk
    omega
def slN : Value → Nat
  | .slice _ n _ => n
  | _ => 0
def REncO (w : World) (l : List Nat) (e : Ending) (w' : World) : Prop := ∃ v, e = .returned v ∧ Ow w' (fun b => w.heap.size ≤ b) v 512 l ∧ Below w.heap.size w w'
set_option maxRecDepth 100000 in
theorem rencode_no (p : PV) (w : World) (h : p.In w All All) (hf : Few p) (hm : may p.k p.es = false) : Calls Try.prog 24 #[p.agg] w fun e w' => e = .returned (.slice none 0 0) ∧ Below w.heap.size w w' := by
  obtain ⟨W, hW, hBW, hbx, hsz⟩ := box_page w p
  obtain ⟨y0, y1, y2, y3⟩ := pcs_cells hbx
  have hmy := rmay_any p W (h.below hBW) hf
  rw [hm] at hmy
  have HM := Lib.hid hmy
  have HBW := Lib.hid hBW
  obtain ⟨pk, ps, px, A, n, c, l⟩ := p
  simp only at hW y0 y1 y2 y3
  simp only [PV.agg] at HM ⊢
  clear h hf hm hBW hbx hsz hmy
  go_enter Try.func24, Try.ntmps24
  go_wp2_with fail
  refine HM.out.mono ?_
  rintro e w1 ⟨rfl, hb1⟩
  have HB1 := Lib.hid hb1
  clear hb1
  go_wp2_with fail
  go_ret
  exact ⟨rfl, HBW.out.trans (HB1.out.mono HBW.out.size)⟩
theorem head_eq (kn n ps px : Nat) (hk : kn < 256) (hn : n < 256) : (([kn, n] ++ Cd.fixB 8 ps) ++ Cd.fixB 4 px) = headB kn n ps px := by
  unfold headB
  have e1 : Cd.fixB 1 kn = [kn] := by show [kn % 256] = [kn]; rw [Nat.mod_eq_of_lt hk]
  have e2 : Cd.fixB 1 n = [n] := by show [n % 256] = [n]; rw [Nat.mod_eq_of_lt hn]
  rw [e1, e2]
  rfl
set_option maxHeartbeats 4000000 in
set_option maxRecDepth 100000 in
theorem rencode_yes (p : PV) (w : World) (h : p.In w All All) (hf : Few p) (hm : may p.k p.es = true) : Calls Try.prog 24 #[p.agg] w (REncO w (encB p.k.toNat p.s p.x p.es)) := by
  obtain ⟨W, hW, hBW, hbx, hsz⟩ := box_page w p
  obtain ⟨y0, y1, y2, y3⟩ := pcs_cells hbx
  obtain ⟨hall, hk⟩ := may_parts hm
  obtain ⟨hz1, hz2, hz3⟩ := may_psz hm
  have hmy := rmay_any p W (h.below hBW) hf
  rw [hm] at hmy
  have HM := Lib.hid hmy
  have HP := Lib.hid (h.below hBW)
  have HBW := Lib.hid hBW
  have HBX := Lib.hid hbx
  have HSZ := Lib.hid hsz
  have HE1 : Hid (p.es.length = p.n) := h.len
  have hs64 := h.s
  have hx32 := h.x
  obtain ⟨kn, hkn, hkn2, hkn3⟩ : ∃ kn : Nat, p.k = (kn : Int) ∧ kn < 256 ∧ p.k.toNat = kn := ⟨p.k.toNat, by omega, by omega, rfl⟩
  rw [hkn3]
  obtain ⟨pk, ps, px, A, n, c, l⟩ := p
  simp only at hW y0 y1 y2 y3 hkn hs64 hx32
  subst hkn
  have HALL := Lib.hid hall
  have hn60 : n ≤ 60 := by have h1 : (PV.es ⟨(kn : Int), ps, px, A, n, c, l⟩).length = n := HE1.out; omega
  have HZ := Lib.hid hz1
  have HBO := Lib.hid (show bodyB kn ps px (l.map CV.e) = (headB kn n ps px ++ cellsB (l.map CV.e)) ++ List.replicate (508 - (headB kn n ps px ++ cellsB (l.map CV.e)).length) 0 by
    have h1 : (l.map CV.e).length = n := HE1.out
    rw [bodyB, h1])
  have HEB := Lib.hid (show encB kn ps px (l.map CV.e) = Cd.fixB 4 (Crc.more 0 (bodyB kn ps px (l.map CV.e))) ++ bodyB kn ps px (l.map CV.e) from rfl)
  have w8a : IntKind.u8.wrap (kn : Int) = (kn : Int) := by rw [IntKind.wrap_u8]; omega
  have w8b : IntKind.u8.wrap (n : Int) = (n : Int) := by rw [IntKind.wrap_u8]; omega
  have w64 : IntKind.u64.wrap (px : Int) = (px : Int) := by rw [IntKind.wrap_u64]; omega
  clear h hf hm hall hk hz1 hz2 hz3 hbx hBW hsz hkn3 hmy
  simp only [PV.agg, PV.es] at HM ⊢
  go_enter Try.func24, Try.ntmps24
  go_wp2_with fail
  refine HM.out.mono ?_
  rintro e w1 ⟨rfl, hb1⟩
  have HO : Hid (Own W (w1.alloc (.cells #[.int .u8 (kn : Int), .int .u8 (n : Int)] 5)) (.slice (some ⟨w1.heap.size, 0, none⟩) 2 2) [kn, n]) :=
    ⟨(two_rb w1 kn n hkn2 (by omega)).mono fun b _ hb => Nat.le_trans hb1.size hb, hb1.alloc hb1.size _⟩
  obtain ⟨y0, y1, y2, y3⟩ := pcs_cells (HBX.out.below hb1 (by have := HSZ.out; omega))
  obtain ⟨z0, z1, z2, z3⟩ := pcs_cells (HBX.out.below HO.out.2 (by have := HSZ.out; omega))
  simp only at y0 y1 y2 y3 z0 z1 z2 z3
  clear hb1 HM
  have HFX := Lib.hid (rfixed_any (w1.alloc (.cells #[.int .u8 (kn : Int), .int .u8 (n : Int)] 5)) ps 8 (by omega) (by omega))
  go_wp2_with fail
  refine HFX.out.mono ?_
  rintro e w2 ⟨vf, rfl, hnew, hbf⟩
  obtain ⟨Af, cf, rfl, _, _, hrf⟩ := hnew.reads
  rw [Cd.fixB_len] at hrf
  rw [Cd.fixB_len]
  have HO2 := Lib.hid (HO.out.up hbf)
  have HRF := Lib.hid (hrf.mono (T := All) fun _ _ _ => trivial)
  have HBF := Lib.hid hbf
  clear hnew hrf HFX HO
  go_wp2_with (at_builtin; go_must (refine wpList_app rfl (.tmp 17) (.tmp 20) rfl _ _ _ rfl HO2.out.1 All Af 8 cf (Cd.fixB 8 ps) rfl HRF.out (by simp) ?_); intro v1 w9 hown hgrow; have HO := Lib.hid (Own.step HO2.out hgrow hown); obtain ⟨y0, y1, y2, y3⟩ := pcs_cells (HBX.out.below HO.out.2 (by have := HSZ.out; omega)); simp only at y0 y1 y2 y3; clear hown hgrow)
  have HFX := Lib.hid (rfixed_any w9 px 4 (by omega) (by omega))
  go_wp2_with fail
  refine HFX.out.mono ?_
  rintro e w10 ⟨vf, rfl, hnew, hbf⟩
  obtain ⟨Af, cf, rfl, _, _, hrf⟩ := hnew.reads
  rw [Cd.fixB_len] at hrf
  rw [Cd.fixB_len]
  have HO2 := Lib.hid (HO.out.up hbf)
  have HRF := Lib.hid (hrf.mono (T := All) fun _ _ _ => trivial)
  have HBF := Lib.hid hbf
  clear hnew hrf HFX HO
  go_wp2_with (at_builtin; go_must (refine wpList_app rfl (.tmp 22) (.tmp 26) rfl _ _ _ rfl HO2.out.1 All Af 4 cf (Cd.fixB 4 px) rfl HRF.out (by simp [Cd.fixB_len]) ?_); intro v2 w11 hown hgrow; have HO := Lib.hid (Own.step HO2.out hgrow hown); clear hown hgrow)
  have HO0 := Lib.hid (show Own W w11 v2 (headB kn n ps px ++ cellsB ((l.map CV.e).take 0)) by
    have h := HO.out
    rw [head_eq kn n ps px hkn2 (by omega)] at h
    show Own W w11 v2 (headB kn n ps px ++ [])
    rw [List.append_nil]
    exact h)
  clear HO
  go_loopw [3, 4] (fun v i wr => ∃ (k : Nat) (u : Value), k ≤ n ∧ i = .int .i64 (k : Int) ∧ u = v ∧ Own W wr u (headB kn n ps px ++ cellsB ((l.map CV.e).take k))) (fun _ i _ => n - (intOf i).toNat)
  case atStart => exact ⟨0, v2, by omega, rfl, rfl, HO0.out⟩
  case round =>
    obtain ⟨k, u0, hk, rfl, rfl, hown⟩ := hrel
    have HOW := Lib.hid hown
    have hbw := hown.2
    obtain ⟨y0, y1, y2, y3⟩ := pcs_cells (HBX.out.below hbw (by have := HSZ.out; omega))
    simp only at y0 y1 y2 y3
    have hlen1 : (headB kn n ps px ++ cellsB ((l.map CV.e).take k)).length + 4 = psz ((l.map CV.e).take k) := by
      have h1 := cellsB_len (es := (l.map CV.e).take k) (by
        rw [List.all_eq_true]
        intro x hx
        exact List.all_eq_true.1 HALL.out x (List.mem_of_mem_take hx))
      rw [List.length_append, headB_len]
      omega
    have hlen2 := psz_mono (l.map CV.e) k
    have hz : psz (l.map CV.e) ≤ 512 := HZ.out
    have hlen3 : (headB kn n ps px ++ cellsB ((l.map CV.e).take k)).length ≤ 508 := by omega
    have HL3 := Lib.hid hlen3
    clear hlen1 hlen2 hz hown
    by_cases hlt : k < n
    · obtain ⟨gg, o, x, rfl, hgg, _, hx, hxi, b0, b1, b2⟩ := (HP.out.r.below hbw).at_ hlt
      have HX := Lib.hid (es_at hx)
      have hxc : cmay x.e = true := List.all_eq_true.1 HALL.out x.e (List.mem_map_of_mem (List.mem_of_getElem? hx))
      have hDB : Below wr.heap.size wr (wr.alloc (.cells #[.bool x.u, .int .u32 (x.k : Int), .slice x.A x.m x.c] 58)) := (Below.refl _ _).alloc (Nat.le_refl _) _
      have hbn := Blk.new wr 58 #[.bool x.u, .int .u32 (x.k : Int), .slice x.A x.m x.c]
      obtain ⟨D, hD⟩ : ∃ D, wr.alloc (.cells #[.bool x.u, .int .u32 (x.k : Int), .slice x.A x.m x.c] 58) = D := ⟨_, rfl⟩
      rw [hD] at hDB hbn
      have c0 := hbn.cell 0
      have c1 := hbn.cell 1
      have c2 := hbn.cell 2
      simp only [List.getElem?_toArray, List.getElem?_cons_zero, List.getElem?_cons_succ] at c0 c1 c2
      have HO := Lib.hid (HOW.out.up hDB)
      obtain ⟨B, hB⟩ : ∃ B, B = headB kn n ps px ++ cellsB ((l.map CV.e).take k) := ⟨_, rfl⟩
      rw [← hB] at HO HL3
      have HXI := Lib.hid (((HP.out.r.2.1 x (List.mem_of_getElem? hx)).b.mono (T := fun b => b < W.heap.size) fun b hlt _ => hlt))
      have HBC := Lib.hid hbn
      have hk32 := hxi.k
      have hdl := hxi.len
      have hm180 : x.m ≤ 180 := by
        have h9 := hxc
        unfold cmay at h9
        have hd : x.e.d.length = x.m := hdl
        cases hu : x.e.u with
        | true => rw [hu] at h9; simp only [if_true, Bool.and_eq_true, decide_eq_true_eq] at h9; omega
        | false => rw [hu] at h9; simp only [Bool.false_eq_true, if_false, Bool.and_eq_true, beq_iff_eq] at h9; omega
      have hWi : IntKind.i64.wrap ((k : Int) + 1) = ((k + 1 : Nat) : Int) := by rw [IntWalk.i64_in _ (by omega)]; omega
      have hin : ((k : Int) < (n : Int)) := by omega
      obtain ⟨u, kk, xA, m, xc, d⟩ := x
      simp only at b0 b1 b2 c0 c1 c2 hD hk32 hdl hm180 HXI HBC
      have w64b : IntKind.u64.wrap (m : Int) = (m : Int) := by rw [IntKind.wrap_u64]; omega
      have w64c : IntKind.u64.wrap (kk : Int) = (kk : Int) := by rw [IntKind.wrap_u64]; omega
      have HCB := Lib.hid (show cellB (CV.e ⟨u, kk, xA, m, xc, d⟩) = Cd.fixB 2 m ++ if u then Cd.fixB 4 kk ++ d else [] by rw [← hdl]; rfl)
      have HBB := Lib.hid hB
      clear hx hxi hxc hDB hbn hB
      have HFX := Lib.hid (rfixed_any D m 2 (by omega) (by omega))
      go_wp2_with fail
      refine HFX.out.mono ?_
      rintro e w12 ⟨vf, rfl, hnew, hbf⟩
      obtain ⟨Af, cf, rfl, _, _, hrf⟩ := hnew.reads
      rw [Cd.fixB_len] at hrf
      rw [Cd.fixB_len]
      have HO2 := Lib.hid (HO.out.up hbf)
      have HRF := Lib.hid (hrf.mono (T := All) fun _ _ _ => trivial)
      have HBF := Lib.hid hbf
      clear hnew hrf HFX HO
      have hbc := HBC.out.below HBF.out HBC.out.lt
      have HBC := Lib.hid hbc
      have c0 := hbc.cell 0
      have c1 := hbc.cell 1
      have c2 := hbc.cell 2
      simp only [List.getElem?_toArray, List.getElem?_cons_zero, List.getElem?_cons_succ] at c0 c1 c2
      clear hbc
      cases u with
      | false =>
        go_wp2_with (at_builtin; go_must (refine wpList_app rfl (.tmp 40) (.tmp 45) rfl _ _ _ rfl HO2.out.1 All Af 2 cf (Cd.fixB 2 m) rfl HRF.out (by have := HL3.out; rw [← HO2.out.1.len]; simp at *; omega) ?_); intro v1 w9 hown hgrow; have HO := Lib.hid (Own.step HO2.out hgrow hown); have HBC := Lib.hid (HBC.out.grown hgrow (Blk.own_ne HBC.out HO2.out.1.1 (by decide))); have c0 := HBC.out.cell 0; have c1 := HBC.out.cell 1; have c2 := HBC.out.cell 2; simp only [List.getElem?_toArray, List.getElem?_cons_zero, List.getElem?_cons_succ] at c0 c1 c2; clear hown hgrow)
        go_roundw
        case rel =>
          refine ⟨k + 1, _, by omega, by go_num, rfl, ?_⟩
          have h := HO.out
          rw [cellsB_take HX.out, ← List.append_assoc, ← HBB.out, HCB.out]
          simp only [Bool.false_eq_true, if_false, List.append_nil]
          exact h
        case measure => simp [intOf]; omega
      | true =>
        go_wp2_with (at_builtin; go_must (refine wpList_app rfl (.tmp 40) (.tmp 45) rfl _ _ _ rfl HO2.out.1 All Af 2 cf (Cd.fixB 2 m) rfl HRF.out (by have := HL3.out; omega) ?_); intro v1 w9 hown hgrow; have HO := Lib.hid (Own.step HO2.out hgrow hown); have HBC := Lib.hid (HBC.out.grown hgrow (Blk.own_ne HBC.out HO2.out.1.1 (by decide))); have c0 := HBC.out.cell 0; have c1 := HBC.out.cell 1; have c2 := HBC.out.cell 2; simp only [List.getElem?_toArray, List.getElem?_cons_zero, List.getElem?_cons_succ] at c0 c1 c2; clear hown hgrow)
        have HFX := Lib.hid (rfixed_any w9 kk 4 (by omega) (by omega))
        go_wp2_with fail
        refine HFX.out.mono ?_
        rintro e w12b ⟨vf, rfl, hnew, hbf⟩
        obtain ⟨Af, cf, rfl, _, _, hrf⟩ := hnew.reads
        rw [Cd.fixB_len] at hrf
        rw [Cd.fixB_len]
        have HO2 := Lib.hid (HO.out.up hbf)
        have HRF := Lib.hid (hrf.mono (T := All) fun _ _ _ => trivial)
        have HBF := Lib.hid hbf
        clear hnew hrf HFX HO
        have hbc := HBC.out.below HBF.out HBC.out.lt
        have HBC := Lib.hid hbc
        have c0 := hbc.cell 0
        have c1 := hbc.cell 1
        have c2 := hbc.cell 2
        simp only [List.getElem?_toArray, List.getElem?_cons_zero, List.getElem?_cons_succ] at c0 c1 c2
        clear hbc
        go_wp2_with (first
          | (at_builtin; refine wpList_app rfl (.tmp 49) (.tmp 53) rfl _ _ _ rfl HO2.out.1 All Af 4 cf (Cd.fixB 4 kk) rfl HRF.out (by have := HL3.out; simp only [List.length_append, Cd.fixB_len]; omega) ?_; intro v2 w13 hown hgrow; have HO3 := Lib.hid (Own.step HO2.out hgrow hown); have HBC := Lib.hid (HBC.out.grown hgrow (Blk.own_ne HBC.out HO2.out.1.1 (by decide))); have c0 := HBC.out.cell 0; have c1 := HBC.out.cell 1; have c2 := HBC.out.cell 2; simp only [List.getElem?_toArray, List.getElem?_cons_zero, List.getElem?_cons_succ] at c0 c1 c2; have HRD := Lib.hid ((HXI.out.below HO3.out.2 fun b hb => hb).mono (T := All) fun _ _ _ => trivial); clear hown hgrow HO2)
          | (at_builtin; go_must (refine wpList_app rfl (.tmp 55) (.tmp 57) rfl _ _ _ rfl HO3.out.1 All xA m xc d rfl HRD.out (by have := HL3.out; simp only [List.length_append, Cd.fixB_len]; omega) ?_); intro v3 w14 hown hgrow; have HO := Lib.hid (Own.step HO3.out hgrow hown); clear hown hgrow))
        go_roundw
        case rel =>
          refine ⟨k + 1, _, by omega, by go_num, rfl, ?_⟩
          have h := HO.out
          rw [cellsB_take HX.out, ← List.append_assoc, ← HBB.out, HCB.out]
          simp only [if_true]
          rw [← List.append_assoc, ← List.append_assoc]
          exact h
        case measure => simp [intOf]; omega
    · have h1d : decide ((k : Int) < (n : Int)) = false := decide_eq_false (by omega)
      have h1d2 : decide (k < n) = false := decide_eq_false hlt
      have htk : (l.map CV.e).take k = l.map CV.e := List.take_of_length_le (by have h1 : (l.map CV.e).length = n := HE1.out; omega)
      rw [htk] at HOW HL3
      obtain ⟨B, hB⟩ : ∃ B, B = headB kn n ps px ++ cellsB (l.map CV.e) := ⟨_, rfl⟩
      rw [← hB] at HOW HL3 HBO
      have HBW2 := Lib.hid hbw
      clear htk hB
      go_wp2
      go_loopw [3] (fun v wy => ∃ (j : Nat) (u : Value), B.length + j ≤ 508 ∧ u = v ∧ Own W wy u (B ++ List.replicate j 0)) (fun v _ => 508 - slN v)
      case atStart => exact ⟨0, _, by have := HL3.out; omega, rfl, by simpa using HOW.out⟩
      case round =>
        obtain ⟨j, u0, hj, rfl, hown⟩ := hrel
        have HO2 := Lib.hid hown
        have hlB : (B ++ List.replicate j 0).length = B.length + j := by simp
        obtain ⟨A9, c9, rfl, _, _, hr9⟩ := hown.1.reads
        obtain ⟨q, hq⟩ : ∃ q, q = B.length + j := ⟨_, rfl⟩
        rw [hlB, ← hq] at hr9 ⊢
        have HR9 := Lib.hid (hr9.mono (T := All) fun _ _ _ => trivial)
        have hoq := HO2.out.1
        rw [hlB, ← hq] at hoq
        have HOq := Lib.hid hoq
        have hbq := HO2.out.2
        have HQ := Lib.hid hq
        have hq5 : q ≤ 508 := by omega
        clear hown hlB hr9 hq hoq
        by_cases hlt5 : q < 508
        · have e1 : decide ((q : Int) < 508) = true := decide_eq_true (by omega)
          have e2 : decide (q < 508) = true := decide_eq_true hlt5
          go_wp2_with (at_builtin; go_must (refine wpList_app rfl (.tmp 62) (.tmp 63) rfl _ q _ rfl (HOq.out.alloc _) All _ 1 1 [0] rfl (one_rb _ 0 (by omega) All trivial) (by omega) ?_); intro v1 w9 hown hgrow; have HO := Lib.hid (show Ow w9 (fun b => W.heap.size ≤ b) v1 (q + 1) (B ++ List.replicate (j + 1) 0) by rw [List.replicate_succ', ← List.append_assoc]; exact hown.mono fun b _ hb => hb.elim id fun h => by have := hbq.size; simp at h; omega); have HB9 := Lib.hid ((hbq.alloc hbq.size _).grown hgrow (by have := hbq.size; simp; omega) fun k hk => HOq.out.2.2 k hk); clear hown hgrow)
          go_roundw
          case rel => exact ⟨j + 1, _, by have := HQ.out; omega, rfl, by have h := HO.out; rw [show q + 1 = (B ++ List.replicate (j + 1) 0).length by simp; have := HQ.out; omega] at h; exact h, HB9.out⟩
          case measure =>
            obtain ⟨A8, c8, rfl, _, _, _⟩ := HO.out.reads
            simp [slN]
            omega
        · have e1 : decide ((q : Int) < 508) = false := decide_eq_false (by omega)
          have e2 : decide (q < 508) = false := decide_eq_false hlt5
          obtain rfl : q = 508 := by omega
          have HBD := Lib.hid (show B ++ List.replicate j 0 = bodyB kn ps px (l.map CV.e) by rw [HBO.out]; congr 2; have := HQ.out; omega)
          rw [HBD.out] at HR9 HOq
          obtain ⟨Z, hZ⟩ : ∃ Z, Z = bodyB kn ps px (l.map CV.e) := ⟨_, rfl⟩
          rw [← hZ] at HR9 HOq HEB
          have HRO := Lib.hid (rof_any A9 508 c9 Z _ (by simp [maxLen]) HR9.out)
          obtain ⟨y, hy⟩ : ∃ y, y = Crc.more 0 Z := ⟨_, rfl⟩
          have hy32 : y < 4294967296 := by rw [hy]; exact Crc.more_lt (by decide) HR9.out.lt
          rw [← hy] at HRO HEB
          have w64y : IntKind.u64.wrap (y : Int) = (y : Int) := by rw [IntKind.wrap_u64]; omega
          clear hZ hy
          have HBq := Lib.hid hbq
          have HFX := Lib.hid (fun w' => rfixed_any w' y 4 (by omega) (by omega))
          go_wp2_with fail
          refine HRO.out.mono ?_
          rintro e w' ⟨rfl, rfl⟩
          go_wp2_with fail
          refine (HFX.out _).mono ?_
          rintro e w10 ⟨vf, rfl, hnew, hbf⟩
          have HRZ := Lib.hid (HR9.out.keep (Fr.of_below hbf No) fun _ _ hn => hn)
          have hnw := hnew
          rw [Cd.fixB_len] at hnw
          have HNF := Lib.hid hnw
          have HBf := Lib.hid hbf
          clear hnew hnw hbf
          go_wp2_with (at_builtin; go_must (refine wpList_app rfl (.tmp 68) (.tmp 69) rfl _ 4 (Cd.fixB 4 y) rfl HNF.out All A9 508 c9 Z rfl HRZ.out (by omega) ?_); intro v1 w11 hown hgrow; have HOF := Lib.hid hown; have HGF := Lib.hid hgrow; clear hown hgrow)
          go_ret
          have hbW : Below W.heap.size W w10 := HBq.out.trans (HBf.out.mono HBq.out.size)
          refine ⟨v1, rfl, ?_, HBW.out.trans ((hbW.grown HGF.out hbW.size fun k hk => Nat.le_trans HBq.out.size (HNF.out.2.2 k hk)).mono HBW.out.size)⟩
          have he : encB kn ps px (l.map CV.e) = Cd.fixB 4 y ++ Z := HEB.out
          show Ow w11 _ v1 512 (encB kn ps px (l.map CV.e))
          rw [he]
          exact HOF.out.mono fun b _ hb => hb.elim (fun h => by have := HBq.out.size; have := HBW.out.size; omega) fun h => by have := hbW.size; have := HBW.out.size; omega
end Go.Proofs.Ytajmpoanmdgmpaa
