/-
  RecordBytes: THE WALK.
-/
import Derived.Test.YtdhgbkibbileiaaGreatTK
import Derived.Test.YtdhgbkibbileiaaGreatUC
import Derived.Test.YtdhgbkibbileiaaGreatSQ
import Derived.Test.YtdhgbkibbileiaaGreatPW
namespace Go.Proofs.YtdhgbkibbileiaaGreat
open Go.RowKit
theorem Brief.e {w : World} {T : Nat → Prop} {r : RV} (h : r.In w T) (hb : Brief r) : BriefE r.e := by
  have h1 : r.o.d.length = r.o.m := h.o.b.len
  have h2 := h.i.1
  have h3 := h.l.1
  have h4 := h.d.1
  refine ⟨?_, ?_, fun x hx => ?_, ?_, ?_, ?_⟩
  · show r.o.d.length ≤ 2000; rw [h1]; exact hb.o
  · show (r.il.map IV.e).length ≤ 20001; rw [List.length_map, h2]; exact hb.i
  · obtain ⟨y, hy, rfl⟩ := List.mem_map.1 hx
    obtain ⟨p1, p2, p3⟩ := hb.p y hy
    have hyi := h.i.2.1 y hy
    refine ⟨?_, fun z hz => ?_, ?_⟩
    · show (y.p.l.map CV.e).length ≤ _; rw [List.length_map, hyi.p.r.1]; exact p1
    · obtain ⟨u, hu, rfl⟩ := List.mem_map.1 hz
      show u.d.length ≤ _
      rw [(hyi.p.r.2.1 u hu).len]
      exact p2 u hu
    · show ((y.p.l.map CV.e).flatMap encC).length ≤ _; rw [List.flatMap_map]; exact p3
  · show ((r.il.map IV.e).flatMap encIE).length ≤ _; rw [List.flatMap_map]; exact hb.it
  · show r.ll.length ≤ _; rw [h3]; exact hb.l
  · show r.dl.length ≤ _; rw [h4]; exact hb.d
namespace recordBytes
section
attribute [local go_sem high] run_neqL run_eqL
set_option maxHeartbeats 16000000 in
set_option maxRecDepth 100000 in
theorem walked (r : RV) (w : World) (h : r.Came w) : Calls Tryz.prog 3 #[r.agg] w (Alive w) := by
  obtain ⟨W, hW, hBW, hbx, hsz⟩ := box_rv w r
  obtain ⟨y0, y1, y2, y3, y4, y5, y6, y7, y8, y9, y10, y11, y12, y13, y14⟩ := rcs_cells hbx
  have hh := h.inn.keep (Fr.of_below hBW No) fun _ _ hn => hn
  have HB_W := Lib.hid hBW
  have HX := Lib.hid hbx
  have HI := Lib.hid hh
  have HIb := Lib.hid (hh.mono (T' := fun b => b < W.heap.size) fun b hlt _ => hlt)
  have HWW : Hid (w.heap.size < W.heap.size) := Lib.hid (by omega)
  have HL := Lib.hid (long_r W r hh)
  have HAL := Lib.hid (fun W => alive_any W)
  simp only [rcs] at hW
  unfold RV.agg at HL ⊢
  clear h hBW hbx hsz hh
  go_enter Tryz.func3, Tryz.ntmps3
  go_wp2_with fail
  with_reducible refine HL.out.mono ?_
  unfold LongR
  rintro e w2 ⟨b, rfl, hb2, hbr⟩
  have HBR := Lib.hid hbr
  have HB2W := Lib.hid hb2
  have HB_w2 := Lib.hid (HB_W.out.trans (hb2.mono HB_W.out.size))
  have HX := Lib.hid (HX.out.below hb2 HX.out.lt)
  have HI := Lib.hid (HI.out.keep (Fr.of_below hb2 No) fun _ _ hn => hn)
  have HIb := Lib.hid (HIb.out.keep (Fr.of_below hb2 No) fun _ _ hn => hn)
  obtain ⟨y0, y1, y2, y3, y4, y5, y6, y7, y8, y9, y10, y11, y12, y13, y14⟩ := rcs_cells HX.out
  clear hb2 hbr HL
  cases b with
  | true =>
    go_wp2_with fail
    with_reducible refine (HAL.out _).mono ?_
    rintro e wA ⟨rfl, hbA⟩
    have HBA := Lib.hid hbA
    clear hbA
    go_wp2_with fail
    go_ret
    exact ⟨rfl, HB_w2.out.trans (HBA.out.mono HB_w2.out.size)⟩
  | false =>
    have HBQ : Hid (Brief r) := Lib.hid (HBR.out (by first | rfl | trivial))
    have HCP := Lib.hid (rcopy_any w2 r HI.out HBQ.out)
    have HBE := Lib.hid (HBQ.out.e HI.out)
    unfold RV.agg at HCP
    go_wp2_with fail
    with_reducible refine HCP.out.mono ?_
    unfold CopR
    rintro e w3 ⟨q, rfl, hqe, hqi, hb3⟩
    have HB23 := Lib.hid hb3
    have HQE := Lib.hid hqe
    have HQI := Lib.hid hqi
    have HB_w3 := Lib.hid (HB_w2.out.trans (hb3.mono HB_w2.out.size))
    have HX := Lib.hid (HX.out.below hb3 HX.out.lt)
    have HI := Lib.hid (HI.out.keep (Fr.of_below hb3 No) fun _ _ hn => hn)
    have HIb := Lib.hid (HIb.out.keep (Fr.of_below hb3 No) fun _ _ hn => hn)
    obtain ⟨y0, y1, y2, y3, y4, y5, y6, y7, y8, y9, y10, y11, y12, y13, y14⟩ := rcs_cells HX.out
    clear hb3 hqe hqi HCP
    obtain ⟨w3b, hw3b⟩ : ∃ w3b, w3.alloc (.cells (rcs q) 31) = w3b := ⟨_, rfl⟩
    have HX2 : Hid (Blk w3b w3.heap.size 31 (rcs q)) := Lib.hid (by rw [← hw3b]; exact Blk.new w3 31 _)
    have hb_w3b : Below w3.heap.size w3 w3b := by rw [← hw3b]; exact (Below.refl _ _).alloc (Nat.le_refl _) _
    have HB_w3b := Lib.hid (HB_w3.out.trans (hb_w3b.mono HB_w3.out.size))
    have HX := Lib.hid (HX.out.below hb_w3b HX.out.lt)
    have HI := Lib.hid (HI.out.keep (Fr.of_below hb_w3b No) fun _ _ hn => hn)
    have HIb := Lib.hid (HIb.out.keep (Fr.of_below hb_w3b No) fun _ _ hn => hn)
    have HQI := Lib.hid (HQI.out.keep (Fr.of_below hb_w3b No) fun _ _ hn => hn)
    obtain ⟨y0, y1, y2, y3, y4, y5, y6, y7, y8, y9, y10, y11, y12, y13, y14⟩ := rcs_cells HX.out
    obtain ⟨t0, t1, t2, t3, t4, t5, t6, t7, t8, t9, t10, t11, t12, t13, t14⟩ := rcs_cells HX2.out
    simp only [rcs] at hw3b
    clear hb_w3b
    have HQIb := Lib.hid (HQI.out.mono (T' := fun b => b < w3b.heap.size) fun b hlt _ => hlt)
    have HZW : W.heap.size ≤ w3b.heap.size := Nat.le_trans HB2W.out.size (Nat.le_trans HB23.out.size (by rw [← hw3b]; simp))
    have HZ3 : Hid (W.heap.size ≤ w3b.heap.size ∧ w3.heap.size < w3b.heap.size ∧ w.heap.size < w3b.heap.size) := Lib.hid ⟨HZW, HX2.out.lt, HX.out.lt⟩
    have HBQ' : Hid (Brief q) := Lib.hid (Brief.of_e HQI.out (by rw [HQE.out]; exact HBE.out))
    have HEN := Lib.hid (encode_e w3b r HI.out HBQ.out)
    unfold RV.agg at HEN
    simp only [RV.agg]
    obtain ⟨x, hx⟩ : ∃ x, x = bytesE r.e := ⟨_, rfl⟩
    obtain ⟨cx, hcx⟩ : ∃ cx, cx = codeE r.e := ⟨_, rfl⟩
    unfold EncE at HEN
    rw [← hx, ← hcx] at HEN
    obtain ⟨n, hn⟩ : ∃ n, n = x.length := ⟨_, rfl⟩
    rw [← hn] at HEN
    have HXE := Lib.hid (And.intro hx (And.intro hcx hn))
    have hnb : n ≤ 16384 := by rw [hn, hx]; exact bytesE_le r.e
    clear hx hcx hn
    go_wp2_with fail
    with_reducible refine HEN.out.mono ?_
    rintro e w4 ⟨A4, c4, rfl, _, _, _, ho4, hb4⟩
    have HO4 := Lib.hid ho4
    have HBW4 := Lib.hid hb4
    have HB_w4 := Lib.hid (HB_w3b.out.trans (hb4.mono HB_w3b.out.size))
    have HX := Lib.hid (HX.out.below hb4 HX.out.lt)
    have HX2 := Lib.hid (HX2.out.below hb4 HX2.out.lt)
    have HI := Lib.hid (HI.out.keep (Fr.of_below hb4 No) fun _ _ hn => hn)
    have HIb := Lib.hid (HIb.out.keep (Fr.of_below hb4 No) fun _ _ hn => hn)
    have HQI := Lib.hid (HQI.out.keep (Fr.of_below hb4 No) fun _ _ hn => hn)
    have HQIb := Lib.hid (HQIb.out.keep (Fr.of_below hb4 No) fun _ _ hn => hn)
    obtain ⟨y0, y1, y2, y3, y4, y5, y6, y7, y8, y9, y10, y11, y12, y13, y14⟩ := rcs_cells HX.out
    obtain ⟨t0, t1, t2, t3, t4, t5, t6, t7, t8, t9, t10, t11, t12, t13, t14⟩ := rcs_cells HX2.out
    clear hb4 ho4 HEN
    have HR4 : Hid (RB w4 All A4 n x) := Lib.hid (by
      obtain ⟨_, _, e4, _, _, hr4⟩ := HO4.out.reads
      injection e4 with e4 _ e4c
      rw [← e4] at hr4
      exact hr4.mono (fun _ _ _ => trivial))
    have HWB4 : Hid (WB w4 (fun b => w3b.heap.size ≤ b) A4 n) := Lib.hid (by
      obtain ⟨_, _, e4, hwb⟩ := WB.of_ow HO4.out
      injection e4 with e4 _ _
      rw [← e4] at hwb
      exact hwb)
    have HRE := Lib.hid (rencode_any w4 q HQI.out HBQ'.out)
    rw [HQE.out, ← HXE.out.1] at HRE
    unfold RV.agg at HRE
    go_wp2_with fail
    with_reducible refine HRE.out.mono ?_
    unfold New
    rintro e w5 ⟨v5, rfl, ho5, hb5⟩
    have HO5 := Lib.hid ho5
    have HB45 := Lib.hid hb5
    have HB_w5 := Lib.hid (HB_w4.out.trans (hb5.mono HB_w4.out.size))
    have HX := Lib.hid (HX.out.below hb5 HX.out.lt)
    have HX2 := Lib.hid (HX2.out.below hb5 HX2.out.lt)
    have HI := Lib.hid (HI.out.keep (Fr.of_below hb5 No) fun _ _ hn => hn)
    have HIb := Lib.hid (HIb.out.keep (Fr.of_below hb5 No) fun _ _ hn => hn)
    have HQI := Lib.hid (HQI.out.keep (Fr.of_below hb5 No) fun _ _ hn => hn)
    have HQIb := Lib.hid (HQIb.out.keep (Fr.of_below hb5 No) fun _ _ hn => hn)
    have HR4 := Lib.hid (HR4.out.keep (Fr.of_below hb5 No) fun _ _ hn => hn)
    obtain ⟨y0, y1, y2, y3, y4, y5, y6, y7, y8, y9, y10, y11, y12, y13, y14⟩ := rcs_cells HX.out
    obtain ⟨t0, t1, t2, t3, t4, t5, t6, t7, t8, t9, t10, t11, t12, t13, t14⟩ := rcs_cells HX2.out
    clear hb5 ho5 HRE
    obtain ⟨A5, c5, rfl, _, _, hr5⟩ := HO5.out.reads
    have HR5 := Lib.hid (hr5.mono (T := All) fun _ _ _ => trivial)
    rw [← HXE.out.2.2] at HR5
    clear hr5
    have hln : x.length = n := HXE.out.2.2.symm
    rw [hln]
    have HM1 := Lib.hid (fun W hW => may_e W r hW HBQ.out)
    have HM2 := Lib.hid (fun W hW => dmay_any W q hW HBQ'.out)
    have HSZ := Lib.hid (fun W hW => size_e W r hW HBQ.out)
    rw [← HXE.out.1, hln] at HM1
    rw [HQE.out, ← HXE.out.1] at HM2
    rw [← HXE.out.1, hln] at HSZ
    unfold RV.agg at HM1 HM2 HSZ
    have HXN : Hid (x.length = n) := Lib.hid hln
    clear hln
    have hcase : (x = [] ∧ cx = 5) ∨ (x ≠ [] ∧ cx = 0) := by
      obtain ⟨e1, e2, _⟩ := HXE.out
      rw [e1, e2]
      by_cases hn : bytesE r.e = []
      · exact Or.inl ⟨hn, codeE_no hn⟩
      · exact Or.inr ⟨hn, codeE_yes hn⟩
    have k1 : ((n : Int) != (n : Int)) = false := by simp
    have hsq : seq x x = true := by unfold seq; simp
    have hcv := fun (wq : World) (hb : Fr w5 wq No) => run_conv All A4 n c4 x wq (HR4.out.keep hb fun _ _ hn => hn)
    have hcv' := fun (wq : World) (hb : Fr w5 wq No) => run_conv All A5 n c5 x wq (HR5.out.keep hb fun _ _ hn => hn)
    rcases hcase with ⟨hx0, rfl⟩ | ⟨hx0, rfl⟩
    · as_aux_lemma =>
        have hn0 : n = 0 := by rw [← HXN.out, hx0]; rfl
        have k2 : decide ((n : Int) > 0) = false := decide_eq_false (by omega)
        have k3 : decide (0 < n) = false := decide_eq_false (by omega)
        have HM1b : Hid (∀ W, r.In W All → Calls Tryz.prog 13 #[r.agg] W fun e w' => e = .returned (.bool false) ∧ Below W.heap.size W w') := Lib.hid (fun W hW => by
          have h9 := HM1.out W hW
          rw [k3] at h9
          exact h9)
        have HM2b : Hid (∀ W, q.In W All → Calls Tryz.prog 14 #[q.agg] W fun e w' => e = .returned (.bool false) ∧ Below W.heap.size W w') := Lib.hid (fun W hW => by
          refine (HM2.out W hW).mono ?_
          rintro e w' ⟨b, rfl, hiff, hb⟩
          refine ⟨?_, hb⟩
          cases b
          · rfl
          · exact absurd hx0 (hiff.1 rfl))
        unfold RV.agg at HM1b HM2b
        have HX0 := Lib.hid hx0
        clear hx0 hn0
        have HCX := fun j => Lib.hid (fun (wq : World) (hS : Fr w5 wq No) => (World.cell?_of_block (hS.block w.heap.size HX.out.lt (fun h => h))).trans (HX.out.cell j))
        go_upto_region 6 with fail
        refine wp_region_held_drew (S := fun wx => Fr w5 wx No) (by kernel_rfl) ((Fr.refl w5 No).drew) (fun hS => ?_)
        refine wpAnyH_take (i := 0) (v := ?_) rfl (by kernel_rfl) (by kernel_rfl) (by kernel_rfl) (fun _ _ _ h => h) (Or.inl ⟨by rfl, ?_⟩) hS ?_
        rotate_left
        · (intro wq hSw; obtain ⟨z0, z1, z2, z3, z4, z5, z6, z7, z8, z9, z10, z11, z12, z13, z14⟩ := rcs_cells (HX.out.keep hSw (fun h => h)); go_simp; try with_reducible rfl)
        refine wpAnyH_take (i := 2) (v := ?_) rfl (by kernel_rfl) (by kernel_rfl) (by kernel_rfl) (fun _ _ _ h => h) (Or.inl ⟨by rfl, ?_⟩) hS ?_
        rotate_left
        · (intro wq hSw; obtain ⟨z0, z1, z2, z3, z4, z5, z6, z7, z8, z9, z10, z11, z12, z13, z14⟩ := rcs_cells (HX2.out.keep hSw (fun h => h)); go_simp; try with_reducible rfl)
        simp only [List.getElem_toArray, List.getElem_cons_succ, List.getElem_cons_zero, Act.put, List.setIfInBounds_toArray, List.set_cons_succ, List.set_cons_zero]
        refine wpAnyH_ready (rs := [1]) (by kernel_rfl) (by simp) ?_
        refine AllReadyH.cons rfl (fun K hK => ?_) AllReadyH.nil
        go_simp
        refine (HM1b.out _ ?_).mono ?_
        · exact HI.out.keep hS (fun _ _ hn => hn)
        rintro e wa ⟨rfl, hbz⟩
        refine hK.out _ _ ?_ (fun hS => ?_)
        · exact hS.trans (Fr.of_below hbz No) fun _ hn => hn.elim
        clear hK K hbz
        refine wpAnyH_ready (rs := [3]) (by kernel_rfl) (by simp) ?_
        refine AllReadyH.cons rfl (fun K hK => ?_) AllReadyH.nil
        go_simp
        refine (HM2b.out _ ?_).mono ?_
        · exact HQI.out.keep hS (fun _ _ hn => hn)
        rintro e wb ⟨rfl, hbz⟩
        refine hK.out _ _ ?_ (fun hS => ?_)
        · exact hS.trans (Fr.of_below hbz No) fun _ hn => hn.elim
        clear hK K hbz
        refine wpAnyH_take (i := 4) (v := ?_) rfl (by kernel_rfl) (by kernel_rfl) (by kernel_rfl) (fun _ _ _ h => h) (Or.inl ⟨by rfl, ?_⟩) hS ?_
        rotate_left
        · (intro wq hSw; go_simp; try with_reducible rfl)
        simp only [List.getElem_toArray, List.getElem_cons_succ, List.getElem_cons_zero, Act.put, List.setIfInBounds_toArray, List.set_cons_succ, List.set_cons_zero]
        refine wpAnyH_take (i := 5) (v := ?_) rfl (by kernel_rfl) (by kernel_rfl) (by kernel_rfl) (fun _ _ _ h => h) (Or.inl ⟨by rfl, ?_⟩) hS ?_
        rotate_left
        · (intro wq hSw; go_simp; try with_reducible rfl)
        simp only [List.getElem_toArray, List.getElem_cons_succ, List.getElem_cons_zero, Act.put, List.setIfInBounds_toArray, List.set_cons_succ, List.set_cons_zero]
        refine wpAnyH_take (i := 6) (v := ?_) rfl (by kernel_rfl) (by kernel_rfl) (by kernel_rfl) (fun _ _ _ h => h) (Or.inl ⟨by rfl, ?_⟩) hS ?_
        rotate_left
        · (intro wq hSw; obtain ⟨z0, z1, z2, z3, z4, z5, z6, z7, z8, z9, z10, z11, z12, z13, z14⟩ := rcs_cells (HX.out.keep hSw (fun h => h)); go_simp; try with_reducible rfl)
        simp only [List.getElem_toArray, List.getElem_cons_succ, List.getElem_cons_zero, Act.put, List.setIfInBounds_toArray, List.set_cons_succ, List.set_cons_zero]
        refine wpAnyH_take (i := 8) (v := ?_) rfl (by kernel_rfl) (by kernel_rfl) (by kernel_rfl) (fun _ _ _ h => h) (Or.inl ⟨by rfl, ?_⟩) hS ?_
        rotate_left
        · (intro wq hSw; go_simp; try with_reducible rfl)
        simp only [List.getElem_toArray, List.getElem_cons_succ, List.getElem_cons_zero, Act.put, List.setIfInBounds_toArray, List.set_cons_succ, List.set_cons_zero]
        refine wpAnyH_take (i := 9) (v := ?_) rfl (by kernel_rfl) (by kernel_rfl) (by kernel_rfl) (fun _ _ _ h => h) (Or.inl ⟨by rfl, ?_⟩) hS ?_
        rotate_left
        · (intro wq hSw; go_simp; try with_reducible rfl)
        simp only [List.getElem_toArray, List.getElem_cons_succ, List.getElem_cons_zero, Act.put, List.setIfInBounds_toArray, List.set_cons_succ, List.set_cons_zero]
        refine wpAnyH_ready (rs := [7]) (by kernel_rfl) (by simp) ?_
        refine AllReadyH.cons rfl (fun K hK => ?_) AllReadyH.nil
        go_simp
        refine (HSZ.out _ ?_).mono ?_
        · exact HI.out.keep hS (fun _ _ hn => hn)
        rintro e wc ⟨rfl, hbz⟩
        refine hK.out _ _ ?_ (fun hS => ?_)
        · exact hS.trans (Fr.of_below hbz No) fun _ hn => hn.elim
        clear hK K hbz
        refine wpAnyH_take (i := 10) (v := ?_) rfl (by kernel_rfl) (by kernel_rfl) (by kernel_rfl) (fun _ _ _ h => h) (Or.inl ⟨by rfl, ?_⟩) hS ?_
        rotate_left
        · (intro wq hSw; go_simp; try with_reducible rfl)
        simp only [List.getElem_toArray, List.getElem_cons_succ, List.getElem_cons_zero, Act.put, List.setIfInBounds_toArray, List.set_cons_succ, List.set_cons_zero]
        refine wpAnyH_take (i := 11) (v := ?_) rfl (by kernel_rfl) (by kernel_rfl) (by kernel_rfl) (fun _ _ _ h => h) (Or.inl ⟨by rfl, ?_⟩) hS ?_
        rotate_left
        · (intro wq hSw; go_simp; try with_reducible rfl)
        simp only [List.getElem_toArray, List.getElem_cons_succ, List.getElem_cons_zero, Act.put, List.setIfInBounds_toArray, List.set_cons_succ, List.set_cons_zero]
        refine wpAnyH_take (i := 12) (v := ?_) rfl (by kernel_rfl) (by kernel_rfl) (by kernel_rfl) (fun _ _ _ h => h) (Or.inl ⟨by rfl, ?_⟩) hS ?_
        rotate_left
        · (intro wq hSw; go_simp; try with_reducible rfl)
        simp only [List.getElem_toArray, List.getElem_cons_succ, List.getElem_cons_zero, Act.put, List.setIfInBounds_toArray, List.set_cons_succ, List.set_cons_zero]
        refine wpAnyH_take (i := 13) (v := ?_) rfl (by kernel_rfl) (by kernel_rfl) (by kernel_rfl) (fun _ _ _ h => h) (Or.inl ⟨by rfl, ?_⟩) hS ?_
        rotate_left
        · (intro wq hSw; go_simp; try with_reducible rfl)
        simp only [List.getElem_toArray, List.getElem_cons_succ, List.getElem_cons_zero, Act.put, List.setIfInBounds_toArray, List.set_cons_succ, List.set_cons_zero]
        refine wpAnyH_take (i := 14) (v := ?_) rfl (by kernel_rfl) (by kernel_rfl) (by kernel_rfl) (fun _ _ _ h => h) (Or.inl ⟨by rfl, ?_⟩) hS ?_
        rotate_left
        · (intro wq hSw; have hq := hcv wq hSw; go_simp; try with_reducible rfl)
        simp only [List.getElem_toArray, List.getElem_cons_succ, List.getElem_cons_zero, Act.put, List.setIfInBounds_toArray, List.set_cons_succ, List.set_cons_zero]
        refine wpAnyH_take (i := 15) (v := ?_) rfl (by kernel_rfl) (by kernel_rfl) (by kernel_rfl) (fun _ _ _ h => h) (Or.inl ⟨by rfl, ?_⟩) hS ?_
        rotate_left
        · (intro wq hSw; go_simp; try with_reducible rfl)
        simp only [List.getElem_toArray, List.getElem_cons_succ, List.getElem_cons_zero, Act.put, List.setIfInBounds_toArray, List.set_cons_succ, List.set_cons_zero]
        refine wpAnyH_take (i := 16) (v := ?_) rfl (by kernel_rfl) (by kernel_rfl) (by kernel_rfl) (fun _ _ _ h => h) (Or.inl ⟨by rfl, ?_⟩) hS ?_
        rotate_left
        · (intro wq hSw; have hq := hcv' wq hSw; go_simp; try with_reducible rfl)
        simp only [List.getElem_toArray, List.getElem_cons_succ, List.getElem_cons_zero, Act.put, List.setIfInBounds_toArray, List.set_cons_succ, List.set_cons_zero]
        refine wpAnyH_take (i := 17) (v := ?_) rfl (by kernel_rfl) (by kernel_rfl) (by kernel_rfl) (fun _ _ _ h => h) (Or.inl ⟨by rfl, ?_⟩) hS ?_
        rotate_left
        · (intro wq hSw; go_simp; try with_reducible rfl)
        simp only [List.getElem_toArray, List.getElem_cons_succ, List.getElem_cons_zero, Act.put, List.setIfInBounds_toArray, List.set_cons_succ, List.set_cons_zero]
        refine wpAnyH_take (i := 18) (v := ?_) rfl (by kernel_rfl) (by kernel_rfl) (by kernel_rfl) (fun _ _ _ h => h) (Or.inl ⟨by rfl, ?_⟩) hS ?_
        rotate_left
        · (intro wq hSw; go_simp; try with_reducible rfl)
        simp only [List.getElem_toArray, List.getElem_cons_succ, List.getElem_cons_zero, Act.put, List.setIfInBounds_toArray, List.set_cons_succ, List.set_cons_zero]
        refine wpAnyH_take (i := 19) (v := ?_) rfl (by kernel_rfl) (by kernel_rfl) (by kernel_rfl) (fun _ _ _ h => h) (Or.inl ⟨by rfl, ?_⟩) hS ?_
        rotate_left
        · (intro wq hSw; go_simp; try with_reducible rfl)
        simp only [List.getElem_toArray, List.getElem_cons_succ, List.getElem_cons_zero, Act.put, List.setIfInBounds_toArray, List.set_cons_succ, List.set_cons_zero]
        refine wpAnyH_take (i := 20) (v := ?_) rfl (by kernel_rfl) (by kernel_rfl) (by kernel_rfl) (fun _ _ _ h => h) (Or.inl ⟨by rfl, ?_⟩) hS ?_
        rotate_left
        · (intro wq hSw; go_simp; try with_reducible rfl)
        simp only [List.getElem_toArray, List.getElem_cons_succ, List.getElem_cons_zero, Act.put, List.setIfInBounds_toArray, List.set_cons_succ, List.set_cons_zero]
        refine wpAnyH_take (i := 21) (v := ?_) rfl (by kernel_rfl) (by kernel_rfl) (by kernel_rfl) (fun _ _ _ h => h) (Or.inl ⟨by rfl, ?_⟩) hS ?_
        rotate_left
        · (intro wq hSw; go_simp; try with_reducible rfl)
        simp only [List.getElem_toArray, List.getElem_cons_succ, List.getElem_cons_zero, Act.put, List.setIfInBounds_toArray, List.set_cons_succ, List.set_cons_zero]
        refine wpAnyH_take (i := 22) (v := ?_) rfl (by kernel_rfl) (by kernel_rfl) (by kernel_rfl) (fun _ _ _ h => h) (Or.inl ⟨by rfl, ?_⟩) hS ?_
        rotate_left
        · (intro wq hSw; go_simp; try with_reducible rfl)
        simp only [List.getElem_toArray, List.getElem_cons_succ, List.getElem_cons_zero, Act.put, List.setIfInBounds_toArray, List.set_cons_succ, List.set_cons_zero]
        refine wpAnyH_take (i := 23) (v := ?_) rfl (by kernel_rfl) (by kernel_rfl) (by kernel_rfl) (fun _ _ _ h => h) (Or.inl ⟨by rfl, ?_⟩) hS ?_
        rotate_left
        · (intro wq hSw; go_simp; try with_reducible rfl)
        simp only [List.getElem_toArray, List.getElem_cons_succ, List.getElem_cons_zero, Act.put, List.setIfInBounds_toArray, List.set_cons_succ, List.set_cons_zero]
        refine wpAnyH_take (i := 24) (v := ?_) rfl (by kernel_rfl) (by kernel_rfl) (by kernel_rfl) (fun _ _ _ h => h) (Or.inl ⟨by rfl, ?_⟩) hS ?_
        rotate_left
        · (intro wq hSw; go_simp; try with_reducible rfl)
        simp only [List.getElem_toArray, List.getElem_cons_succ, List.getElem_cons_zero, Act.put, List.setIfInBounds_toArray, List.set_cons_succ, List.set_cons_zero]
        refine wpAnyH_take (i := 25) (v := ?_) rfl (by kernel_rfl) (by kernel_rfl) (by kernel_rfl) (fun _ _ _ h => h) (Or.inl ⟨by rfl, ?_⟩) hS ?_
        rotate_left
        · (intro wq hSw; go_simp; try with_reducible rfl)
        simp only [List.getElem_toArray, List.getElem_cons_succ, List.getElem_cons_zero, Act.put, List.setIfInBounds_toArray, List.set_cons_succ, List.set_cons_zero]
        refine wpAnyH_take (i := 26) (v := ?_) rfl (by kernel_rfl) (by kernel_rfl) (by kernel_rfl) (fun _ _ _ h => h) (Or.inl ⟨by rfl, ?_⟩) hS ?_
        rotate_left
        · (intro wq hSw; go_simp; try with_reducible rfl)
        simp only [List.getElem_toArray, List.getElem_cons_succ, List.getElem_cons_zero, Act.put, List.setIfInBounds_toArray, List.set_cons_succ, List.set_cons_zero]
        refine wpAnyH_take (i := 27) (v := ?_) rfl (by kernel_rfl) (by kernel_rfl) (by kernel_rfl) (fun _ _ _ h => h) (Or.inl ⟨by rfl, ?_⟩) hS ?_
        rotate_left
        · (intro wq hSw; go_simp; try with_reducible rfl)
        simp only [List.getElem_toArray, List.getElem_cons_succ, List.getElem_cons_zero, Act.put, List.setIfInBounds_toArray, List.set_cons_succ, List.set_cons_zero]
        refine wpAnyH_take (i := 28) (v := ?_) rfl (by kernel_rfl) (by kernel_rfl) (by kernel_rfl) (fun _ _ _ h => h) (Or.inl ⟨by rfl, ?_⟩) hS ?_
        rotate_left
        · (intro wq hSw; go_simp; try with_reducible rfl)
        simp only [List.getElem_toArray, List.getElem_cons_succ, List.getElem_cons_zero, Act.put, List.setIfInBounds_toArray, List.set_cons_succ, List.set_cons_zero]
        refine wpAnyH_take (i := 29) (v := ?_) rfl (by kernel_rfl) (by kernel_rfl) (by kernel_rfl) (fun _ _ _ h => h) (Or.inl ⟨by rfl, ?_⟩) hS ?_
        rotate_left
        · (intro wq hSw; go_simp; try with_reducible rfl)
        simp only [List.getElem_toArray, List.getElem_cons_succ, List.getElem_cons_zero, Act.put, List.setIfInBounds_toArray, List.set_cons_succ, List.set_cons_zero]
        refine wpAnyH_take (i := 30) (v := ?_) rfl (by kernel_rfl) (by kernel_rfl) (by kernel_rfl) (fun _ _ _ h => h) (Or.inl ⟨by rfl, ?_⟩) hS ?_
        rotate_left
        · (intro wq hSw; go_simp; try with_reducible rfl)
        simp only [List.getElem_toArray, List.getElem_cons_succ, List.getElem_cons_zero, Act.put, List.setIfInBounds_toArray, List.set_cons_succ, List.set_cons_zero]
        refine wpAnyH_take (i := 31) (v := ?_) rfl (by kernel_rfl) (by kernel_rfl) (by kernel_rfl) (fun _ _ _ h => h) (Or.inl ⟨by rfl, ?_⟩) hS ?_
        rotate_left
        · (intro wq hSw; go_simp; try with_reducible rfl)
        simp only [List.getElem_toArray, List.getElem_cons_succ, List.getElem_cons_zero, Act.put, List.setIfInBounds_toArray, List.set_cons_succ, List.set_cons_zero]
        refine wpAnyH_take (i := 32) (v := ?_) rfl (by kernel_rfl) (by kernel_rfl) (by kernel_rfl) (fun _ _ _ h => h) (Or.inl ⟨by rfl, ?_⟩) hS ?_
        rotate_left
        · (intro wq hSw; go_simp; try with_reducible rfl)
        simp only [List.getElem_toArray, List.getElem_cons_succ, List.getElem_cons_zero, Act.put, List.setIfInBounds_toArray, List.set_cons_succ, List.set_cons_zero]
        refine wpAnyH_take (i := 33) (v := ?_) rfl (by kernel_rfl) (by kernel_rfl) (by kernel_rfl) (fun _ _ _ h => h) (Or.inl ⟨by rfl, ?_⟩) hS ?_
        rotate_left
        · (intro wq hSw; go_simp; try with_reducible rfl)
        simp only [List.getElem_toArray, List.getElem_cons_succ, List.getElem_cons_zero, Act.put, List.setIfInBounds_toArray, List.set_cons_succ, List.set_cons_zero]
        refine wpAnyH_take (i := 34) (v := ?_) rfl (by kernel_rfl) (by kernel_rfl) (by kernel_rfl) (fun _ _ _ h => h) (Or.inl ⟨by rfl, ?_⟩) hS ?_
        rotate_left
        · (intro wq hSw; go_simp; try with_reducible rfl)
        simp only [List.getElem_toArray, List.getElem_cons_succ, List.getElem_cons_zero, Act.put, List.setIfInBounds_toArray, List.set_cons_succ, List.set_cons_zero]
        refine wpAnyH_done (by kernel_rfl) ?_ _
        have HS5 : Hid (Fr w5 _ No) := Lib.hid hS
        clear hS
        have hbS := HS5.out.no_below
        have HB_wc := Lib.hid (HB_w5.out.trans (hbS.mono HB_w5.out.size))
        have HX := Lib.hid (HX.out.below hbS HX.out.lt)
        have HX2 := Lib.hid (HX2.out.below hbS HX2.out.lt)
        have HI := Lib.hid (HI.out.keep (Fr.of_below hbS No) fun _ _ hn => hn)
        have HIb := Lib.hid (HIb.out.keep (Fr.of_below hbS No) fun _ _ hn => hn)
        have HQI := Lib.hid (HQI.out.keep (Fr.of_below hbS No) fun _ _ hn => hn)
        have HQIb := Lib.hid (HQIb.out.keep (Fr.of_below hbS No) fun _ _ hn => hn)
        have HR4 := Lib.hid (HR4.out.keep (Fr.of_below hbS No) fun _ _ hn => hn)
        obtain ⟨y0, y1, y2, y3, y4, y5, y6, y7, y8, y9, y10, y11, y12, y13, y14⟩ := rcs_cells HX.out
        obtain ⟨t0, t1, t2, t3, t4, t5, t6, t7, t8, t9, t10, t11, t12, t13, t14⟩ := rcs_cells HX2.out
        have HWB5 := Lib.hid ((HWB4.out.keep (Fr.of_below HB45.out No) (fun _ _ hn => hn)).keep HS5.out (fun _ _ hn => hn))
        clear hbS hcv hcv' HCX
        as_aux_lemma =>
          go_wp2_with fail
          go_loopw [7] (fun u wy => ∃ i : Nat, u = .int .i64 (i : Int) ∧ i ≤ n ∧ WB wy (fun b => w3b.heap.size ≤ b) A4 n ∧ Fr wc wy (fun b => w3b.heap.size ≤ b)) (fun u _ => n - (intOf u).toNat)
          case atStart => exact ⟨0, rfl, by omega, HWB5.out, Fr.refl _ _⟩
          case round =>
            obtain ⟨i, rfl, hi, hw, hf⟩ := hrel
            by_cases hlt : i < n
            · obtain ⟨ad, z, rfl, hz, hcell, hfz, hOa, hset⟩ := hw.at_ hlt
              obtain ⟨y, hy⟩ : ∃ y, y = (z + 1) % 256 := ⟨_, rfl⟩
              have hy2 : y < 256 := by omega
              have hw8 : IntKind.u8.wrap ((z : Int) + 1) = (y : Int) := by rw [IntKind.wrap_u8]; omega
              have HSS := Lib.hid (hset y hy2)
              have HFi := Lib.hid (show Fr wc (World.setCell _ (ad.add i) (.int .u8 (y : Int))) (fun b => w3b.heap.size ≤ b) from hf.setCell (Or.inl (by rw [block_of_add]; exact hOa)) _)
              have hin : ((i : Int) < (n : Int)) := by omega
              have h1t : decide ((i : Int) < (n : Int)) = true := decide_eq_true hin
              have hWi : IntKind.i64.wrap ((i : Int) + 1) = ((i + 1 : Nat) : Int) := by rw [IntWalk.i64_in _ (by omega)]; omega
              clear hw hf hset hy hz
              go_wp2_with fail
              go_roundw
              case rel => exact ⟨i + 1, by go_num, by omega, HSS.out, HFi.out⟩
              case measure => simp [intOf]; omega
            · have h1d : decide ((i : Int) < (n : Int)) = false := decide_eq_false (by omega)
              have h1d2 : decide (i < n) = false := decide_eq_false hlt
              have HFF := Lib.hid hf
              have HBF : Hid (Below w.heap.size w wr) := Lib.hid (HB_wc.out.trans (HFF.out.below (fun b hb => by have h9 : w3b.heap.size ≤ b := hb; have := HZ3.out; omega) HB_wc.out.size))
              clear hw hf hlt hi
              obtain ⟨y0, y1, y2, y3, y4, y5, y6, y7, y8, y9, y10, y11, y12, y13, y14⟩ := rcs_cells (HX.out.keep HFF.out fun h => by have h9 : w3b.heap.size ≤ w.heap.size := h; have := HZ3.out; omega)
              obtain ⟨t0, t1, t2, t3, t4, t5, t6, t7, t8, t9, t10, t11, t12, t13, t14⟩ := rcs_cells (HX2.out.keep HFF.out fun h => by have h9 : w3b.heap.size ≤ w3.heap.size := h; have := HZ3.out; omega)
              have hp9 := HIb.out.keep HFF.out (fun b hb h => by have h9 : w3b.heap.size ≤ b := h; have h8 : b < W.heap.size := hb; have := HZ3.out; omega)
              have hq9 := HQIb.out.keep HFF.out (fun b hb h => by have h9 : w3b.heap.size ≤ b := h; have h8 : b < w3b.heap.size := hb; omega)
              have HSA := Lib.hid (same_r r q _ (hp9.mono fun _ _ _ => trivial) (hq9.mono fun _ _ _ => trivial))
              have hss : ((r.s : Int) == (q.s : Int)) = true := by have h9 : q.s = r.s := congrArg RE.s HQE.out; rw [h9]; simp
              unfold RV.agg at HSA
              clear hp9 hq9
              go_wp2_with fail
              with_reducible refine HSA.out.mono ?_
              unfold Tells
              rintro e w8 ⟨b8, rfl, hiff, hb8⟩
              have hbt : b8 = true := hiff.2 (by rw [HQE.out])
              subst hbt
              have hfr8 := Fr.of_below hb8 No
              have hx8 := (HX.out.keep HFF.out fun h => by have h9 : w3b.heap.size ≤ w.heap.size := h; have := HZ3.out; omega).keep hfr8 (fun h => h)
              have hx9 := (HX2.out.keep HFF.out fun h => by have h9 : w3b.heap.size ≤ w3.heap.size := h; have := HZ3.out; omega).keep hfr8 (fun h => h)
              obtain ⟨y0, y1, y2, y3, y4, y5, y6, y7, y8, y9, y10, y11, y12, y13, y14⟩ := rcs_cells hx8
              obtain ⟨t0, t1, t2, t3, t4, t5, t6, t7, t8, t9, t10, t11, t12, t13, t14⟩ := rcs_cells hx9
              have HB8 := Lib.hid (HBF.out.trans (hb8.mono HBF.out.size))
              clear hb8 hiff hfr8 hx8 hx9
              go_wp2_with fail
              with_reducible refine (HAL.out _).mono ?_
              rintro e w9 ⟨rfl, hb9⟩
              have HB9 := Lib.hid (HB8.out.trans (hb9.mono HB8.out.size))
              clear hb9
              go_wp2_with fail
              go_ret
              exact ⟨rfl, HB9.out⟩
    · as_aux_lemma =>
        have hn0 : 0 < n := by rw [← HXN.out]; exact List.length_pos_iff.2 hx0
        have k2 : decide ((n : Int) > 0) = true := decide_eq_true (by omega)
        have k3 : decide (0 < n) = true := decide_eq_true hn0
        have HM1b : Hid (∀ W, r.In W All → Calls Tryz.prog 13 #[r.agg] W fun e w' => e = .returned (.bool true) ∧ Below W.heap.size W w') := Lib.hid (fun W hW => by
          have h9 := HM1.out W hW
          rw [k3] at h9
          exact h9)
        have HM2b : Hid (∀ W, q.In W All → Calls Tryz.prog 14 #[q.agg] W fun e w' => e = .returned (.bool true) ∧ Below W.heap.size W w') := Lib.hid (fun W hW => by
          refine (HM2.out W hW).mono ?_
          rintro e w' ⟨b, rfl, hiff, hb⟩
          refine ⟨?_, hb⟩
          cases b
          · exact absurd (hiff.2 hx0) (by decide)
          · rfl)
        unfold RV.agg at HM1b HM2b
        have HX0 := Lib.hid hx0
        clear hx0 hn0
        have HCX := fun j => Lib.hid (fun (wq : World) (hS : Fr w5 wq No) => (World.cell?_of_block (hS.block w.heap.size HX.out.lt (fun h => h))).trans (HX.out.cell j))
        go_upto_region 6 with fail
        refine wp_region_held_drew (S := fun wx => Fr w5 wx No) (by kernel_rfl) ((Fr.refl w5 No).drew) (fun hS => ?_)
        refine wpAnyH_take (i := 0) (v := ?_) rfl (by kernel_rfl) (by kernel_rfl) (by kernel_rfl) (fun _ _ _ h => h) (Or.inl ⟨by rfl, ?_⟩) hS ?_
        rotate_left
        · (intro wq hSw; obtain ⟨z0, z1, z2, z3, z4, z5, z6, z7, z8, z9, z10, z11, z12, z13, z14⟩ := rcs_cells (HX.out.keep hSw (fun h => h)); go_simp; try with_reducible rfl)
        refine wpAnyH_take (i := 2) (v := ?_) rfl (by kernel_rfl) (by kernel_rfl) (by kernel_rfl) (fun _ _ _ h => h) (Or.inl ⟨by rfl, ?_⟩) hS ?_
        rotate_left
        · (intro wq hSw; obtain ⟨z0, z1, z2, z3, z4, z5, z6, z7, z8, z9, z10, z11, z12, z13, z14⟩ := rcs_cells (HX2.out.keep hSw (fun h => h)); go_simp; try with_reducible rfl)
        simp only [List.getElem_toArray, List.getElem_cons_succ, List.getElem_cons_zero, Act.put, List.setIfInBounds_toArray, List.set_cons_succ, List.set_cons_zero]
        refine wpAnyH_ready (rs := [1]) (by kernel_rfl) (by simp) ?_
        refine AllReadyH.cons rfl (fun K hK => ?_) AllReadyH.nil
        go_simp
        refine (HM1b.out _ ?_).mono ?_
        · exact HI.out.keep hS (fun _ _ hn => hn)
        rintro e wa ⟨rfl, hbz⟩
        refine hK.out _ _ ?_ (fun hS => ?_)
        · exact hS.trans (Fr.of_below hbz No) fun _ hn => hn.elim
        clear hK K hbz
        refine wpAnyH_ready (rs := [3]) (by kernel_rfl) (by simp) ?_
        refine AllReadyH.cons rfl (fun K hK => ?_) AllReadyH.nil
        go_simp
        refine (HM2b.out _ ?_).mono ?_
        · exact HQI.out.keep hS (fun _ _ hn => hn)
        rintro e wb ⟨rfl, hbz⟩
        refine hK.out _ _ ?_ (fun hS => ?_)
        · exact hS.trans (Fr.of_below hbz No) fun _ hn => hn.elim
        clear hK K hbz
        refine wpAnyH_take (i := 4) (v := ?_) rfl (by kernel_rfl) (by kernel_rfl) (by kernel_rfl) (fun _ _ _ h => h) (Or.inl ⟨by rfl, ?_⟩) hS ?_
        rotate_left
        · (intro wq hSw; go_simp; try with_reducible rfl)
        simp only [List.getElem_toArray, List.getElem_cons_succ, List.getElem_cons_zero, Act.put, List.setIfInBounds_toArray, List.set_cons_succ, List.set_cons_zero]
        refine wpAnyH_take (i := 5) (v := ?_) rfl (by kernel_rfl) (by kernel_rfl) (by kernel_rfl) (fun _ _ _ h => h) (Or.inl ⟨by rfl, ?_⟩) hS ?_
        rotate_left
        · (intro wq hSw; go_simp; try with_reducible rfl)
        simp only [List.getElem_toArray, List.getElem_cons_succ, List.getElem_cons_zero, Act.put, List.setIfInBounds_toArray, List.set_cons_succ, List.set_cons_zero]
        refine wpAnyH_take (i := 6) (v := ?_) rfl (by kernel_rfl) (by kernel_rfl) (by kernel_rfl) (fun _ _ _ h => h) (Or.inl ⟨by rfl, ?_⟩) hS ?_
        rotate_left
        · (intro wq hSw; obtain ⟨z0, z1, z2, z3, z4, z5, z6, z7, z8, z9, z10, z11, z12, z13, z14⟩ := rcs_cells (HX.out.keep hSw (fun h => h)); go_simp; try with_reducible rfl)
        simp only [List.getElem_toArray, List.getElem_cons_succ, List.getElem_cons_zero, Act.put, List.setIfInBounds_toArray, List.set_cons_succ, List.set_cons_zero]
        refine wpAnyH_take (i := 8) (v := ?_) rfl (by kernel_rfl) (by kernel_rfl) (by kernel_rfl) (fun _ _ _ h => h) (Or.inl ⟨by rfl, ?_⟩) hS ?_
        rotate_left
        · (intro wq hSw; go_simp; try with_reducible rfl)
        simp only [List.getElem_toArray, List.getElem_cons_succ, List.getElem_cons_zero, Act.put, List.setIfInBounds_toArray, List.set_cons_succ, List.set_cons_zero]
        refine wpAnyH_take (i := 9) (v := ?_) rfl (by kernel_rfl) (by kernel_rfl) (by kernel_rfl) (fun _ _ _ h => h) (Or.inl ⟨by rfl, ?_⟩) hS ?_
        rotate_left
        · (intro wq hSw; go_simp; try with_reducible rfl)
        simp only [List.getElem_toArray, List.getElem_cons_succ, List.getElem_cons_zero, Act.put, List.setIfInBounds_toArray, List.set_cons_succ, List.set_cons_zero]
        refine wpAnyH_ready (rs := [7]) (by kernel_rfl) (by simp) ?_
        refine AllReadyH.cons rfl (fun K hK => ?_) AllReadyH.nil
        go_simp
        refine (HSZ.out _ ?_).mono ?_
        · exact HI.out.keep hS (fun _ _ hn => hn)
        rintro e wc ⟨rfl, hbz⟩
        refine hK.out _ _ ?_ (fun hS => ?_)
        · exact hS.trans (Fr.of_below hbz No) fun _ hn => hn.elim
        clear hK K hbz
        refine wpAnyH_take (i := 10) (v := ?_) rfl (by kernel_rfl) (by kernel_rfl) (by kernel_rfl) (fun _ _ _ h => h) (Or.inl ⟨by rfl, ?_⟩) hS ?_
        rotate_left
        · (intro wq hSw; go_simp; try with_reducible rfl)
        simp only [List.getElem_toArray, List.getElem_cons_succ, List.getElem_cons_zero, Act.put, List.setIfInBounds_toArray, List.set_cons_succ, List.set_cons_zero]
        refine wpAnyH_take (i := 11) (v := ?_) rfl (by kernel_rfl) (by kernel_rfl) (by kernel_rfl) (fun _ _ _ h => h) (Or.inl ⟨by rfl, ?_⟩) hS ?_
        rotate_left
        · (intro wq hSw; go_simp; try with_reducible rfl)
        simp only [List.getElem_toArray, List.getElem_cons_succ, List.getElem_cons_zero, Act.put, List.setIfInBounds_toArray, List.set_cons_succ, List.set_cons_zero]
        refine wpAnyH_take (i := 12) (v := ?_) rfl (by kernel_rfl) (by kernel_rfl) (by kernel_rfl) (fun _ _ _ h => h) (Or.inl ⟨by rfl, ?_⟩) hS ?_
        rotate_left
        · (intro wq hSw; go_simp; try with_reducible rfl)
        simp only [List.getElem_toArray, List.getElem_cons_succ, List.getElem_cons_zero, Act.put, List.setIfInBounds_toArray, List.set_cons_succ, List.set_cons_zero]
        refine wpAnyH_take (i := 13) (v := ?_) rfl (by kernel_rfl) (by kernel_rfl) (by kernel_rfl) (fun _ _ _ h => h) (Or.inl ⟨by rfl, ?_⟩) hS ?_
        rotate_left
        · (intro wq hSw; go_simp; try with_reducible rfl)
        simp only [List.getElem_toArray, List.getElem_cons_succ, List.getElem_cons_zero, Act.put, List.setIfInBounds_toArray, List.set_cons_succ, List.set_cons_zero]
        refine wpAnyH_take (i := 14) (v := ?_) rfl (by kernel_rfl) (by kernel_rfl) (by kernel_rfl) (fun _ _ _ h => h) (Or.inl ⟨by rfl, ?_⟩) hS ?_
        rotate_left
        · (intro wq hSw; have hq := hcv wq hSw; go_simp; try with_reducible rfl)
        simp only [List.getElem_toArray, List.getElem_cons_succ, List.getElem_cons_zero, Act.put, List.setIfInBounds_toArray, List.set_cons_succ, List.set_cons_zero]
        refine wpAnyH_take (i := 15) (v := ?_) rfl (by kernel_rfl) (by kernel_rfl) (by kernel_rfl) (fun _ _ _ h => h) (Or.inl ⟨by rfl, ?_⟩) hS ?_
        rotate_left
        · (intro wq hSw; go_simp; try with_reducible rfl)
        simp only [List.getElem_toArray, List.getElem_cons_succ, List.getElem_cons_zero, Act.put, List.setIfInBounds_toArray, List.set_cons_succ, List.set_cons_zero]
        refine wpAnyH_take (i := 16) (v := ?_) rfl (by kernel_rfl) (by kernel_rfl) (by kernel_rfl) (fun _ _ _ h => h) (Or.inl ⟨by rfl, ?_⟩) hS ?_
        rotate_left
        · (intro wq hSw; have hq := hcv' wq hSw; go_simp; try with_reducible rfl)
        simp only [List.getElem_toArray, List.getElem_cons_succ, List.getElem_cons_zero, Act.put, List.setIfInBounds_toArray, List.set_cons_succ, List.set_cons_zero]
        refine wpAnyH_take (i := 17) (v := ?_) rfl (by kernel_rfl) (by kernel_rfl) (by kernel_rfl) (fun _ _ _ h => h) (Or.inl ⟨by rfl, ?_⟩) hS ?_
        rotate_left
        · (intro wq hSw; go_simp; try with_reducible rfl)
        simp only [List.getElem_toArray, List.getElem_cons_succ, List.getElem_cons_zero, Act.put, List.setIfInBounds_toArray, List.set_cons_succ, List.set_cons_zero]
        refine wpAnyH_take (i := 18) (v := ?_) rfl (by kernel_rfl) (by kernel_rfl) (by kernel_rfl) (fun _ _ _ h => h) (Or.inl ⟨by rfl, ?_⟩) hS ?_
        rotate_left
        · (intro wq hSw; go_simp; try with_reducible rfl)
        simp only [List.getElem_toArray, List.getElem_cons_succ, List.getElem_cons_zero, Act.put, List.setIfInBounds_toArray, List.set_cons_succ, List.set_cons_zero]
        refine wpAnyH_take (i := 19) (v := ?_) rfl (by kernel_rfl) (by kernel_rfl) (by kernel_rfl) (fun _ _ _ h => h) (Or.inl ⟨by rfl, ?_⟩) hS ?_
        rotate_left
        · (intro wq hSw; go_simp; try with_reducible rfl)
        simp only [List.getElem_toArray, List.getElem_cons_succ, List.getElem_cons_zero, Act.put, List.setIfInBounds_toArray, List.set_cons_succ, List.set_cons_zero]
        refine wpAnyH_take (i := 20) (v := ?_) rfl (by kernel_rfl) (by kernel_rfl) (by kernel_rfl) (fun _ _ _ h => h) (Or.inl ⟨by rfl, ?_⟩) hS ?_
        rotate_left
        · (intro wq hSw; go_simp; try with_reducible rfl)
        simp only [List.getElem_toArray, List.getElem_cons_succ, List.getElem_cons_zero, Act.put, List.setIfInBounds_toArray, List.set_cons_succ, List.set_cons_zero]
        refine wpAnyH_take (i := 21) (v := ?_) rfl (by kernel_rfl) (by kernel_rfl) (by kernel_rfl) (fun _ _ _ h => h) (Or.inl ⟨by rfl, ?_⟩) hS ?_
        rotate_left
        · (intro wq hSw; go_simp; try with_reducible rfl)
        simp only [List.getElem_toArray, List.getElem_cons_succ, List.getElem_cons_zero, Act.put, List.setIfInBounds_toArray, List.set_cons_succ, List.set_cons_zero]
        refine wpAnyH_take (i := 22) (v := ?_) rfl (by kernel_rfl) (by kernel_rfl) (by kernel_rfl) (fun _ _ _ h => h) (Or.inl ⟨by rfl, ?_⟩) hS ?_
        rotate_left
        · (intro wq hSw; go_simp; try with_reducible rfl)
        simp only [List.getElem_toArray, List.getElem_cons_succ, List.getElem_cons_zero, Act.put, List.setIfInBounds_toArray, List.set_cons_succ, List.set_cons_zero]
        refine wpAnyH_take (i := 23) (v := ?_) rfl (by kernel_rfl) (by kernel_rfl) (by kernel_rfl) (fun _ _ _ h => h) (Or.inl ⟨by rfl, ?_⟩) hS ?_
        rotate_left
        · (intro wq hSw; go_simp; try with_reducible rfl)
        simp only [List.getElem_toArray, List.getElem_cons_succ, List.getElem_cons_zero, Act.put, List.setIfInBounds_toArray, List.set_cons_succ, List.set_cons_zero]
        refine wpAnyH_take (i := 24) (v := ?_) rfl (by kernel_rfl) (by kernel_rfl) (by kernel_rfl) (fun _ _ _ h => h) (Or.inl ⟨by rfl, ?_⟩) hS ?_
        rotate_left
        · (intro wq hSw; go_simp; try with_reducible rfl)
        simp only [List.getElem_toArray, List.getElem_cons_succ, List.getElem_cons_zero, Act.put, List.setIfInBounds_toArray, List.set_cons_succ, List.set_cons_zero]
        refine wpAnyH_take (i := 25) (v := ?_) rfl (by kernel_rfl) (by kernel_rfl) (by kernel_rfl) (fun _ _ _ h => h) (Or.inl ⟨by rfl, ?_⟩) hS ?_
        rotate_left
        · (intro wq hSw; go_simp; try with_reducible rfl)
        simp only [List.getElem_toArray, List.getElem_cons_succ, List.getElem_cons_zero, Act.put, List.setIfInBounds_toArray, List.set_cons_succ, List.set_cons_zero]
        refine wpAnyH_take (i := 26) (v := ?_) rfl (by kernel_rfl) (by kernel_rfl) (by kernel_rfl) (fun _ _ _ h => h) (Or.inl ⟨by rfl, ?_⟩) hS ?_
        rotate_left
        · (intro wq hSw; go_simp; try with_reducible rfl)
        simp only [List.getElem_toArray, List.getElem_cons_succ, List.getElem_cons_zero, Act.put, List.setIfInBounds_toArray, List.set_cons_succ, List.set_cons_zero]
        refine wpAnyH_take (i := 27) (v := ?_) rfl (by kernel_rfl) (by kernel_rfl) (by kernel_rfl) (fun _ _ _ h => h) (Or.inl ⟨by rfl, ?_⟩) hS ?_
        rotate_left
        · (intro wq hSw; go_simp; try with_reducible rfl)
        simp only [List.getElem_toArray, List.getElem_cons_succ, List.getElem_cons_zero, Act.put, List.setIfInBounds_toArray, List.set_cons_succ, List.set_cons_zero]
        refine wpAnyH_take (i := 28) (v := ?_) rfl (by kernel_rfl) (by kernel_rfl) (by kernel_rfl) (fun _ _ _ h => h) (Or.inl ⟨by rfl, ?_⟩) hS ?_
        rotate_left
        · (intro wq hSw; go_simp; try with_reducible rfl)
        simp only [List.getElem_toArray, List.getElem_cons_succ, List.getElem_cons_zero, Act.put, List.setIfInBounds_toArray, List.set_cons_succ, List.set_cons_zero]
        refine wpAnyH_take (i := 29) (v := ?_) rfl (by kernel_rfl) (by kernel_rfl) (by kernel_rfl) (fun _ _ _ h => h) (Or.inl ⟨by rfl, ?_⟩) hS ?_
        rotate_left
        · (intro wq hSw; go_simp; try with_reducible rfl)
        simp only [List.getElem_toArray, List.getElem_cons_succ, List.getElem_cons_zero, Act.put, List.setIfInBounds_toArray, List.set_cons_succ, List.set_cons_zero]
        refine wpAnyH_take (i := 30) (v := ?_) rfl (by kernel_rfl) (by kernel_rfl) (by kernel_rfl) (fun _ _ _ h => h) (Or.inl ⟨by rfl, ?_⟩) hS ?_
        rotate_left
        · (intro wq hSw; go_simp; try with_reducible rfl)
        simp only [List.getElem_toArray, List.getElem_cons_succ, List.getElem_cons_zero, Act.put, List.setIfInBounds_toArray, List.set_cons_succ, List.set_cons_zero]
        refine wpAnyH_take (i := 31) (v := undef) rfl (by kernel_rfl) (by kernel_rfl) (by kernel_rfl) (fun _ _ _ h => h) (Or.inr ⟨by rfl, rfl⟩) hS ?_
        simp only [List.getElem_toArray, List.getElem_cons_succ, List.getElem_cons_zero, Act.put, List.setIfInBounds_toArray, List.set_cons_succ, List.set_cons_zero]
        refine wpAnyH_take (i := 32) (v := undef) rfl (by kernel_rfl) (by kernel_rfl) (by kernel_rfl) (fun _ _ _ h => h) (Or.inr ⟨by rfl, rfl⟩) hS ?_
        simp only [List.getElem_toArray, List.getElem_cons_succ, List.getElem_cons_zero, Act.put, List.setIfInBounds_toArray, List.set_cons_succ, List.set_cons_zero]
        refine wpAnyH_take (i := 33) (v := ?_) rfl (by kernel_rfl) (by kernel_rfl) (by kernel_rfl) (fun _ _ _ h => h) (Or.inl ⟨by rfl, ?_⟩) hS ?_
        rotate_left
        · (intro wq hSw; go_simp; try with_reducible rfl)
        simp only [List.getElem_toArray, List.getElem_cons_succ, List.getElem_cons_zero, Act.put, List.setIfInBounds_toArray, List.set_cons_succ, List.set_cons_zero]
        refine wpAnyH_take (i := 34) (v := ?_) rfl (by kernel_rfl) (by kernel_rfl) (by kernel_rfl) (fun _ _ _ h => h) (Or.inl ⟨by rfl, ?_⟩) hS ?_
        rotate_left
        · (intro wq hSw; go_simp; try with_reducible rfl)
        simp only [List.getElem_toArray, List.getElem_cons_succ, List.getElem_cons_zero, Act.put, List.setIfInBounds_toArray, List.set_cons_succ, List.set_cons_zero]
        refine wpAnyH_done (by kernel_rfl) ?_ _
        have HS5 : Hid (Fr w5 _ No) := Lib.hid hS
        clear hS
        have hbS := HS5.out.no_below
        have HB_wc := Lib.hid (HB_w5.out.trans (hbS.mono HB_w5.out.size))
        have HX := Lib.hid (HX.out.below hbS HX.out.lt)
        have HX2 := Lib.hid (HX2.out.below hbS HX2.out.lt)
        have HI := Lib.hid (HI.out.keep (Fr.of_below hbS No) fun _ _ hn => hn)
        have HIb := Lib.hid (HIb.out.keep (Fr.of_below hbS No) fun _ _ hn => hn)
        have HQI := Lib.hid (HQI.out.keep (Fr.of_below hbS No) fun _ _ hn => hn)
        have HQIb := Lib.hid (HQIb.out.keep (Fr.of_below hbS No) fun _ _ hn => hn)
        have HR4 := Lib.hid (HR4.out.keep (Fr.of_below hbS No) fun _ _ hn => hn)
        obtain ⟨y0, y1, y2, y3, y4, y5, y6, y7, y8, y9, y10, y11, y12, y13, y14⟩ := rcs_cells HX.out
        obtain ⟨t0, t1, t2, t3, t4, t5, t6, t7, t8, t9, t10, t11, t12, t13, t14⟩ := rcs_cells HX2.out
        have HWB5 := Lib.hid ((HWB4.out.keep (Fr.of_below HB45.out No) (fun _ _ hn => hn)).keep HS5.out (fun _ _ hn => hn))
        clear hbS hcv hcv' HCX
        as_aux_lemma =>
          go_wp2_with fail
          go_loopw [7] (fun u wy => ∃ i : Nat, u = .int .i64 (i : Int) ∧ i ≤ n ∧ WB wy (fun b => w3b.heap.size ≤ b) A4 n ∧ Fr wc wy (fun b => w3b.heap.size ≤ b)) (fun u _ => n - (intOf u).toNat)
          case atStart => exact ⟨0, rfl, by omega, HWB5.out, Fr.refl _ _⟩
          case round =>
            obtain ⟨i, rfl, hi, hw, hf⟩ := hrel
            by_cases hlt : i < n
            · obtain ⟨ad, z, rfl, hz, hcell, hfz, hOa, hset⟩ := hw.at_ hlt
              obtain ⟨y, hy⟩ : ∃ y, y = (z + 1) % 256 := ⟨_, rfl⟩
              have hy2 : y < 256 := by omega
              have hw8 : IntKind.u8.wrap ((z : Int) + 1) = (y : Int) := by rw [IntKind.wrap_u8]; omega
              have HSS := Lib.hid (hset y hy2)
              have HFi := Lib.hid (show Fr wc (World.setCell _ (ad.add i) (.int .u8 (y : Int))) (fun b => w3b.heap.size ≤ b) from hf.setCell (Or.inl (by rw [block_of_add]; exact hOa)) _)
              have hin : ((i : Int) < (n : Int)) := by omega
              have h1t : decide ((i : Int) < (n : Int)) = true := decide_eq_true hin
              have hWi : IntKind.i64.wrap ((i : Int) + 1) = ((i + 1 : Nat) : Int) := by rw [IntWalk.i64_in _ (by omega)]; omega
              clear hw hf hset hy hz
              go_wp2_with fail
              go_roundw
              case rel => exact ⟨i + 1, by go_num, by omega, HSS.out, HFi.out⟩
              case measure => simp [intOf]; omega
            · have h1d : decide ((i : Int) < (n : Int)) = false := decide_eq_false (by omega)
              have h1d2 : decide (i < n) = false := decide_eq_false hlt
              have HFF := Lib.hid hf
              have HBF : Hid (Below w.heap.size w wr) := Lib.hid (HB_wc.out.trans (HFF.out.below (fun b hb => by have h9 : w3b.heap.size ≤ b := hb; have := HZ3.out; omega) HB_wc.out.size))
              clear hw hf hlt hi
              obtain ⟨y0, y1, y2, y3, y4, y5, y6, y7, y8, y9, y10, y11, y12, y13, y14⟩ := rcs_cells (HX.out.keep HFF.out fun h => by have h9 : w3b.heap.size ≤ w.heap.size := h; have := HZ3.out; omega)
              obtain ⟨t0, t1, t2, t3, t4, t5, t6, t7, t8, t9, t10, t11, t12, t13, t14⟩ := rcs_cells (HX2.out.keep HFF.out fun h => by have h9 : w3b.heap.size ≤ w3.heap.size := h; have := HZ3.out; omega)
              have hp9 := HIb.out.keep HFF.out (fun b hb h => by have h9 : w3b.heap.size ≤ b := h; have h8 : b < W.heap.size := hb; have := HZ3.out; omega)
              have hq9 := HQIb.out.keep HFF.out (fun b hb h => by have h9 : w3b.heap.size ≤ b := h; have h8 : b < w3b.heap.size := hb; omega)
              have HSA := Lib.hid (same_r r q _ (hp9.mono fun _ _ _ => trivial) (hq9.mono fun _ _ _ => trivial))
              have hss : ((r.s : Int) == (q.s : Int)) = true := by have h9 : q.s = r.s := congrArg RE.s HQE.out; rw [h9]; simp
              unfold RV.agg at HSA
              clear hp9 hq9
              go_wp2_with fail
              with_reducible refine HSA.out.mono ?_
              unfold Tells
              rintro e w8 ⟨b8, rfl, hiff, hb8⟩
              have hbt : b8 = true := hiff.2 (by rw [HQE.out])
              subst hbt
              have hfr8 := Fr.of_below hb8 No
              have hx8 := (HX.out.keep HFF.out fun h => by have h9 : w3b.heap.size ≤ w.heap.size := h; have := HZ3.out; omega).keep hfr8 (fun h => h)
              have hx9 := (HX2.out.keep HFF.out fun h => by have h9 : w3b.heap.size ≤ w3.heap.size := h; have := HZ3.out; omega).keep hfr8 (fun h => h)
              obtain ⟨y0, y1, y2, y3, y4, y5, y6, y7, y8, y9, y10, y11, y12, y13, y14⟩ := rcs_cells hx8
              obtain ⟨t0, t1, t2, t3, t4, t5, t6, t7, t8, t9, t10, t11, t12, t13, t14⟩ := rcs_cells hx9
              have HB8 := Lib.hid (HBF.out.trans (hb8.mono HBF.out.size))
              clear hb8 hiff hfr8 hx8 hx9
              go_wp2_with fail
              with_reducible refine (HAL.out _).mono ?_
              rintro e w9 ⟨rfl, hb9⟩
              have HB9 := Lib.hid (HB8.out.trans (hb9.mono HB8.out.size))
              clear hb9
              go_wp2_with fail
              go_ret
              exact ⟨rfl, HB9.out⟩
end
end recordBytes
end Go.Proofs.YtdhgbkibbileiaaGreat
