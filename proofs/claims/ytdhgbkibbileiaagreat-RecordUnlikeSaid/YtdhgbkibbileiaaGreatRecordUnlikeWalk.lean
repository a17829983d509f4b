/-
  RecordUnlike: THE WALK.
-/
import Derived.Test.YtdhgbkibbileiaaGreatSO
import Derived.Test.YtdhgbkibbileiaaGreatSD
import Derived.Test.YtdhgbkibbileiaaGreatSE
namespace Go.Proofs.YtdhgbkibbileiaaGreat
open Go.RowKit
/-- what alive comes to -/
def Alive (w : World) (e : Ending) (w' : World) : Prop := e = .returned (.bool true) ∧ Below w.heap.size w w'
theorem codeE_yes {r : RE} (h : bytesE r ≠ []) : codeE r = 0 := by unfold codeE; rw [if_neg h]
theorem codeE_no {r : RE} (h : bytesE r = []) : codeE r = 5 := by unfold codeE; rw [if_pos h]
end Go.Proofs.YtdhgbkibbileiaaGreat
namespace Go.Proofs.YtdhgbkibbileiaaGreat.recordUnlike
open Go.RowKit
section
attribute [local go_sem high] run_neqL run_eqL
set_option maxHeartbeats 16000000 in
set_option maxRecDepth 100000 in
theorem walked (r r' : RV) (w : World) (h : r.Came w) (h' : r'.Came w) : Calls Tryz.prog 7 #[r.agg, r'.agg] w (Alive w) := by
  obtain ⟨W1, hW1, hBW1, hbx1, hsz1⟩ := box_rv w r
  obtain ⟨W, hW, hBW2, hbx2, hsz2⟩ := box_rv W1 r'
  have hbx := hbx1.below hBW2 (by omega)
  have hBW : Below w.heap.size w W := hBW1.trans (hBW2.mono hBW1.size)
  obtain ⟨y0, y1, y2, y3, y4, y5, y6, y7, y8, y9, y10, y11, y12, y13, y14⟩ := rcs_cells hbx
  obtain ⟨t0, t1, t2, t3, t4, t5, t6, t7, t8, t9, t10, t11, t12, t13, t14⟩ := rcs_cells hbx2
  have hh := h.inn.keep (Fr.of_below hBW No) fun _ _ hn => hn
  have hh' := h'.inn.keep (Fr.of_below hBW No) fun _ _ hn => hn
  have HBW := Lib.hid hBW
  have HBX := Lib.hid hbx
  have HBX2 := Lib.hid hbx2
  have HI := Lib.hid hh
  have HI' := Lib.hid hh'
  have HE := Lib.hid (And.intro hh.e hh'.e)
  have HL := Lib.hid (long_r W r hh)
  have HAL := Lib.hid (fun W => alive_any W)
  simp only [rcs] at hW1 hW
  unfold RV.agg at HL ⊢
  clear h h' hBW1 hBW2 hbx1 hbx2 hsz1 hsz2 hbx hBW hh hh'
  go_enter Tryz.func7, Tryz.ntmps7
  go_wp2_with fail
  with_reducible refine HL.out.mono ?_
  unfold LongR
  rintro e w2 ⟨b, rfl, hb2, hbr⟩
  have HB2 := Lib.hid (HBW.out.trans (hb2.mono HBW.out.size))
  have HBR := Lib.hid hbr
  obtain ⟨y0, y1, y2, y3, y4, y5, y6, y7, y8, y9, y10, y11, y12, y13, y14⟩ := rcs_cells (HBX.out.below hb2 HBX.out.lt)
  obtain ⟨t0, t1, t2, t3, t4, t5, t6, t7, t8, t9, t10, t11, t12, t13, t14⟩ := rcs_cells (HBX2.out.below hb2 HBX2.out.lt)
  have HBX := Lib.hid (HBX.out.below hb2 HBX.out.lt)
  have HBX2 := Lib.hid (HBX2.out.below hb2 HBX2.out.lt)
  have HI := Lib.hid (HI.out.keep (Fr.of_below hb2 No) fun _ _ hn => hn)
  have HI' := Lib.hid (HI'.out.keep (Fr.of_below hb2 No) fun _ _ hn => hn)
  clear hb2 hbr
  cases b with
  | true =>
    go_wp2_with fail
    with_reducible refine (HAL.out _).mono ?_
    rintro e w3 ⟨rfl, hb3⟩
    have HB3 := Lib.hid hb3
    clear hb3
    go_wp2_with fail
    go_ret
    exact ⟨rfl, HB2.out.trans (HB3.out.mono HB2.out.size)⟩
  | false =>
    have HBQ : Hid (Brief r) := Lib.hid (HBR.out (by first | rfl | trivial))
    have HL' := Lib.hid (long_r w2 r' HI'.out)
    unfold RV.agg at HL'
    go_wp2_with fail
    with_reducible refine HL'.out.mono ?_
    unfold LongR
    rintro e w3 ⟨b, rfl, hb3, hbr⟩
    have HB3 := Lib.hid (HB2.out.trans (hb3.mono HB2.out.size))
    have HBR' := Lib.hid hbr
    obtain ⟨y0, y1, y2, y3, y4, y5, y6, y7, y8, y9, y10, y11, y12, y13, y14⟩ := rcs_cells (HBX.out.below hb3 HBX.out.lt)
    obtain ⟨t0, t1, t2, t3, t4, t5, t6, t7, t8, t9, t10, t11, t12, t13, t14⟩ := rcs_cells (HBX2.out.below hb3 HBX2.out.lt)
    have HBX := Lib.hid (HBX.out.below hb3 HBX.out.lt)
    have HBX2 := Lib.hid (HBX2.out.below hb3 HBX2.out.lt)
    have HI := Lib.hid (HI.out.keep (Fr.of_below hb3 No) fun _ _ hn => hn)
    have HI' := Lib.hid (HI'.out.keep (Fr.of_below hb3 No) fun _ _ hn => hn)
    clear hb3 hbr
    cases b with
    | true =>
      go_wp2_with fail
      with_reducible refine (HAL.out _).mono ?_
      rintro e w4 ⟨rfl, hb4⟩
      have HB4 := Lib.hid hb4
      clear hb4
      go_wp2_with fail
      go_ret
      exact ⟨rfl, HB3.out.trans (HB4.out.mono HB3.out.size)⟩
    | false =>
      have HBQ' : Hid (Brief r') := Lib.hid (HBR'.out (by first | rfl | trivial))
      have HEN := Lib.hid (encode_e w3 r HI.out HBQ.out)
      unfold RV.agg at HEN
      obtain ⟨x, hx⟩ : ∃ x, x = bytesE r.e := ⟨_, rfl⟩
      obtain ⟨y, hy⟩ : ∃ y, y = bytesE r'.e := ⟨_, rfl⟩
      obtain ⟨cx, hcx⟩ : ∃ cx, cx = codeE r.e := ⟨_, rfl⟩
      obtain ⟨cy, hcy⟩ : ∃ cy, cy = codeE r'.e := ⟨_, rfl⟩
      have HX := Lib.hid (And.intro hx hcx)
      have HY := Lib.hid (And.intro hy hcy)
      unfold EncE at HEN
      rw [← hx, ← hcx] at HEN
      clear hx hcx
      go_wp2_with fail
      with_reducible refine HEN.out.mono ?_
      rintro e w4 ⟨A, c, rfl, _, _, hrx, _, hb4⟩
      have HB4 := Lib.hid (HB3.out.trans (hb4.mono HB3.out.size))
      have HRX := Lib.hid (hrx.mono (T := All) fun _ _ _ => trivial)
      obtain ⟨y0, y1, y2, y3, y4, y5, y6, y7, y8, y9, y10, y11, y12, y13, y14⟩ := rcs_cells (HBX.out.below hb4 HBX.out.lt)
      obtain ⟨t0, t1, t2, t3, t4, t5, t6, t7, t8, t9, t10, t11, t12, t13, t14⟩ := rcs_cells (HBX2.out.below hb4 HBX2.out.lt)
      have HBX := Lib.hid (HBX.out.below hb4 HBX.out.lt)
      have HBX2 := Lib.hid (HBX2.out.below hb4 HBX2.out.lt)
      have HI := Lib.hid (HI.out.keep (Fr.of_below hb4 No) fun _ _ hn => hn)
      have HI' := Lib.hid (HI'.out.keep (Fr.of_below hb4 No) fun _ _ hn => hn)
      have HEN' := Lib.hid (encode_e w4 r' HI'.out HBQ'.out)
      unfold RV.agg at HEN'
      unfold EncE at HEN'
      rw [← hy, ← hcy] at HEN'
      clear hb4 hrx hy hcy
      go_wp2_with fail
      with_reducible refine HEN'.out.mono ?_
      rintro e w5 ⟨A', c', rfl, _, _, hry, _, hb5⟩
      have HB5 := Lib.hid (HB4.out.trans (hb5.mono HB4.out.size))
      have HRY := Lib.hid (hry.mono (T := All) fun _ _ _ => trivial)
      have HRX := Lib.hid (HRX.out.keep (Fr.of_below hb5 No) fun _ _ hn => hn)
      have HBX := Lib.hid (HBX.out.below hb5 HBX.out.lt)
      have HBX2 := Lib.hid (HBX2.out.below hb5 HBX2.out.lt)
      have HI := Lib.hid (HI.out.keep (Fr.of_below hb5 No) fun _ _ hn => hn)
      have HI' := Lib.hid (HI'.out.keep (Fr.of_below hb5 No) fun _ _ hn => hn)
      obtain ⟨y0, y1, y2, y3, y4, y5, y6, y7, y8, y9, y10, y11, y12, y13, y14⟩ := rcs_cells HBX.out
      obtain ⟨t0, t1, t2, t3, t4, t5, t6, t7, t8, t9, t10, t11, t12, t13, t14⟩ := rcs_cells HBX2.out
      clear hb5 hry
      have hxe : (x = [] ∧ cx = 5) ∨ (x ≠ [] ∧ cx = 0) := by
        obtain ⟨e1, e2⟩ := HX.out
        rw [e1, e2]
        by_cases hn : bytesE r.e = []
        · exact Or.inl ⟨hn, codeE_no hn⟩
        · exact Or.inr ⟨hn, codeE_yes hn⟩
      have hye : (y = [] ∧ cy = 5) ∨ (y ≠ [] ∧ cy = 0) := by
        obtain ⟨e1, e2⟩ := HY.out
        rw [e1, e2]
        by_cases hn : bytesE r'.e = []
        · exact Or.inl ⟨hn, codeE_no hn⟩
        · exact Or.inr ⟨hn, codeE_yes hn⟩
      rcases hxe with ⟨hx0, rfl⟩ | ⟨hx0, rfl⟩
      · have hlx : x.length = 0 := by rw [hx0]; rfl
        have k0 : ((x.length : Int) == 0) = true := by rw [hlx]; rfl
        have k1 : (x.length == 0) = true := by rw [hlx]; rfl
        rcases hye with ⟨hy0, rfl⟩ | ⟨hy0, rfl⟩
        · have hly : y.length = 0 := by rw [hy0]; rfl
          have l0 : ((y.length : Int) == 0) = true := by rw [hly]; rfl
          have l1 : (y.length == 0) = true := by rw [hly]; rfl
          clear hx0 hy0 hlx hly
          go_wp2_with fail
          with_reducible refine (HAL.out _).mono ?_
          rintro e w6 ⟨rfl, hb6⟩
          have HB6 := Lib.hid hb6
          clear hb6
          go_wp2_with fail
          go_ret
          exact ⟨rfl, HB5.out.trans (HB6.out.mono HB5.out.size)⟩
        · clear hx0 hy0 hlx
          go_wp2_with fail
          with_reducible refine (HAL.out _).mono ?_
          rintro e w6 ⟨rfl, hb6⟩
          have HB6 := Lib.hid hb6
          clear hb6
          go_wp2_with fail
          go_ret
          exact ⟨rfl, HB5.out.trans (HB6.out.mono HB5.out.size)⟩
      · rcases hye with ⟨hy0, rfl⟩ | ⟨hy0, rfl⟩
        · have hly : y.length = 0 := by rw [hy0]; rfl
          have l0 : ((y.length : Int) == 0) = true := by rw [hly]; rfl
          have l1 : (y.length == 0) = true := by rw [hly]; rfl
          clear hx0 hy0 hly
          go_wp2_with fail
          with_reducible refine (HAL.out _).mono ?_
          rintro e w6 ⟨rfl, hb6⟩
          have HB6 := Lib.hid hb6
          clear hb6
          go_wp2_with fail
          go_ret
          exact ⟨rfl, HB5.out.trans (HB6.out.mono HB5.out.size)⟩
        · have HNE := Lib.hid (And.intro hx0 hy0)
          have hcv := fun (wq : World) (hb : Fr w5 wq No) => run_conv All A x.length c x wq (HRX.out.keep hb fun _ _ hn => hn)
          have hcv' := fun (wq : World) (hb : Fr w5 wq No) => run_conv All A' y.length c' y wq (HRY.out.keep hb fun _ _ hn => hn)
          have HSM := Lib.hid (same_r r r' w5.drew (HI.out.keep ((Fr.refl w5 No).drew) fun _ _ hn => hn) (HI'.out.keep ((Fr.refl w5 No).drew) fun _ _ hn => hn))
          unfold RV.agg at HSM
          have hsq := seq_iff HRX.out.2.1 HRY.out.2.1
          obtain ⟨sq, hsqq⟩ : ∃ sq, sq = seq x y := ⟨_, rfl⟩
          rw [← hsqq] at hsq
          have HSQ := Lib.hid hsq
          have hsqq' := hsqq.symm
          clear hsq hsqq hx0 hy0
          have hcc : ∀ wq : World, Fr w5 wq No → True := fun _ _ => trivial
          go_upto_region 7 with fail
          refine wp_region_held_drew (S := fun wx => Fr w5 wx No) (by kernel_rfl) ((Fr.refl w5 No).drew) (fun hS => ?_)
          refine wpAnyH_take (i := 0) (v := ?_) rfl (by kernel_rfl) (by kernel_rfl) (by kernel_rfl) (fun _ _ _ h => h) (Or.inl ⟨by rfl, ?_⟩) hS ?_
          rotate_left
          · (intro wq hSw; go_simp; try with_reducible rfl)
          refine wpAnyH_take (i := 1) (v := ?_) rfl (by kernel_rfl) (by kernel_rfl) (by kernel_rfl) (fun _ _ _ h => h) (Or.inl ⟨by rfl, ?_⟩) hS ?_
          rotate_left
          · (intro wq hSw; have hq := hcv wq hSw; go_simp; try with_reducible rfl)
          simp only [List.getElem_toArray, Act.put]
          refine wpAnyH_take (i := 2) (v := ?_) rfl (by kernel_rfl) (by kernel_rfl) (by kernel_rfl) (fun _ _ _ h => h) (Or.inl ⟨by rfl, ?_⟩) hS ?_
          rotate_left
          · (intro wq hSw; go_simp; try with_reducible rfl)
          simp only [List.getElem_toArray, Act.put]
          refine wpAnyH_take (i := 3) (v := ?_) rfl (by kernel_rfl) (by kernel_rfl) (by kernel_rfl) (fun _ _ _ h => h) (Or.inl ⟨by rfl, ?_⟩) hS ?_
          rotate_left
          · (intro wq hSw; have hq := hcv' wq hSw; go_simp; try with_reducible rfl)
          simp only [List.getElem_toArray, Act.put]
          refine wpAnyH_take (i := 4) (v := ?_) rfl (by kernel_rfl) (by kernel_rfl) (by kernel_rfl) (fun _ _ _ h => h) (Or.inl ⟨by rfl, ?_⟩) hS ?_
          rotate_left
          · (intro wq hSw; go_simp; try with_reducible rfl)
          simp only [List.getElem_toArray, Act.put]
          refine wpAnyH_take (i := 5) (v := ?_) rfl (by kernel_rfl) (by kernel_rfl) (by kernel_rfl) (fun _ _ _ h => h) (Or.inl ⟨by rfl, ?_⟩) hS ?_
          rotate_left
          · (intro wq hSw; obtain ⟨y0, y1, y2, y3, y4, y5, y6, y7, y8, y9, y10, y11, y12, y13, y14⟩ := rcs_cells (HBX.out.keep hSw fun h => h); go_simp; try with_reducible rfl)
          simp only [List.getElem_toArray, Act.put]
          refine wpAnyH_take (i := 6) (v := ?_) rfl (by kernel_rfl) (by kernel_rfl) (by kernel_rfl) (fun _ _ _ h => h) (Or.inl ⟨by rfl, ?_⟩) hS ?_
          rotate_left
          · (intro wq hSw; obtain ⟨y0, y1, y2, y3, y4, y5, y6, y7, y8, y9, y10, y11, y12, y13, y14⟩ := rcs_cells (HBX2.out.keep hSw fun h => h); go_simp; try with_reducible rfl)
          simp only [List.getElem_toArray, Act.put]
          refine wpAnyH_ready (rs := [7]) (by kernel_rfl) (by simp) ?_
          refine AllReadyH.cons rfl (fun K hK => ?_) AllReadyH.nil
          go_simp
          refine HSM.out.mono ?_
          unfold Tells
          rintro e w6 ⟨sb, rfl, hsb, hb6⟩
          have hsame : sq = sb := by
            have h1 := HSQ.out
            obtain ⟨n1, n2⟩ := HNE.out
            rw [HX.out.1] at h1 n1
            rw [HY.out.1] at h1
            rw [h1, Bool.eq_iff_iff, decide_eq_true_eq, hsb]
            exact ⟨fun h => bytesE_one HE.out.1 HE.out.2 n1 h, fun h => bytesE_same h⟩
          have hb56 : Below w5.heap.size w5 w6 := ((Below.refl w5.heap.size w5).drew).trans hb6
          have HB6 := Lib.hid (HB5.out.trans (hb56.mono HB5.out.size))
          refine hK.out _ _ ?_ (fun hS => ?_)
          · exact hS.trans (Fr.of_below hb6 No) fun _ hn => hn.elim
          clear hK K hsb hb6 hb56
          subst hsame
          have hee : (sq == sq) = true := by simp
          refine wpAnyH_take (i := 8) (v := ?_) rfl (by kernel_rfl) (by kernel_rfl) (by kernel_rfl) (fun _ _ _ h => h) (Or.inl ⟨by rfl, ?_⟩) hS ?_
          rotate_left
          · (intro wq hSw; go_simp; try with_reducible rfl)
          simp only [List.getElem_toArray, Act.put]
          refine wpAnyH_take (i := 9) (v := ?_) rfl (by kernel_rfl) (by kernel_rfl) (by kernel_rfl) (fun _ _ _ h => h) (Or.inl ⟨by rfl, ?_⟩) hS ?_
          rotate_left
          · (intro wq hSw; go_simp; try with_reducible rfl)
          simp only [List.getElem_toArray, Act.put]
          refine wpAnyH_ready (rs := [10]) (by kernel_rfl) (by simp) ?_
          refine AllReadyH.cons rfl (fun K hK => ?_) AllReadyH.nil
          go_simp
          refine (HAL.out _).mono ?_
          rintro e w7 ⟨rfl, hb7⟩
          have HB7 := Lib.hid hb7
          refine hK.out _ _ ?_ (fun hS => ?_)
          · exact hS.trans (Fr.of_below hb7 No) fun _ hn => hn.elim
          clear hK K hb7
          refine wpAnyH_ready (rs := [11]) (by kernel_rfl) (by simp) ?_
          refine AllReadyH.cons rfl (fun K hK => ?_) AllReadyH.nil
          go_simp
          refine hK.out _ _ hS (fun hS => ?_)
          clear hK K
          refine wpAnyH_ready (rs := [12]) (by kernel_rfl) (by simp) ?_
          refine AllReadyH.cons rfl (fun K hK => ?_) AllReadyH.nil
          go_simp
          refine hK.out _ _ hS (fun hS => ?_)
          clear hK K
          refine wpAnyH_done (by kernel_rfl) ?_ _
          clear hS
          go_wp2_with fail
          go_ret
          exact ⟨rfl, HB6.out.trans (HB7.out.mono HB6.out.size)⟩
end
end Go.Proofs.YtdhgbkibbileiaaGreat.recordUnlike
