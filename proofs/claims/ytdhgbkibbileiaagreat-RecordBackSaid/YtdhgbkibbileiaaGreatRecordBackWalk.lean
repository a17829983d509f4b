/-
  RecordBack: THE WALK, where the record may not be, and where there is no cut.
-/
import Derived.Test.YtdhgbkibbileiaaGreatSQ
namespace Go.Proofs.YtdhgbkibbileiaaGreat.recordBack
open Go.RowKit
section
attribute [local go_sem high] run_neqL run_eqL
set_option maxHeartbeats 16000000 in
set_option maxRecDepth 100000 in
theorem walk_a (r : RV) (A : Option Addr) (n c : Nat) (l : List Nat) (cut : Int) (w : World) (h : r.Came w) (hb : RB w (fun b => b < w.heap.size) A n l ∧ n ≤ c ∧ n ≤ 140737488351232 ∧ (A = none → c = 0)) (_ : -9223372036854775808 ≤ cut) (_ : cut ≤ 9223372036854775807) (ha : bytesE r.e = []) : Calls Tryz.prog 5 #[r.agg, .slice A n c, .int .i64 cut] w (Alive w) := by
  have HCA := Lib.hid ha
  clear ha
  obtain ⟨W, hW, hBW, hbx, hsz⟩ := box_rv w r
  obtain ⟨y0, y1, y2, y3, y4, y5, y6, y7, y8, y9, y10, y11, y12, y13, y14⟩ := rcs_cells hbx
  have hh := h.inn.keep (Fr.of_below hBW No) fun _ _ hn => hn
  have HB_W := Lib.hid hBW
  have HX := Lib.hid hbx
  have HI := Lib.hid hh
  have HBE := Lib.hid ((hb.1.mono (T := All) fun _ _ _ => trivial).keep (Fr.of_below hBW No) fun _ _ hn => hn)
  have HE := Lib.hid hh.e
  have HL := Lib.hid (long_r W r hh)
  have HAL := Lib.hid (fun W => alive_any W)
  have hnc0 : n ≤ c := hb.2.1
  simp only [rcs] at hW
  unfold RV.agg at HL ⊢
  clear h hb hBW hbx hsz hh
  go_enter Tryz.func5, Tryz.ntmps5
  go_wp2_with fail
  with_reducible refine HL.out.mono ?_
  unfold LongR
  rintro e w2 ⟨b, rfl, hb2, hbr⟩
  have HBR0 := Lib.hid hbr
  have HB_w2 := Lib.hid (HB_W.out.trans (hb2.mono HB_W.out.size))
  have HX := Lib.hid (HX.out.below hb2 HX.out.lt)
  have HI := Lib.hid (HI.out.keep (Fr.of_below hb2 No) fun _ _ hn => hn)
  have HBE := Lib.hid (HBE.out.keep (Fr.of_below hb2 No) fun _ _ hn => hn)
  obtain ⟨y0, y1, y2, y3, y4, y5, y6, y7, y8, y9, y10, y11, y12, y13, y14⟩ := rcs_cells HX.out
  clear hb2 hbr
  cases b with
  | true =>
    clear hnc0
    go_wp2_with fail
    with_reducible refine (HAL.out _).mono ?_
    rintro e wA ⟨rfl, hbA⟩
    have HBA := Lib.hid hbA
    clear hbA
    go_wp2_with fail
    go_ret
    exact ⟨rfl, HB_w2.out.trans (HBA.out.mono HB_w2.out.size)⟩
  | false =>
    have HBR : Hid (Brief r) := Lib.hid (HBR0.out (by first | rfl | trivial))
    by_cases hbig : 131072 < n
    · have d1 : decide ((n : Int) > 131072) = true := decide_eq_true (by omega)
      have d2 : decide (131072 < n) = true := decide_eq_true hbig
      clear hbig hnc0
      go_wp2_with fail
      with_reducible refine (HAL.out _).mono ?_
      rintro e wA ⟨rfl, hbA⟩
      have HBA := Lib.hid hbA
      clear hbA
      go_wp2_with fail
      go_ret
      exact ⟨rfl, HB_w2.out.trans (HBA.out.mono HB_w2.out.size)⟩
    have d1 : decide ((n : Int) > 131072) = false := decide_eq_false (by omega)
    have d2 : decide (131072 < n) = false := decide_eq_false hbig
    have HNC : Hid (n ≤ c ∧ n ≤ 131072) := Lib.hid ⟨hnc0, by omega⟩
    have HEN := Lib.hid (encode_e w2 r HI.out HBR.out)
    unfold RV.agg at HEN
    obtain ⟨x, hx⟩ : ∃ x, x = bytesE r.e := ⟨_, rfl⟩
    obtain ⟨cx, hcx⟩ : ∃ cx, cx = codeE r.e := ⟨_, rfl⟩
    have HXE := Lib.hid (And.intro hx hcx)
    unfold EncE at HEN
    rw [← hx, ← hcx] at HEN
    clear hx hcx hbig hnc0
    go_wp2_with fail
    with_reducible refine HEN.out.mono ?_
    rintro e w4 ⟨A1, c1, rfl, hxc, hA1, hrx, hox, hb4⟩
    have HRX := Lib.hid (hrx.mono (T := All) fun _ _ _ => trivial)
    have HXC := Lib.hid hxc
    have HB_w4 := Lib.hid (HB_w2.out.trans (hb4.mono HB_w2.out.size))
    have HX := Lib.hid (HX.out.below hb4 HX.out.lt)
    have HI := Lib.hid (HI.out.keep (Fr.of_below hb4 No) fun _ _ hn => hn)
    have HBE := Lib.hid (HBE.out.keep (Fr.of_below hb4 No) fun _ _ hn => hn)
    obtain ⟨y0, y1, y2, y3, y4, y5, y6, y7, y8, y9, y10, y11, y12, y13, y14⟩ := rcs_cells HX.out
    clear hb4 hrx hox hxc hA1 HEN
    have HM := Lib.hid (may_e w4 r HI.out HBR.out)
    unfold RV.agg at HM
    rw [← HXE.out.1] at HM
    have hxe : (x = [] ∧ cx = 5) ∨ (x ≠ [] ∧ cx = 0) := by
      obtain ⟨e1, e2⟩ := HXE.out
      rw [e1, e2]
      by_cases hn : bytesE r.e = []
      · exact Or.inl ⟨hn, codeE_no hn⟩
      · exact Or.inr ⟨hn, codeE_yes hn⟩
    have k9 : ((x.length : Int) != (x.length : Int)) = false := by simp
    have k8 : ((x.length : Int) == (x.length : Int)) = true := by simp
    rcases hxe with ⟨hx0, rfl⟩ | ⟨hx0, rfl⟩
    · have hm : decide (0 < x.length) = false := by rw [hx0]; rfl
      rw [hm] at HM
      clear hx0 hm
      go_wp2_with fail
      with_reducible refine HM.out.mono ?_
      rintro e w5 ⟨rfl, hb5⟩
      have HB_w5 := Lib.hid (HB_w4.out.trans (hb5.mono HB_w4.out.size))
      have HX := Lib.hid (HX.out.below hb5 HX.out.lt)
      have HI := Lib.hid (HI.out.keep (Fr.of_below hb5 No) fun _ _ hn => hn)
      have HBE := Lib.hid (HBE.out.keep (Fr.of_below hb5 No) fun _ _ hn => hn)
      have HRX := Lib.hid (HRX.out.keep (Fr.of_below hb5 No) fun _ _ hn => hn)
      obtain ⟨y0, y1, y2, y3, y4, y5, y6, y7, y8, y9, y10, y11, y12, y13, y14⟩ := rcs_cells HX.out
      clear hb5 
      have HSZ := Lib.hid (size_e w5 r HI.out HBR.out)
      unfold RV.agg at HSZ
      rw [← HXE.out.1] at HSZ
      go_wp2_with fail
      with_reducible refine HSZ.out.mono ?_
      rintro e w6 ⟨rfl, hb6⟩
      have HB_w6 := Lib.hid (HB_w5.out.trans (hb6.mono HB_w5.out.size))
      have HX := Lib.hid (HX.out.below hb6 HX.out.lt)
      have HI := Lib.hid (HI.out.keep (Fr.of_below hb6 No) fun _ _ hn => hn)
      have HBE := Lib.hid (HBE.out.keep (Fr.of_below hb6 No) fun _ _ hn => hn)
      have HRX := Lib.hid (HRX.out.keep (Fr.of_below hb6 No) fun _ _ hn => hn)
      obtain ⟨y0, y1, y2, y3, y4, y5, y6, y7, y8, y9, y10, y11, y12, y13, y14⟩ := rcs_cells HX.out
      clear hb6 
      as_aux_lemma =>
        have HDF := Lib.hid (decode_f w6 A n c l HBE.out HNC.out.1 (by have := HNC.out.2; omega))
        go_wp2_with fail
        with_reducible refine HDF.out.mono ?_
        unfold DecF
        rintro e wd ⟨rv2, n2, c2, rfl, hcase, hi2, hbr2, hbd⟩
        have HI2 := Lib.hid hi2
        have HBR2 := Lib.hid hbr2
        have HB_wd := Lib.hid (HB_w6.out.trans (hbd.mono HB_w6.out.size))
        have HX := Lib.hid (HX.out.below hbd HX.out.lt)
        have HI := Lib.hid (HI.out.keep (Fr.of_below hbd No) fun _ _ hn => hn)
        have HBE := Lib.hid (HBE.out.keep (Fr.of_below hbd No) fun _ _ hn => hn)
        have HRX := Lib.hid (HRX.out.keep (Fr.of_below hbd No) fun _ _ hn => hn)
        obtain ⟨y0, y1, y2, y3, y4, y5, y6, y7, y8, y9, y10, y11, y12, y13, y14⟩ := rcs_cells HX.out
        clear hbd hi2 hbr2 HDF
        obtain ⟨wdb, hwdb⟩ : ∃ wdb, wd.alloc (.cells (rcs rv2) 31) = wdb := ⟨_, rfl⟩
        have HX2 : Hid (Blk wdb wd.heap.size 31 (rcs rv2)) := Lib.hid (by rw [← hwdb]; exact Blk.new wd 31 _)
        have hb_wdb : Below wd.heap.size wd wdb := by rw [← hwdb]; exact (Below.refl _ _).alloc (Nat.le_refl _) _
        have HB_wdb := Lib.hid (HB_wd.out.trans (hb_wdb.mono HB_wd.out.size))
        have HX := Lib.hid (HX.out.below hb_wdb HX.out.lt)
        have HI := Lib.hid (HI.out.keep (Fr.of_below hb_wdb No) fun _ _ hn => hn)
        have HBE := Lib.hid (HBE.out.keep (Fr.of_below hb_wdb No) fun _ _ hn => hn)
        have HRX := Lib.hid (HRX.out.keep (Fr.of_below hb_wdb No) fun _ _ hn => hn)
        have HI2 := Lib.hid (HI2.out.keep (Fr.of_below hb_wdb No) fun _ _ hn => hn)
        obtain ⟨y0, y1, y2, y3, y4, y5, y6, y7, y8, y9, y10, y11, y12, y13, y14⟩ := rcs_cells HX.out
        obtain ⟨u0, u1, u2, u3, u4, u5, u6, u7, u8, u9, u10, u11, u12, u13, u14⟩ := rcs_cells HX2.out
        simp only [rcs] at hwdb
        clear hb_wdb
        unfold RV.agg
        rcases hcase with ⟨rfl, hb2, hn3, hn4⟩ | ⟨hc2, rfl⟩
        · have HC2 := Lib.hid (And.intro hb2 (And.intro hn3 hn4))
          have HEN2 := Lib.hid (encode_e wdb rv2 HI2.out HBR2.out)
          unfold EncE at HEN2
          unfold RV.agg at HEN2
          have hnl : n2 ≤ n := by rw [← HBE.out.len]; exact hn4
          have hlen2 : (bytesE rv2.e).length = n2 := by rw [hb2, List.length_take]; omega
          have hcode : codeE rv2.e = 0 := codeE_yes (fun h => by rw [h] at hlen2; simp at hlen2; omega)
          rw [hb2, hcode, ← hb2, hlen2] at HEN2
          have HNL := Lib.hid (And.intro hnl hlen2)
          clear hb2 hn3 hn4 hnl hlen2 hcode
          go_wp2_with fail
          with_reducible refine HEN2.out.mono ?_
          rintro e we ⟨A5, c5, rfl, _, _, hr5, _, hbe⟩
          have HR5 := Lib.hid (hr5.mono (T := All) fun _ _ _ => trivial)
          have HB_we := Lib.hid (HB_wdb.out.trans (hbe.mono HB_wdb.out.size))
          have HX := Lib.hid (HX.out.below hbe HX.out.lt)
          have HX2 := Lib.hid (HX2.out.below hbe HX2.out.lt)
          have HI := Lib.hid (HI.out.keep (Fr.of_below hbe No) fun _ _ hn => hn)
          have HBE := Lib.hid (HBE.out.keep (Fr.of_below hbe No) fun _ _ hn => hn)
          have HRX := Lib.hid (HRX.out.keep (Fr.of_below hbe No) fun _ _ hn => hn)
          have HI2 := Lib.hid (HI2.out.keep (Fr.of_below hbe No) fun _ _ hn => hn)
          obtain ⟨y0, y1, y2, y3, y4, y5, y6, y7, y8, y9, y10, y11, y12, y13, y14⟩ := rcs_cells HX.out
          obtain ⟨u0, u1, u2, u3, u4, u5, u6, u7, u8, u9, u10, u11, u12, u13, u14⟩ := rcs_cells HX2.out
          clear hbe hr5 HEN2
          obtain ⟨ad, hA⟩ : ∃ ad, A = some ad := by
            obtain ⟨ad, h, _⟩ := HBE.out.2.2 (by have := HNL.out.1; have := HC2.out.2.1; omega)
            exact ⟨ad, h⟩
          subst hA
          have hcv := fun (wq : World) (hb : Fr we wq No) => run_conv All A5 n2 c5 (bytesE rv2.e) wq (HR5.out.keep hb fun _ _ hn => hn)
          have hcv' := fun (wq : World) (hb : Fr we wq No) => run_conv All (some ad) n2 c (l.take n2) wq ((HBE.out.take HNL.out.1).keep hb fun _ _ hn => hn)
          obtain ⟨z, hz⟩ : ∃ z, z = bytesE rv2.e := ⟨_, rfl⟩
          obtain ⟨z', hz'⟩ : ∃ z', z' = l.take n2 := ⟨_, rfl⟩
          have hsq : seq z z' = true := by
            have h1 := HC2.out.1
            rw [← hz, ← hz'] at h1
            rw [h1]
            unfold seq
            simp
          rw [← hz] at hcv
          rw [← hz'] at hcv'
          have k1 : ((n2 : Int) == (n2 : Int)) = true := by simp
          have hnl := HNL.out.1
          have k2 : decide ((n2 : Int) ≤ (n : Int)) = true := decide_eq_true (by omega)
          have k3 : decide (n2 ≤ n) = true := decide_eq_true hnl
          have k4 : ((n2 : Int) ≤ (c : Int)) := by have := HNC.out.1; omega
          have k5 : decide ((n2 : Int) ≤ (c : Int)) = true := decide_eq_true k4
          have k6 : decide (n2 ≤ c) = true := decide_eq_true (by have := HNC.out.1; omega)
          have hwn : IntKind.i64.wrap (n2 : Int) = (n2 : Int) := IntWalk.i64_in _ (by have := HNC.out.2; omega)
          have hn2c : n2 ≤ c := by have := HNC.out.1; omega
          clear hz hz'
          go_upto_region 18 with fail
          refine wp_region_held_drew (S := fun wx => Fr we wx No) (by kernel_rfl) ((Fr.refl we No).drew) (fun hS => ?_)
          refine wpAnyH_take (i := 0) (v := ?_) rfl (by kernel_rfl) (by kernel_rfl) (by kernel_rfl) (fun _ _ _ h => h) (Or.inl ⟨by rfl, ?_⟩) hS ?_
          rotate_left
          · (intro wq hSw; go_simp; try with_reducible rfl)
          refine wpAnyH_take (i := 1) (v := ?_) rfl (by kernel_rfl) (by kernel_rfl) (by kernel_rfl) (fun _ _ _ h => h) (Or.inl ⟨by rfl, ?_⟩) hS ?_
          rotate_left
          · (intro wq hSw; go_simp; try with_reducible rfl)
          simp only [List.getElem_toArray, List.getElem_cons_succ, List.getElem_cons_zero, Act.put, List.setIfInBounds_toArray, List.set_cons_succ, List.set_cons_zero]
          refine wpAnyH_take (i := 2) (v := ?_) rfl (by kernel_rfl) (by kernel_rfl) (by kernel_rfl) (fun _ _ _ h => h) (Or.inl ⟨by rfl, ?_⟩) hS ?_
          rotate_left
          · (intro wq hSw; go_simp; try with_reducible rfl)
          simp only [List.getElem_toArray, List.getElem_cons_succ, List.getElem_cons_zero, Act.put, List.setIfInBounds_toArray, List.set_cons_succ, List.set_cons_zero]
          refine wpAnyH_take (i := 3) (v := ?_) rfl (by kernel_rfl) (by kernel_rfl) (by kernel_rfl) (fun _ _ _ h => h) (Or.inl ⟨by rfl, ?_⟩) hS ?_
          rotate_left
          · (intro wq hSw; go_simp; try with_reducible rfl)
          simp only [List.getElem_toArray, List.getElem_cons_succ, List.getElem_cons_zero, Act.put, List.setIfInBounds_toArray, List.set_cons_succ, List.set_cons_zero]
          refine wpAnyH_take (i := 4) (v := ?_) rfl (by kernel_rfl) (by kernel_rfl) (by kernel_rfl) (fun _ _ _ h => h) (Or.inl ⟨by rfl, ?_⟩) hS ?_
          rotate_left
          · (intro wq hSw; go_simp; try with_reducible rfl)
          simp only [List.getElem_toArray, List.getElem_cons_succ, List.getElem_cons_zero, Act.put, List.setIfInBounds_toArray, List.set_cons_succ, List.set_cons_zero]
          refine wpAnyH_take (i := 5) (v := ?_) rfl (by kernel_rfl) (by kernel_rfl) (by kernel_rfl) (fun _ _ _ h => h) (Or.inl ⟨by rfl, ?_⟩) hS ?_
          rotate_left
          · (intro wq hSw; go_simp; try with_reducible rfl)
          simp only [List.getElem_toArray, List.getElem_cons_succ, List.getElem_cons_zero, Act.put, List.setIfInBounds_toArray, List.set_cons_succ, List.set_cons_zero]
          refine wpAnyH_take (i := 6) (v := ?_) rfl (by kernel_rfl) (by kernel_rfl) (by kernel_rfl) (fun _ _ _ h => h) (Or.inl ⟨by rfl, ?_⟩) hS ?_
          rotate_left
          · (intro wq hSw; go_simp; try with_reducible rfl)
          simp only [List.getElem_toArray, List.getElem_cons_succ, List.getElem_cons_zero, Act.put, List.setIfInBounds_toArray, List.set_cons_succ, List.set_cons_zero]
          refine wpAnyH_take (i := 7) (v := ?_) rfl (by kernel_rfl) (by kernel_rfl) (by kernel_rfl) (fun _ _ _ h => h) (Or.inl ⟨by rfl, ?_⟩) hS ?_
          rotate_left
          · (intro wq hSw; go_simp; try with_reducible rfl)
          simp only [List.getElem_toArray, List.getElem_cons_succ, List.getElem_cons_zero, Act.put, List.setIfInBounds_toArray, List.set_cons_succ, List.set_cons_zero]
          refine wpAnyH_take (i := 8) (v := ?_) rfl (by kernel_rfl) (by kernel_rfl) (by kernel_rfl) (fun _ _ _ h => h) (Or.inl ⟨by rfl, ?_⟩) hS ?_
          rotate_left
          · (intro wq hSw; go_simp; try with_reducible rfl)
          simp only [List.getElem_toArray, List.getElem_cons_succ, List.getElem_cons_zero, Act.put, List.setIfInBounds_toArray, List.set_cons_succ, List.set_cons_zero]
          refine wpAnyH_take (i := 9) (v := ?_) rfl (by kernel_rfl) (by kernel_rfl) (by kernel_rfl) (fun _ _ _ h => h) (Or.inl ⟨by rfl, ?_⟩) hS ?_
          rotate_left
          · (intro wq hSw; go_simp; try with_reducible rfl)
          simp only [List.getElem_toArray, List.getElem_cons_succ, List.getElem_cons_zero, Act.put, List.setIfInBounds_toArray, List.set_cons_succ, List.set_cons_zero]
          refine wpAnyH_take (i := 10) (v := ?_) rfl (by kernel_rfl) (by kernel_rfl) (by kernel_rfl) (fun _ _ _ h => h) (Or.inl ⟨by rfl, ?_⟩) hS ?_
          rotate_left
          · (intro wq hSw; go_simp; try with_reducible rfl)
          simp only [List.getElem_toArray, List.getElem_cons_succ, List.getElem_cons_zero, Act.put, List.setIfInBounds_toArray, List.set_cons_succ, List.set_cons_zero]
          refine wpAnyH_take (i := 11) (v := ?_) rfl (by kernel_rfl) (by kernel_rfl) (by kernel_rfl) (fun _ _ _ h => h) (Or.inl ⟨by rfl, ?_⟩) hS ?_
          rotate_left
          · (intro wq hSw; go_simp; try with_reducible rfl)
          simp only [List.getElem_toArray, List.getElem_cons_succ, List.getElem_cons_zero, Act.put, List.setIfInBounds_toArray, List.set_cons_succ, List.set_cons_zero]
          refine wpAnyH_take (i := 12) (v := ?_) rfl (by kernel_rfl) (by kernel_rfl) (by kernel_rfl) (fun _ _ _ h => h) (Or.inl ⟨by rfl, ?_⟩) hS ?_
          rotate_left
          · (intro wq hSw; go_simp; try with_reducible rfl)
          simp only [List.getElem_toArray, List.getElem_cons_succ, List.getElem_cons_zero, Act.put, List.setIfInBounds_toArray, List.set_cons_succ, List.set_cons_zero]
          refine wpAnyH_take (i := 13) (v := ?_) rfl (by kernel_rfl) (by kernel_rfl) (by kernel_rfl) (fun _ _ _ h => h) (Or.inl ⟨by rfl, ?_⟩) hS ?_
          rotate_left
          · (intro wq hSw; go_simp; try with_reducible rfl)
          simp only [List.getElem_toArray, List.getElem_cons_succ, List.getElem_cons_zero, Act.put, List.setIfInBounds_toArray, List.set_cons_succ, List.set_cons_zero]
          refine wpAnyH_take (i := 14) (v := ?_) rfl (by kernel_rfl) (by kernel_rfl) (by kernel_rfl) (fun _ _ _ h => h) (Or.inl ⟨by rfl, ?_⟩) hS ?_
          rotate_left
          · (intro wq hSw; go_simp; try with_reducible rfl)
          simp only [List.getElem_toArray, List.getElem_cons_succ, List.getElem_cons_zero, Act.put, List.setIfInBounds_toArray, List.set_cons_succ, List.set_cons_zero]
          refine wpAnyH_take (i := 15) (v := ?_) rfl (by kernel_rfl) (by kernel_rfl) (by kernel_rfl) (fun _ _ _ h => h) (Or.inl ⟨by rfl, ?_⟩) hS ?_
          rotate_left
          · (intro wq hSw; go_simp; try with_reducible rfl)
          simp only [List.getElem_toArray, List.getElem_cons_succ, List.getElem_cons_zero, Act.put, List.setIfInBounds_toArray, List.set_cons_succ, List.set_cons_zero]
          refine wpAnyH_take (i := 16) (v := ?_) rfl (by kernel_rfl) (by kernel_rfl) (by kernel_rfl) (fun _ _ _ h => h) (Or.inl ⟨by rfl, ?_⟩) hS ?_
          rotate_left
          · (intro wq hSw; have hq := hcv wq hSw; go_simp; try with_reducible rfl)
          simp only [List.getElem_toArray, List.getElem_cons_succ, List.getElem_cons_zero, Act.put, List.setIfInBounds_toArray, List.set_cons_succ, List.set_cons_zero]
          refine wpAnyH_take (i := 17) (v := ?_) rfl (by kernel_rfl) (by kernel_rfl) (by kernel_rfl) (fun _ _ _ h => h) (Or.inl ⟨by rfl, ?_⟩) hS ?_
          rotate_left
          · (intro wq hSw; go_simp; try with_reducible rfl)
          simp only [List.getElem_toArray, List.getElem_cons_succ, List.getElem_cons_zero, Act.put, List.setIfInBounds_toArray, List.set_cons_succ, List.set_cons_zero]
          refine wpAnyH_take (i := 18) (v := ?_) rfl (by kernel_rfl) (by kernel_rfl) (by kernel_rfl) (fun _ _ _ h => h) (Or.inl ⟨by rfl, ?_⟩) hS ?_
          rotate_left
          · (intro wq hSw; go_simp; try with_reducible rfl)
          simp only [List.getElem_toArray, List.getElem_cons_succ, List.getElem_cons_zero, Act.put, List.setIfInBounds_toArray, List.set_cons_succ, List.set_cons_zero]
          refine wpAnyH_take (i := 19) (v := ?_) rfl (by kernel_rfl) (by kernel_rfl) (by kernel_rfl) (fun _ _ _ h => h) (Or.inl ⟨by rfl, ?_⟩) hS ?_
          rotate_left
          · (intro wq hSw; go_simp; try with_reducible rfl)
          simp only [List.getElem_toArray, List.getElem_cons_succ, List.getElem_cons_zero, Act.put, List.setIfInBounds_toArray, List.set_cons_succ, List.set_cons_zero]
          refine wpAnyH_take (i := 20) (v := ?_) rfl (by kernel_rfl) (by kernel_rfl) (by kernel_rfl) (fun _ _ _ h => h) (Or.inl ⟨by rfl, ?_⟩) hS ?_
          rotate_left
          · (intro wq hSw; have hq := hcv' wq hSw; go_simp; try with_reducible rfl)
          simp only [List.getElem_toArray, List.getElem_cons_succ, List.getElem_cons_zero, Act.put, List.setIfInBounds_toArray, List.set_cons_succ, List.set_cons_zero]
          refine wpAnyH_take (i := 21) (v := ?_) rfl (by kernel_rfl) (by kernel_rfl) (by kernel_rfl) (fun _ _ _ h => h) (Or.inl ⟨by rfl, ?_⟩) hS ?_
          rotate_left
          · (intro wq hSw; go_simp; try with_reducible rfl)
          simp only [List.getElem_toArray, List.getElem_cons_succ, List.getElem_cons_zero, Act.put, List.setIfInBounds_toArray, List.set_cons_succ, List.set_cons_zero]
          refine wpAnyH_take (i := 22) (v := ?_) rfl (by kernel_rfl) (by kernel_rfl) (by kernel_rfl) (fun _ _ _ h => h) (Or.inl ⟨by rfl, ?_⟩) hS ?_
          rotate_left
          · (intro wq hSw; go_simp; try with_reducible rfl)
          simp only [List.getElem_toArray, List.getElem_cons_succ, List.getElem_cons_zero, Act.put, List.setIfInBounds_toArray, List.set_cons_succ, List.set_cons_zero]
          refine wpAnyH_take (i := 23) (v := ?_) rfl (by kernel_rfl) (by kernel_rfl) (by kernel_rfl) (fun _ _ _ h => h) (Or.inl ⟨by rfl, ?_⟩) hS ?_
          rotate_left
          · (intro wq hSw; go_simp; try with_reducible rfl)
          simp only [List.getElem_toArray, List.getElem_cons_succ, List.getElem_cons_zero, Act.put, List.setIfInBounds_toArray, List.set_cons_succ, List.set_cons_zero]
          refine wpAnyH_ready (rs := [24]) (by kernel_rfl) (by simp) ?_
          refine AllReadyH.cons rfl (fun K hK => ?_) AllReadyH.nil
          go_simp
          refine (HAL.out _).mono ?_
          rintro e w7 ⟨rfl, hb7⟩
          have hb57 : Below we.heap.size we w7 := ((Below.refl we.heap.size we).drew).trans hb7
          have HB7 := Lib.hid (HB_we.out.trans (hb57.mono HB_we.out.size))
          refine hK.out _ _ ?_ (fun hS => ?_)
          · exact hS.trans (Fr.of_below hb7 No) fun _ hn => hn.elim
          clear hK K hb7 hb57
          refine wpAnyH_ready (rs := [25]) (by kernel_rfl) (by simp) ?_
          refine AllReadyH.cons rfl (fun K hK => ?_) AllReadyH.nil
          go_simp
          refine hK.out _ _ hS (fun hS => ?_)
          clear hK K
          refine wpAnyH_ready (rs := [26]) (by kernel_rfl) (by simp) ?_
          refine AllReadyH.cons rfl (fun K hK => ?_) AllReadyH.nil
          go_simp
          refine hK.out _ _ hS (fun hS => ?_)
          clear hK K
          refine wpAnyH_done (by kernel_rfl) ?_ _
          clear hS
          go_wp2_with fail
          go_ret
          exact ⟨rfl, HB7.out⟩
        · have l0 : (c2 != 0) = true := bne_iff_ne.2 hc2
          have l1 : (c2 == 0) = false := beq_false_of_ne hc2
          clear hc2
          go_wp2_with fail
          with_reducible refine (HAL.out _).mono ?_
          rintro e wA ⟨rfl, hbA⟩
          have HBA := Lib.hid hbA
          clear hbA
          go_wp2_with fail
          go_ret
          exact ⟨rfl, HB_wdb.out.trans (HBA.out.mono HB_wdb.out.size)⟩
    · exact absurd (by rw [HXE.out.1]; exact HCA.out) hx0
set_option maxHeartbeats 16000000 in
set_option maxRecDepth 100000 in
theorem walk_c (r : RV) (A : Option Addr) (n c : Nat) (l : List Nat) (cut : Int) (w : World) (h : r.Came w) (hb : RB w (fun b => b < w.heap.size) A n l ∧ n ≤ c ∧ n ≤ 140737488351232 ∧ (A = none → c = 0)) (_ : -9223372036854775808 ≤ cut) (_ : cut ≤ 9223372036854775807) (ha : bytesE r.e ≠ []) (hc : ¬ 0 ≤ cut) : Calls Tryz.prog 5 #[r.agg, .slice A n c, .int .i64 cut] w (Alive w) := by
  have HCA := Lib.hid ha
  have HCUT := Lib.hid hc
  clear ha hc
  obtain ⟨W, hW, hBW, hbx, hsz⟩ := box_rv w r
  obtain ⟨y0, y1, y2, y3, y4, y5, y6, y7, y8, y9, y10, y11, y12, y13, y14⟩ := rcs_cells hbx
  have hh := h.inn.keep (Fr.of_below hBW No) fun _ _ hn => hn
  have HB_W := Lib.hid hBW
  have HX := Lib.hid hbx
  have HI := Lib.hid hh
  have HBE := Lib.hid ((hb.1.mono (T := All) fun _ _ _ => trivial).keep (Fr.of_below hBW No) fun _ _ hn => hn)
  have HE := Lib.hid hh.e
  have HL := Lib.hid (long_r W r hh)
  have HAL := Lib.hid (fun W => alive_any W)
  have hnc0 : n ≤ c := hb.2.1
  simp only [rcs] at hW
  unfold RV.agg at HL ⊢
  clear h hb hBW hbx hsz hh
  go_enter Tryz.func5, Tryz.ntmps5
  go_wp2_with fail
  with_reducible refine HL.out.mono ?_
  unfold LongR
  rintro e w2 ⟨b, rfl, hb2, hbr⟩
  have HBR0 := Lib.hid hbr
  have HB_w2 := Lib.hid (HB_W.out.trans (hb2.mono HB_W.out.size))
  have HX := Lib.hid (HX.out.below hb2 HX.out.lt)
  have HI := Lib.hid (HI.out.keep (Fr.of_below hb2 No) fun _ _ hn => hn)
  have HBE := Lib.hid (HBE.out.keep (Fr.of_below hb2 No) fun _ _ hn => hn)
  obtain ⟨y0, y1, y2, y3, y4, y5, y6, y7, y8, y9, y10, y11, y12, y13, y14⟩ := rcs_cells HX.out
  clear hb2 hbr
  cases b with
  | true =>
    clear hnc0
    go_wp2_with fail
    with_reducible refine (HAL.out _).mono ?_
    rintro e wA ⟨rfl, hbA⟩
    have HBA := Lib.hid hbA
    clear hbA
    go_wp2_with fail
    go_ret
    exact ⟨rfl, HB_w2.out.trans (HBA.out.mono HB_w2.out.size)⟩
  | false =>
    have HBR : Hid (Brief r) := Lib.hid (HBR0.out (by first | rfl | trivial))
    by_cases hbig : 131072 < n
    · have d1 : decide ((n : Int) > 131072) = true := decide_eq_true (by omega)
      have d2 : decide (131072 < n) = true := decide_eq_true hbig
      clear hbig hnc0
      go_wp2_with fail
      with_reducible refine (HAL.out _).mono ?_
      rintro e wA ⟨rfl, hbA⟩
      have HBA := Lib.hid hbA
      clear hbA
      go_wp2_with fail
      go_ret
      exact ⟨rfl, HB_w2.out.trans (HBA.out.mono HB_w2.out.size)⟩
    have d1 : decide ((n : Int) > 131072) = false := decide_eq_false (by omega)
    have d2 : decide (131072 < n) = false := decide_eq_false hbig
    have HNC : Hid (n ≤ c ∧ n ≤ 131072) := Lib.hid ⟨hnc0, by omega⟩
    have HEN := Lib.hid (encode_e w2 r HI.out HBR.out)
    unfold RV.agg at HEN
    obtain ⟨x, hx⟩ : ∃ x, x = bytesE r.e := ⟨_, rfl⟩
    obtain ⟨cx, hcx⟩ : ∃ cx, cx = codeE r.e := ⟨_, rfl⟩
    have HXE := Lib.hid (And.intro hx hcx)
    unfold EncE at HEN
    rw [← hx, ← hcx] at HEN
    clear hx hcx hbig hnc0
    go_wp2_with fail
    with_reducible refine HEN.out.mono ?_
    rintro e w4 ⟨A1, c1, rfl, hxc, hA1, hrx, hox, hb4⟩
    have HRX := Lib.hid (hrx.mono (T := All) fun _ _ _ => trivial)
    have HXC := Lib.hid hxc
    have HB_w4 := Lib.hid (HB_w2.out.trans (hb4.mono HB_w2.out.size))
    have HX := Lib.hid (HX.out.below hb4 HX.out.lt)
    have HI := Lib.hid (HI.out.keep (Fr.of_below hb4 No) fun _ _ hn => hn)
    have HBE := Lib.hid (HBE.out.keep (Fr.of_below hb4 No) fun _ _ hn => hn)
    obtain ⟨y0, y1, y2, y3, y4, y5, y6, y7, y8, y9, y10, y11, y12, y13, y14⟩ := rcs_cells HX.out
    clear hb4 hrx hox hxc hA1 HEN
    have HM := Lib.hid (may_e w4 r HI.out HBR.out)
    unfold RV.agg at HM
    rw [← HXE.out.1] at HM
    have hxe : (x = [] ∧ cx = 5) ∨ (x ≠ [] ∧ cx = 0) := by
      obtain ⟨e1, e2⟩ := HXE.out
      rw [e1, e2]
      by_cases hn : bytesE r.e = []
      · exact Or.inl ⟨hn, codeE_no hn⟩
      · exact Or.inr ⟨hn, codeE_yes hn⟩
    have k9 : ((x.length : Int) != (x.length : Int)) = false := by simp
    have k8 : ((x.length : Int) == (x.length : Int)) = true := by simp
    rcases hxe with ⟨hx0, rfl⟩ | ⟨hx0, rfl⟩
    · exact absurd hx0 (by rw [HXE.out.1]; exact HCA.out)
    · have hxp : 0 < x.length := List.length_pos_iff.2 hx0
      have hm : decide (0 < x.length) = true := decide_eq_true hxp
      rw [hm] at HM
      have HX0 := Lib.hid hx0
      have hx3 : 3 ≤ x.length ∧ x.length ≤ 16384 := by
        obtain ⟨e1, _⟩ := HXE.out
        rw [e1] at hx0 ⊢
        exact ⟨bytesE_three hx0, bytesE_le _⟩
      have HX3 := Lib.hid hx3
      have m1 : decide ((x.length : Int) > 16384) = false := decide_eq_false (by omega)
      have m2 : decide (16384 < x.length) = false := decide_eq_false (by omega)
      have m3 : decide ((x.length : Int) < 3) = false := decide_eq_false (by omega)
      have m4 : decide (x.length < 3) = false := decide_eq_false (by omega)
      clear hx0 hm hxp hx3
      go_wp2_with fail
      with_reducible refine HM.out.mono ?_
      rintro e w5 ⟨rfl, hb5⟩
      have HB_w5 := Lib.hid (HB_w4.out.trans (hb5.mono HB_w4.out.size))
      have HX := Lib.hid (HX.out.below hb5 HX.out.lt)
      have HI := Lib.hid (HI.out.keep (Fr.of_below hb5 No) fun _ _ hn => hn)
      have HBE := Lib.hid (HBE.out.keep (Fr.of_below hb5 No) fun _ _ hn => hn)
      have HRX := Lib.hid (HRX.out.keep (Fr.of_below hb5 No) fun _ _ hn => hn)
      obtain ⟨y0, y1, y2, y3, y4, y5, y6, y7, y8, y9, y10, y11, y12, y13, y14⟩ := rcs_cells HX.out
      clear hb5 
      have HSZ := Lib.hid (size_e w5 r HI.out HBR.out)
      unfold RV.agg at HSZ
      rw [← HXE.out.1] at HSZ
      go_wp2_with fail
      with_reducible refine HSZ.out.mono ?_
      rintro e w6 ⟨rfl, hb6⟩
      have HB_w6 := Lib.hid (HB_w5.out.trans (hb6.mono HB_w5.out.size))
      have HX := Lib.hid (HX.out.below hb6 HX.out.lt)
      have HI := Lib.hid (HI.out.keep (Fr.of_below hb6 No) fun _ _ hn => hn)
      have HBE := Lib.hid (HBE.out.keep (Fr.of_below hb6 No) fun _ _ hn => hn)
      have HRX := Lib.hid (HRX.out.keep (Fr.of_below hb6 No) fun _ _ hn => hn)
      obtain ⟨y0, y1, y2, y3, y4, y5, y6, y7, y8, y9, y10, y11, y12, y13, y14⟩ := rcs_cells HX.out
      clear hb6 
      have HCP := Lib.hid (copy_any w6 All A1 x.length c1 x HRX.out (by have := HX3.out; omega))
      go_wp2_with fail
      with_reducible refine HCP.out.mono ?_
      unfold New
      rintro e w7 ⟨vc, rfl, hoc, hb7⟩
      have HOC := Lib.hid (show Own w6 w7 vc x from ⟨hoc, hb7⟩)
      have HBE7 := Lib.hid (HBE.out.keep (Fr.of_below hb7 No) fun _ _ hn => hn)
      clear hoc hb7 HCP
      go_wp2_with (at_builtin; go_must (refine wpList_app rfl (.tmp 49) (.tmp 50) rfl _ _ _ rfl HOC.out.1 All A n c l rfl HBE7.out (by have := HX3.out; have := HNC.out; omega) ?_); intro v8 w8 hown hgrow; have ho8 := Own.step HOC.out hgrow hown; have hb8 := ho8.2; obtain ⟨A8, c8, rfl, hnc8, hz8, hrb8⟩ := hown.reads; have HR8 := Lib.hid (And.intro hnc8 (hrb8.mono (T := All) fun _ _ _ => trivial)); clear hown hgrow ho8 hnc8 hz8 hrb8)
      have HDB := Lib.hid (decode_b w8 A8 (x.length + n) c8 r.e l HE.out (by rw [← HXE.out.1]; exact HX0.out) (by rw [← HXE.out.1]; exact HR8.out.2) HR8.out.1 (by have := HX3.out; have := HNC.out; omega))
      have HB_w8 := Lib.hid (HB_w6.out.trans (hb8.mono HB_w6.out.size))
      have HX := Lib.hid (HX.out.below hb8 HX.out.lt)
      have HI := Lib.hid (HI.out.keep (Fr.of_below hb8 No) fun _ _ hn => hn)
      have HBE := Lib.hid (HBE.out.keep (Fr.of_below hb8 No) fun _ _ hn => hn)
      have HRX := Lib.hid (HRX.out.keep (Fr.of_below hb8 No) fun _ _ hn => hn)
      obtain ⟨y0, y1, y2, y3, y4, y5, y6, y7, y8, y9, y10, y11, y12, y13, y14⟩ := rcs_cells HX.out
      clear hb8
      with_reducible refine HDB.out.mono ?_
      unfold DecB
      rintro e w9 ⟨r9, rfl, hs9, he9, hi9, hb9⟩
      have HS9 := Lib.hid (And.intro hs9 he9)
      have HI9 := Lib.hid hi9
      have HB_w9 := Lib.hid (HB_w8.out.trans (hb9.mono HB_w8.out.size))
      have HX := Lib.hid (HX.out.below hb9 HX.out.lt)
      have HI := Lib.hid (HI.out.keep (Fr.of_below hb9 No) fun _ _ hn => hn)
      have HBE := Lib.hid (HBE.out.keep (Fr.of_below hb9 No) fun _ _ hn => hn)
      have HRX := Lib.hid (HRX.out.keep (Fr.of_below hb9 No) fun _ _ hn => hn)
      obtain ⟨y0, y1, y2, y3, y4, y5, y6, y7, y8, y9, y10, y11, y12, y13, y14⟩ := rcs_cells HX.out
      clear hb9 hs9 he9 hi9 HDB
      obtain ⟨w9b, hw9b⟩ : ∃ w9b, w9.alloc (.cells (rcs r9) 31) = w9b := ⟨_, rfl⟩
      have HX9 : Hid (Blk w9b w9.heap.size 31 (rcs r9)) := Lib.hid (by rw [← hw9b]; exact Blk.new w9 31 _)
      have hb_w9b : Below w9.heap.size w9 w9b := by rw [← hw9b]; exact (Below.refl _ _).alloc (Nat.le_refl _) _
      have HB_w9b := Lib.hid (HB_w9.out.trans (hb_w9b.mono HB_w9.out.size))
      have HX := Lib.hid (HX.out.below hb_w9b HX.out.lt)
      have HI := Lib.hid (HI.out.keep (Fr.of_below hb_w9b No) fun _ _ hn => hn)
      have HBE := Lib.hid (HBE.out.keep (Fr.of_below hb_w9b No) fun _ _ hn => hn)
      have HRX := Lib.hid (HRX.out.keep (Fr.of_below hb_w9b No) fun _ _ hn => hn)
      have HI9 := Lib.hid (HI9.out.keep (Fr.of_below hb_w9b No) fun _ _ hn => hn)
      obtain ⟨y0, y1, y2, y3, y4, y5, y6, y7, y8, y9, y10, y11, y12, y13, y14⟩ := rcs_cells HX.out
      obtain ⟨v0, v1, v2, v3, v4, v5, v6, v7, v8, v9, v10, v11, v12, v13, v14⟩ := rcs_cells HX9.out
      simp only [rcs] at hw9b
      clear hb_w9b
      unfold RV.agg
      rw [← HXE.out.1]
      have HSM := Lib.hid (same_r r9 r w9b HI9.out HI.out)
      unfold RV.agg at HSM
      have s0 : ((r9.s : Int) != 0) = false := by rw [HS9.out.1]; rfl
      have s1 : ((r9.s : Int) == 0) = true := by rw [HS9.out.1]; rfl
      go_wp2_with fail
      with_reducible refine HSM.out.mono ?_
      unfold Tells
      rintro e w10 ⟨sb, rfl, hsb, hb10⟩
      have hst : sb = true := hsb.2 HS9.out.2
      clear hsb
      subst hst
      have HB_w10 := Lib.hid (HB_w9b.out.trans (hb10.mono HB_w9b.out.size))
      have HX := Lib.hid (HX.out.below hb10 HX.out.lt)
      have HX9 := Lib.hid (HX9.out.below hb10 HX9.out.lt)
      have HI := Lib.hid (HI.out.keep (Fr.of_below hb10 No) fun _ _ hn => hn)
      have HBE := Lib.hid (HBE.out.keep (Fr.of_below hb10 No) fun _ _ hn => hn)
      have HRX := Lib.hid (HRX.out.keep (Fr.of_below hb10 No) fun _ _ hn => hn)
      have HI9 := Lib.hid (HI9.out.keep (Fr.of_below hb10 No) fun _ _ hn => hn)
      obtain ⟨y0, y1, y2, y3, y4, y5, y6, y7, y8, y9, y10, y11, y12, y13, y14⟩ := rcs_cells HX.out
      obtain ⟨v0, v1, v2, v3, v4, v5, v6, v7, v8, v9, v10, v11, v12, v13, v14⟩ := rcs_cells HX9.out
      clear hb10 HSM
      have hcut : ¬ 0 ≤ cut := by have := HCUT.out; omega
      have e1 : decide (cut ≥ 0) = false := decide_eq_false hcut
      have e2 : decide (0 ≤ cut) = false := decide_eq_false (by omega)
      clear hcut
      as_aux_lemma =>
        have HDF := Lib.hid (decode_f w10 A n c l HBE.out HNC.out.1 (by have := HNC.out.2; omega))
        go_wp2_with fail
        with_reducible refine HDF.out.mono ?_
        unfold DecF
        rintro e wd ⟨rv2, n2, c2, rfl, hcase, hi2, hbr2, hbd⟩
        have HI2 := Lib.hid hi2
        have HBR2 := Lib.hid hbr2
        have HB_wd := Lib.hid (HB_w10.out.trans (hbd.mono HB_w10.out.size))
        have HX := Lib.hid (HX.out.below hbd HX.out.lt)
        have HX9 := Lib.hid (HX9.out.below hbd HX9.out.lt)
        have HI := Lib.hid (HI.out.keep (Fr.of_below hbd No) fun _ _ hn => hn)
        have HBE := Lib.hid (HBE.out.keep (Fr.of_below hbd No) fun _ _ hn => hn)
        have HRX := Lib.hid (HRX.out.keep (Fr.of_below hbd No) fun _ _ hn => hn)
        have HI9 := Lib.hid (HI9.out.keep (Fr.of_below hbd No) fun _ _ hn => hn)
        obtain ⟨y0, y1, y2, y3, y4, y5, y6, y7, y8, y9, y10, y11, y12, y13, y14⟩ := rcs_cells HX.out
        obtain ⟨v0, v1, v2, v3, v4, v5, v6, v7, v8, v9, v10, v11, v12, v13, v14⟩ := rcs_cells HX9.out
        clear hbd hi2 hbr2 HDF
        obtain ⟨wdb, hwdb⟩ : ∃ wdb, wd.alloc (.cells (rcs rv2) 31) = wdb := ⟨_, rfl⟩
        have HX2 : Hid (Blk wdb wd.heap.size 31 (rcs rv2)) := Lib.hid (by rw [← hwdb]; exact Blk.new wd 31 _)
        have hb_wdb : Below wd.heap.size wd wdb := by rw [← hwdb]; exact (Below.refl _ _).alloc (Nat.le_refl _) _
        have HB_wdb := Lib.hid (HB_wd.out.trans (hb_wdb.mono HB_wd.out.size))
        have HX := Lib.hid (HX.out.below hb_wdb HX.out.lt)
        have HX9 := Lib.hid (HX9.out.below hb_wdb HX9.out.lt)
        have HI := Lib.hid (HI.out.keep (Fr.of_below hb_wdb No) fun _ _ hn => hn)
        have HBE := Lib.hid (HBE.out.keep (Fr.of_below hb_wdb No) fun _ _ hn => hn)
        have HRX := Lib.hid (HRX.out.keep (Fr.of_below hb_wdb No) fun _ _ hn => hn)
        have HI9 := Lib.hid (HI9.out.keep (Fr.of_below hb_wdb No) fun _ _ hn => hn)
        have HI2 := Lib.hid (HI2.out.keep (Fr.of_below hb_wdb No) fun _ _ hn => hn)
        obtain ⟨y0, y1, y2, y3, y4, y5, y6, y7, y8, y9, y10, y11, y12, y13, y14⟩ := rcs_cells HX.out
        obtain ⟨v0, v1, v2, v3, v4, v5, v6, v7, v8, v9, v10, v11, v12, v13, v14⟩ := rcs_cells HX9.out
        obtain ⟨u0, u1, u2, u3, u4, u5, u6, u7, u8, u9, u10, u11, u12, u13, u14⟩ := rcs_cells HX2.out
        simp only [rcs] at hwdb
        clear hb_wdb
        unfold RV.agg
        rcases hcase with ⟨rfl, hb2, hn3, hn4⟩ | ⟨hc2, rfl⟩
        · have HC2 := Lib.hid (And.intro hb2 (And.intro hn3 hn4))
          have HEN2 := Lib.hid (encode_e wdb rv2 HI2.out HBR2.out)
          unfold EncE at HEN2
          unfold RV.agg at HEN2
          have hnl : n2 ≤ n := by rw [← HBE.out.len]; exact hn4
          have hlen2 : (bytesE rv2.e).length = n2 := by rw [hb2, List.length_take]; omega
          have hcode : codeE rv2.e = 0 := codeE_yes (fun h => by rw [h] at hlen2; simp at hlen2; omega)
          rw [hb2, hcode, ← hb2, hlen2] at HEN2
          have HNL := Lib.hid (And.intro hnl hlen2)
          clear hb2 hn3 hn4 hnl hlen2 hcode
          go_wp2_with fail
          with_reducible refine HEN2.out.mono ?_
          rintro e we ⟨A5, c5, rfl, _, _, hr5, _, hbe⟩
          have HR5 := Lib.hid (hr5.mono (T := All) fun _ _ _ => trivial)
          have HB_we := Lib.hid (HB_wdb.out.trans (hbe.mono HB_wdb.out.size))
          have HX := Lib.hid (HX.out.below hbe HX.out.lt)
          have HX9 := Lib.hid (HX9.out.below hbe HX9.out.lt)
          have HX2 := Lib.hid (HX2.out.below hbe HX2.out.lt)
          have HI := Lib.hid (HI.out.keep (Fr.of_below hbe No) fun _ _ hn => hn)
          have HBE := Lib.hid (HBE.out.keep (Fr.of_below hbe No) fun _ _ hn => hn)
          have HRX := Lib.hid (HRX.out.keep (Fr.of_below hbe No) fun _ _ hn => hn)
          have HI9 := Lib.hid (HI9.out.keep (Fr.of_below hbe No) fun _ _ hn => hn)
          have HI2 := Lib.hid (HI2.out.keep (Fr.of_below hbe No) fun _ _ hn => hn)
          obtain ⟨y0, y1, y2, y3, y4, y5, y6, y7, y8, y9, y10, y11, y12, y13, y14⟩ := rcs_cells HX.out
          obtain ⟨v0, v1, v2, v3, v4, v5, v6, v7, v8, v9, v10, v11, v12, v13, v14⟩ := rcs_cells HX9.out
          obtain ⟨u0, u1, u2, u3, u4, u5, u6, u7, u8, u9, u10, u11, u12, u13, u14⟩ := rcs_cells HX2.out
          clear hbe hr5 HEN2
          obtain ⟨ad, hA⟩ : ∃ ad, A = some ad := by
            obtain ⟨ad, h, _⟩ := HBE.out.2.2 (by have := HNL.out.1; have := HC2.out.2.1; omega)
            exact ⟨ad, h⟩
          subst hA
          have hcv := fun (wq : World) (hb : Fr we wq No) => run_conv All A5 n2 c5 (bytesE rv2.e) wq (HR5.out.keep hb fun _ _ hn => hn)
          have hcv' := fun (wq : World) (hb : Fr we wq No) => run_conv All (some ad) n2 c (l.take n2) wq ((HBE.out.take HNL.out.1).keep hb fun _ _ hn => hn)
          obtain ⟨z, hz⟩ : ∃ z, z = bytesE rv2.e := ⟨_, rfl⟩
          obtain ⟨z', hz'⟩ : ∃ z', z' = l.take n2 := ⟨_, rfl⟩
          have hsq : seq z z' = true := by
            have h1 := HC2.out.1
            rw [← hz, ← hz'] at h1
            rw [h1]
            unfold seq
            simp
          rw [← hz] at hcv
          rw [← hz'] at hcv'
          have k1 : ((n2 : Int) == (n2 : Int)) = true := by simp
          have hnl := HNL.out.1
          have k2 : decide ((n2 : Int) ≤ (n : Int)) = true := decide_eq_true (by omega)
          have k3 : decide (n2 ≤ n) = true := decide_eq_true hnl
          have k4 : ((n2 : Int) ≤ (c : Int)) := by have := HNC.out.1; omega
          have k5 : decide ((n2 : Int) ≤ (c : Int)) = true := decide_eq_true k4
          have k6 : decide (n2 ≤ c) = true := decide_eq_true (by have := HNC.out.1; omega)
          have hwn : IntKind.i64.wrap (n2 : Int) = (n2 : Int) := IntWalk.i64_in _ (by have := HNC.out.2; omega)
          have hn2c : n2 ≤ c := by have := HNC.out.1; omega
          clear hz hz'
          go_upto_region 18 with fail
          refine wp_region_held_drew (S := fun wx => Fr we wx No) (by kernel_rfl) ((Fr.refl we No).drew) (fun hS => ?_)
          refine wpAnyH_take (i := 0) (v := ?_) rfl (by kernel_rfl) (by kernel_rfl) (by kernel_rfl) (fun _ _ _ h => h) (Or.inl ⟨by rfl, ?_⟩) hS ?_
          rotate_left
          · (intro wq hSw; go_simp; try with_reducible rfl)
          refine wpAnyH_take (i := 1) (v := ?_) rfl (by kernel_rfl) (by kernel_rfl) (by kernel_rfl) (fun _ _ _ h => h) (Or.inl ⟨by rfl, ?_⟩) hS ?_
          rotate_left
          · (intro wq hSw; go_simp; try with_reducible rfl)
          simp only [List.getElem_toArray, List.getElem_cons_succ, List.getElem_cons_zero, Act.put, List.setIfInBounds_toArray, List.set_cons_succ, List.set_cons_zero]
          refine wpAnyH_take (i := 2) (v := ?_) rfl (by kernel_rfl) (by kernel_rfl) (by kernel_rfl) (fun _ _ _ h => h) (Or.inl ⟨by rfl, ?_⟩) hS ?_
          rotate_left
          · (intro wq hSw; go_simp; try with_reducible rfl)
          simp only [List.getElem_toArray, List.getElem_cons_succ, List.getElem_cons_zero, Act.put, List.setIfInBounds_toArray, List.set_cons_succ, List.set_cons_zero]
          refine wpAnyH_take (i := 3) (v := ?_) rfl (by kernel_rfl) (by kernel_rfl) (by kernel_rfl) (fun _ _ _ h => h) (Or.inl ⟨by rfl, ?_⟩) hS ?_
          rotate_left
          · (intro wq hSw; go_simp; try with_reducible rfl)
          simp only [List.getElem_toArray, List.getElem_cons_succ, List.getElem_cons_zero, Act.put, List.setIfInBounds_toArray, List.set_cons_succ, List.set_cons_zero]
          refine wpAnyH_take (i := 4) (v := ?_) rfl (by kernel_rfl) (by kernel_rfl) (by kernel_rfl) (fun _ _ _ h => h) (Or.inl ⟨by rfl, ?_⟩) hS ?_
          rotate_left
          · (intro wq hSw; go_simp; try with_reducible rfl)
          simp only [List.getElem_toArray, List.getElem_cons_succ, List.getElem_cons_zero, Act.put, List.setIfInBounds_toArray, List.set_cons_succ, List.set_cons_zero]
          refine wpAnyH_take (i := 5) (v := ?_) rfl (by kernel_rfl) (by kernel_rfl) (by kernel_rfl) (fun _ _ _ h => h) (Or.inl ⟨by rfl, ?_⟩) hS ?_
          rotate_left
          · (intro wq hSw; go_simp; try with_reducible rfl)
          simp only [List.getElem_toArray, List.getElem_cons_succ, List.getElem_cons_zero, Act.put, List.setIfInBounds_toArray, List.set_cons_succ, List.set_cons_zero]
          refine wpAnyH_take (i := 6) (v := ?_) rfl (by kernel_rfl) (by kernel_rfl) (by kernel_rfl) (fun _ _ _ h => h) (Or.inl ⟨by rfl, ?_⟩) hS ?_
          rotate_left
          · (intro wq hSw; go_simp; try with_reducible rfl)
          simp only [List.getElem_toArray, List.getElem_cons_succ, List.getElem_cons_zero, Act.put, List.setIfInBounds_toArray, List.set_cons_succ, List.set_cons_zero]
          refine wpAnyH_take (i := 7) (v := ?_) rfl (by kernel_rfl) (by kernel_rfl) (by kernel_rfl) (fun _ _ _ h => h) (Or.inl ⟨by rfl, ?_⟩) hS ?_
          rotate_left
          · (intro wq hSw; go_simp; try with_reducible rfl)
          simp only [List.getElem_toArray, List.getElem_cons_succ, List.getElem_cons_zero, Act.put, List.setIfInBounds_toArray, List.set_cons_succ, List.set_cons_zero]
          refine wpAnyH_take (i := 8) (v := ?_) rfl (by kernel_rfl) (by kernel_rfl) (by kernel_rfl) (fun _ _ _ h => h) (Or.inl ⟨by rfl, ?_⟩) hS ?_
          rotate_left
          · (intro wq hSw; go_simp; try with_reducible rfl)
          simp only [List.getElem_toArray, List.getElem_cons_succ, List.getElem_cons_zero, Act.put, List.setIfInBounds_toArray, List.set_cons_succ, List.set_cons_zero]
          refine wpAnyH_take (i := 9) (v := ?_) rfl (by kernel_rfl) (by kernel_rfl) (by kernel_rfl) (fun _ _ _ h => h) (Or.inl ⟨by rfl, ?_⟩) hS ?_
          rotate_left
          · (intro wq hSw; go_simp; try with_reducible rfl)
          simp only [List.getElem_toArray, List.getElem_cons_succ, List.getElem_cons_zero, Act.put, List.setIfInBounds_toArray, List.set_cons_succ, List.set_cons_zero]
          refine wpAnyH_take (i := 10) (v := ?_) rfl (by kernel_rfl) (by kernel_rfl) (by kernel_rfl) (fun _ _ _ h => h) (Or.inl ⟨by rfl, ?_⟩) hS ?_
          rotate_left
          · (intro wq hSw; go_simp; try with_reducible rfl)
          simp only [List.getElem_toArray, List.getElem_cons_succ, List.getElem_cons_zero, Act.put, List.setIfInBounds_toArray, List.set_cons_succ, List.set_cons_zero]
          refine wpAnyH_take (i := 11) (v := ?_) rfl (by kernel_rfl) (by kernel_rfl) (by kernel_rfl) (fun _ _ _ h => h) (Or.inl ⟨by rfl, ?_⟩) hS ?_
          rotate_left
          · (intro wq hSw; go_simp; try with_reducible rfl)
          simp only [List.getElem_toArray, List.getElem_cons_succ, List.getElem_cons_zero, Act.put, List.setIfInBounds_toArray, List.set_cons_succ, List.set_cons_zero]
          refine wpAnyH_take (i := 12) (v := ?_) rfl (by kernel_rfl) (by kernel_rfl) (by kernel_rfl) (fun _ _ _ h => h) (Or.inl ⟨by rfl, ?_⟩) hS ?_
          rotate_left
          · (intro wq hSw; go_simp; try with_reducible rfl)
          simp only [List.getElem_toArray, List.getElem_cons_succ, List.getElem_cons_zero, Act.put, List.setIfInBounds_toArray, List.set_cons_succ, List.set_cons_zero]
          refine wpAnyH_take (i := 13) (v := ?_) rfl (by kernel_rfl) (by kernel_rfl) (by kernel_rfl) (fun _ _ _ h => h) (Or.inl ⟨by rfl, ?_⟩) hS ?_
          rotate_left
          · (intro wq hSw; go_simp; try with_reducible rfl)
          simp only [List.getElem_toArray, List.getElem_cons_succ, List.getElem_cons_zero, Act.put, List.setIfInBounds_toArray, List.set_cons_succ, List.set_cons_zero]
          refine wpAnyH_take (i := 14) (v := ?_) rfl (by kernel_rfl) (by kernel_rfl) (by kernel_rfl) (fun _ _ _ h => h) (Or.inl ⟨by rfl, ?_⟩) hS ?_
          rotate_left
          · (intro wq hSw; go_simp; try with_reducible rfl)
          simp only [List.getElem_toArray, List.getElem_cons_succ, List.getElem_cons_zero, Act.put, List.setIfInBounds_toArray, List.set_cons_succ, List.set_cons_zero]
          refine wpAnyH_take (i := 15) (v := ?_) rfl (by kernel_rfl) (by kernel_rfl) (by kernel_rfl) (fun _ _ _ h => h) (Or.inl ⟨by rfl, ?_⟩) hS ?_
          rotate_left
          · (intro wq hSw; go_simp; try with_reducible rfl)
          simp only [List.getElem_toArray, List.getElem_cons_succ, List.getElem_cons_zero, Act.put, List.setIfInBounds_toArray, List.set_cons_succ, List.set_cons_zero]
          refine wpAnyH_take (i := 16) (v := ?_) rfl (by kernel_rfl) (by kernel_rfl) (by kernel_rfl) (fun _ _ _ h => h) (Or.inl ⟨by rfl, ?_⟩) hS ?_
          rotate_left
          · (intro wq hSw; have hq := hcv wq hSw; go_simp; try with_reducible rfl)
          simp only [List.getElem_toArray, List.getElem_cons_succ, List.getElem_cons_zero, Act.put, List.setIfInBounds_toArray, List.set_cons_succ, List.set_cons_zero]
          refine wpAnyH_take (i := 17) (v := ?_) rfl (by kernel_rfl) (by kernel_rfl) (by kernel_rfl) (fun _ _ _ h => h) (Or.inl ⟨by rfl, ?_⟩) hS ?_
          rotate_left
          · (intro wq hSw; go_simp; try with_reducible rfl)
          simp only [List.getElem_toArray, List.getElem_cons_succ, List.getElem_cons_zero, Act.put, List.setIfInBounds_toArray, List.set_cons_succ, List.set_cons_zero]
          refine wpAnyH_take (i := 18) (v := ?_) rfl (by kernel_rfl) (by kernel_rfl) (by kernel_rfl) (fun _ _ _ h => h) (Or.inl ⟨by rfl, ?_⟩) hS ?_
          rotate_left
          · (intro wq hSw; go_simp; try with_reducible rfl)
          simp only [List.getElem_toArray, List.getElem_cons_succ, List.getElem_cons_zero, Act.put, List.setIfInBounds_toArray, List.set_cons_succ, List.set_cons_zero]
          refine wpAnyH_take (i := 19) (v := ?_) rfl (by kernel_rfl) (by kernel_rfl) (by kernel_rfl) (fun _ _ _ h => h) (Or.inl ⟨by rfl, ?_⟩) hS ?_
          rotate_left
          · (intro wq hSw; go_simp; try with_reducible rfl)
          simp only [List.getElem_toArray, List.getElem_cons_succ, List.getElem_cons_zero, Act.put, List.setIfInBounds_toArray, List.set_cons_succ, List.set_cons_zero]
          refine wpAnyH_take (i := 20) (v := ?_) rfl (by kernel_rfl) (by kernel_rfl) (by kernel_rfl) (fun _ _ _ h => h) (Or.inl ⟨by rfl, ?_⟩) hS ?_
          rotate_left
          · (intro wq hSw; have hq := hcv' wq hSw; go_simp; try with_reducible rfl)
          simp only [List.getElem_toArray, List.getElem_cons_succ, List.getElem_cons_zero, Act.put, List.setIfInBounds_toArray, List.set_cons_succ, List.set_cons_zero]
          refine wpAnyH_take (i := 21) (v := ?_) rfl (by kernel_rfl) (by kernel_rfl) (by kernel_rfl) (fun _ _ _ h => h) (Or.inl ⟨by rfl, ?_⟩) hS ?_
          rotate_left
          · (intro wq hSw; go_simp; try with_reducible rfl)
          simp only [List.getElem_toArray, List.getElem_cons_succ, List.getElem_cons_zero, Act.put, List.setIfInBounds_toArray, List.set_cons_succ, List.set_cons_zero]
          refine wpAnyH_take (i := 22) (v := ?_) rfl (by kernel_rfl) (by kernel_rfl) (by kernel_rfl) (fun _ _ _ h => h) (Or.inl ⟨by rfl, ?_⟩) hS ?_
          rotate_left
          · (intro wq hSw; go_simp; try with_reducible rfl)
          simp only [List.getElem_toArray, List.getElem_cons_succ, List.getElem_cons_zero, Act.put, List.setIfInBounds_toArray, List.set_cons_succ, List.set_cons_zero]
          refine wpAnyH_take (i := 23) (v := ?_) rfl (by kernel_rfl) (by kernel_rfl) (by kernel_rfl) (fun _ _ _ h => h) (Or.inl ⟨by rfl, ?_⟩) hS ?_
          rotate_left
          · (intro wq hSw; go_simp; try with_reducible rfl)
          simp only [List.getElem_toArray, List.getElem_cons_succ, List.getElem_cons_zero, Act.put, List.setIfInBounds_toArray, List.set_cons_succ, List.set_cons_zero]
          refine wpAnyH_ready (rs := [24]) (by kernel_rfl) (by simp) ?_
          refine AllReadyH.cons rfl (fun K hK => ?_) AllReadyH.nil
          go_simp
          refine (HAL.out _).mono ?_
          rintro e w7 ⟨rfl, hb7⟩
          have hb57 : Below we.heap.size we w7 := ((Below.refl we.heap.size we).drew).trans hb7
          have HB7 := Lib.hid (HB_we.out.trans (hb57.mono HB_we.out.size))
          refine hK.out _ _ ?_ (fun hS => ?_)
          · exact hS.trans (Fr.of_below hb7 No) fun _ hn => hn.elim
          clear hK K hb7 hb57
          refine wpAnyH_ready (rs := [25]) (by kernel_rfl) (by simp) ?_
          refine AllReadyH.cons rfl (fun K hK => ?_) AllReadyH.nil
          go_simp
          refine hK.out _ _ hS (fun hS => ?_)
          clear hK K
          refine wpAnyH_ready (rs := [26]) (by kernel_rfl) (by simp) ?_
          refine AllReadyH.cons rfl (fun K hK => ?_) AllReadyH.nil
          go_simp
          refine hK.out _ _ hS (fun hS => ?_)
          clear hK K
          refine wpAnyH_done (by kernel_rfl) ?_ _
          clear hS
          go_wp2_with fail
          go_ret
          exact ⟨rfl, HB7.out⟩
        · have l0 : (c2 != 0) = true := bne_iff_ne.2 hc2
          have l1 : (c2 == 0) = false := beq_false_of_ne hc2
          clear hc2
          go_wp2_with fail
          with_reducible refine (HAL.out _).mono ?_
          rintro e wA ⟨rfl, hbA⟩
          have HBA := Lib.hid hbA
          clear hbA
          go_wp2_with fail
          go_ret
          exact ⟨rfl, HB_wdb.out.trans (HBA.out.mono HB_wdb.out.size)⟩
end
end Go.Proofs.YtdhgbkibbileiaaGreat.recordBack
