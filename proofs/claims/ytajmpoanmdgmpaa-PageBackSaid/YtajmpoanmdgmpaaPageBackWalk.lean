/-
  THE WALK OF PageBack.
-/
import Derived.Test.YtajmpoanmdgmpaaPX
import Derived.Test.YtajmpoanmdgmpaaPY
import Derived.Test.YtajmpoanmdgmpaaOpenB
namespace Go.Proofs.Ytajmpoanmdgmpaa
open Go.RowKit

/-- the bytes of a page that may be are read as that page -/
theorem page_dec {w : World} {S T : Nat → Prop} {p : PV} (h : p.In w S T) (hm : may p.k p.es = true) :
    decOK (encB p.k.toNat p.s p.x p.es) = true ∧ ((decP (encB p.k.toNat p.s p.x p.es)).k : Int) = p.k ∧ (decP (encB p.k.toNat p.s p.x p.es)).s = p.s ∧ (decP (encB p.k.toNat p.s p.x p.es)).x = p.x ∧ (decP (encB p.k.toNat p.s p.x p.es)).es = p.es ∧ ∀ y ∈ encB p.k.toNat p.s p.x p.es, y < 256 := by
  obtain ⟨kn, hk, hk2⟩ : ∃ kn : Nat, p.k = (kn : Int) ∧ kn < 256 := by
    rcases (may_parts hm).2 with h | h | h
    · exact ⟨1, h, by omega⟩
    · exact ⟨2, h, by omega⟩
    · exact ⟨3, h, by omega⟩
  have hces : ∀ cc ∈ p.es, cc.k < 4294967296 ∧ ∀ y ∈ cc.d, y < 256 := fun cc hcc => by
    obtain ⟨xx, hxx, rfl⟩ := List.mem_map.1 hcc
    exact ⟨(h.r.2.1 xx hxx).k, (h.r.2.1 xx hxx).b.lt⟩
  have e1 : p.k.toNat = kn := by omega
  rw [e1]
  rw [hk] at hm
  obtain ⟨a, b1, b2, b3, b4⟩ := enc_dec kn p.s p.x p.es hm hk2 h.s h.x (fun cc hcc => (hces cc hcc).1) fun cc hcc => (hces cc hcc).2
  refine ⟨a, ?_, ?_, ?_, ?_, encB_lt kn p.s p.x p.es fun cc hcc => (hces cc hcc).2⟩ <;> unfold decP <;> rw [a, if_pos rfl]
  · rw [hk]; simp only; omega
  · exact b2
  · exact b3
  · exact b4
/-- unlike pages have unlike bytes -/
theorem enc_same {w w' : World} {S T S' T' : Nat → Prop} {p q : PV} (h : p.In w S T) (h' : q.In w' S' T') (hm : may p.k p.es = true) (hm' : may q.k q.es = true) : decide (encB p.k.toNat p.s p.x p.es = encB q.k.toNat q.s q.x q.es) = sameP p q := by
  obtain ⟨_, a1, a2, a3, a4, _⟩ := page_dec h hm
  obtain ⟨_, b1, b2, b3, b4, _⟩ := page_dec h' hm'
  rw [Bool.eq_iff_iff]
  unfold sameP
  simp only [Bool.and_eq_true, decide_eq_true_eq]
  constructor
  · intro e
    rw [e] at a1 a2 a3 a4
    exact ⟨a1.symm.trans b1, a2.symm.trans b2, a3.symm.trans b3, a4.symm.trans b4⟩
  · rintro ⟨e1, e2, e3, e4⟩
    rw [e1, e2, e3, e4]
/-- what is read has these bytes -/
theorem dec_back {b : List Nat} (hb : ∀ x ∈ b, x < 256) (h : decOK b = true) : encB (decP b).k (decP b).s (decP b).x (decP b).es = b ∧ may ((decP b).k : Int) (decP b).es = true := by
  have hl : b.length = 512 := by
    unfold decOK at h
    simp only [Bool.and_eq_true, decide_eq_true_eq] at h
    exact h.1
  unfold decP
  rw [h, if_pos rfl]
  rw [dec_enc b hb hl] at h
  simp only [Bool.and_eq_true, decide_eq_true_eq] at h
  exact ⟨h.2.2, h.2.1⟩
theorem dec_few {b : List Nat} (hb : ∀ x ∈ b, x < 256) : (decP b).es.length ≤ 300 ∧ ∀ cc ∈ (decP b).es, cc.d.length ≤ 2000 := by
  unfold decP
  split
  · rename_i h
    have hl : b.length = 512 := by
      unfold decOK at h
      simp only [Bool.and_eq_true, decide_eq_true_eq] at h
      exact h.1
    have h1 := rpage_len true (b.drop 4)
    have h2 := rpage_n true (b.drop 4) fun x hx => hb x (List.mem_of_mem_drop hx)
    refine ⟨by simp only; omega, fun cc hcc => ?_⟩
    have := rpage_le true (b.drop 4) cc hcc
    rw [List.length_drop] at this
    omega
  · exact ⟨Nat.zero_le _, fun cc hcc => by simp at hcc⟩
end Go.Proofs.Ytajmpoanmdgmpaa
namespace Go.Proofs.Ytajmpoanmdgmpaa.pageBack
open Go.RowKit

attribute [local go_sem high] run_neqL run_eqL
set_option maxHeartbeats 16000000 in
set_option maxRecDepth 100000 in
theorem walked (p q : PV) (Ab : Option Addr) (nb cb2 : Nat) (lb : List Nat) (w : World) (hp : p.In w All All) (hq : q.In w All All) (hb : InB w Ab nb cb2 lb) : Calls Try.prog 8 #[p.agg, q.agg, .slice Ab nb cb2] w fun e w' => e = .returned (.bool true) ∧ Below w.heap.size w w' := by
  obtain ⟨W1, hW1, hBW1, hbx1, hsz1⟩ := box_page w p
  obtain ⟨W, hW, hBW2, hbx2, hsz2⟩ := box_page W1 q
  have hBW : Below w.heap.size w W := hBW1.trans (hBW2.mono hBW1.size)
  have HP := Lib.hid (hp.below hBW)
  have HQ := Lib.hid (hq.below hBW)
  have HBW := Lib.hid hBW
  have hbxp := hbx1.below hBW2 (by omega)
  have HBXP := Lib.hid hbxp
  have HBXQ := Lib.hid hbx2
  have HLP := Lib.hid hbxp.lt
  have HLQ := Lib.hid hbx2.lt
  have HRB := Lib.hid (hb.1.keep (Fr.of_below hBW No) fun _ _ hn => hn)
  have HNB := Lib.hid hb.2.1
  have HLO := Lib.hid (fun W' (hW' : Below W.heap.size W W') => long_any p W' ((hp.below hBW).below hW'))
  have HLO2 := Lib.hid (fun W' (hW' : Below W.heap.size W W') => long_any q W' ((hq.below hBW).below hW'))
  have HAL := Lib.hid (fun W' => alive_any W')
  obtain ⟨y0, y1, y2, y3⟩ := pcs_cells hbxp
  obtain ⟨z0, z1, z2, z3⟩ := pcs_cells hbx2
  obtain ⟨pk, ps, px, A, n, c, l⟩ := p
  obtain ⟨qk, qs, qx, B, m, cb, lq⟩ := q
  simp only at hW1 hW y0 y1 y2 y3 z0 z1 z2 z3
  simp only [PV.agg] at HLO HLO2 ⊢
  clear hp hq hb hBW hbxp hbx1 hbx2 hsz1 hsz2 hBW1 hBW2
  go_enter Try.func8, Try.ntmps8
  go_wp2_with fail
  refine (HLO.out W (Below.refl _ _)).mono ?_
  rintro e w1 ⟨b, rfl, hb1, hfew⟩
  have HB1 := Lib.hid hb1
  obtain ⟨y0, y1, y2, y3⟩ := pcs_cells (HBXP.out.below hb1 HLP.out)
  simp only at y0 y1 y2 y3
  obtain ⟨z0, z1, z2, z3⟩ := pcs_cells (HBXQ.out.below hb1 HLQ.out)
  simp only at z0 z1 z2 z3
  clear hb1
  cases b with
  | true =>
    clear hfew
    go_wp2_with fail
    refine (HAL.out _).mono ?_
    rintro e wz ⟨rfl, hbz⟩
    have HBZ := Lib.hid (HB1.out.trans (hbz.mono HB1.out.size))
    clear hbz
    go_wp2_with fail
    go_ret
    exact ⟨rfl, HBW.out.trans (HBZ.out.mono HBW.out.size)⟩
  | false =>
    have HFP := Lib.hid (hfew rfl)
    clear hfew
    go_wp2_with fail
    refine (HLO2.out w1 HB1.out).mono ?_
    rintro e w2 ⟨b, rfl, hb2, hfew⟩
    have HB2 := Lib.hid (HB1.out.trans (hb2.mono HB1.out.size))
    obtain ⟨y0, y1, y2, y3⟩ := pcs_cells (HBXP.out.below HB2.out HLP.out)
    simp only at y0 y1 y2 y3
    obtain ⟨z0, z1, z2, z3⟩ := pcs_cells (HBXQ.out.below HB2.out HLQ.out)
    simp only at z0 z1 z2 z3
    clear hb2
    cases b with
    | true =>
      clear hfew
      go_wp2_with fail
      refine (HAL.out _).mono ?_
      rintro e wz ⟨rfl, hbz⟩
      have HBZ := Lib.hid (HB2.out.trans (hbz.mono HB2.out.size))
      clear hbz
      go_wp2_with fail
      go_ret
      exact ⟨rfl, HBW.out.trans (HBZ.out.mono HBW.out.size)⟩
    | false =>
      have HFQ := Lib.hid (hfew rfl)
      clear hfew
      cases hmp : may pk (⟨pk, ps, px, A, n, c, l⟩ : PV).es with
      | false =>
        have HEP := Lib.hid (encode_no ⟨pk, ps, px, A, n, c, l⟩ w2 (HP.out.below HB2.out) HFP.out hmp)
        simp only [PV.agg] at HEP
        go_wp2_with fail
        refine HEP.out.mono ?_
        rintro e w4 ⟨rfl, hb4⟩
        have HB4 := Lib.hid (HB2.out.trans (hb4.mono HB2.out.size))
        obtain ⟨y0, y1, y2, y3⟩ := pcs_cells (HBXP.out.below HB4.out HLP.out)
        simp only at y0 y1 y2 y3
        obtain ⟨z0, z1, z2, z3⟩ := pcs_cells (HBXQ.out.below HB4.out HLQ.out)
        simp only at z0 z1 z2 z3
        clear hb4
        have HQR := Lib.hid (show ∃ v f : Int, True from ⟨0, 0, trivial⟩)
        cases hmq : may qk (⟨qk, qs, qx, B, m, cb, lq⟩ : PV).es with
        | false =>
          have HEQ := Lib.hid (encode_no ⟨qk, qs, qx, B, m, cb, lq⟩ w4 (HQ.out.below HB4.out) HFQ.out hmq)
          simp only [PV.agg] at HEQ
          go_wp2_with fail
          refine HEQ.out.mono ?_
          rintro e w5 ⟨rfl, hb5⟩
          have HB45 := Lib.hid hb5
          have HB5 := Lib.hid (HB4.out.trans (hb5.mono HB4.out.size))
          have HXP := Lib.hid (HBXP.out.below HB5.out HLP.out)
          have HXQ := Lib.hid (HBXQ.out.below HB5.out HLQ.out)
          have hma := may_any ⟨pk, ps, px, A, n, c, l⟩ w5.drew ((HP.out.below HB5.out).keep (Fr.refl w5 No).drew (fun _ _ hn => hn) fun _ _ hn => hn) HFP.out
          simp only [PV.agg] at hma
          rw [hmp] at hma
          have HMA := Lib.hid hma
          clear hb5 hma y0 y1 y2 y3 z0 z1 z2 z3
          go_wp2_with fail
          refine wp_region_held_drew (S := fun wx => Fr w5 wx No) (by kernel_rfl) ((Fr.refl w5 _).drew) (fun hS => ?_)
          refine wpAnyH_take (i := 0) (v := ?_) rfl (by kernel_rfl) (by kernel_rfl) (by kernel_rfl) (fun _ _ _ h => h) (Or.inl ⟨by rfl, ?_⟩) hS ?_
          rotate_left
          · (intro wq hSw; go_simp; try with_reducible rfl)
          refine wpAnyH_take (i := 1) (v := ?_) rfl (by kernel_rfl) (by kernel_rfl) (by kernel_rfl) (fun _ _ _ h => h) (Or.inl ⟨by rfl, ?_⟩) hS ?_
          rotate_left
          · (intro wq hSw; go_simp; try with_reducible rfl)
          simp only [List.getElem_toArray, List.getElem_cons_succ, List.getElem_cons_zero, Act.put, List.setIfInBounds_toArray, List.set_cons_succ, List.set_cons_zero]
          refine wpAnyH_take (i := 2) (v := ?_) rfl (by kernel_rfl) (by kernel_rfl) (by kernel_rfl) (fun _ _ _ h => h) (Or.inl ⟨by rfl, ?_⟩) hS ?_
          rotate_left
          · (intro wq hSw; obtain ⟨h0, h1, h2, h3⟩ := pcs_cells (HXP.out.keep hSw fun h => h); simp only at h0 h1 h2 h3; go_simp; try with_reducible rfl)
          simp only [List.getElem_toArray, List.getElem_cons_succ, List.getElem_cons_zero, Act.put, List.setIfInBounds_toArray, List.set_cons_succ, List.set_cons_zero]
          refine wpAnyH_ready (rs := [3]) (by kernel_rfl) (by simp) ?_
          refine AllReadyH.cons rfl (fun K hK => ?_) AllReadyH.nil
          go_simp
          refine HMA.out.mono ?_
          rintro e wm ⟨rfl, hbm⟩
          refine hK.out _ _ ?_ (fun hS => ?_)
          · exact hS.trans (Fr.of_below hbm No) fun _ hn => hn.elim
          clear hK K hbm
          refine wpAnyH_take (i := 4) (v := ?_) rfl (by kernel_rfl) (by kernel_rfl) (by kernel_rfl) (fun _ _ _ h => h) (Or.inl ⟨by rfl, ?_⟩) hS ?_
          rotate_left
          · (intro wq hSw; go_simp; try with_reducible rfl)
          simp only [List.getElem_toArray, List.getElem_cons_succ, List.getElem_cons_zero, Act.put, List.setIfInBounds_toArray, List.set_cons_succ, List.set_cons_zero]
          refine wpAnyH_take (i := 5) (v := ?_) rfl (by kernel_rfl) (by kernel_rfl) (by kernel_rfl) (fun _ _ _ h => h) (Or.inl ⟨by rfl, ?_⟩) hS ?_
          rotate_left
          · (intro wq hSw; go_simp; try with_reducible rfl)
          simp only [List.getElem_toArray, List.getElem_cons_succ, List.getElem_cons_zero, Act.put, List.setIfInBounds_toArray, List.set_cons_succ, List.set_cons_zero]
          refine wpAnyH_take (i := 6) (v := ?_) rfl (by kernel_rfl) (by kernel_rfl) (by kernel_rfl) (fun _ _ _ h => h) (Or.inl ⟨by rfl, ?_⟩) hS ?_
          rotate_left
          · (intro wq hSw; go_simp; try with_reducible rfl)
          simp only [List.getElem_toArray, List.getElem_cons_succ, List.getElem_cons_zero, Act.put, List.setIfInBounds_toArray, List.set_cons_succ, List.set_cons_zero]
          refine wpAnyH_take (i := 7) (v := ?_) rfl (by kernel_rfl) (by kernel_rfl) (by kernel_rfl) (fun _ _ _ h => h) (Or.inl ⟨by rfl, ?_⟩) hS ?_
          rotate_left
          · (intro wq hSw; go_simp; try with_reducible rfl)
          simp only [List.getElem_toArray, List.getElem_cons_succ, List.getElem_cons_zero, Act.put, List.setIfInBounds_toArray, List.set_cons_succ, List.set_cons_zero]
          refine wpAnyH_take (i := 8) (v := ?_) rfl (by kernel_rfl) (by kernel_rfl) (by kernel_rfl) (fun _ _ _ h => h) (Or.inl ⟨by rfl, ?_⟩) hS ?_
          rotate_left
          · (intro wq hSw; go_simp; try with_reducible rfl)
          simp only [List.getElem_toArray, List.getElem_cons_succ, List.getElem_cons_zero, Act.put, List.setIfInBounds_toArray, List.set_cons_succ, List.set_cons_zero]
          refine wpAnyH_take (i := 9) (v := undef) rfl (by kernel_rfl) (by kernel_rfl) (by kernel_rfl) (fun _ _ _ h => h) (Or.inr ⟨by rfl, rfl⟩) hS ?_
          simp only [List.getElem_toArray, List.getElem_cons_succ, List.getElem_cons_zero, Act.put, List.setIfInBounds_toArray, List.set_cons_succ, List.set_cons_zero]
          refine wpAnyH_take (i := 10) (v := undef) rfl (by kernel_rfl) (by kernel_rfl) (by kernel_rfl) (fun _ _ _ h => h) (Or.inr ⟨by rfl, rfl⟩) hS ?_
          simp only [List.getElem_toArray, List.getElem_cons_succ, List.getElem_cons_zero, Act.put, List.setIfInBounds_toArray, List.set_cons_succ, List.set_cons_zero]
          refine wpAnyH_take (i := 11) (v := ?_) rfl (by kernel_rfl) (by kernel_rfl) (by kernel_rfl) (fun _ _ _ h => h) (Or.inl ⟨by rfl, ?_⟩) hS ?_
          rotate_left
          · (intro wq hSw; go_simp; try with_reducible rfl)
          simp only [List.getElem_toArray, List.getElem_cons_succ, List.getElem_cons_zero, Act.put, List.setIfInBounds_toArray, List.set_cons_succ, List.set_cons_zero]
          refine wpAnyH_take (i := 12) (v := ?_) rfl (by kernel_rfl) (by kernel_rfl) (by kernel_rfl) (fun _ _ _ h => h) (Or.inl ⟨by rfl, ?_⟩) hS ?_
          rotate_left
          · (intro wq hSw; go_simp; try with_reducible rfl)
          simp only [List.getElem_toArray, List.getElem_cons_succ, List.getElem_cons_zero, Act.put, List.setIfInBounds_toArray, List.set_cons_succ, List.set_cons_zero]
          refine wpAnyH_take (i := 13) (v := undef) rfl (by kernel_rfl) (by kernel_rfl) (by kernel_rfl) (fun _ _ _ h => h) (Or.inr ⟨by rfl, rfl⟩) hS ?_
          simp only [List.getElem_toArray, List.getElem_cons_succ, List.getElem_cons_zero, Act.put, List.setIfInBounds_toArray, List.set_cons_succ, List.set_cons_zero]
          refine wpAnyH_take (i := 14) (v := undef) rfl (by kernel_rfl) (by kernel_rfl) (by kernel_rfl) (fun _ _ _ h => h) (Or.inr ⟨by rfl, rfl⟩) hS ?_
          simp only [List.getElem_toArray, List.getElem_cons_succ, List.getElem_cons_zero, Act.put, List.setIfInBounds_toArray, List.set_cons_succ, List.set_cons_zero]
          refine wpAnyH_take (i := 15) (v := undef) rfl (by kernel_rfl) (by kernel_rfl) (by kernel_rfl) (fun _ _ _ h => h) (Or.inr ⟨by rfl, rfl⟩) hS ?_
          simp only [List.getElem_toArray, List.getElem_cons_succ, List.getElem_cons_zero, Act.put, List.setIfInBounds_toArray, List.set_cons_succ, List.set_cons_zero]
          refine wpAnyH_take (i := 16) (v := undef) rfl (by kernel_rfl) (by kernel_rfl) (by kernel_rfl) (fun _ _ _ h => h) (Or.inr ⟨by rfl, rfl⟩) hS ?_
          simp only [List.getElem_toArray, List.getElem_cons_succ, List.getElem_cons_zero, Act.put, List.setIfInBounds_toArray, List.set_cons_succ, List.set_cons_zero]
          refine wpAnyH_take (i := 17) (v := undef) rfl (by kernel_rfl) (by kernel_rfl) (by kernel_rfl) (fun _ _ _ h => h) (Or.inr ⟨by rfl, rfl⟩) hS ?_
          simp only [List.getElem_toArray, List.getElem_cons_succ, List.getElem_cons_zero, Act.put, List.setIfInBounds_toArray, List.set_cons_succ, List.set_cons_zero]
          refine wpAnyH_take (i := 18) (v := undef) rfl (by kernel_rfl) (by kernel_rfl) (by kernel_rfl) (fun _ _ _ h => h) (Or.inr ⟨by rfl, rfl⟩) hS ?_
          simp only [List.getElem_toArray, List.getElem_cons_succ, List.getElem_cons_zero, Act.put, List.setIfInBounds_toArray, List.set_cons_succ, List.set_cons_zero]
          refine wpAnyH_take (i := 19) (v := undef) rfl (by kernel_rfl) (by kernel_rfl) (by kernel_rfl) (fun _ _ _ h => h) (Or.inr ⟨by rfl, rfl⟩) hS ?_
          simp only [List.getElem_toArray, List.getElem_cons_succ, List.getElem_cons_zero, Act.put, List.setIfInBounds_toArray, List.set_cons_succ, List.set_cons_zero]
          refine wpAnyH_take (i := 20) (v := undef) rfl (by kernel_rfl) (by kernel_rfl) (by kernel_rfl) (fun _ _ _ h => h) (Or.inr ⟨by rfl, rfl⟩) hS ?_
          simp only [List.getElem_toArray, List.getElem_cons_succ, List.getElem_cons_zero, Act.put, List.setIfInBounds_toArray, List.set_cons_succ, List.set_cons_zero]
          refine wpAnyH_take (i := 21) (v := undef) rfl (by kernel_rfl) (by kernel_rfl) (by kernel_rfl) (fun _ _ _ h => h) (Or.inr ⟨by rfl, rfl⟩) hS ?_
          simp only [List.getElem_toArray, List.getElem_cons_succ, List.getElem_cons_zero, Act.put, List.setIfInBounds_toArray, List.set_cons_succ, List.set_cons_zero]
          refine wpAnyH_take (i := 22) (v := ?_) rfl (by kernel_rfl) (by kernel_rfl) (by kernel_rfl) (fun _ _ _ h => h) (Or.inl ⟨by rfl, ?_⟩) hS ?_
          rotate_left
          · (intro wq hSw; go_simp; try with_reducible rfl)
          simp only [List.getElem_toArray, List.getElem_cons_succ, List.getElem_cons_zero, Act.put, List.setIfInBounds_toArray, List.set_cons_succ, List.set_cons_zero]
          refine wpAnyH_take (i := 23) (v := ?_) rfl (by kernel_rfl) (by kernel_rfl) (by kernel_rfl) (fun _ _ _ h => h) (Or.inl ⟨by rfl, ?_⟩) hS ?_
          rotate_left
          · (intro wq hSw; go_simp; try with_reducible rfl)
          simp only [List.getElem_toArray, List.getElem_cons_succ, List.getElem_cons_zero, Act.put, List.setIfInBounds_toArray, List.set_cons_succ, List.set_cons_zero]
          refine wpAnyH_done (by kernel_rfl) ?_ _
          have HS9 := Lib.hid (show Fr w5 wm No from hS)
          have HB9 := Lib.hid (HB5.out.trans (HS9.out.no_below.mono HB5.out.size))
          have HB49 := Lib.hid (HB45.out.trans (HS9.out.no_below.mono HB45.out.size))
          clear hS
          have HDB := Lib.hid (decode_any wm Ab nb cb2 lb ((HRB.out.keep (Fr.of_below HB9.out No) fun _ _ hn => hn).mono fun _ _ _ => trivial) HNB.out)
          go_wp2_with fail
          with_reducible refine HDB.out.mono ?_
          rintro e wd ⟨r, rfl, hdec⟩
          have hdec' := hdec
          obtain ⟨S, T, hpo, hS, hT, hbd, hrk, hrs, hrx, hre⟩ := hdec
          have HBD := Lib.hid (HB9.out.trans (hbd.mono HB9.out.size))
          obtain ⟨WD, hWD, hBD, hbxd, hszd⟩ := box_page wd r
          have HBXD := Lib.hid hbxd
          have HBD2 := Lib.hid (HBD.out.trans (hBD.mono HBD.out.size))
          have HRI := Lib.hid (hpo.In.all.below hBD)
          have HRQ := Lib.hid (show r.k = ((decP lb).k : Int) ∧ r.s = (decP lb).s ∧ r.x = (decP lb).x ∧ r.es = (decP lb).es from ⟨hrk, hrs, hrx, hre⟩)
          have HDFEW := Lib.hid (dec_few (HRB.out.lt))
          have HRFEW : Hid (Few r) := Lib.hid (few_of HRI.out (by rw [hre]; exact HDFEW.out.1) (by rw [hre]; exact HDFEW.out.2))
          obtain ⟨d0, d1, d2, d3⟩ := pcs_cells hbxd
          clear hdec' hpo hS hT hbd hrk hrs hrx hre hBD hbxd hszd
          cases hdk : decOK lb with
          | false =>
            obtain ⟨rk, rs, rx, rA, rn, rc, rl⟩ := r
            simp only at hWD d0 d1 d2 d3
            simp only [PV.agg, Bool.false_eq_true, if_false]
            clear hdk
            go_wp2_with fail
            refine (HAL.out _).mono ?_
            rintro e wz ⟨rfl, hbz⟩
            have HBZ := Lib.hid (HBD2.out.trans (hbz.mono HBD2.out.size))
            clear hbz
            go_wp2_with fail
            go_ret
            exact ⟨rfl, HBW.out.trans (HBZ.out.mono HBW.out.size)⟩
          | true =>
            obtain ⟨hbk, hbm⟩ := dec_back HRB.out.lt hdk
            have hrm : may r.k r.es = true := by rw [HRQ.out.1, HRQ.out.2.2.2]; exact hbm
            have hen := encode_yes r WD HRI.out HRFEW.out hrm
            have hz : encB r.k.toNat r.s r.x r.es = lb := by
              rw [HRQ.out.1, HRQ.out.2.1, HRQ.out.2.2.1, HRQ.out.2.2.2, Int.toNat_natCast]
              exact hbk
            rw [hz] at hen
            have HEN := Lib.hid hen
            clear hen hz hrm hbm hbk hdk
            obtain ⟨rk, rs, rx, rA, rn, rc, rl⟩ := r
            simp only at hWD d0 d1 d2 d3
            simp only [PV.agg] at HEN
            simp only [PV.agg, if_true]
            go_wp2_with fail
            refine HEN.out.mono ?_
            rintro e we ⟨ve, rfl, hoe, hbe⟩
            have hoe' : Ow we (fun b => WD.heap.size ≤ b) ve 512 lb := hoe
            obtain ⟨Ae, ce, rfl, _, _, hre⟩ := hoe'.reads
            have HBE := Lib.hid (HBD2.out.trans (hbe.mono HBD2.out.size))
            have hcv1 := run_conv _ Ae 512 ce lb we hre
            have hcv2 := run_conv _ Ab nb cb2 lb we (HRB.out.keep (Fr.of_below HBE.out No) fun _ _ hn => hn)
            have hse : seq lb lb = true := by simp [seq]
            clear hoe hoe' hbe hre
            go_wp2_with fail
            refine (HAL.out _).mono ?_
            rintro e wz ⟨rfl, hbz⟩
            have HBZ := Lib.hid (HBE.out.trans (hbz.mono HBE.out.size))
            clear hbz
            go_wp2_with fail
            go_ret
            exact ⟨rfl, HBW.out.trans (HBZ.out.mono HBW.out.size)⟩
        | true =>
          have heq := encode_yes ⟨qk, qs, qx, B, m, cb, lq⟩ w4 (HQ.out.below HB4.out) HFQ.out hmq
          simp only [PV.agg] at heq
          obtain ⟨Y, hY⟩ : ∃ Y, Y = encB qk.toNat qs qx (⟨qk, qs, qx, B, m, cb, lq⟩ : PV).es := ⟨_, rfl⟩
          rw [← hY] at heq
          have HY := Lib.hid hY
          have HYL := Lib.hid (page_dec (HQ.out.below HB4.out) hmq).2.2.2.2.2
          simp only at HYL
          rw [← hY] at HYL
          have HEQ := Lib.hid heq
          clear heq hY
          go_wp2_with fail
          refine HEQ.out.mono ?_
          rintro e w5 ⟨v5, rfl, ho5, hb5⟩
          have ho5' : Ow w5 (fun b => w4.heap.size ≤ b) v5 512 Y := ho5
          obtain ⟨A5, c5, rfl, hc5, _, hr5⟩ := ho5'.reads
          have HR5 := Lib.hid hr5
          clear ho5 ho5' hr5 hc5
          have HB45 := Lib.hid hb5
          have HB5 := Lib.hid (HB4.out.trans (hb5.mono HB4.out.size))
          have HXP := Lib.hid (HBXP.out.below HB5.out HLP.out)
          have HXQ := Lib.hid (HBXQ.out.below HB5.out HLQ.out)
          have hma := may_any ⟨pk, ps, px, A, n, c, l⟩ w5.drew ((HP.out.below HB5.out).keep (Fr.refl w5 No).drew (fun _ _ hn => hn) fun _ _ hn => hn) HFP.out
          simp only [PV.agg] at hma
          rw [hmp] at hma
          have HMA := Lib.hid hma
          clear hb5 hma y0 y1 y2 y3 z0 z1 z2 z3
          go_wp2_with fail
          refine wp_region_held_drew (S := fun wx => Fr w5 wx No) (by kernel_rfl) ((Fr.refl w5 _).drew) (fun hS => ?_)
          refine wpAnyH_take (i := 0) (v := ?_) rfl (by kernel_rfl) (by kernel_rfl) (by kernel_rfl) (fun _ _ _ h => h) (Or.inl ⟨by rfl, ?_⟩) hS ?_
          rotate_left
          · (intro wq hSw; go_simp; try with_reducible rfl)
          refine wpAnyH_take (i := 1) (v := ?_) rfl (by kernel_rfl) (by kernel_rfl) (by kernel_rfl) (fun _ _ _ h => h) (Or.inl ⟨by rfl, ?_⟩) hS ?_
          rotate_left
          · (intro wq hSw; go_simp; try with_reducible rfl)
          simp only [List.getElem_toArray, List.getElem_cons_succ, List.getElem_cons_zero, Act.put, List.setIfInBounds_toArray, List.set_cons_succ, List.set_cons_zero]
          refine wpAnyH_take (i := 2) (v := ?_) rfl (by kernel_rfl) (by kernel_rfl) (by kernel_rfl) (fun _ _ _ h => h) (Or.inl ⟨by rfl, ?_⟩) hS ?_
          rotate_left
          · (intro wq hSw; obtain ⟨h0, h1, h2, h3⟩ := pcs_cells (HXP.out.keep hSw fun h => h); simp only at h0 h1 h2 h3; go_simp; try with_reducible rfl)
          simp only [List.getElem_toArray, List.getElem_cons_succ, List.getElem_cons_zero, Act.put, List.setIfInBounds_toArray, List.set_cons_succ, List.set_cons_zero]
          refine wpAnyH_ready (rs := [3]) (by kernel_rfl) (by simp) ?_
          refine AllReadyH.cons rfl (fun K hK => ?_) AllReadyH.nil
          go_simp
          refine HMA.out.mono ?_
          rintro e wm ⟨rfl, hbm⟩
          refine hK.out _ _ ?_ (fun hS => ?_)
          · exact hS.trans (Fr.of_below hbm No) fun _ hn => hn.elim
          clear hK K hbm
          refine wpAnyH_take (i := 4) (v := ?_) rfl (by kernel_rfl) (by kernel_rfl) (by kernel_rfl) (fun _ _ _ h => h) (Or.inl ⟨by rfl, ?_⟩) hS ?_
          rotate_left
          · (intro wq hSw; go_simp; try with_reducible rfl)
          simp only [List.getElem_toArray, List.getElem_cons_succ, List.getElem_cons_zero, Act.put, List.setIfInBounds_toArray, List.set_cons_succ, List.set_cons_zero]
          refine wpAnyH_take (i := 5) (v := ?_) rfl (by kernel_rfl) (by kernel_rfl) (by kernel_rfl) (fun _ _ _ h => h) (Or.inl ⟨by rfl, ?_⟩) hS ?_
          rotate_left
          · (intro wq hSw; go_simp; try with_reducible rfl)
          simp only [List.getElem_toArray, List.getElem_cons_succ, List.getElem_cons_zero, Act.put, List.setIfInBounds_toArray, List.set_cons_succ, List.set_cons_zero]
          refine wpAnyH_take (i := 6) (v := ?_) rfl (by kernel_rfl) (by kernel_rfl) (by kernel_rfl) (fun _ _ _ h => h) (Or.inl ⟨by rfl, ?_⟩) hS ?_
          rotate_left
          · (intro wq hSw; go_simp; try with_reducible rfl)
          simp only [List.getElem_toArray, List.getElem_cons_succ, List.getElem_cons_zero, Act.put, List.setIfInBounds_toArray, List.set_cons_succ, List.set_cons_zero]
          refine wpAnyH_take (i := 7) (v := ?_) rfl (by kernel_rfl) (by kernel_rfl) (by kernel_rfl) (fun _ _ _ h => h) (Or.inl ⟨by rfl, ?_⟩) hS ?_
          rotate_left
          · (intro wq hSw; go_simp; try with_reducible rfl)
          simp only [List.getElem_toArray, List.getElem_cons_succ, List.getElem_cons_zero, Act.put, List.setIfInBounds_toArray, List.set_cons_succ, List.set_cons_zero]
          refine wpAnyH_take (i := 8) (v := ?_) rfl (by kernel_rfl) (by kernel_rfl) (by kernel_rfl) (fun _ _ _ h => h) (Or.inl ⟨by rfl, ?_⟩) hS ?_
          rotate_left
          · (intro wq hSw; go_simp; try with_reducible rfl)
          simp only [List.getElem_toArray, List.getElem_cons_succ, List.getElem_cons_zero, Act.put, List.setIfInBounds_toArray, List.set_cons_succ, List.set_cons_zero]
          refine wpAnyH_take (i := 9) (v := undef) rfl (by kernel_rfl) (by kernel_rfl) (by kernel_rfl) (fun _ _ _ h => h) (Or.inr ⟨by rfl, rfl⟩) hS ?_
          simp only [List.getElem_toArray, List.getElem_cons_succ, List.getElem_cons_zero, Act.put, List.setIfInBounds_toArray, List.set_cons_succ, List.set_cons_zero]
          refine wpAnyH_take (i := 10) (v := undef) rfl (by kernel_rfl) (by kernel_rfl) (by kernel_rfl) (fun _ _ _ h => h) (Or.inr ⟨by rfl, rfl⟩) hS ?_
          simp only [List.getElem_toArray, List.getElem_cons_succ, List.getElem_cons_zero, Act.put, List.setIfInBounds_toArray, List.set_cons_succ, List.set_cons_zero]
          refine wpAnyH_take (i := 11) (v := ?_) rfl (by kernel_rfl) (by kernel_rfl) (by kernel_rfl) (fun _ _ _ h => h) (Or.inl ⟨by rfl, ?_⟩) hS ?_
          rotate_left
          · (intro wq hSw; go_simp; try with_reducible rfl)
          simp only [List.getElem_toArray, List.getElem_cons_succ, List.getElem_cons_zero, Act.put, List.setIfInBounds_toArray, List.set_cons_succ, List.set_cons_zero]
          refine wpAnyH_take (i := 12) (v := ?_) rfl (by kernel_rfl) (by kernel_rfl) (by kernel_rfl) (fun _ _ _ h => h) (Or.inl ⟨by rfl, ?_⟩) hS ?_
          rotate_left
          · (intro wq hSw; go_simp; try with_reducible rfl)
          simp only [List.getElem_toArray, List.getElem_cons_succ, List.getElem_cons_zero, Act.put, List.setIfInBounds_toArray, List.set_cons_succ, List.set_cons_zero]
          refine wpAnyH_take (i := 13) (v := undef) rfl (by kernel_rfl) (by kernel_rfl) (by kernel_rfl) (fun _ _ _ h => h) (Or.inr ⟨by rfl, rfl⟩) hS ?_
          simp only [List.getElem_toArray, List.getElem_cons_succ, List.getElem_cons_zero, Act.put, List.setIfInBounds_toArray, List.set_cons_succ, List.set_cons_zero]
          refine wpAnyH_take (i := 14) (v := undef) rfl (by kernel_rfl) (by kernel_rfl) (by kernel_rfl) (fun _ _ _ h => h) (Or.inr ⟨by rfl, rfl⟩) hS ?_
          simp only [List.getElem_toArray, List.getElem_cons_succ, List.getElem_cons_zero, Act.put, List.setIfInBounds_toArray, List.set_cons_succ, List.set_cons_zero]
          refine wpAnyH_take (i := 15) (v := undef) rfl (by kernel_rfl) (by kernel_rfl) (by kernel_rfl) (fun _ _ _ h => h) (Or.inr ⟨by rfl, rfl⟩) hS ?_
          simp only [List.getElem_toArray, List.getElem_cons_succ, List.getElem_cons_zero, Act.put, List.setIfInBounds_toArray, List.set_cons_succ, List.set_cons_zero]
          refine wpAnyH_take (i := 16) (v := undef) rfl (by kernel_rfl) (by kernel_rfl) (by kernel_rfl) (fun _ _ _ h => h) (Or.inr ⟨by rfl, rfl⟩) hS ?_
          simp only [List.getElem_toArray, List.getElem_cons_succ, List.getElem_cons_zero, Act.put, List.setIfInBounds_toArray, List.set_cons_succ, List.set_cons_zero]
          refine wpAnyH_take (i := 17) (v := undef) rfl (by kernel_rfl) (by kernel_rfl) (by kernel_rfl) (fun _ _ _ h => h) (Or.inr ⟨by rfl, rfl⟩) hS ?_
          simp only [List.getElem_toArray, List.getElem_cons_succ, List.getElem_cons_zero, Act.put, List.setIfInBounds_toArray, List.set_cons_succ, List.set_cons_zero]
          refine wpAnyH_take (i := 18) (v := undef) rfl (by kernel_rfl) (by kernel_rfl) (by kernel_rfl) (fun _ _ _ h => h) (Or.inr ⟨by rfl, rfl⟩) hS ?_
          simp only [List.getElem_toArray, List.getElem_cons_succ, List.getElem_cons_zero, Act.put, List.setIfInBounds_toArray, List.set_cons_succ, List.set_cons_zero]
          refine wpAnyH_take (i := 19) (v := undef) rfl (by kernel_rfl) (by kernel_rfl) (by kernel_rfl) (fun _ _ _ h => h) (Or.inr ⟨by rfl, rfl⟩) hS ?_
          simp only [List.getElem_toArray, List.getElem_cons_succ, List.getElem_cons_zero, Act.put, List.setIfInBounds_toArray, List.set_cons_succ, List.set_cons_zero]
          refine wpAnyH_take (i := 20) (v := undef) rfl (by kernel_rfl) (by kernel_rfl) (by kernel_rfl) (fun _ _ _ h => h) (Or.inr ⟨by rfl, rfl⟩) hS ?_
          simp only [List.getElem_toArray, List.getElem_cons_succ, List.getElem_cons_zero, Act.put, List.setIfInBounds_toArray, List.set_cons_succ, List.set_cons_zero]
          refine wpAnyH_take (i := 21) (v := undef) rfl (by kernel_rfl) (by kernel_rfl) (by kernel_rfl) (fun _ _ _ h => h) (Or.inr ⟨by rfl, rfl⟩) hS ?_
          simp only [List.getElem_toArray, List.getElem_cons_succ, List.getElem_cons_zero, Act.put, List.setIfInBounds_toArray, List.set_cons_succ, List.set_cons_zero]
          refine wpAnyH_take (i := 22) (v := ?_) rfl (by kernel_rfl) (by kernel_rfl) (by kernel_rfl) (fun _ _ _ h => h) (Or.inl ⟨by rfl, ?_⟩) hS ?_
          rotate_left
          · (intro wq hSw; go_simp; try with_reducible rfl)
          simp only [List.getElem_toArray, List.getElem_cons_succ, List.getElem_cons_zero, Act.put, List.setIfInBounds_toArray, List.set_cons_succ, List.set_cons_zero]
          refine wpAnyH_take (i := 23) (v := ?_) rfl (by kernel_rfl) (by kernel_rfl) (by kernel_rfl) (fun _ _ _ h => h) (Or.inl ⟨by rfl, ?_⟩) hS ?_
          rotate_left
          · (intro wq hSw; go_simp; try with_reducible rfl)
          simp only [List.getElem_toArray, List.getElem_cons_succ, List.getElem_cons_zero, Act.put, List.setIfInBounds_toArray, List.set_cons_succ, List.set_cons_zero]
          refine wpAnyH_done (by kernel_rfl) ?_ _
          have HS9 := Lib.hid (show Fr w5 wm No from hS)
          have HB9 := Lib.hid (HB5.out.trans (HS9.out.no_below.mono HB5.out.size))
          have HB49 := Lib.hid (HB45.out.trans (HS9.out.no_below.mono HB45.out.size))
          clear hS
          have HDB := Lib.hid (decode_any wm Ab nb cb2 lb ((HRB.out.keep (Fr.of_below HB9.out No) fun _ _ hn => hn).mono fun _ _ _ => trivial) HNB.out)
          go_wp2_with fail
          with_reducible refine HDB.out.mono ?_
          rintro e wd ⟨r, rfl, hdec⟩
          have hdec' := hdec
          obtain ⟨S, T, hpo, hS, hT, hbd, hrk, hrs, hrx, hre⟩ := hdec
          have HBD := Lib.hid (HB9.out.trans (hbd.mono HB9.out.size))
          obtain ⟨WD, hWD, hBD, hbxd, hszd⟩ := box_page wd r
          have HBXD := Lib.hid hbxd
          have HBD2 := Lib.hid (HBD.out.trans (hBD.mono HBD.out.size))
          have HRI := Lib.hid (hpo.In.all.below hBD)
          have HRQ := Lib.hid (show r.k = ((decP lb).k : Int) ∧ r.s = (decP lb).s ∧ r.x = (decP lb).x ∧ r.es = (decP lb).es from ⟨hrk, hrs, hrx, hre⟩)
          have HDFEW := Lib.hid (dec_few (HRB.out.lt))
          have HRFEW : Hid (Few r) := Lib.hid (few_of HRI.out (by rw [hre]; exact HDFEW.out.1) (by rw [hre]; exact HDFEW.out.2))
          obtain ⟨d0, d1, d2, d3⟩ := pcs_cells hbxd
          clear hdec' hpo hS hT hbd hrk hrs hrx hre hBD hbxd hszd
          cases hdk : decOK lb with
          | false =>
            obtain ⟨rk, rs, rx, rA, rn, rc, rl⟩ := r
            simp only at hWD d0 d1 d2 d3
            simp only [PV.agg, Bool.false_eq_true, if_false]
            clear hdk
            go_wp2_with fail
            refine (HAL.out _).mono ?_
            rintro e wz ⟨rfl, hbz⟩
            have HBZ := Lib.hid (HBD2.out.trans (hbz.mono HBD2.out.size))
            clear hbz
            go_wp2_with fail
            go_ret
            exact ⟨rfl, HBW.out.trans (HBZ.out.mono HBW.out.size)⟩
          | true =>
            obtain ⟨hbk, hbm⟩ := dec_back HRB.out.lt hdk
            have hrm : may r.k r.es = true := by rw [HRQ.out.1, HRQ.out.2.2.2]; exact hbm
            have hen := encode_yes r WD HRI.out HRFEW.out hrm
            have hz : encB r.k.toNat r.s r.x r.es = lb := by
              rw [HRQ.out.1, HRQ.out.2.1, HRQ.out.2.2.1, HRQ.out.2.2.2, Int.toNat_natCast]
              exact hbk
            rw [hz] at hen
            have HEN := Lib.hid hen
            clear hen hz hrm hbm hbk hdk
            obtain ⟨rk, rs, rx, rA, rn, rc, rl⟩ := r
            simp only at hWD d0 d1 d2 d3
            simp only [PV.agg] at HEN
            simp only [PV.agg, if_true]
            go_wp2_with fail
            refine HEN.out.mono ?_
            rintro e we ⟨ve, rfl, hoe, hbe⟩
            have hoe' : Ow we (fun b => WD.heap.size ≤ b) ve 512 lb := hoe
            obtain ⟨Ae, ce, rfl, _, _, hre⟩ := hoe'.reads
            have HBE := Lib.hid (HBD2.out.trans (hbe.mono HBD2.out.size))
            have hcv1 := run_conv _ Ae 512 ce lb we hre
            have hcv2 := run_conv _ Ab nb cb2 lb we (HRB.out.keep (Fr.of_below HBE.out No) fun _ _ hn => hn)
            have hse : seq lb lb = true := by simp [seq]
            clear hoe hoe' hbe hre
            go_wp2_with fail
            refine (HAL.out _).mono ?_
            rintro e wz ⟨rfl, hbz⟩
            have HBZ := Lib.hid (HBE.out.trans (hbz.mono HBE.out.size))
            clear hbz
            go_wp2_with fail
            go_ret
            exact ⟨rfl, HBW.out.trans (HBZ.out.mono HBW.out.size)⟩
      | true =>
        have hep := encode_yes ⟨pk, ps, px, A, n, c, l⟩ w2 (HP.out.below HB2.out) HFP.out hmp
        have hzp := page_dec (HP.out.below HB2.out) hmp
        simp only [PV.agg] at hep
        obtain ⟨Z, hZ⟩ : ∃ Z, Z = encB pk.toNat ps px (⟨pk, ps, px, A, n, c, l⟩ : PV).es := ⟨_, rfl⟩
        rw [← hZ] at hep
        simp only at hzp
        rw [← hZ] at hzp
        have HZ := Lib.hid hZ
        have HEP := Lib.hid hep
        have HZP := Lib.hid (show decOK Z = true ∧ ((decP Z).k : Int) = pk ∧ (decP Z).s = ps ∧ (decP Z).x = px ∧ (decP Z).es = (⟨pk, ps, px, A, n, c, l⟩ : PV).es from ⟨hzp.1, hzp.2.1, hzp.2.2.1, hzp.2.2.2.1, hzp.2.2.2.2.1⟩)
        have HZL := Lib.hid hzp.2.2.2.2.2
        clear hep hzp hZ
        go_wp2_with fail
        refine HEP.out.mono ?_
        rintro e w4 ⟨v4, rfl, ho4, hb4⟩
        have ho4' : Ow w4 (fun b => w2.heap.size ≤ b) v4 512 Z := ho4
        obtain ⟨A4, c4, rfl, hc4, _, hr4⟩ := ho4'.reads
        have HR4 := Lib.hid hr4
        have HC4 := Lib.hid hc4
        have HB4 := Lib.hid (HB2.out.trans (hb4.mono HB2.out.size))
        obtain ⟨y0, y1, y2, y3⟩ := pcs_cells (HBXP.out.below HB4.out HLP.out)
        simp only at y0 y1 y2 y3
        obtain ⟨z0, z1, z2, z3⟩ := pcs_cells (HBXQ.out.below HB4.out HLQ.out)
        simp only at z0 z1 z2 z3
        clear ho4 ho4' hb4 hr4 hc4
        cases hmq : may qk (⟨qk, qs, qx, B, m, cb, lq⟩ : PV).es with
        | false =>
          have HEQ := Lib.hid (encode_no ⟨qk, qs, qx, B, m, cb, lq⟩ w4 (HQ.out.below HB4.out) HFQ.out hmq)
          simp only [PV.agg] at HEQ
          go_wp2_with fail
          refine HEQ.out.mono ?_
          rintro e w5 ⟨rfl, hb5⟩
          have HB45 := Lib.hid hb5
          have HB5 := Lib.hid (HB4.out.trans (hb5.mono HB4.out.size))
          have HXP := Lib.hid (HBXP.out.below HB5.out HLP.out)
          have HXQ := Lib.hid (HBXQ.out.below HB5.out HLQ.out)
          have hma := may_any ⟨pk, ps, px, A, n, c, l⟩ w5.drew ((HP.out.below HB5.out).keep (Fr.refl w5 No).drew (fun _ _ hn => hn) fun _ _ hn => hn) HFP.out
          simp only [PV.agg] at hma
          rw [hmp] at hma
          have HMA := Lib.hid hma
          clear hb5 hma y0 y1 y2 y3 z0 z1 z2 z3
          go_wp2_with fail
          refine wp_region_held_drew (S := fun wx => Fr w5 wx No) (by kernel_rfl) ((Fr.refl w5 _).drew) (fun hS => ?_)
          refine wpAnyH_take (i := 0) (v := ?_) rfl (by kernel_rfl) (by kernel_rfl) (by kernel_rfl) (fun _ _ _ h => h) (Or.inl ⟨by rfl, ?_⟩) hS ?_
          rotate_left
          · (intro wq hSw; go_simp; try with_reducible rfl)
          refine wpAnyH_take (i := 1) (v := ?_) rfl (by kernel_rfl) (by kernel_rfl) (by kernel_rfl) (fun _ _ _ h => h) (Or.inl ⟨by rfl, ?_⟩) hS ?_
          rotate_left
          · (intro wq hSw; go_simp; try with_reducible rfl)
          simp only [List.getElem_toArray, List.getElem_cons_succ, List.getElem_cons_zero, Act.put, List.setIfInBounds_toArray, List.set_cons_succ, List.set_cons_zero]
          refine wpAnyH_take (i := 2) (v := ?_) rfl (by kernel_rfl) (by kernel_rfl) (by kernel_rfl) (fun _ _ _ h => h) (Or.inl ⟨by rfl, ?_⟩) hS ?_
          rotate_left
          · (intro wq hSw; obtain ⟨h0, h1, h2, h3⟩ := pcs_cells (HXP.out.keep hSw fun h => h); simp only at h0 h1 h2 h3; go_simp; try with_reducible rfl)
          simp only [List.getElem_toArray, List.getElem_cons_succ, List.getElem_cons_zero, Act.put, List.setIfInBounds_toArray, List.set_cons_succ, List.set_cons_zero]
          refine wpAnyH_ready (rs := [3]) (by kernel_rfl) (by simp) ?_
          refine AllReadyH.cons rfl (fun K hK => ?_) AllReadyH.nil
          go_simp
          refine HMA.out.mono ?_
          rintro e wm ⟨rfl, hbm⟩
          refine hK.out _ _ ?_ (fun hS => ?_)
          · exact hS.trans (Fr.of_below hbm No) fun _ hn => hn.elim
          clear hK K hbm
          refine wpAnyH_take (i := 4) (v := ?_) rfl (by kernel_rfl) (by kernel_rfl) (by kernel_rfl) (fun _ _ _ h => h) (Or.inl ⟨by rfl, ?_⟩) hS ?_
          rotate_left
          · (intro wq hSw; go_simp; try with_reducible rfl)
          simp only [List.getElem_toArray, List.getElem_cons_succ, List.getElem_cons_zero, Act.put, List.setIfInBounds_toArray, List.set_cons_succ, List.set_cons_zero]
          refine wpAnyH_take (i := 5) (v := ?_) rfl (by kernel_rfl) (by kernel_rfl) (by kernel_rfl) (fun _ _ _ h => h) (Or.inl ⟨by rfl, ?_⟩) hS ?_
          rotate_left
          · (intro wq hSw; go_simp; try with_reducible rfl)
          simp only [List.getElem_toArray, List.getElem_cons_succ, List.getElem_cons_zero, Act.put, List.setIfInBounds_toArray, List.set_cons_succ, List.set_cons_zero]
          refine wpAnyH_take (i := 6) (v := ?_) rfl (by kernel_rfl) (by kernel_rfl) (by kernel_rfl) (fun _ _ _ h => h) (Or.inl ⟨by rfl, ?_⟩) hS ?_
          rotate_left
          · (intro wq hSw; go_simp; try with_reducible rfl)
          simp only [List.getElem_toArray, List.getElem_cons_succ, List.getElem_cons_zero, Act.put, List.setIfInBounds_toArray, List.set_cons_succ, List.set_cons_zero]
          refine wpAnyH_take (i := 7) (v := ?_) rfl (by kernel_rfl) (by kernel_rfl) (by kernel_rfl) (fun _ _ _ h => h) (Or.inl ⟨by rfl, ?_⟩) hS ?_
          rotate_left
          · (intro wq hSw; go_simp; try with_reducible rfl)
          simp only [List.getElem_toArray, List.getElem_cons_succ, List.getElem_cons_zero, Act.put, List.setIfInBounds_toArray, List.set_cons_succ, List.set_cons_zero]
          refine wpAnyH_take (i := 8) (v := ?_) rfl (by kernel_rfl) (by kernel_rfl) (by kernel_rfl) (fun _ _ _ h => h) (Or.inl ⟨by rfl, ?_⟩) hS ?_
          rotate_left
          · (intro wq hSw; go_simp; try with_reducible rfl)
          simp only [List.getElem_toArray, List.getElem_cons_succ, List.getElem_cons_zero, Act.put, List.setIfInBounds_toArray, List.set_cons_succ, List.set_cons_zero]
          refine wpAnyH_take (i := 9) (v := ?_) rfl (by kernel_rfl) (by kernel_rfl) (by kernel_rfl) (fun _ _ _ h => h) (Or.inl ⟨by rfl, ?_⟩) hS ?_
          rotate_left
          · (intro wq hSw; go_simp; try with_reducible rfl)
          simp only [List.getElem_toArray, List.getElem_cons_succ, List.getElem_cons_zero, Act.put, List.setIfInBounds_toArray, List.set_cons_succ, List.set_cons_zero]
          refine wpAnyH_take (i := 10) (v := ?_) rfl (by kernel_rfl) (by kernel_rfl) (by kernel_rfl) (fun _ _ _ h => h) (Or.inl ⟨by rfl, ?_⟩) hS ?_
          rotate_left
          · (intro wq hSw; go_simp; try with_reducible rfl)
          simp only [List.getElem_toArray, List.getElem_cons_succ, List.getElem_cons_zero, Act.put, List.setIfInBounds_toArray, List.set_cons_succ, List.set_cons_zero]
          refine wpAnyH_take (i := 11) (v := ?_) rfl (by kernel_rfl) (by kernel_rfl) (by kernel_rfl) (fun _ _ _ h => h) (Or.inl ⟨by rfl, ?_⟩) hS ?_
          rotate_left
          · (intro wq hSw; go_simp; try with_reducible rfl)
          simp only [List.getElem_toArray, List.getElem_cons_succ, List.getElem_cons_zero, Act.put, List.setIfInBounds_toArray, List.set_cons_succ, List.set_cons_zero]
          refine wpAnyH_take (i := 12) (v := ?_) rfl (by kernel_rfl) (by kernel_rfl) (by kernel_rfl) (fun _ _ _ h => h) (Or.inl ⟨by rfl, ?_⟩) hS ?_
          rotate_left
          · (intro wq hSw; go_simp; try with_reducible rfl)
          simp only [List.getElem_toArray, List.getElem_cons_succ, List.getElem_cons_zero, Act.put, List.setIfInBounds_toArray, List.set_cons_succ, List.set_cons_zero]
          refine wpAnyH_take (i := 13) (v := undef) rfl (by kernel_rfl) (by kernel_rfl) (by kernel_rfl) (fun _ _ _ h => h) (Or.inr ⟨by rfl, rfl⟩) hS ?_
          simp only [List.getElem_toArray, List.getElem_cons_succ, List.getElem_cons_zero, Act.put, List.setIfInBounds_toArray, List.set_cons_succ, List.set_cons_zero]
          refine wpAnyH_take (i := 14) (v := undef) rfl (by kernel_rfl) (by kernel_rfl) (by kernel_rfl) (fun _ _ _ h => h) (Or.inr ⟨by rfl, rfl⟩) hS ?_
          simp only [List.getElem_toArray, List.getElem_cons_succ, List.getElem_cons_zero, Act.put, List.setIfInBounds_toArray, List.set_cons_succ, List.set_cons_zero]
          refine wpAnyH_take (i := 15) (v := undef) rfl (by kernel_rfl) (by kernel_rfl) (by kernel_rfl) (fun _ _ _ h => h) (Or.inr ⟨by rfl, rfl⟩) hS ?_
          simp only [List.getElem_toArray, List.getElem_cons_succ, List.getElem_cons_zero, Act.put, List.setIfInBounds_toArray, List.set_cons_succ, List.set_cons_zero]
          refine wpAnyH_take (i := 16) (v := undef) rfl (by kernel_rfl) (by kernel_rfl) (by kernel_rfl) (fun _ _ _ h => h) (Or.inr ⟨by rfl, rfl⟩) hS ?_
          simp only [List.getElem_toArray, List.getElem_cons_succ, List.getElem_cons_zero, Act.put, List.setIfInBounds_toArray, List.set_cons_succ, List.set_cons_zero]
          refine wpAnyH_take (i := 17) (v := undef) rfl (by kernel_rfl) (by kernel_rfl) (by kernel_rfl) (fun _ _ _ h => h) (Or.inr ⟨by rfl, rfl⟩) hS ?_
          simp only [List.getElem_toArray, List.getElem_cons_succ, List.getElem_cons_zero, Act.put, List.setIfInBounds_toArray, List.set_cons_succ, List.set_cons_zero]
          refine wpAnyH_take (i := 18) (v := undef) rfl (by kernel_rfl) (by kernel_rfl) (by kernel_rfl) (fun _ _ _ h => h) (Or.inr ⟨by rfl, rfl⟩) hS ?_
          simp only [List.getElem_toArray, List.getElem_cons_succ, List.getElem_cons_zero, Act.put, List.setIfInBounds_toArray, List.set_cons_succ, List.set_cons_zero]
          refine wpAnyH_take (i := 19) (v := undef) rfl (by kernel_rfl) (by kernel_rfl) (by kernel_rfl) (fun _ _ _ h => h) (Or.inr ⟨by rfl, rfl⟩) hS ?_
          simp only [List.getElem_toArray, List.getElem_cons_succ, List.getElem_cons_zero, Act.put, List.setIfInBounds_toArray, List.set_cons_succ, List.set_cons_zero]
          refine wpAnyH_take (i := 20) (v := undef) rfl (by kernel_rfl) (by kernel_rfl) (by kernel_rfl) (fun _ _ _ h => h) (Or.inr ⟨by rfl, rfl⟩) hS ?_
          simp only [List.getElem_toArray, List.getElem_cons_succ, List.getElem_cons_zero, Act.put, List.setIfInBounds_toArray, List.set_cons_succ, List.set_cons_zero]
          refine wpAnyH_take (i := 21) (v := undef) rfl (by kernel_rfl) (by kernel_rfl) (by kernel_rfl) (fun _ _ _ h => h) (Or.inr ⟨by rfl, rfl⟩) hS ?_
          simp only [List.getElem_toArray, List.getElem_cons_succ, List.getElem_cons_zero, Act.put, List.setIfInBounds_toArray, List.set_cons_succ, List.set_cons_zero]
          refine wpAnyH_take (i := 22) (v := ?_) rfl (by kernel_rfl) (by kernel_rfl) (by kernel_rfl) (fun _ _ _ h => h) (Or.inl ⟨by rfl, ?_⟩) hS ?_
          rotate_left
          · (intro wq hSw; go_simp; try with_reducible rfl)
          simp only [List.getElem_toArray, List.getElem_cons_succ, List.getElem_cons_zero, Act.put, List.setIfInBounds_toArray, List.set_cons_succ, List.set_cons_zero]
          refine wpAnyH_take (i := 23) (v := ?_) rfl (by kernel_rfl) (by kernel_rfl) (by kernel_rfl) (fun _ _ _ h => h) (Or.inl ⟨by rfl, ?_⟩) hS ?_
          rotate_left
          · (intro wq hSw; go_simp; try with_reducible rfl)
          simp only [List.getElem_toArray, List.getElem_cons_succ, List.getElem_cons_zero, Act.put, List.setIfInBounds_toArray, List.set_cons_succ, List.set_cons_zero]
          refine wpAnyH_done (by kernel_rfl) ?_ _
          have HS9 := Lib.hid (show Fr w5 wm No from hS)
          have HB9 := Lib.hid (HB5.out.trans (HS9.out.no_below.mono HB5.out.size))
          have HB49 := Lib.hid (HB45.out.trans (HS9.out.no_below.mono HB45.out.size))
          clear hS
          have HDX := Lib.hid (decode_any wm A4 512 c4 Z ((HR4.out.keep (Fr.of_below HB49.out No) fun _ _ hn => hn).mono fun _ _ _ => trivial) HC4.out)
          go_wp2_with fail
          with_reducible refine HDX.out.mono ?_
          rintro e wx ⟨x, rfl, S, T, hpo, hS, hT, hbd, hrk, hrs, hrx, hre⟩
          rw [HZP.out.1]
          have HBX := Lib.hid (HB9.out.trans (hbd.mono HB9.out.size))
          obtain ⟨WX, hWX, hBX, hbxx, hszx⟩ := box_page wx x
          have HBX2 := Lib.hid (HBX.out.trans (hBX.mono HBX.out.size))
          have hxi : x.In WX All All := hpo.In.all.below hBX
          have hpx : PV.In WX All All ⟨pk, ps, px, A, n, c, l⟩ := HP.out.below HBX2.out
          have hsame : sameP x ⟨pk, ps, px, A, n, c, l⟩ = true := by
            unfold sameP
            rw [hrk, hrs, hrx, hre, HZP.out.2.1, HZP.out.2.2.1, HZP.out.2.2.2.1, HZP.out.2.2.2.2]
            simp
          have hsa := same_any x ⟨pk, ps, px, A, n, c, l⟩ WX hxi hpx
          rw [hsame] at hsa
          have HSX := Lib.hid hsa
          obtain ⟨y0, y1, y2, y3⟩ := pcs_cells (HBXP.out.below HBX2.out HLP.out)
          simp only at y0 y1 y2 y3
          obtain ⟨t0, t1, t2, t3⟩ := pcs_cells hbxx
          clear hpo hS hT hbd hrk hrs hrx hre hBX hbxx hszx hxi hpx hsame hsa
          obtain ⟨xk, xs, xx, xA, xn, xc, xl⟩ := x
          simp only at hWX t0 t1 t2 t3
          simp only [PV.agg] at HSX
          simp only [PV.agg, if_true]
          go_wp2_with fail
          with_reducible refine HSX.out.mono ?_
          rintro e wy ⟨rfl, hby⟩
          have HBY := Lib.hid (HBX2.out.trans (hby.mono HBX2.out.size))
          clear hby
          have HDB := Lib.hid (decode_any wy Ab nb cb2 lb ((HRB.out.keep (Fr.of_below HBY.out No) fun _ _ hn => hn).mono fun _ _ _ => trivial) HNB.out)
          go_wp2_with fail
          with_reducible refine HDB.out.mono ?_
          rintro e wd ⟨r, rfl, hdec⟩
          have hdec' := hdec
          obtain ⟨S, T, hpo, hS, hT, hbd, hrk, hrs, hrx, hre⟩ := hdec
          have HBD := Lib.hid (HBY.out.trans (hbd.mono HBY.out.size))
          obtain ⟨WD, hWD, hBD, hbxd, hszd⟩ := box_page wd r
          have HBXD := Lib.hid hbxd
          have HBD2 := Lib.hid (HBD.out.trans (hBD.mono HBD.out.size))
          have HRI := Lib.hid (hpo.In.all.below hBD)
          have HRQ := Lib.hid (show r.k = ((decP lb).k : Int) ∧ r.s = (decP lb).s ∧ r.x = (decP lb).x ∧ r.es = (decP lb).es from ⟨hrk, hrs, hrx, hre⟩)
          have HDFEW := Lib.hid (dec_few (HRB.out.lt))
          have HRFEW : Hid (Few r) := Lib.hid (few_of HRI.out (by rw [hre]; exact HDFEW.out.1) (by rw [hre]; exact HDFEW.out.2))
          obtain ⟨d0, d1, d2, d3⟩ := pcs_cells hbxd
          clear hdec' hpo hS hT hbd hrk hrs hrx hre hBD hbxd hszd
          cases hdk : decOK lb with
          | false =>
            obtain ⟨rk, rs, rx, rA, rn, rc, rl⟩ := r
            simp only at hWD d0 d1 d2 d3
            simp only [PV.agg, Bool.false_eq_true, if_false]
            clear hdk
            go_wp2_with fail
            refine (HAL.out _).mono ?_
            rintro e wz ⟨rfl, hbz⟩
            have HBZ := Lib.hid (HBD2.out.trans (hbz.mono HBD2.out.size))
            clear hbz
            go_wp2_with fail
            go_ret
            exact ⟨rfl, HBW.out.trans (HBZ.out.mono HBW.out.size)⟩
          | true =>
            obtain ⟨hbk, hbm⟩ := dec_back HRB.out.lt hdk
            have hrm : may r.k r.es = true := by rw [HRQ.out.1, HRQ.out.2.2.2]; exact hbm
            have hen := encode_yes r WD HRI.out HRFEW.out hrm
            have hz : encB r.k.toNat r.s r.x r.es = lb := by
              rw [HRQ.out.1, HRQ.out.2.1, HRQ.out.2.2.1, HRQ.out.2.2.2, Int.toNat_natCast]
              exact hbk
            rw [hz] at hen
            have HEN := Lib.hid hen
            clear hen hz hrm hbm hbk hdk
            obtain ⟨rk, rs, rx, rA, rn, rc, rl⟩ := r
            simp only at hWD d0 d1 d2 d3
            simp only [PV.agg] at HEN
            simp only [PV.agg, if_true]
            go_wp2_with fail
            refine HEN.out.mono ?_
            rintro e we ⟨ve, rfl, hoe, hbe⟩
            have hoe' : Ow we (fun b => WD.heap.size ≤ b) ve 512 lb := hoe
            obtain ⟨Ae, ce, rfl, _, _, hre⟩ := hoe'.reads
            have HBE := Lib.hid (HBD2.out.trans (hbe.mono HBD2.out.size))
            have hcv1 := run_conv _ Ae 512 ce lb we hre
            have hcv2 := run_conv _ Ab nb cb2 lb we (HRB.out.keep (Fr.of_below HBE.out No) fun _ _ hn => hn)
            have hse : seq lb lb = true := by simp [seq]
            clear hoe hoe' hbe hre
            go_wp2_with fail
            refine (HAL.out _).mono ?_
            rintro e wz ⟨rfl, hbz⟩
            have HBZ := Lib.hid (HBE.out.trans (hbz.mono HBE.out.size))
            clear hbz
            go_wp2_with fail
            go_ret
            exact ⟨rfl, HBW.out.trans (HBZ.out.mono HBW.out.size)⟩
        | true =>
          have heq := encode_yes ⟨qk, qs, qx, B, m, cb, lq⟩ w4 (HQ.out.below HB4.out) HFQ.out hmq
          simp only [PV.agg] at heq
          obtain ⟨Y, hY⟩ : ∃ Y, Y = encB qk.toNat qs qx (⟨qk, qs, qx, B, m, cb, lq⟩ : PV).es := ⟨_, rfl⟩
          rw [← hY] at heq
          have HY := Lib.hid hY
          have HYL := Lib.hid (page_dec (HQ.out.below HB4.out) hmq).2.2.2.2.2
          simp only at HYL
          rw [← hY] at HYL
          have HEQ := Lib.hid heq
          clear heq hY
          go_wp2_with fail
          refine HEQ.out.mono ?_
          rintro e w5 ⟨v5, rfl, ho5, hb5⟩
          have ho5' : Ow w5 (fun b => w4.heap.size ≤ b) v5 512 Y := ho5
          obtain ⟨A5, c5, rfl, hc5, _, hr5⟩ := ho5'.reads
          have HR5 := Lib.hid hr5
          clear ho5 ho5' hr5 hc5
          have HB45 := Lib.hid hb5
          have HB5 := Lib.hid (HB4.out.trans (hb5.mono HB4.out.size))
          have HXP := Lib.hid (HBXP.out.below HB5.out HLP.out)
          have HXQ := Lib.hid (HBXQ.out.below HB5.out HLQ.out)
          have hma := may_any ⟨pk, ps, px, A, n, c, l⟩ w5.drew ((HP.out.below HB5.out).keep (Fr.refl w5 No).drew (fun _ _ hn => hn) fun _ _ hn => hn) HFP.out
          simp only [PV.agg] at hma
          rw [hmp] at hma
          have HMA := Lib.hid hma
          have HR4x := Lib.hid (HR4.out.keep (Fr.of_below HB45.out No) fun _ _ hn => hn)
          obtain ⟨sb, hsb⟩ : ∃ sb, sb = sameP ⟨pk, ps, px, A, n, c, l⟩ ⟨qk, qs, qx, B, m, cb, lq⟩ := ⟨_, rfl⟩
          have hse : seq Z Y = sb := by
            have h := enc_same (HP.out.below HB2.out) (HQ.out.below HB4.out) hmp hmq
            simp only at h
            rw [← HZ.out, ← HY.out] at h
            rw [seq_iff HZL.out HYL.out, hsb]
            exact h
          have HSB := Lib.hid hsb
          clear hsb
          clear hb5 hma y0 y1 y2 y3 z0 z1 z2 z3
          go_wp2_with fail
          refine wp_region_held_drew (S := fun wx => Fr w5 wx No) (by kernel_rfl) ((Fr.refl w5 _).drew) (fun hS => ?_)
          refine wpAnyH_take (i := 0) (v := ?_) rfl (by kernel_rfl) (by kernel_rfl) (by kernel_rfl) (fun _ _ _ h => h) (Or.inl ⟨by rfl, ?_⟩) hS ?_
          rotate_left
          · (intro wq hSw; go_simp; try with_reducible rfl)
          refine wpAnyH_take (i := 1) (v := ?_) rfl (by kernel_rfl) (by kernel_rfl) (by kernel_rfl) (fun _ _ _ h => h) (Or.inl ⟨by rfl, ?_⟩) hS ?_
          rotate_left
          · (intro wq hSw; go_simp; try with_reducible rfl)
          simp only [List.getElem_toArray, List.getElem_cons_succ, List.getElem_cons_zero, Act.put, List.setIfInBounds_toArray, List.set_cons_succ, List.set_cons_zero]
          refine wpAnyH_take (i := 2) (v := ?_) rfl (by kernel_rfl) (by kernel_rfl) (by kernel_rfl) (fun _ _ _ h => h) (Or.inl ⟨by rfl, ?_⟩) hS ?_
          rotate_left
          · (intro wq hSw; obtain ⟨h0, h1, h2, h3⟩ := pcs_cells (HXP.out.keep hSw fun h => h); simp only at h0 h1 h2 h3; go_simp; try with_reducible rfl)
          simp only [List.getElem_toArray, List.getElem_cons_succ, List.getElem_cons_zero, Act.put, List.setIfInBounds_toArray, List.set_cons_succ, List.set_cons_zero]
          refine wpAnyH_ready (rs := [3]) (by kernel_rfl) (by simp) ?_
          refine AllReadyH.cons rfl (fun K hK => ?_) AllReadyH.nil
          go_simp
          refine HMA.out.mono ?_
          rintro e wm ⟨rfl, hbm⟩
          refine hK.out _ _ ?_ (fun hS => ?_)
          · exact hS.trans (Fr.of_below hbm No) fun _ hn => hn.elim
          clear hK K hbm
          refine wpAnyH_take (i := 4) (v := ?_) rfl (by kernel_rfl) (by kernel_rfl) (by kernel_rfl) (fun _ _ _ h => h) (Or.inl ⟨by rfl, ?_⟩) hS ?_
          rotate_left
          · (intro wq hSw; go_simp; try with_reducible rfl)
          simp only [List.getElem_toArray, List.getElem_cons_succ, List.getElem_cons_zero, Act.put, List.setIfInBounds_toArray, List.set_cons_succ, List.set_cons_zero]
          refine wpAnyH_take (i := 5) (v := ?_) rfl (by kernel_rfl) (by kernel_rfl) (by kernel_rfl) (fun _ _ _ h => h) (Or.inl ⟨by rfl, ?_⟩) hS ?_
          rotate_left
          · (intro wq hSw; go_simp; try with_reducible rfl)
          simp only [List.getElem_toArray, List.getElem_cons_succ, List.getElem_cons_zero, Act.put, List.setIfInBounds_toArray, List.set_cons_succ, List.set_cons_zero]
          refine wpAnyH_take (i := 6) (v := ?_) rfl (by kernel_rfl) (by kernel_rfl) (by kernel_rfl) (fun _ _ _ h => h) (Or.inl ⟨by rfl, ?_⟩) hS ?_
          rotate_left
          · (intro wq hSw; go_simp; try with_reducible rfl)
          simp only [List.getElem_toArray, List.getElem_cons_succ, List.getElem_cons_zero, Act.put, List.setIfInBounds_toArray, List.set_cons_succ, List.set_cons_zero]
          refine wpAnyH_take (i := 7) (v := ?_) rfl (by kernel_rfl) (by kernel_rfl) (by kernel_rfl) (fun _ _ _ h => h) (Or.inl ⟨by rfl, ?_⟩) hS ?_
          rotate_left
          · (intro wq hSw; go_simp; try with_reducible rfl)
          simp only [List.getElem_toArray, List.getElem_cons_succ, List.getElem_cons_zero, Act.put, List.setIfInBounds_toArray, List.set_cons_succ, List.set_cons_zero]
          refine wpAnyH_take (i := 8) (v := ?_) rfl (by kernel_rfl) (by kernel_rfl) (by kernel_rfl) (fun _ _ _ h => h) (Or.inl ⟨by rfl, ?_⟩) hS ?_
          rotate_left
          · (intro wq hSw; go_simp; try with_reducible rfl)
          simp only [List.getElem_toArray, List.getElem_cons_succ, List.getElem_cons_zero, Act.put, List.setIfInBounds_toArray, List.set_cons_succ, List.set_cons_zero]
          refine wpAnyH_take (i := 9) (v := ?_) rfl (by kernel_rfl) (by kernel_rfl) (by kernel_rfl) (fun _ _ _ h => h) (Or.inl ⟨by rfl, ?_⟩) hS ?_
          rotate_left
          · (intro wq hSw; go_simp; try with_reducible rfl)
          simp only [List.getElem_toArray, List.getElem_cons_succ, List.getElem_cons_zero, Act.put, List.setIfInBounds_toArray, List.set_cons_succ, List.set_cons_zero]
          refine wpAnyH_take (i := 10) (v := ?_) rfl (by kernel_rfl) (by kernel_rfl) (by kernel_rfl) (fun _ _ _ h => h) (Or.inl ⟨by rfl, ?_⟩) hS ?_
          rotate_left
          · (intro wq hSw; go_simp; try with_reducible rfl)
          simp only [List.getElem_toArray, List.getElem_cons_succ, List.getElem_cons_zero, Act.put, List.setIfInBounds_toArray, List.set_cons_succ, List.set_cons_zero]
          refine wpAnyH_take (i := 11) (v := ?_) rfl (by kernel_rfl) (by kernel_rfl) (by kernel_rfl) (fun _ _ _ h => h) (Or.inl ⟨by rfl, ?_⟩) hS ?_
          rotate_left
          · (intro wq hSw; go_simp; try with_reducible rfl)
          simp only [List.getElem_toArray, List.getElem_cons_succ, List.getElem_cons_zero, Act.put, List.setIfInBounds_toArray, List.set_cons_succ, List.set_cons_zero]
          refine wpAnyH_take (i := 12) (v := ?_) rfl (by kernel_rfl) (by kernel_rfl) (by kernel_rfl) (fun _ _ _ h => h) (Or.inl ⟨by rfl, ?_⟩) hS ?_
          rotate_left
          · (intro wq hSw; go_simp; try with_reducible rfl)
          simp only [List.getElem_toArray, List.getElem_cons_succ, List.getElem_cons_zero, Act.put, List.setIfInBounds_toArray, List.set_cons_succ, List.set_cons_zero]
          refine wpAnyH_take (i := 13) (v := ?_) rfl (by kernel_rfl) (by kernel_rfl) (by kernel_rfl) (fun _ _ _ h => h) (Or.inl ⟨by rfl, ?_⟩) hS ?_
          rotate_left
          · (intro wq hSw; go_simp; try with_reducible rfl)
          simp only [List.getElem_toArray, List.getElem_cons_succ, List.getElem_cons_zero, Act.put, List.setIfInBounds_toArray, List.set_cons_succ, List.set_cons_zero]
          refine wpAnyH_take (i := 14) (v := ?_) rfl (by kernel_rfl) (by kernel_rfl) (by kernel_rfl) (fun _ _ _ h => h) (Or.inl ⟨by rfl, ?_⟩) hS ?_
          rotate_left
          · (intro wq hSw; have hcv := run_conv _ A4 512 c4 Z wq (HR4x.out.keep hSw fun _ _ hn => hn); go_simp; try with_reducible rfl)
          simp only [List.getElem_toArray, List.getElem_cons_succ, List.getElem_cons_zero, Act.put, List.setIfInBounds_toArray, List.set_cons_succ, List.set_cons_zero]
          refine wpAnyH_take (i := 15) (v := ?_) rfl (by kernel_rfl) (by kernel_rfl) (by kernel_rfl) (fun _ _ _ h => h) (Or.inl ⟨by rfl, ?_⟩) hS ?_
          rotate_left
          · (intro wq hSw; go_simp; try with_reducible rfl)
          simp only [List.getElem_toArray, List.getElem_cons_succ, List.getElem_cons_zero, Act.put, List.setIfInBounds_toArray, List.set_cons_succ, List.set_cons_zero]
          refine wpAnyH_take (i := 16) (v := ?_) rfl (by kernel_rfl) (by kernel_rfl) (by kernel_rfl) (fun _ _ _ h => h) (Or.inl ⟨by rfl, ?_⟩) hS ?_
          rotate_left
          · (intro wq hSw; have hcv := run_conv _ A5 512 c5 Y wq (HR5.out.keep hSw fun _ _ hn => hn); go_simp; try with_reducible rfl)
          simp only [List.getElem_toArray, List.getElem_cons_succ, List.getElem_cons_zero, Act.put, List.setIfInBounds_toArray, List.set_cons_succ, List.set_cons_zero]
          refine wpAnyH_take (i := 17) (v := ?_) rfl (by kernel_rfl) (by kernel_rfl) (by kernel_rfl) (fun _ _ _ h => h) (Or.inl ⟨by rfl, ?_⟩) hS ?_
          rotate_left
          · (intro wq hSw; go_simp; try with_reducible rfl)
          simp only [List.getElem_toArray, List.getElem_cons_succ, List.getElem_cons_zero, Act.put, List.setIfInBounds_toArray, List.set_cons_succ, List.set_cons_zero]
          refine wpAnyH_take (i := 18) (v := ?_) rfl (by kernel_rfl) (by kernel_rfl) (by kernel_rfl) (fun _ _ _ h => h) (Or.inl ⟨by rfl, ?_⟩) hS ?_
          rotate_left
          · (intro wq hSw; obtain ⟨h0, h1, h2, h3⟩ := pcs_cells (HXP.out.keep hSw fun h => h); simp only at h0 h1 h2 h3; go_simp; try with_reducible rfl)
          simp only [List.getElem_toArray, List.getElem_cons_succ, List.getElem_cons_zero, Act.put, List.setIfInBounds_toArray, List.set_cons_succ, List.set_cons_zero]
          refine wpAnyH_take (i := 19) (v := ?_) rfl (by kernel_rfl) (by kernel_rfl) (by kernel_rfl) (fun _ _ _ h => h) (Or.inl ⟨by rfl, ?_⟩) hS ?_
          rotate_left
          · (intro wq hSw; obtain ⟨h0, h1, h2, h3⟩ := pcs_cells (HXQ.out.keep hSw fun h => h); simp only at h0 h1 h2 h3; go_simp; try with_reducible rfl)
          simp only [List.getElem_toArray, List.getElem_cons_succ, List.getElem_cons_zero, Act.put, List.setIfInBounds_toArray, List.set_cons_succ, List.set_cons_zero]
          have HSQ := Lib.hid (same_any ⟨pk, ps, px, A, n, c, l⟩ ⟨qk, qs, qx, B, m, cb, lq⟩ _ ((HP.out.below HB5.out).keep hS (fun _ _ hn => hn) fun _ _ hn => hn) ((HQ.out.below HB5.out).keep hS (fun _ _ hn => hn) fun _ _ hn => hn))
          simp only [PV.agg] at HSQ
          rw [← HSB.out] at HSQ
          refine wpAnyH_ready (rs := [20]) (by kernel_rfl) (by simp) ?_
          refine AllReadyH.cons rfl (fun K hK => ?_) AllReadyH.nil
          go_simp
          refine HSQ.out.mono ?_
          rintro e wn ⟨rfl, hbn⟩
          refine hK.out _ _ ?_ (fun hS => ?_)
          · exact hS.trans (Fr.of_below hbn No) fun _ hn => hn.elim
          clear hK K hbn HSQ
          refine wpAnyH_take (i := 21) (v := ?_) rfl (by kernel_rfl) (by kernel_rfl) (by kernel_rfl) (fun _ _ _ h => h) (Or.inl ⟨by rfl, ?_⟩) hS ?_
          rotate_left
          · (intro wq hSw; go_simp; try with_reducible rfl)
          simp only [List.getElem_toArray, List.getElem_cons_succ, List.getElem_cons_zero, Act.put, List.setIfInBounds_toArray, List.set_cons_succ, List.set_cons_zero]
          refine wpAnyH_take (i := 22) (v := ?_) rfl (by kernel_rfl) (by kernel_rfl) (by kernel_rfl) (fun _ _ _ h => h) (Or.inl ⟨by rfl, ?_⟩) hS ?_
          rotate_left
          · (intro wq hSw; go_simp; try with_reducible rfl)
          simp only [List.getElem_toArray, List.getElem_cons_succ, List.getElem_cons_zero, Act.put, List.setIfInBounds_toArray, List.set_cons_succ, List.set_cons_zero]
          refine wpAnyH_take (i := 23) (v := ?_) rfl (by kernel_rfl) (by kernel_rfl) (by kernel_rfl) (fun _ _ _ h => h) (Or.inl ⟨by rfl, ?_⟩) hS ?_
          rotate_left
          · (intro wq hSw; go_simp; try with_reducible rfl)
          simp only [List.getElem_toArray, List.getElem_cons_succ, List.getElem_cons_zero, Act.put, List.setIfInBounds_toArray, List.set_cons_succ, List.set_cons_zero]
          refine wpAnyH_done (by kernel_rfl) ?_ _
          have HS9 := Lib.hid (show Fr w5 wn No from hS)
          have HB9 := Lib.hid (HB5.out.trans (HS9.out.no_below.mono HB5.out.size))
          have HB49 := Lib.hid (HB45.out.trans (HS9.out.no_below.mono HB45.out.size))
          clear hS
          have HDX := Lib.hid (decode_any wn A4 512 c4 Z ((HR4.out.keep (Fr.of_below HB49.out No) fun _ _ hn => hn).mono fun _ _ _ => trivial) HC4.out)
          go_wp2_with fail
          with_reducible refine HDX.out.mono ?_
          rintro e wx ⟨x, rfl, S, T, hpo, hS, hT, hbd, hrk, hrs, hrx, hre⟩
          rw [HZP.out.1]
          have HBX := Lib.hid (HB9.out.trans (hbd.mono HB9.out.size))
          obtain ⟨WX, hWX, hBX, hbxx, hszx⟩ := box_page wx x
          have HBX2 := Lib.hid (HBX.out.trans (hBX.mono HBX.out.size))
          have hxi : x.In WX All All := hpo.In.all.below hBX
          have hpx : PV.In WX All All ⟨pk, ps, px, A, n, c, l⟩ := HP.out.below HBX2.out
          have hsame : sameP x ⟨pk, ps, px, A, n, c, l⟩ = true := by
            unfold sameP
            rw [hrk, hrs, hrx, hre, HZP.out.2.1, HZP.out.2.2.1, HZP.out.2.2.2.1, HZP.out.2.2.2.2]
            simp
          have hsa := same_any x ⟨pk, ps, px, A, n, c, l⟩ WX hxi hpx
          rw [hsame] at hsa
          have HSX := Lib.hid hsa
          obtain ⟨y0, y1, y2, y3⟩ := pcs_cells (HBXP.out.below HBX2.out HLP.out)
          simp only at y0 y1 y2 y3
          obtain ⟨t0, t1, t2, t3⟩ := pcs_cells hbxx
          clear hpo hS hT hbd hrk hrs hrx hre hBX hbxx hszx hxi hpx hsame hsa
          obtain ⟨xk, xs, xx, xA, xn, xc, xl⟩ := x
          simp only at hWX t0 t1 t2 t3
          simp only [PV.agg] at HSX
          simp only [PV.agg, if_true]
          go_wp2_with fail
          with_reducible refine HSX.out.mono ?_
          rintro e wy ⟨rfl, hby⟩
          have HBY := Lib.hid (HBX2.out.trans (hby.mono HBX2.out.size))
          clear hby
          have HDB := Lib.hid (decode_any wy Ab nb cb2 lb ((HRB.out.keep (Fr.of_below HBY.out No) fun _ _ hn => hn).mono fun _ _ _ => trivial) HNB.out)
          go_wp2_with fail
          with_reducible refine HDB.out.mono ?_
          rintro e wd ⟨r, rfl, hdec⟩
          have hdec' := hdec
          obtain ⟨S, T, hpo, hS, hT, hbd, hrk, hrs, hrx, hre⟩ := hdec
          have HBD := Lib.hid (HBY.out.trans (hbd.mono HBY.out.size))
          obtain ⟨WD, hWD, hBD, hbxd, hszd⟩ := box_page wd r
          have HBXD := Lib.hid hbxd
          have HBD2 := Lib.hid (HBD.out.trans (hBD.mono HBD.out.size))
          have HRI := Lib.hid (hpo.In.all.below hBD)
          have HRQ := Lib.hid (show r.k = ((decP lb).k : Int) ∧ r.s = (decP lb).s ∧ r.x = (decP lb).x ∧ r.es = (decP lb).es from ⟨hrk, hrs, hrx, hre⟩)
          have HDFEW := Lib.hid (dec_few (HRB.out.lt))
          have HRFEW : Hid (Few r) := Lib.hid (few_of HRI.out (by rw [hre]; exact HDFEW.out.1) (by rw [hre]; exact HDFEW.out.2))
          obtain ⟨d0, d1, d2, d3⟩ := pcs_cells hbxd
          clear hdec' hpo hS hT hbd hrk hrs hrx hre hBD hbxd hszd
          cases hdk : decOK lb with
          | false =>
            obtain ⟨rk, rs, rx, rA, rn, rc, rl⟩ := r
            simp only at hWD d0 d1 d2 d3
            simp only [PV.agg, Bool.false_eq_true, if_false]
            clear hdk
            go_wp2_with fail
            refine (HAL.out _).mono ?_
            rintro e wz ⟨rfl, hbz⟩
            have HBZ := Lib.hid (HBD2.out.trans (hbz.mono HBD2.out.size))
            clear hbz
            go_wp2_with fail
            go_ret
            exact ⟨rfl, HBW.out.trans (HBZ.out.mono HBW.out.size)⟩
          | true =>
            obtain ⟨hbk, hbm⟩ := dec_back HRB.out.lt hdk
            have hrm : may r.k r.es = true := by rw [HRQ.out.1, HRQ.out.2.2.2]; exact hbm
            have hen := encode_yes r WD HRI.out HRFEW.out hrm
            have hz : encB r.k.toNat r.s r.x r.es = lb := by
              rw [HRQ.out.1, HRQ.out.2.1, HRQ.out.2.2.1, HRQ.out.2.2.2, Int.toNat_natCast]
              exact hbk
            rw [hz] at hen
            have HEN := Lib.hid hen
            clear hen hz hrm hbm hbk hdk
            obtain ⟨rk, rs, rx, rA, rn, rc, rl⟩ := r
            simp only at hWD d0 d1 d2 d3
            simp only [PV.agg] at HEN
            simp only [PV.agg, if_true]
            go_wp2_with fail
            refine HEN.out.mono ?_
            rintro e we ⟨ve, rfl, hoe, hbe⟩
            have hoe' : Ow we (fun b => WD.heap.size ≤ b) ve 512 lb := hoe
            obtain ⟨Ae, ce, rfl, _, _, hre⟩ := hoe'.reads
            have HBE := Lib.hid (HBD2.out.trans (hbe.mono HBD2.out.size))
            have hcv1 := run_conv _ Ae 512 ce lb we hre
            have hcv2 := run_conv _ Ab nb cb2 lb we (HRB.out.keep (Fr.of_below HBE.out No) fun _ _ hn => hn)
            have hse : seq lb lb = true := by simp [seq]
            clear hoe hoe' hbe hre
            go_wp2_with fail
            refine (HAL.out _).mono ?_
            rintro e wz ⟨rfl, hbz⟩
            have HBZ := Lib.hid (HBE.out.trans (hbz.mono HBE.out.size))
            clear hbz
            go_wp2_with fail
            go_ret
            exact ⟨rfl, HBW.out.trans (HBZ.out.mono HBW.out.size)⟩
end Go.Proofs.Ytajmpoanmdgmpaa.pageBack
