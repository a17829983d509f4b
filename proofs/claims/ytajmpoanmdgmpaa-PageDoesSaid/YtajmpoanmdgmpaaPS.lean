/-
  THE WALKS OF Undo both.
-/
import Derived.Test.YtajmpoanmdgmpaaPR
namespace Go.Proofs.Ytajmpoanmdgmpaa
open Go.RowKit

/-- what Undo answers -/
structure UR where
  k : Int
  s : Int
  d : List Nat
  e : Int
def undoR (kd k s : Int) (t m : Nat) (d : List Nat) : UR :=
  if rightP kd k s t m = true ∧ (k = 1 ∨ k = 2) then ⟨if k = 1 then 4 else 3, s, if kd = 2 then d else [], 0⟩ else ⟨0, 0, [], 1⟩
def UO (w : World) (u : UR) (e : Ending) (w' : World) : Prop :=
  ∃ A c, e = .returned (.tuple #[.agg #[.int .i64 u.k, .int .i64 u.s, .int .u32 0, .slice A u.d.length c], .int .i64 u.e]) ∧ Ow w' (fun b => w.heap.size ≤ b) (.slice A u.d.length c) u.d.length u.d ∧ Below w.heap.size w w'
theorem right_kd (kd k s : Int) (t m : Nat) (h : rightP kd k s t m = true) : kd = 1 ∨ kd = 2 := by
  rcases hb : takes kd with _ | _
  · rw [rightP, if_pos hb] at h; cases h
  · unfold takes at hb
    rw [Bool.or_eq_true, beq_iff_eq, beq_iff_eq] at hb
    exact hb
theorem right_two (kd k s : Int) (t m : Nat) (h : rightP kd k s t m = true) (h2 : kd = 2) : s = 0 ∧ m ≤ 180 := by
  rw [rightP, if_pos h2] at h
  split at h
  · cases h
  · split at h
    · cases h
    · split at h
      · cases h
      · split at h
        · cases h
        · split at h
          · rename_i hs
            unfold dataOk at h
            rw [Bool.and_eq_true, decide_eq_true_eq, decide_eq_true_eq] at h
            exact ⟨hs, h.2⟩
          · cases h
set_option maxHeartbeats 4000000 in
set_option maxRecDepth 100000 in
theorem undo_any (kd : Int) (o : OV) (w : World) (h : o.In w All) : Calls Try.prog 33 #[.int .i64 kd, o.agg] w (UO w (undoR kd o.k o.s o.t o.m o.d)) := by
  obtain ⟨W1, hW1, hBW1, hbx1, hsz1⟩ := box_op w o
  obtain ⟨W, hW⟩ : ∃ W, W1.alloc (.cells #[.int .i64 0, .int .i64 0, .int .u32 0, .slice none 0 0] 46) = W := ⟨_, rfl⟩
  have hBW : Below w.heap.size w W := by rw [← hW]; exact hBW1.alloc hBW1.size _
  have hbx : Blk W w.heap.size 46 (ocs o) := by rw [← hW]; exact hbx1.alloc _
  have hbr : Blk W W1.heap.size 46 #[.int .i64 0, .int .i64 0, .int .u32 0, .slice none 0 0] := by rw [← hW]; exact Blk.new W1 46 _
  have hsz : W.heap.size = w.heap.size + 2 := by rw [← hW]; simp [hsz1]
  obtain ⟨y0, y1, y2, y3⟩ := ocs_cells hbx
  have HBW := Lib.hid hBW
  have HBX := Lib.hid hbx
  have HBR := Lib.hid hbr
  have HSZ := Lib.hid hsz
  have HSZ1 := Lib.hid hsz1
  have HR := Lib.hid (right_any kd o W)
  have HIW := Lib.hid h
  have HDL := Lib.hid h.b.len
  obtain ⟨u, hu⟩ : ∃ u, u = undoR kd o.k o.s o.t o.m o.d := ⟨_, rfl⟩
  rw [← hu]
  have HKD := Lib.hid (right_kd kd o.k o.s o.t o.m)
  have HM2 := Lib.hid (right_two kd o.k o.s o.t o.m)
  obtain ⟨k, s, t, A, m, c, d⟩ := o
  simp only at hW1 y0 y1 y2 y3 HR HDL hu HKD HM2
  obtain ⟨r, hr⟩ : ∃ r, r = rightP kd k s t m := ⟨_, rfl⟩
  rw [← hr] at HR HKD HM2
  rw [undoR, ← hr] at hu
  simp only [OV.agg] at HR ⊢
  clear h hBW hbx hbr hsz hBW1 hbx1 hsz1 hr
  cases r with
  | false =>
    have HU : Hid (u = ⟨0, 0, [], 1⟩) := by rw [hu, if_neg (by intro h; cases h.1)]; exact Lib.hid rfl
    clear hu
    go_enter Try.func33, Try.ntmps33
    go_wp2_with fail
    refine HR.out.mono ?_
    rintro e w1 ⟨rfl, hb1⟩
    have hbxw1 := HBX.out.below hb1 (by have := HSZ.out; omega)
    have hbrw1 := HBR.out.below hb1 (by have := HSZ.out; have := HSZ1.out; omega)
    have HZ1 := Lib.hid (show w.heap.size + 2 ≤ w1.heap.size by have := HSZ.out; have := hb1.size; omega)
    have HBw1 : Hid (Below w.heap.size w w1) := HBW.out.trans (hb1.mono HBW.out.size)
    clear hb1
    obtain ⟨xw10, xw11, xw12, xw13⟩ := ocs_cells hbxw1
    simp only at xw10 xw11 xw12 xw13
    have rw10 := hbrw1.cell 0
    have rw1z0 := hbrw1.frozen 0
    have rw11 := hbrw1.cell 1
    have rw1z1 := hbrw1.frozen 1
    have rw12 := hbrw1.cell 2
    have rw1z2 := hbrw1.frozen 2
    have rw13 := hbrw1.cell 3
    have rw1z3 := hbrw1.frozen 3
    simp only [List.getElem?_toArray, List.getElem?_cons_zero, List.getElem?_cons_succ] at rw10 rw11 rw12 rw13
    obtain ⟨G, hG⟩ : ∃ G, (((w1.setCell ⟨W1.heap.size, 0, none⟩ (.int .i64 0)).setCell ⟨W1.heap.size, 1, none⟩ (.int .i64 0)).setCell ⟨W1.heap.size, 2, none⟩ (.int .u32 0)).setCell ⟨W1.heap.size, 3, none⟩ (.slice none 0 0) = G := ⟨_, rfl⟩
    have hbg : Blk G W1.heap.size 46 #[.int .i64 0, .int .i64 0, .int .u32 0, .slice none 0 0] := by rw [← hG]; exact (((hbrw1.set_ 0 _).set_ 1 _).set_ 2 _).set_ 3 _
    have HFG : Hid (Fr w1 G (fun b => b = W1.heap.size)) := by
      rw [← hG]
      exact fr_set (fr_set (fr_set (fr_set (Fr.refl _ _) _ _) _ _) _ _) _ _
    have HBG : Hid (Below w.heap.size w G) := HBw1.out.trans (HFG.out.below (fun b hb => by have := HSZ1.out; omega) HBw1.out.size)
    have g0 := hbg.cell 0
    have g1 := hbg.cell 1
    have g2 := hbg.cell 2
    have g3 := hbg.cell 3
    simp only [List.getElem?_toArray, List.getElem?_cons_zero, List.getElem?_cons_succ] at g0 g1 g2 g3
    clear hbxw1 hbrw1  hbg
    go_wp2_with fail
    refine bodyPost_ret (v := .tuple #[.agg #[.int .i64 0, .int .i64 0, .int .u32 0, .slice none 0 0], .int .i64 1]) (by simp [results, Try.results33, go_sem, g0, g1, g2, g3]) rfl ?_
    exact ⟨none, 0, by rw [HU.out]; rfl, by rw [HU.out]; exact Ow.nil_ _ _, HBG.out⟩
  | true =>
    by_cases hk : k = 1
    · rcases HKD.out rfl with hkd | hkd
      · have HU : Hid (u = ⟨4, s, [], 0⟩) := by rw [hu, if_pos ⟨rfl, Or.inl hk⟩, if_pos hk, if_neg (by omega : ¬ kd = 2)]; exact Lib.hid rfl
        subst hkd
        clear hu
        have k1 : (k == 1) = true := by rw [beq_iff_eq]; exact hk
        have k1n : (k != 1) = false := by rw [bne_eq_false_iff_eq]; exact hk
        have k2 : (k == 2) = false := beq_false_of_ne (by omega)
        have k2n : (k != 2) = true := bne_iff_ne.2 (by omega)
        clear hk
        go_enter Try.func33, Try.ntmps33
        go_wp2_with fail
        refine HR.out.mono ?_
        rintro e w1 ⟨rfl, hb1⟩
        have hbxw1 := HBX.out.below hb1 (by have := HSZ.out; omega)
        have hbrw1 := HBR.out.below hb1 (by have := HSZ.out; have := HSZ1.out; omega)
        have HZ1 := Lib.hid (show w.heap.size + 2 ≤ w1.heap.size by have := HSZ.out; have := hb1.size; omega)
        have HBw1 : Hid (Below w.heap.size w w1) := HBW.out.trans (hb1.mono HBW.out.size)
        clear hb1
        obtain ⟨xw10, xw11, xw12, xw13⟩ := ocs_cells hbxw1
        simp only at xw10 xw11 xw12 xw13
        obtain ⟨V0, hV0⟩ : ∃ V0, w1.alloc (.cells #[.int .i64 0, .int .i64 s, .int .u32 0, .slice none 0 0] 46) = V0 := ⟨_, rfl⟩
        have hDB : Below w1.heap.size w1 V0 := by rw [← hV0]; exact (Below.refl _ _).alloc (Nat.le_refl _) _
        have hbxV0 := hbxw1.below hDB (by have := HZ1.out; omega)
        have hbrV0 := hbrw1.below hDB (by have := HZ1.out; have := HSZ1.out; omega)
        have hbdV0 : Blk V0 w1.heap.size 46 #[.int .i64 0, .int .i64 s, .int .u32 0, .slice none 0 0] := by rw [← hV0]; exact Blk.new w1 46 _
        have HBV0 : Hid (Below w.heap.size w V0) := HBw1.out.trans (hDB.mono HBw1.out.size)
        clear hDB
        have dV00 := hbdV0.cell 0
        have dV0z0 := hbdV0.frozen 0
        have dV01 := hbdV0.cell 1
        have dV0z1 := hbdV0.frozen 1
        have dV02 := hbdV0.cell 2
        have dV0z2 := hbdV0.frozen 2
        have dV03 := hbdV0.cell 3
        have dV0z3 := hbdV0.frozen 3
        simp only [List.getElem?_toArray, List.getElem?_cons_zero, List.getElem?_cons_succ] at dV00 dV01 dV02 dV03
        obtain ⟨xV00, xV01, xV02, xV03⟩ := ocs_cells hbxV0
        simp only at xV00 xV01 xV02 xV03
        clear hbxV0 hbrV0 hbdV0
        subst hV0
        obtain ⟨E, hE⟩ : ∃ E, w1.alloc (.cells #[.int .i64 4, .int .i64 s, .int .u32 0, .slice none 0 0] 46) = E := ⟨_, rfl⟩
        have hDB : Below w1.heap.size w1 E := by rw [← hE]; exact (Below.refl _ _).alloc (Nat.le_refl _) _
        have hbxE := hbxw1.below hDB (by have := HZ1.out; omega)
        have hbrE := hbrw1.below hDB (by have := HZ1.out; have := HSZ1.out; omega)
        have hbdE : Blk E w1.heap.size 46 #[.int .i64 4, .int .i64 s, .int .u32 0, .slice none 0 0] := by rw [← hE]; exact Blk.new w1 46 _
        have HBE : Hid (Below w.heap.size w E) := HBw1.out.trans (hDB.mono HBw1.out.size)
        clear hDB
        have dE0 := hbdE.cell 0
        have dEz0 := hbdE.frozen 0
        have dE1 := hbdE.cell 1
        have dEz1 := hbdE.frozen 1
        have dE2 := hbdE.cell 2
        have dEz2 := hbdE.frozen 2
        have dE3 := hbdE.cell 3
        have dEz3 := hbdE.frozen 3
        simp only [List.getElem?_toArray, List.getElem?_cons_zero, List.getElem?_cons_succ] at dE0 dE1 dE2 dE3
        obtain ⟨xE0, xE1, xE2, xE3⟩ := ocs_cells hbxE
        simp only at xE0 xE1 xE2 xE3
        have rE0 := hbrE.cell 0
        have rEz0 := hbrE.frozen 0
        have rE1 := hbrE.cell 1
        have rEz1 := hbrE.frozen 1
        have rE2 := hbrE.cell 2
        have rEz2 := hbrE.frozen 2
        have rE3 := hbrE.cell 3
        have rEz3 := hbrE.frozen 3
        simp only [List.getElem?_toArray, List.getElem?_cons_zero, List.getElem?_cons_succ] at rE0 rE1 rE2 rE3
        obtain ⟨G, hG⟩ : ∃ G, (((E.setCell ⟨W1.heap.size, 0, none⟩ (.int .i64 4)).setCell ⟨W1.heap.size, 1, none⟩ (.int .i64 s)).setCell ⟨W1.heap.size, 2, none⟩ (.int .u32 0)).setCell ⟨W1.heap.size, 3, none⟩ (.slice none 0 0) = G := ⟨_, rfl⟩
        have hbg : Blk G W1.heap.size 46 #[.int .i64 4, .int .i64 s, .int .u32 0, .slice none 0 0] := by rw [← hG]; exact (((hbrE.set_ 0 _).set_ 1 _).set_ 2 _).set_ 3 _
        have HFG : Hid (Fr E G (fun b => b = W1.heap.size)) := by
          rw [← hG]
          exact fr_set (fr_set (fr_set (fr_set (Fr.refl _ _) _ _) _ _) _ _) _ _
        have HBG : Hid (Below w.heap.size w G) := HBE.out.trans (HFG.out.below (fun b hb => by have := HSZ1.out; omega) HBE.out.size)
        have g0 := hbg.cell 0
        have g1 := hbg.cell 1
        have g2 := hbg.cell 2
        have g3 := hbg.cell 3
        simp only [List.getElem?_toArray, List.getElem?_cons_zero, List.getElem?_cons_succ] at g0 g1 g2 g3
        clear hbxw1 hbrw1 hbxE hbrE hbdE hbg
        subst hE
        go_wp2_with fail
        refine bodyPost_ret (v := .tuple #[.agg #[.int .i64 4, .int .i64 s, .int .u32 0, .slice none 0 0], .int .i64 0]) (by simp [results, Try.results33, go_sem, g0, g1, g2, g3]) rfl ?_
        exact ⟨none, 0, by rw [HU.out]; rfl, by rw [HU.out]; exact Ow.nil_ _ _, HBG.out⟩
      · obtain ⟨hs0, hm⟩ := HM2.out rfl hkd
        have HM := Lib.hid hm
        have HU : Hid (u = ⟨4, 0, d, 0⟩) := by rw [hu, if_pos ⟨rfl, Or.inl hk⟩, if_pos hk, if_pos hkd, hs0]; exact Lib.hid rfl
        subst hkd
        subst hs0
        clear hu hm
        have k1 : (k == 1) = true := by rw [beq_iff_eq]; exact hk
        have k1n : (k != 1) = false := by rw [bne_eq_false_iff_eq]; exact hk
        have k2 : (k == 2) = false := beq_false_of_ne (by omega)
        have k2n : (k != 2) = true := bne_iff_ne.2 (by omega)
        clear hk
        go_enter Try.func33, Try.ntmps33
        go_wp2_with fail
        refine HR.out.mono ?_
        rintro e w1 ⟨rfl, hb1⟩
        have hbxw1 := HBX.out.below hb1 (by have := HSZ.out; omega)
        have hbrw1 := HBR.out.below hb1 (by have := HSZ.out; have := HSZ1.out; omega)
        have HZ1 := Lib.hid (show w.heap.size + 2 ≤ w1.heap.size by have := HSZ.out; have := hb1.size; omega)
        have HBw1 : Hid (Below w.heap.size w w1) := HBW.out.trans (hb1.mono HBW.out.size)
        clear hb1
        obtain ⟨xw10, xw11, xw12, xw13⟩ := ocs_cells hbxw1
        simp only at xw10 xw11 xw12 xw13
        obtain ⟨V0, hV0⟩ : ∃ V0, w1.alloc (.cells #[.int .i64 0, .int .i64 0, .int .u32 0, .slice none 0 0] 46) = V0 := ⟨_, rfl⟩
        have hDB : Below w1.heap.size w1 V0 := by rw [← hV0]; exact (Below.refl _ _).alloc (Nat.le_refl _) _
        have hbxV0 := hbxw1.below hDB (by have := HZ1.out; omega)
        have hbrV0 := hbrw1.below hDB (by have := HZ1.out; have := HSZ1.out; omega)
        have hbdV0 : Blk V0 w1.heap.size 46 #[.int .i64 0, .int .i64 0, .int .u32 0, .slice none 0 0] := by rw [← hV0]; exact Blk.new w1 46 _
        have HBV0 : Hid (Below w.heap.size w V0) := HBw1.out.trans (hDB.mono HBw1.out.size)
        clear hDB
        have dV00 := hbdV0.cell 0
        have dV0z0 := hbdV0.frozen 0
        have dV01 := hbdV0.cell 1
        have dV0z1 := hbdV0.frozen 1
        have dV02 := hbdV0.cell 2
        have dV0z2 := hbdV0.frozen 2
        have dV03 := hbdV0.cell 3
        have dV0z3 := hbdV0.frozen 3
        simp only [List.getElem?_toArray, List.getElem?_cons_zero, List.getElem?_cons_succ] at dV00 dV01 dV02 dV03
        obtain ⟨xV00, xV01, xV02, xV03⟩ := ocs_cells hbxV0
        simp only at xV00 xV01 xV02 xV03
        clear hbxV0 hbrV0 hbdV0
        subst hV0
        obtain ⟨E, hE⟩ : ∃ E, w1.alloc (.cells #[.int .i64 4, .int .i64 0, .int .u32 0, .slice none 0 0] 46) = E := ⟨_, rfl⟩
        have hDB : Below w1.heap.size w1 E := by rw [← hE]; exact (Below.refl _ _).alloc (Nat.le_refl _) _
        have hbxE := hbxw1.below hDB (by have := HZ1.out; omega)
        have hbrE := hbrw1.below hDB (by have := HZ1.out; have := HSZ1.out; omega)
        have hbdE : Blk E w1.heap.size 46 #[.int .i64 4, .int .i64 0, .int .u32 0, .slice none 0 0] := by rw [← hE]; exact Blk.new w1 46 _
        have HBE : Hid (Below w.heap.size w E) := HBw1.out.trans (hDB.mono HBw1.out.size)
        clear hDB
        have dE0 := hbdE.cell 0
        have dEz0 := hbdE.frozen 0
        have dE1 := hbdE.cell 1
        have dEz1 := hbdE.frozen 1
        have dE2 := hbdE.cell 2
        have dEz2 := hbdE.frozen 2
        have dE3 := hbdE.cell 3
        have dEz3 := hbdE.frozen 3
        simp only [List.getElem?_toArray, List.getElem?_cons_zero, List.getElem?_cons_succ] at dE0 dE1 dE2 dE3
        obtain ⟨xE0, xE1, xE2, xE3⟩ := ocs_cells hbxE
        simp only at xE0 xE1 xE2 xE3
        have HCL := Lib.hid (clone_any E All A m c d (HIW.out.b.keep (Fr.of_below HBE.out No) fun _ _ hn => hn) (by have := HM.out; omega))
        have HBXE := Lib.hid hbxE
        have HBRE := Lib.hid hbrE
        have HBDE := Lib.hid hbdE
        clear hbxw1 hbrw1 hbxE hbrE hbdE
        subst hE
        go_wp2_with fail
        with_reducible refine HCL.out.mono ?_
        rintro e w2 ⟨v2, rfl, hnew, hb2⟩
        obtain ⟨A2, c2, rfl, hmc2, hnz2, _⟩ := Ow.reads hnew
        rw [HDL.out] at hnew
        rw [HDL.out]
        have HNEW := Lib.hid hnew
        have hbxw2 := (HBXE.out).below hb2 (HBXE.out).lt
        have hbrw2 := (HBRE.out).below hb2 (HBRE.out).lt
        have hbdw2 := (HBDE.out).below hb2 (HBDE.out).lt
        have HLT := Lib.hid (HBDE.out).lt
        have HBw2 : Hid (Below w.heap.size w w2) := HBE.out.trans (hb2.mono HBE.out.size)
        clear hnew hb2 hmc2 hnz2
        have dw20 := hbdw2.cell 0
        have dw2z0 := hbdw2.frozen 0
        have dw21 := hbdw2.cell 1
        have dw2z1 := hbdw2.frozen 1
        have dw22 := hbdw2.cell 2
        have dw2z2 := hbdw2.frozen 2
        have dw23 := hbdw2.cell 3
        have dw2z3 := hbdw2.frozen 3
        simp only [List.getElem?_toArray, List.getElem?_cons_zero, List.getElem?_cons_succ] at dw20 dw21 dw22 dw23
        obtain ⟨xw20, xw21, xw22, xw23⟩ := ocs_cells hbxw2
        simp only at xw20 xw21 xw22 xw23
        obtain ⟨F, hF⟩ : ∃ F, w2.setCell ⟨w1.heap.size, 3, none⟩ (.slice A2 m c2) = F := ⟨_, rfl⟩
        have hbdF : Blk F w1.heap.size 46 #[.int .i64 4, .int .i64 0, .int .u32 0, .slice A2 m c2] := by rw [← hF]; exact hbdw2.set_ 3 _
        have hbxF : Blk F w.heap.size 46 (ocs ⟨k, 0, t, A, m, c, d⟩) := by rw [← hF]; exact hbxw2.far (by have := HZ1.out; simp only; omega) _
        have hbrF : Blk F W1.heap.size 46 #[.int .i64 0, .int .i64 0, .int .u32 0, .slice none 0 0] := by rw [← hF]; exact hbrw2.far (by have := HZ1.out; have := HSZ1.out; simp only; omega) _
        have HBF : Hid (Below w.heap.size w F) := by rw [← hF]; exact HBw2.out.setCell (p := ⟨w1.heap.size, 3, none⟩) (by have := HZ1.out; simp only; omega) _
        have HFF : Hid (Fr w2 F (fun b => b = w1.heap.size)) := by rw [← hF]; exact fr_set (Fr.refl _ _) _ _
        have dF0 := hbdF.cell 0
        have dFz0 := hbdF.frozen 0
        have dF1 := hbdF.cell 1
        have dFz1 := hbdF.frozen 1
        have dF2 := hbdF.cell 2
        have dFz2 := hbdF.frozen 2
        have dF3 := hbdF.cell 3
        have dFz3 := hbdF.frozen 3
        simp only [List.getElem?_toArray, List.getElem?_cons_zero, List.getElem?_cons_succ] at dF0 dF1 dF2 dF3
        obtain ⟨xF0, xF1, xF2, xF3⟩ := ocs_cells hbxF
        simp only at xF0 xF1 xF2 xF3
        have rF0 := hbrF.cell 0
        have rFz0 := hbrF.frozen 0
        have rF1 := hbrF.cell 1
        have rFz1 := hbrF.frozen 1
        have rF2 := hbrF.cell 2
        have rFz2 := hbrF.frozen 2
        have rF3 := hbrF.cell 3
        have rFz3 := hbrF.frozen 3
        simp only [List.getElem?_toArray, List.getElem?_cons_zero, List.getElem?_cons_succ] at rF0 rF1 rF2 rF3
        obtain ⟨G, hG⟩ : ∃ G, (((F.setCell ⟨W1.heap.size, 0, none⟩ (.int .i64 4)).setCell ⟨W1.heap.size, 1, none⟩ (.int .i64 0)).setCell ⟨W1.heap.size, 2, none⟩ (.int .u32 0)).setCell ⟨W1.heap.size, 3, none⟩ (.slice A2 m c2) = G := ⟨_, rfl⟩
        have hbg : Blk G W1.heap.size 46 #[.int .i64 4, .int .i64 0, .int .u32 0, .slice A2 m c2] := by rw [← hG]; exact (((hbrF.set_ 0 _).set_ 1 _).set_ 2 _).set_ 3 _
        have HFG : Hid (Fr F G (fun b => b = W1.heap.size)) := by
          rw [← hG]
          exact fr_set (fr_set (fr_set (fr_set (Fr.refl _ _) _ _) _ _) _ _) _ _
        have HBG : Hid (Below w.heap.size w G) := HBF.out.trans (HFG.out.below (fun b hb => by have := HSZ1.out; omega) HBF.out.size)
        have g0 := hbg.cell 0
        have g1 := hbg.cell 1
        have g2 := hbg.cell 2
        have g3 := hbg.cell 3
        simp only [List.getElem?_toArray, List.getElem?_cons_zero, List.getElem?_cons_succ] at g0 g1 g2 g3
        clear hbxw2 hbrw2 hbxF hbrF hbdw2 hbdF hbg
        go_wp2_with fail
        refine bodyPost_ret (v := .tuple #[.agg #[.int .i64 4, .int .i64 0, .int .u32 0, .slice A2 m c2], .int .i64 0]) (by simp [results, Try.results33, go_sem, g0, g1, g2, g3]) rfl ?_
        have hf : Fr w2 G (fun b => b = w1.heap.size ∨ b = W1.heap.size) := (HFF.out.mono fun _ _ h => Or.inl h).trans HFG.out fun _ h => Or.inl (Or.inr h)
        have hdl := HDL.out
        refine ⟨A2, c2, by rw [HU.out]; simp only [hdl], ?_, HBG.out⟩
        rw [HU.out]
        simp only [hdl]
        refine (HNEW.out.keep hf fun b hb hn => ?_).mono fun b _ hb => ?_
        · have := HLT.out; have := HZ1.out; have := HSZ1.out; omega
        · have := HLT.out; have := HZ1.out; omega
    · by_cases hk2 : k = 2
      · have hk := hk2
        clear hk2
        rcases HKD.out rfl with hkd | hkd
        · have HU : Hid (u = ⟨3, s, [], 0⟩) := by rw [hu, if_pos ⟨rfl, Or.inr hk⟩, if_neg (by omega : ¬ k = 1), if_neg (by omega : ¬ kd = 2)]; exact Lib.hid rfl
          subst hkd
          clear hu
          have k1 : (k == 1) = false := beq_false_of_ne (by omega)
          have k1n : (k != 1) = true := bne_iff_ne.2 (by omega)
          have k2 : (k == 2) = true := by rw [beq_iff_eq]; exact hk
          have k2n : (k != 2) = false := by rw [bne_eq_false_iff_eq]; exact hk
          clear hk
          go_enter Try.func33, Try.ntmps33
          go_wp2_with fail
          refine HR.out.mono ?_
          rintro e w1 ⟨rfl, hb1⟩
          have hbxw1 := HBX.out.below hb1 (by have := HSZ.out; omega)
          have hbrw1 := HBR.out.below hb1 (by have := HSZ.out; have := HSZ1.out; omega)
          have HZ1 := Lib.hid (show w.heap.size + 2 ≤ w1.heap.size by have := HSZ.out; have := hb1.size; omega)
          have HBw1 : Hid (Below w.heap.size w w1) := HBW.out.trans (hb1.mono HBW.out.size)
          clear hb1
          obtain ⟨xw10, xw11, xw12, xw13⟩ := ocs_cells hbxw1
          simp only at xw10 xw11 xw12 xw13
          obtain ⟨V0, hV0⟩ : ∃ V0, w1.alloc (.cells #[.int .i64 0, .int .i64 s, .int .u32 0, .slice none 0 0] 46) = V0 := ⟨_, rfl⟩
          have hDB : Below w1.heap.size w1 V0 := by rw [← hV0]; exact (Below.refl _ _).alloc (Nat.le_refl _) _
          have hbxV0 := hbxw1.below hDB (by have := HZ1.out; omega)
          have hbrV0 := hbrw1.below hDB (by have := HZ1.out; have := HSZ1.out; omega)
          have hbdV0 : Blk V0 w1.heap.size 46 #[.int .i64 0, .int .i64 s, .int .u32 0, .slice none 0 0] := by rw [← hV0]; exact Blk.new w1 46 _
          have HBV0 : Hid (Below w.heap.size w V0) := HBw1.out.trans (hDB.mono HBw1.out.size)
          clear hDB
          have dV00 := hbdV0.cell 0
          have dV0z0 := hbdV0.frozen 0
          have dV01 := hbdV0.cell 1
          have dV0z1 := hbdV0.frozen 1
          have dV02 := hbdV0.cell 2
          have dV0z2 := hbdV0.frozen 2
          have dV03 := hbdV0.cell 3
          have dV0z3 := hbdV0.frozen 3
          simp only [List.getElem?_toArray, List.getElem?_cons_zero, List.getElem?_cons_succ] at dV00 dV01 dV02 dV03
          obtain ⟨xV00, xV01, xV02, xV03⟩ := ocs_cells hbxV0
          simp only at xV00 xV01 xV02 xV03
          clear hbxV0 hbrV0 hbdV0
          subst hV0
          obtain ⟨E, hE⟩ : ∃ E, w1.alloc (.cells #[.int .i64 3, .int .i64 s, .int .u32 0, .slice none 0 0] 46) = E := ⟨_, rfl⟩
          have hDB : Below w1.heap.size w1 E := by rw [← hE]; exact (Below.refl _ _).alloc (Nat.le_refl _) _
          have hbxE := hbxw1.below hDB (by have := HZ1.out; omega)
          have hbrE := hbrw1.below hDB (by have := HZ1.out; have := HSZ1.out; omega)
          have hbdE : Blk E w1.heap.size 46 #[.int .i64 3, .int .i64 s, .int .u32 0, .slice none 0 0] := by rw [← hE]; exact Blk.new w1 46 _
          have HBE : Hid (Below w.heap.size w E) := HBw1.out.trans (hDB.mono HBw1.out.size)
          clear hDB
          have dE0 := hbdE.cell 0
          have dEz0 := hbdE.frozen 0
          have dE1 := hbdE.cell 1
          have dEz1 := hbdE.frozen 1
          have dE2 := hbdE.cell 2
          have dEz2 := hbdE.frozen 2
          have dE3 := hbdE.cell 3
          have dEz3 := hbdE.frozen 3
          simp only [List.getElem?_toArray, List.getElem?_cons_zero, List.getElem?_cons_succ] at dE0 dE1 dE2 dE3
          obtain ⟨xE0, xE1, xE2, xE3⟩ := ocs_cells hbxE
          simp only at xE0 xE1 xE2 xE3
          have rE0 := hbrE.cell 0
          have rEz0 := hbrE.frozen 0
          have rE1 := hbrE.cell 1
          have rEz1 := hbrE.frozen 1
          have rE2 := hbrE.cell 2
          have rEz2 := hbrE.frozen 2
          have rE3 := hbrE.cell 3
          have rEz3 := hbrE.frozen 3
          simp only [List.getElem?_toArray, List.getElem?_cons_zero, List.getElem?_cons_succ] at rE0 rE1 rE2 rE3
          obtain ⟨G, hG⟩ : ∃ G, (((E.setCell ⟨W1.heap.size, 0, none⟩ (.int .i64 3)).setCell ⟨W1.heap.size, 1, none⟩ (.int .i64 s)).setCell ⟨W1.heap.size, 2, none⟩ (.int .u32 0)).setCell ⟨W1.heap.size, 3, none⟩ (.slice none 0 0) = G := ⟨_, rfl⟩
          have hbg : Blk G W1.heap.size 46 #[.int .i64 3, .int .i64 s, .int .u32 0, .slice none 0 0] := by rw [← hG]; exact (((hbrE.set_ 0 _).set_ 1 _).set_ 2 _).set_ 3 _
          have HFG : Hid (Fr E G (fun b => b = W1.heap.size)) := by
            rw [← hG]
            exact fr_set (fr_set (fr_set (fr_set (Fr.refl _ _) _ _) _ _) _ _) _ _
          have HBG : Hid (Below w.heap.size w G) := HBE.out.trans (HFG.out.below (fun b hb => by have := HSZ1.out; omega) HBE.out.size)
          have g0 := hbg.cell 0
          have g1 := hbg.cell 1
          have g2 := hbg.cell 2
          have g3 := hbg.cell 3
          simp only [List.getElem?_toArray, List.getElem?_cons_zero, List.getElem?_cons_succ] at g0 g1 g2 g3
          clear hbxw1 hbrw1 hbxE hbrE hbdE hbg
          subst hE
          go_wp2_with fail
          refine bodyPost_ret (v := .tuple #[.agg #[.int .i64 3, .int .i64 s, .int .u32 0, .slice none 0 0], .int .i64 0]) (by simp [results, Try.results33, go_sem, g0, g1, g2, g3]) rfl ?_
          exact ⟨none, 0, by rw [HU.out]; rfl, by rw [HU.out]; exact Ow.nil_ _ _, HBG.out⟩
        · obtain ⟨hs0, hm⟩ := HM2.out rfl hkd
          have HM := Lib.hid hm
          have HU : Hid (u = ⟨3, 0, d, 0⟩) := by rw [hu, if_pos ⟨rfl, Or.inr hk⟩, if_neg (by omega : ¬ k = 1), if_pos hkd, hs0]; exact Lib.hid rfl
          subst hkd
          subst hs0
          clear hu hm
          have k1 : (k == 1) = false := beq_false_of_ne (by omega)
          have k1n : (k != 1) = true := bne_iff_ne.2 (by omega)
          have k2 : (k == 2) = true := by rw [beq_iff_eq]; exact hk
          have k2n : (k != 2) = false := by rw [bne_eq_false_iff_eq]; exact hk
          clear hk
          go_enter Try.func33, Try.ntmps33
          go_wp2_with fail
          refine HR.out.mono ?_
          rintro e w1 ⟨rfl, hb1⟩
          have hbxw1 := HBX.out.below hb1 (by have := HSZ.out; omega)
          have hbrw1 := HBR.out.below hb1 (by have := HSZ.out; have := HSZ1.out; omega)
          have HZ1 := Lib.hid (show w.heap.size + 2 ≤ w1.heap.size by have := HSZ.out; have := hb1.size; omega)
          have HBw1 : Hid (Below w.heap.size w w1) := HBW.out.trans (hb1.mono HBW.out.size)
          clear hb1
          obtain ⟨xw10, xw11, xw12, xw13⟩ := ocs_cells hbxw1
          simp only at xw10 xw11 xw12 xw13
          obtain ⟨V0, hV0⟩ : ∃ V0, w1.alloc (.cells #[.int .i64 0, .int .i64 0, .int .u32 0, .slice none 0 0] 46) = V0 := ⟨_, rfl⟩
          have hDB : Below w1.heap.size w1 V0 := by rw [← hV0]; exact (Below.refl _ _).alloc (Nat.le_refl _) _
          have hbxV0 := hbxw1.below hDB (by have := HZ1.out; omega)
          have hbrV0 := hbrw1.below hDB (by have := HZ1.out; have := HSZ1.out; omega)
          have hbdV0 : Blk V0 w1.heap.size 46 #[.int .i64 0, .int .i64 0, .int .u32 0, .slice none 0 0] := by rw [← hV0]; exact Blk.new w1 46 _
          have HBV0 : Hid (Below w.heap.size w V0) := HBw1.out.trans (hDB.mono HBw1.out.size)
          clear hDB
          have dV00 := hbdV0.cell 0
          have dV0z0 := hbdV0.frozen 0
          have dV01 := hbdV0.cell 1
          have dV0z1 := hbdV0.frozen 1
          have dV02 := hbdV0.cell 2
          have dV0z2 := hbdV0.frozen 2
          have dV03 := hbdV0.cell 3
          have dV0z3 := hbdV0.frozen 3
          simp only [List.getElem?_toArray, List.getElem?_cons_zero, List.getElem?_cons_succ] at dV00 dV01 dV02 dV03
          obtain ⟨xV00, xV01, xV02, xV03⟩ := ocs_cells hbxV0
          simp only at xV00 xV01 xV02 xV03
          clear hbxV0 hbrV0 hbdV0
          subst hV0
          obtain ⟨E, hE⟩ : ∃ E, w1.alloc (.cells #[.int .i64 3, .int .i64 0, .int .u32 0, .slice none 0 0] 46) = E := ⟨_, rfl⟩
          have hDB : Below w1.heap.size w1 E := by rw [← hE]; exact (Below.refl _ _).alloc (Nat.le_refl _) _
          have hbxE := hbxw1.below hDB (by have := HZ1.out; omega)
          have hbrE := hbrw1.below hDB (by have := HZ1.out; have := HSZ1.out; omega)
          have hbdE : Blk E w1.heap.size 46 #[.int .i64 3, .int .i64 0, .int .u32 0, .slice none 0 0] := by rw [← hE]; exact Blk.new w1 46 _
          have HBE : Hid (Below w.heap.size w E) := HBw1.out.trans (hDB.mono HBw1.out.size)
          clear hDB
          have dE0 := hbdE.cell 0
          have dEz0 := hbdE.frozen 0
          have dE1 := hbdE.cell 1
          have dEz1 := hbdE.frozen 1
          have dE2 := hbdE.cell 2
          have dEz2 := hbdE.frozen 2
          have dE3 := hbdE.cell 3
          have dEz3 := hbdE.frozen 3
          simp only [List.getElem?_toArray, List.getElem?_cons_zero, List.getElem?_cons_succ] at dE0 dE1 dE2 dE3
          obtain ⟨xE0, xE1, xE2, xE3⟩ := ocs_cells hbxE
          simp only at xE0 xE1 xE2 xE3
          have HCL := Lib.hid (clone_any E All A m c d (HIW.out.b.keep (Fr.of_below HBE.out No) fun _ _ hn => hn) (by have := HM.out; omega))
          have HBXE := Lib.hid hbxE
          have HBRE := Lib.hid hbrE
          have HBDE := Lib.hid hbdE
          clear hbxw1 hbrw1 hbxE hbrE hbdE
          subst hE
          go_wp2_with fail
          with_reducible refine HCL.out.mono ?_
          rintro e w2 ⟨v2, rfl, hnew, hb2⟩
          obtain ⟨A2, c2, rfl, hmc2, hnz2, _⟩ := Ow.reads hnew
          rw [HDL.out] at hnew
          rw [HDL.out]
          have HNEW := Lib.hid hnew
          have hbxw2 := (HBXE.out).below hb2 (HBXE.out).lt
          have hbrw2 := (HBRE.out).below hb2 (HBRE.out).lt
          have hbdw2 := (HBDE.out).below hb2 (HBDE.out).lt
          have HLT := Lib.hid (HBDE.out).lt
          have HBw2 : Hid (Below w.heap.size w w2) := HBE.out.trans (hb2.mono HBE.out.size)
          clear hnew hb2 hmc2 hnz2
          have dw20 := hbdw2.cell 0
          have dw2z0 := hbdw2.frozen 0
          have dw21 := hbdw2.cell 1
          have dw2z1 := hbdw2.frozen 1
          have dw22 := hbdw2.cell 2
          have dw2z2 := hbdw2.frozen 2
          have dw23 := hbdw2.cell 3
          have dw2z3 := hbdw2.frozen 3
          simp only [List.getElem?_toArray, List.getElem?_cons_zero, List.getElem?_cons_succ] at dw20 dw21 dw22 dw23
          obtain ⟨xw20, xw21, xw22, xw23⟩ := ocs_cells hbxw2
          simp only at xw20 xw21 xw22 xw23
          obtain ⟨F, hF⟩ : ∃ F, w2.setCell ⟨w1.heap.size, 3, none⟩ (.slice A2 m c2) = F := ⟨_, rfl⟩
          have hbdF : Blk F w1.heap.size 46 #[.int .i64 3, .int .i64 0, .int .u32 0, .slice A2 m c2] := by rw [← hF]; exact hbdw2.set_ 3 _
          have hbxF : Blk F w.heap.size 46 (ocs ⟨k, 0, t, A, m, c, d⟩) := by rw [← hF]; exact hbxw2.far (by have := HZ1.out; simp only; omega) _
          have hbrF : Blk F W1.heap.size 46 #[.int .i64 0, .int .i64 0, .int .u32 0, .slice none 0 0] := by rw [← hF]; exact hbrw2.far (by have := HZ1.out; have := HSZ1.out; simp only; omega) _
          have HBF : Hid (Below w.heap.size w F) := by rw [← hF]; exact HBw2.out.setCell (p := ⟨w1.heap.size, 3, none⟩) (by have := HZ1.out; simp only; omega) _
          have HFF : Hid (Fr w2 F (fun b => b = w1.heap.size)) := by rw [← hF]; exact fr_set (Fr.refl _ _) _ _
          have dF0 := hbdF.cell 0
          have dFz0 := hbdF.frozen 0
          have dF1 := hbdF.cell 1
          have dFz1 := hbdF.frozen 1
          have dF2 := hbdF.cell 2
          have dFz2 := hbdF.frozen 2
          have dF3 := hbdF.cell 3
          have dFz3 := hbdF.frozen 3
          simp only [List.getElem?_toArray, List.getElem?_cons_zero, List.getElem?_cons_succ] at dF0 dF1 dF2 dF3
          obtain ⟨xF0, xF1, xF2, xF3⟩ := ocs_cells hbxF
          simp only at xF0 xF1 xF2 xF3
          have rF0 := hbrF.cell 0
          have rFz0 := hbrF.frozen 0
          have rF1 := hbrF.cell 1
          have rFz1 := hbrF.frozen 1
          have rF2 := hbrF.cell 2
          have rFz2 := hbrF.frozen 2
          have rF3 := hbrF.cell 3
          have rFz3 := hbrF.frozen 3
          simp only [List.getElem?_toArray, List.getElem?_cons_zero, List.getElem?_cons_succ] at rF0 rF1 rF2 rF3
          obtain ⟨G, hG⟩ : ∃ G, (((F.setCell ⟨W1.heap.size, 0, none⟩ (.int .i64 3)).setCell ⟨W1.heap.size, 1, none⟩ (.int .i64 0)).setCell ⟨W1.heap.size, 2, none⟩ (.int .u32 0)).setCell ⟨W1.heap.size, 3, none⟩ (.slice A2 m c2) = G := ⟨_, rfl⟩
          have hbg : Blk G W1.heap.size 46 #[.int .i64 3, .int .i64 0, .int .u32 0, .slice A2 m c2] := by rw [← hG]; exact (((hbrF.set_ 0 _).set_ 1 _).set_ 2 _).set_ 3 _
          have HFG : Hid (Fr F G (fun b => b = W1.heap.size)) := by
            rw [← hG]
            exact fr_set (fr_set (fr_set (fr_set (Fr.refl _ _) _ _) _ _) _ _) _ _
          have HBG : Hid (Below w.heap.size w G) := HBF.out.trans (HFG.out.below (fun b hb => by have := HSZ1.out; omega) HBF.out.size)
          have g0 := hbg.cell 0
          have g1 := hbg.cell 1
          have g2 := hbg.cell 2
          have g3 := hbg.cell 3
          simp only [List.getElem?_toArray, List.getElem?_cons_zero, List.getElem?_cons_succ] at g0 g1 g2 g3
          clear hbxw2 hbrw2 hbxF hbrF hbdw2 hbdF hbg
          go_wp2_with fail
          refine bodyPost_ret (v := .tuple #[.agg #[.int .i64 3, .int .i64 0, .int .u32 0, .slice A2 m c2], .int .i64 0]) (by simp [results, Try.results33, go_sem, g0, g1, g2, g3]) rfl ?_
          have hf : Fr w2 G (fun b => b = w1.heap.size ∨ b = W1.heap.size) := (HFF.out.mono fun _ _ h => Or.inl h).trans HFG.out fun _ h => Or.inl (Or.inr h)
          have hdl := HDL.out
          refine ⟨A2, c2, by rw [HU.out]; simp only [hdl], ?_, HBG.out⟩
          rw [HU.out]
          simp only [hdl]
          refine (HNEW.out.keep hf fun b hb hn => ?_).mono fun b _ hb => ?_
          · have := HLT.out; have := HZ1.out; have := HSZ1.out; omega
          · have := HLT.out; have := HZ1.out; omega
      · have hk1 := hk
        have HU : Hid (u = ⟨0, 0, [], 1⟩) := by rw [hu, if_neg (by intro h; exact h.2.elim hk1 hk2)]; exact Lib.hid rfl
        clear hu
        have k1 : (k == 1) = false := beq_false_of_ne hk1
        have k1n : (k != 1) = true := bne_iff_ne.2 hk1
        have k2 : (k == 2) = false := beq_false_of_ne hk2
        have k2n : (k != 2) = true := bne_iff_ne.2 hk2
        clear hk hk1 hk2
        go_enter Try.func33, Try.ntmps33
        go_wp2_with fail
        refine HR.out.mono ?_
        rintro e w1 ⟨rfl, hb1⟩
        have hbxw1 := HBX.out.below hb1 (by have := HSZ.out; omega)
        have hbrw1 := HBR.out.below hb1 (by have := HSZ.out; have := HSZ1.out; omega)
        have HZ1 := Lib.hid (show w.heap.size + 2 ≤ w1.heap.size by have := HSZ.out; have := hb1.size; omega)
        have HBw1 : Hid (Below w.heap.size w w1) := HBW.out.trans (hb1.mono HBW.out.size)
        clear hb1
        obtain ⟨xw10, xw11, xw12, xw13⟩ := ocs_cells hbxw1
        simp only at xw10 xw11 xw12 xw13
        obtain ⟨E, hE⟩ : ∃ E, w1.alloc (.cells #[.int .i64 0, .int .i64 s, .int .u32 0, .slice none 0 0] 46) = E := ⟨_, rfl⟩
        have hDB : Below w1.heap.size w1 E := by rw [← hE]; exact (Below.refl _ _).alloc (Nat.le_refl _) _
        have hbxE := hbxw1.below hDB (by have := HZ1.out; omega)
        have hbrE := hbrw1.below hDB (by have := HZ1.out; have := HSZ1.out; omega)
        have hbdE : Blk E w1.heap.size 46 #[.int .i64 0, .int .i64 s, .int .u32 0, .slice none 0 0] := by rw [← hE]; exact Blk.new w1 46 _
        have HBE : Hid (Below w.heap.size w E) := HBw1.out.trans (hDB.mono HBw1.out.size)
        clear hDB
        have dE0 := hbdE.cell 0
        have dEz0 := hbdE.frozen 0
        have dE1 := hbdE.cell 1
        have dEz1 := hbdE.frozen 1
        have dE2 := hbdE.cell 2
        have dEz2 := hbdE.frozen 2
        have dE3 := hbdE.cell 3
        have dEz3 := hbdE.frozen 3
        simp only [List.getElem?_toArray, List.getElem?_cons_zero, List.getElem?_cons_succ] at dE0 dE1 dE2 dE3
        obtain ⟨xE0, xE1, xE2, xE3⟩ := ocs_cells hbxE
        simp only at xE0 xE1 xE2 xE3
        have rE0 := hbrE.cell 0
        have rEz0 := hbrE.frozen 0
        have rE1 := hbrE.cell 1
        have rEz1 := hbrE.frozen 1
        have rE2 := hbrE.cell 2
        have rEz2 := hbrE.frozen 2
        have rE3 := hbrE.cell 3
        have rEz3 := hbrE.frozen 3
        simp only [List.getElem?_toArray, List.getElem?_cons_zero, List.getElem?_cons_succ] at rE0 rE1 rE2 rE3
        obtain ⟨G, hG⟩ : ∃ G, (((E.setCell ⟨W1.heap.size, 0, none⟩ (.int .i64 0)).setCell ⟨W1.heap.size, 1, none⟩ (.int .i64 0)).setCell ⟨W1.heap.size, 2, none⟩ (.int .u32 0)).setCell ⟨W1.heap.size, 3, none⟩ (.slice none 0 0) = G := ⟨_, rfl⟩
        have hbg : Blk G W1.heap.size 46 #[.int .i64 0, .int .i64 0, .int .u32 0, .slice none 0 0] := by rw [← hG]; exact (((hbrE.set_ 0 _).set_ 1 _).set_ 2 _).set_ 3 _
        have HFG : Hid (Fr E G (fun b => b = W1.heap.size)) := by
          rw [← hG]
          exact fr_set (fr_set (fr_set (fr_set (Fr.refl _ _) _ _) _ _) _ _) _ _
        have HBG : Hid (Below w.heap.size w G) := HBE.out.trans (HFG.out.below (fun b hb => by have := HSZ1.out; omega) HBE.out.size)
        have g0 := hbg.cell 0
        have g1 := hbg.cell 1
        have g2 := hbg.cell 2
        have g3 := hbg.cell 3
        simp only [List.getElem?_toArray, List.getElem?_cons_zero, List.getElem?_cons_succ] at g0 g1 g2 g3
        clear hbxw1 hbrw1 hbxE hbrE hbdE hbg
        subst hE
        go_wp2_with fail
        refine bodyPost_ret (v := .tuple #[.agg #[.int .i64 0, .int .i64 0, .int .u32 0, .slice none 0 0], .int .i64 1]) (by simp [results, Try.results33, go_sem, g0, g1, g2, g3]) rfl ?_
        exact ⟨none, 0, by rw [HU.out]; rfl, by rw [HU.out]; exact Ow.nil_ _ _, HBG.out⟩
set_option maxHeartbeats 4000000 in
set_option maxRecDepth 100000 in
theorem rundo_any (kd : Int) (o : OV) (w : World) (h : o.In w All) : Calls Try.prog 34 #[.int .i64 kd, o.agg] w (UO w (undoR kd o.k o.s o.t o.m o.d)) := by
  obtain ⟨W1, hW1, hBW1, hbx1, hsz1⟩ := box_op w o
  obtain ⟨W, hW⟩ : ∃ W, W1.alloc (.cells #[.int .i64 0, .int .i64 0, .int .u32 0, .slice none 0 0] 46) = W := ⟨_, rfl⟩
  have hBW : Below w.heap.size w W := by rw [← hW]; exact hBW1.alloc hBW1.size _
  have hbx : Blk W w.heap.size 46 (ocs o) := by rw [← hW]; exact hbx1.alloc _
  have hbr : Blk W W1.heap.size 46 #[.int .i64 0, .int .i64 0, .int .u32 0, .slice none 0 0] := by rw [← hW]; exact Blk.new W1 46 _
  have hsz : W.heap.size = w.heap.size + 2 := by rw [← hW]; simp [hsz1]
  obtain ⟨y0, y1, y2, y3⟩ := ocs_cells hbx
  have HBW := Lib.hid hBW
  have HBX := Lib.hid hbx
  have HBR := Lib.hid hbr
  have HSZ := Lib.hid hsz
  have HSZ1 := Lib.hid hsz1
  have HR := Lib.hid (rright_any kd o W)
  have HIW := Lib.hid h
  have HDL := Lib.hid h.b.len
  obtain ⟨u, hu⟩ : ∃ u, u = undoR kd o.k o.s o.t o.m o.d := ⟨_, rfl⟩
  rw [← hu]
  have HKD := Lib.hid (right_kd kd o.k o.s o.t o.m)
  have HM2 := Lib.hid (right_two kd o.k o.s o.t o.m)
  obtain ⟨k, s, t, A, m, c, d⟩ := o
  simp only at hW1 y0 y1 y2 y3 HR HDL hu HKD HM2
  obtain ⟨r, hr⟩ : ∃ r, r = rightP kd k s t m := ⟨_, rfl⟩
  rw [← hr] at HR HKD HM2
  rw [undoR, ← hr] at hu
  simp only [OV.agg] at HR ⊢
  clear h hBW hbx hbr hsz hBW1 hbx1 hsz1 hr
  cases r with
  | false =>
    have HU : Hid (u = ⟨0, 0, [], 1⟩) := by rw [hu, if_neg (by intro h; cases h.1)]; exact Lib.hid rfl
    clear hu
    go_enter Try.func34, Try.ntmps34
    go_wp2_with fail
    refine HR.out.mono ?_
    rintro e w1 ⟨rfl, hb1⟩
    have hbxw1 := HBX.out.below hb1 (by have := HSZ.out; omega)
    have hbrw1 := HBR.out.below hb1 (by have := HSZ.out; have := HSZ1.out; omega)
    have HZ1 := Lib.hid (show w.heap.size + 2 ≤ w1.heap.size by have := HSZ.out; have := hb1.size; omega)
    have HBw1 : Hid (Below w.heap.size w w1) := HBW.out.trans (hb1.mono HBW.out.size)
    clear hb1
    obtain ⟨xw10, xw11, xw12, xw13⟩ := ocs_cells hbxw1
    simp only at xw10 xw11 xw12 xw13
    have rw10 := hbrw1.cell 0
    have rw1z0 := hbrw1.frozen 0
    have rw11 := hbrw1.cell 1
    have rw1z1 := hbrw1.frozen 1
    have rw12 := hbrw1.cell 2
    have rw1z2 := hbrw1.frozen 2
    have rw13 := hbrw1.cell 3
    have rw1z3 := hbrw1.frozen 3
    simp only [List.getElem?_toArray, List.getElem?_cons_zero, List.getElem?_cons_succ] at rw10 rw11 rw12 rw13
    obtain ⟨G, hG⟩ : ∃ G, (((w1.setCell ⟨W1.heap.size, 0, none⟩ (.int .i64 0)).setCell ⟨W1.heap.size, 1, none⟩ (.int .i64 0)).setCell ⟨W1.heap.size, 2, none⟩ (.int .u32 0)).setCell ⟨W1.heap.size, 3, none⟩ (.slice none 0 0) = G := ⟨_, rfl⟩
    have hbg : Blk G W1.heap.size 46 #[.int .i64 0, .int .i64 0, .int .u32 0, .slice none 0 0] := by rw [← hG]; exact (((hbrw1.set_ 0 _).set_ 1 _).set_ 2 _).set_ 3 _
    have HFG : Hid (Fr w1 G (fun b => b = W1.heap.size)) := by
      rw [← hG]
      exact fr_set (fr_set (fr_set (fr_set (Fr.refl _ _) _ _) _ _) _ _) _ _
    have HBG : Hid (Below w.heap.size w G) := HBw1.out.trans (HFG.out.below (fun b hb => by have := HSZ1.out; omega) HBw1.out.size)
    have g0 := hbg.cell 0
    have g1 := hbg.cell 1
    have g2 := hbg.cell 2
    have g3 := hbg.cell 3
    simp only [List.getElem?_toArray, List.getElem?_cons_zero, List.getElem?_cons_succ] at g0 g1 g2 g3
    clear hbxw1 hbrw1  hbg
    go_wp2_with fail
    refine bodyPost_ret (v := .tuple #[.agg #[.int .i64 0, .int .i64 0, .int .u32 0, .slice none 0 0], .int .i64 1]) (by simp [results, Try.results34, go_sem, g0, g1, g2, g3]) rfl ?_
    exact ⟨none, 0, by rw [HU.out]; rfl, by rw [HU.out]; exact Ow.nil_ _ _, HBG.out⟩
  | true =>
    by_cases hk : k = 1
    · rcases HKD.out rfl with hkd | hkd
      · have HU : Hid (u = ⟨4, s, [], 0⟩) := by rw [hu, if_pos ⟨rfl, Or.inl hk⟩, if_pos hk, if_neg (by omega : ¬ kd = 2)]; exact Lib.hid rfl
        subst hkd
        clear hu
        have k1 : (k == 1) = true := by rw [beq_iff_eq]; exact hk
        have k1n : (k != 1) = false := by rw [bne_eq_false_iff_eq]; exact hk
        have k2 : (k == 2) = false := beq_false_of_ne (by omega)
        have k2n : (k != 2) = true := bne_iff_ne.2 (by omega)
        clear hk
        go_enter Try.func34, Try.ntmps34
        go_wp2_with fail
        refine HR.out.mono ?_
        rintro e w1 ⟨rfl, hb1⟩
        have hbxw1 := HBX.out.below hb1 (by have := HSZ.out; omega)
        have hbrw1 := HBR.out.below hb1 (by have := HSZ.out; have := HSZ1.out; omega)
        have HZ1 := Lib.hid (show w.heap.size + 2 ≤ w1.heap.size by have := HSZ.out; have := hb1.size; omega)
        have HBw1 : Hid (Below w.heap.size w w1) := HBW.out.trans (hb1.mono HBW.out.size)
        clear hb1
        obtain ⟨xw10, xw11, xw12, xw13⟩ := ocs_cells hbxw1
        simp only at xw10 xw11 xw12 xw13
        obtain ⟨V0, hV0⟩ : ∃ V0, w1.alloc (.cells #[.int .i64 4, .int .i64 0, .int .u32 0, .slice none 0 0] 46) = V0 := ⟨_, rfl⟩
        have hDB : Below w1.heap.size w1 V0 := by rw [← hV0]; exact (Below.refl _ _).alloc (Nat.le_refl _) _
        have hbxV0 := hbxw1.below hDB (by have := HZ1.out; omega)
        have hbrV0 := hbrw1.below hDB (by have := HZ1.out; have := HSZ1.out; omega)
        have hbdV0 : Blk V0 w1.heap.size 46 #[.int .i64 4, .int .i64 0, .int .u32 0, .slice none 0 0] := by rw [← hV0]; exact Blk.new w1 46 _
        have HBV0 : Hid (Below w.heap.size w V0) := HBw1.out.trans (hDB.mono HBw1.out.size)
        clear hDB
        have dV00 := hbdV0.cell 0
        have dV0z0 := hbdV0.frozen 0
        have dV01 := hbdV0.cell 1
        have dV0z1 := hbdV0.frozen 1
        have dV02 := hbdV0.cell 2
        have dV0z2 := hbdV0.frozen 2
        have dV03 := hbdV0.cell 3
        have dV0z3 := hbdV0.frozen 3
        simp only [List.getElem?_toArray, List.getElem?_cons_zero, List.getElem?_cons_succ] at dV00 dV01 dV02 dV03
        obtain ⟨xV00, xV01, xV02, xV03⟩ := ocs_cells hbxV0
        simp only at xV00 xV01 xV02 xV03
        clear hbxV0 hbrV0 hbdV0
        subst hV0
        obtain ⟨E, hE⟩ : ∃ E, w1.alloc (.cells #[.int .i64 4, .int .i64 s, .int .u32 0, .slice none 0 0] 46) = E := ⟨_, rfl⟩
        have hDB : Below w1.heap.size w1 E := by rw [← hE]; exact (Below.refl _ _).alloc (Nat.le_refl _) _
        have hbxE := hbxw1.below hDB (by have := HZ1.out; omega)
        have hbrE := hbrw1.below hDB (by have := HZ1.out; have := HSZ1.out; omega)
        have hbdE : Blk E w1.heap.size 46 #[.int .i64 4, .int .i64 s, .int .u32 0, .slice none 0 0] := by rw [← hE]; exact Blk.new w1 46 _
        have HBE : Hid (Below w.heap.size w E) := HBw1.out.trans (hDB.mono HBw1.out.size)
        clear hDB
        have dE0 := hbdE.cell 0
        have dEz0 := hbdE.frozen 0
        have dE1 := hbdE.cell 1
        have dEz1 := hbdE.frozen 1
        have dE2 := hbdE.cell 2
        have dEz2 := hbdE.frozen 2
        have dE3 := hbdE.cell 3
        have dEz3 := hbdE.frozen 3
        simp only [List.getElem?_toArray, List.getElem?_cons_zero, List.getElem?_cons_succ] at dE0 dE1 dE2 dE3
        obtain ⟨xE0, xE1, xE2, xE3⟩ := ocs_cells hbxE
        simp only at xE0 xE1 xE2 xE3
        have rE0 := hbrE.cell 0
        have rEz0 := hbrE.frozen 0
        have rE1 := hbrE.cell 1
        have rEz1 := hbrE.frozen 1
        have rE2 := hbrE.cell 2
        have rEz2 := hbrE.frozen 2
        have rE3 := hbrE.cell 3
        have rEz3 := hbrE.frozen 3
        simp only [List.getElem?_toArray, List.getElem?_cons_zero, List.getElem?_cons_succ] at rE0 rE1 rE2 rE3
        obtain ⟨G, hG⟩ : ∃ G, (((E.setCell ⟨W1.heap.size, 0, none⟩ (.int .i64 4)).setCell ⟨W1.heap.size, 1, none⟩ (.int .i64 s)).setCell ⟨W1.heap.size, 2, none⟩ (.int .u32 0)).setCell ⟨W1.heap.size, 3, none⟩ (.slice none 0 0) = G := ⟨_, rfl⟩
        have hbg : Blk G W1.heap.size 46 #[.int .i64 4, .int .i64 s, .int .u32 0, .slice none 0 0] := by rw [← hG]; exact (((hbrE.set_ 0 _).set_ 1 _).set_ 2 _).set_ 3 _
        have HFG : Hid (Fr E G (fun b => b = W1.heap.size)) := by
          rw [← hG]
          exact fr_set (fr_set (fr_set (fr_set (Fr.refl _ _) _ _) _ _) _ _) _ _
        have HBG : Hid (Below w.heap.size w G) := HBE.out.trans (HFG.out.below (fun b hb => by have := HSZ1.out; omega) HBE.out.size)
        have g0 := hbg.cell 0
        have g1 := hbg.cell 1
        have g2 := hbg.cell 2
        have g3 := hbg.cell 3
        simp only [List.getElem?_toArray, List.getElem?_cons_zero, List.getElem?_cons_succ] at g0 g1 g2 g3
        clear hbxw1 hbrw1 hbxE hbrE hbdE hbg
        subst hE
        go_wp2_with fail
        refine bodyPost_ret (v := .tuple #[.agg #[.int .i64 4, .int .i64 s, .int .u32 0, .slice none 0 0], .int .i64 0]) (by simp [results, Try.results34, go_sem, g0, g1, g2, g3]) rfl ?_
        exact ⟨none, 0, by rw [HU.out]; rfl, by rw [HU.out]; exact Ow.nil_ _ _, HBG.out⟩
      · obtain ⟨hs0, hm⟩ := HM2.out rfl hkd
        have HM := Lib.hid hm
        have HU : Hid (u = ⟨4, 0, d, 0⟩) := by rw [hu, if_pos ⟨rfl, Or.inl hk⟩, if_pos hk, if_pos hkd, hs0]; exact Lib.hid rfl
        subst hkd
        subst hs0
        clear hu hm
        have k1 : (k == 1) = true := by rw [beq_iff_eq]; exact hk
        have k1n : (k != 1) = false := by rw [bne_eq_false_iff_eq]; exact hk
        have k2 : (k == 2) = false := beq_false_of_ne (by omega)
        have k2n : (k != 2) = true := bne_iff_ne.2 (by omega)
        clear hk
        go_enter Try.func34, Try.ntmps34
        go_wp2_with fail
        refine HR.out.mono ?_
        rintro e w1 ⟨rfl, hb1⟩
        have hbxw1 := HBX.out.below hb1 (by have := HSZ.out; omega)
        have hbrw1 := HBR.out.below hb1 (by have := HSZ.out; have := HSZ1.out; omega)
        have HZ1 := Lib.hid (show w.heap.size + 2 ≤ w1.heap.size by have := HSZ.out; have := hb1.size; omega)
        have HBw1 : Hid (Below w.heap.size w w1) := HBW.out.trans (hb1.mono HBW.out.size)
        clear hb1
        obtain ⟨xw10, xw11, xw12, xw13⟩ := ocs_cells hbxw1
        simp only at xw10 xw11 xw12 xw13
        obtain ⟨E, hE⟩ : ∃ E, w1.alloc (.cells #[.int .i64 4, .int .i64 0, .int .u32 0, .slice none 0 0] 46) = E := ⟨_, rfl⟩
        have hDB : Below w1.heap.size w1 E := by rw [← hE]; exact (Below.refl _ _).alloc (Nat.le_refl _) _
        have hbxE := hbxw1.below hDB (by have := HZ1.out; omega)
        have hbrE := hbrw1.below hDB (by have := HZ1.out; have := HSZ1.out; omega)
        have hbdE : Blk E w1.heap.size 46 #[.int .i64 4, .int .i64 0, .int .u32 0, .slice none 0 0] := by rw [← hE]; exact Blk.new w1 46 _
        have HBE : Hid (Below w.heap.size w E) := HBw1.out.trans (hDB.mono HBw1.out.size)
        clear hDB
        have dE0 := hbdE.cell 0
        have dEz0 := hbdE.frozen 0
        have dE1 := hbdE.cell 1
        have dEz1 := hbdE.frozen 1
        have dE2 := hbdE.cell 2
        have dEz2 := hbdE.frozen 2
        have dE3 := hbdE.cell 3
        have dEz3 := hbdE.frozen 3
        simp only [List.getElem?_toArray, List.getElem?_cons_zero, List.getElem?_cons_succ] at dE0 dE1 dE2 dE3
        obtain ⟨xE0, xE1, xE2, xE3⟩ := ocs_cells hbxE
        simp only at xE0 xE1 xE2 xE3
        have HCL := Lib.hid (copy_any E All A m c d (HIW.out.b.keep (Fr.of_below HBE.out No) fun _ _ hn => hn) (by have := HM.out; omega))
        have HBXE := Lib.hid hbxE
        have HBRE := Lib.hid hbrE
        have HBDE := Lib.hid hbdE
        clear hbxw1 hbrw1 hbxE hbrE hbdE
        subst hE
        go_wp2_with fail
        with_reducible refine HCL.out.mono ?_
        rintro e w2 ⟨v2, rfl, hnew, hb2⟩
        obtain ⟨A2, c2, rfl, hmc2, hnz2, _⟩ := Ow.reads hnew
        rw [HDL.out] at hnew
        rw [HDL.out]
        have HNEW := Lib.hid hnew
        have hbxw2 := (HBXE.out).below hb2 (HBXE.out).lt
        have hbrw2 := (HBRE.out).below hb2 (HBRE.out).lt
        have hbdw2 := (HBDE.out).below hb2 (HBDE.out).lt
        have HLT := Lib.hid (HBDE.out).lt
        have HBw2 : Hid (Below w.heap.size w w2) := HBE.out.trans (hb2.mono HBE.out.size)
        clear hnew hb2 hmc2 hnz2
        have dw20 := hbdw2.cell 0
        have dw2z0 := hbdw2.frozen 0
        have dw21 := hbdw2.cell 1
        have dw2z1 := hbdw2.frozen 1
        have dw22 := hbdw2.cell 2
        have dw2z2 := hbdw2.frozen 2
        have dw23 := hbdw2.cell 3
        have dw2z3 := hbdw2.frozen 3
        simp only [List.getElem?_toArray, List.getElem?_cons_zero, List.getElem?_cons_succ] at dw20 dw21 dw22 dw23
        obtain ⟨xw20, xw21, xw22, xw23⟩ := ocs_cells hbxw2
        simp only at xw20 xw21 xw22 xw23
        obtain ⟨F, hF⟩ : ∃ F, w2.setCell ⟨w1.heap.size, 3, none⟩ (.slice A2 m c2) = F := ⟨_, rfl⟩
        have hbdF : Blk F w1.heap.size 46 #[.int .i64 4, .int .i64 0, .int .u32 0, .slice A2 m c2] := by rw [← hF]; exact hbdw2.set_ 3 _
        have hbxF : Blk F w.heap.size 46 (ocs ⟨k, 0, t, A, m, c, d⟩) := by rw [← hF]; exact hbxw2.far (by have := HZ1.out; simp only; omega) _
        have hbrF : Blk F W1.heap.size 46 #[.int .i64 0, .int .i64 0, .int .u32 0, .slice none 0 0] := by rw [← hF]; exact hbrw2.far (by have := HZ1.out; have := HSZ1.out; simp only; omega) _
        have HBF : Hid (Below w.heap.size w F) := by rw [← hF]; exact HBw2.out.setCell (p := ⟨w1.heap.size, 3, none⟩) (by have := HZ1.out; simp only; omega) _
        have HFF : Hid (Fr w2 F (fun b => b = w1.heap.size)) := by rw [← hF]; exact fr_set (Fr.refl _ _) _ _
        have dF0 := hbdF.cell 0
        have dFz0 := hbdF.frozen 0
        have dF1 := hbdF.cell 1
        have dFz1 := hbdF.frozen 1
        have dF2 := hbdF.cell 2
        have dFz2 := hbdF.frozen 2
        have dF3 := hbdF.cell 3
        have dFz3 := hbdF.frozen 3
        simp only [List.getElem?_toArray, List.getElem?_cons_zero, List.getElem?_cons_succ] at dF0 dF1 dF2 dF3
        obtain ⟨xF0, xF1, xF2, xF3⟩ := ocs_cells hbxF
        simp only at xF0 xF1 xF2 xF3
        have rF0 := hbrF.cell 0
        have rFz0 := hbrF.frozen 0
        have rF1 := hbrF.cell 1
        have rFz1 := hbrF.frozen 1
        have rF2 := hbrF.cell 2
        have rFz2 := hbrF.frozen 2
        have rF3 := hbrF.cell 3
        have rFz3 := hbrF.frozen 3
        simp only [List.getElem?_toArray, List.getElem?_cons_zero, List.getElem?_cons_succ] at rF0 rF1 rF2 rF3
        obtain ⟨G, hG⟩ : ∃ G, (((F.setCell ⟨W1.heap.size, 0, none⟩ (.int .i64 4)).setCell ⟨W1.heap.size, 1, none⟩ (.int .i64 0)).setCell ⟨W1.heap.size, 2, none⟩ (.int .u32 0)).setCell ⟨W1.heap.size, 3, none⟩ (.slice A2 m c2) = G := ⟨_, rfl⟩
        have hbg : Blk G W1.heap.size 46 #[.int .i64 4, .int .i64 0, .int .u32 0, .slice A2 m c2] := by rw [← hG]; exact (((hbrF.set_ 0 _).set_ 1 _).set_ 2 _).set_ 3 _
        have HFG : Hid (Fr F G (fun b => b = W1.heap.size)) := by
          rw [← hG]
          exact fr_set (fr_set (fr_set (fr_set (Fr.refl _ _) _ _) _ _) _ _) _ _
        have HBG : Hid (Below w.heap.size w G) := HBF.out.trans (HFG.out.below (fun b hb => by have := HSZ1.out; omega) HBF.out.size)
        have g0 := hbg.cell 0
        have g1 := hbg.cell 1
        have g2 := hbg.cell 2
        have g3 := hbg.cell 3
        simp only [List.getElem?_toArray, List.getElem?_cons_zero, List.getElem?_cons_succ] at g0 g1 g2 g3
        clear hbxw2 hbrw2 hbxF hbrF hbdw2 hbdF hbg
        go_wp2_with fail
        refine bodyPost_ret (v := .tuple #[.agg #[.int .i64 4, .int .i64 0, .int .u32 0, .slice A2 m c2], .int .i64 0]) (by simp [results, Try.results34, go_sem, g0, g1, g2, g3]) rfl ?_
        have hf : Fr w2 G (fun b => b = w1.heap.size ∨ b = W1.heap.size) := (HFF.out.mono fun _ _ h => Or.inl h).trans HFG.out fun _ h => Or.inl (Or.inr h)
        have hdl := HDL.out
        refine ⟨A2, c2, by rw [HU.out]; simp only [hdl], ?_, HBG.out⟩
        rw [HU.out]
        simp only [hdl]
        refine (HNEW.out.keep hf fun b hb hn => ?_).mono fun b _ hb => ?_
        · have := HLT.out; have := HZ1.out; have := HSZ1.out; omega
        · have := HLT.out; have := HZ1.out; omega
    · by_cases hk2 : k = 2
      · have hk := hk2
        clear hk2
        rcases HKD.out rfl with hkd | hkd
        · have HU : Hid (u = ⟨3, s, [], 0⟩) := by rw [hu, if_pos ⟨rfl, Or.inr hk⟩, if_neg (by omega : ¬ k = 1), if_neg (by omega : ¬ kd = 2)]; exact Lib.hid rfl
          subst hkd
          clear hu
          have k1 : (k == 1) = false := beq_false_of_ne (by omega)
          have k1n : (k != 1) = true := bne_iff_ne.2 (by omega)
          have k2 : (k == 2) = true := by rw [beq_iff_eq]; exact hk
          have k2n : (k != 2) = false := by rw [bne_eq_false_iff_eq]; exact hk
          clear hk
          go_enter Try.func34, Try.ntmps34
          go_wp2_with fail
          refine HR.out.mono ?_
          rintro e w1 ⟨rfl, hb1⟩
          have hbxw1 := HBX.out.below hb1 (by have := HSZ.out; omega)
          have hbrw1 := HBR.out.below hb1 (by have := HSZ.out; have := HSZ1.out; omega)
          have HZ1 := Lib.hid (show w.heap.size + 2 ≤ w1.heap.size by have := HSZ.out; have := hb1.size; omega)
          have HBw1 : Hid (Below w.heap.size w w1) := HBW.out.trans (hb1.mono HBW.out.size)
          clear hb1
          obtain ⟨xw10, xw11, xw12, xw13⟩ := ocs_cells hbxw1
          simp only at xw10 xw11 xw12 xw13
          obtain ⟨V0, hV0⟩ : ∃ V0, w1.alloc (.cells #[.int .i64 4, .int .i64 0, .int .u32 0, .slice none 0 0] 46) = V0 := ⟨_, rfl⟩
          have hDB : Below w1.heap.size w1 V0 := by rw [← hV0]; exact (Below.refl _ _).alloc (Nat.le_refl _) _
          have hbxV0 := hbxw1.below hDB (by have := HZ1.out; omega)
          have hbrV0 := hbrw1.below hDB (by have := HZ1.out; have := HSZ1.out; omega)
          have hbdV0 : Blk V0 w1.heap.size 46 #[.int .i64 4, .int .i64 0, .int .u32 0, .slice none 0 0] := by rw [← hV0]; exact Blk.new w1 46 _
          have HBV0 : Hid (Below w.heap.size w V0) := HBw1.out.trans (hDB.mono HBw1.out.size)
          clear hDB
          have dV00 := hbdV0.cell 0
          have dV0z0 := hbdV0.frozen 0
          have dV01 := hbdV0.cell 1
          have dV0z1 := hbdV0.frozen 1
          have dV02 := hbdV0.cell 2
          have dV0z2 := hbdV0.frozen 2
          have dV03 := hbdV0.cell 3
          have dV0z3 := hbdV0.frozen 3
          simp only [List.getElem?_toArray, List.getElem?_cons_zero, List.getElem?_cons_succ] at dV00 dV01 dV02 dV03
          obtain ⟨xV00, xV01, xV02, xV03⟩ := ocs_cells hbxV0
          simp only at xV00 xV01 xV02 xV03
          clear hbxV0 hbrV0 hbdV0
          subst hV0
          obtain ⟨V1, hV1⟩ : ∃ V1, w1.alloc (.cells #[.int .i64 3, .int .i64 0, .int .u32 0, .slice none 0 0] 46) = V1 := ⟨_, rfl⟩
          have hDB : Below w1.heap.size w1 V1 := by rw [← hV1]; exact (Below.refl _ _).alloc (Nat.le_refl _) _
          have hbxV1 := hbxw1.below hDB (by have := HZ1.out; omega)
          have hbrV1 := hbrw1.below hDB (by have := HZ1.out; have := HSZ1.out; omega)
          have hbdV1 : Blk V1 w1.heap.size 46 #[.int .i64 3, .int .i64 0, .int .u32 0, .slice none 0 0] := by rw [← hV1]; exact Blk.new w1 46 _
          have HBV1 : Hid (Below w.heap.size w V1) := HBw1.out.trans (hDB.mono HBw1.out.size)
          clear hDB
          have dV10 := hbdV1.cell 0
          have dV1z0 := hbdV1.frozen 0
          have dV11 := hbdV1.cell 1
          have dV1z1 := hbdV1.frozen 1
          have dV12 := hbdV1.cell 2
          have dV1z2 := hbdV1.frozen 2
          have dV13 := hbdV1.cell 3
          have dV1z3 := hbdV1.frozen 3
          simp only [List.getElem?_toArray, List.getElem?_cons_zero, List.getElem?_cons_succ] at dV10 dV11 dV12 dV13
          obtain ⟨xV10, xV11, xV12, xV13⟩ := ocs_cells hbxV1
          simp only at xV10 xV11 xV12 xV13
          clear hbxV1 hbrV1 hbdV1
          subst hV1
          obtain ⟨E, hE⟩ : ∃ E, w1.alloc (.cells #[.int .i64 3, .int .i64 s, .int .u32 0, .slice none 0 0] 46) = E := ⟨_, rfl⟩
          have hDB : Below w1.heap.size w1 E := by rw [← hE]; exact (Below.refl _ _).alloc (Nat.le_refl _) _
          have hbxE := hbxw1.below hDB (by have := HZ1.out; omega)
          have hbrE := hbrw1.below hDB (by have := HZ1.out; have := HSZ1.out; omega)
          have hbdE : Blk E w1.heap.size 46 #[.int .i64 3, .int .i64 s, .int .u32 0, .slice none 0 0] := by rw [← hE]; exact Blk.new w1 46 _
          have HBE : Hid (Below w.heap.size w E) := HBw1.out.trans (hDB.mono HBw1.out.size)
          clear hDB
          have dE0 := hbdE.cell 0
          have dEz0 := hbdE.frozen 0
          have dE1 := hbdE.cell 1
          have dEz1 := hbdE.frozen 1
          have dE2 := hbdE.cell 2
          have dEz2 := hbdE.frozen 2
          have dE3 := hbdE.cell 3
          have dEz3 := hbdE.frozen 3
          simp only [List.getElem?_toArray, List.getElem?_cons_zero, List.getElem?_cons_succ] at dE0 dE1 dE2 dE3
          obtain ⟨xE0, xE1, xE2, xE3⟩ := ocs_cells hbxE
          simp only at xE0 xE1 xE2 xE3
          have rE0 := hbrE.cell 0
          have rEz0 := hbrE.frozen 0
          have rE1 := hbrE.cell 1
          have rEz1 := hbrE.frozen 1
          have rE2 := hbrE.cell 2
          have rEz2 := hbrE.frozen 2
          have rE3 := hbrE.cell 3
          have rEz3 := hbrE.frozen 3
          simp only [List.getElem?_toArray, List.getElem?_cons_zero, List.getElem?_cons_succ] at rE0 rE1 rE2 rE3
          obtain ⟨G, hG⟩ : ∃ G, (((E.setCell ⟨W1.heap.size, 0, none⟩ (.int .i64 3)).setCell ⟨W1.heap.size, 1, none⟩ (.int .i64 s)).setCell ⟨W1.heap.size, 2, none⟩ (.int .u32 0)).setCell ⟨W1.heap.size, 3, none⟩ (.slice none 0 0) = G := ⟨_, rfl⟩
          have hbg : Blk G W1.heap.size 46 #[.int .i64 3, .int .i64 s, .int .u32 0, .slice none 0 0] := by rw [← hG]; exact (((hbrE.set_ 0 _).set_ 1 _).set_ 2 _).set_ 3 _
          have HFG : Hid (Fr E G (fun b => b = W1.heap.size)) := by
            rw [← hG]
            exact fr_set (fr_set (fr_set (fr_set (Fr.refl _ _) _ _) _ _) _ _) _ _
          have HBG : Hid (Below w.heap.size w G) := HBE.out.trans (HFG.out.below (fun b hb => by have := HSZ1.out; omega) HBE.out.size)
          have g0 := hbg.cell 0
          have g1 := hbg.cell 1
          have g2 := hbg.cell 2
          have g3 := hbg.cell 3
          simp only [List.getElem?_toArray, List.getElem?_cons_zero, List.getElem?_cons_succ] at g0 g1 g2 g3
          clear hbxw1 hbrw1 hbxE hbrE hbdE hbg
          subst hE
          go_wp2_with fail
          refine bodyPost_ret (v := .tuple #[.agg #[.int .i64 3, .int .i64 s, .int .u32 0, .slice none 0 0], .int .i64 0]) (by simp [results, Try.results34, go_sem, g0, g1, g2, g3]) rfl ?_
          exact ⟨none, 0, by rw [HU.out]; rfl, by rw [HU.out]; exact Ow.nil_ _ _, HBG.out⟩
        · obtain ⟨hs0, hm⟩ := HM2.out rfl hkd
          have HM := Lib.hid hm
          have HU : Hid (u = ⟨3, 0, d, 0⟩) := by rw [hu, if_pos ⟨rfl, Or.inr hk⟩, if_neg (by omega : ¬ k = 1), if_pos hkd, hs0]; exact Lib.hid rfl
          subst hkd
          subst hs0
          clear hu hm
          have k1 : (k == 1) = false := beq_false_of_ne (by omega)
          have k1n : (k != 1) = true := bne_iff_ne.2 (by omega)
          have k2 : (k == 2) = true := by rw [beq_iff_eq]; exact hk
          have k2n : (k != 2) = false := by rw [bne_eq_false_iff_eq]; exact hk
          clear hk
          go_enter Try.func34, Try.ntmps34
          go_wp2_with fail
          refine HR.out.mono ?_
          rintro e w1 ⟨rfl, hb1⟩
          have hbxw1 := HBX.out.below hb1 (by have := HSZ.out; omega)
          have hbrw1 := HBR.out.below hb1 (by have := HSZ.out; have := HSZ1.out; omega)
          have HZ1 := Lib.hid (show w.heap.size + 2 ≤ w1.heap.size by have := HSZ.out; have := hb1.size; omega)
          have HBw1 : Hid (Below w.heap.size w w1) := HBW.out.trans (hb1.mono HBW.out.size)
          clear hb1
          obtain ⟨xw10, xw11, xw12, xw13⟩ := ocs_cells hbxw1
          simp only at xw10 xw11 xw12 xw13
          obtain ⟨V0, hV0⟩ : ∃ V0, w1.alloc (.cells #[.int .i64 4, .int .i64 0, .int .u32 0, .slice none 0 0] 46) = V0 := ⟨_, rfl⟩
          have hDB : Below w1.heap.size w1 V0 := by rw [← hV0]; exact (Below.refl _ _).alloc (Nat.le_refl _) _
          have hbxV0 := hbxw1.below hDB (by have := HZ1.out; omega)
          have hbrV0 := hbrw1.below hDB (by have := HZ1.out; have := HSZ1.out; omega)
          have hbdV0 : Blk V0 w1.heap.size 46 #[.int .i64 4, .int .i64 0, .int .u32 0, .slice none 0 0] := by rw [← hV0]; exact Blk.new w1 46 _
          have HBV0 : Hid (Below w.heap.size w V0) := HBw1.out.trans (hDB.mono HBw1.out.size)
          clear hDB
          have dV00 := hbdV0.cell 0
          have dV0z0 := hbdV0.frozen 0
          have dV01 := hbdV0.cell 1
          have dV0z1 := hbdV0.frozen 1
          have dV02 := hbdV0.cell 2
          have dV0z2 := hbdV0.frozen 2
          have dV03 := hbdV0.cell 3
          have dV0z3 := hbdV0.frozen 3
          simp only [List.getElem?_toArray, List.getElem?_cons_zero, List.getElem?_cons_succ] at dV00 dV01 dV02 dV03
          obtain ⟨xV00, xV01, xV02, xV03⟩ := ocs_cells hbxV0
          simp only at xV00 xV01 xV02 xV03
          clear hbxV0 hbrV0 hbdV0
          subst hV0
          obtain ⟨E, hE⟩ : ∃ E, w1.alloc (.cells #[.int .i64 3, .int .i64 0, .int .u32 0, .slice none 0 0] 46) = E := ⟨_, rfl⟩
          have hDB : Below w1.heap.size w1 E := by rw [← hE]; exact (Below.refl _ _).alloc (Nat.le_refl _) _
          have hbxE := hbxw1.below hDB (by have := HZ1.out; omega)
          have hbrE := hbrw1.below hDB (by have := HZ1.out; have := HSZ1.out; omega)
          have hbdE : Blk E w1.heap.size 46 #[.int .i64 3, .int .i64 0, .int .u32 0, .slice none 0 0] := by rw [← hE]; exact Blk.new w1 46 _
          have HBE : Hid (Below w.heap.size w E) := HBw1.out.trans (hDB.mono HBw1.out.size)
          clear hDB
          have dE0 := hbdE.cell 0
          have dEz0 := hbdE.frozen 0
          have dE1 := hbdE.cell 1
          have dEz1 := hbdE.frozen 1
          have dE2 := hbdE.cell 2
          have dEz2 := hbdE.frozen 2
          have dE3 := hbdE.cell 3
          have dEz3 := hbdE.frozen 3
          simp only [List.getElem?_toArray, List.getElem?_cons_zero, List.getElem?_cons_succ] at dE0 dE1 dE2 dE3
          obtain ⟨xE0, xE1, xE2, xE3⟩ := ocs_cells hbxE
          simp only at xE0 xE1 xE2 xE3
          have HCL := Lib.hid (copy_any E All A m c d (HIW.out.b.keep (Fr.of_below HBE.out No) fun _ _ hn => hn) (by have := HM.out; omega))
          have HBXE := Lib.hid hbxE
          have HBRE := Lib.hid hbrE
          have HBDE := Lib.hid hbdE
          clear hbxw1 hbrw1 hbxE hbrE hbdE
          subst hE
          go_wp2_with fail
          with_reducible refine HCL.out.mono ?_
          rintro e w2 ⟨v2, rfl, hnew, hb2⟩
          obtain ⟨A2, c2, rfl, hmc2, hnz2, _⟩ := Ow.reads hnew
          rw [HDL.out] at hnew
          rw [HDL.out]
          have HNEW := Lib.hid hnew
          have hbxw2 := (HBXE.out).below hb2 (HBXE.out).lt
          have hbrw2 := (HBRE.out).below hb2 (HBRE.out).lt
          have hbdw2 := (HBDE.out).below hb2 (HBDE.out).lt
          have HLT := Lib.hid (HBDE.out).lt
          have HBw2 : Hid (Below w.heap.size w w2) := HBE.out.trans (hb2.mono HBE.out.size)
          clear hnew hb2 hmc2 hnz2
          have dw20 := hbdw2.cell 0
          have dw2z0 := hbdw2.frozen 0
          have dw21 := hbdw2.cell 1
          have dw2z1 := hbdw2.frozen 1
          have dw22 := hbdw2.cell 2
          have dw2z2 := hbdw2.frozen 2
          have dw23 := hbdw2.cell 3
          have dw2z3 := hbdw2.frozen 3
          simp only [List.getElem?_toArray, List.getElem?_cons_zero, List.getElem?_cons_succ] at dw20 dw21 dw22 dw23
          obtain ⟨xw20, xw21, xw22, xw23⟩ := ocs_cells hbxw2
          simp only at xw20 xw21 xw22 xw23
          obtain ⟨F, hF⟩ : ∃ F, w2.setCell ⟨w1.heap.size, 3, none⟩ (.slice A2 m c2) = F := ⟨_, rfl⟩
          have hbdF : Blk F w1.heap.size 46 #[.int .i64 3, .int .i64 0, .int .u32 0, .slice A2 m c2] := by rw [← hF]; exact hbdw2.set_ 3 _
          have hbxF : Blk F w.heap.size 46 (ocs ⟨k, 0, t, A, m, c, d⟩) := by rw [← hF]; exact hbxw2.far (by have := HZ1.out; simp only; omega) _
          have hbrF : Blk F W1.heap.size 46 #[.int .i64 0, .int .i64 0, .int .u32 0, .slice none 0 0] := by rw [← hF]; exact hbrw2.far (by have := HZ1.out; have := HSZ1.out; simp only; omega) _
          have HBF : Hid (Below w.heap.size w F) := by rw [← hF]; exact HBw2.out.setCell (p := ⟨w1.heap.size, 3, none⟩) (by have := HZ1.out; simp only; omega) _
          have HFF : Hid (Fr w2 F (fun b => b = w1.heap.size)) := by rw [← hF]; exact fr_set (Fr.refl _ _) _ _
          have dF0 := hbdF.cell 0
          have dFz0 := hbdF.frozen 0
          have dF1 := hbdF.cell 1
          have dFz1 := hbdF.frozen 1
          have dF2 := hbdF.cell 2
          have dFz2 := hbdF.frozen 2
          have dF3 := hbdF.cell 3
          have dFz3 := hbdF.frozen 3
          simp only [List.getElem?_toArray, List.getElem?_cons_zero, List.getElem?_cons_succ] at dF0 dF1 dF2 dF3
          obtain ⟨xF0, xF1, xF2, xF3⟩ := ocs_cells hbxF
          simp only at xF0 xF1 xF2 xF3
          have rF0 := hbrF.cell 0
          have rFz0 := hbrF.frozen 0
          have rF1 := hbrF.cell 1
          have rFz1 := hbrF.frozen 1
          have rF2 := hbrF.cell 2
          have rFz2 := hbrF.frozen 2
          have rF3 := hbrF.cell 3
          have rFz3 := hbrF.frozen 3
          simp only [List.getElem?_toArray, List.getElem?_cons_zero, List.getElem?_cons_succ] at rF0 rF1 rF2 rF3
          obtain ⟨G, hG⟩ : ∃ G, (((F.setCell ⟨W1.heap.size, 0, none⟩ (.int .i64 3)).setCell ⟨W1.heap.size, 1, none⟩ (.int .i64 0)).setCell ⟨W1.heap.size, 2, none⟩ (.int .u32 0)).setCell ⟨W1.heap.size, 3, none⟩ (.slice A2 m c2) = G := ⟨_, rfl⟩
          have hbg : Blk G W1.heap.size 46 #[.int .i64 3, .int .i64 0, .int .u32 0, .slice A2 m c2] := by rw [← hG]; exact (((hbrF.set_ 0 _).set_ 1 _).set_ 2 _).set_ 3 _
          have HFG : Hid (Fr F G (fun b => b = W1.heap.size)) := by
            rw [← hG]
            exact fr_set (fr_set (fr_set (fr_set (Fr.refl _ _) _ _) _ _) _ _) _ _
          have HBG : Hid (Below w.heap.size w G) := HBF.out.trans (HFG.out.below (fun b hb => by have := HSZ1.out; omega) HBF.out.size)
          have g0 := hbg.cell 0
          have g1 := hbg.cell 1
          have g2 := hbg.cell 2
          have g3 := hbg.cell 3
          simp only [List.getElem?_toArray, List.getElem?_cons_zero, List.getElem?_cons_succ] at g0 g1 g2 g3
          clear hbxw2 hbrw2 hbxF hbrF hbdw2 hbdF hbg
          go_wp2_with fail
          refine bodyPost_ret (v := .tuple #[.agg #[.int .i64 3, .int .i64 0, .int .u32 0, .slice A2 m c2], .int .i64 0]) (by simp [results, Try.results34, go_sem, g0, g1, g2, g3]) rfl ?_
          have hf : Fr w2 G (fun b => b = w1.heap.size ∨ b = W1.heap.size) := (HFF.out.mono fun _ _ h => Or.inl h).trans HFG.out fun _ h => Or.inl (Or.inr h)
          have hdl := HDL.out
          refine ⟨A2, c2, by rw [HU.out]; simp only [hdl], ?_, HBG.out⟩
          rw [HU.out]
          simp only [hdl]
          refine (HNEW.out.keep hf fun b hb hn => ?_).mono fun b _ hb => ?_
          · have := HLT.out; have := HZ1.out; have := HSZ1.out; omega
          · have := HLT.out; have := HZ1.out; omega
      · have hk1 := hk
        have HU : Hid (u = ⟨0, 0, [], 1⟩) := by rw [hu, if_neg (by intro h; exact h.2.elim hk1 hk2)]; exact Lib.hid rfl
        clear hu
        have k1 : (k == 1) = false := beq_false_of_ne hk1
        have k1n : (k != 1) = true := bne_iff_ne.2 hk1
        have k2 : (k == 2) = false := beq_false_of_ne hk2
        have k2n : (k != 2) = true := bne_iff_ne.2 hk2
        clear hk hk1 hk2
        go_enter Try.func34, Try.ntmps34
        go_wp2_with fail
        refine HR.out.mono ?_
        rintro e w1 ⟨rfl, hb1⟩
        have hbxw1 := HBX.out.below hb1 (by have := HSZ.out; omega)
        have hbrw1 := HBR.out.below hb1 (by have := HSZ.out; have := HSZ1.out; omega)
        have HZ1 := Lib.hid (show w.heap.size + 2 ≤ w1.heap.size by have := HSZ.out; have := hb1.size; omega)
        have HBw1 : Hid (Below w.heap.size w w1) := HBW.out.trans (hb1.mono HBW.out.size)
        clear hb1
        obtain ⟨xw10, xw11, xw12, xw13⟩ := ocs_cells hbxw1
        simp only at xw10 xw11 xw12 xw13
        have rw10 := hbrw1.cell 0
        have rw1z0 := hbrw1.frozen 0
        have rw11 := hbrw1.cell 1
        have rw1z1 := hbrw1.frozen 1
        have rw12 := hbrw1.cell 2
        have rw1z2 := hbrw1.frozen 2
        have rw13 := hbrw1.cell 3
        have rw1z3 := hbrw1.frozen 3
        simp only [List.getElem?_toArray, List.getElem?_cons_zero, List.getElem?_cons_succ] at rw10 rw11 rw12 rw13
        obtain ⟨G, hG⟩ : ∃ G, (((w1.setCell ⟨W1.heap.size, 0, none⟩ (.int .i64 0)).setCell ⟨W1.heap.size, 1, none⟩ (.int .i64 0)).setCell ⟨W1.heap.size, 2, none⟩ (.int .u32 0)).setCell ⟨W1.heap.size, 3, none⟩ (.slice none 0 0) = G := ⟨_, rfl⟩
        have hbg : Blk G W1.heap.size 46 #[.int .i64 0, .int .i64 0, .int .u32 0, .slice none 0 0] := by rw [← hG]; exact (((hbrw1.set_ 0 _).set_ 1 _).set_ 2 _).set_ 3 _
        have HFG : Hid (Fr w1 G (fun b => b = W1.heap.size)) := by
          rw [← hG]
          exact fr_set (fr_set (fr_set (fr_set (Fr.refl _ _) _ _) _ _) _ _) _ _
        have HBG : Hid (Below w.heap.size w G) := HBw1.out.trans (HFG.out.below (fun b hb => by have := HSZ1.out; omega) HBw1.out.size)
        have g0 := hbg.cell 0
        have g1 := hbg.cell 1
        have g2 := hbg.cell 2
        have g3 := hbg.cell 3
        simp only [List.getElem?_toArray, List.getElem?_cons_zero, List.getElem?_cons_succ] at g0 g1 g2 g3
        clear hbxw1 hbrw1  hbg
        go_wp2_with fail
        refine bodyPost_ret (v := .tuple #[.agg #[.int .i64 0, .int .i64 0, .int .u32 0, .slice none 0 0], .int .i64 1]) (by simp [results, Try.results34, go_sem, g0, g1, g2, g3]) rfl ?_
        exact ⟨none, 0, by rw [HU.out]; rfl, by rw [HU.out]; exact Ow.nil_ _ _, HBG.out⟩
end Go.Proofs.Ytajmpoanmdgmpaa
