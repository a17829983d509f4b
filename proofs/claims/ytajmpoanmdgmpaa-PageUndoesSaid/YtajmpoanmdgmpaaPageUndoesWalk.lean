/-
  THE WALK OF PageUndoes.
-/
import Derived.Test.YtajmpoanmdgmpaaPN
import Derived.Test.YtajmpoanmdgmpaaPW
import Derived.Test.YtajmpoanmdgmpaaPS
namespace Go.Proofs.Ytajmpoanmdgmpaa.pageUndoes
open Go.RowKit

set_option maxHeartbeats 4000000 in
set_option maxRecDepth 100000 in
theorem walked (kd : Int) (o : OV) (w : World) (_ : -9223372036854775808 ≤ kd) (_ : kd ≤ 9223372036854775807) (h : o.In w All) : Calls Try.prog 7 #[.int .i64 kd, o.agg] w fun e w' => e = .returned (.bool true) ∧ Below w.heap.size w w' := by
  obtain ⟨W, hW, hBW, hbx, hsz⟩ := box_op w o
  obtain ⟨y0, y1, y2, y3⟩ := ocs_cells hbx
  have HI := Lib.hid (h.below hBW)
  have HA := Lib.hid ((h.b.mono (T := fun b => b < w.heap.size) fun b hb _ => hb).keep (Fr.of_below hBW No) fun _ _ hn => hn)
  have HBW := Lib.hid hBW
  have HBX := Lib.hid hbx
  have HSZ := Lib.hid hsz
  have HAL := Lib.hid (fun W' => alive_any W')
  obtain ⟨u, hu⟩ : ∃ u, u = undoR kd o.k o.s o.t o.m o.d := ⟨_, rfl⟩
  obtain ⟨r, hr⟩ : ∃ r, r = rightP kd o.k o.s o.t o.m := ⟨_, rfl⟩
  have hu1 := fun W' (hW' : Below W.heap.size W W') => undo_any kd o W' (HI.out.below hW')
  have hr1 := fun W' => right_any kd o W'
  have hc1 := copyOp_any o W HI.out
  rw [← hu] at hu1
  rw [← hr] at hr1
  obtain ⟨k, s, t, A, m, c, d⟩ := o
  have hu2 := fun W' (B : Option Addr) (cb : Nat) (hq : OV.In W' All ⟨k, s, t, B, m, cb, d⟩) => rundo_any kd ⟨k, s, t, B, m, cb, d⟩ W' hq
  have hr2 := fun W' (B : Option Addr) (cb : Nat) => rright_any kd ⟨k, s, t, B, m, cb, d⟩ W'
  simp only at hW y0 y1 y2 y3 hu hr hu1 hr1 hc1 hu2 hr2 HA
  rw [← hu] at hu2
  rw [← hr] at hr2
  simp only [OV.agg] at hu1 hr1 hc1 hu2 hr2 ⊢
  have HU1 := Lib.hid hu1
  have HR1 := Lib.hid hr1
  have HC1 := Lib.hid hc1
  have HU2 := Lib.hid hu2
  have HR2 := Lib.hid hr2
  clear h hBW hbx hsz hu hr hu1 hr1 hc1 hu2 hr2
  by_cases hm : m ≤ 2000
  · have d1 : decide ((m : Int) > 2000) = false := decide_eq_false (by omega)
    have d2 : decide (2000 < m) = false := decide_eq_false (by omega)
    have HC := Lib.hid (HC1.out hm)
    clear HC1 hm
    go_enter Try.func7, Try.ntmps7
    go_wp2_with fail
    refine HC.out.mono ?_
    rintro e w1 ⟨B, cb, rfl, hob, hmcb, hnzb, hb1⟩
    obtain ⟨B', cb', eb, _, _, hrb⟩ := hob.reads
    injection eb with eb _ eb2
    subst eb eb2
    obtain ⟨D1, hD1, hB1, hbx1, hz1⟩ := box_op w1 ⟨k, s, t, B, m, cb, d⟩
    have HRB := Lib.hid ((hrb.mono (T := fun b => W.heap.size ≤ b ∧ b < w1.heap.size) fun b hlt hb => ⟨hb, hlt⟩).keep (Fr.of_below hB1 No) fun _ _ hn => hn)
    have HB1 := Lib.hid (show Below W.heap.size W D1 from hb1.trans (hB1.mono hb1.size))
    have HW1 := Lib.hid hb1.size
    have HZ1 := Lib.hid hz1
    have HBX1 := Lib.hid hbx1
    have HQ1 : Hid (OV.In D1 All ⟨k, s, t, B, m, cb, d⟩) := ⟨HRB.out.mono fun _ _ _ => trivial, HI.out.k1, HI.out.k2, HI.out.s1, HI.out.s2, HI.out.t, hmcb, HI.out.ml, hnzb⟩
    obtain ⟨y0, y1, y2, y3⟩ := ocs_cells (HBX.out.below HB1.out (by have := HSZ.out; omega))
    simp only at hD1 y0 y1 y2 y3
    clear hob hmcb hnzb hb1 hrb hB1 hbx1 hz1
    go_wp2_with fail
    refine (HU1.out D1 HB1.out).mono ?_
    rintro e w2 ⟨R1, c1, rfl, ho1, hb2⟩
    obtain ⟨uk, us, ud, ue⟩ := u
    obtain ⟨n, hn⟩ : ∃ n, n = ud.length := ⟨_, rfl⟩
    simp only at ho1 HU2 ⊢
    rw [← hn] at ho1 ⊢
    obtain ⟨D2, hD2, hB2, hbx2, hz2⟩ := box_op w2 ⟨uk, us, 0, R1, n, c1, ud⟩
    have HO1 := Lib.hid (ho1.mono (T := fun b => D1.heap.size ≤ b ∧ b < w2.heap.size) fun b hlt hb => ⟨hb, hlt⟩)
    have HB12 := Lib.hid (show Below D1.heap.size D1 D2 from hb2.trans (hB2.mono hb2.size))
    have HB2 := Lib.hid (HB1.out.trans (HB12.out.mono HB1.out.size))
    have HW2 := Lib.hid hb2.size
    have HZ2 := Lib.hid hz2
    have HBX2 := Lib.hid hbx2
    have HBB2 := Lib.hid hB2
    have HBX12 := Lib.hid (HBX1.out.below HB12.out (by have := HZ1.out; omega))
    have HRB2 := Lib.hid (HRB.out.keep (Fr.of_below HB12.out No) fun _ _ hn => hn)
    obtain ⟨t0, t1, t2, t3⟩ := ocs_cells HBX12.out
    simp only [Int.ofNat_zero] at hD2 t0 t1 t2 t3
    have HN := Lib.hid hn
    clear ho1 hb2 hB2 hbx2 hz2 hn
    go_wp2_with fail
    refine (HU2.out D2 B cb (HQ1.out.below HB12.out)).mono ?_
    rintro e w3 ⟨R2, c2, rfl, ho2, hb3⟩
    simp only at ho2 ⊢
    rw [← HN.out] at ho2 ⊢
    obtain ⟨D3, hD3, hB3, hbx3, hz3⟩ := box_op w3 ⟨uk, us, 0, R2, n, c2, ud⟩
    have HB23 := Lib.hid (show Below D2.heap.size D2 D3 from hb3.trans (hB3.mono hb3.size))
    have HB3 := Lib.hid (HB2.out.trans (HB23.out.mono HB2.out.size))
    have HW3 := Lib.hid hb3.size
    have HRD2 : Hid (RB D3 All R2 n ud) := by
      obtain ⟨R2', c2', e2, _, _, hr2⟩ := ho2.reads
      injection e2 with e2 _ _
      subst e2
      exact (hr2.mono (T := All) fun _ _ _ => trivial).keep (Fr.of_below hB3 No) fun _ _ hn => hn
    have HO1D : Hid (Ow D3 (fun b => D1.heap.size ≤ b ∧ b < w2.heap.size) (.slice R1 n c1) n ud) := (HO1.out.keep (Fr.of_below HBB2.out No) fun _ _ hn => hn).keep (Fr.of_below HB23.out No) fun _ _ hn => hn
    have HRD1 : Hid (RB D3 All R1 n ud) := by
      obtain ⟨R2', c2', e2, _, _, hr2⟩ := HO1D.out.reads
      injection e2 with e2 _ _
      subst e2
      exact hr2.mono fun _ _ _ => trivial
    have HBXQ := Lib.hid (HBX12.out.below HB23.out HBX12.out.lt)
    have HBXR := Lib.hid (HBX2.out.below HB23.out (by have := HZ2.out; omega))
    have HBXO := Lib.hid (HBX.out.below HB3.out (by have := HSZ.out; omega))
    have HRBQ := Lib.hid (HRB2.out.keep (Fr.of_below HB23.out No) fun _ _ hn => hn)
    have HRBA := Lib.hid (HA.out.keep (Fr.of_below HB3.out No) fun _ _ hn => hn)
    have HS12 : Hid (∀ W', Below D3.heap.size D3 W' → Calls Try.prog 32 #[.agg #[.int .i64 uk, .int .i64 us, .int .u32 0, .slice R1 n c1], .agg #[.int .i64 uk, .int .i64 us, .int .u32 0, .slice R2 n c2]] W' fun e w' => e = .returned (.bool true) ∧ Below W'.heap.size W' w') := fun W' hW' => sameOp_any uk us 0 n ud R1 R2 c1 c2 W' (HRD1.out.keep (Fr.of_below hW' No) fun _ _ hn => hn) (HRD2.out.keep (Fr.of_below hW' No) fun _ _ hn => hn)
    obtain ⟨x0, x1, x2, x3⟩ := ocs_cells HBXO.out
    obtain ⟨q0, q1, q2, q3⟩ := ocs_cells HBXQ.out
    obtain ⟨r0, r1, r2, r3⟩ := ocs_cells HBXR.out
    obtain ⟨v0, v1, v2, v3⟩ := ocs_cells hbx3
    simp only [Int.ofNat_zero] at hD3 x0 x1 x2 x3 q0 q1 q2 q3 r0 r1 r2 r3 v0 v1 v2 v3
    have ee : (ue == ue) = true := by simp
    have rr : (r == r) = true := by simp
    clear ho2 hb3 hB3 hbx3 hz3 t0 t1 t2 t3 y0 y1 y2 y3
    go_upto_region 6 with fail
    have zx0 := fun d os => cell_regrown x0 d os
    have zx1 := fun d os => cell_regrown x1 d os
    have zx2 := fun d os => cell_regrown x2 d os
    have zx3 := fun d os => cell_regrown x3 d os
    have zq0 := fun d os => cell_regrown q0 d os
    have zq1 := fun d os => cell_regrown q1 d os
    have zq2 := fun d os => cell_regrown q2 d os
    have zq3 := fun d os => cell_regrown q3 d os
    have zr0 := fun d os => cell_regrown r0 d os
    have zr1 := fun d os => cell_regrown r1 d os
    have zr2 := fun d os => cell_regrown r2 d os
    have zr3 := fun d os => cell_regrown r3 d os
    have zv0 := fun d os => cell_regrown v0 d os
    have zv1 := fun d os => cell_regrown v1 d os
    have zv2 := fun d os => cell_regrown v2 d os
    have zv3 := fun d os => cell_regrown v3 d os
    refine wp_region_quiet_below (by kernel_rfl) (by kernel_rfl) ?_
    repeat (go_big_quiet_step (first | (go_at_call 32; with_reducible exact Calls.regrown_of (HS12.out _ (below_regrown _ _ _))) | (go_at_call 35; with_reducible exact Calls.regrown_of (HR1.out _)) | (go_at_call 36; with_reducible exact Calls.regrown_of (HR2.out _ B cb))))
    refine wpQuiet_nil ?_
    rintro W4 ⟨pp, hpp⟩
    have HB34 := Lib.hid (show Below D3.heap.size D3 W4 by rw [hpp]; exact below_regrown _ _ _)
    clear hpp x0 x1 x2 x3 q0 q1 q2 q3 r0 r1 r2 r3 v0 v1 v2 v3 zx0 zx1 zx2 zx3 zq0 zq1 zq2 zq3 zr0 zr1 zr2 zr3 zv0 zv1 zv2 zv3
    obtain ⟨OS, hOS⟩ : ∃ OS : Nat → Prop, OS = fun b => D1.heap.size ≤ b ∧ b < w2.heap.size := ⟨_, rfl⟩
    obtain ⟨A4, c4, e4, hwb⟩ := WB.of_ow (HO1D.out.keep (Fr.of_below HB34.out No) fun _ _ hn => hn)
    injection e4 with e4 _ e5
    subst e4 e5
    rw [← hOS] at hwb
    have HWB := Lib.hid hwb
    have HOS := Lib.hid (show ∀ b, OS b → D1.heap.size ≤ b ∧ b < w2.heap.size by rw [hOS]; exact fun b hb => hb)
    have HNB : Hid (n ≤ 9223372036854775807) := by
      rcases HO1D.out.1.2 with ⟨_, h0⟩ | ⟨_, cap, _, _, _, _, h1, h2, _⟩
      · exact Lib.hid (by omega)
      · exact Lib.hid (by have h3 : cap ≤ 9223372036854775807 := by simpa [maxLen] using h2
                          omega)
    have HB4 := Lib.hid (HB3.out.trans (HB34.out.mono HB3.out.size))
    have HO4 := Lib.hid (HBXO.out.below HB34.out HBXO.out.lt)
    have HQ4 := Lib.hid (HBXQ.out.below HB34.out HBXQ.out.lt)
    have HR4 := Lib.hid (HBXR.out.below HB34.out HBXR.out.lt)
    have HRQ4 := Lib.hid (HRBQ.out.keep (Fr.of_below HB34.out No) fun _ _ hn => hn)
    have HRA4 := Lib.hid (HRBA.out.keep (Fr.of_below HB34.out No) fun _ _ hn => hn)
    clear hwb hOS
    go_wp2_with fail
    go_loopw [11] (fun u wy => ∃ i : Nat, u = .int .i64 (i : Int) ∧ i ≤ n ∧ WB wy OS R1 n ∧ Fr W4 wy OS) (fun u _ => n - (intOf u).toNat)
    case atStart => exact ⟨0, rfl, by omega, HWB.out, Fr.refl _ _⟩
    case round =>
      obtain ⟨i, rfl, hi, hw, hf⟩ := hrel
      obtain ⟨r0, r1, r2, r3⟩ := ocs_cells (HR4.out.keep hf fun h => by have := HOS.out _ h; omega)
      obtain ⟨s0, s1, s2, s3⟩ := ocs_cells ((HR4.out.keep hf fun h => by have := HOS.out _ h; omega).drew)
      simp only [Int.ofNat_zero] at r0 r1 r2 r3 s0 s1 s2 s3
      by_cases hlt : i < n
      · obtain ⟨ad, x, rfl, hx, hcell, hfz, hOa, hset⟩ := hw.at_ hlt
        obtain ⟨y, hy⟩ : ∃ y, y = (x + 1) % 256 := ⟨_, rfl⟩
        have hy2 : y < 256 := by omega
        have hw8 : IntKind.u8.wrap ((x : Int) + 1) = (y : Int) := by rw [IntKind.wrap_u8]; omega
        have HSS := Lib.hid (hset y hy2)
        have HFi := Lib.hid (show Fr W4 (World.setCell _ (ad.add i) (.int .u8 (y : Int))) OS from hf.setCell (Or.inl (by rw [block_of_add]; exact hOa)) _)
        have hin : ((i : Int) < (n : Int)) := by omega
        have hi0 : (0 : Int) ≤ (i : Int) := by omega
        have hWi : IntKind.i64.wrap ((i : Int) + 1) = ((i + 1 : Nat) : Int) := by have := HNB.out; rw [IntWalk.i64_in _ (by omega)]; omega
        have hcd : World.cell? (World.drew _) (ad.add i) = _ := hcell
        have hfd : World.frozen? (World.drew _) (ad.add i) = false := hfz
        clear hw hf hset hy hx
        go_wp2_with fail
        go_region
        all_goals
          go_wp2
          go_roundw
          case rel => exact ⟨i + 1, by go_num, by omega, HSS.out.keep (T := No) (Fr.refl _ No).drew (fun _ _ hn => hn), HFi.out.drew⟩
          case measure => simp [intOf]; omega
      · have h1d : decide ((i : Int) < (n : Int)) = false := decide_eq_false (by omega)
        have h1d2 : decide (i < n) = false := decide_eq_false hlt
        have HFF := Lib.hid hf
        clear hw hf s0 s1 s2 s3
        obtain ⟨y0, y1, y2, y3⟩ := ocs_cells (HO4.out.keep HFF.out fun h => by have := HOS.out _ h; have := HW1.out; have := HZ1.out; have := HSZ.out; omega)
        obtain ⟨q0, q1, q2, q3⟩ := ocs_cells (HQ4.out.keep HFF.out fun h => by have := HOS.out _ h; have := HZ1.out; omega)
        simp only at y0 y1 y2 y3 q0 q1 q2 q3
        have HSA := Lib.hid (sameOp_any k s t m d A B c cb _ ((HRA4.out.keep HFF.out fun b hb h => by have := HOS.out _ h; have := HW1.out; have := HZ1.out; have := HSZ.out; omega).mono fun _ _ _ => trivial) ((HRQ4.out.keep HFF.out fun b hb h => by have := HOS.out _ h; have := HZ1.out; omega).mono fun _ _ _ => trivial))
        have HB9 := Lib.hid (HB4.out.trans (HFF.out.below (B := W.heap.size) (fun b hb => by have := HOS.out b hb; have := HW1.out; have := HZ1.out; omega) HB4.out.size))
        go_wp2_with fail
        refine HSA.out.mono ?_
        rintro e w8 ⟨rfl, hb8⟩
        have HB10 := Lib.hid (HB9.out.trans (hb8.mono HB9.out.size))
        clear hb8
        go_wp2_with fail
        refine (HAL.out _).mono ?_
        rintro e w9 ⟨rfl, hb9⟩
        have HB11 := Lib.hid (HB10.out.trans (hb9.mono HB10.out.size))
        clear hb9
        go_wp2_with fail
        go_ret
        exact ⟨rfl, HBW.out.trans (HB11.out.mono HBW.out.size)⟩
  · have d1 : decide ((m : Int) > 2000) = true := decide_eq_true (by omega)
    have d2 : decide (2000 < m) = true := decide_eq_true (by omega)
    clear hm
    go_enter Try.func7, Try.ntmps7
    go_wp2_with fail
    refine (HAL.out _).mono ?_
    rintro e w2 ⟨rfl, hb2⟩
    have HB2 := Lib.hid hb2
    clear hb2
    go_wp2_with fail
    go_ret
    exact ⟨rfl, HBW.out.trans (HB2.out.mono HBW.out.size)⟩
end Go.Proofs.Ytajmpoanmdgmpaa.pageUndoes
