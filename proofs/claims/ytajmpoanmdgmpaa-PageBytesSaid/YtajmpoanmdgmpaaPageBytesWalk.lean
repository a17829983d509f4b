/-
  THE WALK OF PageBytes.
-/
import Derived.Test.YtajmpoanmdgmpaaPN
import Derived.Test.YtajmpoanmdgmpaaPO
import Derived.Test.YtajmpoanmdgmpaaPW
namespace Go.Proofs.Ytajmpoanmdgmpaa.pageBytes
open Go.RowKit

attribute [local go_sem high] run_neqL run_eqL
theorem seq_refl (l : List Nat) : seq l l = true := by simp [seq]
set_option maxHeartbeats 4000000 in
set_option maxRecDepth 100000 in
theorem walked (p : PV) (w : World) (h : p.In w All All) : Calls Try.prog 4 #[p.agg] w fun e w' => e = .returned (.bool true) ∧ Below w.heap.size w w' := by
  obtain ⟨W, hW, hBW, hbx, hsz⟩ := box_page w p
  obtain ⟨y0, y1, y2, y3⟩ := pcs_cells hbx
  have HP := Lib.hid ((h.mono (S' := fun b => b < w.heap.size) (T' := fun b => b < w.heap.size) (fun b hb _ => hb) fun b hb _ => hb).below hBW)
  have HBW := Lib.hid hBW
  have HBX := Lib.hid hbx
  have HSZ := Lib.hid hsz
  have HLO := Lib.hid (long_any p W (h.below hBW))
  have HCP := Lib.hid (fun W' (hW' : Below W.heap.size W W') => copyPage_any p W' ((h.below hBW).below hW'))
  have HAL := Lib.hid (fun W' => alive_any W')
  obtain ⟨pk, ps, px, A, n, c, l⟩ := p
  simp only at hW y0 y1 y2 y3
  simp only [PV.agg] at HLO HCP ⊢
  clear h hBW hbx hsz
  go_enter Try.func4, Try.ntmps4
  go_wp2_with fail
  refine HLO.out.mono ?_
  rintro e w1 ⟨b, rfl, hb1, hfew⟩
  have HB1 := Lib.hid hb1
  obtain ⟨y0, y1, y2, y3⟩ := pcs_cells (HBX.out.below hb1 (by have := HSZ.out; omega))
  simp only at y0 y1 y2 y3
  clear hb1
  cases b with
  | true =>
    go_wp2_with fail
    refine (HAL.out _).mono ?_
    rintro e w2 ⟨rfl, hb2⟩
    have HB2 := Lib.hid (HB1.out.trans (hb2.mono HB1.out.size))
    clear hb2
    go_wp2_with fail
    go_ret
    exact ⟨rfl, HBW.out.trans (HB2.out.mono HBW.out.size)⟩
  | false =>
    have HF := Lib.hid (hfew rfl)
    clear hfew
    go_wp2_with fail
    refine (HCP.out _ HB1.out HF.out).mono ?_
    rintro e w2 ⟨q, S, T, rfl, hpo, hS, hT, hes, hqk, hqs, hqx, hqn, hb2⟩
    have HB2 := Lib.hid (HB1.out.trans (hb2.mono HB1.out.size))
    obtain ⟨W3, hW3, hB3, hbx3, hsz3⟩ := box_page w2 q
    have hB03 : Below W.heap.size W W3 := HB2.out.trans (hB3.mono HB2.out.size)
    have hqi : q.In W3 (fun b => b < W3.heap.size) (fun b => b < W3.heap.size) := (hpo.In.mono (S' := fun b => b < W3.heap.size) (T' := fun b => b < W3.heap.size) (fun b hb _ => by omega) fun b hb _ => by omega).below hB3
    have hpi : PV.In W3 (fun b => b < W3.heap.size) (fun b => b < W3.heap.size) ⟨pk, ps, px, A, n, c, l⟩ := (HP.out.below hB03).mono (fun b hb _ => hb) fun b hb _ => hb
    have hqf : Few q := few_of hqi (by rw [hes]; have := HF.out.n; have h9 := HP.out.len; rw [h9]; exact this) (by
      rw [hes]
      intro c hc
      obtain ⟨x, hx, rfl⟩ := List.mem_map.1 hc
      have h1 := HF.out.m x hx
      have h2 := (HP.out.r.2.1 x hx).len
      show x.d.length ≤ 2000
      omega)
    have hbp3 := HBX.out.below hB03 (by have := HSZ.out; omega)
    obtain ⟨y0, y1, y2, y3⟩ := pcs_cells hbp3
    obtain ⟨t0, t1, t2, t3⟩ := pcs_cells hbx3
    simp only at y0 y1 y2 y3
    have hsame : sameP ⟨pk, ps, px, A, n, c, l⟩ q = true := by
      unfold sameP
      rw [hqk, hqs, hqx, hes]
      simp
    have HSM := Lib.hid hsame
    have HB03 := Lib.hid hB03
    have HPI3 := Lib.hid hpi
    have HQI3 := Lib.hid hqi
    have HBP3 := Lib.hid hbp3
    have HBQ3 := Lib.hid hbx3
    have HPZ := Lib.hid (show w.heap.size < W3.heap.size by have := hbp3.lt; exact this)
    have HQZ := Lib.hid (show w2.heap.size < W3.heap.size by omega)
    have HQF := Lib.hid hqf
    have HEQS := Lib.hid (show q.k = pk ∧ q.s = ps ∧ q.x = px ∧ q.es = (⟨pk, ps, px, A, n, c, l⟩ : PV).es from ⟨hqk, hqs, hqx, hes⟩)
    cases hmay : may pk (⟨pk, ps, px, A, n, c, l⟩ : PV).es with
    | false =>
      have HEN := Lib.hid (encode_no ⟨pk, ps, px, A, n, c, l⟩ W3 hpi.all HF.out hmay)
      have HRE := Lib.hid (fun W' (hW' : Below W3.heap.size W3 W') => rencode_no q W' (hqi.all.below hW') hqf (by rw [hqk, hes]; exact hmay))
      simp only [PV.agg] at HEN HRE
      clear hpo hS hT hes hqk hqs hqx hqn hb2 hB3 hbx3 hsz3 hB03 hqi hqf hpi hsame hbp3 hmay
      go_wp2_with fail
      refine HEN.out.mono ?_
      rintro e w4 ⟨rfl, hb4⟩
      have HB4 := Lib.hid hb4
      obtain ⟨t0, t1, t2, t3⟩ := pcs_cells (HBQ3.out.below hb4 HQZ.out)
      clear hb4
      go_wp2_with fail
      refine (HRE.out _ HB4.out).mono ?_
      rintro e w5 ⟨rfl, hb5⟩
      have HB5 := Lib.hid (HB4.out.trans (hb5.mono HB4.out.size))
      have hcv := run_conv All none 0 0 [] w5 RB.nil_
      have hse := seq_refl []
      obtain ⟨y0, y1, y2, y3⟩ := pcs_cells (HBP3.out.below HB5.out HPZ.out)
      obtain ⟨t0, t1, t2, t3⟩ := pcs_cells (HBQ3.out.below HB5.out HQZ.out)
      simp only at y0 y1 y2 y3
      have HSA := Lib.hid (same_any ⟨pk, ps, px, A, n, c, l⟩ q w5 (HPI3.out.all.below HB5.out) (HQI3.out.all.below HB5.out))
      rw [HSM.out] at HSA
      simp only [PV.agg] at HSA
      clear hb5
      go_wp2_with fail
      go_loopw [7] (fun u wy => u = .int .i64 0 ∧ w5 = wy) (fun _ _ => 0)
      case atStart => exact ⟨rfl, rfl⟩
      case round =>
        obtain ⟨rfl, rfl⟩ := hrel
        go_wp2_with fail
        refine HSA.out.mono ?_
        rintro e w8 ⟨rfl, hb8⟩
        have HB10 := Lib.hid (HB5.out.trans (hb8.mono HB5.out.size))
        clear hb8
        go_wp2_with fail
        refine (HAL.out _).mono ?_
        rintro e w9 ⟨rfl, hb9⟩
        have HB11 := Lib.hid (HB10.out.trans (hb9.mono HB10.out.size))
        clear hb9
        go_wp2_with fail
        go_ret
        exact ⟨rfl, HBW.out.trans ((HB03.out.trans (HB11.out.mono HB03.out.size)).mono HBW.out.size)⟩
    | true =>
      have HEN := Lib.hid (encode_yes ⟨pk, ps, px, A, n, c, l⟩ W3 hpi.all HF.out hmay)
      have hre := fun W' (hW' : Below W3.heap.size W3 W') => rencode_yes q W' (hqi.all.below hW') hqf (by rw [hqk, hes]; exact hmay)
      rw [hqk, hqs, hqx, hes] at hre
      have HRE := Lib.hid hre
      simp only [PV.agg] at HEN HRE
      obtain ⟨Z, hZ⟩ : ∃ Z, Z = encB pk.toNat ps px (⟨pk, ps, px, A, n, c, l⟩ : PV).es := ⟨_, rfl⟩
      rw [← hZ] at HEN HRE
      clear hpo hS hT hes hqk hqs hqx hqn hb2 hB3 hbx3 hsz3 hB03 hqi hqf hpi hsame hbp3 hmay hre hZ
      go_wp2_with fail
      refine HEN.out.mono ?_
      rintro e w4 ⟨v4, rfl, ho4, hb4⟩
      have ho4' : Ow w4 (fun b => W3.heap.size ≤ b ∧ b < w4.heap.size) v4 512 Z := ho4.mono fun b hlt hb => ⟨hb, hlt⟩
      obtain ⟨A4, c4, rfl, hwb⟩ := WB.of_ow ho4'
      obtain ⟨A4', c4', e4, _, _, hr4⟩ := ho4'.reads
      injection e4 with e4 _ e5
      subst e4 e5
      obtain ⟨OS, hOS⟩ : ∃ OS : Nat → Prop, OS = fun b => W3.heap.size ≤ b ∧ b < w4.heap.size := ⟨_, rfl⟩
      rw [← hOS] at hwb hr4
      have HB4 := Lib.hid hb4
      have HW4 := Lib.hid hwb
      have HR4 := Lib.hid hr4
      have HOS := Lib.hid (show ∀ b, OS b → W3.heap.size ≤ b by rw [hOS]; exact fun b hb => hb.1)
      obtain ⟨t0, t1, t2, t3⟩ := pcs_cells (HBQ3.out.below hb4 HQZ.out)
      clear ho4 ho4' hb4 hwb hr4 hOS HEN
      go_wp2_with fail
      refine (HRE.out _ HB4.out).mono ?_
      rintro e w6 ⟨v6, rfl, ho6, hb6⟩
      obtain ⟨A6, c6, rfl, _, _, hr6⟩ := ho6.reads
      have hcv1 := run_conv OS A4 512 c4 Z w6 (HR4.out.keep (Fr.of_below hb6 No) fun _ _ hn => hn)
      have hcv2 := run_conv _ A6 512 c6 Z w6 hr6
      have hse := seq_refl Z
      have HB46 := Lib.hid (HB4.out.trans (hb6.mono HB4.out.size))
      have HWB := Lib.hid (HW4.out.keep (Fr.of_below hb6 No) fun _ _ hn => hn)
      have HB6 := Lib.hid (HB03.out.trans (HB46.out.mono HB03.out.size))
      have HPI := Lib.hid (HPI3.out.below HB46.out)
      have HQI := Lib.hid (HQI3.out.below HB46.out)
      have HBXP := Lib.hid (HBP3.out.below HB46.out HPZ.out)
      have HBXQ := Lib.hid (HBQ3.out.below HB46.out HQZ.out)
      have HW34 := Lib.hid (show W.heap.size ≤ W3.heap.size from HB03.out.size)
      have hpz := HPZ.out
      have hqz := HQZ.out
      clear ho6 hb6 hr6 HRE
      go_wp2_with fail
      go_loopw [7] (fun u wy => ∃ i : Nat, u = .int .i64 (i : Int) ∧ i ≤ 512 ∧ WB wy OS A4 512 ∧ Fr w6 wy OS) (fun u _ => 512 - (intOf u).toNat)
      case atStart => exact ⟨0, rfl, by omega, HWB.out, Fr.refl _ _⟩
      case round =>
        obtain ⟨i, rfl, hi, hw, hf⟩ := hrel
        by_cases hlt : i < 512
        · obtain ⟨ad, x, rfl, hx, hcell, hfz, hOa, hset⟩ := hw.at_ hlt
          obtain ⟨y, hy⟩ : ∃ y, y = (x + 1) % 256 := ⟨_, rfl⟩
          have hy2 : y < 256 := by omega
          have hw8 : IntKind.u8.wrap ((x : Int) + 1) = (y : Int) := by rw [IntKind.wrap_u8]; omega
          have HSS := Lib.hid (hset y hy2)
          have HFi := Lib.hid (show Fr w6 (World.setCell _ (ad.add i) (.int .u8 (y : Int))) OS from hf.setCell (Or.inl (by rw [block_of_add]; exact hOa)) _)
          have hin : ((i : Int) < 512) := by omega
          have hWi : IntKind.i64.wrap ((i : Int) + 1) = ((i + 1 : Nat) : Int) := by rw [IntWalk.i64_in _ (by omega)]; omega
          clear hw hf hset hy hx
          go_wp2_with fail
          go_roundw
          case rel => exact ⟨i + 1, by go_num, by omega, HSS.out, HFi.out⟩
          case measure => simp [intOf]; omega
        · have h1d : decide ((i : Int) < 512) = false := decide_eq_false (by omega)
          have h1d2 : decide (i < 512) = false := decide_eq_false hlt
          have HFF := Lib.hid hf
          clear hw hf
          obtain ⟨y0, y1, y2, y3⟩ := pcs_cells (HBXP.out.keep HFF.out fun h => by have := HOS.out _ h; omega)
          obtain ⟨t0, t1, t2, t3⟩ := pcs_cells (HBXQ.out.keep HFF.out fun h => by have := HOS.out _ h; omega)
          simp only at y0 y1 y2 y3
          have hp9 := HPI.out.keep HFF.out (fun b hb h => by have := HOS.out _ h; omega) (fun b hb h => by have := HOS.out _ h; omega)
          have hq9 := HQI.out.keep HFF.out (fun b hb h => by have := HOS.out _ h; omega) (fun b hb h => by have := HOS.out _ h; omega)
          have HSA := Lib.hid (same_any ⟨pk, ps, px, A, n, c, l⟩ q _ hp9.all hq9.all)
          rw [HSM.out] at HSA
          have HB9 := Lib.hid (HB6.out.trans (HFF.out.below (B := W.heap.size) (fun b hb => by have := HOS.out b hb; have := HW34.out; omega) HB6.out.size))
          simp only [PV.agg] at HSA
          clear hp9 hq9
          go_wp2_with fail
          refine HSA.out.mono ?_
          rintro e w8 ⟨rfl, hb8⟩
          have HB10 := Lib.hid (HB9.out.trans (hb8.mono HB9.out.size))
          clear hb8
          go_wp2_with fail
          refine (HAL.out _).mono ?_
          rintro e w9 ⟨rfl, hb9⟩
          have HB11 := Lib.hid (HB10.out.trans (hb9.mono HB10.out.size))
          clear hb9
          go_wp2_with fail
          go_ret
          exact ⟨rfl, HBW.out.trans (HB11.out.mono HBW.out.size)⟩
end Go.Proofs.Ytajmpoanmdgmpaa.pageBytes
