/-
STAGE 8: Room.
-/
import Derived.Test.YtcajidlekfkjlaaPH
import Derived.Test.YtcajidlekfkjlaaPD
import Derived.Deep.RegionWith
import Derived.Deep.Cut
import Derived.BigQuiet
import Derived.Lib.QuietBelow
namespace Go.Proofs.Ytcajidlekfkjlaa
open Go.RowKit
set_option maxRecDepth 100000 in
theorem hasUnused_any (A : Option Addr) (n c : Nat) (l : List CV) (w : World) (h : CR w All All A n l) (hn : n ≤ 1000) :
    Calls Try.prog 88 #[.slice A n c] w fun q w' => q = .returned (.bool (unused (l.map CV.e))) ∧ Below w.heap.size w w' := by
  have HR := Lib.hid h
  have HL := Lib.hid h.1
  have HB0 := Lib.hid (Below.refl w.heap.size w)
  clear h
  go_enter Try.func88, Try.ntmps88
  go_wp2
  go_loopw [7] (fun i wr => ∃ k : Nat, k ≤ n ∧ i = .int .i64 (k : Int) ∧ unused ((l.map CV.e).take k) = false ∧ Below w.heap.size w wr) (fun i _ => n - (intOf i).toNat)
  case atStart => exact ⟨0, by omega, rfl, rfl, HB0.out⟩
  case round =>
    obtain ⟨k, hk, rfl, hall, hbel⟩ := hrel
    have HB := Lib.hid hbel
    have HA := Lib.hid hall
    have hsz := hbel.size
    clear hbel hall
    by_cases hlt : k < n
    · obtain ⟨g, o, x, rfl, hg, _, hx, hxi, b0, b1, b2⟩ := (HR.out.below HB.out).at_ hlt
      have HX := Lib.hid (es_at hx)
      obtain ⟨u, kk, xA, m, xc, d⟩ := x
      simp only at b0 b1 b2
      have HB2 := Lib.hid (HB.out.alloc hsz (.cells #[.bool u, .int .u32 (kk : Int), .slice xA m xc] 48))
      have hWi : IntKind.i64.wrap ((k : Int) + 1) = ((k + 1 : Nat) : Int) := by rw [IntWalk.i64_in _ (by omega)]; omega
      have hin : ((k : Int) < (n : Int)) := by omega
      clear hx hxi
      cases u with
      | true =>
        have HN := Lib.hid (any_next HX.out HA.out rfl)
        go_wp2_with fail
        go_roundw
        case rel => exact ⟨k + 1, by omega, by go_num, HN.out, HB2.out⟩
        case measure => simp [intOf]; omega
      | false =>
        have HN := Lib.hid (any_here HX.out rfl)
        go_wp2_with fail
        go_ret
        exact ⟨by rw [HN.out]; rfl, HB2.out⟩
    · have h1d : decide ((k : Int) < (n : Int)) = false := decide_eq_false (by omega)
      have h1d2 : decide (k < n) = false := decide_eq_false hlt
      have HN := Lib.hid (show unused (l.map CV.e) = false by have := HA.out; rwa [List.take_of_length_le (by rw [List.length_map, HL.out]; omega)] at this)
      go_wp2
      go_ret
      exact ⟨by rw [HN.out]; rfl, HB.out⟩
set_option maxHeartbeats 1000000 in
set_option maxRecDepth 100000 in
theorem room_any (p : PV) (w : World) (h : p.In w All All) (hf : Few p) (hn3 : p.n ≤ 300) : Calls Try.prog 76 #[p.agg] w fun e w' => e = .returned (.int .i64 ((room p.k p.es : Nat) : Int)) ∧ Below w.heap.size w w' := by
  obtain ⟨W, hW, hBW, hbx, hsz⟩ := box_page w p
  obtain ⟨y0, y1, y2, y3⟩ := pcs_cells hbx
  have HP := Lib.hid (h.below hBW)
  have HF := Lib.hid hf
  have HBW := Lib.hid hBW
  have HBX := Lib.hid hbx
  have HSZ := Lib.hid hsz
  have HE1 : Hid (p.es.length = p.n) := h.len
  have HM := Lib.hid (may_any p W (h.below hBW) hf)
  obtain ⟨pk, ps, px, A, n, c, l⟩ := p
  simp only at hW y0 y1 y2 y3
  have hn3 : n ≤ 300 := hn3
  have HT := Lib.hid (takesOps_any pk W)
  have HR := Lib.hid (show room pk (l.map CV.e) = if takes pk && may pk (l.map CV.e) then roomN (l.map CV.e) else 0 from rfl)
  simp only [PV.agg, PV.es] at HM ⊢
  clear h hf hBW hbx hsz
  obtain ⟨a, ha⟩ : ∃ a, takes pk = a := ⟨_, rfl⟩
  obtain ⟨b, hb⟩ : ∃ b, may pk (l.map CV.e) = b := ⟨_, rfl⟩
  rw [ha] at HT HR
  rw [hb] at HM HR
  have HMB := Lib.hid hb
  clear ha hb
  cases a with
  | false =>
    go_enter Try.func76, Try.ntmps76
    go_wp2_with fail
    refine HT.out.mono ?_
    rintro e w1 ⟨rfl, rfl⟩
    go_wp2_with fail
    go_ret
    exact ⟨by rw [HR.out]; rfl, HBW.out⟩
  | true =>
    go_enter Try.func76, Try.ntmps76
    go_wp2_with fail
    refine HT.out.mono ?_
    rintro e w1 ⟨rfl, rfl⟩
    go_wp2_with fail
    refine HM.out.mono ?_
    rintro e w1 ⟨rfl, hb1⟩
    have HB1 := Lib.hid hb1
    obtain ⟨y0, y1, y2, y3⟩ := pcs_cells (HBX.out.below hb1 (by have := HSZ.out; omega))
    simp only at y0 y1 y2 y3
    clear hb1
    cases b with
    | false =>
      go_wp2_with fail
      go_ret
      exact ⟨by rw [HR.out]; rfl, HBW.out.trans (HB1.out.mono HBW.out.size)⟩
    | true =>
      obtain ⟨hz1, hz2, hz3⟩ := may_psz HMB.out
      have HS := Lib.hid (size_any ⟨pk, ps, px, A, n, c, l⟩ w1 (HP.out.below HB1.out) (fun x hx => Nat.le_trans (HF.out.m x hx) (by omega)) (Nat.le_trans HF.out.n (by omega)))
      simp only [PV.agg, PV.es] at HS
      have hRR : roomN (l.map CV.e) = if unused (l.map CV.e) then min (508 - psz (l.map CV.e)) 180 else if n = 60 then 0 else min (506 - psz (l.map CV.e)) 180 := by
        have := HE1.out
        simp only [PV.es] at this
        rw [roomN, this]
      obtain ⟨z, hz⟩ : ∃ z, z = psz (l.map CV.e) := ⟨_, rfl⟩
      rw [← hz] at HS hz1 hz2 hRR
      have HRR := Lib.hid (HR.out.trans (show _ = roomN (l.map CV.e) from rfl))
      have HRN := Lib.hid hRR
      clear hz hRR
      go_wp2_with fail
      refine HS.out.mono ?_
      rintro e w2 ⟨rfl, hb2⟩
      have HB2 := Lib.hid (HB1.out.trans (hb2.mono HB1.out.size))
      obtain ⟨y0, y1, y2, y3⟩ := pcs_cells (HBX.out.below HB2.out (by have := HSZ.out; omega))
      simp only at y0 y1 y2 y3
      clear hb2
      have HU := Lib.hid (hasUnused_any A n c l w2 (HP.out.r.below HB2.out) (by omega))
      have e1 : IntKind.i64.wrap (512 - (z : Int)) = 512 - (z : Int) := IntWalk.i64_in _ (by omega)
      have e2 : IntKind.i64.wrap (512 - (z : Int) - 6) = 512 - (z : Int) - 6 := IntWalk.i64_in _ (by omega)
      obtain ⟨b, hb⟩ : ∃ b, unused (l.map CV.e) = b := ⟨_, rfl⟩
      rw [hb] at HU HRN
      clear hb
      cases b with
      | true =>
        have e3 : IntKind.i64.wrap (512 - (z : Int) - 6 + 2) = ((508 : Int) - (z : Int)) := by rw [IntWalk.i64_in _ (by omega)]; omega
        go_wp2_with fail
        refine HU.out.mono ?_
        rintro e w3 ⟨rfl, hb3⟩
        have HB3 := Lib.hid (HB2.out.trans (hb3.mono HB2.out.size))
        clear hb3
        have HRN2 := Lib.hid (HRN.out.trans (show _ = min (508 - z) 180 by simp))
        go_wp2_with fail
        all_goals
          go_ret
          refine ⟨?_, HBW.out.trans (HB3.out.mono HBW.out.size)⟩
          rw [HRR.out, HRN2.out]
          simp
          omega
      | false =>
        by_cases h60 : n = 60
        · have e4 : ((n : Int) == 60) = true := by rw [beq_iff_eq]; omega
          have HRN2 := Lib.hid (HRN.out.trans (show _ = 0 by rw [if_neg (by decide), if_pos h60]))
          clear h60
          go_wp2_with fail
          refine HU.out.mono ?_
          rintro e w3 ⟨rfl, hb3⟩
          have HB3 := Lib.hid (HB2.out.trans (hb3.mono HB2.out.size))
          obtain ⟨y0, y1, y2, y3⟩ := pcs_cells (HBX.out.below HB3.out (by have := HSZ.out; omega))
          simp only at y0 y1 y2 y3
          clear hb3
          go_wp2_with fail
          go_ret
          exact ⟨by rw [HRR.out, HRN2.out]; rfl, HBW.out.trans (HB3.out.mono HBW.out.size)⟩
        · have e4 : ((n : Int) == 60) = false := beq_false_of_ne (by omega)
          have HRN2 := Lib.hid (HRN.out.trans (show _ = min (506 - z) 180 by rw [if_neg (by decide), if_neg h60]))
          clear h60
          go_wp2_with fail
          refine HU.out.mono ?_
          rintro e w3 ⟨rfl, hb3⟩
          have HB3 := Lib.hid (HB2.out.trans (hb3.mono HB2.out.size))
          obtain ⟨y0, y1, y2, y3⟩ := pcs_cells (HBX.out.below HB3.out (by have := HSZ.out; omega))
          simp only at y0 y1 y2 y3
          clear hb3
          go_wp2_with fail
          all_goals
            go_ret
            refine ⟨?_, HBW.out.trans (HB3.out.mono HBW.out.size)⟩
            rw [HRR.out, HRN2.out]
            simp
            omega
end Go.Proofs.Ytcajidlekfkjlaa
