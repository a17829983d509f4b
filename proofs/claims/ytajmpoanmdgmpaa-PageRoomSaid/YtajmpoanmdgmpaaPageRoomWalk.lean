/-
  THE WALK OF PageRoom.
-/
import Derived.Test.YtajmpoanmdgmpaaTQ
namespace Go.Proofs.Ytajmpoanmdgmpaa.pageRoom
open Go.RowKit

theorem rep_next (q x : Nat) : List.replicate q x ++ [x] = List.replicate (q + 1) x := (List.replicate_succ' ..).symm
set_option maxHeartbeats 8000000 in
set_option maxRecDepth 100000 in
theorem walked (p : PV) (x : Nat) (w : World) (hp : p.In w All All) (hx : x < 256) : Calls Try.prog 12 #[p.agg, .int .u8 (x : Int)] w fun e w' => e = .returned (.bool true) ∧ Below w.heap.size w w' := by
  obtain ⟨W, hW, hBW, hbx, hsz⟩ := box_page w p
  have HP := Lib.hid (hp.below hBW)
  have HBW := Lib.hid hBW
  have HBXP := Lib.hid hbx
  have HLO := Lib.hid (fun W' (hW' : Below W.heap.size W W') => long_any p W' ((hp.below hBW).below hW'))
  have HAL := Lib.hid (fun W' => alive_any W')
  have HLN : Hid (p.es.length = p.n) := hp.len
  obtain ⟨y0, y1, y2, y3⟩ := pcs_cells hbx
  obtain ⟨pk, ps, px, A, n, c, l⟩ := p
  simp only at hW y0 y1 y2 y3
  simp only [PV.agg] at HLO ⊢
  clear hp hBW hbx hsz
  go_enter Try.func12, Try.ntmps12
  go_wp2_with fail
  refine (HLO.out W (Below.refl _ _)).mono ?_
  rintro e w1 ⟨b, rfl, hb1, hfew⟩
  have HB1 := Lib.hid hb1
  obtain ⟨y0, y1, y2, y3⟩ := pcs_cells (HBXP.out.below hb1 HBXP.out.lt)
  simp only at y0 y1 y2 y3
  clear hb1
  cases b with
  | true =>
    clear hfew
    go_wp2_with fail
    refine (HAL.out _).mono ?_
    rintro e wz ⟨rfl, hbz⟩
    have HBZ := Lib.hid (HB1.out.trans (hbz.mono HB1.out.size))
    clear hbz
    go_wp2_with fail
    go_ret
    exact ⟨rfl, HBW.out.trans (HBZ.out.mono HBW.out.size)⟩
  | false =>
    have HF := Lib.hid (hfew rfl)
    have hn3 : n ≤ 300 := HF.out.n
    clear hfew
    have HRO := Lib.hid (room_any ⟨pk, ps, px, A, n, c, l⟩ w1 (HP.out.below HB1.out) HF.out)
    have HMA := Lib.hid (fun W' (hW' : Below W.heap.size W W') => may_any ⟨pk, ps, px, A, n, c, l⟩ W' (HP.out.below hW') HF.out)
    have hrr : room pk (l.map CV.e) = if takes pk && may pk (l.map CV.e) then roomN (l.map CV.e) else 0 := rfl
    simp only [PV.agg, PV.es] at HRO HMA
    obtain ⟨N, hN⟩ : ∃ N, N = room pk (l.map CV.e) := ⟨_, rfl⟩
    rw [← hN] at HRO hrr
    obtain ⟨mb, hmb⟩ : ∃ mb, mb = may pk (l.map CV.e) := ⟨_, rfl⟩
    rw [← hmb] at HMA hrr
    have HRR := Lib.hid hrr
    have HMB := Lib.hid hmb.symm
    have hN180 : N ≤ 180 := by
      rw [hrr]
      split
      · exact roomN_le _
      · omega
    clear hN hmb hrr
    go_wp2_with fail
    refine HRO.out.mono ?_
    rintro e w2 ⟨rfl, hb2⟩
    have HB2 := Lib.hid (HB1.out.trans (hb2.mono HB1.out.size))
    obtain ⟨y0, y1, y2, y3⟩ := pcs_cells (HBXP.out.below HB2.out HBXP.out.lt)
    simp only at y0 y1 y2 y3
    clear hb2
    go_wp2_with fail
    refine (HMA.out w2 HB2.out).mono ?_
    rintro e w3 ⟨rfl, hb3⟩
    have HB3 := Lib.hid (HB2.out.trans (hb3.mono HB2.out.size))
    obtain ⟨y0, y1, y2, y3⟩ := pcs_cells (HBXP.out.below HB3.out HBXP.out.lt)
    simp only at y0 y1 y2 y3
    clear hb3
    cases mb with
    | false =>
      have hN0 : ((N : Int) == 0) = true := by have := HRR.out; rw [Bool.and_false] at this; simp at this; rw [beq_iff_eq]; omega
      go_wp2_with fail
      refine (HAL.out _).mono ?_
      rintro e wz ⟨rfl, hbz⟩
      have HBZ := Lib.hid (HB3.out.trans (hbz.mono HB3.out.size))
      clear hbz
      go_wp2_with fail
      go_ret
      exact ⟨rfl, HBW.out.trans (HBZ.out.mono HBW.out.size)⟩
    | true =>
      by_cases k3 : pk = 3
      · have d3 : (pk == 3) = true := by rw [beq_iff_eq]; exact k3
        have hN0 : ((N : Int) == 0) = true := by have := HRR.out; rw [k3] at this; simp [takes] at this; rw [beq_iff_eq]; omega
        clear k3
        go_wp2_with fail
        refine (HAL.out _).mono ?_
        rintro e wz ⟨rfl, hbz⟩
        have HBZ := Lib.hid (HB3.out.trans (hbz.mono HB3.out.size))
        clear hbz
        go_wp2_with fail
        go_ret
        exact ⟨rfl, HBW.out.trans (HBZ.out.mono HBW.out.size)⟩
      · have d3 : (pk == 3) = false := beq_false_of_ne k3
        have HK : Hid (pk = 1 ∨ pk = 2) := by
          have hm := HMB.out
          rw [← rmay_eq] at hm
          unfold rmay at hm
          simp only [Bool.and_eq_true, decide_eq_true_eq] at hm
          exact Lib.hid (by omega)
        have HNN : Hid (N = roomN (l.map CV.e)) := Lib.hid (by
          have h9 := HRR.out
          have hk : takes pk = true := by unfold takes; rcases HK.out with h | h <;> simp [h]
          rw [hk] at h9
          simpa using h9)
        clear k3
        go_wp2_with fail
        go_loopw [6, 7] (fun s i wr => ∃ k sl : Nat, k ≤ n ∧ i = .int .i64 (k : Int) ∧ s = .int .i64 (sl : Int) ∧ ((sl = n ∧ unused ((l.map CV.e).take k) = false) ∨ (sl < n ∧ ((l.map CV.e).getD sl cz).u = false)) ∧ w3 = wr) (fun _ i _ => n - (intOf i).toNat)
        case atStart => exact ⟨0, n, by omega, rfl, rfl, Or.inl ⟨rfl, rfl⟩, rfl⟩
        case round =>
          obtain ⟨k, sl, hk, rfl, rfl, hsl, rfl⟩ := hrel
          have HSL := Lib.hid hsl
          clear hsl
          by_cases hlt : k < n
          · obtain ⟨g, o, y, rfl, hg, _, hy, hyi, b0, b1, b2⟩ := (HP.out.r.below HB3.out).at_ hlt
            have HY := Lib.hid (es_at hy)
            obtain ⟨u, kk, yA, m, yc, d⟩ := y
            simp only at b0 b1 b2
            have hWi : IntKind.i64.wrap ((k : Int) + 1) = ((k + 1 : Nat) : Int) := by rw [IntWalk.i64_in _ (by omega)]; omega
            have hin : ((k : Int) < (n : Int)) := by omega
            clear hy hyi b1 b2
            cases u with
            | true =>
              have HN2 : Hid ((sl = n ∧ unused ((l.map CV.e).take (k + 1)) = false) ∨ (sl < n ∧ ((l.map CV.e).getD sl cz).u = false)) := Lib.hid (HSL.out.imp (fun h => ⟨h.1, any_next HY.out h.2 rfl⟩) id)
              go_wp2_with fail
              go_roundw
              case rel => exact ⟨k + 1, sl, by omega, by go_num, rfl, HN2.out, by first | rfl | trivial⟩
              case measure => simp [intOf]; omega
            | false =>
              by_cases hs9 : sl = n
              · have s1 : ((sl : Int) == (n : Int)) = true := by rw [beq_iff_eq]; omega
                have HN2 : Hid ((k = n ∧ unused ((l.map CV.e).take (k + 1)) = false) ∨ (k < n ∧ ((l.map CV.e).getD k cz).u = false)) := Lib.hid (Or.inr ⟨hlt, by rw [getD_at HY.out]; rfl⟩)
                clear hs9
                go_wp2_with fail
                go_roundw
                case rel => exact ⟨k + 1, k, by omega, by go_num, rfl, HN2.out.imp (fun h => absurd h.1 (by omega)) id, by first | rfl | trivial⟩
                case measure => simp [intOf]; omega
              · have s1 : ((sl : Int) == (n : Int)) = false := beq_false_of_ne (by omega)
                have HN2 : Hid ((sl = n ∧ unused ((l.map CV.e).take (k + 1)) = false) ∨ (sl < n ∧ ((l.map CV.e).getD sl cz).u = false)) := Lib.hid (HSL.out.imp (fun h => absurd h.1 hs9) id)
                clear hs9
                go_wp2_with fail
                go_roundw
                case rel => exact ⟨k + 1, sl, by omega, by go_num, rfl, HN2.out, by first | rfl | trivial⟩
                case measure => simp [intOf]; omega
          · have h1d : decide ((k : Int) < (n : Int)) = false := decide_eq_false (by omega)
            have h1d2 : decide (k < n) = false := decide_eq_false hlt
            have HS1 : Hid (pk = 1 → (sl = (l.map CV.e).length ∧ unused (l.map CV.e) = false) ∨ (sl < (l.map CV.e).length ∧ ((l.map CV.e).getD sl cz).u = false)) := Lib.hid (fun _ => by
              have hln := HLN.out
              simp only [PV.es] at hln
              rw [hln]
              refine HSL.out.imp (fun h => ⟨h.1, ?_⟩) id
              have := h.2
              rwa [List.take_of_length_le (by omega)] at this)
            have hsl3 : sl ≤ n := by rcases HSL.out with h | h <;> omega
            clear hlt
            have hN1 : IntKind.i64.wrap ((N : Int) + 1) = ((N + 1 : Nat) : Int) := by rw [IntWalk.i64_in _ (by omega)]; omega
            have hNg : decide ((N : Int) ≥ 0) = true := decide_eq_true (by omega)
            have hNl : decide ((N : Int) ≤ 180) = true := decide_eq_true (by omega)
            have hNl2 : decide (N ≤ 180) = true := decide_eq_true hN180
            by_cases k2 : pk = 2
            · have d2 : (pk == 2) = true := by rw [beq_iff_eq]; exact k2
              have HS1 : Hid (pk = 1 → (0 = (l.map CV.e).length ∧ unused (l.map CV.e) = false) ∨ (0 < (l.map CV.e).length ∧ ((l.map CV.e).getD 0 cz).u = false)) := Lib.hid (fun h => by omega)
              clear k2
              go_wp2_with fail
              go_loopw [8] (fun i wr => ∃ j : Nat, N ≤ j ∧ j ≤ N + 2 ∧ i = .int .i64 (j : Int) ∧ Below W.heap.size W wr) (fun i _ => N + 2 - (intOf i).toNat)
              case atStart => exact ⟨N, by omega, by omega, rfl, HB3.out⟩
              case round =>
                obtain ⟨j, hj1, hj2, rfl, hbel⟩ := hrel
                obtain ⟨wo, hwo⟩ : ∃ wo, wo = wr := ⟨_, rfl⟩
                subst hwo
                have HB4 := Lib.hid hbel
                clear hbel
                by_cases hjl : j ≤ N + 1
                · have c1 : decide ((j : Int) ≤ ((N + 1 : Nat) : Int)) = true := decide_eq_true (by omega)
                  have c1b : decide (j ≤ N + 1) = true := decide_eq_true hjl
                  have c1c : decide ((j : Int) ≤ (N : Int) + 1) = true := decide_eq_true (by omega)
                  have hWj : IntKind.i64.wrap ((j : Int) + 1) = ((j + 1 : Nat) : Int) := by rw [IntWalk.i64_in _ (by omega)]; omega
                  go_wp2_with fail
                  go_loopw [9, 10] (fun v i w9 => ∃ q : Nat, q ≤ j ∧ i = .int .i64 (q : Int) ∧ Own wo w9 v (List.replicate q x)) (fun _ i _ => j - (intOf i).toNat)
                  case atStart => exact ⟨0, by omega, rfl, Own.nil_ _⟩
                  case round =>
                    obtain ⟨q, hq, rfl, hown⟩ := hrel
                    have HO := Lib.hid hown
                    clear hown
                    by_cases hlt : q < j
                    · have hin : ((q : Int) < (j : Int)) := by omega
                      have hWq : IntKind.i64.wrap ((q : Int) + 1) = ((q + 1 : Nat) : Int) := by rw [IntWalk.i64_in _ (by omega)]; omega
                      go_wp2_with (at_builtin; go_must (refine wpList_app rfl (.tmp 71) (.tmp 73) rfl _ _ (List.replicate q x) rfl (HO.out.alloc _).1 All (some ⟨wr.heap.size, 0, none⟩) 1 1 [x] rfl (one_rb _ x hx All trivial) (by rw [List.length_replicate]; omega) ?_); intro v1 w9 hown hgrow; have HS := Lib.hid (Own.step (HO.out.alloc _) hgrow hown); clear hown hgrow)
                      go_roundw
                      case rel => exact ⟨q + 1, by omega, by go_num, by rw [← rep_next]; exact HS.out⟩
                      case measure => simp [intOf]; omega
                    · have h2d : decide ((q : Int) < (j : Int)) = false := decide_eq_false (by omega)
                      have h2d2 : decide (q < j) = false := decide_eq_false hlt
                      have hqj : q = j := by omega
                      subst hqj
                      obtain ⟨A9, c9, e9, hmc9, hnz9, hr9⟩ := HO.out.1.reads
                      rw [List.length_replicate] at e9 hmc9 hr9
                      subst e9
                      have HBQ := Lib.hid (HB4.out.trans (HO.out.2.mono HB4.out.size))
                      have HR9 := Lib.hid (hr9.mono (T := All) fun _ _ _ => trivial)
                      have HMC9 := Lib.hid hmc9
                      have HNZ9 := Lib.hid hnz9
                      obtain ⟨y0, y1, y2, y3⟩ := pcs_cells (HBXP.out.below HBQ.out HBXP.out.lt)
                      simp only at y0 y1 y2 y3
                      clear hr9 hmc9 hnz9 hlt
                      by_cases hq0 : q = 0
                      · have z0 : ((q : Int) == 0) = true := by rw [beq_iff_eq]; omega
                        clear hq0
                        go_wp2_with fail
                        go_roundw
                        case rel => exact ⟨q + 1, by omega, by omega, by go_num, HBQ.out⟩
                        case measure => simp [intOf]; omega
                      · have z0 : ((q : Int) == 0) = false := beq_false_of_ne (by omega)
                        have hat := at_any ⟨pk, ps, px, A, n, c, l⟩ wr (HP.out.below HBQ.out) HF.out A9 q c9 (List.replicate q x) HR9.out
                        simp only [PV.agg, CV.agg] at hat
                        obtain ⟨ac, hac⟩ : ∃ ac, ac = atC l (List.replicate q x) := ⟨_, rfl⟩
                        rw [← hac] at hat
                        have HAT := Lib.hid hat
                        have HAC := Lib.hid hac
                        clear hat hac
                        obtain ⟨au, ak, aA, am, aC, ad⟩ := ac
                        simp only at HAT
                        go_wp2_with fail
                        refine HAT.out.mono ?_
                        rintro e w5 ⟨rfl, hb5⟩
                        have HB5 := Lib.hid (HBQ.out.trans (hb5.mono HBQ.out.size))
                        have HR5 := Lib.hid (HR9.out.keep (Fr.of_below hb5 No) fun _ _ hn => hn)
                        obtain ⟨y0, y1, y2, y3⟩ := pcs_cells (HBXP.out.below HB5.out HBXP.out.lt)
                        simp only at y0 y1 y2 y3
                        clear hb5
                        have hfd : ∀ W', (Instr.field 58 (.agg #[.bool au, .int .u32 (ak : Int), .slice aA am aC]) 0).run Try.prog W' = .ok (.bool au) W' := fun W' => by first | rfl | (go_simp; rfl)
                        cases au with
                        | true =>
                          go_wp2_with fail
                          go_roundw
                          case rel => exact ⟨q + 1, by omega, by omega, by go_num, HB5.out⟩
                          case measure => simp [intOf]; omega
                        | false =>
                          have hth : pk = 2 → isThere (l.map CV.e) (List.replicate q x) = false := fun h => at_leaf (by have := HMB.out; rwa [h] at this) (fun cc hcc => (HP.out.r.2.1 cc hcc).b.lt) HR9.out.lt (by rw [← HAC.out])
                          have hput := room_put HK.out HMB.out HS1.out (fun _ => rfl) (d := List.replicate q x) (by rw [List.length_replicate]; omega) hth
                          rw [List.length_replicate, ← HNN.out] at hput
                          have hdo := Do_any w5 ⟨pk, ps, px, A, n, c, l⟩ (HP.out.below HB5.out) HF.out ⟨1, 0, 0, A9, q, c9, List.replicate q x⟩ ⟨HR5.out, by simp only; omega, by simp only; omega, by simp only; omega, by simp only; omega, by simp only; omega, HMC9.out, by simp only; omega, HNZ9.out⟩ (by simp only; omega)
                          simp only [PV.agg, PV.es, OV.agg, Int.ofNat_zero] at hdo hput
                          obtain ⟨R, hR⟩ : ∃ R, R = DoM pk (l.map CV.e) 1 0 0 q (List.replicate q x) := ⟨_, rfl⟩
                          rw [← hR] at hdo hput
                          have HDO := Lib.hid hdo
                          obtain ⟨cR, hcR⟩ : ∃ cR, cR = R.1 := ⟨_, rfl⟩
                          rw [← hcR] at hput
                          have HCR := Lib.hid hcR
                          have HPUT := Lib.hid hput
                          clear hth hput hdo hR hcR
                          go_wp2_with fail
                          refine HDO.out.mono ?_
                          rintro e w6 ⟨q6, S6, T6, rfl, hpo, _, _, hb6, _, _⟩
                          rw [← HCR.out]
                          have HB6 := Lib.hid (HB5.out.trans (hb6.mono HB5.out.size))
                          have HQA := Lib.hid (show q6.agg = .agg #[.int .i64 q6.k, .int .u64 (q6.s : Int), .int .u32 (q6.x : Int), .slice q6.A q6.n q6.c] from rfl)
                          rw [HQA.out]
                          obtain ⟨W7, hW7, hB7, hbx7, hsz7⟩ := box_page w6 q6
                          have HB7 := Lib.hid (HB6.out.trans (hB7.mono HB6.out.size))
                          clear hpo hb6 hbx7 hsz7 hB7
                          by_cases hqN : q = N
                          · have i1 : ((q : Int) == (N : Int)) = true := by rw [beq_iff_eq]; omega
                            have i2 : decide ((q : Int) > (N : Int)) = false := decide_eq_false (by omega)
                            have i2b : decide (N < q) = false := decide_eq_false (by omega)
                            have i3 : (cR == 0) = true := by rw [beq_iff_eq]; exact HPUT.out.1 (by omega)
                            clear hqN
                            go_wp2_with fail
                            go_roundw
                            case rel => exact ⟨q + 1, by omega, by omega, by go_num, HB7.out⟩
                            case measure => simp [intOf]; omega
                          · have i1 : ((q : Int) == (N : Int)) = false := beq_false_of_ne (by omega)
                            have i2 : decide ((q : Int) > (N : Int)) = true := decide_eq_true (by omega)
                            have i2b : decide (N < q) = true := decide_eq_true (by omega)
                            have i3 : (cR == 0) = false := beq_false_of_ne (HPUT.out.2 (by omega)).1
                            by_cases hq180 : q ≤ 180
                            · have i4 : (cR != 4) = false := by rw [bne_eq_false_iff_eq]; exact (HPUT.out.2 (by omega)).2 hq180
                              clear hqN hq180
                              go_wp2_with fail
                              go_roundw
                              case rel => exact ⟨q + 1, by omega, by omega, by go_num, HB7.out⟩
                              case measure => simp [intOf]; omega
                            · have i5 : decide ((q : Int) ≤ 180) = false := decide_eq_false (by omega)
                              have i5b : decide (q ≤ 180) = false := decide_eq_false hq180
                              clear hqN hq180
                              obtain ⟨b4, hb4⟩ : ∃ b4, (cR != 4) = b4 := ⟨_, rfl⟩
                              cases b4 with
                              | true =>
                                go_wp2_with fail
                                go_roundw
                                case rel => exact ⟨q + 1, by omega, by omega, by go_num, HB7.out⟩
                                case measure => simp [intOf]; omega
                              | false =>
                                go_wp2_with fail
                                go_roundw
                                case rel => exact ⟨q + 1, by omega, by omega, by go_num, HB7.out⟩
                                case measure => simp [intOf]; omega
                · have c1 : decide ((j : Int) ≤ ((N + 1 : Nat) : Int)) = false := decide_eq_false (by omega)
                  have c1b : decide (j ≤ N + 1) = false := decide_eq_false hjl
                  have c1c : decide ((j : Int) ≤ (N : Int) + 1) = false := decide_eq_false (by omega)
                  go_wp2_with fail
                  refine (HAL.out _).mono ?_
                  rintro e wz ⟨rfl, hbz⟩
                  have HBZ := Lib.hid (HB4.out.trans (hbz.mono HB4.out.size))
                  clear hbz
                  go_wp2_with fail
                  go_ret
                  exact ⟨rfl, HBW.out.trans (HBZ.out.mono HBW.out.size)⟩
            · have d2 : (pk == 2) = false := beq_false_of_ne k2
              have HS2 : Hid (pk = 2 → sl = 0) := Lib.hid (fun h => absurd h k2)
              clear k2
              go_wp2_with fail
              go_loopw [8] (fun i wr => ∃ j : Nat, N ≤ j ∧ j ≤ N + 2 ∧ i = .int .i64 (j : Int) ∧ Below W.heap.size W wr) (fun i _ => N + 2 - (intOf i).toNat)
              case atStart => exact ⟨N, by omega, by omega, rfl, HB3.out⟩
              case round =>
                obtain ⟨j, hj1, hj2, rfl, hbel⟩ := hrel
                obtain ⟨wo, hwo⟩ : ∃ wo, wo = wr := ⟨_, rfl⟩
                subst hwo
                have HB4 := Lib.hid hbel
                clear hbel
                by_cases hjl : j ≤ N + 1
                · have c1 : decide ((j : Int) ≤ ((N + 1 : Nat) : Int)) = true := decide_eq_true (by omega)
                  have c1b : decide (j ≤ N + 1) = true := decide_eq_true hjl
                  have c1c : decide ((j : Int) ≤ (N : Int) + 1) = true := decide_eq_true (by omega)
                  have hWj : IntKind.i64.wrap ((j : Int) + 1) = ((j + 1 : Nat) : Int) := by rw [IntWalk.i64_in _ (by omega)]; omega
                  go_wp2_with fail
                  go_loopw [9, 10] (fun v i w9 => ∃ q : Nat, q ≤ j ∧ i = .int .i64 (q : Int) ∧ Own wo w9 v (List.replicate q x)) (fun _ i _ => j - (intOf i).toNat)
                  case atStart => exact ⟨0, by omega, rfl, Own.nil_ _⟩
                  case round =>
                    obtain ⟨q, hq, rfl, hown⟩ := hrel
                    have HO := Lib.hid hown
                    clear hown
                    by_cases hlt : q < j
                    · have hin : ((q : Int) < (j : Int)) := by omega
                      have hWq : IntKind.i64.wrap ((q : Int) + 1) = ((q + 1 : Nat) : Int) := by rw [IntWalk.i64_in _ (by omega)]; omega
                      go_wp2_with (at_builtin; go_must (refine wpList_app rfl (.tmp 71) (.tmp 73) rfl _ _ (List.replicate q x) rfl (HO.out.alloc _).1 All (some ⟨wr.heap.size, 0, none⟩) 1 1 [x] rfl (one_rb _ x hx All trivial) (by rw [List.length_replicate]; omega) ?_); intro v1 w9 hown hgrow; have HS := Lib.hid (Own.step (HO.out.alloc _) hgrow hown); clear hown hgrow)
                      go_roundw
                      case rel => exact ⟨q + 1, by omega, by go_num, by rw [← rep_next]; exact HS.out⟩
                      case measure => simp [intOf]; omega
                    · have h2d : decide ((q : Int) < (j : Int)) = false := decide_eq_false (by omega)
                      have h2d2 : decide (q < j) = false := decide_eq_false hlt
                      have hqj : q = j := by omega
                      subst hqj
                      obtain ⟨A9, c9, e9, hmc9, hnz9, hr9⟩ := HO.out.1.reads
                      rw [List.length_replicate] at e9 hmc9 hr9
                      subst e9
                      have HBQ := Lib.hid (HB4.out.trans (HO.out.2.mono HB4.out.size))
                      have HR9 := Lib.hid (hr9.mono (T := All) fun _ _ _ => trivial)
                      have HMC9 := Lib.hid hmc9
                      have HNZ9 := Lib.hid hnz9
                      obtain ⟨y0, y1, y2, y3⟩ := pcs_cells (HBXP.out.below HBQ.out HBXP.out.lt)
                      simp only at y0 y1 y2 y3
                      clear hr9 hmc9 hnz9 hlt
                      by_cases hq0 : q = 0
                      · have z0 : ((q : Int) == 0) = true := by rw [beq_iff_eq]; omega
                        clear hq0
                        go_wp2_with fail
                        go_roundw
                        case rel => exact ⟨q + 1, by omega, by omega, by go_num, HBQ.out⟩
                        case measure => simp [intOf]; omega
                      · have z0 : ((q : Int) == 0) = false := beq_false_of_ne (by omega)
                        have hat := at_any ⟨pk, ps, px, A, n, c, l⟩ wr (HP.out.below HBQ.out) HF.out A9 q c9 (List.replicate q x) HR9.out
                        simp only [PV.agg, CV.agg] at hat
                        obtain ⟨ac, hac⟩ : ∃ ac, ac = atC l (List.replicate q x) := ⟨_, rfl⟩
                        rw [← hac] at hat
                        have HAT := Lib.hid hat
                        have HAC := Lib.hid hac
                        clear hat hac
                        obtain ⟨au, ak, aA, am, aC, ad⟩ := ac
                        simp only at HAT
                        go_wp2_with fail
                        refine HAT.out.mono ?_
                        rintro e w5 ⟨rfl, hb5⟩
                        have HB5 := Lib.hid (HBQ.out.trans (hb5.mono HBQ.out.size))
                        have HR5 := Lib.hid (HR9.out.keep (Fr.of_below hb5 No) fun _ _ hn => hn)
                        obtain ⟨y0, y1, y2, y3⟩ := pcs_cells (HBXP.out.below HB5.out HBXP.out.lt)
                        simp only at y0 y1 y2 y3
                        clear hb5
                        have hfd : ∀ W', (Instr.field 58 (.agg #[.bool au, .int .u32 (ak : Int), .slice aA am aC]) 0).run Try.prog W' = .ok (.bool au) W' := fun W' => by first | rfl | (go_simp; rfl)
                        cases au with
                        | true =>
                          go_wp2_with fail
                          go_roundw
                          case rel => exact ⟨q + 1, by omega, by omega, by go_num, HB5.out⟩
                          case measure => simp [intOf]; omega
                        | false =>
                          have hth : pk = 2 → isThere (l.map CV.e) (List.replicate q x) = false := fun h => at_leaf (by have := HMB.out; rwa [h] at this) (fun cc hcc => (HP.out.r.2.1 cc hcc).b.lt) HR9.out.lt (by rw [← HAC.out])
                          have hput := room_put HK.out HMB.out HS1.out HS2.out (d := List.replicate q x) (by rw [List.length_replicate]; omega) hth
                          rw [List.length_replicate, ← HNN.out] at hput
                          have hdo := Do_any w5 ⟨pk, ps, px, A, n, c, l⟩ (HP.out.below HB5.out) HF.out ⟨1, (sl : Int), 0, A9, q, c9, List.replicate q x⟩ ⟨HR5.out, by simp only; omega, by simp only; omega, by simp only; omega, by simp only; omega, by simp only; omega, HMC9.out, by simp only; omega, HNZ9.out⟩ (by simp only; omega)
                          simp only [PV.agg, PV.es, OV.agg, Int.ofNat_zero] at hdo hput
                          obtain ⟨R, hR⟩ : ∃ R, R = DoM pk (l.map CV.e) 1 (sl : Int) 0 q (List.replicate q x) := ⟨_, rfl⟩
                          rw [← hR] at hdo hput
                          have HDO := Lib.hid hdo
                          obtain ⟨cR, hcR⟩ : ∃ cR, cR = R.1 := ⟨_, rfl⟩
                          rw [← hcR] at hput
                          have HCR := Lib.hid hcR
                          have HPUT := Lib.hid hput
                          clear hth hput hdo hR hcR
                          go_wp2_with fail
                          refine HDO.out.mono ?_
                          rintro e w6 ⟨q6, S6, T6, rfl, hpo, _, _, hb6, _, _⟩
                          rw [← HCR.out]
                          have HB6 := Lib.hid (HB5.out.trans (hb6.mono HB5.out.size))
                          have HQA := Lib.hid (show q6.agg = .agg #[.int .i64 q6.k, .int .u64 (q6.s : Int), .int .u32 (q6.x : Int), .slice q6.A q6.n q6.c] from rfl)
                          rw [HQA.out]
                          obtain ⟨W7, hW7, hB7, hbx7, hsz7⟩ := box_page w6 q6
                          have HB7 := Lib.hid (HB6.out.trans (hB7.mono HB6.out.size))
                          clear hpo hb6 hbx7 hsz7 hB7
                          by_cases hqN : q = N
                          · have i1 : ((q : Int) == (N : Int)) = true := by rw [beq_iff_eq]; omega
                            have i2 : decide ((q : Int) > (N : Int)) = false := decide_eq_false (by omega)
                            have i2b : decide (N < q) = false := decide_eq_false (by omega)
                            have i3 : (cR == 0) = true := by rw [beq_iff_eq]; exact HPUT.out.1 (by omega)
                            clear hqN
                            go_wp2_with fail
                            go_roundw
                            case rel => exact ⟨q + 1, by omega, by omega, by go_num, HB7.out⟩
                            case measure => simp [intOf]; omega
                          · have i1 : ((q : Int) == (N : Int)) = false := beq_false_of_ne (by omega)
                            have i2 : decide ((q : Int) > (N : Int)) = true := decide_eq_true (by omega)
                            have i2b : decide (N < q) = true := decide_eq_true (by omega)
                            have i3 : (cR == 0) = false := beq_false_of_ne (HPUT.out.2 (by omega)).1
                            by_cases hq180 : q ≤ 180
                            · have i4 : (cR != 4) = false := by rw [bne_eq_false_iff_eq]; exact (HPUT.out.2 (by omega)).2 hq180
                              clear hqN hq180
                              go_wp2_with fail
                              go_roundw
                              case rel => exact ⟨q + 1, by omega, by omega, by go_num, HB7.out⟩
                              case measure => simp [intOf]; omega
                            · have i5 : decide ((q : Int) ≤ 180) = false := decide_eq_false (by omega)
                              have i5b : decide (q ≤ 180) = false := decide_eq_false hq180
                              clear hqN hq180
                              obtain ⟨b4, hb4⟩ : ∃ b4, (cR != 4) = b4 := ⟨_, rfl⟩
                              cases b4 with
                              | true =>
                                go_wp2_with fail
                                go_roundw
                                case rel => exact ⟨q + 1, by omega, by omega, by go_num, HB7.out⟩
                                case measure => simp [intOf]; omega
                              | false =>
                                go_wp2_with fail
                                go_roundw
                                case rel => exact ⟨q + 1, by omega, by omega, by go_num, HB7.out⟩
                                case measure => simp [intOf]; omega
                · have c1 : decide ((j : Int) ≤ ((N + 1 : Nat) : Int)) = false := decide_eq_false (by omega)
                  have c1b : decide (j ≤ N + 1) = false := decide_eq_false hjl
                  have c1c : decide ((j : Int) ≤ (N : Int) + 1) = false := decide_eq_false (by omega)
                  go_wp2_with fail
                  refine (HAL.out _).mono ?_
                  rintro e wz ⟨rfl, hbz⟩
                  have HBZ := Lib.hid (HB4.out.trans (hbz.mono HB4.out.size))
                  clear hbz
                  go_wp2_with fail
                  go_ret
                  exact ⟨rfl, HBW.out.trans (HBZ.out.mono HBW.out.size)⟩
end Go.Proofs.Ytajmpoanmdgmpaa.pageRoom
