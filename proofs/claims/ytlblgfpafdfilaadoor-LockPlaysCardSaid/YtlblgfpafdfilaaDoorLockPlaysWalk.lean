/-
STAGE 12: LockPlays, its walk.
-/
import Derived.Test.YtlblgfpafdfilaaDoorOC
namespace Go.Proofs.YtlblgfpafdfilaaDoor.lockPlays
open Go.RowKit Go.Sort

def zk : LK := ⟨0, ⟨false, 0, ⟨#[]⟩, ⟨#[]⟩⟩, 0, false⟩
theorem start {w wr : World} {g h : Nat} (hg : Gw w) (hb : Below w.heap.size w wr) (t1 : TB wr g (.slice none 0 0) []) (t2 : Blk wr h 32 #[.slice none 0 0]) (hg0 : w.heap.size ≤ g) (hh : w.heap.size ≤ h) : P2 w wr g h [] [] :=
  ⟨_, _, t1, ⟨t2, OwR.nil_ _ _ _ _, fun l hl => by simp at hl, by simp⟩, fun b e => by simp [Value.ownBlock] at e, fun b e => by simp [Value.ownBlock] at e, fun b e => by simp [Value.ownBlock] at e, hb, hg0, hh, hg.2, hg.below hb⟩
/-- the two rows that are written over -/
structure Two (w6 wi : World) (A A2 : Option Addr) (N c M c2 : Nat) (ls : List LK) (ps : List (Nat × Nat)) : Prop where
  l : OwR wi 46 7 lf (.slice A N c) ls
  ln : ls.length = N
  p : OwR wi 47 2 pf (.slice A2 M c2) ps
  pn : ps.length = M
  bel : RowKit.Below w6.heap.size w6 wi
section
variable {w6 wi w' : World} {A A2 : Option Addr} {N c M c2 b i : Nat} {ls : List LK} {ps : List (Nat × Nat)}
theorem Two.setL (h : Two w6 wi (some ⟨b, 0, none⟩) A2 N c M c2 ls ps) (hb : w6.heap.size ≤ b) (ho : OwR w' 46 7 lf (.slice (some ⟨b, 0, none⟩) N c) (ls.set i zk)) (hf : Fr wi w' fun q => q = b) : Two w6 w' (some ⟨b, 0, none⟩) A2 N c M c2 (ls.set i zk) ps :=
  ⟨ho, by rw [List.length_set]; exact h.ln, h.p.keep hf fun x hx e => own_apart h.p h.l (by decide) x hx (by rw [e]; rfl), h.pn, h.bel.trans (hf.below (fun q e => by rw [e]; exact hb) h.bel.size)⟩
theorem Two.setP (h : Two w6 wi A (some ⟨b, 0, none⟩) N c M c2 ls ps) (hb : w6.heap.size ≤ b) (ho : OwR w' 47 2 pf (.slice (some ⟨b, 0, none⟩) M c2) (ps.set i (0, 0))) (hf : Fr wi w' fun q => q = b) : Two w6 w' A (some ⟨b, 0, none⟩) N c M c2 ls (ps.set i (0, 0)) :=
  ⟨h.l.keep hf fun x hx e => own_apart h.l h.p (by decide) x hx (by rw [e]; rfl), h.ln, ho, by rw [List.length_set]; exact h.pn, h.bel.trans (hf.below (fun q e => by rw [e]; exact hb) h.bel.size)⟩
theorem Two.al (h : Two w6 wi A A2 N c M c2 ls ps) {j : Nat} (hj : j < N) : ∃ b, A = some ⟨b, 0, none⟩ := by
  obtain ⟨b, c', e, _, _⟩ := h.l.at_ lf_len (i := j) (x := ls[j]'(by rw [h.ln]; exact hj)) (List.getElem?_eq_getElem _)
  injection e with e _ _
  exact ⟨b, e⟩
theorem Two.ap (h : Two w6 wi A A2 N c M c2 ls ps) {j : Nat} (hj : j < M) : ∃ b, A2 = some ⟨b, 0, none⟩ := by
  obtain ⟨b, c', e, _, _⟩ := h.p.at_ pf_len (i := j) (x := ps[j]'(by rw [h.pn]; exact hj)) (List.getElem?_eq_getElem _)
  injection e with e _ _
  exact ⟨b, e⟩
end
set_option maxRecDepth 100000 in
set_option maxHeartbeats 16000000 in
theorem walked (A : Option Addr) (n c : Nat) (l : List AV) (bm : Bool) (w : World) (h : AR w A n l) (hg : Gw w) :
    Calls Tryd.prog 3 #[.slice A n c, .bool bm] w fun e w' => e = .returned (.bool true) ∧ Below w.heap.size w w' := by
  have H := Lib.hid h
  have HG := Lib.hid hg
  have HN := Lib.hid (new_any w hg.2)
  have HLG := Lib.hid (long_any w A n c l h)
  have HAL := Lib.hid (fun W (hb : Below w.heap.size w W) => alive_any W (hg.below hb))
  have HLE := Lib.hid h.le
  have HST := Lib.hid (fun wr g h' (hb : Below w.heap.size w wr) => start (w := w) (wr := wr) (g := g) (h := h') hg hb)
  clear h hg
  cases bm
  all_goals
    go_enter Tryd.func3, Tryd.ntmps3
    go_wp2_with (first
      | (go_at_call 8; with_reducible refine HLG.out.mono ?_; intro e w1 hl; obtain ⟨r, he, hw, hr⟩ := LongO.out hl; subst he; have hw' := hw.symm; subst hw'; clear hl)
      | (go_at_call 9; with_reducible refine (HAL.out _ (Below.refl _ _)).mono ?_; rintro e w2 ⟨rfl, hb2⟩; have HB2 := Lib.hid hb2; clear hb2)
      | (go_at_call 10; with_reducible refine HN.out.mono ?_; rintro e w1 ⟨rfl, ht1, hb1⟩; have HT1 := Lib.hid ht1; have HB1 := Lib.hid hb1; clear ht1 hb1))
  · go_ret
    exact ⟨rfl, HB2.out⟩
  · obtain ⟨wa, hwa⟩ : ∃ wa, wa = (w1.alloc (.cells #[.slice none 0 0] 29)).alloc (.cells #[.slice none 0 0] 32) := ⟨_, rfl⟩
    obtain ⟨g, hg⟩ : ∃ g, g = w1.heap.size := ⟨_, rfl⟩
    obtain ⟨h', hh'⟩ : ∃ h', h' = w1.heap.size + 1 := ⟨_, rfl⟩
    have HP0 := Lib.hid (show P2 w wa g h' [] [] from by
      have hs := HB1.out.size
      have h2 := HG.out.2
      refine HST.out wa g h' ?_ ?_ ?_ (by omega) (by omega)
      · rw [hwa]; exact (HB1.out.alloc hs _).alloc (by simp; omega) _
      · exact ⟨by rw [hwa, hg]; exact (Blk.new w1 29 #[.slice none 0 0]).alloc _, OwR.nil_ _ _ _ _, fun l hl => by simp at hl, by simp, by omega, fun b hb => by simp [Value.ownBlock] at hb⟩
      · rw [hwa, hh']
        have := Blk.new (w1.alloc (.cells #[.slice none 0 0] 29)) 32 #[.slice none 0 0]
        rwa [World.size_alloc] at this)
    rw [← hwa, ← hh', ← hg]
    clear hwa hg hh' hr
    go_loopw [7] (fun i wr => ∃ k : Nat, k ≤ n ∧ i = .int .i64 (k : Int) ∧ P2 w wr g h' (playM (l.take k)) (playM (l.take k))) (fun i _ => n - (intOf i).toNat)
    case atStart => exact ⟨0, by omega, rfl, HP0.out⟩
    case round =>
      obtain ⟨k, hk, rfl, hp⟩ := hrel
      have HP := Lib.hid hp
      by_cases hlt : k < n
      · have hl : l[k]? = some (l[k]'(by have := H.out.len; omega)) := List.getElem?_eq_getElem _
        generalize l[k]'(by have := H.out.len; omega) = v at hl
        obtain ⟨ga, o, rfl, ha⟩ := H.out.at_ k v hl
        have hv := H.out.ok v (List.mem_of_getElem? hl)
        obtain ⟨z0, z1, z2, z3, z4, z5, z6⟩ := ha.below hp.bel ha.lt
        have hin : ((k : Int) < (n : Int)) := by omega
        have e1 : IntKind.i64.wrap ((k : Int) + 1) = ((k + 1 : Nat) : Int) := by rw [IntWalk.i64_in _ (by have := HLE.out; omega)]; omega
        have HE1 := Lib.hid e1
        have HDO := Lib.hid (does_any w wr g h' (playM (l.take k)) v hv hp (fine_play _).1)
        rw [← play_take hl] at HDO
        have HFI := Lib.hid (fine_play (l.take (k + 1)))
        have HLA := Lib.hid (last_play (l.take (k + 1)))
        obtain ⟨vd, vt, ⟨xr, xi, xa, xb⟩, vm⟩ := v
        simp only [AV.agg] at z0 z1 z2 z3 z4 z5 z6 HDO
        obtain ⟨ls, hls⟩ : ∃ ls, playM (l.take (k + 1)) = ls := ⟨_, rfl⟩
        rw [hls] at HDO HFI HLA
        have HLS := Lib.hid hls
        obtain ⟨N, hN⟩ : ∃ N, ls.length = N := ⟨_, rfl⟩
        obtain ⟨M, hM⟩ : ∃ M, (rwaitsM ls).length = M := ⟨_, rfl⟩
        have HNN := Lib.hid hN
        have HMM := Lib.hid hM
        clear hp hl ha hv hls hN hM e1
        go_upto_region 12 with (go_at_call 11; with_reducible refine HDO.out.mono ?_; rintro e w3 ⟨rfl, hp3⟩; have HP3 := Lib.hid hp3; clear hp3)
        clear z0 z1 z2 z3 z4 z5 z6
        have HFW := Lib.hid (show N ≤ 16384 by rw [← HNN.out]; exact HP3.out.few)
        have HFM := Lib.hid (show M ≤ 1000000000 by rw [← HMM.out]; exact rwaits_few ls (by rw [HNN.out]; exact HFW.out))
        have HCA := Lib.hid (HP3.out.all HNN.out)
        have HCW := Lib.hid (fun W (q : P2 w W g h' ls ls) => q.waits HFI.out.1 HMM.out)
        have HCR := Lib.hid (fun W (q : P2 w W g h' ls ls) => q.rwaits HFI.out.1 HMM.out)
        have HCV := Lib.hid (fun W (q : P2 w W g h' ls ls) => q.victim HFI.out HLA.out)
        have HCX := Lib.hid (fun W (q : P2 w W g h' ls ls) => q.rvictim HFI.out.1)
        have hvv : ((rvM ls : Int) != (rvM ls : Int)) = false := by simp
        generalize rvM ls = vm2 at HCV HCX hvv
        go_upto_region 17 with (first
          | (go_at_call 12; with_reducible refine HCA.out.mono ?_; rintro e w4 ⟨A4, c4, rfl, ho4, hb4, hn4⟩; have HO4 := Lib.hid ho4; have HB4 := Lib.hid hb4; have HN4 := Lib.hid hn4; have HP4 := Lib.hid (HP3.out.up hb4); clear ho4 hb4 hn4)
          | (go_at_call 13; with_reducible refine (HCW.out _ HP4.out).mono ?_; rintro e w5 ⟨A5, c5, rfl, ho5, hb5, hn5⟩; have HO5 := Lib.hid ho5; have HB5 := Lib.hid (below_trans HB4.out hb5); have HO45 := Lib.hid (HO4.out.up hb5); have HN5 := Lib.hid (fun b e => Nat.le_trans HB4.out.size (hn5 b e)); have HP5 := Lib.hid (HP4.out.up hb5); obtain ⟨Ad, cd, c0, hrow⟩ := HP5.out.c0 HNN.out; have HRD := Lib.hid hrow; clear ho5 hb5 hn5 hrow)
          | (go_at_call 14; with_reducible refine (same_any _ A4 Ad N c4 cd ls HNN.out (own_row HO45.out) HRD.out HFW.out).mono ?_; rintro e w6 ⟨rfl, hb6⟩; have HB6 := Lib.hid hb6; have HP6 := Lib.hid (HP5.out.up hb6); clear hb6)
          | (go_at_call 16; with_reducible refine (HCR.out _ HP6.out).mono ?_; rintro e w7 ⟨A7, c7, rfl, hr7, hb7⟩; have HR7 := Lib.hid hr7; have HB7 := Lib.hid (below_trans HB6.out hb7); have HP7 := Lib.hid (HP6.out.up hb7); clear hr7 hb7)
          | (go_at_call 15; with_reducible refine (pairs_any _ A5 A7 M c5 c7 (rwaitsM ls) HMM.out (HO5.out.up HB7.out).prow HR7.out HFM.out).mono ?_; rintro e w8 ⟨rfl, hb8⟩; have HB8 := Lib.hid (below_trans HB7.out hb8); have HP8 := Lib.hid (HP7.out.up hb8); clear hb8)
          | (go_at_call 17; with_reducible refine (HCV.out _ HP8.out).mono ?_; rintro e w9 ⟨rfl, hb9⟩; have HB9 := Lib.hid (below_trans HB8.out hb9); have HP9 := Lib.hid (HP8.out.up hb9); clear hb9)
          | (go_at_call 18; with_reducible refine (HCX.out _ HP9.out).mono ?_; rintro e w10 ⟨rfl, hb10⟩; have HB10 := Lib.hid (below_trans HB9.out hb10); clear hb10))
        have HT0 := Lib.hid (show Two w3 w10 A4 A5 N c4 M c5 ls (rwaitsM ls) from ⟨HO45.out.up HB10.out, HNN.out, HO5.out.up HB10.out, HMM.out, below_trans HB5.out HB10.out⟩)
        clear c0 hvv
        go_loopw [10] (fun i wi => ∃ (j : Nat) (ls' : List LK), j ≤ N ∧ i = .int .i64 (j : Int) ∧ Two w3 wi A4 A5 N c4 M c5 ls' (rwaitsM ls)) (fun i _ => N - (intOf i).toNat)
        case atStart => exact ⟨0, ls, by omega, rfl, HT0.out⟩
        case round =>
          obtain ⟨j, ls', hj, rfl, htw⟩ := hrel
          have HTW := Lib.hid htw
          by_cases hlt2 : j < N
          · obtain ⟨b, rfl⟩ := htw.al hlt2
            have hin2 : ((j : Int) < (N : Int)) := by omega
            have e2 : IntKind.i64.wrap ((j : Int) + 1) = ((j + 1 : Nat) : Int) := by rw [IntWalk.i64_in _ (by have := HFW.out; omega)]; omega
            clear htw
            go_wp2_with (refine wpList_stO rfl 46 (.tmp 70) (.tmp 69) rfl b j N c4 zk ls' rfl rfl HTW.out.l HTW.out.ln hlt2 size46 ?_; intro w11 ho11 hf11; have HT11 := Lib.hid (HTW.out.setL (HN4.out b rfl) ho11 hf11); clear ho11 hf11)
            go_roundw
            case rel => exact ⟨j + 1, _, by omega, by go_num, HT11.out⟩
            case measure => simp [intOf]; omega
          · obtain rfl : j = N := by omega
            have hin2 : ¬ ((j : Int) < (j : Int)) := by omega
            clear htw
            go_upto_region 21 with fail
            go_loopw [11] (fun i wi => ∃ (q : Nat) (ps' : List (Nat × Nat)), q ≤ M ∧ i = .int .i64 (q : Int) ∧ Two w3 wi A4 A5 j c4 M c5 ls' ps') (fun i _ => M - (intOf i).toNat)
            case atStart => exact ⟨0, _, by omega, rfl, HTW.out⟩
            case round =>
              obtain ⟨q, ps', hq, rfl, htw⟩ := hrel
              have HTV := Lib.hid htw
              by_cases hlt3 : q < M
              · obtain ⟨b, rfl⟩ := htw.ap hlt3
                have hin3 : ((q : Int) < (M : Int)) := by omega
                have e2 : IntKind.i64.wrap ((q : Int) + 1) = ((q + 1 : Nat) : Int) := by rw [IntWalk.i64_in _ (by have := HFM.out; omega)]; omega
                clear htw
                go_wp2_with (refine wpList_stP rfl 47 (.tmp 80) (.tmp 79) rfl b q M c5 (0, 0) ps' rfl rfl HTV.out.p HTV.out.pn hlt3 size47 ?_; intro w11 ho11 hf11; have HT11 := Lib.hid (HTV.out.setP (HN5.out b rfl) ho11 hf11); clear ho11 hf11)
                go_roundw
                case rel => exact ⟨q + 1, _, by omega, by go_num, HT11.out⟩
                case measure => simp [intOf]; omega
              · obtain rfl : q = M := by omega
                have hin3 : ¬ ((q : Int) < (q : Int)) := by omega
                clear htw
                have e1 := HE1.out
                go_wp2_with fail
                go_roundw
                case rel => exact ⟨k + 1, by omega, by go_num, by rw [HLS.out]; exact HP3.out.up HTV.out.bel⟩
                case measure => simp [intOf]; omega
      · obtain rfl : k = n := by omega
        have hin : ¬ ((k : Int) < (k : Int)) := by omega
        have hE : l.take k = l := by rw [← H.out.len, List.take_length]
        rw [hE] at HP
        clear hp
        go_upto_region 24 with fail
        obtain ⟨ls, hls⟩ : ∃ ls, playM l = ls := ⟨_, rfl⟩
        rw [hls] at HP
        obtain ⟨N, hN⟩ : ∃ N, ls.length = N := ⟨_, rfl⟩
        have HNN := Lib.hid hN
        have HFW := Lib.hid (show N ≤ 16384 by rw [← hN]; exact HP.out.few)
        have HCA := Lib.hid ((HP.out.up (Below.refl _ _).drew).all HNN.out)
        obtain ⟨Ad, cd, c0, hrow⟩ := HP.out.c0 HNN.out
        have HRD := Lib.hid hrow
        have HBW := Lib.hid HP.out.bel
        clear hls hN hrow hE
        go_region_held3 (fun w' => w'.cell? ⟨h', 0, none⟩ = some (.slice Ad N cd)) (first | assumption | go_simp) (first
          | (go_at_call 12; with_reducible refine HCA.out.mono ?_; rintro e w4 ⟨A4, c4, rfl, ho4, hb4, hn4⟩; have HO4 := Lib.hid ho4; have hb5 := below_drew hb4; have HB4 := Lib.hid hb5; have q0 := (hb5.cell (block_lt_of_cell c0)).trans c0; clear ho4 hb4 hb5 hn4)
          | (go_at_call 14; with_reducible refine (same_any _ A4 Ad N c4 cd ls HNN.out (own_row HO4.out) (HRD.out.up HB4.out) HFW.out).mono ?_; rintro e w6 ⟨rfl, hb6⟩; have HB6 := Lib.hid (below_trans HB4.out hb6); have q1 := (hb6.cell (block_lt_of_cell q0)).trans q0; clear hb6)
          | (go_at_call 9; with_reducible refine (HAL.out _ (HBW.out.trans (HB6.out.mono HBW.out.size))).mono ?_; rintro e w7 ⟨rfl, hb7⟩; have HB7 := Lib.hid (below_trans HB6.out hb7); have q2 := (hb7.cell (block_lt_of_cell q1)).trans q1; clear hb7))
        go_wp2_with fail
        go_ret
        exact ⟨rfl, HBW.out.trans (HB7.out.mono HBW.out.size)⟩
  · go_ret
    exact ⟨rfl, HB2.out⟩
  · obtain ⟨wa, hwa⟩ : ∃ wa, wa = w1.alloc (.cells #[.slice none 0 0] 32) := ⟨_, rfl⟩
    obtain ⟨g, hg⟩ : ∃ g, g = w.heap.size := ⟨_, rfl⟩
    obtain ⟨h', hh'⟩ : ∃ h', h' = w1.heap.size := ⟨_, rfl⟩
    have HP0 := Lib.hid (show P2 w wa g h' [] [] from by
      have hs := HB1.out.size
      refine HST.out wa g h' ?_ ?_ ?_ (by omega) (by omega)
      · rw [hwa]; exact HB1.out.alloc hs _
      · rw [hwa, hg]; exact HT1.out.up ((Below.refl _ _).alloc (Nat.le_refl _) _)
      · rw [hwa, hh']; exact Blk.new w1 32 #[.slice none 0 0])
    rw [← hwa, ← hh', ← hg]
    clear hwa hg hh' hr
    go_loopw [7] (fun i wr => ∃ k : Nat, k ≤ n ∧ i = .int .i64 (k : Int) ∧ P2 w wr g h' (playM (l.take k)) (playM (l.take k))) (fun i _ => n - (intOf i).toNat)
    case atStart => exact ⟨0, by omega, rfl, HP0.out⟩
    case round =>
      obtain ⟨k, hk, rfl, hp⟩ := hrel
      have HP := Lib.hid hp
      by_cases hlt : k < n
      · have hl : l[k]? = some (l[k]'(by have := H.out.len; omega)) := List.getElem?_eq_getElem _
        generalize l[k]'(by have := H.out.len; omega) = v at hl
        obtain ⟨ga, o, rfl, ha⟩ := H.out.at_ k v hl
        have hv := H.out.ok v (List.mem_of_getElem? hl)
        obtain ⟨z0, z1, z2, z3, z4, z5, z6⟩ := ha.below hp.bel ha.lt
        have hin : ((k : Int) < (n : Int)) := by omega
        have e1 : IntKind.i64.wrap ((k : Int) + 1) = ((k + 1 : Nat) : Int) := by rw [IntWalk.i64_in _ (by have := HLE.out; omega)]; omega
        have HE1 := Lib.hid e1
        have HDO := Lib.hid (does_any w wr g h' (playM (l.take k)) v hv hp (fine_play _).1)
        rw [← play_take hl] at HDO
        have HFI := Lib.hid (fine_play (l.take (k + 1)))
        have HLA := Lib.hid (last_play (l.take (k + 1)))
        obtain ⟨vd, vt, ⟨xr, xi, xa, xb⟩, vm⟩ := v
        simp only [AV.agg] at z0 z1 z2 z3 z4 z5 z6 HDO
        obtain ⟨ls, hls⟩ : ∃ ls, playM (l.take (k + 1)) = ls := ⟨_, rfl⟩
        rw [hls] at HDO HFI HLA
        have HLS := Lib.hid hls
        obtain ⟨N, hN⟩ : ∃ N, ls.length = N := ⟨_, rfl⟩
        obtain ⟨M, hM⟩ : ∃ M, (rwaitsM ls).length = M := ⟨_, rfl⟩
        have HNN := Lib.hid hN
        have HMM := Lib.hid hM
        clear hp hl ha hv hls hN hM e1
        go_upto_region 12 with (go_at_call 11; with_reducible refine HDO.out.mono ?_; rintro e w3 ⟨rfl, hp3⟩; have HP3 := Lib.hid hp3; clear hp3)
        clear z0 z1 z2 z3 z4 z5 z6
        have HFW := Lib.hid (show N ≤ 16384 by rw [← HNN.out]; exact HP3.out.few)
        have HFM := Lib.hid (show M ≤ 1000000000 by rw [← HMM.out]; exact rwaits_few ls (by rw [HNN.out]; exact HFW.out))
        have HCA := Lib.hid (HP3.out.all HNN.out)
        have HCW := Lib.hid (fun W (q : P2 w W g h' ls ls) => q.waits HFI.out.1 HMM.out)
        have HCR := Lib.hid (fun W (q : P2 w W g h' ls ls) => q.rwaits HFI.out.1 HMM.out)
        have HCV := Lib.hid (fun W (q : P2 w W g h' ls ls) => q.victim HFI.out HLA.out)
        have HCX := Lib.hid (fun W (q : P2 w W g h' ls ls) => q.rvictim HFI.out.1)
        have hvv : ((rvM ls : Int) != (rvM ls : Int)) = false := by simp
        generalize rvM ls = vm2 at HCV HCX hvv
        go_upto_region 17 with (first
          | (go_at_call 12; with_reducible refine HCA.out.mono ?_; rintro e w4 ⟨A4, c4, rfl, ho4, hb4, hn4⟩; have HO4 := Lib.hid ho4; have HB4 := Lib.hid hb4; have HN4 := Lib.hid hn4; have HP4 := Lib.hid (HP3.out.up hb4); clear ho4 hb4 hn4)
          | (go_at_call 13; with_reducible refine (HCW.out _ HP4.out).mono ?_; rintro e w5 ⟨A5, c5, rfl, ho5, hb5, hn5⟩; have HO5 := Lib.hid ho5; have HB5 := Lib.hid (below_trans HB4.out hb5); have HO45 := Lib.hid (HO4.out.up hb5); have HN5 := Lib.hid (fun b e => Nat.le_trans HB4.out.size (hn5 b e)); have HP5 := Lib.hid (HP4.out.up hb5); obtain ⟨Ad, cd, c0, hrow⟩ := HP5.out.c0 HNN.out; have HRD := Lib.hid hrow; clear ho5 hb5 hn5 hrow)
          | (go_at_call 14; with_reducible refine (same_any _ A4 Ad N c4 cd ls HNN.out (own_row HO45.out) HRD.out HFW.out).mono ?_; rintro e w6 ⟨rfl, hb6⟩; have HB6 := Lib.hid hb6; have HP6 := Lib.hid (HP5.out.up hb6); clear hb6)
          | (go_at_call 16; with_reducible refine (HCR.out _ HP6.out).mono ?_; rintro e w7 ⟨A7, c7, rfl, hr7, hb7⟩; have HR7 := Lib.hid hr7; have HB7 := Lib.hid (below_trans HB6.out hb7); have HP7 := Lib.hid (HP6.out.up hb7); clear hr7 hb7)
          | (go_at_call 15; with_reducible refine (pairs_any _ A5 A7 M c5 c7 (rwaitsM ls) HMM.out (HO5.out.up HB7.out).prow HR7.out HFM.out).mono ?_; rintro e w8 ⟨rfl, hb8⟩; have HB8 := Lib.hid (below_trans HB7.out hb8); have HP8 := Lib.hid (HP7.out.up hb8); clear hb8)
          | (go_at_call 17; with_reducible refine (HCV.out _ HP8.out).mono ?_; rintro e w9 ⟨rfl, hb9⟩; have HB9 := Lib.hid (below_trans HB8.out hb9); have HP9 := Lib.hid (HP8.out.up hb9); clear hb9)
          | (go_at_call 18; with_reducible refine (HCX.out _ HP9.out).mono ?_; rintro e w10 ⟨rfl, hb10⟩; have HB10 := Lib.hid (below_trans HB9.out hb10); clear hb10))
        have HT0 := Lib.hid (show Two w3 w10 A4 A5 N c4 M c5 ls (rwaitsM ls) from ⟨HO45.out.up HB10.out, HNN.out, HO5.out.up HB10.out, HMM.out, below_trans HB5.out HB10.out⟩)
        clear c0 hvv
        go_loopw [10] (fun i wi => ∃ (j : Nat) (ls' : List LK), j ≤ N ∧ i = .int .i64 (j : Int) ∧ Two w3 wi A4 A5 N c4 M c5 ls' (rwaitsM ls)) (fun i _ => N - (intOf i).toNat)
        case atStart => exact ⟨0, ls, by omega, rfl, HT0.out⟩
        case round =>
          obtain ⟨j, ls', hj, rfl, htw⟩ := hrel
          have HTW := Lib.hid htw
          by_cases hlt2 : j < N
          · obtain ⟨b, rfl⟩ := htw.al hlt2
            have hin2 : ((j : Int) < (N : Int)) := by omega
            have e2 : IntKind.i64.wrap ((j : Int) + 1) = ((j + 1 : Nat) : Int) := by rw [IntWalk.i64_in _ (by have := HFW.out; omega)]; omega
            clear htw
            go_wp2_with (refine wpList_stO rfl 46 (.tmp 70) (.tmp 69) rfl b j N c4 zk ls' rfl rfl HTW.out.l HTW.out.ln hlt2 size46 ?_; intro w11 ho11 hf11; have HT11 := Lib.hid (HTW.out.setL (HN4.out b rfl) ho11 hf11); clear ho11 hf11)
            go_roundw
            case rel => exact ⟨j + 1, _, by omega, by go_num, HT11.out⟩
            case measure => simp [intOf]; omega
          · obtain rfl : j = N := by omega
            have hin2 : ¬ ((j : Int) < (j : Int)) := by omega
            clear htw
            go_upto_region 21 with fail
            go_loopw [11] (fun i wi => ∃ (q : Nat) (ps' : List (Nat × Nat)), q ≤ M ∧ i = .int .i64 (q : Int) ∧ Two w3 wi A4 A5 j c4 M c5 ls' ps') (fun i _ => M - (intOf i).toNat)
            case atStart => exact ⟨0, _, by omega, rfl, HTW.out⟩
            case round =>
              obtain ⟨q, ps', hq, rfl, htw⟩ := hrel
              have HTV := Lib.hid htw
              by_cases hlt3 : q < M
              · obtain ⟨b, rfl⟩ := htw.ap hlt3
                have hin3 : ((q : Int) < (M : Int)) := by omega
                have e2 : IntKind.i64.wrap ((q : Int) + 1) = ((q + 1 : Nat) : Int) := by rw [IntWalk.i64_in _ (by have := HFM.out; omega)]; omega
                clear htw
                go_wp2_with (refine wpList_stP rfl 47 (.tmp 80) (.tmp 79) rfl b q M c5 (0, 0) ps' rfl rfl HTV.out.p HTV.out.pn hlt3 size47 ?_; intro w11 ho11 hf11; have HT11 := Lib.hid (HTV.out.setP (HN5.out b rfl) ho11 hf11); clear ho11 hf11)
                go_roundw
                case rel => exact ⟨q + 1, _, by omega, by go_num, HT11.out⟩
                case measure => simp [intOf]; omega
              · obtain rfl : q = M := by omega
                have hin3 : ¬ ((q : Int) < (q : Int)) := by omega
                clear htw
                have e1 := HE1.out
                go_wp2_with fail
                go_roundw
                case rel => exact ⟨k + 1, by omega, by go_num, by rw [HLS.out]; exact HP3.out.up HTV.out.bel⟩
                case measure => simp [intOf]; omega
      · obtain rfl : k = n := by omega
        have hin : ¬ ((k : Int) < (k : Int)) := by omega
        have hE : l.take k = l := by rw [← H.out.len, List.take_length]
        rw [hE] at HP
        clear hp
        go_upto_region 24 with fail
        obtain ⟨ls, hls⟩ : ∃ ls, playM l = ls := ⟨_, rfl⟩
        rw [hls] at HP
        obtain ⟨N, hN⟩ : ∃ N, ls.length = N := ⟨_, rfl⟩
        have HNN := Lib.hid hN
        have HFW := Lib.hid (show N ≤ 16384 by rw [← hN]; exact HP.out.few)
        have HCA := Lib.hid ((HP.out.up (Below.refl _ _).drew).all HNN.out)
        obtain ⟨Ad, cd, c0, hrow⟩ := HP.out.c0 HNN.out
        have HRD := Lib.hid hrow
        have HBW := Lib.hid HP.out.bel
        clear hls hN hrow hE
        go_region_held3 (fun w' => w'.cell? ⟨h', 0, none⟩ = some (.slice Ad N cd)) (first | assumption | go_simp) (first
          | (go_at_call 12; with_reducible refine HCA.out.mono ?_; rintro e w4 ⟨A4, c4, rfl, ho4, hb4, hn4⟩; have HO4 := Lib.hid ho4; have hb5 := below_drew hb4; have HB4 := Lib.hid hb5; have q0 := (hb5.cell (block_lt_of_cell c0)).trans c0; clear ho4 hb4 hb5 hn4)
          | (go_at_call 14; with_reducible refine (same_any _ A4 Ad N c4 cd ls HNN.out (own_row HO4.out) (HRD.out.up HB4.out) HFW.out).mono ?_; rintro e w6 ⟨rfl, hb6⟩; have HB6 := Lib.hid (below_trans HB4.out hb6); have q1 := (hb6.cell (block_lt_of_cell q0)).trans q0; clear hb6)
          | (go_at_call 9; with_reducible refine (HAL.out _ (HBW.out.trans (HB6.out.mono HBW.out.size))).mono ?_; rintro e w7 ⟨rfl, hb7⟩; have HB7 := Lib.hid (below_trans HB6.out hb7); have q2 := (hb7.cell (block_lt_of_cell q1)).trans q1; clear hb7))
        go_wp2_with fail
        go_ret
        exact ⟨rfl, HBW.out.trans (HB7.out.mono HBW.out.size)⟩
end Go.Proofs.YtlblgfpafdfilaaDoor.lockPlays
