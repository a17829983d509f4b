/-
  STAGE 12: LockApart, its walk.
-/
import Derived.Test.YtlblgfpafdfilaaDoorMJ
import Derived.Test.YtlblgfpafdfilaaDoorMK
import Derived.Test.YtlblgfpafdfilaaDoorMB
import Derived.Test.YtlblgfpafdfilaaDoorLockNobodyWalk
namespace Go.Proofs.YtlblgfpafdfilaaDoor.lockApart
open Go.RowKit Go.Sort

/-- whether one is told to wait for another one -/
def wq (t : Nat) (ps : List (Nat × Nat)) : Bool := ps.any fun p => p.1 == t && p.2 != t
theorem wq_succ {t : Nat} {ps : List (Nat × Nat)} {j : Nat} {x : Nat × Nat} (h : ps[j]? = some x) : wq t (ps.take (j + 1)) = (wq t (ps.take j) || (x.1 == t && x.2 != t)) := by
  obtain ⟨hk, e⟩ := List.getElem?_eq_some_iff.1 h
  unfold wq
  rw [List.take_succ_eq_append_getElem hk, List.any_append, e]
  simp
theorem wq_true {ls : List LK} (h : Fine ls) {pl : List Nat} (hr : Rises ls pl) {k : Nat} {l : LK} (hl : ls[k]? = some l) (hh : l.h = false) : wq l.t (waitsM ls pl) = true := by
  obtain ⟨j, u, hj, hne⟩ := fine_waits h hr hl hh
  unfold wq
  rw [List.any_eq_true]
  exact ⟨_, List.mem_of_getElem? hj, by simpa using hne⟩
theorem fin_all {w0 w : World} {z g N : Nat} {ls : List LK} (h : TL w0 w z g ls) (hzs : z ≤ w0.heap.size) (hN : ls.length = N) :
    Calls Tryd.prog 12 #[.pointer (some ⟨g, 0, none⟩)] w fun e w' => ∃ A c, e = .returned (.slice A N c) ∧ OwR w' 46 7 lf (.slice A N c) ls ∧ TL w0 w' z g ls :=
  (h.all hzs).mono fun e w' ⟨v, he, hn, ht⟩ => by
    obtain ⟨A, c, hv, _⟩ := hn.1.form
    rw [hN] at hv
    subst hv
    exact ⟨A, c, he, hn.1, ht⟩
theorem fin_waits {w0 w : World} {z g : Nat} {ls : List LK} (h : TL w0 w z g ls) (hzs : z ≤ w0.heap.size) :
    Calls Tryd.prog 13 #[.pointer (some ⟨g, 0, none⟩)] w fun e w' => ∃ A c pl M, e = .returned (.slice A M c) ∧ (waitsM ls pl).length = M ∧ M ≤ 9223372036854775807 ∧ Rises ls pl ∧ OwR w' 47 2 pf (.slice A M c) (waitsM ls pl) ∧ TL w0 w' z g ls ∧ Below w.heap.size w w' :=
  (h.waits hzs).mono fun e w' ⟨v, pl, he, hr, ho, ht, hb⟩ => by
    obtain ⟨A, c, hv, hc, hm, _⟩ := ho.form
    subst hv
    exact ⟨A, c, pl, _, he, rfl, by have := Nat.le_trans hc hm; simpa [maxLen] using this, hr, ho, ht, hb⟩
theorem pair_cells {w : World} {A : Option Addr} {M c : Nat} {ps : List (Nat × Nat)} (h : OwR w 47 2 pf (.slice A M c) ps) {j : Nat} {x : Nat × Nat} (hx : ps[j]? = some x) : ∃ b, A = some ⟨b, 0, none⟩ ∧ w.cell? ⟨b, j * 2, none⟩ = some (.int .u32 (x.1 : Int)) ∧ w.cell? ⟨b, j * 2 + 1, none⟩ = some (.int .u32 (x.2 : Int)) := by
  obtain ⟨b, c', e, _, hat⟩ := h.at_ pf_len hx
  injection e with e1 _ _
  subst e1
  exact ⟨b, rfl, hat 0 _ rfl, hat 1 _ rfl⟩
theorem TL.few {w0 w : World} {z g : Nat} {ls : List LK} (h : TL w0 w z g ls) : ls.length ≤ 16384 := by
  obtain ⟨⟨v, hT, _⟩, _⟩ := h
  exact hT.few
theorem TL.oks {w0 w : World} {z g : Nat} {ls : List LK} (h : TL w0 w z g ls) : ∀ l ∈ ls, l.Ok := by
  obtain ⟨⟨v, hT, _⟩, _⟩ := h
  exact hT.ok

set_option maxRecDepth 100000 in
set_option maxHeartbeats 8000000 in
theorem walked (A : Option Addr) (n c : Nat) (l : List AV) (w : World) (h : AR w A n l) (hg : Gw w) :
    Calls Tryd.prog 4 #[.slice A n c] w fun e w' => e = .returned (.bool true) ∧ Below w.heap.size w w' := by
  have H := Lib.hid h
  have HG := Lib.hid hg
  obtain ⟨z, hz⟩ : ∃ z, z = w.heap.size := ⟨_, rfl⟩
  have HZ := Lib.hid hz
  have HZS := Lib.hid (show z ≤ w.heap.size by rw [hz]; exact Nat.le_refl _)
  have HN := Lib.hid ((new_any w hg.2).mono fun e w1 (h : e = .returned (.pointer (some ⟨w.heap.size, 0, none⟩)) ∧ TB w1 w.heap.size (.slice none 0 0) [] ∧ Below w.heap.size w w1) => (⟨by rw [hz]; exact h.1, by rw [hz]; exact ⟨⟨_, h.2.1, fun b e => by simp [Value.ownBlock] at e⟩, h.2.2, Nat.le_refl _, hg.below h.2.2⟩⟩ : e = .returned (.pointer (some ⟨z, 0, none⟩)) ∧ TL w w1 z z []))
  have HLG := Lib.hid (long_any w A n c l h)
  have HAL := Lib.hid (fun W (hb : Below w.heap.size w W) => alive_any W (hg.below hb))
  have HLE := Lib.hid h.le
  clear h hg hz
  go_enter Tryd.func4, Tryd.ntmps4
  go_wp2_with (first
    | (go_at_call 8; with_reducible refine HLG.out.mono ?_; intro e w1 hl; obtain ⟨r, he, hw, hr⟩ := LongO.out hl; subst he; have hw' := hw.symm; subst hw'; clear hl)
    | (go_at_call 9; with_reducible refine (HAL.out _ (Below.refl _ _)).mono ?_; rintro e w2 ⟨rfl, hb2⟩)
    | (go_at_call 10; with_reducible refine HN.out.mono ?_; rintro e w1 ⟨rfl, h1⟩; have H1 := Lib.hid h1; clear h1))
  · go_ret
    exact ⟨rfl, hb2⟩
  · clear hr
    have hr0 : r = false := by assumption
    subst hr0
    go_loopw [4] (fun i wr => ∃ (k : Nat) (ls : List LK), k ≤ n ∧ i = .int .i64 (k : Int) ∧ TL w wr z z ls ∧ Fine ls) (fun i _ => n - (intOf i).toNat)
    case atStart => exact ⟨0, [], by omega, rfl, H1.out, fine_nil⟩
    case round =>
      obtain ⟨k, ls, hk, rfl, htl, hfi⟩ := hrel
      have HTL := Lib.hid htl
      have HFI := Lib.hid hfi
      by_cases hlt : k < n
      · have hl : l[k]? = some (l[k]'(by have := H.out.len; omega)) := List.getElem?_eq_getElem _
        generalize l[k]'(by have := H.out.len; omega) = v at hl
        obtain ⟨g, o, rfl, ha⟩ := H.out.at_ k v hl
        have hv := H.out.ok v (List.mem_of_getElem? hl)
        have hgz : g < z := by rw [HZ.out]; exact ha.lt
        obtain ⟨z0, z1, z2, z3, z4, z5, z6⟩ := ha.below htl.bel hgz
        have hin : ((k : Int) < (n : Int)) := by omega
        have e1 : IntKind.i64.wrap ((k : Int) + 1) = ((k + 1 : Nat) : Int) := by rw [IntWalk.i64_in _ (by have := HLE.out; omega)]; omega
        have HV := Lib.hid hv
        obtain ⟨vd, vt, ⟨xr, xi, xa, xb⟩, vm⟩ := v
        simp only at z0 z1 z2 z3 z4 z5 z6
        obtain ⟨w2, hw2⟩ : ∃ w2, w2 = wr.alloc (.cells #[.int .i64 vd, .int .u32 (vt : Int), .bool xr, .int .u32 (xi : Int), .string xa, .string xb, .int .i64 vm] 38) := ⟨_, rfl⟩
        have hb2 : Below wr.heap.size wr w2 := by rw [hw2]; exact (Below.refl _ _).alloc (Nat.le_refl _) _
        have hk2 : Blk w2 wr.heap.size 38 #[.int .i64 vd, .int .u32 (vt : Int), .bool xr, .int .u32 (xi : Int), .string xa, .string xb, .int .i64 vm] := by rw [hw2]; exact Blk.new _ _ _
        have HK2 := Lib.hid hk2
        have HT2 := Lib.hid (htl.up HZS.out hb2)
        obtain ⟨k1, k2, k3, k4, k5, k6⟩ := lockNobody.act_cells hk2
        have k0 := hk2.cell 0
        simp only [List.getElem?_toArray, List.getElem?_cons_zero] at k0
        clear htl hfi hl hv hb2 hk2 ha
        go_upto_region 8 with fail
        rw [← hw2]
        clear hw2 z0 z1 z2 z3 z4 z5 z6
        obtain ⟨d, hd⟩ : ∃ d, (vd == 1) = d := ⟨_, rfl⟩
        go_cut [29] from 27 to 28 (fun v29 wx => v29 = .bool d ∧ wx = w2)
        case first =>
          go_wp2_with fail
          go_meet
          exact ⟨rfl, rfl⟩
        case rest =>
          obtain ⟨rfl, rfl⟩ := hcut
          rename_i K1 hK1
          refine hK1 _ _ ?_
          go_cut [6, 7] from 30 to 58 (fun _ _ wx => ∃ ls', TL w wx z z ls' ∧ Fine ls')
          case first =>
            clear hd e1 hin
            cases d with
            | true =>
              have HRL := Lib.hid (HT2.out.release HZS.out vt)
              have HFR := Lib.hid (fine_release HFI.out vt)
              go_wp2_with (go_at_call 19; with_reducible refine HRL.out.mono ?_; rintro e w3 ⟨⟨vg, hev, _⟩, ht3, _⟩; subst hev; have HT3 := Lib.hid ht3; clear ht3)
              go_meet
              exact ⟨_, HT3.out, HFR.out⟩
            | false =>
              have HAK := Lib.hid (HT2.out.ask HZS.out vt ⟨xr, xi, xa, xb⟩ vm HV.out.t HV.out.i HV.out.a HV.out.b)
              have hfa := fine_ask HFI.out vt ⟨xr, xi, xa, xb⟩ vm
              generalize askM vt ⟨xr, xi, xa, xb⟩ vm ls = rr at HAK hfa
              obtain ⟨⟨hb, en⟩, ls2⟩ := rr
              simp only [Th.agg] at HAK hfa
              have HF2 := Lib.hid hfa.1
              by_cases hen : en = 0
              · have hq := hfa.2 hen
                have HHA := Lib.hid (fun W (h : TL w W z z ls2) => h.has HZS.out vt ⟨xr, xi, xa, xb⟩ vm HV.out.a HV.out.b)
                rw [← hq] at HHA
                simp only [Th.agg] at HHA
                subst hen
                rw [show ((0 : Nat) : Int) = 0 from rfl] at HAK
                clear hfa hq
                cases hb <;>
                · go_wp2_with (first
                    | (go_at_call 20; with_reducible refine HAK.out.mono ?_; rintro e w3 ⟨rfl, ht3, hk3⟩; have HT3 := Lib.hid ht3; have HK3 := Lib.hid (hk3 _ _ _ HK2.out (by decide) (by decide)); obtain ⟨k1, k2, k3, k4, k5, k6⟩ := lockNobody.act_cells HK3.out; clear ht3 hk3)
                    | (go_at_call 21; with_reducible refine (HHA.out _ HT3.out).mono ?_; rintro e w4 ⟨rfl, ht4, _⟩; have HT4 := Lib.hid ht4; clear ht4))
                  go_meet
                  exact ⟨_, HT4.out, HF2.out⟩
              · have he0 : ((en : Int) == 0) = false := beq_eq_false_iff_ne.2 (by omega)
                clear hfa
                go_wp2_with (go_at_call 20; with_reducible refine HAK.out.mono ?_; rintro e w3 ⟨rfl, ht3, hk3⟩; have HT3 := Lib.hid ht3; clear ht3 hk3)
                go_meet
                exact ⟨_, HT3.out, HF2.out⟩
          case rest =>
            obtain ⟨ls', htl', hfi'⟩ := hcut
            have HFI' := Lib.hid hfi'
            obtain ⟨N, hN⟩ : ∃ N, ls'.length = N := ⟨_, rfl⟩
            have HNN := Lib.hid hN
            have HAP := Lib.hid (fun W A c (h : OwR W 46 7 lf (.slice A N c) ls') => apart_any W A N c ls' hN (own_row h) (by rw [← hN]; exact TL.few htl') hfi'.1.ms (fun i k a b ha hb => fine_apart hfi'.1 ha hb))
            have HFW := Lib.hid (show N ≤ 16384 by rw [← hN]; exact TL.few htl')
            have HOK := Lib.hid (TL.oks htl')
            have HALL := Lib.hid (fin_all htl' HZS.out hN)
            have HWT := Lib.hid (fun W (h : TL w W z z ls') => fin_waits h HZS.out)
            clear htl' hfi' hN
            go_wp2_with (first
              | (go_at_call 12; with_reducible refine HALL.out.mono ?_; rintro e w3 ⟨A3, c3, rfl, ho3, ht3⟩; have HT3 := Lib.hid ht3; have HO3 := Lib.hid ho3; clear ho3 ht3)
              | (go_at_call 13; with_reducible refine (HWT.out _ HT3.out).mono ?_; rintro e w4 ⟨A4, c4, pl, M, rfl, hM, hm4, hr4, ho4, ht4, hb4⟩; have HT4 := Lib.hid ht4; have HO4 := Lib.hid (HO3.out.up hb4); have HW4 := Lib.hid ho4; have HM4 := Lib.hid hm4; have HML := Lib.hid hM; have HR4 := Lib.hid hr4; clear hM hm4 hr4 ho4 ht4 hb4)
              | (go_at_call 22; with_reducible refine (HAP.out _ _ _ HO4.out).mono ?_; rintro e w5 ⟨rfl, hb5⟩; have HT5 := Lib.hid (HT4.out.up HZS.out hb5); have HO5 := Lib.hid (HO4.out.up hb5); have HW5 := Lib.hid (HW4.out.up hb5); clear hb5))
            obtain ⟨ps, hps⟩ : ∃ ps, ps = waitsM ls' pl := ⟨_, rfl⟩
            have HPS := Lib.hid hps
            rw [← hps] at HW5 HML
            clear hps
            go_loopw [10] (fun i wr => ∃ k : Nat, k ≤ N ∧ i = .int .i64 (k : Int) ∧ Below w5.heap.size w5 wr) (fun i _ => N - (intOf i).toNat)
            case atStart => exact ⟨0, by omega, rfl, Below.refl _ _⟩
            case round =>
              obtain ⟨kk, hkk, rfl, hbk⟩ := hrel
              have HBK := Lib.hid hbk
              by_cases hlt2 : kk < N
              · have hl : ls'[kk]? = some (ls'[kk]'(by have := HNN.out; omega)) := List.getElem?_eq_getElem _
                generalize ls'[kk]'(by have := HNN.out; omega) = q at hl
                obtain ⟨b, rfl, hcs⟩ := own_row (HO5.out.up hbk) kk q hl
                have HCS := Lib.hid hcs
                have HQ := Lib.hid hl
                have HQO := Lib.hid (HOK.out q (List.mem_of_getElem? hl))
                have hin3 : ((kk : Int) < (N : Int)) := by omega
                have e3 : IntKind.i64.wrap ((kk : Int) + 1) = ((kk + 1 : Nat) : Int) := by rw [IntWalk.i64_in _ (by have := HFW.out; omega)]; omega
                obtain ⟨wb, hwb⟩ : ∃ wb, wb = wr := ⟨_, rfl⟩
                subst hwb
                clear hbk hcs hl
                go_wp2_with fail
                go_loopw [11, 12] (fun s i wi => ∃ j : Nat, j ≤ M ∧ i = .int .i64 (j : Int) ∧ s = .bool (wq q.t (ps.take j)) ∧ Below wb.heap.size wb wi) (fun _ i _ => M - (intOf i).toNat)
                case atStart => exact ⟨0, by omega, rfl, rfl, Below.refl _ _⟩
                case round =>
                  obtain ⟨j, hj, rfl, rfl, hbj⟩ := hrel
                  have HBJ := Lib.hid hbj
                  by_cases hlt3 : j < M
                  · have hx : ps[j]? = some (ps[j]'(by have := HML.out; omega)) := List.getElem?_eq_getElem _
                    generalize ps[j]'(by have := HML.out; omega) = x at hx
                    obtain ⟨b2, rfl, y0, y1⟩ := pair_cells ((HW5.out.up HBK.out).up hbj) hx
                    obtain ⟨z0, z1, z2, z3, z4, z5, z6⟩ := (HCS.out.up hbj).rg
                    replace y0 := fun d os => cell_regrown y0 d os
                    replace y1 := fun d os => cell_regrown y1 d os
                    have hin4 : ((j : Int) < (M : Int)) := by omega
                    have e4 : IntKind.i64.wrap ((j : Int) + 1) = ((j + 1 : Nat) : Int) := by rw [IntWalk.i64_in _ (by have := HM4.out; omega)]; omega
                    have HS := Lib.hid (wq_succ (t := q.t) hx)
                    have d1 := nbeq x.1 q.t
                    have d2 : ((x.2 : Int) != (q.t : Int)) = (x.2 != q.t) := by rw [show ((x.2 : Int) != (q.t : Int)) = !((x.2 : Int) == (q.t : Int)) from rfl, nbeq]; rfl
                    generalize wq q.t (ps.take j) = s at HS
                    generalize (x.1 == q.t) = u at d1 HS
                    generalize (x.2 != q.t) = r at d2 HS
                    clear hbj hx
                    have key : s = true ∨ (s = false ∧ u = false) ∨ (s = false ∧ u = true) := by cases s <;> cases u <;> simp
                    rcases key with rfl | ⟨rfl, rfl⟩ | ⟨rfl, rfl⟩ <;>
                    · go_upto_region 24 with fail
                      refine wp_region_quiet_below (by kernel_rfl) (by kernel_rfl) ?_
                      repeat (go_big_quiet_step (fail))
                      refine wpQuiet_nil ?_
                      rintro W3 ⟨pp, hpp⟩
                      have HB4 := Lib.hid (show Below wr.heap.size wr W3 by rw [hpp]; exact below_regrown _ _ _)
                      clear hpp z0 z1 z2 z3 z4 z5 z6 y0 y1
                      go_wp2_with fail
                      go_roundw
                      case rel => exact ⟨j + 1, by omega, by go_num, by rw [HS.out]; simp, below_trans HBJ.out HB4.out⟩
                      case measure => simp [intOf]; omega
                  · obtain rfl : j = M := by omega
                    have hin4 : ¬ ((j : Int) < (j : Int)) := by omega
                    have HSW := Lib.hid (show ps.take j = ps by rw [← HML.out, List.take_length])
                    rw [HSW.out]
                    have HTJ := Lib.hid (HT5.out.up HZS.out (below_trans HBK.out hbj))
                    have HHA := Lib.hid (fun W (h : Below wr.heap.size wr W) => ((HTJ.out.up HZS.out h).has HZS.out q.t q.x q.m HQO.out.a HQO.out.b).mono fun e w' (h : e = .returned (.bool (hasM q.t q.x q.m ls')) ∧ TL w w' z z ls' ∧ Below W.heap.size W w') => (⟨h.1, h.2.2⟩ : e = .returned (.bool (hasM q.t q.x q.m ls')) ∧ Below W.heap.size W w'))
                    have hhas : q.h = true → hasM q.t q.x q.m ls' = true := fun hh => has_held HFI'.out.1 HQ.out hh
                    have hwt : q.h = false → wq q.t ps = true := fun hh => by rw [HPS.out]; exact wq_true HFI'.out HR4.out HQ.out hh
                    obtain ⟨z0, z1, z2, z3, z4, z5, z6⟩ := (HCS.out.up hbj).rg
                    generalize hasM q.t q.x q.m ls' = hs at HHA hhas
                    generalize wq q.t ps = ws at hwt ⊢
                    obtain ⟨qt, ⟨qr, qi, qa, qb⟩, qm, qh⟩ := q
                    simp only [Th.agg] at HHA z0 z1 z2 z3 z4 z5 z6 hhas hwt
                    have key : (qh = true ∧ hs = true) ∨ (qh = false ∧ ws = true) := by
                      cases qh with
                      | true => exact Or.inl ⟨rfl, hhas rfl⟩
                      | false => exact Or.inr ⟨rfl, hwt rfl⟩
                    clear hbj hhas hwt
                    rcases key with ⟨rfl, rfl⟩ | ⟨rfl, rfl⟩ <;>
                    · go_upto_region 25 with fail
                      refine wp_region_quiet_below (by kernel_rfl) (by kernel_rfl) ?_
                      repeat (go_big_quiet_step (first | (go_at_call 21; with_reducible exact Calls.regrown_of (HHA.out _ (below_regrown _ _ _)))))
                      refine wpQuiet_nil ?_
                      rintro W3 ⟨pp, hpp⟩
                      have HB4 := Lib.hid (show Below wr.heap.size wr W3 by rw [hpp]; exact below_regrown _ _ _)
                      clear hpp z0 z1 z2 z3 z4 z5 z6
                      go_wp2_with fail
                      go_roundw
                      case rel => exact ⟨kk + 1, by omega, by go_num, below_trans HBK.out (below_trans HBJ.out HB4.out)⟩
                      case measure => simp [intOf]; omega
              · obtain rfl : kk = N := by omega
                have hin3 : ¬ ((kk : Int) < (kk : Int)) := by omega
                clear hbk
                go_wp2_with fail
                go_roundw
                case rel => exact ⟨k + 1, ls', by omega, by go_num, HT5.out.up HZS.out HBK.out, HFI'.out⟩
                case measure => simp [intOf]; omega
      · obtain rfl : k = n := by omega
        have hin : ¬ ((k : Int) < (k : Int)) := by omega
        clear htl hfi
        go_wp2_with (go_at_call 9; with_reducible refine (HAL.out _ (by have := HTL.out.bel; rwa [HZ.out] at this)).mono ?_; rintro e w5 ⟨rfl, hb5⟩; have HB5 := Lib.hid hb5; clear hb5)
        go_ret
        exact ⟨rfl, by have := HTL.out.bel; rw [HZ.out] at this; exact below_trans this HB5.out⟩
end Go.Proofs.YtlblgfpafdfilaaDoor.lockApart
