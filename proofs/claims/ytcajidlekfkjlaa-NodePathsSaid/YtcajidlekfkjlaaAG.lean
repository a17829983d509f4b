/-
STAGE 8: the document's Seek.
-/
import Derived.Test.YtcajidlekfkjlaaAE
namespace Go.Proofs.Ytcajidlekfkjlaa
open Go.RowKit
attribute [local go_sem high] run_geqs

def rseekM (t : TV) (x : List Nat) (n : Nat) : Except Int (Nat × Nat) := if n = 0 then .error 1 else match wayN t x 8 n with
  | .error c => .error c
  | .ok l => rsk t x 8192 (l.getD (l.length - 1) 0)
theorem wayN_ne {t : TV} {x : List Nat} {f n : Nat} {l : List Nat} (h : wayN t x f n = .ok l) : l ≠ [] := by
  unfold wayN at h
  cases hw : wayM (some t) x f n with
  | error c => rw [hw] at h; cases h
  | ok r =>
    rw [hw] at h
    injection h with h
    subst h
    obtain ⟨i, hi, _⟩ := wayM_last f n r hw
    cases r with
    | nil => cases hi
    | cons a r => simp [nos]
theorem wayM_code {t : TV} {x : List Nat} : ∀ (f n : Nat) (c : Int), wayM (some t) x f n = .error c → c ≠ 0
  | 0, _, c, h => by injection h with h; subst h; decide
  | f + 1, n, c, h => by
    unfold wayM at h
    cases hA : askM (some t) n with
    | error e => rw [hA] at h; injection h with h; subst h; exact ask_code hA
    | ok p =>
      rw [hA] at h
      simp only [] at h
      split at h
      · cases h
      · cases hw : wayM (some t) x f (childM p x) with
        | error e => rw [hw] at h; injection h with h; subst h; exact wayM_code f _ _ hw
        | ok r => rw [hw] at h; cases h
theorem wayN_code {t : TV} {x : List Nat} {f n : Nat} {c : Int} (h : wayN t x f n = .error c) : c ≠ 0 := by
  unfold wayN at h
  cases hw : wayM (some t) x f n with
  | error e => rw [hw] at h; injection h with h; subst h; exact wayM_code f n _ hw
  | ok r => rw [hw] at h; cases h
theorem wayN_len {t : TV} {x : List Nat} {f n : Nat} {l : List Nat} (h : wayN t x f n = .ok l) : l.length ≤ f := by
  unfold wayN at h
  cases hw : wayM (some t) x f n with
  | error e => rw [hw] at h; cases h
  | ok r => rw [hw] at h; injection h with h; subst h; simpa [nos] using (wayM_len f n r hw).1
theorem seekM_eq {t : TV} {x : List Nat} {n : Nat} (hl : t.l.length ≤ 300) : seekM (some t) x n = rseekM t x n := by
  unfold seekM rseekM wayN
  by_cases h0 : n = 0
  · rw [if_pos h0, if_pos h0]
  · rw [if_neg h0, if_neg h0]
    cases hw : wayM (some t) x 8 n with
    | error c => rfl
    | ok r =>
      obtain ⟨i, hi, hi2, hk, q, hq⟩ := wayM_last 8 n r hw
      simp only [hi, Except.map]
      have hmem : i ∈ r := List.mem_of_getElem? hi2
      have ht := wayM_told 8 n r hw i hmem
      have hit : i.t ≠ 0 := by
        obtain ⟨_, _, h, _⟩ := ask_ok_inv ht
        exact h
      rw [seek_rsk hit ht hk (by omega)]
      congr 1
      unfold nos
      rw [List.length_map]
      unfold List.getD
      rw [List.getElem?_map, hi2]
      rfl
theorem rsk_zero (t : TV) (x : List Nat) (f : Nat) : rsk t x f 0 = .error 6 := by unfold rsk; rw [if_pos rfl]
theorem rsk_err {t : TV} {x : List Nat} {f n : Nat} {c : Int} (h0 : n ≠ 0) (h : askM (some t) n = .error c) : rsk t x f n = .error c := by unfold rsk; rw [if_neg h0, h]
theorem rsk_kind {t : TV} {x : List Nat} {f n : Nat} {p : PV} (h0 : n ≠ 0) (h : askM (some t) n = .ok p) (hk : p.k ≠ 2) : rsk t x f n = .error 5 := by unfold rsk; rw [if_neg h0, h]; simp only []; rw [if_pos hk]
theorem rsk_out {t : TV} {x : List Nat} {n : Nat} {p : PV} (h0 : n ≠ 0) (h : askM (some t) n = .ok p) : rsk t x 0 n = .error 5 := by
  unfold rsk; rw [if_neg h0, h]; simp only []
  split <;> rfl
theorem rsk_leaf {t : TV} {x : List Nat} {f n : Nat} {p : PV} (h0 : n ≠ 0) (h : askM (some t) n = .ok p) (hk : p.k = 2) : rsk t x (f + 1) n = if placeN p x < p.n then .ok (n, placeN p x) else rsk t x f p.x := by
  conv => lhs; unfold rsk
  rw [if_neg h0, h]; simp only []
  rw [if_neg (by simpa using hk)]
theorem ent0 (d : List Nat) : ent 0 d = d := by unfold ent; simp
theorem place_is {es : List CE} {x : List Nat} {j : Nat} (hj : j < es.length) (hb : ∀ i, i < j → ltb (es.getD i cz).d x = true) (h : ltb (es.getD j cz).d x = false) : lbd 0 es x = j := by
  rcases Nat.lt_trichotomy (lbd 0 es x) j with hlt | he | hgt
  · have h1 := lbd_at (e := 0) (es := es) (d := x) (by omega)
    rw [ent0, hb _ hlt] at h1
    cases h1
  · exact he
  · have h1 := lbd_below (e := 0) (es := es) (d := x) hgt
    rw [ent0, h] at h1
    cases h1
theorem place_no {es : List CE} {x : List Nat} (hb : ∀ i, i < es.length → ltb (es.getD i cz).d x = true) : ¬ lbd 0 es x < es.length := fun h => by
  have h1 := lbd_at h
  rw [ent0, hb _ h] at h1
  cases h1
set_option maxHeartbeats 4000000 in
set_option maxRecDepth 100000 in
theorem rSeek_any (t : TV) (n : Nat) (x : List Nat) (w : World) {S : Nat → Prop} (hn : n < 4294967296) (h : t.In w S) (hf : ∀ y ∈ t.l, Few y.p) :
    Calls Try.prog 12 #[t.agg, .int .u32 (n : Int), .string (strOf x)] w (SeekP w (rseekM t x n)) := by
  have HW := Lib.hid (fun (W : World) (hW : Below w.heap.size w W) => rway_any t n x W hn (h.below hW) hf)
  have HPG := Lib.hid (fun (W : World) (hW : Below w.heap.size w W) (q : Nat) => rpage_any t q W (h.below hW) hf)
  have HG := Lib.hid (show GIn w S (some t) from fun t' e => by cases e; exact ⟨h, hf⟩)
  unfold TV.agg at HW HPG ⊢
  clear h hf
  by_cases h0 : n = 0
  · subst h0
    have e : rseekM t x 0 = .error 1 := by unfold rseekM; rw [if_pos rfl]
    have HE := Lib.hid e
    clear e
    go_enter Try.func12, Try.ntmps12
    go_wp2_with fail
    refine bodyPost_ret (v := .tuple #[.int .u32 0, .int .i64 0, .int .i64 1]) (by simp [results, Try.results12, go_sem]) rfl ?_
    rw [HE.out]
    exact ⟨rfl, (Below.refl _ _).alloc (Nat.le_refl _) _⟩
  have d0 : ((n : Int) == 0) = false := beq_false_of_ne (by omega)
  have hRS : rseekM t x n = match wayN t x 8 n with | .error c => .error c | .ok l => rsk t x 8192 (l.getD (l.length - 1) 0) := by unfold rseekM; rw [if_neg h0]
  obtain ⟨R, hR⟩ : ∃ R, R = rseekM t x n := ⟨_, rfl⟩
  rw [← hR] at hRS ⊢
  clear hR h0
  cases hw : wayN t x 8 n with
  | error c =>
    rw [hw] at HW hRS
    have dc : (c != 0) = true := bne_iff_ne.2 (wayN_code hw)
    have HE := Lib.hid hRS
    clear hRS hw
    go_enter Try.func12, Try.ntmps12
    go_wp2_with fail
    refine (HW.out _ ((Below.refl _ _).alloc (Nat.le_refl _) _)).mono ?_
    rintro e w1 ⟨v, rfl, hv, hb⟩
    have HB := Lib.hid (((Below.refl w.heap.size w).alloc (Nat.le_refl _) (.cells #[.slice t.A t.n t.c, .int .u32 (t.bad : Int), .int .i64 t.err] 26)).trans (hb.mono (by simp)))
    simp only [codeR]
    clear hv hb
    go_wp2_with fail
    refine bodyPost_ret (v := .tuple #[.int .u32 0, .int .i64 0, .int .i64 c]) (by simp [results, Try.results12, go_sem]) rfl ?_
    rw [HE.out]
    exact ⟨rfl, HB.out⟩
  | ok l =>
    have hne := wayN_ne hw
    have hl8 := wayN_len hw
    rw [hw] at HW hRS
    simp only [] at hRS
    have hll : 1 ≤ l.length := by
      cases l with
      | nil => exact absurd rfl hne
      | cons a r => simp
    have HRS := Lib.hid hRS
    clear hw hne hRS
    go_enter Try.func12, Try.ntmps12
    go_upto_region 4 with fail
    refine (HW.out _ ((Below.refl _ _).alloc (Nat.le_refl _) _)).mono ?_
    rintro e w1 ⟨v, rfl, hv, hb⟩
    simp only [lstR, codeR] at hv ⊢
    obtain ⟨vA, vc, rfl, hvc, hvz, hvr⟩ := hv.reads
    obtain ⟨q, hq⟩ : ∃ q, q = l.length - 1 := ⟨_, rfl⟩
    obtain ⟨ad, hvA, hlt, hcell⟩ := hvr.at_ (k := q) (by omega)
    subst hvA
    have HB1 := Lib.hid (((Below.refl w.heap.size w).alloc (Nat.le_refl _) (.cells #[.slice t.A t.n t.c, .int .u32 (t.bad : Int), .int .i64 t.err] 26)).trans (hb.mono (by simp)))
    have HX1 := Lib.hid ((Blk.new w 26 #[.slice t.A t.n t.c, .int .u32 (t.bad : Int), .int .i64 t.err]).below hb (by simp))
    obtain ⟨m, hm⟩ : ∃ m, m = l.getD q 0 := ⟨_, rfl⟩
    obtain ⟨ln, hln⟩ : ∃ ln, ln = l.length := ⟨_, rfl⟩
    rw [← hm] at hlt hcell
    rw [← hln] at hq hll hvc hvr ⊢
    have HRM : Hid (R = rsk t x 8192 m) := Lib.hid (by rw [HRS.out, ← hln, ← hq, hm])
    have s1 : (ln : Int) - 1 = (q : Int) := by omega
    have s2 : IntKind.i64.wrap (q : Int) = (q : Int) := IntWalk.i64_in _ (by omega)
    have s3 : IntKind.i64.wrap ((ln : Int) - 1) = (q : Int) := by rw [s1, s2]
    have s4 : q < ln := by omega
    have HLT := Lib.hid hlt
    clear hv hb hvr hm hq hln hvz hlt
    go_wp2_with fail
    clear s1 s2 s3 s4 hcell hvc hll hl8 d0
    go_loopw [11, 12] (fun v q wr => ∃ (k nn : Nat), k ≤ 8192 ∧ v = .int .u32 (nn : Int) ∧ nn < 4294967296 ∧ q = .int .i64 (k : Int) ∧ Below w.heap.size w wr ∧ Blk wr w.heap.size 26 #[.slice t.A t.n t.c, .int .u32 (t.bad : Int), .int .i64 t.err] ∧ R = rsk t x (8192 - k) nn) (fun _ q _ => 8193 - (intOf q).toNat)
    case atStart => exact ⟨0, m, by omega, rfl, HLT.out, rfl, HB1.out, HX1.out, HRM.out⟩
    case round =>
      obtain ⟨k, nn, hk, rfl, hnn, rfl, hbw, hbx, hRk⟩ := hrel
      have x0 := hbx.cell 0
      have x1 := hbx.cell 1
      have x2 := hbx.cell 2
      simp only [List.getElem?_toArray, List.getElem?_cons_zero, List.getElem?_cons_succ] at x0 x1 x2
      have HB2 := Lib.hid hbw
      have HX2 := Lib.hid hbx
      have HRK := Lib.hid hRk
      have HNN := Lib.hid hnn
      clear hbw hbx hRk hnn
      by_cases hn0 : nn = 0
      · subst hn0
        have HE : Hid (R = .error 6) := Lib.hid (HRK.out.trans (rsk_zero _ _ _))
        go_wp2_with fail
        refine bodyPost_ret (v := .tuple #[.int .u32 0, .int .i64 0, .int .i64 6]) (by simp [results, Try.results12, go_sem]) rfl ?_
        rw [HE.out]
        exact ⟨rfl, HB2.out⟩
      have dn : ((nn : Int) != 0) = true := bne_iff_ne.2 (by omega)
      have HPC := HPG.out wr HB2.out nn
      cases hA : askM (some t) nn with
      | error c =>
        obtain ⟨e1, e2⟩ := pg_no hA
        rw [e1, e2] at HPC
        have dc : (c != 0) = true := bne_iff_ne.2 (ask_code hA)
        have HE : Hid (R = .error c) := Lib.hid (HRK.out.trans (rsk_err hn0 hA))
        simp only [PV.zero, PV.agg] at HPC
        clear hA e1 e2 hn0
        go_wp2_with fail
        refine HPC.mono ?_
        rintro e w5 ⟨rfl, hb5⟩
        have HB5 := Lib.hid (HB2.out.trans (hb5.mono HB2.out.size))
        clear hb5
        go_wp2_with fail
        refine bodyPost_ret (v := .tuple #[.int .u32 0, .int .i64 0, .int .i64 c]) (by simp [results, Try.results12, go_sem]) rfl ?_
        rw [HE.out]
        exact ⟨rfl, HB5.out.alloc HB5.out.size _⟩
      | ok p =>
        obtain ⟨e1, e2⟩ := pg_ok hA
        rw [e1, e2] at HPC
        have hpi := (ask_in HG.out hA).1
        obtain ⟨_, _, _, _, hok⟩ := ask_ok_inv hA
        have hpn := okP_n hpi hok
        have hlp := hpi.r.1
        have hpx := hpi.x
        have hrk := fun f (h : p.k ≠ 2) => rsk_kind (x := x) (f := f) hn0 hA h
        have hro := rsk_out (x := x) hn0 hA
        have hrl := fun f (h : p.k = 2) => rsk_leaf (x := x) (f := f) hn0 hA h
        obtain ⟨pk, ps, px, pA, pn, pc, pl⟩ := p
        dsimp only at hpn hlp hpx hrk hro hrl
        unfold PV.agg at HPC
        have HPI := Lib.hid hpi
        have HPN := Lib.hid hpn
        have HLP := Lib.hid hlp
        have HPX := Lib.hid hpx
        have HRL := Lib.hid hrl
        have HRKK := Lib.hid hrk
        have HRO := Lib.hid hro
        clear hA e1 e2 hpi hok hpn hlp hpx hrk hro hrl hn0
        by_cases hk2 : pk = 2
        · have d2 : (pk != 2) = false := by rw [hk2]; rfl
          have HK2 := Lib.hid hk2
          clear hk2
          by_cases hk8 : k = 8192
          · have d3 : decide ((k : Int) ≥ 8192) = true := decide_eq_true (by omega)
            have HE : Hid (R = .error 5) := Lib.hid (by have := HRK.out; rw [hk8] at this; exact this.trans HRO.out)
            clear hk8
            go_wp2_with fail
            refine HPC.mono ?_
            rintro e w5 ⟨rfl, hb5⟩
            have HB5 := Lib.hid (HB2.out.trans (hb5.mono HB2.out.size))
            clear hb5
            go_wp2_with fail
            refine bodyPost_ret (v := .tuple #[.int .u32 0, .int .i64 0, .int .i64 5]) (by simp [results, Try.results12, go_sem]) rfl ?_
            rw [HE.out]
            exact ⟨rfl, HB5.out.alloc HB5.out.size _⟩
          · have d3 : decide ((k : Int) ≥ 8192) = false := decide_eq_false (by omega)
            have H8 : Hid (k < 8192) := Lib.hid (by omega)
            have HRR : Hid (R = if placeN ⟨pk, ps, px, pA, pn, pc, pl⟩ x < pn then .ok (nn, placeN ⟨pk, ps, px, pA, pn, pc, pl⟩ x) else rsk t x (8192 - (k + 1)) px) := by
              have := HRK.out
              rw [show 8192 - k = (8192 - (k + 1)) + 1 by omega, HRL.out _ HK2.out] at this
              exact Lib.hid this
            have HPP : Hid (placeN ⟨pk, ps, px, pA, pn, pc, pl⟩ x = lbd 0 (pl.map CV.e) x) := by
              unfold placeN
              have : eo pk = 0 := by unfold eo; rw [if_neg (by have := HK2.out; omega)]
              show Hid (lbd (eo pk) _ x = _)
              rw [this]
              exact Lib.hid rfl
            clear hk8
            go_upto_region 13 with fail
            refine HPC.mono ?_
            rintro e w5 ⟨rfl, hb5⟩
            have HB5 := Lib.hid (HB2.out.trans (hb5.mono HB2.out.size))
            have HX5 := Lib.hid (HX2.out.below hb5 HX2.out.lt)
            clear hb5 x0 x1 x2
            go_upto_region 13 with fail
            obtain ⟨w6, hw6⟩ : ∃ W, W = w5.alloc (.cells #[.int .i64 pk, .int .u64 (ps : Int), .int .u32 (px : Int), .slice pA pn pc] 51) := ⟨_, rfl⟩
            have hb6 : Below w5.heap.size w5 w6 := by rw [hw6]; exact (Below.refl _ _).alloc (Nat.le_refl _) _
            have bp6 : Blk w6 w5.heap.size 51 #[.int .i64 pk, .int .u64 (ps : Int), .int .u32 (px : Int), .slice pA pn pc] := by rw [hw6]; exact Blk.new w5 51 _
            rw [← hw6]
            have HB6 := Lib.hid (HB5.out.trans (hb6.mono HB5.out.size))
            have HX6 := Lib.hid (HX5.out.below hb6 HX5.out.lt)
            have HP6 := Lib.hid bp6
            have HPI6 := Lib.hid (HPI.out.keep (Fr.of_below HB6.out No) (fun _ _ hn => hn) (fun _ _ hn => hn))
            have p0 := bp6.cell 0
            have p1 := bp6.cell 1
            have p2 := bp6.cell 2
            have p3 := bp6.cell 3
            simp only [List.getElem?_toArray, List.getElem?_cons_zero, List.getElem?_cons_succ] at p0 p1 p2 p3
            clear hw6 hb6 bp6
            go_wp2_with fail
            go_loopw [15] (fun i wr => ∃ j : Nat, j ≤ pn ∧ i = .int .i64 (j : Int) ∧ (∀ i, i < j → ltb ((pl.map CV.e).getD i cz).d x = true) ∧ wr = w6) (fun i _ => pn - (intOf i).toNat)
            case atStart => exact ⟨0, by omega, rfl, fun i hi => by omega, rfl⟩
            case round =>
              obtain ⟨j, hj, rfl, hlo, hww⟩ := hrel
              subst hww
              have HLO := Lib.hid hlo
              clear hlo
              by_cases hlt : j < pn
              · obtain ⟨g, o, cx, hpA, hg, _, hcx, hci, b0, b1, b2⟩ := HPI6.out.r.at_ hlt
                dsimp only at hpA hcx b0 b1 b2
                subst hpA
                have hws : IntKind.i64.wrap ((j : Int) + 1) = ((j + 1 : Nat) : Int) := by rw [IntWalk.i64_in _ (by have := HPN.out; omega)]; omega
                have hws' : IntKind.i64.wrap ((j : Int) + 1) = (j : Int) + 1 := IntWalk.i64_in _ (by have := HPN.out; omega)
                have d5 : decide ((j : Int) < (pn : Int)) = true := decide_eq_true (by omega)
                have hjd : ((pl.map CV.e).getD j cz).d = cx.d := by
                  unfold List.getD
                  rw [List.getElem?_map, hcx]
                  rfl
                have hcv := run_conv _ cx.A cx.m cx.c cx.d wr hci.b
                have HJD := Lib.hid hjd
                clear hcx hci hjd
                cases hlx : ltb cx.d x with
                | true =>
                  have HST : Hid (∀ i, i < j + 1 → ltb ((pl.map CV.e).getD i cz).d x = true) := Lib.hid fun i hi => by
                    rcases Nat.lt_or_eq_of_le (Nat.le_of_lt_succ hi) with h | rfl
                    · exact HLO.out i h
                    · rw [HJD.out]; exact hlx
                  go_wp2_with fail
                  go_roundw
                  case rel => exact ⟨j + 1, by omega, by go_num, HST.out, by first | rfl | trivial⟩
                  case measure => simp [intOf]; omega
                | false =>
                  have HE : Hid (R = .ok (nn, j)) := by
                    have hp : lbd 0 (pl.map CV.e) x = j := place_is (by rw [List.length_map, HLP.out]; exact hlt) HLO.out (by rw [HJD.out]; exact hlx)
                    have := HRR.out
                    rw [HPP.out, hp, if_pos hlt] at this
                    exact Lib.hid this
                  go_wp2_with fail
                  refine bodyPost_ret (v := .tuple #[.int .u32 (nn : Int), .int .i64 (j : Int), .int .i64 0]) (by simp [results, Try.results12, go_sem]) rfl ?_
                  rw [HE.out]
                  exact ⟨rfl, HB6.out⟩
              · obtain rfl : j = pn := by omega
                have hws : IntKind.i64.wrap ((k : Int) + 1) = ((k + 1 : Nat) : Int) := by rw [IntWalk.i64_in _ (by have := H8.out; omega)]; omega
                have hws' : IntKind.i64.wrap ((k : Int) + 1) = (k : Int) + 1 := IntWalk.i64_in _ (by have := H8.out; omega)
                have HE : Hid (R = rsk t x (8192 - (k + 1)) px) := by
                  have hp : ¬ lbd 0 (pl.map CV.e) x < j := by
                    have := place_no (es := pl.map CV.e) (x := x) (by rw [List.length_map, HLP.out]; exact HLO.out)
                    rwa [List.length_map, HLP.out] at this
                  have := HRR.out
                  rw [HPP.out, if_neg hp] at this
                  exact Lib.hid this
                go_wp2_with fail
                go_roundw
                case rel => exact ⟨k + 1, px, by have := H8.out; omega, rfl, HPX.out, by go_num, HB6.out, HX6.out, HE.out⟩
                case measure => simp [intOf]; have := H8.out; omega
        · have d2 : (pk != 2) = true := bne_iff_ne.2 hk2
          have HE : Hid (R = .error 5) := Lib.hid (HRK.out.trans (HRKK.out _ hk2))
          clear hk2
          go_wp2_with fail
          refine HPC.mono ?_
          rintro e w5 ⟨rfl, hb5⟩
          have HB5 := Lib.hid (HB2.out.trans (hb5.mono HB2.out.size))
          clear hb5
          go_wp2_with fail
          refine bodyPost_ret (v := .tuple #[.int .u32 0, .int .i64 0, .int .i64 5]) (by simp [results, Try.results12, go_sem]) rfl ?_
          rw [HE.out]
          exact ⟨rfl, HB5.out.alloc HB5.out.size _⟩
end Go.Proofs.Ytcajidlekfkjlaa
