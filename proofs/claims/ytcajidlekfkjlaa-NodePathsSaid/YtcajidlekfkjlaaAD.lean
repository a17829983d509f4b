/-
STAGE 8: the document's way.
-/
import Derived.Test.YtcajidlekfkjlaaAA
namespace Go.Proofs.Ytcajidlekfkjlaa
open Go.RowKit

theorem bless_leq : ∀ a b : List UInt8, (Op.bytesLess a b || a == b) = !Op.bytesLess b a
  | [], [] => by simp [Op.bytesLess]
  | [], _ :: _ => by simp [Op.bytesLess]
  | _ :: _, [] => by simp [Op.bytesLess]
  | x :: a, y :: b => by
    have ih := bless_leq a b
    unfold Op.bytesLess
    by_cases hxy : x = y
    · subst hxy
      have h1 : decide (x < x) = false := decide_eq_false (by simp)
      rw [h1, beq_self_eq_true, Bool.false_or, Bool.true_and, Bool.false_or, Bool.true_and, ← ih]
      congr 1
      simp [List.cons_beq_cons]
    · have h1 : (x == y) = false := by simpa using hxy
      have h2 : (y == x) = false := by simpa using fun e : y = x => hxy e.symm
      have h3 : (x :: a == y :: b) = false := by simp [List.cons_beq_cons, h1]
      rw [h1, h2, h3, Bool.false_and, Bool.false_and, Bool.or_false, Bool.or_false, Bool.or_false]
      by_cases hlt : x < y
      · have : ¬ y < x := fun h => absurd (UInt8.lt_trans hlt h) (by simp)
        rw [decide_eq_true hlt, decide_eq_false this]; rfl
      · have : y < x := by
          rcases Nat.lt_trichotomy x.toNat y.toNat with h | h | h
          · exact absurd h hlt
          · exact absurd (UInt8.toNat_inj.1 h) hxy
          · exact h
        rw [decide_eq_false hlt, decide_eq_true this]; rfl
set_option maxRecDepth 100000 in
theorem run_leqs (a b : List Nat) : binOp .leq 9 (.string (strOf a)) (.string (strOf b)) = pure (.bool (!ltb b a)) := by
  show Op.stringOp .leq (strOf a) (strOf b) = _
  simp only [Op.stringOp, strOf_toList]
  rw [bless_leq]
  rfl
attribute [local go_sem high] run_leqs
/-- the way's numbers, in steps -/
def wayN (t : TV) (x : List Nat) (f n : Nat) : Except Int (List Nat) := (wayM (some t) x f n).map nos
theorem wayN_zero (t : TV) (x : List Nat) (n : Nat) : wayN t x 0 n = .error 5 := rfl
theorem wayN_err {t : TV} {x : List Nat} {f n : Nat} {c : Int} (h : askM (some t) n = .error c) : wayN t x (f + 1) n = .error c := by
  unfold wayN wayM; rw [h]; rfl
theorem wayN_leaf {t : TV} {x : List Nat} {f n : Nat} {p : PV} (h : askM (some t) n = .ok p) (hk : p.k = 2) : wayN t x (f + 1) n = .ok [n] := by
  unfold wayN wayM; rw [h]; simp only []; rw [if_pos hk]; rfl
theorem wayN_inner {t : TV} {x : List Nat} {f n : Nat} {p : PV} (h : askM (some t) n = .ok p) (hk : p.k ≠ 2) : wayN t x (f + 1) n = (wayN t x f (childM p x)).map (n :: ·) := by
  unfold wayN
  conv => lhs; unfold wayM
  rw [h]; simp only []; rw [if_neg hk]
  cases wayM (some t) x f (childM p x) with
  | error c => rfl
  | ok l => rfl
theorem mapN_app (d : List Nat) (x : Nat) (R : Except Int (List Nat)) : (R.map (x :: ·)).map (d ++ ·) = R.map ((d ++ [x]) ++ ·) := by
  cases R with
  | error c => rfl
  | ok l => simp [Except.map]
theorem ask_code {t : TV} {n : Nat} {c : Int} (h : askM (some t) n = .error c) : c ≠ 0 := by
  rcases ask_no_inv h with ⟨_, rfl⟩ | ⟨_, h', _⟩ | ⟨_, _, _, ⟨_, h0⟩ | ⟨_, _, rfl⟩⟩
  · decide
  · cases h'
  · exact h0
  · decide
set_option maxHeartbeats 4000000 in
set_option maxRecDepth 100000 in
theorem rway_any (t : TV) (n : Nat) (x : List Nat) (w : World) {S : Nat → Prop} (hn : n < 4294967296) (h : t.In w S) (hf : ∀ y ∈ t.l, Few y.p) :
    Calls Try.prog 28 #[t.agg, .int .u32 (n : Int), .string (strOf x)] w (PathP w (wayN t x 8 n)) := by
  obtain ⟨R, hR⟩ : ∃ R, R = wayN t x 8 n := ⟨_, rfl⟩
  rw [← hR]
  have HPG := Lib.hid (fun (W : World) (hW : Below w.heap.size w W) (q : Nat) => rpage_any t q W (h.below hW) hf)
  have HG := Lib.hid (show GIn w S (some t) from fun t' e => by cases e; exact ⟨h, hf⟩)
  have HR := Lib.hid hR
  unfold TV.agg at HPG ⊢
  clear h hf hR
  go_enter Try.func28, Try.ntmps28
  go_wp2_with fail
  go_loopw [8, 9] (fun v q wr => ∃ (d : List Nat) (nd k : Nat), nd = d.length ∧ nd ≤ 7 ∧ q = .int .u32 (k : Int) ∧ k < 4294967296 ∧ OwN wr (fun b => w.heap.size + 1 ≤ b) v nd d ∧ Below w.heap.size w wr ∧ Blk wr w.heap.size 26 #[.slice t.A t.n t.c, .int .u32 (t.bad : Int), .int .i64 t.err] ∧ R = (wayN t x (8 - nd) k).map (d ++ ·)) (fun v _ _ => 8 - lenV v)
  case atStart => exact ⟨[], 0, n, rfl, by omega, rfl, hn, OwN.nil_ _ _, (Below.refl _ _).alloc (Nat.le_refl _) _, Blk.new w 26 _, by rw [HR.out]; show _ = (wayN t x 8 n).map _; cases wayN t x 8 n <;> rfl⟩
  case round =>
    obtain ⟨d, nd, k, hnd, hd7, rfl, hk, how, hb, hbx, hRk⟩ := hrel
    obtain ⟨vA, vc, rfl, hvc, hvz, hvr⟩ := how.reads
    obtain ⟨C3, hC3⟩ : ∃ C, C = Obj.cells #[.int .u32 (k : Int)] 23 := ⟨_, rfl⟩
    have hb3 : Below wr.heap.size wr (wr.alloc C3) := (Below.refl _ wr).alloc (Nat.le_refl _) C3
    have hbw : Below w.heap.size w (wr.alloc C3) := hb.trans (hb3.mono hb.size)
    have how3 := how.keep (Fr.of_below hb3 No) (fun _ _ hn => hn)
    have one3 : NR (wr.alloc C3) All (some ⟨wr.heap.size, 0, none⟩) 1 [k] := by rw [hC3]; exact one_rbN wr k hk All trivial
    have hbx3 := hbx.alloc C3
    rw [hC3] at how3 one3 hbw hbx3
    have HOW3 := Lib.hid how3
    have HONE := Lib.hid one3
    have HBW := Lib.hid hbw
    have HBX := Lib.hid hbx3
    have HNB : Hid (nd + 1 ≤ 35184372087808) := Lib.hid (by omega)
    have HRK := Lib.hid hRk
    have HND := Lib.hid hnd
    have HD7 := Lib.hid hd7
    have HSZ := Lib.hid (show w.heap.size + 1 ≤ wr.heap.size from hbx.lt)
    have HK := Lib.hid hk
    clear how3 one3 hbw hb3 hC3 hbx3 how hb hbx hRk hnd hd7 hk hvr
    go_upto_region 4 with (at_builtin; go_must (refine wpList_appN rfl (.tmp 14) (.tmp 16) rfl _ nd d rfl HOW3.out All _ 1 1 _ rfl HONE.out HNB.out ?_); intro v' w4 hown hgrow; have HO4 := Lib.hid (hown.mono (T := fun b => w.heap.size + 1 ≤ b) (fun b _ hb => hb.elim id fun hb => by have := HSZ.out; simp at hb; omega)); have HB4 := Lib.hid (HBW.out.grown hgrow HBW.out.size fun q hq => Nat.le_of_succ_le (HOW3.out.2.2 q hq)); have HX4 := Lib.hid (HBX.out.grown hgrow fun e => absurd (HOW3.out.2.2 _ e.symm) (by omega)); clear hown hgrow)
    obtain ⟨vA', vc', rfl, hvc', hvz', _⟩ := HO4.out.reads
    have x0 := HX4.out.cell 0
    have x1 := HX4.out.cell 1
    have x2 := HX4.out.cell 2
    simp only [List.getElem?_toArray, List.getElem?_cons_zero, List.getElem?_cons_succ] at x0 x1 x2
    have HPC := HPG.out w4 HB4.out k
    cases hA : askM (some t) k with
    | error c =>
      obtain ⟨e1, e2⟩ := pg_no hA
      rw [e1, e2] at HPC
      have dc : (c != 0) = true := bne_iff_ne.2 (ask_code hA)
      have HE : Hid (R = .error c) := by
        obtain ⟨f, hf⟩ : ∃ f, 8 - nd = f + 1 := ⟨7 - nd, by have := HD7.out; omega⟩
        have := HRK.out
        rw [hf, wayN_err hA] at this
        exact Lib.hid this
      simp only [PV.zero, PV.agg] at HPC
      clear hA e1 e2
      go_wp2_with fail
      refine HPC.mono ?_
      rintro e w5 ⟨rfl, hb5⟩
      have HB5 := Lib.hid (HB4.out.trans (hb5.mono HB4.out.size))
      clear hb5
      go_wp2_with fail
      go_ret2
      rw [HE.out]
      exact ⟨_, rfl, OwN.nil_ _ _, HB5.out.alloc HB5.out.size _⟩
    | ok p =>
      obtain ⟨e1, e2⟩ := pg_ok hA
      rw [e1, e2] at HPC
      have hpi := (ask_in HG.out hA).1
      obtain ⟨_, _, _, _, hok⟩ := ask_ok_inv hA
      have hpn := okP_n hpi hok
      have hok3 := okP_rise hok
      have hle := okP_le hpi hok
      have hcm := childM_lt hpi x
      have hkd := fun h => childM_kid hok h x
      have hwl := fun f (h : p.k = 2) => wayN_leaf (x := x) (f := f) hA h
      have hwi := fun f (h : p.k ≠ 2) => wayN_inner (x := x) (f := f) hA h
      have hlp := hpi.r.1
      obtain ⟨pk, ps, px, pA, pn, pc, pl⟩ := p
      dsimp only at hpn hle hlp hok3 hkd hwl hwi
      unfold PV.agg at HPC
      have HPI := Lib.hid hpi
      have HLE := Lib.hid hle
      have HKD := Lib.hid hkd
      have HWL := Lib.hid hwl
      have HWI := Lib.hid hwi
      have HCM := Lib.hid hcm
      have HK3 : Hid (pk = 2 ∨ pk = 3) := Lib.hid hok3.2.2.1
      have HPN := Lib.hid hpn
      have HLP := Lib.hid hlp
      clear hA e1 e2 hpi hok hpn hok3 hle hcm hkd hwl hwi hlp
      by_cases hk2 : pk = 2
      · have d2 : (pk == 2) = true := by rw [hk2]; rfl
        have HE : Hid (R = .ok (d ++ [k])) := by
          obtain ⟨f, hf⟩ : ∃ f, 8 - nd = f + 1 := ⟨7 - nd, by have := HD7.out; omega⟩
          have := HRK.out
          rw [hf, HWL.out f hk2] at this
          exact Lib.hid this
        clear hk2
        go_wp2_with fail
        refine HPC.mono ?_
        rintro e w5 ⟨rfl, hb5⟩
        have HB5 := Lib.hid (HB4.out.trans (hb5.mono HB4.out.size))
        have HO5 := Lib.hid (HO4.out.keep (Fr.of_below hb5 No) (fun _ _ hn => hn))
        clear hb5
        go_wp2_with fail
        go_ret2
        rw [HE.out]
        refine ⟨_, rfl, ?_, HB5.out.alloc HB5.out.size _⟩
        have hl : (d ++ [k]).length = nd + 1 := by rw [List.length_append, ← HND.out]; rfl
        show OwN _ _ _ (d ++ [k]).length (d ++ [k])
        rw [hl]
        exact (HO5.out.alloc _).mono fun b _ hb => by omega
      · have d2 : (pk == 2) = false := beq_false_of_ne hk2
        have HK2 := Lib.hid hk2
        clear hk2
        by_cases h7 : nd = 7
        · have d3 : decide ((nd : Int) + 1 ≥ 8) = true := decide_eq_true (by omega)
          have d4 : decide (8 ≤ (nd : Int) + 1) = true := decide_eq_true (by omega)
          have HE : Hid (R = .error 5) := by
            have := HRK.out
            rw [h7, show 8 - 7 = 0 + 1 from rfl, HWI.out 0 HK2.out, wayN_zero] at this
            exact Lib.hid this
          clear h7
          go_wp2_with fail
          refine HPC.mono ?_
          rintro e w5 ⟨rfl, hb5⟩
          have HB5 := Lib.hid (HB4.out.trans (hb5.mono HB4.out.size))
          clear hb5
          go_wp2_with fail
          go_ret2
          rw [HE.out]
          exact ⟨_, rfl, OwN.nil_ _ _, HB5.out.alloc HB5.out.size _⟩
        · have d3 : decide ((nd : Int) + 1 ≥ 8) = false := decide_eq_false (by have := HD7.out; omega)
          have d4 : decide (8 ≤ (nd : Int) + 1) = false := decide_eq_false (by have := HD7.out; omega)
          have H7 : Hid (nd < 7) := Lib.hid (by have := HD7.out; omega)
          clear h7
          go_upto_region 11 with fail
          refine HPC.mono ?_
          rintro e w5 ⟨rfl, hb5⟩
          have HB5 := Lib.hid (HB4.out.trans (hb5.mono HB4.out.size))
          have HO5 := Lib.hid (HO4.out.keep (Fr.of_below hb5 No) (fun _ _ hn => hn))
          have HX5 := Lib.hid (HX4.out.below hb5 HX4.out.lt)
          clear hb5 x0 x1 x2
          go_upto_region 11 with fail
          obtain ⟨w6, hw6⟩ : ∃ W, W = w5.alloc (.cells #[.int .i64 pk, .int .u64 (ps : Int), .int .u32 (px : Int), .slice pA pn pc] 51) := ⟨_, rfl⟩
          have hb6 : Below w5.heap.size w5 w6 := by rw [hw6]; exact (Below.refl _ _).alloc (Nat.le_refl _) _
          have bp6 : Blk w6 w5.heap.size 51 #[.int .i64 pk, .int .u64 (ps : Int), .int .u32 (px : Int), .slice pA pn pc] := by rw [hw6]; exact Blk.new w5 51 _
          rw [← hw6]
          have HB6 := Lib.hid (HB5.out.trans (hb6.mono HB5.out.size))
          have HO6 := Lib.hid (HO5.out.keep (Fr.of_below hb6 No) (fun _ _ hn => hn))
          have HX6 := Lib.hid (HX5.out.below hb6 HX5.out.lt)
          have HP6 := Lib.hid bp6
          have p0 := bp6.cell 0
          have p1 := bp6.cell 1
          have p2 := bp6.cell 2
          have p3 := bp6.cell 3
          simp only [List.getElem?_toArray, List.getElem?_cons_zero, List.getElem?_cons_succ] at p0 p1 p2 p3
          clear hw6 hb6 bp6
          go_wp2_with fail
          clear p0 p1 p2 p3
          go_loopw [9, 12] (fun q i wq => ∃ j : Nat, j ≤ pn ∧ i = .int .i64 (j : Int) ∧ q = .int .u32 (kidN x px ((pl.map CV.e).take j) : Int) ∧ Below w6.heap.size w6 wq) (fun _ i _ => pn - (intOf i).toNat)
          case atStart => exact ⟨0, by omega, rfl, by simp [kidN], Below.refl _ _⟩
          case round =>
            obtain ⟨j, hj, rfl, rfl, hbq⟩ := hrel
            have bpq := HP6.out.below hbq HP6.out.lt
            have p0 := bpq.cell 0
            have p1 := bpq.cell 1
            have p2 := bpq.cell 2
            have p3 := bpq.cell 3
            simp only [List.getElem?_toArray, List.getElem?_cons_zero, List.getElem?_cons_succ] at p0 p1 p2 p3
            have hbwq := HB6.out.trans (hbq.mono HB6.out.size)
            have HBQ := Lib.hid hbq
            have HBWQ := Lib.hid hbwq
            clear bpq hbq
            by_cases hlt : j < pn
            · have hpq := HPI.out.keep (Fr.of_below hbwq No) (fun _ _ hn => hn) (fun _ _ hn => hn)
              obtain ⟨g, o, cx, hA, hg, _, hcx, hci, b0, b1, b2⟩ := hpq.r.at_ hlt
              dsimp only at hA hcx b0 b1 b2
              subst hA
              have hme : cx ∈ pl := List.mem_of_getElem? hcx
              have h4 : 4 ≤ cx.m := by
                have := HLE.out cx hme
                have h3 : pk = 3 := HK3.out.resolve_left HK2.out
                rw [h3] at this
                exact this
              have hke := rkey_any cx wr hci h4
              have hco := rchild_any cx
              have hws : IntKind.i64.wrap ((j : Int) + 1) = ((j + 1 : Nat) : Int) := by rw [IntWalk.i64_in _ (by have := HPN.out; omega)]; omega
              have hws' : IntKind.i64.wrap ((j : Int) + 1) = (j : Int) + 1 := IntWalk.i64_in _ (by have := HPN.out; omega)
              have d5 : decide ((j : Int) < (pn : Int)) = true := decide_eq_true (by omega)
              have hst : (pl.map CV.e).take (j + 1) = (pl.map CV.e).take j ++ [cx.e] := by
                have hl : j < pl.length := by have := HLP.out; omega
                have e : pl[j] = cx := by rw [List.getElem?_eq_getElem hl] at hcx; injection hcx
                rw [List.take_succ_eq_append_getElem (by simpa using hl)]
                simp [e]
              have hkn : kidN x px ((pl.map CV.e).take (j + 1)) = if ltb x (ent 4 cx.d) then kidN x px ((pl.map CV.e).take j) else childN cx.d := by rw [hst, kidN_snoc]; rfl
              have hcl : childN cx.d < 4294967296 := childN_lt _ hci.b.lt
              obtain ⟨qn, hqn⟩ : ∃ qn, qn = kidN x px ((pl.map CV.e).take j) := ⟨_, rfl⟩
              rw [← hqn] at hkn ⊢
              have HCI := Lib.hid (fun (W : World) (hW : Below wr.heap.size wr W) => rchild_any cx W (hci.keep (Fr.of_below hW No) fun _ _ hn => hn) h4)
              have HKE := Lib.hid hke
              have HKN := Lib.hid hkn
              unfold CV.agg at HCI HKE
              clear hpq hcx hci hme h4 hco hst hkn hqn hke hbwq
              cases hlx : ltb x (ent 4 cx.d) with
              | true =>
                rw [hlx, if_pos rfl] at HKN
                go_wp2_with fail
                refine HKE.out.mono ?_
                rintro e w7 ⟨rfl, hb7⟩
                have HB7 := Lib.hid (HBQ.out.trans (hb7.mono HBQ.out.size))
                clear hb7
                go_wp2_with fail
                go_roundw
                case rel => exact ⟨j + 1, by omega, by go_num, by rw [HKN.out], HB7.out⟩
                case measure => simp [intOf]; omega
              | false =>
                rw [hlx, if_neg (by decide)] at HKN
                have hbp := (HP6.out.below HBQ.out HP6.out.lt).lt
                go_wp2_with fail
                refine HKE.out.mono ?_
                rintro e w7 ⟨rfl, hb7⟩
                have HB7 := Lib.hid hb7
                have q0 := (hb7.cell (p := ⟨w5.heap.size, 3, none⟩) hbp).trans p3
                have e0 := (hb7.cell (p := ⟨g, o + j * 3, none⟩) hg).trans b0
                have e1 := (hb7.cell (p := ⟨g, o + j * 3 + 1, none⟩) hg).trans b1
                have e2 := (hb7.cell (p := ⟨g, o + j * 3 + 2, none⟩) hg).trans b2
                clear hb7 p0 p1 p2 p3 b0 b1 b2
                go_wp2_with fail
                refine (HCI.out w7 HB7.out).mono ?_
                rintro e w8 ⟨rfl, hb8⟩
                have HB8 := Lib.hid (HBQ.out.trans ((HB7.out.trans (hb8.mono HB7.out.size)).mono HBQ.out.size))
                clear hb8
                go_wp2_with fail
                go_roundw
                case rel => exact ⟨j + 1, by omega, by go_num, by rw [HKN.out], HB8.out⟩
                case measure => simp [intOf]; omega
            · obtain rfl : j = pn := by omega
              rw [List.take_of_length_le (by rw [List.length_map, HLP.out]; exact Nat.le_refl _)]
              have hkd : childM ⟨pk, ps, px, pA, j, pc, pl⟩ x = kidN x px (pl.map CV.e) := HKD.out HK2.out
              rw [← hkd]
              have HO7 := Lib.hid (HO6.out.keep (Fr.of_below HBQ.out No) (fun _ _ hn => hn))
              have HX7 := Lib.hid (HX6.out.below HBQ.out HX6.out.lt)
              have HR7 : Hid (R = (wayN t x (8 - (nd + 1)) (childM ⟨pk, ps, px, pA, j, pc, pl⟩ x)).map ((d ++ [k]) ++ ·)) := by
                have := HRK.out
                rw [show 8 - nd = (8 - (nd + 1)) + 1 by have := H7.out; omega, HWI.out _ HK2.out, mapN_app] at this
                exact Lib.hid this
              have hcm := HCM.out
              obtain ⟨cm, hcmm⟩ : ∃ cm, cm = childM ⟨pk, ps, px, pA, j, pc, pl⟩ x := ⟨_, rfl⟩
              rw [← hcmm] at HR7 hcm ⊢
              have HCM2 := Lib.hid hcm
              clear hkd hcm hcmm hbwq
              go_wp2_with fail
              go_roundw
              case rel => exact ⟨d ++ [k], nd + 1, cm, by rw [List.length_append, ← HND.out]; rfl, by have := H7.out; omega, rfl, HCM2.out, HO7.out, HBWQ.out, HX7.out, HR7.out⟩
              case measure => simp [lenV]; have := H7.out; omega
end Go.Proofs.Ytcajidlekfkjlaa
