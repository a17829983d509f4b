/-
  WHETHER A RECORD FITS: rise, areFresh, pageKind, fitsOp, fits.
-/
import Derived.Test.YtdhgbkibbileiaaGreatRC
import Derived.Test.YtdhgbkibbileiaaGreatPQ
namespace Go.Proofs.YtdhgbkibbileiaaGreat
open Go.RowKit

/-- numbers rise strictly, from above last on -/
def rising : Nat → List Nat → Bool
  | _, [] => true
  | last, x :: r => if x ≤ last then false else rising x r
theorem rising_step {l : List Nat} {q last x : Nat} (hx : l[q]? = some x) : rising last (l.drop q) = if x ≤ last then false else rising x (l.drop (q + 1)) := by
  have hq : q < l.length := by
    rcases Nat.lt_or_ge q l.length with h' | h'
    · exact h'
    · rw [List.getElem?_eq_none h'] at hx; cases hx
  have e : l[q] = x := by rw [List.getElem?_eq_getElem hq] at hx; injection hx
  rw [List.drop_eq_getElem_cons hq, e]
  rfl
theorem rising_end {l : List Nat} {q last : Nat} (h : l.length ≤ q) : rising last (l.drop q) = true := by
  rw [List.drop_of_length_le h]
  rfl
set_option maxRecDepth 100000 in
theorem numIV_any (w : World) (x : IV) : Calls Tryz.prog 62 #[x.agg] w fun e w' => e = .returned (.int .u32 (x.t : Int)) ∧ Below w.heap.size w w' := by
  obtain ⟨t, ⟨pk, ps, px, pA, pn, pc, pl⟩⟩ := x
  simp only [IV.agg]
  go_enter Tryz.func62, Tryz.ntmps62
  go_wp2
  go_ret
  exact ⟨rfl, (Below.refl _ _).alloc (Nat.le_refl _) _⟩
set_option maxRecDepth 100000 in
theorem numLV_any (w : World) (x : LV) : Calls Tryz.prog 65 #[x.agg] w fun e w' => e = .returned (.int .u32 (x.t : Int)) ∧ Below w.heap.size w w' := by
  obtain ⟨t, a, b, z⟩ := x
  simp only [LV.agg]
  go_enter Tryz.func65, Tryz.ntmps65
  go_wp2
  go_ret
  exact ⟨rfl, (Below.refl _ _).alloc (Nat.le_refl _) _⟩
set_option maxRecDepth 100000 in
theorem numDV_any (w : World) (x : DV) : Calls Tryz.prog 67 #[x.agg] w fun e w' => e = .returned (.int .u32 (x.t : Int)) ∧ Below w.heap.size w w' := by
  obtain ⟨t, a⟩ := x
  simp only [DV.agg]
  go_enter Tryz.func67, Tryz.ntmps67
  go_wp2
  go_ret
  exact ⟨rfl, (Below.refl _ _).alloc (Nat.le_refl _) _⟩

set_option maxHeartbeats 2000000 in
set_option maxRecDepth 100000 in
theorem riseIV_any (w : World) (T : Nat → Prop) (A : Option Addr) (n c : Nat) (l : List IV) (h : IVR w T A n l) (hn : n ≤ 20001) :
    Calls Tryz.prog 61 #[.slice A n c, .func (.func 62) #[] #[]] w fun e w' => e = .returned (.bool (rising 0 (l.map IV.t))) ∧ Below w.heap.size w w' := by
  have hlen : l.length = n := h.1
  have HL := Lib.hid hlen
  have HV := Lib.hid h
  obtain ⟨R, hR⟩ : ∃ R, R = rising 0 (l.map IV.t) := ⟨_, rfl⟩
  rw [← hR]
  have HR := Lib.hid hR
  have HN := Lib.hid (fun W' x => numIV_any W' x)
  clear h hlen hR
  go_enter Tryz.func61, Tryz.ntmps61
  go_wp2_with fail
  go_loopw [5, 10] (fun v i wr => ∃ q last : Nat, q ≤ n ∧ last < 4294967296 ∧ i = .int .i64 (q : Int) ∧ v = .int .u32 (last : Int) ∧ rising last ((l.map IV.t).drop q) = R ∧ Below w.heap.size w wr) (fun _ i _ => n - (intOf i).toNat)
  case atStart => exact ⟨0, 0, by omega, by omega, rfl, rfl, HR.out.symm, Below.refl _ _⟩
  case round =>
    obtain ⟨q, last, hq, hla, rfl, rfl, hri, hb⟩ := hrel
    have HB := Lib.hid hb
    have HRI := Lib.hid hri
    by_cases hlt : q < n
    · obtain ⟨gx, o, x, hA, hgx, _, hx, hxi, b0, b1, b2, b3, b4⟩ := (HV.out.keep (Fr.of_below hb No) fun _ _ hn => hn).at_ hlt
      have HST := Lib.hid (rising_step (l := l.map IV.t) (q := q) (last := last) (x := x.t) (by rw [List.getElem?_map, hx]; rfl))
      have hxt := hxi.t
      have HNX := Lib.hid (fun W' => numIV_any W' x)
      subst hA
      obtain ⟨t, ⟨pk, ps, px, pA, pn, pc, pl⟩⟩ := x
      simp only at b0 b1 b2 b3 b4 hxt HST
      simp only [IV.agg] at HNX
      have hWi : IntKind.i64.wrap ((q : Int) + 1) = ((q + 1 : Nat) : Int) := by rw [IntWalk.i64_in _ (by omega)]; omega
      have hin : ((q : Int) < (n : Int)) := by omega
      have hwq : IntKind.i64.wrap (q : Int) = (q : Int) := IntWalk.i64_in _ (by omega)
      obtain ⟨wa, hwa⟩ : ∃ wa, wr.alloc (.cells #[.int .u32 (t : Int), .int .i64 pk, .int .u64 (ps : Int), .int .u32 (px : Int), .slice pA pn pc] 53) = wa := ⟨_, rfl⟩
      have hbk : Blk wa wr.heap.size 53 #[.int .u32 (t : Int), .int .i64 pk, .int .u64 (ps : Int), .int .u32 (px : Int), .slice pA pn pc] := by rw [← hwa]; exact Blk.new wr 53 _
      have HBK := Lib.hid hbk
      have HBA : Hid (Below w.heap.size w wa) := Lib.hid (by rw [← hwa]; exact hb.alloc hb.size _)
      have y0 := hbk.cell 0
      have y1 := hbk.cell 1
      have y2 := hbk.cell 2
      have y3 := hbk.cell 3
      have y4 := hbk.cell 4
      simp only [List.getElem?_toArray, List.getElem?_cons_zero, List.getElem?_cons_succ] at y0 y1 y2 y3 y4
      clear hb hri hgx hx hxi hbk
      go_wp2_with fail
      with_reducible refine (HNX.out _).mono ?_
      rintro e w2 ⟨rfl, hb2⟩
      have HB2 := Lib.hid (HBA.out.trans (hb2.mono HBA.out.size))
      have HBK2 := Lib.hid (HBK.out.below hb2 HBK.out.lt)
      have y0 := HBK2.out.cell 0
      have y1 := HBK2.out.cell 1
      have y2 := HBK2.out.cell 2
      have y3 := HBK2.out.cell 3
      have y4 := HBK2.out.cell 4
      simp only [List.getElem?_toArray, List.getElem?_cons_zero, List.getElem?_cons_succ] at y0 y1 y2 y3 y4
      clear hb2
      by_cases hle : t ≤ last
      · have d1 : decide ((t : Int) ≤ (last : Int)) = true := decide_eq_true (by omega)
        have d2 : decide (t ≤ last) = true := decide_eq_true hle
        have HRF : Hid (R = false) := Lib.hid (by rw [← HRI.out, HST.out, if_pos hle])
        clear hle
        go_wp2_with fail
        go_ret
        exact ⟨by rw [HRF.out]; rfl, HB2.out⟩
      · have d1 : decide ((t : Int) ≤ (last : Int)) = false := decide_eq_false (by omega)
        have d2 : decide (t ≤ last) = false := decide_eq_false hle
        have HRF : Hid (rising t ((l.map IV.t).drop (q + 1)) = R) := Lib.hid (by rw [← HRI.out, HST.out, if_neg hle])
        clear hle
        go_wp2_with fail
        with_reducible refine (HNX.out _).mono ?_
        rintro e w3 ⟨rfl, hb3⟩
        have HB3 := Lib.hid (HB2.out.trans (hb3.mono HB2.out.size))
        clear hb3
        go_wp2_with fail
        go_roundw
        case rel => exact ⟨q + 1, t, by omega, hxt, by go_num, rfl, HRF.out, HB3.out⟩
        case measure => simp [intOf]; omega
    · have h1d : decide ((q : Int) < (n : Int)) = false := decide_eq_false (by omega)
      have h1d2 : decide (q < n) = false := decide_eq_false hlt
      have HRF : Hid (R = true) := Lib.hid (by rw [← HRI.out]; exact rising_end (by rw [List.length_map, HL.out]; omega))
      clear hb hri
      go_wp2_with fail
      go_ret
      exact ⟨by rw [HRF.out]; rfl, HB.out⟩

set_option maxHeartbeats 2000000 in
set_option maxRecDepth 100000 in
theorem riseLV_any (w : World) (T : Nat → Prop) (A : Option Addr) (n c : Nat) (l : List LV) (h : LVR w T A n l) (hn : n ≤ 20001) :
    Calls Tryz.prog 64 #[.slice A n c, .func (.func 65) #[] #[]] w fun e w' => e = .returned (.bool (rising 0 (l.map LV.t))) ∧ Below w.heap.size w w' := by
  have hlen : l.length = n := h.1
  have HL := Lib.hid hlen
  have HV := Lib.hid h
  obtain ⟨R, hR⟩ : ∃ R, R = rising 0 (l.map LV.t) := ⟨_, rfl⟩
  rw [← hR]
  have HR := Lib.hid hR
  have HN := Lib.hid (fun W' x => numLV_any W' x)
  clear h hlen hR
  go_enter Tryz.func64, Tryz.ntmps64
  go_wp2_with fail
  go_loopw [5, 10] (fun v i wr => ∃ q last : Nat, q ≤ n ∧ last < 4294967296 ∧ i = .int .i64 (q : Int) ∧ v = .int .u32 (last : Int) ∧ rising last ((l.map LV.t).drop q) = R ∧ Below w.heap.size w wr) (fun _ i _ => n - (intOf i).toNat)
  case atStart => exact ⟨0, 0, by omega, by omega, rfl, rfl, HR.out.symm, Below.refl _ _⟩
  case round =>
    obtain ⟨q, last, hq, hla, rfl, rfl, hri, hb⟩ := hrel
    have HB := Lib.hid hb
    have HRI := Lib.hid hri
    by_cases hlt : q < n
    · obtain ⟨gx, o, x, hA, hgx, _, hx, hxi, b0, b1, b2, b3⟩ := (HV.out.keep (Fr.of_below hb No) fun _ _ hn => hn).at_ hlt
      have HST := Lib.hid (rising_step (l := l.map LV.t) (q := q) (last := last) (x := x.t) (by rw [List.getElem?_map, hx]; rfl))
      have hxt := hxi.t
      have HNX := Lib.hid (fun W' => numLV_any W' x)
      subst hA
      obtain ⟨t, a, b, z⟩ := x
      simp only at b0 b1 b2 b3 hxt HST
      simp only [LV.agg] at HNX
      have hWi : IntKind.i64.wrap ((q : Int) + 1) = ((q + 1 : Nat) : Int) := by rw [IntWalk.i64_in _ (by omega)]; omega
      have hin : ((q : Int) < (n : Int)) := by omega
      have hwq : IntKind.i64.wrap (q : Int) = (q : Int) := IntWalk.i64_in _ (by omega)
      obtain ⟨wa, hwa⟩ : ∃ wa, wr.alloc (.cells #[.int .u32 (t : Int), .int .u64 (a : Int), .int .u64 (b : Int), .bool z] 62) = wa := ⟨_, rfl⟩
      have hbk : Blk wa wr.heap.size 62 #[.int .u32 (t : Int), .int .u64 (a : Int), .int .u64 (b : Int), .bool z] := by rw [← hwa]; exact Blk.new wr 62 _
      have HBK := Lib.hid hbk
      have HBA : Hid (Below w.heap.size w wa) := Lib.hid (by rw [← hwa]; exact hb.alloc hb.size _)
      have y0 := hbk.cell 0
      have y1 := hbk.cell 1
      have y2 := hbk.cell 2
      have y3 := hbk.cell 3
      simp only [List.getElem?_toArray, List.getElem?_cons_zero, List.getElem?_cons_succ] at y0 y1 y2 y3
      clear hb hri hgx hx hxi hbk
      go_wp2_with fail
      with_reducible refine (HNX.out _).mono ?_
      rintro e w2 ⟨rfl, hb2⟩
      have HB2 := Lib.hid (HBA.out.trans (hb2.mono HBA.out.size))
      have HBK2 := Lib.hid (HBK.out.below hb2 HBK.out.lt)
      have y0 := HBK2.out.cell 0
      have y1 := HBK2.out.cell 1
      have y2 := HBK2.out.cell 2
      have y3 := HBK2.out.cell 3
      simp only [List.getElem?_toArray, List.getElem?_cons_zero, List.getElem?_cons_succ] at y0 y1 y2 y3
      clear hb2
      by_cases hle : t ≤ last
      · have d1 : decide ((t : Int) ≤ (last : Int)) = true := decide_eq_true (by omega)
        have d2 : decide (t ≤ last) = true := decide_eq_true hle
        have HRF : Hid (R = false) := Lib.hid (by rw [← HRI.out, HST.out, if_pos hle])
        clear hle
        go_wp2_with fail
        go_ret
        exact ⟨by rw [HRF.out]; rfl, HB2.out⟩
      · have d1 : decide ((t : Int) ≤ (last : Int)) = false := decide_eq_false (by omega)
        have d2 : decide (t ≤ last) = false := decide_eq_false hle
        have HRF : Hid (rising t ((l.map LV.t).drop (q + 1)) = R) := Lib.hid (by rw [← HRI.out, HST.out, if_neg hle])
        clear hle
        go_wp2_with fail
        with_reducible refine (HNX.out _).mono ?_
        rintro e w3 ⟨rfl, hb3⟩
        have HB3 := Lib.hid (HB2.out.trans (hb3.mono HB2.out.size))
        clear hb3
        go_wp2_with fail
        go_roundw
        case rel => exact ⟨q + 1, t, by omega, hxt, by go_num, rfl, HRF.out, HB3.out⟩
        case measure => simp [intOf]; omega
    · have h1d : decide ((q : Int) < (n : Int)) = false := decide_eq_false (by omega)
      have h1d2 : decide (q < n) = false := decide_eq_false hlt
      have HRF : Hid (R = true) := Lib.hid (by rw [← HRI.out]; exact rising_end (by rw [List.length_map, HL.out]; omega))
      clear hb hri
      go_wp2_with fail
      go_ret
      exact ⟨by rw [HRF.out]; rfl, HB.out⟩

set_option maxHeartbeats 2000000 in
set_option maxRecDepth 100000 in
theorem riseDV_any (w : World) (T : Nat → Prop) (A : Option Addr) (n c : Nat) (l : List DV) (h : DVR w T A n l) (hn : n ≤ 20001) :
    Calls Tryz.prog 66 #[.slice A n c, .func (.func 67) #[] #[]] w fun e w' => e = .returned (.bool (rising 0 (l.map DV.t))) ∧ Below w.heap.size w w' := by
  have hlen : l.length = n := h.1
  have HL := Lib.hid hlen
  have HV := Lib.hid h
  obtain ⟨R, hR⟩ : ∃ R, R = rising 0 (l.map DV.t) := ⟨_, rfl⟩
  rw [← hR]
  have HR := Lib.hid hR
  have HN := Lib.hid (fun W' x => numDV_any W' x)
  clear h hlen hR
  go_enter Tryz.func66, Tryz.ntmps66
  go_wp2_with fail
  go_loopw [5, 10] (fun v i wr => ∃ q last : Nat, q ≤ n ∧ last < 4294967296 ∧ i = .int .i64 (q : Int) ∧ v = .int .u32 (last : Int) ∧ rising last ((l.map DV.t).drop q) = R ∧ Below w.heap.size w wr) (fun _ i _ => n - (intOf i).toNat)
  case atStart => exact ⟨0, 0, by omega, by omega, rfl, rfl, HR.out.symm, Below.refl _ _⟩
  case round =>
    obtain ⟨q, last, hq, hla, rfl, rfl, hri, hb⟩ := hrel
    have HB := Lib.hid hb
    have HRI := Lib.hid hri
    by_cases hlt : q < n
    · obtain ⟨gx, o, x, hA, hgx, _, hx, hxi, b0, b1⟩ := (HV.out.keep (Fr.of_below hb No) fun _ _ hn => hn).at_ hlt
      have HST := Lib.hid (rising_step (l := l.map DV.t) (q := q) (last := last) (x := x.t) (by rw [List.getElem?_map, hx]; rfl))
      have hxt := hxi.t
      have HNX := Lib.hid (fun W' => numDV_any W' x)
      subst hA
      obtain ⟨t, a⟩ := x
      simp only at b0 b1 hxt HST
      simp only [DV.agg] at HNX
      have hWi : IntKind.i64.wrap ((q : Int) + 1) = ((q + 1 : Nat) : Int) := by rw [IntWalk.i64_in _ (by omega)]; omega
      have hin : ((q : Int) < (n : Int)) := by omega
      have hwq : IntKind.i64.wrap (q : Int) = (q : Int) := IntWalk.i64_in _ (by omega)
      obtain ⟨wa, hwa⟩ : ∃ wa, wr.alloc (.cells #[.int .u32 (t : Int), .int .u64 (a : Int)] 64) = wa := ⟨_, rfl⟩
      have hbk : Blk wa wr.heap.size 64 #[.int .u32 (t : Int), .int .u64 (a : Int)] := by rw [← hwa]; exact Blk.new wr 64 _
      have HBK := Lib.hid hbk
      have HBA : Hid (Below w.heap.size w wa) := Lib.hid (by rw [← hwa]; exact hb.alloc hb.size _)
      have y0 := hbk.cell 0
      have y1 := hbk.cell 1
      simp only [List.getElem?_toArray, List.getElem?_cons_zero, List.getElem?_cons_succ] at y0 y1
      clear hb hri hgx hx hxi hbk
      go_wp2_with fail
      with_reducible refine (HNX.out _).mono ?_
      rintro e w2 ⟨rfl, hb2⟩
      have HB2 := Lib.hid (HBA.out.trans (hb2.mono HBA.out.size))
      have HBK2 := Lib.hid (HBK.out.below hb2 HBK.out.lt)
      have y0 := HBK2.out.cell 0
      have y1 := HBK2.out.cell 1
      simp only [List.getElem?_toArray, List.getElem?_cons_zero, List.getElem?_cons_succ] at y0 y1
      clear hb2
      by_cases hle : t ≤ last
      · have d1 : decide ((t : Int) ≤ (last : Int)) = true := decide_eq_true (by omega)
        have d2 : decide (t ≤ last) = true := decide_eq_true hle
        have HRF : Hid (R = false) := Lib.hid (by rw [← HRI.out, HST.out, if_pos hle])
        clear hle
        go_wp2_with fail
        go_ret
        exact ⟨by rw [HRF.out]; rfl, HB2.out⟩
      · have d1 : decide ((t : Int) ≤ (last : Int)) = false := decide_eq_false (by omega)
        have d2 : decide (t ≤ last) = false := decide_eq_false hle
        have HRF : Hid (rising t ((l.map DV.t).drop (q + 1)) = R) := Lib.hid (by rw [← HRI.out, HST.out, if_neg hle])
        clear hle
        go_wp2_with fail
        with_reducible refine (HNX.out _).mono ?_
        rintro e w3 ⟨rfl, hb3⟩
        have HB3 := Lib.hid (HB2.out.trans (hb3.mono HB2.out.size))
        clear hb3
        go_wp2_with fail
        go_roundw
        case rel => exact ⟨q + 1, t, by omega, hxt, by go_num, rfl, HRF.out, HB3.out⟩
        case measure => simp [intOf]; omega
    · have h1d : decide ((q : Int) < (n : Int)) = false := decide_eq_false (by omega)
      have h1d2 : decide (q < n) = false := decide_eq_false hlt
      have HRF : Hid (R = true) := Lib.hid (by rw [← HRI.out]; exact rising_end (by rw [List.length_map, HL.out]; omega))
      clear hb hri
      go_wp2_with fail
      go_ret
      exact ⟨by rw [HRF.out]; rfl, HB.out⟩

set_option maxRecDepth 100000 in
theorem pageKind_any (w : World) (x : Nat) : Calls Tryz.prog 102 #[.int .u32 (x : Int)] w fun e w' => e = .returned (.int .i64 (if x = 0 then 1 else 2)) ∧ w = w' := by
  by_cases h : x = 0
  · have e0 : ((x : Int) == 0) = true := by rw [beq_iff_eq]; omega
    rw [if_pos h]
    clear h
    go_enter Tryz.func102, Tryz.ntmps102
    go_wp2
    go_ret
    exact ⟨rfl, rfl⟩
  · have e0 : ((x : Int) == 0) = false := beq_false_of_ne (by omega)
    rw [if_neg h]
    clear h
    go_enter Tryz.func102, Tryz.ntmps102
    go_wp2
    go_ret
    exact ⟨rfl, rfl⟩
/-- each image's page may be, and is new -/
def freshB (l : List IV) : Bool := l.all fun x => decide (x.p.s = 0) && may x.p.k x.p.es
theorem fresh_step {l : List IV} {q : Nat} {x : IV} (hx : l[q]? = some x) : freshB (l.drop q) = ((decide (x.p.s = 0) && may x.p.k x.p.es) && freshB (l.drop (q + 1))) := by
  have hq : q < l.length := by
    rcases Nat.lt_or_ge q l.length with h' | h'
    · exact h'
    · rw [List.getElem?_eq_none h'] at hx; cases hx
  have e : l[q] = x := by rw [List.getElem?_eq_getElem hq] at hx; injection hx
  rw [List.drop_eq_getElem_cons hq, e]
  rfl
set_option maxHeartbeats 4000000 in
set_option maxRecDepth 100000 in
theorem areFresh_any (w : World) (A : Option Addr) (n c : Nat) (l : List IV) (h : IVR w All A n l) (hn : n ≤ 20001) (hs : ∀ x ∈ l, Few x.p) :
    Calls Tryz.prog 63 #[.slice A n c] w fun e w' => e = .returned (.bool (freshB l)) ∧ Below w.heap.size w w' := by
  have hlen : l.length = n := h.1
  have HL := Lib.hid hlen
  have HV := Lib.hid h
  have HS := Lib.hid hs
  obtain ⟨R, hR⟩ : ∃ R, R = freshB l := ⟨_, rfl⟩
  rw [← hR]
  have HR := Lib.hid hR
  clear h hlen hR hs
  go_enter Tryz.func63, Tryz.ntmps63
  go_wp2_with fail
  go_loopw [7] (fun i wr => ∃ q : Nat, q ≤ n ∧ i = .int .i64 (q : Int) ∧ freshB (l.drop q) = R ∧ Below w.heap.size w wr) (fun i _ => n - (intOf i).toNat)
  case atStart => exact ⟨0, by omega, rfl, HR.out.symm, Below.refl _ _⟩
  case round =>
    obtain ⟨q, hq, rfl, hri, hb⟩ := hrel
    have HB := Lib.hid hb
    have HRI := Lib.hid hri
    by_cases hlt : q < n
    · obtain ⟨gx, o, x, hA, hgx, _, hx, hxi, b0, b1, b2, b3, b4⟩ := (HV.out.keep (Fr.of_below hb No) fun _ _ hn => hn).at_ hlt
      have HST := Lib.hid (fresh_step hx)
      have HXP := Lib.hid hxi.p
      have HFW := Lib.hid (HS.out x (List.mem_of_getElem? hx))
      subst hA
      obtain ⟨t, ⟨pk, ps, px, pA, pn, pc, pl⟩⟩ := x
      simp only at b0 b1 b2 b3 b4 HXP HFW HST
      have hWi : IntKind.i64.wrap ((q : Int) + 1) = ((q + 1 : Nat) : Int) := by rw [IntWalk.i64_in _ (by omega)]; omega
      have hin : ((q : Int) < (n : Int)) := by omega
      have hwq : IntKind.i64.wrap (q : Int) = (q : Int) := IntWalk.i64_in _ (by omega)
      obtain ⟨wa, hwa⟩ : ∃ wa, wr.alloc (.cells #[.int .u32 (t : Int), .int .i64 pk, .int .u64 (ps : Int), .int .u32 (px : Int), .slice pA pn pc] 53) = wa := ⟨_, rfl⟩
      have hbk : Blk wa wr.heap.size 53 #[.int .u32 (t : Int), .int .i64 pk, .int .u64 (ps : Int), .int .u32 (px : Int), .slice pA pn pc] := by rw [← hwa]; exact Blk.new wr 53 _
      have hba : Below w.heap.size w wa := by rw [← hwa]; exact hb.alloc hb.size _
      have hbw : Below wr.heap.size wr wa := by rw [← hwa]; exact (Below.refl _ _).alloc (Nat.le_refl _) _
      have HBA := Lib.hid hba
      have hmy := may_any ⟨pk, ps, px, pA, pn, pc, pl⟩ wa (HXP.out.below hbw) HFW.out
      simp only [PV.agg] at hmy
      obtain ⟨mb, hmb⟩ : ∃ mb, mb = may pk (PV.es ⟨pk, ps, px, pA, pn, pc, pl⟩) := ⟨_, rfl⟩
      rw [← hmb] at hmy
      have HMY := Lib.hid hmy
      have HMB := Lib.hid hmb
      have y0 := hbk.cell 0
      have y1 := hbk.cell 1
      have y2 := hbk.cell 2
      have y3 := hbk.cell 3
      have y4 := hbk.cell 4
      simp only [List.getElem?_toArray, List.getElem?_cons_zero, List.getElem?_cons_succ] at y0 y1 y2 y3 y4
      clear hb hri hgx hx hxi hbk hba hbw hmy hmb
      by_cases h0 : ps = 0
      · have e0 : ((ps : Int) != 0) = false := bne_eq_false_iff_eq.2 (by omega)
        have H0 := Lib.hid h0
        clear h0
        go_wp2_with fail
        with_reducible refine HMY.out.mono ?_
        rintro e w2 ⟨rfl, hb2⟩
        have HB2 := Lib.hid (HBA.out.trans (hb2.mono HBA.out.size))
        clear hb2
        cases mb with
        | false =>
          have HRF : Hid (R = false) := Lib.hid (by rw [← HRI.out, HST.out, ← HMB.out]; simp)
          go_wp2_with fail
          go_ret
          exact ⟨by rw [HRF.out]; rfl, HB2.out⟩
        | true =>
          have HRF : Hid (freshB (l.drop (q + 1)) = R) := Lib.hid (by rw [← HRI.out, HST.out, ← HMB.out, H0.out]; simp)
          go_wp2_with fail
          go_roundw
          case rel => exact ⟨q + 1, by omega, by go_num, HRF.out, HB2.out⟩
          case measure => simp [intOf]; omega
      · have e0 : ((ps : Int) != 0) = true := bne_iff_ne.2 (by omega)
        have HRF : Hid (R = false) := Lib.hid (by rw [← HRI.out, HST.out, decide_eq_false h0]; simp)
        clear h0
        go_wp2_with fail
        go_ret
        exact ⟨by rw [HRF.out]; rfl, HBA.out⟩
    · have h1d : decide ((q : Int) < (n : Int)) = false := decide_eq_false (by omega)
      have h1d2 : decide (q < n) = false := decide_eq_false hlt
      have HRF : Hid (R = true) := Lib.hid (by rw [← HRI.out, List.drop_of_length_le (by rw [HL.out]; omega)]; rfl)
      clear hb hri
      go_wp2_with fail
      go_ret
      exact ⟨by rw [HRF.out]; rfl, HB.out⟩
end Go.Proofs.YtdhgbkibbileiaaGreat
