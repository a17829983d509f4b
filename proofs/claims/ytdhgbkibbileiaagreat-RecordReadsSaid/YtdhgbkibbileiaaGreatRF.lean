/-
RF RG RH
-/
import Derived.Test.YtdhgbkibbileiaaGreatRC
import Derived.Test.YtdhgbkibbileiaaGreatPQ
set_option maxRecDepth 100000
namespace Go.Proofs.YtdhgbkibbileiaaGreat
open Go.RowKit
def rising : Nat → List Nat → Bool
 | _, [] => true
 | last, x :: r => if x ≤ last then false else rising x r
theorem rising_step {l : List Nat} {q last x : Nat} (hx : l[q]? = some x) : rising last (l.drop q) = if x ≤ last then false else rising x (l.drop (q + 1)) := by
 have hq : q < l.length := by
  rcases Nat.lt_or_ge q l.length with h' | h'
  ·exact h'
  ·rw [List.getElem?_eq_none h'] at hx; cases hx
 have e : l[q] = x := by rw [List.getElem?_eq_getElem hq] at hx; injection hx
 rw [List.drop_eq_getElem_cons hq, e]
 rfl
theorem rising_end {l : List Nat} {q last : Nat} (h : l.length ≤ q) : rising last (l.drop q) = true := by
 rw [List.drop_of_length_le h]
 rfl
theorem numIV_any (w : World) (x : IV) : Calls Tryz.prog 62 #[x.agg] w fun e w' => e = .returned (.int .u32 (x.t : Int)) ∧ Below w.heap.size w w' := by
 obtain ⟨t, ⟨pk, ps, px, pA, pn, pc, pl⟩⟩ := x
 simp only [IV.agg]
 go_enter Tryz.func62, Tryz.ntmps62
 go_wp2
 go_ret
 exact ⟨rfl, (Below.refl _ _).alloc (Nat.le_refl _) _⟩
theorem numLV_any (w : World) (x : LV) : Calls Tryz.prog 65 #[x.agg] w fun e w' => e = .returned (.int .u32 (x.t : Int)) ∧ Below w.heap.size w w' := by
 obtain ⟨t, a, b, z⟩ := x
 simp only [LV.agg]
 go_enter Tryz.func65, Tryz.ntmps65
 go_wp2
 go_ret
 exact ⟨rfl, (Below.refl _ _).alloc (Nat.le_refl _) _⟩
theorem numDV_any (w : World) (x : DV) : Calls Tryz.prog 67 #[x.agg] w fun e w' => e = .returned (.int .u32 (x.t : Int)) ∧ Below w.heap.size w w' := by
 obtain ⟨t, a⟩ := x
 simp only [DV.agg]
 go_enter Tryz.func67, Tryz.ntmps67
 go_wp2
 go_ret
 exact ⟨rfl, (Below.refl _ _).alloc (Nat.le_refl _) _⟩
set_option maxHeartbeats 2000000 in
theorem riseIV_any (w : World) (T : Nat → Prop) (A : Option Addr) (n c : Nat) (l : List IV) (h : IVR w T A n l) (hn : n ≤ 20001) :
  Calls Tryz.prog 61 #[.slice A n c, .func (.func 62) #[] #[]] w fun e w' => e = .returned (.bool (rising 0 (l.map IV.t))) ∧ Below w.heap.size w w' := by
 have hlen : l.length = n := h.1
 have HL := Lib.hid hlen
 have HV := Lib.hid h
 obtain ⟨R, hR⟩ : ∃ R, R = rising 0 (l.map IV.t) := ⟨_, rfl⟩
 rw [← hR]
 have HR := Lib.hid hR
 have HN := Lib.hid (fun W' x => numIV_any W' x)
 clear h hlen hR
 go_enter Tryz.func61, Tryz.ntmps61
 go_wp2_with fail
 go_loopw [5, 10] (fun v i wr => ∃ q last : Nat, q ≤ n ∧ last < 4294967296 ∧ i = .int .i64 (q : Int) ∧ v = .int .u32 (last : Int) ∧ rising last ((l.map IV.t).drop q) = R ∧ Below w.heap.size w wr) (fun _ i _ => n - (intOf i).toNat)
 case atStart => exact ⟨0, 0, by omega, by omega, rfl, rfl, HR.out.symm, Below.refl _ _⟩
 case round =>
  obtain ⟨q, last, hq, hla, rfl, rfl, hri, hb⟩ := hrel
  have HB := Lib.hid hb
  have HRI := Lib.hid hri
  by_cases hlt : q < n
  ·obtain ⟨gx, o, x, hA, hgx, _, hx, hxi, b0, b1, b2, b3, b4⟩ := (HV.out.keep (Fr.of_below hb No) fun _ _ hn => hn).at_ hlt
   have HST := Lib.hid (rising_step (l := l.map IV.t) (q := q) (last := last) (x := x.t) (by rw [List.getElem?_map, hx]; rfl))
   have hxt := hxi.t
   have HNX := Lib.hid (fun W' => numIV_any W' x)
   subst hA
   obtain ⟨t, ⟨pk, ps, px, pA, pn, pc, pl⟩⟩ := x
   simp only at b0 b1 b2 b3 b4 hxt HST
   simp only [IV.agg] at HNX
   have hWi : IntKind.i64.wrap ((q : Int) + 1) = ((q + 1 : Nat) : Int) := by rw [IntWalk.i64_in _ (by omega)]; omega
   have hin : ((q : Int) < (n : Int)) := by omega
   have hwq : IntKind.i64.wrap (q : Int) = (q : Int) := IntWalk.i64_in _ (by omega)
   obtain ⟨wa, hwa⟩ : ∃ wa, wr.alloc (.cells #[.int .u32 (t : Int), .int .i64 pk, .int .u64 (ps : Int), .int .u32 (px : Int), .slice pA pn pc] 53) = wa := ⟨_, rfl⟩
   have hbk : Blk wa wr.heap.size 53 #[.int .u32 (t : Int), .int .i64 pk, .int .u64 (ps : Int), .int .u32 (px : Int), .slice pA pn pc] := by rw [← hwa]; exact Blk.new wr 53 _
   have HBK := Lib.hid hbk
   have HBA : Hid (Below w.heap.size w wa) := Lib.hid (by rw [← hwa]; exact hb.alloc hb.size _)
   have y0 := hbk.cell 0
   have y1 := hbk.cell 1
   have y2 := hbk.cell 2
   have y3 := hbk.cell 3
   have y4 := hbk.cell 4
   simp only [List.getElem?_toArray, List.getElem?_cons_zero, List.getElem?_cons_succ] at y0 y1 y2 y3 y4
   clear hb hri hgx hx hxi hbk
   go_wp2_with fail
   with_reducible refine (HNX.out _).mono ?_
   rintro e w2 ⟨rfl, hb2⟩
   have HB2 := Lib.hid (HBA.out.trans (hb2.mono HBA.out.size))
   have HBK2 := Lib.hid (HBK.out.below hb2 HBK.out.lt)
   have y0 := HBK2.out.cell 0
   have y1 := HBK2.out.cell 1
   have y2 := HBK2.out.cell 2
   have y3 := HBK2.out.cell 3
   have y4 := HBK2.out.cell 4
   simp only [List.getElem?_toArray, List.getElem?_cons_zero, List.getElem?_cons_succ] at y0 y1 y2 y3 y4
   clear hb2
   by_cases hle : t ≤ last
   ·have d1 : decide ((t : Int) ≤ (last : Int)) = true := decide_eq_true (by omega)
    have d2 : decide (t ≤ last) = true := decide_eq_true hle
    have HRF : Hid (R = false) := Lib.hid (by rw [← HRI.out, HST.out, if_pos hle])
    clear hle
    go_wp2_with fail
    go_ret
    exact ⟨by rw [HRF.out]; rfl, HB2.out⟩
   ·have d1 : decide ((t : Int) ≤ (last : Int)) = false := decide_eq_false (by omega)
    have d2 : decide (t ≤ last) = false := decide_eq_false hle
    have HRF : Hid (rising t ((l.map IV.t).drop (q + 1)) = R) := Lib.hid (by rw [← HRI.out, HST.out, if_neg hle])
    clear hle
    go_wp2_with fail
    with_reducible refine (HNX.out _).mono ?_
    rintro e w3 ⟨rfl, hb3⟩
    have HB3 := Lib.hid (HB2.out.trans (hb3.mono HB2.out.size))
    clear hb3
    go_wp2_with fail
    go_roundw
    case rel => exact ⟨q + 1, t, by omega, hxt, by go_num, rfl, HRF.out, HB3.out⟩
    case measure => simp [intOf]; omega
  ·have h1d : decide ((q : Int) < (n : Int)) = false := decide_eq_false (by omega)
   have h1d2 : decide (q < n) = false := decide_eq_false hlt
   have HRF : Hid (R = true) := Lib.hid (by rw [← HRI.out]; exact rising_end (by rw [List.length_map, HL.out]; omega))
   clear hb hri
   go_wp2_with fail
   go_ret
   exact ⟨by rw [HRF.out]; rfl, HB.out⟩
set_option maxHeartbeats 2000000 in
theorem riseLV_any (w : World) (T : Nat → Prop) (A : Option Addr) (n c : Nat) (l : List LV) (h : LVR w T A n l) (hn : n ≤ 20001) :
  Calls Tryz.prog 64 #[.slice A n c, .func (.func 65) #[] #[]] w fun e w' => e = .returned (.bool (rising 0 (l.map LV.t))) ∧ Below w.heap.size w w' := by
 have hlen : l.length = n := h.1
 have HL := Lib.hid hlen
 have HV := Lib.hid h
 obtain ⟨R, hR⟩ : ∃ R, R = rising 0 (l.map LV.t) := ⟨_, rfl⟩
 rw [← hR]
 have HR := Lib.hid hR
 have HN := Lib.hid (fun W' x => numLV_any W' x)
 clear h hlen hR
 go_enter Tryz.func64, Tryz.ntmps64
 go_wp2_with fail
 go_loopw [5, 10] (fun v i wr => ∃ q last : Nat, q ≤ n ∧ last < 4294967296 ∧ i = .int .i64 (q : Int) ∧ v = .int .u32 (last : Int) ∧ rising last ((l.map LV.t).drop q) = R ∧ Below w.heap.size w wr) (fun _ i _ => n - (intOf i).toNat)
 case atStart => exact ⟨0, 0, by omega, by omega, rfl, rfl, HR.out.symm, Below.refl _ _⟩
 case round =>
  obtain ⟨q, last, hq, hla, rfl, rfl, hri, hb⟩ := hrel
  have HB := Lib.hid hb
  have HRI := Lib.hid hri
  by_cases hlt : q < n
  ·obtain ⟨gx, o, x, hA, hgx, _, hx, hxi, b0, b1, b2, b3⟩ := (HV.out.keep (Fr.of_below hb No) fun _ _ hn => hn).at_ hlt
   have HST := Lib.hid (rising_step (l := l.map LV.t) (q := q) (last := last) (x := x.t) (by rw [List.getElem?_map, hx]; rfl))
   have hxt := hxi.t
   have HNX := Lib.hid (fun W' => numLV_any W' x)
   subst hA
   obtain ⟨t, a, b, z⟩ := x
   simp only at b0 b1 b2 b3 hxt HST
   simp only [LV.agg] at HNX
   have hWi : IntKind.i64.wrap ((q : Int) + 1) = ((q + 1 : Nat) : Int) := by rw [IntWalk.i64_in _ (by omega)]; omega
   have hin : ((q : Int) < (n : Int)) := by omega
   have hwq : IntKind.i64.wrap (q : Int) = (q : Int) := IntWalk.i64_in _ (by omega)
   obtain ⟨wa, hwa⟩ : ∃ wa, wr.alloc (.cells #[.int .u32 (t : Int), .int .u64 (a : Int), .int .u64 (b : Int), .bool z] 62) = wa := ⟨_, rfl⟩
   have hbk : Blk wa wr.heap.size 62 #[.int .u32 (t : Int), .int .u64 (a : Int), .int .u64 (b : Int), .bool z] := by rw [← hwa]; exact Blk.new wr 62 _
   have HBK := Lib.hid hbk
   have HBA : Hid (Below w.heap.size w wa) := Lib.hid (by rw [← hwa]; exact hb.alloc hb.size _)
   have y0 := hbk.cell 0
   have y1 := hbk.cell 1
   have y2 := hbk.cell 2
   have y3 := hbk.cell 3
   simp only [List.getElem?_toArray, List.getElem?_cons_zero, List.getElem?_cons_succ] at y0 y1 y2 y3
   clear hb hri hgx hx hxi hbk
   go_wp2_with fail
   with_reducible refine (HNX.out _).mono ?_
   rintro e w2 ⟨rfl, hb2⟩
   have HB2 := Lib.hid (HBA.out.trans (hb2.mono HBA.out.size))
   have HBK2 := Lib.hid (HBK.out.below hb2 HBK.out.lt)
   have y0 := HBK2.out.cell 0
   have y1 := HBK2.out.cell 1
   have y2 := HBK2.out.cell 2
   have y3 := HBK2.out.cell 3
   simp only [List.getElem?_toArray, List.getElem?_cons_zero, List.getElem?_cons_succ] at y0 y1 y2 y3
   clear hb2
   by_cases hle : t ≤ last
   ·have d1 : decide ((t : Int) ≤ (last : Int)) = true := decide_eq_true (by omega)
    have d2 : decide (t ≤ last) = true := decide_eq_true hle
    have HRF : Hid (R = false) := Lib.hid (by rw [← HRI.out, HST.out, if_pos hle])
    clear hle
    go_wp2_with fail
    go_ret
    exact ⟨by rw [HRF.out]; rfl, HB2.out⟩
   ·have d1 : decide ((t : Int) ≤ (last : Int)) = false := decide_eq_false (by omega)
    have d2 : decide (t ≤ last) = false := decide_eq_false hle
    have HRF : Hid (rising t ((l.map LV.t).drop (q + 1)) = R) := Lib.hid (by rw [← HRI.out, HST.out, if_neg hle])
    clear hle
    go_wp2_with fail
    with_reducible refine (HNX.out _).mono ?_
    rintro e w3 ⟨rfl, hb3⟩
    have HB3 := Lib.hid (HB2.out.trans (hb3.mono HB2.out.size))
    clear hb3
    go_wp2_with fail
    go_roundw
    case rel => exact ⟨q + 1, t, by omega, hxt, by go_num, rfl, HRF.out, HB3.out⟩
    case measure => simp [intOf]; omega
  ·have h1d : decide ((q : Int) < (n : Int)) = false := decide_eq_false (by omega)
   have h1d2 : decide (q < n) = false := decide_eq_false hlt
   have HRF : Hid (R = true) := Lib.hid (by rw [← HRI.out]; exact rising_end (by rw [List.length_map, HL.out]; omega))
   clear hb hri
   go_wp2_with fail
   go_ret
   exact ⟨by rw [HRF.out]; rfl, HB.out⟩
set_option maxHeartbeats 2000000 in
theorem riseDV_any (w : World) (T : Nat → Prop) (A : Option Addr) (n c : Nat) (l : List DV) (h : DVR w T A n l) (hn : n ≤ 20001) :
  Calls Tryz.prog 66 #[.slice A n c, .func (.func 67) #[] #[]] w fun e w' => e = .returned (.bool (rising 0 (l.map DV.t))) ∧ Below w.heap.size w w' := by
 have hlen : l.length = n := h.1
 have HL := Lib.hid hlen
 have HV := Lib.hid h
 obtain ⟨R, hR⟩ : ∃ R, R = rising 0 (l.map DV.t) := ⟨_, rfl⟩
 rw [← hR]
 have HR := Lib.hid hR
 have HN := Lib.hid (fun W' x => numDV_any W' x)
 clear h hlen hR
 go_enter Tryz.func66, Tryz.ntmps66
 go_wp2_with fail
 go_loopw [5, 10] (fun v i wr => ∃ q last : Nat, q ≤ n ∧ last < 4294967296 ∧ i = .int .i64 (q : Int) ∧ v = .int .u32 (last : Int) ∧ rising last ((l.map DV.t).drop q) = R ∧ Below w.heap.size w wr) (fun _ i _ => n - (intOf i).toNat)
 case atStart => exact ⟨0, 0, by omega, by omega, rfl, rfl, HR.out.symm, Below.refl _ _⟩
 case round =>
  obtain ⟨q, last, hq, hla, rfl, rfl, hri, hb⟩ := hrel
  have HB := Lib.hid hb
  have HRI := Lib.hid hri
  by_cases hlt : q < n
  ·obtain ⟨gx, o, x, hA, hgx, _, hx, hxi, b0, b1⟩ := (HV.out.keep (Fr.of_below hb No) fun _ _ hn => hn).at_ hlt
   have HST := Lib.hid (rising_step (l := l.map DV.t) (q := q) (last := last) (x := x.t) (by rw [List.getElem?_map, hx]; rfl))
   have hxt := hxi.t
   have HNX := Lib.hid (fun W' => numDV_any W' x)
   subst hA
   obtain ⟨t, a⟩ := x
   simp only at b0 b1 hxt HST
   simp only [DV.agg] at HNX
   have hWi : IntKind.i64.wrap ((q : Int) + 1) = ((q + 1 : Nat) : Int) := by rw [IntWalk.i64_in _ (by omega)]; omega
   have hin : ((q : Int) < (n : Int)) := by omega
   have hwq : IntKind.i64.wrap (q : Int) = (q : Int) := IntWalk.i64_in _ (by omega)
   obtain ⟨wa, hwa⟩ : ∃ wa, wr.alloc (.cells #[.int .u32 (t : Int), .int .u64 (a : Int)] 64) = wa := ⟨_, rfl⟩
   have hbk : Blk wa wr.heap.size 64 #[.int .u32 (t : Int), .int .u64 (a : Int)] := by rw [← hwa]; exact Blk.new wr 64 _
   have HBK := Lib.hid hbk
   have HBA : Hid (Below w.heap.size w wa) := Lib.hid (by rw [← hwa]; exact hb.alloc hb.size _)
   have y0 := hbk.cell 0
   have y1 := hbk.cell 1
   simp only [List.getElem?_toArray, List.getElem?_cons_zero, List.getElem?_cons_succ] at y0 y1
   clear hb hri hgx hx hxi hbk
   go_wp2_with fail
   with_reducible refine (HNX.out _).mono ?_
   rintro e w2 ⟨rfl, hb2⟩
   have HB2 := Lib.hid (HBA.out.trans (hb2.mono HBA.out.size))
   have HBK2 := Lib.hid (HBK.out.below hb2 HBK.out.lt)
   have y0 := HBK2.out.cell 0
   have y1 := HBK2.out.cell 1
   simp only [List.getElem?_toArray, List.getElem?_cons_zero, List.getElem?_cons_succ] at y0 y1
   clear hb2
   by_cases hle : t ≤ last
   ·have d1 : decide ((t : Int) ≤ (last : Int)) = true := decide_eq_true (by omega)
    have d2 : decide (t ≤ last) = true := decide_eq_true hle
    have HRF : Hid (R = false) := Lib.hid (by rw [← HRI.out, HST.out, if_pos hle])
    clear hle
    go_wp2_with fail
    go_ret
    exact ⟨by rw [HRF.out]; rfl, HB2.out⟩
   ·have d1 : decide ((t : Int) ≤ (last : Int)) = false := decide_eq_false (by omega)
    have d2 : decide (t ≤ last) = false := decide_eq_false hle
    have HRF : Hid (rising t ((l.map DV.t).drop (q + 1)) = R) := Lib.hid (by rw [← HRI.out, HST.out, if_neg hle])
    clear hle
    go_wp2_with fail
    with_reducible refine (HNX.out _).mono ?_
    rintro e w3 ⟨rfl, hb3⟩
    have HB3 := Lib.hid (HB2.out.trans (hb3.mono HB2.out.size))
    clear hb3
    go_wp2_with fail
    go_roundw
    case rel => exact ⟨q + 1, t, by omega, hxt, by go_num, rfl, HRF.out, HB3.out⟩
    case measure => simp [intOf]; omega
  ·have h1d : decide ((q : Int) < (n : Int)) = false := decide_eq_false (by omega)
   have h1d2 : decide (q < n) = false := decide_eq_false hlt
   have HRF : Hid (R = true) := Lib.hid (by rw [← HRI.out]; exact rising_end (by rw [List.length_map, HL.out]; omega))
   clear hb hri
   go_wp2_with fail
   go_ret
   exact ⟨by rw [HRF.out]; rfl, HB.out⟩
theorem pageKind_any (w : World) (x : Nat) : Calls Tryz.prog 102 #[.int .u32 (x : Int)] w fun e w' => e = .returned (.int .i64 (if x = 0 then 1 else 2)) ∧ w = w' := by
 by_cases h : x = 0
 ·have e0 : ((x : Int) == 0) = true := by rw [beq_iff_eq]; omega
  rw [if_pos h]
  clear h
  go_enter Tryz.func102, Tryz.ntmps102
  go_wp2
  go_ret
  exact ⟨rfl, rfl⟩
 ·have e0 : ((x : Int) == 0) = false := beq_false_of_ne (by omega)
  rw [if_neg h]
  clear h
  go_enter Tryz.func102, Tryz.ntmps102
  go_wp2
  go_ret
  exact ⟨rfl, rfl⟩
def freshB (l : List IV) : Bool := l.all fun x => decide (x.p.s = 0) && may x.p.k x.p.es
theorem fresh_step {l : List IV} {q : Nat} {x : IV} (hx : l[q]? = some x) : freshB (l.drop q) = ((decide (x.p.s = 0) && may x.p.k x.p.es) && freshB (l.drop (q + 1))) := by
 have hq : q < l.length := by
  rcases Nat.lt_or_ge q l.length with h' | h'
  ·exact h'
  ·rw [List.getElem?_eq_none h'] at hx; cases hx
 have e : l[q] = x := by rw [List.getElem?_eq_getElem hq] at hx; injection hx
 rw [List.drop_eq_getElem_cons hq, e]
 rfl
set_option maxHeartbeats 4000000 in
theorem areFresh_any (w : World) (A : Option Addr) (n c : Nat) (l : List IV) (h : IVR w All A n l) (hn : n ≤ 20001) (hs : ∀ x ∈ l, Few x.p) :
  Calls Tryz.prog 63 #[.slice A n c] w fun e w' => e = .returned (.bool (freshB l)) ∧ Below w.heap.size w w' := by
 have hlen : l.length = n := h.1
 have HL := Lib.hid hlen
 have HV := Lib.hid h
 have HS := Lib.hid hs
 obtain ⟨R, hR⟩ : ∃ R, R = freshB l := ⟨_, rfl⟩
 rw [← hR]
 have HR := Lib.hid hR
 clear h hlen hR hs
 go_enter Tryz.func63, Tryz.ntmps63
 go_wp2_with fail
 go_loopw [7] (fun i wr => ∃ q : Nat, q ≤ n ∧ i = .int .i64 (q : Int) ∧ freshB (l.drop q) = R ∧ Below w.heap.size w wr) (fun i _ => n - (intOf i).toNat)
 case atStart => exact ⟨0, by omega, rfl, HR.out.symm, Below.refl _ _⟩
 case round =>
  obtain ⟨q, hq, rfl, hri, hb⟩ := hrel
  have HB := Lib.hid hb
  have HRI := Lib.hid hri
  by_cases hlt : q < n
  ·obtain ⟨gx, o, x, hA, hgx, _, hx, hxi, b0, b1, b2, b3, b4⟩ := (HV.out.keep (Fr.of_below hb No) fun _ _ hn => hn).at_ hlt
   have HST := Lib.hid (fresh_step hx)
   have HXP := Lib.hid hxi.p
   have HFW := Lib.hid (HS.out x (List.mem_of_getElem? hx))
   subst hA
   obtain ⟨t, ⟨pk, ps, px, pA, pn, pc, pl⟩⟩ := x
   simp only at b0 b1 b2 b3 b4 HXP HFW HST
   have hWi : IntKind.i64.wrap ((q : Int) + 1) = ((q + 1 : Nat) : Int) := by rw [IntWalk.i64_in _ (by omega)]; omega
   have hin : ((q : Int) < (n : Int)) := by omega
   have hwq : IntKind.i64.wrap (q : Int) = (q : Int) := IntWalk.i64_in _ (by omega)
   obtain ⟨wa, hwa⟩ : ∃ wa, wr.alloc (.cells #[.int .u32 (t : Int), .int .i64 pk, .int .u64 (ps : Int), .int .u32 (px : Int), .slice pA pn pc] 53) = wa := ⟨_, rfl⟩
   have hbk : Blk wa wr.heap.size 53 #[.int .u32 (t : Int), .int .i64 pk, .int .u64 (ps : Int), .int .u32 (px : Int), .slice pA pn pc] := by rw [← hwa]; exact Blk.new wr 53 _
   have hba : Below w.heap.size w wa := by rw [← hwa]; exact hb.alloc hb.size _
   have hbw : Below wr.heap.size wr wa := by rw [← hwa]; exact (Below.refl _ _).alloc (Nat.le_refl _) _
   have HBA := Lib.hid hba
   have hmy := may_any ⟨pk, ps, px, pA, pn, pc, pl⟩ wa (HXP.out.below hbw) HFW.out
   simp only [PV.agg] at hmy
   obtain ⟨mb, hmb⟩ : ∃ mb, mb = may pk (PV.es ⟨pk, ps, px, pA, pn, pc, pl⟩) := ⟨_, rfl⟩
   rw [← hmb] at hmy
   have HMY := Lib.hid hmy
   have HMB := Lib.hid hmb
   have y0 := hbk.cell 0
   have y1 := hbk.cell 1
   have y2 := hbk.cell 2
   have y3 := hbk.cell 3
   have y4 := hbk.cell 4
   simp only [List.getElem?_toArray, List.getElem?_cons_zero, List.getElem?_cons_succ] at y0 y1 y2 y3 y4
   clear hb hri hgx hx hxi hbk hba hbw hmy hmb
   by_cases h0 : ps = 0
   ·have e0 : ((ps : Int) != 0) = false := bne_eq_false_iff_eq.2 (by omega)
    have H0 := Lib.hid h0
    clear h0
    go_wp2_with fail
    with_reducible refine HMY.out.mono ?_
    rintro e w2 ⟨rfl, hb2⟩
    have HB2 := Lib.hid (HBA.out.trans (hb2.mono HBA.out.size))
    clear hb2
    cases mb with
    | false =>
      have HRF : Hid (R = false) := Lib.hid (by rw [← HRI.out, HST.out, ← HMB.out]; simp)
      go_wp2_with fail
      go_ret
      exact ⟨by rw [HRF.out]; rfl, HB2.out⟩
    | true =>
      have HRF : Hid (freshB (l.drop (q + 1)) = R) := Lib.hid (by rw [← HRI.out, HST.out, ← HMB.out, H0.out]; simp)
      go_wp2_with fail
      go_roundw
      case rel => exact ⟨q + 1, by omega, by go_num, HRF.out, HB2.out⟩
      case measure => simp [intOf]; omega
   ·have e0 : ((ps : Int) != 0) = true := bne_iff_ne.2 (by omega)
    have HRF : Hid (R = false) := Lib.hid (by rw [← HRI.out, HST.out, decide_eq_false h0]; simp)
    clear h0
    go_wp2_with fail
    go_ret
    exact ⟨by rw [HRF.out]; rfl, HBA.out⟩
  ·have h1d : decide ((q : Int) < (n : Int)) = false := decide_eq_false (by omega)
   have h1d2 : decide (q < n) = false := decide_eq_false hlt
   have HRF : Hid (R = true) := Lib.hid (by rw [← HRI.out, List.drop_of_length_le (by rw [HL.out]; omega)]; rfl)
   clear hb hri
   go_wp2_with fail
   go_ret
   exact ⟨by rw [HRF.out]; rfl, HB.out⟩
end Go.Proofs.YtdhgbkibbileiaaGreat
set_option maxRecDepth 100000
namespace Go.Proofs.YtdhgbkibbileiaaGreat
open Go.RowKit
theorem box_rv (w : World) (r : RV) : ∃ W, w.alloc (.cells (rcs r) 31) = W ∧ Below w.heap.size w W ∧ Blk W w.heap.size 31 (rcs r) ∧ W.heap.size = w.heap.size + 1 :=
 ⟨_, rfl, (Below.refl _ _).alloc (Nat.le_refl _) _, Blk.new w 31 _, by simp⟩
theorem rcs_cells {w : World} {g : Nat} {r : RV} (h : Blk w g 31 (rcs r)) : w.cell? ⟨g, 0, none⟩ = some (.int .i64 r.k) ∧ w.cell? ⟨g, 1, none⟩ = some (.int .u64 (r.s : Int)) ∧ w.cell? ⟨g, 2, none⟩ = some (.int .u32 (r.t : Int)) ∧ w.cell? ⟨g, 3, none⟩ = some (.int .u64 (r.a : Int)) ∧ w.cell? ⟨g, 4, none⟩ = some (.int .u64 (r.b : Int)) ∧ w.cell? ⟨g, 5, none⟩ = some (.int .u32 (r.pg : Int)) ∧ w.cell? ⟨g, 6, none⟩ = some (.int .u32 (r.rt : Int)) ∧ w.cell? ⟨g, 7, none⟩ = some (.int .i64 r.o.k) ∧ w.cell? ⟨g, 8, none⟩ = some (.int .i64 r.o.s) ∧ w.cell? ⟨g, 9, none⟩ = some (.int .u32 (r.o.t : Int)) ∧ w.cell? ⟨g, 10, none⟩ = some (.slice r.o.A r.o.m r.o.c) ∧ w.cell? ⟨g, 11, none⟩ = some (.slice r.iA r.im r.ic) ∧ w.cell? ⟨g, 12, none⟩ = some (.slice r.lA r.lm r.lc) ∧ w.cell? ⟨g, 13, none⟩ = some (.slice r.dA r.dm r.dc) ∧ w.cell? ⟨g, 14, none⟩ = some (.int .u32 (r.nx : Int)) := by
 unfold rcs at h
 have h0 := h.cell 0
 have h1 := h.cell 1
 have h2 := h.cell 2
 have h3 := h.cell 3
 have h4 := h.cell 4
 have h5 := h.cell 5
 have h6 := h.cell 6
 have h7 := h.cell 7
 have h8 := h.cell 8
 have h9 := h.cell 9
 have h10 := h.cell 10
 have h11 := h.cell 11
 have h12 := h.cell 12
 have h13 := h.cell 13
 have h14 := h.cell 14
 simp only [List.getElem?_toArray, List.getElem?_cons_zero, List.getElem?_cons_succ] at h0 h1 h2 h3 h4 h5 h6 h7 h8 h9 h10 h11 h12 h13 h14
 exact ⟨h0, h1, h2, h3, h4, h5, h6, h7, h8, h9, h10, h11, h12, h13, h14⟩
def fo (r : RV) : Bool := ((decide (r.o.k = 3) || decide (r.o.k = 4)) == decide (r.k = 3)) && (rightP (if r.rt = 0 then 1 else 2) r.o.k r.o.s r.o.t r.o.m && (decide (0 ≤ r.o.s) && decide (r.o.s < 60)))
set_option maxHeartbeats 8000000 in
theorem fitsOp_any (w : World) (r : RV) : Calls Tryz.prog 60 #[r.agg] w fun e w' => e = .returned (.bool (fo r)) ∧ Below w.heap.size w w' := by
 obtain ⟨W, hW, hBW, hbx, hsz⟩ := box_rv w r
 obtain ⟨y0, y1, y2, y3, y4, y5, y6, y7, y8, y9, y10, y11, y12, y13, y14⟩ := rcs_cells hbx
 have HBW := Lib.hid hBW
 have HBX := Lib.hid hbx
 obtain ⟨pk, hpk⟩ : ∃ pk : Int, pk = if r.rt = 0 then 1 else 2 := ⟨_, rfl⟩
 have HPK : Hid (∀ W', Calls Tryz.prog 102 #[.int .u32 (r.rt : Int)] W' fun e w' => e = .returned (.int .i64 pk) ∧ Below W'.heap.size W' w') := Lib.hid (fun W' => (pageKind_any W' r.rt).mono fun e w' hh => ⟨by rw [hh.1, hpk], by rw [← hh.2]; exact Below.refl _ _⟩)
 obtain ⟨rb, hrb⟩ : ∃ rb, rb = rightP pk r.o.k r.o.s r.o.t r.o.m := ⟨_, rfl⟩
 have hrt := fun W' => right_any pk r.o W'
 rw [← hrb] at hrt
 simp only [OV.agg] at hrt
 have HRT := Lib.hid hrt
 obtain ⟨F, hF⟩ : ∃ F, F = fo r := ⟨_, rfl⟩
 rw [← hF]
 have HF : Hid (F = (((decide (r.o.k = 3) || decide (r.o.k = 4)) == decide (r.k = 3)) && (rb && (decide (0 ≤ r.o.s) && decide (r.o.s < 60))))) := Lib.hid (by rw [hF, hrb, hpk]; rfl)
 simp only [rcs] at hW
 unfold RV.agg
 clear hBW hbx hsz hpk hrt hrb hF
 by_cases ak : r.k = 3
 ·have ek : (r.k == 3) = true := by rw [beq_iff_eq]; exact ak
  by_cases a3 : r.o.k = 3
  ·have e3 : (r.o.k == 3) = true := by rw [beq_iff_eq]; exact a3
   cases rb with
   | false =>
     have HFF : Hid (F = false) := Lib.hid (by rw [HF.out]; simp [ak, a3])
     clear ak a3
     go_enter Tryz.func60, Tryz.ntmps60
     go_upto_region 2 with fail
     have zq0 := fun d os => cell_regrown y0 d os
     have zq6 := fun d os => cell_regrown y6 d os
     have zq7 := fun d os => cell_regrown y7 d os
     have zq8 := fun d os => cell_regrown y8 d os
     have zq9 := fun d os => cell_regrown y9 d os
     have zq10 := fun d os => cell_regrown y10 d os
     refine wp_region_quiet_below (by kernel_rfl) (by kernel_rfl) ?_
     repeat (go_big_quiet_step (first | (go_at_call 102; with_reducible exact Calls.regrown_of (HPK.out _)) | (go_at_call 101; with_reducible exact Calls.regrown_of (HRT.out _))))
     refine wpQuiet_nil ?_
     rintro W3 ⟨pp, hpp⟩
     have HB3 := Lib.hid (show Below W.heap.size W W3 by rw [hpp]; exact below_regrown _ _ _)
     obtain ⟨y0, y1, y2, y3, y4, y5, y6, y7, y8, y9, y10, y11, y12, y13, y14⟩ := rcs_cells (HBX.out.below HB3.out HBX.out.lt)
     clear hpp zq0 zq6 zq7 zq8 zq9 zq10
     go_wp2_with fail
     go_ret
     exact ⟨by rw [HFF.out]; rfl, HBW.out.trans (HB3.out.mono HBW.out.size)⟩
   | true =>
     by_cases s0 : 0 ≤ r.o.s
     ·have f0 : decide (r.o.s ≥ 0) = true := decide_eq_true (by omega)
      by_cases s1 : r.o.s < 60
      ·have f1 : decide (r.o.s < 60) = true := decide_eq_true s1
       have HFF : Hid (F = true) := Lib.hid (by rw [HF.out]; simp [ak, a3, s0, s1])
       clear ak a3 s0 s1
       go_enter Tryz.func60, Tryz.ntmps60
       go_upto_region 2 with fail
       have zq0 := fun d os => cell_regrown y0 d os
       have zq6 := fun d os => cell_regrown y6 d os
       have zq7 := fun d os => cell_regrown y7 d os
       have zq8 := fun d os => cell_regrown y8 d os
       have zq9 := fun d os => cell_regrown y9 d os
       have zq10 := fun d os => cell_regrown y10 d os
       refine wp_region_quiet_below (by kernel_rfl) (by kernel_rfl) ?_
       repeat (go_big_quiet_step (first | (go_at_call 102; with_reducible exact Calls.regrown_of (HPK.out _)) | (go_at_call 101; with_reducible exact Calls.regrown_of (HRT.out _))))
       refine wpQuiet_nil ?_
       rintro W3 ⟨pp, hpp⟩
       have HB3 := Lib.hid (show Below W.heap.size W W3 by rw [hpp]; exact below_regrown _ _ _)
       obtain ⟨y0, y1, y2, y3, y4, y5, y6, y7, y8, y9, y10, y11, y12, y13, y14⟩ := rcs_cells (HBX.out.below HB3.out HBX.out.lt)
       clear hpp zq0 zq6 zq7 zq8 zq9 zq10
       go_wp2_with fail
       go_ret
       exact ⟨by rw [HFF.out]; rfl, HBW.out.trans (HB3.out.mono HBW.out.size)⟩
      ·have f1 : decide (r.o.s < 60) = false := decide_eq_false s1
       have HFF : Hid (F = false) := Lib.hid (by rw [HF.out]; simp [ak, a3, s1])
       clear ak a3 s0 s1
       go_enter Tryz.func60, Tryz.ntmps60
       go_upto_region 2 with fail
       have zq0 := fun d os => cell_regrown y0 d os
       have zq6 := fun d os => cell_regrown y6 d os
       have zq7 := fun d os => cell_regrown y7 d os
       have zq8 := fun d os => cell_regrown y8 d os
       have zq9 := fun d os => cell_regrown y9 d os
       have zq10 := fun d os => cell_regrown y10 d os
       refine wp_region_quiet_below (by kernel_rfl) (by kernel_rfl) ?_
       repeat (go_big_quiet_step (first | (go_at_call 102; with_reducible exact Calls.regrown_of (HPK.out _)) | (go_at_call 101; with_reducible exact Calls.regrown_of (HRT.out _))))
       refine wpQuiet_nil ?_
       rintro W3 ⟨pp, hpp⟩
       have HB3 := Lib.hid (show Below W.heap.size W W3 by rw [hpp]; exact below_regrown _ _ _)
       obtain ⟨y0, y1, y2, y3, y4, y5, y6, y7, y8, y9, y10, y11, y12, y13, y14⟩ := rcs_cells (HBX.out.below HB3.out HBX.out.lt)
       clear hpp zq0 zq6 zq7 zq8 zq9 zq10
       go_wp2_with fail
       go_ret
       exact ⟨by rw [HFF.out]; rfl, HBW.out.trans (HB3.out.mono HBW.out.size)⟩
     ·have f0 : decide (r.o.s ≥ 0) = false := decide_eq_false (by omega)
      have HFF : Hid (F = false) := Lib.hid (by rw [HF.out]; simp [ak, a3, s0])
      clear ak a3 s0
      go_enter Tryz.func60, Tryz.ntmps60
      go_upto_region 2 with fail
      have zq0 := fun d os => cell_regrown y0 d os
      have zq6 := fun d os => cell_regrown y6 d os
      have zq7 := fun d os => cell_regrown y7 d os
      have zq8 := fun d os => cell_regrown y8 d os
      have zq9 := fun d os => cell_regrown y9 d os
      have zq10 := fun d os => cell_regrown y10 d os
      refine wp_region_quiet_below (by kernel_rfl) (by kernel_rfl) ?_
      repeat (go_big_quiet_step (first | (go_at_call 102; with_reducible exact Calls.regrown_of (HPK.out _)) | (go_at_call 101; with_reducible exact Calls.regrown_of (HRT.out _))))
      refine wpQuiet_nil ?_
      rintro W3 ⟨pp, hpp⟩
      have HB3 := Lib.hid (show Below W.heap.size W W3 by rw [hpp]; exact below_regrown _ _ _)
      obtain ⟨y0, y1, y2, y3, y4, y5, y6, y7, y8, y9, y10, y11, y12, y13, y14⟩ := rcs_cells (HBX.out.below HB3.out HBX.out.lt)
      clear hpp zq0 zq6 zq7 zq8 zq9 zq10
      go_wp2_with fail
      go_ret
      exact ⟨by rw [HFF.out]; rfl, HBW.out.trans (HB3.out.mono HBW.out.size)⟩
  ·have e3 : (r.o.k == 3) = false := beq_false_of_ne a3
   by_cases a4 : r.o.k = 4
   ·have e4 : (r.o.k == 4) = true := by rw [beq_iff_eq]; exact a4
    cases rb with
    | false =>
      have HFF : Hid (F = false) := Lib.hid (by rw [HF.out]; simp [ak, a4])
      clear ak a3 a4
      go_enter Tryz.func60, Tryz.ntmps60
      go_upto_region 2 with fail
      have zq0 := fun d os => cell_regrown y0 d os
      have zq6 := fun d os => cell_regrown y6 d os
      have zq7 := fun d os => cell_regrown y7 d os
      have zq8 := fun d os => cell_regrown y8 d os
      have zq9 := fun d os => cell_regrown y9 d os
      have zq10 := fun d os => cell_regrown y10 d os
      refine wp_region_quiet_below (by kernel_rfl) (by kernel_rfl) ?_
      repeat (go_big_quiet_step (first | (go_at_call 102; with_reducible exact Calls.regrown_of (HPK.out _)) | (go_at_call 101; with_reducible exact Calls.regrown_of (HRT.out _))))
      refine wpQuiet_nil ?_
      rintro W3 ⟨pp, hpp⟩
      have HB3 := Lib.hid (show Below W.heap.size W W3 by rw [hpp]; exact below_regrown _ _ _)
      obtain ⟨y0, y1, y2, y3, y4, y5, y6, y7, y8, y9, y10, y11, y12, y13, y14⟩ := rcs_cells (HBX.out.below HB3.out HBX.out.lt)
      clear hpp zq0 zq6 zq7 zq8 zq9 zq10
      go_wp2_with fail
      go_ret
      exact ⟨by rw [HFF.out]; rfl, HBW.out.trans (HB3.out.mono HBW.out.size)⟩
    | true =>
      by_cases s0 : 0 ≤ r.o.s
      ·have f0 : decide (r.o.s ≥ 0) = true := decide_eq_true (by omega)
       by_cases s1 : r.o.s < 60
       ·have f1 : decide (r.o.s < 60) = true := decide_eq_true s1
        have HFF : Hid (F = true) := Lib.hid (by rw [HF.out]; simp [ak, a4, s0, s1])
        clear ak a3 a4 s0 s1
        go_enter Tryz.func60, Tryz.ntmps60
        go_upto_region 2 with fail
        have zq0 := fun d os => cell_regrown y0 d os
        have zq6 := fun d os => cell_regrown y6 d os
        have zq7 := fun d os => cell_regrown y7 d os
        have zq8 := fun d os => cell_regrown y8 d os
        have zq9 := fun d os => cell_regrown y9 d os
        have zq10 := fun d os => cell_regrown y10 d os
        refine wp_region_quiet_below (by kernel_rfl) (by kernel_rfl) ?_
        repeat (go_big_quiet_step (first | (go_at_call 102; with_reducible exact Calls.regrown_of (HPK.out _)) | (go_at_call 101; with_reducible exact Calls.regrown_of (HRT.out _))))
        refine wpQuiet_nil ?_
        rintro W3 ⟨pp, hpp⟩
        have HB3 := Lib.hid (show Below W.heap.size W W3 by rw [hpp]; exact below_regrown _ _ _)
        obtain ⟨y0, y1, y2, y3, y4, y5, y6, y7, y8, y9, y10, y11, y12, y13, y14⟩ := rcs_cells (HBX.out.below HB3.out HBX.out.lt)
        clear hpp zq0 zq6 zq7 zq8 zq9 zq10
        go_wp2_with fail
        go_ret
        exact ⟨by rw [HFF.out]; rfl, HBW.out.trans (HB3.out.mono HBW.out.size)⟩
       ·have f1 : decide (r.o.s < 60) = false := decide_eq_false s1
        have HFF : Hid (F = false) := Lib.hid (by rw [HF.out]; simp [ak, a4, s1])
        clear ak a3 a4 s0 s1
        go_enter Tryz.func60, Tryz.ntmps60
        go_upto_region 2 with fail
        have zq0 := fun d os => cell_regrown y0 d os
        have zq6 := fun d os => cell_regrown y6 d os
        have zq7 := fun d os => cell_regrown y7 d os
        have zq8 := fun d os => cell_regrown y8 d os
        have zq9 := fun d os => cell_regrown y9 d os
        have zq10 := fun d os => cell_regrown y10 d os
        refine wp_region_quiet_below (by kernel_rfl) (by kernel_rfl) ?_
        repeat (go_big_quiet_step (first | (go_at_call 102; with_reducible exact Calls.regrown_of (HPK.out _)) | (go_at_call 101; with_reducible exact Calls.regrown_of (HRT.out _))))
        refine wpQuiet_nil ?_
        rintro W3 ⟨pp, hpp⟩
        have HB3 := Lib.hid (show Below W.heap.size W W3 by rw [hpp]; exact below_regrown _ _ _)
        obtain ⟨y0, y1, y2, y3, y4, y5, y6, y7, y8, y9, y10, y11, y12, y13, y14⟩ := rcs_cells (HBX.out.below HB3.out HBX.out.lt)
        clear hpp zq0 zq6 zq7 zq8 zq9 zq10
        go_wp2_with fail
        go_ret
        exact ⟨by rw [HFF.out]; rfl, HBW.out.trans (HB3.out.mono HBW.out.size)⟩
      ·have f0 : decide (r.o.s ≥ 0) = false := decide_eq_false (by omega)
       have HFF : Hid (F = false) := Lib.hid (by rw [HF.out]; simp [ak, a4, s0])
       clear ak a3 a4 s0
       go_enter Tryz.func60, Tryz.ntmps60
       go_upto_region 2 with fail
       have zq0 := fun d os => cell_regrown y0 d os
       have zq6 := fun d os => cell_regrown y6 d os
       have zq7 := fun d os => cell_regrown y7 d os
       have zq8 := fun d os => cell_regrown y8 d os
       have zq9 := fun d os => cell_regrown y9 d os
       have zq10 := fun d os => cell_regrown y10 d os
       refine wp_region_quiet_below (by kernel_rfl) (by kernel_rfl) ?_
       repeat (go_big_quiet_step (first | (go_at_call 102; with_reducible exact Calls.regrown_of (HPK.out _)) | (go_at_call 101; with_reducible exact Calls.regrown_of (HRT.out _))))
       refine wpQuiet_nil ?_
       rintro W3 ⟨pp, hpp⟩
       have HB3 := Lib.hid (show Below W.heap.size W W3 by rw [hpp]; exact below_regrown _ _ _)
       obtain ⟨y0, y1, y2, y3, y4, y5, y6, y7, y8, y9, y10, y11, y12, y13, y14⟩ := rcs_cells (HBX.out.below HB3.out HBX.out.lt)
       clear hpp zq0 zq6 zq7 zq8 zq9 zq10
       go_wp2_with fail
       go_ret
       exact ⟨by rw [HFF.out]; rfl, HBW.out.trans (HB3.out.mono HBW.out.size)⟩
   ·have e4 : (r.o.k == 4) = false := beq_false_of_ne a4
    have HFF : Hid (F = false) := Lib.hid (by rw [HF.out]; simp [ak, a3, a4])
    clear ak a3 a4
    go_enter Tryz.func60, Tryz.ntmps60
    go_upto_region 2 with fail
    have zq0 := fun d os => cell_regrown y0 d os
    have zq6 := fun d os => cell_regrown y6 d os
    have zq7 := fun d os => cell_regrown y7 d os
    have zq8 := fun d os => cell_regrown y8 d os
    have zq9 := fun d os => cell_regrown y9 d os
    have zq10 := fun d os => cell_regrown y10 d os
    refine wp_region_quiet_below (by kernel_rfl) (by kernel_rfl) ?_
    repeat (go_big_quiet_step (fail))
    refine wpQuiet_nil ?_
    rintro W3 ⟨pp, hpp⟩
    have HB3 := Lib.hid (show Below W.heap.size W W3 by rw [hpp]; exact below_regrown _ _ _)
    obtain ⟨y0, y1, y2, y3, y4, y5, y6, y7, y8, y9, y10, y11, y12, y13, y14⟩ := rcs_cells (HBX.out.below HB3.out HBX.out.lt)
    clear hpp zq0 zq6 zq7 zq8 zq9 zq10
    go_wp2_with fail
    go_ret
    exact ⟨by rw [HFF.out]; rfl, HBW.out.trans (HB3.out.mono HBW.out.size)⟩
 ·have ek : (r.k == 3) = false := beq_false_of_ne ak
  by_cases a3 : r.o.k = 3
  ·have e3 : (r.o.k == 3) = true := by rw [beq_iff_eq]; exact a3
   have HFF : Hid (F = false) := Lib.hid (by rw [HF.out]; simp [ak, a3])
   clear ak a3
   go_enter Tryz.func60, Tryz.ntmps60
   go_upto_region 2 with fail
   have zq0 := fun d os => cell_regrown y0 d os
   have zq6 := fun d os => cell_regrown y6 d os
   have zq7 := fun d os => cell_regrown y7 d os
   have zq8 := fun d os => cell_regrown y8 d os
   have zq9 := fun d os => cell_regrown y9 d os
   have zq10 := fun d os => cell_regrown y10 d os
   refine wp_region_quiet_below (by kernel_rfl) (by kernel_rfl) ?_
   repeat (go_big_quiet_step (fail))
   refine wpQuiet_nil ?_
   rintro W3 ⟨pp, hpp⟩
   have HB3 := Lib.hid (show Below W.heap.size W W3 by rw [hpp]; exact below_regrown _ _ _)
   obtain ⟨y0, y1, y2, y3, y4, y5, y6, y7, y8, y9, y10, y11, y12, y13, y14⟩ := rcs_cells (HBX.out.below HB3.out HBX.out.lt)
   clear hpp zq0 zq6 zq7 zq8 zq9 zq10
   go_wp2_with fail
   go_ret
   exact ⟨by rw [HFF.out]; rfl, HBW.out.trans (HB3.out.mono HBW.out.size)⟩
  ·have e3 : (r.o.k == 3) = false := beq_false_of_ne a3
   by_cases a4 : r.o.k = 4
   ·have e4 : (r.o.k == 4) = true := by rw [beq_iff_eq]; exact a4
    have HFF : Hid (F = false) := Lib.hid (by rw [HF.out]; simp [ak, a4])
    clear ak a3 a4
    go_enter Tryz.func60, Tryz.ntmps60
    go_upto_region 2 with fail
    have zq0 := fun d os => cell_regrown y0 d os
    have zq6 := fun d os => cell_regrown y6 d os
    have zq7 := fun d os => cell_regrown y7 d os
    have zq8 := fun d os => cell_regrown y8 d os
    have zq9 := fun d os => cell_regrown y9 d os
    have zq10 := fun d os => cell_regrown y10 d os
    refine wp_region_quiet_below (by kernel_rfl) (by kernel_rfl) ?_
    repeat (go_big_quiet_step (fail))
    refine wpQuiet_nil ?_
    rintro W3 ⟨pp, hpp⟩
    have HB3 := Lib.hid (show Below W.heap.size W W3 by rw [hpp]; exact below_regrown _ _ _)
    obtain ⟨y0, y1, y2, y3, y4, y5, y6, y7, y8, y9, y10, y11, y12, y13, y14⟩ := rcs_cells (HBX.out.below HB3.out HBX.out.lt)
    clear hpp zq0 zq6 zq7 zq8 zq9 zq10
    go_wp2_with fail
    go_ret
    exact ⟨by rw [HFF.out]; rfl, HBW.out.trans (HB3.out.mono HBW.out.size)⟩
   ·have e4 : (r.o.k == 4) = false := beq_false_of_ne a4
    cases rb with
    | false =>
      have HFF : Hid (F = false) := Lib.hid (by rw [HF.out]; simp [ak, a3, a4])
      clear ak a3 a4
      go_enter Tryz.func60, Tryz.ntmps60
      go_upto_region 2 with fail
      have zq0 := fun d os => cell_regrown y0 d os
      have zq6 := fun d os => cell_regrown y6 d os
      have zq7 := fun d os => cell_regrown y7 d os
      have zq8 := fun d os => cell_regrown y8 d os
      have zq9 := fun d os => cell_regrown y9 d os
      have zq10 := fun d os => cell_regrown y10 d os
      refine wp_region_quiet_below (by kernel_rfl) (by kernel_rfl) ?_
      repeat (go_big_quiet_step (first | (go_at_call 102; with_reducible exact Calls.regrown_of (HPK.out _)) | (go_at_call 101; with_reducible exact Calls.regrown_of (HRT.out _))))
      refine wpQuiet_nil ?_
      rintro W3 ⟨pp, hpp⟩
      have HB3 := Lib.hid (show Below W.heap.size W W3 by rw [hpp]; exact below_regrown _ _ _)
      obtain ⟨y0, y1, y2, y3, y4, y5, y6, y7, y8, y9, y10, y11, y12, y13, y14⟩ := rcs_cells (HBX.out.below HB3.out HBX.out.lt)
      clear hpp zq0 zq6 zq7 zq8 zq9 zq10
      go_wp2_with fail
      go_ret
      exact ⟨by rw [HFF.out]; rfl, HBW.out.trans (HB3.out.mono HBW.out.size)⟩
    | true =>
      by_cases s0 : 0 ≤ r.o.s
      ·have f0 : decide (r.o.s ≥ 0) = true := decide_eq_true (by omega)
       by_cases s1 : r.o.s < 60
       ·have f1 : decide (r.o.s < 60) = true := decide_eq_true s1
        have HFF : Hid (F = true) := Lib.hid (by rw [HF.out]; simp [ak, a3, a4, s0, s1])
        clear ak a3 a4 s0 s1
        go_enter Tryz.func60, Tryz.ntmps60
        go_upto_region 2 with fail
        have zq0 := fun d os => cell_regrown y0 d os
        have zq6 := fun d os => cell_regrown y6 d os
        have zq7 := fun d os => cell_regrown y7 d os
        have zq8 := fun d os => cell_regrown y8 d os
        have zq9 := fun d os => cell_regrown y9 d os
        have zq10 := fun d os => cell_regrown y10 d os
        refine wp_region_quiet_below (by kernel_rfl) (by kernel_rfl) ?_
        repeat (go_big_quiet_step (first | (go_at_call 102; with_reducible exact Calls.regrown_of (HPK.out _)) | (go_at_call 101; with_reducible exact Calls.regrown_of (HRT.out _))))
        refine wpQuiet_nil ?_
        rintro W3 ⟨pp, hpp⟩
        have HB3 := Lib.hid (show Below W.heap.size W W3 by rw [hpp]; exact below_regrown _ _ _)
        obtain ⟨y0, y1, y2, y3, y4, y5, y6, y7, y8, y9, y10, y11, y12, y13, y14⟩ := rcs_cells (HBX.out.below HB3.out HBX.out.lt)
        clear hpp zq0 zq6 zq7 zq8 zq9 zq10
        go_wp2_with fail
        go_ret
        exact ⟨by rw [HFF.out]; rfl, HBW.out.trans (HB3.out.mono HBW.out.size)⟩
       ·have f1 : decide (r.o.s < 60) = false := decide_eq_false s1
        have HFF : Hid (F = false) := Lib.hid (by rw [HF.out]; simp [ak, a3, a4, s1])
        clear ak a3 a4 s0 s1
        go_enter Tryz.func60, Tryz.ntmps60
        go_upto_region 2 with fail
        have zq0 := fun d os => cell_regrown y0 d os
        have zq6 := fun d os => cell_regrown y6 d os
        have zq7 := fun d os => cell_regrown y7 d os
        have zq8 := fun d os => cell_regrown y8 d os
        have zq9 := fun d os => cell_regrown y9 d os
        have zq10 := fun d os => cell_regrown y10 d os
        refine wp_region_quiet_below (by kernel_rfl) (by kernel_rfl) ?_
        repeat (go_big_quiet_step (first | (go_at_call 102; with_reducible exact Calls.regrown_of (HPK.out _)) | (go_at_call 101; with_reducible exact Calls.regrown_of (HRT.out _))))
        refine wpQuiet_nil ?_
        rintro W3 ⟨pp, hpp⟩
        have HB3 := Lib.hid (show Below W.heap.size W W3 by rw [hpp]; exact below_regrown _ _ _)
        obtain ⟨y0, y1, y2, y3, y4, y5, y6, y7, y8, y9, y10, y11, y12, y13, y14⟩ := rcs_cells (HBX.out.below HB3.out HBX.out.lt)
        clear hpp zq0 zq6 zq7 zq8 zq9 zq10
        go_wp2_with fail
        go_ret
        exact ⟨by rw [HFF.out]; rfl, HBW.out.trans (HB3.out.mono HBW.out.size)⟩
      ·have f0 : decide (r.o.s ≥ 0) = false := decide_eq_false (by omega)
       have HFF : Hid (F = false) := Lib.hid (by rw [HF.out]; simp [ak, a3, a4, s0])
       clear ak a3 a4 s0
       go_enter Tryz.func60, Tryz.ntmps60
       go_upto_region 2 with fail
       have zq0 := fun d os => cell_regrown y0 d os
       have zq6 := fun d os => cell_regrown y6 d os
       have zq7 := fun d os => cell_regrown y7 d os
       have zq8 := fun d os => cell_regrown y8 d os
       have zq9 := fun d os => cell_regrown y9 d os
       have zq10 := fun d os => cell_regrown y10 d os
       refine wp_region_quiet_below (by kernel_rfl) (by kernel_rfl) ?_
       repeat (go_big_quiet_step (first | (go_at_call 102; with_reducible exact Calls.regrown_of (HPK.out _)) | (go_at_call 101; with_reducible exact Calls.regrown_of (HRT.out _))))
       refine wpQuiet_nil ?_
       rintro W3 ⟨pp, hpp⟩
       have HB3 := Lib.hid (show Below W.heap.size W W3 by rw [hpp]; exact below_regrown _ _ _)
       obtain ⟨y0, y1, y2, y3, y4, y5, y6, y7, y8, y9, y10, y11, y12, y13, y14⟩ := rcs_cells (HBX.out.below HB3.out HBX.out.lt)
       clear hpp zq0 zq6 zq7 zq8 zq9 zq10
       go_wp2_with fail
       go_ret
       exact ⟨by rw [HFF.out]; rfl, HBW.out.trans (HB3.out.mono HBW.out.size)⟩
end Go.Proofs.YtdhgbkibbileiaaGreat
set_option maxRecDepth 100000
namespace Go.Proofs.YtdhgbkibbileiaaGreat
open Go.RowKit
def fitsB (r : RV) : Bool :=
 if r.k = 2 ∨ r.k = 3 then decide (r.pg ≠ 0) && (fo r && decide (r.t ≠ 0))
 else if r.k = 1 ∨ r.k = 5 ∨ r.k = 6 ∨ r.k = 7 then decide (r.t ≠ 0)
 else if r.k = 4 then decide (0 < r.im) && (rising 0 (r.il.map IV.t) && freshB r.il)
 else if r.k = 8 then rising 0 (r.ll.map LV.t) && rising 0 (r.dl.map DV.t)
 else false
set_option maxHeartbeats 8000000 in
theorem fits_any (w : World) (r : RV) (h : r.In w All) (hi : r.im ≤ 20001) (hl : r.lm ≤ 20001) (hd : r.dm ≤ 20001) (hf : ∀ x ∈ r.il, Few x.p) : Calls Tryz.prog 38 #[r.agg] w fun e w' => e = .returned (.bool (fitsB r)) ∧ Below w.heap.size w w' := by
 obtain ⟨W, hW, hBW, hbx, hsz⟩ := box_rv w r
 obtain ⟨y0, y1, y2, y3, y4, y5, y6, y7, y8, y9, y10, y11, y12, y13, y14⟩ := rcs_cells hbx
 have HBW := Lib.hid hBW
 have HBX := Lib.hid hbx
 have HI := Lib.hid (h.keep (Fr.of_below hBW No) fun _ _ hn => hn)
 have HFO := Lib.hid (fun W' => fitsOp_any W' r)
 have HRI := Lib.hid (fun W' (hW' : Below W.heap.size W W') => riseIV_any W' All r.iA r.im r.ic r.il (HI.out.i.keep (Fr.of_below hW' No) fun _ _ hn => hn) hi)
 have HFR := Lib.hid (fun W' (hW' : Below W.heap.size W W') => areFresh_any W' r.iA r.im r.ic r.il (HI.out.i.keep (Fr.of_below hW' No) fun _ _ hn => hn) hi hf)
 have HRL := Lib.hid (fun W' (hW' : Below W.heap.size W W') => riseLV_any W' All r.lA r.lm r.lc r.ll (HI.out.l.keep (Fr.of_below hW' No) fun _ _ hn => hn) hl)
 have HRD := Lib.hid (fun W' (hW' : Below W.heap.size W W') => riseDV_any W' All r.dA r.dm r.dc r.dl (HI.out.d.keep (Fr.of_below hW' No) fun _ _ hn => hn) hd)
 obtain ⟨F, hF⟩ : ∃ F, F = fitsB r := ⟨_, rfl⟩
 rw [← hF]
 have HF := Lib.hid hF
 simp only [rcs] at hW
 unfold RV.agg at HFO ⊢
 have et0 := fun (h : r.t = 0) => (show ((r.t : Int) != 0) = false from bne_eq_false_iff_eq.2 (by omega))
 have et1 := fun (h : ¬ r.t = 0) => (show ((r.t : Int) != 0) = true from bne_iff_ne.2 (by omega))
 have ET0 := Lib.hid et0
 have ET1 := Lib.hid et1
 clear h hi hl hd hf hBW hbx hsz hF et0 et1
 by_cases k1 : r.k = 1
 ·have ek : (r.k == 1) = true := by rw [beq_iff_eq]; exact k1
  have n2 : ¬ r.k = 2 := by omega
  have e2 : (r.k == 2) = false := beq_false_of_ne n2
  have n3 : ¬ r.k = 3 := by omega
  have e3 : (r.k == 3) = false := beq_false_of_ne n3
  have n4 : ¬ r.k = 4 := by omega
  have e4 : (r.k == 4) = false := beq_false_of_ne n4
  have n5 : ¬ r.k = 5 := by omega
  have e5 : (r.k == 5) = false := beq_false_of_ne n5
  have n6 : ¬ r.k = 6 := by omega
  have e6 : (r.k == 6) = false := beq_false_of_ne n6
  have n7 : ¬ r.k = 7 := by omega
  have e7 : (r.k == 7) = false := beq_false_of_ne n7
  have n8 : ¬ r.k = 8 := by omega
  have e8 : (r.k == 8) = false := beq_false_of_ne n8
  by_cases ht : r.t = 0
  ·have e0 := ET0.out ht
   have HFF : Hid (F = false) := Lib.hid (by rw [HF.out]; unfold fitsB; simp [k1, ht])
   clear ht n2 n3 n4 n5 n6 n7 n8 k1
   go_enter Tryz.func38, Tryz.ntmps38
   go_wp2_with fail
   go_ret
   exact ⟨by rw [HFF.out]; rfl, HBW.out.trans ((Below.refl _ _).mono HBW.out.size)⟩
  ·have e0 := ET1.out ht
   have HFF : Hid (F = true) := Lib.hid (by rw [HF.out]; unfold fitsB; simp [k1, ht])
   clear ht n2 n3 n4 n5 n6 n7 n8 k1
   go_enter Tryz.func38, Tryz.ntmps38
   go_wp2_with fail
   go_ret
   exact ⟨by rw [HFF.out]; rfl, HBW.out.trans ((Below.refl _ _).mono HBW.out.size)⟩
 by_cases k5 : r.k = 5
 ·have ek : (r.k == 5) = true := by rw [beq_iff_eq]; exact k5
  have n1 : ¬ r.k = 1 := by omega
  have e1 : (r.k == 1) = false := beq_false_of_ne n1
  have n2 : ¬ r.k = 2 := by omega
  have e2 : (r.k == 2) = false := beq_false_of_ne n2
  have n3 : ¬ r.k = 3 := by omega
  have e3 : (r.k == 3) = false := beq_false_of_ne n3
  have n4 : ¬ r.k = 4 := by omega
  have e4 : (r.k == 4) = false := beq_false_of_ne n4
  have n6 : ¬ r.k = 6 := by omega
  have e6 : (r.k == 6) = false := beq_false_of_ne n6
  have n7 : ¬ r.k = 7 := by omega
  have e7 : (r.k == 7) = false := beq_false_of_ne n7
  have n8 : ¬ r.k = 8 := by omega
  have e8 : (r.k == 8) = false := beq_false_of_ne n8
  by_cases ht : r.t = 0
  ·have e0 := ET0.out ht
   have HFF : Hid (F = false) := Lib.hid (by rw [HF.out]; unfold fitsB; simp [k5, ht])
   clear ht n1 n2 n3 n4 n6 n7 n8 k5
   go_enter Tryz.func38, Tryz.ntmps38
   go_wp2_with fail
   go_ret
   exact ⟨by rw [HFF.out]; rfl, HBW.out.trans ((Below.refl _ _).mono HBW.out.size)⟩
  ·have e0 := ET1.out ht
   have HFF : Hid (F = true) := Lib.hid (by rw [HF.out]; unfold fitsB; simp [k5, ht])
   clear ht n1 n2 n3 n4 n6 n7 n8 k5
   go_enter Tryz.func38, Tryz.ntmps38
   go_wp2_with fail
   go_ret
   exact ⟨by rw [HFF.out]; rfl, HBW.out.trans ((Below.refl _ _).mono HBW.out.size)⟩
 by_cases k6 : r.k = 6
 ·have ek : (r.k == 6) = true := by rw [beq_iff_eq]; exact k6
  have n1 : ¬ r.k = 1 := by omega
  have e1 : (r.k == 1) = false := beq_false_of_ne n1
  have n2 : ¬ r.k = 2 := by omega
  have e2 : (r.k == 2) = false := beq_false_of_ne n2
  have n3 : ¬ r.k = 3 := by omega
  have e3 : (r.k == 3) = false := beq_false_of_ne n3
  have n4 : ¬ r.k = 4 := by omega
  have e4 : (r.k == 4) = false := beq_false_of_ne n4
  have n5 : ¬ r.k = 5 := by omega
  have e5 : (r.k == 5) = false := beq_false_of_ne n5
  have n7 : ¬ r.k = 7 := by omega
  have e7 : (r.k == 7) = false := beq_false_of_ne n7
  have n8 : ¬ r.k = 8 := by omega
  have e8 : (r.k == 8) = false := beq_false_of_ne n8
  by_cases ht : r.t = 0
  ·have e0 := ET0.out ht
   have HFF : Hid (F = false) := Lib.hid (by rw [HF.out]; unfold fitsB; simp [k6, ht])
   clear ht n1 n2 n3 n4 n5 n7 n8 k6
   go_enter Tryz.func38, Tryz.ntmps38
   go_wp2_with fail
   go_ret
   exact ⟨by rw [HFF.out]; rfl, HBW.out.trans ((Below.refl _ _).mono HBW.out.size)⟩
  ·have e0 := ET1.out ht
   have HFF : Hid (F = true) := Lib.hid (by rw [HF.out]; unfold fitsB; simp [k6, ht])
   clear ht n1 n2 n3 n4 n5 n7 n8 k6
   go_enter Tryz.func38, Tryz.ntmps38
   go_wp2_with fail
   go_ret
   exact ⟨by rw [HFF.out]; rfl, HBW.out.trans ((Below.refl _ _).mono HBW.out.size)⟩
 by_cases k7 : r.k = 7
 ·have ek : (r.k == 7) = true := by rw [beq_iff_eq]; exact k7
  have n1 : ¬ r.k = 1 := by omega
  have e1 : (r.k == 1) = false := beq_false_of_ne n1
  have n2 : ¬ r.k = 2 := by omega
  have e2 : (r.k == 2) = false := beq_false_of_ne n2
  have n3 : ¬ r.k = 3 := by omega
  have e3 : (r.k == 3) = false := beq_false_of_ne n3
  have n4 : ¬ r.k = 4 := by omega
  have e4 : (r.k == 4) = false := beq_false_of_ne n4
  have n5 : ¬ r.k = 5 := by omega
  have e5 : (r.k == 5) = false := beq_false_of_ne n5
  have n6 : ¬ r.k = 6 := by omega
  have e6 : (r.k == 6) = false := beq_false_of_ne n6
  have n8 : ¬ r.k = 8 := by omega
  have e8 : (r.k == 8) = false := beq_false_of_ne n8
  by_cases ht : r.t = 0
  ·have e0 := ET0.out ht
   have HFF : Hid (F = false) := Lib.hid (by rw [HF.out]; unfold fitsB; simp [k7, ht])
   clear ht n1 n2 n3 n4 n5 n6 n8 k7
   go_enter Tryz.func38, Tryz.ntmps38
   go_wp2_with fail
   go_ret
   exact ⟨by rw [HFF.out]; rfl, HBW.out.trans ((Below.refl _ _).mono HBW.out.size)⟩
  ·have e0 := ET1.out ht
   have HFF : Hid (F = true) := Lib.hid (by rw [HF.out]; unfold fitsB; simp [k7, ht])
   clear ht n1 n2 n3 n4 n5 n6 n8 k7
   go_enter Tryz.func38, Tryz.ntmps38
   go_wp2_with fail
   go_ret
   exact ⟨by rw [HFF.out]; rfl, HBW.out.trans ((Below.refl _ _).mono HBW.out.size)⟩
 by_cases k2 : r.k = 2
 ·have ek : (r.k == 2) = true := by rw [beq_iff_eq]; exact k2
  have n1 : ¬ r.k = 1 := by omega
  have e1 : (r.k == 1) = false := beq_false_of_ne n1
  have n3 : ¬ r.k = 3 := by omega
  have e3 : (r.k == 3) = false := beq_false_of_ne n3
  have n4 : ¬ r.k = 4 := by omega
  have e4 : (r.k == 4) = false := beq_false_of_ne n4
  have n5 : ¬ r.k = 5 := by omega
  have e5 : (r.k == 5) = false := beq_false_of_ne n5
  have n6 : ¬ r.k = 6 := by omega
  have e6 : (r.k == 6) = false := beq_false_of_ne n6
  have n7 : ¬ r.k = 7 := by omega
  have e7 : (r.k == 7) = false := beq_false_of_ne n7
  have n8 : ¬ r.k = 8 := by omega
  have e8 : (r.k == 8) = false := beq_false_of_ne n8
  by_cases hp : r.pg = 0
  ·have ep : ((r.pg : Int) == 0) = true := by rw [beq_iff_eq]; omega
   have HFF : Hid (F = false) := Lib.hid (by rw [HF.out]; unfold fitsB; simp [k2, hp])
   clear hp k2 n1 n3 n4 n5 n6 n7 n8
   go_enter Tryz.func38, Tryz.ntmps38
   go_wp2_with fail
   go_ret
   exact ⟨by rw [HFF.out]; rfl, HBW.out.trans ((Below.refl _ _).mono HBW.out.size)⟩
  ·have ep : ((r.pg : Int) == 0) = false := beq_false_of_ne (by omega)
   obtain ⟨fb, hfb⟩ : ∃ fb, fb = fo r := ⟨_, rfl⟩
   have HFB := Lib.hid hfb
   have hfo := HFO.out W
   rw [← hfb] at hfo
   have HFO2 := Lib.hid hfo
   have HFV : Hid (F = (fb && decide (r.t ≠ 0))) := Lib.hid (by rw [HF.out, hfb]; unfold fitsB; simp [k2, hp])
   clear hp k2 n1 n3 n4 n5 n6 n7 n8 hfb hfo
   go_enter Tryz.func38, Tryz.ntmps38
   go_wp2_with fail
   with_reducible refine HFO2.out.mono ?_
   rintro e w2 ⟨rfl, hb2⟩
   have HB2 := Lib.hid hb2
   obtain ⟨y0, y1, y2, y3, y4, y5, y6, y7, y8, y9, y10, y11, y12, y13, y14⟩ := rcs_cells (HBX.out.below hb2 HBX.out.lt)
   clear hb2
   cases fb with
   | false =>
     have HFF : Hid (F = false) := Lib.hid (by rw [HFV.out]; rfl)
     go_wp2_with fail
     go_ret
     exact ⟨by rw [HFF.out]; rfl, HBW.out.trans (HB2.out.mono HBW.out.size)⟩
   | true =>
     by_cases ht : r.t = 0
     ·have e0 := ET0.out ht
      have HFF : Hid (F = false) := Lib.hid (by rw [HFV.out]; simp [ht])
      clear ht
      go_wp2_with fail
      go_ret
      exact ⟨by rw [HFF.out]; rfl, HBW.out.trans (HB2.out.mono HBW.out.size)⟩
     ·have e0 := ET1.out ht
      have HFF : Hid (F = true) := Lib.hid (by rw [HFV.out]; simp [ht])
      clear ht
      go_wp2_with fail
      go_ret
      exact ⟨by rw [HFF.out]; rfl, HBW.out.trans (HB2.out.mono HBW.out.size)⟩
 by_cases k3 : r.k = 3
 ·have ek : (r.k == 3) = true := by rw [beq_iff_eq]; exact k3
  have n1 : ¬ r.k = 1 := by omega
  have e1 : (r.k == 1) = false := beq_false_of_ne n1
  have n2 : ¬ r.k = 2 := by omega
  have e2 : (r.k == 2) = false := beq_false_of_ne n2
  have n4 : ¬ r.k = 4 := by omega
  have e4 : (r.k == 4) = false := beq_false_of_ne n4
  have n5 : ¬ r.k = 5 := by omega
  have e5 : (r.k == 5) = false := beq_false_of_ne n5
  have n6 : ¬ r.k = 6 := by omega
  have e6 : (r.k == 6) = false := beq_false_of_ne n6
  have n7 : ¬ r.k = 7 := by omega
  have e7 : (r.k == 7) = false := beq_false_of_ne n7
  have n8 : ¬ r.k = 8 := by omega
  have e8 : (r.k == 8) = false := beq_false_of_ne n8
  by_cases hp : r.pg = 0
  ·have ep : ((r.pg : Int) == 0) = true := by rw [beq_iff_eq]; omega
   have HFF : Hid (F = false) := Lib.hid (by rw [HF.out]; unfold fitsB; simp [k3, hp])
   clear hp k3 n1 n2 n4 n5 n6 n7 n8
   go_enter Tryz.func38, Tryz.ntmps38
   go_wp2_with fail
   go_ret
   exact ⟨by rw [HFF.out]; rfl, HBW.out.trans ((Below.refl _ _).mono HBW.out.size)⟩
  ·have ep : ((r.pg : Int) == 0) = false := beq_false_of_ne (by omega)
   obtain ⟨fb, hfb⟩ : ∃ fb, fb = fo r := ⟨_, rfl⟩
   have HFB := Lib.hid hfb
   have hfo := HFO.out W
   rw [← hfb] at hfo
   have HFO2 := Lib.hid hfo
   have HFV : Hid (F = (fb && decide (r.t ≠ 0))) := Lib.hid (by rw [HF.out, hfb]; unfold fitsB; simp [k3, hp])
   clear hp k3 n1 n2 n4 n5 n6 n7 n8 hfb hfo
   go_enter Tryz.func38, Tryz.ntmps38
   go_wp2_with fail
   with_reducible refine HFO2.out.mono ?_
   rintro e w2 ⟨rfl, hb2⟩
   have HB2 := Lib.hid hb2
   obtain ⟨y0, y1, y2, y3, y4, y5, y6, y7, y8, y9, y10, y11, y12, y13, y14⟩ := rcs_cells (HBX.out.below hb2 HBX.out.lt)
   clear hb2
   cases fb with
   | false =>
     have HFF : Hid (F = false) := Lib.hid (by rw [HFV.out]; rfl)
     go_wp2_with fail
     go_ret
     exact ⟨by rw [HFF.out]; rfl, HBW.out.trans (HB2.out.mono HBW.out.size)⟩
   | true =>
     by_cases ht : r.t = 0
     ·have e0 := ET0.out ht
      have HFF : Hid (F = false) := Lib.hid (by rw [HFV.out]; simp [ht])
      clear ht
      go_wp2_with fail
      go_ret
      exact ⟨by rw [HFF.out]; rfl, HBW.out.trans (HB2.out.mono HBW.out.size)⟩
     ·have e0 := ET1.out ht
      have HFF : Hid (F = true) := Lib.hid (by rw [HFV.out]; simp [ht])
      clear ht
      go_wp2_with fail
      go_ret
      exact ⟨by rw [HFF.out]; rfl, HBW.out.trans (HB2.out.mono HBW.out.size)⟩
 by_cases k4 : r.k = 4
 ·have ek : (r.k == 4) = true := by rw [beq_iff_eq]; exact k4
  have n1 : ¬ r.k = 1 := by omega
  have e1 : (r.k == 1) = false := beq_false_of_ne n1
  have n2 : ¬ r.k = 2 := by omega
  have e2 : (r.k == 2) = false := beq_false_of_ne n2
  have n3 : ¬ r.k = 3 := by omega
  have e3 : (r.k == 3) = false := beq_false_of_ne n3
  have n5 : ¬ r.k = 5 := by omega
  have e5 : (r.k == 5) = false := beq_false_of_ne n5
  have n6 : ¬ r.k = 6 := by omega
  have e6 : (r.k == 6) = false := beq_false_of_ne n6
  have n7 : ¬ r.k = 7 := by omega
  have e7 : (r.k == 7) = false := beq_false_of_ne n7
  have n8 : ¬ r.k = 8 := by omega
  have e8 : (r.k == 8) = false := beq_false_of_ne n8
  by_cases hm : r.im = 0
  ·have em : decide ((r.im : Int) > 0) = false := decide_eq_false (by omega)
   have em2 : decide (0 < r.im) = false := decide_eq_false (by omega)
   have HFF : Hid (F = false) := Lib.hid (by rw [HF.out]; unfold fitsB; simp [k4, hm])
   clear hm k4 n1 n2 n3 n5 n6 n7 n8
   go_enter Tryz.func38, Tryz.ntmps38
   go_wp2_with fail
   go_ret
   exact ⟨by rw [HFF.out]; rfl, HBW.out.trans ((Below.refl _ _).mono HBW.out.size)⟩
  ·have em : decide ((r.im : Int) > 0) = true := decide_eq_true (by omega)
   have em2 : decide (0 < r.im) = true := decide_eq_true (by omega)
   obtain ⟨ra, hra⟩ : ∃ ra, ra = rising 0 (r.il.map IV.t) := ⟨_, rfl⟩
   obtain ⟨rf, hrf⟩ : ∃ rf, rf = freshB r.il := ⟨_, rfl⟩
   have h1 := HRI.out
   have h2 := HFR.out
   rw [← hra] at h1
   rw [← hrf] at h2
   have H1 := Lib.hid h1
   have H2 := Lib.hid h2
   have HFV : Hid (F = (ra && rf)) := Lib.hid (by rw [HF.out, hra, hrf]; unfold fitsB; simp [k4, em2])
   clear hm k4 n1 n2 n3 n5 n6 n7 n8 hra hrf h1 h2
   go_enter Tryz.func38, Tryz.ntmps38
   go_wp2_with fail
   with_reducible refine (H1.out _ (Below.refl _ _)).mono ?_
   rintro e w2 ⟨rfl, hb2⟩
   have HB2 := Lib.hid hb2
   obtain ⟨y0, y1, y2, y3, y4, y5, y6, y7, y8, y9, y10, y11, y12, y13, y14⟩ := rcs_cells (HBX.out.below hb2 HBX.out.lt)
   clear hb2
   cases ra with
   | false =>
     have HFF : Hid (F = false) := Lib.hid (by rw [HFV.out]; rfl)
     go_wp2_with fail
     go_ret
     exact ⟨by rw [HFF.out]; rfl, HBW.out.trans (HB2.out.mono HBW.out.size)⟩
   | true =>
     go_wp2_with fail
     with_reducible refine (H2.out _ HB2.out).mono ?_
     rintro e w3 ⟨rfl, hb3⟩
     have HB3 := Lib.hid (HB2.out.trans (hb3.mono HB2.out.size))
     have HFF : Hid (F = rf) := Lib.hid (by rw [HFV.out]; rfl)
     clear hb3
     go_wp2_with fail
     go_ret
     exact ⟨by rw [HFF.out]; rfl, HBW.out.trans (HB3.out.mono HBW.out.size)⟩
 by_cases k8 : r.k = 8
 ·have ek : (r.k == 8) = true := by rw [beq_iff_eq]; exact k8
  have n1 : ¬ r.k = 1 := by omega
  have e1 : (r.k == 1) = false := beq_false_of_ne n1
  have n2 : ¬ r.k = 2 := by omega
  have e2 : (r.k == 2) = false := beq_false_of_ne n2
  have n3 : ¬ r.k = 3 := by omega
  have e3 : (r.k == 3) = false := beq_false_of_ne n3
  have n4 : ¬ r.k = 4 := by omega
  have e4 : (r.k == 4) = false := beq_false_of_ne n4
  have n5 : ¬ r.k = 5 := by omega
  have e5 : (r.k == 5) = false := beq_false_of_ne n5
  have n6 : ¬ r.k = 6 := by omega
  have e6 : (r.k == 6) = false := beq_false_of_ne n6
  have n7 : ¬ r.k = 7 := by omega
  have e7 : (r.k == 7) = false := beq_false_of_ne n7
  obtain ⟨ra, hra⟩ : ∃ ra, ra = rising 0 (r.ll.map LV.t) := ⟨_, rfl⟩
  obtain ⟨rf, hrf⟩ : ∃ rf, rf = rising 0 (r.dl.map DV.t) := ⟨_, rfl⟩
  have h1 := HRL.out
  have h2 := HRD.out
  rw [← hra] at h1
  rw [← hrf] at h2
  have H1 := Lib.hid h1
  have H2 := Lib.hid h2
  have HFV : Hid (F = (ra && rf)) := Lib.hid (by rw [HF.out, hra, hrf]; unfold fitsB; simp [k8])
  clear k8 n1 n2 n3 n4 n5 n6 n7 hra hrf h1 h2
  go_enter Tryz.func38, Tryz.ntmps38
  go_wp2_with fail
  with_reducible refine (H1.out _ (Below.refl _ _)).mono ?_
  rintro e w2 ⟨rfl, hb2⟩
  have HB2 := Lib.hid hb2
  obtain ⟨y0, y1, y2, y3, y4, y5, y6, y7, y8, y9, y10, y11, y12, y13, y14⟩ := rcs_cells (HBX.out.below hb2 HBX.out.lt)
  clear hb2
  cases ra with
  | false =>
    have HFF : Hid (F = false) := Lib.hid (by rw [HFV.out]; rfl)
    go_wp2_with fail
    go_ret
    exact ⟨by rw [HFF.out]; rfl, HBW.out.trans (HB2.out.mono HBW.out.size)⟩
  | true =>
    go_wp2_with fail
    with_reducible refine (H2.out _ HB2.out).mono ?_
    rintro e w3 ⟨rfl, hb3⟩
    have HB3 := Lib.hid (HB2.out.trans (hb3.mono HB2.out.size))
    have HFF : Hid (F = rf) := Lib.hid (by rw [HFV.out]; rfl)
    clear hb3
    go_wp2_with fail
    go_ret
    exact ⟨by rw [HFF.out]; rfl, HBW.out.trans (HB3.out.mono HBW.out.size)⟩
 have e1 : (r.k == 1) = false := beq_false_of_ne k1
 have e2 : (r.k == 2) = false := beq_false_of_ne k2
 have e3 : (r.k == 3) = false := beq_false_of_ne k3
 have e4 : (r.k == 4) = false := beq_false_of_ne k4
 have e5 : (r.k == 5) = false := beq_false_of_ne k5
 have e6 : (r.k == 6) = false := beq_false_of_ne k6
 have e7 : (r.k == 7) = false := beq_false_of_ne k7
 have e8 : (r.k == 8) = false := beq_false_of_ne k8
 have HFF : Hid (F = false) := Lib.hid (by rw [HF.out]; unfold fitsB; simp [k1, k2, k3, k4, k5, k6, k7, k8])
 clear k1 k2 k3 k4 k5 k6 k7 k8
 go_enter Tryz.func38, Tryz.ntmps38
 go_wp2_with fail
 go_ret
 exact ⟨by rw [HFF.out]; rfl, HBW.out.trans ((Below.refl _ _).mono HBW.out.size)⟩
end Go.Proofs.YtdhgbkibbileiaaGreat
