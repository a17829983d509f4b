/-
  Encode, Size, May; long.
-/
import Derived.Test.YtdhgbkibbileiaaGreatRL
namespace Go.Proofs.YtdhgbkibbileiaaGreat
open Go.RowKit

theorem bytesR_le (r : RV) : (bytesR r).length ≤ 16384 := by
  unfold bytesR
  split
  · rename_i h
    simp only [Bool.and_eq_true, decide_eq_true_eq] at h
    rw [List.length_append, Cd.fixB_len]
    omega
  · simp
set_option maxHeartbeats 1000000 in
set_option maxRecDepth 100000 in
theorem size_r (w : World) (r : RV) (h : r.In w All) (hc : Brief r) : Calls Tryz.prog 15 #[r.agg] w fun e w' => e = .returned (.int .i64 ((bytesR r).length : Int)) ∧ Below w.heap.size w w' := by
  obtain ⟨W, hW, hBW, hbx, hsz⟩ := box_rv w r
  obtain ⟨y0, y1, y2, y3, y4, y5, y6, y7, y8, y9, y10, y11, y12, y13, y14⟩ := rcs_cells hbx
  have HBW := Lib.hid hBW
  have HBO := Lib.hid (bytesOf_any W r (h.keep (Fr.of_below hBW No) fun _ _ hn => hn) hc)
  simp only [rcs] at hW
  unfold RV.agg at HBO ⊢
  clear h hc hBW hbx hsz
  go_enter Tryz.func15, Tryz.ntmps15
  go_wp2_with fail
  with_reducible refine HBO.out.mono ?_
  rintro e w1 ⟨v, rfl, hown, hb1⟩
  obtain ⟨A, c, rfl, _, _, _⟩ := hown.reads
  have HB1 := Lib.hid hb1
  clear hown hb1
  go_wp2_with fail
  go_ret
  exact ⟨rfl, HBW.out.trans (HB1.out.mono HBW.out.size)⟩
set_option maxHeartbeats 1000000 in
set_option maxRecDepth 100000 in
theorem may_r (w : World) (r : RV) (h : r.In w All) (hc : Brief r) : Calls Tryz.prog 13 #[r.agg] w fun e w' => e = .returned (.bool (decide (0 < (bytesR r).length))) ∧ Below w.heap.size w w' := by
  obtain ⟨W, hW, hBW, hbx, hsz⟩ := box_rv w r
  obtain ⟨y0, y1, y2, y3, y4, y5, y6, y7, y8, y9, y10, y11, y12, y13, y14⟩ := rcs_cells hbx
  have HBW := Lib.hid hBW
  have HBO := Lib.hid (size_r W r (h.keep (Fr.of_below hBW No) fun _ _ hn => hn) hc)
  obtain ⟨L, hL⟩ : ∃ L, L = (bytesR r).length := ⟨_, rfl⟩
  obtain ⟨b, hb⟩ : ∃ b, b = decide (0 < L) := ⟨_, rfl⟩
  rw [← hL] at HBO ⊢
  rw [← hb]
  have d1 : decide ((L : Int) > 0) = b := by rw [hb, decide_eq_decide]; omega
  have d2 : decide (0 < L) = b := hb.symm
  simp only [rcs] at hW
  unfold RV.agg at HBO ⊢
  clear h hc hBW hbx hsz hL hb
  go_enter Tryz.func13, Tryz.ntmps13
  go_wp2_with fail
  with_reducible refine HBO.out.mono ?_
  rintro e w1 ⟨rfl, hb1⟩
  have HB1 := Lib.hid hb1
  clear hb1
  go_wp2_with fail
  go_ret
  exact ⟨rfl, HBW.out.trans (HB1.out.mono HBW.out.size)⟩
/-- what Encode comes to -/
def EncR (w : World) (l : List Nat) (e : Ending) (w' : World) : Prop := ∃ v, e = .returned (.tuple #[v, .int .i64 (if l.length = 0 then 5 else 0)]) ∧ Ow w' (fun b => w.heap.size ≤ b) v l.length l ∧ Below w.heap.size w w'
set_option maxHeartbeats 1000000 in
set_option maxRecDepth 100000 in
theorem encode_r (w : World) (r : RV) (h : r.In w All) (hc : Brief r) : Calls Tryz.prog 11 #[r.agg] w (EncR w (bytesR r)) := by
  obtain ⟨W, hW, hBW, hbx, hsz⟩ := box_rv w r
  obtain ⟨y0, y1, y2, y3, y4, y5, y6, y7, y8, y9, y10, y11, y12, y13, y14⟩ := rcs_cells hbx
  have HBW := Lib.hid hBW
  have HBO := Lib.hid (bytesOf_any W r (h.keep (Fr.of_below hBW No) fun _ _ hn => hn) hc)
  simp only [rcs] at hW
  unfold RV.agg at HBO ⊢
  clear h hc hBW hbx hsz
  obtain ⟨l, hl⟩ : ∃ l, l = bytesR r := ⟨_, rfl⟩
  rw [← hl] at HBO ⊢
  obtain ⟨L, hL⟩ : ∃ L, L = l.length := ⟨_, rfl⟩
  have HLL := Lib.hid hL
  clear hl hL
  go_enter Tryz.func11, Tryz.ntmps11
  go_wp2_with fail
  with_reducible refine HBO.out.mono ?_
  rintro e w1 ⟨v, rfl, hown, hb1⟩
  rw [← HLL.out] at hown
  have HO := Lib.hid hown
  obtain ⟨A, c, rfl, _, _, _⟩ := hown.reads
  have HB1 := Lib.hid hb1
  clear hown hb1
  by_cases h0 : L = 0
  · have d0 : ((L : Int) == 0) = true := by rw [beq_iff_eq]; omega
    have H0 := Lib.hid h0
    clear h0
    go_wp2_with fail
    go_ret2
    have hnil : l = [] := List.eq_nil_of_length_eq_zero (by rw [← HLL.out]; exact H0.out)
    refine ⟨.slice none 0 0, by rw [hnil]; rfl, ?_, HBW.out.trans (HB1.out.mono HBW.out.size)⟩
    rw [hnil]
    exact Ow.nil_ _ _
  · have d0 : ((L : Int) == 0) = false := beq_false_of_ne (by omega)
    have H0 := Lib.hid h0
    clear h0
    go_wp2_with fail
    go_ret2
    refine ⟨.slice A L c, by rw [← HLL.out, if_neg H0.out]; rfl, ?_, HBW.out.trans (HB1.out.mono HBW.out.size)⟩
    rw [← HLL.out]
    exact HO.out.mono fun b _ hb => Nat.le_trans HBW.out.size hb

/-- what the laws go through -/
def Short0 (p : PV) : Prop := p.n ≤ 300 ∧ ∀ y ∈ p.l, y.m ≤ 2000
theorem CV_enc_len0 (x : CV) {w : World} {T : Nat → Prop} (hx : x.In w T) (hm : x.m ≤ 2000) : (encC x.e).length ≤ 2020 := by
  have h1 := hx.len
  have h2 := hx.k
  unfold encC
  have h3 := vi_len x.e.d.length (by show x.d.length < _; omega)
  have h4 := vi_len x.e.k (by show x.k < _; omega)
  have h5 : x.e.d.length = x.m := h1
  split
  · rw [List.length_append, List.length_append]; omega
  · rw [List.length_append]; simp; omega
theorem cells_len0 (x : PV) {w : World} {S T : Nat → Prop} (hx : x.In w S T) (hc : Short0 x) : (x.l.flatMap (fun y => encC y.e)).length ≤ 606000 := by
  have h3 := hx.r.1
  have h4 := hc.1
  have h6 := flat_len (fun x => encC x.e) 2020 x.l fun y hy => CV_enc_len0 y (hx.r.2.1 y hy) (hc.2 y hy)
  omega
theorem IV_enc_len0 (x : IV) {w : World} {T : Nat → Prop} (hx : x.In w T) (hc : Short0 x.p) : (encI x).length ≤ 606100 := by
  have h1 := vi_len x.t (by have := hx.t; omega)
  have h2 := vi_len x.p.x (by have := hx.p.x; omega)
  have h3 := hx.p.r.1
  have h4 := hc.1
  have h5 := vi_len x.p.l.length (by omega)
  have h6 := cells_len0 x.p hx.p hc
  unfold encI encP PV.es
  rw [encL_map]
  unfold encL
  rw [List.length_append, List.length_append, List.length_append, List.length_append, Cd.fixB_len]
  omega
theorem short_of {w : World} {T : Nat → Prop} {A : Option Addr} {n : Nat} {l : List IV} (h : IVR w T A n l) (hn : n ≤ 300) (hs : ∀ x ∈ l, Short0 x.p) : (∀ x ∈ l, Short x.p) ∧ (l.flatMap encI).length ≤ 189000000 := by
  refine ⟨fun x hx => ⟨Nat.le_trans (hs x hx).1 (by decide), fun y hy => Nat.le_trans ((hs x hx).2 y hy) (by decide), Nat.le_trans (cells_len0 x.p (h.2.1 x hx).p (hs x hx)) (by decide)⟩, ?_⟩
  have h1 := flat_len encI 606100 l fun x hx => IV_enc_len0 x (h.2.1 x hx) (hs x hx)
  have h2 := h.1
  omega
def LongR (r : RV) (w : World) (e : Ending) (w' : World) : Prop := ∃ b, e = .returned (.bool b) ∧ Below w.heap.size w w' ∧ (b = false → Brief r)
set_option maxHeartbeats 4000000 in
set_option maxRecDepth 100000 in
theorem long_r (w : World) (r : RV) (h : r.In w All) : Calls Tryz.prog 8 #[r.agg] w (LongR r w) := by
  obtain ⟨W, hW, hBW, hbx, hsz⟩ := box_rv w r
  obtain ⟨y0, y1, y2, y3, y4, y5, y6, y7, y8, y9, y10, y11, y12, y13, y14⟩ := rcs_cells hbx
  have HBW := Lib.hid hBW
  have HI := Lib.hid (h.keep (Fr.of_below hBW No) fun _ _ hn => hn).i
  have HIL : Hid (r.il.length = r.im) := Lib.hid h.i.1
  have him : r.im ≤ 9223372036854775807 := h.i.2.2.1
  obtain ⟨n, hn⟩ : ∃ n, n = r.im := ⟨_, rfl⟩
  simp only [rcs] at hW
  unfold RV.agg
  clear h hBW hbx hsz
  rw [← hn] at hW y11 HI HIL him ⊢
  have HN := Lib.hid hn
  clear hn
  go_enter Tryz.func8, Tryz.ntmps8
  go_wp2_with fail
  go_loopw [3] (fun i wr => ∃ q : Nat, q ≤ n ∧ q ≤ 301 ∧ i = .int .i64 (q : Int) ∧ (∀ i x, i < q → r.il[i]? = some x → Short0 x.p) ∧ W = wr) (fun i _ => n - (intOf i).toNat)
  case atStart => exact ⟨0, by omega, by omega, rfl, fun i x hi => by omega, rfl⟩
  case round =>
    obtain ⟨q, hq, hq1, rfl, hall, rfl⟩ := hrel
    have HA := Lib.hid hall
    clear hall
    by_cases hlt : q < n
    · have hin : ((q : Int) < (n : Int)) := by omega
      have d1 : decide ((q : Int) < (n : Int)) = true := decide_eq_true hin
      by_cases h300 : q ≤ 300
      · have d2 : decide ((q : Int) ≤ 300) = true := decide_eq_true (by omega)
        have hWi : IntKind.i64.wrap ((q : Int) + 1) = ((q + 1 : Nat) : Int) := by rw [IntWalk.i64_in _ (by omega)]; omega
        obtain ⟨gx, o, x, hA, hgx, _, hx, hxi, b0, b1, b2, b3, b4⟩ := HI.out.at_ hlt
        have HX := Lib.hid hx
        have HXP := Lib.hid hxi.p.r
        have hpm : x.p.n ≤ 9223372036854775807 := hxi.p.r.2.2.1
        rw [hA] at y11
        obtain ⟨t, pk, ps, px, pA, pn, pc, pl⟩ := x
        simp only at b0 b1 b2 b3 b4 HXP hpm
        have HQ1 : Hid (q + 1 ≤ 301) := Lib.hid (by omega)
        clear hx hxi hgx h300
        by_cases hp3 : 300 < pn
        · have e1 : decide ((pn : Int) > 300) = true := decide_eq_true (by omega)
          have e2 : decide (300 < pn) = true := decide_eq_true hp3
          clear hp3
          go_wp2_with fail
          go_ret
          exact ⟨true, rfl, HBW.out, fun h => by cases h⟩
        · have e1 : decide ((pn : Int) > 300) = false := decide_eq_false (by omega)
          have e2 : decide (300 < pn) = false := decide_eq_false hp3
          have HP3 : Hid (pn ≤ 300) := Lib.hid (by omega)
          go_wp2_with fail
          obtain ⟨wo, hwo⟩ : ∃ wo, wo = W := ⟨_, rfl⟩
          go_loopw [5] (fun j wy => ∃ k : Nat, k ≤ pn ∧ j = .int .i64 (k : Int) ∧ (∀ i y, i < k → pl[i]? = some y → y.m ≤ 2000) ∧ W = wy) (fun j _ => pn - (intOf j).toNat)
          case atStart => exact ⟨0, by omega, rfl, fun i x hi => by omega, rfl⟩
          case round =>
            obtain ⟨k, hk, rfl, hall, rfl⟩ := hrel
            have HK := Lib.hid hall
            clear hall
            by_cases hkl : k < pn
            · have hink : ((k : Int) < (pn : Int)) := by omega
              have hWk : IntKind.i64.wrap ((k : Int) + 1) = ((k + 1 : Nat) : Int) := by rw [IntWalk.i64_in _ (by omega)]; omega
              obtain ⟨gy, oy, y, hAy, _, _, hy, _, c0, c1, c2⟩ := HXP.out.at_ hkl
              have HY := Lib.hid hy
              subst hAy
              obtain ⟨u, kk, yA, m, yc, d⟩ := y
              simp only at c0 c1 c2
              clear hy
              by_cases h2 : m ≤ 2000
              · have d3 : decide ((m : Int) > 2000) = false := decide_eq_false (by omega)
                have d4 : decide (2000 < m) = false := decide_eq_false (by omega)
                have HN2 : Hid (∀ i y, i < k + 1 → pl[i]? = some y → y.m ≤ 2000) := fun i y hi hy => by
                  rcases Nat.lt_or_ge i k with h' | h'
                  · exact HK.out i y h' hy
                  · obtain rfl : i = k := by omega
                    rw [HY.out] at hy
                    injection hy with hy
                    subst hy
                    exact h2
                clear h2
                go_wp2_with fail
                go_roundw
                case rel => exact ⟨k + 1, by omega, by go_num, HN2.out, by first | rfl | trivial⟩
                case measure => simp [intOf]; omega
              · have d3 : decide ((m : Int) > 2000) = true := decide_eq_true (by omega)
                have d4 : decide (2000 < m) = true := decide_eq_true (by omega)
                clear h2
                go_wp2_with fail
                go_ret
                exact ⟨true, rfl, HBW.out, fun h => by cases h⟩
            · have f1 : decide ((k : Int) < (pn : Int)) = false := decide_eq_false (by omega)
              have f0 : decide (k < pn) = false := decide_eq_false hkl
              have HSH : Hid (Short0 (⟨pk, ps, px, pA, pn, pc, pl⟩ : PV)) := ⟨HP3.out, fun y hy => by
                obtain ⟨i, hi, rfl⟩ := List.getElem_of_mem hy
                have h9 : pl.length = pn := HXP.out.1
                have h8 : i < pl.length := hi
                exact HK.out i _ (by omega) (List.getElem?_eq_getElem hi)⟩
              have HN2 : Hid (∀ i x, i < q + 1 → r.il[i]? = some x → Short0 x.p) := fun i x hi hx => by
                rcases Nat.lt_or_ge i q with h' | h'
                · exact HA.out i x h' hx
                · obtain rfl : i = q := by omega
                  rw [HX.out] at hx
                  injection hx with hx
                  subst hx
                  exact HSH.out
              go_wp2_with fail
              go_roundw
              case rel => exact ⟨q + 1, by omega, HQ1.out, by go_num, HN2.out, by first | rfl | trivial⟩
              case measure => simp [intOf]; omega
      · have d2 : decide ((q : Int) ≤ 300) = false := decide_eq_false (by omega)
        have d3 : decide ((n : Int) > 300) = true := decide_eq_true (by omega)
        have d4 : decide (300 < n) = true := decide_eq_true (by omega)
        clear h300
        go_wp2_with fail
        go_ret
        exact ⟨true, rfl, HBW.out, fun h => by cases h⟩
    · have d1 : decide ((q : Int) < (n : Int)) = false := decide_eq_false (by omega)
      have hqn : q = n := by omega
      have HQN := Lib.hid hqn
      have hlt' := Lib.hid hlt
      clear hlt hqn
      by_cases g0 : 300 < n
      · have e0 : decide ((n : Int) > 300) = true := decide_eq_true (by omega)
        have f0 : decide (300 < n) = true := decide_eq_true g0
        clear g0
        go_wp2_with fail
        go_ret
        exact ⟨true, rfl, HBW.out, fun h => by cases h⟩
      have e0 : decide ((n : Int) > 300) = false := decide_eq_false (by omega)
      have f0 : decide (300 < n) = false := decide_eq_false g0
      have G0 : Hid (¬ 300 < n) := Lib.hid g0
      clear g0
      by_cases g1 : 3000 < r.lm
      · have e1 : decide ((r.lm : Int) > 3000) = true := decide_eq_true (by omega)
        have f1 : decide (3000 < r.lm) = true := decide_eq_true g1
        clear g1
        go_wp2_with fail
        go_ret
        exact ⟨true, rfl, HBW.out, fun h => by cases h⟩
      have e1 : decide ((r.lm : Int) > 3000) = false := decide_eq_false (by omega)
      have f1 : decide (3000 < r.lm) = false := decide_eq_false g1
      have G1 : Hid (¬ 3000 < r.lm) := Lib.hid g1
      clear g1
      by_cases g2 : 3000 < r.dm
      · have e2 : decide ((r.dm : Int) > 3000) = true := decide_eq_true (by omega)
        have f2 : decide (3000 < r.dm) = true := decide_eq_true g2
        clear g2
        go_wp2_with fail
        go_ret
        exact ⟨true, rfl, HBW.out, fun h => by cases h⟩
      have e2 : decide ((r.dm : Int) > 3000) = false := decide_eq_false (by omega)
      have f2 : decide (3000 < r.dm) = false := decide_eq_false g2
      have G2 : Hid (¬ 3000 < r.dm) := Lib.hid g2
      clear g2
      by_cases g3 : 2000 < r.o.m
      · have e3 : decide ((r.o.m : Int) > 2000) = true := decide_eq_true (by omega)
        have f3 : decide (2000 < r.o.m) = true := decide_eq_true g3
        clear g3
        go_wp2_with fail
        go_ret
        exact ⟨true, rfl, HBW.out, fun h => by cases h⟩
      have e3 : decide ((r.o.m : Int) > 2000) = false := decide_eq_false (by omega)
      have f3 : decide (2000 < r.o.m) = false := decide_eq_false g3
      have G3 : Hid (¬ 2000 < r.o.m) := Lib.hid g3
      clear g3
      go_wp2_with fail
      go_ret
      have hsh : ∀ x ∈ r.il, Short0 x.p := by
        intro x hx
        obtain ⟨i, hi, rfl⟩ := List.getElem_of_mem hx
        have h9 := HIL.out
        have h8 := HN.out
        have h7 := HQN.out
        exact HA.out i _ (by omega) (List.getElem?_eq_getElem hi)
      obtain ⟨hs1, hs2⟩ := short_of HI.out (by have := G0.out; omega) hsh
      refine ⟨false, rfl, HBW.out, fun _ => ⟨?_, ?_, hs1, hs2, ?_, ?_⟩⟩
      · have := G3.out; omega
      · have := G0.out; have := HN.out; omega
      · have := G1.out; omega
      · have := G2.out; omega
end Go.Proofs.YtdhgbkibbileiaaGreat
