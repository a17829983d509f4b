/-
STAGE 12: the document's Ask.
-/
import Derived.Test.YtlblgfpafdfilaaDoorNV
import Derived.Test.YtlblgfpafdfilaaDoorNW
namespace Go.Proofs.YtlblgfpafdfilaaDoor
open Go.RowKit Go.Sort

theorem askM_bad {t : Nat} {x : Th} {m : Int} {ls : List LK} (h : (t == 0 || !mayM x m) = true) : askM t x m ls = ((false, 1), ls) := by unfold askM; rw [if_pos h]
theorem askM_wait {t : Nat} {x : Th} {m : Int} {ls : List LK} (h : (t == 0 || !mayM x m) = false) (h2 : ls.any (waitsP t) = true) : askM t x m ls = ((false, 121), ls) := by unfold askM; rw [if_neg (by rw [h]; decide), if_pos h2]
theorem askM_has {t : Nat} {x : Th} {m : Int} {ls : List LK} (h : (t == 0 || !mayM x m) = false) (h2 : ls.any (waitsP t) = false) (h3 : hasM t x m ls = true) : askM t x m ls = ((true, 0), ls) := by unfold askM; rw [if_neg (by rw [h]; decide), if_neg (by rw [h2]; decide), if_pos h3]
theorem askM_full {t : Nat} {x : Th} {m : Int} {ls : List LK} (h : (t == 0 || !mayM x m) = false) (h2 : ls.any (waitsP t) = false) (h3 : hasM t x m ls = false) (h4 : 16384 ≤ ls.length) : askM t x m ls = ((false, 4), ls) := by unfold askM; rw [if_neg (by rw [h]; decide), if_neg (by rw [h2]; decide), if_neg (by rw [h3]; decide), if_pos h4]
theorem askM_new {t : Nat} {x : Th} {m : Int} {ls : List LK} (h : (t == 0 || !mayM x m) = false) (h2 : ls.any (waitsP t) = false) (h3 : hasM t x m ls = false) (h4 : ls.length < 16384) : askM t x m ls = ((freeM (ls ++ [⟨t, x, m, false⟩]) ls.length, 0), setH (ls ++ [⟨t, x, m, false⟩]) ls.length (freeM (ls ++ [⟨t, x, m, false⟩]) ls.length)) := by unfold askM; rw [if_neg (by rw [h]; decide), if_neg (by rw [h2]; decide), if_neg (by rw [h3]; decide), if_neg (by omega)]
theorem good_of (t : Nat) (x : Th) (m : Int) (h : mayM x m = true) (h1 : (t == 0) = false) : Good ⟨t, x, m, false⟩ := by
  have h2 : t ≠ 0 := by simpa using h1
  have h3 : 1 ≤ t := by omega
  exact ⟨h3, h⟩
theorem DChg.below {w w' : World} {g : Nat} {v : Value} {ls : List LK} (h : DB w g v ls) (hb : RowKit.Below w.heap.size w w') : DChg w w' g v v ls := ⟨h.up hb, Fr.of_below hb _, fun _ hb => Or.inl hb⟩
theorem rapp_form {w4 w5 : World} {g : Nat} {v v' : Value} {ls : List LK} {y : LK} {A : Option Addr} {n c : Nat} {o : Obj} (hv : OwR w5 46 7 lf v' (ls ++ [y])) (hg : (w4.alloc o).grownBy w5 (Value.slice A n c).ownBlock) (hb : v'.ownBlock = (Value.slice A n c).ownBlock ∨ v'.ownBlock = some (w4.alloc o).heap.size) (hn : ls.length = n) (hT : DB w4 g v ls) (e : v = .slice A n c) :
    ∃ A' c', v' = .slice A' (n + 1) c' ∧ Hid (Blk w5 g 32 #[.slice A n c] ∧ OwR w5 46 7 lf (.slice A' (n + 1) c') (ls ++ [y]) ∧ Fr w4 w5 (fun b => v.ownBlock = some b) ∧ ∀ b, (Value.slice A' (n + 1) c').ownBlock = some b → v.ownBlock = some b ∨ w4.heap.size ≤ b) := by
  obtain ⟨A', c', e', _⟩ := hv.form
  rw [List.length_append, List.length_singleton, hn] at e'
  subst e'
  subst e
  refine ⟨A', c', rfl, ⟨?_, hv, ?_, fun b hb' => ?_⟩⟩
  · exact (hT.blk.alloc o).grown hg fun h => hT.ne h.symm
  · exact ((Fr.refl w4 _).alloc o).grown hg fun k hk => Or.inl hk
  · rcases hb with hb | hb
    · exact Or.inl (by rw [← hb]; exact hb')
    · rw [hb] at hb'; injection hb' with hb'; right; rw [← hb']; simp
theorem undrew_grown {w w' : World} {r : Option Nat} (h : w.drew.grownBy w' r) : w.grownBy w' r := ⟨h.os, h.tape, h.output, h.size, h.block⟩
/-- the row with one more is laid into the table -/
theorem rask_laid {w w4 w5 w6 : World} {g : Nat} {v : Value} {ls : List LK} {y : LK} {A A' : Option Addr} {n c c' : Nat} (hT : DB w g v ls) (hb4 : RowKit.Below w.heap.size w w4) (hy : y.Ok) (hl : ls.length < 16384)
    (h5 : Blk w5 g 32 #[.slice A n c] ∧ OwR w5 46 7 lf (.slice A' (n + 1) c') (ls ++ [y]) ∧ Fr w4 w5 (fun b => v.ownBlock = some b) ∧ ∀ b, (Value.slice A' (n + 1) c').ownBlock = some b → v.ownBlock = some b ∨ w4.heap.size ≤ b) (hw6 : w5.setCell ⟨g, 0, none⟩ (.slice A' (n + 1) c') = w6) :
    DChg w w6 g v (.slice A' (n + 1) c') (ls ++ [y]) := by
  obtain ⟨hk, ho, hf, hw⟩ := h5
  have h46 : Fr w5 w6 (fun b => b = g) := by rw [← hw6]; exact fr_set (Fr.refl _ _) 0 _
  have hne : ∀ b, (Value.slice A' (n + 1) c').ownBlock = some b → ¬ b = g := fun b hb' e => by
    subst e
    exact Blk.own_ne hk ho (by decide) hb'.symm
  refine ⟨⟨by rw [← hw6]; exact hk.set_ 0 _, ho.keep h46 hne, fun l hl' => ?_, by rw [List.length_append, List.length_singleton]; omega⟩, ?_, fun b hb' => ?_⟩
  · rcases List.mem_append.1 hl' with hl' | hl'
    · exact hT.ok l hl'
    · rw [List.mem_singleton.1 hl']; exact hy
  · exact ((Fr.of_below hb4 (fun b => b = g ∨ v.ownBlock = some b)).same (hf.mono fun b _ h => Or.inr h)).same (h46.mono fun b _ h => Or.inl h)
  · rcases hw b hb' with h | h
    · exact Or.inl h
    · exact Or.inr (Nat.le_trans hb4.size h)
/-- a lock's Held is laid -/
theorem DChg.set_ {w w1 : World} {g b n c p : Nat} {v : Value} {ls : List LK} {l : LK} {r : Bool} (h : DChg w w1 g v (.slice (some ⟨b, 0, none⟩) n c) ls) (hn : ls.length = n) (hl : ls[p]? = some l) : DChg w (w1.setCell ⟨b, p * 7 + 6, none⟩ (.bool r)) g v (.slice (some ⟨b, 0, none⟩) n c) (setH ls p r) := by
  subst hn
  have hgb : g ≠ b := fun e => h.tb.ne (by rw [e]; rfl)
  have hlo := h.tb.ok l (List.mem_of_getElem? hl)
  unfold setH
  rw [getD_of hl]
  refine ⟨⟨h.tb.blk.far hgb _, h.tb.own.set_ lf_len hl (by decide) rfl, fun y hy => ?_, by rw [List.length_set]; exact h.tb.few⟩, ?_, h.own⟩
  · rcases List.mem_or_eq_of_mem_set hy with hy | rfl
    · exact h.tb.ok y hy
    · exact ⟨hlo.t, hlo.i, hlo.a, hlo.b, hlo.m1, hlo.m4⟩
  · refine h.fr.setCell (p := ⟨b, p * 7 + 6, none⟩) ?_ _
    rcases h.own b rfl with e | e
    · exact Or.inl (Or.inr e)
    · exact Or.inr e
set_option maxRecDepth 100000 in
set_option maxHeartbeats 8000000 in
theorem rask_any (t : Nat) (x : Th) (m : Int) (g : Nat) (v : Value) (ls : List LK) (w : World) (hT : DB w g v ls) (hI : Inv ls) (ht : t < 4294967296) (hi : x.i < 4294967296) (hA : x.a.size ≤ 9223372036854775807) (hB : x.b.size ≤ 9223372036854775807) :
    Calls Tryd.prog 26 #[.pointer (some ⟨g, 0, none⟩), .int .u32 (t : Int), x.agg, .int .i64 m] w fun e w' => e = .returned (.tuple #[.bool (askM t x m ls).1.1, .int .i64 ((askM t x m ls).1.2 : Int)]) ∧ ∃ v', DChg w w' g v v' (askM t x m ls).2 := by
  obtain ⟨W, hW, hb, bx, hsz⟩ := box1_36 w x
  obtain ⟨A, c, rfl, _, _, hTR⟩ := hT.tr
  have HT := Lib.hid hT
  have HB := Lib.hid hb
  have HX := Lib.hid bx
  have HTR := Lib.hid (hTR.up hb)
  have HI := Lib.hid hI
  have HM := Lib.hid (fun W => rmay_any x m hA hB W)
  have HH := Lib.hid (fun (W' : World) (h : RowKit.Below W.heap.size W W') => rhas_any g A c ls W' ((hTR.up hb).up h) hI.good t x m hA hB)
  have HBAD := Lib.hid (fun h => askM_bad (t := t) (x := x) (m := m) (ls := ls) h)
  have HWAI := Lib.hid (fun h h2 => askM_wait (t := t) (x := x) (m := m) (ls := ls) h h2)
  have HHAS := Lib.hid (fun h h2 h3 => askM_has (t := t) (x := x) (m := m) (ls := ls) h h2 h3)
  have HFUL := Lib.hid (fun h h2 h3 h4 => askM_full (t := t) (x := x) (m := m) (ls := ls) h h2 h3 h4)
  have HNEW := Lib.hid (fun h h2 h3 h4 => askM_new (t := t) (x := x) (m := m) (ls := ls) h h2 h3 h4)
  have HOK := Lib.hid (fun (h : mayM x m = true) => (⟨ht, hi, hA, hB, (mayM_mode h).1, (mayM_mode h).2⟩ : LK.Ok ⟨t, x, m, false⟩))
  have HGD := Lib.hid (good_of t x m)
  have HF := Lib.hid hT.few
  have HAB := Lib.hid (fun W' (h : RowKit.Below w.heap.size w W') => DChg.below hT h)
  obtain ⟨n, hn⟩ : ∃ n, ls.length = n := ⟨_, rfl⟩
  have HN := Lib.hid hn
  rw [hn] at HT HAB HNEW HFUL
  obtain ⟨c0, c1, c2, c3⟩ := blk36 bx
  obtain ⟨z, hz⟩ : ∃ z, (t == 0) = z := ⟨_, rfl⟩
  have hz2 : ((t : Int) == 0) = z := by rw [← hz]; exact nbeq t 0
  obtain ⟨q, hq⟩ : ∃ q, hasM t x m ls = q := ⟨_, rfl⟩
  rw [hq] at HH HHAS HFUL HNEW
  obtain ⟨my, hmy⟩ : ∃ my, mayM x m = my := ⟨_, rfl⟩
  rw [hmy] at HM HBAD HWAI HHAS HFUL HNEW HOK HGD
  rw [hz] at HBAD HWAI HHAS HFUL HNEW HGD
  rw [hn]
  obtain ⟨gx, hgx⟩ : ∃ gx, gx = w.heap.size := ⟨_, rfl⟩
  rw [← hgx] at HX c0 c1 c2 c3
  have HGX := Lib.hid hgx
  obtain ⟨xr, xi, xa, xb⟩ := x
  simp only [Th.agg, box36, tcs] at hW HM HH c0 c1 c2 c3 ⊢
  clear hb bx hT hI hA hB hn hTR hmy hz hgx hsz ht hi hq
  cases z with
  | true =>
    go_enter Tryd.func26, Tryd.ntmps26
    go_upto_region 1 with fail
    rw [← HGX.out]
    clear hW
    go_wp2_with fail
    go_ret2
    rw [HBAD.out (by simp)]
    exact ⟨rfl, _, HAB.out _ HB.out⟩
  | false =>
    cases my with
    | false =>
      go_enter Tryd.func26, Tryd.ntmps26
      go_upto_region 1 with fail
      rw [← HGX.out]
      clear hW
      go_wp2_with (go_at_call 51; with_reducible refine (HM.out _).mono ?_; rintro e w1 ⟨rfl, hb1⟩; have HB1 := Lib.hid (below_trans HB.out hb1); clear hb1)
      go_ret2
      rw [HBAD.out (by simp)]
      exact ⟨rfl, _, HAB.out _ HB1.out⟩
    | true =>
      go_enter Tryd.func26, Tryd.ntmps26
      go_upto_region 1 with fail
      rw [← HGX.out]
      clear hW
      go_upto_region 4 with (go_at_call 51; with_reducible refine (HM.out _).mono ?_; rintro e w1 ⟨rfl, hb1⟩; have HB1 := Lib.hid hb1; clear hb1)
      go_loopw [10] (fun i wr => ∃ k : Nat, k ≤ n ∧ i = .int .i64 (k : Int) ∧ (ls.take k).any (waitsP t) = false ∧ Below W.heap.size W wr) (fun i _ => n - (intOf i).toNat)
      case atStart => exact ⟨0, by omega, rfl, by simp, HB1.out⟩
      case round =>
        obtain ⟨k, hk, rfl, ha, hbr⟩ := hrel
        have HBR := Lib.hid hbr
        have HA := Lib.hid ha
        have t0 := (HTR.out.up hbr).blk.cell 0
        simp only [List.getElem?_toArray, List.getElem?_cons_zero] at t0
        rw [HN.out] at t0
        clear ha
        by_cases hlt : k < n
        · have hl : ls[k]? = some (ls[k]'(by have := HN.out; omega)) := List.getElem?_eq_getElem _
          generalize ls[k]'(by have := HN.out; omega) = l at hl
          obtain ⟨b, rfl, hcs⟩ := HTR.out.row k l hl
          obtain ⟨z0, z1, z2, z3, z4, z5, z6⟩ := hcs.up hbr
          have hin : ((k : Int) < (n : Int)) := by omega
          have e1 : IntKind.i64.wrap ((k : Int) + 1) = ((k + 1 : Nat) : Int) := by rw [IntWalk.i64_in _ (by have := HF.out; have := HN.out; omega)]; omega
          have HPT := Lib.hid (show waitsP t l = true → ls.any (waitsP t) = true from fun h => any_at hl h)
          have HPF := Lib.hid (show waitsP t l = false → (ls.take (k + 1)).any (waitsP t) = false from fun h => any_take hl HA.out h)
          rw [show waitsP t l = (l.t == t && !l.h) from rfl] at HPT HPF
          have d1 := nbeq l.t t
          obtain ⟨u, hu⟩ : ∃ u, (l.t == t) = u := ⟨_, rfl⟩
          rw [hu] at d1 HPT HPF
          obtain ⟨hh, hhe⟩ : ∃ hh, l.h = hh := ⟨_, rfl⟩
          rw [hhe] at z6 HPT HPF
          clear hl hcs hbr hu hhe z1 z2 z3 z4 z5
          have key : u = false ∨ (u = true ∧ hh = true) ∨ (u = true ∧ hh = false) := by cases u <;> cases hh <;> simp
          rcases key with rfl | ⟨rfl, rfl⟩ | ⟨rfl, rfl⟩
          iterate 2
            · go_wp2_with fail
              go_roundw
              case rel => exact ⟨k + 1, by omega, by go_num, HPF.out (by simp), HBR.out⟩
              case measure => simp [intOf]; omega
          · go_wp2_with fail
            go_ret2
            rw [HWAI.out (by simp) (HPT.out (by simp))]
            exact ⟨rfl, _, HAB.out _ (below_trans HB.out HBR.out)⟩
        · obtain rfl : k = n := by omega
          have hin : ¬ ((k : Int) < (k : Int)) := by omega
          have HE := Lib.hid (show ls.any (waitsP t) = false by have := HA.out; rwa [← HN.out, List.take_length] at this)
          obtain ⟨c0, c1, c2, c3⟩ := blk36 (HX.out.below hbr HX.out.lt)
          simp only at c0 c1 c2 c3
          have HHX := Lib.hid (HH.out _ hbr)
          clear hbr
          cases q with
          | true =>
            go_wp2_with (go_at_call 29; with_reducible refine HHX.out.mono ?_; rintro e w3 ⟨rfl, hb3⟩; have HB3 := Lib.hid (below_trans HBR.out hb3); clear hb3)
            go_ret2
            rw [HHAS.out (by simp) HE.out trivial]
            exact ⟨rfl, _, HAB.out _ (below_trans HB.out HB3.out)⟩
          | false =>
            go_upto_region 10 with (go_at_call 29; with_reducible refine HHX.out.mono ?_; rintro e w3 ⟨rfl, hb3⟩; have HB3 := Lib.hid (below_trans HBR.out hb3); clear hb3)
            have t0 := (HTR.out.up HB3.out).blk.cell 0
            simp only [List.getElem?_toArray, List.getElem?_cons_zero] at t0
            rw [HN.out] at t0
            by_cases hs : 16384 ≤ k
            · have hs2 : decide ((k : Int) ≥ 16384) = true := decide_eq_true (by omega)
              go_wp2_with fail
              go_ret2
              rw [HFUL.out (by simp) HE.out trivial hs]
              exact ⟨rfl, _, HAB.out _ (below_trans HB.out HB3.out)⟩
            · have hs2 : decide ((k : Int) ≥ 16384) = false := decide_eq_false (by omega)
              obtain ⟨c0, c1, c2, c3⟩ := blk36 (HX.out.below HB3.out HX.out.lt)
              simp only at c0 c1 c2 c3
              go_upto_region 12 with fail
              have HNW := Lib.hid (HNEW.out (by simp) HE.out trivial (by omega))
              have HLT := Lib.hid (show ls.length < 16384 by have := HN.out; omega)
              have HB4 := Lib.hid (show RowKit.Below w.heap.size w w3 from below_trans HB.out HB3.out)
              have HO4 := Lib.hid (show OwR (w3.alloc (.cells #[.int .u32 (t : Int), .bool xr, .int .u32 (xi : Int), .string xa, .string xb, .int .i64 m, .bool false] 46)).drew 46 7 lf (.slice A k c) ls from (HT.out.up HB4.out).own.up (((Below.refl _ _).alloc (Nat.le_refl _) _).drew))
              have HR4 := Lib.hid (show ∀ i y j u, [(⟨t, ⟨xr, xi, xa, xb⟩, m, false⟩ : LK)][i]? = some y → (lf y)[j]? = some u → ∃ ad, some (⟨w3.heap.size, 0, none⟩ : Addr) = some ad ∧ (w3.alloc (.cells #[.int .u32 (t : Int), .bool xr, .int .u32 (xi : Int), .string xa, .string xb, .int .i64 m, .bool false] 46)).drew.cell? (ad.add (i * 7 + j)) = some u from one_app_ (f := lf) (k := 7) w3 46 ⟨t, ⟨xr, xi, xa, xb⟩, m, false⟩)
              have HT4 := Lib.hid (HT.out.up HB4.out)
              have HX4 := Lib.hid (HX.out.below HB3.out HX.out.lt)
              have HXL := Lib.hid (show ∀ b, (Value.slice A k c).ownBlock = some b → gx ≠ b from fun b e e' => by
                have h1 := HT.out.own.lt e
                have h2 := HGX.out
                omega)
              have lg3 := block_lt_of_cell t0
              have lgx := block_lt_of_cell c0
              clear hs hs2 hlt hk
              go_region_law (first
                | (refine step_appR K46 lf_len lf_one rfl (.tmp 65) (.tmp 70) rfl (.slice A k c) ls rfl HO4.out (some ⟨w3.heap.size, 0, none⟩) 1 1 [⟨t, ⟨xr, xi, xa, xb⟩, m, false⟩] rfl rfl HR4.out (by have := HLT.out; omega) (by have := HLT.out; omega) ?_; intro v' w5 hv5 hg5 hb5; obtain ⟨A', c', hvf, HV5⟩ := rapp_form hv5 (undrew_grown hg5) hb5 HN.out HT4.out rfl; rw [hvf]; clear hv5 hg5 hb5 hvf; obtain ⟨c0, c1, c2, c3⟩ := blk36 (HX4.out.keep HV5.out.2.2.1 fun e => HXL.out _ e rfl); simp only at c0 c1 c2 c3; have t5 := HV5.out.1.cell 0; have f5 := HV5.out.1.frozen 0; simp only [List.getElem?_toArray, List.getElem?_cons_zero] at t5)
                | go_simp)
              all_goals
                obtain ⟨w6, hw6⟩ : ∃ w6, w5.setCell ⟨g, 0, none⟩ (.slice A' (k + 1) c') = w6 := ⟨_, rfl⟩
                have HC6 := Lib.hid (rask_laid HT.out HB4.out (HOK.out trivial) HLT.out HV5.out hw6)
                rw [hw6]
                clear hw6 t0 t5 f5 c0 c1 c2 c3 lg3 lgx
                have c0 := HC6.out.tb.blk.cell 0
                simp only [List.getElem?_toArray, List.getElem?_cons_zero] at c0
                have hk1 : IntKind.i64.wrap (((k + 1 : Nat) : Int) - 1) = (k : Int) := by rw [IntWalk.i64_in _ (by have := HF.out; have := HN.out; omega)]; omega
                have hk2 : IntKind.i64.wrap ((k : Int) + 1 - 1) = (k : Int) := by rw [IntWalk.i64_in _ (by have := HF.out; have := HN.out; omega)]; omega
                have hk3 : wrap64 (k : Int) = (k : Int) := IntWalk.wrap64_in _ (by have := HF.out; have := HN.out; omega)
                go_upto_region 14 with fail
                obtain ⟨L, hL⟩ : ∃ L, ls ++ [(⟨t, ⟨xr, xi, xa, xb⟩, m, false⟩ : LK)] = L := ⟨_, rfl⟩
                have hLn : L.length = k + 1 := by rw [← hL, List.length_append, List.length_singleton, HN.out]
                have hLk : L[k]? = some ⟨t, ⟨xr, xi, xa, xb⟩, m, false⟩ := by rw [← hL, ← HN.out]; simp
                have hLg : ∀ l ∈ L, Good l := fun l hl => by
                  rw [← hL] at hl
                  rcases List.mem_append.1 hl with hl | hl
                  · exact HI.out.good l hl
                  · rw [List.mem_singleton.1 hl]; exact HGD.out trivial trivial
                have hNW := HNW.out
                rw [hL] at HC6 hNW
                obtain ⟨A6, c6, e6, _, _, hTR6⟩ := HC6.out.tb.tr
                rw [hLn] at e6
                injection e6 with e6 _ e6'
                subst e6 e6'
                obtain ⟨b, rfl, hcs6⟩ := hTR6.row k _ hLk
                have HFO := Lib.hid (for_any g (some ⟨b, 0, none⟩) c' L w6.drew (hTR6.up (Below.refl _ _).drew) hLg k (by omega))
                have HFN := Lib.hid (forM_nil L k)
                obtain ⟨fr, hfr⟩ : ∃ fr, freeM L k = fr := ⟨_, rfl⟩
                have HNK := Lib.hid (show ls.length = k from HN.out)
                rw [hfr] at hNW
                have HGET := Lib.hid (fun (mf : Nat) (h : (forM L k).length = mf) => show ((mf : Int) == 0) = fr by
                  rw [show ((mf : Int) == 0) = (mf == 0) from nbeq mf 0, ← h, ← hfr, Bool.eq_iff_iff, beq_iff_eq, List.length_eq_zero_iff]
                  exact HFN.out)
                have z6 := hcs6.2.2.2.2.2.2
                have HNW2 := Lib.hid hNW
                have HLN := Lib.hid hLn
                have HLK := Lib.hid hLk
                have hp2 : (k : Int) < ((k + 1 : Nat) : Int) := by omega
                have hp3 : (k : Int) < (k : Int) + 1 := by omega
                have hne : ¬ b = g := fun e => HC6.out.tb.ne (by rw [← e]; rfl)
                have hne2 : ¬ g = b := fun e => hne e.symm
                clear hLn hLk hLg hNW hTR6 hcs6 hfr hL
                go_region_held3 (fun w' => w'.cell? ⟨g, 0, none⟩ = some (.slice (some ⟨b, 0, none⟩) (k + 1) c')) (go_keep) (first
                  | (go_at_call 34; with_reducible refine HFO.out.mono ?_; rintro e w7 ⟨vf, rfl, hun⟩; obtain ⟨Af, cf, hvf, _⟩ := hun.own.form; obtain ⟨mf, hmf⟩ : ∃ mf, (forM L k).length = mf := ⟨_, rfl⟩; rw [hmf] at hvf; subst hvf; have hz := HGET.out mf hmf; have hb7 := below_drew hun.bel; have HB7 := Lib.hid hb7; have k0 := (hb7.cell (block_lt_of_cell c0)).trans c0; have k6 := (HC6.out.tb.up hb7).own.frozen (k * 7 + 6); have k7 := (hb7.cell (block_lt_of_cell z6)).trans z6; clear hun hmf hb7))
                obtain ⟨w8, hw8⟩ : ∃ w8, w7.setCell ⟨b, k * 7 + 6, none⟩ (.bool fr) = w8 := ⟨_, rfl⟩
                have hc8 := DChg.set_ (r := fr) (show DChg w w7 g (.slice A k c) (.slice (some ⟨b, 0, none⟩) (k + 1) c') L from ⟨HC6.out.tb.up HB7.out, HC6.out.fr.same (Fr.of_below HB7.out _), HC6.out.own⟩) HLN.out HLK.out
                rw [hw8] at hc8
                have HC8 := Lib.hid hc8
                have c2 : w8.cell? ⟨g, 0, none⟩ = some (.slice (some ⟨b, 0, none⟩) (k + 1) c') := by
                  have := hc8.tb.blk.cell 0
                  simpa using this
                have c3 : w8.cell? ⟨b, k * 7 + 6, none⟩ = some (.bool fr) := by
                  obtain ⟨b', c'', e', _, hat⟩ := hc8.tb.own.at_ lf_len (i := k) (x := ⟨t, ⟨xr, xi, xa, xb⟩, m, fr⟩) (by rw [setH_at HLK.out, if_pos rfl])
                  injection e' with e1 e2 e3
                  injection e1 with e1
                  injection e1 with e1
                  subst e1
                  exact hat 6 _ rfl
                rw [hw8]
                clear hw8 hc8 k0 k6 k7 c0 z6 hz
                go_wp2_with fail
                go_ret2
                rw [HNW2.out]
                exact ⟨rfl, _, HC8.out⟩
end Go.Proofs.YtlblgfpafdfilaaDoor
