/-
STAGE 12: Ask, where a lock is laid.
-/
import Derived.Test.YtlblgfpafdfilaaDoorLM
namespace Go.Proofs.YtlblgfpafdfilaaDoor
open Go.RowKit Go.Sort

theorem emp_size {a : ByteArray} (h : emp a = true) : a.size = 0 := by
  unfold emp seq at h
  have h' := eq_of_beq h
  have e : ∀ b : ByteArray, b.toList = b.data.toList := fun b => ByteArray.toList_eq b
  rw [e, e] at h'
  have : a.data.toList.length = 0 := by rw [h']; rfl
  simpa using this
theorem mayM_size {x : Th} {m : Int} (h : mayM x m = true) : x.a.size ≤ 148 ∧ x.b.size ≤ 148 := by
  unfold mayM at h
  split at h
  · simp only [Bool.and_eq_true, decide_eq_true_eq] at h
    exact ⟨h.1.1.1, h.1.1.2⟩
  · simp only [Bool.and_eq_true] at h
    have h1 := emp_size h.1.1.1
    have h2 := emp_size h.1.1.2
    omega
/-- behind the append: the table as it was, and the row with one more -/
theorem app_form {w4 w5 : World} {g : Nat} {v v' : Value} {ls : List LK} {y : LK} {A : Option Addr} {n c : Nat} {o : Obj} (hv : OwR w5 46 7 lf v' (ls ++ [y])) (hg : (w4.alloc o).grownBy w5 (Value.slice A n c).ownBlock) (hb : v'.ownBlock = (Value.slice A n c).ownBlock ∨ v'.ownBlock = some (w4.alloc o).heap.size) (hn : n = ls.length) (hT : TB w4 g v ls) (e : v = .slice A n c) :
    ∃ A' c', v' = .slice A' (n + 1) c' ∧ Hid (Blk w5 g 29 #[.slice A n c] ∧ OwR w5 46 7 lf (.slice A' (n + 1) c') (ls ++ [y]) ∧ Fr w4 w5 (fun b => v.ownBlock = some b) ∧ ∀ b, (Value.slice A' (n + 1) c').ownBlock = some b → v.ownBlock = some b ∨ w4.heap.size ≤ b) := by
  obtain ⟨A', c', e', _⟩ := hv.form
  rw [List.length_append, List.length_singleton, ← hn] at e'
  subst e'
  subst e
  refine ⟨A', c', rfl, ⟨?_, hv, ?_, fun b hb' => ?_⟩⟩
  · exact (hT.blk.alloc o).grown hg fun h => hT.ne h.symm
  · exact ((Fr.refl w4 _).alloc o).grown hg fun k hk => Or.inl hk
  · rcases hb with hb | hb
    · exact Or.inl (by rw [← hb]; exact hb')
    · rw [hb] at hb'; injection hb' with hb'; right; rw [← hb']; simp
/-- the row with one more is laid into the table; then hold -/
theorem ask_hold {w W w4 w5 : World} {g : Nat} {v : Value} {ls : List LK} {y : LK} {A A' : Option Addr} {n c c' : Nat} (hT : TB w g v ls) (hg : Gw w) (hb : RowKit.Below w.heap.size w W) (hb4 : RowKit.Below W.heap.size W w4) (hy : y.Ok) (hn : n = ls.length) (hl : ls.length < 16384)
    (h5 : Blk w5 g 29 #[.slice A n c] ∧ OwR w5 46 7 lf (.slice A' (n + 1) c') (ls ++ [y]) ∧ Fr w4 w5 (fun b => v.ownBlock = some b) ∧ ∀ b, (Value.slice A' (n + 1) c').ownBlock = some b → v.ownBlock = some b ∨ w4.heap.size ≤ b) :
    Calls Tryd.prog 40 #[.pointer (some ⟨g, 0, none⟩), .int .i64 (n : Int)] (w5.setCell ⟨g, 0, none⟩ (.slice A' (n + 1) c')) fun e w' => e = .returned (.bool (freeM (ls ++ [y]) ls.length)) ∧ Chg w w' g v (.slice A' (n + 1) c') (setH (ls ++ [y]) ls.length (freeM (ls ++ [y]) ls.length)) := by
  obtain ⟨hk, ho, hf, hw⟩ := h5
  obtain ⟨w6, hw6⟩ : ∃ w6, w5.setCell ⟨g, 0, none⟩ (.slice A' (n + 1) c') = w6 := ⟨_, rfl⟩
  have hb04 := below_trans hb hb4
  have h46 : Fr w5 w6 (fun b => b = g) := by rw [← hw6]; exact fr_set (Fr.refl _ _) 0 _
  have hgl := hT.blk.lt
  have hne : ∀ b, (Value.slice A' (n + 1) c').ownBlock = some b → ¬ b = g := fun b hb' e => by
    subst e
    exact Blk.own_ne hk ho (by decide) hb'.symm
  have hTB : TB w6 g (.slice A' (n + 1) c') (ls ++ [y]) := by
    refine ⟨by rw [← hw6]; exact hk.set_ 0 _, ho.keep h46 hne, fun l hl' => ?_, by rw [List.length_append, List.length_singleton]; omega, hT.g2, fun b hb' => ?_⟩
    · rcases List.mem_append.1 hl' with hl' | hl'
      · exact hT.ok l hl'
      · rw [List.mem_singleton.1 hl']; exact hy
    · rcases hw b hb' with h | h
      · exact hT.v2 b h
      · have := hb04.size; have := hT.g2; omega
  have hC : Chg w w6 g v (.slice A' (n + 1) c') (ls ++ [y]) := by
    refine ⟨hTB, ?_, fun b hb' => ?_⟩
    · exact ((Fr.of_below hb04 (fun b => b = g ∨ v.ownBlock = some b)).same (hf.mono fun b _ h => Or.inr h)).same (h46.mono fun b _ h => Or.inl h)
    · rcases hw b hb' with h | h
      · exact Or.inl h
      · exact Or.inr (Nat.le_trans hb04.size h)
  rw [hw6]
  subst hn
  refine (hold_any g _ _ w6 hTB (hC.gw hT hg) ls.length (by simp)).mono fun e w' ⟨he, hc⟩ => ⟨he, hc.tb, ?_, fun b hb' => hC.own b hb'⟩
  refine hC.fr.trans hc.fr fun b hb' => ?_
  rcases hb' with hb' | hb'
  · exact Or.inl (Or.inl hb')
  · exact (hC.own b hb').imp Or.inr id
set_option maxRecDepth 100000 in
set_option maxHeartbeats 4000000 in
theorem ask_new (t : Nat) (x : Th) (m : Int) (g : Nat) (v : Value) (ls : List LK) (w : World) (hT : TB w g v ls) (hg : Gw w) (ht : t < 4294967296) (hi : x.i < 4294967296)
    (h1 : (t == 0 || !mayM x m) = false) (h2 : ls.any (waitsP t) = false) (h3 : hasM t x m ls = false) (h4 : ls.length < 16384) :
    Calls Tryd.prog 20 #[.pointer (some ⟨g, 0, none⟩), .int .u32 (t : Int), x.agg, .int .i64 m] w (AskO w g v (askM t x m ls)) := by
  rw [Bool.or_eq_false_iff, Bool.not_eq_false'] at h1
  have hsz := mayM_size h1.2
  have hmo := mayM_mode h1.2
  have hA : x.a.size ≤ 9223372036854775807 := by omega
  have hB : x.b.size ≤ 9223372036854775807 := by omega
  have HOK : Hid (LK.Ok ⟨t, x, m, false⟩) := Lib.hid ⟨ht, hi, hA, hB, hmo.1, hmo.2⟩
  obtain ⟨W, hW, hb, b1, b2⟩ := boxes2 w t x
  have HT := Lib.hid hT
  have HG := Lib.hid hg
  have HB := Lib.hid hb
  have H1 := Lib.hid b1
  obtain ⟨A, c, hv, hc, h0, hTR⟩ := hT.tr
  have HM := Lib.hid (may_any x m hA hB W)
  have HS := Lib.hid (fun (W' : World) (h : RowKit.Below W.heap.size W W') => some_any 43 (Or.inl rfl) #[.pointer (some ⟨w.heap.size, 0, none⟩)] (waitsP t) g A c ls W' (hTR.up (below_trans hb h)) (fun k l b hl e W2 h2 => askP_any t _ l b _ W2 (by
      obtain ⟨b2, e2, hc⟩ := hTR.row k l hl
      obtain rfl : b2 = b := by rw [e2] at e; injection e with e; injection e
      exact (hc.up (below_trans hb h)).up h2) ((H1.out.below (below_trans h h2) H1.out.lt).cell 0)))
  have HH := Lib.hid (fun (W' : World) (h : RowKit.Below W.heap.size W W') => has_any g A c ls W' (hTR.up (below_trans hb h)) (hg.below (below_trans hb h)) t x m hA hB)
  have HCO := Lib.hid (fun (W' : World) => copied_any x W' (by omega) (by omega))
  have HX := Lib.hid b2
  obtain ⟨c0, c1, c2, c3⟩ := blk36 b2
  have d0 := b1.cell 0
  have HTB := Lib.hid (hT.up hb)
  have HVL := Lib.hid (show ∀ b, v.ownBlock = some b → b < w.heap.size from fun b e => hT.own.lt e)
  have HGL := Lib.hid hT.blk.lt
  simp only [List.getElem?_toArray, List.getElem?_cons_zero] at d0
  have HE := Lib.hid (show askM t x m ls = ((freeM (ls ++ [⟨t, x, m, false⟩]) ls.length, 0), setH (ls ++ [⟨t, x, m, false⟩]) ls.length (freeM (ls ++ [⟨t, x, m, false⟩]) ls.length)) by
    unfold askM
    rw [if_neg (by rw [h1.1, h1.2]; decide), if_neg (by rw [h2]; decide), if_neg (by rw [h3]; decide), if_neg (by omega)])
  rw [h1.2] at HM
  rw [h2] at HS
  rw [h3] at HH
  have hz2 : ((t : Int) == 0) = false := by rw [← h1.1]; exact nbeq t 0
  obtain ⟨n, hn⟩ : ∃ n, n = ls.length := ⟨_, rfl⟩
  have HN := Lib.hid hn
  have hs2 : decide ((n : Int) ≥ 16384) = false := decide_eq_false (by omega)
  have HF := Lib.hid h4
  have hvn : v = .slice A n c := by rw [hv, hn]
  have HV := Lib.hid hvn
  have HL := Lib.hid (show ∀ W' : World, RowKit.Below W.heap.size W W' → W'.cell? ⟨g, 0, none⟩ = some (.slice A n c) from fun W' h => by
    have := ((hT.up hb).up h).blk.cell 0
    simp only [List.getElem?_toArray, List.getElem?_cons_zero] at this
    rw [this, hvn])
  unfold AskO
  obtain ⟨xr, xi, xa, xb⟩ := x
  simp only [Th.agg, box36, tcs] at hW HM HH HCO c0 c1 c2 c3 ⊢
  have hgl := hT.blk.lt
  have g1 : ¬ g = w.heap.size := by omega
  have g2 : ¬ w.heap.size = g := by omega
  have g3 : ¬ g = w.heap.size + 1 := by omega
  have g4 : ¬ w.heap.size + 1 = g := by omega
  clear hgl hb b1 b2 hT hg hA hB hTR h0 hc hn h1 h2 h3 h4 hv hvn hsz hmo ht hi
  go_enter Tryd.func20, Tryd.ntmps20
  go_upto_region 1 with fail
  clear hW
  go_upto_region 10 with (first
      | (go_at_call 41; with_reducible refine HM.out.mono ?_; rintro e w1 ⟨rfl, hb1⟩; have HB1 := Lib.hid hb1; obtain ⟨c0, c1, c2, c3⟩ := blk36 (HX.out.below hb1 HX.out.lt); have d0 := (H1.out.below hb1 H1.out.lt).cell 0; simp only [List.getElem?_toArray, List.getElem?_cons_zero] at d0; clear hb1)
      | (go_at_call 42; with_reducible refine (HS.out _ HB1.out).mono ?_; rintro e w2 ⟨rfl, hb2⟩; have HB2 := Lib.hid (below_trans HB1.out hb2); obtain ⟨c0, c1, c2, c3⟩ := blk36 (HX.out.below HB2.out HX.out.lt); have d0 := (H1.out.below HB2.out H1.out.lt).cell 0; simp only [List.getElem?_toArray, List.getElem?_cons_zero] at d0; clear hb2)
      | (go_at_call 21; with_reducible refine (HH.out _ HB2.out).mono ?_; rintro e w3 ⟨rfl, hb3⟩; have HB3 := Lib.hid (below_trans HB2.out hb3); have t0 := HL.out _ HB3.out; obtain ⟨c0, c1, c2, c3⟩ := blk36 (HX.out.below HB3.out HX.out.lt); have d0 := (H1.out.below HB3.out H1.out.lt).cell 0; simp only [List.getElem?_toArray, List.getElem?_cons_zero] at d0; clear hb3))
  go_region_law (first
    | (refine step_appR K46 lf_len lf_one rfl (.tmp 46) (.tmp 52) rfl (.slice A n c) ls rfl HO4.out (some ⟨w4.heap.size, 0, none⟩) 1 1 [⟨t, ⟨xr, xi, xa, xb⟩, m, false⟩] rfl rfl HR4.out (by have := HF.out; omega) (by have := HF.out; omega) ?_; intro v' w5 hv5 hg5 hb5; obtain ⟨A', c', hvf, HV5⟩ := app_form hv5 hg5 hb5 HN.out (HTB.out.up HB4.out) HV.out; rw [hvf]; clear hv5 hg5 hb5 hvf; have HFW := Lib.hid ((Fr.of_below HB4.out (fun b => v.ownBlock = some b)).same HV5.out.2.2.1); obtain ⟨c0, c1, c2, c3⟩ := blk36 (HX.out.keep HFW.out fun e => by have := HVL.out _ e; omega); have d0 := (H1.out.keep HFW.out fun e => by have := HVL.out _ e; omega).cell 0; simp only [List.getElem?_toArray, List.getElem?_cons_zero] at d0; have t5 := HV5.out.1.cell 0; have f5 := HV5.out.1.frozen 0; simp only [List.getElem?_toArray, List.getElem?_cons_zero] at t5)
    | (go_simp; go_wp2_with (go_at_call 44; with_reducible refine (HCO.out _).mono ?_; rintro e w4 ⟨rfl, hb4⟩; have HB4 := Lib.hid (below_trans HB3.out (below_drew hb4)); have HO4 := Lib.hid (show OwR (w4.alloc (.cells #[.int .u32 (t : Int), .bool xr, .int .u32 (xi : Int), .string xa, .string xb, .int .i64 m, .bool false] 46)) 46 7 lf (.slice A n c) ls from by have := (HTB.out.up HB4.out).own.up ((Below.refl _ _).alloc (Nat.le_refl _) (.cells #[.int .u32 (t : Int), .bool xr, .int .u32 (xi : Int), .string xa, .string xb, .int .i64 m, .bool false] 46)); rwa [HV.out] at this); have HR4 := Lib.hid (one_app (f := lf) (k := 7) w4 46 ⟨t, ⟨xr, xi, xa, xb⟩, m, false⟩); have t0 := HL.out _ HB4.out; have lg4 := block_lt_of_cell t0; obtain ⟨c0, c1, c2, c3⟩ := blk36 (HX.out.below HB4.out HX.out.lt); have d0 := (H1.out.below HB4.out H1.out.lt).cell 0; simp only [List.getElem?_toArray, List.getElem?_cons_zero] at d0; clear hb4)))
  all_goals
    have HHO := Lib.hid (ask_hold HT.out HG.out HB.out HB4.out HOK.out HN.out HF.out HV5.out)
    go_wp2_with (go_at_call 40; with_reducible refine HHO.out.mono ?_; rintro e w7 ⟨rfl, hch⟩; have HCH := Lib.hid hch; clear hch)
    go_ret2
    rw [HE.out]
    exact ⟨rfl, _, HCH.out⟩
end Go.Proofs.YtlblgfpafdfilaaDoor
