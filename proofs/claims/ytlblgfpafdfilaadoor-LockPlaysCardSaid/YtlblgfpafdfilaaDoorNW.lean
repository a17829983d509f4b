/-
STAGE 12: the document's Release.
-/
import Derived.Test.YtlblgfpafdfilaaDoorNS
namespace Go.Proofs.YtlblgfpafdfilaaDoor
open Go.RowKit Go.Sort

/-- the document's table, whose row is its own -/
structure DB (w : World) (g : Nat) (v : Value) (ls : List LK) : Prop where
  blk : Blk w g 32 #[v]
  own : OwR w 46 7 lf v ls
  ok : ∀ l ∈ ls, l.Ok
  few : ls.length ≤ 16384
theorem DB.tr {w : World} {g : Nat} {v : Value} {ls : List LK} (h : DB w g v ls) : ∃ A c, v = .slice A ls.length c ∧ c ≤ maxLen ∧ (A = none → ls = []) ∧ RT w g A c ls := by
  obtain ⟨A, c, rfl, hc, hm, h0, _⟩ := h.own.form
  refine ⟨A, c, rfl, hm, fun e => List.eq_nil_of_length_eq_zero (h0 e), h.blk, fun i l hi => ?_, h.ok, h.few, hc⟩
  obtain ⟨b, c', e, _, hat⟩ := h.own.at_ lf_len hi
  injection e with e1 e2 e3
  exact ⟨b, e1, hat 0 _ rfl, hat 1 _ rfl, hat 2 _ rfl, hat 3 _ rfl, hat 4 _ rfl, hat 5 _ rfl, hat 6 _ rfl⟩
theorem DB.up {w w' : World} {g : Nat} {v : Value} {ls : List LK} (h : DB w g v ls) (hb : RowKit.Below w.heap.size w w') : DB w' g v ls :=
  ⟨h.blk.below hb h.blk.lt, h.own.up hb, h.ok, h.few⟩
theorem DB.ne {w : World} {g : Nat} {v : Value} {ls : List LK} (h : DB w g v ls) : v.ownBlock ≠ some g := fun e => Blk.own_ne h.blk h.own (by decide) e.symm
theorem DB.keep {w w' : World} {g : Nat} {v : Value} {ls : List LK} {S : Nat → Prop} (h : DB w g v ls) (hf : Fr w w' S) (h1 : ¬ S g) (h2 : ∀ b, v.ownBlock = some b → ¬ S b) : DB w' g v ls :=
  ⟨h.blk.keep hf h1, h.own.keep hf h2, h.ok, h.few⟩
/-- the table changed: nothing else -/
structure DChg (w w' : World) (g : Nat) (v v' : Value) (ls' : List LK) : Prop where
  tb : DB w' g v' ls'
  fr : Fr w w' fun b => b = g ∨ v.ownBlock = some b
  own : ∀ b, v'.ownBlock = some b → v.ownBlock = some b ∨ w.heap.size ≤ b
/-- a row in new memory, while it grows -/
structure NR {α : Type} (e : TypeId) (k : Nat) (f : α → List Value) (w wr : World) (v : Value) (acc : List α) : Prop where
  own : OwR wr e k f v acc
  new : ∀ b, v.ownBlock = some b → w.heap.size ≤ b
  bel : RowKit.Below w.heap.size w wr
section
variable {α : Type} {e : TypeId} {k : Nat} {f : α → List Value} {w wr w2 w3 : World} {v v' : Value} {acc acc' : List α}
theorem NR.up (h : NR e k f w wr v acc) (hb : RowKit.Below wr.heap.size wr w2) : NR e k f w w2 v acc := ⟨h.own.up hb, h.new, h.bel.trans (hb.mono h.bel.size)⟩
theorem NR.more (h : NR e k f w wr v acc) (hb2 : RowKit.Below wr.heap.size wr w2) (ho : OwR w3 e k f v' acc') (hg : w2.grownBy w3 v.ownBlock) (hb : v'.ownBlock = v.ownBlock ∨ v'.ownBlock = some w2.heap.size) : NR e k f w w3 v' acc' := by
  have hs := h.bel.size
  have hs2 := hb2.size
  refine ⟨ho, fun b hb' => ?_, ?_⟩
  · rcases hb with hb | hb
    · exact h.new b (by rw [← hb]; exact hb')
    · rw [hb] at hb'; injection hb' with hb'; rw [← hb']; omega
  · exact (h.bel.trans (hb2.mono hs)).trans (below_grown_ hg (fun b hb => h.new b hb) (by omega))
end
/-- the pass so far -/
structure RelD (w : World) (g : Nat) (v' : Value) (st : List LK × List Nat) (vo : Value) (wr : World) : Prop where
  tb : DB wr g v' st.1
  own : ∀ b, v'.ownBlock = some b → w.heap.size ≤ b
  got : OwR wr 34 1 uf vo st.2
  new : ∀ b, vo.ownBlock = some b → w.heap.size ≤ b
  fr : Fr w wr fun b => b = g
theorem RelD.up {w wr w2 : World} {g : Nat} {v' vo : Value} {st : List LK × List Nat} (h : RelD w g v' st vo wr) (hb : RowKit.Below wr.heap.size wr w2) : RelD w g v' st vo w2 :=
  ⟨h.tb.up hb, h.own, h.got.up hb, h.new, h.fr.same (Fr.of_below hb _)⟩
theorem RelD.hold {w wr : World} {g b n c p : Nat} {vo : Value} {st : List LK × List Nat} {q : LK} (h : RelD w g (.slice (some ⟨b, 0, none⟩) n c) st vo wr) (hq : st.1[p]? = some q) : RelD w g (.slice (some ⟨b, 0, none⟩) n c) (setH st.1 p true, st.2) vo (wr.setCell ⟨b, p * 7 + 6, none⟩ (.bool true)) := by
  have hb : w.heap.size ≤ b := h.own b rfl
  have hn : n = st.1.length := by
    obtain ⟨A, c', e, _⟩ := h.tb.own.form
    injection e
  have hf : Fr wr (wr.setCell ⟨b, p * 7 + 6, none⟩ (.bool true)) (fun x => x = b) := Fr.setCell (S := fun x => x = b) (Fr.refl _ _) (p := ⟨b, p * 7 + 6, none⟩) (Or.inl rfl) _
  have hgb : g ≠ b := fun e => h.tb.ne (by rw [e]; rfl)
  have hqo := h.tb.ok q (List.mem_of_getElem? hq)
  have hown : OwR (wr.setCell ⟨b, p * 7 + 6, none⟩ (.bool true)) 46 7 lf (.slice (some ⟨b, 0, none⟩) n c) (setH st.1 p true) := by
    subst hn
    have := h.tb.own.set_ lf_len (i := p) (j := 6) (x := q) (y := { q with h := true }) (u := .bool true) hq (by decide) rfl
    unfold setH
    rw [getD_of hq]
    exact this
  refine ⟨⟨h.tb.blk.keep hf hgb, hown, fun l hl => ?_, by rw [setH_len]; exact h.tb.few⟩, h.own, h.got.keep hf fun x hx e => ?_, h.new, h.fr.trans hf fun x hx => Or.inr (by rw [hx]; exact hb)⟩
  · obtain ⟨k, hk⟩ := List.getElem?_of_mem hl
    rw [setH_at hq] at hk
    by_cases e : k = p
    · rw [if_pos e] at hk
      injection hk with hk
      rw [← hk]
      exact ⟨hqo.t, hqo.i, hqo.a, hqo.b, hqo.m1, hqo.m4⟩
    · rw [if_neg e] at hk
      exact h.tb.ok l (List.mem_of_getElem? hk)
  · exact own_apart h.got h.tb.own (by decide) x hx (by rw [e]; rfl)
theorem RelD.app {w wr w2 : World} {g x : Nat} {v' vo vo' : Value} {ls : List LK} {got : List Nat} {o : Obj} (h : RelD w g v' (ls, got) vo wr) (ho : OwR w2 34 1 uf vo' (got ++ [x])) (hg : (wr.alloc o).grownBy w2 vo.ownBlock) (hb : vo'.ownBlock = vo.ownBlock ∨ vo'.ownBlock = some (wr.alloc o).heap.size) : RelD w g v' (ls, got ++ [x]) vo' w2 := by
  have hs := h.fr.size
  have hf : Fr wr w2 (fun b => vo.ownBlock = some b) := ((Fr.refl wr _).alloc o).grown hg fun k hk => Or.inl hk
  refine ⟨h.tb.keep hf (fun e => Blk.own_ne h.tb.blk h.got (by decide) e.symm) (fun b hb' e => own_apart h.got h.tb.own (by decide) b e hb'), h.own, ho, fun b hb' => ?_, h.fr.trans hf fun b e => Or.inr (h.new b e)⟩
  rcases hb with hb | hb
  · exact h.new b (by rw [← hb]; exact hb')
  · rw [hb] at hb'
    injection hb' with hb'
    rw [← hb']
    simp
    omega
theorem filter_take {ls : List LK} {P : LK → Bool} {k : Nat} {l : LK} (h : ls[k]? = some l) : (ls.take (k + 1)).filter P = if P l = true then (ls.take k).filter P ++ [l] else (ls.take k).filter P := by
  obtain ⟨hk, e⟩ := List.getElem?_eq_some_iff.1 h
  rw [List.take_succ_eq_append_getElem hk, List.filter_append, e]
  cases hP : P l <;> simp [hP]
set_option maxRecDepth 100000 in
set_option maxHeartbeats 8000000 in
theorem rrelease_any (t g : Nat) (v : Value) (ls : List LK) (w : World) (hT : DB w g v ls) (hI : Inv ls) :
    Calls Tryd.prog 28 #[.pointer (some ⟨g, 0, none⟩), .int .u32 (t : Int)] w fun e w' => ∃ vo v', e = .returned vo ∧ RelD w g v' (releaseM t ls) vo w' := by
  obtain ⟨A, c, rfl, _, h0, hTR⟩ := hT.tr
  have HT := Lib.hid hT
  have HTR := Lib.hid hTR
  have HI := Lib.hid hI
  have HF := Lib.hid hT.few
  obtain ⟨n, hn⟩ : ∃ n, ls.length = n := ⟨_, rfl⟩
  have HN := Lib.hid hn
  rw [hn] at HT
  clear hT hI h0 hTR hn
  go_enter Tryd.func28, Tryd.ntmps28
  go_upto_region 3 with fail
  go_loopw [5, 6] (fun vl i wr => ∃ k : Nat, k ≤ n ∧ i = .int .i64 (k : Int) ∧ NR 46 7 lf w wr vl ((ls.take k).filter fun l => !(l.t == t))) (fun _ i _ => n - (intOf i).toNat)
  case atStart => exact ⟨0, by omega, rfl, OwR.nil_ _ _ _ _, fun b hb => by simp [Value.ownBlock] at hb, Below.refl _ _⟩
  case round =>
    obtain ⟨k, hk, rfl, hr⟩ := hrel
    have HR := Lib.hid hr
    have c0 := (HTR.out.up hr.bel).blk.cell 0
    have f0 := (HTR.out.up hr.bel).blk.frozen 0
    simp only [List.getElem?_toArray, List.getElem?_cons_zero] at c0
    rw [HN.out] at c0
    by_cases hlt : k < n
    · have hl : ls[k]? = some (ls[k]'(by have := HN.out; omega)) := List.getElem?_eq_getElem _
      generalize ls[k]'(by have := HN.out; omega) = l at hl
      obtain ⟨b, rfl, hcs⟩ := HTR.out.row k l hl
      obtain ⟨z0, z1, z2, z3, z4, z5, z6⟩ := hcs.up hr.bel
      have hin : ((k : Int) < (n : Int)) := by omega
      have e1 : IntKind.i64.wrap ((k : Int) + 1) = ((k + 1 : Nat) : Int) := by rw [IntWalk.i64_in _ (by have := HF.out; have := HN.out; omega)]; omega
      have HS := Lib.hid (filter_take (P := fun l => !(l.t == t)) hl)
      have HLN := Lib.hid (show ((ls.take k).filter fun l => !(l.t == t)).length ≤ 16384 from Nat.le_trans (List.length_filter_le _ _) (by rw [List.length_take]; have := HF.out; omega))
      have d1 : ((l.t : Int) != (t : Int)) = !(l.t == t) := congrArg (!·) (nbeq l.t t)
      obtain ⟨u, hu⟩ : ∃ u, (l.t == t) = u := ⟨_, rfl⟩
      rw [hu] at d1 HS
      generalize ((ls.take k).filter fun l => !(l.t == t)) = acc at HS HR HLN
      have HO := Lib.hid (show OwR (wr.alloc (.cells #[.int .u32 (l.t : Int), .bool l.x.r, .int .u32 (l.x.i : Int), .string l.x.a, .string l.x.b, .int .i64 l.m, .bool l.h] 46)) 46 7 lf u5 acc from HR.out.own.up ((Below.refl _ _).alloc (Nat.le_refl _) _))
      have HR3 := Lib.hid (one_app_ (f := lf) (k := 7) wr 46 l)
      clear hl hcs hr hu
      cases u with
      | true =>
        go_wp2_with fail
        go_roundw
        case rel => exact ⟨k + 1, by omega, by go_num, by rw [HS.out, if_neg (by decide)]; exact HR.out⟩
        case measure => simp [intOf]; omega
      | false =>
        go_wp2_with (at_builtin; go_must (refine wpList_appR K46 lf_len lf_one rfl (.tmp 28) (.tmp 36) rfl u5 acc rfl HO.out (some ⟨wr.heap.size, 0, none⟩) 1 1 [l] rfl rfl HR3.out (by have := HLN.out; omega) (by have := HLN.out; omega) ?_); intro v' w4 hv4 hg4 hb4; have HR4 := Lib.hid (HR.out.more ((Below.refl _ _).alloc (Nat.le_refl _) _) hv4 hg4 hb4); clear hv4 hg4 hb4)
        go_roundw
        case rel => exact ⟨k + 1, by omega, by go_num, by rw [HS.out, if_pos (by decide)]; exact HR4.out⟩
        case measure => simp [intOf]; omega
    · obtain rfl : k = n := by omega
      have hin : ¬ ((k : Int) < (k : Int)) := by omega
      have hK : ((ls.take k).filter fun l => !(l.t == t)) = keptM t ls := by rw [← HN.out, List.take_length]; rfl
      rw [hK] at HR
      obtain ⟨A', c', hu5, _⟩ := HR.out.own.form
      obtain ⟨n2, hn2⟩ : ∃ n2, (keptM t ls).length = n2 := ⟨_, rfl⟩
      rw [hn2] at hu5
      subst hu5
      have HN2 := Lib.hid hn2
      clear hn2
      obtain ⟨w5, hw5⟩ : ∃ w5, w5 = wr := ⟨_, rfl⟩
      subst hw5
      obtain ⟨w6, hw6⟩ : ∃ w6, w5.setCell ⟨g, 0, none⟩ (.slice A' n2 c') = w6 := ⟨_, rfl⟩
      have h6 : RelD w g (.slice A' n2 c') (keptM t ls, []) (.slice none 0 0) w6 := by
        have hk1 := HTR.out.blk.below HR.out.bel HTR.out.blk.lt
        have hs : Fr w5 w6 (fun b => b = g) := by rw [← hw6]; exact fr_set (Fr.refl _ _) 0 _
        refine ⟨⟨by rw [← hw6]; exact hk1.set_ 0 _, HR.out.own.keep hs fun b hb e => ?_, fun l hl => HTR.out.ok l (List.mem_filter.1 hl).1, Nat.le_trans (List.length_filter_le _ _) HTR.out.few⟩, HR.out.new, OwR.nil_ _ _ _ _, fun b h => by simp [Value.ownBlock] at h, (Fr.of_below HR.out.bel _).same hs⟩
        subst e
        have := HR.out.new _ hb
        have := HTR.out.blk.lt
        omega
      have H6 := Lib.hid h6
      clear h6 hr hK
      go_upto_region 8 with fail
      clear hw6 c0 f0
      have HIK := Lib.hid (HI.out.kept t)
      have HSL := Lib.hid (show ∀ i, (passM (keptM t ls) i).1.length = n2 ∧ (passM (keptM t ls) i).2.length ≤ i from fun i => by rw [← HN2.out]; exact passM_len _ i)
      have HNF := Lib.hid (show n2 ≤ 16384 by have := H6.out.tb.few; rwa [HN2.out] at this)
      have HEQ := Lib.hid (show releaseM t ls = passM (keptM t ls) n2 by rw [← HN2.out]; rfl)
      have HIP := Lib.hid (show ∀ i, i ≤ n2 → Inv (passM (keptM t ls) i).1 from fun i hi => (inv_pass HIK.out i (by rw [HN2.out]; exact hi)).1)
      generalize keptM t ls = K at H6 HSL HEQ HIP
      go_upto_region 10 with fail
      go_loopw [7, 8] (fun vo i wr => ∃ j : Nat, j ≤ n2 ∧ i = .int .i64 (j : Int) ∧ RelD w g (.slice A' n2 c') (passM K j) vo wr) (fun _ i _ => n2 - (intOf i).toNat)
      case atStart => exact ⟨0, by omega, rfl, H6.out⟩
      case round =>
        obtain ⟨j, hj, rfl, hrd⟩ := hrel
        have HRD := Lib.hid hrd
        by_cases hlt2 : j < n2
        · have hl : (passM K j).1[j]? = some ((passM K j).1[j]'(by have := (HSL.out j).1; omega)) := List.getElem?_eq_getElem _
          generalize (passM K j).1[j]'(by have := (HSL.out j).1; omega) = l at hl
          obtain ⟨A2, c2, he2, _, _, hTR2⟩ := hrd.tb.tr
          rw [(HSL.out j).1] at he2
          injection he2 with he2 _ he3
          subst he2 he3
          obtain ⟨b, rfl, hcs⟩ := hTR2.row j l hl
          obtain ⟨z0, z1, z2, z3, z4, z5, z6⟩ := hcs
          have c0 := hrd.tb.blk.cell 0
          simp only [List.getElem?_toArray, List.getElem?_cons_zero] at c0
          have hin2 : ((j : Int) < (n2 : Int)) := by omega
          have e2 : IntKind.i64.wrap ((j : Int) + 1) = ((j + 1 : Nat) : Int) := by rw [IntWalk.i64_in _ (by have := HNF.out; omega)]; omega
          have HPS := Lib.hid (passM_succ K j)
          have HGD := Lib.hid (getD_of hl)
          have HLJ := Lib.hid hl
          have HFO := Lib.hid (for_any g (some ⟨b, 0, none⟩) c' (passM K j).1 wr hTR2 (HIP.out j (by omega)).good j (by have := (HSL.out j).1; omega))
          have HFN := Lib.hid (forM_nil (passM K j).1 j)
          have HFL := Lib.hid (forTo_len (passM K j).1 ((passM K j).1.getD j okz) j (passM K j).1.length)
          clear hl hrd hTR2
          cases hh : l.h with
          | true =>
            rw [hh] at z6
            have HP := Lib.hid (show passM K (j + 1) = passM K j by rw [HPS.out]; unfold relS; rw [HGD.out, if_pos hh])
            clear hh
            go_wp2_with fail
            go_roundw
            case rel => exact ⟨j + 1, by omega, by go_num, by rw [HP.out]; exact HRD.out⟩
            case measure => simp [intOf]; omega
          | false =>
            rw [hh] at z6
            have HHH := Lib.hid hh
            clear hh
            obtain ⟨fr, hfr⟩ : ∃ fr, freeM (passM K j).1 j = fr := ⟨_, rfl⟩
            have HFR := Lib.hid hfr
            have HGET := Lib.hid (fun (m : Nat) (h : (forM (passM K j).1 j).length = m) => show ((m : Int) == 0) = fr by
              rw [show ((m : Int) == 0) = (m == 0) from nbeq m 0, ← h, ← hfr, Bool.eq_iff_iff, beq_iff_eq, List.length_eq_zero_iff]
              exact HFN.out)
            clear hfr
            have HRG := Lib.hid (fun W' (hW : RowKit.Below wr.heap.size wr W') => (HRD.out.up hW))
            go_upto_region 12 with fail
            cases fr with
            | false =>
              have HP := Lib.hid (show passM K (j + 1) = passM K j by
                rw [HPS.out]
                unfold relS
                rw [HGD.out, if_neg (by rw [HHH.out]; exact Bool.false_ne_true), HFR.out, if_neg Bool.false_ne_true]
                have := setH_same HLJ.out
                rw [HHH.out] at this
                rw [this])
              go_wp2_with (go_at_call 34; with_reducible refine HFO.out.mono ?_; rintro e w7 ⟨vf, rfl, hun⟩; obtain ⟨Af, cf, hvf, _⟩ := hun.own.form; obtain ⟨mf, hmf⟩ : ∃ mf, (forM (passM K j).1 j).length = mf := ⟨_, rfl⟩; rw [hmf] at hvf; subst hvf; have hz := HGET.out mf hmf; have HB7 := Lib.hid hun.bel; clear hun hmf)
              go_roundw
              case rel => exact ⟨j + 1, by omega, by go_num, by rw [HP.out]; exact HRD.out.up HB7.out⟩
              case measure => simp [intOf]; omega
            | true =>
              have HP := Lib.hid (show passM K (j + 1) = (setH (passM K j).1 j true, (passM K j).2 ++ [l.t]) by
                rw [HPS.out]
                unfold relS
                rw [HGD.out, if_neg (by rw [HHH.out]; exact Bool.false_ne_true), HFR.out, if_pos rfl])
              go_upto_region 13 with (go_at_call 34; with_reducible refine HFO.out.mono ?_; rintro e w7 ⟨vf, rfl, hun⟩; obtain ⟨Af, cf, hvf, _⟩ := hun.own.form; obtain ⟨mf, hmf⟩ : ∃ mf, (forM (passM K j).1 j).length = mf := ⟨_, rfl⟩; rw [hmf] at hvf; subst hvf; have hz := HGET.out mf hmf; have HB7 := Lib.hid hun.bel; clear hun hmf)
              have H7 := Lib.hid (HRG.out w7 HB7.out)
              have c0 := H7.out.tb.blk.cell 0
              simp only [List.getElem?_toArray, List.getElem?_cons_zero] at c0
              have f6 := H7.out.tb.own.frozen (j * 7 + 6)
              have y6 := (HB7.out.cell (block_lt_of_cell z6)).trans z6
              have y0 := (HB7.out.cell (block_lt_of_cell z0)).trans z0
              obtain ⟨w8, hw8⟩ : ∃ w8, w7.setCell ⟨b, j * 7 + 6, none⟩ (.bool true) = w8 := ⟨_, rfl⟩
              have h8 := H7.out.hold HLJ.out
              rw [hw8] at h8
              have H8 := Lib.hid h8
              have x0 : w8.cell? ⟨b, j * 7, none⟩ = some (.int .u32 (l.t : Int)) := by
                rw [← hw8, World.cell?_setCell_other _ _ _ _ (by simp)]
                exact y0
              clear h8 z0 z1 z2 z3 z4 z5 z6
              go_upto_region 14 with fail
              clear hw8 c0 f6 y6 y0
              have c0 := H8.out.tb.blk.cell 0
              simp only [List.getElem?_toArray, List.getElem?_cons_zero] at c0
              have HO9 := Lib.hid (show OwR (w8.alloc (.cells #[.int .u32 (l.t : Int)] 34)) 34 1 uf u7 (passM K j).2 from H8.out.got.up ((Below.refl _ _).alloc (Nat.le_refl _) _))
              have HR9 := Lib.hid (one_app_ (f := uf) (k := 1) w8 34 l.t)
              have HLO := Lib.hid (show (passM K j).2.length ≤ 16384 by have := (HSL.out j).2; have := HNF.out; omega)
              go_wp2_with (at_builtin; go_must (refine wpList_appR K34 uf_len uf_one rfl (.tmp 74) (.tmp 83) rfl u7 (passM K j).2 rfl HO9.out (some ⟨w8.heap.size, 0, none⟩) 1 1 [l.t] rfl rfl HR9.out (by have := HLO.out; omega) (by have := HLO.out; omega) ?_); intro v' w9 hv9 hg9 hb9; have H9 := Lib.hid (H8.out.app hv9 hg9 hb9); clear hv9 hg9 hb9)
              go_roundw
              case rel => exact ⟨j + 1, by omega, by go_num, by rw [HP.out]; exact H9.out⟩
              case measure => simp [intOf]; omega
        · obtain rfl : j = n2 := by omega
          have hin2 : ¬ ((j : Int) < (j : Int)) := by omega
          have c0 := hrd.tb.blk.cell 0
          simp only [List.getElem?_toArray, List.getElem?_cons_zero] at c0
          clear hrd
          go_wp2_with fail
          go_ret
          exact ⟨_, rfl, _, by rw [HEQ.out]; exact HRD.out⟩
end Go.Proofs.YtlblgfpafdfilaaDoor
