/-
STAGE 12: LockRings, its walk.
-/
import Derived.Test.YtlblgfpafdfilaaDoorNO
import Derived.Test.YtlblgfpafdfilaaDoorNR
import Derived.Test.YtlblgfpafdfilaaDoorNI
namespace Go.Proofs.YtlblgfpafdfilaaDoor.lockRings
open Go.RowKit Go.Sort

noncomputable def reB (P : List (Nat × Nat)) (x y : Nat) : Bool := @decide (PR P x y) (Classical.propDecidable _)
theorem reB_true (P : List (Nat × Nat)) (x y : Nat) : reB P x y = true ↔ PR P x y := by
  unfold reB
  exact @decide_eq_true_iff _ (Classical.propDecidable _)
theorem reaches_b (w : World) (A : Option Addr) (n c : Nat) (P : List (Nat × Nat)) (hlen : P.length = n) (hR : PRow w A P) (hn : n ≤ 1000000000) (x y : Nat) :
    Calls Tryd.prog 25 #[.slice A n c, .int .u32 (x : Int), .int .u32 (y : Int)] w fun e w' => e = .returned (.bool (reB P x y)) ∧ Below w.heap.size w w' :=
  (reaches_any w A n c P hlen hR hn x y).mono fun e w' ⟨r, he, hr, hb⟩ => ⟨by
    have : r = reB P x y := by rw [Bool.eq_iff_iff, hr, reB_true]
    rw [he, this], hb⟩
theorem waits_lenM {ls : List LK} {pl : List Nat} : ∀ (l : List Nat) (acc : List (Nat × Nat)), (l.foldl (outM ls pl) acc).length ≤ acc.length + l.length * pl.length := by
  have hin : ∀ (q : LK) (p : Nat) (r : List Nat) (st : List (Nat × Nat) × Nat), (r.foldl (inM ls q p) st).1.length ≤ st.1.length + r.length := by
    intro q p r
    induction r with
    | nil => intro st; simp
    | cons o r ih =>
      intro st
      rw [List.foldl_cons]
      have := ih (inM ls q p st o)
      have h2 : (inM ls q p st o).1.length ≤ st.1.length + 1 := by
        unfold inM
        split
        · simp
        · omega
      rw [List.length_cons]
      omega
  intro l
  induction l with
  | nil => intro acc; simp
  | cons o r ih =>
    intro acc
    rw [List.foldl_cons]
    have h1 := ih (outM ls pl acc o)
    have h2 : (outM ls pl acc o).length ≤ acc.length + pl.length := by
      unfold outM
      split
      · omega
      · exact hin _ _ pl (acc, 0)
    rw [List.length_cons, Nat.add_mul]
    omega
theorem waits_few {ls : List LK} {pl : List Nat} (hr : Rises ls pl) (hl : ls.length ≤ 16384) : (waitsM ls pl).length ≤ 1000000000 := by
  have h1 := waits_lenM (ls := ls) (pl := pl) pl []
  rw [hr.len, List.length_nil, Nat.zero_add] at h1
  have h2 : ls.length * ls.length ≤ 16384 * 16384 := Nat.mul_le_mul hl hl
  exact Nat.le_trans h1 (Nat.le_trans h2 (by decide))
/-- who is told, and who is in a ring -/
theorem told {ls : List LK} (hI : Inv ls) {pl : List Nat} (hr : Rises ls pl) {v : Nat} (h1 : v = 0 ∨ Wre ls v v) (h2 : ∀ a, Wre ls a a → a ≤ v) {p : Nat × Nat} (hp : p ∈ waitsM ls pl) : (reB (waitsM ls pl) p.1 p.1 = true ∧ p.1 ≤ v) ∨ (reB (waitsM ls pl) p.1 p.1 = false ∧ p.1 ≠ v) := by
  cases hb : reB (waitsM ls pl) p.1 p.1 with
  | true => exact Or.inl ⟨rfl, h2 _ ((pr_wre hI hr _ _).1 ((reB_true _ _ _).1 hb))⟩
  | false =>
    refine Or.inr ⟨rfl, fun e => ?_⟩
    obtain ⟨r, y, hy, _, ht⟩ := (mem_wt hr (a := p.1) (b := p.2) hp).waits
    have := (hI.good y (List.mem_of_getElem? hy)).t
    rcases h1 with h1 | h1
    · omega
    · rw [← e] at h1
      have := (reB_true _ _ _).2 ((pr_wre hI hr _ _).2 h1)
      rw [hb] at this
      cases this
/-- the numbers that were told -/
structure GN (z : Nat) (wr : World) (v : Value) (gs : List Nat) : Prop where
  own : OwR wr 34 1 uf v gs
  new : ∀ b, v.ownBlock = some b → z < b
theorem GN.up {z : Nat} {wr w2 : World} {v : Value} {gs : List Nat} (h : GN z wr v gs) (hb : RowKit.Below wr.heap.size wr w2) : GN z w2 v gs := ⟨h.own.up hb, h.new⟩
theorem GN.more {z : Nat} {wr w3 : World} {v v' : Value} {gs gs' : List Nat} {o : Obj} (h : GN z wr v gs) (hz : z < wr.heap.size) (ho : OwR w3 34 1 uf v' gs') (hb : v'.ownBlock = v.ownBlock ∨ v'.ownBlock = some (wr.alloc o).heap.size) : GN z w3 v' gs' :=
  ⟨ho, fun b hb' => by
    rcases hb with hb | hb
    · exact h.new b (by rw [← hb]; exact hb')
    · rw [hb] at hb'; injection hb' with hb'; rw [← hb']; simp; omega⟩
theorem GN.kept {z : Nat} {w w' : World} {v : Value} {gs : List Nat} (h : GN z w v gs) (hk : ∀ a ty cs, Blk w a ty cs → ty ≠ 46 → ty ≠ 29 → Blk w' a ty cs) : GN z w' v gs := by
  refine ⟨⟨h.own.1, ?_⟩, h.new⟩
  rcases h.own.2 with h2 | ⟨g, cap, cur, hv, hg, hh, r⟩
  · exact Or.inl h2
  · exact Or.inr ⟨g, cap, cur, hv, hg, hk g 34 cur hh (by decide) (by decide), r⟩
theorem TL.gone {w0 w w' : World} {z : Nat} {ls : List LK} {v : Value} {gs : List Nat} {o : Obj} (h : TL w0 w z z ls) (hzs : z ≤ w0.heap.size) (hg : GN z w v gs) (hgr : (w.alloc o).grownBy w' v.ownBlock) : TL w0 w' z z ls :=
  h.far hzs (((Fr.refl w fun b => v.ownBlock = some b).alloc o).grown hgr fun k hk => Or.inl hk) (fun b e => by have := hg.new b e; omega) (fun b e => by have := hg.new b e; obtain ⟨⟨v, hT, _⟩, _⟩ := h; have := hT.g2; omega) fun v' b hT e e' => own_apart hT.own hg.own (by decide) b e e'
theorem TL.zlt {w0 w : World} {z g : Nat} {ls : List LK} (h : TL w0 w z g ls) : g < w.heap.size := by
  obtain ⟨⟨v, hT, _⟩, _⟩ := h
  exact hT.blk.lt
theorem GN.at_ {z : Nat} {wr : World} {v : Value} {gs : List Nat} (h : GN z wr v gs) : ∃ A c, v = .slice A gs.length c ∧ UR wr A gs := by
  obtain ⟨A, c, rfl, _⟩ := h.own.form
  exact ⟨A, c, rfl, h.own.ur⟩
set_option maxRecDepth 100000 in
set_option maxHeartbeats 8000000 in
theorem walked (A : Option Addr) (n c : Nat) (l : List AV) (w : World) (h : AR w A n l) (hg : Gw w) :
    Calls Tryd.prog 6 #[.slice A n c] w fun e w' => e = .returned (.bool true) ∧ Below w.heap.size w w' := by
  have H := Lib.hid h
  obtain ⟨z, hz⟩ : ∃ z, z = w.heap.size := ⟨_, rfl⟩
  have HZ := Lib.hid hz
  have HZS := Lib.hid (show z ≤ w.heap.size by rw [hz]; exact Nat.le_refl _)
  have HPL := Lib.hid (played_any A n c l w h hg)
  rw [← hz] at HPL
  have HLG := Lib.hid (long_any w A n c l h)
  have HAL := Lib.hid (fun W (hb : Below w.heap.size w W) => alive_any W (hg.below hb))
  have HAT := Lib.hid (fun W ls (hb : TL w W z z ls) => alive_any W hb.gw)
  have HLN := Lib.hid h.len
  have HFP := Lib.hid (fine_play l)
  have HLP := Lib.hid (last_play l)
  have HPN := Lib.hid (playM_len l)
  generalize playM l = ls0 at HPL HFP HLP HPN
  clear h hg hz
  go_enter Tryd.func6, Tryd.ntmps6
  go_upto_region 1 with fail
  go_wp2_with (first
    | (go_at_call 8; with_reducible refine HLG.out.mono ?_; intro e w1 hl; obtain ⟨r, he, hw, hr⟩ := LongO.out hl; subst he; have hw' := hw.symm; subst hw'; clear hl)
    | (go_at_call 9; with_reducible refine (HAL.out _ (Below.refl _ _)).mono ?_; rintro e w2 ⟨rfl, hb2⟩; have HB2 := Lib.hid hb2; clear hb2)
    | (go_at_call 23; with_reducible refine HPL.out.mono ?_; rintro e w1 ⟨rfl, h1⟩; have H1 := Lib.hid h1; clear h1))
  · go_ret
    exact ⟨rfl, HB2.out⟩
  · have hr0 : r = false := by assumption
    have HFW := Lib.hid (hr hr0)
    clear hr
    subst hr0
    go_loopw [4, 5] (fun v i wr => ∃ (k : Nat) (ls : List LK) (gs : List Nat), k ≤ 120 ∧ i = .int .i64 (k : Int) ∧ TL w wr z z ls ∧ Fine ls ∧ Last ls ∧ ls.length + k ≤ 120 ∧ GN z wr v gs ∧ (∀ a ∈ gs, ¬ Wre ls a a) ∧ gs.length ≤ k) (fun _ i _ => 121 - (intOf i).toNat)
    case atStart => exact ⟨0, ls0, [], by omega, rfl, H1.out, HFP.out, HLP.out, by have := HPN.out; have := HFW.out.1; omega, ⟨OwR.nil_ _ _ _ _, fun b hb => by simp [Value.ownBlock] at hb⟩, by simp, by simp⟩
    case round =>
      obtain ⟨k, ls, gs, hk, rfl, htl, hfi, hla, hcn, hgn, hno, hgl⟩ := hrel
      have HTL := Lib.hid htl
      have HFI := Lib.hid hfi
      have HLA := Lib.hid hla
      have HCN := Lib.hid hcn
      have HGN := Lib.hid hgn
      have HNO := Lib.hid hno
      have HGL := Lib.hid hgl
      have hin : ((k : Int) ≤ 120) := by omega
      have e1 : IntKind.i64.wrap ((k : Int) + 1) = ((k + 1 : Nat) : Int) := by rw [IntWalk.i64_in _ (by omega)]; omega
      have HWT := Lib.hid (waits_fin htl HZS.out)
      obtain ⟨v, hv0, hvm, hvc⟩ := victim_fin htl HZS.out hfi hla
      have HVC := Lib.hid hvc
      have HV0 := Lib.hid hv0
      have HVM := Lib.hid hvm
      clear htl hfi hla hcn hgn hno hgl hv0 hvm hvc
      go_wp2_with (first
        | (go_at_call 13; with_reducible refine HWT.out.mono ?_; rintro e w3 ⟨A3, c3, pl, M, rfl, hM, hM2, hrs, ho3, ht3, hb3⟩; have HT3 := Lib.hid ht3; have HM := Lib.hid hM; have HM3 := Lib.hid hM2; have HRS := Lib.hid hrs; have HO3 := Lib.hid ho3; have HB3 := Lib.hid hb3; clear ht3 hM hM2 hrs ho3 hb3)
        | (go_at_call 17; with_reducible refine (HVC.out _ HT3.out).mono ?_; rintro e w4 ⟨rfl, ht4, hb4⟩; have HT4 := Lib.hid ht4; have HB4 := Lib.hid hb4; clear ht4 hb4))
      have HTD := Lib.hid (fun p (hp : p ∈ waitsM ls pl) => told HFI.out.1 HRS.out HV0.out HVM.out hp)
      have HFP2 := Lib.hid (show M ≤ 1000000000 by rw [← HM.out]; exact waits_few HRS.out HT4.out.fewL)
      have HPR := Lib.hid (HO3.out.up HB4.out).prow
      generalize waitsM ls pl = P at HM HTD HPR HO3
      have HTB := Lib.hid (fun wi (hb : Below w4.heap.size w4 wi) => HT4.out.up HZS.out hb)
      have HGB := Lib.hid ((HGN.out.up HB3.out).up HB4.out)
      have HVW := Lib.hid (show ∀ a, Wre ls a a → ¬ a ∈ gs from fun a ha hm => HNO.out a hm ha)
      have HV02 := Lib.hid HV0.out
      have he1 := Lib.hid e1
      clear e1
      go_loopw [8] (fun i wi => ∃ j : Nat, j ≤ M ∧ i = .int .i64 (j : Int) ∧ Below w4.heap.size w4 wi) (fun i _ => M - (intOf i).toNat)
      case atStart => exact ⟨0, by omega, rfl, Below.refl _ _⟩
      case round =>
        obtain ⟨j, hj, rfl, hbj⟩ := hrel
        have HBJ := Lib.hid hbj
        by_cases hlt : j < M
        · have hp : P[j]? = some (P[j]'(by have := HM.out; omega)) := List.getElem?_eq_getElem _
          generalize P[j]'(by have := HM.out; omega) = p at hp
          obtain ⟨b, rfl, c1, c2⟩ := (HPR.out.up hbj) j p hp
          have hkey := HTD.out p (List.mem_of_getElem? hp)
          have HRB := Lib.hid (fun W' (hW : Below wr.heap.size wr W') => reaches_b W' (some ⟨b, 0, none⟩) M c3 P HM.out ((HPR.out.up hbj).up hW) HFP2.out p.1 p.1)
          have z1 := fun d os => cell_regrown c1 d os
          have hin2 : ((j : Int) < (M : Int)) := by omega
          have e2 : IntKind.i64.wrap ((j : Int) + 1) = ((j + 1 : Nat) : Int) := by rw [IntWalk.i64_in _ (by have := HM3.out; omega)]; omega
          obtain ⟨f, hf⟩ : ∃ f, decide (v < p.1) = f := ⟨_, rfl⟩
          obtain ⟨f2, hf2⟩ : ∃ f2, (p.1 == v) = f2 := ⟨_, rfl⟩
          have Q1 := Lib.hid (show decide ((p.1 : Int) > (v : Int)) = f by rw [← hf, decide_eq_decide]; omega)
          have Q2 := Lib.hid (show ((p.1 : Int) == (v : Int)) = f2 by rw [nbeq_, hf2])
          have Q3 := Lib.hid hf
          have Q4 := Lib.hid (show ((v : Int) == (p.1 : Int)) = f2 by rw [nbeq_, ← hf2]; exact BEq.comm)
          have HX := Lib.hid (show (reB P p.1 p.1 = true ∧ f = false) ∨ (reB P p.1 p.1 = false ∧ f2 = false) from by
            rcases hkey with ⟨h1, h2⟩ | ⟨h1, h2⟩
            · exact Or.inl ⟨h1, by rw [← hf]; exact decide_eq_false (by omega)⟩
            · exact Or.inr ⟨h1, by rw [← hf2]; simpa using h2⟩)
          generalize reB P p.1 p.1 = r at HRB HX
          clear hp hkey hf hf2 hbj
          go_upto_region 13 with fail
          refine wp_region_quiet_below (by kernel_rfl) (by kernel_rfl) ?_
          repeat (go_big_quiet_step (first | (go_at_call 25; with_reducible exact Calls.regrown_of (HRB.out _ (below_regrown _ _ _)))))
          refine wpQuiet_nil ?_
          rintro W3 ⟨pp, hpp⟩
          have HB5 := Lib.hid (show Below wr.heap.size wr W3 by rw [hpp]; exact below_regrown _ _ _)
          have c1 := (HB5.out.cell (block_lt_of_cell c1)).trans c1
          clear hpp z1
          have q1 := Q1.out
          have q1b : decide ((v : Int) < (p.1 : Int)) = f := Q1.out
          have q2 := Q2.out
          have q3 := Q3.out
          have q4 := Q4.out
          have hin2 : ((j : Int) < (M : Int)) := by omega
          have key : (r = true ∧ f = false ∧ f2 = true) ∨ (r = true ∧ f = false ∧ f2 = false) ∨ (r = false ∧ f2 = false) := by
            have := HX.out
            revert this
            cases r <;> cases f <;> cases f2 <;> simp
          rcases key with ⟨rfl, rfl, rfl⟩ | ⟨rfl, rfl, rfl⟩ | ⟨rfl, rfl⟩ <;>
          · go_wp2_with fail
            go_roundw
            case rel => exact ⟨j + 1, by omega, by go_num, HBJ.out.trans (HB5.out.mono HBJ.out.size)⟩
            case measure => simp [intOf]; omega
        · obtain rfl : j = M := by omega
          have hin2 : ¬ ((j : Int) < (j : Int)) := by omega
          have HTJ := Lib.hid (HTB.out _ hbj)
          have HGJ := Lib.hid (HGB.out.up hbj)
          clear hbj
          rcases Nat.eq_zero_or_pos v with rfl | hv
          · go_wp2_with (go_at_call 9; with_reducible refine (HAT.out _ _ HTJ.out).mono ?_; rintro e w5 ⟨rfl, hb5⟩; have HB5 := Lib.hid hb5; clear hb5)
            go_ret
            exact ⟨by simp, by have := HTJ.out.bel; rw [HZ.out] at this; exact below_trans this HB5.out⟩
          · have hv1 : ((v : Int) == 0) = false := beq_eq_false_iff_ne.2 (by omega)
            have hring : Wre ls v v := HV02.out.resolve_left (by omega)
            have HVG := Lib.hid (HVW.out v hring)
            have HRG := Lib.hid hring
            obtain ⟨Ag, cg, rfl, hur⟩ := HGJ.out.at_
            have HUR := Lib.hid hur
            obtain ⟨ng, hng⟩ : ∃ ng, gs.length = ng := ⟨_, rfl⟩
            rw [hng] at HGJ ⊢
            have HNG := Lib.hid hng
            have HNL := Lib.hid (show ng ≤ 120 by have := HGL.out; omega)
            clear hring hur hng
            obtain ⟨w5, hw5⟩ : ∃ w5, w5 = wr := ⟨_, rfl⟩
            subst hw5
            go_wp2_with fail
            go_loopw [10] (fun i wi => ∃ j : Nat, j ≤ ng ∧ i = .int .i64 (j : Int) ∧ w5 = wi) (fun i _ => ng - (intOf i).toNat)
            case atStart => exact ⟨0, by omega, rfl, rfl⟩
            case round =>
              obtain ⟨i, hi, rfl, rfl⟩ := hrel
              by_cases hlt3 : i < ng
              · have hx : gs[i]? = some (gs[i]'(by have := HNG.out; omega)) := List.getElem?_eq_getElem _
                generalize gs[i]'(by have := HNG.out; omega) = x at hx
                obtain ⟨b, rfl, c1⟩ := HUR.out i x hx
                have hin3 : ((i : Int) < (ng : Int)) := by omega
                have e3 : IntKind.i64.wrap ((i : Int) + 1) = ((i + 1 : Nat) : Int) := by rw [IntWalk.i64_in _ (by have := HNL.out; omega)]; omega
                have hne : ((x : Int) == (v : Int)) = false := by
                  rw [nbeq_]
                  exact beq_eq_false_iff_ne.2 fun e => HVG.out (by rw [← e]; exact List.mem_of_getElem? hx)
                clear hx
                go_wp2_with fail
                go_roundw
                case rel => exact ⟨i + 1, by omega, by go_num, by first | rfl | trivial⟩
                case measure => simp [intOf]; omega
              · obtain rfl : i = ng := by omega
                have hin3 : ¬ ((i : Int) < (i : Int)) := by omega
                have HO6 := Lib.hid (show OwR (w5.alloc (.cells #[.int .u32 (v : Int)] 34)) 34 1 uf (.slice Ag i cg) gs from HGJ.out.own.up ((Below.refl _ _).alloc (Nat.le_refl _) _))
                have HR6 := Lib.hid (one_app_ (f := uf) (k := 1) w5 34 v)
                have HZL := Lib.hid (TL.zlt HTJ.out)
                go_upto_region 24 with (at_builtin; go_must (refine wpList_appR K34 uf_len uf_one rfl (.tmp 80) (.tmp 82) rfl (.slice Ag i cg) gs rfl HO6.out (some ⟨w5.heap.size, 0, none⟩) 1 1 [v] rfl rfl HR6.out (by have := HNG.out; have := HNL.out; omega) (by have := HNG.out; have := HNL.out; omega) ?_); intro v' w6 hv6 hg6 hb6; have HT6 := Lib.hid (TL.gone HTJ.out HZS.out HGJ.out hg6); have HG6 := Lib.hid (HGJ.out.more HZL.out hv6 hb6); clear hv6 hg6 hb6)
                have HRL := Lib.hid (HT6.out.release HZS.out v)
                go_wp2_with (go_at_call 19; with_reducible refine HRL.out.mono ?_; rintro e w7 ⟨⟨vg, hev, _⟩, ht7, hk7⟩; subst hev; have HT7 := Lib.hid ht7; have HG7 := Lib.hid (HG6.out.kept hk7); clear ht7 hk7)
                have e1 := he1.out
                go_wp2_with fail
                go_roundw
                case rel => exact ⟨k + 1, _, gs ++ [v], by
                    obtain ⟨r, y, hy, _, hyt⟩ := HRG.out.waits
                    have := (List.getElem?_eq_some_iff.1 hy).1
                    have := HCN.out
                    omega, by go_num, HT7.out, fine_release HFI.out v, last_release HLA.out v, by
                    obtain ⟨r, y, hy, _, hyt⟩ := HRG.out.waits
                    have := release_less (List.mem_of_getElem? hy) hyt
                    have := HCN.out
                    omega, HG7.out, fun a ha hw => by
                    rcases List.mem_append.1 ha with ha | ha
                    · exact HNO.out a ha (wre_release HFI.out.1 hw)
                    · rw [List.mem_singleton.1 ha] at hw
                      exact wre_gone hw, by rw [List.length_append, List.length_singleton]; have := HGL.out; omega⟩
                case measure => simp [intOf]; omega
end Go.Proofs.YtlblgfpafdfilaaDoor.lockRings
