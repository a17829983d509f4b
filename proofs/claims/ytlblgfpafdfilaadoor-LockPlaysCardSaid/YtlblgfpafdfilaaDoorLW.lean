/-
STAGE 12: the closure of Victim.
-/
import Derived.Test.YtlblgfpafdfilaaDoorLU
namespace Go.Proofs.YtlblgfpafdfilaaDoor
open Go.RowKit Go.Sort

set_option maxRecDepth 100000 in
set_option maxHeartbeats 2000000 in
theorem come_any (w : World) (B : FB) (ls : List LK) (ov : Value) (s : FSt) (h : FS w B ls ov s) (p : Nat) (hp : p < ls.length) :
    Calls Tryd.prog 37 #[.int .i64 (p : Int), .pointer (some ⟨B.a8, 0, none⟩), .pointer (some ⟨B.a9, 0, none⟩)] w fun e w' => e = .returned (.tuple #[]) ∧ FS w' B ls ov { s with v := max s.v (ls.getD p okz).t } ∧ Fr w w' (fun b => b = B.a8) := by
  have hl : ls[p]? = some ls[p] := List.getElem?_eq_getElem hp
  have HGD := Lib.hid (getD_of hl)
  generalize ls[p] = l at hl HGD
  obtain ⟨b, hA, hcs⟩ := h.fx.tr.row p l hl
  have hlo := h.fx.tr.ok l (List.mem_of_getElem? hl)
  have z0 := hcs.1
  have c0 := h.fx.tr.blk.cell 0
  have k8 := h.bv.cell 0
  have f8 := h.bv.frozen 0
  have k9 := h.fx.b9.cell 0
  simp only [List.getElem?_toArray, List.getElem?_cons_zero] at c0 k8 k9
  rw [hA] at c0
  have hp2 : (p : Int) < (ls.length : Int) := by omega
  obtain ⟨m, hm⟩ : ∃ m, m = max s.v l.t := ⟨_, rfl⟩
  have hmi : max (s.v : Int) (l.t : Int) = (m : Int) := by rw [hm]; omega
  have HS := Lib.hid (h.setV m (by rw [hm]; have := hlo.t; have := h.vv; omega))
  have HM := Lib.hid hm
  rw [HGD.out, ← hm]
  generalize ls.length = n at c0 hp2
  clear h hl hcs hlo hm hp
  go_enter Tryd.func37, Tryd.ntmps37
  go_region
  go_end0
  have hd : RowKit.Below (w.setCell ⟨B.a8, 0, none⟩ (.int .u32 (m : Int))).heap.size (w.setCell ⟨B.a8, 0, none⟩ (.int .u32 (m : Int))) (w.setCell ⟨B.a8, 0, none⟩ (.int .u32 (m : Int))).drew := (Below.refl _ _).drew
  exact ⟨rfl, HS.out.1.up hd, (fr1 w B.a8 0 _).same (Fr.of_below hd _)⟩
/-- what a call of follow comes to -/
def FollowC (ls : List LK) (B : FB) (go : Nat → FSt → Option (FSt × Nat)) : Prop :=
  ∀ (p : Nat) (s s' : FSt) (r : Nat) (w : World) (ov : Value), go p s = some (s', r) → FS w B ls ov s → p < ls.length →
    Calls Tryd.prog 62 (#[.int .i64 (p : Int)] ++ B.caps) w fun e w' => e = .returned (.int .i64 (r : Int)) ∧ ∃ ov', FS w' B ls ov' s' ∧ FC w w' B ov ov'
theorem lastsF_lt {ls : List LK} {k : Nat} (h : k < ls.length) : lastsF ls k < ls.length := by
  unfold lastsF
  have : ∀ m, 0 < m → lastTo ls (ls.getD k okz).t m < m := by
    intro m hm
    induction m with
    | zero => omega
    | succ m ih =>
      unfold lastTo
      split
      · omega
      · rcases Nat.eq_zero_or_pos m with h0 | h0
        · subst h0; simp [lastTo]
        · have := ih h0; omega
  exact this _ (by omega)
/-- behind the append of one place -/
theorem push_form {w3 w4 : World} {v' : Value} {O : List Nat} {p : Nat} {A : Option Addr} {n c : Nat} {o : Obj} (hv : OwR w4 3 1 nf v' (O ++ [p])) (hg : (w3.alloc o).grownBy w4 (Value.slice A n c).ownBlock) (hb : v'.ownBlock = (Value.slice A n c).ownBlock ∨ v'.ownBlock = some (w3.alloc o).heap.size) :
    ∃ A' c', v' = .slice A' (O.length + 1) c' ∧ Hid (OwR w4 3 1 nf (.slice A' (O.length + 1) c') (O ++ [p]) ∧ Fr w3 w4 (fun b => (Value.slice A n c).ownBlock = some b) ∧ ∀ b, (Value.slice A' (O.length + 1) c').ownBlock = some b → (Value.slice A n c).ownBlock = some b ∨ w3.heap.size ≤ b) := by
  obtain ⟨A', c', e', _⟩ := hv.form
  rw [List.length_append, List.length_singleton] at e'
  subst e'
  refine ⟨A', c', rfl, ⟨hv, ((Fr.refl w3 _).alloc o).grown hg fun k hk => Or.inl hk, fun b hb' => ?_⟩⟩
  rcases hb with hb | hb
  · exact Or.inl (by rw [← hb]; exact hb')
  · rw [hb] at hb'; injection hb' with hb'; right; rw [← hb']; simp
theorem push_fs {w3 w4 : World} {B : FB} {ls : List LK} {ov : Value} {s : FSt} {N : List Nat} {m1 p lo co c4 : Nat} {Ao A4 : Option Addr} (h : FS w3 B ls ov ⟨N, s.O, m1, s.v⟩) (ho : ov = .slice Ao s.O.length co) (hlo : lo = s.O.length)
    (h4 : OwR w4 3 1 nf (.slice A4 (s.O.length + 1) c4) (s.O ++ [p]) ∧ Fr w3 w4 (fun b => (Value.slice Ao lo co).ownBlock = some b) ∧ ∀ b, (Value.slice A4 (s.O.length + 1) c4).ownBlock = some b → (Value.slice Ao lo co).ownBlock = some b ∨ w3.heap.size ≤ b) (hp : p < ls.length) (hm : m1 = s.m + 1) (hom : s.O.length ≤ s.m) :
    FS (w4.setCell ⟨B.a2, 0, none⟩ (.slice A4 (s.O.length + 1) c4)) B ls (.slice A4 (s.O.length + 1) c4) ⟨N, s.O ++ [p], m1, s.v⟩ ∧ FC w3 (w4.setCell ⟨B.a2, 0, none⟩ (.slice A4 (s.O.length + 1) c4)) B ov (.slice A4 (s.O.length + 1) c4) ∧ Blk w4 B.a2 61 #[ov] := by
  subst hlo
  rw [← ho] at h4
  refine h.setO h4.2.1 h4.1 h4.2.2 (fun x hx => ?_) (by rw [List.length_append, List.length_singleton]; simp only; omega)
  rcases List.mem_append.1 hx with hx | hx
  · exact h.ol_ x hx
  · rw [List.mem_singleton.1 hx]; exact hp
set_option maxRecDepth 100000 in
set_option maxHeartbeats 4000000 in
theorem follow_step (ls : List LK) (B : FB) (f : Nat) (hgo : FollowC ls B (followM ls f)) : FollowC ls B (followM ls (f + 1)) := by
  intro p s s' r w ov hM h hp
  unfold followM at hM
  have hm16 : ¬ 16384 ≤ s.m := fun h' => by rw [if_pos h'] at hM; cases hM
  rw [if_neg hm16] at hM
  have hl : ls[p]? = some ls[p] := List.getElem?_eq_getElem hp
  rw [getD_of hl] at hM
  generalize ls[p] = q at hl hM
  have HGO := Lib.hid hgo
  have HL := Lib.hid hl
  have HP := Lib.hid hp
  have HFEW := Lib.hid h.fx.tr.few
  have hol := h.om
  -- the first steps
  obtain ⟨m1, hm1⟩ : ∃ m1, m1 = s.m + 1 := ⟨_, rfl⟩
  rw [← hm1] at hM
  have HMM := Lib.hid hM
  have HM1 := Lib.hid hm1
  have hS1 := h.setM m1 (by omega) (by omega)
  have k1 := h.bm.cell 0
  have f1 := h.bm.frozen 0
  simp only [List.getElem?_toArray, List.getElem?_cons_zero] at k1
  have hwr : IntKind.i64.wrap ((s.m : Int) + 1) = (m1 : Int) := by rw [IntWalk.i64_in _ (by omega)]; omega
  obtain ⟨w1, hw1⟩ : ∃ w1, w1 = w.setCell ⟨B.a1, 0, none⟩ (.int .i64 (m1 : Int)) := ⟨_, rfl⟩
  rw [← hw1] at hS1
  have j1 := hS1.1.bm.cell 0
  have j2 := hS1.1.bo.cell 0
  have j3 := hS1.1.fx.bn.cell 0
  simp only [List.getElem?_toArray, List.getElem?_cons_zero] at j1 j2 j3
  obtain ⟨Ao, co, hov, hlc, hcm, _, _⟩ := h.oo.form
  have HOV := Lib.hid hov
  have HS0 := Lib.hid h
  have HS1 := Lib.hid hS1
  obtain ⟨n, hn⟩ : ∃ n, n = ls.length := ⟨_, rfl⟩
  have HN := Lib.hid hn
  obtain ⟨lo, hlo⟩ : ∃ lo, lo = s.O.length := ⟨_, rfl⟩
  have HLO := Lib.hid hlo
  rw [← hn] at j3
  rw [hov, ← hlo] at j2
  have hp2 : (p : Int) < (n : Int) := by omega
  have HNUM := Lib.hid hm16
  clear hM hl h hS1 hov hlc hcm hgo hn hlo hm16 hm1 hol
  unfold FB.caps
  go_enter Tryd.func62, Tryd.ntmps62
  go_upto_region 2 with fail
  rw [← hw1]
  clear hw1 k1 f1 hwr
  go_region
  have hd2 : RowKit.Below w1.heap.size w1 w1.drew := (Below.refl _ _).drew
  obtain ⟨w2, hw2⟩ : ∃ w2, w2 = w1.drew := ⟨_, rfl⟩
  rw [← hw2] at hd2 ⊢
  have hS2 := HS1.out.1.up hd2
  have hC2 := HS1.out.2.trans (FC.below B ov hd2)
  obtain ⟨g1, g2, g3, g4⟩ := hS2.setN p m1 HP.out
  have j3 := hS2.fx.bn.cell 0
  simp only [List.getElem?_toArray, List.getElem?_cons_zero] at j3
  rw [← HN.out] at j3
  obtain ⟨w3, hw3⟩ : ∃ w3, w3 = w2.setCell ⟨B.nb, p, none⟩ (.int .i64 (m1 : Int)) := ⟨_, rfl⟩
  rw [← hw3] at g3 g4
  have HS3 := Lib.hid g3
  have HC3 := Lib.hid (hC2.trans g4)
  clear hS2 hC2 g3 g4 hw2 hd2 j1 j2
  go_upto_region 4 with fail
  rw [← hw3]
  clear hw3 g1 g2 j3
  have j2 := HS3.out.bo.cell 0
  simp only [List.getElem?_toArray, List.getElem?_cons_zero] at j2
  rw [HOV.out, ← HLO.out] at j2
  have hg2 := HS3.out.bo.lt
  have HO3 := Lib.hid (show OwR (w3.alloc (.cells #[.int .i64 (p : Int)] 3)) 3 1 nf (.slice Ao lo co) s.O from by have := HS3.out.oo.up ((Below.refl _ _).alloc (Nat.le_refl _) (.cells #[.int .i64 (p : Int)] 3)); rwa [HOV.out, ← HLO.out] at this)
  have HR3 := Lib.hid (one_app (f := nf) (k := 1) w3 3 p)
  have HLE := Lib.hid (show s.O.length ≤ 16384 by have := HS0.out.om; have := HS0.out.mm; omega)
  go_upto_region 5 with (at_builtin; go_must (refine wpList_appR K3 nf_len nf_one rfl (.tmp 29) (.tmp 31) rfl (.slice Ao lo co) s.O rfl HO3.out (some ⟨w3.heap.size, 0, none⟩) 1 1 [p] rfl rfl HR3.out (by have := HLE.out; omega) (by have := HLE.out; omega) ?_); intro v' w4 hv4 hg4 hb4; obtain ⟨A4, c4, hv4f, HV4⟩ := push_form hv4 hg4 hb4; rw [hv4f]; have HS4 := Lib.hid (push_fs (s := s) HS3.out HOV.out HLO.out HV4.out HP.out HM1.out HS0.out.om); have q2 := HS4.out.2.2.cell 0; have q3 := HS4.out.2.2.frozen 0; simp only [List.getElem?_toArray, List.getElem?_cons_zero] at q2; clear hv4 hg4 hb4 hv4f)
  obtain ⟨ov5, hov5⟩ : ∃ ov5, ov5 = Value.slice A4 (s.O.length + 1) c4 := ⟨_, rfl⟩
  have HOV5 := Lib.hid hov5
  rw [← hov5] at HS4 ⊢
  obtain ⟨w5, hw5⟩ : ∃ w5, w5 = w4.setCell ⟨B.a2, 0, none⟩ ov5 := ⟨_, rfl⟩
  rw [← hw5] at HS4 ⊢
  have HS5 := Lib.hid HS4.out.1
  have HC5 := Lib.hid (HC3.out.trans HS4.out.2.1)
  have HZ5 := Lib.hid (show ∀ b, (b = B.a1 ∨ b = B.a2 ∨ b = B.nb ∨ b = B.a8 ∨ ov5.ownBlock = some b) → b < w5.heap.size from fun b hb => by
    have h0 := HS5.out
    rcases hb with rfl | rfl | rfl | rfl | hb
    · exact h0.bm.lt
    · exact h0.bo.lt
    · exact h0.on_.lt rfl
    · exact h0.bv.lt
    · exact h0.oo.lt hb)
  have t4 := HS5.out.fx.bt.cell 0
  simp only [List.getElem?_toArray, List.getElem?_cons_zero] at t4
  have HWF := Lib.hid (waitsFor_b B.g B.A B.c ls w5 HS5.out.fx.tr q p HL.out)
  clear HS4 HV4 HR3 HO3 q2 q3 j2 hg2 hw5 hov5
  go_upto_region 6 with (go_at_call 33; with_reducible refine HWF.out.mono ?_; rintro e w6 ⟨fv, rfl, hwf, hb6⟩; have HWB := Lib.hid hwf; have HB6 := Lib.hid hb6; clear hwf hb6)
  have HS6 := Lib.hid (HS5.out.up HB6.out)
  have t5 := HS6.out.fx.bl.cell 0
  simp only [List.getElem?_toArray, List.getElem?_cons_zero] at t5
  rw [← HN.out] at t5
  clear t4
  go_wp2_with fail
  clear t5
  have eg59 : ∀ args w, (callFunc 59 args).run Tryd.prog w = .ok (.enter 59 args) w := enters_of Tryd.func59 (by kernel_rfl) rfl
  have eg62 : ∀ args w, (callFunc 62 args).run Tryd.prog w = .ok (.enter 62 args) w := enters_of Tryd.func62 (by kernel_rfl) rfl
  have eg37 : ∀ args w, (callFunc 37 args).run Tryd.prog w = .ok (.enter 37 args) w := enters_of Tryd.func37 (by kernel_rfl) rfl
  obtain ⟨s5, hs5⟩ : ∃ s5 : FSt, s5 = ⟨s.N.set p m1, s.O ++ [p], m1, s.v⟩ := ⟨_, rfl⟩
  rw [← hs5] at HMM
  have HS5E := Lib.hid hs5
  have HS6' : Hid (FS w6 B ls ov5 s5) := Lib.hid (by rw [hs5]; exact HS6.out)
  obtain ⟨go, hgo⟩ : ∃ go, go = followM ls f := ⟨_, rfl⟩
  rw [← hgo] at HMM HGO
  clear hgo HS6 hs5 HWF
  go_loopw [11, 38] (fun u i wr => ∃ (k L : Nat) (sk : FSt) (ovk : Value), k ≤ n ∧ u = .int .i64 (L : Int) ∧ i = .int .i64 (k : Int) ∧ loopM go ls q p (s5, m1) k = some (sk, L) ∧ FS wr B ls ovk sk ∧ FC w6 wr B ov5 ovk) (fun _ i _ => n - (intOf i).toNat)
  case atStart => exact ⟨0, m1, s5, ov5, by omega, rfl, rfl, rfl, HS6'.out, FC.refl _ _ _⟩
  case round =>
    obtain ⟨k, L, sk, ovk, hk, rfl, rfl, hlo, hfs, hfc⟩ := hrel
    have HLO2 := Lib.hid hlo
    have HFS := Lib.hid hfs
    have HFC := Lib.hid hfc
    by_cases hlt : k < n
    · have hl : ls[k]? = some (ls[k]'(by have := HN.out; omega)) := List.getElem?_eq_getElem _
      generalize ls[k]'(by have := HN.out; omega) = l at hl
      have hkl : k < ls.length := by have := HN.out; omega
      -- the next state
      obtain ⟨y, hy⟩ : ∃ y, loopM go ls q p (s5, m1) (k + 1) = some y := by
        cases hc : loopM go ls q p (s5, m1) (k + 1) with
        | some y => exact ⟨y, rfl⟩
        | none =>
          have := HMM.out
          rw [loopM_none hc ls.length (by omega)] at this
          cases this
      have hst : stepM go ls q p k (sk, L) = some y := by
        have := hy
        unfold loopM at this
        rw [hlo] at this
        exact this
      unfold stepM at hst
      rw [getD_of hl] at hst
      have HY := Lib.hid hy
      have p0 := ints_at hfs.fx.ol (lastsM_at hkl)
      obtain ⟨nx, hnx⟩ : ∃ nx, nx = lastsF ls k := ⟨_, rfl⟩
      have HNX := Lib.hid (show nx < ls.length by rw [hnx]; exact lastsF_lt hkl)
      rw [← hnx] at hst p0
      have t3 := hfs.fx.bn.cell 0
      have t6 := hfs.fx.bf.cell 0
      simp only [List.getElem?_toArray, List.getElem?_cons_zero] at t3 t6
      rw [← HN.out] at t3
      have hin : ((k : Int) < (n : Int)) := by omega
      have hin2 : ((nx : Int) < (n : Int)) := by have := HN.out; have := HNX.out; omega
      have e1 : IntKind.i64.wrap ((k : Int) + 1) = ((k + 1 : Nat) : Int) := by rw [IntWalk.i64_in _ (by have := HFEW.out; have := HN.out; omega)]; omega
      obtain ⟨caps, rfl, hcl⟩ := (HWB.out.keep (hfc.fr.mono fun b _ hb => HZ5.out b hb)).wf.call (A := B.A) (c := B.c) (ls := ls) hfs.fx.tr hfs.fx.gw (hfs.fx.tr.ok q (List.mem_of_getElem? HL.out)) (Below.refl _ _) k l hl
      have HCL := Lib.hid hcl
      generalize waitM (ls.any (passP q)) q p l k = wt at hst HCL
      have HST := Lib.hid hst
      clear hlo hfs hfc hl hy hst hcl hnx hkl
      cases wt with
      | false =>
        rw [if_neg (by decide)] at HST
        go_wp2_with fail
        with_reducible refine HCL.out.mono ?_
        rintro e w7 ⟨rfl, hb7⟩
        have HB7 := Lib.hid hb7
        clear hb7
        go_wp2_with fail
        go_roundw
        case rel => exact ⟨k + 1, L, sk, ovk, by omega, rfl, by go_num, by rw [HY.out, HST.out], HFS.out.up HB7.out, HFC.out.trans (FC.below B ovk HB7.out)⟩
        case measure => simp [intOf]; omega
      | true =>
        rw [if_pos rfl] at HST
        dsimp only at HST
        obtain ⟨x, hx⟩ : ∃ x, x = sk.N.getD nx 0 := ⟨_, rfl⟩
        rw [← hx] at HST
        have HXE := Lib.hid hx
        obtain ⟨z, hz⟩ : ∃ z, (x == 0) = z := ⟨_, rfl⟩
        have hz2 : ((x : Int) == 0) = z := by rw [← hz]; exact nbeq x 0
        clear hx
        cases z with
        | false =>
          rw [if_neg (by simpa using hz)] at HST
          obtain ⟨m2, hm2⟩ : ∃ m2, m2 = min L x := ⟨_, rfl⟩
          have hmi : min (L : Int) (x : Int) = (m2 : Int) := by rw [hm2]; omega
          rw [← hm2] at HST
          clear hz hm2
          go_wp2_with fail
          with_reducible refine HCL.out.mono ?_
          rintro e w7 ⟨rfl, hb7⟩
          have HS7 := Lib.hid (HFS.out.up hb7)
          have HB7 := Lib.hid hb7
          have t3 := HS7.out.fx.bn.cell 0
          simp only [List.getElem?_toArray, List.getElem?_cons_zero] at t3
          rw [← HN.out] at t3
          have tn := (HS7.out.setN nx 0 HNX.out).2.1
          rw [← HXE.out] at tn
          clear hb7
          go_wp2_with fail
          go_roundw
          case rel => exact ⟨k + 1, m2, sk, ovk, by omega, rfl, by go_num, by rw [HY.out, HST.out], HS7.out, HFC.out.trans (FC.below B ovk HB7.out)⟩
          case measure => simp [intOf]; omega
        | true =>
          rw [if_pos (by simpa using hz)] at HST
          obtain ⟨s2, r2, hgo2⟩ : ∃ s2 r2, go nx sk = some (s2, r2) := by
            cases hc : go nx sk with
            | some y => exact ⟨y.1, y.2, rfl⟩
            | none => have := HST.out; rw [hc] at this; cases this
          rw [hgo2] at HST
          have HG2 := Lib.hid hgo2
          obtain ⟨x2, hx2⟩ : ∃ x2, x2 = s2.N.getD nx 0 := ⟨_, rfl⟩
          obtain ⟨m2, hm2⟩ : ∃ m2, m2 = min L r2 := ⟨_, rfl⟩
          obtain ⟨m3, hm3⟩ : ∃ m3, m3 = min m2 x2 := ⟨_, rfl⟩
          have HX2 := Lib.hid hx2
          have HST2 := Lib.hid (show y = (s2, m3) by
            have := HST.out
            simp only [Option.bind_some, Option.some.injEq] at this
            rw [← this, hm3, hm2, hx2])
          have hmi : min (L : Int) (r2 : Int) = (m2 : Int) := by rw [hm2]; omega
          have hmj : min (m2 : Int) (x2 : Int) = (m3 : Int) := by rw [hm3]; omega
          clear hz hgo2 hx2 hm2 hm3 HST
          go_wp2_with fail
          with_reducible refine HCL.out.mono ?_
          rintro e w7 ⟨rfl, hb7⟩
          have HS7 := Lib.hid (HFS.out.up hb7)
          have HB7 := Lib.hid hb7
          have t3 := HS7.out.fx.bn.cell 0
          have t6 := HS7.out.fx.bf.cell 0
          simp only [List.getElem?_toArray, List.getElem?_cons_zero] at t3 t6
          rw [← HN.out] at t3
          have tn := (HS7.out.setN nx 0 HNX.out).2.1
          rw [← HXE.out] at tn
          have HREC := Lib.hid (HGO.out nx sk s2 r2 w7 ovk HG2.out HS7.out HNX.out)
          clear hb7
          go_wp2_with fail
          with_reducible refine HREC.out.mono ?_
          rintro e w8 ⟨rfl, ov8, hs8, hc8⟩
          have HS8 := Lib.hid hs8
          have HC8 := Lib.hid hc8
          have t3 := hs8.fx.bn.cell 0
          simp only [List.getElem?_toArray, List.getElem?_cons_zero] at t3
          rw [← HN.out] at t3
          have tn := (hs8.setN nx 0 HNX.out).2.1
          rw [← HX2.out] at tn
          clear hs8 hc8
          go_wp2_with fail
          go_roundw
          case rel => exact ⟨k + 1, m3, s2, ov8, by omega, rfl, by go_num, by rw [HY.out, HST2.out], HS8.out, (HFC.out.trans (FC.below B ovk HB7.out)).trans HC8.out⟩
          case measure => simp [intOf]; omega
    · obtain rfl : k = n := by omega
      have hin : ¬ ((k : Int) < (k : Int)) := by omega
      have hend : endM ls m1 s.O.length (sk, L) = some (s', r) := by
        have := HMM.out
        rw [← HN.out, hlo] at this
        exact this
      unfold endM at hend
      dsimp only at hend
      have HCT := Lib.hid ((HC5.out.trans (FC.below B ov5 HB6.out)).trans hfc)
      clear hlo hfs hfc HLO2 HMM
      by_cases hLm : L < m1
      · rw [if_pos hLm] at hend
        injection hend with hend
        injection hend with h1 h2
        have h3 : ((L : Int) < (m1 : Int)) := by omega
        subst h1 h2
        go_wp2_with fail
        go_ret
        exact ⟨rfl, ovk, HFS.out, HCT.out⟩
      · rw [if_neg hLm] at hend
        have h3 : ¬ ((L : Int) < (m1 : Int)) := by omega
        have hlen : s.O.length < sk.O.length := by
          rcases Nat.lt_or_ge s.O.length sk.O.length with h | h
          · exact h
          · rw [if_pos h] at hend; cases hend
        rw [if_neg (by omega)] at hend
        injection hend with hend
        injection hend with h1 h2
        obtain ⟨Ak, ck, hov, hlc, hcm, hz0, hAk⟩ := HFS.out.oo.form
        obtain ⟨ad, had⟩ : ∃ ad, Ak = some ad := by
          cases Ak with
          | some ad => exact ⟨ad, rfl⟩
          | none => have := hz0 rfl; omega
        obtain ⟨bk, rfl, hbk, hbl⟩ := hAk ad had
        subst had
        obtain ⟨ln, hln⟩ : ∃ ln, ln = sk.O.length := ⟨_, rfl⟩
        rw [← hln] at hov hlc hlen
        rw [← HLO.out] at hlen
        have t2 := HFS.out.bo.cell 0
        simp only [List.getElem?_toArray, List.getElem?_cons_zero] at t2
        rw [hov] at t2
        have HLN := Lib.hid hln
        have HOVK := Lib.hid hov
        have hclo : ¬ (ck = lo) := by omega
        have hl1 : ((lo : Int) ≤ (ln : Int)) := by omega
        have hl2 : ((lo : Int) ≤ (ck : Int)) := by omega
        have hl3 : ((ln : Int) ≤ (ck : Int)) := by omega
        have f2 := HFS.out.bo.frozen 0
        obtain ⟨rl, hrl⟩ : ∃ rl, ln - lo = rl := ⟨_, rfl⟩
        obtain ⟨w9, hw9⟩ : ∃ w9, w9 = wr.setCell ⟨B.a2, 0, none⟩ (.slice (some ⟨bk, 0, none⟩) lo ck) := ⟨_, rfl⟩
        have hcut : OwR wr 3 1 nf (.slice (some ⟨bk, 0, none⟩) lo ck) (sk.O.take lo) := by
          have := HFS.out.oo
          rw [hov] at this
          exact this.cut nf_len (by omega)
        have hS9 := HFS.out.setO (O := sk.O.take lo) (Fr.refl _ _) hcut (fun b hb => Or.inl (by rw [hov]; exact hb)) (fun x hx => HFS.out.ol_ x (List.mem_of_mem_take hx)) (by have := HFS.out.om; rw [List.length_take]; omega)
        rw [← hw9] at hS9
        have HS9 := Lib.hid hS9.1
        have HC9 := Lib.hid (HCT.out.trans hS9.2.1)
        have HRO := Lib.hid (show OwR w9 3 1 nf (.slice (some ⟨bk, 0, none⟩) ln ck) sk.O by
          have h0 := HFS.out.oo
          rw [hov] at h0
          rw [hw9]
          exact h0.keep (fr1 wr B.a2 0 _) fun b e e' => by
            have h4 := HFS.out.new b (by rw [hov]; exact e)
            obtain ⟨o1, o2, o3, o4, o5, o6, o7, o8, o9, og, o0, o2'⟩ := HFS.out.fx.ord
            omega)
        have HBK := Lib.hid (HFS.out.new bk hbk)
        have HRL := Lib.hid hrl
        have HLL := Lib.hid hlen
        have HMEM := Lib.hid HFS.out.ol_
        rw [← HLO.out, ← hln, hrl] at h1
        have HFEW2 := Lib.hid (show ln ≤ 16384 by have := HFS.out.om; have := HFS.out.mm; omega)
        have HEND := Lib.hid h1
        have hr := h2
        clear hz0 hAk hLm hln hov hS9 hcut hlc hcm hlen h1 h2
        subst hr
        go_upto_region 18 with fail
        rw [← hw9]
        clear hw9 t2 f2 hl1 hl2 hl3 hclo hrl h3
        obtain ⟨mn, hmn⟩ : ∃ mn, decide (1 < rl) = mn := ⟨_, rfl⟩
        have hmn2 : decide ((rl : Int) > 1) = mn := by rw [← hmn, decide_eq_decide]; omega
        rw [hmn] at HEND
        obtain ⟨sI, hsI⟩ : ∃ sI : FSt, sI = { sk with O := sk.O.take lo } := ⟨_, rfl⟩
        rw [← hsI] at HEND HS9
        obtain ⟨RG, hRG⟩ : ∃ RG, RG = sk.O.drop lo := ⟨_, rfl⟩
        rw [← hRG] at HEND
        have HRG := Lib.hid hRG
        have HRGL := Lib.hid (show RG.length = rl by rw [hRG, List.length_drop, ← HLN.out, HRL.out])
        clear hsI hRG
        obtain ⟨ov9, hov9⟩ : ∃ ov9, ov9 = Value.slice (some ⟨bk, 0, none⟩) lo ck := ⟨_, rfl⟩
        rw [← hov9] at HS9 HC9
        clear hov9
        go_wp2_with fail
        go_loopw [76] (fun i wi => ∃ j : Nat, j ≤ rl ∧ i = .int .i64 (j : Int) ∧ FS wi B ls ov9 (closeM ls mn (RG.take j) sI) ∧ Fr w9 wi fun b => b = B.nb ∨ b = B.a8) (fun i _ => rl - (intOf i).toNat)
        case atStart => exact ⟨0, by omega, rfl, HS9.out, Fr.refl _ _⟩
        case round =>
          obtain ⟨j, hj, rfl, hfs, hfr⟩ := hrel
          have HFSJ := Lib.hid hfs
          have HFRJ := Lib.hid hfr
          by_cases hlt2 : j < rl
          · have hx : RG[j]? = some (RG[j]'(by have := HRGL.out; omega)) := List.getElem?_eq_getElem _
            generalize RG[j]'(by have := HRGL.out; omega) = x at hx
            have hx2 : sk.O[lo + j]? = some x := by rw [HRG.out, List.getElem?_drop] at hx; exact hx
            have HXL := Lib.hid (HMEM.out x (List.mem_of_getElem? hx2))
            have o0 := ints_at (HRO.out.keep hfr fun b e e' => by
              have := ob e
              have := HBK.out
              obtain ⟨o1, o2, o3, o4, o5, o6, o7, o8, o9, og, o0, o2'⟩ := HS9.out.fx.ord
              omega) hx2
            have t3 := hfs.fx.bn.cell 0
            have t7 := hfs.fx.bc.cell 0
            have hN := hfs.setN x closedN HXL.out
            obtain ⟨g1, g2, g3, g4⟩ := hN
            rw [show ((closedN : Nat) : Int) = 9223372036854775807 from rfl] at g3 g4
            have HTK := Lib.hid (closeM_take (ls := ls) (many := mn) hx sI)
            obtain ⟨w10, hw10⟩ : ∃ w10, w10 = wr.setCell ⟨B.nb, x, none⟩ (.int .i64 9223372036854775807) := ⟨_, rfl⟩
            rw [← hw10] at g3 g4
            have HFR10 := Lib.hid (show Fr w9 w10 fun b => b = B.nb ∨ b = B.a8 by rw [hw10]; exact hfr.same ((fr1 wr B.nb x _).mono fun b _ e => Or.inl e))
            have HS10 := Lib.hid g3
            have t8 := g3.fx.bc.cell 0
            simp only [List.getElem?_toArray, List.getElem?_cons_zero] at t3 t7 t8
            rw [← HN.out] at t3
            have hin : ((j : Int) < (rl : Int)) := by omega
            have hin2 : ((x : Int) < (k : Int)) := by have := HN.out; have := HXL.out; omega
            have e1 : IntKind.i64.wrap ((j : Int) + 1) = ((j + 1 : Nat) : Int) := by rw [IntWalk.i64_in _ (by have := HFEW2.out; have := HRL.out; omega)]; omega
            have HCOME := Lib.hid (come_any w10 B ls ov9 _ HS10.out x HXL.out)
            clear hfs hfr hx hx2 g3 g4 t7
            cases mn with
            | false =>
              rw [if_neg (by decide)] at HTK
              go_wp2_with fail
              rw [← hw10]
              go_roundw
              case rel => exact ⟨j + 1, by omega, by go_num, by rw [HTK.out]; exact HS10.out, HFR10.out⟩
              case measure => simp [intOf]; omega
            | true =>
              rw [if_pos rfl] at HTK
              go_upto_region 23 with fail
              rw [← hw10]
              clear hw10 g1 g2 t3
              go_wp2_with fail
              with_reducible refine HCOME.out.mono ?_
              rintro e w11 ⟨rfl, hs11, hf11⟩
              have HS11 := Lib.hid hs11
              have HF11 := Lib.hid (HFR10.out.same (hf11.mono fun b _ e => Or.inr e))
              clear hs11 hf11
              go_wp2_with fail
              go_roundw
              case rel => exact ⟨j + 1, by omega, by go_num, by rw [HTK.out]; exact HS11.out, HF11.out⟩
              case measure => simp [intOf]; omega
          · obtain rfl : j = rl := by omega
            have hin : ¬ ((j : Int) < (j : Int)) := by omega
            have HE := Lib.hid (show closeM ls mn (RG.take j) sI = s' by rw [← HRGL.out, List.take_length]; exact HEND.out)
            clear hfs hfr
            go_wp2_with fail
            go_ret
            refine ⟨rfl, ov9, by rw [← HE.out]; exact HFSJ.out, HC9.out.trans ⟨HFRJ.out.mono fun b _ hb => ?_, fun b hb => Or.inl hb⟩⟩
            rcases hb with hb | hb
            · exact Or.inr (Or.inr (Or.inl hb))
            · exact Or.inr (Or.inr (Or.inr (Or.inl hb)))
end Go.Proofs.YtlblgfpafdfilaaDoor
