/-
STAGE 12: two tables side by side; the law's does.
-/
import Derived.Test.YtlblgfpafdfilaaDoorNY
import Derived.Test.YtlblgfpafdfilaaDoorNZ
import Derived.Test.YtlblgfpafdfilaaDoorOA
import Derived.Test.YtlblgfpafdfilaaDoorNA
import Derived.Test.YtlblgfpafdfilaaDoorLockNobodyWalk
namespace Go.Proofs.YtlblgfpafdfilaaDoor
open Go.RowKit Go.Sort

/-- the program's table and the document's, by their rows -/
structure P2v (w0 w : World) (g h : Nat) (v1 v2 : Value) (l1 l2 : List LK) : Prop where
  t1 : TB w g v1 l1
  t2 : DB w h v2 l2
  o1 : ∀ b, v1.ownBlock = some b → w0.heap.size ≤ b
  o2 : ∀ b, v2.ownBlock = some b → w0.heap.size ≤ b
  ap : ∀ b, v1.ownBlock = some b → v2.ownBlock ≠ some b
  bel : RowKit.Below w0.heap.size w0 w
  g0 : w0.heap.size ≤ g
  h0 : w0.heap.size ≤ h
  two : 2 ≤ w0.heap.size
  gw : Gw w
def P2 (w0 w : World) (g h : Nat) (l1 l2 : List LK) : Prop := ∃ v1 v2, P2v w0 w g h v1 v2 l1 l2
section
variable {w0 w w' : World} {g h : Nat} {v1 v2 v' : Value} {l1 l2 l' : List LK}
theorem P2v.up (p : P2v w0 w g h v1 v2 l1 l2) (hb : RowKit.Below w.heap.size w w') : P2v w0 w' g h v1 v2 l1 l2 :=
  ⟨p.t1.up hb, p.t2.up hb, p.o1, p.o2, p.ap, p.bel.trans (hb.mono p.bel.size), p.g0, p.h0, p.two, p.gw.below hb⟩
theorem P2.up (p : P2 w0 w g h l1 l2) (hb : RowKit.Below w.heap.size w w') : P2 w0 w' g h l1 l2 := by
  obtain ⟨v1, v2, p⟩ := p
  exact ⟨v1, v2, p.up hb⟩
theorem P2v.ne (p : P2v w0 w g h v1 v2 l1 l2) : h ≠ g := Blk.ne_ p.t2.blk p.t1.blk (by decide)
/-- the program's table has changed -/
theorem P2v.chg1 (p : P2v w0 w g h v1 v2 l1 l2) (hc : Chg w w' g v1 v' l') : P2v w0 w' g h v' v2 l' l2 := by
  refine ⟨hc.tb, p.t2.keep hc.fr (fun e => ?_) (fun b hb e => ?_), fun b hb => ?_, p.o2, fun b hb e => ?_, ?_, p.g0, p.h0, p.two, hc.gw p.t1 p.gw⟩
  · rcases e with e | e
    · exact p.ne e
    · exact Blk.own_ne p.t2.blk p.t1.own (by decide) e.symm
  · rcases e with e | e
    · rw [e] at hb; exact Blk.own_ne p.t1.blk p.t2.own (by decide) hb.symm
    · exact p.ap b e hb
  · rcases hc.own b hb with e | e
    · exact p.o1 b e
    · exact Nat.le_trans p.bel.size e
  · rcases hc.own b hb with e' | e'
    · exact p.ap b e' e
    · have := p.t2.own.lt e; omega
  · exact p.bel.trans (hc.fr.below (fun b e => e.elim (fun e => by rw [e]; exact p.g0) (p.o1 b)) p.bel.size)
/-- the document's table has changed -/
theorem P2v.chg2 (p : P2v w0 w g h v1 v2 l1 l2) (hc : DChg w w' h v2 v' l') : P2v w0 w' g h v1 v' l1 l' := by
  refine ⟨p.t1.keep hc.fr (fun e => ?_) (fun b hb e => ?_), hc.tb, p.o1, fun b hb => ?_, fun b hb e => ?_, ?_, p.g0, p.h0, p.two, p.gw.keep hc.fr fun b e => ?_⟩
  · rcases e with e | e
    · exact p.ne e.symm
    · exact Blk.own_ne p.t1.blk p.t2.own (by decide) e.symm
  · rcases e with e | e
    · rw [e] at hb; exact Blk.own_ne p.t2.blk p.t1.own (by decide) hb.symm
    · exact p.ap b hb e
  · rcases hc.own b hb with e | e
    · exact p.o2 b e
    · exact Nat.le_trans p.bel.size e
  · rcases hc.own b e with e' | e'
    · exact p.ap b hb e'
    · have := p.t1.own.lt hb; omega
  · exact p.bel.trans (hc.fr.below (fun b e => e.elim (fun e => by rw [e]; exact p.h0) (p.o2 b)) p.bel.size)
  · rcases e with e | e
    · rw [e]; exact Nat.le_trans p.two p.h0
    · exact Nat.le_trans p.two (p.o2 b e)
theorem RelD.chg {st : List LK × List Nat} {vo : Value} (r : RelD w h v' st vo w') : DChg w w' h v2 v' st.1 := ⟨r.tb, r.fr.mono fun _ _ e => Or.inl e, fun b e => Or.inr (r.own b e)⟩
/-- a block of another kind stays -/
theorem P2v.blk1 (p : P2v w0 w g h v1 v2 l1 l2) (hc : Chg w w' g v1 v' l') {a : Nat} {ty : TypeId} {cs : Array Value} (hk : Blk w a ty cs) (h1 : ty ≠ 29) (h2 : ty ≠ 46) : Blk w' a ty cs := hk.keep hc.fr fun e => by
  rcases e with e | e
  · exact Blk.ne_ hk p.t1.blk h1 e
  · exact Blk.own_ne hk p.t1.own (fun e => h2 e.symm) e.symm
theorem P2v.blk2 (p : P2v w0 w g h v1 v2 l1 l2) (hc : DChg w w' h v2 v' l') {a : Nat} {ty : TypeId} {cs : Array Value} (hk : Blk w a ty cs) (h1 : ty ≠ 32) (h2 : ty ≠ 46) : Blk w' a ty cs := hk.keep hc.fr fun e => by
  rcases e with e | e
  · exact Blk.ne_ hk p.t2.blk h1 e
  · exact Blk.own_ne hk p.t2.own (fun e => h2 e.symm) e.symm
end
/-- what lies beside: a block of another kind than the tables' -/
def Oth (w w' : World) : Prop := ∀ a ty cs, Blk w a ty cs → ty ≠ 46 → ty ≠ 29 → ty ≠ 32 → Blk w' a ty cs
theorem Oth.below {w w' : World} (hb : RowKit.Below w.heap.size w w') : Oth w w' := fun _ _ _ hk _ _ _ => hk.below hb hk.lt
theorem Oth.trans {a b c : World} (h : Oth a b) (k : Oth b c) : Oth a c := fun x ty cs hk h1 h2 h3 => k x ty cs (h x ty cs hk h1 h2 h3) h1 h2 h3
section
variable {w0 w : World} {g h : Nat} {l1 l2 : List LK}
theorem P2.ask1 (p : P2 w0 w g h l1 l2) (t : Nat) (x : Th) (m : Int) (ht : t < 4294967296) (hi : x.i < 4294967296) (hA : x.a.size ≤ 9223372036854775807) (hB : x.b.size ≤ 9223372036854775807) :
    Calls Tryd.prog 20 #[.pointer (some ⟨g, 0, none⟩), .int .u32 (t : Int), x.agg, .int .i64 m] w fun e w' => e = .returned (.tuple #[.bool (askM t x m l1).1.1, .int .i64 ((askM t x m l1).1.2 : Int)]) ∧ P2 w0 w' g h (askM t x m l1).2 l2 ∧ Oth w w' := by
  obtain ⟨v1, v2, p⟩ := p
  exact (ask_any t x m g v1 l1 w p.t1 p.gw ht hi hA hB).mono fun e w' ⟨he, v', hc⟩ => ⟨he, ⟨v', v2, p.chg1 hc⟩, fun a ty cs hk h1 h2 _ => p.blk1 hc hk h2 h1⟩
theorem P2.ask2 (p : P2 w0 w g h l1 l2) (hI : Inv l2) (t : Nat) (x : Th) (m : Int) (ht : t < 4294967296) (hi : x.i < 4294967296) (hA : x.a.size ≤ 9223372036854775807) (hB : x.b.size ≤ 9223372036854775807) :
    Calls Tryd.prog 26 #[.pointer (some ⟨h, 0, none⟩), .int .u32 (t : Int), x.agg, .int .i64 m] w fun e w' => e = .returned (.tuple #[.bool (askM t x m l2).1.1, .int .i64 ((askM t x m l2).1.2 : Int)]) ∧ P2 w0 w' g h l1 (askM t x m l2).2 ∧ Oth w w' := by
  obtain ⟨v1, v2, p⟩ := p
  exact (rask_any t x m h v2 l2 w p.t2 hI ht hi hA hB).mono fun e w' ⟨he, v', hc⟩ => ⟨he, ⟨v1, v', p.chg2 hc⟩, fun a ty cs hk h1 _ h3 => p.blk2 hc hk h3 h1⟩
theorem P2.rel1 (p : P2 w0 w g h l1 l2) (t : Nat) :
    Calls Tryd.prog 19 #[.pointer (some ⟨g, 0, none⟩), .int .u32 (t : Int)] w fun e w' => (∃ vg, e = .returned vg ∧ OwR w' 34 1 uf vg (releaseM t l1).2) ∧ P2 w0 w' g h (releaseM t l1).1 l2 ∧ Oth w w' := by
  obtain ⟨v1, v2, p⟩ := p
  exact (release_any t g v1 l1 w p.t1 p.gw).mono fun e w' ⟨vg, v', he, ho, _, hc⟩ => ⟨⟨vg, he, ho⟩, ⟨v', v2, p.chg1 hc⟩, fun a ty cs hk h1 h2 _ => p.blk1 hc hk h2 h1⟩
theorem P2.rel2 (p : P2 w0 w g h l1 l2) (hI : Inv l2) (t : Nat) :
    Calls Tryd.prog 28 #[.pointer (some ⟨h, 0, none⟩), .int .u32 (t : Int)] w fun e w' => (∃ vg, e = .returned vg ∧ OwR w' 34 1 uf vg (releaseM t l2).2) ∧ P2 w0 w' g h l1 (releaseM t l2).1 ∧ Oth w w' := by
  obtain ⟨v1, v2, p⟩ := p
  exact (rrelease_any t h v2 l2 w p.t2 hI).mono fun e w' ⟨vo, v', he, hr⟩ => ⟨⟨vo, he, hr.got⟩, ⟨v1, v', p.chg2 (v2 := v2) hr.chg⟩, fun a ty cs hk h1 _ h3 => p.blk2 (v' := v') (hr.chg) hk h3 h1⟩
theorem P2.has1 (p : P2 w0 w g h l1 l2) (t : Nat) (x : Th) (m : Int) (hA : x.a.size ≤ 9223372036854775807) (hB : x.b.size ≤ 9223372036854775807) :
    Calls Tryd.prog 21 #[.pointer (some ⟨g, 0, none⟩), .int .u32 (t : Int), x.agg, .int .i64 m] w fun e w' => e = .returned (.bool (hasM t x m l1)) ∧ Below w.heap.size w w' := by
  obtain ⟨v1, v2, p⟩ := p
  obtain ⟨A, c, _, _, _, hTR⟩ := p.t1.tr
  exact has_any g A c l1 w hTR p.gw t x m hA hB
theorem P2.has2 (p : P2 w0 w g h l1 l2) (hI : Inv l2) (t : Nat) (x : Th) (m : Int) (hA : x.a.size ≤ 9223372036854775807) (hB : x.b.size ≤ 9223372036854775807) :
    Calls Tryd.prog 29 #[.pointer (some ⟨h, 0, none⟩), .int .u32 (t : Int), x.agg, .int .i64 m] w fun e w' => e = .returned (.bool (hasM t x m l2)) ∧ Below w.heap.size w w' := by
  obtain ⟨v1, v2, p⟩ := p
  obtain ⟨A, c, _, _, _, hTR⟩ := p.t2.tr
  exact rhas_any h A c l2 w hTR hI.good t x m hA hB
end
theorem own_oth {w w' : World} {v : Value} {gs : List Nat} (h : OwR w 34 1 uf v gs) (hk : Oth w w') : OwR w' 34 1 uf v gs := by
  refine ⟨h.1, ?_⟩
  rcases h.2 with h2 | ⟨g, cap, cur, hv, hg, hh, r⟩
  · exact Or.inl h2
  · exact Or.inr ⟨g, cap, cur, hv, hg, hk g 34 cur hh (by decide) (by decide) (by decide), r⟩
def AV.agg (v : AV) : Value := .agg #[.int .i64 v.d, .int .u32 (v.t : Int), .bool v.x.r, .int .u32 (v.x.i : Int), .string v.x.a, .string v.x.b, .int .i64 v.m]
theorem release_len (t : Nat) (ls : List LK) (h : ls.length ≤ 16384) : (releaseM t ls).2.length ≤ 16384 := by
  unfold releaseM
  have h1 := (passM_len (keptM t ls) (keptM t ls).length).2
  have h2 : (keptM t ls).length ≤ ls.length := List.length_filter_le _ _
  omega
set_option maxRecDepth 100000 in
set_option maxHeartbeats 8000000 in
theorem does_any (w0 w : World) (g h : Nat) (ls : List LK) (v : AV) (hv : v.Ok) (p : P2 w0 w g h ls ls) (hI : Inv ls) :
    Calls Tryd.prog 11 #[.pointer (some ⟨g, 0, none⟩), .pointer (some ⟨h, 0, none⟩), v.agg] w fun e w' => e = .returned (.bool true) ∧ P2 w0 w' g h (actM ls v) (actM ls v) := by
  obtain ⟨w1, hw1⟩ : ∃ w1, w1 = w.alloc (.cells #[.int .i64 v.d, .int .u32 (v.t : Int), .bool v.x.r, .int .u32 (v.x.i : Int), .string v.x.a, .string v.x.b, .int .i64 v.m] 38) := ⟨_, rfl⟩
  have hb1 : Below w.heap.size w w1 := by rw [hw1]; exact (Below.refl _ _).alloc (Nat.le_refl _) _
  have hk1 : Blk w1 w.heap.size 38 #[.int .i64 v.d, .int .u32 (v.t : Int), .bool v.x.r, .int .u32 (v.x.i : Int), .string v.x.a, .string v.x.b, .int .i64 v.m] := by rw [hw1]; exact Blk.new _ _ _
  have HP := Lib.hid (p.up hb1)
  have HI := Lib.hid hI
  have HV := Lib.hid hv
  have HF := Lib.hid (show ls.length ≤ 16384 by obtain ⟨_, _, q⟩ := p; exact q.t1.few)
  have HK := Lib.hid hk1
  obtain ⟨gx, hgx⟩ : ∃ gx, gx = w.heap.size := ⟨_, rfl⟩
  rw [← hgx] at HK hk1
  have HGX := Lib.hid hgx
  have hACT : actM ls v = if v.d = 0 then (askM v.t v.x v.m ls).2 else if v.d = 1 then (releaseM v.t ls).1 else ls := rfl
  have HACT := Lib.hid hACT
  have HA1 := Lib.hid ((p.up hb1).ask1 v.t v.x v.m hv.t hv.i hv.a hv.b)
  have HA2 := Lib.hid (fun W l (q : P2 w0 W g h l ls) => q.ask2 hI v.t v.x v.m hv.t hv.i hv.a hv.b)
  have HH1 := Lib.hid (fun W (q : P2 w0 W g h ls ls) => q.has1 v.t v.x v.m hv.a hv.b)
  have HH2 := Lib.hid (fun W (q : P2 w0 W g h ls ls) => q.has2 hI v.t v.x v.m hv.a hv.b)
  have HR1 := Lib.hid (fun W (q : P2 w0 W g h ls ls) => q.rel1 v.t)
  have HR2 := Lib.hid (fun W l (q : P2 w0 W g h l ls) => q.rel2 hI v.t)
  obtain ⟨vd, vt, ⟨xr, xi, xa, xb⟩, vm⟩ := v
  have k0 := hk1.cell 0
  obtain ⟨k1, k2, k3, k4, k5, k6⟩ := lockNobody.act_cells hk1
  simp only [List.getElem?_toArray, List.getElem?_cons_zero] at k0
  simp only [AV.agg, Th.agg] at hw1 HACT HA1 HA2 HH1 HH2 HR1 HR2 ⊢
  clear hb1 hk1 p hI hv hgx hACT
  go_enter Tryd.func11, Tryd.ntmps11
  go_upto_region 1 with fail
  rw [← hw1, ← HGX.out]
  clear hw1
  by_cases hd : vd = 0
  · subst hd
    rw [if_pos rfl] at HACT
    generalize askM vt ⟨xr, xi, xa, xb⟩ vm ls = rr at HA1 HA2 HACT
    obtain ⟨⟨hb, en⟩, ls2⟩ := rr
    simp only at HA1 HA2 HACT
    go_upto_region 5 with (first
      | (go_at_call 20; go_loud (with_reducible refine HA1.out.mono ?_; rintro e w3 ⟨rfl, hp3, ho3⟩; have HP3 := Lib.hid hp3); have HK3 := Lib.hid (ho3 _ _ _ HK.out (by decide) (by decide) (by decide)); obtain ⟨k1, k2, k3, k4, k5, k6⟩ := lockNobody.act_cells HK3.out; clear hp3 ho3)
      | (go_at_call 26; go_loud (with_reducible refine (HA2.out _ _ HP3.out).mono ?_; rintro e w4 ⟨rfl, hp4, _⟩; have HP4 := Lib.hid hp4); clear hp4))
    have hbb : (hb == hb) = true := by simp
    have hee : ((en : Int) == (en : Int)) = true := by simp
    go_wp2_with fail
    go_ret
    exact ⟨by simp, by rw [HACT.out]; exact HP4.out⟩
  · rw [if_neg hd] at HACT
    have hd0 : (vd == 0) = false := beq_eq_false_iff_ne.2 hd
    by_cases hd1 : vd = 1
    · subst hd1
      rw [if_pos rfl] at HACT
      go_upto_region 7 with fail
      have HR1d := Lib.hid (HR1.out _ (HP.out.up (Below.refl _ _).drew))
      have HNU := Lib.hid (fun W A A2 n c c2 (ps : List Nat) (h1 : ps.length = n) (h2 : UR W A ps) (h3 : UR W A2 ps) (h4 : n ≤ 1000000000) => numbers_any W A A2 n c c2 ps h1 h2 h3 h4)
      have HRL := Lib.hid (release_len vt ls HF.out)
      generalize releaseM vt ls = rr at HR1d HR2 HACT HRL
      obtain ⟨ls2, got⟩ := rr
      simp only at HR1d HR2 HACT HRL
      obtain ⟨ng, hng⟩ : ∃ ng, got.length = ng := ⟨_, rfl⟩
      have HNG := Lib.hid hng
      clear k0 k2 k3 k4 k5 k6 hng HA1 HA2 HH1 HH2
      go_region_held3 (fun w' => w'.cell? ⟨gx, 1, none⟩ = some (.int .u32 (vt : Int))) (first | assumption | go_simp) (first
        | (go_at_call 19; go_loud (with_reducible refine HR1d.out.mono ?_; rintro e w3 ⟨⟨vg, hev, hog⟩, hp3, ho3⟩; subst hev); obtain ⟨A3, c3, hv3, _⟩ := hog.form; rw [HNG.out] at hv3; subst hv3; have HOG := Lib.hid hog; have HP3 := Lib.hid hp3; have HK3 := Lib.hid (ho3 _ _ _ (HK.out.drew) (by decide) (by decide) (by decide)); obtain ⟨q1, _, _, _, _, _⟩ := lockNobody.act_cells HK3.out; clear hog hp3 ho3)
        | (go_at_call 28; go_loud (with_reducible refine (HR2.out _ _ HP3.out).mono ?_; rintro e w4 ⟨⟨vg, hev, hog⟩, hp4, ho4⟩; subst hev); obtain ⟨A4, c4, hv4, _⟩ := hog.form; rw [HNG.out] at hv4; subst hv4; have HOG4 := Lib.hid hog; have HOG3 := Lib.hid (own_oth HOG.out ho4); have HP4 := Lib.hid hp4; have HK4 := Lib.hid (ho4 _ _ _ HK3.out (by decide) (by decide) (by decide)); obtain ⟨r1, _, _, _, _, _⟩ := lockNobody.act_cells HK4.out; clear hog hp4 ho4)
        | (go_at_call 27; with_reducible refine (HNU.out _ _ _ _ _ _ got HNG.out HOG3.out.ur HOG4.out.ur (by have := HRL.out; have := HNG.out; omega)).mono ?_; rintro e w5 ⟨rfl, hb5⟩; have HP5 := Lib.hid (HP4.out.up hb5); obtain ⟨s1, _, _, _, _, _⟩ := lockNobody.act_cells (HK4.out.below hb5 HK4.out.lt); clear hb5))
      go_wp2_with fail
      go_ret
      exact ⟨rfl, by rw [HACT.out]; exact HP5.out⟩
    · rw [if_neg hd1] at HACT
      have hd2 : (vd == 1) = false := beq_eq_false_iff_ne.2 hd1
      by_cases hd3 : vd = 2
      · subst hd3
        go_upto_region 9 with fail
        have y1 := fun d os => cell_regrown k1 d os
        have y2 := fun d os => cell_regrown k2 d os
        have y3 := fun d os => cell_regrown k3 d os
        have y4 := fun d os => cell_regrown k4 d os
        have y5 := fun d os => cell_regrown k5 d os
        have y6 := fun d os => cell_regrown k6 d os
        have HG1 := Lib.hid (fun d os => HH1.out (grow (redrawn w1 d) os) (HP.out.up (below_regrown _ _ _)))
        have HG2 := Lib.hid (fun d os => HH2.out (grow (redrawn w1 d) os) (HP.out.up (below_regrown _ _ _)))
        generalize hasM vt ⟨xr, xi, xa, xb⟩ vm ls = r at HG1 HG2
        have hrr : (r == r) = true := by simp
        refine wp_region_quiet_below (by kernel_rfl) (by kernel_rfl) ?_
        repeat (go_big_quiet_step (first | (go_at_call 21; with_reducible exact Calls.regrown_of (HG1.out _ _)) | (go_at_call 29; with_reducible exact Calls.regrown_of (HG2.out _ _))))
        refine wpQuiet_nil ?_
        rintro W3 ⟨pp, hpp⟩
        have HB4 := Lib.hid (show Below w1.heap.size w1 W3 by rw [hpp]; exact below_regrown _ _ _)
        clear hpp y1 y2 y3 y4 y5 y6 k0 k1 k2 k3 k4 k5 k6
        go_wp2_with fail
        go_ret
        exact ⟨by simp, by rw [HACT.out]; exact HP.out.up HB4.out⟩
      · have hd4 : (vd == 2) = false := beq_eq_false_iff_ne.2 hd3
        go_wp2_with fail
        go_ret
        exact ⟨rfl, by rw [HACT.out]; exact HP.out⟩
end Go.Proofs.YtlblgfpafdfilaaDoor
