/-
UF UH UI
-/
import Derived.Test.YtdhgbkibbileiaaGreatUA
import Derived.Test.YtdhgbkibbileiaaGreatSB
import Derived.Test.YtdhgbkibbileiaaGreatSO
import Derived.Test.YtdhgbkibbileiaaGreatTF
import Derived.Test.YtdhgbkibbileiaaGreatSD
import Derived.OrdersHeld
import Derived.Deep.Cut
import Derived.Deep.RegionHeld
namespace Go.Proofs.YtdhgbkibbileiaaGreat
open Go.RowKit
theorem unfix2 {l : List Nat} (h : 2 ≤ l.length) : Cd.unfix (l.take 2) = l.getD 0 0 + 256 * l.getD 1 0 := by
 match l, h with
 | a :: b :: t, _ => simp [Cd.unfix]
theorem rLC_kk (n : Nat) (ok : Bool) (l : List Nat) : ∀ c ∈ (rLC n ok l).1, c.k < 4294967296 := by
 induction n generalizing ok l with
 | zero => intro c hc; cases hc
 | succ n ih =>
   cases ok with
   | false => rw [rLC_no]; intro c hc; cases hc
   | true =>
     intro c hc
     simp only [rLC, if_true, List.mem_cons] at hc
     rcases hc with rfl | hc
     ·exact rC_k true l
     ·exact ih _ _ c hc
theorem rLJ_In (n : Nat) (ok : Bool) (l : List Nat) : ∀ x ∈ (rLJ n ok l).1, x.In := by
 induction n generalizing ok l with
 | zero => intro c hc; cases hc
 | succ n ih =>
   cases ok with
   | false => rw [rLJ_no]; intro c hc; cases hc
   | true =>
     intro c hc
     simp only [rLJ, if_true, List.mem_cons] at hc
     rcases hc with rfl | hc
     ·exact ⟨n32_lt _, n32_lt _, fun c hc => rLC_kk _ _ _ c hc⟩
     ·exact ih _ _ c hc
theorem rLV_Ok (n : Nat) (ok : Bool) (l : List Nat) : ∀ x ∈ (rLV n ok l).1, x.Ok := by
 induction n generalizing ok l with
 | zero => intro c hc; cases hc
 | succ n ih =>
   cases ok with
   | false => rw [rLV_no]; intro c hc; cases hc
   | true =>
     intro c hc
     simp only [rLV, if_true, List.mem_cons] at hc
     rcases hc with rfl | hc
     ·exact ⟨n32_lt _, front_val_lt _ _, front_val_lt _ _⟩
     ·exact ih _ _ c hc
theorem rLD_Ok (n : Nat) (ok : Bool) (l : List Nat) : ∀ x ∈ (rLD n ok l).1, x.Ok := by
 induction n generalizing ok l with
 | zero => intro c hc; cases hc
 | succ n ih =>
   cases ok with
   | false => rw [rLD_no]; intro c hc; cases hc
   | true =>
     intro c hc
     simp only [rLD, if_true, List.mem_cons] at hc
     rcases hc with rfl | hc
     ·exact ⟨n32_lt _, front_val_lt _ _⟩
     ·exact ih _ _ c hc
theorem fsteps_In (k : Int) : ∀ m ∈ fsteps k, ∀ r ok l, l.length ≤ 20000 → r.In → (m.2 r ok l).1.In := by
 intro m hm r ok l hl h
 unfold fsteps at hm
 simp only [List.mem_cons, List.not_mem_nil, or_false] at hm
 have hli := rI_le ok l
 rcases hm with rfl | rfl | rfl | rfl | rfl | rfl | rfl | rfl | rfl | rfl
 ·exact { h with t := n32_lt _ }
 ·exact { h with a := front_val_lt _ _ }
 ·exact { h with b := front_val_lt _ _ }
 ·exact { h with pg := n32_lt _ }
 ·exact { h with rt := n32_lt _ }
 ·exact { h with o := n32_lt _ }
 ·obtain ⟨h1, _⟩ := rLJ_sum (rI ok l).1 (rI ok l).2.1 (rI ok l).2.2 (by omega)
  exact { h with i := rLJ_In _ _ _, il := (by show (rLJ _ _ _).1.length < _; omega) }
 ·have h1 := rLV_sum (rI ok l).1 (rI ok l).2.1 (rI ok l).2.2
  exact { h with l := rLV_Ok _ _ _, ll := (by show (rLV _ _ _).1.length < _; omega) }
 ·have h1 := rLD_sum (rI ok l).1 (rI ok l).2.1 (rI ok l).2.2
  exact { h with d := rLD_Ok _ _ _, dl := (by show (rLD _ _ _).1.length < _; omega) }
 ·exact { h with nx := n32_lt _ }
theorem runS_In (ms : List (Bool × Step)) (hms : ∀ m ∈ ms, (∀ r ok l, l.length ≤ 20000 → r.In → (m.2 r ok l).1.In) ∧ ∀ r ok l, (m.2 r ok l).2.2.length ≤ l.length) (r : RE) (ok : Bool) (l : List Nat) (hl : l.length ≤ 20000) (h : r.In) : (runS ms r ok l).1.In := by
 induction ms generalizing r ok l with
 | nil => exact h
 | cons m ms ih =>
   obtain ⟨a, b⟩ := hms m List.mem_cons_self
   have hms' := fun m hm => hms m (List.mem_cons_of_mem _ hm)
   cases hb : m.1 with
   | true =>
     simp only [runS, hb, if_true]
     exact ih hms' _ _ _ (Nat.le_trans (b r ok l) hl) (a r ok l hl h)
   | false =>
     simp only [runS, hb, Bool.false_eq_true, if_false]
     exact ih hms' r ok l hl h
theorem readR_In (l : List Nat) (hl : l.length ≤ 20000) : (readR l).In :=
 runS_In _ (fun m hm => ⟨fsteps_In _ m hm, fsteps_le _ m hm⟩) _ _ _ (Nat.le_trans (rB_le true l) hl) ⟨(by show (0 : Nat) < _; decide), (by show (0 : Nat) < _; decide), (by show (0 : Nat) < _; decide), (by show (0 : Nat) < _; decide), (by show (0 : Nat) < _; decide), (by show (0 : Nat) < _; decide), (by show (0 : Nat) < _; decide), (fun x hx => by cases hx), (fun x hx => by cases hx), (fun x hx => by cases hx), (by show (0 : Nat) < _; decide), (by show (0 : Nat) < _; decide), (by show (0 : Nat) < _; decide)⟩
theorem bare_self {r : RE} (h : r.s = 0) : r.bare = r := by
 obtain ⟨k, s, t, a, b, pg, rt, o, il, ll, dl, nx⟩ := r
 simp only at h
 subst h
 rfl
theorem doc_yes {rd : RE} {x : List Nat} (hin : rd.In) (hs : rd.s = 0) (h : bytesE rd = x) (hx : x ≠ []) : bytesE (readR (x.drop 2)) = x ∧ readR (x.drop 2) = rd := by
 subst h
 obtain ⟨hf, ho, _, e⟩ := bytesE_yes hx
 have h1 : (bytesE rd).drop 2 = encE rd := by
  rw [e, List.drop_append_of_le_length (by rw [Cd.fixB_len]; exact Nat.le_refl _), List.drop_of_length_le (by rw [Cd.fixB_len]; exact Nat.le_refl _), List.nil_append]
 have h2 : readR ((bytesE rd).drop 2) = rd := by rw [h1, readR_enc hin hf ho, bare_self hs]
 exact ⟨by rw [h2], h2⟩
theorem doc_no {x : List Nat} (hl : x.length ≤ 20000) (h : bytesE (readR (x.drop 2)) = x) (hx : x ≠ []) : dR ((x.getD 2 0 : Nat) : Int) true (x.drop 3) = (readR (x.drop 2), true, []) := by
 obtain ⟨R, hR⟩ : ∃ R, R = readR (x.drop 2) := ⟨_, rfl⟩
 have hin : R.In := by rw [hR]; exact readR_In _ (by rw [List.length_drop]; omega)
 have hs : R.s = 0 := by rw [hR]; exact (readR_brief _ (by rw [List.length_drop]; omega)).2.1
 rw [← hR] at h ⊢
 have hne : bytesE R ≠ [] := by rw [h]; exact hx
 obtain ⟨hf, ho, _, _⟩ := bytesE_yes hne
 obtain ⟨hsh, _⟩ := bytesE_shape hne
 have hk := bytesE_kinds hne
 have hfl : Cd.fixB 2 ((fieldsE R).length + 3) = [(((fieldsE R).length + 3) % 256), ((((fieldsE R).length + 3) / 256) % 256)] := by simp [Cd.fixB]
 have hx2 : x.getD 2 0 = kb R.k := by rw [← h, hsh, hfl]; simp
 have hx3 : x.drop 3 = fieldsE R := by rw [← h, hsh, hfl]; simp
 have hkk : ((kb R.k : Nat) : Int) = R.k := by unfold kb; omega
 rw [hx2, hx3, hkk, dR_enc hin hf ho, bare_self hs]
theorem decR_accepts {l : List Nat} {rd : RE} (h2 : 2 ≤ l.length) (h3 : 3 ≤ Cd.unfix (l.take 2) ∧ Cd.unfix (l.take 2) ≤ 16384) (hl : Cd.unfix (l.take 2) ≤ l.length) (hin : rd.In) (hs : rd.s = 0) (h : bytesE rd = l.take (Cd.unfix (l.take 2))) : decR l = (rd, Cd.unfix (l.take 2), 0) := by
 have hne : l.take (Cd.unfix (l.take 2)) ≠ [] := fun he => by have := congrArg List.length he; rw [List.length_take] at this; simp only [List.length_nil] at this; omega
 obtain ⟨a, b⟩ := doc_yes hin hs h hne
 unfold decR
 rw [if_neg (by omega), if_neg (by omega), if_neg (by omega), if_pos a, b]
theorem decR_refuses {l : List Nat} (h2 : 2 ≤ l.length) (h3 : 3 ≤ Cd.unfix (l.take 2) ∧ Cd.unfix (l.take 2) ≤ 16384) (hl : Cd.unfix (l.take 2) ≤ l.length)
  (h : ¬ ((dR ((l.getD 2 0 : Nat) : Int) true ((l.take (Cd.unfix (l.take 2))).drop 3)).2 = (true, []) ∧ bytesE (dR ((l.getD 2 0 : Nat) : Int) true ((l.take (Cd.unfix (l.take 2))).drop 3)).1 = l.take (Cd.unfix (l.take 2)))) : decR l = (zE, 0, 5) := by
 obtain ⟨N, hN⟩ : ∃ N, N = Cd.unfix (l.take 2) := ⟨_, rfl⟩
 unfold decR
 rw [if_neg (by omega), if_neg (by omega), if_neg (by omega)]
 rw [← hN] at h h3 hl ⊢
 have hne : l.take N ≠ [] := fun he => by have := congrArg List.length he; rw [List.length_take] at this; simp only [List.length_nil] at this; omega
 refine if_neg fun hb => h ?_
 have h7 := doc_no (x := l.take N) (by rw [List.length_take]; omega) hb hne
 have h8 : (l.take N).getD 2 0 = l.getD 2 0 := by
  simp only [List.getD_eq_getElem?_getD, List.getElem?_take]
  rw [if_pos (by omega)]
 rw [h8] at h7
 rw [h7]
 exact ⟨rfl, hb⟩
end Go.Proofs.YtdhgbkibbileiaaGreat
set_option maxRecDepth 100000
namespace Go.Proofs.YtdhgbkibbileiaaGreat
open Go.RowKit
structure Sp (B : Nat) (w w' : World) : Prop where
 bel : Below B w w'
 u8 : ∀ (p : Addr) (x : Nat), w.cell? p = some (.int .u8 (x : Int)) → x < 256 → ∃ y : Nat, y < 256 ∧ w'.cell? p = some (.int .u8 (y : Int))
 u32 : ∀ (p : Addr) (x : Nat), w.cell? p = some (.int .u32 (x : Int)) → ∃ y : Nat, w'.cell? p = some (.int .u32 (y : Int))
 sl : ∀ (p : Addr) (A : Option Addr) (n c : Nat), w.cell? p = some (.slice A n c) → w'.cell? p = some (.slice A n c)
 fz : ∀ p, w'.frozen? p = w.frozen? p
theorem Sp.refl (B : Nat) (w : World) : Sp B w w := ⟨Below.refl _ _, fun _ x h hx => ⟨x, hx, h⟩, fun _ x h => ⟨x, h⟩, fun _ _ _ _ h => h, fun _ => rfl⟩
theorem Sp.drew {B : Nat} {w w' : World} (h : Sp B w w') : Sp B w w'.drew := ⟨h.bel.drew, h.u8, h.u32, h.sl, h.fz⟩
theorem Sp.trans {B : Nat} {a b c : World} (h : Sp B a b) (k : Sp B b c) : Sp B a c :=
 ⟨h.bel.trans k.bel, fun p x hp hx => by obtain ⟨y, hy, hc⟩ := h.u8 p x hp hx; exact k.u8 p y hc hy, fun p x hp => by obtain ⟨y, hc⟩ := h.u32 p x hp; exact k.u32 p y hc, fun p A n c hp => k.sl _ _ _ _ (h.sl _ _ _ _ hp), fun p => (k.fz p).trans (h.fz p)⟩
theorem Sp.set8 {B : Nat} {w w' : World} (h : Sp B w w') {p : Addr} {x y : Nat} (hc : w'.cell? p = some (.int .u8 (x : Int))) (hp : B ≤ p.block) (hy : y < 256) : Sp B w (w'.setCell p (.int .u8 (y : Int))) := by
 refine ⟨h.bel.setCell hp _, fun q z hq hz => ?_, fun q z hq => ?_, fun q A n c hq => ?_, fun q => by rw [World.frozen?_setCell]; exact h.fz q⟩
 ·obtain ⟨u, hu, hc2⟩ := h.u8 q z hq hz
  by_cases e : p = q
  ·subst e
   exact ⟨y, hy, World.cell?_setCell_same _ _ _ hc⟩
  ·exact ⟨u, hu, (World.cell?_setCell_other _ _ _ _ e).trans hc2⟩
 ·obtain ⟨u, hc2⟩ := h.u32 q z hq
  by_cases e : p = q
  ·subst e
   rw [hc] at hc2
   injection hc2 with hc2
   injection hc2 with hc2
   cases hc2
  ·exact ⟨u, (World.cell?_setCell_other _ _ _ _ e).trans hc2⟩
 ·have hc2 := h.sl q A n c hq
  by_cases e : p = q
  ·subst e
   rw [hc] at hc2
   cases hc2
  ·exact (World.cell?_setCell_other _ _ _ _ e).trans hc2
theorem Sp.set32 {B : Nat} {w w' : World} (h : Sp B w w') {p : Addr} {x y : Nat} (hc : w'.cell? p = some (.int .u32 (x : Int))) (hp : B ≤ p.block) : Sp B w (w'.setCell p (.int .u32 (y : Int))) := by
 refine ⟨h.bel.setCell hp _, fun q z hq hz => ?_, fun q z hq => ?_, fun q A n c hq => ?_, fun q => by rw [World.frozen?_setCell]; exact h.fz q⟩
 ·obtain ⟨u, hu, hc2⟩ := h.u8 q z hq hz
  by_cases e : p = q
  ·subst e
   rw [hc] at hc2
   injection hc2 with hc2
   injection hc2 with hc2
   cases hc2
  ·exact ⟨u, hu, (World.cell?_setCell_other _ _ _ _ e).trans hc2⟩
 ·obtain ⟨u, hc2⟩ := h.u32 q z hq
  by_cases e : p = q
  ·subst e
   exact ⟨y, World.cell?_setCell_same _ _ _ hc⟩
  ·exact ⟨u, (World.cell?_setCell_other _ _ _ _ e).trans hc2⟩
 ·have hc2 := h.sl q A n c hq
  by_cases e : p = q
  ·subst e
   rw [hc] at hc2
   cases hc2
  ·exact (World.cell?_setCell_other _ _ _ _ e).trans hc2
structure UF (w : World) (r : RV) : Prop where
 o : ∀ ad, r.o.A = some ad → ∀ j, j < r.o.m → w.frozen? (ad.add j) = false
 i : 0 < r.im → ∀ g o, r.iA = some ⟨g, o, none⟩ → ∀ j u, w.cell? ⟨g, j, none⟩ = some u → w.frozen? ⟨g, j, none⟩ = false
 p : ∀ x ∈ r.il, 0 < x.p.n → ∀ g o, x.p.A = some ⟨g, o, none⟩ → ∀ j u, w.cell? ⟨g, j, none⟩ = some u → w.frozen? ⟨g, j, none⟩ = false
 c : ∀ x ∈ r.il, ∀ y ∈ x.p.l, ∀ ad, y.A = some ad → ∀ j, j < y.m → w.frozen? (ad.add j) = false
 l : 0 < r.lm → ∀ g o, r.lA = some ⟨g, o, none⟩ → ∀ j u, w.cell? ⟨g, j, none⟩ = some u → w.frozen? ⟨g, j, none⟩ = false
 d : 0 < r.dm → ∀ g o, r.dA = some ⟨g, o, none⟩ → ∀ j u, w.cell? ⟨g, j, none⟩ = some u → w.frozen? ⟨g, j, none⟩ = false
theorem Sp.byte {B : Nat} {w w' : World} {T : Nat → Prop} {A : Option Addr} {n : Nat} {l : List Nat} (h : Sp B w w') (hr : RB w T A n l) (hT : ∀ b, T b → B ≤ b) (hz : ∀ ad, A = some ad → ∀ j, j < n → w.frozen? (ad.add j) = false) {j : Nat} (hj : j < n) :
  ∃ (ad : Addr) (x : Nat), A = some ad ∧ x < 256 ∧ w'.cell? (ad.add j) = some (.int .u8 (x : Int)) ∧ w'.frozen? (ad.add j) = false ∧ B ≤ (ad.add j).block := by
 obtain ⟨ad, e, hx, hc⟩ := hr.at_ hj
 obtain ⟨ad', e', _, hS, _⟩ := hr.2.2 (by omega)
 rw [e] at e'
 injection e' with e'
 subst e'
 obtain ⟨y, hy, hc2⟩ := h.u8 _ _ hc hx
 exact ⟨ad, y, e, hy, hc2, (h.fz _).trans (hz ad e j hj), by rw [block_of_add]; exact hT _ hS⟩
set_option maxHeartbeats 16000000 in
theorem spoil_any (w : World) (B : Nat) (T : Nat → Prop) (r : RV) (h : r.In w T) (hT : ∀ b, T b → B ≤ b) (hu : UF w r) (hc : Brief r) (hB : B ≤ w.heap.size) : Calls Tryz.prog 20 #[r.agg] w fun e w' => e = .returned (.tuple #[]) ∧ Below B w w' := by
 obtain ⟨W, hW, hBW, hbx, hsz⟩ := box_rv w r
 have hh := h.keep (Fr.of_below hBW No) fun _ _ hn => hn
 obtain ⟨y0, y1, y2, y3, y4, y5, y6, y7, y8, y9, y10, y11, y12, y13, y14⟩ := rcs_cells hbx
 have HH := Lib.hid hh
 have HT := Lib.hid hT
 have HBW := Lib.hid hBW
 have HFZ : Hid (∀ p : Addr, p.block < w.heap.size → W.frozen? p = w.frozen? p) := Lib.hid (fun p hp => hBW.frozen hp)
 have HUF := Lib.hid hu
 have HIN := Lib.hid h
 have HBS := Lib.hid hB
 have HBWB : Hid (Below B w W) := Lib.hid (hBW.mono hB)
 have HY10 := Lib.hid y10
 have HY11 := Lib.hid y11
 have HY12 := Lib.hid y12
 have HY13 := Lib.hid y13
 have hom : r.o.m ≤ 2000 := hc.o
 have him : r.im ≤ 20001 := hc.i
 have hlm : r.lm ≤ 20001 := hc.l
 have hdm : r.dm ≤ 20001 := hc.d
 have HBR := Lib.hid hc
 have HOB : Hid (∀ wr, Sp B W wr → ∀ j, j < r.o.m → ∃ (ad : Addr) (x : Nat), r.o.A = some ad ∧ x < 256 ∧ wr.cell? (ad.add j) = some (.int .u8 (x : Int)) ∧ wr.frozen? (ad.add j) = false ∧ B ≤ (ad.add j).block) := Lib.hid (fun wr hs j hj => hs.byte hh.o.b hT (fun ad e j hj => by
  obtain ⟨ad', e', hb', _⟩ := h.o.b.2.2 (by omega)
  rw [e] at e'
  injection e' with e'
  subst e'
  exact (hBW.frozen (p := ad.add j) (by rw [block_of_add]; exact hb')).trans (hu.o ad e j hj)) hj)
 simp only [rcs] at hW
 unfold RV.agg
 clear h hh hT hu hc hB hBW hbx hsz y0 y1 y2 y3 y4 y5 y6 y7 y8 y9 y10 y11 y12 y13 y14
 go_enter Tryz.func20, Tryz.ntmps20
 go_wp2_with fail
 go_loopw [2] (fun i wr => ∃ q : Nat, q ≤ r.o.m ∧ i = .int .i64 (q : Int) ∧ Sp B W wr) (fun i _ => r.o.m - (intOf i).toNat)
 case atStart => exact ⟨0, Nat.zero_le _, rfl, Sp.refl _ _⟩
 case round =>
  obtain ⟨q, hq, rfl, hsp⟩ := hrel
  have HSP := Lib.hid hsp
  have y10 := hsp.sl _ _ _ _ HY10.out
  clear hsp
  by_cases hlt : q < r.o.m
  ·have d1 : decide ((q : Int) < (r.o.m : Int)) = true := decide_eq_true (by omega)
   have d2 : decide (q < r.o.m) = true := decide_eq_true hlt
   have hin : ((q : Int) < (r.o.m : Int)) := by omega
   have hWi : IntKind.i64.wrap ((q : Int) + 1) = ((q + 1 : Nat) : Int) := by rw [IntWalk.i64_in _ (by omega)]; omega
   have hwq : IntKind.i64.wrap (q : Int) = (q : Int) := IntWalk.i64_in _ (by omega)
   obtain ⟨ad, x, hA, hx, hcell, hfz, hblk⟩ := HOB.out wr HSP.out q hlt
   obtain ⟨y, hy⟩ : ∃ y, y = (x + 1) % 256 := ⟨_, rfl⟩
   have hy2 : y < 256 := by omega
   have hw8 : IntKind.u8.wrap ((x : Int) + 1) = (y : Int) := by rw [IntKind.wrap_u8]; omega
   rw [hA] at y10
   have HYS := Lib.hid y10
   have HCL := Lib.hid hcell
   have HFZ2 := Lib.hid hfz
   have HBL := Lib.hid hblk
   have HY2 := Lib.hid hy2
   clear hcell hfz hblk hy2 hx hy hA
   go_upto_region 4 with fail
   clear y10
   refine wp_region_held_drew (S := fun wx => Sp B wr wx) (by kernel_rfl) ((Sp.refl B wr).drew) (fun hS => ?_)
   refine wpAnyH_take (i := 0) (v := ?_) rfl (by kernel_rfl) (by kernel_rfl) (by kernel_rfl) (fun _ _ _ h => h) (Or.inl ⟨by rfl, ?_⟩) hS ?_
   rotate_left
   ·(intro wq hSw; go_simp; try with_reducible rfl)
   refine wpAnyH_take (i := 1) (v := ?_) rfl (by kernel_rfl) (by kernel_rfl) (by kernel_rfl) (fun _ _ _ h => h) (Or.inl ⟨by rfl, ?_⟩) hS ?_
   rotate_left
   ·(intro wq hSw; go_simp; try with_reducible rfl)
   simp only [List.getElem_toArray, List.getElem_cons_succ, List.getElem_cons_zero, Act.put, List.setIfInBounds_toArray, List.set_cons_succ, List.set_cons_zero]
   refine wpAnyH_take (i := 2) (v := ?_) rfl (by kernel_rfl) (by kernel_rfl) (by kernel_rfl) (fun _ _ _ h => h) (Or.inl ⟨by rfl, ?_⟩) hS ?_
   rotate_left
   ·(intro wq hSw; have hq := hSw.sl _ _ _ _ HYS.out; go_simp; try with_reducible rfl)
   simp only [List.getElem_toArray, List.getElem_cons_succ, List.getElem_cons_zero, Act.put, List.setIfInBounds_toArray, List.set_cons_succ, List.set_cons_zero]
   refine wpAnyH_take (i := 3) (v := ?_) rfl (by kernel_rfl) (by kernel_rfl) (by kernel_rfl) (fun _ _ _ h => h) (Or.inl ⟨by rfl, ?_⟩) hS ?_
   rotate_left
   ·(intro wq hSw; go_simp; try with_reducible rfl)
   simp only [List.getElem_toArray, List.getElem_cons_succ, List.getElem_cons_zero, Act.put, List.setIfInBounds_toArray, List.set_cons_succ, List.set_cons_zero]
   refine wpAnyH_take (i := 4) (v := ?_) rfl (by kernel_rfl) (by kernel_rfl) (by kernel_rfl) (fun _ _ _ h => h) (Or.inl ⟨by rfl, ?_⟩) hS ?_
   rotate_left
   ·(intro wq hSw; go_simp; try with_reducible rfl)
   simp only [List.getElem_toArray, List.getElem_cons_succ, List.getElem_cons_zero, Act.put, List.setIfInBounds_toArray, List.set_cons_succ, List.set_cons_zero]
   refine wpAnyH_take (i := 5) (v := ?_) rfl (by kernel_rfl) (by kernel_rfl) (by kernel_rfl) (fun _ _ _ h => h) (Or.inl ⟨by rfl, ?_⟩) hS ?_
   rotate_left
   ·(intro wq hSw; go_simp; try with_reducible rfl)
   simp only [List.getElem_toArray, List.getElem_cons_succ, List.getElem_cons_zero, Act.put, List.setIfInBounds_toArray, List.set_cons_succ, List.set_cons_zero]
   refine wpAnyH_take (i := 6) (v := ?_) rfl (by kernel_rfl) (by kernel_rfl) (by kernel_rfl) (fun _ _ _ h => h) (Or.inl ⟨by rfl, ?_⟩) hS ?_
   rotate_left
   ·(intro wq hSw; have hq := hSw.sl _ _ _ _ HYS.out; go_simp; try with_reducible rfl)
   simp only [List.getElem_toArray, List.getElem_cons_succ, List.getElem_cons_zero, Act.put, List.setIfInBounds_toArray, List.set_cons_succ, List.set_cons_zero]
   refine wpAnyH_take (i := 7) (v := ?_) rfl (by kernel_rfl) (by kernel_rfl) (by kernel_rfl) (fun _ _ _ h => h) (Or.inl ⟨by rfl, ?_⟩) hS ?_
   rotate_left
   ·(intro wq hSw; go_simp; try with_reducible rfl)
   simp only [List.getElem_toArray, List.getElem_cons_succ, List.getElem_cons_zero, Act.put, List.setIfInBounds_toArray, List.set_cons_succ, List.set_cons_zero]
   refine wpAnyH_take (i := 8) (v := ?_) rfl (by kernel_rfl) (by kernel_rfl) (by kernel_rfl) (fun _ _ _ h => h) (Or.inl ⟨by rfl, ?_⟩) hS ?_
   rotate_left
   ·(intro wq hSw; go_simp; try with_reducible rfl)
   simp only [List.getElem_toArray, List.getElem_cons_succ, List.getElem_cons_zero, Act.put, List.setIfInBounds_toArray, List.set_cons_succ, List.set_cons_zero]
   have hcd : wr.drew.cell? (ad.add q) = some (.int .u8 (x : Int)) := HCL.out
   have hfd : wr.drew.frozen? (ad.add q) = false := HFZ2.out
   refine wpAnyH_ready (rs := [9]) (by kernel_rfl) (by simp) ?_
   refine AllReadyH.cons rfl (fun K hK => ?_) AllReadyH.nil
   go_simp
   refine hK.out _ _ hS (fun hS => ?_)
   clear hK K
   refine wpAnyH_take (i := 10) (v := ?_) rfl (by kernel_rfl) (by kernel_rfl) (by kernel_rfl) (fun _ _ _ h => h) (Or.inl ⟨by rfl, ?_⟩) hS ?_
   rotate_left
   ·(intro wq hSw; go_simp; try with_reducible rfl)
   simp only [List.getElem_toArray, List.getElem_cons_succ, List.getElem_cons_zero, Act.put, List.setIfInBounds_toArray, List.set_cons_succ, List.set_cons_zero]
   refine wpAnyH_take (i := 11) (v := ?_) rfl (by kernel_rfl) (by kernel_rfl) (by kernel_rfl) (fun _ _ _ h => h) (Or.inl ⟨by rfl, ?_⟩) hS ?_
   rotate_left
   ·(intro wq hSw; go_simp; try with_reducible rfl)
   simp only [List.getElem_toArray, List.getElem_cons_succ, List.getElem_cons_zero, Act.put, List.setIfInBounds_toArray, List.set_cons_succ, List.set_cons_zero]
   refine wpAnyH_ready (rs := [12]) (by kernel_rfl) (by simp) ?_
   refine AllReadyH.cons rfl (fun K hK => ?_) AllReadyH.nil
   go_simp
   refine hK.out _ _ (hS.set8 hcd HBL.out HY2.out) (fun hS => ?_)
   clear hK K
   refine wpAnyH_done (by kernel_rfl) ?_ _
   have HSS := Lib.hid (HSP.out.trans hS)
   clear hS hcd hfd
   go_wp2_with fail
   go_roundw
   case rel => exact ⟨q + 1, by omega, by go_num, HSS.out⟩
   case measure => simp [intOf]; omega
  ·have d1 : decide ((q : Int) < (r.o.m : Int)) = false := decide_eq_false (by omega)
   have d2 : decide (q < r.o.m) = false := decide_eq_false hlt
   clear hq hlt
   go_wp2_with fail
   have y11 := HSP.out.sl _ _ _ _ HY11.out
   go_loopw [3] (fun i wr => ∃ q : Nat, q ≤ r.im ∧ i = .int .i64 (q : Int) ∧ Sp B W wr) (fun i _ => r.im - (intOf i).toNat)
   case atStart => exact ⟨0, Nat.zero_le _, rfl, HSP.out⟩
   case round =>
    clear HSP y11
    obtain ⟨q, hq, rfl, hsp⟩ := hrel
    have HSP := Lib.hid hsp
    have y11 := hsp.sl _ _ _ _ HY11.out
    clear hsp
    by_cases hlt : q < r.im
    ·have d1 : decide ((q : Int) < (r.im : Int)) = true := decide_eq_true (by omega)
     have d2 : decide (q < r.im) = true := decide_eq_true hlt
     have hin : ((q : Int) < (r.im : Int)) := by omega
     have hWi : IntKind.i64.wrap ((q : Int) + 1) = ((q + 1 : Nat) : Int) := by rw [IntWalk.i64_in _ (by omega)]; omega
     have hwq : IntKind.i64.wrap (q : Int) = (q : Int) := IntWalk.i64_in _ (by omega)
     obtain ⟨gx, o, x, hA, hgx, hgT, hx, hxi, b0, b1, b2, b3, b4⟩ := HH.out.i.at_ hlt
     have hgw : gx < w.heap.size := by
      obtain ⟨g', o', x', hA', hg', _⟩ := HIN.out.i.at_ hlt
      rw [hA] at hA'
      injection hA' with hA'
      injection hA' with hA'
      omega
     have HX : Hid (r.il[q]? = some x ∧ x.In W T ∧ W.cell? ⟨gx, o + q * 5, none⟩ = some (.int .u32 (x.t : Int)) ∧ r.iA = some ⟨gx, o, none⟩ ∧ gx < w.heap.size ∧ T gx) := Lib.hid ⟨hx, hxi, b0, hA, hgw, hgT⟩
     have s4 := HSP.out.sl _ _ _ _ b4
     have HXN : Hid (x.p.n ≤ 20001) := Lib.hid (HBR.out.p x (List.mem_of_getElem? hx)).1
     rw [hA] at y11
     clear hA hgx hgT hx hxi b0 b1 b2 b3 b4 hgw
     by_cases hn0 : 0 < x.p.n
     ·obtain ⟨g2, o2, _, hA2, _⟩ := HX.out.2.1.p.r.at_ hn0
      rw [hA2] at s4
      have HA2 := Lib.hid hA2
      clear hA2
      go_wp2_with fail
      clear y11 s4
      go_loopw [5] (fun i wr => ∃ k : Nat, k ≤ x.p.n ∧ i = .int .i64 (k : Int) ∧ Sp B W wr) (fun i _ => x.p.n - (intOf i).toNat)
      case atStart => exact ⟨0, Nat.zero_le _, rfl, HSP.out⟩
      case round =>
       clear HSP
       obtain ⟨k, hk, rfl, hsp⟩ := hrel
       have HSP := Lib.hid hsp
       clear hsp
       by_cases hkl : k < x.p.n
       ·have d3 : decide ((k : Int) < (x.p.n : Int)) = true := decide_eq_true (by omega)
        have d4 : decide (k < x.p.n) = true := decide_eq_true hkl
        have hik : ((k : Int) < (x.p.n : Int)) := by omega
        have hWk : IntKind.i64.wrap ((k : Int) + 1) = ((k + 1 : Nat) : Int) := by rw [IntWalk.i64_in _ (by have := HXN.out; omega)]; omega
        have hwk : IntKind.i64.wrap (k : Int) = (k : Int) := IntWalk.i64_in _ (by have := HXN.out; omega)
        obtain ⟨g3, o3, y, hA3, hg3, hgT3, hy, hyi, f0, f1, f2⟩ := HX.out.2.1.p.r.at_ hkl
        rw [HA2.out] at hA3
        injection hA3 with hA3
        injection hA3 with hA3 hA4
        subst hA3 hA4
        have HYF := Lib.hid (And.intro f1 f2)
        have hmem := List.mem_of_getElem? hy
        have hyw := (HIN.out.i.2.1 x (List.mem_of_getElem? HX.out.1)).p.r.2.1 y hmem
        have HYM : Hid (y.m ≤ 20001) := Lib.hid ((HBR.out.p x (List.mem_of_getElem? HX.out.1)).2.1 y hmem)
        have HYB : Hid (∀ wr, Sp B W wr → ∀ j, j < y.m → ∃ (ad : Addr) (xb : Nat), y.A = some ad ∧ xb < 256 ∧ wr.cell? (ad.add j) = some (.int .u8 (xb : Int)) ∧ wr.frozen? (ad.add j) = false ∧ B ≤ (ad.add j).block) := Lib.hid (fun wr hs j hj => hs.byte hyi.b HT.out (fun ad e j hj => by
         obtain ⟨ad', e', hb', _⟩ := hyw.b.2.2 (by omega)
         rw [e] at e'
         injection e' with e'
         subst e'
         exact (HFZ.out (ad.add j) (by rw [block_of_add]; exact hb')).trans (HUF.out.c x (List.mem_of_getElem? HX.out.1) y hmem ad e j hj)) hj)
        have HYG : Hid (g2 < w.heap.size ∧ B ≤ g2 ∧ ∀ j u, w.cell? ⟨g2, j, none⟩ = some u → w.frozen? ⟨g2, j, none⟩ = false) := Lib.hid ⟨by
         obtain ⟨g', o', x', hA', hg', _⟩ := (HIN.out.i.2.1 x (List.mem_of_getElem? HX.out.1)).p.r.at_ hkl
         rw [HA2.out] at hA'
         injection hA' with hA'
         injection hA' with hA'
         omega, HT.out _ hgT3, fun j u hu => HUF.out.p x (List.mem_of_getElem? HX.out.1) (by omega) g2 o2 HA2.out j u hu⟩
        clear hy hyi hyw hmem f0 f1 f2 hg3 hgT3
        go_wp2_with fail
        go_loopw [6] (fun i wr => ∃ j : Nat, j ≤ y.m ∧ i = .int .i64 (j : Int) ∧ Sp B W wr) (fun i _ => y.m - (intOf i).toNat)
        case atStart => exact ⟨0, Nat.zero_le _, rfl, HSP.out⟩
        case round =>
         clear HSP
         obtain ⟨j, hj, rfl, hsp⟩ := hrel
         have HSP := Lib.hid hsp
         have s2 := hsp.sl _ _ _ _ HYF.out.2
         clear hsp
         by_cases hjl : j < y.m
         ·have d5 : decide ((j : Int) < (y.m : Int)) = true := decide_eq_true (by omega)
          have d6 : decide (j < y.m) = true := decide_eq_true hjl
          have hij : ((j : Int) < (y.m : Int)) := by omega
          have hWj : IntKind.i64.wrap ((j : Int) + 1) = ((j + 1 : Nat) : Int) := by rw [IntWalk.i64_in _ (by have := HYM.out; omega)]; omega
          have hwj : IntKind.i64.wrap (j : Int) = (j : Int) := IntWalk.i64_in _ (by have := HYM.out; omega)
          obtain ⟨ad, xb, hA, hx, hcell, hfz, hblk⟩ := HYB.out wr HSP.out j hjl
          obtain ⟨yb, hy⟩ : ∃ yb, yb = (xb + 1) % 256 := ⟨_, rfl⟩
          have hy2 : yb < 256 := by omega
          have hw8 : IntKind.u8.wrap ((xb : Int) + 1) = (yb : Int) := by rw [IntKind.wrap_u8]; omega
          rw [hA] at s2
          have HYS := Lib.hid s2
          have HCL := Lib.hid hcell
          have HFZ2 := Lib.hid hfz
          have HBL := Lib.hid hblk
          have HY2 := Lib.hid hy2
          clear hcell hfz hblk hy2 hx hy hA
          go_upto_region 15 with fail
          clear s2
          refine wp_region_held_drew (S := fun wx => Sp B wr wx) (by kernel_rfl) ((Sp.refl B wr).drew) (fun hS => ?_)
          refine wpAnyH_take (i := 0) (v := ?_) rfl (by kernel_rfl) (by kernel_rfl) (by kernel_rfl) (fun _ _ _ h => h) (Or.inl ⟨by rfl, ?_⟩) hS ?_
          rotate_left
          ·(intro wq hSw; go_simp; try with_reducible rfl)
          refine wpAnyH_take (i := 1) (v := ?_) rfl (by kernel_rfl) (by kernel_rfl) (by kernel_rfl) (fun _ _ _ h => h) (Or.inl ⟨by rfl, ?_⟩) hS ?_
          rotate_left
          ·(intro wq hSw; go_simp; try with_reducible rfl)
          simp only [List.getElem_toArray, List.getElem_cons_succ, List.getElem_cons_zero, Act.put, List.setIfInBounds_toArray, List.set_cons_succ, List.set_cons_zero]
          refine wpAnyH_take (i := 2) (v := ?_) rfl (by kernel_rfl) (by kernel_rfl) (by kernel_rfl) (fun _ _ _ h => h) (Or.inl ⟨by rfl, ?_⟩) hS ?_
          rotate_left
          ·(intro wq hSw; go_simp; try with_reducible rfl)
          simp only [List.getElem_toArray, List.getElem_cons_succ, List.getElem_cons_zero, Act.put, List.setIfInBounds_toArray, List.set_cons_succ, List.set_cons_zero]
          refine wpAnyH_take (i := 3) (v := ?_) rfl (by kernel_rfl) (by kernel_rfl) (by kernel_rfl) (fun _ _ _ h => h) (Or.inl ⟨by rfl, ?_⟩) hS ?_
          rotate_left
          ·(intro wq hSw; go_simp; try with_reducible rfl)
          simp only [List.getElem_toArray, List.getElem_cons_succ, List.getElem_cons_zero, Act.put, List.setIfInBounds_toArray, List.set_cons_succ, List.set_cons_zero]
          refine wpAnyH_take (i := 4) (v := ?_) rfl (by kernel_rfl) (by kernel_rfl) (by kernel_rfl) (fun _ _ _ h => h) (Or.inl ⟨by rfl, ?_⟩) hS ?_
          rotate_left
          ·(intro wq hSw; have hq := hSw.sl _ _ _ _ HYS.out; go_simp; try with_reducible rfl)
          simp only [List.getElem_toArray, List.getElem_cons_succ, List.getElem_cons_zero, Act.put, List.setIfInBounds_toArray, List.set_cons_succ, List.set_cons_zero]
          refine wpAnyH_take (i := 5) (v := ?_) rfl (by kernel_rfl) (by kernel_rfl) (by kernel_rfl) (fun _ _ _ h => h) (Or.inl ⟨by rfl, ?_⟩) hS ?_
          rotate_left
          ·(intro wq hSw; go_simp; try with_reducible rfl)
          simp only [List.getElem_toArray, List.getElem_cons_succ, List.getElem_cons_zero, Act.put, List.setIfInBounds_toArray, List.set_cons_succ, List.set_cons_zero]
          refine wpAnyH_take (i := 6) (v := ?_) rfl (by kernel_rfl) (by kernel_rfl) (by kernel_rfl) (fun _ _ _ h => h) (Or.inl ⟨by rfl, ?_⟩) hS ?_
          rotate_left
          ·(intro wq hSw; go_simp; try with_reducible rfl)
          simp only [List.getElem_toArray, List.getElem_cons_succ, List.getElem_cons_zero, Act.put, List.setIfInBounds_toArray, List.set_cons_succ, List.set_cons_zero]
          refine wpAnyH_take (i := 7) (v := ?_) rfl (by kernel_rfl) (by kernel_rfl) (by kernel_rfl) (fun _ _ _ h => h) (Or.inl ⟨by rfl, ?_⟩) hS ?_
          rotate_left
          ·(intro wq hSw; go_simp; try with_reducible rfl)
          simp only [List.getElem_toArray, List.getElem_cons_succ, List.getElem_cons_zero, Act.put, List.setIfInBounds_toArray, List.set_cons_succ, List.set_cons_zero]
          refine wpAnyH_take (i := 8) (v := ?_) rfl (by kernel_rfl) (by kernel_rfl) (by kernel_rfl) (fun _ _ _ h => h) (Or.inl ⟨by rfl, ?_⟩) hS ?_
          rotate_left
          ·(intro wq hSw; go_simp; try with_reducible rfl)
          simp only [List.getElem_toArray, List.getElem_cons_succ, List.getElem_cons_zero, Act.put, List.setIfInBounds_toArray, List.set_cons_succ, List.set_cons_zero]
          refine wpAnyH_take (i := 9) (v := ?_) rfl (by kernel_rfl) (by kernel_rfl) (by kernel_rfl) (fun _ _ _ h => h) (Or.inl ⟨by rfl, ?_⟩) hS ?_
          rotate_left
          ·(intro wq hSw; go_simp; try with_reducible rfl)
          simp only [List.getElem_toArray, List.getElem_cons_succ, List.getElem_cons_zero, Act.put, List.setIfInBounds_toArray, List.set_cons_succ, List.set_cons_zero]
          refine wpAnyH_take (i := 10) (v := ?_) rfl (by kernel_rfl) (by kernel_rfl) (by kernel_rfl) (fun _ _ _ h => h) (Or.inl ⟨by rfl, ?_⟩) hS ?_
          rotate_left
          ·(intro wq hSw; have hq := hSw.sl _ _ _ _ HYS.out; go_simp; try with_reducible rfl)
          simp only [List.getElem_toArray, List.getElem_cons_succ, List.getElem_cons_zero, Act.put, List.setIfInBounds_toArray, List.set_cons_succ, List.set_cons_zero]
          refine wpAnyH_take (i := 11) (v := ?_) rfl (by kernel_rfl) (by kernel_rfl) (by kernel_rfl) (fun _ _ _ h => h) (Or.inl ⟨by rfl, ?_⟩) hS ?_
          rotate_left
          ·(intro wq hSw; go_simp; try with_reducible rfl)
          simp only [List.getElem_toArray, List.getElem_cons_succ, List.getElem_cons_zero, Act.put, List.setIfInBounds_toArray, List.set_cons_succ, List.set_cons_zero]
          refine wpAnyH_take (i := 12) (v := ?_) rfl (by kernel_rfl) (by kernel_rfl) (by kernel_rfl) (fun _ _ _ h => h) (Or.inl ⟨by rfl, ?_⟩) hS ?_
          rotate_left
          ·(intro wq hSw; go_simp; try with_reducible rfl)
          simp only [List.getElem_toArray, List.getElem_cons_succ, List.getElem_cons_zero, Act.put, List.setIfInBounds_toArray, List.set_cons_succ, List.set_cons_zero]
          have hcd : wr.drew.cell? (ad.add j) = some (.int .u8 (xb : Int)) := HCL.out
          have hfd : wr.drew.frozen? (ad.add j) = false := HFZ2.out
          refine wpAnyH_ready (rs := [13]) (by kernel_rfl) (by simp) ?_
          refine AllReadyH.cons rfl (fun K hK => ?_) AllReadyH.nil
          go_simp
          refine hK.out _ _ hS (fun hS => ?_)
          clear hK K
          refine wpAnyH_take (i := 14) (v := ?_) rfl (by kernel_rfl) (by kernel_rfl) (by kernel_rfl) (fun _ _ _ h => h) (Or.inl ⟨by rfl, ?_⟩) hS ?_
          rotate_left
          ·(intro wq hSw; go_simp; try with_reducible rfl)
          simp only [List.getElem_toArray, List.getElem_cons_succ, List.getElem_cons_zero, Act.put, List.setIfInBounds_toArray, List.set_cons_succ, List.set_cons_zero]
          refine wpAnyH_take (i := 15) (v := ?_) rfl (by kernel_rfl) (by kernel_rfl) (by kernel_rfl) (fun _ _ _ h => h) (Or.inl ⟨by rfl, ?_⟩) hS ?_
          rotate_left
          ·(intro wq hSw; go_simp; try with_reducible rfl)
          simp only [List.getElem_toArray, List.getElem_cons_succ, List.getElem_cons_zero, Act.put, List.setIfInBounds_toArray, List.set_cons_succ, List.set_cons_zero]
          refine wpAnyH_ready (rs := [16]) (by kernel_rfl) (by simp) ?_
          refine AllReadyH.cons rfl (fun K hK => ?_) AllReadyH.nil
          go_simp
          refine hK.out _ _ (hS.set8 hcd HBL.out HY2.out) (fun hS => ?_)
          clear hK K
          refine wpAnyH_done (by kernel_rfl) ?_ _
          have HSS := Lib.hid (HSP.out.trans hS)
          clear hS hcd hfd
          go_wp2_with fail
          go_roundw
          case rel => exact ⟨j + 1, by omega, by go_num, HSS.out⟩
          case measure => simp [intOf]; omega
         ·have d5 : decide ((j : Int) < (y.m : Int)) = false := decide_eq_false (by omega)
          have d6 : decide (j < y.m) = false := decide_eq_false hjl
          clear hj hjl
          obtain ⟨z2, hz2⟩ := HSP.out.u32 _ _ HYF.out.1
          have hfz2 : wr.frozen? ⟨g2, o2 + k * 3 + 1, none⟩ = false := by
           rw [HSP.out.fz, HFZ.out ⟨g2, o2 + k * 3 + 1, none⟩ HYG.out.1]
           exact HYG.out.2.2 _ _ ((HBW.out.cell (p := ⟨g2, o2 + k * 3 + 1, none⟩) HYG.out.1).symm.trans HYF.out.1)
          have HSS := Lib.hid (HSP.out.set32 (p := ⟨g2, o2 + k * 3 + 1, none⟩) (y := 99) hz2 HYG.out.2.1)
          go_wp2_with fail
          go_roundw
          case rel => exact ⟨k + 1, by omega, by go_num, HSS.out⟩
          case measure => simp [intOf]; omega
       ·have d3 : decide ((k : Int) < (x.p.n : Int)) = false := decide_eq_false (by omega)
        have d4 : decide (k < x.p.n) = false := decide_eq_false hkl
        clear hk hkl
        have hA := HX.out.2.2.2.1
        have y11 := HSP.out.sl _ _ _ _ HY11.out
        rw [hA] at y11
        obtain ⟨z, hz⟩ := HSP.out.u32 _ _ HX.out.2.2.1
        have hfz : wr.frozen? ⟨gx, o + q * 5, none⟩ = false := by
         rw [HSP.out.fz, HFZ.out ⟨gx, o + q * 5, none⟩ HX.out.2.2.2.2.1]
         exact HUF.out.i (by omega) gx o hA _ _ ((HBW.out.cell (p := ⟨gx, o + q * 5, none⟩) HX.out.2.2.2.2.1).symm.trans HX.out.2.2.1)
        have HSS := Lib.hid (HSP.out.set32 (p := ⟨gx, o + q * 5, none⟩) (y := 0) hz (HT.out _ HX.out.2.2.2.2.2))
        clear hA
        go_wp2_with fail
        go_roundw
        case rel => exact ⟨q + 1, by omega, by go_num, HSS.out⟩
        case measure => simp [intOf]; omega
     ·go_wp2_with fail
      clear y11 s4
      go_loopw [5] (fun i wr => ∃ k : Nat, k ≤ x.p.n ∧ i = .int .i64 (k : Int) ∧ Sp B W wr) (fun i _ => x.p.n - (intOf i).toNat)
      case atStart => exact ⟨0, Nat.zero_le _, rfl, HSP.out⟩
      case round =>
       clear HSP
       obtain ⟨k, hk, rfl, hsp⟩ := hrel
       have HSP := Lib.hid hsp
       clear hsp
       by_cases hkl : k < x.p.n
       ·omega
       ·have d3 : decide ((k : Int) < (x.p.n : Int)) = false := decide_eq_false (by omega)
        have d4 : decide (k < x.p.n) = false := decide_eq_false hkl
        clear hk hkl
        have hA := HX.out.2.2.2.1
        have y11 := HSP.out.sl _ _ _ _ HY11.out
        rw [hA] at y11
        obtain ⟨z, hz⟩ := HSP.out.u32 _ _ HX.out.2.2.1
        have hfz : wr.frozen? ⟨gx, o + q * 5, none⟩ = false := by
         rw [HSP.out.fz, HFZ.out ⟨gx, o + q * 5, none⟩ HX.out.2.2.2.2.1]
         exact HUF.out.i (by omega) gx o hA _ _ ((HBW.out.cell (p := ⟨gx, o + q * 5, none⟩) HX.out.2.2.2.2.1).symm.trans HX.out.2.2.1)
        have HSS := Lib.hid (HSP.out.set32 (p := ⟨gx, o + q * 5, none⟩) (y := 0) hz (HT.out _ HX.out.2.2.2.2.2))
        clear hA
        go_wp2_with fail
        go_roundw
        case rel => exact ⟨q + 1, by omega, by go_num, HSS.out⟩
        case measure => simp [intOf]; omega
    ·have d1 : decide ((q : Int) < (r.im : Int)) = false := decide_eq_false (by omega)
     have d2 : decide (q < r.im) = false := decide_eq_false hlt
     clear hq hlt
     go_wp2_with fail
     have y12 := HSP.out.sl _ _ _ _ HY12.out
     go_loopw [7] (fun i wr => ∃ q : Nat, q ≤ r.lm ∧ i = .int .i64 (q : Int) ∧ Sp B W wr) (fun i _ => r.lm - (intOf i).toNat)
     case atStart => exact ⟨0, Nat.zero_le _, rfl, HSP.out⟩
     case round =>
      clear HSP y12
      obtain ⟨q, hq, rfl, hsp⟩ := hrel
      have HSP := Lib.hid hsp
      have y12 := hsp.sl _ _ _ _ HY12.out
      clear hsp
      by_cases hlt : q < r.lm
      ·have d1 : decide ((q : Int) < (r.lm : Int)) = true := decide_eq_true (by omega)
       have d2 : decide (q < r.lm) = true := decide_eq_true hlt
       have hin : ((q : Int) < (r.lm : Int)) := by omega
       have hWi : IntKind.i64.wrap ((q : Int) + 1) = ((q + 1 : Nat) : Int) := by rw [IntWalk.i64_in _ (by omega)]; omega
       have hwq : IntKind.i64.wrap (q : Int) = (q : Int) := IntWalk.i64_in _ (by omega)
       obtain ⟨gx, o, x, hA, hgx, hgT, hx, hxi, bs⟩ := HH.out.l.at_ hlt
       have b0 := bs.1
       obtain ⟨z, hz⟩ := HSP.out.u32 _ _ b0
       have hgw : gx < w.heap.size := by
        obtain ⟨g', o', x', hA', hg', _⟩ := HIN.out.l.at_ hlt
        rw [hA] at hA'
        injection hA' with hA'
        injection hA' with hA'
        omega
       have hfz : wr.frozen? ⟨gx, o + q * 4, none⟩ = false := by
        rw [HSP.out.fz, HFZ.out ⟨gx, o + q * 4, none⟩ hgw]
        exact HUF.out.l (by omega) gx o hA _ _ ((HBW.out.cell (p := ⟨gx, o + q * 4, none⟩) hgw).symm.trans b0)
       rw [hA] at y12
       have HSS := Lib.hid (HSP.out.set32 (p := ⟨gx, o + q * 4, none⟩) (y := 0) hz (HT.out _ hgT))
       clear hA hgx hgT hx hxi bs b0 hgw
       go_wp2_with fail
       go_roundw
       case rel => exact ⟨q + 1, by omega, by go_num, HSS.out⟩
       case measure => simp [intOf]; omega
      ·have d1 : decide ((q : Int) < (r.lm : Int)) = false := decide_eq_false (by omega)
       have d2 : decide (q < r.lm) = false := decide_eq_false hlt
       clear hq hlt
       go_wp2_with fail
       have y13 := HSP.out.sl _ _ _ _ HY13.out
       go_loopw [8] (fun i wr => ∃ q : Nat, q ≤ r.dm ∧ i = .int .i64 (q : Int) ∧ Sp B W wr) (fun i _ => r.dm - (intOf i).toNat)
       case atStart => exact ⟨0, Nat.zero_le _, rfl, HSP.out⟩
       case round =>
        clear HSP y13
        obtain ⟨q, hq, rfl, hsp⟩ := hrel
        have HSP := Lib.hid hsp
        have y13 := hsp.sl _ _ _ _ HY13.out
        clear hsp
        by_cases hlt : q < r.dm
        ·have d1 : decide ((q : Int) < (r.dm : Int)) = true := decide_eq_true (by omega)
         have d2 : decide (q < r.dm) = true := decide_eq_true hlt
         have hin : ((q : Int) < (r.dm : Int)) := by omega
         have hWi : IntKind.i64.wrap ((q : Int) + 1) = ((q + 1 : Nat) : Int) := by rw [IntWalk.i64_in _ (by omega)]; omega
         have hwq : IntKind.i64.wrap (q : Int) = (q : Int) := IntWalk.i64_in _ (by omega)
         obtain ⟨gx, o, x, hA, hgx, hgT, hx, hxi, bs⟩ := HH.out.d.at_ hlt
         have b0 := bs.1
         obtain ⟨z, hz⟩ := HSP.out.u32 _ _ b0
         have hgw : gx < w.heap.size := by
          obtain ⟨g', o', x', hA', hg', _⟩ := HIN.out.d.at_ hlt
          rw [hA] at hA'
          injection hA' with hA'
          injection hA' with hA'
          omega
         have hfz : wr.frozen? ⟨gx, o + q * 2, none⟩ = false := by
          rw [HSP.out.fz, HFZ.out ⟨gx, o + q * 2, none⟩ hgw]
          exact HUF.out.d (by omega) gx o hA _ _ ((HBW.out.cell (p := ⟨gx, o + q * 2, none⟩) hgw).symm.trans b0)
         rw [hA] at y13
         have HSS := Lib.hid (HSP.out.set32 (p := ⟨gx, o + q * 2, none⟩) (y := 0) hz (HT.out _ hgT))
         clear hA hgx hgT hx hxi bs b0 hgw
         go_wp2_with fail
         go_roundw
         case rel => exact ⟨q + 1, by omega, by go_num, HSS.out⟩
         case measure => simp [intOf]; omega
        ·have d1 : decide ((q : Int) < (r.dm : Int)) = false := decide_eq_false (by omega)
         have d2 : decide (q < r.dm) = false := decide_eq_false hlt
         clear hq hlt
         go_wp2_with fail
         go_end0
         exact ⟨rfl, HBWB.out.trans HSP.out.bel⟩
end Go.Proofs.YtdhgbkibbileiaaGreat
namespace Go.Proofs.YtdhgbkibbileiaaGreat
open Go.RowKit
theorem UF.of_in {w : World} {T : Nat → Prop} {r : RV} (h : r.In w T) (hT : ∀ b, T b → Zf w b) : UF w r := by
 refine ⟨?_, ?_, ?_, ?_, ?_, ?_⟩
 ·intro ad e j hj
  obtain ⟨ad', e', _, hs, hc⟩ := h.o.b.2.2 (by omega)
  rw [e] at e'; injection e' with e'; subst e'
  exact (hT _ hs).2 _ _ (block_of_add _ _) (hc j hj)
 ·intro hn g o e j u hu
  obtain ⟨g', o', e', _, hs, _⟩ := h.i.2.2.2 hn
  rw [e] at e'; injection e' with e'; injection e' with e1; subst e1
  exact (hT _ hs).2 _ _ rfl hu
 ·intro x hx hn g o e j u hu
  obtain ⟨g', o', e', _, hs, _⟩ := (h.i.2.1 x hx).p.r.2.2.2 hn
  rw [e] at e'; injection e' with e'; injection e' with e1; subst e1
  exact (hT _ hs).2 _ _ rfl hu
 ·intro x hx y hy ad e j hj
  obtain ⟨ad', e', _, hs, hc⟩ := ((h.i.2.1 x hx).p.r.2.1 y hy).b.2.2 (by omega)
  rw [e] at e'; injection e' with e'; subst e'
  exact (hT _ hs).2 _ _ (block_of_add _ _) (hc j hj)
 ·intro hn g o e j u hu
  obtain ⟨g', o', e', _, hs, _⟩ := h.l.2.2.2 hn
  rw [e] at e'; injection e' with e'; injection e' with e1; subst e1
  exact (hT _ hs).2 _ _ rfl hu
 ·intro hn g o e j u hu
  obtain ⟨g', o', e', _, hs, _⟩ := h.d.2.2.2 hn
  rw [e] at e'; injection e' with e'; injection e' with e1; subst e1
  exact (hT _ hs).2 _ _ rfl hu
def DecU (w : World) (l : List Nat) (e : Ending) (w' : World) : Prop := ∃ r : RV, e = .returned (.tuple #[r.agg, .int .i64 ((decR l).2.1 : Int), .int .i64 (decR l).2.2]) ∧ r.e = (decR l).1 ∧ r.In w' (fun b => w.heap.size ≤ b) ∧ (∀ W, Fr w' W No → UF W r) ∧ Below w.heap.size w w'
theorem decode_u (w : World) (A : Option Addr) (n c : Nat) (l : List Nat) (hr : RB w All A n l) (hnc : n ≤ c) (hlo : n ≤ 140737488351232) : Calls Tryz.prog 18 #[.slice A n c] w (DecU w l) := by
 refine (decode_any w A n c l hr hnc hlo).mono ?_
 rintro e w' ⟨r, he, hre, hri, hb⟩
 exact ⟨r, he, hre, hri.mono fun _ _ hb => hb.1, fun W hW => UF.of_in (hri.up hW fun _ _ hn => hn) fun _ hb => hb.2, hb⟩
end Go.Proofs.YtdhgbkibbileiaaGreat
