/-
STAGE 8: grow, where there is room; prepare.
-/
import Derived.Test.YtcajidlekfkjlaaNU
namespace Go.Proofs.Ytcajidlekfkjlaa
open Go.RowKit

set_option maxRecDepth 100000 in
theorem add_zero_ (a : Addr) : a.add 0 = a := by simp [Addr.add]
set_option maxRecDepth 100000 in
theorem okP_n {p : PV} {w : World} {S T : Nat → Prop} (hi : p.In w S T) (h : okP p = true) : p.n ≤ 60 := by
  have := (okP_rise h).2.1
  have := hi.len
  omega
set_option maxHeartbeats 2000000 in
set_option maxRecDepth 100000 in
theorem grow_room (A B : Option Addr) (n c m cb a : Nat) (l : List IV) (i : IV) (w : World) (S : Nat → Prop) (h : IVR w S A n l) (hn : n ≤ 1000000) (hi : l[n - 1]? = some i) (hn1 : 1 ≤ n) (hf : Few i.p) (hok : okP i.p = true) (hr : m ≤ room i.p.k i.p.es) :
    Calls Try.prog 65 #[.slice A n c, .slice B m cb, .func (.func 66) #[] #[.pointer (some ⟨a, 0, none⟩)]] w fun e w' => e = .returned (.slice none 0 0) ∧ Below w.heap.size w w' := by
  obtain ⟨W, hW⟩ : ∃ W, W = (w.alloc (.cells #[.func (.func 66) #[] #[.pointer (some ⟨a, 0, none⟩)]] 108)).alloc (.cells #[.slice none 0 0] 22) := ⟨_, rfl⟩
  have hb : Below w.heap.size w W := by rw [hW]; exact ((Below.refl _ _).alloc (Nat.le_refl _) _).alloc (by simp) _
  have b6 : Blk W (w.heap.size + 1) 22 #[.slice none 0 0] := by rw [hW]; have := Blk.new (w.alloc (.cells #[.func (.func 66) #[] #[.pointer (some ⟨a, 0, none⟩)]] 108)) 22 #[.slice none 0 0]; rwa [World.size_alloc] at this
  obtain ⟨g, o, x, hA, hg, _, hx, hxi, c0, c1, c2, c3, c4⟩ := (h.keep (Fr.of_below hb No) fun _ _ hn => hn).at_ (i := n - 1) (by omega)
  have hxe : x = i := by rw [hi] at hx; injection hx with e; exact e.symm
  subst hxe hA
  have hro := room_any x.p W hxi.p.all hf (by have := okP_n hxi.p hok; omega)
  obtain ⟨r, hrr⟩ : ∃ r, r = room x.p.k x.p.es := ⟨_, rfl⟩
  rw [← hrr] at hro hr
  obtain ⟨q, hq⟩ : ∃ q, q = n - 1 := ⟨_, rfl⟩
  rw [← hq] at c0 c1 c2 c3 c4
  have s1 : (n : Int) - 1 = (q : Int) := by omega
  have s2 : IntKind.i64.wrap (q : Int) = (q : Int) := IntWalk.i64_in _ (by omega)
  have s3 : (q : Int) < (n : Int) := by omega
  have s4 : q < n := by omega
  have d1 : decide ((r : Int) ≥ (m : Int)) = true := decide_eq_true (by omega)
  have d1b : decide (m ≤ r) = true := decide_eq_true hr
  obtain ⟨t, p⟩ := x
  obtain ⟨pk, ps, px, pA, pn, pc, pl⟩ := p
  unfold PV.agg at hro
  dsimp only at hro c0 c1 c2 c3 c4
  rw [hW] at c0 c1 c2 c3 c4
  have HRO := Lib.hid hro
  have HB := Lib.hid hb
  have H6 := Lib.hid b6
  have HW := Lib.hid hW
  clear h hn hi hn1 hf hok hr hb b6 hx hxi hro hrr hq hW
  go_enter Try.func65, Try.ntmps65
  go_wp2_with fail
  rw [← HW.out]
  refine HRO.out.mono ?_
  rintro e w1 ⟨rfl, hb1⟩
  have b1 := H6.out.below hb1 H6.out.lt
  have z0 := b1.cell 0
  have zf := b1.frozen 0
  have HB1 := Lib.hid (HB.out.trans (hb1.mono HB.out.size))
  have E0 := Lib.hid ((b1.set_ 0 (.slice none 0 0)).cell 0)
  clear hb1 b1 c0 c1 c2 c3 c4
  go_wp2_with fail
  have e0 := E0.out
  refine bodyPost_ret (v := .slice none 0 0) (by simp [results, Try.results65, go_sem, e0]) rfl ⟨rfl, ?_⟩
  exact HB1.out.setCell (p := ⟨w.heap.size + 1, 0, none⟩) (by simp) _
set_option maxHeartbeats 2000000 in
set_option maxRecDepth 100000 in
theorem prepare_way (G : Option TV) (pA : Option Addr) (pn pc : Nat) (path : List Nat) (A : Option Addr) (c : Nat) (x : List Nat) (w : World) (S : Nat → Prop) (h : GIn w S G) (hpa : NR w All pA pn path) (hch : ChildOk w G A x.length c x) (hp0 : 0 < pn) (hr : path.getD 0 0 ≠ 0) (he : isE x = true) (cd : Int) (hw : wayM G x 8 (path.getD 0 0) = .error cd) :
    Calls Try.prog 43 #[gV G, .slice pA pn pc, .slice A x.length c] w fun e w' => e = Flt cd ∧ Below w.heap.size w w' := by
  obtain ⟨ad, rfl, hlt, c0⟩ := hpa.at_ hp0
  obtain ⟨r, hrr⟩ : ∃ r, r = path.getD 0 0 := ⟨_, rfl⟩
  rw [← hrr] at hlt c0 hr hw
  have c0' : w.cell? ad = some (.int .u32 (r : Int)) := (add_zero_ ad) ▸ c0
  have hwd := wayDown_any G r A x.length c x w S hlt h hch
  rw [hw] at hwd
  obtain ⟨g, hg⟩ : ∃ g, g = gV G := ⟨_, rfl⟩
  rw [← hg] at hwd ⊢
  have hie := fun W => isEntry_any A x.length c W
  unfold isE at he
  rw [he] at hie
  have HWD := Lib.hid hwd
  have HIE := Lib.hid hie
  have HMY := Lib.hid (fun W => must_yes 1 W)
  have d1 : ((r : Int) != 0) = true := bne_iff_ne.2 (by omega)
  have d2 : decide ((pn : Int) > 0) = true := decide_eq_true (by omega)
  have d2b : decide (0 < pn) = true := decide_eq_true hp0
  clear hwd hie he hw hr hrr hpa hch h hlt hg
  unfold Flt
  go_enter Try.func43, Try.ntmps43
  go_wp2_with fail
  refine (HIE.out _).mono ?_
  rintro e w1 ⟨rfl, rfl⟩
  go_wp2_with fail
  refine (HMY.out _).mono ?_
  rintro e w1 ⟨rfl, rfl⟩
  go_wp2_with fail
  refine HWD.out.mono ?_
  rintro e w1 ⟨rfl, hb1⟩
  have HB1 := Lib.hid hb1
  clear hb1
  unfold Flt
  go_wp2_with fail
  exact ⟨rfl, rfl, HB1.out⟩
set_option maxHeartbeats 4000000 in
set_option maxRecDepth 100000 in
theorem prepare_ok (G : Option TV) (pA : Option Addr) (pn pc : Nat) (path : List Nat) (A : Option Addr) (c : Nat) (x : List Nat) (w : World) (S : Nat → Prop) (h : GIn w S G) (hpa : NR w All pA pn path) (hx : RB w All A x.length x) (hch : ChildOk w G A x.length c x) (hp0 : 0 < pn) (hr : path.getD 0 0 ≠ 0) (he : isE x = true) (l : List IV) (i : IV)
    (hw : wayM G x 8 (path.getD 0 0) = .ok l) (hpl : path = nos l) (hi : l.getLast? = some i) (hroom : x.length ≤ room i.p.k i.p.es) :
    Calls Try.prog 43 #[gV G, .slice pA pn pc, .slice A x.length c] w fun e w' => (thereP i.p x = true → e = Flt 7 ∧ Below w.heap.size w w') ∧ (thereP i.p x = false → ∃ v, e = .returned (.tuple #[v, .int .i64 0]) ∧ OwIV w' (fun b => w.heap.size ≤ b) (fun b => b < w.heap.size) v l.length l ∧ Below w.heap.size w w') := by
  obtain ⟨ad, rfl, hlt, c0⟩ := hpa.at_ hp0
  obtain ⟨r, hrr⟩ : ∃ r, r = path.getD 0 0 := ⟨_, rfl⟩
  rw [← hrr] at hlt c0 hr hw
  have c0' : w.cell? ad = some (.int .u32 (r : Int)) := (add_zero_ ad) ▸ c0
  have hwd := wayDown_any G r A x.length c x w S hlt h hch
  rw [hw] at hwd
  obtain ⟨i', hi', hat, hik, iq, hia⟩ := wayM_last 8 r l hw
  have hlen := wayM_len 8 r l hw
  obtain rfl : i' = i := by rw [hi] at hi'; injection hi' with e; exact e.symm
  obtain ⟨hpi, hpf⟩ := ask_in h hia
  have hok : okP i'.p = true := (ask_ok_inv hia).elim fun _ ⟨_, _, _, h⟩ => h
  obtain ⟨g, hg⟩ : ∃ g, g = gV G := ⟨_, rfl⟩
  rw [← hg] at hwd ⊢
  have hie := fun W => isEntry_any A x.length c W
  unfold isE at he
  rw [he] at hie
  have HWD := Lib.hid hwd
  have HIE := Lib.hid hie
  have HMY := Lib.hid (fun W => must_yes 1 W)
  have HMY7 := Lib.hid (fun W => must_yes 7 W)
  have HMN7 := Lib.hid (fun W => must_no 7 W)
  have HMY4 := Lib.hid (fun W => must_yes 4 W)
  unfold Flt at HMN7
  have d1 : ((r : Int) != 0) = true := bne_iff_ne.2 (by omega)
  have d2 : decide ((pn : Int) > 0) = true := decide_eq_true (by omega)
  have d2b : decide (0 < pn) = true := decide_eq_true hp0
  have HPA := Lib.hid hpa
  have HPL := Lib.hid hpl
  have HAT := Lib.hid hat
  have HLEN := Lib.hid hlen
  have HPI := Lib.hid hpi
  have HOK := Lib.hid hok
  have HX := Lib.hid hx
  have HPF := Lib.hid hpf
  have HRM := Lib.hid hroom
  have HPN := Lib.hid (show pn = l.length by rw [← hpa.len, hpl, nos, List.length_map])
  obtain ⟨xn, hxn⟩ : ∃ xn, xn = x.length := ⟨_, rfl⟩
  rw [← hxn] at HIE HWD HX HRM ⊢
  obtain ⟨th, hth⟩ : ∃ th, th = thereP i'.p x := ⟨_, rfl⟩
  have HTH := Lib.hid hth
  rw [← hth]
  have hmf := hmf_
  clear hwd hie he hw hr hrr hpa hx hch h hlt hg hpl hi hi' hat hik hia hpi hpf hok hroom hlen hxn hth
  go_enter Try.func43, Try.ntmps43
  go_wp2_with fail
  refine (HIE.out _).mono ?_
  rintro e w1 ⟨rfl, rfl⟩
  go_wp2_with fail
  refine (HMY.out _).mono ?_
  rintro e w1 ⟨rfl, rfl⟩
  go_wp2_with fail
  refine HWD.out.mono ?_
  rintro e w1 ⟨v, rfl, hov, hb1⟩
  obtain ⟨vA, vc, rfl, _, _, _, hri⟩ := hov.reads (by have := HLEN.out; omega)
  have hnu := numbers_any vA l.length vc l w1 _ hri (by have := HLEN.out; omega)
  obtain ⟨nl, hnl⟩ : ∃ nl, nl = l.length := ⟨_, rfl⟩
  rw [← hnl] at hnu HPN hri hov ⊢
  have HNU := Lib.hid hnu
  have HB1 := Lib.hid hb1
  have HOV := Lib.hid hov
  have HRI := Lib.hid hri
  have HNL := Lib.hid hnl
  clear hnu hb1 hov hri hnl
  go_wp2_with fail
  refine HNU.out.mono ?_
  intro e w2 hq
  obtain ⟨v2, rfl, ho2, hb2⟩ := hq
  obtain ⟨A2, c2, rfl, _, _, hr2⟩ := ho2.reads
  have heq := equalN_any (some ad) A2 pn pc (nos l).length c2 path (nos l) w2 ((HPA.out.move HB1.out.size (fun p hp _ => HB1.out.cell (p := p) hp)).move hb2.size (fun p hp _ => hb2.cell (p := p) hp)) hr2 (by have := HLEN.out; have := HPN.out; have := HNL.out; omega)
  rw [HPL.out, decide_eq_true rfl] at heq
  obtain ⟨nl2, hnl2⟩ : ∃ nl2, nl2 = (nos l).length := ⟨_, rfl⟩
  rw [← hnl2] at heq ⊢
  have HEQ := Lib.hid heq
  have HB2 := Lib.hid (HB1.out.trans (hb2.mono HB1.out.size))
  have HRI2 := Lib.hid (HRI.out.keep (Fr.of_below hb2 No) fun _ _ hn => hn)
  have HOV2 := Lib.hid (HOV.out.keep (Fr.of_below hb2 No) (fun _ _ hn => hn) fun _ _ hn => hn)
  clear heq hb2 ho2 hr2 hnl2
  go_wp2_with fail
  refine HEQ.out.mono ?_
  rintro e w3 ⟨rfl, hb3⟩
  have HB3 := Lib.hid (HB2.out.trans (hb3.mono HB2.out.size))
  have HRI3 := Lib.hid (HRI2.out.keep (Fr.of_below hb3 No) fun _ _ hn => hn)
  have HOV3 := Lib.hid (HOV2.out.keep (Fr.of_below hb3 No) (fun _ _ hn => hn) fun _ _ hn => hn)
  obtain ⟨gg, o, xx, hA, hgl, _, hxx, hxi, e0, e1, e2, e3, e4⟩ := HRI3.out.at_ (i := l.length - 1) (by have := HLEN.out; have := HNL.out; omega)
  have hxe : xx = i' := by rw [HAT.out] at hxx; injection hxx with e; exact e.symm
  subst hxe hA
  obtain ⟨q, hq⟩ : ∃ q, q = l.length - 1 := ⟨_, rfl⟩
  rw [← hq] at e0 e1 e2 e3 e4
  have hle := HLEN.out
  have hnle := HNL.out
  have s1 : (nl : Int) - 1 = (q : Int) := by omega
  have s2 : IntKind.i64.wrap (q : Int) = (q : Int) := IntWalk.i64_in _ (by omega)
  have s3 : (q : Int) < (nl : Int) := by omega
  have s4 : q < nl := by omega
  have hhe := hasEntry_any xx.p A xn c x w3 (HPI.out.all.below HB3.out) (HX.out.keep (Fr.of_below HB3.out No) fun _ _ hn => hn) (okP_le HPI.out HOK.out) (okP_rise HOK.out).1 (by have := okP_n HPI.out HOK.out; omega)
  rw [← HTH.out] at hhe
  unfold PV.agg at hhe
  have HHE := Lib.hid hhe
  have HQ := Lib.hid hq
  clear hb3 hxx hxi hhe hle hnle hq
  go_wp2_with fail
  refine (HMY.out _).mono ?_
  rintro e w4 ⟨rfl, rfl⟩
  go_wp2_with fail
  refine HHE.out.mono ?_
  rintro e w4 ⟨rfl, hb4⟩
  have HB4 := Lib.hid (HB3.out.trans (hb4.mono HB3.out.size))
  have HRI4 := Lib.hid (HRI3.out.keep (Fr.of_below hb4 No) fun _ _ hn => hn)
  have HOV4 := Lib.hid (HOV3.out.keep (Fr.of_below hb4 No) (fun _ _ hn => hn) fun _ _ hn => hn)
  clear hb4 e0 e1 e2 e3 e4
  cases th with
  | true =>
    go_wp2_with fail
    refine (HMN7.out _).mono ?_
    rintro e w5 ⟨rfl, rfl⟩
    go_wp2_with fail
    exact ⟨rfl, rfl, HB4.out⟩
  | false =>
    go_wp2_with fail
    refine (HMY7.out _).mono ?_
    rintro e w5 ⟨rfl, rfl⟩
    obtain ⟨W5, hW5⟩ : ∃ W, W = w4.alloc (.cells #[.int .i64 0] 3) := ⟨_, rfl⟩
    have hb5 : Below w4.heap.size w4 W5 := by rw [hW5]; exact (Below.refl _ _).alloc (Nat.le_refl _) _
    have b5 : Blk W5 w4.heap.size 3 #[.int .i64 0] := by rw [hW5]; exact Blk.new w4 3 _
    have hgr := grow_room (some ⟨gg, o, none⟩) A nl vc xn c w4.heap.size l xx W5 _ (HRI4.out.keep (Fr.of_below hb5 No) fun _ _ hn => hn) (by have := HLEN.out; have := HNL.out; omega) (by rw [HNL.out]; exact HAT.out) (by have := HLEN.out; have := HNL.out; omega) HPF.out HOK.out HRM.out
    rw [hW5] at hgr
    have HGR := Lib.hid hgr
    have H5 := Lib.hid b5
    have HB5 := Lib.hid (HB4.out.trans (hb5.mono HB4.out.size))
    have HOV5 := Lib.hid (HOV4.out.keep (Fr.of_below hb5 No) (fun _ _ hn => hn) fun _ _ hn => hn)
    have HW5 := Lib.hid hW5
    clear hgr hb5 b5 hW5 s1 s2 s3 s4
    go_wp2_with fail
    refine HGR.out.mono ?_
    intro e w6 hq6
    rw [← HW5.out] at hq6
    obtain ⟨rfl, hb6⟩ := hq6
    have b6 := H5.out.below hb6 H5.out.lt
    have z6 := b6.cell 0
    have HB6 := Lib.hid (HB5.out.trans (hb6.mono HB5.out.size))
    have HOV6 := Lib.hid (HOV5.out.keep (Fr.of_below hb6 No) (fun _ _ hn => hn) fun _ _ hn => hn)
    have H6 := Lib.hid b6
    clear hb6 b6
    go_wp2_with fail
    refine (HMY4.out _).mono ?_
    rintro e w7 ⟨rfl, rfl⟩
    go_wp2_with fail
    go_loopw [58] (fun i wr => i = .int .i64 0 ∧ wr = w6) (fun _ _ => 0)
    case atStart => exact ⟨rfl, rfl⟩
    case round =>
      obtain ⟨rfl, rfl⟩ := hrel
      go_wp2_with fail
      go_quiet (fail)
      go_wp2_with fail
      go_ret2
      refine ⟨_, rfl, ?_, below_drewN HB6.out _⟩
      have e := HNL.out
      rw [← e]
      exact HOV6.out.keep ((Fr.refl wr No).drewN _) (fun _ _ hn => hn) fun _ _ hn => hn
end Go.Proofs.Ytcajidlekfkjlaa
