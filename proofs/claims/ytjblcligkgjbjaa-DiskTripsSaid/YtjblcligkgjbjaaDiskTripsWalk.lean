/-
  THE WALK OF DiskTrips.
-/
import Derived.Test.YtjblcligkgjbjaaWalkO
import Derived.Deep.Cut
namespace Go.Proofs.Ytjblcligkgjbjaa.diskTrips
open Go.RowKit Go.Sort Go.Maps

structure Eq5 (d o : DS) : Prop where
  k : d.kept = o.kept
  c : d.cache = o.cache
  r : d.rd = o.rd
  w : d.wr = o.wr
  s : d.sy = o.sy
set_option maxRecDepth 100000 in
theorem next_rd (d : DS) : d.next.rd = d.rd := by unfold DS.next; split; rfl; split; rfl; split <;> rfl
set_option maxRecDepth 100000 in
theorem next_wr (d : DS) : d.next.wr = d.wr := by unfold DS.next; split; rfl; split; rfl; split <;> rfl
set_option maxRecDepth 100000 in
theorem next_sy (d : DS) : d.next.sy = d.sy := by unfold DS.next; split; rfl; split; rfl; split <;> rfl
set_option maxRecDepth 100000 in
theorem Eq5.next {d o : DS} (h : Eq5 d o) : Eq5 d.next o.next :=
  ⟨by rw [next_kept, next_kept]; exact h.k, by rw [next_cache, next_cache]; exact h.c, by rw [next_rd, next_rd]; exact h.r, by rw [next_wr, next_wr]; exact h.w, by rw [next_sy, next_sy]; exact h.s⟩
set_option maxRecDepth 100000 in
theorem Eq5.step {d o : DS} (h : Eq5 d o) (s : St) : Eq5 (stepD d s) (stepD o s) := by
  have hn := h.next
  unfold stepD
  split
  · exact ⟨hn.k, hn.c, by show up _ = up _; rw [hn.r], hn.w, hn.s⟩
  · split
    · exact ⟨hn.k, by show _ ++ _ = _ ++ _; rw [hn.c], hn.r, by show up _ = up _; rw [hn.w], hn.s⟩
    · exact ⟨by show setN _ _ _ = setN _ _ _; rw [hn.k, hn.c], rfl, hn.r, hn.w, by show up _ = up _; rw [hn.s]⟩
set_option maxRecDepth 100000 in
theorem step_trip (d : DS) (s : St) : (stepD d s).trip = d.next.trip ∧ (stepD d s).dark = d.next.dark ∧ (stepD d s).kept.length = d.kept.length ∧ (stepD d s).cache.length ≤ d.cache.length + 1 := by
  unfold stepD
  split
  · exact ⟨rfl, rfl, by show d.next.kept.length = _; rw [next_kept], by show d.next.cache.length ≤ _; rw [next_cache]; omega⟩
  · split
    · refine ⟨rfl, rfl, by show d.next.kept.length = _; rw [next_kept], ?_⟩
      show (d.next.cache ++ _).length ≤ _
      rw [next_cache]
      simp
    · exact ⟨rfl, rfl, by show (setN _ _ _).length = _; rw [setN_len, next_kept], by show (0 : Nat) ≤ _; omega⟩
/-- the other one: no trip, never dark -/
def Free (o : DS) : Prop := o.dark = false ∧ o.trip = -1
set_option maxRecDepth 100000 in
theorem Free.may {o : DS} (h : Free o) : o.may = true := by unfold DS.may; rw [h.1, h.2]; rfl
set_option maxRecDepth 100000 in
theorem Free.next {o : DS} (h : Free o) : o.next = o := by unfold DS.next; rw [h.1, h.2]; rfl
set_option maxRecDepth 100000 in
theorem Free.step {o : DS} (h : Free o) (s : St) : Free (stepD o s) := by
  obtain ⟨h1, h2, _⟩ := step_trip o s
  rw [h.next] at h1 h2
  exact ⟨h2.trans h.1, h1.trans h.2⟩
/-- c operations came, n may -/
def Came (d : DS) (c n : Nat) : Prop := (c < n → d.dark = false ∧ d.trip = (n : Int) - c) ∧ (c = n → d.may = false)
set_option maxRecDepth 100000 in
theorem Came.may {d : DS} {c n : Nat} (h : Came d c n) (hc : c < n) : d.may = true := by
  obtain ⟨h1, h2⟩ := h.1 hc
  unfold DS.may
  rw [h1, h2, if_neg (by simp), if_neg (by omega)]
set_option maxRecDepth 100000 in
theorem Came.step {d : DS} {c n : Nat} (h : Came d c n) (hc : c < n) (s : St) : Came (stepD d s) (c + 1) n ∧ (stepD d s).dark = false := by
  obtain ⟨h1, h2⟩ := h.1 hc
  obtain ⟨t1, t2, _⟩ := step_trip d s
  have e : d.next = { d with trip := d.trip - 1 } := by
    unfold DS.next
    rw [h1, if_neg (by simp), if_neg (by omega), if_pos (by omega)]
  rw [e] at t1 t2
  have hd : (stepD d s).dark = false := t2.trans h1
  have ht : (stepD d s).trip = (n : Int) - (c + 1 : Nat) := by rw [t1]; show d.trip - 1 = _; omega
  refine ⟨⟨fun _ => ⟨hd, ht⟩, fun e => ?_⟩, hd⟩
  unfold DS.may
  rw [hd, ht, if_neg (by simp), if_pos (by omega)]
set_option maxRecDepth 100000 in
theorem gone {d : DS} (h : d.may = false) : d.next.dark = true ∧ d.next.may = false := by
  unfold DS.may at h
  have hd : d.next.dark = true := by
    unfold DS.next
    cases hd : d.dark with
    | true => rw [if_pos rfl]; exact hd
    | false =>
      rw [hd, if_neg (by simp)] at h
      by_cases h0 : d.trip = 0
      · rw [if_neg (by simp), if_pos h0]
      · rw [if_neg h0] at h; cases h
  exact ⟨hd, by unfold DS.may; rw [hd]; rfl⟩
/-- all that goes on -/
structure TI (w0 w : World) (n c i : Nat) (S1 S2 : Nat → Prop) (g1 g2 : Nat) (d o : DS) : Prop where
  t : TwoS w w0.heap.size S1 S2 g1 g2 d o
  b : Below w0.heap.size w0 w
  e : Eq5 d o
  f : Free o
  k : d.kept.length = 4
  l : d.cache.length ≤ i
  cn : c ≤ n
  m : Came d c n
set_option maxRecDepth 100000 in
theorem TI.fr {w0 w w' : World} {n c i : Nat} {S1 S2 : Nat → Prop} {g1 g2 : Nat} {d o : DS} (h : TI w0 w n c i S1 S2 g1 g2 d o) (hf : Fr w w' No) : TI w0 w' n c i S1 S2 g1 g2 d o :=
  ⟨h.t.fr hf, h.b.trans (hf.below (fun _ hb => hb.elim) h.b.size), h.e, h.f, h.k, h.l, h.cn, h.m⟩
set_option maxRecDepth 100000 in
theorem TI.up {w0 w : World} {n c i : Nat} {S1 S2 : Nat → Prop} {g1 g2 : Nat} {d o : DS} (h : TI w0 w n c i S1 S2 g1 g2 d o) : TI w0 w n c (i + 1) S1 S2 g1 g2 d o :=
  ⟨h.t, h.b, h.e, h.f, h.k, Nat.le_succ_of_le h.l, h.cn, h.m⟩
set_option maxRecDepth 100000 in
/-- an operation that is not done any more -/
theorem TI.dark {w0 w w' : World} {n i : Nat} {S1 S2 : Nat → Prop} {g1 g2 : Nat} {d o : DS} (h : TI w0 w n n i S1 S2 g1 g2 d o) (hd : DAt w' S1 g1 d.next) (hf : Fr w w' S1) : TI w0 w' n n (i + 1) S1 S2 g1 g2 d.next o :=
  ⟨h.t.left hd hf, h.b.trans (h.t.below1 h.b.size hf), ⟨by rw [next_kept]; exact h.e.k, by rw [next_cache]; exact h.e.c, by rw [next_rd]; exact h.e.r, by rw [next_wr]; exact h.e.w, by rw [next_sy]; exact h.e.s⟩, h.f,
    by rw [next_kept]; exact h.k, by rw [next_cache]; have := h.l; omega, Nat.le_refl _, ⟨fun hc => absurd hc (by omega), fun _ => (gone (h.m.2 rfl)).2⟩⟩
set_option maxRecDepth 100000 in
theorem TI.go {w0 w w' : World} {n c i : Nat} {S1 S2 S1' S2' : Nat → Prop} {g1 g2 : Nat} {d o : DS} {s : St} (h : TI w0 w n c i S1 S2 g1 g2 d o) (hc : c < n) (ht : TwoS w' w0.heap.size S1' S2' g1 g2 (stepD d s) (stepD o s)) (hb : Below w0.heap.size w w') :
    TI w0 w' n (c + 1) (i + 1) S1' S2' g1 g2 (stepD d s) (stepD o s) :=
  ⟨ht, h.b.trans hb, h.e.step s, h.f.step s, by rw [(step_trip d s).2.2.1]; exact h.k, Nat.le_trans (step_trip d s).2.2.2 (Nat.succ_le_succ h.l), hc, (h.m.step hc s).1⟩
def TP (w0 : World) (n c i : Nat) (S1 S2 : Nat → Prop) (g1 g2 : Nat) (d o : DS) (w : World) : Prop := TI w0 w n c i S1 S2 g1 g2 d o
attribute [local go_sem high] run_eqs
set_option maxHeartbeats 4000000 in
set_option maxRecDepth 100000 in
theorem walked (A : Option Addr) (m c : Nat) (l : List St) (z : Int) (w : World) (h : Sts w w.heap.size A m l) (hm : m ≤ 140737488351232) (z1 : -9223372036854775808 ≤ z) (z2 : z ≤ 9223372036854775807) :
    Calls Try.prog 6 #[.slice A m c, .int .i64 z] w fun e w' => e = .returned (.bool true) ∧ Below w.heap.size w w' := by
  have HH := Lib.hid h
  have hml := h.1
  clear h
  go_enter Try.func6, Try.ntmps6
  go_wp2_with fail
  refine (new_any 4 (by omega) (by omega) w).mono ?_
  rintro e w1 ⟨g1, rfl, hd1, hb1⟩
  have hf1 : Fr w w1 No := Fr.of_below hb1 No
  have hs1 := hf1.size
  have HD1 := Lib.hid hd1.tight
  have HF1 := Lib.hid hf1
  clear hd1 hb1 hf1
  simp only [ptr, Option.map]
  go_wp2_with fail
  refine (new_any 4 (by omega) (by omega) w1).mono ?_
  rintro e w2 ⟨g2, rfl, hd2, hb2⟩
  have hf2 : Fr w1 w2 No := Fr.of_below hb2 No
  have hs2 := hf2.size
  have HT : Hid (TwoS w2 w.heap.size (fun b => w.heap.size ≤ b ∧ b < w1.heap.size) (fun b => w1.heap.size ≤ b ∧ b < w2.heap.size) g1 g2 (DS.new 4) (DS.new 4)) :=
    ⟨HD1.out.keep hf2 fun _ _ hn => hn, hd2.tight, fun x h1 h2 => by have := h1.2; have := h2.1; omega, fun x hx => ⟨hx.1, by have := hx.2; omega⟩, fun x hx => ⟨by have := hx.1; omega, hx.2⟩⟩
  have HB2 := Lib.hid (show Below w.heap.size w w2 from (HF1.out.below (fun _ hb => hb.elim) (Nat.le_refl _)).trans (hf2.below (fun _ hb => hb.elim) hs1))
  clear hd2 hb2 hf2 HD1 HF1 hs1 hs2
  simp only [ptr, Option.map]
  have HL := Lib.hid (long_any A m c l w2 (by
    obtain ⟨q1, q2, q3⟩ := HH.out.below HB2.out
    refine ⟨q1, fun s hs => ?_, fun hp => ?_⟩
    · have := q2 s hs
      exact ⟨this.b.mono fun _ hb _ => hb, this.k.mono fun _ hb _ => hb, this.n, this.n2⟩
    · obtain ⟨b, o, e, hb, hc⟩ := q3 hp
      exact ⟨b, o, e, Nat.lt_of_lt_of_le hb HB2.out.size, hc⟩) hm)
  go_wp2_with fail
  refine HL.out.mono ?_
  rintro e w' ⟨b, rfl, rfl, hfew⟩
  have alive : Hid (∀ wq, Below w.heap.size w wq → Calls Try.prog 10 #[] wq fun e w' => e = .returned (.bool true) ∧ Below w.heap.size w w') := fun wq hq => (alive_any wq).mono fun e w' ⟨he, hb⟩ => ⟨he, hq.trans (hb.mono hq.size)⟩
  cases b with
  | true =>
    go_wp2_with fail
    refine (alive.out w2 HB2.out).mono ?_
    rintro e w' ⟨rfl, hb⟩
    have HB := Lib.hid hb
    clear hb
    go_wp2
    go_ret
    exact ⟨rfl, HB.out⟩
  | false =>
    by_cases hz : z < 0
    · have hzd : decide (z < 0) = true := by simpa using hz
      go_wp2_with fail
      refine (alive.out w2 HB2.out).mono ?_
      rintro e w' ⟨rfl, hb⟩
      have HB := Lib.hid hb
      clear hb
      go_wp2
      go_ret
      exact ⟨rfl, HB.out⟩
    · have hzd : decide (z < 0) = false := by simpa using hz
      obtain ⟨n, rfl⟩ := Int.eq_ofNat_of_zero_le (by omega : 0 ≤ z)
      have HFew := Lib.hid (hfew rfl)
      have HM := Lib.hid (trip_any w2 _ g1 (DS.new 4) HT.out.a (n : Int) z2)
      have harm : (DS.new 4).arm (n : Int) = { DS.new 4 with trip := (n : Int) } := by
        unfold DS.arm
        rw [if_neg (by simp [DS.new]), show max (n : Int) (-1) = n by omega]
      have HA := Lib.hid harm
      clear hfew HL hz harm
      simp only [ptr, Option.map] at HM
      go_wp2_with fail
      refine HM.out.mono ?_
      rintro e w3 ⟨rfl, hd3, hf3⟩
      rw [HA.out] at hd3
      have HI : Hid (∃ S1 S2 d o, TI w w3 n 0 0 S1 S2 g1 g2 d o) := ⟨_, _, { DS.new 4 with trip := (n : Int) }, DS.new 4, HT.out.left hd3 hf3, HB2.out.trans (HT.out.below1 HB2.out.size hf3), ⟨rfl, rfl, rfl, rfl, rfl⟩, ⟨rfl, rfl⟩, rfl, Nat.le_refl _, Nat.zero_le _,
        fun _ => ⟨rfl, by simp⟩, fun e => by subst e; rfl⟩
      clear hd3 hf3 HM HA HT HB2
      go_wp2_with fail
      go_loopw [9, 10] (fun u v wr => ∃ (cc i : Nat) (S1 S2 : Nat → Prop) (d o : DS), u = .int .i64 (cc : Int) ∧ v = .int .i64 (i : Int) ∧ i ≤ m ∧ TI w wr n cc i S1 S2 g1 g2 d o) (fun _ v _ => m - (intOf v).toNat)
      case atStart => obtain ⟨S1, S2, d, o, h⟩ := HI.out; exact ⟨0, 0, S1, S2, d, o, rfl, rfl, by omega, h⟩
      case round =>
        obtain ⟨cc, i, S1, S2, d, o, rfl, rfl, hi, hti⟩ := hrel
        by_cases hlt : i < m
        · obtain ⟨s, bb, oo, hsl, rfl, hbo, hsin, c0, c1, c2, c3, c4⟩ := (HH.out.below hti.b).at_ hlt
          have hsf := HFew.out.2 s (List.mem_of_getElem? hsl)
          have hm200 := HFew.out.1
          obtain ⟨wx, hwx⟩ : ∃ wx, wx = wr.alloc (.cells #[.int .i64 s.k, .int .i64 s.a, .slice s.A s.m s.c, .int .i64 s.n, .slice s.K s.q s.r] 36) := ⟨_, rfl⟩
          have hfx : Fr wr wx No := by rw [hwx]; exact (Fr.refl _ _).alloc _
          have hix := hti.fr hfx
          have hxb : Blk wx wr.heap.size 36 #[.int .i64 s.k, .int .i64 s.a, .slice s.A s.m s.c, .int .i64 s.n, .slice s.K s.q s.r] := by rw [hwx]; exact Blk.new wr 36 _
          have x0 := hxb.cell 0
          have x1 := hxb.cell 1
          have x2 := hxb.cell 2
          have x3 := hxb.cell 3
          have x4 := hxb.cell 4
          simp only [List.getElem?_toArray, List.getElem?_cons_zero, List.getElem?_cons_succ] at x0 x1 x2 x3 x4
          have hin : ((i : Int) < (m : Int)) := by omega
          have hWi : IntKind.i64.wrap ((i : Int) + 1) = ((i + 1 : Nat) : Int) := by rw [IntWalk.i64_in _ (by omega)]; omega
          have HX := Lib.hid hxb
          have HIx := Lib.hid hix
          have HSI : Hid (s.In wx w.heap.size) := hsin.below (hfx.below (fun _ hb => hb.elim) hti.b.size)
          have HSF := Lib.hid hsf
          have HS2 := Lib.hid (show i < 200 by omega)
          clear hsl hsf hm200 hfx hxb hix hti hsin
          replace hwx := hwx.symm
          by_cases k2 : s.k = 2
          · have hk2 : (s.k == 2) = true := by rw [beq_iff_eq]; exact k2
            have hk0 : (s.k == 0) = false := beq_false_of_ne (by omega)
            have hk1 : (s.k == 1) = false := beq_false_of_ne (by omega)
            have HFine : Hid (Fine d.kept.length s) := ⟨fun h => by omega, fun h => by omega⟩
            clear k2
            by_cases hcn : cc < n
            · have hcd : decide ((cc : Int) ≥ (n : Int)) = false := by simp; omega
              have hWc : IntKind.i64.wrap ((cc : Int) + 1) = ((cc + 1 : Nat) : Int) := by rw [IntWalk.i64_in _ (by omega)]; omega
              have HTw := Lib.hid (twice_any wx w.heap.size HIx.out.b.size S1 S2 g1 g2 d o HIx.out.t s HSI.out HIx.out.e.k HIx.out.e.c (HIx.out.m.may hcn) HIx.out.f.may HFine.out (by have := HIx.out.l; have := HS2.out; omega))
              have HDk : Hid ((stepD d s).dark = false) := (HIx.out.m.step hcn s).2
              simp only [ptr, Option.map, St.agg] at HTw
              go_wp2_with fail
              with_reducible refine HTw.out.mono ?_
              rintro e wy ⟨S1', S2', rfl, ht, hb⟩
              have HIy := Lib.hid (HIx.out.go hcn ht hb)
              have HDd : Hid (Calls Try.prog 16 #[ptr (some g1)] wy fun e w' => e = .returned (.bool false) ∧ wy = w') := by
                have := dark_any wy S1' g1 (stepD d s) ht.a
                rw [HDk.out] at this
                exact this
              clear ht hb HTw
              simp only [ptr, Option.map] at HDd
              go_wp2_with fail
              with_reducible refine HDd.out.mono ?_
              rintro e w' ⟨rfl, rfl⟩
              go_wp2_with fail
              go_roundw
              case rel => exact ⟨cc + 1, i + 1, S1', S2', stepD d s, stepD o s, by go_num, by go_num, by omega, HIy.out⟩
              case measure => simp [intOf]; omega
            · obtain rfl : cc = n := by have := HIx.out.cn; omega
              have hcd : decide ((cc : Int) ≥ (cc : Int)) = true := by simp
              have hmay := HIx.out.m.2 rfl
              have HO := Lib.hid (sync_dark wx S1 g1 d HIx.out.t.a hmay)
              have HG := Lib.hid (gone hmay)
              clear hmay
              simp only [ptr, Option.map] at HO
              go_wp2_with fail
              with_reducible refine HO.out.mono ?_
              rintro e wy ⟨rfl, hd, hf⟩
              have HDd : Hid (Calls Try.prog 16 #[ptr (some g1)] wy fun e w' => e = .returned (.bool true) ∧ wy = w') := by
                have := dark_any wy S1 g1 d.next hd
                rw [HG.out.1] at this
                exact this
              have HIy := Lib.hid (HIx.out.dark hd hf)
              clear hd hf HO
              simp only [ptr, Option.map] at HDd
              go_wp2_with fail
              with_reducible refine HDd.out.mono ?_
              rintro e w' ⟨rfl, rfl⟩
              go_wp2_with fail
              go_roundw
              case rel => exact ⟨cc, i + 1, S1, S2, d.next, o, rfl, by go_num, by omega, HIy.out⟩
              case measure => simp [intOf]; omega
          · have hk2 : (s.k == 2) = false := beq_false_of_ne k2
            by_cases k0 : s.k = 0
            · have hk0 : (s.k == 0) = true := by rw [beq_iff_eq]; exact k0
              by_cases a0 : 0 ≤ s.a
              · have ha0 : decide (s.a ≥ 0) = true := by simpa using a0
                by_cases a4 : s.a < 4
                · have ha4 : decide (s.a < 4) = true := by simpa using a4
                  have HFine : Hid (Fine d.kept.length s) := ⟨fun _ => ⟨a0, by rw [HIx.out.k]; omega⟩, fun h => by omega⟩
                  obtain ⟨a, ha⟩ : ∃ a : Nat, s.a = (a : Int) := ⟨s.a.toNat, by omega⟩
                  have HA := Lib.hid ha
                  have ha44 : a < 4 := by omega
                  clear k0 a0 a4 ha k2
                  by_cases hcn : cc < n
                  · have hcd : decide ((cc : Int) ≥ (n : Int)) = false := by simp; omega
                    have hWc : IntKind.i64.wrap ((cc : Int) + 1) = ((cc + 1 : Nat) : Int) := by rw [IntWalk.i64_in _ (by omega)]; omega
                    have HTw := Lib.hid (twice_any wx w.heap.size HIx.out.b.size S1 S2 g1 g2 d o HIx.out.t s HSI.out HIx.out.e.k HIx.out.e.c (HIx.out.m.may hcn) HIx.out.f.may HFine.out (by have := HIx.out.l; have := HS2.out; omega))
                    have HDk : Hid ((stepD d s).dark = false) := (HIx.out.m.step hcn s).2
                    simp only [ptr, Option.map, St.agg] at HTw
                    go_wp2_with fail
                    with_reducible refine HTw.out.mono ?_
                    rintro e wy ⟨S1', S2', rfl, ht, hb⟩
                    have HIy := Lib.hid (HIx.out.go hcn ht hb)
                    have HDd : Hid (Calls Try.prog 16 #[ptr (some g1)] wy fun e w' => e = .returned (.bool false) ∧ wy = w') := by
                      have := dark_any wy S1' g1 (stepD d s) ht.a
                      rw [HDk.out] at this
                      exact this
                    clear ht hb HTw
                    simp only [ptr, Option.map] at HDd
                    go_wp2_with fail
                    with_reducible refine HDd.out.mono ?_
                    rintro e w' ⟨rfl, rfl⟩
                    go_wp2_with fail
                    go_roundw
                    case rel => exact ⟨cc + 1, i + 1, S1', S2', stepD d s, stepD o s, by go_num, by go_num, by omega, HIy.out⟩
                    case measure => simp [intOf]; omega
                  · obtain rfl : cc = n := by have := HIx.out.cn; omega
                    have hcd : decide ((cc : Int) ≥ (cc : Int)) = true := by simp
                    have hmay := HIx.out.m.2 rfl
                    have HO : Hid (Calls Try.prog 26 #[ptr (some g1), .int .i64 s.a] wx fun e w' => e = .returned (.tuple #[.slice none 0 0, .int .i64 8]) ∧ DAt w' S1 g1 d.next ∧ Fr wx w' S1) := by rw [HA.out]; exact read_dark wx S1 g1 d HIx.out.t.a a (by have := HIx.out.k; omega) hmay
                    have HG := Lib.hid (gone hmay)
                    clear hmay
                    simp only [ptr, Option.map] at HO
                    go_wp2_with fail
                    with_reducible refine HO.out.mono ?_
                    rintro e wy ⟨rfl, hd, hf⟩
                    have HDd : Hid (Calls Try.prog 16 #[ptr (some g1)] wy fun e w' => e = .returned (.bool true) ∧ wy = w') := by
                      have := dark_any wy S1 g1 d.next hd
                      rw [HG.out.1] at this
                      exact this
                    have HIy := Lib.hid (HIx.out.dark hd hf)
                    clear hd hf HO
                    simp only [ptr, Option.map] at HDd
                    go_wp2_with fail
                    with_reducible refine HDd.out.mono ?_
                    rintro e w' ⟨rfl, rfl⟩
                    go_wp2_with fail
                    go_roundw
                    case rel => exact ⟨cc, i + 1, S1, S2, d.next, o, rfl, by go_num, by omega, HIy.out⟩
                    case measure => simp [intOf]; omega
                · have ha4 : decide (s.a < 4) = false := by simpa using a4
                  try clear k0
                  try clear k1
                  go_wp2_with fail
                  go_roundw
                  case rel => exact ⟨cc, i + 1, S1, S2, d, o, rfl, by go_num, by omega, HIx.out.up⟩
                  case measure => simp [intOf]; omega
              · have ha0 : decide (s.a ≥ 0) = false := by simpa using a0
                try clear k0
                try clear k1
                go_wp2_with fail
                go_roundw
                case rel => exact ⟨cc, i + 1, S1, S2, d, o, rfl, by go_num, by omega, HIx.out.up⟩
                case measure => simp [intOf]; omega
            · have hk0 : (s.k == 0) = false := beq_false_of_ne k0
              by_cases k1 : s.k = 1
              · have hk1 : (s.k == 1) = true := by rw [beq_iff_eq]; exact k1
                by_cases a0 : 0 ≤ s.a
                · have ha0 : decide (s.a ≥ 0) = true := by simpa using a0
                  by_cases a4 : s.a < 4
                  · have ha4 : decide (s.a < 4) = true := by simpa using a4
                    by_cases m5 : s.m = 512
                    · have hm5 : ((s.m : Int) == 512) = true := by rw [beq_iff_eq]; omega
                      have HFine : Hid (Fine d.kept.length s) := ⟨fun _ => ⟨a0, by rw [HIx.out.k]; omega⟩, fun _ => m5⟩
                      obtain ⟨a, ha⟩ : ∃ a : Nat, s.a = (a : Int) := ⟨s.a.toNat, by omega⟩
                      have HA := Lib.hid ha
                      have H5 := Lib.hid m5
                      have ha44 : a < 4 := by omega
                      clear k0 k1 a0 a4 ha k2 m5
                      by_cases hcn : cc < n
                      · have hcd : decide ((cc : Int) ≥ (n : Int)) = false := by simp; omega
                        have hWc : IntKind.i64.wrap ((cc : Int) + 1) = ((cc + 1 : Nat) : Int) := by rw [IntWalk.i64_in _ (by omega)]; omega
                        have HTw := Lib.hid (twice_any wx w.heap.size HIx.out.b.size S1 S2 g1 g2 d o HIx.out.t s HSI.out HIx.out.e.k HIx.out.e.c (HIx.out.m.may hcn) HIx.out.f.may HFine.out (by have := HIx.out.l; have := HS2.out; omega))
                        have HDk : Hid ((stepD d s).dark = false) := (HIx.out.m.step hcn s).2
                        simp only [ptr, Option.map, St.agg] at HTw
                        go_wp2_with fail
                        with_reducible refine HTw.out.mono ?_
                        rintro e wy ⟨S1', S2', rfl, ht, hb⟩
                        have HIy := Lib.hid (HIx.out.go hcn ht hb)
                        have HDd : Hid (Calls Try.prog 16 #[ptr (some g1)] wy fun e w' => e = .returned (.bool false) ∧ wy = w') := by
                          have := dark_any wy S1' g1 (stepD d s) ht.a
                          rw [HDk.out] at this
                          exact this
                        clear ht hb HTw
                        simp only [ptr, Option.map] at HDd
                        go_wp2_with fail
                        with_reducible refine HDd.out.mono ?_
                        rintro e w' ⟨rfl, rfl⟩
                        go_wp2_with fail
                        go_roundw
                        case rel => exact ⟨cc + 1, i + 1, S1', S2', stepD d s, stepD o s, by go_num, by go_num, by omega, HIy.out⟩
                        case measure => simp [intOf]; omega
                      · obtain rfl : cc = n := by have := HIx.out.cn; omega
                        have hcd : decide ((cc : Int) ≥ (cc : Int)) = true := by simp
                        have hmay := HIx.out.m.2 rfl
                        have HO : Hid (Calls Try.prog 23 #[ptr (some g1), .int .i64 s.a, .slice s.A s.m s.c] wx fun e w' => e = .returned (.int .i64 8) ∧ DAt w' S1 g1 d.next ∧ Fr wx w' S1) := by rw [HA.out, H5.out]; exact write_dark wx S1 g1 d HIx.out.t.a a (by have := HIx.out.k; omega) s.A s.c hmay
                        have HG := Lib.hid (gone hmay)
                        clear hmay
                        simp only [ptr, Option.map] at HO
                        go_wp2_with fail
                        with_reducible refine HO.out.mono ?_
                        rintro e wy ⟨rfl, hd, hf⟩
                        have HDd : Hid (Calls Try.prog 16 #[ptr (some g1)] wy fun e w' => e = .returned (.bool true) ∧ wy = w') := by
                          have := dark_any wy S1 g1 d.next hd
                          rw [HG.out.1] at this
                          exact this
                        have HIy := Lib.hid (HIx.out.dark hd hf)
                        clear hd hf HO
                        simp only [ptr, Option.map] at HDd
                        go_wp2_with fail
                        with_reducible refine HDd.out.mono ?_
                        rintro e w' ⟨rfl, rfl⟩
                        go_wp2_with fail
                        go_roundw
                        case rel => exact ⟨cc, i + 1, S1, S2, d.next, o, rfl, by go_num, by omega, HIy.out⟩
                        case measure => simp [intOf]; omega
                    · have hm5 : ((s.m : Int) == 512) = false := beq_false_of_ne (by omega)
                      try clear k0
                      try clear k1
                      go_wp2_with fail
                      go_roundw
                      case rel => exact ⟨cc, i + 1, S1, S2, d, o, rfl, by go_num, by omega, HIx.out.up⟩
                      case measure => simp [intOf]; omega
                  · have ha4 : decide (s.a < 4) = false := by simpa using a4
                    try clear k0
                    try clear k1
                    go_wp2_with fail
                    go_roundw
                    case rel => exact ⟨cc, i + 1, S1, S2, d, o, rfl, by go_num, by omega, HIx.out.up⟩
                    case measure => simp [intOf]; omega
                · have ha0 : decide (s.a ≥ 0) = false := by simpa using a0
                  try clear k0
                  try clear k1
                  go_wp2_with fail
                  go_roundw
                  case rel => exact ⟨cc, i + 1, S1, S2, d, o, rfl, by go_num, by omega, HIx.out.up⟩
                  case measure => simp [intOf]; omega
              · have hk1 : (s.k == 1) = false := beq_false_of_ne k1
                try clear k0
                try clear k1
                go_wp2_with fail
                go_roundw
                case rel => exact ⟨cc, i + 1, S1, S2, d, o, rfl, by go_num, by omega, HIx.out.up⟩
                case measure => simp [intOf]; omega
        · obtain rfl : i = m := by omega
          have HIx := Lib.hid hti
          clear hti
          have HI2 : TP w n cc i S1 S2 g1 g2 d o wr.drew := HIx.out.fr (Fr.refl wr No).drew
          go_upto_region 28 with fail
          refine wp_region_held_drew (S := TP w n cc i S1 S2 g1 g2 d o) (by kernel_rfl) HI2 (fun hS => ?_)
          clear HI2
          refine wpAnyH_take (i := 0) (v := ?_) rfl (by kernel_rfl) (by kernel_rfl) (by kernel_rfl) (fun _ _ _ h => h) (Or.inl ⟨by rfl, ?_⟩) hS ?_
          rotate_left
          · (intro wq hSw; go_simp; try with_reducible rfl)
          refine wpAnyH_take (i := 2) (v := ?_) rfl (by kernel_rfl) (by kernel_rfl) (by kernel_rfl) (fun _ _ _ h => h) (Or.inl ⟨by rfl, ?_⟩) hS ?_
          rotate_left
          · (intro wq hSw; go_simp; try with_reducible rfl)
          simp only [List.getElem_toArray, List.getElem_cons_succ, List.getElem_cons_zero, Act.put, List.setIfInBounds_toArray, List.set_cons_succ, List.set_cons_zero]
          refine wpAnyH_ready (rs := [1]) (by kernel_rfl) (by simp) ?_
          refine AllReadyH.cons rfl (fun K hK => ?_) AllReadyH.nil
          go_simp
          refine (show Calls Try.prog 17 #[.pointer (some ⟨g1, 0, none⟩)] _ fun e w' => e = .returned (.agg #[.int .i64 o.rd, .int .i64 o.wr, .int .i64 o.sy]) ∧ Fr _ w' No by have h := counts_any _ S1 g1 d hS.t.a; rwa [hS.e.r, hS.e.w, hS.e.s] at h).mono ?_
          rintro e x ⟨rfl, hf⟩
          refine hK.out _ _ ?_ (fun hS => ?_)
          · exact hS.fr hf
          clear hK K
          refine wpAnyH_ready (rs := [3]) (by kernel_rfl) (by simp) ?_
          refine AllReadyH.cons rfl (fun K hK => ?_) AllReadyH.nil
          go_simp
          refine (show Calls Try.prog 17 #[.pointer (some ⟨g2, 0, none⟩)] _ fun e w' => e = .returned (.agg #[.int .i64 o.rd, .int .i64 o.wr, .int .i64 o.sy]) ∧ Fr _ w' No by exact counts_any _ S2 g2 o hS.t.b).mono ?_
          rintro e x ⟨rfl, hf⟩
          refine hK.out _ _ ?_ (fun hS => ?_)
          · exact hS.fr hf
          clear hK K
          refine wpAnyH_take (i := 4) (v := ?_) rfl (by kernel_rfl) (by kernel_rfl) (by kernel_rfl) (fun _ _ _ h => h) (Or.inl ⟨by rfl, ?_⟩) hS ?_
          rotate_left
          · (intro wq hSw; go_simp; try with_reducible rfl)
          simp only [List.getElem_toArray, List.getElem_cons_succ, List.getElem_cons_zero, Act.put, List.setIfInBounds_toArray, List.set_cons_succ, List.set_cons_zero]
          refine wpAnyH_take (i := 5) (v := ?_) rfl (by kernel_rfl) (by kernel_rfl) (by kernel_rfl) (fun _ _ _ h => h) (Or.inl ⟨by rfl, ?_⟩) hS ?_
          rotate_left
          · (intro wq hSw; go_simp; try with_reducible rfl)
          simp only [List.getElem_toArray, List.getElem_cons_succ, List.getElem_cons_zero, Act.put, List.setIfInBounds_toArray, List.set_cons_succ, List.set_cons_zero]
          refine wpAnyH_take (i := 6) (v := ?_) rfl (by kernel_rfl) (by kernel_rfl) (by kernel_rfl) (fun _ _ _ h => h) (Or.inl ⟨by rfl, ?_⟩) hS ?_
          rotate_left
          · (intro wq hSw; go_simp; try with_reducible rfl)
          simp only [List.getElem_toArray, List.getElem_cons_succ, List.getElem_cons_zero, Act.put, List.setIfInBounds_toArray, List.set_cons_succ, List.set_cons_zero]
          refine wpAnyH_take (i := 8) (v := ?_) rfl (by kernel_rfl) (by kernel_rfl) (by kernel_rfl) (fun _ _ _ h => h) (Or.inl ⟨by rfl, ?_⟩) hS ?_
          rotate_left
          · (intro wq hSw; go_simp; try with_reducible rfl)
          simp only [List.getElem_toArray, List.getElem_cons_succ, List.getElem_cons_zero, Act.put, List.setIfInBounds_toArray, List.set_cons_succ, List.set_cons_zero]
          refine wpAnyH_ready (rs := [7]) (by kernel_rfl) (by simp) ?_
          refine AllReadyH.cons rfl (fun K hK => ?_) AllReadyH.nil
          go_simp
          refine (show Calls Try.prog 15 #[.pointer (some ⟨g1, 0, none⟩)] _ fun e w' => e = .returned (.int .i64 (o.cache.length : Int)) ∧ _ = w' by have h := pending_any _ S1 g1 d hS.t.a; rwa [hS.e.c] at h).mono ?_
          rintro e x ⟨rfl, rfl⟩
          refine hK.out _ _ ?_ (fun hS => ?_)
          · exact hS
          clear hK K
          refine wpAnyH_ready (rs := [9]) (by kernel_rfl) (by simp) ?_
          refine AllReadyH.cons rfl (fun K hK => ?_) AllReadyH.nil
          go_simp
          refine (show Calls Try.prog 15 #[.pointer (some ⟨g2, 0, none⟩)] _ fun e w' => e = .returned (.int .i64 (o.cache.length : Int)) ∧ _ = w' by exact pending_any _ S2 g2 o hS.t.b).mono ?_
          rintro e x ⟨rfl, rfl⟩
          refine hK.out _ _ ?_ (fun hS => ?_)
          · exact hS
          clear hK K
          refine wpAnyH_take (i := 10) (v := ?_) rfl (by kernel_rfl) (by kernel_rfl) (by kernel_rfl) (fun _ _ _ h => h) (Or.inl ⟨by rfl, ?_⟩) hS ?_
          rotate_left
          · (intro wq hSw; go_simp; try with_reducible rfl)
          simp only [List.getElem_toArray, List.getElem_cons_succ, List.getElem_cons_zero, Act.put, List.setIfInBounds_toArray, List.set_cons_succ, List.set_cons_zero]
          refine wpAnyH_take (i := 11) (v := ?_) rfl (by kernel_rfl) (by kernel_rfl) (by kernel_rfl) (fun _ _ _ h => h) (Or.inl ⟨by rfl, ?_⟩) hS ?_
          rotate_left
          · (intro wq hSw; go_simp; try with_reducible rfl)
          simp only [List.getElem_toArray, List.getElem_cons_succ, List.getElem_cons_zero, Act.put, List.setIfInBounds_toArray, List.set_cons_succ, List.set_cons_zero]
          refine wpAnyH_take (i := 12) (v := ?_) rfl (by kernel_rfl) (by kernel_rfl) (by kernel_rfl) (fun _ _ _ h => h) (Or.inl ⟨by rfl, ?_⟩) hS ?_
          rotate_left
          · (intro wq hSw; go_simp; try with_reducible rfl)
          simp only [List.getElem_toArray, List.getElem_cons_succ, List.getElem_cons_zero, Act.put, List.setIfInBounds_toArray, List.set_cons_succ, List.set_cons_zero]
          refine wpAnyH_take (i := 13) (v := ?_) rfl (by kernel_rfl) (by kernel_rfl) (by kernel_rfl) (fun _ _ _ h => h) (Or.inl ⟨by rfl, ?_⟩) hS ?_
          rotate_left
          · (intro wq hSw; go_simp; try with_reducible rfl)
          simp only [List.getElem_toArray, List.getElem_cons_succ, List.getElem_cons_zero, Act.put, List.setIfInBounds_toArray, List.set_cons_succ, List.set_cons_zero]
          refine wpAnyH_take (i := 16) (v := ?_) rfl (by kernel_rfl) (by kernel_rfl) (by kernel_rfl) (fun _ _ _ h => h) (Or.inl ⟨by rfl, ?_⟩) hS ?_
          rotate_left
          · (intro wq hSw; go_simp; try with_reducible rfl)
          simp only [List.getElem_toArray, List.getElem_cons_succ, List.getElem_cons_zero, Act.put, List.setIfInBounds_toArray, List.set_cons_succ, List.set_cons_zero]
          refine wpAnyH_ready (rs := [14]) (by kernel_rfl) (by simp) ?_
          refine AllReadyH.cons rfl (fun K hK => ?_) AllReadyH.nil
          go_simp
          refine (show Calls Try.prog 18 #[.pointer (some ⟨g1, 0, none⟩)] _ fun e w' => ∃ v, e = .returned v ∧ New _ w' v o.image ∧ Fr _ w' No by have h := image_any _ S1 g1 d hS.t.a; rwa [show d.image = o.image from congrArg List.flatten hS.e.k] at h).mono ?_
          rintro e x1 ⟨v, rfl, hnw, hf⟩
          obtain ⟨A1, c1, rfl, _, _, hr1⟩ := Ow.reads hnw
          have hcv1 := run_conv _ _ o.image.length c1 _ _ hr1
          refine hK.out _ _ ?_ (fun hS => ?_)
          · exact hS.fr hf
          clear hK K hnw hf
          refine wpAnyH_ready (rs := [15, 17]) (by kernel_rfl) (by simp) ?_
          refine AllReadyH.cons rfl (fun K hK => ?_) (AllReadyH.cons rfl (fun K hK => ?_) AllReadyH.nil)
          · go_simp
            refine hK.out _ _ hS (fun hS => ?_)
            clear hK K
            refine wpAnyH_ready (rs := [17]) (by kernel_rfl) (by simp) ?_
            refine AllReadyH.cons rfl (fun K hK => ?_) AllReadyH.nil
            go_simp
            refine (show Calls Try.prog 18 #[.pointer (some ⟨g2, 0, none⟩)] _ fun e w' => ∃ v, e = .returned v ∧ New _ w' v o.image ∧ Fr _ w' No by exact image_any _ S2 g2 o hS.t.b).mono ?_
            rintro e x2 ⟨v, rfl, hnw, hf⟩
            obtain ⟨A2, c2, rfl, _, _, hr2⟩ := Ow.reads hnw
            have hcv2 := run_conv _ _ o.image.length c2 _ _ hr2
            refine hK.out _ _ ?_ (fun hS => ?_)
            · exact hS.fr hf
            clear hK K hnw hf
            refine wpAnyH_ready (rs := [18]) (by kernel_rfl) (by simp) ?_
            refine AllReadyH.cons rfl (fun K hK => ?_) AllReadyH.nil
            go_simp
            refine hK.out _ _ hS (fun hS => ?_)
            clear hK K
            refine wpAnyH_take (i := 19) (v := ?_) rfl (by kernel_rfl) (by kernel_rfl) (by kernel_rfl) (fun _ _ _ h => h) (Or.inl ⟨by rfl, ?_⟩) hS ?_
            rotate_left
            · (intro wq hSw; go_simp; try with_reducible rfl)
            simp only [List.getElem_toArray, List.getElem_cons_succ, List.getElem_cons_zero, Act.put, List.setIfInBounds_toArray, List.set_cons_succ, List.set_cons_zero]
            refine wpAnyH_take (i := 20) (v := ?_) rfl (by kernel_rfl) (by kernel_rfl) (by kernel_rfl) (fun _ _ _ h => h) (Or.inl ⟨by rfl, ?_⟩) hS ?_
            rotate_left
            · (intro wq hSw; go_simp; try with_reducible rfl)
            simp only [List.getElem_toArray, List.getElem_cons_succ, List.getElem_cons_zero, Act.put, List.setIfInBounds_toArray, List.set_cons_succ, List.set_cons_zero]
            refine wpAnyH_done (by kernel_rfl) ?_ _
            have HS := Lib.hid hS
            clear hS
            go_wp2_with fail
            refine (cut_any _ S1 g1 d HS.out.t.a No none 0 0 [] KB.nil_ (fun _ hy => hy.elim) (by have := HS.out.l; have := HFew.out.1; omega) (by omega)).mono ?_
            rintro e y1 ⟨rfl, hd, hf⟩
            have HY := Lib.hid (HS.out.b.trans (HS.out.t.below1 HS.out.b.size hf))
            have HDY := Lib.hid hd
            have HG := Lib.hid (fun x (hx : S1 x) => (HS.out.t.b1 x hx).1)
            have hkl : 0 < (d.cut []).kept.length := by show 0 < (cutN _ _ _ _).length; rw [cutN_len, HS.out.k]; omega
            have HKL := Lib.hid hkl
            clear hd hf hkl
            go_wp2_with fail
            refine (read_some y1 S1 g1 (d.cut []) HDY.out 0 HKL.out rfl).mono ?_
            rintro e y2 ⟨k2, rfl, _, _, hd, hf⟩
            have HY2 := Lib.hid (HY.out.trans (hf.below HG.out HY.out.size))
            have HDd : Hid (Calls Try.prog 16 #[ptr (some g1)] y2 fun e w' => e = .returned (.bool false) ∧ y2 = w') := dark_any y2 S1 g1 _ hd
            clear hd hf
            simp only [ptr, Option.map] at HDd
            go_wp2_with fail
            refine HDd.out.mono ?_
            rintro e w' ⟨rfl, rfl⟩
            go_wp2_with fail
            refine (alive.out y2 HY2.out).mono ?_
            rintro e w' ⟨rfl, hb⟩
            have HZ := Lib.hid hb
            clear hb
            go_wp2
            go_ret
            exact ⟨rfl, HZ.out⟩
          · go_simp
            refine (show Calls Try.prog 18 #[.pointer (some ⟨g2, 0, none⟩)] _ fun e w' => ∃ v, e = .returned v ∧ New _ w' v o.image ∧ Fr _ w' No by exact image_any _ S2 g2 o hS.t.b).mono ?_
            rintro e x2 ⟨v, rfl, hnw, hf⟩
            obtain ⟨A2, c2, rfl, _, _, hr2⟩ := Ow.reads hnw
            have hcv2 := run_conv _ _ o.image.length c2 _ _ hr2
            have hcv1 := run_conv _ _ o.image.length c1 _ _ (hr1.keep hf fun _ _ hn => hn)
            refine hK.out _ _ ?_ (fun hS => ?_)
            · exact hS.fr hf
            clear hK K hnw hf
            refine wpAnyH_ready (rs := [15, 18]) (by kernel_rfl) (by simp) ?_
            refine AllReadyH.cons rfl (fun K hK => ?_) (AllReadyH.cons rfl (fun K hK => ?_) AllReadyH.nil)
            · go_simp
              refine hK.out _ _ hS (fun hS => ?_)
              clear hK K
              refine wpAnyH_ready (rs := [18]) (by kernel_rfl) (by simp) ?_
              refine AllReadyH.cons rfl (fun K hK => ?_) AllReadyH.nil
              go_simp
              refine hK.out _ _ hS (fun hS => ?_)
              clear hK K
              refine wpAnyH_take (i := 19) (v := ?_) rfl (by kernel_rfl) (by kernel_rfl) (by kernel_rfl) (fun _ _ _ h => h) (Or.inl ⟨by rfl, ?_⟩) hS ?_
              rotate_left
              · (intro wq hSw; go_simp; try with_reducible rfl)
              simp only [List.getElem_toArray, List.getElem_cons_succ, List.getElem_cons_zero, Act.put, List.setIfInBounds_toArray, List.set_cons_succ, List.set_cons_zero]
              refine wpAnyH_take (i := 20) (v := ?_) rfl (by kernel_rfl) (by kernel_rfl) (by kernel_rfl) (fun _ _ _ h => h) (Or.inl ⟨by rfl, ?_⟩) hS ?_
              rotate_left
              · (intro wq hSw; go_simp; try with_reducible rfl)
              simp only [List.getElem_toArray, List.getElem_cons_succ, List.getElem_cons_zero, Act.put, List.setIfInBounds_toArray, List.set_cons_succ, List.set_cons_zero]
              refine wpAnyH_done (by kernel_rfl) ?_ _
              have HS := Lib.hid hS
              clear hS
              go_wp2_with fail
              refine (cut_any _ S1 g1 d HS.out.t.a No none 0 0 [] KB.nil_ (fun _ hy => hy.elim) (by have := HS.out.l; have := HFew.out.1; omega) (by omega)).mono ?_
              rintro e y1 ⟨rfl, hd, hf⟩
              have HY := Lib.hid (HS.out.b.trans (HS.out.t.below1 HS.out.b.size hf))
              have HDY := Lib.hid hd
              have HG := Lib.hid (fun x (hx : S1 x) => (HS.out.t.b1 x hx).1)
              have hkl : 0 < (d.cut []).kept.length := by show 0 < (cutN _ _ _ _).length; rw [cutN_len, HS.out.k]; omega
              have HKL := Lib.hid hkl
              clear hd hf hkl
              go_wp2_with fail
              refine (read_some y1 S1 g1 (d.cut []) HDY.out 0 HKL.out rfl).mono ?_
              rintro e y2 ⟨k2, rfl, _, _, hd, hf⟩
              have HY2 := Lib.hid (HY.out.trans (hf.below HG.out HY.out.size))
              have HDd : Hid (Calls Try.prog 16 #[ptr (some g1)] y2 fun e w' => e = .returned (.bool false) ∧ y2 = w') := dark_any y2 S1 g1 _ hd
              clear hd hf
              simp only [ptr, Option.map] at HDd
              go_wp2_with fail
              refine HDd.out.mono ?_
              rintro e w' ⟨rfl, rfl⟩
              go_wp2_with fail
              refine (alive.out y2 HY2.out).mono ?_
              rintro e w' ⟨rfl, hb⟩
              have HZ := Lib.hid hb
              clear hb
              go_wp2
              go_ret
              exact ⟨rfl, HZ.out⟩
            · go_simp
              refine hK.out _ _ hS (fun hS => ?_)
              clear hK K
              refine wpAnyH_ready (rs := [15]) (by kernel_rfl) (by simp) ?_
              refine AllReadyH.cons rfl (fun K hK => ?_) AllReadyH.nil
              go_simp
              refine hK.out _ _ hS (fun hS => ?_)
              clear hK K
              refine wpAnyH_take (i := 19) (v := ?_) rfl (by kernel_rfl) (by kernel_rfl) (by kernel_rfl) (fun _ _ _ h => h) (Or.inl ⟨by rfl, ?_⟩) hS ?_
              rotate_left
              · (intro wq hSw; go_simp; try with_reducible rfl)
              simp only [List.getElem_toArray, List.getElem_cons_succ, List.getElem_cons_zero, Act.put, List.setIfInBounds_toArray, List.set_cons_succ, List.set_cons_zero]
              refine wpAnyH_take (i := 20) (v := ?_) rfl (by kernel_rfl) (by kernel_rfl) (by kernel_rfl) (fun _ _ _ h => h) (Or.inl ⟨by rfl, ?_⟩) hS ?_
              rotate_left
              · (intro wq hSw; go_simp; try with_reducible rfl)
              simp only [List.getElem_toArray, List.getElem_cons_succ, List.getElem_cons_zero, Act.put, List.setIfInBounds_toArray, List.set_cons_succ, List.set_cons_zero]
              refine wpAnyH_done (by kernel_rfl) ?_ _
              have HS := Lib.hid hS
              clear hS
              go_wp2_with fail
              refine (cut_any _ S1 g1 d HS.out.t.a No none 0 0 [] KB.nil_ (fun _ hy => hy.elim) (by have := HS.out.l; have := HFew.out.1; omega) (by omega)).mono ?_
              rintro e y1 ⟨rfl, hd, hf⟩
              have HY := Lib.hid (HS.out.b.trans (HS.out.t.below1 HS.out.b.size hf))
              have HDY := Lib.hid hd
              have HG := Lib.hid (fun x (hx : S1 x) => (HS.out.t.b1 x hx).1)
              have hkl : 0 < (d.cut []).kept.length := by show 0 < (cutN _ _ _ _).length; rw [cutN_len, HS.out.k]; omega
              have HKL := Lib.hid hkl
              clear hd hf hkl
              go_wp2_with fail
              refine (read_some y1 S1 g1 (d.cut []) HDY.out 0 HKL.out rfl).mono ?_
              rintro e y2 ⟨k2, rfl, _, _, hd, hf⟩
              have HY2 := Lib.hid (HY.out.trans (hf.below HG.out HY.out.size))
              have HDd : Hid (Calls Try.prog 16 #[ptr (some g1)] y2 fun e w' => e = .returned (.bool false) ∧ y2 = w') := dark_any y2 S1 g1 _ hd
              clear hd hf
              simp only [ptr, Option.map] at HDd
              go_wp2_with fail
              refine HDd.out.mono ?_
              rintro e w' ⟨rfl, rfl⟩
              go_wp2_with fail
              refine (alive.out y2 HY2.out).mono ?_
              rintro e w' ⟨rfl, hb⟩
              have HZ := Lib.hid hb
              clear hb
              go_wp2
              go_ret
              exact ⟨rfl, HZ.out⟩
end Go.Proofs.Ytjblcligkgjbjaa.diskTrips
