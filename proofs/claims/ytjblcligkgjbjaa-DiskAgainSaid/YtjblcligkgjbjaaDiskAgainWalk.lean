/-
  THE WALK OF DiskAgain.
-/
import Derived.Test.YtjblcligkgjbjaaWalkZ
import Derived.Deep.Cut
import Derived.BigQuiet
import Derived.OrdersHeld
import Derived.Test.YtjblcligkgjbjaaWalkM
namespace Go.Proofs.Ytjblcligkgjbjaa.diskAgain
open Go.RowKit Go.Sort Go.Maps

set_option maxRecDepth 100000 in
theorem sts_up {w w' : World} {A : Option Addr} {m : Nat} {l : List St} (h : Sts w w.heap.size A m l) (hb : Below w.heap.size w w') : Sts w' w'.heap.size A m l := by
  obtain ⟨q1, q2, q3⟩ := h.below hb
  refine ⟨q1, fun s hs => ?_, fun hp => ?_⟩
  · have := q2 s hs
    exact ⟨this.b.mono fun _ hb _ => hb, this.k.mono fun _ hb _ => hb, this.n, this.n2⟩
  · obtain ⟨b, o, e, hlt, hc⟩ := q3 hp
    exact ⟨b, o, e, Nat.lt_of_lt_of_le hlt hb.size, hc⟩
set_option maxRecDepth 100000 in
theorem flat_inj : ∀ (l l' : List (List Nat)), (∀ s ∈ l, s.length = 512) → (∀ s ∈ l', s.length = 512) → l.length = l'.length → l.flatten = l'.flatten → l = l'
  | [], [], _, _, _, _ => rfl
  | [], _ :: _, _, _, h, _ => by simp at h
  | _ :: _, [], _, _, h, _ => by simp at h
  | a :: l, b :: l', h1, h2, hl, hf => by
    rw [List.flatten_cons, List.flatten_cons] at hf
    have hab := List.append_inj hf (by rw [h1 a (by simp), h2 b (by simp)])
    rw [hab.1, flat_inj l l' (fun s hs => h1 s (by simp [hs])) (fun s hs => h2 s (by simp [hs])) (by simpa using hl) hab.2]
set_option maxRecDepth 100000 in
theorem cut_none (k : List (List Nat)) (c : List (Nat × List Nat)) : ∀ n, cutN k c [] n = k
  | 0 => rfl
  | n + 1 => by unfold cutN; rw [if_neg (by simp), cut_none k c n]
/-- two disks that have the same, neither dark nor with a trip -/
structure Eq2 (d o : DS) : Prop where
  k : d.kept = o.kept
  c : d.cache = o.cache
  f : d.dark = false ∧ d.trip = -1
  g : o.dark = false ∧ o.trip = -1
set_option maxRecDepth 100000 in
theorem free_may {o : DS} (h : o.dark = false ∧ o.trip = -1) : o.may = true := by unfold DS.may; rw [h.1, h.2]; rfl
set_option maxRecDepth 100000 in
theorem free_next {o : DS} (h : o.dark = false ∧ o.trip = -1) : o.next = o := by unfold DS.next; rw [h.1, h.2]; rfl
set_option maxRecDepth 100000 in
theorem Eq2.step {d o : DS} (h : Eq2 d o) (s : St) : Eq2 (stepD d s) (stepD o s) := by
  unfold stepD
  rw [free_next h.f, free_next h.g]
  split
  · exact ⟨h.k, h.c, h.f, h.g⟩
  · split
    · exact ⟨h.k, by show _ ++ _ = _ ++ _; rw [h.c], h.f, h.g⟩
    · exact ⟨by show setN _ _ _ = setN _ _ _; rw [h.k, h.c], rfl, h.f, h.g⟩
set_option maxRecDepth 100000 in
theorem step_len {d : DS} (h : d.dark = false ∧ d.trip = -1) (s : St) : (stepD d s).kept.length = d.kept.length ∧ (stepD d s).cache.length ≤ d.cache.length + 1 := by
  unfold stepD
  rw [free_next h]
  split
  · exact ⟨rfl, Nat.le_succ _⟩
  · split
    · exact ⟨rfl, by show (d.cache ++ _).length ≤ _; simp⟩
    · exact ⟨by show (setN _ _ _).length = _; rw [setN_len], by show (0 : Nat) ≤ _; omega⟩
/-- all that goes on -/
structure PT (w0 : World) (S1 S2 : Nat → Prop) (g1 g2 : Nat) (d o : DS) (w : World) : Prop where
  t : TwoS w w0.heap.size S1 S2 g1 g2 d o
  b : Below w0.heap.size w0 w
set_option maxRecDepth 100000 in
theorem PT.fr {w0 w w' : World} {S1 S2 : Nat → Prop} {g1 g2 : Nat} {d o : DS} (h : PT w0 S1 S2 g1 g2 d o w) (hf : Fr w w' No) : PT w0 S1 S2 g1 g2 d o w' :=
  ⟨h.t.fr hf, h.b.trans (hf.below (fun _ hb => hb.elim) h.b.size)⟩
set_option maxRecDepth 100000 in
theorem PT.drew {w0 w : World} {S1 S2 : Nat → Prop} {g1 g2 : Nat} {d o : DS} (h : PT w0 S1 S2 g1 g2 d o w) : PT w0 S1 S2 g1 g2 d o w.drew := h.fr (Fr.refl w No).drew
attribute [local go_sem high] run_eqs
set_option maxRecDepth 100000 in
/-- a step of either kind -/
theorem does_any (w : World) (B : Nat) (hB : B ≤ w.heap.size) (S1 S2 T : Nat → Prop) (g1 g2 : Nat) (d : DS) (h : BS w B S1 S2 T g1 g2 d d) (s : St) (hs : s.In w B) (hlen : d.cache.length < 900000) (hm5 : s.m ≤ 1024) (hq : s.q ≤ 400) :
    Calls Try.prog 14 #[ptr (some g1), ptr (some g2), s.agg] w (Does B g1 g2 d w) := by
  by_cases h0 : s.k = 0
  · exact does_read w B hB S1 S2 T g1 g2 d h s hs h0 hlen
  · by_cases h1 : s.k = 1
    · exact does_write w B hB S1 S2 T g1 g2 d h s hs h1 hlen (by omega)
    · exact does_rest w B hB S1 S2 T g1 g2 d h s hs h0 h1 hlen (by omega)
set_option maxRecDepth 100000 in
set_option maxHeartbeats 4000000 in
theorem walked (x : Int) (A : Option Addr) (m c : Nat) (l : List St) (A2 : Option Addr) (m2 c2 : Nat) (l2 : List St) (w : World) (x1 : -9223372036854775808 ≤ x) (x2 : x ≤ 9223372036854775807) (h : Sts w w.heap.size A m l) (hm : m ≤ 140737488351232) (h2 : Sts w w.heap.size A2 m2 l2) (hm2 : m2 ≤ 140737488351232) :
    Calls Try.prog 7 #[.int .i64 x, .slice A m c, .slice A2 m2 c2] w fun e w' => e = .returned (.bool true) ∧ Below w.heap.size w w' := by
  have alive : Hid (∀ wq, Below w.heap.size w wq → Calls Try.prog 10 #[] wq fun e w' => e = .returned (.bool true) ∧ Below w.heap.size w w') := fun wq hq => (alive_any wq).mono fun e w' ⟨he, hb⟩ => ⟨he, hq.trans (hb.mono hq.size)⟩
  have HH := Lib.hid h
  have HH2 := Lib.hid h2
  have HL := Lib.hid (long_any A m c l w h hm)
  have HL2 := Lib.hid (long_any A2 m2 c2 l2 w h2 hm2)
  have hml := h.1
  have hml2 := h2.1
  have HB0 := Lib.hid (Below.refl w.heap.size w)
  clear h h2
  by_cases hlo : x < 1
  · have hd : decide (x < 1) = true := decide_eq_true hlo
    go_enter Try.func7, Try.ntmps7
    go_wp2_with fail
    refine (alive.out w HB0.out).mono ?_
    rintro e w' ⟨rfl, hb⟩
    have HB := Lib.hid hb
    clear hb
    go_wp2
    go_ret
    exact ⟨rfl, HB.out⟩
  · have hd : decide (x < 1) = false := decide_eq_false hlo
    by_cases hhi : x > 64
    · have hd2 : decide (x > 64) = true := decide_eq_true hhi
      go_enter Try.func7, Try.ntmps7
      go_wp2_with fail
      refine (alive.out w HB0.out).mono ?_
      rintro e w' ⟨rfl, hb⟩
      have HB := Lib.hid hb
      clear hb
      go_wp2
      go_ret
      exact ⟨rfl, HB.out⟩
    · obtain ⟨n, hn⟩ : ∃ n : Nat, x = (n : Int) := ⟨x.toNat, by omega⟩
      subst hn
      have hd2 : decide ((n : Int) > 64) = false := decide_eq_false hhi
      have hd3 : decide (64 < n) = false := decide_eq_false (by omega)
      have hd4 : decide (n < 1) = false := decide_eq_false (by omega)
      have hn0 : 0 < n := by omega
      have hn64 : n ≤ 64 := by omega
      have HNEW := Lib.hid (new_any n hn0 (by omega) w)
      simp only [ptr, Option.map] at HNEW
      clear hlo hhi x1 x2
      go_enter Try.func7, Try.ntmps7
      go_wp2_with fail
      refine HL.out.mono ?_
      rintro e w' ⟨b, rfl, rfl, hfew⟩
      clear HL
      cases b with
      | true =>
        go_wp2_with fail
        refine (alive.out w HB0.out).mono ?_
        rintro e w' ⟨rfl, hb⟩
        have HB := Lib.hid hb
        clear hb
        go_wp2
        go_ret
        exact ⟨rfl, HB.out⟩
      | false =>
        have HFew := Lib.hid (hfew rfl)
        clear hfew
        go_wp2_with fail
        refine HL2.out.mono ?_
        rintro e w' ⟨b, rfl, rfl, hfew⟩
        clear HL2
        cases b with
        | true =>
          go_wp2_with fail
          refine (alive.out w HB0.out).mono ?_
          rintro e w' ⟨rfl, hb⟩
          have HB := Lib.hid hb
          clear hb
          go_wp2
          go_ret
          exact ⟨rfl, HB.out⟩
        | false =>
          have HFew2 := Lib.hid (hfew rfl)
          clear hfew
          go_wp2_with fail
          with_reducible refine HNEW.out.mono ?_
          rintro e w1 ⟨g, rfl, hd1, hb1⟩
          have HD1 := Lib.hid hd1.tight
          have HB1 := Lib.hid hb1
          have HRN := Lib.hid (rnew_any n hn0 (by omega) w1)
          clear hd1 hb1 HNEW
          go_wp2_with fail
          with_reducible refine HRN.out.mono ?_
          rintro e w2 ⟨g2, S2, T, rfl, hr, hs2, ht2, hb2⟩
          have HBS : Hid (BS w2 w.heap.size (fun q => w.heap.size ≤ q ∧ q < w1.heap.size) S2 T g g2 (DS.new n) (DS.new n)) :=
            ⟨HD1.out.keep (Fr.of_below hb2 (fun q => w1.heap.size ≤ q)) fun q hq hn => by omega, hr, fun q hq => ⟨fun hn => by have := hs2 q hn; omega, fun hn => by have := ht2 q hn; omega⟩,
              fun q hq => ⟨hq.1, Nat.lt_of_lt_of_le hq.2 hb2.size⟩, fun q hq => Nat.le_trans HB1.out.size (hs2 q hq), fun q hq => Nat.le_trans HB1.out.size (ht2 q hq)⟩
          have HB2 := Lib.hid (HB1.out.trans (hb2.mono HB1.out.size))
          clear hr hs2 ht2 hb2 HD1 HRN HB1
          simp only [ptr, Option.map]
          go_wp2_with fail
          go_loopw [10] (fun u wr => ∃ (i : Nat) (S1 S2 T : Nat → Prop) (d : DS), u = .int .i64 (i : Int) ∧ i ≤ m ∧ BS wr w.heap.size S1 S2 T g g2 d d ∧ Below w.heap.size w wr ∧ d.kept.length = n ∧ d.cache.length ≤ i) (fun u _ => m - (intOf u).toNat)
          case atStart => exact ⟨0, _, _, _, _, rfl, by omega, HBS.out, HB2.out, List.length_replicate, Nat.le_refl _⟩
          case round =>
            clear HBS HB2
            obtain ⟨i, S1, S2, T, d, rfl, hi, hbs, hbl, hk, hlen⟩ := hrel
            by_cases hlt : i < m
            · obtain ⟨s, bb, oo, hsl, rfl, hbo, hsin, c0, c1, c2, c3, c4⟩ := (HH.out.below hbl).at_ hlt
              have hsf := HFew.out.2 s (List.mem_of_getElem? hsl)
              have hm200 := HFew.out.1
              have hin : ((i : Int) < (m : Int)) := by omega
              have hWi : IntKind.i64.wrap ((i : Int) + 1) = ((i + 1 : Nat) : Int) := by rw [IntWalk.i64_in _ (by omega)]; omega
              have HDO := Lib.hid (does_any wr w.heap.size hbl.size S1 S2 T g g2 d hbs s hsin (by omega) hsf.1 hsf.2)
              have HBL := Lib.hid hbl
              have HK := Lib.hid hk
              clear hsl hsf hm200 hbs hsin hbl hk
              simp only [ptr, Option.map, St.agg] at HDO
              go_wp2_with fail
              with_reducible refine HDO.out.mono ?_
              rintro e w3 ⟨S1', S2', T', d', rfl, hbs, hb, hk2, hc2⟩
              have HS := Lib.hid hbs
              have HB3 := Lib.hid (HBL.out.trans hb)
              have HK2 := Lib.hid (hk2.trans HK.out)
              have HC2 := Lib.hid (Nat.le_trans hc2 (Nat.add_le_add_right hlen 1))
              clear hbs hb hk2 hc2 HDO
              go_wp2_with fail
              go_roundw
              case rel => exact ⟨i + 1, S1', S2', T', d', by go_num, by omega, HS.out, HB3.out, HK2.out, HC2.out⟩
              case measure => simp [intOf]; omega
            · have h1d : decide ((i : Int) < (m : Int)) = false := decide_eq_false (by omega)
              have h1d2 : decide (i < m) = false := decide_eq_false hlt
              have HBS := Lib.hid hbs
              have HBL := Lib.hid hbl
              have HK := Lib.hid hk
              have HLN := Lib.hid hlen
              have HIM : Hid (Calls Try.prog 18 #[.pointer (some ⟨g, 0, none⟩)] wr fun e w' => ∃ v, e = .returned v ∧ New wr w' v d.image ∧ Fr wr w' No) := image_any wr S1 g d hbs.a
              clear hbs hbl hk hlen
              go_wp2_with fail
              with_reducible refine HIM.out.mono ?_
              rintro e w3 ⟨v, rfl, hnw, hf⟩
              have hil : d.image.length = n * 512 := by
                obtain ⟨_, _, _, _, hok⟩ := HBS.out.a
                show d.kept.flatten.length = _
                rw [flat_len hok.ok.sec, HK.out]
              obtain ⟨A1, c1, rfl, hle1, _, hr1⟩ := Ow.reads hnw
              have HLD := Lib.hid (load_some w3 _ A1 d.image.length c1 n d.image hr1 hle1 hil hn0 (by omega))
              have hkd : ldN d.image n n = d.kept := by
                obtain ⟨_, _, _, _, hok⟩ := HBS.out.a
                have hx : ∀ x ∈ d.image, x < 256 := fun x hx => by
                  obtain ⟨s, hs, hxs⟩ := List.mem_flatten.1 hx
                  exact (hok.ok.sec s hs).2 x hxs
                refine flat_inj _ _ (fun s hs => (ldN_sec hx hil s hs).1) (fun s hs => (hok.ok.sec s hs).1) (by rw [ldN_len, HK.out]) ?_
                rw [ldN_flat hil]
                rfl
              rw [hkd] at HLD
              have HF3 := Lib.hid hf
              clear hkd hil hnw hr1 hle1 hf HIM
              simp only [ptr, Option.map] at HLD
              go_wp2_with fail
              with_reducible refine HLD.out.mono ?_
              rintro e w4 ⟨g3, rfl, hd4, hb4⟩
              have hB3 : w.heap.size ≤ w3.heap.size := Nat.le_trans HBL.out.size HF3.out.size
              have hT4 : PT w S1 (fun b => w3.heap.size ≤ b ∧ b < w4.heap.size) g g3 d (DS.load d.kept) w4 :=
                ⟨⟨(HBS.out.a.keep HF3.out fun _ _ hn => hn).keep (Fr.of_below hb4 No) fun _ _ hn => hn, hd4.tight, fun x h1 h2 => by have := (HBS.out.b1 x h1).2; have := HF3.out.size; omega,
                    fun x hx => ⟨(HBS.out.b1 x hx).1, by have := (HBS.out.b1 x hx).2; have := HF3.out.size; have := hb4.size; omega⟩, fun x hx => ⟨by have := hx.1; omega, hx.2⟩⟩,
                  HBL.out.trans ((HF3.out.below (fun _ hb => hb.elim) HBL.out.size).trans (hb4.mono hB3))⟩
              have HT4 := Lib.hid hT4
              clear hd4 hb4 hT4 HLD HF3 hB3
              have HCUT : Hid (Calls Try.prog 25 #[.pointer (some ⟨g, 0, none⟩), .slice none 0 0] w4 fun e w' => e = .returned (.tuple #[]) ∧ DAt w' S1 g (d.cut []) ∧ Fr w4 w' S1) :=
                cut_any w4 S1 g d HT4.out.t.a No none 0 0 [] KB.nil_ (fun _ hy => hy.elim) (by have := HLN.out; have := HFew.out.1; omega) (by omega)
              go_wp2_with fail
              with_reducible refine HCUT.out.mono ?_
              rintro e w5 ⟨rfl, hd5, hf5⟩
              have HE5 : Hid (Eq2 (d.cut []) (DS.load d.kept)) := ⟨cut_none _ _ _, rfl, ⟨rfl, rfl⟩, ⟨rfl, rfl⟩⟩
              have HT5 : Hid (PT w S1 (fun b => w3.heap.size ≤ b ∧ b < w4.heap.size) g g3 (d.cut []) (DS.load d.kept) w5) := ⟨HT4.out.t.left hd5 hf5, HT4.out.b.trans (HT4.out.t.below1 HT4.out.b.size hf5)⟩
              have HK5 : Hid ((d.cut []).kept.length = n) := by rw [show (d.cut []).kept = d.kept from cut_none _ _ _]; exact HK.out
              clear hd5 hf5 HCUT HT4 HBS HBL HK HLN
              go_wp2_with fail
              go_loopw [13] (fun u wr => ∃ (i : Nat) (S1 S2 : Nat → Prop) (d1 d2 : DS), u = .int .i64 (i : Int) ∧ i ≤ m2 ∧ PT w S1 S2 g g3 d1 d2 wr ∧ Eq2 d1 d2 ∧ d1.kept.length = n ∧ d1.cache.length ≤ i) (fun u _ => m2 - (intOf u).toNat)
              case atStart => exact ⟨0, _, _, _, _, rfl, by omega, HT5.out, HE5.out, HK5.out, Nat.le_refl _⟩
              case round =>
                clear HT5 HE5 HK5
                obtain ⟨j, S1, S2, d1, d2, rfl, hj, hpt, heq, hk, hlen⟩ := hrel
                by_cases hlt : j < m2
                · obtain ⟨s, bb, oo, hsl, rfl, hbo, hsin, c0, c1, c2, c3, c4⟩ := (HH2.out.below hpt.b).at_ hlt
                  have hsf := HFew2.out.2 s (List.mem_of_getElem? hsl)
                  have hm200 := HFew2.out.1
                  obtain ⟨wx, hwx⟩ : ∃ wx, wx = wr.alloc (.cells #[.int .i64 s.k, .int .i64 s.a, .slice s.A s.m s.c, .int .i64 s.n, .slice s.K s.q s.r] 36) := ⟨_, rfl⟩
                  have hfx : Fr wr wx No := by rw [hwx]; exact (Fr.refl _ _).alloc _
                  have hxb : Blk wx wr.heap.size 36 #[.int .i64 s.k, .int .i64 s.a, .slice s.A s.m s.c, .int .i64 s.n, .slice s.K s.q s.r] := by rw [hwx]; exact Blk.new wr 36 _
                  have x0 := hxb.cell 0
                  have x1 := hxb.cell 1
                  have x2 := hxb.cell 2
                  have x3 := hxb.cell 3
                  have x4 := hxb.cell 4
                  simp only [List.getElem?_toArray, List.getElem?_cons_zero, List.getElem?_cons_succ] at x0 x1 x2 x3 x4
                  have hin : ((j : Int) < (m2 : Int)) := by omega
                  have hWi : IntKind.i64.wrap ((j : Int) + 1) = ((j + 1 : Nat) : Int) := by rw [IntWalk.i64_in _ (by omega)]; omega
                  have HSI : Hid (s.In wx w.heap.size) := hsin.below (hfx.below (fun _ hb => hb.elim) hpt.b.size)
                  have HPT := Lib.hid (hpt.fr hfx)
                  have HEQ := Lib.hid heq
                  have HKL := Lib.hid hk
                  have HLN := Lib.hid hlen
                  have HS2 := Lib.hid (show j < 200 by omega)
                  clear hsl hsf hm200 hfx hxb hpt hsin heq hk hlen
                  replace hwx := hwx.symm
                  have hk3f : (s.k == 3) = false ∨ s.k = 3 := by by_cases h : s.k = 3; exact Or.inr h; exact Or.inl (beq_false_of_ne h)
                  rcases hk3f with hk3 | h3
                  · have hk4f : (s.k == 4) = false ∨ s.k = 4 := by by_cases h : s.k = 4; exact Or.inr h; exact Or.inl (beq_false_of_ne h)
                    rcases hk4f with hk4 | h4
                    · by_cases k0 : s.k = 0
                      · have hk0 : (s.k == 0) = true := by rw [beq_iff_eq]; exact k0
                        have hk1 : (s.k == 1) = false := beq_false_of_ne (by omega)
                        have hkn : decide (s.k < 0) = false := decide_eq_false (by omega)
                        have hkb : decide (s.k > 4) = false := decide_eq_false (by omega)
                        by_cases a0 : s.a < 0
                        · have ha0 : decide (s.a < 0) = true := decide_eq_true a0
                          clear k0 a0
                          try clear k0
                          try clear k1
                          go_wp2_with fail
                          go_roundw
                          case rel => exact ⟨j + 1, S1, S2, d1, d2, by go_num, by omega, HPT.out, HEQ.out, HKL.out, Nat.le_succ_of_le HLN.out⟩
                          case measure => simp [intOf]; omega
                        · have ha0 : decide (s.a < 0) = false := decide_eq_false a0
                          by_cases a4 : s.a ≥ (n : Int)
                          · have ha4 : decide (s.a ≥ (n : Int)) = true := decide_eq_true a4
                            clear k0 a0 a4
                            try clear k0
                            try clear k1
                            go_wp2_with fail
                            go_roundw
                            case rel => exact ⟨j + 1, S1, S2, d1, d2, by go_num, by omega, HPT.out, HEQ.out, HKL.out, Nat.le_succ_of_le HLN.out⟩
                            case measure => simp [intOf]; omega
                          · have ha4 : decide (s.a ≥ (n : Int)) = false := decide_eq_false a4
                            have HFine : Hid (Fine d1.kept.length s) := ⟨fun _ => ⟨by omega, by rw [HKL.out]; omega⟩, fun h => by omega⟩
                            clear k0 a0 a4
                            have HTw := Lib.hid (twice_any wx w.heap.size HPT.out.b.size S1 S2 g g3 d1 d2 HPT.out.t s HSI.out HEQ.out.k HEQ.out.c (free_may HEQ.out.f) (free_may HEQ.out.g) HFine.out (by have := HLN.out; have := HS2.out; omega))
                            simp only [ptr, Option.map, St.agg] at HTw
                            go_wp2_with fail
                            with_reducible refine HTw.out.mono ?_
                            rintro e wy ⟨S1', S2', rfl, ht, hb⟩
                            have HPy : Hid (PT w S1' S2' g g3 (stepD d1 s) (stepD d2 s) wy) := ⟨ht, HPT.out.b.trans hb⟩
                            have HEy := Lib.hid (HEQ.out.step s)
                            have HLy := Lib.hid (step_len HEQ.out.f s)
                            clear ht hb HTw
                            go_wp2_with fail
                            go_roundw
                            case rel => exact ⟨j + 1, S1', S2', stepD d1 s, stepD d2 s, by go_num, by omega, HPy.out, HEy.out, HLy.out.1.trans HKL.out, Nat.le_trans HLy.out.2 (Nat.succ_le_succ HLN.out)⟩
                            case measure => simp [intOf]; omega
                      · have hk0 : (s.k == 0) = false := beq_false_of_ne k0
                        by_cases k1 : s.k = 1
                        · have hk1 : (s.k == 1) = true := by rw [beq_iff_eq]; exact k1
                          have hkn : decide (s.k < 0) = false := decide_eq_false (by omega)
                          have hkb : decide (s.k > 4) = false := decide_eq_false (by omega)
                          by_cases a0 : s.a < 0
                          · have ha0 : decide (s.a < 0) = true := decide_eq_true a0
                            clear k0 k1 a0
                            try clear k0
                            try clear k1
                            go_wp2_with fail
                            go_roundw
                            case rel => exact ⟨j + 1, S1, S2, d1, d2, by go_num, by omega, HPT.out, HEQ.out, HKL.out, Nat.le_succ_of_le HLN.out⟩
                            case measure => simp [intOf]; omega
                          · have ha0 : decide (s.a < 0) = false := decide_eq_false a0
                            by_cases a4 : s.a ≥ (n : Int)
                            · have ha4 : decide (s.a ≥ (n : Int)) = true := decide_eq_true a4
                              clear k0 k1 a0 a4
                              try clear k0
                              try clear k1
                              go_wp2_with fail
                              go_roundw
                              case rel => exact ⟨j + 1, S1, S2, d1, d2, by go_num, by omega, HPT.out, HEQ.out, HKL.out, Nat.le_succ_of_le HLN.out⟩
                              case measure => simp [intOf]; omega
                            · have ha4 : decide (s.a ≥ (n : Int)) = false := decide_eq_false a4
                              by_cases m5 : s.m = 512
                              · have hm5 : ((s.m : Int) == 512) = true := by rw [beq_iff_eq]; omega
                                have hm6 : ((s.m : Int) != 512) = false := by rw [bne_eq_false_iff_eq]; omega
                                have HFine : Hid (Fine d1.kept.length s) := ⟨fun _ => ⟨by omega, by rw [HKL.out]; omega⟩, fun _ => m5⟩
                                clear k0 k1 a0 a4 m5
                                have HTw := Lib.hid (twice_any wx w.heap.size HPT.out.b.size S1 S2 g g3 d1 d2 HPT.out.t s HSI.out HEQ.out.k HEQ.out.c (free_may HEQ.out.f) (free_may HEQ.out.g) HFine.out (by have := HLN.out; have := HS2.out; omega))
                                simp only [ptr, Option.map, St.agg] at HTw
                                go_wp2_with fail
                                with_reducible refine HTw.out.mono ?_
                                rintro e wy ⟨S1', S2', rfl, ht, hb⟩
                                have HPy : Hid (PT w S1' S2' g g3 (stepD d1 s) (stepD d2 s) wy) := ⟨ht, HPT.out.b.trans hb⟩
                                have HEy := Lib.hid (HEQ.out.step s)
                                have HLy := Lib.hid (step_len HEQ.out.f s)
                                clear ht hb HTw
                                go_wp2_with fail
                                go_roundw
                                case rel => exact ⟨j + 1, S1', S2', stepD d1 s, stepD d2 s, by go_num, by omega, HPy.out, HEy.out, HLy.out.1.trans HKL.out, Nat.le_trans HLy.out.2 (Nat.succ_le_succ HLN.out)⟩
                                case measure => simp [intOf]; omega
                              · have hm5 : ((s.m : Int) == 512) = false := beq_false_of_ne (by omega)
                                have hm6 : ((s.m : Int) != 512) = true := bne_iff_ne.2 (by omega)
                                clear k0 k1 a0 a4 m5
                                try clear k0
                                try clear k1
                                go_wp2_with fail
                                go_roundw
                                case rel => exact ⟨j + 1, S1, S2, d1, d2, by go_num, by omega, HPT.out, HEQ.out, HKL.out, Nat.le_succ_of_le HLN.out⟩
                                case measure => simp [intOf]; omega
                        · have hk1 : (s.k == 1) = false := beq_false_of_ne k1
                          by_cases kn : s.k < 0
                          · have hkn : decide (s.k < 0) = true := decide_eq_true kn
                            clear k0 k1 kn
                            try clear k0
                            try clear k1
                            go_wp2_with fail
                            go_roundw
                            case rel => exact ⟨j + 1, S1, S2, d1, d2, by go_num, by omega, HPT.out, HEQ.out, HKL.out, Nat.le_succ_of_le HLN.out⟩
                            case measure => simp [intOf]; omega
                          · have hkn : decide (s.k < 0) = false := decide_eq_false kn
                            by_cases kb : s.k > 4
                            · have hkb : decide (s.k > 4) = true := decide_eq_true kb
                              clear k0 k1 kn kb
                              try clear k0
                              try clear k1
                              go_wp2_with fail
                              go_roundw
                              case rel => exact ⟨j + 1, S1, S2, d1, d2, by go_num, by omega, HPT.out, HEQ.out, HKL.out, Nat.le_succ_of_le HLN.out⟩
                              case measure => simp [intOf]; omega
                            · have hkb : decide (s.k > 4) = false := decide_eq_false kb
                              have HFine : Hid (Fine d1.kept.length s) := ⟨fun h => by omega, fun h => by omega⟩
                              clear k0 k1 kn kb
                              have HTw := Lib.hid (twice_any wx w.heap.size HPT.out.b.size S1 S2 g g3 d1 d2 HPT.out.t s HSI.out HEQ.out.k HEQ.out.c (free_may HEQ.out.f) (free_may HEQ.out.g) HFine.out (by have := HLN.out; have := HS2.out; omega))
                              simp only [ptr, Option.map, St.agg] at HTw
                              go_wp2_with fail
                              with_reducible refine HTw.out.mono ?_
                              rintro e wy ⟨S1', S2', rfl, ht, hb⟩
                              have HPy : Hid (PT w S1' S2' g g3 (stepD d1 s) (stepD d2 s) wy) := ⟨ht, HPT.out.b.trans hb⟩
                              have HEy := Lib.hid (HEQ.out.step s)
                              have HLy := Lib.hid (step_len HEQ.out.f s)
                              clear ht hb HTw
                              go_wp2_with fail
                              go_roundw
                              case rel => exact ⟨j + 1, S1', S2', stepD d1 s, stepD d2 s, by go_num, by omega, HPy.out, HEy.out, HLy.out.1.trans HKL.out, Nat.le_trans HLy.out.2 (Nat.succ_le_succ HLN.out)⟩
                              case measure => simp [intOf]; omega
                    · have hk4 : (s.k == 4) = true := by rw [beq_iff_eq]; exact h4
                      clear h4
                      try clear k0
                      try clear k1
                      go_wp2_with fail
                      go_roundw
                      case rel => exact ⟨j + 1, S1, S2, d1, d2, by go_num, by omega, HPT.out, HEQ.out, HKL.out, Nat.le_succ_of_le HLN.out⟩
                      case measure => simp [intOf]; omega
                  · have hk3 : (s.k == 3) = true := by rw [beq_iff_eq]; exact h3
                    clear h3
                    try clear k0
                    try clear k1
                    go_wp2_with fail
                    go_roundw
                    case rel => exact ⟨j + 1, S1, S2, d1, d2, by go_num, by omega, HPT.out, HEQ.out, HKL.out, Nat.le_succ_of_le HLN.out⟩
                    case measure => simp [intOf]; omega
                · have h1d : decide ((j : Int) < (m2 : Int)) = false := decide_eq_false (by omega)
                  have h1d2 : decide (j < m2) = false := decide_eq_false hlt
                  have HPT := Lib.hid hpt
                  have HEQ := Lib.hid heq
                  clear hpt heq hk hlen
                  have hse2 : seq (bs d1.image) (bs d1.image) = true := seq_refl _
                  go_upto_region 23 with fail
                  refine wp_region_held_drew (S := PT w S1 S2 g g3 d1 d2) (by kernel_rfl) HPT.out.drew (fun hS => ?_)
                  refine wpAnyH_take (i := 0) (v := ?_) rfl (by kernel_rfl) (by kernel_rfl) (by kernel_rfl) (fun _ _ _ h => h) (Or.inl ⟨by rfl, ?_⟩) hS ?_
                  rotate_left
                  · (intro wq hSw; go_simp; try with_reducible rfl)
                  refine wpAnyH_take (i := 3) (v := ?_) rfl (by kernel_rfl) (by kernel_rfl) (by kernel_rfl) (fun _ _ _ h => h) (Or.inl ⟨by rfl, ?_⟩) hS ?_
                  rotate_left
                  · (intro wq hSw; go_simp; try with_reducible rfl)
                  simp only [List.getElem_toArray, List.getElem_cons_succ, List.getElem_cons_zero, Act.put, List.setIfInBounds_toArray, List.set_cons_succ, List.set_cons_zero]
                  refine wpAnyH_ready (rs := [1]) (by kernel_rfl) (by simp) ?_
                  refine AllReadyH.cons rfl (fun K hK => ?_) AllReadyH.nil
                  go_simp
                  refine (show Calls Try.prog 18 #[.pointer (some ⟨g, 0, none⟩)] _ fun e w' => ∃ v, e = .returned v ∧ New _ w' v d1.image ∧ Fr _ w' No by exact image_any _ S1 g d1 hS.t.a).mono ?_
                  rintro e x1 ⟨v, rfl, hnw, hf⟩
                  obtain ⟨A1, c1, rfl, _, _, hr1⟩ := Ow.reads hnw
                  have hcv1 := run_conv _ _ d1.image.length c1 _ _ hr1
                  refine hK.out _ _ ?_ (fun hS => ?_)
                  · exact hS.fr hf
                  clear hK K hnw hf
                  refine wpAnyH_ready (rs := [2, 4]) (by kernel_rfl) (by simp) ?_
                  refine AllReadyH.cons rfl (fun K hK => ?_) (AllReadyH.cons rfl (fun K hK => ?_) AllReadyH.nil)
                  · go_simp
                    refine hK.out _ _ hS (fun hS => ?_)
                    clear hK K
                    refine wpAnyH_ready (rs := [4]) (by kernel_rfl) (by simp) ?_
                    refine AllReadyH.cons rfl (fun K hK => ?_) AllReadyH.nil
                    go_simp
                    refine (show Calls Try.prog 18 #[.pointer (some ⟨g3, 0, none⟩)] _ fun e w' => ∃ v, e = .returned v ∧ New _ w' v d1.image ∧ Fr _ w' No by have h := image_any _ S2 g3 d2 hS.t.b; rwa [show d2.image = d1.image from congrArg List.flatten HEQ.out.k.symm] at h).mono ?_
                    rintro e x2 ⟨v, rfl, hnw, hf⟩
                    obtain ⟨A2, c2, rfl, _, _, hr2⟩ := Ow.reads hnw
                    have hcv2 := run_conv _ _ d1.image.length c2 _ _ hr2
                    refine hK.out _ _ ?_ (fun hS => ?_)
                    · exact hS.fr hf
                    clear hK K hnw hf
                    refine wpAnyH_ready (rs := [5]) (by kernel_rfl) (by simp) ?_
                    refine AllReadyH.cons rfl (fun K hK => ?_) AllReadyH.nil
                    go_simp
                    refine hK.out _ _ hS (fun hS => ?_)
                    clear hK K
                    refine wpAnyH_take (i := 6) (v := ?_) rfl (by kernel_rfl) (by kernel_rfl) (by kernel_rfl) (fun _ _ _ h => h) (Or.inl ⟨by rfl, ?_⟩) hS ?_
                    rotate_left
                    · (intro wq hSw; go_simp; try with_reducible rfl)
                    simp only [List.getElem_toArray, List.getElem_cons_succ, List.getElem_cons_zero, Act.put, List.setIfInBounds_toArray, List.set_cons_succ, List.set_cons_zero]
                    refine wpAnyH_take (i := 7) (v := ?_) rfl (by kernel_rfl) (by kernel_rfl) (by kernel_rfl) (fun _ _ _ h => h) (Or.inl ⟨by rfl, ?_⟩) hS ?_
                    rotate_left
                    · (intro wq hSw; go_simp; try with_reducible rfl)
                    simp only [List.getElem_toArray, List.getElem_cons_succ, List.getElem_cons_zero, Act.put, List.setIfInBounds_toArray, List.set_cons_succ, List.set_cons_zero]
                    refine wpAnyH_take (i := 8) (v := ?_) rfl (by kernel_rfl) (by kernel_rfl) (by kernel_rfl) (fun _ _ _ h => h) (Or.inl ⟨by rfl, ?_⟩) hS ?_
                    rotate_left
                    · (intro wq hSw; go_simp; try with_reducible rfl)
                    simp only [List.getElem_toArray, List.getElem_cons_succ, List.getElem_cons_zero, Act.put, List.setIfInBounds_toArray, List.set_cons_succ, List.set_cons_zero]
                    refine wpAnyH_take (i := 10) (v := ?_) rfl (by kernel_rfl) (by kernel_rfl) (by kernel_rfl) (fun _ _ _ h => h) (Or.inl ⟨by rfl, ?_⟩) hS ?_
                    rotate_left
                    · (intro wq hSw; go_simp; try with_reducible rfl)
                    simp only [List.getElem_toArray, List.getElem_cons_succ, List.getElem_cons_zero, Act.put, List.setIfInBounds_toArray, List.set_cons_succ, List.set_cons_zero]
                    refine wpAnyH_ready (rs := [9]) (by kernel_rfl) (by simp) ?_
                    refine AllReadyH.cons rfl (fun K hK => ?_) AllReadyH.nil
                    go_simp
                    refine (show Calls Try.prog 15 #[.pointer (some ⟨g, 0, none⟩)] _ fun e w' => e = .returned (.int .i64 (d1.cache.length : Int)) ∧ _ = w' by exact pending_any _ S1 g d1 hS.t.a).mono ?_
                    rintro e x ⟨rfl, rfl⟩
                    refine hK.out _ _ ?_ (fun hS => ?_)
                    · exact hS
                    clear hK K
                    refine wpAnyH_ready (rs := [11]) (by kernel_rfl) (by simp) ?_
                    refine AllReadyH.cons rfl (fun K hK => ?_) AllReadyH.nil
                    go_simp
                    refine (show Calls Try.prog 15 #[.pointer (some ⟨g3, 0, none⟩)] _ fun e w' => e = .returned (.int .i64 (d1.cache.length : Int)) ∧ _ = w' by have h := pending_any _ S2 g3 d2 hS.t.b; rwa [← HEQ.out.c] at h).mono ?_
                    rintro e x ⟨rfl, rfl⟩
                    refine hK.out _ _ ?_ (fun hS => ?_)
                    · exact hS
                    clear hK K
                    refine wpAnyH_take (i := 12) (v := ?_) rfl (by kernel_rfl) (by kernel_rfl) (by kernel_rfl) (fun _ _ _ h => h) (Or.inl ⟨by rfl, ?_⟩) hS ?_
                    rotate_left
                    · (intro wq hSw; go_simp; try with_reducible rfl)
                    simp only [List.getElem_toArray, List.getElem_cons_succ, List.getElem_cons_zero, Act.put, List.setIfInBounds_toArray, List.set_cons_succ, List.set_cons_zero]
                    refine wpAnyH_take (i := 13) (v := ?_) rfl (by kernel_rfl) (by kernel_rfl) (by kernel_rfl) (fun _ _ _ h => h) (Or.inl ⟨by rfl, ?_⟩) hS ?_
                    rotate_left
                    · (intro wq hSw; go_simp; try with_reducible rfl)
                    simp only [List.getElem_toArray, List.getElem_cons_succ, List.getElem_cons_zero, Act.put, List.setIfInBounds_toArray, List.set_cons_succ, List.set_cons_zero]
                    refine wpAnyH_take (i := 14) (v := ?_) rfl (by kernel_rfl) (by kernel_rfl) (by kernel_rfl) (fun _ _ _ h => h) (Or.inl ⟨by rfl, ?_⟩) hS ?_
                    rotate_left
                    · (intro wq hSw; go_simp; try with_reducible rfl)
                    simp only [List.getElem_toArray, List.getElem_cons_succ, List.getElem_cons_zero, Act.put, List.setIfInBounds_toArray, List.set_cons_succ, List.set_cons_zero]
                    refine wpAnyH_ready (rs := [15]) (by kernel_rfl) (by simp) ?_
                    refine AllReadyH.cons rfl (fun K hK => ?_) AllReadyH.nil
                    go_simp
                    refine (alive_any _).mono ?_
                    rintro e x ⟨rfl, hb⟩
                    refine hK.out _ _ ?_ (fun hS => ?_)
                    · exact hS.fr (Fr.of_below hb No)
                    clear hK K
                    refine wpAnyH_take (i := 16) (v := ?_) rfl (by kernel_rfl) (by kernel_rfl) (by kernel_rfl) (fun _ _ _ h => h) (Or.inl ⟨by rfl, ?_⟩) hS ?_
                    rotate_left
                    · (intro wq hSw; go_simp; try with_reducible rfl)
                    simp only [List.getElem_toArray, List.getElem_cons_succ, List.getElem_cons_zero, Act.put, List.setIfInBounds_toArray, List.set_cons_succ, List.set_cons_zero]
                    refine wpAnyH_take (i := 17) (v := ?_) rfl (by kernel_rfl) (by kernel_rfl) (by kernel_rfl) (fun _ _ _ h => h) (Or.inl ⟨by rfl, ?_⟩) hS ?_
                    rotate_left
                    · (intro wq hSw; go_simp; try with_reducible rfl)
                    simp only [List.getElem_toArray, List.getElem_cons_succ, List.getElem_cons_zero, Act.put, List.setIfInBounds_toArray, List.set_cons_succ, List.set_cons_zero]
                    refine wpAnyH_done (by kernel_rfl) ?_ _
                    have HS := Lib.hid hS
                    clear hS
                    go_wp2
                    go_ret
                    exact ⟨rfl, HS.out.b⟩
                  · go_simp
                    refine (show Calls Try.prog 18 #[.pointer (some ⟨g3, 0, none⟩)] _ fun e w' => ∃ v, e = .returned v ∧ New _ w' v d1.image ∧ Fr _ w' No by have h := image_any _ S2 g3 d2 hS.t.b; rwa [show d2.image = d1.image from congrArg List.flatten HEQ.out.k.symm] at h).mono ?_
                    rintro e x2 ⟨v, rfl, hnw, hf⟩
                    obtain ⟨A2, c2, rfl, _, _, hr2⟩ := Ow.reads hnw
                    have hcv2 := run_conv _ _ d1.image.length c2 _ _ hr2
                    have hcv1 := run_conv _ _ d1.image.length c1 _ _ (hr1.keep hf fun _ _ hn => hn)
                    refine hK.out _ _ ?_ (fun hS => ?_)
                    · exact hS.fr hf
                    clear hK K hnw hf
                    refine wpAnyH_ready (rs := [2, 5]) (by kernel_rfl) (by simp) ?_
                    refine AllReadyH.cons rfl (fun K hK => ?_) (AllReadyH.cons rfl (fun K hK => ?_) AllReadyH.nil)
                    · go_simp
                      refine hK.out _ _ hS (fun hS => ?_)
                      clear hK K
                      refine wpAnyH_ready (rs := [5]) (by kernel_rfl) (by simp) ?_
                      refine AllReadyH.cons rfl (fun K hK => ?_) AllReadyH.nil
                      go_simp
                      refine hK.out _ _ hS (fun hS => ?_)
                      clear hK K
                      refine wpAnyH_take (i := 6) (v := ?_) rfl (by kernel_rfl) (by kernel_rfl) (by kernel_rfl) (fun _ _ _ h => h) (Or.inl ⟨by rfl, ?_⟩) hS ?_
                      rotate_left
                      · (intro wq hSw; go_simp; try with_reducible rfl)
                      simp only [List.getElem_toArray, List.getElem_cons_succ, List.getElem_cons_zero, Act.put, List.setIfInBounds_toArray, List.set_cons_succ, List.set_cons_zero]
                      refine wpAnyH_take (i := 7) (v := ?_) rfl (by kernel_rfl) (by kernel_rfl) (by kernel_rfl) (fun _ _ _ h => h) (Or.inl ⟨by rfl, ?_⟩) hS ?_
                      rotate_left
                      · (intro wq hSw; go_simp; try with_reducible rfl)
                      simp only [List.getElem_toArray, List.getElem_cons_succ, List.getElem_cons_zero, Act.put, List.setIfInBounds_toArray, List.set_cons_succ, List.set_cons_zero]
                      refine wpAnyH_take (i := 8) (v := ?_) rfl (by kernel_rfl) (by kernel_rfl) (by kernel_rfl) (fun _ _ _ h => h) (Or.inl ⟨by rfl, ?_⟩) hS ?_
                      rotate_left
                      · (intro wq hSw; go_simp; try with_reducible rfl)
                      simp only [List.getElem_toArray, List.getElem_cons_succ, List.getElem_cons_zero, Act.put, List.setIfInBounds_toArray, List.set_cons_succ, List.set_cons_zero]
                      refine wpAnyH_take (i := 10) (v := ?_) rfl (by kernel_rfl) (by kernel_rfl) (by kernel_rfl) (fun _ _ _ h => h) (Or.inl ⟨by rfl, ?_⟩) hS ?_
                      rotate_left
                      · (intro wq hSw; go_simp; try with_reducible rfl)
                      simp only [List.getElem_toArray, List.getElem_cons_succ, List.getElem_cons_zero, Act.put, List.setIfInBounds_toArray, List.set_cons_succ, List.set_cons_zero]
                      refine wpAnyH_ready (rs := [9]) (by kernel_rfl) (by simp) ?_
                      refine AllReadyH.cons rfl (fun K hK => ?_) AllReadyH.nil
                      go_simp
                      refine (show Calls Try.prog 15 #[.pointer (some ⟨g, 0, none⟩)] _ fun e w' => e = .returned (.int .i64 (d1.cache.length : Int)) ∧ _ = w' by exact pending_any _ S1 g d1 hS.t.a).mono ?_
                      rintro e x ⟨rfl, rfl⟩
                      refine hK.out _ _ ?_ (fun hS => ?_)
                      · exact hS
                      clear hK K
                      refine wpAnyH_ready (rs := [11]) (by kernel_rfl) (by simp) ?_
                      refine AllReadyH.cons rfl (fun K hK => ?_) AllReadyH.nil
                      go_simp
                      refine (show Calls Try.prog 15 #[.pointer (some ⟨g3, 0, none⟩)] _ fun e w' => e = .returned (.int .i64 (d1.cache.length : Int)) ∧ _ = w' by have h := pending_any _ S2 g3 d2 hS.t.b; rwa [← HEQ.out.c] at h).mono ?_
                      rintro e x ⟨rfl, rfl⟩
                      refine hK.out _ _ ?_ (fun hS => ?_)
                      · exact hS
                      clear hK K
                      refine wpAnyH_take (i := 12) (v := ?_) rfl (by kernel_rfl) (by kernel_rfl) (by kernel_rfl) (fun _ _ _ h => h) (Or.inl ⟨by rfl, ?_⟩) hS ?_
                      rotate_left
                      · (intro wq hSw; go_simp; try with_reducible rfl)
                      simp only [List.getElem_toArray, List.getElem_cons_succ, List.getElem_cons_zero, Act.put, List.setIfInBounds_toArray, List.set_cons_succ, List.set_cons_zero]
                      refine wpAnyH_take (i := 13) (v := ?_) rfl (by kernel_rfl) (by kernel_rfl) (by kernel_rfl) (fun _ _ _ h => h) (Or.inl ⟨by rfl, ?_⟩) hS ?_
                      rotate_left
                      · (intro wq hSw; go_simp; try with_reducible rfl)
                      simp only [List.getElem_toArray, List.getElem_cons_succ, List.getElem_cons_zero, Act.put, List.setIfInBounds_toArray, List.set_cons_succ, List.set_cons_zero]
                      refine wpAnyH_take (i := 14) (v := ?_) rfl (by kernel_rfl) (by kernel_rfl) (by kernel_rfl) (fun _ _ _ h => h) (Or.inl ⟨by rfl, ?_⟩) hS ?_
                      rotate_left
                      · (intro wq hSw; go_simp; try with_reducible rfl)
                      simp only [List.getElem_toArray, List.getElem_cons_succ, List.getElem_cons_zero, Act.put, List.setIfInBounds_toArray, List.set_cons_succ, List.set_cons_zero]
                      refine wpAnyH_ready (rs := [15]) (by kernel_rfl) (by simp) ?_
                      refine AllReadyH.cons rfl (fun K hK => ?_) AllReadyH.nil
                      go_simp
                      refine (alive_any _).mono ?_
                      rintro e x ⟨rfl, hb⟩
                      refine hK.out _ _ ?_ (fun hS => ?_)
                      · exact hS.fr (Fr.of_below hb No)
                      clear hK K
                      refine wpAnyH_take (i := 16) (v := ?_) rfl (by kernel_rfl) (by kernel_rfl) (by kernel_rfl) (fun _ _ _ h => h) (Or.inl ⟨by rfl, ?_⟩) hS ?_
                      rotate_left
                      · (intro wq hSw; go_simp; try with_reducible rfl)
                      simp only [List.getElem_toArray, List.getElem_cons_succ, List.getElem_cons_zero, Act.put, List.setIfInBounds_toArray, List.set_cons_succ, List.set_cons_zero]
                      refine wpAnyH_take (i := 17) (v := ?_) rfl (by kernel_rfl) (by kernel_rfl) (by kernel_rfl) (fun _ _ _ h => h) (Or.inl ⟨by rfl, ?_⟩) hS ?_
                      rotate_left
                      · (intro wq hSw; go_simp; try with_reducible rfl)
                      simp only [List.getElem_toArray, List.getElem_cons_succ, List.getElem_cons_zero, Act.put, List.setIfInBounds_toArray, List.set_cons_succ, List.set_cons_zero]
                      refine wpAnyH_done (by kernel_rfl) ?_ _
                      have HS := Lib.hid hS
                      clear hS
                      go_wp2
                      go_ret
                      exact ⟨rfl, HS.out.b⟩
                    · go_simp
                      refine hK.out _ _ hS (fun hS => ?_)
                      clear hK K
                      refine wpAnyH_ready (rs := [2]) (by kernel_rfl) (by simp) ?_
                      refine AllReadyH.cons rfl (fun K hK => ?_) AllReadyH.nil
                      go_simp
                      refine hK.out _ _ hS (fun hS => ?_)
                      clear hK K
                      refine wpAnyH_take (i := 6) (v := ?_) rfl (by kernel_rfl) (by kernel_rfl) (by kernel_rfl) (fun _ _ _ h => h) (Or.inl ⟨by rfl, ?_⟩) hS ?_
                      rotate_left
                      · (intro wq hSw; go_simp; try with_reducible rfl)
                      simp only [List.getElem_toArray, List.getElem_cons_succ, List.getElem_cons_zero, Act.put, List.setIfInBounds_toArray, List.set_cons_succ, List.set_cons_zero]
                      refine wpAnyH_take (i := 7) (v := ?_) rfl (by kernel_rfl) (by kernel_rfl) (by kernel_rfl) (fun _ _ _ h => h) (Or.inl ⟨by rfl, ?_⟩) hS ?_
                      rotate_left
                      · (intro wq hSw; go_simp; try with_reducible rfl)
                      simp only [List.getElem_toArray, List.getElem_cons_succ, List.getElem_cons_zero, Act.put, List.setIfInBounds_toArray, List.set_cons_succ, List.set_cons_zero]
                      refine wpAnyH_take (i := 8) (v := ?_) rfl (by kernel_rfl) (by kernel_rfl) (by kernel_rfl) (fun _ _ _ h => h) (Or.inl ⟨by rfl, ?_⟩) hS ?_
                      rotate_left
                      · (intro wq hSw; go_simp; try with_reducible rfl)
                      simp only [List.getElem_toArray, List.getElem_cons_succ, List.getElem_cons_zero, Act.put, List.setIfInBounds_toArray, List.set_cons_succ, List.set_cons_zero]
                      refine wpAnyH_take (i := 10) (v := ?_) rfl (by kernel_rfl) (by kernel_rfl) (by kernel_rfl) (fun _ _ _ h => h) (Or.inl ⟨by rfl, ?_⟩) hS ?_
                      rotate_left
                      · (intro wq hSw; go_simp; try with_reducible rfl)
                      simp only [List.getElem_toArray, List.getElem_cons_succ, List.getElem_cons_zero, Act.put, List.setIfInBounds_toArray, List.set_cons_succ, List.set_cons_zero]
                      refine wpAnyH_ready (rs := [9]) (by kernel_rfl) (by simp) ?_
                      refine AllReadyH.cons rfl (fun K hK => ?_) AllReadyH.nil
                      go_simp
                      refine (show Calls Try.prog 15 #[.pointer (some ⟨g, 0, none⟩)] _ fun e w' => e = .returned (.int .i64 (d1.cache.length : Int)) ∧ _ = w' by exact pending_any _ S1 g d1 hS.t.a).mono ?_
                      rintro e x ⟨rfl, rfl⟩
                      refine hK.out _ _ ?_ (fun hS => ?_)
                      · exact hS
                      clear hK K
                      refine wpAnyH_ready (rs := [11]) (by kernel_rfl) (by simp) ?_
                      refine AllReadyH.cons rfl (fun K hK => ?_) AllReadyH.nil
                      go_simp
                      refine (show Calls Try.prog 15 #[.pointer (some ⟨g3, 0, none⟩)] _ fun e w' => e = .returned (.int .i64 (d1.cache.length : Int)) ∧ _ = w' by have h := pending_any _ S2 g3 d2 hS.t.b; rwa [← HEQ.out.c] at h).mono ?_
                      rintro e x ⟨rfl, rfl⟩
                      refine hK.out _ _ ?_ (fun hS => ?_)
                      · exact hS
                      clear hK K
                      refine wpAnyH_take (i := 12) (v := ?_) rfl (by kernel_rfl) (by kernel_rfl) (by kernel_rfl) (fun _ _ _ h => h) (Or.inl ⟨by rfl, ?_⟩) hS ?_
                      rotate_left
                      · (intro wq hSw; go_simp; try with_reducible rfl)
                      simp only [List.getElem_toArray, List.getElem_cons_succ, List.getElem_cons_zero, Act.put, List.setIfInBounds_toArray, List.set_cons_succ, List.set_cons_zero]
                      refine wpAnyH_take (i := 13) (v := ?_) rfl (by kernel_rfl) (by kernel_rfl) (by kernel_rfl) (fun _ _ _ h => h) (Or.inl ⟨by rfl, ?_⟩) hS ?_
                      rotate_left
                      · (intro wq hSw; go_simp; try with_reducible rfl)
                      simp only [List.getElem_toArray, List.getElem_cons_succ, List.getElem_cons_zero, Act.put, List.setIfInBounds_toArray, List.set_cons_succ, List.set_cons_zero]
                      refine wpAnyH_take (i := 14) (v := ?_) rfl (by kernel_rfl) (by kernel_rfl) (by kernel_rfl) (fun _ _ _ h => h) (Or.inl ⟨by rfl, ?_⟩) hS ?_
                      rotate_left
                      · (intro wq hSw; go_simp; try with_reducible rfl)
                      simp only [List.getElem_toArray, List.getElem_cons_succ, List.getElem_cons_zero, Act.put, List.setIfInBounds_toArray, List.set_cons_succ, List.set_cons_zero]
                      refine wpAnyH_ready (rs := [15]) (by kernel_rfl) (by simp) ?_
                      refine AllReadyH.cons rfl (fun K hK => ?_) AllReadyH.nil
                      go_simp
                      refine (alive_any _).mono ?_
                      rintro e x ⟨rfl, hb⟩
                      refine hK.out _ _ ?_ (fun hS => ?_)
                      · exact hS.fr (Fr.of_below hb No)
                      clear hK K
                      refine wpAnyH_take (i := 16) (v := ?_) rfl (by kernel_rfl) (by kernel_rfl) (by kernel_rfl) (fun _ _ _ h => h) (Or.inl ⟨by rfl, ?_⟩) hS ?_
                      rotate_left
                      · (intro wq hSw; go_simp; try with_reducible rfl)
                      simp only [List.getElem_toArray, List.getElem_cons_succ, List.getElem_cons_zero, Act.put, List.setIfInBounds_toArray, List.set_cons_succ, List.set_cons_zero]
                      refine wpAnyH_take (i := 17) (v := ?_) rfl (by kernel_rfl) (by kernel_rfl) (by kernel_rfl) (fun _ _ _ h => h) (Or.inl ⟨by rfl, ?_⟩) hS ?_
                      rotate_left
                      · (intro wq hSw; go_simp; try with_reducible rfl)
                      simp only [List.getElem_toArray, List.getElem_cons_succ, List.getElem_cons_zero, Act.put, List.setIfInBounds_toArray, List.set_cons_succ, List.set_cons_zero]
                      refine wpAnyH_done (by kernel_rfl) ?_ _
                      have HS := Lib.hid hS
                      clear hS
                      go_wp2
                      go_ret
                      exact ⟨rfl, HS.out.b⟩
end Go.Proofs.Ytjblcligkgjbjaa.diskAgain
