/-
  THE WALK OF DiskPlays.
-/
import Derived.Test.YtjblcligkgjbjaaWalkZ
import Derived.Deep.Cut
import Derived.BigQuiet
import Derived.OrdersHeld
namespace Go.Proofs.Ytjblcligkgjbjaa.diskPlays
open Go.RowKit Go.Sort Go.Maps

set_option maxRecDepth 100000 in
theorem sts_up {w w' : World} {A : Option Addr} {m : Nat} {l : List St} (h : Sts w w.heap.size A m l) (hb : Below w.heap.size w w') : Sts w' w'.heap.size A m l := by
  obtain ⟨q1, q2, q3⟩ := h.below hb
  refine ⟨q1, fun s hs => ?_, fun hp => ?_⟩
  · have := q2 s hs
    exact ⟨this.b.mono fun _ hb _ => hb, this.k.mono fun _ hb _ => hb, this.n, this.n2⟩
  · obtain ⟨b, o, e, hlt, hc⟩ := q3 hp
    exact ⟨b, o, e, Nat.lt_of_lt_of_le hlt hb.size, hc⟩
set_option maxRecDepth 100000 in
/-- a step of either kind -/
theorem does_any (w : World) (B : Nat) (hB : B ≤ w.heap.size) (S1 S2 T : Nat → Prop) (g1 g2 : Nat) (d : DS) (h : BS w B S1 S2 T g1 g2 d d) (s : St) (hs : s.In w B) (hlen : d.cache.length < 900000) (hm5 : s.m ≤ 1024) (hq : s.q ≤ 400) :
    Calls Try.prog 14 #[ptr (some g1), ptr (some g2), s.agg] w (Does B g1 g2 d w) := by
  by_cases h0 : s.k = 0
  · exact does_read w B hB S1 S2 T g1 g2 d h s hs h0 hlen
  · by_cases h1 : s.k = 1
    · exact does_write w B hB S1 S2 T g1 g2 d h s hs h1 hlen (by omega)
    · exact does_rest w B hB S1 S2 T g1 g2 d h s hs h0 h1 hlen (by omega)
/-- both disks, the document's structure known whole -/
structure PS (w0 : World) (S1 S2 T : Nat → Prop) (g1 g2 : Nat) (d : DS) (vk : Value) (Ac : Option Addr) (cc : Nat) (w : World) : Prop where
  bs : BS w w0.heap.size S1 S2 T g1 g2 d d
  bl : Below w0.heap.size w0 w
  b : Blk w g2 42 #[vk, .slice Ac d.cache.length cc, .int .i64 d.trip, .bool d.dark, .int .i64 d.rd, .int .i64 d.wr, .int .i64 d.sy]
set_option maxRecDepth 100000 in
theorem PS.fr {w0 w w' : World} {S1 S2 T : Nat → Prop} {g1 g2 : Nat} {d : DS} {vk : Value} {Ac : Option Addr} {cc : Nat} (h : PS w0 S1 S2 T g1 g2 d vk Ac cc w) (hf : Fr w w' No) : PS w0 S1 S2 T g1 g2 d vk Ac cc w' :=
  ⟨h.bs.fr hf, h.bl.trans (hf.below (fun _ hb => hb.elim) h.bl.size), h.b.keep hf fun hn => hn⟩
set_option maxRecDepth 100000 in
theorem PS.of {w0 w : World} {S1 S2 T : Nat → Prop} {g1 g2 : Nat} {d : DS} (h : BS w w0.heap.size S1 S2 T g1 g2 d d) (hb : Below w0.heap.size w0 w) : ∃ vk Ac cc, PS w0 S1 S2 T g1 g2 d vk Ac cc w := by
  obtain ⟨vk, vc, hr⟩ := h.r
  obtain ⟨A, c, e, _⟩ := hr.c.look
  subst e
  exact ⟨vk, A, c, h, hb, hr.b⟩
set_option maxRecDepth 100000 in
theorem PS.drew {w0 w : World} {S1 S2 T : Nat → Prop} {g1 g2 : Nat} {d : DS} {vk : Value} {Ac : Option Addr} {cc : Nat} (h : PS w0 S1 S2 T g1 g2 d vk Ac cc w) : PS w0 S1 S2 T g1 g2 d vk Ac cc w.drew := h.fr (Fr.refl w No).drew
/-- both disks, and an image -/
structure PI (w0 : World) (S1 S2 T U : Nat → Prop) (g1 g2 : Nat) (d : DS) (A : Option Addr) (n : Nat) (l : List Nat) (w : World) : Prop where
  bs : BS w w0.heap.size S1 S2 T g1 g2 d d
  bl : Below w0.heap.size w0 w
  rb : RB w U A n l
set_option maxRecDepth 100000 in
theorem PI.fr {w0 w w' : World} {S1 S2 T U : Nat → Prop} {g1 g2 : Nat} {d : DS} {A : Option Addr} {n : Nat} {l : List Nat} (h : PI w0 S1 S2 T U g1 g2 d A n l w) (hf : Fr w w' No) : PI w0 S1 S2 T U g1 g2 d A n l w' :=
  ⟨h.bs.fr hf, h.bl.trans (hf.below (fun _ hb => hb.elim) h.bl.size), h.rb.keep hf fun _ _ hn => hn⟩
structure PB (w0 : World) (S1 S2 T : Nat → Prop) (g1 g2 : Nat) (d : DS) (w : World) : Prop where
  bs : BS w w0.heap.size S1 S2 T g1 g2 d d
  bl : Below w0.heap.size w0 w
set_option maxRecDepth 100000 in
theorem PB.fr {w0 w w' : World} {S1 S2 T : Nat → Prop} {g1 g2 : Nat} {d : DS} (h : PB w0 S1 S2 T g1 g2 d w) (hf : Fr w w' No) : PB w0 S1 S2 T g1 g2 d w' :=
  ⟨h.bs.fr hf, h.bl.trans (hf.below (fun _ hb => hb.elim) h.bl.size)⟩
set_option maxRecDepth 100000 in
theorem PB.drew {w0 w : World} {S1 S2 T : Nat → Prop} {g1 g2 : Nat} {d : DS} (h : PB w0 S1 S2 T g1 g2 d w) : PB w0 S1 S2 T g1 g2 d w.drew := h.fr (Fr.refl w No).drew
attribute [local go_sem high] run_eqs
set_option maxRecDepth 100000 in
set_option maxHeartbeats 4000000 in
theorem walked (x : Int) (A : Option Addr) (m c : Nat) (l : List St) (w : World) (x1 : -9223372036854775808 ≤ x) (x2 : x ≤ 9223372036854775807) (h : Sts w w.heap.size A m l) (hm : m ≤ 140737488351232) :
    Calls Try.prog 3 #[.int .i64 x, .slice A m c] w fun e w' => e = .returned (.bool true) ∧ Below w.heap.size w w' := by
  have alive : Hid (∀ wq, Below w.heap.size w wq → Calls Try.prog 10 #[] wq fun e w' => e = .returned (.bool true) ∧ Below w.heap.size w w') := fun wq hq => (alive_any wq).mono fun e w' ⟨he, hb⟩ => ⟨he, hq.trans (hb.mono hq.size)⟩
  have HH := Lib.hid h
  have hml := h.1
  have HB0 := Lib.hid (Below.refl w.heap.size w)
  clear h
  by_cases hlo : x < 1
  · have hd : decide (x < 1) = true := decide_eq_true hlo
    have HNO := Lib.hid (new_none x (Or.inl hlo) w)
    simp only [ptr, Option.map] at HNO
    clear hlo
    go_enter Try.func3, Try.ntmps3
    go_wp2_with fail
    refine HNO.out.mono ?_
    rintro e w' ⟨rfl, rfl⟩
    go_wp2_with fail
    refine (alive.out w HB0.out).mono ?_
    rintro e w' ⟨rfl, hb⟩
    have HB := Lib.hid hb
    clear hb
    go_wp2
    go_ret
    exact ⟨rfl, HB.out⟩
  · have hd : decide (x < 1) = false := decide_eq_false hlo
    by_cases hhi : x > 8192
    · have hd2 : decide (x > 8192) = true := decide_eq_true hhi
      have HNO := Lib.hid (new_none x (Or.inr (by omega)) w)
      simp only [ptr, Option.map] at HNO
      clear hlo hhi
      go_enter Try.func3, Try.ntmps3
      go_wp2_with fail
      refine HNO.out.mono ?_
      rintro e w' ⟨rfl, rfl⟩
      go_wp2_with fail
      refine (alive.out w HB0.out).mono ?_
      rintro e w' ⟨rfl, hb⟩
      have HB := Lib.hid hb
      clear hb
      go_wp2
      go_ret
      exact ⟨rfl, HB.out⟩
    · obtain ⟨n, hn⟩ : ∃ n : Nat, x = (n : Int) := ⟨x.toNat, by omega⟩
      subst hn
      have hd2 : decide ((n : Int) > 8192) = false := decide_eq_false hhi
      have hd3 : decide (8192 < n) = false := decide_eq_false (by omega)
      have hd4 : decide (n < 1) = false := decide_eq_false (by omega)
      have hn0 : 0 < n := by omega
      have hn8 : n ≤ 8192 := by omega
      have HNEW := Lib.hid (new_any n hn0 (by omega) w)
      simp only [ptr, Option.map] at HNEW
      clear hlo hhi x1 x2
      go_enter Try.func3, Try.ntmps3
      go_wp2_with fail
      with_reducible refine HNEW.out.mono ?_
      rintro e w1 ⟨g, rfl, hd1, hb1⟩
      have HD1 := Lib.hid hd1.tight
      have HB1 := Lib.hid hb1
      have HSE : Hid (Calls Try.prog 11 #[.pointer (some ⟨g, 0, none⟩)] w1 fun e w' => e = .returned (.int .i64 (n : Int)) ∧ w1 = w') := by
        have := sectors_any w1 _ g _ hd1
        rwa [show (DS.new n).kept.length = n from List.length_replicate] at this
      clear hd1 hb1 HNEW
      go_wp2_with fail
      with_reducible refine HSE.out.mono ?_
      rintro e w' ⟨rfl, rfl⟩
      clear HSE
      by_cases h64 : n > 64
      · have h6 : decide ((n : Int) > 64) = true := decide_eq_true (by omega)
        have h6b : decide (64 < n) = true := decide_eq_true (by omega)
        go_wp2_with fail
        refine (alive.out w1 HB1.out).mono ?_
        rintro e w' ⟨rfl, hb⟩
        have HB := Lib.hid hb
        clear hb
        go_wp2
        go_ret
        exact ⟨rfl, HB.out⟩
      · have h6 : decide ((n : Int) > 64) = false := decide_eq_false (by omega)
        have h6b : decide (64 < n) = false := decide_eq_false (by omega)
        have HL := Lib.hid (long_any A m c l w1 (sts_up HH.out HB1.out) hm)
        have HRN := Lib.hid (rnew_any n hn0 hn8 w1)
        go_wp2_with fail
        refine HL.out.mono ?_
        rintro e w' ⟨b, rfl, rfl, hfew⟩
        clear HL
        cases b with
        | true =>
          go_wp2_with fail
          refine (alive.out w1 HB1.out).mono ?_
          rintro e w' ⟨rfl, hb⟩
          have HB := Lib.hid hb
          clear hb
          go_wp2
          go_ret
          exact ⟨rfl, HB.out⟩
        | false =>
          have HFew := Lib.hid (hfew rfl)
          clear hfew
          go_wp2_with fail
          with_reducible refine HRN.out.mono ?_
          rintro e w2 ⟨g2, S2, T, rfl, hr, hs2, ht2, hb2⟩
          have HBS : Hid (BS w2 w.heap.size (fun q => w.heap.size ≤ q ∧ q < w1.heap.size) S2 T g g2 (DS.new n) (DS.new n)) :=
            ⟨HD1.out.keep (Fr.of_below hb2 (fun q => w1.heap.size ≤ q)) fun q hq hn => by omega, hr, fun q hq => ⟨fun hn => by have := hs2 q hn; omega, fun hn => by have := ht2 q hn; omega⟩,
              fun q hq => ⟨hq.1, Nat.lt_of_lt_of_le hq.2 hb2.size⟩, fun q hq => Nat.le_trans HB1.out.size (hs2 q hq), fun q hq => Nat.le_trans HB1.out.size (ht2 q hq)⟩
          have HB2 := Lib.hid (HB1.out.trans (hb2.mono HB1.out.size))
          clear hr hs2 ht2 hb2 HD1 HRN HB1
          simp only [ptr, Option.map]
          go_wp2_with fail
          go_loopw [8] (fun u wr => ∃ (i : Nat) (S1 S2 T : Nat → Prop) (d : DS), u = .int .i64 (i : Int) ∧ i ≤ m ∧ BS wr w.heap.size S1 S2 T g g2 d d ∧ Below w.heap.size w wr ∧ d.kept.length = n ∧ d.cache.length ≤ i) (fun u _ => m - (intOf u).toNat)
          case atStart => exact ⟨0, _, _, _, _, rfl, by omega, HBS.out, HB2.out, List.length_replicate, Nat.le_refl _⟩
          case round =>
            clear HBS HB2
            obtain ⟨i, S1, S2, T, d, rfl, hi, hbs, hbl, hk, hlen⟩ := hrel
            by_cases hlt : i < m
            · have hin : ((i : Int) < (m : Int)) := by omega
              have hWi : IntKind.i64.wrap ((i : Int) + 1) = ((i + 1 : Nat) : Int) := by rw [IntWalk.i64_in _ (by omega)]; omega
              have hfd : Fr wr wr.drew No := (Fr.refl wr No).drew
              have HBS := Lib.hid (hbs.fr hfd)
              have HBL := Lib.hid (hbl.trans (hfd.below (fun _ hb => hb.elim) hbl.size))
              have HK := Lib.hid hk
              obtain ⟨s, bb, oo, hsl, rfl, hbo, hsin, c0, c1, c2, c3, c4⟩ := (HH.out.below HBL.out).at_ hlt
              have hsf := HFew.out.2 s (List.mem_of_getElem? hsl)
              have hm200 := HFew.out.1
              have HDO := Lib.hid (does_any wr.drew w.heap.size HBL.out.size S1 S2 T g g2 d HBS.out s hsin (by omega) hsf.1 hsf.2)
              clear hsl hsf hm200 hsin hbl hk hbs hfd
              simp only [ptr, Option.map, St.agg] at HDO
              go_wp2_with fail
              refine wp_region_any (by kernel_rfl) ?_
              try (change wpAny _ _ _ _ _ _ _ (World.drew _))
              refine wpAny_take (i := 0) (v := ?_) rfl (by kernel_rfl) (by kernel_rfl) (by kernel_rfl) (fun _ _ _ h => h) (Or.inl ⟨by rfl, ?_⟩) ?_
              rotate_left
              · (intro wq; go_simp; try with_reducible rfl)
              refine wpAny_take (i := 1) (v := ?_) rfl (by kernel_rfl) (by kernel_rfl) (by kernel_rfl) (fun _ _ _ h => h) (Or.inl ⟨by rfl, ?_⟩) ?_
              rotate_left
              · (intro wq; go_simp; try with_reducible rfl)
              refine wpAny_take (i := 2) (v := ?_) rfl (by kernel_rfl) (by kernel_rfl) (by kernel_rfl) (fun _ _ _ h => h) (Or.inl ⟨by rfl, ?_⟩) ?_
              rotate_left
              · (intro wq; go_simp; try with_reducible rfl)
              refine wpAny_take (i := 3) (v := ?_) rfl (by kernel_rfl) (by kernel_rfl) (by kernel_rfl) (fun _ _ _ h => h) (Or.inl ⟨by rfl, ?_⟩) ?_
              rotate_left
              · (intro wq; go_simp; try with_reducible rfl)
              refine wpAny_take (i := 4) (v := ?_) rfl (by kernel_rfl) (by kernel_rfl) (by kernel_rfl) (fun _ _ _ h => h) (Or.inl ⟨by rfl, ?_⟩) ?_
              rotate_left
              · (intro wq; go_simp; try with_reducible rfl)
              refine wpAny_ready (rs := [5]) (by kernel_rfl) (by simp) ?_
              refine AllReady.cons rfl (fun K hK => ?_) AllReady.nil
              go_simp
              refine hK _ _ ?_
              clear hK K
              refine wpAny_ready (rs := [6]) (by kernel_rfl) (by simp) ?_
              refine AllReady.cons rfl (fun K hK => ?_) AllReady.nil
              go_simp
              with_reducible refine HDO.out.mono ?_
              rintro e w3 ⟨S1', S2', T', d', rfl, hbs, hb, hk2, hc2⟩
              obtain ⟨vk, Ac, cc, hS⟩ := PS.of hbs (HBL.out.trans hb)
              have HK2 := Lib.hid (hk2.trans HK.out)
              have HC2 := Lib.hid (Nat.le_trans hc2 (Nat.add_le_add_right hlen 1))
              clear hbs hb hk2 hc2 HDO
              refine hK _ _ ?_
              clear hK K
              refine wpAny_of_held (S := PS w S1' S2' T' g g2 d' vk Ac cc) _ _ _ _ ?_
              refine wpAnyH_take (i := 7) (v := ?_) rfl (by kernel_rfl) (by kernel_rfl) (by kernel_rfl) (fun _ _ _ h => h) (Or.inl ⟨by rfl, ?_⟩) hS ?_
              rotate_left
              · (intro wq hSw; go_simp; try with_reducible rfl)
              simp only [List.getElem_toArray, List.getElem_cons_succ, List.getElem_cons_zero, Act.put, List.setIfInBounds_toArray, List.set_cons_succ, List.set_cons_zero]
              refine wpAnyH_take (i := 8) (v := ?_) rfl (by kernel_rfl) (by kernel_rfl) (by kernel_rfl) (fun _ _ _ h => h) (Or.inl ⟨by rfl, ?_⟩) hS ?_
              rotate_left
              · (intro wq hSw; go_simp; try with_reducible rfl)
              simp only [List.getElem_toArray, List.getElem_cons_succ, List.getElem_cons_zero, Act.put, List.setIfInBounds_toArray, List.set_cons_succ, List.set_cons_zero]
              refine wpAnyH_take (i := 9) (v := ?_) rfl (by kernel_rfl) (by kernel_rfl) (by kernel_rfl) (fun _ _ _ h => h) (Or.inl ⟨by rfl, ?_⟩) hS ?_
              rotate_left
              · (intro wq hSw; go_simp; try with_reducible rfl)
              simp only [List.getElem_toArray, List.getElem_cons_succ, List.getElem_cons_zero, Act.put, List.setIfInBounds_toArray, List.set_cons_succ, List.set_cons_zero]
              refine wpAnyH_take (i := 11) (v := ?_) rfl (by kernel_rfl) (by kernel_rfl) (by kernel_rfl) (fun _ _ _ h => h) (Or.inl ⟨by rfl, ?_⟩) hS ?_
              rotate_left
              · (intro wq hSw; go_simp; try with_reducible rfl)
              simp only [List.getElem_toArray, List.getElem_cons_succ, List.getElem_cons_zero, Act.put, List.setIfInBounds_toArray, List.set_cons_succ, List.set_cons_zero]
              refine wpAnyH_take (i := 12) (v := ?_) rfl (by kernel_rfl) (by kernel_rfl) (by kernel_rfl) (fun _ _ _ h => h) (Or.inl ⟨by rfl, ?_⟩) hS ?_
              rotate_left
              · (intro wq hSw; go_simp; try with_reducible rfl)
              simp only [List.getElem_toArray, List.getElem_cons_succ, List.getElem_cons_zero, Act.put, List.setIfInBounds_toArray, List.set_cons_succ, List.set_cons_zero]
              refine wpAnyH_take (i := 13) (v := ?_) rfl (by kernel_rfl) (by kernel_rfl) (by kernel_rfl) (fun _ _ _ h => h) (Or.inl ⟨by rfl, ?_⟩) hS ?_
              rotate_left
              · (intro wq hSw; go_simp; try with_reducible rfl)
              simp only [List.getElem_toArray, List.getElem_cons_succ, List.getElem_cons_zero, Act.put, List.setIfInBounds_toArray, List.set_cons_succ, List.set_cons_zero]
              refine wpAnyH_take (i := 14) (v := ?_) rfl (by kernel_rfl) (by kernel_rfl) (by kernel_rfl) (fun _ _ _ h => h) (Or.inl ⟨by rfl, ?_⟩) hS ?_
              rotate_left
              · (intro wq hSw; have hc := hSw.b.cell 1; simp only [List.getElem?_toArray, List.getElem?_cons_zero, List.getElem?_cons_succ] at hc; go_simp; try with_reducible rfl)
              simp only [List.getElem_toArray, List.getElem_cons_succ, List.getElem_cons_zero, Act.put, List.setIfInBounds_toArray, List.set_cons_succ, List.set_cons_zero]
              refine wpAnyH_take (i := 15) (v := ?_) rfl (by kernel_rfl) (by kernel_rfl) (by kernel_rfl) (fun _ _ _ h => h) (Or.inl ⟨by rfl, ?_⟩) hS ?_
              rotate_left
              · (intro wq hSw; go_simp; try with_reducible rfl)
              simp only [List.getElem_toArray, List.getElem_cons_succ, List.getElem_cons_zero, Act.put, List.setIfInBounds_toArray, List.set_cons_succ, List.set_cons_zero]
              refine wpAnyH_ready (rs := [10]) (by kernel_rfl) (by simp) ?_
              refine AllReadyH.cons rfl (fun K hK => ?_) AllReadyH.nil
              go_simp
              refine (show Calls Try.prog 15 #[.pointer (some ⟨g, 0, none⟩)] _ fun e w' => e = .returned (.int .i64 (d'.cache.length : Int)) ∧ _ = w' by exact pending_any _ S1' g d' hS.bs.a).mono ?_
              rintro e x ⟨rfl, rfl⟩
              refine hK.out _ _ ?_ (fun hS => ?_)
              · exact hS
              clear hK K
              refine wpAnyH_take (i := 16) (v := ?_) rfl (by kernel_rfl) (by kernel_rfl) (by kernel_rfl) (fun _ _ _ h => h) (Or.inl ⟨by rfl, ?_⟩) hS ?_
              rotate_left
              · (intro wq hSw; go_simp; try with_reducible rfl)
              simp only [List.getElem_toArray, List.getElem_cons_succ, List.getElem_cons_zero, Act.put, List.setIfInBounds_toArray, List.set_cons_succ, List.set_cons_zero]
              refine wpAnyH_take (i := 17) (v := ?_) rfl (by kernel_rfl) (by kernel_rfl) (by kernel_rfl) (fun _ _ _ h => h) (Or.inl ⟨by rfl, ?_⟩) hS ?_
              rotate_left
              · (intro wq hSw; go_simp; try with_reducible rfl)
              simp only [List.getElem_toArray, List.getElem_cons_succ, List.getElem_cons_zero, Act.put, List.setIfInBounds_toArray, List.set_cons_succ, List.set_cons_zero]
              refine wpAnyH_take (i := 18) (v := ?_) rfl (by kernel_rfl) (by kernel_rfl) (by kernel_rfl) (fun _ _ _ h => h) (Or.inl ⟨by rfl, ?_⟩) hS ?_
              rotate_left
              · (intro wq hSw; go_simp; try with_reducible rfl)
              simp only [List.getElem_toArray, List.getElem_cons_succ, List.getElem_cons_zero, Act.put, List.setIfInBounds_toArray, List.set_cons_succ, List.set_cons_zero]
              refine wpAnyH_take (i := 19) (v := ?_) rfl (by kernel_rfl) (by kernel_rfl) (by kernel_rfl) (fun _ _ _ h => h) (Or.inl ⟨by rfl, ?_⟩) hS ?_
              rotate_left
              · (intro wq hSw; go_simp; try with_reducible rfl)
              simp only [List.getElem_toArray, List.getElem_cons_succ, List.getElem_cons_zero, Act.put, List.setIfInBounds_toArray, List.set_cons_succ, List.set_cons_zero]
              refine wpAnyH_take (i := 21) (v := ?_) rfl (by kernel_rfl) (by kernel_rfl) (by kernel_rfl) (fun _ _ _ h => h) (Or.inl ⟨by rfl, ?_⟩) hS ?_
              rotate_left
              · (intro wq hSw; go_simp; try with_reducible rfl)
              simp only [List.getElem_toArray, List.getElem_cons_succ, List.getElem_cons_zero, Act.put, List.setIfInBounds_toArray, List.set_cons_succ, List.set_cons_zero]
              refine wpAnyH_take (i := 22) (v := ?_) rfl (by kernel_rfl) (by kernel_rfl) (by kernel_rfl) (fun _ _ _ h => h) (Or.inl ⟨by rfl, ?_⟩) hS ?_
              rotate_left
              · (intro wq hSw; go_simp; try with_reducible rfl)
              simp only [List.getElem_toArray, List.getElem_cons_succ, List.getElem_cons_zero, Act.put, List.setIfInBounds_toArray, List.set_cons_succ, List.set_cons_zero]
              refine wpAnyH_take (i := 23) (v := ?_) rfl (by kernel_rfl) (by kernel_rfl) (by kernel_rfl) (fun _ _ _ h => h) (Or.inl ⟨by rfl, ?_⟩) hS ?_
              rotate_left
              · (intro wq hSw; go_simp; try with_reducible rfl)
              simp only [List.getElem_toArray, List.getElem_cons_succ, List.getElem_cons_zero, Act.put, List.setIfInBounds_toArray, List.set_cons_succ, List.set_cons_zero]
              refine wpAnyH_take (i := 24) (v := ?_) rfl (by kernel_rfl) (by kernel_rfl) (by kernel_rfl) (fun _ _ _ h => h) (Or.inl ⟨by rfl, ?_⟩) hS ?_
              rotate_left
              · (intro wq hSw; have hc := hSw.b.cell 3; simp only [List.getElem?_toArray, List.getElem?_cons_zero, List.getElem?_cons_succ] at hc; go_simp; try with_reducible rfl)
              simp only [List.getElem_toArray, List.getElem_cons_succ, List.getElem_cons_zero, Act.put, List.setIfInBounds_toArray, List.set_cons_succ, List.set_cons_zero]
              refine wpAnyH_ready (rs := [20]) (by kernel_rfl) (by simp) ?_
              refine AllReadyH.cons rfl (fun K hK => ?_) AllReadyH.nil
              go_simp
              refine (show Calls Try.prog 16 #[.pointer (some ⟨g, 0, none⟩)] _ fun e w' => e = .returned (.bool d'.dark) ∧ _ = w' by exact dark_any _ S1' g d' hS.bs.a).mono ?_
              rintro e x ⟨rfl, rfl⟩
              refine hK.out _ _ ?_ (fun hS => ?_)
              · exact hS
              clear hK K
              refine wpAnyH_take (i := 25) (v := ?_) rfl (by kernel_rfl) (by kernel_rfl) (by kernel_rfl) (fun _ _ _ h => h) (Or.inl ⟨by rfl, ?_⟩) hS ?_
              rotate_left
              · (intro wq hSw; go_simp; try with_reducible rfl)
              simp only [List.getElem_toArray, List.getElem_cons_succ, List.getElem_cons_zero, Act.put, List.setIfInBounds_toArray, List.set_cons_succ, List.set_cons_zero]
              refine wpAnyH_take (i := 26) (v := ?_) rfl (by kernel_rfl) (by kernel_rfl) (by kernel_rfl) (fun _ _ _ h => h) (Or.inl ⟨by rfl, ?_⟩) hS ?_
              rotate_left
              · (intro wq hSw; go_simp; try with_reducible rfl)
              simp only [List.getElem_toArray, List.getElem_cons_succ, List.getElem_cons_zero, Act.put, List.setIfInBounds_toArray, List.set_cons_succ, List.set_cons_zero]
              refine wpAnyH_take (i := 27) (v := ?_) rfl (by kernel_rfl) (by kernel_rfl) (by kernel_rfl) (fun _ _ _ h => h) (Or.inl ⟨by rfl, ?_⟩) hS ?_
              rotate_left
              · (intro wq hSw; go_simp; try with_reducible rfl)
              simp only [List.getElem_toArray, List.getElem_cons_succ, List.getElem_cons_zero, Act.put, List.setIfInBounds_toArray, List.set_cons_succ, List.set_cons_zero]
              refine wpAnyH_take (i := 28) (v := ?_) rfl (by kernel_rfl) (by kernel_rfl) (by kernel_rfl) (fun _ _ _ h => h) (Or.inl ⟨by rfl, ?_⟩) hS ?_
              rotate_left
              · (intro wq hSw; go_simp; try with_reducible rfl)
              simp only [List.getElem_toArray, List.getElem_cons_succ, List.getElem_cons_zero, Act.put, List.setIfInBounds_toArray, List.set_cons_succ, List.set_cons_zero]
              refine wpAnyH_take (i := 30) (v := ?_) rfl (by kernel_rfl) (by kernel_rfl) (by kernel_rfl) (fun _ _ _ h => h) (Or.inl ⟨by rfl, ?_⟩) hS ?_
              rotate_left
              · (intro wq hSw; go_simp; try with_reducible rfl)
              simp only [List.getElem_toArray, List.getElem_cons_succ, List.getElem_cons_zero, Act.put, List.setIfInBounds_toArray, List.set_cons_succ, List.set_cons_zero]
              refine wpAnyH_take (i := 31) (v := ?_) rfl (by kernel_rfl) (by kernel_rfl) (by kernel_rfl) (fun _ _ _ h => h) (Or.inl ⟨by rfl, ?_⟩) hS ?_
              rotate_left
              · (intro wq hSw; go_simp; try with_reducible rfl)
              simp only [List.getElem_toArray, List.getElem_cons_succ, List.getElem_cons_zero, Act.put, List.setIfInBounds_toArray, List.set_cons_succ, List.set_cons_zero]
              refine wpAnyH_take (i := 32) (v := ?_) rfl (by kernel_rfl) (by kernel_rfl) (by kernel_rfl) (fun _ _ _ h => h) (Or.inl ⟨by rfl, ?_⟩) hS ?_
              rotate_left
              · (intro wq hSw; go_simp; try with_reducible rfl)
              simp only [List.getElem_toArray, List.getElem_cons_succ, List.getElem_cons_zero, Act.put, List.setIfInBounds_toArray, List.set_cons_succ, List.set_cons_zero]
              refine wpAnyH_take (i := 33) (v := ?_) rfl (by kernel_rfl) (by kernel_rfl) (by kernel_rfl) (fun _ _ _ h => h) (Or.inl ⟨by rfl, ?_⟩) hS ?_
              rotate_left
              · (intro wq hSw; have hc4 := hSw.b.cell 4; have hc5 := hSw.b.cell 5; have hc6 := hSw.b.cell 6; simp only [List.getElem?_toArray, List.getElem?_cons_zero, List.getElem?_cons_succ] at hc4 hc5 hc6; go_simp; try with_reducible rfl)
              simp only [List.getElem_toArray, List.getElem_cons_succ, List.getElem_cons_zero, Act.put, List.setIfInBounds_toArray, List.set_cons_succ, List.set_cons_zero]
              refine wpAnyH_ready (rs := [29]) (by kernel_rfl) (by simp) ?_
              refine AllReadyH.cons rfl (fun K hK => ?_) AllReadyH.nil
              go_simp
              refine (show Calls Try.prog 17 #[.pointer (some ⟨g, 0, none⟩)] _ fun e w' => e = .returned (.agg #[.int .i64 d'.rd, .int .i64 d'.wr, .int .i64 d'.sy]) ∧ Fr _ w' No by exact counts_any _ S1' g d' hS.bs.a).mono ?_
              rintro e x ⟨rfl, hf⟩
              refine hK.out _ _ ?_ (fun hS => ?_)
              · exact hS.fr hf
              clear hK K
              refine wpAnyH_take (i := 34) (v := ?_) rfl (by kernel_rfl) (by kernel_rfl) (by kernel_rfl) (fun _ _ _ h => h) (Or.inl ⟨by rfl, ?_⟩) hS ?_
              rotate_left
              · (intro wq hSw; go_simp; try with_reducible rfl)
              simp only [List.getElem_toArray, List.getElem_cons_succ, List.getElem_cons_zero, Act.put, List.setIfInBounds_toArray, List.set_cons_succ, List.set_cons_zero]
              refine wpAnyH_take (i := 35) (v := ?_) rfl (by kernel_rfl) (by kernel_rfl) (by kernel_rfl) (fun _ _ _ h => h) (Or.inl ⟨by rfl, ?_⟩) hS ?_
              rotate_left
              · (intro wq hSw; go_simp; try with_reducible rfl)
              simp only [List.getElem_toArray, List.getElem_cons_succ, List.getElem_cons_zero, Act.put, List.setIfInBounds_toArray, List.set_cons_succ, List.set_cons_zero]
              refine wpAnyH_done (by kernel_rfl) ?_ _
              have HS := Lib.hid hS
              clear hS
              go_wp2_with fail
              go_roundw
              case rel => exact ⟨i + 1, S1', S2', T', d', by go_num, by omega, HS.out.bs, HS.out.bl, HK2.out, HC2.out⟩
              case measure => simp [intOf]; omega
            · have h1d : decide ((i : Int) < (m : Int)) = false := decide_eq_false (by omega)
              have h1d2 : decide (i < m) = false := decide_eq_false hlt
              have HBS := Lib.hid hbs
              have HBL := Lib.hid hbl
              have HIM : Hid (Calls Try.prog 18 #[.pointer (some ⟨g, 0, none⟩)] wr fun e w' => ∃ v, e = .returned v ∧ New wr w' v d.image ∧ Fr wr w' No) := image_any wr S1 g d hbs.a
              clear hbs hbl hk
              go_wp2_with fail
              with_reducible refine HIM.out.mono ?_
              rintro e w3 ⟨v, rfl, hnw, hf⟩
              obtain ⟨U, hU⟩ : ∃ U : Nat → Prop, U = fun b => wr.heap.size ≤ b := ⟨_, rfl⟩
              have hun : ∀ b, U b → ¬ S1 b ∧ ¬ S2 b ∧ ¬ T b := fun b hb => by
                rw [hU] at hb
                exact ⟨fun h1 => by have := (HBS.out.b1 b h1).2; omega, fun h2 => by have := HBS.out.r.sl b h2; omega, fun h2 => by have := HBS.out.r.tl b h2; omega⟩
              have hub : ∀ b, U b → w.heap.size ≤ b := fun b hb => by rw [hU] at hb; have := HBL.out.size; omega
              unfold New at hnw
              rw [← hU] at hnw
              obtain ⟨A1', c1', e1, hwb⟩ := WB.of_ow hnw
              obtain ⟨A1, c1, e2, _, _, hr1⟩ := Ow.reads hnw
              have hmx : d.image.length ≤ 4194304 := by
                obtain ⟨_, _, _, _, hok⟩ := HBS.out.a
                show d.kept.flatten.length ≤ _
                rw [flat_len hok.ok.sec]
                have := hok.ok.few
                omega
              rw [e1] at e2
              injection e2 with e3 e4 e5
              subst e3 e5
              subst e1
              have HU := Lib.hid hun
              have HUB := Lib.hid hub
              obtain ⟨n1, hn1⟩ : ∃ n1, n1 = d.image.length := ⟨_, rfl⟩
              rw [← hn1] at hwb hr1 hmx
              have HWB := Lib.hid hwb
              have hS : PI w S1 S2 T U g g2 d A1' n1 d.image w3.drew := (⟨HBS.out.fr hf, HBL.out.trans (hf.below (fun _ hb => hb.elim) HBL.out.size), hr1⟩ : PI w S1 S2 T U g g2 d A1' n1 d.image w3).fr (Fr.refl w3 No).drew
              have HSP := Lib.hid hS
              have HF3 := Lib.hid hf
              clear hS hf hwb hr1 hnw hun hub hU HIM
              simp only [← hn1]
              have HN1 := Lib.hid hn1
              clear hn1
              go_upto_region 15 with fail
              refine wp_region_held_drew (S := fun wx => PI w S1 S2 T U g g2 d A1' n1 d.image wx ∧ Fr w3 wx No) (by kernel_rfl) ⟨HSP.out, (Fr.refl w3 No).drew⟩ (fun hS => ?_)
              refine wpAnyH_take (i := 0) (v := ?_) rfl (by kernel_rfl) (by kernel_rfl) (by kernel_rfl) (fun _ _ _ h => h) (Or.inl ⟨by rfl, ?_⟩) hS ?_
              rotate_left
              · (intro wq hSw; go_simp; try with_reducible rfl)
              refine wpAnyH_take (i := 1) (v := ?_) rfl (by kernel_rfl) (by kernel_rfl) (by kernel_rfl) (fun _ _ _ h => h) (Or.inl ⟨by rfl, ?_⟩) hS ?_
              rotate_left
              · (intro wq hSw; have hcv := run_conv _ _ n1 c1' _ _ hSw.1.rb; go_simp; try with_reducible rfl)
              simp only [List.getElem_toArray, List.getElem_cons_succ, List.getElem_cons_zero, Act.put, List.setIfInBounds_toArray, List.set_cons_succ, List.set_cons_zero]
              refine wpAnyH_take (i := 2) (v := ?_) rfl (by kernel_rfl) (by kernel_rfl) (by kernel_rfl) (fun _ _ _ h => h) (Or.inl ⟨by rfl, ?_⟩) hS ?_
              rotate_left
              · (intro wq hSw; go_simp; try with_reducible rfl)
              simp only [List.getElem_toArray, List.getElem_cons_succ, List.getElem_cons_zero, Act.put, List.setIfInBounds_toArray, List.set_cons_succ, List.set_cons_zero]
              refine wpAnyH_ready (rs := [3]) (by kernel_rfl) (by simp) ?_
              refine AllReadyH.cons rfl (fun K hK => ?_) AllReadyH.nil
              go_simp
              refine (show Calls Try.prog 19 #[.pointer (some ⟨g2, 0, none⟩)] _ fun e w' => ∃ v, e = .returned v ∧ New _ w' v d.image ∧ Fr _ w' No by exact rimage_any _ S2 T g2 d hS.1.bs.r).mono ?_
              rintro e x2 ⟨v, rfl, hnw, hf⟩
              obtain ⟨A2, c2, rfl, _, _, hr2⟩ := Ow.reads hnw
              have hcv2 := run_conv _ _ d.image.length c2 _ _ hr2
              have hse : seq (bs d.image) (bs d.image) = true := seq_refl _
              refine hK.out _ _ ?_ (fun hS => ?_)
              · exact ⟨hS.1.fr hf, hS.2.same hf⟩
              clear hK K hnw hf
              refine wpAnyH_ready (rs := [4]) (by kernel_rfl) (by simp) ?_
              refine AllReadyH.cons rfl (fun K hK => ?_) AllReadyH.nil
              go_simp
              refine hK.out _ _ hS (fun hS => ?_)
              clear hK K
              refine wpAnyH_take (i := 5) (v := ?_) rfl (by kernel_rfl) (by kernel_rfl) (by kernel_rfl) (fun _ _ _ h => h) (Or.inl ⟨by rfl, ?_⟩) hS ?_
              rotate_left
              · (intro wq hSw; go_simp; try with_reducible rfl)
              simp only [List.getElem_toArray, List.getElem_cons_succ, List.getElem_cons_zero, Act.put, List.setIfInBounds_toArray, List.set_cons_succ, List.set_cons_zero]
              refine wpAnyH_take (i := 6) (v := ?_) rfl (by kernel_rfl) (by kernel_rfl) (by kernel_rfl) (fun _ _ _ h => h) (Or.inl ⟨by rfl, ?_⟩) hS ?_
              rotate_left
              · (intro wq hSw; go_simp; try with_reducible rfl)
              simp only [List.getElem_toArray, List.getElem_cons_succ, List.getElem_cons_zero, Act.put, List.setIfInBounds_toArray, List.set_cons_succ, List.set_cons_zero]
              refine wpAnyH_done (by kernel_rfl) ?_ _
              have HS := Lib.hid hS
              clear hS hcv2 hr2
              have HW4 := Lib.hid (HWB.out.keep HS.out.2 fun _ _ hn => hn)
              obtain ⟨w4, hw4⟩ : ∃ w4, w4 = x2 := ⟨_, rfl⟩
              rw [← hw4] at HS HW4 ⊢
              clear hw4
              go_wp2_with fail
              go_loopw [11] (fun u wy => ∃ i : Nat, u = .int .i64 (i : Int) ∧ i ≤ n1 ∧ WB wy U A1' n1 ∧ Fr w4 wy U) (fun u _ => n1 - (intOf u).toNat)
              case atStart => exact ⟨0, rfl, by omega, HW4.out, Fr.refl _ _⟩
              case round =>
                obtain ⟨i, rfl, hi, hw, hf⟩ := hrel
                by_cases hlt : i < n1
                · obtain ⟨ad, x, rfl, hx, hcell, hfz, hOa, hset⟩ := hw.at_ hlt
                  obtain ⟨y, hy⟩ : ∃ y, y = (x + 1) % 256 := ⟨_, rfl⟩
                  have hy2 : y < 256 := by omega
                  have hw8 : IntKind.u8.wrap ((x : Int) + 1) = (y : Int) := by rw [IntKind.wrap_u8]; omega
                  have HSS := Lib.hid (hset y hy2)
                  have HFi := Lib.hid (show Fr w4 (World.setCell _ (ad.add i) (.int .u8 (y : Int))) U from hf.setCell (Or.inl (by rw [block_of_add]; exact hOa)) _)
                  have hin : ((i : Int) < (n1 : Int)) := by omega
                  have hWi : IntKind.i64.wrap ((i : Int) + 1) = ((i + 1 : Nat) : Int) := by rw [IntWalk.i64_in _ (by omega)]; omega
                  clear hw hf hset hy hx
                  go_wp2_with fail
                  go_roundw
                  case rel => exact ⟨i + 1, by go_num, by omega, HSS.out, HFi.out⟩
                  case measure => simp [intOf]; omega
                · have h1d : decide ((i : Int) < (n1 : Int)) = false := decide_eq_false (by omega)
                  have h1d2 : decide (i < n1) = false := decide_eq_false hlt
                  have hT3 := HS.out.1.bs.keep hf HU.out
                  have hB3 := HS.out.1.bl.trans (hf.below HUB.out HS.out.1.bl.size)
                  clear hw hf
                  have HQ : Hid (PB w S1 S2 T g g2 d _) := ⟨hT3, hB3⟩
                  clear hT3 hB3
                  have hse2 : seq (bs d.image) (bs d.image) = true := seq_refl _
                  go_upto_region 20 with fail
                  refine wp_region_held_drew (S := PB w S1 S2 T g g2 d) (by kernel_rfl) HQ.out.drew (fun hS => ?_)
                  refine wpAnyH_take (i := 0) (v := ?_) rfl (by kernel_rfl) (by kernel_rfl) (by kernel_rfl) (fun _ _ _ h => h) (Or.inl ⟨by rfl, ?_⟩) hS ?_
                  rotate_left
                  · (intro wq hSw; go_simp; try with_reducible rfl)
                  refine wpAnyH_take (i := 1) (v := ?_) rfl (by kernel_rfl) (by kernel_rfl) (by kernel_rfl) (fun _ _ _ h => h) (Or.inl ⟨by rfl, ?_⟩) hS ?_
                  rotate_left
                  · (intro wq hSw; go_simp; try with_reducible rfl)
                  simp only [List.getElem_toArray, List.getElem_cons_succ, List.getElem_cons_zero, Act.put, List.setIfInBounds_toArray, List.set_cons_succ, List.set_cons_zero]
                  refine wpAnyH_take (i := 2) (v := ?_) rfl (by kernel_rfl) (by kernel_rfl) (by kernel_rfl) (fun _ _ _ h => h) (Or.inl ⟨by rfl, ?_⟩) hS ?_
                  rotate_left
                  · (intro wq hSw; go_simp; try with_reducible rfl)
                  simp only [List.getElem_toArray, List.getElem_cons_succ, List.getElem_cons_zero, Act.put, List.setIfInBounds_toArray, List.set_cons_succ, List.set_cons_zero]
                  refine wpAnyH_take (i := 5) (v := ?_) rfl (by kernel_rfl) (by kernel_rfl) (by kernel_rfl) (fun _ _ _ h => h) (Or.inl ⟨by rfl, ?_⟩) hS ?_
                  rotate_left
                  · (intro wq hSw; go_simp; try with_reducible rfl)
                  simp only [List.getElem_toArray, List.getElem_cons_succ, List.getElem_cons_zero, Act.put, List.setIfInBounds_toArray, List.set_cons_succ, List.set_cons_zero]
                  refine wpAnyH_ready (rs := [3]) (by kernel_rfl) (by simp) ?_
                  refine AllReadyH.cons rfl (fun K hK => ?_) AllReadyH.nil
                  go_simp
                  refine (show Calls Try.prog 18 #[.pointer (some ⟨g, 0, none⟩)] _ fun e w' => ∃ v, e = .returned v ∧ New _ w' v d.image ∧ Fr _ w' No by exact image_any _ S1 g d hS.bs.a).mono ?_
                  rintro e x1 ⟨v, rfl, hnw, hf⟩
                  obtain ⟨A1, c1, rfl, _, _, hr1⟩ := Ow.reads hnw
                  have hcv1 := run_conv _ _ d.image.length c1 _ _ hr1
                  refine hK.out _ _ ?_ (fun hS => ?_)
                  · exact hS.fr hf
                  clear hK K hnw hf
                  refine wpAnyH_ready (rs := [4, 6]) (by kernel_rfl) (by simp) ?_
                  refine AllReadyH.cons rfl (fun K hK => ?_) (AllReadyH.cons rfl (fun K hK => ?_) AllReadyH.nil)
                  · go_simp
                    refine hK.out _ _ hS (fun hS => ?_)
                    clear hK K
                    refine wpAnyH_ready (rs := [6]) (by kernel_rfl) (by simp) ?_
                    refine AllReadyH.cons rfl (fun K hK => ?_) AllReadyH.nil
                    go_simp
                    refine (show Calls Try.prog 19 #[.pointer (some ⟨g2, 0, none⟩)] _ fun e w' => ∃ v, e = .returned v ∧ New _ w' v d.image ∧ Fr _ w' No by exact rimage_any _ S2 T g2 d hS.bs.r).mono ?_
                    rintro e x2 ⟨v, rfl, hnw, hf⟩
                    obtain ⟨A2, c2, rfl, _, _, hr2⟩ := Ow.reads hnw
                    have hcv2 := run_conv _ _ d.image.length c2 _ _ hr2
                    refine hK.out _ _ ?_ (fun hS => ?_)
                    · exact hS.fr hf
                    clear hK K hnw hf
                    refine wpAnyH_ready (rs := [7]) (by kernel_rfl) (by simp) ?_
                    refine AllReadyH.cons rfl (fun K hK => ?_) AllReadyH.nil
                    go_simp
                    refine hK.out _ _ hS (fun hS => ?_)
                    clear hK K
                    refine wpAnyH_take (i := 8) (v := ?_) rfl (by kernel_rfl) (by kernel_rfl) (by kernel_rfl) (fun _ _ _ h => h) (Or.inl ⟨by rfl, ?_⟩) hS ?_
                    rotate_left
                    · (intro wq hSw; go_simp; try with_reducible rfl)
                    simp only [List.getElem_toArray, List.getElem_cons_succ, List.getElem_cons_zero, Act.put, List.setIfInBounds_toArray, List.set_cons_succ, List.set_cons_zero]
                    refine wpAnyH_take (i := 9) (v := ?_) rfl (by kernel_rfl) (by kernel_rfl) (by kernel_rfl) (fun _ _ _ h => h) (Or.inl ⟨by rfl, ?_⟩) hS ?_
                    rotate_left
                    · (intro wq hSw; go_simp; try with_reducible rfl)
                    simp only [List.getElem_toArray, List.getElem_cons_succ, List.getElem_cons_zero, Act.put, List.setIfInBounds_toArray, List.set_cons_succ, List.set_cons_zero]
                    refine wpAnyH_take (i := 10) (v := ?_) rfl (by kernel_rfl) (by kernel_rfl) (by kernel_rfl) (fun _ _ _ h => h) (Or.inl ⟨by rfl, ?_⟩) hS ?_
                    rotate_left
                    · (intro wq hSw; go_simp; try with_reducible rfl)
                    simp only [List.getElem_toArray, List.getElem_cons_succ, List.getElem_cons_zero, Act.put, List.setIfInBounds_toArray, List.set_cons_succ, List.set_cons_zero]
                    refine wpAnyH_ready (rs := [11]) (by kernel_rfl) (by simp) ?_
                    refine AllReadyH.cons rfl (fun K hK => ?_) AllReadyH.nil
                    go_simp
                    refine (alive_any _).mono ?_
                    rintro e x ⟨rfl, hb⟩
                    refine hK.out _ _ ?_ (fun hS => ?_)
                    · exact hS.fr (Fr.of_below hb No)
                    clear hK K
                    refine wpAnyH_take (i := 12) (v := ?_) rfl (by kernel_rfl) (by kernel_rfl) (by kernel_rfl) (fun _ _ _ h => h) (Or.inl ⟨by rfl, ?_⟩) hS ?_
                    rotate_left
                    · (intro wq hSw; go_simp; try with_reducible rfl)
                    simp only [List.getElem_toArray, List.getElem_cons_succ, List.getElem_cons_zero, Act.put, List.setIfInBounds_toArray, List.set_cons_succ, List.set_cons_zero]
                    refine wpAnyH_take (i := 13) (v := ?_) rfl (by kernel_rfl) (by kernel_rfl) (by kernel_rfl) (fun _ _ _ h => h) (Or.inl ⟨by rfl, ?_⟩) hS ?_
                    rotate_left
                    · (intro wq hSw; go_simp; try with_reducible rfl)
                    simp only [List.getElem_toArray, List.getElem_cons_succ, List.getElem_cons_zero, Act.put, List.setIfInBounds_toArray, List.set_cons_succ, List.set_cons_zero]
                    refine wpAnyH_done (by kernel_rfl) ?_ _
                    have HS := Lib.hid hS
                    clear hS
                    go_wp2
                    go_ret
                    exact ⟨rfl, HS.out.bl⟩
                  · go_simp
                    refine (show Calls Try.prog 19 #[.pointer (some ⟨g2, 0, none⟩)] _ fun e w' => ∃ v, e = .returned v ∧ New _ w' v d.image ∧ Fr _ w' No by exact rimage_any _ S2 T g2 d hS.bs.r).mono ?_
                    rintro e x2 ⟨v, rfl, hnw, hf⟩
                    obtain ⟨A2, c2, rfl, _, _, hr2⟩ := Ow.reads hnw
                    have hcv2 := run_conv _ _ d.image.length c2 _ _ hr2
                    have hcv1 := run_conv _ _ d.image.length c1 _ _ (hr1.keep hf fun _ _ hn => hn)
                    refine hK.out _ _ ?_ (fun hS => ?_)
                    · exact hS.fr hf
                    clear hK K hnw hf
                    refine wpAnyH_ready (rs := [4, 7]) (by kernel_rfl) (by simp) ?_
                    refine AllReadyH.cons rfl (fun K hK => ?_) (AllReadyH.cons rfl (fun K hK => ?_) AllReadyH.nil)
                    · go_simp
                      refine hK.out _ _ hS (fun hS => ?_)
                      clear hK K
                      refine wpAnyH_ready (rs := [7]) (by kernel_rfl) (by simp) ?_
                      refine AllReadyH.cons rfl (fun K hK => ?_) AllReadyH.nil
                      go_simp
                      refine hK.out _ _ hS (fun hS => ?_)
                      clear hK K
                      refine wpAnyH_take (i := 8) (v := ?_) rfl (by kernel_rfl) (by kernel_rfl) (by kernel_rfl) (fun _ _ _ h => h) (Or.inl ⟨by rfl, ?_⟩) hS ?_
                      rotate_left
                      · (intro wq hSw; go_simp; try with_reducible rfl)
                      simp only [List.getElem_toArray, List.getElem_cons_succ, List.getElem_cons_zero, Act.put, List.setIfInBounds_toArray, List.set_cons_succ, List.set_cons_zero]
                      refine wpAnyH_take (i := 9) (v := ?_) rfl (by kernel_rfl) (by kernel_rfl) (by kernel_rfl) (fun _ _ _ h => h) (Or.inl ⟨by rfl, ?_⟩) hS ?_
                      rotate_left
                      · (intro wq hSw; go_simp; try with_reducible rfl)
                      simp only [List.getElem_toArray, List.getElem_cons_succ, List.getElem_cons_zero, Act.put, List.setIfInBounds_toArray, List.set_cons_succ, List.set_cons_zero]
                      refine wpAnyH_take (i := 10) (v := ?_) rfl (by kernel_rfl) (by kernel_rfl) (by kernel_rfl) (fun _ _ _ h => h) (Or.inl ⟨by rfl, ?_⟩) hS ?_
                      rotate_left
                      · (intro wq hSw; go_simp; try with_reducible rfl)
                      simp only [List.getElem_toArray, List.getElem_cons_succ, List.getElem_cons_zero, Act.put, List.setIfInBounds_toArray, List.set_cons_succ, List.set_cons_zero]
                      refine wpAnyH_ready (rs := [11]) (by kernel_rfl) (by simp) ?_
                      refine AllReadyH.cons rfl (fun K hK => ?_) AllReadyH.nil
                      go_simp
                      refine (alive_any _).mono ?_
                      rintro e x ⟨rfl, hb⟩
                      refine hK.out _ _ ?_ (fun hS => ?_)
                      · exact hS.fr (Fr.of_below hb No)
                      clear hK K
                      refine wpAnyH_take (i := 12) (v := ?_) rfl (by kernel_rfl) (by kernel_rfl) (by kernel_rfl) (fun _ _ _ h => h) (Or.inl ⟨by rfl, ?_⟩) hS ?_
                      rotate_left
                      · (intro wq hSw; go_simp; try with_reducible rfl)
                      simp only [List.getElem_toArray, List.getElem_cons_succ, List.getElem_cons_zero, Act.put, List.setIfInBounds_toArray, List.set_cons_succ, List.set_cons_zero]
                      refine wpAnyH_take (i := 13) (v := ?_) rfl (by kernel_rfl) (by kernel_rfl) (by kernel_rfl) (fun _ _ _ h => h) (Or.inl ⟨by rfl, ?_⟩) hS ?_
                      rotate_left
                      · (intro wq hSw; go_simp; try with_reducible rfl)
                      simp only [List.getElem_toArray, List.getElem_cons_succ, List.getElem_cons_zero, Act.put, List.setIfInBounds_toArray, List.set_cons_succ, List.set_cons_zero]
                      refine wpAnyH_done (by kernel_rfl) ?_ _
                      have HS := Lib.hid hS
                      clear hS
                      go_wp2
                      go_ret
                      exact ⟨rfl, HS.out.bl⟩
                    · go_simp
                      refine hK.out _ _ hS (fun hS => ?_)
                      clear hK K
                      refine wpAnyH_ready (rs := [4]) (by kernel_rfl) (by simp) ?_
                      refine AllReadyH.cons rfl (fun K hK => ?_) AllReadyH.nil
                      go_simp
                      refine hK.out _ _ hS (fun hS => ?_)
                      clear hK K
                      refine wpAnyH_take (i := 8) (v := ?_) rfl (by kernel_rfl) (by kernel_rfl) (by kernel_rfl) (fun _ _ _ h => h) (Or.inl ⟨by rfl, ?_⟩) hS ?_
                      rotate_left
                      · (intro wq hSw; go_simp; try with_reducible rfl)
                      simp only [List.getElem_toArray, List.getElem_cons_succ, List.getElem_cons_zero, Act.put, List.setIfInBounds_toArray, List.set_cons_succ, List.set_cons_zero]
                      refine wpAnyH_take (i := 9) (v := ?_) rfl (by kernel_rfl) (by kernel_rfl) (by kernel_rfl) (fun _ _ _ h => h) (Or.inl ⟨by rfl, ?_⟩) hS ?_
                      rotate_left
                      · (intro wq hSw; go_simp; try with_reducible rfl)
                      simp only [List.getElem_toArray, List.getElem_cons_succ, List.getElem_cons_zero, Act.put, List.setIfInBounds_toArray, List.set_cons_succ, List.set_cons_zero]
                      refine wpAnyH_take (i := 10) (v := ?_) rfl (by kernel_rfl) (by kernel_rfl) (by kernel_rfl) (fun _ _ _ h => h) (Or.inl ⟨by rfl, ?_⟩) hS ?_
                      rotate_left
                      · (intro wq hSw; go_simp; try with_reducible rfl)
                      simp only [List.getElem_toArray, List.getElem_cons_succ, List.getElem_cons_zero, Act.put, List.setIfInBounds_toArray, List.set_cons_succ, List.set_cons_zero]
                      refine wpAnyH_ready (rs := [11]) (by kernel_rfl) (by simp) ?_
                      refine AllReadyH.cons rfl (fun K hK => ?_) AllReadyH.nil
                      go_simp
                      refine (alive_any _).mono ?_
                      rintro e x ⟨rfl, hb⟩
                      refine hK.out _ _ ?_ (fun hS => ?_)
                      · exact hS.fr (Fr.of_below hb No)
                      clear hK K
                      refine wpAnyH_take (i := 12) (v := ?_) rfl (by kernel_rfl) (by kernel_rfl) (by kernel_rfl) (fun _ _ _ h => h) (Or.inl ⟨by rfl, ?_⟩) hS ?_
                      rotate_left
                      · (intro wq hSw; go_simp; try with_reducible rfl)
                      simp only [List.getElem_toArray, List.getElem_cons_succ, List.getElem_cons_zero, Act.put, List.setIfInBounds_toArray, List.set_cons_succ, List.set_cons_zero]
                      refine wpAnyH_take (i := 13) (v := ?_) rfl (by kernel_rfl) (by kernel_rfl) (by kernel_rfl) (fun _ _ _ h => h) (Or.inl ⟨by rfl, ?_⟩) hS ?_
                      rotate_left
                      · (intro wq hSw; go_simp; try with_reducible rfl)
                      simp only [List.getElem_toArray, List.getElem_cons_succ, List.getElem_cons_zero, Act.put, List.setIfInBounds_toArray, List.set_cons_succ, List.set_cons_zero]
                      refine wpAnyH_done (by kernel_rfl) ?_ _
                      have HS := Lib.hid hS
                      clear hS
                      go_wp2
                      go_ret
                      exact ⟨rfl, HS.out.bl⟩
end Go.Proofs.Ytjblcligkgjbjaa.diskPlays
