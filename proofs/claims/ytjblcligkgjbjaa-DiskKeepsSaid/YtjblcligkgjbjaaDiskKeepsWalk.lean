/-
  THE WALK OF DiskKeeps.
-/
import Derived.Test.YtjblcligkgjbjaaWalkR
import Derived.Deep.Cut
namespace Go.Proofs.Ytjblcligkgjbjaa.diskKeeps
open Go.RowKit Go.Sort Go.Maps

def nil4 : Array Value := #[.slice none 0 0, .slice none 0 0, .slice none 0 0, .slice none 0 0]
set_option maxRecDepth 100000 in
theorem info37 : (Try.prog.info? 37).map (fun i => (i.zero, i.size, i.bytes)) = some (some (.slice none 0 0), 1, 24) := by kernel_rfl
set_option maxRecDepth 100000 in
theorem run_mk37 (w : World) : (Instr.makeSlice 37 (.int .i64 4) (.int .i64 4)).run Try.prog w = .ok (.slice (some ⟨w.heap.size, 0, none⟩) 4 4) (w.alloc (.cells nil4 33)) := by
  obtain ⟨i0, hi, hz0, hz1, hz2⟩ := info_parts info33
  have := run_make (P := Try.prog) w 37 33 i0 _ Try.underlying37 hi hz0 .i64 .i64 4 4 (by omega) (Int.le_refl _) (by rw [hz2]; omega) (by omega)
  rw [this, hz1]
  have hmm : madeCells (Value.cells (.slice none 0 0)) 4 = nil4 := (made_rep (.slice none 0 0) 1 4 (by decide)).trans rfl
  show Result.ok _ (w.alloc (.cells (madeCells (Value.cells (.slice none 0 0)) 4) _)) = _
  rw [hmm]
  rfl
set_option maxRecDepth 100000 in
theorem run_mk49 (w : World) : (Instr.makeSlice 49 (.int .i64 4) (.int .i64 4)).run Try.prog w = .ok (.slice (some ⟨w.heap.size, 0, none⟩) 4 4) (w.alloc (.cells nil4 37)) := by
  obtain ⟨i0, hi, hz0, hz1, hz2⟩ := info_parts info37
  have := run_make (P := Try.prog) w 49 37 i0 _ Try.underlying49 hi hz0 .i64 .i64 4 4 (by omega) (Int.le_refl _) (by rw [hz2]; omega) (by omega)
  rw [this, hz1]
  have hmm : madeCells (Value.cells (.slice none 0 0)) 4 = nil4 := (made_rep (.slice none 0 0) 1 4 (by decide)).trans rfl
  show Result.ok _ (w.alloc (.cells (madeCells (Value.cells (.slice none 0 0)) 4) _)) = _
  rw [hmm]
  rfl
/-- the first i are noughts -/
def aI (i : Nat) : List (List Nat) := (List.range 4).map fun k => if k < i then zsec else []
set_option maxRecDepth 100000 in
theorem aI_succ {i : Nat} (h : i < 4) : aI (i + 1) = (aI i).set i zsec := by
  match i, h with
  | 0, _ => rfl
  | 1, _ => rfl
  | 2, _ => rfl
  | 3, _ => rfl
set_option maxRecDepth 100000 in
theorem kp_new {w : World} : KP ((w.alloc (.cells nil4 33)).alloc (.cells nil4 37)) (fun x => x = w.heap.size ∨ x = w.heap.size + 1) No w.heap.size (w.heap.size + 1) nil4.toList nil4.toList (aI 0) (sinces []) := by
  have hy : Blk ((w.alloc (.cells nil4 33)).alloc (.cells nil4 37)) w.heap.size 33 nil4 := (Blk.new w 33 _).alloc _
  have hz : Blk ((w.alloc (.cells nil4 33)).alloc (.cells nil4 37)) (w.heap.size + 1) 37 nil4 := by
    have := Blk.new (w.alloc (.cells nil4 33)) 37 nil4
    simpa using this
  have hn : ∀ k, k < 4 → nil4.toList.getD k undef = .slice none 0 0 := fun k hk => by
    match k, hk with
    | 0, _ => rfl
    | 1, _ => rfl
    | 2, _ => rfl
    | 3, _ => rfl
  have ha : ∀ k, k < 4 → (aI 0).getD k [] = [] := fun k hk => by
    match k, hk with
    | 0, _ => rfl
    | 1, _ => rfl
    | 2, _ => rfl
    | 3, _ => rfl
  refine ⟨Or.inl rfl, Or.inr rfl, hy, hz, rfl, rfl, rfl, rfl, fun k hk => ?_, fun k hk => ?_, fun k hk => ?_, fun j k hj hk _ g hg => ?_, fun g hg => hg.elim, fun g hg => ?_, fun g hg => hg.elim⟩
  · rw [hn k hk, ha k hk]; exact ⟨none, 0, rfl, RB.nil_⟩
  · rw [hn k hk, sinces_at _ hk]; exact Row.nil_ _ _ _
  · rw [hn k hk]; simp [Value.ownBlock]
  · rw [hn j hj] at hg; simp [Value.ownBlock] at hg
  · rcases hg with rfl | rfl
    · simp; omega
    · simp
set_option maxRecDepth 100000 in
theorem sts_up {w w' : World} {A : Option Addr} {m : Nat} {l : List St} (h : Sts w w.heap.size A m l) (hb : Below w.heap.size w w') : Sts w' w'.heap.size A m l := by
  obtain ⟨q1, q2, q3⟩ := h.below hb
  refine ⟨q1, fun s hs => ?_, fun hp => ?_⟩
  · have := q2 s hs
    exact ⟨this.b.mono fun _ hb _ => hb, this.k.mono fun _ hb _ => hb, this.n, this.n2⟩
  · obtain ⟨b, o, e, hlt, hc⟩ := q3 hp
    exact ⟨b, o, e, Nat.lt_of_lt_of_le hlt hb.size, hc⟩
attribute [local go_sem high] run_eqs run_nes
set_option maxHeartbeats 1500000 in
set_option maxRecDepth 100000 in
theorem walked (A : Option Addr) (m c : Nat) (l : List St) (K : Option Addr) (kn kc : Nat) (keep : List Bool) (w : World) (h : Sts w w.heap.size A m l) (hm : m ≤ 140737488351232) (hkb0 : KB w (fun b => b < w.heap.size) K kn keep ∧ kn ≤ kc) :
    Calls Try.prog 5 #[.slice A m c, .slice K kn kc] w fun e w' => e = .returned (.bool true) ∧ Below w.heap.size w w' := by
  have HH := Lib.hid h
  have HKB := Lib.hid hkb0.1
  have hml := h.1
  clear h hkb0
  have alive : Hid (∀ wq, Below w.heap.size w wq → Calls Try.prog 10 #[] wq fun e w' => e = .returned (.bool true) ∧ Below w.heap.size w w') := fun wq hq => (alive_any wq).mono fun e w' ⟨he, hb⟩ => ⟨he, hq.trans (hb.mono hq.size)⟩
  go_enter Try.func5, Try.ntmps5
  go_wp2_with fail
  refine (new_any 4 (by omega) (by omega) w).mono ?_
  rintro e w1 ⟨g, rfl, hd1, hb1⟩
  have HD1 := Lib.hid hd1.tight
  have HB1 := Lib.hid hb1
  have HL := Lib.hid (long_any A m c l w1 (sts_up HH.out hb1) hm)
  have hs1 := hb1.size
  clear hd1 hb1
  simp only [ptr, Option.map]
  go_wp2_with fail
  refine HL.out.mono ?_
  rintro e w' ⟨b, rfl, rfl, hfew⟩
  clear HL
  cases b with
  | true =>
    go_wp2_with fail
    refine (alive.out w1 HB1.out).mono ?_
    rintro e w' ⟨rfl, hb⟩
    have HB := Lib.hid hb
    clear hb
    go_wp2
    go_ret
    exact ⟨rfl, HB.out⟩
  | false =>
    by_cases hq : 400 < kn
    · have hqd : decide ((kn : Int) > 400) = true := by simp; omega
      go_wp2_with fail
      refine (alive.out w1 HB1.out).mono ?_
      rintro e w' ⟨rfl, hb⟩
      have HB := Lib.hid hb
      clear hb
      go_wp2
      go_ret
      exact ⟨rfl, HB.out⟩
    · have hqd : decide ((kn : Int) > 400) = false := by simp; omega
      have HFew := Lib.hid (hfew rfl)
      have HQ := Lib.hid hq
      clear hfew hq
      obtain ⟨W, hW⟩ : ∃ W, W = (w1.alloc (.cells nil4 33)).alloc (.cells nil4 37) := ⟨_, rfl⟩
      have hFW : Fr w1 W No := by rw [hW]; exact ((Fr.refl _ _).alloc _).alloc _
      have hK0 : KG w W 0 g w1.heap.size (w1.heap.size + 1) (fun b => w.heap.size ≤ b ∧ b < w1.heap.size) (fun x => x = w1.heap.size ∨ x = w1.heap.size + 1) No nil4.toList nil4.toList (aI 0) (sinces []) (DS.new 4) :=
        ⟨HD1.out.keep hFW fun _ _ hn => hn, by rw [hW]; exact kp_new, fun x hx => ⟨fun hO => by have := hx.2; omega, fun hT => hT⟩, fun x hx => ⟨hx.1, Nat.lt_of_lt_of_le hx.2 hFW.size⟩, fun x hx => by omega, fun x hx => hx.elim,
          HB1.out.trans (hFW.below (fun _ hb => hb.elim) HB1.out.size), ⟨rfl, rfl⟩, rfl, Nat.le_refl _⟩
      have hm37 := run_mk37
      have hm49 := run_mk49
      obtain ⟨y, hy⟩ : ∃ y, w1.heap.size = y := ⟨_, rfl⟩
      obtain ⟨z, hz⟩ : ∃ z, w1.heap.size + 1 = z := ⟨_, rfl⟩
      have hzw : (w1.alloc (.cells nil4 33)).heap.size = z := by rw [← hz]; simp
      rw [hz, hy] at hK0
      have HK0 := Lib.hid hK0
      clear hK0 hFW HD1 HB1 hs1
      replace hW := hW.symm
      go_wp2_with fail
      clear hm37 hm49 hW hzw
      go_loopw [9] (fun u wr => ∃ (i : Nat) (O T : Nat → Prop) (ys zs : List Value), u = .int .i64 (i : Int) ∧ i ≤ 4 ∧ KG w wr 0 g y z (fun b => w.heap.size ≤ b ∧ b < y) O T ys zs (aI i) (sinces []) (DS.new 4)) (fun u _ => 4 - (intOf u).toNat)
      case atStart => exact ⟨0, _, _, _, _, rfl, by omega, HK0.out⟩
      case round =>
        obtain ⟨i, O, T, ys, zs, rfl, hi, hk⟩ := hrel
        have HKi := Lib.hid hk
        clear hk
        by_cases hlt : i < 4
        · have h1 : ((i : Int) < 4) := by omega
          have hWn : IntKind.i64.wrap ((i : Int) + 1) = ((i + 1 : Nat) : Int) := by rw [IntWalk.i64_in _ (by omega)]; omega
          go_wp2_with fail
          refine (full_fl 0 (by omega) wr).mono ?_
          rintro e v1 ⟨Af, cf, rfl, hr, hf⟩
          have hk1 := HKi.out.bytes hf
          have hsl : SL v1 (fun x => T x ∨ (wr.heap.size ≤ x ∧ x < v1.heap.size)) (.slice Af 512 cf) zsec := ⟨Af, cf, rfl, hr.mono fun b hb hS => Or.inr ⟨hS, hb⟩⟩
          have hp2 := hk1.p.setY hlt hsl
          have hk2 := hk1.law (w' := v1.setCell ⟨y, i, none⟩ (.slice Af 512 cf)) ((Fr.refl v1 O).setCell (Or.inl hk1.p.oy) _) hp2 (fun _ hx => Or.inl hx) (fun _ hx => Or.inl hx)
          rw [← aI_succ hlt] at hk2
          have yc : ∃ q, v1.cell? ⟨y, i, none⟩ = some q := by
            rw [hk1.p.by_.cell]
            exact ⟨ys[i]'(by rw [hk1.p.ly]; exact hlt), by simp [hk1.p.ly, hlt]⟩
          obtain ⟨q, yc⟩ := yc
          have yz := hk1.p.by_.frozen i
          have HK2 := Lib.hid hk2
          clear hr hf hk1 hsl hp2 hk2
          go_wp2_with fail
          go_roundw
          case rel => exact ⟨i + 1, O, _, _, zs, by go_num, by omega, HK2.out⟩
          case measure => simp [intOf]; omega
        · have h1 : ¬ ((i : Int) < 4) := by omega
          have h1d : decide ((i : Int) < 4) = false := decide_eq_false h1
          have HI4 := Lib.hid (show i = 4 by omega)
          obtain ⟨Sd, hSd⟩ : ∃ Sd, KG w wr 0 g y z Sd O T ys zs (DS.new 4).kept (sinces (DS.new 4).cache) (DS.new 4) := ⟨_, by have := HKi.out; rw [HI4.out] at this; exact this⟩
          have HKm := Lib.hid hSd
          clear hSd HKi HK0 hlt hi h1
          go_wp2_with fail
          go_loopw [11, 12] (fun u v wr => ∃ (i : Nat) (S O T : Nat → Prop) (ys zs : List Value) (d : DS), u = .int .i64 (d.cache.length : Int) ∧ v = .int .i64 (i : Int) ∧ i ≤ m ∧ KG w wr i g y z S O T ys zs d.kept (sinces d.cache) d) (fun _ v _ => m - (intOf v).toNat)
          case atStart => exact ⟨0, Sd, O, T, ys, zs, DS.new 4, rfl, rfl, by omega, HKm.out⟩
          case round =>
            clear HKm
            obtain ⟨i, S, O, T, ys, zs, d, rfl, rfl, hi, hk⟩ := hrel
            by_cases hlt : i < m
            · obtain ⟨s, bb, oo, hsl, rfl, hbo, hsin, c0, c1, c2, c3, c4⟩ := (HH.out.below hk.bl).at_ hlt
              have hsf := HFew.out.2 s (List.mem_of_getElem? hsl)
              have hm200 := HFew.out.1
              obtain ⟨kx, hkx⟩ : ∃ kx, kx = wr.heap.size := ⟨_, rfl⟩
              obtain ⟨wx, hwx⟩ : ∃ wx, wx = wr.alloc (.cells #[.int .i64 s.k, .int .i64 s.a, .slice s.A s.m s.c, .int .i64 s.n, .slice s.K s.q s.r] 36) := ⟨_, rfl⟩
              have hfx : Fr wr wx No := by rw [hwx]; exact (Fr.refl _ _).alloc _
              have hix := hk.fr hfx
              have hxb : Blk wx kx 36 #[.int .i64 s.k, .int .i64 s.a, .slice s.A s.m s.c, .int .i64 s.n, .slice s.K s.q s.r] := by rw [hwx, hkx]; exact Blk.new wr 36 _
              have x0 := hxb.cell 0
              have x1 := hxb.cell 1
              have x2 := hxb.cell 2
              simp only [List.getElem?_toArray, List.getElem?_cons_zero, List.getElem?_cons_succ] at x0 x1 x2
              have hin : ((i : Int) < (m : Int)) := by omega
              have hWi : IntKind.i64.wrap ((i : Int) + 1) = ((i + 1 : Nat) : Int) := by rw [IntWalk.i64_in _ (by omega)]; omega
              have HX := Lib.hid hxb
              have HKi := Lib.hid hix
              have HSI : Hid (s.In wx w.heap.size) := hsin.below (hfx.below (fun _ hb => hb.elim) hk.bl.size)
              have HSF := Lib.hid hsf
              have HS2 := Lib.hid (show i < 200 by omega)
              have HNS : Hid (¬ S kx ∧ ¬ O kx ∧ ¬ T kx) := ⟨fun h => by have := (hk.s0 _ h).2; omega, fun h => by have := hk.p.ol _ h; omega, fun h => by have := hk.p.tl _ h; omega⟩
              clear hsl hsf hm200 hfx hix hk hsin hxb
              replace hwx := hwx.symm
              have hkx' : wr.heap.size = kx := hkx.symm
              clear hkx
              by_cases k1 : s.k = 1
              · have hk1 : (s.k == 1) = true := by rw [beq_iff_eq]; exact k1
                have hk2 : (s.k == 2) = false := beq_false_of_ne (by omega)
                clear k1
                by_cases a0 : 0 ≤ s.a ∧ s.a < 4
                · obtain ⟨a, ha⟩ : ∃ a : Nat, s.a = (a : Int) := ⟨s.a.toNat, by omega⟩
                  have ha4 : a < 4 := by omega
                  have HA := Lib.hid ha
                  clear a0
                  by_cases m5 : s.m = 512
                  · have H5 := Lib.hid m5
                    clear m5 ha
                    have hwr := write_some wx S g d HKi.out.da a (by have := HKi.out.k; omega) (free_next HKi.out.f).2 (fun q => q < w.heap.size) s.A s.c s.b (by have := HSI.out.b; rwa [H5.out] at this) (fun q h1 h2 => by have := (HKi.out.s0 q h2).1; omega) (by have := HKi.out.l; have := HS2.out; omega)
                    rw [(free_next HKi.out.f).1] at hwr
                    have HO : Hid (Calls Try.prog 23 #[ptr (some g), .int .i64 s.a, .slice s.A s.m s.c] wx fun e w' => e = .returned (.int .i64 0) ∧ DAt w' (Up S wx) g (d.write a s.b) ∧ Fr wx w' S) := by rw [HA.out, H5.out]; exact hwr
                    clear hwr
                    simp only [ptr, Option.map] at HO
                    go_wp2_with fail
                    with_reducible refine HO.out.mono ?_
                    rintro e wy ⟨rfl, hd, hf⟩
                    have HKy := Lib.hid (HKi.out.disk hd hf HKi.out.f HKi.out.k (show (d.write a s.b).cache.length ≤ i + 1 by show (d.cache ++ _).length ≤ _; have := HKi.out.l; simp; omega))
                    have HSW0 : Hid (WS kx (a : Int) (.slice s.A 512 s.c) wy) := by
                      have hb := HX.out.keep hf HNS.out.1
                      have q1 := hb.cell 1
                      have q2 := hb.cell 2
                      rw [HA.out, H5.out] at *
                      exact ⟨by simpa using q1, by simpa using q2⟩
                    have HX0 : Hid (wy.drew.cell? ⟨kx, 0, none⟩ = some (.int .i64 s.k)) := by
                      have q0 := ((HX.out.keep hf HNS.out.1).keep (Fr.refl wy No).drew fun hn => hn).cell 0
                      show _ = _
                      simpa using q0
                    have hblo : Below w.heap.size wx wy := hf.below (fun q hq => (HKi.out.s0 q hq).1) HKi.out.bl.size
                    have HRB : Hid (RB wy (fun q => q < w.heap.size) s.A 512 s.b) := by
                      have := (HSI.out.below hblo).b
                      rwa [H5.out] at this
                    have HKXL : Hid (kx < wy.drew.heap.size) := Nat.lt_of_lt_of_le HX.out.lt hf.size
                    have HKw := Lib.hid (HKy.out.fr (Fr.refl wy No).drew)
                    have HSW : Hid (WS kx (a : Int) (.slice s.A 512 s.c) wy.drew) := HSW0.out.keep (Fr.refl wy No).drew fun hn => hn
                    have HLEN : Hid (((sinces d.cache).getD a []).length < 1000000) := by
                      show _ < _
                      rw [sinces_at _ ha4]
                      have := since_len d.cache a
                      have := HKi.out.l
                      have := HS2.out
                      omega
                    have HZS : Hid (zs[a]? = some (zs.getD a undef)) := by
                      show _ = _
                      have : a < zs.length := by rw [HKw.out.p.lz]; exact ha4
                      simp [this]
                    have HZL : Hid (z < wy.drew.heap.size) := HKw.out.p.bz.lt
                    have zc : wy.drew.cell? ⟨z, a, none⟩ = some (zs.getD a undef) := by rw [HKw.out.p.bz.cell]; simpa using HZS.out
                    have HSP : Hid (sinces (d.write a s.b).cache = (sinces d.cache).set a ((sinces d.cache).getD a [] ++ [s.b])) := sinces_push d.cache s.b ha4
                    have HCL : Hid (((d.write a s.b).cache.length : Int) = ((d.cache.length + 1 : Nat) : Int)) := by show _ = _; simp [DS.write]
                    have hWn : IntKind.i64.wrap ((d.cache.length : Int) + 1) = ((d.cache.length + 1 : Nat) : Int) := by have := HKi.out.l; have := HS2.out; rw [IntWalk.i64_in _ (by omega)]; omega
                    have hai : (a : Int) < 4 := by omega
                    clear hd hf HO hblo
                    go_upto_region 21 with fail
                    refine wp_region_held_drew (S := WS kx (a : Int) (.slice s.A 512 s.c)) (by kernel_rfl) HSW.out (fun hS => ?_)
                    refine wpAnyH_take (i := 0) (v := ?_) rfl (by kernel_rfl) (by kernel_rfl) (by kernel_rfl) (fun _ _ _ h => h) (Or.inl ⟨by rfl, ?_⟩) hS ?_
                    rotate_left
                    · (intro wq hSw; go_simp; try with_reducible rfl)
                    refine wpAnyH_take (i := 1) (v := ?_) rfl (by kernel_rfl) (by kernel_rfl) (by kernel_rfl) (fun _ _ _ h => h) (Or.inl ⟨by rfl, ?_⟩) hS ?_
                    rotate_left
                    · (intro wq hSw; obtain ⟨q1, q2⟩ := hSw; go_simp; try with_reducible rfl)
                    simp only [List.getElem_toArray, List.getElem_cons_succ, List.getElem_cons_zero, Act.put, List.setIfInBounds_toArray, List.set_cons_succ, List.set_cons_zero]
                    refine wpAnyH_take (i := 2) (v := ?_) rfl (by kernel_rfl) (by kernel_rfl) (by kernel_rfl) (fun _ _ _ h => h) (Or.inl ⟨by rfl, ?_⟩) hS ?_
                    rotate_left
                    · (intro wq hSw; obtain ⟨q1, q2⟩ := hSw; go_simp; try with_reducible rfl)
                    simp only [List.getElem_toArray, List.getElem_cons_succ, List.getElem_cons_zero, Act.put, List.setIfInBounds_toArray, List.set_cons_succ, List.set_cons_zero]
                    refine wpAnyH_take (i := 3) (v := ?_) rfl (by kernel_rfl) (by kernel_rfl) (by kernel_rfl) (fun _ _ _ h => h) (Or.inl ⟨by rfl, ?_⟩) hS ?_
                    rotate_left
                    · (intro wq hSw; obtain ⟨q1, q2⟩ := hSw; go_simp; try with_reducible rfl)
                    simp only [List.getElem_toArray, List.getElem_cons_succ, List.getElem_cons_zero, Act.put, List.setIfInBounds_toArray, List.set_cons_succ, List.set_cons_zero]
                    refine wpAnyH_take (i := 4) (v := ?_) rfl (by kernel_rfl) (by kernel_rfl) (by kernel_rfl) (fun _ _ _ h => h) (Or.inl ⟨by rfl, ?_⟩) hS ?_
                    rotate_left
                    · (intro wq hSw; obtain ⟨q1, q2⟩ := hSw; go_simp; try with_reducible rfl)
                    simp only [List.getElem_toArray, List.getElem_cons_succ, List.getElem_cons_zero, Act.put, List.setIfInBounds_toArray, List.set_cons_succ, List.set_cons_zero]
                    refine wpAnyH_take (i := 5) (v := ?_) rfl (by kernel_rfl) (by kernel_rfl) (by kernel_rfl) (fun _ _ _ h => h) (Or.inl ⟨by rfl, ?_⟩) hS ?_
                    rotate_left
                    · (intro wq hSw; obtain ⟨q1, q2⟩ := hSw; go_simp; try with_reducible rfl)
                    simp only [List.getElem_toArray, List.getElem_cons_succ, List.getElem_cons_zero, Act.put, List.setIfInBounds_toArray, List.set_cons_succ, List.set_cons_zero]
                    refine wpAnyH_take (i := 6) (v := ?_) rfl (by kernel_rfl) (by kernel_rfl) (by kernel_rfl) (fun _ _ _ h => h) (Or.inl ⟨by rfl, ?_⟩) hS ?_
                    rotate_left
                    · (intro wq hSw; obtain ⟨q1, q2⟩ := hSw; go_simp; try with_reducible rfl)
                    simp only [List.getElem_toArray, List.getElem_cons_succ, List.getElem_cons_zero, Act.put, List.setIfInBounds_toArray, List.set_cons_succ, List.set_cons_zero]
                    refine wpAnyH_take (i := 8) (v := ?_) rfl (by kernel_rfl) (by kernel_rfl) (by kernel_rfl) (fun _ _ _ h => h) (Or.inl ⟨by rfl, ?_⟩) hS ?_
                    rotate_left
                    · (intro wq hSw; obtain ⟨q1, q2⟩ := hSw; go_simp; try with_reducible rfl)
                    simp only [List.getElem_toArray, List.getElem_cons_succ, List.getElem_cons_zero, Act.put, List.setIfInBounds_toArray, List.set_cons_succ, List.set_cons_zero]
                    refine wpAnyH_take (i := 9) (v := ?_) rfl (by kernel_rfl) (by kernel_rfl) (by kernel_rfl) (fun _ _ _ h => h) (Or.inl ⟨by rfl, ?_⟩) hS ?_
                    rotate_left
                    · (intro wq hSw; obtain ⟨q1, q2⟩ := hSw; go_simp; try with_reducible rfl)
                    simp only [List.getElem_toArray, List.getElem_cons_succ, List.getElem_cons_zero, Act.put, List.setIfInBounds_toArray, List.set_cons_succ, List.set_cons_zero]
                    refine wpAnyH_ready (rs := [7, 10]) (by kernel_rfl) (by simp) ?_
                    refine AllReadyH.cons rfl (fun K hK => ?_) (AllReadyH.cons rfl (fun K hK => ?_) AllReadyH.nil)
                    · go_simp
                      refine hK.out _ _ hS (fun hS => ?_)
                      clear hK K
                      refine wpAnyH_ready (rs := [10]) (by kernel_rfl) (by simp) ?_
                      refine AllReadyH.cons rfl (fun K hK => ?_) AllReadyH.nil
                      go_simp
                      have hrw : RB _ (fun q => q < w.heap.size) s.A 512 s.b := HRB.out.drew
                      refine (copy_any _ _ s.A 512 s.c s.b hrw (by omega)).mono ?_
                      rintro e x ⟨vx, rfl, hnw, hf⟩
                      obtain ⟨Ax, cx, rfl, _, _, hrx⟩ := Ow.reads hnw
                      obtain ⟨v', w4, hap, ⟨A', n', c', rfl⟩, hbz4, ⟨O', T', hkg⟩, hsame⟩ := HKw.out.pushed (c := cx) hf ha4 hrx HLEN.out 37
                      have zc2 : x.cell? ⟨z, a, none⟩ = some (zs.getD a undef) := (World.cell?_of_block (hf.block z HZL.out fun hn => hn)).trans zc
                      have zc3 : (x.alloc (.cells #[.slice Ax s.b.length cx] 33)).cell? ⟨z, a, none⟩ = some (zs.getD a undef) := (World.cell?_alloc_lt _ _ _ (Nat.lt_of_lt_of_le HZL.out hf.size)).trans zc2
                      have z4 := hbz4.cell a
                      have z4f := hbz4.frozen a
                      have z4' : w4.cell? ⟨z, a, none⟩ = some (zs.getD a undef) := by rw [z4]; simpa using HZS.out
                      clear z4
                      have HAP := Lib.hid hap
                      have HKG := Lib.hid hkg
                      have HSM := Lib.hid hsame
                      have hSx : WS kx (a : Int) (.slice s.A 512 s.c) x := hS.keep hf fun hn => hn
                      have hSx2 : WS kx (a : Int) (.slice s.A 512 s.c) (x.alloc (.cells #[.slice Ax s.b.length cx] 33)) := hSx.keep (Fr.refl x No |>.alloc _) fun hn => hn
                      have hSx4 : WS kx (a : Int) (.slice s.A 512 s.c) w4 := ⟨(World.cell?_of_block (HSM.out kx HKXL.out HNS.out.2.1).1).trans HSW.out.1, (World.cell?_of_block (HSM.out kx HKXL.out HNS.out.2.1).1).trans HSW.out.2⟩
                      have hSx5 : WS kx (a : Int) (.slice s.A 512 s.c) (w4.setCell ⟨z, a, none⟩ (.slice A' n' c')) := ⟨(World.cell?_of_block (HSM.out kx HKXL.out HNS.out.2.1).2).trans HSW.out.1, (World.cell?_of_block (HSM.out kx HKXL.out HNS.out.2.1).2).trans HSW.out.2⟩
                      have x05 := (World.cell?_of_block (HSM.out kx HKXL.out HNS.out.2.1).2).trans HX0.out
                      have H2 := Lib.hid hSx2
                      have H4 := Lib.hid hSx4
                      have H5x := Lib.hid hSx5
                      clear hkg hsame hap hSx2 hSx4 hSx5 hbz4 hrw hrx
                      refine hK.out _ _ hSx (fun hS => ?_)
                      clear hK K hSx
                      refine wpAnyH_ready (rs := [11]) (by kernel_rfl) (by simp) ?_
                      refine AllReadyH.cons rfl (fun K hK => ?_) AllReadyH.nil
                      go_simp
                      refine hK.out _ _ H2.out (fun hS => ?_)
                      clear hK K
                      refine wpAnyH_ready (rs := [12]) (by kernel_rfl) (by simp) ?_
                      refine AllReadyH.cons rfl (fun K hK => ?_) AllReadyH.nil
                      simp only [List.getElem_toArray, List.getElem_cons_succ, List.getElem_cons_zero]
                      rw [if_pos (by rfl)]
                      refine wp_app37 (.tmp 79) (.tmp 83) rfl (zs.getD a undef) (.slice (some ⟨x.heap.size, 0, none⟩) 1 1) rfl rfl (.slice A' n' c') w4 HAP.out ?_
                      refine hK.out _ _ H4.out (fun hS => ?_)
                      clear hK K
                      go_frame
                      refine wpAnyH_take (i := 13) (v := ?_) rfl (by kernel_rfl) (by kernel_rfl) (by kernel_rfl) (fun _ _ _ h => h) (Or.inl ⟨by rfl, ?_⟩) hS ?_
                      rotate_left
                      · (intro wq hSw; obtain ⟨q1, q2⟩ := hSw; go_simp; try with_reducible rfl)
                      simp only [List.getElem_toArray, List.getElem_cons_succ, List.getElem_cons_zero, Act.put, List.setIfInBounds_toArray, List.set_cons_succ, List.set_cons_zero]
                      refine wpAnyH_ready (rs := [14]) (by kernel_rfl) (by simp) ?_
                      refine AllReadyH.cons rfl (fun K hK => ?_) AllReadyH.nil
                      go_simp
                      refine hK.out _ _ H5x.out (fun hS => ?_)
                      clear hK K
                      refine wpAnyH_done (by kernel_rfl) ?_ _
                      clear hS
                      go_wp2_with fail
                      go_roundw
                      case rel => exact ⟨i + 1, _, O', T', ys, _, d.write a s.b, by rw [HCL.out]; simp, by go_num, by omega, by rw [HSP.out]; exact HKG.out⟩
                      case measure => simp [intOf]; omega
                    · go_simp
                      have hrw : RB _ (fun q => q < w.heap.size) s.A 512 s.b := HRB.out.drew
                      refine (copy_any _ _ s.A 512 s.c s.b hrw (by omega)).mono ?_
                      rintro e x ⟨vx, rfl, hnw, hf⟩
                      obtain ⟨Ax, cx, rfl, _, _, hrx⟩ := Ow.reads hnw
                      obtain ⟨v', w4, hap, ⟨A', n', c', rfl⟩, hbz4, ⟨O', T', hkg⟩, hsame⟩ := HKw.out.pushed (c := cx) hf ha4 hrx HLEN.out 37
                      have zc2 : x.cell? ⟨z, a, none⟩ = some (zs.getD a undef) := (World.cell?_of_block (hf.block z HZL.out fun hn => hn)).trans zc
                      have zc3 : (x.alloc (.cells #[.slice Ax s.b.length cx] 33)).cell? ⟨z, a, none⟩ = some (zs.getD a undef) := (World.cell?_alloc_lt _ _ _ (Nat.lt_of_lt_of_le HZL.out hf.size)).trans zc2
                      have z4 := hbz4.cell a
                      have z4f := hbz4.frozen a
                      have z4' : w4.cell? ⟨z, a, none⟩ = some (zs.getD a undef) := by rw [z4]; simpa using HZS.out
                      clear z4
                      have HAP := Lib.hid hap
                      have HKG := Lib.hid hkg
                      have HSM := Lib.hid hsame
                      have hSx : WS kx (a : Int) (.slice s.A 512 s.c) x := hS.keep hf fun hn => hn
                      have hSx2 : WS kx (a : Int) (.slice s.A 512 s.c) (x.alloc (.cells #[.slice Ax s.b.length cx] 33)) := hSx.keep (Fr.refl x No |>.alloc _) fun hn => hn
                      have hSx4 : WS kx (a : Int) (.slice s.A 512 s.c) w4 := ⟨(World.cell?_of_block (HSM.out kx HKXL.out HNS.out.2.1).1).trans HSW.out.1, (World.cell?_of_block (HSM.out kx HKXL.out HNS.out.2.1).1).trans HSW.out.2⟩
                      have hSx5 : WS kx (a : Int) (.slice s.A 512 s.c) (w4.setCell ⟨z, a, none⟩ (.slice A' n' c')) := ⟨(World.cell?_of_block (HSM.out kx HKXL.out HNS.out.2.1).2).trans HSW.out.1, (World.cell?_of_block (HSM.out kx HKXL.out HNS.out.2.1).2).trans HSW.out.2⟩
                      have x05 := (World.cell?_of_block (HSM.out kx HKXL.out HNS.out.2.1).2).trans HX0.out
                      have H2 := Lib.hid hSx2
                      have H4 := Lib.hid hSx4
                      have H5x := Lib.hid hSx5
                      clear hkg hsame hap hSx2 hSx4 hSx5 hbz4 hrw hrx
                      refine hK.out _ _ hSx (fun hS => ?_)
                      clear hK K hSx
                      refine wpAnyH_ready (rs := [7, 11]) (by kernel_rfl) (by simp) ?_
                      refine AllReadyH.cons rfl (fun K hK => ?_) (AllReadyH.cons rfl (fun K hK => ?_) AllReadyH.nil)
                      · go_simp
                        refine hK.out _ _ hS (fun hS => ?_)
                        clear hK K
                        refine wpAnyH_ready (rs := [11]) (by kernel_rfl) (by simp) ?_
                        refine AllReadyH.cons rfl (fun K hK => ?_) AllReadyH.nil
                        go_simp
                        refine hK.out _ _ H2.out (fun hS => ?_)
                        clear hK K
                        refine wpAnyH_ready (rs := [12]) (by kernel_rfl) (by simp) ?_
                        refine AllReadyH.cons rfl (fun K hK => ?_) AllReadyH.nil
                        simp only [List.getElem_toArray, List.getElem_cons_succ, List.getElem_cons_zero]
                        rw [if_pos (by rfl)]
                        refine wp_app37 (.tmp 79) (.tmp 83) rfl (zs.getD a undef) (.slice (some ⟨x.heap.size, 0, none⟩) 1 1) rfl rfl (.slice A' n' c') w4 HAP.out ?_
                        refine hK.out _ _ H4.out (fun hS => ?_)
                        clear hK K
                        go_frame
                        refine wpAnyH_take (i := 13) (v := ?_) rfl (by kernel_rfl) (by kernel_rfl) (by kernel_rfl) (fun _ _ _ h => h) (Or.inl ⟨by rfl, ?_⟩) hS ?_
                        rotate_left
                        · (intro wq hSw; obtain ⟨q1, q2⟩ := hSw; go_simp; try with_reducible rfl)
                        simp only [List.getElem_toArray, List.getElem_cons_succ, List.getElem_cons_zero, Act.put, List.setIfInBounds_toArray, List.set_cons_succ, List.set_cons_zero]
                        refine wpAnyH_ready (rs := [14]) (by kernel_rfl) (by simp) ?_
                        refine AllReadyH.cons rfl (fun K hK => ?_) AllReadyH.nil
                        go_simp
                        refine hK.out _ _ H5x.out (fun hS => ?_)
                        clear hK K
                        refine wpAnyH_done (by kernel_rfl) ?_ _
                        clear hS
                        go_wp2_with fail
                        go_roundw
                        case rel => exact ⟨i + 1, _, O', T', ys, _, d.write a s.b, by rw [HCL.out]; simp, by go_num, by omega, by rw [HSP.out]; exact HKG.out⟩
                        case measure => simp [intOf]; omega
                      · go_simp
                        refine hK.out _ _ H2.out (fun hS => ?_)
                        clear hK K
                        refine wpAnyH_ready (rs := [7]) (by kernel_rfl) (by simp) ?_
                        refine AllReadyH.cons rfl (fun K hK => ?_) AllReadyH.nil
                        go_simp
                        refine hK.out _ _ hS (fun hS => ?_)
                        clear hK K
                        refine wpAnyH_ready (rs := [12]) (by kernel_rfl) (by simp) ?_
                        refine AllReadyH.cons rfl (fun K hK => ?_) AllReadyH.nil
                        simp only [List.getElem_toArray, List.getElem_cons_succ, List.getElem_cons_zero]
                        rw [if_pos (by rfl)]
                        refine wp_app37 (.tmp 79) (.tmp 83) rfl (zs.getD a undef) (.slice (some ⟨x.heap.size, 0, none⟩) 1 1) rfl rfl (.slice A' n' c') w4 HAP.out ?_
                        refine hK.out _ _ H4.out (fun hS => ?_)
                        clear hK K
                        go_frame
                        refine wpAnyH_take (i := 13) (v := ?_) rfl (by kernel_rfl) (by kernel_rfl) (by kernel_rfl) (fun _ _ _ h => h) (Or.inl ⟨by rfl, ?_⟩) hS ?_
                        rotate_left
                        · (intro wq hSw; obtain ⟨q1, q2⟩ := hSw; go_simp; try with_reducible rfl)
                        simp only [List.getElem_toArray, List.getElem_cons_succ, List.getElem_cons_zero, Act.put, List.setIfInBounds_toArray, List.set_cons_succ, List.set_cons_zero]
                        refine wpAnyH_ready (rs := [14]) (by kernel_rfl) (by simp) ?_
                        refine AllReadyH.cons rfl (fun K hK => ?_) AllReadyH.nil
                        go_simp
                        refine hK.out _ _ H5x.out (fun hS => ?_)
                        clear hK K
                        refine wpAnyH_done (by kernel_rfl) ?_ _
                        clear hS
                        go_wp2_with fail
                        go_roundw
                        case rel => exact ⟨i + 1, _, O', T', ys, _, d.write a s.b, by rw [HCL.out]; simp, by go_num, by omega, by rw [HSP.out]; exact HKG.out⟩
                        case measure => simp [intOf]; omega
                  · have HO : Hid (Calls Try.prog 23 #[ptr (some g), .int .i64 s.a, .slice s.A s.m s.c] wx fun e w' => e = .returned (.int .i64 1) ∧ wx = w') := by rw [HA.out]; exact write_arg wx S g d HKi.out.da a (by have := HKi.out.k; omega) s.A s.m s.c m5
                    clear m5 ha
                    simp only [ptr, Option.map] at HO
                    go_wp2_with fail
                    with_reducible refine HO.out.mono ?_
                    rintro e w' ⟨rfl, rfl⟩
                    go_wp2_with fail
                    go_roundw
                    case rel => exact ⟨i + 1, S, O, T, ys, zs, d, rfl, by go_num, by omega, HKi.out.up⟩
                    case measure => simp [intOf]; omega
                · have HO : Hid (Calls Try.prog 23 #[ptr (some g), .int .i64 s.a, .slice s.A s.m s.c] wx fun e w' => e = .returned (.int .i64 2) ∧ wx = w') := write_out wx S g d HKi.out.da s.a (by have := HKi.out.k; omega) s.A s.m s.c
                  clear a0
                  simp only [ptr, Option.map] at HO
                  go_wp2_with fail
                  with_reducible refine HO.out.mono ?_
                  rintro e w' ⟨rfl, rfl⟩
                  go_wp2_with fail
                  go_roundw
                  case rel => exact ⟨i + 1, S, O, T, ys, zs, d, rfl, by go_num, by omega, HKi.out.up⟩
                  case measure => simp [intOf]; omega
              · have hk1 : (s.k == 1) = false := beq_false_of_ne k1
                by_cases k2 : s.k = 2
                · have hk2 : (s.k == 2) = true := by rw [beq_iff_eq]; exact k2
                  clear k1 k2
                  have hsy := sync_some wx S g d HKi.out.da (free_next HKi.out.f).2 (by have := HKi.out.l; have := HS2.out; omega)
                  rw [(free_next HKi.out.f).1] at hsy
                  have HO := Lib.hid hsy
                  clear hsy
                  simp only [ptr, Option.map] at HO
                  go_wp2_with fail
                  with_reducible refine HO.out.mono ?_
                  rintro e wy ⟨rfl, hd, hf⟩
                  have HKy := Lib.hid (HKi.out.disk (hd.mono fun _ _ h => Or.inl h) hf HKi.out.f (show d.sync.kept.length = 4 by show (setN _ _ _).length = 4; rw [setN_len]; exact HKi.out.k) (show d.sync.cache.length ≤ i + 1 by exact Nat.zero_le _))
                  obtain ⟨S2, hS2⟩ : ∃ S2, KG w wy (i + 1) g y z S2 O T ys zs (mixA d 0) (mixB d 0) d.sync := ⟨_, by rw [mixA_zero HKi.out.k, mixB_zero]; exact HKy.out⟩
                  have HK3 := Lib.hid hS2
                  have HME := Lib.hid (mixA_end HKi.out.da.ok HKi.out.k)
                  have HMB := Lib.hid (mixB_end d)
                  have HLc : Hid (∀ k, (since d.cache k).length < 1000) := fun k => by have := since_len d.cache k; have := HKi.out.l; have := HS2.out; omega
                  clear hd hf HO hS2 HKy HKi HX HSI HNS x0 x1 x2
                  go_wp2_with fail
                  go_loopw [16] (fun u wr => ∃ (k : Nat) (O T : Nat → Prop) (ys zs : List Value), u = .int .i64 (k : Int) ∧ k ≤ 4 ∧ KG w wr (i + 1) g y z S2 O T ys zs (mixA d k) (mixB d k) d.sync) (fun u _ => 4 - (intOf u).toNat)
                  case atStart => exact ⟨0, _, _, _, _, rfl, by omega, HK3.out⟩
                  case round =>
                    clear HK3
                    obtain ⟨k, O, T, ys, zs, rfl, hk4, hkg⟩ := hrel
                    by_cases hlt3 : k < 4
                    · have h1 : ((k : Int) < 4) := by omega
                      have h1d : decide ((k : Int) < 4) = true := decide_eq_true h1
                      have hWk : IntKind.i64.wrap ((k : Int) + 1) = ((k + 1 : Nat) : Int) := by rw [IntWalk.i64_in _ (by omega)]; omega
                      obtain ⟨A, cA, hz1, hz2, hz3⟩ := hkg.lookZ hlt3
                      rw [mixB_at d hlt3] at hz1 hz2 hz3
                      have zf := hkg.p.bz.frozen k
                      have hLk := HLc.out k
                      obtain ⟨N, hN⟩ : ∃ N, (since d.cache k).length = N := ⟨_, rfl⟩
                      rw [hN] at hz1 hz2 hLk
                      by_cases h0 : N = 0
                      · have hs0 : since d.cache k = [] := List.eq_nil_of_length_eq_zero (hN.trans h0)
                        have hkn := hkg.emptyZ hlt3
                        rw [mixB_succ d hlt3, ← mixA_stay d hlt3 hs0] at hkn
                        have HKn := Lib.hid hkn
                        clear hkn hkg hz1 hz3 hs0 hN
                        subst h0
                        go_wp2_with fail
                        go_roundw
                        case rel => exact ⟨k + 1, O, T, ys, _, by go_num, by omega, HKn.out⟩
                        case measure => simp [intOf]; omega
                      · obtain ⟨n, hn⟩ : ∃ n, N = n + 1 := ⟨N - 1, by omega⟩
                        obtain ⟨lb, hlb⟩ : ∃ lb, (since d.cache k)[n]? = some lb := ⟨_, List.getElem?_eq_getElem (by omega)⟩
                        have hseen : lb = d.seen k := by
                          rw [seen_last, List.getLastD_eq_getLast?, List.getLast?_eq_getElem?, hN, show N - 1 = n by omega, hlb]; rfl
                        obtain ⟨G, x, rfl, hxc, hsl⟩ := hz3 n lb hlb
                        obtain ⟨Ax, nx, cx, hxe⟩ : ∃ Ax nx cx, x = .slice Ax nx cx := by obtain ⟨a1, a2, a3, _⟩ := hsl; exact ⟨_, _, _, a3⟩
                        subst hxe
                        have hGy : G ≠ y := fun e => hkg.p.ny k hlt3 (by rw [hz1, e]; rfl)
                        have hzy : z ≠ y := hkg.p.bz.ne_ hkg.p.by_ (by decide)
                        have hdr := (Fr.refl wr No).drew
                        have hkd := hkg.fr hdr
                        have hsd : SL wr.drew T (.slice Ax nx cx) lb := hsl.keep hdr fun _ _ hn => hn
                        have hk2 := hkd.setY hlt3 hsd
                        rw [hseen, mixA_succ d hlt3] at hk2
                        have hk3 := hk2.emptyZ hlt3
                        rw [mixB_succ d hlt3] at hk3
                        have zc : wr.drew.cell? ⟨z, k, none⟩ = some (.slice (some ⟨G, 0, none⟩) N cA) := (World.cell?_of_block (hdr.block z hkg.p.bz.lt fun hn => hn)).trans hz2
                        have gc : wr.drew.cell? ⟨G, n, none⟩ = some (.slice Ax nx cx) := (World.cell?_of_block (hdr.block G (block_lt_of_cell hxc) fun hn => hn)).trans hxc
                        have hS1 : Hid (wr.drew.cell? ⟨z, k, none⟩ = some (.slice (some ⟨G, 0, none⟩) N cA) ∧ wr.drew.cell? ⟨G, n, none⟩ = some (.slice Ax nx cx)) := ⟨zc, gc⟩
                        have zc' : (wr.drew.setCell ⟨y, k, none⟩ (.slice Ax nx cx)).cell? ⟨z, k, none⟩ = some (.slice (some ⟨G, 0, none⟩) N cA) := (World.cell?_of_block (Below.heap_setCell _ _ _ z hzy)).trans zc
                        have hS2' : Hid ((wr.drew.setCell ⟨y, k, none⟩ (.slice Ax nx cx)).cell? ⟨z, k, none⟩ = some (.slice (some ⟨G, 0, none⟩) N cA) ∧ (wr.drew.setCell ⟨y, k, none⟩ (.slice Ax nx cx)).cell? ⟨G, n, none⟩ = some (.slice Ax nx cx)) := ⟨zc', (World.cell?_of_block (Below.heap_setCell _ _ _ G hGy)).trans gc⟩
                        have yc : ∃ q, wr.drew.cell? ⟨y, k, none⟩ = some q := by
                          obtain ⟨A, c, h, _⟩ := hkd.lookY hlt3
                          exact ⟨_, h⟩
                        obtain ⟨q, yc⟩ := yc
                        have hn00 : 0 < N := by omega
                        have yf := hkd.p.by_.frozen k
                        have zf' := hk2.p.bz.frozen k
                        have HKn := Lib.hid hk3
                        have hn0 : decide ((N : Int) > 0) = true := by simp; omega
                        have hn1 : IntKind.i64.wrap ((N : Int) - 1) = (n : Int) := by rw [IntWalk.i64_in _ (by omega)]; omega
                        have hn2 : ((n : Int) < (N : Int)) := by omega
                        have hn3 : n < N := by omega
                        clear hk3 hk2 hkd hkg hz1 hz3 hN h0 hsd hsl hlb hseen hn hxc hdr hGy hzy zc gc
                        go_upto_region 29 with fail
                        refine wp_region_held_drew (S := fun w' => w'.cell? ⟨z, k, none⟩ = some (.slice (some ⟨G, 0, none⟩) N cA) ∧ w'.cell? ⟨G, n, none⟩ = some (.slice Ax nx cx)) (by kernel_rfl) hS1.out (fun hS => ?_)
                        refine wpAnyH_take (i := 0) (v := ?_) rfl (by kernel_rfl) (by kernel_rfl) (by kernel_rfl) (fun _ _ _ h => h) (Or.inl ⟨by rfl, ?_⟩) hS ?_
                        rotate_left
                        · (intro wq hSw; go_simp; try with_reducible rfl)
                        refine wpAnyH_take (i := 1) (v := ?_) rfl (by kernel_rfl) (by kernel_rfl) (by kernel_rfl) (fun _ _ _ h => h) (Or.inl ⟨by rfl, ?_⟩) hS ?_
                        rotate_left
                        · (intro wq hSw; obtain ⟨q1, q2⟩ := hSw; go_simp; try with_reducible rfl)
                        simp only [List.getElem_toArray, List.getElem_cons_succ, List.getElem_cons_zero, Act.put, List.setIfInBounds_toArray, List.set_cons_succ, List.set_cons_zero]
                        refine wpAnyH_take (i := 2) (v := ?_) rfl (by kernel_rfl) (by kernel_rfl) (by kernel_rfl) (fun _ _ _ h => h) (Or.inl ⟨by rfl, ?_⟩) hS ?_
                        rotate_left
                        · (intro wq hSw; obtain ⟨q1, q2⟩ := hSw; go_simp; try with_reducible rfl)
                        simp only [List.getElem_toArray, List.getElem_cons_succ, List.getElem_cons_zero, Act.put, List.setIfInBounds_toArray, List.set_cons_succ, List.set_cons_zero]
                        refine wpAnyH_take (i := 3) (v := ?_) rfl (by kernel_rfl) (by kernel_rfl) (by kernel_rfl) (fun _ _ _ h => h) (Or.inl ⟨by rfl, ?_⟩) hS ?_
                        rotate_left
                        · (intro wq hSw; obtain ⟨q1, q2⟩ := hSw; go_simp; try with_reducible rfl)
                        simp only [List.getElem_toArray, List.getElem_cons_succ, List.getElem_cons_zero, Act.put, List.setIfInBounds_toArray, List.set_cons_succ, List.set_cons_zero]
                        refine wpAnyH_take (i := 4) (v := ?_) rfl (by kernel_rfl) (by kernel_rfl) (by kernel_rfl) (fun _ _ _ h => h) (Or.inl ⟨by rfl, ?_⟩) hS ?_
                        rotate_left
                        · (intro wq hSw; obtain ⟨q1, q2⟩ := hSw; go_simp; try with_reducible rfl)
                        simp only [List.getElem_toArray, List.getElem_cons_succ, List.getElem_cons_zero, Act.put, List.setIfInBounds_toArray, List.set_cons_succ, List.set_cons_zero]
                        refine wpAnyH_take (i := 5) (v := ?_) rfl (by kernel_rfl) (by kernel_rfl) (by kernel_rfl) (fun _ _ _ h => h) (Or.inl ⟨by rfl, ?_⟩) hS ?_
                        rotate_left
                        · (intro wq hSw; obtain ⟨q1, q2⟩ := hSw; go_simp; try with_reducible rfl)
                        simp only [List.getElem_toArray, List.getElem_cons_succ, List.getElem_cons_zero, Act.put, List.setIfInBounds_toArray, List.set_cons_succ, List.set_cons_zero]
                        refine wpAnyH_take (i := 6) (v := ?_) rfl (by kernel_rfl) (by kernel_rfl) (by kernel_rfl) (fun _ _ _ h => h) (Or.inl ⟨by rfl, ?_⟩) hS ?_
                        rotate_left
                        · (intro wq hSw; obtain ⟨q1, q2⟩ := hSw; go_simp; try with_reducible rfl)
                        simp only [List.getElem_toArray, List.getElem_cons_succ, List.getElem_cons_zero, Act.put, List.setIfInBounds_toArray, List.set_cons_succ, List.set_cons_zero]
                        refine wpAnyH_take (i := 7) (v := ?_) rfl (by kernel_rfl) (by kernel_rfl) (by kernel_rfl) (fun _ _ _ h => h) (Or.inl ⟨by rfl, ?_⟩) hS ?_
                        rotate_left
                        · (intro wq hSw; obtain ⟨q1, q2⟩ := hSw; go_simp; try with_reducible rfl)
                        simp only [List.getElem_toArray, List.getElem_cons_succ, List.getElem_cons_zero, Act.put, List.setIfInBounds_toArray, List.set_cons_succ, List.set_cons_zero]
                        refine wpAnyH_take (i := 8) (v := ?_) rfl (by kernel_rfl) (by kernel_rfl) (by kernel_rfl) (fun _ _ _ h => h) (Or.inl ⟨by rfl, ?_⟩) hS ?_
                        rotate_left
                        · (intro wq hSw; obtain ⟨q1, q2⟩ := hSw; go_simp; try with_reducible rfl)
                        simp only [List.getElem_toArray, List.getElem_cons_succ, List.getElem_cons_zero, Act.put, List.setIfInBounds_toArray, List.set_cons_succ, List.set_cons_zero]
                        refine wpAnyH_take (i := 9) (v := ?_) rfl (by kernel_rfl) (by kernel_rfl) (by kernel_rfl) (fun _ _ _ h => h) (Or.inl ⟨by rfl, ?_⟩) hS ?_
                        rotate_left
                        · (intro wq hSw; obtain ⟨q1, q2⟩ := hSw; go_simp; try with_reducible rfl)
                        simp only [List.getElem_toArray, List.getElem_cons_succ, List.getElem_cons_zero, Act.put, List.setIfInBounds_toArray, List.set_cons_succ, List.set_cons_zero]
                        refine wpAnyH_take (i := 10) (v := ?_) rfl (by kernel_rfl) (by kernel_rfl) (by kernel_rfl) (fun _ _ _ h => h) (Or.inl ⟨by rfl, ?_⟩) hS ?_
                        rotate_left
                        · (intro wq hSw; obtain ⟨q1, q2⟩ := hSw; go_simp; try with_reducible rfl)
                        simp only [List.getElem_toArray, List.getElem_cons_succ, List.getElem_cons_zero, Act.put, List.setIfInBounds_toArray, List.set_cons_succ, List.set_cons_zero]
                        refine wpAnyH_take (i := 11) (v := ?_) rfl (by kernel_rfl) (by kernel_rfl) (by kernel_rfl) (fun _ _ _ h => h) (Or.inl ⟨by rfl, ?_⟩) hS ?_
                        rotate_left
                        · (intro wq hSw; obtain ⟨q1, q2⟩ := hSw; go_simp; try with_reducible rfl)
                        simp only [List.getElem_toArray, List.getElem_cons_succ, List.getElem_cons_zero, Act.put, List.setIfInBounds_toArray, List.set_cons_succ, List.set_cons_zero]
                        refine wpAnyH_take (i := 12) (v := ?_) rfl (by kernel_rfl) (by kernel_rfl) (by kernel_rfl) (fun _ _ _ h => h) (Or.inl ⟨by rfl, ?_⟩) hS ?_
                        rotate_left
                        · (intro wq hSw; obtain ⟨q1, q2⟩ := hSw; go_simp; try with_reducible rfl)
                        simp only [List.getElem_toArray, List.getElem_cons_succ, List.getElem_cons_zero, Act.put, List.setIfInBounds_toArray, List.set_cons_succ, List.set_cons_zero]
                        refine wpAnyH_take (i := 13) (v := ?_) rfl (by kernel_rfl) (by kernel_rfl) (by kernel_rfl) (fun _ _ _ h => h) (Or.inl ⟨by rfl, ?_⟩) hS ?_
                        rotate_left
                        · (intro wq hSw; obtain ⟨q1, q2⟩ := hSw; go_simp; try with_reducible rfl)
                        simp only [List.getElem_toArray, List.getElem_cons_succ, List.getElem_cons_zero, Act.put, List.setIfInBounds_toArray, List.set_cons_succ, List.set_cons_zero]
                        refine wpAnyH_take (i := 14) (v := ?_) rfl (by kernel_rfl) (by kernel_rfl) (by kernel_rfl) (fun _ _ _ h => h) (Or.inl ⟨by rfl, ?_⟩) hS ?_
                        rotate_left
                        · (intro wq hSw; obtain ⟨q1, q2⟩ := hSw; go_simp; try with_reducible rfl)
                        simp only [List.getElem_toArray, List.getElem_cons_succ, List.getElem_cons_zero, Act.put, List.setIfInBounds_toArray, List.set_cons_succ, List.set_cons_zero]
                        refine wpAnyH_ready (rs := [15]) (by kernel_rfl) (by simp) ?_
                        refine AllReadyH.cons rfl (fun K hK => ?_) AllReadyH.nil
                        simp only [List.getElem_toArray, List.getElem_cons_succ, List.getElem_cons_zero]
                        go_simp
                        refine hK.out _ _ hS2'.out (fun hS => ?_)
                        clear hK K
                        refine wpAnyH_done (by kernel_rfl) ?_ _
                        clear hS hS1 hS2'
                        go_wp2_with fail
                        go_roundw
                        case rel => exact ⟨k + 1, O, T, _, _, by go_num, by omega, HKn.out⟩
                        case measure => simp [intOf]; omega
                    · have h1d : decide ((k : Int) < 4) = false := decide_eq_false (by omega)
                      have HI5 := Lib.hid (show k = 4 by omega)
                      have hkf : KG w wr (i + 1) g y z S2 O T ys zs d.sync.kept (sinces d.sync.cache) d.sync := by
                        have := hkg
                        rw [HI5.out, HME.out, HMB.out] at this
                        exact this
                      have HKf := Lib.hid hkf
                      clear hkf hkg hk4 hlt3
                      go_wp2_with fail
                      go_roundw
                      case rel => exact ⟨i + 1, S2, O, T, ys, zs, d.sync, rfl, by go_num, by omega, HKf.out⟩
                      case measure => simp [intOf]; omega
                · have hk2 : (s.k == 2) = false := beq_false_of_ne k2
                  clear k1 k2
                  go_wp2_with fail
                  go_roundw
                  case rel => exact ⟨i + 1, S, O, T, ys, zs, d, rfl, by go_num, by omega, HKi.out.up⟩
                  case measure => simp [intOf]; omega
            · have hind : decide ((i : Int) < (m : Int)) = false := decide_eq_false (by omega)
              have HKe := Lib.hid hk
              have hin2 : ¬ i < m := hlt
              have hin3 : decide (i < m) = false := decide_eq_false hlt
              clear hk hlt
              have HP := Lib.hid (pending_any wr S g d HKe.out.da)
              simp only [ptr, Option.map] at HP
              go_wp2_with fail
              with_reducible refine HP.out.mono ?_
              rintro e wp ⟨rfl, rfl⟩
              clear HP
              go_wp2_with fail
              go_loopw [10, 17] (fun a u wr => ∃ (j : Nat) (ba : Bool), a = .bool ba ∧ u = .int .i64 (j : Int) ∧ j ≤ d.cache.length ∧ (ba = true → ∀ q, q < j → keep.getD q false = true) ∧ KG w wr i g y z S O T ys zs d.kept (sinces d.cache) d) (fun _ u _ => d.cache.length - (intOf u).toNat)
              case atStart => exact ⟨0, true, rfl, rfl, Nat.zero_le _, fun _ q hq => absurd hq (Nat.not_lt_zero q), HKe.out⟩
              case round =>
                clear HKe
                obtain ⟨j, ba, rfl, rfl, hj, hbq, hk⟩ := hrel
                have HQB := Lib.hid hbq
                have hlen := hk.l
                have hm200 := HFew.out.1
                have hkb : KB wr (fun b => b < w.heap.size) K kn keep := HKB.out.move hk.bl.size fun p _ hS => hk.bl.cell hS
                have HKe := Lib.hid hk
                clear hbq hk
                by_cases hlt : j < d.cache.length
                · have h1 : ((j : Int) < (d.cache.length : Int)) := by omega
                  have hWj : IntKind.i64.wrap ((j : Int) + 1) = ((j + 1 : Nat) : Int) := by rw [IntWalk.i64_in _ (by omega)]; omega
                  clear hlen hm200
                  cases ba with
                  | false =>
                    clear hkb
                    go_wp2_with fail
                    go_roundw
                    case rel => exact ⟨j + 1, false, rfl, by go_num, by omega, (fun h => by cases h), HKe.out⟩
                    case measure => simp [intOf]; omega
                  | true =>
                    by_cases hjk : j < kn
                    · obtain ⟨ad, hK, _, _, hc⟩ := hkb.2 (by omega)
                      subst hK
                      obtain ⟨bj, hbj⟩ : ∃ bj, keep.getD j false = bj := ⟨_, rfl⟩
                      have hcj := hc j hjk
                      rw [hbj] at hcj
                      have HBJ := Lib.hid hbj
                      have hjd : ((j : Int) < (kn : Int)) := by omega
                      clear hkb hc hbj
                      go_wp2_with fail
                      go_roundw
                      case rel => exact ⟨j + 1, _, rfl, by go_num, by omega, (fun h q hq => by
                        rcases Nat.lt_or_ge q j with h2 | h2
                        · exact HQB.out rfl q h2
                        · rw [show q = j by omega, HBJ.out]; simpa using h), HKe.out⟩
                      case measure => simp [intOf]; omega
                    · have hjd : decide ((j : Int) < (kn : Int)) = false := decide_eq_false (by omega)
                      have hjd2 : decide (j < kn) = false := decide_eq_false hjk
                      clear hkb
                      go_wp2_with fail
                      go_roundw
                      case rel => exact ⟨j + 1, false, rfl, by go_num, by omega, (fun h => by cases h), HKe.out⟩
                      case measure => simp [intOf]; omega
                · have h1d : decide ((j : Int) < (d.cache.length : Int)) = false := decide_eq_false (by omega)
                  have HJ := Lib.hid (show j = d.cache.length by omega)
                  have hkn := HQ.out
                  have HC := Lib.hid (cut_any wr S g d HKe.out.da (fun b => b < w.heap.size) K kn kc keep hkb (fun q h1 h2 => by have := (HKe.out.s0 q h2).1; omega) (by omega) (by omega))
                  have HVI : Hid (∀ k, k < 4 → (d.cut keep).kept.getD k [] = d.kept.getD k [] ∨ (d.cut keep).kept.getD k [] ∈ since d.cache k) := fun k hk => cut_in HKe.out.da.ok keep (by rw [HKe.out.k]; exact hk)
                  have HVA : Hid (ba = true → ∀ k, k < 4 → (d.cut keep).kept.getD k [] = (since d.cache k).getLastD (d.kept.getD k [])) := fun hb k hk => cut_all HKe.out.da.ok keep (by rw [HKe.out.k]; exact hk) (by have := HQB.out hb; rwa [HJ.out] at this)
                  have HLc : Hid (∀ k, (since d.cache k).length < 1000) := fun k => by have := since_len d.cache k; omega
                  have h1d2 : decide (j < d.cache.length) = false := decide_eq_false hlt
                  clear hkb hlen hm200 hkn hj
                  simp only [ptr, Option.map] at HC
                  go_wp2_with fail
                  with_reducible refine HC.out.mono ?_
                  rintro e wc ⟨rfl, hd, hf⟩
                  obtain ⟨S2, hS2⟩ : ∃ S2, KG w wc i g y z S2 O T ys zs d.kept (sinces d.cache) (d.cut keep) := ⟨_, HKe.out.disk (hd.mono fun _ _ h => Or.inl h) hf ⟨rfl, rfl⟩ (show (cutN _ _ _ _).length = 4 by rw [cutN_len]; exact HKe.out.k) (Nat.zero_le _)⟩
                  have HK2 := Lib.hid hS2
                  clear hd hf hS2 HKe HC
                  go_wp2_with fail
                  go_loopw [18] (fun u wr => ∃ (k : Nat) (S : Nat → Prop) (x : DS), u = .int .i64 (k : Int) ∧ k ≤ 4 ∧ x.kept = (d.cut keep).kept ∧ x.cache = [] ∧ KG w wr i g y z S O T ys zs d.kept (sinces d.cache) x) (fun u _ => 4 - (intOf u).toNat)
                  case atStart => exact ⟨0, S2, d.cut keep, rfl, by omega, rfl, rfl, HK2.out⟩
                  case round =>
                    clear HK2
                    obtain ⟨k, S, x, rfl, hk4, hxk, hxc, hk⟩ := hrel
                    by_cases hlt5 : k < 4
                    · have h1 : ((k : Int) < 4) := by omega
                      have hWk : IntKind.i64.wrap ((k : Int) + 1) = ((k + 1 : Nat) : Int) := by rw [IntWalk.i64_in _ (by omega)]; omega
                      have hrd := read_some wr S g x hk.da k (by rw [hk.k]; exact hlt5) (free_next hk.f).2
                      have hsec := seen_sec hk.da.ok (a := k) (by rw [hk.k]; exact hlt5)
                      rw [(free_next hk.f).1] at hrd
                      have hv := seen_clear hxc k
                      rw [hxk] at hv
                      obtain ⟨v, hvv⟩ : ∃ v, x.seen k = v := ⟨_, rfl⟩
                      rw [hvv] at hv hrd hsec
                      have HVX : Hid (v = (d.cut keep).kept.getD k []) := hv
                      have HXK := Lib.hid hxk
                      have HXC := Lib.hid hxc
                      have HKr := Lib.hid hk
                      have HR := Lib.hid hrd
                      have HSEC := Lib.hid hsec
                      clear hrd hsec hv hvv hxk hxc hk
                      simp only [ptr, Option.map] at HR
                      go_wp2_with fail
                      with_reducible refine HR.out.mono ?_
                      rintro e wv ⟨kb, rfl, hge, hb, hd, hf⟩
                      have hk2 := HKr.out.disk (hd.mono fun _ _ h => Or.inl h) hf HKr.out.f HKr.out.k HKr.out.l
                      obtain ⟨S3, hS3⟩ : ∃ S3, KG w wv i g y z S3 O T ys zs d.kept (sinces d.cache) x.read := ⟨_, hk2⟩
                      clear hk2 hd hf HKr HR
                      obtain ⟨A0, c0, hy1, hy2⟩ := hS3.lookY hlt5
                      obtain ⟨l0, hl0⟩ : ∃ l0, d.kept.getD k [] = l0 := ⟨_, rfl⟩
                      rw [hl0] at hy1 hy2
                      have HL0 := Lib.hid hl0
                      obtain ⟨n0, hn0⟩ : ∃ n0, l0.length = n0 := ⟨_, rfl⟩
                      rw [hn0] at hy1 hy2
                      obtain ⟨b0, hb0⟩ : ∃ b0, seq (bs v) (bs l0) = b0 := ⟨_, rfl⟩
                      have hcvV := fun q : Nat => run_conv _ (some ⟨kb, 0, none⟩) 512 512 v (wv.drewN q) ((RB.of_any (S := fun _ => True) hb trivial HSEC.out.2 HSEC.out.1).drewN q)
                      have hcv0 := fun q : Nat => run_conv _ A0 n0 c0 l0 (wv.drewN q) (hy2.drewN q)
                      have HKv := Lib.hid hS3
                      have HB := Lib.hid hb
                      have HB0 := Lib.hid hb0
                      have HN0 := Lib.hid hn0
                      clear hS3 hb hl0 hn0 hge
                      go_wp2_with fail
                      go_quiet (fail)
                      have HK3 := Lib.hid (HKv.out.fr ((Fr.refl wv No).drewN nq))
                      have HB3 := Lib.hid (HB.out.keep ((Fr.refl wv No).drewN nq) fun hn => hn)
                      clear hcvV hcv0 hy1 hy2 HKv HB hb0
                      generalize wv.drewN nq = wn at *
                      go_wp2_with fail
                      obtain ⟨N, hN⟩ : ∃ N, (since d.cache k).length = N := ⟨_, rfl⟩
                      have hNb := HLc.out k
                      rw [hN] at hNb
                      have HN := Lib.hid hN
                      clear hN
                      go_loopw [21, 22] (fun a u wr => ∃ (j : Nat) (bq : Bool), a = .bool bq ∧ u = .int .i64 (j : Int) ∧ j ≤ N ∧ bq = inn v b0 (since d.cache k) j ∧ KG w wr i g y z S3 O T ys zs d.kept (sinces d.cache) x.read ∧ Blk wr kb 69 (u8s v).toArray) (fun _ u _ => N - (intOf u).toNat)
                      case atStart => exact ⟨0, b0, rfl, rfl, Nat.zero_le _, (inn_zero _ _ _).symm, HK3.out, HB3.out⟩
                      case round =>
                        clear HK3 HB3
                        obtain ⟨j, bq, rfl, rfl, hj, hbq, hk, hb⟩ := hrel
                        obtain ⟨A2, c2, hz1, hz2, hz3⟩ := hk.lookZ hlt5
                        rw [sinces_at d.cache hlt5] at hz1 hz2 hz3
                        rw [HN.out] at hz1 hz2
                        have hcvV := fun q : Nat => run_conv _ (some ⟨kb, 0, none⟩) 512 512 v (wr.drewN q) ((RB.of_any (S := fun _ => True) hb trivial HSEC.out.2 HSEC.out.1).drewN q)
                        obtain ⟨A0, c0, hy1, hy2⟩ := hk.lookY hlt5
                        rw [HL0.out, HN0.out] at hy1 hy2
                        have hcv0 := fun q : Nat => run_conv _ A0 n0 c0 l0 (wr.drewN q) (hy2.drewN q)
                        have HKq := Lib.hid (fun q : Nat => hk.fr ((Fr.refl wr No).drewN q))
                        have HBq := Lib.hid (fun q : Nat => hb.keep ((Fr.refl wr No).drewN q) fun hn => hn)
                        have HBI := Lib.hid hbq
                        clear hk hb hbq hz1 hy2
                        by_cases hlt : j < N
                        · have h1 : ((j : Int) < (N : Int)) := by omega
                          have hWj : IntKind.i64.wrap ((j : Int) + 1) = ((j + 1 : Nat) : Int) := by rw [IntWalk.i64_in _ (by omega)]; omega
                          obtain ⟨lj, hlj⟩ : ∃ lj, (since d.cache k)[j]? = some lj := ⟨_, List.getElem?_eq_getElem (by rw [HN.out]; exact hlt)⟩
                          have HLJ := Lib.hid hlj
                          clear hy1 hcv0
                          cases bq with
                          | true =>
                            clear hz3 hlj hcvV
                            go_wp2_with fail
                            go_quiet (fail)
                            have HK4 := Lib.hid (HKq.out nq)
                            have HB4 := Lib.hid (HBq.out nq)
                            clear HKq HBq hz2
                            generalize wr.drewN nq = wn at *
                            go_wp2_with fail
                            go_roundw
                            case rel => exact ⟨j + 1, true, rfl, by go_num, by omega, by rw [inn_succ _ _ _ HLJ.out, ← HBI.out]; rfl, HK4.out, HB4.out⟩
                            case measure => simp [intOf]; omega
                          | false =>
                            obtain ⟨G, xv, rfl, hxc, hsl⟩ := hz3 j lj hlj
                            obtain ⟨Ax, cx, hxe, hrx⟩ := hsl
                            subst hxe
                            obtain ⟨nx, hnx⟩ : ∃ nx, lj.length = nx := ⟨_, rfl⟩
                            rw [hnx] at hxc hrx
                            obtain ⟨b1, hb1⟩ : ∃ b1, seq (bs v) (bs lj) = b1 := ⟨_, rfl⟩
                            have HB1 := Lib.hid hb1
                            have hcvX := fun q : Nat => run_conv _ Ax nx cx lj (wr.drewN q) (hrx.drewN q)
                            clear hz3 hlj hrx hnx
                            go_wp2_with fail
                            go_quiet (fail)
                            have HK4 := Lib.hid (HKq.out nq)
                            have HB4 := Lib.hid (HBq.out nq)
                            clear HKq HBq hz2 hcvX hcvV hb1 hxc
                            generalize wr.drewN nq = wn at *
                            go_wp2_with fail
                            go_roundw
                            case rel => exact ⟨j + 1, b1, rfl, by go_num, by omega, by rw [inn_succ _ _ _ HLJ.out, ← HBI.out, HB1.out]; rfl, HK4.out, HB4.out⟩
                            case measure => simp [intOf]; omega
                        · have h1d : decide ((j : Int) < (N : Int)) = false := decide_eq_false (by omega)
                          have h1d2 : decide (j < N) = false := decide_eq_false hlt
                          have hvi := HVI.out k hlt5
                          rw [← HVX.out, HL0.out] at hvi
                          have hin : bq = true := by
                            rw [HBI.out, show j = (since d.cache k).length by rw [HN.out]; omega]
                            exact inn_all v l0 b0 _ HB0.out hvi
                          subst hin
                          have HVIk := Lib.hid hvi
                          clear hvi
                          rcases Nat.eq_zero_or_pos N with hN0 | hN0
                          · subst hN0
                            have hnil : since d.cache k = [] := List.eq_nil_of_length_eq_zero HN.out
                            have hve : v = l0 := by
                              rcases HVIk.out with h | h
                              · exact h
                              · rw [hnil] at h; cases h
                            have hse : seq (bs v) (bs l0) = true := by rw [hve]; exact seq_refl _
                            clear hnil hve hz3
                            cases ba with
                            | true =>
                            go_wp2_with fail
                            go_quiet (fail)
                            have HK4 := Lib.hid (HKq.out nq)
                            clear HKq HBq hz2 hy1 hcv0 hcvV
                            generalize wr.drewN nq = wn at *
                            go_wp2_with fail
                            go_roundw
                            case rel => exact ⟨k + 1, S3, x.read, by go_num, by omega, HXK.out, HXC.out, HK4.out⟩
                            case measure => simp [intOf]; omega
                            | false =>
                            go_wp2_with fail
                            go_quiet (fail)
                            have HK4 := Lib.hid (HKq.out nq)
                            clear HKq HBq hz2 hy1 hcv0 hcvV
                            generalize wr.drewN nq = wn at *
                            go_wp2_with fail
                            go_roundw
                            case rel => exact ⟨k + 1, S3, x.read, by go_num, by omega, HXK.out, HXC.out, HK4.out⟩
                            case measure => simp [intOf]; omega
                          · obtain ⟨n, hn⟩ : ∃ n, N = n + 1 := ⟨N - 1, by omega⟩
                            have hn1 : IntKind.i64.wrap ((N : Int) - 1) = (n : Int) := by rw [IntWalk.i64_in _ (by omega)]; omega
                            have hn2 : ((n : Int) < (N : Int)) := by omega
                            have hn3 : n < N := by omega
                            have hne : ((N : Int) == 0) = false := beq_false_of_ne (by omega)
                            have hnz : ¬ N = 0 := by omega
                            obtain ⟨lb, hlb⟩ : ∃ lb, (since d.cache k)[n]? = some lb := ⟨_, List.getElem?_eq_getElem (by rw [HN.out]; omega)⟩
                            cases ba with
                            | true =>
                              have hva := HVA.out rfl k hlt5
                              rw [← HVX.out, List.getLastD_eq_getLast?, List.getLast?_eq_getElem?, HN.out, show N - 1 = n by omega, hlb] at hva
                              have hve : v = lb := hva
                              have hse : seq (bs v) (bs lb) = true := by rw [hve]; exact seq_refl _
                              obtain ⟨G, xv, rfl, hxc, hsl⟩ := hz3 n lb hlb
                              obtain ⟨Ax, cx, hxe, hrx⟩ := hsl
                              subst hxe
                              obtain ⟨nx, hnx⟩ : ∃ nx, lb.length = nx := ⟨_, rfl⟩
                              rw [hnx] at hxc hrx
                              have hcvX := fun q : Nat => run_conv _ Ax nx cx lb (wr.drewN q) (hrx.drewN q)
                              clear hz3 hlb hrx hnx hva hve hn
                              go_wp2_with fail
                              go_quiet (fail)
                              have HK4 := Lib.hid (HKq.out nq)
                              clear HKq HBq hz2 hy1 hcv0 hcvV
                              generalize wr.drewN nq = wn at *
                              go_wp2_with fail
                              go_roundw
                              case rel => exact ⟨k + 1, S3, x.read, by go_num, by omega, HXK.out, HXC.out, HK4.out⟩
                              case measure => simp [intOf]; omega
                            | false =>
                              clear hz3 hlb hn
                              go_wp2_with fail
                              go_quiet (fail)
                              have HK4 := Lib.hid (HKq.out nq)
                              clear HKq HBq hz2 hy1 hcv0 hcvV
                              generalize wr.drewN nq = wn at *
                              go_wp2_with fail
                              go_roundw
                              case rel => exact ⟨k + 1, S3, x.read, by go_num, by omega, HXK.out, HXC.out, HK4.out⟩
                              case measure => simp [intOf]; omega
                    · have h1d : decide ((k : Int) < 4) = false := decide_eq_false (by omega)
                      have HBe := Lib.hid hk.bl
                      clear hk hlt5 hxk hxc
                      go_wp2_with fail
                      refine (alive.out wr HBe.out).mono ?_
                      rintro e w' ⟨rfl, hb⟩
                      have HBf := Lib.hid hb
                      clear hb
                      go_wp2
                      go_ret
                      exact ⟨rfl, HBf.out⟩
end Go.Proofs.Ytjblcligkgjbjaa.diskKeeps
