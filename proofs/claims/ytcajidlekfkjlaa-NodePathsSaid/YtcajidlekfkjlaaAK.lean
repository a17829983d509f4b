/-
STAGE 8: the law's copied. STAGE 8: the law's long. STAGE 8: the law's images, alike.
-/
import Derived.Test.YtcajidlekfkjlaaAH
namespace Go.Proofs.Ytcajidlekfkjlaa
open Go.RowKit

set_option maxHeartbeats 2000000 in
set_option maxRecDepth 100000 in
theorem copied_any (t : TV) (w : World) {S : Nat → Prop} (h : t.In w S) (hf : ∀ x ∈ t.l, Few x.p) (hn : t.n ≤ 1000) :
    Calls Try.prog 7 #[t.agg] w fun e w' => ∃ (u : TV) (T : Nat → Prop), e = .returned u.agg ∧ u.In w' T ∧ EqT u t ∧ u.n = t.n ∧ (∀ b, T b → w.heap.size ≤ b) ∧ Below w.heap.size w w' := by
  have HE := Lib.hid (show (⟨none, 0, 0, [], t.bad, t.err⟩ : TV).In w No from ⟨⟨rfl, by simp, by simp, fun h => absurd h (by simp)⟩, h.bad, Nat.le_refl _, fun _ => rfl, h.e1, h.e2⟩)
  have HC := Lib.hid (fun (W : World) (hW : Below w.heap.size w W) => with_any ⟨none, 0, 0, [], t.bad, t.err⟩ t.A t.n t.c t.l W (HE.out.below hW) (h.r.keep (Fr.of_below hW No) fun _ _ hn => hn) hf hn (by simp))
  unfold TV.agg at HC
  dsimp only at HC
  rw [show t.agg = .agg #[.slice t.A t.n t.c, .int .u32 (t.bad : Int), .int .i64 t.err] from rfl]
  have hb0 : Below w.heap.size w ((w.alloc (.cells #[.slice t.A t.n t.c, .int .u32 (t.bad : Int), .int .i64 t.err] 26)).alloc (.cells #[.slice none 0 0, .int .u32 0, .int .i64 0] 26)) := ((Below.refl _ _).alloc (Nat.le_refl _) _).alloc (by simp) _
  have HB0 := Lib.hid hb0
  have hk1 := Blk.new (w.alloc (.cells #[.slice t.A t.n t.c, .int .u32 (t.bad : Int), .int .i64 t.err] 26)) 26 #[.slice none 0 0, .int .u32 0, .int .i64 0]
  rw [World.size_alloc] at hk1
  have HK1 := Lib.hid hk1
  clear HE h hf hb0 hk1
  go_enter Try.func7, Try.ntmps7
  go_wp2_with fail
  refine (HC.out _ HB0.out).mono ?_
  rintro e w1 ⟨u, T, rfl, hu, ⟨l', hl, he⟩, hT, hun, hub, hue, hb1⟩
  have HB1 := Lib.hid (HB0.out.trans (hb1.mono HB0.out.size))
  have HK2 := Lib.hid (HK1.out.below hb1 HK1.out.lt)
  have HU := Lib.hid hu
  have HEQ : Hid (EqT u t) := Lib.hid ⟨by rw [hl, List.append_nil]; exact he, hub, hue⟩
  have HUN := Lib.hid hun
  have HTT : Hid (∀ b, T b → w.heap.size + 2 ≤ b) := Lib.hid fun b hb => by
    rcases hT b hb with h | h
    · simpa using h
    · exact h.1.elim
  clear hu he hl hT hun hub hue hb1
  go_wp2_with (refine wpList_stB rfl 26 (.tmp 2) (.tmp 10) rfl (w.heap.size + 1) #[.slice u.A u.n u.c, .int .u32 (u.bad : Int), .int .i64 u.err] rfl rfl 26 #[.slice none 0 0, .int .u32 0, .int .i64 0] HK2.out size26 rfl rfl ?_; intro w6 hz6 hf6; have HZ6 := Lib.hid hz6; have HF6 := Lib.hid hf6; clear hz6 hf6)
  refine bodyPost_ret (results_cell_row Try.results7 _ _ (w.heap.size + 1) 26 _ (0, 0) _ rfl HZ6.out Try.underlying26 rfl size26) rfl ?_
  refine ⟨u, T, rfl, HU.out.keep HF6.out (fun b hb h => by have := HTT.out b hb; omega), HEQ.out, by have := HUN.out; simpa using this, fun b hb => by have := HTT.out b hb; omega, HB1.out.trans (HF6.out.below (fun b e => by omega) HB1.out.size)⟩
end Go.Proofs.Ytcajidlekfkjlaa
namespace Go.Proofs.Ytcajidlekfkjlaa
open Go.RowKit

/-- not more than the law goes through -/
structure SmallP (p : PV) : Prop where
  n : p.n ≤ 300
  m : ∀ c ∈ p.l, c.m ≤ 1000
structure SmallT (t : TV) : Prop where
  n : t.n ≤ 300
  p : ∀ x ∈ t.l, SmallP x.p
theorem SmallP.few {p : PV} (h : SmallP p) : Few p := ⟨Nat.le_trans h.n (by decide), fun c hc => Nat.le_trans (h.m c hc) (by decide)⟩
theorem mem_take_s {α : Type} {l : List α} {k : Nat} {x : α} (hx : l[k]? = some x) {P : α → Prop} (h : ∀ y ∈ l.take k, P y) (hp : P x) : ∀ y ∈ l.take (k + 1), P y := by
  intro y hy
  obtain ⟨hl, e⟩ := List.getElem?_eq_some_iff.1 hx
  rw [List.take_succ_eq_append_getElem hl, e] at hy
  rcases List.mem_append.1 hy with hy | hy
  · exact h y hy
  · simp at hy; subst hy; exact hp
set_option maxHeartbeats 4000000 in
set_option maxRecDepth 100000 in
theorem long_any (t : TV) (w : World) {S : Nat → Prop} (h : t.In w S) :
    Calls Try.prog 5 #[t.agg] w fun e w' => ∃ b, e = .returned (.bool b) ∧ (b = false → SmallT t) ∧ Below w.heap.size w w' := by
  have hr := h.r
  have hlen := hr.1
  have hmx := hr.2.2.1
  obtain ⟨A, n, c, l, bad, err⟩ := t
  dsimp only at hr hlen hmx
  unfold TV.agg
  dsimp only
  obtain ⟨W, hW⟩ : ∃ W, W = w.alloc (.cells #[.slice A n c, .int .u32 (bad : Int), .int .i64 err] 26) := ⟨_, rfl⟩
  have hb : Below w.heap.size w W := by rw [hW]; exact (Below.refl _ _).alloc (Nat.le_refl _) _
  have bk : Blk W w.heap.size 26 #[.slice A n c, .int .u32 (bad : Int), .int .i64 err] := by rw [hW]; exact Blk.new w 26 _
  have HR := Lib.hid (hr.keep (Fr.of_below hb No) fun _ _ hn => hn)
  have HLEN := Lib.hid hlen
  have HBW := Lib.hid hb
  have y0 := bk.cell 0
  simp only [List.getElem?_toArray, List.getElem?_cons_zero] at y0
  clear h hr hlen hb bk
  go_enter Try.func5, Try.ntmps5
  go_upto_region 1 with fail
  rw [← hW]
  clear hW
  go_wp2_with fail
  go_loopw [3] (fun v wr => ∃ k : Nat, k ≤ n ∧ k ≤ 301 ∧ v = .int .i64 (k : Int) ∧ (∀ x ∈ l.take k, SmallP x.p) ∧ wr = W) (fun v _ => 302 - (intOf v).toNat)
  case atStart => exact ⟨0, by omega, by omega, rfl, by simp, rfl⟩
  case round =>
    obtain ⟨k, hk, hk3, rfl, hs, hww⟩ := hrel
    subst hww
    have HS := Lib.hid hs
    clear hs
    by_cases hlt : k < n
    · have d1 : decide ((k : Int) < (n : Int)) = true := decide_eq_true (by omega)
      by_cases h3 : k ≤ 300
      · have d2 : decide ((k : Int) ≤ 300) = true := decide_eq_true (by omega)
        obtain ⟨g, o, x, hA, hgl, _, hx, hxi, c0, c1, c2, c3, c4⟩ := HR.out.at_ hlt
        subst hA
        have hws : IntKind.i64.wrap ((k : Int) + 1) = ((k + 1 : Nat) : Int) := by rw [IntWalk.i64_in _ (by omega)]; omega
        have hws' : IntKind.i64.wrap ((k : Int) + 1) = (k : Int) + 1 := IntWalk.i64_in _ (by omega)
        have HXP := Lib.hid hxi.p.r
        have HX := Lib.hid hx
        have hxn := hxi.p.r.2.2.1
        have hpl := hxi.p.r.1
        have HPL := Lib.hid hpl
        obtain ⟨xt, xk, xs, xx, xA, xn, xc, xl⟩ := x
        dsimp only at c0 c1 c2 c3 c4 HXP hxn HPL
        clear hxi hx hpl
        by_cases h5 : xn ≤ 300
        · have d5 : decide ((xn : Int) > 300) = false := decide_eq_false (by omega)
          go_wp2_with fail
          go_loopw [5] (fun v wq => ∃ j : Nat, j ≤ xn ∧ v = .int .i64 (j : Int) ∧ (∀ y ∈ xl.take j, y.m ≤ 1000) ∧ wq = wr) (fun v _ => xn - (intOf v).toNat)
          case atStart => exact ⟨0, by omega, rfl, by simp, rfl⟩
          case round =>
            obtain ⟨j, hj, rfl, hm, hww⟩ := hrel
            subst hww
            have HM := Lib.hid hm
            clear hm
            by_cases hjl : j < xn
            · have d6 : decide ((j : Int) < (xn : Int)) = true := decide_eq_true (by omega)
              obtain ⟨g2, o2, cx, hxA, hg2, _, hcx, hci, b0, b1, b2⟩ := HXP.out.at_ hjl
              subst hxA
              have hwj : IntKind.i64.wrap ((j : Int) + 1) = ((j + 1 : Nat) : Int) := by rw [IntWalk.i64_in _ (by omega)]; omega
              have hwj' : IntKind.i64.wrap ((j : Int) + 1) = (j : Int) + 1 := IntWalk.i64_in _ (by omega)
              have HCX := Lib.hid hcx
              clear hcx hci
              by_cases h10 : cx.m ≤ 1000
              · have d7 : decide ((cx.m : Int) > 1000) = false := decide_eq_false (by omega)
                have HM2 : Hid (∀ y ∈ xl.take (j + 1), y.m ≤ 1000) := Lib.hid (mem_take_s HCX.out HM.out h10)
                go_wp2_with fail
                go_round
                case rel => exact ⟨j + 1, by omega, by go_num, HM2.out, by first | rfl | trivial⟩
                case measure => simp [intOf]; omega
              · have d7 : decide ((cx.m : Int) > 1000) = true := decide_eq_true (by omega)
                go_wp2_with fail
                go_ret
                exact ⟨true, rfl, (fun h => by cases h), HBW.out⟩
            · obtain rfl : j = xn := by omega
              have HS2 : Hid (∀ x ∈ l.take (k + 1), SmallP x.p) := Lib.hid (mem_take_s HX.out HS.out ⟨h5, fun c hc => HM.out c (by rw [List.take_of_length_le (by have := HPL.out; omega)]; exact hc)⟩)
              go_wp2_with fail
              go_round
              case rel => exact ⟨k + 1, by omega, by omega, by go_num, HS2.out, by first | rfl | trivial⟩
              case measure => simp [intOf]; omega
        · have d5 : decide ((xn : Int) > 300) = true := decide_eq_true (by omega)
          go_wp2_with fail
          go_ret
          exact ⟨true, rfl, (fun h => by cases h), HBW.out⟩
      · have d2 : decide ((k : Int) ≤ 300) = false := decide_eq_false (by omega)
        have d3 : decide ((n : Int) > 300) = true := decide_eq_true (by omega)
        go_wp2_with fail
        go_ret
        exact ⟨true, rfl, (fun h => by cases h), HBW.out⟩
    · obtain rfl : k = n := by omega
      have HS2 : Hid (∀ x ∈ l, SmallP x.p) := Lib.hid fun x hx => HS.out x (by rw [List.take_of_length_le (by rw [HLEN.out]; exact Nat.le_refl _)]; exact hx)
      go_wp2_with fail
      go_ret
      refine ⟨_, rfl, fun h => ⟨?_, HS2.out⟩, HBW.out⟩
      have := of_decide_eq_false h
      show k ≤ 300
      omega
end Go.Proofs.Ytcajidlekfkjlaa
namespace Go.Proofs.Ytcajidlekfkjlaa
open Go.RowKit

set_option maxHeartbeats 4000000 in
set_option maxRecDepth 100000 in
theorem images_true (A B : Option Addr) (n c m cb : Nat) (l k : List IV) (w : World) {S T : Nat → Prop} (h : IVR w S A n l) (h' : IVR w T B m k) (he : EqL l k) (hn : n ≤ 1000000) :
    Calls Try.prog 33 #[.slice A n c, .slice B m cb] w fun e w' => e = .returned (.bool true) ∧ Below w.heap.size w w' := by
  have hl := he.len
  have hnl := h.1
  have hmk := h'.1
  obtain rfl : n = m := by omega
  have HA := Lib.hid h
  have HB := Lib.hid h'
  have HE := Lib.hid he
  clear h h' he hl hnl hmk
  go_enter Try.func33, Try.ntmps33
  go_wp2_with fail
  go_loopw [5] (fun v wr => ∃ q : Nat, q ≤ n ∧ v = .int .i64 (q : Int) ∧ Below w.heap.size w wr) (fun v _ => n - (intOf v).toNat)
  case atStart => exact ⟨0, by omega, rfl, Below.refl _ _⟩
  case round =>
    obtain ⟨q, hq, rfl, hb⟩ := hrel
    have HBW := Lib.hid hb
    by_cases hlt : q < n
    · obtain ⟨g, o, x, hxA, hg, _, hx, hxi, c0, c1, c2, c3, c4⟩ := (HA.out.keep (Fr.of_below hb No) fun _ _ hn => hn).at_ hlt
      obtain ⟨g', o', y, hyA, hg', _, hy, hyi, d0, d1, d2, d3, d4⟩ := (HB.out.keep (Fr.of_below hb No) fun _ _ hn => hn).at_ hlt
      subst hxA hyA
      obtain ⟨ht, hp⟩ := HE.out.at_ hx hy
      have hws : IntKind.i64.wrap ((q : Int) + 1) = ((q + 1 : Nat) : Int) := by rw [IntWalk.i64_in _ (by omega)]; omega
      have hws' : IntKind.i64.wrap ((q : Int) + 1) = (q : Int) + 1 := IntWalk.i64_in _ (by omega)
      have e1 : decide ((q : Int) < (n : Int)) = true := decide_eq_true (by omega)
      have HSM := Lib.hid (fun (W : World) (hW : Below wr.heap.size wr W) => hp.same ▸ same_any x.p y.p W (hxi.p.keep (Fr.of_below hW No) (fun _ _ hn => hn) (fun _ _ hn => hn)).all (hyi.p.keep (Fr.of_below hW No) (fun _ _ hn => hn) (fun _ _ hn => hn)).all)
      obtain ⟨xt, xk, xs, xx, xA, xn, xc, xl⟩ := x
      obtain ⟨yt, yk, ys, yx, yA, yn, yc, yl⟩ := y
      dsimp only at c0 c1 c2 c3 c4 d0 d1 d2 d3 d4 ht HSM
      subst ht
      have e2 : ((xt : Int) != (xt : Int)) = false := by simp
      unfold PV.agg at HSM
      dsimp only at HSM
      have HLT := Lib.hid hlt
      clear hx hy hxi hyi hp hb hlt
      go_upto_region 6 with fail
      have z0 := fun d os => cell_regrown c0 d os
      have z1 := fun d os => cell_regrown c1 d os
      have z2 := fun d os => cell_regrown c2 d os
      have z3 := fun d os => cell_regrown c3 d os
      have z4 := fun d os => cell_regrown c4 d os
      have y0 := fun d os => cell_regrown d0 d os
      have y1 := fun d os => cell_regrown d1 d os
      have y2 := fun d os => cell_regrown d2 d os
      have y3 := fun d os => cell_regrown d3 d os
      have y4 := fun d os => cell_regrown d4 d os
      clear c0 c1 c2 c3 c4 d0 d1 d2 d3 d4
      refine wp_region_quiet_below (by kernel_rfl) (by kernel_rfl) ?_
      repeat (go_big_quiet_step (first | (go_at_call 54; with_reducible exact Calls.regrown_of (HSM.out _ (below_regrown _ _ _)))))
      refine wpQuiet_nil ?_
      rintro W3 ⟨pp, hpp⟩
      have HB3 := Lib.hid (show Below wr.heap.size wr W3 by rw [hpp]; exact below_regrown _ _ _)
      clear hpp
      have HLL := HLT.out
      go_wp2_with fail
      go_round
      case rel => exact ⟨q + 1, by have := HLT.out; omega, by go_num, HBW.out.trans (HB3.out.mono HBW.out.size)⟩
      case measure => simp [intOf]; have := HLT.out; omega
    · obtain rfl : q = n := by omega
      go_wp2_with fail
      go_ret
      exact ⟨rfl, HBW.out⟩
set_option maxHeartbeats 2000000 in
set_option maxRecDepth 100000 in
theorem alike_true (t u : TV) (w : World) {S T : Nat → Prop} (h : t.In w S) (h' : u.In w T) (he : EqT t u) (hn : t.n ≤ 1000000) :
    Calls Try.prog 14 #[t.agg, u.agg] w fun e w' => e = .returned (.bool true) ∧ Below w.heap.size w w' := by
  have HI := Lib.hid (fun (W : World) (hW : Below w.heap.size w W) => images_true t.A u.A t.n t.c u.n u.c t.l u.l W (h.r.keep (Fr.of_below hW No) fun _ _ hn => hn) (h'.r.keep (Fr.of_below hW No) fun _ _ hn => hn) he.l hn)
  have hb := he.b
  have hee := he.e
  obtain ⟨A, n, c, l, bad, err⟩ := t
  obtain ⟨B, m, cb, k, bad', err'⟩ := u
  dsimp only at HI hb hee
  subst hb hee
  unfold TV.agg
  dsimp only
  have hb0 : Below w.heap.size w ((w.alloc (.cells #[.slice A n c, .int .u32 (bad : Int), .int .i64 err] 26)).alloc (.cells #[.slice B m cb, .int .u32 (bad : Int), .int .i64 err] 26)) := ((Below.refl _ _).alloc (Nat.le_refl _) _).alloc (by simp) _
  have HB0 := Lib.hid hb0
  have k0 := (Blk.new w 26 #[.slice A n c, .int .u32 (bad : Int), .int .i64 err]).alloc (.cells #[.slice B m cb, .int .u32 (bad : Int), .int .i64 err] 26)
  have k1 := Blk.new (w.alloc (.cells #[.slice A n c, .int .u32 (bad : Int), .int .i64 err] 26)) 26 #[.slice B m cb, .int .u32 (bad : Int), .int .i64 err]
  rw [World.size_alloc] at k1
  have HK0 := Lib.hid k0
  have HK1 := Lib.hid k1
  have d1 : ((bad : Int) == (bad : Int)) = true := by simp
  have d2 : (err == err) = true := by simp
  clear h h' he hb0 k0 k1
  go_enter Try.func14, Try.ntmps14
  go_wp2_with fail
  refine (HI.out _ HB0.out).mono ?_
  rintro e w1 ⟨rfl, hb1⟩
  have HB1 := Lib.hid (HB0.out.trans (hb1.mono HB0.out.size))
  have j0 := HK0.out.below hb1 HK0.out.lt
  have j1 := HK1.out.below hb1 HK1.out.lt
  have x0 := j0.cell 0
  have x1 := j0.cell 1
  have x2 := j0.cell 2
  have y0 := j1.cell 0
  have y1 := j1.cell 1
  have y2 := j1.cell 2
  simp only [List.getElem?_toArray, List.getElem?_cons_zero, List.getElem?_cons_succ] at x0 x1 x2 y0 y1 y2
  clear hb1 j0 j1
  go_wp2_with fail
  go_ret
  exact ⟨rfl, HB1.out⟩
end Go.Proofs.Ytcajidlekfkjlaa
