/-
STAGE 12: rings, Victim.
-/
import Derived.Test.YtlblgfpafdfilaaDoorLW
namespace Go.Proofs.YtlblgfpafdfilaaDoor
open Go.RowKit Go.Sort

theorem follow_any (ls : List LK) (B : FB) : ∀ f, FollowC ls B (followM ls f)
  | 0 => fun p s s' r w ov h => by simp [followM] at h
  | f + 1 => follow_step ls B f (follow_any ls B f)
/-- what rings finds -/
structure RI (w : World) (g : Nat) (A : Option Addr) (c a8 a9 : Nat) (ls : List LK) : Prop where
  tr : TR w g A c ls
  gw : Gw w
  bv : Blk w a8 34 #[.int .u32 0]
  b9 : Blk w a9 25 #[.pointer (some ⟨g, 0, none⟩)]
  tb : ∀ b, A = some ⟨b, 0, none⟩ → ls.length = 0 ∨ b < a8
  og : g < a8
  o0 : a9 < a8
  o2 : 2 ≤ a8
/-- the four boxes ahead of the loop -/
theorem boxes4 (w : World) (v1 v2 v3 v4 : Value) (t1 t2 t3 t4 : TypeId) : ∃ W, (((w.alloc (.cells #[v1] t1)).alloc (.cells #[v2] t2)).alloc (.cells #[v3] t3)).alloc (.cells #[v4] t4) = W ∧ Below w.heap.size w W ∧
    Blk W w.heap.size t1 #[v1] ∧ Blk W (w.heap.size + 1) t2 #[v2] ∧ Blk W (w.heap.size + 1 + 1) t3 #[v3] ∧ Blk W (w.heap.size + 1 + 1 + 1) t4 #[v4] := by
  refine ⟨_, rfl, ((((Below.refl w.heap.size w).alloc (Nat.le_refl _) _).alloc (by simp) _).alloc (by simp; omega) _).alloc (by simp; omega) _, (((Blk.new w t1 #[v1]).alloc _).alloc _).alloc _, ?_, ?_, ?_⟩
  · have := ((Blk.new (w.alloc (.cells #[v1] t1)) t2 #[v2]).alloc (.cells #[v3] t3)).alloc (.cells #[v4] t4)
    rwa [World.size_alloc] at this
  · have := (Blk.new ((w.alloc (.cells #[v1] t1)).alloc (.cells #[v2] t2)) t3 #[v3]).alloc (.cells #[v4] t4)
    rwa [World.size_alloc, World.size_alloc] at this
  · have := Blk.new (((w.alloc (.cells #[v1] t1)).alloc (.cells #[v2] t2)).alloc (.cells #[v3] t3)) t4 #[v4]
    rwa [World.size_alloc, World.size_alloc, World.size_alloc] at this
set_option maxRecDepth 100000 in
set_option maxHeartbeats 4000000 in
theorem rings_any (g : Nat) (A : Option Addr) (c a8 a9 : Nat) (ls : List LK) (w : World) (h : RI w g A c a8 a9 ls) (f : Nat) (s : FSt) (hM : ringsM ls f ls.length = some s) :
    Calls Tryd.prog 36 #[.pointer (some ⟨g, 0, none⟩), .func (.func 37) #[] #[.pointer (some ⟨a8, 0, none⟩), .pointer (some ⟨a9, 0, none⟩)]] w fun e w' => e = .returned (.tuple #[]) ∧ Blk w' a8 34 #[.int .u32 (s.v : Int)] ∧ Fr w w' fun b => b = a8 := by
  obtain ⟨W, hW, hb, b4, b7, hsz⟩ := boxesPI w (.pointer (some ⟨g, 0, none⟩)) (.func (.func 37) #[] #[.pointer (some ⟨a8, 0, none⟩), .pointer (some ⟨a9, 0, none⟩)]) 25 68
  have HMM := Lib.hid hM
  have H := Lib.hid h
  have HB := Lib.hid hb
  have H4 := Lib.hid b4
  have H7 := Lib.hid b7
  have HSZ := Lib.hid hsz
  have HLA := Lib.hid (lasts_any g A c ls W (h.tr.up hb))
  have k4 := b4.cell 0
  simp only [List.getElem?_toArray, List.getElem?_cons_zero] at k4
  have HFEW := Lib.hid h.tr.few
  obtain ⟨n, hn⟩ : ∃ n, n = ls.length := ⟨_, rfl⟩
  have HN := Lib.hid hn
  rw [← hn] at HLA
  clear h hM hb b4 b7 hsz hn
  go_enter Tryd.func36, Tryd.ntmps36
  go_upto_region 1 with fail
  clear hW
  go_upto_region 2 with (go_at_call 61; with_reducible refine HLA.out.mono ?_; rintro e w1 ⟨lb, rfl, hol, hlb, hb1⟩; have HOL := Lib.hid hol; have HLB := Lib.hid hlb; have HB1 := Lib.hid hb1; clear hol hlb hb1)
  obtain ⟨w2, hw2⟩ : ∃ w2, w2 = w1.alloc (.cells #[.slice (some ⟨lb, 0, none⟩) n n] 61) := ⟨_, rfl⟩
  have hb2 : Below w1.heap.size w1 w2 := by rw [hw2]; exact (Below.refl _ _).alloc (Nat.le_refl _) _
  have h5 : Blk w2 w1.heap.size 61 #[.slice (some ⟨lb, 0, none⟩) n n] := by rw [hw2]; exact Blk.new _ _ _
  have hs2 : w2.heap.size = w1.heap.size + 1 := by rw [hw2]; simp
  have HBW2 := Lib.hid (below_trans (below_trans HB.out HB1.out) hb2)
  have k4 := (H4.out.below (below_trans HB1.out hb2) H4.out.lt).cell 0
  have c0 := (H.out.tr.blk.below HBW2.out H.out.tr.blk.lt).cell 0
  simp only [List.getElem?_toArray, List.getElem?_cons_zero] at k4 c0
  rw [← HN.out] at c0
  obtain ⟨w3, hmk, hown, hb3⟩ := make_ints w2 n (by have := HFEW.out; have := HN.out; omega)
  have HOWN := Lib.hid hown
  have HB3 := Lib.hid hb3
  have HB2 := Lib.hid hb2
  have H5 := Lib.hid h5
  have HS2 := Lib.hid hs2
  rw [← hw2]
  clear hb2 h5 hs2 hown hb3 hw2
  go_upto_region 7 with fail
  obtain ⟨BB, hBB⟩ : ∃ BB : FB, BB = ⟨g, A, c, w3.heap.size + 1 + 1, w3.heap.size + 1, w3.heap.size, w.heap.size, w1.heap.size, w3.heap.size + 1 + 1 + 1, w.heap.size + 1, a8, a9, w2.heap.size, lb⟩ := ⟨_, rfl⟩
  obtain ⟨fv, hfv⟩ : ∃ fv, fv = Value.func (.func 62) #[] BB.caps := ⟨_, rfl⟩
  obtain ⟨w4, hw4, hb4, x3, x2, x1, x6⟩ := boxes4 w3 (.slice (some ⟨w2.heap.size, 0, none⟩) n n) (.slice none 0 0) (.int .i64 0) fv 61 61 3 82
  have hz2 : w2.heap.size < w3.heap.size := HOWN.out.lt rfl
  have hzl : lb < w1.heap.size := HOL.out.lt rfl
  have hz1 := HS2.out
  have hza := H4.out.lt
  have hzb := H7.out.lt
  have hz8 := H.out.bv.lt
  have hzs := HSZ.out
  have hlb := HLB.out
  have hb24 := below_trans HB3.out hb4
  have hb14 := below_trans HB2.out hb24
  have hbW4 := below_trans HB1.out hb14
  have hbw4 := below_trans HB.out hbW4
  have hFX : FX w4 BB ls := by
    rw [hBB]
    refine ⟨by rw [← HN.out]; exact x3, H4.out.below hbW4 H4.out.lt, by rw [← HN.out]; exact (H5.out.below hb24 H5.out.lt), by rw [← HN.out]; exact HOL.out.up hb14, ?_, H7.out.below hbW4 H7.out.lt, H.out.b9.below hbw4 H.out.b9.lt, H.out.tr.up hbw4, H.out.tb, H.out.gw.below hbw4, ⟨?_, ?_, ?_, ?_, ?_, ?_, ?_, ?_, ?_, H.out.og, H.out.o0, H.out.o2⟩⟩
    · rw [hfv, hBB] at x6; exact x6
    all_goals (simp only; omega)
  have HS4 : Hid (FS w4 BB ls (.slice none 0 0) ⟨List.replicate ls.length 0, [], 0, 0⟩) := Lib.hid (by
    refine ⟨hFX, by rw [hBB]; exact x1, by rw [hBB]; exact x2, OwR.nil_ _ _ _ _, by rw [hBB, ← HN.out]; exact HOWN.out.up hb4, by rw [hBB]; exact H.out.bv.below hbw4 H.out.bv.lt, fun b e => by simp [Value.ownBlock] at e, by simp, fun x hx => by simp at hx, by simp, by simp, by simp⟩)
  have HB4 := Lib.hid hbw4
  have HBE := Lib.hid hBB
  have e8 : BB.a8 = a8 := by rw [hBB]
  have e6 : BB.a6 = w3.heap.size + 1 + 1 + 1 := by rw [hBB]
  have e3 : BB.a3 = w3.heap.size := by rw [hBB]
  have eg' : BB.g = g := by rw [hBB]
  have enb : BB.nb = w2.heap.size := by rw [hBB]
  have ea4 : BB.a4 = w.heap.size := by rw [hBB]
  have HNEW := Lib.hid (show ∀ b, (b = BB.a1 ∨ b = BB.a2 ∨ b = BB.nb ∨ b = BB.a8 ∨ (Value.slice none 0 0).ownBlock = some b) → b = a8 ∨ w.heap.size ≤ b from fun b hb => by
    rw [hBB] at hb
    simp only at hb
    rcases hb with hb | hb | hb | hb | hb
    · right; omega
    · right; omega
    · right; omega
    · exact Or.inl hb
    · simp [Value.ownBlock] at hb)
  rw [hfv, hBB] at hw4
  unfold FB.caps at hw4
  simp only at hw4
  have HE := Lib.hid (And.intro e8 (And.intro e6 (And.intro e3 (And.intro eg' (And.intro enb ea4)))))
  clear hmk hBB hfv hb4 x3 x2 x1 x6 hz2 hzl hz1 hza hzb hz8 hzs hlb hb24 hb14 hbW4 hbw4 hFX e8 e6 e3 eg' enb ea4 k4 c0
  rw [hw4]
  clear hw4
  have k4 := HS4.out.fx.bt.cell 0
  have c0 := HS4.out.fx.tr.blk.cell 0
  simp only [List.getElem?_toArray, List.getElem?_cons_zero] at k4 c0
  obtain ⟨e8, e6, e3, eg', enb, ea4⟩ := HE.out
  have eA : BB.A = A ∧ BB.c = c := by rw [HBE.out]; exact ⟨rfl, rfl⟩
  rw [ea4, eg'] at k4
  rw [eg', eA.1, eA.2, ← HN.out] at c0
  have HEA := Lib.hid eA
  clear e8 e6 e3 eg' enb ea4 eA
  have eg62 : ∀ args w, (callFunc 62 args).run Tryd.prog w = .ok (.enter 62 args) w := enters_of Tryd.func62 (by kernel_rfl) rfl
  go_wp2_with fail
  clear k4 c0
  go_loopw [25] (fun i wr => ∃ (k : Nat) (sk : FSt) (ovk : Value), k ≤ n ∧ i = .int .i64 (k : Int) ∧ ringsM ls f k = some sk ∧ FS wr BB ls ovk sk ∧ FC w4 wr BB (.slice none 0 0) ovk) (fun i _ => n - (intOf i).toNat)
  case atStart => exact ⟨0, _, _, by omega, rfl, rfl, HS4.out, FC.refl _ _ _⟩
  case round =>
    obtain ⟨k, sk, ovk, hk, rfl, hrm, hfs, hfc⟩ := hrel
    have HFS := Lib.hid hfs
    have HFC := Lib.hid hfc
    by_cases hlt : k < n
    · have hkl : k < ls.length := by have := HN.out; omega
      have hl : ls[k]? = some ls[k] := List.getElem?_eq_getElem hkl
      generalize ls[k] = q at hl
      obtain ⟨y, hy⟩ : ∃ y, ringsM ls f (k + 1) = some y := by
        have key : ∀ m, k + 1 + m ≤ ls.length → ringsM ls f (k + 1) = none → ringsM ls f (k + 1 + m) = none := by
          intro m
          induction m with
          | zero => intro _ h; exact h
          | succ m ih =>
            intro h1 h2
            rw [show k + 1 + (m + 1) = (k + 1 + m) + 1 by omega]
            unfold ringsM
            rw [ih (by omega) h2]
            rfl
        cases hc : ringsM ls f (k + 1) with
        | some y => exact ⟨y, rfl⟩
        | none =>
          have h1 := key (ls.length - (k + 1)) (by omega) hc
          rw [show k + 1 + (ls.length - (k + 1)) = ls.length by omega, HMM.out] at h1
          cases h1
      have HY := Lib.hid hy
      have hst := hy
      unfold ringsM at hst
      rw [hrm, Option.bind_some, getD_of hl] at hst
      obtain ⟨b, hA, hcs⟩ := hfs.fx.tr.row k q hl
      rw [HEA.out.1] at hA
      subst hA
      obtain ⟨z0, z1, z2, z3, z4, z5, z6⟩ := hcs
      obtain ⟨w5, hw5⟩ : ∃ w5, w5 = wr.alloc (.cells #[.int .u32 (q.t : Int), .bool q.x.r, .int .u32 (q.x.i : Int), .string q.x.a, .string q.x.b, .int .i64 q.m, .bool q.h] 46) := ⟨_, rfl⟩
      have hb5 : Below wr.heap.size wr w5 := by rw [hw5]; exact (Below.refl _ _).alloc (Nat.le_refl _) _
      have x6 : w5.cell? ⟨wr.heap.size, 6, none⟩ = some (.bool q.h) := by rw [hw5]; exact (Blk.new wr 46 _).cell 6
      have HS5 := Lib.hid (hfs.up hb5)
      have HC5 := Lib.hid (hfc.trans (FC.below BB ovk hb5))
      have t3 := HS5.out.fx.bn.cell 0
      have t6 := HS5.out.fx.bf.cell 0
      have tn := (HS5.out.setN k 0 hkl).2.1
      simp only [List.getElem?_toArray, List.getElem?_cons_zero] at t3 t6
      rw [HE.out.2.2.1, HE.out.2.2.2.2.1, ← HN.out] at t3
      rw [HE.out.2.1] at t6
      rw [HE.out.2.2.2.2.1] at tn
      obtain ⟨x, hx⟩ : ∃ x, x = sk.N.getD k 0 := ⟨_, rfl⟩
      rw [← hx] at tn hst
      obtain ⟨z, hz⟩ : ∃ z, (x == 0) = z := ⟨_, rfl⟩
      have hz2 : ((x : Int) == 0) = z := by rw [← hz]; exact nbeq x 0
      have hin : ((k : Int) < (n : Int)) := by omega
      have e1 : IntKind.i64.wrap ((k : Int) + 1) = ((k + 1 : Nat) : Int) := by rw [IntWalk.i64_in _ (by have := HFEW.out; omega)]; omega
      have HST := Lib.hid hst
      have HKL := Lib.hid hkl
      clear hfs hfc hrm hy hl hb5 hst hx hkl
      go_upto_region 10 with fail
      rw [← hw5]
      clear hw5 z0 z1 z2 z3 z4 z5 z6
      cases hh : q.h with
      | true =>
        rw [hh] at x6
        rw [if_neg (by rw [hh]; simp)] at HST
        clear hh
        go_wp2_with fail
        go_roundw
        case rel => exact ⟨k + 1, sk, ovk, by omega, by go_num, by rw [HY.out]; exact HST.out.symm, HS5.out, HC5.out⟩
        case measure => simp [intOf]; omega
      | false =>
        rw [hh] at x6
        cases z with
        | false =>
          rw [if_neg (by rw [hh]; simp; simpa using hz)] at HST
          clear hh hz
          go_wp2_with fail
          go_roundw
          case rel => exact ⟨k + 1, sk, ovk, by omega, by go_num, by rw [HY.out]; exact HST.out.symm, HS5.out, HC5.out⟩
          case measure => simp [intOf]; omega
        | true =>
          rw [if_pos ⟨hh, by simpa using hz⟩] at HST
          obtain ⟨s2, r2, hgo⟩ : ∃ s2 r2, followM ls f k sk = some (s2, r2) := by
            cases hc : followM ls f k sk with
            | some y => exact ⟨y.1, y.2, rfl⟩
            | none => have := HST.out; rw [hc] at this; cases this
          have HREC := Lib.hid (follow_any ls BB f k sk s2 r2 w5 ovk hgo HS5.out HKL.out)
          have HST2 := Lib.hid (show y = s2 by have := HST.out; rw [hgo] at this; exact (Option.some.inj this).symm)
          clear hh hz hgo HST
          go_wp2_with fail
          with_reducible refine HREC.out.mono ?_
          rintro e w6 ⟨rfl, ov6, hs6, hc6⟩
          have HS6 := Lib.hid hs6
          have HC6 := Lib.hid (HC5.out.trans hc6)
          clear hs6 hc6
          go_wp2_with fail
          go_roundw
          case rel => exact ⟨k + 1, s2, ov6, by omega, by go_num, by rw [HY.out, HST2.out], HS6.out, HC6.out⟩
          case measure => simp [intOf]; omega
    · obtain rfl : k = n := by omega
      have hin : ¬ ((k : Int) < (k : Int)) := by omega
      have hse : sk = s := by
        have h1 := HMM.out
        rw [← HN.out, hrm] at h1
        exact Option.some.inj h1
      subst hse
      clear hfs hfc hrm
      go_wp2_with fail
      go_end0
      refine ⟨rfl, by have := HFS.out.bv; rw [HE.out.1] at this; exact this, (Fr.of_below HB4.out (fun b => b = a8)).trans HFC.out.fr fun b hb => HNEW.out b hb⟩
end Go.Proofs.YtlblgfpafdfilaaDoor
