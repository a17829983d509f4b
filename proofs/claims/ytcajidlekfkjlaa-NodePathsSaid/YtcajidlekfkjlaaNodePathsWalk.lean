/-
NodePaths: THE LAW's WALK.
-/
import Derived.Test.YtcajidlekfkjlaaAK
import Derived.Test.YtcajidlekfkjlaaNZ
namespace Go.Proofs.Ytcajidlekfkjlaa
open Go.RowKit

def skA : Except Int (Nat × Nat) → Nat
  | .ok q => q.1
  | .error _ => 0
def skB : Except Int (Nat × Nat) → Nat
  | .ok q => q.2
  | .error _ => 0
def skC : Except Int (Nat × Nat) → Int
  | .ok _ => 0
  | .error c => c
theorem SeekP.is {w w' : World} {R : Except Int (Nat × Nat)} {e : Ending} (h : SeekP w R e w') : e = .returned (.tuple #[.int .u32 (skA R : Int), .int .i64 (skB R : Int), .int .i64 (skC R)]) ∧ Below w.heap.size w w' := by
  cases R with
  | ok q => exact h
  | error c => exact h
theorem pathM_len (G : Option TV) (x : List Nat) (n : Nat) : (lstR (pathM G x n)).length ≤ 8 := by
  unfold pathM
  split
  · cases hw : wayM G x 8 n with
    | error c => simp [Except.map, lstR]
    | ok r => simpa [Except.map, lstR, nos] using (wayM_len 8 n r hw).1
  · simp [lstR]
theorem EqP.few {p q : PV} {w w' : World} {S T S' T' : Nat → Prop} (h : EqP p q) (hp : p.In w S T) (hq : q.In w' S' T') (hs : SmallP q) : Few p := by
  refine ⟨by rw [h.n]; exact Nat.le_trans hs.n (by decide), fun c hc => ?_⟩
  have hm : c.e ∈ q.l.map CV.e := by
    have : c.e ∈ p.es := List.mem_map_of_mem hc
    rw [h.e] at this
    exact this
  obtain ⟨c', hc', e⟩ := List.mem_map.1 hm
  have e1 := (hp.r.2.1 c hc).len
  have e2 := (hq.r.2.1 c' hc').len
  have e3 : c'.d = c.d := congrArg CE.d e
  have := hs.m c' hc'
  rw [e3] at e2
  omega
theorem EqL.symm {l m : List IV} (h : EqL l m) : EqL m l := by
  induction h with
  | nil => exact EqL.nil
  | cons ht hp _ ih => exact EqL.cons ht.symm hp.symm ih
set_option maxHeartbeats 8000000 in
set_option maxRecDepth 100000 in
theorem nodePaths_walk (t : TV) (n : Nat) (hn : n < 4294967296) (s : ByteArray) (hs : s.size ≤ 9223372036854775807) (w : World) (h : t.In w All) :
    Calls Try.prog 3 #[t.agg, .int .u32 (n : Int), .string s] w fun e w' => e = .returned (.bool true) ∧ Below w.heap.size w w' := by
  have HL := Lib.hid (fun (W : World) (hW : Below w.heap.size w W) => long_any t W (h.below hW))
  have HA := Lib.hid alive_any
  unfold TV.agg at HL ⊢
  have k0 := Blk.new w 26 #[.slice t.A t.n t.c, .int .u32 (t.bad : Int), .int .i64 t.err]
  have HK0 := Lib.hid k0
  have HB0 := Lib.hid ((Below.refl w.heap.size w).alloc (Nat.le_refl _) (.cells #[.slice t.A t.n t.c, .int .u32 (t.bad : Int), .int .i64 t.err] 26))
  have HT := Lib.hid h
  clear h k0
  go_enter Try.func3, Try.ntmps3
  go_wp2_with fail
  refine (HL.out _ HB0.out).mono ?_
  rintro e w1 ⟨b, rfl, hb, hb1⟩
  have HB1 := Lib.hid (HB0.out.trans (hb1.mono HB0.out.size))
  have HSM := Lib.hid hb
  have HK1 := Lib.hid (HK0.out.below hb1 HK0.out.lt)
  clear hb hb1
  cases b with
  | true =>
    go_wp2_with fail
    refine (HA.out _).mono ?_
    rintro e w2 ⟨rfl, hb2⟩
    have HBX := Lib.hid (HB1.out.trans (hb2.mono HB1.out.size))
    clear hb2
    go_wp2_with fail
    go_ret
    exact ⟨rfl, HBX.out⟩
  | false =>
    by_cases h10 : s.size ≤ 1000
    · have d1 : decide ((s.size : Int) > 1000) = false := decide_eq_false (by omega)
      have hst := HSM.out rfl
      have hfw : ∀ x ∈ t.l, Few x.p := fun x hx => (hst.p x hx).few
      have hll : t.l.length ≤ 300 := by rw [HT.out.r.1]; exact hst.n
      have hxs : strOf (bs s) = s := strOf_bs s
      have hxl : (bs s).length ≤ 1000 := by rw [bs_len]; exact h10
      have hxb : ∀ y ∈ bs s, y < 256 := bs_lt s
      obtain ⟨x, hx⟩ : ∃ x, x = bs s := ⟨_, rfl⟩
      rw [← hx] at hxs hxl hxb
      have HCP := Lib.hid (fun (W : World) (hW : Below w.heap.size w W) => copied_any t W (HT.out.below hW) hfw (by have := hst.n; omega))
      have HGT : Hid (∀ W, Below w.heap.size w W → GIn W All (some t)) := Lib.hid fun W hW t' e => by cases e; exact ⟨HT.out.below hW, hfw⟩
      have HP := Lib.hid (fun (W : World) (hW : Below w.heap.size w W) => path_any (some t) n x hxb hn W All (HGT.out W hW) (childAll_any (HGT.out W hW) x))
      have HS := Lib.hid (fun (W : World) (hW : Below w.heap.size w W) => (Seek_any (some t) n x hxb hn W All (HGT.out W hW) (childAll_any (HGT.out W hW) x)).mono fun _ _ h => h.is)
      have HLL := Lib.hid hll
      have HST := Lib.hid hst
      have HFW := Lib.hid hfw
      have HXL := Lib.hid hxl
      rw [hxs, gV_some] at HP HS
      unfold TV.agg at HCP HP HS
      have HXS := Lib.hid hxs
      have y0 := HK1.out.cell 0
      have y1 := HK1.out.cell 1
      have y2 := HK1.out.cell 2
      simp only [List.getElem?_toArray, List.getElem?_cons_zero, List.getElem?_cons_succ] at y0 y1 y2
      clear h10 hst hfw hll hxl hxb hx hxs
      go_upto_region 4 with fail
      refine (HCP.out _ HB1.out).mono ?_
      rintro e w2 ⟨u, T, rfl, hu, heq, hun, hT, hb2⟩
      have HB2 := Lib.hid (HB1.out.trans (hb2.mono HB1.out.size))
      have HK2 := Lib.hid (HK1.out.below hb2 HK1.out.lt)
      have HU := Lib.hid hu
      have HEQ := Lib.hid heq
      have HUN := Lib.hid hun
      clear hu heq hun hT hb2 y0 y1 y2
      go_upto_region 4 with fail
      obtain ⟨w3, hw3⟩ : ∃ W, W = w2.alloc (.cells #[.slice u.A u.n u.c, .int .u32 (u.bad : Int), .int .i64 u.err] 26) := ⟨_, rfl⟩
      have hb3 : Below w2.heap.size w2 w3 := by rw [hw3]; exact (Below.refl _ _).alloc (Nat.le_refl _) _
      have bu3 : Blk w3 w2.heap.size 26 #[.slice u.A u.n u.c, .int .u32 (u.bad : Int), .int .i64 u.err] := by rw [hw3]; exact Blk.new w2 26 _
      rw [← hw3]
      have HB3 := Lib.hid (HB2.out.trans (hb3.mono HB2.out.size))
      have HK3 := Lib.hid (HK2.out.below hb3 HK2.out.lt)
      have HU3 := Lib.hid (HU.out.below hb3)
      have HBU := Lib.hid bu3
      have hfu : ∀ x ∈ u.l, Few x.p := by
        intro y hy
        obtain ⟨i, hi⟩ := List.getElem?_of_mem hy
        have hil : i < u.l.length := (List.getElem?_eq_some_iff.1 hi).1
        have hit : i < t.l.length := by rw [← HEQ.out.l.len]; exact hil
        obtain ⟨_, hp⟩ := HEQ.out.l.at_ hi (List.getElem?_eq_getElem hit)
        have hsm := HST.out.p _ (List.getElem_mem hit)
        exact hp.few (HU.out.r.2.1 y hy).p (HT.out.r.2.1 _ (List.getElem_mem hit)).p hsm
      have HFU := Lib.hid hfu
      have HRP := Lib.hid (fun (W : World) (hW : Below w3.heap.size w3 W) => rPath_any u n x (by have := HXL.out; omega) W hn (HU3.out.below hW) HFU.out)
      have HRS := Lib.hid (fun (W : World) (hW : Below w3.heap.size w3 W) => (rSeek_any u n x W hn (HU3.out.below hW) HFU.out).mono fun _ _ h => h.is)
      have hpt : pathM (some u) x n = pathM (some t) x n := HEQ.out.path x n
      have hsk : seekM (some t) x n = rseekM u x n := by
        have h1 : EqT t u := ⟨HEQ.out.l.symm, HEQ.out.b.symm, HEQ.out.e.symm⟩
        exact h1.seek HLL.out x n
      rw [hpt] at HRP
      rw [hsk] at HS
      rw [HXS.out] at HRP HRS
      unfold TV.agg at HRP HRS
      obtain ⟨R, hR⟩ : ∃ R, R = pathM (some t) x n := ⟨_, rfl⟩
      have h8 := pathM_len (some t) x n
      rw [← hR] at HP HRP h8
      obtain ⟨ka, hka⟩ : ∃ k, k = skA (rseekM u x n) := ⟨_, rfl⟩
      obtain ⟨kb, hkb⟩ : ∃ k, k = skB (rseekM u x n) := ⟨_, rfl⟩
      obtain ⟨kc, hkc⟩ : ∃ k, k = skC (rseekM u x n) := ⟨_, rfl⟩
      rw [← hka, ← hkb, ← hkc] at HS HRS
      clear hpt hsk hfu hw3 hb3 bu3 hR hka hkb hkc
      unfold PathP at HP HRP
      obtain ⟨cd, hcd⟩ : ∃ c, c = codeR R := ⟨_, rfl⟩
      obtain ⟨lr, hlr⟩ : ∃ l, l = lstR R := ⟨_, rfl⟩
      rw [← hcd, ← hlr] at HP HRP
      obtain ⟨ln, hln⟩ : ∃ n, n = lr.length := ⟨_, rfl⟩
      rw [← hln] at HP HRP
      rw [← hlr, ← hln] at h8
      have HLN : Hid (ln ≤ 1000000) := Lib.hid (by omega)
      clear hcd hlr hln h8
      have HC_w3 := Lib.hid (Below.refl w3.heap.size w3)
      have hk_w3 := HK3.out.below HC_w3.out HK3.out.lt
      have hu_w3 := HBU.out.below HC_w3.out HBU.out.lt
      have y0 := hk_w3.cell 0
      have y1 := hk_w3.cell 1
      have y2 := hk_w3.cell 2
      have z0 := hu_w3.cell 0
      have z1 := hu_w3.cell 1
      have z2 := hu_w3.cell 2
      simp only [List.getElem?_toArray, List.getElem?_cons_zero, List.getElem?_cons_succ] at y0 y1 y2 z0 z1 z2
      clear hk_w3 hu_w3
      go_wp2_with fail
      refine (HP.out w3 HB3.out).mono ?_
      rintro e w4 ⟨v4, rfl, hv4, hb4⟩
      have HC_w4 : Hid (Below w3.heap.size w3 w4) := Lib.hid ⟨hb4.os, hb4.tape, hb4.output, hb4.size, hb4.block⟩
      obtain ⟨A4, c4, rfl, _, _, hn4⟩ := hv4.reads
      have HN4 := Lib.hid (hn4.mono (T := All) fun _ _ _ => trivial)
      clear hv4 hb4 hn4
      clear y0 y1 y2 z0 z1 z2
      have hk_w4 := HK3.out.below HC_w4.out HK3.out.lt
      have hu_w4 := HBU.out.below HC_w4.out HBU.out.lt
      have y0 := hk_w4.cell 0
      have y1 := hk_w4.cell 1
      have y2 := hk_w4.cell 2
      have z0 := hu_w4.cell 0
      have z1 := hu_w4.cell 1
      have z2 := hu_w4.cell 2
      simp only [List.getElem?_toArray, List.getElem?_cons_zero, List.getElem?_cons_succ] at y0 y1 y2 z0 z1 z2
      clear hk_w4 hu_w4
      go_wp2_with fail
      refine (HRP.out w4 HC_w4.out).mono ?_
      rintro e w5 ⟨v5, rfl, hv5, hb5⟩
      have HC_w5 := Lib.hid (HC_w4.out.trans (hb5.mono HC_w4.out.size))
      obtain ⟨A5, c5, rfl, _, _, hn5⟩ := hv5.reads
      have HN5 := Lib.hid (hn5.mono (T := All) fun _ _ _ => trivial)
      have HM4 := Lib.hid (HN4.out.keep (Fr.of_below hb5 No) fun _ _ hn => hn)
      clear hv5 hb5 hn5
      clear y0 y1 y2 z0 z1 z2
      have hk_w5 := HK3.out.below HC_w5.out HK3.out.lt
      have hu_w5 := HBU.out.below HC_w5.out HBU.out.lt
      have y0 := hk_w5.cell 0
      have y1 := hk_w5.cell 1
      have y2 := hk_w5.cell 2
      have z0 := hu_w5.cell 0
      have z1 := hu_w5.cell 1
      have z2 := hu_w5.cell 2
      simp only [List.getElem?_toArray, List.getElem?_cons_zero, List.getElem?_cons_succ] at y0 y1 y2 z0 z1 z2
      clear hk_w5 hu_w5
      go_wp2_with fail
      refine (HS.out w5 (HB3.out.trans (HC_w5.out.mono HB3.out.size))).mono ?_
      rintro e w6 ⟨rfl, hb6⟩
      have HC_w6 := Lib.hid (HC_w5.out.trans (hb6.mono HC_w5.out.size))
      have HM5 := Lib.hid (HN5.out.keep (Fr.of_below hb6 No) fun _ _ hn => hn)
      have HL4 := Lib.hid (HM4.out.keep (Fr.of_below hb6 No) fun _ _ hn => hn)
      clear hb6
      clear y0 y1 y2 z0 z1 z2
      have hk_w6 := HK3.out.below HC_w6.out HK3.out.lt
      have hu_w6 := HBU.out.below HC_w6.out HBU.out.lt
      have y0 := hk_w6.cell 0
      have y1 := hk_w6.cell 1
      have y2 := hk_w6.cell 2
      have z0 := hu_w6.cell 0
      have z1 := hu_w6.cell 1
      have z2 := hu_w6.cell 2
      simp only [List.getElem?_toArray, List.getElem?_cons_zero, List.getElem?_cons_succ] at y0 y1 y2 z0 z1 z2
      clear hk_w6 hu_w6
      go_wp2_with fail
      refine (HRS.out w6 HC_w6.out).mono ?_
      rintro e w7 ⟨rfl, hb7⟩
      have HC_w7 := Lib.hid (HC_w6.out.trans (hb7.mono HC_w6.out.size))
      have HK5 := Lib.hid (HM5.out.keep (Fr.of_below hb7 No) fun _ _ hn => hn)
      have HK4 := Lib.hid (HL4.out.keep (Fr.of_below hb7 No) fun _ _ hn => hn)
      clear hb7
      clear y0 y1 y2 z0 z1 z2
      have g1 : (cd == cd) = true := beq_self_eq_true _
      have g2 : ((ka : Int) == (ka : Int)) = true := beq_self_eq_true _
      have g3 : ((kb : Int) == (kb : Int)) = true := beq_self_eq_true _
      have g4 : (kc == kc) = true := beq_self_eq_true _
      go_wp2_with fail
      refine (numbersL_any A4 A5 ln c4 ln c5 lr lr w7 HK4.out HK5.out HLN.out).mono ?_
      rintro e w8 ⟨rfl, hb8⟩
      have HC_w8 := Lib.hid (HC_w7.out.trans (hb8.mono HC_w7.out.size))
      have HT8 := Lib.hid (HT.out.below (HB3.out.trans (HC_w8.out.mono HB3.out.size)))
      have HU8 := Lib.hid (HU3.out.below HC_w8.out)
      rw [decide_eq_true (rfl : lr = lr)]
      clear hb8
      have hk_w8 := HK3.out.below HC_w8.out HK3.out.lt
      have hu_w8 := HBU.out.below HC_w8.out HBU.out.lt
      have y0 := hk_w8.cell 0
      have y1 := hk_w8.cell 1
      have y2 := hk_w8.cell 2
      have z0 := hu_w8.cell 0
      have z1 := hu_w8.cell 1
      have z2 := hu_w8.cell 2
      simp only [List.getElem?_toArray, List.getElem?_cons_zero, List.getElem?_cons_succ] at y0 y1 y2 z0 z1 z2
      clear hk_w8 hu_w8
      have hal := Lib.hid (alike_true t u w8 HT8.out HU8.out ⟨HEQ.out.l.symm, HEQ.out.b.symm, HEQ.out.e.symm⟩ (by have := HST.out.n; omega))
      unfold TV.agg at hal
      go_wp2_with fail
      refine hal.out.mono ?_
      rintro e w9 ⟨rfl, hb9⟩
      have HC_w9 := Lib.hid (HC_w8.out.trans (hb9.mono HC_w8.out.size))
      clear hb9
      go_wp2_with fail
      refine (HA.out _).mono ?_
      rintro e w10 ⟨rfl, hb10⟩
      have HC_w10 := Lib.hid (HC_w9.out.trans (hb10.mono HC_w9.out.size))
      clear hb10
      go_wp2_with fail
      go_ret
      exact ⟨rfl, HB3.out.trans (HC_w10.out.mono HB3.out.size)⟩
    · have d1 : decide ((s.size : Int) > 1000) = true := decide_eq_true (by omega)
      clear h10
      go_wp2_with fail
      refine (HA.out _).mono ?_
      rintro e w2 ⟨rfl, hb2⟩
      have HBX := Lib.hid (HB1.out.trans (hb2.mono HB1.out.size))
      clear hb2
      go_wp2_with fail
      go_ret
      exact ⟨rfl, HBX.out⟩
theorem nodePaths.walked (t : TV) (n : Nat) (s : ByteArray) (w : World) (h : t.In w All) (hn : n < 4294967296) (hs : s.size ≤ maxLen) :
    Calls Try.prog 3 #[t.agg, .int .u32 (n : Int), .string s] w fun e w' => e = .returned (.bool true) ∧ Below w.heap.size w w' :=
  nodePaths_walk t n hn s (Nat.le_trans hs (by decide)) w h
end Go.Proofs.Ytcajidlekfkjlaa
