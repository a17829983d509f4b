/-
STAGE 12: the document's Has.
-/
import Derived.Test.YtlblgfpafdfilaaDoorNU
import Derived.Test.YtlblgfpafdfilaaDoorNS
namespace Go.Proofs.YtlblgfpafdfilaaDoor
open Go.RowKit Go.Sort

theorem blk36_up {w w' : World} {g : Nat} {x : Th} (h : Blk w g 36 (tcs x)) (hb : RowKit.Below w.heap.size w w') : Blk w' g 36 (tcs x) := h.below hb h.lt
theorem hasP_of (t : Nat) (x : Th) (m : Int) (l : LK) : hasP t x m l = (l.t == t && l.h && covM l.m m && liesM x l.x) := rfl
set_option maxRecDepth 100000 in
set_option maxHeartbeats 4000000 in
theorem rhas_any (g : Nat) (A : Option Addr) (c : Nat) (ls : List LK) (w : World) (hT : RT w g A c ls) (hI : ∀ l ∈ ls, Good l) (t : Nat) (x : Th) (m : Int) (hA : x.a.size ≤ 9223372036854775807) (hB : x.b.size ≤ 9223372036854775807) :
    Calls Tryd.prog 29 #[.pointer (some ⟨g, 0, none⟩), .int .u32 (t : Int), x.agg, .int .i64 m] w fun e w' => e = .returned (.bool (hasM t x m ls)) ∧ Below w.heap.size w w' := by
  obtain ⟨W, hW, hb, bx, hsz⟩ := box1_36 w x
  have HB := Lib.hid hb
  have HX := Lib.hid bx
  have HM := Lib.hid (fun W => rmay_any x m hA hB W)
  have HT := Lib.hid (hT.up hb)
  have HG := Lib.hid hI
  have HF := Lib.hid hT.few
  obtain ⟨n, hn⟩ : ∃ n, ls.length = n := ⟨_, rfl⟩
  have HN := Lib.hid hn
  unfold hasM
  have HMY := Lib.hid (show mayM x m = true → mayM x m = true from id)
  have HRW := Lib.hid (fun (h : mayM x m = true) (l : LK) (hl : Good l) W' => rwithin_any x l.x m l.m h hl.may W')
  have HCV := Lib.hid (fun (h : mayM x m = true) (l : LK) (hl : Good l) W' => cov53 l.m m hl.m (mayM_mode h) W')
  have HCE := Lib.hid (fun (h : mayM x m = true) (l : LK) (hl : Good l) => rcovM_eq hl.m (mayM_mode h))
  obtain ⟨c0, c1, c2, c3⟩ := blk36 bx
  obtain ⟨gx, hgx⟩ : ∃ gx, gx = w.heap.size := ⟨_, rfl⟩
  rw [← hgx] at HX c0 c1 c2 c3
  have HGX := Lib.hid hgx
  obtain ⟨my, hmy⟩ : ∃ my, mayM x m = my := ⟨_, rfl⟩
  rw [hmy] at HM HRW HCV HCE ⊢
  obtain ⟨xr, xi, xa, xb⟩ := x
  simp only [Th.agg, box36, tcs] at hW HM HRW c0 c1 c2 c3 ⊢
  clear hb bx hT hI hA hB hn hmy hgx
  cases my
  · go_enter Tryd.func29, Tryd.ntmps29
    go_upto_region 1 with fail
    rw [← HGX.out]
    clear hW
    go_wp2_with (go_at_call 51; with_reducible refine (HM.out _).mono ?_; rintro e w1 ⟨rfl, hb1⟩; have HB1 := Lib.hid hb1; clear hb1)
    go_ret
    exact ⟨rfl, below_trans HB.out HB1.out⟩
  · go_enter Tryd.func29, Tryd.ntmps29
    go_upto_region 1 with fail
    rw [← HGX.out]
    clear hW
    go_wp2_with (go_at_call 51; with_reducible refine (HM.out _).mono ?_; rintro e w1 ⟨rfl, hb1⟩; have HB1 := Lib.hid hb1; clear hb1)
    go_loopw [9] (fun i wr => ∃ k : Nat, k ≤ n ∧ i = .int .i64 (k : Int) ∧ (ls.take k).any (hasP t ⟨xr, xi, xa, xb⟩ m) = false ∧ Below W.heap.size W wr) (fun i _ => n - (intOf i).toNat)
    case atStart => exact ⟨0, by omega, rfl, by simp, HB1.out⟩
    case round =>
      obtain ⟨k, hk, rfl, ha, hbr⟩ := hrel
      have HBR := Lib.hid hbr
      have HA := Lib.hid ha
      have t0 := (HT.out.up hbr).blk.cell 0
      simp only [List.getElem?_toArray, List.getElem?_cons_zero] at t0
      rw [HN.out] at t0
      clear ha
      by_cases hlt : k < n
      · have hl : ls[k]? = some (ls[k]'(by have := HN.out; omega)) := List.getElem?_eq_getElem _
        generalize ls[k]'(by have := HN.out; omega) = l at hl
        obtain ⟨b, rfl, hcs⟩ := HT.out.row k l hl
        obtain ⟨z0, z1, z2, z3, z4, z5, z6⟩ := hcs.up hbr
        have hin : ((k : Int) < (n : Int)) := by omega
        have e1 : IntKind.i64.wrap ((k : Int) + 1) = ((k + 1 : Nat) : Int) := by rw [IntWalk.i64_in _ (by have := HF.out; have := HN.out; omega)]; omega
        obtain ⟨w6, hw6⟩ : ∃ w6, w6 = wr.alloc (.cells #[.int .u32 (l.t : Int), .bool l.x.r, .int .u32 (l.x.i : Int), .string l.x.a, .string l.x.b, .int .i64 l.m, .bool l.h] 46) := ⟨_, rfl⟩
        have hb6 : Below wr.heap.size wr w6 := by rw [hw6]; exact (Below.refl _ _).alloc (Nat.le_refl _) _
        have hk6 : Blk w6 wr.heap.size 46 (lcs l) := by rw [hw6]; exact Blk.new _ _ _
        have HL6 := Lib.hid hk6
        have HX6 := Lib.hid (blk36_up HX.out (hbr.trans (hb6.mono hbr.size)))
        have HB6 := Lib.hid (hbr.trans (hb6.mono hbr.size))
        have hgl := HG.out l (List.mem_of_getElem? hl)
        have HW4 := Lib.hid (HRW.out trivial l hgl)
        have HC4 := Lib.hid (HCV.out trivial l hgl)
        rw [HCE.out trivial l hgl] at HC4
        have HPT := Lib.hid (show hasP t ⟨xr, xi, xa, xb⟩ m l = true → ls.any (hasP t ⟨xr, xi, xa, xb⟩ m) = true from fun h => any_at hl h)
        have HPF := Lib.hid (show hasP t ⟨xr, xi, xa, xb⟩ m l = false → (ls.take (k + 1)).any (hasP t ⟨xr, xi, xa, xb⟩ m) = false from fun h => any_take hl HA.out h)
        rw [hasP_of] at HPT HPF
        have d1 := nbeq l.t t
        obtain ⟨u, hu⟩ : ∃ u, (l.t == t) = u := ⟨_, rfl⟩
        rw [hu] at d1 HPT HPF
        have D1 := Lib.hid d1
        generalize liesM _ l.x = r at HW4 HPT HPF
        generalize covM l.m m = cc at HC4 HPT HPF
        clear hl hcs hb6 hk6 hgl hu d1 hbr
        go_upto_region 7 with fail
        rw [← hw6]
        clear hw6 z0 z1 z2 z3 z4 z5 z6 t0
        have d1 := D1.out
        obtain ⟨gl, hgl⟩ : ∃ gl, gl = wr.heap.size := ⟨_, rfl⟩
        rw [← hgl] at HL6 ⊢
        clear hgl
        obtain ⟨lt, ⟨lr, li, la, lb⟩, lm, lh⟩ := l
        obtain ⟨y0, y1, y2, y3, y4, y5, y6⟩ := blk46 HL6.out
        obtain ⟨c0, c1, c2, c3⟩ := blk36 HX6.out
        simp only at HW4 HC4 HPT HPF y0 y1 y2 y3 y4 y5 y6 c0 c1 c2 c3 d1
        have key : lh = false ∨ (lh = true ∧ u = false) ∨ (lh = true ∧ u = true ∧ r = false) ∨ (lh = true ∧ u = true ∧ r = true ∧ cc = false) ∨ (lh = true ∧ u = true ∧ r = true ∧ cc = true) := by
          cases lh <;> cases u <;> cases r <;> cases cc <;> simp
        rcases key with rfl | ⟨rfl, rfl⟩ | ⟨rfl, rfl, rfl⟩ | ⟨rfl, rfl, rfl, rfl⟩ | ⟨rfl, rfl, rfl, rfl⟩
        iterate 4
          · go_wp2_with (first
              | (go_at_call 52; with_reducible refine (HW4.out _).mono ?_; rintro e w7 ⟨rfl, hb7⟩; have HB7 := Lib.hid hb7; obtain ⟨y0, y1, y2, y3, y4, y5, y6⟩ := blk46 (HL6.out.below hb7 HL6.out.lt); simp only at y0 y1 y2 y3 y4 y5 y6; clear hb7)
              | (go_at_call 53; with_reducible refine (HC4.out _).mono ?_; rintro e w8 ⟨rfl, hb8⟩; have HB8 := Lib.hid (below_trans HB7.out hb8); clear hb8))
            go_roundw
            case rel => exact ⟨k + 1, by omega, by go_num, HPF.out (by simp), by first | exact HB6.out.trans (HB8.out.mono HB6.out.size) | exact HB6.out.trans (HB7.out.mono HB6.out.size) | exact HB6.out⟩
            case measure => simp [intOf]; omega
        · go_wp2_with (first
            | (go_at_call 52; with_reducible refine (HW4.out _).mono ?_; rintro e w7 ⟨rfl, hb7⟩; have HB7 := Lib.hid hb7; obtain ⟨y0, y1, y2, y3, y4, y5, y6⟩ := blk46 (HL6.out.below hb7 HL6.out.lt); simp only at y0 y1 y2 y3 y4 y5 y6; clear hb7)
            | (go_at_call 53; with_reducible refine (HC4.out _).mono ?_; rintro e w8 ⟨rfl, hb8⟩; have HB8 := Lib.hid (below_trans HB7.out hb8); clear hb8))
          go_ret
          exact ⟨by rw [HPT.out (by simp)]; rfl, below_trans HB.out (HB6.out.trans (HB8.out.mono HB6.out.size))⟩
      · obtain rfl : k = n := by omega
        have hin : ¬ ((k : Int) < (k : Int)) := by omega
        have HE := Lib.hid (show ls.any (hasP t ⟨xr, xi, xa, xb⟩ m) = false by have := HA.out; rwa [← HN.out, List.take_length] at this)
        clear hbr
        go_wp2_with fail
        go_ret
        exact ⟨by rw [HE.out]; rfl, below_trans HB.out HBR.out⟩
end Go.Proofs.YtlblgfpafdfilaaDoor
