/-
STAGE 12: the document's For.
-/
import Derived.Test.YtlblgfpafdfilaaDoorNN
import Derived.Test.YtlblgfpafdfilaaDoorNR
import Derived.Test.YtlblgfpafdfilaaDoorMH
namespace Go.Proofs.YtlblgfpafdfilaaDoor
open Go.RowKit Go.Sort

/-- the document's table, that is read -/
structure RT (w : World) (g : Nat) (A : Option Addr) (c : Nat) (ls : List LK) : Prop where
  blk : Blk w g 32 #[.slice A ls.length c]
  row : Row w A ls
  ok : ∀ l ∈ ls, l.Ok
  few : ls.length ≤ 16384
  le : ls.length ≤ c
theorem RT.up {w w' : World} {g : Nat} {A : Option Addr} {c : Nat} {ls : List LK} (h : RT w g A c ls) (hb : RowKit.Below w.heap.size w w') : RT w' g A c ls :=
  ⟨h.blk.below hb h.blk.lt, h.row.up hb, h.ok, h.few, h.le⟩
theorem any_succ {ls : List LK} {P : LK → Bool} {k : Nat} {l : LK} (h : ls[k]? = some l) : (ls.take (k + 1)).any P = ((ls.take k).any P || P l) := by
  obtain ⟨hk, e⟩ := List.getElem?_eq_some_iff.1 h
  rw [List.take_succ_eq_append_getElem hk, List.any_append, e]
  simp
theorem blk46 {w : World} {g : Nat} {l : LK} (h : Blk w g 46 (lcs l)) : w.cell? ⟨g, 0, none⟩ = some (.int .u32 (l.t : Int)) ∧ w.cell? ⟨g, 1, none⟩ = some (.bool l.x.r) ∧ w.cell? ⟨g, 2, none⟩ = some (.int .u32 (l.x.i : Int)) ∧ w.cell? ⟨g, 3, none⟩ = some (.string l.x.a) ∧ w.cell? ⟨g, 4, none⟩ = some (.string l.x.b) ∧ w.cell? ⟨g, 5, none⟩ = some (.int .i64 l.m) ∧ w.cell? ⟨g, 6, none⟩ = some (.bool l.h) :=
  ⟨h.cell 0, h.cell 1, h.cell 2, h.cell 3, h.cell 4, h.cell 5, h.cell 6⟩
theorem blk46_rg {w : World} {g : Nat} {l : LK} (h : Blk w g 46 (lcs l)) : (∀ d os, (grow (redrawn w d) os).cell? ⟨g, 0, none⟩ = some (.int .u32 (l.t : Int))) ∧ (∀ d os, (grow (redrawn w d) os).cell? ⟨g, 1, none⟩ = some (.bool l.x.r)) ∧ (∀ d os, (grow (redrawn w d) os).cell? ⟨g, 2, none⟩ = some (.int .u32 (l.x.i : Int))) ∧ (∀ d os, (grow (redrawn w d) os).cell? ⟨g, 3, none⟩ = some (.string l.x.a)) ∧ (∀ d os, (grow (redrawn w d) os).cell? ⟨g, 4, none⟩ = some (.string l.x.b)) ∧ (∀ d os, (grow (redrawn w d) os).cell? ⟨g, 5, none⟩ = some (.int .i64 l.m)) ∧ (∀ d os, (grow (redrawn w d) os).cell? ⟨g, 6, none⟩ = some (.bool l.h)) :=
  ⟨fun d os => cell_regrown (h.cell 0) d os, fun d os => cell_regrown (h.cell 1) d os, fun d os => cell_regrown (h.cell 2) d os, fun d os => cell_regrown (h.cell 3) d os, fun d os => cell_regrown (h.cell 4) d os, fun d os => cell_regrown (h.cell 5) d os, fun d os => cell_regrown (h.cell 6) d os⟩
/-- a row of numbers in new memory, while it grows -/
structure UN (w wr : World) (v : Value) (acc : List Nat) : Prop where
  own : OwR wr 34 1 uf v acc
  new : ∀ b, v.ownBlock = some b → w.heap.size ≤ b
  bel : RowKit.Below w.heap.size w wr
theorem UN.up {w wr w2 : World} {v : Value} {acc : List Nat} (h : UN w wr v acc) (hb : RowKit.Below wr.heap.size wr w2) : UN w w2 v acc := ⟨h.own.up hb, h.new, h.bel.trans (hb.mono h.bel.size)⟩
theorem UN.more {w wr w2 w3 : World} {v v' : Value} {acc acc' : List Nat} (h : UN w wr v acc) (hb2 : RowKit.Below wr.heap.size wr w2) (ho : OwR w3 34 1 uf v' acc') (hg : w2.grownBy w3 v.ownBlock) (hb : v'.ownBlock = v.ownBlock ∨ v'.ownBlock = some w2.heap.size) : UN w w3 v' acc' := by
  have hs := h.bel.size
  have hs2 := hb2.size
  refine ⟨ho, fun b hb' => ?_, ?_⟩
  · rcases hb with hb | hb
    · exact h.new b (by rw [← hb]; exact hb')
    · rw [hb] at hb'; injection hb' with hb'; rw [← hb']; omega
  · exact (h.bel.trans (hb2.mono hs)).trans (below_grown_ hg (fun b hb => h.new b hb) (by omega))
theorem waitM_of (pass : Bool) (q l : LK) (p k : Nat) : waitM pass q p l k = ((l.h || (decide (k < p) && !pass)) && (l.t != q.t) && conM l.m q.m && meetM l.x q.x) := rfl
set_option maxRecDepth 100000 in
set_option maxHeartbeats 8000000 in
theorem for_any (g : Nat) (A : Option Addr) (c : Nat) (ls : List LK) (w : World) (hT : RT w g A c ls) (hI : ∀ l ∈ ls, Good l) (p : Nat) (hp : p < ls.length) :
    Calls Tryd.prog 34 #[.pointer (some ⟨g, 0, none⟩), .int .i64 (p : Int)] w fun e w' => ∃ v, e = .returned v ∧ UN w w' v (forM ls p) := by
  have hq : ls[p]? = some ls[p] := List.getElem?_eq_getElem hp
  have HFM := Lib.hid (show forM ls p = forTo ls ls[p] p ls.length by unfold forM; rw [getD_of hq])
  generalize ls[p] = q at hq HFM
  obtain ⟨b, rfl, hcs⟩ := hT.row p q hq
  obtain ⟨z0, z1, z2, z3, z4, z5, z6⟩ := hcs
  have c0 := hT.blk.cell 0
  simp only [List.getElem?_toArray, List.getElem?_cons_zero] at c0
  obtain ⟨w2, hw2⟩ : ∃ w2, w2 = w.alloc (.cells #[.int .u32 (q.t : Int), .bool q.x.r, .int .u32 (q.x.i : Int), .string q.x.a, .string q.x.b, .int .i64 q.m, .bool q.h] 46) := ⟨_, rfl⟩
  have hb2 : Below w.heap.size w w2 := by rw [hw2]; exact (Below.refl _ _).alloc (Nat.le_refl _) _
  have hk2 : Blk w2 w.heap.size 46 (lcs q) := by rw [hw2]; exact Blk.new _ _ _
  have HT := Lib.hid (hT.up hb2)
  have HK := Lib.hid hk2
  have HB2 := Lib.hid hb2
  have HGQ := Lib.hid (hI q (List.mem_of_getElem? hq))
  have HG := Lib.hid hI
  have HQ := Lib.hid hq
  have HF := Lib.hid hT.few
  obtain ⟨n, hn⟩ : ∃ n, ls.length = n := ⟨_, rfl⟩
  rw [hn] at c0 hp
  have HN := Lib.hid hn
  have hpi : (p : Int) < (n : Int) := by omega
  clear hT hI hq hb2 hk2 hn
  go_enter Tryd.func34, Tryd.ntmps34
  go_upto_region 2 with fail
  rw [← hw2]
  clear hw2 z0 z1 z2 z3 z4 z5 z6 c0
  obtain ⟨gq, hgq⟩ : ∃ gq, gq = w.heap.size := ⟨_, rfl⟩
  rw [← hgq] at HK ⊢
  clear hgq
  go_upto_region 4 with fail
  go_loopw [6, 7] (fun h i wr => ∃ k : Nat, k ≤ n ∧ i = .int .i64 (k : Int) ∧ h = .bool ((ls.take k).any (passP q)) ∧ Below w2.heap.size w2 wr) (fun _ i _ => n - (intOf i).toNat)
  case atStart => exact ⟨0, by omega, rfl, by simp, Below.refl _ _⟩
  case round =>
    obtain ⟨k, hk, rfl, rfl, hb⟩ := hrel
    have HB := Lib.hid hb
    have c0 := (HT.out.up hb).blk.cell 0
    simp only [List.getElem?_toArray, List.getElem?_cons_zero] at c0
    rw [HN.out] at c0
    by_cases hlt : k < n
    · have hl : ls[k]? = some (ls[k]'(by have := HN.out; omega)) := List.getElem?_eq_getElem _
      generalize ls[k]'(by have := HN.out; omega) = l at hl
      obtain ⟨b', e', hcs⟩ := HT.out.row k l hl
      injection e' with e'
      injection e' with e'
      subst e'
      have hin : ((k : Int) < (n : Int)) := by omega
      have e1 : IntKind.i64.wrap ((k : Int) + 1) = ((k + 1 : Nat) : Int) := by rw [IntWalk.i64_in _ (by have := HF.out; have := HN.out; omega)]; omega
      have HS := Lib.hid (show (ls.take (k + 1)).any (passP q) = ((ls.take k).any (passP q) || passP q l) from any_succ (P := passP q) hl)
      have HE := Lib.hid (fun W' => meet48 l.x q.x W')
      have hgl := HG.out l (List.mem_of_getElem? hl)
      rw [rmeetM_eq hgl.may HGQ.out.may] at HE
      have HCS := Lib.hid (hcs.up hb)
      have HKW := Lib.hid (HK.out.below hb HK.out.lt)
      clear hl hcs hb hgl
      generalize (ls.take k).any (passP q) = hh at HS ⊢
      rw [show passP q l = (l.t == q.t && l.h && meetM l.x q.x) from rfl] at HS
      have d1 := nbeq l.t q.t
      obtain ⟨u, hu⟩ : ∃ u, (l.t == q.t) = u := ⟨_, rfl⟩
      rw [hu] at d1 HS
      generalize meetM l.x q.x = r at HE HS
      clear hu
      go_upto_region 6 with fail
      obtain ⟨z0, z1, z2, z3, z4, z5, z6⟩ := HCS.out.rg
      obtain ⟨y0, y1, y2, y3, y4, y5, y6⟩ := blk46_rg HKW.out
      have cg := fun d os => cell_regrown c0 d os
      have hin3 : ((k : Int) < (n : Int)) := by omega
      obtain ⟨lt, ⟨lr, li, la, lb⟩, lm, lh⟩ := l
      obtain ⟨qt, ⟨qr, qi, qa, qb⟩, qm, qh⟩ := q
      simp only [Th.agg] at HE HS z0 z1 z2 z3 z4 z5 z6 y0 y1 y2 y3 y4 y5 y6 d1
      have key : hh = true ∨ (hh = false ∧ lh = false) ∨ (hh = false ∧ lh = true ∧ u = false) ∨ (hh = false ∧ lh = true ∧ u = true) := by cases hh <;> cases lh <;> cases u <;> simp
      rcases key with rfl | ⟨rfl, rfl⟩ | ⟨rfl, rfl, rfl⟩ | ⟨rfl, rfl, rfl⟩ <;>
      · simp only [Bool.true_and, Bool.false_and, Bool.and_true, Bool.and_false, Bool.or_false, Bool.true_or, Bool.false_or] at HS
        refine wp_region_quiet_below (by kernel_rfl) (by kernel_rfl) ?_
        repeat (go_big_quiet_step (first | (go_at_call 48; with_reducible exact Calls.regrown_of (HE.out _))))
        refine wpQuiet_nil ?_
        rintro W3 ⟨pp, hpp⟩
        have HB4 := Lib.hid (show Below wr.heap.size wr W3 by rw [hpp]; exact below_regrown _ _ _)
        clear hpp z0 z1 z2 z3 z4 z5 z6 y0 y1 y2 y3 y4 y5 y6 cg
        go_wp2_with fail
        go_roundw
        case rel => exact ⟨k + 1, by omega, by go_num, by rw [HS.out], HB.out.trans (HB4.out.mono HB.out.size)⟩
        case measure => simp [intOf]; omega
    · obtain rfl : k = n := by omega
      have hin : ¬ ((k : Int) < (k : Int)) := by omega
      have HE := Lib.hid (show (ls.take k).any (passP q) = ls.any (passP q) by rw [← HN.out, List.take_length])
      obtain ⟨pass, hps⟩ : ∃ pass, ls.any (passP q) = pass := ⟨_, rfl⟩
      rw [HE.out, hps]
      replace HE := Lib.hid hps
      clear hb hps
      have HB9 := Lib.hid HB.out
      have HZ2 := Lib.hid (HB2.out.trans (HB.out.mono HB2.out.size))
      obtain ⟨w5, hw5⟩ : ∃ w5, w5 = wr := ⟨_, rfl⟩
      subst hw5
      have HT5 := Lib.hid (HT.out.up HB.out)
      have HK5 := Lib.hid (HK.out.below HB.out HK.out.lt)
      go_upto_region 9 with fail
      clear c0
      go_loopw [8, 9] (fun v i wi => ∃ j : Nat, j ≤ k ∧ i = .int .i64 (j : Int) ∧ UN w5 wi v (forTo ls q p j)) (fun _ i _ => k - (intOf i).toNat)
      case atStart => exact ⟨0, by omega, rfl, OwR.nil_ _ _ _ _, fun b hb => by simp [Value.ownBlock] at hb, Below.refl _ _⟩
      case round =>
        obtain ⟨j, hj, rfl, hun⟩ := hrel
        have HU := Lib.hid hun
        have c0 := (HT5.out.up hun.bel).blk.cell 0
        simp only [List.getElem?_toArray, List.getElem?_cons_zero] at c0
        rw [HN.out] at c0
        by_cases hlt : j < k
        · have hl : ls[j]? = some (ls[j]'(by have := HN.out; omega)) := List.getElem?_eq_getElem _
          generalize ls[j]'(by have := HN.out; omega) = l at hl
          obtain ⟨b', e', hcs⟩ := HT5.out.row j l hl
          injection e' with e'
          injection e' with e'
          subst e'
          obtain ⟨z0, z1, z2, z3, z4, z5, z6⟩ := hcs.up hun.bel
          have hin : ((j : Int) < (k : Int)) := by omega
          have e1 : IntKind.i64.wrap ((j : Int) + 1) = ((j + 1 : Nat) : Int) := by rw [IntWalk.i64_in _ (by have := HF.out; have := HN.out; omega)]; omega
          obtain ⟨w6, hw6⟩ : ∃ w6, w6 = wr.alloc (.cells #[.int .u32 (l.t : Int), .bool l.x.r, .int .u32 (l.x.i : Int), .string l.x.a, .string l.x.b, .int .i64 l.m, .bool l.h] 46) := ⟨_, rfl⟩
          have hb6 : Below wr.heap.size wr w6 := by rw [hw6]; exact (Below.refl _ _).alloc (Nat.le_refl _) _
          have hk6 : Blk w6 wr.heap.size 46 (lcs l) := by rw [hw6]; exact Blk.new _ _ _
          have HX6 := Lib.hid hk6
          have HK6 := Lib.hid ((HK5.out.below hun.bel HK5.out.lt).below hb6 (by have := HK5.out.lt; have := hun.bel.size; omega))
          have HU6 := Lib.hid (hun.up hb6)
          have hgl := HG.out l (List.mem_of_getElem? hl)
          have HE4 := Lib.hid (fun W' => meet48 l.x q.x W')
          rw [rmeetM_eq hgl.may HGQ.out.may] at HE4
          have HC4 := Lib.hid (fun W' => con49 l.m q.m hgl.m HGQ.out.m W')
          rw [rconM_eq hgl.m HGQ.out.m] at HC4
          have HS := Lib.hid (show forTo ls q p (j + 1) = if waitM (ls.any (passP q)) q p l j = true then forTo ls q p j ++ [l.t] else forTo ls q p j by
            show (if waitM (ls.any (passP q)) q p (ls.getD j okz) j = true then forTo ls q p j ++ [(ls.getD j okz).t] else forTo ls q p j) = _
            rw [getD_of hl])
          rw [HE.out, waitM_of] at HS
          have HLL := Lib.hid (forTo_len ls q p j)
          generalize forTo ls q p j = acc at HS HU HU6 HLL
          have d1 : ((l.t : Int) != (q.t : Int)) = (l.t != q.t) := congrArg (!·) (nbeq l.t q.t)
          obtain ⟨u, hu⟩ : ∃ u, (l.t != q.t) = u := ⟨_, rfl⟩
          rw [hu] at d1 HS
          obtain ⟨f, hf⟩ : ∃ f, decide (j < p) = f := ⟨_, rfl⟩
          have d2 : decide ((j : Int) < (p : Int)) = f := by rw [← hf, decide_eq_decide]; omega
          rw [hf] at HS
          generalize meetM l.x q.x = r at HE4 HS
          generalize conM l.m q.m = cc at HC4 HS
          have D1 := Lib.hid d1
          have D2 := Lib.hid d2
          have D3 := Lib.hid hf
          clear hu hl hcs hgl hun hb6 hk6 hf d1 d2
          go_upto_region 12 with fail
          rw [← hw6]
          clear hw6 z0 z1 z2 z3 z4 z5 z6 c0
          have hin3 : ((j : Int) < (k : Int)) := by omega
          have d1 := D1.out
          have d2 := D2.out
          have d3 := D3.out
          obtain ⟨gx, hgx⟩ : ∃ gx, gx = wr.heap.size := ⟨_, rfl⟩
          rw [← hgx] at HX6 ⊢
          clear hgx
          obtain ⟨lt, ⟨lr, li, la, lb⟩, lm, lh⟩ := l
          obtain ⟨qt, ⟨qr, qi, qa, qb⟩, qm, qh⟩ := q
          obtain ⟨x0, x1, x2, x3, x4, x5, x6⟩ := blk46 HX6.out
          obtain ⟨y0, y1, y2, y3, y4, y5, y6⟩ := blk46 HK6.out
          simp only [Th.agg] at HE4 HC4 HS x0 x1 x2 x3 x4 x5 x6 y0 y1 y2 y3 y4 y5 y6 d1
          have key : u = false ∨ (u = true ∧ r = false) ∨ (u = true ∧ r = true ∧ cc = false) ∨ (u = true ∧ r = true ∧ cc = true ∧ lh = false ∧ pass = true) ∨ (u = true ∧ r = true ∧ cc = true ∧ lh = false ∧ pass = false ∧ f = false) ∨ (u = true ∧ r = true ∧ cc = true ∧ lh = false ∧ pass = false ∧ f = true) ∨ (u = true ∧ r = true ∧ cc = true ∧ lh = true) := by
            cases u <;> cases r <;> cases cc <;> cases lh <;> cases pass <;> cases f <;> simp
          rcases key with rfl | ⟨rfl, rfl⟩ | ⟨rfl, rfl, rfl⟩ | ⟨rfl, rfl, rfl, rfl, rfl⟩ | ⟨rfl, rfl, rfl, rfl, rfl, rfl⟩ | ⟨rfl, rfl, rfl, rfl, rfl, rfl⟩ | ⟨rfl, rfl, rfl, rfl⟩
          iterate 5
            · go_wp2_with (first
              | (go_at_call 48; with_reducible refine (HE4.out _).mono ?_; rintro e w7 ⟨rfl, hb7⟩; have HB7 := Lib.hid hb7; obtain ⟨x0, x1, x2, x3, x4, x5, x6⟩ := blk46 (HX6.out.below hb7 HX6.out.lt); obtain ⟨y0, y1, y2, y3, y4, y5, y6⟩ := blk46 (HK6.out.below hb7 HK6.out.lt); simp only at x0 x1 x2 x3 x4 x5 x6 y0 y1 y2 y3 y4 y5 y6; clear hb7)
              | (go_at_call 49; with_reducible refine (HC4.out _).mono ?_; rintro e w8 ⟨rfl, hb8⟩; have HB8 := Lib.hid (below_trans HB7.out hb8); obtain ⟨x0, x1, x2, x3, x4, x5, x6⟩ := blk46 (HX6.out.below HB8.out HX6.out.lt); obtain ⟨y0, y1, y2, y3, y4, y5, y6⟩ := blk46 (HK6.out.below HB8.out HK6.out.lt); simp only at x0 x1 x2 x3 x4 x5 x6 y0 y1 y2 y3 y4 y5 y6; clear hb8))
              go_roundw
              case rel => exact ⟨j + 1, by omega, by go_num, by rw [HS.out, if_neg (by simp)]; first | exact HU6.out.up HB8.out | exact HU6.out.up HB7.out | exact HU6.out⟩
              case measure => simp [intOf]; omega
          iterate 2
            · have HAP := Lib.hid (fun W' (hW : RowKit.Below w6.heap.size w6 W') => show OwR (W'.alloc (.cells #[.int .u32 (lt : Int)] 34)) 34 1 uf u8 acc from (HU6.out.up hW).own.up ((Below.refl _ _).alloc (Nat.le_refl _) _))
              go_upto_region 13 with (first
              | (go_at_call 48; with_reducible refine (HE4.out _).mono ?_; rintro e w7 ⟨rfl, hb7⟩; have HB7 := Lib.hid hb7; obtain ⟨x0, x1, x2, x3, x4, x5, x6⟩ := blk46 (HX6.out.below hb7 HX6.out.lt); obtain ⟨y0, y1, y2, y3, y4, y5, y6⟩ := blk46 (HK6.out.below hb7 HK6.out.lt); simp only at x0 x1 x2 x3 x4 x5 x6 y0 y1 y2 y3 y4 y5 y6; clear hb7)
              | (go_at_call 49; with_reducible refine (HC4.out _).mono ?_; rintro e w8 ⟨rfl, hb8⟩; have HB8 := Lib.hid (below_trans HB7.out hb8); obtain ⟨x0, x1, x2, x3, x4, x5, x6⟩ := blk46 (HX6.out.below HB8.out HX6.out.lt); obtain ⟨y0, y1, y2, y3, y4, y5, y6⟩ := blk46 (HK6.out.below HB8.out HK6.out.lt); simp only at x0 x1 x2 x3 x4 x5 x6 y0 y1 y2 y3 y4 y5 y6; clear hb8))
              have HR8 := Lib.hid (one_app_ (f := uf) (k := 1) w8 34 lt)
              have HO8 := Lib.hid (HAP.out w8 HB8.out)
              have HU8 := Lib.hid (HU6.out.up HB8.out)
              go_wp2_with (at_builtin; go_must (refine wpList_appR K34 uf_len uf_one rfl (.tmp 112) (.tmp 115) rfl u8 acc rfl HO8.out (some ⟨w8.heap.size, 0, none⟩) 1 1 [lt] rfl rfl HR8.out (by have := HLL.out; have := HF.out; have := HN.out; omega) (by have := HLL.out; have := HF.out; have := HN.out; omega) ?_); intro v' w9 hv9 hg9 hb9; have HU9 := Lib.hid (HU8.out.more ((Below.refl _ _).alloc (Nat.le_refl _) _) hv9 hg9 hb9); clear hv9 hg9 hb9)
              go_roundw
              case rel => exact ⟨j + 1, by omega, by go_num, by rw [HS.out, if_pos (by simp)]; exact HU9.out⟩
              case measure => simp [intOf]; omega
        · obtain rfl : j = k := by omega
          have hin : ¬ ((j : Int) < (j : Int)) := by omega
          clear hun
          go_wp2_with fail
          go_ret
          exact ⟨_, rfl, by rw [HFM.out, HN.out]; exact ⟨HU.out.own, fun b' hb' => Nat.le_trans HZ2.out.size (HU.out.new b' hb'), HZ2.out.trans (HU.out.bel.mono HZ2.out.size)⟩⟩
end Go.Proofs.YtlblgfpafdfilaaDoor
