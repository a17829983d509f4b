/-
STAGE 12: Release.
-/
import Derived.Test.YtlblgfpafdfilaaDoorMC
namespace Go.Proofs.YtlblgfpafdfilaaDoor
open Go.RowKit Go.Sort

def relS (st : List LK × List Nat) (p : Nat) : List LK × List Nat :=
  if (st.1.getD p okz).h = true then st else (setH st.1 p (freeM st.1 p), if freeM st.1 p = true then st.2 ++ [(st.1.getD p okz).t] else st.2)
/-- the pass, as far as place n -/
def passM (ls : List LK) (n : Nat) : List LK × List Nat := (List.range n).foldl relS (ls, [])
def keptM (t : Nat) (ls : List LK) : List LK := ls.filter fun l => !(l.t == t)
def releaseM (t : Nat) (ls : List LK) : List LK × List Nat := passM (keptM t ls) (keptM t ls).length
theorem passM_succ (ls : List LK) (n : Nat) : passM ls (n + 1) = relS (passM ls n) n := by unfold passM; rw [List.range_succ, List.foldl_append]; rfl
theorem setH_len (ls : List LK) (p : Nat) (r : Bool) : (setH ls p r).length = ls.length := by unfold setH; rw [List.length_set]
theorem relS_len (st : List LK × List Nat) (p : Nat) : (relS st p).1.length = st.1.length ∧ (relS st p).2.length ≤ st.2.length + 1 := by
  unfold relS
  split
  · exact ⟨rfl, by omega⟩
  · refine ⟨setH_len _ _ _, ?_⟩
    simp only
    split
    · rw [List.length_append, List.length_singleton]; omega
    · omega
theorem passM_len (ls : List LK) : ∀ n, (passM ls n).1.length = ls.length ∧ (passM ls n).2.length ≤ n
  | 0 => ⟨rfl, Nat.le_refl _⟩
  | n + 1 => by
    rw [passM_succ]
    have h1 := relS_len (passM ls n) n
    have h2 := passM_len ls n
    omega
theorem DelO.out {w w' : World} {t : Nat} {v : Value} {ls : List LK} {e : Ending} (h : DelO w t v ls e w') : ∃ v', e = .returned v' ∧ OwR w' 46 7 lf v' (keptM t ls) ∧ v'.ownBlock = v.ownBlock ∧ Fr w w' fun b => v.ownBlock = some b := h
def RelO (w : World) (g : Nat) (v : Value) (r : List LK × List Nat) (e : Ending) (w' : World) : Prop :=
  ∃ vg v', e = .returned vg ∧ OwR w' 34 1 uf vg r.2 ∧ (∀ b, vg.ownBlock = some b → w.heap.size ≤ b) ∧ Chg w w' g v v' r.1
/-- the pass so far -/
structure RelI (w : World) (g : Nat) (v v' : Value) (st : List LK × List Nat) (vg : Value) (wr : World) : Prop where
  tb : TB wr g v' st.1
  got : OwR wr 34 1 uf vg st.2
  new : ∀ b, vg.ownBlock = some b → w.heap.size ≤ b
  fr : Fr w wr fun b => b = g ∨ v.ownBlock = some b
theorem RelI.up {w wr w2 : World} {g : Nat} {v v' vg : Value} {st : List LK × List Nat} (h : RelI w g v v' st vg wr) (hb : RowKit.Below wr.heap.size wr w2) : RelI w g v v' st vg w2 :=
  ⟨h.tb.up hb, h.got.up hb, h.new, h.fr.same (Fr.of_below hb _)⟩
theorem RelI.gw {w wr : World} {g : Nat} {v v' vg : Value} {ls : List LK} {st : List LK × List Nat} (h : RelI w g v v' st vg wr) (hT : TB w g v ls) (hg : Gw w) : Gw wr := hg.keep h.fr fun b hb => hb.elim (fun e => by rw [e]; exact hT.g2) fun e => hT.v2 b e
theorem own_apart {α β : Type} {f : α → List Value} {h : β → List Value} {w : World} {e e' : TypeId} {k k' : Nat} {v v' : Value} {l : List α} {l' : List β} (h1 : OwR w e k f v l) (h2 : OwR w e' k' h v' l') (hne : e ≠ e') (b : Nat) (hb : v.ownBlock = some b) : v'.ownBlock ≠ some b := by
  intro hb'
  rcases h1.2 with ⟨rfl, _⟩ | ⟨g1, c1, cur1, rfl, _, hg1, _⟩
  · simp [Value.ownBlock] at hb
  · rcases h2.2 with ⟨rfl, _⟩ | ⟨g2, c2, cur2, rfl, _, hg2, _⟩
    · simp [Value.ownBlock] at hb'
    · simp only [Value.ownBlock, Option.some.injEq] at hb hb'
      subst hb
      subst hb'
      rw [hg1] at hg2
      injection hg2 with hg2
      injection hg2 with _ h3
      exact hne h3
theorem TB.keep {w w' : World} {g : Nat} {v : Value} {ls : List LK} {S : Nat → Prop} (h : TB w g v ls) (hf : Fr w w' S) (h1 : ¬ S g) (h2 : ∀ b, v.ownBlock = some b → ¬ S b) : TB w' g v ls :=
  ⟨h.blk.keep hf h1, h.own.keep hf h2, h.ok, h.few, h.g2, h.v2⟩
theorem RelI.hold {w w3 w4 : World} {g : Nat} {v v' vg : Value} {st : List LK × List Nat} {ls' : List LK} (h : RelI w g v v' st vg w3) (hc : Chg w3 w4 g v' v' ls') (he : v'.ownBlock = v.ownBlock) : RelI w g v v' (ls', st.2) vg w4 := by
  refine ⟨hc.tb, h.got.keep hc.fr fun b hb hS => ?_, h.new, h.fr.same (hc.fr.mono fun b _ hb => hb.imp id fun e => by rw [← he]; exact e)⟩
  rcases hS with rfl | hS
  · exact Blk.own_ne h.tb.blk h.got (by decide) hb.symm
  · exact own_apart h.got h.tb.own (by decide) b hb hS
theorem RelI.app {w w4 w5 : World} {g : Nat} {v v' vg vg' : Value} {ls' : List LK} {got : List Nat} {x : Nat} {o : Obj} (h : RelI w g v v' (ls', got) vg w4) (ho : OwR w5 34 1 uf vg' (got ++ [x])) (hg : (w4.alloc o).grownBy w5 vg.ownBlock) (hb : vg'.ownBlock = vg.ownBlock ∨ vg'.ownBlock = some (w4.alloc o).heap.size) :
    RelI w g v v' (ls', got ++ [x]) vg' w5 := by
  have hf : Fr w4 w5 (fun b => vg.ownBlock = some b) := ((Fr.refl w4 _).alloc o).grown hg fun k hk => Or.inl hk
  refine ⟨h.tb.keep hf (fun e => Blk.own_ne h.tb.blk h.got (by decide) e.symm) (fun b hb' e => own_apart h.got h.tb.own (by decide) b e hb'), ho, fun b hb' => ?_, h.fr.trans hf fun b e => Or.inr (h.new b e)⟩
  rcases hb with hb | hb
  · exact h.new b (by rw [← hb]; exact hb')
  · rw [hb] at hb'
    injection hb' with hb'
    rw [← hb']
    have := h.fr.size
    simp
    omega
theorem blk_chg {w w' : World} {a g : Nat} {v v' : Value} {ls ls' : List LK} {l : LK} (h : Blk w a 46 (lcs l)) (hT : TB w g v ls) (hc : Chg w w' g v v' ls') (hz : v.ownBlock ≠ some a) : Blk w' a 46 (lcs l) :=
  h.keep hc.fr fun e => e.elim (fun e => Blk.ne_ h hT.blk (by decide) e) hz
set_option maxRecDepth 100000 in
set_option maxHeartbeats 4000000 in
theorem release_any (t g : Nat) (v : Value) (ls : List LK) (w : World) (hT : TB w g v ls) (hg : Gw w) :
    Calls Tryd.prog 19 #[.pointer (some ⟨g, 0, none⟩), .int .u32 (t : Int)] w (RelO w g v (releaseM t ls)) := by
  obtain ⟨W, hW⟩ : ∃ W, W = w.alloc (.cells #[.int .u32 (t : Int)] 34) := ⟨_, rfl⟩
  have hb : Below w.heap.size w W := by rw [hW]; exact (Below.refl _ _).alloc (Nat.le_refl _) _
  have hk : Blk W w.heap.size 34 #[.int .u32 (t : Int)] := by rw [hW]; exact Blk.new _ _ _
  have HB := Lib.hid hb
  have HD := Lib.hid (delete_any t w.heap.size v ls W (hT.own.up hb) hT.few hk)
  have c0 := (hT.up hb).blk.cell 0
  have f0 := (hT.up hb).blk.frozen 0
  simp only [List.getElem?_toArray, List.getElem?_cons_zero] at c0
  have HT := Lib.hid hT
  have HG := Lib.hid hg
  have HST := Lib.hid (show ∀ w1 v', OwR w1 46 7 lf v' (keptM t ls) → v'.ownBlock = v.ownBlock → Fr W w1 (fun b => v.ownBlock = some b) → RelI w g v v' (keptM t ls, []) (.slice none 0 0) (w1.setCell ⟨g, 0, none⟩ v') from fun w1 v' ho he hf => by
    have hk1 : Blk w1 g 29 #[v] := (hT.up hb).blk.keep hf fun e => hT.ne e
    have hne : ∀ b, v'.ownBlock = some b → ¬ b = g := fun b h1 h2 => hT.ne (by rw [← he, h1, h2])
    have hs : Fr w1 (w1.setCell ⟨g, 0, none⟩ v') (fun b => b = g) := fr_set (Fr.refl _ _) 0 _
    refine ⟨⟨hk1.set_ 0 v', ho.keep hs hne, fun l hl => hT.ok l (List.mem_filter.1 hl).1, Nat.le_trans (List.length_filter_le _ _) hT.few, hT.g2, fun b h => hT.v2 b (by rw [← he]; exact h)⟩, OwR.nil_ _ _ _ _, fun b h => by simp [Value.ownBlock] at h, ?_⟩
    exact ((Fr.of_below hb _).same (hf.mono fun b _ h => Or.inr h)).same (hs.mono fun b _ h => Or.inl h))
  clear hb hk hT hg
  go_enter Tryd.func19, Tryd.ntmps19
  go_upto_region 1 with fail
  rw [← hW]
  clear hW
  go_upto_region 3 with fail
  obtain ⟨K, hK⟩ : ∃ K, K = keptM t ls := ⟨_, rfl⟩
  obtain ⟨n, hn⟩ : ∃ n, n = K.length := ⟨_, rfl⟩
  have HK := Lib.hid hK
  have HN := Lib.hid hn
  have HE := Lib.hid (show releaseM t ls = passM K n by rw [hn, hK]; rfl)
  rw [← hK] at HST
  clear hK hn
  go_wp2_with (go_at_call 38; go_loud (with_reducible refine HD.out.mono ?_; rintro e w1 hd; obtain ⟨v', hev, ho, he, hf⟩ := hd.out; subst hev; clear hd; rw [← HK.out] at ho; obtain ⟨A', c', hv', _⟩ := ho.form; rw [← HN.out] at hv'; subst hv'; have c1 := (World.cell?_of_block (hf.block g (block_lt_of_cell c0) HT.out.ne)).trans c0; have f1 := ((HT.out.blk.below HB.out HT.out.blk.lt).keep hf HT.out.ne).frozen 0; have HR := Lib.hid (HST.out w1 _ ho he hf); have HVE := Lib.hid he; clear ho he hf))
  obtain ⟨w2, hw2⟩ : ∃ w2, w1.setCell ⟨g, 0, none⟩ (.slice A' n c') = w2 := ⟨_, rfl⟩
  rw [hw2] at HR ⊢
  have HNF := Lib.hid (show n ≤ 16384 by have := HR.out.tb.few; rwa [← HN.out] at this)
  have HSL := Lib.hid (show ∀ i, (passM K i).1.length = n ∧ (passM K i).2.length ≤ i from fun i => by rw [HN.out]; exact passM_len K i)
  clear hw2 c1 f1 f0 c0
  go_loopw [5, 24] (fun vg i wr => ∃ k : Nat, k ≤ n ∧ i = .int .i64 (k : Int) ∧ RelI w g v (.slice A' n c') (passM K k) vg wr) (fun _ i _ => n - (intOf i).toNat)
  case atStart => exact ⟨0, by omega, rfl, HR.out⟩
  case round =>
    obtain ⟨k, hk, rfl, hr⟩ := hrel
    have HR2 := Lib.hid hr
    by_cases hlt : k < n
    · obtain ⟨st, hst⟩ : ∃ st, st = passM K k := ⟨_, rfl⟩
      have hl : (passM K k).1[k]? = some ((passM K k).1[k]'(by have := (HSL.out k).1; omega)) := List.getElem?_eq_getElem _
      generalize (passM K k).1[k]'(by have := (HSL.out k).1; omega) = l at hl
      obtain ⟨A2, c2, he2, _, _, hTR⟩ := hr.tb.tr
      rw [(HSL.out k).1] at he2
      injection he2 with he2 _ he3
      subst he2 he3
      obtain ⟨b, rfl, hcs⟩ := hTR.row k l hl
      obtain ⟨z0, z1, z2, z3, z4, z5, z6⟩ := hcs
      have hin : ((k : Int) < (n : Int)) := by omega
      have e1 : IntKind.i64.wrap ((k : Int) + 1) = ((k + 1 : Nat) : Int) := by rw [IntWalk.i64_in _ (by have := HNF.out; omega)]; omega
      obtain ⟨w3, hw3⟩ : ∃ w3, w3 = wr.alloc (.cells #[.int .u32 (l.t : Int), .bool l.x.r, .int .u32 (l.x.i : Int), .string l.x.a, .string l.x.b, .int .i64 l.m, .bool l.h] 46) := ⟨_, rfl⟩
      have hb3 : Below wr.heap.size wr w3 := by rw [hw3]; exact (Below.refl _ _).alloc (Nat.le_refl _) _
      have hk3 : Blk w3 wr.heap.size 46 (lcs l) := by rw [hw3]; exact Blk.new _ _ _
      have HK3 := Lib.hid hk3
      have HR3 := Lib.hid (hr.up hb3)
      obtain ⟨k0, k1, k2, k3, k4, k5, k6⟩ := act7 hk3
      have HHO := Lib.hid (hold_any g _ _ w3 (hr.up hb3).tb ((hr.up hb3).gw HT.out HG.out) k (by have := (HSL.out k).1; omega))
      have HL := Lib.hid hl
      have HGD := Lib.hid (getD_of hl)
      have HPS := Lib.hid (passM_succ K k)
      have HNZ := Lib.hid (show (Value.slice (some ⟨b, 0, none⟩) n c').ownBlock ≠ some wr.heap.size from fun e => Nat.lt_irrefl _ (hr.tb.own.lt e))
      clear hr hb3 hk3 hl hTR hst
      go_upto_region 8 with fail
      rw [← hw3]
      clear hw3 z0 z1 z2 z3 z4 z5 z6
      cases hh : l.h with
      | true =>
        rw [hh] at k6
        have HP := Lib.hid (show passM K (k + 1) = passM K k by rw [HPS.out]; unfold relS; rw [HGD.out, if_pos hh])
        clear hh
        go_wp2_with fail
        go_roundw
        case rel => exact ⟨k + 1, by omega, by go_num, by rw [HP.out]; exact HR3.out⟩
        case measure => simp [intOf]; omega
      | false =>
        rw [hh] at k6
        cases hf : freeM (passM K k).1 k with
        | false =>
          rw [hf] at HHO
          have HP := Lib.hid (show passM K (k + 1) = (setH (passM K k).1 k false, (passM K k).2) by rw [HPS.out]; unfold relS; rw [HGD.out, if_neg (by rw [hh]; exact Bool.false_ne_true), hf, if_neg Bool.false_ne_true])
          clear hh hf
          go_wp2_with (go_at_call 40; with_reducible refine HHO.out.mono ?_; rintro e w4 ⟨rfl, hch⟩; have HR4 := Lib.hid (HR3.out.hold hch HVE.out); clear hch)
          go_roundw
          case rel => exact ⟨k + 1, by omega, by go_num, by rw [HP.out]; exact HR4.out⟩
          case measure => simp [intOf]; omega
        | true =>
          rw [hf] at HHO
          have HP := Lib.hid (show passM K (k + 1) = (setH (passM K k).1 k true, (passM K k).2 ++ [l.t]) by rw [HPS.out]; unfold relS; rw [HGD.out, if_neg (by rw [hh]; exact Bool.false_ne_true), hf, if_pos rfl])
          clear hh hf
          go_upto_region 9 with (go_at_call 40; with_reducible refine HHO.out.mono ?_; rintro e w4 ⟨rfl, hch⟩; have HR4 := Lib.hid (HR3.out.hold hch HVE.out); have HK4 := Lib.hid (blk_chg HK3.out HR3.out.tb hch HNZ.out); obtain ⟨k0, k1, k2, k3, k4, k5, k6⟩ := act7 HK4.out; have HO4 := Lib.hid (HR4.out.got.up ((Below.refl _ _).alloc (Nat.le_refl _) (.cells #[.int .u32 (l.t : Int)] 34))); have HR5 := Lib.hid (one_app (f := uf) (k := 1) w4 34 l.t); clear hch)
          go_wp2_with (at_builtin; go_must (refine wpList_appR K34 uf_len uf_one rfl (.tmp 37) (.tmp 40) rfl _ _ rfl HO4.out (some ⟨w4.heap.size, 0, none⟩) 1 1 [l.t] rfl rfl HR5.out (by have := (HSL.out k).2; have := HNF.out; omega) (by have := (HSL.out k).2; have := HNF.out; omega) ?_); intro v5 w5 hv5 hg5 hb5; have HR6 := Lib.hid (HR4.out.app hv5 hg5 hb5); clear hv5 hg5 hb5)
          go_roundw
          case rel => exact ⟨k + 1, by omega, by go_num, by rw [HP.out]; exact HR6.out⟩
          case measure => simp [intOf]; omega
    · obtain rfl : k = n := by omega
      have hin : ¬ ((k : Int) < (k : Int)) := by omega
      clear hr
      go_wp2_with fail
      go_ret
      have h := HR2.out
      rw [HE.out]
      exact ⟨_, _, rfl, h.got, h.new, h.tb, h.fr, fun b hb => Or.inl (by rw [← HVE.out]; exact hb)⟩
end Go.Proofs.YtlblgfpafdfilaaDoor
