/-
STAGE 12: the document's Reaches, its walk.
-/
import Derived.Test.YtlblgfpafdfilaaDoorNL
namespace Go.Proofs.YtlblgfpafdfilaaDoor
open Go.RowKit

theorem below_grown_ {w w' : World} {B : Nat} {row : Option Nat} (hg : w.grownBy w' row) (hr : ∀ b, row = some b → B ≤ b) (hB : B ≤ w.heap.size) : Below B w w' :=
  ⟨hg.os, hg.tape, hg.output, hg.size, fun k hk => hg.block k (by omega) fun e => by have := hr k e.symm; omega⟩
theorem one_app_ {α : Type} {f : α → List Value} {k : Nat} (w : World) (e : TypeId) (y : α) : ∀ i x j u, [y][i]? = some x → (f x)[j]? = some u → ∃ ad, some (⟨w.heap.size, 0, none⟩ : Addr) = some ad ∧ (w.alloc (.cells (f y).toArray e)).cell? (ad.add (i * k + j)) = some u := by
  intro i x j u hi hj
  cases i with
  | succ i => simp at hi
  | zero =>
    simp at hi
    subst hi
    refine ⟨_, rfl, ?_⟩
    rw [add_head, (Blk.new w e (f y).toArray).cell]
    simpa using hj
/-- a slice reads as pairs -/
def PRow (w : World) (A : Option Addr) (P : List (Nat × Nat)) : Prop := ∀ i p, P[i]? = some p → ∃ b, A = some ⟨b, 0, none⟩ ∧ w.cell? ⟨b, i * 2, none⟩ = some (.int .u32 (p.1 : Int)) ∧ w.cell? ⟨b, i * 2 + 1, none⟩ = some (.int .u32 (p.2 : Int))
theorem PRow.up {w w' : World} {A : Option Addr} {P : List (Nat × Nat)} (h : PRow w A P) (hb : RowKit.Below w.heap.size w w') : PRow w' A P := fun i x hi => by
  obtain ⟨b, e, h1, h2⟩ := h i x hi
  exact ⟨b, e, (hb.cell (block_lt_of_cell h1)).trans h1, (hb.cell (block_lt_of_cell h2)).trans h2⟩
theorem OwR.prow {w : World} {A : Option Addr} {M c : Nat} {P : List (Nat × Nat)} (h : OwR w 47 2 pf (.slice A M c) P) : PRow w A P := fun i x hx => by
  obtain ⟨b, c', e, _, hat⟩ := h.at_ pf_len hx
  injection e with e1 _ _
  exact ⟨b, e1, hat 0 _ rfl, hat 1 _ rfl⟩
/-- how many a slice has -/
def lenV : Value → Nat
  | .slice _ n _ => n
  | _ => 0
theorem QU.len {w : World} {v : Value} {l : List Nat} (h : QU w v l) : lenV v = l.length := by
  obtain ⟨g, off, cap, cur, rfl, _⟩ := h
  rfl
theorem OwR.len_ {α : Type} {w : World} {e : TypeId} {k : Nat} {f : α → List Value} {v : Value} {l : List α} (h : OwR w e k f v l) : lenV v = l.length := by
  obtain ⟨A, c, rfl, _⟩ := h.form
  rfl
/-- what is seen, and what is left -/
structure RQ (w wr : World) (s l : Value) (S L : List Nat) : Prop where
  sn : OwR wr 34 1 uf s S
  lf : QU wr l L
  s2 : ∀ b, s.ownBlock = some b → w.heap.size ≤ b
  l2 : ∀ b, l.ownBlock = some b → w.heap.size ≤ b
  ap : ∀ b, s.ownBlock = some b → l.ownBlock ≠ some b
  bel : RowKit.Below w.heap.size w wr
theorem RQ.up {w wr w2 : World} {s l : Value} {S L : List Nat} (h : RQ w wr s l S L) (hb : RowKit.Below wr.heap.size wr w2) : RQ w w2 s l S L :=
  ⟨h.sn.up hb, h.lf.up hb, h.s2, h.l2, h.ap, h.bel.trans (hb.mono h.bel.size)⟩
theorem RQ.addS {w wr w2 : World} {s l s' : Value} {S L : List Nat} {x : Nat} {o : Obj} (h : RQ w wr s l S L) (ho : OwR w2 34 1 uf s' (S ++ [x])) (hg : (wr.alloc o).grownBy w2 s.ownBlock) (hb : s'.ownBlock = s.ownBlock ∨ s'.ownBlock = some (wr.alloc o).heap.size) : RQ w w2 s' l (S ++ [x]) L := by
  have hs := h.bel.size
  have hf : Fr wr w2 (fun b => s.ownBlock = some b) := ((Fr.refl wr _).alloc o).grown hg fun k hk => Or.inl hk
  refine ⟨ho, h.lf.keep hf fun b hb' e => h.ap b e hb', fun b hb' => ?_, h.l2, fun b hb' e => ?_, ?_⟩
  · rcases hb with hb | hb
    · exact h.s2 b (by rw [← hb]; exact hb')
    · rw [hb] at hb'; injection hb' with hb'; rw [← hb']; simp; omega
  · rcases hb with hb | hb
    · exact h.ap b (by rw [← hb]; exact hb') e
    · rw [hb] at hb'; injection hb' with hb'
      have := h.lf.lt e
      rw [← hb'] at this
      simp at this
      omega
  · exact h.bel.trans (((Below.refl w.heap.size wr).alloc hs _).trans (below_grown_ hg (fun b hb => h.s2 b hb) (by simp; omega)))
theorem RQ.addL {w wr w2 : World} {s l l' : Value} {S L : List Nat} {x : Nat} {o : Obj} (h : RQ w wr s l S L) (ho : QU w2 l' (L ++ [x])) (hg : (wr.alloc o).grownBy w2 l.ownBlock) (hb : l'.ownBlock = l.ownBlock ∨ l'.ownBlock = some (wr.alloc o).heap.size) : RQ w w2 s l' S (L ++ [x]) := by
  have hs := h.bel.size
  have hf : Fr wr w2 (fun b => l.ownBlock = some b) := ((Fr.refl wr _).alloc o).grown hg fun k hk => Or.inl hk
  refine ⟨h.sn.keep hf fun b hb' e => h.ap b hb' e, ho, h.s2, fun b hb' => ?_, fun b hb' e => ?_, ?_⟩
  · rcases hb with hb | hb
    · exact h.l2 b (by rw [← hb]; exact hb')
    · rw [hb] at hb'; injection hb' with hb'; rw [← hb']; simp; omega
  · rcases hb with hb | hb
    · exact h.ap b hb' (by rw [← hb]; exact e)
    · rw [hb] at e; injection e with e
      have := h.sn.lt hb'
      rw [← e] at this
      simp at this
      omega
  · exact h.bel.trans (((Below.refl w.heap.size wr).alloc hs _).trans (below_grown_ hg (fun b hb => h.l2 b hb) (by simp; omega)))
/-- what is left, without its head -/
theorem QU.tail {w : World} {g off n c u : Nat} {l : List Nat} (h : QU w (.slice (some ⟨g, off, none⟩) n c) (u :: l)) : w.cell? ⟨g, off, none⟩ = some (.int .u32 (u : Int)) ∧ 1 ≤ n ∧ n ≤ c ∧ c ≤ maxLen ∧ QU w (.slice (some (if c = 1 then ⟨g, off, none⟩ else ⟨g, off + 1, none⟩)) (n - 1) (c - 1)) l := by
  obtain ⟨g', off', cap, cur, e, hg, hnc, hcm, hsz, hat⟩ := h
  injection e with e1 e2 e3
  injection e1 with e1
  injection e1 with e1 e4
  subst e1 e2 e3 e4
  have h0 := hat 0 u rfl
  rw [Nat.add_zero] at h0
  rw [List.length_cons] at hnc
  refine ⟨by rw [hg.cell]; exact h0, by simp, by simpa using hnc, hcm, ?_⟩
  rw [List.length_cons, Nat.add_sub_cancel]
  by_cases hc : c = 1
  · rw [if_pos hc]
    refine ⟨g, off, c - 1, cur, rfl, hg, by omega, by omega, by omega, fun j x hj => ?_⟩
    have := (List.getElem?_eq_some_iff.1 hj).1
    omega
  · rw [if_neg hc]
    refine ⟨g, off + 1, c - 1, cur, rfl, hg, by omega, by omega, by omega, fun j x hj => ?_⟩
    have := hat (j + 1) x (by simpa using hj)
    rwa [show off + 1 + j = off + (j + 1) by omega]
set_option maxRecDepth 100000 in
set_option maxHeartbeats 8000000 in
theorem reaches_any (w : World) (A : Option Addr) (n c : Nat) (P : List (Nat × Nat)) (hlen : P.length = n) (hR : PRow w A P) (hn : n ≤ 1000000000) (x y : Nat) :
    Calls Tryd.prog 25 #[.slice A n c, .int .u32 (x : Int), .int .u32 (y : Int)] w fun e w' => ∃ r, e = .returned (.bool r) ∧ (r = true ↔ PR P x y) ∧ Below w.heap.size w w' := by
  have HR := Lib.hid hR
  have HL := Lib.hid hlen
  have HN := Lib.hid hn
  obtain ⟨w1, hw1⟩ : ∃ w1, w1 = w.alloc (.cells #[] 34) := ⟨_, rfl⟩
  have hb1 : Below w.heap.size w w1 := by rw [hw1]; exact (Below.refl _ _).alloc (Nat.le_refl _) _
  have hz1 : w1.heap.size = w.heap.size + 1 := by rw [hw1]; simp
  obtain ⟨w2, hw2⟩ : ∃ w2, w2 = w1.alloc (.cells #[.int .u32 (x : Int)] 34) := ⟨_, rfl⟩
  have hb2 : Below w1.heap.size w1 w2 := by rw [hw2]; exact (Below.refl _ _).alloc (Nat.le_refl _) _
  have HRQ := Lib.hid (show RQ w w2 (.slice (some ⟨w.heap.size, 0, none⟩) 0 0) (.slice (some ⟨w.heap.size + 1, 0, none⟩) 1 1) [] [x] from by
    have ho : OwR w1 34 1 uf (.slice (some ⟨w.heap.size, 0, none⟩) 0 0) [] := by rw [hw1]; exact World.ownsRow_made w #[] 0 (Nat.zero_le _) (Nat.zero_le _) rfl
    refine ⟨ho.up hb2, by rw [hw2, ← hz1]; exact QU.new w1 x, fun b hb => ?_, fun b hb => ?_, fun b hb e => ?_, hb1.trans (hb2.mono hb1.size)⟩
    · injection hb with hb; rw [← hb]; exact Nat.le_refl _
    · injection hb with hb
      have hb' : w.heap.size + 1 = b := hb
      omega
    · injection hb with hb
      injection e with e
      have e' : w.heap.size + 1 = b := e
      have hb' : w.heap.size = b := hb
      omega)
  clear hR hlen hb1 hb2
  go_enter Tryd.func25, Tryd.ntmps25
  go_wp2_with fail
  rw [← hw1, ← hw2]
  clear hw1 hw2 hz1
  go_loopw [7, 8] (fun s l wr => ∃ S L, RQ w wr s l S L ∧ BF P x y S L ∧ L.length ≤ S.length + 1) (fun s l _ => n + lenV l - lenV s)
  case atStart => exact ⟨_, _, HRQ.out, BF.start P x y, by simp⟩
  case round =>
    obtain ⟨S, L, hrq, hbf, hls⟩ := hrel
    have HLS := Lib.hid hls
    clear hls
    have HQ := Lib.hid hrq
    have HB := Lib.hid hbf
    have HML := Lib.hid hrq.lf.len
    have HMS := Lib.hid hrq.sn.len_
    cases L with
    | nil =>
      obtain ⟨g, off, cap, cur, rfl, hg, hnc, hcm, _⟩ := hrq.lf.out
      clear hrq hbf hg
      have hgt : decide (((([] : List Nat).length : Nat) : Int) > 0) = false := by simp
      simp only [List.length_nil] at hgt ⊢
      go_wp2_with fail
      go_ret
      exact ⟨false, rfl, ⟨fun h => (by cases h), fun h => absurd h HB.out.end_⟩, HQ.out.bel⟩
    | cons u L =>
      obtain ⟨g, off, cap, cur, rfl, hg, hnc, hcm, _⟩ := hrq.lf.out
      obtain ⟨c0, h1, h2, h3, hq⟩ := hrq.lf.tail
      obtain ⟨m, hm⟩ : ∃ m, (u :: L).length = m := ⟨_, rfl⟩
      rw [hm] at h1 h2 hq HQ HML hnc ⊢
      have HT := Lib.hid hq
      have HM := Lib.hid hm
      have hgt : decide ((m : Int) > 0) = true := decide_eq_true (by omega)
      have hgt2 : (0 : Int) < (m : Int) := by omega
      have HI := Lib.hid (HB.out.take)
      have hm1 : (1 : Int) ≤ (m : Int) := by omega
      have hmc : (m : Int) ≤ (cap : Int) := by omega
      clear hrq hbf hg hq hm
      obtain ⟨a1, ha1⟩ : ∃ a1, a1 = (if cap = 1 then (⟨g, off, none⟩ : Addr) else ⟨g, off + 1, none⟩) := ⟨_, rfl⟩
      rw [← ha1] at HT
      go_upto_region 7 with fail
      all_goals
        first
        | (have hc : cap = 1 := by assumption
           rw [if_pos hc] at ha1
           subst hc)
        | (have hc : ¬ cap = 1 := by assumption
           rw [if_neg hc] at ha1)
        rw [← ha1]
        have HRI := Lib.hid (show RQ w wr u7 (.slice (some a1) (m - 1) _) S L from ⟨HQ.out.sn, HT.out, HQ.out.s2, fun b hb => HQ.out.l2 b (by rw [← hb, ha1]; rfl), fun b hb e => HQ.out.ap b hb (by rw [← e, ha1]; rfl), HQ.out.bel⟩)
        have HLL := Lib.hid (show L.length = m - 1 by have := HM.out; rw [List.length_cons] at this; omega)
        clear hgt hgt2 hm1 hmc c0 hnc h2 h3 hcm ha1
        go_loopw [7, 8, 10] (fun s l i wi => ∃ (k : Nat) (S2 L2 : List Nat), k ≤ n ∧ i = .int .i64 (k : Int) ∧ RQ w wi s l S2 L2 ∧ BI P x y u k S2 L2 ∧ L2.length + S.length = L.length + S2.length) (fun _ _ i _ => n - (intOf i).toNat)
        case atStart => exact ⟨0, S, L, by omega, rfl, HRI.out, HI.out, rfl⟩
        case round =>
          obtain ⟨k, S2, L2, hk, rfl, hrq, hbi, hln⟩ := hrel
          have HQ2 := Lib.hid hrq
          have HB2 := Lib.hid hbi
          have HLN := Lib.hid hln
          by_cases hlt : k < n
          · have hp : P[k]? = some (P[k]'(by have := HL.out; omega)) := List.getElem?_eq_getElem _
            generalize P[k]'(by have := HL.out; omega) = p at hp
            obtain ⟨b, rfl, c1, c2⟩ := (HR.out.up hrq.bel) k p hp
            have HP := Lib.hid hp
            have hin : ((k : Int) < (n : Int)) := by omega
            have e1 : IntKind.i64.wrap ((k : Int) + 1) = ((k + 1 : Nat) : Int) := by rw [IntWalk.i64_in _ (by have := HN.out; omega)]; omega
            obtain ⟨As, cs, rfl, hle, hmx, _⟩ := hrq.sn.form
            have hfew := hbi.few
            have HIN := Lib.hid (in_any wr As S2.length cs S2 rfl hrq.sn.ur (by have := HL.out; have := HN.out; omega) p.2)
            have HFW := Lib.hid (show S2.length ≤ n by have := HL.out; omega)
            obtain ⟨ns, hns⟩ : ∃ ns, S2.length = ns := ⟨_, rfl⟩
            rw [hns] at HIN HQ2 ⊢
            have HNS := Lib.hid hns
            have d1 : ((p.1 : Int) != (u : Int)) = !(p.1 == u) := congrArg (!·) (nbeq_ p.1 u)
            have d2 := nbeq_ p.2 y
            obtain ⟨f, hf⟩ : ∃ f, (p.1 == u) = f := ⟨_, rfl⟩
            obtain ⟨f2, hf2⟩ : ∃ f2, (p.2 == y) = f2 := ⟨_, rfl⟩
            obtain ⟨f3, hf3⟩ : ∃ f3, decide (p.2 ∈ S2) = f3 := ⟨_, rfl⟩
            rw [hf] at d1
            rw [hf2] at d2
            rw [hf3] at HIN
            have HE1 := Lib.hid hf
            have HE2 := Lib.hid hf2
            have HE3 := Lib.hid hf3
            clear hrq hbi hln hp hle hmx hfew hns hf hf2 hf3
            cases f with
            | false =>
              have HN2 := Lib.hid (HB2.out.skip HP.out (Or.inl (by simpa using HE1.out)))
              go_wp2_with fail
              go_roundw
              case rel => exact ⟨k + 1, S2, L2, by omega, by go_num, HQ2.out, HN2.out, HLN.out⟩
              case measure => simp [intOf]; omega
            | true =>
              cases f3 with
              | true =>
                have HN2 := Lib.hid (HB2.out.skip HP.out (Or.inr (of_decide_eq_true HE3.out)))
                go_wp2_with (go_at_call 50; with_reducible refine HIN.out.mono ?_; rintro e w3 ⟨rfl, rfl⟩)
                go_roundw
                case rel => exact ⟨k + 1, S2, L2, by omega, by go_num, HQ2.out, HN2.out, HLN.out⟩
                case measure => simp [intOf]; omega
              | false =>
                cases f2 with
                | true =>
                  have HW := Lib.hid (show PR P x y by have := HB2.out.way HP.out (eq_of_beq HE1.out); rwa [eq_of_beq HE2.out] at this)
                  go_wp2_with (go_at_call 50; with_reducible refine HIN.out.mono ?_; rintro e w3 ⟨rfl, rfl⟩)
                  go_ret
                  exact ⟨true, rfl, ⟨fun _ => HW.out, fun _ => rfl⟩, HQ2.out.bel⟩
                | false =>
                  have HN2 := Lib.hid (HB2.out.add HP.out (eq_of_beq HE1.out) (of_decide_eq_false HE3.out) (by simpa using HE2.out))
                  have HO3 := Lib.hid (show OwR (wr.alloc (.cells #[.int .u32 (p.2 : Int)] 34)) 34 1 uf (.slice As ns cs) S2 from HQ2.out.sn.up ((Below.refl _ _).alloc (Nat.le_refl _) _))
                  have HR3 := Lib.hid (one_app_ (f := uf) (k := 1) wr 34 p.2)
                  go_upto_region 12 with (go_at_call 50; with_reducible refine HIN.out.mono ?_; rintro e w3 ⟨rfl, rfl⟩)
                  go_upto_region 13 with (at_builtin; go_must (refine wpList_appR K34 uf_len uf_one rfl (.tmp 51) (.tmp 57) rfl (.slice As ns cs) S2 rfl HO3.out (some ⟨wr.heap.size, 0, none⟩) 1 1 [p.2] rfl rfl HR3.out (by have := HFW.out; have := HN.out; omega) (by have := HFW.out; have := HN.out; omega) ?_); intro v' w4 hv4 hg4 hb4; have HQ4 := Lib.hid (HQ2.out.addS hv4 hg4 hb4); obtain ⟨c1, c2⟩ : w4.cell? ⟨b, k * 2, none⟩ = some (.int .u32 (p.1 : Int)) ∧ w4.cell? ⟨b, k * 2 + 1, none⟩ = some (.int .u32 (p.2 : Int)) := (by obtain ⟨b', e', q1, q2⟩ := (HR.out.up HQ4.out.bel) k p HP.out; injection e' with e'; injection e' with e'; subst e'; exact ⟨q1, q2⟩); clear hv4 hg4 hb4)
                  have HL4 := Lib.hid (show QU (w4.alloc (.cells #[.int .u32 (p.2 : Int)] 34)) u8 L2 from HQ4.out.lf.up ((Below.refl _ _).alloc (Nat.le_refl _) _))
                  have hy4 := (Blk.new w4 34 #[.int .u32 (p.2 : Int)]).cell 0
                  simp only [List.getElem?_toArray, List.getElem?_cons_zero] at hy4
                  have HY4 := Lib.hid hy4
                  clear hy4
                  go_wp2_with (at_builtin; go_must (refine wpList_appQ rfl (.tmp 59) (.tmp 65) rfl u8 L2 rfl HL4.out ⟨w4.heap.size, 0, none⟩ 1 p.2 rfl HY4.out (by have := HLL.out; have := HN.out; have h2 := HLS.out; rw [List.length_cons] at h2; have := HFW.out; have := HLN.out; omega) ?_); intro v5 w5 hv5 hg5 hb5; have HQ5 := Lib.hid (HQ4.out.addL hv5 hg5 hb5); clear hv5 hg5 hb5)
                  go_roundw
                  case rel => exact ⟨k + 1, S2 ++ [p.2], L2 ++ [p.2], by omega, by go_num, HQ5.out, HN2.out, by have := HLN.out; simp only [List.length_append, List.length_singleton]; omega⟩
                  case measure => simp [intOf]; omega
          · obtain rfl : k = n := by omega
            have hin : ¬ ((k : Int) < (k : Int)) := by omega
            clear hrq hbi hln
            go_wp2_with fail
            go_roundw
            case rel => exact ⟨S2, L2, HQ2.out, by have := HB2.out; rw [← HL.out] at this; exact this.done, by have h1 := HLN.out; have h2 := HLS.out; rw [List.length_cons] at h2; omega⟩
            case measure =>
              have h1 := HQ2.out.sn.len_
              have h2 := HQ2.out.lf.len
              have h3 := HB2.out.few
              have h4 := HLN.out
              have h5 := HLL.out
              have h6 := HMS.out
              have h7 := HML.out
              have h8 := HL.out
              omega
end Go.Proofs.YtlblgfpafdfilaaDoor
