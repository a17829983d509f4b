/-
SA
-/
import Derived.Test.YtdhgbkibbileiaaGreatRU
namespace Go.Proofs.YtdhgbkibbileiaaGreat
open Go.RowKit
def encIE (i : IE) : List Nat := Cd.vi i.t ++ encP i.k i.x i.es
def noopE (o : ON) : Bool := decide (o.k = 0) && (decide (o.s = 0) && (decide (o.t = 0) && decide (o.d.length = 0)))
def fmE (r : RE) : List (Bool × Bool × List Nat) := [(uT r.k, decide (r.t = 0), Cd.vi r.t), (uP r.k, decide (r.a = 0), Cd.vi r.a), (uU r.k, decide (r.b = 0), Cd.vi r.b), (uO r.k, decide (r.pg = 0), Cd.vi r.pg), (uO r.k, decide (r.rt = 0), Cd.vi r.rt),
 (uO r.k, noopE r.o, encO r.o.k r.o.s r.o.t r.o.d), (uI r.k, decide (r.il.length = 0), encL encIE r.il), (uC r.k, decide (r.ll.length = 0), encL encV r.ll), (uC r.k, decide (r.dl.length = 0), encL encD r.dl), (uC r.k, decide (r.nx = 0), Cd.vi r.nx)]
def foE (r : RE) : Bool := ((decide (r.o.k = 3) || decide (r.o.k = 4)) == decide (r.k = 3)) && (rightP (if r.rt = 0 then 1 else 2) r.o.k r.o.s r.o.t r.o.d.length && (decide (0 ≤ r.o.s) && decide (r.o.s < 60)))
def freshE (l : List IE) : Bool := l.all fun x => decide (x.s = 0) && may x.k x.es
def fitsE (r : RE) : Bool :=
 if r.k = 2 ∨ r.k = 3 then decide (r.pg ≠ 0) && (foE r && decide (r.t ≠ 0))
 else if r.k = 1 ∨ r.k = 5 ∨ r.k = 6 ∨ r.k = 7 then decide (r.t ≠ 0)
 else if r.k = 4 then decide (0 < r.il.length) && (rising 0 (r.il.map IE.t) && freshE r.il)
 else if r.k = 8 then rising 0 (r.ll.map LV.t) && rising 0 (r.dl.map DV.t)
 else false
def okE (r : RE) : Bool := (fmE r).all fun x => x.1 || x.2.1
def encE (r : RE) : List Nat := Cd.fixB 1 (kb r.k) ++ (fmE r).flatMap encX
def bytesE (r : RE) : List Nat := if fitsE r && (okE r && decide ((encE r).length + 2 ≤ 16384)) then Cd.fixB 2 ((encE r).length + 2) ++ encE r else []
theorem encL_e (l : List IV) : encL encIE (l.map IV.e) = encL encI l := by
 unfold encL
 rw [List.length_map, List.flatMap_map]
 rfl
theorem fm_e {w : World} {T : Nat → Prop} {r : RV} (h : r.In w T) : fm r = fmE r.e := by
 have h1 : r.o.d.length = r.o.m := h.o.b.len
 have h2 := h.i.1
 have h3 := h.l.1
 have h4 := h.d.1
 have e1 : noop r.o = noopE r.e.o := by unfold noop noopE RV.e OV.n; simp only [h1]
 unfold fm fmE
 rw [← e1]
 unfold RV.e OV.n
 simp only [encL_e, List.length_map, h2, h3, h4]
theorem fits_e {w : World} {T : Nat → Prop} {r : RV} (h : r.In w T) : fitsB r = fitsE r.e := by
 have h1 : r.o.d.length = r.o.m := h.o.b.len
 have h2 := h.i.1
 have e1 : fo r = foE r.e := by unfold fo foE RV.e OV.n; simp only [h1]
 have e2 : freshB r.il = freshE r.e.il := by unfold freshB freshE RV.e; simp only [List.all_map]; rfl
 have e3 : r.il.map IV.t = r.e.il.map IE.t := by unfold RV.e; simp only [List.map_map]; rfl
 have e4 : r.e.il.length = r.im := by unfold RV.e; simp only [List.length_map, h2]
 unfold fitsB fitsE
 rw [e1, e2, e3, e4]
 rfl
theorem bytes_e {w : World} {T : Nat → Prop} {r : RV} (h : r.In w T) : bytesR r = bytesE r.e := by
 have e : encF r = encE r.e := by unfold encF encE; rw [fm_e h]; rfl
 unfold bytesR bytesE okF okE
 rw [fits_e h, fm_e h, e]
structure BriefE (r : RE) : Prop where
 o : r.o.d.length ≤ 2000
 i : r.il.length ≤ 20001
 p : ∀ x ∈ r.il, x.es.length ≤ 20001 ∧ (∀ y ∈ x.es, y.d.length ≤ 20001) ∧ (x.es.flatMap encC).length ≤ 190000000
 it : (r.il.flatMap encIE).length ≤ 189000000
 l : r.ll.length ≤ 20001
 d : r.dl.length ≤ 20001
theorem Brief.of_e {w : World} {T : Nat → Prop} {r : RV} (h : r.In w T) (hb : BriefE r.e) : Brief r := by
 have h1 : r.o.d.length = r.o.m := h.o.b.len
 have h2 := h.i.1
 have h3 := h.l.1
 have h4 := h.d.1
 refine ⟨?_, ?_, fun x hx => ?_, ?_, ?_, ?_⟩
 ·rw [← h1]; exact hb.o
 ·rw [← h2]; have := hb.i; unfold RV.e at this; simpa using this
 ·obtain ⟨p1, p2, p3⟩ := hb.p x.e (List.mem_map_of_mem hx)
  have hxi := h.i.2.1 x hx
  have hl := hxi.p.r.1
  refine ⟨?_, fun y hy => ?_, ?_⟩
  ·rw [← hl]; unfold IV.e PV.es at p1; simpa using p1
  ·have := p2 y.e (List.mem_map_of_mem hy)
   have hy2 := (hxi.p.r.2.1 y hy).len
   rw [← hy2]; exact this
  ·unfold IV.e PV.es at p3
   rw [List.flatMap_map] at p3
   exact p3
 ·have := hb.it
  unfold RV.e at this
  rw [List.flatMap_map] at this
  exact this
 ·rw [← h3]; exact hb.l
 ·rw [← h4]; exact hb.d
theorem rR_sum (ok : Bool) (l : List Nat) (n : Int) : (rR ok l n).1.length + (rR ok l n).2.2.length ≤ l.length := by
 unfold rR valO leftO takeO
 cases ok
 ·simp
 ·by_cases h : 0 ≤ n ∧ n ≤ l.length
  ·rw [if_pos h]; simp only [List.length_take, List.length_drop]; omega
  ·rw [if_neg h]; simp
theorem rC_sum (ok : Bool) (l : List Nat) : (rC ok l).1.d.length + (rC ok l).2.2.length ≤ l.length := by
 by_cases h0 : (rI ok l).1 = 0
 ·rw [rC_zero ok l h0]
  have := rI_le ok l
  simpa [cz] using this
 ·rw [rC_pos ok l h0]
  have h1 := rR_sum (rI (rI ok l).2.1 (rI ok l).2.2).2.1 (rI (rI ok l).2.1 (rI ok l).2.2).2.2 (i64n (rI ok l).1)
  have h2 := rI_le (rI ok l).2.1 (rI ok l).2.2
  have h3 := rI_le ok l
  simp only
  omega
theorem rC_k (ok : Bool) (l : List Nat) : (rC ok l).1.k < 4294967296 := by
 by_cases h0 : (rI ok l).1 = 0
 ·rw [rC_zero ok l h0]; simp [cz]
 ·rw [rC_pos ok l h0]; exact n32_lt _
theorem rC_enc (ok : Bool) (l : List Nat) (hl : l.length ≤ 20000) : (encC (rC ok l).1).length + (rC ok l).2.2.length ≤ l.length + 20 := by
 have h1 := rC_sum ok l
 have h2 := vi_len (rC ok l).1.d.length (by omega)
 have h3 := vi_len (rC ok l).1.k (by have := rC_k ok l; omega)
 unfold encC
 split
 ·rw [List.length_append, List.length_append]; omega
 ·rw [List.length_append]; simp; omega
theorem rLC_sum (n : Nat) (ok : Bool) (l : List Nat) (hl : l.length ≤ 20000) : (rLC n ok l).1.length + (rLC n ok l).2.2.length ≤ l.length + 1 ∧ ((rLC n ok l).1.flatMap encC).length + (rLC n ok l).2.2.length ≤ l.length + 20 * (rLC n ok l).1.length ∧ ∀ y ∈ (rLC n ok l).1, y.d.length ≤ 20000 := by
 induction n generalizing ok l with
 | zero => simp [rLC]
 | succ n ih =>
   cases ok with
   | false => rw [rLC_no]; simp
   | true =>
     have hle := rC_le true l
     obtain ⟨h1, h2, h3⟩ := ih (rC true l).2.1 (rC true l).2.2 (by omega)
     have h4 := rC_enc true l hl
     have h5 := rC_less true l
     have h6 := rC_sum true l
     simp only [rLC, if_true, List.length_cons, List.flatMap_cons, List.length_append, List.mem_cons]
     refine ⟨?_, by omega, fun y hy => ?_⟩
     ·cases hb : (rC true l).2.1 with
      | true => have := h5 hb; rw [hb] at h1; omega
      | false => rw [hb, rLC_no] at h1; rw [rLC_no]; simp at h1 ⊢; omega
     ·rcases hy with rfl | hy
      ·omega
      ·exact h3 y hy
theorem rLCs_sum (ok : Bool) (l : List Nat) (hl : l.length ≤ 20000) : (rLCs ok l).1.length + (rLCs ok l).2.2.length ≤ l.length + 1 ∧ ((rLCs ok l).1.flatMap encC).length + (rLCs ok l).2.2.length ≤ l.length + 20 * (rLCs ok l).1.length ∧ ∀ y ∈ (rLCs ok l).1, y.d.length ≤ 20000 := by
 have h1 := rI_le ok l
 obtain ⟨h2, h3, h4⟩ := rLC_sum (rI ok l).1 (rI ok l).2.1 (rI ok l).2.2 (by omega)
 unfold rLCs
 exact ⟨by omega, by omega, h4⟩
theorem rJ_sum (ok : Bool) (l : List Nat) (hl : l.length ≤ 20000) : (rJ ok l).1.es.length ≤ 20001 ∧ (∀ y ∈ (rJ ok l).1.es, y.d.length ≤ 20001) ∧ ((rJ ok l).1.es.flatMap encC).length ≤ 190000000 ∧ (encIE (rJ ok l).1).length + 21 * (rJ ok l).2.2.length ≤ 21 * l.length + 51 := by
 obtain ⟨a, ha⟩ : ∃ a, a = rI ok l := ⟨_, rfl⟩
 obtain ⟨b, hb⟩ : ∃ b, b = rB a.2.1 a.2.2 := ⟨_, rfl⟩
 obtain ⟨c, hc⟩ : ∃ c, c = rI b.2.1 b.2.2 := ⟨_, rfl⟩
 obtain ⟨d, hd⟩ : ∃ d, d = rLCs c.2.1 c.2.2 := ⟨_, rfl⟩
 have e : rJ ok l = (⟨n32 a.1, i64n b.1, 0, n32 c.1, d.1⟩, d.2) := by unfold rJ; rw [hd, hc, hb, ha]
 have l1 := rI_le ok l
 have l2 := rB_le a.2.1 a.2.2
 have l3 := rI_le b.2.1 b.2.2
 rw [← ha] at l1
 rw [← hb] at l2
 rw [← hc] at l3
 obtain ⟨h1, h2, h3⟩ := rLCs_sum c.2.1 c.2.2 (by omega)
 rw [← hd] at h1 h2 h3
 rw [e]
 refine ⟨by show d.1.length ≤ _; omega, fun y hy => Nat.le_trans (h3 y hy) (by decide), by show (d.1.flatMap encC).length ≤ _; omega, ?_⟩
 have v1 := vi_len (n32 a.1) (by have := n32_lt a.1; omega)
 have v2 := vi_len (n32 c.1) (by have := n32_lt c.1; omega)
 have v3 := vi_len d.1.length (by omega)
 unfold encIE encP encL
 simp only [List.length_append, Cd.fixB_len]
 omega
theorem rLJ_sum (n : Nat) (ok : Bool) (l : List Nat) (hl : l.length ≤ 20000) : (rLJ n ok l).1.length + (rLJ n ok l).2.2.length ≤ l.length + 1 ∧ ((rLJ n ok l).1.flatMap encIE).length + 21 * (rLJ n ok l).2.2.length ≤ 21 * l.length + 51 * (rLJ n ok l).1.length ∧ ∀ x ∈ (rLJ n ok l).1, x.es.length ≤ 20001 ∧ (∀ y ∈ x.es, y.d.length ≤ 20001) ∧ (x.es.flatMap encC).length ≤ 190000000 := by
 induction n generalizing ok l with
 | zero => simp [rLJ]
 | succ n ih =>
   cases ok with
   | false => rw [rLJ_no]; simp
   | true =>
     have hle := rJ_le true l
     obtain ⟨h1, h2, h3⟩ := ih (rJ true l).2.1 (rJ true l).2.2 (by omega)
     obtain ⟨k1, k2, k3, h4⟩ := rJ_sum true l hl
     have h5 := rJ_less true l
     simp only [rLJ, if_true, List.length_cons, List.flatMap_cons, List.length_append, List.mem_cons]
     refine ⟨?_, by omega, fun y hy => ?_⟩
     ·cases hb : (rJ true l).2.1 with
      | true => have := h5 hb; rw [hb] at h1; omega
      | false => rw [hb, rLJ_no] at h1; rw [rLJ_no]; simp at h1 ⊢; omega
     ·rcases hy with rfl | hy
      ·exact ⟨k1, k2, k3⟩
      ·exact h3 y hy
theorem rLV_sum (n : Nat) (ok : Bool) (l : List Nat) : (rLV n ok l).1.length + (rLV n ok l).2.2.length ≤ l.length + 1 := by
 induction n generalizing ok l with
 | zero => simp [rLV]
 | succ n ih =>
   cases ok with
   | false => rw [rLV_no]; simp
   | true =>
     have hle := rV_le true l
     have h1 := ih (rV true l).2.1 (rV true l).2.2
     have h5 := rV_less true l
     simp only [rLV, if_true, List.length_cons]
     cases hb : (rV true l).2.1 with
     | true => have := h5 hb; rw [hb] at h1; omega
     | false => rw [hb, rLV_no] at h1; rw [rLV_no]; simp at h1 ⊢; omega
theorem rLD_sum (n : Nat) (ok : Bool) (l : List Nat) : (rLD n ok l).1.length + (rLD n ok l).2.2.length ≤ l.length + 1 := by
 induction n generalizing ok l with
 | zero => simp [rLD]
 | succ n ih =>
   cases ok with
   | false => rw [rLD_no]; simp
   | true =>
     have hle := rD_le true l
     have h1 := ih (rD true l).2.1 (rD true l).2.2
     have h5 := rD_less true l
     simp only [rLD, if_true, List.length_cons]
     cases hb : (rD true l).2.1 with
     | true => have := h5 hb; rw [hb] at h1; omega
     | false => rw [hb, rLD_no] at h1; rw [rLD_no]; simp at h1 ⊢; omega
theorem fsteps_brief (k : Int) : ∀ m ∈ fsteps k, ∀ r ok l, l.length ≤ 20000 → BriefE r → BriefE (m.2 r ok l).1 ∧ (m.2 r ok l).1.s = r.s ∧ (m.2 r ok l).1.k = r.k := by
 intro m hm r ok l hl h
 unfold fsteps at hm
 simp only [List.mem_cons, List.not_mem_nil, or_false] at hm
 have hli := rI_le ok l
 rcases hm with rfl | rfl | rfl | rfl | rfl | rfl | rfl | rfl | rfl | rfl
 ·exact ⟨⟨h.o, h.i, h.p, h.it, h.l, h.d⟩, rfl, rfl⟩
 ·exact ⟨⟨h.o, h.i, h.p, h.it, h.l, h.d⟩, rfl, rfl⟩
 ·exact ⟨⟨h.o, h.i, h.p, h.it, h.l, h.d⟩, rfl, rfl⟩
 ·exact ⟨⟨h.o, h.i, h.p, h.it, h.l, h.d⟩, rfl, rfl⟩
 ·exact ⟨⟨h.o, h.i, h.p, h.it, h.l, h.d⟩, rfl, rfl⟩
 ·exact ⟨⟨Nat.le_trans (rT_in _ _).1 (by decide), h.i, h.p, h.it, h.l, h.d⟩, rfl, rfl⟩
 ·obtain ⟨h1, h2, h3⟩ := rLJ_sum (rI ok l).1 (rI ok l).2.1 (rI ok l).2.2 (by omega)
  exact ⟨⟨h.o, by show (rLJ _ _ _).1.length ≤ _; omega, h3, by show ((rLJ _ _ _).1.flatMap encIE).length ≤ _; omega, h.l, h.d⟩, rfl, rfl⟩
 ·have h1 := rLV_sum (rI ok l).1 (rI ok l).2.1 (rI ok l).2.2
  exact ⟨⟨h.o, h.i, h.p, h.it, by show (rLV _ _ _).1.length ≤ _; omega, h.d⟩, rfl, rfl⟩
 ·have h1 := rLD_sum (rI ok l).1 (rI ok l).2.1 (rI ok l).2.2
  exact ⟨⟨h.o, h.i, h.p, h.it, h.l, by show (rLD _ _ _).1.length ≤ _; omega⟩, rfl, rfl⟩
 ·exact ⟨⟨h.o, h.i, h.p, h.it, h.l, h.d⟩, rfl, rfl⟩
theorem runS_brief (ms : List (Bool × Step)) (hms : ∀ m ∈ ms, (∀ r ok l, l.length ≤ 20000 → BriefE r → BriefE (m.2 r ok l).1 ∧ (m.2 r ok l).1.s = r.s ∧ (m.2 r ok l).1.k = r.k) ∧ ∀ r ok l, (m.2 r ok l).2.2.length ≤ l.length) (r : RE) (ok : Bool) (l : List Nat) (hl : l.length ≤ 20000) (h : BriefE r) :
  BriefE (runS ms r ok l).1 ∧ (runS ms r ok l).1.s = r.s ∧ (runS ms r ok l).1.k = r.k := by
 induction ms generalizing r ok l with
 | nil => exact ⟨h, rfl, rfl⟩
 | cons m ms ih =>
   obtain ⟨a, b⟩ := hms m List.mem_cons_self
   have hms' := fun m hm => hms m (List.mem_cons_of_mem _ hm)
   cases hb : m.1 with
   | true =>
     simp only [runS, hb, if_true]
     obtain ⟨a1, a2, a3⟩ := a r ok l hl h
     obtain ⟨c1, c2, c3⟩ := ih hms' (m.2 r ok l).1 (m.2 r ok l).2.1 (m.2 r ok l).2.2 (Nat.le_trans (b r ok l) hl) a1
     exact ⟨c1, c2.trans a2, c3.trans a3⟩
   | false =>
     simp only [runS, hb, Bool.false_eq_true, if_false]
     exact ih hms' r ok l hl h
theorem readR_brief (l : List Nat) (hl : l.length ≤ 20000) : BriefE (readR l) ∧ (readR l).s = 0 ∧ (readR l).k = i64n (rB true l).1 :=
 runS_brief _ (fun m hm => ⟨fsteps_brief _ m hm, fsteps_le _ m hm⟩) _ _ _ (Nat.le_trans (rB_le true l) hl) ⟨by show (0 : Nat) ≤ _; decide, by show (0 : Nat) ≤ _; decide, (fun x hx => by cases hx), by show (0 : Nat) ≤ _; decide, by show (0 : Nat) ≤ _; decide, by show (0 : Nat) ≤ _; decide⟩
end Go.Proofs.YtdhgbkibbileiaaGreat
