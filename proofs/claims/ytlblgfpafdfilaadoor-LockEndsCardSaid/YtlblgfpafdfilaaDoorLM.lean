/-
  STAGE 12: hold.
-/
import Derived.Test.YtlblgfpafdfilaaDoorLH
import Derived.Test.YtlblgfpafdfilaaDoorLL
namespace Go.Proofs.YtlblgfpafdfilaaDoor
open Go.RowKit Go.Sort

theorem Cs.held {w : World} {b o : Nat} {l : LK} (h : Cs w b o l) : w.cell? ⟨b, o + 6, none⟩ = some (.bool l.h) := h.2.2.2.2.2.2
/-- the lock at place p is held, or not -/
def setH (ls : List LK) (p : Nat) (r : Bool) : List LK := ls.set p { (ls.getD p okz) with h := r }
theorem setH_ok {ls : List LK} {p : Nat} {r : Bool} (h : ∀ l ∈ ls, l.Ok) (hp : p < ls.length) : ∀ l ∈ setH ls p r, l.Ok := by
  intro l hl
  rcases List.mem_or_eq_of_mem_set hl with hl | rfl
  · exact h l hl
  · have hm : ls.getD p okz ∈ ls := by
      rw [List.getD_eq_getElem?_getD, List.getElem?_eq_getElem hp]
      exact List.getElem_mem _
    have := h _ hm
    exact ⟨this.t, this.i, this.a, this.b, this.m1, this.m4⟩
/-- a table changed: nothing else -/
structure Chg (w w' : World) (g : Nat) (v v' : Value) (ls' : List LK) : Prop where
  tb : TB w' g v' ls'
  fr : Fr w w' fun b => b = g ∨ v.ownBlock = some b
  own : ∀ b, v'.ownBlock = some b → v.ownBlock = some b ∨ w.heap.size ≤ b
theorem Chg.gw {w w' : World} {g : Nat} {v v' : Value} {ls ls' : List LK} (h : Chg w w' g v v' ls') (hT : TB w g v ls) (hg : Gw w) : Gw w' := hg.keep h.fr fun b hb => hb.elim (fun e => by rw [e]; exact hT.g2) fun e => hT.v2 b e
set_option maxRecDepth 100000 in
set_option maxHeartbeats 2000000 in
theorem hold_any (g : Nat) (v : Value) (ls : List LK) (w : World) (hT : TB w g v ls) (hg : Gw w) (p : Nat) (hp : p < ls.length) :
    Calls Tryd.prog 40 #[.pointer (some ⟨g, 0, none⟩), .int .i64 (p : Int)] w fun e w' => e = .returned (.bool (freeM ls p)) ∧ Chg w w' g v v (setH ls p (freeM ls p)) := by
  obtain ⟨A, c, rfl, hc, h0, hTR⟩ := hT.tr
  have hl : ls[p]? = some ls[p] := List.getElem?_eq_getElem hp
  have HGD := Lib.hid (getD_of hl)
  generalize ls[p] = l at hl HGD
  obtain ⟨b, rfl, hcs⟩ := hTR.row p l hl
  have hp2 : (p : Int) < (ls.length : Int) := by omega
  have HI := Lib.hid ((isFree_any g (some ⟨b, 0, none⟩) c ls w.drew (hTR.up (Below.refl _ _).drew) (hg.below (Below.refl _ _).drew) p hp).mono fun e w' (h : e = .returned (.bool (freeM ls p)) ∧ RowKit.Below w.drew.heap.size w.drew w') => (⟨h.1, below_drew h.2⟩ : e = .returned (.bool (freeM ls p)) ∧ RowKit.Below w.heap.size w w'))
  have HCS := Lib.hid hcs
  have hne : ¬ b = g := fun e => hT.ne (by rw [← e]; rfl)
  have hne2 : ¬ g = b := fun e => hne e.symm
  have HT := Lib.hid hT
  have HL := Lib.hid hl
  have HP := Lib.hid hp
  have c0 := hT.blk.cell 0
  have f6 := hT.own.frozen (p * 7 + 6)
  simp only [List.getElem?_toArray, List.getElem?_cons_zero] at c0
  unfold setH
  rw [HGD.out]
  generalize freeM ls p = r at HI ⊢
  obtain ⟨n, hn⟩ : ∃ n, n = ls.length := ⟨_, rfl⟩
  rw [← hn] at c0 hp2
  have HN := Lib.hid hn
  clear hT hg hl hTR hcs hp h0 hc hn
  go_enter Tryd.func40, Tryd.ntmps40
  go_upto_region 1 with fail
  go_region_held3 (fun w' => w'.cell? ⟨g, 0, none⟩ = some (.slice (some ⟨b, 0, none⟩) n c)) (go_keep) (first
    | (go_at_call 64; with_reducible refine HI.out.mono ?_; rintro e w1 ⟨rfl, hb1⟩; have HB1 := Lib.hid hb1; have HT1 := Lib.hid (HT.out.up hb1); have k0 := HT1.out.blk.cell 0; simp only [List.getElem?_toArray, List.getElem?_cons_zero] at k0; rw [← HN.out] at k0; have k6 := HT1.out.own.frozen (p * 7 + 6); have k7 := (HCS.out.up HB1.out).held; clear hb1))
  obtain ⟨w2, hw2⟩ : ∃ w2, w1.setCell ⟨b, p * 7 + 6, none⟩ (.bool r) = w2 := ⟨_, rfl⟩
  have hlo := HT1.out.ok l (List.mem_of_getElem? HL.out)
  have HC := Lib.hid (show Chg w w2 g (.slice (some ⟨b, 0, none⟩) ls.length c) (.slice (some ⟨b, 0, none⟩) ls.length c) (ls.set p { l with h := r }) by
    rw [← hw2]
    refine ⟨⟨HT1.out.blk.far hne2 _, HT1.out.own.set_ lf_len HL.out (by decide) rfl, fun y hy => ?_, by rw [List.length_set]; exact HT1.out.few, HT1.out.g2, HT1.out.v2⟩, ?_, fun q hq => Or.inl hq⟩
    · rcases List.mem_or_eq_of_mem_set hy with hy | rfl
      · exact HT1.out.ok y hy
      · exact ⟨hlo.t, hlo.i, hlo.a, hlo.b, hlo.m1, hlo.m4⟩
    · exact ((Fr.of_below HB1.out _).setCell (p := ⟨b, p * 7 + 6, none⟩) (Or.inl (Or.inr rfl)) _))
  have c2 : w2.cell? ⟨g, 0, none⟩ = some (.slice (some ⟨b, 0, none⟩) n c) := by
    have := HC.out.tb.blk.cell 0
    simp only [List.getElem?_toArray, List.getElem?_cons_zero] at this
    rwa [← HN.out] at this
  have c3 : w2.cell? ⟨b, p * 7 + 6, none⟩ = some (.bool r) := by
    obtain ⟨b', c', e', _, hat⟩ := HC.out.tb.own.at_ lf_len (i := p) (x := { l with h := r }) (by rw [List.getElem?_set_self HP.out])
    injection e' with e1 e2 e3
    injection e1 with e1
    injection e1 with e1
    subst e1
    exact hat 6 _ rfl
  rw [hw2]
  clear hw2 hlo k0 k6 k7 c0 f6
  go_wp2_with fail
  go_ret
  exact ⟨rfl, HC.out⟩
end Go.Proofs.YtlblgfpafdfilaaDoor
