/-
STAGE 12: what LockPlays asks of the two tables.
-/
import Derived.Test.YtlblgfpafdfilaaDoorOB
import Derived.Test.YtlblgfpafdfilaaDoorNI
namespace Go.Proofs.YtlblgfpafdfilaaDoor
open Go.RowKit Go.Sort

section
variable {w0 w : World} {g h N : Nat} {l1 l2 : List LK}
theorem P2.few (p : P2 w0 w g h l1 l2) : l1.length ≤ 16384 := by
  obtain ⟨v1, v2, p⟩ := p
  exact p.t1.few
theorem P2.gw (p : P2 w0 w g h l1 l2) : Gw w := by
  obtain ⟨v1, v2, p⟩ := p
  exact p.gw
theorem P2.bel (p : P2 w0 w g h l1 l2) : RowKit.Below w0.heap.size w0 w := by
  obtain ⟨v1, v2, p⟩ := p
  exact p.bel
theorem P2.all (p : P2 w0 w g h l1 l2) (hN : l1.length = N) :
    Calls Tryd.prog 12 #[.pointer (some ⟨g, 0, none⟩)] w fun e w' => ∃ A c, e = .returned (.slice A N c) ∧ OwR w' 46 7 lf (.slice A N c) l1 ∧ Below w.heap.size w w' ∧ ∀ b, (Value.slice A N c).ownBlock = some b → w.heap.size ≤ b := by
  obtain ⟨v1, v2, p⟩ := p
  obtain ⟨A, c, _, _, h0, hTR⟩ := p.t1.tr
  exact (all_any g A c l1 w hTR h0).mono fun e w' ⟨v, he, hn⟩ => by
    obtain ⟨A', c', hv, _⟩ := hn.1.form
    rw [hN] at hv
    subst hv
    exact ⟨A', c', he, hn.1, hn.2.1, hn.2.2⟩
theorem P2.waits (p : P2 w0 w g h l1 l2) (hI : Inv l1) {M : Nat} (hM : (rwaitsM l1).length = M) :
    Calls Tryd.prog 13 #[.pointer (some ⟨g, 0, none⟩)] w fun e w' => ∃ A c, e = .returned (.slice A M c) ∧ OwR w' 47 2 pf (.slice A M c) (rwaitsM l1) ∧ Below w.heap.size w w' ∧ ∀ b, (Value.slice A M c).ownBlock = some b → w.heap.size ≤ b := by
  obtain ⟨v1, v2, p⟩ := p
  obtain ⟨A, c, _, _, _, hTR⟩ := p.t1.tr
  exact (waits_ofN _ w g A c l1 p.gw ((orNone_some g w).mono fun e w' ⟨he, hw⟩ => by subst hw; exact ⟨he, hTR, Below.refl _ _⟩)).mono fun e w' ⟨v, pl, he, hr, ho, hb, hn⟩ => by
    rw [waits_same hI hr] at ho
    obtain ⟨A', c', hv, _⟩ := ho.form
    rw [hM] at hv
    subst hv
    exact ⟨A', c', he, ho, hb, hn⟩
theorem P2.rwaits (p : P2 w0 w g h l1 l2) (hI : Inv l2) {M : Nat} (hM : (rwaitsM l2).length = M) :
    Calls Tryd.prog 16 #[.pointer (some ⟨h, 0, none⟩)] w fun e w' => ∃ A c, e = .returned (.slice A M c) ∧ PRow w' A (rwaitsM l2) ∧ Below w.heap.size w w' := by
  obtain ⟨v1, v2, p⟩ := p
  obtain ⟨A, c, _, _, _, hTR⟩ := p.t2.tr
  exact (rwaits_any h A c l2 w hTR hI).mono fun e w' ⟨v, he, hn⟩ => by
    obtain ⟨A', c', hv, _⟩ := hn.own.form
    rw [hM] at hv
    subst hv
    exact ⟨A', c', he, hn.own.prow, hn.bel⟩
theorem P2.victim (p : P2 w0 w g h l1 l2) (hF : Fine l1) (hL : Last l1) :
    Calls Tryd.prog 17 #[.pointer (some ⟨g, 0, none⟩)] w fun e w' => e = .returned (.int .u32 (rvM l1 : Int)) ∧ Below w.heap.size w w' := by
  obtain ⟨v1, v2, p⟩ := p
  obtain ⟨A, c, _, _, _, hTR⟩ := p.t1.tr
  obtain ⟨s, hs, h1, h2⟩ := victim_says hF hL p.t1.few
  rw [rv_eq h1 h2]
  exact victim_any w g A c l1 hTR p.gw _ s hs
theorem P2.rvictim (p : P2 w0 w g h l1 l2) (hI : Inv l2) :
    Calls Tryd.prog 18 #[.pointer (some ⟨h, 0, none⟩)] w fun e w' => e = .returned (.int .u32 (rvM l2 : Int)) ∧ Below w.heap.size w w' := by
  obtain ⟨v1, v2, p⟩ := p
  obtain ⟨A, c, _, _, _, hTR⟩ := p.t2.tr
  exact rvictim_any h A c l2 w hTR hI
theorem P2.c0 (p : P2 w0 w g h l1 l2) (hN : l2.length = N) : ∃ A c, w.cell? ⟨h, 0, none⟩ = some (.slice A N c) ∧ Row w A l2 := by
  obtain ⟨v1, v2, p⟩ := p
  obtain ⟨A, c, hv, _, _, hTR⟩ := p.t2.tr
  have := p.t2.blk.cell 0
  rw [hv, hN] at this
  exact ⟨A, c, by simpa using this, hTR.row⟩
end
section
variable {ops : Array Oper} {rest : List Oper} {o : Oper} {a : Act} {w : World} {Q : Exit → Act → World → Prop}
theorem size47 : (Tryd.prog.info? 47).map (·.size) = some 2 := by kernel_rfl
set_option maxRecDepth 100000 in
/-- a pair into a row of pairs -/
theorem wpList_stP (hgd : o.guard = none) (ty : TypeId) (x y : Operand) (ho : o.op = .store ty x y) (b i n c : Nat) (l : Nat × Nat) (cur : List (Nat × Nat)) (hx : a.eval x = .pointer (some ⟨b, i * 2, none⟩)) (hy : a.eval y = .agg (pf l).toArray)
    (hb : OwR w 47 2 pf (.slice (some ⟨b, 0, none⟩) n c) cur) (hn : cur.length = n) (hi : i < n) (ht : (Tryd.prog.info? ty).map (·.size) = some 2)
    (hK : ∀ w', OwR w' 47 2 pf (.slice (some ⟨b, 0, none⟩) n c) (cur.set i l) → Fr w w' (fun q => q = b) → wpList Tryd.prog ops Q rest (a.put o.dst undef) w') : wpList Tryd.prog ops Q (o :: rest) a w := by
  refine wpList_store_mid hgd ty x y ho b (i * 2) (pf l).toArray hx hy (fun j hj => ⟨?_, hb.frozen _⟩) (by rw [ht]; rfl) (all1 (by rfl)) ?_
  · have hj7 : j < 2 := hj
    obtain ⟨b', c', e', _, hat⟩ := hb.at_ pf_len (i := i) (x := cur[i]'(by omega)) (List.getElem?_eq_getElem _)
    injection e' with e1 _ _
    injection e1 with e1
    injection e1 with e1
    subst e1
    rw [hat j ((pf (cur[i]'(by omega)))[j]'(by rw [pf_len]; exact hj7)) (List.getElem?_eq_getElem _)]
    rfl
  · exact hK _ (hb.sets hn pf_len hi l) (Fr.sets w b _ _)
end
end Go.Proofs.YtlblgfpafdfilaaDoor
