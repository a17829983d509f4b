/-
  THE WALKS OF kill, wake.
-/
import Derived.Test.YtajmpoanmdgmpaaSC
import Derived.Test.YtajmpoanmdgmpaaPW
namespace Go.Proofs.Ytajmpoanmdgmpaa
open Go.RowKit

/-- an operation is done to the page in block g: the cells es -/
def DidOk (w : World) (S T : Nat → Prop) (g : Nat) (p : PV) (es : List CE) (e : Ending) (w' : World) : Prop :=
  ∃ p' S' T', e = .returned (.int .i64 0) ∧ Blk w' g 26 (pcs p') ∧ PO w' S' T' p' ∧ p'.es = es ∧ (p'.k = p.k ∧ p'.s = p.s ∧ p'.x = p.x) ∧ (∀ b, S' b → S b ∨ w.heap.size ≤ b) ∧ (∀ b, T' b → T b ∨ w.heap.size ≤ b) ∧ Fr w w' (fun b => b = g ∨ S b) ∧
    ((∀ x ∈ p.l, WB w T x.A x.m) → ∀ x ∈ p'.l, WB w' T' x.A x.m)
/-- .. is not done -/
def DidNo (w : World) (S : Nat → Prop) (g : Nat) (code : Int) (e : Ending) (w' : World) : Prop := e = .returned (.int .i64 code) ∧ Fr w w' (fun b => b = g ∨ S b)
theorem es_set {l : List CV} {s : Nat} {y : CV} : (l.set s y).map CV.e = (l.map CV.e).set s y.e := List.map_set
theorem PO.rowA {w : World} {S T : Nat → Prop} {p : PV} (h : PO w S T p) (h0 : 0 < p.n) : ∃ g, p.A = some ⟨g, 0, none⟩ ∧ S g ∧ ¬ T g ∧ g < w.heap.size ∧ (∀ j, w.frozen? ⟨g, j, none⟩ = false) := by
  obtain ⟨g, cap, e, hr, hS, hT⟩ := h.o.row h0
  injection e with e1 _ _
  exact ⟨g, e1, hS, hT, hr.lt, hr.frozen⟩

set_option maxRecDepth 100000 in
theorem kill_no (w : World) (S : Nat → Prop) (g : Nat) (at_ : Int) (t : Nat) : Calls Try.prog 85 #[.pointer (some ⟨g, 0, none⟩), .int .i64 at_, .bool false, .int .u32 (t : Int)] w (DidNo w S g 6) := by
  go_enter Try.func85, Try.ntmps85
  go_wp2_with fail
  go_ret
  exact ⟨rfl, Fr.refl _ _⟩
set_option maxHeartbeats 1000000 in
set_option maxRecDepth 100000 in
theorem kill_twice (w : World) (S T : Nat → Prop) (g : Nat) (p : PV) (hb : Blk w g 26 (pcs p)) (ho : PO w S T p) (hn : p.n ≤ 300) (s : Nat) (hs : s < p.n) (t : Nat) (x : CE) (hx : p.es[s]? = some x) (hk : x.k ≠ 0) :
    Calls Try.prog 85 #[.pointer (some ⟨g, 0, none⟩), .int .i64 (s : Int), .bool true, .int .u32 (t : Int)] w (DidNo w S g 7) := by
  obtain ⟨y0, y1, y2, y3⟩ := pcs_cells hb
  obtain ⟨g', o, xx, hA, hg', _, hxx, hxi, b0, b1, b2⟩ := ho.In.r.at_ hs
  have hxe : xx.e = x := by
    have h1 := es_at hxx
    have h2 : (p.l.map CV.e)[s]? = some x := hx
    rw [h1] at h2
    injection h2
  have hkk : xx.k ≠ 0 := by rw [← hxe] at hk; exact hk
  have z0 : ((xx.k : Int) != 0) = true := bne_iff_ne.2 (by omega)
  have hws : IntKind.i64.wrap (s : Int) = (s : Int) := IntWalk.i64_in _ (by omega)
  rw [hA] at y3
  clear hb ho hA hxx hxi hxe hkk hx hk b0 b2
  go_enter Try.func85, Try.ntmps85
  go_wp2_with fail
  go_ret
  exact ⟨rfl, Fr.refl _ _⟩
set_option maxHeartbeats 1000000 in
set_option maxRecDepth 100000 in
theorem kill_yes (w : World) (S T : Nat → Prop) (g : Nat) (p : PV) (hb : Blk w g 26 (pcs p)) (hg : ¬ S g ∧ ¬ T g) (ho : PO w S T p) (hn : p.n ≤ 300) (s : Nat) (hs : s < p.n) (t : Nat) (ht : t < 4294967296) (x : CE) (hx : p.es[s]? = some x) (hk : x.k = 0) :
    Calls Try.prog 85 #[.pointer (some ⟨g, 0, none⟩), .int .i64 (s : Int), .bool true, .int .u32 (t : Int)] w (DidOk w S T g p (p.es.set s { x with k := t })) := by
  obtain ⟨y0, y1, y2, y3⟩ := pcs_cells hb
  obtain ⟨g', o, xx, hA, hg', hSg, hxx, hxi, b0, b1, b2⟩ := ho.In.r.at_ hs
  obtain ⟨g'', hA2, hS2, hT2, _, hfz⟩ := ho.rowA (by omega)
  rw [hA] at hA2
  injection hA2 with hA2
  injection hA2 with e1 e2
  subst e1 e2
  have hxe : xx.e = x := by
    have h1 := es_at hxx
    have h2 : (p.l.map CV.e)[s]? = some x := hx
    rw [h1] at h2
    injection h2
  have hkk : xx.k = 0 := by rw [← hxe] at hk; exact hk
  have z0 : ((xx.k : Int) != 0) = false := bne_eq_false_iff_eq.2 (by omega)
  have hws : IntKind.i64.wrap (s : Int) = (s : Int) := IntWalk.i64_in _ (by omega)
  have hf1 := hfz (s * 3 + 1)
  rw [Nat.zero_add] at b0 b1 b2
  have HO := Lib.hid ho
  have HB := Lib.hid hb
  have HG := Lib.hid hg
  have HSG := Lib.hid (show S g' ∧ ¬ T g' from ⟨hS2, hT2⟩)
  have HXX := Lib.hid hxx
  have HXE := Lib.hid hxe
  have HA := Lib.hid hA
  rw [hA] at y3
  clear hb ho hg hxx hxi hxe hkk hx hk b0 b2 hfz hSg hS2 hT2 hA
  go_enter Try.func85, Try.ntmps85
  go_wp2_with fail
  go_ret
  have hf : Fr w (w.setCell ⟨g', s * 3 + 1, none⟩ (.int .u32 (t : Int))) (fun b => b = g') := fr_set (Fr.refl _ _) _ _
  have hne : g ≠ g' := fun e => HG.out.1 (e ▸ HSG.out.1)
  obtain ⟨pk, ps, px, A, n, c, l⟩ := p
  have hA := HA.out
  simp only at hA
  subst hA
  have h9 := HO.out.o
  simp only at h9
  refine ⟨⟨pk, ps, px, some ⟨g', 0, none⟩, n, c, l.set s { xx with k := t }⟩, S, T, rfl, HB.out.keep hf hne, ⟨h9.put1 HXX.out t ht, HO.out.nb, HO.out.k1, HO.out.k2, HO.out.s, HO.out.x⟩, ?_, ⟨rfl, rfl, rfl⟩, fun b hb => Or.inl hb, fun b hb => Or.inl hb, hf.mono fun b _ e => Or.inr (e ▸ HSG.out.1), fun hw y hy => ?_⟩
  · show (l.set s { xx with k := t }).map CV.e = (l.map CV.e).set s { x with k := t }
    rw [es_set, ← HXE.out]
    rfl
  · have hwy : WB w T y.A y.m := by
      rcases List.mem_or_eq_of_mem_set hy with hy | rfl
      · exact hw y hy
      · exact hw xx (List.mem_of_getElem? HXX.out)
    exact hwy.keep hf fun b hb e => HSG.out.2 (e ▸ hb)

set_option maxRecDepth 100000 in
theorem wake_no (w : World) (S : Nat → Prop) (g : Nat) (at_ : Int) : Calls Try.prog 86 #[.pointer (some ⟨g, 0, none⟩), .int .i64 at_, .bool false] w (DidNo w S g 6) := by
  go_enter Try.func86, Try.ntmps86
  go_wp2_with fail
  go_ret
  exact ⟨rfl, Fr.refl _ _⟩
set_option maxHeartbeats 1000000 in
set_option maxRecDepth 100000 in
theorem wake_none (w : World) (S T : Nat → Prop) (g : Nat) (p : PV) (hb : Blk w g 26 (pcs p)) (ho : PO w S T p) (hn : p.n ≤ 300) (s : Nat) (hs : s < p.n) (x : CE) (hx : p.es[s]? = some x) (hk : x.k = 0) :
    Calls Try.prog 86 #[.pointer (some ⟨g, 0, none⟩), .int .i64 (s : Int), .bool true] w (DidNo w S g 6) := by
  obtain ⟨y0, y1, y2, y3⟩ := pcs_cells hb
  obtain ⟨g', o, xx, hA, hg', _, hxx, hxi, b0, b1, b2⟩ := ho.In.r.at_ hs
  have hxe : xx.e = x := by
    have h1 := es_at hxx
    have h2 : (p.l.map CV.e)[s]? = some x := hx
    rw [h1] at h2
    injection h2
  have hkk : xx.k = 0 := by rw [← hxe] at hk; exact hk
  have z0 : ((xx.k : Int) == 0) = true := by rw [beq_iff_eq]; omega
  have hws : IntKind.i64.wrap (s : Int) = (s : Int) := IntWalk.i64_in _ (by omega)
  rw [hA] at y3
  clear hb ho hA hxx hxi hxe hkk hx hk b0 b2
  go_enter Try.func86, Try.ntmps86
  go_wp2_with fail
  go_ret
  exact ⟨rfl, Fr.refl _ _⟩
set_option maxHeartbeats 1000000 in
set_option maxRecDepth 100000 in
theorem wake_yes (w : World) (S T : Nat → Prop) (g : Nat) (p : PV) (hb : Blk w g 26 (pcs p)) (hg : ¬ S g ∧ ¬ T g) (ho : PO w S T p) (hn : p.n ≤ 300) (s : Nat) (hs : s < p.n) (x : CE) (hx : p.es[s]? = some x) (hk : x.k ≠ 0) :
    Calls Try.prog 86 #[.pointer (some ⟨g, 0, none⟩), .int .i64 (s : Int), .bool true] w (DidOk w S T g p (p.es.set s { x with k := 0 })) := by
  obtain ⟨y0, y1, y2, y3⟩ := pcs_cells hb
  obtain ⟨g', o, xx, hA, hg', hSg, hxx, hxi, b0, b1, b2⟩ := ho.In.r.at_ hs
  obtain ⟨g'', hA2, hS2, hT2, _, hfz⟩ := ho.rowA (by omega)
  rw [hA] at hA2
  injection hA2 with hA2
  injection hA2 with e1 e2
  subst e1 e2
  have hxe : xx.e = x := by
    have h1 := es_at hxx
    have h2 : (p.l.map CV.e)[s]? = some x := hx
    rw [h1] at h2
    injection h2
  have hkk : xx.k ≠ 0 := by rw [← hxe] at hk; exact hk
  have z0 : ((xx.k : Int) == 0) = false := beq_false_of_ne (by omega)
  have hws : IntKind.i64.wrap (s : Int) = (s : Int) := IntWalk.i64_in _ (by omega)
  have hf1 := hfz (s * 3 + 1)
  rw [Nat.zero_add] at b0 b1 b2
  have HO := Lib.hid ho
  have HB := Lib.hid hb
  have HG := Lib.hid hg
  have HSG := Lib.hid (show S g' ∧ ¬ T g' from ⟨hS2, hT2⟩)
  have HXX := Lib.hid hxx
  have HXE := Lib.hid hxe
  have HA := Lib.hid hA
  rw [hA] at y3
  clear hb ho hg hxx hxi hxe hkk hx hk b0 b2 hfz hSg hS2 hT2 hA
  go_enter Try.func86, Try.ntmps86
  go_wp2_with fail
  go_ret
  have hf : Fr w (w.setCell ⟨g', s * 3 + 1, none⟩ (.int .u32 0)) (fun b => b = g') := fr_set (Fr.refl _ _) _ _
  have hne : g ≠ g' := fun e => HG.out.1 (e ▸ HSG.out.1)
  obtain ⟨pk, ps, px, A, n, c, l⟩ := p
  have hA := HA.out
  simp only at hA
  subst hA
  have h9 := HO.out.o
  simp only at h9
  refine ⟨⟨pk, ps, px, some ⟨g', 0, none⟩, n, c, l.set s { xx with k := 0 }⟩, S, T, rfl, HB.out.keep hf hne, ⟨h9.put1 HXX.out 0 (by omega), HO.out.nb, HO.out.k1, HO.out.k2, HO.out.s, HO.out.x⟩, ?_, ⟨rfl, rfl, rfl⟩, fun b hb => Or.inl hb, fun b hb => Or.inl hb, hf.mono fun b _ e => Or.inr (e ▸ HSG.out.1), fun hw y hy => ?_⟩
  · show (l.set s { xx with k := 0 }).map CV.e = (l.map CV.e).set s { x with k := 0 }
    rw [es_set, ← HXE.out]
    rfl
  · have hwy : WB w T y.A y.m := by
      rcases List.mem_or_eq_of_mem_set hy with hy | rfl
      · exact hw y hy
      · exact hw xx (List.mem_of_getElem? HXX.out)
    exact hwy.keep hf fun b hb e => HSG.out.2 (e ▸ hb)
end Go.Proofs.Ytajmpoanmdgmpaa
