/-
  THE WALK OF free FOR A LEAF.
-/
import Derived.Test.YtajmpoanmdgmpaaSG
import Derived.Test.YtajmpoanmdgmpaaSE
namespace Go.Proofs.Ytajmpoanmdgmpaa
open Go.RowKit

set_option maxHeartbeats 2000000 in
set_option maxRecDepth 100000 in
theorem free_leaf (w : World) (S T : Nat → Prop) (g : Nat) (p : PV) (hb : Blk w g 26 (pcs p)) (hg : ¬ S g ∧ ¬ T g) (ho : PO w S T p) (hk : p.k = 2) (hn : p.n ≤ 300) (s : Nat) (hs : s < p.n) :
    Calls Try.prog 87 #[.pointer (some ⟨g, 0, none⟩), .int .i64 (s : Int), .bool true] w (DidOk w S T g p (p.es.take s ++ p.es.drop (s + 1))) := by
  obtain ⟨y0, y1, y2, y3⟩ := pcs_cells hb
  obtain ⟨g', hA, hS2, hT2, _, _⟩ := ho.rowA (by omega)
  obtain ⟨pk, ps, px, A, n, c, l⟩ := p
  simp only at hA hk hn hs y0 y1 y2 y3
  subst hA hk
  obtain ⟨j, hj⟩ : ∃ j, j = s + 1 := ⟨_, rfl⟩
  have wj : IntKind.i64.wrap ((s : Int) + 1) = (j : Int) := by rw [IntWalk.i64_in _ (by omega)]; omega
  obtain ⟨k, hk⟩ : ∃ k, k = n - 1 := ⟨_, rfl⟩
  have hde := delete_any w S T g' n c l ho.o (by omega) s j hs hj
  unfold DelO at hde
  rw [← hk] at hde
  have HDE := Lib.hid hde
  have HO := Lib.hid ho
  have HB := Lib.hid hb
  have HG := Lib.hid hg
  have HSG := Lib.hid (show S g' ∧ ¬ T g' ∧ g ≠ g' from ⟨hS2, hT2, fun e => hg.1 (e ▸ hS2)⟩)
  have HK := Lib.hid (show k = n - 1 ∧ s < n from ⟨hk, hs⟩)
  clear hb hg ho hde hS2 hT2 hj hk
  go_enter Try.func87, Try.ntmps87
  go_wp2_with fail
  with_reducible refine HDE.out.mono ?_
  rintro e w2 ⟨rfl, ho2, hf2⟩
  have hbk := HB.out.keep hf2 HSG.out.2.2
  have n3 := hbk.cell 3
  have z3 := hbk.frozen 3
  simp only [pcs, List.getElem?_toArray, List.getElem?_cons_zero, List.getElem?_cons_succ] at n3
  obtain ⟨W3, hW3⟩ : ∃ W3, w2.setCell ⟨g, 3, none⟩ (.slice (some ⟨g', 0, none⟩) k c) = W3 := ⟨_, rfl⟩
  have HB3 := Lib.hid (show Blk W3 g 26 (pcs ⟨2, ps, px, some ⟨g', 0, none⟩, k, c, l.take s ++ l.drop (s + 1)⟩) by rw [← hW3]; exact hbk.set_ 3 _)
  have HF3 := Lib.hid (show Fr w2 W3 (fun b => b = g) by rw [← hW3]; exact fr_set (Fr.refl _ _) _ _)
  have HO2 := Lib.hid ho2
  have HF2 := Lib.hid hf2
  clear hbk ho2 hf2
  go_wp2_with fail
  go_ret
  refine ⟨⟨2, ps, px, some ⟨g', 0, none⟩, k, c, l.take s ++ l.drop (s + 1)⟩, S, T, rfl, HB3.out, ⟨HO2.out.keep HF3.out (fun b hb e => HG.out.1 (e ▸ hb)) (fun b hb e => HG.out.2 (e ▸ hb)), by have := HK.out.1; show k ≤ _; omega, HO.out.k1, HO.out.k2, HO.out.s, HO.out.x⟩, ?_, ⟨rfl, rfl, rfl⟩, fun b hb => Or.inl hb, fun b hb => Or.inl hb, (HF2.out.mono (T := fun b => b = g ∨ S b) fun b _ e => Or.inr (e ▸ HSG.out.1)).trans HF3.out fun b hb => Or.inl (Or.inl hb), fun hw y hy => ?_⟩
  · show (l.take s ++ l.drop (s + 1)).map CV.e = (l.map CV.e).take s ++ (l.map CV.e).drop (s + 1)
    rw [List.map_append, List.map_take, List.map_drop]
  · have hyl : y ∈ l := by
      rcases List.mem_append.1 hy with hy | hy
      · exact List.mem_of_mem_take hy
      · exact List.mem_of_mem_drop hy
    exact ((hw y hyl).keep HF2.out fun b hb e => HSG.out.2.1 (e ▸ hb)).keep HF3.out fun b hb e => HG.out.2 (e ▸ hb)
end Go.Proofs.Ytajmpoanmdgmpaa
