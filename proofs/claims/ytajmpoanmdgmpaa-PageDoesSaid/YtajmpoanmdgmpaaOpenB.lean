/-
  BYTES THAT COME IN, WITH THEIR BOUND.
-/
import Derived.Test.YtajmpoanmdgmpaaOpen
namespace Go.Proofs.Ytajmpoanmdgmpaa
open Go.RowKit Go.ChangeShapes Go.WideShapes Go.ChangeAt

def InB (w : World) (A : Option Addr) (n c : Nat) (l : List Nat) : Prop := RB w (fun b => b < w.heap.size) A n l ∧ n ≤ c ∧ n ≤ 140737488351232 ∧ (A = none → c = 0)

set_option maxRecDepth 100000 in
theorem in_open {H : Type} {enc : TypeId × Value → H} {W : World} {a : Option Addr} {n c : Nat} {d : DataW H} {p : List MemPlace}
    (h : DataW.Trod enc Try.prog W 0 (fun _ => true) true 32 (.slice a n c) d p)
    (hw : ∀ elems spare, d = .slice elems spare → (elems.length + spare.length) * Try.prog.bytesOf 5 ≤ reachBytes) : ∃ l, InB W a n c l := by
  obtain ⟨fuel, hf⟩ := h
  rcases open_ints Try.underlying32 Try.underlying5 (by kernel_rfl) hf with ⟨hcs, hx⟩ | ⟨x, l, c', zs, hcs, _, hl, hm, hz, hx, hcell, hwz⟩
  · simp [Value.cells] at hcs
    obtain ⟨rfl, rfl, rfl⟩ := hcs
    exact ⟨[], RB.nil_, Nat.le_refl _, by omega, fun _ => rfl⟩
  · simp [Value.cells] at hcs
    obtain ⟨rfl, rfl, rfl⟩ := hcs
    simp only [Prod.mk.injEq] at hx
    obtain ⟨hd, _⟩ := hx
    have hr := hw _ _ hd
    rw [bytes5] at hr
    simp only [if_true] at hz
    simp only [lits, List.length_map, List.length_take, List.length_drop, reachBytes] at hr
    have hbd : ∀ z ∈ zs, 0 ≤ z ∧ z ≤ 255 := fun z hz => by simpa [Lit.wf, IntKind.min, IntKind.max, IntKind.signed, IntKind.bits] using hwz z hz
    refine ⟨(zs.take n).map Int.toNat, ⟨by simp; omega, ?_, fun hn => ?_⟩, hl, by omega, fun e => by cases e⟩
    · intro y hy
      simp only [List.mem_map] at hy
      obtain ⟨z, hz1, rfl⟩ := hy
      have := hbd z (List.mem_of_mem_take hz1)
      omega
    · have hb := World.block_lt_of_cell? W _ (hcell 0 (by omega))
      rw [block_of_add] at hb
      refine ⟨x, rfl, hb, hb, fun j hj => ?_⟩
      rw [hcell j (by omega)]
      have hjz : j < zs.length := by omega
      have := hbd zs[j] (List.getElem_mem hjz)
      have e1 : zs.getD j 0 = zs[j] := by simp [hjz]
      have e2 : ((zs.take n).map Int.toNat).getD j 0 = zs[j].toNat := by simp [hj, hjz]
      rw [e1, e2, Int.toNat_of_nonneg this.1]
end Go.Proofs.Ytajmpoanmdgmpaa
