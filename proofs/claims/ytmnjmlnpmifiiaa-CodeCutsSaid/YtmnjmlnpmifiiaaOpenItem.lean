/-
  HOW AN ITEM THAT COMES IN BY VALUE IS OPENED.
-/
import Derived.Test.YtmnjmlnpmifiiaaOpen
import Derived.Lib.SmallJoins
namespace Go.Proofs.Ytmnjmlnpmifiiaa
open Go.ChangeShapes Go.WideShapes Go.ChangeAt Go.RowKit

theorem item_open {H : Type} {enc : TypeId × Value → H} {W : World} {base : Nat} {v : Value} {d : DataW H} {p : List MemPlace}
    (hv : Value.okWide Try.prog W .any base 31 v) (h : DataW.Trod enc Try.prog W 0 (fun _ => true) true 31 v d p) : ∃ it : It, it.Ok ∧ v = it.agg := by
  obtain ⟨v0, v1, v2, v3, y0, y1, y2, y3, n, rfl, _, _, g0, g1, g2, g3⟩ := Go.Joins.open_agg4 Try.underlying31 (by kernel_rfl) cells31 hv h
  obtain ⟨q0, e0, _, w0⟩ := DataW.trod_int Try.underlying3 g0
  obtain ⟨q1, e1, _, w1⟩ := DataW.trod_int Try.underlying29 g1
  obtain ⟨s2, e2, _, w2⟩ := DataW.trod_string Try.underlying9 g2
  obtain ⟨q3, e3, _, w3⟩ := DataW.trod_int Try.underlying3 g3
  simp only [List.cons.injEq, and_true] at e0 e1 e2 e3
  subst e0 e1 e2 e3
  have b0 : -9223372036854775808 ≤ q0 ∧ q0 ≤ 9223372036854775807 := by simpa [Lit.wf, IntKind.min, IntKind.max, IntKind.signed, IntKind.bits] using w0
  have b1 : 0 ≤ q1 ∧ q1 ≤ 18446744073709551615 := by simpa [Lit.wf, IntKind.min, IntKind.max, IntKind.signed, IntKind.bits] using w1
  have b3 : -9223372036854775808 ≤ q3 ∧ q3 ≤ 9223372036854775807 := by simpa [Lit.wf, IntKind.min, IntKind.max, IntKind.signed, IntKind.bits] using w3
  obtain ⟨x1, rfl⟩ := Int.eq_ofNat_of_zero_le b1.1
  exact ⟨⟨q0, x1, s2, q3⟩, ⟨b0.1, b0.2, by simp only; omega, w2, b3.1, b3.2⟩, rfl⟩
end Go.Proofs.Ytmnjmlnpmifiiaa
