/-
  No cell of these rows narrows 'for every input' (looked for: loops, veiled, ifaces, maps, wideKeys, modest, calm, conditions, laid).
  DERIVED. THE GIVEN ROWS OF THIS SEAT. 4 by the template 'for every input the law returns true; each argument reads behind the call as it read before'; 0 by the template 'total and deterministic' (their statements: YtiilhnedflmgoaaTotals.lean).
  GIVEN WITH THE SEED: the statements are not yours to turn. If you find one false, say at which input.
  Laid BY PROGRAM, IN A SANDBOX (cutbox-rows.mjs): the forced cells as the released guide's own fill.sh prints them over the translation 1569322690673598… (all of the seat's roots in one cut). By AI agents, Wed Nov 11 2026. No macro, syntax, notation, axiom, sorry.
-/
import Derived.Test.YtiilhnedflmgoaaChecked
import GoSem.Claim
import GoSem.ClaimJoined
import GoSem.ClaimMapViews
import Derived.JoinedTies
import Derived.KernelRfl
namespace Go.Proofs.Ytiilhnedflmgoaa
/- THE CELL 'sum', in the pinned program and in every row, IS THE sha256 OF THE DUMP (.gsa) THAT YtiilhnedflmgoaaProg.lean LOADS. Nothing in Lean hashes anything: it is a label: what it is worth is what the hold of that sum in a sandbox is worth. -/
noncomputable def Try.pinned : Pinned := { name := "ytiilhnedflmgoaa", sum := "15693226906735980f47e94ba9ff58c86ea741927c38642bb1178741485c8b9f", checked := Try.checked }
namespace Rows
def none {H : Type} : Left H := { results := [], args := [] }

/-- 'cadastrelaw05.RowsNames': WHATEVER THE INPUT: true; the input reads as it did. -/
def rowsNamesSpec : ChangeSpec := { name := "rowsNames", fn := fun _ => fun
  | [d1, d2] => { results := [.lit (.bool true)], args := [d1, d2] }
  | _ => none }
def rowsNamesRow : OpenClaim := { program := "ytiilhnedflmgoaa", sum := "15693226906735980f47e94ba9ff58c86ea741927c38642bb1178741485c8b9f", func := "cadastre/cadastrelaw05.RowsNames", spec := "rowsNames", unfollowed := true, recurses := true, apart := false }
def RowsNamesSaid : Prop := rowsNamesRow.holds Try.pinned (OpenSpec.ofChange rowsNamesSpec)

/-- ITS FALSE NEIGHBOUR: 'it returns false'. Refute it at one input. -/
def rowsNamesWrong : ChangeSpec := { name := "rowsNames", fn := fun _ => fun
  | [d1, d2] => { results := [.lit (.bool false)], args := [d1, d2] }
  | _ => none }
def RowsNamesWrongFalsely : Prop := rowsNamesRow.holds Try.pinned (OpenSpec.ofChange rowsNamesWrong)

/-- 'cadastrelaw05.RowsEncode': WHATEVER THE INPUT: true; the input reads as it did. -/
def rowsEncodeSpec : ChangeSpec := { name := "rowsEncode", fn := fun _ => fun
  | [d1, d2] => { results := [.lit (.bool true)], args := [d1, d2] }
  | _ => none }
def rowsEncodeRow : OpenClaim := { program := "ytiilhnedflmgoaa", sum := "15693226906735980f47e94ba9ff58c86ea741927c38642bb1178741485c8b9f", func := "cadastre/cadastrelaw05.RowsEncode", spec := "rowsEncode", unfollowed := true, recurses := true, apart := false }
def RowsEncodeSaid : Prop := rowsEncodeRow.holds Try.pinned (OpenSpec.ofChange rowsEncodeSpec)

/-- ITS FALSE NEIGHBOUR: 'it returns false'. Refute it at one input. -/
def rowsEncodeWrong : ChangeSpec := { name := "rowsEncode", fn := fun _ => fun
  | [d1, d2] => { results := [.lit (.bool false)], args := [d1, d2] }
  | _ => none }
def RowsEncodeWrongFalsely : Prop := rowsEncodeRow.holds Try.pinned (OpenSpec.ofChange rowsEncodeWrong)

/-- 'cadastrelaw05.RowsDecode': WHATEVER THE INPUT: true; the input reads as it did. -/
def rowsDecodeSpec : ChangeSpec := { name := "rowsDecode", fn := fun _ => fun
  | [d1, d2] => { results := [.lit (.bool true)], args := [d1, d2] }
  | _ => none }
def rowsDecodeRow : OpenClaim := { program := "ytiilhnedflmgoaa", sum := "15693226906735980f47e94ba9ff58c86ea741927c38642bb1178741485c8b9f", func := "cadastre/cadastrelaw05.RowsDecode", spec := "rowsDecode", unfollowed := true, recurses := true, apart := false }
def RowsDecodeSaid : Prop := rowsDecodeRow.holds Try.pinned (OpenSpec.ofChange rowsDecodeSpec)

/-- ITS FALSE NEIGHBOUR: 'it returns false'. Refute it at one input. -/
def rowsDecodeWrong : ChangeSpec := { name := "rowsDecode", fn := fun _ => fun
  | [d1, d2] => { results := [.lit (.bool false)], args := [d1, d2] }
  | _ => none }
def RowsDecodeWrongFalsely : Prop := rowsDecodeRow.holds Try.pinned (OpenSpec.ofChange rowsDecodeWrong)

/-- 'cadastrelaw05.RowsBack': WHATEVER THE INPUT: true; the input reads as it did. -/
def rowsBackSpec : ChangeSpec := { name := "rowsBack", fn := fun _ => fun
  | [d1, d2, d3, d4] => { results := [.lit (.bool true)], args := [d1, d2, d3, d4] }
  | _ => none }
def rowsBackRow : OpenClaim := { program := "ytiilhnedflmgoaa", sum := "15693226906735980f47e94ba9ff58c86ea741927c38642bb1178741485c8b9f", func := "cadastre/cadastrelaw05.RowsBack", spec := "rowsBack", unfollowed := true, recurses := true, apart := false }
def RowsBackSaid : Prop := rowsBackRow.holds Try.pinned (OpenSpec.ofChange rowsBackSpec)

/-- ITS FALSE NEIGHBOUR: 'it returns false'. Refute it at one input. -/
def rowsBackWrong : ChangeSpec := { name := "rowsBack", fn := fun _ => fun
  | [d1, d2, d3, d4] => { results := [.lit (.bool false)], args := [d1, d2, d3, d4] }
  | _ => none }
def RowsBackWrongFalsely : Prop := rowsBackRow.holds Try.pinned (OpenSpec.ofChange rowsBackWrong)

/- THE SECOND FORM. 'bulk': how many values and letters a reading holds, each counted each time it is reached (what is shared counts as often as it is met; a slice's spare places count too). A statement '..UptoSaid' is the law's where the arguments, and the package variables that the reading takes, are together of bulk at most 1048576: NARROWER than '..Said'. Prove '..Said' where nothing that the law and all that it calls make is longer than what came in: it says more and counts as full. Else prove '..UptoSaid'. A law counts once. -/
mutual
def uptoBulk {H : Type} : DataW H → Nat
  | .lit (.string bytes) => bytes.length + 1
  | .lit _ => 1
  | .nil => 1
  | .ptr d => uptoBulk d + 1
  | .slice elems spare => uptoBulkAll elems + uptoBulkAll spare + 1
  | .agg parts => uptoBulkAll parts + 1
  | .iface _ d => uptoBulk d + 1
  | .map entries => uptoBulkEntries entries + 1
  | .held _ => 1
def uptoBulkAll {H : Type} : List (DataW H) → Nat
  | [] => 0
  | d :: r => uptoBulk d + uptoBulkAll r
def uptoBulkEntries {H : Type} : List (Lit × DataW H) → Nat
  | [] => 0
  | x :: r => uptoBulkEntry x + uptoBulkEntries r
def uptoBulkEntry {H : Type} : Lit × DataW H → Nat
  | (.string bytes, d) => bytes.length + uptoBulk d + 1
  | (_, d) => uptoBulk d + 1
 end
def uptoSmall : (H : Type) → List (DataW H) → Bool := fun _ ds => decide (uptoBulkAll ds ≤ 1048576)
def OpenSpec.upto (s : _root_.Go.ChangeSpec) : _root_.Go.OpenSpec := { _root_.Go.OpenSpec.ofChange s with cond := some uptoSmall }

/-- 'cadastrelaw05.RowsNames', WHERE WHAT IT READS IS OF BULK AT MOST 1048576: true; the input reads as it did. -/
def rowsNamesUptoRow : OpenClaim := { program := "ytiilhnedflmgoaa", sum := "15693226906735980f47e94ba9ff58c86ea741927c38642bb1178741485c8b9f", func := "cadastre/cadastrelaw05.RowsNames", spec := "rowsNames", unfollowed := true, recurses := true, apart := false, narrowed := true }
def RowsNamesUptoSaid : Prop := rowsNamesUptoRow.holds Try.pinned (OpenSpec.upto rowsNamesSpec)

/-- 'cadastrelaw05.RowsEncode', WHERE WHAT IT READS IS OF BULK AT MOST 1048576: true; the input reads as it did. -/
def rowsEncodeUptoRow : OpenClaim := { program := "ytiilhnedflmgoaa", sum := "15693226906735980f47e94ba9ff58c86ea741927c38642bb1178741485c8b9f", func := "cadastre/cadastrelaw05.RowsEncode", spec := "rowsEncode", unfollowed := true, recurses := true, apart := false, narrowed := true }
def RowsEncodeUptoSaid : Prop := rowsEncodeUptoRow.holds Try.pinned (OpenSpec.upto rowsEncodeSpec)

/-- 'cadastrelaw05.RowsDecode', WHERE WHAT IT READS IS OF BULK AT MOST 1048576: true; the input reads as it did. -/
def rowsDecodeUptoRow : OpenClaim := { program := "ytiilhnedflmgoaa", sum := "15693226906735980f47e94ba9ff58c86ea741927c38642bb1178741485c8b9f", func := "cadastre/cadastrelaw05.RowsDecode", spec := "rowsDecode", unfollowed := true, recurses := true, apart := false, narrowed := true }
def RowsDecodeUptoSaid : Prop := rowsDecodeUptoRow.holds Try.pinned (OpenSpec.upto rowsDecodeSpec)

/-- 'cadastrelaw05.RowsBack', WHERE WHAT IT READS IS OF BULK AT MOST 1048576: true; the input reads as it did. -/
def rowsBackUptoRow : OpenClaim := { program := "ytiilhnedflmgoaa", sum := "15693226906735980f47e94ba9ff58c86ea741927c38642bb1178741485c8b9f", func := "cadastre/cadastrelaw05.RowsBack", spec := "rowsBack", unfollowed := true, recurses := true, apart := false, narrowed := true }
def RowsBackUptoSaid : Prop := rowsBackUptoRow.holds Try.pinned (OpenSpec.upto rowsBackSpec)

end Rows
end Go.Proofs.Ytiilhnedflmgoaa
