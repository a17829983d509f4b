/-
  WORDS FOR SumXors: an append in a region that draws its order; two texts xored byte by byte.
-/
import Derived.Test.YtdmfkmaelebogaaWalkF
import Derived.Test.YtdmfkmaelebogaaFlips
import Derived.Deep.RegionLaw
import Derived.Deep.RegionWith
namespace Go.Proofs.Ytdmfkmaelebogaa.sumXors
open Go.RowKit

theorem step_own {P : Program} {w : World} {ops : Array Oper} {o : Oper} {a : Act} {K : Act → World → Prop} {Q : Exit → Act → World → Prop} {E : Prop} (hgd : o.guard = none) (s x : Operand) (t : TypeId)
    (ho : o.op = .call { callee := .builtin .append, args := #[s, x], argTypes := #[t, t] })
    (base : Nat) (e : TypeId) (i : TypeInfo) (z : Value) (size bytes : Nat) (ht : P.underlying t = some (.slice e)) (hi : P.info? e = some i) (hz : i.zero = some z)
    (hsize : i.size = size) (hby : i.bytes = bytes) (hzs : z.cells.size = size) (hsz : 0 < size)
    (v : Value) (n : Nat) (xs : List Value) (hs : a.eval s = v) (hown : w.ownsRow base e size v n xs)
    (ad : Addr) (m c : Nat) (news : List Value) (hx : a.eval x = .slice (some ad) m c) (hl : news.length = m * size) (hnews : ∀ j u, news[j]? = some u → w.cell? (ad.add j) = some u) (h1 : ∀ u ∈ news, u.oneCell' = true)
    (h63 : n + m ≤ maxLen) (hbytes : (n + m) * bytes ≤ 140737488355328) (hbase : base ≤ w.heap.size)
    (h : ∀ v' w', w'.ownsRow base e size v' (n + m) (xs ++ news) → w.grownBy w' v.ownBlock → K (a.put o.dst v') w') :
    if Region.wanted o (yielded ops a.tmps) = true then Oper.wp P o a w K Q else E := by
  have hw : Region.wanted o (yielded ops a.tmps) = true := by simp [Region.wanted, hgd]
  rw [if_pos hw]
  exact wp_append_own w s x t ho base e i z size bytes ht hi hz hsize hby hzs hsz v n xs hs hown ad m c news hx hl hnews h1 h63 hbytes hbase fun v' w' h2 h3 _ => h v' w' h2 h3

def zs (la lb : List Nat) : List Nat := List.zipWith (· ^^^ ·) la lb
theorem zs_take (la lb : List Nat) (k : Nat) (ha : k < la.length) (hb : k < lb.length) : (zs la lb).take (k + 1) = (zs la lb).take k ++ [la.getD k 0 ^^^ lb.getD k 0] := by
  have hl : k < (zs la lb).length := by simp [zs]; omega
  rw [List.take_succ_eq_append_getElem hl]
  simp [zs, ha, hb]
theorem zs_lt {la lb : List Nat} (ha : ∀ x ∈ la, x < 256) (hb : ∀ x ∈ lb, x < 256) : ∀ x ∈ zs la lb, x < 256 := by
  intro x hx
  obtain ⟨i, hi, rfl⟩ := List.getElem_of_mem hx
  simp only [zs, List.length_zipWith] at hi
  simp only [zs, List.getElem_zipWith]
  exact Crc.byte_lt (ha _ (List.getElem_mem _)) (hb _ (List.getElem_mem _))
theorem zs_len (la lb : List Nat) : (zs la lb).length = min la.length lb.length := by simp [zs]
/-- behind the append the row is a byte longer -/
theorem row_step {w1 w : World} {v' : Value} {la lb : List Nat} {k : Nat} (ha : k < la.length) (hb : k < lb.length)
    (hown' : w1.ownsRow w.heap.size 5 1 v' (k + 1) (u8s ((zs la lb).take k) ++ [.int .u8 ((la.getD k 0 ^^^ lb.getD k 0 : Nat) : Int)])) : w1.ownsRow w.heap.size 5 1 v' (k + 1) (u8s ((zs la lb).take (k + 1))) := by
  rw [zs_take la lb k ha hb]
  simpa [u8s] using hown'

end Go.Proofs.Ytdmfkmaelebogaa.sumXors
