/-
  THE WALK OF readPage.
-/
import Derived.Test.YtajmpoanmdgmpaaPI
import Derived.Test.YtajmpoanmdgmpaaPT
import Derived.Test.YtajmpoanmdgmpaaPW
import Derived.OrdersHeld
import Derived.Deep.Cut
import Derived.Deep.RegionHeld
namespace Go.Proofs.Ytajmpoanmdgmpaa
open Go.RowKit

section
variable {w : World} {S T S' : Nat → Prop} {ops : Array Oper} {o : Oper} {a : Act} {Q : Exit → Act → World → Prop}
set_option maxRecDepth 100000 in
theorem wp_appC {K : Act → World → Prop} (s x : Operand) (ho : o.op = .call { callee := .builtin .append, args := #[s, x], argTypes := #[24, 24] })
    (v : Value) (n : Nat) (l : List CV) (hs : a.eval s = v) (h : OwC w S T v n l) (A : Option Addr) (m c : Nat) (ks : List CV) (hx : a.eval x = .slice A m c) (hr : CR w S' T A m ks) (hb : (n + m) * 32 ≤ 140737488355328)
    (hK : ∀ v' w', OwC w' (fun b => S b ∨ w.heap.size ≤ b) (fun b => T b ∧ b < w.heap.size) v' (n + m) (l ++ ks) → w.grownBy w' v.ownBlock → K (a.put o.dst v') w') : o.wp Try.prog a w K Q := by
  obtain ⟨v', w', hrun, h2, h3⟩ := run_appC o.type v n l h A m c ks hr hb
  unfold Oper.wp execOp
  simp only [ho, resolve, invoke, builtin, Sem.run_bind, Sem.run_pure, Result.andThen_ok, List.map_toArray, List.map_cons, List.map_nil, hs, hx, hrun]
  exact hK v' w' h2 h3
end

section
variable {w : World} {S T S' : Nat → Prop} {ops : Array Oper} {o : Oper} {a : Act} {Q : Exit → Act → World → Prop}
set_option maxRecDepth 100000 in
theorem step_appC {K : Act → World → Prop} {E : Prop} (hgd : o.guard = none) (s x : Operand) (ho : o.op = .call { callee := .builtin .append, args := #[s, x], argTypes := #[24, 24] })
    (v : Value) (n : Nat) (l : List CV) (hs : a.eval s = v) (h : OwC w S T v n l) (A : Option Addr) (m c : Nat) (ks : List CV) (hx : a.eval x = .slice A m c) (hr : CR w S' T A m ks) (hb : (n + m) * 32 ≤ 140737488355328)
    (hK : ∀ v' w', OwC w' (fun b => S b ∨ w.heap.size ≤ b) (fun b => T b ∧ b < w.heap.size) v' (n + m) (l ++ ks) → w.grownBy w' v.ownBlock → K (a.put o.dst v') w') : if Region.wanted o (yielded ops a.tmps) = true then Oper.wp Try.prog o a w K Q else E := by
  have hw : Region.wanted o (yielded ops a.tmps) = true := by simp [Region.wanted, hgd]
  rw [if_pos hw]
  exact wp_appC s x ho v n l hs h A m c ks hx hr hb hK
end
/-- k cells are read -/
def rcs (ok : Bool) (l : List Nat) : Nat → List CE × Bool × List Nat
  | 0 => ([], ok, l)
  | k + 1 => ((rcs ok l k).1 ++ [(rcell (rcs ok l k).2.1 (rcs ok l k).2.2).c], (rcell (rcs ok l k).2.1 (rcs ok l k).2.2).ok, (rcell (rcs ok l k).2.1 (rcs ok l k).2.2).l)
theorem rcs_len (ok : Bool) (l : List Nat) : ∀ k, (rcs ok l k).1.length = k
  | 0 => rfl
  | k + 1 => by simp [rcs, rcs_len ok l k]
theorem rcs_succ (ok : Bool) (l : List Nat) (k : Nat) : rcs ok l (k + 1) = ((rcs ok l k).1 ++ [(rcell (rcs ok l k).2.1 (rcs ok l k).2.2).c], (rcell (rcs ok l k).2.1 (rcs ok l k).2.2).ok, (rcell (rcs ok l k).2.1 (rcs ok l k).2.2).l) := rfl
structure RP where
  k : Nat
  s : Nat
  x : Nat
  n : Nat
  es : List CE
  ok : Bool
  l : List Nat
def rpage (ok : Bool) (l : List Nat) : RP :=
  let ok1 := okO ok (fixO l 1)
  let l1 := leftO ok l (fixO l 1)
  let ok2 := okO ok1 (fixO l1 1)
  let l2 := leftO ok1 l1 (fixO l1 1)
  let ok3 := okO ok2 (fixO l2 8)
  let l3 := leftO ok2 l2 (fixO l2 8)
  let ok4 := okO ok3 (fixO l3 4)
  let l4 := leftO ok3 l3 (fixO l3 4)
  let n := valO ok1 (fixO l1 1) 0
  ⟨valO ok (fixO l 1) 0, valO ok2 (fixO l2 8) 0, valO ok3 (fixO l3 4) 0, n, (rcs ok4 l4 n).1, (rcs ok4 l4 n).2.1, (rcs ok4 l4 n).2.2⟩
theorem rpage_of {ok ok1 ok2 ok3 ok4 : Bool} {l l1 l2 l3 l4 : List Nat} {k n s x : Nat} (h1 : k = valO ok (fixO l 1) 0) (h2 : l1 = leftO ok l (fixO l 1)) (h3 : ok1 = okO ok (fixO l 1))
    (h4 : n = valO ok1 (fixO l1 1) 0) (h5 : l2 = leftO ok1 l1 (fixO l1 1)) (h6 : ok2 = okO ok1 (fixO l1 1)) (h7 : s = valO ok2 (fixO l2 8) 0) (h8 : l3 = leftO ok2 l2 (fixO l2 8)) (h9 : ok3 = okO ok2 (fixO l2 8))
    (h10 : x = valO ok3 (fixO l3 4) 0) (h11 : l4 = leftO ok3 l3 (fixO l3 4)) (h12 : ok4 = okO ok3 (fixO l3 4)) : rpage ok l = ⟨k, s, x, n, (rcs ok4 l4 n).1, (rcs ok4 l4 n).2.1, (rcs ok4 l4 n).2.2⟩ := by
  subst h1 h2 h3 h4 h5 h6 h7 h8 h9 h10 h11 h12
  rfl
theorem fix_lt (k : Nat) (ok : Bool) (l : List Nat) (h : ∀ x ∈ l, x < 256) : valO ok (fixO l k) 0 < 256 ^ k := by
  rw [fixO_val]
  have h1 := takeO_len ok l k
  have h2 : ∀ x ∈ valO ok (takeO l k) [], x < 256 := by
    cases ok with
    | false => simp [valO]
    | true =>
      intro x hx
      by_cases h3 : (0 : Int) ≤ (k : Int) ∧ (k : Int) ≤ l.length
      · have h4 : takeO l (k : Int) = some (l.take k, k) := takeO_yes (by omega)
        rw [h4] at hx
        exact h x (List.mem_of_mem_take hx)
      · have h4 : takeO l (k : Int) = none := takeO_no h3
        rw [h4] at hx
        simp [valO] at hx
  have h3 := unfix_take_lt (valO ok (takeO l k) []) (valO ok (takeO l k) []).length h2
  rw [List.take_length] at h3
  have h4 : 256 ^ (valO ok (takeO l k) []).length ≤ 256 ^ k := Nat.pow_le_pow_right (by omega) h1
  omega
theorem rcell_k (ok : Bool) (l : List Nat) (h : ∀ x ∈ l, x < 256) : (rcell ok l).c.k < 4294967296 := by
  unfold rcell
  simp only
  split
  · simp
  · refine fix_lt 4 _ _ ?_
    intro x hx
    unfold leftO at hx
    split at hx
    · exact h x (List.mem_of_mem_drop hx)
    · exact h x hx
theorem rcell_dlen (ok : Bool) (l : List Nat) (h : ∀ x ∈ l, x < 256) : (rcell ok l).c.d.length ≤ 1099511627776 := by
  unfold rcell
  simp only
  split
  · simp
  · have h1 := fix2_lt ok l h
    refine Nat.le_trans (takeO_len _ _ _) ?_
    omega
/-- what readPage answers -/
def RPage (w : World) (S : Nat → Prop) (p : Option Nat) (r : RP) (e : Ending) (w' : World) : Prop :=
  ∃ q S' T', e = .returned q.agg ∧ PO w' S' T' q ∧ (∀ b, S' b → w.heap.size ≤ b) ∧ (∀ b, T' b → w.heap.size ≤ b) ∧ q.es = r.es ∧ q.k = (r.k : Int) ∧ q.s = r.s ∧ q.x = r.x ∧ q.n = r.n ∧ Rd w' S p r.ok r.l ∧ Fr w w' S
/-- .. and its bytes may be written over -/
def RPageW (w : World) (S : Nat → Prop) (p : Option Nat) (r : RP) (e : Ending) (w' : World) : Prop :=
  ∃ q S' T', e = .returned q.agg ∧ PO w' S' T' q ∧ (∀ b, S' b → w.heap.size ≤ b) ∧ (∀ b, T' b → w.heap.size ≤ b) ∧ q.es = r.es ∧ q.k = (r.k : Int) ∧ q.s = r.s ∧ q.x = r.x ∧ q.n = r.n ∧ Rd w' S p r.ok r.l ∧ Fr w w' S ∧ ∀ x ∈ q.l, WB w' T' x.A x.m
def pbk (k s x : Nat) (v : Value) : Array Value := #[.int .i64 (k : Int), .int .u64 (s : Int), .int .u32 (x : Int), v]
theorem pbk_cells {w : World} {g k s x : Nat} {v : Value} (h : Blk w g 26 (pbk k s x v)) : w.cell? ⟨g, 0, none⟩ = some (.int .i64 (k : Int)) ∧ w.cell? ⟨g, 1, none⟩ = some (.int .u64 (s : Int)) ∧ w.cell? ⟨g, 2, none⟩ = some (.int .u32 (x : Int)) ∧ w.cell? ⟨g, 3, none⟩ = some v := by
  refine ⟨?_, ?_, ?_, ?_⟩ <;> rw [h.cell] <;> simp [pbk]
/-- what goes on while cells are read -/
structure RL (W wr : World) (S : Nat → Prop) (p : Option Nat) (z pb k s x : Nat) (ok4 : Bool) (l4 : List Nat) (j : Nat) (vA : Option Addr) (vc : Nat) (SO T : Nat → Prop) (lk : List CV) : Prop where
  o : OwC wr SO T (.slice vA j vc) j lk
  e : lk.map CV.e = (rcs ok4 l4 j).1
  d : Rd wr S p (rcs ok4 l4 j).2.1 (rcs ok4 l4 j).2.2
  b : Blk wr pb 26 (pbk k s x (.slice vA j vc))
  so : ∀ b, SO b → W.heap.size ≤ b ∧ b ≠ pb
  t : ∀ b, T b → W.heap.size ≤ b ∧ b ≠ pb
  f : Fr W wr S
  r : Blk wr z 26 #[.int .i64 0, .int .u64 0, .int .u32 0, .slice none 0 0]
  wb : ∀ x ∈ lk, WB wr T x.A x.m
set_option maxHeartbeats 4000000 in
set_option maxRecDepth 100000 in
theorem readPage_soft (w : World) (S : Nat → Prop) (p : Option Nat) (ok : Bool) (l : List Nat) (h : Rd w S p ok l) (hS : ∀ b, S b → b < w.heap.size) : Calls Try.prog 53 #[ptr p] w (RPageW w S p (rpage ok l)) := by
  obtain ⟨W, hW⟩ : ∃ W, w.alloc (.cells #[.int .i64 0, .int .u64 0, .int .u32 0, .slice none 0 0] 26) = W := ⟨_, rfl⟩
  have hfW : Fr w W No := by rw [← hW]; exact (Fr.refl w No).alloc _
  have hbr : Blk W w.heap.size 26 #[.int .i64 0, .int .u64 0, .int .u32 0, .slice none 0 0] := by rw [← hW]; exact Blk.new w 26 _
  have hsz : W.heap.size = w.heap.size + 1 := by rw [← hW]; simp
  have HC1 := Lib.hid (ru8_any W S p ok l (Rd.keep h hfW fun _ _ hn => hn))
  have hk1 := fix_lt 1 ok l (Rd.lt h)
  have HFW := Lib.hid hfW
  have HBR := Lib.hid hbr
  have HSZ := Lib.hid hsz
  have HS := Lib.hid hS
  obtain ⟨k, hk⟩ : ∃ k, k = valO ok (fixO l 1) 0 := ⟨_, rfl⟩
  obtain ⟨l1, hl1⟩ : ∃ l1, l1 = leftO ok l (fixO l 1) := ⟨_, rfl⟩
  obtain ⟨ok1, hok1⟩ : ∃ ok1, ok1 = okO ok (fixO l 1) := ⟨_, rfl⟩
  have HC1 : Hid (Calls Try.prog 76 #[ptr p] W fun e w' => e = .returned (.int .u8 (k : Int)) ∧ Rd w' S p ok1 l1 ∧ Fr W w' S) := by rw [hk, hl1, hok1]; exact HC1
  rw [← hk] at hk1
  have EK := Lib.hid (show k = _ ∧ l1 = _ ∧ ok1 = _ from ⟨hk, hl1, hok1⟩)
  have hwk : IntKind.i64.wrap (k : Int) = (k : Int) := IntWalk.i64_in _ (by omega)
  have HK1 := Lib.hid hk1
  clear h hfW hbr hsz hS hk hl1 hok1 hk1
  go_enter Try.func53, Try.ntmps53
  go_wp2_with fail
  with_reducible refine HC1.out.mono ?_
  rintro e w1 ⟨rfl, hd1, hf1⟩
  have hbrw1 := HBR.out.keep hf1 (fun hs => Nat.lt_irrefl _ (HS.out _ hs))
  obtain ⟨P, hP⟩ : ∃ P, w1.alloc (.cells #[.int .i64 (k : Int), .int .u64 0, .int .u32 0, .slice none 0 0] 26) = P := ⟨_, rfl⟩
  have hfP : Fr w1 P No := by rw [← hP]; exact (Fr.refl w1 No).alloc _
  have hbP : Blk P w1.heap.size 26 (pbk k 0 0 (.slice none 0 0)) := by rw [← hP]; exact Blk.new w1 26 _
  have hzP : P.heap.size = w1.heap.size + 1 := by rw [← hP]; simp
  obtain ⟨pb, hpb⟩ : ∃ pb, pb = w1.heap.size := ⟨_, rfl⟩
  have hlt1 := Rd.lt hd1
  have HC2 := Lib.hid (ru8_any P S p ok1 l1 (Rd.keep hd1 hfP fun _ _ hn => hn))
  have hn1 := fix_lt 1 ok1 l1 hlt1
  obtain ⟨n, hn⟩ : ∃ n, n = valO ok1 (fixO l1 1) 0 := ⟨_, rfl⟩
  obtain ⟨l2, hl2⟩ : ∃ l2, l2 = leftO ok1 l1 (fixO l1 1) := ⟨_, rfl⟩
  obtain ⟨ok2, hok2⟩ : ∃ ok2, ok2 = okO ok1 (fixO l1 1) := ⟨_, rfl⟩
  have EN := Lib.hid (show n = _ ∧ l2 = _ ∧ ok2 = _ from ⟨hn, hl2, hok2⟩)
  rw [← hn] at hn1
  have HC2 : Hid (Calls Try.prog 76 #[ptr p] P fun e w' => e = .returned (.int .u8 (n : Int)) ∧ Rd w' S p ok2 l2 ∧ Fr P w' S) := by rw [hn, hl2, hok2]; exact HC2
  have HFP : Hid (Fr W P S) := Lib.hid (hf1.trans hfP fun _ hb => hb.elim)
  have HBP := Lib.hid hbP
  have HBR1 := Lib.hid (hbrw1.keep hfP fun hn => hn)
  have HZP := Lib.hid hzP
  have HN1 := Lib.hid hn1
  have HW1 := Lib.hid (show w.heap.size < w1.heap.size by have := hbrw1.lt; exact this)
  clear hd1 hf1 hbrw1 hfP hbP hzP hlt1 hn hl2 hok2 hn1
  subst hP
  go_wp2_with fail
  with_reducible refine HC2.out.mono ?_
  rintro e w2 ⟨rfl, hd2, hf2⟩
  have hbp2 := HBP.out.keep hf2 (fun hs => by have := HS.out _ hs; have := HW1.out; omega)
  have HC3 := Lib.hid (ru64_any w2 S p ok2 l2 hd2)
  have hs1 := fix_lt 8 ok2 l2 (Rd.lt hd2)
  obtain ⟨s, hs⟩ : ∃ s, s = valO ok2 (fixO l2 8) 0 := ⟨_, rfl⟩
  obtain ⟨l3, hl3⟩ : ∃ l3, l3 = leftO ok2 l2 (fixO l2 8) := ⟨_, rfl⟩
  obtain ⟨ok3, hok3⟩ : ∃ ok3, ok3 = okO ok2 (fixO l2 8) := ⟨_, rfl⟩
  have ES := Lib.hid (show s = _ ∧ l3 = _ ∧ ok3 = _ from ⟨hs, hl3, hok3⟩)
  rw [← hs] at hs1
  have HC3 : Hid (Calls Try.prog 77 #[ptr p] w2 fun e w' => e = .returned (.int .u64 (s : Int)) ∧ Rd w' S p ok3 l3 ∧ Fr w2 w' S) := by rw [hs, hl3, hok3]; exact HC3
  have HF2 := Lib.hid (HFP.out.trans hf2 fun _ hb => Or.inl hb)
  have HBP2 := Lib.hid hbp2
  have HBR2 := Lib.hid (HBR1.out.keep hf2 (fun hs => Nat.lt_irrefl _ (HS.out _ hs)))
  have HS1 := Lib.hid hs1
  clear hd2 hf2 hbp2 hs hl3 hok3 hs1
  go_wp2_with fail
  with_reducible refine HC3.out.mono ?_
  rintro e w3 ⟨rfl, hd3, hf3⟩
  have hbp3 := HBP2.out.keep hf3 (fun hs => by have := HS.out _ hs; have := HW1.out; omega)
  have hbr3 := HBR2.out.keep hf3 (fun hs => Nat.lt_irrefl _ (HS.out _ hs))
  have p1 := hbp3.cell 1
  have f1 := hbp3.frozen 1
  simp only [pbk, List.getElem?_toArray, List.getElem?_cons_zero, List.getElem?_cons_succ] at p1
  obtain ⟨W3, hW3⟩ : ∃ W3, w3.setCell ⟨w1.heap.size, 1, none⟩ (.int .u64 (s : Int)) = W3 := ⟨_, rfl⟩
  have hbp3' : Blk W3 w1.heap.size 26 (pbk k s 0 (.slice none 0 0)) := by rw [← hW3]; exact hbp3.set_ 1 _
  have hbr3' : Blk W3 w.heap.size 26 #[.int .i64 0, .int .u64 0, .int .u32 0, .slice none 0 0] := by rw [← hW3]; exact hbr3.far (by have := HW1.out; simp only; omega) _
  have hf3' : Fr w3 W3 (fun b => b = w1.heap.size) := by rw [← hW3]; exact fr_set (Fr.refl _ _) _ _
  have hd3' : Rd W3 S p ok3 l3 := Rd.keep hd3 hf3' fun b hb e => by have := HS.out b hb; have := HW1.out; omega
  have HC4 := Lib.hid (ru32_any W3 S p ok3 l3 hd3')
  have hx1 := fix_lt 4 ok3 l3 (Rd.lt hd3)
  obtain ⟨x, hx⟩ : ∃ x, x = valO ok3 (fixO l3 4) 0 := ⟨_, rfl⟩
  obtain ⟨l4, hl4⟩ : ∃ l4, l4 = leftO ok3 l3 (fixO l3 4) := ⟨_, rfl⟩
  obtain ⟨ok4, hok4⟩ : ∃ ok4, ok4 = okO ok3 (fixO l3 4) := ⟨_, rfl⟩
  have HU : Hid (rpage ok l = ⟨k, s, x, n, (rcs ok4 l4 n).1, (rcs ok4 l4 n).2.1, (rcs ok4 l4 n).2.2⟩) := Lib.hid (rpage_of EK.out.1 EK.out.2.1 EK.out.2.2 EN.out.1 EN.out.2.1 EN.out.2.2 ES.out.1 ES.out.2.1 ES.out.2.2 hx hl4 hok4)
  rw [HU.out]
  rw [← hx] at hx1
  have HC4 : Hid (Calls Try.prog 52 #[ptr p] W3 fun e w' => e = .returned (.int .u32 (x : Int)) ∧ Rd w' S p ok4 l4 ∧ Fr W3 w' S) := by rw [hx, hl4, hok4]; exact HC4
  have hsz3 : W.heap.size ≤ w1.heap.size := by have := HSZ.out; have := HW1.out; omega
  have HF3 : Hid (Fr W W3 S) := Lib.hid ((HF2.out.trans hf3 fun _ hb => Or.inl hb).trans hf3' fun b hb => Or.inr (by omega))
  have HBP3 := Lib.hid hbp3'
  have HBR3 := Lib.hid hbr3'
  have HX1 := Lib.hid hx1
  have HSZ3 := Lib.hid hsz3
  clear hd3 hf3 hbp3 hbr3 hbp3' hbr3' hf3' hd3' hx hl4 hok4 hx1 hsz3
  go_wp2_with fail
  with_reducible refine HC4.out.mono ?_
  rintro e w4 ⟨rfl, hd4, hf4⟩
  have hbp4 := HBP3.out.keep hf4 (fun hs => by have := HS.out _ hs; have := HW1.out; omega)
  have hbr4 := HBR3.out.keep hf4 (fun hs => Nat.lt_irrefl _ (HS.out _ hs))
  have p2 := hbp4.cell 2
  have f2 := hbp4.frozen 2
  simp only [pbk, List.getElem?_toArray, List.getElem?_cons_zero, List.getElem?_cons_succ] at p2
  obtain ⟨W4, hW4⟩ : ∃ W4, w4.setCell ⟨w1.heap.size, 2, none⟩ (.int .u32 (x : Int)) = W4 := ⟨_, rfl⟩
  have hbp4' : Blk W4 w1.heap.size 26 (pbk k s x (.slice none 0 0)) := by rw [← hW4]; exact hbp4.set_ 2 _
  have hbr4' : Blk W4 w.heap.size 26 #[.int .i64 0, .int .u64 0, .int .u32 0, .slice none 0 0] := by rw [← hW4]; exact hbr4.far (by have := HW1.out; simp only; omega) _
  have hf4' : Fr w4 W4 (fun b => b = w1.heap.size) := by rw [← hW4]; exact fr_set (Fr.refl _ _) _ _
  have hd4' : Rd W4 S p ok4 l4 := Rd.keep hd4 hf4' fun b hb e => by have := HS.out b hb; have := HW1.out; omega
  have HF4 : Hid (Fr W W4 S) := Lib.hid ((HF3.out.trans hf4 fun _ hb => Or.inl hb).trans hf4' fun b hb => Or.inr (by have := HSZ3.out; omega))
  have HBP4 := Lib.hid hbp4'
  have HBR4 := Lib.hid hbr4'
  have HD4 := Lib.hid hd4'
  clear hd4 hf4 hbp4 hbr4 hbp4' hbr4' hf4' hd4' p1 f1
  have HPB := Lib.hid hpb
  rw [← hpb] at HBP4 HW1 HSZ3
  have hn256 : n < 256 := by have := HN1.out; omega
  go_wp2_with fail
  go_loopw [18] (fun i wr => ∃ (j : Nat) (vA : Option Addr) (vc : Nat) (SO T : Nat → Prop) (lk : List CV), j ≤ n ∧ i = .int .u8 (j : Int) ∧ RL W wr S p w.heap.size pb k s x ok4 l4 j vA vc SO T lk) (fun i _ => n - (intOf i).toNat)
  case atStart => exact ⟨0, none, 0, fun b => W.heap.size ≤ b ∧ b ≠ pb, fun b => W.heap.size ≤ b ∧ b ≠ pb, [], by omega, rfl, ⟨OwC.nil_ _ _ _, rfl, HD4.out, HBP4.out, fun _ h => h, fun _ h => h, HF4.out, HBR4.out, by simp⟩⟩
  case round =>
    obtain ⟨j, vA, vc, SO, T, lk, hj, rfl, hrl⟩ := hrel
    have HC := Lib.hid hrl
    have hszr := hrl.f.size
    obtain ⟨y0, y1, y2, y3⟩ := pbk_cells hrl.b
    clear hrl
    by_cases hlt : j < n
    · have hin : ((j : Int) < (n : Int)) := by omega
      have hWi : IntKind.u8.wrap ((j : Int) + 1) = ((j + 1 : Nat) : Int) := by rw [IntKind.wrap_u8]; omega
      rw [hpb] at HC y0 y1 y2 y3
      obtain ⟨r, hr⟩ : ∃ r, r = rcell (rcs ok4 l4 j).2.1 (rcs ok4 l4 j).2.2 := ⟨_, rfl⟩
      have HRD := Lib.hid (readCell_any wr.drew S p _ _ (Rd.drew HC.out.d) (fun b hb => by have := HS.out b hb; have := HW1.out; have := HPB.out; have := HSZ3.out; have := HSZ.out; show b < wr.heap.size; omega))
      rw [← hr] at HRD
      have hrk := rcell_k (rcs ok4 l4 j).2.1 (rcs ok4 l4 j).2.2 (Rd.lt HC.out.d)
      rw [← hr] at hrk
      have HR := Lib.hid hr
      have HRK := Lib.hid hrk
      clear hr hrk
      obtain ⟨⟨ru, rk, rd⟩, rok, rl⟩ := r
      have HNS : Hid (¬ S w1.heap.size) := fun h => by have := HS.out _ h; have := HW1.out; have := HPB.out; omega
      have HNO : Hid (¬ SO w1.heap.size) := fun h => (HC.out.so _ h).2 rfl
      have HRL : Hid (rd.length ≤ 1099511627776) := by have := rcell_dlen (rcs ok4 l4 j).2.1 (rcs ok4 l4 j).2.2 (Rd.lt HC.out.d); rw [← HR.out] at this; exact this
      go_upto_region 7 with fail
      refine wp_region_held_drew (S := fun wx => Fr wr wx (fun b => S b ∨ SO b ∨ b = w1.heap.size)) (by kernel_rfl) ((Fr.refl wr _).drew) (fun hS => ?_)
      refine wpAnyH_take (i := 0) (v := ?_) rfl (by kernel_rfl) (by kernel_rfl) (by kernel_rfl) (fun _ _ _ h => h) (Or.inl ⟨by rfl, ?_⟩) hS ?_
      rotate_left
      · (intro wq hSw; go_simp; try with_reducible rfl)
      refine wpAnyH_take (i := 2) (v := ?_) rfl (by kernel_rfl) (by kernel_rfl) (by kernel_rfl) (fun _ _ _ h => h) (Or.inl ⟨by rfl, ?_⟩) hS ?_
      rotate_left
      · (intro wq hSw; go_simp; try with_reducible rfl)
      simp only [List.getElem_toArray, List.getElem_cons_succ, List.getElem_cons_zero, Act.put, List.setIfInBounds_toArray, List.set_cons_succ, List.set_cons_zero]
      refine wpAnyH_ready (rs := [1, 3]) (by kernel_rfl) (by simp) ?_
      refine AllReadyH.cons rfl (fun K hK => ?_) (AllReadyH.cons rfl (fun K hK => ?_) AllReadyH.nil)
      · have hc := (HC.out.b.drew).cell 3
        simp only [pbk, List.getElem?_toArray, List.getElem?_cons_zero, List.getElem?_cons_succ] at hc
        go_simp
        refine hK.out _ _ hS (fun hS => ?_)
        clear hK K hc
        refine wpAnyH_ready (rs := [3]) (by kernel_rfl) (by simp) ?_
        refine AllReadyH.cons rfl (fun K hK => ?_) AllReadyH.nil
        go_simp
        refine HRD.out.mono ?_
        rintro e x2 ⟨A2, m2, c2, rfl, hnew, hd2, hf2⟩
        refine hK.out _ _ ?_ (fun hS => ?_)
        · exact hS.trans hf2 fun b hb => Or.inl (Or.inl hb)
        clear hK K
        have hfx : Fr wr x2 S := (Fr.refl wr S).drew.trans hf2 fun _ hb => Or.inl hb
        have HF2 := Lib.hid hfx
        have HD2 := Lib.hid hd2
        obtain ⟨Aw, cw, ew, hwb2⟩ := WB.of_ow (hnew.mono (T := fun b => wr.heap.size ≤ b ∧ b < x2.heap.size) fun b hlt hb => ⟨hb, hlt⟩)
        injection ew with ew _ ew3
        subst ew ew3
        have HWB2 := Lib.hid hwb2
        clear hwb2
        obtain ⟨A2', c2', e2, hmc2, hnz2, hrb2⟩ := Ow.reads hnew
        injection e2 with e2 _ e3
        subst e2 e3
        have hrb3 : RB x2 (fun b => wr.heap.size ≤ b ∧ b < x2.heap.size) A2 m2 rd := hrb2.mono fun b hlt hb => ⟨hb, hlt⟩
        have hml := HRL.out
        rw [hrb2.len] at hml
        have hxin : CV.In x2 (fun b => (T b ∧ b < wr.heap.size) ∨ (wr.heap.size ≤ b ∧ b < x2.heap.size)) ⟨ru, rk, A2, m2, c2, rd⟩ :=
          ⟨hrb3.mono fun b _ hb => Or.inr hb, HRK.out, hmc2, by simp only; omega, hnz2⟩
        have hown : OwC x2 (fun b => SO b ∧ b < wr.heap.size) (fun b => (T b ∧ b < wr.heap.size) ∨ (wr.heap.size ≤ b ∧ b < x2.heap.size)) (.slice vA j vc) j lk :=
          (HC.out.o.mono (S' := fun b => SO b ∧ b < wr.heap.size) (T' := fun b => (T b ∧ b < wr.heap.size) ∨ (wr.heap.size ≤ b ∧ b < x2.heap.size)) (fun b hlt hb => ⟨hb, hlt⟩) (fun b hlt hb => Or.inl ⟨hb, hlt⟩) (fun q hq hT => by
            have h1 := (HC.out.o.1.lt q hq).2
            rcases hT with hT | hT
            · exact HC.out.o.2.2.2 q hq hT.1
            · omega)).keep hfx (fun b hb h => by have := (HC.out.so b hb.1).1; have := HS.out b h; have := HSZ.out; omega) (fun b hb h => by
              have := HS.out b h; have := HSZ.out
              rcases hb with hb | hb
              · have := (HC.out.t b hb.1).1; omega
              · have := HC.out.f.size; omega)
        have HONE := Lib.hid (CR.one x2 All _ ⟨ru, rk, A2, m2, c2, rd⟩ x2.heap.size rfl trivial hxin)
        have HOWN := Lib.hid (hown.alloc (.cells #[.bool ru, .int .u32 (rk : Int), .slice A2 m2 c2] 58))
        have HB2 := Lib.hid (HC.out.b.keep hfx HNS.out)
        clear hnew hd2 hf2 hrb2 hrb3 hxin hown hmc2 hnz2 hml hfx
        refine wpAnyH_ready (rs := [4]) (by kernel_rfl) (by simp) ?_
        refine AllReadyH.cons rfl (fun K hK => ?_) AllReadyH.nil
        go_simp
        refine hK.out _ _ (hS.alloc _) (fun hS => ?_)
        clear hK K
        refine wpAnyH_ready (rs := [5]) (by kernel_rfl) (by simp) ?_
        refine AllReadyH.cons rfl (fun K hK => ?_) AllReadyH.nil
        refine step_appC rfl (.tmp 21) (.tmp 24) rfl (.slice vA j vc) j lk (by rfl) HOWN.out (some ⟨x2.heap.size, 0, none⟩) 1 1 [⟨ru, rk, A2, m2, c2, rd⟩] (by rfl) HONE.out (by omega) ?_
        intro v1 w4 hown4 hgrow
        refine hK.out _ _ ?_ (fun hS => ?_)
        · exact hS.grown hgrow fun q hq => Or.inl (Or.inr (Or.inl (HOWN.out.2.2.1 q hq).1))
        clear hK K
        obtain ⟨A4, c4, rfl, _, _, _, _⟩ := hown4.reads (by omega)
        have hb4 : Blk w4 w1.heap.size 26 (pbk k s x (.slice vA j vc)) := (HB2.out.alloc (.cells #[.bool ru, .int .u32 (rk : Int), .slice A2 m2 c2] 58)).keep ((Fr.refl _ (fun b => SO b)).grown hgrow fun q hq => Or.inl (HOWN.out.2.2.1 q hq).1) HNO.out
        have n3 := hb4.cell 3
        have z3 := hb4.frozen 3
        simp only [pbk, List.getElem?_toArray, List.getElem?_cons_zero, List.getElem?_cons_succ] at n3
        have HO4 := Lib.hid hown4
        have HG4 := Lib.hid hgrow
        have HB4 := Lib.hid hb4
        clear hown4 hgrow hb4
        refine wpAnyH_take (i := 6) (v := ?_) rfl (by kernel_rfl) (by kernel_rfl) (by kernel_rfl) (fun _ _ _ h => h) (Or.inl ⟨by rfl, ?_⟩) hS ?_
        rotate_left
        · (intro wq hSw; go_simp; try with_reducible rfl)
        simp only [List.getElem_toArray, List.getElem_cons_succ, List.getElem_cons_zero, Act.put, List.setIfInBounds_toArray, List.set_cons_succ, List.set_cons_zero]
        refine wpAnyH_ready (rs := [7]) (by kernel_rfl) (by simp) ?_
        refine AllReadyH.cons rfl (fun K hK => ?_) AllReadyH.nil
        go_simp
        refine hK.out _ _ ?_ (fun hS => ?_)
        · exact hS.setCell (p := ⟨w1.heap.size, 3, none⟩) (Or.inl (Or.inr (Or.inr rfl))) _
        clear hK K
        refine wpAnyH_done (by kernel_rfl) ?_ _
        obtain ⟨W5, hW5⟩ : ∃ W5, w4.setCell ⟨w1.heap.size, 3, none⟩ (.slice A4 (j + 1) c4) = W5 := ⟨_, rfl⟩
        have hb5 : Blk W5 w1.heap.size 26 (pbk k s x (.slice A4 (j + 1) c4)) := by rw [← hW5]; exact HB4.out.set_ 3 _
        have hf5 : Fr w4 W5 (fun b => b = w1.heap.size) := by rw [← hW5]; exact fr_set (Fr.refl _ _) _ _
        have HB5 := Lib.hid hb5
        have HF5 := Lib.hid hf5
        clear hb5 hf5 n3 z3 hS
        go_wp2_with fail
        go_roundw
        case rel =>
          have hws : W.heap.size ≤ wr.heap.size := HC.out.f.size
          have hwx : wr.heap.size ≤ x2.heap.size := HF2.out.size
          have hfa : Fr x2 w4 (fun b => SO b) := ((Fr.refl x2 (fun b => SO b)).alloc _).grown HG4.out fun q hq => Or.inl (HOWN.out.2.2.1 q hq).1
          have hx4 : x2.heap.size + 1 ≤ w4.heap.size := by have := HG4.out.size; simpa using this
          refine ⟨j + 1, A4, c4, fun b => (SO b ∧ b < wr.heap.size) ∨ x2.heap.size + 1 ≤ b ∧ b < w4.heap.size, fun b => ((T b ∧ b < wr.heap.size) ∨ (wr.heap.size ≤ b ∧ b < x2.heap.size)) ∧ b < x2.heap.size + 1, lk ++ [⟨ru, rk, A2, m2, c2, rd⟩], by omega, by go_num, ?_⟩
          rw [hpb]
          refine ⟨?_, ?_, ?_, HB5.out, ?_, ?_, ?_, ?_, ?_⟩
          · refine (HO4.out.mono (S' := fun b => (SO b ∧ b < wr.heap.size) ∨ x2.heap.size + 1 ≤ b ∧ b < w4.heap.size) (T' := fun b => ((T b ∧ b < wr.heap.size) ∨ (wr.heap.size ≤ b ∧ b < x2.heap.size)) ∧ b < x2.heap.size + 1) (fun b hlt hb => ?_) (fun b hlt hb => ?_) (fun q hq hT => ?_)).keep HF5.out (fun b hb e => ?_) (fun b hb e => ?_)
            · rcases hb with hb | hb
              · exact Or.inl hb
              · exact Or.inr ⟨by simpa using hb, hlt⟩
            · exact ⟨hb.1, by have := hb.2; simpa using this⟩
            · exact HO4.out.2.2.2 q hq ⟨hT.1, by have := hT.2; simpa using this⟩
            · subst e
              rcases hb with hb | hb
              · exact (HC.out.so _ hb.1).2 rfl
              · have := HB2.out.lt; omega
            · subst e
              rcases hb.1 with hb | hb
              · exact (HC.out.t _ hb.1).2 rfl
              · have := HC.out.b.lt; omega
          · rw [List.map_append, HC.out.e]
            rw [rcs_succ, ← HR.out]
            simp [CV.e]
          · have e2 : (rcs ok4 l4 (j + 1)).2 = (rok, rl) := by rw [rcs_succ, ← HR.out]
            rw [e2]
            refine (Rd.keep HD2.out hfa fun b hb h => ?_).keep HF5.out fun b hb e => ?_
            · have := HS.out b hb; have := (HC.out.so b h).1; have := HSZ.out; omega
            · have := HS.out b hb; have := HW1.out; have := HPB.out; omega
          · intro b hb
            rcases hb with hb | hb
            · exact HC.out.so b hb.1
            · have := HB2.out.lt; omega
          · intro b hb
            rcases hb.1 with hb | hb
            · exact HC.out.t b hb.1
            · have := HC.out.b.lt; omega
          · exact ((HC.out.f.trans HF2.out fun _ hb => Or.inl hb).trans hfa fun b hb => Or.inr (HC.out.so b hb).1).trans HF5.out fun b hb => Or.inr (by have := HSZ3.out; have := HPB.out; omega)
          · refine (((HC.out.r.keep HF2.out fun h => by have := HS.out _ h; omega).keep hfa fun h => by have := (HC.out.so _ h).1; have := HSZ.out; omega)).keep HF5.out fun e => by have := HW1.out; have := HPB.out; omega
          · intro y hy
            have hfb : Fr x2 w4 (fun b => (Value.slice vA j vc).ownBlock = some b) := ((Fr.refl x2 (fun b => (Value.slice vA j vc).ownBlock = some b)).alloc _).grown HG4.out fun q hq => Or.inl hq
            have h9 : ∀ {U : Nat → Prop} {A' : Option Addr} {m' : Nat}, WB x2 U A' m' → (∀ b, U b → (T b ∧ b < wr.heap.size) ∨ (wr.heap.size ≤ b ∧ b < x2.heap.size)) → (∀ b, U b → b ≠ w1.heap.size) → WB W5 (fun b => ((T b ∧ b < wr.heap.size) ∨ (wr.heap.size ≤ b ∧ b < x2.heap.size)) ∧ b < x2.heap.size + 1) A' m' := by
              intro U A' m' hw hU hne
              have hw' := hw.mono (T := fun b => U b ∧ b < x2.heap.size) fun b hlt hb => ⟨hb, hlt⟩
              exact ((hw'.keep hfb fun b hb he => HOWN.out.2.2.2 b he (hU b hb.1)).keep HF5.out fun b hb e => hne b hb.1 e).mono fun b _ hb => ⟨hU b hb.1, by omega⟩
            rcases List.mem_append.1 hy with hy | hy
            · exact h9 (((HC.out.wb y hy).mono (T := fun b => T b ∧ b < wr.heap.size) fun b hlt hb => ⟨hb, hlt⟩).keep HF2.out fun b hb h => by have := HS.out b h; have := (HC.out.t b hb.1).1; have := HSZ.out; omega) (fun b hb => Or.inl hb) fun b hb => (HC.out.t b hb.1).2
            · rw [List.mem_singleton] at hy
              subst hy
              exact h9 HWB2.out (fun b hb => Or.inr hb) fun b hb e => by have := HC.out.b.lt; omega
        case measure => simp [intOf]; omega
      · go_simp
        refine HRD.out.mono ?_
        rintro e x2 ⟨A2, m2, c2, rfl, hnew, hd2, hf2⟩
        refine hK.out _ _ ?_ (fun hS => ?_)
        · exact hS.trans hf2 fun b hb => Or.inl (Or.inl hb)
        clear hK K
        have hfx : Fr wr x2 S := (Fr.refl wr S).drew.trans hf2 fun _ hb => Or.inl hb
        have HF2 := Lib.hid hfx
        have HD2 := Lib.hid hd2
        obtain ⟨Aw, cw, ew, hwb2⟩ := WB.of_ow (hnew.mono (T := fun b => wr.heap.size ≤ b ∧ b < x2.heap.size) fun b hlt hb => ⟨hb, hlt⟩)
        injection ew with ew _ ew3
        subst ew ew3
        have HWB2 := Lib.hid hwb2
        clear hwb2
        obtain ⟨A2', c2', e2, hmc2, hnz2, hrb2⟩ := Ow.reads hnew
        injection e2 with e2 _ e3
        subst e2 e3
        have hrb3 : RB x2 (fun b => wr.heap.size ≤ b ∧ b < x2.heap.size) A2 m2 rd := hrb2.mono fun b hlt hb => ⟨hb, hlt⟩
        have hml := HRL.out
        rw [hrb2.len] at hml
        have hxin : CV.In x2 (fun b => (T b ∧ b < wr.heap.size) ∨ (wr.heap.size ≤ b ∧ b < x2.heap.size)) ⟨ru, rk, A2, m2, c2, rd⟩ :=
          ⟨hrb3.mono fun b _ hb => Or.inr hb, HRK.out, hmc2, by simp only; omega, hnz2⟩
        have hown : OwC x2 (fun b => SO b ∧ b < wr.heap.size) (fun b => (T b ∧ b < wr.heap.size) ∨ (wr.heap.size ≤ b ∧ b < x2.heap.size)) (.slice vA j vc) j lk :=
          (HC.out.o.mono (S' := fun b => SO b ∧ b < wr.heap.size) (T' := fun b => (T b ∧ b < wr.heap.size) ∨ (wr.heap.size ≤ b ∧ b < x2.heap.size)) (fun b hlt hb => ⟨hb, hlt⟩) (fun b hlt hb => Or.inl ⟨hb, hlt⟩) (fun q hq hT => by
            have h1 := (HC.out.o.1.lt q hq).2
            rcases hT with hT | hT
            · exact HC.out.o.2.2.2 q hq hT.1
            · omega)).keep hfx (fun b hb h => by have := (HC.out.so b hb.1).1; have := HS.out b h; have := HSZ.out; omega) (fun b hb h => by
              have := HS.out b h; have := HSZ.out
              rcases hb with hb | hb
              · have := (HC.out.t b hb.1).1; omega
              · have := HC.out.f.size; omega)
        have HONE := Lib.hid (CR.one x2 All _ ⟨ru, rk, A2, m2, c2, rd⟩ x2.heap.size rfl trivial hxin)
        have HOWN := Lib.hid (hown.alloc (.cells #[.bool ru, .int .u32 (rk : Int), .slice A2 m2 c2] 58))
        have HB2 := Lib.hid (HC.out.b.keep hfx HNS.out)
        clear hnew hd2 hf2 hrb2 hrb3 hxin hown hmc2 hnz2 hml hfx
        refine wpAnyH_ready (rs := [1, 4]) (by kernel_rfl) (by simp) ?_
        refine AllReadyH.cons rfl (fun K hK => ?_) (AllReadyH.cons rfl (fun K hK => ?_) AllReadyH.nil)
        · have hc := (HB2.out).cell 3
          simp only [pbk, List.getElem?_toArray, List.getElem?_cons_zero, List.getElem?_cons_succ] at hc
          go_simp
          refine hK.out _ _ hS (fun hS => ?_)
          clear hK K hc
          refine wpAnyH_ready (rs := [4]) (by kernel_rfl) (by simp) ?_
          refine AllReadyH.cons rfl (fun K hK => ?_) AllReadyH.nil
          go_simp
          refine hK.out _ _ (hS.alloc _) (fun hS => ?_)
          clear hK K
          refine wpAnyH_ready (rs := [5]) (by kernel_rfl) (by simp) ?_
          refine AllReadyH.cons rfl (fun K hK => ?_) AllReadyH.nil
          refine step_appC rfl (.tmp 21) (.tmp 24) rfl (.slice vA j vc) j lk (by rfl) HOWN.out (some ⟨x2.heap.size, 0, none⟩) 1 1 [⟨ru, rk, A2, m2, c2, rd⟩] (by rfl) HONE.out (by omega) ?_
          intro v1 w4 hown4 hgrow
          refine hK.out _ _ ?_ (fun hS => ?_)
          · exact hS.grown hgrow fun q hq => Or.inl (Or.inr (Or.inl (HOWN.out.2.2.1 q hq).1))
          clear hK K
          obtain ⟨A4, c4, rfl, _, _, _, _⟩ := hown4.reads (by omega)
          have hb4 : Blk w4 w1.heap.size 26 (pbk k s x (.slice vA j vc)) := (HB2.out.alloc (.cells #[.bool ru, .int .u32 (rk : Int), .slice A2 m2 c2] 58)).keep ((Fr.refl _ (fun b => SO b)).grown hgrow fun q hq => Or.inl (HOWN.out.2.2.1 q hq).1) HNO.out
          have n3 := hb4.cell 3
          have z3 := hb4.frozen 3
          simp only [pbk, List.getElem?_toArray, List.getElem?_cons_zero, List.getElem?_cons_succ] at n3
          have HO4 := Lib.hid hown4
          have HG4 := Lib.hid hgrow
          have HB4 := Lib.hid hb4
          clear hown4 hgrow hb4
          refine wpAnyH_take (i := 6) (v := ?_) rfl (by kernel_rfl) (by kernel_rfl) (by kernel_rfl) (fun _ _ _ h => h) (Or.inl ⟨by rfl, ?_⟩) hS ?_
          rotate_left
          · (intro wq hSw; go_simp; try with_reducible rfl)
          simp only [List.getElem_toArray, List.getElem_cons_succ, List.getElem_cons_zero, Act.put, List.setIfInBounds_toArray, List.set_cons_succ, List.set_cons_zero]
          refine wpAnyH_ready (rs := [7]) (by kernel_rfl) (by simp) ?_
          refine AllReadyH.cons rfl (fun K hK => ?_) AllReadyH.nil
          go_simp
          refine hK.out _ _ ?_ (fun hS => ?_)
          · exact hS.setCell (p := ⟨w1.heap.size, 3, none⟩) (Or.inl (Or.inr (Or.inr rfl))) _
          clear hK K
          refine wpAnyH_done (by kernel_rfl) ?_ _
          obtain ⟨W5, hW5⟩ : ∃ W5, w4.setCell ⟨w1.heap.size, 3, none⟩ (.slice A4 (j + 1) c4) = W5 := ⟨_, rfl⟩
          have hb5 : Blk W5 w1.heap.size 26 (pbk k s x (.slice A4 (j + 1) c4)) := by rw [← hW5]; exact HB4.out.set_ 3 _
          have hf5 : Fr w4 W5 (fun b => b = w1.heap.size) := by rw [← hW5]; exact fr_set (Fr.refl _ _) _ _
          have HB5 := Lib.hid hb5
          have HF5 := Lib.hid hf5
          clear hb5 hf5 n3 z3 hS
          go_wp2_with fail
          go_roundw
          case rel =>
            have hws : W.heap.size ≤ wr.heap.size := HC.out.f.size
            have hwx : wr.heap.size ≤ x2.heap.size := HF2.out.size
            have hfa : Fr x2 w4 (fun b => SO b) := ((Fr.refl x2 (fun b => SO b)).alloc _).grown HG4.out fun q hq => Or.inl (HOWN.out.2.2.1 q hq).1
            have hx4 : x2.heap.size + 1 ≤ w4.heap.size := by have := HG4.out.size; simpa using this
            refine ⟨j + 1, A4, c4, fun b => (SO b ∧ b < wr.heap.size) ∨ x2.heap.size + 1 ≤ b ∧ b < w4.heap.size, fun b => ((T b ∧ b < wr.heap.size) ∨ (wr.heap.size ≤ b ∧ b < x2.heap.size)) ∧ b < x2.heap.size + 1, lk ++ [⟨ru, rk, A2, m2, c2, rd⟩], by omega, by go_num, ?_⟩
            rw [hpb]
            refine ⟨?_, ?_, ?_, HB5.out, ?_, ?_, ?_, ?_, ?_⟩
            · refine (HO4.out.mono (S' := fun b => (SO b ∧ b < wr.heap.size) ∨ x2.heap.size + 1 ≤ b ∧ b < w4.heap.size) (T' := fun b => ((T b ∧ b < wr.heap.size) ∨ (wr.heap.size ≤ b ∧ b < x2.heap.size)) ∧ b < x2.heap.size + 1) (fun b hlt hb => ?_) (fun b hlt hb => ?_) (fun q hq hT => ?_)).keep HF5.out (fun b hb e => ?_) (fun b hb e => ?_)
              · rcases hb with hb | hb
                · exact Or.inl hb
                · exact Or.inr ⟨by simpa using hb, hlt⟩
              · exact ⟨hb.1, by have := hb.2; simpa using this⟩
              · exact HO4.out.2.2.2 q hq ⟨hT.1, by have := hT.2; simpa using this⟩
              · subst e
                rcases hb with hb | hb
                · exact (HC.out.so _ hb.1).2 rfl
                · have := HB2.out.lt; omega
              · subst e
                rcases hb.1 with hb | hb
                · exact (HC.out.t _ hb.1).2 rfl
                · have := HC.out.b.lt; omega
            · rw [List.map_append, HC.out.e]
              rw [rcs_succ, ← HR.out]
              simp [CV.e]
            · have e2 : (rcs ok4 l4 (j + 1)).2 = (rok, rl) := by rw [rcs_succ, ← HR.out]
              rw [e2]
              refine (Rd.keep HD2.out hfa fun b hb h => ?_).keep HF5.out fun b hb e => ?_
              · have := HS.out b hb; have := (HC.out.so b h).1; have := HSZ.out; omega
              · have := HS.out b hb; have := HW1.out; have := HPB.out; omega
            · intro b hb
              rcases hb with hb | hb
              · exact HC.out.so b hb.1
              · have := HB2.out.lt; omega
            · intro b hb
              rcases hb.1 with hb | hb
              · exact HC.out.t b hb.1
              · have := HC.out.b.lt; omega
            · exact ((HC.out.f.trans HF2.out fun _ hb => Or.inl hb).trans hfa fun b hb => Or.inr (HC.out.so b hb).1).trans HF5.out fun b hb => Or.inr (by have := HSZ3.out; have := HPB.out; omega)
            · refine (((HC.out.r.keep HF2.out fun h => by have := HS.out _ h; omega).keep hfa fun h => by have := (HC.out.so _ h).1; have := HSZ.out; omega)).keep HF5.out fun e => by have := HW1.out; have := HPB.out; omega
            · intro y hy
              have hfb : Fr x2 w4 (fun b => (Value.slice vA j vc).ownBlock = some b) := ((Fr.refl x2 (fun b => (Value.slice vA j vc).ownBlock = some b)).alloc _).grown HG4.out fun q hq => Or.inl hq
              have h9 : ∀ {U : Nat → Prop} {A' : Option Addr} {m' : Nat}, WB x2 U A' m' → (∀ b, U b → (T b ∧ b < wr.heap.size) ∨ (wr.heap.size ≤ b ∧ b < x2.heap.size)) → (∀ b, U b → b ≠ w1.heap.size) → WB W5 (fun b => ((T b ∧ b < wr.heap.size) ∨ (wr.heap.size ≤ b ∧ b < x2.heap.size)) ∧ b < x2.heap.size + 1) A' m' := by
                intro U A' m' hw hU hne
                have hw' := hw.mono (T := fun b => U b ∧ b < x2.heap.size) fun b hlt hb => ⟨hb, hlt⟩
                exact ((hw'.keep hfb fun b hb he => HOWN.out.2.2.2 b he (hU b hb.1)).keep HF5.out fun b hb e => hne b hb.1 e).mono fun b _ hb => ⟨hU b hb.1, by omega⟩
              rcases List.mem_append.1 hy with hy | hy
              · exact h9 (((HC.out.wb y hy).mono (T := fun b => T b ∧ b < wr.heap.size) fun b hlt hb => ⟨hb, hlt⟩).keep HF2.out fun b hb h => by have := HS.out b h; have := (HC.out.t b hb.1).1; have := HSZ.out; omega) (fun b hb => Or.inl hb) fun b hb => (HC.out.t b hb.1).2
              · rw [List.mem_singleton] at hy
                subst hy
                exact h9 HWB2.out (fun b hb => Or.inr hb) fun b hb e => by have := HC.out.b.lt; omega
          case measure => simp [intOf]; omega
        · go_simp
          refine hK.out _ _ (hS.alloc _) (fun hS => ?_)
          clear hK K
          refine wpAnyH_ready (rs := [1]) (by kernel_rfl) (by simp) ?_
          refine AllReadyH.cons rfl (fun K hK => ?_) AllReadyH.nil
          have hc := (HB2.out.alloc (.cells #[.bool ru, .int .u32 (rk : Int), .slice A2 m2 c2] 58)).cell 3
          simp only [pbk, List.getElem?_toArray, List.getElem?_cons_zero, List.getElem?_cons_succ] at hc
          go_simp
          refine hK.out _ _ hS (fun hS => ?_)
          clear hK K hc
          refine wpAnyH_ready (rs := [5]) (by kernel_rfl) (by simp) ?_
          refine AllReadyH.cons rfl (fun K hK => ?_) AllReadyH.nil
          refine step_appC rfl (.tmp 21) (.tmp 24) rfl (.slice vA j vc) j lk (by rfl) HOWN.out (some ⟨x2.heap.size, 0, none⟩) 1 1 [⟨ru, rk, A2, m2, c2, rd⟩] (by rfl) HONE.out (by omega) ?_
          intro v1 w4 hown4 hgrow
          refine hK.out _ _ ?_ (fun hS => ?_)
          · exact hS.grown hgrow fun q hq => Or.inl (Or.inr (Or.inl (HOWN.out.2.2.1 q hq).1))
          clear hK K
          obtain ⟨A4, c4, rfl, _, _, _, _⟩ := hown4.reads (by omega)
          have hb4 : Blk w4 w1.heap.size 26 (pbk k s x (.slice vA j vc)) := (HB2.out.alloc (.cells #[.bool ru, .int .u32 (rk : Int), .slice A2 m2 c2] 58)).keep ((Fr.refl _ (fun b => SO b)).grown hgrow fun q hq => Or.inl (HOWN.out.2.2.1 q hq).1) HNO.out
          have n3 := hb4.cell 3
          have z3 := hb4.frozen 3
          simp only [pbk, List.getElem?_toArray, List.getElem?_cons_zero, List.getElem?_cons_succ] at n3
          have HO4 := Lib.hid hown4
          have HG4 := Lib.hid hgrow
          have HB4 := Lib.hid hb4
          clear hown4 hgrow hb4
          refine wpAnyH_take (i := 6) (v := ?_) rfl (by kernel_rfl) (by kernel_rfl) (by kernel_rfl) (fun _ _ _ h => h) (Or.inl ⟨by rfl, ?_⟩) hS ?_
          rotate_left
          · (intro wq hSw; go_simp; try with_reducible rfl)
          simp only [List.getElem_toArray, List.getElem_cons_succ, List.getElem_cons_zero, Act.put, List.setIfInBounds_toArray, List.set_cons_succ, List.set_cons_zero]
          refine wpAnyH_ready (rs := [7]) (by kernel_rfl) (by simp) ?_
          refine AllReadyH.cons rfl (fun K hK => ?_) AllReadyH.nil
          go_simp
          refine hK.out _ _ ?_ (fun hS => ?_)
          · exact hS.setCell (p := ⟨w1.heap.size, 3, none⟩) (Or.inl (Or.inr (Or.inr rfl))) _
          clear hK K
          refine wpAnyH_done (by kernel_rfl) ?_ _
          obtain ⟨W5, hW5⟩ : ∃ W5, w4.setCell ⟨w1.heap.size, 3, none⟩ (.slice A4 (j + 1) c4) = W5 := ⟨_, rfl⟩
          have hb5 : Blk W5 w1.heap.size 26 (pbk k s x (.slice A4 (j + 1) c4)) := by rw [← hW5]; exact HB4.out.set_ 3 _
          have hf5 : Fr w4 W5 (fun b => b = w1.heap.size) := by rw [← hW5]; exact fr_set (Fr.refl _ _) _ _
          have HB5 := Lib.hid hb5
          have HF5 := Lib.hid hf5
          clear hb5 hf5 n3 z3 hS
          go_wp2_with fail
          go_roundw
          case rel =>
            have hws : W.heap.size ≤ wr.heap.size := HC.out.f.size
            have hwx : wr.heap.size ≤ x2.heap.size := HF2.out.size
            have hfa : Fr x2 w4 (fun b => SO b) := ((Fr.refl x2 (fun b => SO b)).alloc _).grown HG4.out fun q hq => Or.inl (HOWN.out.2.2.1 q hq).1
            have hx4 : x2.heap.size + 1 ≤ w4.heap.size := by have := HG4.out.size; simpa using this
            refine ⟨j + 1, A4, c4, fun b => (SO b ∧ b < wr.heap.size) ∨ x2.heap.size + 1 ≤ b ∧ b < w4.heap.size, fun b => ((T b ∧ b < wr.heap.size) ∨ (wr.heap.size ≤ b ∧ b < x2.heap.size)) ∧ b < x2.heap.size + 1, lk ++ [⟨ru, rk, A2, m2, c2, rd⟩], by omega, by go_num, ?_⟩
            rw [hpb]
            refine ⟨?_, ?_, ?_, HB5.out, ?_, ?_, ?_, ?_, ?_⟩
            · refine (HO4.out.mono (S' := fun b => (SO b ∧ b < wr.heap.size) ∨ x2.heap.size + 1 ≤ b ∧ b < w4.heap.size) (T' := fun b => ((T b ∧ b < wr.heap.size) ∨ (wr.heap.size ≤ b ∧ b < x2.heap.size)) ∧ b < x2.heap.size + 1) (fun b hlt hb => ?_) (fun b hlt hb => ?_) (fun q hq hT => ?_)).keep HF5.out (fun b hb e => ?_) (fun b hb e => ?_)
              · rcases hb with hb | hb
                · exact Or.inl hb
                · exact Or.inr ⟨by simpa using hb, hlt⟩
              · exact ⟨hb.1, by have := hb.2; simpa using this⟩
              · exact HO4.out.2.2.2 q hq ⟨hT.1, by have := hT.2; simpa using this⟩
              · subst e
                rcases hb with hb | hb
                · exact (HC.out.so _ hb.1).2 rfl
                · have := HB2.out.lt; omega
              · subst e
                rcases hb.1 with hb | hb
                · exact (HC.out.t _ hb.1).2 rfl
                · have := HC.out.b.lt; omega
            · rw [List.map_append, HC.out.e]
              rw [rcs_succ, ← HR.out]
              simp [CV.e]
            · have e2 : (rcs ok4 l4 (j + 1)).2 = (rok, rl) := by rw [rcs_succ, ← HR.out]
              rw [e2]
              refine (Rd.keep HD2.out hfa fun b hb h => ?_).keep HF5.out fun b hb e => ?_
              · have := HS.out b hb; have := (HC.out.so b h).1; have := HSZ.out; omega
              · have := HS.out b hb; have := HW1.out; have := HPB.out; omega
            · intro b hb
              rcases hb with hb | hb
              · exact HC.out.so b hb.1
              · have := HB2.out.lt; omega
            · intro b hb
              rcases hb.1 with hb | hb
              · exact HC.out.t b hb.1
              · have := HC.out.b.lt; omega
            · exact ((HC.out.f.trans HF2.out fun _ hb => Or.inl hb).trans hfa fun b hb => Or.inr (HC.out.so b hb).1).trans HF5.out fun b hb => Or.inr (by have := HSZ3.out; have := HPB.out; omega)
            · refine (((HC.out.r.keep HF2.out fun h => by have := HS.out _ h; omega).keep hfa fun h => by have := (HC.out.so _ h).1; have := HSZ.out; omega)).keep HF5.out fun e => by have := HW1.out; have := HPB.out; omega
            · intro y hy
              have hfb : Fr x2 w4 (fun b => (Value.slice vA j vc).ownBlock = some b) := ((Fr.refl x2 (fun b => (Value.slice vA j vc).ownBlock = some b)).alloc _).grown HG4.out fun q hq => Or.inl hq
              have h9 : ∀ {U : Nat → Prop} {A' : Option Addr} {m' : Nat}, WB x2 U A' m' → (∀ b, U b → (T b ∧ b < wr.heap.size) ∨ (wr.heap.size ≤ b ∧ b < x2.heap.size)) → (∀ b, U b → b ≠ w1.heap.size) → WB W5 (fun b => ((T b ∧ b < wr.heap.size) ∨ (wr.heap.size ≤ b ∧ b < x2.heap.size)) ∧ b < x2.heap.size + 1) A' m' := by
                intro U A' m' hw hU hne
                have hw' := hw.mono (T := fun b => U b ∧ b < x2.heap.size) fun b hlt hb => ⟨hb, hlt⟩
                exact ((hw'.keep hfb fun b hb he => HOWN.out.2.2.2 b he (hU b hb.1)).keep HF5.out fun b hb e => hne b hb.1 e).mono fun b _ hb => ⟨hU b hb.1, by omega⟩
              rcases List.mem_append.1 hy with hy | hy
              · exact h9 (((HC.out.wb y hy).mono (T := fun b => T b ∧ b < wr.heap.size) fun b hlt hb => ⟨hb, hlt⟩).keep HF2.out fun b hb h => by have := HS.out b h; have := (HC.out.t b hb.1).1; have := HSZ.out; omega) (fun b hb => Or.inl hb) fun b hb => (HC.out.t b hb.1).2
              · rw [List.mem_singleton] at hy
                subst hy
                exact h9 HWB2.out (fun b hb => Or.inr hb) fun b hb e => by have := HC.out.b.lt; omega
          case measure => simp [intOf]; omega
    · have h1d : decide ((j : Int) < (n : Int)) = false := decide_eq_false (by omega)
      have h1d2 : decide (j < n) = false := decide_eq_false hlt
      have HJN := Lib.hid (show j = n by omega)
      rw [hpb] at HC y0 y1 y2 y3
      have hbr9 : Blk wr w.heap.size 26 #[.int .i64 0, .int .u64 0, .int .u32 0, .slice none 0 0] := HC.out.r
      have r0 := hbr9.cell 0
      have r1 := hbr9.cell 1
      have r2 := hbr9.cell 2
      have r3 := hbr9.cell 3
      have q0 := hbr9.frozen 0
      have q1 := hbr9.frozen 1
      have q2 := hbr9.frozen 2
      have q3 := hbr9.frozen 3
      simp only [List.getElem?_toArray, List.getElem?_cons_zero, List.getElem?_cons_succ] at r0 r1 r2 r3
      obtain ⟨G, hG⟩ : ∃ G, (((wr.setCell ⟨w.heap.size, 0, none⟩ (.int .i64 (k : Int))).setCell ⟨w.heap.size, 1, none⟩ (.int .u64 (s : Int))).setCell ⟨w.heap.size, 2, none⟩ (.int .u32 (x : Int))).setCell ⟨w.heap.size, 3, none⟩ (.slice vA j vc) = G := ⟨_, rfl⟩
      have hbg : Blk G w.heap.size 26 #[.int .i64 (k : Int), .int .u64 (s : Int), .int .u32 (x : Int), .slice vA j vc] := by rw [← hG]; exact (((hbr9.set_ 0 _).set_ 1 _).set_ 2 _).set_ 3 _
      have hfG : Fr wr G (fun b => b = w.heap.size) := by
        rw [← hG]
        exact fr_set (fr_set (fr_set (fr_set (Fr.refl _ _) _ _) _ _) _ _) _ _
      have g0 := hbg.cell 0
      have g1 := hbg.cell 1
      have g2 := hbg.cell 2
      have g3 := hbg.cell 3
      simp only [List.getElem?_toArray, List.getElem?_cons_zero, List.getElem?_cons_succ] at g0 g1 g2 g3
      have HFG := Lib.hid hfG
      clear hbr9 hbg hfG
      go_wp2_with fail
      refine bodyPost_ret (v := .agg #[.int .i64 (k : Int), .int .u64 (s : Int), .int .u32 (x : Int), .slice vA j vc]) (by simp [results, Try.results53, go_sem, g0, g1, g2, g3]) rfl ?_
      rw [HU.out]
      refine ⟨⟨(k : Int), s, x, vA, j, vc, lk⟩, SO, T, rfl, ⟨HC.out.o.keep HFG.out (fun b hb e => ?_) (fun b hb e => ?_), by show j ≤ _; omega, by show _ ≤ (k : Int); omega, by show (k : Int) ≤ _; have := HK1.out; omega, HS1.out, HX1.out⟩, fun b hb => ?_, fun b hb => ?_, ?_, rfl, rfl, rfl, HJN.out, ?_, ?_, fun y hy => ?_⟩
      · have := (HC.out.so b hb).1; have := HSZ.out; omega
      · have := (HC.out.t b hb).1; have := HSZ.out; omega
      · have := (HC.out.so b hb).1; have := HSZ.out; omega
      · have := (HC.out.t b hb).1; have := HSZ.out; omega
      · show lk.map CV.e = (rcs ok4 l4 n).1
        rw [HC.out.e, HJN.out]
      · rw [← HJN.out]
        exact Rd.keep HC.out.d HFG.out fun b hb e => by have := HS.out b hb; omega
      · exact ((HFW.out.mono fun _ _ hn => hn.elim).trans HC.out.f fun _ hb => Or.inl hb).trans HFG.out fun b hb => Or.inr (by omega)
      · exact (HC.out.wb y hy).keep HFG.out fun b hb e => by have := (HC.out.t b hb).1; have := HSZ.out; omega
theorem readPage_any (w : World) (S : Nat → Prop) (p : Option Nat) (ok : Bool) (l : List Nat) (h : Rd w S p ok l) (hS : ∀ b, S b → b < w.heap.size) : Calls Try.prog 53 #[ptr p] w (RPage w S p (rpage ok l)) := by
  refine (readPage_soft w S p ok l h hS).mono ?_
  rintro e w' ⟨q, S', T', a, b, c, d, e1, e2, e3, e4, e5, e6, e7, _⟩
  exact ⟨q, S', T', a, b, c, d, e1, e2, e3, e4, e5, e6, e7⟩
end Go.Proofs.Ytajmpoanmdgmpaa
