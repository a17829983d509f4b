/-
STAGE 12: waitsFor. STAGE 12: isFree.
-/
import Derived.Test.YtlblgfpafdfilaaDoorLF
namespace Go.Proofs.YtlblgfpafdfilaaDoor
open Go.RowKit Go.Sort

/-- what waitsFor makes: the closure of the lock q at place p -/
def WF (w : World) (g p : Nat) (q : LK) (pass : Bool) (fv : Value) : Prop :=
  ∃ a1 a2 a3 a4, fv = .func (.func 59) #[] #[.pointer (some ⟨a1, 0, none⟩), .pointer (some ⟨a2, 0, none⟩), .pointer (some ⟨a3, 0, none⟩), .pointer (some ⟨a4, 0, none⟩)] ∧
    w.cell? ⟨a1, 0, none⟩ = some (.pointer (some ⟨g, 0, none⟩)) ∧ w.cell? ⟨a2, 0, none⟩ = some (.int .i64 (p : Int)) ∧ w.cell? ⟨a3, 0, none⟩ = some (.bool pass) ∧ Blk w a4 46 (lcs q)
theorem cell_up {w w' : World} {p : Addr} {v : Value} (h : w.cell? p = some v) (hb : Below w.heap.size w w') : w'.cell? p = some v := (hb.cell (block_lt_of_cell h)).trans h
theorem WF.up {w w' : World} {g p : Nat} {q : LK} {pass : Bool} {fv : Value} (h : WF w g p q pass fv) (hb : Below w.heap.size w w') : WF w' g p q pass fv := by
  obtain ⟨a1, a2, a3, a4, e, h1, h2, h3, h4⟩ := h
  exact ⟨a1, a2, a3, a4, e, cell_up h1 hb, cell_up h2 hb, cell_up h3 hb, h4.below hb h4.lt⟩
/-- the same, its boxes from z on -/
def WFb (w : World) (z g p : Nat) (q : LK) (pass : Bool) (fv : Value) : Prop :=
  ∃ a1 a2 a3 a4, fv = .func (.func 59) #[] #[.pointer (some ⟨a1, 0, none⟩), .pointer (some ⟨a2, 0, none⟩), .pointer (some ⟨a3, 0, none⟩), .pointer (some ⟨a4, 0, none⟩)] ∧
    w.cell? ⟨a1, 0, none⟩ = some (.pointer (some ⟨g, 0, none⟩)) ∧ w.cell? ⟨a2, 0, none⟩ = some (.int .i64 (p : Int)) ∧ w.cell? ⟨a3, 0, none⟩ = some (.bool pass) ∧ Blk w a4 46 (lcs q) ∧ (z ≤ a1 ∧ z ≤ a2 ∧ z ≤ a3 ∧ z ≤ a4)
theorem WFb.wf {w : World} {z g p : Nat} {q : LK} {pass : Bool} {fv : Value} (h : WFb w z g p q pass fv) : WF w g p q pass fv := by
  obtain ⟨a1, a2, a3, a4, e, h1, h2, h3, h4, _⟩ := h
  exact ⟨a1, a2, a3, a4, e, h1, h2, h3, h4⟩
theorem WFb.keep {w w' : World} {z g p : Nat} {q : LK} {pass : Bool} {fv : Value} (h : WFb w z g p q pass fv) (hf : Fr w w' fun b => b < z) : WFb w' z g p q pass fv := by
  obtain ⟨a1, a2, a3, a4, e, h1, h2, h3, h4, z1, z2, z3, z4⟩ := h
  have k : ∀ {a : Nat} {u : Value}, z ≤ a → w.cell? ⟨a, 0, none⟩ = some u → w'.cell? ⟨a, 0, none⟩ = some u := fun hz hc => (World.cell?_of_block (hf.block _ (block_lt_of_cell hc) (by simpa using hz))).trans hc
  exact ⟨a1, a2, a3, a4, e, k z1 h1, k z2 h2, k z3 h3, h4.keep hf (by omega), z1, z2, z3, z4⟩
theorem boxesPI (w : World) (v u : Value) (t s : TypeId) : ∃ W, (w.alloc (.cells #[v] t)).alloc (.cells #[u] s) = W ∧ Below w.heap.size w W ∧ Blk W w.heap.size t #[v] ∧ Blk W (w.heap.size + 1) s #[u] ∧ W.heap.size = w.heap.size + 2 := by
  refine ⟨_, rfl, ((Below.refl w.heap.size w).alloc (Nat.le_refl _) _).alloc (by simp) _, (Blk.new w t #[v]).alloc _, ?_, by simp⟩
  have := Blk.new (w.alloc (.cells #[v] t)) s #[u]
  rwa [World.size_alloc] at this
set_option maxRecDepth 100000 in
set_option maxHeartbeats 2000000 in
theorem waitsFor_b (g : Nat) (A : Option Addr) (c : Nat) (ls : List LK) (w : World) (hT : TR w g A c ls) (q : LK) (p : Nat) (hq : ls[p]? = some q) :
    Calls Tryd.prog 33 #[.pointer (some ⟨g, 0, none⟩), .int .i64 (p : Int)] w fun e w' => ∃ fv, e = .returned fv ∧ WFb w' w.heap.size g p q (ls.any (passP q)) fv ∧ Below w.heap.size w w' := by
  obtain ⟨W, hW, hb, b1, b2, hsz⟩ := boxesPI w (.pointer (some ⟨g, 0, none⟩)) (.int .i64 (p : Int)) 25 3
  obtain ⟨b, rfl, hcs⟩ := hT.row p q hq
  obtain ⟨z0, z1, z2, z3, z4, z5, z6⟩ := hcs.up hb
  have hp : p < ls.length := (List.getElem?_eq_some_iff.1 hq).1
  have hp2 : (p : Int) < (ls.length : Int) := by omega
  have c0 := (hT.blk.below hb hT.blk.lt).cell 0
  have v1 := b1.cell 0
  have v2 := b2.cell 0
  simp only [List.getElem?_toArray, List.getElem?_cons_zero] at c0 v1 v2
  have l0 := b1.lt
  have l1 := b2.lt
  have lb := (hcs.up hb).lt
  have lg := (hT.up hb).blk.lt
  have HT := Lib.hid (hT.up hb)
  have HB := Lib.hid hb
  have H1 := Lib.hid b1
  have H2 := Lib.hid b2
  obtain ⟨W2, hW2⟩ : ∃ W2, W2 = (W.alloc (.cells (lcs q) 46)).drew := ⟨_, rfl⟩
  have HN := Lib.hid (show Blk W2 W.heap.size 46 (lcs q) by rw [hW2]; exact Blk.new W 46 (lcs q))
  have HBN := Lib.hid (show Below W.heap.size W W2 by rw [hW2]; exact (((Below.refl _ _).alloc (Nat.le_refl _) _).drew))
  have HS := Lib.hid (some_any 57 (Or.inr (Or.inr rfl)) #[.pointer (some ⟨W.heap.size, 0, none⟩)] (passP q) g (some ⟨b, 0, none⟩) c ls W2 (HT.out.up HBN.out)
    (fun k l b' hl e W' hW' => passP_any q l _ b' _ W' (by
      obtain ⟨b2, e2, hc⟩ := HT.out.row k l hl
      obtain rfl : b2 = b' := by rw [e2] at e; injection e with e; injection e
      exact (hc.up HBN.out).up hW') (HN.out.below hW' HN.out.lt)))
  generalize ls.any (passP q) = ps at HS ⊢
  have HE := Lib.hid hW2
  unfold lcs at hW2
  have HNL := Lib.hid (rfl : ls.length = ls.length)
  generalize ls.length = n at c0 hp2 
  clear hT hq hcs hp hb b1 b2 hsz HNL
  go_enter Tryd.func33, Tryd.ntmps33
  go_upto_region 1 with fail
  clear hW
  go_region
  rw [← hW2]
  have u1 := (H1.out.below HBN.out H1.out.lt).cell 0
  simp only [List.getElem?_toArray, List.getElem?_cons_zero] at u1
  clear hW2 z0 z1 z2 z3 z4 z5 z6 v1 v2 c0
  go_wp2_with (go_at_call 42; with_reducible refine HS.out.mono ?_; rintro e w3 ⟨rfl, hb3⟩; have HB3 := Lib.hid hb3; clear hb3)
  go_ret
  have hB23 : Below W.heap.size W w3 := below_trans HBN.out HB3.out
  have hB34 : Below w3.heap.size w3 (w3.alloc (.cells #[.bool ps] 4)) := (Below.refl _ _).alloc (Nat.le_refl _) _
  have hB4 := below_trans hB23 hB34
  refine ⟨_, rfl, ⟨_, _, _, _, rfl, (H1.out.below hB4 H1.out.lt).cell 0, (H2.out.below hB4 H2.out.lt).cell 0, (Blk.new w3 4 #[.bool ps]).cell 0, (HN.out.below HB3.out HN.out.lt).below hB34 (HN.out.below HB3.out HN.out.lt).lt, Nat.le_refl _, Nat.le_succ _, Nat.le_trans HB.out.size hB23.size, HB.out.size⟩, below_trans HB.out hB4⟩
theorem waitsFor_any (g : Nat) (A : Option Addr) (c : Nat) (ls : List LK) (w : World) (hT : TR w g A c ls) (q : LK) (p : Nat) (hq : ls[p]? = some q) :
    Calls Tryd.prog 33 #[.pointer (some ⟨g, 0, none⟩), .int .i64 (p : Int)] w fun e w' => ∃ fv, e = .returned fv ∧ WF w' g p q (ls.any (passP q)) fv ∧ Below w.heap.size w w' :=
  (waitsFor_b g A c ls w hT q p hq).mono fun _ _ ⟨fv, he, hw, hb⟩ => ⟨fv, he, hw.wf, hb⟩
/-- the closure is called -/
theorem WF.call {w W : World} {g p : Nat} {q : LK} {pass : Bool} {fv : Value} (h : WF w g p q pass fv) {A : Option Addr} {c : Nat} {ls : List LK} (hT : TR w g A c ls) (hg : Gw w) (hqo : q.Ok) (hb : Below w.heap.size w W) (k : Nat) (l : LK) (hl : ls[k]? = some l) :
    ∃ caps, fv = .func (.func 59) #[] caps ∧ Calls Tryd.prog 59 (#[.int .i64 (k : Int)] ++ caps) W fun e w' => e = .returned (.bool (waitM pass q p l k)) ∧ Below W.heap.size W w' := by
  obtain ⟨a1, a2, a3, a4, e, h1, h2, h3, h4⟩ := h
  exact ⟨_, e, waitP_any g A c ls W (hT.up hb) (hg.below hb) q hqo p k l hl pass a1 a2 a3 a4 (cell_up h1 hb) (cell_up h2 hb) (cell_up h3 hb) (h4.below hb h4.lt)⟩
end Go.Proofs.YtlblgfpafdfilaaDoor
namespace Go.Proofs.YtlblgfpafdfilaaDoor
open Go.RowKit Go.Sort

def okz : LK := ⟨0, ⟨false, 0, ⟨#[]⟩, ⟨#[]⟩⟩, 1, false⟩
/-- the k-th waits for none of the first n ones -/
def freeTo (ls : List LK) (q : LK) (p n : Nat) : Bool := (List.range n).all fun k => !waitM (ls.any (passP q)) q p (ls.getD k okz) k
/-- the lock at place p may be held -/
def freeM (ls : List LK) (p : Nat) : Bool := freeTo ls (ls.getD p okz) p ls.length
theorem freeTo_succ (ls : List LK) (q : LK) (p n : Nat) : freeTo ls q p (n + 1) = (freeTo ls q p n && !waitM (ls.any (passP q)) q p (ls.getD n okz) n) := by
  unfold freeTo
  rw [List.range_succ, List.all_append]
  simp
theorem freeTo_false {ls : List LK} {q : LK} {p n : Nat} (h : freeTo ls q p n = false) : ∀ m, n ≤ m → freeTo ls q p m = false
  | 0, hm => by obtain rfl : n = 0 := by omega
                exact h
  | m + 1, hm => by
    rcases Nat.lt_or_ge n (m + 1) with h1 | h1
    · rw [freeTo_succ, freeTo_false h m (by omega)]; rfl
    · obtain rfl : n = m + 1 := by omega
      exact h
theorem getD_of {ls : List LK} {k : Nat} {l : LK} (h : ls[k]? = some l) : ls.getD k okz = l := by simp [List.getD, h]
set_option maxRecDepth 100000 in
set_option maxHeartbeats 2000000 in
theorem isFree_any (g : Nat) (A : Option Addr) (c : Nat) (ls : List LK) (w : World) (hT : TR w g A c ls) (hg : Gw w) (p : Nat) (hp : p < ls.length) :
    Calls Tryd.prog 64 #[.pointer (some ⟨g, 0, none⟩), .int .i64 (p : Int)] w fun e w' => e = .returned (.bool (freeM ls p)) ∧ Below w.heap.size w w' := by
  have hq : ls[p]? = some ls[p] := List.getElem?_eq_getElem hp
  unfold freeM
  rw [getD_of hq]
  generalize ls[p] = q at hq ⊢
  have HW := Lib.hid (waitsFor_any g A c ls w hT q p hq)
  have HT := Lib.hid hT
  have HG := Lib.hid hg
  have HQ := Lib.hid (hT.ok q (List.mem_of_getElem? hq))
  have HF := Lib.hid hT.few
  clear hT hg hq
  go_enter Tryd.func64, Tryd.ntmps64
  go_wp2_with (go_at_call 33; with_reducible refine HW.out.mono ?_; rintro e w1 ⟨fv, rfl, hwf, hb1⟩; have HWF := Lib.hid hwf; have HB1 := Lib.hid hb1; have HT1 := Lib.hid (HT.out.up hb1); have HG1 := Lib.hid (HG.out.below hb1); have c1 := HT1.out.blk.cell 0; simp only [List.getElem?_toArray, List.getElem?_cons_zero] at c1; clear hwf hb1)
  obtain ⟨n, hn⟩ : ∃ n, n = ls.length := ⟨_, rfl⟩
  rw [← hn] at c1 ⊢
  have HN := Lib.hid hn
  clear hn
  go_loopw [15] (fun i wr => ∃ k : Nat, k ≤ n ∧ i = .int .i64 (k : Int) ∧ freeTo ls q p k = true ∧ Below w1.heap.size w1 wr) (fun i _ => n - (intOf i).toNat)
  case atStart => exact ⟨0, by omega, rfl, rfl, Below.refl _ _⟩
  case round =>
    obtain ⟨k, hk, rfl, ha, hb⟩ := hrel
    have HB := Lib.hid hb
    have HA := Lib.hid ha
    clear ha
    by_cases hlt : k < n
    · have hl : ls[k]? = some (ls[k]'(by have := HN.out; omega)) := List.getElem?_eq_getElem _
      generalize ls[k]'(by have := HN.out; omega) = l at hl
      obtain ⟨caps, rfl, hc⟩ := HWF.out.call HT1.out HG1.out HQ.out hb k l hl
      have HC := Lib.hid hc
      have HV := Lib.hid (show freeTo ls q p (k + 1) = !waitM (ls.any (passP q)) q p l k by rw [freeTo_succ, HA.out, getD_of hl]; rfl)
      have eg : ∀ args w, (callFunc 59 args).run Tryd.prog w = .ok (.enter 59 args) w := enters_of Tryd.func59 (by kernel_rfl) rfl
      have hin : ((k : Int) < (n : Int)) := by omega
      have e1 : IntKind.i64.wrap ((k : Int) + 1) = ((k + 1 : Nat) : Int) := by rw [IntWalk.i64_in _ (by have := HF.out; have := HN.out; omega)]; omega
      clear hb hl hc
      generalize waitM (ls.any (passP q)) q p l k = r at HC HV
      cases r with
      | true =>
        go_wp2_with fail
        with_reducible refine HC.out.mono ?_
        rintro e w2 ⟨rfl, hb2⟩
        have HB2 := Lib.hid (HB.out.trans (hb2.mono HB.out.size))
        clear hb2
        go_wp2_with fail
        go_ret
        exact ⟨by rw [freeTo_false HV.out ls.length (by have := HN.out; omega)]; rfl, below_trans HB1.out HB2.out⟩
      | false =>
        go_wp2_with fail
        with_reducible refine HC.out.mono ?_
        rintro e w2 ⟨rfl, hb2⟩
        have HB2 := Lib.hid (HB.out.trans (hb2.mono HB.out.size))
        clear hb2
        go_wp2_with fail
        go_roundw
        case rel => exact ⟨k + 1, by omega, by go_num, HV.out, HB2.out⟩
        case measure => simp [intOf]; omega
    · obtain rfl : k = n := by omega
      have hin : ¬ ((k : Int) < (k : Int)) := by omega
      clear hb
      go_wp2_with fail
      go_ret
      exact ⟨by rw [← HN.out, HA.out]; rfl, below_trans HB1.out HB.out⟩
end Go.Proofs.YtlblgfpafdfilaaDoor
