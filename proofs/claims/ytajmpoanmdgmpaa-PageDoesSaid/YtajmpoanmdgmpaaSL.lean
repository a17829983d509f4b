/-
  WHERE A CELL IS MEANT TO BE, AND WHAT IS DONE THERE: find, put, kill, wake, free of whatever page.
-/
import Derived.Test.YtajmpoanmdgmpaaSJ
import Derived.Test.YtajmpoanmdgmpaaSK
namespace Go.Proofs.Ytajmpoanmdgmpaa
open Go.RowKit

set_option maxHeartbeats 1000000 in
set_option maxRecDepth 100000 in
theorem find_neg (p : PV) (op : OV) (w : World) (hk : p.k = 1) (hs : op.s < 0) :
    Calls Try.prog 83 #[p.agg, op.agg] w fun e w' => e = .returned (.tuple #[.int .i64 op.s, .bool false]) ∧ Below w.heap.size w w' := by
  obtain ⟨W1, hW1, hBW1, hbx1, hsz1⟩ := box_page w p
  obtain ⟨W, hW, hBW2, hbx2, hsz2⟩ := box_op W1 op
  have hbx := hbx1.below hBW2 (by omega)
  have hBW : Below w.heap.size w W := hBW1.trans (hBW2.mono hBW1.size)
  obtain ⟨y0, y1, y2, y3⟩ := pcs_cells hbx
  obtain ⟨t0, t1, t2, t3⟩ := ocs_cells hbx2
  have HBW := Lib.hid hBW
  obtain ⟨pk, ps, px, A, n, c, l⟩ := p
  obtain ⟨ok, os, ot, oA, om, oc, od⟩ := op
  simp only at hW1 hW y0 y1 y2 y3 t0 t1 t2 t3 hs hk
  subst hk
  have d0 : decide (os ≥ 0) = false := decide_eq_false (by omega)
  have d1 : decide (0 ≤ os) = false := decide_eq_false (by omega)
  simp only [PV.agg, OV.agg]
  clear hBW1 hBW2 hbx1 hbx2 hsz1 hsz2 hbx hBW hs
  go_enter Try.func83, Try.ntmps83
  go_upto_region 2 with fail
  have z0 := fun d os => cell_regrown t1 d os
  have z3 := fun d os => cell_regrown y3 d os
  refine wp_region_quiet_below (by kernel_rfl) (by kernel_rfl) ?_
  repeat (go_big_quiet_step (fail))
  refine wpQuiet_nil ?_
  rintro W3 ⟨pp, hpp⟩
  have HB3 := Lib.hid (show Below w.heap.size w W3 by rw [hpp]; exact HBW.out.trans ((below_regrown _ _ _).mono HBW.out.size))
  clear hpp z0 z3
  go_wp2_with fail
  go_ret2
  exact ⟨rfl, HB3.out⟩
/-- the place that is meant, and whether a cell in use is there -/
def place (k : Int) (es : List CE) (os : Int) (od : List Nat) : Int × Bool :=
  if k = 1 then (os, decide (0 ≤ os) && (decide (os.toNat < es.length) && (es.getD os.toNat cz).u)) else ((lbd es od : Int), isThere es od)
theorem place_there {k : Int} {es : List CE} {os : Int} {od : List Nat} (h : (place k es os od).2 = true) : 0 ≤ (place k es os od).1 ∧ (place k es os od).1.toNat < es.length := by
  unfold place at h ⊢
  split at h
  · rename_i hk
    rw [if_pos hk]
    simp only [Bool.and_eq_true, decide_eq_true_eq] at h
    exact ⟨h.1, h.2.1⟩
  · rename_i hk
    rw [if_neg hk]
    unfold isThere at h
    simp only [Bool.and_eq_true, decide_eq_true_eq] at h
    simp only
    omega
theorem find_any (p : PV) (op : OV) (w : World) (h : p.In w All All) (ho : op.In w All) (hk : p.k = 1 ∨ p.k = 2) (hn : p.n ≤ 300) (hr : p.k = 2 → rise 0 p.es = true) :
    Calls Try.prog 83 #[p.agg, op.agg] w fun e w' => e = .returned (.tuple #[.int .i64 (place p.k p.es op.s op.d).1, .bool (place p.k p.es op.s op.d).2]) ∧ Below w.heap.size w w' := by
  have hlen := h.len
  rcases hk with hk | hk
  · unfold place
    rw [if_pos hk]
    by_cases hs : op.s < 0
    · rw [decide_eq_false (show ¬ (0 ≤ op.s) by omega), Bool.false_and]
      exact find_neg p op w hk hs
    · obtain ⟨s, hs⟩ := Int.eq_ofNat_of_zero_le (show 0 ≤ op.s by omega)
      rw [hs]
      have e1 : ((s : Int)).toNat = s := by omega
      simp only [e1]
      rw [decide_eq_true (show (0 : Int) ≤ (s : Int) by omega), Bool.true_and]
      by_cases hlt : s < p.n
      · have hx : p.es[s]? = some (p.es.getD s cz) := by rw [getD_lt (by omega), List.getElem?_eq_getElem (by omega)]
        rw [decide_eq_true (show s < p.es.length by omega), Bool.true_and]
        exact find_heap p op w h hk hn s hs _ (Or.inr ⟨_, hx, rfl⟩)
      · rw [decide_eq_false (show ¬ s < p.es.length by omega), Bool.false_and]
        exact find_heap p op w h hk hn s hs false (Or.inl ⟨by omega, rfl⟩)
  · unfold place
    rw [if_neg (by omega)]
    exact find_leaf p op w h ho hk hn (hr hk)

def insM (k : Int) (es : List CE) (i : Nat) (od : List Nat) : List CE := if k = 1 ∧ i < es.length then es.set i ⟨true, 0, od⟩ else es.take i ++ ⟨true, 0, od⟩ :: es.drop i
def putM (k : Int) (es : List CE) (at_ : Int) (th : Bool) (od : List Nat) : Int × List CE :=
  if at_ < 0 ∨ (es.length : Int) < at_ then (2, []) else if th then (7, []) else if full (insM k es at_.toNat od) then (4, []) else (0, insM k es at_.toNat od)
def killM (es : List CE) (at_ : Int) (th : Bool) (t : Nat) : Int × List CE :=
  if th then (if (es.getD at_.toNat cz).k = 0 then (0, es.set at_.toNat { es.getD at_.toNat cz with k := t }) else (7, [])) else (6, [])
def wakeM (es : List CE) (at_ : Int) (th : Bool) : Int × List CE :=
  if th then (if (es.getD at_.toNat cz).k = 0 then (6, []) else (0, es.set at_.toNat { es.getD at_.toNat cz with k := 0 })) else (6, [])
def freeM (k : Int) (es : List CE) (at_ : Int) (th : Bool) : Int × List CE :=
  if th then (0, if k = 2 then es.take at_.toNat ++ es.drop (at_.toNat + 1) else trim (es.set at_.toNat cz)) else (6, [])
/-- what an operation comes to -/
def Did (w : World) (S T : Nat → Prop) (g : Nat) (p : PV) (r : Int × List CE) (e : Ending) (w' : World) : Prop := (r.1 = 0 → DidOk w S T g p r.2 e w') ∧ (r.1 ≠ 0 → DidNo w S g r.1 e w')
theorem Did.ok {w w' : World} {S T : Nat → Prop} {g : Nat} {p : PV} {es : List CE} {e : Ending} (h : DidOk w S T g p es e w') : Did w S T g p (0, es) e w' := ⟨fun _ => h, fun h => absurd rfl h⟩
theorem Did.no {w w' : World} {S T : Nat → Prop} {g : Nat} {p : PV} {c : Int} {e : Ending} (hc : c ≠ 0) (h : DidNo w S g c e w') : Did w S T g p (c, []) e w' := ⟨fun h => absurd h hc, fun _ => h⟩
theorem es_get {p : PV} {w : World} {S T : Nat → Prop} (h : p.In w S T) {i : Nat} (hi : i < p.n) : p.es[i]? = some (p.es.getD i cz) := by
  have := h.len
  rw [getD_lt (by omega), List.getElem?_eq_getElem (by omega)]

theorem put_any (w : World) (S T : Nat → Prop) (g : Nat) (p : PV) (hb : Blk w g 26 (pcs p)) (hg : ¬ S g ∧ ¬ T g) (ho : PO w S T p) (hn : p.n ≤ 300) (hml : ∀ x ∈ p.l, x.m ≤ 2000) (hSb : ∀ b, S b → b < w.heap.size) (hTb : ∀ b, T b → b < w.heap.size) (os : Int) (A : Option Addr) (m c : Nat) (d : List Nat) (hd : RB w All A m d) (hm : m ≤ 2000) :
    Calls Try.prog 84 #[.pointer (some ⟨g, 0, none⟩), .int .i64 (place p.k p.es os d).1, .bool (place p.k p.es os d).2, .slice A m c] w (Did w S T g p (putM p.k p.es (place p.k p.es os d).1 (place p.k p.es os d).2 d)) := by
  have hlen := ho.In.len
  have hth := place_there (k := p.k) (es := p.es) (os := os) (od := d)
  have hle : p.k = 2 → 0 ≤ (place p.k p.es os d).1 ∧ (place p.k p.es os d).1 ≤ p.n := fun h => by
    unfold place
    rw [if_neg (by omega)]
    have := lbd_le p.es d
    simp only
    omega
  generalize hat : (place p.k p.es os d).1 = at_ at hth hle ⊢
  generalize hthh : (place p.k p.es os d).2 = th at hth ⊢
  unfold putM
  by_cases hr : at_ < 0 ∨ (p.es.length : Int) < at_
  · rw [if_pos hr]
    exact (put_range w S g p hb at_ th (by rw [hlen] at hr; exact hr) A m c).mono fun e w' h => Did.no (by decide) h
  · rw [if_neg hr]
    obtain ⟨i, rfl⟩ := Int.eq_ofNat_of_zero_le (show 0 ≤ at_ by omega)
    have e1 : ((i : Int)).toNat = i := by omega
    rw [e1]
    have hin : i ≤ p.n := by omega
    cases th with
    | true =>
      rw [if_pos rfl]
      exact (put_has w S g p hb i hin A m c).mono fun e w' h => Did.no (by decide) h
    | false =>
      rw [if_neg (by simp)]
      have fin : ∀ es, Calls Try.prog 84 #[.pointer (some ⟨g, 0, none⟩), .int .i64 (i : Int), .bool false, .slice A m c] w (PutO w S T g p es) → Calls Try.prog 84 #[.pointer (some ⟨g, 0, none⟩), .int .i64 (i : Int), .bool false, .slice A m c] w (Did w S T g p (if full es then (4, []) else (0, es))) := fun es h => h.mono fun e w' h => by
        unfold PutO at h
        split at h
        · rename_i hf
          rw [if_pos hf]
          exact Did.no (by decide) h
        · rename_i hf
          rw [if_neg hf]
          exact Did.ok h
      refine fin (insM p.k p.es i d) ?_
      unfold insM
      by_cases hc : p.k = 1 ∧ i < p.es.length
      · rw [if_pos hc]
        exact put_set w S T g p hb hg ho hn hml hSb hTb i (by omega) hc.1 A m c d hd hm
      · rw [if_neg hc]
        exact put_ins w S T g p hb hg ho hn hml hSb hTb i hin (fun h => by by_cases h2 : i < p.n; exact absurd ⟨h, by omega⟩ hc; omega) A m c d hd hm
theorem kill_any (w : World) (S T : Nat → Prop) (g : Nat) (p : PV) (hb : Blk w g 26 (pcs p)) (hg : ¬ S g ∧ ¬ T g) (ho : PO w S T p) (hn : p.n ≤ 300) (os : Int) (d : List Nat) (t : Nat) (ht : t < 4294967296) :
    Calls Try.prog 85 #[.pointer (some ⟨g, 0, none⟩), .int .i64 (place p.k p.es os d).1, .bool (place p.k p.es os d).2, .int .u32 (t : Int)] w (Did w S T g p (killM p.es (place p.k p.es os d).1 (place p.k p.es os d).2 t)) := by
  have hlen := ho.In.len
  have hth := place_there (k := p.k) (es := p.es) (os := os) (od := d)
  generalize (place p.k p.es os d).1 = at_ at hth ⊢
  generalize (place p.k p.es os d).2 = th at hth ⊢
  unfold killM
  cases th with
  | false =>
    rw [if_neg (by simp)]
    exact (kill_no w S g at_ t).mono fun e w' h => Did.no (by decide) h
  | true =>
    rw [if_pos rfl]
    obtain ⟨h0, h1⟩ := hth rfl
    obtain ⟨i, rfl⟩ := Int.eq_ofNat_of_zero_le h0
    have e1 : ((i : Int)).toNat = i := by omega
    rw [e1] at h1 ⊢
    have hx := es_get ho.In (show i < p.n by omega)
    by_cases hk : (p.es.getD i cz).k = 0
    · rw [if_pos hk]
      exact (kill_yes w S T g p hb hg ho hn i (by omega) t ht _ hx hk).mono fun e w' h => Did.ok h
    · rw [if_neg hk]
      exact (kill_twice w S T g p hb ho hn i (by omega) t _ hx hk).mono fun e w' h => Did.no (by decide) h
theorem wake_any (w : World) (S T : Nat → Prop) (g : Nat) (p : PV) (hb : Blk w g 26 (pcs p)) (hg : ¬ S g ∧ ¬ T g) (ho : PO w S T p) (hn : p.n ≤ 300) (os : Int) (d : List Nat) :
    Calls Try.prog 86 #[.pointer (some ⟨g, 0, none⟩), .int .i64 (place p.k p.es os d).1, .bool (place p.k p.es os d).2] w (Did w S T g p (wakeM p.es (place p.k p.es os d).1 (place p.k p.es os d).2)) := by
  have hlen := ho.In.len
  have hth := place_there (k := p.k) (es := p.es) (os := os) (od := d)
  generalize (place p.k p.es os d).1 = at_ at hth ⊢
  generalize (place p.k p.es os d).2 = th at hth ⊢
  unfold wakeM
  cases th with
  | false =>
    rw [if_neg (by simp)]
    exact (wake_no w S g at_).mono fun e w' h => Did.no (by decide) h
  | true =>
    rw [if_pos rfl]
    obtain ⟨h0, h1⟩ := hth rfl
    obtain ⟨i, rfl⟩ := Int.eq_ofNat_of_zero_le h0
    have e1 : ((i : Int)).toNat = i := by omega
    rw [e1] at h1 ⊢
    have hx := es_get ho.In (show i < p.n by omega)
    by_cases hk : (p.es.getD i cz).k = 0
    · rw [if_pos hk]
      exact (wake_none w S T g p hb ho hn i (by omega) _ hx hk).mono fun e w' h => Did.no (by decide) h
    · rw [if_neg hk]
      exact (wake_yes w S T g p hb hg ho hn i (by omega) _ hx hk).mono fun e w' h => Did.ok h
theorem free_any (w : World) (S T : Nat → Prop) (g : Nat) (p : PV) (hb : Blk w g 26 (pcs p)) (hg : ¬ S g ∧ ¬ T g) (ho : PO w S T p) (hk : p.k = 1 ∨ p.k = 2) (hn : p.n ≤ 300) (os : Int) (d : List Nat) :
    Calls Try.prog 87 #[.pointer (some ⟨g, 0, none⟩), .int .i64 (place p.k p.es os d).1, .bool (place p.k p.es os d).2] w (Did w S T g p (freeM p.k p.es (place p.k p.es os d).1 (place p.k p.es os d).2)) := by
  have hlen := ho.In.len
  have hth := place_there (k := p.k) (es := p.es) (os := os) (od := d)
  generalize (place p.k p.es os d).1 = at_ at hth ⊢
  generalize (place p.k p.es os d).2 = th at hth ⊢
  unfold freeM
  cases th with
  | false =>
    rw [if_neg (by simp)]
    exact (free_no w S g at_).mono fun e w' h => Did.no (by decide) h
  | true =>
    rw [if_pos rfl]
    obtain ⟨h0, h1⟩ := hth rfl
    obtain ⟨i, rfl⟩ := Int.eq_ofNat_of_zero_le h0
    have e1 : ((i : Int)).toNat = i := by omega
    rw [e1] at h1 ⊢
    rcases hk with hk | hk
    · rw [if_neg (by omega)]
      exact (free_heap w S T g p hb hg ho hk hn i (by omega)).mono fun e w' h => Did.ok h
    · rw [if_pos hk]
      exact (free_leaf w S T g p hb hg ho hk hn i (by omega)).mono fun e w' h => Did.ok h
end Go.Proofs.Ytajmpoanmdgmpaa
