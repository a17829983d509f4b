/-
STAGE 12: whole structs into rows of the call's own; clear; the closure of Release, IndexFunc. STAGE 12: IndexFunc, DeleteFunc. STAGE 12: DeleteFunc, its walk.
-/
import Derived.Test.YtlblgfpafdfilaaDoorMB
import Derived.Lib.SliceRun
import Derived.Test.YtlblgfpafdfilaaDoorUW
namespace Go.Proofs.YtlblgfpafdfilaaDoor
open Go.RowKit Go.Sort

def putL (xs : List Value) : Nat → List Value → List Value
  | _, [] => xs
  | o, v :: r => putL (xs.set o v) (o + 1) r
theorem putL_mid (a m c v : List Value) (h : m.length = v.length) : putL (a ++ m ++ c) a.length v = a ++ v ++ c := by
  induction v generalizing a m with
  | nil => rw [List.length_eq_zero_iff.1 h]; rfl
  | cons u r ih =>
    match m, h with
    | u' :: m', h =>
      have e : (a ++ u' :: m' ++ c).set a.length u = (a ++ [u]) ++ m' ++ c := by
        rw [List.append_assoc, List.set_append_right _ _ (Nat.le_refl _), Nat.sub_self]
        simp
      have := ih (a ++ [u]) m' (by simpa using h)
      rw [List.length_append, List.length_singleton] at this
      show putL ((a ++ u' :: m' ++ c).set a.length u) (a.length + 1) r = _
      rw [e, this]
      simp
theorem putL_low (v : List Value) : ∀ (xs : List Value) (o k : Nat), k ≤ o → (putL xs o v).take k = xs.take k := by
  induction v with
  | nil => intros; rfl
  | cons u r ih =>
    intro xs o k hk
    show (putL (xs.set o u) (o + 1) r).take k = _
    rw [ih _ _ _ (by omega), List.take_set, List.set_eq_of_length_le (by rw [List.length_take]; omega)]
theorem own_sets {w : World} {e : TypeId} {k n c b : Nat} {xs : List Value} (h : w.ownsRow 0 e k (.slice (some ⟨b, 0, none⟩) n c) n xs) (vs : List Value) (o : Nat) : (w.setCells b o vs).ownsRow 0 e k (.slice (some ⟨b, 0, none⟩) n c) n (putL xs o vs) := by
  induction vs generalizing w xs o with
  | nil => exact h
  | cons v r ih => exact ih (World.ownsRow.stored h o v).1 (o + 1)
section
variable {α : Type} {f : α → List Value} {k : Nat} {w : World} {e : TypeId} {l : List α} {b c : Nat}
/-- a whole element is set -/
theorem OwR.sets {n : Nat} (h : OwR w e k f (.slice (some ⟨b, 0, none⟩) n c) l) (hn : l.length = n) (hk : ∀ x, (f x).length = k) {i : Nat} (hi : i < n) (y : α) : OwR (w.setCells b (i * k) (f y)) e k f (.slice (some ⟨b, 0, none⟩) n c) (l.set i y) := by
  subst hn
  have h' := own_sets h (f y) (i * k)
  have e1 : l = l.take i ++ l[i] :: l.drop (i + 1) := by rw [← List.drop_eq_getElem_cons hi, List.take_append_drop]
  have e2 : l.flatMap f = (l.take i).flatMap f ++ f l[i] ++ (l.drop (i + 1)).flatMap f := by
    conv => lhs; rw [e1]
    rw [List.flatMap_append, List.flatMap_cons, List.append_assoc]
  have e3 : ((l.take i).flatMap f).length = i * k := by rw [flat_len hk, List.length_take, Nat.min_eq_left (by omega)]
  rw [e2, ← e3, putL_mid _ _ _ _ (by rw [hk, hk]), e3] at h'
  unfold OwR
  rw [List.length_set]
  have e4 : (l.set i y).flatMap f = (l.take i).flatMap f ++ f y ++ (l.drop (i + 1)).flatMap f := by
    rw [List.set_eq_take_append_cons_drop, if_pos hi, List.flatMap_append, List.flatMap_cons, List.append_assoc]
  rw [e4]
  exact h'
/-- its head -/
theorem OwR.cutN {n i : Nat} (h : OwR w e k f (.slice (some ⟨b, 0, none⟩) n c) l) (hn : l.length = n) (hk : ∀ x, (f x).length = k) (hi : i ≤ n) : OwR w e k f (.slice (some ⟨b, 0, none⟩) i c) (l.take i) := by
  subst hn
  have hl : (l.take i).length = i := by rw [List.length_take, Nat.min_eq_left hi]
  rcases h.2 with ⟨e', _⟩ | ⟨g, cap, cur, e', _, hg, hc, hm, hcs, ht⟩
  · cases e'
  · injection e' with e1 e2 e3
    injection e1 with e1
    injection e1 with e1
    subst e1 e3
    unfold OwR
    rw [hl]
    refine ⟨by rw [flat_len hk, hl], Or.inr ⟨b, c, cur, rfl, Nat.zero_le _, hg, by omega, hm, hcs, ?_⟩⟩
    have hm2 : i * k ≤ l.length * k := Nat.mul_le_mul_right k hi
    have : cur.toList.take (i * k) = (l.flatMap f).take (i * k) := by rw [← ht, List.take_take, Nat.min_eq_left hm2]
    rw [this]
    conv => lhs; rw [← List.take_append_drop i l, List.flatMap_append]
    rw [List.take_append_of_le_length (by rw [flat_len hk, hl]; exact Nat.le_refl _), List.take_of_length_le (by rw [flat_len hk, hl]; exact Nat.le_refl _)]
/-- clear, from place i on, and what lies ahead of it -/
theorem OwR.cleared {n i : Nat} (h : OwR w e k f (.slice (some ⟨b, 0, none⟩) n c) l) (hn : l.length = n) (hk : ∀ x, (f x).length = k) (hi : i ≤ n) (vs : List Value) : OwR (w.setCells b (i * k) vs) e k f (.slice (some ⟨b, 0, none⟩) i c) (l.take i) := by
  have h2 := h.cutN hn hk hi
  subst hn
  have hl : (l.take i).length = i := by rw [List.length_take, Nat.min_eq_left hi]
  have h' := own_sets h vs (i * k)
  rcases h'.2 with ⟨e', _⟩ | ⟨g, cap, cur, e', _, hg, hc, hm, hcs, ht⟩
  · cases e'
  · injection e' with e1 e2 e3
    injection e1 with e1
    injection e1 with e1
    subst e1 e3
    unfold OwR
    rw [hl]
    refine ⟨by rw [flat_len hk, hl], Or.inr ⟨b, c, cur, rfl, Nat.zero_le _, hg, by omega, hm, hcs, ?_⟩⟩
    have hm2 : i * k ≤ l.length * k := Nat.mul_le_mul_right k hi
    have : cur.toList.take (i * k) = (l.flatMap f).take (i * k) := by rw [← putL_low vs (l.flatMap f) (i * k) (i * k) (Nat.le_refl _), ← ht, List.take_take, Nat.min_eq_left hm2]
    rw [this]
    conv => lhs; rw [← List.take_append_drop i l, List.flatMap_append]
    rw [List.take_append_of_le_length (by rw [flat_len hk, hl]; exact Nat.le_refl _), List.take_of_length_le (by rw [flat_len hk, hl]; exact Nat.le_refl _)]
end
def zl : Array Value := #[.int .u32 0, .bool false, .int .u32 0, .string ⟨#[]⟩, .string ⟨#[]⟩, .int .i64 0, .bool false]
theorem zl_one (n : Nat) : ∀ v ∈ (Builtin.zeroCells zl n).toList, v.oneCell' = true := by
  intro v hv
  simp only [Builtin.zeroCells, Array.toList_map, List.mem_map] at hv
  obtain ⟨i, _, rfl⟩ := hv
  have hs : zl.size = 7 := rfl
  rw [hs]
  have hi : i % 7 < 7 := Nat.mod_lt _ (by decide)
  generalize i % 7 = j at hi
  match j, hi with
  | 0, _ => rfl
  | 1, _ => rfl
  | 2, _ => rfl
  | 3, _ => rfl
  | 4, _ => rfl
  | 5, _ => rfl
  | 6, _ => rfl
theorem run_clear46 (w : World) (ty : TypeId) (b i n c : Nat) (hc : ∀ j, j < n * 7 → (w.cell? ⟨b, i * 7 + j, none⟩).isSome = true) (hf : ∀ j, w.frozen? ⟨b, j, none⟩ = false) :
    ∃ vs, (Builtin.clear_ #[27] ty #[.slice (some ⟨b, i * 7, none⟩) n c]).run Tryd.prog w = .ok (.tuple #[]) (w.setCells b (i * 7) vs) := by
  rcases Nat.eq_zero_or_pos n with rfl | hn
  · exact ⟨[], by simp [Builtin.clear_, run_underlying Tryd.underlying27]; rfl⟩
  · obtain ⟨m, rfl⟩ : ∃ m, n = m + 1 := ⟨n - 1, by omega⟩
    have hlen : (Builtin.zeroCells zl (m + 1)).toList.length = (m + 1) * 7 := by simp [Builtin.zeroCells, zl]
    have hst := run_storeCells_cells (P := Tryd.prog) b (i * 7) (Builtin.zeroCells zl (m + 1)).toList 0 w (by intro j hj; rw [Nat.add_zero]; exact hc j (by rwa [hlen] at hj)) (by intro j hj; exact hf _) (zl_one (m + 1))
    simp only [Nat.add_zero] at hst
    have hv : (zeroValue 46).run Tryd.prog w = .ok (.agg zl) w := Tryd.zeroValue46 w
    have hz : (Value.agg zl).cells = zl := rfl
    exact ⟨(Builtin.zeroCells zl (m + 1)).toList, by simp [Builtin.clear_, run_underlying Tryd.underlying27, hv, hz, hst]⟩
set_option maxRecDepth 100000 in
theorem delP_any (t a : Nat) (l : LK) (W : World) (ht : W.cell? ⟨a, 0, none⟩ = some (.int .u32 (t : Int))) :
    Calls Tryd.prog 39 #[l.agg, .pointer (some ⟨a, 0, none⟩)] W fun e w' => e = .returned (.bool (l.t == t)) ∧ Below W.heap.size W w' := by
  obtain ⟨W2, hW2⟩ : ∃ W2, W2 = W.alloc (.cells #[.int .u32 (l.t : Int), .bool l.x.r, .int .u32 (l.x.i : Int), .string l.x.a, .string l.x.b, .int .i64 l.m, .bool l.h] 46) := ⟨_, rfl⟩
  have hb : Below W.heap.size W W2 := by rw [hW2]; exact (Below.refl _ _).alloc (Nat.le_refl _) _
  have hk : Blk W2 W.heap.size 46 (lcs l) := by rw [hW2]; exact Blk.new _ _ _
  have HB := Lib.hid hb
  have c0 := hk.cell 0
  have c1 := (hb.cell (block_lt_of_cell ht)).trans ht
  simp only [lcs, List.getElem?_toArray, List.getElem?_cons_zero] at c0
  have d1 := nbeq l.t t
  generalize (l.t == t) = p at d1 ⊢
  unfold LK.agg
  clear hb hk ht
  go_enter Tryd.func39, Tryd.ntmps39
  go_upto_region 1 with fail
  rw [← hW2]
  clear hW2
  go_wp2_with fail
  go_ret
  exact ⟨rfl, HB.out⟩
end Go.Proofs.YtlblgfpafdfilaaDoor
namespace Go.Proofs.YtlblgfpafdfilaaDoor
open Go.RowKit Go.Sort

/-- where the first of a transaction's stands -/
def FirstO (t : Nat) (ls : List LK) (r : Int) : Prop := (r = -1 ∧ ∀ l ∈ ls, (l.t == t) = false) ∨ ∃ k l, r = ((k : Nat) : Int) ∧ ls[k]? = some l ∧ (l.t == t) = true ∧ ∀ l ∈ ls.take k, (l.t == t) = false
theorem FirstO.out {t : Nat} {ls : List LK} {r : Int} (h : FirstO t ls r) : (r = -1 ∧ ∀ l ∈ ls, (l.t == t) = false) ∨ ∃ k l, r = ((k : Nat) : Int) ∧ ls[k]? = some l ∧ (l.t == t) = true ∧ ∀ l ∈ ls.take k, (l.t == t) = false := h
theorem none_take {t : Nat} {ls : List LK} {k : Nat} {l : LK} (h : ls[k]? = some l) (ha : ∀ l ∈ ls.take k, (l.t == t) = false) (hp : (l.t == t) = false) : ∀ l ∈ ls.take (k + 1), (l.t == t) = false := by
  obtain ⟨hk, e⟩ := List.getElem?_eq_some_iff.1 h
  rw [List.take_succ_eq_append_getElem hk]
  intro x hx
  rcases List.mem_append.1 hx with hx | hx
  · exact ha x hx
  · rw [List.mem_singleton.1 hx, e]; exact hp
set_option maxRecDepth 100000 in
set_option maxHeartbeats 2000000 in
theorem index_any (t a : Nat) (A : Option Addr) (n c : Nat) (ls : List LK) (w : World) (hlen : ls.length = n) (hR : Row w A ls) (hn : n ≤ 16384) (hc : n ≤ c) (ht : w.cell? ⟨a, 0, none⟩ = some (.int .u32 (t : Int))) :
    Calls Tryd.prog 63 #[.slice A n c, .func (.func 39) #[] #[.pointer (some ⟨a, 0, none⟩)]] w fun e w' => ∃ r, e = .returned (.int .i64 r) ∧ FirstO t ls r ∧ Below w.heap.size w w' := by
  have eg : ∀ args w, (callFunc 39 args).run Tryd.prog w = .ok (.enter 39 args) w := enters_of Tryd.func39 (by kernel_rfl) rfl
  have HR := Lib.hid hR
  have HT := Lib.hid ht
  have HL := Lib.hid hlen
  clear hR ht hlen
  go_enter Tryd.func63, Tryd.ntmps63
  go_wp2_with fail
  go_loopw [8] (fun i wr => ∃ k : Nat, k ≤ n ∧ i = .int .i64 (k : Int) ∧ (∀ l ∈ ls.take k, (l.t == t) = false) ∧ Below w.heap.size w wr) (fun i _ => n - (intOf i).toNat)
  case atStart => exact ⟨0, by omega, rfl, by simp, Below.refl _ _⟩
  case round =>
    obtain ⟨k, hk, rfl, ha, hb⟩ := hrel
    have HB := Lib.hid hb
    have HA := Lib.hid ha
    clear ha
    by_cases hlt : k < n
    · have hl : ls[k]? = some (ls[k]'(by have := HL.out; omega)) := List.getElem?_eq_getElem _
      generalize ls[k]'(by have := HL.out; omega) = l at hl
      obtain ⟨b, rfl, hcs⟩ := HR.out k l hl
      obtain ⟨z0, z1, z2, z3, z4, z5, z6⟩ := hcs.up hb
      have HLK := Lib.hid hl
      have HCK := Lib.hid (delP_any t a l wr (cell_up HT.out hb))
      have hin : ((k : Int) < (n : Int)) := by omega
      have e1 : IntKind.i64.wrap ((k : Int) + 1) = ((k + 1 : Nat) : Int) := by rw [IntWalk.i64_in _ (by omega)]; omega
      unfold LK.agg at HCK
      clear hb hcs hl
      cases hP : (l.t == t) with
      | true =>
        rw [hP] at HCK
        have HP := Lib.hid (show FirstO t ls (k : Int) from Or.inr ⟨k, l, rfl, HLK.out, hP, HA.out⟩)
        clear hP
        go_wp2_with fail
        with_reducible refine HCK.out.mono ?_
        rintro e w2 ⟨rfl, hb2⟩
        have HB2 := Lib.hid (HB.out.trans (hb2.mono HB.out.size))
        clear hb2
        go_wp2_with fail
        go_ret
        exact ⟨_, rfl, HP.out, HB2.out⟩
      | false =>
        rw [hP] at HCK
        have HP := Lib.hid (none_take HLK.out HA.out hP)
        clear hP
        go_wp2_with fail
        with_reducible refine HCK.out.mono ?_
        rintro e w2 ⟨rfl, hb2⟩
        have HB2 := Lib.hid (HB.out.trans (hb2.mono HB.out.size))
        clear hb2
        go_wp2_with fail
        go_roundw
        case rel => exact ⟨k + 1, by omega, by go_num, HP.out, HB2.out⟩
        case measure => simp [intOf]; omega
    · obtain rfl : k = n := by omega
      have hin : ¬ ((k : Int) < (k : Int)) := by omega
      have HE := Lib.hid (show FirstO t ls (-1) from Or.inl ⟨rfl, by have := HA.out; rwa [← HL.out, List.take_length] at this⟩)
      clear hb
      go_wp2_with fail
      go_ret
      exact ⟨_, rfl, HE.out, HB.out⟩
/-- what is kept of the first j -/
def keepM (t : Nat) (ls : List LK) (j : Nat) : List LK := (ls.take j).filter fun l => !(l.t == t)
theorem keep_le (t : Nat) (ls : List LK) (j : Nat) : (keepM t ls j).length ≤ j := Nat.le_trans (List.length_filter_le _ _) (by rw [List.length_take]; omega)
theorem keep_succ {t : Nat} {ls : List LK} {j : Nat} {l : LK} (h : ls[j]? = some l) : keepM t ls (j + 1) = if (l.t == t) = true then keepM t ls j else keepM t ls j ++ [l] := by
  obtain ⟨hk, e⟩ := List.getElem?_eq_some_iff.1 h
  unfold keepM
  rw [List.take_succ_eq_append_getElem hk, List.filter_append, e]
  cases hp : (l.t == t) with
  | true => rw [if_pos rfl]; simp only [List.filter, hp]; exact List.append_nil _
  | false => rw [if_neg Bool.false_ne_true]; simp only [List.filter, hp]; rfl
/-- how the row reads meanwhile -/
def curM (t : Nat) (ls : List LK) (j : Nat) : List LK := keepM t ls j ++ ls.drop (keepM t ls j).length
theorem cur_len {t : Nat} {ls : List LK} {j : Nat} (hj : j ≤ ls.length) : (curM t ls j).length = ls.length := by
  have := keep_le t ls j
  unfold curM
  rw [List.length_append, List.length_drop]
  omega
theorem cur_at {t : Nat} {ls : List LK} {j : Nat} {l : LK} (h : ls[j]? = some l) : (curM t ls j)[j]? = some l := by
  have := keep_le t ls j
  unfold curM
  rw [List.getElem?_append_right this, List.getElem?_drop, Nat.add_sub_cancel' this, h]
theorem cur_skip {t : Nat} {ls : List LK} {j : Nat} {l : LK} (h : ls[j]? = some l) (hp : (l.t == t) = true) : curM t ls (j + 1) = curM t ls j := by
  unfold curM
  rw [keep_succ h, if_pos hp]
theorem cur_keep {t : Nat} {ls : List LK} {j : Nat} {l : LK} (h : ls[j]? = some l) (hp : (l.t == t) = false) : curM t ls (j + 1) = (curM t ls j).set (keepM t ls j).length l ∧ (keepM t ls (j + 1)).length = (keepM t ls j).length + 1 := by
  have hj := (List.getElem?_eq_some_iff.1 h).1
  have hle := keep_le t ls j
  have e : keepM t ls (j + 1) = keepM t ls j ++ [l] := by rw [keep_succ h, if_neg (by rw [hp]; exact Bool.false_ne_true)]
  unfold curM
  rw [e, List.length_append, List.length_singleton, List.set_append_right _ _ (Nat.le_refl _), Nat.sub_self]
  refine ⟨?_, rfl⟩
  have hd : ls.drop (keepM t ls j).length = ls[(keepM t ls j).length]'(by omega) :: ls.drop ((keepM t ls j).length + 1) := List.drop_eq_getElem_cons (by omega)
  rw [hd, List.set_cons_zero, List.append_assoc]
  rfl
theorem cur_start {t : Nat} {ls : List LK} {k : Nat} {l : LK} (h : ls[k]? = some l) (hp : (l.t == t) = true) (ha : ∀ l ∈ ls.take k, (l.t == t) = false) : curM t ls (k + 1) = ls ∧ (keepM t ls (k + 1)).length = k := by
  have hk := (List.getElem?_eq_some_iff.1 h).1
  have e : keepM t ls (k + 1) = ls.take k := by
    rw [keep_succ h, if_pos hp]
    unfold keepM
    rw [List.filter_eq_self.2 fun x hx => by rw [ha x hx]; rfl]
  unfold curM
  rw [e, List.length_take, Nat.min_eq_left (by omega)]
  exact ⟨List.take_append_drop k ls, rfl⟩
theorem keep_all (t : Nat) (ls : List LK) : keepM t ls ls.length = ls.filter fun l => !(l.t == t) := by unfold keepM; rw [List.take_length]
theorem cur_take (t : Nat) (ls : List LK) (j : Nat) : (curM t ls j).take (keepM t ls j).length = keepM t ls j := by unfold curM; rw [List.take_append_of_le_length (Nat.le_refl _), List.take_length]
theorem keep_none {t : Nat} {ls : List LK} (h : ∀ l ∈ ls, (l.t == t) = false) : (ls.filter fun l => !(l.t == t)) = ls := List.filter_eq_self.2 fun x hx => by rw [h x hx]; rfl
end Go.Proofs.YtlblgfpafdfilaaDoor
namespace Go.Proofs.YtlblgfpafdfilaaDoor
open Go.RowKit Go.Sort

section
variable {ops : Array Oper} {rest : List Oper} {o : Oper} {a : Act} {w : World} {Q : Exit → Act → World → Prop}
set_option maxRecDepth 100000 in
/-- a lock into a row of locks -/
theorem wpList_stO (hgd : o.guard = none) (ty : TypeId) (x y : Operand) (ho : o.op = .store ty x y) (b i n c : Nat) (l : LK) (cur : List LK) (hx : a.eval x = .pointer (some ⟨b, i * 7, none⟩)) (hy : a.eval y = .agg (lf l).toArray)
    (hb : OwR w 46 7 lf (.slice (some ⟨b, 0, none⟩) n c) cur) (hn : cur.length = n) (hi : i < n) (ht : (Tryd.prog.info? ty).map (·.size) = some 7)
    (hK : ∀ w', OwR w' 46 7 lf (.slice (some ⟨b, 0, none⟩) n c) (cur.set i l) → Fr w w' (fun q => q = b) → wpList Tryd.prog ops Q rest (a.put o.dst undef) w') : wpList Tryd.prog ops Q (o :: rest) a w := by
  refine wpList_store_mid hgd ty x y ho b (i * 7) (lf l).toArray hx hy (fun j hj => ⟨?_, hb.frozen _⟩) (by rw [ht]; rfl) (all1 (by rfl)) ?_
  · have hj7 : j < 7 := hj
    obtain ⟨b', c', e', _, hat⟩ := hb.at_ lf_len (i := i) (x := cur[i]'(by omega)) (List.getElem?_eq_getElem _)
    injection e' with e1 _ _
    injection e1 with e1
    injection e1 with e1
    subst e1
    rw [hat j ((lf (cur[i]'(by omega)))[j]'(by rw [lf_len]; exact hj7)) (List.getElem?_eq_getElem _)]
    rfl
  · exact hK _ (hb.sets hn lf_len hi l) (Fr.sets w b _ _)
end
def DelO (w : World) (t : Nat) (v : Value) (ls : List LK) (e : Ending) (w' : World) : Prop :=
  ∃ v', e = .returned v' ∧ OwR w' 46 7 lf v' (ls.filter fun l => !(l.t == t)) ∧ v'.ownBlock = v.ownBlock ∧ Fr w w' fun b => v.ownBlock = some b
theorem own_cells {w : World} {b n c : Nat} {ls : List LK} (h : OwR w 46 7 lf (.slice (some ⟨b, 0, none⟩) n c) ls) {k : Nat} {l : LK} (hk : ls[k]? = some l) : Cs w b (k * 7) l := by
  obtain ⟨b', c', e', _, hat⟩ := h.at_ lf_len hk
  injection e' with e1 _ _
  injection e1 with e1
  injection e1 with e1
  subst e1
  exact ⟨hat 0 _ rfl, hat 1 _ rfl, hat 2 _ rfl, hat 3 _ rfl, hat 4 _ rfl, hat 5 _ rfl, hat 6 _ rfl⟩
theorem own_row {w : World} {A : Option Addr} {n c : Nat} {ls : List LK} (h : OwR w 46 7 lf (.slice A n c) ls) : Row w A ls := fun i l hi => by
  obtain ⟨b, c', e', _, hat⟩ := h.at_ lf_len hi
  injection e' with e1 _ _
  subst e1
  exact ⟨b, rfl, hat 0 _ rfl, hat 1 _ rfl, hat 2 _ rfl, hat 3 _ rfl, hat 4 _ rfl, hat 5 _ rfl, hat 6 _ rfl⟩
theorem own_some {w : World} {b n c o : Nat} {ls : List LK} (h : OwR w 46 7 lf (.slice (some ⟨b, 0, none⟩) n c) ls) (hn : ls.length = n) (ho : o < n * 7) : (w.cell? ⟨b, o, none⟩).isSome = true := by
  subst hn
  rw [World.ownsRow.cellAt h o ho, List.getElem?_eq_getElem (by rw [flat_len lf_len]; exact ho)]
  rfl
theorem act7 {w : World} {g : Nat} {l : LK} (h : Blk w g 46 (lcs l)) : w.cell? ⟨g, 0, none⟩ = some (.int .u32 (l.t : Int)) ∧ w.cell? ⟨g, 1, none⟩ = some (.bool l.x.r) ∧ w.cell? ⟨g, 2, none⟩ = some (.int .u32 (l.x.i : Int)) ∧ w.cell? ⟨g, 3, none⟩ = some (.string l.x.a) ∧ w.cell? ⟨g, 4, none⟩ = some (.string l.x.b) ∧ w.cell? ⟨g, 5, none⟩ = some (.int .i64 l.m) ∧ w.cell? ⟨g, 6, none⟩ = some (.bool l.h) :=
  ⟨h.cell 0, h.cell 1, h.cell 2, h.cell 3, h.cell 4, h.cell 5, h.cell 6⟩
set_option maxRecDepth 100000 in
set_option maxHeartbeats 4000000 in
theorem delete_any (t a : Nat) (v : Value) (ls : List LK) (w : World) (hO : OwR w 46 7 lf v ls) (hn : ls.length ≤ 16384) (ht : Blk w a 34 #[.int .u32 (t : Int)]) :
    Calls Tryd.prog 38 #[v, .func (.func 39) #[] #[.pointer (some ⟨a, 0, none⟩)]] w (DelO w t v ls) := by
  obtain ⟨A, c, rfl, hc, hm, h0, hA⟩ := hO.form
  have eg : ∀ args w, (callFunc 39 args).run Tryd.prog w = .ok (.enter 39 args) w := enters_of Tryd.func39 (by kernel_rfl) rfl
  have c0 := ht.cell 0
  simp only [List.getElem?_toArray, List.getElem?_cons_zero] at c0
  have HI := Lib.hid (index_any t a A ls.length c ls w rfl (own_row hO) hn hc c0)
  have HO := Lib.hid hO
  have HT := Lib.hid ht
  have HNE := Lib.hid (show ∀ ad : Addr, A = some ad → ad.block ≠ a from fun ad e e' => by
    have := Blk.own_ne ht hO (by decide)
    subst e
    exact this (by rw [← e']; rfl))
  have HA := Lib.hid hA
  obtain ⟨n, hnn⟩ : ∃ n, n = ls.length := ⟨_, rfl⟩
  rw [← hnn] at HI HO hn hc ⊢
  have HN := Lib.hid hnn
  have HC := Lib.hid (show c ≤ 9223372036854775807 by simpa [maxLen] using hm)
  clear hO ht hA h0 c0 hnn hm
  go_enter Tryd.func38, Tryd.ntmps38
  go_wp2_with (go_at_call 63; with_reducible refine HI.out.mono ?_; rintro e w1 ⟨r, rfl, hf, hb1⟩; have HB1 := Lib.hid hb1; rcases hf.out with ⟨rfl, hall⟩ | ⟨k, l, rfl, hl, hp, hall⟩; all_goals (clear hf; try (have hkn : k < n := (by have := (List.getElem?_eq_some_iff.1 hl).1; have := HN.out; omega); have hne1 : ((k : Int) == -1) = false := beq_eq_false_iff_ne.2 (by omega); have hk1 : IntKind.i64.wrap ((k : Int) + 1) = ((k + 1 : Nat) : Int) := (by rw [IntWalk.i64_in _ (by omega)]; omega))))
  · go_ret
    have hk := keep_none hall
    exact ⟨_, rfl, by rw [hk]; exact HO.out.up HB1.out, rfl, Fr.of_below HB1.out _⟩
  · obtain ⟨b, rfl, hcs⟩ := own_row HO.out k l hl
    obtain ⟨hs1, hs2⟩ := cur_start hl hp hall
    have hne : b ≠ a := HNE.out _ rfl
    have HS1 := Lib.hid hs1
    have HS2 := Lib.hid hs2
    clear hall hp hl hcs hs1 hs2
    go_loopw [5, 6] (fun s5 s6 wr => ∃ i j : Nat, j ≤ n ∧ i < j ∧ s5 = .int .i64 (i : Int) ∧ s6 = .int .i64 (j : Int) ∧ (keepM t ls j).length = i ∧ OwR wr 46 7 lf (.slice (some ⟨b, 0, none⟩) n c) (curM t ls j) ∧ Fr w wr fun q => q = b) (fun _ s6 _ => n - (intOf s6).toNat)
    case atStart => exact ⟨k, k + 1, by omega, by omega, rfl, by go_num, HS2.out, by rw [HS1.out]; exact HO.out.up HB1.out, Fr.of_below HB1.out _⟩
    case round =>
      obtain ⟨i, j, hj, hij, rfl, rfl, hi, ho, hf⟩ := hrel
      have HI2 := Lib.hid hi
      have HO2 := Lib.hid ho
      have HF2 := Lib.hid hf
      by_cases hlt : j < n
      · have hl : ls[j]? = some (ls[j]'(by have := HN.out; omega)) := List.getElem?_eq_getElem _
        generalize ls[j]'(by have := HN.out; omega) = l at hl
        have hcs := own_cells ho (cur_at (t := t) hl)
        obtain ⟨z0, z1, z2, z3, z4, z5, z6⟩ := hcs
        have hin : ((j : Int) < (n : Int)) := by omega
        have e1 : IntKind.i64.wrap ((j : Int) + 1) = ((j + 1 : Nat) : Int) := by rw [IntWalk.i64_in _ (by omega)]; omega
        have e2 : IntKind.i64.wrap ((i : Int) + 1) = ((i + 1 : Nat) : Int) := by rw [IntWalk.i64_in _ (by omega)]; omega
        obtain ⟨w2, hw2⟩ : ∃ w2, w2 = wr.alloc (.cells #[.int .u32 (l.t : Int), .bool l.x.r, .int .u32 (l.x.i : Int), .string l.x.a, .string l.x.b, .int .i64 l.m, .bool l.h] 46) := ⟨_, rfl⟩
        have hb2 : Below wr.heap.size wr w2 := by rw [hw2]; exact (Below.refl _ _).alloc (Nat.le_refl _) _
        have hk2 : Blk w2 wr.heap.size 46 (lcs l) := by rw [hw2]; exact Blk.new _ _ _
        have HK2 := Lib.hid hk2
        have HB2 := Lib.hid hb2
        obtain ⟨k0, k1, k2, k3, k4, k5, k6⟩ := act7 hk2
        have HCK := Lib.hid (delP_any t a l w2 (by
          have := ((HT.out.keep hf fun e => hne e.symm).below hb2 (HT.out.keep hf fun e => hne e.symm).lt).cell 0
          simpa using this))
        have HL := Lib.hid hl
        unfold LK.agg at HCK
        clear hi ho hf hb2 hk2 hl
        go_upto_region 8 with fail
        rw [← hw2]
        clear hw2 z0 z1 z2 z3 z4 z5 z6
        cases hP : (l.t == t) with
        | true =>
          rw [hP] at HCK
          have HP := Lib.hid (cur_skip HL.out hP)
          have HP2 := Lib.hid (show keepM t ls (j + 1) = keepM t ls j by rw [keep_succ HL.out, if_pos hP])
          clear hP
          go_wp2_with fail
          with_reducible refine HCK.out.mono ?_
          rintro e w3 ⟨rfl, hb3⟩
          have HB3 := Lib.hid (below_trans HB2.out hb3)
          clear hb3
          go_wp2_with fail
          go_roundw
          case rel => exact ⟨i, j + 1, by omega, by omega, rfl, by go_num, by rw [HP2.out]; exact HI2.out, by rw [HP.out]; exact HO2.out.up HB3.out, HF2.out.same (Fr.of_below HB3.out _)⟩
          case measure => simp [intOf]; omega
        | false =>
          rw [hP] at HCK
          have HP := Lib.hid (cur_keep HL.out hP)
          clear hP
          go_wp2_with fail
          with_reducible refine HCK.out.mono ?_
          rintro e w3 ⟨rfl, hb3⟩
          have HB3 := Lib.hid (below_trans HB2.out hb3)
          obtain ⟨k0, k1, k2, k3, k4, k5, k6⟩ := act7 (HK2.out.below hb3 HK2.out.lt)
          clear hb3
          have hii : ((i : Int) < (n : Int)) := by omega
          go_wp2_with (refine wpList_stO rfl 46 (.tmp 33) (.tmp 32) rfl b i n c l _ rfl rfl (HO2.out.up HB3.out) (by rw [cur_len (by have := HN.out; omega)]; exact HN.out.symm) (by omega) size46 ?_; intro w4 ho4 hf4; have HO4 := Lib.hid ho4; have HF4 := Lib.hid hf4; clear ho4 hf4)
          go_roundw
          case rel => exact ⟨i + 1, j + 1, by omega, by omega, by go_num, by go_num, by rw [HP.out.2, HI2.out], by rw [HP.out.1, HI2.out]; exact HO4.out, (HF2.out.same (Fr.of_below HB3.out _)).same HF4.out⟩
          case measure => simp [intOf]; omega
      · obtain rfl : j = n := by omega
        have hin : ¬ ((j : Int) < (j : Int)) := by omega
        obtain ⟨vs, hcl⟩ := run_clear46 wr 0 b i (j - i) (c - i) (fun q hq => own_some ho (by rw [cur_len (by have := HN.out; omega)]; exact HN.out.symm) (by omega)) (fun q => ho.frozen q)
        have HE := Lib.hid (ho.cleared (by rw [cur_len (by have := HN.out; omega)]; exact HN.out.symm) lf_len (show i ≤ j by omega) vs)
        clear hi ho hf
        go_wp2
        go_ret
        have hkn2 := keep_all t ls
        rw [← HN.out] at hkn2
        have hcl2 := cur_take t ls j
        rw [HI2.out] at hcl2
        rw [hcl2, hkn2] at HE
        exact ⟨_, rfl, HE.out, rfl, (HF2.out.same (Fr.sets wr b vs (i * 7))).mono fun q _ hq => by rw [hq]; rfl⟩
end Go.Proofs.YtlblgfpafdfilaaDoor
