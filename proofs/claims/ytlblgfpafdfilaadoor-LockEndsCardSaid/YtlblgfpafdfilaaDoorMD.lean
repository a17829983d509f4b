/-
  STAGE 12: IndexFunc, DeleteFunc.
-/
import Derived.Test.YtlblgfpafdfilaaDoorMC
namespace Go.Proofs.YtlblgfpafdfilaaDoor
open Go.RowKit Go.Sort

/-- where the first of a transaction's stands -/
def FirstO (t : Nat) (ls : List LK) (r : Int) : Prop := (r = -1 ∧ ∀ l ∈ ls, (l.t == t) = false) ∨ ∃ k l, r = ((k : Nat) : Int) ∧ ls[k]? = some l ∧ (l.t == t) = true ∧ ∀ l ∈ ls.take k, (l.t == t) = false
theorem FirstO.out {t : Nat} {ls : List LK} {r : Int} (h : FirstO t ls r) : (r = -1 ∧ ∀ l ∈ ls, (l.t == t) = false) ∨ ∃ k l, r = ((k : Nat) : Int) ∧ ls[k]? = some l ∧ (l.t == t) = true ∧ ∀ l ∈ ls.take k, (l.t == t) = false := h
theorem none_take {t : Nat} {ls : List LK} {k : Nat} {l : LK} (h : ls[k]? = some l) (ha : ∀ l ∈ ls.take k, (l.t == t) = false) (hp : (l.t == t) = false) : ∀ l ∈ ls.take (k + 1), (l.t == t) = false := by
  obtain ⟨hk, e⟩ := List.getElem?_eq_some_iff.1 h
  rw [List.take_succ_eq_append_getElem hk]
  intro x hx
  rcases List.mem_append.1 hx with hx | hx
  · exact ha x hx
  · rw [List.mem_singleton.1 hx, e]; exact hp
set_option maxRecDepth 100000 in
set_option maxHeartbeats 2000000 in
theorem index_any (t a : Nat) (A : Option Addr) (n c : Nat) (ls : List LK) (w : World) (hlen : ls.length = n) (hR : Row w A ls) (hn : n ≤ 16384) (hc : n ≤ c) (ht : w.cell? ⟨a, 0, none⟩ = some (.int .u32 (t : Int))) :
    Calls Tryd.prog 63 #[.slice A n c, .func (.func 39) #[] #[.pointer (some ⟨a, 0, none⟩)]] w fun e w' => ∃ r, e = .returned (.int .i64 r) ∧ FirstO t ls r ∧ Below w.heap.size w w' := by
  have eg : ∀ args w, (callFunc 39 args).run Tryd.prog w = .ok (.enter 39 args) w := enters_of Tryd.func39 (by kernel_rfl) rfl
  have HR := Lib.hid hR
  have HT := Lib.hid ht
  have HL := Lib.hid hlen
  clear hR ht hlen
  go_enter Tryd.func63, Tryd.ntmps63
  go_wp2_with fail
  go_loopw [8] (fun i wr => ∃ k : Nat, k ≤ n ∧ i = .int .i64 (k : Int) ∧ (∀ l ∈ ls.take k, (l.t == t) = false) ∧ Below w.heap.size w wr) (fun i _ => n - (intOf i).toNat)
  case atStart => exact ⟨0, by omega, rfl, by simp, Below.refl _ _⟩
  case round =>
    obtain ⟨k, hk, rfl, ha, hb⟩ := hrel
    have HB := Lib.hid hb
    have HA := Lib.hid ha
    clear ha
    by_cases hlt : k < n
    · have hl : ls[k]? = some (ls[k]'(by have := HL.out; omega)) := List.getElem?_eq_getElem _
      generalize ls[k]'(by have := HL.out; omega) = l at hl
      obtain ⟨b, rfl, hcs⟩ := HR.out k l hl
      obtain ⟨z0, z1, z2, z3, z4, z5, z6⟩ := hcs.up hb
      have HLK := Lib.hid hl
      have HCK := Lib.hid (delP_any t a l wr (cell_up HT.out hb))
      have hin : ((k : Int) < (n : Int)) := by omega
      have e1 : IntKind.i64.wrap ((k : Int) + 1) = ((k + 1 : Nat) : Int) := by rw [IntWalk.i64_in _ (by omega)]; omega
      unfold LK.agg at HCK
      clear hb hcs hl
      cases hP : (l.t == t) with
      | true =>
        rw [hP] at HCK
        have HP := Lib.hid (show FirstO t ls (k : Int) from Or.inr ⟨k, l, rfl, HLK.out, hP, HA.out⟩)
        clear hP
        go_wp2_with fail
        with_reducible refine HCK.out.mono ?_
        rintro e w2 ⟨rfl, hb2⟩
        have HB2 := Lib.hid (HB.out.trans (hb2.mono HB.out.size))
        clear hb2
        go_wp2_with fail
        go_ret
        exact ⟨_, rfl, HP.out, HB2.out⟩
      | false =>
        rw [hP] at HCK
        have HP := Lib.hid (none_take HLK.out HA.out hP)
        clear hP
        go_wp2_with fail
        with_reducible refine HCK.out.mono ?_
        rintro e w2 ⟨rfl, hb2⟩
        have HB2 := Lib.hid (HB.out.trans (hb2.mono HB.out.size))
        clear hb2
        go_wp2_with fail
        go_roundw
        case rel => exact ⟨k + 1, by omega, by go_num, HP.out, HB2.out⟩
        case measure => simp [intOf]; omega
    · obtain rfl : k = n := by omega
      have hin : ¬ ((k : Int) < (k : Int)) := by omega
      have HE := Lib.hid (show FirstO t ls (-1) from Or.inl ⟨rfl, by have := HA.out; rwa [← HL.out, List.take_length] at this⟩)
      clear hb
      go_wp2_with fail
      go_ret
      exact ⟨_, rfl, HE.out, HB.out⟩
/-- what is kept of the first j -/
def keepM (t : Nat) (ls : List LK) (j : Nat) : List LK := (ls.take j).filter fun l => !(l.t == t)
theorem keep_le (t : Nat) (ls : List LK) (j : Nat) : (keepM t ls j).length ≤ j := Nat.le_trans (List.length_filter_le _ _) (by rw [List.length_take]; omega)
theorem keep_succ {t : Nat} {ls : List LK} {j : Nat} {l : LK} (h : ls[j]? = some l) : keepM t ls (j + 1) = if (l.t == t) = true then keepM t ls j else keepM t ls j ++ [l] := by
  obtain ⟨hk, e⟩ := List.getElem?_eq_some_iff.1 h
  unfold keepM
  rw [List.take_succ_eq_append_getElem hk, List.filter_append, e]
  cases hp : (l.t == t) with
  | true => rw [if_pos rfl]; simp only [List.filter, hp]; exact List.append_nil _
  | false => rw [if_neg Bool.false_ne_true]; simp only [List.filter, hp]; rfl
/-- how the row reads meanwhile -/
def curM (t : Nat) (ls : List LK) (j : Nat) : List LK := keepM t ls j ++ ls.drop (keepM t ls j).length
theorem cur_len {t : Nat} {ls : List LK} {j : Nat} (hj : j ≤ ls.length) : (curM t ls j).length = ls.length := by
  have := keep_le t ls j
  unfold curM
  rw [List.length_append, List.length_drop]
  omega
theorem cur_at {t : Nat} {ls : List LK} {j : Nat} {l : LK} (h : ls[j]? = some l) : (curM t ls j)[j]? = some l := by
  have := keep_le t ls j
  unfold curM
  rw [List.getElem?_append_right this, List.getElem?_drop, Nat.add_sub_cancel' this, h]
theorem cur_skip {t : Nat} {ls : List LK} {j : Nat} {l : LK} (h : ls[j]? = some l) (hp : (l.t == t) = true) : curM t ls (j + 1) = curM t ls j := by
  unfold curM
  rw [keep_succ h, if_pos hp]
theorem cur_keep {t : Nat} {ls : List LK} {j : Nat} {l : LK} (h : ls[j]? = some l) (hp : (l.t == t) = false) : curM t ls (j + 1) = (curM t ls j).set (keepM t ls j).length l ∧ (keepM t ls (j + 1)).length = (keepM t ls j).length + 1 := by
  have hj := (List.getElem?_eq_some_iff.1 h).1
  have hle := keep_le t ls j
  have e : keepM t ls (j + 1) = keepM t ls j ++ [l] := by rw [keep_succ h, if_neg (by rw [hp]; exact Bool.false_ne_true)]
  unfold curM
  rw [e, List.length_append, List.length_singleton, List.set_append_right _ _ (Nat.le_refl _), Nat.sub_self]
  refine ⟨?_, rfl⟩
  have hd : ls.drop (keepM t ls j).length = ls[(keepM t ls j).length]'(by omega) :: ls.drop ((keepM t ls j).length + 1) := List.drop_eq_getElem_cons (by omega)
  rw [hd, List.set_cons_zero, List.append_assoc]
  rfl
theorem cur_start {t : Nat} {ls : List LK} {k : Nat} {l : LK} (h : ls[k]? = some l) (hp : (l.t == t) = true) (ha : ∀ l ∈ ls.take k, (l.t == t) = false) : curM t ls (k + 1) = ls ∧ (keepM t ls (k + 1)).length = k := by
  have hk := (List.getElem?_eq_some_iff.1 h).1
  have e : keepM t ls (k + 1) = ls.take k := by
    rw [keep_succ h, if_pos hp]
    unfold keepM
    rw [List.filter_eq_self.2 fun x hx => by rw [ha x hx]; rfl]
  unfold curM
  rw [e, List.length_take, Nat.min_eq_left (by omega)]
  exact ⟨List.take_append_drop k ls, rfl⟩
theorem keep_all (t : Nat) (ls : List LK) : keepM t ls ls.length = ls.filter fun l => !(l.t == t) := by unfold keepM; rw [List.take_length]
theorem cur_take (t : Nat) (ls : List LK) (j : Nat) : (curM t ls j).take (keepM t ls j).length = keepM t ls j := by unfold curM; rw [List.take_append_of_le_length (Nat.le_refl _), List.take_length]
theorem keep_none {t : Nat} {ls : List LK} (h : ∀ l ∈ ls, (l.t == t) = false) : (ls.filter fun l => !(l.t == t)) = ls := List.filter_eq_self.2 fun x hx => by rw [h x hx]; rfl
end Go.Proofs.YtlblgfpafdfilaaDoor
