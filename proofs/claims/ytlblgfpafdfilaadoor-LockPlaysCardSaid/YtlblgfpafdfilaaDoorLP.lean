/-
STAGE 12: byTxn: the comparison, what a sort leaves. STAGE 12: byTxn. STAGE 12: byTxn, its walk.
-/
import Derived.Test.YtlblgfpafdfilaaDoorLO
namespace Go.Proofs.YtlblgfpafdfilaaDoor
open Go.RowKit Go.Sort

def cmpM (a b : Nat) : Int := if a < b then -1 else if b < a then 1 else 0
set_option maxRecDepth 100000 in
theorem isNaN_any (a : Nat) (w : World) : Calls Tryd.prog 71 #[.int .u32 (a : Int)] w fun e w' => e = .returned (.bool false) ∧ w = w' := by
  go_enter Tryd.func71, Tryd.ntmps71
  go_wp2_with fail
  go_ret
  exact ⟨by simp, rfl⟩
set_option maxRecDepth 100000 in
theorem cmp_any (a b : Nat) (w : World) : Calls Tryd.prog 56 #[.int .u32 (a : Int), .int .u32 (b : Int)] w fun e w' => e = .returned (.int .i64 (cmpM a b)) ∧ w' = w := by
  rcases Nat.lt_trichotomy a b with h | h | h
  · have d1 : decide ((a : Int) < (b : Int)) = true := decide_eq_true (by omega)
    have d2 : decide (a < b) = true := decide_eq_true h
    have e : cmpM a b = -1 := by rw [cmpM, if_pos h]
    rw [e]
    clear e
    go_enter Tryd.func56, Tryd.ntmps56
    go_wp2_with (go_at_call 71; with_reducible refine (isNaN_any _ _).mono ?_; rintro e w' ⟨rfl, rfl⟩)
    go_ret
    exact ⟨rfl, rfl⟩
  · subst h
    have d1 : decide ((a : Int) < (a : Int)) = false := decide_eq_false (by omega)
    have d3 : decide ((a : Int) > (a : Int)) = false := decide_eq_false (by omega)
    have e : cmpM a a = 0 := by rw [cmpM, if_neg (by omega), if_neg (by omega)]
    rw [e]
    clear e
    go_enter Tryd.func56, Tryd.ntmps56
    go_wp2_with (go_at_call 71; with_reducible refine (isNaN_any _ _).mono ?_; rintro e w' ⟨rfl, rfl⟩)
    go_ret
    exact ⟨rfl, rfl⟩
  · have d1 : decide ((a : Int) < (b : Int)) = false := decide_eq_false (by omega)
    have d2 : decide (a < b) = false := decide_eq_false (by omega)
    have d3 : decide ((a : Int) > (b : Int)) = true := decide_eq_true (by omega)
    have d4 : decide (b < a) = true := decide_eq_true h
    have e : cmpM a b = 1 := by rw [cmpM, if_neg (by omega), if_pos h]
    rw [e]
    clear e
    go_enter Tryd.func56, Tryd.ntmps56
    go_wp2_with (go_at_call 71; with_reducible refine (isNaN_any _ _).mono ?_; rintro e w' ⟨rfl, rfl⟩)
    go_ret
    exact ⟨rfl, rfl⟩
set_option maxRecDepth 100000 in
theorem byP_any (g a : Nat) (A : Option Addr) (c : Nat) (ls : List LK) (W : World) (hT : TR W g A c ls) (ha : W.cell? ⟨a, 0, none⟩ = some (.pointer (some ⟨g, 0, none⟩))) (i j : Nat) (li lj : LK) (hi : ls[i]? = some li) (hj : ls[j]? = some lj) :
    Calls Tryd.prog 55 #[.int .i64 (i : Int), .int .i64 (j : Int), .pointer (some ⟨a, 0, none⟩)] W fun e w' => e = .returned (.int .i64 (cmpM li.t lj.t)) ∧ ∃ q os', w' = grow (W.drewN q) os' := by
  obtain ⟨b, rfl, ci⟩ := hT.row i li hi
  obtain ⟨b', e', cj⟩ := hT.row j lj hj
  injection e' with e'
  injection e' with e'
  subst e'
  have x0 := ci.1
  have y0 := cj.1
  have c0 := hT.blk.cell 0
  simp only [List.getElem?_toArray, List.getElem?_cons_zero] at c0
  have h1 : (i : Int) < (ls.length : Int) := by have := (List.getElem?_eq_some_iff.1 hi).1; omega
  have h2 : (j : Int) < (ls.length : Int) := by have := (List.getElem?_eq_some_iff.1 hj).1; omega
  have HC := Lib.hid (fun W => cmp_any li.t lj.t W)
  generalize cmpM li.t lj.t = r at HC ⊢
  generalize ls.length = n at *
  clear hT hi hj ci cj
  go_enter Tryd.func55, Tryd.ntmps55
  go_upto_region 1 with fail
  go_quiet (first | (go_at_call 56; with_reducible refine Calls.quiet_of_same (HC.out _)))
  go_wp2_with fail
  go_ret
  exact ⟨rfl, nq, #[], by simp⟩
theorem sort_fr {α : Type} [Inhabited α] (enc : α → Value) (w : World) (blk off m : Nat) (dk : Array α) (os : Array Obj) : Fr w (sortWorld enc w blk off m dk os) fun b => b = blk := by
  refine ⟨rfl, rfl, rfl, ?_, fun b hb hn => ?_⟩
  · unfold sortWorld
    rw [size_grow]
    simp [putRow, mapBlock, Sort.ahead]
  · unfold sortWorld grow putRow mapBlock Sort.ahead
    simp only
    rw [Array.getElem?_append_left (by simpa using hb), Array.getElem?_modify, if_neg (fun e => hn e.symm)]
/-- which places a row of numbers has while it is filled -/
def fillM (n k : Nat) : List Nat := List.range k ++ List.replicate (n - k) 0
theorem fillM_len {n k : Nat} (h : k ≤ n) : (fillM n k).length = n := by rw [fillM, List.length_append, List.length_range, List.length_replicate]; omega
theorem fillM_at {n k : Nat} (h : k < n) : (fillM n k)[k]? = some 0 := by
  rw [fillM, List.getElem?_append_right (by simp), List.length_range, Nat.sub_self, show n - k = (n - (k + 1)) + 1 by omega, List.replicate_succ]
  rfl
theorem fillM_set {n k : Nat} (h : k < n) : (fillM n k).set k k = fillM n (k + 1) := by
  rw [fillM, fillM, List.set_append_right _ _ (by simp), List.length_range, Nat.sub_self, List.range_succ, List.append_assoc, show n - k = (n - (k + 1)) + 1 by omega, List.replicate_succ, List.set_cons_zero]
  rfl
/-- rising transactions -/
def Rises (ls : List LK) (pl : List Nat) : Prop := pl.Perm (List.range ls.length) ∧ ∀ i j p q : Nat, i < j → pl[i]? = some p → pl[j]? = some q → (ls.getD p okz).t ≤ (ls.getD q okz).t
theorem swoT {α : Type} (f : α → Nat) : SWO (ltOf fun x y : α => cmpM (f x) (f y)) := by
  have e : ∀ x y : α, ltOf (fun x y : α => cmpM (f x) (f y)) x y = decide (f x < f y) := by
    intro x y
    unfold ltOf cmpM
    by_cases h1 : f x < f y
    · simp [h1]
    · by_cases h2 : f y < f x <;> simp [h1, h2]
  exact ⟨fun x => by rw [e]; simp, fun x y z h1 h2 => by rw [e] at *; simp at *; omega, fun x y z h1 h2 => by rw [e] at *; simp at *; omega⟩
end Go.Proofs.YtlblgfpafdfilaaDoor
namespace Go.Proofs.YtlblgfpafdfilaaDoor
open Go.RowKit Go.Sort

def finEnc {n : Nat} (x : Fin n) : Value := .int .i64 ((x.val : Nat) : Int)
theorem ext_full {α : Type} (d : Array α) (n : Nat) (h : d.size = n) : d.extract 0 n = d := by subst h; exact Array.extract_size
theorem getElem!_get {α : Type} [Inhabited α] {d : Array α} {i : Nat} (h : i < d.size) : d[i]! = d[i] := getElem!_pos d i h
/-- what a sort leaves in a row of the call's own -/
theorem sort_own {m : Nat} (w : World) (blk cap q : Nat) (l : List Nat) (d' : Array (Fin (m + 1))) (os : Array Obj) (hd : d'.size = l.length) (ho : OwR w 3 1 nf (.slice (some ⟨blk, 0, none⟩) l.length cap) l) :
    OwR (sortWorld finEnc w blk 0 q d' os) 3 1 nf (.slice (some ⟨blk, 0, none⟩) l.length cap) (d'.toList.map Fin.val) := by
  rcases ho.2 with ⟨e, _⟩ | ⟨g, cap', cur, e, _, hg, hc, hm, hcs, _⟩
  · cases e
  · injection e with e1 e2 e3
    injection e1 with e1
    injection e1 with e1
    subst e1 e3
    have hl : (d'.toList.map Fin.val).length = l.length := by rw [List.length_map, Array.length_toList, hd]
    unfold OwR
    rw [hl]
    refine ⟨?_, Or.inr ⟨blk, cap, putCells finEnc 0 d' cur, rfl, Nat.zero_le _, ?_, hc, hm, ?_, ?_⟩⟩
    · rw [flat_len nf_len, hl]
    · unfold sortWorld grow putRow mapBlock Sort.ahead
      have hlt : blk < w.heap.size := Blk.lt hg
      simp only
      rw [Array.getElem?_append_left (by simpa using hlt), Array.getElem?_modify, if_pos rfl, hg]
      rfl
    · simp [putCells, hcs]
    · apply List.ext_getElem?
      intro j
      rw [Nat.mul_one, List.getElem?_take]
      by_cases hj : j < l.length
      · rw [if_pos hj]
        have hjd : j < d'.size := by omega
        have hjc : j < cur.size := by omega
        have h1 := flat_at nf_len (d'.toList.map Fin.val) j (d'[j]).val 0 (by simp [hjd]) (by decide)
        have e1 : j * 1 + 0 = j := by omega
        simp only [e1] at h1
        rw [h1]
        simp only [putCells, Array.getElem?_toList, Array.getElem?_mapIdx, Array.getElem?_eq_getElem hjc, Option.map_some]
        rw [if_pos ⟨Nat.zero_le _, by omega⟩, Nat.sub_zero, getElem!_get hjd]
        rfl
      · rw [if_neg hj, List.getElem?_eq_none]
        rw [flat_len nf_len, hl]
        omega
set_option maxHeartbeats 1000000 in
/-- slices.SortFunc over the places -/
theorem sortP_any (g a : Nat) (A : Option Addr) (c : Nat) (ls : List LK) (w : World) (hT : TR w g A c ls) (ha : w.cell? ⟨a, 0, none⟩ = some (.pointer (some ⟨g, 0, none⟩))) (blk : Nat) (cap : Nat)
    (ho : OwR w 3 1 nf (.slice (some ⟨blk, 0, none⟩) ls.length cap) (List.range ls.length)) (hg : blk ≠ g) (hbA : ∀ b, A = some ⟨b, 0, none⟩ → ls.length = 0 ∨ blk ≠ b) (hba : blk ≠ a) :
    Calls Tryd.prog 54 #[.slice (some ⟨blk, 0, none⟩) ls.length cap, .func (.func 55) #[] #[.pointer (some ⟨a, 0, none⟩)]] w fun e w' => e = .returned (.tuple #[]) ∧ ∃ pl, Rises ls pl ∧ OwR w' 3 1 nf (.slice (some ⟨blk, 0, none⟩) ls.length cap) pl ∧ Fr w w' fun b => b = blk := by
  rcases Nat.eq_zero_or_pos ls.length with h0 | h0
  · have hcon := Tryd.slices_SortFunc_none (α := Unit) (some ⟨blk, 0, none⟩) cap (.func (.func 55) #[] #[.pointer (some ⟨a, 0, none⟩)]) w
    rw [h0] at ho ⊢
    refine hcon.mono fun e w' ⟨he, hw⟩ => ⟨he, [], ⟨by rw [h0]; exact List.Perm.refl _, fun i j p q _ h => by simp at h⟩, ?_, ?_⟩
    · rw [hw]; exact ho
    · rw [hw]; exact Fr.refl _ _
  · obtain ⟨m, hm⟩ : ∃ m, ls.length = m + 1 := ⟨ls.length - 1, by omega⟩
    obtain ⟨d, hd⟩ : ∃ d : Array (Fin (m + 1)), d = Array.ofFn id := ⟨_, rfl⟩
    have hds : d.size = m + 1 := by rw [hd, Array.size_ofFn]
    have hdv : ∀ j, (h : j < m + 1) → d[j]! = ⟨j, h⟩ := fun j h => by
      rw [getElem!_get (by omega)]
      subst hd
      simp
    have hat : ∀ x : Fin (m + 1), ∃ l, ls[x.val]? = some l ∧ ls.getD x.val okz = l := fun x => by
      have hx : x.val < ls.length := by have := x.isLt; omega
      exact ⟨_, List.getElem?_eq_getElem hx, getD_of (List.getElem?_eq_getElem hx)⟩
    have hH : Holds finEnc w blk 0 d := fun j hj => by
      obtain ⟨b, c', e, _, hc⟩ := ho.at_ nf_len (i := j) (x := j) (by rw [List.getElem?_range (by omega)])
      injection e with e1 e2 e3
      injection e1 with e1
      injection e1 with e1
      subst e1
      refine ⟨?_, ho.frozen _⟩
      rw [hdv j (by omega), Nat.zero_add]
      have := hc 0 _ rfl
      rw [Nat.mul_one, Nat.add_zero] at this
      exact this
    have hblk : blk < w.heap.size := ho.lt rfl
    have hcmp : CmpLays1 Tryd.prog 55 #[.pointer (some ⟨a, 0, none⟩)] finEnc (fun x y : Fin (m + 1) => cmpM (ls.getD x.val okz).t (ls.getD y.val okz).t) blk 0 d.size w := by
      intro q os dk hdk x y
      obtain ⟨lx, hx, ex⟩ := hat x
      obtain ⟨ly, hy, ey⟩ := hat y
      have hf := sort_fr finEnc w blk 0 q dk os
      have hT' : TR (sortWorld finEnc w blk 0 q dk os) g A c ls := by
        refine ⟨hT.blk.keep hf (fun e => hg e.symm), fun i l hi => ?_, hT.ok, hT.few, hT.le⟩
        obtain ⟨b, e, hc⟩ := hT.row i l hi
        exact ⟨b, e, hc.block (hf.block b hc.lt fun e' => (hbA b e).elim (by omega) fun h => h e'.symm)⟩
      simp only [ex, ey]
      exact byP_any g a A c ls _ hT' ((World.cell?_of_block (hf.block a (block_lt_of_cell ha) fun e => hba e.symm)).trans ha) x.val y.val lx ly hx hy
    have eg : ∀ args w, (callFunc 55 args).run Tryd.prog w = .ok (.enter 55 args) w := enters_of Tryd.func55 (by kernel_rfl) rfl
    have hcon := Tryd.slices_SortFunc finEnc (fun _ => rfl) _ (swoT fun x : Fin (m + 1) => (ls.getD x.val okz).t) 55 #[.pointer (some ⟨a, 0, none⟩)] blk 0 cap d w eg hcmp hH hblk (by have := hT.few; omega)
    rw [hds] at hcon
    rw [hm]
    refine hcon.mono fun e w' ⟨he, d', q, os, hp, hs, hw⟩ => ⟨he, d'.toList.map Fin.val, ⟨?_, ?_⟩, ?_, ?_⟩
    · have h1 := hp.2.2
      have hs' : d'.size = m + 1 := by rw [hp.1, hds]
      have e1 : d'.extract 0 (m + 1) = d' := ext_full d' _ hs'
      have e2 : d.extract 0 (m + 1) = d := ext_full d _ hds
      rw [e1, e2] at h1
      have h2 := h1.map Fin.val
      have h3 : d.toList.map Fin.val = List.range ls.length := by
        apply List.ext_getElem?
        intro j
        rw [hm]
        by_cases hj : j < m + 1
        · have hdj := hdv j hj
          rw [getElem!_get (by omega)] at hdj
          rw [List.getElem?_map, Array.getElem?_toList, Array.getElem?_eq_getElem (by omega), hdj, List.getElem?_range hj]
          rfl
        · rw [List.getElem?_eq_none (by simp; omega), List.getElem?_eq_none (by simp; omega)]
      rw [h3] at h2
      exact h2
    · intro i j p q hij hpi hqj
      have hs' : d'.size = m + 1 := by rw [hp.1, hds]
      rw [List.getElem?_map, Array.getElem?_toList] at hpi hqj
      have hjl : j < d'.size := by
        rcases Nat.lt_or_ge j d'.size with h | h
        · exact h
        · rw [Array.getElem?_eq_none h] at hqj; cases hqj
      have h := hs i j (Nat.zero_le _) hij (by omega)
      rw [getElem!_get hjl, getElem!_get (show i < d'.size by omega)] at h
      rw [Array.getElem?_eq_getElem (by omega)] at hpi hqj
      simp only [Option.map_some, Option.some.injEq] at hpi hqj
      subst hpi hqj
      replace h : ¬ cmpM (ls.getD d'[j].val okz).t (ls.getD d'[i].val okz).t < 0 := of_decide_eq_false h
      unfold cmpM at h
      rcases Nat.lt_or_ge (ls.getD d'[j].val okz).t (ls.getD d'[i].val okz).t with hlt | hge
      · rw [if_pos hlt] at h
        exact absurd (by decide) h
      · exact hge
    · rw [hw]
      have := sort_own w blk cap q (List.range ls.length) d' os (by rw [List.length_range, hp.1, hds, hm]) (by rw [List.length_range]; exact ho)
      rw [List.length_range, hm] at this
      exact this
    · rw [hw]; exact sort_fr finEnc w blk 0 q d' os
end Go.Proofs.YtlblgfpafdfilaaDoor
namespace Go.Proofs.YtlblgfpafdfilaaDoor
open Go.RowKit Go.Sort

/-- a row of noughts is made -/
theorem make_ints (w : World) (n : Nat) (hn : n ≤ 16384) : ∃ W, (Instr.makeSlice 61 (.int .i64 (n : Int)) (.int .i64 (n : Int))).run Tryd.prog w = .ok (.slice (some ⟨w.heap.size, 0, none⟩) n n) W ∧ OwR W 3 1 nf (.slice (some ⟨w.heap.size, 0, none⟩) n n) (List.replicate n 0) ∧ Below w.heap.size w W := by
  obtain ⟨i0, hi, hz0, hz1, hz2⟩ := info_parts K3.inf
  obtain ⟨W, h1, h2, h3⟩ := run_make_full (P := Tryd.prog) w 0 61 3 i0 (.int .i64 0) 1 K3.und hi hz0 hz1 .i64 .i64 n (by rw [hz2]; omega) (by simp only [maxLen]; omega) (Nat.zero_le _)
  refine ⟨W, h1, ?_, below_of_grown h3 (by simp) (Nat.le_refl _)⟩
  unfold OwR
  rw [List.length_replicate]
  have e : (List.replicate n 0).flatMap nf = (madeCells (Value.int .i64 0).cells (n * 1)).toList := by
    rw [Nat.mul_one, show (Value.int .i64 0).cells = #[.int .i64 0] from rfl, toList_madeCells_one]
    clear h1 h2 h3 hn
    induction n with
    | zero => rfl
    | succ n ih => rw [List.replicate_succ, List.flatMap_cons, ih, List.replicate_succ]; rfl
  rw [e]
  exact h2
/-- one number is laid into a row of numbers -/
theorem ints_set {w : World} {b c n : Nat} {l : List Nat} {k x : Nat} (h : OwR w 3 1 nf (.slice (some ⟨b, 0, none⟩) n c) l) (hl : l.length = n) (hk : k < n) (y : Nat) (hx : l[k]? = some x) :
    w.cell? ⟨b, k, none⟩ = some (.int .i64 (x : Int)) ∧ w.frozen? ⟨b, k, none⟩ = false ∧ OwR (w.setCell ⟨b, k, none⟩ (.int .i64 (y : Int))) 3 1 nf (.slice (some ⟨b, 0, none⟩) n c) (l.set k y) := by
  subst hl
  have e1 : k * 1 + 0 = k := by omega
  obtain ⟨b', c', e', _, hat⟩ := h.at_ nf_len hx
  injection e' with e2 _ _
  injection e2 with e2
  injection e2 with e2
  subst e2
  have h0 := hat 0 _ rfl
  have h2 := h.set_ nf_len (i := k) (j := 0) (x := x) (y := y) (u := .int .i64 (y : Int)) hx (by decide) rfl
  simp only [e1] at h0 h2
  exact ⟨h0, h.frozen k, h2⟩
theorem ints_at {w : World} {b c n : Nat} {l : List Nat} {k x : Nat} (h : OwR w 3 1 nf (.slice (some ⟨b, 0, none⟩) n c) l) (hx : l[k]? = some x) : w.cell? ⟨b, k, none⟩ = some (.int .i64 (x : Int)) := by
  have e1 : k * 1 + 0 = k := by omega
  obtain ⟨b', c', e', _, hat⟩ := h.at_ nf_len hx
  injection e' with e2 _ _
  injection e2 with e2
  injection e2 with e2
  subst e2
  have h0 := hat 0 _ rfl
  simp only [e1] at h0
  exact h0
set_option maxRecDepth 100000 in
set_option maxHeartbeats 1000000 in
theorem byTxn_any (g : Nat) (A : Option Addr) (c : Nat) (ls : List LK) (w : World) (hT : TR w g A c ls) :
    Calls Tryd.prog 32 #[.pointer (some ⟨g, 0, none⟩)] w fun e w' => ∃ pl, e = .returned (.slice (some ⟨w.heap.size + 1, 0, none⟩) ls.length ls.length) ∧ Rises ls pl ∧ OwR w' 3 1 nf (.slice (some ⟨w.heap.size + 1, 0, none⟩) ls.length ls.length) pl ∧ Below w.heap.size w w' := by
  obtain ⟨W, hW⟩ : ∃ W, W = w.alloc (.cells #[.pointer (some ⟨g, 0, none⟩)] 25) := ⟨_, rfl⟩
  have hb : Below w.heap.size w W := by rw [hW]; exact (Below.refl _ _).alloc (Nat.le_refl _) _
  have hk : Blk W w.heap.size 25 #[.pointer (some ⟨g, 0, none⟩)] := by rw [hW]; exact Blk.new _ _ _
  have hWs : W.heap.size = w.heap.size + 1 := by rw [hW]; simp
  obtain ⟨W1, hmk, hown, hbm⟩ := make_ints W ls.length hT.few
  rw [hWs] at hmk hown
  have c0 := (hT.blk.below hb hT.blk.lt).cell 0
  have k0 := hk.cell 0
  simp only [List.getElem?_toArray, List.getElem?_cons_zero] at c0 k0
  have HT := Lib.hid (hT.up (below_trans hb hbm))
  have HGL := Lib.hid hT.blk.lt
  have HAL := Lib.hid (show ∀ b, A = some ⟨b, 0, none⟩ → ls.length = 0 ∨ b < w.heap.size from fun b e => by
    rcases Nat.eq_zero_or_pos ls.length with h | h
    · exact Or.inl h
    · obtain ⟨b', e', hc⟩ := hT.row 0 _ (List.getElem?_eq_getElem h)
      rw [e] at e'
      injection e' with e'
      injection e' with e'
      exact Or.inr (by rw [e']; exact hc.lt))
  have HB := Lib.hid (below_trans hb hbm)
  have HK := Lib.hid (hk.below hbm hk.lt)
  have HF := Lib.hid hT.few
  have HO := Lib.hid hown
  obtain ⟨n, hn⟩ : ∃ n, n = ls.length := ⟨_, rfl⟩
  rw [← hn] at c0 hmk HO
  have HN := Lib.hid hn
  have HW := Lib.hid hWs
  clear hT hb hk hown hbm hn hWs
  go_enter Tryd.func32, Tryd.ntmps32
  go_upto_region 1 with fail
  rw [← hW]
  clear hW
  go_wp2_with fail
  obtain ⟨B, hB⟩ : ∃ B, B = w.heap.size + 1 := ⟨_, rfl⟩
  rw [← hB] at HO hmk ⊢
  have HBE := Lib.hid hB
  have HBZ := Lib.hid (show B < W1.heap.size from HO.out.lt rfl)
  clear hB hmk c0 k0
  go_loopw [13] (fun i wr => ∃ k : Nat, k ≤ n ∧ i = .int .i64 (k : Int) ∧ OwR wr 3 1 nf (.slice (some ⟨B, 0, none⟩) n n) (fillM n k) ∧ Fr W1 wr fun b => b = B) (fun i _ => n - (intOf i).toNat)
  case atStart => exact ⟨0, by omega, rfl, HO.out, Fr.refl _ _⟩
  case round =>
    obtain ⟨k, hk, rfl, ho, hf⟩ := hrel
    have HO2 := Lib.hid ho
    have HF2 := Lib.hid hf
    by_cases hlt : k < n
    · obtain ⟨h1, h2, h3⟩ := ints_set ho (fillM_len hk) hlt k (fillM_at hlt)
      rw [fillM_set hlt] at h3
      have HO3 := Lib.hid h3
      have HF3 := Lib.hid (show Fr W1 (wr.setCell ⟨B, k, none⟩ (.int .i64 (k : Int))) fun b => b = B from hf.setCell (p := ⟨B, k, none⟩) (Or.inl rfl) _)
      have hin : ((k : Int) < (n : Int)) := by omega
      have e1 : IntKind.i64.wrap ((k : Int) + 1) = ((k + 1 : Nat) : Int) := by rw [IntWalk.i64_in _ (by have := HF.out; have := HN.out; omega)]; omega
      clear ho hf h3
      go_wp2_with fail
      go_roundw
      case rel => exact ⟨k + 1, by omega, by go_num, HO3.out, HF3.out⟩
      case measure => simp [intOf]; omega
    · obtain rfl : k = n := by omega
      have hin : ¬ ((k : Int) < (k : Int)) := by omega
      have hr : fillM k k = List.range ls.length := by rw [fillM, Nat.sub_self, ← HN.out]; simp
      have HS := Lib.hid (sortP_any g w.heap.size A c ls wr (by
          refine ⟨HT.out.blk.keep hf fun e => ?_, fun i l hi => ?_, HT.out.ok, HT.out.few, HT.out.le⟩
          · have := HGL.out; have := HBE.out; omega
          · obtain ⟨b, e, hc⟩ := HT.out.row i l hi
            refine ⟨b, e, hc.block (hf.block b hc.lt fun e' => ?_)⟩
            have hi' := (List.getElem?_eq_some_iff.1 hi).1
            have := HAL.out b e; have := HBE.out; omega)
        (by
          have := (HK.out.keep hf fun e => by have := HBE.out; omega).cell 0
          simpa using this) B k (by rw [← HN.out, HN.out, ← hr, ← HN.out]; exact ho) (by have := HGL.out; have := HBE.out; omega) (fun b e => by
            rcases HAL.out b e with h | h
            · exact Or.inl h
            · exact Or.inr (by have := HBE.out; omega)) (by have := HBE.out; omega))
      rw [← HN.out] at HS
      clear ho hf hr
      go_wp2_with (go_at_call 54; with_reducible refine HS.out.mono ?_; rintro e w5 ⟨rfl, pl, hpl, ho5, hf5⟩; have HPL := Lib.hid hpl; have HO5 := Lib.hid ho5; have HF5 := Lib.hid hf5; clear hpl ho5 hf5)
      go_ret
      rw [← HBE.out, ← HN.out]
      refine ⟨pl, rfl, HPL.out, HO5.out, ?_⟩
      have h1 := HBE.out
      have h2 := HB.out.size
      exact HB.out.trans ((HF2.out.below (fun b e => by omega) h2).trans (HF5.out.below (fun b e => by omega) (Nat.le_trans h2 HF2.out.size)))
end Go.Proofs.YtlblgfpafdfilaaDoor
