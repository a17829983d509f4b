/-
  STAGE 12: byTxn.
-/
import Derived.Test.YtlblgfpafdfilaaDoorLP
namespace Go.Proofs.YtlblgfpafdfilaaDoor
open Go.RowKit Go.Sort

def finEnc {n : Nat} (x : Fin n) : Value := .int .i64 ((x.val : Nat) : Int)
theorem ext_full {α : Type} (d : Array α) (n : Nat) (h : d.size = n) : d.extract 0 n = d := by subst h; exact Array.extract_size
theorem getElem!_get {α : Type} [Inhabited α] {d : Array α} {i : Nat} (h : i < d.size) : d[i]! = d[i] := getElem!_pos d i h
/-- what a sort leaves in a row of the call's own -/
theorem sort_own {m : Nat} (w : World) (blk cap q : Nat) (l : List Nat) (d' : Array (Fin (m + 1))) (os : Array Obj) (hd : d'.size = l.length) (ho : OwR w 3 1 nf (.slice (some ⟨blk, 0, none⟩) l.length cap) l) :
    OwR (sortWorld finEnc w blk 0 q d' os) 3 1 nf (.slice (some ⟨blk, 0, none⟩) l.length cap) (d'.toList.map Fin.val) := by
  rcases ho.2 with ⟨e, _⟩ | ⟨g, cap', cur, e, _, hg, hc, hm, hcs, _⟩
  · cases e
  · injection e with e1 e2 e3
    injection e1 with e1
    injection e1 with e1
    subst e1 e3
    have hl : (d'.toList.map Fin.val).length = l.length := by rw [List.length_map, Array.length_toList, hd]
    unfold OwR
    rw [hl]
    refine ⟨?_, Or.inr ⟨blk, cap, putCells finEnc 0 d' cur, rfl, Nat.zero_le _, ?_, hc, hm, ?_, ?_⟩⟩
    · rw [flat_len nf_len, hl]
    · unfold sortWorld grow putRow mapBlock Sort.ahead
      have hlt : blk < w.heap.size := Blk.lt hg
      simp only
      rw [Array.getElem?_append_left (by simpa using hlt), Array.getElem?_modify, if_pos rfl, hg]
      rfl
    · simp [putCells, hcs]
    · apply List.ext_getElem?
      intro j
      rw [Nat.mul_one, List.getElem?_take]
      by_cases hj : j < l.length
      · rw [if_pos hj]
        have hjd : j < d'.size := by omega
        have hjc : j < cur.size := by omega
        have h1 := flat_at nf_len (d'.toList.map Fin.val) j (d'[j]).val 0 (by simp [hjd]) (by decide)
        have e1 : j * 1 + 0 = j := by omega
        simp only [e1] at h1
        rw [h1]
        simp only [putCells, Array.getElem?_toList, Array.getElem?_mapIdx, Array.getElem?_eq_getElem hjc, Option.map_some]
        rw [if_pos ⟨Nat.zero_le _, by omega⟩, Nat.sub_zero, getElem!_get hjd]
        rfl
      · rw [if_neg hj, List.getElem?_eq_none]
        rw [flat_len nf_len, hl]
        omega
set_option maxHeartbeats 1000000 in
/-- slices.SortFunc over the places -/
theorem sortP_any (g a : Nat) (A : Option Addr) (c : Nat) (ls : List LK) (w : World) (hT : TR w g A c ls) (ha : w.cell? ⟨a, 0, none⟩ = some (.pointer (some ⟨g, 0, none⟩))) (blk : Nat) (cap : Nat)
    (ho : OwR w 3 1 nf (.slice (some ⟨blk, 0, none⟩) ls.length cap) (List.range ls.length)) (hg : blk ≠ g) (hbA : ∀ b, A = some ⟨b, 0, none⟩ → ls.length = 0 ∨ blk ≠ b) (hba : blk ≠ a) :
    Calls Tryd.prog 54 #[.slice (some ⟨blk, 0, none⟩) ls.length cap, .func (.func 55) #[] #[.pointer (some ⟨a, 0, none⟩)]] w fun e w' => e = .returned (.tuple #[]) ∧ ∃ pl, Rises ls pl ∧ OwR w' 3 1 nf (.slice (some ⟨blk, 0, none⟩) ls.length cap) pl ∧ Fr w w' fun b => b = blk := by
  rcases Nat.eq_zero_or_pos ls.length with h0 | h0
  · have hcon := Tryd.slices_SortFunc_none (α := Unit) (some ⟨blk, 0, none⟩) cap (.func (.func 55) #[] #[.pointer (some ⟨a, 0, none⟩)]) w
    rw [h0] at ho ⊢
    refine hcon.mono fun e w' ⟨he, hw⟩ => ⟨he, [], ⟨by rw [h0]; exact List.Perm.refl _, fun i j p q _ h => by simp at h⟩, ?_, ?_⟩
    · rw [hw]; exact ho
    · rw [hw]; exact Fr.refl _ _
  · obtain ⟨m, hm⟩ : ∃ m, ls.length = m + 1 := ⟨ls.length - 1, by omega⟩
    obtain ⟨d, hd⟩ : ∃ d : Array (Fin (m + 1)), d = Array.ofFn id := ⟨_, rfl⟩
    have hds : d.size = m + 1 := by rw [hd, Array.size_ofFn]
    have hdv : ∀ j, (h : j < m + 1) → d[j]! = ⟨j, h⟩ := fun j h => by
      rw [getElem!_get (by omega)]
      subst hd
      simp
    have hat : ∀ x : Fin (m + 1), ∃ l, ls[x.val]? = some l ∧ ls.getD x.val okz = l := fun x => by
      have hx : x.val < ls.length := by have := x.isLt; omega
      exact ⟨_, List.getElem?_eq_getElem hx, getD_of (List.getElem?_eq_getElem hx)⟩
    have hH : Holds finEnc w blk 0 d := fun j hj => by
      obtain ⟨b, c', e, _, hc⟩ := ho.at_ nf_len (i := j) (x := j) (by rw [List.getElem?_range (by omega)])
      injection e with e1 e2 e3
      injection e1 with e1
      injection e1 with e1
      subst e1
      refine ⟨?_, ho.frozen _⟩
      rw [hdv j (by omega), Nat.zero_add]
      have := hc 0 _ rfl
      rw [Nat.mul_one, Nat.add_zero] at this
      exact this
    have hblk : blk < w.heap.size := ho.lt rfl
    have hcmp : CmpLays1 Tryd.prog 55 #[.pointer (some ⟨a, 0, none⟩)] finEnc (fun x y : Fin (m + 1) => cmpM (ls.getD x.val okz).t (ls.getD y.val okz).t) blk 0 d.size w := by
      intro q os dk hdk x y
      obtain ⟨lx, hx, ex⟩ := hat x
      obtain ⟨ly, hy, ey⟩ := hat y
      have hf := sort_fr finEnc w blk 0 q dk os
      have hT' : TR (sortWorld finEnc w blk 0 q dk os) g A c ls := by
        refine ⟨hT.blk.keep hf (fun e => hg e.symm), fun i l hi => ?_, hT.ok, hT.few, hT.le⟩
        obtain ⟨b, e, hc⟩ := hT.row i l hi
        exact ⟨b, e, hc.block (hf.block b hc.lt fun e' => (hbA b e).elim (by omega) fun h => h e'.symm)⟩
      simp only [ex, ey]
      exact byP_any g a A c ls _ hT' ((World.cell?_of_block (hf.block a (block_lt_of_cell ha) fun e => hba e.symm)).trans ha) x.val y.val lx ly hx hy
    have eg : ∀ args w, (callFunc 55 args).run Tryd.prog w = .ok (.enter 55 args) w := enters_of Tryd.func55 (by kernel_rfl) rfl
    have hcon := Tryd.slices_SortFunc finEnc (fun _ => rfl) _ (swoT fun x : Fin (m + 1) => (ls.getD x.val okz).t) 55 #[.pointer (some ⟨a, 0, none⟩)] blk 0 cap d w eg hcmp hH hblk (by have := hT.few; omega)
    rw [hds] at hcon
    rw [hm]
    refine hcon.mono fun e w' ⟨he, d', q, os, hp, hs, hw⟩ => ⟨he, d'.toList.map Fin.val, ⟨?_, ?_⟩, ?_, ?_⟩
    · have h1 := hp.2.2
      have hs' : d'.size = m + 1 := by rw [hp.1, hds]
      have e1 : d'.extract 0 (m + 1) = d' := ext_full d' _ hs'
      have e2 : d.extract 0 (m + 1) = d := ext_full d _ hds
      rw [e1, e2] at h1
      have h2 := h1.map Fin.val
      have h3 : d.toList.map Fin.val = List.range ls.length := by
        apply List.ext_getElem?
        intro j
        rw [hm]
        by_cases hj : j < m + 1
        · have hdj := hdv j hj
          rw [getElem!_get (by omega)] at hdj
          rw [List.getElem?_map, Array.getElem?_toList, Array.getElem?_eq_getElem (by omega), hdj, List.getElem?_range hj]
          rfl
        · rw [List.getElem?_eq_none (by simp; omega), List.getElem?_eq_none (by simp; omega)]
      rw [h3] at h2
      exact h2
    · intro i j p q hij hpi hqj
      have hs' : d'.size = m + 1 := by rw [hp.1, hds]
      rw [List.getElem?_map, Array.getElem?_toList] at hpi hqj
      have hjl : j < d'.size := by
        rcases Nat.lt_or_ge j d'.size with h | h
        · exact h
        · rw [Array.getElem?_eq_none h] at hqj; cases hqj
      have h := hs i j (Nat.zero_le _) hij (by omega)
      rw [getElem!_get hjl, getElem!_get (show i < d'.size by omega)] at h
      rw [Array.getElem?_eq_getElem (by omega)] at hpi hqj
      simp only [Option.map_some, Option.some.injEq] at hpi hqj
      subst hpi hqj
      replace h : ¬ cmpM (ls.getD d'[j].val okz).t (ls.getD d'[i].val okz).t < 0 := of_decide_eq_false h
      unfold cmpM at h
      rcases Nat.lt_or_ge (ls.getD d'[j].val okz).t (ls.getD d'[i].val okz).t with hlt | hge
      · rw [if_pos hlt] at h
        exact absurd (by decide) h
      · exact hge
    · rw [hw]
      have := sort_own w blk cap q (List.range ls.length) d' os (by rw [List.length_range, hp.1, hds, hm]) (by rw [List.length_range]; exact ho)
      rw [List.length_range, hm] at this
      exact this
    · rw [hw]; exact sort_fr finEnc w blk 0 q d' os
end Go.Proofs.YtlblgfpafdfilaaDoor
