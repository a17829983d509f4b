/-
  STAGE 12: byTxn, its walk.
-/
import Derived.Test.YtlblgfpafdfilaaDoorLQ
namespace Go.Proofs.YtlblgfpafdfilaaDoor
open Go.RowKit Go.Sort

/-- a row of noughts is made -/
theorem make_ints (w : World) (n : Nat) (hn : n ≤ 16384) : ∃ W, (Instr.makeSlice 61 (.int .i64 (n : Int)) (.int .i64 (n : Int))).run Tryd.prog w = .ok (.slice (some ⟨w.heap.size, 0, none⟩) n n) W ∧ OwR W 3 1 nf (.slice (some ⟨w.heap.size, 0, none⟩) n n) (List.replicate n 0) ∧ Below w.heap.size w W := by
  obtain ⟨i0, hi, hz0, hz1, hz2⟩ := info_parts K3.inf
  obtain ⟨W, h1, h2, h3⟩ := run_make_full (P := Tryd.prog) w 0 61 3 i0 (.int .i64 0) 1 K3.und hi hz0 hz1 .i64 .i64 n (by rw [hz2]; omega) (by simp only [maxLen]; omega) (Nat.zero_le _)
  refine ⟨W, h1, ?_, below_of_grown h3 (by simp) (Nat.le_refl _)⟩
  unfold OwR
  rw [List.length_replicate]
  have e : (List.replicate n 0).flatMap nf = (madeCells (Value.int .i64 0).cells (n * 1)).toList := by
    rw [Nat.mul_one, show (Value.int .i64 0).cells = #[.int .i64 0] from rfl, toList_madeCells_one]
    clear h1 h2 h3 hn
    induction n with
    | zero => rfl
    | succ n ih => rw [List.replicate_succ, List.flatMap_cons, ih, List.replicate_succ]; rfl
  rw [e]
  exact h2
/-- one number is laid into a row of numbers -/
theorem ints_set {w : World} {b c n : Nat} {l : List Nat} {k x : Nat} (h : OwR w 3 1 nf (.slice (some ⟨b, 0, none⟩) n c) l) (hl : l.length = n) (hk : k < n) (y : Nat) (hx : l[k]? = some x) :
    w.cell? ⟨b, k, none⟩ = some (.int .i64 (x : Int)) ∧ w.frozen? ⟨b, k, none⟩ = false ∧ OwR (w.setCell ⟨b, k, none⟩ (.int .i64 (y : Int))) 3 1 nf (.slice (some ⟨b, 0, none⟩) n c) (l.set k y) := by
  subst hl
  have e1 : k * 1 + 0 = k := by omega
  obtain ⟨b', c', e', _, hat⟩ := h.at_ nf_len hx
  injection e' with e2 _ _
  injection e2 with e2
  injection e2 with e2
  subst e2
  have h0 := hat 0 _ rfl
  have h2 := h.set_ nf_len (i := k) (j := 0) (x := x) (y := y) (u := .int .i64 (y : Int)) hx (by decide) rfl
  simp only [e1] at h0 h2
  exact ⟨h0, h.frozen k, h2⟩
theorem ints_at {w : World} {b c n : Nat} {l : List Nat} {k x : Nat} (h : OwR w 3 1 nf (.slice (some ⟨b, 0, none⟩) n c) l) (hx : l[k]? = some x) : w.cell? ⟨b, k, none⟩ = some (.int .i64 (x : Int)) := by
  have e1 : k * 1 + 0 = k := by omega
  obtain ⟨b', c', e', _, hat⟩ := h.at_ nf_len hx
  injection e' with e2 _ _
  injection e2 with e2
  injection e2 with e2
  subst e2
  have h0 := hat 0 _ rfl
  simp only [e1] at h0
  exact h0
set_option maxRecDepth 100000 in
set_option maxHeartbeats 1000000 in
theorem byTxn_any (g : Nat) (A : Option Addr) (c : Nat) (ls : List LK) (w : World) (hT : TR w g A c ls) :
    Calls Tryd.prog 32 #[.pointer (some ⟨g, 0, none⟩)] w fun e w' => ∃ pl, e = .returned (.slice (some ⟨w.heap.size + 1, 0, none⟩) ls.length ls.length) ∧ Rises ls pl ∧ OwR w' 3 1 nf (.slice (some ⟨w.heap.size + 1, 0, none⟩) ls.length ls.length) pl ∧ Below w.heap.size w w' := by
  obtain ⟨W, hW⟩ : ∃ W, W = w.alloc (.cells #[.pointer (some ⟨g, 0, none⟩)] 25) := ⟨_, rfl⟩
  have hb : Below w.heap.size w W := by rw [hW]; exact (Below.refl _ _).alloc (Nat.le_refl _) _
  have hk : Blk W w.heap.size 25 #[.pointer (some ⟨g, 0, none⟩)] := by rw [hW]; exact Blk.new _ _ _
  have hWs : W.heap.size = w.heap.size + 1 := by rw [hW]; simp
  obtain ⟨W1, hmk, hown, hbm⟩ := make_ints W ls.length hT.few
  rw [hWs] at hmk hown
  have c0 := (hT.blk.below hb hT.blk.lt).cell 0
  have k0 := hk.cell 0
  simp only [List.getElem?_toArray, List.getElem?_cons_zero] at c0 k0
  have HT := Lib.hid (hT.up (below_trans hb hbm))
  have HGL := Lib.hid hT.blk.lt
  have HAL := Lib.hid (show ∀ b, A = some ⟨b, 0, none⟩ → ls.length = 0 ∨ b < w.heap.size from fun b e => by
    rcases Nat.eq_zero_or_pos ls.length with h | h
    · exact Or.inl h
    · obtain ⟨b', e', hc⟩ := hT.row 0 _ (List.getElem?_eq_getElem h)
      rw [e] at e'
      injection e' with e'
      injection e' with e'
      exact Or.inr (by rw [e']; exact hc.lt))
  have HB := Lib.hid (below_trans hb hbm)
  have HK := Lib.hid (hk.below hbm hk.lt)
  have HF := Lib.hid hT.few
  have HO := Lib.hid hown
  obtain ⟨n, hn⟩ : ∃ n, n = ls.length := ⟨_, rfl⟩
  rw [← hn] at c0 hmk HO
  have HN := Lib.hid hn
  have HW := Lib.hid hWs
  clear hT hb hk hown hbm hn hWs
  go_enter Tryd.func32, Tryd.ntmps32
  go_upto_region 1 with fail
  rw [← hW]
  clear hW
  go_wp2_with fail
  obtain ⟨B, hB⟩ : ∃ B, B = w.heap.size + 1 := ⟨_, rfl⟩
  rw [← hB] at HO hmk ⊢
  have HBE := Lib.hid hB
  have HBZ := Lib.hid (show B < W1.heap.size from HO.out.lt rfl)
  clear hB hmk c0 k0
  go_loopw [13] (fun i wr => ∃ k : Nat, k ≤ n ∧ i = .int .i64 (k : Int) ∧ OwR wr 3 1 nf (.slice (some ⟨B, 0, none⟩) n n) (fillM n k) ∧ Fr W1 wr fun b => b = B) (fun i _ => n - (intOf i).toNat)
  case atStart => exact ⟨0, by omega, rfl, HO.out, Fr.refl _ _⟩
  case round =>
    obtain ⟨k, hk, rfl, ho, hf⟩ := hrel
    have HO2 := Lib.hid ho
    have HF2 := Lib.hid hf
    by_cases hlt : k < n
    · obtain ⟨h1, h2, h3⟩ := ints_set ho (fillM_len hk) hlt k (fillM_at hlt)
      rw [fillM_set hlt] at h3
      have HO3 := Lib.hid h3
      have HF3 := Lib.hid (show Fr W1 (wr.setCell ⟨B, k, none⟩ (.int .i64 (k : Int))) fun b => b = B from hf.setCell (p := ⟨B, k, none⟩) (Or.inl rfl) _)
      have hin : ((k : Int) < (n : Int)) := by omega
      have e1 : IntKind.i64.wrap ((k : Int) + 1) = ((k + 1 : Nat) : Int) := by rw [IntWalk.i64_in _ (by have := HF.out; have := HN.out; omega)]; omega
      clear ho hf h3
      go_wp2_with fail
      go_roundw
      case rel => exact ⟨k + 1, by omega, by go_num, HO3.out, HF3.out⟩
      case measure => simp [intOf]; omega
    · obtain rfl : k = n := by omega
      have hin : ¬ ((k : Int) < (k : Int)) := by omega
      have hr : fillM k k = List.range ls.length := by rw [fillM, Nat.sub_self, ← HN.out]; simp
      have HS := Lib.hid (sortP_any g w.heap.size A c ls wr (by
          refine ⟨HT.out.blk.keep hf fun e => ?_, fun i l hi => ?_, HT.out.ok, HT.out.few, HT.out.le⟩
          · have := HGL.out; have := HBE.out; omega
          · obtain ⟨b, e, hc⟩ := HT.out.row i l hi
            refine ⟨b, e, hc.block (hf.block b hc.lt fun e' => ?_)⟩
            have hi' := (List.getElem?_eq_some_iff.1 hi).1
            have := HAL.out b e; have := HBE.out; omega)
        (by
          have := (HK.out.keep hf fun e => by have := HBE.out; omega).cell 0
          simpa using this) B k (by rw [← HN.out, HN.out, ← hr, ← HN.out]; exact ho) (by have := HGL.out; have := HBE.out; omega) (fun b e => by
            rcases HAL.out b e with h | h
            · exact Or.inl h
            · exact Or.inr (by have := HBE.out; omega)) (by have := HBE.out; omega))
      rw [← HN.out] at HS
      clear ho hf hr
      go_wp2_with (go_at_call 54; with_reducible refine HS.out.mono ?_; rintro e w5 ⟨rfl, pl, hpl, ho5, hf5⟩; have HPL := Lib.hid hpl; have HO5 := Lib.hid ho5; have HF5 := Lib.hid hf5; clear hpl ho5 hf5)
      go_ret
      rw [← HBE.out, ← HN.out]
      refine ⟨pl, rfl, HPL.out, HO5.out, ?_⟩
      have h1 := HBE.out
      have h2 := HB.out.size
      exact HB.out.trans ((HF2.out.below (fun b e => by omega) h2).trans (HF5.out.below (fun b e => by omega) (Nat.le_trans h2 HF2.out.size)))
end Go.Proofs.YtlblgfpafdfilaaDoor
