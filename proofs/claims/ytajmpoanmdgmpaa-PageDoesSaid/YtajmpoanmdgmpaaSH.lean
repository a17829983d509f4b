/-
  THE WALK OF slices.Insert OF ONE CELL, NOT AT THE END.
-/
import Derived.Test.YtajmpoanmdgmpaaSG
import Derived.Lib.AppendZeros
import Derived.Lib.AppendZerosOnto
import Derived.Lib.Overlaps
import Derived.Laws.Externs
import Derived.Laws.NewBlocks
namespace Go.Proofs.Ytajmpoanmdgmpaa
open Go.RowKit

def InsO (w : World) (S T : Nat → Prop) (g n i : Nat) (l : List CV) (x : CV) (e : Ending) (w' : World) : Prop :=
  ∃ v, e = .returned v ∧ OwC w' (fun b => S b ∨ w.heap.size ≤ b) (fun b => T b ∧ b < w.heap.size) v (n + 1) (l.take i ++ x :: l.drop i) ∧ Fr w w' (fun b => b = g)
theorem ccs_mid (l : List CV) (i : Nat) (x : CV) : ccs (l.take i ++ x :: l.drop i) = (ccs l).take (i * 3) ++ [.bool x.u, .int .u32 (x.k : Int), .slice x.A x.m x.c] ++ (ccs l).drop (i * 3) := by
  rw [ccs_append, ccs_take, List.append_assoc, ← ccs_drop]
  rfl
theorem add_lit3 (g o q : Nat) : (⟨g, o, none⟩ : Addr).add q = ⟨g, o + q, none⟩ := by unfold Addr.add; split <;> simp_all
theorem blk_src {w : World} {qb : Nat} {x : CV} (hv : Blk w qb 58 #[.bool x.u, .int .u32 (x.k : Int), .slice x.A x.m x.c]) : ∀ (q : Nat) v, ([.bool x.u, .int .u32 (x.k : Int), .slice x.A x.m x.c] : List Value)[q]? = some v → w.cell? ((⟨qb, 0, none⟩ : Addr).add q) = some v := by
  intro q v hq
  rw [add_lit3, Nat.zero_add, hv.cell]
  simpa using hq
theorem row_src {w : World} {g n c i : Nat} {cs : List Value} (hr : RowC w g n c cs) (_ : i ≤ n) : ∀ (q : Nat) v, (cs.drop (i * 3))[q]? = some v → w.cell? ((⟨g, i * 3, none⟩ : Addr).add q) = some v := by
  intro q v hq
  rw [add_lit3]
  have hl := hr.len
  have hql : q < (cs.drop (i * 3)).length := by
    rcases Nat.lt_or_ge q (cs.drop (i * 3)).length with h | h
    · exact h
    · rw [List.getElem?_eq_none h] at hq; cases hq
  rw [List.length_drop] at hql
  rw [List.getElem?_drop] at hq
  rw [hr.cell (by omega), hq]
set_option maxHeartbeats 4000000 in
set_option maxRecDepth 100000 in
theorem insert_room (w : World) (S T : Nat → Prop) (g n c : Nat) (l : List CV) (ho : OwC w S T (.slice (some ⟨g, 0, none⟩) n c) n l) (hn : n ≤ 1000) (i : Nat) (hi : i < n) (hroom : n + 1 ≤ c) (qb : Nat) (x : CV) (hv : Blk w qb 58 #[.bool x.u, .int .u32 (x.k : Int), .slice x.A x.m x.c]) (hne : qb ≠ g) (hx : x.In w T) :
    Calls Try.prog 100 #[.slice (some ⟨g, 0, none⟩) n c, .int .i64 (i : Int), .slice (some ⟨qb, 0, none⟩) 1 1] w (InsO w S T g n i l x) := by
  have hln := ho.len
  obtain ⟨gq, cq, eq, hrow, hSg, hTg⟩ := ho.row (by omega)
  injection eq with eq1 _ eq3
  injection eq1 with eq1
  injection eq1 with eq1
  subst eq1 eq3
  have hrw := hrow
  obtain ⟨cur, hg, hnc, hmx, hcs, htk⟩ := hrow
  obtain ⟨q, hq⟩ : ∃ q, q = n + 1 := ⟨_, rfl⟩
  obtain ⟨j, hj⟩ : ∃ j, j = i + 1 := ⟨_, rfl⟩
  have hclen : (ccs l).length = n * 3 := by rw [ccs_len, hln]
  have hm63 : c ≤ 9223372036854775807 := by simpa [maxLen] using hmx
  have hdl : ((ccs l).drop (i * 3)).length = (n - i) * 3 := by rw [List.length_drop, hclen]; omega
  obtain ⟨N1, hN1⟩ : ∃ N1 : Array Value, N1 = (cur.toList.take (j * 3) ++ (ccs l).drop (i * 3) ++ cur.toList.drop (j * 3 + ((ccs l).drop (i * 3)).length)).toArray := ⟨_, rfl⟩
  have hN1s : N1.size = c * 3 := by rw [hN1]; simp; omega
  have hone : ∀ v ∈ (ccs l).drop (i * 3), v.oneCell' = true := fun v hv => ccs_one l v (List.mem_of_mem_drop hv)
  have hcp1 : ∀ ty dc sc, (Builtin.copy_ #[24, 24] ty #[.slice (some ⟨g, j * 3, none⟩) (q - j) dc, .slice (some ⟨g, i * 3, none⟩) (q - i) sc]).run Try.prog w.drew = .ok (goInt (n - i : Nat)) (w.drew.setRow g N1) := fun ty dc sc => by
    rw [hN1]
    exact run_copy3 w.drew ty g (j * 3) (q - j) dc ⟨g, i * 3, none⟩ (q - i) sc (n - i) cur _ hg (by rw [min_nat]; omega) hdl (row_src (w := w.drew) hrw (by omega)) (by omega) hone
  obtain ⟨W1, hW1⟩ : ∃ W1, W1 = w.drew.setRow g N1 := ⟨_, rfl⟩
  have hg1 : W1.heap[g]? = some (.cells N1 58 (0, 0)) := by rw [hW1]; exact setRow_heap w.drew g cur N1 58 (0, 0) hg
  have hv1 : Blk W1 qb 58 #[.bool x.u, .int .u32 (x.k : Int), .slice x.A x.m x.c] := by
    rw [hW1]
    exact (setRow_other w.drew g qb _ hne).trans hv
  obtain ⟨N2, hN2⟩ : ∃ N2 : Array Value, N2 = (N1.toList.take (i * 3) ++ ([.bool x.u, .int .u32 (x.k : Int), .slice x.A x.m x.c] : List Value) ++ N1.toList.drop (i * 3 + 3)).toArray := ⟨_, rfl⟩
  have hcp2 : ∀ ty dc, (Builtin.copy_ #[24, 24] ty #[.slice (some ⟨g, i * 3, none⟩) (q - i) dc, .slice (some ⟨qb, 0, none⟩) 1 1]).run Try.prog W1 = .ok (goInt 1) (W1.setRow g N2) := fun ty dc => by
    rw [hN2]
    exact run_copy3 W1 ty g (i * 3) (q - i) dc ⟨qb, 0, none⟩ 1 1 1 N1 [.bool x.u, .int .u32 (x.k : Int), .slice x.A x.m x.c] hg1 (by rw [min_nat]; omega) rfl (blk_src hv1) (by simp; omega) (by intro v hv; simp at hv; rcases hv with rfl | rfl | rfl <;> rfl)
  rw [← hW1] at hcp1
  have hN2s : N2.size = c * 3 := by rw [hN2]; simp; omega
  have hN2t : N2.toList.take (q * 3) = ccs (l.take i ++ x :: l.drop i) := by
    have e1 : N1.toList.take (i * 3) = (ccs l).take (i * 3) := by
      rw [hN1]
      simp only [List.append_assoc]
      rw [List.take_append_of_le_length (by rw [List.length_take, Array.length_toList]; omega), List.take_take, ← htk, List.take_take]
      congr 1
      omega
    have e2 : (N1.toList.drop (i * 3 + 3)).take (q * 3 - (i * 3 + 3)) = (ccs l).drop (i * 3) := by
      rw [hN1]
      simp only [List.append_assoc]
      rw [List.drop_left' (by rw [List.length_take, Array.length_toList]; omega), List.take_left' (by rw [hdl]; omega)]
    rw [ccs_mid, hN2]
    simp only
    rw [List.take_append, List.take_of_length_le (by simp; omega), e1]
    congr 1
    rw [← e2]
    congr 1
    simp
    omega
  have hf2 : Fr w (W1.setRow g N2) (fun b => b = g) := by
    rw [hW1]
    exact ((Fr.refl w _).drew.trans (fr_row _ _ _) fun b hb => Or.inl hb).trans (fr_row _ _ _) fun b hb => Or.inl hb
  have hfin : OwC (W1.setRow g N2) (fun b => S b ∨ w.heap.size ≤ b) (fun b => T b ∧ b < w.heap.size) (.slice (some ⟨g, 0, none⟩) q c) q (l.take i ++ x :: l.drop i) := by
    have hr := RowC.made (n := q) (cap := c) (new := N2) hg1 (by omega) hmx hN2s
    rw [hN2t] at hr
    refine hr.ow (fun y hy => ?_) (Or.inl hSg) fun h => hTg h.1
    have hyi : y.In w T := by
      rcases List.mem_append.1 hy with hy | hy
      · exact ho.2.1 y (List.mem_of_mem_take hy)
      · rcases List.mem_cons.1 hy with rfl | hy
        · exact hx
        · exact ho.2.1 y (List.mem_of_mem_drop hy)
    exact (hyi.mono (T' := fun b => T b ∧ b < w.heap.size) fun b hlt hb => ⟨hb, hlt⟩).keep hf2 fun b hb e => hTg (e ▸ hb.1)
  have hcs0 : cur.size ≠ 0 := by omega
  have hov : ∀ lb cb, (callFunc 108 #[.slice (some ⟨qb, 0, none⟩) 1 1, .slice (some ⟨g, j * 3, none⟩) lb cb]).run Try.prog w = .ok (.value (.bool false)) w := fun lb cb => by
    have hs1 : w.shape? qb = some (58, 3) := by unfold Blk at hv; simp [World.shape?, hv]
    have hs2 : w.shape? g = some (58, cur.size) := by simp [World.shape?, hg]
    rw [run_callFunc_extern Try.func108 (by kernel_rfl) (by kernel_rfl) (by kernel_rfl) (e := Extern.SlicesOverlaps.overlaps #[24, 24] #[4]) (by kernel_rfl),
      Lib.run_overlaps_apart w 24 4 58 Try.underlying24 3 (fun w => by obtain ⟨i0, hi, hz0, hz1, hz2⟩ := info_parts info58; simp [sizeOf, typeInfo, hi, hz1]) ⟨qb, 0, none⟩ ⟨g, j * 3, none⟩ 1 1 lb cb hne 58 58 3 cur.size hs1 hs2 hcs0 (hv.frozen 0) (hv.frozen 3)]
    rfl
  have HFIN := Lib.hid hfin
  have HF2 := Lib.hid hf2
  have HCP1 := Lib.hid hcp1
  have HCP2 := Lib.hid hcp2
  have HQ := Lib.hid (show q = n + 1 from hq)
  have d1 : decide ((q : Int) > (c : Int)) = false := decide_eq_false (by omega)
  have d2 : decide (c < q) = false := decide_eq_false (by omega)
  have b3 : (q : Int) ≤ (c : Int) := by omega
  have b5 : q ≤ c := by omega
  have b8 : (j : Int) ≤ (q : Int) := by omega
  have b9 : j ≤ q := by omega
  have b10 : (i : Int) ≤ (q : Int) := by omega
  have b11 : i ≤ q := by omega
  have hcj : ¬ (c = j) := by omega
  have b1 : (i : Int) ≤ (n : Int) := by omega
  have b2 : (n : Int) ≤ (c : Int) := by omega
  have b4 : i ≤ n := by omega
  have b6 : i ≤ c := by omega
  have b7 : (i : Int) ≤ (c : Int) := by omega
  have ne1 : ((i : Int) == (n : Int)) = false := beq_false_of_ne (by omega)
  have wi : IntKind.i64.wrap (i : Int) = (i : Int) := IntWalk.i64_in _ (by omega)
  have wn1 : IntKind.i64.wrap ((n : Int) + 1) = (q : Int) := by rw [IntWalk.i64_in _ (by omega)]; omega
  have wi1 : IntKind.i64.wrap ((i : Int) + 1) = (j : Int) := by rw [IntWalk.i64_in _ (by omega)]; omega
  have wj : IntKind.i64.wrap (j : Int) = (j : Int) := IntWalk.i64_in _ (by omega)
  have wq : IntKind.i64.wrap (q : Int) = (q : Int) := IntWalk.i64_in _ (by omega)
  have hci : ¬ (c = i) := by omega
  clear ho hg hcs htk hclen hdl hN1 hN1s hone hW1 hg1 hv1 hN2 hN2s hN2t hf2 hfin hrw hv hx hmx hSg hTg hln hm63 hcs0 hcp1 hcp2 hq hj hroom hi hnc
  go_enter Try.func100, Try.ntmps100
  go_upto_region 15 with (simp only [hov])
  refine wp_region_held_drew (S := fun _ => True) (by kernel_rfl) trivial (fun hS => ?_)
  refine wpAnyH_take (i := 0) (v := ?_) rfl (by kernel_rfl) (by kernel_rfl) (by kernel_rfl) (fun _ _ _ h => h) (Or.inl ⟨by rfl, ?_⟩) hS ?_
  rotate_left
  · (intro wq hSw; go_simp; try with_reducible rfl)
  refine wpAnyH_take (i := 1) (v := ?_) rfl (by kernel_rfl) (by kernel_rfl) (by kernel_rfl) (fun _ _ _ h => h) (Or.inl ⟨by rfl, ?_⟩) hS ?_
  rotate_left
  · (intro wq hSw; go_simp; try with_reducible rfl)
  simp only [List.getElem_toArray, List.getElem_cons_succ, List.getElem_cons_zero, Act.put, List.setIfInBounds_toArray, List.set_cons_succ, List.set_cons_zero]
  refine wpAnyH_take (i := 2) (v := ?_) rfl (by kernel_rfl) (by kernel_rfl) (by kernel_rfl) (fun _ _ _ h => h) (Or.inl ⟨by rfl, ?_⟩) hS ?_
  rotate_left
  · (intro wq hSw; go_simp; try with_reducible rfl)
  simp only [List.getElem_toArray, List.getElem_cons_succ, List.getElem_cons_zero, Act.put, List.setIfInBounds_toArray, List.set_cons_succ, List.set_cons_zero]
  refine wpAnyH_take (i := 3) (v := ?_) rfl (by kernel_rfl) (by kernel_rfl) (by kernel_rfl) (fun _ _ _ h => h) (Or.inl ⟨by rfl, ?_⟩) hS ?_
  rotate_left
  · (intro wq hSw; go_simp; try with_reducible rfl)
  simp only [List.getElem_toArray, List.getElem_cons_succ, List.getElem_cons_zero, Act.put, List.setIfInBounds_toArray, List.set_cons_succ, List.set_cons_zero]
  refine wpAnyH_take (i := 4) (v := ?_) rfl (by kernel_rfl) (by kernel_rfl) (by kernel_rfl) (fun _ _ _ h => h) (Or.inl ⟨by rfl, ?_⟩) hS ?_
  rotate_left
  · (intro wq hSw; go_simp; try with_reducible rfl)
  simp only [List.getElem_toArray, List.getElem_cons_succ, List.getElem_cons_zero, Act.put, List.setIfInBounds_toArray, List.set_cons_succ, List.set_cons_zero]
  refine wpAnyH_take (i := 5) (v := ?_) rfl (by kernel_rfl) (by kernel_rfl) (by kernel_rfl) (fun _ _ _ h => h) (Or.inl ⟨by rfl, ?_⟩) hS ?_
  rotate_left
  · (intro wq hSw; go_simp; try with_reducible rfl)
  simp only [List.getElem_toArray, List.getElem_cons_succ, List.getElem_cons_zero, Act.put, List.setIfInBounds_toArray, List.set_cons_succ, List.set_cons_zero]
  refine wpAnyH_take (i := 6) (v := ?_) rfl (by kernel_rfl) (by kernel_rfl) (by kernel_rfl) (fun _ _ _ h => h) (Or.inl ⟨by rfl, ?_⟩) hS ?_
  rotate_left
  · (intro wq hSw; go_simp; try with_reducible rfl)
  simp only [List.getElem_toArray, List.getElem_cons_succ, List.getElem_cons_zero, Act.put, List.setIfInBounds_toArray, List.set_cons_succ, List.set_cons_zero]
  refine wpAnyH_take (i := 7) (v := ?_) rfl (by kernel_rfl) (by kernel_rfl) (by kernel_rfl) (fun _ _ _ h => h) (Or.inl ⟨by rfl, ?_⟩) hS ?_
  rotate_left
  · (intro wq hSw; go_simp; try with_reducible rfl)
  simp only [List.getElem_toArray, List.getElem_cons_succ, List.getElem_cons_zero, Act.put, List.setIfInBounds_toArray, List.set_cons_succ, List.set_cons_zero]
  refine wpAnyH_ready (rs := [8]) (by kernel_rfl) (by simp) ?_
  refine AllReadyH.cons rfl (fun K hK => ?_) AllReadyH.nil
  refine step_copy_at rfl (.tmp 73) (.tmp 76) rfl _ _ (by rfl) (by rfl) (HCP1.out _ _ _) ?_
  refine hK.out _ _ trivial (fun hS => ?_)
  clear hK K
  refine wpAnyH_done (by kernel_rfl) ?_ _
  clear hS
  have hcp2 := HCP2.out
  go_wp2_with fail
  go_ret
  refine ⟨_, rfl, ?_, HF2.out⟩
  rw [← HQ.out]
  exact HFIN.out
theorem zcells_size (n : Nat) : (Builtin.zeroCells (Value.cells (.agg #[.bool false, .int .u32 0, .slice none 0 0])) n).size = n * 3 := by
  simp [Builtin.zeroCells, Value.cells]
set_option maxHeartbeats 4000000 in
set_option maxRecDepth 100000 in
theorem insert_grow (w : World) (S T : Nat → Prop) (g n c : Nat) (l : List CV) (ho : OwC w S T (.slice (some ⟨g, 0, none⟩) n c) n l) (hn : n ≤ 1000) (i : Nat) (hi : i < n) (hroom : c < n + 1) (qb : Nat) (x : CV) (hv : Blk w qb 58 #[.bool x.u, .int .u32 (x.k : Int), .slice x.A x.m x.c]) (hx : x.In w T) :
    Calls Try.prog 100 #[.slice (some ⟨g, 0, none⟩) n c, .int .i64 (i : Int), .slice (some ⟨qb, 0, none⟩) 1 1] w (InsO w S T g n i l x) := by
  have hln := ho.len
  obtain ⟨gq, cq, eq, hrow, hSg, hTg⟩ := ho.row (by omega)
  injection eq with eq1 _ eq3
  injection eq1 with eq1
  injection eq1 with eq1
  subst eq1 eq3
  have hrw := hrow
  have hgl := hrow.lt
  have hql := hv.lt
  obtain ⟨cur, hg, hnc, hmx, hcs, htk⟩ := hrow
  obtain ⟨q, hq⟩ : ∃ q, q = n + 1 := ⟨_, rfl⟩
  obtain ⟨j, hj⟩ : ∃ j, j = i + 1 := ⟨_, rfl⟩
  obtain ⟨z, hz⟩ : ∃ z, z = q - i := ⟨_, rfl⟩
  have hclen : (ccs l).length = n * 3 := by rw [ccs_len, hln]
  have hm63 : c ≤ 9223372036854775807 := by simpa [maxLen] using hmx
  have hdl : ((ccs l).drop (i * 3)).length = (n - i) * 3 := by rw [List.length_drop, hclen]; omega
  have hone : ∀ v ∈ (ccs l).drop (i * 3), v.oneCell' = true := fun v hv => ccs_one l v (List.mem_of_mem_drop hv)
  obtain ⟨i0, hi0, hz0, hz1, hz2⟩ := info_parts info58
  have hold : (Builtin.firstCells i0.size i (.slice (some ⟨g, 0, none⟩) i c)).run Try.prog w.drew = .ok ((ccs l).take (i * 3)).toArray w.drew := by
    have h := run_loadCells_list (P := Try.prog) w.drew ⟨g, 0, none⟩ ((ccs l).take (i * 3)) (fun q v hq => by
      rw [add_lit3, Nat.zero_add]
      have hql : q < ((ccs l).take (i * 3)).length := by
        rcases Nat.lt_or_ge q ((ccs l).take (i * 3)).length with h | h
        · exact h
        · rw [List.getElem?_eq_none h] at hq; cases hq
      rw [List.length_take] at hql
      rw [List.getElem?_take_of_lt (by omega)] at hq
      have h1 : w.cell? ⟨g, q, none⟩ = some v := by rw [hrw.cell (by omega), hq]
      exact h1)
    have hlen : ((ccs l).take (i * 3)).length = i * 3 := by rw [List.length_take]; omega
    rw [hlen] at h
    rw [hz1]
    exact h
  obtain ⟨G, hG⟩ : ∃ G, G = grownCap w q c 58 := ⟨_, rfl⟩
  obtain ⟨N0, hN0⟩ : ∃ N0 : Array Value, N0 = ((ccs l).take (i * 3)).toArray ++ Builtin.zeroCells (Value.cells (.agg #[.bool false, .int .u32 0, .slice none 0 0])) z ++ Builtin.zeroCells (Value.cells (.agg #[.bool false, .int .u32 0, .slice none 0 0])) (G - q) := ⟨_, rfl⟩
  obtain ⟨W0, hW0⟩ : ∃ W0, W0 = w.drew.alloc (.cells N0 58) := ⟨_, rfl⟩
  have hGq : q ≤ G := by rw [hG]; exact grownCap_ge w _ _ _
  have hGm : G ≤ maxLen := by rw [hG]; exact grownCap_le_maxLen w q c 58 (by unfold maxLen; omega)
  have hG63 : G ≤ 9223372036854775807 := by simpa [maxLen] using hGm
  have hN0s : N0.size = G * 3 := by rw [hN0]; simp only [Array.size_append, zcells_size, List.size_toArray, List.length_take, hclen]; omega
  have hra : ∀ ty, (Builtin.append_ #[24, 3] ty #[.slice (some ⟨g, 0, none⟩) i c, .int .i64 (z : Int)]).run Try.prog w = .ok (.slice (some ⟨w.heap.size, 0, none⟩) q G) W0 := fun ty => by
    have hiz : i + z = q := by omega
    have h := Lib.run_append_grow_zeros w 24 3 ty 58 i0 _ .i64 .i64 Try.underlying24 Try.underlying3 hi0 hz0 (some ⟨g, 0, none⟩) i c _ hold z (by omega) (by rw [hz1]; omega) (by omega) (by omega) (by rw [hz2]; omega) (by rw [hz2, hiz]; exact growslice_fits (by omega) (by omega))
    rw [hiz, ← hG] at h
    rw [hW0, hN0]
    exact h
  have hg0 : W0.heap[w.heap.size]? = some (.cells N0 58 (0, 0)) := by rw [hW0]; exact heap_alloc_new w.drew _
  have hf0 : Fr w W0 No := by rw [hW0]; exact (Fr.refl w No).drew.alloc _
  obtain ⟨N1, hN1⟩ : ∃ N1 : Array Value, N1 = (N0.toList.take (i * 3) ++ ([.bool x.u, .int .u32 (x.k : Int), .slice x.A x.m x.c] : List Value) ++ N0.toList.drop (i * 3 + 3)).toArray := ⟨_, rfl⟩
  have hv0 : Blk W0 qb 58 #[.bool x.u, .int .u32 (x.k : Int), .slice x.A x.m x.c] := hv.keep hf0 fun h => h
  have hcp1 : ∀ ty dc, (Builtin.copy_ #[24, 24] ty #[.slice (some ⟨w.heap.size, i * 3, none⟩) (q - i) dc, .slice (some ⟨qb, 0, none⟩) 1 1]).run Try.prog W0 = .ok (goInt 1) (W0.setRow w.heap.size N1) := fun ty dc => by
    rw [hN1]
    exact run_copy3 W0 ty w.heap.size (i * 3) (q - i) dc ⟨qb, 0, none⟩ 1 1 1 N0 [.bool x.u, .int .u32 (x.k : Int), .slice x.A x.m x.c] hg0 (by rw [min_nat]; omega) rfl (blk_src hv0) (by simp; omega) (by intro v hv; simp at hv; rcases hv with rfl | rfl | rfl <;> rfl)
  obtain ⟨W1, hW1⟩ : ∃ W1, W1 = W0.setRow w.heap.size N1 := ⟨_, rfl⟩
  have hN1s : N1.size = G * 3 := by rw [hN1]; simp; omega
  have hg1 : W1.heap[w.heap.size]? = some (.cells N1 58 (0, 0)) := by rw [hW1]; exact setRow_heap W0 w.heap.size N0 N1 58 (0, 0) hg0
  have hf1 : Fr w W1 No := by
    rw [hW1]
    have h := hf0.trans (fr_row W0 w.heap.size N1) (T := fun b => b = w.heap.size) fun b hb => Or.inr (by omega)
    exact h
  have hrw1 : RowC W1.drew g n c (ccs l) := hrw.keep (hf1.block g hgl fun h => h)
  obtain ⟨N2, hN2⟩ : ∃ N2 : Array Value, N2 = (N1.toList.take (j * 3) ++ (ccs l).drop (i * 3) ++ N1.toList.drop (j * 3 + ((ccs l).drop (i * 3)).length)).toArray := ⟨_, rfl⟩
  have hcp2 : ∀ ty dc sc, (Builtin.copy_ #[24, 24] ty #[.slice (some ⟨w.heap.size, j * 3, none⟩) (q - j) dc, .slice (some ⟨g, i * 3, none⟩) (n - i) sc]).run Try.prog W1.drew = .ok (goInt (n - i : Nat)) (W1.drew.setRow w.heap.size N2) := fun ty dc sc => by
    rw [hN2]
    exact run_copy3 W1.drew ty w.heap.size (j * 3) (q - j) dc ⟨g, i * 3, none⟩ (n - i) sc (n - i) N1 _ hg1 (by rw [min_nat]; omega) hdl (row_src hrw1 (by omega)) (by omega) hone
  have hN2s : N2.size = G * 3 := by rw [hN2]; simp; omega
  have hN2t : N2.toList.take (q * 3) = ccs (l.take i ++ x :: l.drop i) := by
    have e0 : N0.toList.take (i * 3) = (ccs l).take (i * 3) := by
      rw [hN0]
      simp only [Array.toList_append, List.append_assoc]
      rw [List.take_left' (by rw [List.length_take]; omega)]
    have e1 : N1.toList.take (j * 3) = (ccs l).take (i * 3) ++ ([.bool x.u, .int .u32 (x.k : Int), .slice x.A x.m x.c] : List Value) := by
      rw [hN1]
      simp only
      rw [List.take_left' (by simp; omega), e0]
    rw [ccs_mid, hN2]
    simp only
    rw [List.take_left' (by rw [List.length_append, List.length_take, Array.length_toList, hdl]; omega), e1]
  have hf2 : Fr w (W1.drew.setRow w.heap.size N2) No := hf1.drew.trans (fr_row W1.drew w.heap.size N2) fun b hb => Or.inr (by omega)
  have hfin : OwC (W1.drew.setRow w.heap.size N2) (fun b => S b ∨ w.heap.size ≤ b) (fun b => T b ∧ b < w.heap.size) (.slice (some ⟨w.heap.size, 0, none⟩) q G) q (l.take i ++ x :: l.drop i) := by
    have hr := RowC.made (w := W1.drew) (n := q) (cap := G) (new := N2) hg1 hGq hGm hN2s
    rw [hN2t] at hr
    refine hr.ow (fun y hy => ?_) (Or.inr (Nat.le_refl _)) fun h => by omega
    have hyi : y.In w T := by
      rcases List.mem_append.1 hy with hy | hy
      · exact ho.2.1 y (List.mem_of_mem_take hy)
      · rcases List.mem_cons.1 hy with rfl | hy
        · exact hx
        · exact ho.2.1 y (List.mem_of_mem_drop hy)
    exact (hyi.mono (T' := fun b => T b ∧ b < w.heap.size) fun b hlt hb => ⟨hb, hlt⟩).keep hf2 fun _ _ hn => hn
  rw [← hW1] at hcp1
  have HFIN := Lib.hid hfin
  have HF2 := Lib.hid hf2
  have HRA := Lib.hid hra
  have HCP1 := Lib.hid hcp1
  have HCP2 := Lib.hid hcp2
  have HQ := Lib.hid (show q = n + 1 from hq)
  have d1 : decide ((q : Int) > (c : Int)) = true := decide_eq_true (by omega)
  have d2 : decide (c < q) = true := decide_eq_true (by omega)
  have wz : IntKind.i64.wrap ((q : Int) - (i : Int)) = (z : Int) := by rw [IntWalk.i64_in _ (by omega)]; omega
  have b8 : (j : Int) ≤ (q : Int) := by omega
  have b9 : j ≤ q := by omega
  have b10 : (i : Int) ≤ (q : Int) := by omega
  have b11 : i ≤ q := by omega
  have b12 : q ≤ G := hGq
  have b13 : (q : Int) ≤ (G : Int) := by omega
  have hGi : ¬ (G = i) := by omega
  have hGj : ¬ (G = j) := by omega
  have b1 : (i : Int) ≤ (n : Int) := by omega
  have b2 : (n : Int) ≤ (c : Int) := by omega
  have b4 : i ≤ n := by omega
  have b6 : i ≤ c := by omega
  have b7 : (i : Int) ≤ (c : Int) := by omega
  have ne1 : ((i : Int) == (n : Int)) = false := beq_false_of_ne (by omega)
  have wi : IntKind.i64.wrap (i : Int) = (i : Int) := IntWalk.i64_in _ (by omega)
  have wn1 : IntKind.i64.wrap ((n : Int) + 1) = (q : Int) := by rw [IntWalk.i64_in _ (by omega)]; omega
  have wi1 : IntKind.i64.wrap ((i : Int) + 1) = (j : Int) := by rw [IntWalk.i64_in _ (by omega)]; omega
  have wj : IntKind.i64.wrap (j : Int) = (j : Int) := IntWalk.i64_in _ (by omega)
  have wq : IntKind.i64.wrap (q : Int) = (q : Int) := IntWalk.i64_in _ (by omega)
  have hci : ¬ (c = i) := by omega
  clear ho hg hcs htk hclen hdl hN1 hN1s hone hW1 hg1 hv0 hN2 hN2s hN2t hf2 hfin hrw hrw1 hv hx hmx hSg hTg hln hm63 hcp1 hcp2 hra hq hj hz hroom hi hnc hi0 hz0 hz1 hz2 hold hN0 hN0s hW0 hg0 hf0 hf1 hG hGq hGm hG63 hgl hql
  go_enter Try.func100, Try.ntmps100
  go_upto_region 11 with (first | (at_builtin; refine Lib.wpList_append_run _ rfl _ _ _ _ rfl _ _ rfl rfl _ _ (HRA.out _) ?_) | (rw [HCP1.out]; simp only [Result.andThen_ok, Oper.upon]))
  refine wp_region_held_drew (S := fun _ => True) (by kernel_rfl) trivial (fun hS => ?_)
  refine wpAnyH_take (i := 0) (v := ?_) rfl (by kernel_rfl) (by kernel_rfl) (by kernel_rfl) (fun _ _ _ h => h) (Or.inl ⟨by rfl, ?_⟩) hS ?_
  rotate_left
  · (intro wq hSw; go_simp; try with_reducible rfl)
  refine wpAnyH_take (i := 1) (v := ?_) rfl (by kernel_rfl) (by kernel_rfl) (by kernel_rfl) (fun _ _ _ h => h) (Or.inl ⟨by rfl, ?_⟩) hS ?_
  rotate_left
  · (intro wq hSw; go_simp; try with_reducible rfl)
  simp only [List.getElem_toArray, List.getElem_cons_succ, List.getElem_cons_zero, Act.put, List.setIfInBounds_toArray, List.set_cons_succ, List.set_cons_zero]
  refine wpAnyH_take (i := 2) (v := ?_) rfl (by kernel_rfl) (by kernel_rfl) (by kernel_rfl) (fun _ _ _ h => h) (Or.inl ⟨by rfl, ?_⟩) hS ?_
  rotate_left
  · (intro wq hSw; go_simp; try with_reducible rfl)
  simp only [List.getElem_toArray, List.getElem_cons_succ, List.getElem_cons_zero, Act.put, List.setIfInBounds_toArray, List.set_cons_succ, List.set_cons_zero]
  refine wpAnyH_take (i := 3) (v := ?_) rfl (by kernel_rfl) (by kernel_rfl) (by kernel_rfl) (fun _ _ _ h => h) (Or.inl ⟨by rfl, ?_⟩) hS ?_
  rotate_left
  · (intro wq hSw; go_simp; try with_reducible rfl)
  simp only [List.getElem_toArray, List.getElem_cons_succ, List.getElem_cons_zero, Act.put, List.setIfInBounds_toArray, List.set_cons_succ, List.set_cons_zero]
  refine wpAnyH_take (i := 4) (v := ?_) rfl (by kernel_rfl) (by kernel_rfl) (by kernel_rfl) (fun _ _ _ h => h) (Or.inl ⟨by rfl, ?_⟩) hS ?_
  rotate_left
  · (intro wq hSw; go_simp; try with_reducible rfl)
  simp only [List.getElem_toArray, List.getElem_cons_succ, List.getElem_cons_zero, Act.put, List.setIfInBounds_toArray, List.set_cons_succ, List.set_cons_zero]
  refine wpAnyH_take (i := 5) (v := ?_) rfl (by kernel_rfl) (by kernel_rfl) (by kernel_rfl) (fun _ _ _ h => h) (Or.inl ⟨by rfl, ?_⟩) hS ?_
  rotate_left
  · (intro wq hSw; go_simp; try with_reducible rfl)
  simp only [List.getElem_toArray, List.getElem_cons_succ, List.getElem_cons_zero, Act.put, List.setIfInBounds_toArray, List.set_cons_succ, List.set_cons_zero]
  refine wpAnyH_take (i := 6) (v := ?_) rfl (by kernel_rfl) (by kernel_rfl) (by kernel_rfl) (fun _ _ _ h => h) (Or.inl ⟨by rfl, ?_⟩) hS ?_
  rotate_left
  · (intro wq hSw; go_simp; try with_reducible rfl)
  simp only [List.getElem_toArray, List.getElem_cons_succ, List.getElem_cons_zero, Act.put, List.setIfInBounds_toArray, List.set_cons_succ, List.set_cons_zero]
  refine wpAnyH_take (i := 7) (v := ?_) rfl (by kernel_rfl) (by kernel_rfl) (by kernel_rfl) (fun _ _ _ h => h) (Or.inl ⟨by rfl, ?_⟩) hS ?_
  rotate_left
  · (intro wq hSw; go_simp; try with_reducible rfl)
  simp only [List.getElem_toArray, List.getElem_cons_succ, List.getElem_cons_zero, Act.put, List.setIfInBounds_toArray, List.set_cons_succ, List.set_cons_zero]
  refine wpAnyH_ready (rs := [8]) (by kernel_rfl) (by simp) ?_
  refine AllReadyH.cons rfl (fun K hK => ?_) AllReadyH.nil
  refine step_copy_at rfl (.tmp 50) (.tmp 53) rfl _ _ (by rfl) (by rfl) (HCP2.out _ _ _) ?_
  refine hK.out _ _ trivial (fun hS => ?_)
  clear hK K
  refine wpAnyH_done (by kernel_rfl) ?_ _
  clear hS
  go_wp2_with fail
  go_ret
  refine ⟨_, rfl, ?_, HF2.out.mono fun _ _ hn => hn.elim⟩
  rw [← HQ.out]
  exact HFIN.out
theorem insert_mid (w : World) (S T : Nat → Prop) (g n c : Nat) (l : List CV) (ho : OwC w S T (.slice (some ⟨g, 0, none⟩) n c) n l) (hn : n ≤ 1000) (i : Nat) (hi : i < n) (qb : Nat) (x : CV) (hv : Blk w qb 58 #[.bool x.u, .int .u32 (x.k : Int), .slice x.A x.m x.c]) (hne : qb ≠ g) (hx : x.In w T) :
    Calls Try.prog 100 #[.slice (some ⟨g, 0, none⟩) n c, .int .i64 (i : Int), .slice (some ⟨qb, 0, none⟩) 1 1] w (InsO w S T g n i l x) := by
  rcases Nat.lt_or_ge c (n + 1) with h | h
  · exact insert_grow w S T g n c l ho hn i hi h qb x hv hx
  · exact insert_room w S T g n c l ho hn i hi h qb x hv hne hx
end Go.Proofs.Ytajmpoanmdgmpaa
