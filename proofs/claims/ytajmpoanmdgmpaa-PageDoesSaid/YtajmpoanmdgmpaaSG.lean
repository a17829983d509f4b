/-
  THE WALK OF slices.Delete OF ONE CELL.
-/
import Derived.Test.YtajmpoanmdgmpaaSF
import Derived.BigRegion
import Derived.RegionTactic
import Derived.Laws.CopyOwn
import Derived.OrdersHeld
import Derived.Deep.Cut
import Derived.Deep.RegionHeld
namespace Go.Proofs.Ytajmpoanmdgmpaa
open Go.RowKit

theorem fr_row (w : World) (g : Nat) (cs : Array Value) : Fr w (w.setRow g cs) (fun b => b = g) :=
  ⟨rfl, rfl, rfl, by simp [World.setRow], fun b _ hn => setRow_other w g b cs hn⟩
theorem RowC.made {w : World} {g n cap : Nat} {cur new : Array Value} (hg : w.heap[g]? = some (.cells cur 58 (0, 0))) (hn : n ≤ cap) (hm : cap ≤ maxLen) (hs : new.size = cap * 3) : RowC (w.setRow g new) g n cap (new.toList.take (n * 3)) :=
  ⟨new, setRow_heap w g cur new 58 (0, 0) hg, hn, hm, hs, rfl⟩
theorem ccs_take (l : List CV) (i : Nat) : ccs (l.take i) = (ccs l).take (i * 3) := by
  by_cases hi : i ≤ l.length
  · have h7 : ccs l = ccs (l.take i) ++ ccs (l.drop i) := by rw [← ccs_append, List.take_append_drop]
    have h8 : (ccs (l.take i)).length = i * 3 := by rw [ccs_len, List.length_take]; omega
    rw [h7, List.take_left' h8]
  · rw [List.take_of_length_le (by omega), List.take_of_length_le (by rw [ccs_len]; omega)]
theorem ccs_drop (l : List CV) (i : Nat) : ccs (l.drop i) = (ccs l).drop (i * 3) := by
  by_cases hi : i ≤ l.length
  · have h7 : ccs l = ccs (l.take i) ++ ccs (l.drop i) := by rw [← ccs_append, List.take_append_drop]
    have h8 : (ccs (l.take i)).length = i * 3 := by rw [ccs_len, List.length_take]; omega
    rw [h7, List.drop_left' h8]
  · rw [List.drop_of_length_le (by omega), List.drop_of_length_le (by rw [ccs_len]; omega)]
    rfl
def DelO (w : World) (S T : Nat → Prop) (g n c i : Nat) (l : List CV) (e : Ending) (w' : World) : Prop :=
  e = .returned (.slice (some ⟨g, 0, none⟩) (n - 1) c) ∧ OwC w' S T (.slice (some ⟨g, 0, none⟩) (n - 1) c) (n - 1) (l.take i ++ l.drop (i + 1)) ∧ Fr w w' (fun b => b = g)
set_option maxHeartbeats 4000000 in
set_option maxRecDepth 100000 in
theorem delete_any (w : World) (S T : Nat → Prop) (g n c : Nat) (l : List CV) (ho : OwC w S T (.slice (some ⟨g, 0, none⟩) n c) n l) (hn : n ≤ 1000) (i j : Nat) (hi : i < n) (hj : j = i + 1) :
    Calls Try.prog 101 #[.slice (some ⟨g, 0, none⟩) n c, .int .i64 (i : Int), .int .i64 (j : Int)] w (DelO w S T g n c i l) := by
  have hln := ho.len
  obtain ⟨gq, cq, eq, hrow, hSg, hTg⟩ := ho.row (by omega)
  injection eq with eq1 _ eq3
  injection eq1 with eq1
  injection eq1 with eq1
  subst eq1 eq3
  obtain ⟨cur, hg, hnc, hmx, hcs, htk⟩ := hrow
  obtain ⟨k, hk⟩ : ∃ k, k = n - 1 := ⟨_, rfl⟩
  have hclen : (ccs l).length = n * 3 := by rw [ccs_len, hln]
  have hm63 : c ≤ 9223372036854775807 := by simpa [maxLen] using hmx
  -- the tail
  obtain ⟨cs, hcsd⟩ : ∃ cs, cs = (ccs l).drop (j * 3) := ⟨_, rfl⟩
  have hcsl : cs.length = (n - j) * 3 := by rw [hcsd, List.length_drop, hclen]; omega
  have hsrc : ∀ q v, cs[q]? = some v → w.drew.cell? ((⟨g, j * 3, none⟩ : Addr).add q) = some v := by
    intro q v hq
    have hadd : (⟨g, j * 3, none⟩ : Addr).add q = ⟨g, j * 3 + q, none⟩ := by unfold Addr.add; split <;> simp_all
    rw [hadd]
    have hql : q < cs.length := by
      rcases Nat.lt_or_ge q cs.length with h | h
      · exact h
      · rw [List.getElem?_eq_none h] at hq; cases hq
    rw [hcsd, List.getElem?_drop] at hq
    have h1 : w.cell? ⟨g, j * 3 + q, none⟩ = cur[j * 3 + q]? := Blk.cell (t := 58) hg _
    show w.cell? ⟨g, j * 3 + q, none⟩ = some v
    rw [h1, ← hq, ← htk, List.getElem?_take_of_lt (by omega)]
    simp
  have hone : ∀ v ∈ cs, v.oneCell' = true := fun v hv => ccs_one l v (by rw [hcsd] at hv; exact List.mem_of_mem_drop hv)
  obtain ⟨N1, hN1⟩ : ∃ N1 : Array Value, N1 = (cur.toList.take (i * 3) ++ cs ++ cur.toList.drop (i * 3 + cs.length)).toArray := ⟨_, rfl⟩
  have hN1s : N1.size = c * 3 := by rw [hN1]; simp; omega
  have hN1t : N1.toList.take (k * 3) = ccs (l.take i ++ l.drop j) := by
    have e1 : cur.toList.take (i * 3) = ccs (l.take i) := by
      rw [ccs_take, ← htk, List.take_take]
      congr 1
      omega
    rw [hN1, ccs_append, ccs_drop, ← hcsd, e1]
    simp only
    rw [List.take_left']
    rw [List.length_append, ccs_len, List.length_take, hcsl]
    omega
  have hra : ∀ ty, (Builtin.append_ #[24, 24] ty #[.slice (some ⟨g, 0, none⟩) i c, .slice (some ⟨g, j * 3, none⟩) (n - j) (c - j)]).run Try.prog w.drew = .ok (.slice (some ⟨g, 0, none⟩) k c) (w.drew.setRow g N1) := fun ty => by
    have h := run_append3 w.drew ty g i c ⟨g, j * 3, none⟩ (n - j) (c - j) cur cs hg (by omega) hcsl hsrc (by omega) hone
    rw [hN1, h]
    congr 2
    omega
  have hra0 : c = j → ∀ ty cc q, q = n - j → (Builtin.append_ #[24, 24] ty #[.slice (some ⟨g, 0, none⟩) i c, .slice (some ⟨g, 0, none⟩) q cc]).run Try.prog w.drew = .ok (.slice (some ⟨g, 0, none⟩) k c) (w.drew.setRow g N1) := fun hcj ty cc q hq => by
    subst hq
    have hc0 : cs = [] := List.eq_nil_of_length_eq_zero (by omega)
    have h := run_append3 w.drew ty g i c ⟨g, 0, none⟩ (n - j) cc cur cs hg (by omega) hcsl (fun q v hq => by rw [hc0] at hq; simp at hq) (by omega) hone
    rw [hN1, h]
    congr 2
    omega
  obtain ⟨W1, hW1⟩ : ∃ W1, W1 = w.drew.setRow g N1 := ⟨_, rfl⟩
  have hg1 : W1.heap[g]? = some (.cells N1 58 (0, 0)) := by rw [hW1]; exact setRow_heap w.drew g cur N1 58 (0, 0) hg
  rw [← hW1] at hra hra0
  have hrc : ∀ ty cc, (Builtin.clear_ #[24] ty #[.slice (some ⟨g, k * 3, none⟩) (n - k) cc]).run Try.prog W1 = .ok (.tuple #[]) (W1.setRow g (N1.toList.take (k * 3) ++ ([.bool false, .int .u32 0, .slice none 0 0] : List Value) ++ N1.toList.drop (k * 3 + 3)).toArray) := fun ty cc => by
    rw [show n - k = 1 by omega]
    exact run_clear3 W1 ty g (k * 3) cc N1 hg1 (by omega)
  have hfin : OwC (W1.setRow g (N1.toList.take (k * 3) ++ ([.bool false, .int .u32 0, .slice none 0 0] : List Value) ++ N1.toList.drop (k * 3 + 3)).toArray) S T (.slice (some ⟨g, 0, none⟩) k c) k (l.take i ++ l.drop j) := by
    have hr := RowC.made (n := k) (cap := c) (new := (N1.toList.take (k * 3) ++ ([.bool false, .int .u32 0, .slice none 0 0] : List Value) ++ N1.toList.drop (k * 3 + 3)).toArray) hg1 (by omega) hmx (by simp; omega)
    have e2 : (N1.toList.take (k * 3) ++ ([.bool false, .int .u32 0, .slice none 0 0] : List Value) ++ N1.toList.drop (k * 3 + 3)).toArray.toList.take (k * 3) = ccs (l.take i ++ l.drop j) := by
      simp only [List.append_assoc]
      rw [List.take_left' (by rw [List.length_take, Array.length_toList]; omega)]
      exact hN1t
    rw [e2] at hr
    refine hr.ow (fun x hx => ?_) hSg hTg
    have hxi : x.In w T := by
      rcases List.mem_append.1 hx with hx | hx
      · exact ho.2.1 x (List.mem_of_mem_take hx)
      · exact ho.2.1 x (List.mem_of_mem_drop hx)
    have hf2 : Fr w (W1.setRow g (N1.toList.take (k * 3) ++ ([.bool false, .int .u32 0, .slice none 0 0] : List Value) ++ N1.toList.drop (k * 3 + 3)).toArray) (fun b => b = g) := by
      rw [hW1]
      exact ((Fr.refl w _).drew.trans (fr_row _ _ _) fun b hb => Or.inl hb).trans (fr_row _ _ _) fun b hb => Or.inl hb
    exact hxi.keep hf2 fun b hb e => hTg (e ▸ hb)
  have hfrf : Fr w (W1.setRow g (N1.toList.take (k * 3) ++ ([.bool false, .int .u32 0, .slice none 0 0] : List Value) ++ N1.toList.drop (k * 3 + 3)).toArray) (fun b => b = g) := by
    rw [hW1]
    exact ((Fr.refl w _).drew.trans (fr_row _ _ _) fun b hb => Or.inl hb).trans (fr_row _ _ _) fun b hb => Or.inl hb
  obtain ⟨W2, hW2⟩ : ∃ W2, W2 = W1.setRow g (N1.toList.take (k * 3) ++ ([.bool false, .int .u32 0, .slice none 0 0] : List Value) ++ N1.toList.drop (k * 3 + 3)).toArray := ⟨_, rfl⟩
  rw [← hW2] at hrc hfin hfrf
  have HFIN := Lib.hid hfin
  have HFRF := Lib.hid hfrf
  have HRA := Lib.hid hra
  have HRA0 := Lib.hid hra0
  have HRC := Lib.hid hrc
  have HKN := Lib.hid (show k = n - 1 ∧ j = i + 1 from ⟨hk, hj⟩)
  have b1 : (i : Int) ≤ (j : Int) := by omega
  have b2 : (j : Int) ≤ (n : Int) := by omega
  have b3 : (n : Int) ≤ (c : Int) := by omega
  have b4 : i ≤ j := by omega
  have b5 : j ≤ n := by omega
  have b6 : i ≤ c := by omega
  have b7 : (i : Int) ≤ (c : Int) := by omega
  have b8 : (j : Int) ≤ (c : Int) := by omega
  have b9 : k ≤ n := by omega
  have b10 : (k : Int) ≤ (n : Int) := by omega
  have ne1 : ((i : Int) == (j : Int)) = false := beq_false_of_ne (by omega)
  have wi : IntKind.i64.wrap (i : Int) = (i : Int) := IntWalk.i64_in _ (by omega)
  have wj : IntKind.i64.wrap (j : Int) = (j : Int) := IntWalk.i64_in _ (by omega)
  have wn : IntKind.i64.wrap (n : Int) = (n : Int) := IntWalk.i64_in _ (by omega)
  have wk : IntKind.i64.wrap (k : Int) = (k : Int) := IntWalk.i64_in _ (by omega)
  have hck : ¬ (c = k) := by omega
  have hni : ¬ (n = i) := by omega
  clear ho hg hcs htk hclen hcsd hcsl hsrc hone hN1 hN1s hN1t hW1 hg1 hW2 hfin hfrf hra hra0 hrc hk hj hi hmx hSg hTg hln hm63
  by_cases hcj : c = j
  · have HRA1 := Lib.hid (HRA0.out hcj)
    have hcjT : (c = j) = True := eq_true hcj
    clear hcj
    go_enter Try.func101, Try.ntmps101
    go_upto_region 5 with fail
    refine wp_region_held_drew (S := fun _ => True) (by kernel_rfl) trivial (fun hS => ?_)
    refine wpAnyH_take (i := 0) (v := ?_) rfl (by kernel_rfl) (by kernel_rfl) (by kernel_rfl) (fun _ _ _ h => h) (Or.inl ⟨by rfl, ?_⟩) hS ?_
    rotate_left
    · (intro wq hSw; go_simp; try with_reducible rfl)
    refine wpAnyH_take (i := 1) (v := ?_) rfl (by kernel_rfl) (by kernel_rfl) (by kernel_rfl) (fun _ _ _ h => h) (Or.inl ⟨by rfl, ?_⟩) hS ?_
    rotate_left
    · (intro wq hSw; go_simp; try with_reducible rfl)
    simp only [List.getElem_toArray, List.getElem_cons_succ, List.getElem_cons_zero, Act.put, List.setIfInBounds_toArray, List.set_cons_succ, List.set_cons_zero]
    refine wpAnyH_take (i := 2) (v := ?_) rfl (by kernel_rfl) (by kernel_rfl) (by kernel_rfl) (fun _ _ _ h => h) (Or.inl ⟨by rfl, ?_⟩) hS ?_
    rotate_left
    · (intro wq hSw; go_simp; try with_reducible rfl)
    simp only [List.getElem_toArray, List.getElem_cons_succ, List.getElem_cons_zero, Act.put, List.setIfInBounds_toArray, List.set_cons_succ, List.set_cons_zero]
    refine wpAnyH_take (i := 3) (v := ?_) rfl (by kernel_rfl) (by kernel_rfl) (by kernel_rfl) (fun _ _ _ h => h) (Or.inl ⟨by rfl, ?_⟩) hS ?_
    rotate_left
    · (intro wq hSw; go_simp; try with_reducible rfl)
    simp only [List.getElem_toArray, List.getElem_cons_succ, List.getElem_cons_zero, Act.put, List.setIfInBounds_toArray, List.set_cons_succ, List.set_cons_zero]
    refine wpAnyH_take (i := 4) (v := ?_) rfl (by kernel_rfl) (by kernel_rfl) (by kernel_rfl) (fun _ _ _ h => h) (Or.inl ⟨by rfl, ?_⟩) hS ?_
    rotate_left
    · (intro wq hSw; go_simp; try with_reducible rfl)
    simp only [List.getElem_toArray, List.getElem_cons_succ, List.getElem_cons_zero, Act.put, List.setIfInBounds_toArray, List.set_cons_succ, List.set_cons_zero]
    refine wpAnyH_take (i := 5) (v := ?_) rfl (by kernel_rfl) (by kernel_rfl) (by kernel_rfl) (fun _ _ _ h => h) (Or.inl ⟨by rfl, ?_⟩) hS ?_
    rotate_left
    · (intro wq hSw; go_simp; try with_reducible rfl)
    simp only [List.getElem_toArray, List.getElem_cons_succ, List.getElem_cons_zero, Act.put, List.setIfInBounds_toArray, List.set_cons_succ, List.set_cons_zero]
    refine wpAnyH_ready (rs := [6]) (by kernel_rfl) (by simp) ?_
    refine AllReadyH.cons rfl (fun K hK => ?_) AllReadyH.nil
    refine step_append_at rfl (.tmp 22) (.tmp 25) rfl _ _ (by rfl) (by rfl) (HRA1.out _ _ _ rfl) ?_
    refine hK.out _ _ trivial (fun hS => ?_)
    clear hK K
    refine wpAnyH_take (i := 7) (v := ?_) rfl (by kernel_rfl) (by kernel_rfl) (by kernel_rfl) (fun _ _ _ h => h) (Or.inl ⟨by rfl, ?_⟩) hS ?_
    rotate_left
    · (intro wq hSw; go_simp; try with_reducible rfl)
    simp only [List.getElem_toArray, List.getElem_cons_succ, List.getElem_cons_zero, Act.put, List.setIfInBounds_toArray, List.set_cons_succ, List.set_cons_zero]
    refine wpAnyH_done (by kernel_rfl) ?_ _
    clear hS
    have hrc := HRC.out
    go_wp2_with fail
    go_ret
    obtain ⟨e1, e2⟩ := HKN.out
    subst e1 e2
    exact ⟨rfl, HFIN.out, HFRF.out⟩
  · go_enter Try.func101, Try.ntmps101
    go_upto_region 5 with fail
    refine wp_region_held_drew (S := fun _ => True) (by kernel_rfl) trivial (fun hS => ?_)
    refine wpAnyH_take (i := 0) (v := ?_) rfl (by kernel_rfl) (by kernel_rfl) (by kernel_rfl) (fun _ _ _ h => h) (Or.inl ⟨by rfl, ?_⟩) hS ?_
    rotate_left
    · (intro wq hSw; go_simp; try with_reducible rfl)
    refine wpAnyH_take (i := 1) (v := ?_) rfl (by kernel_rfl) (by kernel_rfl) (by kernel_rfl) (fun _ _ _ h => h) (Or.inl ⟨by rfl, ?_⟩) hS ?_
    rotate_left
    · (intro wq hSw; go_simp; try with_reducible rfl)
    simp only [List.getElem_toArray, List.getElem_cons_succ, List.getElem_cons_zero, Act.put, List.setIfInBounds_toArray, List.set_cons_succ, List.set_cons_zero]
    refine wpAnyH_take (i := 2) (v := ?_) rfl (by kernel_rfl) (by kernel_rfl) (by kernel_rfl) (fun _ _ _ h => h) (Or.inl ⟨by rfl, ?_⟩) hS ?_
    rotate_left
    · (intro wq hSw; go_simp; try with_reducible rfl)
    simp only [List.getElem_toArray, List.getElem_cons_succ, List.getElem_cons_zero, Act.put, List.setIfInBounds_toArray, List.set_cons_succ, List.set_cons_zero]
    refine wpAnyH_take (i := 3) (v := ?_) rfl (by kernel_rfl) (by kernel_rfl) (by kernel_rfl) (fun _ _ _ h => h) (Or.inl ⟨by rfl, ?_⟩) hS ?_
    rotate_left
    · (intro wq hSw; go_simp; try with_reducible rfl)
    simp only [List.getElem_toArray, List.getElem_cons_succ, List.getElem_cons_zero, Act.put, List.setIfInBounds_toArray, List.set_cons_succ, List.set_cons_zero]
    refine wpAnyH_take (i := 4) (v := ?_) rfl (by kernel_rfl) (by kernel_rfl) (by kernel_rfl) (fun _ _ _ h => h) (Or.inl ⟨by rfl, ?_⟩) hS ?_
    rotate_left
    · (intro wq hSw; go_simp; try with_reducible rfl)
    simp only [List.getElem_toArray, List.getElem_cons_succ, List.getElem_cons_zero, Act.put, List.setIfInBounds_toArray, List.set_cons_succ, List.set_cons_zero]
    refine wpAnyH_take (i := 5) (v := ?_) rfl (by kernel_rfl) (by kernel_rfl) (by kernel_rfl) (fun _ _ _ h => h) (Or.inl ⟨by rfl, ?_⟩) hS ?_
    rotate_left
    · (intro wq hSw; go_simp; try with_reducible rfl)
    simp only [List.getElem_toArray, List.getElem_cons_succ, List.getElem_cons_zero, Act.put, List.setIfInBounds_toArray, List.set_cons_succ, List.set_cons_zero]
    refine wpAnyH_ready (rs := [6]) (by kernel_rfl) (by simp) ?_
    refine AllReadyH.cons rfl (fun K hK => ?_) AllReadyH.nil
    refine step_append_at rfl (.tmp 22) (.tmp 25) rfl _ _ (by rfl) (by rfl) (HRA.out _) ?_
    refine hK.out _ _ trivial (fun hS => ?_)
    clear hK K
    refine wpAnyH_take (i := 7) (v := ?_) rfl (by kernel_rfl) (by kernel_rfl) (by kernel_rfl) (fun _ _ _ h => h) (Or.inl ⟨by rfl, ?_⟩) hS ?_
    rotate_left
    · (intro wq hSw; go_simp; try with_reducible rfl)
    simp only [List.getElem_toArray, List.getElem_cons_succ, List.getElem_cons_zero, Act.put, List.setIfInBounds_toArray, List.set_cons_succ, List.set_cons_zero]
    refine wpAnyH_done (by kernel_rfl) ?_ _
    clear hS
    have hrc := HRC.out
    go_wp2_with fail
    go_ret
    obtain ⟨e1, e2⟩ := HKN.out
    subst e1 e2
    exact ⟨rfl, HFIN.out, HFRF.out⟩
end Go.Proofs.Ytajmpoanmdgmpaa
