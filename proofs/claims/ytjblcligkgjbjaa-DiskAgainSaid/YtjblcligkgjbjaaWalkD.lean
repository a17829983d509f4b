/-
  THE WALK OF empty.
-/
import Derived.Test.YtjblcligkgjbjaaWalkC
namespace Go.Proofs.Ytjblcligkgjbjaa
open Go.RowKit Go.Sort Go.Maps

theorem zero72 (w : World) : (zeroValue 72).run Try.prog w = .ok (.agg (#[.int .i64 0] ++ Array.replicate 512 (.int .u8 0))) w := by
  obtain ⟨i0, hi, hz0, hz1, hz2⟩ := info_parts info72
  simp [zeroValue, typeInfo, hi, hz0]
theorem zc_all (z : Array Value) (hz : 0 < z.size) (h1 : ∀ u ∈ z, u.oneCell' = true) (n : Nat) : ∀ u ∈ (Builtin.zeroCells z n).toList, u.oneCell' = true := by
  intro u hu
  simp only [Builtin.zeroCells, Array.toList_map, List.mem_map] at hu
  obtain ⟨i, _, rfl⟩ := hu
  have hi : i % z.size < z.size := Nat.mod_lt _ hz
  have e : z[i % z.size]! = z[i % z.size] := getElem!_pos z _ hi
  rw [e]
  exact h1 _ (Array.getElem_mem hi)
theorem zc_one (n : Nat) : ∀ u ∈ (Builtin.zeroCells (#[.int .i64 0] ++ Array.replicate 512 (.int .u8 0)) n).toList, u.oneCell' = true := by
  refine zc_all _ (by simp) ?_ n
  intro u h
  simp only [Array.mem_append, Array.mem_replicate, List.mem_toArray, List.mem_singleton] at h
  rcases h with h | ⟨_, h⟩ <;> rw [h] <;> rfl
theorem zc_size (n : Nat) : (Builtin.zeroCells (#[.int .i64 0] ++ Array.replicate 512 (.int .u8 0)) n).size = n * 513 := by
  simp [Builtin.zeroCells]
theorem zc_len (n : Nat) : (Builtin.zeroCells (#[.int .i64 0] ++ Array.replicate 512 (.int .u8 0)) n).toList.length = n * 513 := by
  simp [Builtin.zeroCells]
theorem run_clear_cache {w : World} {S : Nat → Prop} {v : Value} {c : List (Nat × List Nat)} (h : CR w S v c) :
    ∃ w1, (∀ ty, (Builtin.clear_ #[62] ty #[v]).run Try.prog w = .ok (.tuple #[]) w1) ∧ Fr w w1 S ∧ (∀ x, v.ownBlock ≠ some x → w1.heap[x]? = w.heap[x]?) ∧
      ((v = .slice none 0 0) ∨ ∃ g n cap cur, v = .slice (some ⟨g, 0, none⟩) n cap ∧ S g ∧ Blk w1 g 72 cur ∧ n ≤ cap ∧ cap ≤ maxLen ∧ cur.size = cap * 513) := by
  rcases h.look with ⟨rfl, _⟩ | ⟨g, cap, cur, rfl, hS, hb, hc, hm, hs, _⟩
  · exact ⟨w, fun ty => by simp [Builtin.clear_, run_underlying Try.underlying62], Fr.refl _ _, fun _ _ => rfl, Or.inl rfl⟩
  · by_cases h0 : c.length = 0
    · rw [h0] at hc ⊢
      exact ⟨w, fun ty => by simp [Builtin.clear_, run_underlying Try.underlying62], Fr.refl _ _, fun _ _ => rfl, Or.inr ⟨g, 0, cap, cur, rfl, hS, hb, hc, hm, hs⟩⟩
    · obtain ⟨n, hn⟩ : ∃ n, c.length = n + 1 := ⟨c.length - 1, by omega⟩
      rw [hn] at hc ⊢
      have hfit : 0 + 0 + (Builtin.zeroCells (#[.int .i64 0] ++ Array.replicate 512 (.int .u8 0)) (n + 1)).toList.length ≤ cur.size := by rw [zc_len, hs]; omega
      have hst := run_storeCells_at Try.prog g 0 72 _ 0 cur w hb hfit (zc_one (n + 1))
      refine ⟨_, fun ty => by simp [Builtin.clear_, run_underlying Try.underlying62, zero72, Value.cells, hst]; rfl, (Fr.refl _ _).setRow (Or.inl hS) _, fun x hx => setRow_other w g x _ fun e => hx (by rw [e]; rfl), Or.inr ⟨g, n + 1, cap, _, rfl, hS, hb.row _, hc, hm, ?_⟩⟩
      simp only [List.size_toArray, List.length_append, List.length_drop, Array.length_toList, zc_size]
      omega
theorem Fr.tape_ {w w' : World} {S : Nat → Prop} (h : Fr w w' S) : w'.tape = w.tape := h.tape
theorem empty_any (w : World) (S : Nat → Prop) (g : Nat) (d : DS) (h : DAt w S g d) :
    Calls Try.prog 36 #[ptr (some g)] w fun e w' => e = .returned (.tuple #[]) ∧ DAt w' S g { d with cache := [] } ∧ Fr w w' S := by
  obtain ⟨L, M, v, c, h⟩ := h
  have ok1 : DS.Ok { d with cache := [] } := ⟨h.ok.pos, h.ok.few, h.ok.sec, (fun _ hc => by cases hc), h.ok.tr1, h.ok.tr2, h.ok.drk⟩
  have hc1 := h.b.cell 1
  simp only [dcs, List.getElem?_toArray, List.getElem?_cons_zero, List.getElem?_cons_succ] at hc1
  obtain ⟨w1, hcl, hf1, ho1, hv⟩ := run_clear_cache h.r
  have hb1 : Blk w1 g 65 (dcs d L M v c) := (ho1 g (h.r.own_ne h.b (by decide))).trans h.b
  have hl1 : Blk w1 L 69 (secs d.kept).toArray := (ho1 L (h.r.own_ne h.l (by decide))).trans h.l
  have hm1 : IM w1 M (fun a => placeN d.cache a d.cache.length) d.cache.length := h.m.stays (ho1 M fun e => by
    rcases h.r.look with ⟨rfl, _⟩ | ⟨g', cap, cur, rfl, _, hb', _⟩
    · cases e
    · simp [Value.ownBlock] at e
      exact h.m.ne_blk hb' e)
  have hd1 := hb1.cell 1
  have hd2 := hb1.cell 2
  have hfz := hb1.frozen 1
  simp only [dcs, List.getElem?_toArray, List.getElem?_cons_zero, List.getElem?_cons_succ] at hd1 hd2
  have fin : ∀ v', (v' = .slice none 0 0 ∨ ∃ g' cap cur, v' = .slice (some ⟨g', 0, none⟩) 0 cap ∧ S g' ∧ Blk w1 g' 72 cur ∧ cap ≤ maxLen ∧ cur.size = cap * 513) →
      ∃ w3, (∀ ty, (Builtin.clear_ #[63] ty #[.map (some M)]).run Try.prog (w1.setCell ⟨g, 1, none⟩ v') = .ok (.tuple #[]) w3) ∧ DB w3 S g { d with cache := [] } L M v' c ∧ Fr w w3 S := by
    intro v' hv'
    have hm2 : IM (w1.setCell ⟨g, 1, none⟩ v') M (fun a => placeN d.cache a d.cache.length) d.cache.length := hm1.stays (Below.heap_setCell _ _ _ _ fun e => hm1.ne_blk hb1 e.symm)
    obtain ⟨o, hrun, him⟩ := hm2.clear 0
    have ho : ∀ x, x ≠ g → x ≠ M → (setB (w1.setCell ⟨g, 1, none⟩ v') M o).heap[x]? = w1.heap[x]? := fun x hx hxm => by
      have : (setB (w1.setCell ⟨g, 1, none⟩ v') M o).heap[x]? = (w1.setCell ⟨g, 1, none⟩ v').heap[x]? := by simp [setB, Array.getElem?_setIfInBounds_ne (Ne.symm hxm)]
      exact this.trans (Below.heap_setCell _ _ _ x hx)
    have hg : Blk (setB (w1.setCell ⟨g, 1, none⟩ v') M o) g 65 (dcs { d with cache := [] } L M v' c) := by
      have h1 := hb1.set_ 1 v'
      have h2 : (setB (w1.setCell ⟨g, 1, none⟩ v') M o).heap[g]? = (w1.setCell ⟨g, 1, none⟩ v').heap[g]? := by simp [setB, Array.getElem?_setIfInBounds_ne (hm1.ne_blk hb1).symm]
      exact h2.trans (by simpa [dcs, Blk] using h1)
    refine ⟨setB (w1.setCell ⟨g, 1, none⟩ v') M o, fun ty => hrun, ⟨h.sg, h.sl, h.sm, ok1, hg, (ho L (hl1.ne_ hb1 (by decide)) (hm1.ne_blk hl1)).trans hl1, ?_, him, h.t⟩, (hf1.setCell (Or.inl h.sg) _).setB_ (Or.inl h.sm) _⟩
    rcases hv' with rfl | ⟨g', cap, cur, rfl, hS', hb', hcm, hcs⟩
    · exact CR.nil_ _ _
    · have hb3 : Blk (setB (w1.setCell ⟨g, 1, none⟩ (.slice (some ⟨g', 0, none⟩) 0 cap)) M o) g' 72 cur := (ho g' (hb'.ne_ hb1 (by decide)) (hm1.ne_blk hb')).trans hb'
      refine ⟨⟨by simp [wcs], Or.inr ⟨g', cap, cur, rfl, Nat.zero_le _, hb3, Nat.zero_le _, hcm, hcs, by simp [wcs]⟩⟩, fun k hk => ?_⟩
      simp [Value.ownBlock] at hk
      subst hk
      exact hS'
  clear h hb1 hl1 hm1 ok1 hf1 ho1
  rcases hv with rfl | ⟨g', n, cap, cur, rfl, hS', hb', hnc, hcm, hcs⟩
  · obtain ⟨w3, hrun, hD⟩ := fin (.slice none 0 0) (Or.inl rfl)
    have HD := Lib.hid hD
    clear fin hD
    simp only [ptr, Option.map]
    go_enter Try.func36, Try.ntmps36
    go_wp2
    refine bodyPost_end (results_none rfl _ _ _) rfl ?_
    exact ⟨rfl, ⟨_, _, _, _, HD.out.1⟩, HD.out.2⟩
  · obtain ⟨w3, hrun, hD⟩ := fin (.slice (some ⟨g', 0, none⟩) 0 cap) (Or.inr ⟨g', cap, cur, rfl, hS', hb', hcm, hcs⟩)
    have HD := Lib.hid hD
    clear fin hD hb'
    simp only [ptr, Option.map]
    go_enter Try.func36, Try.ntmps36
    go_wp2
    refine bodyPost_end (results_none rfl _ _ _) rfl ?_
    exact ⟨rfl, ⟨_, _, _, _, HD.out.1⟩, HD.out.2⟩
end Go.Proofs.Ytjblcligkgjbjaa
