/-
  THE WALK OF Read.
-/
import Derived.Test.YtjblcligkgjbjaaWalkD
import Derived.Deep.Cut
namespace Go.Proofs.Ytjblcligkgjbjaa
open Go.RowKit Go.Sort Go.Maps

set_option maxRecDepth 100000 in
theorem next_kept (d : DS) : d.next.kept = d.kept := by unfold DS.next; split; rfl; split; rfl; split <;> rfl
set_option maxRecDepth 100000 in
theorem next_cache (d : DS) : d.next.cache = d.cache := by unfold DS.next; split; rfl; split; rfl; split <;> rfl
set_option maxRecDepth 100000 in
theorem next_dark {d : DS} (h : d.may = true) : d.next.dark = false := by
  unfold DS.may at h
  unfold DS.next
  cases hd : d.dark with
  | true => rw [hd] at h; simp at h
  | false =>
    rw [hd] at h
    by_cases h0 : d.trip = 0
    · rw [if_neg (by simp), if_pos h0] at h; cases h
    · rw [if_neg (by simp), if_neg h0]; split <;> simp [hd]
/-- a sector of noughts, as cells -/
def z69 : Array Value := Array.replicate 512 (.int .u8 0)
def z72 : Array Value := #[.int .i64 0] ++ z69
set_option maxRecDepth 100000 in
theorem zero69 (w : World) : (zeroValue 69).run Try.prog w = .ok (.agg z69) w := by
  obtain ⟨i0, hi, hz0, hz1, hz2⟩ := info_parts info69
  simp [zeroValue, typeInfo, hi, hz0, z69]
set_option maxRecDepth 100000 in
theorem size69 : (Try.prog.info? 69).map (·.size) = some 512 := by
  obtain ⟨i0, hi, hz0, hz1, hz2⟩ := info_parts info69
  simp [hi, hz1]
set_option maxRecDepth 100000 in
theorem size72 : (Try.prog.info? 72).map (·.size) = some 513 := by
  obtain ⟨i0, hi, hz0, hz1, hz2⟩ := info_parts info72
  simp [hi, hz1]
set_option maxRecDepth 100000 in
theorem u8s_all (l : List Nat) : (u8s l).toArray.all (·.oneCell') = true := all_oneCell_toArray (u8s_one l)
set_option maxRecDepth 100000 in
theorem read_out (w : World) (S : Nat → Prop) (g : Nat) (d : DS) (h : DAt w S g d) (at_ : Int) (ha : at_ < 0 ∨ (d.kept.length : Int) ≤ at_) :
    Calls Try.prog 26 #[ptr (some g), .int .i64 at_] w fun e w' => e = .returned (.tuple #[.slice none 0 0, .int .i64 2]) ∧ w = w' := by
  have HC := has_any w S g d h at_
  rw [show (decide (0 ≤ at_) && decide (at_ < d.kept.length)) = false by simp; omega] at HC
  have HC := Lib.hid HC
  clear h
  go_enter Try.func26, Try.ntmps26
  go_wp2_with (go_at_call 34; refine HC.out.mono ?_; rintro e w' ⟨rfl, rfl⟩)
  go_ret2
  exact ⟨rfl, rfl⟩
set_option maxRecDepth 100000 in
theorem read_dark (w : World) (S : Nat → Prop) (g : Nat) (d : DS) (h : DAt w S g d) (a : Nat) (ha : a < d.kept.length) (hm : d.may = false) :
    Calls Try.prog 26 #[ptr (some g), .int .i64 (a : Int)] w fun e w' => e = .returned (.tuple #[.slice none 0 0, .int .i64 8]) ∧ DAt w' S g d.next ∧ Fr w w' S := by
  have HC := has_any w S g d h (a : Int)
  rw [show (decide (0 ≤ (a : Int)) && decide ((a : Int) < d.kept.length)) = true by simp; omega] at HC
  have HC := Lib.hid HC
  have HO := operate_any w S g d h
  rw [hm] at HO
  have HO := Lib.hid HO
  clear h
  go_enter Try.func26, Try.ntmps26
  go_wp2_with (first | (go_at_call 34; refine HC.out.mono ?_; rintro e w' ⟨rfl, rfl⟩) | (go_at_call 35; refine HO.out.mono ?_; rintro e w1 ⟨rfl, hd1, hf1⟩; have HD := Lib.hid hd1; have HF := Lib.hid hf1; clear hd1 hf1; simp only [errD, Bool.false_eq_true, if_false]))
  go_ret2
  exact ⟨rfl, HD.out, HF.out⟩
set_option maxRecDepth 100000 in
theorem rangeAt_sec {w : World} {L : Nat} {k : List (List Nat)} (h : Blk w L 69 (secs k).toArray) (hs : ∀ s ∈ k, Sec s) {a : Nat} (ha : a < k.length) : w.rangeAt L (a * 512) (u8s (k.getD a [])) := fun j v hv => by
  rw [h.cell]
  have := secs_at hs ha j v hv
  simpa using this
set_option maxRecDepth 100000 in
theorem rangeAt_wc {w : World} {G : Nat} {cur : Array Value} {c : List (Nat × List Nat)} (h : Blk w G 72 cur) (hs : ∀ x ∈ c, Sec x.2) (ht : cur.toList.take (c.length * 513) = wcs c) {p : Nat} (hp : p < c.length) :
    w.rangeAt G (p * 513) (.int .i64 ((c.getD p (0, [])).1 : Int) :: u8s (c.getD p (0, [])).2) := fun j v hv => by
  rw [h.cell]
  have h1 := wcs_at hs p hp j v hv
  have h2 : (wcs c).length = c.length * 513 := wcs_len hs
  have h3 : p * 513 + j < c.length * 513 := by rw [← h2]; exact (List.getElem?_eq_some_iff.1 h1).1
  rw [← ht, List.getElem?_take_of_lt h3] at h1
  simpa using h1
set_option maxRecDepth 100000 in
theorem wp_alloc {o : Oper} {a : Act} {w : World} {K : Act → World → Prop} {Q : Exit → Act → World → Prop} (t : TypeId) (ho : o.op = .alloc t) (z : Array Value) (hz : ∀ w, (zeroValue t).run Try.prog w = .ok (.agg z) w)
    (h : K (a.put o.dst (.pointer (some ⟨w.heap.size, 0, none⟩))) (w.alloc (.cells z t))) : o.wp Try.prog a w K Q := by
  unfold Oper.wp execOp
  simp [ho, Instr.alloc, newVar, newRow, hz, Value.cells, Result.andThen]
  exact h
set_option maxRecDepth 100000 in
theorem wpList_alloc {ops : Array Oper} {rest : List Oper} {o : Oper} {a : Act} {w : World} {Q : Exit → Act → World → Prop} (hgd : o.guard = none) (t : TypeId) (ho : o.op = .alloc t) (z : Array Value) (hz : ∀ w, (zeroValue t).run Try.prog w = .ok (.agg z) w)
    (h : wpList Try.prog ops Q rest (a.put o.dst (.pointer (some ⟨w.heap.size, 0, none⟩))) (w.alloc (.cells z t))) : wpList Try.prog ops Q (o :: rest) a w :=
  wpList_plain hgd fun _ hK => wp_alloc t ho z hz (hK _ _ h)
set_option maxRecDepth 100000 in
theorem rangeAt_tail {w : World} {G o : Nat} {x : Value} {l : List Value} (h : w.rangeAt G o (x :: l)) : w.rangeAt G (o + 1) l := fun j v hv => by
  have := h (j + 1) v (by simpa using hv)
  rw [show o + 1 + j = o + (j + 1) by omega]
  exact this
set_option maxRecDepth 100000 in
theorem next_seen (d : DS) (a : Nat) : d.next.seen a = d.seen a := by unfold DS.seen; rw [next_kept, next_cache]
set_option maxRecDepth 100000 in
theorem read_some (w : World) (S : Nat → Prop) (g : Nat) (d : DS) (h : DAt w S g d) (a : Nat) (ha : a < d.kept.length) (hm : d.may = true) :
    Calls Try.prog 26 #[ptr (some g), .int .i64 (a : Int)] w fun e w' => ∃ k, e = .returned (.tuple #[.slice (some ⟨k, 0, none⟩) 512 512, .int .i64 0]) ∧ w.heap.size ≤ k ∧ Blk w' k 69 (u8s (d.seen a)).toArray ∧ DAt w' S g d.next.read ∧ Fr w w' S := by
  have HC := has_any w S g d h (a : Int)
  rw [show (decide (0 ≤ (a : Int)) && decide ((a : Int) < d.kept.length)) = true by simp; omega] at HC
  have HC := Lib.hid HC
  have HO := operate_any w S g d h
  rw [hm] at HO
  have hdk := next_dark hm
  rw [← next_seen]
  rw [← next_kept] at ha
  have hcl : d.next.cache.length = d.next.cache.length := rfl
  clear h hm
  generalize d.next = x at *
  clear hcl
  have HO := Lib.hid HO
  simp only [ptr, Option.map] at HC HO ⊢
  go_enter Try.func26, Try.ntmps26
  go_wp2_with (go_at_call 34; refine HC.out.mono ?_; rintro e w' ⟨rfl, rfl⟩)
  refine HO.out.mono ?_
  rintro e w1 ⟨rfl, hD, hF⟩
  simp only [errD, if_true]
  clear HO HC
  obtain ⟨L, M, v, c, h⟩ := hD
  have hok := h.ok
  have hlo : (a : Int) < (x.kept.length : Int) := by omega
  have hfew := hok.few
  have hr2 : IntKind.i64.wrap (x.rd + 1) = up x.rd := rfl
  obtain ⟨r', hr'⟩ : ∃ r', r' = up x.rd := ⟨_, rfl⟩
  rw [← hr'] at hr2
  obtain ⟨W, hW⟩ : ∃ W, W = w1.setCell ⟨g, 5, none⟩ (.int .i64 r') := ⟨_, rfl⟩
  obtain ⟨hE, hG⟩ := h.field (d' := x.read) 5 (.int .i64 r') rfl rfl hok.read (by simp [dcs, DS.read, hr']) h.t
  rw [← hW] at hE hG
  have hc5 := h.b.cell 5
  have hf5 := h.b.frozen 5
  have hc0 := hE.b.cell 0
  have hc2 := hE.b.cell 2
  have hc0a := (hE.b.alloc (.cells z69 69)).cell 2
  simp only [dcs, List.getElem?_toArray, List.getElem?_cons_zero, List.getElem?_cons_succ, DS.read] at hc5 hc0 hc2
  have hsec : Sec (x.kept.getD a []) := hok.sec _ (getD_mem ha)
  obtain ⟨X, hX⟩ : ∃ X, X = (u8s (x.kept.getD a [])).toArray := ⟨_, rfl⟩
  have hXs : X.size = 512 := by rw [hX, List.size_toArray, u8s_length, hsec.1]
  have hXa : X.all (·.oneCell') = true := by rw [hX]; exact u8s_all _
  have hrg : W.rangeAt L (a * 512) (u8s (x.kept.getD a [])) := rangeAt_sec hE.l hok.sec ha
  have hsz1 : (Try.prog.info? 69).map (·.size) = some (u8s (x.kept.getD a [])).length := by rw [size69, u8s_length, hsec.1]
  have hsz2 : (Try.prog.info? 69).map (·.size) = some X.size := by rw [size69, hXs]
  have hsz3 : z69.size = X.size := by rw [hXs]; simp [z69]
  have hbn := Blk.new W 69 z69
  have hrow := World.setRow_alloc_new W z69 X 69
  have hc2' := (hE.b.alloc (.cells X 69)).cell 2
  have hlk := (hE.m.stays (Below.heap_alloc W (.cells X 69) M hE.m.lt)).look (a := a) (by omega)
  simp only [dcs, List.getElem?_toArray, List.getElem?_cons_zero, List.getElem?_cons_succ, DS.read] at hc2' hlk
  have HE := Lib.hid hE
  have HG := Lib.hid (hF.same hG)
  have HF1 := hF.size
  have hWs : W.heap.size = w1.heap.size := by rw [hW]; simp
  have hseen : x.seen a = match placeN x.cache a x.cache.length with | some p => (x.cache.getD p (0, [])).2 | none => x.kept.getD a [] := seen_place _ _ _ _
  have HB := Lib.hid hbn
  have HX := Lib.hid hX
  have H1 := Lib.hid hrg
  have H2 := Lib.hid hsz1
  have H3 := Lib.hid hsz2
  have H4 := Lib.hid hsz3
  have H5 := Lib.hid hXa
  have H6 := Lib.hid hrow
  have HZ := Lib.hid (show w.heap.size ≤ W.heap.size by rw [hWs]; exact HF1)
  clear hrg hsz1 hsz2 hsz3 hXa hrow hX hc0a h hXs hr' hF hG hbn hfew hsec HF1 hWs
  replace hW := hW.symm
  cases hp : placeN x.cache a x.cache.length with
  | none =>
    rw [hp] at hlk hseen
    simp only [Option.getD_none, Option.isSome_none] at hlk hseen
    have HS := Lib.hid hseen
    clear hseen hE hok
    go_wp2_with (first
      | (refine wpList_load_mid rfl 69 (.tmp 33) rfl L (a * 512) rfl _ (.array 512 5) H1.out Try.underlying69 rfl H2.out ?_; rw [← HX.out])
      | (refine wpList_alloc rfl 69 rfl z69 zero69 ?_)
      | (refine wpList_store_row rfl 69 (.tmp 7) (.tmp 34) rfl W.heap.size X rfl rfl 69 z69 HB.out H3.out H4.out H5.out ?_; rw [H6.out]))
    go_ret2
    refine ⟨W.heap.size, rfl, HZ.out, ?_, ⟨L, M, v, c, HE.out.keep (T := No) ((Fr.refl W No).alloc _) fun _ _ hn => hn⟩, HG.out.alloc _⟩
    rw [HS.out, ← HX.out]
    exact Blk.new W 69 X
  | some p =>
    rw [hp] at hlk hseen
    simp only [Option.getD_some, Option.isSome_some] at hlk hseen
    have HS := Lib.hid hseen
    have hpl := place_lt _ _ _ _ hp
    have hcs : ∀ y ∈ x.cache, Sec y.2 := fun y hy => (hok.cac y hy).2
    rcases hE.r.look with ⟨rfl, e0⟩ | ⟨G, cap, cur, rfl, _, hbG, hnc, _, _, htk⟩
    · have e0 : x.cache = [] := e0
      rw [e0] at hpl
      exact absurd hpl (by simp)
    have hsec2 : Sec (x.cache.getD p (0, [])).2 := hcs _ (getD_mem hpl)
    obtain ⟨Y, hY⟩ : ∃ Y, Y = (u8s (x.cache.getD p (0, [])).2).toArray := ⟨_, rfl⟩
    have hYs : Y.size = 512 := by rw [hY, List.size_toArray, u8s_length, hsec2.1]
    have hrg2 : (W.alloc (.cells X 69)).rangeAt G (p * 513 + 1) (u8s (x.cache.getD p (0, [])).2) := rangeAt_tail (rangeAt_wc (hbG.alloc _) hcs htk hpl)
    have K1 := Lib.hid hrg2
    have K2 := Lib.hid (show (Try.prog.info? 69).map (·.size) = some (u8s (x.cache.getD p (0, [])).2).length by rw [size69, u8s_length, hsec2.1])
    have K3 := Lib.hid (show (Try.prog.info? 69).map (·.size) = some Y.size by rw [size69, hYs])
    have K4 := Lib.hid (show X.size = Y.size by rw [hYs, ← H4.out]; simp [z69])
    have K5 := Lib.hid (show Y.all (·.oneCell') = true by rw [hY]; exact u8s_all _)
    have K6 := Lib.hid (World.setRow_alloc_new W X Y 69)
    have K7 := Lib.hid (Blk.new W 69 X)
    have KY := Lib.hid hY
    have hc1' := (hE.b.alloc (.cells X 69)).cell 1
    simp only [dcs, List.getElem?_toArray, List.getElem?_cons_zero, List.getElem?_cons_succ, DS.read] at hc1'
    obtain ⟨n, hn⟩ : ∃ n, n = x.cache.length := ⟨_, rfl⟩
    have hcl : x.cache.length = n := hn.symm
    rw [hcl] at hc1'
    have hpn : (p : Int) < (n : Int) := by omega
    clear hseen hE hok hpl hcs hbG htk hsec2 hY hYs hrg2 hp hn hcl hnc
    go_wp2_with (first
      | (refine wpList_load_mid rfl 69 (.tmp 33) rfl L (a * 512) rfl _ (.array 512 5) H1.out Try.underlying69 rfl H2.out ?_; rw [← HX.out])
      | (refine wpList_alloc rfl 69 rfl z69 zero69 ?_)
      | (refine wpList_store_row rfl 69 (.tmp 7) (.tmp 34) rfl W.heap.size X rfl rfl 69 z69 HB.out H3.out H4.out H5.out ?_; rw [H6.out])
      | (refine wpList_load_mid rfl 69 (.tmp 51) rfl G (p * 513 + 1) rfl _ (.array 512 5) K1.out Try.underlying69 rfl K2.out ?_; rw [← KY.out])
      | (refine wpList_store_row rfl 69 (.tmp 7) (.tmp 52) rfl W.heap.size Y rfl rfl 69 X K7.out K3.out K4.out K5.out ?_; rw [K6.out]))
    go_ret2
    refine ⟨W.heap.size, rfl, HZ.out, ?_, ⟨L, M, _, c, HE.out.keep (T := No) ((Fr.refl W No).alloc _) fun _ _ hn => hn⟩, HG.out.alloc _⟩
    rw [HS.out, ← KY.out]
    exact Blk.new W 69 Y
end Go.Proofs.Ytjblcligkgjbjaa
