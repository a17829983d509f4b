/-
  THE WALK OF Write.
-/
import Derived.Test.YtjblcligkgjbjaaWalkF
namespace Go.Proofs.Ytjblcligkgjbjaa
open Go.RowKit Go.Sort Go.Maps

set_option maxRecDepth 100000 in
theorem read_nob (w : World) (p : Option Nat) (h : Nob w p) (n : Int) : Calls Try.prog 26 #[ptr p, .int .i64 n] w fun e w' => e = .returned (.tuple #[.slice none 0 0, .int .i64 2]) ∧ w = w' := by
  have HC := Lib.hid (has_nob w p h n)
  clear h
  go_enter Try.func26, Try.ntmps26
  go_wp2_with (go_at_call 34; refine HC.out.mono ?_; rintro e w' ⟨rfl, rfl⟩)
  go_ret2
  exact ⟨rfl, rfl⟩
set_option maxRecDepth 100000 in
theorem write_nob (w : World) (p : Option Nat) (h : Nob w p) (n : Int) (A : Option Addr) (m c : Nat) : Calls Try.prog 23 #[ptr p, .int .i64 n, .slice A m c] w fun e w' => e = .returned (.int .i64 2) ∧ w = w' := by
  have HC := Lib.hid (has_nob w p h n)
  clear h
  go_enter Try.func23, Try.ntmps23
  go_wp2_with (go_at_call 34; refine HC.out.mono ?_; rintro e w' ⟨rfl, rfl⟩)
  go_ret
  exact ⟨rfl, rfl⟩
set_option maxRecDepth 100000 in
theorem write_out (w : World) (S : Nat → Prop) (g : Nat) (d : DS) (h : DAt w S g d) (at_ : Int) (ha : at_ < 0 ∨ (d.kept.length : Int) ≤ at_) (A : Option Addr) (m c : Nat) :
    Calls Try.prog 23 #[ptr (some g), .int .i64 at_, .slice A m c] w fun e w' => e = .returned (.int .i64 2) ∧ w = w' := by
  have HC := has_any w S g d h at_
  rw [show (decide (0 ≤ at_) && decide (at_ < d.kept.length)) = false by simp; omega] at HC
  have HC := Lib.hid HC
  clear h
  go_enter Try.func23, Try.ntmps23
  go_wp2_with (go_at_call 34; refine HC.out.mono ?_; rintro e w' ⟨rfl, rfl⟩)
  go_ret
  exact ⟨rfl, rfl⟩
set_option maxRecDepth 100000 in
theorem write_arg (w : World) (S : Nat → Prop) (g : Nat) (d : DS) (h : DAt w S g d) (a : Nat) (ha : a < d.kept.length) (A : Option Addr) (m c : Nat) (hm : m ≠ 512) :
    Calls Try.prog 23 #[ptr (some g), .int .i64 (a : Int), .slice A m c] w fun e w' => e = .returned (.int .i64 1) ∧ w = w' := by
  have HC := has_any w S g d h (a : Int)
  rw [show (decide (0 ≤ (a : Int)) && decide ((a : Int) < d.kept.length)) = true by simp; omega] at HC
  have HC := Lib.hid HC
  have h1 : ((m : Int) != 512) = true := by rw [bne_iff_ne]; omega
  have h2 : ((m : Int) == 512) = false := by rw [beq_eq_false_iff_ne]; omega
  clear h
  go_enter Try.func23, Try.ntmps23
  go_wp2_with (go_at_call 34; refine HC.out.mono ?_; rintro e w' ⟨rfl, rfl⟩)
  go_ret
  exact ⟨rfl, rfl⟩
set_option maxRecDepth 100000 in
theorem write_dark (w : World) (S : Nat → Prop) (g : Nat) (d : DS) (h : DAt w S g d) (a : Nat) (ha : a < d.kept.length) (A : Option Addr) (c : Nat) (hm : d.may = false) :
    Calls Try.prog 23 #[ptr (some g), .int .i64 (a : Int), .slice A 512 c] w fun e w' => e = .returned (.int .i64 8) ∧ DAt w' S g d.next ∧ Fr w w' S := by
  have HC := has_any w S g d h (a : Int)
  rw [show (decide (0 ≤ (a : Int)) && decide ((a : Int) < d.kept.length)) = true by simp; omega] at HC
  have HC := Lib.hid HC
  have HO := operate_any w S g d h
  rw [hm] at HO
  have HO := Lib.hid HO
  clear h
  go_enter Try.func23, Try.ntmps23
  go_wp2_with (first | (go_at_call 34; refine HC.out.mono ?_; rintro e w' ⟨rfl, rfl⟩) | (go_at_call 35; refine HO.out.mono ?_; rintro e w1 ⟨rfl, hd1, hf1⟩; have HD := Lib.hid hd1; have HF := Lib.hid hf1; clear hd1 hf1; simp only [errD, Bool.false_eq_true, if_false]))
  go_ret
  exact ⟨rfl, HD.out, HF.out⟩
set_option maxRecDepth 100000 in
theorem write_some (w : World) (S : Nat → Prop) (g : Nat) (d : DS) (h : DAt w S g d) (a : Nat) (ha : a < d.kept.length) (hm : d.may = true) (T : Nat → Prop) (A : Option Addr) (c : Nat) (b : List Nat) (hr : RB w T A 512 b)
    (hT : ∀ x, T x → ¬ S x) (hlen : d.cache.length < 1000000) :
    Calls Try.prog 23 #[ptr (some g), .int .i64 (a : Int), .slice A 512 c] w fun e w' => e = .returned (.int .i64 0) ∧ DAt w' (Up S w) g (d.next.write a b) ∧ Fr w w' S := by
  have HC := has_any w S g d h (a : Int)
  rw [show (decide (0 ≤ (a : Int)) && decide ((a : Int) < d.kept.length)) = true by simp; omega] at HC
  have HC := Lib.hid HC
  have HO := operate_any w S g d h
  rw [hm] at HO
  have hdk := next_dark hm
  rw [← next_kept] at ha
  rw [← next_cache] at hlen
  have hr0 := hr
  obtain ⟨hbl, hbx, hbc⟩ := hr0
  have hsb : Sec b := ⟨hbl, hbx⟩
  clear h hm hbc
  generalize d.next = x at *
  have HO := Lib.hid HO
  have hr := Lib.hid hr
  simp only [ptr, Option.map] at HC HO ⊢
  go_enter Try.func23, Try.ntmps23
  go_wp2_with (go_at_call 34; refine HC.out.mono ?_; rintro e w' ⟨rfl, rfl⟩)
  refine HO.out.mono ?_
  rintro e w1 ⟨rfl, hD, hF⟩
  simp only [errD, if_true]
  clear HO HC
  obtain ⟨L, M, v, c0, h⟩ := hD
  have hok := h.ok
  have hr2 : IntKind.i64.wrap (x.wr + 1) = up x.wr := rfl
  obtain ⟨r', hr'⟩ : ∃ r', r' = up x.wr := ⟨_, rfl⟩
  rw [← hr'] at hr2
  obtain ⟨W, hW⟩ : ∃ W, W = w1.setCell ⟨g, 6, none⟩ (.int .i64 r') := ⟨_, rfl⟩
  obtain ⟨hE, hG⟩ := h.field (d' := { x with wr := up x.wr }) 6 (.int .i64 r') rfl rfl ⟨hok.pos, hok.few, hok.sec, hok.cac, hok.tr1, hok.tr2, hok.drk⟩ (by simp [dcs, hr']) h.t
  rw [← hW] at hE hG
  have hc6 := h.b.cell 6
  have hf6 := h.b.frozen 6
  simp only [dcs, List.getElem?_toArray, List.getElem?_cons_zero, List.getElem?_cons_succ] at hc6
  have hF2 := hF.same hG
  -- the new write's own block
  obtain ⟨C, hC⟩ : ∃ C, C = (Value.int .i64 (a : Int) :: u8s b).toArray := ⟨_, rfl⟩
  have hCs : C.size = 513 := by rw [hC]; simp [u8s_length, hbl]
  have A1 := Lib.hid (show (Try.prog.info? 72).map (·.size) = some (at72 a).size by rw [size72, at72_size])
  have A2 := Lib.hid (show z72.size = (at72 a).size by rw [z72_size, at72_size])
  have A3 := Lib.hid (at72_one a)
  have A4 := Lib.hid (Blk.new W 72 z72)
  have A5 := Lib.hid (World.setRow_alloc_new W z72 (at72 a) 72)
  have A6 := Lib.hid (Blk.new W 72 (at72 a))
  have hcop : ((at72 a).toList.take 1 ++ (u8s b ++ (at72 a).toList.drop (1 + (u8s b).length))).toArray = C := by
    rw [hC]
    have e1 : (at72 a).toList.take 1 = [.int .i64 (a : Int)] := by simp [at72]
    have e2 : (at72 a).toList.drop (1 + (u8s b).length) = [] := List.drop_eq_nil_of_le (by rw [u8s_length, hbl]; simp [at72_size])
    rw [e1, e2]
    simp
  have A7 := Lib.hid (show (W.alloc (.cells (at72 a) 72)).setRow W.heap.size ((at72 a).toList.take 1 ++ (u8s b ++ (at72 a).toList.drop (1 + (u8s b).length))).toArray = W.alloc (.cells C 72) by rw [hcop]; exact World.setRow_alloc_new W _ _ _)
  obtain ⟨ad, rfl⟩ : ∃ ad, A = some ad := by obtain ⟨_, _, h3⟩ := hr.out; obtain ⟨ad, e, _⟩ := h3 (by omega); exact ⟨ad, e⟩
  have hrW : RB (W.alloc (.cells (at72 a) 72)) T (some ad) 512 b := (hr.out.keep hF2 hT).alloc _
  have A8 := Lib.hid (hrW.cells)
  have A9 := Lib.hid (show (u8s b).length = Nat.min 512 512 by rw [u8s_length, hbl]; rfl)
  have A10 := Lib.hid (show 1 + (u8s b).length ≤ (at72 a).size by rw [u8s_length, hbl, at72_size]; omega)
  have hsz1 : (Try.prog.info? 5).map (·.size) = some 1 := by
    obtain ⟨i0, hi, hz0, hz1, hz2⟩ := info_parts info5
    simp [hi, hz1]
  have A11 := Lib.hid hsz1
  have A12 := Lib.hid (u8s_one b)
  clear hcop hrW hsz1 hr
  have HE := Lib.hid hE
  have HF2 := Lib.hid hF2
  have HCd := Lib.hid hC
  clear hE h hG hF hF2 hC hr' hok hbl hbx
  replace hW := hW.symm
  go_upto_region 9 with fail
  iterate 4 go_step
  refine wpList_build72 rfl (.tmp 30) rfl a rfl ?_
  refine wpList_alloc rfl 72 rfl z72 zero72' ?_
  go_frame
  refine wpList_store_row rfl 72 (.tmp 8) (.tmp 31) rfl W.heap.size (at72 a) rfl rfl 72 z72 A4.out A1.out A2.out A3.out ?_
  rw [A5.out]
  go_upto_region 10 with fail
  iterate 10 go_step
  refine wpList_copy_own rfl (.tmp 33) (.tmp 34) 33 33 rfl 5 Try.underlying33 A11.out W.heap.size 1 512 512 ad 512 c rfl rfl (at72 a) 72 A6.out (u8s b) A9.out A8.out A10.out A12.out ?_
  rw [A7.out]
  clear A1 A2 A3 A4 A5 A6 A7 A8 A9 A10 A11 A12
  obtain ⟨W2, hW2⟩ : ∃ W2, W2 = W.alloc (.cells C 72) := ⟨_, rfl⟩
  have hE2 : DB W2 S g { x with wr := up x.wr } L M v c0 := by rw [hW2]; exact HE.out.keep (T := No) ((Fr.refl W No).alloc _) fun _ _ hn => hn
  have hk2 : Blk W2 W.heap.size 72 C := by rw [hW2]; exact Blk.new W 72 C
  have HF3 := Lib.hid (show Fr w W2 S by rw [hW2]; exact HF2.out.alloc _)
  rw [← hW2]
  obtain ⟨Av, cap, rfl⟩ : ∃ Av cap, v = .slice Av x.cache.length cap := by
    rcases hE2.r.look with ⟨e, e2⟩ | ⟨g', cap, cur, e, _⟩
    · have e2 : x.cache = [] := e2
      rw [e2]; exact ⟨_, _, e⟩
    · exact ⟨_, _, e⟩
  obtain ⟨W3, hmu, hs3, hb3, hk3, hpush⟩ := pushed hE2 a b ha hsb hlen
  have hk3 := hk3 _ C hk2
  rw [← HCd.out, ← hs3] at hpush
  have HP := Lib.hid hpush
  have hc1 : W2.drew.cell? ⟨g, 1, none⟩ = some (.slice Av x.cache.length cap) := by have := hE2.b.cell 1; simpa [dcs] using this
  have hc2 : W2.drew.cell? ⟨g, 2, none⟩ = some (.map (some M)) := by have := hE2.b.cell 2; simpa [dcs] using this
  have hc1' : W3.cell? ⟨g, 1, none⟩ = some (.slice Av x.cache.length cap) := by have := hb3.cell 1; simpa [dcs] using this
  have hc2' : W3.cell? ⟨g, 2, none⟩ = some (.map (some M)) := by have := hb3.cell 2; simpa [dcs] using this
  have HK := Lib.hid hk3
  have hc1a : (W3.alloc (.cells C 72)).cell? ⟨g, 1, none⟩ = some (.slice Av x.cache.length cap) := by have := (hb3.alloc (.cells C 72)).cell 1; simpa [dcs] using this
  clear hs3
  have HC5 := Lib.hid hCs
  have HSZ := Lib.hid (show (Try.prog.info? 72).map (·.size) = some C.size by rw [size72, hCs])
  have HB3 := Lib.hid hb3
  have HUP := Lib.hid (show ∀ y, y < (W2.heap.size + 0) ∨ True → Up S W2 y → Up S w y from fun y _ hy => hy.imp id fun hy => Nat.le_trans HF3.out.size hy)
  clear hpush hE2 hk2 hW2 HE HF2 hc6 hf6 hr2 hsb hlen hk3 hb3 hW hdk HCd
  simp only [] at hmu
  go_upto_region 11 with fail
  go_region_held3 (fun w' => w'.cell? ⟨g, 1, none⟩ = some (.slice Av x.cache.length cap) ∧ w'.cell? ⟨g, 2, none⟩ = some (.map (some M))) (exact ⟨by assumption, by assumption⟩) (fail)
  go_upto_region 12 with fail
  refine wp_region_any (by kernel_rfl) ?_
  change wpAny _ _ _ _ _ _ _ (World.drew _)
  refine wpAny_take (i := 0) (v := ?_) rfl (by kernel_rfl) (by kernel_rfl) (by kernel_rfl) (fun _ _ _ h => h) (Or.inl ⟨by rfl, ?_⟩) ?_
  rotate_left
  · (intro wq; go_simp; try with_reducible rfl)
  refine wpAny_take (i := 1) (v := ?_) rfl (by kernel_rfl) (by kernel_rfl) (by kernel_rfl) (fun _ _ _ h => h) (Or.inl ⟨by rfl, ?_⟩) ?_
  rotate_left
  · (intro wq; go_simp; try with_reducible rfl)
  refine wpAny_take (i := 2) (v := ?_) rfl (by kernel_rfl) (by kernel_rfl) (by kernel_rfl) (fun _ _ _ h => h) (Or.inl ⟨by rfl, ?_⟩) ?_
  rotate_left
  · (intro wq; go_simp; try with_reducible rfl)
  refine wpAny_take (i := 3) (v := ?_) rfl (by kernel_rfl) (by kernel_rfl) (by kernel_rfl) (fun _ _ _ h => h) (Or.inl ⟨by rfl, ?_⟩) ?_
  rotate_left
  · (intro wq; go_simp; try with_reducible rfl)
  simp only [List.getElem_toArray, List.getElem_cons_succ, List.getElem_cons_zero, Act.put, List.setIfInBounds_toArray, List.set_cons_succ, List.set_cons_zero]
  refine wpAny_ready (rs := [4, 5]) (by kernel_rfl) (by simp) ?_
  refine AllReady.cons rfl (fun K hK => ?_) (AllReady.cons rfl (fun K hK => ?_) AllReady.nil)
  · go_simp
    refine hK _ _ ?_
    clear hK K
    refine wpAny_ready (rs := [5]) (by kernel_rfl) (by simp) ?_
    refine AllReady.cons rfl (fun K hK => ?_) AllReady.nil
    simp only [List.getElem_toArray, List.getElem_cons_succ, List.getElem_cons_zero]
    rw [if_pos (by rfl)]
    refine wp_load_row 72 (.tmp 8) rfl W.heap.size rfl 72 C (0, 0) _ HK.out Try.underlying72 rfl HSZ.out ?_
    refine hK _ _ ?_
    clear hK K
    go_frame
    refine wpAny_ready (rs := [6]) (by kernel_rfl) (by simp) ?_
    refine AllReady.cons rfl (fun K hK => ?_) AllReady.nil
    simp only [List.getElem_toArray, List.getElem_cons_succ, List.getElem_cons_zero]
    rw [if_pos (by rfl)]
    refine wp_bs72 (.tmp 51) rfl C HC5.out rfl ?_
    refine hK _ _ ?_
    clear hK K
    go_frame
    refine wpAny_ready (rs := [7]) (by kernel_rfl) (by simp) ?_
    refine AllReady.cons rfl (fun K hK => ?_) AllReady.nil
    simp only [List.getElem_toArray, List.getElem_cons_succ, List.getElem_cons_zero]
    rw [if_pos (by rfl)]
    obtain ⟨v', w4, hap, hb4, hfin⟩ := HP.out 62
    obtain ⟨A', n', c', rfl⟩ : ∃ A' n' c', v' = .slice A' n' c' := by rcases hfin.1.r.look with ⟨e, _⟩ | ⟨_, _, _, e, _⟩ <;> exact ⟨_, _, _, e⟩
    have hd1 := hb4.cell 1
    have hz1 := hb4.frozen 1
    simp only [dcs, List.getElem?_toArray, List.getElem?_cons_zero, List.getElem?_cons_succ] at hd1
    have HFIN := Lib.hid hfin
    clear hfin hb4
    refine wp_app72 (.tmp 50) (.tmp 52) rfl (.slice Av x.cache.length cap) (.slice (some ⟨W3.heap.size, 0, none⟩) 1 1) rfl rfl (.slice A' n' c') w4 hap ?_
    clear hap
    refine hK _ _ ?_
    clear hK K
    go_frame
    refine wpAny_take (i := 8) (v := ?_) rfl (by kernel_rfl) (by kernel_rfl) (by kernel_rfl) (fun _ _ _ h => h) (Or.inl ⟨by rfl, ?_⟩) ?_
    rotate_left
    · (intro wq; go_simp; try with_reducible rfl)
    refine wpAny_take (i := 9) (v := ?_) rfl (by kernel_rfl) (by kernel_rfl) (by kernel_rfl) (fun _ _ _ h => h) (Or.inl ⟨by rfl, ?_⟩) ?_
    rotate_left
    · (intro wq; go_simp; try with_reducible rfl)
    simp only [List.getElem_toArray, List.getElem_cons_succ, List.getElem_cons_zero, Act.put, List.setIfInBounds_toArray, List.set_cons_succ, List.set_cons_zero]
    refine wpAny_ready (rs := [10]) (by kernel_rfl) (by simp) ?_
    refine AllReady.cons rfl (fun K hK => ?_) AllReady.nil
    go_simp
    refine hK _ _ ?_
    clear hK K
    refine wpAny_done (by kernel_rfl) ?_ _
    go_wp2
    go_ret
    exact ⟨rfl, ⟨L, M, _, c0, HFIN.out.1.mono fun y hy => HUP.out y (Or.inr trivial)⟩, HF3.out.trans HFIN.out.2 fun _ hx => Or.inl hx⟩
  · simp only [List.getElem_toArray, List.getElem_cons_succ, List.getElem_cons_zero]
    rw [if_pos (by rfl)]
    refine wp_load_row 72 (.tmp 8) rfl W.heap.size rfl 72 C (0, 0) _ HK.out Try.underlying72 rfl HSZ.out ?_
    refine hK _ _ ?_
    clear hK K
    go_frame
    refine wpAny_ready (rs := [4, 6]) (by kernel_rfl) (by simp) ?_
    refine AllReady.cons rfl (fun K hK => ?_) (AllReady.cons rfl (fun K hK => ?_) AllReady.nil)
    · go_simp
      refine hK _ _ ?_
      clear hK K
      refine wpAny_ready (rs := [6]) (by kernel_rfl) (by simp) ?_
      refine AllReady.cons rfl (fun K hK => ?_) AllReady.nil
      simp only [List.getElem_toArray, List.getElem_cons_succ, List.getElem_cons_zero]
      rw [if_pos (by rfl)]
      refine wp_bs72 (.tmp 51) rfl C HC5.out rfl ?_
      refine hK _ _ ?_
      clear hK K
      go_frame
      refine wpAny_ready (rs := [7]) (by kernel_rfl) (by simp) ?_
      refine AllReady.cons rfl (fun K hK => ?_) AllReady.nil
      simp only [List.getElem_toArray, List.getElem_cons_succ, List.getElem_cons_zero]
      rw [if_pos (by rfl)]
      obtain ⟨v', w4, hap, hb4, hfin⟩ := HP.out 62
      obtain ⟨A', n', c', rfl⟩ : ∃ A' n' c', v' = .slice A' n' c' := by rcases hfin.1.r.look with ⟨e, _⟩ | ⟨_, _, _, e, _⟩ <;> exact ⟨_, _, _, e⟩
      have hd1 := hb4.cell 1
      have hz1 := hb4.frozen 1
      simp only [dcs, List.getElem?_toArray, List.getElem?_cons_zero, List.getElem?_cons_succ] at hd1
      have HFIN := Lib.hid hfin
      clear hfin hb4
      refine wp_app72 (.tmp 50) (.tmp 52) rfl (.slice Av x.cache.length cap) (.slice (some ⟨W3.heap.size, 0, none⟩) 1 1) rfl rfl (.slice A' n' c') w4 hap ?_
      clear hap
      refine hK _ _ ?_
      clear hK K
      go_frame
      refine wpAny_take (i := 8) (v := ?_) rfl (by kernel_rfl) (by kernel_rfl) (by kernel_rfl) (fun _ _ _ h => h) (Or.inl ⟨by rfl, ?_⟩) ?_
      rotate_left
      · (intro wq; go_simp; try with_reducible rfl)
      refine wpAny_take (i := 9) (v := ?_) rfl (by kernel_rfl) (by kernel_rfl) (by kernel_rfl) (fun _ _ _ h => h) (Or.inl ⟨by rfl, ?_⟩) ?_
      rotate_left
      · (intro wq; go_simp; try with_reducible rfl)
      simp only [List.getElem_toArray, List.getElem_cons_succ, List.getElem_cons_zero, Act.put, List.setIfInBounds_toArray, List.set_cons_succ, List.set_cons_zero]
      refine wpAny_ready (rs := [10]) (by kernel_rfl) (by simp) ?_
      refine AllReady.cons rfl (fun K hK => ?_) AllReady.nil
      go_simp
      refine hK _ _ ?_
      clear hK K
      refine wpAny_done (by kernel_rfl) ?_ _
      go_wp2
      go_ret
      exact ⟨rfl, ⟨L, M, _, c0, HFIN.out.1.mono fun y hy => HUP.out y (Or.inr trivial)⟩, HF3.out.trans HFIN.out.2 fun _ hx => Or.inl hx⟩
    · simp only [List.getElem_toArray, List.getElem_cons_succ, List.getElem_cons_zero]
      rw [if_pos (by rfl)]
      refine wp_bs72 (.tmp 51) rfl C HC5.out rfl ?_
      refine hK _ _ ?_
      clear hK K
      go_frame
      refine wpAny_ready (rs := [4]) (by kernel_rfl) (by simp) ?_
      refine AllReady.cons rfl (fun K hK => ?_) AllReady.nil
      go_simp
      refine hK _ _ ?_
      clear hK K
      refine wpAny_ready (rs := [7]) (by kernel_rfl) (by simp) ?_
      refine AllReady.cons rfl (fun K hK => ?_) AllReady.nil
      simp only [List.getElem_toArray, List.getElem_cons_succ, List.getElem_cons_zero]
      rw [if_pos (by rfl)]
      obtain ⟨v', w4, hap, hb4, hfin⟩ := HP.out 62
      obtain ⟨A', n', c', rfl⟩ : ∃ A' n' c', v' = .slice A' n' c' := by rcases hfin.1.r.look with ⟨e, _⟩ | ⟨_, _, _, e, _⟩ <;> exact ⟨_, _, _, e⟩
      have hd1 := hb4.cell 1
      have hz1 := hb4.frozen 1
      simp only [dcs, List.getElem?_toArray, List.getElem?_cons_zero, List.getElem?_cons_succ] at hd1
      have HFIN := Lib.hid hfin
      clear hfin hb4
      refine wp_app72 (.tmp 50) (.tmp 52) rfl (.slice Av x.cache.length cap) (.slice (some ⟨W3.heap.size, 0, none⟩) 1 1) rfl rfl (.slice A' n' c') w4 hap ?_
      clear hap
      refine hK _ _ ?_
      clear hK K
      go_frame
      refine wpAny_take (i := 8) (v := ?_) rfl (by kernel_rfl) (by kernel_rfl) (by kernel_rfl) (fun _ _ _ h => h) (Or.inl ⟨by rfl, ?_⟩) ?_
      rotate_left
      · (intro wq; go_simp; try with_reducible rfl)
      refine wpAny_take (i := 9) (v := ?_) rfl (by kernel_rfl) (by kernel_rfl) (by kernel_rfl) (fun _ _ _ h => h) (Or.inl ⟨by rfl, ?_⟩) ?_
      rotate_left
      · (intro wq; go_simp; try with_reducible rfl)
      simp only [List.getElem_toArray, List.getElem_cons_succ, List.getElem_cons_zero, Act.put, List.setIfInBounds_toArray, List.set_cons_succ, List.set_cons_zero]
      refine wpAny_ready (rs := [10]) (by kernel_rfl) (by simp) ?_
      refine AllReady.cons rfl (fun K hK => ?_) AllReady.nil
      go_simp
      refine hK _ _ ?_
      clear hK K
      refine wpAny_done (by kernel_rfl) ?_ _
      go_wp2
      go_ret
      exact ⟨rfl, ⟨L, M, _, c0, HFIN.out.1.mono fun y hy => HUP.out y (Or.inr trivial)⟩, HF3.out.trans HFIN.out.2 fun _ hx => Or.inl hx⟩
end Go.Proofs.Ytjblcligkgjbjaa
