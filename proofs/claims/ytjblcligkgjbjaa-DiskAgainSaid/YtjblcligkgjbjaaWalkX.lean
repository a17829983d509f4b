/-
  THE DOCUMENT'S DISK: THE WALKS OF Image, New.
-/
import Derived.Test.YtjblcligkgjbjaaWalkW
namespace Go.Proofs.Ytjblcligkgjbjaa
open Go.RowKit Go.Sort Go.Maps

set_option maxRecDepth 100000 in
theorem rimage_any (w : World) (S T : Nat → Prop) (g : Nat) (d : DS) (h : RAt w S T g d) :
    Calls Try.prog 19 #[ptr (some g)] w fun e w' => ∃ v, e = .returned v ∧ New w w' v d.image ∧ Fr w w' No := by
  obtain ⟨vk, vc, h⟩ := h
  have hfew := h.ok.few
  have hsec := h.ok.sec
  obtain ⟨n, hn⟩ : ∃ n, n = d.kept.length := ⟨_, rfl⟩
  rw [← hn] at hfew
  obtain ⟨Ak, ck, hvk, _⟩ := h.k.look
  rw [← hn] at hvk
  subst hvk
  have HB := Lib.hid h
  have HN := Lib.hid hn
  have HQ := Lib.hid hsec
  simp only [ptr, Option.map]
  clear h hn hsec
  go_enter Try.func19, Try.ntmps19
  go_wp2_with fail
  go_loopw [4, 3] (fun u v wr => ∃ i : Nat, u = .int .i64 (i : Int) ∧ i ≤ n ∧ Ow wr (fun b => w.heap.size ≤ b) v (i * 512) (d.kept.take i).flatten ∧ Fr w wr No) (fun u _ _ => n - (intOf u).toNat)
  case atStart => exact ⟨0, rfl, by omega, by simpa using Ow.nil_ _ _, Fr.refl _ _⟩
  case round =>
    obtain ⟨i, rfl, hi, ho, hf⟩ := hrel
    have hDi := HB.out.keep hf (fun _ _ hn => hn) fun _ _ hn => hn
    have hci := hDi.b.cell 0
    simp only [rcs, List.getElem?_toArray, List.getElem?_cons_zero] at hci
    have HO := Lib.hid ho
    have HF := Lib.hid hf
    have hsz := hf.size
    clear ho hf
    by_cases hlt : i < n
    · have h1 : ((i : Int) < (n : Int)) := by omega
      have hlk : i < d.kept.length := by rw [← HN.out]; exact hlt
      have hs := HQ.out _ (getD_mem (z := ([] : List Nat)) hlk)
      have hWn : IntKind.i64.wrap ((i : Int) + 1) = ((i + 1 : Nat) : Int) := by rw [IntWalk.i64_in _ (by omega)]; omega
      have htk : (d.kept.take i).flatten ++ d.kept.getD i [] = (d.kept.take (i + 1)).flatten := by
        rw [List.take_succ_eq_append_getElem hlk, List.flatten_append]
        simp [hlk]
      obtain ⟨A2, c2, hv2, hl2⟩ := hDi.k.look
      obtain ⟨G, x, hA2, hxc, hsl⟩ := hl2 i (d.kept.getD i []) (by simp [List.getD, hlk])
      injection hv2 with hv3 hv4 hv5
      rw [hA2] at hv3
      subst hv3
      obtain ⟨Ax, cx, hxe, hrb⟩ := hsl
      subst hxe
      rw [hs.1] at hrb hxc
      have HRB := Lib.hid hrb
      have HTK := Lib.hid htk
      clear hrb htk hs hDi hlk hl2 hA2 hv4 hv5
      go_wp2_with (at_builtin; go_must (refine wpList_app rfl (.tmp 14) (.tmp 21) rfl _ (i * 512) (d.kept.take i).flatten rfl HO.out T Ax 512 cx (d.kept.getD i []) rfl HRB.out (by omega) ?_); intro v1 w1 hown hgrow; have HS := Lib.hid hown; have HG := Lib.hid (HF.out.grown hgrow fun k hk => Or.inr (HO.out.2.2 k hk)); clear hown hgrow)
      go_roundw
      case rel =>
        refine ⟨i + 1, by go_num, by omega, ?_, HG.out⟩
        have h := HS.out
        rw [HTK.out, show i * 512 + 512 = (i + 1) * 512 by omega] at h
        exact h.mono fun b _ hb => hb.elim id fun hb => Nat.le_trans hsz hb
      case measure => simp [intOf]; omega
    · have h1d : decide ((i : Int) < (n : Int)) = false := decide_eq_false (by omega)
      have h1d2 : decide (i < n) = false := decide_eq_false hlt
      have HI := Lib.hid (show i = n by omega)
      clear hDi
      go_wp2
      go_ret
      refine ⟨_, rfl, ?_, HF.out⟩
      have h := HO.out
      rw [HI.out] at h
      unfold New
      show Ow wr _ _ d.kept.flatten.length d.kept.flatten
      rw [flat_len HQ.out, ← HN.out]
      rw [HN.out, List.take_length] at h
      rw [HN.out]
      exact h

set_option maxRecDepth 100000 in
theorem run_mk33 (w : World) : (Instr.makeSlice 33 (.int .i64 512) (.int .i64 512)).run Try.prog w = .ok (.slice (some ⟨w.heap.size, 0, none⟩) 512 512) (w.alloc (.cells (u8s zsec).toArray 5)) := by
  obtain ⟨i0, hi, hz0, hz1, hz2⟩ := info_parts info5
  have := run_make (P := Try.prog) w 33 5 i0 _ Try.underlying33 hi hz0 .i64 .i64 512 512 (by omega) (Int.le_refl _) (by rw [hz2]; omega) (by omega)
  rw [this, hz1]
  have hmm : madeCells (Value.cells (.int .u8 0)) 512 = (u8s zsec).toArray := (made_rep (.int .u8 0) 1 512 (by decide)).trans (by rw [u8s, zsec, List.map_replicate, List.toArray_replicate]; rfl)
  show Result.ok _ (w.alloc (.cells (madeCells (Value.cells (.int .u8 0)) 512) _)) = _
  rw [hmm]
  rfl
/-- a disk in the making -/
structure RM (w0 w : World) (S T : Nat → Prop) (g n : Nat) (v : Value) : Prop where
  sg : S g
  b : Blk w g 42 #[v, .slice none 0 0, .int .i64 (-1), .bool false, .int .i64 0, .int .i64 0, .int .i64 0]
  k : Row w S T v (List.replicate n zsec)
  st : ∀ x, T x → ¬ S x
  tl : ∀ x, T x → x < w.heap.size
  sl : ∀ x, S x → x < w.heap.size
  s0 : ∀ x, S x → w0.heap.size ≤ x
  t0 : ∀ x, T x → w0.heap.size ≤ x
  bl : Below w0.heap.size w0 w
set_option maxRecDepth 100000 in
theorem SL.grown {w w' : World} {T : Nat → Prop} {x : Value} {l : List Nat} {row : Option Nat} (h : SL w T x l) (hg : w.grownBy w' row) (hn : ∀ q, row = some q → ¬ T q) : SL w' T x l := by
  obtain ⟨A, c, e, hr⟩ := h
  exact ⟨A, c, e, hr.move hg.size fun p hp hS => World.cell?_of_block (hg.block _ hp fun e => hn _ e.symm hS)⟩
set_option maxRecDepth 100000 in
/-- one sector more -/
theorem RM.more {w0 w : World} {S T : Nat → Prop} {g n : Nat} {v : Value} (h : RM w0 w S T g n v) (hn : n < 1000000) (ty : TypeId) :
    ∃ v' w4, (Builtin.append_ #[37, 37] ty #[v, .slice (some ⟨w.heap.size + 1, 0, none⟩) 1 1]).run Try.prog ((w.alloc (.cells (u8s zsec).toArray 5)).alloc (.cells #[.slice (some ⟨w.heap.size, 0, none⟩) 512 512] 33)) = .ok v' w4 ∧ (∃ A n' c, v' = .slice A n' c) ∧
      Blk w4 g 42 #[v, .slice none 0 0, .int .i64 (-1), .bool false, .int .i64 0, .int .i64 0, .int .i64 0] ∧ ∃ S' T', RM w0 (w4.setCell ⟨g, 0, none⟩ v') S' T' g (n + 1) v' := by
  obtain ⟨x1, hx1⟩ : ∃ x1, x1 = w.alloc (.cells (u8s zsec).toArray 5) := ⟨_, rfl⟩
  obtain ⟨x2, hx2⟩ : ∃ x2, x2 = x1.alloc (.cells #[.slice (some ⟨w.heap.size, 0, none⟩) 512 512] 33) := ⟨_, rfl⟩
  have hf1 : Fr w x1 No := by rw [hx1]; exact (Fr.refl _ _).alloc _
  have hf2 : Fr w x2 No := by rw [hx2]; exact hf1.alloc _
  have hz1 : x1.heap.size = w.heap.size + 1 := by rw [hx1]; simp
  have hz2 : x2.heap.size = w.heap.size + 2 := by rw [hx2]; simp [hz1]
  have hbz : Blk x1 w.heap.size 5 (u8s zsec).toArray := by rw [hx1]; exact Blk.new w 5 _
  have hbz2 : Blk x2 w.heap.size 5 (u8s zsec).toArray := by rw [hx2]; exact hbz.alloc _
  have hG : Blk x2 x1.heap.size 33 #[.slice (some ⟨w.heap.size, 0, none⟩) 512 512] := by rw [hx2]; exact Blk.new x1 33 _
  obtain ⟨U, hU⟩ : ∃ U : Nat → Prop, U = fun q => T q ∨ q = w.heap.size := ⟨_, rfl⟩
  have hsl : SL x2 U (.slice (some ⟨w.heap.size, 0, none⟩) 512 512) zsec := ⟨some ⟨w.heap.size, 0, none⟩, 512, by rw [Sec.zero.1], by rw [Sec.zero.1]; exact RB.of_blk hbz2 (by rw [hU]; exact Or.inr rfl) Sec.zero.2 Sec.zero.1⟩
  have hUS : ∀ q, U q → ¬ S q := by
    intro q hq hS
    rw [hU] at hq
    rcases hq with hq | hq
    · exact h.st q hq hS
    · have := h.sl q hS; omega
  have hUl : ∀ q, U q → q < w.heap.size + 1 := by
    intro q hq
    rw [hU] at hq
    rcases hq with hq | hq
    · have := h.tl q hq; omega
    · omega
  have hk2 : Row x2 S U v (List.replicate n zsec) := (h.k.stays (w' := x2) (fun q hq => hf2.block q (h.k.lt hq) fun hn => hn) fun _ _ hs => hs.keep hf2 fun _ _ hn => hn).mono (fun _ _ h => h) fun q _ hq => by rw [hU]; exact Or.inl hq
  have hb2 := h.b.keep hf2 fun hn => hn
  obtain ⟨v', w4, hrun, hrow, hgr, hat, A', c', hsh⟩ := run_app37 ty hk2 _ zsec hsl rfl x1.heap.size hG (by simpa using hn) hUS
  rw [← hx1, ← hx2]
  rw [hz1] at hrun
  have hb4 := hb2.grown hgr fun e => hk2.own_ne hb2 (by decide) e.symm
  have hT5 : ∀ y m, SL w4 U y m → SL (w4.setCell ⟨g, 0, none⟩ v') U y m := fun y m hs => hs.keep (U := fun q => q = g) (Fr.setCell (S := fun q => q = g) (Fr.refl w4 _) (p := ⟨g, 0, none⟩) (Or.inl rfl) _) fun q hq e => hUS q hq (e ▸ h.sg)
  have hg4 := hgr.size
  refine ⟨v', w4, hrun, ⟨A', _, c', hsh⟩, hb4, fun q => Up S x2 q ∧ q < w4.heap.size, U, ⟨Or.inl h.sg, hb4.lt⟩, ?_, ?_, ?_, ?_, ?_, ?_, ?_, ?_⟩
  · have := hb4.set_ 0 v'
    simpa using this
  · have e : List.replicate (n + 1) zsec = List.replicate n zsec ++ [zsec] := List.replicate_succ'
    rw [e]
    exact (hrow.stays (fun q hq => Below.heap_setCell w4 ⟨g, 0, none⟩ v' q (show q ≠ g from fun e => hrow.own_ne hb4 (by decide) (e ▸ hq))) hT5).mono (fun q hq hS => ⟨hS, by simpa using hq⟩) fun _ _ h => h
  · intro q hq hn
    rcases hn.1 with hn | hn
    · exact hUS q hq hn
    · have := hUl q hq; omega
  · intro q hq; have := hUl q hq; simp; omega
  · intro q hq; simpa using hq.2
  · intro q hq; rcases hq.1 with hq | hq
    · exact h.s0 q hq
    · have := h.bl.size; omega
  · intro q hq; rw [hU] at hq; rcases hq with hq | hq
    · exact h.t0 q hq
    · have := h.bl.size; omega
  · have hfr : Fr w (w4.setCell ⟨g, 0, none⟩ v') S := ((hf2.mono fun _ _ hn => hn.elim).grown hgr fun q hq => Or.inl (hk2.o hq)).setCell (Or.inl h.sg) _
    exact h.bl.trans (hfr.below h.s0 h.bl.size)
set_option maxRecDepth 100000 in
theorem RM.drew {w0 w : World} {S T : Nat → Prop} {g n : Nat} {v : Value} (h : RM w0 w S T g n v) : RM w0 w.drew S T g n v :=
  ⟨h.sg, h.b, h.k.stays (fun _ _ => rfl) fun _ _ hs => hs.keep (U := No) (Fr.refl w No).drew fun _ _ hn => hn, h.st, h.tl, h.sl, h.s0, h.t0, h.bl.trans ((Fr.refl w No).drew.below (fun _ hn => hn.elim) h.bl.size)⟩
set_option maxHeartbeats 1000000 in
set_option maxRecDepth 100000 in
theorem rnew_any (n : Nat) (hn : 0 < n) (hn2 : n ≤ 8192) (w : World) :
    Calls Try.prog 13 #[.int .i64 (n : Int)] w fun e w' => ∃ g S T, e = .returned (ptr (some g)) ∧ RAt w' S T g (DS.new n) ∧ (∀ q, S q → w.heap.size ≤ q) ∧ (∀ q, T q → w.heap.size ≤ q) ∧ Below w.heap.size w w' := by
  have hlo : decide ((n : Int) < 1) = false := decide_eq_false (by omega)
  have hlo2 : decide (n < 1) = false := decide_eq_false (by omega)
  have hhi : decide ((n : Int) > 8192) = false := decide_eq_false (by omega)
  have hhi2 : decide (8192 < n) = false := decide_eq_false (by omega)
  have HM : Hid (RM w (w.alloc (.cells #[.slice none 0 0, .slice none 0 0, .int .i64 (-1), .bool false, .int .i64 0, .int .i64 0, .int .i64 0] 42)) (fun q => q = w.heap.size) No w.heap.size 0 (.slice none 0 0)) :=
    ⟨rfl, Blk.new w 42 _, Row.nil_ _ _ _, fun _ hn => hn.elim, fun _ hn => hn.elim, fun q hq => by rw [hq]; simp, fun q hq => by rw [hq]; exact Nat.le_refl _, fun _ hn => hn.elim, ((Fr.refl w No).alloc _).no_below⟩
  go_enter Try.func13, Try.ntmps13
  go_wp2_with fail
  go_loopw [4] (fun u wr => ∃ (i : Nat) (S T : Nat → Prop) (v : Value), u = .int .i64 (i : Int) ∧ i ≤ n ∧ RM w wr S T w.heap.size i v) (fun u _ => n - (intOf u).toNat)
  case atStart => exact ⟨0, _, _, _, rfl, Nat.zero_le _, HM.out⟩
  case round =>
    clear HM
    obtain ⟨i, S, T, v, rfl, hi, hm⟩ := hrel
    by_cases hlt : i < n
    · have h1 : ((i : Int) < (n : Int)) := by omega
      have hWn : IntKind.i64.wrap ((i : Int) + 1) = ((i + 1 : Nat) : Int) := by rw [IntWalk.i64_in _ (by omega)]; omega
      have hmd := hm.drew
      obtain ⟨W, hW⟩ : ∃ W, W = wr.drew := ⟨_, rfl⟩
      rw [← hW] at hmd
      obtain ⟨A, nv, c, hv, _⟩ : ∃ A nv c, v = .slice A nv c ∧ True := by obtain ⟨A, c, e, _⟩ := hm.k.look; exact ⟨_, _, _, e, trivial⟩
      subst hv
      obtain ⟨v', w4, hap, ⟨A', n', c', rfl⟩, hb4, S', T', hm4⟩ := hmd.more (show i < 1000000 by omega) 37
      have c0 := hmd.b.cell 0
      have c1 := (hmd.b.alloc (.cells (u8s zsec).toArray 5)).cell 0
      have c2 := ((hmd.b.alloc (.cells (u8s zsec).toArray 5)).alloc (.cells #[.slice (some ⟨W.heap.size, 0, none⟩) 512 512] 33)).cell 0
      have c4 := hb4.cell 0
      have f4 := hb4.frozen 0
      simp only [List.getElem?_toArray, List.getElem?_cons_zero] at c0 c1 c2 c4
      have hmk := run_mk33 W
      have HAP := Lib.hid hap
      have HM4 := Lib.hid hm4
      clear hap hm4 hb4 hmd hm
      generalize hgz : w.heap.size = z at *
      replace hW := hW.symm
      go_upto_region 7 with fail
      refine wp_region_held_drew (S := fun _ => True) (by kernel_rfl) trivial (fun hS => ?_)
      rw [hW]
      refine wpAnyH_take (i := 0) (v := ?_) rfl (by kernel_rfl) (by kernel_rfl) (by kernel_rfl) (fun _ _ _ h => h) (Or.inl ⟨by rfl, ?_⟩) hS ?_
      rotate_left
      · (intro wq hSw; clear hSw; go_simp; try with_reducible rfl)
      refine wpAnyH_take (i := 1) (v := ?_) rfl (by kernel_rfl) (by kernel_rfl) (by kernel_rfl) (fun _ _ _ h => h) (Or.inl ⟨by rfl, ?_⟩) hS ?_
      rotate_left
      · (intro wq hSw; clear hSw; go_simp; try with_reducible rfl)
      simp only [List.getElem_toArray, List.getElem_cons_succ, List.getElem_cons_zero, Act.put, List.setIfInBounds_toArray, List.set_cons_succ, List.set_cons_zero]
      refine wpAnyH_take (i := 2) (v := ?_) rfl (by kernel_rfl) (by kernel_rfl) (by kernel_rfl) (fun _ _ _ h => h) (Or.inl ⟨by rfl, ?_⟩) hS ?_
      rotate_left
      · (intro wq hSw; clear hSw; go_simp; try with_reducible rfl)
      simp only [List.getElem_toArray, List.getElem_cons_succ, List.getElem_cons_zero, Act.put, List.setIfInBounds_toArray, List.set_cons_succ, List.set_cons_zero]
      refine wpAnyH_take (i := 3) (v := ?_) rfl (by kernel_rfl) (by kernel_rfl) (by kernel_rfl) (fun _ _ _ h => h) (Or.inl ⟨by rfl, ?_⟩) hS ?_
      rotate_left
      · (intro wq hSw; clear hSw; go_simp; try with_reducible rfl)
      simp only [List.getElem_toArray, List.getElem_cons_succ, List.getElem_cons_zero, Act.put, List.setIfInBounds_toArray, List.set_cons_succ, List.set_cons_zero]
      refine wpAnyH_ready (rs := [4, 5]) (by kernel_rfl) (by simp) ?_
      refine AllReadyH.cons rfl (fun K hK => ?_) (AllReadyH.cons rfl (fun K hK => ?_) AllReadyH.nil)
      · go_simp
        refine hK.out _ _ trivial (fun hS => ?_)
        clear hK K
        refine wpAnyH_ready (rs := [5]) (by kernel_rfl) (by simp) ?_
        refine AllReadyH.cons rfl (fun K hK => ?_) AllReadyH.nil
        go_simp
        refine hK.out _ _ trivial (fun hS => ?_)
        clear hK K
        refine wpAnyH_ready (rs := [6]) (by kernel_rfl) (by simp) ?_
        refine AllReadyH.cons rfl (fun K hK => ?_) AllReadyH.nil
        go_simp
        refine hK.out _ _ trivial (fun hS => ?_)
        clear hK K
        refine wpAnyH_ready (rs := [7]) (by kernel_rfl) (by simp) ?_
        refine AllReadyH.cons rfl (fun K hK => ?_) AllReadyH.nil
        simp only [List.getElem_toArray, List.getElem_cons_succ, List.getElem_cons_zero]
        rw [if_pos (by rfl)]
        refine wp_app37 (.tmp 22) (.tmp 24) rfl (.slice A nv c) (.slice (some ⟨W.heap.size + 1, 0, none⟩) 1 1) rfl (by first | rfl | simp [go_sem]) (.slice A' n' c') w4 HAP.out ?_
        refine hK.out _ _ trivial (fun hS => ?_)
        clear hK K
        go_frame
        refine wpAnyH_take (i := 8) (v := ?_) rfl (by kernel_rfl) (by kernel_rfl) (by kernel_rfl) (fun _ _ _ h => h) (Or.inl ⟨by rfl, ?_⟩) hS ?_
        rotate_left
        · (intro wq hSw; clear hSw; go_simp; try with_reducible rfl)
        simp only [List.getElem_toArray, List.getElem_cons_succ, List.getElem_cons_zero, Act.put, List.setIfInBounds_toArray, List.set_cons_succ, List.set_cons_zero]
        refine wpAnyH_take (i := 9) (v := ?_) rfl (by kernel_rfl) (by kernel_rfl) (by kernel_rfl) (fun _ _ _ h => h) (Or.inl ⟨by rfl, ?_⟩) hS ?_
        rotate_left
        · (intro wq hSw; clear hSw; go_simp; try with_reducible rfl)
        simp only [List.getElem_toArray, List.getElem_cons_succ, List.getElem_cons_zero, Act.put, List.setIfInBounds_toArray, List.set_cons_succ, List.set_cons_zero]
        refine wpAnyH_ready (rs := [10]) (by kernel_rfl) (by simp) ?_
        refine AllReadyH.cons rfl (fun K hK => ?_) AllReadyH.nil
        go_simp
        refine hK.out _ _ trivial (fun hS => ?_)
        clear hK K
        refine wpAnyH_done (by kernel_rfl) ?_ _
        clear hS
        go_wp2_with fail
        go_roundw
        case rel => exact ⟨i + 1, S', T', _, by go_num, by omega, HM4.out⟩
        case measure => simp [intOf]; omega
      · go_simp
        refine hK.out _ _ trivial (fun hS => ?_)
        clear hK K
        refine wpAnyH_ready (rs := [4, 6]) (by kernel_rfl) (by simp) ?_
        refine AllReadyH.cons rfl (fun K hK => ?_) (AllReadyH.cons rfl (fun K hK => ?_) AllReadyH.nil)
        · go_simp
          refine hK.out _ _ trivial (fun hS => ?_)
          clear hK K
          refine wpAnyH_ready (rs := [6]) (by kernel_rfl) (by simp) ?_
          refine AllReadyH.cons rfl (fun K hK => ?_) AllReadyH.nil
          go_simp
          refine hK.out _ _ trivial (fun hS => ?_)
          clear hK K
          refine wpAnyH_ready (rs := [7]) (by kernel_rfl) (by simp) ?_
          refine AllReadyH.cons rfl (fun K hK => ?_) AllReadyH.nil
          simp only [List.getElem_toArray, List.getElem_cons_succ, List.getElem_cons_zero]
          rw [if_pos (by rfl)]
          refine wp_app37 (.tmp 22) (.tmp 24) rfl (.slice A nv c) (.slice (some ⟨W.heap.size + 1, 0, none⟩) 1 1) rfl (by first | rfl | simp [go_sem]) (.slice A' n' c') w4 HAP.out ?_
          refine hK.out _ _ trivial (fun hS => ?_)
          clear hK K
          go_frame
          refine wpAnyH_take (i := 8) (v := ?_) rfl (by kernel_rfl) (by kernel_rfl) (by kernel_rfl) (fun _ _ _ h => h) (Or.inl ⟨by rfl, ?_⟩) hS ?_
          rotate_left
          · (intro wq hSw; clear hSw; go_simp; try with_reducible rfl)
          simp only [List.getElem_toArray, List.getElem_cons_succ, List.getElem_cons_zero, Act.put, List.setIfInBounds_toArray, List.set_cons_succ, List.set_cons_zero]
          refine wpAnyH_take (i := 9) (v := ?_) rfl (by kernel_rfl) (by kernel_rfl) (by kernel_rfl) (fun _ _ _ h => h) (Or.inl ⟨by rfl, ?_⟩) hS ?_
          rotate_left
          · (intro wq hSw; clear hSw; go_simp; try with_reducible rfl)
          simp only [List.getElem_toArray, List.getElem_cons_succ, List.getElem_cons_zero, Act.put, List.setIfInBounds_toArray, List.set_cons_succ, List.set_cons_zero]
          refine wpAnyH_ready (rs := [10]) (by kernel_rfl) (by simp) ?_
          refine AllReadyH.cons rfl (fun K hK => ?_) AllReadyH.nil
          go_simp
          refine hK.out _ _ trivial (fun hS => ?_)
          clear hK K
          refine wpAnyH_done (by kernel_rfl) ?_ _
          clear hS
          go_wp2_with fail
          go_roundw
          case rel => exact ⟨i + 1, S', T', _, by go_num, by omega, HM4.out⟩
          case measure => simp [intOf]; omega
        · go_simp
          refine hK.out _ _ trivial (fun hS => ?_)
          clear hK K
          refine wpAnyH_ready (rs := [4]) (by kernel_rfl) (by simp) ?_
          refine AllReadyH.cons rfl (fun K hK => ?_) AllReadyH.nil
          go_simp
          refine hK.out _ _ trivial (fun hS => ?_)
          clear hK K
          refine wpAnyH_ready (rs := [7]) (by kernel_rfl) (by simp) ?_
          refine AllReadyH.cons rfl (fun K hK => ?_) AllReadyH.nil
          simp only [List.getElem_toArray, List.getElem_cons_succ, List.getElem_cons_zero]
          rw [if_pos (by rfl)]
          refine wp_app37 (.tmp 22) (.tmp 24) rfl (.slice A nv c) (.slice (some ⟨W.heap.size + 1, 0, none⟩) 1 1) rfl (by first | rfl | simp [go_sem]) (.slice A' n' c') w4 HAP.out ?_
          refine hK.out _ _ trivial (fun hS => ?_)
          clear hK K
          go_frame
          refine wpAnyH_take (i := 8) (v := ?_) rfl (by kernel_rfl) (by kernel_rfl) (by kernel_rfl) (fun _ _ _ h => h) (Or.inl ⟨by rfl, ?_⟩) hS ?_
          rotate_left
          · (intro wq hSw; clear hSw; go_simp; try with_reducible rfl)
          simp only [List.getElem_toArray, List.getElem_cons_succ, List.getElem_cons_zero, Act.put, List.setIfInBounds_toArray, List.set_cons_succ, List.set_cons_zero]
          refine wpAnyH_take (i := 9) (v := ?_) rfl (by kernel_rfl) (by kernel_rfl) (by kernel_rfl) (fun _ _ _ h => h) (Or.inl ⟨by rfl, ?_⟩) hS ?_
          rotate_left
          · (intro wq hSw; clear hSw; go_simp; try with_reducible rfl)
          simp only [List.getElem_toArray, List.getElem_cons_succ, List.getElem_cons_zero, Act.put, List.setIfInBounds_toArray, List.set_cons_succ, List.set_cons_zero]
          refine wpAnyH_ready (rs := [10]) (by kernel_rfl) (by simp) ?_
          refine AllReadyH.cons rfl (fun K hK => ?_) AllReadyH.nil
          go_simp
          refine hK.out _ _ trivial (fun hS => ?_)
          clear hK K
          refine wpAnyH_done (by kernel_rfl) ?_ _
          clear hS
          go_wp2_with fail
          go_roundw
          case rel => exact ⟨i + 1, S', T', _, by go_num, by omega, HM4.out⟩
          case measure => simp [intOf]; omega
    · have h1d : decide ((i : Int) < (n : Int)) = false := decide_eq_false (by omega)
      have h1d2 : decide (i < n) = false := decide_eq_false hlt
      have HI := Lib.hid (show i = n by omega)
      have HM := Lib.hid hm
      clear hm
      go_wp2_with fail
      go_ret
      have h := HM.out
      rw [HI.out] at h
      exact ⟨w.heap.size, S, T, rfl, ⟨v, .slice none 0 0, h.sg, DS.new_ok hn hn2, h.b, h.k, CW.nil_ _ _ _, h.st, h.tl, h.sl⟩, h.s0, h.t0, h.bl⟩
end Go.Proofs.Ytjblcligkgjbjaa
